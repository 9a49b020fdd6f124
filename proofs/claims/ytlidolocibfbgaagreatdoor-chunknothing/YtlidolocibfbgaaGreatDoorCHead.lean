import Derived.Test.YtlidolocibfbgaaGreatDoorCSort
import Derived.Test.YtlidolocibfbgaaGreatDoorCCat
import Derived.Test.YtlidolocibfbgaaGreatDoorKAll
/-
  What stands ahead of a codec's bytes.
-/
namespace Go.Proofs.YtlidolocibfbgaaGreatDoor.Ck
open Go.ChangeShapes Go.WideShapes Go.ChangeAt Go.RowKit Cu

/-- How many nulls; their lane; what stands ahead. -/
def mis (l : List V) : Nat := l.length - (denI l).length
def laneL (l : List V) : List Nat := (List.range ((l.length + 7) / 8)).map (Pk.byt (Pk.laneB l.length 1 (ofL (nullN l))))
def headB (k wd : Nat) (l : List V) : List Nat := ([k, wd] ++ uv (mis l)) ++ (if mis l = 0 then [] else laneL l)
theorem laneL_len (l : List V) : (laneL l).length = (l.length + 7) / 8 := by simp [laneL]
theorem laneL_of (l : List V) (j : Nat) (hj : j < (l.length + 7) / 8) : Pk.byt (Pk.laneB l.length 1 (ofL (nullN l))) j = ofL (laneL l) j := by
  unfold ofL laneL
  rw [List.getD_eq_getElem?_getD, List.getElem?_map, List.getElem?_range hj]
  rfl
theorem nullN_lt (l : List V) (j : Nat) : ofL (nullN l) j < 2 := by
  refine ofL_lt (by omega) (fun c hc => ?_) j
  simp only [nullN, List.mem_map] at hc
  obtain ⟨v, _, rfl⟩ := hc
  split <;> omega
set_option maxRecDepth 4000 in
set_option maxHeartbeats 4000000 in
theorem head_any (k wd : Nat) (hk : k < 256) (hwd : wd < 256) (l : List V) (hn : l.length ≤ 16777216) (gn cn : Nat) (vi : Value) (ai : Option Addr) (ci : Nat) (w : World) (hvi : vi = .slice ai (denI l).length ci) (hK : Blk w gn 5 .u8 cn l.length (ofL (nullN l))) :
    Calls Tryz.prog 94 #[.agg #[.slice (some ⟨gn, 0, none⟩) l.length cn, .bool true, vi, .slice none 0 0], .agg #[.int .i64 (k : Int), .int .i64 (wd : Int)]] w fun e w' => ∃ v, e = .returned v ∧ NewL w w' v (headB k wd l) := by
  subst hvi
  have HK := hid hK
  have hdl := denI_len l
  have hmis : mis l = l.length - (denI l).length := rfl
  obtain ⟨w1, hw1⟩ : ∃ w1, w.alloc (.cells #[.slice (some ⟨gn, 0, none⟩) l.length cn, .bool true, .slice ai (denI l).length ci, .slice none 0 0] 172) = w1 := ⟨_, rfl⟩
  obtain ⟨w2, hw2⟩ : ∃ w2, w1.alloc (.cells #[.int .i64 (k : Int), .int .i64 (wd : Int)] 25) = w2 := ⟨_, rfl⟩
  have b1 : Below w.heap.size w w1 := by rw [← hw1]; exact below_new _ _
  have b2 : Below w1.heap.size w1 w2 := by rw [← hw2]; exact below_new _ _
  have BS : BxS w2 w.heap.size (.slice (some ⟨gn, 0, none⟩) l.length cn) true (.slice ai (denI l).length ci) (.slice none 0 0) := by
    have h1 : BxS w1 w.heap.size (.slice (some ⟨gn, 0, none⟩) l.length cn) true (.slice ai (denI l).length ci) (.slice none 0 0) := by rw [← hw1]; exact World.alloc_heap_new w _
    exact h1.later b2
  have BD : w2.heap[w1.heap.size]? = some (.cells #[.int .i64 (k : Int), .int .i64 (wd : Int)] 25 (0, 0)) := by rw [← hw2]; exact World.alloc_heap_new w1 _
  have HBS := hid BS
  obtain ⟨s0, s1, s2, s3, -⟩ := BS.cells
  have d0 : w2.cell? ⟨w1.heap.size, 0, none⟩ = some (.int .i64 (k : Int)) := by simp [World.cell?, BD]
  have d1 : w2.cell? ⟨w1.heap.size, 1, none⟩ = some (.int .i64 (wd : Int)) := by simp [World.cell?, BD]
  have HB := hid (below_up b1 b2)
  have e1 : ((l.length : Nat) : Int) - ((denI l).length : Int) = (mis l : Int) := by omega
  have e2 : IntKind.i64.wrap (mis l : Int) = (mis l : Int) := by rw [IntKind.wrap_i64]; omega
  have e3 : IntKind.u64.wrap (mis l : Int) = (mis l : Int) := by rw [IntKind.wrap_u64]; omega
  have e4 : IntKind.u8.wrap (k : Int) = (k : Int) := by rw [IntKind.wrap_u8]; omega
  have e5 : IntKind.u8.wrap (wd : Int) = (wd : Int) := by rw [IntKind.wrap_u8]; omega
  have e6 : (mis l : Int) - 0 = (mis l : Int) := by omega
  have hm2 : mis l ≤ 16777216 := by omega
  have HN2 := hid (nullN_lt l)
  have HLn := hid (laneL_len l)
  have HLo := hid (laneL_of l)
  have HHd : Hid (headB k wd l = ([k, wd] ++ uv (mis l)) ++ (if mis l = 0 then [] else laneL l)) := rfl
  have huv := uv_le (mis l)
  generalize mis l = q at *
  generalize (denI l).length = dl at *
  clear hK b1 b2 BS BD hmis
  go_enter Tryz.func94, Tryz.ntmps94
  obtain ⟨w3, hw3⟩ : ∃ w3, w2.alloc (.cells #[.int .u8 (k : Int), .int .u8 (wd : Int)] 5) = w3 := ⟨_, rfl⟩
  have b3 : Below w2.heap.size w2 w3 := by rw [← hw3]; exact below_new _ _
  have HB3 : Hid (Bytes w3 (some ⟨w2.heap.size, 0, none⟩) [k, wd]) := fun j hj => by
    have h3 : w3.heap[w2.heap.size]? = some (.cells #[.int .u8 (k : Int), .int .u8 (wd : Int)] 5 (0, 0)) := by rw [← hw3]; exact World.alloc_heap_new w2 _
    refine ⟨w2.heap.size, 0, rfl, (Array.getElem?_eq_some_iff.1 h3).1, ?_⟩
    rcases j with _ | _ | j
    · simp [World.cell?, h3, ofL]
    · simp [World.cell?, h3, ofL]
    · simp at hj; omega
  have HP := hid (pPutUvarint (some ⟨w2.heap.size, 0, none⟩) [k, wd] 2 q w3 HB3.out (fun h => by cases h) (by omega) (by simp))
  replace HBS := hid (HBS.out.later b3)
  replace HB := hid (below_up HB.out b3)
  clear b3 HB3
  simp only [List.length_cons, List.length_nil, Nat.zero_add, Nat.reduceAdd] at HP
  go_wp2_with fail
  refine HP.out.mono ?_
  rintro e w4 ⟨v4, rfl, hN4⟩
  replace HBS := hid (HBS.out.later hN4.2)
  have HN4 := hid (hN4.up HB.out)
  have HBw := hid (below_up HB.out hN4.2)
  obtain ⟨a4, c4, e4', n4, -⟩ := hN4.form
  subst e4'
  clear hN4 HP hw3 hw2 hw1 s0 s1 s2 s3 d0 d1 HB
  have hl4 : (([k, wd] ++ uv q)).length ≤ 12 := by simp; omega
  generalize [k, wd] ++ uv q = P at *
  obtain ⟨s0, s1, s2, s3, -⟩ := HBS.out.cells
  by_cases hq : q = 0
  · subst hq
    have HHd2 : Hid (headB k wd l = P) := by show _ = _; rw [HHd.out]; simp
    go_wp2_with fail
    go_ret
    refine ⟨_, rfl, ?_⟩
    rw [HHd2.out]
    exact HN4.out
  · have hqz : ((q : Int) == 0) = false := by rw [beq_eq_false_iff_ne]; omega
    have HHd2 : Hid (headB k wd l = P ++ laneL l) := by show _ = _; rw [HHd.out, if_neg hq]
    have HNm : Hid (Pk.Nums w4 .u8 (some ⟨gn, 0, none⟩) l.length (ofL (nullN l))) := fun j hj => (HK.out.kept (HBw.out.block gn HK.out.lt)).nums (Nat.le_refl _) j hj
    have HPk := hid (Pk.packU8_run (some ⟨gn, 0, none⟩) l.length cn 1 (ofL (nullN l)) w4 hn (by omega) (fun j => Nat.lt_of_lt_of_le (HN2.out j) (by omega)) HNm.out)
    clear HHd hq HNm
    go_wp2_with fail
    refine HPk.out.mono ?_
    rintro e w5 ⟨b5, h5⟩
    have h5' := h5.resolve_left (fun ⟨_, i, hi, hx⟩ => hx (HN2.out i))
    obtain ⟨-, rfl, hB5⟩ := h5'
    rw [Nat.mul_one] at hB5 ⊢
    have HL5 : Hid (Bytes w5 (some ⟨w4.heap.size, 0, none⟩) (laneL l)) := by
      show Nums _ _ _ _ _
      rw [HLn.out]
      intro j hj
      obtain ⟨cur, q1, q2, q3, q4⟩ := hB5
      refine ⟨w4.heap.size, 0, rfl, (Array.getElem?_eq_some_iff.1 q1).1, ?_⟩
      rw [← HLo.out j hj]
      simp [World.cell?, q1, q4 j hj]
    have HO5 := hid (HN4.out.1.later b5)
    have HB5 := hid (below_up HBw.out b5)
    have hll := HLn.out
    obtain ⟨v6, w6, r6, o6, b6⟩ := run_appL (c := (l.length + 7) / 8) HO5.out HL5.out (fun h => by cases h) (by omega) HB5.out.size
    rw [hll] at r6
    have R6 := hid r6
    have O6 := hid o6
    have B6 := hid (b6 w HB5.out)
    generalize (l.length + 7) / 8 = nl at *
    clear r6 o6 b6 h5 hB5 HPk HL5 HO5 HB5 HBw HN4
    go_wp2_with (at_builtin; refine wpList_app (by rfl) (by rfl) R6.out ?_; clear R6)
    go_ret
    refine ⟨_, rfl, ?_⟩
    rw [HHd2.out]
    exact ⟨O6.out, B6.out⟩
end Go.Proofs.YtlidolocibfbgaaGreatDoor.Ck
