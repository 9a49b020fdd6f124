import Derived.Test.YtlidolocibfbgaaGreatDoorCHead
import Derived.Test.YtlidolocibfbgaaGreatDoorRAll
/-
  Encode by Runs, of values of an Int column that fit.
-/
namespace Go.Proofs.YtlidolocibfbgaaGreatDoor.Ck
open Go.ChangeShapes Go.WideShapes Go.ChangeAt Go.RowKit Rn Cu

def dv (k wd : Int) : Value := .agg #[.int .i64 k, .int .i64 wd]
def BxD (w : World) (g : Nat) (k wd : Int) : Prop := w.heap[g]? = some (.cells #[.int .i64 k, .int .i64 wd] 25 (0, 0))
theorem BxD.new (w : World) (k wd : Int) : BxD (w.alloc (.cells #[.int .i64 k, .int .i64 wd] 25)) w.heap.size k wd := World.alloc_heap_new w _
theorem BxD.later {w w' : World} {g : Nat} {k wd : Int} (h : BxD w g k wd) (hb : Below w.heap.size w w') : BxD w' g k wd := (hb.block g (Array.getElem?_eq_some_iff.1 h).1).trans h
theorem BxD.cells {w : World} {g : Nat} {k wd : Int} (h : BxD w g k wd) : w.cell? ⟨g, 0, none⟩ = some (.int .i64 k) ∧ w.cell? ⟨g, 1, none⟩ = some (.int .i64 wd) := by
  simp [World.cell?, show w.heap[g]? = _ from h]
set_option maxHeartbeats 1000000 in
theorem codec_runs (c : C) (w : World) : Calls Tryz.prog 87 #[cv c, dv 3 0] w fun e w' => e = .returned (.bool true) ∧ Below w.heap.size w w' := by
  obtain ⟨nm, T, nb⟩ := c
  unfold cv dv
  dsimp only
  obtain ⟨w1, hw1⟩ : ∃ w1, w.alloc (.cells #[.string nm, .int .i64 T, .bool nb] 23) = w1 := ⟨_, rfl⟩
  obtain ⟨w2, hw2⟩ : ∃ w2, w1.alloc (.cells #[.int .i64 3, .int .i64 0] 25) = w2 := ⟨_, rfl⟩
  have b1 : Below w.heap.size w w1 := by rw [← hw1]; exact below_new _ _
  have b2 : Below w1.heap.size w1 w2 := by rw [← hw2]; exact below_new _ _
  have hD : BxD w2 w1.heap.size 3 0 := by rw [← hw2]; exact BxD.new _ _ _
  obtain ⟨d0, d1⟩ := hD.cells
  have HB := hid (below_up b1 b2)
  clear b1 b2 hD
  go_enter Tryz.func87, Tryz.ntmps87
  go_wp2_with fail
  go_ret
  exact ⟨rfl, HB.out⟩
theorem addR_len (r : List (Int × Int)) (v : Int) : (addR r v).length ≤ r.length + 1 := by
  unfold addR
  split <;> (try split) <;> simp <;> omega
theorem foldR_length_le (l : List Int) : (foldR l).length ≤ l.length := by
  rw [← List.reverse_reverse l]
  induction l.reverse with
  | nil => simp [foldR]
  | cons x r ih =>
    rw [List.reverse_cons, foldR_snoc]
    have := addR_len (foldR r.reverse) x
    simp at ih ⊢
    omega
theorem run_enc (l : List V) : (encR evI (foldR (denI l))).length ≤ 10 + 20 * l.length := by
  have h1 := encI_len_le (foldR (denI l))
  have h2 := foldR_length_le (denI l)
  have h3 := denI_len l
  omega
set_option maxHeartbeats 1000000 in
theorem intBytes_runs (l : List Int) (a : Option Addr) (c : Nat) (w : World) (hA : VlsInt w a l) (hn : l.length ≤ 16777216) (hb : (encR evI (foldR l)).length ≤ 10 + 20 * 16777216) (hin : ∀ x ∈ l, -9223372036854775808 ≤ x ∧ x ≤ 9223372036854775807) :
    Calls Tryz.prog 150 #[.slice a l.length c, dv 3 0] w fun e w' => ∃ v, e = .returned (.tuple #[v, .int .i64 0]) ∧ NewL w w' v (encR evI (foldR l)) := by
  unfold dv
  obtain ⟨w2, hw2⟩ : ∃ w2, w.alloc (.cells #[.int .i64 3, .int .i64 0] 25) = w2 := ⟨_, rfl⟩
  have b2 : Below w.heap.size w w2 := by rw [← hw2]; exact below_new _ _
  have hD : BxD w2 w.heap.size 3 0 := by rw [← hw2]; exact BxD.new _ _ _
  obtain ⟨d0, d1⟩ := hD.cells
  have HP := hid (putInts a l c w2 (hA.later b2) (by omega) (by omega) hin)
  have HB := hid b2
  clear b2 hD hA hin
  go_enter Tryz.func150, Tryz.ntmps150
  go_wp2_with fail
  refine HP.out.mono ?_
  rintro e w3 ⟨v, rfl, hN⟩
  have HN := hid (hN.up HB.out)
  clear hN HP d0 d1
  go_wp2_with fail
  go_ret2
  exact ⟨v, rfl, HN.out⟩
set_option maxHeartbeats 1000000 in
theorem bytesBy_runs (l : List Int) (a : Option Addr) (c : Nat) (v0 v3 : Value) (w : World) (hA : VlsInt w a l) (hn : l.length ≤ 16777216) (hb : (encR evI (foldR l)).length ≤ 10 + 20 * 16777216) (hin : ∀ x ∈ l, -9223372036854775808 ≤ x ∧ x ≤ 9223372036854775807) :
    Calls Tryz.prog 92 #[.agg #[v0, .bool true, .slice a l.length c, v3], dv 3 0] w fun e w' => ∃ v, e = .returned (.tuple #[v, .int .i64 0]) ∧ NewL w w' v (encR evI (foldR l)) := by
  unfold dv
  obtain ⟨w1, hw1⟩ : ∃ w1, w.alloc (.cells #[v0, .bool true, .slice a l.length c, v3] 172) = w1 := ⟨_, rfl⟩
  obtain ⟨w2, hw2⟩ : ∃ w2, w1.alloc (.cells #[.int .i64 3, .int .i64 0] 25) = w2 := ⟨_, rfl⟩
  have b1 : Below w.heap.size w w1 := by rw [← hw1]; exact below_new _ _
  have b2 : Below w1.heap.size w1 w2 := by rw [← hw2]; exact below_new _ _
  have hS : BxS w2 w.heap.size v0 true (.slice a l.length c) v3 := by
    have h1 : BxS w1 w.heap.size v0 true (.slice a l.length c) v3 := by rw [← hw1]; exact World.alloc_heap_new w _
    exact h1.later b2
  have hD : BxD w2 w1.heap.size 3 0 := by rw [← hw2]; exact BxD.new _ _ _
  obtain ⟨d0, d1⟩ := hD.cells
  obtain ⟨s0, s1, s2, s3, -⟩ := hS.cells
  have HP := hid (intBytes_runs l a c w2 (hA.later (below_up b1 b2)) hn hb hin)
  have HB := hid (below_up b1 b2)
  unfold dv at HP
  clear b1 b2 hD hS hA hin
  go_enter Tryz.func92, Tryz.ntmps92
  go_wp2_with fail
  refine HP.out.mono ?_
  rintro e w3 ⟨v, rfl, hN⟩
  have HN := hid (hN.up HB.out)
  clear hN HP d0 d1
  go_wp2_with fail
  go_ret2
  exact ⟨v, rfl, HN.out⟩
theorem set_same {w : World} {g i : Nat} {cur : Array Value} {t : TypeId} {fr : Nat × Nat} {v : Value} (h : w.heap[g]? = some (.cells cur t fr)) (hi : cur[i]? = some v) : w.setCell ⟨g, i, none⟩ v = w := by
  have e : (w.setCell ⟨g, i, none⟩ v).heap = w.heap := by
    apply Array.ext_getElem?
    intro j
    simp only [World.setCell, Array.getElem?_modify]
    by_cases hj : g = j
    · subst hj
      rw [h]
      simp
      obtain ⟨hl, rfl⟩ := Array.getElem?_eq_some_iff.1 hi
      exact Array.ext (by simp) (fun k h1 h2 => by
        rw [Array.getElem_setIfInBounds h2]
        split
        · rename_i hk; subst hk; rfl
        · rfl)
    · simp [hj]
  cases w
  simp only [World.setCell] at e ⊢
  simpa using e
theorem cells_bytes {w : World} {g : Nat} {vs : Value} (h : w.heap[g]? = some (.cells #[vs] 5 (0, 0))) : w.cell? ⟨g, 0, none⟩ = some vs := by simp [World.cell?, h]
/-- The bytes of values of an Int column by Runs. -/
def encI (l : List V) : List Nat := headB 3 0 l ++ encR evI (foldR (denI l))
set_option maxRecDepth 4000 in
set_option maxHeartbeats 400000 in
theorem encode_runs (c : C) (hT : c.T = 1) (a : Option Addr) (l : List V) (cc : Nat) (w : World) (hA : Vls w a l) (hn : l.length ≤ 16777216) (hf : ∀ v ∈ l, fitV c v = true) (hb : ∀ v ∈ l, v.b < 18446744073709551616) (hin : ∀ v ∈ l, -9223372036854775808 ≤ v.I ∧ v.I ≤ 9223372036854775807) :
    Calls Tryz.prog 41 #[cv c, .slice a l.length cc, dv 3 0] w fun e w' => ∃ v, e = .returned (.tuple #[v, .int .i64 0]) ∧ NewL w w' v (encI l) := by
  have hdl := denI_len l
  have hel := run_enc l
  have hinD : ∀ x ∈ denI l, -9223372036854775808 ≤ x ∧ x ≤ 9223372036854775807 := fun x hx => by
    simp only [denI, List.mem_map, List.mem_filter] at hx
    obtain ⟨v, ⟨hv, _⟩, rfl⟩ := hx
    exact hin v hv
  have hhl : (headB 3 0 l).length ≤ 12 + (l.length + 7) / 8 := by
    unfold headB
    have := uv_le (mis l)
    have h2 := laneL_len l
    split <;> simp <;> omega
  obtain ⟨w1, hw1⟩ : ∃ w1, w.alloc (.cells (ca c) 23) = w1 := ⟨_, rfl⟩
  obtain ⟨w2, hw2⟩ : ∃ w2, w1.alloc (.cells #[.int .i64 3, .int .i64 0] 25) = w2 := ⟨_, rfl⟩
  have b1 : Below w.heap.size w w1 := by rw [← hw1]; exact below_new _ _
  have b2 : Below w1.heap.size w1 w2 := by rw [← hw2]; exact below_new _ _
  have hC : BxC w2 w.heap.size c := by
    have h1 : BxC w1 w.heap.size c := by rw [← hw1]; exact BxC.new w c
    exact h1.later b2
  have hD : BxD w2 w1.heap.size 3 0 := by rw [← hw2]; exact BxD.new _ _ _
  have HC := hid hC
  have HD := hid hD
  have HB := hid (below_up b1 b2)
  have HSo := hid (sort_int c hT a l cc w2 (hA.later HB.out) hn hf hb)
  have HCd := hid (fun W => codec_runs c W)
  have HBy : Hid (∀ W a c v0, VlsInt W a (denI l) → Calls Tryz.prog 92 #[.agg #[v0, .bool true, .slice a (denI l).length c, .slice none 0 0], dv 3 0] W fun e w' => ∃ v, e = .returned (.tuple #[v, .int .i64 0]) ∧ NewL W w' v (encR evI (foldR (denI l)))) := fun W a c v0 hA => bytesBy_runs (denI l) a c v0 (.slice none 0 0) W hA (by omega) (by omega) hinD
  have HHd : Hid (∀ W gn ai ci, Blk W gn 5 .u8 l.length l.length (ofL (nullN l)) → Calls Tryz.prog 94 #[.agg #[.slice (some ⟨gn, 0, none⟩) l.length l.length, .bool true, .slice ai (denI l).length ci, .slice none 0 0], dv 3 0] W fun e w' => ∃ v, e = .returned v ∧ NewL W w' v (headB 3 0 l)) := fun W gn ai ci hK => head_any 3 0 (by omega) (by omega) l hn gn l.length _ ai ci W rfl hK
  have HE : Hid (encI l = headB 3 0 l ++ encR evI (foldR (denI l))) := rfl
  clear hA hf hb hin hinD b1 b2 hC hD
  generalize encR evI (foldR (denI l)) = E at *
  generalize headB 3 0 l = P at *
  obtain ⟨d0, d1⟩ := HD.out.cells
  obtain ⟨k0, k1, k2⟩ := HC.out.cells
  obtain ⟨nm, T, nb⟩ := c
  unfold cv dv at *
  unfold ca at hw1
  dsimp only at *
  subst hT
  go_enter Tryz.func41, Tryz.ntmps41
  go_wp2_with fail
  refine HSo.out.mono ?_
  rintro e w3 ⟨gn, vi, rfl, hgn, hK, hO, b3⟩
  replace HC := hid (HC.out.later b3)
  replace HD := hid (HD.out.later b3)
  have HB3 := hid (below_up HB.out b3)
  have HK := hid hK
  obtain ⟨ai, ci, evi, -, -, -, hLi, -⟩ := hO.form (one_len iE)
  subst evi
  have HLi := hid hLi
  clear b3 hK hO hLi HB HSo hw1 hw2 d0 d1 k0 k1 k2
  generalize (denI l).length = dl at *
  obtain ⟨w4, hw4⟩ : ∃ w4, w3.alloc (.cells #[.slice (some ⟨gn, 0, none⟩) l.length l.length, .bool true, .slice ai dl ci, .slice none 0 0] 172) = w4 := ⟨_, rfl⟩
  have b4 : Below w3.heap.size w3 w4 := by rw [← hw4]; exact below_new _ _
  have hS : BxS w4 w3.heap.size (.slice (some ⟨gn, 0, none⟩) l.length l.length) true (.slice ai dl ci) (.slice none 0 0) := by rw [← hw4]; exact World.alloc_heap_new w3 _
  have HS := hid hS
  clear hS
  replace HC := hid (HC.out.later b4)
  replace HD := hid (HD.out.later b4)
  replace HK := hid (HK.out.kept (b4.block gn HK.out.lt))
  replace HLi := hid (HLi.out.later b4)
  have HB4 := hid (below_up HB3.out b4)
  obtain ⟨d0, d1⟩ := HD.out.cells
  obtain ⟨k0, k1, k2⟩ := HC.out.cells
  obtain ⟨s0, s1, s2, s3, sf⟩ := HS.out.cells
  have sf3 := sf 3
  have hset := set_same (i := 3) (v := .slice none 0 0) HS.out rfl
  clear b4 HB3 sf
  dsimp only at k0 k1 k2
  go_wp2_with fail
  refine (HCd.out w4).mono ?_
  rintro e w5 ⟨rfl, b5⟩
  replace HD := hid (HD.out.later b5)
  replace HS := hid (HS.out.later b5)
  replace HK := hid (HK.out.kept (b5.block gn HK.out.lt))
  replace HLi := hid (HLi.out.later b5)
  replace HB4 := hid (below_up HB4.out b5)
  clear b5 hw4 hset sf3 s0 s1 s2 s3 d0 d1 k0 k1 k2 HC HCd
  obtain ⟨d0, d1⟩ := HD.out.cells
  obtain ⟨s0, s1, s2, s3, -⟩ := HS.out.cells
  have HBw := hid (HBy.out w5 ai ci (.slice (some ⟨gn, 0, none⟩) l.length l.length) HLi.out)
  go_wp2_with fail
  refine HBw.out.mono ?_
  rintro e w6 ⟨v6, rfl, hN6⟩
  have HN6 := hid hN6
  replace HD := hid (HD.out.later hN6.2)
  replace HS := hid (HS.out.later hN6.2)
  replace HK := hid (HK.out.kept (hN6.2.block gn HK.out.lt))
  have HB6 := hid (below_up HB4.out hN6.2)
  obtain ⟨a6, c6, e6, n6, hb6⟩ := hN6.form
  subst e6
  have HY6 := hid hb6
  clear hN6 hb6 d0 d1 s0 s1 s2 s3 HBw HB4 HN6
  obtain ⟨d0, d1⟩ := HD.out.cells
  obtain ⟨s0, s1, s2, s3, -⟩ := HS.out.cells
  have HHw := hid (HHd.out w6 gn ai ci HK.out)
  go_wp2_with fail
  refine HHw.out.mono ?_
  rintro e w7 ⟨v7, rfl, hN7⟩
  replace HY6 := hid (HY6.out.later hN7.2)
  have HB7 := hid (below_up HB6.out hN7.2)
  obtain ⟨a7, c7, e7, n7, hb7⟩ := hN7.form
  subst e7
  have HY7 := hid hb7
  clear hN7 hb7 d0 d1 s0 s1 s2 s3 HHw HB6 HD HS HK HLi
  obtain ⟨w8, hw8⟩ : ∃ w8, w7.alloc (.cells #[.slice a7 P.length c7, .slice a6 E.length c6] 81) = w8 := ⟨_, rfl⟩
  have b8 : Below w7.heap.size w7 w8 := by rw [← hw8]; exact below_new _ _
  have h8 : w8.heap[w7.heap.size]? = some (.cells #[.slice a7 P.length c7, .slice a6 E.length c6] 81 (0, 0)) := by rw [← hw8]; exact World.alloc_heap_new w7 _
  have HCc := hid (concat_two w7.heap.size a7 a6 P E c7 c6 2 w8 (Array.getElem?_eq_some_iff.1 h8).1 (by simp [World.cell?, h8]) (by simp [World.cell?, h8]) (HY7.out.later b8) (HY6.out.later b8) n7 n6 (by omega))
  have HB8 := hid (below_up HB7.out b8)
  clear b8 h8 HY6 HY7 HB7 n6 n7
  go_wp2_with fail
  refine HCc.out.mono ?_
  rintro e w9 ⟨v9, rfl, hN9⟩
  have HN9 := hid (hN9.up HB8.out)
  clear hN9 HCc HB8
  go_wp2_with fail
  go_ret2
  refine ⟨v9, rfl, ?_⟩
  rw [HE.out]
  exact HN9.out
end Go.Proofs.YtlidolocibfbgaaGreatDoor.Ck
