/-
  The program's own PutInts.
-/
import Derived.Test.YtcbmhpdhbmjocaaGreatPCopy
namespace Go.Proofs.YtcbmhpdhbmjocaaGreat
open Go.ChangeShapes Go.WideShapes Go.ChangeAt Go.RowKit Cu

theorem fx8 (v : Nat) : fx 8 v = (List.range 8).map (byteN v) := by
  apply List.ext_getElem?
  intro j
  by_cases h : j < 8
  · rw [fx_get _ _ _ h, List.getElem?_map, List.getElem?_range h]; rfl
  · rw [List.getElem?_eq_none (by rw [fx_len]; omega), List.getElem?_eq_none (by simp; omega)]
/-- The array's bytes. -/
theorem arr_bytes {w : World} {g v k : Nat} (h : w.heap[g]? = some (.cells (arr8 v) 86 (0, 0))) (hk : k ≤ 8) : Bytes w (some ⟨g, 0, none⟩) (fx k v) := fun j hj => by
  rw [fx_len] at hj
  have hb := arr8_blk h
  refine ⟨g, 0, rfl, hb.lt, ?_⟩
  rw [Nat.zero_add, hb.cell (by omega)]
  have e := fx_get k v j hj
  have e2 : ofL (fx k v) j = byteN v j := by unfold ofL; rw [List.getD_eq_getElem?_getD, e]; rfl
  rw [e2]
theorem store8 (w : World) (v : Nat) : (storeCells ⟨w.heap.size, 0, none⟩ (arr8 v).toList 0).run Tryz.prog (w.alloc (.cells zer8 86)) = .ok () (w.alloc (.cells (arr8 v) 86)) := run_storeCells_new w 86 zer8 (arr8 v) info8 rfl (arr8_one v)
theorem putI_step {l : List Int} {i : Nat} {s : Int} (h : l[i]? = some s) : splc (encI (l.take i) ++ List.replicate (8 * (l.length - i)) 0) (8 * i) (fx 8 (tou s)) = encI (l.take (i + 1)) ++ List.replicate (8 * (l.length - (i + 1))) 0 := by
  have hi := (List.getElem?_eq_some_iff.1 h).1
  have hl : (encI (l.take i)).length = 8 * i := by rw [encI_len, List.length_take, Nat.min_eq_left (by omega)]
  unfold splc
  rw [List.take_left' hl, encI_take l i s h, fx_len, List.append_assoc, List.append_assoc]
  congr 2
  rw [List.drop_append, hl, List.drop_of_length_le (by omega), List.nil_append, show 8 * i + 8 - 8 * i = 8 by omega, List.drop_replicate]
  congr 1
  omega
set_option maxRecDepth 4000 in
set_option maxHeartbeats 2000000 in
theorem pPutInts (a : Option Addr) (l : List Int) (c : Nat) (w : World) (hA : IntsA w a l) (hn : l.length * 8 ≤ 140737488355328) :
    Calls Tryz.prog 35 #[.slice a l.length c] w fun e w' => ∃ v', e = .returned v' ∧ NewL w w' v' (encI l) ∧ ∃ g, v' = .slice (some ⟨g, 0, none⟩) (encI l).length (encI l).length ∧ FB w' g (encI l) ∧ w.heap.size ≤ g := by
  obtain ⟨i0, hi, hz0, hz1, hz2⟩ := info_parts infoU8
  obtain ⟨N, hN⟩ : ∃ N, 8 * l.length = N := ⟨_, rfl⟩
  have hN2 : (l.length : Int) * 8 = (N : Int) := by omega
  have hN3 : IntKind.i64.wrap (N : Int) = (N : Int) := by rw [IntKind.wrap_i64]; omega
  have hmk := run_make (P := Tryz.prog) w 29 5 i0 (.int .u8 0) Tryz.underlying29 hi hz0 .i64 .i64 (N : Int) (N : Int) (by omega) (by omega) (by rw [hz2]; omega) (by omega)
  rw [hz1, show (N : Int).toNat * 1 = N by omega, show (N : Int).toNat = N by omega, show (Value.int .u8 0).cells = #[Value.int .u8 0] from rfl] at hmk
  have hfb := fb_made w N
  have hb1 := below_new w (.cells (madeCells #[.int .u8 0] N) 5)
  obtain ⟨w1, hw1⟩ : ∃ w1, w.alloc (.cells (madeCells #[.int .u8 0] N) 5) = w1 := ⟨_, rfl⟩
  rw [hw1] at hmk hfb hb1
  have HFB : Hid (FB w1 w.heap.size (encI (l.take 0) ++ List.replicate (8 * (l.length - 0)) 0)) := by
    rw [show 8 * (l.length - 0) = N by omega]
    exact hfb
  have HB1 := hid hb1
  have HA := hid hA
  have hmk' : ∀ x, x = (N : Int) → (Instr.makeSlice 29 (.int .i64 x) (.int .i64 x)).run Tryz.prog w = .ok (.slice (some ⟨w.heap.size, 0, none⟩) N N) w1 := by
    rintro x rfl; exact hmk
  clear hw1 hfb hb1 hmk hi hz0 hz1 hz2 hA
  obtain ⟨g, hg⟩ : ∃ g, w.heap.size = g := ⟨_, rfl⟩
  have HG := hid hg
  rw [hg] at HFB HB1 hmk'
  clear hg
  go_enter Tryz.func35, Tryz.ntmps35
  go_wp2_with fail
  go_loopw [13] (fun y wr => ∃ i : Nat, i ≤ l.length ∧ y = .int .i64 (i : Int) ∧ Hid (FB wr g (encI (l.take i) ++ List.replicate (8 * (l.length - i)) 0)) ∧ Hid (Below g w wr)) (fun y _ => l.length - (intOf y).toNat)
  case atStart => exact ⟨0, Nat.zero_le _, rfl, HFB, HB1⟩
  case round =>
    clear HFB HB1 hmk'
    obtain ⟨i, hi, rfl, HF, HB⟩ := hrel
    by_cases hlt : i < l.length
    · have hii : (i : Int) < (l.length : Int) := by omega
      have hs : l[i]? = some l[i] := List.getElem?_eq_getElem hlt
      generalize l[i] = s at hs
      have hb' : Below w.heap.size w wr := by rw [HG.out]; exact HB.out
      obtain ⟨ga, o, rfl, hga, hc⟩ := (HA.out.later hb') i s hs
      have HE := hid (putI_step hs)
      have HLn : Hid ((encI (l.take i) ++ List.replicate (8 * (l.length - i)) 0).length = N) := by
        show _ = _
        rw [List.length_append, encI_len, List.length_take, Nat.min_eq_left (by omega), List.length_replicate]; omega
      have HW := hid (tou_wrap s)
      have HLF := hid (lowestFirst_any (tou s) wr)
      generalize hq : encI (l.take i) ++ List.replicate (8 * (l.length - i)) 0 = q at *
      generalize hq2 : encI (l.take (i + 1)) ++ List.replicate (8 * (l.length - (i + 1))) 0 = q2 at *
      generalize tou s = u at *
      clear hs hb' hq
      have hts : (arr8 u).size = 8 := rfl
      go_wp2_with (go_at_call 48; rw [HW.out]; refine HLF.out.mono ?_; rintro e w2 ⟨rfl, h2⟩; have H2 := hid h2; clear h2 HLF HW)
      rw [show (storeCells ⟨w2.heap.size, 0, none⟩ (arr8 u).toList 0).run Tryz.prog (w2.alloc (.cells #[.int .u8 0, .int .u8 0, .int .u8 0, .int .u8 0, .int .u8 0, .int .u8 0, .int .u8 0, .int .u8 0] 86)) = .ok () (w2.alloc (.cells (arr8 u) 86)) from store8 w2 u]
      simp only [Result.andThen]
      rw [Oper.upon_skip]
      obtain ⟨w3, hw3⟩ : ∃ w3, w2.alloc (.cells (arr8 u) 86) = w3 := ⟨_, rfl⟩
      have hgt : g < w2.heap.size := Nat.lt_of_lt_of_le HF.out.lt H2.out.size
      have hB3 : Bytes w3 (some ⟨w2.heap.size, 0, none⟩) (fx 8 u) := by rw [← hw3]; exact arr_bytes (heap_alloc_new w2 _) (Nat.le_refl _)
      have hF3 : FB w3 g q := by rw [← hw3]; exact (HF.out.later H2.out).later (below_new w2 _)
      have hb3 : Below g w w3 := by rw [← hw3]; exact (HB.out.trans (H2.out.mono (Nat.le_of_lt HF.out.lt))).alloc (by omega) _
      rw [hw3]
      obtain ⟨m, hm⟩ : ∃ m, w2.heap.size = m := ⟨_, rfl⟩
      rw [hm] at hB3 hgt ⊢
      have hcp := copy_bytes (w := w3.drew) (g := g) (o := 8 * i) (L := q) (p := fx 8 u) (a := some ⟨m, 0, none⟩) (dl := N - 8 * i) (dc := N - 8 * i) (sl := 8) (sc := 8) hF3 (fun j hj => hB3 j hj) (by rw [HLn.out, fx_len]; omega) (by rw [fx_len]; unfold Nat.min; omega) (by rw [fx_len]; omega)
      rw [HE.out, fx_len] at hcp
      have HF4 : Hid (FB (w3.drew.setRow g (bcells q2)) g q2) := setRow_fb (w := w3.drew) (L := q) hF3 q2
      have HB4 : Hid (Below g w (w3.drew.setRow g (bcells q2))) := below_row (below_drewN hb3 1) (Nat.le_refl _) _
      obtain ⟨k, hk⟩ : ∃ k, 8 * i = k := ⟨_, rfl⟩
      rw [hk] at hcp
      have hk1 : (i : Int) * 8 = (k : Int) := by omega
      have hk2 : k < N := by omega
      have hk3 : ¬ N = k := by omega
      have hk4 : (k : Int) ≤ (N : Int) := by omega
      have hk5 : IntKind.i64.wrap (k : Int) = (k : Int) := by rw [IntKind.wrap_i64]; omega
      have hk6 : k ≤ N := by omega
      clear hw3 hB3 hF3 hb3 hm HF HB hk H2 HE HLn
      go_wp2_with fail
      go_region_with (fail)
      all_goals
        go_wp2_with fail
        subst hq2
        exact ⟨⟨i + 1, by omega, by go_num, HF4, HB4⟩, by simp [intOf]; omega⟩
    · obtain rfl : i = l.length := by omega
      have hq : encI (l.take l.length) ++ List.replicate (8 * (l.length - l.length)) 0 = encI l := by simp
      have HF2 : Hid (FB wr g (encI l)) := by rw [← hq]; exact HF
      have HL2 : Hid ((encI l).length = N) := by show _ = _; rw [encI_len, hN]
      clear HF hq
      go_wp2_with fail
      go_ret
      have ho := HF2.out.own (B := w.heap.size) (by rw [HG.out]; exact Nat.le_refl _) (by rw [HL2.out]; unfold maxLen; omega)
      rw [HL2.out] at ho ⊢
      refine ⟨_, rfl, ⟨by rw [HL2.out]; exact ho, by rw [HG.out]; exact HB.out⟩, g, rfl, HF2.out, by rw [HG.out]; exact Nat.le_refl _⟩
end Go.Proofs.YtcbmhpdhbmjocaaGreat
