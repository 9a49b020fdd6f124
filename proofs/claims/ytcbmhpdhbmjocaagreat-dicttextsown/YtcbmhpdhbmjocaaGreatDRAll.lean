import Derived.Test.YtcbmhpdhbmjocaaGreatDPut
import Derived.Test.YtcbmhpdhbmjocaaGreatPInts
import Derived.Test.YtcbmhpdhbmjocaaGreatCAll
import Derived.Test.YtcbmhpdhbmjocaaGreatKAll
/-
  dict.Ints at the bytes of the law's known.
-/
namespace Go.Proofs.YtcbmhpdhbmjocaaGreat
open Go.ChangeShapes Go.WideShapes Go.ChangeAt Go.RowKit Cu

def K16 : List Nat := [3, 0, 0, 0, 0, 0, 0, 0, 7, 0, 0, 0, 0, 0, 0, 0]
def B18 : List Nat := 2 :: K16 ++ [5]
set_option maxRecDepth 8000 in
set_option maxHeartbeats 2000000 in
theorem cut_known (a : Option Addr) (c : Nat) (w : World) (hA : Bytes w a B18) :
    Calls Tryz.prog 49 #[.slice a 18 c, .int .i64 3] w fun e w' => ∃ ak ck ac cc, e = .returned (.tuple #[.agg #[.int .i64 2, .int .i64 1, .slice ak 16 ck, .slice ac 1 cc], .bool true]) ∧ Bytes w' ak K16 ∧ NewL w w' (.slice ac 1 cc) [5] ∧ (16 ≤ ck ∧ ck ≤ maxLen) := by
  have ha : a = none → B18.length = 0 ∧ c = 0 := fun e => by
    subst e
    obtain ⟨g, o, e, _⟩ := hA 0 (by decide)
    cases e
  have HO := hid (fun wx (h : Below w.heap.size w wx) => Cr.pOpen a B18 c wx (show Cr.Bytes wx a B18 from hA.later h) ha (by decide) (by decide))
  have hb18 : B18.length = 18 := rfl
  rw [hb18] at HO
  clear ha hA hb18
  go_enter Tryz.func49, Tryz.ntmps49
  go_wp2_with fail
  refine (HO.out _ (below_new _ _)).mono ?_
  rintro e w2 ⟨g, rfl, h2, b2⟩
  have H2 := hid h2
  have B2 := hid b2
  clear h2 b2 HO
  go_wp2_with fail
  refine (Cr.pUv H2.out).mono ?_
  rintro e w3 ⟨rfl, h3, t3⟩
  have e3 : (Cr.Cu.Rd.uv ⟨B18, 0, 0⟩) = (2, ⟨B18, 1, 0⟩) := rfl
  rw [e3] at h3 ⊢
  have H3 := hid h3
  have T3 := hid t3
  clear h3 t3 e3 H2
  go_wp2_with fail
  refine (widthOf_any 2 w3 (by omega)).mono ?_
  rintro e w4 ⟨rfl, hw4⟩
  have hw4' := hw4.symm
  clear hw4
  subst hw4'
  have e4 : ((wd 2 : Nat) : Int) = 1 := by decide
  rw [e4]
  clear e4
  go_wp2_with fail
  refine (Pk.bytes_any 3 1 _).mono ?_
  have e5 : Pk.byteN 3 1 = 1 ∧ Pk.byteE 3 1 = 0 := by decide
  rw [e5.1, e5.2]
  rintro e w5 ⟨rfl, hw5⟩
  have hw5' := hw5.symm
  clear hw5 e5
  subst hw5'
  go_wp2_with fail
  obtain ⟨b0, hb0⟩ : ∃ b0, w.heap.size = b0 := ⟨_, rfl⟩
  obtain ⟨pb, hpb⟩ : ∃ pb, w3.heap.size = pb := ⟨_, rfl⟩
  have hlo : (w.alloc (.cells #[.int .i64 0, .int .i64 0, .slice none 0 0, .slice none 0 0] 89)).heap.size = b0 + 1 := by simp [hb0]
  have hgl : b0 + 1 ≤ g := by rw [← hlo]; exact H3.out.glo
  have hgh : g < pb := by have h1 := H3.out.ghi; have h2 := T3.out.size; omega
  have k0 : w3.heap[b0]? = some (.cells #[.int .i64 0, .int .i64 0, .slice none 0 0, .slice none 0 0] 89) := by
    have hs2 : b0 < w2.heap.size := by have := B2.out.size; rw [hlo] at this; omega
    rw [T3.out.block b0 hs2 (by omega), B2.out.block b0 (by rw [hlo]; omega), ← hb0]
    exact heap_new _ _
  have B3 : Hid (Below w.heap.size w w3) := by
    have h1 : Below w.heap.size w w2 := below_up (below_new _ _) (B2.out.mono (by rw [hlo]; omega))
    exact h1.trans ⟨T3.out.os, T3.out.tape, T3.out.output, T3.out.size, fun j hj => T3.out.block j (by have := h1.size; omega) (by omega)⟩
  have bA := below_new w3 (.cells #[.int .i64 2, .int .i64 1, .slice none 0 0, .slice none 0 0] 89)
  have HA := hid (H3.out.later bA)
  have BA := hid (below_up B3.out bA)
  have k0A := (bA.block b0 (by have := (Array.getElem?_eq_some_iff.1 k0).1; omega)).trans k0
  have kpA := heap_new w3 (.cells #[.int .i64 2, .int .i64 1, .slice none 0 0, .slice none 0 0] 89)
  have hsA : (w3.alloc (.cells #[.int .i64 2, .int .i64 1, .slice none 0 0, .slice none 0 0] 89)).heap.size = pb + 1 := by simp [hpb]
  rw [hpb] at kpA ⊢
  rw [hlo] at HA
  rw [hb0] at BA ⊢
  generalize w3.alloc (.cells #[.int .i64 2, .int .i64 1, .slice none 0 0, .slice none 0 0] 89) = wA at *
  have hhi : w2.heap.size ≤ pb := by rw [← hpb]; exact T3.out.size
  generalize w2.heap.size = hi2 at *
  clear B3 bA H3 T3 B2 k0 hpb hlo
  refine (Cr.pLeft HA.out).mono ?_
  rintro e w5 ⟨rfl, hw5⟩
  have hw5' := hw5.symm
  clear hw5
  subst hw5'
  have e6 : ((Cr.Rd.left ⟨B18, 1, 0⟩ : Nat) : Int) = 17 := by decide
  rw [e6]
  clear e6
  go_wp2_with fail
  refine (Cr.pBytes HA.out 16 (by omega) (by omega)).mono ?_
  have e7 : Cr.Cu.Rd.bytes ⟨B18, 1, 0⟩ 16 = (K16, ⟨B18, 17, 0⟩) := rfl
  rw [e7]
  rintro e w6 ⟨v6, rfl, o6, h6, t6⟩
  clear e7
  have k06 := (t6.block b0 (by rw [hsA]; omega) (by omega)).trans k0A
  have kp6 := (t6.block pb (by rw [hsA]; omega) (by omega)).trans kpA
  have o6' : Own w6 (pb + 1) 5 .u8 v6 K16.length (ofL K16) := by rw [← hsA]; exact o6
  obtain ⟨a6, c6, rfl, n6, m6, _⟩ := o6'.form
  have hs6 : pb + 1 ≤ w6.heap.size := by rw [← hsA]; exact t6.size
  have c6p : w6.cell? ⟨pb, 2, none⟩ = some (.slice none 0 0) := by rw [cell_of_row _ _ _ _ _ _ kp6]; rfl
  have f6p : w6.frozen? ⟨pb, 2, none⟩ = false := by simp [World.frozen?, kp6]
  have hn16 : K16.length = 16 := rfl
  rw [hn16] at o6' n6 ⊢
  have kp7 := heap_set_rowT (i := 2) kp6 (.slice a6 16 c6)
  have k07 := (Below.heap_setCell w6 ⟨pb, 2, none⟩ (.slice a6 16 c6) b0 (by show b0 ≠ pb; omega)).trans k06
  have H7 := hid (h6.stay (w' := w6.setCell ⟨pb, 2, none⟩ (.slice a6 16 c6)) (fun j _ hj => Below.heap_setCell _ _ _ _ (by show j ≠ pb; omega)) (by simp [World.setCell]))
  have O7 : Hid (Own (w6.setCell ⟨pb, 2, none⟩ (.slice a6 16 c6)) (pb + 1) 5 .u8 (.slice a6 16 c6) 16 (ofL K16)) := row_kept o6' (fun j hj => Below.heap_setCell _ _ _ _ (by show j ≠ pb; have := (World.ownsRow.lt o6' j hj).1; omega))
  have BA6 : Hid (Below b0 w w6) := by
    have h1 := BA.out
    rw [← hb0] at h1 ⊢
    exact h1.trans ⟨t6.os, t6.tape, t6.output, t6.size, fun j hj => t6.block j (by have := h1.size; omega) (by omega)⟩
  have B7 : Hid (Below b0 w (w6.setCell ⟨pb, 2, none⟩ (.slice a6 16 c6))) := BA6.out.setCell (p := ⟨pb, 2, none⟩) (by show b0 ≤ pb; omega) _
  have hs7 : pb + 1 ≤ (w6.setCell ⟨pb, 2, none⟩ (.slice a6 16 c6)).heap.size := by simp [World.setCell]; exact hs6
  have N6 := hid (And.intro n6 m6)
  clear k06 kp6 o6 o6' h6 t6 hn16 n6 m6 BA BA6 k0A kpA HA hsA
  go_wp2_with fail
  clear c6p f6p
  generalize w6.setCell ⟨pb, 2, none⟩ (.slice a6 16 c6) = w7 at *
  clear hs6
  refine (Cr.pBytes H7.out 1 (by omega) (by omega)).mono ?_
  have e8 : Cr.Cu.Rd.bytes ⟨B18, 17, 0⟩ 1 = ([5], ⟨B18, 18, 0⟩) := rfl
  rw [e8]
  rintro e w8 ⟨v8, rfl, o8, h8, t8⟩
  clear e8
  have k08 := (t8.block b0 (by omega) (by omega)).trans k07
  have kp8 := (t8.block pb (by omega) (by omega)).trans kp7
  have O8a : Own w8 (pb + 1) 5 .u8 (.slice a6 16 c6) 16 (ofL K16) := row_kept O7.out (fun j hj => t8.block j (World.ownsRow.lt O7.out j hj).2 (by have := (World.ownsRow.lt O7.out j hj).1; omega))
  have o8' : Own w8 (pb + 1) 5 .u8 v8 1 (ofL [5]) := Own.low o8 hs7
  obtain ⟨a8, c8, rfl, _, _, _⟩ := o8'.form
  have hs8 : pb + 1 ≤ w8.heap.size := Nat.le_trans hs7 t8.size
  have c8p : w8.cell? ⟨pb, 3, none⟩ = some (.slice none 0 0) := by rw [cell_of_row _ _ _ _ _ _ kp8]; rfl
  have f8p : w8.frozen? ⟨pb, 3, none⟩ = false := by simp [World.frozen?, kp8]
  have kp9 := heap_set_rowT (i := 3) kp8 (.slice a8 1 c8)
  have k09 := (Below.heap_setCell w8 ⟨pb, 3, none⟩ (.slice a8 1 c8) b0 (by show b0 ≠ pb; omega)).trans k08
  have H9 := hid (h8.stay (w' := w8.setCell ⟨pb, 3, none⟩ (.slice a8 1 c8)) (fun j _ hj => Below.heap_setCell _ _ _ _ (by show j ≠ pb; omega)) (by simp [World.setCell]))
  have O9 : Hid (Own (w8.setCell ⟨pb, 3, none⟩ (.slice a8 1 c8)) (pb + 1) 5 .u8 (.slice a6 16 c6) 16 (ofL K16)) := row_kept O8a (fun j hj => Below.heap_setCell _ _ _ _ (by show j ≠ pb; have := (World.ownsRow.lt O8a j hj).1; omega))
  have Q9 : Hid (Own (w8.setCell ⟨pb, 3, none⟩ (.slice a8 1 c8)) (pb + 1) 5 .u8 (.slice a8 1 c8) 1 (ofL [5])) := row_kept o8' (fun j hj => Below.heap_setCell _ _ _ _ (by show j ≠ pb; have := (World.ownsRow.lt o8' j hj).1; omega))
  have B9 : Hid (Below b0 w (w8.setCell ⟨pb, 3, none⟩ (.slice a8 1 c8))) := by
    have h1 := B7.out
    rw [← hb0] at h1 ⊢
    exact (h1.trans ⟨t8.os, t8.tape, t8.output, t8.size, fun j hj => t8.block j (by have := h1.size; omega) (by omega)⟩).setCell (p := ⟨pb, 3, none⟩) (by show w.heap.size ≤ pb; omega) _
  clear k08 kp8 o8 o8' O8a h8 t8 H7 O7 B7 kp7 k07 hs7
  go_wp2_with fail
  clear c8p f8p
  generalize w8.setCell ⟨pb, 3, none⟩ (.slice a8 1 c8) = w9 at *
  have HE := hid (fun wx (h : Below w9.heap.size w9 wx) => Cr.pEnd (H9.out.later h))
  have z0 : w9.cell? ⟨b0, 0, none⟩ = some (.int .i64 0) := by rw [cell_of_row _ _ _ _ _ _ k09]; rfl
  have z1 : w9.cell? ⟨b0, 1, none⟩ = some (.int .i64 0) := by rw [cell_of_row _ _ _ _ _ _ k09]; rfl
  have z2 : w9.cell? ⟨b0, 2, none⟩ = some (.slice none 0 0) := by rw [cell_of_row _ _ _ _ _ _ k09]; rfl
  have z3 : w9.cell? ⟨b0, 3, none⟩ = some (.slice none 0 0) := by rw [cell_of_row _ _ _ _ _ _ k09]; rfl
  have y0 : w9.frozen? ⟨b0, 0, none⟩ = false := by simp [World.frozen?, k09]
  have y1 : w9.frozen? ⟨b0, 1, none⟩ = false := by simp [World.frozen?, k09]
  have y2 : w9.frozen? ⟨b0, 2, none⟩ = false := by simp [World.frozen?, k09]
  have y3 : w9.frozen? ⟨b0, 3, none⟩ = false := by simp [World.frozen?, k09]
  have p0 : w9.cell? ⟨pb, 0, none⟩ = some (.int .i64 2) := by rw [cell_of_row _ _ _ _ _ _ kp9]; rfl
  have p1 : w9.cell? ⟨pb, 1, none⟩ = some (.int .i64 1) := by rw [cell_of_row _ _ _ _ _ _ kp9]; rfl
  have p2 : w9.cell? ⟨pb, 2, none⟩ = some (.slice a6 16 c6) := by rw [cell_of_row _ _ _ _ _ _ kp9]; rfl
  have p3 : w9.cell? ⟨pb, 3, none⟩ = some (.slice a8 1 c8) := by rw [cell_of_row _ _ _ _ _ _ kp9]; rfl
  have hne : b0 ≠ pb := by omega
  have K09 := hid k09
  have hE0 : (if (⟨B18, 18, 0⟩ : Cr.Cu.Rd).e = 0 ∧ (⟨B18, 18, 0⟩ : Cr.Cu.Rd).at' < (⟨B18, 18, 0⟩ : Cr.Cu.Rd).l.length then 72 else (((⟨B18, 18, 0⟩ : Cr.Cu.Rd).e : Nat) : Int)) = 0 := by decide
  rw [hE0] at HE
  have kF := heap_set_rowT (i := 3) (heap_set_rowT (i := 2) (heap_set_rowT (i := 1) (heap_set_rowT (i := 0) k09 (.int .i64 2)) (.int .i64 1)) (.slice a6 16 c6)) (.slice a8 1 c8)
  have d0 : ((((w9.setCell ⟨b0, 0, none⟩ (.int .i64 2)).setCell ⟨b0, 1, none⟩ (.int .i64 1)).setCell ⟨b0, 2, none⟩ (.slice a6 16 c6)).setCell ⟨b0, 3, none⟩ (.slice a8 1 c8)).cell? ⟨b0, 0, none⟩ = some (.int .i64 2) := by rw [cell_of_row _ _ _ _ _ _ kF]; rfl
  have d1 : ((((w9.setCell ⟨b0, 0, none⟩ (.int .i64 2)).setCell ⟨b0, 1, none⟩ (.int .i64 1)).setCell ⟨b0, 2, none⟩ (.slice a6 16 c6)).setCell ⟨b0, 3, none⟩ (.slice a8 1 c8)).cell? ⟨b0, 1, none⟩ = some (.int .i64 1) := by rw [cell_of_row _ _ _ _ _ _ kF]; rfl
  have d2 : ((((w9.setCell ⟨b0, 0, none⟩ (.int .i64 2)).setCell ⟨b0, 1, none⟩ (.int .i64 1)).setCell ⟨b0, 2, none⟩ (.slice a6 16 c6)).setCell ⟨b0, 3, none⟩ (.slice a8 1 c8)).cell? ⟨b0, 2, none⟩ = some (.slice a6 16 c6) := by rw [cell_of_row _ _ _ _ _ _ kF]; rfl
  have d3 : ((((w9.setCell ⟨b0, 0, none⟩ (.int .i64 2)).setCell ⟨b0, 1, none⟩ (.int .i64 1)).setCell ⟨b0, 2, none⟩ (.slice a6 16 c6)).setCell ⟨b0, 3, none⟩ (.slice a8 1 c8)).cell? ⟨b0, 3, none⟩ = some (.slice a8 1 c8) := by rw [cell_of_row _ _ _ _ _ _ kF]; rfl
  have hkF : ∀ j, j ≠ b0 → ((((w9.setCell ⟨b0, 0, none⟩ (.int .i64 2)).setCell ⟨b0, 1, none⟩ (.int .i64 1)).setCell ⟨b0, 2, none⟩ (.slice a6 16 c6)).setCell ⟨b0, 3, none⟩ (.slice a8 1 c8)).heap[j]? = w9.heap[j]? := fun j hj => by
    rw [Below.heap_setCell _ _ _ _ (by exact hj), Below.heap_setCell _ _ _ _ (by exact hj), Below.heap_setCell _ _ _ _ (by exact hj), Below.heap_setCell _ _ _ _ (by exact hj)]
  have HFIN : Hid (∃ ak ck ac cc, (Ending.returned (.tuple #[.agg #[.int .i64 2, .int .i64 1, .slice a6 16 c6, .slice a8 1 c8], .bool true]) = .returned (.tuple #[.agg #[.int .i64 2, .int .i64 1, .slice ak 16 ck, .slice ac 1 cc], .bool true])) ∧ Bytes ((((w9.setCell ⟨b0, 0, none⟩ (.int .i64 2)).setCell ⟨b0, 1, none⟩ (.int .i64 1)).setCell ⟨b0, 2, none⟩ (.slice a6 16 c6)).setCell ⟨b0, 3, none⟩ (.slice a8 1 c8)) ak K16 ∧ NewL w ((((w9.setCell ⟨b0, 0, none⟩ (.int .i64 2)).setCell ⟨b0, 1, none⟩ (.int .i64 1)).setCell ⟨b0, 2, none⟩ (.slice a6 16 c6)).setCell ⟨b0, 3, none⟩ (.slice a8 1 c8)) (.slice ac 1 cc) [5] ∧ (16 ≤ ck ∧ ck ≤ maxLen)) := by
    refine ⟨a6, c6, a8, c8, rfl, ?_, ⟨?_, ?_⟩, N6.out⟩
    · have o : Own ((((w9.setCell ⟨b0, 0, none⟩ (.int .i64 2)).setCell ⟨b0, 1, none⟩ (.int .i64 1)).setCell ⟨b0, 2, none⟩ (.slice a6 16 c6)).setCell ⟨b0, 3, none⟩ (.slice a8 1 c8)) (pb + 1) 5 .u8 (.slice a6 16 c6) 16 (ofL K16) := row_kept O9.out (fun j hj => hkF j (by have := (World.ownsRow.lt O9.out j hj).1; omega))
      exact o.nums
    · have o : Own ((((w9.setCell ⟨b0, 0, none⟩ (.int .i64 2)).setCell ⟨b0, 1, none⟩ (.int .i64 1)).setCell ⟨b0, 2, none⟩ (.slice a6 16 c6)).setCell ⟨b0, 3, none⟩ (.slice a8 1 c8)) (pb + 1) 5 .u8 (.slice a8 1 c8) 1 (ofL [5]) := row_kept Q9.out (fun j hj => hkF j (by have := (World.ownsRow.lt Q9.out j hj).1; omega))
      exact o.low (by rw [hb0]; omega)
    · have h1 := B9.out
      rw [hb0]
      exact (((h1.setCell (p := ⟨b0, 0, none⟩) (Nat.le_refl _) _).setCell (p := ⟨b0, 1, none⟩) (Nat.le_refl _) _).setCell (p := ⟨b0, 2, none⟩) (Nat.le_refl _) _).setCell (p := ⟨b0, 3, none⟩) (Nat.le_refl _) _
  clear k09 kp9 hE0 kF hkF K09
  go_region_with (go_at_call 77; refine (HE.out _ (by exact below_drewN (Below.refl _ _) _)).mono ?_; rintro e wE ⟨rfl, rfl⟩)
  all_goals go_wp2_with fail
  all_goals refine bodyPost_ret (v := .tuple #[.agg #[.int .i64 2, .int .i64 1, .slice a6 16 c6, .slice a8 1 c8], .bool true]) (by simp [results, Tryz.results49, go_sem, d0, d1, d2, d3]) rfl ?_
  all_goals obtain ⟨ak, ck, ac, cc, h1, h2, h3, h4⟩ := HFIN.out
  all_goals exact ⟨ak, ck, ac, cc, h1, Nums.later h2 (below_drewN (Below.refl _ _) _), ⟨h3.1.later (below_drewN (Below.refl _ _) _), below_up h3.2 (below_drewN (Below.refl _ _) _)⟩, h4⟩
end Go.Proofs.YtcbmhpdhbmjocaaGreat

/-
  dict.Ints at the bytes of the law's known: the keys, the codes.
-/
namespace Go.Proofs.YtcbmhpdhbmjocaaGreat
open Go.ChangeShapes Go.WideShapes Go.ChangeAt Go.RowKit Cu

set_option maxHeartbeats 400000 in
theorem isNaN_any (x : Int) (w : World) : Calls Tryz.prog 83 #[.int .i64 x] w fun e w' => e = .returned (.bool false) ∧ w' = w := by
  go_enter Tryz.func83, Tryz.ntmps83
  go_wp2_with fail
  go_ret
  exact ⟨ret_bool (by simp), rfl⟩
set_option maxHeartbeats 400000 in
theorem less_any (x y : Int) (w : World) (h : x < y) : Calls Tryz.prog 63 #[.int .i64 x, .int .i64 y] w fun e w' => e = .returned (.bool true) ∧ w' = w := by
  have HN := hid (fun z wx => isNaN_any z wx)
  go_enter Tryz.func63, Tryz.ntmps63
  go_wp2_with (go_at_call 83; refine (HN.out _ _).mono ?_; rintro e w2 ⟨rfl, rfl⟩)
  go_ret
  exact ⟨ret_bool (by simp), rfl⟩
set_option maxRecDepth 8000 in
set_option maxHeartbeats 1000000 in
theorem rise_two (g o c : Nat) (x y : Int) (w : World) (h : x < y) (k0 : w.cell? ⟨g, o, none⟩ = some (.int .i64 x)) (k1 : w.cell? ⟨g, o + 1, none⟩ = some (.int .i64 y)) :
    Calls Tryz.prog 61 #[.slice (some ⟨g, o, none⟩) 2 c] w fun e w' => e = .returned (.bool true) ∧ ∃ j, w' = w.drewN j := by
  have HL := hid (fun wx => less_any x y wx h)
  clear h
  go_enter Tryz.func61, Tryz.ntmps61
  go_wp2_with fail
  go_loopw [3] (fun z wr => (z = .int .i64 1 ∧ wr = w) ∨ (z = .int .i64 2 ∧ ∃ j, Hid (wr = w.drewN j))) (fun z _ => 2 - (intOf z).toNat)
  case atStart => exact .inl ⟨rfl, rfl⟩
  case round =>
    rcases hrel with ⟨rfl, hw⟩ | ⟨rfl, j, hw⟩
    · have hw2 := hw.symm
      clear hw
      subst hw2
      go_wp2_with fail
      go_quiet ((go_at_call 63; exact Calls.quiet_of_same (HL.out _)))
      go_wp2_with fail
      exact ⟨.inr ⟨rfl, _, rfl⟩, by simp [intOf]⟩
    · go_wp2_with fail
      go_ret
      exact ⟨rfl, j, hw.out⟩
set_option maxRecDepth 8000 in
set_option maxHeartbeats 1000000 in
theorem index_none (g c : Nat) (w : World) (k0 : w.cell? ⟨g, 0, none⟩ = some (.bool true)) (k1 : w.cell? ⟨g, 1, none⟩ = some (.bool true)) :
    Calls Tryz.prog 106 #[.slice (some ⟨g, 0, none⟩) 2 c, .bool false] w fun e w' => e = .returned (.int .i64 (-1)) ∧ w' = w := by
  go_enter Tryz.func106, Tryz.ntmps106
  go_wp2_with fail
  go_loopw [8] (fun z wr => (z = .int .i64 0 ∨ z = .int .i64 1 ∨ z = .int .i64 2) ∧ wr = w) (fun z _ => 2 - (intOf z).toNat)
  case atStart => exact ⟨.inl rfl, rfl⟩
  case round =>
    obtain ⟨hz, hw⟩ := hrel
    have hw2 := hw.symm
    clear hw
    subst hw2
    rcases hz with rfl | rfl | rfl
    · go_wp2_with fail
      exact ⟨⟨.inr (.inl rfl), trivial⟩, by simp [intOf]⟩
    · go_wp2_with fail
      exact ⟨⟨.inr (.inr rfl), trivial⟩, by simp [intOf]⟩
    · go_wp2_with fail
      go_ret
      exact ⟨rfl, rfl⟩
set_option maxHeartbeats 400000 in
theorem contains_none (g c : Nat) (w : World) (k0 : w.cell? ⟨g, 0, none⟩ = some (.bool true)) (k1 : w.cell? ⟨g, 1, none⟩ = some (.bool true)) :
    Calls Tryz.prog 80 #[.slice (some ⟨g, 0, none⟩) 2 c, .bool false] w fun e w' => e = .returned (.bool false) ∧ w' = w := by
  have HI := hid (index_none g c w k0 k1)
  clear k0 k1
  go_enter Tryz.func80, Tryz.ntmps80
  go_wp2_with fail
  refine HI.out.mono ?_
  rintro e w1 ⟨rfl, rfl⟩
  go_wp2_with fail
  go_ret
  exact ⟨rfl, rfl⟩
theorem infoBool : (Tryz.prog.info? 4).map (fun i => (i.zero, i.size, i.bytes)) = some (some (.bool false), 1, 1) := by kernel_rfl
theorem make_two (w : World) : (Instr.makeSlice 129 (.int .i64 2) (.int .i64 2)).run Tryz.prog w = .ok (.slice (some ⟨w.heap.size, 0, none⟩) 2 2) (w.alloc (.cells #[.bool false, .bool false] 4)) := by
  obtain ⟨i0, hi, hz0, hz1, hz2⟩ := info_parts infoBool
  have hmk := run_make (P := Tryz.prog) w 129 4 i0 (.bool false) Tryz.underlying129 hi hz0 .i64 .i64 ((2 : Nat) : Int) ((2 : Nat) : Int) (by omega) (by omega) (by rw [hz2]; omega) (by omega)
  rw [hz1] at hmk
  have e : madeCells (Value.bool false).cells (((2 : Nat) : Int).toNat * 1) = #[.bool false, .bool false] := by kernel_rfl
  rw [e] at hmk
  exact hmk
set_option maxRecDepth 8000 in
set_option maxHeartbeats 2000000 in
theorem codes_known (vk : Value) (ac : Option Addr) (cc : Nat) (w : World) (hA : Bytes w ac [5]) (hc : 1 ≤ cc) (hc2 : cc ≤ 9223372036854775807) :
    Calls Tryz.prog 51 #[.agg #[.int .i64 2, .int .i64 1, vk, .slice ac 1 cc], .int .i64 3] w fun e w' => e = .returned (.bool true) ∧ Below w.heap.size w w' := by
  have hby : Pk.Byt ((3 * 1 + 7) / 8) (ofL [5]) := by
    refine ⟨fun j => ?_, fun j hj => ?_⟩
    · match j with
      | 0 => decide
      | j + 1 => exact (by decide : (0 : Nat) < 256)
    · match j, hj with
      | 0, hj => exact absurd hj (by decide)
      | j + 1, _ => rfl
  have HU := hid (fun wx (h : Below w.heap.size w wx) => Pk.unpackU16_run ac cc 1 3 (ofL [5]) wx (by omega) (by omega) (by omega) hc2 hby (Nums.later hA h) (by decide))
  have l0 : Pk.laneOf (Pk.bitB (ofL [5])) 1 0 = 1 := by decide
  have l1 : Pk.laneOf (Pk.bitB (ofL [5])) 1 1 = 0 := by decide
  have l2 : Pk.laneOf (Pk.bitB (ofL [5])) 1 2 = 1 := by decide
  clear hby hA hc hc2
  go_enter Tryz.func51, Tryz.ntmps51
  go_wp2_with fail
  have b1 := below_new w (.cells #[.int .i64 2, .int .i64 1, vk, .slice ac 1 cc] 89)
  have k1 := heap_new w (.cells #[.int .i64 2, .int .i64 1, vk, .slice ac 1 cc] 89)
  have H1 := hid (HU.out _ b1)
  obtain ⟨pb, hpb⟩ : ∃ pb, w.heap.size = pb := ⟨_, rfl⟩
  have hs1 : (w.alloc (.cells #[.int .i64 2, .int .i64 1, vk, .slice ac 1 cc] 89)).heap.size = pb + 1 := by simp [hpb]
  generalize w.alloc (.cells #[.int .i64 2, .int .i64 1, vk, .slice ac 1 cc] 89) = w1 at *
  rw [hpb] at k1 ⊢
  have B1 := hid b1
  clear b1 HU
  refine H1.out.mono ?_
  rintro e w2 ⟨b2, hor⟩
  have hor2 : e = .returned (.tuple #[.slice (some ⟨w1.heap.size, 0, none⟩) 3 3, .int .i64 0]) ∧ Pk.Blk w2 w1.heap.size 128 .u16 3 3 (Pk.laneOf (Pk.bitB (ofL [5])) 1) := by
    rcases hor with ⟨_, i, hi, hno⟩ | ⟨_, he, hB⟩
    · exfalso
      have : i = 0 ∨ i = 1 ∨ i = 2 := by omega
      rcases this with rfl | rfl | rfl
      · rw [l0] at hno; exact hno (by decide)
      · rw [l1] at hno; exact hno (by decide)
      · rw [l2] at hno; exact hno (by decide)
    · exact ⟨he, hB⟩
  clear hor
  obtain ⟨rfl, hB⟩ := hor2
  have q0 := hB.cell (j := 0) (by omega)
  have q1 := hB.cell (j := 1) (by omega)
  have q2 := hB.cell (j := 2) (by omega)
  rw [l0] at q0
  rw [l1] at q1
  rw [l2] at q2
  have hgl := hB.lt
  rw [hs1] at q0 q1 q2 hgl ⊢
  have k2 := (b2.block pb (by rw [hs1]; omega)).trans k1
  have B2 := hid (below_up B1.out b2)
  clear hB b2 H1 B1 k1 hs1 l0 l1 l2
  have p0 : w2.cell? ⟨pb, 0, none⟩ = some (.int .i64 2) := by rw [cell_of_row _ _ _ _ _ _ k2]; rfl
  have hmk := make_two w2
  have bm := below_new w2 (.cells #[.bool false, .bool false] 4)
  have km := heap_new w2 (.cells #[.bool false, .bool false] 4)
  have hpl : pb < w2.heap.size := (Array.getElem?_eq_some_iff.1 k2).1
  obtain ⟨gm, hgm⟩ : ∃ gm, w2.heap.size = gm := ⟨_, rfl⟩
  have hsm : (w2.alloc (.cells #[.bool false, .bool false] 4)).heap.size = gm + 1 := by simp [hgm]
  rw [hgm] at hmk km hgl hpl
  have HQ : Hid (∀ wr : World, Below gm (w2.alloc (.cells #[.bool false, .bool false] 4)) wr → wr.cell? ⟨pb, 0, none⟩ = some (.int .i64 2) ∧ wr.cell? ⟨pb + 1, 0, none⟩ = some (.int .u16 ((1 : Nat) : Int)) ∧ wr.cell? ⟨pb + 1, 1, none⟩ = some (.int .u16 ((0 : Nat) : Int)) ∧ wr.cell? ⟨pb + 1, 2, none⟩ = some (.int .u16 ((1 : Nat) : Int))) := fun wr hb => by
    have f : ∀ p : Addr, p.block < gm → wr.cell? p = w2.cell? p := fun p hp => (hb.cell (p := p) hp).trans (bm.cell (p := p) (by rw [hgm]; exact hp))
    exact ⟨(f ⟨pb, 0, none⟩ hpl).trans p0, (f ⟨pb + 1, 0, none⟩ hgl).trans q0, (f ⟨pb + 1, 1, none⟩ hgl).trans q1, (f ⟨pb + 1, 2, none⟩ hgl).trans q2⟩
  have HB : Hid (∀ wr : World, Below gm (w2.alloc (.cells #[.bool false, .bool false] 4)) wr → Below w.heap.size w wr) := fun wr hb => by
    have h2 := below_up B2.out bm
    exact h2.trans (hb.mono (by rw [← hgm]; exact B2.out.size))
  go_wp2_with fail
  clear hmk
  generalize w2.alloc (.cells #[.bool false, .bool false] 4) = w3 at *
  clear q0 q1 q2 p0 k2 B2 bm
  go_loopw [26] (fun z wr => ∃ i : Nat, i ≤ 3 ∧ z = .int .i64 (i : Int) ∧ Hid (Below gm w3 wr ∧ ∃ m0 m1, wr.heap[gm]? = some (.cells #[.bool m0, .bool m1] 4) ∧ (1 ≤ i → m1 = true) ∧ (2 ≤ i → m0 = true))) (fun z _ => 3 - (intOf z).toNat)
  case atStart => exact ⟨0, by omega, rfl, Below.refl _ _, false, false, km, fun h => absurd h (by omega), fun h => absurd h (by omega)⟩
  case round =>
    clear km
    obtain ⟨i, hi, rfl, HS⟩ := hrel
    obtain ⟨hb, m0, m1, hk, h1, h2⟩ := HS.out
    obtain ⟨p0, q0, q1, q2⟩ := HQ.out wr hb
    have hcase : i = 0 ∨ i = 1 ∨ i = 2 ∨ i = 3 := by omega
    have r0 : wr.cell? ⟨gm, 0, none⟩ = some (.bool m0) := by rw [cell_of_row _ _ _ _ _ _ hk]; rfl
    have r1 : wr.cell? ⟨gm, 1, none⟩ = some (.bool m1) := by rw [cell_of_row _ _ _ _ _ _ hk]; rfl
    have f0 : wr.frozen? ⟨gm, 0, none⟩ = false := by simp [World.frozen?, hk]
    have f1 : wr.frozen? ⟨gm, 1, none⟩ = false := by simp [World.frozen?, hk]
    rcases hcase with rfl | rfl | rfl | rfl
    · have HS2 : Hid (Below gm w3 (wr.setCell ⟨gm, 1, none⟩ (.bool true)) ∧ ∃ m0 m1, (wr.setCell ⟨gm, 1, none⟩ (.bool true)).heap[gm]? = some (.cells #[.bool m0, .bool m1] 4) ∧ (1 ≤ 1 → m1 = true) ∧ (2 ≤ 1 → m0 = true)) := ⟨hb.setCell (p := ⟨gm, 1, none⟩) (Nat.le_refl _) _, m0, true, heap_set_rowT (i := 1) hk (.bool true), fun _ => rfl, fun h => absurd h (by omega)⟩
      clear HS hk hb h1 h2
      go_wp2_with fail
      exact ⟨⟨1, by omega, rfl, HS2⟩, by simp [intOf]⟩
    · have HS2 : Hid (Below gm w3 (wr.setCell ⟨gm, 0, none⟩ (.bool true)) ∧ ∃ m0 m1, (wr.setCell ⟨gm, 0, none⟩ (.bool true)).heap[gm]? = some (.cells #[.bool m0, .bool m1] 4) ∧ (1 ≤ 2 → m1 = true) ∧ (2 ≤ 2 → m0 = true)) := ⟨hb.setCell (p := ⟨gm, 0, none⟩) (Nat.le_refl _) _, true, m1, heap_set_rowT (i := 0) hk (.bool true), fun _ => h1 (by omega), fun _ => rfl⟩
      clear HS hk hb h1 h2
      go_wp2_with fail
      exact ⟨⟨2, by omega, rfl, HS2⟩, by simp [intOf]⟩
    · have HS2 : Hid (Below gm w3 (wr.setCell ⟨gm, 1, none⟩ (.bool true)) ∧ ∃ m0 m1, (wr.setCell ⟨gm, 1, none⟩ (.bool true)).heap[gm]? = some (.cells #[.bool m0, .bool m1] 4) ∧ (1 ≤ 3 → m1 = true) ∧ (2 ≤ 3 → m0 = true)) := ⟨hb.setCell (p := ⟨gm, 1, none⟩) (Nat.le_refl _) _, m0, true, heap_set_rowT (i := 1) hk (.bool true), fun _ => rfl, fun _ => h2 (by omega)⟩
      clear HS hk hb h1 h2
      go_wp2_with fail
      exact ⟨⟨3, by omega, rfl, HS2⟩, by simp [intOf]⟩
    · rw [h2 (by omega)] at r0
      rw [h1 (by omega)] at r1
      have HC := hid (contains_none gm 2 wr r0 r1)
      have HF := hid (HB.out wr hb)
      clear HS hk hb h1 h2 r0 r1
      go_wp2_with fail
      refine HC.out.mono ?_
      rintro e w4 ⟨rfl, hw4⟩
      have hw4' := hw4.symm
      clear hw4
      subst hw4'
      go_wp2_with fail
      go_ret
      exact ⟨rfl, HF.out⟩
end Go.Proofs.YtcbmhpdhbmjocaaGreat

/-
  dict's rise and codesMayBe, of any keys and codes.
-/
namespace Go.Proofs.YtcbmhpdhbmjocaaGreat
open Go.ChangeShapes Go.WideShapes Go.ChangeAt Go.RowKit Cu

set_option maxHeartbeats 400000 in
theorem lessB_any (x y : Int) (w : World) : Calls Tryz.prog 63 #[.int .i64 x, .int .i64 y] w fun e w' => e = .returned (.bool (decide (x < y))) ∧ w' = w := by
  have HN := hid (fun z wx => isNaN_any z wx)
  by_cases h : x < y
  · have hd : decide (x < y) = true := by simpa using h
    rw [hd]
    exact less_any x y w h
  · have hd : decide (x < y) = false := by simpa using h
    rw [hd]
    go_enter Tryz.func63, Tryz.ntmps63
    go_wp2_with (go_at_call 83; refine (HN.out _ _).mono ?_; rintro e w2 ⟨rfl, rfl⟩)
    go_ret
    exact ⟨ret_bool (by simp), rfl⟩
def riseB (K : List Int) : Bool := decide (∀ t, t < K.length - 1 → K.getD t 0 < K.getD (t + 1) 0)
set_option maxRecDepth 8000 in
set_option maxHeartbeats 1000000 in
theorem rise_any (a : Option Addr) (K : List Int) (c : Nat) (w : World) (hA : IntsA w a K) (hn : K.length ≤ 1099511627775) :
    Calls Tryz.prog 61 #[.slice a K.length c] w fun e w' => e = .returned (.bool (riseB K)) ∧ ∃ j, w' = w.drewN j := by
  have HA := hid hA
  have HL := hid (fun x y wx => lessB_any x y wx)
  clear hA
  go_enter Tryz.func61, Tryz.ntmps61
  go_wp2_with fail
  go_loopw [3] (fun z wr => ∃ i j : Nat, 1 ≤ i ∧ (i ≤ K.length ∨ i = 1) ∧ z = .int .i64 (i : Int) ∧ Hid (wr = w.drewN j ∧ ∀ t, t + 1 < i → K.getD t 0 < K.getD (t + 1) 0)) (fun z _ => K.length - (intOf z).toNat)
  case atStart => exact ⟨1, 0, Nat.le_refl _, .inr rfl, rfl, rfl, fun t ht => absurd ht (by omega)⟩
  case round =>
    obtain ⟨i, j, hi, hil, rfl, HS⟩ := hrel
    obtain ⟨p, rfl⟩ : ∃ p, i = p + 1 := ⟨i - 1, by omega⟩
    by_cases hlt : p + 1 < K.length
    · have hs0 : K[p]? = some (K.getD p 0) := by rw [List.getD_eq_getElem?_getD, List.getElem?_eq_getElem (by omega)]; rfl
      have hs1 : K[p + 1]? = some (K.getD (p + 1) 0) := by rw [List.getD_eq_getElem?_getD, List.getElem?_eq_getElem hlt]; rfl
      have hw : wr.heap = w.heap := by rw [HS.out.1]; rfl
      obtain ⟨g, o, rfl, hg, hc0⟩ := HA.out p _ hs0
      obtain ⟨g', o', eq, _, hc1⟩ := HA.out (p + 1) _ hs1
      cases eq
      have d0 : wr.cell? ⟨g, o + p, none⟩ = some (.int .i64 (K.getD p 0)) := by rw [World.cell?_of_block (w := w) (by rw [hw])]; exact hc0
      have d1 : wr.cell? ⟨g, o + (p + 1), none⟩ = some (.int .i64 (K.getD (p + 1) 0)) := by rw [World.cell?_of_block (w := w) (by rw [hw])]; exact hc1
      obtain ⟨q, hq⟩ : ∃ q, p + 1 = q := ⟨_, rfl⟩
      have HLL := hid (fun wx => HL.out (K.getD p 0) (K.getD (p + 1) 0) wx)
      have e1 : ((q : Nat) : Int) - 1 = (p : Int) := by omega
      have HQ := hid hq
      rw [hq] at d1 hlt HLL ⊢
      have hqi : (q : Int) < (K.length : Int) := by omega
      have hpi : (p : Int) < (K.length : Int) := by omega
      have hpw : IntKind.i64.wrap (p : Int) = (p : Int) := Pk.i64_left _ (by omega) (by omega)
      by_cases hr : K.getD p 0 < K.getD q 0
      · have hd : decide (K.getD p 0 < K.getD q 0) = true := by simpa using hr
        rw [hd] at HLL
        have HS2 : Hid (∀ t, t + 1 < q + 1 → K.getD t 0 < K.getD (t + 1) 0) := fun t ht => by
          have := HQ.out
          by_cases h : t = p
          · subst h; rw [this]; exact hr
          · exact HS.out.2 t (by omega)
        have HJ := hid HS.out.1
        clear HS hd hr hs0 hs1 hc0 hc1 hw hq
        generalize K.getD p 0 = x0 at d0 HLL
        generalize K.getD q 0 = x1 at d1 HLL
        go_wp2_with fail
        go_quiet ((go_at_call 63; exact Calls.quiet_of_same (HLL.out _)))
        go_wp2_with fail
        exact ⟨⟨q + 1, j + nq, by omega, .inl (by omega), by go_num, by rw [HJ.out, World.drewN_drewN], HS2.out⟩, by simp [intOf]; omega⟩
      · have hd : decide (K.getD p 0 < K.getD q 0) = false := by simpa using hr
        rw [hd] at HLL
        have HR : Hid (riseB K = false) := by
          show riseB K = false
          unfold riseB
          rw [decide_eq_false_iff_not]
          intro h
          have := HQ.out
          have h2 := h p (by omega)
          rw [this] at h2
          exact hr h2
        have HJ := hid HS.out.1
        clear HS hd hr hs0 hs1 hc0 hc1 hw hq
        generalize K.getD p 0 = x0 at d0 HLL
        generalize K.getD q 0 = x1 at d1 HLL
        go_wp2_with fail
        go_quiet ((go_at_call 63; exact Calls.quiet_of_same (HLL.out _)))
        go_wp2_with fail
        go_ret
        rw [HR.out, HJ.out]
        exact ⟨rfl, j + nq, by rw [World.drewN_drewN]⟩
    · have hqi : ¬ ((p + 1 : Nat) : Int) < (K.length : Int) := by omega
      have HR : Hid (riseB K = true) := by
        show riseB K = true
        unfold riseB
        rw [decide_eq_true_eq]
        intro t ht
        exact HS.out.2 t (by omega)
      have HJ := hid HS.out.1
      obtain ⟨q, hq⟩ : ∃ q, p + 1 = q := ⟨_, rfl⟩
      rw [hq] at hqi ⊢
      clear HS hq
      go_wp2_with fail
      go_ret
      rw [HR.out, HJ.out]
      exact ⟨rfl, _, rfl⟩
/-- A block of booleans. -/
def BB (w : World) (g K : Nat) (M : Nat → Bool) : Prop := ∃ cur : Array Value, w.heap[g]? = some (.cells cur 4 (0, 0)) ∧ cur.size = K ∧ ∀ k, k < K → cur[k]? = some (.bool (M k))
theorem BB.cell {w : World} {g K : Nat} {M : Nat → Bool} (h : BB w g K M) {k : Nat} (hk : k < K) : w.cell? ⟨g, k, none⟩ = some (.bool (M k)) := by
  obtain ⟨cur, h1, h2, h3⟩ := h
  rw [cell_of_row _ _ _ _ _ _ h1]
  exact h3 k hk
theorem BB.frozen {w : World} {g K : Nat} {M : Nat → Bool} (h : BB w g K M) (k : Nat) : w.frozen? ⟨g, k, none⟩ = false := by
  obtain ⟨cur, h1, _⟩ := h
  simp [World.frozen?, h1]
theorem BB.store {w : World} {g K : Nat} {M N : Nat → Bool} (h : BB w g K M) (k : Nat) (hN : ∀ j, j < K → N j = if j = k then true else M j) : BB (w.setCell ⟨g, k, none⟩ (.bool true)) g K N := by
  obtain ⟨cur, h1, h2, h3⟩ := h
  refine ⟨cur.setIfInBounds k (.bool true), heap_set_rowT (i := k) h1 (.bool true), by simp [h2], fun j hj => ?_⟩
  rw [Array.getElem?_setIfInBounds, hN j hj]
  by_cases hjk : k = j
  · subst hjk
    rw [if_pos rfl, if_pos (by omega), if_pos rfl]
  · rw [if_neg hjk, if_neg (fun e => hjk e.symm)]
    exact h3 j hj
theorem BB.made (w : World) (K : Nat) : BB (w.alloc (.cells (madeCells #[.bool false] K) 4)) w.heap.size K (fun _ => false) := by
  refine ⟨_, heap_new _ _, by simp [madeCells], fun k hk => ?_⟩
  simp [madeCells, hk, Nat.mod_one]
set_option maxRecDepth 8000 in
set_option maxHeartbeats 1000000 in
theorem index_any (g c K : Nat) (M : Nat → Bool) (w : World) (h : BB w g K M) (hK : K ≤ 1099511627775) :
    Calls Tryz.prog 106 #[.slice (some ⟨g, 0, none⟩) K c, .bool false] w fun e w' => ∃ r : Int, e = .returned (.int .i64 r) ∧ w' = w ∧ ((r = -1 ∧ ∀ k, k < K → M k = true) ∨ (0 ≤ r ∧ ∃ k, k < K ∧ M k = false)) := by
  have HH := hid h
  clear h
  go_enter Tryz.func106, Tryz.ntmps106
  go_wp2_with fail
  go_loopw [8] (fun z wr => ∃ i : Nat, i ≤ K ∧ z = .int .i64 (i : Int) ∧ wr = w ∧ Hid (∀ k, k < i → M k = true)) (fun z _ => K - (intOf z).toNat)
  case atStart => exact ⟨0, Nat.zero_le _, rfl, rfl, fun k hk => absurd hk (by omega)⟩
  case round =>
    obtain ⟨i, hi, rfl, hw, HM⟩ := hrel
    have hw2 := hw.symm
    clear hw
    subst hw2
    by_cases hlt : i < K
    · have hc := HH.out.cell hlt
      have hii : (i : Int) < (K : Int) := by omega
      cases hm : M i with
      | true =>
        rw [hm] at hc
        have HM2 : Hid (∀ k, k < i + 1 → M k = true) := fun k hk => by
          by_cases h : k = i
          · subst h; exact hm
          · exact HM.out k (by omega)
        clear HM hm
        go_wp2_with fail
        exact ⟨⟨i + 1, by omega, by go_num, by first | trivial | rfl, HM2⟩, by simp [intOf]; omega⟩
      | false =>
        rw [hm] at hc
        have HX : Hid (∃ k, k < K ∧ M k = false) := ⟨i, hlt, hm⟩
        clear HM hm
        go_wp2_with fail
        go_ret
        exact ⟨_, rfl, rfl, .inr ⟨by omega, HX.out⟩⟩
    · have hii : ¬ (i : Int) < (K : Int) := by omega
      obtain rfl : i = K := by omega
      go_wp2_with fail
      go_ret
      exact ⟨_, rfl, rfl, .inl ⟨rfl, HM.out⟩⟩
set_option maxHeartbeats 400000 in
theorem contains_any (g c K : Nat) (M : Nat → Bool) (w : World) (h : BB w g K M) (hK : K ≤ 1099511627775) :
    Calls Tryz.prog 80 #[.slice (some ⟨g, 0, none⟩) K c, .bool false] w fun e w' => e = .returned (.bool (!decide (∀ k, k < K → M k = true))) ∧ w' = w := by
  have HI := hid (index_any g c K M w h hK)
  clear h
  go_enter Tryz.func80, Tryz.ntmps80
  go_wp2_with fail
  refine HI.out.mono ?_
  rintro e w1 ⟨r, rfl, hw, hor⟩
  have hw2 := hw.symm
  clear hw HI
  subst hw2
  rcases hor with ⟨rfl, hall⟩ | ⟨hr, k, hk, hm⟩
  · have hd : decide (∀ k, k < K → M k = true) = true := by simpa using hall
    have HD := hid hd
    clear hd hall
    go_wp2_with fail
    go_ret
    exact ⟨by rw [HD.out]; rfl, rfl⟩
  · have hd : decide (∀ k, k < K → M k = true) = false := by
      rw [decide_eq_false_iff_not]
      intro h
      rw [h k hk] at hm
      cases hm
    have hr2 : decide (0 ≤ r) = true := by simpa using hr
    have HD := hid hd
    clear hd hm
    go_wp2_with fail
    go_ret
    exact ⟨by rw [HD.out]; rfl, rfl⟩
end Go.Proofs.YtcbmhpdhbmjocaaGreat

/-
  dict's codesMayBe, of any codes.
-/
namespace Go.Proofs.YtcbmhpdhbmjocaaGreat
open Go.ChangeShapes Go.WideShapes Go.ChangeAt Go.RowKit Cu

/-- The code at a place. -/
def lnC (CB : List Nat) (wk i : Nat) : Nat := Pk.laneOf (Pk.bitB (ofL CB)) wk i
def MayC (k n : Nat) (CB : List Nat) : Prop := Pk.wordZ (Pk.bitB (ofL CB)) ((n * wd k : Nat) : Int) = 0 ∧ (∀ i, i < n → lnC CB (wd k) i < k) ∧ ∀ x, x < k → ∃ i, i < n ∧ lnC CB (wd k) i = x
theorem wd_le16 {k : Nat} (hk : k ≤ 65536) : wd k ≤ 16 := by
  unfold wd
  split
  · omega
  · exact (Pk.bitLen_fits (by omega) (by omega)).2 (by omega)
def seen (L : Nat → Nat) (i x : Nat) : Bool := (List.range i).any (fun t => L t == x)
theorem seen_next (L : Nat → Nat) (i x : Nat) : seen L (i + 1) x = if x = L i then true else seen L i x := by
  unfold seen
  rw [List.range_succ, List.any_append]
  by_cases h : x = L i
  · rw [if_pos h, h]; simp
  · rw [if_neg h]
    have : (L i == x) = false := by simp; exact fun e => h e.symm
    simp [this]
theorem seen_iff (L : Nat → Nat) (i x : Nat) : seen L i x = true ↔ ∃ t, t < i ∧ L t = x := by
  unfold seen
  rw [List.any_eq_true]
  constructor
  · rintro ⟨t, ht, h⟩
    exact ⟨t, List.mem_range.1 ht, by simpa using h⟩
  · rintro ⟨t, ht, h⟩
    exact ⟨t, List.mem_range.2 ht, by simpa using h⟩
theorem byt_of {CB : List Nat} {m : Nat} (hb : ∀ x ∈ CB, x < 256) (hlen : CB.length = m) : Pk.Byt m (ofL CB) := by
  refine ⟨fun j => ofL_small (by decide) hb j, fun j hj => ?_⟩
  unfold ofL
  rw [List.getD_eq_getElem?_getD, List.getElem?_eq_none (by omega)]
  rfl
set_option maxRecDepth 8000 in
set_option maxHeartbeats 4000000 in
theorem codes_any (vk : Value) (k n : Nat) (ac : Option Addr) (CB : List Nat) (cc : Nat) (w : World) (hA : Bytes w ac CB) (hb : ∀ x ∈ CB, x < 256) (hk : k ≤ 65536) (hn : n ≤ 16777216) (hlen : CB.length = (n * wd k + 7) / 8) (hc : CB.length ≤ cc) (hc2 : cc ≤ 9223372036854775807) :
    Calls Tryz.prog 51 #[.agg #[.int .i64 (k : Int), .int .i64 (wd k : Int), vk, .slice ac CB.length cc], .int .i64 (n : Int)] w fun e w' => ∃ r : Bool, e = .returned (.bool r) ∧ (r = true ↔ MayC k n CB) ∧ Below w.heap.size w w' := by
  have hw16 := wd_le16 hk
  have hby := byt_of hb hlen
  have hA' : Pk.Nums w .u8 ac ((n * wd k + 7) / 8) (ofL CB) := by rw [← hlen]; exact hA
  have b1 := below_new w (.cells #[.int .i64 (k : Int), .int .i64 (wd k : Int), vk, .slice ac CB.length cc] 89)
  have k1 := heap_new w (.cells #[.int .i64 (k : Int), .int .i64 (wd k : Int), vk, .slice ac CB.length cc] 89)
  obtain ⟨pb, hpb⟩ : ∃ pb, w.heap.size = pb := ⟨_, rfl⟩
  have hs1 : (w.alloc (.cells #[.int .i64 (k : Int), .int .i64 (wd k : Int), vk, .slice ac CB.length cc] 89)).heap.size = pb + 1 := by simp [hpb]
  by_cases hz : Pk.wordZ (Pk.bitB (ofL CB)) ((n * wd k : Nat) : Int) = 0
  · have HU := hid (fun wx (h : Below w.heap.size w wx) => Pk.unpackU16_run ac cc (wd k) n (ofL CB) wx hn (by omega) (by omega) hc2 hby (Pk.Nums.later hA' h) hz)
    have HMAY : Hid (MayC k n CB ↔ ((∀ i, i < n → lnC CB (wd k) i < k) ∧ ∀ x, x < k → ∃ i, i < n ∧ lnC CB (wd k) i = x)) := by unfold MayC; exact ⟨fun h => h.2, fun h => ⟨hz, h⟩⟩
    have HLN : Hid (∀ i, Pk.laneOf (Pk.bitB (ofL CB)) (wd k) i = lnC CB (wd k) i ∧ lnC CB (wd k) i < 65536) := fun i => ⟨rfl, Nat.lt_of_lt_of_le (Pk.laneOf_lt _ _ _) (Nat.pow_le_pow_right (n := 2) (by omega) hw16)⟩
    obtain ⟨i0, hi, hz0, hz1, hz2⟩ := info_parts infoBool
    have hmk := fun wx => run_make (P := Tryz.prog) wx 129 4 i0 (.bool false) Tryz.underlying129 hi hz0 .i64 .i64 (k : Int) (k : Int) (by omega) (by omega) (by rw [hz2]; omega) (by omega)
    simp only [hz1, Int.toNat_natCast, Nat.mul_one] at hmk
    rw [← hlen] at HU
    clear hby hA hA' hc hc2 hb hlen hi hz0 hz1 hz2 hz hw16
    generalize lnC CB (wd k) = L at *
    generalize wd k = wk at *
    go_enter Tryz.func51, Tryz.ntmps51
    go_wp2_with fail
    have H1 := hid (HU.out _ b1)
    generalize w.alloc (.cells #[.int .i64 (k : Int), .int .i64 (wk : Int), vk, .slice ac CB.length cc] 89) = w1 at *
    rw [hpb] at k1
    have B1 := hid b1
    clear b1 HU
    refine H1.out.mono ?_
    rintro e w2 ⟨b2, hor⟩
    have hor2 : e = .returned (.tuple #[.slice (some ⟨w1.heap.size, 0, none⟩) n n, .int .i64 0]) ∧ Pk.Blk w2 w1.heap.size 128 .u16 n n L := by
      rcases hor with ⟨_, i, hi, hno⟩ | ⟨_, he, hB⟩
      · exfalso
        rw [(HLN.out i).1] at hno
        exact hno (HLN.out i).2
      · exact ⟨he, Pk.Blk.ext hB (fun j _ => (HLN.out j).1)⟩
    clear hor
    obtain ⟨rfl, hB⟩ := hor2
    have hgl := hB.lt
    rw [hs1] at hB hgl ⊢
    have k2 := (b2.block pb (by rw [hs1]; omega)).trans k1
    have B2 := hid (below_up B1.out b2)
    have HBL := hid hB
    have HL6 : Hid (∀ i, L i < 65536) := fun i => (HLN.out i).2
    clear hB b2 H1 B1 k1 hs1 HLN
    have p0 : w2.cell? ⟨pb, 0, none⟩ = some (.int .i64 (k : Int)) := by rw [cell_of_row _ _ _ _ _ _ k2]; rfl
    have bm := below_new w2 (.cells (madeCells #[.bool false] k) 4)
    have KM := hid (BB.made w2 k)
    have hpl : pb < w2.heap.size := (Array.getElem?_eq_some_iff.1 k2).1
    have hmk2 := hmk w2
    obtain ⟨gm, hgm⟩ : ∃ gm, w2.heap.size = gm := ⟨_, rfl⟩
    rw [hgm] at KM hgl hpl hmk2
    have HQ : Hid (∀ wr : World, Below gm (w2.alloc (.cells (madeCells #[.bool false] k) 4)) wr → wr.cell? ⟨pb, 0, none⟩ = some (.int .i64 (k : Int)) ∧ ∀ i, i < n → wr.cell? ⟨pb + 1, i, none⟩ = some (.int .u16 (L i : Int))) := fun wr hb => by
      have f : ∀ p : Addr, p.block < gm → wr.cell? p = w2.cell? p := fun p hp => (hb.cell (p := p) hp).trans (bm.cell (p := p) (by rw [hgm]; exact hp))
      exact ⟨(f ⟨pb, 0, none⟩ hpl).trans p0, fun i hi => (f ⟨pb + 1, i, none⟩ hgl).trans (HBL.out.cell hi)⟩
    have HB : Hid (∀ wr : World, Below gm (w2.alloc (.cells (madeCells #[.bool false] k) 4)) wr → Below w.heap.size w wr) := fun wr hb => by
      have h2 := below_up B2.out bm
      exact h2.trans (hb.mono (by rw [← hgm]; exact B2.out.size))
    clear hmk
    go_wp2_with fail
    clear hmk2
    generalize w2.alloc (.cells (madeCells #[.bool false] k) 4) = w3 at *
    clear p0 k2 B2 bm HBL
    go_loopw [26] (fun z wr => ∃ i : Nat, i ≤ n ∧ z = .int .i64 (i : Int) ∧ Hid (Below gm w3 wr ∧ BB wr gm k (seen L i) ∧ ∀ t, t < i → L t < k)) (fun z _ => n - (intOf z).toNat)
    case atStart => exact ⟨0, Nat.zero_le _, rfl, Below.refl _ _, KM.out, fun t ht => absurd ht (by omega)⟩
    case round =>
      clear KM
      obtain ⟨i, hi, rfl, HS⟩ := hrel
      obtain ⟨hb, hM, hall⟩ := HS.out
      obtain ⟨p0, q0⟩ := HQ.out wr hb
      by_cases hlt : i < n
      · have hq := q0 i hlt
        have hii : (i : Int) < (n : Int) := by omega
        have hL6 := HL6.out i
        by_cases hlk : L i < k
        · have hcl := hM.cell hlk
          have hfz := hM.frozen (L i)
          have HS2 : Hid (Below gm w3 (wr.setCell ⟨gm, L i, none⟩ (.bool true)) ∧ BB (wr.setCell ⟨gm, L i, none⟩ (.bool true)) gm k (seen L (i + 1)) ∧ ∀ t, t < i + 1 → L t < k) := ⟨hb.setCell (p := ⟨gm, L i, none⟩) (Nat.le_refl _) _, hM.store (L i) (fun j _ => seen_next L i j), fun t ht => by
            by_cases h : t = i
            · subst h; exact hlk
            · exact hall t (by omega)⟩
          have hlk' : (L i : Int) < (k : Int) := by omega
          have hlk2 : ¬ (k : Int) ≤ (L i : Int) := by omega
          clear HS hb hM hall q0
          generalize seen L i (L i) = b0 at hcl
          generalize L i = x at *
          go_wp2_with fail
          exact ⟨⟨i + 1, by omega, by go_num, HS2⟩, by simp [intOf]; omega⟩
        · have HNO : Hid (¬ MayC k n CB) := fun h => hlk ((HMAY.out.1 h).1 i hlt)
          have HF := hid (HB.out wr hb)
          have hlk2 : (k : Int) ≤ (L i : Int) := by omega
          clear HS hb hM hall q0
          generalize L i = x at *
          go_wp2_with fail
          go_ret
          exact ⟨false, rfl, ⟨fun h => (by cases h), fun h => absurd h HNO.out⟩, HF.out⟩
      · have hii : ¬ (i : Int) < (n : Int) := by omega
        obtain rfl : i = n := by omega
        have HC := hid (contains_any gm k k (seen L i) wr hM (by omega))
        have HF := hid (HB.out wr hb)
        have HY : Hid (decide (∀ x, x < k → seen L i x = true) = true ↔ MayC k i CB) := by
          show _ ↔ _
          rw [HMAY.out, decide_eq_true_eq]
          constructor
          · intro h
            exact ⟨hall, fun x hx => (seen_iff L i x).1 (h x hx)⟩
          · intro h x hx
            exact (seen_iff L i x).2 (h.2 x hx)
        generalize decide (∀ x, x < k → seen L i x = true) = bb at HC HY
        clear HS hb hM hall q0
        go_wp2_with fail
        refine HC.out.mono ?_
        rintro e w4 ⟨rfl, hw4⟩
        have hw4' := hw4.symm
        clear hw4
        subst hw4'
        go_wp2_with fail
        go_ret
        exact ⟨bb, ret_bool (by simp), HY.out, HF.out⟩
  · have HU := hid (fun wx (h : Below w.heap.size w wx) => Pk.unpackU16_left ac cc (wd k) n (ofL CB) wx hn (by omega) (by omega) hc2 hby (Pk.Nums.later hA' h) hz)
    have HNO : Hid (¬ MayC k n CB) := fun h => hz h.1
    rw [← hlen] at HU
    clear hby hA hA' hc hc2 hb hlen hz hw16
    generalize wd k = wk at *
    go_enter Tryz.func51, Tryz.ntmps51
    go_wp2_with fail
    have H1 := hid (HU.out _ b1)
    generalize w.alloc (.cells #[.int .i64 (k : Int), .int .i64 (wk : Int), vk, .slice ac CB.length cc] 89) = w1 at *
    have B1 := hid b1
    clear b1 HU
    refine H1.out.mono ?_
    rintro e w2 ⟨rfl, j, hw2⟩
    have HB2 : Hid (Below w.heap.size w w2) := by show Below _ _ _; rw [hw2]; exact below_drewN B1.out j
    clear hw2 B1
    go_wp2_with fail
    go_ret
    exact ⟨false, rfl, ⟨fun h => (by cases h), fun h => absurd h HNO.out⟩, HB2.out⟩
end Go.Proofs.YtcbmhpdhbmjocaaGreat

/-
  dict.cut of any bytes. (Written by mkcut.py out of DRead.)
-/
namespace Go.Proofs.YtcbmhpdhbmjocaaGreat
open Go.ChangeShapes Go.WideShapes Go.ChangeAt Go.RowKit Cu

set_option maxRecDepth 8000 in
set_option maxHeartbeats 4000000 in
theorem cut_fit (a : Option Addr) (b : List Nat) (c n k lf sz : Nat) (r1 r2 r3 : Cr.Cu.Rd) (KB CB : List Nat) (E : Int) (w : World) (hA : Bytes w a b) (ha : a = none → b.length = 0 ∧ c = 0) (hlt : ∀ x ∈ b, x < 256) (hl : b.length + 20 ≤ 140737488355328) (hn : n ≤ 16777216) (hk : k ≤ 65536) (e3 : Cr.Cu.Rd.uv ⟨b, 0, 0⟩ = (k, r1)) (hlf : Cr.Rd.left r1 = lf) (hlfb : lf ≤ 140737488355328) (hsz : (n * wd k + 7) / 8 = sz) (e7 : Cr.Cu.Rd.bytes r1 ((lf : Int) - (sz : Int)) = (KB, r2)) (e8 : Cr.Cu.Rd.bytes r2 (sz : Int) = (CB, r3)) (hE0 : (if r3.e = 0 ∧ r3.at' < r3.l.length then 72 else (r3.e : Int)) = E) (ok : Bool) (hok : decide (E = 0) = ok) :
    Calls Tryz.prog 49 #[.slice a b.length c, .int .i64 (n : Int)] w fun e w' => ∃ ak ck ac cc, e = .returned (.tuple #[.agg #[.int .i64 (k : Int), .int .i64 (wd k : Int), .slice ak KB.length ck, .slice ac CB.length cc], .bool ok]) ∧ Bytes w' ak KB ∧ NewL w w' (.slice ac CB.length cc) CB ∧ (KB.length ≤ ck ∧ ck ≤ maxLen) := by
  have hkw := wd_le hk
  have hszb : sz ≤ 134217728 := by have := Pk.mul_small hn hkw; omega
  have HBN : Hid (Pk.byteN (n : Int) (wd k : Int) = (sz : Int) ∧ Pk.byteE (n : Int) (wd k : Int) = 0) := ⟨by rw [Pk.byteN_nat hn hkw, hsz], Pk.byteE_nat hn hkw⟩
  have HW4 := hid (fun wx => widthOf_any k wx hk)
  have hkc : ¬ (65536 : Int) < (k : Int) := by omega
  generalize wd k = wk at *
  have HO := hid (fun wx (h : Below w.heap.size w wx) => Cr.pOpen a b c wx (show Cr.Bytes wx a b from hA.later h) ha hlt hl)
  clear ha hA hlt hsz
  go_enter Tryz.func49, Tryz.ntmps49
  go_wp2_with fail
  refine (HO.out _ (below_new _ _)).mono ?_
  rintro e w2 ⟨g, rfl, h2, b2⟩
  have H2 := hid h2
  have B2 := hid b2
  clear h2 b2 HO
  go_wp2_with fail
  refine (Cr.pUv H2.out).mono ?_
  rintro e w3 ⟨rfl, h3, t3⟩
  rw [e3] at h3 ⊢
  have H3 := hid h3
  have T3 := hid t3
  clear h3 t3 e3 H2
  go_wp2_with fail
  refine (HW4.out w3).mono ?_
  rintro e w4 ⟨rfl, hw4⟩
  have hw4' := hw4.symm
  clear hw4
  subst hw4'
  clear HW4
  go_wp2_with fail
  refine (Pk.bytes_any (n : Int) (wk : Int) _).mono ?_
  rw [HBN.out.1, HBN.out.2]
  rintro e w5 ⟨rfl, hw5⟩
  have hw5' := hw5.symm
  clear hw5 HBN
  subst hw5'
  go_wp2_with fail
  obtain ⟨b0, hb0⟩ : ∃ b0, w.heap.size = b0 := ⟨_, rfl⟩
  obtain ⟨pb, hpb⟩ : ∃ pb, w3.heap.size = pb := ⟨_, rfl⟩
  have hlo : (w.alloc (.cells #[.int .i64 0, .int .i64 0, .slice none 0 0, .slice none 0 0] 89)).heap.size = b0 + 1 := by simp [hb0]
  have hgl : b0 + 1 ≤ g := by rw [← hlo]; exact H3.out.glo
  have hgh : g < pb := by have h1 := H3.out.ghi; have h2 := T3.out.size; omega
  have k0 : w3.heap[b0]? = some (.cells #[.int .i64 0, .int .i64 0, .slice none 0 0, .slice none 0 0] 89) := by
    have hs2 : b0 < w2.heap.size := by have := B2.out.size; rw [hlo] at this; omega
    rw [T3.out.block b0 hs2 (by omega), B2.out.block b0 (by rw [hlo]; omega), ← hb0]
    exact heap_new _ _
  have B3 : Hid (Below w.heap.size w w3) := by
    have h1 : Below w.heap.size w w2 := below_up (below_new _ _) (B2.out.mono (by rw [hlo]; omega))
    exact h1.trans ⟨T3.out.os, T3.out.tape, T3.out.output, T3.out.size, fun j hj => T3.out.block j (by have := h1.size; omega) (by omega)⟩
  have bA := below_new w3 (.cells #[.int .i64 (k : Int), .int .i64 (wk : Int), .slice none 0 0, .slice none 0 0] 89)
  have HA := hid (H3.out.later bA)
  have BA := hid (below_up B3.out bA)
  have k0A := (bA.block b0 (by have := (Array.getElem?_eq_some_iff.1 k0).1; omega)).trans k0
  have kpA := heap_new w3 (.cells #[.int .i64 (k : Int), .int .i64 (wk : Int), .slice none 0 0, .slice none 0 0] 89)
  have hsA : (w3.alloc (.cells #[.int .i64 (k : Int), .int .i64 (wk : Int), .slice none 0 0, .slice none 0 0] 89)).heap.size = pb + 1 := by simp [hpb]
  rw [hpb] at kpA ⊢
  rw [hlo] at HA
  rw [hb0] at BA ⊢
  generalize w3.alloc (.cells #[.int .i64 (k : Int), .int .i64 (wk : Int), .slice none 0 0, .slice none 0 0] 89) = wA at *
  have hhi : w2.heap.size ≤ pb := by rw [← hpb]; exact T3.out.size
  generalize w2.heap.size = hi2 at *
  clear B3 bA H3 T3 B2 k0 hpb hlo
  refine (Cr.pLeft HA.out).mono ?_
  rintro e w5 ⟨rfl, hw5⟩
  have hw5' := hw5.symm
  clear hw5
  subst hw5'
  rw [hlf]
  clear hlf
  go_wp2_with fail
  refine (Cr.pBytes HA.out ((lf : Int) - (sz : Int)) (by omega) (by omega)).mono ?_
  rw [e7]
  rintro e w6 ⟨v6, rfl, o6, h6, t6⟩
  clear e7
  have k06 := (t6.block b0 (by rw [hsA]; omega) (by omega)).trans k0A
  have kp6 := (t6.block pb (by rw [hsA]; omega) (by omega)).trans kpA
  have o6' : Own w6 (pb + 1) 5 .u8 v6 KB.length (ofL KB) := by rw [← hsA]; exact o6
  obtain ⟨a6, c6, rfl, n6, m6, _⟩ := o6'.form
  have hs6 : pb + 1 ≤ w6.heap.size := by rw [← hsA]; exact t6.size
  have c6p : w6.cell? ⟨pb, 2, none⟩ = some (.slice none 0 0) := by rw [cell_of_row _ _ _ _ _ _ kp6]; rfl
  have f6p : w6.frozen? ⟨pb, 2, none⟩ = false := by simp [World.frozen?, kp6]
  have kp7 := heap_set_rowT (i := 2) kp6 (.slice a6 KB.length c6)
  have k07 := (Below.heap_setCell w6 ⟨pb, 2, none⟩ (.slice a6 KB.length c6) b0 (by show b0 ≠ pb; omega)).trans k06
  have H7 := hid (h6.stay (w' := w6.setCell ⟨pb, 2, none⟩ (.slice a6 KB.length c6)) (fun j _ hj => Below.heap_setCell _ _ _ _ (by show j ≠ pb; omega)) (by simp [World.setCell]))
  have O7 : Hid (Own (w6.setCell ⟨pb, 2, none⟩ (.slice a6 KB.length c6)) (pb + 1) 5 .u8 (.slice a6 KB.length c6) KB.length (ofL KB)) := row_kept o6' (fun j hj => Below.heap_setCell _ _ _ _ (by show j ≠ pb; have := (World.ownsRow.lt o6' j hj).1; omega))
  have BA6 : Hid (Below b0 w w6) := by
    have h1 := BA.out
    rw [← hb0] at h1 ⊢
    exact h1.trans ⟨t6.os, t6.tape, t6.output, t6.size, fun j hj => t6.block j (by have := h1.size; omega) (by omega)⟩
  have B7 : Hid (Below b0 w (w6.setCell ⟨pb, 2, none⟩ (.slice a6 KB.length c6))) := BA6.out.setCell (p := ⟨pb, 2, none⟩) (by show b0 ≤ pb; omega) _
  have hs7 : pb + 1 ≤ (w6.setCell ⟨pb, 2, none⟩ (.slice a6 KB.length c6)).heap.size := by simp [World.setCell]; exact hs6
  have N6 := hid (And.intro n6 m6)
  clear k06 kp6 o6 o6' h6 t6 n6 m6 BA BA6 k0A kpA HA hsA
  go_wp2_with fail
  clear c6p f6p
  generalize w6.setCell ⟨pb, 2, none⟩ (.slice a6 KB.length c6) = w7 at *
  clear hs6
  refine (Cr.pBytes H7.out (sz : Int) (by omega) (by omega)).mono ?_
  rw [e8]
  rintro e w8 ⟨v8, rfl, o8, h8, t8⟩
  clear e8
  have k08 := (t8.block b0 (by omega) (by omega)).trans k07
  have kp8 := (t8.block pb (by omega) (by omega)).trans kp7
  have O8a : Own w8 (pb + 1) 5 .u8 (.slice a6 KB.length c6) KB.length (ofL KB) := row_kept O7.out (fun j hj => t8.block j (World.ownsRow.lt O7.out j hj).2 (by have := (World.ownsRow.lt O7.out j hj).1; omega))
  have o8' : Own w8 (pb + 1) 5 .u8 v8 CB.length (ofL CB) := Own.low o8 hs7
  obtain ⟨a8, c8, rfl, _, _, _⟩ := o8'.form
  have hs8 : pb + 1 ≤ w8.heap.size := Nat.le_trans hs7 t8.size
  have c8p : w8.cell? ⟨pb, 3, none⟩ = some (.slice none 0 0) := by rw [cell_of_row _ _ _ _ _ _ kp8]; rfl
  have f8p : w8.frozen? ⟨pb, 3, none⟩ = false := by simp [World.frozen?, kp8]
  have kp9 := heap_set_rowT (i := 3) kp8 (.slice a8 CB.length c8)
  have k09 := (Below.heap_setCell w8 ⟨pb, 3, none⟩ (.slice a8 CB.length c8) b0 (by show b0 ≠ pb; omega)).trans k08
  have H9 := hid (h8.stay (w' := w8.setCell ⟨pb, 3, none⟩ (.slice a8 CB.length c8)) (fun j _ hj => Below.heap_setCell _ _ _ _ (by show j ≠ pb; omega)) (by simp [World.setCell]))
  have O9 : Hid (Own (w8.setCell ⟨pb, 3, none⟩ (.slice a8 CB.length c8)) (pb + 1) 5 .u8 (.slice a6 KB.length c6) KB.length (ofL KB)) := row_kept O8a (fun j hj => Below.heap_setCell _ _ _ _ (by show j ≠ pb; have := (World.ownsRow.lt O8a j hj).1; omega))
  have Q9 : Hid (Own (w8.setCell ⟨pb, 3, none⟩ (.slice a8 CB.length c8)) (pb + 1) 5 .u8 (.slice a8 CB.length c8) CB.length (ofL CB)) := row_kept o8' (fun j hj => Below.heap_setCell _ _ _ _ (by show j ≠ pb; have := (World.ownsRow.lt o8' j hj).1; omega))
  have B9 : Hid (Below b0 w (w8.setCell ⟨pb, 3, none⟩ (.slice a8 CB.length c8))) := by
    have h1 := B7.out
    rw [← hb0] at h1 ⊢
    exact (h1.trans ⟨t8.os, t8.tape, t8.output, t8.size, fun j hj => t8.block j (by have := h1.size; omega) (by omega)⟩).setCell (p := ⟨pb, 3, none⟩) (by show w.heap.size ≤ pb; omega) _
  clear k08 kp8 o8 o8' O8a h8 t8 H7 O7 B7 kp7 k07 hs7
  go_wp2_with fail
  clear c8p f8p
  generalize w8.setCell ⟨pb, 3, none⟩ (.slice a8 CB.length c8) = w9 at *
  have HE := hid (fun wx (h : Below w9.heap.size w9 wx) => Cr.pEnd (H9.out.later h))
  have z0 : w9.cell? ⟨b0, 0, none⟩ = some (.int .i64 0) := by rw [cell_of_row _ _ _ _ _ _ k09]; rfl
  have z1 : w9.cell? ⟨b0, 1, none⟩ = some (.int .i64 0) := by rw [cell_of_row _ _ _ _ _ _ k09]; rfl
  have z2 : w9.cell? ⟨b0, 2, none⟩ = some (.slice none 0 0) := by rw [cell_of_row _ _ _ _ _ _ k09]; rfl
  have z3 : w9.cell? ⟨b0, 3, none⟩ = some (.slice none 0 0) := by rw [cell_of_row _ _ _ _ _ _ k09]; rfl
  have y0 : w9.frozen? ⟨b0, 0, none⟩ = false := by simp [World.frozen?, k09]
  have y1 : w9.frozen? ⟨b0, 1, none⟩ = false := by simp [World.frozen?, k09]
  have y2 : w9.frozen? ⟨b0, 2, none⟩ = false := by simp [World.frozen?, k09]
  have y3 : w9.frozen? ⟨b0, 3, none⟩ = false := by simp [World.frozen?, k09]
  have p0 : w9.cell? ⟨pb, 0, none⟩ = some (.int .i64 (k : Int)) := by rw [cell_of_row _ _ _ _ _ _ kp9]; rfl
  have p1 : w9.cell? ⟨pb, 1, none⟩ = some (.int .i64 (wk : Int)) := by rw [cell_of_row _ _ _ _ _ _ kp9]; rfl
  have p2 : w9.cell? ⟨pb, 2, none⟩ = some (.slice a6 KB.length c6) := by rw [cell_of_row _ _ _ _ _ _ kp9]; rfl
  have p3 : w9.cell? ⟨pb, 3, none⟩ = some (.slice a8 CB.length c8) := by rw [cell_of_row _ _ _ _ _ _ kp9]; rfl
  have hne : b0 ≠ pb := by omega
  have K09 := hid k09
  rw [hE0] at HE
  have kF := heap_set_rowT (i := 3) (heap_set_rowT (i := 2) (heap_set_rowT (i := 1) (heap_set_rowT (i := 0) k09 (.int .i64 (k : Int))) (.int .i64 (wk : Int))) (.slice a6 KB.length c6)) (.slice a8 CB.length c8)
  have d0 : ((((w9.setCell ⟨b0, 0, none⟩ (.int .i64 (k : Int))).setCell ⟨b0, 1, none⟩ (.int .i64 (wk : Int))).setCell ⟨b0, 2, none⟩ (.slice a6 KB.length c6)).setCell ⟨b0, 3, none⟩ (.slice a8 CB.length c8)).cell? ⟨b0, 0, none⟩ = some (.int .i64 (k : Int)) := by rw [cell_of_row _ _ _ _ _ _ kF]; rfl
  have d1 : ((((w9.setCell ⟨b0, 0, none⟩ (.int .i64 (k : Int))).setCell ⟨b0, 1, none⟩ (.int .i64 (wk : Int))).setCell ⟨b0, 2, none⟩ (.slice a6 KB.length c6)).setCell ⟨b0, 3, none⟩ (.slice a8 CB.length c8)).cell? ⟨b0, 1, none⟩ = some (.int .i64 (wk : Int)) := by rw [cell_of_row _ _ _ _ _ _ kF]; rfl
  have d2 : ((((w9.setCell ⟨b0, 0, none⟩ (.int .i64 (k : Int))).setCell ⟨b0, 1, none⟩ (.int .i64 (wk : Int))).setCell ⟨b0, 2, none⟩ (.slice a6 KB.length c6)).setCell ⟨b0, 3, none⟩ (.slice a8 CB.length c8)).cell? ⟨b0, 2, none⟩ = some (.slice a6 KB.length c6) := by rw [cell_of_row _ _ _ _ _ _ kF]; rfl
  have d3 : ((((w9.setCell ⟨b0, 0, none⟩ (.int .i64 (k : Int))).setCell ⟨b0, 1, none⟩ (.int .i64 (wk : Int))).setCell ⟨b0, 2, none⟩ (.slice a6 KB.length c6)).setCell ⟨b0, 3, none⟩ (.slice a8 CB.length c8)).cell? ⟨b0, 3, none⟩ = some (.slice a8 CB.length c8) := by rw [cell_of_row _ _ _ _ _ _ kF]; rfl
  have hkF : ∀ j, j ≠ b0 → ((((w9.setCell ⟨b0, 0, none⟩ (.int .i64 (k : Int))).setCell ⟨b0, 1, none⟩ (.int .i64 (wk : Int))).setCell ⟨b0, 2, none⟩ (.slice a6 KB.length c6)).setCell ⟨b0, 3, none⟩ (.slice a8 CB.length c8)).heap[j]? = w9.heap[j]? := fun j hj => by
    rw [Below.heap_setCell _ _ _ _ (by exact hj), Below.heap_setCell _ _ _ _ (by exact hj), Below.heap_setCell _ _ _ _ (by exact hj), Below.heap_setCell _ _ _ _ (by exact hj)]
  have HFIN : Hid (∃ ak ck ac cc, (Ending.returned (.tuple #[.agg #[.int .i64 (k : Int), .int .i64 (wk : Int), .slice a6 KB.length c6, .slice a8 CB.length c8], .bool ok]) = .returned (.tuple #[.agg #[.int .i64 (k : Int), .int .i64 (wk : Int), .slice ak KB.length ck, .slice ac CB.length cc], .bool ok])) ∧ Bytes ((((w9.setCell ⟨b0, 0, none⟩ (.int .i64 (k : Int))).setCell ⟨b0, 1, none⟩ (.int .i64 (wk : Int))).setCell ⟨b0, 2, none⟩ (.slice a6 KB.length c6)).setCell ⟨b0, 3, none⟩ (.slice a8 CB.length c8)) ak KB ∧ NewL w ((((w9.setCell ⟨b0, 0, none⟩ (.int .i64 (k : Int))).setCell ⟨b0, 1, none⟩ (.int .i64 (wk : Int))).setCell ⟨b0, 2, none⟩ (.slice a6 KB.length c6)).setCell ⟨b0, 3, none⟩ (.slice a8 CB.length c8)) (.slice ac CB.length cc) CB ∧ (KB.length ≤ ck ∧ ck ≤ maxLen)) := by
    refine ⟨a6, c6, a8, c8, rfl, ?_, ⟨?_, ?_⟩, N6.out⟩
    · have o : Own ((((w9.setCell ⟨b0, 0, none⟩ (.int .i64 (k : Int))).setCell ⟨b0, 1, none⟩ (.int .i64 (wk : Int))).setCell ⟨b0, 2, none⟩ (.slice a6 KB.length c6)).setCell ⟨b0, 3, none⟩ (.slice a8 CB.length c8)) (pb + 1) 5 .u8 (.slice a6 KB.length c6) KB.length (ofL KB) := row_kept O9.out (fun j hj => hkF j (by have := (World.ownsRow.lt O9.out j hj).1; omega))
      exact o.nums
    · have o : Own ((((w9.setCell ⟨b0, 0, none⟩ (.int .i64 (k : Int))).setCell ⟨b0, 1, none⟩ (.int .i64 (wk : Int))).setCell ⟨b0, 2, none⟩ (.slice a6 KB.length c6)).setCell ⟨b0, 3, none⟩ (.slice a8 CB.length c8)) (pb + 1) 5 .u8 (.slice a8 CB.length c8) CB.length (ofL CB) := row_kept Q9.out (fun j hj => hkF j (by have := (World.ownsRow.lt Q9.out j hj).1; omega))
      exact o.low (by rw [hb0]; omega)
    · have h1 := B9.out
      rw [hb0]
      exact (((h1.setCell (p := ⟨b0, 0, none⟩) (Nat.le_refl _) _).setCell (p := ⟨b0, 1, none⟩) (Nat.le_refl _) _).setCell (p := ⟨b0, 2, none⟩) (Nat.le_refl _) _).setCell (p := ⟨b0, 3, none⟩) (Nat.le_refl _) _
  clear k09 kp9 kF hkF K09
  cases ok
  · have hEz : ¬ E = 0 := by simpa using hok
    have hbe : (E == 0) = false := by simp [hEz]
    clear hok
    go_region_with (go_at_call 77; refine (HE.out _ (by exact below_drewN (Below.refl _ _) _)).mono ?_; rintro e wE ⟨rfl, rfl⟩)
    all_goals go_wp2_with fail
    all_goals refine bodyPost_ret (v := .tuple #[.agg #[.int .i64 (k : Int), .int .i64 (wk : Int), .slice a6 KB.length c6, .slice a8 CB.length c8], .bool false]) (by simp [results, Tryz.results49, go_sem, d0, d1, d2, d3]) rfl ?_
    all_goals obtain ⟨ak, ck, ac, cc, h1, h2, h3, h4⟩ := HFIN.out
    all_goals exact ⟨ak, ck, ac, cc, h1, Nums.later h2 (below_drewN (Below.refl _ _) _), ⟨h3.1.later (below_drewN (Below.refl _ _) _), below_up h3.2 (below_drewN (Below.refl _ _) _)⟩, h4⟩
  · have hEz : E = 0 := by simpa using hok
    subst hEz
    clear hok
    go_region_with (go_at_call 77; refine (HE.out _ (by exact below_drewN (Below.refl _ _) _)).mono ?_; rintro e wE ⟨rfl, rfl⟩)
    all_goals go_wp2_with fail
    all_goals refine bodyPost_ret (v := .tuple #[.agg #[.int .i64 (k : Int), .int .i64 (wk : Int), .slice a6 KB.length c6, .slice a8 CB.length c8], .bool true]) (by simp [results, Tryz.results49, go_sem, d0, d1, d2, d3]) rfl ?_
    all_goals obtain ⟨ak, ck, ac, cc, h1, h2, h3, h4⟩ := HFIN.out
    all_goals exact ⟨ak, ck, ac, cc, h1, Nums.later h2 (below_drewN (Below.refl _ _) _), ⟨h3.1.later (below_drewN (Below.refl _ _) _), below_up h3.2 (below_drewN (Below.refl _ _) _)⟩, h4⟩
end Go.Proofs.YtcbmhpdhbmjocaaGreat

/-
  dict.cut where too many keys are said.
-/
namespace Go.Proofs.YtcbmhpdhbmjocaaGreat
open Go.ChangeShapes Go.WideShapes Go.ChangeAt Go.RowKit Cu

set_option maxRecDepth 8000 in
set_option maxHeartbeats 4000000 in
theorem cut_big (a : Option Addr) (b : List Nat) (c n k : Nat) (r1 : Cr.Cu.Rd) (w : World) (hA : Bytes w a b) (ha : a = none → b.length = 0 ∧ c = 0) (hlt : ∀ x ∈ b, x < 256) (hl : b.length + 20 ≤ 140737488355328) (hk : 65536 < k) (hk2 : k < 18446744073709551616) (e3 : Cr.Cu.Rd.uv ⟨b, 0, 0⟩ = (k, r1)) :
    Calls Tryz.prog 49 #[.slice a b.length c, .int .i64 (n : Int)] w fun e w' => e = .returned (.tuple #[.agg #[.int .i64 0, .int .i64 0, .slice none 0 0, .slice none 0 0], .bool false]) ∧ Below w.heap.size w w' := by
  have HO := hid (fun wx (h : Below w.heap.size w wx) => Cr.pOpen a b c wx (show Cr.Bytes wx a b from hA.later h) ha hlt hl)
  have hkc : (65536 : Int) < (k : Int) := by omega
  clear ha hA hlt hl
  go_enter Tryz.func49, Tryz.ntmps49
  go_wp2_with fail
  refine (HO.out _ (below_new _ _)).mono ?_
  rintro e w2 ⟨g, rfl, h2, b2⟩
  have H2 := hid h2
  have B2 := hid b2
  clear h2 b2 HO
  go_wp2_with fail
  refine (Cr.pUv H2.out).mono ?_
  rintro e w3 ⟨rfl, h3, t3⟩
  rw [e3] at h3 ⊢
  have H3 := hid h3
  have T3 := hid t3
  clear h3 t3 e3 H2
  obtain ⟨b0, hb0⟩ : ∃ b0, w.heap.size = b0 := ⟨_, rfl⟩
  have hlo : (w.alloc (.cells #[.int .i64 0, .int .i64 0, .slice none 0 0, .slice none 0 0] 89)).heap.size = b0 + 1 := by simp [hb0]
  have hgl : b0 + 1 ≤ g := by rw [← hlo]; exact H3.out.glo
  have k0 : w3.heap[b0]? = some (.cells #[.int .i64 0, .int .i64 0, .slice none 0 0, .slice none 0 0] 89) := by
    have hs2 : b0 < w2.heap.size := by have := B2.out.size; rw [hlo] at this; omega
    rw [T3.out.block b0 hs2 (by omega), B2.out.block b0 (by rw [hlo]; omega), ← hb0]
    exact heap_new _ _
  have B3 : Hid (Below w.heap.size w w3) := by
    have h1 : Below w.heap.size w w2 := below_up (below_new _ _) (B2.out.mono (by rw [hlo]; omega))
    exact h1.trans ⟨T3.out.os, T3.out.tape, T3.out.output, T3.out.size, fun j hj => T3.out.block j (by have := h1.size; omega) (by omega)⟩
  have z0 : w3.cell? ⟨b0, 0, none⟩ = some (.int .i64 0) := by rw [cell_of_row _ _ _ _ _ _ k0]; rfl
  have z1 : w3.cell? ⟨b0, 1, none⟩ = some (.int .i64 0) := by rw [cell_of_row _ _ _ _ _ _ k0]; rfl
  have z2 : w3.cell? ⟨b0, 2, none⟩ = some (.slice none 0 0) := by rw [cell_of_row _ _ _ _ _ _ k0]; rfl
  have z3 : w3.cell? ⟨b0, 3, none⟩ = some (.slice none 0 0) := by rw [cell_of_row _ _ _ _ _ _ k0]; rfl
  have y0 : w3.frozen? ⟨b0, 0, none⟩ = false := by simp [World.frozen?, k0]
  have y1 : w3.frozen? ⟨b0, 1, none⟩ = false := by simp [World.frozen?, k0]
  have y2 : w3.frozen? ⟨b0, 2, none⟩ = false := by simp [World.frozen?, k0]
  have y3 : w3.frozen? ⟨b0, 3, none⟩ = false := by simp [World.frozen?, k0]
  clear H3 T3 B2 hlo
  rw [hb0] at B3
  go_wp2_with fail
  have kF := heap_set_rowT (i := 3) (heap_set_rowT (i := 2) (heap_set_rowT (i := 1) (heap_set_rowT (i := 0) k0 (.int .i64 0)) (.int .i64 0)) (.slice none 0 0)) (.slice none 0 0)
  have d0 : ((((w3.setCell ⟨b0, 0, none⟩ (.int .i64 0)).setCell ⟨b0, 1, none⟩ (.int .i64 0)).setCell ⟨b0, 2, none⟩ (.slice none 0 0)).setCell ⟨b0, 3, none⟩ (.slice none 0 0)).cell? ⟨b0, 0, none⟩ = some (.int .i64 0) := by rw [cell_of_row _ _ _ _ _ _ kF]; rfl
  have d1 : ((((w3.setCell ⟨b0, 0, none⟩ (.int .i64 0)).setCell ⟨b0, 1, none⟩ (.int .i64 0)).setCell ⟨b0, 2, none⟩ (.slice none 0 0)).setCell ⟨b0, 3, none⟩ (.slice none 0 0)).cell? ⟨b0, 1, none⟩ = some (.int .i64 0) := by rw [cell_of_row _ _ _ _ _ _ kF]; rfl
  have d2 : ((((w3.setCell ⟨b0, 0, none⟩ (.int .i64 0)).setCell ⟨b0, 1, none⟩ (.int .i64 0)).setCell ⟨b0, 2, none⟩ (.slice none 0 0)).setCell ⟨b0, 3, none⟩ (.slice none 0 0)).cell? ⟨b0, 2, none⟩ = some (.slice none 0 0) := by rw [cell_of_row _ _ _ _ _ _ kF]; rfl
  have d3 : ((((w3.setCell ⟨b0, 0, none⟩ (.int .i64 0)).setCell ⟨b0, 1, none⟩ (.int .i64 0)).setCell ⟨b0, 2, none⟩ (.slice none 0 0)).setCell ⟨b0, 3, none⟩ (.slice none 0 0)).cell? ⟨b0, 3, none⟩ = some (.slice none 0 0) := by rw [cell_of_row _ _ _ _ _ _ kF]; rfl
  refine bodyPost_ret (v := .tuple #[.agg #[.int .i64 0, .int .i64 0, .slice none 0 0, .slice none 0 0], .bool false]) (by simp [results, Tryz.results49, go_sem, d0, d1, d2, d3]) rfl ?_
  refine ⟨rfl, ?_⟩
  rw [hb0]
  exact (((B3.out.setCell (p := ⟨b0, 0, none⟩) (Nat.le_refl _) _).setCell (p := ⟨b0, 1, none⟩) (Nat.le_refl _) _).setCell (p := ⟨b0, 2, none⟩) (Nat.le_refl _) _).setCell (p := ⟨b0, 3, none⟩) (Nat.le_refl _) _
end Go.Proofs.YtcbmhpdhbmjocaaGreat

/-
  dict.Ints at the bytes of the law's known.
-/
namespace Go.Proofs.YtcbmhpdhbmjocaaGreat
open Go.ChangeShapes Go.WideShapes Go.ChangeAt Go.RowKit Cu

set_option maxRecDepth 8000 in
set_option maxHeartbeats 2000000 in
theorem read_known (a : Option Addr) (c : Nat) (w : World) (hA : Bytes w a B18) :
    Calls Tryz.prog 36 #[.slice a 18 c, .int .i64 3, .func (.func 37) #[] #[]] w fun e w' => ∃ a1 c1 ac cc, e = .returned (.tuple #[.slice a1 2 c1, .int .i64 1, .slice ac 1 cc, .int .i64 0]) ∧ IntsA w' a1 [3, 7] ∧ Bytes w' ac [5] ∧ Below w.heap.size w w' := by
  have HC := hid (cut_known a c w hA)
  clear hA
  go_enter Tryz.func36, Tryz.ntmps36
  go_wp2_with fail
  refine HC.out.mono ?_
  rintro e w1 ⟨ak, ck, ac, cc, rfl, hK, hN, hck⟩
  obtain ⟨a', c', hv, hn1, hn2, hn3⟩ := hN.1.form
  simp at hv
  obtain ⟨rfl, rfl⟩ := hv
  have HK := hid hK
  have HN := hid hN
  have hck1 := hck.1
  have hck2 := hck.2
  simp only [maxLen] at hck2 hn2
  have hn1' : 1 ≤ cc := hn1
  clear hK hN hck HC hn3 hn1
  go_wp2_with fail
  have b2 := below_new w1 (.cells #[.int .i64 2, .int .i64 1, .slice ak 16 ck, .slice ac 1 cc] 89)
  have k2 := heap_new w1 (.cells #[.int .i64 2, .int .i64 1, .slice ak 16 ck, .slice ac 1 cc] 89)
  have hpb : w1.heap.size < (w1.alloc (.cells #[.int .i64 2, .int .i64 1, .slice ak 16 ck, .slice ac 1 cc] 89)).heap.size := by simp
  have HK2 := hid (HK.out.later b2)
  have HN2 : Hid (Bytes (w1.alloc (.cells #[.int .i64 2, .int .i64 1, .slice ak 16 ck, .slice ac 1 cc] 89)) ac [5]) := Nums.later (show Bytes w1 ac [5] from HN.out.1.nums) b2
  have B2 := hid (below_up HN.out.2 b2)
  generalize w1.alloc (.cells #[.int .i64 2, .int .i64 1, .slice ak 16 ck, .slice ac 1 cc] 89) = w2 at *
  generalize w1.heap.size = pb at *
  clear b2 HK HN
  have HI := hid (pInts ak K16 ck 2 w2 HK2.out (by decide) (by show 16 ≤ ck; exact hck1) (by omega))
  have e1 : intsE K16 2 = 0 := by decide
  have e2 : intsR K16 2 = [3, 7] := by decide
  rw [e1, e2] at HI
  have e3 : K16.length = 16 := rfl
  rw [e3] at HI
  clear e1 e2 e3
  refine HI.out.mono ?_
  rintro e w3 ⟨v3, rfl, o3, b3⟩
  obtain ⟨a3, c3, rfl, _, _, _, i3⟩ := o3.form
  have k3 := (b3.block pb hpb).trans k2
  obtain ⟨g3, o3', rfl, hg3, z0⟩ := i3 0 3 rfl
  obtain ⟨g3', o3'', eq3, _, z1⟩ := i3 1 7 rfl
  cases eq3
  have I3 := hid i3
  have N3 := hid (HN2.out.later b3)
  have B3 := hid (below_up B2.out b3)
  rw [Nat.add_zero] at z0
  have HR := hid (rise_two g3 o3' c3 3 7 w3 (by omega) z0 z1)
  have hp3 : pb < w3.heap.size := (Array.getElem?_eq_some_iff.1 k3).1
  clear o3 i3 b3 k2 HI HK2 HN2 B2 hpb hg3 z0 z1
  have t0 : ((0 : Nat) : Int) = 0 := rfl
  rw [t0]
  clear t0
  go_wp2_with fail
  refine HR.out.mono ?_
  rintro e w4 ⟨rfl, j4, hj4⟩
  have b4 : Below w3.heap.size w3 w4 := by rw [hj4]; exact below_drewN (Below.refl _ _) _
  have k4 := (b4.block pb hp3).trans k3
  have I4 := hid (I3.out.later b4)
  have N4 := hid (N3.out.later b4)
  have B4 := hid (below_up B3.out b4)
  have hp4 : pb < w4.heap.size := Nat.lt_of_lt_of_le hp3 b4.size
  have HCD := hid (codes_known (.slice ak 16 ck) ac cc w4 N4.out hn1' (by omega))
  have p0 : w4.cell? ⟨pb, 0, none⟩ = some (.int .i64 2) := by rw [cell_of_row _ _ _ _ _ _ k4]; rfl
  have p1 : w4.cell? ⟨pb, 1, none⟩ = some (.int .i64 1) := by rw [cell_of_row _ _ _ _ _ _ k4]; rfl
  have p2 : w4.cell? ⟨pb, 2, none⟩ = some (.slice ak 16 ck) := by rw [cell_of_row _ _ _ _ _ _ k4]; rfl
  have p3 : w4.cell? ⟨pb, 3, none⟩ = some (.slice ac 1 cc) := by rw [cell_of_row _ _ _ _ _ _ k4]; rfl
  clear hj4 b4 k3 I3 N3 B3 HR hp3
  go_wp2_with fail
  refine HCD.out.mono ?_
  rintro e w5 ⟨rfl, b5⟩
  have k5 := (b5.block pb hp4).trans k4
  have r1 : w5.cell? ⟨pb, 1, none⟩ = some (.int .i64 1) := by rw [cell_of_row _ _ _ _ _ _ k5]; rfl
  have r3 : w5.cell? ⟨pb, 3, none⟩ = some (.slice ac 1 cc) := by rw [cell_of_row _ _ _ _ _ _ k5]; rfl
  have HF : Hid (IntsA w5 (some ⟨g3, o3', none⟩) [3, 7] ∧ Bytes w5 ac [5] ∧ Below w.heap.size w w5) := ⟨I4.out.later b5, N4.out.later b5, below_up B4.out b5⟩
  clear b5 k4 k5 p0 p1 p2 p3 I4 N4 B4 HCD
  go_wp2_with fail
  go_quiet (fail)
  go_wp2_with fail
  refine bodyPost_ret (v := .tuple #[.slice (some ⟨g3, o3', none⟩) 2 c3, .int .i64 1, .slice ac 1 cc, .int .i64 0]) (by simp [results, Tryz.results36, go_sem]) rfl ?_
  exact ⟨_, _, _, _, rfl, HF.out.1.later (below_drewN (Below.refl _ _) _), HF.out.2.1.later (below_drewN (Below.refl _ _) _), below_up HF.out.2.2 (below_drewN (Below.refl _ _) _)⟩
set_option maxHeartbeats 400000 in
theorem ints_known (a : Option Addr) (c : Nat) (w : World) (hA : Bytes w a B18) :
    Calls Tryz.prog 17 #[.slice a 18 c, .int .i64 3] w fun e w' => ∃ a1 c1 ac cc, e = .returned (.tuple #[.slice a1 2 c1, .int .i64 1, .slice ac 1 cc, .int .i64 0]) ∧ IntsA w' a1 [3, 7] ∧ Bytes w' ac [5] ∧ Below w.heap.size w w' := by
  have HR := hid (read_known a c w hA)
  clear hA
  go_enter Tryz.func17, Tryz.ntmps17
  go_wp2_with fail
  refine HR.out.mono ?_
  rintro e w1 ⟨a1, c1, ac, cc, rfl, h1, h2, h3⟩
  have HF := hid (And.intro h1 (And.intro h2 h3))
  clear h1 h2 h3 HR
  go_wp2_with fail
  refine bodyPost_ret (v := .tuple #[.slice a1 2 c1, .int .i64 1, .slice ac 1 cc, .int .i64 0]) (by simp [results, Tryz.results17, go_sem]) rfl ?_
  exact ⟨_, _, _, _, rfl, HF.out⟩
end Go.Proofs.YtcbmhpdhbmjocaaGreat
