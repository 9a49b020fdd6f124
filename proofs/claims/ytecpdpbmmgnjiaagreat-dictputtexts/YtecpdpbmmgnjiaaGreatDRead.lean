import Derived.Test.YtecpdpbmmgnjiaaGreatDPut
import Derived.Test.YtecpdpbmmgnjiaaGreatPInts
import Derived.Test.YtecpdpbmmgnjiaaGreatCAll
import Derived.Test.YtecpdpbmmgnjiaaGreatKAll
/-
  dict.Ints at the bytes of the law's known.
-/
namespace Go.Proofs.YtecpdpbmmgnjiaaGreat
open Go.ChangeShapes Go.WideShapes Go.ChangeAt Go.RowKit Cu

def K16 : List Nat := [3, 0, 0, 0, 0, 0, 0, 0, 7, 0, 0, 0, 0, 0, 0, 0]
def B18 : List Nat := 2 :: K16 ++ [5]
set_option maxRecDepth 8000 in
set_option maxHeartbeats 2000000 in
theorem cut_known (a : Option Addr) (c : Nat) (w : World) (hA : Bytes w a B18) :
    Calls Tryz.prog 48 #[.slice a 18 c, .int .i64 3] w fun e w' => ∃ ak ck ac cc, e = .returned (.tuple #[.agg #[.int .i64 2, .int .i64 1, .slice ak 16 ck, .slice ac 1 cc], .bool true]) ∧ Bytes w' ak K16 ∧ NewL w w' (.slice ac 1 cc) [5] ∧ (16 ≤ ck ∧ ck ≤ maxLen) := by
  have ha : a = none → B18.length = 0 ∧ c = 0 := fun e => by
    subst e
    obtain ⟨g, o, e, _⟩ := hA 0 (by decide)
    cases e
  have HO := hid (fun wx (h : Below w.heap.size w wx) => Cr.pOpen a B18 c wx (show Cr.Bytes wx a B18 from hA.later h) ha (by decide) (by decide))
  have hb18 : B18.length = 18 := rfl
  rw [hb18] at HO
  clear ha hA hb18
  go_enter Tryz.func48, Tryz.ntmps48
  go_wp2_with fail
  refine (HO.out _ (below_new _ _)).mono ?_
  rintro e w2 ⟨g, rfl, h2, b2⟩
  have H2 := hid h2
  have B2 := hid b2
  clear h2 b2 HO
  go_wp2_with fail
  refine (Cr.pUv H2.out).mono ?_
  rintro e w3 ⟨rfl, h3, t3⟩
  have e3 : (Cr.Cu.Rd.uv ⟨B18, 0, 0⟩) = (2, ⟨B18, 1, 0⟩) := rfl
  rw [e3] at h3 ⊢
  have H3 := hid h3
  have T3 := hid t3
  clear h3 t3 e3 H2
  go_wp2_with fail
  refine (widthOf_any 2 w3 (by omega)).mono ?_
  rintro e w4 ⟨rfl, hw4⟩
  have hw4' := hw4.symm
  clear hw4
  subst hw4'
  have e4 : ((wd 2 : Nat) : Int) = 1 := by decide
  rw [e4]
  clear e4
  go_wp2_with fail
  refine (Pk.bytes_any 3 1 _).mono ?_
  have e5 : Pk.byteN 3 1 = 1 ∧ Pk.byteE 3 1 = 0 := by decide
  rw [e5.1, e5.2]
  rintro e w5 ⟨rfl, hw5⟩
  have hw5' := hw5.symm
  clear hw5 e5
  subst hw5'
  go_wp2_with fail
  obtain ⟨b0, hb0⟩ : ∃ b0, w.heap.size = b0 := ⟨_, rfl⟩
  obtain ⟨pb, hpb⟩ : ∃ pb, w3.heap.size = pb := ⟨_, rfl⟩
  have hlo : (w.alloc (.cells #[.int .i64 0, .int .i64 0, .slice none 0 0, .slice none 0 0] 81)).heap.size = b0 + 1 := by simp [hb0]
  have hgl : b0 + 1 ≤ g := by rw [← hlo]; exact H3.out.glo
  have hgh : g < pb := by have h1 := H3.out.ghi; have h2 := T3.out.size; omega
  have k0 : w3.heap[b0]? = some (.cells #[.int .i64 0, .int .i64 0, .slice none 0 0, .slice none 0 0] 81) := by
    have hs2 : b0 < w2.heap.size := by have := B2.out.size; rw [hlo] at this; omega
    rw [T3.out.block b0 hs2 (by omega), B2.out.block b0 (by rw [hlo]; omega), ← hb0]
    exact heap_new _ _
  have B3 : Hid (Below w.heap.size w w3) := by
    have h1 : Below w.heap.size w w2 := below_up (below_new _ _) (B2.out.mono (by rw [hlo]; omega))
    exact h1.trans ⟨T3.out.os, T3.out.tape, T3.out.output, T3.out.size, fun j hj => T3.out.block j (by have := h1.size; omega) (by omega)⟩
  have bA := below_new w3 (.cells #[.int .i64 2, .int .i64 1, .slice none 0 0, .slice none 0 0] 81)
  have HA := hid (H3.out.later bA)
  have BA := hid (below_up B3.out bA)
  have k0A := (bA.block b0 (by have := (Array.getElem?_eq_some_iff.1 k0).1; omega)).trans k0
  have kpA := heap_new w3 (.cells #[.int .i64 2, .int .i64 1, .slice none 0 0, .slice none 0 0] 81)
  have hsA : (w3.alloc (.cells #[.int .i64 2, .int .i64 1, .slice none 0 0, .slice none 0 0] 81)).heap.size = pb + 1 := by simp [hpb]
  rw [hpb] at kpA ⊢
  rw [hlo] at HA
  rw [hb0] at BA ⊢
  generalize w3.alloc (.cells #[.int .i64 2, .int .i64 1, .slice none 0 0, .slice none 0 0] 81) = wA at *
  have hhi : w2.heap.size ≤ pb := by rw [← hpb]; exact T3.out.size
  generalize w2.heap.size = hi2 at *
  clear B3 bA H3 T3 B2 k0 hpb hlo
  refine (Cr.pLeft HA.out).mono ?_
  rintro e w5 ⟨rfl, hw5⟩
  have hw5' := hw5.symm
  clear hw5
  subst hw5'
  have e6 : ((Cr.Rd.left ⟨B18, 1, 0⟩ : Nat) : Int) = 17 := by decide
  rw [e6]
  clear e6
  go_wp2_with fail
  refine (Cr.pBytes HA.out 16 (by omega) (by omega)).mono ?_
  have e7 : Cr.Cu.Rd.bytes ⟨B18, 1, 0⟩ 16 = (K16, ⟨B18, 17, 0⟩) := rfl
  rw [e7]
  rintro e w6 ⟨v6, rfl, o6, h6, t6⟩
  clear e7
  have k06 := (t6.block b0 (by rw [hsA]; omega) (by omega)).trans k0A
  have kp6 := (t6.block pb (by rw [hsA]; omega) (by omega)).trans kpA
  have o6' : Own w6 (pb + 1) 5 .u8 v6 K16.length (ofL K16) := by rw [← hsA]; exact o6
  obtain ⟨a6, c6, rfl, n6, m6, _⟩ := o6'.form
  have hs6 : pb + 1 ≤ w6.heap.size := by rw [← hsA]; exact t6.size
  have c6p : w6.cell? ⟨pb, 2, none⟩ = some (.slice none 0 0) := by rw [cell_of_row _ _ _ _ _ _ kp6]; rfl
  have f6p : w6.frozen? ⟨pb, 2, none⟩ = false := by simp [World.frozen?, kp6]
  have hn16 : K16.length = 16 := rfl
  rw [hn16] at o6' n6 ⊢
  have kp7 := heap_set_rowT (i := 2) kp6 (.slice a6 16 c6)
  have k07 := (Below.heap_setCell w6 ⟨pb, 2, none⟩ (.slice a6 16 c6) b0 (by show b0 ≠ pb; omega)).trans k06
  have H7 := hid (h6.stay (w' := w6.setCell ⟨pb, 2, none⟩ (.slice a6 16 c6)) (fun j _ hj => Below.heap_setCell _ _ _ _ (by show j ≠ pb; omega)) (by simp [World.setCell]))
  have O7 : Hid (Own (w6.setCell ⟨pb, 2, none⟩ (.slice a6 16 c6)) (pb + 1) 5 .u8 (.slice a6 16 c6) 16 (ofL K16)) := row_kept o6' (fun j hj => Below.heap_setCell _ _ _ _ (by show j ≠ pb; have := (World.ownsRow.lt o6' j hj).1; omega))
  have BA6 : Hid (Below b0 w w6) := by
    have h1 := BA.out
    rw [← hb0] at h1 ⊢
    exact h1.trans ⟨t6.os, t6.tape, t6.output, t6.size, fun j hj => t6.block j (by have := h1.size; omega) (by omega)⟩
  have B7 : Hid (Below b0 w (w6.setCell ⟨pb, 2, none⟩ (.slice a6 16 c6))) := BA6.out.setCell (p := ⟨pb, 2, none⟩) (by show b0 ≤ pb; omega) _
  have hs7 : pb + 1 ≤ (w6.setCell ⟨pb, 2, none⟩ (.slice a6 16 c6)).heap.size := by simp [World.setCell]; exact hs6
  have N6 := hid (And.intro n6 m6)
  clear k06 kp6 o6 o6' h6 t6 hn16 n6 m6 BA BA6 k0A kpA HA hsA
  go_wp2_with fail
  clear c6p f6p
  generalize w6.setCell ⟨pb, 2, none⟩ (.slice a6 16 c6) = w7 at *
  clear hs6
  refine (Cr.pBytes H7.out 1 (by omega) (by omega)).mono ?_
  have e8 : Cr.Cu.Rd.bytes ⟨B18, 17, 0⟩ 1 = ([5], ⟨B18, 18, 0⟩) := rfl
  rw [e8]
  rintro e w8 ⟨v8, rfl, o8, h8, t8⟩
  clear e8
  have k08 := (t8.block b0 (by omega) (by omega)).trans k07
  have kp8 := (t8.block pb (by omega) (by omega)).trans kp7
  have O8a : Own w8 (pb + 1) 5 .u8 (.slice a6 16 c6) 16 (ofL K16) := row_kept O7.out (fun j hj => t8.block j (World.ownsRow.lt O7.out j hj).2 (by have := (World.ownsRow.lt O7.out j hj).1; omega))
  have o8' : Own w8 (pb + 1) 5 .u8 v8 1 (ofL [5]) := Own.low o8 hs7
  obtain ⟨a8, c8, rfl, _, _, _⟩ := o8'.form
  have hs8 : pb + 1 ≤ w8.heap.size := Nat.le_trans hs7 t8.size
  have c8p : w8.cell? ⟨pb, 3, none⟩ = some (.slice none 0 0) := by rw [cell_of_row _ _ _ _ _ _ kp8]; rfl
  have f8p : w8.frozen? ⟨pb, 3, none⟩ = false := by simp [World.frozen?, kp8]
  have kp9 := heap_set_rowT (i := 3) kp8 (.slice a8 1 c8)
  have k09 := (Below.heap_setCell w8 ⟨pb, 3, none⟩ (.slice a8 1 c8) b0 (by show b0 ≠ pb; omega)).trans k08
  have H9 := hid (h8.stay (w' := w8.setCell ⟨pb, 3, none⟩ (.slice a8 1 c8)) (fun j _ hj => Below.heap_setCell _ _ _ _ (by show j ≠ pb; omega)) (by simp [World.setCell]))
  have O9 : Hid (Own (w8.setCell ⟨pb, 3, none⟩ (.slice a8 1 c8)) (pb + 1) 5 .u8 (.slice a6 16 c6) 16 (ofL K16)) := row_kept O8a (fun j hj => Below.heap_setCell _ _ _ _ (by show j ≠ pb; have := (World.ownsRow.lt O8a j hj).1; omega))
  have Q9 : Hid (Own (w8.setCell ⟨pb, 3, none⟩ (.slice a8 1 c8)) (pb + 1) 5 .u8 (.slice a8 1 c8) 1 (ofL [5])) := row_kept o8' (fun j hj => Below.heap_setCell _ _ _ _ (by show j ≠ pb; have := (World.ownsRow.lt o8' j hj).1; omega))
  have B9 : Hid (Below b0 w (w8.setCell ⟨pb, 3, none⟩ (.slice a8 1 c8))) := by
    have h1 := B7.out
    rw [← hb0] at h1 ⊢
    exact (h1.trans ⟨t8.os, t8.tape, t8.output, t8.size, fun j hj => t8.block j (by have := h1.size; omega) (by omega)⟩).setCell (p := ⟨pb, 3, none⟩) (by show w.heap.size ≤ pb; omega) _
  clear k08 kp8 o8 o8' O8a h8 t8 H7 O7 B7 kp7 k07 hs7
  go_wp2_with fail
  clear c8p f8p
  generalize w8.setCell ⟨pb, 3, none⟩ (.slice a8 1 c8) = w9 at *
  have HE := hid (fun wx (h : Below w9.heap.size w9 wx) => Cr.pEnd (H9.out.later h))
  have z0 : w9.cell? ⟨b0, 0, none⟩ = some (.int .i64 0) := by rw [cell_of_row _ _ _ _ _ _ k09]; rfl
  have z1 : w9.cell? ⟨b0, 1, none⟩ = some (.int .i64 0) := by rw [cell_of_row _ _ _ _ _ _ k09]; rfl
  have z2 : w9.cell? ⟨b0, 2, none⟩ = some (.slice none 0 0) := by rw [cell_of_row _ _ _ _ _ _ k09]; rfl
  have z3 : w9.cell? ⟨b0, 3, none⟩ = some (.slice none 0 0) := by rw [cell_of_row _ _ _ _ _ _ k09]; rfl
  have y0 : w9.frozen? ⟨b0, 0, none⟩ = false := by simp [World.frozen?, k09]
  have y1 : w9.frozen? ⟨b0, 1, none⟩ = false := by simp [World.frozen?, k09]
  have y2 : w9.frozen? ⟨b0, 2, none⟩ = false := by simp [World.frozen?, k09]
  have y3 : w9.frozen? ⟨b0, 3, none⟩ = false := by simp [World.frozen?, k09]
  have p0 : w9.cell? ⟨pb, 0, none⟩ = some (.int .i64 2) := by rw [cell_of_row _ _ _ _ _ _ kp9]; rfl
  have p1 : w9.cell? ⟨pb, 1, none⟩ = some (.int .i64 1) := by rw [cell_of_row _ _ _ _ _ _ kp9]; rfl
  have p2 : w9.cell? ⟨pb, 2, none⟩ = some (.slice a6 16 c6) := by rw [cell_of_row _ _ _ _ _ _ kp9]; rfl
  have p3 : w9.cell? ⟨pb, 3, none⟩ = some (.slice a8 1 c8) := by rw [cell_of_row _ _ _ _ _ _ kp9]; rfl
  have hne : b0 ≠ pb := by omega
  have K09 := hid k09
  have hE0 : (if (⟨B18, 18, 0⟩ : Cr.Cu.Rd).e = 0 ∧ (⟨B18, 18, 0⟩ : Cr.Cu.Rd).at' < (⟨B18, 18, 0⟩ : Cr.Cu.Rd).l.length then 72 else (((⟨B18, 18, 0⟩ : Cr.Cu.Rd).e : Nat) : Int)) = 0 := by decide
  rw [hE0] at HE
  have kF := heap_set_rowT (i := 3) (heap_set_rowT (i := 2) (heap_set_rowT (i := 1) (heap_set_rowT (i := 0) k09 (.int .i64 2)) (.int .i64 1)) (.slice a6 16 c6)) (.slice a8 1 c8)
  have d0 : ((((w9.setCell ⟨b0, 0, none⟩ (.int .i64 2)).setCell ⟨b0, 1, none⟩ (.int .i64 1)).setCell ⟨b0, 2, none⟩ (.slice a6 16 c6)).setCell ⟨b0, 3, none⟩ (.slice a8 1 c8)).cell? ⟨b0, 0, none⟩ = some (.int .i64 2) := by rw [cell_of_row _ _ _ _ _ _ kF]; rfl
  have d1 : ((((w9.setCell ⟨b0, 0, none⟩ (.int .i64 2)).setCell ⟨b0, 1, none⟩ (.int .i64 1)).setCell ⟨b0, 2, none⟩ (.slice a6 16 c6)).setCell ⟨b0, 3, none⟩ (.slice a8 1 c8)).cell? ⟨b0, 1, none⟩ = some (.int .i64 1) := by rw [cell_of_row _ _ _ _ _ _ kF]; rfl
  have d2 : ((((w9.setCell ⟨b0, 0, none⟩ (.int .i64 2)).setCell ⟨b0, 1, none⟩ (.int .i64 1)).setCell ⟨b0, 2, none⟩ (.slice a6 16 c6)).setCell ⟨b0, 3, none⟩ (.slice a8 1 c8)).cell? ⟨b0, 2, none⟩ = some (.slice a6 16 c6) := by rw [cell_of_row _ _ _ _ _ _ kF]; rfl
  have d3 : ((((w9.setCell ⟨b0, 0, none⟩ (.int .i64 2)).setCell ⟨b0, 1, none⟩ (.int .i64 1)).setCell ⟨b0, 2, none⟩ (.slice a6 16 c6)).setCell ⟨b0, 3, none⟩ (.slice a8 1 c8)).cell? ⟨b0, 3, none⟩ = some (.slice a8 1 c8) := by rw [cell_of_row _ _ _ _ _ _ kF]; rfl
  have hkF : ∀ j, j ≠ b0 → ((((w9.setCell ⟨b0, 0, none⟩ (.int .i64 2)).setCell ⟨b0, 1, none⟩ (.int .i64 1)).setCell ⟨b0, 2, none⟩ (.slice a6 16 c6)).setCell ⟨b0, 3, none⟩ (.slice a8 1 c8)).heap[j]? = w9.heap[j]? := fun j hj => by
    rw [Below.heap_setCell _ _ _ _ (by exact hj), Below.heap_setCell _ _ _ _ (by exact hj), Below.heap_setCell _ _ _ _ (by exact hj), Below.heap_setCell _ _ _ _ (by exact hj)]
  have HFIN : Hid (∃ ak ck ac cc, (Ending.returned (.tuple #[.agg #[.int .i64 2, .int .i64 1, .slice a6 16 c6, .slice a8 1 c8], .bool true]) = .returned (.tuple #[.agg #[.int .i64 2, .int .i64 1, .slice ak 16 ck, .slice ac 1 cc], .bool true])) ∧ Bytes ((((w9.setCell ⟨b0, 0, none⟩ (.int .i64 2)).setCell ⟨b0, 1, none⟩ (.int .i64 1)).setCell ⟨b0, 2, none⟩ (.slice a6 16 c6)).setCell ⟨b0, 3, none⟩ (.slice a8 1 c8)) ak K16 ∧ NewL w ((((w9.setCell ⟨b0, 0, none⟩ (.int .i64 2)).setCell ⟨b0, 1, none⟩ (.int .i64 1)).setCell ⟨b0, 2, none⟩ (.slice a6 16 c6)).setCell ⟨b0, 3, none⟩ (.slice a8 1 c8)) (.slice ac 1 cc) [5] ∧ (16 ≤ ck ∧ ck ≤ maxLen)) := by
    refine ⟨a6, c6, a8, c8, rfl, ?_, ⟨?_, ?_⟩, N6.out⟩
    · have o : Own ((((w9.setCell ⟨b0, 0, none⟩ (.int .i64 2)).setCell ⟨b0, 1, none⟩ (.int .i64 1)).setCell ⟨b0, 2, none⟩ (.slice a6 16 c6)).setCell ⟨b0, 3, none⟩ (.slice a8 1 c8)) (pb + 1) 5 .u8 (.slice a6 16 c6) 16 (ofL K16) := row_kept O9.out (fun j hj => hkF j (by have := (World.ownsRow.lt O9.out j hj).1; omega))
      exact o.nums
    · have o : Own ((((w9.setCell ⟨b0, 0, none⟩ (.int .i64 2)).setCell ⟨b0, 1, none⟩ (.int .i64 1)).setCell ⟨b0, 2, none⟩ (.slice a6 16 c6)).setCell ⟨b0, 3, none⟩ (.slice a8 1 c8)) (pb + 1) 5 .u8 (.slice a8 1 c8) 1 (ofL [5]) := row_kept Q9.out (fun j hj => hkF j (by have := (World.ownsRow.lt Q9.out j hj).1; omega))
      exact o.low (by rw [hb0]; omega)
    · have h1 := B9.out
      rw [hb0]
      exact (((h1.setCell (p := ⟨b0, 0, none⟩) (Nat.le_refl _) _).setCell (p := ⟨b0, 1, none⟩) (Nat.le_refl _) _).setCell (p := ⟨b0, 2, none⟩) (Nat.le_refl _) _).setCell (p := ⟨b0, 3, none⟩) (Nat.le_refl _) _
  clear k09 kp9 hE0 kF hkF K09
  go_region_with (go_at_call 70; refine (HE.out _ (by exact below_drewN (Below.refl _ _) _)).mono ?_; rintro e wE ⟨rfl, rfl⟩)
  all_goals go_wp2_with fail
  all_goals refine bodyPost_ret (v := .tuple #[.agg #[.int .i64 2, .int .i64 1, .slice a6 16 c6, .slice a8 1 c8], .bool true]) (by simp [results, Tryz.results48, go_sem, d0, d1, d2, d3]) rfl ?_
  all_goals obtain ⟨ak, ck, ac, cc, h1, h2, h3, h4⟩ := HFIN.out
  all_goals exact ⟨ak, ck, ac, cc, h1, Nums.later h2 (below_drewN (Below.refl _ _) _), ⟨h3.1.later (below_drewN (Below.refl _ _) _), below_up h3.2 (below_drewN (Below.refl _ _) _)⟩, h4⟩
end Go.Proofs.YtecpdpbmmgnjiaaGreat
