/-
  dict.cut where too many keys are said.
-/
import Derived.Test.YtenkdhphgfhkbaaGreatDCut
namespace Go.Proofs.YtenkdhphgfhkbaaGreat
open Go.ChangeShapes Go.WideShapes Go.ChangeAt Go.RowKit Cu

set_option maxRecDepth 8000 in
set_option maxHeartbeats 4000000 in
theorem cut_big (a : Option Addr) (b : List Nat) (c n k : Nat) (r1 : Cr.Cu.Rd) (w : World) (hA : Bytes w a b) (ha : a = none → b.length = 0 ∧ c = 0) (hlt : ∀ x ∈ b, x < 256) (hl : b.length + 20 ≤ 140737488355328) (hk : 65536 < k) (hk2 : k < 18446744073709551616) (e3 : Cr.Cu.Rd.uv ⟨b, 0, 0⟩ = (k, r1)) :
    Calls Tryz.prog 36 #[.slice a b.length c, .int .i64 (n : Int)] w fun e w' => e = .returned (.tuple #[.agg #[.int .i64 0, .int .i64 0, .slice none 0 0, .slice none 0 0], .bool false]) ∧ Below w.heap.size w w' := by
  have HO := hid (fun wx (h : Below w.heap.size w wx) => Cr.pOpen a b c wx (show Cr.Bytes wx a b from hA.later h) ha hlt hl)
  have hkc : (65536 : Int) < (k : Int) := by omega
  clear ha hA hlt hl
  go_enter Tryz.func36, Tryz.ntmps36
  go_wp2_with fail
  refine (HO.out _ (below_new _ _)).mono ?_
  rintro e w2 ⟨g, rfl, h2, b2⟩
  have H2 := hid h2
  have B2 := hid b2
  clear h2 b2 HO
  go_wp2_with fail
  refine (Cr.pUv H2.out).mono ?_
  rintro e w3 ⟨rfl, h3, t3⟩
  rw [e3] at h3 ⊢
  have H3 := hid h3
  have T3 := hid t3
  clear h3 t3 e3 H2
  obtain ⟨b0, hb0⟩ : ∃ b0, w.heap.size = b0 := ⟨_, rfl⟩
  have hlo : (w.alloc (.cells #[.int .i64 0, .int .i64 0, .slice none 0 0, .slice none 0 0] 69)).heap.size = b0 + 1 := by simp [hb0]
  have hgl : b0 + 1 ≤ g := by rw [← hlo]; exact H3.out.glo
  have k0 : w3.heap[b0]? = some (.cells #[.int .i64 0, .int .i64 0, .slice none 0 0, .slice none 0 0] 69) := by
    have hs2 : b0 < w2.heap.size := by have := B2.out.size; rw [hlo] at this; omega
    rw [T3.out.block b0 hs2 (by omega), B2.out.block b0 (by rw [hlo]; omega), ← hb0]
    exact heap_new _ _
  have B3 : Hid (Below w.heap.size w w3) := by
    have h1 : Below w.heap.size w w2 := below_up (below_new _ _) (B2.out.mono (by rw [hlo]; omega))
    exact h1.trans ⟨T3.out.os, T3.out.tape, T3.out.output, T3.out.size, fun j hj => T3.out.block j (by have := h1.size; omega) (by omega)⟩
  have z0 : w3.cell? ⟨b0, 0, none⟩ = some (.int .i64 0) := by rw [cell_of_row _ _ _ _ _ _ k0]; rfl
  have z1 : w3.cell? ⟨b0, 1, none⟩ = some (.int .i64 0) := by rw [cell_of_row _ _ _ _ _ _ k0]; rfl
  have z2 : w3.cell? ⟨b0, 2, none⟩ = some (.slice none 0 0) := by rw [cell_of_row _ _ _ _ _ _ k0]; rfl
  have z3 : w3.cell? ⟨b0, 3, none⟩ = some (.slice none 0 0) := by rw [cell_of_row _ _ _ _ _ _ k0]; rfl
  have y0 : w3.frozen? ⟨b0, 0, none⟩ = false := by simp [World.frozen?, k0]
  have y1 : w3.frozen? ⟨b0, 1, none⟩ = false := by simp [World.frozen?, k0]
  have y2 : w3.frozen? ⟨b0, 2, none⟩ = false := by simp [World.frozen?, k0]
  have y3 : w3.frozen? ⟨b0, 3, none⟩ = false := by simp [World.frozen?, k0]
  clear H3 T3 B2 hlo
  rw [hb0] at B3
  go_wp2_with fail
  have kF := heap_set_rowT (i := 3) (heap_set_rowT (i := 2) (heap_set_rowT (i := 1) (heap_set_rowT (i := 0) k0 (.int .i64 0)) (.int .i64 0)) (.slice none 0 0)) (.slice none 0 0)
  have d0 : ((((w3.setCell ⟨b0, 0, none⟩ (.int .i64 0)).setCell ⟨b0, 1, none⟩ (.int .i64 0)).setCell ⟨b0, 2, none⟩ (.slice none 0 0)).setCell ⟨b0, 3, none⟩ (.slice none 0 0)).cell? ⟨b0, 0, none⟩ = some (.int .i64 0) := by rw [cell_of_row _ _ _ _ _ _ kF]; rfl
  have d1 : ((((w3.setCell ⟨b0, 0, none⟩ (.int .i64 0)).setCell ⟨b0, 1, none⟩ (.int .i64 0)).setCell ⟨b0, 2, none⟩ (.slice none 0 0)).setCell ⟨b0, 3, none⟩ (.slice none 0 0)).cell? ⟨b0, 1, none⟩ = some (.int .i64 0) := by rw [cell_of_row _ _ _ _ _ _ kF]; rfl
  have d2 : ((((w3.setCell ⟨b0, 0, none⟩ (.int .i64 0)).setCell ⟨b0, 1, none⟩ (.int .i64 0)).setCell ⟨b0, 2, none⟩ (.slice none 0 0)).setCell ⟨b0, 3, none⟩ (.slice none 0 0)).cell? ⟨b0, 2, none⟩ = some (.slice none 0 0) := by rw [cell_of_row _ _ _ _ _ _ kF]; rfl
  have d3 : ((((w3.setCell ⟨b0, 0, none⟩ (.int .i64 0)).setCell ⟨b0, 1, none⟩ (.int .i64 0)).setCell ⟨b0, 2, none⟩ (.slice none 0 0)).setCell ⟨b0, 3, none⟩ (.slice none 0 0)).cell? ⟨b0, 3, none⟩ = some (.slice none 0 0) := by rw [cell_of_row _ _ _ _ _ _ kF]; rfl
  refine bodyPost_ret (v := .tuple #[.agg #[.int .i64 0, .int .i64 0, .slice none 0 0, .slice none 0 0], .bool false]) (by simp [results, Tryz.results36, go_sem, d0, d1, d2, d3]) rfl ?_
  refine ⟨rfl, ?_⟩
  rw [hb0]
  exact (((B3.out.setCell (p := ⟨b0, 0, none⟩) (Nat.le_refl _) _).setCell (p := ⟨b0, 1, none⟩) (Nat.le_refl _) _).setCell (p := ⟨b0, 2, none⟩) (Nat.le_refl _) _).setCell (p := ⟨b0, 3, none⟩) (Nat.le_refl _) _
end Go.Proofs.YtenkdhphgfhkbaaGreat
