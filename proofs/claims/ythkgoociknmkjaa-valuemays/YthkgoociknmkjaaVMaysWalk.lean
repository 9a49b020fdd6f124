/-
  THE WALK OF ValueMays.
-/
import Derived.Test.YthkgoociknmkjaaVMay
namespace Go.Proofs.Ythkgoociknmkjaa
open Go.RowKit

theorem below_up {a b c : World} (h : Below a.heap.size a b) (k : Below b.heap.size b c) : Below a.heap.size a c := h.trans (k.mono h.size)
theorem below_alloc {a b : World} (h : Below a.heap.size a b) (o : Obj) : Below a.heap.size a (b.alloc o) := h.alloc h.size o
set_option maxHeartbeats 400000 in
set_option maxRecDepth 20000 in
theorem walk_valueMays (nm : ByteArray) (T : Int) (nb : Bool) (K I : Int) (b : Nat) (s : ByteArray) (w : World) (hb : b < 18446744073709551616) : Calls Try.prog 3 #[colV nm T nb, valV K I b s] w fun e w' => e = .returned (.bool true) ∧ Below w.heap.size w w' := by
  have H1 := fun w => may_any K I b s w hb
  have H2 := fun w => refMay_any K I b s w hb
  have H3 := fun w => fits_any nm T nb K I b s w hb
  have H4 := fun w => refFits_any nm T nb K I b s w hb
  have hW := two_new w #[.string nm, .int .i64 T, .bool nb] #[.int .i64 K, .int .i64 I, .float .f64 b, .string s] 23 26
  unfold valV colV at *
  generalize fitsB T nb K (mayB K I b s) = q2 at *
  generalize mayB K I b s = q at *
  have hqq : (q == q) = true := by simp
  have hqq2 : (q2 == q2) = true := by simp
  go_enter Try.func3, Try.ntmps3
  go_wp2_with fail
  obtain ⟨W0, hW0⟩ : ∃ W0, ((w.alloc (.cells #[.string nm, .int .i64 T, .bool nb] 23)).alloc (.cells #[.int .i64 K, .int .i64 I, .float .f64 b, .string s] 26)) = W0 := ⟨_, rfl⟩
  have hsz : W0.heap.size = w.heap.size + 2 := by subst hW0; simp
  rw [hW0] at hW
  rw [hW0]
  obtain ⟨hx, hy, hB0⟩ := hW
  have HC : Hid (∀ W, Below W0.heap.size W0 W → W.cell? ⟨w.heap.size, 0, none⟩ = some (.string nm) ∧ W.cell? ⟨w.heap.size, 1, none⟩ = some (.int .i64 T) ∧ W.cell? ⟨w.heap.size, 2, none⟩ = some (.bool nb) ∧ W.cell? ⟨w.heap.size + 1, 0, none⟩ = some (.int .i64 K) ∧ W.cell? ⟨w.heap.size + 1, 1, none⟩ = some (.int .i64 I) ∧ W.cell? ⟨w.heap.size + 1, 2, none⟩ = some (.float .f64 b) ∧ W.cell? ⟨w.heap.size + 1, 3, none⟩ = some (.string s) ∧ Below W0.heap.size W0 W) := fun W hb =>
    have h1 := (hb.block w.heap.size (by omega)).trans hx
    have h2 := (hb.block (w.heap.size + 1) (by omega)).trans hy
    ⟨cell_of h1 rfl, cell_of h1 rfl, cell_of h1 rfl, cell_of h2 rfl, cell_of h2 rfl, cell_of h2 rfl, cell_of h2 rfl, hb⟩
  have HB0 : Hid (Below w.heap.size w W0) := hB0
  have v0 : Below W0.heap.size W0 W0 := Below.refl _ _
  clear hW0 hx hy hB0 hsz
  go_region_held3 (fun W => W.cell? ⟨w.heap.size, 0, none⟩ = some (.string nm) ∧ W.cell? ⟨w.heap.size, 1, none⟩ = some (.int .i64 T) ∧ W.cell? ⟨w.heap.size, 2, none⟩ = some (.bool nb) ∧ W.cell? ⟨w.heap.size + 1, 0, none⟩ = some (.int .i64 K) ∧ W.cell? ⟨w.heap.size + 1, 1, none⟩ = some (.int .i64 I) ∧ W.cell? ⟨w.heap.size + 1, 2, none⟩ = some (.float .f64 b) ∧ W.cell? ⟨w.heap.size + 1, 3, none⟩ = some (.string s) ∧ Below W0.heap.size W0 W) (exact HC.out _ (by first | assumption | exact Below.drew (by assumption) | exact below_alloc (by assumption) _))
    (first | (go_at_call 6; refine (H1 _).mono ?_; rintro e w1 ⟨rfl, hb1⟩; have vS1 : Below W0.heap.size W0 w1 := below_up (by first | assumption | exact Below.drew (by assumption)) hb1; clear hb1) | (go_at_call 7; refine (H2 _).mono ?_; rintro e w2 ⟨rfl, hb2⟩; have vS2 : Below W0.heap.size W0 w2 := below_up (by first | assumption | exact Below.drew (by assumption)) hb2; clear hb2) | (go_at_call 8; refine (H3 _).mono ?_; rintro e w3 ⟨rfl, hb3⟩; have vS3 : Below W0.heap.size W0 w3 := below_up (by first | assumption | exact Below.drew (by assumption)) hb3; clear hb3) | (go_at_call 9; refine (H4 _).mono ?_; rintro e w4 ⟨rfl, hb4⟩; have vS4 : Below W0.heap.size W0 w4 := below_up (by first | assumption | exact Below.drew (by assumption)) hb4; clear hb4))
  go_wp2_with fail
  go_ret
  exact ⟨rfl, HB0.out.trans (vS4.mono HB0.out.size)⟩
end Go.Proofs.Ythkgoociknmkjaa
