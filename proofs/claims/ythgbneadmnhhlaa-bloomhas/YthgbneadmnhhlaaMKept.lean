/-
  The law's keptValues.
-/
import Derived.Test.YthgbneadmnhhlaaMSame
import Derived.Deep.RegionHeld3
namespace Go.Proofs.Ythgbneadmnhhlaa
open Go.ChangeShapes Go.WideShapes Go.ChangeAt Go.RowKit Crc Cu Vl
attribute [local go_sem] run_store_float run_equalIn_float

theorem LV.mark {w : World} {lo b c : Nat} {l : List V} (h : LV w lo b c l) {k : Nat} (hk : k < 3) : ∀ W, Below w.heap.size w W → W.cell? ⟨b, (l.length + k) * 4, none⟩ = some (.int .i64 77) ∧ W.cell? ⟨b, (l.length + k) * 4 + 1, none⟩ = some (.int .i64 0) ∧ W.cell? ⟨b, (l.length + k) * 4 + 2, none⟩ = some (.float .f64 0) ∧ W.cell? ⟨b, (l.length + k) * 4 + 3, none⟩ = some (.string ⟨#[109, 97, 114, 107]⟩) := fun W hW => by
  have hl : (l ++ [mk, mk, mk])[l.length + k]? = some mk := by
    rw [List.getElem?_append_right (by omega), show l.length + k - l.length = k by omega]
    have : k = 0 ∨ k = 1 ∨ k = 2 := by omega
    rcases this with rfl | rfl | rfl <;> rfl
  obtain ⟨g, o, e, _, hc⟩ := (h.later hW).all _ _ hl
  cases e
  have c0 := hc 0 _ rfl
  have c1 := hc 1 _ rfl
  have c2 := hc 2 _ rfl
  have c3 := hc 3 _ rfl
  rw [Nat.zero_add] at c0 c1 c2 c3
  exact ⟨c0, c1, c2, c3⟩
set_option maxRecDepth 8000 in
set_option maxHeartbeats 8000000 in
theorem keptV_any (lo b c : Nat) (l : List V) (a2 : Option Addr) (c2 : Nat) (w : World) (hL : LV w lo b c l) (h2 : Lst vc 4 w a2 l) (hl : l.length ≤ 140737488355328) :
    Calls Try.prog 12 #[.slice (some ⟨b, 0, none⟩) l.length c, .slice a2 l.length c2] w fun e w' => e = .returned (.bool true) ∧ Below w.heap.size w w' := by
  have HSm : Hid (∀ W, Below w.heap.size w W → Calls Try.prog 32 #[.slice (some ⟨b, 0, none⟩) l.length c, .slice a2 l.length c2] W fun e w' => e = .returned (.bool true) ∧ ∃ j, w' = W.drewN j) := fun W hW => sameV_any _ _ l c c2 W (hL.later hW).lst (h2.later hW) hl
  have m0 := hL.mark (k := 0) (by omega)
  have m1 := hL.mark (k := 1) (by omega)
  have m2 := hL.mark (k := 2) (by omega)
  rw [Nat.add_zero] at m0
  have p0 := fun W hW => (m0 W hW).1
  have p1 := fun W hW => (m0 W hW).2.1
  have p2 := fun W hW => (m0 W hW).2.2.1
  have p3 := fun W hW => (m0 W hW).2.2.2
  have q0 := fun W hW => (m1 W hW).1
  have q1 := fun W hW => (m1 W hW).2.1
  have q2 := fun W hW => (m1 W hW).2.2.1
  have q3 := fun W hW => (m1 W hW).2.2.2
  have r0 := fun W hW => (m2 W hW).1
  have r1 := fun W hW => (m2 W hW).2.1
  have r2 := fun W hW => (m2 W hW).2.2.1
  have r3 := fun W hW => (m2 W hW).2.2.2
  obtain ⟨_, _, hc3, hcm⟩ := hL.le
  simp only [maxLen] at hcm
  have hci : (l.length : Int) + 3 ≤ (c : Int) := by omega
  have hi0 : (l.length : Int) < (l.length : Int) + 3 := by omega
  have hi1 : (l.length : Int) + 1 < (l.length : Int) + 3 := by omega
  have hi2 : (l.length : Int) + 2 < (l.length : Int) + 3 := by omega
  have hj0 : l.length < l.length + 3 := by omega
  have ho0 : FloatKind.f64.format.order 0 0 = some .eq := by decide
  have hw1 : IntKind.i64.wrap ((l.length : Int) + 1) = (l.length : Int) + 1 := by rw [IntKind.wrap_i64]; omega
  have hw2 : IntKind.i64.wrap ((l.length : Int) + 2) = (l.length : Int) + 2 := by rw [IntKind.wrap_i64]; omega
  have hw3 : IntKind.i64.wrap ((l.length : Int) + 3) = (l.length : Int) + 3 := by rw [IntKind.wrap_i64]; omega
  have ht1 : ((l.length : Int) + 1).toNat = l.length + 1 := by omega
  have ht2 : ((l.length : Int) + 2).toNat = l.length + 2 := by omega
  have hp1 : (0 : Int) ≤ (l.length : Int) + 1 := by omega
  have hp2 : (0 : Int) ≤ (l.length : Int) + 2 := by omega
  have hj1 : l.length + 1 < l.length + 3 := by omega
  have hj2 : l.length + 2 < l.length + 3 := by omega
  have HB := hid (Below.refl w.heap.size w)
  clear m0 m1 m2 hL h2
  go_enter Try.func12, Try.ntmps12
  go_wp2_with fail
  go_region_held3 (fun W => Below w.heap.size w W) (first | assumption | exact (Below.refl _ _).drew | exact Below.drew (by assumption) | exact below_drewN (Below.refl _ _) _ | exact below_drewN (by assumption) _ | exact below_up (by assumption) (below_new _ _) | exact below_up (below_drewN (Below.refl _ _) _) (below_new _ _)) (first
    | (go_at_call 32; refine (HSm.out _ (by assumption)).mono ?_; rintro e w8 ⟨rfl, j8, hw8⟩; have hS8 : Below w.heap.size w w8 := by rw [hw8]; exact below_drewN (by assumption) _)
    | (go_at_call 25; refine (mark_any _).mono ?_; unfold mkV; rintro e w9 ⟨rfl, hw9⟩; have hS9 : Below w.heap.size w w9 := by rw [hw9]; exact below_up (by assumption) (below_new _ _)))
  all_goals go_wp2_with fail
  all_goals go_ret
  all_goals exact ⟨rfl, below_up (below_up (below_up (below_drewN (Below.refl _ _) _) (below_new _ _)) (below_new _ _)) (below_new _ _)⟩
end Go.Proofs.Ythgbneadmnhhlaa
