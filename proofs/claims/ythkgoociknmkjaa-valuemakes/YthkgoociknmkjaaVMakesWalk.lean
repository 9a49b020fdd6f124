/-
  THE WALK OF ValueMakes.
-/
import Derived.Test.YthkgoociknmkjaaVReal
namespace Go.Proofs.Ythkgoociknmkjaa
open Go.RowKit
attribute [local go_sem] run_store_float

theorem below_up {a b c : World} (h : Below a.heap.size a b) (k : Below b.heap.size b c) : Below a.heap.size a c := h.trans (k.mono h.size)
set_option maxHeartbeats 4000000 in
set_option maxRecDepth 20000 in
theorem walk_valueMakes (i : Int) (s : ByteArray) (b : Nat) (w : World) (hb : b < 18446744073709551616) : Calls Try.prog 4 #[.int .i64 i, .string s, .float .f64 b] w fun e w' => e = .returned (.bool true) ∧ Below w.heap.size w w' := by
  go_enter Try.func4, Try.ntmps4
  go_wp2_with fail
  refine (int_any i _).mono ?_
  rintro e w1 ⟨rfl, b1⟩
  have B1 : Hid (Below w.heap.size w w1) := b1
  clear b1
  go_wp2_with fail
  refine (text_any s _).mono ?_
  rintro e w2 ⟨rfl, b2⟩
  have hx := (b2.block w1.heap.size (by simp)).trans (World.alloc_heap_new w1 (.cells #[.int .i64 1, .int .i64 i, .float .f64 0, .string ⟨#[]⟩] 26))
  have hz1 : w1.heap.size < w2.heap.size := by have := b2.size; simp at this; omega
  have k0 : ∀ o, (w2.alloc o).cell? ⟨w1.heap.size, 0, none⟩ = some (.int .i64 1) := fun o => cell_of ((Below.heap_alloc _ _ _ hz1).trans hx) rfl
  have k1 : ∀ o, (w2.alloc o).cell? ⟨w1.heap.size, 1, none⟩ = some (.int .i64 i) := fun o => cell_of ((Below.heap_alloc _ _ _ hz1).trans hx) rfl
  have k2 : ∀ o, (w2.alloc o).cell? ⟨w1.heap.size, 2, none⟩ = some (.float .f64 0) := fun o => cell_of ((Below.heap_alloc _ _ _ hz1).trans hx) rfl
  have k3 : ∀ o, (w2.alloc o).cell? ⟨w1.heap.size, 3, none⟩ = some (.string ⟨#[]⟩) := fun o => cell_of ((Below.heap_alloc _ _ _ hz1).trans hx) rfl
  have B2 : Hid (Below w.heap.size w w2) := (below_up B1.out (below_up ((Below.refl _ w1).alloc (Nat.le_refl _) _) b2))
  clear b2 hx hz1 B1
  go_wp2_with fail
  refine (same_yes 1 i 0 ⟨#[]⟩ _).mono ?_
  rintro e w3 ⟨rfl, b3⟩
  have hy := (b3.block w2.heap.size (by simp)).trans (World.alloc_heap_new w2 (.cells #[.int .i64 2, .int .i64 0, .float .f64 0, .string s] 26))
  have l0 : w3.cell? ⟨w2.heap.size, 0, none⟩ = some (.int .i64 2) := cell_of hy rfl
  have l1 : w3.cell? ⟨w2.heap.size, 1, none⟩ = some (.int .i64 0) := cell_of hy rfl
  have l2 : w3.cell? ⟨w2.heap.size, 2, none⟩ = some (.float .f64 0) := cell_of hy rfl
  have l3 : w3.cell? ⟨w2.heap.size, 3, none⟩ = some (.string s) := cell_of hy rfl
  have B3 : Hid (Below w.heap.size w w3) := (below_up B2.out (below_up ((Below.refl _ w2).alloc (Nat.le_refl _) _) b3))
  clear b3 hy B2 k0 k1 k2 k3
  go_wp2_with fail
  refine (same_yes 2 0 0 s _).mono ?_
  rintro e w4 ⟨rfl, b4⟩
  have B4 : Hid (Below w.heap.size w w4) := below_up B3.out b4
  clear b4 B3 l0 l1 l2 l3
  go_wp2_with fail
  refine (real_any b _ hb).mono ?_
  rintro e w5 ⟨rfl, b5⟩
  have B5 : Hid (Below w.heap.size w w5) := below_up B4.out b5
  clear b5 B4
  go_wp2_with fail
  refine (refReal_any b _ hb).mono ?_
  rintro e w6 ⟨rfl, b6⟩
  have B6 : Hid (Below w.heap.size w w6) := below_up B5.out b6
  clear b6 B5
  unfold realV
  go_wp2_with fail
  refine (same_yes (realK b) 0 (realF b) ⟨#[]⟩ _).mono ?_
  rintro e w7 ⟨rfl, b7⟩
  have B7 : Hid (Below w.heap.size w w7) := below_up B6.out b7
  clear b7 B6
  go_wp2_with fail
  refine (none_any _).mono ?_
  rintro e w8 ⟨rfl, rfl⟩
  go_wp2_with fail
  refine (same_yes 0 0 0 ⟨#[]⟩ _).mono ?_
  rintro e w9 ⟨rfl, b9⟩
  have B9 : Hid (Below w.heap.size w w9) := below_up (B7.out.alloc B7.out.size _) b9
  clear b9 B7
  go_wp2_with fail
  go_ret
  exact ⟨rfl, B9.out⟩
end Go.Proofs.Ythkgoociknmkjaa
