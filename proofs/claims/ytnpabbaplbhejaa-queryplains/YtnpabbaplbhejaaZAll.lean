import Derived.Test.YtnpabbaplbhejaaAV
import Derived.Laws.StructEq
/-
  The leaves: isGood, isNull, nullsMayBe, cmp.Compare, place, Compare.
-/
namespace Go.Proofs.Ytnpabbaplbhejaa
open Go.RowKit Cu Vl
attribute [local go_sem] run_store_float

theorem run_equalIn_float {P : Program} (w : World) (d : Nat) (t : TypeId) (k : FloatKind) (a b : Nat) (h : P.underlying t = some (.float k)) : (Op.equalIn (d + 1) t (.float k a) (.float k b)).run P w = .ok (k.format.order a b == some .eq) w := by
  simp [Op.equalIn, run_underlying h]
  rfl
attribute [local go_sem] run_equalIn_float
end Go.Proofs.Ytnpabbaplbhejaa

/-
  Compare.
-/
namespace Go.Proofs.Ytnpabbaplbhejaa
open Go.RowKit Cu Vl
attribute [local go_sem] run_store_float

def va (v : V) : Array Value := #[.int .i64 v.K, .int .i64 v.I, .float .f64 v.b, .string v.s]
theorem two_cells {w W : World} (a b : V) (h : (w.alloc (.cells (va a) 24)).alloc (.cells (va b) 24) = W) :
    W.cell? ⟨w.heap.size, 0, none⟩ = some (.int .i64 a.K) ∧ W.cell? ⟨w.heap.size, 1, none⟩ = some (.int .i64 a.I) ∧ W.cell? ⟨w.heap.size, 2, none⟩ = some (.float .f64 a.b) ∧ W.cell? ⟨w.heap.size, 3, none⟩ = some (.string a.s) ∧
    W.cell? ⟨w.heap.size + 1, 0, none⟩ = some (.int .i64 b.K) ∧ W.cell? ⟨w.heap.size + 1, 1, none⟩ = some (.int .i64 b.I) ∧ W.cell? ⟨w.heap.size + 1, 2, none⟩ = some (.float .f64 b.b) ∧ W.cell? ⟨w.heap.size + 1, 3, none⟩ = some (.string b.s) ∧ Below w.heap.size w W := by
  obtain ⟨h1, h2, h3⟩ := two_new w (va a) (va b) 24 24
  rw [h] at h1 h2 h3
  exact ⟨cell_of h1 rfl, cell_of h1 rfl, cell_of h1 rfl, cell_of h1 rfl, cell_of h2 rfl, cell_of h2 rfl, cell_of h2 rfl, cell_of h2 rfl, h3⟩
end Go.Proofs.Ytnpabbaplbhejaa
