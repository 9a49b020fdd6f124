/-
  May, Fits: what the program and the document say.
-/
import Derived.Test.YthlfdmigmgpgfaaVLeaf
import Derived.RangeFuncBox
namespace Go.Proofs.Ythlfdmigmgpgfaa.Vl
open Go.RowKit

/-- Which values may be. -/
def mayB (K I : Int) (b : Nat) (s : ByteArray) : Bool :=
  if K = 0 then decide (I = 0) && decide (b = 0) && s.toList.isEmpty
  else if K = 1 then decide (b = 0) && s.toList.isEmpty
  else if K = 2 then decide (I = 0) && decide (b = 0) && decide ((s.size : Int) ≤ 65535)
  else if K = 3 then decide (I = 0) && realB b && s.toList.isEmpty
  else false
def valV (K I : Int) (b : Nat) (s : ByteArray) : Value := .agg #[.int .i64 K, .int .i64 I, .float .f64 b, .string s]
def colV (nm : ByteArray) (T : Int) (nb : Bool) : Value := .agg #[.string nm, .int .i64 T, .bool nb]
def fitsB (T : Int) (nb : Bool) (K : Int) (q : Bool) : Bool := q && (decide (K = T) || (decide (K = 0) && nb))

set_option maxHeartbeats 4000000 in
set_option maxRecDepth 20000 in
theorem may_any (K I : Int) (b : Nat) (s : ByteArray) (w : World) (hb : b < 18446744073709551616)  : Calls Try.prog 44 #[valV K I b s] w fun e w' => e = .returned (.bool (mayB K I b s)) ∧ Below w.heap.size w w' := by
  have HZ := fun w => zero_any b w hb
  have HR := fun w => mayReal_any b w hb
  unfold valV
  go_enter Try.func44, Try.ntmps44
  go_wp2_with (first | (go_at_call 58; refine (HZ _).mono ?_; rintro e w' ⟨rfl, rfl⟩) | (go_at_call 59; refine (HR _).mono ?_; rintro e w' ⟨rfl, rfl⟩))
  all_goals go_ret
  all_goals refine ⟨ret_bool ?_, (Below.refl _ w).alloc (Nat.le_refl _) _⟩
  all_goals simp_all [mayB]
theorem cell_of {w : World} {g j : Nat} {cs : Array Value} {t : TypeId} {v : Value} {z : Nat × Nat} (h : w.heap[g]? = some (.cells cs t z)) (hj : cs[j]? = some v) : w.cell? ⟨g, j, none⟩ = some v := by
  simp [World.cell?, h, hj]
theorem two_new (w : World) (a b : Array Value) (t u : TypeId) : ((w.alloc (.cells a t)).alloc (.cells b u)).heap[w.heap.size]? = some (.cells a t (0, 0)) ∧ ((w.alloc (.cells a t)).alloc (.cells b u)).heap[w.heap.size + 1]? = some (.cells b u (0, 0)) ∧ Below w.heap.size w ((w.alloc (.cells a t)).alloc (.cells b u)) := by
  refine ⟨?_, ?_, ((Below.refl _ w).alloc (Nat.le_refl _) _).alloc (by simp) _⟩
  · rw [Below.heap_alloc _ _ _ (by simp)]
    exact World.alloc_heap_new _ _
  · have := World.alloc_heap_new (w.alloc (.cells a t)) (.cells b u)
    simpa using this

set_option maxHeartbeats 4000000 in
set_option maxRecDepth 20000 in
theorem fits_any (nm : ByteArray) (T : Int) (nb : Bool) (K I : Int) (b : Nat) (s : ByteArray) (w : World) (hb : b < 18446744073709551616) : Calls Try.prog 16 #[colV nm T nb, valV K I b s] w fun e w' => e = .returned (.bool (fitsB T nb K (mayB K I b s))) ∧ Below w.heap.size w w' := by
  have HM := fun w => may_any K I b s w hb
  have hW := two_new w #[.string nm, .int .i64 T, .bool nb] #[.int .i64 K, .int .i64 I, .float .f64 b, .string s] 40 25
  unfold valV at *
  unfold colV
  generalize mayB K I b s = q at *
  go_enter Try.func16, Try.ntmps16
  go_wp2_with fail
  refine (HM _).mono ?_
  rintro e w' ⟨rfl, hbw⟩
  have hB : Below w.heap.size w w' := hW.2.2.trans (hbw.mono hW.2.2.size)
  have c1 : w'.cell? ⟨w.heap.size, 1, none⟩ = some (.int .i64 T) := cell_of ((hbw.block _ (by simp; omega)).trans hW.1) rfl
  have c2 : w'.cell? ⟨w.heap.size, 2, none⟩ = some (.bool nb) := cell_of ((hbw.block _ (by simp; omega)).trans hW.1) rfl
  have c3 : w'.cell? ⟨w.heap.size + 1, 0, none⟩ = some (.int .i64 K) := cell_of ((hbw.block _ (by simp)).trans hW.2.1) rfl
  clear hbw HM hW
  go_wp2_with fail
  all_goals go_ret
  all_goals refine ⟨ret_bool ?_, hB⟩
  all_goals simp_all [fitsB]
end Go.Proofs.Ythlfdmigmgpgfaa.Vl
