/-
  May, Fits: what the program and the document say.
-/
import Derived.Test.YthgbneadmnhhlaaVLeaf
import Derived.RangeFuncBox
namespace Go.Proofs.Ythgbneadmnhhlaa.Vl
open Go.RowKit

/-- Which values may be. -/
def mayB (K I : Int) (b : Nat) (s : ByteArray) : Bool :=
  if K = 0 then decide (I = 0) && decide (b = 0) && s.toList.isEmpty
  else if K = 1 then decide (b = 0) && s.toList.isEmpty
  else if K = 2 then decide (I = 0) && decide (b = 0) && decide ((s.size : Int) ≤ 65535)
  else if K = 3 then decide (I = 0) && realB b && s.toList.isEmpty
  else false
def valV (K I : Int) (b : Nat) (s : ByteArray) : Value := .agg #[.int .i64 K, .int .i64 I, .float .f64 b, .string s]
def colV (nm : ByteArray) (T : Int) (nb : Bool) : Value := .agg #[.string nm, .int .i64 T, .bool nb]
def fitsB (T : Int) (nb : Bool) (K : Int) (q : Bool) : Bool := q && (decide (K = T) || (decide (K = 0) && nb))

set_option maxHeartbeats 4000000 in
set_option maxRecDepth 20000 in
theorem may_any (K I : Int) (b : Nat) (s : ByteArray) (w : World) (hb : b < 18446744073709551616)  : Calls Try.prog 38 #[valV K I b s] w fun e w' => e = .returned (.bool (mayB K I b s)) ∧ Below w.heap.size w w' := by
  have HZ := fun w => zero_any b w hb
  have HR := fun w => mayReal_any b w hb
  unfold valV
  go_enter Try.func38, Try.ntmps38
  go_wp2_with (first | (go_at_call 47; refine (HZ _).mono ?_; rintro e w' ⟨rfl, rfl⟩) | (go_at_call 48; refine (HR _).mono ?_; rintro e w' ⟨rfl, rfl⟩))
  all_goals go_ret
  all_goals refine ⟨ret_bool ?_, (Below.refl _ w).alloc (Nat.le_refl _) _⟩
  all_goals simp_all [mayB]
set_option maxHeartbeats 4000000 in
set_option maxRecDepth 20000 in
theorem refMay_any (K I : Int) (b : Nat) (s : ByteArray) (w : World) (hb : b < 18446744073709551616)  : Calls Try.prog 34 #[valV K I b s] w fun e w' => e = .returned (.bool (mayB K I b s)) ∧ Below w.heap.size w w' := by
  have HZ := fun w => plus_any b w hb
  have HS := fun w => sign_any b w hb
  have HN := fun w => nan_any b w
  have HI := fun w => inf_any b w hb
  have hz := eq_zero b
  rw [← fmt64] at hz
  unfold valV
  obtain ⟨m, hm⟩ : ∃ m, mayB K I b s = m := ⟨_, rfl⟩
  have HM : Hid (mayB K I b s = m) := hm
  rw [hm]
  clear hm
  go_enter Try.func34, Try.ntmps34
  go_wp2_with (first | (go_at_call 42; refine (HZ _).mono ?_; rintro e w' ⟨rfl, rfl⟩) | (go_at_call 43; refine (HS _).mono ?_; rintro e w' ⟨rfl, rfl⟩) | (go_at_call 44; refine (HN _).mono ?_; rintro e w' ⟨rfl, rfl⟩) | (go_at_call 45; refine (HI _).mono ?_; rintro e w' ⟨rfl, rfl⟩))
  all_goals go_ret
  all_goals refine ⟨ret_bool ?_, (Below.refl _ w).alloc (Nat.le_refl _) _⟩
  all_goals
    have hm := HM.out
    clear HM HZ HS HN HI hz
    rw [← hm]
    clear hm
    unfold mayB
    generalize s.toList = l at *
    by_cases c1 : 9218868437227405312 < b % 9223372036854775808
    all_goals by_cases c2 : b % 9223372036854775808 = 9218868437227405312
    all_goals first
      | omega
      | (have hr : realB b = true := decide_eq_true (by omega)
         cases l <;> simp_all
         done)
      | (have hr : realB b = false := decide_eq_false (by omega)
         cases l <;> simp_all
         done)
      | (clear hb c1 c2
         cases l <;> simp_all
         done)

theorem cell_of {w : World} {g j : Nat} {cs : Array Value} {t : TypeId} {v : Value} {z : Nat × Nat} (h : w.heap[g]? = some (.cells cs t z)) (hj : cs[j]? = some v) : w.cell? ⟨g, j, none⟩ = some v := by
  simp [World.cell?, h, hj]
theorem two_new (w : World) (a b : Array Value) (t u : TypeId) : ((w.alloc (.cells a t)).alloc (.cells b u)).heap[w.heap.size]? = some (.cells a t (0, 0)) ∧ ((w.alloc (.cells a t)).alloc (.cells b u)).heap[w.heap.size + 1]? = some (.cells b u (0, 0)) ∧ Below w.heap.size w ((w.alloc (.cells a t)).alloc (.cells b u)) := by
  refine ⟨?_, ?_, ((Below.refl _ w).alloc (Nat.le_refl _) _).alloc (by simp) _⟩
  · rw [Below.heap_alloc _ _ _ (by simp)]
    exact World.alloc_heap_new _ _
  · have := World.alloc_heap_new (w.alloc (.cells a t)) (.cells b u)
    simpa using this

end Go.Proofs.Ythgbneadmnhhlaa.Vl
