/-
  The leaves of Check.
-/
import Derived.Test.YthgnibphhiaecaaGreatAMath
namespace Go.Proofs.YthgnibphhiaecaaGreat
open Go.ChangeShapes Go.WideShapes Go.ChangeAt Go.RowKit Cu Vl
attribute [local go_sem] run_store_float

set_option maxHeartbeats 400000 in
theorem atom_is (k : Int) (w : World) : Calls Tryz.prog 63 #[.int .i64 k] w fun e w' => e = .returned (.bool (atmB k)) ∧ w' = w := by
  go_enter Tryz.func63, Tryz.ntmps63
  go_wp2_with fail
  all_goals go_ret
  all_goals exact ⟨ret_bool (by simp [atmB]; try omega), rfl⟩
set_option maxHeartbeats 400000 in
theorem op_is (k : Int) (w : World) : Calls Tryz.prog 56 #[.int .i64 k] w fun e w' => e = .returned (.bool (opB k)) ∧ w' = w := by
  go_enter Tryz.func56, Tryz.ntmps56
  go_wp2_with fail
  all_goals go_ret
  all_goals exact ⟨ret_bool (by simp [opB]; try omega), rfl⟩
set_option maxHeartbeats 400000 in
theorem counts_any (k : Int) (w : World) : Calls Tryz.prog 93 #[.int .i64 k] w fun e w' => e = .returned (.tuple #[.bool (cntO k), .bool (cntS k), .bool (cntL k)]) ∧ w' = w := by
  by_cases h1 : k = 1
  · subst h1
    go_enter Tryz.func93, Tryz.ntmps93
    go_wp2_with fail
    go_ret3
    exact ⟨rfl, rfl⟩
  · have e1 : (k == 1) = false := by simpa using h1
    by_cases h2 : k = 2
    · subst h2
      go_enter Tryz.func93, Tryz.ntmps93
      go_wp2_with fail
      go_ret3
      exact ⟨rfl, rfl⟩
    · have e2 : (k == 2) = false := by simpa using h2
      by_cases h3 : k = 3
      · subst h3
        go_enter Tryz.func93, Tryz.ntmps93
        go_wp2_with fail
        go_ret3
        exact ⟨rfl, rfl⟩
      · have e3 : (k == 3) = false := by simpa using h3
        by_cases h5 : k = 5
        · subst h5
          go_enter Tryz.func93, Tryz.ntmps93
          go_wp2_with fail
          go_ret3
          exact ⟨rfl, rfl⟩
        · have e5 : (k == 5) = false := by simpa using h5
          have HR : Hid (cntO k = false ∧ cntS k = false ∧ cntL k = false) := ⟨by simp [cntO, h1], by simp [cntS, h1, h5], by simp [cntL, h2, h3]⟩
          go_enter Tryz.func93, Tryz.ntmps93
          go_wp2_with fail
          go_ret3
          obtain ⟨r1, r2, r3⟩ := HR.out
          rw [r1, r2, r3]
          exact ⟨rfl, rfl⟩
set_option maxHeartbeats 1000000 in
theorem none_any (v : V) (w : World) (hv : VOk v) : Calls Tryz.prog 94 #[vv v] w fun e w' => e = .returned (.bool (nulB v)) ∧ Below w.heap.size w w' := by
  have HM : Hid (∀ w, Calls Tryz.prog 62 #[vv v] w fun e w' => e = .returned (.bool (mayV v)) ∧ Below w.heap.size w w') := fun w => may_any v.K v.I v.b v.s w hv.b
  have B := hid (below_new w (.cells (va v) 25))
  have hx : Bx (w.alloc (.cells (va v) 25)) w.heap.size (va v) 25 := Bx.new w _ _
  obtain ⟨c0, c1, c2, c3⟩ := hx.val
  have HR : Hid (nulB v = (decide (v.K = 0) && mayV v)) := rfl
  generalize nulB v = r at *
  generalize mayV v = m at *
  clear hx hv
  obtain ⟨K, I, b, s⟩ := v
  unfold vv at *
  unfold va at *
  dsimp only at *
  by_cases h0 : K = 0
  · subst h0
    go_enter Tryz.func94, Tryz.ntmps94
    go_wp2_with fail
    refine (HM.out _).mono ?_
    rintro e w1 ⟨rfl, hb⟩
    replace B := hid (below_up B.out hb)
    clear hb
    go_wp2_with fail
    go_ret
    exact ⟨ret_bool (by rw [HR.out]; simp), B.out⟩
  · have e0 : (K == 0) = false := by simpa using h0
    have HR2 := hid (show r = false by rw [HR.out]; simp [h0])
    go_enter Tryz.func94, Tryz.ntmps94
    go_wp2_with fail
    go_ret
    exact ⟨ret_bool (by rw [HR2.out]), B.out⟩
end Go.Proofs.YthgnibphhiaecaaGreat
