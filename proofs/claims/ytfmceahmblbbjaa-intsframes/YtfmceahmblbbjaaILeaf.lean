/-
  The small ones of package ints: sidesBy, sidesOf, greatestOf; frame.Lift, Drop; the document's stands.
-/
import Derived.Test.YtfmceahmblbbjaaIMath
import Derived.Test.YtfmceahmblbbjaaUMem
import Derived.Lib.MinMax
namespace Go.Proofs.Ytfmceahmblbbjaa
open Go.ChangeShapes Go.WideShapes Go.ChangeAt Go.RowKit It

def sdN (x y z : Bool) : Int := (if x = true then 1 else 0) + (if y = true then 2 else 0) + (if z = true then 4 else 0)
def sdW (op : Int) : Int := if op = 1 then 2 else if op = 2 then 5 else if op = 3 then 1 else if op = 4 then 3 else if op = 5 then 4 else if op = 6 then 6 else 0
set_option maxHeartbeats 1000000 in
theorem sidesBy_any (op : Int) (w : World) : Calls Try.prog 7 #[.int .i64 op] w fun e w' => e = .returned (.int .i64 (sdW op)) ∧ w' = w := by
  by_cases h : op = 1 ∨ op = 2 ∨ op = 3 ∨ op = 4 ∨ op = 5 ∨ op = 6
  · rcases h with rfl | rfl | rfl | rfl | rfl | rfl
    all_goals go_enter Try.func7, Try.ntmps7
    all_goals go_wp2_with fail
    all_goals go_ret
    all_goals exact ⟨rfl, rfl⟩
  · have HR : Hid (sdW op = 0) := by
      show _ = _
      unfold sdW
      rw [if_neg (by omega), if_neg (by omega), if_neg (by omega), if_neg (by omega), if_neg (by omega), if_neg (by omega)]
    have h1 : (op == 1) = false := by simp; omega
    have h2 : (op == 2) = false := by simp; omega
    have h3 : (op == 3) = false := by simp; omega
    have h4 : (op == 4) = false := by simp; omega
    have h5 : (op == 5) = false := by simp; omega
    have h6 : (op == 6) = false := by simp; omega
    clear h
    go_enter Try.func7, Try.ntmps7
    go_wp2_with fail
    go_ret
    exact ⟨ret_int HR.out.symm, rfl⟩
set_option maxHeartbeats 1000000 in
theorem sidesOf_any (l g c : Int) (w : World) : Calls Try.prog 8 #[.int .i64 l, .int .i64 g, .int .i64 c] w fun e w' => e = .returned (.int .i64 (sdN (decide (l < c)) (decide (l ≤ c) && decide (c ≤ g)) (decide (c < g)))) ∧ w' = w := by
  by_cases h1 : l < c <;> by_cases h2 : l ≤ c <;> by_cases h3 : c ≤ g <;> by_cases h4 : c < g
  all_goals simp only [h1, h2, h3, h4, decide_true, decide_false, Bool.and_true, Bool.and_false]
  all_goals go_enter Try.func8, Try.ntmps8
  all_goals go_wp2_with fail
  all_goals go_ret
  all_goals exact ⟨rfl, rfl⟩
set_option maxHeartbeats 4000000 in
theorem stands_any (op a c : Int) (w : World) (hop : opI op = true) : Calls Try.prog 6 #[.int .i64 op, .int .i64 a, .int .i64 c] w fun e w' => e = .returned (.bool (stdI op a c)) ∧ w' = w := by
  unfold opI at hop
  simp at hop
  obtain rfl | rfl | rfl | rfl | rfl | rfl : op = 1 ∨ op = 2 ∨ op = 3 ∨ op = 4 ∨ op = 5 ∨ op = 6 := by omega
  all_goals
    rcases (by omega : a < c ∨ a = c ∨ c < a) with h | h | h
    · have h1 : (a == c) = false := by simp; omega
      have h2 : (a != c) = true := by simp; omega
      have h3 : a ≤ c := by omega
      have h4 : ¬ c < a := by omega
      have h5 : ¬ c ≤ a := by omega
      go_enter Try.func6, Try.ntmps6
      go_wp2_with fail
      go_ret
      exact ⟨ret_bool (by simp [stdI] <;> omega), rfl⟩
    · subst h
      have h1 : (a == a) = true := by simp
      have h2 : (a != a) = false := by simp
      go_enter Try.func6, Try.ntmps6
      go_wp2_with fail
      go_ret
      exact ⟨ret_bool (by simp [stdI]), rfl⟩
    · have h1 : (a == c) = false := by simp; omega
      have h2 : (a != c) = true := by simp; omega
      have h3 : ¬ a ≤ c := by omega
      have h4 : ¬ a < c := by omega
      have h5 : c ≤ a := by omega
      go_enter Try.func6, Try.ntmps6
      go_wp2_with fail
      go_ret
      exact ⟨ret_bool (by simp [stdI] <;> omega), rfl⟩
set_option maxHeartbeats 1000000 in
theorem lift_in (b : Int) (c : Nat) (w : World) (hb : In b) (hc : c ≤ room b) : Calls Try.prog 11 #[.int .i64 b, .int .u64 (c : Int)] w fun e w' => e = .returned (.int .i64 (b + c)) ∧ w' = w := by
  have HB := hid hb
  have HC := hid hc
  clear hb hc
  go_enter Try.func11, Try.ntmps11
  go_wp2
  go_ret
  refine ⟨ret_int ?_, rfl⟩
  have hb := HB.out
  have hc := HC.out
  unfold In room at *
  simp only [wrap64, IntKind.wrap_u64]
  omega
theorem drop_wrap {b v : Int} (hb : In b) (hv : In v) (h : b ≤ v) : IntKind.u64.wrap (IntKind.u64.wrap v - IntKind.u64.wrap b) = ((v - b).toNat : Int) := by
  unfold In at *
  simp only [IntKind.wrap_u64]
  omega
set_option maxHeartbeats 400000 in
theorem drop_yes (b v : Int) (w : World) (hb : In b) (hv : In v) (h : b ≤ v) : Calls Try.prog 10 #[.int .i64 b, .int .i64 v] w fun e w' => e = .returned (.tuple #[.int .u64 ((v - b).toNat : Int), .bool true]) ∧ w' = w := by
  have hd : decide (v < b) = false := by simp; omega
  rw [← drop_wrap hb hv h]
  have HB := hid hb
  have HV := hid hv
  clear hb hv h
  go_enter Try.func10, Try.ntmps10
  go_wp2
  go_ret2
  exact ⟨rfl, rfl⟩
theorem shl_in (n : Nat) (h : n ≤ 64) : IntKind.u64.wrap (IntKind.u64.wrap (2 ^ n) - 1) = ((2 ^ n - 1 : Nat) : Int) := by
  have h0 : n = 64 ∨ n < 64 := by omega
  rcases h0 with rfl | h0
  · decide
  · have h1 : 2 ^ n < 2 ^ 64 := Nat.pow_lt_pow_right (by omega) h0
    have h2 : 0 < 2 ^ n := Nat.two_pow_pos n
    have h3 : ((2 : Int) ^ n) = ((2 ^ n : Nat) : Int) := by simp
    rw [h3]
    simp only [IntKind.wrap_u64]
    generalize 2 ^ n = x at *
    omega
end Go.Proofs.Ytfmceahmblbbjaa
