/-
  The leaves: isGood, isNull, nullsMayBe, cmp.Compare, place, Compare.
-/
import Derived.Test.YtflgmcmecnlgiaaAV
import Derived.Laws.StructEq
namespace Go.Proofs.Ytflgmcmecnlgiaa
open Go.RowKit Cu Vl
attribute [local go_sem] run_store_float

theorem run_equalIn_float {P : Program} (w : World) (d : Nat) (t : TypeId) (k : FloatKind) (a b : Nat) (h : P.underlying t = some (.float k)) : (Op.equalIn (d + 1) t (.float k a) (.float k b)).run P w = .ok (k.format.order a b == some .eq) w := by
  simp [Op.equalIn, run_underlying h]
  rfl
attribute [local go_sem] run_equalIn_float
set_option maxHeartbeats 400000 in
theorem nan_int (x : Int) (w : World) : Calls Try.prog 96 #[.int .i64 x] w fun e w' => e = .returned (.bool false) ∧ w' = w := by
  go_enter Try.func96, Try.ntmps96
  go_wp2_with fail
  go_ret
  exact ⟨rfl, rfl⟩
set_option maxHeartbeats 1000000 in
theorem cmp_int (x y : Int) (w : World) : Calls Try.prog 87 #[.int .i64 x, .int .i64 y] w fun e w' => e = .returned (.int .i64 (cmpZ x y)) ∧ w' = w := by
  have HN := fun x w => nan_int x w
  unfold cmpZ
  by_cases h1 : x < y
  · rw [if_pos h1]
    go_enter Try.func87, Try.ntmps87
    go_wp2_with (go_at_call 96; refine (HN _ _).mono ?_; rintro e w' ⟨rfl, rfl⟩)
    go_ret
    exact ⟨rfl, rfl⟩
  · rw [if_neg h1]
    by_cases h2 : y < x
    · rw [if_pos h2]
      go_enter Try.func87, Try.ntmps87
      go_wp2_with (go_at_call 96; refine (HN _ _).mono ?_; rintro e w' ⟨rfl, rfl⟩)
      go_ret
      exact ⟨rfl, rfl⟩
    · rw [if_neg h2]
      go_enter Try.func87, Try.ntmps87
      go_wp2_with (go_at_call 96; refine (HN _ _).mono ?_; rintro e w' ⟨rfl, rfl⟩)
      go_ret
      exact ⟨rfl, rfl⟩
set_option maxHeartbeats 400000 in
theorem nan_int64 (x : Int) (w : World) : Calls Try.prog 103 #[.int .i64 x] w fun e w' => e = .returned (.bool false) ∧ w' = w := by
  go_enter Try.func103, Try.ntmps103
  go_wp2_with fail
  go_ret
  exact ⟨rfl, rfl⟩
set_option maxHeartbeats 1000000 in
theorem cmp_int64 (x y : Int) (w : World) : Calls Try.prog 99 #[.int .i64 x, .int .i64 y] w fun e w' => e = .returned (.int .i64 (cmpZ x y)) ∧ w' = w := by
  have HN := fun x w => nan_int64 x w
  unfold cmpZ
  by_cases h1 : x < y
  · rw [if_pos h1]
    go_enter Try.func99, Try.ntmps99
    go_wp2_with (go_at_call 103; refine (HN _ _).mono ?_; rintro e w' ⟨rfl, rfl⟩)
    go_ret
    exact ⟨rfl, rfl⟩
  · rw [if_neg h1]
    by_cases h2 : y < x
    · rw [if_pos h2]
      go_enter Try.func99, Try.ntmps99
      go_wp2_with (go_at_call 103; refine (HN _ _).mono ?_; rintro e w' ⟨rfl, rfl⟩)
      go_ret
      exact ⟨rfl, rfl⟩
    · rw [if_neg h2]
      go_enter Try.func99, Try.ntmps99
      go_wp2_with (go_at_call 103; refine (HN _ _).mono ?_; rintro e w' ⟨rfl, rfl⟩)
      go_ret
      exact ⟨rfl, rfl⟩
set_option maxHeartbeats 400000 in
theorem nan_string (x : ByteArray) (w : World) : Calls Try.prog 97 #[.string x] w fun e w' => e = .returned (.bool false) ∧ w' = w := by
  go_enter Try.func97, Try.ntmps97
  go_wp2_with fail
  go_ret
  exact ⟨rfl, rfl⟩
set_option maxHeartbeats 1000000 in
theorem cmp_string (x y : ByteArray) (w : World) : Calls Try.prog 90 #[.string x, .string y] w fun e w' => e = .returned (.int .i64 (cmpL x.toList y.toList)) ∧ w' = w := by
  have HN := fun x w => nan_string x w
  have hb := bytesLess_eq x.toList y.toList
  unfold cmpL
  by_cases h1 : x.toList < y.toList
  · rw [if_pos h1]
    rw [decide_eq_true h1] at hb
    clear h1
    go_enter Try.func90, Try.ntmps90
    go_wp2_with (go_at_call 97; refine (HN _ _).mono ?_; rintro e w' ⟨rfl, rfl⟩)
    go_ret
    exact ⟨rfl, rfl⟩
  · rw [if_neg h1]
    rw [decide_eq_false h1] at hb
    clear h1
    by_cases h2 : x.toList = y.toList
    · rw [if_pos h2]
      have hd : (x.toList == y.toList) = true := by simpa using h2
      clear h2
      go_enter Try.func90, Try.ntmps90
      go_wp2_with (go_at_call 97; refine (HN _ _).mono ?_; rintro e w' ⟨rfl, rfl⟩)
      go_ret
      exact ⟨rfl, rfl⟩
    · rw [if_neg h2]
      have hd : (x.toList == y.toList) = false := by simpa using h2
      go_enter Try.func90, Try.ntmps90
      go_wp2_with (go_at_call 97; refine (HN _ _).mono ?_; rintro e w' ⟨rfl, rfl⟩)
      go_ret
      exact ⟨rfl, rfl⟩
set_option maxHeartbeats 1000000 in
theorem place_any (k : Int) (w : World) (hk : k = 0 ∨ k = 1 ∨ k = 2) : Calls Try.prog 89 #[.int .i64 k] w fun e w' => e = .returned (.int .i64 k) ∧ w' = w := by
  rcases hk with rfl | rfl | rfl
  all_goals
    go_enter Try.func89, Try.ntmps89
    go_wp2_with fail
    go_ret
    exact ⟨rfl, rfl⟩
end Go.Proofs.Ytflgmcmecnlgiaa
