/-
  The leaves: isGood, isNull, nullsMayBe, cmp.Compare, place, Compare.
-/
import Derived.Test.YtobmehajknmniaaGreatZMath
import Derived.Laws.StructEq
namespace Go.Proofs.YtobmehajknmniaaGreat
open Go.RowKit Crc Cu Vl
attribute [local go_sem] run_store_float

theorem run_equalIn_float {P : Program} (w : World) (d : Nat) (t : TypeId) (k : FloatKind) (a b : Nat) (h : P.underlying t = some (.float k)) : (Op.equalIn (d + 1) t (.float k a) (.float k b)).run P w = .ok (k.format.order a b == some .eq) w := by
  simp [Op.equalIn, run_underlying h]
  rfl
attribute [local go_sem] run_equalIn_float
def cv (c : Col) : Value := .agg #[.string c.nm, .int .i64 c.T, .bool c.nb]
def zv (z : Zn) (a : Option Addr) (c : Nat) : Value := .agg #[.int .i64 z.n, .int .i64 z.mn.K, .int .i64 z.mn.I, .float .f64 z.mn.b, .string z.mn.s, .int .i64 z.mx.K, .int .i64 z.mx.I, .float .f64 z.mx.b, .string z.mx.s, .slice a z.bl.length c]
set_option maxHeartbeats 1000000 in
theorem good_any (c : Col) (w : World) : Calls Tryz.prog 21 #[cv c] w fun e w' => e = .returned (.bool (goodB c)) ∧ Below w.heap.size w w' := by
  obtain ⟨nm, T, nb⟩ := c
  unfold cv goodB
  dsimp only
  by_cases h1 : T = 1
  · subst h1
    go_enter Tryz.func21, Tryz.ntmps21
    go_wp2_with fail
    go_ret
    exact ⟨ret_bool (by simp), below_new w _⟩
  · have hd : (T == 1) = false := by simpa using h1
    go_enter Tryz.func21, Tryz.ntmps21
    go_wp2_with fail
    go_ret
    exact ⟨ret_bool (by simp [h1]; rfl), below_new w _⟩
set_option maxHeartbeats 1000000 in
theorem nlB_any (c : Col) (n : Int) (w : World) : Calls Tryz.prog 57 #[cv c, .int .i64 n] w fun e w' => e = .returned (.bool (nlB c n)) ∧ Below w.heap.size w w' := by
  obtain ⟨nm, T, nb⟩ := c
  unfold cv nlB
  dsimp only
  by_cases h1 : n = 0
  · subst h1
    go_enter Tryz.func57, Tryz.ntmps57
    go_wp2_with fail
    go_ret
    exact ⟨ret_bool (by simp), below_new w _⟩
  · have hd : (n == 0) = false := by simpa using h1
    cases nb
    · go_enter Tryz.func57, Tryz.ntmps57
      go_wp2_with fail
      go_ret
      exact ⟨ret_bool (by simp [h1]), below_new w _⟩
    · by_cases h2 : 0 < n
      · go_enter Tryz.func57, Tryz.ntmps57
        go_wp2_with fail
        go_ret
        exact ⟨ret_bool (by simp [h1, h2]), below_new w _⟩
      · have hd2 : decide (0 < n) = false := by simpa using h2
        go_enter Tryz.func57, Tryz.ntmps57
        go_wp2_with fail
        go_ret
        exact ⟨ret_bool (by simp), below_new w _⟩
set_option maxHeartbeats 1000000 in
theorem nul_any (v : V) (w : World) (hv : VOk v) : Calls Tryz.prog 24 #[vv v] w fun e w' => e = .returned (.bool (nulB v)) ∧ Below w.heap.size w w' := by
  have HS := fun w => sign_any v.b w hv.b
  have hz := eq_zero v.b
  rw [← fmt64] at hz
  have hb := hv.b
  clear hv
  obtain ⟨K, I, b, s⟩ := v
  unfold vv nulB mayV mayB
  dsimp only at *
  by_cases hK : K = 0
  · subst hK
    by_cases hI : I = 0
    · subst hI
      by_cases hs : s.toList.isEmpty = true
      · obtain rfl := ba_nil hs
        by_cases hb0 : b % 9223372036854775808 = 0
        · rw [decide_eq_true hb0] at hz
          have hz2 : FloatKind.f64.format.order b 0 = some .eq := by simpa using hz
          go_enter Tryz.func24, Tryz.ntmps24
          go_wp2_with (go_at_call 48; refine (HS _).mono ?_; rintro e w' ⟨rfl, rfl⟩)
          go_ret
          refine ⟨ret_bool ?_, below_new w _⟩
          by_cases h0 : b = 0
          · subst h0; rfl
          · simp [h0]; omega
        · rw [decide_eq_false hb0] at hz
          have hz2 : ¬ FloatKind.f64.format.order b 0 = some .eq := by simpa using hz
          have hb1 : ¬ b = 0 := by intro e; subst e; exact hb0 rfl
          rw [show (decide (b = 0)) = false by simpa using hb1]
          go_enter Tryz.func24, Tryz.ntmps24
          go_wp2_with (go_at_call 48; refine (HS _).mono ?_; rintro e w' ⟨rfl, rfl⟩)
          go_ret
          exact ⟨ret_bool (by simp), below_new w _⟩
      · have hs2 : ¬ s.toList = [] := by simpa using hs
        go_enter Tryz.func24, Tryz.ntmps24
        go_wp2_with (go_at_call 48; refine (HS _).mono ?_; rintro e w' ⟨rfl, rfl⟩)
        all_goals go_ret
        all_goals exact ⟨ret_bool (by simp), below_new w _⟩
    · have hd : (I == 0) = false := by simpa using hI
      go_enter Tryz.func24, Tryz.ntmps24
      go_wp2_with (go_at_call 48; refine (HS _).mono ?_; rintro e w' ⟨rfl, rfl⟩)
      all_goals go_ret
      all_goals exact ⟨ret_bool (by simp), below_new w _⟩
  · have hd : (K == 0) = false := by simpa using hK
    go_enter Tryz.func24, Tryz.ntmps24
    go_wp2_with (go_at_call 48; refine (HS _).mono ?_; rintro e w' ⟨rfl, rfl⟩)
    all_goals go_ret
    all_goals exact ⟨ret_bool (by simp), below_new w _⟩
set_option maxHeartbeats 400000 in
theorem nan_int (x : Int) (w : World) : Calls Tryz.prog 83 #[.int .i64 x] w fun e w' => e = .returned (.bool false) ∧ w' = w := by
  go_enter Tryz.func83, Tryz.ntmps83
  go_wp2_with fail
  go_ret
  exact ⟨rfl, rfl⟩
set_option maxHeartbeats 1000000 in
theorem cmp_int (x y : Int) (w : World) : Calls Tryz.prog 50 #[.int .i64 x, .int .i64 y] w fun e w' => e = .returned (.int .i64 (cmpZ x y)) ∧ w' = w := by
  have HN := fun x w => nan_int x w
  unfold cmpZ
  by_cases h1 : x < y
  · rw [if_pos h1]
    go_enter Tryz.func50, Tryz.ntmps50
    go_wp2_with (go_at_call 83; refine (HN _ _).mono ?_; rintro e w' ⟨rfl, rfl⟩)
    go_ret
    exact ⟨rfl, rfl⟩
  · rw [if_neg h1]
    by_cases h2 : y < x
    · rw [if_pos h2]
      go_enter Tryz.func50, Tryz.ntmps50
      go_wp2_with (go_at_call 83; refine (HN _ _).mono ?_; rintro e w' ⟨rfl, rfl⟩)
      go_ret
      exact ⟨rfl, rfl⟩
    · rw [if_neg h2]
      go_enter Tryz.func50, Tryz.ntmps50
      go_wp2_with (go_at_call 83; refine (HN _ _).mono ?_; rintro e w' ⟨rfl, rfl⟩)
      go_ret
      exact ⟨rfl, rfl⟩
set_option maxHeartbeats 400000 in
theorem nan_int64 (x : Int) (w : World) : Calls Tryz.prog 105 #[.int .i64 x] w fun e w' => e = .returned (.bool false) ∧ w' = w := by
  go_enter Tryz.func105, Tryz.ntmps105
  go_wp2_with fail
  go_ret
  exact ⟨rfl, rfl⟩
set_option maxHeartbeats 1000000 in
theorem cmp_int64 (x y : Int) (w : World) : Calls Tryz.prog 86 #[.int .i64 x, .int .i64 y] w fun e w' => e = .returned (.int .i64 (cmpZ x y)) ∧ w' = w := by
  have HN := fun x w => nan_int64 x w
  unfold cmpZ
  by_cases h1 : x < y
  · rw [if_pos h1]
    go_enter Tryz.func86, Tryz.ntmps86
    go_wp2_with (go_at_call 105; refine (HN _ _).mono ?_; rintro e w' ⟨rfl, rfl⟩)
    go_ret
    exact ⟨rfl, rfl⟩
  · rw [if_neg h1]
    by_cases h2 : y < x
    · rw [if_pos h2]
      go_enter Tryz.func86, Tryz.ntmps86
      go_wp2_with (go_at_call 105; refine (HN _ _).mono ?_; rintro e w' ⟨rfl, rfl⟩)
      go_ret
      exact ⟨rfl, rfl⟩
    · rw [if_neg h2]
      go_enter Tryz.func86, Tryz.ntmps86
      go_wp2_with (go_at_call 105; refine (HN _ _).mono ?_; rintro e w' ⟨rfl, rfl⟩)
      go_ret
      exact ⟨rfl, rfl⟩
set_option maxHeartbeats 400000 in
theorem nan_string (x : ByteArray) (w : World) : Calls Tryz.prog 84 #[.string x] w fun e w' => e = .returned (.bool false) ∧ w' = w := by
  go_enter Tryz.func84, Tryz.ntmps84
  go_wp2_with fail
  go_ret
  exact ⟨rfl, rfl⟩
set_option maxHeartbeats 1000000 in
theorem cmp_string (x y : ByteArray) (w : World) : Calls Tryz.prog 53 #[.string x, .string y] w fun e w' => e = .returned (.int .i64 (cmpL x.toList y.toList)) ∧ w' = w := by
  have HN := fun x w => nan_string x w
  have hb := bytesLess_eq x.toList y.toList
  unfold cmpL
  by_cases h1 : x.toList < y.toList
  · rw [if_pos h1]
    rw [decide_eq_true h1] at hb
    clear h1
    go_enter Tryz.func53, Tryz.ntmps53
    go_wp2_with (go_at_call 84; refine (HN _ _).mono ?_; rintro e w' ⟨rfl, rfl⟩)
    go_ret
    exact ⟨rfl, rfl⟩
  · rw [if_neg h1]
    rw [decide_eq_false h1] at hb
    clear h1
    by_cases h2 : x.toList = y.toList
    · rw [if_pos h2]
      have hd : (x.toList == y.toList) = true := by simpa using h2
      clear h2
      go_enter Tryz.func53, Tryz.ntmps53
      go_wp2_with (go_at_call 84; refine (HN _ _).mono ?_; rintro e w' ⟨rfl, rfl⟩)
      go_ret
      exact ⟨rfl, rfl⟩
    · rw [if_neg h2]
      have hd : (x.toList == y.toList) = false := by simpa using h2
      go_enter Tryz.func53, Tryz.ntmps53
      go_wp2_with (go_at_call 84; refine (HN _ _).mono ?_; rintro e w' ⟨rfl, rfl⟩)
      go_ret
      exact ⟨rfl, rfl⟩
set_option maxHeartbeats 1000000 in
theorem place_any (k : Int) (w : World) (hk : k = 0 ∨ k = 1 ∨ k = 2) : Calls Tryz.prog 52 #[.int .i64 k] w fun e w' => e = .returned (.int .i64 k) ∧ w' = w := by
  rcases hk with rfl | rfl | rfl
  all_goals
    go_enter Tryz.func52, Tryz.ntmps52
    go_wp2_with fail
    go_ret
    exact ⟨rfl, rfl⟩
end Go.Proofs.YtobmehajknmniaaGreat
