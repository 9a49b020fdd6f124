/-
  Bounds. (Written by mkbnd.py.)
-/
import Derived.Test.YthgnibphhiaecaaAFlt
import Derived.Test.YthgnibphhiaecaaAFind
namespace Go.Proofs.Ythgnibphhiaecaa
open Go.ChangeShapes Go.WideShapes Go.ChangeAt Go.RowKit Cu Vl
attribute [local go_sem] run_store_float

theorem nan_cut (x y t : Nat) : 9218868437227405312 < (Question.cut (.nanBits .f64 x y) t) % 9223372036854775808 := by
  have h1 : (t / 2) % 4503599627370495 < 4503599627370495 := Nat.mod_lt _ (by decide)
  show 9218868437227405312 < ((t % 2) * 9223372036854775808 + 9218868437227405312 + 1 + (t / 2) % 4503599627370495) % 9223372036854775808
  generalize (t / 2) % 4503599627370495 = y at *
  have h2 : t % 2 = 0 ∨ t % 2 = 1 := by omega
  rcases h2 with h2 | h2 <;> rw [h2] <;> omega
theorem eq_zero' (x : Nat) (h : ¬ x % 9223372036854775808 = 0) : ¬ FloatKind.f64.format.order x 0 = some .eq := by
  have := eq_zero x
  rw [decide_eq_false h] at this
  have h2 : ¬ Ieee.double.order x 0 = some .eq := by simpa using this
  exact h2
theorem run_sub_nan (x : Nat) (h : ¬ x % 9223372036854775808 < 9218868437227405312) (w : World) : ∃ r, (binOp BinOp.sub 24 (.float .f64 x) (.float .f64 x)).run Try.prog w = .ok (.float .f64 r) w.drew ∧ ¬ FloatKind.f64.format.order r 0 = some .eq := by
  refine ⟨Question.cut (.nanBits .f64 x x) (w.tape w.drawn (.nanBits .f64 x x)), ?_, eq_zero' _ (by have := nan_cut x x (w.tape w.drawn (.nanBits .f64 x x)); omega)⟩
  have h2 : FloatKind.f64.format.sub x x = none := sub_none h
  simp [binOp, Op.floatArith, h2, Question.forced]
set_option maxRecDepth 20000 in
set_option maxHeartbeats 8000000 in
theorem rm_zero (K I : Int) (b : Nat) (s : ByteArray) (w : World) (_hb : b < 18446744073709551616) (h0 : b = 0) : Calls Try.prog 122 #[valV K I b s] w fun e w' => e = .returned (.bool (mayB K I b s)) ∧ Below w.heap.size w w' := by
  subst h0
  have hrb : realB 0 = true := by decide
  have hz : FloatKind.f64.format.order 0 0 = some .eq := by decide
  have ho : FloatKind.f64.format.order 9218868437227405312 0 = some .gt := ord_inf
  have hdv : ∀ w, (binOp BinOp.quo 24 (.float .f64 4607182418800017408) (.float .f64 0)).run Try.prog w = .ok (.float .f64 9218868437227405312) w := fun w => run_float_arith w .quo 24 .f64 _ _ _ div_zero
  have hsb : ∀ w, (binOp BinOp.sub 24 (.float .f64 0) (.float .f64 0)).run Try.prog w = .ok (.float .f64 0) w := fun w => run_float_arith w .sub 24 .f64 _ _ _ (sub_self (by decide))
  have B := hid (below_new w (.cells #[.int .i64 K, .int .i64 I, .float .f64 0, .string s] 26))
  have HM : Hid (mayB K I 0 s = if K = 0 then decide (I = 0) && decide (0 = 0) && s.toList.isEmpty
    else if K = 1 then decide (0 = 0) && s.toList.isEmpty
    else if K = 2 then decide (I = 0) && decide (0 = 0) && decide ((s.size : Int) ≤ 65535)
    else if K = 3 then decide (I = 0) && realB 0 && s.toList.isEmpty else false) := rfl
  generalize mayB K I 0 s = R at *
  unfold valV
  have hI : I = 0 ∨ (I == 0) = false := by by_cases h : I = 0; exact .inl h; exact .inr (by simpa using h)
  have hs : s.toList = [] ∨ (s.toList == []) = false := by by_cases h : s.toList = []; exact .inl h; exact .inr (by simpa using h)
  by_cases h0 : K = 0
  · subst h0
    rw [if_pos rfl] at HM
    rcases hI with rfl | hI <;> rcases hs with hs | hs
    all_goals go_enter Try.func122, Try.ntmps122
    all_goals go_wp2_with fail
    all_goals go_ret
    all_goals exact ⟨ret_bool (by rw [HM.out]; simp_all), B.out⟩
  · rw [if_neg h0] at HM
    have e0 : (K == 0) = false := by simpa using h0
    clear h0
    by_cases h1 : K = 1
    · subst h1
      rw [if_pos rfl] at HM
      rcases hs with hs | hs
      all_goals go_enter Try.func122, Try.ntmps122
      all_goals go_wp2_with fail
      all_goals go_ret
      all_goals exact ⟨ret_bool (by rw [HM.out]; simp_all), B.out⟩
    · rw [if_neg h1] at HM
      have e1 : (K == 1) = false := by simpa using h1
      clear h1
      by_cases h2 : K = 2
      · subst h2
        rw [if_pos rfl] at HM
        rcases hI with rfl | hI
        all_goals go_enter Try.func122, Try.ntmps122
        all_goals go_wp2_with fail
        all_goals go_ret
        all_goals exact ⟨ret_bool (by rw [HM.out]; simp_all), B.out⟩
      · rw [if_neg h2] at HM
        have e2 : (K == 2) = false := by simpa using h2
        clear h2
        by_cases h3 : K = 3
        · subst h3
          rw [if_pos rfl] at HM
          rcases hI with rfl | hI <;> rcases hs with hs | hs
          all_goals go_enter Try.func122, Try.ntmps122
          all_goals go_wp2_with fail
          all_goals go_ret
          all_goals exact ⟨ret_bool (by rw [HM.out]; simp_all), B.out⟩
        · rw [if_neg h3] at HM
          have e3 : (K == 3) = false := by simpa using h3
          go_enter Try.func122, Try.ntmps122
          go_wp2_with fail
          go_ret
          exact ⟨ret_bool HM.out.symm, B.out⟩
set_option maxRecDepth 20000 in
set_option maxHeartbeats 8000000 in
theorem rm_mzero (K I : Int) (b : Nat) (s : ByteArray) (w : World) (_hb : b < 18446744073709551616) (h0 : b = 9223372036854775808) : Calls Try.prog 122 #[valV K I b s] w fun e w' => e = .returned (.bool (mayB K I b s)) ∧ Below w.heap.size w w' := by
  subst h0
  have hrb : realB 9223372036854775808 = false := by decide
  have hz : FloatKind.f64.format.order 9223372036854775808 0 = some .eq := by decide
  have hzz : FloatKind.f64.format.order 0 0 = some .eq := by decide
  have ho : FloatKind.f64.format.order 18442240474082181120 0 = some .lt := ord_minf
  have hdv : ∀ w, (binOp BinOp.quo 24 (.float .f64 4607182418800017408) (.float .f64 9223372036854775808)).run Try.prog w = .ok (.float .f64 18442240474082181120) w := fun w => run_float_arith w .quo 24 .f64 _ _ _ div_mzero
  have hsb : ∀ w, (binOp BinOp.sub 24 (.float .f64 9223372036854775808) (.float .f64 9223372036854775808)).run Try.prog w = .ok (.float .f64 0) w := fun w => run_float_arith w .sub 24 .f64 _ _ _ (sub_self (by decide))
  have B := hid (below_new w (.cells #[.int .i64 K, .int .i64 I, .float .f64 9223372036854775808, .string s] 26))
  have HM : Hid (mayB K I 9223372036854775808 s = if K = 0 then decide (I = 0) && decide (9223372036854775808 = 0) && s.toList.isEmpty
    else if K = 1 then decide (9223372036854775808 = 0) && s.toList.isEmpty
    else if K = 2 then decide (I = 0) && decide (9223372036854775808 = 0) && decide ((s.size : Int) ≤ 65535)
    else if K = 3 then decide (I = 0) && realB 9223372036854775808 && s.toList.isEmpty else false) := rfl
  generalize mayB K I 9223372036854775808 s = R at *
  unfold valV
  have hI : I = 0 ∨ (I == 0) = false := by by_cases h : I = 0; exact .inl h; exact .inr (by simpa using h)
  have hs : s.toList = [] ∨ (s.toList == []) = false := by by_cases h : s.toList = []; exact .inl h; exact .inr (by simpa using h)
  by_cases h0 : K = 0
  · subst h0
    rw [if_pos rfl] at HM
    rcases hI with rfl | hI <;> rcases hs with hs | hs
    all_goals go_enter Try.func122, Try.ntmps122
    all_goals go_wp2_with fail
    all_goals go_ret
    all_goals exact ⟨ret_bool (by rw [HM.out]; simp_all), B.out⟩
  · rw [if_neg h0] at HM
    have e0 : (K == 0) = false := by simpa using h0
    clear h0
    by_cases h1 : K = 1
    · subst h1
      rw [if_pos rfl] at HM
      rcases hs with hs | hs
      all_goals go_enter Try.func122, Try.ntmps122
      all_goals go_wp2_with fail
      all_goals go_ret
      all_goals exact ⟨ret_bool (by rw [HM.out]; simp_all), B.out⟩
    · rw [if_neg h1] at HM
      have e1 : (K == 1) = false := by simpa using h1
      clear h1
      by_cases h2 : K = 2
      · subst h2
        rw [if_pos rfl] at HM
        rcases hI with rfl | hI
        all_goals go_enter Try.func122, Try.ntmps122
        all_goals go_wp2_with fail
        all_goals go_ret
        all_goals exact ⟨ret_bool (by rw [HM.out]; simp_all), B.out⟩
      · rw [if_neg h2] at HM
        have e2 : (K == 2) = false := by simpa using h2
        clear h2
        by_cases h3 : K = 3
        · subst h3
          rw [if_pos rfl] at HM
          rcases hI with rfl | hI <;> rcases hs with hs | hs
          all_goals go_enter Try.func122, Try.ntmps122
          all_goals go_wp2_with fail
          all_goals go_ret
          all_goals exact ⟨ret_bool (by rw [HM.out]; simp_all), B.out⟩
        · rw [if_neg h3] at HM
          have e3 : (K == 3) = false := by simpa using h3
          go_enter Try.func122, Try.ntmps122
          go_wp2_with fail
          go_ret
          exact ⟨ret_bool HM.out.symm, B.out⟩
set_option maxRecDepth 20000 in
set_option maxHeartbeats 8000000 in
theorem rm_num (K I : Int) (b : Nat) (s : ByteArray) (w : World) (_hb : b < 18446744073709551616) (hn : ¬ b % 9223372036854775808 = 0) (hf : b % 9223372036854775808 < 9218868437227405312) : Calls Try.prog 122 #[valV K I b s] w fun e w' => e = .returned (.bool (mayB K I b s)) ∧ Below w.heap.size w w' := by
  have hrb : realB b = true := decide_eq_true ⟨hf, .inl hn⟩
  have hz := eq_zero' b hn
  have hzz : FloatKind.f64.format.order 0 0 = some .eq := by decide
  have hb0 : ¬ b = 0 := by omega
  have hsb : ∀ w, (binOp BinOp.sub 24 (.float .f64 b) (.float .f64 b)).run Try.prog w = .ok (.float .f64 0) w := fun w => run_float_arith w .sub 24 .f64 _ _ _ (sub_self (by exact hf))
  have B := hid (below_new w (.cells #[.int .i64 K, .int .i64 I, .float .f64 b, .string s] 26))
  have HM : Hid (mayB K I b s = if K = 0 then decide (I = 0) && decide (b = 0) && s.toList.isEmpty
    else if K = 1 then decide (b = 0) && s.toList.isEmpty
    else if K = 2 then decide (I = 0) && decide (b = 0) && decide ((s.size : Int) ≤ 65535)
    else if K = 3 then decide (I = 0) && realB b && s.toList.isEmpty else false) := rfl
  generalize mayB K I b s = R at *
  unfold valV
  have hI : I = 0 ∨ (I == 0) = false := by by_cases h : I = 0; exact .inl h; exact .inr (by simpa using h)
  have hs : s.toList = [] ∨ (s.toList == []) = false := by by_cases h : s.toList = []; exact .inl h; exact .inr (by simpa using h)
  by_cases h0 : K = 0
  · subst h0
    rw [if_pos rfl] at HM
    rcases hI with rfl | hI <;> rcases hs with hs | hs
    all_goals go_enter Try.func122, Try.ntmps122
    all_goals go_wp2_with fail
    all_goals go_ret
    all_goals exact ⟨ret_bool (by rw [HM.out]; simp_all), B.out⟩
  · rw [if_neg h0] at HM
    have e0 : (K == 0) = false := by simpa using h0
    clear h0
    by_cases h1 : K = 1
    · subst h1
      rw [if_pos rfl] at HM
      rcases hs with hs | hs
      all_goals go_enter Try.func122, Try.ntmps122
      all_goals go_wp2_with fail
      all_goals go_ret
      all_goals exact ⟨ret_bool (by rw [HM.out]; simp_all), B.out⟩
    · rw [if_neg h1] at HM
      have e1 : (K == 1) = false := by simpa using h1
      clear h1
      by_cases h2 : K = 2
      · subst h2
        rw [if_pos rfl] at HM
        rcases hI with rfl | hI
        all_goals go_enter Try.func122, Try.ntmps122
        all_goals go_wp2_with fail
        all_goals go_ret
        all_goals exact ⟨ret_bool (by rw [HM.out]; simp_all), B.out⟩
      · rw [if_neg h2] at HM
        have e2 : (K == 2) = false := by simpa using h2
        clear h2
        by_cases h3 : K = 3
        · subst h3
          rw [if_pos rfl] at HM
          rcases hI with rfl | hI <;> rcases hs with hs | hs
          all_goals go_enter Try.func122, Try.ntmps122
          all_goals go_wp2_with fail
          all_goals go_ret
          all_goals exact ⟨ret_bool (by rw [HM.out]; simp_all), B.out⟩
        · rw [if_neg h3] at HM
          have e3 : (K == 3) = false := by simpa using h3
          go_enter Try.func122, Try.ntmps122
          go_wp2_with fail
          go_ret
          exact ⟨ret_bool HM.out.symm, B.out⟩
set_option maxRecDepth 20000 in
set_option maxHeartbeats 8000000 in
theorem rm_inf (K I : Int) (b : Nat) (s : ByteArray) (w : World) (_hb : b < 18446744073709551616) (hinf : ¬ b % 9223372036854775808 < 9218868437227405312) : Calls Try.prog 122 #[valV K I b s] w fun e w' => e = .returned (.bool (mayB K I b s)) ∧ Below w.heap.size w w' := by
  have hrb : realB b = false := decide_eq_false (fun h => hinf h.1)
  have hz := eq_zero' b (by omega)
  have hb0 : ¬ b = 0 := by omega
  have B := hid (below_new w (.cells #[.int .i64 K, .int .i64 I, .float .f64 b, .string s] 26))
  have HM : Hid (mayB K I b s = if K = 0 then decide (I = 0) && decide (b = 0) && s.toList.isEmpty
    else if K = 1 then decide (b = 0) && s.toList.isEmpty
    else if K = 2 then decide (I = 0) && decide (b = 0) && decide ((s.size : Int) ≤ 65535)
    else if K = 3 then decide (I = 0) && realB b && s.toList.isEmpty else false) := rfl
  generalize mayB K I b s = R at *
  unfold valV
  have hI : I = 0 ∨ (I == 0) = false := by by_cases h : I = 0; exact .inl h; exact .inr (by simpa using h)
  have hs : s.toList = [] ∨ (s.toList == []) = false := by by_cases h : s.toList = []; exact .inl h; exact .inr (by simpa using h)
  by_cases h0 : K = 0
  · subst h0
    rw [if_pos rfl] at HM
    rcases hI with rfl | hI <;> rcases hs with hs | hs
    all_goals go_enter Try.func122, Try.ntmps122
    all_goals go_wp2_with fail
    all_goals go_ret
    all_goals exact ⟨ret_bool (by rw [HM.out]; simp_all), B.out⟩
  · rw [if_neg h0] at HM
    have e0 : (K == 0) = false := by simpa using h0
    clear h0
    by_cases h1 : K = 1
    · subst h1
      rw [if_pos rfl] at HM
      rcases hs with hs | hs
      all_goals go_enter Try.func122, Try.ntmps122
      all_goals go_wp2_with fail
      all_goals go_ret
      all_goals exact ⟨ret_bool (by rw [HM.out]; simp_all), B.out⟩
    · rw [if_neg h1] at HM
      have e1 : (K == 1) = false := by simpa using h1
      clear h1
      by_cases h2 : K = 2
      · subst h2
        rw [if_pos rfl] at HM
        rcases hI with rfl | hI
        all_goals go_enter Try.func122, Try.ntmps122
        all_goals go_wp2_with fail
        all_goals go_ret
        all_goals exact ⟨ret_bool (by rw [HM.out]; simp_all), B.out⟩
      · rw [if_neg h2] at HM
        have e2 : (K == 2) = false := by simpa using h2
        clear h2
        by_cases h3 : K = 3
        · subst h3
          rw [if_pos rfl] at HM
          obtain ⟨r, hr, hrz⟩ := run_sub_nan b hinf (w.alloc (.cells #[.int .i64 3, .int .i64 I, .float .f64 b, .string s] 26))
          have BD := hid (below_drewN B.out 1)
          rcases hI with rfl | hI <;> rcases hs with hs | hs
          all_goals go_enter Try.func122, Try.ntmps122
          all_goals go_wp2_with fail
          all_goals go_ret
          all_goals exact ⟨ret_bool (by rw [HM.out]; simp_all), by first | exact B.out | exact BD.out⟩
        · rw [if_neg h3] at HM
          have e3 : (K == 3) = false := by simpa using h3
          go_enter Try.func122, Try.ntmps122
          go_wp2_with fail
          go_ret
          exact ⟨ret_bool HM.out.symm, B.out⟩
theorem refMay18 (v : V) (w : World) (hv : VOk v) : Calls Try.prog 122 #[vv v] w fun e w' => e = .returned (.bool (mayV v)) ∧ Below w.heap.size w w' := by
  have hb := hv.b
  show Calls Try.prog 122 #[valV v.K v.I v.b v.s] w fun e w' => e = .returned (.bool (mayB v.K v.I v.b v.s)) ∧ Below w.heap.size w w'
  by_cases h : v.b % 9223372036854775808 = 0
  · by_cases h0 : v.b = 0
    · exact rm_zero _ _ _ _ w hb h0
    · exact rm_mzero _ _ _ _ w hb (by omega)
  · by_cases hf : v.b % 9223372036854775808 < 9218868437227405312
    · exact rm_num _ _ _ _ w hb h hf
    · exact rm_inf _ _ _ _ w hb hf
end Go.Proofs.Ythgnibphhiaecaa
