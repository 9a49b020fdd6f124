/-
  Values that are made; two that are the same.
-/
import Derived.Test.YthkgoociknmkjaaVMay
namespace Go.Proofs.Ythkgoociknmkjaa
open Go.RowKit

theorem run_store_float (P : Program) (w : World) (a : Addr) (m : Mode) (k : FloatKind) (b : Nat) : (store a (.float k b) m).run P w = stored P w a (.float k b) m := run_store P w a _ m rfl
attribute [local go_sem] run_store_float
theorem cell_new (w : World) (cs : Array Value) (t : TypeId) (j : Nat) (v : Value) (h : cs[j]? = some v) : (w.alloc (.cells cs t)).cell? ⟨w.heap.size, j, none⟩ = some v := cell_of (World.alloc_heap_new w _) h
def noneV : Value := .agg #[.int .i64 0, .int .i64 0, .float .f64 0, .string ⟨#[]⟩]

set_option maxHeartbeats 400000 in
theorem int_any (i : Int) (w : World) : Calls Try.prog 10 #[.int .i64 i] w fun e w' => e = .returned (.agg #[.int .i64 1, .int .i64 i, .float .f64 0, .string ⟨#[]⟩]) ∧ Below w.heap.size w w' := by
  go_enter Try.func10, Try.ntmps10
  go_wp2_with fail
  refine bodyPost_ret (v := .agg #[.int .i64 1, .int .i64 i, .float .f64 0, .string ⟨#[]⟩]) ?_ rfl ⟨rfl, (Below.refl _ w).alloc (Nat.le_refl _) _⟩
  have hres : Try.f10.results = #[.cell 2 26] := by kernel_rfl
  simp only [results, hres]
  go_simp

set_option maxHeartbeats 400000 in
theorem text_any (s : ByteArray) (w : World) : Calls Try.prog 11 #[.string s] w fun e w' => e = .returned (.agg #[.int .i64 2, .int .i64 0, .float .f64 0, .string s]) ∧ Below w.heap.size w w' := by
  go_enter Try.func11, Try.ntmps11
  go_wp2_with fail
  refine bodyPost_ret (v := .agg #[.int .i64 2, .int .i64 0, .float .f64 0, .string s]) ?_ rfl ⟨rfl, (Below.refl _ w).alloc (Nat.le_refl _) _⟩
  have hres : Try.f11.results = #[.cell 2 26] := by kernel_rfl
  simp only [results, hres]
  go_simp

set_option maxHeartbeats 400000 in
theorem none_any (w : World) : Calls Try.prog 15 #[] w fun e w' => e = .returned (.agg #[.int .i64 0, .int .i64 0, .float .f64 0, .string ⟨#[]⟩]) ∧ w' = w.alloc (.cells #[.int .i64 0, .int .i64 0, .float .f64 0, .string ⟨#[]⟩] 26) := by
  go_enter Try.func15, Try.ntmps15
  go_wp2_with fail
  refine bodyPost_ret (v := .agg #[.int .i64 0, .int .i64 0, .float .f64 0, .string ⟨#[]⟩]) ?_ rfl ⟨rfl, rfl⟩
  have hres : Try.f15.results = #[.cell 0 26] := by kernel_rfl
  simp only [results, hres]
  go_simp
/-- What is made of a float. -/
def realK (b : Nat) : Int := if b % 9223372036854775808 < 9218868437227405312 then 3 else 0
def realF (b : Nat) : Nat := if b % 9223372036854775808 < 9218868437227405312 then (if b % 9223372036854775808 = 0 then 0 else b) else 0
def realV (b : Nat) : Value := .agg #[.int .i64 (realK b), .int .i64 0, .float .f64 (realF b), .string ⟨#[]⟩]
set_option maxHeartbeats 4000000 in
theorem real_any (b : Nat) (w : World) (hb : b < 18446744073709551616) : Calls Try.prog 13 #[.float .f64 b] w fun e w' => e = .returned (realV b) ∧ Below w.heap.size w w' := by
  have hres : Try.f13.results = #[.cell 2 26] := by kernel_rfl
  have HE := fun w => ends_any b w hb
  have hz := eq_zero b
  rw [← fmt64] at hz
  by_cases h1 : b % 9223372036854775808 < 9218868437227405312
  · rw [decide_eq_true h1] at HE
    by_cases h2 : b % 9223372036854775808 = 0
    · rw [decide_eq_true h2] at hz
      have hv : realV b = .agg #[.int .i64 3, .int .i64 0, .float .f64 0, .string ⟨#[]⟩] := by unfold realV realK realF; rw [if_pos h1, if_pos h1, if_pos h2]
      rw [hv]
      go_enter Try.func13, Try.ntmps13
      go_wp2_with (go_at_call 29; refine (HE _).mono ?_; rintro e w' ⟨rfl, rfl⟩)
      refine bodyPost_ret (v := .agg #[.int .i64 3, .int .i64 0, .float .f64 0, .string ⟨#[]⟩]) ?_ rfl ⟨rfl, (Below.refl _ w).alloc (Nat.le_refl _) _⟩
      simp only [results, hres]
      go_simp
    · rw [decide_eq_false h2] at hz
      have hv : realV b = .agg #[.int .i64 3, .int .i64 0, .float .f64 b, .string ⟨#[]⟩] := by unfold realV realK realF; rw [if_pos h1, if_pos h1, if_neg h2]
      rw [hv]
      go_enter Try.func13, Try.ntmps13
      go_wp2_with (go_at_call 29; refine (HE _).mono ?_; rintro e w' ⟨rfl, rfl⟩)
      refine bodyPost_ret (v := .agg #[.int .i64 3, .int .i64 0, .float .f64 b, .string ⟨#[]⟩]) ?_ rfl ⟨rfl, (Below.refl _ w).alloc (Nat.le_refl _) _⟩
      simp only [results, hres]
      go_simp
  · rw [decide_eq_false h1] at HE
    have hv : realV b = .agg #[.int .i64 0, .int .i64 0, .float .f64 0, .string ⟨#[]⟩] := by unfold realV realK realF; rw [if_neg h1, if_neg h1]
    rw [hv]
    go_enter Try.func13, Try.ntmps13
    go_wp2_with (first | (go_at_call 29; refine (HE _).mono ?_; rintro e w' ⟨rfl, rfl⟩) | (go_at_call 15; refine (none_any _).mono ?_; rintro e w' ⟨rfl, rfl⟩))
    refine bodyPost_ret (v := .agg #[.int .i64 0, .int .i64 0, .float .f64 0, .string ⟨#[]⟩]) ?_ rfl ⟨rfl, ((Below.refl _ w).alloc (Nat.le_refl _) _).alloc (by simp) _⟩
    simp only [results, hres]
    go_simp
set_option maxHeartbeats 400000 in
theorem refSign (b : Nat) (w : World) : Calls Try.prog 31 #[.float .f64 b] w fun e w' => e = .returned (.float .f64 (if (Ieee.double.order b 0 == some .lt) = true then 13830554455654793216 else 4607182418800017408)) ∧ w' = w := by
  by_cases h : (Ieee.double.order b 0 == some .lt) = true
  · rw [if_pos h]
    rw [← fmt64] at h
    go_enter Try.func31, Try.ntmps31
    go_wp2_with fail
    go_ret
    exact ⟨rfl, rfl⟩
  · rw [if_neg h]
    have h' : (FloatKind.f64.format.order b 0 == some .lt) = false := by rw [fmt64]; simpa using h
    go_enter Try.func31, Try.ntmps31
    go_wp2_with fail
    go_ret
    exact ⟨rfl, rfl⟩
set_option maxHeartbeats 400000 in
theorem same_yes (K I : Int) (b : Nat) (s : ByteArray) (w : World) : Calls Try.prog 12 #[.agg #[.int .i64 K, .int .i64 I, .float .f64 b, .string s], .agg #[.int .i64 K, .int .i64 I, .float .f64 b, .string s]] w fun e w' => e = .returned (.bool true) ∧ Below w.heap.size w w' := by
  have hW := two_new w #[.int .i64 K, .int .i64 I, .float .f64 b, .string s] #[.int .i64 K, .int .i64 I, .float .f64 b, .string s] 26 26
  have h1 := run_bits b
  go_enter Try.func12, Try.ntmps12
  go_wp2_with fail
  obtain ⟨W0, hW0⟩ : ∃ W0, ((w.alloc (.cells #[.int .i64 K, .int .i64 I, .float .f64 b, .string s] 26)).alloc (.cells #[.int .i64 K, .int .i64 I, .float .f64 b, .string s] 26)) = W0 := ⟨_, rfl⟩
  rw [hW0] at hW
  rw [hW0]
  obtain ⟨hx, hy, hB0⟩ := hW
  have HB0 : Hid (Below w.heap.size w W0) := hB0
  have c0 : W0.cell? ⟨w.heap.size, 0, none⟩ = some (.int .i64 K) := cell_of hx rfl
  have c1 : W0.cell? ⟨w.heap.size, 1, none⟩ = some (.int .i64 I) := cell_of hx rfl
  have c2 : W0.cell? ⟨w.heap.size, 2, none⟩ = some (.float .f64 b) := cell_of hx rfl
  have c3 : W0.cell? ⟨w.heap.size, 3, none⟩ = some (.string s) := cell_of hx rfl
  have d0 : W0.cell? ⟨w.heap.size + 1, 0, none⟩ = some (.int .i64 K) := cell_of hy rfl
  have d1 : W0.cell? ⟨w.heap.size + 1, 1, none⟩ = some (.int .i64 I) := cell_of hy rfl
  have d2 : W0.cell? ⟨w.heap.size + 1, 2, none⟩ = some (.float .f64 b) := cell_of hy rfl
  have d3 : W0.cell? ⟨w.heap.size + 1, 3, none⟩ = some (.string s) := cell_of hy rfl
  have e1 : (K == K) = true := by simp
  have e2 : (I == I) = true := by simp
  clear hW0 hx hy hB0
  go_quiet (fail)
  go_wp2_with fail
  go_ret
  exact ⟨rfl, below_drewN HB0.out nq⟩
theorem word_false (x : Nat) : Ieee.double.word false x = x := rfl
theorem word_true (x : Nat) : Ieee.double.word true x = 9223372036854775808 + x := rfl
/-- What is made of a float's size and its sign. -/
theorem sign_mul (b : Nat) (hb : b < 18446744073709551616) (h1 : b % 9223372036854775808 < 9218868437227405312) (h2 : ¬ b % 9223372036854775808 = 0) :
    floatBits .mul .f64 (b % 9223372036854775808) (if (Ieee.double.order b 0 == some .lt) = true then 13830554455654793216 else 4607182418800017408) = some b := by
  rw [lt_zero, decide_eq_true h2, decide_eq_true (show b % 9223372036854775808 ≤ 9218868437227405312 by omega)]
  show Ieee.double.mul _ _ = _
  by_cases h : b < 9223372036854775808
  · have e : (b / 9223372036854775808 % 2 == 1) = false := by rw [Nat.div_eq_of_lt h]; rfl
    rw [e, if_neg (by simp), mul_unit false _ _ read_one h1 (by omega), word_false, Nat.mod_eq_of_lt h]
  · have e : (b / 9223372036854775808 % 2 == 1) = true := by rw [show b / 9223372036854775808 = 1 by omega]; rfl
    rw [e, if_pos (by simp), mul_unit true _ _ read_mone h1 (by omega), word_true]
    congr 1
    omega
set_option maxHeartbeats 4000000 in
theorem refReal_any (b : Nat) (w : World) (hb : b < 18446744073709551616) : Calls Try.prog 14 #[.float .f64 b] w fun e w' => e = .returned (realV b) ∧ Below w.heap.size w w' := by
  have hres : Try.f14.results = #[.cell 2 26] := by kernel_rfl
  have HN := fun w => nan_any b w
  have HI := fun w => inf_any b w hb
  have hz := eq_zero b
  rw [← fmt64] at hz
  by_cases h1 : b % 9223372036854775808 < 9218868437227405312
  · rw [decide_eq_false (by omega)] at HN
    rw [decide_eq_false (by omega)] at HI
    by_cases h2 : b % 9223372036854775808 = 0
    · rw [decide_eq_true h2] at hz
      have hv : realV b = .agg #[.int .i64 3, .int .i64 0, .float .f64 0, .string ⟨#[]⟩] := by unfold realV realK realF; rw [if_pos h1, if_pos h1, if_pos h2]
      rw [hv]
      have HA := fun w => abs_any 0 w (by omega)
      have HS := fun w => refSign 0 w
      have hm : floatBits .mul .f64 0 4607182418800017408 = some 0 := mul_zero false _ read_one
      rw [show (if (Ieee.double.order 0 0 == some .lt) = true then 13830554455654793216 else 4607182418800017408) = 4607182418800017408 from rfl] at HS
      rw [show 0 % 9223372036854775808 = 0 from rfl] at HA
      have hmr := fun w => run_float_arith (P := Try.prog) w .mul 24 .f64 0 4607182418800017408 0 hm
      clear hm
      go_enter Try.func14, Try.ntmps14
      go_wp2_with (first | (go_at_call 26; refine (HN _).mono ?_; rintro e w' ⟨rfl, rfl⟩) | (go_at_call 27; refine (HI _).mono ?_; rintro e w' ⟨rfl, rfl⟩) | (go_at_call 30; refine (HA _).mono ?_; rintro e w' ⟨rfl, rfl⟩) | (go_at_call 31; refine (HS _).mono ?_; rintro e w' ⟨rfl, rfl⟩))
      refine bodyPost_ret (v := .agg #[.int .i64 3, .int .i64 0, .float .f64 0, .string ⟨#[]⟩]) ?_ rfl ⟨rfl, (Below.refl _ w).alloc (Nat.le_refl _) _⟩
      simp only [results, hres]
      go_simp
    · rw [decide_eq_false h2] at hz
      have hv : realV b = .agg #[.int .i64 3, .int .i64 0, .float .f64 b, .string ⟨#[]⟩] := by unfold realV realK realF; rw [if_pos h1, if_pos h1, if_neg h2]
      rw [hv]
      have HA := fun w => abs_any b w hb
      have HS := fun w => refSign b w
      have hm := sign_mul b hb h1 h2
      generalize b % 9223372036854775808 = r at *
      generalize (if (Ieee.double.order b 0 == some .lt) = true then 13830554455654793216 else 4607182418800017408) = u at *
      have hmr := fun w => run_float_arith (P := Try.prog) w .mul 24 .f64 r u b hm
      clear hm
      go_enter Try.func14, Try.ntmps14
      go_wp2_with (first | (go_at_call 26; refine (HN _).mono ?_; rintro e w' ⟨rfl, rfl⟩) | (go_at_call 27; refine (HI _).mono ?_; rintro e w' ⟨rfl, rfl⟩) | (go_at_call 30; refine (HA _).mono ?_; rintro e w' ⟨rfl, rfl⟩) | (go_at_call 31; refine (HS _).mono ?_; rintro e w' ⟨rfl, rfl⟩))
      refine bodyPost_ret (v := .agg #[.int .i64 3, .int .i64 0, .float .f64 b, .string ⟨#[]⟩]) ?_ rfl ⟨rfl, (Below.refl _ w).alloc (Nat.le_refl _) _⟩
      simp only [results, hres]
      go_simp
  · have hv : realV b = .agg #[.int .i64 0, .int .i64 0, .float .f64 0, .string ⟨#[]⟩] := by unfold realV realK realF; rw [if_neg h1, if_neg h1]
    rw [hv]
    by_cases h2 : 9218868437227405312 < b % 9223372036854775808
    · rw [decide_eq_true h2] at HN
      go_enter Try.func14, Try.ntmps14
      go_wp2_with (first | (go_at_call 26; refine (HN _).mono ?_; rintro e w' ⟨rfl, rfl⟩) | (go_at_call 27; refine (HI _).mono ?_; rintro e w' ⟨rfl, rfl⟩))
      refine bodyPost_ret (v := .agg #[.int .i64 0, .int .i64 0, .float .f64 0, .string ⟨#[]⟩]) ?_ rfl ⟨rfl, (Below.refl _ w).alloc (Nat.le_refl _) _⟩
      simp only [results, hres]
      go_simp
    · rw [decide_eq_false h2] at HN
      rw [decide_eq_true (by omega)] at HI
      go_enter Try.func14, Try.ntmps14
      go_wp2_with (first | (go_at_call 26; refine (HN _).mono ?_; rintro e w' ⟨rfl, rfl⟩) | (go_at_call 27; refine (HI _).mono ?_; rintro e w' ⟨rfl, rfl⟩))
      refine bodyPost_ret (v := .agg #[.int .i64 0, .int .i64 0, .float .f64 0, .string ⟨#[]⟩]) ?_ rfl ⟨rfl, (Below.refl _ w).alloc (Nat.le_refl _) _⟩
      simp only [results, hres]
      go_simp
end Go.Proofs.Ythkgoociknmkjaa
