/-
  math.Ldexp of a float that is not small, to one that is not.
-/
import Derived.Test.YtdfmaicmbnjilaaDoorWFlt
import Derived.Test.YtdfmaicmbnjilaaDoorVLeaf
import Derived.Test.YtdfmaicmbnjilaaDoorWLeaf
namespace Go.Proofs.YtdfmaicmbnjilaaDoor
open Go.RowKit Wd Vl

theorem ord_least {b : Nat} (h1 : 4503599627370496 ≤ b) (h2 : b < 9218868437227405312) : (Ieee.double.order b 4503599627370496 == some .lt) = false := by
  rw [ord_fin (by omega) (by decide), sv_pos (by omega), sv_pos (by decide)]
  cases hc : compare (uv b : Int) (uv 4503599627370496 : Int) with
  | lt =>
    have h := (cmp_lt _ _).1 hc
    have : uv b < uv 4503599627370496 := by omega
    rw [uv_iff] at this
    omega
  | gt => rfl
  | eq => rfl
set_option maxHeartbeats 800000 in
theorem normalize_any (b : Nat) (w : World) (h1 : 4503599627370496 ≤ b) (h2 : b < 9218868437227405312) : Calls Tryd.prog 71 #[.float .f64 b] w fun e w' => e = .returned (.tuple #[.float .f64 b, .int .i64 0]) ∧ w' = w := by
  have C := hid (abs_any b w (by omega))
  rw [show b % 9223372036854775808 = b by omega] at C
  have ho : (FloatKind.f64.format.order b 4503599627370496 == some .lt) = false := ord_least h1 h2
  go_enter Tryd.func71, Tryd.ntmps71
  go_wp2_with (go_at_call 11; refine C.out.mono ?_; rintro e w9 ⟨rfl, hw9⟩; subst w9)
  go_ret2
  exact ⟨rfl, rfl⟩
theorem i64_and_nat' (a b : Nat) (ha : a < 9223372036854775808) (hb : b < 9223372036854775808) : bits .and .i64 (a : Int) (b : Int) = ((a &&& b : Nat) : Int) := by
  have hx : a &&& b < 2 ^ 63 := Nat.and_lt_two_pow _ (by omega)
  show IntKind.i64.wrap ((BitVec.ofInt 64 (a : Int) &&& BitVec.ofInt 64 (b : Int)).toNat : Int) = _
  rw [BitVec.toNat_and, ofInt_u64 a (by omega), ofInt_u64 b (by omega), IntKind.wrap_i64]
  omega
theorem one_mul (x : Nat) (hx : x < 9218868437227405312) (h0 : 0 < x) : Ieee.double.mul 4607182418800017408 x = some x := by
  have h := mul_unit false 4607182418800017408 x read_one hx h0
  obtain ⟨m, k, e, _⟩ := read_uv (x := x) (by omega)
  unfold Ieee.Format.mul at h ⊢
  rw [e, read_one] at h
  rw [read_one, e]
  simp only [Ieee.Datum.product, Option.map_some] at h ⊢
  rw [Nat.mul_comm, Int.add_comm, Bool.xor_comm]
  exact h
theorem clear_exp (b : Nat) (hb : b < 9223372036854775808) : bits .andNot .u64 (b : Int) 9218868437227405312 = ((b % 4503599627370496 : Nat) : Int) := by
  have h := u64_andNot_nat b 9218868437227405312 (by omega) (by omega)
  have e : b &&& (18446744073709551615 - 9218868437227405312) = b % 4503599627370496 := by
    have h2 := Nat.and_two_pow_sub_one_eq_mod b 52
    rw [show (2 : Nat) ^ 52 = 4503599627370496 from rfl] at h2
    rw [← h2]
    apply Nat.eq_of_testBit_eq
    intro i
    rw [Nat.testBit_and, Nat.testBit_and]
    by_cases hi : i < 63
    · have : ∀ i, i < 63 → Nat.testBit (18446744073709551615 - 9218868437227405312) i = Nat.testBit (4503599627370496 - 1) i := by decide
      rw [this i hi]
    · have hz : Nat.testBit b i = false := Nat.testBit_lt_two_pow (Nat.lt_of_lt_of_le hb (Nat.le_trans (by decide : 9223372036854775808 ≤ 2 ^ 63) (Nat.pow_le_pow_right (by decide) (by omega))))
      rw [hz]; rfl
  rw [e] at h
  exact h
set_option maxRecDepth 8000 in
set_option maxHeartbeats 1600000 in
theorem ldexp_in (b r : Nat) (e : Int) (w : World) (h1 : 4503599627370496 ≤ b) (h2 : b < 9218868437227405312) (h3 : -4000 ≤ e) (h4 : e ≤ 4000) (hr : (r : Int) = b + e * 4503599627370496) (h5 : 4503599627370496 ≤ r) (h6 : r < 9218868437227405312) :
    Calls Tryd.prog 60 #[.float .f64 b, .int .i64 e] w fun x w' => x = .returned (.float .f64 r) ∧ w' = w := by
  have CI := hid (inf_any b w (by omega))
  have CN := hid (nan_any b w)
  rw [show b % 9223372036854775808 = b by omega] at CI CN
  rw [decide_eq_false (by omega)] at CI CN
  have CZ := hid (normalize_any b w h1 h2)
  have hz := eq_zero b
  rw [decide_eq_false (by omega)] at hz
  have hb := run_bits b
  obtain ⟨E, hE⟩ : ∃ E, E = b / 4503599627370496 := ⟨_, rfl⟩
  have eE : (b : Int) / 4503599627370496 = (E : Int) := by omega
  have hEl : E ≤ 2046 := by omega
  have hEa : bits .and .i64 (E : Int) 2047 = (E : Int) := by
    rw [show (2047 : Int) = ((2047 : Nat) : Int) from rfl, i64_and_nat' E 2047 (by omega) (by omega), show (2047 : Nat) = 2 ^ 11 - 1 by decide, Nat.and_two_pow_sub_one_eq_mod, Nat.mod_eq_of_lt (by omega)]
  obtain ⟨x, hx⟩ : ∃ x, e + ((E : Int) - 1023) = x := ⟨_, rfl⟩
  have hx1 : ¬ x < -1075 := by omega
  have hx2 : ¬ 1023 < x := by omega
  have hx3 : ¬ x < -1022 := by omega
  have hxa := clear_exp b (by omega)
  obtain ⟨f, hf⟩ : ∃ f, f = b % 4503599627370496 := ⟨_, rfl⟩
  rw [← hf] at hxa
  obtain ⟨E2, hE2⟩ : ∃ E2 : Nat, (E2 : Int) = x + 1023 := ⟨(x + 1023).toNat, by omega⟩
  have hs : x + 1023 = (E2 : Int) := by omega
  have hw : IntKind.u64.wrap (E2 : Int) = (E2 : Int) := by rw [IntKind.wrap_u64]; omega
  obtain ⟨S, hS⟩ : ∃ S : Nat, S = E2 * 4503599627370496 := ⟨_, rfl⟩
  have hSi : (E2 : Int) * 4503599627370496 = (S : Int) := by omega
  have hSl : S < 9223372036854775808 := by omega
  have hor : bits .or .u64 (f : Int) (S : Int) = (r : Int) := by
    rw [u64_or_nat _ _ (by omega) (by omega), Nat.or_comm, hS, show (4503599627370496 : Nat) = 2 ^ 52 from rfl, Nat.mul_comm, ← Nat.two_pow_add_eq_or_of_lt (show f < 2 ^ 52 by omega)]
    omega
  have hfr := run_from r
  have hmul : floatBits .mul .f64 4607182418800017408 r = some r := by
    show Ieee.double.mul 4607182418800017408 r = some r
    exact one_mul r h6 (by omega)
  have hmr := fun w => run_float_arith (P := Tryd.prog) w .mul 26 .f64 4607182418800017408 r r hmul
  have hz' : (FloatKind.f64.format.order b 0 == some .eq) = false := hz
  have hew : IntKind.i64.wrap e = e := by rw [wrap_sw]; unfold sw; omega
  have hxw : IntKind.i64.wrap x = x := by rw [wrap_sw]; unfold sw; omega
  have hE1w : IntKind.i64.wrap ((E : Int) - 1023) = (E : Int) - 1023 := by rw [wrap_sw]; unfold sw; omega
  clear hz hE hf hE2 hS hr h1 h2 h3 h4 h5 hmul
  go_enter Tryd.func60, Tryd.ntmps60
  go_wp2_with (first
    | (go_at_call 69; refine CI.out.mono ?_; rintro e w9 ⟨rfl, hw9⟩; subst w9)
    | (go_at_call 70; refine CN.out.mono ?_; rintro e w9 ⟨rfl, hw9⟩; subst w9)
    | (go_at_call 71; refine CZ.out.mono ?_; rintro e w9 ⟨rfl, hw9⟩; subst w9))
  go_ret
  exact ⟨rfl, rfl⟩
set_option maxRecDepth 8000 in
theorem ldexp_any (b r : Nat) (e : Int) (w : World) (h1 : 4503599627370496 ≤ b) (h2 : b < 9218868437227405312) (h3 : -4000 ≤ e) (h4 : e ≤ 4000) (hr : (r : Int) = b + e * 4503599627370496) (h5 : 4503599627370496 ≤ r) (h6 : r < 9218868437227405312) :
    Calls Tryd.prog 49 #[.float .f64 b, .int .i64 e] w fun x w' => x = .returned (.float .f64 r) ∧ w' = w := by
  have C := hid (ldexp_in b r e w h1 h2 h3 h4 hr h5 h6)
  clear h1 h2 h3 h4 hr h5 h6
  go_enter Tryd.func49, Tryd.ntmps49
  go_wp2_with (go_at_call 60; refine C.out.mono ?_; rintro e w9 ⟨rfl, hw9⟩; subst w9)
  go_ret
  exact ⟨rfl, rfl⟩
end Go.Proofs.YtdfmaicmbnjilaaDoor
