/-
  A float within the range of Ints, made a whole number: there is one.
-/
import Derived.Test.YthlfdmigmgpgfaaVFlt
import Derived.Laws.FloatArith
namespace Go.Proofs.Ythlfdmigmgpgfaa
open Ieee Vl

theorem read_top : Ieee.double.read 4890909195324358656 = .number false 4503599627370496 11 := rfl
theorem read_bot : Ieee.double.read 14114281232179134464 = .number true 4503599627370496 11 := rfl
theorem cut_le (b : Bool) (n d : Nat) : Toward.zero.cut b n d ≤ n := by
  unfold Toward.cut
  simp only [Bool.toNat_false, Nat.add_zero]
  exact Nat.div_le_self _ _
theorem cut_none (b : Bool) (n : Nat) : Toward.zero.cut b n 0 = n := by
  unfold Toward.cut
  simp
/-- int64(f), where f is a number from -2^63 on and below 2^63. -/
theorem toInt_in {x : Nat} (hx : x % 9223372036854775808 < 9218868437227405312) (h1 : (Ieee.double.order x 4890909195324358656 == some .gt || Ieee.double.order x 4890909195324358656 == some .eq) = false) (h2 : (Ieee.double.order x 14114281232179134464 == some .lt) = false) : ∃ n, Go.floatToIntVal .f64 x .i64 = some n := by
  obtain ⟨m, k, hr, hm, hk, _⟩ := read_num x hx
  have hr' : FloatKind.f64.decode x = .number (x / 9223372036854775808 % 2 == 1) m (-1074 + (k : Int)) := hr
  unfold Ieee.Format.order at h1 h2
  rw [hr, read_top] at h1
  rw [hr, read_bot] at h2
  generalize (x / 9223372036854775808 % 2 == 1) = s at *
  simp only [Ieee.Datum.order] at h1 h2
  have key : Ieee.signed s (Toward.zero.cut s (m <<< (-1074 + (k : Int)).toNat) (-(-1074 + (k : Int))).toNat) 0 ≤ 9223372036854775807 ∧ -9223372036854775808 ≤ Ieee.signed s (Toward.zero.cut s (m <<< (-1074 + (k : Int)).toNat) (-(-1074 + (k : Int))).toNat) 0 := by
    by_cases hi : k < 1074
    · rw [show (-1074 + (k : Int)).toNat = 0 by omega, Nat.shiftLeft_zero]
      have hc := cut_le s m (-(-1074 + (k : Int))).toNat
      unfold Ieee.signed
      rw [Nat.shiftLeft_zero]
      split <;> omega
    · obtain ⟨i, hik⟩ : ∃ i, k = 1074 + i := ⟨k - 1074, by omega⟩
      subst hik
      rw [show (-1074 + ((1074 + i : Nat) : Int)).toNat = i by omega, show (-(-1074 + ((1074 + i : Nat) : Int))).toNat = 0 by omega, cut_none]
      have e1 : (-1074 + ((1074 + i : Nat) : Int)) = (i : Int) := by omega
      rw [e1] at h1 h2
      unfold Ieee.signed at h1 h2 ⊢
      rw [Nat.shiftLeft_zero]
      simp only [Nat.shiftLeft_eq] at h1 h2 ⊢
      have hlt : ∀ a b : Int, (some (compare a b) == some Ordering.gt || some (compare a b) == some Ordering.eq) = false → a < b := fun a b h => by
        rcases Int.lt_trichotomy a b with h3 | h3 | h3
        · exact h3
        · rw [(cmp_eq a b).2 h3] at h; simp at h
        · rw [(cmp_gt a b).2 h3] at h; simp at h
      have hge : ∀ a b : Int, (some (compare a b) == some Ordering.lt) = false → b ≤ a := fun a b h => by
        rcases Int.lt_trichotomy a b with h3 | h3 | h3
        · rw [(cmp_lt a b).2 h3] at h; simp at h
        · omega
        · omega
      have q1 := hlt _ _ h1
      have q2 := hge _ _ h2
      clear h1 h2
      by_cases h11 : i ≤ 11
      · rw [show min (i : Int) 11 = (i : Int) by omega, show ((i : Int) - (i : Int)).toNat = 0 by omega, show ((11 : Int) - (i : Int)).toNat = 11 - i by omega, Nat.pow_zero, Nat.mul_one] at q1 q2
        have hp : (2 : Nat) ^ (11 - i) * 2 ^ i = 2048 := by rw [← Nat.pow_add, show 11 - i + i = 11 by omega]
        have hpi : 0 < (2 : Nat) ^ i := Nat.pow_pos (by omega)
        have hmul : 4503599627370496 * 2 ^ (11 - i) * 2 ^ i = 9223372036854775808 := by rw [Nat.mul_assoc, hp]
        cases s with
        | false =>
          simp only [Bool.false_eq_true, if_false, if_true] at q1 q2 ⊢
          have h3 : m < 4503599627370496 * 2 ^ (11 - i) := by omega
          have h4 : m * 2 ^ i < 4503599627370496 * 2 ^ (11 - i) * 2 ^ i := (Nat.mul_lt_mul_right hpi).2 h3
          rw [hmul] at h4
          omega
        | true =>
          simp only [if_true] at q1 q2 ⊢
          have h3 : m ≤ 4503599627370496 * 2 ^ (11 - i) := by omega
          have h4 : m * 2 ^ i ≤ 4503599627370496 * 2 ^ (11 - i) * 2 ^ i := Nat.mul_le_mul_right _ h3
          rw [hmul] at h4
          omega
      · rw [show min (i : Int) 11 = 11 by omega, show ((i : Int) - 11).toNat = i - 11 by omega, show ((11 : Int) - 11).toNat = 0 by omega, Nat.pow_zero, Nat.mul_one] at q1 q2
        have hp : (2 : Nat) ^ i = 2 ^ (i - 11) * 2048 := by rw [show (2048 : Nat) = 2 ^ 11 by rfl, ← Nat.pow_add, show i - 11 + 11 = i by omega]
        rw [hp, ← Nat.mul_assoc]
        cases s with
        | false =>
          simp only [Bool.false_eq_true, if_false, if_true] at q1 q2 ⊢
          omega
        | true =>
          simp only [if_true] at q1 q2 ⊢
          omega
  have hd : (FloatKind.f64.decode x).toInt .zero = some (Ieee.signed s (Toward.zero.cut s (m <<< (-1074 + (k : Int)).toNat) (-(-1074 + (k : Int))).toNat) 0) := by
    rw [hr']
    rfl
  generalize Ieee.signed s (Toward.zero.cut s (m <<< (-1074 + (k : Int)).toNat) (-(-1074 + (k : Int))).toNat) 0 = N at key hd
  refine ⟨N, ?_⟩
  unfold Go.floatToIntVal
  rw [hd]
  exact if_pos ⟨key.2, key.1⟩
end Go.Proofs.Ythlfdmigmgpgfaa
