/-
  Digits shifted by bits: as mathematics.
-/
import Derived.Test.YtdfmaicmbnjilaaDoorWRefM
namespace Go.Proofs.YtdfmaicmbnjilaaDoor
namespace Wd

theorem dv_ge {D : Nat → Nat} {q : Nat} : ∀ {n : Nat}, q < n → D q * 65536 ^ q ≤ dv D n
  | 0, h => by omega
  | n + 1, h => by
    show _ ≤ dv D n + D n * 65536 ^ n
    by_cases e : q = n
    · rw [e]; omega
    · have := dv_ge (D := D) (show q < n by omega); omega
theorem dv_bump {D : Nat → Nat} {q d : Nat} : ∀ {n : Nat}, q < n → dv (fun j => if j = q then D q + d else D j) n = dv D n + d * 65536 ^ q
  | 0, h => by omega
  | n + 1, h => by
    show dv _ n + (if n = q then D q + d else D n) * 65536 ^ n = dv D n + D n * 65536 ^ n + d * 65536 ^ q
    by_cases e : n = q
    · subst e
      rw [if_pos rfl, dv_upd, Nat.add_mul]
      omega
    · rw [if_neg e, dv_bump (show q < n by omega)]
      omega
theorem dv_split {D : Nat → Nat} {q : Nat} : ∀ {n : Nat}, q < n → ∃ m, dv D n = dv D q + (D q + m * 65536) * 65536 ^ q
  | 0, h => by omega
  | n + 1, h => by
    by_cases e : q = n
    · subst e; exact ⟨0, by show dv D q + D q * 65536 ^ q = _; simp⟩
    · obtain ⟨m, hm⟩ := dv_split (D := D) (show q < n by omega)
      refine ⟨m + D n * 65536 ^ (n - q - 1), ?_⟩
      show dv D n + D n * 65536 ^ n = _
      have hp : 65536 ^ n = 65536 ^ (n - q - 1) * 65536 * 65536 ^ q := by
        rw [← Nat.pow_succ, ← Nat.pow_add]; congr 1; omega
      rw [hm, hp, Nat.add_mul, Nat.add_mul, Nat.add_mul, Nat.add_mul, Nat.mul_assoc (D n), Nat.mul_assoc (D n)]
      omega
/-- A digit out of the number. -/
theorem dv_dig {D : Nat → Nat} (h : Dig D) {q n : Nat} (hq : q < n) : dv D n / 65536 ^ q % 65536 = D q := by
  obtain ⟨m, hm⟩ := dv_split (D := D) hq
  have h1 := dv_lt h q
  rw [hm, Nat.add_mul_div_right _ _ (Nat.pow_pos (by decide)), Nat.div_eq_of_lt h1, Nat.zero_add, Nat.add_mul_mod_self_right]
  exact Nat.mod_eq_of_lt (h q)
theorem dig_bit {D : Nat → Nat} (h : Dig D) {k : Nat} (hk : k < 384) : dv D 24 / 2 ^ k % 2 = D (k / 16) / 2 ^ (k % 16) % 2 := by
  rw [← dv_dig h (show k / 16 < 24 by omega)]
  have e : 2 ^ k = 65536 ^ (k / 16) * 2 ^ (k % 16) := by
    rw [show (65536 : Nat) = 2 ^ 16 by decide, ← Nat.pow_mul, ← Nat.pow_add]; congr 1; omega
  rw [e, ← Nat.div_div_eq_div_mul]
  generalize dv D 24 / 65536 ^ (k / 16) = x
  have hr : k % 16 < 16 := Nat.mod_lt _ (by decide)
  generalize k % 16 = r at *
  have hb := Nat.testBit_mod_two_pow x 16 r
  rw [decide_eq_true hr, Bool.true_and, show (2 : Nat) ^ 16 = 65536 by decide, Nat.testBit_eq_decide_div_mod_eq, Nat.testBit_eq_decide_div_mod_eq, decide_eq_decide] at hb
  have h1 : x / 2 ^ r % 2 < 2 := Nat.mod_lt _ (by decide)
  have h2 : x % 65536 / 2 ^ r % 2 < 2 := Nat.mod_lt _ (by decide)
  omega
theorem mod_step (T i : Nat) : T % 2 ^ (i + 1) = T % 2 ^ i + T / 2 ^ i % 2 * 2 ^ i := by
  rw [Nat.pow_succ, Nat.mod_mul, Nat.mul_comm]
theorem sh_bit (N s i : Nat) (h : s ≤ i) : N * 2 ^ s / 2 ^ i % 2 = N / 2 ^ (i - s) % 2 := by
  rw [show (2 : Nat) ^ i = 2 ^ s * 2 ^ (i - s) by rw [← Nat.pow_add]; congr 1; omega, ← Nat.div_div_eq_div_mul, Nat.mul_div_cancel _ (Nat.two_pow_pos s)]
theorem sh_none (N s i : Nat) (h : i < s) : N * 2 ^ s / 2 ^ i % 2 = 0 := by
  rw [show (2 : Nat) ^ s = 2 ^ (s - i - 1) * 2 * 2 ^ i by rw [← Nat.pow_succ, ← Nat.pow_add]; congr 1; omega, ← Nat.mul_assoc, Nat.mul_div_cancel _ (Nat.two_pow_pos i), ← Nat.mul_assoc]
  exact Nat.mul_mod_left _ _
/-- A bit put on a digit that has none so high. -/
theorem bit_put {C : Nat → Nat} {i : Nat} (hi : i < 384) (h : dv C 24 < 2 ^ i) : C (i / 16) < 2 ^ (i % 16) := by
  have h1 := dv_ge (D := C) (show i / 16 < 24 by omega)
  have e : 2 ^ i = 2 ^ (i % 16) * 65536 ^ (i / 16) := by
    rw [show (65536 : Nat) = 2 ^ 16 by decide, ← Nat.pow_mul, ← Nat.pow_add]; congr 1; omega
  rw [e] at h
  exact Nat.lt_of_mul_lt_mul_right (Nat.lt_of_le_of_lt h1 h)
theorem bit_val (i : Nat) : 2 ^ (i % 16) * 65536 ^ (i / 16) = 2 ^ i := by
  rw [show (65536 : Nat) = 2 ^ 16 by decide, ← Nat.pow_mul, ← Nat.pow_add]; congr 1; omega
end Wd
end Go.Proofs.YtdfmaicmbnjilaaDoor
