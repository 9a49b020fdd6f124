/-
  A number of two words divided by one, half a word at a time: as mathematics.
-/
import Derived.Test.YtdfmaicmbnjilaaDoorWMath
import Derived.Lib.BitFns
namespace Go.Proofs.YtdfmaicmbnjilaaDoor
namespace Wd

/-- What a guess at a digit of a quotient keeps: u = a * q + r, and it is not too low. -/
def Kn (Y u d q r : Nat) : Prop := q * (Y / 4294967296) + r = u ∧ (u * 4294967296 + d) / Y ≤ q
theorem kn_start {Y u d : Nat} (hY : 9223372036854775808 ≤ Y) (hd : d < 4294967296) : Kn Y u d (u / (Y / 4294967296)) (u % (Y / 4294967296)) := by
  have ha : 0 < Y / 4294967296 := by omega
  refine ⟨by rw [Nat.mul_comm]; exact Nat.div_add_mod _ _, ?_⟩
  rw [Nat.le_div_iff_mul_le ha]
  have h1 : (u * 4294967296 + d) / Y * Y ≤ u * 4294967296 + d := Nat.div_mul_le_self _ _
  generalize (u * 4294967296 + d) / Y = q at *
  have e : q * Y = q * (Y / 4294967296) * 4294967296 + q * (Y % 4294967296) := by
    conv => lhs; rw [← Nat.div_add_mod Y 4294967296]
    rw [Nat.mul_add, Nat.mul_comm 4294967296, Nat.mul_assoc]
  omega
theorem kn_low {Y u d : Nat} (hu : u < Y) (hd : d < 4294967296) : (u * 4294967296 + d) / Y < 4294967296 := by
  rw [Nat.div_lt_iff_lt_mul (by omega), Nat.mul_comm]
  omega
theorem kn_lower {Y u d q r : Nat} (h : Kn Y u d q r) (hq : (u * 4294967296 + d) / Y < q) : Kn Y u d (q - 1) (r + Y / 4294967296) := by
  obtain ⟨h1, h2⟩ := h
  generalize hq0 : (u * 4294967296 + d) / Y = q0 at *
  refine ⟨?_, by omega⟩
  obtain ⟨k, rfl⟩ : ∃ k, q = k + 1 := ⟨q - 1, by omega⟩
  rw [Nat.add_mul] at h1
  simp only [Nat.add_sub_cancel]
  omega
theorem kn_key {Y u d q r : Nat} (h : Kn Y u d q r) : q * Y ≤ u * 4294967296 + d ↔ q * (Y % 4294967296) ≤ 4294967296 * r + d := by
  have e : q * Y = q * (Y / 4294967296) * 4294967296 + q * (Y % 4294967296) := by
    conv => lhs; rw [← Nat.div_add_mod Y 4294967296]
    rw [Nat.mul_add, Nat.mul_comm 4294967296, Nat.mul_assoc]
  obtain ⟨h1, _⟩ := h
  omega
theorem kn_gt {Y u d q r : Nat} (hY : 0 < Y) (h : Kn Y u d q r) (hq : 4294967296 * r + d < q * (Y % 4294967296)) : Kn Y u d (q - 1) (r + Y / 4294967296) := by
  refine kn_lower h ?_
  rw [Nat.div_lt_iff_lt_mul hY]
  have := kn_key h
  omega
theorem kn_big {Y u d q r : Nat} (hu : u < Y) (hd : d < 4294967296) (h : Kn Y u d q r) (hq : 4294967296 ≤ q) : Kn Y u d (q - 1) (r + Y / 4294967296) :=
  kn_lower h (Nat.lt_of_lt_of_le (kn_low hu hd) hq)
theorem kn_done {Y u d q r : Nat} (hY : 0 < Y) (h : Kn Y u d q r) (hq : q * (Y % 4294967296) ≤ 4294967296 * r + d) : q = (u * 4294967296 + d) / Y := by
  have h2 : q ≤ (u * 4294967296 + d) / Y := by
    rw [Nat.le_div_iff_mul_le hY]
    exact (kn_key h).2 hq
  have := h.2
  omega
theorem kn_break {Y u d q r : Nat} (hY : 9223372036854775808 ≤ Y) (hu : u < Y) (h : Kn Y u d q r) (hr : 4294967296 ≤ r) : q = (u * 4294967296 + d) / Y := by
  refine kn_done (by omega) h ?_
  have hq : q ≤ 4294967296 := by
    apply Nat.le_of_not_lt
    intro hlt
    have h1 := h.1
    have := Nat.mul_le_mul_right (Y / 4294967296) (show 4294967297 ≤ q by omega)
    omega
  have h3 : q * (Y % 4294967296) ≤ 4294967296 * 4294967296 := Nat.mul_le_mul hq (by omega)
  omega
theorem bl_bounds : ∀ (k x : Nat), k ≤ 64 → 0 < x → x < 2 ^ k → 1 ≤ Lib.bitLen x ∧ 2 ^ (Lib.bitLen x - 1) ≤ x ∧ x < 2 ^ Lib.bitLen x
  | 0, x, _, h0, h => by omega
  | k + 1, x, hk, h0, h => by
    have h64 : x < 2 ^ 64 := Nat.lt_of_lt_of_le h (Nat.pow_le_pow_right (by decide) hk)
    rw [Lib.bitLen_half x (by omega) h64]
    by_cases h1 : x = 1
    · subst h1; decide
    · have ih := bl_bounds k (x / 2) (by omega) (by omega) (by rw [Nat.pow_succ] at h; omega)
      obtain ⟨i1, i2, i3⟩ := ih
      generalize Lib.bitLen (x / 2) = m at *
      refine ⟨by omega, ?_, ?_⟩
      · have : 2 ^ (1 + m - 1) = 2 * 2 ^ (m - 1) := by rw [← Nat.pow_succ']; congr 1; omega
        omega
      · have : 2 ^ (1 + m) = 2 * 2 ^ m := by rw [Nat.add_comm, Nat.pow_succ']
        omega
/-- Shifted so far that the highest bit stands highest. -/
theorem lz_bounds {y : Nat} (h0 : 0 < y) (h : y < 18446744073709551616) : Lib.bitLen y ≤ 64 ∧ 9223372036854775808 ≤ y * 2 ^ (64 - Lib.bitLen y) ∧ y * 2 ^ (64 - Lib.bitLen y) < 18446744073709551616 := by
  obtain ⟨h1, h2, h3⟩ := bl_bounds 64 y (Nat.le_refl _) h0 (by simpa using h)
  have h4 := Lib.bitLen_le y 64 (Nat.le_refl _) (by simpa using h)
  generalize Lib.bitLen y = m at *
  refine ⟨h4, ?_, ?_⟩
  · have := Nat.mul_le_mul_right (2 ^ (64 - m)) h2
    rw [← Nat.pow_add, show m - 1 + (64 - m) = 63 by omega] at this
    omega
  · have := Nat.mul_lt_mul_of_pos_right h3 (Nat.two_pow_pos (64 - m))
    rw [← Nat.pow_add, show m + (64 - m) = 64 by omega] at this
    omega
/-- What the digit leaves. -/
theorem kn_rest (Y u d : Nat) (hY : 0 < Y) (h64 : Y < 18446744073709551616) : (((u : Int) * 4294967296 + d) - ((u * 4294967296 + d) / Y : Nat) * (Y : Int)) % 18446744073709551616 = ((u * 4294967296 + d) % Y : Nat) := by
  have h1 := Nat.div_add_mod (u * 4294967296 + d) Y
  have h2 := Nat.mod_lt (u * 4294967296 + d) hY
  have e : ((u : Int) * 4294967296 + d) - ((u * 4294967296 + d) / Y : Nat) * (Y : Int) = ((u * 4294967296 + d) % Y : Nat) := by
    have h3 : ((Y * ((u * 4294967296 + d) / Y) + (u * 4294967296 + d) % Y : Nat) : Int) = ((u * 4294967296 + d : Nat) : Int) := by rw [h1]
    rw [Int.natCast_add, Int.natCast_mul, Int.mul_comm (Y : Int)] at h3
    omega
  rw [e]
  omega
/-- The two digits are the quotient. -/
theorem kn_both (Y N : Nat) (hY : 0 < Y) : let u := N / 18446744073709551616; let d1 := N % 18446744073709551616 / 4294967296; let d0 := N % 4294967296; let r1 := (u * 4294967296 + d1) % Y
    (u * 4294967296 + d1) / Y * 4294967296 + (r1 * 4294967296 + d0) / Y = N / Y ∧ (r1 * 4294967296 + d0) % Y = N % Y := by
  intro u d1 d0 r1
  have hN : (u * 4294967296 + d1) * 4294967296 + d0 = N := by show _ = _; simp only [u, d1, d0]; omega
  have h1 := Nat.div_add_mod (u * 4294967296 + d1) Y
  have e : N = Y * ((u * 4294967296 + d1) / Y * 4294967296) + (r1 * 4294967296 + d0) := by
    rw [← Nat.mul_assoc]
    show N = _ * 4294967296 + ((u * 4294967296 + d1) % Y * 4294967296 + d0)
    generalize Y * ((u * 4294967296 + d1) / Y) = m at *
    omega
  constructor
  · conv => rhs; rw [e]
    rw [Nat.mul_add_div hY]
  · conv => rhs; rw [e]
    rw [Nat.mul_add_mod]
end Wd
end Go.Proofs.YtdfmaicmbnjilaaDoor
