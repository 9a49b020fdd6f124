/-
  Decimal numerals: as mathematics.
-/
import Derived.Test.YtdfmaicmbnjilaaDoorWMath
import Derived.Lib.ItoaNum
import Derived.Lib.Strings
namespace Go.Proofs.YtdfmaicmbnjilaaDoor
namespace Wd

theorem dec_small {u : Nat} (h : u < 10) : Lib.decDigits u = [UInt8.ofNat (48 + u)] := by rw [Lib.decDigits, dif_pos h]
theorem dec_big {u : Nat} (h : ¬ u < 10) : Lib.decDigits u = Lib.decDigits (u / 10) ++ [UInt8.ofNat (48 + u % 10)] := by rw [Lib.decDigits, dif_neg h]
/-- k digits, zeros ahead. -/
def padD : Nat → Nat → List UInt8
  | 0, _ => []
  | k + 1, b => padD k (b / 10) ++ [UInt8.ofNat (48 + b % 10)]
theorem pad_zero : ∀ k, padD k 0 = List.replicate k 48
  | 0 => rfl
  | k + 1 => by rw [padD, Nat.zero_div, pad_zero k, List.replicate_succ']; rfl
theorem pad_dec : ∀ (k b : Nat), b < 10 ^ (k + 1) → padD (k + 1) b = List.replicate (k + 1 - Lib.nDigits b) 48 ++ Lib.decDigits b
  | k, b, h => by
    by_cases h1 : b < 10
    · rw [Lib.nDigits_small h1, dec_small h1, padD, Nat.div_eq_of_lt h1, pad_zero, Nat.mod_eq_of_lt h1]
      rfl
    · have hk : ∃ j, k = j + 1 := by
        rcases k with _ | j
        · exact absurd (by simpa using h) h1
        · exact ⟨j, rfl⟩
      obtain ⟨j, rfl⟩ := hk
      have ih := pad_dec j (b / 10) (by rw [Nat.pow_succ] at h; omega)
      rw [padD, ih, Lib.nDigits_big h1, dec_big h1, List.append_assoc, Nat.add_sub_add_right]
theorem dec_pad : ∀ (k f b : Nat), 0 < f → b < 10 ^ k → Lib.decDigits (f * 10 ^ k + b) = Lib.decDigits f ++ padD k b
  | 0, f, b, _, hb => by
    obtain rfl : b = 0 := by simpa using hb
    simp [padD]
  | k + 1, f, b, hf, hb => by
    have hp : 1 ≤ 10 ^ k := Nat.one_le_pow _ _ (by decide)
    have e10 : f * 10 ^ (k + 1) = f * 10 ^ k * 10 := by rw [Nat.pow_succ, Nat.mul_assoc]
    have hge : 1 ≤ f * 10 ^ k := Nat.mul_le_mul hf hp
    have h1 : (f * 10 ^ (k + 1) + b) / 10 = f * 10 ^ k + b / 10 := by rw [e10]; omega
    have h2 : (f * 10 ^ (k + 1) + b) % 10 = b % 10 := by rw [e10]; omega
    rw [dec_big (by rw [e10]; omega), h1, h2, dec_pad k f (b / 10) hf (by rw [Nat.pow_succ] at hb; omega), padD, List.append_assoc]
theorem nd_le {k b : Nat} (h : b < 10 ^ (k + 1)) : Lib.nDigits b ≤ k + 1 := by
  induction k generalizing b with
  | zero => rw [Lib.nDigits_small (by simpa using h)]; exact Nat.le_refl _
  | succ k ih =>
    by_cases h1 : b < 10
    · rw [Lib.nDigits_small h1]; omega
    · rw [Lib.nDigits_big h1]
      have := ih (b := b / 10) (by rw [Nat.pow_succ] at h; omega)
      omega
theorem dec_split {f b : Nat} (hf : 0 < f) (hb : b < 10000000000000000000) : Lib.decDigits (f * 10000000000000000000 + b) = Lib.decDigits f ++ (List.replicate (19 - Lib.nDigits b) 48 ++ Lib.decDigits b) := by
  have e : (10000000000000000000 : Nat) = 10 ^ 19 := by decide
  rw [e] at hb ⊢
  rw [dec_pad 19 f b hf hb, pad_dec 18 b hb]
theorem dec_len (u : Nat) : (Lib.decDigits u).length = Lib.nDigits u := Lib.decDigits_length u
theorem dec_digit : ∀ (n u : Nat), u < n → ∀ c ∈ Lib.decDigits u, 48 ≤ c.toNat ∧ c.toNat ≤ 57
  | 0, u, h => by omega
  | n + 1, u, h => by
    intro c hc
    by_cases h1 : u < 10
    · rw [dec_small h1] at hc
      rw [List.mem_singleton] at hc
      subst hc
      rw [UInt8.toNat_ofNat']
      omega
    · rw [dec_big h1] at hc
      simp only [List.mem_append, List.mem_singleton] at hc
      rcases hc with hc | hc
      · exact dec_digit n (u / 10) (by omega) c hc
      · subst hc
        rw [UInt8.toNat_ofNat']
        omega
theorem dec_digits (u : Nat) : ∀ c ∈ Lib.decDigits u, 48 ≤ c.toNat ∧ c.toNat ≤ 57 := dec_digit (u + 1) u (Nat.lt_succ_self u)
/-- The number that digits say, whatever the bytes are. -/
def val (l : List UInt8) : Int := l.foldl (fun v c => v * 10 + ((c.toNat : Int) - 48)) 0
theorem val_snoc (l : List UInt8) (c : UInt8) : val (l ++ [c]) = val l * 10 + ((c.toNat : Int) - 48) := by simp [val]
theorem val_dec : ∀ (n u : Nat), u < n → val (Lib.decDigits u) = (u : Int)
  | 0, u, h => by omega
  | n + 1, u, h => by
    by_cases h1 : u < 10
    · rw [dec_small h1]
      show (0 : Int) * 10 + (((UInt8.ofNat (48 + u)).toNat : Int) - 48) = _
      rw [UInt8.toNat_ofNat']
      omega
    · rw [dec_big h1, val_snoc, val_dec n (u / 10) (by omega), UInt8.toNat_ofNat']
      omega
/-- What a text says, if it is one. -/
def guessI (l : List UInt8) : Int := if Lib.hasPrefix l [45] then 0 - val (Lib.trimPrefix l [45]) else val (Lib.trimPrefix l [45])
theorem guess_itoa (a : Int) : guessI (Lib.itoa a) = a := by
  unfold guessI Lib.itoa
  by_cases h : a < 0
  · rw [if_pos h]
    have e1 : Lib.hasPrefix (45 :: Lib.decDigits a.natAbs) [45] = true := by simp [Lib.hasPrefix, List.isPrefixOf]
    have e2 : Lib.trimPrefix (45 :: Lib.decDigits a.natAbs) [45] = Lib.decDigits a.natAbs := by unfold Lib.trimPrefix; rw [if_pos e1]; rfl
    rw [if_pos e1, e2, val_dec _ _ (Nat.lt_succ_self _)]
    omega
  · rw [if_neg h]
    have e1 : Lib.hasPrefix (Lib.decDigits a.toNat) [45] = false := by
      cases hl : Lib.decDigits a.toNat with
      | nil => rfl
      | cons c r =>
        have := dec_digits a.toNat c (by rw [hl]; exact List.mem_cons_self)
        have hc : (45 == c) = false := by
          rw [beq_eq_false_iff_ne]
          intro e
          subst e
          exact absurd this.1 (by decide)
        simp [Lib.hasPrefix, List.isPrefixOf, hc]
    have e2 : Lib.trimPrefix (Lib.decDigits a.toNat) [45] = Lib.decDigits a.toNat := by unfold Lib.trimPrefix; rw [if_neg (by rw [e1]; decide)]
    rw [if_neg (by rw [e1]; decide), e2, val_dec _ _ (Nat.lt_succ_self _)]
    omega
end Wd
end Go.Proofs.YtdfmaicmbnjilaaDoor
