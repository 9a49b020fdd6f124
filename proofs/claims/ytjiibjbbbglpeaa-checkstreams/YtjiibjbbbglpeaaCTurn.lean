/-
  place, laid; bits of a text that are turned.
-/
import Derived.Test.YtjiibjbbbglpeaaCPlaces
namespace Go.Proofs.Ytjiibjbbbglpeaa
open Go.RowKit Crc

theorem moreN_eq {s : Nat} {L : Nat → Nat} {n : Nat} (hs : s < 4294967296) (h : ∀ j, j < n → L j < 256) : moreN s L n = 4294967295 ^^^ reg (4294967295 ^^^ s) L n := by
  unfold moreN
  rw [flip32 hs, flip32 (reg_lt (by omega) h)]
theorem xor_cancel {o a b : Nat} (h : o ^^^ a = o ^^^ b) : a = b := by
  have : o ^^^ (o ^^^ a) = o ^^^ (o ^^^ b) := by rw [h]
  rwa [← Nat.xor_assoc, ← Nat.xor_assoc, Nat.xor_self, Nat.zero_xor, Nat.zero_xor] at this
/-- The sums of two texts are alike just if what was turned leaves nothing. -/
theorem sums_alike {F L : Nat → Nat} {n X : Nat} (hF : ∀ j, j < n → F j < 256) (hL : ∀ j, j < n → L j < 256) (hX : num F n = num L n ^^^ X) : moreN 0 F n = moreN 0 L n ↔ shN (8 * n) X = 0 := by
  rw [moreN_eq (by omega) hF, moreN_eq (by omega) hL]
  have e : reg (4294967295 ^^^ 0) F n = reg (4294967295 ^^^ 0) L n ^^^ shN (8 * n) X := by
    unfold reg
    rw [hX, ← Nat.xor_assoc, shN_xor]
  rw [e]
  constructor
  · intro h
    have h2 := xor_cancel h
    generalize reg (4294967295 ^^^ 0) L n = A at *
    exact (xor_cancel (o := A) (by rw [h2, Nat.xor_zero]))
  · intro h
    rw [h, Nat.xor_zero]
theorem num_turn {F : Nat → Nat} {n q r : Nat} (h : ∀ j, j < n → F j < 256) (hq : q < n) (hr : r < 8) : num (upd F q (F q ^^^ 2 ^ r)) n = num F n ^^^ 2 ^ (8 * q + r) := by
  have hp : 2 ^ r < 256 := Nat.lt_of_lt_of_le (Nat.pow_lt_pow_right (by omega) hr) (by decide)
  have h' : ∀ j, j < n → upd F q (F q ^^^ 2 ^ r) j < 256 := fun j hj => by
    unfold upd
    split
    · exact Nat.xor_lt_two_pow (n := 8) (h q hq) hp
    · exact h j hj
  apply bit_ext
  intro i
  rw [Nat.testBit_xor, Nat.testBit_two_pow]
  by_cases hi : i < 8 * n
  · rw [num_bit h' i hi, num_bit h i hi]
    unfold upd
    by_cases hj : i / 8 = q
    · rw [if_pos hj, Nat.testBit_xor, Nat.testBit_two_pow, hj]
      by_cases hm : r = i % 8
      · simp [hm, show 8 * q + i % 8 = i by omega]
      · simp [hm, show ¬ (8 * q + r = i) by omega]
    · rw [if_neg hj]
      simp [show ¬ (8 * q + r = i) by omega]
  · rw [Nat.testBit_lt_two_pow (Nat.lt_of_lt_of_le (num_lt h') (Nat.pow_le_pow_right (by omega) (by omega))), Nat.testBit_lt_two_pow (Nat.lt_of_lt_of_le (num_lt h) (Nat.pow_le_pow_right (by omega) (by omega)))]
    simp; omega
theorem turn_lt {F : Nat → Nat} {n q r : Nat} (h : ∀ j, j < n → F j < 256) (hq : q < n) (hr : r < 8) : ∀ j, j < n → upd F q (F q ^^^ 2 ^ r) j < 256 := fun j hj => by
  have hp : 2 ^ r < 256 := Nat.lt_of_lt_of_le (Nat.pow_lt_pow_right (by omega) hr) (by decide)
  unfold upd
  split
  · exact Nat.xor_lt_two_pow (n := 8) (h q hq) hp
  · exact h j hj
/-- Which bits of the pattern were turned among the first i. -/
def pt (from0 n P : Nat) : Nat → Nat
  | 0 => 0
  | i + 1 => if P.testBit i = true ∧ (from0 + i) / 8 < n then 2 ^ i + pt from0 n P i else pt from0 n P i
theorem pt_lt (from0 n P i : Nat) : pt from0 n P i < 2 ^ i := by
  induction i with
  | zero => simp [pt]
  | succ i ih =>
    rw [pt, Nat.pow_succ]
    split <;> omega
theorem pt_turn (from0 n P i : Nat) : 2 ^ from0 * (2 ^ i + pt from0 n P i) = 2 ^ from0 * pt from0 n P i ^^^ 2 ^ (from0 + i) := by
  have h := add_xor i 1 (pt from0 n P i) (pt_lt _ _ _ _)
  rw [Nat.mul_one] at h
  rw [h]
  apply bit_ext
  intro j
  rw [Nat.testBit_xor, shl_bit, shl_bit, Nat.testBit_xor, Nat.testBit_two_pow, Nat.testBit_two_pow]
  by_cases hj : from0 ≤ j
  · by_cases he : i = j - from0
    · simp [hj, he, show from0 + (j - from0) = j by omega]
    · simp [hj, he, show ¬ (from0 + i = j) by omega]
  · simp [hj, show ¬ (from0 + i = j) by omega]

set_option maxHeartbeats 1000000 in
theorem place_any (k : Int) (n : Nat) (w : World) (hn : n ≤ 1125899906842624) : Calls Try.prog 22 #[.int .i64 k, .int .i64 (n : Int)] w fun e w' => ∃ p : Nat, e = .returned (.int .i64 (p : Int)) ∧ (n = 0 → p = 0) ∧ (0 < n → p < n) ∧ w' = w := by
  by_cases h0 : n = 0
  · subst h0
    go_enter Try.func22, Try.ntmps22
    go_wp2_with fail
    go_ret
    exact ⟨0, rfl, fun _ => rfl, fun h => absurd h (by omega), rfl⟩
  · have hn0 : (1 : Int) ≤ (n : Int) := by omega
    have hnz : ¬ ((n : Int) = 0) := by omega
    have h1 := Int.tmod_lt_of_pos k (show (0 : Int) < (n : Int) by omega)
    have h2 : -(n : Int) < k.tmod (n : Int) := Int.lt_tmod_of_pos k (show (0 : Int) < (n : Int) by omega)
    go_enter Try.func22, Try.ntmps22
    go_wp2_with fail
    go_ret
    have h3 : 0 ≤ (k.tmod (n : Int) + (n : Int)) % (n : Int) := Int.emod_nonneg _ (by omega)
    have h4 : (k.tmod (n : Int) + (n : Int)) % (n : Int) < (n : Int) := Int.emod_lt_of_pos _ (by omega)
    refine ⟨((k.tmod (n : Int) + (n : Int)) % (n : Int)).toNat, ?_, fun h => absurd h h0, fun _ => by omega, rfl⟩
    rw [Int.toNat_of_nonneg h3]
    rfl
set_option maxHeartbeats 1000000 in
theorem laid_ok (g n c : Nat) (F : Nat → Nat) (pos : Nat) (w : World) (hb : Blk w g 5 .u8 c n F) (hF : ∀ j, j < n → F j < 256) (hp : pos / 8 < n) (hc : c ≤ maxLen) : Calls Try.prog 23 #[.slice (some ⟨g, 0, none⟩) n c, .int .i64 (pos : Int)] w fun e w' => e = .returned (.tuple #[]) ∧ w' = w.setCell ⟨g, pos / 8, none⟩ (.int .u8 ((F (pos / 8) ^^^ 2 ^ (pos % 8) : Nat) : Int)) := by
  have hc1 := hb.cell hp
  have hf := hb.frozen (pos / 8)
  have hx := hF _ hp
  have hle := hb.le
  simp only [maxLen] at hc
  have hr : pos % 8 < 8 := Nat.mod_lt _ (by omega)
  have hq1 : (pos : Int) / 8 = ((pos / 8 : Nat) : Int) := by simp
  have hq2 : (pos : Int) % 8 = ((pos % 8 : Nat) : Int) := by simp
  have hpw : 2 ^ (pos % 8) < 256 := Nat.lt_of_lt_of_le (Nat.pow_lt_pow_right (by omega) hr) (by decide)
  have hpi : (2 : Int) ^ (pos % 8) = ((2 ^ (pos % 8) : Nat) : Int) := by simp
  clear hb hF
  generalize F (pos / 8) = V at *
  generalize hQ : pos / 8 = q at *
  generalize hR : pos % 8 = r at *
  have hxo := u8_xor_nat V (2 ^ r) hx hpw
  generalize V ^^^ 2 ^ r = Z at *
  generalize 2 ^ r = P at *
  have hqi : (q : Int) < (n : Int) := by omega
  clear hQ hR
  go_enter Try.func23, Try.ntmps23
  go_wp2_with fail
  go_end0
  exact ⟨rfl, rfl⟩
end Go.Proofs.Ytjiibjbbbglpeaa
