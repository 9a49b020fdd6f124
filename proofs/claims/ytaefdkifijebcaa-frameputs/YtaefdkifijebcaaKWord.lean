/-
  Word.
-/
import Derived.Test.YtaefdkifijebcaaKEight
namespace Go.Proofs.Ytaefdkifijebcaa.Pk
open Go.RowKit

theorem word_low {f : Nat → Bool} {s : Nat} (h1 : s ≤ 64) : wordOf f 64 * 2 ^ s % 18446744073709551616 = wordZ f (-(s : Int)) := by
  refine wordOf_ext (Nat.mod_lt _ (by omega)) fun k hk => ?_
  rw [show (18446744073709551616 : Nat) = 2 ^ 64 from rfl, mod_bit, shl_bit, wordOf_bit]
  unfold bitZ
  by_cases h : s ≤ k
  · rw [show (-(s : Int) + (k : Int)).toNat = k - s by omega]
    simp [hk, h, show k - s < 64 by omega]
    intro; omega
  · simp [h]
    intro; omega
theorem word_high {B : Nat → Nat} {a s : Nat} (hs : s < 8) :
    wordOf (bitB fun j => B (a + j)) 64 / 2 ^ s ||| B (a + 8) * 2 ^ (64 - s) % 18446744073709551616 = wordZ (bitB B) ((8 * a + s : Nat) : Int) := by
  rw [wordZ_nat]
  refine wordOf_ext (Nat.or_lt_two_pow (Nat.lt_of_le_of_lt (Nat.div_le_self _ _) (wordOf_lt _ _)) (Nat.mod_lt _ (by omega))) fun k hk => ?_
  rw [Nat.testBit_or, shr_bit, wordOf_bit, show (18446744073709551616 : Nat) = 2 ^ 64 from rfl, mod_bit, shl_bit]
  unfold bitB
  by_cases h : k + s < 64
  · have e1 : a + (k + s) / 8 = (8 * a + s + k) / 8 := by omega
    have e2 : (k + s) % 8 = (8 * a + s + k) % 8 := by omega
    simp [e1, e2, h, show ¬ 64 - s ≤ k by omega]
  · have e1 : (8 * a + s + k) / 8 = a + 8 := by omega
    have e2 : (8 * a + s + k) % 8 = k - (64 - s) := by omega
    simp [e1, e2, h, hk, show 64 - s ≤ k by omega]
theorem word_end {B : Nat → Nat} {n a s : Nat} (hz : ∀ j, n ≤ j → B j = 0) (hs : s < 8) (h8 : n ≤ a + 8) :
    wordOf (bitB fun j => B (a + j)) 64 / 2 ^ s = wordZ (bitB B) ((8 * a + s : Nat) : Int) := by
  have := word_high (B := B) (a := a) hs
  rw [hz (a + 8) h8] at this
  simpa using this
theorem word_out {B : Nat → Nat} {n : Nat} {bit : Int} (hz : ∀ j, n ≤ j → B j = 0) (h : bit ≤ -64 ∨ 8 * (n : Int) ≤ bit) : wordZ (bitB B) bit = 0 := by
  refine wordZ_none fun k hk => ?_
  unfold bitZ bitB
  rcases h with h | h
  · simp [show ¬ 0 ≤ bit + (k : Int) by omega]
  · rw [hz _ (by omega)]; simp

theorem shl_or (x y s t : Nat) (hx : x < 2 ^ 64) : bits BinOp.or IntKind.u64 ((x : Int) / 2 ^ s) (IntKind.u64.wrap ((y : Int) * 2 ^ t)) = ((x / 2 ^ s ||| y * 2 ^ t % 18446744073709551616 : Nat) : Int) := by
  have e1 : (x : Int) / 2 ^ s = ((x / 2 ^ s : Nat) : Int) := by rw [pow_cast]; rfl
  have e2 : IntKind.u64.wrap ((y : Int) * 2 ^ t) = ((y * 2 ^ t % 18446744073709551616 : Nat) : Int) := by rw [IntKind.wrap_u64, pow_cast]; rfl
  rw [e1, e2, u64_or_nat _ _ (Nat.lt_of_le_of_lt (Nat.div_le_self _ _) hx) (Nat.mod_lt _ (by omega))]

set_option maxHeartbeats 1000000 in
set_option maxRecDepth 20000 in
theorem word_far (a0 : Option Addr) (n c : Nat) (B : Nat → Nat) (bit : Int) (w : World) (hn2 : n ≤ 140737488355328) (hz : ∀ j, n ≤ j → B j = 0) (hb : bit ≤ -64 ∨ 8 * (n : Int) ≤ bit) (hbm : bit ≤ 9223372036854775807) :
    Calls Try.prog 49 #[.slice a0 n c, .int .i64 bit] w fun e w' => e = .returned (.int .u64 (wordZ (bitB B) bit : Int)) ∧ w' = w := by
  rw [word_out hz hb]
  rcases hb with hb | hb
  · have hd : decide (bit ≤ -64) = true := by simpa using hb
    go_enter Try.func49, Try.ntmps49
    go_wp2
    go_ret
    exact ⟨rfl, rfl⟩
  · obtain ⟨m, rfl⟩ : ∃ m : Nat, bit = (m : Int) := ⟨bit.toNat, by omega⟩
    have hd : decide ((m : Int) ≤ -64) = false := by simp; omega
    have hd2 : decide ((m : Int) < 0) = false := by simp
    have hd3 : decide ((n : Int) ≤ (m : Int) / 8) = true := by simp; omega
    go_enter Try.func49, Try.ntmps49
    go_wp2
    go_ret
    exact ⟨rfl, rfl⟩
set_option maxHeartbeats 1000000 in
set_option maxRecDepth 20000 in
theorem word_neg (a0 : Option Addr) (n c : Nat) (B : Nat → Nat) (bit : Int) (w : World) (hn2 : n ≤ 140737488355328) (hB : ∀ j, B j < 256) (hz : ∀ j, n ≤ j → B j = 0) (hN : Nums w .u8 a0 n B) (hb : -64 < bit) (hb2 : bit < 0) :
    Calls Try.prog 49 #[.slice a0 n c, .int .i64 bit] w fun e w' => e = .returned (.int .u64 (wordZ (bitB B) bit : Int)) ∧ ∃ j, w' = w.drewN j := by
  obtain ⟨s, rfl⟩ : ∃ s : Nat, bit = -(s : Int) := ⟨(-bit).toNat, by omega⟩
  have hd : decide (-(s : Int) ≤ -64) = false := by simp; omega
  have hd2 : decide (-(s : Int) < 0) = true := by simp; omega
  have hk := word_low (f := bitB B) (s := s) (by omega)
  have HK : Hid (wordOf (bitB B) 64 * 2 ^ s % 18446744073709551616 = wordZ (bitB B) (-(s : Int))) := hk
  have HC : Hid (∀ wx, wx = w → Calls Try.prog 80 #[.slice a0 n c] wx fun e w' => e = .returned (.int .u64 (wordOf (bitB B) 64 : Int)) ∧ ∃ j, w' = wx.drewN j) := fun wx e => by subst e; exact eight_any a0 n c B _ hn2 hB hz hN
  clear hk hB hz hN
  go_enter Try.func49, Try.ntmps49
  go_wp2_with (go_at_call 80; refine Calls.mono (HC.out _ rfl) ?_; rintro e w' ⟨rfl, j, rfl⟩)
  go_ret
  refine ⟨ret_int ?_, j, rfl⟩
  rw [← HK.out, IntKind.wrap_u64, pow_cast]
  rfl
set_option maxHeartbeats 1000000 in
set_option maxRecDepth 20000 in
theorem word_in (a0 : Option Addr) (n c m : Nat) (B : Nat → Nat) (w : World) (hn2 : n ≤ 140737488355328) (hc : n ≤ c) (hc2 : c ≤ 9223372036854775807) (hB : ∀ j, B j < 256) (hz : ∀ j, n ≤ j → B j = 0) (hN : Nums w .u8 a0 n B) (hb : m < 8 * n) :
    Calls Try.prog 49 #[.slice a0 n c, .int .i64 (m : Int)] w fun e w' => e = .returned (.int .u64 (wordZ (bitB B) m : Int)) ∧ ∃ j, w' = w.drewN j := by
  obtain ⟨a, s, rfl, hs⟩ : ∃ a s, m = 8 * a + s ∧ s < 8 := ⟨m / 8, m % 8, by omega, by omega⟩
  obtain ⟨g, o, rfl, hg, _⟩ := hN 0 (by omega)
  have ha : a < n := by omega
  have hcell : ∀ j, j < n → w.cell? ⟨g, o + j, none⟩ = some (.int .u8 (B j : Int)) := fun j hj => by
    obtain ⟨g', o', e, _, h2⟩ := hN j hj
    cases e; exact h2
  have hN2 : Nums w .u8 (some ⟨g, o + a, none⟩) (n - a) (fun j => B (a + j)) := fun j hj => ⟨g, o + a, rfl, hg, by rw [Nat.add_assoc]; exact hcell _ (by omega)⟩
  have HC : Hid (∀ wx cx, wx = w → Calls Try.prog 80 #[.slice (some ⟨g, o + a, none⟩) (n - a) cx] wx fun e w' => e = .returned (.int .u64 (wordOf (bitB fun j => B (a + j)) 64 : Int)) ∧ ∃ j, w' = wx.drewN j) :=
    fun wx cx e => by subst e; exact eight_any _ _ _ _ _ (by omega) (fun j => hB _) (fun j hj => hz _ (by omega)) hN2
  have hd : decide (((8 * a + s : Nat) : Int) ≤ -64) = false := by simp; omega
  have hd2 : decide (((8 * a + s : Nat) : Int) < 0) = false := by simp; omega
  have hq : ((8 * a + s : Nat) : Int) / 8 = (a : Int) := by omega
  have hr : ((8 * a + s : Nat) : Int) % 8 = (s : Int) := by omega
  have hd3 : decide ((n : Int) ≤ (a : Int)) = false := by simp; omega
  have haw := i64_left (a : Int) (by omega) (by omega)
  have hw8 : a + 8 < n → w.cell? ⟨g, o + a + 8, none⟩ = some (.int .u8 (B (a + 8) : Int)) := fun h => by rw [Nat.add_assoc]; exact hcell (a + 8) h
  have HH : Hid (wordOf (bitB fun j => B (a + j)) 64 / 2 ^ s ||| B (a + 8) * 2 ^ (64 - s) % 18446744073709551616 = wordZ (bitB B) ((8 * a + s : Nat) : Int)) := word_high hs
  have HE : Hid (n ≤ a + 8 → wordOf (bitB fun j => B (a + j)) 64 / 2 ^ s = wordZ (bitB B) ((8 * a + s : Nat) : Int)) := word_end hz hs
  have hx := wordOf_lt (bitB fun j => B (a + j)) 64
  have hb8 := hB (a + 8)
  have hs0 := i64_left (s : Int) (by omega) (by omega)
  have hnn : ((8 * a + s : Nat) : Int) ≤ 9223372036854775807 := by omega
  have hnn0 : (0 : Int) ≤ ((8 * a + s : Nat) : Int) := by omega
  clear hcell hN hN2 hB hz
  generalize wordZ (bitB B) ((8 * a + s : Nat) : Int) = z at *
  generalize wordOf (bitB fun j => B (a + j)) 64 = x at *
  generalize hbm : ((8 * a + s : Nat) : Int) = bit at *
  clear hbm
  by_cases h8 : a + 8 < n
  · have hc8 := hw8 h8
    have hd8 : decide ((8 : Int) < ((n - a : Nat) : Int)) = true := by simp; omega
    clear hw8
    go_enter Try.func49, Try.ntmps49
    go_wp2_with (go_at_call 80; refine Calls.mono (HC.out _ _ rfl) ?_; rintro e w' ⟨rfl, j, rfl⟩)
    go_ret
    refine ⟨ret_int ?_, j, rfl⟩
    rw [shl_or x (B (a + 8)) s (64 - s) hx, HH.out]
  · have hd8 : decide ((8 : Int) < ((n - a : Nat) : Int)) = false := by simp; omega
    clear hw8
    go_enter Try.func49, Try.ntmps49
    go_wp2_with (go_at_call 80; refine Calls.mono (HC.out _ _ rfl) ?_; rintro e w' ⟨rfl, j, rfl⟩)
    go_ret
    refine ⟨ret_int ?_, j, rfl⟩
    rw [← HE.out (by omega), pow_cast]
    rfl

/-- Word, whatever bit. -/
theorem word_any (a0 : Option Addr) (n c : Nat) (B : Nat → Nat) (bit : Int) (w : World) (hn2 : n ≤ 140737488355328) (hc : n ≤ c) (hc2 : c ≤ 9223372036854775807) (hB : ∀ j, B j < 256) (hz : ∀ j, n ≤ j → B j = 0) (hN : Nums w .u8 a0 n B) (hbm : bit ≤ 9223372036854775807) :
    Calls Try.prog 49 #[.slice a0 n c, .int .i64 bit] w fun e w' => e = .returned (.int .u64 (wordZ (bitB B) bit : Int)) ∧ ∃ j, w' = w.drewN j := by
  by_cases h1 : bit ≤ -64 ∨ 8 * (n : Int) ≤ bit
  · exact (word_far a0 n c B bit w hn2 hz h1 hbm).mono fun e w' ⟨h1, h2⟩ => ⟨h1, 0, h2⟩
  · by_cases h2 : bit < 0
    · exact word_neg a0 n c B bit w hn2 hB hz hN (by omega) h2
    · obtain ⟨m, rfl⟩ : ∃ m : Nat, bit = (m : Int) := ⟨bit.toNat, by omega⟩
      exact word_in a0 n c m B w hn2 hc hc2 hB hz hN (by omega)

/-! ### lowest, and a lane by a word -/
theorem mask_wrap (k : Nat) (hk : k ≤ 64) : IntKind.u64.wrap (IntKind.u64.wrap ((2 : Int) ^ k) - 1) = ((2 ^ k - 1 : Nat) : Int) := by
  have h3 := Nat.two_pow_pos k
  have h2 : 2 ^ k ≤ 18446744073709551616 := Nat.pow_le_pow_right (n := 2) (by omega) (show k ≤ 64 from hk)
  rw [pow_cast]
  generalize 2 ^ k = p at *
  rw [IntKind.wrap_u64, IntKind.wrap_u64]
  omega
set_option maxHeartbeats 400000 in
theorem lowest_any (k : Nat) (w : World) (hk : k ≤ 64) : Calls Try.prog 82 #[.int .i64 (k : Int)] w fun e w' => e = .returned (.int .u64 ((2 ^ k - 1 : Nat) : Int)) ∧ w' = w := by
  go_enter Try.func82, Try.ntmps82
  go_wp2
  go_ret
  exact ⟨ret_int (mask_wrap k hk), rfl⟩
theorem lane_word {f : Nat → Bool} {w i : Nat} (hw : w ≤ 64) : wordZ f ((i * w : Nat) : Int) &&& (2 ^ w - 1) = laneOf f w i := by
  rw [wordZ_nat]
  refine wordOf_ext ?_ fun k hk => ?_
  · exact Nat.lt_of_le_of_lt Nat.and_le_right (by have := Nat.two_pow_pos w; omega)
  · rw [Nat.testBit_and, wordOf_bit, Nat.testBit_two_pow_sub_one]
    simp [hk, show k < 64 by omega]
theorem pow_sub_lt (k : Nat) (hk : k ≤ 64) : 2 ^ k - 1 < 18446744073709551616 := by
  have h2 : 2 ^ k ≤ 18446744073709551616 := Nat.pow_le_pow_right (n := 2) (by omega) (show k ≤ 64 from hk)
  have h3 := Nat.two_pow_pos k
  omega
theorem lane_int {f : Nat → Bool} {w i : Nat} (hw : w ≤ 64) : bits BinOp.and IntKind.u64 (wordZ f ((i * w : Nat) : Int) : Int) ((2 ^ w - 1 : Nat) : Int) = (laneOf f w i : Int) := by
  rw [u64_and_nat _ _ (wordZ_lt _ _) (pow_sub_lt w hw), lane_word hw]
end Go.Proofs.Ytaefdkifijebcaa.Pk
