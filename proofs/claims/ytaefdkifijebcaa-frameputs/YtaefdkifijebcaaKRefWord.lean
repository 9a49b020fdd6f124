/-
  The document's own reading: Bit, Lane, Word.
-/
import Derived.Test.YtaefdkifijebcaaKWord
namespace Go.Proofs.Ytaefdkifijebcaa.Pk
open Go.RowKit

def bitV (f : Nat → Bool) (i : Int) : Nat := if bitZ f i = true then 1 else 0
theorem bitV_le (f : Nat → Bool) (i : Int) : bitV f i ≤ 1 := by unfold bitV; split <;> omega
theorem bitZ_nat (f : Nat → Bool) (m : Nat) : bitZ f (m : Int) = f m := by unfold bitZ; simp
theorem bit_and (x r : Nat) (hx : x < 256) : bits BinOp.and IntKind.u64 (IntKind.u64.wrap ((x : Int) / 2 ^ r)) 1 = ((if x.testBit r = true then 1 else 0 : Nat) : Int) := by
  have e1 : (x : Int) / 2 ^ r = ((x / 2 ^ r : Nat) : Int) := by rw [pow_cast]; rfl
  have hl : x / 2 ^ r ≤ x := Nat.div_le_self _ _
  rw [e1, u64_left _ (Int.natCast_nonneg _) (by omega), show (1 : Int) = ((1 : Nat) : Int) from rfl, u64_and_nat _ _ (by omega) (by omega), Nat.and_one_is_mod, Nat.testBit_eq_decide_div_mod_eq]
  have : x / 2 ^ r % 2 = 0 ∨ x / 2 ^ r % 2 = 1 := by omega
  rcases this with h | h <;> simp [h]

set_option maxHeartbeats 1000000 in
set_option maxRecDepth 20000 in
theorem bit_any (a0 : Option Addr) (n c : Nat) (B : Nat → Nat) (i : Int) (w : World) (_ : n ≤ 140737488355328) (hB : ∀ j, B j < 256) (hz : ∀ j, n ≤ j → B j = 0) (hN : Nums w .u8 a0 n B) (hi : i ≤ 9223372036854775807) :
    Calls Try.prog 77 #[.slice a0 n c, .int .i64 i] w fun e w' => e = .returned (.int .u64 (bitV (bitB B) i : Int)) ∧ w' = w := by
  by_cases h0 : i < 0
  · have e : bitV (bitB B) i = 0 := by unfold bitV bitZ; simp [show ¬ 0 ≤ i by omega]
    rw [e]
    have hd : decide (i < 0) = true := by simpa using h0
    clear hN
    go_enter Try.func77, Try.ntmps77
    go_wp2
    go_ret
    exact ⟨rfl, rfl⟩
  · obtain ⟨m, rfl⟩ : ∃ m : Nat, i = (m : Int) := ⟨i.toNat, by omega⟩
    have hd : decide ((m : Int) < 0) = false := by simp
    obtain ⟨q, r, rfl, hr⟩ : ∃ q r, m = 8 * q + r ∧ r < 8 := ⟨m / 8, m % 8, by omega, by omega⟩
    have hq8 : ((8 * q + r : Nat) : Int) / 8 = (q : Int) := by omega
    have hr8 : ((8 * q + r : Nat) : Int) % 8 = (r : Int) := by omega
    have hqw := i64_left (q : Int) (by omega) (by omega)
    have hnn0 : (0 : Int) ≤ ((8 * q + r : Nat) : Int) := by omega
    by_cases h1 : n ≤ q
    · have e : bitV (bitB B) ((8 * q + r : Nat) : Int) = 0 := by
        unfold bitV bitZ bitB
        rw [Int.toNat_natCast, hz _ (by omega)]; simp
      rw [e]
      have hd2 : decide ((n : Int) ≤ (q : Int)) = true := by simp; omega
      clear hN e
      generalize ((8 * q + r : Nat) : Int) = bit at *
      go_enter Try.func77, Try.ntmps77
      go_wp2
      go_ret
      exact ⟨rfl, rfl⟩
    · have e : bitV (bitB B) ((8 * q + r : Nat) : Int) = if (B q).testBit r = true then 1 else 0 := by
        unfold bitV
        rw [bitZ_nat, bitB, show (8 * q + r) / 8 = q by omega, show (8 * q + r) % 8 = r by omega]
      obtain ⟨g, o, rfl, hg, hc⟩ := hN q (by omega)
      have hbq := hB q
      have hd2 : decide ((n : Int) ≤ (q : Int)) = false := by simp; omega
      have HK := bit_and (B q) r hbq
      rw [e]
      clear hN e
      generalize ((8 * q + r : Nat) : Int) = bit at *
      generalize (if (B q).testBit r = true then 1 else 0 : Nat) = z at *
      generalize B q = x at *
      go_enter Try.func77, Try.ntmps77
      go_wp2
      go_ret
      exact ⟨rfl, rfl⟩

theorem bit_step (g : Nat → Bool) (k v : Nat) (hk : k < 64) (hv : v = if g k = true then 1 else 0) :
    bits BinOp.or IntKind.u64 (wordOf g k : Int) (IntKind.u64.wrap ((v : Int) * 2 ^ k)) = (wordOf g (k + 1) : Int) := by
  have h1 : wordOf g k < 18446744073709551616 := Nat.lt_of_lt_of_le (wordOf_lt _ _) (Nat.pow_le_pow_right (n := 2) (by omega) (show k ≤ 64 by omega))
  have h2 : 2 ^ k ≤ 9223372036854775808 := Nat.pow_le_pow_right (n := 2) (by omega) (show k ≤ 63 by omega)
  have h3 : v * 2 ^ k = if g k = true then 2 ^ k else 0 := by rw [hv]; split <;> simp
  have h4 : v * 2 ^ k < 18446744073709551616 := by rw [h3]; split <;> omega
  have e : IntKind.u64.wrap ((v : Int) * 2 ^ k) = ((v * 2 ^ k : Nat) : Int) := by
    rw [pow_cast, ← Int.natCast_mul, u64_left _ (by omega) (by omega)]
  rw [e, u64_or_nat _ _ h1 h4, wordOf, h3]

set_option maxHeartbeats 1000000 in
set_option maxRecDepth 20000 in
theorem lane_any (a0 : Option Addr) (n c : Nat) (B : Nat → Nat) (k i : Nat) (w : World) (hn2 : n ≤ 140737488355328) (hB : ∀ j, B j < 256) (hz : ∀ j, n ≤ j → B j = 0) (hN : Nums w .u8 a0 n B) (hk : k ≤ 64) (hi : i * k ≤ 9223372036854775743) :
    Calls Try.prog 78 #[.slice a0 n c, .int .i64 (k : Int), .int .i64 (i : Int)] w fun e w' => e = .returned (.int .u64 (laneOf (bitB B) k i : Int)) ∧ w' = w := by
  have HC : Hid (∀ (m : Int) wx, m ≤ 9223372036854775807 → wx = w → Calls Try.prog 77 #[.slice a0 n c, .int .i64 m] wx fun e w' => e = .returned (.int .u64 (bitV (bitB B) m : Int)) ∧ w' = wx) := fun m wx h e => by subst e; exact bit_any a0 n c B _ _ hn2 hB hz hN h
  have HS : Hid (∀ (j : Nat), j < 64 → bits BinOp.or IntKind.u64 (wordOf (fun t => bitB B (i * k + t)) j : Int) (IntKind.u64.wrap ((bitV (bitB B) (((i * k : Nat) : Int) + (j : Int)) : Int) * 2 ^ j)) = (wordOf (fun t => bitB B (i * k + t)) (j + 1) : Int)) := fun j hj => by
    refine bit_step _ j _ hj ?_
    unfold bitV
    rw [← Int.natCast_add, bitZ_nat]
  have hp : (i : Int) * (k : Int) = ((i * k : Nat) : Int) := by simp
  unfold laneOf
  generalize hF : wordOf (fun t => bitB B (i * k + t)) = F at *
  have HF0 : Hid (F 0 = 0) := by subst hF; rfl
  clear hF hB hz hN
  generalize i * k = p at *
  go_enter Try.func78, Try.ntmps78
  go_wp2
  go_loop [7, 8] (fun v j => ∃ t : Nat, t ≤ k ∧ j = .int .i64 t ∧ v = .int .u64 (F t : Int)) (fun _ j => k - (intOf j).toNat)
  case atStart => exact ⟨0, Nat.zero_le _, rfl, by rw [HF0.out]; rfl⟩
  case round =>
    obtain ⟨t, ht, rfl, rfl⟩ := hrel
    by_cases hlt : t < k
    · go_wp2_with (go_at_call 77; refine Calls.mono (HC.out ((p : Int) + (t : Int)) _ (by omega) rfl) ?_; rintro e w' ⟨rfl, rfl⟩)
      exact ⟨⟨t + 1, by omega, by go_num, by rw [HS.out t (by omega)]⟩, by simp [intOf]; omega⟩
    · obtain rfl : t = k := by omega
      go_wp2
      go_ret
      exact ⟨rfl, rfl⟩

end Go.Proofs.Ytaefdkifijebcaa.Pk
