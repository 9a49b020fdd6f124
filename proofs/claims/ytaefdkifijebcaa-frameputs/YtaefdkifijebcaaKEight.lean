/-
  eight: the first eight bytes as a word.
-/
import Derived.Test.YtaefdkifijebcaaKArgs
import Derived.Below
import Derived.Deep.DrawnRows
namespace Go.Proofs.Ytaefdkifijebcaa.Pk
open Go.RowKit

theorem acc_step {B : Nat → Nat} (hB : ∀ j, B j < 256) (k : Nat) : wordOf (bitB B) (8 * k) ||| B k * 2 ^ (8 * k) = wordOf (bitB B) (8 * (k + 1)) := by
  have hb : B k * 2 ^ (8 * k) < 2 ^ (8 * (k + 1)) := by
    rw [show 8 * (k + 1) = 8 + 8 * k by omega, Nat.pow_add]
    exact Nat.mul_lt_mul_of_pos_right (hB k) (Nat.two_pow_pos _)
  refine wordOf_ext (Nat.or_lt_two_pow (Nat.lt_trans (wordOf_lt _ _) (Nat.pow_lt_pow_right (by omega) (by omega))) hb) fun i hi => ?_
  rw [Nat.testBit_or, wordOf_bit, shl_bit]
  by_cases h : i < 8 * k
  · simp [h, show ¬ 8 * k ≤ i by omega]
  · have e1 : i / 8 = k := by omega
    have e2 : i % 8 = i - 8 * k := by omega
    simp [h, show 8 * k ≤ i by omega, bitB, e1, e2]
theorem acc_int {B : Nat → Nat} (hB : ∀ j, B j < 256) (k : Nat) (hk : k < 8) (z : Int) (hz : z = ((2 ^ (8 * k) : Nat) : Int)) :
    bits BinOp.or IntKind.u64 (wordOf (bitB B) (8 * k) : Int) ((B k : Int) * z) = (wordOf (bitB B) (8 * (k + 1)) : Int) := by
  have h1 : wordOf (bitB B) (8 * k) < 18446744073709551616 := Nat.lt_of_lt_of_le (wordOf_lt _ _) (Nat.pow_le_pow_right (n := 2) (by omega) (show 8 * k ≤ 64 by omega))
  have h2 : B k * 2 ^ (8 * k) < 18446744073709551616 := by
    have hb : B k * 2 ^ (8 * k) < 2 ^ (8 * (k + 1)) := by
      rw [show 8 * (k + 1) = 8 + 8 * k by omega, Nat.pow_add]
      exact Nat.mul_lt_mul_of_pos_right (hB k) (Nat.two_pow_pos _)
    exact Nat.lt_of_lt_of_le hb (Nat.pow_le_pow_right (n := 2) (by omega) (show 8 * (k + 1) ≤ 64 by omega))
  rw [hz, ← Int.natCast_mul, u64_or_nat _ _ h1 h2, acc_step hB]
theorem acc_one {B : Nat → Nat} (hB : ∀ j, B j < 256) : (B 0 : Int) = (wordOf (bitB B) (8 * 1) : Int) := by
  have h := acc_step hB 0
  have e : wordOf (bitB B) (8 * 0) ||| B 0 * 2 ^ (8 * 0) = B 0 := by rw [show wordOf (bitB B) (8 * 0) = 0 from rfl]; simp
  rw [e] at h
  exact congrArg (fun x : Nat => (x : Int)) h
theorem acc_wrap {B : Nat → Nat} (hB : ∀ j, B j < 256) (k : Nat) (hk : k < 8) :
    bits BinOp.or IntKind.u64 (wordOf (bitB B) (8 * k) : Int) (IntKind.u64.wrap ((B k : Int) * 2 ^ (8 * k))) = (wordOf (bitB B) (8 * (k + 1)) : Int) := by
  have hb : B k * 2 ^ (8 * k) < 18446744073709551616 := by
    have hb : B k * 2 ^ (8 * k) < 2 ^ (8 * (k + 1)) := by
      rw [show 8 * (k + 1) = 8 + 8 * k by omega, Nat.pow_add]
      exact Nat.mul_lt_mul_of_pos_right (hB k) (Nat.two_pow_pos _)
    exact Nat.lt_of_lt_of_le hb (Nat.pow_le_pow_right (n := 2) (by omega) (show 8 * (k + 1) ≤ 64 by omega))
  have e : IntKind.u64.wrap ((B k : Int) * 2 ^ (8 * k)) = (B k : Int) * ((2 ^ (8 * k) : Nat) : Int) := by
    rw [pow_cast, u64_left _ (by rw [← Int.natCast_mul]; omega) (by rw [← Int.natCast_mul]; omega)]
  rw [e, acc_int hB k hk _ rfl]
theorem acc_all {B : Nat → Nat} {n : Nat} (hz : ∀ j, n ≤ j → B j = 0) (hn : n ≤ 8) : wordOf (bitB B) (8 * n) = wordOf (bitB B) 64 := by
  refine wordOf_ext (Nat.lt_of_lt_of_le (wordOf_lt _ _) (Nat.pow_le_pow_right (by omega) (by omega))) fun k _ => ?_
  rw [wordOf_bit]
  by_cases h : k < 8 * n
  · simp [h]
  · simp [h, bitB, hz (k / 8) (by omega)]

set_option maxHeartbeats 4000000 in
set_option maxRecDepth 20000 in
theorem eight_long (g o n c : Nat) (B : Nat → Nat) (w : World) (hn : 8 ≤ n) (hn2 : n ≤ 140737488355328) (hB : ∀ j, B j < 256) (hN : ∀ j, j < n → w.cell? ⟨g, o + j, none⟩ = some (.int .u8 (B j : Int))) :
    Calls Try.prog 80 #[.slice (some ⟨g, o, none⟩) n c] w fun e w' => e = .returned (.int .u64 (wordOf (bitB B) 64 : Int)) ∧ ∃ j, w' = w.drewN j := by
  have h0 := hN 0 (by omega)
  have h1 := hN 1 (by omega)
  have h2 := hN 2 (by omega)
  have h3 := hN 3 (by omega)
  have h4 := hN 4 (by omega)
  have h5 := hN 5 (by omega)
  have h6 := hN 6 (by omega)
  have h7 := hN 7 (by omega)
  have b0 := hB 0
  have b1 := hB 1
  have b2 := hB 2
  have b3 := hB 3
  have b4 := hB 4
  have b5 := hB 5
  have b6 := hB 6
  have b7 := hB 7
  have hd : decide ((8 : Int) ≤ (n : Int)) = true := by simp; omega
  simp only [Nat.add_zero] at h0
  have HB : Hid (∀ j, B j < 256) := hB
  clear hN hB
  go_enter Try.func80, Try.ntmps80
  go_wp2
  go_quiet (fail)
  go_wp2
  go_ret
  refine ⟨ret_int ?_, _, rfl⟩
  have hB := HB.out
  rw [acc_one hB, acc_int hB 1 (by omega) 256 rfl, acc_int hB 2 (by omega) 65536 rfl, acc_int hB 3 (by omega) 16777216 rfl, acc_int hB 4 (by omega) 4294967296 rfl, acc_int hB 5 (by omega) 1099511627776 rfl, acc_int hB 6 (by omega) 281474976710656 rfl, acc_int hB 7 (by omega) 72057594037927936 rfl]

set_option maxHeartbeats 1000000 in
set_option maxRecDepth 20000 in
theorem eight_short (a0 : Option Addr) (n c : Nat) (B : Nat → Nat) (w : World) (hn : n < 8) (hB : ∀ j, B j < 256) (hz : ∀ j, n ≤ j → B j = 0) (hN : Nums w .u8 a0 n B) :
    Calls Try.prog 80 #[.slice a0 n c] w fun e w' => e = .returned (.int .u64 (wordOf (bitB B) 64 : Int)) ∧ w' = w := by
  have hd : decide ((8 : Int) ≤ (n : Int)) = false := by simp; omega
  have HB : Hid (∀ j, B j < 256) := hB
  have HZ : Hid (∀ j, n ≤ j → B j = 0) := hz
  have HN : Hid (Nums w .u8 a0 n B) := hN
  clear hB hz hN
  go_enter Try.func80, Try.ntmps80
  go_wp2
  go_loop [3, 57] (fun x i => ∃ k : Nat, k ≤ n ∧ i = .int .i64 k ∧ x = .int .u64 (wordOf (bitB B) (8 * k) : Int)) (fun _ i => n - (intOf i).toNat)
  case atStart => exact ⟨0, Nat.zero_le _, rfl, rfl⟩
  case round =>
    obtain ⟨k, hk, rfl, rfl⟩ := hrel
    by_cases hlt : k < n
    · obtain ⟨g, o, rfl, hg, hc⟩ := HN.out k hlt
      have hbk := HB.out k
      go_wp2
      exact ⟨⟨k + 1, by omega, by go_num, by rw [acc_wrap HB.out k (by omega)]⟩, by simp [intOf]; omega⟩
    · obtain rfl : k = n := by omega
      go_wp2
      go_ret
      exact ⟨ret_int (by rw [acc_all HZ.out (by omega)]), rfl⟩

theorem eight_any (a0 : Option Addr) (n c : Nat) (B : Nat → Nat) (w : World) (hn2 : n ≤ 140737488355328) (hB : ∀ j, B j < 256) (hz : ∀ j, n ≤ j → B j = 0) (hN : Nums w .u8 a0 n B) :
    Calls Try.prog 80 #[.slice a0 n c] w fun e w' => e = .returned (.int .u64 (wordOf (bitB B) 64 : Int)) ∧ ∃ j, w' = w.drewN j := by
  by_cases h : n < 8
  · exact (eight_short a0 n c B w h hB hz hN).mono fun e w' ⟨h1, h2⟩ => ⟨h1, 0, h2⟩
  · obtain ⟨g, o, rfl, _, _⟩ := hN 0 (by omega)
    exact eight_long g o n c B w (by omega) hn2 hB fun j hj => by
      obtain ⟨g', o', e, _, h2⟩ := hN j hj
      cases e; exact h2
end Go.Proofs.Ytaefdkifijebcaa.Pk
