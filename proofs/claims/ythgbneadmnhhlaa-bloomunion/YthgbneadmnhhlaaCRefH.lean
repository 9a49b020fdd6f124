/-
  THE WALKS OF CheckHashes, CheckGoes.
-/
import Derived.Test.YthgbneadmnhhlaaCPlaces
namespace Go.Proofs.Ythgbneadmnhhlaa
open Go.RowKit Crc

theorem ref_mul (z : Nat) : IntKind.u64.wrap (IntKind.u64.wrap ((z : Int) * 1099511627776) + IntKind.u64.wrap ((z : Int) * 435)) = ((z * 1099511628211 % 18446744073709551616 : Nat) : Int) := by
  simp only [IntKind.wrap_u64]
  omega
set_option maxHeartbeats 1000000 in
theorem refHash_any (a0 : Option Addr) (n c : Nat) (L : Nat → Nat) (w : World) (hL : Nums w .u8 a0 n L) (hb : ∀ j, j < n → L j < 256) (hn : n ≤ 9223372036854775807) : Calls Try.prog 36 #[.slice a0 n c] w fun e w' => e = .returned (.int .u64 ((hashN L n : Nat) : Int)) ∧ w' = w := by
  have HN : Hid (Nums w .u8 a0 n L) := hL
  have HB : Hid (∀ j, j < n → L j < 256) := hb
  clear hL hb
  go_enter Try.func36, Try.ntmps36
  go_wp2_with fail
  go_loopw [3, 4] (fun y i wr => ∃ k : Nat, k ≤ n ∧ i = .int .i64 k ∧ y = .int .u64 ((hashN L k : Nat) : Int) ∧ wr = w) (fun _ i _ => n - (intOf i).toNat)
  case atStart => exact ⟨0, Nat.zero_le _, rfl, rfl, rfl⟩
  case round =>
    obtain ⟨k, hk, rfl, rfl, rfl⟩ := hrel
    by_cases hlt : k < n
    · obtain ⟨gb, o, rfl, _, hc⟩ := HN.out k hlt
      have hki : (k : Int) < (n : Int) := by omega
      have hl := hashN_lt L k
      have HS : Hid (hashN L (k + 1) = (hashN L k ^^^ L k) * 1099511628211 % 18446744073709551616) := rfl
      have hx8 := HB.out k hlt
      generalize hashN L k = x at *
      generalize L k = y at *
      have h1 := u64_xor_nat x y hl (by omega)
      have hz : x ^^^ y < 18446744073709551616 := Nat.xor_lt_two_pow (n := 64) hl (by omega)
      generalize x ^^^ y = z at *
      go_wp2_with fail
      exact ⟨⟨k + 1, by omega, by go_num, by rw [HS.out, ref_mul], by first | trivial | rfl⟩, by simp [intOf]; omega⟩
    · obtain rfl : k = n := by omega
      go_wp2_with fail
      go_ret
      exact ⟨rfl, rfl⟩
end Go.Proofs.Ythgbneadmnhhlaa
