/-
  THE WALKS OF CheckHashes, CheckGoes.
-/
import Derived.Test.YtcagocfhnfiodaaCPlaces
namespace Go.Proofs.Ytcagocfhnfiodaa
open Go.RowKit Crc

theorem ref_mul (z : Nat) : IntKind.u64.wrap (IntKind.u64.wrap ((z : Int) * 1099511627776) + IntKind.u64.wrap ((z : Int) * 435)) = ((z * 1099511628211 % 18446744073709551616 : Nat) : Int) := by
  simp only [IntKind.wrap_u64]
  omega
set_option maxHeartbeats 1000000 in
theorem refHash_any (a0 : Option Addr) (n c : Nat) (L : Nat → Nat) (w : World) (hL : Nums w .u8 a0 n L) (hb : ∀ j, j < n → L j < 256) (hn : n ≤ 9223372036854775807) : Calls Try.prog 20 #[.slice a0 n c] w fun e w' => e = .returned (.int .u64 ((hashN L n : Nat) : Int)) ∧ w' = w := by
  have HN : Hid (Nums w .u8 a0 n L) := hL
  have HB : Hid (∀ j, j < n → L j < 256) := hb
  clear hL hb
  go_enter Try.func20, Try.ntmps20
  go_wp2_with fail
  go_loopw [3, 4] (fun y i wr => ∃ k : Nat, k ≤ n ∧ i = .int .i64 k ∧ y = .int .u64 ((hashN L k : Nat) : Int) ∧ wr = w) (fun _ i _ => n - (intOf i).toNat)
  case atStart => exact ⟨0, Nat.zero_le _, rfl, rfl, rfl⟩
  case round =>
    obtain ⟨k, hk, rfl, rfl, rfl⟩ := hrel
    by_cases hlt : k < n
    · obtain ⟨gb, o, rfl, _, hc⟩ := HN.out k hlt
      have hki : (k : Int) < (n : Int) := by omega
      have hl := hashN_lt L k
      have HS : Hid (hashN L (k + 1) = (hashN L k ^^^ L k) * 1099511628211 % 18446744073709551616) := rfl
      have hx8 := HB.out k hlt
      generalize hashN L k = x at *
      generalize L k = y at *
      have h1 := u64_xor_nat x y hl (by omega)
      have hz : x ^^^ y < 18446744073709551616 := Nat.xor_lt_two_pow (n := 64) hl (by omega)
      generalize x ^^^ y = z at *
      go_wp2_with fail
      exact ⟨⟨k + 1, by omega, by go_num, by rw [HS.out, ref_mul], by first | trivial | rfl⟩, by simp [intOf]; omega⟩
    · obtain rfl : k = n := by omega
      go_wp2_with fail
      go_ret
      exact ⟨rfl, rfl⟩
set_option maxHeartbeats 1000000 in
theorem walk_checkHashes (w : World) (a0 : Option Addr) (n c : Nat) (L : Nat → Nat) (hA : NumArg w .u8 a0 n c L 256 140737488351232) : Calls Try.prog 6 #[.slice a0 n c] w fun e w' => e = .returned (.bool true) ∧ Below w.heap.size w w' := by
  obtain ⟨hL, hb, _, hnc, hc, ha⟩ := hA
  have HR := hid (refHash_any a0 n c L w hL (fun j _ => hb j) (by omega))
  have HT := hid (twin_any a0 n c L w hL (by omega) ha)
  have HB := hid hb
  generalize hy : hashN L n = y at *
  have HY := hid hy
  have hyy : ((y : Int) == (y : Int)) = true := by simp
  clear hL hb hy
  go_enter Try.func6, Try.ntmps6
  go_wp2_with (first | (go_at_call 20; refine HR.out.mono ?_; rintro e w' ⟨rfl, rfl⟩) | (go_at_call 18; refine HT.out.mono ?_; rintro e w1 ⟨v, rfl, ho, hb1⟩; obtain ⟨a1, c1, rfl, hnc1, hcm, _⟩ := ho.form) | (go_at_call 15; refine (hash_any a1 n c1 L _ ho.nums (fun j _ => HB.out j) (by omega)).mono ?_; rw [HY.out]; rintro e w2 ⟨rfl, rfl⟩) | (go_at_call 16; refine (known_any _).mono ?_; rintro e w3 ⟨rfl, hb3⟩))
  go_ret
  exact ⟨rfl, below_up hb1 hb3⟩
end Go.Proofs.Ytcagocfhnfiodaa
