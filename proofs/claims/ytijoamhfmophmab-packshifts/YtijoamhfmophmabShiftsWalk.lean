/-
  PackShifts.
-/
import Derived.Test.YtijoamhfmophmabAwake
namespace Go.Proofs.Ytijoamhfmophmab
open Go.RowKit

theorem shift_key {f : Nat → Bool} {bit : Int} {k : Nat} (h0 : 0 < k) (hk : k < 64) : wordZ f bit / 2 ^ k ||| wordZ f (bit + 64) * 2 ^ (64 - k) % 18446744073709551616 = wordZ f (bit + (k : Int)) := by
  unfold wordZ
  refine wordOf_ext (Nat.or_lt_two_pow (Nat.lt_of_le_of_lt (Nat.div_le_self _ _) (wordOf_lt _ _)) (Nat.mod_lt _ (by omega))) fun t ht => ?_
  rw [Nat.testBit_or, shr_bit, wordOf_bit, show (18446744073709551616 : Nat) = 2 ^ 64 from rfl, mod_bit, shl_bit, wordOf_bit]
  by_cases h : t + k < 64
  · simp [h, show ¬ 64 - k ≤ t by omega]
    rw [show bit + ((t : Int) + (k : Int)) = bit + (k : Int) + (t : Int) by omega]
  · simp [h, ht, show 64 - k ≤ t by omega, show t - (64 - k) < 64 by omega]
    rw [show bit + 64 + ((t - (64 - k) : Nat) : Int) = bit + (k : Int) + (t : Int) by omega]

set_option maxHeartbeats 800000 in
set_option maxRecDepth 20000 in
theorem walk_packShifts (w : World) (a0 : Option Addr) (n c : Nat) (B : Nat → Nat) (bit by0 : Int) (hA : NumArg w .u8 a0 n c B 256 (140737488351232 / 1)) (hb1 : -9223372036854775808 ≤ bit ∧ bit ≤ 9223372036854775807) (hy : 0 ≤ by0 ∧ by0 < ((256 : Nat) : Int)) :
    Calls Try.prog 5 #[.slice a0 n c, .int .i64 bit, .int .u8 by0] w fun e w' => e = .returned (.bool true) ∧ Below w.heap.size w w' := by
  obtain ⟨hN, h256, hz, hnc, hcr, ha⟩ := hA
  have hn : n ≤ 140737488351232 := by omega
  have hc : c ≤ 140737488351232 := by omega
  obtain ⟨y, rfl⟩ : ∃ y : Nat, by0 = (y : Int) := ⟨by0.toNat, by omega⟩
  have hy256 : y < 256 := by omega
  obtain ⟨k, hk⟩ : ∃ k, y % 64 = k := ⟨_, rfl⟩
  have hk64 : k < 64 := by omega
  have hyk : (y : Int) % 64 = (k : Int) := by omega
  have HWD : Hid (∀ (b : Int) wx, b ≤ 9223372036854775807 → Below w.heap.size w wx → Calls Try.prog 12 #[.slice a0 n c, .int .i64 b] wx fun e w' => e = .returned (.int .u64 (wordZ (bitB B) b : Int)) ∧ ∃ j, w' = wx.drewN j) := fun b wx h hb => word_any a0 n c B b wx (by omega) hnc (by omega) h256 hz (hN.later hb) h
  have HZ : Hid (∀ b : Int, (b ≤ -64 ∨ 8 * (n : Int) ≤ b) → wordZ (bitB B) b = 0) := fun b h => word_out hz h
  clear hN h256 hz ha hk hy hcr hnc
  go_enter Try.func5, Try.ntmps5
  go_wp2_with fail
  refine (awake_yes _).mono ?_
  rintro e w1 ⟨rfl, hB1⟩
  have H1 : Hid (∀ wx : World, wx.heap = w1.heap → wx.os = w1.os → True) := fun _ _ _ => trivial
  clear H1
  by_cases hfar : 1152921504606846976 < bit ∨ bit < -1152921504606846976
  · have HX : Hid (∀ wx, wx = w1 → Calls Try.prog 12 #[.slice a0 n c, .int .i64 bit] wx fun e w' => e = .returned (.int .u64 0) ∧ ∃ j, w' = wx.drewN j) := fun wx e => by
      subst e
      have := HWD.out bit wx hb1.2 hB1
      rw [HZ.out bit (by omega), Int.natCast_zero] at this
      exact this
    rcases hfar with hfar | hfar
    · have hd : decide ((1152921504606846976 : Int) < bit) = true := by simpa using hfar
      go_wp2_with (go_at_call 12; refine Calls.mono (HX.out _ rfl) ?_; rintro e w' ⟨rfl, j, rfl⟩)
      go_ret
      exact ⟨rfl, below_drewN hB1 j⟩
    · have hd : decide ((1152921504606846976 : Int) < bit) = false := by simp; omega
      have hd2 : decide (bit < -1152921504606846976) = true := by simpa using hfar
      go_wp2_with (go_at_call 12; refine Calls.mono (HX.out _ rfl) ?_; rintro e w' ⟨rfl, j, rfl⟩)
      go_ret
      exact ⟨rfl, below_drewN hB1 j⟩
  · have hd : decide ((1152921504606846976 : Int) < bit) = false := by simp; omega
    have hd2 : decide (bit < -1152921504606846976) = false := by simp; omega
    have hba : bit ≤ 1152921504606846976 := by omega
    have hbb : -1152921504606846976 ≤ bit := by omega
    have HX : Hid (∀ (b : Int) (z : Nat) wx, b ≤ 9223372036854775807 → wordZ (bitB B) b = z → wx.heap = w1.heap → wx.os = w1.os → wx.tape = w1.tape → wx.output = w1.output → Calls Try.prog 12 #[.slice a0 n c, .int .i64 b] wx fun e w' => e = .returned (.int .u64 (z : Int)) ∧ ∃ j, w' = wx.drewN j) := fun b z wx h hz h1 h2 h3 h4 => by
      subst hz
      exact HWD.out b wx h ⟨h2.trans hB1.os, h3.trans hB1.tape, h4.trans hB1.output, by rw [h1]; exact hB1.size, fun i hi => by rw [h1]; exact hB1.block i hi⟩
    obtain ⟨x, hx⟩ : ∃ x, wordZ (bitB B) bit = x := ⟨_, rfl⟩
    obtain ⟨z, hz⟩ : ∃ z, wordZ (bitB B) (bit + 64) = z := ⟨_, rfl⟩
    obtain ⟨v, hv⟩ : ∃ v, wordZ (bitB B) (bit + (k : Int)) = v := ⟨_, rfl⟩
    have hz1 := HZ.out (8 * (n : Int)) (.inr (by omega))
    have hz2 := HZ.out (-64) (.inl (by omega))
    have HXX : Hid (wordZ (bitB B) bit = x) := hx
    have HXZ : Hid (wordZ (bitB B) (bit + 64) = z) := hz
    have HXV : Hid (wordZ (bitB B) (bit + (k : Int)) = v) := hv
    have HZ1 : Hid (wordZ (bitB B) (8 * (n : Int)) = 0) := hz1
    have HZ2 : Hid (wordZ (bitB B) (-64) = 0) := hz2
    have hx64 : x < 2 ^ 64 := by rw [← hx]; exact wordZ_lt _ _
    by_cases hk0 : 0 < k
    · have hkey := shift_key (f := bitB B) (bit := bit) hk0 hk64
      rw [hx, hz, hv] at hkey
      have hso := shl_or x z k (64 - k) hx64
      rw [hkey] at hso
      clear hkey hx hz hv hz1 hz2 HWD HZ hfar hb1
      go_wp2_with fail
      refine Calls.mono (HX.out bit x _ (by omega) HXX.out (by rfl) (by rfl) (by rfl) (by rfl)) ?_
      rintro e w' ⟨rfl, j1, rfl⟩
      go_wp2_with fail
      refine Calls.mono (HX.out (bit + (k : Int)) v _ (by omega) HXV.out (by rfl) (by rfl) (by rfl) (by rfl)) ?_
      rintro e w' ⟨rfl, j2, rfl⟩
      go_wp2_with fail
      refine Calls.mono (HX.out (bit + 64) z _ (by omega) HXZ.out (by rfl) (by rfl) (by rfl) (by rfl)) ?_
      rintro e w' ⟨rfl, j3, rfl⟩
      go_wp2_with fail
      refine Calls.mono (HX.out (8 * (n : Int)) 0 _ (by omega) HZ1.out (by rfl) (by rfl) (by rfl) (by rfl)) ?_
      rintro e w' ⟨rfl, j4, rfl⟩
      go_wp2_with fail
      refine Calls.mono (HX.out (-64) 0 _ (by omega) HZ2.out (by rfl) (by rfl) (by rfl) (by rfl)) ?_
      rintro e w' ⟨rfl, j5, rfl⟩
      go_wp2
      go_ret
      exact ⟨ret_bool (by decide), below_drewN hB1 _⟩
    · obtain rfl : v = x := by rw [← hv, ← hx, show bit + (k : Int) = bit by omega]
      have hxk : (v : Int) / 2 ^ k = (v : Int) := by rw [show k = 0 by omega]; simp
      clear hx hz hv hz1 hz2 HWD HZ hfar hb1
      go_wp2_with fail
      refine Calls.mono (HX.out bit v _ (by omega) HXX.out (by rfl) (by rfl) (by rfl) (by rfl)) ?_
      rintro e w' ⟨rfl, j1, rfl⟩
      go_wp2_with fail
      refine Calls.mono (HX.out (bit + (k : Int)) v _ (by omega) HXV.out (by rfl) (by rfl) (by rfl) (by rfl)) ?_
      rintro e w' ⟨rfl, j2, rfl⟩
      go_wp2_with fail
      refine Calls.mono (HX.out (bit + 64) z _ (by omega) HXZ.out (by rfl) (by rfl) (by rfl) (by rfl)) ?_
      rintro e w' ⟨rfl, j3, rfl⟩
      go_wp2_with fail
      refine Calls.mono (HX.out (8 * (n : Int)) 0 _ (by omega) HZ1.out (by rfl) (by rfl) (by rfl) (by rfl)) ?_
      rintro e w' ⟨rfl, j4, rfl⟩
      go_wp2_with fail
      refine Calls.mono (HX.out (-64) 0 _ (by omega) HZ2.out (by rfl) (by rfl) (by rfl) (by rfl)) ?_
      rintro e w' ⟨rfl, j5, rfl⟩
      go_wp2
      go_ret
      exact ⟨ret_bool (by decide), below_drewN hB1 _⟩
end Go.Proofs.Ytijoamhfmophmab
