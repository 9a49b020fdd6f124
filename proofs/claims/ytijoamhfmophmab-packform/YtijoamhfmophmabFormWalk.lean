/-
  PackForm.
-/
import Derived.Test.YtijoamhfmophmabBackMath
namespace Go.Proofs.Ytijoamhfmophmab
open Go.RowKit

/-- No bit behind the last lane. -/
theorem tail_none {B : Nat → Nat} {M p : Nat} (hB : Byt M B) (hM : 8 * M ≤ p + 7) (hz : wordZ (bitB B) (p : Int) = 0) : ∀ i, p ≤ i → bitB B i = false := by
  intro i hi
  by_cases h : i < p + 64
  · have h1 : (wordZ (bitB B) (p : Int)).testBit (i - p) = false := by rw [hz]; simp
    rw [wordZ_nat, wordOf_bit] at h1
    simpa [show i - p < 64 by omega, show p + (i - p) = i by omega] using h1
  · unfold bitB
    rw [hB.2 _ (by omega)]; simp

/-- Unpack, whatever it is handed. -/
theorem unpackU64_all (a0 : Option Addr) (nb c : Nat) (B : Nat → Nat) (width n : Int) (w : World) (hnb : nb ≤ 140737488351232) (hc : nb ≤ c) (hc2 : c ≤ 9223372036854775807) (hB : Byt nb B) (hN : Nums w .u8 a0 nb B) :
    Calls Try.prog 8 #[.slice a0 nb c, .int .i64 width, .int .i64 n] w fun e w' => Below w.heap.size w w' ∧
      ((∃ E : Int, E ≠ 0 ∧ e = .returned (.tuple #[.slice none 0 0, .int .i64 E])) ∨
       (∃ k m : Nat, width = (k : Int) ∧ n = (m : Int) ∧ k ≤ 64 ∧ m ≤ 16777216 ∧ nb = (m * k + 7) / 8 ∧ (∀ i, m * k ≤ i → bitB B i = false) ∧ e = .returned (.tuple #[.slice (some ⟨w.heap.size, 0, none⟩) m m, .int .i64 0]) ∧ Blk w' w.heap.size 28 .u64 m m (laneOf (bitB B) k))) := by
  cases hw : isWidth width with
  | false =>
    refine (unpackU64_width a0 nb c width n w hw).mono ?_
    rintro e w' ⟨rfl, rfl⟩
    exact ⟨Below.refl _ _, .inl ⟨20, by omega, rfl⟩⟩
  | true =>
    by_cases hbe : byteE n width = 0
    · have hn0 : 0 ≤ n := by
        apply Int.not_lt.1
        intro h
        unfold byteE at hbe
        rw [if_pos h] at hbe; omega
      obtain ⟨m, rfl⟩ : ∃ m : Nat, n = (m : Int) := ⟨n.toNat, by omega⟩
      obtain ⟨hm, k, rfl, hk⟩ := byteE_ok hbe
      by_cases h1 : nb < (m * k + 7) / 8
      · refine (unpackU64_cut a0 nb c k m w hm hk h1).mono ?_
        rintro e w' ⟨rfl, rfl⟩
        exact ⟨Below.refl _ _, .inl ⟨22, by omega, rfl⟩⟩
      · by_cases h2 : (m * k + 7) / 8 < nb
        · refine (unpackU64_long a0 nb c k m w hm hk h2).mono ?_
          rintro e w' ⟨rfl, rfl⟩
          exact ⟨Below.refl _ _, .inl ⟨23, by omega, rfl⟩⟩
        · obtain rfl : nb = (m * k + 7) / 8 := by omega
          by_cases h3 : wordZ (bitB B) ((m * k : Nat) : Int) = 0
          · refine (unpackU64_run a0 c k m B w hm hk hc hc2 hB hN h3).mono ?_
            rintro e w' ⟨hb, ⟨_, i, hi, hx⟩ | ⟨_, h4, h5⟩⟩
            · exact absurd (Nat.lt_of_lt_of_le (laneOf_lt _ _ _) (Nat.pow_le_pow_right (n := 2) (by omega) hk)) hx
            · exact ⟨hb, .inr ⟨k, m, rfl, rfl, hk, hm, rfl, tail_none hB (by omega) h3, h4, h5⟩⟩
          · refine (unpackU64_left a0 c k m B w hm hk hc hc2 hB hN h3).mono ?_
            rintro e w' ⟨rfl, j, rfl⟩
            exact ⟨below_drewN (Below.refl _ _) j, .inl ⟨23, by omega, rfl⟩⟩
    · refine (unpackU64_bad a0 nb c width n w hw hbe).mono ?_
      rintro e w' ⟨rfl, rfl⟩
      exact ⟨Below.refl _ _, .inl ⟨_, hbe, rfl⟩⟩

set_option maxHeartbeats 2000000 in
set_option maxRecDepth 20000 in
theorem walk_packForm (w : World) (a0 : Option Addr) (nb c : Nat) (B : Nat → Nat) (width n : Int) (hA : NumArg w .u8 a0 nb c B 256 (140737488351232 / 1)) (_ : -9223372036854775808 ≤ width ∧ width ≤ 9223372036854775807) (_ : -9223372036854775808 ≤ n ∧ n ≤ 9223372036854775807) :
    Calls Try.prog 3 #[.slice a0 nb c, .int .i64 width, .int .i64 n] w fun e w' => e = .returned (.bool true) ∧ Below w.heap.size w w' := by
  obtain ⟨hN, h256, hz, hnc, hcr, ha⟩ := hA
  have hByt : Byt nb B := ⟨h256, hz⟩
  have HU : Hid (∀ wx, Below w.heap.size w wx → Calls Try.prog 8 #[.slice a0 nb c, .int .i64 width, .int .i64 n] wx fun e w' => Below wx.heap.size wx w' ∧
      ((∃ E : Int, E ≠ 0 ∧ e = .returned (.tuple #[.slice none 0 0, .int .i64 E])) ∨
       (∃ k m : Nat, width = (k : Int) ∧ n = (m : Int) ∧ k ≤ 64 ∧ m ≤ 16777216 ∧ nb = (m * k + 7) / 8 ∧ (∀ i, m * k ≤ i → bitB B i = false) ∧ e = .returned (.tuple #[.slice (some ⟨wx.heap.size, 0, none⟩) m m, .int .i64 0]) ∧ Blk w' wx.heap.size 28 .u64 m m (laneOf (bitB B) k)))) := fun wx hb => unpackU64_all a0 nb c B width n wx (by omega) hnc (by omega) hByt (hN.later hb)
  have HN : Hid (Nums w .u8 a0 nb B) := hN
  have HB : Hid (Byt nb B) := hByt
  clear hN h256 hz ha hByt
  go_enter Try.func3, Try.ntmps3
  go_wp2_with fail
  refine (awake_yes _).mono ?_
  rintro e w1 ⟨rfl, hB1⟩
  go_wp2_with fail
  refine Calls.mono (HU.out _ hB1) ?_
  rintro e w2 ⟨hB2, ⟨E, hE, rfl⟩ | ⟨k, m, rfl, rfl, hk, hm, rfl, htl, rfl, hb2⟩⟩
  · have hbel : Below w.heap.size w w2 := hB1.trans (hB2.mono hB1.size)
    have hne : (E != 0) = true := by simpa using hE
    clear HU hB2 hB1
    go_wp2_with (go_at_call 9; refine (num_any _ _).mono ?_; rintro e w' ⟨rfl, rfl⟩)
    go_ret
    exact ⟨rfl, hbel⟩
  · have hbel : Below w.heap.size w w2 := hB1.trans (hB2.mono hB1.size)
    have hL64 : ∀ j, laneOf (bitB B) k j < 18446744073709551616 := fun j => Nat.lt_of_lt_of_le (laneOf_lt _ _ _) (Nat.pow_le_pow_right (n := 2) (by omega) hk)
    have HP : Hid (∀ wx, wx = w2 → Calls Try.prog 10 #[.slice (some ⟨w1.heap.size, 0, none⟩) m m, .int .i64 (k : Int)] wx fun e w' => e = .returned (.tuple #[.slice (some ⟨wx.heap.size, 0, none⟩) ((m * k + 7) / 8) ((m * k + 7) / 8), .int .i64 0]) ∧ Blk w' wx.heap.size 5 .u8 ((m * k + 7) / 8) ((m * k + 7) / 8) B ∧ Below wx.heap.size wx w') := fun wx e => by
      subst e
      have := packU64_ok (some ⟨w1.heap.size, 0, none⟩) m m k (laneOf (bitB B) k) wx hm hk hL64 (hb2.nums (Nat.le_refl _)) (fun i _ => laneOf_lt _ _ _)
      rw [laneB_laneOf htl, byt_bitB HB.out.1] at this
      exact this
    have HN2 : Hid (Nums w2 .u8 a0 ((m * k + 7) / 8) B) := HN.out.later hbel
    have hnk := mul_small hm hk
    have hMM : (m * k + 7) / 8 ≤ 134217728 := by omega
    clear HU hB2 hB1 hL64 hb2 htl HN hnk HB
    generalize (m * k + 7) / 8 = M at *
    generalize w1.heap.size = g at *
    go_wp2_with (go_at_call 9; refine (num_any _ _).mono ?_; rintro e w' ⟨rfl, rfl⟩)
    refine Calls.mono (HP.out _ rfl) ?_
    rintro e w3 ⟨rfl, hb3, hB3⟩
    have hs1 := run_str M (hb3.nums (Nat.le_refl _))
    have hs2 := run_str c (HN2.out.later hB3)
    have hbel3 := hbel.trans (hB3.mono hbel.size)
    clear hb3 hB3 HP HN2 hbel
    generalize strN M B = S at *
    go_wp2_with (go_at_call 9; refine (num_any _ _).mono ?_; rintro e w' ⟨rfl, rfl⟩)
    go_ret
    exact ⟨rfl, hbel3⟩
end Go.Proofs.Ytijoamhfmophmab
