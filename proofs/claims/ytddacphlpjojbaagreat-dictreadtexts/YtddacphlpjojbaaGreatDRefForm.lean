import Derived.Test.YtddacphlpjojbaaGreatDPut
import Derived.Test.YtddacphlpjojbaaGreatDRefCodes
import Derived.Test.YtddacphlpjojbaaGreatKAll
import Derived.Test.YtddacphlpjojbaaGreatCAll
/-
  The document's own form: short, low, Width, ref03's Pack.
-/
namespace Go.Proofs.YtddacphlpjojbaaGreat
open Go.RowKit Cu

set_option maxRecDepth 4000 in
set_option maxHeartbeats 2000000 in
theorem rShort9 (n : Nat) (w : World) (hn : n ≤ 65536) :
    Calls Tryz.prog 63 #[.int .i64 (n : Int)] w fun e w' => ∃ v', e = .returned v' ∧ NewL w w' v' (Cr.Cu.uv n) := by
  go_enter Tryz.func63, Tryz.ntmps63
  go_wp2_with fail
  go_loopw [3, 0] (fun x y wr => ∃ (k u : Nat) (p : List Nat), y = .int .i64 (u : Int) ∧ u < 2 ^ (7 * k + 1) ∧ u ≤ 65536 ∧ p.length + k = 9 ∧ Hid (p ++ Cr.Cu.uvF k u = Cr.Cu.uv n) ∧ Hid (Own wr w.heap.size 5 .u8 x p.length (ofL p)) ∧ Hid (Below w.heap.size w wr)) (fun _ y _ => (intOf y).toNat)
  case atStart => exact ⟨9, n, [], rfl, Nat.lt_of_le_of_lt hn (by decide), hn, rfl, rfl, Own.nil _ _ _ _ _, Below.refl _ _⟩
  case round =>
    obtain ⟨k, u, p, rfl, hu, hu2, hk, HP, HO, HB⟩ := hrel
    by_cases hlt : u < 128
    · have hgt : ¬ (127 : Int) < (u : Int) := by omega
      obtain ⟨v2, w2, hr2, o2, b2⟩ := run_oneL HO.out (by omega) HB.out.size u (u : Int) rfl
      have R2 := hid hr2
      rw [Cr.uv_end HP.out hlt] at o2
      have HN : Hid (NewL w w2 v2 (Cr.Cu.uv n)) := ⟨o2, HB.out.trans b2⟩
      clear hr2 o2 b2 HO HB HP hu hk
      go_wp2_with (at_builtin; refine wpList_app (by rfl) (by rfl) R2.out ?_; clear R2)
      go_ret
      exact ⟨_, rfl, HN.out⟩
    · have hge : (127 : Int) < (u : Int) := by omega
      cases k with
      | zero => simp at hu; omega
      | succ k =>
      have HP2 := hid (Cr.uv_round HP.out hlt)
      have hd : u / 128 < 2 ^ (7 * k + 1) := by
        have : 2 ^ (7 * (k + 1) + 1) = 128 * 2 ^ (7 * k + 1) := by rw [show 7 * (k + 1) + 1 = (7 * k + 1) + 7 by omega, Nat.pow_add]; omega
        rw [this] at hu
        exact Nat.div_lt_of_lt_mul hu
      obtain ⟨m, hm⟩ : ∃ m, u % 128 = m := ⟨_, rfl⟩
      obtain ⟨d, hdd⟩ : ∃ d, u / 128 = d := ⟨_, rfl⟩
      have hm1 : (u : Int) % 128 = (m : Int) := by omega
      have hd1 : (u : Int) / 128 = (d : Int) := by omega
      have hm2 : m < 128 := by omega
      have hdu : d < u := by omega
      rw [hm, hdd] at HP2
      rw [hdd] at hd
      obtain ⟨v2, w2, hr2, o2, b2⟩ := run_oneL HO.out (by omega) HB.out.size (128 + m) ((m : Int) + 128) (by omega)
      have R2 := hid hr2
      have O2 := hid o2
      have B2 := hid (HB.out.trans b2)
      have HD := hid hd
      clear hr2 o2 b2 HO HB HP hd hu hm hdd
      go_wp2_with (at_builtin; refine wpList_app (by rfl) (by rfl) R2.out ?_; clear R2)
      exact ⟨⟨k, d, p ++ [128 + m], by go_num, HD.out, by omega, by rw [List.length_append]; simp; omega, HP2, O2, B2⟩, by simp [intOf]; omega⟩
set_option maxRecDepth 4000 in
set_option maxHeartbeats 2000000 in
theorem rLow9 (v : Nat) (w : World) (_hv : v < 18446744073709551616) :
    Calls Tryz.prog 64 #[.int .u64 (v : Int), .int .i64 8] w fun e w' => ∃ v', e = .returned v' ∧ NewL w w' v' (fx 8 v) := by
  go_enter Tryz.func64, Tryz.ntmps64
  go_wp2_with fail
  go_loopw [5, 6] (fun x y wr => ∃ i : Nat, i ≤ 8 ∧ y = .int .i64 (i : Int) ∧ Hid (NewL w wr x (fx i v))) (fun _ y _ => 8 - (intOf y).toNat)
  case atStart => exact ⟨0, Nat.zero_le _, rfl, Own.nil _ _ _ _ _, Below.refl _ _⟩
  case round =>
    obtain ⟨i, hi, rfl, HO⟩ := hrel
    by_cases hlt : i < 8
    · obtain ⟨v2, w2, hr2, o2, b2⟩ := run_oneL HO.out.1 (by rw [fx_len]; omega) HO.out.2.size (v / 256 ^ i % 256) _ rfl
      rw [← fx_snoc] at o2
      have HN : Hid (NewL w w2 v2 (fx (i + 1) v)) := ⟨o2, HO.out.2.trans b2⟩
      have R2 := hid hr2
      have hcv : IntKind.u8.wrap ((v : Int) / 2 ^ (8 * i)) = ((v / 256 ^ i % 256 : Nat) : Int) := by
        rw [Pk.pow_cast, IntKind.wrap_u8, show (2 : Nat) ^ (8 * i) = 256 ^ i by rw [Nat.pow_mul]]; rfl
      have hiw : IntKind.u64.wrap (8 * (i : Int)) = 8 * (i : Int) := Pk.u64_left _ (by omega) (by omega)
      have h8n : (8 * (i : Int)).toNat = 8 * i := by omega
      have hmin : min (8 * i) 64 = 8 * i := by omega
      have hii : (i : Int) < 8 := by omega
      clear hr2 o2 b2 HO
      generalize v / 256 ^ i % 256 = z at *
      go_wp2_with (at_builtin; refine wpList_app (by rfl) (by rfl) R2.out ?_; clear R2)
      exact ⟨⟨i + 1, by omega, by go_num, HN⟩, by simp [intOf]; omega⟩
    · obtain rfl : i = 8 := by omega
      go_wp2_with fail
      go_ret
      exact ⟨_, rfl, HO.out⟩
theorem wd_more {m j : Nat} (hm : m < 65536) (hj : j ≤ 64) : 0 < m / 2 ^ j ↔ j < Lib.bitLen m := by
  have h := Pk.bitLen_fits (x := m) (k := j) (by omega) hj
  have h1 : m / 2 ^ j = 0 ↔ m < 2 ^ j := Nat.div_eq_zero_iff_lt (Nat.two_pow_pos j)
  rw [Nat.pos_iff_ne_zero, Ne, h1, ← h]
  omega
set_option maxRecDepth 4000 in
set_option maxHeartbeats 2000000 in
theorem rWidth9 (n : Nat) (w : World) (hn : n ≤ 65536) :
    Calls Tryz.prog 22 #[.int .i64 (n : Int)] w fun e w' => e = .returned (.int .i64 (wd n : Int)) ∧ w' = w := by
  by_cases h1 : n < 2
  · have e1 : wd n = 0 := by unfold wd; rw [if_pos h1]
    have hd : ¬ (1 : Int) < (n : Int) := by omega
    rw [e1]
    go_enter Tryz.func22, Tryz.ntmps22
    go_wp2_with fail
    go_loopw [3] (fun y wr => y = .int .i64 0 ∧ wr = w) (fun _ _ => 0)
    case atStart => exact ⟨rfl, rfl⟩
    case round =>
      obtain ⟨rfl, rfl⟩ := hrel
      go_wp2_with fail
      go_ret
      exact ⟨rfl, rfl⟩
  · obtain ⟨m, hnm⟩ : ∃ m, n = m + 1 := ⟨n - 1, by omega⟩
    have e1 : wd n = Lib.bitLen m := by unfold wd; rw [if_neg h1, hnm]; rfl
    have hm : m < 65536 := by omega
    have hbl : Lib.bitLen m ≤ 17 := (Pk.bitLen_fits (by omega) (by omega)).2 (by omega)
    have HW : Hid (∀ j, j ≤ 64 → (0 < m / 2 ^ j ↔ j < Lib.bitLen m)) := fun j hj => wd_more hm hj
    rw [e1]
    generalize Lib.bitLen m = b at *
    have hd : (1 : Int) < (n : Int) := by omega
    have e2 : (n : Int) - 1 = (m : Int) := by omega
    clear e1 hnm
    go_enter Tryz.func22, Tryz.ntmps22
    go_wp2_with fail
    go_loopw [3] (fun y wr => ∃ j : Nat, j ≤ b ∧ y = .int .i64 (j : Int) ∧ wr = w) (fun y _ => b - (intOf y).toNat)
    case atStart => exact ⟨0, Nat.zero_le _, rfl, rfl⟩
    case round =>
      obtain ⟨j, hj, rfl, hw⟩ := hrel
      have hw2 := hw.symm
      clear hw
      subst hw2
      have hiff := HW.out j (by omega)
      have hsh : (m : Int) / 2 ^ j = ((m / 2 ^ j : Nat) : Int) := by rw [Pk.pow_cast]; rfl
      have hmin : min j 64 = j := by omega
      generalize m / 2 ^ j = q at *
      by_cases hlt : j < b
      · have hq0 := hiff.2 hlt
        have hq : (0 : Int) < (q : Int) := by omega
        clear hiff
        go_wp2_with fail
        exact ⟨⟨j + 1, by omega, by go_num, by first | trivial | rfl⟩, by simp [intOf]; omega⟩
      · have hq : ¬ (0 : Int) < (q : Int) := by have := mt hiff.1 hlt; omega
        obtain rfl : j = b := by omega
        clear hiff
        go_wp2_with fail
        go_ret
        exact ⟨rfl, rfl⟩
end Go.Proofs.YtddacphlpjojbaaGreat
