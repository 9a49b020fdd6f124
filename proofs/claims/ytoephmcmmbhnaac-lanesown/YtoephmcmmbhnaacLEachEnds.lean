/-
  each, done by lanes.Ends$1.
-/
import Derived.Test.YtoephmcmmbhnaacLKeeps
namespace Go.Proofs.Ytoephmcmmbhnaac.Ln
open Go.RowKit Go.Sort

set_option maxHeartbeats 4000000 in
set_option maxRecDepth 20000 in
theorem each_Ends (a0 : Option Addr) (nb c k m bh bl : Nat) (B H Lo : Nat → Nat) (w : World)
    (hk1 : 1 ≤ k) (hk : k ≤ 64) (hm : m ≤ 16777216) (hH : Box w bh (H 0)) (hLo : Box w bl (Lo 0))
    (hword : ∀ (W : World) (s : Nat), s ≤ 9223372036854775807 → Keeps bh bl w W → Calls Try.prog 53 #[.slice a0 nb c, .int .i64 (s : Int)] W fun e w' => e = .returned (.int .u64 (wordZ (bitB B) (s : Int) : Int)) ∧ Grew W w')
    (hdo : ∀ (W : World) (t : Nat), t < m → Box W bh (H t) → Box W bl (Lo t) → Calls Try.prog 45 #[.int .u64 (laneOf (bitB B) k t : Int), .pointer (some ⟨bh, 0, none⟩), .pointer (some ⟨bl, 0, none⟩)] W fun e w' => e = .returned (.tuple #[]) ∧ Box w' bh (H (t + 1)) ∧ Box w' bl (Lo (t + 1)) ∧ Keeps bh bl W w') :
    Calls Try.prog 42 #[packV a0 nb c k m, cutV k, .func (.func 45) #[] #[.pointer (some ⟨bh, 0, none⟩), .pointer (some ⟨bl, 0, none⟩)]] w fun e w' => e = .returned (.tuple #[]) ∧ Box w' bh (H m) ∧ Box w' bl (Lo m) ∧ Keeps bh bl w w' := by
  have hll := lanes_le k
  have hl1 := lanes_pos hk1 hk
  have hbh := hH.lt
  have hbl := hLo.lt
  have HWD : Hid (∀ (W : World) (s : Nat), s ≤ 9223372036854775807 → Keeps bh bl w W → Calls Try.prog 53 #[.slice a0 nb c, .int .i64 (s : Int)] W fun e w' => e = .returned (.int .u64 (wordZ (bitB B) (s : Int) : Int)) ∧ Grew W w') := hword
  have HDO : Hid (∀ (W : World) (t : Nat), t < m → Box W bh (H t) → Box W bl (Lo t) → Calls Try.prog 45 #[.int .u64 (laneOf (bitB B) k t : Int), .pointer (some ⟨bh, 0, none⟩), .pointer (some ⟨bl, 0, none⟩)] W fun e w' => e = .returned (.tuple #[]) ∧ Box w' bh (H (t + 1)) ∧ Box w' bl (Lo (t + 1)) ∧ Keeps bh bl W w') := hdo
  have HLN : Hid (∀ (W : World) (x j : Nat), x < 18446744073709551616 → j < lanesOf k → Calls Try.prog 61 #[.agg #[.int .i64 (k : Int), .int .i64 (lanesOf k : Int), .int .u64 (topsOf k : Int), .int .u64 (restOf k : Int)], .int .u64 (x : Int), .int .i64 (j : Int)] W fun e w' => e = .returned (.int .u64 (laneW x k j : Int)) ∧ Grew W w') := fun W x j hx hj => lane_any k x j W hk1 hk hx hj
  have HKM : Hid (∀ a, a < m → a * k ≤ 1073741824) := fun a ha => mul_small (by omega) hk
  have HLW : Hid (∀ a j, j < lanesOf k → laneW (wordZ (bitB B) ((a * k : Nat) : Int)) k j = laneOf (bitB B) k (a + j)) := fun a j hj => lane_of_word hk1 hj
  unfold packV cutV
  clear hword hdo
  generalize hT : topsOf k = T at *
  generalize hR : restOf k = R at *
  clear hT hR
  obtain ⟨L, hL⟩ : ∃ L, lanesOf k = L := ⟨_, rfl⟩
  rw [hL] at hll hl1 HLN HLW ⊢
  clear hL
  obtain ⟨w2, hw2⟩ : ∃ w2, w2 = (w.alloc (.cells #[.slice a0 nb c, .int .i64 (k : Int), .int .i64 (m : Int)] 57)).alloc (.cells #[.int .i64 (k : Int), .int .i64 (L : Int), .int .u64 (T : Int), .int .u64 (R : Int)] 63) := ⟨_, rfl⟩
  have hw2s : w2.heap.size = w.heap.size + 1 + 1 := by rw [hw2]; simp
  have p0 : w2.cell? ⟨w.heap.size, 0, none⟩ = some (.slice a0 nb c) := by rw [hw2]; simp [go_sem]
  have p2 : w2.cell? ⟨w.heap.size, 2, none⟩ = some (.int .i64 (m : Int)) := by rw [hw2]; simp [go_sem]
  have c0 : w2.cell? ⟨w.heap.size + 1, 0, none⟩ = some (.int .i64 (k : Int)) := by rw [hw2]; simp [go_sem]
  have c1 : w2.cell? ⟨w.heap.size + 1, 1, none⟩ = some (.int .i64 (L : Int)) := by rw [hw2]; simp [go_sem]
  have c2 : w2.cell? ⟨w.heap.size + 1, 2, none⟩ = some (.int .u64 (T : Int)) := by rw [hw2]; simp [go_sem]
  have c3 : w2.cell? ⟨w.heap.size + 1, 3, none⟩ = some (.int .u64 (R : Int)) := by rw [hw2]; simp [go_sem]
  have hb02 : Below w.heap.size w w2 := by rw [hw2]; exact ((Grew.alloc w _).trans (Grew.alloc _ _)).below
  have HW2 : Hid (w2 = (w.alloc (.cells #[.slice a0 nb c, .int .i64 (k : Int), .int .i64 (m : Int)] 57)).alloc (.cells #[.int .i64 (k : Int), .int .i64 (L : Int), .int .u64 (T : Int), .int .u64 (R : Int)] 63)) := hw2
  have HB0 : Hid (Box w2 bh (H 0) ∧ Box w2 bl (Lo 0)) := ⟨hH.later hb02, hLo.later hb02⟩
  clear hw2 hH hLo
  go_enter Try.func42, Try.ntmps42
  go_wp2
  rw [← HW2.out]
  go_loopw [6] (fun ix wr => ∃ a : Nat, a ≤ m + 64 ∧ ix = .int .i64 a ∧ Hid (Keeps bh bl w2 wr ∧ Box wr bh (H (min a m)) ∧ Box wr bl (Lo (min a m)))) (fun ix _ => m + 64 - (intOf ix).toNat)
  case atStart => exact ⟨0, by omega, rfl, Keeps.refl _ _ _, by simpa using HB0.out.1, by simpa using HB0.out.2⟩
  case round =>
    obtain ⟨a, ha, rfl, HI⟩ := hrel
    obtain ⟨hkp, hbx, hby⟩ := HI.out
    have p2r : wr.cell? ⟨w.heap.size, 2, none⟩ = some (.int .i64 (m : Int)) := (hkp.cell (p := ⟨w.heap.size, 2, none⟩) (show w.heap.size < w2.heap.size by omega) (show w.heap.size ≠ bh by omega) (show w.heap.size ≠ bl by omega)).trans p2
    by_cases hlt : a < m
    · have p0r : wr.cell? ⟨w.heap.size, 0, none⟩ = some (.slice a0 nb c) := (hkp.cell (p := ⟨w.heap.size, 0, none⟩) (show w.heap.size < w2.heap.size by omega) (show w.heap.size ≠ bh by omega) (show w.heap.size ≠ bl by omega)).trans p0
      have c0r : wr.cell? ⟨w.heap.size + 1, 0, none⟩ = some (.int .i64 (k : Int)) := (hkp.cell (p := ⟨w.heap.size + 1, 0, none⟩) (show w.heap.size + 1 < w2.heap.size by omega) (show w.heap.size + 1 ≠ bh by omega) (show w.heap.size + 1 ≠ bl by omega)).trans c0
      have hakl := HKM.out a hlt
      have hak : (a : Int) * (k : Int) = ((a * k : Nat) : Int) := by simp
      have hakw : IntKind.i64.wrap ((a * k : Nat) : Int) = ((a * k : Nat) : Int) := i64_left _ (by omega) (by omega)
      have HQ1 : Hid (Calls Try.prog 53 #[.slice a0 nb c, .int .i64 ((a * k : Nat) : Int)] wr fun e w' => e = .returned (.int .u64 (wordZ (bitB B) ((a * k : Nat) : Int) : Int)) ∧ Grew wr w') := HWD.out _ _ (by omega) ((Keeps.of_below hb02).trans hkp)
      have hz1l := wordZ_lt (bitB B) ((a * k : Nat) : Int)
      have HLW2 : Hid (∀ j, j < L → laneW (wordZ (bitB B) ((a * k : Nat) : Int)) k j = laneOf (bitB B) k (a + j)) := fun j hj => HLW.out a j hj
      have HI2 : Hid (Keeps bh bl w2 wr ∧ Box wr bh (H a) ∧ Box wr bl (Lo a)) := by
        rw [show min a m = a by omega] at hbx hby
        exact ⟨hkp, hbx, hby⟩
      obtain ⟨mn, hmn⟩ : ∃ mn, min L (m - a) = mn := ⟨_, rfl⟩
      have hmi : min (L : Int) ((m : Int) - (a : Int)) = (mn : Int) := by omega
      clear hkp hbx hby HI
      generalize wordZ (bitB B) ((a * k : Nat) : Int) = x at *
      generalize a * k = s at *
      go_wp2_with (go_at_call 53; refine HQ1.out.mono ?_; rintro e w5 ⟨rfl, hg5⟩
                   have p2z : w5.cell? ⟨w.heap.size, 2, none⟩ = some (.int .i64 (m : Int)) := (hg5.below.cell (p := ⟨w.heap.size, 2, none⟩) (World.block_lt_of_cell? _ _ p2r)).trans p2r
                   have c1z : w5.cell? ⟨w.heap.size + 1, 1, none⟩ = some (.int .i64 (L : Int)) := ((HI2.out.1.trans (Keeps.of_below hg5.below)).cell (p := ⟨w.heap.size + 1, 1, none⟩) (show w.heap.size + 1 < w2.heap.size by omega) (show w.heap.size + 1 ≠ bh by omega) (show w.heap.size + 1 ≠ bl by omega)).trans c1)
      have HI3 : Hid (Keeps bh bl w2 w5 ∧ Box w5 bh (H (a + 0)) ∧ Box w5 bl (Lo (a + 0))) := ⟨HI2.out.1.trans (Keeps.of_below hg5.below), HI2.out.2.1.later hg5.below, HI2.out.2.2.later hg5.below⟩
      have HMN : Hid (min L (m - a) = mn) := hmn
      clear hmn hmi p2r p0r c0r p2z c1z hg5 HQ1
      go_loopw [31] (fun jx wq => ∃ j : Nat, j ≤ mn ∧ jx = .int .i64 j ∧ Hid (Keeps bh bl w2 wq ∧ Box wq bh (H (a + j)) ∧ Box wq bl (Lo (a + j)))) (fun jx _ => mn - (intOf jx).toNat)
      case atStart => exact ⟨0, Nat.zero_le _, rfl, HI3.out⟩
      case round =>
        obtain ⟨j, hj, rfl, HJ⟩ := hrel
        obtain ⟨hkq, hbq, hlq⟩ := HJ.out
        have c1q : wr.cell? ⟨w.heap.size + 1, 1, none⟩ = some (.int .i64 (L : Int)) := (hkq.cell (p := ⟨w.heap.size + 1, 1, none⟩) (show w.heap.size + 1 < w2.heap.size by omega) (show w.heap.size + 1 ≠ bh by omega) (show w.heap.size + 1 ≠ bl by omega)).trans c1
        by_cases hlt2 : j < mn
        · have hjL : j < L := by have := HMN.out; omega
          have hajm : a + j < m := by have := HMN.out; omega
          have c0q : wr.cell? ⟨w.heap.size + 1, 0, none⟩ = some (.int .i64 (k : Int)) := (hkq.cell (p := ⟨w.heap.size + 1, 0, none⟩) (show w.heap.size + 1 < w2.heap.size by omega) (show w.heap.size + 1 ≠ bh by omega) (show w.heap.size + 1 ≠ bl by omega)).trans c0
          have c2q : wr.cell? ⟨w.heap.size + 1, 2, none⟩ = some (.int .u64 (T : Int)) := (hkq.cell (p := ⟨w.heap.size + 1, 2, none⟩) (show w.heap.size + 1 < w2.heap.size by omega) (show w.heap.size + 1 ≠ bh by omega) (show w.heap.size + 1 ≠ bl by omega)).trans c2
          have c3q : wr.cell? ⟨w.heap.size + 1, 3, none⟩ = some (.int .u64 (R : Int)) := (hkq.cell (p := ⟨w.heap.size + 1, 3, none⟩) (show w.heap.size + 1 < w2.heap.size by omega) (show w.heap.size + 1 ≠ bh by omega) (show w.heap.size + 1 ≠ bl by omega)).trans c3
          have HLN2 : Hid (∀ W, Calls Try.prog 61 #[.agg #[.int .i64 (k : Int), .int .i64 (L : Int), .int .u64 (T : Int), .int .u64 (R : Int)], .int .u64 (x : Int), .int .i64 (j : Int)] W fun e w' => e = .returned (.int .u64 (laneOf (bitB B) k (a + j) : Int)) ∧ Grew W w') := fun W => by
            have := HLN.out W x j hz1l hjL
            rwa [HLW2.out j hjL] at this
          have HDO2 : Hid (∀ W, Box W bh (H (a + j)) → Box W bl (Lo (a + j)) → Calls Try.prog 45 #[.int .u64 (laneOf (bitB B) k (a + j) : Int), .pointer (some ⟨bh, 0, none⟩), .pointer (some ⟨bl, 0, none⟩)] W fun e w' => e = .returned (.tuple #[]) ∧ Box w' bh (H (a + j + 1)) ∧ Box w' bl (Lo (a + j + 1)) ∧ Keeps bh bl W w') := fun W h1 h2 => HDO.out W (a + j) hajm h1 h2
          clear hkq hbq hlq
          generalize laneOf (bitB B) k (a + j) = v at *
          go_wp2_with (first
            | (go_at_call 61; refine (HLN2.out _).mono ?_; rintro e w6 ⟨rfl, hg6⟩)
            | (go_at_call 45; refine (HDO2.out _ (HJ.out.2.1.later hg6.below) (HJ.out.2.2.later hg6.below)).mono ?_; rintro e w7 ⟨rfl, hx7, hy7, hk7⟩))
          exact ⟨⟨j + 1, by omega, by go_num, (HJ.out.1.trans (Keeps.of_below hg6.below)).trans hk7, hx7, hy7⟩, by simp [intOf]; omega⟩
        · obtain rfl : j = mn := by omega
          have HE : Hid (Keeps bh bl w2 wr ∧ Box wr bh (H (min (a + L) m)) ∧ Box wr bl (Lo (min (a + L) m))) := by
            have e : min (a + L) m = a + j := by have := HMN.out; omega
            rw [e]; exact ⟨hkq, hbq, hlq⟩
          clear hkq hbq hlq HJ
          go_wp2
          exact ⟨⟨a + L, by omega, by go_num, HE.out⟩, by simp [intOf]; omega⟩
    · have HE : Hid (Box wr bh (H m) ∧ Box wr bl (Lo m) ∧ Keeps bh bl w wr) := by
        rw [show min a m = m by omega] at hbx hby
        exact ⟨hbx, hby, (Keeps.of_below hb02).trans hkp⟩
      clear hkp hbx hby HI
      go_wp2
      go_end0
      exact ⟨rfl, HE.out⟩
end Go.Proofs.Ytoephmcmmbhnaac.Ln
