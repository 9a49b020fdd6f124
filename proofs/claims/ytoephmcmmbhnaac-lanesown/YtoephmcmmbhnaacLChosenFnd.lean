/-
  chosen, asked by lanes.In$1.
-/
import Derived.Test.YtoephmcmmbhnaacLChMath
namespace Go.Proofs.Ytoephmcmmbhnaac.Ln
open Go.RowKit Go.Sort
open Bt (wrd packF joinF firstW lay1F wordsOf wcells Tail)

set_option maxHeartbeats 4000000 in
set_option maxRecDepth 20000 in
theorem chosen_Fnd (a0 : Option Addr) (nb c k m : Nat) (B : Nat → Nat) (P : Nat → Bool) (v0 v1 : Value) (w : World) (hn2 : nb ≤ 140737488351232) (hc : nb ≤ c) (hc2 : c ≤ 9223372036854775807) (hB : ∀ j, B j < 256) (hz : ∀ j, nb ≤ j → B j = 0) (hN : Nums w .u8 a0 nb B)
    (hk1 : 1 ≤ k) (hk : k ≤ 64) (hm : m ≤ 16777216)
    (hask : ∀ (W : World) (x : Nat), x < 18446744073709551616 → Below w.heap.size w W → Calls Try.prog 33 #[.int .u64 (x : Int), v0, v1] W fun e w' => e = .returned (.int .u64 (askW k P x : Int)) ∧ Grew W w') :
    Calls Try.prog 30 #[packV a0 nb c k m, cutV k, .func (.func 33) #[] #[v0, v1]] w fun e w' => ∃ d g, e = .returned (.tuple #[.pointer (some ⟨d, 0, none⟩), .int .i64 0]) ∧ w.heap.size ≤ d ∧ w.heap.size ≤ g ∧ Bt.NewSet w' d g m (packF m (fun i => decide (i < m) && P (laneOf (bitB B) k i))) ∧ Below w.heap.size w w' := by
  have hmix := mixed
  have hll := lanes_le k
  have hl1 := lanes_pos hk1 hk
  obtain ⟨i0, hi, hz0, hz1, hz2⟩ := info_parts Bt.info75
  have hwm : wordsOf m ≤ 262144 := Bt.words_le hm
  have hmk := fun wx => run_make (P := Try.prog) wx 22 23 i0 (.int .u64 0) Try.underlying22 hi hz0 .i64 .i64 (wordsOf m : Int) (wordsOf m : Int) (by omega) (by omega) (by rw [hz2]; omega) (by omega)
  simp only [hz1, Int.toNat_natCast, Nat.mul_one] at hmk
  have hww : ((m : Int) + 63) / 64 = (wordsOf m : Int) := by unfold wordsOf; omega
  have hww2 : ((m : Int) + 64 - 1) / 64 = (wordsOf m : Int) := by unfold wordsOf; omega
  have HN : Hid (Nums w .u8 a0 nb B) := hN
  have HASK : Hid (∀ (W : World) (x : Nat), x < 18446744073709551616 → Below w.heap.size w W → Calls Try.prog 33 #[.int .u64 (x : Int), v0, v1] W fun e w' => e = .returned (.int .u64 (askW k P x : Int)) ∧ Grew W w') := hask
  have HMK : Hid (∀ (W : World) (x : Nat), x < 18446744073709551616 → Calls Try.prog 50 #[.agg #[.int .i64 (k : Int), .int .i64 (lanesOf k : Int), .int .u64 (topsOf k : Int), .int .u64 (restOf k : Int)], .int .u64 (x : Int)] W fun e w' => e = .returned (.int .u64 (marksW k x (lanesOf k) : Int)) ∧ Grew W w') := fun W x hx => marks_any k x W hk1 hk hx
  have HWD : Hid (∀ W (s : Nat), s ≤ 9223372036854775807 → Below w.heap.size w W → Calls Try.prog 53 #[.slice a0 nb c, .int .i64 (s : Int)] W fun e w' => e = .returned (.int .u64 (wordZ (bitB B) (s : Int) : Int)) ∧ Grew W w') := fun W s hs hb => by
    refine (word_any a0 nb c B (s : Int) W (by omega) hc hc2 hB hz (hN.later hb) (by omega)).mono ?_
    rintro e w' ⟨rfl, j, rfl⟩
    exact ⟨rfl, Grew.drewN _ _⟩
  have HLW : Hid (∀ W (n : Nat), n ≤ 9223372036854775807 → Calls Try.prog 37 #[.int .i64 (n : Int)] W fun e w' => e = .returned (.int .u64 (lowN n : Int)) ∧ w' = W) := fun W n hn => lowest_any n W hn
  have HKM : Hid (∀ a, a < m → a * k ≤ 1073741824) := fun a ha => mul_small (by omega) hk
  unfold packV cutV
  clear hask hN hB hz
  generalize hT : topsOf k = T at *
  generalize hR : restOf k = R at *
  clear hT hR
  obtain ⟨L, hL⟩ : ∃ L, lanesOf k = L := ⟨_, rfl⟩
  have HL : Hid (lanesOf k = L) := hL
  rw [hL] at hll hl1 HMK ⊢
  clear hL
  obtain ⟨w2, hw2⟩ : ∃ w2, w2 = (w.alloc (.cells #[.slice a0 nb c, .int .i64 (k : Int), .int .i64 (m : Int)] 57)).alloc (.cells #[.int .i64 (k : Int), .int .i64 (L : Int), .int .u64 (T : Int), .int .u64 (R : Int)] 63) := ⟨_, rfl⟩
  have hw2s : w2.heap.size = w.heap.size + 1 + 1 := by rw [hw2]; simp
  have p0 : w2.cell? ⟨w.heap.size, 0, none⟩ = some (.slice a0 nb c) := by rw [hw2]; simp [go_sem]
  have p2 : w2.cell? ⟨w.heap.size, 2, none⟩ = some (.int .i64 (m : Int)) := by rw [hw2]; simp [go_sem]
  have c0 : w2.cell? ⟨w.heap.size + 1, 0, none⟩ = some (.int .i64 (k : Int)) := by rw [hw2]; simp [go_sem]
  have c1 : w2.cell? ⟨w.heap.size + 1, 1, none⟩ = some (.int .i64 (L : Int)) := by rw [hw2]; simp [go_sem]
  have c2 : w2.cell? ⟨w.heap.size + 1, 2, none⟩ = some (.int .u64 (T : Int)) := by rw [hw2]; simp [go_sem]
  have c3 : w2.cell? ⟨w.heap.size + 1, 3, none⟩ = some (.int .u64 (R : Int)) := by rw [hw2]; simp [go_sem]
  have hb02 : Below w.heap.size w w2 := by rw [hw2]; exact ((Grew.alloc w _).trans (Grew.alloc _ _)).below
  have HW2 : Hid (w2 = (w.alloc (.cells #[.slice a0 nb c, .int .i64 (k : Int), .int .i64 (m : Int)] 57)).alloc (.cells #[.int .i64 (k : Int), .int .i64 (L : Int), .int .u64 (T : Int), .int .u64 (R : Int)] 63)) := hw2
  clear hw2
  have HROW : Hid (RowW (w2.alloc (.cells (madeCells #[.int .u64 0] (wordsOf m)) 23)) (w.heap.size + 1 + 1) m (chF (bitB B) k m P 0)) := by
    show _ = _
    rw [chF_zero, Bt.packF_none, ← hw2s, World.alloc_heap_new, Bt.made_zeros]; rfl
  go_enter Try.func30, Try.ntmps30
  go_wp2
  rw [← HW2.out]
  clear hww hww2 hmk hi hz0 hz1 hz2
  go_loopw [9] (fun ix wr => ∃ a : Nat, a ≤ m + 64 ∧ ix = .int .i64 a ∧ Below (w.heap.size + 1 + 1) w2 wr ∧ RowW wr (w.heap.size + 1 + 1) m (chF (bitB B) k m P a)) (fun ix _ => m + 64 - (intOf ix).toNat)
  case atStart =>
    refine ⟨0, by omega, rfl, ?_, HROW.out⟩
    have := (Grew.alloc w2 (.cells (madeCells #[.int .u64 0] (wordsOf m)) 23)).below
    rw [hw2s] at this
    exact this
  case round =>
    obtain ⟨a, ha, rfl, hbr, hrow⟩ := hrel
    have hrl := hrow.lt
    have hb0 : Below w.heap.size w wr := hb02.trans (hbr.mono (by omega))
    have p2r : wr.cell? ⟨w.heap.size, 2, none⟩ = some (.int .i64 (m : Int)) := (hbr.cell (p := ⟨w.heap.size, 2, none⟩) (show w.heap.size < w.heap.size + 1 + 1 by omega)).trans p2
    by_cases hlt : a < m
    · have p0r : wr.cell? ⟨w.heap.size, 0, none⟩ = some (.slice a0 nb c) := (hbr.cell (p := ⟨w.heap.size, 0, none⟩) (show w.heap.size < w.heap.size + 1 + 1 by omega)).trans p0
      have c0r : wr.cell? ⟨w.heap.size + 1, 0, none⟩ = some (.int .i64 (k : Int)) := (hbr.cell (p := ⟨w.heap.size + 1, 0, none⟩) (show w.heap.size + 1 < w.heap.size + 1 + 1 by omega)).trans c0
      have c1r : wr.cell? ⟨w.heap.size + 1, 1, none⟩ = some (.int .i64 (L : Int)) := (hbr.cell (p := ⟨w.heap.size + 1, 1, none⟩) (show w.heap.size + 1 < w.heap.size + 1 + 1 by omega)).trans c1
      have c2r : wr.cell? ⟨w.heap.size + 1, 2, none⟩ = some (.int .u64 (T : Int)) := (hbr.cell (p := ⟨w.heap.size + 1, 2, none⟩) (show w.heap.size + 1 < w.heap.size + 1 + 1 by omega)).trans c2
      have c3r : wr.cell? ⟨w.heap.size + 1, 3, none⟩ = some (.int .u64 (R : Int)) := (hbr.cell (p := ⟨w.heap.size + 1, 3, none⟩) (show w.heap.size + 1 < w.heap.size + 1 + 1 by omega)).trans c3
      have hbl0 : w.heap.size < wr.heap.size := by omega
      have hbl1 : w.heap.size + 1 < wr.heap.size := by omega
      have p0g := cell_grown (a := ⟨w.heap.size, 0, none⟩) hbl0 p0r
      have p2g := cell_grown (a := ⟨w.heap.size, 2, none⟩) hbl0 p2r
      have c0g := cell_grown (a := ⟨w.heap.size + 1, 0, none⟩) hbl1 c0r
      have c1g := cell_grown (a := ⟨w.heap.size + 1, 1, none⟩) hbl1 c1r
      have c2g := cell_grown (a := ⟨w.heap.size + 1, 2, none⟩) hbl1 c2r
      have c3g := cell_grown (a := ⟨w.heap.size + 1, 3, none⟩) hbl1 c3r
      have hakl := HKM.out a hlt
      have hak : (a : Int) * (k : Int) = ((a * k : Nat) : Int) := by simp
      have hakw : IntKind.i64.wrap ((a * k : Nat) : Int) = ((a * k : Nat) : Int) := i64_left _ (by omega) (by omega)
      have HQ1 : Hid (∀ n os, Calls Try.prog 53 #[.slice a0 nb c, .int .i64 ((a * k : Nat) : Int)] (grow (wr.drewN n) os) fun e w' => e = .returned (.int .u64 (wordZ (bitB B) ((a * k : Nat) : Int) : Int)) ∧ Grew (grow (wr.drewN n) os) w') := fun n os => HWD.out _ _ (by omega) (below_on hb0 (Grew.below ⟨n, os, rfl⟩))
      have HQ2 : Hid (∀ n os, Calls Try.prog 33 #[.int .u64 (wordZ (bitB B) ((a * k : Nat) : Int) : Int), v0, v1] (grow (wr.drewN n) os) fun e w' => e = .returned (.int .u64 (askW k P (wordZ (bitB B) ((a * k : Nat) : Int)) : Int)) ∧ Grew (grow (wr.drewN n) os) w') := fun n os => HASK.out _ _ (wordZ_lt _ _) (below_on hb0 (Grew.below ⟨n, os, rfl⟩))
      have HQ3 : Hid (∀ n os, Calls Try.prog 50 #[.agg #[.int .i64 (k : Int), .int .i64 (L : Int), .int .u64 (T : Int), .int .u64 (R : Int)], .int .u64 (askW k P (wordZ (bitB B) ((a * k : Nat) : Int)) : Int)] (grow (wr.drewN n) os) fun e w' => e = .returned (.int .u64 (marksW k (askW k P (wordZ (bitB B) ((a * k : Nat) : Int))) L : Int)) ∧ Grew (grow (wr.drewN n) os) w') := fun n os => HMK.out _ _ (askW_lt k P _ hk1)
      have HEND : Hid (marksW k (askW k P (wordZ (bitB B) ((a * k : Nat) : Int))) L &&& lowN (m - a) = wrd (chH (bitB B) k m P a) 0) := by
        show _ = _
        rw [← HL.out]; exact ask_word hk1
      have hml : marksW k (askW k P (wordZ (bitB B) ((a * k : Nat) : Int))) L < 18446744073709551616 := by rw [← HL.out]; exact marks64 hk1
      have HLAY : Hid (∀ W, RowW W (w.heap.size + 1 + 1) m (chF (bitB B) k m P a) → Calls Try.prog 56 #[.slice (some ⟨w.heap.size + 1 + 1, 0, none⟩) (wordsOf m) (wordsOf m), .int .i64 (a : Int), .int .u64 (wrd (chH (bitB B) k m P a) 0 : Int)] W fun e w' => e = .returned (.tuple #[]) ∧ RowW w' (w.heap.size + 1 + 1) m (chF (bitB B) k m P (a + L)) ∧ ∀ B, B ≤ w.heap.size + 1 + 1 → Below B W w') := fun W hW => by
        have := lay_any (w.heap.size + 1 + 1) m a _ _ W hW (chH_tail (bitB B) k m P a) hm hlt (fun i hi => chH_room hi)
        rw [chF_step, HL.out] at this
        exact this
      have HROWR : Hid (RowW wr (w.heap.size + 1 + 1) m (chF (bitB B) k m P a)) := hrow
      have HBR : Hid (Below (w.heap.size + 1 + 1) w2 wr) := hbr
      have HSZ : Hid (w.heap.size + 1 + 1 < wr.heap.size) := hrl
      have hsub : ((m - a : Nat) : Int) = (m : Int) - (a : Int) := by omega
      have hand := u64_and_nat _ _ hml (lowN_lt (m - a))
      rw [HEND.out] at hand
      generalize wrd (chH (bitB B) k m P a) 0 = z4 at *
      clear HEND
      generalize marksW k (askW k P (wordZ (bitB B) ((a * k : Nat) : Int))) L = z3 at *
      generalize askW k P (wordZ (bitB B) ((a * k : Nat) : Int)) = z2 at *
      have hz1l := wordZ_lt (bitB B) ((a * k : Nat) : Int)
      generalize wordZ (bitB B) ((a * k : Nat) : Int) = z1 at *
      generalize a * k = s at *
      clear hrow hbr hrl hb0 p0 p2 c0 c1 c2 c3 hb02
      go_wp2
      go_quiet_grown (first | (go_at_call 53; exact Calls.grewq (HQ1.out _ _)) | (go_at_call 33; exact Calls.grewq (HQ2.out _ _)) | (go_at_call 50; exact Calls.grewq (HQ3.out _ _)))
      have hgq : Grew wr (grow (wr.drewN nq) osq) := ⟨_, _, rfl⟩
      have p2q := p2g nq osq
      have c1q := c1g nq osq
      have hrq : RowW (grow (wr.drewN nq) osq) (w.heap.size + 1 + 1) m (chF (bitB B) k m P a) := HROWR.out.kept hgq.below HSZ.out
      have hbq : Below (w.heap.size + 1 + 1) w2 (grow (wr.drewN nq) osq) := HBR.out.trans (hgq.below.mono (Nat.le_of_lt HSZ.out))
      have HRQ : Hid (RowW (grow (wr.drewN nq) osq) (w.heap.size + 1 + 1) m (chF (bitB B) k m P a)) := hrq
      have HBQ : Hid (Below (w.heap.size + 1 + 1) w2 (grow (wr.drewN nq) osq)) := hbq
      clear hrq hbq hgq p0g p2g c0g c1g c2g c3g p0r p2r c0r c1r c2r c3r
      generalize grow (wr.drewN nq) osq = wq at *
      have HSUB : Hid (((m - a : Nat) : Int) = (m : Int) - (a : Int)) := hsub
      have HLW2 : Hid (∀ W, Calls Try.prog 37 #[.int .i64 ((m : Int) - (a : Int))] W fun e w' => e = .returned (.int .u64 (lowN (m - a) : Int)) ∧ w' = W) := fun W => by
        have := HLW.out W (m - a) (by omega)
        rwa [HSUB.out] at this
      generalize lowN (m - a) = z5 at *
      clear hsub HLW
      go_wp2_with (first | (go_at_call 37; refine (HLW2.out _).mono ?_; rintro e w' ⟨rfl, rfl⟩) | (go_at_call 56; refine (HLAY.out _ HRQ.out).mono ?_; rintro e w6 ⟨rfl, hr6, hb6⟩; have c1z : w6.cell? ⟨w.heap.size + 1, 1, none⟩ = some (.int .i64 (L : Int)) := ((hb6 _ (Nat.le_refl _)).cell (p := ⟨w.heap.size + 1, 1, none⟩) (show w.heap.size + 1 < w.heap.size + 1 + 1 by omega)).trans c1q))
      exact ⟨⟨a + L, by omega, by go_num, HBQ.out.trans (hb6 _ (Nat.le_refl _)), hr6⟩, by simp [intOf]; omega⟩
    · have HALL : Hid (chF (bitB B) k m P a = fun i => decide (i < m) && P (laneOf (bitB B) k i)) := chF_all (by omega)
      have HLOAD : Hid (Calls Try.prog 57 #[.int .i64 (m : Int), .slice (some ⟨w.heap.size + 1 + 1, 0, none⟩) (wordsOf m) (wordsOf m)] wr fun e w' => ∃ d g, e = .returned (.tuple #[.pointer (some ⟨d, 0, none⟩), .int .i64 0]) ∧ wr.heap.size ≤ d ∧ wr.heap.size ≤ g ∧ Bt.NewSet w' d g m (packF m (fun i => decide (i < m) && P (laneOf (bitB B) k i))) ∧ Below wr.heap.size wr w') := by
        rw [HALL.out] at hrow
        exact Bt.load_own m _ _ wr (.inr ⟨w.heap.size + 1 + 1, by simp, hrow⟩) hm (fun i hi => by simp; omega)
      have HB0 : Hid (Below w.heap.size w wr) := hb0
      have hwl : w.heap.size ≤ wr.heap.size := by omega
      clear hrow hbr hb0 hrl
      go_wp2_with (go_at_call 57; refine HLOAD.out.mono ?_; rintro e w5 ⟨d, g, rfl, hd, hg, hs5, hb5⟩)
      go_ret2
      exact ⟨d, g, rfl, by omega, by omega, hs5, below_on HB0.out hb5⟩
end Go.Proofs.Ytoephmcmmbhnaac.Ln
