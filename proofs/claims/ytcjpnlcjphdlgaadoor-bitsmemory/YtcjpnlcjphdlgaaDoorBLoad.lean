import Derived.Test.YtcjpnlcjphdlgaaDoorBAlg
import Derived.Test.YtcjpnlcjphdlgaaDoorBTail
namespace Go.Proofs.YtcjpnlcjphdlgaaDoor.Bt
open Go.RowKit

theorem copy_into (w : World) (d g n : Nat) (a0 : Option Addr) (ws zs : List Nat) (hN : NewSet w d g n zs) (hr : Row w (.slice a0 ws.length ws.length) ws) (hl : zs.length = ws.length) :
    ∃ w2, (Builtin.copy_ #[32, 32] 3 #[.slice (some ⟨g, 0, none⟩) ws.length ws.length, .slice a0 ws.length ws.length]).run Tryd.prog w = .ok (goInt ws.length) w2 ∧ NewSet w2 d g n ws ∧ ∀ B, B ≤ g → Below B w w2 := by
  rcases hr with ⟨h, rfl⟩ | ⟨gs, h, hgs⟩
  · cases h
    obtain rfl : zs = [] := by simpa using hl
    exact ⟨w, run_copy_nil (P := Tryd.prog) _ 32 32 3 63 _ 0 0 Tryd.underlying32 (by rw [size75]; rfl), hN, fun B _ => Below.refl _ _⟩
  · cases h
    have e := run_copy_row (P := Tryd.prog) w 32 32 3 63 g 0 ws.length ws.length ⟨gs, 0, none⟩ ws.length ws.length (wcells zs) 63 (wcells ws).toList Tryd.underlying32 size75 hN.2
      (by simp [wcells]) (fun j v hj => by
        have hadd : (⟨gs, 0, none⟩ : Addr).add j = ⟨gs, j, none⟩ := by simp [Addr.add]; omega
        rw [hadd]
        exact cell_of hgs (by simpa using hj)) (by simp [wcells, hl]) (fun v hv => wcells_one hv)
    have e2 : ((wcells zs).toList.take 0 ++ (wcells ws).toList ++ (wcells zs).toList.drop (0 + (wcells ws).toList.length)).toArray = wcells ws := by
      rw [List.drop_of_length_le (by simp [wcells, hl])]
      simp
    rw [e2] at e
    rw [show (wcells ws).toList.length = ws.length by simp [wcells]] at e
    refine ⟨_, e, ⟨?_, setRow_heap _ _ _ _ _ _ hN.2⟩, fun B hB => below_setRow (Below.refl B w) hB _⟩
    rw [setRow_other _ _ _ _ hN.ne, ← hl]; exact hN.1

theorem tail_mask {n : Nat} {f : Nat → Bool} (ht : Tail n f) (q y : Nat) (hq : wordsOf n - 1 = q) (hy : 2 ^ used n - 1 = y) : wrd f q &&& (18446744073709551615 - y) = 0 := by
  have hyl : y < 18446744073709551616 := by rw [← hy]; exact mask_lt n
  have hu : used n = n - q * 64 := by rw [← hq]; rfl
  apply Nat.eq_of_testBit_eq
  intro t
  rw [Nat.testBit_and, bit_flip y t hyl, ← hy, Nat.testBit_two_pow_sub_one, wrd_bit, hu]
  by_cases h : t < n - q * 64
  · simp [h]
  · simp [ht (64 * q + t) (by omega)]

set_option maxHeartbeats 2000000 in
set_option maxRecDepth 20000 in
theorem load_own (n : Nat) (f : Nat → Bool) (a0 : Option Addr) (w : World) (hr : Row w (.slice a0 (wordsOf n) (wordsOf n)) (packF n f)) (hn : n ≤ 16777216) (ht : Tail n f) :
    Calls Tryd.prog 23 #[.int .i64 (n : Int), .slice a0 (wordsOf n) (wordsOf n)] w fun e w' => ∃ d g, e = .returned (.tuple #[.pointer (some ⟨d, 0, none⟩), .int .i64 0]) ∧ w.heap.size ≤ d ∧ w.heap.size ≤ g ∧ NewSet w' d g n (packF n f) ∧ Below w.heap.size w w' := by
  have hmw : wordsOf n ≤ 262144 := words_le hn
  have hww : ((n : Int) + 63) / 64 = (wordsOf n : Int) := by unfold wordsOf; omega
  have HR : Hid (Row w (.slice a0 (wordsOf n) (wordsOf n)) (packF n f)) := hr
  have HRW : Hid (∀ w1, Below w.heap.size w w1 → Row w1 (.slice a0 (packF n f).length (packF n f).length) (packF n f)) := fun w1 hb => by
    rw [length_packF]
    refine hr.later hb ?_
    intro g hg
    rcases hr with ⟨h, _⟩ | ⟨g', h, hg'⟩
    · rw [h] at hg; cases hg
    · rw [h] at hg; cases hg; exact (Array.getElem?_eq_some_iff.1 hg').1
  have HCP : Hid (∀ (w1 : World) (d g : Nat), NewSet w1 d g n (zeros n) → Below w.heap.size w w1 → ∃ w2, (Builtin.copy_ #[32, 32] 3 #[.slice (some ⟨g, 0, none⟩) (wordsOf n) (wordsOf n), .slice a0 (wordsOf n) (wordsOf n)]).run Tryd.prog w1 = .ok (goInt (wordsOf n)) w2 ∧ NewSet w2 d g n (packF n f) ∧ ∀ B, B ≤ g → Below B w1 w2) := fun w1 d g h1 h2 => by
    have := copy_into w1 d g n a0 (packF n f) (zeros n) h1 (HRW.out w1 h2) (by rw [length_zeros, length_packF])
    rwa [length_packF] at this
  have hne : ((wordsOf n : Int) != (wordsOf n : Int)) = false := by simp
  clear HRW
  by_cases h0 : n = 0
  · subst h0
    clear hr HR ht
    go_enter Tryd.func23, Tryd.ntmps23
    go_wp2_with (first | (go_at_call 68; refine (mayBe_yes _ _ (by omega) (by omega)).mono ?_; rintro e w ⟨rfl, rfl⟩) | (go_at_call 69; refine (wordsFor_any _ _ (by omega) (by omega)).mono ?_; rintro e w ⟨rfl, rfl⟩))
    go_quiet (fail)
    go_wp2_with (go_at_call 66; refine (empty_own 0 _ hn).mono ?_; rintro e w1 ⟨d, g, rfl, hd, hg, hds, hbl⟩; have d1 : w1.cell? ⟨d, 1, none⟩ = some (.slice (some ⟨g, 0, none⟩) (wordsOf 0) (wordsOf 0)) := cell_of hds.1 (by simp [length_zeros]); have hcb : Below w.heap.size w w1 := (below_drewN (Below.refl _ w) nq).trans hbl; obtain ⟨w2, hcp, hN2, hB2⟩ := HCP.out w1 d g hds hcb; have HN2 : Hid (NewSet w2 d g 0 (packF 0 f)) := hN2; clear hN2 hds hbl)
    go_ret2
    exact ⟨d, g, rfl, hd, hg, HN2.out, hcb.trans (hB2 _ hg)⟩
  · have h0' : 0 < n := by omega
    obtain ⟨q, hq⟩ : ∃ q, wordsOf n - 1 = q := ⟨_, rfl⟩
    have hw0 : 0 < wordsOf n := by unfold wordsOf; omega
    have hw : q < wordsOf n := by omega
    have hqi : (wordsOf n : Int) - 1 = (q : Int) := by omega
    have hqw := i64_nat q (by omega)
    obtain ⟨y, hy⟩ : ∃ y, 2 ^ used n - 1 = y := ⟨_, rfl⟩
    have HY : Hid (2 ^ used n - 1 = y) := hy
    have hyl : y < 18446744073709551616 := by rw [← hy]; exact mask_lt n
    rcases hr with ⟨_, h⟩ | ⟨gs, h, hgs⟩
    · have := congrArg List.length h; rw [length_packF] at this; simp at this; omega
    rw [length_packF] at h
    cases h
    have gc : w.cell? ⟨gs, q, none⟩ = some (.int .u64 (wrd f q : Int)) := by rw [← packF_get n f q hw]; exact cell_of hgs (cells_get (by rw [length_packF]; exact hw))
    have hand : bits .andNot .u64 (wrd f q : Int) (y : Int) = 0 := by rw [u64_andNot_nat _ _ (wrd_lt _ _) hyl, tail_mask ht q y hq hy]; rfl
    have hd0 : decide ((0 : Int) < (n : Int)) = true := by simp; omega
    have hni : (0 : Int) < (n : Int) := by omega
    clear hq hy hgs HR ht h0
    generalize wrd f q = x at *
    go_enter Tryd.func23, Tryd.ntmps23
    go_wp2_with (first | (go_at_call 68; refine (mayBe_yes _ _ (by omega) (by omega)).mono ?_; rintro e w ⟨rfl, rfl⟩) | (go_at_call 69; refine (wordsFor_any _ _ (by omega) (by omega)).mono ?_; rintro e w ⟨rfl, rfl⟩))
    go_quiet ((go_at_call 70; exact Calls.quiet_of_same (lastMask_eq n y _ h0' hn HY.out)))
    go_wp2_with (go_at_call 66; refine (empty_own n _ hn).mono ?_; rintro e w1 ⟨d, g, rfl, hd, hg, hds, hbl⟩; have d1 : w1.cell? ⟨d, 1, none⟩ = some (.slice (some ⟨g, 0, none⟩) (wordsOf n) (wordsOf n)) := cell_of hds.1 (by simp [length_zeros]); have hcb : Below w.heap.size w w1 := (below_drewN (Below.refl _ w) nq).trans hbl; obtain ⟨w2, hcp, hN2, hB2⟩ := HCP.out w1 d g hds hcb; have HN2 : Hid (NewSet w2 d g n (packF n f)) := hN2; clear hN2 hds hbl)
    go_ret2
    exact ⟨d, g, rfl, hd, hg, HN2.out, hcb.trans (hB2 _ hg)⟩
theorem load_ok (n : Nat) (f : Nat → Bool) (a0 : Option Addr) (w : World) (hr : Row w (.slice a0 (wordsOf n) (wordsOf n)) (packF n f)) (hn : n ≤ 16777216) (ht : Tail n f) :
    Calls Tryd.prog 23 #[.int .i64 (n : Int), .slice a0 (wordsOf n) (wordsOf n)] w fun e w' => ∃ d, e = .returned (.tuple #[.pointer (some ⟨d, 0, none⟩), .int .i64 0]) ∧ w.heap.size ≤ d ∧ SetF w' d n f ∧ Below w.heap.size w w' :=
  (load_own n f a0 w hr hn ht).mono fun _ _ ⟨d, _, h1, h2, _, h4, h5⟩ => ⟨d, h1, h2, h4.is, h5⟩
end Go.Proofs.YtcjpnlcjphdlgaaDoor.Bt
