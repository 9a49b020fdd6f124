import Derived.Test.YtcjpnlcjphdlgaaDoorBLay
import Derived.Test.YtcjpnlcjphdlgaaDoorBTail
import Derived.Deep.RegionWith
namespace Go.Proofs.YtcjpnlcjphdlgaaDoor.Bt
open Go.RowKit

theorem from_one {f : Nat → Bool} {i q r : Nat} (hi : i = 64 * q + r) (hz : ∀ t, 64 * (q + 1) ≤ t → f t = false) : wrd f q / 2 ^ r = wrd (fun t => f (i + t)) 0 := by
  refine wrd_ext (Nat.lt_of_le_of_lt (Nat.div_le_self _ _) (wrd_lt _ _)) fun t ht => ?_
  rw [shr_bit, wrd_bit]
  by_cases h : t + r < 64
  · simp [h, show 64 * q + (t + r) = i + t by omega]
  · simp [h, hz (i + t) (by omega)]
theorem from_two {f : Nat → Bool} {i q r : Nat} (hi : i = 64 * q + r) (hr : r < 64) : wrd f q / 2 ^ r ||| wrd f (q + 1) * 2 ^ (64 - r) % 18446744073709551616 = wrd (fun t => f (i + t)) 0 := by
  refine wrd_ext (or64_lt (Nat.lt_of_le_of_lt (Nat.div_le_self _ _) (wrd_lt _ _)) (Nat.mod_lt _ (by omega))) fun t ht => ?_
  rw [Nat.testBit_or, shr_bit, wrd_bit, shl_bit, wrd_bit]
  by_cases h : t + r < 64
  · simp [h, show 64 * q + (t + r) = i + t by omega, show ¬ 64 - r ≤ t by omega]
  · simp [h, ht, show 64 - r ≤ t by omega, show t - (64 - r) < 64 by omega, show 64 * (q + 1) + (t - (64 - r)) = i + t by omega]

set_option maxHeartbeats 1000000 in
set_option maxRecDepth 20000 in
theorem wordFrom_any (b n i z : Nat) (f : Nat → Bool) (w : World) (hs : SetF w b n f) (hn : n ≤ 16777216) (ht : Tail n f) (hi : i < n) (hz : wrd (fun t => f (i + t)) 0 = z) :
    Calls Tryd.prog 72 #[.pointer (some ⟨b, 0, none⟩), .int .i64 (i : Int)] w fun e w' => e = .returned (.int .u64 (z : Int)) ∧ w' = w := by
  obtain ⟨a0, b0, b1, bl, br⟩ := set_slice hs
  have hm : wordsOf n ≤ 262144 := words_le hn
  obtain ⟨q, hq⟩ : ∃ q, i / 64 = q := ⟨_, rfl⟩
  obtain ⟨r, hr⟩ : ∃ r, i % 64 = r := ⟨_, rfl⟩
  have hqi : (i : Int) / 64 = (q : Int) := by omega
  have hri : (i : Int) % 64 = (r : Int) := by omega
  have hr64 : r < 64 := by omega
  have hI : i = 64 * q + r := by omega
  have hw : q < wordsOf n := by unfold wordsOf; omega
  obtain ⟨g, rfl, gl, gc⟩ := row_cellD br (k := q) (by rw [length_packF]; exact hw)
  rw [length_packF] at b1
  rw [packF_get _ _ _ hw] at gc
  have hx := wrd_lt f q
  obtain ⟨s, es⟩ : ∃ s, wrd f q / 2 ^ r = s := ⟨_, rfl⟩
  have hsl : s < 18446744073709551616 := by rw [← es]; exact Nat.lt_of_le_of_lt (Nat.div_le_self _ _) hx
  have hsh : (wrd f q : Int) / 2 ^ r = (s : Int) := by rw [← es, pow_cast]; rfl
  by_cases h2 : q + 1 < wordsOf n
  · obtain ⟨g', e1, _, gc2⟩ := row_cellD br (k := q + 1) (by rw [length_packF]; exact h2)
    cases e1
    rw [packF_get _ _ _ h2] at gc2
    obtain ⟨o, eo⟩ : ∃ o, wrd f (q + 1) * 2 ^ (64 - r) % 18446744073709551616 = o := ⟨_, rfl⟩
    have hol : o < 18446744073709551616 := by rw [← eo]; exact Nat.mod_lt _ (by omega)
    have hov : IntKind.u64.wrap ((wrd f (q + 1) : Int) * 2 ^ (64 - r)) = (o : Int) := by rw [IntKind.wrap_u64, ← eo, pow_cast]; rfl
    have hor := u64_or_nat s o hsl hol
    have hzz : s ||| o = z := by rw [← hz, ← from_two hI hr64, es, eo]
    rw [hzz] at hor
    have hqi2 : (q : Int) + 1 < (wordsOf n : Int) := by omega
    clear es eo hz hzz hI hq hr hs br
    generalize wrd f (q + 1) = y at *
    generalize wrd f q = x at *
    go_enter Tryd.func72, Tryd.ntmps72
    go_wp2
    go_ret
    exact ⟨rfl, rfl⟩
  · have hzz : s = z := by
      rw [← hz, ← from_one hI (fun t h => ht t (by have := wordsOf_lt n; omega)), es]
    rw [hzz] at hsh
    have hqi2 : ¬ ((q : Int) + 1 < (wordsOf n : Int)) := by omega
    clear es hz hzz hI hq hr hs br
    generalize wrd f q = x at *
    go_enter Tryd.func72, Tryd.ntmps72
    go_wp2
    go_ret
    exact ⟨rfl, rfl⟩

theorem wrd_shift (f : Nat → Bool) (a k : Nat) : wrd (fun t => f (a + 64 * k + t)) 0 = wrd (fun t => f (a + t)) k := by
  refine wrd_ext (wrd_lt _ _) fun t ht => ?_
  rw [wrd_bit]
  simp [ht, Nat.add_assoc]

set_option maxHeartbeats 2000000 in
set_option maxRecDepth 20000 in
theorem slice_own (b n a c : Nat) (f : Nat → Bool) (w : World) (hs : SetF w b n f) (hn : n ≤ 16777216) (ht : Tail n f) (h1 : a ≤ c) (h2 : c ≤ n) :
    Calls Tryd.prog 25 #[.pointer (some ⟨b, 0, none⟩), .int .i64 (a : Int), .int .i64 (c : Int)] w fun e w' => ∃ d g, e = .returned (.pointer (some ⟨d, 0, none⟩)) ∧ w.heap.size ≤ d ∧ w.heap.size ≤ g ∧ NewSet w' d g (c - a) (packF (c - a) (fun i => decide (i < c - a) && f (a + i))) ∧ Below w.heap.size w w' := by
  obtain ⟨a0, b0, b1, bl, br⟩ := set_slice hs
  have HS : Hid (SetF w b n f) := hs
  have TL : Hid (Tail n f) := ht
  obtain ⟨m, hm⟩ : ∃ m, c - a = m := ⟨_, rfl⟩
  have hmi : (c : Int) - (a : Int) = (m : Int) := by omega
  have hmn : m ≤ 16777216 := by omega
  have hmw : wordsOf m ≤ 262144 := words_le hmn
  have hac : a + m = c := by omega
  rw [hm]
  clear hs br b1 ht hm
  go_enter Tryd.func25, Tryd.ntmps25
  go_wp2_with (go_at_call 66; refine (empty_own m _ hmn).mono ?_; rintro e w1 ⟨d, g, rfl, hd, hg, hds, hbl⟩; have d1x : w1.cell? ⟨d, 1, none⟩ = some (.slice (some ⟨g, 0, none⟩) (wordsOf m) (wordsOf m)) := cell_of hds.1 (by simp [length_zeros]))
  go_loopw [35] (fun i wr => ∃ k : Nat, k ≤ wordsOf m ∧ i = .int .i64 k ∧ Below w.heap.size w wr ∧ NewSet wr d g m (part (packF m fun t => f (a + t)) k)) (fun i _ => wordsOf m - (intOf i).toNat)
  case atStart =>
    refine ⟨0, Nat.zero_le _, rfl, hbl, ?_⟩
    rw [part_zero, length_packF]; exact hds
  case round =>
    obtain ⟨k, hk, rfl, hB, hN⟩ := hrel
    by_cases hlt : k < wordsOf m
    · have d1 : wr.cell? ⟨d, 1, none⟩ = some (.slice (some ⟨g, 0, none⟩) (wordsOf m) (wordsOf m)) := cell_of hN.1 (by simp [length_part])
      have gc : wr.cell? ⟨g, k, none⟩ = some (.int .u64 ((part (packF m fun t => f (a + t)) k).getD k 0 : Int)) := cell_of hN.2 (cells_get (by rw [length_part, length_packF]; exact hlt))
      have gf : wr.frozen? ⟨g, k, none⟩ = false := frozen_of hN.2
      have hkm : 64 * k < m := by unfold wordsOf at hlt; omega
      obtain ⟨u, hu⟩ : ∃ u, a + 64 * k = u := ⟨_, rfl⟩
      obtain ⟨v, hv⟩ : ∃ v, 64 * k = v := ⟨_, rfl⟩
      have hv1 : (k : Int) * 64 = (v : Int) := by omega
      have hv2 := i64_nat v (by omega)
      have hu1 : (a : Int) + (v : Int) = (u : Int) := by omega
      have hu2 := i64_nat u (by omega)
      have hun : u < n := by omega
      obtain ⟨z, hz⟩ : ∃ z, wrd (fun t => f (u + t)) 0 = z := ⟨_, rfl⟩
      have HZ : Hid (wrd (fun t => f (u + t)) 0 = z) := hz
      have HP : Hid ((packF m fun t => f (a + t)).getD k 0 = z) := by
        show _ = _
        rw [packF_get _ _ _ hlt, ← wrd_shift, hu, hz]
      have HSW : Hid (SetF wr b n f) := SetF.later HS.out hB
      generalize (part (packF m fun t => f (a + t)) k).getD k 0 = old at *
      clear hz hv hu hds hbl d1x b0
      go_wp2
      go_region_with (go_at_call 72; refine (wordFrom_any b n u z f _ (by exact HSW.out) hn TL.out hun HZ.out).mono ?_; rintro e w2 ⟨rfl, rfl⟩)
      all_goals go_wp2
      all_goals exact ⟨⟨k + 1, by omega, by go_num, (hB.setCell (p := ⟨g, k, none⟩) hg _).drew, by rw [← part_setD _ k z (by rw [length_packF]; exact hlt) HP.out]; exact hN.store k _⟩, by simp [intOf]; omega⟩
    · obtain rfl : k = wordsOf m := by omega
      have hN2 : NewSet wr d g m (packF m fun t => f (a + t)) := by
        have := hN
        rwa [show wordsOf m = (packF m fun t => f (a + t)).length from (length_packF _ _).symm, part_all] at this
      have HN : Hid (NewSet wr d g m (packF m fun t => f (a + t))) := hN2
      clear hN hN2
      go_wp2_with (go_at_call 71; refine (clearTail_any d g m _ _ HN.out hmn).mono ?_; rintro e w3 ⟨rfl, hN3, hB3⟩)
      go_ret
      exact ⟨d, g, rfl, hd, hg, hN3, hB.trans (hB3 _ hg)⟩
theorem slice_any (b n a c : Nat) (f : Nat → Bool) (w : World) (hs : SetF w b n f) (hn : n ≤ 16777216) (ht : Tail n f) (h1 : a ≤ c) (h2 : c ≤ n) :
    Calls Tryd.prog 25 #[.pointer (some ⟨b, 0, none⟩), .int .i64 (a : Int), .int .i64 (c : Int)] w fun e w' => ∃ d, e = .returned (.pointer (some ⟨d, 0, none⟩)) ∧ w.heap.size ≤ d ∧ SetF w' d (c - a) (fun i => decide (i < c - a) && f (a + i)) ∧ Below w.heap.size w w' :=
  (slice_own b n a c f w hs hn ht h1 h2).mono fun _ _ ⟨d, _, h1, h2, _, h4, h5⟩ => ⟨d, h1, h2, h4.is, h5⟩
end Go.Proofs.YtcjpnlcjphdlgaaDoor.Bt
