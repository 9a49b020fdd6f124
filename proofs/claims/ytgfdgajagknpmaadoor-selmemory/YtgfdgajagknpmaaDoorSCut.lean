/-
  Slice with any ends; Cut.
-/
import Derived.Test.YtgfdgajagknpmaaDoorSJoin
import Derived.Deep.Cut
import Derived.Deep.CutRange
namespace Go.Proofs.YtgfdgajagknpmaaDoor.Sl
open Go.RowKit Go.Shelf Bt

set_option maxHeartbeats 1000000 in
set_option maxRecDepth 20000 in
theorem slice_int (b n a c : Nat) (i j : Int) (f : Nat → Bool) (w : World) (hs : SetF w b n f) (hn : n ≤ 16777216) (ht : Tail n f) (ha : (a : Int) = min (max i 0) (n : Int)) (hc : (c : Int) = max (min j (n : Int)) (a : Int)) :
    Calls Tryd.prog 48 #[.pointer (some ⟨b, 0, none⟩), .int .i64 i, .int .i64 j] w fun e w' => ∃ d g, e = .returned (.pointer (some ⟨d, 0, none⟩)) ∧ w.heap.size ≤ d ∧ w.heap.size ≤ g ∧ NewSet w' d g (c - a) (packF (c - a) (fun i => decide (i < c - a) && f (a + i))) ∧ Below w.heap.size w w' := by
  have h1 : a ≤ c := by omega
  have h2 : c ≤ n := by omega
  obtain ⟨a0, b0, b1, bl, br⟩ := set_slice hs
  have HS : Hid (SetF w b n f) := hs
  have TL : Hid (Tail n f) := ht
  obtain ⟨m, hm⟩ : ∃ m, c - a = m := ⟨_, rfl⟩
  have hmi : (c : Int) - (a : Int) = (m : Int) := by omega
  have hmn : m ≤ 16777216 := by omega
  have hmw : wordsOf m ≤ 262144 := words_le hmn
  have hac : a + m = c := by omega
  rw [hm]
  have HAI : Hid ((a : Int) = min (max i 0) (n : Int)) := ha
  have HCI : Hid ((c : Int) = max (min j (n : Int)) (a : Int)) := hc
  clear hs br b1 ht hm ha hc
  go_enter Tryd.func48, Tryd.ntmps48
  go_upto_region 3 with fail
  go_cut [1] from 9 (fun s1 wx => s1 = .int .i64 (a : Int) ∧ wx = w)
  case first =>
    go_wp2_with fail
    all_goals go_meet
    all_goals
      refine ⟨?_, rfl⟩
      have hA := HAI.out
      congr 1
      try (repeat' split) <;> omega
  case rest =>
  obtain ⟨rfl, rfl⟩ := hcut
  go_upto_region 4 with fail
  go_cut [2] from 9 (fun s2 wx => s2 = .int .i64 (c : Int) ∧ wx = wc)
  case first =>
    go_wp2_with fail
    all_goals go_meet
    all_goals
      refine ⟨?_, rfl⟩
      have hA := HCI.out
      congr 1
      try (repeat' split) <;> omega
  case rest =>
  obtain ⟨rfl, rfl⟩ := hcut
  go_wp2_with (go_at_call 76; refine (empty_own m _ hmn).mono ?_; rintro e w1 ⟨d, g, rfl, hd, hg, hds, hbl⟩; have d1x : w1.cell? ⟨d, 1, none⟩ = some (.slice (some ⟨g, 0, none⟩) (wordsOf m) (wordsOf m)) := cell_of hds.1 (by simp [length_zeros]))
  go_loopw [35] (fun i wr => ∃ k : Nat, k ≤ wordsOf m ∧ i = .int .i64 k ∧ Below wc.heap.size wc wr ∧ NewSet wr d g m (Bt.part (packF m fun t => f (a + t)) k)) (fun i _ => wordsOf m - (intOf i).toNat)
  case atStart =>
    refine ⟨0, Nat.zero_le _, rfl, hbl, ?_⟩
    rw [part_zero, length_packF]; exact hds
  case round =>
    obtain ⟨k, hk, rfl, hB, hN⟩ := hrel
    by_cases hlt : k < wordsOf m
    · have d1 : wr.cell? ⟨d, 1, none⟩ = some (.slice (some ⟨g, 0, none⟩) (wordsOf m) (wordsOf m)) := cell_of hN.1 (by simp [length_part])
      have gc : wr.cell? ⟨g, k, none⟩ = some (.int .u64 ((Bt.part (packF m fun t => f (a + t)) k).getD k 0 : Int)) := cell_of hN.2 (cells_get (by rw [length_part, length_packF]; exact hlt))
      have gf : wr.frozen? ⟨g, k, none⟩ = false := frozen_of hN.2
      have hkm : 64 * k < m := by unfold wordsOf at hlt; omega
      obtain ⟨u, hu⟩ : ∃ u, a + 64 * k = u := ⟨_, rfl⟩
      obtain ⟨v, hv⟩ : ∃ v, 64 * k = v := ⟨_, rfl⟩
      have hv1 : (k : Int) * 64 = (v : Int) := by omega
      have hv2 := i64_nat v (by omega)
      have hu1 : (a : Int) + (v : Int) = (u : Int) := by omega
      have hu2 := i64_nat u (by omega)
      have hun : u < n := by omega
      obtain ⟨z, hz⟩ : ∃ z, wrd (fun t => f (u + t)) 0 = z := ⟨_, rfl⟩
      have HZ : Hid (wrd (fun t => f (u + t)) 0 = z) := hz
      have HP : Hid ((packF m fun t => f (a + t)).getD k 0 = z) := by
        show _ = _
        rw [packF_get _ _ _ hlt, ← wrd_shift, hu, hz]
      have HSW : Hid (SetF wr b n f) := SetF.later HS.out hB
      generalize (Bt.part (packF m fun t => f (a + t)) k).getD k 0 = old at *
      clear hz hv hu hds hbl d1x b0
      go_wp2
      go_region_with (go_at_call 78; refine (wordFrom_any b n u z f _ (by exact HSW.out) hn TL.out hun HZ.out).mono ?_; rintro e w2 ⟨rfl, rfl⟩)
      all_goals go_wp2
      all_goals exact ⟨⟨k + 1, by omega, by go_num, (hB.setCell (p := ⟨g, k, none⟩) hg _).drew, by rw [← part_setD _ k z (by rw [length_packF]; exact hlt) HP.out]; exact hN.store k _⟩, by simp [intOf]; omega⟩
    · obtain rfl : k = wordsOf m := by omega
      have hN2 : NewSet wr d g m (packF m fun t => f (a + t)) := by
        have := hN
        rwa [show wordsOf m = (packF m fun t => f (a + t)).length from (length_packF _ _).symm, part_all] at this
      have HN : Hid (NewSet wr d g m (packF m fun t => f (a + t))) := hN2
      clear hN hN2
      go_wp2_with (go_at_call 77; refine (clearTail_any d g m _ _ HN.out hmn).mono ?_; rintro e w3 ⟨rfl, hN3, hB3⟩)
      go_ret
      exact ⟨d, g, rfl, hd, hg, hN3, hB.trans (hB3 _ hg)⟩

/-- The rows from a to c, less a. -/
def cutF (f : Nat → Bool) (a c : Nat) : Nat → Bool := fun i => decide (i < c - a) && f (a + i)
theorem tail_cut (f : Nat → Bool) (a c : Nat) : Tail (c - a) (cutF f a c) := fun i hi => by simp [cutF]; intro h; omega
theorem clamps (i j : Int) (n : Nat) : ∃ a c : Nat, (a : Int) = min (max i 0) (n : Int) ∧ (c : Int) = max (min j (n : Int)) (a : Int) :=
  ⟨(min (max i 0) (n : Int)).toNat, (max (min j (n : Int)) (min (max i 0) (n : Int))).toNat, by omega, by omega⟩
set_option maxHeartbeats 400000 in
set_option maxRecDepth 20000 in
theorem Cut_any {lo hi : Nat} {sp : Bool} {T : TypeId} {x : Value} {n : Nat} {f : Nat → Bool} (a c : Nat) (i j : Int) (w : World) (h : SelB w lo hi sp T x n f) (ha : (a : Int) = min (max i 0) (n : Int)) (hc : (c : Int) = max (min j (n : Int)) (a : Int)) (hT : Tab w) :
    Calls Tryd.prog 16 #[.iface T x, .int .i64 i, .int .i64 j] w fun e w' => ∃ v, e = .returned v ∧ Ans w w' v (c - a) (cutF f a c) := by
  obtain ⟨KB, rB, ⟨mB, eB⟩, cB⟩ := sel_bits h
  have HCB := hid cB
  have HT : Hid (Tab w) := hT
  have H : Hid (SelB w lo hi sp T x n f) := h
  have HAI : Hid ((a : Int) = min (max i 0) (n : Int)) := ha
  have HCI : Hid ((c : Int) = max (min j (n : Int)) (a : Int)) := hc
  have hn := h.1
  have hcn : c - a ≤ 16777216 := by omega
  clear h hT cB ha hc
  go_enter Tryd.func16, Tryd.ntmps16
  go_wp2_with (first
    | (go_at_call 47; refine (there_any H.out).mono ?_; rintro e w1 ⟨rfl, hb1⟩)
    | (go_at_fn KB; refine (HCB.out _ (H.out.later hb1)).mono ?_; rintro e w2 ⟨d2, g2, rfl, hd2, hg2, hN2, hb2⟩)
    | (go_at_call 48; refine (slice_int d2 n a c i j f _ hN2.is hn H.out.2.1 HAI.out HCI.out).mono ?_; rintro e w3 ⟨d3, g3, rfl, hd3, hg3, hN3, hb3⟩)
    | (go_at_call 40; refine (own_any d3 g3 (c - a) w.heap.size (cutF f a c) _ hN3 hcn (tail_cut f a c) (Nat.le_trans hb1.size (Nat.le_trans hb2.size hd3)) (Nat.le_trans hb1.size (Nat.le_trans hb2.size hg3)) (Nat.le_trans hb1.size (Nat.le_trans hb2.size hb3.size)) (Tab.on (Tab.on (Tab.on HT.out hb1) hb2) hb3)).mono ?_; rintro e w4 ⟨T4, x4, rfl, hS4, hb4⟩))
  go_ret
  exact ⟨_, rfl, Ans.of hS4 ((hb1.trans (hb2.mono hb1.size)).trans (hb3.mono (Nat.le_trans hb1.size hb2.size))) hb4⟩
theorem Cut_nil (i j : Int) (w : World) : Calls Tryd.prog 16 #[.nilIface, .int .i64 i, .int .i64 j] w fun e w' => e = .returned .nilIface ∧ w' = w := by
  go_enter Tryd.func16, Tryd.ntmps16
  go_wp2_with (go_at_call 47; refine (there_nil _).mono ?_; rintro e w1 ⟨rfl, rfl⟩)
  go_ret
  exact ⟨rfl, rfl⟩
end Go.Proofs.YtgfdgajagknpmaaDoor.Sl
