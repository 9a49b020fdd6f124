/-
  For BitsMemory: Load of words with room behind them; pick; sameWords of unlike words.
-/
import Derived.Test.YtcjpnlcjphdlgaaDoorBApart
import Derived.Test.YtcjpnlcjphdlgaaDoorBLoad
import Derived.Test.YtcjpnlcjphdlgaaDoorBPut
import Derived.Test.YtcjpnlcjphdlgaaDoorBSlice
import Derived.Test.YtcjpnlcjphdlgaaDoorBJoin
import Derived.Test.YtcjpnlcjphdlgaaDoorBFresh
import Derived.Test.YtcjpnlcjphdlgaaDoorBNot
namespace Go.Proofs.YtcjpnlcjphdlgaaDoor.Bt
open Go.RowKit

theorem copy_from (w : World) (d g n gs c : Nat) (ws zs : List Nat) (hN : NewSet w d g n zs) (hc : ∀ k, k < ws.length → w.cell? ⟨gs, k, none⟩ = some (.int .u64 (ws.getD k 0 : Int))) (hl : zs.length = ws.length) :
    ∃ w2, (Builtin.copy_ #[32, 32] 3 #[.slice (some ⟨g, 0, none⟩) ws.length ws.length, .slice (some ⟨gs, 0, none⟩) ws.length c]).run Tryd.prog w = .ok (goInt ws.length) w2 ∧ NewSet w2 d g n ws ∧ ∀ B, B ≤ g → Below B w w2 := by
  have e := run_copy_row (P := Tryd.prog) w 32 32 3 63 g 0 ws.length ws.length ⟨gs, 0, none⟩ ws.length c (wcells zs) 63 (wcells ws).toList Tryd.underlying32 size75 hN.2
    (by simp [wcells]) (fun j v hj => by
      have hadd : (⟨gs, 0, none⟩ : Addr).add j = ⟨gs, j, none⟩ := by simp [Addr.add]; omega
      rw [hadd]
      have hjl : j < ws.length := by
        have := (List.getElem?_eq_some_iff.1 hj).1
        simpa [wcells] using this
      rw [hc j hjl]
      simp [wcells, hjl] at hj
      rw [← hj]
      simp [List.getD, hjl]) (by simp [wcells, hl]) (fun v hv => wcells_one hv)
  have e2 : ((wcells zs).toList.take 0 ++ (wcells ws).toList ++ (wcells zs).toList.drop (0 + (wcells ws).toList.length)).toArray = wcells ws := by
    rw [List.drop_of_length_le (by simp [wcells, hl])]
    simp
  rw [e2] at e
  rw [show (wcells ws).toList.length = ws.length by simp [wcells]] at e
  refine ⟨_, e, ⟨?_, setRow_heap _ _ _ _ _ _ hN.2⟩, fun B hB => below_setRow (Below.refl B w) hB _⟩
  rw [setRow_other _ _ _ _ hN.ne, ← hl]; exact hN.1

set_option maxHeartbeats 2000000 in
set_option maxRecDepth 20000 in
theorem load_room (n : Nat) (f : Nat → Bool) (gs c : Nat) (w : World) (hg : gs < w.heap.size) (hr : ∀ k, k < wordsOf n → w.cell? ⟨gs, k, none⟩ = some (.int .u64 (wrd f k : Int))) (hn : n ≤ 16777216) (h0' : 0 < n) (ht : Tail n f) :
    Calls Tryd.prog 23 #[.int .i64 (n : Int), .slice (some ⟨gs, 0, none⟩) (wordsOf n) c] w fun e w' => ∃ d g, e = .returned (.tuple #[.pointer (some ⟨d, 0, none⟩), .int .i64 0]) ∧ w.heap.size ≤ d ∧ w.heap.size ≤ g ∧ NewSet w' d g n (packF n f) ∧ Below w.heap.size w w' := by
  have hmw : wordsOf n ≤ 262144 := words_le hn
  have hww : ((n : Int) + 63) / 64 = (wordsOf n : Int) := by unfold wordsOf; omega
  have HCP : Hid (∀ (w1 : World) (d g : Nat), NewSet w1 d g n (zeros n) → Below w.heap.size w w1 → ∃ w2, (Builtin.copy_ #[32, 32] 3 #[.slice (some ⟨g, 0, none⟩) (wordsOf n) (wordsOf n), .slice (some ⟨gs, 0, none⟩) (wordsOf n) c]).run Tryd.prog w1 = .ok (goInt (wordsOf n)) w2 ∧ NewSet w2 d g n (packF n f) ∧ ∀ B, B ≤ g → Below B w1 w2) := fun w1 d g h1 h2 => by
    have := copy_from w1 d g n gs c (packF n f) (zeros n) h1 (fun k hk => by
      rw [length_packF] at hk
      rw [h2.cell (p := ⟨gs, k, none⟩) hg, hr k hk, packF_get n f k hk]) (by rw [length_zeros, length_packF])
    rwa [length_packF] at this
  have hne : ((wordsOf n : Int) != (wordsOf n : Int)) = false := by simp
  obtain ⟨q, hq⟩ : ∃ q, wordsOf n - 1 = q := ⟨_, rfl⟩
  have hw0 : 0 < wordsOf n := by unfold wordsOf; omega
  have hw : q < wordsOf n := by omega
  have hqi : (wordsOf n : Int) - 1 = (q : Int) := by omega
  have hqw := i64_nat q (by omega)
  obtain ⟨y, hy⟩ : ∃ y, 2 ^ used n - 1 = y := ⟨_, rfl⟩
  have HY : Hid (2 ^ used n - 1 = y) := hy
  have hyl : y < 18446744073709551616 := by rw [← hy]; exact mask_lt n
  have gc : w.cell? ⟨gs, q, none⟩ = some (.int .u64 (wrd f q : Int)) := hr q hw
  have hand : bits .andNot .u64 (wrd f q : Int) (y : Int) = 0 := by rw [u64_andNot_nat _ _ (wrd_lt _ _) hyl, tail_mask ht q y hq hy]; rfl
  have hd0 : decide ((0 : Int) < (n : Int)) = true := by simp; omega
  have hni : (0 : Int) < (n : Int) := by omega
  clear hq hy ht hr
  generalize wrd f q = x at *
  go_enter Tryd.func23, Tryd.ntmps23
  go_wp2_with (first | (go_at_call 68; refine (mayBe_yes _ _ (by omega) (by omega)).mono ?_; rintro e w ⟨rfl, rfl⟩) | (go_at_call 69; refine (wordsFor_any _ _ (by omega) (by omega)).mono ?_; rintro e w ⟨rfl, rfl⟩))
  go_quiet ((go_at_call 70; exact Calls.quiet_of_same (lastMask_eq n y _ h0' hn HY.out)))
  go_wp2_with (go_at_call 66; refine (empty_own n _ hn).mono ?_; rintro e w1 ⟨d, g, rfl, hd, hg, hds, hbl⟩; have d1 : w1.cell? ⟨d, 1, none⟩ = some (.slice (some ⟨g, 0, none⟩) (wordsOf n) (wordsOf n)) := cell_of hds.1 (by simp [length_zeros]); have hcb : Below w.heap.size w w1 := (below_drewN (Below.refl _ w) nq).trans hbl; obtain ⟨w2, hcp, hN2, hB2⟩ := HCP.out w1 d g hds hcb; have HN2 : Hid (NewSet w2 d g n (packF n f)) := hN2; clear hN2 hds hbl)
  go_ret2
  exact ⟨d, g, rfl, hd, hg, HN2.out, hcb.trans (hB2 _ hg)⟩

theorem tmod_pick (k : Int) (n : Nat) (hn : 1 ≤ n) : (∃ r : Nat, r < n ∧ k.tmod (n : Int) = (r : Int) ∧ ¬ k.tmod (n : Int) < 0) ∨ (∃ r : Nat, r < n ∧ k.tmod (n : Int) < 0 ∧ k.tmod (n : Int) + (n : Int) = (r : Int)) := by
  by_cases h0 : 0 ≤ k
  · left
    have h1 := Int.emod_nonneg k (show (n : Int) ≠ 0 by omega)
    have h2 := Int.emod_lt_of_pos k (show (0 : Int) < (n : Int) by omega)
    exact ⟨(k % (n : Int)).toNat, by omega, by rw [Int.tmod_eq_emod_of_nonneg h0]; omega, by rw [Int.tmod_eq_emod_of_nonneg h0]; omega⟩
  · obtain ⟨y, rfl⟩ : ∃ y : Int, k = -y := ⟨-k, by omega⟩
    have h1 := Int.emod_nonneg y (show (n : Int) ≠ 0 by omega)
    have h2 := Int.emod_lt_of_pos y (show (0 : Int) < (n : Int) by omega)
    rw [Int.neg_tmod, Int.tmod_eq_emod_of_nonneg (by omega)]
    by_cases h3 : y % (n : Int) = 0
    · left; exact ⟨0, by omega, by rw [h3]; rfl, by omega⟩
    · right; exact ⟨((n : Int) - y % (n : Int)).toNat, by omega, by omega, by omega⟩
set_option maxHeartbeats 400000 in
theorem pick_any (k : Int) (n : Nat) (w : World) (hn : 1 ≤ n) (hn2 : n ≤ 16777216) :
    Calls Tryd.prog 9 #[.int .i64 k, .int .i64 (n : Int)] w fun e w' => ∃ r : Nat, r < n ∧ e = .returned (.int .i64 (r : Int)) ∧ w' = w := by
  have hd : decide ((n : Int) < 1) = false := by simp; omega
  have hn0 : ¬ ((n : Int) = 0) := by omega
  have hn0' : ¬ n = 0 := by omega
  rcases tmod_pick k n hn with ⟨r, h1, h2, h3⟩ | ⟨r, h1, h2, h3⟩
  · have h3d : ¬ ((r : Int) < 0) := by omega
    go_enter Tryd.func9, Tryd.ntmps9
    go_wp2
    go_ret
    exact ⟨r, h1, rfl, rfl⟩
  · obtain ⟨z, hz⟩ : ∃ z, k.tmod (n : Int) = z := ⟨_, rfl⟩
    rw [hz] at h2 h3
    go_enter Tryd.func9, Tryd.ntmps9
    go_wp2
    go_ret
    exact ⟨r, h1, rfl, rfl⟩

set_option maxHeartbeats 400000 in
set_option maxRecDepth 20000 in
theorem same_no (a0 a1 : Option Addr) (m c0 c1 : Nat) (v u : Nat → Nat) (w : World) (hm : m ≤ 262144) (hd : ∃ k, k < m ∧ v k ≠ u k)
    (h0 : ∀ k, k < m → ∃ g o, a0 = some ⟨g, o, none⟩ ∧ w.cell? ⟨g, o + k, none⟩ = some (.int .u64 (v k : Int)))
    (h1 : ∀ k, k < m → ∃ g o, a1 = some ⟨g, o, none⟩ ∧ w.cell? ⟨g, o + k, none⟩ = some (.int .u64 (u k : Int))) :
    Calls Tryd.prog 17 #[.slice a0 m c0, .slice a1 m c1] w fun e w' => e = .returned (.bool false) ∧ ∃ j, w' = w.drewN j := by
  have H0 : Hid (∀ k, k < m → ∃ g o, a0 = some ⟨g, o, none⟩ ∧ w.cell? ⟨g, o + k, none⟩ = some (.int .u64 (v k : Int))) := h0
  have H1 : Hid (∀ k, k < m → ∃ g o, a1 = some ⟨g, o, none⟩ ∧ w.cell? ⟨g, o + k, none⟩ = some (.int .u64 (u k : Int))) := h1
  have HD : Hid (∃ k, k < m ∧ v k ≠ u k) := hd
  clear h0 h1 hd
  go_enter Tryd.func17, Tryd.ntmps17
  go_wp2
  go_loopw [5] (fun i wr => ∃ k : Nat, k ≤ m ∧ i = .int .i64 k ∧ Hid (∀ j, j < k → v j = u j) ∧ ∃ j, wr = w.drewN j) (fun i _ => m - (intOf i).toNat)
  case atStart => exact ⟨0, Nat.zero_le _, rfl, fun j hj => by omega, 0, rfl⟩
  case round =>
    obtain ⟨k, hk, rfl, HE, j, rfl⟩ := hrel
    by_cases hlt : k < m
    · obtain ⟨g, o, rfl, hc0⟩ := H0.out k hlt
      obtain ⟨g1, o1, rfl, hc1⟩ := H1.out k hlt
      have hki : (k : Int) < (m : Int) := by omega
      by_cases he : v k = u k
      · have HE2 : Hid (∀ j, j < k + 1 → v j = u j) := fun j hj => by
          by_cases e : j = k
          · subst e; exact he
          · exact HE.out j (by omega)
        rw [← he] at hc1
        clear he HE
        generalize v k = x at *
        have hxx : (x == x) = true := by simp
        go_wp2
        go_quiet (fail)
        go_wp2
        exact ⟨⟨k + 1, by omega, by go_num, HE2, _, rfl⟩, by simp [intOf]; omega⟩
      · have hxy : (v k == u k) = false := by simpa using he
        have hxz : ((v k : Int) == (u k : Int)) = false := by simp; omega
        clear he HE
        generalize v k = x at *
        generalize u k = y at *
        go_wp2
        go_quiet (fail)
        go_wp2
        go_ret
        exact ⟨rfl, j + nq, by rw [World.drewN_drewN]⟩
    · obtain ⟨q, hq, hne⟩ := HD.out
      exact absurd (HE.out q (by omega)) hne
end Go.Proofs.YtcjpnlcjphdlgaaDoor.Bt
