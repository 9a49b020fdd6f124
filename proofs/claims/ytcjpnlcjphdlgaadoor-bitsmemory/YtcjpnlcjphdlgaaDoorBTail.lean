import Derived.Test.YtcjpnlcjphdlgaaDoorBOf
namespace Go.Proofs.YtcjpnlcjphdlgaaDoor.Bt
open Go.RowKit

theorem packF_set' {n : Nat} {f g : Nat → Bool} {j z : Nat} (hz : z < 18446744073709551616) (hb : ∀ k, k < 64 → z.testBit k = g (64 * j + k)) (ho : ∀ i, i < 64 * wordsOf n → i / 64 ≠ j → g i = f i) : (packF n f).set j z = packF n g := by
  apply List.ext_getElem?
  intro t
  rw [List.getElem?_set]
  by_cases ht : t < wordsOf n
  · by_cases hj : j = t
    · subst hj
      simp [packF, ht, ← wrd_ext hz hb]
    · simp [packF, ht, hj]
      exact wrd_congr fun k hk => (ho _ (by omega) (by omega)).symm
  · simp [packF, ht]
    omega
theorem mask_last (n : Nat) (f : Nat → Bool) (hn : 0 < n) (q x y : Nat) (hq : wordsOf n - 1 = q) (hx : (packF n f).getD q 0 = x) (hy : 2 ^ used n - 1 = y) :
    (packF n f).set q (x &&& y) = packF n (fun i => decide (i < n) && f i) := by
  have hw : q < wordsOf n := by unfold wordsOf at *; omega
  have hu : used n = n - q * 64 := by rw [← hq]; rfl
  subst hx hy
  refine packF_set' ?_ ?_ ?_
  · rw [Nat.and_comm]; exact and64_lt _ (packF_lt _ _ _)
  · intro k hk
    rw [packF_get _ _ _ hw, Nat.testBit_and, wrd_bit, Nat.testBit_two_pow_sub_one, hu]
    by_cases h : k < n - q * 64
    · simp [h, hk, show 64 * q + k < n by omega]
    · simp [h, show ¬ 64 * q + k < n by omega]
  · intro i hi hne
    have : i < n := by unfold wordsOf at *; omega
    simp [this]

theorem lastMask_eq (n y : Nat) (w : World) (h0 : 0 < n) (h1 : n ≤ 16777216) (hy : 2 ^ used n - 1 = y) :
    Calls Tryd.prog 70 #[.int .i64 (n : Int)] w fun e w' => e = .returned (.int .u64 (y : Int)) ∧ w' = w := by
  subst hy; exact lastMask_any n w h0 h1
theorem mask_lt (n : Nat) : 2 ^ used n - 1 < 18446744073709551616 := by
  have : 2 ^ used n ≤ 2 ^ 64 := Nat.pow_le_pow_right (by omega) (by unfold used wordsOf; omega)
  omega

set_option maxHeartbeats 8000000 in
set_option maxRecDepth 20000 in
theorem clearTail_any (d g n : Nat) (f : Nat → Bool) (w : World) (hN : NewSet w d g n (packF n f)) (hn : n ≤ 16777216) :
    Calls Tryd.prog 71 #[.pointer (some ⟨d, 0, none⟩)] w fun e w' => e = .returned (.tuple #[]) ∧ NewSet w' d g n (packF n (fun i => decide (i < n) && f i)) ∧ ∀ B, B ≤ g → Below B w w' := by
  have d0 : w.cell? ⟨d, 0, none⟩ = some (.int .i64 (n : Int)) := cell_of hN.1 (by simp)
  by_cases h0 : n = 0
  · subst h0
    go_enter Tryd.func71, Tryd.ntmps71
    go_wp2
    go_end0
    exact ⟨rfl, hN, fun B _ => Below.refl _ _⟩
  · have h0' : 0 < n := by omega
    obtain ⟨q, hq⟩ : ∃ q, wordsOf n - 1 = q := ⟨_, rfl⟩
    have hw0 : 0 < wordsOf n := by unfold wordsOf; omega
    have hm2 : wordsOf n ≤ 262144 := by unfold wordsOf; omega
    have hw : q < wordsOf n := by omega
    have hqi : (wordsOf n : Int) - 1 = (q : Int) := by omega
    have hqw := i64_nat q (by omega)
    have HQ : Hid (wordsOf n - 1 = q) := hq
    clear hq
    have d1 : w.cell? ⟨d, 1, none⟩ = some (.slice (some ⟨g, 0, none⟩) (wordsOf n) (wordsOf n)) := cell_of hN.1 (by simp)
    have gc : w.cell? ⟨g, q, none⟩ = some (.int .u64 ((packF n f).getD q 0 : Int)) := cell_of hN.2 (cells_get (by simpa using hw))
    have gf : w.frozen? ⟨g, q, none⟩ = false := frozen_of hN.2
    have hx := packF_lt n f q
    obtain ⟨x, hxx⟩ : ∃ x, (packF n f).getD q 0 = x := ⟨_, rfl⟩
    rw [hxx] at gc hx
    obtain ⟨y, hyy⟩ : ∃ y, 2 ^ used n - 1 = y := ⟨_, rfl⟩
    have hy : y < 18446744073709551616 := by rw [← hyy]; exact mask_lt n
    have hor := u64_and_nat x y hx hy
    have HX : Hid ((packF n f).getD q 0 = x) := hxx
    have HY : Hid (2 ^ used n - 1 = y) := hyy
    clear hxx hyy hx hy h0
    go_enter Tryd.func71, Tryd.ntmps71
    go_wp2
    go_region_with (go_at_call 70; refine (lastMask_eq n y _ h0' hn HY.out).mono ?_; rintro e w2 ⟨rfl, rfl⟩)
    all_goals go_wp2
    all_goals go_end0
    all_goals exact ⟨rfl, by rw [← mask_last n f h0' q x y HQ.out HX.out HY.out]; exact hN.store q _, fun B hB => ((Below.refl B _).setCell (p := ⟨g, q, none⟩) hB _).drew⟩
end Go.Proofs.YtcjpnlcjphdlgaaDoor.Bt
