import Derived.Test.YtcjpnlcjphdlgaaDoorBLowest
import Derived.Test.YtcjpnlcjphdlgaaDoorBAlg
namespace Go.Proofs.YtcjpnlcjphdlgaaDoor.Bt
open Go.RowKit

set_option maxHeartbeats 400000 in
set_option maxRecDepth 20000 in
theorem rank_low (b : Nat) (i : Int) (w : World) (hi : i ≤ 0) :
    Calls Tryd.prog 52 #[.pointer (some ⟨b, 0, none⟩), .int .i64 i] w fun e w' => e = .returned (.int .i64 0) ∧ w' = w := by
  go_enter Tryd.func52, Tryd.ntmps52
  go_wp2
  go_ret
  exact ⟨rfl, rfl⟩
set_option maxHeartbeats 400000 in
set_option maxRecDepth 20000 in
theorem rank_high (b n : Nat) (f : Nat → Bool) (i : Int) (w : World) (hs : SetF w b n f) (hn : n ≤ 16777216) (ht : Tail n f) (h0 : 0 < i) (hi : (n : Int) ≤ i) :
    Calls Tryd.prog 52 #[.pointer (some ⟨b, 0, none⟩), .int .i64 i] w fun e w' => e = .returned (.int .i64 (cnt f n : Int)) ∧ w' = w := by
  obtain ⟨a0, b0, b1, bl, br⟩ := set_slice hs
  have h1 : ¬ i ≤ 0 := by omega
  have hd : decide (i ≤ 0) = false := by simpa using h1
  clear br b1
  go_enter Tryd.func52, Tryd.ntmps52
  go_wp2_with (go_at_call 12; refine (count_any b n f _ hs hn ht).mono ?_; rintro e w' ⟨rfl, rfl⟩)
  go_ret
  exact ⟨rfl, rfl⟩

theorem pops_take (n q : Nat) (f : Nat → Bool) (hq : q ≤ wordsOf n) : pops ((packF n f).take q) = cnt f (64 * q) := by
  rw [packF, ← List.map_take, List.take_range, show min q (wordsOf n) = q by omega, pops_range]

set_option maxHeartbeats 1000000 in
set_option maxRecDepth 20000 in
theorem rank_mid (b n i : Nat) (f : Nat → Bool) (w : World) (hs : SetF w b n f) (hn : n ≤ 16777216) (h0 : 0 < i) (hi : i < n) :
    Calls Tryd.prog 52 #[.pointer (some ⟨b, 0, none⟩), .int .i64 (i : Int)] w fun e w' => e = .returned (.int .i64 (cnt f i : Int)) ∧ ∃ j, w' = w.drewN j := by
  obtain ⟨a0, b0, b1, bl, br⟩ := set_slice hs
  have hm : wordsOf n ≤ 262144 := words_le hn
  obtain ⟨q, hq⟩ : ∃ q, i / 64 = q := ⟨_, rfl⟩
  have hw : q < wordsOf n := by unfold wordsOf; omega
  have hqi : (i : Int) / 64 = (q : Int) := by omega
  have hqw := i64_nat q (by omega)
  obtain ⟨g, rfl, gl, gc⟩ := row_cellD br (k := q) (by rw [length_packF]; exact hw)
  have hcell : ∀ k, k < wordsOf n → w.cell? ⟨g, k, none⟩ = some (.int .u64 ((packF n f).getD k 0 : Int)) := fun k hk => by
    obtain ⟨g', e1, _, e3⟩ := row_cellD br (k := k) (by rw [length_packF]; exact hk)
    cases e1; exact e3
  have hco := fun wx (hwx : ∀ a, wx.cell? a = w.cell? a) => countOf_any (some ⟨g, 0, none⟩) (wordsOf n) ((packF n f).take q) q wx (fun k hk => ⟨g, 0, rfl, by
      rw [Nat.zero_add, hwx, hcell k (by omega)]
      congr 3
      rw [List.getD_eq_getElem?_getD, List.getD_eq_getElem?_getD, List.getElem?_take_of_lt hk]⟩) (by omega)
    (fun k => by
      by_cases hk : k < q
      · have := packF_lt n f k
        rw [List.getD_eq_getElem?_getD, List.getElem?_take_of_lt hk, ← List.getD_eq_getElem?_getD]; exact this
      · rw [List.getD_eq_getElem?_getD, List.getElem?_take, if_neg hk]; simp)
    (by simp; omega)
  rw [length_packF] at b1
  rw [packF_get _ _ _ hw] at gc
  have hx := wrd_lt f q
  obtain ⟨y, hy⟩ : ∃ y, 2 ^ (i % 64) = y := ⟨_, rfl⟩
  have hy1 : y ≤ 9223372036854775808 := by rw [← hy]; exact pow_le64 (by omega)
  have hy0 : 0 < y := by rw [← hy]; exact Nat.two_pow_pos _
  have hyw : IntKind.u64.wrap ((y : Int) - 1) = ((y - 1 : Nat) : Int) := by rw [u64_left _ (by omega) (by omega)]; omega
  have hand := u64_and_nat (wrd f q) (y - 1) hx (by omega)
  have HE : Hid (cnt f (64 * q) + pop (wrd f q &&& (y - 1)) = cnt f i) := by
    show _ = _
    rw [← hy, pop_mask _ _ (by omega), cnt_congr (g := fun k => f (64 * q + k)) (i % 64) (fun k hk => by rw [wrd_bit]; simp [show k < 64 by omega]), ← cnt_add]
    congr 1; omega
  have hzl : wrd f q &&& (y - 1) < 18446744073709551616 := and64_lt _ (by omega)
  have hpl := pop_le (wrd f q &&& (y - 1))
  have HCO : Hid (∀ wx : World, (∀ a, wx.cell? a = w.cell? a) → Calls Tryd.prog 60 #[.slice (some ⟨g, 0, none⟩) q (wordsOf n)] wx fun e w' => e = .returned (.int .i64 (cnt f (64 * q) : Int)) ∧ w' = wx) := by
    show ∀ wx : World, _
    intro wx hwx
    have := hco wx hwx
    rwa [pops_take n q f (by omega)] at this
  have hcl : cnt f (64 * q) ≤ 64 * q := cnt_le _ _
  have HY : Hid (2 ^ (i % 64) = y) := hy
  have hdi : decide ((i : Int) ≤ 0) = false := by simp; omega
  have hni : ¬ ((n : Int) ≤ (i : Int)) := by omega
  have HQ : Hid (i / 64 = q) := hq
  clear hco hcell hq hy hs br
  generalize wrd f q &&& (y - 1) = z at *
  generalize y - 1 = y' at *
  generalize wrd f q = x at *
  generalize cnt f (64 * q) = cq at *
  go_enter Tryd.func52, Tryd.ntmps52
  go_wp2
  go_quiet ((go_at_call 59; exact Calls.quiet_of_same (bitOf_eq i y _ (by omega) HY.out)))
  go_wp2_with (first | (go_at_call 60; refine Calls.mono (HCO.out _ (fun _ => rfl)) ?_; rintro e w' ⟨rfl, rfl⟩) | (go_at_call 95; refine (ones_any z _ hzl).mono ?_; rintro e w' ⟨rfl, rfl⟩))
  go_ret
  exact ⟨ret_int (by have := HE.out; omega), _, rfl⟩
end Go.Proofs.YtcjpnlcjphdlgaaDoor.Bt
