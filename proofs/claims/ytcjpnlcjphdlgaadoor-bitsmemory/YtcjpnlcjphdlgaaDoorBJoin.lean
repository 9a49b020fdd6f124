import Derived.Test.YtcjpnlcjphdlgaaDoorBLay
namespace Go.Proofs.YtcjpnlcjphdlgaaDoor.Bt
open Go.RowKit

/-- The first k lengths together. -/
def sumN (N : Nat → Nat) : Nat → Nat
  | 0 => 0
  | k + 1 => sumN N k + N k
/-- What the first k sets hold, each by the lengths ahead of it higher. -/
def joinAll (N : Nat → Nat) (F : Nat → Nat → Bool) : Nat → Nat → Bool
  | 0 => fun _ => false
  | k + 1 => joinF (joinAll N F k) (F k) (sumN N k)
theorem sumN_mono (N : Nat → Nat) {a b : Nat} (h : a ≤ b) : sumN N a ≤ sumN N b := by
  induction b with
  | zero => obtain rfl : a = 0 := by omega
            exact Nat.le_refl _
  | succ b ih =>
    by_cases e : a = b + 1
    · subst e; exact Nat.le_refl _
    · have := ih (by omega); rw [sumN]; omega
theorem joinAll_tail {N : Nat → Nat} {F : Nat → Nat → Bool} : ∀ k, (∀ j, j < k → Tail (N j) (F j)) → Tail (sumN N k) (joinAll N F k)
  | 0, _ => fun _ _ => rfl
  | k + 1, h => fun i hi => by
    rw [sumN] at hi
    unfold joinAll joinF
    rw [joinAll_tail k (fun j hj => h j (by omega)) i (by omega), h k (by omega) (i - sumN N k) (by omega)]
    simp

set_option maxHeartbeats 1000000 in
set_option maxRecDepth 20000 in
theorem join_any (a0 : Option Addr) (m c : Nat) (P N : Nat → Nat) (F : Nat → Nat → Bool) (w : World)
    (hl : ∀ k, k < m → ∃ g o, a0 = some ⟨g, o, none⟩ ∧ g < w.heap.size ∧ w.cell? ⟨g, o + k, none⟩ = some (.pointer (some ⟨P k, 0, none⟩)))
    (hs : ∀ k, k < m → SetF w (P k) (N k) (F k)) (ht : ∀ k, k < m → Tail (N k) (F k)) (hm : m ≤ 4611686018427387904) (hn : sumN N m ≤ 16777216) :
    Calls Tryd.prog 22 #[.slice a0 m c] w fun e w' => ∃ d g, e = .returned (.tuple #[.pointer (some ⟨d, 0, none⟩), .int .i64 0]) ∧ w.heap.size ≤ d ∧ w.heap.size ≤ g ∧ NewSet w' d g (sumN N m) (packF (sumN N m) (joinAll N F m)) ∧ Below w.heap.size w w' := by
  have HL : Hid (∀ k, k < m → ∃ g o, a0 = some ⟨g, o, none⟩ ∧ g < w.heap.size ∧ w.cell? ⟨g, o + k, none⟩ = some (.pointer (some ⟨P k, 0, none⟩))) := hl
  have HS : Hid (∀ k, k < m → SetF w (P k) (N k) (F k)) := hs
  have HT : Hid (∀ k, k < m → Tail (N k) (F k)) := ht
  clear hl hs ht
  go_enter Tryd.func22, Tryd.ntmps22
  go_wp2
  go_loop [15] (fun i => ∃ k : Nat, k ≤ m ∧ i = .int .i64 k) (fun i => m - (intOf i).toNat)
  case atStart => exact ⟨0, Nat.zero_le _, rfl⟩
  case round =>
    obtain ⟨k, hk, rfl⟩ := hrel
    by_cases hlt : k < m
    · obtain ⟨g, o, rfl, gl, gc⟩ := HL.out k hlt
      go_wp2
      go_round
      case rel => exact ⟨k + 1, by omega, by go_num⟩
      case measure => simp [intOf]; omega
    · clear hk
      go_wp2
      go_loop [6, 24] (fun t i => ∃ k : Nat, k ≤ m ∧ i = .int .i64 k ∧ t = .int .i64 (sumN N k : Int)) (fun _ i => m - (intOf i).toNat)
      case atStart => exact ⟨0, Nat.zero_le _, rfl, rfl⟩
      case round =>
        obtain ⟨k, hk, rfl, rfl⟩ := hrel
        by_cases hlt2 : k < m
        · obtain ⟨g, o, rfl, gl, gc⟩ := HL.out k hlt2
          obtain ⟨_, b0, _, _, _⟩ := set_slice (HS.out k hlt2)
          have hle := sumN_mono N (show k + 1 ≤ m by omega)
          rw [sumN] at hle
          go_wp2
          go_round
          case rel => exact ⟨k + 1, by omega, by go_num, by rw [sumN]; go_num⟩
          case measure => simp [intOf]; omega
        · obtain rfl : k = m := by omega
          go_wp2_with (go_at_call 66; refine (empty_own (sumN N k) _ hn).mono ?_; rintro e w1 ⟨d, g, rfl, hd, hg, hds, hbl⟩)
          go_loopw [10, 41] (fun t i wr => ∃ j : Nat, j ≤ k ∧ i = .int .i64 j ∧ t = .int .i64 (sumN N j : Int) ∧ Below w.heap.size w wr ∧ NewSet wr d g (sumN N k) (packF (sumN N k) (joinAll N F j))) (fun _ i _ => k - (intOf i).toNat)
          case atStart => exact ⟨0, Nat.zero_le _, rfl, rfl, hbl, by
            have e : joinAll N F 0 = fun _ => false := rfl
            rw [e, packF_none]; exact hds⟩
          case round =>
            obtain ⟨j, hj, rfl, rfl, hB, hN⟩ := hrel
            by_cases hlt3 : j < k
            · obtain ⟨gl, ol, rfl, gll, glc⟩ := HL.out j hlt3
              have gc : wr.cell? ⟨gl, ol + j, none⟩ = some (.pointer (some ⟨P j, 0, none⟩)) := (hB.cell (p := ⟨gl, ol + j, none⟩) gll).trans glc
              obtain ⟨_, b0, _, bl, _⟩ := set_slice (HS.out j hlt3)
              have hle := sumN_mono N (show j + 1 ≤ k by omega)
              rw [sumN] at hle
              have HN : Hid (NewSet wr d g (sumN N k) (packF (sumN N k) (joinAll N F j))) := hN
              have HB : Hid (Below w.heap.size w wr) := hB
              clear hN hB hds hbl glc
              go_wp2_with (go_at_call 67; refine (lay_any d g (sumN N k) (P j) (N j) (sumN N j) (joinAll N F j) (F j) w _ HB.out hg HN.out (HS.out j hlt3) (HT.out j hlt3) hn hle).mono ?_; rintro e w2 ⟨rfl, hN3, hB3⟩; have b02 : w2.cell? ⟨P j, 0, none⟩ = some (.int .i64 (N j : Int)) := ((HB.out.trans (hB3 _ hg)).cell (p := ⟨P j, 0, none⟩) bl).trans b0)
              exact ⟨⟨j + 1, by omega, by go_num, by rw [sumN]; go_num, HB.out.trans (hB3 _ hg), hN3⟩, by simp [intOf]; omega⟩
            · obtain rfl : j = k := by omega
              go_wp2
              go_ret2
              exact ⟨d, g, rfl, hd, hg, hN, hB⟩
end Go.Proofs.YtcjpnlcjphdlgaaDoor.Bt
