/-
  THE DOCUMENT's OWN Between.
-/
import Derived.Test.YtoephmcmmbhnaaaLRefT
import Derived.Test.YtoephmcmmbhnaaaLBet
namespace Go.Proofs.Ytoephmcmmbhnaaa.Ln
open Go.RowKit Go.Sort

set_option maxHeartbeats 1000000 in
set_option maxRecDepth 20000 in
theorem refBetween_any (a0 : Option Addr) (nb c : Nat) (B : Nat → Nat) (width n : Int) (lo hi : Nat) (w : World) (hA : PArg w a0 nb c B) :
    Calls Try.prog 22 #[.slice a0 nb c, .int .i64 width, .int .i64 n, .int .u64 (lo : Int), .int .u64 (hi : Int)] w (BAns w (pfE nb B width n) n.toNat (fun i => betB lo hi (laneOf (bitB B) width.toNat i))) := by
  have HF : Hid (∀ W, Below w.heap.size w W → Calls Try.prog 39 #[.slice a0 nb c, .int .i64 width, .int .i64 n] W fun e w' => e = .returned (.int .i64 (pfE nb B width n)) ∧ w' = W) := fun W hW => refFault_any a0 nb c B width n W hA.small hA.byte hA.out (hA.nums.later hW)
  by_cases hf : pfE nb B width n = 0
  · obtain ⟨k, m, rfl, rfl, hk, hm, hs, h0⟩ := pfE_ok hf
    rw [hf] at HF ⊢
    simp only [Int.toNat_natCast]
    have HNB : Hid (∀ W, Below w.heap.size w W → Calls Try.prog 40 #[.slice a0 nb c, .int .i64 (k : Int), .int .i64 (m : Int)] W fun e w' => ∃ v, e = .returned v ∧ Own w' W.heap.size 22 .u64 v m (laneOf (bitB B) k) ∧ Below W.heap.size W w') := fun W hW => refNumbers_any a0 nb c k m B W hA.byte hA.out (hA.nums.later hW) hk hm
    clear hA hf hs h0
    go_enter Try.func22, Try.ntmps22
    go_wp2_with (first
      | (go_at_call 39; refine (HF.out _ (Below.refl _ _)).mono ?_; rintro e wz ⟨rfl, hwz⟩; subst wz)
      | (go_at_call 40; refine (HNB.out _ (Below.refl _ _)).mono ?_; rintro e w1 ⟨v, rfl, hO, hb1⟩; obtain ⟨a1, c1, rfl, hc1, hc2, _⟩ := hO.form))
    have HNM : Hid (Nums w1 .u64 a1 m (laneOf (bitB B) k)) := hO.nums
    have HB1 : Hid (Below w.heap.size w w1) := hb1
    have hsz1 := hb1.size
    clear hO hb1
    go_loopw [13, 15] (fun v ix wr => ∃ i : Nat, i ≤ m ∧ ix = .int .i64 i ∧ Hid (OwnB wr w1.heap.size v i (fun i => betB lo hi (laneOf (bitB B) k i)) ∧ Below w1.heap.size w1 wr)) (fun _ ix _ => m - (intOf ix).toNat)
    case atStart => exact ⟨0, Nat.zero_le _, rfl, OwnB.nil _ _ _, Below.refl _ _⟩
    case round =>
      obtain ⟨i, hi', rfl, HI⟩ := hrel
      obtain ⟨hO, hB⟩ := HI.out
      by_cases hlt : i < m
      · obtain ⟨g0, o0, rfl, hg0, hc0⟩ := HNM.out i hlt
        have hcell : wr.cell? ⟨g0, o0 + i, none⟩ = some (.int .u64 (laneOf (bitB B) k i : Int)) := (hB.cell (p := ⟨g0, o0 + i, none⟩) hg0).trans hc0
        obtain ⟨g, c', w2, hr2, hO2, hB2⟩ := run_oneB hO (by omega) hB.size (betB lo hi (laneOf (bitB B) k i)) rfl
        have HR2 : Hid ((Builtin.append_ #[36, 36] 36 #[u13, .slice (some ⟨wr.heap.size, 0, none⟩) 1 1]).run Try.prog (wr.alloc (.cells #[.bool (betB lo hi (laneOf (bitB B) k i))] 4)) = .ok (.slice (some ⟨g, 0, none⟩) (i + 1) c') w2) := hr2
        have HO2 : Hid (OwnB w2 w1.heap.size (.slice (some ⟨g, 0, none⟩) (i + 1) c') (i + 1) (fun i => betB lo hi (laneOf (bitB B) k i)) ∧ Below w1.heap.size w1 w2) := ⟨hO2, hB.trans hB2⟩
        have hbi : (i : Int) < (m : Int) := by omega
        clear hO hB hO2 hB2 hr2 HI hc0
        generalize laneOf (bitB B) k i = y at *
        by_cases h1 : lo ≤ y
        · have h1d : decide (lo ≤ y) = true := by simpa using h1
          by_cases h2 : y ≤ hi
          · have h2d : decide (y ≤ hi) = true := by simpa using h2
            rw [show betB lo hi y = true by unfold betB; rw [h1d, h2d]; rfl] at HR2
            go_wp2_with (at_builtin; refine wpList_app (by rfl) (by rfl) HR2.out ?_)
            exact ⟨⟨i + 1, by omega, by go_num, HO2.out⟩, by simp [intOf]; omega⟩
          · have h2d : decide (y ≤ hi) = false := by simpa using h2
            rw [show betB lo hi y = false by unfold betB; rw [h1d, h2d]; rfl] at HR2
            go_wp2_with (at_builtin; refine wpList_app (by rfl) (by rfl) HR2.out ?_)
            exact ⟨⟨i + 1, by omega, by go_num, HO2.out⟩, by simp [intOf]; omega⟩
        · have h1d : decide (lo ≤ y) = false := by simpa using h1
          rw [show betB lo hi y = false by unfold betB; rw [h1d]; rfl] at HR2
          go_wp2_with (at_builtin; refine wpList_app (by rfl) (by rfl) HR2.out ?_)
          exact ⟨⟨i + 1, by omega, by go_num, HO2.out⟩, by simp [intOf]; omega⟩
      · obtain rfl : i = m := by omega
        obtain ⟨a2, c2, rfl, hbn⟩ := hO.form
        have HE : Hid (BNums wr a2 i (fun i => betB lo hi (laneOf (bitB B) k i)) ∧ Below w.heap.size w wr) := ⟨hbn, below_on HB1.out hB⟩
        clear hO hB HI hbn
        go_wp2
        go_ret2
        exact ⟨HE.out.2, .inr ⟨rfl, a2, c2, rfl, HE.out.1⟩⟩
  · have HNE : Hid (pfE nb B width n ≠ 0) := hf
    have hne : (pfE nb B width n != 0) = true := by simpa using hf
    clear hA hf
    generalize pfE nb B width n = E at *
    go_enter Try.func22, Try.ntmps22
    go_wp2_with (go_at_call 39; refine (HF.out _ (Below.refl _ _)).mono ?_; rintro e wz ⟨rfl, hwz⟩; subst wz)
    go_ret2
    exact ⟨Below.refl _ _, .inl ⟨HNE.out, rfl⟩⟩
end Go.Proofs.Ytoephmcmmbhnaaa.Ln
