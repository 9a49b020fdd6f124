/-
  known.
-/
import Derived.Test.YtoephmcmmbhnaacLSum
import Derived.Test.YtoephmcmmbhnaacLIn
import Derived.Test.YtoephmcmmbhnaacLLike
namespace Go.Proofs.Ytoephmcmmbhnaac.Ln
open Go.RowKit Go.Sort

def kB (j : Nat) : Nat := if j = 0 then 213 else if j = 1 then 1 else 0
def kL (j : Nat) : Nat := if j = 0 then 7 else if j = 1 then 9 else 0
theorem kB_lt (j : Nat) : kB j < 256 := by
  unfold kB; split
  · omega
  · split <;> omega
theorem kL_lt (j : Nat) : kL j < 18446744073709551616 := by
  unfold kL; split
  · omega
  · split <;> omega
theorem kB_out (j : Nat) (h : 2 ≤ j) : kB j = 0 := by unfold kB; rw [if_neg (by omega), if_neg (by omega)]
theorem k_fault : pfE 2 kB 3 4 = 0 := by decide
theorem k_lane0 : laneOf (bitB kB) 3 0 = 5 := by decide
theorem k_lane1 : laneOf (bitB kB) 3 1 = 2 := by decide
theorem k_lane2 : laneOf (bitB kB) 3 2 = 7 := by decide
theorem k_lane3 : laneOf (bitB kB) 3 3 = 0 := by decide
theorem k_test : ∀ j, j < 4 → standsB 3 (laneOf (bitB kB) 3 j) 5 = [false, true, false, true].getD j false := by decide
theorem k_in : ∀ j, j < 4 → anyB kL 3 (laneOf (bitB kB) 3 j) = [false, false, true, true].getD j false := by decide
theorem k_sum : sumN (laneOf (bitB kB) 3) 4 = 14 := by decide
theorem k_equal : heldV 72623859790382856 72623842610513664 8 1 = 9259541573518000128 := by decide +kernel
theorem k_spread : spV 5 16 = 1407396358717445 ∧ spE 5 16 = 0 := by decide +kernel
theorem k_marks : mkV 9259541573518000128 8 = 238 := by decide +kernel
theorem k_lnE : lnE 8 = 0 := by decide
theorem set_four {w : World} {d : Nat} {f h : Nat → Bool} (hs : Bt.SetF w d 4 (fun i => decide (i < 4) && f i)) (he : ∀ j, j < 4 → f j = h j) : Bt.SetF w d 4 (fun i => decide (i < 4) && h i) := by
  unfold Bt.SetF at *
  have e : (fun i => decide (i < 4) && f i) = fun i => decide (i < 4) && h i := by
    funext i
    by_cases hi : i < 4
    · rw [he i hi]
    · simp [hi]
  rw [e] at hs
  exact hs
theorem nums_lit {w : World} {g : Nat} {cs : Array Value} {t : TypeId} {k : IntKind} {n : Nat} {L : Nat → Nat} (h : w.heap[g]? = some (.cells cs t (0, 0))) (hc : ∀ j, j < n → cs[j]? = some (.int k (L j : Int))) : Nums w k (some ⟨g, 0, none⟩) n L := fun j hj =>
  ⟨g, 0, rfl, (Array.getElem?_eq_some_iff.1 h).1, by simp [World.cell?, h, hc j hj]⟩
theorem bnums_lit {w : World} {g : Nat} {cs : Array Value} {t : TypeId} {n : Nat} {f : Nat → Bool} (h : w.heap[g]? = some (.cells cs t (0, 0))) (hc : ∀ j, j < n → cs[j]? = some (.bool (f j))) : BNums w (some ⟨g, 0, none⟩) n f := fun j hj =>
  ⟨g, 0, rfl, (Array.getElem?_eq_some_iff.1 h).1, by simp [World.cell?, h, hc j hj]⟩

set_option maxHeartbeats 4000000 in
set_option maxRecDepth 20000 in
theorem known_yes (w : World) : Calls Try.prog 4 #[] w fun e w' => e = .returned (.bool true) ∧ Below w.heap.size w w' := by
  have HB0 : Hid (PArg (w.alloc (.cells #[.int .u8 213, .int .u8 1] 5)) (some ⟨w.heap.size, 0, none⟩) 2 2 kB) := by
    refine ⟨by omega, by omega, by omega, kB_lt, kB_out, nums_lit (World.alloc_heap_new w _) fun j hj => ?_⟩
    have : j = 0 ∨ j = 1 := by omega
    rcases this with rfl | rfl <;> rfl
  have HT : Hid (∀ W, Below (w.alloc (.cells #[.int .u8 213, .int .u8 1] 5)).heap.size (w.alloc (.cells #[.int .u8 213, .int .u8 1] 5)) W → Calls Try.prog 8 #[.slice (some ⟨w.heap.size, 0, none⟩) 2 2, .int .i64 3, .int .i64 4, .int .i64 3, .int .u64 5] W fun e w' => Below W.heap.size W w' ∧ ∃ d, e = .returned (.tuple #[.pointer (some ⟨d, 0, none⟩), .int .i64 0]) ∧ d < w'.heap.size ∧ Bt.SetF w' d 4 (fun i => decide (i < 4) && [false, true, false, true].getD i false)) := fun W hW => by
    refine (Test_any _ 2 2 kB 3 4 3 5 W (HB0.out.later hW) (by omega)).mono ?_
    rintro e w' ⟨h1, h2⟩
    have hE : tE 2 kB 3 4 3 = 0 := by decide
    rw [hE] at h2
    rcases h2 with ⟨h, _⟩ | ⟨_, d, g, rfl, hd, hg, hs⟩
    · exact absurd rfl h
    · exact ⟨h1, d, rfl, (Array.getElem?_eq_some_iff.1 hs.1).1, set_four hs.is k_test⟩
  have HI : Hid (∀ W g, Below (w.alloc (.cells #[.int .u8 213, .int .u8 1] 5)).heap.size (w.alloc (.cells #[.int .u8 213, .int .u8 1] 5)) W → W.heap[g]? = some (.cells #[.int .u64 7, .int .u64 9, .int .u64 0] 23 (0, 0)) → Calls Try.prog 9 #[.slice (some ⟨w.heap.size, 0, none⟩) 2 2, .int .i64 3, .int .i64 4, .slice (some ⟨g, 0, none⟩) 3 3] W fun e w' => Below W.heap.size W w' ∧ ∃ d, e = .returned (.tuple #[.pointer (some ⟨d, 0, none⟩), .int .i64 0]) ∧ d < w'.heap.size ∧ Bt.SetF w' d 4 (fun i => decide (i < 4) && [false, false, true, true].getD i false)) := fun W g hW hgc => by
    have hN : Nums W .u64 (some ⟨g, 0, none⟩) 3 kL := nums_lit hgc fun j hj => by
      have : j = 0 ∨ j = 1 ∨ j = 2 := by omega
      rcases this with rfl | rfl | rfl <;> rfl
    refine (In_few _ _ 2 2 3 3 kB kL 3 4 W (HB0.out.later hW) (by omega) kL_lt hN).mono ?_
    rintro e w' ⟨h1, h2⟩
    rw [k_fault] at h2
    rcases h2 with ⟨h, _⟩ | ⟨_, d, g, rfl, hd, hg, hs⟩
    · exact absurd rfl h
    · exact ⟨h1, d, rfl, (Array.getElem?_eq_some_iff.1 hs.1).1, set_four hs.is k_in⟩
  have HS : Hid (∀ W, Below (w.alloc (.cells #[.int .u8 213, .int .u8 1] 5)).heap.size (w.alloc (.cells #[.int .u8 213, .int .u8 1] 5)) W → Calls Try.prog 12 #[.slice (some ⟨w.heap.size, 0, none⟩) 2 2, .int .i64 3, .int .i64 4] W fun e w' => e = .returned (.tuple #[.int .u64 0, .int .u64 14, .int .i64 0]) ∧ Below W.heap.size W w') := fun W hW => by
    have := Sum_any _ 2 2 kB 3 4 W (HB0.out.later hW)
    rw [k_fault] at this
    have e1 : sumH (laneOf (bitB kB) (3 : Int).toNat) (4 : Int).toNat = 0 := by unfold sumH; rw [show (3 : Int).toNat = 3 from rfl, show (4 : Int).toNat = 4 from rfl, k_sum]
    have e2 : sumL (laneOf (bitB kB) (3 : Int).toNat) (4 : Int).toNat = 14 := by unfold sumL; rw [show (3 : Int).toNat = 3 from rfl, show (4 : Int).toNat = 4 from rfl, k_sum]
    rw [if_pos rfl, if_pos rfl, e1, e2] at this
    exact this
  have HQ : Hid (∀ W, Calls Try.prog 18 #[.int .u64 72623859790382856, .int .u64 72623842610513664, .int .i64 8] W fun e w' => e = .returned (.tuple #[.int .u64 9259541573518000128, .int .i64 0]) ∧ Grew W w') := fun W => by
    have := Equal_any 72623859790382856 72623842610513664 8 W (by omega) (by omega)
    rw [k_equal, k_lnE] at this
    exact this
  have HSP : Hid (∀ W, Calls Try.prog 19 #[.int .u64 5, .int .i64 16] W fun e w' => e = .returned (.tuple #[.int .u64 1407396358717445, .int .i64 0]) ∧ w' = W) := fun W => by
    have := Spread_any 5 16 W (by omega)
    rw [k_spread.1, k_spread.2] at this
    exact this
  have HM : Hid (∀ W, Calls Try.prog 20 #[.int .u64 9259541573518000128, .int .i64 8] W fun e w' => e = .returned (.tuple #[.int .u64 238, .int .i64 0]) ∧ Grew W w') := fun W => by
    have := Marks_any 9259541573518000128 8 W (by omega)
    rw [k_marks, k_lnE] at this
    exact this
  have HLK : Hid (∀ (W : World) (d g : Nat) (x0 x1 x2 x3 : Bool), Bt.SetF W d 4 (fun i => decide (i < 4) && [x0, x1, x2, x3].getD i false) → W.heap[g]? = some (.cells #[.bool x0, .bool x1, .bool x2, .bool x3] 4 (0, 0)) → Calls Try.prog 16 #[.pointer (some ⟨d, 0, none⟩), .slice (some ⟨g, 0, none⟩) 4 4, .int .i64 0] W fun e w' => e = .returned (.bool true) ∧ ∃ j, w' = W.drewN j) := fun W d g x0 x1 x2 x3 hs hg => by
    refine like_yes d 4 4 _ _ W hs (by omega) (bnums_lit hg fun j hj => ?_)
    have : j = 0 ∨ j = 1 ∨ j = 2 ∨ j = 3 := by omega
    rcases this with rfl | rfl | rfl | rfl <;> simp
  clear HB0
  go_enter Try.func4, Try.ntmps4
  go_wp2_with (first
    | (go_at_call 8; refine (HT.out _ (Below.refl _ _)).mono ?_; rintro e w1 ⟨hb1, d1, rfl, hd1, hs1⟩)
    | (go_at_call 9; refine (HI.out _ w1.heap.size (below_on hb1 (Grew.alloc _ _).below) (World.alloc_heap_new w1 _)).mono ?_; rintro e w2 ⟨hb2, d2, rfl, hd2, hs2⟩)
    | (go_at_call 12; refine (HS.out _ (below_on (below_on hb1 (Grew.alloc _ _).below) hb2)).mono ?_; rintro e w3 ⟨rfl, hb3⟩)
    | (go_at_call 18; refine (HQ.out _).mono ?_; rintro e w4 ⟨rfl, hg4⟩)
    | (go_at_call 19; refine (HSP.out _).mono ?_; rintro e wz ⟨rfl, hwz⟩; subst wz)
    | (go_at_call 20; refine (HM.out _).mono ?_; rintro e w5 ⟨rfl, hg5⟩))
  have hb35 : Below w3.heap.size w3 w5 := below_on hg4.below hg5.below
  have hb25 : Below w2.heap.size w2 w5 := below_on hb3 hb35
  have hb15 : Below w1.heap.size w1 w5 := below_on (below_on (Grew.alloc w1 _).below hb2) hb25
  have hb05 : Below w.heap.size w w5 := below_on (below_on (Grew.alloc w _).below hb1) hb15
  have ht1 := (Bt.SetF.later hs1 hb15).later (Grew.alloc w5 (.cells #[.bool false, .bool true, .bool false, .bool true] 4)).below
  refine (HLK.out _ d1 w5.heap.size _ _ _ _ ht1 (World.alloc_heap_new w5 _)).mono ?_
  rintro e w6 ⟨rfl, j6, hw6⟩
  have hb56 : Below w5.heap.size w5 w6 := by rw [hw6]; exact ((Grew.alloc w5 _).trans (Grew.drewN _ _)).below
  have HW6 : Hid (Below w.heap.size w w6) := below_on hb05 hb56
  have ht2 : Bt.SetF w6 d2 4 (fun i => decide (i < 4) && [false, false, true, true].getD i false) := (Bt.SetF.later hs2 hb25).later hb56
  have HT2 : Hid (Bt.SetF w6 d2 4 (fun i => decide (i < 4) && [false, false, true, true].getD i false)) := ht2
  clear hw6 ht1 ht2 hs1 hs2 hb56 hb05 hb15 hb25 hb35 hb1 hb2 hb3 hg4 hg5
  go_wp2_with fail
  have ht3 := HT2.out.later (Grew.alloc w6 (.cells #[.bool false, .bool false, .bool true, .bool true] 4)).below
  refine (HLK.out _ d2 w6.heap.size _ _ _ _ ht3 (World.alloc_heap_new w6 _)).mono ?_
  rintro e w7 ⟨rfl, j7, hw7⟩
  have HW7 : Hid (Below w.heap.size w w7) := by rw [hw7]; exact below_on HW6.out ((Grew.alloc w6 _).trans (Grew.drewN _ _)).below
  clear hw7 ht3
  go_wp2
  go_ret
  exact ⟨rfl, HW7.out⟩
end Go.Proofs.Ytoephmcmmbhnaac.Ln
