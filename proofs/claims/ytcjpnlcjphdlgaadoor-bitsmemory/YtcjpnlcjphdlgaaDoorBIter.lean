import Derived.RangeFuncNested
import Derived.RangeFuncBound
import Derived.RangeFuncCalls
import Derived.RangeFuncLeaves
import Derived.Shelf.Abstract
import Derived.Shelf.RegionOpen
import Derived.WalkKit
import Derived.OwnWalkIn
import Derived.TacticsInMore
import Derived.LoopNIn
import Derived.LoopIn
import Derived.Test.YtcjpnlcjphdlgaaDoorBLowest
import Derived.Test.YtcjpnlcjphdlgaaDoorBAlg
namespace Go.Proofs.YtcjpnlcjphdlgaaDoor.Bt
open Go.RowKit Go.Shelf
attribute [local go_sem] Oper.semAt_some

/-- What a round keeps: the table, and rows of words from n1 on. -/
def Kept75 (n1 : Nat) (W W' : World) : Prop := Below 1 W W' ∧ ∀ k c fr, n1 ≤ k → W.heap[k]? = some (.cells c 63 fr) → W'.heap[k]? = some (.cells c 63 fr)
theorem Kept75.trans {n1 : Nat} {A B C : World} (h : Kept75 n1 A B) (k : Kept75 n1 B C) : Kept75 n1 A C :=
  ⟨h.1.trans k.1, fun i c fr hi hc => k.2 i c fr hi (h.2 i c fr hi hc)⟩
theorem Kept75.put {n1 : Nat} {w : World} (hw0 : 0 < w.heap.size) (W : World) (l : Nat) (o o' : Obj) (hl : w.heap.size ≤ l) (h : W.heap[l]? = some o) (hc : o.isCells = false) (hw : o.isWalk = false) : Kept75 n1 W (W.putObj l o') :=
  ⟨belowK_b (w := w) (by omega) W l o o' hl h hc hw, fun k c fr _ hk => by
    refine ((grownBy_putObj' W l o').block k (Array.getElem?_eq_some_iff.1 hk).1 (fun e => ?_)).trans hk
    cases e
    rw [h] at hk; cases hk; cases hc⟩
theorem Below.grew {w w' : World} (h : Below w.heap.size w w') : w.grownBy w' none := ⟨h.os, h.tape, h.output, h.size, fun k hk _ => h.block k hk⟩

/-- y: the ones of word j that are numbers from p on. -/
def Rest (f : Nat → Bool) (j p y : Nat) : Prop := y < 18446744073709551616 ∧ ∀ t, t < 64 → y.testBit t = (f (64 * j + t) && decide (p ≤ 64 * j + t))
theorem Rest.start (f : Nat → Bool) (j : Nat) : Rest f j (64 * j) (wrd f j) := ⟨wrd_lt f j, fun t ht => by rw [wrd_bit]; simp [ht]⟩
theorem Rest.zero {f : Nat → Bool} {j p : Nat} (h : Rest f j p 0) (hj : 64 * j ≤ p) (hp : p ≤ 64 * (j + 1)) : pos f (64 * (j + 1)) = pos f p :=
  pos_skip _ hp fun i h1 h2 => by
    have := h.2 (i - 64 * j) (by omega)
    rw [show 64 * j + (i - 64 * j) = i by omega] at this
    simpa [h1] using this.symm
theorem Rest.low {f : Nat → Bool} {j p y : Nat} (h : Rest f j p y) (hj : 64 * j ≤ p) (h0 : y ≠ 0) : low y < 64 ∧ f (64 * j + low y) = true ∧ p ≤ 64 * j + low y ∧ pos f (64 * j + low y) = pos f p ∧ Rest f j (64 * j + low y + 1) (y &&& (y - 1)) := by
  obtain ⟨l1, l2, l3⟩ := low_bits y h0 h.1
  have h2 := h.2 _ l1
  rw [l2] at h2
  have h3 : f (64 * j + Bt.low y) = true ∧ p ≤ 64 * j + Bt.low y := by simpa using h2.symm
  have hlow : ∀ t, t < Bt.low y → (f (64 * j + t) && decide (p ≤ 64 * j + t)) = false := fun t ht => (h.2 t (by omega)).symm.trans (l3 t ht)
  refine ⟨l1, h3.1, h3.2, pos_skip _ h3.2 fun i h4 h5 => ?_, Nat.lt_trans (clear_lt y h0) h.1, fun t ht => ?_⟩
  · have := hlow (i - 64 * j) (by omega)
    rw [show 64 * j + (i - 64 * j) = i by omega] at this
    simpa [h4] using this
  · rw [low_clear y h0 h.1, h.2 t ht]
    by_cases e : t = Bt.low y
    · subst e; simp
    · by_cases h6 : t < Bt.low y
      · have := hlow t h6
        rw [this]; simp; intro _; omega
      · simp [e, show p ≤ 64 * j + t by omega, show 64 * j + Bt.low y + 1 ≤ 64 * j + t by omega]
/-- The numbers as Go's ints. -/
def posI (f : Nat → Bool) (m : Nat) : List Int := (pos f m).map (fun x : Nat => (x : Int))
theorem posI_len (f : Nat → Bool) (m : Nat) : (posI f m).length = cnt f m := by simp [posI, pos_len]
theorem posI_hit {f : Nat → Bool} {a : Nat} (h : f a = true) : posI f (a + 1) = posI f a ++ [(a : Int)] := by simp [posI, pos_hit h]
theorem posI_pre (f : Nat → Bool) {a b : Nat} (h : a ≤ b) : posI f a <+: posI f b := by
  induction b with
  | zero => obtain rfl : a = 0 := by omega
            exact List.prefix_refl _
  | succ b ih =>
    by_cases e : a = b + 1
    · subst e; exact List.prefix_refl _
    · refine (ih (by omega)).trans ?_
      cases hf : f b with
      | true => rw [posI_hit hf]; exact List.prefix_append _ _
      | false =>
        have e := pos_skip (f := f) (a := b) (b + 1) (by omega) (fun i h1 h2 => by rw [show i = b by omega]; exact hf)
        unfold posI; rw [e]; exact List.prefix_refl _

set_option maxHeartbeats 2000000 in
set_option maxRecDepth 20000 in
theorem all1_any (n : Nat) (hn1 : 2 ≤ n) (Bn b m n1 : Nat) (f : Nat → Bool) (w : World) (hBn : w.cell? ⟨Bn, 0, none⟩ = some (.pointer (some ⟨b, 0, none⟩))) (hBl : Bn < w.heap.size)
    (hs : SetF w b m f) (hm : m ≤ 16777216) (ht : Tail m f) (hT : Tab w) (hle : n1 ≤ w.heap.size) :
    SeqStopsK Fence.wide n Tryd.prog 110 #[.pointer (some ⟨Bn, 0, none⟩)] (fun x : Int => #[.int .i64 x]) (Kept75 n1) (fun xs => xs = posI f m) (fun pre => pre <+: posI f m) (cnt f m) w := by
  intro l J Jx W hW hJ hJx hY h0
  have hn0 : 1 ≤ n := by omega
  have hc : W.cell? ⟨Bn, 0, none⟩ = some (.pointer (some ⟨b, 0, none⟩)) := (hW.cell (p := ⟨Bn, 0, none⟩) hBl).trans hBn
  have hsW : SetF W b m f := hs.later hW
  have hTW : Tab W := hT.later hW hT.1
  have HS : Hid (SetF W b m f) := hsW
  have HTW : Hid (Tab W) := hTW
  have hwl : wordsOf m ≤ 262144 := words_le hm
  have hWs : n1 ≤ W.heap.size := Nat.le_trans hle hW.size
  have HJ : Hid (AbidesFrom W.heap.size J) := hJ
  have HY : Hid (∀ pre x W1, J pre W1 → pre.length < cnt f m → YieldAt Fence.wide (n - 1) Tryd.prog l #[.int .i64 x] W1 fun e W' =>
      (e = .returned (.bool true) ∧ J (pre ++ [x]) W' ∧ Kept75 n1 W1 W') ∨ (e = .returned (.bool false) ∧ Jx (pre ++ [x]) W')) := hY
  have HTL : Hid (Tail m f) := ht
  have H0 : Hid (J [] W) := h0
  clear hY hJ hJx hs hBn hT hsW hTW ht h0
  refine callsIn_of_wp Tryd.func110 rfl trivial ?_ rfl
  simp only [Tryd.ntmps110, List.size_toArray, List.length_cons, List.length_nil, Nat.reduceAdd, Nat.reduceSub, Array.replicate_succ, Array.replicate_zero, List.push_toArray, List.append_toArray, List.nil_append, List.cons_append]
  gi_wp2_with (refine ⟨trivial, ?_⟩; gi_at_call 14; refine (callsIn_wide.2 (words_any b m (packF m f) _ HS.out (by rw [length_packF]; exact hwl))).mono ?_; rintro e W1 ⟨rfl, r1, z1, B1⟩; rw [length_packF])
  have hJ1 : J [] W1 := HJ.out _ _ _ none H0.out (Below.grew B1) (fun r e => by cases e)
  have HT1 : Tab W1 := HTW.out.later B1 HTW.out.1
  obtain ⟨G, hG⟩ : ∃ G, W.heap.size = G := ⟨_, rfl⟩
  rw [hG] at r1 hWs
  rw [hG]
  have R1 : Hid (W1.heap[G]? = some (.cells (wcells (packF m f)) 63 (0, 0))) := r1
  clear r1 z1 hG
  gi_loopw [8] (fun i wr => ∃ j : Nat, j ≤ wordsOf m ∧ i = .int .i64 j ∧ Hid (J (posI f (64 * j)) wr) ∧ Hid (wr.heap[G]? = some (.cells (wcells (packF m f)) 63 (0, 0))) ∧ Hid (Tab wr)) (fun i _ => wordsOf m - (intOf i).toNat)
  case atStart => exact ⟨0, Nat.zero_le _, rfl, hJ1, R1, HT1⟩
  case round =>
    clear R1 HT1 hJ1
    obtain ⟨j, hj, rfl, hJ2, hR2, hT2⟩ := hrel
    by_cases hlt : j < wordsOf m
    · have gc : wr.cell? ⟨G, j, none⟩ = some (.int .u64 (wrd f j : Int)) := by
        rw [← packF_get m f j hlt]; exact cell_of hR2.out (cells_get (by rw [length_packF]; exact hlt))
      have hjm : 64 * j < m := by unfold wordsOf at hlt; omega
      gi_wp2
      gi_loopw [4] (fun v wi => ∃ p y : Nat, 64 * j ≤ p ∧ p ≤ 64 * (j + 1) ∧ v = .int .u64 y ∧ Hid (Rest f j p y) ∧ Hid (J (posI f p) wi) ∧ Hid (wi.heap[G]? = some (.cells (wcells (packF m f)) 63 (0, 0))) ∧ Hid (Tab wi)) (fun v _ => (intOf v).toNat)
      case atStart => exact ⟨64 * j, wrd f j, Nat.le_refl _, by omega, rfl, Rest.start f j, hJ2, hR2, hT2⟩
      case round =>
        clear hJ2 hR2 hT2 gc
        obtain ⟨p, y, hp1, hp2, rfl, hRe, hJ3, hR3, hT3⟩ := hrel
        by_cases hy0 : y = 0
        · subst hy0
          gi_wp2
          exact ⟨⟨j + 1, by omega, by go_num, by
            show J _ _
            unfold posI
            rw [Rest.zero hRe.out hp1 hp2]; exact hJ3.out, hR3, hT3⟩, by simp [intOf]; omega⟩
        · obtain ⟨l1, l2, l3, l4, l5⟩ := hRe.out.low hp1 hy0
          have hyl := hRe.out.1
          have hx : 64 * j + low y < m := by
            apply Nat.lt_of_not_le
            intro hle
            rw [HTL.out _ hle] at l2; cases l2
          have hyi : ((y : Int) != 0) = true := by rw [bne_iff_ne]; omega
          obtain ⟨fn, tmps, assign, body, hy, hR⟩ := HY.out (posI f p) ((j : Int) * 64 + (low y : Int)) wr hJ3.out (by
            rw [posI_len]
            have h1 := cnt_mono f l3
            have h2 := cnt_lt hx l2
            omega)
          have e1 : ((j : Int) * 64 + (low y : Int)) = ((64 * j + low y : Nat) : Int) := by omega
          have HPOS : Hid (posI f p ++ [(j : Int) * 64 + (low y : Int)] = posI f (64 * j + low y + 1)) := by
            show _ = _
            rw [posI_hit l2, e1]
            unfold posI; rw [l4]
          have HL5 : Hid (Rest f j (64 * j + low y + 1) (y &&& (y - 1))) := l5
          have HLO : Hid (Lib.ctz 64 y = low y) := rfl
          have hcl := clear_lt y hy0
          clear l2 l3 l4 l5 e1
          generalize low y = b0 at *
          generalize hzz : y &&& (y - 1) = z at *
          have HZZ : Hid (y &&& (y - 1) = z) := hzz
          clear hzz
          gi_wp2_with (first | (refine ⟨trivial, ?_⟩; gi_at_call 109; refine (callsIn_wide.2 (tz_any y _ hT3.out hyl hy0)).mono ?_; rintro e w' ⟨rfl, rfl⟩; rw [HLO.out]))
          refine hR.mono ?_
          rintro e W3 (⟨rfl, hJ4, hk4⟩ | ⟨rfl, hJx4⟩)
          · have hJ5 : Hid (J (posI f (64 * j + b0 + 1)) W3) := by show J _ _; rw [← HPOS.out]; exact hJ4
            have hR5 : Hid (W3.heap[G]? = some (.cells (wcells (packF m f)) 63 (0, 0))) := hk4.2 G _ _ hWs hR3.out
            have hT5 : Hid (Tab W3) := hT3.out.later hk4.1 (by omega)
            clear hJ4 hk4 hy hR
            gi_wp2_with (first | (refine ⟨trivial, ?_⟩; gi_at_call 108; refine (callsIn_wide.2 (without_any y _ hyl hy0)).mono ?_; rintro e w' ⟨rfl, rfl⟩; rw [HZZ.out]))
            exact ⟨⟨64 * j + b0 + 1, z, by omega, by omega, rfl, HL5, hJ5, hR5, hT5⟩, by simp [intOf]; omega⟩
          · have hJx5 : Hid (Jx (posI f (64 * j + b0 + 1)) W3) := by show Jx _ _; rw [← HPOS.out]; exact hJx4
            clear hJx4 hy hR
            gi_wp2
            refine bodyPost_ret (results_none rfl _ _ _) rfl ?_
            exact ⟨⟨_, rfl⟩, .inr ⟨_, posI_pre f (show 64 * j + b0 + 1 ≤ m by omega), hJx5.out⟩⟩
    · gi_wp2
      go_end0
      refine ⟨⟨_, rfl⟩, .inl ⟨_, ?_, hJ2.out⟩⟩
      unfold posI
      rw [pos_skip (a := m) (64 * j) (by have := wordsOf_lt m; omega) (fun i h1 _ => HTL.out i h1)]
end Go.Proofs.YtcjpnlcjphdlgaaDoor.Bt
