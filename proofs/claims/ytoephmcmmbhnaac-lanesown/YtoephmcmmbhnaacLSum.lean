/-
  Sum.
-/
import Derived.Test.YtoephmcmmbhnaacLEachSum
import Derived.Test.YtoephmcmmbhnaacLTest
import Derived.Laws.Externs
namespace Go.Proofs.Ytoephmcmmbhnaac.Ln
open Go.RowKit Go.Sort

theorem add64_run (x y s cy : Nat) (hs : (x + y) % 18446744073709551616 = s) (hc : (x + y) / 18446744073709551616 = cy) (w : World) : (callFunc 44 #[.int .u64 (x : Int), .int .u64 (y : Int), .int .u64 0]).run Try.prog w =
    .ok (.value (.tuple #[.int .u64 (s : Int), .int .u64 (cy : Int)])) w := by
  rw [run_callFunc_extern Try.func44 (by kernel_rfl) (by kernel_rfl) (by kernel_rfl) (e := add64Entry) (by kernel_rfl)]
  rw [run_add64 (P := Try.prog) (x : Int) (y : Int) 0 (by omega) (by omega) (by omega) (by omega) w]
  have e1 : ((x : Int) + (y : Int) + 0) % 18446744073709551616 = (s : Int) := by omega
  have e2 : ((x : Int) + (y : Int) + 0) / 18446744073709551616 = (cy : Int) := by omega
  rw [e1, e2]
  rfl

/-- The two words of a sum. -/
def sumH (L : Nat → Nat) (t : Nat) : Nat := sumN L t / 18446744073709551616
def sumL (L : Nat → Nat) (t : Nat) : Nat := sumN L t % 18446744073709551616

set_option maxHeartbeats 1000000 in
theorem sum1_any (bh bl t : Nat) (L : Nat → Nat) (W : World) (hne : bh ≠ bl) (ht : t < 16777216) (hL : ∀ j, L j < 18446744073709551616) (hH : Box W bh (sumH L t)) (hLo : Box W bl (sumL L t)) :
    Calls Try.prog 43 #[.int .u64 (L t : Int), .pointer (some ⟨bl, 0, none⟩), .pointer (some ⟨bh, 0, none⟩)] W fun e w' => e = .returned (.tuple #[]) ∧ Box w' bh (sumH L (t + 1)) ∧ Box w' bl (sumL L (t + 1)) ∧ Keeps bh bl W w' := by
  have hLt := hL t
  have hsm : sumN L t ≤ t * 18446744073709551616 := sumN_le fun j _ => Nat.le_of_lt (hL j)
  have e1 : sumL L (t + 1) = (sumL L t + L t) % 18446744073709551616 := by unfold sumL; rw [sumN]; omega
  have e2 : sumH L (t + 1) = sumH L t + (sumL L t + L t) / 18446744073709551616 := by unfold sumH sumL; rw [sumN]; omega
  have hHl : sumH L (t + 1) < 16777217 := by unfold sumH; rw [sumN]; omega
  obtain ⟨cy, hcy⟩ : ∃ cy, (sumL L t + L t) / 18446744073709551616 = cy := ⟨_, rfl⟩
  have hadd := add64_run (sumL L t) (L t) (sumL L (t + 1)) cy e1.symm hcy
  rw [hcy] at e2
  have cl := hLo.cell
  have fl := hLo.frozen
  have ch := hH.cell
  have fh := hH.frozen
  have BL : Hid (Box W bl (sumL L t)) := hLo
  have BH : Hid (Box W bh (sumH L t)) := hH
  have hsum : IntKind.u64.wrap ((sumH L t : Int) + (cy : Int)) = (sumH L (t + 1) : Int) := by rw [u64_left _ (by omega) (by omega)]; omega
  have hsum2 : (sumH L t : Int) + (cy : Int) = (sumH L (t + 1) : Int) := by omega
  clear hL hsm e1 e2 hcy hLo hH
  generalize sumL L (t + 1) = l1 at *
  generalize sumH L (t + 1) = h1 at *
  generalize sumL L t = l0 at *
  generalize sumH L t = h0 at *
  generalize L t = v at *
  go_enter Try.func43, Try.ntmps43
  go_wp2_with (simp only [hadd])
  go_end0
  exact ⟨rfl, (BH.out.far hne _).set _, (BL.out.set _).far (Ne.symm hne) _, ((Keeps.refl bh bl W).setL 0 _).setH 0 _⟩

/-- What Sum answers. -/
def SumAns (w : World) (E : Int) (hi lo : Nat) (e : Ending) (w' : World) : Prop := e = .returned (.tuple #[.int .u64 (hi : Int), .int .u64 (lo : Int), .int .i64 E]) ∧ Below w.heap.size w w'
theorem sum_none (f : Nat → Bool) : ∀ m, sumN (laneOf f 0) m = 0
  | 0 => rfl
  | m + 1 => by rw [sumN, sum_none f m]; rfl
theorem below_set {w w' : World} {B : Nat} (h : Below B w w') {b : Nat} (hb : B ≤ b) (i : Nat) (v : Value) : Below B w (w'.setCell ⟨b, i, none⟩ v) := h.setCell (p := ⟨b, i, none⟩) hb v

set_option maxHeartbeats 1000000 in
set_option maxRecDepth 20000 in
theorem Sum_bad (a0 : Option Addr) (nb c : Nat) (B : Nat → Nat) (width n : Int) (w : World) (hA : PArg w a0 nb c B) (hf : pfE nb B width n ≠ 0) :
    Calls Try.prog 12 #[.slice a0 nb c, .int .i64 width, .int .i64 n] w (SumAns w (pfE nb B width n) 0 0) := by
  have HP : Hid (∀ W, Below w.heap.size w W → Calls Try.prog 24 #[.slice a0 nb c, .int .i64 width, .int .i64 n] W fun e w' => e = .returned (.tuple #[.agg #[.slice none 0 0, .int .i64 0, .int .i64 0], .int .i64 (pfE nb B width n)]) ∧ Grew W w') := fun W hW => packedOf_no a0 nb c B width n W hA.small hA.cap hA.cap2 hA.byte hA.out (hA.nums.later hW) hf
  clear hA
  generalize pfE nb B width n = E at *
  have hne : (E != 0) = true := by simpa using hf
  clear hf
  go_enter Try.func12, Try.ntmps12
  go_wp2_with (go_at_call 24; refine (HP.out _ ((Grew.alloc w _).trans (Grew.alloc _ _)).below).mono ?_; rintro e w1 ⟨rfl, hg⟩
               have hgz := ((Grew.alloc w (.cells #[.int .u64 0] 23)).trans (Grew.alloc (w.alloc (.cells #[.int .u64 0] 23)) (.cells #[.int .u64 0] 23))).trans hg
               have b0 : w1.cell? ⟨w.heap.size, 0, none⟩ = some (.int .u64 0) := (hg.below.cell (p := ⟨w.heap.size, 0, none⟩) (by simp; omega)).trans (by simp [go_sem])
               have b1 : w1.cell? ⟨w.heap.size + 1, 0, none⟩ = some (.int .u64 0) := (hg.below.cell (p := ⟨w.heap.size + 1, 0, none⟩) (by simp)).trans (by simp [go_sem])
               have f0 : w1.frozen? ⟨w.heap.size, 0, none⟩ = false := (hg.below.frozen (p := ⟨w.heap.size, 0, none⟩) (by simp; omega)).trans (by simp [go_sem])
               have f1 : w1.frozen? ⟨w.heap.size + 1, 0, none⟩ = false := (hg.below.frozen (p := ⟨w.heap.size + 1, 0, none⟩) (by simp)).trans (by simp [go_sem])
               have hl1 : w.heap.size + 1 < w1.heap.size := by have := hg.below.size; simp at this; omega
               have hl0 : w.heap.size < w1.heap.size := by omega)
  refine bodyPost_ret (v := .tuple #[.int .u64 0, .int .u64 0, .int .i64 E]) (by simp [results, Try.results12, go_sem, b0, b1, hl0, hl1]) rfl ⟨rfl, ?_⟩
  exact ((below_set (below_set hgz.below (Nat.le_refl _) 0 _) (Nat.le_succ _) 0 _).alloc (by simp [World.setCell]; omega) _)

set_option maxHeartbeats 1000000 in
set_option maxRecDepth 20000 in
theorem Sum_none (a0 : Option Addr) (nb c m : Nat) (B : Nat → Nat) (w : World) (hA : PArg w a0 nb c B) (hm : m ≤ 16777216) (hs : nb = (m * 0 + 7) / 8) (h0 : wordZ (bitB B) ((m * 0 : Nat) : Int) = 0) :
    Calls Try.prog 12 #[.slice a0 nb c, .int .i64 0, .int .i64 (m : Int)] w (SumAns w 0 0 0) := by
  have HP : Hid (∀ W, Below w.heap.size w W → Calls Try.prog 24 #[.slice a0 nb c, .int .i64 0, .int .i64 (m : Int)] W fun e w' => e = .returned (.tuple #[.agg #[.slice a0 nb c, .int .i64 0, .int .i64 (m : Int)], .int .i64 0]) ∧ Grew W w') := fun W hW => packedOf_yes a0 nb c 0 m B W hA.small hA.cap hA.cap2 hA.byte hA.out (hA.nums.later hW) (by omega) hm hs h0
  clear hA hs h0
  go_enter Try.func12, Try.ntmps12
  go_wp2_with (go_at_call 24; refine (HP.out _ ((Grew.alloc w _).trans (Grew.alloc _ _)).below).mono ?_; rintro e w1 ⟨rfl, hg⟩
               have hgz := ((Grew.alloc w (.cells #[.int .u64 0] 23)).trans (Grew.alloc (w.alloc (.cells #[.int .u64 0] 23)) (.cells #[.int .u64 0] 23))).trans hg
               have b0 : w1.cell? ⟨w.heap.size, 0, none⟩ = some (.int .u64 0) := (hg.below.cell (p := ⟨w.heap.size, 0, none⟩) (by simp; omega)).trans (by simp [go_sem])
               have b1 : w1.cell? ⟨w.heap.size + 1, 0, none⟩ = some (.int .u64 0) := (hg.below.cell (p := ⟨w.heap.size + 1, 0, none⟩) (by simp)).trans (by simp [go_sem])
               have f0 : w1.frozen? ⟨w.heap.size, 0, none⟩ = false := (hg.below.frozen (p := ⟨w.heap.size, 0, none⟩) (by simp; omega)).trans (by simp [go_sem])
               have f1 : w1.frozen? ⟨w.heap.size + 1, 0, none⟩ = false := (hg.below.frozen (p := ⟨w.heap.size + 1, 0, none⟩) (by simp)).trans (by simp [go_sem])
               have hl1 : w.heap.size + 1 < w1.heap.size := by have := hg.below.size; simp at this; omega
               have hl0 : w.heap.size < w1.heap.size := by omega)
  refine bodyPost_ret (v := .tuple #[.int .u64 0, .int .u64 0, .int .i64 0]) (by simp [results, Try.results12, go_sem, b0, b1, hl0, hl1]) rfl ⟨rfl, ?_⟩
  exact ((below_set (below_set hgz.below (Nat.le_refl _) 0 _) (Nat.le_succ _) 0 _).alloc (by simp [World.setCell]; omega) _)

set_option maxHeartbeats 2000000 in
set_option maxRecDepth 20000 in
theorem Sum_lanes (a0 : Option Addr) (nb c k m : Nat) (B : Nat → Nat) (w : World) (hA : PArg w a0 nb c B) (hk1 : 1 ≤ k) (hk : k ≤ 64) (hm : m ≤ 16777216) (hs : nb = (m * k + 7) / 8) (h0 : wordZ (bitB B) ((m * k : Nat) : Int) = 0) :
    Calls Try.prog 12 #[.slice a0 nb c, .int .i64 (k : Int), .int .i64 (m : Int)] w (SumAns w 0 (sumH (laneOf (bitB B) k) m) (sumL (laneOf (bitB B) k) m)) := by
  have HP : Hid (∀ W, Below w.heap.size w W → Calls Try.prog 24 #[.slice a0 nb c, .int .i64 (k : Int), .int .i64 (m : Int)] W fun e w' => e = .returned (.tuple #[.agg #[.slice a0 nb c, .int .i64 (k : Int), .int .i64 (m : Int)], .int .i64 0]) ∧ Grew W w') := fun W hW => packedOf_yes a0 nb c k m B W hA.small hA.cap hA.cap2 hA.byte hA.out (hA.nums.later hW) hk hm hs h0
  have hkz : ((k : Int) == 0) = false := by simp; omega
  have HO : Hid (∀ W, Calls Try.prog 27 #[.int .i64 (k : Int)] W fun e w' => e = .returned (cutV k) ∧ Grew W w') := fun W => cutOf_any k W hk1 hk
  have HE : Hid (∀ (W : World), Below w.heap.size w W → Box W w.heap.size 0 → Box W (w.heap.size + 1) 0 → Calls Try.prog 42 #[.agg #[.slice a0 nb c, .int .i64 (k : Int), .int .i64 (m : Int)], cutV k, .func (.func 43) #[] #[.pointer (some ⟨w.heap.size + 1, 0, none⟩), .pointer (some ⟨w.heap.size, 0, none⟩)]] W fun e w' => e = .returned (.tuple #[]) ∧ Box w' w.heap.size (sumH (laneOf (bitB B) k) m) ∧ Box w' (w.heap.size + 1) (sumL (laneOf (bitB B) k) m) ∧ Keeps w.heap.size (w.heap.size + 1) W w') := fun W hW hb1 hb2 => by
    have hl64 : ∀ j, laneOf (bitB B) k j < 18446744073709551616 := fun j => Nat.lt_of_lt_of_le (laneOf_lt _ _ _) (Nat.pow_le_pow_right (n := 2) (by omega) hk)
    refine each_Sum a0 nb c k m w.heap.size (w.heap.size + 1) B (sumH (laneOf (bitB B) k)) (sumL (laneOf (bitB B) k)) W hk1 hk hm (by simpa [sumH, sumN] using hb1) (by simpa [sumL, sumN] using hb2) (fun W' s hs hK => ?_) (fun W' t ht h1 h2 => sum1_any w.heap.size (w.heap.size + 1) t (laneOf (bitB B) k) W' (by omega) (by omega) hl64 h1 h2)
    have hbb : Below w.heap.size w W' := hW.trans (hK.below (Nat.le_refl _) (by omega) hW.size)
    refine (word_any a0 nb c B (s : Int) W' (by have := hA.small; omega) hA.cap hA.cap2 hA.byte hA.out (hA.nums.later hbb) (by omega)).mono ?_
    rintro e w' ⟨rfl, j, rfl⟩
    exact ⟨rfl, Grew.drewN _ _⟩
  clear hA hs h0
  generalize sumH (laneOf (bitB B) k) m = SH at *
  generalize sumL (laneOf (bitB B) k) m = SL at *
  generalize cutV k = cv at *
  go_enter Try.func12, Try.ntmps12
  go_wp2_with (go_at_call 24; refine (HP.out _ ((Grew.alloc w _).trans (Grew.alloc _ _)).below).mono ?_; rintro e w1 ⟨rfl, hg⟩
               have hgz := ((Grew.alloc w (.cells #[.int .u64 0] 23)).trans (Grew.alloc (w.alloc (.cells #[.int .u64 0] 23)) (.cells #[.int .u64 0] 23))).trans hg
               have b0 : w1.cell? ⟨w.heap.size, 0, none⟩ = some (.int .u64 0) := (hg.below.cell (p := ⟨w.heap.size, 0, none⟩) (by simp; omega)).trans (by simp [go_sem])
               have b1 : w1.cell? ⟨w.heap.size + 1, 0, none⟩ = some (.int .u64 0) := (hg.below.cell (p := ⟨w.heap.size + 1, 0, none⟩) (by simp)).trans (by simp [go_sem])
               have f0 : w1.frozen? ⟨w.heap.size, 0, none⟩ = false := (hg.below.frozen (p := ⟨w.heap.size, 0, none⟩) (by simp; omega)).trans (by simp [go_sem])
               have f1 : w1.frozen? ⟨w.heap.size + 1, 0, none⟩ = false := (hg.below.frozen (p := ⟨w.heap.size + 1, 0, none⟩) (by simp)).trans (by simp [go_sem])
               have hl1 : w.heap.size + 1 < w1.heap.size := by have := hg.below.size; simp at this; omega
               have hl0 : w.heap.size < w1.heap.size := by omega)
  have q0 : (w1.alloc (.cells #[.slice a0 nb c, .int .i64 (k : Int), .int .i64 (m : Int)] 57)).cell? ⟨w1.heap.size, 0, none⟩ = some (.slice a0 nb c) := by simp [go_sem]
  have q1 : (w1.alloc (.cells #[.slice a0 nb c, .int .i64 (k : Int), .int .i64 (m : Int)] 57)).cell? ⟨w1.heap.size, 1, none⟩ = some (.int .i64 (k : Int)) := by simp [go_sem]
  have q2 : (w1.alloc (.cells #[.slice a0 nb c, .int .i64 (k : Int), .int .i64 (m : Int)] 57)).cell? ⟨w1.heap.size, 2, none⟩ = some (.int .i64 (m : Int)) := by simp [go_sem]
  have hlb : w1.heap.size < (w1.alloc (.cells #[.slice a0 nb c, .int .i64 (k : Int), .int .i64 (m : Int)] 57)).heap.size := by simp
  have hgz2 := hgz.trans (Grew.alloc w1 (.cells #[.slice a0 nb c, .int .i64 (k : Int), .int .i64 (m : Int)] 57))
  have hx0 : Box (w1.alloc (.cells #[.slice a0 nb c, .int .i64 (k : Int), .int .i64 (m : Int)] 57)) w.heap.size 0 := by
    have hbx : Box ((w.alloc (.cells #[.int .u64 0] 23)).alloc (.cells #[.int .u64 0] 23)) w.heap.size 0 := by
      unfold Box; rw [Below.heap_alloc _ _ _ (by simp), World.alloc_heap_new]; rfl
    exact (hbx.later hg.below).later (Grew.alloc w1 _).below
  have hy0 : Box (w1.alloc (.cells #[.slice a0 nb c, .int .i64 (k : Int), .int .i64 (m : Int)] 57)) (w.heap.size + 1) 0 := by
    have hbx : Box ((w.alloc (.cells #[.int .u64 0] 23)).alloc (.cells #[.int .u64 0] 23)) (w.heap.size + 1) 0 := by
      unfold Box
      have := World.alloc_heap_new (w.alloc (.cells #[.int .u64 0] 23)) (.cells #[.int .u64 0] 23)
      simpa using this
    exact (hbx.later hg.below).later (Grew.alloc w1 _).below
  generalize w1.alloc (.cells #[.slice a0 nb c, .int .i64 (k : Int), .int .i64 (m : Int)] 57) = wb at *
  have fz0 : ∀ W, Keeps w.heap.size (w.heap.size + 1) wb W → W.cell? ⟨w1.heap.size, 0, none⟩ = some (.slice a0 nb c) := fun W h => (h.cell (p := ⟨w1.heap.size, 0, none⟩) hlb (show w1.heap.size ≠ w.heap.size by omega) (show w1.heap.size ≠ w.heap.size + 1 by omega)).trans q0
  have fz1 : ∀ W, Keeps w.heap.size (w.heap.size + 1) wb W → W.cell? ⟨w1.heap.size, 1, none⟩ = some (.int .i64 (k : Int)) := fun W h => (h.cell (p := ⟨w1.heap.size, 1, none⟩) hlb (show w1.heap.size ≠ w.heap.size by omega) (show w1.heap.size ≠ w.heap.size + 1 by omega)).trans q1
  have fz2 : ∀ W, Keeps w.heap.size (w.heap.size + 1) wb W → W.cell? ⟨w1.heap.size, 2, none⟩ = some (.int .i64 (m : Int)) := fun W h => (h.cell (p := ⟨w1.heap.size, 2, none⟩) hlb (show w1.heap.size ≠ w.heap.size by omega) (show w1.heap.size ≠ w.heap.size + 1 by omega)).trans q2
  have HGZ : Hid (Grew w wb) := hgz2
  have HX0 : Hid (Box wb w.heap.size 0 ∧ Box wb (w.heap.size + 1) 0) := ⟨hx0, hy0⟩
  clear hgz hgz2 hg b0 b1 f0 f1 hx0 hy0
  go_region_held3 (fun W => Keeps w.heap.size (w.heap.size + 1) wb W) (first | assumption | exact (Keeps.refl _ _ _).drew) (first
    | (go_at_call 27; refine (HO.out _).mono ?_; rintro e w2 ⟨rfl, hg2⟩; have hS2 : Keeps w.heap.size (w.heap.size + 1) wb w2 := Keeps.trans (by assumption) (Keeps.of_below hg2.below); have hS2b : Below wb.heap.size wb w2 := below_on (Below.refl _ wb).drew hg2.below)
    | (go_at_call 42; refine (HE.out _ (below_on HGZ.out.below hS2b) (HX0.out.1.later hS2b) (HX0.out.2.later hS2b)).mono ?_; rintro e w4 ⟨rfl, hx4, hy4, hk4⟩; have hS4 : Keeps w.heap.size (w.heap.size + 1) wb w4 := hS2.trans hk4))
  all_goals (have cx := hx4.cell; have cy := hy4.cell; have fx := hx4.frozen; have fy := hy4.frozen; have hbh4 := hx4.lt; have hbl4 := hy4.lt)
  all_goals go_wp2
  all_goals go_region
  all_goals go_wp2
  all_goals (refine bodyPost_ret (v := .tuple #[.int .u64 (SH : Int), .int .u64 (SL : Int), .int .i64 0]) (by simp [results, Try.results12, go_sem, cx, cy]) rfl ⟨rfl, ?_⟩)
  all_goals (have hzz := HGZ.out.below; have hz4 : Below w.heap.size w w4 := hzz.trans (hS4.below (Nat.le_refl _) (by omega) hzz.size))
  all_goals first
    | exact hz4.drew
    | exact (below_set (below_set hz4 (Nat.le_refl _) 0 _) (Nat.le_succ _) 0 _).drew

/-- Sum, of any packed numbers. -/
theorem Sum_any (a0 : Option Addr) (nb c : Nat) (B : Nat → Nat) (width n : Int) (w : World) (hA : PArg w a0 nb c B) :
    Calls Try.prog 12 #[.slice a0 nb c, .int .i64 width, .int .i64 n] w (SumAns w (pfE nb B width n) (if pfE nb B width n = 0 then sumH (laneOf (bitB B) width.toNat) n.toNat else 0) (if pfE nb B width n = 0 then sumL (laneOf (bitB B) width.toNat) n.toNat else 0)) := by
  by_cases hf : pfE nb B width n = 0
  · obtain ⟨k, m, rfl, rfl, hk, hm, hs, h0⟩ := pfE_ok hf
    rw [hf]
    simp only [if_true, Int.toNat_natCast]
    by_cases hk0 : k = 0
    · subst hk0
      have e1 : sumH (laneOf (bitB B) 0) m = 0 := by unfold sumH; rw [sum_none]
      have e2 : sumL (laneOf (bitB B) 0) m = 0 := by unfold sumL; rw [sum_none]
      rw [e1, e2]
      exact Sum_none a0 nb c m B w hA hm hs h0
    · exact Sum_lanes a0 nb c k m B w hA (by omega) hk hm hs h0
  · simp only [hf, if_false]
    exact Sum_bad a0 nb c B width n w hA hf
end Go.Proofs.Ytoephmcmmbhnaac.Ln
