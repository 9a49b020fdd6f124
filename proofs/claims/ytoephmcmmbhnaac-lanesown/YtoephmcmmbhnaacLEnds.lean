/-
  Ends.
-/
import Derived.Test.YtoephmcmmbhnaacLEachEnds
import Derived.Test.YtoephmcmmbhnaacLSum
namespace Go.Proofs.Ytoephmcmmbhnaac.Ln
open Go.RowKit Go.Sort

/-- The least and the greatest of the first t, from the ends of uint64. -/
def minU (L : Nat → Nat) : Nat → Nat
  | 0 => 18446744073709551615
  | t + 1 => min (minU L t) (L t)
def maxU (L : Nat → Nat) : Nat → Nat
  | 0 => 0
  | t + 1 => max (maxU L t) (L t)
theorem minU_lt (L : Nat → Nat) (hL : ∀ j, L j < 18446744073709551616) : ∀ t, minU L t < 18446744073709551616
  | 0 => by simp [minU]
  | t + 1 => by have := minU_lt L hL t; have := hL t; simp only [minU]; omega
theorem maxU_lt (L : Nat → Nat) (hL : ∀ j, L j < 18446744073709551616) : ∀ t, maxU L t < 18446744073709551616
  | 0 => by simp [maxU]
  | t + 1 => by have := maxU_lt L hL t; have := hL t; simp only [maxU]; omega
theorem minU_le (L : Nat → Nat) (n : Nat) : ∀ j, j < n → minU L n ≤ L j := by
  induction n with
  | zero => intro j h; omega
  | succ n ih =>
    intro j h
    simp only [minU]
    rcases Nat.lt_or_ge j n with h' | h'
    · have := ih j h'; omega
    · obtain rfl : j = n := by omega
      omega
theorem le_maxU (L : Nat → Nat) (n : Nat) : ∀ j, j < n → L j ≤ maxU L n := by
  induction n with
  | zero => intro j h; omega
  | succ n ih =>
    intro j h
    simp only [maxU]
    rcases Nat.lt_or_ge j n with h' | h'
    · have := ih j h'; omega
    · obtain rfl : j = n := by omega
      omega
theorem min_none (f : Nat → Bool) (m : Nat) (h : 1 ≤ m) : minU (laneOf f 0) m = 0 := by
  have := minU_le (laneOf f 0) m 0 (by omega)
  have e : laneOf f 0 0 = 0 := rfl
  omega
theorem max_none (f : Nat → Bool) : ∀ m, maxU (laneOf f 0) m = 0
  | 0 => rfl
  | m + 1 => by rw [maxU, max_none f m]; rfl

set_option maxHeartbeats 1000000 in
theorem ends1_any (bh bl t : Nat) (L : Nat → Nat) (W : World) (hne : bh ≠ bl) (hH : Box W bh (minU L t)) (hLo : Box W bl (maxU L t)) :
    Calls Try.prog 45 #[.int .u64 (L t : Int), .pointer (some ⟨bh, 0, none⟩), .pointer (some ⟨bl, 0, none⟩)] W fun e w' => e = .returned (.tuple #[]) ∧ Box w' bh (minU L (t + 1)) ∧ Box w' bl (maxU L (t + 1)) ∧ Keeps bh bl W w' := by
  have e1 : min (minU L t : Int) (L t : Int) = (minU L (t + 1) : Int) := by simp only [minU]; omega
  have e2 : max (maxU L t : Int) (L t : Int) = (maxU L (t + 1) : Int) := by simp only [maxU]; omega
  have cl := hLo.cell
  have fl := hLo.frozen
  have ch := hH.cell
  have fh := hH.frozen
  have BL : Hid (Box W bl (maxU L t)) := hLo
  have BH : Hid (Box W bh (minU L t)) := hH
  clear hLo hH
  generalize maxU L (t + 1) = l1 at *
  generalize minU L (t + 1) = h1 at *
  generalize maxU L t = l0 at *
  generalize minU L t = h0 at *
  generalize L t = v at *
  go_enter Try.func45, Try.ntmps45
  go_wp2
  go_end0
  exact ⟨rfl, (BH.out.set _).far hne _, (BL.out.far (Ne.symm hne) _).set _, ((Keeps.refl bh bl W).setH 0 _).setL 0 _⟩

set_option maxHeartbeats 1000000 in
set_option maxRecDepth 20000 in
theorem Ends_bad (a0 : Option Addr) (nb c : Nat) (B : Nat → Nat) (width n : Int) (w : World) (hA : PArg w a0 nb c B) (hf : pfE nb B width n ≠ 0) :
    Calls Try.prog 13 #[.slice a0 nb c, .int .i64 width, .int .i64 n] w (SumAns w (pfE nb B width n) 0 0) := by
  have HP : Hid (∀ W, Below w.heap.size w W → Calls Try.prog 24 #[.slice a0 nb c, .int .i64 width, .int .i64 n] W fun e w' => e = .returned (.tuple #[.agg #[.slice none 0 0, .int .i64 0, .int .i64 0], .int .i64 (pfE nb B width n)]) ∧ Grew W w') := fun W hW => packedOf_no a0 nb c B width n W hA.small hA.cap hA.cap2 hA.byte hA.out (hA.nums.later hW) hf
  clear hA
  generalize pfE nb B width n = E at *
  have hne : (E != 0) = true := by simpa using hf
  clear hf
  go_enter Try.func13, Try.ntmps13
  go_wp2_with (go_at_call 24; refine (HP.out _ ((Grew.alloc w _).trans (Grew.alloc _ _)).below).mono ?_; rintro e w1 ⟨rfl, hg⟩
               have hgz := ((Grew.alloc w (.cells #[.int .u64 0] 23)).trans (Grew.alloc (w.alloc (.cells #[.int .u64 0] 23)) (.cells #[.int .u64 0] 23))).trans hg
               have b0 : w1.cell? ⟨w.heap.size, 0, none⟩ = some (.int .u64 0) := (hg.below.cell (p := ⟨w.heap.size, 0, none⟩) (by simp; omega)).trans (by simp [go_sem])
               have b1 : w1.cell? ⟨w.heap.size + 1, 0, none⟩ = some (.int .u64 0) := (hg.below.cell (p := ⟨w.heap.size + 1, 0, none⟩) (by simp)).trans (by simp [go_sem])
               have f0 : w1.frozen? ⟨w.heap.size, 0, none⟩ = false := (hg.below.frozen (p := ⟨w.heap.size, 0, none⟩) (by simp; omega)).trans (by simp [go_sem])
               have f1 : w1.frozen? ⟨w.heap.size + 1, 0, none⟩ = false := (hg.below.frozen (p := ⟨w.heap.size + 1, 0, none⟩) (by simp)).trans (by simp [go_sem])
               have hl1 : w.heap.size + 1 < w1.heap.size := by have := hg.below.size; simp at this; omega
               have hl0 : w.heap.size < w1.heap.size := by omega)
  refine bodyPost_ret (v := .tuple #[.int .u64 0, .int .u64 0, .int .i64 E]) (by simp [results, Try.results13, go_sem, b0, b1, hl0, hl1]) rfl ⟨rfl, ?_⟩
  exact ((below_set (below_set hgz.below (Nat.le_refl _) 0 _) (Nat.le_succ _) 0 _).alloc (by simp [World.setCell]; omega) _)

set_option maxHeartbeats 1000000 in
set_option maxRecDepth 20000 in
theorem Ends_none (a0 : Option Addr) (nb c m : Nat) (B : Nat → Nat) (w : World) (hA : PArg w a0 nb c B) (hm : m ≤ 16777216) (hs : nb = (m * 0 + 7) / 8) (h0 : wordZ (bitB B) ((m * 0 : Nat) : Int) = 0) :
    Calls Try.prog 13 #[.slice a0 nb c, .int .i64 0, .int .i64 (m : Int)] w (SumAns w 0 0 0) := by
  have HP : Hid (∀ W, Below w.heap.size w W → Calls Try.prog 24 #[.slice a0 nb c, .int .i64 0, .int .i64 (m : Int)] W fun e w' => e = .returned (.tuple #[.agg #[.slice a0 nb c, .int .i64 0, .int .i64 (m : Int)], .int .i64 0]) ∧ Grew W w') := fun W hW => packedOf_yes a0 nb c 0 m B W hA.small hA.cap hA.cap2 hA.byte hA.out (hA.nums.later hW) (by omega) hm hs h0
  clear hA hs h0
  go_enter Try.func13, Try.ntmps13
  go_wp2_with (go_at_call 24; refine (HP.out _ ((Grew.alloc w _).trans (Grew.alloc _ _)).below).mono ?_; rintro e w1 ⟨rfl, hg⟩
               have hgz := ((Grew.alloc w (.cells #[.int .u64 0] 23)).trans (Grew.alloc (w.alloc (.cells #[.int .u64 0] 23)) (.cells #[.int .u64 0] 23))).trans hg
               have b0 : w1.cell? ⟨w.heap.size, 0, none⟩ = some (.int .u64 0) := (hg.below.cell (p := ⟨w.heap.size, 0, none⟩) (by simp; omega)).trans (by simp [go_sem])
               have b1 : w1.cell? ⟨w.heap.size + 1, 0, none⟩ = some (.int .u64 0) := (hg.below.cell (p := ⟨w.heap.size + 1, 0, none⟩) (by simp)).trans (by simp [go_sem])
               have f0 : w1.frozen? ⟨w.heap.size, 0, none⟩ = false := (hg.below.frozen (p := ⟨w.heap.size, 0, none⟩) (by simp; omega)).trans (by simp [go_sem])
               have f1 : w1.frozen? ⟨w.heap.size + 1, 0, none⟩ = false := (hg.below.frozen (p := ⟨w.heap.size + 1, 0, none⟩) (by simp)).trans (by simp [go_sem])
               have hl1 : w.heap.size + 1 < w1.heap.size := by have := hg.below.size; simp at this; omega
               have hl0 : w.heap.size < w1.heap.size := by omega)
  refine bodyPost_ret (v := .tuple #[.int .u64 0, .int .u64 0, .int .i64 0]) (by simp [results, Try.results13, go_sem, b0, b1, hl0, hl1]) rfl ⟨rfl, ?_⟩
  exact ((below_set (below_set hgz.below (Nat.le_refl _) 0 _) (Nat.le_succ _) 0 _).alloc (by simp [World.setCell]; omega) _)

set_option maxHeartbeats 1000000 in
set_option maxRecDepth 20000 in
theorem Ends_zero (a0 : Option Addr) (nb c k : Nat) (B : Nat → Nat) (w : World) (hA : PArg w a0 nb c B) (hk1 : 1 ≤ k) (hk : k ≤ 64) (hs : nb = (0 * k + 7) / 8) (h0 : wordZ (bitB B) ((0 * k : Nat) : Int) = 0) :
    Calls Try.prog 13 #[.slice a0 nb c, .int .i64 (k : Int), .int .i64 0] w (SumAns w 0 0 0) := by
  have HP : Hid (∀ W, Below w.heap.size w W → Calls Try.prog 24 #[.slice a0 nb c, .int .i64 (k : Int), .int .i64 0] W fun e w' => e = .returned (.tuple #[.agg #[.slice a0 nb c, .int .i64 (k : Int), .int .i64 0], .int .i64 0]) ∧ Grew W w') := fun W hW => packedOf_yes a0 nb c k 0 B W hA.small hA.cap hA.cap2 hA.byte hA.out (hA.nums.later hW) hk (by omega) hs h0
  clear hA hs h0
  have hkz : ((k : Int) == 0) = false := by simp; omega
  go_enter Try.func13, Try.ntmps13
  go_wp2_with (go_at_call 24; refine (HP.out _ ((Grew.alloc w _).trans (Grew.alloc _ _)).below).mono ?_; rintro e w1 ⟨rfl, hg⟩
               have hgz := ((Grew.alloc w (.cells #[.int .u64 0] 23)).trans (Grew.alloc (w.alloc (.cells #[.int .u64 0] 23)) (.cells #[.int .u64 0] 23))).trans hg
               have b0 : w1.cell? ⟨w.heap.size, 0, none⟩ = some (.int .u64 0) := (hg.below.cell (p := ⟨w.heap.size, 0, none⟩) (by simp; omega)).trans (by simp [go_sem])
               have b1 : w1.cell? ⟨w.heap.size + 1, 0, none⟩ = some (.int .u64 0) := (hg.below.cell (p := ⟨w.heap.size + 1, 0, none⟩) (by simp)).trans (by simp [go_sem])
               have f0 : w1.frozen? ⟨w.heap.size, 0, none⟩ = false := (hg.below.frozen (p := ⟨w.heap.size, 0, none⟩) (by simp; omega)).trans (by simp [go_sem])
               have f1 : w1.frozen? ⟨w.heap.size + 1, 0, none⟩ = false := (hg.below.frozen (p := ⟨w.heap.size + 1, 0, none⟩) (by simp)).trans (by simp [go_sem])
               have hl1 : w.heap.size + 1 < w1.heap.size := by have := hg.below.size; simp at this; omega
               have hl0 : w.heap.size < w1.heap.size := by omega)
  refine bodyPost_ret (v := .tuple #[.int .u64 0, .int .u64 0, .int .i64 0]) (by simp [results, Try.results13, go_sem, b0, b1, hl0, hl1]) rfl ⟨rfl, ?_⟩
  exact ((below_set (below_set hgz.below (Nat.le_refl _) 0 _) (Nat.le_succ _) 0 _).alloc (by simp [World.setCell]; omega) _)

set_option maxHeartbeats 2000000 in
set_option maxRecDepth 20000 in
theorem Ends_lanes (a0 : Option Addr) (nb c k m : Nat) (B : Nat → Nat) (w : World) (hA : PArg w a0 nb c B) (hk1 : 1 ≤ k) (hk : k ≤ 64) (hm1 : 1 ≤ m) (hm : m ≤ 16777216) (hs : nb = (m * k + 7) / 8) (h0 : wordZ (bitB B) ((m * k : Nat) : Int) = 0) :
    Calls Try.prog 13 #[.slice a0 nb c, .int .i64 (k : Int), .int .i64 (m : Int)] w (SumAns w 0 (minU (laneOf (bitB B) k) m) (maxU (laneOf (bitB B) k) m)) := by
  have HP : Hid (∀ W, Below w.heap.size w W → Calls Try.prog 24 #[.slice a0 nb c, .int .i64 (k : Int), .int .i64 (m : Int)] W fun e w' => e = .returned (.tuple #[.agg #[.slice a0 nb c, .int .i64 (k : Int), .int .i64 (m : Int)], .int .i64 0]) ∧ Grew W w') := fun W hW => packedOf_yes a0 nb c k m B W hA.small hA.cap hA.cap2 hA.byte hA.out (hA.nums.later hW) hk hm hs h0
  have hkz : ((k : Int) == 0) = false := by simp; omega
  have hmz : ((m : Int) == 0) = false := by simp; omega
  have HO : Hid (∀ W, Calls Try.prog 27 #[.int .i64 (k : Int)] W fun e w' => e = .returned (cutV k) ∧ Grew W w') := fun W => cutOf_any k W hk1 hk
  have HE : Hid (∀ (W : World), Below w.heap.size w W → Box W w.heap.size 18446744073709551615 → Box W (w.heap.size + 1) 0 → Calls Try.prog 42 #[.agg #[.slice a0 nb c, .int .i64 (k : Int), .int .i64 (m : Int)], cutV k, .func (.func 45) #[] #[.pointer (some ⟨w.heap.size, 0, none⟩), .pointer (some ⟨w.heap.size + 1, 0, none⟩)]] W fun e w' => e = .returned (.tuple #[]) ∧ Box w' w.heap.size (minU (laneOf (bitB B) k) m) ∧ Box w' (w.heap.size + 1) (maxU (laneOf (bitB B) k) m) ∧ Keeps w.heap.size (w.heap.size + 1) W w') := fun W hW hb1 hb2 => by
    refine each_Ends a0 nb c k m w.heap.size (w.heap.size + 1) B (minU (laneOf (bitB B) k)) (maxU (laneOf (bitB B) k)) W hk1 hk hm (by simpa [minU] using hb1) (by simpa [maxU] using hb2) (fun W' s hs hK => ?_) (fun W' t ht h1 h2 => ends1_any w.heap.size (w.heap.size + 1) t (laneOf (bitB B) k) W' (by omega) h1 h2)
    have hbb : Below w.heap.size w W' := hW.trans (hK.below (Nat.le_refl _) (by omega) hW.size)
    refine (word_any a0 nb c B (s : Int) W' (by have := hA.small; omega) hA.cap hA.cap2 hA.byte hA.out (hA.nums.later hbb) (by omega)).mono ?_
    rintro e w' ⟨rfl, j, rfl⟩
    exact ⟨rfl, Grew.drewN _ _⟩
  clear hA hs h0
  generalize minU (laneOf (bitB B) k) m = SH at *
  generalize maxU (laneOf (bitB B) k) m = SL at *
  generalize cutV k = cv at *
  go_enter Try.func13, Try.ntmps13
  go_wp2_with (go_at_call 24; refine (HP.out _ ((Grew.alloc w _).trans (Grew.alloc _ _)).below).mono ?_; rintro e w1 ⟨rfl, hg⟩
               have hgz := ((Grew.alloc w (.cells #[.int .u64 0] 23)).trans (Grew.alloc (w.alloc (.cells #[.int .u64 0] 23)) (.cells #[.int .u64 0] 23))).trans hg
               have b0 : w1.cell? ⟨w.heap.size, 0, none⟩ = some (.int .u64 0) := (hg.below.cell (p := ⟨w.heap.size, 0, none⟩) (by simp; omega)).trans (by simp [go_sem])
               have b1 : w1.cell? ⟨w.heap.size + 1, 0, none⟩ = some (.int .u64 0) := (hg.below.cell (p := ⟨w.heap.size + 1, 0, none⟩) (by simp)).trans (by simp [go_sem])
               have f0 : w1.frozen? ⟨w.heap.size, 0, none⟩ = false := (hg.below.frozen (p := ⟨w.heap.size, 0, none⟩) (by simp; omega)).trans (by simp [go_sem])
               have f1 : w1.frozen? ⟨w.heap.size + 1, 0, none⟩ = false := (hg.below.frozen (p := ⟨w.heap.size + 1, 0, none⟩) (by simp)).trans (by simp [go_sem])
               have hl1 : w.heap.size + 1 < w1.heap.size := by have := hg.below.size; simp at this; omega
               have hl0 : w.heap.size < w1.heap.size := by omega)
  have hx1 : Box w1 w.heap.size 0 := by
    have hbx : Box ((w.alloc (.cells #[.int .u64 0] 23)).alloc (.cells #[.int .u64 0] 23)) w.heap.size 0 := by
      unfold Box; rw [Below.heap_alloc _ _ _ (by simp), World.alloc_heap_new]; rfl
    exact hbx.later hg.below
  have hy1 : Box w1 (w.heap.size + 1) 0 := by
    have hbx : Box ((w.alloc (.cells #[.int .u64 0] 23)).alloc (.cells #[.int .u64 0] 23)) (w.heap.size + 1) 0 := by
      unfold Box
      have := World.alloc_heap_new (w.alloc (.cells #[.int .u64 0] 23)) (.cells #[.int .u64 0] 23)
      simpa using this
    exact hbx.later hg.below
  obtain ⟨ws, hws⟩ : ∃ ws, w1.setCell ⟨w.heap.size, 0, none⟩ (.int .u64 18446744073709551615) = ws := ⟨_, rfl⟩
  have hxs : Box ws w.heap.size 18446744073709551615 := by rw [← hws]; exact hx1.set 18446744073709551615
  have hys : Box ws (w.heap.size + 1) 0 := by rw [← hws]; exact hy1.far (p := ⟨w.heap.size, 0, none⟩) (by simp) _
  have hss : ws.heap.size = w1.heap.size := by rw [← hws]; simp [World.setCell]
  have hbs : Below w.heap.size w ws := by rw [← hws]; exact below_set hgz.below (Nat.le_refl _) 0 _
  rw [hws]
  clear hws hx1 hy1
  have q0 : (ws.alloc (.cells #[.slice a0 nb c, .int .i64 (k : Int), .int .i64 (m : Int)] 57)).cell? ⟨w1.heap.size, 0, none⟩ = some (.slice a0 nb c) := by rw [← hss]; simp [go_sem]
  have q1 : (ws.alloc (.cells #[.slice a0 nb c, .int .i64 (k : Int), .int .i64 (m : Int)] 57)).cell? ⟨w1.heap.size, 1, none⟩ = some (.int .i64 (k : Int)) := by rw [← hss]; simp [go_sem]
  have q2 : (ws.alloc (.cells #[.slice a0 nb c, .int .i64 (k : Int), .int .i64 (m : Int)] 57)).cell? ⟨w1.heap.size, 2, none⟩ = some (.int .i64 (m : Int)) := by rw [← hss]; simp [go_sem]
  have hlb : w1.heap.size < (ws.alloc (.cells #[.slice a0 nb c, .int .i64 (k : Int), .int .i64 (m : Int)] 57)).heap.size := by simp; omega
  have hgz2 : Below w.heap.size w (ws.alloc (.cells #[.slice a0 nb c, .int .i64 (k : Int), .int .i64 (m : Int)] 57)) := hbs.alloc (by omega) _
  have hx0 : Box (ws.alloc (.cells #[.slice a0 nb c, .int .i64 (k : Int), .int .i64 (m : Int)] 57)) w.heap.size 18446744073709551615 := hxs.later (Grew.alloc ws _).below
  have hy0 : Box (ws.alloc (.cells #[.slice a0 nb c, .int .i64 (k : Int), .int .i64 (m : Int)] 57)) (w.heap.size + 1) 0 := hys.later (Grew.alloc ws _).below
  clear hxs hys hbs hss
  generalize ws.alloc (.cells #[.slice a0 nb c, .int .i64 (k : Int), .int .i64 (m : Int)] 57) = wb at *
  have fz0 : ∀ W, Keeps w.heap.size (w.heap.size + 1) wb W → W.cell? ⟨w1.heap.size, 0, none⟩ = some (.slice a0 nb c) := fun W h => (h.cell (p := ⟨w1.heap.size, 0, none⟩) hlb (show w1.heap.size ≠ w.heap.size by omega) (show w1.heap.size ≠ w.heap.size + 1 by omega)).trans q0
  have fz1 : ∀ W, Keeps w.heap.size (w.heap.size + 1) wb W → W.cell? ⟨w1.heap.size, 1, none⟩ = some (.int .i64 (k : Int)) := fun W h => (h.cell (p := ⟨w1.heap.size, 1, none⟩) hlb (show w1.heap.size ≠ w.heap.size by omega) (show w1.heap.size ≠ w.heap.size + 1 by omega)).trans q1
  have fz2 : ∀ W, Keeps w.heap.size (w.heap.size + 1) wb W → W.cell? ⟨w1.heap.size, 2, none⟩ = some (.int .i64 (m : Int)) := fun W h => (h.cell (p := ⟨w1.heap.size, 2, none⟩) hlb (show w1.heap.size ≠ w.heap.size by omega) (show w1.heap.size ≠ w.heap.size + 1 by omega)).trans q2
  have HGZ : Hid (Below w.heap.size w wb) := hgz2
  have HX0 : Hid (Box wb w.heap.size 18446744073709551615 ∧ Box wb (w.heap.size + 1) 0) := ⟨hx0, hy0⟩
  clear hgz hgz2 hg b0 b1 f0 f1 hx0 hy0
  go_region_held3 (fun W => Keeps w.heap.size (w.heap.size + 1) wb W) (first | assumption | exact (Keeps.refl _ _ _).drew) (first
    | (go_at_call 27; refine (HO.out _).mono ?_; rintro e w2 ⟨rfl, hg2⟩; have hS2 : Keeps w.heap.size (w.heap.size + 1) wb w2 := Keeps.trans (by assumption) (Keeps.of_below hg2.below); have hS2b : Below wb.heap.size wb w2 := below_on (Below.refl _ wb).drew hg2.below)
    | (go_at_call 42; refine (HE.out _ (below_on HGZ.out hS2b) (HX0.out.1.later hS2b) (HX0.out.2.later hS2b)).mono ?_; rintro e w4 ⟨rfl, hx4, hy4, hk4⟩; have hS4 : Keeps w.heap.size (w.heap.size + 1) wb w4 := hS2.trans hk4))
  all_goals (have cx := hx4.cell; have cy := hy4.cell; have fx := hx4.frozen; have fy := hy4.frozen; have hbh4 := hx4.lt; have hbl4 := hy4.lt)
  all_goals go_wp2
  all_goals go_region
  all_goals go_wp2
  all_goals (refine bodyPost_ret (v := .tuple #[.int .u64 (SH : Int), .int .u64 (SL : Int), .int .i64 0]) (by simp [results, Try.results13, go_sem, cx, cy]) rfl ⟨rfl, ?_⟩)
  all_goals (have hzz := HGZ.out; have hz4 : Below w.heap.size w w4 := hzz.trans (hS4.below (Nat.le_refl _) (by omega) hzz.size))
  all_goals first
    | exact hz4.drew
    | exact (below_set (below_set hz4 (Nat.le_refl _) 0 _) (Nat.le_succ _) 0 _).drew


/-- Ends, of any packed numbers. -/
theorem Ends_any (a0 : Option Addr) (nb c : Nat) (B : Nat → Nat) (width n : Int) (w : World) (hA : PArg w a0 nb c B) :
    Calls Try.prog 13 #[.slice a0 nb c, .int .i64 width, .int .i64 n] w (SumAns w (pfE nb B width n) (if pfE nb B width n = 0 ∧ 1 ≤ n.toNat then minU (laneOf (bitB B) width.toNat) n.toNat else 0) (if pfE nb B width n = 0 ∧ 1 ≤ n.toNat then maxU (laneOf (bitB B) width.toNat) n.toNat else 0)) := by
  by_cases hf : pfE nb B width n = 0
  · obtain ⟨k, m, rfl, rfl, hk, hm, hs, h0⟩ := pfE_ok hf
    rw [hf]
    simp only [true_and, Int.toNat_natCast]
    by_cases hm1 : 1 ≤ m
    · rw [if_pos hm1, if_pos hm1]
      by_cases hk0 : k = 0
      · subst hk0
        rw [min_none _ _ hm1, max_none]
        exact Ends_none a0 nb c m B w hA hm hs h0
      · exact Ends_lanes a0 nb c k m B w hA (by omega) hk hm1 hm hs h0
    · rw [if_neg hm1, if_neg hm1]
      obtain rfl : m = 0 := by omega
      by_cases hk0 : k = 0
      · subst hk0
        exact Ends_none a0 nb c 0 B w hA hm hs h0
      · exact Ends_zero a0 nb c k B w hA (by omega) hk hs h0
  · rw [if_neg (by simp [hf]), if_neg (by simp [hf])]
    exact Ends_bad a0 nb c B width n w hA hf
end Go.Proofs.Ytoephmcmmbhnaac.Ln
