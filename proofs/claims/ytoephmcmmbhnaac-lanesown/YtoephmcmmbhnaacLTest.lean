/-
  Test.
-/
import Derived.Test.YtoephmcmmbhnaacLChosenTest
import Derived.Deep.RegionHeld3
namespace Go.Proofs.Ytoephmcmmbhnaac.Ln
open Go.RowKit Go.Sort
open Bt (wrd packF joinF firstW lay1F wordsOf wcells Tail)

theorem spread_ask {k c : Nat} (hc : c < 2 ^ k) (op : Int) (x : Nat) : standsW k op x (spreadN c k (lanesOf k)) = askW k (fun v => standsB op v c) x :=
  mark_congr fun i hi => by rw [spread_lane c k _ i hc hi]
theorem spread64 {k c : Nat} (hc : c < 2 ^ k) : spreadN c k (lanesOf k) < 18446744073709551616 := Nat.lt_of_lt_of_le (spread_lt c k _ hc) (kw_le k)

set_option maxHeartbeats 1000000 in
theorem test1_any (k x c bk bo ba : Nat) (op : Int) (W : World) (hk1 : 1 ≤ k) (hx : x < 18446744073709551616) (hc : c < 2 ^ k) (ho1 : 1 ≤ op) (ho2 : op ≤ 6)
    (k0 : W.cell? ⟨bk, 0, none⟩ = some (.int .i64 (k : Int))) (k1 : W.cell? ⟨bk, 1, none⟩ = some (.int .i64 (lanesOf k : Int))) (k2 : W.cell? ⟨bk, 2, none⟩ = some (.int .u64 (topsOf k : Int))) (k3 : W.cell? ⟨bk, 3, none⟩ = some (.int .u64 (restOf k : Int)))
    (o0 : W.cell? ⟨bo, 0, none⟩ = some (.int .i64 op)) (s0 : W.cell? ⟨ba, 0, none⟩ = some (.int .u64 (spreadN c k (lanesOf k) : Int))) :
    Calls Try.prog 31 #[.int .u64 (x : Int), .pointer (some ⟨bk, 0, none⟩), .pointer (some ⟨bo, 0, none⟩), .pointer (some ⟨ba, 0, none⟩)] W fun e w' => e = .returned (.int .u64 (askW k (fun v => standsB op v c) x : Int)) ∧ Grew W w' := by
  have HS : Hid (∀ W, Calls Try.prog 28 #[.agg #[.int .i64 (k : Int), .int .i64 (lanesOf k : Int), .int .u64 (topsOf k : Int), .int .u64 (restOf k : Int)], .int .i64 op, .int .u64 (x : Int), .int .u64 (spreadN c k (lanesOf k) : Int)] W fun e w' => e = .returned (.int .u64 (askW k (fun v => standsB op v c) x : Int)) ∧ Grew W w') := fun W => by
    have := stands_any k op x (spreadN c k (lanesOf k)) W hk1 hx (spread64 hc) ho1 ho2
    rwa [spread_ask hc] at this
  generalize askW k (fun v => standsB op v c) x = z at *
  generalize spreadN c k (lanesOf k) = s at *
  generalize topsOf k = T at *
  generalize restOf k = R at *
  generalize lanesOf k = L at *
  go_enter Try.func31, Try.ntmps31
  go_wp2_with (go_at_call 28; refine (HS.out _).mono ?_; rintro e w' ⟨rfl, hg⟩)
  go_ret
  exact ⟨rfl, hg⟩

/-- Test's error; the number of each set, and what is in it. -/
def tE (nb : Nat) (B : Nat → Nat) (width n op : Int) : Int := if pfE nb B width n ≠ 0 then pfE nb B width n else if op < 1 ∨ 6 < op then 2 else 0
/-- A call that answers a set and an error. -/
def SetAns (w : World) (E : Int) (n : Nat) (f : Nat → Bool) (e : Ending) (w' : World) : Prop :=
  Below w.heap.size w w' ∧ ((E ≠ 0 ∧ e = .returned (.tuple #[.pointer none, .int .i64 E])) ∨ (E = 0 ∧ ∃ d g, e = .returned (.tuple #[.pointer (some ⟨d, 0, none⟩), .int .i64 0]) ∧ w.heap.size ≤ d ∧ w.heap.size ≤ g ∧ Bt.NewSet w' d g n (packF n (fun i => decide (i < n) && f i))))

/-- Packed bytes as an argument. -/
structure PArg (w : World) (a0 : Option Addr) (nb c : Nat) (B : Nat → Nat) : Prop where
  small : nb ≤ 140737488351232
  cap : nb ≤ c
  cap2 : c ≤ 9223372036854775807
  byte : ∀ j, B j < 256
  out : ∀ j, nb ≤ j → B j = 0
  nums : Nums w .u8 a0 nb B
theorem PArg.later {w w' : World} {a0 : Option Addr} {nb c : Nat} {B : Nat → Nat} (h : PArg w a0 nb c B) (hb : Below w.heap.size w w') : PArg w' a0 nb c B := ⟨h.small, h.cap, h.cap2, h.byte, h.out, h.nums.later hb⟩

set_option maxHeartbeats 1000000 in
theorem Test_bad (a0 : Option Addr) (nb c : Nat) (B : Nat → Nat) (width n op : Int) (cc : Nat) (f : Nat → Bool) (w : World) (hA : PArg w a0 nb c B) (hf : pfE nb B width n ≠ 0) :
    Calls Try.prog 8 #[.slice a0 nb c, .int .i64 width, .int .i64 n, .int .i64 op, .int .u64 (cc : Int)] w (SetAns w (tE nb B width n op) n.toNat f) := by
  have e : tE nb B width n op = pfE nb B width n := by unfold tE; rw [if_pos hf]
  rw [e]
  have HP : Hid (∀ W, Below w.heap.size w W → Calls Try.prog 24 #[.slice a0 nb c, .int .i64 width, .int .i64 n] W fun e w' => e = .returned (.tuple #[.agg #[.slice none 0 0, .int .i64 0, .int .i64 0], .int .i64 (pfE nb B width n)]) ∧ Grew W w') := fun W hW => packedOf_no a0 nb c B width n W hA.small hA.cap hA.cap2 hA.byte hA.out (hA.nums.later hW) hf
  clear e hA
  generalize pfE nb B width n = E at *
  have hne : (E != 0) = true := by simpa using hf
  have HF : Hid (E ≠ 0) := hf
  clear hf
  go_enter Try.func8, Try.ntmps8
  go_wp2_with (go_at_call 24; refine (HP.out _ (Grew.alloc w _).below).mono ?_; rintro e w1 ⟨rfl, hg⟩)
  go_ret2
  exact ⟨((Grew.alloc w _).trans (hg.trans (Grew.alloc _ _))).below, .inl ⟨HF.out, rfl⟩⟩

set_option maxHeartbeats 1000000 in
theorem Test_op (a0 : Option Addr) (nb c k m : Nat) (B : Nat → Nat) (op : Int) (cc : Nat) (f : Nat → Bool) (w : World) (hA : PArg w a0 nb c B)
    (hk : k ≤ 64) (hm : m ≤ 16777216) (hs : nb = (m * k + 7) / 8) (h0 : wordZ (bitB B) ((m * k : Nat) : Int) = 0) (ho : op < 1 ∨ 6 < op) :
    Calls Try.prog 8 #[.slice a0 nb c, .int .i64 (k : Int), .int .i64 (m : Int), .int .i64 op, .int .u64 (cc : Int)] w (SetAns w 2 m f) := by
  have HP : Hid (∀ W, Below w.heap.size w W → Calls Try.prog 24 #[.slice a0 nb c, .int .i64 (k : Int), .int .i64 (m : Int)] W fun e w' => e = .returned (.tuple #[.agg #[.slice a0 nb c, .int .i64 (k : Int), .int .i64 (m : Int)], .int .i64 0]) ∧ Grew W w') := fun W hW => packedOf_yes a0 nb c k m B W hA.small hA.cap hA.cap2 hA.byte hA.out (hA.nums.later hW) hk hm hs h0
  clear hA hs h0
  rcases ho with h | h
  · have hd : decide (op < 1) = true := by simpa using h
    go_enter Try.func8, Try.ntmps8
    go_wp2_with (go_at_call 24; refine (HP.out _ (Grew.alloc w _).below).mono ?_; rintro e w1 ⟨rfl, hg⟩; have o1 : w1.cell? ⟨w.heap.size, 0, none⟩ = some (.int .i64 op) := (hg.below.cell (p := ⟨w.heap.size, 0, none⟩) (by simp)).trans (by simp [go_sem]); have hl1 : w.heap.size < w1.heap.size := by have := hg.below.size; simp at this; omega)
    go_ret2
    exact ⟨((Grew.alloc w _).trans (hg.trans (Grew.alloc _ _))).below, .inl ⟨by omega, rfl⟩⟩
  · have hd : decide (op < 1) = false := by simp; omega
    have hd2 : decide (6 < op) = true := by simpa using h
    go_enter Try.func8, Try.ntmps8
    go_wp2_with (go_at_call 24; refine (HP.out _ (Grew.alloc w _).below).mono ?_; rintro e w1 ⟨rfl, hg⟩; have o1 : w1.cell? ⟨w.heap.size, 0, none⟩ = some (.int .i64 op) := (hg.below.cell (p := ⟨w.heap.size, 0, none⟩) (by simp)).trans (by simp [go_sem]); have hl1 : w.heap.size < w1.heap.size := by have := hg.below.size; simp at this; omega)
    go_ret2
    exact ⟨((Grew.alloc w _).trans (hg.trans (Grew.alloc _ _))).below, .inl ⟨by omega, rfl⟩⟩

set_option maxHeartbeats 1000000 in
set_option maxRecDepth 20000 in
theorem Test_lanes (a0 : Option Addr) (nb c k m : Nat) (B : Nat → Nat) (op : Int) (cc : Nat) (w : World) (hA : PArg w a0 nb c B)
    (hk1 : 1 ≤ k) (hk : k ≤ 64) (hm : m ≤ 16777216) (hs : nb = (m * k + 7) / 8) (h0 : wordZ (bitB B) ((m * k : Nat) : Int) = 0) (ho1 : 1 ≤ op) (ho2 : op ≤ 6) (hcc : cc < 2 ^ k) :
    Calls Try.prog 8 #[.slice a0 nb c, .int .i64 (k : Int), .int .i64 (m : Int), .int .i64 op, .int .u64 (cc : Int)] w (SetAns w 0 m (fun i => standsB op (laneOf (bitB B) k i) cc)) := by
  have HP : Hid (∀ W, Below w.heap.size w W → Calls Try.prog 24 #[.slice a0 nb c, .int .i64 (k : Int), .int .i64 (m : Int)] W fun e w' => e = .returned (.tuple #[.agg #[.slice a0 nb c, .int .i64 (k : Int), .int .i64 (m : Int)], .int .i64 0]) ∧ Grew W w') := fun W hW => packedOf_yes a0 nb c k m B W hA.small hA.cap hA.cap2 hA.byte hA.out (hA.nums.later hW) hk hm hs h0
  have hcc64 : cc < 18446744073709551616 := Nat.lt_of_lt_of_le hcc (Nat.pow_le_pow_right (n := 2) (by omega) hk)
  have hd : decide (op < 1) = false := by simp; omega
  have hd2 : decide (6 < op) = false := by simp; omega
  have hkz : ((k : Int) == 0) = false := by simp; omega
  have HH : Hid (∀ W, Calls Try.prog 25 #[.int .i64 (k : Int), .int .u64 (cc : Int)] W fun e w' => e = .returned (.bool true) ∧ w' = W) := fun W => by
    have := holds_any k cc W hcc64 hk
    rwa [show decide (cc < 2 ^ k) = true by simpa using hcc] at this
  have HO : Hid (∀ W, Calls Try.prog 27 #[.int .i64 (k : Int)] W fun e w' => e = .returned (.agg #[.int .i64 (k : Int), .int .i64 (lanesOf k : Int), .int .u64 (topsOf k : Int), .int .u64 (restOf k : Int)]) ∧ Grew W w') := fun W => cutOf_any k W hk1 hk
  have HS : Hid (∀ W, Calls Try.prog 29 #[.int .u64 (cc : Int), .int .i64 (k : Int)] W fun e w' => e = .returned (.int .u64 (spreadN cc k (lanesOf k) : Int)) ∧ w' = W) := fun W => spread_any cc k W hcc hk1 hk
  have HCH : Hid (∀ (W : World) (bk bo ba : Nat), Below w.heap.size w W → bk < W.heap.size → bo < W.heap.size → ba < W.heap.size → W.cell? ⟨bk, 0, none⟩ = some (.int .i64 (k : Int)) → W.cell? ⟨bk, 1, none⟩ = some (.int .i64 (lanesOf k : Int)) → W.cell? ⟨bk, 2, none⟩ = some (.int .u64 (topsOf k : Int)) → W.cell? ⟨bk, 3, none⟩ = some (.int .u64 (restOf k : Int)) → W.cell? ⟨bo, 0, none⟩ = some (.int .i64 op) → W.cell? ⟨ba, 0, none⟩ = some (.int .u64 (spreadN cc k (lanesOf k) : Int)) →
      Calls Try.prog 30 #[.agg #[.slice a0 nb c, .int .i64 (k : Int), .int .i64 (m : Int)], .agg #[.int .i64 (k : Int), .int .i64 (lanesOf k : Int), .int .u64 (topsOf k : Int), .int .u64 (restOf k : Int)], .func (.func 31) #[] #[.pointer (some ⟨bk, 0, none⟩), .pointer (some ⟨bo, 0, none⟩), .pointer (some ⟨ba, 0, none⟩)]] W fun e w' => ∃ d g, e = .returned (.tuple #[.pointer (some ⟨d, 0, none⟩), .int .i64 0]) ∧ W.heap.size ≤ d ∧ W.heap.size ≤ g ∧ Bt.NewSet w' d g m (packF m (fun i => decide (i < m) && standsB op (laneOf (bitB B) k i) cc)) ∧ Below W.heap.size W w') :=
    fun W bk bo ba hW lk lo la k0 k1 k2 k3 o0 s0 => chosen_Test a0 nb c k m B (fun v => standsB op v cc) _ _ _ W hA.small hA.cap hA.cap2 hA.byte hA.out (hA.nums.later hW) hk1 hk hm
      (fun W' x hx hb => test1_any k x cc bk bo ba op W' hk1 hx hcc ho1 ho2 ((hb.cell (p := ⟨bk, 0, none⟩) lk).trans k0) ((hb.cell (p := ⟨bk, 1, none⟩) lk).trans k1) ((hb.cell (p := ⟨bk, 2, none⟩) lk).trans k2) ((hb.cell (p := ⟨bk, 3, none⟩) lk).trans k3) ((hb.cell (p := ⟨bo, 0, none⟩) lo).trans o0) ((hb.cell (p := ⟨ba, 0, none⟩) la).trans s0))
  clear hA hs h0 hcc
  generalize spreadN cc k (lanesOf k) = s at *
  generalize topsOf k = T at *
  generalize restOf k = R at *
  generalize lanesOf k = L at *
  go_enter Try.func8, Try.ntmps8
  go_wp2_with (first
    | (go_at_call 24; refine (HP.out _ (Grew.alloc w _).below).mono ?_; rintro e w1 ⟨rfl, hg⟩; have o1 : w1.cell? ⟨w.heap.size, 0, none⟩ = some (.int .i64 op) := (hg.below.cell (p := ⟨w.heap.size, 0, none⟩) (by simp)).trans (by simp [go_sem]); have hl1 : w.heap.size < w1.heap.size := by have := hg.below.size; simp at this; omega)
    | (go_at_call 25; refine (HH.out _).mono ?_; rintro e w' ⟨rfl, rfl⟩)
    | (go_at_call 29; refine (HS.out _).mono ?_; rintro e wz ⟨rfl, hwz⟩; subst wz)
    | (go_at_call 27; refine (HO.out _).mono ?_; rintro e w2 ⟨rfl, hg2⟩
       have hl2 : w1.heap.size < w2.heap.size := by have := hg2.below.size; simp at this; omega
       have hl0 : w.heap.size < w2.heap.size := by omega
       have o2 : w2.cell? ⟨w.heap.size, 0, none⟩ = some (.int .i64 op) := (hg2.below.cell (p := ⟨w.heap.size, 0, none⟩) (by simp; omega)).trans (((Grew.alloc w1 _).below.cell (p := ⟨w.heap.size, 0, none⟩) hl1).trans o1)
       have q0 : w2.cell? ⟨w1.heap.size, 0, none⟩ = some (.slice a0 nb c) := (hg2.below.cell (p := ⟨w1.heap.size, 0, none⟩) (by simp)).trans (by simp [go_sem])
       have q1 : w2.cell? ⟨w1.heap.size, 1, none⟩ = some (.int .i64 (k : Int)) := (hg2.below.cell (p := ⟨w1.heap.size, 1, none⟩) (by simp)).trans (by simp [go_sem])
       have q2 : w2.cell? ⟨w1.heap.size, 2, none⟩ = some (.int .i64 (m : Int)) := (hg2.below.cell (p := ⟨w1.heap.size, 2, none⟩) (by simp)).trans (by simp [go_sem])))
  have hgz := (Grew.alloc w (.cells #[.int .i64 op] 3)).trans (hg.trans ((Grew.alloc w1 (.cells #[.slice a0 nb c, .int .i64 (k : Int), .int .i64 (m : Int)] 57)).trans hg2))
  refine (HCH.out _ _ _ _ (hgz.trans ((Grew.alloc _ _).trans (Grew.alloc _ _))).below (by simp; omega) (by simp; omega) (by simp) (by simp [go_sem]) (by simp [go_sem]) (by simp [go_sem]) (by simp [go_sem]) ((((Grew.alloc w2 _).trans (Grew.alloc _ _)).below.cell (p := ⟨w.heap.size, 0, none⟩) hl0).trans o2) (by simp [go_sem])).mono ?_
  rintro e w5 ⟨d, g, rfl, hd, hgg, hs5, hb5⟩
  go_wp2
  go_ret2
  have hb5' := below_on (hgz.trans ((Grew.alloc _ _).trans (Grew.alloc _ _))).below hb5
  refine ⟨hb5', .inr ⟨rfl, d, g, rfl, ?_, ?_, hs5⟩⟩
  · simp at hd; omega
  · simp at hgg; omega

/-- What 0 says of c, one lane of 64 bits. -/
theorem stands64 (op : Int) (c : Nat) (hc : c < 18446744073709551616) : (standsW 64 op 0 c != 0) = standsB op 0 c := by
  have e : standsW 64 op 0 c = if standsB op 0 c then 2 ^ 63 else 0 := by
    have h0 : laneW 0 64 0 = 0 := by simp [laneW]
    have h1 : laneW c 64 0 = c := by simp [laneW]; omega
    show markN _ 64 (0 + 1) = _
    simp only [markN, h0, h1]
    simp
  rw [e]
  cases standsB op 0 c <;> simp
theorem laneOf_none (f : Nat → Bool) (i : Nat) : laneOf f 0 i = 0 := rfl
theorem stands_above {op : Int} {v c k : Nat} (hv : v < 2 ^ k) (hc : 2 ^ k ≤ c) : standsB op v c = standsB op 0 c := by
  have := Nat.two_pow_pos k
  unfold standsB
  have h1 : decide (v = c) = decide (0 = c) := by rw [decide_eq_decide]; omega
  have h2 : decide (v < c) = decide (0 < c) := by rw [decide_eq_decide]; omega
  have h3 : decide (c < v) = decide (c < 0) := by rw [decide_eq_decide]; omega
  rw [h1, h2, h3]

set_option maxHeartbeats 1000000 in
set_option maxRecDepth 20000 in
theorem Test_whole (a0 : Option Addr) (nb c k m : Nat) (B : Nat → Nat) (op : Int) (cc : Nat) (w : World) (hA : PArg w a0 nb c B)
    (hk : k ≤ 64) (hm : m ≤ 16777216) (hs : nb = (m * k + 7) / 8) (h0 : wordZ (bitB B) ((m * k : Nat) : Int) = 0) (ho1 : 1 ≤ op) (ho2 : op ≤ 6) (hcc64 : cc < 18446744073709551616) (hcc : k = 0 ∨ 2 ^ k ≤ cc) :
    Calls Try.prog 8 #[.slice a0 nb c, .int .i64 (k : Int), .int .i64 (m : Int), .int .i64 op, .int .u64 (cc : Int)] w (SetAns w 0 m (fun i => standsB op (laneOf (bitB B) k i) cc)) := by
  have hff : (fun i => decide (i < m) && standsB op (laneOf (bitB B) k i) cc) = fun i => decide (i < m) && standsB op 0 cc := by
    funext i
    rcases hcc with rfl | h
    · rfl
    · rw [stands_above (laneOf_lt _ _ _) h]
  unfold SetAns
  rw [hff]
  have HP : Hid (∀ W, Below w.heap.size w W → Calls Try.prog 24 #[.slice a0 nb c, .int .i64 (k : Int), .int .i64 (m : Int)] W fun e w' => e = .returned (.tuple #[.agg #[.slice a0 nb c, .int .i64 (k : Int), .int .i64 (m : Int)], .int .i64 0]) ∧ Grew W w') := fun W hW => packedOf_yes a0 nb c k m B W hA.small hA.cap hA.cap2 hA.byte hA.out (hA.nums.later hW) hk hm hs h0
  have hd : decide (op < 1) = false := by simp; omega
  have hd2 : decide (6 < op) = false := by simp; omega
  have HO : Hid (∀ W, Calls Try.prog 27 #[.int .i64 64] W fun e w' => e = .returned (cutV 64) ∧ Grew W w') := fun W => cutOf_any 64 W (by omega) (by omega)
  have HS : Hid (∀ W, Calls Try.prog 28 #[cutV 64, .int .i64 op, .int .u64 0, .int .u64 (cc : Int)] W fun e w' => e = .returned (.int .u64 (standsW 64 op 0 cc : Int)) ∧ Grew W w') := fun W => stands_any 64 op 0 cc W (by omega) (by omega) hcc64 ho1 ho2
  have HB : Hid (∀ W, Calls Try.prog 26 #[.agg #[.slice a0 nb c, .int .i64 (k : Int), .int .i64 (m : Int)], .bool (standsB op 0 cc)] W fun e w' => ∃ d g, e = .returned (.pointer (some ⟨d, 0, none⟩)) ∧ W.heap.size ≤ d ∧ W.heap.size ≤ g ∧ Bt.NewSet w' d g m (Bt.packF m (fun i => decide (i < m) && standsB op 0 cc)) ∧ Below W.heap.size W w') := fun W => whole_any a0 nb c k m _ W hm
  have hst := stands64 op cc hcc64
  have hsi : ((standsW 64 op 0 cc : Int) != 0) = standsB op 0 cc := by
    rw [← hst]
    by_cases h : standsW 64 op 0 cc = 0
    · simp [h]
    · have e1 : (standsW 64 op 0 cc != 0) = true := by simpa using h
      rw [e1]; simp; omega
  have HH : Hid (k ≠ 0 → ∀ W, Calls Try.prog 25 #[.int .i64 (k : Int), .int .u64 (cc : Int)] W fun e w' => e = .returned (.bool false) ∧ w' = W) := fun hk0 W => by
    have := holds_any k cc W hcc64 hk
    rwa [show decide (cc < 2 ^ k) = false by simp; omega] at this
  clear hA hs h0 hff hst
  generalize standsB op 0 cc = bb at *
  generalize standsW 64 op 0 cc = z at *
  generalize cutV 64 = cv at *
  by_cases hk0 : k = 0
  · subst hk0
    clear HH hcc
    go_enter Try.func8, Try.ntmps8
    go_wp2_with (first
      | (go_at_call 24; refine (HP.out _ (Grew.alloc w _).below).mono ?_; rintro e w1 ⟨rfl, hg⟩; have o1 : w1.cell? ⟨w.heap.size, 0, none⟩ = some (.int .i64 op) := (hg.below.cell (p := ⟨w.heap.size, 0, none⟩) (by simp)).trans (by simp [go_sem]); have hl1 : w.heap.size < w1.heap.size := by have := hg.below.size; simp at this; omega))
    have q0 : (w1.alloc (.cells #[.slice a0 nb c, .int .i64 0, .int .i64 (m : Int)] 57)).cell? ⟨w1.heap.size, 0, none⟩ = some (.slice a0 nb c) := by simp [go_sem]
    have q1 : (w1.alloc (.cells #[.slice a0 nb c, .int .i64 0, .int .i64 (m : Int)] 57)).cell? ⟨w1.heap.size, 1, none⟩ = some (.int .i64 0) := by simp [go_sem]
    have q2 : (w1.alloc (.cells #[.slice a0 nb c, .int .i64 0, .int .i64 (m : Int)] 57)).cell? ⟨w1.heap.size, 2, none⟩ = some (.int .i64 (m : Int)) := by simp [go_sem]
    have o2 : (w1.alloc (.cells #[.slice a0 nb c, .int .i64 0, .int .i64 (m : Int)] 57)).cell? ⟨w.heap.size, 0, none⟩ = some (.int .i64 op) := ((Grew.alloc w1 _).below.cell (p := ⟨w.heap.size, 0, none⟩) hl1).trans o1
    have hlb : w1.heap.size < (w1.alloc (.cells #[.slice a0 nb c, .int .i64 0, .int .i64 (m : Int)] 57)).heap.size := by simp
    have hgz := (Grew.alloc w (.cells #[.int .i64 op] 3)).trans (hg.trans (Grew.alloc w1 (.cells #[.slice a0 nb c, .int .i64 0, .int .i64 (m : Int)] 57)))
    generalize w1.alloc (.cells #[.slice a0 nb c, .int .i64 0, .int .i64 (m : Int)] 57) = wb at *
    have hlo : w.heap.size < wb.heap.size := by omega
    have f0 : ∀ W, Below wb.heap.size wb W → W.cell? ⟨w1.heap.size, 0, none⟩ = some (.slice a0 nb c) := fun W h => (h.cell (p := ⟨w1.heap.size, 0, none⟩) hlb).trans q0
    have f1 : ∀ W, Below wb.heap.size wb W → W.cell? ⟨w1.heap.size, 1, none⟩ = some (.int .i64 0) := fun W h => (h.cell (p := ⟨w1.heap.size, 1, none⟩) hlb).trans q1
    have f2 : ∀ W, Below wb.heap.size wb W → W.cell? ⟨w1.heap.size, 2, none⟩ = some (.int .i64 (m : Int)) := fun W h => (h.cell (p := ⟨w1.heap.size, 2, none⟩) hlb).trans q2
    have fo : ∀ W, Below wb.heap.size wb W → W.cell? ⟨w.heap.size, 0, none⟩ = some (.int .i64 op) := fun W h => (h.cell (p := ⟨w.heap.size, 0, none⟩) hlo).trans o2
    have HGZ : Hid (Grew w wb) := hgz
    clear hgz hg o1
    go_region_held3 (fun W => Below wb.heap.size wb W) (first | assumption | exact (Below.refl _ _).drew) (first
      | (go_at_call 27; refine (HO.out _).mono ?_; rintro e w2 ⟨rfl, hg2⟩; have hS2 : Below wb.heap.size wb w2 := below_on (by assumption) hg2.below)
      | (go_at_call 28; refine (HS.out _).mono ?_; rintro e w3 ⟨rfl, hg3⟩; have hS3 : Below wb.heap.size wb w3 := below_on (by assumption) hg3.below)
      | (go_at_call 26; refine (HB.out _).mono ?_; rintro e w4 ⟨d, g, rfl, hd4, hg4, hs4, hb4⟩; have hS4 : Below wb.heap.size wb w4 := below_on (by assumption) hb4))
    all_goals go_wp2
    all_goals go_ret2
    all_goals (have hz1 := HGZ.out.below; have hz2 := hz1.size; have hz3 := hS3.size)
    all_goals exact ⟨below_on hz1 hS4, .inr ⟨trivial, d, g, rfl, by omega, by omega, hs4⟩⟩
  · have HH2 := HH.out hk0
    have HH3 : Hid (∀ W, Calls Try.prog 25 #[.int .i64 (k : Int), .int .u64 (cc : Int)] W fun e w' => e = .returned (.bool false) ∧ w' = W) := HH2
    have hkz : ((k : Int) == 0) = false := by simp; omega
    clear HH HH2 hcc
    go_enter Try.func8, Try.ntmps8
    go_wp2_with (first
      | (go_at_call 24; refine (HP.out _ (Grew.alloc w _).below).mono ?_; rintro e w1 ⟨rfl, hg⟩; have o1 : w1.cell? ⟨w.heap.size, 0, none⟩ = some (.int .i64 op) := (hg.below.cell (p := ⟨w.heap.size, 0, none⟩) (by simp)).trans (by simp [go_sem]); have hl1 : w.heap.size < w1.heap.size := by have := hg.below.size; simp at this; omega)
      | (go_at_call 25; refine (HH3.out _).mono ?_; rintro e wz ⟨rfl, hwz⟩; subst wz))
    have q0 : (w1.alloc (.cells #[.slice a0 nb c, .int .i64 (k : Int), .int .i64 (m : Int)] 57)).cell? ⟨w1.heap.size, 0, none⟩ = some (.slice a0 nb c) := by simp [go_sem]
    have q1 : (w1.alloc (.cells #[.slice a0 nb c, .int .i64 (k : Int), .int .i64 (m : Int)] 57)).cell? ⟨w1.heap.size, 1, none⟩ = some (.int .i64 (k : Int)) := by simp [go_sem]
    have q2 : (w1.alloc (.cells #[.slice a0 nb c, .int .i64 (k : Int), .int .i64 (m : Int)] 57)).cell? ⟨w1.heap.size, 2, none⟩ = some (.int .i64 (m : Int)) := by simp [go_sem]
    have o2 : (w1.alloc (.cells #[.slice a0 nb c, .int .i64 (k : Int), .int .i64 (m : Int)] 57)).cell? ⟨w.heap.size, 0, none⟩ = some (.int .i64 op) := ((Grew.alloc w1 _).below.cell (p := ⟨w.heap.size, 0, none⟩) hl1).trans o1
    have hlb : w1.heap.size < (w1.alloc (.cells #[.slice a0 nb c, .int .i64 (k : Int), .int .i64 (m : Int)] 57)).heap.size := by simp
    have hgz := (Grew.alloc w (.cells #[.int .i64 op] 3)).trans (hg.trans (Grew.alloc w1 (.cells #[.slice a0 nb c, .int .i64 (k : Int), .int .i64 (m : Int)] 57)))
    generalize w1.alloc (.cells #[.slice a0 nb c, .int .i64 (k : Int), .int .i64 (m : Int)] 57) = wb at *
    have hlo : w.heap.size < wb.heap.size := by omega
    have f0 : ∀ W, Below wb.heap.size wb W → W.cell? ⟨w1.heap.size, 0, none⟩ = some (.slice a0 nb c) := fun W h => (h.cell (p := ⟨w1.heap.size, 0, none⟩) hlb).trans q0
    have f1 : ∀ W, Below wb.heap.size wb W → W.cell? ⟨w1.heap.size, 1, none⟩ = some (.int .i64 (k : Int)) := fun W h => (h.cell (p := ⟨w1.heap.size, 1, none⟩) hlb).trans q1
    have f2 : ∀ W, Below wb.heap.size wb W → W.cell? ⟨w1.heap.size, 2, none⟩ = some (.int .i64 (m : Int)) := fun W h => (h.cell (p := ⟨w1.heap.size, 2, none⟩) hlb).trans q2
    have fo : ∀ W, Below wb.heap.size wb W → W.cell? ⟨w.heap.size, 0, none⟩ = some (.int .i64 op) := fun W h => (h.cell (p := ⟨w.heap.size, 0, none⟩) hlo).trans o2
    have HGZ : Hid (Grew w wb) := hgz
    clear hgz hg o1
    go_region_held3 (fun W => Below wb.heap.size wb W) (first | assumption | exact (Below.refl _ _).drew) (first
      | (go_at_call 27; refine (HO.out _).mono ?_; rintro e w2 ⟨rfl, hg2⟩; have hS2 : Below wb.heap.size wb w2 := below_on (by assumption) hg2.below)
      | (go_at_call 28; refine (HS.out _).mono ?_; rintro e w3 ⟨rfl, hg3⟩; have hS3 : Below wb.heap.size wb w3 := below_on (by assumption) hg3.below)
      | (go_at_call 26; refine (HB.out _).mono ?_; rintro e w4 ⟨d, g, rfl, hd4, hg4, hs4, hb4⟩; have hS4 : Below wb.heap.size wb w4 := below_on (by assumption) hb4))
    all_goals go_wp2
    all_goals go_ret2
    all_goals (have hz1 := HGZ.out.below; have hz2 := hz1.size; have hz3 := hS3.size)
    all_goals exact ⟨below_on hz1 hS4, .inr ⟨trivial, d, g, rfl, by omega, by omega, hs4⟩⟩

/-- Test, of any packed numbers. -/
theorem Test_any (a0 : Option Addr) (nb c : Nat) (B : Nat → Nat) (width n op : Int) (cc : Nat) (w : World) (hA : PArg w a0 nb c B) (hcc : cc < 18446744073709551616) :
    Calls Try.prog 8 #[.slice a0 nb c, .int .i64 width, .int .i64 n, .int .i64 op, .int .u64 (cc : Int)] w (SetAns w (tE nb B width n op) n.toNat (fun i => standsB op (laneOf (bitB B) width.toNat i) cc)) := by
  by_cases hf : pfE nb B width n = 0
  · obtain ⟨k, m, rfl, rfl, hk, hm, hs, h0⟩ := pfE_ok hf
    by_cases ho : op < 1 ∨ 6 < op
    · have e : tE nb B (k : Int) (m : Int) op = 2 := by unfold tE; rw [if_neg (by simpa using hf), if_pos ho]
      rw [e]
      exact Test_op a0 nb c k m B op cc _ w hA hk hm hs h0 ho
    · have e : tE nb B (k : Int) (m : Int) op = 0 := by unfold tE; rw [if_neg (by simpa using hf), if_neg ho]
      rw [e]
      by_cases h : k = 0 ∨ 2 ^ k ≤ cc
      · exact Test_whole a0 nb c k m B op cc w hA hk hm hs h0 (by omega) (by omega) hcc h
      · exact Test_lanes a0 nb c k m B op cc w hA (by omega) hk hm hs h0 (by omega) (by omega) (by omega)
  · exact Test_bad a0 nb c B width n op cc _ w hA hf
end Go.Proofs.Ytoephmcmmbhnaac.Ln
