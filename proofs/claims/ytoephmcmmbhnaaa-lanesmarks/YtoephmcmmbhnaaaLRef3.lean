/-
  Held, Marks, as the document has them.
-/
import Derived.Test.YtoephmcmmbhnaaaLRef2
namespace Go.Proofs.Ytoephmcmmbhnaaa.Ln
open Go.RowKit Go.Sort

theorem mark_step (f : Nat → Bool) (k i : Nat) (hk1 : 1 ≤ k) (hi : i < lanesOf k) (hf : f i = true) :
    bits BinOp.or IntKind.u64 (markN f k i : Int) (IntKind.u64.wrap (2 ^ (i * k + k - 1))) = (markN f k (i + 1) : Int) := by
  have hp := lane_place hk1 hi
  have h1 : 2 ^ (i * k + k - 1) < 18446744073709551616 := Nat.pow_lt_pow_right (a := 2) (by omega) (show i * k + k - 1 < 64 by omega)
  have h0 : markN f k i < 18446744073709551616 := Nat.lt_of_lt_of_le (mark_lt f k i hk1) (Nat.pow_le_pow_right (n := 2) (by omega) (show i * k ≤ 64 by omega))
  rw [pow_cast, u64_left _ (Int.natCast_nonneg _) (by omega), u64_or_nat _ _ h0 h1, markN, if_pos hf]

set_option maxHeartbeats 2000000 in
set_option maxRecDepth 20000 in
theorem refHeld_any (x y : Nat) (n op : Int) (w : World) (hx : x < 18446744073709551616) (hy : y < 18446744073709551616) :
    Calls Try.prog 12 #[.int .u64 (x : Int), .int .u64 (y : Int), .int .i64 n, .int .i64 op] w fun e w' => e = .returned (.tuple #[.int .u64 (heldV x y n op : Int), .int .i64 (lnE n)]) ∧ Below w.heap.size w w' := by
  cases hl : isLane n with
  | false =>
    have e1 : heldV x y n op = 0 := by unfold heldV; rw [if_neg (by simp [hl])]
    have e2 : lnE n = 20 := by unfold lnE; rw [if_neg (by simp [hl])]
    rw [e1, e2]
    have h2 : n < 1 ∨ 64 < n := by simp [isLane] at hl; omega
    clear hl e1 e2
    rcases h2 with h | h
    · have hd : decide (n < 1) = true := by simpa using h
      go_enter Try.func12, Try.ntmps12
      go_wp2
      go_ret2
      exact ⟨rfl, Below.refl _ _⟩
    · have hd : decide (n < 1) = false := by simp; omega
      have hd2 : decide (64 < n) = true := by simpa using h
      go_enter Try.func12, Try.ntmps12
      go_wp2
      go_ret2
      exact ⟨rfl, Below.refl _ _⟩
  | true =>
    obtain ⟨k, rfl, hk1, hk⟩ := isLane_yes hl
    have hd : decide ((k : Int) < 1) = false := by simp; omega
    have hd2 : decide (64 < (k : Int)) = false := by simp; omega
    have e1 : heldV x y (k : Int) op = markN (fun i => standsB op (laneW x k i) (laneW y k i)) k (lanesOf k) := by unfold heldV; rw [if_pos hl]; rfl
    have e2 : lnE (k : Int) = 0 := by unfold lnE; rw [if_pos hl]
    rw [e1, e2]
    have HWD : Hid (∀ (z : Nat) W, z < 18446744073709551616 → Calls Try.prog 33 #[.int .u64 (z : Int)] W fun e w' => ∃ a0 c, e = .returned (.slice a0 8 c) ∧ Nums w' .u8 a0 8 (wB z) ∧ Below W.heap.size W w') := fun z W hz => refWord_any z W hz
    have HLN : Hid (∀ (z i : Nat) (a0 : Option Addr) (c : Nat) W, z < 18446744073709551616 → i < lanesOf k → Nums W .u8 a0 8 (wB z) → Calls Try.prog 32 #[.slice a0 8 c, .int .i64 ((i * k : Nat) : Int), .int .i64 (k : Int)] W fun e w' => e = .returned (.int .u64 (laneW z k i : Int)) ∧ w' = W) := fun z i a0 c W hz hi hN => by
      have hp := lane_place hk1 hi
      have := refLane_any a0 8 c (wB z) k i W (wB_lt z) (fun j hj => wB_out hz hj) hN hk (by omega)
      rwa [lane_wB] at this
    have HST : Hid (∀ (a c : Nat) W, Calls Try.prog 31 #[.int .u64 (a : Int), .int .i64 op, .int .u64 (c : Int)] W fun e w' => e = .returned (.bool (standsB op a c)) ∧ w' = W) := fun a c W => refStands_any a c op W
    have HPL : Hid (∀ i, i < lanesOf k → i * k + k ≤ 64) := fun i hi => (lane_place hk1 hi).1
    have HMS : Hid (∀ i, i < lanesOf k → standsB op (laneW x k i) (laneW y k i) = true → bits BinOp.or IntKind.u64 (markN (fun i => standsB op (laneW x k i) (laneW y k i)) k i : Int) (IntKind.u64.wrap (2 ^ (i * k + k - 1))) = (markN (fun i => standsB op (laneW x k i) (laneW y k i)) k (i + 1) : Int)) := fun i hi hf => mark_step _ k i hk1 hi hf
    have HMN : Hid (∀ i, standsB op (laneW x k i) (laneW y k i) = false → markN (fun i => standsB op (laneW x k i) (laneW y k i)) k (i + 1) = markN (fun i => standsB op (laneW x k i) (laneW y k i)) k i) := fun i hf => by rw [markN, if_neg (by simp [hf])]
    have hq : (64 : Int) / (k : Int) = (lanesOf k : Int) := rfl
    have hll := lanes_le k
    have hkn : ¬ (k = 0) := by omega
    have HF0 : Hid (markN (fun i => standsB op (laneW x k i) (laneW y k i)) k 0 = 0) := rfl
    clear hl e1 e2
    generalize hF : markN (fun i => standsB op (laneW x k i) (laneW y k i)) k = F at *
    clear hF
    generalize lanesOf k = m at *
    go_enter Try.func12, Try.ntmps12
    go_wp2
    go_loopw [10, 11] (fun v ix wr => ∃ t : Nat, t ≤ m ∧ ix = .int .i64 t ∧ v = .int .u64 (F t : Int) ∧ Hid (Below w.heap.size w wr)) (fun _ ix _ => m - (intOf ix).toNat)
    case atStart => exact ⟨0, Nat.zero_le _, rfl, by rw [HF0.out]; rfl, Below.refl _ _⟩
    case round =>
      obtain ⟨t, ht, rfl, rfl, HB⟩ := hrel
      by_cases hlt : t < m
      · have hp := HPL.out t hlt
        have hpc : (t : Int) * (k : Int) = ((t * k : Nat) : Int) := by simp
        have hpw : IntKind.i64.wrap ((t * k : Nat) : Int) = ((t * k : Nat) : Int) := i64_left _ (by omega) (by omega)
        cases hf : standsB op (laneW x k t) (laneW y k t) with
        | true =>
          have hs := HMS.out t hlt hf
          have HF : Hid (standsB op (laneW x k t) (laneW y k t) = true) := hf
          have hsum : ((t * k : Nat) : Int) + (k : Int) = ((t * k + k : Nat) : Int) := by omega
          have hsub : ((t * k + k : Nat) : Int) - 1 = ((t * k + k - 1 : Nat) : Int) := by omega
          have hsw : IntKind.u64.wrap ((t * k + k - 1 : Nat) : Int) = ((t * k + k - 1 : Nat) : Int) := u64_left _ (by omega) (by omega)
          have hmin : min (t * k + k - 1) 64 = t * k + k - 1 := by omega
          have hle64 : t * k + k - 1 < 64 := by omega
          have HX : Hid (∀ (a0 : Option Addr) (c : Nat) W, Nums W .u8 a0 8 (wB x) → Calls Try.prog 32 #[.slice a0 8 c, .int .i64 ((t * k : Nat) : Int), .int .i64 (k : Int)] W fun e w' => e = .returned (.int .u64 (laneW x k t : Int)) ∧ w' = W) := fun a0 c W h => HLN.out x t a0 c W hx hlt h
          have HY : Hid (∀ (a0 : Option Addr) (c : Nat) W, Nums W .u8 a0 8 (wB y) → Calls Try.prog 32 #[.slice a0 8 c, .int .i64 ((t * k : Nat) : Int), .int .i64 (k : Int)] W fun e w' => e = .returned (.int .u64 (laneW y k t : Int)) ∧ w' = W) := fun a0 c W h => HLN.out y t a0 c W hy hlt h
          clear hf
          generalize t * k + k - 1 = p2 at *
          generalize t * k + k = p1 at *
          generalize t * k = p at *
          go_wp2_with fail
          refine (HWD.out x _ hx).mono ?_
          rintro e w1 ⟨a1, c1, rfl, hn1, hb1⟩
          go_wp2_with fail
          refine (HX.out a1 c1 _ hn1).mono ?_
          rintro e wz ⟨rfl, hwz⟩
          subst wz
          go_wp2_with fail
          refine (HWD.out y _ hy).mono ?_
          rintro e w2 ⟨a2, c2, rfl, hn2, hb2⟩
          go_wp2_with fail
          refine (HY.out a2 c2 _ hn2).mono ?_
          rintro e wz ⟨rfl, hwz⟩
          subst wz
          go_wp2_with fail
          refine (HST.out _ _ _).mono ?_
          rintro e wz ⟨rfl, hwz⟩
          subst wz
          rw [HF.out]
          go_wp2
          exact ⟨⟨t + 1, by omega, by go_num, rfl, below_on (below_on HB.out hb1) hb2⟩, by simp [intOf]; omega⟩
        | false =>
          have hs := HMN.out t hf
          have HF : Hid (standsB op (laneW x k t) (laneW y k t) = false) := hf
          have HFS : Hid (F (t + 1) = F t) := hs
          have HX : Hid (∀ (a0 : Option Addr) (c : Nat) W, Nums W .u8 a0 8 (wB x) → Calls Try.prog 32 #[.slice a0 8 c, .int .i64 ((t * k : Nat) : Int), .int .i64 (k : Int)] W fun e w' => e = .returned (.int .u64 (laneW x k t : Int)) ∧ w' = W) := fun a0 c W h => HLN.out x t a0 c W hx hlt h
          have HY : Hid (∀ (a0 : Option Addr) (c : Nat) W, Nums W .u8 a0 8 (wB y) → Calls Try.prog 32 #[.slice a0 8 c, .int .i64 ((t * k : Nat) : Int), .int .i64 (k : Int)] W fun e w' => e = .returned (.int .u64 (laneW y k t : Int)) ∧ w' = W) := fun a0 c W h => HLN.out y t a0 c W hy hlt h
          clear hf hs
          generalize t * k = p at *
          go_wp2_with fail
          refine (HWD.out x _ hx).mono ?_
          rintro e w1 ⟨a1, c1, rfl, hn1, hb1⟩
          go_wp2_with fail
          refine (HX.out a1 c1 _ hn1).mono ?_
          rintro e wz ⟨rfl, hwz⟩
          subst wz
          go_wp2_with fail
          refine (HWD.out y _ hy).mono ?_
          rintro e w2 ⟨a2, c2, rfl, hn2, hb2⟩
          go_wp2_with fail
          refine (HY.out a2 c2 _ hn2).mono ?_
          rintro e wz ⟨rfl, hwz⟩
          subst wz
          go_wp2_with fail
          refine (HST.out _ _ _).mono ?_
          rintro e wz ⟨rfl, hwz⟩
          subst wz
          rw [HF.out]
          go_wp2
          exact ⟨⟨t + 1, by omega, by go_num, by rw [HFS.out], below_on (below_on HB.out hb1) hb2⟩, by simp [intOf]; omega⟩
      · obtain rfl : t = m := by omega
        go_wp2
        go_ret2
        exact ⟨rfl, HB.out⟩

theorem marks_bit_step (k m i : Nat) (hk1 : 1 ≤ k) (hi : i < lanesOf k) :
    bits BinOp.or IntKind.u64 (marksW k m i : Int) (IntKind.u64.wrap ((bitV (bitB (wB m)) (i * k + k - 1) : Int) * 2 ^ i)) = (marksW k m (i + 1) : Int) := by
  have hl := lanes_le k
  have e : wordOf (fun j => m.testBit (j * k + k - 1)) = fun t => marksW k m t := by
    funext t
    refine (wordOf_ext (marksW_lt hk1 t) fun r hr => ?_).symm
    rw [marksW_bit hk1]; simp [hr]
  have := bit_step (fun j => m.testBit (j * k + k - 1)) i (bitV (bitB (wB m)) (i * k + k - 1)) (by omega) (by unfold bitV; rw [wB_bit])
  rw [e] at this
  exact this

set_option maxHeartbeats 2000000 in
set_option maxRecDepth 20000 in
theorem refMarks_any (x : Nat) (n : Int) (w : World) (hx : x < 18446744073709551616) :
    Calls Try.prog 15 #[.int .u64 (x : Int), .int .i64 n] w fun e w' => e = .returned (.tuple #[.int .u64 (mkV x n : Int), .int .i64 (lnE n)]) ∧ Below w.heap.size w w' := by
  cases hl : isLane n with
  | false =>
    have e1 : mkV x n = 0 := by unfold mkV; rw [if_neg (by simp [hl])]
    have e2 : lnE n = 20 := by unfold lnE; rw [if_neg (by simp [hl])]
    rw [e1, e2]
    have h2 : n < 1 ∨ 64 < n := by simp [isLane] at hl; omega
    clear hl e1 e2
    rcases h2 with h | h
    · have hd : decide (n < 1) = true := by simpa using h
      go_enter Try.func15, Try.ntmps15
      go_wp2
      go_ret2
      exact ⟨rfl, Below.refl _ _⟩
    · have hd : decide (n < 1) = false := by simp; omega
      have hd2 : decide (64 < n) = true := by simpa using h
      go_enter Try.func15, Try.ntmps15
      go_wp2
      go_ret2
      exact ⟨rfl, Below.refl _ _⟩
  | true =>
    obtain ⟨k, rfl, hk1, hk⟩ := isLane_yes hl
    have hd : decide ((k : Int) < 1) = false := by simp; omega
    have hd2 : decide (64 < (k : Int)) = false := by simp; omega
    have e1 : mkV x (k : Int) = marksW k x (lanesOf k) := by unfold mkV; rw [if_pos hl]; simp
    have e2 : lnE (k : Int) = 0 := by unfold lnE; rw [if_pos hl]
    rw [e1, e2]
    have HWD : Hid (∀ W, Calls Try.prog 33 #[.int .u64 (x : Int)] W fun e w' => ∃ a0 c, e = .returned (.slice a0 8 c) ∧ Nums w' .u8 a0 8 (wB x) ∧ Below W.heap.size W w') := fun W => refWord_any x W hx
    have HBT : Hid (∀ (p : Nat) (a0 : Option Addr) (c : Nat) W, p < 64 → Nums W .u8 a0 8 (wB x) → Calls Try.prog 37 #[.slice a0 8 c, .int .i64 (p : Int)] W fun e w' => e = .returned (.int .u64 (bitV (bitB (wB x)) p : Int)) ∧ w' = W) := fun p a0 c W hp hN => refBit_any a0 8 c (wB x) p W (wB_lt x) (fun j hj => wB_out hx hj) hN (by omega)
    have HPL : Hid (∀ i, i < lanesOf k → i * k + k ≤ 64) := fun i hi => (lane_place hk1 hi).1
    have HMS : Hid (∀ i, i < lanesOf k → bits BinOp.or IntKind.u64 (marksW k x i : Int) (IntKind.u64.wrap ((bitV (bitB (wB x)) (i * k + k - 1) : Int) * 2 ^ i)) = (marksW k x (i + 1) : Int)) := fun i hi => marks_bit_step k x i hk1 hi
    have hq : (64 : Int) / (k : Int) = (lanesOf k : Int) := rfl
    have hll := lanes_le k
    have hkn : ¬ (k = 0) := by omega
    have HF0 : Hid (marksW k x 0 = 0) := rfl
    clear hl e1 e2
    generalize hF : marksW k x = F at *
    clear hF
    generalize lanesOf k = m at *
    go_enter Try.func15, Try.ntmps15
    go_wp2
    go_loopw [6, 7] (fun v ix wr => ∃ t : Nat, t ≤ m ∧ ix = .int .i64 t ∧ v = .int .u64 (F t : Int) ∧ Hid (Below w.heap.size w wr)) (fun _ ix _ => m - (intOf ix).toNat)
    case atStart => exact ⟨0, Nat.zero_le _, rfl, by rw [HF0.out]; rfl, Below.refl _ _⟩
    case round =>
      obtain ⟨t, ht, rfl, rfl, HB⟩ := hrel
      by_cases hlt : t < m
      · have hp := HPL.out t hlt
        have hpc : (t : Int) * (k : Int) = ((t * k : Nat) : Int) := by simp
        have hpw : IntKind.i64.wrap ((t * k : Nat) : Int) = ((t * k : Nat) : Int) := i64_left _ (by omega) (by omega)
        have hs := HMS.out t hlt
        have hsum : ((t * k : Nat) : Int) + (k : Int) = ((t * k + k : Nat) : Int) := by omega
        have hsub : ((t * k + k : Nat) : Int) - 1 = ((t * k + k - 1 : Nat) : Int) := by omega
        have htw : IntKind.u64.wrap (t : Int) = (t : Int) := u64_left _ (by omega) (by omega)
        have hbl := bitV_le (bitB (wB x)) (t * k + k - 1)
        have HBT2 : Hid (∀ (a0 : Option Addr) (c : Nat) W, Nums W .u8 a0 8 (wB x) → Calls Try.prog 37 #[.slice a0 8 c, .int .i64 ((t * k + k - 1 : Nat) : Int)] W fun e w' => e = .returned (.int .u64 (bitV (bitB (wB x)) (t * k + k - 1) : Int)) ∧ w' = W) := fun a0 c W h => HBT.out _ a0 c W (by omega) h
        generalize bitV (bitB (wB x)) (t * k + k - 1) = z at *
        have hp2 : t * k + k - 1 < 64 := by omega
        generalize t * k + k - 1 = p2 at *
        generalize t * k + k = p1 at *
        generalize t * k = p at *
        go_wp2_with fail
        refine (HWD.out _).mono ?_
        rintro e w1 ⟨a1, c1, rfl, hn1, hb1⟩
        go_wp2_with fail
        refine (HBT2.out a1 c1 _ hn1).mono ?_
        rintro e wz ⟨rfl, hwz⟩
        subst wz
        go_wp2
        exact ⟨⟨t + 1, by omega, by go_num, rfl, below_on HB.out hb1⟩, by simp [intOf]; omega⟩
      · obtain rfl : t = m := by omega
        go_wp2
        go_ret2
        exact ⟨rfl, HB.out⟩
end Go.Proofs.Ytoephmcmmbhnaaa.Ln
