/-
  found; In, whole.
-/
import Derived.Test.YtoephmcmmbhnaacLFind
import Derived.Test.YtoephmcmmbhnaacLChosenFnd
import Derived.Test.YtoephmcmmbhnaacLSortH
namespace Go.Proofs.Ytoephmcmmbhnaac.Ln
open Go.RowKit Go.Sort
open Bt (wrd packF joinF firstW lay1F wordsOf wcells Tail)

theorem find_step (f : Nat → Bool) (k i : Nat) (hk1 : 1 ≤ k) (hi : i < lanesOf k) (hf : f i = true) :
    bits BinOp.or IntKind.u64 (markN f k i : Int) (IntKind.u64.wrap (2 ^ (i * k + k - 1))) = (markN f k (i + 1) : Int) := by
  have hp := lane_place hk1 hi
  have h1 : 2 ^ (i * k + k - 1) < 18446744073709551616 := Nat.pow_lt_pow_right (a := 2) (by omega) (show i * k + k - 1 < 64 by omega)
  have h0 : markN f k i < 18446744073709551616 := Nat.lt_of_lt_of_le (mark_lt f k i hk1) (Nat.pow_le_pow_right (n := 2) (by omega) (show i * k ≤ 64 by omega))
  rw [pow_cast, u64_left _ (Int.natCast_nonneg _) (by omega), u64_or_nat _ _ h0 h1, markN, if_pos hf]

set_option maxHeartbeats 4000000 in
set_option maxRecDepth 20000 in
theorem found_any (k x q c g : Nat) (M : Nat → Nat) (w : World) (hk1 : 1 ≤ k) (hk : k ≤ 64) (hx : x < 18446744073709551616) (hq : q ≤ 17592186043904) (hr : ∀ i j, i < j → j < q → M i < M j) (hN : Nums w .u64 (some ⟨g, 0, none⟩) q M) :
    Calls Try.prog 34 #[cutV k, .int .u64 (x : Int), .slice (some ⟨g, 0, none⟩) q c] w fun e w' => e = .returned (.int .u64 (askW k (anyB M q) x : Int)) ∧ Grew w w' := by
  have hll := lanes_le k
  have HS : Hid (∀ (v : Nat) W, Below w.heap.size w W → Calls Try.prog 60 #[.slice (some ⟨g, 0, none⟩) q c, .int .u64 (v : Int)] W fun e w' => ∃ r : Nat, e = .returned (.tuple #[.int .i64 (r : Int), .bool (anyB M q v)]) ∧ Grew W w') := fun v W hW => bsearch_any g q c v M W hq hr (hN.later hW)
  have HL : Hid (∀ i wx, i < lanesOf k → Calls Try.prog 61 #[.agg #[.int .i64 (k : Int), .int .i64 (lanesOf k : Int), .int .u64 (topsOf k : Int), .int .u64 (restOf k : Int)], .int .u64 (x : Int), .int .i64 (i : Int)] wx fun e w' => e = .returned (.int .u64 (laneW x k i : Int)) ∧ Grew wx w') := fun i wx hi => lane_any k x i wx hk1 hk hx hi
  have HPL : Hid (∀ i, i < lanesOf k → i * k + k ≤ 64) := fun i hi => (lane_place hk1 hi).1
  unfold askW cutV
  have HMS : Hid (∀ i, i < lanesOf k → anyB M q (laneW x k i) = true → bits BinOp.or IntKind.u64 (markN (fun i => anyB M q (laneW x k i)) k i : Int) (IntKind.u64.wrap (2 ^ (i * k + k - 1))) = (markN (fun i => anyB M q (laneW x k i)) k (i + 1) : Int)) := fun i hi hf => find_step _ k i hk1 hi hf
  have HMN : Hid (∀ i, anyB M q (laneW x k i) = false → markN (fun i => anyB M q (laneW x k i)) k (i + 1) = markN (fun i => anyB M q (laneW x k i)) k i) := fun i hf => by rw [markN, if_neg (by simp [hf])]
  have HF0 : Hid (markN (fun i => anyB M q (laneW x k i)) k 0 = 0) := rfl
  clear hN hr
  generalize hF : markN (fun i => anyB M q (laneW x k i)) k = F at *
  generalize hG : laneW x k = G at *
  generalize hP : anyB M q = P at *
  clear hF hG hP
  generalize topsOf k = T at *
  generalize restOf k = R at *
  generalize lanesOf k = m at *
  go_enter Try.func34, Try.ntmps34
  go_wp2
  go_loopw [7, 13] (fun v ix wr => ∃ t : Nat, t ≤ m ∧ ix = .int .i64 t ∧ v = .int .u64 (F t : Int) ∧ Hid (Grew (w.alloc (.cells #[.int .i64 (k : Int), .int .i64 (m : Int), .int .u64 (T : Int), .int .u64 (R : Int)] 63)) wr)) (fun _ ix _ => m - (intOf ix).toNat)
  case atStart => exact ⟨0, Nat.zero_le _, rfl, by rw [HF0.out]; rfl, Grew.refl _⟩
  case round =>
    obtain ⟨t, ht, rfl, rfl, HG⟩ := hrel
    by_cases hlt : t < m
    · have hg := HG.out
      have hb0 := below_on (Grew.alloc w _).below hg.below
      have q0 : wr.cell? ⟨w.heap.size, 0, none⟩ = some (.int .i64 (k : Int)) := (hg.below.cell (p := ⟨w.heap.size, 0, none⟩) (by simp)).trans (by simp [go_sem])
      have q1 : wr.cell? ⟨w.heap.size, 1, none⟩ = some (.int .i64 (m : Int)) := (hg.below.cell (p := ⟨w.heap.size, 1, none⟩) (by simp)).trans (by simp [go_sem])
      have q2 : wr.cell? ⟨w.heap.size, 2, none⟩ = some (.int .u64 (T : Int)) := (hg.below.cell (p := ⟨w.heap.size, 2, none⟩) (by simp)).trans (by simp [go_sem])
      have q3 : wr.cell? ⟨w.heap.size, 3, none⟩ = some (.int .u64 (R : Int)) := (hg.below.cell (p := ⟨w.heap.size, 3, none⟩) (by simp)).trans (by simp [go_sem])
      have HB0 : Hid (Below w.heap.size w wr) := hb0
      have hwl : w.heap.size < wr.heap.size := by have := hg.below.size; simp at this; omega
      have HL2 : Hid (∀ W, Calls Try.prog 61 #[.agg #[.int .i64 (k : Int), .int .i64 (m : Int), .int .u64 (T : Int), .int .u64 (R : Int)], .int .u64 (x : Int), .int .i64 (t : Int)] W fun e w' => e = .returned (.int .u64 (G t : Int)) ∧ Grew W w') := fun W => HL.out t W hlt
      have hp := HPL.out t hlt
      have hpc : (t : Int) * (k : Int) = ((t * k : Nat) : Int) := by simp
      have hpw : IntKind.i64.wrap ((t * k : Nat) : Int) = ((t * k : Nat) : Int) := i64_left _ (by omega) (by omega)
      have hbt : (t : Int) < (m : Int) := by omega
      clear hg hb0
      cases hf : P (G t) with
      | true =>
        have hs := HMS.out t hlt hf
        have HF : Hid (P (G t) = true) := hf
        have hsum : ((t * k : Nat) : Int) + (k : Int) = ((t * k + k : Nat) : Int) := by omega
        have hsub : ((t * k + k : Nat) : Int) - 1 = ((t * k + k - 1 : Nat) : Int) := by omega
        have hsw : IntKind.u64.wrap ((t * k + k - 1 : Nat) : Int) = ((t * k + k - 1 : Nat) : Int) := u64_left _ (by omega) (by omega)
        have hmin : min (t * k + k - 1) 64 = t * k + k - 1 := by omega
        have hle64 : t * k + k - 1 < 64 := by omega
        clear hf
        generalize t * k + k - 1 = p2 at *
        generalize t * k + k = p1 at *
        generalize t * k = p at *
        generalize G t = y at *
        go_wp2_with fail
        refine (HL2.out _).mono ?_
        rintro e w1 ⟨rfl, hg1⟩
        have c0 : w1.cell? ⟨w.heap.size, 0, none⟩ = some (.int .i64 (k : Int)) := (hg1.below.cell (p := ⟨w.heap.size, 0, none⟩) hwl).trans q0
        have HS2 : Hid (Calls Try.prog 60 #[.slice (some ⟨g, 0, none⟩) q c, .int .u64 (y : Int)] w1 fun e w' => ∃ r : Nat, e = .returned (.tuple #[.int .i64 (r : Int), .bool true]) ∧ Grew w1 w') := by
          have := HS.out y w1 (below_on HB0.out hg1.below)
          rwa [HF.out] at this
        have hw1l : w.heap.size < w1.heap.size := by have := hg1.below.size; omega
        go_wp2_with fail
        refine HS2.out.mono ?_
        rintro e w2 ⟨r, rfl, hg2⟩
        have d0 : w2.cell? ⟨w.heap.size, 0, none⟩ = some (.int .i64 (k : Int)) := (hg2.below.cell (p := ⟨w.heap.size, 0, none⟩) hw1l).trans c0
        go_wp2
        exact ⟨⟨t + 1, by omega, by go_num, rfl, (HG.out.trans hg1).trans hg2⟩, by simp [intOf]; omega⟩
      | false =>
        have HFS : Hid (F (t + 1) = F t) := HMN.out t hf
        have HF : Hid (P (G t) = false) := hf
        clear hf
        generalize t * k = p at *
        generalize G t = y at *
        go_wp2_with fail
        refine (HL2.out _).mono ?_
        rintro e w1 ⟨rfl, hg1⟩
        have HS2 : Hid (Calls Try.prog 60 #[.slice (some ⟨g, 0, none⟩) q c, .int .u64 (y : Int)] w1 fun e w' => ∃ r : Nat, e = .returned (.tuple #[.int .i64 (r : Int), .bool false]) ∧ Grew w1 w') := by
          have := HS.out y w1 (below_on HB0.out hg1.below)
          rwa [HF.out] at this
        go_wp2_with fail
        refine HS2.out.mono ?_
        rintro e w2 ⟨r, rfl, hg2⟩
        go_wp2
        exact ⟨⟨t + 1, by omega, by go_num, by rw [HFS.out], (HG.out.trans hg1).trans hg2⟩, by simp [intOf]; omega⟩
    · obtain rfl : t = m := by omega
      have q1 : wr.cell? ⟨w.heap.size, 1, none⟩ = some (.int .i64 (t : Int)) := (HG.out.below.cell (p := ⟨w.heap.size, 1, none⟩) (by simp)).trans (by simp [go_sem])
      go_wp2
      go_ret
      exact ⟨rfl, (Grew.alloc _ _).trans HG.out⟩

set_option maxHeartbeats 1000000 in
theorem in1_any (k x q c bk bw g : Nat) (M : Nat → Nat) (W : World) (hk1 : 1 ≤ k) (hk : k ≤ 64) (hx : x < 18446744073709551616) (hq : q ≤ 17592186043904) (hr : ∀ i j, i < j → j < q → M i < M j) (hN : Nums W .u64 (some ⟨g, 0, none⟩) q M)
    (k0 : W.cell? ⟨bk, 0, none⟩ = some (.int .i64 (k : Int))) (k1 : W.cell? ⟨bk, 1, none⟩ = some (.int .i64 (lanesOf k : Int))) (k2 : W.cell? ⟨bk, 2, none⟩ = some (.int .u64 (topsOf k : Int))) (k3 : W.cell? ⟨bk, 3, none⟩ = some (.int .u64 (restOf k : Int)))
    (s0 : W.cell? ⟨bw, 0, none⟩ = some (.slice (some ⟨g, 0, none⟩) q c)) :
    Calls Try.prog 33 #[.int .u64 (x : Int), .pointer (some ⟨bk, 0, none⟩), .pointer (some ⟨bw, 0, none⟩)] W fun e w' => e = .returned (.int .u64 (askW k (anyB M q) x : Int)) ∧ Grew W w' := by
  have HS : Hid (Calls Try.prog 34 #[.agg #[.int .i64 (k : Int), .int .i64 (lanesOf k : Int), .int .u64 (topsOf k : Int), .int .u64 (restOf k : Int)], .int .u64 (x : Int), .slice (some ⟨g, 0, none⟩) q c] W fun e w' => e = .returned (.int .u64 (askW k (anyB M q) x : Int)) ∧ Grew W w') := found_any k x q c g M W hk1 hk hx hq hr hN
  clear hr hN
  generalize askW k (anyB M q) x = z at *
  generalize topsOf k = T at *
  generalize restOf k = R at *
  generalize lanesOf k = L at *
  go_enter Try.func33, Try.ntmps33
  go_wp2_with (go_at_call 34; refine HS.out.mono ?_; rintro e w' ⟨rfl, hg⟩)
  go_ret
  exact ⟨rfl, hg⟩

theorem wantedOf_all (a0 : Option Addr) (n c k : Nat) (L : Nat → Nat) (w : World) (hn : n ≤ 17592186043904) (hL : ∀ j, L j < 18446744073709551616) (hN : Nums w .u64 a0 n L) (hk : k ≤ 64) :
    Calls Try.prog 32 #[.slice a0 n c, .int .i64 (k : Int)] w (WAns w k n L) :=
  wantedOf_of a0 n c k L w hn hL hN hk fun W' g c' hr => by
    have hl := flt_len k L n
    have := sort_all g c' (flt k L n).toArray W' hr (by simp; omega)
    simpa using this

/-- In, of any packed numbers and any numbers. -/
theorem In_any (a0 a1 : Option Addr) (nb c n1 c1 : Nat) (B L : Nat → Nat) (width n : Int) (w : World) (hA : PArg w a0 nb c B) (hn1 : n1 ≤ 17592186043904) (hL : ∀ j, L j < 18446744073709551616) (hN : Nums w .u64 a1 n1 L) :
    Calls Try.prog 9 #[.slice a0 nb c, .int .i64 width, .int .i64 n, .slice a1 n1 c1] w (SetAns w (pfE nb B width n) n.toNat (fun i => anyB L n1 (laneOf (bitB B) width.toNat i))) := by
  by_cases hf : pfE nb B width n = 0
  · obtain ⟨k, m, rfl, rfl, hk, hm, hs, h0⟩ := pfE_ok hf
    rw [hf]
    have hw : ∀ W, Below w.heap.size w W → Calls Try.prog 32 #[.slice a1 n1 c1, .int .i64 (k : Int)] W (WAns W k n1 L) := fun W hW => wantedOf_all a1 n1 c1 k L W hn1 hL (hN.later hW) hk
    by_cases hk0 : k = 0
    · subst hk0
      exact In_none a0 a1 nb c n1 c1 m B L w hA hm hs h0 hw
    · refine In_lanes a0 a1 nb c n1 c1 k m B L w hA (by omega) hk hm hn1 hs h0 hw (fun W bk bw g c2 q M hq hM hW lk lw lg hN2 k0 k1 k2 k3 s0 => ?_)
      have hqn := hM.le
      have := chosen_Fnd a0 nb c k m B (anyB M q) (.pointer (some ⟨bk, 0, none⟩)) (.pointer (some ⟨bw, 0, none⟩)) W hA.small hA.cap hA.cap2 hA.byte hA.out (hA.nums.later hW) (by omega) hk hm
        (fun W' x hx hb => in1_any k x q c2 bk bw g M W' (by omega) hk hx (by omega) hM.rise (hN2.later hb) ((hb.cell (p := ⟨bk, 0, none⟩) lk).trans k0) ((hb.cell (p := ⟨bk, 1, none⟩) lk).trans k1) ((hb.cell (p := ⟨bk, 2, none⟩) lk).trans k2) ((hb.cell (p := ⟨bk, 3, none⟩) lk).trans k3) ((hb.cell (p := ⟨bw, 0, none⟩) lw).trans s0))
      rw [show (fun i => decide (i < m) && anyB M q (laneOf (bitB B) k i)) = fun i => decide (i < m) && anyB L n1 (laneOf (bitB B) k i) by funext i; rw [wanted_any hM (laneOf_lt _ _ _)]] at this
      exact this
  · exact In_bad a0 a1 nb c n1 c1 B width n _ w hA hf
end Go.Proofs.Ytoephmcmmbhnaac.Ln
