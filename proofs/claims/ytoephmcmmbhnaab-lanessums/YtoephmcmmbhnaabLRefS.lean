/-
  THE DOCUMENT's OWN Sum AND Ends.
-/
import Derived.Test.YtoephmcmmbhnaabLRefT
import Derived.Test.YtoephmcmmbhnaabLEnds
namespace Go.Proofs.Ytoephmcmmbhnaab.Ln
open Go.RowKit Go.Sort

theorem lane64 (f : Nat → Bool) {k : Nat} (hk : k ≤ 64) (j : Nat) : laneOf f k j < 18446744073709551616 := Nat.lt_of_lt_of_le (laneOf_lt _ _ _) (Nat.pow_le_pow_right (n := 2) (by omega) hk)

set_option maxHeartbeats 1000000 in
set_option maxRecDepth 20000 in
theorem refSum_any (a0 : Option Addr) (nb c : Nat) (B : Nat → Nat) (width n : Int) (w : World) (hA : PArg w a0 nb c B) :
    Calls Try.prog 11 #[.slice a0 nb c, .int .i64 width, .int .i64 n] w (SumAns w (pfE nb B width n) (if pfE nb B width n = 0 then sumH (laneOf (bitB B) width.toNat) n.toNat else 0) (if pfE nb B width n = 0 then sumL (laneOf (bitB B) width.toNat) n.toNat else 0)) := by
  have HF : Hid (∀ W, Below w.heap.size w W → Calls Try.prog 34 #[.slice a0 nb c, .int .i64 width, .int .i64 n] W fun e w' => e = .returned (.int .i64 (pfE nb B width n)) ∧ w' = W) := fun W hW => refFault_any a0 nb c B width n W hA.small hA.byte hA.out (hA.nums.later hW)
  by_cases hf : pfE nb B width n = 0
  · obtain ⟨k, m, rfl, rfl, hk, hm, hs, h0⟩ := pfE_ok hf
    rw [hf] at HF ⊢
    simp only [if_true, Int.toNat_natCast]
    have HNB : Hid (∀ W, Below w.heap.size w W → Calls Try.prog 35 #[.slice a0 nb c, .int .i64 (k : Int), .int .i64 (m : Int)] W fun e w' => ∃ v, e = .returned v ∧ Own w' W.heap.size 23 .u64 v m (laneOf (bitB B) k) ∧ Below W.heap.size W w') := fun W hW => refNumbers_any a0 nb c k m B W hA.byte hA.out (hA.nums.later hW) hk hm
    have HL64 : Hid (∀ j, laneOf (bitB B) k j < 18446744073709551616) := fun j => lane64 _ hk j
    clear hA hf hs h0
    generalize laneOf (bitB B) k = L at *
    go_enter Try.func11, Try.ntmps11
    go_wp2_with (first
      | (go_at_call 34; refine (HF.out _ (Below.refl _ _)).mono ?_; rintro e wz ⟨rfl, hwz⟩; subst wz)
      | (go_at_call 35; refine (HNB.out _ (Below.refl _ _)).mono ?_; rintro e w1 ⟨v, rfl, hO, hb1⟩; obtain ⟨a1, c1, rfl, hc1, hc2, _⟩ := hO.form))
    have HNM : Hid (Nums w1 .u64 a1 m L) := hO.nums
    have HB1 : Hid (Below w.heap.size w w1) := hb1
    clear hO hb1
    go_loop [10, 11, 13] (fun x y ix => ∃ i : Nat, i ≤ m ∧ ix = .int .i64 i ∧ x = .int .u64 (sumH L i : Int) ∧ y = .int .u64 (sumL L i : Int)) (fun _ _ ix => m - (intOf ix).toNat)
    case atStart => exact ⟨0, Nat.zero_le _, rfl, by simp [sumH, sumN], by simp [sumL, sumN]⟩
    case round =>
      obtain ⟨i, hi, rfl, rfl, rfl⟩ := hrel
      by_cases hlt : i < m
      · obtain ⟨g0, o0, rfl, hg0, hc0⟩ := HNM.out i hlt
        have hsm : sumN L i ≤ i * 18446744073709551616 := sumN_le fun j _ => Nat.le_of_lt (HL64.out j)
        have hH : sumH L i < 16777217 := by unfold sumH; omega
        have hlo : sumL L i < 18446744073709551616 := by unfold sumL; omega
        have hv := HL64.out i
        obtain ⟨q1, q2⟩ := carry_step (sumN L i) (L i) hv
        have e1 : sumL L (i + 1) = (sumL L i + L i) % 18446744073709551616 := q1
        have e2 : sumH L (i + 1) = sumH L i + (if sumL L (i + 1) < sumL L i then 1 else 0) := by rw [e1]; exact q2
        have hw1 : IntKind.u64.wrap ((sumL L i : Int) + (L i : Int)) = (sumL L (i + 1) : Int) := by rw [e1, IntKind.wrap_u64]; omega
        clear q1 q2 e1 hsm
        generalize hl1 : sumL L (i + 1) = l1 at *
        generalize hh1 : sumH L (i + 1) = h1 at *
        have HL1 : Hid (sumL L (i + 1) = l1) := hl1
        have HH1 : Hid (sumH L (i + 1) = h1) := hh1
        clear hl1 hh1
        generalize sumL L i = l0 at *
        generalize sumH L i = h0 at *
        generalize L i = v at *
        by_cases hcy : l1 < l0
        · rw [if_pos hcy] at e2
          subst e2
          go_wp2
          exact ⟨⟨i + 1, by omega, by go_num, by rw [HH1.out]; go_num, by rw [HL1.out]⟩, by simp [intOf]; omega⟩
        · rw [if_neg hcy] at e2
          subst e2
          go_wp2
          exact ⟨⟨i + 1, by omega, by go_num, by rw [HH1.out], by rw [HL1.out]⟩, by simp [intOf]; omega⟩
      · obtain rfl : i = m := by omega
        generalize sumL L i = l0 at *
        generalize sumH L i = h0 at *
        go_wp2
        refine bodyPost_ret (v := .tuple #[.int .u64 (h0 : Int), .int .u64 (l0 : Int), .int .i64 0]) (by simp [results, Try.results11, go_sem]) rfl ⟨rfl, HB1.out⟩
  · have hne : (pfE nb B width n != 0) = true := by simpa using hf
    rw [if_neg hf, if_neg hf]
    clear hA hf
    generalize pfE nb B width n = E at *
    go_enter Try.func11, Try.ntmps11
    go_wp2_with (go_at_call 34; refine (HF.out _ (Below.refl _ _)).mono ?_; rintro e wz ⟨rfl, hwz⟩; subst wz)
    refine bodyPost_ret (v := .tuple #[.int .u64 0, .int .u64 0, .int .i64 E]) (by simp [results, Try.results11, go_sem]) rfl ⟨rfl, Below.refl _ _⟩

set_option maxHeartbeats 1000000 in
set_option maxRecDepth 20000 in
theorem refEnds_any (a0 : Option Addr) (nb c : Nat) (B : Nat → Nat) (width n : Int) (w : World) (hA : PArg w a0 nb c B) :
    Calls Try.prog 14 #[.slice a0 nb c, .int .i64 width, .int .i64 n] w (SumAns w (pfE nb B width n) (if pfE nb B width n = 0 ∧ 1 ≤ n.toNat then minU (laneOf (bitB B) width.toNat) n.toNat else 0) (if pfE nb B width n = 0 ∧ 1 ≤ n.toNat then maxU (laneOf (bitB B) width.toNat) n.toNat else 0)) := by
  have HF : Hid (∀ W, Below w.heap.size w W → Calls Try.prog 34 #[.slice a0 nb c, .int .i64 width, .int .i64 n] W fun e w' => e = .returned (.int .i64 (pfE nb B width n)) ∧ w' = W) := fun W hW => refFault_any a0 nb c B width n W hA.small hA.byte hA.out (hA.nums.later hW)
  by_cases hf : pfE nb B width n = 0
  · obtain ⟨k, m, rfl, rfl, hk, hm, hs, h0⟩ := pfE_ok hf
    rw [hf] at HF ⊢
    simp only [true_and, Int.toNat_natCast]
    have HNB : Hid (∀ W, Below w.heap.size w W → Calls Try.prog 35 #[.slice a0 nb c, .int .i64 (k : Int), .int .i64 (m : Int)] W fun e w' => ∃ v, e = .returned v ∧ Own w' W.heap.size 23 .u64 v m (laneOf (bitB B) k) ∧ Below W.heap.size W w') := fun W hW => refNumbers_any a0 nb c k m B W hA.byte hA.out (hA.nums.later hW) hk hm
    have HL64 : Hid (∀ j, laneOf (bitB B) k j < 18446744073709551616) := fun j => lane64 _ hk j
    clear hA hf hs h0
    generalize laneOf (bitB B) k = L at *
    by_cases hm1 : 1 ≤ m
    · rw [if_pos hm1, if_pos hm1]
      have hmz : ((m : Int) == 0) = false := by simp; omega
      go_enter Try.func14, Try.ntmps14
      go_wp2_with (first
        | (go_at_call 34; refine (HF.out _ (Below.refl _ _)).mono ?_; rintro e wz ⟨rfl, hwz⟩; subst wz)
        | (go_at_call 35; refine (HNB.out _ (Below.refl _ _)).mono ?_; rintro e w1 ⟨v, rfl, hO, hb1⟩; obtain ⟨a1, c1, rfl, hc1, hc2, _⟩ := hO.form; obtain ⟨gz, oz, rfl, hgz, hcz⟩ := hO.nums 0 hm1; simp only [Nat.add_zero] at hcz))
      have HNM : Hid (Nums w1 .u64 (some ⟨gz, oz, none⟩) m L) := hO.nums
      have HB1 : Hid (Below w.heap.size w w1) := hb1
      clear hO hb1
      go_loop [11, 12, 13] (fun x y ix => ∃ i : Nat, i ≤ m ∧ ix = .int .i64 i ∧ x = .int .u64 (min (L 0) (minU L i) : Nat) ∧ y = .int .u64 (max (L 0) (maxU L i) : Nat)) (fun _ _ ix => m - (intOf ix).toNat)
      case atStart => exact ⟨0, Nat.zero_le _, rfl, by rw [show min (L 0) (minU L 0) = L 0 by have := HL64.out 0; simp only [minU]; omega], by rw [show max (L 0) (maxU L 0) = L 0 by simp only [maxU]; omega]⟩
      case round =>
        obtain ⟨i, hi, rfl, rfl, rfl⟩ := hrel
        by_cases hlt : i < m
        · obtain ⟨g0, o0, hgo, hg0, hc0⟩ := HNM.out i hlt
          obtain ⟨rfl, rfl⟩ : gz = g0 ∧ oz = o0 := by simpa using hgo
          have e1 : min ((min (L 0) (minU L i) : Nat) : Int) (L i : Int) = ((min (L 0) (minU L (i + 1)) : Nat) : Int) := by simp only [minU]; omega
          have e2 : max ((max (L 0) (maxU L i) : Nat) : Int) (L i : Int) = ((max (L 0) (maxU L (i + 1)) : Nat) : Int) := by simp only [maxU]; omega
          clear hcz hgo
          generalize hl1 : min (L 0) (minU L (i + 1)) = l1 at *
          generalize hh1 : max (L 0) (maxU L (i + 1)) = h1 at *
          have HL1 : Hid (min (L 0) (minU L (i + 1)) = l1) := hl1
          have HH1 : Hid (max (L 0) (maxU L (i + 1)) = h1) := hh1
          clear hl1 hh1
          generalize min (L 0) (minU L i) = l0 at *
          generalize max (L 0) (maxU L i) = h0 at *
          generalize L i = v at *
          go_wp2
          exact ⟨⟨i + 1, by omega, by go_num, by rw [HL1.out], by rw [HH1.out]⟩, by simp [intOf]; omega⟩
        · obtain rfl : i = m := by omega
          have e1 : min (L 0) (minU L i) = minU L i := by have := minU_le L i 0 (by omega); omega
          have e2 : max (L 0) (maxU L i) = maxU L i := by have := le_maxU L i 0 (by omega); omega
          rw [e1, e2]
          clear hcz e1 e2
          generalize minU L i = l0 at *
          generalize maxU L i = h0 at *
          go_wp2
          refine bodyPost_ret (v := .tuple #[.int .u64 (l0 : Int), .int .u64 (h0 : Int), .int .i64 0]) (by simp [results, Try.results14, go_sem]) rfl ⟨rfl, HB1.out⟩
    · rw [if_neg hm1, if_neg hm1]
      obtain rfl : m = 0 := by omega
      go_enter Try.func14, Try.ntmps14
      go_wp2_with (go_at_call 34; refine (HF.out _ (Below.refl _ _)).mono ?_; rintro e wz ⟨rfl, hwz⟩; subst wz)
      refine bodyPost_ret (v := .tuple #[.int .u64 0, .int .u64 0, .int .i64 0]) (by simp [results, Try.results14, go_sem]) rfl ⟨rfl, Below.refl _ _⟩
  · have hne : (pfE nb B width n != 0) = true := by simpa using hf
    rw [if_neg (by simp [hf]), if_neg (by simp [hf])]
    clear hA hf
    generalize pfE nb B width n = E at *
    go_enter Try.func14, Try.ntmps14
    go_wp2_with (go_at_call 34; refine (HF.out _ (Below.refl _ _)).mono ?_; rintro e wz ⟨rfl, hwz⟩; subst wz)
    refine bodyPost_ret (v := .tuple #[.int .u64 0, .int .u64 0, .int .i64 E]) (by simp [results, Try.results14, go_sem]) rfl ⟨rfl, Below.refl _ _⟩
end Go.Proofs.Ytoephmcmmbhnaab.Ln
