import Derived.Test.YtddacphlpjojbaaGreatKAll
import Derived.Test.YtddacphlpjojbaaGreatUMem
/-
  The document's Pack of chapter 3, of numbers.
-/
namespace Go.Proofs.YtddacphlpjojbaaGreat.Pk
open Go.RowKit

set_option maxHeartbeats 4000000 in
set_option maxRecDepth 20000 in
theorem ref3Pack_run (a0 : Option Addr) (n c k : Nat) (L : Nat → Nat) (w : World) (hn : n ≤ 16777216) (hk : k ≤ 64) (hL : ∀ j, L j < 18446744073709551616) (hN : Nums w .u64 a0 n L) :
    Calls Tryz.prog 23 #[.slice a0 n c, .int .i64 (k : Int)] w fun e w' => ∃ v, e = .returned v ∧ Own w' w.heap.size 5 .u8 v ((n * k + 7) / 8) (byt (laneB n k L)) ∧ Below w.heap.size w w' := by
  have hnk := mul_small hn hk
  obtain ⟨m, hm⟩ : ∃ m, (n * k + 7) / 8 = m := ⟨_, rfl⟩
  have hm2 : m ≤ 134217729 := by omega
  have HM : Hid ((n * k + 7) / 8 = m) := hm
  have HLL : Hid (∀ j, L j < 18446744073709551616) := hL
  have HNN : Hid (Nums w .u64 a0 n L) := hN
  have HNK : Hid (n * k ≤ 1073741824) := hnk
  rw [hm]
  obtain ⟨nk, hnk2⟩ : ∃ nk, n * k = nk := ⟨_, rfl⟩
  have hmul : (n : Int) * (k : Int) = (nk : Int) := by rw [← hnk2]; simp
  have hnkb : nk ≤ 1073741824 := by omega
  have hdv : ((nk : Int) + 7) / 8 = (m : Int) := by omega
  clear hm hnk hL hN hnk2
  go_enter Tryz.func23, Tryz.ntmps23
  go_wp2
  go_loopw [5, 6] (fun v ix wr => ∃ i : Nat, i ≤ m ∧ ix = .int .i64 i ∧ Hid (Own wr w.heap.size 5 .u8 v i (fun _ => 0) ∧ Below w.heap.size w wr)) (fun _ ix _ => m - (intOf ix).toNat)
  case atStart => exact ⟨0, Nat.zero_le _, rfl, Own.nil _ _ _ _ _, Below.refl _ _⟩
  case round =>
    obtain ⟨i, hi, rfl, HI⟩ := hrel
    obtain ⟨hO, hB⟩ := HI.out
    by_cases hlt : i < m
    · obtain ⟨g, c', w2, hr2, hO2, hB2, _⟩ := run_one (t := 22) (ty := 22) Tryz.underlying22 infoU8 hO (by omega) (by omega) hB.size (0 : Int) rfl
      have HR2 := hid hr2
      have HO2 : Hid (Own w2 w.heap.size 5 .u8 (.slice (some ⟨g, 0, none⟩) (i + 1) c') (i + 1) (fun _ => 0) ∧ Below w.heap.size w w2) := ⟨hO2, hB.trans hB2⟩
      have hii : (i : Int) < (m : Int) := by omega
      clear hO hB hO2 hB2 hr2 HI
      go_wp2_with (at_builtin; refine wpList_app (by rfl) (by rfl) HR2.out ?_)
      exact ⟨⟨i + 1, by omega, by go_num, HO2⟩, by simp [intOf]; omega⟩
    · obtain rfl : i = m := by omega
      have hii : ¬ (i : Int) < (i : Int) := by omega
      rcases hO.blk with ⟨rfl, hz⟩ | ⟨g, c', rfl, hBg, hgl, hcm, hBk⟩
      · subst hz
        have HX : Hid (Own wr w.heap.size 5 .u8 (.slice none 0 0) 0 (byt (laneB n k L)) ∧ Below w.heap.size w wr) := ⟨Own.nil _ _ _ _ _, hB⟩
        have hz2 : n * k = 0 := by have := HM.out; omega
        clear hO hB HI
        generalize wr = w5 at *
        go_wp2
        go_loopw [7] (fun ix wx => ∃ i : Nat, i ≤ n ∧ ix = .int .i64 i ∧ wx = w5) (fun ix _ => n - (intOf ix).toNat)
        case atStart => exact ⟨0, Nat.zero_le _, rfl, rfl⟩
        case round =>
          obtain ⟨i, hi1, rfl, hwx⟩ := hrel
          have hw2 := hwx.symm
          clear hwx
          subst hw2
          by_cases hlt : i < n
          · have hk0 : k = 0 := by
              rcases Nat.mul_eq_zero.1 hz2 with h | h
              · omega
              · exact h
            subst hk0
            have hii : (i : Int) < (n : Int) := by omega
            go_wp2
            go_loopw [8] (fun jx wy => jx = .int .i64 0 ∧ wy = w5) (fun _ _ => 0)
            case atStart => exact ⟨rfl, rfl⟩
            case round =>
              obtain ⟨rfl, hwy⟩ := hrel
              have hw3 := hwy.symm
              clear hwy
              subst hw3
              go_wp2
              exact ⟨⟨i + 1, by omega, by go_num, by first | trivial | rfl⟩, by simp [intOf]; omega⟩
          · obtain rfl : i = n := by omega
            go_wp2
            go_ret
            exact ⟨_, rfl, HX.out⟩
      · have HCM := hid hcm
        have HBG := hid hBg
        have hcl := hBk.le
        have hcmm : c' ≤ 9223372036854775807 := by unfold maxLen at hcm; omega
        have HBM : Hid (Blk wr g 5 .u8 c' i (byt (laneB 0 k L))) := hBk.ext fun j _ => (lane_none k L j).symm
        have HBB := hid hB
        clear hO hB HI hBk hBg hcm hgl
        go_wp2
        go_loopw [7] (fun ix wx => ∃ i' : Nat, i' ≤ n ∧ ix = .int .i64 i' ∧ Hid (Blk wx g 5 .u8 c' i (byt (laneB i' k L)) ∧ Below w.heap.size w wx)) (fun ix _ => n - (intOf ix).toNat)
        case atStart => exact ⟨0, Nat.zero_le _, rfl, HBM.out, HBB.out⟩
        case round =>
          clear HBM HBB
          obtain ⟨i', hi1, rfl, HH⟩ := hrel
          by_cases hlt : i' < n
          · have hii : (i' : Int) < (n : Int) := by omega
            obtain ⟨g0, o0, rfl, hg0, hc0⟩ := HNN.out i' hlt
            have hLi := HLL.out i'
            go_wp2
            go_loopw [8] (fun jx ws => ∃ j : Nat, j ≤ k ∧ jx = .int .i64 j ∧ Hid (Blk ws g 5 .u8 c' i (byt (partB i' k j L)) ∧ Below w.heap.size w ws)) (fun jx _ => k - (intOf jx).toNat)
            case atStart => exact ⟨0, Nat.zero_le _, rfl, by rw [partB_zero]; exact HH.out.1, HH.out.2⟩
            case round =>
              clear HH
              obtain ⟨j, hj, rfl, HJ⟩ := hrel
              obtain ⟨hBj, hBelj⟩ := HJ.out
              clear HJ
              by_cases hjk : j < k
              · have hcell : wr.cell? ⟨g0, o0 + i', none⟩ = some (.int .u64 (L i' : Int)) := (hBelj.cell (p := ⟨g0, o0 + i', none⟩) hg0).trans hc0
                have hpn : i' * k + j < n * k := lane_in hlt hjk
                obtain ⟨p, hp⟩ : ∃ p, i' * k + j = p := ⟨_, rfl⟩
                have hp8 : p / 8 < i := by have := HM.out; omega
                have hpb : p ≤ 1073741824 := by have := HNK.out; omega
                have hmul2 : (i' : Int) * (k : Int) + (j : Int) = (p : Int) := by rw [← hp]; simp
                have hmulb : (i' : Int) * (k : Int) ≤ (p : Int) := by rw [← hmul2]; omega
                have hmul0 : 0 ≤ (i' : Int) * (k : Int) := by rw [← Int.natCast_mul]; omega
                obtain ⟨q, r, hpq, hr8⟩ : ∃ q r, p = 8 * q + r ∧ r < 8 := ⟨p / 8, p % 8, by omega, by omega⟩
                have hq : (p : Int) / 8 = (q : Int) := by omega
                have hr : (p : Int) % 8 = (r : Int) := by omega
                have hqw := i64_left (q : Int) (by omega) (by omega)
                have hqm : q < i := by omega
                have hoc := hBj.cell (j := q) hqm
                have hof := hBj.frozen q
                have hbb := byt_lt (partB i' k j L) q
                have hbyte := refBit_byte (L i') j r hLi hr8
                rw [IntKind.wrap_u8, IntKind.wrap_u8] at hbyte
                have hor := u8_or_nat (byt (partB i' k j L) q) (if (L i').testBit j = true then 2 ^ r else 0) hbb (by
                  split
                  · exact Nat.lt_of_lt_of_le (Nat.pow_lt_pow_right (a := 2) (by omega) hr8) (by omega)
                  · omega)
                have hst := hBj.store q (byt (partB i' k j L) q ||| (if (L i').testBit j = true then 2 ^ r else 0))
                have hstep := partB_step i' k j L p (byt (partB i' k j L) q ||| (if (L i').testBit j = true then 2 ^ r else 0)) hp (by rw [show p / 8 = q by omega, show p % 8 = r by omega])
                rw [show p / 8 = q by omega] at hstep
                rw [hstep] at hst
                have HST := hid hst
                have HBJ : Hid (Below w.heap.size w wr) := hBelj
                have hqml : (q : Int) < (i : Int) := by omega
                clear hst hstep hBj hBelj hp hpn hpq hp8
                generalize byt (partB i' k j L) q ||| (if (L i').testBit j = true then 2 ^ r else 0) = z at *
                generalize (if (L i').testBit j = true then 2 ^ r else 0 : Nat) = y at *
                generalize byt (partB i' k j L) q = b0 at *
                generalize L i' = x at *
                clear hc0
                go_wp2
                go_region
                all_goals go_wp2
                all_goals exact ⟨⟨j + 1, by omega, by go_num, HST.out.same rfl, (HBJ.out.setCell (p := ⟨g, q, none⟩) HBG.out _).drew⟩, by simp [intOf]; omega⟩
              · obtain rfl : j = k := by omega
                have HB2 : Hid (Blk wr g 5 .u8 c' i (byt (laneB (i' + 1) j L))) := by show Blk _ _ _ _ _ _ _; rw [← partB_all]; exact hBj
                have HBJ : Hid (Below w.heap.size w wr) := hBelj
                clear hBj hBelj
                go_wp2
                exact ⟨⟨i' + 1, by omega, by go_num, HB2.out, HBJ.out⟩, by simp [intOf]; omega⟩
          · obtain rfl : i' = n := by omega
            have HX := hid (And.intro (HH.out.1.own HBG.out (Nat.le_refl _) HCM.out) HH.out.2)
            clear HH
            go_wp2
            go_ret
            exact ⟨_, rfl, HX.out⟩
end Go.Proofs.YtddacphlpjojbaaGreat.Pk
