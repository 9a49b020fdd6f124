/-
  PackJoins.
-/
import Derived.Test.YtijoamhfmophmabBackMath
namespace Go.Proofs.Ytijoamhfmophmab
open Go.RowKit

theorem strN_cat (n m : Nat) (L M : Nat → Nat) : strN n L ++ strN m M = strN (n + m) (cat n L M) := by
  have e : ((List.range (n + m)).map fun j => (cat n L M j : Int)) = ((List.range n).map fun j => (L j : Int)) ++ ((List.range m).map fun j => (M j : Int)) := by
    apply List.ext_getElem?
    intro j
    by_cases h : j < n
    · rw [List.getElem?_append_left (by simpa using h)]
      simp [h, show j < n + m by omega, cat_in h]
    · rw [List.getElem?_append_right (by simp; omega)]
      by_cases h2 : j < n + m
      · obtain ⟨d, rfl⟩ : ∃ d, j = n + d := ⟨j - n, by omega⟩
        simp [h2, cat_at, show d < m by omega]
      · rw [List.getElem?_eq_none (by simp; omega), List.getElem?_eq_none (by simp; omega)]
  unfold strN
  rw [e]
  apply ByteArray.ext
  rw [ByteArray.data_append]
  simp [strOfNums]
theorem join_bits {q m k : Nat} {L M : Nat → Nat} (hk : 0 < k) (i : Nat) : laneB (q + m) k (cat q L M) i = if i < q * k then laneB q k L i else laneB m k M (i - q * k) := by
  have hm : (q + m) * k = q * k + m * k := Nat.add_mul q m k
  by_cases h : i < q * k
  · rw [if_pos h]
    unfold laneB
    rw [cat_in (Nat.div_lt_of_lt_mul (by rw [Nat.mul_comm]; exact h))]
    simp [h, show i < (q + m) * k by omega]
  · rw [if_neg h]
    obtain ⟨d, rfl⟩ : ∃ d, i = q * k + d := ⟨i - q * k, by omega⟩
    unfold laneB
    rw [show q * k + d - q * k = d by omega, Nat.mul_comm q k, Nat.mul_add_div hk, cat_at, Nat.mul_add_mod]
    by_cases h2 : d < m * k
    · simp [h2, show k * q + d < (q + m) * k by rw [hm, Nat.mul_comm k q]; omega]
    · simp [h2, show ¬ k * q + d < (q + m) * k by rw [hm, Nat.mul_comm k q]; omega]
theorem join_bytes {q m k : Nat} {L M : Nat → Nat} (h8 : q % 8 = 0) : ((q + m) * k + 7) / 8 = (q * k + 7) / 8 + (m * k + 7) / 8 ∧ strN ((q * k + 7) / 8) (byt (laneB q k L)) ++ strN ((m * k + 7) / 8) (byt (laneB m k M)) = strN (((q + m) * k + 7) / 8) (byt (laneB (q + m) k (cat q L M))) := by
  obtain ⟨r, rfl⟩ : ∃ r, q = 8 * r := ⟨q / 8, by omega⟩
  have hm : (8 * r + m) * k = 8 * (r * k) + m * k := by rw [Nat.add_mul, Nat.mul_assoc]
  have hq : 8 * r * k = 8 * (r * k) := Nat.mul_assoc 8 r k
  have e1 : (8 * r * k + 7) / 8 = r * k := by rw [hq]; omega
  have e2 : ((8 * r + m) * k + 7) / 8 = r * k + (m * k + 7) / 8 := by rw [hm]; omega
  refine ⟨by rw [e1, e2], ?_⟩
  rw [strN_cat, e1, e2]
  refine strN_ext fun j hj => ?_
  rcases Nat.eq_zero_or_pos k with rfl | hk
  · simp at hj
  by_cases h : j < r * k
  · rw [cat_in h]
    unfold byt
    refine wordOf_congr 8 fun t ht => ?_
    rw [join_bits hk, if_pos (by rw [hq]; omega)]
  · obtain ⟨d, rfl⟩ : ∃ d, j = r * k + d := ⟨j - r * k, by omega⟩
    rw [cat_at]
    unfold byt
    refine wordOf_congr 8 fun t ht => ?_
    rw [join_bits hk, if_neg (by rw [hq]; omega), show 8 * (r * k + d) + t - 8 * r * k = 8 * d + t by rw [hq]; omega]

set_option maxHeartbeats 400000 in
set_option maxRecDepth 20000 in
theorem walk_packJoins (w : World) (a0 : Option Addr) (n0 c0 : Nat) (L0 : Nat → Nat) (a1 : Option Addr) (n1 c1 : Nat) (L1 : Nat → Nat) (width : Int) (hA : NumArg w .u64 a0 n0 c0 L0 18446744073709551616 (140737488351232 / 8)) (hB : NumArg w .u64 a1 n1 c1 L1 18446744073709551616 (140737488351232 / 8)) (hw1 : -9223372036854775808 ≤ width ∧ width ≤ 9223372036854775807) :
    Calls Try.prog 4 #[.slice a0 n0 c0, .slice a1 n1 c1, .int .i64 width] w fun e w' => e = .returned (.bool true) ∧ Below w.heap.size w w' := by
  obtain ⟨hN, hL, _, hnc, hcr, ha⟩ := hA
  obtain ⟨hN', hL', _, hnc', hcr', ha'⟩ := hB
  have HF : Hid (∀ wx, Below w.heap.size w wx → Calls Try.prog 11 #[.slice a0 n0 c0, .int .i64 width] wx fun e w' => ∃ v, e = .returned (.tuple #[v, .int .i64 (fitK width : Int)]) ∧ Own w' wx.heap.size 28 .u64 v (min n0 1048576) (fun j => L0 j % 2 ^ fitK width) ∧ Below wx.heap.size wx w') := fun wx hb => fit_loop a0 n0 c0 L0 width wx hw1 (by omega) hL (hN.later hb)
  have HF' : Hid (∀ wx, Below w.heap.size w wx → Calls Try.prog 11 #[.slice a1 n1 c1, .int .i64 width] wx fun e w' => ∃ v, e = .returned (.tuple #[v, .int .i64 (fitK width : Int)]) ∧ Own w' wx.heap.size 28 .u64 v (min n1 1048576) (fun j => L1 j % 2 ^ fitK width) ∧ Below wx.heap.size wx w') := fun wx hb => fit_loop a1 n1 c1 L1 width wx hw1 (by omega) hL' (hN'.later hb)
  have hk := fitK_le width
  have HL : Hid (∀ j, L0 j < 18446744073709551616) := hL
  have HL' : Hid (∀ j, L1 j < 18446744073709551616) := hL'
  obtain ⟨m, hm⟩ : ∃ m, min n0 1048576 = m := ⟨_, rfl⟩
  obtain ⟨m', hm'⟩ : ∃ m', min n1 1048576 = m' := ⟨_, rfl⟩
  have hm2 : m ≤ 1048576 := by omega
  have hm2' : m' ≤ 1048576 := by omega
  rw [hm] at HF
  rw [hm'] at HF'
  clear hm hN hL hnc hcr ha hw1 hm' hN' hL' hnc' hcr' ha'
  generalize fitK width = k at *
  obtain ⟨G, hG⟩ : ∃ G, (fun j => L0 j % 2 ^ k) = G := ⟨_, rfl⟩
  obtain ⟨G', hG'⟩ : ∃ G', (fun j => L1 j % 2 ^ k) = G' := ⟨_, rfl⟩
  have HG1 : Hid (∀ j, G j < 2 ^ k) := fun j => by subst hG; exact Nat.mod_lt _ (Nat.two_pow_pos k)
  have HG2 : Hid (∀ j, G j < 18446744073709551616) := fun j => by subst hG; exact Nat.lt_of_le_of_lt (Nat.mod_le _ _) (HL.out j)
  have HG1' : Hid (∀ j, G' j < 2 ^ k) := fun j => by subst hG'; exact Nat.mod_lt _ (Nat.two_pow_pos k)
  have HG2' : Hid (∀ j, G' j < 18446744073709551616) := fun j => by subst hG'; exact Nat.lt_of_le_of_lt (Nat.mod_le _ _) (HL'.out j)
  rw [hG] at HF
  rw [hG'] at HF'
  clear hG HL hG' HL'
  obtain ⟨q, hq⟩ : ∃ q, m - m % 8 = q := ⟨_, rfl⟩
  have hqm : q ≤ m := by omega
  have hqi : (m : Int) - (m : Int) % 8 = (q : Int) := by omega
  have HQ : Hid (q % 8 = 0) := by show _ = _; omega
  clear hq
  go_enter Try.func4, Try.ntmps4
  go_wp2_with fail
  refine (awake_yes _).mono ?_
  rintro e w1 ⟨rfl, hB1⟩
  go_wp2_with fail
  refine Calls.mono (HF.out _ hB1) ?_
  rintro e w2 ⟨v, rfl, hO, hB2⟩
  obtain ⟨b0, d0, rfl, hd0, hd0m, hbn⟩ := hO.form
  simp only [maxLen] at hd0m
  have hbel2 : Below w.heap.size w w2 := hB1.trans (hB2.mono hB1.size)
  have HN2 : Hid (Nums w2 .u64 b0 m G) := hO.nums
  have HBN : Hid (b0 = none → m = 0 ∧ d0 = 0) := hbn
  clear hO HF hB1 hB2 hbn
  go_wp2_with fail
  refine Calls.mono (HF'.out _ hbel2) ?_
  rintro e w3 ⟨v, rfl, hO, hB3⟩
  obtain ⟨b1, d1, rfl, hd1, hd1m, hbn'⟩ := hO.form
  simp only [maxLen] at hd1m
  have hbel3 : Below w.heap.size w w3 := hbel2.trans (hB3.mono hbel2.size)
  have HN3 : Hid (Nums w3 .u64 b0 q G) := fun j hj => (HN2.out.later hB3) j (by omega)
  have HN3' : Hid (Nums w3 .u64 b1 m' G') := hO.nums
  have HBN' : Hid (b1 = none → m' = 0 ∧ d1 = 0) := hbn'
  clear hO HF' hB3 HN2 hbel2 hbn'
  go_wp2_with fail
  refine (packU64_ok b0 q d0 k G _ (by omega) hk HG2.out HN3.out (fun i _ => HG1.out i)).mono ?_
  rintro e w4 ⟨rfl, hb4, hB4⟩
  have hbel4 : Below w.heap.size w w4 := hbel3.trans (hB4.mono hbel3.size)
  have HN4 : Hid (Nums w4 .u64 b0 q G) := HN3.out.later hB4
  have HN4' : Hid (Nums w4 .u64 b1 m' G') := HN3'.out.later hB4
  have HB4 : Hid (Blk w4 w3.heap.size 5 .u8 ((q * k + 7) / 8) ((q * k + 7) / 8) (byt (laneB q k G))) := hb4
  have hqk := mul_small (n := q) (k := k) (by omega) hk
  have hmk := mul_small (n := m') (k := k) (by omega) hk
  have hqmk := mul_small (n := q + m') (k := k) (by omega) hk
  obtain ⟨_, HJ0⟩ := join_bytes (q := q) (m := m') (k := k) (L := G) (M := G') HQ.out
  rename_i hJ
  clear hJ hb4 hB4 HN3 HN3' hbel3
  generalize w3.heap.size = g4 at *
  go_wp2_with fail
  refine (packU64_ok b1 m' d1 k G' _ (by omega) hk HG2'.out HN4'.out (fun i _ => HG1'.out i)).mono ?_
  rintro e w5 ⟨rfl, hb5, hB5⟩
  have hbel5 : Below w.heap.size w w5 := hbel4.trans (hB5.mono hbel4.size)
  have hN5 : Nums w5 .u64 b0 q G := HN4.out.later hB5
  have hN5' : Nums w5 .u64 b1 m' G' := HN4'.out.later hB5
  have hb45 : Blk w5 g4 5 .u8 ((q * k + 7) / 8) ((q * k + 7) / 8) (byt (laneB q k G)) := HB4.out.later hB5 HB4.out.lt
  obtain ⟨v6, w6, hr6, ho6, hg6, _⟩ := run_many (w := w5.alloc (.cells #[] 28)) (B := w5.heap.size) (t := 24) (ty := 24) (c := d0) Try.underlying24 infoU64 (Own.empty w5 28 .u64 (Nat.le_refl _) (fun _ => 0)) (hN5.later ((Below.refl _ w5).alloc (Nat.le_refl _) _)) (fun h => ⟨by have := (HBN.out h).1; omega, (HBN.out h).2⟩) (by omega) (by omega) (by simp)
  have hB6 : Below w5.heap.size w5 w6 := ((Below.refl _ w5).alloc (Nat.le_refl _) _).grown hg6 (by simp) (fun j hj => by simp [Value.ownBlock] at hj; omega)
  simp only [Nat.zero_add] at ho6
  have ho6' : Own w6 w5.heap.size 28 .u64 v6 q G := ho6.ext fun j hj => by simp [cat]
  obtain ⟨v7, w7, hr7, ho7, hg7, _⟩ := run_many (t := 24) (ty := 24) (c := d1) Try.underlying24 infoU64 ho6' (hN5'.later hB6) HBN'.out (by omega) (by omega) hB6.size
  have hB7 : Below w5.heap.size w5 w7 := hB6.grown hg7 hB6.size (fun j hj => (ho6'.lt j hj).1)
  have hbel7 : Below w.heap.size w w7 := hbel5.trans (hB7.mono hbel5.size)
  obtain ⟨b7, d7, rfl, hd7, hd7m, _⟩ := ho7.form
  simp only [maxLen] at hd7m
  have HN7 : Hid (Nums w7 .u64 b7 (q + m') (cat q G G')) := ho7.nums
  have HR6 : Hid ((Builtin.append_ #[24, 24] 24 #[.slice (some ⟨w5.heap.size, 0, none⟩) 0 0, .slice b0 q d0]).run Try.prog (w5.alloc (.cells #[] 28)) = .ok v6 w6) := hr6
  have HR7 : Hid ((Builtin.append_ #[24, 24] 24 #[v6, .slice b1 m' d1]).run Try.prog w6 = .ok (.slice b7 (q + m') d7) w7) := hr7
  have HB7 : Hid (Blk w7 g4 5 .u8 ((q * k + 7) / 8) ((q * k + 7) / 8) (byt (laneB q k G))) := hb45.later hB7 hb45.lt
  have HB7' : Hid (Blk w7 w4.heap.size 5 .u8 ((m' * k + 7) / 8) ((m' * k + 7) / 8) (byt (laneB m' k G'))) := hb5.later hB7 hb5.lt
  clear hr6 hr7 ho6 ho6' ho7 hg6 hg7 hB6 hB7 hb45 hb5 hB5 hN5 hN5' HN4 HN4' HB4 hbel4 hbel5
  generalize w4.heap.size = g5 at *
  have HGC : Hid (∀ j, cat q G G' j < 18446744073709551616) := fun j => by unfold cat; split; exact HG2.out _; exact HG2'.out _
  have HGD : Hid (∀ j, cat q G G' j < 2 ^ k) := fun j => by unfold cat; split; exact HG1.out _; exact HG1'.out _
  go_wp2_with (at_builtin; first | refine wpList_app (by rfl) (by rfl) HR6.out ?_ | refine wpList_app (by rfl) (by rfl) HR7.out ?_)
  refine (packU64_ok b7 (q + m') d7 k (cat q G G') _ (by omega) hk HGC.out HN7.out (fun i _ => HGD.out i)).mono ?_
  rintro e w8 ⟨rfl, hb8, hB8⟩
  have hbel8 : Below w.heap.size w w8 := hbel7.trans (hB8.mono hbel7.size)
  have hs1 := run_str ((q * k + 7) / 8) ((HB7.out.later hB8 HB7.out.lt).nums (Nat.le_refl _))
  have hs2 := run_str ((m' * k + 7) / 8) ((HB7'.out.later hB8 HB7'.out.lt).nums (Nat.le_refl _))
  have hs3 := run_str (((q + m') * k + 7) / 8) (hb8.nums (Nat.le_refl _))
  have hz1 := strN_size ((q * k + 7) / 8) (byt (laneB q k G))
  have hz2 := strN_size ((m' * k + 7) / 8) (byt (laneB m' k G'))
  have hM1 : (q * k + 7) / 8 ≤ 134217728 := by omega
  have hM2 : (m' * k + 7) / 8 ≤ 134217728 := by omega
  have hM3 : ((q + m') * k + 7) / 8 ≤ 134217728 := by omega
  clear hb8 hB8 HB7 HB7' HN7 hqk hmk hqmk
  generalize strN ((q * k + 7) / 8) (byt (laneB q k G)) = S1 at *
  generalize strN ((m' * k + 7) / 8) (byt (laneB m' k G')) = S2 at *
  generalize strN (((q + m') * k + 7) / 8) (byt (laneB (q + m') k (cat q G G'))) = S3 at *
  generalize ((q + m') * k + 7) / 8 = M3 at *
  generalize (m' * k + 7) / 8 = M2 at *
  generalize (q * k + 7) / 8 = M1 at *
  generalize w7.heap.size = g8 at *
  go_wp2_with (go_at_call 9; refine (num_any _ _).mono ?_; rintro e w' ⟨rfl, rfl⟩)
  go_ret
  exact ⟨rfl, hbel8⟩
end Go.Proofs.Ytijoamhfmophmab
