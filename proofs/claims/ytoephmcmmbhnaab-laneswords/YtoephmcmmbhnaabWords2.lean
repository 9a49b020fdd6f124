/-
  THE WALK OF LanesWords.
-/
import Derived.Test.YtoephmcmmbhnaabWordsWalk
namespace Go.Proofs.Ytoephmcmmbhnaab
open Go.RowKit Ln

theorem bit_one (M r : Nat) (hM : M < 18446744073709551616) : ∃ z : Int, bits BinOp.and IntKind.u64 ((M : Int) / 2 ^ r) 1 = z ∧ (z == 1) = M.testBit r := by
  refine ⟨((M / 2 ^ r % 2 : Nat) : Int), ?_, ?_⟩
  · have := low_and (p := r) (k := 1) hM (by omega)
    simpa using this
  · rw [Nat.testBit_eq_decide_div_mod_eq]
    by_cases h : M / 2 ^ r % 2 = 1
    · simp [h]
    · have : M / 2 ^ r % 2 = 0 := by omega
      simp [this]

set_option maxHeartbeats 2000000 in
set_option maxRecDepth 20000 in
theorem walk_lanesWords (w : World) (x0 x1 x2 n : Int) (h0 : 0 ≤ x0 ∧ x0 < ((18446744073709551616 : Nat) : Int)) (h1 : 0 ≤ x1 ∧ x1 < ((18446744073709551616 : Nat) : Int)) (h2 : 0 ≤ x2 ∧ x2 < ((18446744073709551616 : Nat) : Int)) (_h3 : -9223372036854775808 ≤ n ∧ n ≤ 9223372036854775807) :
    Calls Try.prog 5 #[.agg #[.int .u64 x0, .int .u64 x1, .int .u64 x2, .int .i64 n]] w fun e w' => e = .returned (.bool true) ∧ Below w.heap.size w w' := by
  obtain ⟨x, rfl⟩ : ∃ v : Nat, x0 = (v : Int) := ⟨x0.toNat, by omega⟩
  obtain ⟨y, rfl⟩ : ∃ v : Nat, x1 = (v : Int) := ⟨x1.toNat, by omega⟩
  obtain ⟨b, rfl⟩ : ∃ v : Nat, x2 = (v : Int) := ⟨x2.toNat, by omega⟩
  have hx : x < 18446744073709551616 := by omega
  have hy : y < 18446744073709551616 := by omega
  have hb : b < 18446744073709551616 := by omega
  clear h0 h1 h2
  have HK : Hid (∀ W, Calls Try.prog 9 #[] W fun e w' => e = .returned (.bool true) ∧ Below W.heap.size W w') := fun W => known_yes W
  have HE : Hid (∀ W, Calls Try.prog 20 #[.int .u64 (x : Int), .int .u64 (y : Int), .int .i64 n] W fun e w' => e = .returned (.tuple #[.int .u64 (heldV x y n 1 : Int), .int .i64 (lnE n)]) ∧ Grew W w') := fun W => Equal_any x y n W hx hy
  have HB : Hid (∀ W, Calls Try.prog 21 #[.int .u64 (x : Int), .int .u64 (y : Int), .int .i64 n] W fun e w' => e = .returned (.tuple #[.int .u64 (heldV x y n 3 : Int), .int .i64 (lnE n)]) ∧ Grew W w') := fun W => Below_any x y n W hx hy
  obtain ⟨wb, hwb⟩ : ∃ wb, wb = w.alloc (.cells #[.int .u64 (x : Int), .int .u64 (y : Int), .int .u64 (b : Int), .int .i64 n] 41) := ⟨_, rfl⟩
  have hb0 : Below w.heap.size w wb := by rw [hwb]; exact (Grew.alloc w _).below
  have HK2 : Hid (Calls Try.prog 9 #[] (w.alloc (.cells #[.int .u64 (x : Int), .int .u64 (y : Int), .int .u64 (b : Int), .int .i64 n] 41)) fun e w' => e = .returned (.bool true) ∧ Below w.heap.size w w') := by
    rw [← hwb]
    exact (HK.out wb).mono fun e w' ⟨h1, h2⟩ => ⟨h1, below_on hb0 h2⟩
  clear hwb HK
  cases hn : isLane n with
  | false =>
    have hv1 : heldV x y n 1 = 0 := by unfold heldV; rw [hn]; rfl
    have hv3 : heldV x y n 3 = 0 := by unfold heldV; rw [hn]; rfl
    have he : lnE n = 20 := by unfold lnE; rw [hn]; rfl
    rw [hv1, he] at HE
    rw [hv3, he] at HB
    have hbad : n < 1 ∨ (1 ≤ n ∧ 64 < n) := by simp [isLane] at hn; omega
    clear hv1 hv3 he hn
    rcases hbad with hbad | hbad
    all_goals
      go_enter Try.func5, Try.ntmps5
      go_wp2_with (first
        | (go_at_call 9; refine HK2.out.mono ?_; rintro e w1 ⟨rfl, hb1⟩)
        | (go_at_call 20; refine (HE.out _).mono ?_; rintro e w3 ⟨rfl, hg3⟩)
        | (go_at_call 21; refine (HB.out _).mono ?_; rintro e w4 ⟨rfl, hg4⟩))
      go_ret
      exact ⟨rfl, below_on (below_on hb1 hg3.below) hg4.below⟩
  | true =>
    obtain ⟨k, rfl, hk1, hk⟩ := isLane_yes hn
    rw [(held_nat 1 hk1 hk).1, (held_nat (x := x) (y := y) 1 hk1 hk).2] at HE
    rw [(held_nat 3 hk1 hk).1, (held_nat (x := x) (y := y) 3 hk1 hk).2] at HB
    have HM : Hid (∀ (m : Nat) W, m < 18446744073709551616 → Calls Try.prog 22 #[.int .u64 (m : Int), .int .i64 (k : Int)] W fun e w' => e = .returned (.tuple #[.int .u64 (marksW k m (lanesOf k) : Int), .int .i64 0]) ∧ Grew W w') := fun m W hm => by
      have := Marks_any m (k : Int) W hm
      unfold mkV lnE at this
      rwa [if_pos hn, if_pos hn, Int.toNat_natCast] at this
    have hl1 := stands64lt 1 x y hk1
    have hl3 := stands64lt 3 x y hk1
    have hvk := laneW_lt y k 0
    have hv64 : laneW y k 0 < 18446744073709551616 := Nat.lt_of_lt_of_le hvk (Nat.pow_le_pow_right (n := 2) (by omega) hk)
    have HS : Hid (∀ W, Calls Try.prog 24 #[.int .u64 (laneW y k 0 : Int), .int .i64 (k : Int)] W fun e w' => e = .returned (.tuple #[.int .u64 (spreadN (laneW y k 0) k (lanesOf k) : Int), .int .i64 0]) ∧ w' = W) := fun W => by
      have := Spread_any (laneW y k 0) (k : Int) W hv64
      unfold spV spE at this
      rw [if_pos ⟨hn, by simpa using hvk⟩, if_pos hn, if_pos (by simpa using hvk), Int.toNat_natCast] at this
      exact this
    have HLN : Hid (∀ (z t : Nat) W, z < 18446744073709551616 → t < lanesOf k → Calls Try.prog 23 #[.int .u64 (z : Int), .int .i64 (t : Int), .int .i64 (k : Int)] W fun e w' => e = .returned (.int .u64 (laneW z k t : Int)) ∧ w' = W) := fun z t W hz ht => lawLane_any z t k W hz hk (lane_place hk1 ht).1 hk1
    have HL0 : Hid (∀ W, Calls Try.prog 23 #[.int .u64 (y : Int), .int .i64 0, .int .i64 (k : Int)] W fun e w' => e = .returned (.int .u64 (laneW y k 0 : Int)) ∧ w' = W) := fun W => HLN.out y 0 W hy (lanes_pos hk1 hk)
    have HAL : Hid (∀ W, Calls Try.prog 25 #[.int .u64 (x : Int), .int .u64 (y : Int), .int .u64 (b : Int), .int .i64 (k : Int), .int .i64 (lanesOf k : Int)] W fun e w' => e = .returned (.bool true) ∧ Below W.heap.size W w') := fun W => alone_yes x y b k W hx hy hb hk1 hk
    have HSL : Hid (∀ t, t < lanesOf k → laneW (spreadN (laneW y k 0) k (lanesOf k)) k t = laneW y k 0) := fun t ht => spread_lane _ k _ t hvk ht
    have hsp : spreadN (laneW y k 0) k (lanesOf k) < 18446744073709551616 := Nat.lt_of_lt_of_le (spread_lt _ k _ hvk) (kw_le k)
    have hm1 : marksW k (standsW k 1 x y) (lanesOf k) < 18446744073709551616 := Nat.lt_of_lt_of_le (marksW_lt hk1 _) (Nat.pow_le_pow_right (n := 2) (by omega) (lanes_le k))
    have hm3 : marksW k (standsW k 3 x y) (lanesOf k) < 18446744073709551616 := Nat.lt_of_lt_of_le (marksW_lt hk1 _) (Nat.pow_le_pow_right (n := 2) (by omega) (lanes_le k))
    have HB1 : Hid (∀ t, ∃ z : Int, bits BinOp.and IntKind.u64 ((marksW k (standsW k 1 x y) (lanesOf k) : Int) / 2 ^ t) 1 = z ∧ (z == 1) = (decide (t < lanesOf k) && ((laneW x k t : Int) == (laneW y k t : Int)))) := fun t => by
      obtain ⟨z, h1, h2⟩ := bit_one _ t hm1
      refine ⟨z, h1, h2.trans ?_⟩
      unfold standsW
      rw [marksW_mark hk1]
      by_cases he : laneW x k t = laneW y k t
      · simp [standsB, he]
      · have : ¬ (laneW x k t : Int) = (laneW y k t : Int) := by omega
        simp [standsB, he, this]
    have HB3 : Hid (∀ t, ∃ z : Int, bits BinOp.and IntKind.u64 ((marksW k (standsW k 3 x y) (lanesOf k) : Int) / 2 ^ t) 1 = z ∧ (z == 1) = (decide (t < lanesOf k) && decide ((laneW x k t : Int) < (laneW y k t : Int)))) := fun t => by
      obtain ⟨z, h1, h2⟩ := bit_one _ t hm3
      refine ⟨z, h1, h2.trans ?_⟩
      unfold standsW
      rw [marksW_mark hk1]
      simp [standsB]
    have hq : (64 : Int) / (k : Int) = (lanesOf k : Int) := rfl
    have hll := lanes_le k
    have hk0 : ((k : Int) == 0) = false := by simp; omega
    have HM1' : Hid (∀ W, Calls Try.prog 22 #[.int .u64 (standsW k 1 x y : Int), .int .i64 (k : Int)] W fun e w' => e = .returned (.tuple #[.int .u64 (marksW k (standsW k 1 x y) (lanesOf k) : Int), .int .i64 0]) ∧ Grew W w') := fun W => HM.out _ W hl1
    have HM3' : Hid (∀ W, Calls Try.prog 22 #[.int .u64 (standsW k 3 x y : Int), .int .i64 (k : Int)] W fun e w' => e = .returned (.tuple #[.int .u64 (marksW k (standsW k 3 x y) (lanesOf k) : Int), .int .i64 0]) ∧ Grew W w') := fun W => HM.out _ W hl3
    clear HM hn hvk
    generalize marksW k (standsW k 1 x y) (lanesOf k) = m1 at *
    generalize marksW k (standsW k 3 x y) (lanesOf k) = m3 at *
    generalize standsW k 1 x y = s1 at *
    generalize standsW k 3 x y = s3 at *
    generalize spreadN (laneW y k 0) k (lanesOf k) = S at *
    generalize hV : laneW y k 0 = V at *
    generalize lanesOf k = L at *
    clear hV
    go_enter Try.func5, Try.ntmps5
    go_wp2_with (first
      | (go_at_call 9; refine HK2.out.mono ?_; rintro e w1 ⟨rfl, hb1⟩)
      | (go_at_call 20; refine (HE.out _).mono ?_; rintro e w3 ⟨rfl, hg3⟩)
      | (go_at_call 21; refine (HB.out _).mono ?_; rintro e w4 ⟨rfl, hg4⟩; have hb4 := below_on (below_on hb1 hg3.below) hg4.below; clear hb1 hg3 hg4)
      | fail)
    refine (HM1'.out _).mono ?_
    rintro e w5 ⟨rfl, hg5⟩
    go_wp2_with fail
    refine (HM3'.out _).mono ?_
    rintro e w6 ⟨rfl, hg6⟩
    go_wp2_with (first
      | (go_at_call 23; refine (HL0.out _).mono ?_; rintro e wz ⟨rfl, hwz⟩; subst wz)
      | (go_at_call 24; refine (HS.out _).mono ?_; rintro e wz ⟨rfl, hwz⟩; subst wz))
    have hb7 : Hid (Below w.heap.size w w6) := below_on (below_on hb4 hg5.below) hg6.below
    clear hb4 hg5 hg6 HE HB HM1' HM3' HS HL0 HK2 hb0
    simp only [hq]
    clear hq
    go_loop [19] (fun i => ∃ t : Nat, t ≤ 64 ∧ i = .int .i64 t) (fun i => 64 - (intOf i).toNat)
    case atStart => exact ⟨0, Nat.zero_le _, rfl⟩
    case round =>
      obtain ⟨t, ht, rfl⟩ := hrel
      by_cases hlt : t < 64
      · obtain ⟨z1, e1, e2⟩ := HB1.out t
        obtain ⟨z3, e3, e4⟩ := HB3.out t
        by_cases hL : t < L
        · have hsl := HSL.out t hL
          have HC : Hid (∀ (z : Nat) W, z < 18446744073709551616 → Calls Try.prog 23 #[.int .u64 (z : Int), .int .i64 (t : Int), .int .i64 (k : Int)] W fun e w' => e = .returned (.int .u64 (laneW z k t : Int)) ∧ w' = W) := fun z W hz => HLN.out z t W hz hL
          simp only [hL, decide_true, Bool.true_and] at e2 e4
          generalize hc1 : ((laneW x k t : Int) == (laneW y k t : Int)) = c1 at *
          have hz3 : ∃ b3 : Bool, (z3 == 1) = b3 ∧ ((b3 = true ∧ laneW x k t < laneW y k t) ∨ (b3 = false ∧ laneW y k t ≤ laneW x k t)) := by
            refine ⟨_, e4, ?_⟩
            rcases Nat.lt_or_ge (laneW x k t) (laneW y k t) with h3 | h3
            · exact Or.inl ⟨decide_eq_true (by omega), h3⟩
            · exact Or.inr ⟨decide_eq_false (by omega), h3⟩
          clear e4
          obtain ⟨b3, e4, h3⟩ := hz3
          rcases h3 with ⟨rfl, h3⟩ | ⟨rfl, h3⟩
          all_goals cases c1
          all_goals
            go_wp2_with (go_at_call 23; refine (HC.out _ _ (by assumption)).mono ?_; rintro e wz ⟨rfl, hwz⟩; subst wz)
            exact ⟨⟨t + 1, by omega, by go_num⟩, by simp [intOf]; omega⟩
        · simp only [hL, decide_false, Bool.false_and] at e2 e4
          go_wp2
          exact ⟨⟨t + 1, by omega, by go_num⟩, by simp [intOf]; omega⟩
      · obtain rfl : t = 64 := by omega
        go_wp2_with (go_at_call 25; refine (HAL.out _).mono ?_; rintro e w8 ⟨rfl, hb8⟩)
        go_ret
        exact ⟨rfl, below_on hb7.out hb8⟩
end Go.Proofs.Ytoephmcmmbhnaab
