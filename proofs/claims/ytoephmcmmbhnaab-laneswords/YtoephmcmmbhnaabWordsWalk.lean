/-
  THE WALK OF LanesWords.
-/
import Derived.Test.YtoephmcmmbhnaabLKnown
namespace Go.Proofs.Ytoephmcmmbhnaab
open Go.RowKit Ln

theorem low_and {x p k : Nat} (hx : x < 18446744073709551616) (hk : k ≤ 64) : bits BinOp.and IntKind.u64 ((x : Int) / 2 ^ p) ((2 ^ k - 1 : Nat) : Int) = ((x / 2 ^ p % 2 ^ k : Nat) : Int) := by
  have := lane_low (p := p) hx hk
  unfold lowN at this
  rwa [if_pos hk] at this
set_option maxHeartbeats 1000000 in
theorem lawLane_any (x i k : Nat) (w : World) (hx : x < 18446744073709551616) (hk : k ≤ 64) (hi : i * k + k ≤ 64) (hk1 : 1 ≤ k) :
    Calls Try.prog 23 #[.int .u64 (x : Int), .int .i64 (i : Int), .int .i64 (k : Int)] w fun e w' => e = .returned (.int .u64 (laneW x k i : Int)) ∧ w' = w := by
  by_cases h : k = 64
  · subst h
    obtain rfl : i = 0 := by omega
    have e : laneW x 64 0 = x := by simp [laneW]; omega
    rw [e]
    clear e
    go_enter Try.func23, Try.ntmps23
    go_wp2
    go_ret
    exact ⟨rfl, rfl⟩
  · have hd : ((k : Int) == 64) = false := by simp; omega
    have hpc : (i : Int) * (k : Int) = ((i * k : Nat) : Int) := by simp
    have hpi : IntKind.i64.wrap ((i * k : Nat) : Int) = ((i * k : Nat) : Int) := i64_left _ (by omega) (by omega)
    have hpw : IntKind.u64.wrap ((i * k : Nat) : Int) = ((i * k : Nat) : Int) := u64_left _ (by omega) (by omega)
    have hkw : IntKind.u64.wrap (k : Int) = (k : Int) := u64_left _ (by omega) (by omega)
    have hmw := mask_wrap k hk
    have hla := low_and (p := i * k) hx hk
    have hik : i ≤ 64 := by
      have := Nat.mul_le_mul_left i hk1
      omega
    have hml : (2 ^ k - 1 : Nat) < 18446744073709551616 := pow_sub_lt k hk
    have hpl : i * k < 64 := by omega
    unfold laneW
    generalize i * k = p at *
    generalize x / 2 ^ p % 2 ^ k = z at *
    generalize 2 ^ k - 1 = M at *
    go_enter Try.func23, Try.ntmps23
    go_wp2
    go_ret
    exact ⟨rfl, rfl⟩

/-- x below the bit p, b from it on. -/
def mixW (x b p : Nat) : Nat := (x &&& (2 ^ p - 1)) ||| (b &&& (18446744073709551615 - (2 ^ p - 1)))
theorem mix_lt {x b p : Nat} (hx : x < 18446744073709551616) (hb : b < 18446744073709551616) : mixW x b p < 18446744073709551616 :=
  Nat.or_lt_two_pow (n := 64) (Nat.lt_of_le_of_lt Nat.and_le_left hx) (Nat.lt_of_le_of_lt Nat.and_le_left hb)
theorem mix_bit {x b p j : Nat} (hp : p ≤ 64) (hj : j < p) : (mixW x b p).testBit j = x.testBit j := by
  unfold mixW
  rw [Nat.testBit_or, Nat.testBit_and, Nat.testBit_and, flip_bit _ _ (pow_sub_lt p hp), Nat.testBit_two_pow_sub_one]
  simp [hj]
theorem mix_lane {x b p k i : Nat} (hp : p ≤ 64) (hi : i * k + k ≤ p) : laneW (mixW x b p) k i = laneW x k i := by
  apply Nat.eq_of_testBit_eq; intro r
  rw [laneW_bit, laneW_bit]
  by_cases hr : r < k
  · rw [mix_bit hp (by omega)]
  · simp [hr]
theorem mix_run {x b p : Nat} (hx : x < 18446744073709551616) (hb : b < 18446744073709551616) (hp : p ≤ 64) :
    bits BinOp.and IntKind.u64 (x : Int) ((2 ^ p - 1 : Nat) : Int) = ((x &&& (2 ^ p - 1) : Nat) : Int) ∧ bits BinOp.andNot IntKind.u64 (b : Int) ((2 ^ p - 1 : Nat) : Int) = ((b &&& (18446744073709551615 - (2 ^ p - 1)) : Nat) : Int) ∧
      bits BinOp.or IntKind.u64 ((x &&& (2 ^ p - 1) : Nat) : Int) ((b &&& (18446744073709551615 - (2 ^ p - 1)) : Nat) : Int) = (mixW x b p : Int) := by
  have hM := pow_sub_lt p hp
  refine ⟨u64_and_nat _ _ hx hM, u64_andNot_nat _ _ hb hM, ?_⟩
  rw [u64_or_nat _ _ (Nat.lt_of_le_of_lt Nat.and_le_left hx) (Nat.lt_of_le_of_lt Nat.and_le_left hb)]; rfl
theorem first_and {f g : Nat → Bool} {k L : Nat} (hk1 : 1 ≤ k) (h : f 0 = g 0) : markN f k L &&& (2 ^ k - 1) = markN g k L &&& (2 ^ k - 1) := by
  apply Nat.eq_of_testBit_eq; intro p
  rw [Nat.testBit_and, Nat.testBit_and, Nat.testBit_two_pow_sub_one]
  by_cases hp : p < k
  · rw [mark_bit _ _ _ _ hk1, mark_bit _ _ _ _ hk1, Nat.div_eq_of_lt hp, h]
  · simp [hp]
theorem stands_first {k x y b : Nat} {op : Int} (hk1 : 1 ≤ k) (hk : k ≤ 64) : standsW k op (mixW x b k) y &&& (2 ^ k - 1) = standsW k op x y &&& (2 ^ k - 1) := by
  unfold standsW
  exact first_and hk1 (by rw [mix_lane hk (by omega)])
theorem stands_behind {k x y b : Nat} {op : Int} : standsW k op (mixW x b (lanesOf k * k)) y = standsW k op x y := by
  unfold standsW
  refine mark_congr fun i hi => ?_
  have := lanes_fit k
  have h3 := Nat.mul_le_mul_right k (show i + 1 ≤ lanesOf k from hi)
  rw [Nat.succ_mul] at h3
  rw [mix_lane this h3]

theorem held_nat {x y k : Nat} (op : Int) (hk1 : 1 ≤ k) (hk : k ≤ 64) : heldV x y (k : Int) op = standsW k op x y ∧ lnE (k : Int) = 0 := by
  have hl := isLane_nat hk1 hk
  unfold heldV lnE
  rw [if_pos hl, if_pos hl]; exact ⟨rfl, rfl⟩
theorem stands64lt {k : Nat} (op : Int) (x y : Nat) (hk1 : 1 ≤ k) : standsW k op x y < 18446744073709551616 := marks_lt _ hk1

set_option maxHeartbeats 2000000 in
set_option maxRecDepth 20000 in
theorem alone_yes (x y b k : Nat) (w : World) (hx : x < 18446744073709551616) (hy : y < 18446744073709551616) (hb : b < 18446744073709551616) (hk1 : 1 ≤ k) (hk : k ≤ 64) :
    Calls Try.prog 25 #[.int .u64 (x : Int), .int .u64 (y : Int), .int .u64 (b : Int), .int .i64 (k : Int), .int .i64 (lanesOf k : Int)] w fun e w' => e = .returned (.bool true) ∧ Below w.heap.size w w' := by
  by_cases h : k = 64
  · subst h
    generalize lanesOf 64 = L at *
    go_enter Try.func25, Try.ntmps25
    go_wp2
    go_ret
    exact ⟨rfl, Below.refl _ _⟩
  · have hd : ((k : Int) == 64) = false := by simp; omega
    have HE : Hid (∀ (z : Nat) W, z < 18446744073709551616 → Calls Try.prog 20 #[.int .u64 (z : Int), .int .u64 (y : Int), .int .i64 (k : Int)] W fun e w' => e = .returned (.tuple #[.int .u64 (standsW k 1 z y : Int), .int .i64 0]) ∧ Grew W w') := fun z W hz => by
      have := Equal_any z y (k : Int) W hz hy
      rwa [(held_nat 1 hk1 hk).1, (held_nat (x := z) (y := y) 1 hk1 hk).2] at this
    have HB : Hid (∀ (z : Nat) W, z < 18446744073709551616 → Calls Try.prog 21 #[.int .u64 (z : Int), .int .u64 (y : Int), .int .i64 (k : Int)] W fun e w' => e = .returned (.tuple #[.int .u64 (standsW k 3 z y : Int), .int .i64 0]) ∧ Grew W w') := fun z W hz => by
      have := Below_any z y (k : Int) W hz hy
      rwa [(held_nat 3 hk1 hk).1, (held_nat (x := z) (y := y) 3 hk1 hk).2] at this
    have hkw : IntKind.u64.wrap (k : Int) = (k : Int) := u64_left _ (by omega) (by omega)
    have hmw := mask_wrap k hk
    obtain ⟨m1, m2, m3⟩ := mix_run (p := k) hx hb hk
    have hm64 := mix_lt (p := k) hx hb
    have l1 := stands64lt 1 x y hk1
    have l3 := stands64lt 3 x y hk1
    have l1' := stands64lt 1 (mixW x b k) y hk1
    have l3' := stands64lt 3 (mixW x b k) y hk1
    have hM := pow_sub_lt k hk
    have a1 := u64_and_nat _ _ l1 hM
    have a3 := u64_and_nat _ _ l3 hM
    have a1' := u64_and_nat _ _ l1' hM
    have a3' := u64_and_nat _ _ l3' hM
    rw [stands_first (op := 1) hk1 hk] at a1'
    rw [stands_first (op := 3) hk1 hk] at a3'
    have hfit := lanes_fit k
    have hll := lanes_le k
    have hq : (lanesOf k : Int) * (k : Int) = ((lanesOf k * k : Nat) : Int) := by simp
    have hqi : IntKind.i64.wrap ((lanesOf k * k : Nat) : Int) = ((lanesOf k * k : Nat) : Int) := i64_left _ (by omega) (by omega)
    have hqw : IntKind.u64.wrap ((lanesOf k * k : Nat) : Int) = ((lanesOf k * k : Nat) : Int) := u64_left _ (by omega) (by omega)
    have hbw := mask_wrap (lanesOf k * k) hfit
    obtain ⟨b1, b2, b3⟩ := mix_run (p := lanesOf k * k) hx hb hfit
    have hb64 := mix_lt (p := lanesOf k * k) hx hb
    have HS1 : Hid (standsW k 1 (mixW x b (lanesOf k * k)) y = standsW k 1 x y) := stands_behind (op := 1)
    have HS3 : Hid (standsW k 3 (mixW x b (lanesOf k * k)) y = standsW k 3 x y) := stands_behind (op := 3)
    have H1 : Hid (∀ W, Calls Try.prog 20 #[.int .u64 (x : Int), .int .u64 (y : Int), .int .i64 (k : Int)] W fun e w' => e = .returned (.tuple #[.int .u64 (standsW k 1 x y : Int), .int .i64 0]) ∧ Grew W w') := fun W => HE.out x W hx
    have H3 : Hid (∀ W, Calls Try.prog 21 #[.int .u64 (x : Int), .int .u64 (y : Int), .int .i64 (k : Int)] W fun e w' => e = .returned (.tuple #[.int .u64 (standsW k 3 x y : Int), .int .i64 0]) ∧ Grew W w') := fun W => HB.out x W hx
    have M1 : Hid (∀ W, Calls Try.prog 20 #[.int .u64 (mixW x b k : Int), .int .u64 (y : Int), .int .i64 (k : Int)] W fun e w' => e = .returned (.tuple #[.int .u64 (standsW k 1 (mixW x b k) y : Int), .int .i64 0]) ∧ Grew W w') := fun W => HE.out _ W hm64
    have M3 : Hid (∀ W, Calls Try.prog 21 #[.int .u64 (mixW x b k : Int), .int .u64 (y : Int), .int .i64 (k : Int)] W fun e w' => e = .returned (.tuple #[.int .u64 (standsW k 3 (mixW x b k) y : Int), .int .i64 0]) ∧ Grew W w') := fun W => HB.out _ W hm64
    have B1 : Hid (∀ W, Calls Try.prog 20 #[.int .u64 (mixW x b (lanesOf k * k) : Int), .int .u64 (y : Int), .int .i64 (k : Int)] W fun e w' => e = .returned (.tuple #[.int .u64 (standsW k 1 x y : Int), .int .i64 0]) ∧ Grew W w') := fun W => by
      have := HE.out _ W hb64
      rwa [HS1.out] at this
    have B3 : Hid (∀ W, Calls Try.prog 21 #[.int .u64 (mixW x b (lanesOf k * k) : Int), .int .u64 (y : Int), .int .i64 (k : Int)] W fun e w' => e = .returned (.tuple #[.int .u64 (standsW k 3 x y : Int), .int .i64 0]) ∧ Grew W w') := fun W => by
      have := HB.out _ W hb64
      rwa [HS3.out] at this
    have HFULL : Hid (lanesOf k * k = 64 → (2 ^ (lanesOf k * k) - 1 : Nat) = 18446744073709551615) := fun e => by rw [e]
    clear HE HB HS1 HS3
    generalize standsW k 1 x y &&& (2 ^ k - 1) = z1 at *
    generalize standsW k 3 x y &&& (2 ^ k - 1) = z3 at *
    generalize standsW k 1 (mixW x b k) y = s1' at *
    generalize standsW k 3 (mixW x b k) y = s3' at *
    generalize standsW k 1 x y = s1 at *
    generalize standsW k 3 x y = s3 at *
    generalize mixW x b k = mx at *
    generalize mixW x b (lanesOf k * k) = mb at *
    generalize x &&& (2 ^ k - 1) = y1 at *
    generalize b &&& (18446744073709551615 - (2 ^ k - 1)) = y2 at *
    generalize x &&& (2 ^ (lanesOf k * k) - 1) = y3 at *
    generalize b &&& (18446744073709551615 - (2 ^ (lanesOf k * k) - 1)) = y4 at *
    have hMb := pow_sub_lt (lanesOf k * k) hfit
    generalize 2 ^ (lanesOf k * k) - 1 = Mb at *
    generalize 2 ^ k - 1 = M at *
    generalize lanesOf k * k = p at *
    generalize lanesOf k = L at *
    by_cases hp64 : p = 64
    · have := HFULL.out hp64
      subst this
      have hdp : decide ((p : Int) < 64) = false := by simp; omega
      have c1 : bits BinOp.and IntKind.u64 (x : Int) 18446744073709551615 = (y3 : Int) := b1
      have c2 : bits BinOp.andNot IntKind.u64 (b : Int) 18446744073709551615 = (y4 : Int) := b2
      clear hbw b1 b2 hMb
      go_enter Try.func25, Try.ntmps25
      go_wp2_with fail
      refine (H1.out _).mono ?_
      rintro e w1 ⟨rfl, g1⟩
      go_wp2_with fail
      refine (H3.out _).mono ?_
      rintro e w2 ⟨rfl, g2⟩
      go_wp2_with fail
      refine (M1.out _).mono ?_
      rintro e w3 ⟨rfl, g3⟩
      go_wp2_with fail
      refine (M3.out _).mono ?_
      rintro e w4 ⟨rfl, g4⟩
      go_wp2_with fail
      refine (B1.out _).mono ?_
      rintro e w5 ⟨rfl, g5⟩
      go_wp2_with fail
      refine (B3.out _).mono ?_
      rintro e w6 ⟨rfl, g6⟩
      go_wp2
      go_ret
      exact ⟨rfl, (g1.trans (g2.trans (g3.trans (g4.trans (g5.trans g6))))).below⟩
    · have hdp : decide ((p : Int) < 64) = true := by simp; omega
      go_enter Try.func25, Try.ntmps25
      go_wp2_with fail
      refine (H1.out _).mono ?_
      rintro e w1 ⟨rfl, g1⟩
      go_wp2_with fail
      refine (H3.out _).mono ?_
      rintro e w2 ⟨rfl, g2⟩
      go_wp2_with fail
      refine (M1.out _).mono ?_
      rintro e w3 ⟨rfl, g3⟩
      go_wp2_with fail
      refine (M3.out _).mono ?_
      rintro e w4 ⟨rfl, g4⟩
      go_wp2_with fail
      refine (B1.out _).mono ?_
      rintro e w5 ⟨rfl, g5⟩
      go_wp2_with fail
      refine (B3.out _).mono ?_
      rintro e w6 ⟨rfl, g6⟩
      go_wp2
      go_ret
      exact ⟨rfl, (g1.trans (g2.trans (g3.trans (g4.trans (g5.trans g6))))).below⟩
end Go.Proofs.Ytoephmcmmbhnaab
