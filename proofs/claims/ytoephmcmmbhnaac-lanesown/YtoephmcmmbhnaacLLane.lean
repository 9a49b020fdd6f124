/-
  THE CUT's METHODS, on: below, lane, marks.
-/
import Derived.Test.YtoephmcmmbhnaacLCut
namespace Go.Proofs.Ytoephmcmmbhnaac.Ln
open Go.RowKit Go.Sort

theorem flip_walk (x : Nat) (hx : x < 18446744073709551616) : bits BinOp.xor IntKind.u64 (if IntKind.u64.signed = true then -1 else IntKind.u64.max) (x : Int) = ((18446744073709551615 - x : Nat) : Int) := by
  have flip64 : 18446744073709551615 ^^^ x = 18446744073709551615 - x := by
    apply Nat.eq_of_testBit_eq
    intro k
    have h1 : (18446744073709551615 : Nat) = 2 ^ 64 - 1 := by decide
    rw [flip_bit x k hx, Nat.testBit_xor, h1, Nat.testBit_two_pow_sub_one]
    by_cases h : k < 64
    · simp [h]
    · have hb : x.testBit k = false := bit_high (n := 64) hx (by omega)
      simp [h, hb]
  rw [show (if IntKind.u64.signed = true then (-1 : Int) else IntKind.u64.max) = ((18446744073709551615 : Nat) : Int) by decide, u64_xor_nat _ _ (by omega) hx, flip64]

set_option maxHeartbeats 1000000 in
set_option maxRecDepth 20000 in
theorem below_any (k x y : Nat) (w : World) (hk1 : 1 ≤ k) (hx : x < 18446744073709551616) (hy : y < 18446744073709551616) :
    Calls Try.prog 39 #[cutV k, .int .u64 (x : Int), .int .u64 (y : Int)] w fun e w' => e = .returned (.int .u64 (belowW k x y : Int)) ∧ Grew w w' := by
  have hr := restOf_lt k
  have ht := tops_lt hk1
  have hu : x ^^^ y < 18446744073709551616 := Nat.xor_lt_two_pow (n := 64) hx hy
  have hle := left_le (x := x) (y := y) hk1
  have hll := left_lt (y := y) hk1 hx
  have e1 := u64_or_nat x (topsOf k) hx ht
  have e2 := u64_and_nat y (restOf k) hy hr
  have e3 := u64_andNot_nat y x hy hx
  have e4 := u64_xor_nat x y hx hy
  have e5 := flip_walk (x ^^^ y) hu
  have h3 : y &&& (18446744073709551615 - x) < 18446744073709551616 := Nat.lt_of_le_of_lt Nat.and_le_left hy
  have h5 : 18446744073709551615 - (x ^^^ y) < 18446744073709551616 := by omega
  have e6 := u64_andNot_nat (18446744073709551615 - (x ^^^ y)) ((x ||| topsOf k) - (y &&& restOf k)) h5 hll
  have h6 : (18446744073709551615 - (x ^^^ y)) &&& (18446744073709551615 - ((x ||| topsOf k) - (y &&& restOf k))) < 18446744073709551616 := Nat.lt_of_le_of_lt Nat.and_le_left h5
  have e7 := u64_or_nat _ _ h3 h6
  have h7 : (y &&& (18446744073709551615 - x)) ||| ((18446744073709551615 - (x ^^^ y)) &&& (18446744073709551615 - ((x ||| topsOf k) - (y &&& restOf k)))) < 18446744073709551616 := Nat.or_lt_two_pow (n := 64) h3 h6
  have e8 := u64_and_nat (topsOf k) _ ht h7
  unfold cutV belowW
  generalize hg8 : topsOf k &&& ((y &&& (18446744073709551615 - x)) ||| ((18446744073709551615 - (x ^^^ y)) &&& (18446744073709551615 - ((x ||| topsOf k) - (y &&& restOf k))))) = z8 at *
  generalize (y &&& (18446744073709551615 - x)) ||| ((18446744073709551615 - (x ^^^ y)) &&& (18446744073709551615 - ((x ||| topsOf k) - (y &&& restOf k)))) = z7 at *
  generalize (18446744073709551615 - (x ^^^ y)) &&& (18446744073709551615 - ((x ||| topsOf k) - (y &&& restOf k))) = z6 at *
  generalize 18446744073709551615 - (x ^^^ y) = z5 at *
  generalize x ^^^ y = z4 at *
  generalize y &&& (18446744073709551615 - x) = z3 at *
  generalize y &&& restOf k = z2 at *
  generalize x ||| topsOf k = z1 at *
  generalize topsOf k = T at *
  generalize restOf k = R at *
  clear hg8
  have e9 : (z1 : Int) - (z2 : Int) = ((z1 - z2 : Nat) : Int) := by omega
  generalize z1 - z2 = z9 at *
  go_enter Try.func39, Try.ntmps39
  go_wp2
  go_ret
  exact ⟨rfl, Grew.alloc _ _⟩

theorem lane_low {x k p : Nat} (hx : x < 18446744073709551616) (hk : k ≤ 64) : bits BinOp.and IntKind.u64 ((x : Int) / 2 ^ p) (lowN k : Int) = ((x / 2 ^ p % 2 ^ k : Nat) : Int) := by
  have e1 : (x : Int) / 2 ^ p = ((x / 2 ^ p : Nat) : Int) := by rw [pow_cast]; rfl
  rw [e1, u64_and_nat _ _ (Nat.lt_of_le_of_lt (Nat.div_le_self _ _) hx) (lowN_lt k)]
  unfold lowN
  rw [if_pos hk, Nat.and_two_pow_sub_one_eq_mod]
theorem lane_place {k i : Nat} (hk1 : 1 ≤ k) (hi : i < lanesOf k) : i * k + k ≤ 64 ∧ i * k < 64 := by
  have h2 := lanes_fit k
  have h3 := Nat.mul_le_mul_right k (show i + 1 ≤ lanesOf k from hi)
  rw [Nat.succ_mul] at h3
  omega

set_option maxHeartbeats 1000000 in
set_option maxRecDepth 20000 in
theorem lane_any (k x i : Nat) (w : World) (hk1 : 1 ≤ k) (hk : k ≤ 64) (hx : x < 18446744073709551616) (hi : i < lanesOf k) :
    Calls Try.prog 61 #[cutV k, .int .u64 (x : Int), .int .i64 (i : Int)] w fun e w' => e = .returned (.int .u64 (laneW x k i : Int)) ∧ Grew w w' := by
  obtain ⟨_, hp⟩ := lane_place hk1 hi
  have hil := lanes_le k
  have hpc : (i : Int) * (k : Int) = ((i * k : Nat) : Int) := by simp
  have hlow := lane_low (p := i * k) hx hk
  have HL : Hid (∀ wx, Calls Try.prog 37 #[.int .i64 (k : Int)] wx fun e w' => e = .returned (.int .u64 (lowN k : Int)) ∧ w' = wx) := fun wx => lowest_any k wx (by omega)
  have hll := lowN_lt k
  have hpw : IntKind.i64.wrap ((i * k : Nat) : Int) = ((i * k : Nat) : Int) := i64_left _ (by omega) (by omega)
  have hmin : min (i * k) 64 = i * k := by omega
  unfold cutV laneW
  generalize i * k = p at *
  generalize x / 2 ^ p % 2 ^ k = z at *
  generalize lowN k = L at *
  have hpn : (0 : Int) ≤ (p : Int) := by omega
  go_enter Try.func61, Try.ntmps61
  go_wp2
  go_quiet ((go_at_call 37; exact Calls.quiet_of_same (HL.out _)))
  go_wp2
  go_ret
  exact ⟨rfl, (Grew.alloc _ _).trans (Grew.drewN _ _)⟩

theorem marks_step {k m i : Nat} (hk1 : 1 ≤ k) (hi : i < lanesOf k) :
    bits BinOp.or IntKind.u64 (marksW k m i : Int) (IntKind.u64.wrap ((laneW m k i : Int) / 2 ^ (k - 1) * 2 ^ i)) = (marksW k m (i + 1) : Int) := by
  have h1 : marksW k m (i + 1) < 18446744073709551616 := Nat.lt_of_lt_of_le (marksW_lt hk1 _) (Nat.pow_le_pow_right (n := 2) (by omega) (show i + 1 ≤ 64 from Nat.le_trans hi (lanes_le k)))
  have h0 : marksW k m i < 18446744073709551616 := Nat.lt_of_lt_of_le (marksW_lt hk1 _) (Nat.pow_le_pow_right (n := 2) (by omega) (show i ≤ 64 from Nat.le_trans (Nat.le_of_lt hi) (lanes_le k)))
  have h2 : marksW k m (i + 1) = marksW k m i ||| (laneW m k i / 2 ^ (k - 1)) * 2 ^ i := rfl
  have h3 : (laneW m k i / 2 ^ (k - 1)) * 2 ^ i < 18446744073709551616 := Nat.lt_of_le_of_lt (by rw [h2]; exact Nat.right_le_or) h1
  have e : IntKind.u64.wrap ((laneW m k i : Int) / 2 ^ (k - 1) * 2 ^ i) = (((laneW m k i / 2 ^ (k - 1)) * 2 ^ i : Nat) : Int) := by
    have e1 : (laneW m k i : Int) / 2 ^ (k - 1) * 2 ^ i = (((laneW m k i / 2 ^ (k - 1)) * 2 ^ i : Nat) : Int) := by rw [pow_cast, pow_cast]; simp
    rw [e1, u64_left _ (Int.natCast_nonneg _) (by omega)]
  rw [e, u64_or_nat _ _ h0 h3, h2]

set_option maxHeartbeats 2000000 in
set_option maxRecDepth 20000 in
theorem marks_any (k m : Nat) (w : World) (hk1 : 1 ≤ k) (hk : k ≤ 64) (hm : m < 18446744073709551616) :
    Calls Try.prog 50 #[cutV k, .int .u64 (m : Int)] w fun e w' => e = .returned (.int .u64 (marksW k m (lanesOf k) : Int)) ∧ Grew w w' := by
  have hll := lanes_le k
  have HS : Hid (∀ i, i < lanesOf k → bits BinOp.or IntKind.u64 (marksW k m i : Int) (IntKind.u64.wrap ((laneW m k i : Int) / 2 ^ (k - 1) * 2 ^ i)) = (marksW k m (i + 1) : Int)) := fun i hi => marks_step hk1 hi
  have HL : Hid (∀ i wx, i < lanesOf k → Calls Try.prog 61 #[.agg #[.int .i64 (k : Int), .int .i64 (lanesOf k : Int), .int .u64 (topsOf k : Int), .int .u64 (restOf k : Int)], .int .u64 (m : Int), .int .i64 (i : Int)] wx fun e w' => e = .returned (.int .u64 (laneW m k i : Int)) ∧ Grew wx w') := fun i wx hi => lane_any k m i wx hk1 hk hm hi
  have HF0 : Hid (marksW k m 0 = 0) := rfl
  have hk1c : ((k - 1 : Nat) : Int) = (k : Int) - 1 := by omega
  have hk1w : IntKind.i64.wrap ((k : Int) - 1) = (k : Int) - 1 := i64_left _ (by omega) (by omega)
  have HLL : Hid (∀ i, laneW m k i < 18446744073709551616) := fun i => Nat.lt_of_lt_of_le (laneW_lt m k i) (Nat.pow_le_pow_right (n := 2) (by omega) (show k ≤ 64 from hk))
  unfold cutV
  generalize hF : marksW k m = F at *
  generalize hG : laneW m k = G at *
  clear hF hG
  generalize topsOf k = T at *
  generalize restOf k = R at *
  generalize lanesOf k = n at *
  go_enter Try.func50, Try.ntmps50
  go_wp2
  go_loopw [5, 9] (fun x i wr => ∃ t : Nat, t ≤ n ∧ i = .int .i64 t ∧ x = .int .u64 (F t : Int) ∧ Grew (w.alloc (.cells #[.int .i64 (k : Int), .int .i64 (n : Int), .int .u64 (T : Int), .int .u64 (R : Int)] 63)) wr) (fun _ i _ => n - (intOf i).toNat)
  case atStart => exact ⟨0, Nat.zero_le _, rfl, by rw [HF0.out]; rfl, Grew.refl _⟩
  case round =>
    obtain ⟨t, ht, rfl, rfl, hg⟩ := hrel
    by_cases hlt : t < n
    · have hs := HS.out t hlt
      have hGl := HLL.out t
      have hbl : w.heap.size < wr.heap.size := by have := hg.below.size; simp at this; omega
      have q0 : wr.cell? ⟨w.heap.size, 0, none⟩ = some (.int .i64 (k : Int)) := (hg.below.cell (p := ⟨w.heap.size, 0, none⟩) (by simp)).trans (by simp [go_sem])
      have q1 : wr.cell? ⟨w.heap.size, 1, none⟩ = some (.int .i64 (n : Int)) := (hg.below.cell (p := ⟨w.heap.size, 1, none⟩) (by simp)).trans (by simp [go_sem])
      have q2 : wr.cell? ⟨w.heap.size, 2, none⟩ = some (.int .u64 (T : Int)) := (hg.below.cell (p := ⟨w.heap.size, 2, none⟩) (by simp)).trans (by simp [go_sem])
      have q3 : wr.cell? ⟨w.heap.size, 3, none⟩ = some (.int .u64 (R : Int)) := (hg.below.cell (p := ⟨w.heap.size, 3, none⟩) (by simp)).trans (by simp [go_sem])
      have c0 := cell_grown (a := ⟨w.heap.size, 0, none⟩) hbl q0
      have c1 := cell_grown (a := ⟨w.heap.size, 1, none⟩) hbl q1
      have c2 := cell_grown (a := ⟨w.heap.size, 2, none⟩) hbl q2
      have c3 := cell_grown (a := ⟨w.heap.size, 3, none⟩) hbl q3
      have HG : Hid (Grew (w.alloc (.cells #[.int .i64 (k : Int), .int .i64 (n : Int), .int .u64 (T : Int), .int .u64 (R : Int)] 63)) wr) := hg
      clear hg
      go_wp2
      have hmix : Try.prog.follows .mixedOrders = true := by kernel_rfl
      go_quiet_grown (first | (go_at_call 61; exact Calls.grewq (HL.out t _ hlt)))
      go_wp2
      exact ⟨⟨t + 1, by omega, by go_num, rfl, HG.out.trans ⟨_, _, rfl⟩⟩, by simp [intOf]; omega⟩
    · obtain rfl : t = n := by omega
      go_wp2
      go_ret
      exact ⟨rfl, (Grew.alloc _ _).trans hg⟩
end Go.Proofs.Ytoephmcmmbhnaac.Ln
