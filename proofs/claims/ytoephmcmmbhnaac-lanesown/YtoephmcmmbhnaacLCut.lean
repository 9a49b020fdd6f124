/-
  THE CUT's METHODS: cutOf, equal, below, lane, marks.
-/
import Derived.Test.YtoephmcmmbhnaacLWord
import Derived.Deep.RegionHeld3
namespace Go.Proofs.Ytoephmcmmbhnaac.Ln
open Go.RowKit Go.Sort

theorem top_half {k : Nat} (h1 : 1 ≤ k) (h : k ≤ 64) : IntKind.u64.wrap ((2 : Int) ^ (k - 1)) = ((2 ^ (k - 1) : Nat) : Int) := by
  have h2 : 2 ^ (k - 1) ≤ 9223372036854775808 := Nat.pow_le_pow_right (n := 2) (by omega) (show k - 1 ≤ 63 by omega)
  rw [pow_cast, u64_left _ (Int.natCast_nonneg _) (by omega)]

set_option maxHeartbeats 400000 in
set_option maxRecDepth 20000 in
theorem cutOf_any (k : Nat) (w : World) (hk1 : 1 ≤ k) (hk : k ≤ 64) :
    Calls Try.prog 27 #[.int .i64 (k : Int)] w fun e w' => e = .returned (cutV k) ∧ Grew w w' := by
  have hq : (64 : Int) / (k : Int) = (lanesOf k : Int) := rfl
  have hl := lanes_le k
  have hkn : ¬ (k = 0) := by omega
  have hqw : IntKind.i64.wrap (lanesOf k : Int) = (lanesOf k : Int) := i64_left _ (by omega) (by omega)
  have hqt : Int.tdiv 64 (k : Int) = (lanesOf k : Int) := by rw [Int.tdiv_eq_ediv_of_nonneg (by omega)]; rfl
  obtain ⟨p, hp⟩ : ∃ p : Nat, 2 ^ (k - 1) = p := ⟨_, rfl⟩
  have hpw : IntKind.u64.wrap ((2 : Int) ^ (k - 1)) = (p : Int) := by rw [← hp]; exact top_half hk1 hk
  have hpl : p ≤ 9223372036854775808 := by rw [← hp]; exact Nat.pow_le_pow_right (n := 2) (by omega) (show k - 1 ≤ 63 by omega)
  have hp1 : 1 ≤ p := by rw [← hp]; exact Nat.two_pow_pos _
  have hpm : IntKind.u64.wrap ((p : Int) - 1) = (p : Int) - 1 := u64_left _ (by omega) (by omega)
  have hk1c : ((k - 1 : Nat) : Int) = (k : Int) - 1 := by omega
  obtain ⟨F, hF⟩ : ∃ F : Int → Int, F = fun z => (spreadN z.toNat k (lanesOf k) : Int) := ⟨_, rfl⟩
  have HS : Hid (∀ (z : Int) wx, 0 ≤ z → z ≤ (p : Int) → Calls Try.prog 29 #[.int .u64 z, .int .i64 (k : Int)] wx fun e w' => e = .returned (.int .u64 (F z)) ∧ w' = wx) := fun z wx h0 h1 => by
    have e : z = ((z.toNat : Nat) : Int) := by omega
    have h2 : z.toNat < 2 ^ k := by have := top_lt hk1; omega
    have := spread_any z.toNat k wx h2 hk1 hk
    rw [← e] at this
    rw [hF]
    exact this
  have HF1 : Hid (F (p : Int) = (topsOf k : Int)) := by rw [hF]; simp only [Int.toNat_natCast]; rw [← hp]; rfl
  have HF2 : Hid (F ((p : Int) - 1) = (restOf k : Int)) := by rw [hF]; simp only; rw [show ((p : Int) - 1).toNat = p - 1 by omega, ← hp]; rfl
  clear hF hp
  unfold cutV
  generalize topsOf k = T at *
  generalize restOf k = R at *
  generalize lanesOf k = m at *
  go_enter Try.func27, Try.ntmps27
  go_wp2
  go_region_held3 (fun _ => True) (trivial) (first | (go_at_call 29; refine (HS.out _ _ (by omega) (by omega)).mono ?_; rintro e w' ⟨rfl, rfl⟩))
  go_wp2
  rw [HF1.out, HF2.out]
  refine bodyPost_ret (v := .agg #[.int .i64 (k : Int), .int .i64 (m : Int), .int .u64 (T : Int), .int .u64 (R : Int)]) (by simp [results, Try.results27, go_sem]) rfl ⟨rfl, ?_⟩
  exact (Grew.alloc w _).drew

set_option maxHeartbeats 1000000 in
set_option maxRecDepth 20000 in
theorem equal_any (k x y : Nat) (w : World) (hk1 : 1 ≤ k) (hx : x < 18446744073709551616) (hy : y < 18446744073709551616) :
    Calls Try.prog 49 #[cutV k, .int .u64 (x : Int), .int .u64 (y : Int)] w fun e w' => e = .returned (.int .u64 (equalW k x y : Int)) ∧ Grew w w' := by
  have hr := restOf_lt k
  have ht := tops_lt hk1
  have hu : x ^^^ y < 18446744073709551616 := Nat.xor_lt_two_pow (n := 64) hx hy
  have hc := carried_lt k (x ^^^ y) hk1
  have e1 := u64_xor_nat x y hx hy
  have e2 := u64_and_nat (x ^^^ y) (restOf k) hu hr
  have hul : (x ^^^ y) &&& restOf k < 18446744073709551616 := Nat.lt_of_le_of_lt Nat.and_le_right hr
  have e3 := u64_or_nat (x ^^^ y) (((x ^^^ y) &&& restOf k) + restOf k) hu hc
  have hol : (x ^^^ y) ||| (((x ^^^ y) &&& restOf k) + restOf k) < 18446744073709551616 := Nat.or_lt_two_pow (n := 64) hu hc
  have e4 := u64_andNot_nat (topsOf k) _ ht hol
  unfold cutV equalW
  generalize hg4 : topsOf k &&& (18446744073709551615 - ((x ^^^ y) ||| (((x ^^^ y) &&& restOf k) + restOf k))) = z4 at *
  generalize (x ^^^ y) ||| (((x ^^^ y) &&& restOf k) + restOf k) = z3 at *
  generalize (x ^^^ y) &&& restOf k = z2 at *
  generalize x ^^^ y = z1 at *
  generalize topsOf k = T at *
  generalize restOf k = R at *
  clear hg4
  have e5 : (z2 : Int) + (R : Int) = ((z2 + R : Nat) : Int) := by omega
  generalize z2 + R = z5 at *
  go_enter Try.func49, Try.ntmps49
  go_wp2
  go_ret
  exact ⟨rfl, Grew.alloc _ _⟩
end Go.Proofs.Ytoephmcmmbhnaac.Ln
