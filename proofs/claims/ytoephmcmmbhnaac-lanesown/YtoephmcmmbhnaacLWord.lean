/-
  THE WORD's FUNCTIONS of package lanes: lowest, holds, cutsWord, spread, cutOf, equal, below, marks, lane; Spread, Equal, Below, Marks.
-/
import Derived.Test.YtoephmcmmbhnaacPackAll
import Derived.Test.YtoephmcmmbhnaacCutMath
import Derived.Shelf.SlSortCmp.QuietGrown
namespace Go.Proofs.Ytoephmcmmbhnaac.Ln
open Go.RowKit Go.Sort

/-- A world after some draws, some blocks laid behind it. -/
def Grew (w w' : World) : Prop := ∃ n os, w' = grow (w.drewN n) os
theorem Grew.refl (w : World) : Grew w w := ⟨0, #[], by rw [grow_empty]; rfl⟩
theorem Grew.drewN (w : World) (n : Nat) : Grew w (w.drewN n) := ⟨n, #[], by rw [grow_empty]⟩
theorem Grew.alloc (w : World) (o : Obj) : Grew w (w.alloc o) := ⟨0, #[o], alloc_eq_grow w o⟩
theorem Grew.trans {a b c : World} (h : Grew a b) (k : Grew b c) : Grew a c := by
  obtain ⟨n, os, rfl⟩ := h
  obtain ⟨m, os', rfl⟩ := k
  exact ⟨n + m, os ++ os', by show grow (grow ((a.drewN n).drewN m) os) os' = _; rw [grow_grow, World.drewN_drewN]⟩
theorem Grew.below {w w' : World} (h : Grew w w') : Below w.heap.size w w' := by
  obtain ⟨n, os, rfl⟩ := h
  refine ⟨rfl, rfl, rfl, ?_, ?_⟩
  · simp only [size_grow]; show w.heap.size ≤ w.heap.size + os.size; omega
  · intro k hk
    exact heap_grow_old _ _ hk
theorem Grew.drew {a b : World} (h : Grew a b) : Grew a b.drew := h.trans (Grew.drewN b 1)
theorem Grew.setCell {w w' : World} (h : Grew w w') {a : Addr} (ha : w.heap.size ≤ a.block) (v : Value) : Grew w (w'.setCell a v) := by
  obtain ⟨n, os, rfl⟩ := h
  refine ⟨n, ?_, ?_⟩
  rotate_left
  · unfold World.setCell grow World.drewN
    simp only
    rw [modify_append_right _ _ _ _ ha]
theorem Calls.grewq {P : Program} {f : FuncId} {args : Array Value} {w : World} {n : Nat} {os : Array Obj} {v : Value}
    (h : Calls P f args (grow (w.drewN n) os) fun e w' => e = .returned v ∧ Grew (grow (w.drewN n) os) w') : Calls P f args (grow (w.drewN n) os) fun e w'' => e = .returned v ∧ ∃ p : GrownBy, w'' = grow (w.drewN p.n) p.os := Calls.grown_of h

/-- The cut into lanes of width k, as a value. -/
def cutV (k : Nat) : Value := .agg #[.int .i64 (k : Int), .int .i64 (lanesOf k : Int), .int .u64 (topsOf k : Int), .int .u64 (restOf k : Int)]

def isLane (n : Int) : Bool := decide (1 ≤ n) && decide (n ≤ 64)
theorem isLane_yes {n : Int} (h : isLane n = true) : ∃ k : Nat, n = (k : Int) ∧ 1 ≤ k ∧ k ≤ 64 := by
  simp [isLane] at h; exact ⟨n.toNat, by omega, by omega, by omega⟩
theorem isLane_nat {k : Nat} (h1 : 1 ≤ k) (h : k ≤ 64) : isLane (k : Int) = true := by simp [isLane]; omega

set_option maxHeartbeats 400000 in
theorem cutsWord_any (n : Int) (w : World) : Calls Try.prog 48 #[.int .i64 n] w fun e w' => e = .returned (.bool (isLane n)) ∧ w' = w := by
  unfold isLane
  by_cases h0 : 1 ≤ n
  · have hd : decide (1 ≤ n) = true := by simpa using h0
    cases h1 : decide (n ≤ 64)
    all_goals
      go_enter Try.func48, Try.ntmps48
      go_wp2
      go_ret
      exact ⟨by simp [hd], rfl⟩
  · have hd : decide (1 ≤ n) = false := by simpa using h0
    go_enter Try.func48, Try.ntmps48
    go_wp2
    go_ret
    exact ⟨by simp, rfl⟩

set_option maxHeartbeats 400000 in
theorem holds_any (k v : Nat) (w : World) (hv : v < 18446744073709551616) (hk : k ≤ 64) : Calls Try.prog 25 #[.int .i64 (k : Int), .int .u64 (v : Int)] w fun e w' => e = .returned (.bool (decide (v < 2 ^ k))) ∧ w' = w := by
  have HF : Hid (Lib.bitLen v ≤ k ↔ v < 2 ^ k) := bitLen_fits hv hk
  have hl := bitLen_le64 hv
  have HW : Hid (∀ wx, Calls Try.prog 22 #[.int .u64 (v : Int)] wx fun e w' => e = .returned (.int .i64 (Lib.bitLen v : Int)) ∧ w' = wx) := fun wx => width_any v wx hv
  generalize Lib.bitLen v = l at *
  go_enter Try.func25, Try.ntmps25
  go_wp2_with (go_at_call 22; refine (HW.out _).mono ?_; rintro e w' ⟨rfl, rfl⟩)
  go_ret
  refine ⟨ret_bool ?_, rfl⟩
  have := HF.out
  by_cases h : v < 2 ^ k
  · have := this.2 h; simp [h]; omega
  · have h2 : ¬ l ≤ k := fun h2 => h (this.1 h2)
    simp [h]; omega

/-- Ones below n, all of them from 64 on. -/
def lowN (n : Nat) : Nat := if n ≤ 64 then 2 ^ n - 1 else 18446744073709551615
theorem lowN_lt (n : Nat) : lowN n < 18446744073709551616 := by
  unfold lowN; split
  · exact pow_sub_lt n (by assumption)
  · omega
theorem lowN_bit (n p : Nat) : (lowN n).testBit p = (decide (p < n) && decide (p < 64)) := by
  unfold lowN; split
  · rw [Nat.testBit_two_pow_sub_one]
    by_cases h : p < n <;> simp [h]; omega
  · rw [show (18446744073709551615 : Nat) = 2 ^ 64 - 1 by decide, Nat.testBit_two_pow_sub_one]
    by_cases h : p < 64 <;> simp [h]; omega
theorem lowN_wrap (n : Nat) : IntKind.u64.wrap (IntKind.u64.wrap ((2 : Int) ^ min n 64) - 1) = (lowN n : Int) := by
  rw [mask_wrap (min n 64) (by omega)]
  unfold lowN
  split
  · rw [show min n 64 = n by omega]
  · rw [show min n 64 = 64 by omega]
set_option maxHeartbeats 400000 in
theorem lowest_any (k : Nat) (w : World) (hk : k ≤ 9223372036854775807) : Calls Try.prog 37 #[.int .i64 (k : Int)] w fun e w' => e = .returned (.int .u64 (lowN k : Int)) ∧ w' = w := by
  have hl := lowN_lt k
  have HW : Hid (IntKind.u64.wrap (IntKind.u64.wrap ((2 : Int) ^ min k 64) - 1) = (lowN k : Int)) := lowN_wrap k
  go_enter Try.func37, Try.ntmps37
  go_wp2
  go_ret
  exact ⟨ret_int HW.out, rfl⟩

theorem spread_step {v k i : Nat} (hv : v < 2 ^ k) (hi : i < lanesOf k) :
    bits BinOp.or IntKind.u64 (spreadN v k i : Int) (IntKind.u64.wrap ((v : Int) * 2 ^ (i * k))) = (spreadN v k (i + 1) : Int) := by
  have h1 : spreadN v k (i + 1) < 18446744073709551616 := by
    refine Nat.lt_of_lt_of_le (spread_lt v k (i + 1) hv) (Nat.pow_le_pow_right (n := 2) (by omega) (show (i + 1) * k ≤ 64 from Nat.le_trans (Nat.mul_le_mul_right k hi) (lanes_fit k)))
  have h2 : spreadN v k (i + 1) = spreadN v k i + v * 2 ^ (i * k) := rfl
  have e : IntKind.u64.wrap ((v : Int) * 2 ^ (i * k)) = ((v * 2 ^ (i * k) : Nat) : Int) := by
    rw [pow_cast, ← Int.natCast_mul, u64_left _ (by omega) (by omega)]
  rw [e, u64_or_nat _ _ (by omega) (by omega), spread_or v k i hv]

set_option maxHeartbeats 1000000 in
theorem spread_any (v k : Nat) (w : World) (hv : v < 2 ^ k) (hk1 : 1 ≤ k) (hk : k ≤ 64) :
    Calls Try.prog 29 #[.int .u64 (v : Int), .int .i64 (k : Int)] w fun e w' => e = .returned (.int .u64 (spreadN v k (lanesOf k) : Int)) ∧ w' = w := by
  have HS : Hid (∀ i, i < lanesOf k → bits BinOp.or IntKind.u64 (spreadN v k i : Int) (IntKind.u64.wrap ((v : Int) * 2 ^ (i * k))) = (spreadN v k (i + 1) : Int)) := fun i hi => spread_step hv hi
  have HP : Hid (∀ i, i < lanesOf k → i * k < 64) := fun i hi => by
    have h2 := lanes_fit k
    have h3 := Nat.mul_le_mul_right k (show i + 1 ≤ lanesOf k from hi)
    rw [Nat.succ_mul] at h3
    omega
  have hq : (64 : Int) / (k : Int) = (lanesOf k : Int) := rfl
  have hl := lanes_le k
  have hk0 : ((k : Int) == 0) = false := by simp; omega
  have HF0 : Hid (spreadN v k 0 = 0) := rfl
  generalize hF : spreadN v k = F at *
  clear hF hv
  generalize lanesOf k = m at *
  go_enter Try.func29, Try.ntmps29
  go_wp2
  go_loop [5, 9] (fun x i => ∃ t : Nat, t ≤ m ∧ i = .int .i64 t ∧ x = .int .u64 (F t : Int)) (fun _ i => m - (intOf i).toNat)
  case atStart => exact ⟨0, Nat.zero_le _, rfl, by rw [HF0.out]; rfl⟩
  case round =>
    obtain ⟨t, ht, rfl, rfl⟩ := hrel
    by_cases hlt : t < m
    · have hp := HP.out t hlt
      have hpc : (t : Int) * (k : Int) = ((t * k : Nat) : Int) := by simp
      have hs := HS.out t hlt
      generalize t * k = p at *
      go_wp2
      exact ⟨⟨t + 1, by omega, by go_num, rfl⟩, by simp [intOf]; omega⟩
    · obtain rfl : t = m := by omega
      go_wp2
      go_ret
      exact ⟨rfl, rfl⟩
end Go.Proofs.Ytoephmcmmbhnaac.Ln
