/-
  stands; Spread, Equal, Below, Marks.
-/
import Derived.Test.YtoephmcmmbhnaacLLane
namespace Go.Proofs.Ytoephmcmmbhnaac.Ln
open Go.RowKit Go.Sort

/-- Does a number stand so to another one? -/
def standsB (op : Int) (a c : Nat) : Bool :=
  if op = 1 then decide (a = c) else if op = 2 then !decide (a = c) else if op = 3 then decide (a < c) else if op = 4 then !decide (c < a) else if op = 5 then decide (c < a) else !decide (a < c)
def standsW (k : Nat) (op : Int) (x y : Nat) : Nat := markN (fun i => standsB op (laneW x k i) (laneW y k i)) k (lanesOf k)

theorem mixed : Try.prog.follows .mixedOrders = true := by kernel_rfl
set_option maxHeartbeats 2000000 in
set_option maxRecDepth 20000 in
theorem stands_any (k : Nat) (op : Int) (x y : Nat) (w : World) (hk1 : 1 ≤ k) (hx : x < 18446744073709551616) (hy : y < 18446744073709551616) (ho1 : 1 ≤ op) (ho2 : op ≤ 6) :
    Calls Try.prog 28 #[cutV k, .int .i64 op, .int .u64 (x : Int), .int .u64 (y : Int)] w fun e w' => e = .returned (.int .u64 (standsW k op x y : Int)) ∧ Grew w w' := by
  have hmix := mixed
  have hE1 : equalW k x y = standsW k 1 x y := equalW_mark hk1 hx hy
  have hL3 : belowW k x y = standsW k 3 x y := belowW_mark hk1 hx hy
  have hL5 : belowW k y x = standsW k 5 x y := belowW_mark hk1 hy hx
  have hE2 : topsOf k &&& (18446744073709551615 - equalW k x y) = standsW k 2 x y := by rw [equalW_mark hk1 hx hy, tops_not hk1]; rfl
  have hL6 : topsOf k &&& (18446744073709551615 - belowW k x y) = standsW k 6 x y := by rw [belowW_mark hk1 hx hy, tops_not hk1]; rfl
  have hL4 : topsOf k &&& (18446744073709551615 - belowW k y x) = standsW k 4 x y := by rw [belowW_mark hk1 hy hx, tops_not hk1]; rfl
  have ht := tops_lt hk1
  have hel : equalW k x y < 18446744073709551616 := Nat.lt_of_le_of_lt Nat.and_le_left ht
  have hbl : belowW k x y < 18446744073709551616 := Nat.lt_of_le_of_lt Nat.and_le_left ht
  have hbl2 : belowW k y x < 18446744073709551616 := Nat.lt_of_le_of_lt Nat.and_le_left ht
  have n2 := u64_andNot_nat (topsOf k) _ ht hel
  have n6 := u64_andNot_nat (topsOf k) _ ht hbl
  have n4 := u64_andNot_nat (topsOf k) _ ht hbl2
  rw [hE2] at n2
  rw [hL6] at n6
  rw [hL4] at n4
  have HE : Hid (∀ wx, Calls Try.prog 49 #[.agg #[.int .i64 (k : Int), .int .i64 (lanesOf k : Int), .int .u64 (topsOf k : Int), .int .u64 (restOf k : Int)], .int .u64 (x : Int), .int .u64 (y : Int)] wx fun e w' => e = .returned (.int .u64 (equalW k x y : Int)) ∧ Grew wx w') := fun wx => equal_any k x y wx hk1 hx hy
  have HB : Hid (∀ wx, Calls Try.prog 39 #[.agg #[.int .i64 (k : Int), .int .i64 (lanesOf k : Int), .int .u64 (topsOf k : Int), .int .u64 (restOf k : Int)], .int .u64 (x : Int), .int .u64 (y : Int)] wx fun e w' => e = .returned (.int .u64 (belowW k x y : Int)) ∧ Grew wx w') := fun wx => below_any k x y wx hk1 hx hy
  have HB2 : Hid (∀ wx, Calls Try.prog 39 #[.agg #[.int .i64 (k : Int), .int .i64 (lanesOf k : Int), .int .u64 (topsOf k : Int), .int .u64 (restOf k : Int)], .int .u64 (y : Int), .int .u64 (x : Int)] wx fun e w' => e = .returned (.int .u64 (belowW k y x : Int)) ∧ Grew wx w') := fun wx => below_any k y x wx hk1 hy hx
  clear hE2 hL6 hL4
  have q0 := cell_grown (w := w.alloc (.cells #[.int .i64 (k : Int), .int .i64 (lanesOf k : Int), .int .u64 (topsOf k : Int), .int .u64 (restOf k : Int)] 63)) (a := ⟨w.heap.size, 0, none⟩) (v := .int .i64 (k : Int)) (by simp) (by simp [go_sem])
  have q1 := cell_grown (w := w.alloc (.cells #[.int .i64 (k : Int), .int .i64 (lanesOf k : Int), .int .u64 (topsOf k : Int), .int .u64 (restOf k : Int)] 63)) (a := ⟨w.heap.size, 1, none⟩) (v := .int .i64 (lanesOf k : Int)) (by simp) (by simp [go_sem])
  have q2 := cell_grown (w := w.alloc (.cells #[.int .i64 (k : Int), .int .i64 (lanesOf k : Int), .int .u64 (topsOf k : Int), .int .u64 (restOf k : Int)] 63)) (a := ⟨w.heap.size, 2, none⟩) (v := .int .u64 (topsOf k : Int)) (by simp) (by simp [go_sem])
  have q3 := cell_grown (w := w.alloc (.cells #[.int .i64 (k : Int), .int .i64 (lanesOf k : Int), .int .u64 (topsOf k : Int), .int .u64 (restOf k : Int)] 63)) (a := ⟨w.heap.size, 3, none⟩) (v := .int .u64 (restOf k : Int)) (by simp) (by simp [go_sem])
  unfold cutV
  have h6 : op = 1 ∨ op = 3 ∨ op = 5 ∨ op = 2 ∨ op = 4 ∨ op = 6 := by omega
  clear ho1 ho2
  rcases h6 with rfl | rfl | rfl | rfl | rfl | rfl
  · rw [← hE1]
    clear hE1 hL3 hL5 n2 n4 n6 HB HB2 q0 q1 q2 q3
    generalize equalW k x y = a at *
    generalize topsOf k = T at *
    generalize restOf k = R at *
    generalize lanesOf k = m at *
    go_enter Try.func28, Try.ntmps28
    go_wp2_with (go_at_call 49; refine (HE.out _).mono ?_; rintro e w' ⟨rfl, hg⟩)
    go_ret
    exact ⟨rfl, (Grew.alloc _ _).trans hg⟩
  · rw [← hL3]
    clear hE1 hL3 hL5 n2 n4 n6 HE HB2 q0 q1 q2 q3
    generalize belowW k x y = a at *
    generalize topsOf k = T at *
    generalize restOf k = R at *
    generalize lanesOf k = m at *
    go_enter Try.func28, Try.ntmps28
    go_wp2_with (go_at_call 39; refine (HB.out _).mono ?_; rintro e w' ⟨rfl, hg⟩)
    go_ret
    exact ⟨rfl, (Grew.alloc _ _).trans hg⟩
  · rw [← hL5]
    clear hE1 hL3 hL5 n2 n4 n6 HE HB q0 q1 q2 q3
    generalize belowW k y x = a at *
    generalize topsOf k = T at *
    generalize restOf k = R at *
    generalize lanesOf k = m at *
    go_enter Try.func28, Try.ntmps28
    go_wp2_with (go_at_call 39; refine (HB2.out _).mono ?_; rintro e w' ⟨rfl, hg⟩)
    go_ret
    exact ⟨rfl, (Grew.alloc _ _).trans hg⟩
  · clear hE1 hL3 hL5 n4 n6 HB HB2
    generalize standsW k 2 x y = s at *
    generalize equalW k x y = a at *
    generalize topsOf k = T at *
    generalize restOf k = R at *
    generalize lanesOf k = m at *
    go_enter Try.func28, Try.ntmps28
    go_wp2
    go_quiet_grown (first | (go_at_call 49; exact Calls.grewq (HE.out _)))
    go_wp2
    go_ret
    exact ⟨rfl, (Grew.alloc _ _).trans ⟨_, _, rfl⟩⟩
  · clear hE1 hL3 hL5 n2 n6 HB HE
    generalize standsW k 4 x y = s at *
    generalize belowW k y x = a at *
    generalize topsOf k = T at *
    generalize restOf k = R at *
    generalize lanesOf k = m at *
    go_enter Try.func28, Try.ntmps28
    go_wp2
    go_quiet_grown (first | (go_at_call 39; exact Calls.grewq (HB2.out _)))
    go_wp2
    go_ret
    exact ⟨rfl, (Grew.alloc _ _).trans ⟨_, _, rfl⟩⟩
  · clear hE1 hL3 hL5 n2 n4 HB2 HE
    generalize standsW k 6 x y = s at *
    generalize belowW k x y = a at *
    generalize topsOf k = T at *
    generalize restOf k = R at *
    generalize lanesOf k = m at *
    go_enter Try.func28, Try.ntmps28
    go_wp2
    go_quiet_grown (first | (go_at_call 39; exact Calls.grewq (HB.out _)))
    go_wp2
    go_ret
    exact ⟨rfl, (Grew.alloc _ _).trans ⟨_, _, rfl⟩⟩

/-! ### The four calls -/
/-- Spread's answer, and its error. -/
def spV (v : Nat) (n : Int) : Nat := if isLane n = true ∧ v < 2 ^ n.toNat then spreadN v n.toNat (lanesOf n.toNat) else 0
def spE (v : Nat) (n : Int) : Int := if isLane n = true then (if v < 2 ^ n.toNat then 0 else 21) else 20
set_option maxHeartbeats 1000000 in
theorem Spread_any (v : Nat) (n : Int) (w : World) (hv : v < 18446744073709551616) :
    Calls Try.prog 19 #[.int .u64 (v : Int), .int .i64 n] w fun e w' => e = .returned (.tuple #[.int .u64 (spV v n : Int), .int .i64 (spE v n)]) ∧ w' = w := by
  have HC : Hid (∀ wx, Calls Try.prog 48 #[.int .i64 n] wx fun e w' => e = .returned (.bool (isLane n)) ∧ w' = wx) := fun wx => cutsWord_any n wx
  cases hn : isLane n with
  | false =>
    have e1 : spV v n = 0 := by unfold spV; rw [if_neg (by simp [hn])]
    have e2 : spE v n = 20 := by unfold spE; rw [if_neg (by simp [hn])]
    rw [e1, e2]
    have HN : Hid (isLane n = false) := hn
    clear hn e1 e2
    go_enter Try.func19, Try.ntmps19
    go_wp2_with (go_at_call 48; refine (HC.out _).mono ?_; rintro e w' ⟨rfl, rfl⟩; rw [HN.out])
    go_ret2
    exact ⟨rfl, rfl⟩
  | true =>
    obtain ⟨k, rfl, hk1, hk⟩ := isLane_yes hn
    have HH : Hid (∀ wx, Calls Try.prog 25 #[.int .i64 (k : Int), .int .u64 (v : Int)] wx fun e w' => e = .returned (.bool (decide (v < 2 ^ k))) ∧ w' = wx) := fun wx => holds_any k v wx hv hk
    have HN : Hid (isLane (k : Int) = true) := hn
    by_cases hf : v < 2 ^ k
    · have e1 : spV v (k : Int) = spreadN v k (lanesOf k) := by unfold spV; rw [if_pos (by simp [hn, hf])]; simp
      have e2 : spE v (k : Int) = 0 := by unfold spE; rw [if_pos hn, if_pos (by simpa using hf)]
      rw [e1, e2]
      have HD : Hid (decide (v < 2 ^ k) = true) := by show _ = _; simpa using hf
      have HS : Hid (∀ wx, Calls Try.prog 29 #[.int .u64 (v : Int), .int .i64 (k : Int)] wx fun e w' => e = .returned (.int .u64 (spreadN v k (lanesOf k) : Int)) ∧ w' = wx) := fun wx => spread_any v k wx hf hk1 hk
      clear hn e1 e2 hf
      generalize spreadN v k (lanesOf k) = z at *
      go_enter Try.func19, Try.ntmps19
      go_wp2_with (first | (go_at_call 48; refine (HC.out _).mono ?_; rintro e w' ⟨rfl, rfl⟩; rw [HN.out]) | (go_at_call 25; refine (HH.out _).mono ?_; rintro e w' ⟨rfl, rfl⟩; rw [HD.out]) | (go_at_call 29; refine (HS.out _).mono ?_; rintro e w' ⟨rfl, rfl⟩))
      go_ret2
      exact ⟨rfl, rfl⟩
    · have e1 : spV v (k : Int) = 0 := by unfold spV; rw [if_neg (by simp; intro _; omega)]
      have e2 : spE v (k : Int) = 21 := by unfold spE; rw [if_pos hn, if_neg (by simpa using hf)]
      rw [e1, e2]
      have HD : Hid (decide (v < 2 ^ k) = false) := by show _ = _; simpa using hf
      clear hn e1 e2 hf
      go_enter Try.func19, Try.ntmps19
      go_wp2_with (first | (go_at_call 48; refine (HC.out _).mono ?_; rintro e w' ⟨rfl, rfl⟩; rw [HN.out]) | (go_at_call 25; refine (HH.out _).mono ?_; rintro e w' ⟨rfl, rfl⟩; rw [HD.out]))
      go_ret2
      exact ⟨rfl, rfl⟩

/-- Equal's (op 1) and Below's (op 3) answer, and the error of both. -/
def heldV (x y : Nat) (n op : Int) : Nat := if isLane n = true then standsW n.toNat op x y else 0
def lnE (n : Int) : Int := if isLane n = true then 0 else 20
set_option maxHeartbeats 1000000 in
theorem Equal_any (x y : Nat) (n : Int) (w : World) (hx : x < 18446744073709551616) (hy : y < 18446744073709551616) :
    Calls Try.prog 18 #[.int .u64 (x : Int), .int .u64 (y : Int), .int .i64 n] w fun e w' => e = .returned (.tuple #[.int .u64 (heldV x y n 1 : Int), .int .i64 (lnE n)]) ∧ Grew w w' := by
  have HC : Hid (∀ wx, Calls Try.prog 48 #[.int .i64 n] wx fun e w' => e = .returned (.bool (isLane n)) ∧ w' = wx) := fun wx => cutsWord_any n wx
  cases hn : isLane n with
  | false =>
    have e1 : heldV x y n 1 = 0 := by unfold heldV; rw [if_neg (by simp [hn])]
    have e2 : lnE n = 20 := by unfold lnE; rw [if_neg (by simp [hn])]
    rw [e1, e2]
    have HN : Hid (isLane n = false) := hn
    clear hn e1 e2
    go_enter Try.func18, Try.ntmps18
    go_wp2_with (go_at_call 48; refine (HC.out _).mono ?_; rintro e w' ⟨rfl, rfl⟩; rw [HN.out])
    go_ret2
    exact ⟨rfl, Grew.refl _⟩
  | true =>
    obtain ⟨k, rfl, hk1, hk⟩ := isLane_yes hn
    have HN : Hid (isLane (k : Int) = true) := hn
    have e1 : heldV x y (k : Int) 1 = equalW k x y := by unfold heldV; rw [if_pos hn, equalW_mark hk1 hx hy]; rfl
    have e2 : lnE (k : Int) = 0 := by unfold lnE; rw [if_pos hn]
    rw [e1, e2]
    have HO : Hid (∀ wx, Calls Try.prog 27 #[.int .i64 (k : Int)] wx fun e w' => e = .returned (cutV k) ∧ Grew wx w') := fun wx => cutOf_any k wx hk1 hk
    have HE : Hid (∀ wx, Calls Try.prog 49 #[cutV k, .int .u64 (x : Int), .int .u64 (y : Int)] wx fun e w' => e = .returned (.int .u64 (equalW k x y : Int)) ∧ Grew wx w') := fun wx => equal_any k x y wx hk1 hx hy
    clear hn e1 e2
    generalize equalW k x y = z at *
    generalize cutV k = c at *
    go_enter Try.func18, Try.ntmps18
    go_wp2_with (first | (go_at_call 48; refine (HC.out _).mono ?_; rintro e w' ⟨rfl, rfl⟩; rw [HN.out]) | (go_at_call 27; refine (HO.out _).mono ?_; rintro e w1 ⟨rfl, hg1⟩) | (go_at_call 49; refine (HE.out _).mono ?_; rintro e w2 ⟨rfl, hg2⟩))
    go_ret2
    exact ⟨rfl, hg1.trans hg2⟩
def mkV (m : Nat) (n : Int) : Nat := if isLane n = true then marksW n.toNat m (lanesOf n.toNat) else 0
set_option maxHeartbeats 1000000 in
theorem Marks_any (m : Nat) (n : Int) (w : World) (hm : m < 18446744073709551616) :
    Calls Try.prog 20 #[.int .u64 (m : Int), .int .i64 n] w fun e w' => e = .returned (.tuple #[.int .u64 (mkV m n : Int), .int .i64 (lnE n)]) ∧ Grew w w' := by
  have HC : Hid (∀ wx, Calls Try.prog 48 #[.int .i64 n] wx fun e w' => e = .returned (.bool (isLane n)) ∧ w' = wx) := fun wx => cutsWord_any n wx
  cases hn : isLane n with
  | false =>
    have e1 : mkV m n = 0 := by unfold mkV; rw [if_neg (by simp [hn])]
    have e2 : lnE n = 20 := by unfold lnE; rw [if_neg (by simp [hn])]
    rw [e1, e2]
    have HN : Hid (isLane n = false) := hn
    clear hn e1 e2
    go_enter Try.func20, Try.ntmps20
    go_wp2_with (go_at_call 48; refine (HC.out _).mono ?_; rintro e w' ⟨rfl, rfl⟩; rw [HN.out])
    go_ret2
    exact ⟨rfl, Grew.refl _⟩
  | true =>
    obtain ⟨k, rfl, hk1, hk⟩ := isLane_yes hn
    have HN : Hid (isLane (k : Int) = true) := hn
    have e1 : mkV m (k : Int) = marksW k m (lanesOf k) := by unfold mkV; rw [if_pos hn]; simp
    have e2 : lnE (k : Int) = 0 := by unfold lnE; rw [if_pos hn]
    rw [e1, e2]
    have HO : Hid (∀ wx, Calls Try.prog 27 #[.int .i64 (k : Int)] wx fun e w' => e = .returned (cutV k) ∧ Grew wx w') := fun wx => cutOf_any k wx hk1 hk
    have HE : Hid (∀ wx, Calls Try.prog 50 #[cutV k, .int .u64 (m : Int)] wx fun e w' => e = .returned (.int .u64 (marksW k m (lanesOf k) : Int)) ∧ Grew wx w') := fun wx => marks_any k m wx hk1 hk hm
    clear hn e1 e2
    generalize marksW k m (lanesOf k) = z at *
    generalize cutV k = c at *
    go_enter Try.func20, Try.ntmps20
    go_wp2_with (first | (go_at_call 48; refine (HC.out _).mono ?_; rintro e w' ⟨rfl, rfl⟩; rw [HN.out]) | (go_at_call 27; refine (HO.out _).mono ?_; rintro e w1 ⟨rfl, hg1⟩) | (go_at_call 50; refine (HE.out _).mono ?_; rintro e w2 ⟨rfl, hg2⟩))
    go_ret2
    exact ⟨rfl, hg1.trans hg2⟩
end Go.Proofs.Ytoephmcmmbhnaac.Ln
