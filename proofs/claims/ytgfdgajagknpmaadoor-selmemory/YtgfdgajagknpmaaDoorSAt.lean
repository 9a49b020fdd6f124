/-
  At.
-/
import Derived.Test.YtgfdgajagknpmaaDoorSMeet
namespace Go.Proofs.YtgfdgajagknpmaaDoor.Sl
open Go.RowKit Go.Shelf Bt

/-- Rising, each from 0 to n - 1. -/
def okRows (n : Nat) (v : Nat → Int) (m : Nat) : Prop := ∀ k, k < m → 0 ≤ v k ∧ v k < (n : Int) ∧ (0 < k → v (k - 1) < v k)
instance (n : Nat) (v : Nat → Int) (m : Nat) : Decidable (okRows n v m) := by unfold okRows; infer_instance
/-- The least number that may come next. -/
def leastAt (v : Nat → Int) (k : Nat) : Int := if k = 0 then 0 else v (k - 1) + 1
theorem okRows_succ {n k : Nat} {v : Nat → Int} (h : okRows n v k) (h1 : leastAt v k ≤ v k) (h2 : v k < (n : Int)) : okRows n v (k + 1) := fun j hj => by
  by_cases e : j = k
  · subst e
    unfold leastAt at h1
    by_cases h0 : j = 0
    · simp [h0] at h1 ⊢
      subst h0
      exact ⟨h1, h2⟩
    · rw [if_neg h0] at h1
      have := (h (j - 1) (by omega)).1
      exact ⟨by omega, h2, fun _ => by omega⟩
  · exact h j (by omega)
theorem okRows_bad {n k m : Nat} {v : Nat → Int} (hk : k < m) (hb : v k < leastAt v k ∨ (n : Int) ≤ v k) : ¬ okRows n v m := fun h => by
  obtain ⟨h1, h2, h3⟩ := h k hk
  unfold leastAt at hb
  by_cases h0 : k = 0
  · simp [h0] at hb; subst h0; omega
  · rw [if_neg h0] at hb
    have := h3 (by omega)
    omega
theorem leastAt_bound {n k : Nat} {v : Nat → Int} (h : okRows n v k) : 0 ≤ leastAt v k ∧ leastAt v k ≤ (n : Int) := by
  unfold leastAt
  by_cases h0 : k = 0
  · simp [h0]
  · rw [if_neg h0]
    have := h (k - 1) (by omega)
    omega
theorem leastAt_succ (v : Nat → Int) (k : Nat) : leastAt v (k + 1) = v k + 1 := by simp [leastAt]

set_option maxHeartbeats 1000000 in
set_option maxRecDepth 20000 in
theorem areRows_any (n m c : Nat) (a0 : Option Addr) (v : Nat → Int) (w : World) (hn : n ≤ 16777216) (hm : m ≤ 17592186043904) (hI : IntsAt w a0 m v) :
    Calls Tryd.prog 44 #[.int .i64 (n : Int), .slice a0 m c] w fun e w' => e = .returned (.bool (decide (okRows n v m))) ∧ w' = w := by
  have HI : Hid (IntsAt w a0 m v) := hI
  clear hI
  go_enter Tryd.func44, Tryd.ntmps44
  go_wp2
  go_loopw [10, 5] (fun i s wr => ∃ k : Nat, k ≤ m ∧ i = .int .i64 k ∧ s = .int .i64 (leastAt v k) ∧ Hid (okRows n v k) ∧ Hid (wr = w)) (fun i _ _ => m - (intOf i).toNat)
  case atStart => exact ⟨0, Nat.zero_le _, rfl, rfl, fun j hj => by omega, rfl⟩
  case round =>
    obtain ⟨k, hk, rfl, rfl, HK, HW⟩ := hrel
    by_cases hlt : k < m
    · obtain ⟨g, o, e, hc0⟩ := HI.out k hlt
      subst e
      have hc : wr.cell? ⟨g, o + k, none⟩ = some (.int .i64 (v k)) := by rw [HW.out]; exact hc0
      have hlb := leastAt_bound HK.out
      have hls := leastAt_succ v k
      clear hc0
      by_cases h1 : v k < leastAt v k
      · have HB : Hid (¬ okRows n v m) := okRows_bad hlt (.inl h1)
        have hd : decide (v k < leastAt v k) = true := by simpa using h1
        clear hls
        generalize leastAt v k = l at *
        generalize v k = y at *
        go_wp2
        go_ret
        exact ⟨by rw [decide_eq_false HB.out]; rfl, HW.out⟩
      · have hd : decide (v k < leastAt v k) = false := by simpa using h1
        by_cases h2 : (n : Int) ≤ v k
        · have HB : Hid (¬ okRows n v m) := okRows_bad hlt (.inr h2)
          have hd2 : decide ((n : Int) ≤ v k) = true := by simpa using h2
          clear hls
          generalize leastAt v k = l at *
          generalize v k = y at *
          go_wp2
          go_ret
          exact ⟨by rw [decide_eq_false HB.out]; rfl, HW.out⟩
        · have hd2 : decide ((n : Int) ≤ v k) = false := by simpa using h2
          have HK2 : Hid (okRows n v (k + 1)) := okRows_succ HK.out (by omega) (by omega)
          have HLS : Hid (leastAt v (k + 1) = v k + 1) := hls
          clear hls
          generalize leastAt v k = l at *
          generalize v k = y at *
          go_wp2
          exact ⟨⟨k + 1, by omega, by go_num, by rw [HLS.out], HK2, HW⟩, by simp [intOf]; omega⟩
    · obtain rfl : k = m := by omega
      go_wp2
      go_ret
      exact ⟨by rw [decide_eq_true HK.out]; rfl, HW.out⟩

theorem okRows_nats {n m : Nat} {v : Nat → Int} {w : World} {a0 : Option Addr} (h : okRows n v m) (hI : IntsAt w a0 m v) : NatsAt w a0 m (fun k => (v k).toNat) := fun k hk => by
  obtain ⟨g, o, e, hc⟩ := hI k hk
  have h0 := (h k hk).1
  exact ⟨g, o, e, World.block_lt_of_cell? w _ hc, by rw [hc]; show some (Value.int .i64 (v k)) = some (.int .i64 (((v k).toNat : Nat) : Int)); rw [Int.toNat_of_nonneg h0]⟩
theorem okRows_le {n m : Nat} {v : Nat → Int} (h : okRows n v m) : m ≤ n := by
  have : ∀ k, k < m → (k : Int) ≤ v k := by
    intro k
    induction k with
    | zero => intro hk; exact (h 0 hk).1
    | succ k ih =>
      intro hk
      have h1 := ih (by omega)
      have h2 := (h (k + 1) hk).2.2 (by omega)
      simp at h2
      omega
  by_cases h0 : m = 0
  · omega
  · have h1 := this (m - 1) (by omega)
    have h2 := (h (m - 1) (by omega)).2.1
    omega

set_option maxHeartbeats 400000 in
set_option maxRecDepth 20000 in
theorem At_arg (i : Int) (s : Value) (w : World) (hi : i < 0 ∨ 16777216 < i) : Calls Tryd.prog 12 #[.int .i64 i, s] w fun e w' => e = .returned (.tuple #[.nilIface, .int .i64 2]) ∧ w' = w := by
  rcases hi with h | h
  · have hd : decide (i < 0) = true := by simpa using h
    go_enter Tryd.func12, Tryd.ntmps12
    go_wp2
    go_ret2
    exact ⟨rfl, rfl⟩
  · have hd : decide (i < 0) = false := by simp; omega
    have hd2 : decide (16777216 < i) = true := by simpa using h
    go_enter Tryd.func12, Tryd.ntmps12
    go_wp2
    go_ret2
    exact ⟨rfl, rfl⟩
set_option maxHeartbeats 400000 in
set_option maxRecDepth 20000 in
theorem At_index (n m c : Nat) (a0 : Option Addr) (v : Nat → Int) (w : World) (hn : n ≤ 16777216) (hm : m ≤ 17592186043904) (hI : IntsAt w a0 m v) (hb : ¬ okRows n v m) :
    Calls Tryd.prog 12 #[.int .i64 (n : Int), .slice a0 m c] w fun e w' => e = .returned (.tuple #[.nilIface, .int .i64 40]) ∧ w' = w := by
  have HC := hid (areRows_any n m c a0 v w hn hm hI)
  have HB := hid hb
  have hd : decide (16777216 < (n : Int)) = false := by simp; omega
  clear hI hb
  go_enter Tryd.func12, Tryd.ntmps12
  go_wp2_with (go_at_call 44; refine HC.out.mono ?_; rintro e w1 ⟨rfl, rfl⟩; rw [decide_eq_false HB.out])
  go_ret2
  exact ⟨rfl, rfl⟩
set_option maxHeartbeats 400000 in
set_option maxRecDepth 20000 in
theorem At_ok (n m c : Nat) (a0 : Option Addr) (v : Nat → Int) (w : World) (hn : n ≤ 16777216) (hI : IntsAt w a0 m v) (hb : okRows n v m) (ha : ∀ x o, a0 = some ⟨x, o, none⟩ → x < w.heap.size) (hT : Tab w) :
    Calls Tryd.prog 12 #[.int .i64 (n : Int), .slice a0 m c] w fun e w' => ∃ x, e = .returned (.tuple #[x, .int .i64 0]) ∧ Ans w w' x n (plus (fun _ => false) (fun k => (v k).toNat) m) := by
  have hmn := okRows_le hb
  have HC := hid (areRows_any n m c a0 v w hn (by omega) hI)
  have HB := hid hb
  have hRn : ∀ k, k < m → (v k).toNat < n := fun k hk => by have := hb k hk; omega
  have HS := hid (setOf_any n m c a0 (fun k => (v k).toNat) w hn (by omega) hRn (okRows_nats hb hI) ha)
  have HTL := hid (plus_tail (tail_none n) hRn)
  have HT := hid hT
  have hd : decide (16777216 < (n : Int)) = false := by simp; omega
  clear hI hb ha hT hRn
  go_enter Tryd.func12, Tryd.ntmps12
  go_wp2_with (first
    | (go_at_call 44; refine HC.out.mono ?_; rintro e w1 ⟨rfl, rfl⟩; rw [decide_eq_true HB.out])
    | (go_at_call 45; refine HS.out.mono ?_; rintro e w2 ⟨d, g, rfl, hd2, hg2, hN2, b2⟩)
    | (go_at_call 40; refine (own_any d g n w1.heap.size _ _ hN2 hn HTL.out hd2 hg2 b2.size (Tab.on HT.out b2)).mono ?_; rintro e w3 ⟨T, x, rfl, hS3, b3⟩))
  go_ret2
  exact ⟨_, rfl, Ans.of hS3 b2 b3⟩
end Go.Proofs.YtgfdgajagknpmaaDoor.Sl
