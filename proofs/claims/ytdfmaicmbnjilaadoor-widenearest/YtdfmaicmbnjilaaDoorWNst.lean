/-
  A mean and its neighbours: how far each lies from the quotient.
-/
import Derived.Test.YtdfmaicmbnjilaaDoorWFar
namespace Go.Proofs.YtdfmaicmbnjilaaDoor
namespace Wd
open Ieee Vl

theorem vW_low : vW 4318952042648305664 = 75557863725914323419136 := by decide +kernel
theorem vW_top : vW 5179139571476070400 = 237142198758023568227473377297792835283496928595231875152809132048206089502588928 := by decide +kernel
theorem quW_range {N n : Nat} (h0 : 0 < N) (h1 : N ≤ 170141183460469231731687303715884105728) (h2 : 0 < n) (h3 : n < 9223372036854775808) : 4318952042648305664 ≤ quW N n ∧ quW N n ≤ 5179139571476070400 := by
  obtain ⟨m1, m2, m3⟩ := between h0 h1 h2 (show n < 18446744073709551616 by omega)
  rw [show (2 : Nat) ^ 141 = 2787593149816327892691964784081045188247552 by decide +kernel] at m1 m2
  generalize quW N n = x at *
  constructor
  · apply Nat.le_of_not_lt
    intro hlt
    have a1 := vW_le (show 4210865651591413760 ≤ x by omega) (show x ≤ 4318952042648305664 by omega)
    have a2 := vW_le (show 4210865651591413760 ≤ x + 1 by omega) (show x + 1 ≤ 4318952042648305664 by omega)
    rw [vW_low] at a1 a2
    have a3 : (vW x + vW (x + 1)) * n ≤ 151115727451828646838272 * 9223372036854775808 := Nat.mul_le_mul (by omega) (by omega)
    omega
  · apply Nat.le_of_not_lt
    intro hlt
    have a1 := vW_le (show 4210865651591413760 ≤ 5179139571476070400 by omega) (show 5179139571476070400 ≤ x - 1 by omega)
    have a2 := vW_lt (show 4210865651591413760 ≤ 5179139571476070400 by omega) (show 5179139571476070400 < x by omega)
    rw [vW_top] at a1 a2
    have a3 : (vW (x - 1) + vW x) * 1 ≤ (vW (x - 1) + vW x) * n := Nat.mul_le_mul_left _ h2
    omega
theorem near_dist {N n : Nat} (h0 : 0 < N) (h1 : N ≤ 170141183460469231731687303715884105728) (h2 : 0 < n) (h3 : n < 9223372036854775808) :
    ∃ p q r A : Nat, vW (quW N n - 1) * n = p ∧ vW (quW N n) * n = q ∧ vW (quW N n + 1) * n = r ∧ N * 2 ^ 140 = A ∧ p + q ≤ 2 * A ∧ 2 * A ≤ q + r ∧ p < q ∧ q < r ∧ (2 * A = p + q ∨ 2 * A = q + r → quW N n % 2 = 0) := by
  obtain ⟨b1, b2, b3⟩ := between h0 h1 h2 (show n < 18446744073709551616 by omega)
  obtain ⟨e1, e2⟩ := quW_eN h0 h1 h2 (show n < 18446744073709551616 by omega)
  obtain ⟨u1, u2⟩ := wQ_in h0 (show N < 340282366920938463463374607431768211456 by omega) h2 (show n < 18446744073709551616 by omega)
  obtain ⟨k1, k2, -, -⟩ := kp_bounds u1 u2
  obtain ⟨v1, v2, v3, v4⟩ := vals_of e2 k1 k2 e1
  obtain ⟨m1, m2, m3, m4⟩ := mid (T := n * 2 ^ eN N n) h0 h1 h2 (show n < 18446744073709551616 by omega) rfl
  have l1 := vW_lt (show 4210865651591413760 ≤ quW N n - 1 by omega) (show quW N n - 1 < quW N n by omega)
  have l2 := vW_lt (show 4210865651591413760 ≤ quW N n by omega) (show quW N n < quW N n + 1 by omega)
  have hA0 : N * 2 ^ 141 = 2 * (N * 2 ^ 140) := by rw [Nat.pow_succ]; omega
  obtain ⟨A, hAe⟩ : ∃ A, N * 2 ^ 140 = A := ⟨_, rfl⟩
  have hA : N * 2 ^ 141 = 2 * A := hA0.trans (congrArg (fun t => 2 * t) hAe)
  clear hA0
  rw [hA] at b1 b2 m1 m2 m3 m4
  have c1 := Nat.mul_lt_mul_of_pos_right l1 h2
  have c2 := Nat.mul_lt_mul_of_pos_right l2 h2
  rw [Nat.add_mul] at b1 b2
  have w2 : kpN (wQ N n) * (n * 2 ^ eN N n) + n * 2 ^ eN N n ≤ vW (quW N n + 1) * n := by
    have := Nat.mul_le_mul_right n v2
    rw [Nat.add_mul, Nat.one_mul, Nat.add_mul, Nat.mul_comm (2 ^ eN N n) n, Nat.mul_assoc, Nat.mul_comm (2 ^ eN N n) n] at this
    exact this
  have w1 : vW (quW N n) * n = kpN (wQ N n) * (n * 2 ^ eN N n) := by rw [v1, Nat.mul_assoc, Nat.mul_comm (2 ^ eN N n) n]
  have w3 : 4503599627370496 < kpN (wQ N n) → vW (quW N n - 1) * n + n * 2 ^ eN N n = vW (quW N n) * n := fun h => by
    rw [v1, ← v3 h, Nat.add_mul, Nat.mul_comm (2 ^ eN N n) n]
  have hT : 0 < n * 2 ^ eN N n := Nat.mul_pos h2 (Nat.two_pow_pos _)
  rw [show kpN (wQ N n) * (2 * (n * 2 ^ eN N n)) = 2 * (kpN (wQ N n) * (n * 2 ^ eN N n)) from Nat.mul_left_comm _ _ _, ← w1] at m1 m2 m3 m4
  rw [← w1] at w2
  refine ⟨_, _, _, A, rfl, rfl, rfl, hAe, b1, b2, c1, c2, ?_⟩
  clear v1 v2 v3 v4 w1 hA hAe b1 b2 b3 l1 l2 u1 u2 h1 h3
  generalize vW (quW N n - 1) * n = p at *
  generalize vW (quW N n) * n = q at *
  generalize vW (quW N n + 1) * n = r at *
  generalize n * 2 ^ eN N n = T at *
  generalize kpN (wQ N n) = kp at *
  generalize quW N n = x at *
  intro h
  have hk : kp % 2 = 0 := by
    apply m3
    rcases h with h | h
    · by_cases hkp : kp = 4503599627370496
      · have := m4 hkp
        omega
      · have := w3 (by omega)
        exact .inl (by omega)
    · exact .inr (by omega)
  omega
theorem order_low {x : Nat} (h1 : 4318952042648305664 ≤ x) (h2 : x ≤ 5179139571476070400) : (Ieee.double.order x 4318952042648305664 == some .lt) = false ∧ (Ieee.double.order x 5179139571476070400 == some .gt) = false := by
  rw [ord_fin (show x % 9223372036854775808 < 9218868437227405312 by omega) (by decide), ord_fin (show x % 9223372036854775808 < 9218868437227405312 by omega) (by decide), sv_pos (show x < 9223372036854775808 by omega), sv_pos (by decide), sv_pos (by decide)]
  have a1 := uv_le h1
  have a2 := uv_le h2
  generalize uv x = u at *
  generalize uv 4318952042648305664 = l at *
  generalize uv 5179139571476070400 = t at *
  constructor
  · cases hc : compare (u : Int) (l : Int) with
    | lt => have := (cmp_lt _ _).1 hc; omega
    | eq => rfl
    | gt => rfl
  · cases hc : compare (u : Int) (t : Int) with
    | lt => rfl
    | eq => rfl
    | gt => have := (cmp_gt _ _).1 hc; omega
theorem sub_self {b : Nat} (h : b % 9223372036854775808 < 9218868437227405312) : Ieee.double.sub b b = some 0 := by
  obtain ⟨m, k, hr, _, _, _⟩ := read_num b h
  unfold Format.sub
  rw [hr]
  generalize (b / 9223372036854775808 % 2 == 1) = s
  simp only [Datum.opposite, Datum.sum, Int.min_self, Int.sub_self]
  have ht : signed s m (Int.toNat 0) + signed (!s) m (Int.toNat 0) = 0 := by unfold signed; cases s <;> simp <;> omega
  rw [ht, if_pos rfl]
  cases s <;> rfl
/-- What the law asks of a mean that is not 0, all at once: its word, its signs, its neighbours' distances. -/
theorem near_facts {a : Int} {N : Nat} (ha : Is a) (h0 : a ≠ 0) (hn : 1 ≤ N) (hI : N < 9223372036854775808) :
    ∃ (s : Bool) (x : Nat) (Vd Vu Vw Dd Du Dw Zd Zu Zw : Int), meanW a (N : Int) = Ieee.double.word s x ∧ s = decide (a < 0) ∧ 4318952042648305664 ≤ x ∧ x ≤ 5179139571476070400 ∧ Vd = ((vW x * N : Nat) : Int) ∧ Vu = ((vW (x + 1) * N : Nat) : Int) ∧ Vw = ((vW (x - 1) * N : Nat) : Int) ∧
      (if s = true then -Vd else Vd) - dbl a 140 = Dd ∧ (if s = true then -Vu else Vu) - dbl a 140 = Du ∧ (if s = true then -Vw else Vw) - dbl a 140 = Dw ∧ (Dd.natAbs : Int) = Zd ∧ (Du.natAbs : Int) = Zu ∧ (Dw.natAbs : Int) = Zw ∧ ¬ Zu < Zd ∧ ¬ Zw < Zd ∧ ((Zd < Zu ∧ Zd < Zw) ∨ x % 2 = 0) := by
  have hN1 : a.natAbs ≤ 170141183460469231731687303715884105728 := by unfold Is at ha; omega
  have hN0 : 0 < a.natAbs := by omega
  obtain ⟨r1, r2⟩ := quW_range hN0 hN1 (show 0 < N by omega) hI
  obtain ⟨p, q, r, A, hp, hq, hr, hA, d1, d2, d3, d4, d5⟩ := near_dist hN0 hN1 (show 0 < N by omega) hI
  have hm : meanW a (N : Int) = Ieee.double.word (decide (a < 0)) (quW a.natAbs N) := by
    unfold meanW Format.word
    rw [if_neg (by omega), if_neg h0, Int.toNat_natCast, d_sign]
    by_cases h : a < 0
    · rw [if_pos h, if_pos (decide_eq_true h)]
    · rw [if_neg h, if_neg (by simpa using h)]
  have hd : dbl a 140 = if a < 0 then -(A : Int) else (A : Int) := by
    unfold dbl
    rw [← hA, Int.natCast_mul]
    by_cases h : a < 0
    · rw [if_pos h, ← Int.neg_mul, show -(a.natAbs : Int) = a by omega]
    · rw [if_neg h, show (a.natAbs : Int) = a by omega]
  refine ⟨_, _, _, _, _, _, _, _, _, _, _, hm, rfl, r1, r2, rfl, rfl, rfl, rfl, rfl, rfl, rfl, rfl, rfl, ?_⟩
  rw [hp, hq, hr, hd]
  generalize quW a.natAbs N = x at *
  by_cases h : a < 0
  · rw [decide_eq_true h, if_pos h]
    simp only [if_true]
    clear hm hd hp hq hr hA r1 r2 ha hN1 hN0
    refine ⟨by omega, by omega, ?_⟩
    by_cases ht : 2 * A = p + q ∨ 2 * A = q + r
    · exact .inr (d5 ht)
    · exact .inl (by omega)
  · rw [decide_eq_false h, if_neg h]
    simp only [Bool.false_eq_true, if_false]
    clear hm hd hp hq hr hA r1 r2 ha hN1 hN0
    refine ⟨by omega, by omega, ?_⟩
    by_cases ht : 2 * A = p + q ∨ 2 * A = q + r
    · exact .inr (d5 ht)
    · exact .inl (by omega)
end Wd
end Go.Proofs.YtdfmaicmbnjilaaDoor
