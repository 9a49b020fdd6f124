/-
  The mean of a number's multiple is that number; the mean turned.
-/
import Derived.Test.YtdfmaicmbnjilaaDoorWMid2
import Derived.Test.YtdfmaicmbnjilaaDoorWNear
namespace Go.Proofs.YtdfmaicmbnjilaaDoor
namespace Wd
open Ieee Vl

theorem whole_uv {i n : Nat} (h0 : 0 < i) (h1 : i < 9007199254740992) (h2 : 0 < n) (h3 : n < 9223372036854775808) {k : Nat} (hk : k = 1074) : uv (quW (i * n) n) = i * 2 ^ k := by
  have hN0 : 0 < i * n := Nat.mul_pos h0 h2
  have hN1 : i * n ≤ 170141183460469231731687303715884105728 := Nat.le_trans (Nat.mul_le_mul (Nat.le_of_lt h1) (Nat.le_of_lt h3)) (by decide)
  obtain ⟨e1, e2⟩ := quW_eN hN0 hN1 h2 (by omega)
  obtain ⟨u1, u2⟩ := wQ_in hN0 (show i * n < 340282366920938463463374607431768211456 by omega) h2 (by omega)
  obtain ⟨k1, k2, -, -⟩ := kp_bounds u1 u2
  obtain ⟨m1, m2, -, m4⟩ := mid (T := n * 2 ^ eN (i * n) n) hN0 hN1 h2 (by omega) rfl
  generalize quW (i * n) n = W at *
  generalize kpN (wQ (i * n) n) = kp at *
  generalize eN (i * n) n = E at *
  have s1 : kp * (2 * (n * 2 ^ E)) = n * (kp * (2 * 2 ^ E)) := by
    generalize 2 ^ E = P
    rw [Nat.mul_left_comm 2 n P, Nat.mul_left_comm kp n]
  obtain ⟨Q, hQ⟩ : ∃ Q, 2 ^ 141 = Q := ⟨_, rfl⟩
  rw [hQ] at m1 m2 m4
  have s2 : i * n * Q = n * (i * Q) := by simp only [Nat.mul_comm, Nat.mul_left_comm]
  rw [s1, s2, ← Nat.mul_add] at m1 m2
  rw [s1, s2] at m4
  replace m1 := Nat.le_of_mul_le_mul_left m1 h2
  replace m2 := Nat.le_of_mul_le_mul_left m2 h2
  have m4' : kp = 4503599627370496 → kp * (2 * 2 ^ E) ≤ i * Q := fun h => Nat.le_of_mul_le_mul_left (m4 h) h2
  clear m4 s1 s2 hN0 hN1 u1 u2
  have hE : E ≤ 140 := by
    apply Nat.le_of_not_lt
    intro hlt
    obtain ⟨R, hR⟩ : ∃ R, 2 ^ (E - 141) = R := ⟨_, rfl⟩
    have hR0 : 0 < R := by rw [← hR]; exact Nat.two_pow_pos _
    have hP : 2 ^ E = Q * R := by rw [← hQ, ← hR, ← Nat.pow_add, show 141 + (E - 141) = E by omega]
    have hQ0 : 0 < Q := by rw [← hQ]; exact Nat.two_pow_pos _
    rw [hP] at m1 m4'
    have t1 : kp * (2 * (Q * R)) = Q * (kp * (2 * R)) := by rw [Nat.mul_left_comm 2 Q R, Nat.mul_left_comm kp Q]
    have t2 : i * Q = Q * i := Nat.mul_comm _ _
    rw [t1, t2, ← Nat.mul_add] at m1
    rw [t1, t2] at m4'
    replace m1 := Nat.le_of_mul_le_mul_left m1 hQ0
    have t3 : 4503599627370496 * (2 * R) ≤ kp * (2 * R) := Nat.mul_le_mul_right _ k1
    have hR1 : R = 1 := by omega
    subst hR1
    have hkp : kp = 4503599627370496 := by omega
    have m5 := Nat.le_of_mul_le_mul_left (m4' hkp) hQ0
    omega
  obtain ⟨S, hS⟩ : ∃ S, 2 ^ (140 - E) = S := ⟨_, rfl⟩
  obtain ⟨P, hP⟩ : ∃ P, 2 ^ E = P := ⟨_, rfl⟩
  have hP0 : 0 < P := by rw [← hP]; exact Nat.two_pow_pos _
  have hQ2 : Q = 2 * S * P := by rw [← hQ, ← hS, ← hP, Nat.mul_assoc, ← Nat.pow_add, show 140 - E + E = 140 by omega, ← Nat.pow_succ']
  rw [hP, hQ2] at m1 m2
  have t1 : kp * (2 * P) = P * (kp * 2) := by simp only [Nat.mul_comm, Nat.mul_left_comm]
  have t2 : i * (2 * S * P) = P * (i * S * 2) := by rw [← Nat.mul_assoc, Nat.mul_comm _ P, Nat.mul_comm 2 S, Nat.mul_assoc i S 2]
  have t3 : ∀ x, P * x + P = P * (x + 1) := fun x => by rw [Nat.mul_add, Nat.mul_one]
  rw [t1, t2, t3] at m1 m2
  replace m1 := Nat.le_of_mul_le_mul_left m1 hP0
  replace m2 := Nat.le_of_mul_le_mul_left m2 hP0
  have hkp : kp = i * S := by omega
  have hu : uv W = kp * 2 ^ (934 + E) := by
    unfold uv
    rw [if_neg (by omega)]
    by_cases h : kp = 9007199254740992
    · rw [show W % 4503599627370496 = 0 by omega, show W / 4503599627370496 - 1 = 934 + E + 1 by omega, h, Nat.pow_succ]
      omega
    · rw [show W % 4503599627370496 = kp - 4503599627370496 by omega, show W / 4503599627370496 - 1 = 934 + E by omega, show 4503599627370496 + (kp - 4503599627370496) = kp by omega]
  rw [hu, hkp, ← hS, Nat.mul_assoc, ← Nat.pow_add, show 140 - E + (934 + E) = k by omega]
theorem prod_is {i n : Int} (h1 : -9007199254740992 < i) (h2 : i < 9007199254740992) (hn : 1 ≤ n) (hI : I64 n) : Is (i * n) := by
  unfold I64 at hI
  have h : (i * n).natAbs ≤ 9007199254740992 * 9223372036854775808 := by
    rw [Int.natAbs_mul]
    exact Nat.mul_le_mul (by omega) (by omega)
  unfold Is
  omega
theorem mean_whole {i n : Int} (h1 : -9007199254740992 < i) (h2 : i < 9007199254740992) (hn : 1 ≤ n) (hI : I64 n) {k : Nat} (hk : k = 1074) : sv (meanW (i * n) n) = i * ((2 ^ k : Nat) : Int) := by
  rw [(mean_sv (prod_is h1 h2 hn hI) hn hI).2, Int.natAbs_mul, show n.natAbs = n.toNat from by unfold I64 at hI; omega]
  by_cases h0 : i = 0
  · subst h0
    rw [Int.zero_mul, Int.zero_mul, if_pos rfl]
  · have hne : i * n ≠ 0 := Int.mul_ne_zero h0 (by omega)
    have hI' := hI
    unfold I64 at hI'
    rw [if_neg hne, whole_uv (i := i.natAbs) (n := n.toNat) (by omega) (by omega) (by omega) (by omega) hk, Int.natCast_mul]
    by_cases hs : i < 0
    · rw [if_pos (Int.mul_neg_of_neg_of_pos hs (by omega)), ← Int.neg_mul, show -(i.natAbs : Int) = i by omega]
    · rw [if_neg (by have := Int.mul_nonneg (show 0 ≤ i by omega) (show 0 ≤ n by omega); omega), show (i.natAbs : Int) = i by omega]
/-- 0 less a mean is the mean of the total turned. -/
theorem mean_sub {a n : Int} (ha : Is a) (ha' : Is (0 - a)) (hn : 1 ≤ n) (hI : I64 n) : Ieee.double.sub 0 (meanW a n) = some (meanW (0 - a) n) := by
  unfold meanW
  have hn' : ¬ n < 1 := by omega
  simp only [if_neg hn']
  unfold Is at ha ha'
  unfold I64 at hI
  by_cases h0 : a = 0
  · subst h0
    rw [if_pos rfl, if_pos (by omega)]
    rfl
  · obtain ⟨-, q1, q2, -, -⟩ := quW_in (N := a.natAbs) (n := n.toNat) (by omega) (by omega) (by omega) (by omega)
    rw [if_neg h0, if_neg (show ¬ 0 - a = 0 by omega), show (0 - a).natAbs = a.natAbs by omega]
    by_cases h1 : a < 0
    · rw [if_pos h1, if_neg (by omega)]
      exact sub_word q1 q2 true
    · rw [if_neg h1, if_pos (by omega)]
      exact sub_word q1 q2 false
theorem hi_least : hi (0 - -170141183460469231731687303715884105728) = -9223372036854775808 := by decide +kernel
theorem lo_least : lo (0 - -170141183460469231731687303715884105728) = 0 := by decide +kernel
end Wd
end Go.Proofs.YtdfmaicmbnjilaaDoor
