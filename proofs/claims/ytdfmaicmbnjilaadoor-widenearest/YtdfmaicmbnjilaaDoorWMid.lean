/-
  The mean's word lies nearest: as mathematics.
-/
import Derived.Test.YtdfmaicmbnjilaaDoorWQuo
namespace Go.Proofs.YtdfmaicmbnjilaaDoor
namespace Wd

theorem or_one (q : Nat) : q ||| 1 = 2 * (q / 2) + 1 := by
  have h := Nat.two_pow_add_eq_or_of_lt (i := 1) (b := q % 2) (by omega) (q / 2)
  have h2 := Nat.two_pow_add_eq_or_of_lt (i := 1) (b := 1) (by decide) (q / 2)
  rw [Nat.pow_one] at h h2
  have e : q = 2 * (q / 2) + q % 2 := by omega
  conv => lhs; rw [e, h, Nat.or_assoc]
  rw [h2]
  congr 1
  rcases Nat.mod_two_eq_zero_or_one q with k | k <;> rw [k] <;> rfl
theorem near_parts {M D H h u kp : Nat} (hD : 0 < D) (hH : 2 ≤ H) (hHe : H % 2 = 0) (hh : h = H * D) (hu : u = if M % D = 0 then M / D else M / D ||| 1)
    (hkp : kp = if H < u % (2 * H) ∨ (u % (2 * H) = H ∧ u / (2 * H) % 2 = 1) then u / (2 * H) + 1 else u / (2 * H)) :
    kp * (2 * h) ≤ M + h ∧ M ≤ kp * (2 * h) + h ∧ ((M + h = kp * (2 * h) ∨ M = kp * (2 * h) + h) → kp % 2 = 0) ∧ u / (2 * H) * (2 * h) ≤ M ∧ (kp = u / (2 * H) ∨ kp = u / (2 * H) + 1) := by
  have hM := Nat.div_add_mod M D
  have hr := Nat.mod_lt M hD
  have hu2 := Nat.div_add_mod u (2 * H)
  have hc := Nat.mod_lt u (show 0 < 2 * H by omega)
  generalize M / D = q at *
  generalize M % D = r at *
  generalize hk : u / (2 * H) = k at *
  generalize hcc : u % (2 * H) = c at *
  have e1 : u * D = k * (2 * h) + c * D := by
    rw [← hu2, Nat.add_mul, hh]
    congr 1
    rw [Nat.mul_comm (2 * H) k, Nat.mul_assoc, Nat.mul_assoc]
  have e2 : (k + 1) * (2 * h) = k * (2 * h) + 2 * h := by rw [Nat.add_mul, Nat.one_mul]
  have m1 : c + 1 ≤ H → c * D + D ≤ h := fun l => by rw [hh]; have := Nat.mul_le_mul_right D l; rwa [Nat.add_mul, Nat.one_mul] at this
  have m2 : H ≤ c → h ≤ c * D := fun l => by rw [hh]; exact Nat.mul_le_mul_right D l
  have m3 : H + 1 ≤ c → h + D ≤ c * D := fun l => by rw [hh]; have := Nat.mul_le_mul_right D l; rwa [Nat.add_mul, Nat.one_mul] at this
  have m4 : c * D + D ≤ 2 * h := by
    have := Nat.mul_le_mul_right D (show c + 1 ≤ 2 * H from hc)
    rw [Nat.add_mul, Nat.one_mul, Nat.mul_assoc, ← hh] at this
    exact this
  have m5 : c = H → c * D = h := fun l => by rw [hh, l]
  have hdh : D ≤ h := by rw [hh]; exact Nat.le_mul_of_pos_left D (by omega)
  by_cases r0 : r = 0
  · rw [if_pos r0] at hu
    subst hu
    have eM : M = k * (2 * h) + c * D := by rw [← e1, ← hM, r0, Nat.mul_comm]; rfl
    generalize c * D = y at *
    by_cases c1 : H < c
    · rw [if_pos (.inl c1)] at hkp
      subst hkp
      rw [e2]
      have := m3 c1
      generalize k * (2 * h) = z at *
      refine ⟨by omega, by omega, by omega, by omega, .inr rfl⟩
    · by_cases c2 : c = H
      · have y2 := m5 c2
        by_cases c3 : k % 2 = 1
        · rw [if_pos (.inr ⟨c2, c3⟩)] at hkp
          subst hkp
          rw [e2]
          generalize k * (2 * h) = z at *
          refine ⟨by omega, by omega, by omega, by omega, .inr rfl⟩
        · rw [if_neg (by omega)] at hkp
          subst hkp
          generalize kp * (2 * h) = z at *
          refine ⟨by omega, by omega, by omega, by omega, .inl rfl⟩
      · rw [if_neg (by omega)] at hkp
        subst hkp
        have := m1 (by omega)
        generalize kp * (2 * h) = z at *
        refine ⟨by omega, by omega, by omega, by omega, .inl rfl⟩
  · rw [if_neg r0, or_one] at hu
    have hodd : c % 2 = 1 := by
      have : u % 2 = 1 := by omega
      have e3 : 2 * H * k = 2 * (H * k) := Nat.mul_assoc 2 H k
      omega
    have q1 : q ≤ u := by omega
    have q2 : u ≤ q + 1 := by omega
    have p1 : u * D ≤ q * D + D := by have := Nat.mul_le_mul_right D q2; rwa [Nat.add_mul, Nat.one_mul] at this
    have p2 : q * D ≤ u * D := Nat.mul_le_mul_right D q1
    rw [Nat.mul_comm D q] at hM
    rw [e1] at p1 p2
    by_cases c1 : H < c
    · rw [if_pos (.inl c1)] at hkp
      subst hkp
      rw [e2]
      have := m3 c1
      generalize c * D = y at *
      generalize k * (2 * h) = z at *
      generalize q * D = t at *
      have hz : z ≤ M := by omega
      refine ⟨by omega, by omega, by omega, hz, .inr rfl⟩
    · rw [if_neg (by omega)] at hkp
      subst hkp
      have := m1 (by omega)
      have hc1 : D ≤ c * D := Nat.le_mul_of_pos_left D (by omega)
      generalize c * D = y at *
      generalize kp * (2 * h) = z at *
      generalize q * D = t at *
      refine ⟨by omega, by omega, by omega, by omega, .inl rfl⟩
/-- Twice what is divided is the number itself, shifted. -/
theorem mM_two {N : Nat} (h0 : 0 < N) (h1 : N ≤ 170141183460469231731687303715884105728) : 2 * mM N = N * 2 ^ lzN N := by
  obtain ⟨a, b, c⟩ := lz_shift h0 (by omega)
  unfold mM
  by_cases h : lzN N = 0
  · rw [h, Nat.pow_zero] at b ⊢
    omega
  · obtain ⟨k, hk⟩ : ∃ k, lzN N = k + 1 := ⟨lzN N - 1, by omega⟩
    rw [hk, Nat.pow_succ, ← Nat.mul_assoc]
    omega
/-- The word's unit: so many times the least. -/
def eN (N n : Nat) : Nat := pwN (wQ N n) + dN n + 141 - lzN N
theorem mid {N n T : Nat} (h0 : 0 < N) (h1 : N ≤ 170141183460469231731687303715884105728) (h2 : 0 < n) (h3 : n < 18446744073709551616) (hT : T = n * 2 ^ eN N n) :
    kpN (wQ N n) * (2 * T) ≤ N * 2 ^ 141 + T ∧ N * 2 ^ 141 ≤ kpN (wQ N n) * (2 * T) + T ∧ ((N * 2 ^ 141 + T = kpN (wQ N n) * (2 * T) ∨ N * 2 ^ 141 = kpN (wQ N n) * (2 * T) + T) → kpN (wQ N n) % 2 = 0) ∧ (kpN (wQ N n) = 4503599627370496 → kpN (wQ N n) * (2 * T) ≤ N * 2 ^ 141) := by
  have hN : N < 340282366920938463463374607431768211456 := by omega
  obtain ⟨u1, u2⟩ := wQ_in h0 hN h2 h3
  obtain ⟨d1, d2, d3⟩ := dD_in h2 h3
  obtain ⟨l1, -, -⟩ := lz_shift h0 hN
  have hM := mM_two h0 h1
  obtain ⟨p, hp⟩ : ∃ p, pwN (wQ N n) = p + 1 := by
    have := (kp_bounds u1 u2).2.2.1
    exact ⟨pwN (wQ N n) - 1, by omega⟩
  have hp9 : p = 9 ∨ p = 10 := by have := (kp_bounds u1 u2).2.2; omega
  have key := near_parts (M := mM N) (D := dD n) (H := 2 ^ p) (h := 2 ^ p * dD n) (u := wQ N n) (kp := kpN (wQ N n)) (by omega) (by rcases hp9 with rfl | rfl <;> decide) (by rcases hp9 with rfl | rfl <;> decide) rfl rfl (by
    unfold kpN
    rw [hp, Nat.add_sub_cancel, Nat.pow_succ, Nat.mul_comm (2 ^ p) 2])
  obtain ⟨k1, k2, k3, k4, k5⟩ := key
  have hk52 : kpN (wQ N n) = 4503599627370496 → kpN (wQ N n) = wQ N n / (2 * 2 ^ p) := by
    intro e
    rcases k5 with k5 | k5
    · exact k5
    · exfalso
      rcases len_two u1 u2 with ⟨hb, hl⟩ | ⟨hb, hl⟩
      · have : p = 9 := by have e2 : pwN (wQ N n) = 10 := by unfold pwN; rw [hb]
                           omega
        subst this
        rw [e] at k5
        rw [show 2 * 2 ^ 9 = 1024 by decide] at k5
        omega
      · have : p = 10 := by have e2 : pwN (wQ N n) = 11 := by unfold pwN; rw [hb]
                            omega
        subst this
        rw [e] at k5
        rw [show 2 * 2 ^ 10 = 2048 by decide] at k5
        omega
  have hX : 0 < 2 ^ (141 - lzN N) := Nat.two_pow_pos _
  have eN1 : N * 2 ^ 141 = 2 * mM N * 2 ^ (141 - lzN N) := by
    rw [hM, Nat.mul_assoc, ← Nat.pow_add, show lzN N + (141 - lzN N) = 141 by omega]
  have eT : T = 2 * (2 ^ p * dD n) * 2 ^ (141 - lzN N) := by
    rw [hT]
    unfold eN dD
    rw [hp, show p + 1 + dN n + 141 - lzN N = 1 + p + dN n + (141 - lzN N) by omega, Nat.pow_add, Nat.pow_add, Nat.pow_add, Nat.pow_one]
    generalize 2 ^ p = A
    generalize 2 ^ dN n = B
    generalize 2 ^ (141 - lzN N) = C
    rw [show n * (2 * A * B * C) = 2 * (A * (n * B)) * C from by simp only [Nat.mul_assoc, Nat.mul_comm, Nat.mul_left_comm]]
  rw [eN1, eT]
  generalize kpN (wQ N n) = kp at *
  generalize 2 ^ (141 - lzN N) = X at *
  generalize 2 ^ p * dD n = h at *
  generalize mM N = M at *
  have a1 : kp * (2 * (2 * h * X)) = kp * (2 * h) * (2 * X) := by simp only [Nat.mul_comm, Nat.mul_left_comm]
  have a2 : 2 * M * X = M * (2 * X) := by simp only [Nat.mul_comm, Nat.mul_left_comm]
  have a3 : 2 * h * X = h * (2 * X) := by simp only [Nat.mul_comm, Nat.mul_left_comm]
  rw [a1, a2, a3]
  have hX2 : 0 < 2 * X := by omega
  generalize 2 * X = Y at *
  refine ⟨?_, ?_, ?_, ?_⟩
  · rw [← Nat.add_mul]; exact Nat.mul_le_mul_right Y k1
  · rw [← Nat.add_mul]; exact Nat.mul_le_mul_right Y k2
  · rw [← Nat.add_mul, ← Nat.add_mul]
    rintro (e | e)
    · exact k3 (.inl (Nat.eq_of_mul_eq_mul_right hX2 e))
    · exact k3 (.inr (Nat.eq_of_mul_eq_mul_right hX2 e))
  · intro e
    have := hk52 e
    rw [← this] at k4
    exact Nat.mul_le_mul_right Y k4
/-- A word's value, so many times 2 to the power -140. -/
def vW (x : Nat) : Nat := (4503599627370496 + x % 4503599627370496) * 2 ^ (x / 4503599627370496 - 935)
theorem vW_step {x : Nat} (h : 4210865651591413760 ≤ x) : vW x < vW (x + 1) := by
  unfold vW
  have hq : 935 ≤ x / 4503599627370496 := by omega
  by_cases h3 : x % 4503599627370496 + 1 < 4503599627370496
  · rw [show (x + 1) % 4503599627370496 = x % 4503599627370496 + 1 by omega, show (x + 1) / 4503599627370496 = x / 4503599627370496 by omega]
    exact Nat.mul_lt_mul_of_pos_right (by omega) (Nat.two_pow_pos _)
  · rw [show (x + 1) % 4503599627370496 = 0 by omega, show (x + 1) / 4503599627370496 - 935 = x / 4503599627370496 - 935 + 1 by omega, Nat.pow_succ]
    have := Nat.two_pow_pos (x / 4503599627370496 - 935)
    have h4 : (4503599627370496 + x % 4503599627370496) * 2 ^ (x / 4503599627370496 - 935) < 9007199254740992 * 2 ^ (x / 4503599627370496 - 935) := Nat.mul_lt_mul_of_pos_right (by omega) this
    generalize 2 ^ (x / 4503599627370496 - 935) = p at *
    omega
theorem vW_add {x : Nat} (h : 4210865651591413760 ≤ x) : ∀ k, vW x < vW (x + k + 1)
  | 0 => vW_step h
  | k + 1 => Nat.lt_trans (vW_add h k) (vW_step (by omega))
theorem vW_lt {x y : Nat} (h : 4210865651591413760 ≤ x) (hxy : x < y) : vW x < vW y := by
  have := vW_add h (y - x - 1)
  rwa [show x + (y - x - 1) + 1 = y by omega] at this
theorem vW_le {x y : Nat} (h : 4210865651591413760 ≤ x) (hxy : x ≤ y) : vW x ≤ vW y := by
  rcases Nat.lt_or_eq_of_le hxy with k | k
  · exact Nat.le_of_lt (vW_lt h k)
  · rw [k]; exact Nat.le_refl _
theorem quW_eN {N n : Nat} (h0 : 0 < N) (h1 : N ≤ 170141183460469231731687303715884105728) (h2 : 0 < n) (h3 : n < 18446744073709551616) : quW N n = (934 + eN N n) * 4503599627370496 + kpN (wQ N n) ∧ 1 ≤ eN N n := by
  have hN : N < 340282366920938463463374607431768211456 := by omega
  obtain ⟨a, -, -, -, -⟩ := quW_in h0 hN h2 h3
  obtain ⟨u1, u2⟩ := wQ_in h0 hN h2 h3
  obtain ⟨-, -, p1, p2⟩ := kp_bounds u1 u2
  obtain ⟨d1, -, -⟩ := dD_in h2 h3
  obtain ⟨l1, -, -⟩ := lz_shift h0 hN
  unfold eQ at a
  unfold eN
  omega
/-- The word's own value, and those of its neighbours. -/
theorem vals_of {E kp W : Nat} (hE : 1 ≤ E) (k1 : 4503599627370496 ≤ kp) (k2 : kp ≤ 9007199254740992) (hW : W = (934 + E) * 4503599627370496 + kp) :
    vW W = kp * 2 ^ E ∧ (kp + 1) * 2 ^ E ≤ vW (W + 1) ∧ (4503599627370496 < kp → vW (W - 1) + 2 ^ E = kp * 2 ^ E) ∧ vW (W - 1) ≤ kp * 2 ^ E := by
  have hp := Nat.two_pow_pos E
  have c1 : vW W = kp * 2 ^ E := by
    unfold vW
    by_cases h : kp = 9007199254740992
    · rw [show W % 4503599627370496 = 0 by omega, show W / 4503599627370496 - 935 = E + 1 by omega, h, Nat.pow_succ]
      omega
    · rw [show W % 4503599627370496 = kp - 4503599627370496 by omega, show W / 4503599627370496 - 935 = E by omega, show 4503599627370496 + (kp - 4503599627370496) = kp by omega]
  refine ⟨c1, ?_, ?_, ?_⟩
  · unfold vW
    by_cases h : kp = 9007199254740992
    · rw [show (W + 1) % 4503599627370496 = 1 by omega, show (W + 1) / 4503599627370496 - 935 = E + 1 by omega, h, Nat.pow_succ]
      omega
    · by_cases h' : kp + 1 = 9007199254740992
      · rw [show (W + 1) % 4503599627370496 = 0 by omega, show (W + 1) / 4503599627370496 - 935 = E + 1 by omega, h', Nat.pow_succ]
        omega
      · rw [show (W + 1) % 4503599627370496 = kp + 1 - 4503599627370496 by omega, show (W + 1) / 4503599627370496 - 935 = E by omega, show 4503599627370496 + (kp + 1 - 4503599627370496) = kp + 1 by omega]
        exact Nat.le_refl _
  · intro h
    unfold vW
    rw [show (W - 1) % 4503599627370496 = kp - 1 - 4503599627370496 by omega, show (W - 1) / 4503599627370496 - 935 = E by omega, show 4503599627370496 + (kp - 1 - 4503599627370496) = kp - 1 by omega, Nat.sub_mul, Nat.one_mul]
    have : 1 * 2 ^ E ≤ kp * 2 ^ E := Nat.mul_le_mul_right _ (by omega)
    omega
  · rw [← c1]
    exact vW_le (by omega) (by omega)
/-- What lies above and below the quotient. -/
theorem between {N n : Nat} (h0 : 0 < N) (h1 : N ≤ 170141183460469231731687303715884105728) (h2 : 0 < n) (h3 : n < 18446744073709551616) :
    (vW (quW N n - 1) + vW (quW N n)) * n ≤ N * 2 ^ 141 ∧ N * 2 ^ 141 ≤ (vW (quW N n) + vW (quW N n + 1)) * n ∧ 4210865651591413760 < quW N n := by
  obtain ⟨e1, e2⟩ := quW_eN h0 h1 h2 h3
  obtain ⟨u1, u2⟩ := wQ_in h0 (show N < 340282366920938463463374607431768211456 by omega) h2 h3
  obtain ⟨k1, k2, -, -⟩ := kp_bounds u1 u2
  obtain ⟨v1, v2, v3, v4⟩ := vals_of e2 k1 k2 e1
  obtain ⟨m1, m2, -, m4⟩ := mid (T := n * 2 ^ eN N n) h0 h1 h2 h3 rfl
  have hb : 4210865651591413760 < quW N n := by omega
  generalize quW N n = W at *
  generalize kpN (wQ N n) = kp at *
  rw [v1] at *
  generalize 2 ^ eN N n = P at *
  have s1 : kp * (2 * (n * P)) = (kp * P + kp * P) * n := by rw [Nat.add_mul, show 2 * (n * P) = n * P + n * P by omega, Nat.mul_add]; simp only [Nat.mul_comm, Nat.mul_left_comm]
  have s2 : n * P = P * n := Nat.mul_comm n P
  rw [s1, s2] at m1 m2
  rw [s1] at m4
  refine ⟨?_, ?_, hb⟩
  · by_cases h : 4503599627370496 < kp
    · have e := v3 h
      have e5 : (kp * P + kp * P) * n = (vW (W - 1) + kp * P) * n + P * n := by rw [show kp * P + kp * P = vW (W - 1) + kp * P + P by omega, Nat.add_mul _ P n]
      rw [e5] at m1
      omega
    · exact Nat.le_trans (Nat.mul_le_mul_right n (Nat.add_le_add_right v4 _)) (m4 (by omega))
  · have e6 : (kp * P + (kp + 1) * P) * n = (kp * P + kp * P) * n + P * n := by rw [show kp * P + (kp + 1) * P = kp * P + kp * P + P by rw [Nat.add_mul kp 1 P, Nat.one_mul, Nat.add_assoc], Nat.add_mul _ P n]
    exact Nat.le_trans (by rw [← e6] at m2; exact m2) (Nat.mul_le_mul_right n (Nat.add_le_add_left v2 _))
/-- Means go up. -/
theorem qu_mono {N N' n : Nat} (h0 : 0 < N) (hN : N ≤ N') (h1 : N' ≤ 170141183460469231731687303715884105728) (h2 : 0 < n) (h3 : n < 18446744073709551616) : quW N n ≤ quW N' n := by
  apply Nat.le_of_not_lt
  intro hlt
  obtain ⟨a1, -, a3⟩ := between h0 (by omega) h2 h3
  obtain ⟨-, b2, b3⟩ := between (N := N') (by omega) h1 h2 h3
  have hv : (vW (quW N' n) + vW (quW N' n + 1)) * n ≤ (vW (quW N n - 1) + vW (quW N n)) * n := Nat.mul_le_mul_right n (Nat.add_le_add (vW_le (by omega) (by omega)) (vW_le (by omega) (by omega)))
  have hc : N' * 2 ^ 141 ≤ N * 2 ^ 141 := Nat.le_trans b2 (Nat.le_trans hv a1)
  have hle : N' ≤ N := Nat.le_of_mul_le_mul_right hc (Nat.two_pow_pos 141)
  obtain rfl : N = N' := by omega
  exact absurd hlt (Nat.lt_irrefl _)
end Wd
end Go.Proofs.YtdfmaicmbnjilaaDoor
