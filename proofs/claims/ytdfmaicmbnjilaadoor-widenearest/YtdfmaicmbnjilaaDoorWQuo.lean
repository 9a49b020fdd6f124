/-
  Package wide: quotient, Mean.
-/
import Derived.Test.YtdfmaicmbnjilaaDoorWRound
import Derived.Test.YtdfmaicmbnjilaaDoorWLdexp
namespace Go.Proofs.YtdfmaicmbnjilaaDoor
open Go.RowKit Wd

/-- The two numbers that are divided; what is rounded; the power; the word. -/
def mM (N : Nat) : Nat := N * 2 ^ lzN N / 2
def dN (n : Nat) : Nat := 64 - Lib.bitLen n
def dD (n : Nat) : Nat := n * 2 ^ dN n
def wQ (N n : Nat) : Nat := if mM N % dD n = 0 then mM N / dD n else mM N / dD n ||| 1
def eQ (N n : Nat) : Int := (pwN (wQ N n) : Int) + dN n - ((lzN N : Int) - 1)
def quW (N n : Nat) : Nat := (4836865999795912704 + (kpN (wQ N n) : Int) + eQ N n * 4503599627370496).toNat
theorem lz_shift {N : Nat} (h0 : 0 < N) (h1 : N < 340282366920938463463374607431768211456) : lzN N ≤ 127 ∧ 170141183460469231731687303715884105728 ≤ N * 2 ^ lzN N ∧ N * 2 ^ lzN N < 340282366920938463463374607431768211456 := by
  unfold lzN
  by_cases c : N / 18446744073709551616 = 0
  · rw [if_pos c]
    have hN : N < 18446744073709551616 := by omega
    obtain ⟨a, b, d⟩ := lz_bounds h0 hN
    have z := (bl_bounds 64 N (Nat.le_refl _) h0 (by simpa using hN)).1
    rw [show 128 - Lib.bitLen N = 64 + (64 - Lib.bitLen N) by omega, Nat.pow_add, Nat.mul_comm (2 ^ 64), ← Nat.mul_assoc, show (2 : Nat) ^ 64 = 18446744073709551616 by decide]
    generalize N * 2 ^ (64 - Lib.bitLen N) = x at *
    omega
  · rw [if_neg c]
    have hH : N / 18446744073709551616 < 18446744073709551616 := by omega
    obtain ⟨a, b, d⟩ := lz_bounds (show 0 < N / 18446744073709551616 by omega) hH
    have z := (bl_bounds 64 (N / 18446744073709551616) (Nat.le_refl _) (by omega) (by simpa using hH)).1
    have hz : 64 - Lib.bitLen (N / 18446744073709551616) ≤ 63 := by omega
    obtain ⟨_, u, v, _, _, _, e, _, hu, hv⟩ := lift_lets (X := N / 18446744073709551616) (Z := N % 18446744073709551616) (Nat.mod_lt _ (by decide)) hz d
    have hN : N / 18446744073709551616 * 18446744073709551616 + N % 18446744073709551616 = N := by omega
    rw [hN] at e
    refine ⟨by omega, ?_, by rw [e]; omega⟩
    have := Nat.mul_le_mul_right (2 ^ (64 - Lib.bitLen (N / 18446744073709551616))) (show N / 18446744073709551616 * 18446744073709551616 ≤ N by omega)
    rw [Nat.mul_right_comm] at this
    generalize N / 18446744073709551616 * 2 ^ (64 - Lib.bitLen (N / 18446744073709551616)) = x at *
    generalize N * 2 ^ (64 - Lib.bitLen (N / 18446744073709551616)) = y at *
    omega
theorem mM_in {N : Nat} (h0 : 0 < N) (h1 : N < 340282366920938463463374607431768211456) : 85070591730234615865843651857942052864 ≤ mM N ∧ mM N < 170141183460469231731687303715884105728 := by
  obtain ⟨_, a, b⟩ := lz_shift h0 h1
  unfold mM
  omega
theorem dD_in {n : Nat} (h0 : 0 < n) (h1 : n < 18446744073709551616) : dN n ≤ 63 ∧ 9223372036854775808 ≤ dD n ∧ dD n < 18446744073709551616 := by
  obtain ⟨a, b, c⟩ := lz_bounds h0 h1
  have z := (bl_bounds 64 n (Nat.le_refl _) h0 (by simpa using h1)).1
  unfold dD dN
  exact ⟨by omega, b, c⟩
theorem qt_in {N n : Nat} (h0 : 0 < N) (h1 : N < 340282366920938463463374607431768211456) (h2 : 0 < n) (h3 : n < 18446744073709551616) : 4611686018427387904 ≤ mM N / dD n ∧ mM N / dD n < 18446744073709551616 := by
  obtain ⟨a, b⟩ := mM_in h0 h1
  obtain ⟨_, c, d⟩ := dD_in h2 h3
  constructor
  · rw [Nat.le_div_iff_mul_le (by omega)]; omega
  · rw [Nat.div_lt_iff_lt_mul (by omega)]; omega
theorem wQ_in {N n : Nat} (h0 : 0 < N) (h1 : N < 340282366920938463463374607431768211456) (h2 : 0 < n) (h3 : n < 18446744073709551616) : 4611686018427387904 ≤ wQ N n ∧ wQ N n < 18446744073709551616 := by
  obtain ⟨a, b⟩ := qt_in h0 h1 h2 h3
  unfold wQ
  split
  · exact ⟨a, b⟩
  · exact ⟨Nat.le_trans a Nat.left_le_or, Nat.or_lt_two_pow (n := 64) b (by decide)⟩
theorem quW_in {N n : Nat} (h0 : 0 < N) (h1 : N < 340282366920938463463374607431768211456) (h2 : 0 < n) (h3 : n < 18446744073709551616) : (quW N n : Int) = 4836865999795912704 + (kpN (wQ N n) : Int) + eQ N n * 4503599627370496 ∧ 4503599627370496 ≤ quW N n ∧ quW N n < 9218868437227405312 ∧ -4000 ≤ eQ N n ∧ eQ N n ≤ 4000 := by
  obtain ⟨a, b⟩ := wQ_in h0 h1 h2 h3
  obtain ⟨c, d, e, f⟩ := kp_bounds a b
  obtain ⟨g, _⟩ := dD_in h2 h3
  obtain ⟨l, _⟩ := lz_shift h0 h1
  unfold quW
  have h : -126 ≤ eQ N n ∧ eQ N n ≤ 80 := by unfold eQ; omega
  omega
set_option maxRecDepth 8000 in
set_option maxHeartbeats 1600000 in
theorem quotient_any (H L n : Nat) (hH : H < 18446744073709551616) (hL : L < 18446744073709551616) (h0 : 0 < H * 18446744073709551616 + L) (h2 : 0 < n) (h3 : n < 18446744073709551616) (w : World) :
    Calls Tryd.prog 24 #[.int .u64 (H : Int), .int .u64 (L : Int), .int .u64 (n : Int)] w fun e w' => e = .returned (.float .f64 (quW (H * 18446744073709551616 + L) n)) ∧ Below w.heap.size w w' := by
  have h1 : H * 18446744073709551616 + L < 340282366920938463463374607431768211456 := by omega
  have CL := hid (lifted_any H L hH hL h0 _ _ rfl rfl)
  obtain ⟨N, hN⟩ : ∃ N, N = H * 18446744073709551616 + L := ⟨_, rfl⟩
  rw [← hN] at CL h0 h1 ⊢
  rw [show N * 2 ^ lzN N / 2 = mM N from rfl] at CL
  clear hN
  obtain ⟨m1, m2⟩ := mM_in h0 h1
  obtain ⟨d1, d2, d3⟩ := dD_in h2 h3
  obtain ⟨w1, w2⟩ := wQ_in h0 h1 h2 h3
  obtain ⟨q1, q2⟩ := qt_in h0 h1 h2 h3
  obtain ⟨k1, k2, k3, k4⟩ := kp_bounds w1 w2
  obtain ⟨u1, u2, u3, u4, u5⟩ := quW_in h0 h1 h2 h3
  obtain ⟨l1, _⟩ := lz_shift h0 h1
  have CZ := hid (lz_any n h3)
  have zz := (bl_bounds 64 n (Nat.le_refl _) h2 (by simpa using h3)).1
  have zl := Lib.bitLen_le n 64 (Nat.le_refl _) (by simpa using h3)
  rw [show 64 - (Lib.bitLen n : Int) = (dN n : Int) by unfold dN; omega] at CZ
  have FD : IntKind.u64.wrap ((n : Int) * 2 ^ dN n) = (dD n : Int) := by
    rw [← wrapN d3]; unfold dD; rw [Int.natCast_mul, Int.natCast_pow]; rfl
  have CD := hid (div_big (mM N / 18446744073709551616) (mM N % 18446744073709551616) (dD n) (by omega) (Nat.mod_lt _ (by decide)) (by omega) d3 (mM N / dD n) (mM N % dD n) (by rw [show mM N / 18446744073709551616 * 18446744073709551616 + mM N % 18446744073709551616 = mM N by omega]) (by rw [show mM N / 18446744073709551616 * 18446744073709551616 + mM N % 18446744073709551616 = mM N by omega]))
  have CR := hid (rounded_any (wQ N n) w1 w2)
  have hfl := float_of k1 k2
  have CE := hid (ldexp_any (4836865999795912704 + kpN (wQ N n)) (quW N n) (eQ N n) · (by omega) (by omega) u4 u5 (by rw [u1]; omega) u2 u3)
  have hor : bits BinOp.or IntKind.u64 ((mM N / dD n : Nat) : Int) 1 = ((mM N / dD n ||| 1 : Nat) : Int) := by
    rw [show (1 : Int) = ((1 : Nat) : Int) from rfl, u64_or_nat _ _ q2 (by decide)]
  have he : (pwN (wQ N n) : Int) + (dN n : Int) - ((lzN N : Int) - 1) = eQ N n := rfl
  have hwq : wQ N n = if mM N % dD n = 0 then mM N / dD n else mM N / dD n ||| 1 := rfl
  clear m1 m2 d2 d3 w1 w2 q1 k1 k2 u1 u2 u3 zz zl h1 h0 hH hL
  generalize (mM N / 18446744073709551616 : Nat) = hh at *
  generalize (mM N % 18446744073709551616 : Nat) = ll at *
  obtain ⟨up, hup⟩ : ∃ up, (lzN N : Int) - 1 = up := ⟨_, rfl⟩
  rw [hup] at CL he
  have hupb : -1 ≤ up ∧ up ≤ 126 := by omega
  obtain ⟨hupb1, hupb2⟩ := hupb
  clear hup l1
  generalize eQ N n = ee at *
  generalize quW N n = rr at *
  generalize dD n = DD at *
  generalize dN n = dd at *
  generalize mM N / DD = qq at *
  obtain ⟨rm, hrm⟩ : ∃ rm, rm = mM N % DD := ⟨_, rfl⟩
  rw [← hrm] at CD hwq
  clear hrm
  by_cases c : rm = 0
  · subst c
    rw [if_pos rfl] at hwq
    rw [hwq] at CR hfl CE he k3 k4
    rw [show ((0 : Nat) : Int) = 0 from rfl] at CD
    clear hwq hor
    generalize kpN qq = kk at *
    generalize pwN qq = pp at *
    go_enter Tryd.func24, Tryd.ntmps24
    go_wp2_with fail
    refine (CL.out _).mono ?_
    rintro e w5 ⟨rfl, b5⟩
    go_wp2_with fail
    refine (CZ.out _).mono ?_
    rintro e w9 ⟨rfl, hw9⟩
    subst w9
    go_wp2_with fail
    refine (CD.out _).mono ?_
    rintro e w9 ⟨rfl, hw9⟩
    subst w9
    go_wp2_with fail
    refine (CR.out _).mono ?_
    rintro e w9 ⟨rfl, hw9⟩
    subst w9
    go_wp2_with fail
    refine (CE.out _).mono ?_
    rintro e w9 ⟨rfl, hw9⟩
    subst w9
    go_wp2_with fail
    go_ret
    exact ⟨rfl, b5⟩
  · have c' : ¬ (rm : Int) = 0 := by omega
    rw [if_neg c] at hwq
    rw [hwq] at CR hfl CE he k3 k4
    clear hwq
    generalize qq ||| 1 = qo at *
    generalize kpN qo = kk at *
    generalize pwN qo = pp at *
    go_enter Tryd.func24, Tryd.ntmps24
    go_wp2_with fail
    refine (CL.out _).mono ?_
    rintro e w5 ⟨rfl, b5⟩
    go_wp2_with fail
    refine (CZ.out _).mono ?_
    rintro e w9 ⟨rfl, hw9⟩
    subst w9
    go_wp2_with fail
    refine (CD.out _).mono ?_
    rintro e w9 ⟨rfl, hw9⟩
    subst w9
    go_wp2_with fail
    refine (CR.out _).mono ?_
    rintro e w9 ⟨rfl, hw9⟩
    subst w9
    go_wp2_with fail
    refine (CE.out _).mono ?_
    rintro e w9 ⟨rfl, hw9⟩
    subst w9
    go_wp2_with fail
    go_ret
    exact ⟨rfl, b5⟩
end Go.Proofs.YtdfmaicmbnjilaaDoor
