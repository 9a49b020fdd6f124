/-
  How far a float times n lies from a total. (Written by mkfar.py.)
-/
import Derived.Test.YtdfmaicmbnjilaaDoorWPar
import Derived.Test.YtdfmaicmbnjilaaDoorWMid2
import Derived.Test.YtdfmaicmbnjilaaDoorWRef14
import Derived.Deep.Cut
namespace Go.Proofs.YtdfmaicmbnjilaaDoor
open Go.RowKit Wd

theorem mul_lim {m : Nat} (h : m ≤ 83076749736557242056487941267521536) : m * 18446744073709551616 < top24 :=
  Nat.lt_of_le_of_lt (show m * 18446744073709551616 ≤ 83076749736557242056487941267521536 * 18446744073709551616 by omega) (show _ < 65536 ^ 24 by decide +kernel)
theorem cTimes' (x : Int) (s : Bool) (hs : decide (x < 0) = s) (n : Nat) (z : Int) (u : Bool) (hz : x * (n : Int) = z) (hu : decide (z < 0) = u) (hn : n < 18446744073709551616) (hl : x.natAbs * 18446744073709551616 < top24) (ga : Nat) (w : World) (hA : NmB w ga x) : Calls Tryd.prog 30 #[.agg #[.slice (some ⟨ga, 0, none⟩) 24 24, .bool s], .int .u64 (n : Int)] w fun e w' => ∃ g, e = .returned (.agg #[.slice (some ⟨g, 0, none⟩) 24 24, .bool u]) ∧ w.heap.size ≤ g ∧ NmB w' g z ∧ Below w.heap.size w w' := by
  subst hz hu; exact rTimes x s hs n hn hl ga w hA
/-- A number doubled so many times: as far as 2 to the power 332. -/
theorem dbl_lim {p k : Nat} (h1 : p ≤ 83076749736557242056487941267521536) (hk : k ≤ 216) : p * 2 ^ k + p * 2 ^ k < top24 := by
  have h2 : p * 2 ^ k ≤ 83076749736557242056487941267521536 * 2 ^ 216 := Nat.mul_le_mul h1 (Nat.pow_le_pow_right (by decide) hk)
  exact Nat.lt_of_le_of_lt (Nat.add_le_add h2 h2) (show _ < 65536 ^ 24 by decide +kernel)
theorem sum_lim {p q k : Nat} (h1 : p ≤ 83076749736557242056487941267521536) (hk : k ≤ 216) (h2 : q ≤ 170141183460469231731687303715884105728) : p * 2 ^ k + q * 2 ^ 140 < top24 := by
  have h3 : p * 2 ^ k ≤ 83076749736557242056487941267521536 * 2 ^ 216 := Nat.mul_le_mul h1 (Nat.pow_le_pow_right (by decide) hk)
  have h4 : q * 2 ^ 140 ≤ 170141183460469231731687303715884105728 * 2 ^ 140 := Nat.mul_le_mul_right _ h2
  exact Nat.lt_of_le_of_lt (Nat.add_le_add h3 h4) (show _ < 65536 ^ 24 by decide +kernel)
theorem dbl_lim' {p k : Nat} (h1 : p ≤ 170141183460469231731687303715884105728) (hk : k ≤ 140) : p * 2 ^ k + p * 2 ^ k < top24 := by
  have h2 : p * 2 ^ k ≤ 170141183460469231731687303715884105728 * 2 ^ 140 := Nat.mul_le_mul h1 (Nat.pow_le_pow_right (by decide) hk)
  exact Nat.lt_of_le_of_lt (Nat.add_le_add h2 h2) (show _ < 65536 ^ 24 by decide +kernel)
/-- A number, doubled k times. -/
def dbl (x : Int) (k : Nat) : Int := x * ((2 ^ k : Nat) : Int)
theorem dbl_zero (x : Int) : dbl x 0 = x := by unfold dbl; rw [Nat.pow_zero]; exact Int.mul_one x
theorem dbl_next (x : Int) (k : Nat) : dbl x k + dbl x k = dbl x (k + 1) := by
  unfold dbl
  rw [Nat.pow_succ, Int.natCast_mul, ← Int.mul_assoc]
  omega
theorem dbl_abs (x : Int) (k : Nat) : (dbl x k).natAbs = x.natAbs * 2 ^ k := by unfold dbl; rw [Int.natAbs_mul, Int.natAbs_natCast]
theorem dbl_sgn (x : Int) (k : Nat) : decide (dbl x k < 0) = decide (x < 0) := sgn_pow x k
/-- A number's variable and its digits. -/
def Vn (w : World) (b : Nat) (x : Int) (s : Bool) : Prop := ∃ g, Bn w b (.slice (some ⟨g, 0, none⟩) 24 24) s ∧ NmB w g x
theorem Vn.lt {w : World} {b : Nat} {x : Int} {s : Bool} (h : Vn w b x s) : b < w.heap.size := by obtain ⟨_, h, _⟩ := h; exact h.lt
theorem Vn.later {w w' : World} {b : Nat} {x : Int} {s : Bool} (h : Vn w b x s) (hb : Below w.heap.size w w') : Vn w' b x s := by
  obtain ⟨g, h1, h2⟩ := h
  exact ⟨g, h1.later hb, h2.later hb⟩
theorem Vn.off {w : World} {b b' : Nat} {x : Int} {s t : Bool} {v : Value} (h : Vn w b x s) (k : Bn w b' v t) (hne : b ≠ b') (u v' : Value) : Vn (pt w b' u v') b x s := by
  obtain ⟨g, h1, h2⟩ := h
  exact ⟨g, h1.off k hne u v', h2.off k u v'⟩
theorem Vn.put {w : World} {b g : Nat} {x : Int} {s t : Bool} {v : Value} (k : Bn w b v t) (h : NmB w g x) : Vn (pt w b (.slice (some ⟨g, 0, none⟩) 24 24) (.bool s)) b x s := ⟨g, k.pt _ _, h.off k _ _⟩
theorem Bw.offP {w : World} {g b : Nat} {h l : Int} (k : Bw w g h l) (hne : g ≠ b) (u v : Value) : Bw (pt w b u v) g h l := k.far hne u v
/-- What the first loop keeps: the total's box, the result's variable, the number's. -/
def Far1 (wr w0 : World) (bR bX : Nat) (h l : Int) (x : Int) (s : Bool) : Prop :=
  Bw wr w0.heap.size h l ∧ Bn wr bR (.slice none 0 0) false ∧ Vn wr bX x s ∧ w0.heap.size < bR ∧ bR < bX ∧ Below w0.heap.size w0 wr
/-- And the second one. -/
def Far2 (wr w0 : World) (bR bX bY : Nat) (x : Int) (s : Bool) (y : Int) (t : Bool) : Prop :=
  Bn wr bR (.slice none 0 0) false ∧ Vn wr bX x s ∧ Vn wr bY y t ∧ w0.heap.size < bR ∧ bR < bX ∧ bX < bY ∧ Below w0.heap.size w0 wr
theorem far_nums {x N : Nat} {a V Y : Int} (hx1 : 4210865651591413760 ≤ x) (hx2 : x ≤ 5179139571476070401) (ha : Is a) (hn : 1 ≤ N) (hI : N < 9223372036854775808) (hV : V = ((vW x * N : Nat) : Int)) (hY : Y = dbl a 140) :
    ∃ m E : Nat, 4503599627370496 + x % 4503599627370496 = m ∧ ((x / 4503599627370496 : Nat) : Int) - 1075 = (E : Int) - 140 ∧ 0 < m ∧ m < 9007199254740992 ∧ E ≤ 215 ∧ V = dbl ((m * N : Nat) : Int) E ∧ 0 < V ∧ m * N ≤ 83076749736557242056487941267521536 ∧ V.natAbs + Y.natAbs < top24 := by
  obtain ⟨m, hm⟩ : ∃ m, 4503599627370496 + x % 4503599627370496 = m := ⟨_, rfl⟩
  obtain ⟨E, hE⟩ : ∃ E, x / 4503599627370496 - 935 = E := ⟨_, rfl⟩
  have hm1 : m < 9007199254740992 := by omega
  have hm0 : 0 < m := by omega
  have hE1 : E ≤ 215 := by omega
  have hp : m * N ≤ 83076749736557242056487941267521536 := Nat.le_trans (Nat.mul_le_mul (Nat.le_of_lt hm1) (Nat.le_of_lt hI)) (by decide)
  have hVe : V = dbl ((m * N : Nat) : Int) E := by
    rw [hV]
    unfold vW dbl
    rw [hm, hE, ← Int.natCast_mul, Nat.mul_right_comm]
  have hV0 : 0 < V := by
    rw [hVe]
    unfold dbl
    rw [← Int.natCast_mul]
    have := Nat.mul_pos (Nat.mul_pos hm0 hn) (Nat.two_pow_pos E)
    omega
  refine ⟨m, E, hm, by omega, hm0, hm1, hE1, hVe, hV0, hp, ?_⟩
  rw [hVe, hY, dbl_abs, dbl_abs, Int.natAbs_natCast]
  exact sum_lim hp (by omega) (by unfold Is at ha; omega)
set_option maxRecDepth 8000 in
set_option maxHeartbeats 8000000 in
theorem far_any (s : Bool) (x : Nat) (a : Int) (N : Nat) (V Y D Z : Int) (hx1 : 4210865651591413760 ≤ x) (hx2 : x ≤ 5179139571476070401) (ha : Is a) (hn : 1 ≤ N) (hI : N < 9223372036854775808) (hV : V = ((vW x * N : Nat) : Int)) (hY : Y = dbl a 140) (hD : (if s = true then -V else V) - Y = D) (hZ : (D.natAbs : Int) = Z) (w : World) :
    Calls Tryd.prog 13 #[.float .f64 (Ieee.double.word s x), .agg #[.int .i64 (hi (a)), .int .u64 (lo (a))], .int .i64 (N : Int)] w fun e w' => ∃ g, e = .returned (.agg #[.slice (some ⟨g, 0, none⟩) 24 24, .bool false]) ∧ NmB w' g Z ∧ Below w.heap.size w w' := by
  obtain ⟨m, E, hm, hEx, hm0, hm1, hE1, hVe, hV0, hp, hlim⟩ := far_nums hx1 hx2 ha hn hI hV hY
  have CPa := hid (parts_any s x (by omega) (by omega))
  rw [hm, hEx] at CPa
  obtain ⟨eI, heI⟩ : ∃ eI : Int, (E : Int) - 140 = eI := ⟨_, rfl⟩
  rw [heI] at CPa
  obtain ⟨fw, hfw⟩ : ∃ fw, Ieee.double.word s x = fw := ⟨_, rfl⟩
  rw [hfw] at CPa ⊢
  obtain ⟨P, hP⟩ : ∃ P : Int, ((m * N : Nat) : Int) = P := ⟨_, rfl⟩
  rw [hP] at hVe
  have hPs : decide (P < 0) = false := decide_eq_false (by omega)
  have hPa : P.natAbs = m * N := by omega
  have CSm := hid (rSmall m (by omega))
  have CT1 := hid (cTimes' (m : Int) false (decide_eq_false (by omega)) N P false (by rw [← hP, Int.natCast_mul]) hPs (by omega) (by rw [Int.natAbs_natCast]; exact mul_lim (by omega)))
  have CT2 : Hid (∀ (ga : Nat) (w : World), NmB w ga P → Calls Tryd.prog 30 #[.agg #[.slice (some ⟨ga, 0, none⟩) 24 24, .bool false], .int .u64 1] w fun e w' => ∃ g, e = .returned (.agg #[.slice (some ⟨g, 0, none⟩) 24 24, .bool false]) ∧ w.heap.size ≤ g ∧ NmB w' g P ∧ Below w.heap.size w w') := fun ga w h => cTimes' P false hPs 1 P false (Int.mul_one P) hPs (by omega) (by rw [hPa]; exact mul_lim (by omega)) ga w h
  have CPx := hid (fun (k : Nat) (hk : k ≤ 215) => cPlus (dbl P k) (dbl P k) (dbl P (k + 1)) false false false (dbl_next P k) (by rw [dbl_sgn]; exact hPs) (by rw [dbl_sgn]; exact hPs) (by rw [dbl_sgn]; exact hPs) (by rw [dbl_abs, hPa]; exact dbl_lim hp (by omega)))
  obtain ⟨sa, hsa⟩ : ∃ t, decide (a < 0) = t := ⟨_, rfl⟩
  have CPy := hid (fun (k : Nat) (hk : k ≤ 140) => cPlus (dbl a k) (dbl a k) (dbl a (k + 1)) sa sa sa (dbl_next a k) (by rw [dbl_sgn]; exact hsa) (by rw [dbl_sgn]; exact hsa) (by rw [dbl_sgn]; exact hsa) (by rw [dbl_abs]; exact dbl_lim' (by unfold Is at ha; omega) (by omega)))
  have CNu := hid (cNum a sa ha hsa)
  have hVs : decide (V < 0) = false := decide_eq_false (by omega)
  have CTv := hid (cTurned V (-V) false true rfl hVs (decide_eq_true (by omega)))
  obtain ⟨X, hX⟩ : ∃ X : Int, (if s = true then -V else V) = X := ⟨_, rfl⟩
  rw [hX] at hD
  have hXs : decide (X < 0) = s := by
    rw [← hX]
    cases s
    · simpa using (show ¬ V < 0 by omega)
    · simpa using (show 0 < V by omega)
  have hYs : decide (Y < 0) = sa := by rw [hY, dbl_sgn]; exact hsa
  obtain ⟨sy, hsy⟩ : ∃ t, decide (-Y < 0) = t := ⟨_, rfl⟩
  obtain ⟨sd, hsd⟩ : ∃ t, decide (D < 0) = t := ⟨_, rfl⟩
  have CTy := hid (cTurned Y (-Y) sa sy rfl hYs hsy)
  have hXa : X.natAbs = V.natAbs := by rw [← hX]; cases s <;> simp
  have CPd := hid (cPlus X (-Y) D s sy sd (by omega) hXs hsy hsd (by rw [hXa, Int.natAbs_neg]; exact hlim))
  have CTd := hid (fun (h : sd = true) => cTurned D Z sd false (by subst h; have := of_decide_eq_true hsd; omega) hsd (decide_eq_false (by omega)))
  have HDZ : Hid (sd = false → D = Z) := fun h => by subst h; have := of_decide_eq_false hsd; omega
  have hw : IntKind.u64.wrap (N : Int) = N := by rw [IntKind.wrap_u64]; omega
  have HX1 : Hid (s = false → V = X) := fun h => by subst h; simpa using hX
  have HX2 : Hid (s = true → -V = X) := fun h => by subst h; simpa using hX
  have HV0 := hid hVe
  have HY0 := hid hY
  have HE := hid heI
  have HE1 := hid hE1
  have hq2 : -140 ≤ eI ∧ eI ≤ 75 := by omega
  have HEI := hid hq2
  clear hm hEx hm0 hm1 hE1 hVe hV0 hp hlim heI hfw hP hPs hPa hsa hVs hX hXs hYs hsy hsd hXa hD hZ hV hY hx1 hx2 ha hn hI hq2
  generalize hi a = H at *
  generalize lo a = L at *
  generalize (m : Int) = mi at *
  generalize (N : Int) = ni at *
  obtain ⟨w1, hw1⟩ : ∃ w1, w.alloc (.cells #[.int .i64 H, .int .u64 L] 24) = w1 := ⟨_, rfl⟩
  obtain ⟨w2, hw2⟩ : ∃ w2, w1.alloc (.cells #[.slice none 0 0, .bool false] 38) = w2 := ⟨_, rfl⟩
  have b1 : Below w.heap.size w w1 := by rw [← hw1]; exact below_new _ _
  have b2 : Below w1.heap.size w1 w2 := by rw [← hw2]; exact below_new _ _
  have s1 : w1.heap.size = w.heap.size + 1 := by rw [← hw1]; simp
  have s2 : w2.heap.size = w1.heap.size + 1 := by rw [← hw2]; simp
  have T2 : Hid (Bw w2 w.heap.size H L) := Bw.later (by rw [← hw1]; exact Bw.new _ _ _) b2
  have R2 : Hid (Bn w2 w1.heap.size (.slice none 0 0) false) := by rw [← hw2]; exact Bn.new _ _ _
  have B2 := hid (below_up b1 b2)
  have SZ := hid (And.intro s1 s2)
  clear b1 b2 s1 s2
  go_enter Tryd.func13, Tryd.ntmps13
  go_wp2_with fail
  refine (CPa.out _).mono ?_
  rintro e wp ⟨rfl, hwp⟩
  subst wp
  clear hw1 hw2 CPa
  go_wp2_with fail
  refine (CSm.out _).mono ?_
  rintro e w3 ⟨g3, rfl, -, N3, b3⟩
  have HN3 := hid N3
  have HB3 := hid b3
  clear N3 b3 CSm
  go_wp2_with fail
  refine (CT1.out _ _ HN3.out).mono ?_
  rintro e w4 ⟨g4, rfl, -, N4, b4⟩
  have HN4 := hid N4
  have HB4 := hid (below_up HB3.out b4)
  clear N4 b4 CT1 HN3 HB3
  go_wp2_with fail
  refine (CT2.out _ _ HN4.out).mono ?_
  rintro e w5 ⟨g5, rfl, -, N5, b5⟩
  obtain ⟨w6, hw6⟩ : ∃ w6, w5.alloc (.cells #[.slice none 0 0, .bool false] 38) = w6 := ⟨_, rfl⟩
  have b6 : Below w5.heap.size w5 w6 := by rw [← hw6]; exact below_new _ _
  have Z6 : Bn w6 w5.heap.size (.slice none 0 0) false := by rw [← hw6]; exact Bn.new _ _ _
  have b26 := below_up HB4.out (below_up b5 b6)
  have h25 : w2.heap.size ≤ w5.heap.size := Nat.le_trans HB4.out.size b5.size
  have z0 := Z6.dig
  have z1 := Z6.sgn
  have f0 := Z6.frz 0
  have f1 := Z6.frz 1
  have ST : Hid (Far1 (pt w6 w5.heap.size (.slice (some ⟨g5, 0, none⟩) 24 24) (.bool false)) w w1.heap.size w5.heap.size H L (dbl P 0) false) := by
    obtain ⟨q1, q2⟩ := SZ.out
    refine ⟨(T2.out.later b26).offP (by omega) _ _, (R2.out.later b26).off Z6 (by omega) _ _, ?_, by omega, by omega, below_pt (below_up B2.out b26) (by omega) _ _⟩
    rw [dbl_zero]
    exact Vn.put Z6 (N5.later b6)
  unfold pt at ST
  clear Z6 b5 b6 b26 h25 N5 T2 R2 B2 SZ HN4 HB4 CT2
  go_wp2_with fail
  generalize World.setCell _ _ _ = w7 at *
  generalize w5.heap.size = bX at *
  generalize w1.heap.size = bR at *
  clear z0 z1 f0 f1 hw6
  go_loopw [11] (fun ix wr => ∃ (k : Nat) (q : Int), k ≤ E ∧ q = (k : Int) - 140 ∧ ix = .int .i64 q ∧ Hid (Far1 wr w bR bX H L (dbl P k) false)) (fun ix _ => E - (intOf ix + 140).toNat)
  case atStart => exact ⟨0, -140, Nat.zero_le _, rfl, rfl, ST⟩
  case round =>
    rename World => wr
    clear ST
    obtain ⟨k, q, hk, hq, rfl, SS⟩ := hrel
    have hqb : -140 ≤ q ∧ q ≤ 100 := by have := HE1.out; omega
    by_cases hlt : q < eI
    · have hkE : k < E := by have := HE.out; omega
      have CP := hid (CPx.out k (by have := HE1.out; omega))
      obtain ⟨TB, RB, ⟨g, XB, XN⟩, q1, q2, q3⟩ := SS.out
      have HTB := hid TB
      have HRB := hid RB
      have HXB := hid XB
      have HXN := hid XN
      have HQ := hid (And.intro q1 (And.intro q2 q3))
      have c0 := XB.dig
      have c1 := XB.sgn
      clear SS TB RB XB XN q1 q2 q3
      go_wp2_with fail
      refine (CP.out _ _ _ HXN.out HXN.out).mono ?_
      rintro e wb ⟨gz, rfl, -, NZ, bb⟩
      have XBb := HXB.out.later bb
      have z0 := XBb.dig
      have z1 := XBb.sgn
      have f0 := XBb.frz 0
      have f1 := XBb.frz 1
      have ST2 : Hid (Far1 (pt wb bX (.slice (some ⟨gz, 0, none⟩) 24 24) (.bool false)) w bR bX H L (dbl P (k + 1)) false) := by
        obtain ⟨q1, q2, q3⟩ := HQ.out
        exact ⟨(HTB.out.later bb).offP (by omega) _ _, (HRB.out.later bb).off XBb (by omega) _ _, Vn.put XBb NZ, q1, q2, below_pt (below_up q3 bb) (by omega) _ _⟩
      unfold pt at ST2
      clear XBb NZ bb HTB HRB HXB HXN HQ CP c0 c1
      go_wp2_with fail
      generalize World.setCell _ _ _ = w9 at *
      clear z0 z1 f0 f1
      exact ⟨⟨k + 1, q + 1, by omega, by omega, by go_num, ST2⟩, by simp [intOf]; omega⟩
    · have hkE : k = E := by have := HE.out; omega
      subst hkE
      rw [← HV0.out] at SS
      clear hqb hq hk
      cases s
      · have SX : Hid (Far1 wr w bR bX H L X false) := by rw [HX1.out rfl] at SS; exact SS
        clear SS HX1 HX2 HV0 CTv
        obtain ⟨TB, RB, XV, q1, q2, q3⟩ := SX.out
        have HTB := hid TB
        have HRB := hid RB
        have HXV := hid XV
        have HQ := hid (And.intro q1 (And.intro q2 q3))
        have t0 := TB.hi
        have t1 := TB.lo
        clear SX TB RB XV q1 q2 q3
        go_wp2_with fail
        refine (CNu.out _).mono ?_
        rintro e wn ⟨gn, rfl, -, NN, bn⟩
        obtain ⟨wo, hwo⟩ : ∃ wo, wn.alloc (.cells #[.slice none 0 0, .bool false] 38) = wo := ⟨_, rfl⟩
        have bo : Below wn.heap.size wn wo := by rw [← hwo]; exact below_new _ _
        have Zo : Bn wo wn.heap.size (.slice none 0 0) false := by rw [← hwo]; exact Bn.new _ _ _
        have bno := below_up bn bo
        have hxl : bX < wn.heap.size := Nat.lt_of_lt_of_le HXV.out.lt bn.size
        have z0 := Zo.dig
        have z1 := Zo.sgn
        have f0 := Zo.frz 0
        have f1 := Zo.frz 1
        have ST : Hid (Far2 (pt wo wn.heap.size (.slice (some ⟨gn, 0, none⟩) 24 24) (.bool sa)) w bR bX wn.heap.size X false (dbl a 0) sa) := by
          obtain ⟨q1, q2, q3⟩ := HQ.out
          refine ⟨(HRB.out.later bno).off Zo (by omega) _ _, (HXV.out.later bno).off Zo (by omega) _ _, ?_, q1, q2, hxl, below_pt (below_up q3 bno) (by omega) _ _⟩
          rw [dbl_zero]
          exact Vn.put Zo (NN.later bo)
        unfold pt at ST
        clear Zo bn bo bno hxl NN HTB HRB HXV HQ t0 t1
        go_wp2_with fail
        generalize World.setCell _ _ _ = wq at *
        generalize wn.heap.size = bY at *
        clear z0 z1 f0 f1 hwo
        go_loopw [13] (fun ix wr => ∃ k : Nat, k ≤ 140 ∧ ix = .int .i64 (k : Int) ∧ Hid (Far2 wr w bR bX bY X false (dbl a k) sa)) (fun ix _ => 140 - (intOf ix).toNat)
        case atStart => exact ⟨0, Nat.zero_le _, rfl, ST⟩
        case round =>
          rename World => wr2
          clear ST
          obtain ⟨j, hj, rfl, SS⟩ := hrel
          by_cases hlt : j < 140
          · have hjj : (j : Int) < 140 := by omega
            have CP := hid (CPy.out j (by omega))
            obtain ⟨RB, XV, ⟨g, YB, YN⟩, q1, q2, q3, q4⟩ := SS.out
            have HRB := hid RB
            have HXV := hid XV
            have HYB := hid YB
            have HYN := hid YN
            have HQ := hid (And.intro q1 (And.intro q2 (And.intro q3 q4)))
            have c0 := YB.dig
            have c1 := YB.sgn
            clear SS RB XV YB YN q1 q2 q3 q4
            go_wp2_with fail
            refine (CP.out _ _ _ HYN.out HYN.out).mono ?_
            rintro e wb ⟨gz, rfl, -, NZ, bb⟩
            have YBb := HYB.out.later bb
            have z0 := YBb.dig
            have z1 := YBb.sgn
            have f0 := YBb.frz 0
            have f1 := YBb.frz 1
            have ST2 : Hid (Far2 (pt wb bY (.slice (some ⟨gz, 0, none⟩) 24 24) (.bool sa)) w bR bX bY X false (dbl a (j + 1)) sa) := by
              obtain ⟨q1, q2, q3, q4⟩ := HQ.out
              exact ⟨(HRB.out.later bb).off YBb (by omega) _ _, (HXV.out.later bb).off YBb (by omega) _ _, Vn.put YBb NZ, q1, q2, q3, below_pt (below_up q4 bb) (by omega) _ _⟩
            unfold pt at ST2
            clear YBb NZ bb HRB HXV HYB HYN HQ CP c0 c1
            go_wp2_with fail
            generalize World.setCell _ _ _ = w9 at *
            clear z0 z1 f0 f1
            exact ⟨⟨j + 1, by omega, by go_num, ST2⟩, by simp [intOf]; omega⟩
          · obtain rfl : j = 140 := by omega
            rw [← HY0.out] at SS
            clear hlt hj
            obtain ⟨RB, ⟨gx, XB, XN⟩, ⟨gy, YB, YN⟩, q1, q2, q3, q4⟩ := SS.out
            have HRB := hid RB
            have XB9 := hid XB
            have NX9 := hid XN
            have YB9 := hid YB
            have NY9 := hid YN
            have HQ := hid (And.intro q1 (And.intro q2 (And.intro q3 q4)))
            clear SS RB XB XN YB YN q1 q2 q3 q4
            go_wp2_with fail
            refine wp_region_noPanic ?_
            refine wp_region_held_drew (S := fun W => Below wr2.heap.size wr2 W) (by kernel_rfl) ((Below.refl _ _).drew) (fun hHeld0 => ?_)
            refine wpAnyH_take (i := 0) (oi := { dst := some 47, op := Op.load 38 (Operand.tmp 10), type := 38, pos := "outright.go:125", after := #[], guard := none }) (v := ?_) rfl (by kernel_rfl) (by kernel_rfl) (by kernel_rfl) (fun _ _ _ h => h) (Or.inl ⟨by rfl, ?_⟩) (by assumption) ?_
            rotate_left
            · intro W hSw
              try dsimp only at hSw
              have q0 := (XB9.out.later hSw).dig; have q1 := (XB9.out.later hSw).sgn
              go_simp
              try with_reducible rfl
            try simp only [Act.put, List.setIfInBounds_toArray, List.set_cons_zero, List.set_cons_succ]
            refine wpAnyH_take (i := 1) (oi := { dst := some 48, op := Op.load 38 (Operand.tmp 12), type := 38, pos := "outright.go:125", after := #[], guard := none }) (v := ?_) rfl (by kernel_rfl) (by kernel_rfl) (by kernel_rfl) (fun _ _ _ h => h) (Or.inl ⟨by rfl, ?_⟩) (by assumption) ?_
            rotate_left
            · intro W hSw
              try dsimp only at hSw
              have q0 := (YB9.out.later hSw).dig; have q1 := (YB9.out.later hSw).sgn
              go_simp
              try with_reducible rfl
            try simp only [Act.put, List.setIfInBounds_toArray, List.set_cons_zero, List.set_cons_succ]
            refine wpAnyH_ready (rs := [2, 4]) (by kernel_rfl) (by simp) ?_
            refine AllReadyH.cons (o := { dst := some 49, op := Op.call { callee := Callee.value (Operand.func 33), args := #[Operand.tmp 48], argTypes := #[38] }, type := 38, pos := "outright.go:125", after := #[{ on := 1, ground := Ground.data }], guard := none }) rfl (fun K hK => ?_) (AllReadyH.cons (o := { dst := some 14, op := Op.alloc 38, type := 0, pos := "outright.go:125", after := #[], guard := none }) rfl (fun K hK => ?_) AllReadyH.nil)
            · rw [if_pos (by rfl)]
              go_simp
              refine (CTy.out _ _ (NY9.out.later hHeld0)).mono ?_
              rintro e v1 ⟨rfl, -, bn⟩
              refine hK.out _ _ (below_up hHeld0 bn) (fun hHeld1 => ?_)
              clear hK K hHeld0 bn
              try simp only [Act.put, List.setIfInBounds_toArray, List.set_cons_zero, List.set_cons_succ]
              refine wpAnyH_ready (rs := [3, 4]) (by kernel_rfl) (by simp) ?_
              refine AllReadyH.cons (o := { dst := some 50, op := Op.call { callee := Callee.value (Operand.func 32), args := #[Operand.tmp 47, Operand.tmp 49], argTypes := #[38, 38] }, type := 38, pos := "outright.go:125", after := #[{ on := 0, ground := Ground.data }, { on := 2, ground := Ground.data }, { on := 2, ground := Ground.chain }], guard := none }) rfl (fun K hK => ?_) (AllReadyH.cons (o := { dst := some 14, op := Op.alloc 38, type := 0, pos := "outright.go:125", after := #[], guard := none }) rfl (fun K hK => ?_) AllReadyH.nil)
              · rw [if_pos (by rfl)]
                go_simp
                refine (CPd.out _ _ _ (NX9.out.later hHeld1) ((NY9.out.later hHeld1).turn rfl)).mono ?_
                rintro e v2 ⟨gd, rfl, -, NM, bn⟩
                have HNP := hid NM
                clear NM
                refine hK.out _ _ (below_up hHeld1 bn) (fun hHeld2 => ?_)
                clear hK K hHeld1 bn
                try simp only [Act.put, List.setIfInBounds_toArray, List.set_cons_zero, List.set_cons_succ]
                refine wpAnyH_ready (rs := [4]) (by kernel_rfl) (by simp) ?_
                refine AllReadyH.cons (o := { dst := some 14, op := Op.alloc 38, type := 0, pos := "outright.go:125", after := #[], guard := none }) rfl (fun K hK => ?_) AllReadyH.nil
                rw [if_pos (by rfl)]
                go_simp
                generalize hwn : World.alloc _ (.cells #[.slice none 0 0, .bool false] 38) = v3
                have bn : Below (v2).heap.size (v2) v3 := by rw [← hwn]; exact below_new _ _
                have HD : Hid (Bn v3 (v2).heap.size (.slice none 0 0) false) := by rw [← hwn]; exact Bn.new _ _ _
                have HG : Hid (wr2.heap.size ≤ (v2).heap.size) := hHeld2.size
                refine hK.out _ _ (below_up hHeld2 bn) (fun hHeld3 => ?_)
                clear hK K hwn hHeld2
                replace HNP := hid (HNP.out.later bn)
                clear bn
                try simp only [Act.put, List.setIfInBounds_toArray, List.set_cons_zero, List.set_cons_succ]
                generalize v2.heap.size = b83 at *
                refine wpAnyH_ready (rs := [5]) (by kernel_rfl) (by simp) ?_
                refine AllReadyH.cons (o := { dst := none, op := Op.store 38 (Operand.tmp 14) (Operand.tmp 50), type := 0, pos := "outright.go:125", after := #[{ on := 4, ground := Ground.data }, { on := 3, ground := Ground.data }, { on := 3, ground := Ground.chain }, { on := 0, ground := Ground.phase }, { on := 1, ground := Ground.phase }, { on := 2, ground := Ground.phase }, { on := 3, ground := Ground.phase }, { on := 4, ground := Ground.phase }], guard := none }) rfl (fun K hK => ?_) AllReadyH.nil
                rw [if_pos (by rfl)]
                have s0 := HD.out.dig
                have s1 := HD.out.sgn
                have s2 := HD.out.frz 0
                have s3 := HD.out.frz 1
                have XD := hid (HD.out.pt (.slice (some ⟨gd, 0, none⟩) 24 24) sd)
                have ND := hid (HNP.out.off HD.out (.slice (some ⟨gd, 0, none⟩) 24 24) (.bool sd))
                have BD := hid (below_pt hHeld3 HG.out (.slice (some ⟨gd, 0, none⟩) 24 24) (.bool sd))
                unfold pt at XD ND BD
                go_simp
                refine hK.out _ _ BD.out (fun hHeld4 => ?_)
                clear hK K hHeld3 s0 s1 s2 s3 HD HNP
                try simp only [Act.put, List.setIfInBounds_toArray, List.set_cons_zero, List.set_cons_succ]
                refine wpAnyH_done (by kernel_rfl) ?_ _
                refine NoPanic.normal ?_
                generalize World.setCell _ _ _ = wD at *
                clear hHeld4
                have RD := HRB.out.later BD.out
                have ROF : Hid (Bn wD bR (.slice none 0 0) false) := RD
                have BW : Hid (Below w.heap.size w wD) := by
                  obtain ⟨q1, q2, q3, q4⟩ := HQ.out
                  exact below_up q4 BD.out
                have HRL : Hid (w.heap.size ≤ bR) := by
                  obtain ⟨q1, q2, q3, q4⟩ := HQ.out
                  exact Nat.le_of_lt q1
                have d0 := XD.out.dig
                have d1 := XD.out.sgn
                clear RD HRB XB9 NX9 YB9 NY9 HQ HG BD
                cases sd
                · have HNZ : Hid (NmB wD gd Z) := by show NmB wD gd Z; rw [← HDZ.out rfl]; exact ND.out
                  have r0 := ROF.out.dig
                  have r1 := ROF.out.sgn
                  have f0 := ROF.out.frz 0
                  have f1 := ROF.out.frz 1
                  have RP := hid (ROF.out.pt (.slice (some ⟨gd, 0, none⟩) 24 24) false)
                  have NP := hid (HNZ.out.off ROF.out (.slice (some ⟨gd, 0, none⟩) 24 24) (.bool false))
                  have BP := hid (below_pt BW.out HRL.out (.slice (some ⟨gd, 0, none⟩) 24 24) (.bool false))
                  unfold pt at RP NP BP
                  clear HNZ ND ROF BW
                  go_wp2_with fail
                  generalize World.setCell _ _ _ = wE at *
                  clear r0 r1 f0 f1 d0 d1
                  have e0 := RP.out.dig
                  have e1 := RP.out.sgn
                  simp [bodyPost, results, Tryd.results13, go_sem, e0, e1]
                  exact ⟨NP.out, BP.out⟩
                · have HND := hid ND.out
                  have CT := hid (CTd.out rfl)
                  clear ND
                  go_wp2_with fail
                  refine (CT.out _ _ HND.out).mono ?_
                  rintro e wE ⟨rfl, NE, bE⟩
                  have RE := ROF.out.later bE
                  have r0 := RE.dig
                  have r1 := RE.sgn
                  have f0 := RE.frz 0
                  have f1 := RE.frz 1
                  have RP := hid (RE.pt (.slice (some ⟨gd, 0, none⟩) 24 24) false)
                  have NP := hid (NE.off RE (.slice (some ⟨gd, 0, none⟩) 24 24) (.bool false))
                  have BP := hid (below_pt (below_up BW.out bE) HRL.out (.slice (some ⟨gd, 0, none⟩) 24 24) (.bool false))
                  unfold pt at RP NP BP
                  clear NE RE bE HND ROF BW CT
                  go_wp2_with fail
                  generalize World.setCell _ _ _ = wF at *
                  clear r0 r1 f0 f1 d0 d1
                  have e0 := RP.out.dig
                  have e1 := RP.out.sgn
                  simp [bodyPost, results, Tryd.results13, go_sem, e0, e1]
                  exact ⟨NP.out, BP.out⟩
              · rw [if_pos (by rfl)]
                go_simp
                generalize hwn : World.alloc _ (.cells #[.slice none 0 0, .bool false] 38) = v4
                have bn : Below (v1).heap.size (v1) v4 := by rw [← hwn]; exact below_new _ _
                have HD : Hid (Bn v4 (v1).heap.size (.slice none 0 0) false) := by rw [← hwn]; exact Bn.new _ _ _
                have HG : Hid (wr2.heap.size ≤ (v1).heap.size) := hHeld1.size
                refine hK.out _ _ (below_up hHeld1 bn) (fun hHeld2 => ?_)
                clear hK K hwn hHeld1
                clear bn
                try simp only [Act.put, List.setIfInBounds_toArray, List.set_cons_zero, List.set_cons_succ]
                generalize v1.heap.size = b84 at *
                refine wpAnyH_ready (rs := [3]) (by kernel_rfl) (by simp) ?_
                refine AllReadyH.cons (o := { dst := some 50, op := Op.call { callee := Callee.value (Operand.func 32), args := #[Operand.tmp 47, Operand.tmp 49], argTypes := #[38, 38] }, type := 38, pos := "outright.go:125", after := #[{ on := 0, ground := Ground.data }, { on := 2, ground := Ground.data }, { on := 2, ground := Ground.chain }], guard := none }) rfl (fun K hK => ?_) AllReadyH.nil
                rw [if_pos (by rfl)]
                go_simp
                refine (CPd.out _ _ _ (NX9.out.later hHeld2) ((NY9.out.later hHeld2).turn rfl)).mono ?_
                rintro e v5 ⟨gd, rfl, -, NM, bn⟩
                have HNP := hid NM
                clear NM
                replace HD := hid (HD.out.later bn)
                refine hK.out _ _ (below_up hHeld2 bn) (fun hHeld3 => ?_)
                clear hK K hHeld2 bn
                try simp only [Act.put, List.setIfInBounds_toArray, List.set_cons_zero, List.set_cons_succ]
                refine wpAnyH_ready (rs := [5]) (by kernel_rfl) (by simp) ?_
                refine AllReadyH.cons (o := { dst := none, op := Op.store 38 (Operand.tmp 14) (Operand.tmp 50), type := 0, pos := "outright.go:125", after := #[{ on := 4, ground := Ground.data }, { on := 3, ground := Ground.data }, { on := 3, ground := Ground.chain }, { on := 0, ground := Ground.phase }, { on := 1, ground := Ground.phase }, { on := 2, ground := Ground.phase }, { on := 3, ground := Ground.phase }, { on := 4, ground := Ground.phase }], guard := none }) rfl (fun K hK => ?_) AllReadyH.nil
                rw [if_pos (by rfl)]
                have s0 := HD.out.dig
                have s1 := HD.out.sgn
                have s2 := HD.out.frz 0
                have s3 := HD.out.frz 1
                have XD := hid (HD.out.pt (.slice (some ⟨gd, 0, none⟩) 24 24) sd)
                have ND := hid (HNP.out.off HD.out (.slice (some ⟨gd, 0, none⟩) 24 24) (.bool sd))
                have BD := hid (below_pt hHeld3 HG.out (.slice (some ⟨gd, 0, none⟩) 24 24) (.bool sd))
                unfold pt at XD ND BD
                go_simp
                refine hK.out _ _ BD.out (fun hHeld4 => ?_)
                clear hK K hHeld3 s0 s1 s2 s3 HD HNP
                try simp only [Act.put, List.setIfInBounds_toArray, List.set_cons_zero, List.set_cons_succ]
                refine wpAnyH_done (by kernel_rfl) ?_ _
                refine NoPanic.normal ?_
                generalize World.setCell _ _ _ = wD at *
                clear hHeld4
                have RD := HRB.out.later BD.out
                have ROF : Hid (Bn wD bR (.slice none 0 0) false) := RD
                have BW : Hid (Below w.heap.size w wD) := by
                  obtain ⟨q1, q2, q3, q4⟩ := HQ.out
                  exact below_up q4 BD.out
                have HRL : Hid (w.heap.size ≤ bR) := by
                  obtain ⟨q1, q2, q3, q4⟩ := HQ.out
                  exact Nat.le_of_lt q1
                have d0 := XD.out.dig
                have d1 := XD.out.sgn
                clear RD HRB XB9 NX9 YB9 NY9 HQ HG BD
                cases sd
                · have HNZ : Hid (NmB wD gd Z) := by show NmB wD gd Z; rw [← HDZ.out rfl]; exact ND.out
                  have r0 := ROF.out.dig
                  have r1 := ROF.out.sgn
                  have f0 := ROF.out.frz 0
                  have f1 := ROF.out.frz 1
                  have RP := hid (ROF.out.pt (.slice (some ⟨gd, 0, none⟩) 24 24) false)
                  have NP := hid (HNZ.out.off ROF.out (.slice (some ⟨gd, 0, none⟩) 24 24) (.bool false))
                  have BP := hid (below_pt BW.out HRL.out (.slice (some ⟨gd, 0, none⟩) 24 24) (.bool false))
                  unfold pt at RP NP BP
                  clear HNZ ND ROF BW
                  go_wp2_with fail
                  generalize World.setCell _ _ _ = wE at *
                  clear r0 r1 f0 f1 d0 d1
                  have e0 := RP.out.dig
                  have e1 := RP.out.sgn
                  simp [bodyPost, results, Tryd.results13, go_sem, e0, e1]
                  exact ⟨NP.out, BP.out⟩
                · have HND := hid ND.out
                  have CT := hid (CTd.out rfl)
                  clear ND
                  go_wp2_with fail
                  refine (CT.out _ _ HND.out).mono ?_
                  rintro e wE ⟨rfl, NE, bE⟩
                  have RE := ROF.out.later bE
                  have r0 := RE.dig
                  have r1 := RE.sgn
                  have f0 := RE.frz 0
                  have f1 := RE.frz 1
                  have RP := hid (RE.pt (.slice (some ⟨gd, 0, none⟩) 24 24) false)
                  have NP := hid (NE.off RE (.slice (some ⟨gd, 0, none⟩) 24 24) (.bool false))
                  have BP := hid (below_pt (below_up BW.out bE) HRL.out (.slice (some ⟨gd, 0, none⟩) 24 24) (.bool false))
                  unfold pt at RP NP BP
                  clear NE RE bE HND ROF BW CT
                  go_wp2_with fail
                  generalize World.setCell _ _ _ = wF at *
                  clear r0 r1 f0 f1 d0 d1
                  have e0 := RP.out.dig
                  have e1 := RP.out.sgn
                  simp [bodyPost, results, Tryd.results13, go_sem, e0, e1]
                  exact ⟨NP.out, BP.out⟩
            · rw [if_pos (by rfl)]
              go_simp
              generalize hwn : World.drew (World.alloc _ (.cells #[.slice none 0 0, .bool false] 38)) = v6
              have bn : Below wr2.heap.size wr2 v6 := by rw [← hwn]; exact (below_new _ _).drew
              have HD : Hid (Bn v6 wr2.heap.size (.slice none 0 0) false) := by rw [← hwn]; exact Bn.new wr2 _ _
              have HG : Hid (wr2.heap.size ≤ wr2.heap.size) := Nat.le_refl _
              refine hK.out _ _ bn (fun hHeld1 => ?_)
              clear hK K hwn hHeld0
              clear bn
              try simp only [Act.put, List.setIfInBounds_toArray, List.set_cons_zero, List.set_cons_succ]
              refine wpAnyH_ready (rs := [2]) (by kernel_rfl) (by simp) ?_
              refine AllReadyH.cons (o := { dst := some 49, op := Op.call { callee := Callee.value (Operand.func 33), args := #[Operand.tmp 48], argTypes := #[38] }, type := 38, pos := "outright.go:125", after := #[{ on := 1, ground := Ground.data }], guard := none }) rfl (fun K hK => ?_) AllReadyH.nil
              rw [if_pos (by rfl)]
              go_simp
              refine (CTy.out _ _ (NY9.out.later hHeld1)).mono ?_
              rintro e v7 ⟨rfl, -, bn⟩
              replace HD := hid (HD.out.later bn)
              refine hK.out _ _ (below_up hHeld1 bn) (fun hHeld2 => ?_)
              clear hK K hHeld1 bn
              try simp only [Act.put, List.setIfInBounds_toArray, List.set_cons_zero, List.set_cons_succ]
              refine wpAnyH_ready (rs := [3]) (by kernel_rfl) (by simp) ?_
              refine AllReadyH.cons (o := { dst := some 50, op := Op.call { callee := Callee.value (Operand.func 32), args := #[Operand.tmp 47, Operand.tmp 49], argTypes := #[38, 38] }, type := 38, pos := "outright.go:125", after := #[{ on := 0, ground := Ground.data }, { on := 2, ground := Ground.data }, { on := 2, ground := Ground.chain }], guard := none }) rfl (fun K hK => ?_) AllReadyH.nil
              rw [if_pos (by rfl)]
              go_simp
              refine (CPd.out _ _ _ (NX9.out.later hHeld2) ((NY9.out.later hHeld2).turn rfl)).mono ?_
              rintro e v8 ⟨gd, rfl, -, NM, bn⟩
              have HNP := hid NM
              clear NM
              replace HD := hid (HD.out.later bn)
              refine hK.out _ _ (below_up hHeld2 bn) (fun hHeld3 => ?_)
              clear hK K hHeld2 bn
              try simp only [Act.put, List.setIfInBounds_toArray, List.set_cons_zero, List.set_cons_succ]
              refine wpAnyH_ready (rs := [5]) (by kernel_rfl) (by simp) ?_
              refine AllReadyH.cons (o := { dst := none, op := Op.store 38 (Operand.tmp 14) (Operand.tmp 50), type := 0, pos := "outright.go:125", after := #[{ on := 4, ground := Ground.data }, { on := 3, ground := Ground.data }, { on := 3, ground := Ground.chain }, { on := 0, ground := Ground.phase }, { on := 1, ground := Ground.phase }, { on := 2, ground := Ground.phase }, { on := 3, ground := Ground.phase }, { on := 4, ground := Ground.phase }], guard := none }) rfl (fun K hK => ?_) AllReadyH.nil
              rw [if_pos (by rfl)]
              have s0 := HD.out.dig
              have s1 := HD.out.sgn
              have s2 := HD.out.frz 0
              have s3 := HD.out.frz 1
              have XD := hid (HD.out.pt (.slice (some ⟨gd, 0, none⟩) 24 24) sd)
              have ND := hid (HNP.out.off HD.out (.slice (some ⟨gd, 0, none⟩) 24 24) (.bool sd))
              have BD := hid (below_pt hHeld3 HG.out (.slice (some ⟨gd, 0, none⟩) 24 24) (.bool sd))
              unfold pt at XD ND BD
              go_simp
              refine hK.out _ _ BD.out (fun hHeld4 => ?_)
              clear hK K hHeld3 s0 s1 s2 s3 HD HNP
              try simp only [Act.put, List.setIfInBounds_toArray, List.set_cons_zero, List.set_cons_succ]
              refine wpAnyH_done (by kernel_rfl) ?_ _
              refine NoPanic.normal ?_
              generalize World.setCell _ _ _ = wD at *
              clear hHeld4
              have RD := HRB.out.later BD.out
              have ROF : Hid (Bn wD bR (.slice none 0 0) false) := RD
              have BW : Hid (Below w.heap.size w wD) := by
                obtain ⟨q1, q2, q3, q4⟩ := HQ.out
                exact below_up q4 BD.out
              have HRL : Hid (w.heap.size ≤ bR) := by
                obtain ⟨q1, q2, q3, q4⟩ := HQ.out
                exact Nat.le_of_lt q1
              have d0 := XD.out.dig
              have d1 := XD.out.sgn
              clear RD HRB XB9 NX9 YB9 NY9 HQ HG BD
              cases sd
              · have HNZ : Hid (NmB wD gd Z) := by show NmB wD gd Z; rw [← HDZ.out rfl]; exact ND.out
                have r0 := ROF.out.dig
                have r1 := ROF.out.sgn
                have f0 := ROF.out.frz 0
                have f1 := ROF.out.frz 1
                have RP := hid (ROF.out.pt (.slice (some ⟨gd, 0, none⟩) 24 24) false)
                have NP := hid (HNZ.out.off ROF.out (.slice (some ⟨gd, 0, none⟩) 24 24) (.bool false))
                have BP := hid (below_pt BW.out HRL.out (.slice (some ⟨gd, 0, none⟩) 24 24) (.bool false))
                unfold pt at RP NP BP
                clear HNZ ND ROF BW
                go_wp2_with fail
                generalize World.setCell _ _ _ = wE at *
                clear r0 r1 f0 f1 d0 d1
                have e0 := RP.out.dig
                have e1 := RP.out.sgn
                simp [bodyPost, results, Tryd.results13, go_sem, e0, e1]
                exact ⟨NP.out, BP.out⟩
              · have HND := hid ND.out
                have CT := hid (CTd.out rfl)
                clear ND
                go_wp2_with fail
                refine (CT.out _ _ HND.out).mono ?_
                rintro e wE ⟨rfl, NE, bE⟩
                have RE := ROF.out.later bE
                have r0 := RE.dig
                have r1 := RE.sgn
                have f0 := RE.frz 0
                have f1 := RE.frz 1
                have RP := hid (RE.pt (.slice (some ⟨gd, 0, none⟩) 24 24) false)
                have NP := hid (NE.off RE (.slice (some ⟨gd, 0, none⟩) 24 24) (.bool false))
                have BP := hid (below_pt (below_up BW.out bE) HRL.out (.slice (some ⟨gd, 0, none⟩) 24 24) (.bool false))
                unfold pt at RP NP BP
                clear NE RE bE HND ROF BW CT
                go_wp2_with fail
                generalize World.setCell _ _ _ = wF at *
                clear r0 r1 f0 f1 d0 d1
                have e0 := RP.out.dig
                have e1 := RP.out.sgn
                simp [bodyPost, results, Tryd.results13, go_sem, e0, e1]
                exact ⟨NP.out, BP.out⟩
      · have HVX : Hid (-V = X) := HX2.out rfl
        clear HX1 HX2 HV0
        obtain ⟨TB, RB, ⟨g, XB, XN⟩, q1, q2, q3⟩ := SS.out
        have HTB := hid TB
        have HRB := hid RB
        have HXB := hid XB
        have HXN := hid XN
        have HQ := hid (And.intro q1 (And.intro q2 q3))
        have c0 := XB.dig
        have c1 := XB.sgn
        clear SS TB RB XB XN q1 q2 q3
        go_wp2_with fail
        refine (CTv.out _ _ HXN.out).mono ?_
        rintro e wb ⟨rfl, NZ, bb⟩
        have XBb := HXB.out.later bb
        have z0 := XBb.dig
        have z1 := XBb.sgn
        have f0 := XBb.frz 0
        have f1 := XBb.frz 1
        have SX : Hid (Far1 (pt wb bX (.slice (some ⟨g, 0, none⟩) 24 24) (.bool true)) w bR bX H L X true) := by
          obtain ⟨q1, q2, q3⟩ := HQ.out
          exact ⟨(HTB.out.later bb).offP (by omega) _ _, (HRB.out.later bb).off XBb (by omega) _ _, Vn.put XBb (by rw [HVX.out] at NZ; exact NZ), q1, q2, below_pt (below_up q3 bb) (by omega) _ _⟩
        unfold pt at SX
        clear XBb NZ bb HTB HRB HXB HXN HQ HVX CTv c0 c1
        go_upto_region 9 with fail
        generalize World.setCell _ _ _ = w8 at *
        clear z0 z1 f0 f1
        obtain ⟨TB, RB, XV, q1, q2, q3⟩ := SX.out
        have HTB := hid TB
        have HRB := hid RB
        have HXV := hid XV
        have HQ := hid (And.intro q1 (And.intro q2 q3))
        have t0 := TB.hi
        have t1 := TB.lo
        clear SX TB RB XV q1 q2 q3
        go_wp2_with fail
        refine (CNu.out _).mono ?_
        rintro e wn ⟨gn, rfl, -, NN, bn⟩
        obtain ⟨wo, hwo⟩ : ∃ wo, wn.alloc (.cells #[.slice none 0 0, .bool false] 38) = wo := ⟨_, rfl⟩
        have bo : Below wn.heap.size wn wo := by rw [← hwo]; exact below_new _ _
        have Zo : Bn wo wn.heap.size (.slice none 0 0) false := by rw [← hwo]; exact Bn.new _ _ _
        have bno := below_up bn bo
        have hxl : bX < wn.heap.size := Nat.lt_of_lt_of_le HXV.out.lt bn.size
        have z0 := Zo.dig
        have z1 := Zo.sgn
        have f0 := Zo.frz 0
        have f1 := Zo.frz 1
        have ST : Hid (Far2 (pt wo wn.heap.size (.slice (some ⟨gn, 0, none⟩) 24 24) (.bool sa)) w bR bX wn.heap.size X true (dbl a 0) sa) := by
          obtain ⟨q1, q2, q3⟩ := HQ.out
          refine ⟨(HRB.out.later bno).off Zo (by omega) _ _, (HXV.out.later bno).off Zo (by omega) _ _, ?_, q1, q2, hxl, below_pt (below_up q3 bno) (by omega) _ _⟩
          rw [dbl_zero]
          exact Vn.put Zo (NN.later bo)
        unfold pt at ST
        clear Zo bn bo bno hxl NN HTB HRB HXV HQ t0 t1
        go_wp2_with fail
        generalize World.setCell _ _ _ = wq at *
        generalize wn.heap.size = bY at *
        clear z0 z1 f0 f1 hwo
        go_loopw [13] (fun ix wr => ∃ k : Nat, k ≤ 140 ∧ ix = .int .i64 (k : Int) ∧ Hid (Far2 wr w bR bX bY X true (dbl a k) sa)) (fun ix _ => 140 - (intOf ix).toNat)
        case atStart => exact ⟨0, Nat.zero_le _, rfl, ST⟩
        case round =>
          rename World => wr2
          clear ST
          obtain ⟨j, hj, rfl, SS⟩ := hrel
          by_cases hlt : j < 140
          · have hjj : (j : Int) < 140 := by omega
            have CP := hid (CPy.out j (by omega))
            obtain ⟨RB, XV, ⟨g, YB, YN⟩, q1, q2, q3, q4⟩ := SS.out
            have HRB := hid RB
            have HXV := hid XV
            have HYB := hid YB
            have HYN := hid YN
            have HQ := hid (And.intro q1 (And.intro q2 (And.intro q3 q4)))
            have c0 := YB.dig
            have c1 := YB.sgn
            clear SS RB XV YB YN q1 q2 q3 q4
            go_wp2_with fail
            refine (CP.out _ _ _ HYN.out HYN.out).mono ?_
            rintro e wb ⟨gz, rfl, -, NZ, bb⟩
            have YBb := HYB.out.later bb
            have z0 := YBb.dig
            have z1 := YBb.sgn
            have f0 := YBb.frz 0
            have f1 := YBb.frz 1
            have ST2 : Hid (Far2 (pt wb bY (.slice (some ⟨gz, 0, none⟩) 24 24) (.bool sa)) w bR bX bY X true (dbl a (j + 1)) sa) := by
              obtain ⟨q1, q2, q3, q4⟩ := HQ.out
              exact ⟨(HRB.out.later bb).off YBb (by omega) _ _, (HXV.out.later bb).off YBb (by omega) _ _, Vn.put YBb NZ, q1, q2, q3, below_pt (below_up q4 bb) (by omega) _ _⟩
            unfold pt at ST2
            clear YBb NZ bb HRB HXV HYB HYN HQ CP c0 c1
            go_wp2_with fail
            generalize World.setCell _ _ _ = w9 at *
            clear z0 z1 f0 f1
            exact ⟨⟨j + 1, by omega, by go_num, ST2⟩, by simp [intOf]; omega⟩
          · obtain rfl : j = 140 := by omega
            rw [← HY0.out] at SS
            clear hlt hj
            obtain ⟨RB, ⟨gx, XB, XN⟩, ⟨gy, YB, YN⟩, q1, q2, q3, q4⟩ := SS.out
            have HRB := hid RB
            have XB9 := hid XB
            have NX9 := hid XN
            have YB9 := hid YB
            have NY9 := hid YN
            have HQ := hid (And.intro q1 (And.intro q2 (And.intro q3 q4)))
            clear SS RB XB XN YB YN q1 q2 q3 q4
            go_wp2_with fail
            refine wp_region_noPanic ?_
            refine wp_region_held_drew (S := fun W => Below wr2.heap.size wr2 W) (by kernel_rfl) ((Below.refl _ _).drew) (fun hHeld0 => ?_)
            refine wpAnyH_take (i := 0) (oi := { dst := some 47, op := Op.load 38 (Operand.tmp 10), type := 38, pos := "outright.go:125", after := #[], guard := none }) (v := ?_) rfl (by kernel_rfl) (by kernel_rfl) (by kernel_rfl) (fun _ _ _ h => h) (Or.inl ⟨by rfl, ?_⟩) (by assumption) ?_
            rotate_left
            · intro W hSw
              try dsimp only at hSw
              have q0 := (XB9.out.later hSw).dig; have q1 := (XB9.out.later hSw).sgn
              go_simp
              try with_reducible rfl
            try simp only [Act.put, List.setIfInBounds_toArray, List.set_cons_zero, List.set_cons_succ]
            refine wpAnyH_take (i := 1) (oi := { dst := some 48, op := Op.load 38 (Operand.tmp 12), type := 38, pos := "outright.go:125", after := #[], guard := none }) (v := ?_) rfl (by kernel_rfl) (by kernel_rfl) (by kernel_rfl) (fun _ _ _ h => h) (Or.inl ⟨by rfl, ?_⟩) (by assumption) ?_
            rotate_left
            · intro W hSw
              try dsimp only at hSw
              have q0 := (YB9.out.later hSw).dig; have q1 := (YB9.out.later hSw).sgn
              go_simp
              try with_reducible rfl
            try simp only [Act.put, List.setIfInBounds_toArray, List.set_cons_zero, List.set_cons_succ]
            refine wpAnyH_ready (rs := [2, 4]) (by kernel_rfl) (by simp) ?_
            refine AllReadyH.cons (o := { dst := some 49, op := Op.call { callee := Callee.value (Operand.func 33), args := #[Operand.tmp 48], argTypes := #[38] }, type := 38, pos := "outright.go:125", after := #[{ on := 1, ground := Ground.data }], guard := none }) rfl (fun K hK => ?_) (AllReadyH.cons (o := { dst := some 14, op := Op.alloc 38, type := 0, pos := "outright.go:125", after := #[], guard := none }) rfl (fun K hK => ?_) AllReadyH.nil)
            · rw [if_pos (by rfl)]
              go_simp
              refine (CTy.out _ _ (NY9.out.later hHeld0)).mono ?_
              rintro e v1 ⟨rfl, -, bn⟩
              refine hK.out _ _ (below_up hHeld0 bn) (fun hHeld1 => ?_)
              clear hK K hHeld0 bn
              try simp only [Act.put, List.setIfInBounds_toArray, List.set_cons_zero, List.set_cons_succ]
              refine wpAnyH_ready (rs := [3, 4]) (by kernel_rfl) (by simp) ?_
              refine AllReadyH.cons (o := { dst := some 50, op := Op.call { callee := Callee.value (Operand.func 32), args := #[Operand.tmp 47, Operand.tmp 49], argTypes := #[38, 38] }, type := 38, pos := "outright.go:125", after := #[{ on := 0, ground := Ground.data }, { on := 2, ground := Ground.data }, { on := 2, ground := Ground.chain }], guard := none }) rfl (fun K hK => ?_) (AllReadyH.cons (o := { dst := some 14, op := Op.alloc 38, type := 0, pos := "outright.go:125", after := #[], guard := none }) rfl (fun K hK => ?_) AllReadyH.nil)
              · rw [if_pos (by rfl)]
                go_simp
                refine (CPd.out _ _ _ (NX9.out.later hHeld1) ((NY9.out.later hHeld1).turn rfl)).mono ?_
                rintro e v2 ⟨gd, rfl, -, NM, bn⟩
                have HNP := hid NM
                clear NM
                refine hK.out _ _ (below_up hHeld1 bn) (fun hHeld2 => ?_)
                clear hK K hHeld1 bn
                try simp only [Act.put, List.setIfInBounds_toArray, List.set_cons_zero, List.set_cons_succ]
                refine wpAnyH_ready (rs := [4]) (by kernel_rfl) (by simp) ?_
                refine AllReadyH.cons (o := { dst := some 14, op := Op.alloc 38, type := 0, pos := "outright.go:125", after := #[], guard := none }) rfl (fun K hK => ?_) AllReadyH.nil
                rw [if_pos (by rfl)]
                go_simp
                generalize hwn : World.alloc _ (.cells #[.slice none 0 0, .bool false] 38) = v3
                have bn : Below (v2).heap.size (v2) v3 := by rw [← hwn]; exact below_new _ _
                have HD : Hid (Bn v3 (v2).heap.size (.slice none 0 0) false) := by rw [← hwn]; exact Bn.new _ _ _
                have HG : Hid (wr2.heap.size ≤ (v2).heap.size) := hHeld2.size
                refine hK.out _ _ (below_up hHeld2 bn) (fun hHeld3 => ?_)
                clear hK K hwn hHeld2
                replace HNP := hid (HNP.out.later bn)
                clear bn
                try simp only [Act.put, List.setIfInBounds_toArray, List.set_cons_zero, List.set_cons_succ]
                generalize v2.heap.size = b83 at *
                refine wpAnyH_ready (rs := [5]) (by kernel_rfl) (by simp) ?_
                refine AllReadyH.cons (o := { dst := none, op := Op.store 38 (Operand.tmp 14) (Operand.tmp 50), type := 0, pos := "outright.go:125", after := #[{ on := 4, ground := Ground.data }, { on := 3, ground := Ground.data }, { on := 3, ground := Ground.chain }, { on := 0, ground := Ground.phase }, { on := 1, ground := Ground.phase }, { on := 2, ground := Ground.phase }, { on := 3, ground := Ground.phase }, { on := 4, ground := Ground.phase }], guard := none }) rfl (fun K hK => ?_) AllReadyH.nil
                rw [if_pos (by rfl)]
                have s0 := HD.out.dig
                have s1 := HD.out.sgn
                have s2 := HD.out.frz 0
                have s3 := HD.out.frz 1
                have XD := hid (HD.out.pt (.slice (some ⟨gd, 0, none⟩) 24 24) sd)
                have ND := hid (HNP.out.off HD.out (.slice (some ⟨gd, 0, none⟩) 24 24) (.bool sd))
                have BD := hid (below_pt hHeld3 HG.out (.slice (some ⟨gd, 0, none⟩) 24 24) (.bool sd))
                unfold pt at XD ND BD
                go_simp
                refine hK.out _ _ BD.out (fun hHeld4 => ?_)
                clear hK K hHeld3 s0 s1 s2 s3 HD HNP
                try simp only [Act.put, List.setIfInBounds_toArray, List.set_cons_zero, List.set_cons_succ]
                refine wpAnyH_done (by kernel_rfl) ?_ _
                refine NoPanic.normal ?_
                generalize World.setCell _ _ _ = wD at *
                clear hHeld4
                have RD := HRB.out.later BD.out
                have ROF : Hid (Bn wD bR (.slice none 0 0) false) := RD
                have BW : Hid (Below w.heap.size w wD) := by
                  obtain ⟨q1, q2, q3, q4⟩ := HQ.out
                  exact below_up q4 BD.out
                have HRL : Hid (w.heap.size ≤ bR) := by
                  obtain ⟨q1, q2, q3, q4⟩ := HQ.out
                  exact Nat.le_of_lt q1
                have d0 := XD.out.dig
                have d1 := XD.out.sgn
                clear RD HRB XB9 NX9 YB9 NY9 HQ HG BD
                cases sd
                · have HNZ : Hid (NmB wD gd Z) := by show NmB wD gd Z; rw [← HDZ.out rfl]; exact ND.out
                  have r0 := ROF.out.dig
                  have r1 := ROF.out.sgn
                  have f0 := ROF.out.frz 0
                  have f1 := ROF.out.frz 1
                  have RP := hid (ROF.out.pt (.slice (some ⟨gd, 0, none⟩) 24 24) false)
                  have NP := hid (HNZ.out.off ROF.out (.slice (some ⟨gd, 0, none⟩) 24 24) (.bool false))
                  have BP := hid (below_pt BW.out HRL.out (.slice (some ⟨gd, 0, none⟩) 24 24) (.bool false))
                  unfold pt at RP NP BP
                  clear HNZ ND ROF BW
                  go_wp2_with fail
                  generalize World.setCell _ _ _ = wE at *
                  clear r0 r1 f0 f1 d0 d1
                  have e0 := RP.out.dig
                  have e1 := RP.out.sgn
                  simp [bodyPost, results, Tryd.results13, go_sem, e0, e1]
                  exact ⟨NP.out, BP.out⟩
                · have HND := hid ND.out
                  have CT := hid (CTd.out rfl)
                  clear ND
                  go_wp2_with fail
                  refine (CT.out _ _ HND.out).mono ?_
                  rintro e wE ⟨rfl, NE, bE⟩
                  have RE := ROF.out.later bE
                  have r0 := RE.dig
                  have r1 := RE.sgn
                  have f0 := RE.frz 0
                  have f1 := RE.frz 1
                  have RP := hid (RE.pt (.slice (some ⟨gd, 0, none⟩) 24 24) false)
                  have NP := hid (NE.off RE (.slice (some ⟨gd, 0, none⟩) 24 24) (.bool false))
                  have BP := hid (below_pt (below_up BW.out bE) HRL.out (.slice (some ⟨gd, 0, none⟩) 24 24) (.bool false))
                  unfold pt at RP NP BP
                  clear NE RE bE HND ROF BW CT
                  go_wp2_with fail
                  generalize World.setCell _ _ _ = wF at *
                  clear r0 r1 f0 f1 d0 d1
                  have e0 := RP.out.dig
                  have e1 := RP.out.sgn
                  simp [bodyPost, results, Tryd.results13, go_sem, e0, e1]
                  exact ⟨NP.out, BP.out⟩
              · rw [if_pos (by rfl)]
                go_simp
                generalize hwn : World.alloc _ (.cells #[.slice none 0 0, .bool false] 38) = v4
                have bn : Below (v1).heap.size (v1) v4 := by rw [← hwn]; exact below_new _ _
                have HD : Hid (Bn v4 (v1).heap.size (.slice none 0 0) false) := by rw [← hwn]; exact Bn.new _ _ _
                have HG : Hid (wr2.heap.size ≤ (v1).heap.size) := hHeld1.size
                refine hK.out _ _ (below_up hHeld1 bn) (fun hHeld2 => ?_)
                clear hK K hwn hHeld1
                clear bn
                try simp only [Act.put, List.setIfInBounds_toArray, List.set_cons_zero, List.set_cons_succ]
                generalize v1.heap.size = b84 at *
                refine wpAnyH_ready (rs := [3]) (by kernel_rfl) (by simp) ?_
                refine AllReadyH.cons (o := { dst := some 50, op := Op.call { callee := Callee.value (Operand.func 32), args := #[Operand.tmp 47, Operand.tmp 49], argTypes := #[38, 38] }, type := 38, pos := "outright.go:125", after := #[{ on := 0, ground := Ground.data }, { on := 2, ground := Ground.data }, { on := 2, ground := Ground.chain }], guard := none }) rfl (fun K hK => ?_) AllReadyH.nil
                rw [if_pos (by rfl)]
                go_simp
                refine (CPd.out _ _ _ (NX9.out.later hHeld2) ((NY9.out.later hHeld2).turn rfl)).mono ?_
                rintro e v5 ⟨gd, rfl, -, NM, bn⟩
                have HNP := hid NM
                clear NM
                replace HD := hid (HD.out.later bn)
                refine hK.out _ _ (below_up hHeld2 bn) (fun hHeld3 => ?_)
                clear hK K hHeld2 bn
                try simp only [Act.put, List.setIfInBounds_toArray, List.set_cons_zero, List.set_cons_succ]
                refine wpAnyH_ready (rs := [5]) (by kernel_rfl) (by simp) ?_
                refine AllReadyH.cons (o := { dst := none, op := Op.store 38 (Operand.tmp 14) (Operand.tmp 50), type := 0, pos := "outright.go:125", after := #[{ on := 4, ground := Ground.data }, { on := 3, ground := Ground.data }, { on := 3, ground := Ground.chain }, { on := 0, ground := Ground.phase }, { on := 1, ground := Ground.phase }, { on := 2, ground := Ground.phase }, { on := 3, ground := Ground.phase }, { on := 4, ground := Ground.phase }], guard := none }) rfl (fun K hK => ?_) AllReadyH.nil
                rw [if_pos (by rfl)]
                have s0 := HD.out.dig
                have s1 := HD.out.sgn
                have s2 := HD.out.frz 0
                have s3 := HD.out.frz 1
                have XD := hid (HD.out.pt (.slice (some ⟨gd, 0, none⟩) 24 24) sd)
                have ND := hid (HNP.out.off HD.out (.slice (some ⟨gd, 0, none⟩) 24 24) (.bool sd))
                have BD := hid (below_pt hHeld3 HG.out (.slice (some ⟨gd, 0, none⟩) 24 24) (.bool sd))
                unfold pt at XD ND BD
                go_simp
                refine hK.out _ _ BD.out (fun hHeld4 => ?_)
                clear hK K hHeld3 s0 s1 s2 s3 HD HNP
                try simp only [Act.put, List.setIfInBounds_toArray, List.set_cons_zero, List.set_cons_succ]
                refine wpAnyH_done (by kernel_rfl) ?_ _
                refine NoPanic.normal ?_
                generalize World.setCell _ _ _ = wD at *
                clear hHeld4
                have RD := HRB.out.later BD.out
                have ROF : Hid (Bn wD bR (.slice none 0 0) false) := RD
                have BW : Hid (Below w.heap.size w wD) := by
                  obtain ⟨q1, q2, q3, q4⟩ := HQ.out
                  exact below_up q4 BD.out
                have HRL : Hid (w.heap.size ≤ bR) := by
                  obtain ⟨q1, q2, q3, q4⟩ := HQ.out
                  exact Nat.le_of_lt q1
                have d0 := XD.out.dig
                have d1 := XD.out.sgn
                clear RD HRB XB9 NX9 YB9 NY9 HQ HG BD
                cases sd
                · have HNZ : Hid (NmB wD gd Z) := by show NmB wD gd Z; rw [← HDZ.out rfl]; exact ND.out
                  have r0 := ROF.out.dig
                  have r1 := ROF.out.sgn
                  have f0 := ROF.out.frz 0
                  have f1 := ROF.out.frz 1
                  have RP := hid (ROF.out.pt (.slice (some ⟨gd, 0, none⟩) 24 24) false)
                  have NP := hid (HNZ.out.off ROF.out (.slice (some ⟨gd, 0, none⟩) 24 24) (.bool false))
                  have BP := hid (below_pt BW.out HRL.out (.slice (some ⟨gd, 0, none⟩) 24 24) (.bool false))
                  unfold pt at RP NP BP
                  clear HNZ ND ROF BW
                  go_wp2_with fail
                  generalize World.setCell _ _ _ = wE at *
                  clear r0 r1 f0 f1 d0 d1
                  have e0 := RP.out.dig
                  have e1 := RP.out.sgn
                  simp [bodyPost, results, Tryd.results13, go_sem, e0, e1]
                  exact ⟨NP.out, BP.out⟩
                · have HND := hid ND.out
                  have CT := hid (CTd.out rfl)
                  clear ND
                  go_wp2_with fail
                  refine (CT.out _ _ HND.out).mono ?_
                  rintro e wE ⟨rfl, NE, bE⟩
                  have RE := ROF.out.later bE
                  have r0 := RE.dig
                  have r1 := RE.sgn
                  have f0 := RE.frz 0
                  have f1 := RE.frz 1
                  have RP := hid (RE.pt (.slice (some ⟨gd, 0, none⟩) 24 24) false)
                  have NP := hid (NE.off RE (.slice (some ⟨gd, 0, none⟩) 24 24) (.bool false))
                  have BP := hid (below_pt (below_up BW.out bE) HRL.out (.slice (some ⟨gd, 0, none⟩) 24 24) (.bool false))
                  unfold pt at RP NP BP
                  clear NE RE bE HND ROF BW CT
                  go_wp2_with fail
                  generalize World.setCell _ _ _ = wF at *
                  clear r0 r1 f0 f1 d0 d1
                  have e0 := RP.out.dig
                  have e1 := RP.out.sgn
                  simp [bodyPost, results, Tryd.results13, go_sem, e0, e1]
                  exact ⟨NP.out, BP.out⟩
            · rw [if_pos (by rfl)]
              go_simp
              generalize hwn : World.drew (World.alloc _ (.cells #[.slice none 0 0, .bool false] 38)) = v6
              have bn : Below wr2.heap.size wr2 v6 := by rw [← hwn]; exact (below_new _ _).drew
              have HD : Hid (Bn v6 wr2.heap.size (.slice none 0 0) false) := by rw [← hwn]; exact Bn.new wr2 _ _
              have HG : Hid (wr2.heap.size ≤ wr2.heap.size) := Nat.le_refl _
              refine hK.out _ _ bn (fun hHeld1 => ?_)
              clear hK K hwn hHeld0
              clear bn
              try simp only [Act.put, List.setIfInBounds_toArray, List.set_cons_zero, List.set_cons_succ]
              refine wpAnyH_ready (rs := [2]) (by kernel_rfl) (by simp) ?_
              refine AllReadyH.cons (o := { dst := some 49, op := Op.call { callee := Callee.value (Operand.func 33), args := #[Operand.tmp 48], argTypes := #[38] }, type := 38, pos := "outright.go:125", after := #[{ on := 1, ground := Ground.data }], guard := none }) rfl (fun K hK => ?_) AllReadyH.nil
              rw [if_pos (by rfl)]
              go_simp
              refine (CTy.out _ _ (NY9.out.later hHeld1)).mono ?_
              rintro e v7 ⟨rfl, -, bn⟩
              replace HD := hid (HD.out.later bn)
              refine hK.out _ _ (below_up hHeld1 bn) (fun hHeld2 => ?_)
              clear hK K hHeld1 bn
              try simp only [Act.put, List.setIfInBounds_toArray, List.set_cons_zero, List.set_cons_succ]
              refine wpAnyH_ready (rs := [3]) (by kernel_rfl) (by simp) ?_
              refine AllReadyH.cons (o := { dst := some 50, op := Op.call { callee := Callee.value (Operand.func 32), args := #[Operand.tmp 47, Operand.tmp 49], argTypes := #[38, 38] }, type := 38, pos := "outright.go:125", after := #[{ on := 0, ground := Ground.data }, { on := 2, ground := Ground.data }, { on := 2, ground := Ground.chain }], guard := none }) rfl (fun K hK => ?_) AllReadyH.nil
              rw [if_pos (by rfl)]
              go_simp
              refine (CPd.out _ _ _ (NX9.out.later hHeld2) ((NY9.out.later hHeld2).turn rfl)).mono ?_
              rintro e v8 ⟨gd, rfl, -, NM, bn⟩
              have HNP := hid NM
              clear NM
              replace HD := hid (HD.out.later bn)
              refine hK.out _ _ (below_up hHeld2 bn) (fun hHeld3 => ?_)
              clear hK K hHeld2 bn
              try simp only [Act.put, List.setIfInBounds_toArray, List.set_cons_zero, List.set_cons_succ]
              refine wpAnyH_ready (rs := [5]) (by kernel_rfl) (by simp) ?_
              refine AllReadyH.cons (o := { dst := none, op := Op.store 38 (Operand.tmp 14) (Operand.tmp 50), type := 0, pos := "outright.go:125", after := #[{ on := 4, ground := Ground.data }, { on := 3, ground := Ground.data }, { on := 3, ground := Ground.chain }, { on := 0, ground := Ground.phase }, { on := 1, ground := Ground.phase }, { on := 2, ground := Ground.phase }, { on := 3, ground := Ground.phase }, { on := 4, ground := Ground.phase }], guard := none }) rfl (fun K hK => ?_) AllReadyH.nil
              rw [if_pos (by rfl)]
              have s0 := HD.out.dig
              have s1 := HD.out.sgn
              have s2 := HD.out.frz 0
              have s3 := HD.out.frz 1
              have XD := hid (HD.out.pt (.slice (some ⟨gd, 0, none⟩) 24 24) sd)
              have ND := hid (HNP.out.off HD.out (.slice (some ⟨gd, 0, none⟩) 24 24) (.bool sd))
              have BD := hid (below_pt hHeld3 HG.out (.slice (some ⟨gd, 0, none⟩) 24 24) (.bool sd))
              unfold pt at XD ND BD
              go_simp
              refine hK.out _ _ BD.out (fun hHeld4 => ?_)
              clear hK K hHeld3 s0 s1 s2 s3 HD HNP
              try simp only [Act.put, List.setIfInBounds_toArray, List.set_cons_zero, List.set_cons_succ]
              refine wpAnyH_done (by kernel_rfl) ?_ _
              refine NoPanic.normal ?_
              generalize World.setCell _ _ _ = wD at *
              clear hHeld4
              have RD := HRB.out.later BD.out
              have ROF : Hid (Bn wD bR (.slice none 0 0) false) := RD
              have BW : Hid (Below w.heap.size w wD) := by
                obtain ⟨q1, q2, q3, q4⟩ := HQ.out
                exact below_up q4 BD.out
              have HRL : Hid (w.heap.size ≤ bR) := by
                obtain ⟨q1, q2, q3, q4⟩ := HQ.out
                exact Nat.le_of_lt q1
              have d0 := XD.out.dig
              have d1 := XD.out.sgn
              clear RD HRB XB9 NX9 YB9 NY9 HQ HG BD
              cases sd
              · have HNZ : Hid (NmB wD gd Z) := by show NmB wD gd Z; rw [← HDZ.out rfl]; exact ND.out
                have r0 := ROF.out.dig
                have r1 := ROF.out.sgn
                have f0 := ROF.out.frz 0
                have f1 := ROF.out.frz 1
                have RP := hid (ROF.out.pt (.slice (some ⟨gd, 0, none⟩) 24 24) false)
                have NP := hid (HNZ.out.off ROF.out (.slice (some ⟨gd, 0, none⟩) 24 24) (.bool false))
                have BP := hid (below_pt BW.out HRL.out (.slice (some ⟨gd, 0, none⟩) 24 24) (.bool false))
                unfold pt at RP NP BP
                clear HNZ ND ROF BW
                go_wp2_with fail
                generalize World.setCell _ _ _ = wE at *
                clear r0 r1 f0 f1 d0 d1
                have e0 := RP.out.dig
                have e1 := RP.out.sgn
                simp [bodyPost, results, Tryd.results13, go_sem, e0, e1]
                exact ⟨NP.out, BP.out⟩
              · have HND := hid ND.out
                have CT := hid (CTd.out rfl)
                clear ND
                go_wp2_with fail
                refine (CT.out _ _ HND.out).mono ?_
                rintro e wE ⟨rfl, NE, bE⟩
                have RE := ROF.out.later bE
                have r0 := RE.dig
                have r1 := RE.sgn
                have f0 := RE.frz 0
                have f1 := RE.frz 1
                have RP := hid (RE.pt (.slice (some ⟨gd, 0, none⟩) 24 24) false)
                have NP := hid (NE.off RE (.slice (some ⟨gd, 0, none⟩) 24 24) (.bool false))
                have BP := hid (below_pt (below_up BW.out bE) HRL.out (.slice (some ⟨gd, 0, none⟩) 24 24) (.bool false))
                unfold pt at RP NP BP
                clear NE RE bE HND ROF BW CT
                go_wp2_with fail
                generalize World.setCell _ _ _ = wF at *
                clear r0 r1 f0 f1 d0 d1
                have e0 := RP.out.dig
                have e1 := RP.out.sgn
                simp [bodyPost, results, Tryd.results13, go_sem, e0, e1]
                exact ⟨NP.out, BP.out⟩
end Go.Proofs.YtdfmaicmbnjilaaDoor
