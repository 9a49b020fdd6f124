/-
  math/bits.Div64.
-/
import Derived.Test.YtdfmaicmbnjilaaDoorWOps
import Derived.Test.YtdfmaicmbnjilaaDoorWDivM
namespace Go.Proofs.YtdfmaicmbnjilaaDoor
open Go.RowKit Wd

theorem lz_any (y : Nat) (h : y < 18446744073709551616) (w : World) : Calls Tryd.prog 47 #[.int .u64 (y : Int)] w fun e w' => e = .returned (.int .i64 (64 - (Lib.bitLen y : Int))) ∧ w' = w := by
  have := Any.bits_LeadingZeros64 laidLz (y : Int) w (by omega) (by omega)
  rw [Int.toNat_natCast] at this
  exact this
theorem wrapN {x : Nat} (h : x < 18446744073709551616) : IntKind.u64.wrap (x : Int) = (x : Int) := by rw [IntKind.wrap_u64]; omega
theorem or_two {v z k : Nat} (hv : v < 2 ^ k) : (z * 2 ^ k) ||| v = z * 2 ^ k + v := by
  rw [Nat.mul_comm z, ← Nat.two_pow_add_eq_or_of_lt hv]
set_option maxRecDepth 8000 in
set_option maxHeartbeats 1600000 in
theorem div_small (l y : Nat) (hl : l < 18446744073709551616) (hy : 0 < y) (w : World) :
    Calls Tryd.prog 44 #[.int .u64 0, .int .u64 (l : Int), .int .u64 (y : Int)] w fun e w' => e = .returned (.tuple #[.int .u64 ((l / y : Nat) : Int), .int .u64 ((l % y : Nat) : Int)]) ∧ Below w.heap.size w w' := by
  have h0 : ¬ (y : Int) = 0 := by omega
  have h1 : ¬ (y : Int) ≤ 0 := by omega
  have e1 : (l : Int) / (y : Int) = ((l / y : Nat) : Int) := (Int.natCast_ediv l y).symm
  have e2 : (l : Int) % (y : Int) = ((l % y : Nat) : Int) := (Int.natCast_emod l y).symm
  have e3 : l / y < 18446744073709551616 := Nat.lt_of_le_of_lt (Nat.div_le_self _ _) hl
  generalize l / y = q at *
  generalize l % y = r at *
  have e4 := wrapN e3
  go_enter Tryd.func44, Tryd.ntmps44
  go_wp2_with fail
  go_quiet (fail)
  go_wp2_with fail
  go_ret2
  exact ⟨by rw [← e2]; rfl, below_drewN (Below.refl _ _) _⟩
theorem div_lets {h l y s : Nat} (hl : l < 18446744073709551616) (hy : h < y) (hs : s ≤ 63) (h1 : y * 2 ^ s < 18446744073709551616) :
    ∃ L1 u v : Nat, (l : Int) / 2 ^ (64 - s) = (L1 : Int) ∧ bits BinOp.or IntKind.u64 ((h * 2 ^ s : Nat) : Int) (L1 : Int) = (u : Int) ∧ IntKind.u64.wrap ((l : Int) * 2 ^ s) = (v : Int) ∧ u = (h * 18446744073709551616 + l) * 2 ^ s / 18446744073709551616 ∧ v = (h * 18446744073709551616 + l) * 2 ^ s % 18446744073709551616 ∧ L1 < 18446744073709551616 ∧ u < y * 2 ^ s := by
  have hp : 2 ^ (64 - s) * 2 ^ s = 18446744073709551616 := by rw [← Nat.pow_add, show 64 - s + s = 64 by omega]
  have hp0 : 0 < 2 ^ s := Nat.two_pow_pos s
  have hL : l / 2 ^ (64 - s) < 2 ^ s := by
    rw [Nat.div_lt_iff_lt_mul (Nat.two_pow_pos _), Nat.mul_comm, hp]; exact hl
  have hs2 : 2 ^ s ≤ 9223372036854775808 := Nat.le_trans (Nat.pow_le_pow_right (by decide) hs) (by decide)
  have hH : h * 2 ^ s + 2 ^ s ≤ y * 2 ^ s := by
    have := Nat.mul_le_mul_right (2 ^ s) (show h + 1 ≤ y from hy)
    rw [Nat.add_mul] at this; omega
  have hsplit : l * 2 ^ s = l / 2 ^ (64 - s) * 18446744073709551616 + l * 2 ^ s % 18446744073709551616 := by
    have e : l * 2 ^ s / 18446744073709551616 = l / 2 ^ (64 - s) := by
      rw [← hp, Nat.mul_comm (2 ^ (64 - s)), ← Nat.div_div_eq_div_mul, Nat.mul_div_cancel _ hp0]
    have := Nat.div_add_mod (l * 2 ^ s) 18446744073709551616
    rw [e] at this
    omega
  have hN : (h * 18446744073709551616 + l) * 2 ^ s = (h * 2 ^ s + l / 2 ^ (64 - s)) * 18446744073709551616 + l * 2 ^ s % 18446744073709551616 := by
    rw [Nat.add_mul, Nat.mul_right_comm]
    conv => lhs; rw [hsplit]
    omega
  refine ⟨l / 2 ^ (64 - s), h * 2 ^ s + l / 2 ^ (64 - s), l * 2 ^ s % 18446744073709551616, ?_, ?_, ?_, ?_, ?_, by omega, by omega⟩
  · rw [Int.natCast_ediv, Int.natCast_pow]; rfl
  · rw [u64_or_nat _ _ (by omega) (by omega), or_two hL]
  · rw [IntKind.wrap_u64, Int.natCast_emod, Int.natCast_mul, Int.natCast_pow]; rfl
  · rw [hN]; omega
  · rw [hN]; omega
theorem and_low {x : Nat} (h : x < 18446744073709551616) : bits BinOp.and IntKind.u64 (x : Int) 4294967295 = ((x % 4294967296 : Nat) : Int) := by
  rw [show (4294967295 : Int) = ((4294967295 : Nat) : Int) from rfl, u64_and_nat x 4294967295 h (by omega), show (4294967295 : Nat) = 2 ^ 32 - 1 by decide, Nat.and_two_pow_sub_one_eq_mod]
/-- The guess that a digit begins with. -/
theorem guess_lets {Y u : Nat} (hY : 9223372036854775808 ≤ Y) (hu : u < Y) (h64 : Y < 18446744073709551616) : ∃ q m r : Nat, (u : Int) / ((Y / 4294967296 : Nat) : Int) = (q : Int) ∧ (q : Int) * ((Y / 4294967296 : Nat) : Int) = (m : Int) ∧ (u : Int) - (m : Int) = (r : Int) ∧ q = u / (Y / 4294967296) ∧ r = u % (Y / 4294967296) ∧ q < 18446744073709551616 ∧ m ≤ u ∧ r < 4294967296 := by
  have ha : 0 < Y / 4294967296 := by omega
  have h1 := Nat.div_add_mod u (Y / 4294967296)
  have h2 := Nat.mod_lt u ha
  have h3 : u / (Y / 4294967296) ≤ u := Nat.div_le_self _ _
  refine ⟨u / (Y / 4294967296), u / (Y / 4294967296) * (Y / 4294967296), u % (Y / 4294967296), (Int.natCast_ediv _ _).symm, (Int.natCast_mul _ _).symm, ?_, rfl, rfl, by omega, ?_, by omega⟩
  · rw [Nat.mul_comm] at h1; omega
  · rw [Nat.mul_comm] at h1; omega
set_option maxRecDepth 8000 in
set_option maxHeartbeats 4000000 in
theorem div_big (h l y : Nat) (hh : 0 < h) (hl : l < 18446744073709551616) (hy : h < y) (hy2 : y < 18446744073709551616) (Qt Rt : Nat) (hQt : Qt = (h * 18446744073709551616 + l) / y) (hRt : Rt = (h * 18446744073709551616 + l) % y) (w : World) :
    Calls Tryd.prog 44 #[.int .u64 (h : Int), .int .u64 (l : Int), .int .u64 (y : Int)] w fun e w' => e = .returned (.tuple #[.int .u64 (Qt : Int), .int .u64 (Rt : Int)]) ∧ w' = w := by
  have HQt := hid hQt
  have HRt := hid hRt
  clear hQt hRt
  have h0 : ¬ (y : Int) = 0 := by omega
  have h1 : ¬ (y : Int) ≤ (h : Int) := by omega
  have h2 : ¬ (h : Int) = 0 := by omega
  have CL := hid (lz_any y hy2)
  obtain ⟨z1, z2, z3⟩ := lz_bounds (show 0 < y by omega) hy2
  have zz := (bl_bounds 64 y (Nat.le_refl _) (by omega) (by simpa using hy2)).1
  obtain ⟨s, hs⟩ : ∃ s, s = 64 - Lib.bitLen y := ⟨_, rfl⟩
  have hs' : 64 - (Lib.bitLen y : Int) = (s : Int) := by omega
  rw [hs'] at CL
  rw [← hs] at z2 z3
  have hs63 : s ≤ 63 := by omega
  clear hs hs' z1 zz
  obtain ⟨L1, u, v, F5, F6, F7, hu, hv, hL1, huY⟩ := div_lets hl hy hs63 z3
  have hHl : h * 2 ^ s < 18446744073709551616 := by
    have := Nat.mul_le_mul_right (2 ^ s) (Nat.le_of_lt hy); omega
  have F1 : IntKind.u64.wrap ((y : Int) * 2 ^ s) = ((y * 2 ^ s : Nat) : Int) := by
    rw [← wrapN z3, Int.natCast_mul, Int.natCast_pow]; rfl
  have F4 : IntKind.u64.wrap ((h : Int) * 2 ^ s) = ((h * 2 ^ s : Nat) : Int) := by
    rw [← wrapN hHl, Int.natCast_mul, Int.natCast_pow]; rfl
  have HR : Hid (((h * 18446744073709551616 + l) * 2 ^ s) / (y * 2 ^ s) = (h * 18446744073709551616 + l) / y ∧ ((h * 18446744073709551616 + l) * 2 ^ s) % (y * 2 ^ s) = (h * 18446744073709551616 + l) % y * 2 ^ s) :=
    ⟨Nat.mul_div_mul_right _ _ (Nat.two_pow_pos s), Nat.mul_mod_mul_right _ _ _⟩
  have hvl : v < 18446744073709551616 := by rw [hv]; exact Nat.mod_lt _ (by decide)
  have HUV : Hid (u = (h * 18446744073709551616 + l) * 2 ^ s / 18446744073709551616 ∧ v = (h * 18446744073709551616 + l) * 2 ^ s % 18446744073709551616) := ⟨hu, hv⟩
  clear hu hv
  obtain ⟨Y, hY⟩ : ∃ Y, Y = y * 2 ^ s := ⟨_, rfl⟩
  rw [← hY] at z2 z3 huY F1 HR
  clear hY
  obtain ⟨HH, hHH⟩ : ∃ HH, HH = h * 2 ^ s := ⟨_, rfl⟩
  rw [← hHH] at F4 F6 hHl
  clear hHH
  have HY := hid z2
  have F3 := and_low z3
  have F9 := and_low hvl
  obtain ⟨q0, m0, r01, G1, G2, G3, hq0, hr0, hq01, hm0, hr01⟩ := guess_lets z2 huY z3
  have hd1 : v / 4294967296 < 4294967296 := by omega
  have K1 : Hid (Kn Y u (v / 4294967296) q0 r01) := by rw [hq0, hr0]; exact kn_start z2 hd1
  clear hq0 hr0
  obtain ⟨a, ha⟩ : ∃ a, a = Y / 4294967296 := ⟨_, rfl⟩
  obtain ⟨b, hb⟩ : ∃ b, b = Y % 4294967296 := ⟨_, rfl⟩
  obtain ⟨d1, hd1e⟩ : ∃ d1, d1 = v / 4294967296 := ⟨_, rfl⟩
  obtain ⟨d0, hd0e⟩ : ∃ d0, d0 = v % 4294967296 := ⟨_, rfl⟩
  rw [← ha] at G1 G2
  rw [← hb] at F3
  rw [← hd1e] at K1 hd1
  rw [← hd0e] at F9
  have F2 : (Y : Int) / 4294967296 = (a : Int) := by omega
  have F8 : (v : Int) / 4294967296 = (d1 : Int) := by omega
  have hd2 : d0 < 4294967296 := by omega
  have hal : a < 4294967296 := by omega
  have ha0 : 0 < a := by omega
  have hbl : b < 4294967296 := by omega
  have HA := hid ha
  have HBb := hid hb
  have HD1 := hid hd1e
  have HD0 := hid hd0e
  have HuY1 := hid huY
  have hul : u < 18446744073709551616 := by omega
  have Hm0 := hid hm0
  have hml : m0 < 18446744073709551616 := by omega
  have hne : ¬ (a : Int) = 0 := by omega
  clear ha hb hd1e hd0e huY z2 hm0
  go_enter Tryd.func44, Tryd.ntmps44
  go_wp2_with (go_at_call 47; refine (CL.out _).mono ?_; rintro e w9 ⟨rfl, hw9⟩; subst w9)
  go_loopw [15, 16] (fun x y wr => ∃ q r : Nat, x = .int .u64 q ∧ y = .int .u64 r ∧ Hid (Kn Y u d1 q r) ∧ r < 4294967296 ∧ q < 18446744073709551616 ∧ Hid (wr = w)) (fun x _ _ => (intOf x).toNat)
  case atStart => exact ⟨q0, r01, rfl, rfl, K1, hr01, hq01, rfl⟩
  case round =>
    rename World => wr0
    obtain ⟨q, r, rfl, rfl, KK, hr, hq, hwr0⟩ := hrel
    have hwr1 : wr0 = w := hwr0.out
    clear hwr0
    subst wr0
    obtain ⟨p, hp⟩ : ∃ p, p = q * b := ⟨_, rfl⟩
    obtain ⟨T, hT⟩ : ∃ T, T = 4294967296 * r + d1 := ⟨_, rfl⟩
    have ep : (q : Int) * (b : Int) = (p : Int) := by rw [hp]; exact (Int.natCast_mul _ _).symm
    have eT : 4294967296 * (r : Int) + (d1 : Int) = (T : Int) := by omega
    have hTl : T < 18446744073709551616 := by omega
    have eS : 4294967296 * (r : Int) < 18446744073709551616 := by omega
    obtain ⟨q', hq'⟩ : ∃ q', q' = q - 1 := ⟨_, rfl⟩
    obtain ⟨r', hr'⟩ : ∃ r', r' = r + a := ⟨_, rfl⟩
    have er : (r : Int) + (a : Int) = (r' : Int) := by omega
    have hrl : r' < 18446744073709551616 := by omega
    by_cases c1 : 4294967296 ≤ q
    · have c1' : 4294967296 ≤ (q : Int) := by omega
      have eq' : (q : Int) - 1 = (q' : Int) := by omega
      have K2 : Hid (Kn Y u d1 q' r') := by rw [hq', hr', HA.out]; exact kn_big HuY1.out hd1 KK.out c1
      have HQ : Hid (q' < q) := by show _ < _; omega
      clear hp hT hq' hr' ep eT hTl eS
      by_cases c2 : 4294967296 ≤ r'
      · have c2' : 4294967296 ≤ (r' : Int) := by omega
        have HE : Hid (q' = (u * 4294967296 + d1) / Y) := kn_break HY.out HuY1.out K2.out c2
        have hq'l : q' < 4294967296 := by rw [HE.out]; exact kn_low HuY1.out hd1
        clear K2 KK HQ c1
        obtain ⟨q1, hq1v⟩ : ∃ q1, q1 = q' := ⟨_, rfl⟩
        subst hq1v
        have HE1 := hid HE.out
        clear HE
        obtain ⟨X1, HX1⟩ : ∃ X1, IntKind.u64.wrap ((u : Int) * 4294967296) = X1 := ⟨_, rfl⟩
        obtain ⟨X2, HX2⟩ : ∃ X2, IntKind.u64.wrap (X1 + (d1 : Int)) = X2 := ⟨_, rfl⟩
        obtain ⟨X3, HX3⟩ : ∃ X3, IntKind.u64.wrap ((q1 : Int) * (Y : Int)) = X3 := ⟨_, rfl⟩
        obtain ⟨u2, hu2⟩ : ∃ u2, u2 = (u * 4294967296 + d1) % Y := ⟨_, rfl⟩
        have HX4 : IntKind.u64.wrap (X2 - X3) = (u2 : Int) := by
          rw [hu2, ← kn_rest Y u d1 (by have := HY.out; omega) z3, ← HE1.out, ← HX2, ← HX1, ← HX3]
          simp only [IntKind.wrap_u64]
          omega
        have huY2 : u2 < Y := by rw [hu2]; exact Nat.mod_lt _ (by have := HY.out; omega)
        have HU2 := hid hu2
        obtain ⟨p0, m02, r02, J1, J2, J3, hp0, hr0, hq02, hm02, hr02⟩ := guess_lets HY.out huY2 z3
        have K2' : Hid (Kn Y u2 d0 p0 r02) := by rw [hp0, hr0]; exact kn_start HY.out hd2
        rw [← HA.out] at J1 J2
        clear hp0 hr0 hu2 hm02
        have HuY2 := hid huY2
        have hul2 : u2 < 18446744073709551616 := by omega
        have hml2 : m02 < 18446744073709551616 := by omega
        have K2 := hid K2'.out
        clear K2'
        go_wp2_with fail
        go_loopw [18, 16] (fun x y wr => ∃ q r : Nat, x = .int .u64 q ∧ y = .int .u64 r ∧ Hid (Kn Y u2 d0 q r) ∧ r < 4294967296 ∧ q < 18446744073709551616 ∧ Hid (wr = w)) (fun x _ _ => (intOf x).toNat)
        case atStart => exact ⟨p0, r02, rfl, rfl, K2, hr02, hq02, rfl⟩
        case round =>
          rename World => wr0
          obtain ⟨q, r, rfl, rfl, KK, hr, hq, hwr0⟩ := hrel
          have hwr1 : wr0 = w := hwr0.out
          clear hwr0
          subst wr0
          obtain ⟨p, hp⟩ : ∃ p, p = q * b := ⟨_, rfl⟩
          obtain ⟨T, hT⟩ : ∃ T, T = 4294967296 * r + d0 := ⟨_, rfl⟩
          have ep : (q : Int) * (b : Int) = (p : Int) := by rw [hp]; exact (Int.natCast_mul _ _).symm
          have eT : 4294967296 * (r : Int) + (d0 : Int) = (T : Int) := by omega
          have hTl : T < 18446744073709551616 := by omega
          have eS : 4294967296 * (r : Int) < 18446744073709551616 := by omega
          obtain ⟨q', hq'⟩ : ∃ q', q' = q - 1 := ⟨_, rfl⟩
          obtain ⟨r', hr'⟩ : ∃ r', r' = r + a := ⟨_, rfl⟩
          have er : (r : Int) + (a : Int) = (r' : Int) := by omega
          have hrl : r' < 18446744073709551616 := by omega
          by_cases c1 : 4294967296 ≤ q
          · have c1' : 4294967296 ≤ (q : Int) := by omega
            have eq' : (q : Int) - 1 = (q' : Int) := by omega
            have K2 : Hid (Kn Y u2 d0 q' r') := by rw [hq', hr', HA.out]; exact kn_big HuY2.out hd2 KK.out c1
            have HQ : Hid (q' < q) := by show _ < _; omega
            clear hp hT hq' hr' ep eT hTl eS
            by_cases c2 : 4294967296 ≤ r'
            · have c2' : 4294967296 ≤ (r' : Int) := by omega
              have HE : Hid (q' = (u2 * 4294967296 + d0) / Y) := kn_break HY.out HuY2.out K2.out c2
              have hq'l : q' < 4294967296 := by rw [HE.out]; exact kn_low HuY2.out hd2
              clear K2 KK HQ c1
              have HE2 := hid HE.out
              clear HE
              obtain ⟨V1, HV1⟩ : ∃ V1, IntKind.u64.wrap ((q1 : Int) * 4294967296) = V1 := ⟨_, rfl⟩
              obtain ⟨k1, k2⟩ := kn_both Y ((h * 18446744073709551616 + l) * 2 ^ s) (by have := HY.out; omega)
              have kd : (h * 18446744073709551616 + l) * 2 ^ s % 4294967296 = d0 := by have := HD0.out; have := HUV.out.2; omega
              rw [kd, ← HUV.out.1, ← HUV.out.2, ← HD1.out, ← HU2.out, ← HE1.out, ← HE2.out, HR.out.1] at k1
              rw [kd, ← HUV.out.1, ← HUV.out.2, ← HD1.out, ← HU2.out, HR.out.2] at k2
              rw [← HQt.out] at k1
              rw [← HRt.out] at k2
              have HV2 : IntKind.u64.wrap (V1 + (q' : Int)) = (Qt : Int) := by
                rw [← HV1, ← k1]
                simp only [IntKind.wrap_u64]
                omega
              obtain ⟨V3, HV3⟩ : ∃ V3, IntKind.u64.wrap ((u2 : Int) * 4294967296) = V3 := ⟨_, rfl⟩
              obtain ⟨V4, HV4⟩ : ∃ V4, IntKind.u64.wrap (V3 + (d0 : Int)) = V4 := ⟨_, rfl⟩
              obtain ⟨V5, HV5⟩ : ∃ V5, IntKind.u64.wrap ((q' : Int) * (Y : Int)) = V5 := ⟨_, rfl⟩
              obtain ⟨Z, hZ⟩ : ∃ Z, Z = (u2 * 4294967296 + d0) % Y := ⟨_, rfl⟩
              have HV6 : IntKind.u64.wrap (V4 - V5) = (Z : Int) := by
                rw [hZ, ← kn_rest Y u2 d0 (by have := HY.out; omega) z3, ← HE2.out, ← HV4, ← HV3, ← HV5]
                simp only [IntKind.wrap_u64]
                omega
              have HV7 : (Z : Int) / 2 ^ s = (Rt : Int) := by
                have e : Z / 2 ^ s = Rt := by rw [hZ, k2, Nat.mul_div_cancel _ (Nat.two_pow_pos s)]
                rw [← e, Int.natCast_ediv, Int.natCast_pow]; rfl
              clear k1 k2 kd hZ
              go_wp2_with fail
              go_ret2
              exact ⟨rfl, rfl⟩
            · have c2' : ¬ 4294967296 ≤ (r' : Int) := by omega
              have hq'l : q' < 18446744073709551616 := by have := HQ.out; omega
              go_wp2_with fail
              exact ⟨⟨q', r', rfl, rfl, K2, by omega, hq'l, by first | trivial | rfl | exact hid rfl⟩, by have := HQ.out; simp [intOf]; omega⟩
          · have c1' : ¬ 4294967296 ≤ (q : Int) := by omega
            have hpl : p < 18446744073709551616 := by
              have : q * b ≤ 4294967295 * 4294967295 := Nat.mul_le_mul (by omega) (by omega)
              omega
            by_cases c3 : T < p
            · have c3' : (T : Int) < (p : Int) := by omega
              have hq1 : 1 ≤ q := by
                rcases Nat.eq_zero_or_pos q with k | k
                · rw [k, Nat.zero_mul] at hp; omega
                · exact k
              have eq' : (q : Int) - 1 = (q' : Int) := by omega
              have K2 : Hid (Kn Y u2 d0 q' r') := by rw [hq', hr', HA.out]; exact kn_gt (by have := HY.out; omega) KK.out (by rw [← HBb.out]; omega)
              have HQ : Hid (q' < q) := by show _ < _; omega
              clear hp hT hq' hr' c3 hq1
              by_cases c2 : 4294967296 ≤ r'
              · have c2' : 4294967296 ≤ (r' : Int) := by omega
                have HE : Hid (q' = (u2 * 4294967296 + d0) / Y) := kn_break HY.out HuY2.out K2.out c2
                have hq'l : q' < 4294967296 := by rw [HE.out]; exact kn_low HuY2.out hd2
                clear K2 KK HQ c1
                have HE2 := hid HE.out
                clear HE
                obtain ⟨V1, HV1⟩ : ∃ V1, IntKind.u64.wrap ((q1 : Int) * 4294967296) = V1 := ⟨_, rfl⟩
                obtain ⟨k1, k2⟩ := kn_both Y ((h * 18446744073709551616 + l) * 2 ^ s) (by have := HY.out; omega)
                have kd : (h * 18446744073709551616 + l) * 2 ^ s % 4294967296 = d0 := by have := HD0.out; have := HUV.out.2; omega
                rw [kd, ← HUV.out.1, ← HUV.out.2, ← HD1.out, ← HU2.out, ← HE1.out, ← HE2.out, HR.out.1] at k1
                rw [kd, ← HUV.out.1, ← HUV.out.2, ← HD1.out, ← HU2.out, HR.out.2] at k2
                rw [← HQt.out] at k1
                rw [← HRt.out] at k2
                have HV2 : IntKind.u64.wrap (V1 + (q' : Int)) = (Qt : Int) := by
                  rw [← HV1, ← k1]
                  simp only [IntKind.wrap_u64]
                  omega
                obtain ⟨V3, HV3⟩ : ∃ V3, IntKind.u64.wrap ((u2 : Int) * 4294967296) = V3 := ⟨_, rfl⟩
                obtain ⟨V4, HV4⟩ : ∃ V4, IntKind.u64.wrap (V3 + (d0 : Int)) = V4 := ⟨_, rfl⟩
                obtain ⟨V5, HV5⟩ : ∃ V5, IntKind.u64.wrap ((q' : Int) * (Y : Int)) = V5 := ⟨_, rfl⟩
                obtain ⟨Z, hZ⟩ : ∃ Z, Z = (u2 * 4294967296 + d0) % Y := ⟨_, rfl⟩
                have HV6 : IntKind.u64.wrap (V4 - V5) = (Z : Int) := by
                  rw [hZ, ← kn_rest Y u2 d0 (by have := HY.out; omega) z3, ← HE2.out, ← HV4, ← HV3, ← HV5]
                  simp only [IntKind.wrap_u64]
                  omega
                have HV7 : (Z : Int) / 2 ^ s = (Rt : Int) := by
                  have e : Z / 2 ^ s = Rt := by rw [hZ, k2, Nat.mul_div_cancel _ (Nat.two_pow_pos s)]
                  rw [← e, Int.natCast_ediv, Int.natCast_pow]; rfl
                clear k1 k2 kd hZ
                go_wp2_with fail
                go_ret2
                exact ⟨rfl, rfl⟩
              · have c2' : ¬ 4294967296 ≤ (r' : Int) := by omega
                have hq'l : q' < 18446744073709551616 := by have := HQ.out; omega
                go_wp2_with fail
                exact ⟨⟨q', r', rfl, rfl, K2, by omega, hq'l, by first | trivial | rfl | exact hid rfl⟩, by have := HQ.out; simp [intOf]; omega⟩
            · have c3' : ¬ (T : Int) < (p : Int) := by omega
              have HE : Hid (q = (u2 * 4294967296 + d0) / Y) := kn_done (by have := HY.out; omega) KK.out (by rw [← HBb.out]; omega)
              have hq'l : q < 4294967296 := by omega
              clear hp hT hq' hr' c3 KK er hrl r' q'
              have HE2 := hid HE.out
              clear HE
              obtain ⟨V1, HV1⟩ : ∃ V1, IntKind.u64.wrap ((q1 : Int) * 4294967296) = V1 := ⟨_, rfl⟩
              obtain ⟨k1, k2⟩ := kn_both Y ((h * 18446744073709551616 + l) * 2 ^ s) (by have := HY.out; omega)
              have kd : (h * 18446744073709551616 + l) * 2 ^ s % 4294967296 = d0 := by have := HD0.out; have := HUV.out.2; omega
              rw [kd, ← HUV.out.1, ← HUV.out.2, ← HD1.out, ← HU2.out, ← HE1.out, ← HE2.out, HR.out.1] at k1
              rw [kd, ← HUV.out.1, ← HUV.out.2, ← HD1.out, ← HU2.out, HR.out.2] at k2
              rw [← HQt.out] at k1
              rw [← HRt.out] at k2
              have HV2 : IntKind.u64.wrap (V1 + (q : Int)) = (Qt : Int) := by
                rw [← HV1, ← k1]
                simp only [IntKind.wrap_u64]
                omega
              obtain ⟨V3, HV3⟩ : ∃ V3, IntKind.u64.wrap ((u2 : Int) * 4294967296) = V3 := ⟨_, rfl⟩
              obtain ⟨V4, HV4⟩ : ∃ V4, IntKind.u64.wrap (V3 + (d0 : Int)) = V4 := ⟨_, rfl⟩
              obtain ⟨V5, HV5⟩ : ∃ V5, IntKind.u64.wrap ((q : Int) * (Y : Int)) = V5 := ⟨_, rfl⟩
              obtain ⟨Z, hZ⟩ : ∃ Z, Z = (u2 * 4294967296 + d0) % Y := ⟨_, rfl⟩
              have HV6 : IntKind.u64.wrap (V4 - V5) = (Z : Int) := by
                rw [hZ, ← kn_rest Y u2 d0 (by have := HY.out; omega) z3, ← HE2.out, ← HV4, ← HV3, ← HV5]
                simp only [IntKind.wrap_u64]
                omega
              have HV7 : (Z : Int) / 2 ^ s = (Rt : Int) := by
                have e : Z / 2 ^ s = Rt := by rw [hZ, k2, Nat.mul_div_cancel _ (Nat.two_pow_pos s)]
                rw [← e, Int.natCast_ediv, Int.natCast_pow]; rfl
              clear k1 k2 kd hZ
              go_wp2_with fail
              go_ret2
              exact ⟨rfl, rfl⟩
      · have c2' : ¬ 4294967296 ≤ (r' : Int) := by omega
        have hq'l : q' < 18446744073709551616 := by have := HQ.out; omega
        go_wp2_with fail
        exact ⟨⟨q', r', rfl, rfl, K2, by omega, hq'l, by first | trivial | rfl | exact hid rfl⟩, by have := HQ.out; simp [intOf]; omega⟩
    · have c1' : ¬ 4294967296 ≤ (q : Int) := by omega
      have hpl : p < 18446744073709551616 := by
        have : q * b ≤ 4294967295 * 4294967295 := Nat.mul_le_mul (by omega) (by omega)
        omega
      by_cases c3 : T < p
      · have c3' : (T : Int) < (p : Int) := by omega
        have hq1 : 1 ≤ q := by
          rcases Nat.eq_zero_or_pos q with k | k
          · rw [k, Nat.zero_mul] at hp; omega
          · exact k
        have eq' : (q : Int) - 1 = (q' : Int) := by omega
        have K2 : Hid (Kn Y u d1 q' r') := by rw [hq', hr', HA.out]; exact kn_gt (by have := HY.out; omega) KK.out (by rw [← HBb.out]; omega)
        have HQ : Hid (q' < q) := by show _ < _; omega
        clear hp hT hq' hr' c3 hq1
        by_cases c2 : 4294967296 ≤ r'
        · have c2' : 4294967296 ≤ (r' : Int) := by omega
          have HE : Hid (q' = (u * 4294967296 + d1) / Y) := kn_break HY.out HuY1.out K2.out c2
          have hq'l : q' < 4294967296 := by rw [HE.out]; exact kn_low HuY1.out hd1
          clear K2 KK HQ c1
          obtain ⟨q1, hq1v⟩ : ∃ q1, q1 = q' := ⟨_, rfl⟩
          subst hq1v
          have HE1 := hid HE.out
          clear HE
          obtain ⟨X1, HX1⟩ : ∃ X1, IntKind.u64.wrap ((u : Int) * 4294967296) = X1 := ⟨_, rfl⟩
          obtain ⟨X2, HX2⟩ : ∃ X2, IntKind.u64.wrap (X1 + (d1 : Int)) = X2 := ⟨_, rfl⟩
          obtain ⟨X3, HX3⟩ : ∃ X3, IntKind.u64.wrap ((q1 : Int) * (Y : Int)) = X3 := ⟨_, rfl⟩
          obtain ⟨u2, hu2⟩ : ∃ u2, u2 = (u * 4294967296 + d1) % Y := ⟨_, rfl⟩
          have HX4 : IntKind.u64.wrap (X2 - X3) = (u2 : Int) := by
            rw [hu2, ← kn_rest Y u d1 (by have := HY.out; omega) z3, ← HE1.out, ← HX2, ← HX1, ← HX3]
            simp only [IntKind.wrap_u64]
            omega
          have huY2 : u2 < Y := by rw [hu2]; exact Nat.mod_lt _ (by have := HY.out; omega)
          have HU2 := hid hu2
          obtain ⟨p0, m02, r02, J1, J2, J3, hp0, hr0, hq02, hm02, hr02⟩ := guess_lets HY.out huY2 z3
          have K2' : Hid (Kn Y u2 d0 p0 r02) := by rw [hp0, hr0]; exact kn_start HY.out hd2
          rw [← HA.out] at J1 J2
          clear hp0 hr0 hu2 hm02
          have HuY2 := hid huY2
          have hul2 : u2 < 18446744073709551616 := by omega
          have hml2 : m02 < 18446744073709551616 := by omega
          have K2 := hid K2'.out
          clear K2'
          go_wp2_with fail
          go_loopw [18, 16] (fun x y wr => ∃ q r : Nat, x = .int .u64 q ∧ y = .int .u64 r ∧ Hid (Kn Y u2 d0 q r) ∧ r < 4294967296 ∧ q < 18446744073709551616 ∧ Hid (wr = w)) (fun x _ _ => (intOf x).toNat)
          case atStart => exact ⟨p0, r02, rfl, rfl, K2, hr02, hq02, rfl⟩
          case round =>
            rename World => wr0
            obtain ⟨q, r, rfl, rfl, KK, hr, hq, hwr0⟩ := hrel
            have hwr1 : wr0 = w := hwr0.out
            clear hwr0
            subst wr0
            obtain ⟨p, hp⟩ : ∃ p, p = q * b := ⟨_, rfl⟩
            obtain ⟨T, hT⟩ : ∃ T, T = 4294967296 * r + d0 := ⟨_, rfl⟩
            have ep : (q : Int) * (b : Int) = (p : Int) := by rw [hp]; exact (Int.natCast_mul _ _).symm
            have eT : 4294967296 * (r : Int) + (d0 : Int) = (T : Int) := by omega
            have hTl : T < 18446744073709551616 := by omega
            have eS : 4294967296 * (r : Int) < 18446744073709551616 := by omega
            obtain ⟨q', hq'⟩ : ∃ q', q' = q - 1 := ⟨_, rfl⟩
            obtain ⟨r', hr'⟩ : ∃ r', r' = r + a := ⟨_, rfl⟩
            have er : (r : Int) + (a : Int) = (r' : Int) := by omega
            have hrl : r' < 18446744073709551616 := by omega
            by_cases c1 : 4294967296 ≤ q
            · have c1' : 4294967296 ≤ (q : Int) := by omega
              have eq' : (q : Int) - 1 = (q' : Int) := by omega
              have K2 : Hid (Kn Y u2 d0 q' r') := by rw [hq', hr', HA.out]; exact kn_big HuY2.out hd2 KK.out c1
              have HQ : Hid (q' < q) := by show _ < _; omega
              clear hp hT hq' hr' ep eT hTl eS
              by_cases c2 : 4294967296 ≤ r'
              · have c2' : 4294967296 ≤ (r' : Int) := by omega
                have HE : Hid (q' = (u2 * 4294967296 + d0) / Y) := kn_break HY.out HuY2.out K2.out c2
                have hq'l : q' < 4294967296 := by rw [HE.out]; exact kn_low HuY2.out hd2
                clear K2 KK HQ c1
                have HE2 := hid HE.out
                clear HE
                obtain ⟨V1, HV1⟩ : ∃ V1, IntKind.u64.wrap ((q1 : Int) * 4294967296) = V1 := ⟨_, rfl⟩
                obtain ⟨k1, k2⟩ := kn_both Y ((h * 18446744073709551616 + l) * 2 ^ s) (by have := HY.out; omega)
                have kd : (h * 18446744073709551616 + l) * 2 ^ s % 4294967296 = d0 := by have := HD0.out; have := HUV.out.2; omega
                rw [kd, ← HUV.out.1, ← HUV.out.2, ← HD1.out, ← HU2.out, ← HE1.out, ← HE2.out, HR.out.1] at k1
                rw [kd, ← HUV.out.1, ← HUV.out.2, ← HD1.out, ← HU2.out, HR.out.2] at k2
                rw [← HQt.out] at k1
                rw [← HRt.out] at k2
                have HV2 : IntKind.u64.wrap (V1 + (q' : Int)) = (Qt : Int) := by
                  rw [← HV1, ← k1]
                  simp only [IntKind.wrap_u64]
                  omega
                obtain ⟨V3, HV3⟩ : ∃ V3, IntKind.u64.wrap ((u2 : Int) * 4294967296) = V3 := ⟨_, rfl⟩
                obtain ⟨V4, HV4⟩ : ∃ V4, IntKind.u64.wrap (V3 + (d0 : Int)) = V4 := ⟨_, rfl⟩
                obtain ⟨V5, HV5⟩ : ∃ V5, IntKind.u64.wrap ((q' : Int) * (Y : Int)) = V5 := ⟨_, rfl⟩
                obtain ⟨Z, hZ⟩ : ∃ Z, Z = (u2 * 4294967296 + d0) % Y := ⟨_, rfl⟩
                have HV6 : IntKind.u64.wrap (V4 - V5) = (Z : Int) := by
                  rw [hZ, ← kn_rest Y u2 d0 (by have := HY.out; omega) z3, ← HE2.out, ← HV4, ← HV3, ← HV5]
                  simp only [IntKind.wrap_u64]
                  omega
                have HV7 : (Z : Int) / 2 ^ s = (Rt : Int) := by
                  have e : Z / 2 ^ s = Rt := by rw [hZ, k2, Nat.mul_div_cancel _ (Nat.two_pow_pos s)]
                  rw [← e, Int.natCast_ediv, Int.natCast_pow]; rfl
                clear k1 k2 kd hZ
                go_wp2_with fail
                go_ret2
                exact ⟨rfl, rfl⟩
              · have c2' : ¬ 4294967296 ≤ (r' : Int) := by omega
                have hq'l : q' < 18446744073709551616 := by have := HQ.out; omega
                go_wp2_with fail
                exact ⟨⟨q', r', rfl, rfl, K2, by omega, hq'l, by first | trivial | rfl | exact hid rfl⟩, by have := HQ.out; simp [intOf]; omega⟩
            · have c1' : ¬ 4294967296 ≤ (q : Int) := by omega
              have hpl : p < 18446744073709551616 := by
                have : q * b ≤ 4294967295 * 4294967295 := Nat.mul_le_mul (by omega) (by omega)
                omega
              by_cases c3 : T < p
              · have c3' : (T : Int) < (p : Int) := by omega
                have hq1 : 1 ≤ q := by
                  rcases Nat.eq_zero_or_pos q with k | k
                  · rw [k, Nat.zero_mul] at hp; omega
                  · exact k
                have eq' : (q : Int) - 1 = (q' : Int) := by omega
                have K2 : Hid (Kn Y u2 d0 q' r') := by rw [hq', hr', HA.out]; exact kn_gt (by have := HY.out; omega) KK.out (by rw [← HBb.out]; omega)
                have HQ : Hid (q' < q) := by show _ < _; omega
                clear hp hT hq' hr' c3 hq1
                by_cases c2 : 4294967296 ≤ r'
                · have c2' : 4294967296 ≤ (r' : Int) := by omega
                  have HE : Hid (q' = (u2 * 4294967296 + d0) / Y) := kn_break HY.out HuY2.out K2.out c2
                  have hq'l : q' < 4294967296 := by rw [HE.out]; exact kn_low HuY2.out hd2
                  clear K2 KK HQ c1
                  have HE2 := hid HE.out
                  clear HE
                  obtain ⟨V1, HV1⟩ : ∃ V1, IntKind.u64.wrap ((q1 : Int) * 4294967296) = V1 := ⟨_, rfl⟩
                  obtain ⟨k1, k2⟩ := kn_both Y ((h * 18446744073709551616 + l) * 2 ^ s) (by have := HY.out; omega)
                  have kd : (h * 18446744073709551616 + l) * 2 ^ s % 4294967296 = d0 := by have := HD0.out; have := HUV.out.2; omega
                  rw [kd, ← HUV.out.1, ← HUV.out.2, ← HD1.out, ← HU2.out, ← HE1.out, ← HE2.out, HR.out.1] at k1
                  rw [kd, ← HUV.out.1, ← HUV.out.2, ← HD1.out, ← HU2.out, HR.out.2] at k2
                  rw [← HQt.out] at k1
                  rw [← HRt.out] at k2
                  have HV2 : IntKind.u64.wrap (V1 + (q' : Int)) = (Qt : Int) := by
                    rw [← HV1, ← k1]
                    simp only [IntKind.wrap_u64]
                    omega
                  obtain ⟨V3, HV3⟩ : ∃ V3, IntKind.u64.wrap ((u2 : Int) * 4294967296) = V3 := ⟨_, rfl⟩
                  obtain ⟨V4, HV4⟩ : ∃ V4, IntKind.u64.wrap (V3 + (d0 : Int)) = V4 := ⟨_, rfl⟩
                  obtain ⟨V5, HV5⟩ : ∃ V5, IntKind.u64.wrap ((q' : Int) * (Y : Int)) = V5 := ⟨_, rfl⟩
                  obtain ⟨Z, hZ⟩ : ∃ Z, Z = (u2 * 4294967296 + d0) % Y := ⟨_, rfl⟩
                  have HV6 : IntKind.u64.wrap (V4 - V5) = (Z : Int) := by
                    rw [hZ, ← kn_rest Y u2 d0 (by have := HY.out; omega) z3, ← HE2.out, ← HV4, ← HV3, ← HV5]
                    simp only [IntKind.wrap_u64]
                    omega
                  have HV7 : (Z : Int) / 2 ^ s = (Rt : Int) := by
                    have e : Z / 2 ^ s = Rt := by rw [hZ, k2, Nat.mul_div_cancel _ (Nat.two_pow_pos s)]
                    rw [← e, Int.natCast_ediv, Int.natCast_pow]; rfl
                  clear k1 k2 kd hZ
                  go_wp2_with fail
                  go_ret2
                  exact ⟨rfl, rfl⟩
                · have c2' : ¬ 4294967296 ≤ (r' : Int) := by omega
                  have hq'l : q' < 18446744073709551616 := by have := HQ.out; omega
                  go_wp2_with fail
                  exact ⟨⟨q', r', rfl, rfl, K2, by omega, hq'l, by first | trivial | rfl | exact hid rfl⟩, by have := HQ.out; simp [intOf]; omega⟩
              · have c3' : ¬ (T : Int) < (p : Int) := by omega
                have HE : Hid (q = (u2 * 4294967296 + d0) / Y) := kn_done (by have := HY.out; omega) KK.out (by rw [← HBb.out]; omega)
                have hq'l : q < 4294967296 := by omega
                clear hp hT hq' hr' c3 KK er hrl r' q'
                have HE2 := hid HE.out
                clear HE
                obtain ⟨V1, HV1⟩ : ∃ V1, IntKind.u64.wrap ((q1 : Int) * 4294967296) = V1 := ⟨_, rfl⟩
                obtain ⟨k1, k2⟩ := kn_both Y ((h * 18446744073709551616 + l) * 2 ^ s) (by have := HY.out; omega)
                have kd : (h * 18446744073709551616 + l) * 2 ^ s % 4294967296 = d0 := by have := HD0.out; have := HUV.out.2; omega
                rw [kd, ← HUV.out.1, ← HUV.out.2, ← HD1.out, ← HU2.out, ← HE1.out, ← HE2.out, HR.out.1] at k1
                rw [kd, ← HUV.out.1, ← HUV.out.2, ← HD1.out, ← HU2.out, HR.out.2] at k2
                rw [← HQt.out] at k1
                rw [← HRt.out] at k2
                have HV2 : IntKind.u64.wrap (V1 + (q : Int)) = (Qt : Int) := by
                  rw [← HV1, ← k1]
                  simp only [IntKind.wrap_u64]
                  omega
                obtain ⟨V3, HV3⟩ : ∃ V3, IntKind.u64.wrap ((u2 : Int) * 4294967296) = V3 := ⟨_, rfl⟩
                obtain ⟨V4, HV4⟩ : ∃ V4, IntKind.u64.wrap (V3 + (d0 : Int)) = V4 := ⟨_, rfl⟩
                obtain ⟨V5, HV5⟩ : ∃ V5, IntKind.u64.wrap ((q : Int) * (Y : Int)) = V5 := ⟨_, rfl⟩
                obtain ⟨Z, hZ⟩ : ∃ Z, Z = (u2 * 4294967296 + d0) % Y := ⟨_, rfl⟩
                have HV6 : IntKind.u64.wrap (V4 - V5) = (Z : Int) := by
                  rw [hZ, ← kn_rest Y u2 d0 (by have := HY.out; omega) z3, ← HE2.out, ← HV4, ← HV3, ← HV5]
                  simp only [IntKind.wrap_u64]
                  omega
                have HV7 : (Z : Int) / 2 ^ s = (Rt : Int) := by
                  have e : Z / 2 ^ s = Rt := by rw [hZ, k2, Nat.mul_div_cancel _ (Nat.two_pow_pos s)]
                  rw [← e, Int.natCast_ediv, Int.natCast_pow]; rfl
                clear k1 k2 kd hZ
                go_wp2_with fail
                go_ret2
                exact ⟨rfl, rfl⟩
        · have c2' : ¬ 4294967296 ≤ (r' : Int) := by omega
          have hq'l : q' < 18446744073709551616 := by have := HQ.out; omega
          go_wp2_with fail
          exact ⟨⟨q', r', rfl, rfl, K2, by omega, hq'l, by first | trivial | rfl | exact hid rfl⟩, by have := HQ.out; simp [intOf]; omega⟩
      · have c3' : ¬ (T : Int) < (p : Int) := by omega
        have HE : Hid (q = (u * 4294967296 + d1) / Y) := kn_done (by have := HY.out; omega) KK.out (by rw [← HBb.out]; omega)
        have hq'l : q < 4294967296 := by omega
        clear hp hT hq' hr' c3 KK er hrl r' q'
        obtain ⟨q1, hq1v⟩ : ∃ q1, q1 = q := ⟨_, rfl⟩
        subst hq1v
        have HE1 := hid HE.out
        clear HE
        obtain ⟨X1, HX1⟩ : ∃ X1, IntKind.u64.wrap ((u : Int) * 4294967296) = X1 := ⟨_, rfl⟩
        obtain ⟨X2, HX2⟩ : ∃ X2, IntKind.u64.wrap (X1 + (d1 : Int)) = X2 := ⟨_, rfl⟩
        obtain ⟨X3, HX3⟩ : ∃ X3, IntKind.u64.wrap ((q1 : Int) * (Y : Int)) = X3 := ⟨_, rfl⟩
        obtain ⟨u2, hu2⟩ : ∃ u2, u2 = (u * 4294967296 + d1) % Y := ⟨_, rfl⟩
        have HX4 : IntKind.u64.wrap (X2 - X3) = (u2 : Int) := by
          rw [hu2, ← kn_rest Y u d1 (by have := HY.out; omega) z3, ← HE1.out, ← HX2, ← HX1, ← HX3]
          simp only [IntKind.wrap_u64]
          omega
        have huY2 : u2 < Y := by rw [hu2]; exact Nat.mod_lt _ (by have := HY.out; omega)
        have HU2 := hid hu2
        obtain ⟨p0, m02, r02, J1, J2, J3, hp0, hr0, hq02, hm02, hr02⟩ := guess_lets HY.out huY2 z3
        have K2' : Hid (Kn Y u2 d0 p0 r02) := by rw [hp0, hr0]; exact kn_start HY.out hd2
        rw [← HA.out] at J1 J2
        clear hp0 hr0 hu2 hm02
        have HuY2 := hid huY2
        have hul2 : u2 < 18446744073709551616 := by omega
        have hml2 : m02 < 18446744073709551616 := by omega
        have K2 := hid K2'.out
        clear K2'
        go_wp2_with fail
        go_loopw [18, 16] (fun x y wr => ∃ q r : Nat, x = .int .u64 q ∧ y = .int .u64 r ∧ Hid (Kn Y u2 d0 q r) ∧ r < 4294967296 ∧ q < 18446744073709551616 ∧ Hid (wr = w)) (fun x _ _ => (intOf x).toNat)
        case atStart => exact ⟨p0, r02, rfl, rfl, K2, hr02, hq02, rfl⟩
        case round =>
          rename World => wr0
          obtain ⟨q, r, rfl, rfl, KK, hr, hq, hwr0⟩ := hrel
          have hwr1 : wr0 = w := hwr0.out
          clear hwr0
          subst wr0
          obtain ⟨p, hp⟩ : ∃ p, p = q * b := ⟨_, rfl⟩
          obtain ⟨T, hT⟩ : ∃ T, T = 4294967296 * r + d0 := ⟨_, rfl⟩
          have ep : (q : Int) * (b : Int) = (p : Int) := by rw [hp]; exact (Int.natCast_mul _ _).symm
          have eT : 4294967296 * (r : Int) + (d0 : Int) = (T : Int) := by omega
          have hTl : T < 18446744073709551616 := by omega
          have eS : 4294967296 * (r : Int) < 18446744073709551616 := by omega
          obtain ⟨q', hq'⟩ : ∃ q', q' = q - 1 := ⟨_, rfl⟩
          obtain ⟨r', hr'⟩ : ∃ r', r' = r + a := ⟨_, rfl⟩
          have er : (r : Int) + (a : Int) = (r' : Int) := by omega
          have hrl : r' < 18446744073709551616 := by omega
          by_cases c1 : 4294967296 ≤ q
          · have c1' : 4294967296 ≤ (q : Int) := by omega
            have eq' : (q : Int) - 1 = (q' : Int) := by omega
            have K2 : Hid (Kn Y u2 d0 q' r') := by rw [hq', hr', HA.out]; exact kn_big HuY2.out hd2 KK.out c1
            have HQ : Hid (q' < q) := by show _ < _; omega
            clear hp hT hq' hr' ep eT hTl eS
            by_cases c2 : 4294967296 ≤ r'
            · have c2' : 4294967296 ≤ (r' : Int) := by omega
              have HE : Hid (q' = (u2 * 4294967296 + d0) / Y) := kn_break HY.out HuY2.out K2.out c2
              have hq'l : q' < 4294967296 := by rw [HE.out]; exact kn_low HuY2.out hd2
              clear K2 KK HQ c1
              have HE2 := hid HE.out
              clear HE
              obtain ⟨V1, HV1⟩ : ∃ V1, IntKind.u64.wrap ((q1 : Int) * 4294967296) = V1 := ⟨_, rfl⟩
              obtain ⟨k1, k2⟩ := kn_both Y ((h * 18446744073709551616 + l) * 2 ^ s) (by have := HY.out; omega)
              have kd : (h * 18446744073709551616 + l) * 2 ^ s % 4294967296 = d0 := by have := HD0.out; have := HUV.out.2; omega
              rw [kd, ← HUV.out.1, ← HUV.out.2, ← HD1.out, ← HU2.out, ← HE1.out, ← HE2.out, HR.out.1] at k1
              rw [kd, ← HUV.out.1, ← HUV.out.2, ← HD1.out, ← HU2.out, HR.out.2] at k2
              rw [← HQt.out] at k1
              rw [← HRt.out] at k2
              have HV2 : IntKind.u64.wrap (V1 + (q' : Int)) = (Qt : Int) := by
                rw [← HV1, ← k1]
                simp only [IntKind.wrap_u64]
                omega
              obtain ⟨V3, HV3⟩ : ∃ V3, IntKind.u64.wrap ((u2 : Int) * 4294967296) = V3 := ⟨_, rfl⟩
              obtain ⟨V4, HV4⟩ : ∃ V4, IntKind.u64.wrap (V3 + (d0 : Int)) = V4 := ⟨_, rfl⟩
              obtain ⟨V5, HV5⟩ : ∃ V5, IntKind.u64.wrap ((q' : Int) * (Y : Int)) = V5 := ⟨_, rfl⟩
              obtain ⟨Z, hZ⟩ : ∃ Z, Z = (u2 * 4294967296 + d0) % Y := ⟨_, rfl⟩
              have HV6 : IntKind.u64.wrap (V4 - V5) = (Z : Int) := by
                rw [hZ, ← kn_rest Y u2 d0 (by have := HY.out; omega) z3, ← HE2.out, ← HV4, ← HV3, ← HV5]
                simp only [IntKind.wrap_u64]
                omega
              have HV7 : (Z : Int) / 2 ^ s = (Rt : Int) := by
                have e : Z / 2 ^ s = Rt := by rw [hZ, k2, Nat.mul_div_cancel _ (Nat.two_pow_pos s)]
                rw [← e, Int.natCast_ediv, Int.natCast_pow]; rfl
              clear k1 k2 kd hZ
              go_wp2_with fail
              go_ret2
              exact ⟨rfl, rfl⟩
            · have c2' : ¬ 4294967296 ≤ (r' : Int) := by omega
              have hq'l : q' < 18446744073709551616 := by have := HQ.out; omega
              go_wp2_with fail
              exact ⟨⟨q', r', rfl, rfl, K2, by omega, hq'l, by first | trivial | rfl | exact hid rfl⟩, by have := HQ.out; simp [intOf]; omega⟩
          · have c1' : ¬ 4294967296 ≤ (q : Int) := by omega
            have hpl : p < 18446744073709551616 := by
              have : q * b ≤ 4294967295 * 4294967295 := Nat.mul_le_mul (by omega) (by omega)
              omega
            by_cases c3 : T < p
            · have c3' : (T : Int) < (p : Int) := by omega
              have hq1 : 1 ≤ q := by
                rcases Nat.eq_zero_or_pos q with k | k
                · rw [k, Nat.zero_mul] at hp; omega
                · exact k
              have eq' : (q : Int) - 1 = (q' : Int) := by omega
              have K2 : Hid (Kn Y u2 d0 q' r') := by rw [hq', hr', HA.out]; exact kn_gt (by have := HY.out; omega) KK.out (by rw [← HBb.out]; omega)
              have HQ : Hid (q' < q) := by show _ < _; omega
              clear hp hT hq' hr' c3 hq1
              by_cases c2 : 4294967296 ≤ r'
              · have c2' : 4294967296 ≤ (r' : Int) := by omega
                have HE : Hid (q' = (u2 * 4294967296 + d0) / Y) := kn_break HY.out HuY2.out K2.out c2
                have hq'l : q' < 4294967296 := by rw [HE.out]; exact kn_low HuY2.out hd2
                clear K2 KK HQ c1
                have HE2 := hid HE.out
                clear HE
                obtain ⟨V1, HV1⟩ : ∃ V1, IntKind.u64.wrap ((q1 : Int) * 4294967296) = V1 := ⟨_, rfl⟩
                obtain ⟨k1, k2⟩ := kn_both Y ((h * 18446744073709551616 + l) * 2 ^ s) (by have := HY.out; omega)
                have kd : (h * 18446744073709551616 + l) * 2 ^ s % 4294967296 = d0 := by have := HD0.out; have := HUV.out.2; omega
                rw [kd, ← HUV.out.1, ← HUV.out.2, ← HD1.out, ← HU2.out, ← HE1.out, ← HE2.out, HR.out.1] at k1
                rw [kd, ← HUV.out.1, ← HUV.out.2, ← HD1.out, ← HU2.out, HR.out.2] at k2
                rw [← HQt.out] at k1
                rw [← HRt.out] at k2
                have HV2 : IntKind.u64.wrap (V1 + (q' : Int)) = (Qt : Int) := by
                  rw [← HV1, ← k1]
                  simp only [IntKind.wrap_u64]
                  omega
                obtain ⟨V3, HV3⟩ : ∃ V3, IntKind.u64.wrap ((u2 : Int) * 4294967296) = V3 := ⟨_, rfl⟩
                obtain ⟨V4, HV4⟩ : ∃ V4, IntKind.u64.wrap (V3 + (d0 : Int)) = V4 := ⟨_, rfl⟩
                obtain ⟨V5, HV5⟩ : ∃ V5, IntKind.u64.wrap ((q' : Int) * (Y : Int)) = V5 := ⟨_, rfl⟩
                obtain ⟨Z, hZ⟩ : ∃ Z, Z = (u2 * 4294967296 + d0) % Y := ⟨_, rfl⟩
                have HV6 : IntKind.u64.wrap (V4 - V5) = (Z : Int) := by
                  rw [hZ, ← kn_rest Y u2 d0 (by have := HY.out; omega) z3, ← HE2.out, ← HV4, ← HV3, ← HV5]
                  simp only [IntKind.wrap_u64]
                  omega
                have HV7 : (Z : Int) / 2 ^ s = (Rt : Int) := by
                  have e : Z / 2 ^ s = Rt := by rw [hZ, k2, Nat.mul_div_cancel _ (Nat.two_pow_pos s)]
                  rw [← e, Int.natCast_ediv, Int.natCast_pow]; rfl
                clear k1 k2 kd hZ
                go_wp2_with fail
                go_ret2
                exact ⟨rfl, rfl⟩
              · have c2' : ¬ 4294967296 ≤ (r' : Int) := by omega
                have hq'l : q' < 18446744073709551616 := by have := HQ.out; omega
                go_wp2_with fail
                exact ⟨⟨q', r', rfl, rfl, K2, by omega, hq'l, by first | trivial | rfl | exact hid rfl⟩, by have := HQ.out; simp [intOf]; omega⟩
            · have c3' : ¬ (T : Int) < (p : Int) := by omega
              have HE : Hid (q = (u2 * 4294967296 + d0) / Y) := kn_done (by have := HY.out; omega) KK.out (by rw [← HBb.out]; omega)
              have hq'l : q < 4294967296 := by omega
              clear hp hT hq' hr' c3 KK er hrl r' q'
              have HE2 := hid HE.out
              clear HE
              obtain ⟨V1, HV1⟩ : ∃ V1, IntKind.u64.wrap ((q1 : Int) * 4294967296) = V1 := ⟨_, rfl⟩
              obtain ⟨k1, k2⟩ := kn_both Y ((h * 18446744073709551616 + l) * 2 ^ s) (by have := HY.out; omega)
              have kd : (h * 18446744073709551616 + l) * 2 ^ s % 4294967296 = d0 := by have := HD0.out; have := HUV.out.2; omega
              rw [kd, ← HUV.out.1, ← HUV.out.2, ← HD1.out, ← HU2.out, ← HE1.out, ← HE2.out, HR.out.1] at k1
              rw [kd, ← HUV.out.1, ← HUV.out.2, ← HD1.out, ← HU2.out, HR.out.2] at k2
              rw [← HQt.out] at k1
              rw [← HRt.out] at k2
              have HV2 : IntKind.u64.wrap (V1 + (q : Int)) = (Qt : Int) := by
                rw [← HV1, ← k1]
                simp only [IntKind.wrap_u64]
                omega
              obtain ⟨V3, HV3⟩ : ∃ V3, IntKind.u64.wrap ((u2 : Int) * 4294967296) = V3 := ⟨_, rfl⟩
              obtain ⟨V4, HV4⟩ : ∃ V4, IntKind.u64.wrap (V3 + (d0 : Int)) = V4 := ⟨_, rfl⟩
              obtain ⟨V5, HV5⟩ : ∃ V5, IntKind.u64.wrap ((q : Int) * (Y : Int)) = V5 := ⟨_, rfl⟩
              obtain ⟨Z, hZ⟩ : ∃ Z, Z = (u2 * 4294967296 + d0) % Y := ⟨_, rfl⟩
              have HV6 : IntKind.u64.wrap (V4 - V5) = (Z : Int) := by
                rw [hZ, ← kn_rest Y u2 d0 (by have := HY.out; omega) z3, ← HE2.out, ← HV4, ← HV3, ← HV5]
                simp only [IntKind.wrap_u64]
                omega
              have HV7 : (Z : Int) / 2 ^ s = (Rt : Int) := by
                have e : Z / 2 ^ s = Rt := by rw [hZ, k2, Nat.mul_div_cancel _ (Nat.two_pow_pos s)]
                rw [← e, Int.natCast_ediv, Int.natCast_pow]; rfl
              clear k1 k2 kd hZ
              go_wp2_with fail
              go_ret2
              exact ⟨rfl, rfl⟩
end Go.Proofs.YtdfmaicmbnjilaaDoor
