/-
  The document's digits: shifted.
-/
import Derived.Test.YtdfmaicmbnjilaaDoorWRef4
import Derived.Test.YtdfmaicmbnjilaaDoorWRef3
import Derived.Test.YtdfmaicmbnjilaaDoorWShM
namespace Go.Proofs.YtdfmaicmbnjilaaDoor
open Go.RowKit Wd

theorem pow16 (n m : Nat) (h : m = 16 * n) : 2 ^ m = 65536 ^ n := by
  subst h
  rw [Nat.pow_mul]
theorem top_lt {T : Nat} (h : T < top24) (m : Nat) (hm : m = 384) : T < 2 ^ m := by
  rw [pow16 24 m (by omega)]
  exact h
theorem u32_and1 {x : Nat} (h : x < 4294967296) : bits BinOp.and IntKind.u32 (x : Int) 1 = ((x % 2 : Nat) : Int) := by
  rw [show (1 : Int) = ((1 : Nat) : Int) from rfl, u32_and_nat x 1 h (by decide), Nat.and_one_is_mod]
theorem u32_orbit {x r : Nat} (h : x < 2 ^ r) (hr : r < 16) : bits BinOp.or IntKind.u32 (x : Int) ((2 ^ r : Nat) : Int) = ((x + 2 ^ r : Nat) : Int) := by
  have h1 : 2 ^ r ≤ 2 ^ 15 := Nat.pow_le_pow_right (by decide) (by omega)
  have h2 : (2 : Nat) ^ 15 = 32768 := by decide
  rw [u32_or_nat x (2 ^ r) (by omega) (by omega)]
  congr 1
  have e := Nat.two_pow_add_eq_or_of_lt h 1
  rw [Nat.mul_one] at e
  rw [Nat.or_comm, ← e, Nat.add_comm]
set_option maxRecDepth 8000 in
set_option maxHeartbeats 4000000 in
theorem rShifted (ga : Nat) (A : Nat → Nat) (s : Nat) (w : World) (hA : DB w ga A) (dA : Dig A) (hsl : s ≤ 384) (hs : dv A 24 * 2 ^ s < top24) : Calls Tryd.prog 52 #[.slice (some ⟨ga, 0, none⟩) 24 24, .int .i64 (s : Int)] w fun e w' => ∃ C, e = .returned (.slice (some ⟨w.heap.size, 0, none⟩) 24 24) ∧ DB w' w.heap.size C ∧ Dig C ∧ dv C 24 = dv A 24 * 2 ^ s ∧ Below w.heap.size w w' := by
  have HA := hid hA
  have HDA := hid dA
  have HS := hid hs
  have HLT := hid hA.lt
  obtain ⟨T, hT⟩ : ∃ T, T = dv A 24 * 2 ^ s := ⟨_, rfl⟩
  rw [← hT] at HS ⊢
  have HT := hid hT
  clear hA hs hT dA
  go_enter Tryd.func52, Tryd.ntmps52
  go_wp2_with fail
  refine (rZero _).mono ?_
  rintro e w1 ⟨rfl, X1, b1⟩
  have HX1 := hid X1
  have HB1 := hid b1
  clear X1 b1
  go_wp2_with fail
  go_loopw [6] (fun ix wr => ∃ (i : Nat) (C : Nat → Nat), i ≤ 384 ∧ ix = .int .i64 i ∧ Hid (DB wr w.heap.size C) ∧ Hid (Dig C) ∧ Hid (dv C 24 = T % 2 ^ i) ∧ Hid (Below w.heap.size w wr)) (fun ix _ => 384 - (intOf ix).toNat)
  case atStart => exact ⟨0, fun _ => 0, by omega, rfl, HX1, fun _ => Nat.succ_pos 65535, by show dv _ 24 = _; rw [dv_none (fun _ => rfl), Nat.pow_zero, Nat.mod_one], HB1⟩
  case round =>
    rename World => wr
    obtain ⟨i, C, hi', rfl, HC, HD, HE, HW⟩ := hrel
    by_cases hlt : i < 384
    · have hii : (i : Int) < 384 := by omega
      have HM := hid (mod_step T i)
      by_cases c1 : s ≤ i
      · have c1' : (s : Int) ≤ (i : Int) := by omega
        obtain ⟨k, hk⟩ : ∃ k, k = i - s := ⟨_, rfl⟩
        have ek : (i : Int) - (s : Int) = (k : Int) := by omega
        obtain ⟨q, hq⟩ : ∃ q, q = k / 16 := ⟨_, rfl⟩
        obtain ⟨r, hr⟩ : ∃ r, r = k % 16 := ⟨_, rfl⟩
        have eq : (k : Int) / 16 = (q : Int) := by omega
        have er : (k : Int) % 16 = (r : Int) := by omega
        have hq24 : q < 24 := by omega
        have hq24' : (q : Int) < 24 := by omega
        have hr16 : r < 16 := by omega
        have ca := (HA.out.later HW.out HLT.out).cell hq24
        have hb : T / 2 ^ i % 2 = A q / 2 ^ r % 2 := by rw [HT.out, sh_bit _ _ _ c1, ← hk, dig_bit HDA.out (by omega), hq, hr]
        have hAq := HDA.out q
        obtain ⟨y, hy⟩ : ∃ y, y = A q / 2 ^ r := ⟨_, rfl⟩
        have hyl : y < 4294967296 := by rw [hy]; exact Nat.lt_of_le_of_lt (Nat.div_le_self _ _) (by omega)
        have ey : ((A q : Nat) : Int) / 2 ^ r = (y : Int) := by rw [hy, Int.natCast_ediv, Int.natCast_pow]; rfl
        have ea := u32_and1 hyl
        rw [← hy] at hb
        by_cases c2 : y % 2 = 1
        · rw [c2] at ea hb
          have ea' : bits BinOp.and IntKind.u32 (y : Int) 1 = 1 := ea
          have hlow := bit_put hlt (show dv C 24 < 2 ^ i by rw [HE.out]; exact Nat.mod_lt _ (Nat.two_pow_pos i))
          obtain ⟨Q, hQ⟩ : ∃ Q, Q = i / 16 := ⟨_, rfl⟩
          obtain ⟨R, hR⟩ : ∃ R, R = i % 16 := ⟨_, rfl⟩
          have eQ : (i : Int) / 16 = (Q : Int) := by omega
          have eR : (i : Int) % 16 = (R : Int) := by omega
          have hQ24 : Q < 24 := by omega
          have hQ24' : (Q : Int) < 24 := by omega
          have hR16 : R < 16 := by omega
          rw [← hQ, ← hR] at hlow
          have eo := u32_orbit hlow hR16
          obtain ⟨p, hp⟩ : ∃ p, p = 2 ^ R := ⟨_, rfl⟩
          have hpl : p ≤ 32768 := by rw [hp]; exact Nat.le_trans (Nat.pow_le_pow_right (by decide) (show R ≤ 15 by omega)) (by decide)
          have ep : (1 : Int) * 2 ^ R = (p : Int) := by rw [hp, Int.natCast_pow, Int.one_mul]; rfl
          have ep2 : (2 : Int) ^ R = (p : Int) := by rw [hp, Int.natCast_pow]; rfl
          have HE2 : Hid (dv (upd C Q (C Q + p)) 24 = T % 2 ^ (i + 1)) := by
            show dv (fun j => if j = Q then C Q + p else C j) 24 = _
            rw [dv_bump hQ24, HE.out, HM.out, hb, Nat.one_mul, hp, hQ, hR, bit_val]
          rw [← hp] at eo hlow
          have hsum : C Q + p < 65536 := by
            have : 2 * p ≤ 65536 := by omega
            omega
          have HD2 : Hid (Dig (upd C Q (C Q + p))) := fun j => by
            unfold upd; split
            · exact hsum
            · exact HD.out j
          have fz := HC.out.frozen Q
          have cc := HC.out.cell hQ24
          have HC2 := hid (HC.out.store Q (C Q + p))
          have HW2 := hid (HW.out.setCell (p := ⟨w.heap.size, Q, none⟩) (Nat.le_refl _) (.int .u32 ((C Q + p : Nat) : Int)))
          clear hQ hR hq hr hk hy hp hb c2 ea hlow hsum
          generalize ((A q : Nat) : Int) = x at *
          obtain ⟨z, hz⟩ : ∃ z, z = C Q + p := ⟨_, rfl⟩
          rw [← hz] at eo HE2 HD2 HC2 HW2
          clear hz
          generalize ((C Q : Nat) : Int) = u at *
          go_wp2_with fail
          exact ⟨⟨i + 1, upd C Q z, by omega, by go_num, HC2, HD2, HE2, HW2⟩, by simp [intOf]; omega⟩
        · have c2' : y % 2 = 0 := by omega
          rw [c2'] at ea hb
          have ea' : bits BinOp.and IntKind.u32 (y : Int) 1 = 0 := ea
          have HE2 : Hid (dv C 24 = T % 2 ^ (i + 1)) := by rw [HM.out, hb, Nat.zero_mul, Nat.add_zero]; exact HE.out
          clear hq hr hk hy hb c2 c2' ea
          generalize ((A q : Nat) : Int) = x at *
          go_wp2_with fail
          exact ⟨⟨i + 1, C, by omega, by go_num, HC, HD, HE2, HW⟩, by simp [intOf]; omega⟩
      · have c1' : ¬ (s : Int) ≤ (i : Int) := by omega
        have HE2 : Hid (dv C 24 = T % 2 ^ (i + 1)) := by
          rw [HM.out, HT.out, sh_none _ _ _ (show i < s by omega), Nat.zero_mul, Nat.add_zero, ← HT.out]; exact HE.out
        go_wp2_with fail
        exact ⟨⟨i + 1, C, by omega, by go_num, HC, HD, HE2, HW⟩, by simp [intOf]; omega⟩
    · have hi4 : i = 384 := by omega
      have hf : dv C 24 = T := by
        rw [HE.out]
        exact Nat.mod_eq_of_lt (top_lt HS.out i hi4)
      have hii : ¬ (i : Int) < 384 := by omega
      have HF := hid hf
      clear hf hi4
      go_wp2_with fail
      go_ret
      exact ⟨rfl, C, HC.out, HD.out, HF.out, HW.out⟩
end Go.Proofs.YtdfmaicmbnjilaaDoor
