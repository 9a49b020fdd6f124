/-
  THE WALK OF CheckLinear.
-/
import Derived.Test.YtjiibjbbbglpeaaCPlaces
import Derived.Deep.RegionHeld3
namespace Go.Proofs.Ytjiibjbbbglpeaa
open Go.RowKit Crc

/-- append within a region that draws: its run is known. -/
theorem oper_app {a : Act} {w : World} {K : Act → World → Prop} {Q : Exit → Act → World → Prop} {d : Option Nat} {s x : Operand} {t ty : TypeId} {pos : String} {aft : Array Edge} {gd : Option (Nat × Bool)}
    {v u v' : Value} {w' : World} (hs : a.eval s = v) (hx : a.eval x = u)
    (hr : (Builtin.append_ #[t, t] ty #[v, u]).run Try.prog w = .ok v' w') (h : K (a.put d v') w') :
    Oper.wp Try.prog { dst := d, op := .call { callee := .builtin .append, args := #[s, x], argTypes := #[t, t] }, type := ty, pos := pos, after := aft, guard := gd } a w K Q := by
  unfold Oper.wp execOp
  simp only [resolve, invoke, builtin, Sem.run_bind, Sem.run_pure, Result.andThen_ok, List.map_toArray, List.map_cons, List.map_nil, hs, hx, hr]
  exact h
def xorL (L M : Nat → Nat) : Nat → Nat := fun j => L j ^^^ M j
set_option maxHeartbeats 2000000 in
set_option maxRecDepth 20000 in
theorem both_any (a0 : Option Addr) (n c : Nat) (L : Nat → Nat) (b0 : Option Addr) (d : Nat) (M : Nat → Nat) (w : World) (hL : Nums w .u8 a0 n L) (hM : Nums w .u8 b0 n M) (h1 : ∀ j, j < n → L j < 256) (h2 : ∀ j, j < n → M j < 256) (hn : n ≤ 140737488351232) :
    Calls Try.prog 21 #[.slice a0 n c, .slice b0 n d] w fun e w' => ∃ v, e = .returned v ∧ Own w' w.heap.size 5 .u8 v n (xorL L M) ∧ Below w.heap.size w w' := by
  have HL := hid hL
  have HM := hid hM
  have H1 := hid h1
  have H2 := hid h2
  clear hL hM h1 h2
  go_enter Try.func21, Try.ntmps21
  go_wp2_with fail
  go_loopw [5, 6] (fun v x wr => ∃ k : Nat, k ≤ n ∧ x = .int .i64 k ∧ Hid (Own wr w.heap.size 5 .u8 v k (xorL L M)) ∧ Hid (Below w.heap.size w wr)) (fun _ x _ => n - (intOf x).toNat)
  case atStart => exact ⟨0, Nat.zero_le _, rfl, Own.nil _ _ _ _ _, Below.refl _ _⟩
  case round =>
    obtain ⟨k, hk, rfl, HO, HB⟩ := hrel
    by_cases hlt : k < n
    · have hki : (k : Int) < (n : Int) := by omega
      obtain ⟨g1, o1, rfl, hg1, hc1⟩ := HL.out k hlt
      obtain ⟨g2, o2, rfl, hg2, hc2⟩ := HM.out k hlt
      have hd1 : ∀ W, Below w.heap.size w W → W.cell? ⟨g1, o1 + k, none⟩ = some (.int .u8 ((L k : Nat) : Int)) := fun W h => (h.cell (p := ⟨g1, o1 + k, none⟩) hg1).trans hc1
      have hd2 : ∀ W, Below w.heap.size w W → W.cell? ⟨g2, o2 + k, none⟩ = some (.int .u8 ((M k : Nat) : Int)) := fun W h => (h.cell (p := ⟨g2, o2 + k, none⟩) hg2).trans hc2
      have hx1 := H1.out k hlt
      have hx2 := H2.out k hlt
      have HX : Hid (xorL L M k = L k ^^^ M k) := rfl
      generalize L k = X at *
      generalize M k = Y at *
      have hxo := u8_xor_nat X Y hx1 hx2
      have hz : X ^^^ Y < 256 := Nat.xor_lt_two_pow (n := 8) hx1 hx2
      generalize X ^^^ Y = Z at *
      obtain ⟨g, c', w2, hr2, hO2, hB2, _⟩ := run_one (w := wr.drew) (t := 30) (ty := 30) Try.underlying30 infoU8 (HO.out.kept (w' := wr.drew) fun _ _ => rfl) (by omega) (by omega) HB.out.size (Z : Int) (by rw [HX.out])
      have hb0 : Below w.heap.size w wr.drew := HB.out.drew
      have hb1 : Below w.heap.size w (wr.drew.alloc (.cells #[.int .u8 (Z : Int)] 5)) := hb0.alloc hb0.size _
      have hb2 : Below w.heap.size w w2 := hb0.trans hB2
      have O2 := hid hO2
      clear hc1 hc2 hO2 hB2
      go_wp2_with fail
      go_region_held3 (fun W => Below w.heap.size w W) (first | exact hb0 | exact hb1 | exact hb2) ((rw [if_pos (by rfl)]; refine oper_app (by rfl) (by rfl) hr2 ?_))
      go_wp2_with fail
      exact ⟨⟨k + 1, by omega, by go_num, O2, hb2⟩, by simp [intOf]; omega⟩
    · obtain rfl : k = n := by omega
      have hkk : ¬ ((k : Int) < (k : Int)) := by omega
      go_wp2_with fail
      go_ret
      exact ⟨_, rfl, HO.out, HB.out⟩
theorem moreN_eq {s : Nat} {L : Nat → Nat} {n : Nat} (hs : s < 4294967296) (h : ∀ j, j < n → L j < 256) : moreN s L n = 4294967295 ^^^ reg (4294967295 ^^^ s) L n := by
  unfold moreN
  rw [flip32 hs, flip32 (reg_lt (by omega) h)]
theorem xor_seven (o a b c : Nat) : o ^^^ ((a ^^^ b) ^^^ c) = ((o ^^^ a) ^^^ (o ^^^ b)) ^^^ (o ^^^ c) := by
  apply bit_ext
  intro i
  simp only [Nat.testBit_xor]
  cases a.testBit i <;> cases b.testBit i <;> cases c.testBit i <;> cases o.testBit i <;> rfl
theorem more_three {A B C : Nat → Nat} {n : Nat} (hA : ∀ j, j < n → A j < 256) (hB : ∀ j, j < n → B j < 256) (hC : ∀ j, j < n → C j < 256) :
    moreN 0 (xorL (xorL A B) C) n = moreN 0 A n ^^^ moreN 0 B n ^^^ moreN 0 C n := by
  have hAB : ∀ j, j < n → xorL A B j < 256 := fun j hj => Nat.xor_lt_two_pow (n := 8) (hA j hj) (hB j hj)
  have hABC : ∀ j, j < n → xorL (xorL A B) C j < 256 := fun j hj => Nat.xor_lt_two_pow (n := 8) (hAB j hj) (hC j hj)
  rw [moreN_eq (by omega) hA, moreN_eq (by omega) hB, moreN_eq (by omega) hC, moreN_eq (by omega) hABC, ← xor_seven]
  congr 1
  rw [Nat.xor_zero]
  have e1 : reg 4294967295 (xorL (xorL A B) C) n = reg 0 (xorL A B) n ^^^ reg 4294967295 C n := by
    rw [← reg_xor hAB hC, Nat.zero_xor]; rfl
  have e2 : reg 0 (xorL A B) n = reg 4294967295 A n ^^^ reg 4294967295 B n := by
    rw [← reg_xor hA hB, Nat.xor_self]; rfl
  rw [e1, e2]
theorem Nums.less {w : World} {k : IntKind} {a0 : Option Addr} {n m : Nat} {L : Nat → Nat} (h : Nums w k a0 n L) (hm : m ≤ n) : Nums w k a0 m L := fun j hj => h j (by omega)
set_option maxHeartbeats 4000000 in
set_option maxRecDepth 20000 in
theorem walk_checkLinear (w : World) (a0 : Option Addr) (n0 c0 : Nat) (L0 : Nat → Nat) (a1 : Option Addr) (n1 c1 : Nat) (L1 : Nat → Nat) (a2 : Option Addr) (n2 c2 : Nat) (L2 : Nat → Nat) (h0 : NumArg w .u8 a0 n0 c0 L0 256 140737488351232) (h1 : NumArg w .u8 a1 n1 c1 L1 256 140737488351232) (h2 : NumArg w .u8 a2 n2 c2 L2 256 140737488351232) :
    Calls Try.prog 5 #[.slice a0 n0 c0, .slice a1 n1 c1, .slice a2 n2 c2] w fun e w' => e = .returned (.bool true) ∧ Below w.heap.size w w' := by
  obtain ⟨hL0, hb0, _, hn0, hc0, ha0⟩ := h0
  obtain ⟨hL1, hb1, _, hn1, hc1, ha1⟩ := h1
  obtain ⟨hL2, hb2, _, hn2, hc2, ha2⟩ := h2
  obtain ⟨m, hm⟩ : ∃ m, min (min n0 n1) n2 = m := ⟨_, rfl⟩
  have hm0 : m ≤ n0 := by omega
  have hm1 : m ≤ n1 := by omega
  have hm2 : m ≤ n2 := by omega
  have hmin : ∀ wx : World, (Builtin.min_ #[3, 3, 3] 3 #[.int .i64 (n0 : Int), .int .i64 (n1 : Int), .int .i64 (n2 : Int)]).run Try.prog wx = .ok (.int .i64 (m : Int)) wx := fun wx => by
    rw [show (m : Int) = (if (n2 : Int) < (if (n1 : Int) < (n0 : Int) then (n1 : Int) else (n0 : Int)) then (n2 : Int) else (if (n1 : Int) < (n0 : Int) then (n1 : Int) else (n0 : Int))) by split <;> split <;> omega]
    rfl
  have A0 := hid ha0
  have A1 := hid ha1
  have A2 := hid ha2
  have N0 := hid (hL0.less hm0)
  have N1 := hid (hL1.less hm1)
  have N2 := hid (hL2.less hm2)
  have G0 := hid hb0
  have G1 := hid hb1
  have G2 := hid hb2
  clear hL0 hL1 hL2 ha0 ha1 ha2 hb0 hb1 hb2 hm
  have hmc0 : (m : Int) ≤ (c0 : Int) := by omega
  have hmc1 : (m : Int) ≤ (c1 : Int) := by omega
  have hmc2 : (m : Int) ≤ (c2 : Int) := by omega
  go_enter Try.func5, Try.ntmps5
  go_wp2_with fail
  refine (twin_any a0 m c0 L0 w N0.out (by omega) (fun h => by have := A0.out h; omega)).mono ?_
  rintro e w1 ⟨v1, rfl, o1, b1⟩
  obtain ⟨p1, q1, rfl, _, hq1, _⟩ := o1.form
  have O1 := hid o1
  have B1 := hid b1
  clear o1 b1
  go_wp2_with fail
  refine (twin_any a1 m c1 L1 w1 (N1.out.later B1.out) (by omega) (fun h => by have := A1.out h; omega)).mono ?_
  rintro e w2 ⟨v2, rfl, o2, b2⟩
  obtain ⟨p2, q2, rfl, _, hq2, _⟩ := o2.form
  have O2 := hid o2
  have B2 := hid b2
  clear o2 b2
  go_wp2_with fail
  refine (twin_any a2 m c2 L2 w2 (N2.out.later (below_up B1.out B2.out)) (by omega) (fun h => by have := A2.out h; omega)).mono ?_
  rintro e w3 ⟨v3, rfl, o3, b3⟩
  obtain ⟨p3, q3, rfl, _, hq3, _⟩ := o3.form
  have B3 := hid (below_up (below_up B1.out B2.out) b3)
  have M3 := hid o3.nums
  have M2 := hid (O2.out.nums.later b3)
  have M1 := hid (O1.out.nums.later (below_up B2.out b3))
  clear o3 b3 O1 O2 B1 B2 N0 N1 N2 A0 A1 A2
  go_wp2_with fail
  refine (known_any w3).mono ?_
  rintro e w4 ⟨rfl, b4⟩
  have B4 := hid (below_up B3.out b4)
  have M31 := hid (M3.out.later b4)
  have M21 := hid (M2.out.later b4)
  have M11 := hid (M1.out.later b4)
  clear b4 B3 M1 M2 M3
  go_wp2_with fail
  refine (both_any p1 m q1 L0 p2 q2 L1 w4 M11.out M21.out (fun j _ => G0.out j) (fun j _ => G1.out j) (by omega)).mono ?_
  rintro e w5 ⟨v5, rfl, o5, b5⟩
  obtain ⟨p5, q5, rfl, _, hq5, _⟩ := o5.form
  have B5 := hid (below_up B4.out b5)
  have M52 := hid o5.nums
  have M32 := hid (M31.out.later b5)
  have M22 := hid (M21.out.later b5)
  have M12 := hid (M11.out.later b5)
  clear b5 B4 M31 M21 M11 o5
  go_wp2_with fail
  refine (both_any p5 m q5 (xorL L0 L1) p3 q3 L2 w5 M52.out M32.out (fun j _ => Nat.xor_lt_two_pow (n := 8) (G0.out j) (G1.out j)) (fun j _ => G2.out j) (by omega)).mono ?_
  rintro e w6 ⟨v6, rfl, o6, b6⟩
  obtain ⟨p6, q6, rfl, _, hq6, _⟩ := o6.form
  have B6 := hid (below_up B5.out b6)
  have M63 := hid o6.nums
  have M33 := hid (M32.out.later b6)
  have M23 := hid (M22.out.later b6)
  have M13 := hid (M12.out.later b6)
  clear b6 B5 M32 M22 M12 o6 M52
  go_wp2_with fail
  refine (sum_any p6 m q6 _ w6 M63.out (fun j _ => Nat.xor_lt_two_pow (n := 8) (Nat.xor_lt_two_pow (n := 8) (G0.out j) (G1.out j)) (G2.out j)) (by omega)).mono ?_
  rintro e w7 ⟨rfl, b7⟩
  have B7 := hid (below_up B6.out b7)
  have M34 := hid (M33.out.later b7)
  have M24 := hid (M23.out.later b7)
  have M14 := hid (M13.out.later b7)
  clear b7 B6 M33 M23 M13 M63
  go_wp2_with fail
  refine (sum_any p1 m q1 _ w7 M14.out (fun j _ => G0.out j) (by omega)).mono ?_
  rintro e w8 ⟨rfl, b8⟩
  have B8 := hid (below_up B7.out b8)
  have M35 := hid (M34.out.later b8)
  have M25 := hid (M24.out.later b8)
  clear b8 B7 M34 M24 M14
  go_wp2_with fail
  refine (sum_any p2 m q2 _ w8 M25.out (fun j _ => G1.out j) (by omega)).mono ?_
  rintro e w9 ⟨rfl, b9⟩
  have B9 := hid (below_up B8.out b9)
  have M36 := hid (M35.out.later b9)
  clear b9 B8 M35 M25
  have hx1 := u32_xor_nat (moreN 0 L0 m) (moreN 0 L1 m) (moreN_lt _ _ _) (moreN_lt _ _ _)
  have hx2 := u32_xor_nat (moreN 0 L0 m ^^^ moreN 0 L1 m) (moreN 0 L2 m) (Nat.xor_lt_two_pow (n := 32) (moreN_lt _ _ _) (moreN_lt _ _ _)) (moreN_lt _ _ _)
  have HT := hid (more_three (n := m) (fun j _ => G0.out j) (fun j _ => G1.out j) (fun j _ => G2.out j))
  go_wp2_with fail
  refine (sum_any p3 m q3 _ w9 M36.out (fun j _ => G2.out j) (by omega)).mono ?_
  rintro e w10 ⟨rfl, b10⟩
  rw [HT.out]
  generalize moreN 0 L0 m = X at *
  generalize moreN 0 L1 m = Y at *
  generalize moreN 0 L2 m = Z at *
  generalize X ^^^ Y ^^^ Z = T at *
  have htt : ((T : Int) == (T : Int)) = true := by simp
  go_wp2_with fail
  go_ret
  exact ⟨rfl, below_up B9.out b10⟩
end Go.Proofs.Ytjiibjbbbglpeaa
