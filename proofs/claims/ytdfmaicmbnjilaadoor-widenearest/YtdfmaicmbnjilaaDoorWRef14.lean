/-
  The document's numbers: Times; the law's magnitude.
-/
import Derived.Test.YtdfmaicmbnjilaaDoorWRef13
namespace Go.Proofs.YtdfmaicmbnjilaaDoor
open Go.RowKit Wd

theorem cShifted (x y : Int) (i : Nat) (hi : i ≤ 384) (hy : x * ((2 ^ i : Nat) : Int) = y) (hl : x.natAbs * 2 ^ i < top24) (ga : Nat) (w : World) (hA : NmB w ga x) : Calls Tryd.prog 52 #[.slice (some ⟨ga, 0, none⟩) 24 24, .int .i64 (i : Int)] w fun e w' => ∃ g, e = .returned (.slice (some ⟨g, 0, none⟩) 24 24) ∧ w.heap.size ≤ g ∧ NmB w' g y ∧ Below w.heap.size w w' := by
  obtain ⟨D, h1, h2, h3⟩ := hA
  refine (rShifted ga D i w h1 h2 hi (by rw [h3]; exact hl)).mono ?_
  rintro e w' ⟨C, rfl, c1, c2, c3, b⟩
  exact ⟨_, rfl, Nat.le_refl _, ⟨C, c1, c2, by rw [c3, h3, ← hy, Int.natAbs_mul, Int.natAbs_natCast]⟩, b⟩
/-- A number so many times, as far as the factor's lowest bits. -/
def tms (x : Int) (n i : Nat) : Int := x * ((n % 2 ^ i : Nat) : Int)
theorem tms_zero (x : Int) (n : Nat) : tms x n 0 = 0 := by unfold tms; rw [Nat.pow_zero, Nat.mod_one]; simp
theorem tms_bit {x : Int} {n i : Nat} (h : n / 2 ^ i % 2 = 1) : tms x n (i + 1) = tms x n i + x * ((2 ^ i : Nat) : Int) := by
  unfold tms
  rw [Nat.pow_succ, Nat.mod_mul, h, Nat.mul_one, Int.natCast_add, Int.mul_add]
theorem tms_none {x : Int} {n i : Nat} (h : n / 2 ^ i % 2 = 0) : tms x n (i + 1) = tms x n i := by
  unfold tms
  rw [Nat.pow_succ, Nat.mod_mul, h, Nat.mul_zero, Nat.add_zero]
theorem tms_all {x : Int} {n : Nat} (h : n < 18446744073709551616) : tms x n 64 = x * (n : Int) := by
  unfold tms
  rw [Nat.mod_eq_of_lt (by simpa using h)]
theorem tms_lim {x : Int} {n i : Nat} (hi : i < 64) (hl : x.natAbs * 18446744073709551616 < top24) : (tms x n i).natAbs + (x * ((2 ^ i : Nat) : Int)).natAbs < top24 ∧ x.natAbs * 2 ^ i < top24 := by
  have h1 : n % 2 ^ i < 2 ^ i := Nat.mod_lt _ (Nat.two_pow_pos i)
  have h2 : 2 ^ (i + 1) ≤ 2 ^ 64 := Nat.pow_le_pow_right (by decide) (by omega)
  have h3 : (2 : Nat) ^ 64 = 18446744073709551616 := by decide
  have h4 : n % 2 ^ i + 2 ^ i ≤ 18446744073709551616 := by rw [Nat.pow_succ] at h2; omega
  unfold tms
  rw [Int.natAbs_mul, Int.natAbs_mul, Int.natAbs_natCast, Int.natAbs_natCast]
  constructor
  · rw [← Nat.mul_add]
    exact Nat.lt_of_le_of_lt (Nat.mul_le_mul_left _ h4) hl
  · exact Nat.lt_of_le_of_lt (Nat.mul_le_mul_left _ (by omega)) hl
theorem sgn_pow (x : Int) (i : Nat) : decide (x * ((2 ^ i : Nat) : Int) < 0) = decide (x < 0) := by
  have hp : (0 : Int) < ((2 ^ i : Nat) : Int) := by have := Nat.two_pow_pos i; omega
  rw [decide_eq_decide]
  constructor
  · intro h
    apply Int.not_le.1
    intro k
    exact absurd (Int.mul_nonneg k (Int.le_of_lt hp)) (Int.not_le.2 h)
  · intro h
    exact Int.mul_neg_of_neg_of_pos h hp
theorem u64_and1 {x : Nat} (h : x < 18446744073709551616) : bits BinOp.and IntKind.u64 (x : Int) 1 = ((x % 2 : Nat) : Int) := by
  rw [show (1 : Int) = ((1 : Nat) : Int) from rfl, u64_and_nat x 1 h (by decide), Nat.and_one_is_mod]
/-- What the loop keeps. -/
def Tst (w : World) (bA bR b5 : Nat) (x : Int) (s : Bool) (y : Int) (w0 : World) : Prop :=
  (∃ g, Bn w bA (.slice (some ⟨g, 0, none⟩) 24 24) s ∧ NmB w g x) ∧ (∃ g, w0.heap.size ≤ g ∧ Bn w b5 (.slice (some ⟨g, 0, none⟩) 24 24) (decide (y < 0)) ∧ NmB w g y) ∧ Bn w bR (.slice none 0 0) false ∧ bA < bR ∧ bR < b5 ∧ w0.heap.size ≤ bA ∧ Below w0.heap.size w0 w
set_option maxRecDepth 8000 in
set_option maxHeartbeats 4000000 in
theorem rTimes (x : Int) (s : Bool) (hs : decide (x < 0) = s) (n : Nat) (hn : n < 18446744073709551616) (hl : x.natAbs * 18446744073709551616 < top24) (ga : Nat) (w : World) (hA : NmB w ga x) : Calls Tryd.prog 30 #[.agg #[.slice (some ⟨ga, 0, none⟩) 24 24, .bool s], .int .u64 (n : Int)] w fun e w' => ∃ g, e = .returned (.agg #[.slice (some ⟨g, 0, none⟩) 24 24, .bool (decide (x * (n : Int) < 0))]) ∧ w.heap.size ≤ g ∧ NmB w' g (x * (n : Int)) ∧ Below w.heap.size w w' := by
  rw [← tms_all hn]
  obtain ⟨zz, hzz⟩ : ∃ zz, tms x n 64 = zz := ⟨_, rfl⟩
  obtain ⟨sg, hsg⟩ : ∃ sg, decide (zz < 0) = sg := ⟨_, rfl⟩
  rw [hzz, hsg]
  have HZZ := hid (And.intro hzz hsg)
  clear hzz hsg
  obtain ⟨w1, hw1⟩ : ∃ w1, w.alloc (.cells #[.slice (some ⟨ga, 0, none⟩) 24 24, .bool s] 38) = w1 := ⟨_, rfl⟩
  obtain ⟨w2, hw2⟩ : ∃ w2, w1.alloc (.cells #[.slice none 0 0, .bool false] 38) = w2 := ⟨_, rfl⟩
  have b1 : Below w.heap.size w w1 := by rw [← hw1]; exact below_new _ _
  have b2 : Below w1.heap.size w1 w2 := by rw [← hw2]; exact below_new _ _
  have b12 := below_up b1 b2
  have s1 : w1.heap.size = w.heap.size + 1 := by rw [← hw1]; simp
  have s2 : w2.heap.size = w1.heap.size + 1 := by rw [← hw2]; simp
  have X2 : Hid (Bn w2 w.heap.size (.slice (some ⟨ga, 0, none⟩) 24 24) s) := Bn.later (by rw [← hw1]; exact Bn.new _ _ _) b2
  have R2 : Hid (Bn w2 w1.heap.size (.slice none 0 0) false) := by rw [← hw2]; exact Bn.new _ _ _
  have A2 := hid (hA.later b12)
  have B2 := hid b12
  have S1 := hid s1
  have S2 := hid s2
  have HL := hid hl
  have HS := hid hs
  clear b1 b2 b12 s1 s2 hl hA hs
  go_enter Tryd.func30, Tryd.ntmps30
  go_wp2_with fail
  refine (rZero _).mono ?_
  rintro e w3 ⟨rfl, Z3, b3⟩
  obtain ⟨w4, hw4⟩ : ∃ w4, w3.alloc (.cells #[.slice none 0 0, .bool false] 38) = w4 := ⟨_, rfl⟩
  have b4 : Below w3.heap.size w3 w4 := by rw [← hw4]; exact below_new _ _
  have Q4 : Bn w4 w3.heap.size (.slice none 0 0) false := by rw [← hw4]; exact Bn.new _ _ _
  have b34 := below_up b3 b4
  have h23 : w2.heap.size ≤ w3.heap.size := b3.size
  have z0 := Q4.dig
  have z1 := Q4.sgn
  have f0 := Q4.frz 0
  have f1 := Q4.frz 1
  have N3 : NmB w3 w2.heap.size 0 := ⟨_, Z3, fun _ => Nat.succ_pos 65535, dv_none (fun _ => rfl) 24⟩
  have ST : Hid (Tst (pt w4 w3.heap.size (.slice (some ⟨w2.heap.size, 0, none⟩) 24 24) (.bool false)) w.heap.size w1.heap.size w3.heap.size x s (tms x n 0) w) := by
    have q1 := S1.out
    have q2 := S2.out
    refine ⟨⟨ga, (X2.out.later b34).off Q4 (by omega) _ _, (A2.out.later b34).off Q4 _ _⟩, ⟨w2.heap.size, by omega, ?_, ?_⟩, (R2.out.later b34).off Q4 (by omega) _ _, by omega, by omega, Nat.le_refl _, below_pt (below_up B2.out b34) (by omega) _ _⟩
    · rw [tms_zero]; exact Q4.pt _ _
    · rw [tms_zero]; exact (N3.later b4).off Q4 _ _
  unfold pt at ST
  clear Q4 b3 b4 b34 h23 N3 Z3 X2 R2 A2 B2 S1 S2 hw1 hw2
  go_wp2_with fail
  generalize World.setCell _ _ _ = w5 at *
  generalize w3.heap.size = b5 at *
  generalize w1.heap.size = bR at *
  clear z0 z1 f0 f1 hw4
  generalize w2.heap.size = gz at *
  go_loopw [6] (fun ix wr => ∃ i : Nat, i ≤ 64 ∧ ix = .int .i64 (i : Int) ∧ Hid (Tst wr w.heap.size bR b5 x s (tms x n i) w)) (fun ix _ => 64 - (intOf ix).toNat)
  case atStart => exact ⟨0, by omega, rfl, ST⟩
  case round =>
    rename World => wr
    clear ST
    obtain ⟨i, hi', rfl, SS⟩ := hrel
    by_cases hlt : i < 64
    · have hii : (i : Int) < 64 := by omega
      obtain ⟨y, hy⟩ : ∃ y, y = n / 2 ^ i := ⟨_, rfl⟩
      have hyl : y < 18446744073709551616 := by rw [hy]; exact Nat.lt_of_le_of_lt (Nat.div_le_self _ _) hn
      have es : (n : Int) / 2 ^ i = (y : Int) := by rw [hy, Int.natCast_ediv, Int.natCast_pow]; rfl
      have ea := u64_and1 hyl
      by_cases c2 : y % 2 = 1
      · rw [c2] at ea
        have ea' : bits BinOp.and IntKind.u64 (y : Int) 1 = 1 := ea
        have hst := tms_bit (x := x) (show n / 2 ^ i % 2 = 1 by rw [← hy]; exact c2)
        obtain ⟨l1, l2⟩ := tms_lim (n := n) hlt HL.out
        have hsg := sgn_pow x i
        rw [HS.out] at hsg
        obtain ⟨v, hv⟩ : ∃ v, x * ((2 ^ i : Nat) : Int) = v := ⟨_, rfl⟩
        rw [hv] at hst l1 hsg
        have CS := hid (cShifted x v i (by omega) hv l2)
        obtain ⟨z, hz⟩ : ∃ z, tms x n (i + 1) = z := ⟨_, rfl⟩
        rw [hz] at hst
        obtain ⟨⟨g, XB, XN⟩, ⟨gy, -, YB, YN⟩, RB, q1, q2, q3, q4⟩ := SS.out
        obtain ⟨sy, hsy⟩ : ∃ sy, decide (tms x n i < 0) = sy := ⟨_, rfl⟩
        obtain ⟨sz, hsz⟩ : ∃ sz, decide (z < 0) = sz := ⟨_, rfl⟩
        rw [hsy] at YB
        have CP := hid (cPlus (tms x n i) v z sy s sz hst.symm hsy hsg hsz l1)
        have HZ := hid (And.intro hz hsz)
        have HXB := hid XB
        have HXN := hid XN
        have HYB := hid YB
        have HYN := hid YN
        have HRB := hid RB
        have HQ := hid (And.intro q1 (And.intro q2 (And.intro q3 q4)))
        have c0 := XB.dig
        have c1 := XB.sgn
        have d0 := YB.dig
        have d1 := YB.sgn
        clear SS XB XN YB YN RB q1 q2 q3 q4 hst l1 l2 hsg hv hz hsy hsz hy ea c2
        go_wp2_with fail
        go_region_with first
          | (go_at_call 52; refine (CS.out _ _ (by exact NmB.same HXN.out rfl)).mono ?_; rintro e wa ⟨gv, rfl, hgv, NV, ba⟩; have XA := hid (Bn.later (w := wr.drew) HXB.out ba); have XNA := hid (NmB.later (w := wr.drew) (NmB.same HXN.out rfl) ba); have YA := hid (Bn.later (w := wr.drew) HYB.out ba); have YNA := hid (NmB.later (w := wr.drew) (NmB.same HYN.out rfl) ba); have RA := hid (Bn.later (w := wr.drew) HRB.out ba); have VA := hid NV; have QA := hid (below_up (b := wr.drew) HQ.out.2.2.2.drew ba); have j0 := XA.out.dig; have j1 := XA.out.sgn; have k0 := YA.out.dig; have k1 := YA.out.sgn; clear NV ba)
          | (go_at_call 32; refine (CP.out _ _ _ YNA.out VA.out).mono ?_; rintro e wb ⟨gz2, rfl, hgz, NZ, bb⟩; have YBb := YA.out.later bb; have z0 := YBb.dig; have z1 := YBb.sgn; have f0 := YBb.frz 0; have f1 := YBb.frz 1; have ST2 : Hid (Tst (pt wb b5 (.slice (some ⟨gz2, 0, none⟩) 24 24) (.bool sz)) w.heap.size bR b5 x s z w) := ⟨⟨g, (XA.out.later bb).off YBb (by have := HQ.out.1; have := HQ.out.2.1; omega) _ _, (XNA.out.later bb).off YBb _ _⟩, ⟨gz2, Nat.le_trans QA.out.size hgz, by rw [HZ.out.2]; exact YBb.pt _ _, NZ.off YBb _ _⟩, (RA.out.later bb).off YBb (Nat.ne_of_lt HQ.out.2.1) _ _, HQ.out.1, HQ.out.2.1, HQ.out.2.2.1, below_pt (below_up QA.out bb) (by have := HQ.out.1; have := HQ.out.2.1; have := HQ.out.2.2.1; omega) _ _⟩; unfold pt at ST2; clear YBb NZ bb)
        all_goals
          generalize World.setCell _ _ _ = w9 at *
          go_wp2_with fail
          exact ⟨⟨i + 1, by omega, by go_num, by rw [HZ.out.1]; exact ST2⟩, by simp [intOf]; omega⟩
      · have c2' : y % 2 = 0 := by omega
        rw [c2'] at ea
        have ea' : bits BinOp.and IntKind.u64 (y : Int) 1 = 0 := ea
        have HE := hid (tms_none (x := x) (show n / 2 ^ i % 2 = 0 by rw [← hy]; exact c2'))
        clear hy c2 c2' ea
        go_wp2_with fail
        exact ⟨⟨i + 1, by omega, by go_num, by rw [HE.out]; exact SS⟩, by simp [intOf]; omega⟩
    · obtain rfl : i = 64 := by omega
      obtain ⟨-, ⟨g, hgg, YB, YN⟩, RB, q1, q2, q3, q4⟩ := SS.out
      have hge := hid hgg
      rw [HZZ.out.1] at YB YN
      rw [HZZ.out.2] at YB
      obtain ⟨E, e1, e2, e3⟩ := YN
      have YN : NmB wr g zz := ⟨E, e1, e2, e3⟩
      have HNE : Hid (b5 ≠ bR) := Nat.ne_of_gt q2
      have HNG : Hid (g ≠ bR) := YN.ne RB
      have HDE := hid e1
      have P := hid (RB.pt (.slice (some ⟨g, 0, none⟩) 24 24) sg)
      have NP := hid (YN.off RB (.slice (some ⟨g, 0, none⟩) 24 24) (.bool sg))
      have BP := hid (below_pt q4 (show w.heap.size ≤ bR by omega) (.slice (some ⟨g, 0, none⟩) 24 24) (.bool sg))
      unfold pt at P NP BP
      have r0 := RB.dig
      have r1 := RB.sgn
      have f0 := RB.frz 0
      have f1 := RB.frz 1
      cases sg
      · have HXB : Hid (Bn wr.drew b5 (.slice (some ⟨g, 0, none⟩) 24 24) false) := YB
        clear YB YN RB e1 e2 e3 q1 q2 q3 q4 hgg
        go_wp2_with fail
        refine wp_region_noPanic ?_
        refine wp_region_held_drew (S := fun W => Bn W b5 (.slice (some ⟨g, 0, none⟩) 24 24) false ∧ DB W g E) (by kernel_rfl) (⟨HXB.out, HDE.out.same rfl⟩) (fun hHeld0 => ?_)
        refine wpAnyH_take (i := 0) (oi := { dst := some 28, op := Op.fieldAddr 38 (Operand.tmp 5) 0, type := 0, pos := "ref.go:154", after := #[], guard := none }) (v := ?_) rfl (by kernel_rfl) (by kernel_rfl) (by kernel_rfl) (fun _ _ _ h => h) (Or.inl ⟨by rfl, ?_⟩) (by assumption) ?_
        rotate_left
        · intro W hSw
          try dsimp only at hSw
          have q0 := hSw.1.dig; have q1 := hSw.1.sgn
          go_simp
          try with_reducible rfl
        try simp only [Act.put, List.setIfInBounds_toArray, List.set_cons_zero, List.set_cons_succ]
        refine wpAnyH_take (i := 1) (oi := { dst := some 29, op := Op.load 36 (Operand.tmp 28), type := 36, pos := "ref.go:154", after := #[{ on := 0, ground := Ground.data }], guard := none }) (v := ?_) rfl (by kernel_rfl) (by kernel_rfl) (by kernel_rfl) (fun _ _ _ h => h) (Or.inl ⟨by rfl, ?_⟩) (by assumption) ?_
        rotate_left
        · intro W hSw
          try dsimp only at hSw
          have q0 := hSw.1.dig; have q1 := hSw.1.sgn
          go_simp
          try with_reducible rfl
        try simp only [Act.put, List.setIfInBounds_toArray, List.set_cons_zero, List.set_cons_succ]
        refine wpAnyH_take (i := 2) (oi := { dst := some 30, op := Op.fieldAddr 38 (Operand.tmp 5) 1, type := 0, pos := "ref.go:154", after := #[], guard := none }) (v := ?_) rfl (by kernel_rfl) (by kernel_rfl) (by kernel_rfl) (fun _ _ _ h => h) (Or.inl ⟨by rfl, ?_⟩) (by assumption) ?_
        rotate_left
        · intro W hSw
          try dsimp only at hSw
          have q0 := hSw.1.dig; have q1 := hSw.1.sgn
          go_simp
          try with_reducible rfl
        try simp only [Act.put, List.setIfInBounds_toArray, List.set_cons_zero, List.set_cons_succ]
        refine wpAnyH_take (i := 3) (oi := { dst := some 31, op := Op.load 4 (Operand.tmp 30), type := 4, pos := "ref.go:154", after := #[{ on := 2, ground := Ground.data }], guard := none }) (v := ?_) rfl (by kernel_rfl) (by kernel_rfl) (by kernel_rfl) (fun _ _ _ h => h) (Or.inl ⟨by rfl, ?_⟩) (by assumption) ?_
        rotate_left
        · intro W hSw
          try dsimp only at hSw
          have q0 := hSw.1.dig; have q1 := hSw.1.sgn
          go_simp
          try with_reducible rfl
        try simp only [Act.put, List.setIfInBounds_toArray, List.set_cons_zero, List.set_cons_succ]
        refine wpAnyH_take (i := 4) (oi := { dst := some 32, op := Op.move (Operand.tmp 31), type := 4, pos := "ref.go:154", after := #[{ on := 3, ground := Ground.data }], guard := none }) (v := Value.bool false) rfl (by kernel_rfl) (by kernel_rfl) (by kernel_rfl) (fun _ _ _ h => h) (Or.inl ⟨by rfl, ?_⟩) (by assumption) ?_
        · intro W hSw
          try dsimp only at hSw
          go_simp
          try with_reducible rfl
        try simp only [Act.put, List.setIfInBounds_toArray, List.set_cons_zero, List.set_cons_succ]
        refine wpAnyH_take (i := 5) (oi := { dst := some 33, op := Op.fieldAddr 38 (Operand.tmp 5) 0, type := 0, pos := "ref.go:154", after := #[{ on := 4, ground := Ground.guard }], guard := some (4, true) }) (v := undef) rfl (by kernel_rfl) (by kernel_rfl) (by kernel_rfl) (fun _ _ _ h => h) (Or.inr ⟨by rfl, rfl⟩) (by assumption) ?_
        try simp only [Act.put, List.setIfInBounds_toArray, List.set_cons_zero, List.set_cons_succ]
        refine wpAnyH_take (i := 6) (oi := { dst := some 34, op := Op.load 36 (Operand.tmp 33), type := 36, pos := "ref.go:154", after := #[{ on := 5, ground := Ground.data }, { on := 4, ground := Ground.guard }], guard := some (4, true) }) (v := undef) rfl (by kernel_rfl) (by kernel_rfl) (by kernel_rfl) (fun _ _ _ h => h) (Or.inr ⟨by rfl, rfl⟩) (by assumption) ?_
        try simp only [Act.put, List.setIfInBounds_toArray, List.set_cons_zero, List.set_cons_succ]
        refine wpAnyH_take (i := 7) (oi := { dst := some 35, op := Op.call { callee := Callee.value (Operand.func 40), args := #[Operand.tmp 34], argTypes := #[36] }, type := 4, pos := "ref.go:154", after := #[{ on := 6, ground := Ground.data }, { on := 4, ground := Ground.chain }, { on := 4, ground := Ground.guard }], guard := some (4, true) }) (v := undef) rfl (by kernel_rfl) (by kernel_rfl) (by kernel_rfl) (fun _ _ _ h => h) (Or.inr ⟨by rfl, rfl⟩) (by assumption) ?_
        try simp only [Act.put, List.setIfInBounds_toArray, List.set_cons_zero, List.set_cons_succ]
        refine wpAnyH_take (i := 8) (oi := { dst := some 36, op := Op.unOp UnOp.not 4 (Operand.tmp 35), type := 4, pos := "ref.go:154", after := #[{ on := 7, ground := Ground.data }, { on := 4, ground := Ground.guard }], guard := some (4, true) }) (v := undef) rfl (by kernel_rfl) (by kernel_rfl) (by kernel_rfl) (fun _ _ _ h => h) (Or.inr ⟨by rfl, rfl⟩) (by assumption) ?_
        try simp only [Act.put, List.setIfInBounds_toArray, List.set_cons_zero, List.set_cons_succ]
        refine wpAnyH_take (i := 9) (oi := { dst := some 37, op := Op.pick (Operand.tmp 32) (Operand.tmp 36) (Operand.const (Value.bool false)), type := 4, pos := "ref.go:154", after := #[{ on := 4, ground := Ground.data }, { on := 8, ground := Ground.data }], guard := none }) (v := Value.bool false) rfl (by kernel_rfl) (by kernel_rfl) (by kernel_rfl) (fun _ _ _ h => h) (Or.inl ⟨by rfl, ?_⟩) (by assumption) ?_
        · intro W hSw
          try dsimp only at hSw
          go_simp
          try with_reducible rfl
        try simp only [Act.put, List.setIfInBounds_toArray, List.set_cons_zero, List.set_cons_succ]
        refine wpAnyH_take (i := 10) (oi := { dst := some 38, op := Op.build 38 #[(0, Operand.tmp 29), (1, Operand.tmp 37)], type := 38, pos := "ref.go:154", after := #[{ on := 1, ground := Ground.data }, { on := 9, ground := Ground.data }], guard := none }) (v := ?_) rfl (by kernel_rfl) (by kernel_rfl) (by kernel_rfl) (fun _ _ _ h => h) (Or.inl ⟨by rfl, ?_⟩) (by assumption) ?_
        rotate_left
        · intro W hSw
          try dsimp only at hSw
          go_simp
          try with_reducible rfl
        try simp only [Act.put, List.setIfInBounds_toArray, List.set_cons_zero, List.set_cons_succ]
        refine wpAnyH_ready (rs := [11]) (by kernel_rfl) (by simp) ?_
        refine AllReadyH.cons (o := { dst := none, op := Op.store 38 (Operand.tmp 4) (Operand.tmp 38), type := 0, pos := "ref.go:154", after := #[{ on := 10, ground := Ground.data }, { on := 7, ground := Ground.chain }, { on := 0, ground := Ground.phase }, { on := 1, ground := Ground.phase }, { on := 2, ground := Ground.phase }, { on := 3, ground := Ground.phase }, { on := 4, ground := Ground.phase }, { on := 5, ground := Ground.phase }, { on := 6, ground := Ground.phase }, { on := 7, ground := Ground.phase }, { on := 8, ground := Ground.phase }, { on := 9, ground := Ground.phase }, { on := 10, ground := Ground.phase }], guard := none }) rfl (fun K hK => ?_) AllReadyH.nil
        rw [if_pos (by rfl)]
        go_simp
        refine hK.out _ _ (⟨(hHeld0.1.far (p := ⟨bR, 0, none⟩) HNE.out _).far (p := ⟨bR, 1, none⟩) HNE.out _, (hHeld0.2.far (p := ⟨bR, 0, none⟩) HNG.out _).far (p := ⟨bR, 1, none⟩) HNG.out _⟩) (fun hHeld1 => ?_)
        clear hK K hHeld0
        try simp only [Act.put, List.setIfInBounds_toArray, List.set_cons_zero, List.set_cons_succ]
        refine wpAnyH_done (by kernel_rfl) ?_ _
        refine NoPanic.normal ?_
        clear hHeld1
        all_goals
          generalize World.setCell _ _ _ = w9 at *
          go_wp2_with fail
          have e0 := P.out.dig
          have e1 := P.out.sgn
          simp [bodyPost, results, Tryd.results30, go_sem, e0, e1]
          exact ⟨hge.out, NP.out.same rfl, BP.out.drew⟩
      · have HXB : Hid (Bn wr.drew b5 (.slice (some ⟨g, 0, none⟩) 24 24) true) := YB
        have CZ : Hid (∀ W, DB W g E → Calls Tryd.prog 40 #[.slice (some ⟨g, 0, none⟩) 24 24] W fun e w' => e = .returned (.bool false) ∧ w' = W) := fun W hW => by
          have := rIsZero g E W hW
          rwa [show decide (dv E 24 = 0) = false from decide_eq_false (by rw [e3]; have := of_decide_eq_true HZZ.out.2; omega)] at this
        clear YB YN RB e1 e2 e3 q1 q2 q3 q4 hgg
        go_wp2_with fail
        refine wp_region_noPanic ?_
        refine wp_region_held_drew (S := fun W => Bn W b5 (.slice (some ⟨g, 0, none⟩) 24 24) true ∧ DB W g E) (by kernel_rfl) (⟨HXB.out, HDE.out.same rfl⟩) (fun hHeld0 => ?_)
        refine wpAnyH_take (i := 0) (oi := { dst := some 28, op := Op.fieldAddr 38 (Operand.tmp 5) 0, type := 0, pos := "ref.go:154", after := #[], guard := none }) (v := ?_) rfl (by kernel_rfl) (by kernel_rfl) (by kernel_rfl) (fun _ _ _ h => h) (Or.inl ⟨by rfl, ?_⟩) (by assumption) ?_
        rotate_left
        · intro W hSw
          try dsimp only at hSw
          have q0 := hSw.1.dig; have q1 := hSw.1.sgn
          go_simp
          try with_reducible rfl
        try simp only [Act.put, List.setIfInBounds_toArray, List.set_cons_zero, List.set_cons_succ]
        refine wpAnyH_take (i := 1) (oi := { dst := some 29, op := Op.load 36 (Operand.tmp 28), type := 36, pos := "ref.go:154", after := #[{ on := 0, ground := Ground.data }], guard := none }) (v := ?_) rfl (by kernel_rfl) (by kernel_rfl) (by kernel_rfl) (fun _ _ _ h => h) (Or.inl ⟨by rfl, ?_⟩) (by assumption) ?_
        rotate_left
        · intro W hSw
          try dsimp only at hSw
          have q0 := hSw.1.dig; have q1 := hSw.1.sgn
          go_simp
          try with_reducible rfl
        try simp only [Act.put, List.setIfInBounds_toArray, List.set_cons_zero, List.set_cons_succ]
        refine wpAnyH_take (i := 2) (oi := { dst := some 30, op := Op.fieldAddr 38 (Operand.tmp 5) 1, type := 0, pos := "ref.go:154", after := #[], guard := none }) (v := ?_) rfl (by kernel_rfl) (by kernel_rfl) (by kernel_rfl) (fun _ _ _ h => h) (Or.inl ⟨by rfl, ?_⟩) (by assumption) ?_
        rotate_left
        · intro W hSw
          try dsimp only at hSw
          have q0 := hSw.1.dig; have q1 := hSw.1.sgn
          go_simp
          try with_reducible rfl
        try simp only [Act.put, List.setIfInBounds_toArray, List.set_cons_zero, List.set_cons_succ]
        refine wpAnyH_take (i := 3) (oi := { dst := some 31, op := Op.load 4 (Operand.tmp 30), type := 4, pos := "ref.go:154", after := #[{ on := 2, ground := Ground.data }], guard := none }) (v := ?_) rfl (by kernel_rfl) (by kernel_rfl) (by kernel_rfl) (fun _ _ _ h => h) (Or.inl ⟨by rfl, ?_⟩) (by assumption) ?_
        rotate_left
        · intro W hSw
          try dsimp only at hSw
          have q0 := hSw.1.dig; have q1 := hSw.1.sgn
          go_simp
          try with_reducible rfl
        try simp only [Act.put, List.setIfInBounds_toArray, List.set_cons_zero, List.set_cons_succ]
        refine wpAnyH_take (i := 4) (oi := { dst := some 32, op := Op.move (Operand.tmp 31), type := 4, pos := "ref.go:154", after := #[{ on := 3, ground := Ground.data }], guard := none }) (v := Value.bool true) rfl (by kernel_rfl) (by kernel_rfl) (by kernel_rfl) (fun _ _ _ h => h) (Or.inl ⟨by rfl, ?_⟩) (by assumption) ?_
        · intro W hSw
          try dsimp only at hSw
          go_simp
          try with_reducible rfl
        try simp only [Act.put, List.setIfInBounds_toArray, List.set_cons_zero, List.set_cons_succ]
        refine wpAnyH_take (i := 5) (oi := { dst := some 33, op := Op.fieldAddr 38 (Operand.tmp 5) 0, type := 0, pos := "ref.go:154", after := #[{ on := 4, ground := Ground.guard }], guard := some (4, true) }) (v := ?_) rfl (by kernel_rfl) (by kernel_rfl) (by kernel_rfl) (fun _ _ _ h => h) (Or.inl ⟨by rfl, ?_⟩) (by assumption) ?_
        rotate_left
        · intro W hSw
          try dsimp only at hSw
          have q0 := hSw.1.dig; have q1 := hSw.1.sgn
          go_simp
          try with_reducible rfl
        try simp only [Act.put, List.setIfInBounds_toArray, List.set_cons_zero, List.set_cons_succ]
        refine wpAnyH_take (i := 6) (oi := { dst := some 34, op := Op.load 36 (Operand.tmp 33), type := 36, pos := "ref.go:154", after := #[{ on := 5, ground := Ground.data }, { on := 4, ground := Ground.guard }], guard := some (4, true) }) (v := ?_) rfl (by kernel_rfl) (by kernel_rfl) (by kernel_rfl) (fun _ _ _ h => h) (Or.inl ⟨by rfl, ?_⟩) (by assumption) ?_
        rotate_left
        · intro W hSw
          try dsimp only at hSw
          have q0 := hSw.1.dig; have q1 := hSw.1.sgn
          go_simp
          try with_reducible rfl
        try simp only [Act.put, List.setIfInBounds_toArray, List.set_cons_zero, List.set_cons_succ]
        refine wpAnyH_ready (rs := [7]) (by kernel_rfl) (by simp) ?_
        refine AllReadyH.cons (o := { dst := some 35, op := Op.call { callee := Callee.value (Operand.func 40), args := #[Operand.tmp 34], argTypes := #[36] }, type := 4, pos := "ref.go:154", after := #[{ on := 6, ground := Ground.data }, { on := 4, ground := Ground.chain }, { on := 4, ground := Ground.guard }], guard := some (4, true) }) rfl (fun K hK => ?_) AllReadyH.nil
        rw [if_pos (by rfl)]
        go_simp
        refine (CZ.out _ hHeld0.2).mono ?_
        rintro e wa ⟨rfl, hwa⟩
        subst wa
        refine hK.out _ _ (hHeld0) (fun hHeld1 => ?_)
        clear hK K hHeld0
        try simp only [Act.put, List.setIfInBounds_toArray, List.set_cons_zero, List.set_cons_succ]
        refine wpAnyH_take (i := 8) (oi := { dst := some 36, op := Op.unOp UnOp.not 4 (Operand.tmp 35), type := 4, pos := "ref.go:154", after := #[{ on := 7, ground := Ground.data }, { on := 4, ground := Ground.guard }], guard := some (4, true) }) (v := Value.bool true) rfl (by kernel_rfl) (by kernel_rfl) (by kernel_rfl) (fun _ _ _ h => h) (Or.inl ⟨by rfl, ?_⟩) (by assumption) ?_
        · intro W hSw
          try dsimp only at hSw
          go_simp
          try with_reducible rfl
        try simp only [Act.put, List.setIfInBounds_toArray, List.set_cons_zero, List.set_cons_succ]
        refine wpAnyH_take (i := 9) (oi := { dst := some 37, op := Op.pick (Operand.tmp 32) (Operand.tmp 36) (Operand.const (Value.bool false)), type := 4, pos := "ref.go:154", after := #[{ on := 4, ground := Ground.data }, { on := 8, ground := Ground.data }], guard := none }) (v := Value.bool true) rfl (by kernel_rfl) (by kernel_rfl) (by kernel_rfl) (fun _ _ _ h => h) (Or.inl ⟨by rfl, ?_⟩) (by assumption) ?_
        · intro W hSw
          try dsimp only at hSw
          go_simp
          try with_reducible rfl
        try simp only [Act.put, List.setIfInBounds_toArray, List.set_cons_zero, List.set_cons_succ]
        refine wpAnyH_take (i := 10) (oi := { dst := some 38, op := Op.build 38 #[(0, Operand.tmp 29), (1, Operand.tmp 37)], type := 38, pos := "ref.go:154", after := #[{ on := 1, ground := Ground.data }, { on := 9, ground := Ground.data }], guard := none }) (v := ?_) rfl (by kernel_rfl) (by kernel_rfl) (by kernel_rfl) (fun _ _ _ h => h) (Or.inl ⟨by rfl, ?_⟩) (by assumption) ?_
        rotate_left
        · intro W hSw
          try dsimp only at hSw
          go_simp
          try with_reducible rfl
        try simp only [Act.put, List.setIfInBounds_toArray, List.set_cons_zero, List.set_cons_succ]
        refine wpAnyH_ready (rs := [11]) (by kernel_rfl) (by simp) ?_
        refine AllReadyH.cons (o := { dst := none, op := Op.store 38 (Operand.tmp 4) (Operand.tmp 38), type := 0, pos := "ref.go:154", after := #[{ on := 10, ground := Ground.data }, { on := 7, ground := Ground.chain }, { on := 0, ground := Ground.phase }, { on := 1, ground := Ground.phase }, { on := 2, ground := Ground.phase }, { on := 3, ground := Ground.phase }, { on := 4, ground := Ground.phase }, { on := 5, ground := Ground.phase }, { on := 6, ground := Ground.phase }, { on := 7, ground := Ground.phase }, { on := 8, ground := Ground.phase }, { on := 9, ground := Ground.phase }, { on := 10, ground := Ground.phase }], guard := none }) rfl (fun K hK => ?_) AllReadyH.nil
        rw [if_pos (by rfl)]
        go_simp
        refine hK.out _ _ (⟨(hHeld1.1.far (p := ⟨bR, 0, none⟩) HNE.out _).far (p := ⟨bR, 1, none⟩) HNE.out _, (hHeld1.2.far (p := ⟨bR, 0, none⟩) HNG.out _).far (p := ⟨bR, 1, none⟩) HNG.out _⟩) (fun hHeld2 => ?_)
        clear hK K hHeld1
        try simp only [Act.put, List.setIfInBounds_toArray, List.set_cons_zero, List.set_cons_succ]
        refine wpAnyH_done (by kernel_rfl) ?_ _
        refine NoPanic.normal ?_
        clear hHeld2
        all_goals
          generalize World.setCell _ _ _ = w9 at *
          go_wp2_with fail
          have e0 := P.out.dig
          have e1 := P.out.sgn
          simp [bodyPost, results, Tryd.results30, go_sem, e0, e1]
          exact ⟨hge.out, NP.out.same rfl, BP.out.drew⟩
end Go.Proofs.YtdfmaicmbnjilaaDoor
