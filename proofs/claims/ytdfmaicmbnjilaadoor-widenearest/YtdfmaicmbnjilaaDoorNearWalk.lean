/-
  WideNearest. (Written by mknear.py.)
-/
import Derived.Test.YtdfmaicmbnjilaaDoorWNst
import Derived.Test.YtdfmaicmbnjilaaDoorWKnown
namespace Go.Proofs.YtdfmaicmbnjilaaDoor
open Go.RowKit Wd

theorem word_next (s : Bool) {x b : Nat} (h1 : 4503599627370496 ≤ x) (h2 : x < 9218868437227405311) (hb : Ieee.double.word s x = b) : ∃ b1 b2 : Nat, Ieee.double.word s (x + 1) = b1 ∧ Ieee.double.word s (x - 1) = b2 ∧ (b1 : Int) = (b : Int) + 1 ∧ (b2 : Int) = (b : Int) - 1 ∧ b1 < 18446744073709551616 ∧ 1 ≤ b ∧ b < 18446744073709551615 ∧ b % 9223372036854775808 = x ∧ b / 9223372036854775808 % 2 = (if s = true then 1 else 0) := by
  refine ⟨_, _, rfl, rfl, ?_⟩
  subst hb
  unfold Ieee.Format.word
  rw [Vl.d_sign]
  cases s
  · simp only [Bool.false_eq_true, if_false]
    exact ⟨by omega, by omega, by omega, by omega, by omega, by omega, by omega⟩
  · simp only [if_true]
    exact ⟨by omega, by omega, by omega, by omega, by omega, by omega, by omega⟩
theorem lt_word {s : Bool} {x b : Nat} (h0 : 0 < x) (h1 : x < 9218868437227405312) (e1 : b % 9223372036854775808 = x) (e2 : b / 9223372036854775808 % 2 = (if s = true then 1 else 0)) : (FloatKind.f64.format.order b 0 == some .lt) = s ∧ (FloatKind.f64.format.order b 0 == some .eq) = false := by
  constructor
  · show (Ieee.double.order b 0 == some .lt) = s
    rw [Vl.lt_zero, e1, e2, decide_eq_true (show x ≠ 0 by omega), decide_eq_true (show x ≤ 9218868437227405312 by omega)]
    cases s <;> rfl
  · show (Ieee.double.order b 0 == some .eq) = false
    rw [Vl.eq_zero, e1]
    exact decide_eq_false (by omega)
theorem hi_dec {a : Int} (ha : Is a) : decide (hi a < 0) = decide (a < 0) := by
  rw [decide_eq_decide]; exact hi_neg ha
set_option maxRecDepth 8000 in
set_option maxHeartbeats 16000000 in
theorem near_walk (a n : Int) (ha : Is a) (hn1 : I64 n) (w : World) (ht : Tb w) : Calls Tryd.prog 4 #[.agg #[.int .i64 (hi (a)), .int .u64 (lo (a))], .int .i64 n] w fun e w' => e = .returned (.bool true) ∧ Below w.heap.size w w' := by
  obtain ⟨w1, hw1⟩ : ∃ w1, w.alloc (.cells #[.int .i64 (hi a), .int .u64 (lo a)] 24) = w1 := ⟨_, rfl⟩
  have b1 : Below w.heap.size w w1 := by rw [← hw1]; exact below_new _ _
  have X1 : Bw w1 w.heap.size (hi a) (lo a) := by rw [← hw1]; exact Bw.new _ _ _
  have HK := hid (known_any w1 (ht.later b1))
  have CA := hid (mean_any a n ha hn1)
  have XB := hid X1
  have B := hid b1
  clear ht b1 X1
  by_cases h1 : n < 1
  · have hE : meanE n = 2 := by unfold meanE; rw [if_pos h1]
    rw [hE] at CA
    clear ha hn1 hE
    generalize hi a = H at *
    generalize lo a = L at *
    generalize meanW a n = fa at *
    go_enter Tryd.func4, Tryd.ntmps4
    go_wp2_with fail
    refine HK.out.mono ?_
    rintro e w3 ⟨rfl, b3⟩
    replace XB := hid (XB.out.later b3)
    replace B := hid (below_up B.out b3)
    have c0 := XB.out.hi
    have c1 := XB.out.lo
    clear b3 HK hw1
    go_wp2_with fail
    refine (CA.out _).mono ?_
    rintro e w4 ⟨rfl, b3⟩
    replace B := hid (below_up B.out b3)
    clear b3 CA c0 c1
    go_wp2_with fail
    go_ret
    exact ⟨rfl, B.out⟩
  have hE : meanE n = 0 := by unfold meanE; rw [if_neg h1]
  rw [hE] at CA
  have h00 : (FloatKind.f64.format.order 0 0 != some .eq) = false := by rfl
  by_cases h0 : a = 0
  · subst h0
    rw [show meanW 0 n = 0 from by unfold meanW; rw [if_neg h1, if_pos rfl], hi0, lo0] at *
    have hs0 : ∀ w, (binOp BinOp.sub 26 (.float .f64 0) (.float .f64 0)).run Tryd.prog w = .ok (.float .f64 0) w := fun w => run_float_arith w .sub 26 .f64 _ _ _ (sub_self (by decide))
    have h01 : (FloatKind.f64.format.order 0 0 == some .eq) = true := by rfl
    have h02 : (FloatKind.f64.format.order 0 0 == some .lt) = false := by rfl
    clear ha hn1 hE
    go_enter Tryd.func4, Tryd.ntmps4
    go_wp2_with fail
    refine HK.out.mono ?_
    rintro e w3 ⟨rfl, b3⟩
    replace XB := hid (XB.out.later b3)
    replace B := hid (below_up B.out b3)
    have c0 := XB.out.hi
    have c1 := XB.out.lo
    clear b3 HK hw1
    go_wp2_with fail
    refine (CA.out _).mono ?_
    rintro e w4 ⟨rfl, b3⟩
    replace XB := hid (XB.out.later b3)
    replace B := hid (below_up B.out b3)
    clear c0 c1
    have c0 := XB.out.hi
    have c1 := XB.out.lo
    clear b3 CA
    go_wp2_with fail
    go_ret
    exact ⟨rfl, B.out⟩
  obtain ⟨N, rfl⟩ : ∃ N : Nat, n = (N : Int) := ⟨n.toNat, by omega⟩
  have hN1 : 1 ≤ N := by omega
  have hN2 : N < 9223372036854775808 := by unfold I64 at hn1; omega
  obtain ⟨s, x, Vd, Vu, Vw, Dd, Du, Dw, Zd, Zu, Zw, hm, hsa, x1, x2, v1, v2, v3, d1, d2, d3, z1, z2, z3, k1, k2, k3⟩ := near_facts ha h0 hN1 hN2
  have CF1 := hid (far_any s x a N Vd (dbl a 140) Dd Zd (by omega) (by omega) ha hN1 hN2 v1 rfl d1 z1)
  have CF2 := hid (far_any s (x + 1) a N Vu (dbl a 140) Du Zu (by omega) (by omega) ha hN1 hN2 v2 rfl d2 z2)
  have CF3 := hid (far_any s (x - 1) a N Vw (dbl a 140) Dw Zw (by omega) (by omega) ha hN1 hN2 v3 rfl d3 z3)
  have p1 : decide (Zd < 0) = false := decide_eq_false (by omega)
  have p2 : decide (Zu < 0) = false := decide_eq_false (by omega)
  have p3 : decide (Zw < 0) = false := decide_eq_false (by omega)
  obtain ⟨b, hb⟩ : ∃ b, Ieee.double.word s x = b := ⟨_, rfl⟩
  obtain ⟨b1, b2, hb1, hb2, e1, e2, e3, e4, e5, e6, e7⟩ := word_next s (by omega) (by omega) hb
  rw [hm, hb] at CA
  rw [hb] at CF1
  rw [hb1] at CF2
  rw [hb2] at CF3
  obtain ⟨hl0, hq0⟩ := lt_word (s := s) (by omega) (by omega) e6 e7
  obtain ⟨ho1, ho2⟩ := order_low x1 x2
  have ho1' : (FloatKind.f64.format.order x 4318952042648305664 == some .lt) = false := ho1
  have ho2' : (FloatKind.f64.format.order x 5179139571476070400 == some .gt) = false := ho2
  have hHi : decide (hi a < 0) = s := by rw [hi_dec ha, hsa]
  have hs0 : ∀ w, (binOp BinOp.sub 26 (.float .f64 b) (.float .f64 b)).run Tryd.prog w = .ok (.float .f64 0) w := fun w => run_float_arith w .sub 26 .f64 _ _ _ (sub_self (by omega))
  have CAb : Hid (∀ w, Calls Tryd.prog 11 #[.float .f64 b] w fun e w' => e = .returned (.float .f64 x) ∧ w' = w) := by
    intro w
    have := Vl.abs_any b w (by omega)
    rw [e6] at this
    exact this
  have hbits := Vl.run_bits b
  have hfr1 := Vl.run_from b1
  have hfr2 := Vl.run_from b2
  have hadd : IntKind.u64.wrap ((b : Int) + 1) = (b1 : Int) := by rw [IntKind.wrap_u64]; omega
  have hsub : IntKind.u64.wrap ((b : Int) - 1) = (b2 : Int) := by rw [IntKind.wrap_u64]; omega
  have CB1 := hid (cBelow Zu Zd false false false p2 p1 (decide_eq_false k1))
  have CB2 := hid (cBelow Zw Zd false false false p3 p1 (decide_eq_false k2))
  obtain ⟨t1, ht1⟩ : ∃ t, decide (Zd < Zu) = t := ⟨_, rfl⟩
  obtain ⟨t2, ht2⟩ : ∃ t, decide (Zd < Zw) = t := ⟨_, rfl⟩
  have CB3 := hid (cBelow Zd Zu false false t1 p1 p2 ht1)
  have CB4 := hid (cBelow Zd Zw false false t2 p1 p3 ht2)
  have HT : Hid ((t1 = true ∧ t2 = true) ∨ (t1 = false ∧ (Int.tmod (b : Int) 2 == 0) = true) ∨ (t1 = true ∧ t2 = false ∧ (Int.tmod (b : Int) 2 == 0) = true)) := by
    rcases k3 with ⟨k3, k4⟩ | k3
    · exact .inl ⟨by rw [← ht1]; exact decide_eq_true k3, by rw [← ht2]; exact decide_eq_true k4⟩
    · have he0 : b % 2 = 0 := by omega
      have he : (Int.tmod (b : Int) 2 == 0) = true := by
        show (((b % 2 : Nat) : Int) == 0) = true
        rw [he0]; rfl
      cases t1
      · exact .inr (.inl ⟨rfl, he⟩)
      · cases t2
        · exact .inr (.inr ⟨rfl, rfl, he⟩)
        · exact .inl ⟨rfl, rfl⟩
  have hHL := halves_zero ha h0
  have HHL : Hid ((hi a == 0) = false ∨ ((hi a == 0) = true ∧ (lo a == 0) = false)) := by
    by_cases h : hi a = 0
    · exact .inr ⟨by simpa using h, by simpa using (fun k => hHL ⟨h, k⟩ : ¬ lo a = 0)⟩
    · exact .inl (by simpa using h)
  have HW := hid hw1
  clear hE h0 hsa x1 x2 v1 v2 v3 d1 d2 d3 z1 z2 z3 k1 k2 k3 p1 p2 p3 hb hb1 hb2 e1 e2 e3 e4 e5 e6 e7 ho1 ho2 ht1 ht2 hHL hm ha hn1 hN1 hN2
  generalize hi a = H at *
  generalize lo a = L at *
  generalize (N : Int) = ni at *
  generalize (b1 : Int) = b1i at *
  generalize (b2 : Int) = b2i at *
  generalize (b : Int) = bi at *
  go_enter Tryd.func4, Tryd.ntmps4
  go_wp2_with fail
  refine HK.out.mono ?_
  rintro e w3 ⟨rfl, b3⟩
  replace XB := hid (XB.out.later b3)
  replace B := hid (below_up B.out b3)
  have c0 := XB.out.hi
  have c1 := XB.out.lo
  clear b3 HK hw1 HW
  go_wp2_with fail
  refine (CA.out _).mono ?_
  rintro e w4 ⟨rfl, b3⟩
  replace XB := hid (XB.out.later b3)
  replace B := hid (below_up B.out b3)
  clear c0 c1
  have c0 := XB.out.hi
  have c1 := XB.out.lo
  clear b3 CA
  rcases HHL.out with hz0 | ⟨hz0, hz1⟩
  all_goals
    clear HHL
    go_wp2_with fail
    refine (CAb.out _).mono ?_
    rintro e wab ⟨rfl, hwab⟩
    subst wab
    clear CAb hs0 h00 hq0 hl0 hHi
    go_wp2_with fail
    refine (CF1.out _).mono ?_
    rintro e w5 ⟨gd, rfl, N5, b5⟩
    obtain ⟨w6, hw6⟩ : ∃ w6, w5.alloc (.cells #[.slice none 0 0, .bool false] 38) = w6 := ⟨_, rfl⟩
    have b6 : Below w5.heap.size w5 w6 := by rw [← hw6]; exact below_new _ _
    have Z6 : Bn w6 w5.heap.size (.slice none 0 0) false := by rw [← hw6]; exact Bn.new _ _ _
    have b56 := below_up b5 b6
    have hlt5 : w.heap.size < w5.heap.size := Nat.lt_of_lt_of_le XB.out.lt b5.size
    have z0 := Z6.dig
    have z1 := Z6.sgn
    have f0 := Z6.frz 0
    have f1 := Z6.frz 1
    have XB7 := hid ((XB.out.later b56).offP (b := w5.heap.size) (by omega) (.slice (some ⟨gd, 0, none⟩) 24 24) (.bool false))
    have XD := hid (Z6.pt (.slice (some ⟨gd, 0, none⟩) 24 24) false)
    have ND := hid ((N5.later b6).off Z6 (.slice (some ⟨gd, 0, none⟩) 24 24) (.bool false))
    have B7 := hid (below_pt (below_up B.out b56) (Nat.le_of_lt hlt5) (.slice (some ⟨gd, 0, none⟩) 24 24) (.bool false))
    unfold pt at XB7 XD ND B7
    clear N5 b5 b6 Z6 b56 hlt5 XB B CF1 c0 c1 ho1' ho2' hbits
    go_upto_region 15 with fail
    generalize World.setCell _ _ _ = wA at *
    generalize w5.heap.size = bD at *
    clear z0 z1 f0 f1 hw6
    have XE7 := hid XD.out
    have NE7 := hid ND.out
    clear XD ND
    refine wp_region_noPanic ?_
    refine wp_region_held_drew (S := fun W => Below wA.heap.size wA W) (by kernel_rfl) ((Below.refl _ _).drew) (fun hHeld0 => ?_)
    refine wpAnyH_take (i := 0) (oi := { dst := some 65, op := Op.move (Operand.tmp 8), type := 22, pos := "outright.go:153", after := #[], guard := none }) (v := ?_) rfl (by kernel_rfl) (by kernel_rfl) (by kernel_rfl) (fun _ _ _ h => h) (Or.inl ⟨by rfl, ?_⟩) (by assumption) ?_
    rotate_left
    · intro W hSw
      try dsimp only at hSw
      go_simp
      try with_reducible rfl
    try simp only [Act.put, List.setIfInBounds_toArray, List.set_cons_zero, List.set_cons_succ]
    refine wpAnyH_take (i := 1) (oi := { dst := some 66, op := Op.binOp BinOp.add 22 (Operand.tmp 65) (Operand.const (Value.int IntKind.u64 1)) 22, type := 22, pos := "outright.go:153", after := #[{ on := 0, ground := Ground.data }], guard := none }) (v := ?_) rfl (by kernel_rfl) (by kernel_rfl) (by kernel_rfl) (fun _ _ _ h => h) (Or.inl ⟨by rfl, ?_⟩) (by assumption) ?_
    rotate_left
    · intro W hSw
      try dsimp only at hSw
      go_simp
      try with_reducible rfl
    try simp only [Act.put, List.setIfInBounds_toArray, List.set_cons_zero, List.set_cons_succ]
    refine wpAnyH_take (i := 3) (oi := { dst := some 68, op := Op.load 24 (Operand.tmp 2), type := 24, pos := "outright.go:153", after := #[], guard := none }) (v := ?_) rfl (by kernel_rfl) (by kernel_rfl) (by kernel_rfl) (fun _ _ _ h => h) (Or.inl ⟨by rfl, ?_⟩) (by assumption) ?_
    rotate_left
    · intro W hSw
      try dsimp only at hSw
      have q0 := (XB7.out.later hSw).hi; have q1 := (XB7.out.later hSw).lo
      go_simp
      try with_reducible rfl
    try simp only [Act.put, List.setIfInBounds_toArray, List.set_cons_zero, List.set_cons_succ]
    refine wpAnyH_take (i := 4) (oi := { dst := some 69, op := Op.move (Operand.tmp 1), type := 3, pos := "outright.go:153", after := #[], guard := none }) (v := ?_) rfl (by kernel_rfl) (by kernel_rfl) (by kernel_rfl) (fun _ _ _ h => h) (Or.inl ⟨by rfl, ?_⟩) (by assumption) ?_
    rotate_left
    · intro W hSw
      try dsimp only at hSw
      go_simp
      try with_reducible rfl
    try simp only [Act.put, List.setIfInBounds_toArray, List.set_cons_zero, List.set_cons_succ]
    refine wpAnyH_ready (rs := [2, 6]) (by kernel_rfl) (by simp) ?_
    refine AllReadyH.cons (o := { dst := some 67, op := Op.call { callee := Callee.value (Operand.func 14), args := #[Operand.tmp 66], argTypes := #[22] }, type := 26, pos := "outright.go:153", after := #[{ on := 1, ground := Ground.data }], guard := none }) rfl (fun K hK => ?_) (AllReadyH.cons (o := { dst := some 10, op := Op.alloc 38, type := 0, pos := "outright.go:153", after := #[], guard := none }) rfl (fun K hK => ?_) AllReadyH.nil)
    · rw [if_pos (by rfl)]
      go_simp
      have bn := True.intro
      refine hK.out _ _ hHeld0 (fun hHeld1 => ?_)
      clear hK K hHeld0 bn
      try simp only [Act.put, List.setIfInBounds_toArray, List.set_cons_zero, List.set_cons_succ]
      refine wpAnyH_ready (rs := [5, 6]) (by kernel_rfl) (by simp) ?_
      refine AllReadyH.cons (o := { dst := some 70, op := Op.call { callee := Callee.value (Operand.func 13), args := #[Operand.tmp 67, Operand.tmp 68, Operand.tmp 69], argTypes := #[26, 24, 3] }, type := 38, pos := "outright.go:153", after := #[{ on := 2, ground := Ground.data }, { on := 3, ground := Ground.data }, { on := 4, ground := Ground.data }, { on := 2, ground := Ground.chain }], guard := none }) rfl (fun K hK => ?_) (AllReadyH.cons (o := { dst := some 10, op := Op.alloc 38, type := 0, pos := "outright.go:153", after := #[], guard := none }) rfl (fun K hK => ?_) AllReadyH.nil)
      · rw [if_pos (by rfl)]
        go_simp
        refine (CF2.out _).mono ?_
        rintro e v2 ⟨gu, rfl, NM, bn⟩
        have HNP := hid NM
        clear NM
        refine hK.out _ _ (below_up hHeld1 bn) (fun hHeld2 => ?_)
        clear hK K hHeld1 bn
        try simp only [Act.put, List.setIfInBounds_toArray, List.set_cons_zero, List.set_cons_succ]
        refine wpAnyH_ready (rs := [6]) (by kernel_rfl) (by simp) ?_
        refine AllReadyH.cons (o := { dst := some 10, op := Op.alloc 38, type := 0, pos := "outright.go:153", after := #[], guard := none }) rfl (fun K hK => ?_) AllReadyH.nil
        rw [if_pos (by rfl)]
        go_simp
        generalize hwn : World.alloc _ (.cells #[.slice none 0 0, .bool false] 38) = v3
        have bn : Below (v2).heap.size (v2) v3 := by rw [← hwn]; exact below_new _ _
        have HD : Hid (Bn v3 (v2).heap.size (.slice none 0 0) false) := by rw [← hwn]; exact Bn.new _ _ _
        have HG : Hid (wA.heap.size ≤ (v2).heap.size) := hHeld2.size
        refine hK.out _ _ (below_up hHeld2 bn) (fun hHeld3 => ?_)
        clear hK K hwn hHeld2
        replace HNP := hid (HNP.out.later bn)
        clear bn
        try simp only [Act.put, List.setIfInBounds_toArray, List.set_cons_zero, List.set_cons_succ]
        generalize v2.heap.size = b83 at *
        refine wpAnyH_ready (rs := [7]) (by kernel_rfl) (by simp) ?_
        refine AllReadyH.cons (o := { dst := none, op := Op.store 38 (Operand.tmp 10) (Operand.tmp 70), type := 0, pos := "outright.go:153", after := #[{ on := 6, ground := Ground.data }, { on := 5, ground := Ground.data }, { on := 5, ground := Ground.chain }, { on := 0, ground := Ground.phase }, { on := 1, ground := Ground.phase }, { on := 2, ground := Ground.phase }, { on := 3, ground := Ground.phase }, { on := 4, ground := Ground.phase }, { on := 5, ground := Ground.phase }, { on := 6, ground := Ground.phase }], guard := none }) rfl (fun K hK => ?_) AllReadyH.nil
        rw [if_pos (by rfl)]
        have s0 := HD.out.dig
        have s1 := HD.out.sgn
        have s2 := HD.out.frz 0
        have s3 := HD.out.frz 1
        have XD := hid (HD.out.pt (.slice (some ⟨gu, 0, none⟩) 24 24) false)
        have ND := hid (HNP.out.off HD.out (.slice (some ⟨gu, 0, none⟩) 24 24) (.bool false))
        have BD := hid (below_pt hHeld3 HG.out (.slice (some ⟨gu, 0, none⟩) 24 24) (.bool false))
        unfold pt at XD ND BD
        go_simp
        refine hK.out _ _ BD.out (fun hHeld4 => ?_)
        clear hK K hHeld3 s0 s1 s2 s3 HD HNP
        try simp only [Act.put, List.setIfInBounds_toArray, List.set_cons_zero, List.set_cons_succ]
        refine wpAnyH_done (by kernel_rfl) ?_ _
        refine NoPanic.normal ?_
        generalize World.setCell _ _ _ = wU at *
        clear hHeld4
        have XU9 := hid XD.out
        have XE9 := hid (XE7.out.later BD.out)
        have NU9 := hid ND.out
        have NE9 := hid (NE7.out.later BD.out)
        have XB9 := hid (XB7.out.later BD.out)
        have B9 := hid (below_up B7.out BD.out)
        clear XD ND BD XE7 NE7 XB7 B7 HG CF2 hfr1
        go_upto_region 16 with fail
        refine wp_region_noPanic ?_
        refine wp_region_held_drew (S := fun W => Below wU.heap.size wU W) (by kernel_rfl) ((Below.refl _ _).drew) (fun hHeld0 => ?_)
        refine wpAnyH_take (i := 0) (oi := { dst := some 71, op := Op.move (Operand.tmp 8), type := 22, pos := "outright.go:154", after := #[], guard := none }) (v := ?_) rfl (by kernel_rfl) (by kernel_rfl) (by kernel_rfl) (fun _ _ _ h => h) (Or.inl ⟨by rfl, ?_⟩) (by assumption) ?_
        rotate_left
        · intro W hSw
          try dsimp only at hSw
          go_simp
          try with_reducible rfl
        try simp only [Act.put, List.setIfInBounds_toArray, List.set_cons_zero, List.set_cons_succ]
        refine wpAnyH_take (i := 1) (oi := { dst := some 72, op := Op.binOp BinOp.sub 22 (Operand.tmp 71) (Operand.const (Value.int IntKind.u64 1)) 22, type := 22, pos := "outright.go:154", after := #[{ on := 0, ground := Ground.data }], guard := none }) (v := ?_) rfl (by kernel_rfl) (by kernel_rfl) (by kernel_rfl) (fun _ _ _ h => h) (Or.inl ⟨by rfl, ?_⟩) (by assumption) ?_
        rotate_left
        · intro W hSw
          try dsimp only at hSw
          go_simp
          try with_reducible rfl
        try simp only [Act.put, List.setIfInBounds_toArray, List.set_cons_zero, List.set_cons_succ]
        refine wpAnyH_take (i := 3) (oi := { dst := some 74, op := Op.load 24 (Operand.tmp 2), type := 24, pos := "outright.go:154", after := #[], guard := none }) (v := ?_) rfl (by kernel_rfl) (by kernel_rfl) (by kernel_rfl) (fun _ _ _ h => h) (Or.inl ⟨by rfl, ?_⟩) (by assumption) ?_
        rotate_left
        · intro W hSw
          try dsimp only at hSw
          have q0 := (XB9.out.later hSw).hi; have q1 := (XB9.out.later hSw).lo
          go_simp
          try with_reducible rfl
        try simp only [Act.put, List.setIfInBounds_toArray, List.set_cons_zero, List.set_cons_succ]
        refine wpAnyH_take (i := 4) (oi := { dst := some 75, op := Op.move (Operand.tmp 1), type := 3, pos := "outright.go:154", after := #[], guard := none }) (v := ?_) rfl (by kernel_rfl) (by kernel_rfl) (by kernel_rfl) (fun _ _ _ h => h) (Or.inl ⟨by rfl, ?_⟩) (by assumption) ?_
        rotate_left
        · intro W hSw
          try dsimp only at hSw
          go_simp
          try with_reducible rfl
        try simp only [Act.put, List.setIfInBounds_toArray, List.set_cons_zero, List.set_cons_succ]
        refine wpAnyH_ready (rs := [2, 6]) (by kernel_rfl) (by simp) ?_
        refine AllReadyH.cons (o := { dst := some 73, op := Op.call { callee := Callee.value (Operand.func 14), args := #[Operand.tmp 72], argTypes := #[22] }, type := 26, pos := "outright.go:154", after := #[{ on := 1, ground := Ground.data }], guard := none }) rfl (fun K hK => ?_) (AllReadyH.cons (o := { dst := some 11, op := Op.alloc 38, type := 0, pos := "outright.go:154", after := #[], guard := none }) rfl (fun K hK => ?_) AllReadyH.nil)
        · rw [if_pos (by rfl)]
          go_simp
          have bn := True.intro
          refine hK.out _ _ hHeld0 (fun hHeld1 => ?_)
          clear hK K hHeld0 bn
          try simp only [Act.put, List.setIfInBounds_toArray, List.set_cons_zero, List.set_cons_succ]
          refine wpAnyH_ready (rs := [5, 6]) (by kernel_rfl) (by simp) ?_
          refine AllReadyH.cons (o := { dst := some 76, op := Op.call { callee := Callee.value (Operand.func 13), args := #[Operand.tmp 73, Operand.tmp 74, Operand.tmp 75], argTypes := #[26, 24, 3] }, type := 38, pos := "outright.go:154", after := #[{ on := 2, ground := Ground.data }, { on := 3, ground := Ground.data }, { on := 4, ground := Ground.data }, { on := 2, ground := Ground.chain }], guard := none }) rfl (fun K hK => ?_) (AllReadyH.cons (o := { dst := some 11, op := Op.alloc 38, type := 0, pos := "outright.go:154", after := #[], guard := none }) rfl (fun K hK => ?_) AllReadyH.nil)
          · rw [if_pos (by rfl)]
            go_simp
            refine (CF3.out _).mono ?_
            rintro e v302 ⟨gv, rfl, NM, bn⟩
            have HNP := hid NM
            clear NM
            refine hK.out _ _ (below_up hHeld1 bn) (fun hHeld2 => ?_)
            clear hK K hHeld1 bn
            try simp only [Act.put, List.setIfInBounds_toArray, List.set_cons_zero, List.set_cons_succ]
            refine wpAnyH_ready (rs := [6]) (by kernel_rfl) (by simp) ?_
            refine AllReadyH.cons (o := { dst := some 11, op := Op.alloc 38, type := 0, pos := "outright.go:154", after := #[], guard := none }) rfl (fun K hK => ?_) AllReadyH.nil
            rw [if_pos (by rfl)]
            go_simp
            generalize hwn : World.alloc _ (.cells #[.slice none 0 0, .bool false] 38) = v303
            have bn : Below (v302).heap.size (v302) v303 := by rw [← hwn]; exact below_new _ _
            have HD : Hid (Bn v303 (v302).heap.size (.slice none 0 0) false) := by rw [← hwn]; exact Bn.new _ _ _
            have HG : Hid (wU.heap.size ≤ (v302).heap.size) := hHeld2.size
            refine hK.out _ _ (below_up hHeld2 bn) (fun hHeld3 => ?_)
            clear hK K hwn hHeld2
            replace HNP := hid (HNP.out.later bn)
            clear bn
            try simp only [Act.put, List.setIfInBounds_toArray, List.set_cons_zero, List.set_cons_succ]
            generalize v302.heap.size = b8303 at *
            refine wpAnyH_ready (rs := [7]) (by kernel_rfl) (by simp) ?_
            refine AllReadyH.cons (o := { dst := none, op := Op.store 38 (Operand.tmp 11) (Operand.tmp 76), type := 0, pos := "outright.go:154", after := #[{ on := 6, ground := Ground.data }, { on := 5, ground := Ground.data }, { on := 5, ground := Ground.chain }, { on := 0, ground := Ground.phase }, { on := 1, ground := Ground.phase }, { on := 2, ground := Ground.phase }, { on := 3, ground := Ground.phase }, { on := 4, ground := Ground.phase }, { on := 5, ground := Ground.phase }, { on := 6, ground := Ground.phase }], guard := none }) rfl (fun K hK => ?_) AllReadyH.nil
            rw [if_pos (by rfl)]
            have s0 := HD.out.dig
            have s1 := HD.out.sgn
            have s2 := HD.out.frz 0
            have s3 := HD.out.frz 1
            have XD := hid (HD.out.pt (.slice (some ⟨gv, 0, none⟩) 24 24) false)
            have ND := hid (HNP.out.off HD.out (.slice (some ⟨gv, 0, none⟩) 24 24) (.bool false))
            have BD := hid (below_pt hHeld3 HG.out (.slice (some ⟨gv, 0, none⟩) 24 24) (.bool false))
            unfold pt at XD ND BD
            go_simp
            refine hK.out _ _ BD.out (fun hHeld4 => ?_)
            clear hK K hHeld3 s0 s1 s2 s3 HD HNP
            try simp only [Act.put, List.setIfInBounds_toArray, List.set_cons_zero, List.set_cons_succ]
            refine wpAnyH_done (by kernel_rfl) ?_ _
            refine NoPanic.normal ?_
            generalize World.setCell _ _ _ = wV at *
            clear hHeld4
            have XV := hid XD.out
            have XU := hid (XU9.out.later BD.out)
            have XE := hid (XE9.out.later BD.out)
            have NV := hid ND.out
            have NU := hid (NU9.out.later BD.out)
            have NE := hid (NE9.out.later BD.out)
            have BW := hid (below_up B9.out BD.out)
            clear XD ND BD XU9 XE9 NU9 NE9 B9 XB9 HG CF3 hfr2
            have d0 := XE.out.dig
            have d1 := XE.out.sgn
            have u0 := XU.out.dig
            have u1 := XU.out.sgn
            have v0 := XV.out.dig
            have v1 := XV.out.sgn
            go_wp2_with fail
            refine (CB1.out _ _ _ NU.out NE.out).mono ?_
            rintro e y1 ⟨rfl, b3⟩
            replace XE := hid (XE.out.later b3)
            replace XU := hid (XU.out.later b3)
            replace XV := hid (XV.out.later b3)
            replace NE := hid (NE.out.later b3)
            replace NU := hid (NU.out.later b3)
            replace NV := hid (NV.out.later b3)
            replace BW := hid (below_up BW.out b3)
            clear b3 d0 d1 u0 u1 v0 v1
            have d0 := XE.out.dig
            have d1 := XE.out.sgn
            have u0 := XU.out.dig
            have u1 := XU.out.sgn
            have v0 := XV.out.dig
            have v1 := XV.out.sgn
            go_wp2_with fail
            refine (CB2.out _ _ _ NV.out NE.out).mono ?_
            rintro e y2 ⟨rfl, b3⟩
            replace XE := hid (XE.out.later b3)
            replace XU := hid (XU.out.later b3)
            replace XV := hid (XV.out.later b3)
            replace NE := hid (NE.out.later b3)
            replace NU := hid (NU.out.later b3)
            replace NV := hid (NV.out.later b3)
            replace BW := hid (below_up BW.out b3)
            clear b3 d0 d1 u0 u1 v0 v1
            have d0 := XE.out.dig
            have d1 := XE.out.sgn
            have u0 := XU.out.dig
            have u1 := XU.out.sgn
            have v0 := XV.out.dig
            have v1 := XV.out.sgn
            go_wp2_with fail
            refine (CB3.out _ _ _ NE.out NU.out).mono ?_
            rintro e y3 ⟨rfl, b3⟩
            replace XE := hid (XE.out.later b3)
            replace XU := hid (XU.out.later b3)
            replace XV := hid (XV.out.later b3)
            replace NE := hid (NE.out.later b3)
            replace NU := hid (NU.out.later b3)
            replace NV := hid (NV.out.later b3)
            replace BW := hid (below_up BW.out b3)
            clear b3 d0 d1 u0 u1 v0 v1
            have d0 := XE.out.dig
            have d1 := XE.out.sgn
            have u0 := XU.out.dig
            have u1 := XU.out.sgn
            have v0 := XV.out.dig
            have v1 := XV.out.sgn
            rcases HT.out with ⟨rfl, rfl⟩ | ⟨rfl, he⟩ | ⟨rfl, rfl, he⟩
            · clear HT
              go_wp2_with fail
              refine (CB4.out _ _ _ NE.out NV.out).mono ?_
              rintro e y4 ⟨rfl, b3⟩
              replace XE := hid (XE.out.later b3)
              replace XU := hid (XU.out.later b3)
              replace XV := hid (XV.out.later b3)
              replace NE := hid (NE.out.later b3)
              replace NU := hid (NU.out.later b3)
              replace NV := hid (NV.out.later b3)
              replace BW := hid (below_up BW.out b3)
              clear b3 d0 d1 u0 u1 v0 v1
              go_wp2_with fail
              go_ret
              exact ⟨rfl, BW.out⟩
            · clear HT
              go_wp2_with fail
              go_ret
              exact ⟨rfl, BW.out⟩
            · clear HT
              go_wp2_with fail
              refine (CB4.out _ _ _ NE.out NV.out).mono ?_
              rintro e y4 ⟨rfl, b3⟩
              replace XE := hid (XE.out.later b3)
              replace XU := hid (XU.out.later b3)
              replace XV := hid (XV.out.later b3)
              replace NE := hid (NE.out.later b3)
              replace NU := hid (NU.out.later b3)
              replace NV := hid (NV.out.later b3)
              replace BW := hid (below_up BW.out b3)
              clear b3 d0 d1 u0 u1 v0 v1
              go_wp2_with fail
              go_ret
              exact ⟨rfl, BW.out⟩
          · rw [if_pos (by rfl)]
            go_simp
            generalize hwn : World.drew (World.alloc _ (.cells #[.slice none 0 0, .bool false] 38)) = v304
            have bn : Below wU.heap.size wU v304 := by rw [← hwn]; exact (below_new _ _).drew
            have HD : Hid (Bn v304 wU.heap.size (.slice none 0 0) false) := by rw [← hwn]; exact Bn.new wU _ _
            have HG : Hid (wU.heap.size ≤ wU.heap.size) := Nat.le_refl _
            refine hK.out _ _ bn (fun hHeld2 => ?_)
            clear hK K hwn hHeld1
            clear bn
            try simp only [Act.put, List.setIfInBounds_toArray, List.set_cons_zero, List.set_cons_succ]
            refine wpAnyH_ready (rs := [5]) (by kernel_rfl) (by simp) ?_
            refine AllReadyH.cons (o := { dst := some 76, op := Op.call { callee := Callee.value (Operand.func 13), args := #[Operand.tmp 73, Operand.tmp 74, Operand.tmp 75], argTypes := #[26, 24, 3] }, type := 38, pos := "outright.go:154", after := #[{ on := 2, ground := Ground.data }, { on := 3, ground := Ground.data }, { on := 4, ground := Ground.data }, { on := 2, ground := Ground.chain }], guard := none }) rfl (fun K hK => ?_) AllReadyH.nil
            rw [if_pos (by rfl)]
            go_simp
            refine (CF3.out _).mono ?_
            rintro e v305 ⟨gv, rfl, NM, bn⟩
            have HNP := hid NM
            clear NM
            replace HD := hid (HD.out.later bn)
            refine hK.out _ _ (below_up hHeld2 bn) (fun hHeld3 => ?_)
            clear hK K hHeld2 bn
            try simp only [Act.put, List.setIfInBounds_toArray, List.set_cons_zero, List.set_cons_succ]
            refine wpAnyH_ready (rs := [7]) (by kernel_rfl) (by simp) ?_
            refine AllReadyH.cons (o := { dst := none, op := Op.store 38 (Operand.tmp 11) (Operand.tmp 76), type := 0, pos := "outright.go:154", after := #[{ on := 6, ground := Ground.data }, { on := 5, ground := Ground.data }, { on := 5, ground := Ground.chain }, { on := 0, ground := Ground.phase }, { on := 1, ground := Ground.phase }, { on := 2, ground := Ground.phase }, { on := 3, ground := Ground.phase }, { on := 4, ground := Ground.phase }, { on := 5, ground := Ground.phase }, { on := 6, ground := Ground.phase }], guard := none }) rfl (fun K hK => ?_) AllReadyH.nil
            rw [if_pos (by rfl)]
            have s0 := HD.out.dig
            have s1 := HD.out.sgn
            have s2 := HD.out.frz 0
            have s3 := HD.out.frz 1
            have XD := hid (HD.out.pt (.slice (some ⟨gv, 0, none⟩) 24 24) false)
            have ND := hid (HNP.out.off HD.out (.slice (some ⟨gv, 0, none⟩) 24 24) (.bool false))
            have BD := hid (below_pt hHeld3 HG.out (.slice (some ⟨gv, 0, none⟩) 24 24) (.bool false))
            unfold pt at XD ND BD
            go_simp
            refine hK.out _ _ BD.out (fun hHeld4 => ?_)
            clear hK K hHeld3 s0 s1 s2 s3 HD HNP
            try simp only [Act.put, List.setIfInBounds_toArray, List.set_cons_zero, List.set_cons_succ]
            refine wpAnyH_done (by kernel_rfl) ?_ _
            refine NoPanic.normal ?_
            generalize World.setCell _ _ _ = wV at *
            clear hHeld4
            have XV := hid XD.out
            have XU := hid (XU9.out.later BD.out)
            have XE := hid (XE9.out.later BD.out)
            have NV := hid ND.out
            have NU := hid (NU9.out.later BD.out)
            have NE := hid (NE9.out.later BD.out)
            have BW := hid (below_up B9.out BD.out)
            clear XD ND BD XU9 XE9 NU9 NE9 B9 XB9 HG CF3 hfr2
            have d0 := XE.out.dig
            have d1 := XE.out.sgn
            have u0 := XU.out.dig
            have u1 := XU.out.sgn
            have v0 := XV.out.dig
            have v1 := XV.out.sgn
            go_wp2_with fail
            refine (CB1.out _ _ _ NU.out NE.out).mono ?_
            rintro e y1 ⟨rfl, b3⟩
            replace XE := hid (XE.out.later b3)
            replace XU := hid (XU.out.later b3)
            replace XV := hid (XV.out.later b3)
            replace NE := hid (NE.out.later b3)
            replace NU := hid (NU.out.later b3)
            replace NV := hid (NV.out.later b3)
            replace BW := hid (below_up BW.out b3)
            clear b3 d0 d1 u0 u1 v0 v1
            have d0 := XE.out.dig
            have d1 := XE.out.sgn
            have u0 := XU.out.dig
            have u1 := XU.out.sgn
            have v0 := XV.out.dig
            have v1 := XV.out.sgn
            go_wp2_with fail
            refine (CB2.out _ _ _ NV.out NE.out).mono ?_
            rintro e y2 ⟨rfl, b3⟩
            replace XE := hid (XE.out.later b3)
            replace XU := hid (XU.out.later b3)
            replace XV := hid (XV.out.later b3)
            replace NE := hid (NE.out.later b3)
            replace NU := hid (NU.out.later b3)
            replace NV := hid (NV.out.later b3)
            replace BW := hid (below_up BW.out b3)
            clear b3 d0 d1 u0 u1 v0 v1
            have d0 := XE.out.dig
            have d1 := XE.out.sgn
            have u0 := XU.out.dig
            have u1 := XU.out.sgn
            have v0 := XV.out.dig
            have v1 := XV.out.sgn
            go_wp2_with fail
            refine (CB3.out _ _ _ NE.out NU.out).mono ?_
            rintro e y3 ⟨rfl, b3⟩
            replace XE := hid (XE.out.later b3)
            replace XU := hid (XU.out.later b3)
            replace XV := hid (XV.out.later b3)
            replace NE := hid (NE.out.later b3)
            replace NU := hid (NU.out.later b3)
            replace NV := hid (NV.out.later b3)
            replace BW := hid (below_up BW.out b3)
            clear b3 d0 d1 u0 u1 v0 v1
            have d0 := XE.out.dig
            have d1 := XE.out.sgn
            have u0 := XU.out.dig
            have u1 := XU.out.sgn
            have v0 := XV.out.dig
            have v1 := XV.out.sgn
            rcases HT.out with ⟨rfl, rfl⟩ | ⟨rfl, he⟩ | ⟨rfl, rfl, he⟩
            · clear HT
              go_wp2_with fail
              refine (CB4.out _ _ _ NE.out NV.out).mono ?_
              rintro e y4 ⟨rfl, b3⟩
              replace XE := hid (XE.out.later b3)
              replace XU := hid (XU.out.later b3)
              replace XV := hid (XV.out.later b3)
              replace NE := hid (NE.out.later b3)
              replace NU := hid (NU.out.later b3)
              replace NV := hid (NV.out.later b3)
              replace BW := hid (below_up BW.out b3)
              clear b3 d0 d1 u0 u1 v0 v1
              go_wp2_with fail
              go_ret
              exact ⟨rfl, BW.out⟩
            · clear HT
              go_wp2_with fail
              go_ret
              exact ⟨rfl, BW.out⟩
            · clear HT
              go_wp2_with fail
              refine (CB4.out _ _ _ NE.out NV.out).mono ?_
              rintro e y4 ⟨rfl, b3⟩
              replace XE := hid (XE.out.later b3)
              replace XU := hid (XU.out.later b3)
              replace XV := hid (XV.out.later b3)
              replace NE := hid (NE.out.later b3)
              replace NU := hid (NU.out.later b3)
              replace NV := hid (NV.out.later b3)
              replace BW := hid (below_up BW.out b3)
              clear b3 d0 d1 u0 u1 v0 v1
              go_wp2_with fail
              go_ret
              exact ⟨rfl, BW.out⟩
        · rw [if_pos (by rfl)]
          go_simp
          generalize hwn : World.drew (World.alloc _ (.cells #[.slice none 0 0, .bool false] 38)) = v306
          have bn : Below wU.heap.size wU v306 := by rw [← hwn]; exact (below_new _ _).drew
          have HD : Hid (Bn v306 wU.heap.size (.slice none 0 0) false) := by rw [← hwn]; exact Bn.new wU _ _
          have HG : Hid (wU.heap.size ≤ wU.heap.size) := Nat.le_refl _
          refine hK.out _ _ bn (fun hHeld1 => ?_)
          clear hK K hwn hHeld0
          clear bn
          try simp only [Act.put, List.setIfInBounds_toArray, List.set_cons_zero, List.set_cons_succ]
          refine wpAnyH_ready (rs := [2]) (by kernel_rfl) (by simp) ?_
          refine AllReadyH.cons (o := { dst := some 73, op := Op.call { callee := Callee.value (Operand.func 14), args := #[Operand.tmp 72], argTypes := #[22] }, type := 26, pos := "outright.go:154", after := #[{ on := 1, ground := Ground.data }], guard := none }) rfl (fun K hK => ?_) AllReadyH.nil
          rw [if_pos (by rfl)]
          go_simp
          have bn := True.intro
          refine hK.out _ _ hHeld1 (fun hHeld2 => ?_)
          clear hK K hHeld1 bn
          try simp only [Act.put, List.setIfInBounds_toArray, List.set_cons_zero, List.set_cons_succ]
          refine wpAnyH_ready (rs := [5]) (by kernel_rfl) (by simp) ?_
          refine AllReadyH.cons (o := { dst := some 76, op := Op.call { callee := Callee.value (Operand.func 13), args := #[Operand.tmp 73, Operand.tmp 74, Operand.tmp 75], argTypes := #[26, 24, 3] }, type := 38, pos := "outright.go:154", after := #[{ on := 2, ground := Ground.data }, { on := 3, ground := Ground.data }, { on := 4, ground := Ground.data }, { on := 2, ground := Ground.chain }], guard := none }) rfl (fun K hK => ?_) AllReadyH.nil
          rw [if_pos (by rfl)]
          go_simp
          refine (CF3.out _).mono ?_
          rintro e v308 ⟨gv, rfl, NM, bn⟩
          have HNP := hid NM
          clear NM
          replace HD := hid (HD.out.later bn)
          refine hK.out _ _ (below_up hHeld2 bn) (fun hHeld3 => ?_)
          clear hK K hHeld2 bn
          try simp only [Act.put, List.setIfInBounds_toArray, List.set_cons_zero, List.set_cons_succ]
          refine wpAnyH_ready (rs := [7]) (by kernel_rfl) (by simp) ?_
          refine AllReadyH.cons (o := { dst := none, op := Op.store 38 (Operand.tmp 11) (Operand.tmp 76), type := 0, pos := "outright.go:154", after := #[{ on := 6, ground := Ground.data }, { on := 5, ground := Ground.data }, { on := 5, ground := Ground.chain }, { on := 0, ground := Ground.phase }, { on := 1, ground := Ground.phase }, { on := 2, ground := Ground.phase }, { on := 3, ground := Ground.phase }, { on := 4, ground := Ground.phase }, { on := 5, ground := Ground.phase }, { on := 6, ground := Ground.phase }], guard := none }) rfl (fun K hK => ?_) AllReadyH.nil
          rw [if_pos (by rfl)]
          have s0 := HD.out.dig
          have s1 := HD.out.sgn
          have s2 := HD.out.frz 0
          have s3 := HD.out.frz 1
          have XD := hid (HD.out.pt (.slice (some ⟨gv, 0, none⟩) 24 24) false)
          have ND := hid (HNP.out.off HD.out (.slice (some ⟨gv, 0, none⟩) 24 24) (.bool false))
          have BD := hid (below_pt hHeld3 HG.out (.slice (some ⟨gv, 0, none⟩) 24 24) (.bool false))
          unfold pt at XD ND BD
          go_simp
          refine hK.out _ _ BD.out (fun hHeld4 => ?_)
          clear hK K hHeld3 s0 s1 s2 s3 HD HNP
          try simp only [Act.put, List.setIfInBounds_toArray, List.set_cons_zero, List.set_cons_succ]
          refine wpAnyH_done (by kernel_rfl) ?_ _
          refine NoPanic.normal ?_
          generalize World.setCell _ _ _ = wV at *
          clear hHeld4
          have XV := hid XD.out
          have XU := hid (XU9.out.later BD.out)
          have XE := hid (XE9.out.later BD.out)
          have NV := hid ND.out
          have NU := hid (NU9.out.later BD.out)
          have NE := hid (NE9.out.later BD.out)
          have BW := hid (below_up B9.out BD.out)
          clear XD ND BD XU9 XE9 NU9 NE9 B9 XB9 HG CF3 hfr2
          have d0 := XE.out.dig
          have d1 := XE.out.sgn
          have u0 := XU.out.dig
          have u1 := XU.out.sgn
          have v0 := XV.out.dig
          have v1 := XV.out.sgn
          go_wp2_with fail
          refine (CB1.out _ _ _ NU.out NE.out).mono ?_
          rintro e y1 ⟨rfl, b3⟩
          replace XE := hid (XE.out.later b3)
          replace XU := hid (XU.out.later b3)
          replace XV := hid (XV.out.later b3)
          replace NE := hid (NE.out.later b3)
          replace NU := hid (NU.out.later b3)
          replace NV := hid (NV.out.later b3)
          replace BW := hid (below_up BW.out b3)
          clear b3 d0 d1 u0 u1 v0 v1
          have d0 := XE.out.dig
          have d1 := XE.out.sgn
          have u0 := XU.out.dig
          have u1 := XU.out.sgn
          have v0 := XV.out.dig
          have v1 := XV.out.sgn
          go_wp2_with fail
          refine (CB2.out _ _ _ NV.out NE.out).mono ?_
          rintro e y2 ⟨rfl, b3⟩
          replace XE := hid (XE.out.later b3)
          replace XU := hid (XU.out.later b3)
          replace XV := hid (XV.out.later b3)
          replace NE := hid (NE.out.later b3)
          replace NU := hid (NU.out.later b3)
          replace NV := hid (NV.out.later b3)
          replace BW := hid (below_up BW.out b3)
          clear b3 d0 d1 u0 u1 v0 v1
          have d0 := XE.out.dig
          have d1 := XE.out.sgn
          have u0 := XU.out.dig
          have u1 := XU.out.sgn
          have v0 := XV.out.dig
          have v1 := XV.out.sgn
          go_wp2_with fail
          refine (CB3.out _ _ _ NE.out NU.out).mono ?_
          rintro e y3 ⟨rfl, b3⟩
          replace XE := hid (XE.out.later b3)
          replace XU := hid (XU.out.later b3)
          replace XV := hid (XV.out.later b3)
          replace NE := hid (NE.out.later b3)
          replace NU := hid (NU.out.later b3)
          replace NV := hid (NV.out.later b3)
          replace BW := hid (below_up BW.out b3)
          clear b3 d0 d1 u0 u1 v0 v1
          have d0 := XE.out.dig
          have d1 := XE.out.sgn
          have u0 := XU.out.dig
          have u1 := XU.out.sgn
          have v0 := XV.out.dig
          have v1 := XV.out.sgn
          rcases HT.out with ⟨rfl, rfl⟩ | ⟨rfl, he⟩ | ⟨rfl, rfl, he⟩
          · clear HT
            go_wp2_with fail
            refine (CB4.out _ _ _ NE.out NV.out).mono ?_
            rintro e y4 ⟨rfl, b3⟩
            replace XE := hid (XE.out.later b3)
            replace XU := hid (XU.out.later b3)
            replace XV := hid (XV.out.later b3)
            replace NE := hid (NE.out.later b3)
            replace NU := hid (NU.out.later b3)
            replace NV := hid (NV.out.later b3)
            replace BW := hid (below_up BW.out b3)
            clear b3 d0 d1 u0 u1 v0 v1
            go_wp2_with fail
            go_ret
            exact ⟨rfl, BW.out⟩
          · clear HT
            go_wp2_with fail
            go_ret
            exact ⟨rfl, BW.out⟩
          · clear HT
            go_wp2_with fail
            refine (CB4.out _ _ _ NE.out NV.out).mono ?_
            rintro e y4 ⟨rfl, b3⟩
            replace XE := hid (XE.out.later b3)
            replace XU := hid (XU.out.later b3)
            replace XV := hid (XV.out.later b3)
            replace NE := hid (NE.out.later b3)
            replace NU := hid (NU.out.later b3)
            replace NV := hid (NV.out.later b3)
            replace BW := hid (below_up BW.out b3)
            clear b3 d0 d1 u0 u1 v0 v1
            go_wp2_with fail
            go_ret
            exact ⟨rfl, BW.out⟩
      · rw [if_pos (by rfl)]
        go_simp
        generalize hwn : World.drew (World.alloc _ (.cells #[.slice none 0 0, .bool false] 38)) = v4
        have bn : Below wA.heap.size wA v4 := by rw [← hwn]; exact (below_new _ _).drew
        have HD : Hid (Bn v4 wA.heap.size (.slice none 0 0) false) := by rw [← hwn]; exact Bn.new wA _ _
        have HG : Hid (wA.heap.size ≤ wA.heap.size) := Nat.le_refl _
        refine hK.out _ _ bn (fun hHeld2 => ?_)
        clear hK K hwn hHeld1
        clear bn
        try simp only [Act.put, List.setIfInBounds_toArray, List.set_cons_zero, List.set_cons_succ]
        refine wpAnyH_ready (rs := [5]) (by kernel_rfl) (by simp) ?_
        refine AllReadyH.cons (o := { dst := some 70, op := Op.call { callee := Callee.value (Operand.func 13), args := #[Operand.tmp 67, Operand.tmp 68, Operand.tmp 69], argTypes := #[26, 24, 3] }, type := 38, pos := "outright.go:153", after := #[{ on := 2, ground := Ground.data }, { on := 3, ground := Ground.data }, { on := 4, ground := Ground.data }, { on := 2, ground := Ground.chain }], guard := none }) rfl (fun K hK => ?_) AllReadyH.nil
        rw [if_pos (by rfl)]
        go_simp
        refine (CF2.out _).mono ?_
        rintro e v5 ⟨gu, rfl, NM, bn⟩
        have HNP := hid NM
        clear NM
        replace HD := hid (HD.out.later bn)
        refine hK.out _ _ (below_up hHeld2 bn) (fun hHeld3 => ?_)
        clear hK K hHeld2 bn
        try simp only [Act.put, List.setIfInBounds_toArray, List.set_cons_zero, List.set_cons_succ]
        refine wpAnyH_ready (rs := [7]) (by kernel_rfl) (by simp) ?_
        refine AllReadyH.cons (o := { dst := none, op := Op.store 38 (Operand.tmp 10) (Operand.tmp 70), type := 0, pos := "outright.go:153", after := #[{ on := 6, ground := Ground.data }, { on := 5, ground := Ground.data }, { on := 5, ground := Ground.chain }, { on := 0, ground := Ground.phase }, { on := 1, ground := Ground.phase }, { on := 2, ground := Ground.phase }, { on := 3, ground := Ground.phase }, { on := 4, ground := Ground.phase }, { on := 5, ground := Ground.phase }, { on := 6, ground := Ground.phase }], guard := none }) rfl (fun K hK => ?_) AllReadyH.nil
        rw [if_pos (by rfl)]
        have s0 := HD.out.dig
        have s1 := HD.out.sgn
        have s2 := HD.out.frz 0
        have s3 := HD.out.frz 1
        have XD := hid (HD.out.pt (.slice (some ⟨gu, 0, none⟩) 24 24) false)
        have ND := hid (HNP.out.off HD.out (.slice (some ⟨gu, 0, none⟩) 24 24) (.bool false))
        have BD := hid (below_pt hHeld3 HG.out (.slice (some ⟨gu, 0, none⟩) 24 24) (.bool false))
        unfold pt at XD ND BD
        go_simp
        refine hK.out _ _ BD.out (fun hHeld4 => ?_)
        clear hK K hHeld3 s0 s1 s2 s3 HD HNP
        try simp only [Act.put, List.setIfInBounds_toArray, List.set_cons_zero, List.set_cons_succ]
        refine wpAnyH_done (by kernel_rfl) ?_ _
        refine NoPanic.normal ?_
        generalize World.setCell _ _ _ = wU at *
        clear hHeld4
        have XU9 := hid XD.out
        have XE9 := hid (XE7.out.later BD.out)
        have NU9 := hid ND.out
        have NE9 := hid (NE7.out.later BD.out)
        have XB9 := hid (XB7.out.later BD.out)
        have B9 := hid (below_up B7.out BD.out)
        clear XD ND BD XE7 NE7 XB7 B7 HG CF2 hfr1
        go_upto_region 16 with fail
        refine wp_region_noPanic ?_
        refine wp_region_held_drew (S := fun W => Below wU.heap.size wU W) (by kernel_rfl) ((Below.refl _ _).drew) (fun hHeld0 => ?_)
        refine wpAnyH_take (i := 0) (oi := { dst := some 71, op := Op.move (Operand.tmp 8), type := 22, pos := "outright.go:154", after := #[], guard := none }) (v := ?_) rfl (by kernel_rfl) (by kernel_rfl) (by kernel_rfl) (fun _ _ _ h => h) (Or.inl ⟨by rfl, ?_⟩) (by assumption) ?_
        rotate_left
        · intro W hSw
          try dsimp only at hSw
          go_simp
          try with_reducible rfl
        try simp only [Act.put, List.setIfInBounds_toArray, List.set_cons_zero, List.set_cons_succ]
        refine wpAnyH_take (i := 1) (oi := { dst := some 72, op := Op.binOp BinOp.sub 22 (Operand.tmp 71) (Operand.const (Value.int IntKind.u64 1)) 22, type := 22, pos := "outright.go:154", after := #[{ on := 0, ground := Ground.data }], guard := none }) (v := ?_) rfl (by kernel_rfl) (by kernel_rfl) (by kernel_rfl) (fun _ _ _ h => h) (Or.inl ⟨by rfl, ?_⟩) (by assumption) ?_
        rotate_left
        · intro W hSw
          try dsimp only at hSw
          go_simp
          try with_reducible rfl
        try simp only [Act.put, List.setIfInBounds_toArray, List.set_cons_zero, List.set_cons_succ]
        refine wpAnyH_take (i := 3) (oi := { dst := some 74, op := Op.load 24 (Operand.tmp 2), type := 24, pos := "outright.go:154", after := #[], guard := none }) (v := ?_) rfl (by kernel_rfl) (by kernel_rfl) (by kernel_rfl) (fun _ _ _ h => h) (Or.inl ⟨by rfl, ?_⟩) (by assumption) ?_
        rotate_left
        · intro W hSw
          try dsimp only at hSw
          have q0 := (XB9.out.later hSw).hi; have q1 := (XB9.out.later hSw).lo
          go_simp
          try with_reducible rfl
        try simp only [Act.put, List.setIfInBounds_toArray, List.set_cons_zero, List.set_cons_succ]
        refine wpAnyH_take (i := 4) (oi := { dst := some 75, op := Op.move (Operand.tmp 1), type := 3, pos := "outright.go:154", after := #[], guard := none }) (v := ?_) rfl (by kernel_rfl) (by kernel_rfl) (by kernel_rfl) (fun _ _ _ h => h) (Or.inl ⟨by rfl, ?_⟩) (by assumption) ?_
        rotate_left
        · intro W hSw
          try dsimp only at hSw
          go_simp
          try with_reducible rfl
        try simp only [Act.put, List.setIfInBounds_toArray, List.set_cons_zero, List.set_cons_succ]
        refine wpAnyH_ready (rs := [2, 6]) (by kernel_rfl) (by simp) ?_
        refine AllReadyH.cons (o := { dst := some 73, op := Op.call { callee := Callee.value (Operand.func 14), args := #[Operand.tmp 72], argTypes := #[22] }, type := 26, pos := "outright.go:154", after := #[{ on := 1, ground := Ground.data }], guard := none }) rfl (fun K hK => ?_) (AllReadyH.cons (o := { dst := some 11, op := Op.alloc 38, type := 0, pos := "outright.go:154", after := #[], guard := none }) rfl (fun K hK => ?_) AllReadyH.nil)
        · rw [if_pos (by rfl)]
          go_simp
          have bn := True.intro
          refine hK.out _ _ hHeld0 (fun hHeld1 => ?_)
          clear hK K hHeld0 bn
          try simp only [Act.put, List.setIfInBounds_toArray, List.set_cons_zero, List.set_cons_succ]
          refine wpAnyH_ready (rs := [5, 6]) (by kernel_rfl) (by simp) ?_
          refine AllReadyH.cons (o := { dst := some 76, op := Op.call { callee := Callee.value (Operand.func 13), args := #[Operand.tmp 73, Operand.tmp 74, Operand.tmp 75], argTypes := #[26, 24, 3] }, type := 38, pos := "outright.go:154", after := #[{ on := 2, ground := Ground.data }, { on := 3, ground := Ground.data }, { on := 4, ground := Ground.data }, { on := 2, ground := Ground.chain }], guard := none }) rfl (fun K hK => ?_) (AllReadyH.cons (o := { dst := some 11, op := Op.alloc 38, type := 0, pos := "outright.go:154", after := #[], guard := none }) rfl (fun K hK => ?_) AllReadyH.nil)
          · rw [if_pos (by rfl)]
            go_simp
            refine (CF3.out _).mono ?_
            rintro e v502 ⟨gv, rfl, NM, bn⟩
            have HNP := hid NM
            clear NM
            refine hK.out _ _ (below_up hHeld1 bn) (fun hHeld2 => ?_)
            clear hK K hHeld1 bn
            try simp only [Act.put, List.setIfInBounds_toArray, List.set_cons_zero, List.set_cons_succ]
            refine wpAnyH_ready (rs := [6]) (by kernel_rfl) (by simp) ?_
            refine AllReadyH.cons (o := { dst := some 11, op := Op.alloc 38, type := 0, pos := "outright.go:154", after := #[], guard := none }) rfl (fun K hK => ?_) AllReadyH.nil
            rw [if_pos (by rfl)]
            go_simp
            generalize hwn : World.alloc _ (.cells #[.slice none 0 0, .bool false] 38) = v503
            have bn : Below (v502).heap.size (v502) v503 := by rw [← hwn]; exact below_new _ _
            have HD : Hid (Bn v503 (v502).heap.size (.slice none 0 0) false) := by rw [← hwn]; exact Bn.new _ _ _
            have HG : Hid (wU.heap.size ≤ (v502).heap.size) := hHeld2.size
            refine hK.out _ _ (below_up hHeld2 bn) (fun hHeld3 => ?_)
            clear hK K hwn hHeld2
            replace HNP := hid (HNP.out.later bn)
            clear bn
            try simp only [Act.put, List.setIfInBounds_toArray, List.set_cons_zero, List.set_cons_succ]
            generalize v502.heap.size = b8503 at *
            refine wpAnyH_ready (rs := [7]) (by kernel_rfl) (by simp) ?_
            refine AllReadyH.cons (o := { dst := none, op := Op.store 38 (Operand.tmp 11) (Operand.tmp 76), type := 0, pos := "outright.go:154", after := #[{ on := 6, ground := Ground.data }, { on := 5, ground := Ground.data }, { on := 5, ground := Ground.chain }, { on := 0, ground := Ground.phase }, { on := 1, ground := Ground.phase }, { on := 2, ground := Ground.phase }, { on := 3, ground := Ground.phase }, { on := 4, ground := Ground.phase }, { on := 5, ground := Ground.phase }, { on := 6, ground := Ground.phase }], guard := none }) rfl (fun K hK => ?_) AllReadyH.nil
            rw [if_pos (by rfl)]
            have s0 := HD.out.dig
            have s1 := HD.out.sgn
            have s2 := HD.out.frz 0
            have s3 := HD.out.frz 1
            have XD := hid (HD.out.pt (.slice (some ⟨gv, 0, none⟩) 24 24) false)
            have ND := hid (HNP.out.off HD.out (.slice (some ⟨gv, 0, none⟩) 24 24) (.bool false))
            have BD := hid (below_pt hHeld3 HG.out (.slice (some ⟨gv, 0, none⟩) 24 24) (.bool false))
            unfold pt at XD ND BD
            go_simp
            refine hK.out _ _ BD.out (fun hHeld4 => ?_)
            clear hK K hHeld3 s0 s1 s2 s3 HD HNP
            try simp only [Act.put, List.setIfInBounds_toArray, List.set_cons_zero, List.set_cons_succ]
            refine wpAnyH_done (by kernel_rfl) ?_ _
            refine NoPanic.normal ?_
            generalize World.setCell _ _ _ = wV at *
            clear hHeld4
            have XV := hid XD.out
            have XU := hid (XU9.out.later BD.out)
            have XE := hid (XE9.out.later BD.out)
            have NV := hid ND.out
            have NU := hid (NU9.out.later BD.out)
            have NE := hid (NE9.out.later BD.out)
            have BW := hid (below_up B9.out BD.out)
            clear XD ND BD XU9 XE9 NU9 NE9 B9 XB9 HG CF3 hfr2
            have d0 := XE.out.dig
            have d1 := XE.out.sgn
            have u0 := XU.out.dig
            have u1 := XU.out.sgn
            have v0 := XV.out.dig
            have v1 := XV.out.sgn
            go_wp2_with fail
            refine (CB1.out _ _ _ NU.out NE.out).mono ?_
            rintro e y1 ⟨rfl, b3⟩
            replace XE := hid (XE.out.later b3)
            replace XU := hid (XU.out.later b3)
            replace XV := hid (XV.out.later b3)
            replace NE := hid (NE.out.later b3)
            replace NU := hid (NU.out.later b3)
            replace NV := hid (NV.out.later b3)
            replace BW := hid (below_up BW.out b3)
            clear b3 d0 d1 u0 u1 v0 v1
            have d0 := XE.out.dig
            have d1 := XE.out.sgn
            have u0 := XU.out.dig
            have u1 := XU.out.sgn
            have v0 := XV.out.dig
            have v1 := XV.out.sgn
            go_wp2_with fail
            refine (CB2.out _ _ _ NV.out NE.out).mono ?_
            rintro e y2 ⟨rfl, b3⟩
            replace XE := hid (XE.out.later b3)
            replace XU := hid (XU.out.later b3)
            replace XV := hid (XV.out.later b3)
            replace NE := hid (NE.out.later b3)
            replace NU := hid (NU.out.later b3)
            replace NV := hid (NV.out.later b3)
            replace BW := hid (below_up BW.out b3)
            clear b3 d0 d1 u0 u1 v0 v1
            have d0 := XE.out.dig
            have d1 := XE.out.sgn
            have u0 := XU.out.dig
            have u1 := XU.out.sgn
            have v0 := XV.out.dig
            have v1 := XV.out.sgn
            go_wp2_with fail
            refine (CB3.out _ _ _ NE.out NU.out).mono ?_
            rintro e y3 ⟨rfl, b3⟩
            replace XE := hid (XE.out.later b3)
            replace XU := hid (XU.out.later b3)
            replace XV := hid (XV.out.later b3)
            replace NE := hid (NE.out.later b3)
            replace NU := hid (NU.out.later b3)
            replace NV := hid (NV.out.later b3)
            replace BW := hid (below_up BW.out b3)
            clear b3 d0 d1 u0 u1 v0 v1
            have d0 := XE.out.dig
            have d1 := XE.out.sgn
            have u0 := XU.out.dig
            have u1 := XU.out.sgn
            have v0 := XV.out.dig
            have v1 := XV.out.sgn
            rcases HT.out with ⟨rfl, rfl⟩ | ⟨rfl, he⟩ | ⟨rfl, rfl, he⟩
            · clear HT
              go_wp2_with fail
              refine (CB4.out _ _ _ NE.out NV.out).mono ?_
              rintro e y4 ⟨rfl, b3⟩
              replace XE := hid (XE.out.later b3)
              replace XU := hid (XU.out.later b3)
              replace XV := hid (XV.out.later b3)
              replace NE := hid (NE.out.later b3)
              replace NU := hid (NU.out.later b3)
              replace NV := hid (NV.out.later b3)
              replace BW := hid (below_up BW.out b3)
              clear b3 d0 d1 u0 u1 v0 v1
              go_wp2_with fail
              go_ret
              exact ⟨rfl, BW.out⟩
            · clear HT
              go_wp2_with fail
              go_ret
              exact ⟨rfl, BW.out⟩
            · clear HT
              go_wp2_with fail
              refine (CB4.out _ _ _ NE.out NV.out).mono ?_
              rintro e y4 ⟨rfl, b3⟩
              replace XE := hid (XE.out.later b3)
              replace XU := hid (XU.out.later b3)
              replace XV := hid (XV.out.later b3)
              replace NE := hid (NE.out.later b3)
              replace NU := hid (NU.out.later b3)
              replace NV := hid (NV.out.later b3)
              replace BW := hid (below_up BW.out b3)
              clear b3 d0 d1 u0 u1 v0 v1
              go_wp2_with fail
              go_ret
              exact ⟨rfl, BW.out⟩
          · rw [if_pos (by rfl)]
            go_simp
            generalize hwn : World.drew (World.alloc _ (.cells #[.slice none 0 0, .bool false] 38)) = v504
            have bn : Below wU.heap.size wU v504 := by rw [← hwn]; exact (below_new _ _).drew
            have HD : Hid (Bn v504 wU.heap.size (.slice none 0 0) false) := by rw [← hwn]; exact Bn.new wU _ _
            have HG : Hid (wU.heap.size ≤ wU.heap.size) := Nat.le_refl _
            refine hK.out _ _ bn (fun hHeld2 => ?_)
            clear hK K hwn hHeld1
            clear bn
            try simp only [Act.put, List.setIfInBounds_toArray, List.set_cons_zero, List.set_cons_succ]
            refine wpAnyH_ready (rs := [5]) (by kernel_rfl) (by simp) ?_
            refine AllReadyH.cons (o := { dst := some 76, op := Op.call { callee := Callee.value (Operand.func 13), args := #[Operand.tmp 73, Operand.tmp 74, Operand.tmp 75], argTypes := #[26, 24, 3] }, type := 38, pos := "outright.go:154", after := #[{ on := 2, ground := Ground.data }, { on := 3, ground := Ground.data }, { on := 4, ground := Ground.data }, { on := 2, ground := Ground.chain }], guard := none }) rfl (fun K hK => ?_) AllReadyH.nil
            rw [if_pos (by rfl)]
            go_simp
            refine (CF3.out _).mono ?_
            rintro e v505 ⟨gv, rfl, NM, bn⟩
            have HNP := hid NM
            clear NM
            replace HD := hid (HD.out.later bn)
            refine hK.out _ _ (below_up hHeld2 bn) (fun hHeld3 => ?_)
            clear hK K hHeld2 bn
            try simp only [Act.put, List.setIfInBounds_toArray, List.set_cons_zero, List.set_cons_succ]
            refine wpAnyH_ready (rs := [7]) (by kernel_rfl) (by simp) ?_
            refine AllReadyH.cons (o := { dst := none, op := Op.store 38 (Operand.tmp 11) (Operand.tmp 76), type := 0, pos := "outright.go:154", after := #[{ on := 6, ground := Ground.data }, { on := 5, ground := Ground.data }, { on := 5, ground := Ground.chain }, { on := 0, ground := Ground.phase }, { on := 1, ground := Ground.phase }, { on := 2, ground := Ground.phase }, { on := 3, ground := Ground.phase }, { on := 4, ground := Ground.phase }, { on := 5, ground := Ground.phase }, { on := 6, ground := Ground.phase }], guard := none }) rfl (fun K hK => ?_) AllReadyH.nil
            rw [if_pos (by rfl)]
            have s0 := HD.out.dig
            have s1 := HD.out.sgn
            have s2 := HD.out.frz 0
            have s3 := HD.out.frz 1
            have XD := hid (HD.out.pt (.slice (some ⟨gv, 0, none⟩) 24 24) false)
            have ND := hid (HNP.out.off HD.out (.slice (some ⟨gv, 0, none⟩) 24 24) (.bool false))
            have BD := hid (below_pt hHeld3 HG.out (.slice (some ⟨gv, 0, none⟩) 24 24) (.bool false))
            unfold pt at XD ND BD
            go_simp
            refine hK.out _ _ BD.out (fun hHeld4 => ?_)
            clear hK K hHeld3 s0 s1 s2 s3 HD HNP
            try simp only [Act.put, List.setIfInBounds_toArray, List.set_cons_zero, List.set_cons_succ]
            refine wpAnyH_done (by kernel_rfl) ?_ _
            refine NoPanic.normal ?_
            generalize World.setCell _ _ _ = wV at *
            clear hHeld4
            have XV := hid XD.out
            have XU := hid (XU9.out.later BD.out)
            have XE := hid (XE9.out.later BD.out)
            have NV := hid ND.out
            have NU := hid (NU9.out.later BD.out)
            have NE := hid (NE9.out.later BD.out)
            have BW := hid (below_up B9.out BD.out)
            clear XD ND BD XU9 XE9 NU9 NE9 B9 XB9 HG CF3 hfr2
            have d0 := XE.out.dig
            have d1 := XE.out.sgn
            have u0 := XU.out.dig
            have u1 := XU.out.sgn
            have v0 := XV.out.dig
            have v1 := XV.out.sgn
            go_wp2_with fail
            refine (CB1.out _ _ _ NU.out NE.out).mono ?_
            rintro e y1 ⟨rfl, b3⟩
            replace XE := hid (XE.out.later b3)
            replace XU := hid (XU.out.later b3)
            replace XV := hid (XV.out.later b3)
            replace NE := hid (NE.out.later b3)
            replace NU := hid (NU.out.later b3)
            replace NV := hid (NV.out.later b3)
            replace BW := hid (below_up BW.out b3)
            clear b3 d0 d1 u0 u1 v0 v1
            have d0 := XE.out.dig
            have d1 := XE.out.sgn
            have u0 := XU.out.dig
            have u1 := XU.out.sgn
            have v0 := XV.out.dig
            have v1 := XV.out.sgn
            go_wp2_with fail
            refine (CB2.out _ _ _ NV.out NE.out).mono ?_
            rintro e y2 ⟨rfl, b3⟩
            replace XE := hid (XE.out.later b3)
            replace XU := hid (XU.out.later b3)
            replace XV := hid (XV.out.later b3)
            replace NE := hid (NE.out.later b3)
            replace NU := hid (NU.out.later b3)
            replace NV := hid (NV.out.later b3)
            replace BW := hid (below_up BW.out b3)
            clear b3 d0 d1 u0 u1 v0 v1
            have d0 := XE.out.dig
            have d1 := XE.out.sgn
            have u0 := XU.out.dig
            have u1 := XU.out.sgn
            have v0 := XV.out.dig
            have v1 := XV.out.sgn
            go_wp2_with fail
            refine (CB3.out _ _ _ NE.out NU.out).mono ?_
            rintro e y3 ⟨rfl, b3⟩
            replace XE := hid (XE.out.later b3)
            replace XU := hid (XU.out.later b3)
            replace XV := hid (XV.out.later b3)
            replace NE := hid (NE.out.later b3)
            replace NU := hid (NU.out.later b3)
            replace NV := hid (NV.out.later b3)
            replace BW := hid (below_up BW.out b3)
            clear b3 d0 d1 u0 u1 v0 v1
            have d0 := XE.out.dig
            have d1 := XE.out.sgn
            have u0 := XU.out.dig
            have u1 := XU.out.sgn
            have v0 := XV.out.dig
            have v1 := XV.out.sgn
            rcases HT.out with ⟨rfl, rfl⟩ | ⟨rfl, he⟩ | ⟨rfl, rfl, he⟩
            · clear HT
              go_wp2_with fail
              refine (CB4.out _ _ _ NE.out NV.out).mono ?_
              rintro e y4 ⟨rfl, b3⟩
              replace XE := hid (XE.out.later b3)
              replace XU := hid (XU.out.later b3)
              replace XV := hid (XV.out.later b3)
              replace NE := hid (NE.out.later b3)
              replace NU := hid (NU.out.later b3)
              replace NV := hid (NV.out.later b3)
              replace BW := hid (below_up BW.out b3)
              clear b3 d0 d1 u0 u1 v0 v1
              go_wp2_with fail
              go_ret
              exact ⟨rfl, BW.out⟩
            · clear HT
              go_wp2_with fail
              go_ret
              exact ⟨rfl, BW.out⟩
            · clear HT
              go_wp2_with fail
              refine (CB4.out _ _ _ NE.out NV.out).mono ?_
              rintro e y4 ⟨rfl, b3⟩
              replace XE := hid (XE.out.later b3)
              replace XU := hid (XU.out.later b3)
              replace XV := hid (XV.out.later b3)
              replace NE := hid (NE.out.later b3)
              replace NU := hid (NU.out.later b3)
              replace NV := hid (NV.out.later b3)
              replace BW := hid (below_up BW.out b3)
              clear b3 d0 d1 u0 u1 v0 v1
              go_wp2_with fail
              go_ret
              exact ⟨rfl, BW.out⟩
        · rw [if_pos (by rfl)]
          go_simp
          generalize hwn : World.drew (World.alloc _ (.cells #[.slice none 0 0, .bool false] 38)) = v506
          have bn : Below wU.heap.size wU v506 := by rw [← hwn]; exact (below_new _ _).drew
          have HD : Hid (Bn v506 wU.heap.size (.slice none 0 0) false) := by rw [← hwn]; exact Bn.new wU _ _
          have HG : Hid (wU.heap.size ≤ wU.heap.size) := Nat.le_refl _
          refine hK.out _ _ bn (fun hHeld1 => ?_)
          clear hK K hwn hHeld0
          clear bn
          try simp only [Act.put, List.setIfInBounds_toArray, List.set_cons_zero, List.set_cons_succ]
          refine wpAnyH_ready (rs := [2]) (by kernel_rfl) (by simp) ?_
          refine AllReadyH.cons (o := { dst := some 73, op := Op.call { callee := Callee.value (Operand.func 14), args := #[Operand.tmp 72], argTypes := #[22] }, type := 26, pos := "outright.go:154", after := #[{ on := 1, ground := Ground.data }], guard := none }) rfl (fun K hK => ?_) AllReadyH.nil
          rw [if_pos (by rfl)]
          go_simp
          have bn := True.intro
          refine hK.out _ _ hHeld1 (fun hHeld2 => ?_)
          clear hK K hHeld1 bn
          try simp only [Act.put, List.setIfInBounds_toArray, List.set_cons_zero, List.set_cons_succ]
          refine wpAnyH_ready (rs := [5]) (by kernel_rfl) (by simp) ?_
          refine AllReadyH.cons (o := { dst := some 76, op := Op.call { callee := Callee.value (Operand.func 13), args := #[Operand.tmp 73, Operand.tmp 74, Operand.tmp 75], argTypes := #[26, 24, 3] }, type := 38, pos := "outright.go:154", after := #[{ on := 2, ground := Ground.data }, { on := 3, ground := Ground.data }, { on := 4, ground := Ground.data }, { on := 2, ground := Ground.chain }], guard := none }) rfl (fun K hK => ?_) AllReadyH.nil
          rw [if_pos (by rfl)]
          go_simp
          refine (CF3.out _).mono ?_
          rintro e v508 ⟨gv, rfl, NM, bn⟩
          have HNP := hid NM
          clear NM
          replace HD := hid (HD.out.later bn)
          refine hK.out _ _ (below_up hHeld2 bn) (fun hHeld3 => ?_)
          clear hK K hHeld2 bn
          try simp only [Act.put, List.setIfInBounds_toArray, List.set_cons_zero, List.set_cons_succ]
          refine wpAnyH_ready (rs := [7]) (by kernel_rfl) (by simp) ?_
          refine AllReadyH.cons (o := { dst := none, op := Op.store 38 (Operand.tmp 11) (Operand.tmp 76), type := 0, pos := "outright.go:154", after := #[{ on := 6, ground := Ground.data }, { on := 5, ground := Ground.data }, { on := 5, ground := Ground.chain }, { on := 0, ground := Ground.phase }, { on := 1, ground := Ground.phase }, { on := 2, ground := Ground.phase }, { on := 3, ground := Ground.phase }, { on := 4, ground := Ground.phase }, { on := 5, ground := Ground.phase }, { on := 6, ground := Ground.phase }], guard := none }) rfl (fun K hK => ?_) AllReadyH.nil
          rw [if_pos (by rfl)]
          have s0 := HD.out.dig
          have s1 := HD.out.sgn
          have s2 := HD.out.frz 0
          have s3 := HD.out.frz 1
          have XD := hid (HD.out.pt (.slice (some ⟨gv, 0, none⟩) 24 24) false)
          have ND := hid (HNP.out.off HD.out (.slice (some ⟨gv, 0, none⟩) 24 24) (.bool false))
          have BD := hid (below_pt hHeld3 HG.out (.slice (some ⟨gv, 0, none⟩) 24 24) (.bool false))
          unfold pt at XD ND BD
          go_simp
          refine hK.out _ _ BD.out (fun hHeld4 => ?_)
          clear hK K hHeld3 s0 s1 s2 s3 HD HNP
          try simp only [Act.put, List.setIfInBounds_toArray, List.set_cons_zero, List.set_cons_succ]
          refine wpAnyH_done (by kernel_rfl) ?_ _
          refine NoPanic.normal ?_
          generalize World.setCell _ _ _ = wV at *
          clear hHeld4
          have XV := hid XD.out
          have XU := hid (XU9.out.later BD.out)
          have XE := hid (XE9.out.later BD.out)
          have NV := hid ND.out
          have NU := hid (NU9.out.later BD.out)
          have NE := hid (NE9.out.later BD.out)
          have BW := hid (below_up B9.out BD.out)
          clear XD ND BD XU9 XE9 NU9 NE9 B9 XB9 HG CF3 hfr2
          have d0 := XE.out.dig
          have d1 := XE.out.sgn
          have u0 := XU.out.dig
          have u1 := XU.out.sgn
          have v0 := XV.out.dig
          have v1 := XV.out.sgn
          go_wp2_with fail
          refine (CB1.out _ _ _ NU.out NE.out).mono ?_
          rintro e y1 ⟨rfl, b3⟩
          replace XE := hid (XE.out.later b3)
          replace XU := hid (XU.out.later b3)
          replace XV := hid (XV.out.later b3)
          replace NE := hid (NE.out.later b3)
          replace NU := hid (NU.out.later b3)
          replace NV := hid (NV.out.later b3)
          replace BW := hid (below_up BW.out b3)
          clear b3 d0 d1 u0 u1 v0 v1
          have d0 := XE.out.dig
          have d1 := XE.out.sgn
          have u0 := XU.out.dig
          have u1 := XU.out.sgn
          have v0 := XV.out.dig
          have v1 := XV.out.sgn
          go_wp2_with fail
          refine (CB2.out _ _ _ NV.out NE.out).mono ?_
          rintro e y2 ⟨rfl, b3⟩
          replace XE := hid (XE.out.later b3)
          replace XU := hid (XU.out.later b3)
          replace XV := hid (XV.out.later b3)
          replace NE := hid (NE.out.later b3)
          replace NU := hid (NU.out.later b3)
          replace NV := hid (NV.out.later b3)
          replace BW := hid (below_up BW.out b3)
          clear b3 d0 d1 u0 u1 v0 v1
          have d0 := XE.out.dig
          have d1 := XE.out.sgn
          have u0 := XU.out.dig
          have u1 := XU.out.sgn
          have v0 := XV.out.dig
          have v1 := XV.out.sgn
          go_wp2_with fail
          refine (CB3.out _ _ _ NE.out NU.out).mono ?_
          rintro e y3 ⟨rfl, b3⟩
          replace XE := hid (XE.out.later b3)
          replace XU := hid (XU.out.later b3)
          replace XV := hid (XV.out.later b3)
          replace NE := hid (NE.out.later b3)
          replace NU := hid (NU.out.later b3)
          replace NV := hid (NV.out.later b3)
          replace BW := hid (below_up BW.out b3)
          clear b3 d0 d1 u0 u1 v0 v1
          have d0 := XE.out.dig
          have d1 := XE.out.sgn
          have u0 := XU.out.dig
          have u1 := XU.out.sgn
          have v0 := XV.out.dig
          have v1 := XV.out.sgn
          rcases HT.out with ⟨rfl, rfl⟩ | ⟨rfl, he⟩ | ⟨rfl, rfl, he⟩
          · clear HT
            go_wp2_with fail
            refine (CB4.out _ _ _ NE.out NV.out).mono ?_
            rintro e y4 ⟨rfl, b3⟩
            replace XE := hid (XE.out.later b3)
            replace XU := hid (XU.out.later b3)
            replace XV := hid (XV.out.later b3)
            replace NE := hid (NE.out.later b3)
            replace NU := hid (NU.out.later b3)
            replace NV := hid (NV.out.later b3)
            replace BW := hid (below_up BW.out b3)
            clear b3 d0 d1 u0 u1 v0 v1
            go_wp2_with fail
            go_ret
            exact ⟨rfl, BW.out⟩
          · clear HT
            go_wp2_with fail
            go_ret
            exact ⟨rfl, BW.out⟩
          · clear HT
            go_wp2_with fail
            refine (CB4.out _ _ _ NE.out NV.out).mono ?_
            rintro e y4 ⟨rfl, b3⟩
            replace XE := hid (XE.out.later b3)
            replace XU := hid (XU.out.later b3)
            replace XV := hid (XV.out.later b3)
            replace NE := hid (NE.out.later b3)
            replace NU := hid (NU.out.later b3)
            replace NV := hid (NV.out.later b3)
            replace BW := hid (below_up BW.out b3)
            clear b3 d0 d1 u0 u1 v0 v1
            go_wp2_with fail
            go_ret
            exact ⟨rfl, BW.out⟩
    · rw [if_pos (by rfl)]
      go_simp
      generalize hwn : World.drew (World.alloc _ (.cells #[.slice none 0 0, .bool false] 38)) = v6
      have bn : Below wA.heap.size wA v6 := by rw [← hwn]; exact (below_new _ _).drew
      have HD : Hid (Bn v6 wA.heap.size (.slice none 0 0) false) := by rw [← hwn]; exact Bn.new wA _ _
      have HG : Hid (wA.heap.size ≤ wA.heap.size) := Nat.le_refl _
      refine hK.out _ _ bn (fun hHeld1 => ?_)
      clear hK K hwn hHeld0
      clear bn
      try simp only [Act.put, List.setIfInBounds_toArray, List.set_cons_zero, List.set_cons_succ]
      refine wpAnyH_ready (rs := [2]) (by kernel_rfl) (by simp) ?_
      refine AllReadyH.cons (o := { dst := some 67, op := Op.call { callee := Callee.value (Operand.func 14), args := #[Operand.tmp 66], argTypes := #[22] }, type := 26, pos := "outright.go:153", after := #[{ on := 1, ground := Ground.data }], guard := none }) rfl (fun K hK => ?_) AllReadyH.nil
      rw [if_pos (by rfl)]
      go_simp
      have bn := True.intro
      refine hK.out _ _ hHeld1 (fun hHeld2 => ?_)
      clear hK K hHeld1 bn
      try simp only [Act.put, List.setIfInBounds_toArray, List.set_cons_zero, List.set_cons_succ]
      refine wpAnyH_ready (rs := [5]) (by kernel_rfl) (by simp) ?_
      refine AllReadyH.cons (o := { dst := some 70, op := Op.call { callee := Callee.value (Operand.func 13), args := #[Operand.tmp 67, Operand.tmp 68, Operand.tmp 69], argTypes := #[26, 24, 3] }, type := 38, pos := "outright.go:153", after := #[{ on := 2, ground := Ground.data }, { on := 3, ground := Ground.data }, { on := 4, ground := Ground.data }, { on := 2, ground := Ground.chain }], guard := none }) rfl (fun K hK => ?_) AllReadyH.nil
      rw [if_pos (by rfl)]
      go_simp
      refine (CF2.out _).mono ?_
      rintro e v8 ⟨gu, rfl, NM, bn⟩
      have HNP := hid NM
      clear NM
      replace HD := hid (HD.out.later bn)
      refine hK.out _ _ (below_up hHeld2 bn) (fun hHeld3 => ?_)
      clear hK K hHeld2 bn
      try simp only [Act.put, List.setIfInBounds_toArray, List.set_cons_zero, List.set_cons_succ]
      refine wpAnyH_ready (rs := [7]) (by kernel_rfl) (by simp) ?_
      refine AllReadyH.cons (o := { dst := none, op := Op.store 38 (Operand.tmp 10) (Operand.tmp 70), type := 0, pos := "outright.go:153", after := #[{ on := 6, ground := Ground.data }, { on := 5, ground := Ground.data }, { on := 5, ground := Ground.chain }, { on := 0, ground := Ground.phase }, { on := 1, ground := Ground.phase }, { on := 2, ground := Ground.phase }, { on := 3, ground := Ground.phase }, { on := 4, ground := Ground.phase }, { on := 5, ground := Ground.phase }, { on := 6, ground := Ground.phase }], guard := none }) rfl (fun K hK => ?_) AllReadyH.nil
      rw [if_pos (by rfl)]
      have s0 := HD.out.dig
      have s1 := HD.out.sgn
      have s2 := HD.out.frz 0
      have s3 := HD.out.frz 1
      have XD := hid (HD.out.pt (.slice (some ⟨gu, 0, none⟩) 24 24) false)
      have ND := hid (HNP.out.off HD.out (.slice (some ⟨gu, 0, none⟩) 24 24) (.bool false))
      have BD := hid (below_pt hHeld3 HG.out (.slice (some ⟨gu, 0, none⟩) 24 24) (.bool false))
      unfold pt at XD ND BD
      go_simp
      refine hK.out _ _ BD.out (fun hHeld4 => ?_)
      clear hK K hHeld3 s0 s1 s2 s3 HD HNP
      try simp only [Act.put, List.setIfInBounds_toArray, List.set_cons_zero, List.set_cons_succ]
      refine wpAnyH_done (by kernel_rfl) ?_ _
      refine NoPanic.normal ?_
      generalize World.setCell _ _ _ = wU at *
      clear hHeld4
      have XU9 := hid XD.out
      have XE9 := hid (XE7.out.later BD.out)
      have NU9 := hid ND.out
      have NE9 := hid (NE7.out.later BD.out)
      have XB9 := hid (XB7.out.later BD.out)
      have B9 := hid (below_up B7.out BD.out)
      clear XD ND BD XE7 NE7 XB7 B7 HG CF2 hfr1
      go_upto_region 16 with fail
      refine wp_region_noPanic ?_
      refine wp_region_held_drew (S := fun W => Below wU.heap.size wU W) (by kernel_rfl) ((Below.refl _ _).drew) (fun hHeld0 => ?_)
      refine wpAnyH_take (i := 0) (oi := { dst := some 71, op := Op.move (Operand.tmp 8), type := 22, pos := "outright.go:154", after := #[], guard := none }) (v := ?_) rfl (by kernel_rfl) (by kernel_rfl) (by kernel_rfl) (fun _ _ _ h => h) (Or.inl ⟨by rfl, ?_⟩) (by assumption) ?_
      rotate_left
      · intro W hSw
        try dsimp only at hSw
        go_simp
        try with_reducible rfl
      try simp only [Act.put, List.setIfInBounds_toArray, List.set_cons_zero, List.set_cons_succ]
      refine wpAnyH_take (i := 1) (oi := { dst := some 72, op := Op.binOp BinOp.sub 22 (Operand.tmp 71) (Operand.const (Value.int IntKind.u64 1)) 22, type := 22, pos := "outright.go:154", after := #[{ on := 0, ground := Ground.data }], guard := none }) (v := ?_) rfl (by kernel_rfl) (by kernel_rfl) (by kernel_rfl) (fun _ _ _ h => h) (Or.inl ⟨by rfl, ?_⟩) (by assumption) ?_
      rotate_left
      · intro W hSw
        try dsimp only at hSw
        go_simp
        try with_reducible rfl
      try simp only [Act.put, List.setIfInBounds_toArray, List.set_cons_zero, List.set_cons_succ]
      refine wpAnyH_take (i := 3) (oi := { dst := some 74, op := Op.load 24 (Operand.tmp 2), type := 24, pos := "outright.go:154", after := #[], guard := none }) (v := ?_) rfl (by kernel_rfl) (by kernel_rfl) (by kernel_rfl) (fun _ _ _ h => h) (Or.inl ⟨by rfl, ?_⟩) (by assumption) ?_
      rotate_left
      · intro W hSw
        try dsimp only at hSw
        have q0 := (XB9.out.later hSw).hi; have q1 := (XB9.out.later hSw).lo
        go_simp
        try with_reducible rfl
      try simp only [Act.put, List.setIfInBounds_toArray, List.set_cons_zero, List.set_cons_succ]
      refine wpAnyH_take (i := 4) (oi := { dst := some 75, op := Op.move (Operand.tmp 1), type := 3, pos := "outright.go:154", after := #[], guard := none }) (v := ?_) rfl (by kernel_rfl) (by kernel_rfl) (by kernel_rfl) (fun _ _ _ h => h) (Or.inl ⟨by rfl, ?_⟩) (by assumption) ?_
      rotate_left
      · intro W hSw
        try dsimp only at hSw
        go_simp
        try with_reducible rfl
      try simp only [Act.put, List.setIfInBounds_toArray, List.set_cons_zero, List.set_cons_succ]
      refine wpAnyH_ready (rs := [2, 6]) (by kernel_rfl) (by simp) ?_
      refine AllReadyH.cons (o := { dst := some 73, op := Op.call { callee := Callee.value (Operand.func 14), args := #[Operand.tmp 72], argTypes := #[22] }, type := 26, pos := "outright.go:154", after := #[{ on := 1, ground := Ground.data }], guard := none }) rfl (fun K hK => ?_) (AllReadyH.cons (o := { dst := some 11, op := Op.alloc 38, type := 0, pos := "outright.go:154", after := #[], guard := none }) rfl (fun K hK => ?_) AllReadyH.nil)
      · rw [if_pos (by rfl)]
        go_simp
        have bn := True.intro
        refine hK.out _ _ hHeld0 (fun hHeld1 => ?_)
        clear hK K hHeld0 bn
        try simp only [Act.put, List.setIfInBounds_toArray, List.set_cons_zero, List.set_cons_succ]
        refine wpAnyH_ready (rs := [5, 6]) (by kernel_rfl) (by simp) ?_
        refine AllReadyH.cons (o := { dst := some 76, op := Op.call { callee := Callee.value (Operand.func 13), args := #[Operand.tmp 73, Operand.tmp 74, Operand.tmp 75], argTypes := #[26, 24, 3] }, type := 38, pos := "outright.go:154", after := #[{ on := 2, ground := Ground.data }, { on := 3, ground := Ground.data }, { on := 4, ground := Ground.data }, { on := 2, ground := Ground.chain }], guard := none }) rfl (fun K hK => ?_) (AllReadyH.cons (o := { dst := some 11, op := Op.alloc 38, type := 0, pos := "outright.go:154", after := #[], guard := none }) rfl (fun K hK => ?_) AllReadyH.nil)
        · rw [if_pos (by rfl)]
          go_simp
          refine (CF3.out _).mono ?_
          rintro e v802 ⟨gv, rfl, NM, bn⟩
          have HNP := hid NM
          clear NM
          refine hK.out _ _ (below_up hHeld1 bn) (fun hHeld2 => ?_)
          clear hK K hHeld1 bn
          try simp only [Act.put, List.setIfInBounds_toArray, List.set_cons_zero, List.set_cons_succ]
          refine wpAnyH_ready (rs := [6]) (by kernel_rfl) (by simp) ?_
          refine AllReadyH.cons (o := { dst := some 11, op := Op.alloc 38, type := 0, pos := "outright.go:154", after := #[], guard := none }) rfl (fun K hK => ?_) AllReadyH.nil
          rw [if_pos (by rfl)]
          go_simp
          generalize hwn : World.alloc _ (.cells #[.slice none 0 0, .bool false] 38) = v803
          have bn : Below (v802).heap.size (v802) v803 := by rw [← hwn]; exact below_new _ _
          have HD : Hid (Bn v803 (v802).heap.size (.slice none 0 0) false) := by rw [← hwn]; exact Bn.new _ _ _
          have HG : Hid (wU.heap.size ≤ (v802).heap.size) := hHeld2.size
          refine hK.out _ _ (below_up hHeld2 bn) (fun hHeld3 => ?_)
          clear hK K hwn hHeld2
          replace HNP := hid (HNP.out.later bn)
          clear bn
          try simp only [Act.put, List.setIfInBounds_toArray, List.set_cons_zero, List.set_cons_succ]
          generalize v802.heap.size = b8803 at *
          refine wpAnyH_ready (rs := [7]) (by kernel_rfl) (by simp) ?_
          refine AllReadyH.cons (o := { dst := none, op := Op.store 38 (Operand.tmp 11) (Operand.tmp 76), type := 0, pos := "outright.go:154", after := #[{ on := 6, ground := Ground.data }, { on := 5, ground := Ground.data }, { on := 5, ground := Ground.chain }, { on := 0, ground := Ground.phase }, { on := 1, ground := Ground.phase }, { on := 2, ground := Ground.phase }, { on := 3, ground := Ground.phase }, { on := 4, ground := Ground.phase }, { on := 5, ground := Ground.phase }, { on := 6, ground := Ground.phase }], guard := none }) rfl (fun K hK => ?_) AllReadyH.nil
          rw [if_pos (by rfl)]
          have s0 := HD.out.dig
          have s1 := HD.out.sgn
          have s2 := HD.out.frz 0
          have s3 := HD.out.frz 1
          have XD := hid (HD.out.pt (.slice (some ⟨gv, 0, none⟩) 24 24) false)
          have ND := hid (HNP.out.off HD.out (.slice (some ⟨gv, 0, none⟩) 24 24) (.bool false))
          have BD := hid (below_pt hHeld3 HG.out (.slice (some ⟨gv, 0, none⟩) 24 24) (.bool false))
          unfold pt at XD ND BD
          go_simp
          refine hK.out _ _ BD.out (fun hHeld4 => ?_)
          clear hK K hHeld3 s0 s1 s2 s3 HD HNP
          try simp only [Act.put, List.setIfInBounds_toArray, List.set_cons_zero, List.set_cons_succ]
          refine wpAnyH_done (by kernel_rfl) ?_ _
          refine NoPanic.normal ?_
          generalize World.setCell _ _ _ = wV at *
          clear hHeld4
          have XV := hid XD.out
          have XU := hid (XU9.out.later BD.out)
          have XE := hid (XE9.out.later BD.out)
          have NV := hid ND.out
          have NU := hid (NU9.out.later BD.out)
          have NE := hid (NE9.out.later BD.out)
          have BW := hid (below_up B9.out BD.out)
          clear XD ND BD XU9 XE9 NU9 NE9 B9 XB9 HG CF3 hfr2
          have d0 := XE.out.dig
          have d1 := XE.out.sgn
          have u0 := XU.out.dig
          have u1 := XU.out.sgn
          have v0 := XV.out.dig
          have v1 := XV.out.sgn
          go_wp2_with fail
          refine (CB1.out _ _ _ NU.out NE.out).mono ?_
          rintro e y1 ⟨rfl, b3⟩
          replace XE := hid (XE.out.later b3)
          replace XU := hid (XU.out.later b3)
          replace XV := hid (XV.out.later b3)
          replace NE := hid (NE.out.later b3)
          replace NU := hid (NU.out.later b3)
          replace NV := hid (NV.out.later b3)
          replace BW := hid (below_up BW.out b3)
          clear b3 d0 d1 u0 u1 v0 v1
          have d0 := XE.out.dig
          have d1 := XE.out.sgn
          have u0 := XU.out.dig
          have u1 := XU.out.sgn
          have v0 := XV.out.dig
          have v1 := XV.out.sgn
          go_wp2_with fail
          refine (CB2.out _ _ _ NV.out NE.out).mono ?_
          rintro e y2 ⟨rfl, b3⟩
          replace XE := hid (XE.out.later b3)
          replace XU := hid (XU.out.later b3)
          replace XV := hid (XV.out.later b3)
          replace NE := hid (NE.out.later b3)
          replace NU := hid (NU.out.later b3)
          replace NV := hid (NV.out.later b3)
          replace BW := hid (below_up BW.out b3)
          clear b3 d0 d1 u0 u1 v0 v1
          have d0 := XE.out.dig
          have d1 := XE.out.sgn
          have u0 := XU.out.dig
          have u1 := XU.out.sgn
          have v0 := XV.out.dig
          have v1 := XV.out.sgn
          go_wp2_with fail
          refine (CB3.out _ _ _ NE.out NU.out).mono ?_
          rintro e y3 ⟨rfl, b3⟩
          replace XE := hid (XE.out.later b3)
          replace XU := hid (XU.out.later b3)
          replace XV := hid (XV.out.later b3)
          replace NE := hid (NE.out.later b3)
          replace NU := hid (NU.out.later b3)
          replace NV := hid (NV.out.later b3)
          replace BW := hid (below_up BW.out b3)
          clear b3 d0 d1 u0 u1 v0 v1
          have d0 := XE.out.dig
          have d1 := XE.out.sgn
          have u0 := XU.out.dig
          have u1 := XU.out.sgn
          have v0 := XV.out.dig
          have v1 := XV.out.sgn
          rcases HT.out with ⟨rfl, rfl⟩ | ⟨rfl, he⟩ | ⟨rfl, rfl, he⟩
          · clear HT
            go_wp2_with fail
            refine (CB4.out _ _ _ NE.out NV.out).mono ?_
            rintro e y4 ⟨rfl, b3⟩
            replace XE := hid (XE.out.later b3)
            replace XU := hid (XU.out.later b3)
            replace XV := hid (XV.out.later b3)
            replace NE := hid (NE.out.later b3)
            replace NU := hid (NU.out.later b3)
            replace NV := hid (NV.out.later b3)
            replace BW := hid (below_up BW.out b3)
            clear b3 d0 d1 u0 u1 v0 v1
            go_wp2_with fail
            go_ret
            exact ⟨rfl, BW.out⟩
          · clear HT
            go_wp2_with fail
            go_ret
            exact ⟨rfl, BW.out⟩
          · clear HT
            go_wp2_with fail
            refine (CB4.out _ _ _ NE.out NV.out).mono ?_
            rintro e y4 ⟨rfl, b3⟩
            replace XE := hid (XE.out.later b3)
            replace XU := hid (XU.out.later b3)
            replace XV := hid (XV.out.later b3)
            replace NE := hid (NE.out.later b3)
            replace NU := hid (NU.out.later b3)
            replace NV := hid (NV.out.later b3)
            replace BW := hid (below_up BW.out b3)
            clear b3 d0 d1 u0 u1 v0 v1
            go_wp2_with fail
            go_ret
            exact ⟨rfl, BW.out⟩
        · rw [if_pos (by rfl)]
          go_simp
          generalize hwn : World.drew (World.alloc _ (.cells #[.slice none 0 0, .bool false] 38)) = v804
          have bn : Below wU.heap.size wU v804 := by rw [← hwn]; exact (below_new _ _).drew
          have HD : Hid (Bn v804 wU.heap.size (.slice none 0 0) false) := by rw [← hwn]; exact Bn.new wU _ _
          have HG : Hid (wU.heap.size ≤ wU.heap.size) := Nat.le_refl _
          refine hK.out _ _ bn (fun hHeld2 => ?_)
          clear hK K hwn hHeld1
          clear bn
          try simp only [Act.put, List.setIfInBounds_toArray, List.set_cons_zero, List.set_cons_succ]
          refine wpAnyH_ready (rs := [5]) (by kernel_rfl) (by simp) ?_
          refine AllReadyH.cons (o := { dst := some 76, op := Op.call { callee := Callee.value (Operand.func 13), args := #[Operand.tmp 73, Operand.tmp 74, Operand.tmp 75], argTypes := #[26, 24, 3] }, type := 38, pos := "outright.go:154", after := #[{ on := 2, ground := Ground.data }, { on := 3, ground := Ground.data }, { on := 4, ground := Ground.data }, { on := 2, ground := Ground.chain }], guard := none }) rfl (fun K hK => ?_) AllReadyH.nil
          rw [if_pos (by rfl)]
          go_simp
          refine (CF3.out _).mono ?_
          rintro e v805 ⟨gv, rfl, NM, bn⟩
          have HNP := hid NM
          clear NM
          replace HD := hid (HD.out.later bn)
          refine hK.out _ _ (below_up hHeld2 bn) (fun hHeld3 => ?_)
          clear hK K hHeld2 bn
          try simp only [Act.put, List.setIfInBounds_toArray, List.set_cons_zero, List.set_cons_succ]
          refine wpAnyH_ready (rs := [7]) (by kernel_rfl) (by simp) ?_
          refine AllReadyH.cons (o := { dst := none, op := Op.store 38 (Operand.tmp 11) (Operand.tmp 76), type := 0, pos := "outright.go:154", after := #[{ on := 6, ground := Ground.data }, { on := 5, ground := Ground.data }, { on := 5, ground := Ground.chain }, { on := 0, ground := Ground.phase }, { on := 1, ground := Ground.phase }, { on := 2, ground := Ground.phase }, { on := 3, ground := Ground.phase }, { on := 4, ground := Ground.phase }, { on := 5, ground := Ground.phase }, { on := 6, ground := Ground.phase }], guard := none }) rfl (fun K hK => ?_) AllReadyH.nil
          rw [if_pos (by rfl)]
          have s0 := HD.out.dig
          have s1 := HD.out.sgn
          have s2 := HD.out.frz 0
          have s3 := HD.out.frz 1
          have XD := hid (HD.out.pt (.slice (some ⟨gv, 0, none⟩) 24 24) false)
          have ND := hid (HNP.out.off HD.out (.slice (some ⟨gv, 0, none⟩) 24 24) (.bool false))
          have BD := hid (below_pt hHeld3 HG.out (.slice (some ⟨gv, 0, none⟩) 24 24) (.bool false))
          unfold pt at XD ND BD
          go_simp
          refine hK.out _ _ BD.out (fun hHeld4 => ?_)
          clear hK K hHeld3 s0 s1 s2 s3 HD HNP
          try simp only [Act.put, List.setIfInBounds_toArray, List.set_cons_zero, List.set_cons_succ]
          refine wpAnyH_done (by kernel_rfl) ?_ _
          refine NoPanic.normal ?_
          generalize World.setCell _ _ _ = wV at *
          clear hHeld4
          have XV := hid XD.out
          have XU := hid (XU9.out.later BD.out)
          have XE := hid (XE9.out.later BD.out)
          have NV := hid ND.out
          have NU := hid (NU9.out.later BD.out)
          have NE := hid (NE9.out.later BD.out)
          have BW := hid (below_up B9.out BD.out)
          clear XD ND BD XU9 XE9 NU9 NE9 B9 XB9 HG CF3 hfr2
          have d0 := XE.out.dig
          have d1 := XE.out.sgn
          have u0 := XU.out.dig
          have u1 := XU.out.sgn
          have v0 := XV.out.dig
          have v1 := XV.out.sgn
          go_wp2_with fail
          refine (CB1.out _ _ _ NU.out NE.out).mono ?_
          rintro e y1 ⟨rfl, b3⟩
          replace XE := hid (XE.out.later b3)
          replace XU := hid (XU.out.later b3)
          replace XV := hid (XV.out.later b3)
          replace NE := hid (NE.out.later b3)
          replace NU := hid (NU.out.later b3)
          replace NV := hid (NV.out.later b3)
          replace BW := hid (below_up BW.out b3)
          clear b3 d0 d1 u0 u1 v0 v1
          have d0 := XE.out.dig
          have d1 := XE.out.sgn
          have u0 := XU.out.dig
          have u1 := XU.out.sgn
          have v0 := XV.out.dig
          have v1 := XV.out.sgn
          go_wp2_with fail
          refine (CB2.out _ _ _ NV.out NE.out).mono ?_
          rintro e y2 ⟨rfl, b3⟩
          replace XE := hid (XE.out.later b3)
          replace XU := hid (XU.out.later b3)
          replace XV := hid (XV.out.later b3)
          replace NE := hid (NE.out.later b3)
          replace NU := hid (NU.out.later b3)
          replace NV := hid (NV.out.later b3)
          replace BW := hid (below_up BW.out b3)
          clear b3 d0 d1 u0 u1 v0 v1
          have d0 := XE.out.dig
          have d1 := XE.out.sgn
          have u0 := XU.out.dig
          have u1 := XU.out.sgn
          have v0 := XV.out.dig
          have v1 := XV.out.sgn
          go_wp2_with fail
          refine (CB3.out _ _ _ NE.out NU.out).mono ?_
          rintro e y3 ⟨rfl, b3⟩
          replace XE := hid (XE.out.later b3)
          replace XU := hid (XU.out.later b3)
          replace XV := hid (XV.out.later b3)
          replace NE := hid (NE.out.later b3)
          replace NU := hid (NU.out.later b3)
          replace NV := hid (NV.out.later b3)
          replace BW := hid (below_up BW.out b3)
          clear b3 d0 d1 u0 u1 v0 v1
          have d0 := XE.out.dig
          have d1 := XE.out.sgn
          have u0 := XU.out.dig
          have u1 := XU.out.sgn
          have v0 := XV.out.dig
          have v1 := XV.out.sgn
          rcases HT.out with ⟨rfl, rfl⟩ | ⟨rfl, he⟩ | ⟨rfl, rfl, he⟩
          · clear HT
            go_wp2_with fail
            refine (CB4.out _ _ _ NE.out NV.out).mono ?_
            rintro e y4 ⟨rfl, b3⟩
            replace XE := hid (XE.out.later b3)
            replace XU := hid (XU.out.later b3)
            replace XV := hid (XV.out.later b3)
            replace NE := hid (NE.out.later b3)
            replace NU := hid (NU.out.later b3)
            replace NV := hid (NV.out.later b3)
            replace BW := hid (below_up BW.out b3)
            clear b3 d0 d1 u0 u1 v0 v1
            go_wp2_with fail
            go_ret
            exact ⟨rfl, BW.out⟩
          · clear HT
            go_wp2_with fail
            go_ret
            exact ⟨rfl, BW.out⟩
          · clear HT
            go_wp2_with fail
            refine (CB4.out _ _ _ NE.out NV.out).mono ?_
            rintro e y4 ⟨rfl, b3⟩
            replace XE := hid (XE.out.later b3)
            replace XU := hid (XU.out.later b3)
            replace XV := hid (XV.out.later b3)
            replace NE := hid (NE.out.later b3)
            replace NU := hid (NU.out.later b3)
            replace NV := hid (NV.out.later b3)
            replace BW := hid (below_up BW.out b3)
            clear b3 d0 d1 u0 u1 v0 v1
            go_wp2_with fail
            go_ret
            exact ⟨rfl, BW.out⟩
      · rw [if_pos (by rfl)]
        go_simp
        generalize hwn : World.drew (World.alloc _ (.cells #[.slice none 0 0, .bool false] 38)) = v806
        have bn : Below wU.heap.size wU v806 := by rw [← hwn]; exact (below_new _ _).drew
        have HD : Hid (Bn v806 wU.heap.size (.slice none 0 0) false) := by rw [← hwn]; exact Bn.new wU _ _
        have HG : Hid (wU.heap.size ≤ wU.heap.size) := Nat.le_refl _
        refine hK.out _ _ bn (fun hHeld1 => ?_)
        clear hK K hwn hHeld0
        clear bn
        try simp only [Act.put, List.setIfInBounds_toArray, List.set_cons_zero, List.set_cons_succ]
        refine wpAnyH_ready (rs := [2]) (by kernel_rfl) (by simp) ?_
        refine AllReadyH.cons (o := { dst := some 73, op := Op.call { callee := Callee.value (Operand.func 14), args := #[Operand.tmp 72], argTypes := #[22] }, type := 26, pos := "outright.go:154", after := #[{ on := 1, ground := Ground.data }], guard := none }) rfl (fun K hK => ?_) AllReadyH.nil
        rw [if_pos (by rfl)]
        go_simp
        have bn := True.intro
        refine hK.out _ _ hHeld1 (fun hHeld2 => ?_)
        clear hK K hHeld1 bn
        try simp only [Act.put, List.setIfInBounds_toArray, List.set_cons_zero, List.set_cons_succ]
        refine wpAnyH_ready (rs := [5]) (by kernel_rfl) (by simp) ?_
        refine AllReadyH.cons (o := { dst := some 76, op := Op.call { callee := Callee.value (Operand.func 13), args := #[Operand.tmp 73, Operand.tmp 74, Operand.tmp 75], argTypes := #[26, 24, 3] }, type := 38, pos := "outright.go:154", after := #[{ on := 2, ground := Ground.data }, { on := 3, ground := Ground.data }, { on := 4, ground := Ground.data }, { on := 2, ground := Ground.chain }], guard := none }) rfl (fun K hK => ?_) AllReadyH.nil
        rw [if_pos (by rfl)]
        go_simp
        refine (CF3.out _).mono ?_
        rintro e v808 ⟨gv, rfl, NM, bn⟩
        have HNP := hid NM
        clear NM
        replace HD := hid (HD.out.later bn)
        refine hK.out _ _ (below_up hHeld2 bn) (fun hHeld3 => ?_)
        clear hK K hHeld2 bn
        try simp only [Act.put, List.setIfInBounds_toArray, List.set_cons_zero, List.set_cons_succ]
        refine wpAnyH_ready (rs := [7]) (by kernel_rfl) (by simp) ?_
        refine AllReadyH.cons (o := { dst := none, op := Op.store 38 (Operand.tmp 11) (Operand.tmp 76), type := 0, pos := "outright.go:154", after := #[{ on := 6, ground := Ground.data }, { on := 5, ground := Ground.data }, { on := 5, ground := Ground.chain }, { on := 0, ground := Ground.phase }, { on := 1, ground := Ground.phase }, { on := 2, ground := Ground.phase }, { on := 3, ground := Ground.phase }, { on := 4, ground := Ground.phase }, { on := 5, ground := Ground.phase }, { on := 6, ground := Ground.phase }], guard := none }) rfl (fun K hK => ?_) AllReadyH.nil
        rw [if_pos (by rfl)]
        have s0 := HD.out.dig
        have s1 := HD.out.sgn
        have s2 := HD.out.frz 0
        have s3 := HD.out.frz 1
        have XD := hid (HD.out.pt (.slice (some ⟨gv, 0, none⟩) 24 24) false)
        have ND := hid (HNP.out.off HD.out (.slice (some ⟨gv, 0, none⟩) 24 24) (.bool false))
        have BD := hid (below_pt hHeld3 HG.out (.slice (some ⟨gv, 0, none⟩) 24 24) (.bool false))
        unfold pt at XD ND BD
        go_simp
        refine hK.out _ _ BD.out (fun hHeld4 => ?_)
        clear hK K hHeld3 s0 s1 s2 s3 HD HNP
        try simp only [Act.put, List.setIfInBounds_toArray, List.set_cons_zero, List.set_cons_succ]
        refine wpAnyH_done (by kernel_rfl) ?_ _
        refine NoPanic.normal ?_
        generalize World.setCell _ _ _ = wV at *
        clear hHeld4
        have XV := hid XD.out
        have XU := hid (XU9.out.later BD.out)
        have XE := hid (XE9.out.later BD.out)
        have NV := hid ND.out
        have NU := hid (NU9.out.later BD.out)
        have NE := hid (NE9.out.later BD.out)
        have BW := hid (below_up B9.out BD.out)
        clear XD ND BD XU9 XE9 NU9 NE9 B9 XB9 HG CF3 hfr2
        have d0 := XE.out.dig
        have d1 := XE.out.sgn
        have u0 := XU.out.dig
        have u1 := XU.out.sgn
        have v0 := XV.out.dig
        have v1 := XV.out.sgn
        go_wp2_with fail
        refine (CB1.out _ _ _ NU.out NE.out).mono ?_
        rintro e y1 ⟨rfl, b3⟩
        replace XE := hid (XE.out.later b3)
        replace XU := hid (XU.out.later b3)
        replace XV := hid (XV.out.later b3)
        replace NE := hid (NE.out.later b3)
        replace NU := hid (NU.out.later b3)
        replace NV := hid (NV.out.later b3)
        replace BW := hid (below_up BW.out b3)
        clear b3 d0 d1 u0 u1 v0 v1
        have d0 := XE.out.dig
        have d1 := XE.out.sgn
        have u0 := XU.out.dig
        have u1 := XU.out.sgn
        have v0 := XV.out.dig
        have v1 := XV.out.sgn
        go_wp2_with fail
        refine (CB2.out _ _ _ NV.out NE.out).mono ?_
        rintro e y2 ⟨rfl, b3⟩
        replace XE := hid (XE.out.later b3)
        replace XU := hid (XU.out.later b3)
        replace XV := hid (XV.out.later b3)
        replace NE := hid (NE.out.later b3)
        replace NU := hid (NU.out.later b3)
        replace NV := hid (NV.out.later b3)
        replace BW := hid (below_up BW.out b3)
        clear b3 d0 d1 u0 u1 v0 v1
        have d0 := XE.out.dig
        have d1 := XE.out.sgn
        have u0 := XU.out.dig
        have u1 := XU.out.sgn
        have v0 := XV.out.dig
        have v1 := XV.out.sgn
        go_wp2_with fail
        refine (CB3.out _ _ _ NE.out NU.out).mono ?_
        rintro e y3 ⟨rfl, b3⟩
        replace XE := hid (XE.out.later b3)
        replace XU := hid (XU.out.later b3)
        replace XV := hid (XV.out.later b3)
        replace NE := hid (NE.out.later b3)
        replace NU := hid (NU.out.later b3)
        replace NV := hid (NV.out.later b3)
        replace BW := hid (below_up BW.out b3)
        clear b3 d0 d1 u0 u1 v0 v1
        have d0 := XE.out.dig
        have d1 := XE.out.sgn
        have u0 := XU.out.dig
        have u1 := XU.out.sgn
        have v0 := XV.out.dig
        have v1 := XV.out.sgn
        rcases HT.out with ⟨rfl, rfl⟩ | ⟨rfl, he⟩ | ⟨rfl, rfl, he⟩
        · clear HT
          go_wp2_with fail
          refine (CB4.out _ _ _ NE.out NV.out).mono ?_
          rintro e y4 ⟨rfl, b3⟩
          replace XE := hid (XE.out.later b3)
          replace XU := hid (XU.out.later b3)
          replace XV := hid (XV.out.later b3)
          replace NE := hid (NE.out.later b3)
          replace NU := hid (NU.out.later b3)
          replace NV := hid (NV.out.later b3)
          replace BW := hid (below_up BW.out b3)
          clear b3 d0 d1 u0 u1 v0 v1
          go_wp2_with fail
          go_ret
          exact ⟨rfl, BW.out⟩
        · clear HT
          go_wp2_with fail
          go_ret
          exact ⟨rfl, BW.out⟩
        · clear HT
          go_wp2_with fail
          refine (CB4.out _ _ _ NE.out NV.out).mono ?_
          rintro e y4 ⟨rfl, b3⟩
          replace XE := hid (XE.out.later b3)
          replace XU := hid (XU.out.later b3)
          replace XV := hid (XV.out.later b3)
          replace NE := hid (NE.out.later b3)
          replace NU := hid (NU.out.later b3)
          replace NV := hid (NV.out.later b3)
          replace BW := hid (below_up BW.out b3)
          clear b3 d0 d1 u0 u1 v0 v1
          go_wp2_with fail
          go_ret
          exact ⟨rfl, BW.out⟩
end Go.Proofs.YtdfmaicmbnjilaaDoor
