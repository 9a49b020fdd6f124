/-
  WideAdds.
-/
import Derived.Test.YtlchcckhplclcaaDoorWRef13
import Derived.Test.YtlchcckhplclcaaDoorWKnown
import Derived.Deep.Cut
namespace Go.Proofs.YtlchcckhplclcaaDoor
open Go.RowKit Wd

theorem Bw.offN {w : World} {g b : Nat} {h l : Int} (k : Bw w g h l) (hne : g ≠ b) (u v : Value) : Bw (pt w b u v) g h l := k.far hne u v
theorem two_lim {a b : Int} (ha : Is a) (hb : Is b) : a.natAbs + b.natAbs < top24 := lim_top (by unfold Is at ha; omega) (by unfold Is at hb; omega)
theorem sum_bound {a b : Int} (ha : Is a) (hb : Is b) : (a + b).natAbs ≤ 340282366920938463463374607431768211456 := by unfold Is at ha hb; omega
theorem diff_bound {a b : Int} (ha : Is a) (hb : Is b) : (a - b).natAbs ≤ 340282366920938463463374607431768211456 := by unfold Is at ha hb; omega
set_option maxRecDepth 8000 in
set_option maxHeartbeats 8000000 in
theorem adds_walk (a b : Int) (ha : Is a) (hb : Is b) (w : World) (ht : Tb w) : Calls Tryd.prog 5 #[.agg #[.int .i64 (hi (a)), .int .u64 (lo (a))], .agg #[.int .i64 (hi (b)), .int .u64 (lo (b))]] w fun e w' => e = .returned (.bool true) ∧ Below w.heap.size w w' := by
  obtain ⟨sa, hsa⟩ : ∃ s, decide (a < 0) = s := ⟨_, rfl⟩
  obtain ⟨sb, hsb⟩ : ∃ s, decide (b < 0) = s := ⟨_, rfl⟩
  obtain ⟨sn, hsn⟩ : ∃ s, decide (-b < 0) = s := ⟨_, rfl⟩
  obtain ⟨sp, hsp⟩ : ∃ s, decide (a + b < 0) = s := ⟨_, rfl⟩
  obtain ⟨sm, hsm⟩ : ∃ s, decide (a - b < 0) = s := ⟨_, rfl⟩
  have CNa := hid (cNum a sa ha hsa)
  have CNb := hid (cNum b sb hb hsb)
  have CP := hid (cPlus a b (a + b) sa sb sp rfl hsa hsb hsp (two_lim ha hb))
  have CM := hid (cPlus a (-b) (a - b) sa sn sm (by omega) hsa hsn hsm (by have := two_lim ha hb; omega))
  have CT := hid (cTurned b (-b) sb sn rfl hsb hsn)
  have COp := hid (lOf (a + b) sp hsp (sum_bound ha hb))
  have COm := hid (lOf (a - b) sm hsm (diff_bound ha hb))
  have CWp := hid (plus_any a b)
  have CWm := hid (minus_any a b)
  have CWc := hid (cmp_any a b ha hb)
  have CB1 := hid (fun u hu => cBelow a b sa sb u hsa hsb hu)
  have CB2 := hid (fun u hu => cBelow b a sb sa u hsb hsa hu)
  have HT := hid ht
  clear hsa hsb hsn hsp hsm ht ha hb
  generalize hi (a + b) = HP at *
  generalize lo (a + b) = LP at *
  generalize hi (a - b) = HM at *
  generalize lo (a - b) = LM at *
  generalize hi a = H1 at *
  generalize lo a = L1 at *
  generalize hi b = H2 at *
  generalize lo b = L2 at *
  obtain ⟨w1, hw1⟩ : ∃ w1, w.alloc (.cells #[.int .i64 H1, .int .u64 L1] 27) = w1 := ⟨_, rfl⟩
  obtain ⟨w2, hw2⟩ : ∃ w2, w1.alloc (.cells #[.int .i64 H2, .int .u64 L2] 27) = w2 := ⟨_, rfl⟩
  have b1 : Below w.heap.size w w1 := by rw [← hw1]; exact below_new _ _
  have b2 : Below w1.heap.size w1 w2 := by rw [← hw2]; exact below_new _ _
  have A2 : Hid (Bw w2 w.heap.size H1 L1) := Bw.later (by rw [← hw1]; exact Bw.new _ _ _) b2
  have E2 : Hid (Bw w2 w1.heap.size H2 L2) := by rw [← hw2]; exact Bw.new _ _ _
  have B2 := hid (below_up b1 b2)
  have c0 := A2.out.hi
  have c1 := A2.out.lo
  have c2 := E2.out.hi
  have c3 := E2.out.lo
  clear b1 b2
  go_enter Tryd.func5, Tryd.ntmps5
  go_wp2_with fail
  refine (CNa.out _).mono ?_
  rintro e w3 ⟨gx, rfl, -, N3, b3⟩
  obtain ⟨w4, hw4⟩ : ∃ w4, w3.alloc (.cells #[.slice none 0 0, .bool false] 38) = w4 := ⟨_, rfl⟩
  have b4 : Below w3.heap.size w3 w4 := by rw [← hw4]; exact below_new _ _
  have Z4 : Bn w4 w3.heap.size (.slice none 0 0) false := by rw [← hw4]; exact Bn.new _ _ _
  have z0 := Z4.dig
  have z1 := Z4.sgn
  have f0 := Z4.frz 0
  have f1 := Z4.frz 1
  have b34 := below_up b3 b4
  have l2 := A2.out.lt
  have l3 := E2.out.lt
  have A5 := hid ((A2.out.later b34).offN (b := w3.heap.size) (by have := b3.size; omega) (.slice (some ⟨gx, 0, none⟩) 24 24) (.bool sa))
  have E5 := hid ((E2.out.later b34).offN (b := w3.heap.size) (by have := b3.size; omega) (.slice (some ⟨gx, 0, none⟩) 24 24) (.bool sa))
  have X5 := hid (Z4.pt (.slice (some ⟨gx, 0, none⟩) 24 24) sa)
  have M5 := hid ((N3.later b4).off Z4 (.slice (some ⟨gx, 0, none⟩) 24 24) (.bool sa))
  have B5 := hid (below_pt (below_up B2.out b34) (Nat.le_trans B2.out.size b3.size) (.slice (some ⟨gx, 0, none⟩) 24 24) (.bool sa))
  unfold pt at A5 E5 X5 M5 B5
  clear Z4 b3 b4 b34 N3 A2 E2 B2 c0 c1 c2 c3 l2 l3 hw1 hw2
  go_upto_region 2 with fail
  generalize World.setCell _ _ _ = w5 at *
  generalize w3.heap.size = bX at *
  generalize w1.heap.size = bE at *
  clear z0 z1 f0 f1 hw4
  have c2 := E5.out.hi
  have c3 := E5.out.lo
  go_wp2_with fail
  refine (CNb.out _).mono ?_
  rintro e w6 ⟨gy, rfl, -, N6, b6⟩
  obtain ⟨w7, hw7⟩ : ∃ w7, w6.alloc (.cells #[.slice none 0 0, .bool false] 38) = w7 := ⟨_, rfl⟩
  have b7 : Below w6.heap.size w6 w7 := by rw [← hw7]; exact below_new _ _
  have Z7 : Bn w7 w6.heap.size (.slice none 0 0) false := by rw [← hw7]; exact Bn.new _ _ _
  have z0 := Z7.dig
  have z1 := Z7.sgn
  have f0 := Z7.frz 0
  have f1 := Z7.frz 1
  have b67 := below_up b6 b7
  have l2 := A5.out.lt
  have l3 := E5.out.lt
  have l4 := X5.out.lt
  have A8 := hid ((A5.out.later b67).offN (b := w6.heap.size) (by have := b6.size; omega) (.slice (some ⟨gy, 0, none⟩) 24 24) (.bool sb))
  have E8 := hid ((E5.out.later b67).offN (b := w6.heap.size) (by have := b6.size; omega) (.slice (some ⟨gy, 0, none⟩) 24 24) (.bool sb))
  have X8 := hid ((X5.out.later b67).off Z7 (by have := b6.size; omega) (.slice (some ⟨gy, 0, none⟩) 24 24) (.bool sb))
  have M8 := hid ((M5.out.later b67).off Z7 (.slice (some ⟨gy, 0, none⟩) 24 24) (.bool sb))
  have Y8 := hid (Z7.pt (.slice (some ⟨gy, 0, none⟩) 24 24) sb)
  have N8 := hid ((N6.later b7).off Z7 (.slice (some ⟨gy, 0, none⟩) 24 24) (.bool sb))
  have B8 := hid (below_pt (below_up B5.out b67) (Nat.le_trans B5.out.size b6.size) (.slice (some ⟨gy, 0, none⟩) 24 24) (.bool sb))
  unfold pt at A8 E8 X8 M8 Y8 N8 B8
  clear Z7 b6 b7 b67 N6 A5 E5 X5 M5 B5 c2 c3 l2 l3 l4
  go_upto_region 3 with fail
  generalize World.setCell _ _ _ = w8 at *
  generalize w6.heap.size = bY at *
  clear z0 z1 f0 f1 hw7
  have c4 := X8.out.dig
  have c5 := X8.out.sgn
  have c6 := Y8.out.dig
  have c7 := Y8.out.sgn
  go_wp2_with fail
  refine (CP.out _ _ _ M8.out N8.out).mono ?_
  rintro e w9 ⟨gp, rfl, -, N9, b9⟩
  have HN9 := hid N9
  have b9' := hid b9
  clear N9 b9
  go_wp2_with fail
  refine (COp.out _ _ HN9.out).mono ?_
  rintro e w10 ⟨rfl, b10⟩
  obtain ⟨w11, hw11⟩ : ∃ w11, w10.alloc (.cells #[.int .i64 HP, .int .u64 LP] 27) = w11 := ⟨_, rfl⟩
  have b11 : Below w10.heap.size w10 w11 := by rw [← hw11]; exact below_new _ _
  have bb := below_up b9'.out (below_up b10 b11)
  have P11 : Hid (Bw w11 w10.heap.size HP LP) := by rw [← hw11]; exact Bw.new _ _ _
  have A11 := hid (A8.out.later bb)
  have E11 := hid (E8.out.later bb)
  have X11 := hid (X8.out.later bb)
  have M11 := hid (M8.out.later bb)
  have Y11 := hid (Y8.out.later bb)
  have N11 := hid (N8.out.later bb)
  have B11 := hid (below_up B8.out bb)
  clear b10 b11 bb b9' HN9 c4 c5 c6 c7 A8 E8 X8 M8 Y8 N8 B8
  go_upto_region 4 with fail
  clear hw11
  generalize w10.heap.size = bP at *
  refine wp_region_noPanic ?_
  refine wp_region_held_drew (S := fun W => Below w11.heap.size w11 W) (by kernel_rfl) ((Below.refl _ _).drew) (fun hHeld0 => ?_)
  refine wpAnyH_take (i := 0) (oi := { dst := some 18, op := Op.load 38 (Operand.tmp 5), type := 38, pos := "law.go:24", after := #[], guard := none }) (v := ?_) rfl (by kernel_rfl) (by kernel_rfl) (by kernel_rfl) (fun _ _ _ h => h) (Or.inl ⟨by rfl, ?_⟩) (by assumption) ?_
  rotate_left
  · intro W hSw
    try dsimp only at hSw
    have q0 := (X11.out.later hSw).dig; have q1 := (X11.out.later hSw).sgn
    go_simp
    try with_reducible rfl
  try simp only [Act.put, List.setIfInBounds_toArray, List.set_cons_zero, List.set_cons_succ]
  refine wpAnyH_take (i := 1) (oi := { dst := some 19, op := Op.load 38 (Operand.tmp 6), type := 38, pos := "law.go:24", after := #[], guard := none }) (v := ?_) rfl (by kernel_rfl) (by kernel_rfl) (by kernel_rfl) (fun _ _ _ h => h) (Or.inl ⟨by rfl, ?_⟩) (by assumption) ?_
  rotate_left
  · intro W hSw
    try dsimp only at hSw
    have q0 := (Y11.out.later hSw).dig; have q1 := (Y11.out.later hSw).sgn
    go_simp
    try with_reducible rfl
  try simp only [Act.put, List.setIfInBounds_toArray, List.set_cons_zero, List.set_cons_succ]
  refine wpAnyH_ready (rs := [2, 5]) (by kernel_rfl) (by simp) ?_
  refine AllReadyH.cons (o := { dst := some 20, op := Op.call { callee := Callee.value (Operand.func 20), args := #[Operand.tmp 19], argTypes := #[38] }, type := 38, pos := "law.go:24", after := #[{ on := 1, ground := Ground.data }], guard := none }) rfl (fun K hK => ?_) (AllReadyH.cons (o := { dst := some 8, op := Op.alloc 27, type := 0, pos := "law.go:24", after := #[], guard := none }) rfl (fun K hK => ?_) AllReadyH.nil)
  · rw [if_pos (by rfl)]
    go_simp
    refine (CT.out _ _ (N11.out.later hHeld0)).mono ?_
    rintro e v1 ⟨rfl, -, bn⟩
    refine hK.out _ _ (below_up hHeld0 bn) (fun hHeld1 => ?_)
    clear hK K hHeld0 bn
    try simp only [Act.put, List.setIfInBounds_toArray, List.set_cons_zero, List.set_cons_succ]
    refine wpAnyH_ready (rs := [3, 5]) (by kernel_rfl) (by simp) ?_
    refine AllReadyH.cons (o := { dst := some 21, op := Op.call { callee := Callee.value (Operand.func 19), args := #[Operand.tmp 18, Operand.tmp 20], argTypes := #[38, 38] }, type := 38, pos := "law.go:24", after := #[{ on := 0, ground := Ground.data }, { on := 2, ground := Ground.data }, { on := 2, ground := Ground.chain }], guard := none }) rfl (fun K hK => ?_) (AllReadyH.cons (o := { dst := some 8, op := Op.alloc 27, type := 0, pos := "law.go:24", after := #[], guard := none }) rfl (fun K hK => ?_) AllReadyH.nil)
    · rw [if_pos (by rfl)]
      go_simp
      refine (CM.out _ _ _ (M11.out.later hHeld1) ((N11.out.later hHeld1).turn rfl)).mono ?_
      rintro e v2 ⟨gm, rfl, -, NM, bn⟩
      have HNP := hid NM
      clear NM
      refine hK.out _ _ (below_up hHeld1 bn) (fun hHeld2 => ?_)
      clear hK K hHeld1 bn
      try simp only [Act.put, List.setIfInBounds_toArray, List.set_cons_zero, List.set_cons_succ]
      refine wpAnyH_ready (rs := [4, 5]) (by kernel_rfl) (by simp) ?_
      refine AllReadyH.cons (o := { dst := some 22, op := Op.call { callee := Callee.value (Operand.func 18), args := #[Operand.tmp 21], argTypes := #[38] }, type := 27, pos := "law.go:24", after := #[{ on := 3, ground := Ground.data }, { on := 3, ground := Ground.chain }], guard := none }) rfl (fun K hK => ?_) (AllReadyH.cons (o := { dst := some 8, op := Op.alloc 27, type := 0, pos := "law.go:24", after := #[], guard := none }) rfl (fun K hK => ?_) AllReadyH.nil)
      · rw [if_pos (by rfl)]
        go_simp
        refine (COm.out _ _ HNP.out).mono ?_
        rintro e v3 ⟨rfl, bn⟩
        refine hK.out _ _ (below_up hHeld2 bn) (fun hHeld3 => ?_)
        clear hK K hHeld2 bn HNP
        try simp only [Act.put, List.setIfInBounds_toArray, List.set_cons_zero, List.set_cons_succ]
        refine wpAnyH_ready (rs := [5]) (by kernel_rfl) (by simp) ?_
        refine AllReadyH.cons (o := { dst := some 8, op := Op.alloc 27, type := 0, pos := "law.go:24", after := #[], guard := none }) rfl (fun K hK => ?_) AllReadyH.nil
        rw [if_pos (by rfl)]
        go_simp
        generalize hwn : World.alloc _ (.cells #[.int .i64 0, .int .u64 0] 27) = v4
        have bn : Below (v3).heap.size (v3) v4 := by rw [← hwn]; exact below_new _ _
        have HD : Hid (Bw v4 (v3).heap.size 0 0) := by rw [← hwn]; exact Bw.new _ _ _
        have HG : Hid (w11.heap.size ≤ (v3).heap.size) := hHeld3.size
        refine hK.out _ _ (below_up hHeld3 bn) (fun hHeld4 => ?_)
        clear hK K hwn hHeld3
        clear bn
        try simp only [Act.put, List.setIfInBounds_toArray, List.set_cons_zero, List.set_cons_succ]
        generalize v3.heap.size = b84 at *
        refine wpAnyH_ready (rs := [6]) (by kernel_rfl) (by simp) ?_
        refine AllReadyH.cons (o := { dst := none, op := Op.store 27 (Operand.tmp 8) (Operand.tmp 22), type := 0, pos := "law.go:24", after := #[{ on := 5, ground := Ground.data }, { on := 4, ground := Ground.data }, { on := 4, ground := Ground.chain }, { on := 0, ground := Ground.phase }, { on := 1, ground := Ground.phase }, { on := 2, ground := Ground.phase }, { on := 3, ground := Ground.phase }, { on := 4, ground := Ground.phase }, { on := 5, ground := Ground.phase }], guard := none }) rfl (fun K hK => ?_) AllReadyH.nil
        rw [if_pos (by rfl)]
        have s0 := HD.out.hi
        have s1 := HD.out.lo
        have s2 := HD.out.frz 0
        have s3 := HD.out.frz 1
        have D12 := hid (HD.out.put HM LM)
        go_simp
        refine hK.out _ _ (below_put hHeld4 HG.out (.int .i64 HM) (.int .u64 LM)) (fun hHeld5 => ?_)
        clear hK K hHeld4 s0 s1 s2 s3 HD
        try simp only [Act.put, List.setIfInBounds_toArray, List.set_cons_zero, List.set_cons_succ]
        refine wpAnyH_done (by kernel_rfl) ?_ _
        refine NoPanic.normal ?_
        generalize World.setCell _ _ _ = w12 at *
        have A12 := hid (A11.out.later hHeld5)
        have E12 := hid (E11.out.later hHeld5)
        have X12 := hid (X11.out.later hHeld5)
        have M12 := hid (M11.out.later hHeld5)
        have Y12 := hid (Y11.out.later hHeld5)
        have N12 := hid (N11.out.later hHeld5)
        have P12 := hid (P11.out.later hHeld5)
        have B12 := hid (below_up B11.out hHeld5)
        clear hHeld5
        rename World => w12
        have d0 := X12.out.dig
        have d1 := X12.out.sgn
        have d2 := Y12.out.dig
        have d3 := Y12.out.sgn
        rcases (by omega : a < b ∨ b < a ∨ (¬ a < b ∧ ¬ b < a)) with hc | hc | hc
        · rw [show cmpI a b = -1 by unfold cmpI; rw [if_pos hc]] at CWc
          have C1 := hid (CB1.out true (decide_eq_true hc) gx gy w12 M12.out N12.out)
          clear hc CB1 CB2
          go_wp2_with fail
          refine C1.out.mono ?_
          rintro e w13 ⟨rfl, b13⟩
          have BK := hid b13
          clear b13 d0 d1 d2 d3
          have p0 : ∀ W, Below w13.heap.size w13 W → W.cell? ⟨w.heap.size, 0, none⟩ = some (.int .i64 H1) := fun W h => ((A12.out.later BK.out).later h).hi
          have p1 : ∀ W, Below w13.heap.size w13 W → W.cell? ⟨w.heap.size, 1, none⟩ = some (.int .u64 L1) := fun W h => ((A12.out.later BK.out).later h).lo
          have p2 : ∀ W, Below w13.heap.size w13 W → W.cell? ⟨bE, 0, none⟩ = some (.int .i64 H2) := fun W h => ((E12.out.later BK.out).later h).hi
          have p3 : ∀ W, Below w13.heap.size w13 W → W.cell? ⟨bE, 1, none⟩ = some (.int .u64 L2) := fun W h => ((E12.out.later BK.out).later h).lo
          have p4 : ∀ W, Below w13.heap.size w13 W → W.cell? ⟨bP, 0, none⟩ = some (.int .i64 HP) := fun W h => ((P12.out.later BK.out).later h).hi
          have p5 : ∀ W, Below w13.heap.size w13 W → W.cell? ⟨bP, 1, none⟩ = some (.int .u64 LP) := fun W h => ((P12.out.later BK.out).later h).lo
          have p6 : ∀ W, Below w13.heap.size w13 W → W.cell? ⟨b84, 0, none⟩ = some (.int .i64 HM) := fun W h => ((D12.out.later BK.out).later h).hi
          have p7 : ∀ W, Below w13.heap.size w13 W → W.cell? ⟨b84, 1, none⟩ = some (.int .u64 LM) := fun W h => ((D12.out.later BK.out).later h).lo
          have BZ := hid (below_up B12.out BK.out)
          clear A12 E12 P12 D12 X12 Y12 M12 N12 B12 BK
          go_wp2_with fail
          go_region_held3 (fun W => Below w13.heap.size w13 W) (first | assumption | exact (Below.refl _ _).drew | exact Below.drew (by assumption) | exact below_up (by assumption) (by assumption)) ((first | (go_at_call 11; refine (CWp.out _).mono ?_; rintro e w' ⟨rfl, hb⟩) | (go_at_call 21; refine (CWm.out _).mono ?_; rintro e w' ⟨rfl, hb⟩) | (go_at_call 22; refine (CWc.out _).mono ?_; rintro e w' ⟨rfl, hb⟩) | (go_at_call 8; refine (known_any _ (HT.out.later (below_up BZ.out (by assumption)))).mono ?_; rintro e w' ⟨rfl, hb⟩)))
          rename World => wZ
          have bZ : Below w13.heap.size w13 wZ := by assumption
          go_wp2_with fail
          go_ret
          exact ⟨rfl, below_up BZ.out bZ⟩
        · rw [show cmpI a b = 1 by unfold cmpI; rw [if_neg (by omega), if_neg (by omega)]] at CWc
          have C1 := hid (CB1.out false (decide_eq_false (by omega)) gx gy w12 M12.out N12.out)
          have C2 := hid (fun W hM hN => CB2.out true (decide_eq_true hc) gy gx W hN hM)
          clear hc CB1 CB2
          go_wp2_with fail
          refine C1.out.mono ?_
          rintro e w13 ⟨rfl, b13⟩
          have X13 := X12.out.later b13
          have Y13 := Y12.out.later b13
          have e0 := X13.dig
          have e1 := X13.sgn
          have e2 := Y13.dig
          have e3 := Y13.sgn
          have C3 := hid (C2.out w13 (M12.out.later b13) (N12.out.later b13))
          have b13' := hid b13
          clear X13 Y13 b13 d0 d1 d2 d3
          go_wp2_with fail
          refine C3.out.mono ?_
          rintro e w14 ⟨rfl, b14⟩
          have BK := hid (below_up b13'.out b14)
          clear b14 e0 e1 e2 e3
          have p0 : ∀ W, Below w14.heap.size w14 W → W.cell? ⟨w.heap.size, 0, none⟩ = some (.int .i64 H1) := fun W h => ((A12.out.later BK.out).later h).hi
          have p1 : ∀ W, Below w14.heap.size w14 W → W.cell? ⟨w.heap.size, 1, none⟩ = some (.int .u64 L1) := fun W h => ((A12.out.later BK.out).later h).lo
          have p2 : ∀ W, Below w14.heap.size w14 W → W.cell? ⟨bE, 0, none⟩ = some (.int .i64 H2) := fun W h => ((E12.out.later BK.out).later h).hi
          have p3 : ∀ W, Below w14.heap.size w14 W → W.cell? ⟨bE, 1, none⟩ = some (.int .u64 L2) := fun W h => ((E12.out.later BK.out).later h).lo
          have p4 : ∀ W, Below w14.heap.size w14 W → W.cell? ⟨bP, 0, none⟩ = some (.int .i64 HP) := fun W h => ((P12.out.later BK.out).later h).hi
          have p5 : ∀ W, Below w14.heap.size w14 W → W.cell? ⟨bP, 1, none⟩ = some (.int .u64 LP) := fun W h => ((P12.out.later BK.out).later h).lo
          have p6 : ∀ W, Below w14.heap.size w14 W → W.cell? ⟨b84, 0, none⟩ = some (.int .i64 HM) := fun W h => ((D12.out.later BK.out).later h).hi
          have p7 : ∀ W, Below w14.heap.size w14 W → W.cell? ⟨b84, 1, none⟩ = some (.int .u64 LM) := fun W h => ((D12.out.later BK.out).later h).lo
          have BZ := hid (below_up B12.out BK.out)
          clear A12 E12 P12 D12 X12 Y12 M12 N12 B12 BK
          go_wp2_with fail
          go_region_held3 (fun W => Below w14.heap.size w14 W) (first | assumption | exact (Below.refl _ _).drew | exact Below.drew (by assumption) | exact below_up (by assumption) (by assumption)) ((first | (go_at_call 11; refine (CWp.out _).mono ?_; rintro e w' ⟨rfl, hb⟩) | (go_at_call 21; refine (CWm.out _).mono ?_; rintro e w' ⟨rfl, hb⟩) | (go_at_call 22; refine (CWc.out _).mono ?_; rintro e w' ⟨rfl, hb⟩) | (go_at_call 8; refine (known_any _ (HT.out.later (below_up BZ.out (by assumption)))).mono ?_; rintro e w' ⟨rfl, hb⟩)))
          rename World => wZ
          have bZ : Below w14.heap.size w14 wZ := by assumption
          go_wp2_with fail
          go_ret
          exact ⟨rfl, below_up BZ.out bZ⟩
        · rw [show cmpI a b = 0 by unfold cmpI; rw [if_neg hc.1, if_pos (by omega)]] at CWc
          have C1 := hid (CB1.out false (decide_eq_false hc.1) gx gy w12 M12.out N12.out)
          have C2 := hid (fun W hM hN => CB2.out false (decide_eq_false hc.2) gy gx W hN hM)
          clear hc CB1 CB2
          go_wp2_with fail
          refine C1.out.mono ?_
          rintro e w13 ⟨rfl, b13⟩
          have X13 := X12.out.later b13
          have Y13 := Y12.out.later b13
          have e0 := X13.dig
          have e1 := X13.sgn
          have e2 := Y13.dig
          have e3 := Y13.sgn
          have C3 := hid (C2.out w13 (M12.out.later b13) (N12.out.later b13))
          have b13' := hid b13
          clear X13 Y13 b13 d0 d1 d2 d3
          go_wp2_with fail
          refine C3.out.mono ?_
          rintro e w14 ⟨rfl, b14⟩
          have BK := hid (below_up b13'.out b14)
          clear b14 e0 e1 e2 e3
          have p0 : ∀ W, Below w14.heap.size w14 W → W.cell? ⟨w.heap.size, 0, none⟩ = some (.int .i64 H1) := fun W h => ((A12.out.later BK.out).later h).hi
          have p1 : ∀ W, Below w14.heap.size w14 W → W.cell? ⟨w.heap.size, 1, none⟩ = some (.int .u64 L1) := fun W h => ((A12.out.later BK.out).later h).lo
          have p2 : ∀ W, Below w14.heap.size w14 W → W.cell? ⟨bE, 0, none⟩ = some (.int .i64 H2) := fun W h => ((E12.out.later BK.out).later h).hi
          have p3 : ∀ W, Below w14.heap.size w14 W → W.cell? ⟨bE, 1, none⟩ = some (.int .u64 L2) := fun W h => ((E12.out.later BK.out).later h).lo
          have p4 : ∀ W, Below w14.heap.size w14 W → W.cell? ⟨bP, 0, none⟩ = some (.int .i64 HP) := fun W h => ((P12.out.later BK.out).later h).hi
          have p5 : ∀ W, Below w14.heap.size w14 W → W.cell? ⟨bP, 1, none⟩ = some (.int .u64 LP) := fun W h => ((P12.out.later BK.out).later h).lo
          have p6 : ∀ W, Below w14.heap.size w14 W → W.cell? ⟨b84, 0, none⟩ = some (.int .i64 HM) := fun W h => ((D12.out.later BK.out).later h).hi
          have p7 : ∀ W, Below w14.heap.size w14 W → W.cell? ⟨b84, 1, none⟩ = some (.int .u64 LM) := fun W h => ((D12.out.later BK.out).later h).lo
          have BZ := hid (below_up B12.out BK.out)
          clear A12 E12 P12 D12 X12 Y12 M12 N12 B12 BK
          go_wp2_with fail
          go_region_held3 (fun W => Below w14.heap.size w14 W) (first | assumption | exact (Below.refl _ _).drew | exact Below.drew (by assumption) | exact below_up (by assumption) (by assumption)) ((first | (go_at_call 11; refine (CWp.out _).mono ?_; rintro e w' ⟨rfl, hb⟩) | (go_at_call 21; refine (CWm.out _).mono ?_; rintro e w' ⟨rfl, hb⟩) | (go_at_call 22; refine (CWc.out _).mono ?_; rintro e w' ⟨rfl, hb⟩) | (go_at_call 8; refine (known_any _ (HT.out.later (below_up BZ.out (by assumption)))).mono ?_; rintro e w' ⟨rfl, hb⟩)))
          rename World => wZ
          have bZ : Below w14.heap.size w14 wZ := by assumption
          go_wp2_with fail
          go_ret
          exact ⟨rfl, below_up BZ.out bZ⟩
      · rw [if_pos (by rfl)]
        go_simp
        generalize hwn : World.alloc _ (.cells #[.int .i64 0, .int .u64 0] 27) = v5
        have bn : Below (v2).heap.size (v2) v5 := by rw [← hwn]; exact below_new _ _
        have HD : Hid (Bw v5 (v2).heap.size 0 0) := by rw [← hwn]; exact Bw.new _ _ _
        have HG : Hid (w11.heap.size ≤ (v2).heap.size) := hHeld2.size
        refine hK.out _ _ (below_up hHeld2 bn) (fun hHeld3 => ?_)
        clear hK K hwn hHeld2
        replace HNP := hid (HNP.out.later bn)
        clear bn
        try simp only [Act.put, List.setIfInBounds_toArray, List.set_cons_zero, List.set_cons_succ]
        generalize v2.heap.size = b85 at *
        refine wpAnyH_ready (rs := [4]) (by kernel_rfl) (by simp) ?_
        refine AllReadyH.cons (o := { dst := some 22, op := Op.call { callee := Callee.value (Operand.func 18), args := #[Operand.tmp 21], argTypes := #[38] }, type := 27, pos := "law.go:24", after := #[{ on := 3, ground := Ground.data }, { on := 3, ground := Ground.chain }], guard := none }) rfl (fun K hK => ?_) AllReadyH.nil
        rw [if_pos (by rfl)]
        go_simp
        refine (COm.out _ _ HNP.out).mono ?_
        rintro e v6 ⟨rfl, bn⟩
        replace HD := hid (HD.out.later bn)
        refine hK.out _ _ (below_up hHeld3 bn) (fun hHeld4 => ?_)
        clear hK K hHeld3 bn HNP
        try simp only [Act.put, List.setIfInBounds_toArray, List.set_cons_zero, List.set_cons_succ]
        refine wpAnyH_ready (rs := [6]) (by kernel_rfl) (by simp) ?_
        refine AllReadyH.cons (o := { dst := none, op := Op.store 27 (Operand.tmp 8) (Operand.tmp 22), type := 0, pos := "law.go:24", after := #[{ on := 5, ground := Ground.data }, { on := 4, ground := Ground.data }, { on := 4, ground := Ground.chain }, { on := 0, ground := Ground.phase }, { on := 1, ground := Ground.phase }, { on := 2, ground := Ground.phase }, { on := 3, ground := Ground.phase }, { on := 4, ground := Ground.phase }, { on := 5, ground := Ground.phase }], guard := none }) rfl (fun K hK => ?_) AllReadyH.nil
        rw [if_pos (by rfl)]
        have s0 := HD.out.hi
        have s1 := HD.out.lo
        have s2 := HD.out.frz 0
        have s3 := HD.out.frz 1
        have D12 := hid (HD.out.put HM LM)
        go_simp
        refine hK.out _ _ (below_put hHeld4 HG.out (.int .i64 HM) (.int .u64 LM)) (fun hHeld5 => ?_)
        clear hK K hHeld4 s0 s1 s2 s3 HD
        try simp only [Act.put, List.setIfInBounds_toArray, List.set_cons_zero, List.set_cons_succ]
        refine wpAnyH_done (by kernel_rfl) ?_ _
        refine NoPanic.normal ?_
        generalize World.setCell _ _ _ = w12 at *
        have A12 := hid (A11.out.later hHeld5)
        have E12 := hid (E11.out.later hHeld5)
        have X12 := hid (X11.out.later hHeld5)
        have M12 := hid (M11.out.later hHeld5)
        have Y12 := hid (Y11.out.later hHeld5)
        have N12 := hid (N11.out.later hHeld5)
        have P12 := hid (P11.out.later hHeld5)
        have B12 := hid (below_up B11.out hHeld5)
        clear hHeld5
        rename World => w12
        have d0 := X12.out.dig
        have d1 := X12.out.sgn
        have d2 := Y12.out.dig
        have d3 := Y12.out.sgn
        rcases (by omega : a < b ∨ b < a ∨ (¬ a < b ∧ ¬ b < a)) with hc | hc | hc
        · rw [show cmpI a b = -1 by unfold cmpI; rw [if_pos hc]] at CWc
          have C1 := hid (CB1.out true (decide_eq_true hc) gx gy w12 M12.out N12.out)
          clear hc CB1 CB2
          go_wp2_with fail
          refine C1.out.mono ?_
          rintro e w13 ⟨rfl, b13⟩
          have BK := hid b13
          clear b13 d0 d1 d2 d3
          have p0 : ∀ W, Below w13.heap.size w13 W → W.cell? ⟨w.heap.size, 0, none⟩ = some (.int .i64 H1) := fun W h => ((A12.out.later BK.out).later h).hi
          have p1 : ∀ W, Below w13.heap.size w13 W → W.cell? ⟨w.heap.size, 1, none⟩ = some (.int .u64 L1) := fun W h => ((A12.out.later BK.out).later h).lo
          have p2 : ∀ W, Below w13.heap.size w13 W → W.cell? ⟨bE, 0, none⟩ = some (.int .i64 H2) := fun W h => ((E12.out.later BK.out).later h).hi
          have p3 : ∀ W, Below w13.heap.size w13 W → W.cell? ⟨bE, 1, none⟩ = some (.int .u64 L2) := fun W h => ((E12.out.later BK.out).later h).lo
          have p4 : ∀ W, Below w13.heap.size w13 W → W.cell? ⟨bP, 0, none⟩ = some (.int .i64 HP) := fun W h => ((P12.out.later BK.out).later h).hi
          have p5 : ∀ W, Below w13.heap.size w13 W → W.cell? ⟨bP, 1, none⟩ = some (.int .u64 LP) := fun W h => ((P12.out.later BK.out).later h).lo
          have p6 : ∀ W, Below w13.heap.size w13 W → W.cell? ⟨b85, 0, none⟩ = some (.int .i64 HM) := fun W h => ((D12.out.later BK.out).later h).hi
          have p7 : ∀ W, Below w13.heap.size w13 W → W.cell? ⟨b85, 1, none⟩ = some (.int .u64 LM) := fun W h => ((D12.out.later BK.out).later h).lo
          have BZ := hid (below_up B12.out BK.out)
          clear A12 E12 P12 D12 X12 Y12 M12 N12 B12 BK
          go_wp2_with fail
          go_region_held3 (fun W => Below w13.heap.size w13 W) (first | assumption | exact (Below.refl _ _).drew | exact Below.drew (by assumption) | exact below_up (by assumption) (by assumption)) ((first | (go_at_call 11; refine (CWp.out _).mono ?_; rintro e w' ⟨rfl, hb⟩) | (go_at_call 21; refine (CWm.out _).mono ?_; rintro e w' ⟨rfl, hb⟩) | (go_at_call 22; refine (CWc.out _).mono ?_; rintro e w' ⟨rfl, hb⟩) | (go_at_call 8; refine (known_any _ (HT.out.later (below_up BZ.out (by assumption)))).mono ?_; rintro e w' ⟨rfl, hb⟩)))
          rename World => wZ
          have bZ : Below w13.heap.size w13 wZ := by assumption
          go_wp2_with fail
          go_ret
          exact ⟨rfl, below_up BZ.out bZ⟩
        · rw [show cmpI a b = 1 by unfold cmpI; rw [if_neg (by omega), if_neg (by omega)]] at CWc
          have C1 := hid (CB1.out false (decide_eq_false (by omega)) gx gy w12 M12.out N12.out)
          have C2 := hid (fun W hM hN => CB2.out true (decide_eq_true hc) gy gx W hN hM)
          clear hc CB1 CB2
          go_wp2_with fail
          refine C1.out.mono ?_
          rintro e w13 ⟨rfl, b13⟩
          have X13 := X12.out.later b13
          have Y13 := Y12.out.later b13
          have e0 := X13.dig
          have e1 := X13.sgn
          have e2 := Y13.dig
          have e3 := Y13.sgn
          have C3 := hid (C2.out w13 (M12.out.later b13) (N12.out.later b13))
          have b13' := hid b13
          clear X13 Y13 b13 d0 d1 d2 d3
          go_wp2_with fail
          refine C3.out.mono ?_
          rintro e w14 ⟨rfl, b14⟩
          have BK := hid (below_up b13'.out b14)
          clear b14 e0 e1 e2 e3
          have p0 : ∀ W, Below w14.heap.size w14 W → W.cell? ⟨w.heap.size, 0, none⟩ = some (.int .i64 H1) := fun W h => ((A12.out.later BK.out).later h).hi
          have p1 : ∀ W, Below w14.heap.size w14 W → W.cell? ⟨w.heap.size, 1, none⟩ = some (.int .u64 L1) := fun W h => ((A12.out.later BK.out).later h).lo
          have p2 : ∀ W, Below w14.heap.size w14 W → W.cell? ⟨bE, 0, none⟩ = some (.int .i64 H2) := fun W h => ((E12.out.later BK.out).later h).hi
          have p3 : ∀ W, Below w14.heap.size w14 W → W.cell? ⟨bE, 1, none⟩ = some (.int .u64 L2) := fun W h => ((E12.out.later BK.out).later h).lo
          have p4 : ∀ W, Below w14.heap.size w14 W → W.cell? ⟨bP, 0, none⟩ = some (.int .i64 HP) := fun W h => ((P12.out.later BK.out).later h).hi
          have p5 : ∀ W, Below w14.heap.size w14 W → W.cell? ⟨bP, 1, none⟩ = some (.int .u64 LP) := fun W h => ((P12.out.later BK.out).later h).lo
          have p6 : ∀ W, Below w14.heap.size w14 W → W.cell? ⟨b85, 0, none⟩ = some (.int .i64 HM) := fun W h => ((D12.out.later BK.out).later h).hi
          have p7 : ∀ W, Below w14.heap.size w14 W → W.cell? ⟨b85, 1, none⟩ = some (.int .u64 LM) := fun W h => ((D12.out.later BK.out).later h).lo
          have BZ := hid (below_up B12.out BK.out)
          clear A12 E12 P12 D12 X12 Y12 M12 N12 B12 BK
          go_wp2_with fail
          go_region_held3 (fun W => Below w14.heap.size w14 W) (first | assumption | exact (Below.refl _ _).drew | exact Below.drew (by assumption) | exact below_up (by assumption) (by assumption)) ((first | (go_at_call 11; refine (CWp.out _).mono ?_; rintro e w' ⟨rfl, hb⟩) | (go_at_call 21; refine (CWm.out _).mono ?_; rintro e w' ⟨rfl, hb⟩) | (go_at_call 22; refine (CWc.out _).mono ?_; rintro e w' ⟨rfl, hb⟩) | (go_at_call 8; refine (known_any _ (HT.out.later (below_up BZ.out (by assumption)))).mono ?_; rintro e w' ⟨rfl, hb⟩)))
          rename World => wZ
          have bZ : Below w14.heap.size w14 wZ := by assumption
          go_wp2_with fail
          go_ret
          exact ⟨rfl, below_up BZ.out bZ⟩
        · rw [show cmpI a b = 0 by unfold cmpI; rw [if_neg hc.1, if_pos (by omega)]] at CWc
          have C1 := hid (CB1.out false (decide_eq_false hc.1) gx gy w12 M12.out N12.out)
          have C2 := hid (fun W hM hN => CB2.out false (decide_eq_false hc.2) gy gx W hN hM)
          clear hc CB1 CB2
          go_wp2_with fail
          refine C1.out.mono ?_
          rintro e w13 ⟨rfl, b13⟩
          have X13 := X12.out.later b13
          have Y13 := Y12.out.later b13
          have e0 := X13.dig
          have e1 := X13.sgn
          have e2 := Y13.dig
          have e3 := Y13.sgn
          have C3 := hid (C2.out w13 (M12.out.later b13) (N12.out.later b13))
          have b13' := hid b13
          clear X13 Y13 b13 d0 d1 d2 d3
          go_wp2_with fail
          refine C3.out.mono ?_
          rintro e w14 ⟨rfl, b14⟩
          have BK := hid (below_up b13'.out b14)
          clear b14 e0 e1 e2 e3
          have p0 : ∀ W, Below w14.heap.size w14 W → W.cell? ⟨w.heap.size, 0, none⟩ = some (.int .i64 H1) := fun W h => ((A12.out.later BK.out).later h).hi
          have p1 : ∀ W, Below w14.heap.size w14 W → W.cell? ⟨w.heap.size, 1, none⟩ = some (.int .u64 L1) := fun W h => ((A12.out.later BK.out).later h).lo
          have p2 : ∀ W, Below w14.heap.size w14 W → W.cell? ⟨bE, 0, none⟩ = some (.int .i64 H2) := fun W h => ((E12.out.later BK.out).later h).hi
          have p3 : ∀ W, Below w14.heap.size w14 W → W.cell? ⟨bE, 1, none⟩ = some (.int .u64 L2) := fun W h => ((E12.out.later BK.out).later h).lo
          have p4 : ∀ W, Below w14.heap.size w14 W → W.cell? ⟨bP, 0, none⟩ = some (.int .i64 HP) := fun W h => ((P12.out.later BK.out).later h).hi
          have p5 : ∀ W, Below w14.heap.size w14 W → W.cell? ⟨bP, 1, none⟩ = some (.int .u64 LP) := fun W h => ((P12.out.later BK.out).later h).lo
          have p6 : ∀ W, Below w14.heap.size w14 W → W.cell? ⟨b85, 0, none⟩ = some (.int .i64 HM) := fun W h => ((D12.out.later BK.out).later h).hi
          have p7 : ∀ W, Below w14.heap.size w14 W → W.cell? ⟨b85, 1, none⟩ = some (.int .u64 LM) := fun W h => ((D12.out.later BK.out).later h).lo
          have BZ := hid (below_up B12.out BK.out)
          clear A12 E12 P12 D12 X12 Y12 M12 N12 B12 BK
          go_wp2_with fail
          go_region_held3 (fun W => Below w14.heap.size w14 W) (first | assumption | exact (Below.refl _ _).drew | exact Below.drew (by assumption) | exact below_up (by assumption) (by assumption)) ((first | (go_at_call 11; refine (CWp.out _).mono ?_; rintro e w' ⟨rfl, hb⟩) | (go_at_call 21; refine (CWm.out _).mono ?_; rintro e w' ⟨rfl, hb⟩) | (go_at_call 22; refine (CWc.out _).mono ?_; rintro e w' ⟨rfl, hb⟩) | (go_at_call 8; refine (known_any _ (HT.out.later (below_up BZ.out (by assumption)))).mono ?_; rintro e w' ⟨rfl, hb⟩)))
          rename World => wZ
          have bZ : Below w14.heap.size w14 wZ := by assumption
          go_wp2_with fail
          go_ret
          exact ⟨rfl, below_up BZ.out bZ⟩
    · rw [if_pos (by rfl)]
      go_simp
      generalize hwn : World.alloc _ (.cells #[.int .i64 0, .int .u64 0] 27) = v7
      have bn : Below (v1).heap.size (v1) v7 := by rw [← hwn]; exact below_new _ _
      have HD : Hid (Bw v7 (v1).heap.size 0 0) := by rw [← hwn]; exact Bw.new _ _ _
      have HG : Hid (w11.heap.size ≤ (v1).heap.size) := hHeld1.size
      refine hK.out _ _ (below_up hHeld1 bn) (fun hHeld2 => ?_)
      clear hK K hwn hHeld1
      clear bn
      try simp only [Act.put, List.setIfInBounds_toArray, List.set_cons_zero, List.set_cons_succ]
      generalize v1.heap.size = b87 at *
      refine wpAnyH_ready (rs := [3]) (by kernel_rfl) (by simp) ?_
      refine AllReadyH.cons (o := { dst := some 21, op := Op.call { callee := Callee.value (Operand.func 19), args := #[Operand.tmp 18, Operand.tmp 20], argTypes := #[38, 38] }, type := 38, pos := "law.go:24", after := #[{ on := 0, ground := Ground.data }, { on := 2, ground := Ground.data }, { on := 2, ground := Ground.chain }], guard := none }) rfl (fun K hK => ?_) AllReadyH.nil
      rw [if_pos (by rfl)]
      go_simp
      refine (CM.out _ _ _ (M11.out.later hHeld2) ((N11.out.later hHeld2).turn rfl)).mono ?_
      rintro e v8 ⟨gm, rfl, -, NM, bn⟩
      have HNP := hid NM
      clear NM
      replace HD := hid (HD.out.later bn)
      refine hK.out _ _ (below_up hHeld2 bn) (fun hHeld3 => ?_)
      clear hK K hHeld2 bn
      try simp only [Act.put, List.setIfInBounds_toArray, List.set_cons_zero, List.set_cons_succ]
      refine wpAnyH_ready (rs := [4]) (by kernel_rfl) (by simp) ?_
      refine AllReadyH.cons (o := { dst := some 22, op := Op.call { callee := Callee.value (Operand.func 18), args := #[Operand.tmp 21], argTypes := #[38] }, type := 27, pos := "law.go:24", after := #[{ on := 3, ground := Ground.data }, { on := 3, ground := Ground.chain }], guard := none }) rfl (fun K hK => ?_) AllReadyH.nil
      rw [if_pos (by rfl)]
      go_simp
      refine (COm.out _ _ HNP.out).mono ?_
      rintro e v9 ⟨rfl, bn⟩
      replace HD := hid (HD.out.later bn)
      refine hK.out _ _ (below_up hHeld3 bn) (fun hHeld4 => ?_)
      clear hK K hHeld3 bn HNP
      try simp only [Act.put, List.setIfInBounds_toArray, List.set_cons_zero, List.set_cons_succ]
      refine wpAnyH_ready (rs := [6]) (by kernel_rfl) (by simp) ?_
      refine AllReadyH.cons (o := { dst := none, op := Op.store 27 (Operand.tmp 8) (Operand.tmp 22), type := 0, pos := "law.go:24", after := #[{ on := 5, ground := Ground.data }, { on := 4, ground := Ground.data }, { on := 4, ground := Ground.chain }, { on := 0, ground := Ground.phase }, { on := 1, ground := Ground.phase }, { on := 2, ground := Ground.phase }, { on := 3, ground := Ground.phase }, { on := 4, ground := Ground.phase }, { on := 5, ground := Ground.phase }], guard := none }) rfl (fun K hK => ?_) AllReadyH.nil
      rw [if_pos (by rfl)]
      have s0 := HD.out.hi
      have s1 := HD.out.lo
      have s2 := HD.out.frz 0
      have s3 := HD.out.frz 1
      have D12 := hid (HD.out.put HM LM)
      go_simp
      refine hK.out _ _ (below_put hHeld4 HG.out (.int .i64 HM) (.int .u64 LM)) (fun hHeld5 => ?_)
      clear hK K hHeld4 s0 s1 s2 s3 HD
      try simp only [Act.put, List.setIfInBounds_toArray, List.set_cons_zero, List.set_cons_succ]
      refine wpAnyH_done (by kernel_rfl) ?_ _
      refine NoPanic.normal ?_
      generalize World.setCell _ _ _ = w12 at *
      have A12 := hid (A11.out.later hHeld5)
      have E12 := hid (E11.out.later hHeld5)
      have X12 := hid (X11.out.later hHeld5)
      have M12 := hid (M11.out.later hHeld5)
      have Y12 := hid (Y11.out.later hHeld5)
      have N12 := hid (N11.out.later hHeld5)
      have P12 := hid (P11.out.later hHeld5)
      have B12 := hid (below_up B11.out hHeld5)
      clear hHeld5
      rename World => w12
      have d0 := X12.out.dig
      have d1 := X12.out.sgn
      have d2 := Y12.out.dig
      have d3 := Y12.out.sgn
      rcases (by omega : a < b ∨ b < a ∨ (¬ a < b ∧ ¬ b < a)) with hc | hc | hc
      · rw [show cmpI a b = -1 by unfold cmpI; rw [if_pos hc]] at CWc
        have C1 := hid (CB1.out true (decide_eq_true hc) gx gy w12 M12.out N12.out)
        clear hc CB1 CB2
        go_wp2_with fail
        refine C1.out.mono ?_
        rintro e w13 ⟨rfl, b13⟩
        have BK := hid b13
        clear b13 d0 d1 d2 d3
        have p0 : ∀ W, Below w13.heap.size w13 W → W.cell? ⟨w.heap.size, 0, none⟩ = some (.int .i64 H1) := fun W h => ((A12.out.later BK.out).later h).hi
        have p1 : ∀ W, Below w13.heap.size w13 W → W.cell? ⟨w.heap.size, 1, none⟩ = some (.int .u64 L1) := fun W h => ((A12.out.later BK.out).later h).lo
        have p2 : ∀ W, Below w13.heap.size w13 W → W.cell? ⟨bE, 0, none⟩ = some (.int .i64 H2) := fun W h => ((E12.out.later BK.out).later h).hi
        have p3 : ∀ W, Below w13.heap.size w13 W → W.cell? ⟨bE, 1, none⟩ = some (.int .u64 L2) := fun W h => ((E12.out.later BK.out).later h).lo
        have p4 : ∀ W, Below w13.heap.size w13 W → W.cell? ⟨bP, 0, none⟩ = some (.int .i64 HP) := fun W h => ((P12.out.later BK.out).later h).hi
        have p5 : ∀ W, Below w13.heap.size w13 W → W.cell? ⟨bP, 1, none⟩ = some (.int .u64 LP) := fun W h => ((P12.out.later BK.out).later h).lo
        have p6 : ∀ W, Below w13.heap.size w13 W → W.cell? ⟨b87, 0, none⟩ = some (.int .i64 HM) := fun W h => ((D12.out.later BK.out).later h).hi
        have p7 : ∀ W, Below w13.heap.size w13 W → W.cell? ⟨b87, 1, none⟩ = some (.int .u64 LM) := fun W h => ((D12.out.later BK.out).later h).lo
        have BZ := hid (below_up B12.out BK.out)
        clear A12 E12 P12 D12 X12 Y12 M12 N12 B12 BK
        go_wp2_with fail
        go_region_held3 (fun W => Below w13.heap.size w13 W) (first | assumption | exact (Below.refl _ _).drew | exact Below.drew (by assumption) | exact below_up (by assumption) (by assumption)) ((first | (go_at_call 11; refine (CWp.out _).mono ?_; rintro e w' ⟨rfl, hb⟩) | (go_at_call 21; refine (CWm.out _).mono ?_; rintro e w' ⟨rfl, hb⟩) | (go_at_call 22; refine (CWc.out _).mono ?_; rintro e w' ⟨rfl, hb⟩) | (go_at_call 8; refine (known_any _ (HT.out.later (below_up BZ.out (by assumption)))).mono ?_; rintro e w' ⟨rfl, hb⟩)))
        rename World => wZ
        have bZ : Below w13.heap.size w13 wZ := by assumption
        go_wp2_with fail
        go_ret
        exact ⟨rfl, below_up BZ.out bZ⟩
      · rw [show cmpI a b = 1 by unfold cmpI; rw [if_neg (by omega), if_neg (by omega)]] at CWc
        have C1 := hid (CB1.out false (decide_eq_false (by omega)) gx gy w12 M12.out N12.out)
        have C2 := hid (fun W hM hN => CB2.out true (decide_eq_true hc) gy gx W hN hM)
        clear hc CB1 CB2
        go_wp2_with fail
        refine C1.out.mono ?_
        rintro e w13 ⟨rfl, b13⟩
        have X13 := X12.out.later b13
        have Y13 := Y12.out.later b13
        have e0 := X13.dig
        have e1 := X13.sgn
        have e2 := Y13.dig
        have e3 := Y13.sgn
        have C3 := hid (C2.out w13 (M12.out.later b13) (N12.out.later b13))
        have b13' := hid b13
        clear X13 Y13 b13 d0 d1 d2 d3
        go_wp2_with fail
        refine C3.out.mono ?_
        rintro e w14 ⟨rfl, b14⟩
        have BK := hid (below_up b13'.out b14)
        clear b14 e0 e1 e2 e3
        have p0 : ∀ W, Below w14.heap.size w14 W → W.cell? ⟨w.heap.size, 0, none⟩ = some (.int .i64 H1) := fun W h => ((A12.out.later BK.out).later h).hi
        have p1 : ∀ W, Below w14.heap.size w14 W → W.cell? ⟨w.heap.size, 1, none⟩ = some (.int .u64 L1) := fun W h => ((A12.out.later BK.out).later h).lo
        have p2 : ∀ W, Below w14.heap.size w14 W → W.cell? ⟨bE, 0, none⟩ = some (.int .i64 H2) := fun W h => ((E12.out.later BK.out).later h).hi
        have p3 : ∀ W, Below w14.heap.size w14 W → W.cell? ⟨bE, 1, none⟩ = some (.int .u64 L2) := fun W h => ((E12.out.later BK.out).later h).lo
        have p4 : ∀ W, Below w14.heap.size w14 W → W.cell? ⟨bP, 0, none⟩ = some (.int .i64 HP) := fun W h => ((P12.out.later BK.out).later h).hi
        have p5 : ∀ W, Below w14.heap.size w14 W → W.cell? ⟨bP, 1, none⟩ = some (.int .u64 LP) := fun W h => ((P12.out.later BK.out).later h).lo
        have p6 : ∀ W, Below w14.heap.size w14 W → W.cell? ⟨b87, 0, none⟩ = some (.int .i64 HM) := fun W h => ((D12.out.later BK.out).later h).hi
        have p7 : ∀ W, Below w14.heap.size w14 W → W.cell? ⟨b87, 1, none⟩ = some (.int .u64 LM) := fun W h => ((D12.out.later BK.out).later h).lo
        have BZ := hid (below_up B12.out BK.out)
        clear A12 E12 P12 D12 X12 Y12 M12 N12 B12 BK
        go_wp2_with fail
        go_region_held3 (fun W => Below w14.heap.size w14 W) (first | assumption | exact (Below.refl _ _).drew | exact Below.drew (by assumption) | exact below_up (by assumption) (by assumption)) ((first | (go_at_call 11; refine (CWp.out _).mono ?_; rintro e w' ⟨rfl, hb⟩) | (go_at_call 21; refine (CWm.out _).mono ?_; rintro e w' ⟨rfl, hb⟩) | (go_at_call 22; refine (CWc.out _).mono ?_; rintro e w' ⟨rfl, hb⟩) | (go_at_call 8; refine (known_any _ (HT.out.later (below_up BZ.out (by assumption)))).mono ?_; rintro e w' ⟨rfl, hb⟩)))
        rename World => wZ
        have bZ : Below w14.heap.size w14 wZ := by assumption
        go_wp2_with fail
        go_ret
        exact ⟨rfl, below_up BZ.out bZ⟩
      · rw [show cmpI a b = 0 by unfold cmpI; rw [if_neg hc.1, if_pos (by omega)]] at CWc
        have C1 := hid (CB1.out false (decide_eq_false hc.1) gx gy w12 M12.out N12.out)
        have C2 := hid (fun W hM hN => CB2.out false (decide_eq_false hc.2) gy gx W hN hM)
        clear hc CB1 CB2
        go_wp2_with fail
        refine C1.out.mono ?_
        rintro e w13 ⟨rfl, b13⟩
        have X13 := X12.out.later b13
        have Y13 := Y12.out.later b13
        have e0 := X13.dig
        have e1 := X13.sgn
        have e2 := Y13.dig
        have e3 := Y13.sgn
        have C3 := hid (C2.out w13 (M12.out.later b13) (N12.out.later b13))
        have b13' := hid b13
        clear X13 Y13 b13 d0 d1 d2 d3
        go_wp2_with fail
        refine C3.out.mono ?_
        rintro e w14 ⟨rfl, b14⟩
        have BK := hid (below_up b13'.out b14)
        clear b14 e0 e1 e2 e3
        have p0 : ∀ W, Below w14.heap.size w14 W → W.cell? ⟨w.heap.size, 0, none⟩ = some (.int .i64 H1) := fun W h => ((A12.out.later BK.out).later h).hi
        have p1 : ∀ W, Below w14.heap.size w14 W → W.cell? ⟨w.heap.size, 1, none⟩ = some (.int .u64 L1) := fun W h => ((A12.out.later BK.out).later h).lo
        have p2 : ∀ W, Below w14.heap.size w14 W → W.cell? ⟨bE, 0, none⟩ = some (.int .i64 H2) := fun W h => ((E12.out.later BK.out).later h).hi
        have p3 : ∀ W, Below w14.heap.size w14 W → W.cell? ⟨bE, 1, none⟩ = some (.int .u64 L2) := fun W h => ((E12.out.later BK.out).later h).lo
        have p4 : ∀ W, Below w14.heap.size w14 W → W.cell? ⟨bP, 0, none⟩ = some (.int .i64 HP) := fun W h => ((P12.out.later BK.out).later h).hi
        have p5 : ∀ W, Below w14.heap.size w14 W → W.cell? ⟨bP, 1, none⟩ = some (.int .u64 LP) := fun W h => ((P12.out.later BK.out).later h).lo
        have p6 : ∀ W, Below w14.heap.size w14 W → W.cell? ⟨b87, 0, none⟩ = some (.int .i64 HM) := fun W h => ((D12.out.later BK.out).later h).hi
        have p7 : ∀ W, Below w14.heap.size w14 W → W.cell? ⟨b87, 1, none⟩ = some (.int .u64 LM) := fun W h => ((D12.out.later BK.out).later h).lo
        have BZ := hid (below_up B12.out BK.out)
        clear A12 E12 P12 D12 X12 Y12 M12 N12 B12 BK
        go_wp2_with fail
        go_region_held3 (fun W => Below w14.heap.size w14 W) (first | assumption | exact (Below.refl _ _).drew | exact Below.drew (by assumption) | exact below_up (by assumption) (by assumption)) ((first | (go_at_call 11; refine (CWp.out _).mono ?_; rintro e w' ⟨rfl, hb⟩) | (go_at_call 21; refine (CWm.out _).mono ?_; rintro e w' ⟨rfl, hb⟩) | (go_at_call 22; refine (CWc.out _).mono ?_; rintro e w' ⟨rfl, hb⟩) | (go_at_call 8; refine (known_any _ (HT.out.later (below_up BZ.out (by assumption)))).mono ?_; rintro e w' ⟨rfl, hb⟩)))
        rename World => wZ
        have bZ : Below w14.heap.size w14 wZ := by assumption
        go_wp2_with fail
        go_ret
        exact ⟨rfl, below_up BZ.out bZ⟩
  · rw [if_pos (by rfl)]
    go_simp
    generalize hwn : World.drew (World.alloc _ (.cells #[.int .i64 0, .int .u64 0] 27)) = v10
    have bn : Below w11.heap.size w11 v10 := by rw [← hwn]; exact (below_new _ _).drew
    have HD : Hid (Bw v10 w11.heap.size 0 0) := by rw [← hwn]; exact Bw.new w11 0 0
    have HG : Hid (w11.heap.size ≤ w11.heap.size) := Nat.le_refl _
    refine hK.out _ _ bn (fun hHeld1 => ?_)
    clear hK K hwn hHeld0
    clear bn
    try simp only [Act.put, List.setIfInBounds_toArray, List.set_cons_zero, List.set_cons_succ]
    refine wpAnyH_ready (rs := [2]) (by kernel_rfl) (by simp) ?_
    refine AllReadyH.cons (o := { dst := some 20, op := Op.call { callee := Callee.value (Operand.func 20), args := #[Operand.tmp 19], argTypes := #[38] }, type := 38, pos := "law.go:24", after := #[{ on := 1, ground := Ground.data }], guard := none }) rfl (fun K hK => ?_) AllReadyH.nil
    rw [if_pos (by rfl)]
    go_simp
    refine (CT.out _ _ (N11.out.later hHeld1)).mono ?_
    rintro e v11 ⟨rfl, -, bn⟩
    replace HD := hid (HD.out.later bn)
    refine hK.out _ _ (below_up hHeld1 bn) (fun hHeld2 => ?_)
    clear hK K hHeld1 bn
    try simp only [Act.put, List.setIfInBounds_toArray, List.set_cons_zero, List.set_cons_succ]
    refine wpAnyH_ready (rs := [3]) (by kernel_rfl) (by simp) ?_
    refine AllReadyH.cons (o := { dst := some 21, op := Op.call { callee := Callee.value (Operand.func 19), args := #[Operand.tmp 18, Operand.tmp 20], argTypes := #[38, 38] }, type := 38, pos := "law.go:24", after := #[{ on := 0, ground := Ground.data }, { on := 2, ground := Ground.data }, { on := 2, ground := Ground.chain }], guard := none }) rfl (fun K hK => ?_) AllReadyH.nil
    rw [if_pos (by rfl)]
    go_simp
    refine (CM.out _ _ _ (M11.out.later hHeld2) ((N11.out.later hHeld2).turn rfl)).mono ?_
    rintro e v12 ⟨gm, rfl, -, NM, bn⟩
    have HNP := hid NM
    clear NM
    replace HD := hid (HD.out.later bn)
    refine hK.out _ _ (below_up hHeld2 bn) (fun hHeld3 => ?_)
    clear hK K hHeld2 bn
    try simp only [Act.put, List.setIfInBounds_toArray, List.set_cons_zero, List.set_cons_succ]
    refine wpAnyH_ready (rs := [4]) (by kernel_rfl) (by simp) ?_
    refine AllReadyH.cons (o := { dst := some 22, op := Op.call { callee := Callee.value (Operand.func 18), args := #[Operand.tmp 21], argTypes := #[38] }, type := 27, pos := "law.go:24", after := #[{ on := 3, ground := Ground.data }, { on := 3, ground := Ground.chain }], guard := none }) rfl (fun K hK => ?_) AllReadyH.nil
    rw [if_pos (by rfl)]
    go_simp
    refine (COm.out _ _ HNP.out).mono ?_
    rintro e v13 ⟨rfl, bn⟩
    replace HD := hid (HD.out.later bn)
    refine hK.out _ _ (below_up hHeld3 bn) (fun hHeld4 => ?_)
    clear hK K hHeld3 bn HNP
    try simp only [Act.put, List.setIfInBounds_toArray, List.set_cons_zero, List.set_cons_succ]
    refine wpAnyH_ready (rs := [6]) (by kernel_rfl) (by simp) ?_
    refine AllReadyH.cons (o := { dst := none, op := Op.store 27 (Operand.tmp 8) (Operand.tmp 22), type := 0, pos := "law.go:24", after := #[{ on := 5, ground := Ground.data }, { on := 4, ground := Ground.data }, { on := 4, ground := Ground.chain }, { on := 0, ground := Ground.phase }, { on := 1, ground := Ground.phase }, { on := 2, ground := Ground.phase }, { on := 3, ground := Ground.phase }, { on := 4, ground := Ground.phase }, { on := 5, ground := Ground.phase }], guard := none }) rfl (fun K hK => ?_) AllReadyH.nil
    rw [if_pos (by rfl)]
    have s0 := HD.out.hi
    have s1 := HD.out.lo
    have s2 := HD.out.frz 0
    have s3 := HD.out.frz 1
    have D12 := hid (HD.out.put HM LM)
    go_simp
    refine hK.out _ _ (below_put hHeld4 HG.out (.int .i64 HM) (.int .u64 LM)) (fun hHeld5 => ?_)
    clear hK K hHeld4 s0 s1 s2 s3 HD
    try simp only [Act.put, List.setIfInBounds_toArray, List.set_cons_zero, List.set_cons_succ]
    refine wpAnyH_done (by kernel_rfl) ?_ _
    refine NoPanic.normal ?_
    generalize World.setCell _ _ _ = w12 at *
    have A12 := hid (A11.out.later hHeld5)
    have E12 := hid (E11.out.later hHeld5)
    have X12 := hid (X11.out.later hHeld5)
    have M12 := hid (M11.out.later hHeld5)
    have Y12 := hid (Y11.out.later hHeld5)
    have N12 := hid (N11.out.later hHeld5)
    have P12 := hid (P11.out.later hHeld5)
    have B12 := hid (below_up B11.out hHeld5)
    clear hHeld5
    rename World => w12
    have d0 := X12.out.dig
    have d1 := X12.out.sgn
    have d2 := Y12.out.dig
    have d3 := Y12.out.sgn
    rcases (by omega : a < b ∨ b < a ∨ (¬ a < b ∧ ¬ b < a)) with hc | hc | hc
    · rw [show cmpI a b = -1 by unfold cmpI; rw [if_pos hc]] at CWc
      have C1 := hid (CB1.out true (decide_eq_true hc) gx gy w12 M12.out N12.out)
      clear hc CB1 CB2
      go_wp2_with fail
      refine C1.out.mono ?_
      rintro e w13 ⟨rfl, b13⟩
      have BK := hid b13
      clear b13 d0 d1 d2 d3
      have p0 : ∀ W, Below w13.heap.size w13 W → W.cell? ⟨w.heap.size, 0, none⟩ = some (.int .i64 H1) := fun W h => ((A12.out.later BK.out).later h).hi
      have p1 : ∀ W, Below w13.heap.size w13 W → W.cell? ⟨w.heap.size, 1, none⟩ = some (.int .u64 L1) := fun W h => ((A12.out.later BK.out).later h).lo
      have p2 : ∀ W, Below w13.heap.size w13 W → W.cell? ⟨bE, 0, none⟩ = some (.int .i64 H2) := fun W h => ((E12.out.later BK.out).later h).hi
      have p3 : ∀ W, Below w13.heap.size w13 W → W.cell? ⟨bE, 1, none⟩ = some (.int .u64 L2) := fun W h => ((E12.out.later BK.out).later h).lo
      have p4 : ∀ W, Below w13.heap.size w13 W → W.cell? ⟨bP, 0, none⟩ = some (.int .i64 HP) := fun W h => ((P12.out.later BK.out).later h).hi
      have p5 : ∀ W, Below w13.heap.size w13 W → W.cell? ⟨bP, 1, none⟩ = some (.int .u64 LP) := fun W h => ((P12.out.later BK.out).later h).lo
      have p6 : ∀ W, Below w13.heap.size w13 W → W.cell? ⟨w11.heap.size, 0, none⟩ = some (.int .i64 HM) := fun W h => ((D12.out.later BK.out).later h).hi
      have p7 : ∀ W, Below w13.heap.size w13 W → W.cell? ⟨w11.heap.size, 1, none⟩ = some (.int .u64 LM) := fun W h => ((D12.out.later BK.out).later h).lo
      have BZ := hid (below_up B12.out BK.out)
      clear A12 E12 P12 D12 X12 Y12 M12 N12 B12 BK
      go_wp2_with fail
      go_region_held3 (fun W => Below w13.heap.size w13 W) (first | assumption | exact (Below.refl _ _).drew | exact Below.drew (by assumption) | exact below_up (by assumption) (by assumption)) ((first | (go_at_call 11; refine (CWp.out _).mono ?_; rintro e w' ⟨rfl, hb⟩) | (go_at_call 21; refine (CWm.out _).mono ?_; rintro e w' ⟨rfl, hb⟩) | (go_at_call 22; refine (CWc.out _).mono ?_; rintro e w' ⟨rfl, hb⟩) | (go_at_call 8; refine (known_any _ (HT.out.later (below_up BZ.out (by assumption)))).mono ?_; rintro e w' ⟨rfl, hb⟩)))
      rename World => wZ
      have bZ : Below w13.heap.size w13 wZ := by assumption
      go_wp2_with fail
      go_ret
      exact ⟨rfl, below_up BZ.out bZ⟩
    · rw [show cmpI a b = 1 by unfold cmpI; rw [if_neg (by omega), if_neg (by omega)]] at CWc
      have C1 := hid (CB1.out false (decide_eq_false (by omega)) gx gy w12 M12.out N12.out)
      have C2 := hid (fun W hM hN => CB2.out true (decide_eq_true hc) gy gx W hN hM)
      clear hc CB1 CB2
      go_wp2_with fail
      refine C1.out.mono ?_
      rintro e w13 ⟨rfl, b13⟩
      have X13 := X12.out.later b13
      have Y13 := Y12.out.later b13
      have e0 := X13.dig
      have e1 := X13.sgn
      have e2 := Y13.dig
      have e3 := Y13.sgn
      have C3 := hid (C2.out w13 (M12.out.later b13) (N12.out.later b13))
      have b13' := hid b13
      clear X13 Y13 b13 d0 d1 d2 d3
      go_wp2_with fail
      refine C3.out.mono ?_
      rintro e w14 ⟨rfl, b14⟩
      have BK := hid (below_up b13'.out b14)
      clear b14 e0 e1 e2 e3
      have p0 : ∀ W, Below w14.heap.size w14 W → W.cell? ⟨w.heap.size, 0, none⟩ = some (.int .i64 H1) := fun W h => ((A12.out.later BK.out).later h).hi
      have p1 : ∀ W, Below w14.heap.size w14 W → W.cell? ⟨w.heap.size, 1, none⟩ = some (.int .u64 L1) := fun W h => ((A12.out.later BK.out).later h).lo
      have p2 : ∀ W, Below w14.heap.size w14 W → W.cell? ⟨bE, 0, none⟩ = some (.int .i64 H2) := fun W h => ((E12.out.later BK.out).later h).hi
      have p3 : ∀ W, Below w14.heap.size w14 W → W.cell? ⟨bE, 1, none⟩ = some (.int .u64 L2) := fun W h => ((E12.out.later BK.out).later h).lo
      have p4 : ∀ W, Below w14.heap.size w14 W → W.cell? ⟨bP, 0, none⟩ = some (.int .i64 HP) := fun W h => ((P12.out.later BK.out).later h).hi
      have p5 : ∀ W, Below w14.heap.size w14 W → W.cell? ⟨bP, 1, none⟩ = some (.int .u64 LP) := fun W h => ((P12.out.later BK.out).later h).lo
      have p6 : ∀ W, Below w14.heap.size w14 W → W.cell? ⟨w11.heap.size, 0, none⟩ = some (.int .i64 HM) := fun W h => ((D12.out.later BK.out).later h).hi
      have p7 : ∀ W, Below w14.heap.size w14 W → W.cell? ⟨w11.heap.size, 1, none⟩ = some (.int .u64 LM) := fun W h => ((D12.out.later BK.out).later h).lo
      have BZ := hid (below_up B12.out BK.out)
      clear A12 E12 P12 D12 X12 Y12 M12 N12 B12 BK
      go_wp2_with fail
      go_region_held3 (fun W => Below w14.heap.size w14 W) (first | assumption | exact (Below.refl _ _).drew | exact Below.drew (by assumption) | exact below_up (by assumption) (by assumption)) ((first | (go_at_call 11; refine (CWp.out _).mono ?_; rintro e w' ⟨rfl, hb⟩) | (go_at_call 21; refine (CWm.out _).mono ?_; rintro e w' ⟨rfl, hb⟩) | (go_at_call 22; refine (CWc.out _).mono ?_; rintro e w' ⟨rfl, hb⟩) | (go_at_call 8; refine (known_any _ (HT.out.later (below_up BZ.out (by assumption)))).mono ?_; rintro e w' ⟨rfl, hb⟩)))
      rename World => wZ
      have bZ : Below w14.heap.size w14 wZ := by assumption
      go_wp2_with fail
      go_ret
      exact ⟨rfl, below_up BZ.out bZ⟩
    · rw [show cmpI a b = 0 by unfold cmpI; rw [if_neg hc.1, if_pos (by omega)]] at CWc
      have C1 := hid (CB1.out false (decide_eq_false hc.1) gx gy w12 M12.out N12.out)
      have C2 := hid (fun W hM hN => CB2.out false (decide_eq_false hc.2) gy gx W hN hM)
      clear hc CB1 CB2
      go_wp2_with fail
      refine C1.out.mono ?_
      rintro e w13 ⟨rfl, b13⟩
      have X13 := X12.out.later b13
      have Y13 := Y12.out.later b13
      have e0 := X13.dig
      have e1 := X13.sgn
      have e2 := Y13.dig
      have e3 := Y13.sgn
      have C3 := hid (C2.out w13 (M12.out.later b13) (N12.out.later b13))
      have b13' := hid b13
      clear X13 Y13 b13 d0 d1 d2 d3
      go_wp2_with fail
      refine C3.out.mono ?_
      rintro e w14 ⟨rfl, b14⟩
      have BK := hid (below_up b13'.out b14)
      clear b14 e0 e1 e2 e3
      have p0 : ∀ W, Below w14.heap.size w14 W → W.cell? ⟨w.heap.size, 0, none⟩ = some (.int .i64 H1) := fun W h => ((A12.out.later BK.out).later h).hi
      have p1 : ∀ W, Below w14.heap.size w14 W → W.cell? ⟨w.heap.size, 1, none⟩ = some (.int .u64 L1) := fun W h => ((A12.out.later BK.out).later h).lo
      have p2 : ∀ W, Below w14.heap.size w14 W → W.cell? ⟨bE, 0, none⟩ = some (.int .i64 H2) := fun W h => ((E12.out.later BK.out).later h).hi
      have p3 : ∀ W, Below w14.heap.size w14 W → W.cell? ⟨bE, 1, none⟩ = some (.int .u64 L2) := fun W h => ((E12.out.later BK.out).later h).lo
      have p4 : ∀ W, Below w14.heap.size w14 W → W.cell? ⟨bP, 0, none⟩ = some (.int .i64 HP) := fun W h => ((P12.out.later BK.out).later h).hi
      have p5 : ∀ W, Below w14.heap.size w14 W → W.cell? ⟨bP, 1, none⟩ = some (.int .u64 LP) := fun W h => ((P12.out.later BK.out).later h).lo
      have p6 : ∀ W, Below w14.heap.size w14 W → W.cell? ⟨w11.heap.size, 0, none⟩ = some (.int .i64 HM) := fun W h => ((D12.out.later BK.out).later h).hi
      have p7 : ∀ W, Below w14.heap.size w14 W → W.cell? ⟨w11.heap.size, 1, none⟩ = some (.int .u64 LM) := fun W h => ((D12.out.later BK.out).later h).lo
      have BZ := hid (below_up B12.out BK.out)
      clear A12 E12 P12 D12 X12 Y12 M12 N12 B12 BK
      go_wp2_with fail
      go_region_held3 (fun W => Below w14.heap.size w14 W) (first | assumption | exact (Below.refl _ _).drew | exact Below.drew (by assumption) | exact below_up (by assumption) (by assumption)) ((first | (go_at_call 11; refine (CWp.out _).mono ?_; rintro e w' ⟨rfl, hb⟩) | (go_at_call 21; refine (CWm.out _).mono ?_; rintro e w' ⟨rfl, hb⟩) | (go_at_call 22; refine (CWc.out _).mono ?_; rintro e w' ⟨rfl, hb⟩) | (go_at_call 8; refine (known_any _ (HT.out.later (below_up BZ.out (by assumption)))).mono ?_; rintro e w' ⟨rfl, hb⟩)))
      rename World => wZ
      have bZ : Below w14.heap.size w14 wZ := by assumption
      go_wp2_with fail
      go_ret
      exact ⟨rfl, below_up BZ.out bZ⟩
end Go.Proofs.YtlchcckhplclcaaDoor
