/-
  Bounds. (Written by mkbnd.py.)
-/
import Derived.Test.YtcebhhmlaohkkaaABdM
import Derived.Test.YtcebhhmlaohkkaaATwin2
import Derived.Deep.RegionHeld3
namespace Go.Proofs.Ytcebhhmlaohkkaa
open Go.ChangeShapes Go.WideShapes Go.ChangeAt Go.RowKit Cu Vl
attribute [local go_sem] run_store_float

theorem run_equalIn_float3 {P : Program} (w : World) (d : Nat) (t : TypeId) (k : FloatKind) (a b : Nat) (h : P.underlying t = some (.float k)) : (Op.equalIn (d + 1) t (.float k a) (.float k b)).run P w = .ok (k.format.order a b == some .eq) w := run_equalIn_float w d t k a b h
attribute [local go_sem] run_equalIn_float3
set_option maxRecDepth 8000 in
set_option maxHeartbeats 16000000 in
theorem walk_atomBounded (w : World) (p : Pr) (a : Option Addr) (d : Nat) (b : Option Addr) (e : Nat) (ks : List Kd) (v : V) (hp : PArg w p a d b e ks) (hv : VOk v) :
    Calls Try.prog 5 #[pv p a d b e, vv v] w fun r w' => r = .returned (.bool true) ∧ Below w.heap.size w w' := by
  have HK := hid fun w => known_any w
  have b1 := below_new w (.cells (pa p a d b e) 32)
  have b2 := below_new (w.alloc (.cells (pa p a d b e) 32)) (.cells (va v) 24)
  have HX := hid ((Bx.new w (pa p a d b e) 32).later b2)
  have HY : Hid (Bx ((w.alloc (.cells (pa p a d b e) 32)).alloc (.cells (va v) 24)) (w.heap.size + 1) (va v) 24) := by
    have := Bx.new (w.alloc (.cells (pa p a d b e) 32)) (va v) 24
    rwa [show (w.alloc (.cells (pa p a d b e) 32)).heap.size = w.heap.size + 1 by simp] at this
  have B := hid (below_up b1 b2)
  obtain ⟨W, hW⟩ : ∃ W, (w.alloc (.cells (pa p a d b e) 32)).alloc (.cells (va v) 24) = W := ⟨_, rfl⟩
  have HW := hid hW
  rw [hW] at HX HY B
  have HD := hid (deep_any p a d b e ks W ⟨hp.K, hp.op, hp.cs, hp.v, ⟨rfl, hp.l.lst.later B.out, hp.l.ok, hp.l.nil, hp.l.le, hp.l.small⟩, hp.m, hp.kl.later B.out, hp.kn, hp.ke, hp.kb, fun gC k hC => (hp.pt gC k (Nat.le_trans B.out.size hC)).later B.out⟩)
  have HTw := hid fun (W2 : World) (h : Below W.heap.size W W2) => twin_any p a d b e ks W2 hp.v ⟨rfl, (hp.l.lst.later B.out).later h, hp.l.ok, hp.l.nil, hp.l.le, hp.l.small⟩ hp.m ((hp.kl.later B.out).later h) hp.kn hp.ke hp.kb
  have HBd := hid fun (W2 : World) (a' : Option Addr) (d' : Nat) (b' : Option Addr) (e' : Nat) (h : POk W2 p a') => bnd_any p a' d' b' e' W2 h
  have HTs := hid fun (W2 : World) (a' : Option Addr) (d' : Nat) (b' : Option Addr) (e' : Nat) (h : POk W2 p a') => test_any p a' d' b' e' v W2 h hv
  have HCl := hid fun (x : V) (W2 : World) (h : VOk x) => compareA_any v x W2 hv h
  have M1 := hid fun h1 h2 => bounded (p := p) (v := v) h1 h2
  have M2 := hid fun h => bnd_no (p := p) h
  have MO := hid (bnd_ok hp.v hp.l.ok)
  have TP := hid fun (x : World) (h : Below W.heap.size W x) => (HX.out.later h).prd
  have TV := hid fun (x : World) (h : Below W.heap.size W x) => (HY.out.later h).val
  generalize tstP p v = ts at *
  generalize bndP p = R at *
  obtain ⟨lo, hi, ok⟩ := R
  obtain ⟨oL, oH⟩ := MO.out
  dsimp only at M1 M2 oL oH
  have HCL := hid fun W2 => HCl.out lo W2 oL
  have HCH := hid fun W2 => HCl.out hi W2 oH
  generalize cmpA v lo = cl at *
  generalize cmpA v hi = ch at *
  have TL := hid fun (x : World) (g : Nat) (h : Bx x g (va lo) 24) => h.val
  clear HCl MO oL oH b1 b2 hW HX HY hp hv
  obtain ⟨K, c, op, u, l, m⟩ := p
  obtain ⟨uK, uI, ub, us⟩ := u
  obtain ⟨vK, vI, vb, vs⟩ := v
  obtain ⟨lK, lI, lb, ls⟩ := lo
  obtain ⟨hK, hI, hb, hs⟩ := hi
  unfold pv vv at *
  unfold pa va at *
  dsimp only at *
  clear TL
  obtain ⟨q0, q1, q2, q3, q4, q5, q6, q7, q8⟩ := TP.out W (Below.refl _ _)
  go_enter Try.func5, Try.ntmps5
  go_wp2_with fail
  rw [HW.out]
  refine HD.out.mono ?_
  rintro e1 w1 ⟨q, rfl, hbb⟩
  have B1 := hid hbb
  clear hbb HD HW q0 q1 q2 q3 q4 q5 q6 q7 q8
  cases q
  rotate_left
  · go_wp2_with fail
    go_ret
    exact ⟨rfl, below_up B.out B1.out⟩
  go_wp2_with fail
  refine (HK.out _).mono ?_
  rintro e1 w2 ⟨rfl, hbb⟩
  replace B1 := hid (below_up B1.out hbb)
  clear hbb
  obtain ⟨q0, q1, q2, q3, q4, q5, q6, q7, q8⟩ := TP.out _ B1.out
  go_wp2_with fail
  refine (HTw.out _ B1.out).mono ?_
  rintro e1 w3 ⟨a1, d1, b1, e1', rfl, ho, hbb⟩
  replace B1 := hid (below_up B1.out hbb)
  have HO := hid ho
  clear hbb ho q0 q1 q2 q3 q4 q5 q6 q7 q8
  go_wp2_with fail
  refine (HBd.out _ _ _ _ _ HO.out).mono ?_
  rintro e2 w4 ⟨rfl, hbb⟩
  replace B1 := hid (below_up B1.out hbb)
  clear hbb HO
  have XL0 : Bx ((w4.alloc (.cells #[.int .i64 lK, .int .i64 lI, .float .f64 lb, .string ls] 24)).alloc (.cells #[.int .i64 hK, .int .i64 hI, .float .f64 hb, .string hs] 24)) w4.heap.size #[.int .i64 lK, .int .i64 lI, .float .f64 lb, .string ls] 24 := (Bx.new w4 _ _).later (below_new _ _)
  have XH0 : Bx ((w4.alloc (.cells #[.int .i64 lK, .int .i64 lI, .float .f64 lb, .string ls] 24)).alloc (.cells #[.int .i64 hK, .int .i64 hI, .float .f64 hb, .string hs] 24)) (w4.heap.size + 1) #[.int .i64 hK, .int .i64 hI, .float .f64 hb, .string hs] 24 := by
    have := Bx.new (w4.alloc (.cells #[.int .i64 lK, .int .i64 lI, .float .f64 lb, .string ls] 24)) #[.int .i64 hK, .int .i64 hI, .float .f64 hb, .string hs] 24
    rwa [show (w4.alloc (.cells #[.int .i64 lK, .int .i64 lI, .float .f64 lb, .string ls] 24)).heap.size = w4.heap.size + 1 by simp] at this
  have hbb := below_up (below_new w4 (.cells #[.int .i64 lK, .int .i64 lI, .float .f64 lb, .string ls] 24)) (below_new _ (.cells #[.int .i64 hK, .int .i64 hI, .float .f64 hb, .string hs] 24))
  obtain ⟨w5, hw5⟩ : ∃ w5, (w4.alloc (.cells #[.int .i64 lK, .int .i64 lI, .float .f64 lb, .string ls] 24)).alloc (.cells #[.int .i64 hK, .int .i64 hI, .float .f64 hb, .string hs] 24) = w5 := ⟨_, rfl⟩
  rw [hw5] at XL0 XH0 hbb
  have XL := hid XL0
  have XH := hid XH0
  replace B1 := hid (below_up B1.out hbb)
  have HE := hid hw5
  clear XL0 XH0 hbb hw5
  cases ok
  · obtain ⟨h1, h2⟩ := M2.out rfl
    unfold v0 at h1 h2
    cases h1
    cases h2
    have hfe : FloatKind.f64.format.order 0 0 = some .eq := by decide
    obtain ⟨l0, l1, l2, l3⟩ := XL.out.val4
    obtain ⟨h0, h1, h2, h3⟩ := XH.out.val4
    rw [← HE.out] at l0 l1 l2 l3 h0 h1 h2 h3
    go_wp2_with fail
    go_ret
    exact ⟨rfl, by rw [HE.out]; exact below_up B.out B1.out⟩
  · have HMM := hid (M1.out rfl)
    clear M1 M2
    go_wp2_with fail
    rw [HE.out]
    have v0 : Below W.heap.size W w5.drew := below_drewN B1.out 1
    have v00 : Below w5.heap.size w5 w5.drew := below_drewN (Below.refl _ w5) 1
    refine wp_region_noPanic ?_
    refine wp_region_held_drew (S := fun x => Below W.heap.size W x) (by kernel_rfl) (v0) (fun hHeld0 => ?_)
    refine wpAnyH_take (i := 0) (oi := { dst := some 29, op := Op.load 32 (Operand.tmp 2), type := 32, pos := "outright.go:144", after := #[], guard := none }) (v := ?_) rfl (by kernel_rfl) (by kernel_rfl) (by kernel_rfl) (fun _ _ _ h => h) (Or.inl ⟨by rfl, ?_⟩) (by assumption) ?_
    rotate_left
    · intro W hSw
      try dsimp only at hSw
      obtain ⟨q0, q1, q2, q3, q4, q5, q6, q7, q8⟩ := TP.out _ hSw; obtain ⟨x0, x1, x2, x3⟩ := TV.out _ hSw
      go_simp
      try with_reducible rfl
    try simp only [Act.put, List.setIfInBounds_toArray, List.set_cons_zero, List.set_cons_succ]
    refine wpAnyH_take (i := 2) (oi := { dst := some 31, op := Op.load 24 (Operand.tmp 3), type := 24, pos := "outright.go:144", after := #[], guard := none }) (v := ?_) rfl (by kernel_rfl) (by kernel_rfl) (by kernel_rfl) (fun _ _ _ h => h) (Or.inl ⟨by rfl, ?_⟩) (by assumption) ?_
    rotate_left
    · intro W hSw
      try dsimp only at hSw
      obtain ⟨q0, q1, q2, q3, q4, q5, q6, q7, q8⟩ := TP.out _ hSw; obtain ⟨x0, x1, x2, x3⟩ := TV.out _ hSw
      go_simp
      try with_reducible rfl
    try simp only [Act.put, List.setIfInBounds_toArray, List.set_cons_zero, List.set_cons_succ]
    refine wpAnyH_ready (rs := [1]) (by kernel_rfl) (by simp) ?_
    refine AllReadyH.cons (o := { dst := some 30, op := Op.call { callee := Callee.value (Operand.func 22), args := #[Operand.tmp 29], argTypes := #[32] }, type := 32, pos := "outright.go:144", after := #[{ on := 0, ground := Ground.data }], guard := none }) rfl (fun K hK => ?_) AllReadyH.nil
    rw [if_pos (by rfl)]
    go_simp
    refine (HTw.out _ v0).mono ?_
    rintro e1 u1 ⟨a2, d2, b2, e2, rfl, ho, h1⟩
    have v1 : Below W.heap.size W u1 := below_up v0 h1
    have v11 : Below w5.heap.size w5 u1 := below_up v00 h1
    have HO := hid ho
    clear h1 ho
    refine hK.out _ _ (v1) (fun hHeld1 => ?_)
    clear hK K hHeld0
    try simp only [Act.put, List.setIfInBounds_toArray, List.set_cons_zero, List.set_cons_succ]
    refine wpAnyH_ready (rs := [3]) (by kernel_rfl) (by simp) ?_
    refine AllReadyH.cons (o := { dst := some 32, op := Op.call { callee := Callee.value (Operand.func 12), args := #[Operand.tmp 30, Operand.tmp 31], argTypes := #[32, 24] }, type := 39, pos := "outright.go:144", after := #[{ on := 1, ground := Ground.data }, { on := 2, ground := Ground.data }, { on := 1, ground := Ground.chain }], guard := none }) rfl (fun K hK => ?_) AllReadyH.nil
    rw [if_pos (by rfl)]
    go_simp
    refine (HTs.out _ _ _ _ _ HO.out).mono ?_
    rintro e1 u2 ⟨rfl, h1⟩
    have v2 : Below W.heap.size W u2 := below_up v1 h1
    have v22 : Below w5.heap.size w5 u2 := below_up v11 h1
    clear h1
    refine hK.out _ _ (v2) (fun hHeld2 => ?_)
    clear hK K hHeld1
    try simp only [Act.put, List.setIfInBounds_toArray, List.set_cons_zero, List.set_cons_succ]
    refine wpAnyH_take (i := 4) (oi := { dst := some 33, op := Op.binOp BinOp.neq 39 (Operand.tmp 32) (Operand.const (Value.int IntKind.i8 1)) 39, type := 4, pos := "outright.go:144", after := #[{ on := 3, ground := Ground.data }], guard := none }) (v := ?_) rfl (by kernel_rfl) (by kernel_rfl) (by kernel_rfl) (fun _ _ _ h => h) (Or.inl ⟨by rfl, ?_⟩) (by assumption) ?_
    rotate_left
    · intro W hSw
      try dsimp only at hSw
      go_simp
      try with_reducible rfl
    try simp only [Act.put, List.setIfInBounds_toArray, List.set_cons_zero, List.set_cons_succ]
    refine wpAnyH_done (by kernel_rfl) ?_ _
    refine NoPanic.normal ?_
    clear hHeld2
    have B2 := hid v2
    replace XL := hid (XL.out.later v22)
    replace XH := hid (XH.out.later v22)
    clear v0 v00 v1 v11 v2 v22 HTw HTs HBd HE
    by_cases ht : ts = 1
    rotate_left
    · have ht' : (ts != 1) = true := by simpa using ht
      go_wp2_with fail
      go_ret
      exact ⟨rfl, below_up B.out B2.out⟩
    obtain ⟨m1, m2⟩ := HMM.out ht
    have N1 := hid m1
    have N2 := hid m2
    clear m1 m2 HMM
    subst ht
    obtain ⟨x0, x1, x2, x3⟩ := TV.out _ B2.out
    obtain ⟨l0, l1, l2, l3⟩ := XL.out.val4
    obtain ⟨h0, h1, h2, h3⟩ := XH.out.val4
    by_cases hy : lK = 0
    · subst hy
      by_cases hz : hK = 0
      · subst hz
        go_wp2_with fail
        go_ret
        exact ⟨rfl, below_up B.out B2.out⟩
      · have hz' : (hK == 0) = false := by simpa using hz
        have hch : ch ≤ 0 := N2.out.resolve_left hz
        go_wp2_with fail
        refine (HCH.out _).mono ?_
        rintro e1 u4 ⟨rfl, hbb⟩
        replace B2 := hid (below_up B2.out hbb)
        clear hbb
        go_wp2_with fail
        go_ret
        exact ⟨rfl, below_up B.out B2.out⟩
    · have hy' : (lK == 0) = false := by simpa using hy
      have hcl : 0 ≤ cl := N1.out.resolve_left hy
      go_wp2_with fail
      refine (HCL.out _).mono ?_
      rintro e1 u3 ⟨rfl, hbb⟩
      replace B2 := hid (below_up B2.out hbb)
      replace XL := hid (XL.out.later hbb)
      replace XH := hid (XH.out.later hbb)
      clear hbb x0 x1 x2 x3 l0 l1 l2 l3 h0 h1 h2 h3
      obtain ⟨x0, x1, x2, x3⟩ := TV.out _ B2.out
      obtain ⟨l0, l1, l2, l3⟩ := XL.out.val4
      obtain ⟨h0, h1, h2, h3⟩ := XH.out.val4
      by_cases hz : hK = 0
      · subst hz
        go_wp2_with fail
        go_ret
        exact ⟨rfl, below_up B.out B2.out⟩
      · have hz' : (hK == 0) = false := by simpa using hz
        have hch : ch ≤ 0 := N2.out.resolve_left hz
        go_wp2_with fail
        refine (HCH.out _).mono ?_
        rintro e1 u4 ⟨rfl, hbb⟩
        replace B2 := hid (below_up B2.out hbb)
        clear hbb
        go_wp2_with fail
        go_ret
        exact ⟨rfl, below_up B.out B2.out⟩
end Go.Proofs.Ytcebhhmlaohkkaa
