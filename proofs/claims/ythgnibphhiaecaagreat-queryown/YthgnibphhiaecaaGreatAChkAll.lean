import Derived.Test.YthgnibphhiaecaaGreatALeaf
import Derived.Test.YthgnibphhiaecaaGreatAVals
import Derived.Deep.RegionHeld3
/-
  restIsZero, valuesOf, allOfType. (Written by mkcheck.py.)
-/
namespace Go.Proofs.YthgnibphhiaecaaGreat
open Go.ChangeShapes Go.WideShapes Go.ChangeAt Go.RowKit Cu Vl
attribute [local go_sem] run_store_float

theorem beq0 (m : Nat) : ((m : Int) == 0) = decide (m = 0) := by rw [Bool.eq_iff_iff]; simp

set_option maxRecDepth 4000 in
set_option maxHeartbeats 4000000 in
theorem rest_any (p : Pr) (a : Option Addr) (d : Nat) (b : Option Addr) (e : Nat) (w : World) (hv : VOk p.v) (hn : p.l.length ≤ 140737488355328) (hm : p.m ≤ 140737488355328) :
    Calls Tryz.prog 79 #[pv p a d b e] w fun r w' => r = .returned (.bool (rstB p)) ∧ Below w.heap.size w w' := by
  have HN := hid fun w => none_any p.v w hv
  have HC := hid fun w => counts_any p.K w
  have HR : Hid (rstB p = ((cntO p.K || decide (p.op = 0)) && (cntS p.K || nulB p.v) && (cntL p.K || decide (p.l.length = 0)) && decide (p.m = 0))) := rfl
  have HX := hid (Bx.new w (pa p a d b e) 29)
  have B := hid (below_new w (.cells (pa p a d b e) 29))
  generalize rstB p = R at *
  generalize nulB p.v = n at *
  obtain ⟨K, c, op, v, l, m⟩ := p
  generalize hlen : l.length = ln at *
  dsimp only at *
  generalize cntO K = co at *
  generalize cntS K = cs at *
  generalize cntL K = cl at *
  obtain ⟨W, hW⟩ : ∃ W, w.alloc (.cells (pa ⟨K, c, op, v, l, m⟩ a d b e) 29) = W := ⟨_, rfl⟩
  rw [hW] at HX B
  have HW := hid hW
  have T := hid fun (W2 : World) (h : Below W.heap.size W W2) => (HX.out.later h).prd
  obtain ⟨q0, q1, q2, q3, q4, q5, q6, q7, q8⟩ := HX.out.prd
  unfold pv
  unfold pa at *
  rw [hlen] at *
  obtain ⟨vK, vI, vb, vs⟩ := v
  unfold vv at *
  dsimp only at *
  clear hW hlen hv HX
  have h0 : op = 0 ∨ (op == 0) = false := by by_cases h : op = 0; exact .inl h; exact .inr (by simpa using h)
  clear hn hm
  go_enter Tryz.func79, Tryz.ntmps79
  go_wp2_with fail
  rw [HW.out]
  refine (HC.out _).mono ?_
  rintro e1 w1 ⟨rfl, rfl⟩
  clear HC HW
  rcases h0 with rfl | h0 <;> cases co <;> cases cs <;> cases cl
  all_goals go_wp2_with fail
  all_goals first
    | (go_ret; exact ⟨ret_bool (by rw [HR.out]; simp_all [beq0]), B.out⟩)
    | (refine (HN.out _).mono ?_
       rintro e2 w2 ⟨rfl, hb⟩
       replace B := hid (below_up B.out hb)
       clear q0 q1 q2 q3 q4 q5 q6 q7 q8
       obtain ⟨q0, q1, q2, q3, q4, q5, q6, q7, q8⟩ := T.out _ hb
       clear hb
       cases n
       all_goals go_wp2_with fail
       all_goals go_ret
       all_goals exact ⟨ret_bool (by rw [HR.out]; simp_all [beq0]), B.out⟩)
end Go.Proofs.YthgnibphhiaecaaGreat

/-
  Check. (Written by mkchk.py.)
-/
namespace Go.Proofs.YthgnibphhiaecaaGreat
open Go.ChangeShapes Go.WideShapes Go.ChangeAt Go.RowKit Cu Vl
attribute [local go_sem] run_store_float

set_option maxRecDepth 8000 in
set_option maxHeartbeats 8000000 in
theorem check_0 (ac : Option Addr) (l : List Col) (dc : Nat) (p : Pr) (a : Option Addr) (d : Nat) (b : Option Addr) (e : Nat) (w : World) (hL : Lst cc 3 w ac l) (hl : l.length ≤ 140737488355328) (hp : POk w p a) (hk : ¬ (1 ≤ p.K ∧ p.K ≤ 5)) :
    Calls Tryz.prog 69 #[.slice ac l.length dc, pv p a d b e] w fun r w' => r = .returned (.int .i64 (chkP l p)) ∧ Below w.heap.size w w' := by
  have HA := hid fun w => atom_is p.K w
  have HO := hid fun w => op_is p.op w
  have B0 := hid (below_new w (.cells (pa p a d b e) 29))
  have HX := hid (Bx.new w (pa p a d b e) 29)
  obtain ⟨W, hW⟩ : ∃ W, w.alloc (.cells (pa p a d b e) 29) = W := ⟨_, rfl⟩
  have HW := hid hW
  rw [hW] at HX B0
  have HF := hid (find_any ac l dc p.c W (hL.later B0.out) hl)
  have HRS := hid fun w => rest_any p a d b e w hp.v hp.n hp.m
  have T := hid fun (W2 : World) (h : Below W.heap.size W W2) => (HX.out.later h).prd
  have HVA := hid fun (W2 : World) (h : Below W.heap.size W W2) => vals_any p a d b e W2 ((hp.L.later B0.out).later h)
  have HAL := hid fun (k : Int) (a2 : Option Addr) (c2 : Nat) (W2 : World) (h : Lst vc 4 W2 a2 (valsP p)) => allOf_any k a2 (valsP p) c2 W2 (by
    intro v hv
    unfold valsP at hv
    split at hv
    · simp at hv; subst hv; exact hp.v
    · split at hv
      · exact hp.l v hv
      · cases hv) h (by
    unfold valsP
    split
    · simp
    · split
      · exact hp.n
      · simp)
  have HFT : Hid (findB l p.c = true → ∃ i : Nat, findI l p.c = (i : Int) ∧ i < l.length ∧ ∃ g o, ac = some ⟨g, o, none⟩ ∧ ∀ W2, Below W.heap.size W W2 → W2.cell? ⟨g, o + i * 3 + 1, none⟩ = some (.int .i64 (findT l p.c))) := fun h => by
    unfold findB at h
    obtain ⟨i, hi⟩ := Option.isSome_iff_exists.1 h
    obtain ⟨h1, h2⟩ := findT_at hi
    obtain ⟨g, o, e1, hg, k0, k1, k2⟩ := (hL.later B0.out).cell3 h1
    rw [h2] at k1
    exact ⟨i, by unfold findI; rw [hi], h1, g, o, e1, fun W2 h3 => (h3.cell (by exact hg)).trans k1⟩
  have HR : Hid (chkP l p = if (!atmB p.K || (decide (p.K = 1) && !opB p.op)) = true then 180
    else if (decide (p.K = 5) && findB l p.c && decide (findT l p.c ≠ 2)) = true then 180
    else if (!rstB p || (decide (p.K = 3) && decide (p.l.length ≠ 2))) = true then 2
    else if findB l p.c = false then 151
    else if (decide (p.K = 2) && decide (1024 < p.l.length)) = true then 3
    else if (valsP p).all (okT (findT l p.c)) = true then 0 else 50) := rfl
  have HLN := hid (show l.length ≤ 140737488355328 from hl)
  generalize chkP l p = R at *
  generalize rstB p = rs at *
  generalize findB l p.c = fb at *
  generalize findI l p.c = fi at *
  generalize findT l p.c = ft at *
  generalize valsP p = vl at *
  generalize l.length = nc at *
  obtain ⟨K, c, op, v, pl, m⟩ := p
  have hpn := hp.n
  dsimp only at *
  generalize hln : pl.length = n at *
  have hpl : pl.length = n := hln
  clear hp hln hL hW HX
  obtain ⟨vK, vI, vb, vs⟩ := v
  unfold pv at *
  unfold pa at *
  dsimp only at *
  rw [hpl] at *
  clear hpl
  have e0 : atmB K = false := by unfold atmB; simp; omega
  rw [e0] at HA HR
  clear e0 hk
  obtain ⟨q0, q1, q2, q3, q4, q5, q6, q7, q8⟩ := T.out W (Below.refl _ _)
  go_enter Tryz.func69, Tryz.ntmps69
  go_wp2_with fail
  rw [HW.out]
  refine HF.out.mono ?_
  rintro e1 w1 ⟨rfl, hb⟩
  have B := hid hb
  clear hb HF HW
  clear q0 q1 q2 q3 q4 q5 q6 q7 q8
  obtain ⟨q0, q1, q2, q3, q4, q5, q6, q7, q8⟩ := T.out _ B.out
  go_wp2_with (go_at_call 63; refine (HA.out _).mono ?_; rintro e w' ⟨rfl, rfl⟩)
  go_ret
  exact ⟨ret_int (by rw [HR.out]; simp), below_up B0.out B.out⟩
end Go.Proofs.YthgnibphhiaecaaGreat

/-
  Check. (Written by mkchk.py.)
-/
namespace Go.Proofs.YthgnibphhiaecaaGreat
open Go.ChangeShapes Go.WideShapes Go.ChangeAt Go.RowKit Cu Vl
attribute [local go_sem] run_store_float

set_option maxRecDepth 8000 in
set_option maxHeartbeats 8000000 in
theorem check_1 (ac : Option Addr) (l : List Col) (dc : Nat) (p : Pr) (a : Option Addr) (d : Nat) (b : Option Addr) (e : Nat) (w : World) (hL : Lst cc 3 w ac l) (hl : l.length ≤ 140737488355328) (hp : POk w p a) (hk : p.K = 1) :
    Calls Tryz.prog 69 #[.slice ac l.length dc, pv p a d b e] w fun r w' => r = .returned (.int .i64 (chkP l p)) ∧ Below w.heap.size w w' := by
  have HA := hid fun w => atom_is p.K w
  have HO := hid fun w => op_is p.op w
  have B0 := hid (below_new w (.cells (pa p a d b e) 29))
  have HX := hid (Bx.new w (pa p a d b e) 29)
  obtain ⟨W, hW⟩ : ∃ W, w.alloc (.cells (pa p a d b e) 29) = W := ⟨_, rfl⟩
  have HW := hid hW
  rw [hW] at HX B0
  have HF := hid (find_any ac l dc p.c W (hL.later B0.out) hl)
  have HRS := hid fun w => rest_any p a d b e w hp.v hp.n hp.m
  have T := hid fun (W2 : World) (h : Below W.heap.size W W2) => (HX.out.later h).prd
  have HVA := hid fun (W2 : World) (h : Below W.heap.size W W2) => vals_any p a d b e W2 ((hp.L.later B0.out).later h)
  have HAL := hid fun (k : Int) (a2 : Option Addr) (c2 : Nat) (W2 : World) (h : Lst vc 4 W2 a2 (valsP p)) => allOf_any k a2 (valsP p) c2 W2 (by
    intro v hv
    unfold valsP at hv
    split at hv
    · simp at hv; subst hv; exact hp.v
    · split at hv
      · exact hp.l v hv
      · cases hv) h (by
    unfold valsP
    split
    · simp
    · split
      · exact hp.n
      · simp)
  have HFT : Hid (findB l p.c = true → ∃ i : Nat, findI l p.c = (i : Int) ∧ i < l.length ∧ ∃ g o, ac = some ⟨g, o, none⟩ ∧ ∀ W2, Below W.heap.size W W2 → W2.cell? ⟨g, o + i * 3 + 1, none⟩ = some (.int .i64 (findT l p.c))) := fun h => by
    unfold findB at h
    obtain ⟨i, hi⟩ := Option.isSome_iff_exists.1 h
    obtain ⟨h1, h2⟩ := findT_at hi
    obtain ⟨g, o, e1, hg, k0, k1, k2⟩ := (hL.later B0.out).cell3 h1
    rw [h2] at k1
    exact ⟨i, by unfold findI; rw [hi], h1, g, o, e1, fun W2 h3 => (h3.cell (by exact hg)).trans k1⟩
  have HR : Hid (chkP l p = if (!atmB p.K || (decide (p.K = 1) && !opB p.op)) = true then 180
    else if (decide (p.K = 5) && findB l p.c && decide (findT l p.c ≠ 2)) = true then 180
    else if (!rstB p || (decide (p.K = 3) && decide (p.l.length ≠ 2))) = true then 2
    else if findB l p.c = false then 151
    else if (decide (p.K = 2) && decide (1024 < p.l.length)) = true then 3
    else if (valsP p).all (okT (findT l p.c)) = true then 0 else 50) := rfl
  have HLN := hid (show l.length ≤ 140737488355328 from hl)
  generalize chkP l p = R at *
  generalize rstB p = rs at *
  generalize findB l p.c = fb at *
  generalize findI l p.c = fi at *
  generalize findT l p.c = ft at *
  generalize valsP p = vl at *
  generalize l.length = nc at *
  obtain ⟨K, c, op, v, pl, m⟩ := p
  have hpn := hp.n
  dsimp only at *
  generalize hln : pl.length = n at *
  have hpl : pl.length = n := hln
  clear hp hln hL hW HX
  obtain ⟨vK, vI, vb, vs⟩ := v
  unfold pv at *
  unfold pa at *
  dsimp only at *
  rw [hpl] at *
  clear hpl
  subst hk
  obtain ⟨q0, q1, q2, q3, q4, q5, q6, q7, q8⟩ := T.out W (Below.refl _ _)
  go_enter Tryz.func69, Tryz.ntmps69
  go_wp2_with fail
  rw [HW.out]
  refine HF.out.mono ?_
  rintro e1 w1 ⟨rfl, hb⟩
  have B := hid hb
  clear hb HF HW
  clear q0 q1 q2 q3 q4 q5 q6 q7 q8
  obtain ⟨q0, q1, q2, q3, q4, q5, q6, q7, q8⟩ := T.out _ B.out
  rw [show atmB 1 = true by decide] at HA HR
  generalize opB op = ob at *
  cases ob
  · go_wp2_with (first | (go_at_call 63; refine (HA.out _).mono ?_; rintro e w' ⟨rfl, rfl⟩) | (go_at_call 56; refine (HO.out _).mono ?_; rintro e w' ⟨rfl, rfl⟩))
    go_ret
    exact ⟨ret_int (by rw [HR.out]; simp), below_up B0.out B.out⟩
  ·
    go_wp2_with (first | (go_at_call 63; refine (HA.out _).mono ?_; rintro e w' ⟨rfl, rfl⟩) | (go_at_call 56; refine (HO.out _).mono ?_; rintro e w' ⟨rfl, rfl⟩))
    refine (HRS.out _).mono ?_
    rintro e2 w2 ⟨rfl, hb⟩
    replace B := hid (below_up B.out hb)
    clear hb HRS
    clear q0 q1 q2 q3 q4 q5 q6 q7 q8
    obtain ⟨q0, q1, q2, q3, q4, q5, q6, q7, q8⟩ := T.out _ B.out
    cases rs
    · go_wp2_with fail
      go_ret
      exact ⟨ret_int (by rw [HR.out]; simp), below_up B0.out B.out⟩
    ·
      cases fb
      · go_wp2_with fail
        go_ret
        exact ⟨ret_int (by rw [HR.out]; simp), below_up B0.out B.out⟩
      ·
        obtain ⟨i, rfl, hin, g, o, rfl, TC⟩ := HFT.out rfl
        have TC := hid TC
        have hii : (i : Int) < (nc : Int) := by omega
        go_wp2_with fail
        have v0 : Below W.heap.size W w2.drew := below_drewN B.out 1
        have HVM := hid (fun (W2 : World) (h : Below W.heap.size W W2) => HVA.out W2 h)
        clear q0 q1 q2 q3 q4 q5 q6 q7 q8 HVA
        refine wp_region_noPanic ?_
        refine wp_region_held_drew (S := fun v => Below W.heap.size W v) (by kernel_rfl) (v0) (fun hHeld0 => ?_)
        refine wpAnyH_take (i := 0) (oi := { dst := some 74, op := Op.move (Operand.tmp 0), type := 22, pos := "check.go:25", after := #[], guard := none }) (v := ?_) rfl (by kernel_rfl) (by kernel_rfl) (by kernel_rfl) (fun _ _ _ h => h) (Or.inl ⟨by rfl, ?_⟩) (by assumption) ?_
        rotate_left
        · intro W hSw
          try dsimp only at hSw
          obtain ⟨q0, q1, q2, q3, q4, q5, q6, q7, q8⟩ := T.out _ hSw; have tc := TC.out _ hSw
          go_simp
          try with_reducible rfl
        try simp only [Act.put, List.setIfInBounds_toArray, List.set_cons_zero, List.set_cons_succ]
        refine wpAnyH_take (i := 1) (oi := { dst := some 75, op := Op.move (Operand.tmp 5), type := 3, pos := "check.go:25", after := #[], guard := none }) (v := ?_) rfl (by kernel_rfl) (by kernel_rfl) (by kernel_rfl) (fun _ _ _ h => h) (Or.inl ⟨by rfl, ?_⟩) (by assumption) ?_
        rotate_left
        · intro W hSw
          try dsimp only at hSw
          obtain ⟨q0, q1, q2, q3, q4, q5, q6, q7, q8⟩ := T.out _ hSw; have tc := TC.out _ hSw
          go_simp
          try with_reducible rfl
        try simp only [Act.put, List.setIfInBounds_toArray, List.set_cons_zero, List.set_cons_succ]
        refine wpAnyH_take (i := 2) (oi := { dst := some 76, op := Op.indexAddr 22 (Operand.tmp 74) (Operand.tmp 75), type := 0, pos := "check.go:25", after := #[{ on := 0, ground := Ground.data }, { on := 1, ground := Ground.data }], guard := none }) (v := ?_) rfl (by kernel_rfl) (by kernel_rfl) (by kernel_rfl) (fun _ _ _ h => h) (Or.inl ⟨by rfl, ?_⟩) (by assumption) ?_
        rotate_left
        · intro W hSw
          try dsimp only at hSw
          obtain ⟨q0, q1, q2, q3, q4, q5, q6, q7, q8⟩ := T.out _ hSw; have tc := TC.out _ hSw
          go_simp
          try with_reducible rfl
        try simp only [Act.put, List.setIfInBounds_toArray, List.set_cons_zero, List.set_cons_succ]
        refine wpAnyH_take (i := 3) (oi := { dst := some 77, op := Op.fieldAddr 77 (Operand.tmp 76) 1, type := 0, pos := "check.go:25", after := #[{ on := 2, ground := Ground.data }], guard := none }) (v := ?_) rfl (by kernel_rfl) (by kernel_rfl) (by kernel_rfl) (fun _ _ _ h => h) (Or.inl ⟨by rfl, ?_⟩) (by assumption) ?_
        rotate_left
        · intro W hSw
          try dsimp only at hSw
          obtain ⟨q0, q1, q2, q3, q4, q5, q6, q7, q8⟩ := T.out _ hSw; have tc := TC.out _ hSw
          go_simp
          try with_reducible rfl
        try simp only [Act.put, List.setIfInBounds_toArray, List.set_cons_zero, List.set_cons_succ]
        refine wpAnyH_take (i := 4) (oi := { dst := some 78, op := Op.load 3 (Operand.tmp 77), type := 3, pos := "check.go:25", after := #[{ on := 3, ground := Ground.data }], guard := none }) (v := ?_) rfl (by kernel_rfl) (by kernel_rfl) (by kernel_rfl) (fun _ _ _ h => h) (Or.inl ⟨by rfl, ?_⟩) (by assumption) ?_
        rotate_left
        · intro W hSw
          try dsimp only at hSw
          obtain ⟨q0, q1, q2, q3, q4, q5, q6, q7, q8⟩ := T.out _ hSw; have tc := TC.out _ hSw
          go_simp
          try with_reducible rfl
        try simp only [Act.put, List.setIfInBounds_toArray, List.set_cons_zero, List.set_cons_succ]
        refine wpAnyH_take (i := 5) (oi := { dst := some 79, op := Op.load 29 (Operand.tmp 3), type := 29, pos := "check.go:25", after := #[], guard := none }) (v := ?_) rfl (by kernel_rfl) (by kernel_rfl) (by kernel_rfl) (fun _ _ _ h => h) (Or.inl ⟨by rfl, ?_⟩) (by assumption) ?_
        rotate_left
        · intro W hSw
          try dsimp only at hSw
          obtain ⟨q0, q1, q2, q3, q4, q5, q6, q7, q8⟩ := T.out _ hSw; have tc := TC.out _ hSw
          go_simp
          try with_reducible rfl
        try simp only [Act.put, List.setIfInBounds_toArray, List.set_cons_zero, List.set_cons_succ]
        refine wpAnyH_ready (rs := [6]) (by kernel_rfl) (by simp) ?_
        refine AllReadyH.cons (o := { dst := some 80, op := Op.call { callee := Callee.value (Operand.func 81), args := #[Operand.tmp 79], argTypes := #[29] }, type := 26, pos := "check.go:25", after := #[{ on := 5, ground := Ground.data }], guard := none }) rfl (fun K hK => ?_) AllReadyH.nil
        rw [if_pos (by rfl)]
        go_simp
        refine (HVM.out _ v0).mono ?_
        rintro e s1 ⟨a1, c1, rfl, hL1, h1⟩
        have v1 : Below W.heap.size W s1 := below_up v0 h1
        have HL1 := hid hL1
        clear h1 hL1
        refine hK.out _ _ (v1) (fun hHeld1 => ?_)
        clear hK K hHeld0
        try simp only [Act.put, List.setIfInBounds_toArray, List.set_cons_zero, List.set_cons_succ]
        refine wpAnyH_ready (rs := [7]) (by kernel_rfl) (by simp) ?_
        refine AllReadyH.cons (o := { dst := some 81, op := Op.call { callee := Callee.value (Operand.func 80), args := #[Operand.tmp 78, Operand.tmp 80], argTypes := #[3, 26] }, type := 4, pos := "check.go:25", after := #[{ on := 4, ground := Ground.data }, { on := 6, ground := Ground.data }, { on := 6, ground := Ground.chain }], guard := none }) rfl (fun K hK => ?_) AllReadyH.nil
        rw [if_pos (by rfl)]
        go_simp
        refine (HAL.out _ _ _ _ HL1.out).mono ?_
        rintro e s2 ⟨rfl, h2⟩
        have v2 : Below W.heap.size W s2 := below_up v1 h2
        clear h2
        refine hK.out _ _ (v2) (fun hHeld2 => ?_)
        clear hK K hHeld1
        try simp only [Act.put, List.setIfInBounds_toArray, List.set_cons_zero, List.set_cons_succ]
        refine wpAnyH_take (i := 8) (oi := { dst := some 82, op := Op.unOp UnOp.not 4 (Operand.tmp 81), type := 4, pos := "check.go:25", after := #[{ on := 7, ground := Ground.data }], guard := none }) (v := ?_) rfl (by kernel_rfl) (by kernel_rfl) (by kernel_rfl) (fun _ _ _ h => h) (Or.inl ⟨by rfl, ?_⟩) (by assumption) ?_
        rotate_left
        · intro W hSw
          try dsimp only at hSw
          go_simp
          try with_reducible rfl
        try simp only [Act.put, List.setIfInBounds_toArray, List.set_cons_zero, List.set_cons_succ]
        refine wpAnyH_take (i := 9) (oi := { dst := some 73, op := Op.assign (Operand.tmp 82), type := 4, pos := "check.go:25", after := #[{ on := 8, ground := Ground.data }, { on := 7, ground := Ground.chain }], guard := none }) (v := ?_) rfl (by kernel_rfl) (by kernel_rfl) (by kernel_rfl) (fun _ _ _ h => h) (Or.inl ⟨by rfl, ?_⟩) (by assumption) ?_
        rotate_left
        · intro W hSw
          try dsimp only at hSw
          go_simp
          try with_reducible rfl
        try simp only [Act.put, List.setIfInBounds_toArray, List.set_cons_zero, List.set_cons_succ]
        refine wpAnyH_done (by kernel_rfl) ?_ _
        refine NoPanic.normal ?_
        clear hHeld2
        clear v0 v1
        generalize vl.all (okT ft) = q at *
        have B := hid v2
        clear v2
        cases q
        · go_wp2_with fail
          go_ret
          exact ⟨ret_int (by rw [HR.out]; simp), below_up B0.out B.out⟩
        · go_wp2_with fail
          go_ret
          exact ⟨ret_int (by rw [HR.out]; simp), below_up B0.out B.out⟩
end Go.Proofs.YthgnibphhiaecaaGreat

/-
  Check. (Written by mkchk.py.)
-/
namespace Go.Proofs.YthgnibphhiaecaaGreat
open Go.ChangeShapes Go.WideShapes Go.ChangeAt Go.RowKit Cu Vl
attribute [local go_sem] run_store_float

set_option maxRecDepth 8000 in
set_option maxHeartbeats 8000000 in
theorem check_2 (ac : Option Addr) (l : List Col) (dc : Nat) (p : Pr) (a : Option Addr) (d : Nat) (b : Option Addr) (e : Nat) (w : World) (hL : Lst cc 3 w ac l) (hl : l.length ≤ 140737488355328) (hp : POk w p a) (hk : p.K = 2) :
    Calls Tryz.prog 69 #[.slice ac l.length dc, pv p a d b e] w fun r w' => r = .returned (.int .i64 (chkP l p)) ∧ Below w.heap.size w w' := by
  have HA := hid fun w => atom_is p.K w
  have HO := hid fun w => op_is p.op w
  have B0 := hid (below_new w (.cells (pa p a d b e) 29))
  have HX := hid (Bx.new w (pa p a d b e) 29)
  obtain ⟨W, hW⟩ : ∃ W, w.alloc (.cells (pa p a d b e) 29) = W := ⟨_, rfl⟩
  have HW := hid hW
  rw [hW] at HX B0
  have HF := hid (find_any ac l dc p.c W (hL.later B0.out) hl)
  have HRS := hid fun w => rest_any p a d b e w hp.v hp.n hp.m
  have T := hid fun (W2 : World) (h : Below W.heap.size W W2) => (HX.out.later h).prd
  have HVA := hid fun (W2 : World) (h : Below W.heap.size W W2) => vals_any p a d b e W2 ((hp.L.later B0.out).later h)
  have HAL := hid fun (k : Int) (a2 : Option Addr) (c2 : Nat) (W2 : World) (h : Lst vc 4 W2 a2 (valsP p)) => allOf_any k a2 (valsP p) c2 W2 (by
    intro v hv
    unfold valsP at hv
    split at hv
    · simp at hv; subst hv; exact hp.v
    · split at hv
      · exact hp.l v hv
      · cases hv) h (by
    unfold valsP
    split
    · simp
    · split
      · exact hp.n
      · simp)
  have HFT : Hid (findB l p.c = true → ∃ i : Nat, findI l p.c = (i : Int) ∧ i < l.length ∧ ∃ g o, ac = some ⟨g, o, none⟩ ∧ ∀ W2, Below W.heap.size W W2 → W2.cell? ⟨g, o + i * 3 + 1, none⟩ = some (.int .i64 (findT l p.c))) := fun h => by
    unfold findB at h
    obtain ⟨i, hi⟩ := Option.isSome_iff_exists.1 h
    obtain ⟨h1, h2⟩ := findT_at hi
    obtain ⟨g, o, e1, hg, k0, k1, k2⟩ := (hL.later B0.out).cell3 h1
    rw [h2] at k1
    exact ⟨i, by unfold findI; rw [hi], h1, g, o, e1, fun W2 h3 => (h3.cell (by exact hg)).trans k1⟩
  have HR : Hid (chkP l p = if (!atmB p.K || (decide (p.K = 1) && !opB p.op)) = true then 180
    else if (decide (p.K = 5) && findB l p.c && decide (findT l p.c ≠ 2)) = true then 180
    else if (!rstB p || (decide (p.K = 3) && decide (p.l.length ≠ 2))) = true then 2
    else if findB l p.c = false then 151
    else if (decide (p.K = 2) && decide (1024 < p.l.length)) = true then 3
    else if (valsP p).all (okT (findT l p.c)) = true then 0 else 50) := rfl
  have HLN := hid (show l.length ≤ 140737488355328 from hl)
  generalize chkP l p = R at *
  generalize rstB p = rs at *
  generalize findB l p.c = fb at *
  generalize findI l p.c = fi at *
  generalize findT l p.c = ft at *
  generalize valsP p = vl at *
  generalize l.length = nc at *
  obtain ⟨K, c, op, v, pl, m⟩ := p
  have hpn := hp.n
  dsimp only at *
  generalize hln : pl.length = n at *
  have hpl : pl.length = n := hln
  clear hp hln hL hW HX
  obtain ⟨vK, vI, vb, vs⟩ := v
  unfold pv at *
  unfold pa at *
  dsimp only at *
  rw [hpl] at *
  clear hpl
  subst hk
  obtain ⟨q0, q1, q2, q3, q4, q5, q6, q7, q8⟩ := T.out W (Below.refl _ _)
  go_enter Tryz.func69, Tryz.ntmps69
  go_wp2_with fail
  rw [HW.out]
  refine HF.out.mono ?_
  rintro e1 w1 ⟨rfl, hb⟩
  have B := hid hb
  clear hb HF HW
  clear q0 q1 q2 q3 q4 q5 q6 q7 q8
  obtain ⟨q0, q1, q2, q3, q4, q5, q6, q7, q8⟩ := T.out _ B.out
  rw [show atmB 2 = true by decide] at HA HR
  go_wp2_with (first | (go_at_call 63; refine (HA.out _).mono ?_; rintro e w' ⟨rfl, rfl⟩) | (go_at_call 56; refine (HO.out _).mono ?_; rintro e w' ⟨rfl, rfl⟩))
  refine (HRS.out _).mono ?_
  rintro e2 w2 ⟨rfl, hb⟩
  replace B := hid (below_up B.out hb)
  clear hb HRS
  clear q0 q1 q2 q3 q4 q5 q6 q7 q8
  obtain ⟨q0, q1, q2, q3, q4, q5, q6, q7, q8⟩ := T.out _ B.out
  cases rs
  · go_wp2_with fail
    go_ret
    exact ⟨ret_int (by rw [HR.out]; simp), below_up B0.out B.out⟩
  ·
    have hbig : decide (1024 < (n : Int)) = decide (1024 < n) := by rw [Bool.eq_iff_iff]; simp; omega
    cases fb
    · go_wp2_with fail
      go_ret
      exact ⟨ret_int (by rw [HR.out]; simp), below_up B0.out B.out⟩
    ·
      obtain ⟨i, rfl, hin, g, o, rfl, TC⟩ := HFT.out rfl
      have TC := hid TC
      have hii : (i : Int) < (nc : Int) := by omega
      by_cases h4 : 1024 < n
      · have h4' : (1024 : Int) < (n : Int) := by omega
        go_wp2_with fail
        go_ret
        exact ⟨ret_int (by rw [HR.out]; simp [h4]), below_up B0.out B.out⟩
      ·
        have h4' : ¬ (1024 : Int) < (n : Int) := by omega
        go_wp2_with fail
        have v0 : Below W.heap.size W w2.drew := below_drewN B.out 1
        have HVM := hid (fun (W2 : World) (h : Below W.heap.size W W2) => HVA.out W2 h)
        clear q0 q1 q2 q3 q4 q5 q6 q7 q8 HVA
        refine wp_region_noPanic ?_
        refine wp_region_held_drew (S := fun v => Below W.heap.size W v) (by kernel_rfl) (v0) (fun hHeld0 => ?_)
        refine wpAnyH_take (i := 0) (oi := { dst := some 74, op := Op.move (Operand.tmp 0), type := 22, pos := "check.go:25", after := #[], guard := none }) (v := ?_) rfl (by kernel_rfl) (by kernel_rfl) (by kernel_rfl) (fun _ _ _ h => h) (Or.inl ⟨by rfl, ?_⟩) (by assumption) ?_
        rotate_left
        · intro W hSw
          try dsimp only at hSw
          obtain ⟨q0, q1, q2, q3, q4, q5, q6, q7, q8⟩ := T.out _ hSw; have tc := TC.out _ hSw
          go_simp
          try with_reducible rfl
        try simp only [Act.put, List.setIfInBounds_toArray, List.set_cons_zero, List.set_cons_succ]
        refine wpAnyH_take (i := 1) (oi := { dst := some 75, op := Op.move (Operand.tmp 5), type := 3, pos := "check.go:25", after := #[], guard := none }) (v := ?_) rfl (by kernel_rfl) (by kernel_rfl) (by kernel_rfl) (fun _ _ _ h => h) (Or.inl ⟨by rfl, ?_⟩) (by assumption) ?_
        rotate_left
        · intro W hSw
          try dsimp only at hSw
          obtain ⟨q0, q1, q2, q3, q4, q5, q6, q7, q8⟩ := T.out _ hSw; have tc := TC.out _ hSw
          go_simp
          try with_reducible rfl
        try simp only [Act.put, List.setIfInBounds_toArray, List.set_cons_zero, List.set_cons_succ]
        refine wpAnyH_take (i := 2) (oi := { dst := some 76, op := Op.indexAddr 22 (Operand.tmp 74) (Operand.tmp 75), type := 0, pos := "check.go:25", after := #[{ on := 0, ground := Ground.data }, { on := 1, ground := Ground.data }], guard := none }) (v := ?_) rfl (by kernel_rfl) (by kernel_rfl) (by kernel_rfl) (fun _ _ _ h => h) (Or.inl ⟨by rfl, ?_⟩) (by assumption) ?_
        rotate_left
        · intro W hSw
          try dsimp only at hSw
          obtain ⟨q0, q1, q2, q3, q4, q5, q6, q7, q8⟩ := T.out _ hSw; have tc := TC.out _ hSw
          go_simp
          try with_reducible rfl
        try simp only [Act.put, List.setIfInBounds_toArray, List.set_cons_zero, List.set_cons_succ]
        refine wpAnyH_take (i := 3) (oi := { dst := some 77, op := Op.fieldAddr 77 (Operand.tmp 76) 1, type := 0, pos := "check.go:25", after := #[{ on := 2, ground := Ground.data }], guard := none }) (v := ?_) rfl (by kernel_rfl) (by kernel_rfl) (by kernel_rfl) (fun _ _ _ h => h) (Or.inl ⟨by rfl, ?_⟩) (by assumption) ?_
        rotate_left
        · intro W hSw
          try dsimp only at hSw
          obtain ⟨q0, q1, q2, q3, q4, q5, q6, q7, q8⟩ := T.out _ hSw; have tc := TC.out _ hSw
          go_simp
          try with_reducible rfl
        try simp only [Act.put, List.setIfInBounds_toArray, List.set_cons_zero, List.set_cons_succ]
        refine wpAnyH_take (i := 4) (oi := { dst := some 78, op := Op.load 3 (Operand.tmp 77), type := 3, pos := "check.go:25", after := #[{ on := 3, ground := Ground.data }], guard := none }) (v := ?_) rfl (by kernel_rfl) (by kernel_rfl) (by kernel_rfl) (fun _ _ _ h => h) (Or.inl ⟨by rfl, ?_⟩) (by assumption) ?_
        rotate_left
        · intro W hSw
          try dsimp only at hSw
          obtain ⟨q0, q1, q2, q3, q4, q5, q6, q7, q8⟩ := T.out _ hSw; have tc := TC.out _ hSw
          go_simp
          try with_reducible rfl
        try simp only [Act.put, List.setIfInBounds_toArray, List.set_cons_zero, List.set_cons_succ]
        refine wpAnyH_take (i := 5) (oi := { dst := some 79, op := Op.load 29 (Operand.tmp 3), type := 29, pos := "check.go:25", after := #[], guard := none }) (v := ?_) rfl (by kernel_rfl) (by kernel_rfl) (by kernel_rfl) (fun _ _ _ h => h) (Or.inl ⟨by rfl, ?_⟩) (by assumption) ?_
        rotate_left
        · intro W hSw
          try dsimp only at hSw
          obtain ⟨q0, q1, q2, q3, q4, q5, q6, q7, q8⟩ := T.out _ hSw; have tc := TC.out _ hSw
          go_simp
          try with_reducible rfl
        try simp only [Act.put, List.setIfInBounds_toArray, List.set_cons_zero, List.set_cons_succ]
        refine wpAnyH_ready (rs := [6]) (by kernel_rfl) (by simp) ?_
        refine AllReadyH.cons (o := { dst := some 80, op := Op.call { callee := Callee.value (Operand.func 81), args := #[Operand.tmp 79], argTypes := #[29] }, type := 26, pos := "check.go:25", after := #[{ on := 5, ground := Ground.data }], guard := none }) rfl (fun K hK => ?_) AllReadyH.nil
        rw [if_pos (by rfl)]
        go_simp
        refine (HVM.out _ v0).mono ?_
        rintro e s1 ⟨a1, c1, rfl, hL1, h1⟩
        have v1 : Below W.heap.size W s1 := below_up v0 h1
        have HL1 := hid hL1
        clear h1 hL1
        refine hK.out _ _ (v1) (fun hHeld1 => ?_)
        clear hK K hHeld0
        try simp only [Act.put, List.setIfInBounds_toArray, List.set_cons_zero, List.set_cons_succ]
        refine wpAnyH_ready (rs := [7]) (by kernel_rfl) (by simp) ?_
        refine AllReadyH.cons (o := { dst := some 81, op := Op.call { callee := Callee.value (Operand.func 80), args := #[Operand.tmp 78, Operand.tmp 80], argTypes := #[3, 26] }, type := 4, pos := "check.go:25", after := #[{ on := 4, ground := Ground.data }, { on := 6, ground := Ground.data }, { on := 6, ground := Ground.chain }], guard := none }) rfl (fun K hK => ?_) AllReadyH.nil
        rw [if_pos (by rfl)]
        go_simp
        refine (HAL.out _ _ _ _ HL1.out).mono ?_
        rintro e s2 ⟨rfl, h2⟩
        have v2 : Below W.heap.size W s2 := below_up v1 h2
        clear h2
        refine hK.out _ _ (v2) (fun hHeld2 => ?_)
        clear hK K hHeld1
        try simp only [Act.put, List.setIfInBounds_toArray, List.set_cons_zero, List.set_cons_succ]
        refine wpAnyH_take (i := 8) (oi := { dst := some 82, op := Op.unOp UnOp.not 4 (Operand.tmp 81), type := 4, pos := "check.go:25", after := #[{ on := 7, ground := Ground.data }], guard := none }) (v := ?_) rfl (by kernel_rfl) (by kernel_rfl) (by kernel_rfl) (fun _ _ _ h => h) (Or.inl ⟨by rfl, ?_⟩) (by assumption) ?_
        rotate_left
        · intro W hSw
          try dsimp only at hSw
          go_simp
          try with_reducible rfl
        try simp only [Act.put, List.setIfInBounds_toArray, List.set_cons_zero, List.set_cons_succ]
        refine wpAnyH_take (i := 9) (oi := { dst := some 73, op := Op.assign (Operand.tmp 82), type := 4, pos := "check.go:25", after := #[{ on := 8, ground := Ground.data }, { on := 7, ground := Ground.chain }], guard := none }) (v := ?_) rfl (by kernel_rfl) (by kernel_rfl) (by kernel_rfl) (fun _ _ _ h => h) (Or.inl ⟨by rfl, ?_⟩) (by assumption) ?_
        rotate_left
        · intro W hSw
          try dsimp only at hSw
          go_simp
          try with_reducible rfl
        try simp only [Act.put, List.setIfInBounds_toArray, List.set_cons_zero, List.set_cons_succ]
        refine wpAnyH_done (by kernel_rfl) ?_ _
        refine NoPanic.normal ?_
        clear hHeld2
        clear v0 v1
        generalize vl.all (okT ft) = q at *
        have B := hid v2
        clear v2
        cases q
        · go_wp2_with fail
          go_ret
          exact ⟨ret_int (by rw [HR.out]; simp [h4]), below_up B0.out B.out⟩
        · go_wp2_with fail
          go_ret
          exact ⟨ret_int (by rw [HR.out]; simp [h4]), below_up B0.out B.out⟩
end Go.Proofs.YthgnibphhiaecaaGreat

/-
  Check. (Written by mkchk.py.)
-/
namespace Go.Proofs.YthgnibphhiaecaaGreat
open Go.ChangeShapes Go.WideShapes Go.ChangeAt Go.RowKit Cu Vl
attribute [local go_sem] run_store_float

set_option maxRecDepth 8000 in
set_option maxHeartbeats 8000000 in
theorem check_3 (ac : Option Addr) (l : List Col) (dc : Nat) (p : Pr) (a : Option Addr) (d : Nat) (b : Option Addr) (e : Nat) (w : World) (hL : Lst cc 3 w ac l) (hl : l.length ≤ 140737488355328) (hp : POk w p a) (hk : p.K = 3) :
    Calls Tryz.prog 69 #[.slice ac l.length dc, pv p a d b e] w fun r w' => r = .returned (.int .i64 (chkP l p)) ∧ Below w.heap.size w w' := by
  have HA := hid fun w => atom_is p.K w
  have HO := hid fun w => op_is p.op w
  have B0 := hid (below_new w (.cells (pa p a d b e) 29))
  have HX := hid (Bx.new w (pa p a d b e) 29)
  obtain ⟨W, hW⟩ : ∃ W, w.alloc (.cells (pa p a d b e) 29) = W := ⟨_, rfl⟩
  have HW := hid hW
  rw [hW] at HX B0
  have HF := hid (find_any ac l dc p.c W (hL.later B0.out) hl)
  have HRS := hid fun w => rest_any p a d b e w hp.v hp.n hp.m
  have T := hid fun (W2 : World) (h : Below W.heap.size W W2) => (HX.out.later h).prd
  have HVA := hid fun (W2 : World) (h : Below W.heap.size W W2) => vals_any p a d b e W2 ((hp.L.later B0.out).later h)
  have HAL := hid fun (k : Int) (a2 : Option Addr) (c2 : Nat) (W2 : World) (h : Lst vc 4 W2 a2 (valsP p)) => allOf_any k a2 (valsP p) c2 W2 (by
    intro v hv
    unfold valsP at hv
    split at hv
    · simp at hv; subst hv; exact hp.v
    · split at hv
      · exact hp.l v hv
      · cases hv) h (by
    unfold valsP
    split
    · simp
    · split
      · exact hp.n
      · simp)
  have HFT : Hid (findB l p.c = true → ∃ i : Nat, findI l p.c = (i : Int) ∧ i < l.length ∧ ∃ g o, ac = some ⟨g, o, none⟩ ∧ ∀ W2, Below W.heap.size W W2 → W2.cell? ⟨g, o + i * 3 + 1, none⟩ = some (.int .i64 (findT l p.c))) := fun h => by
    unfold findB at h
    obtain ⟨i, hi⟩ := Option.isSome_iff_exists.1 h
    obtain ⟨h1, h2⟩ := findT_at hi
    obtain ⟨g, o, e1, hg, k0, k1, k2⟩ := (hL.later B0.out).cell3 h1
    rw [h2] at k1
    exact ⟨i, by unfold findI; rw [hi], h1, g, o, e1, fun W2 h3 => (h3.cell (by exact hg)).trans k1⟩
  have HR : Hid (chkP l p = if (!atmB p.K || (decide (p.K = 1) && !opB p.op)) = true then 180
    else if (decide (p.K = 5) && findB l p.c && decide (findT l p.c ≠ 2)) = true then 180
    else if (!rstB p || (decide (p.K = 3) && decide (p.l.length ≠ 2))) = true then 2
    else if findB l p.c = false then 151
    else if (decide (p.K = 2) && decide (1024 < p.l.length)) = true then 3
    else if (valsP p).all (okT (findT l p.c)) = true then 0 else 50) := rfl
  have HLN := hid (show l.length ≤ 140737488355328 from hl)
  generalize chkP l p = R at *
  generalize rstB p = rs at *
  generalize findB l p.c = fb at *
  generalize findI l p.c = fi at *
  generalize findT l p.c = ft at *
  generalize valsP p = vl at *
  generalize l.length = nc at *
  obtain ⟨K, c, op, v, pl, m⟩ := p
  have hpn := hp.n
  dsimp only at *
  generalize hln : pl.length = n at *
  have hpl : pl.length = n := hln
  clear hp hln hL hW HX
  obtain ⟨vK, vI, vb, vs⟩ := v
  unfold pv at *
  unfold pa at *
  dsimp only at *
  rw [hpl] at *
  clear hpl
  subst hk
  obtain ⟨q0, q1, q2, q3, q4, q5, q6, q7, q8⟩ := T.out W (Below.refl _ _)
  go_enter Tryz.func69, Tryz.ntmps69
  go_wp2_with fail
  rw [HW.out]
  refine HF.out.mono ?_
  rintro e1 w1 ⟨rfl, hb⟩
  have B := hid hb
  clear hb HF HW
  clear q0 q1 q2 q3 q4 q5 q6 q7 q8
  obtain ⟨q0, q1, q2, q3, q4, q5, q6, q7, q8⟩ := T.out _ B.out
  rw [show atmB 3 = true by decide] at HA HR
  go_wp2_with (first | (go_at_call 63; refine (HA.out _).mono ?_; rintro e w' ⟨rfl, rfl⟩) | (go_at_call 56; refine (HO.out _).mono ?_; rintro e w' ⟨rfl, rfl⟩))
  refine (HRS.out _).mono ?_
  rintro e2 w2 ⟨rfl, hb⟩
  replace B := hid (below_up B.out hb)
  clear hb HRS
  clear q0 q1 q2 q3 q4 q5 q6 q7 q8
  obtain ⟨q0, q1, q2, q3, q4, q5, q6, q7, q8⟩ := T.out _ B.out
  cases rs
  · go_wp2_with fail
    go_ret
    exact ⟨ret_int (by rw [HR.out]; simp), below_up B0.out B.out⟩
  ·
    by_cases h2 : n = 2
    · subst h2
      cases fb
      · go_wp2_with fail
        go_ret
        exact ⟨ret_int (by rw [HR.out]; simp), below_up B0.out B.out⟩
      ·
        obtain ⟨i, rfl, hin, g, o, rfl, TC⟩ := HFT.out rfl
        have TC := hid TC
        have hii : (i : Int) < (nc : Int) := by omega
        go_wp2_with fail
        have v0 : Below W.heap.size W w2.drew := below_drewN B.out 1
        have HVM := hid (fun (W2 : World) (h : Below W.heap.size W W2) => HVA.out W2 h)
        clear q0 q1 q2 q3 q4 q5 q6 q7 q8 HVA
        refine wp_region_noPanic ?_
        refine wp_region_held_drew (S := fun v => Below W.heap.size W v) (by kernel_rfl) (v0) (fun hHeld0 => ?_)
        refine wpAnyH_take (i := 0) (oi := { dst := some 74, op := Op.move (Operand.tmp 0), type := 22, pos := "check.go:25", after := #[], guard := none }) (v := ?_) rfl (by kernel_rfl) (by kernel_rfl) (by kernel_rfl) (fun _ _ _ h => h) (Or.inl ⟨by rfl, ?_⟩) (by assumption) ?_
        rotate_left
        · intro W hSw
          try dsimp only at hSw
          obtain ⟨q0, q1, q2, q3, q4, q5, q6, q7, q8⟩ := T.out _ hSw; have tc := TC.out _ hSw
          go_simp
          try with_reducible rfl
        try simp only [Act.put, List.setIfInBounds_toArray, List.set_cons_zero, List.set_cons_succ]
        refine wpAnyH_take (i := 1) (oi := { dst := some 75, op := Op.move (Operand.tmp 5), type := 3, pos := "check.go:25", after := #[], guard := none }) (v := ?_) rfl (by kernel_rfl) (by kernel_rfl) (by kernel_rfl) (fun _ _ _ h => h) (Or.inl ⟨by rfl, ?_⟩) (by assumption) ?_
        rotate_left
        · intro W hSw
          try dsimp only at hSw
          obtain ⟨q0, q1, q2, q3, q4, q5, q6, q7, q8⟩ := T.out _ hSw; have tc := TC.out _ hSw
          go_simp
          try with_reducible rfl
        try simp only [Act.put, List.setIfInBounds_toArray, List.set_cons_zero, List.set_cons_succ]
        refine wpAnyH_take (i := 2) (oi := { dst := some 76, op := Op.indexAddr 22 (Operand.tmp 74) (Operand.tmp 75), type := 0, pos := "check.go:25", after := #[{ on := 0, ground := Ground.data }, { on := 1, ground := Ground.data }], guard := none }) (v := ?_) rfl (by kernel_rfl) (by kernel_rfl) (by kernel_rfl) (fun _ _ _ h => h) (Or.inl ⟨by rfl, ?_⟩) (by assumption) ?_
        rotate_left
        · intro W hSw
          try dsimp only at hSw
          obtain ⟨q0, q1, q2, q3, q4, q5, q6, q7, q8⟩ := T.out _ hSw; have tc := TC.out _ hSw
          go_simp
          try with_reducible rfl
        try simp only [Act.put, List.setIfInBounds_toArray, List.set_cons_zero, List.set_cons_succ]
        refine wpAnyH_take (i := 3) (oi := { dst := some 77, op := Op.fieldAddr 77 (Operand.tmp 76) 1, type := 0, pos := "check.go:25", after := #[{ on := 2, ground := Ground.data }], guard := none }) (v := ?_) rfl (by kernel_rfl) (by kernel_rfl) (by kernel_rfl) (fun _ _ _ h => h) (Or.inl ⟨by rfl, ?_⟩) (by assumption) ?_
        rotate_left
        · intro W hSw
          try dsimp only at hSw
          obtain ⟨q0, q1, q2, q3, q4, q5, q6, q7, q8⟩ := T.out _ hSw; have tc := TC.out _ hSw
          go_simp
          try with_reducible rfl
        try simp only [Act.put, List.setIfInBounds_toArray, List.set_cons_zero, List.set_cons_succ]
        refine wpAnyH_take (i := 4) (oi := { dst := some 78, op := Op.load 3 (Operand.tmp 77), type := 3, pos := "check.go:25", after := #[{ on := 3, ground := Ground.data }], guard := none }) (v := ?_) rfl (by kernel_rfl) (by kernel_rfl) (by kernel_rfl) (fun _ _ _ h => h) (Or.inl ⟨by rfl, ?_⟩) (by assumption) ?_
        rotate_left
        · intro W hSw
          try dsimp only at hSw
          obtain ⟨q0, q1, q2, q3, q4, q5, q6, q7, q8⟩ := T.out _ hSw; have tc := TC.out _ hSw
          go_simp
          try with_reducible rfl
        try simp only [Act.put, List.setIfInBounds_toArray, List.set_cons_zero, List.set_cons_succ]
        refine wpAnyH_take (i := 5) (oi := { dst := some 79, op := Op.load 29 (Operand.tmp 3), type := 29, pos := "check.go:25", after := #[], guard := none }) (v := ?_) rfl (by kernel_rfl) (by kernel_rfl) (by kernel_rfl) (fun _ _ _ h => h) (Or.inl ⟨by rfl, ?_⟩) (by assumption) ?_
        rotate_left
        · intro W hSw
          try dsimp only at hSw
          obtain ⟨q0, q1, q2, q3, q4, q5, q6, q7, q8⟩ := T.out _ hSw; have tc := TC.out _ hSw
          go_simp
          try with_reducible rfl
        try simp only [Act.put, List.setIfInBounds_toArray, List.set_cons_zero, List.set_cons_succ]
        refine wpAnyH_ready (rs := [6]) (by kernel_rfl) (by simp) ?_
        refine AllReadyH.cons (o := { dst := some 80, op := Op.call { callee := Callee.value (Operand.func 81), args := #[Operand.tmp 79], argTypes := #[29] }, type := 26, pos := "check.go:25", after := #[{ on := 5, ground := Ground.data }], guard := none }) rfl (fun K hK => ?_) AllReadyH.nil
        rw [if_pos (by rfl)]
        go_simp
        refine (HVM.out _ v0).mono ?_
        rintro e s1 ⟨a1, c1, rfl, hL1, h1⟩
        have v1 : Below W.heap.size W s1 := below_up v0 h1
        have HL1 := hid hL1
        clear h1 hL1
        refine hK.out _ _ (v1) (fun hHeld1 => ?_)
        clear hK K hHeld0
        try simp only [Act.put, List.setIfInBounds_toArray, List.set_cons_zero, List.set_cons_succ]
        refine wpAnyH_ready (rs := [7]) (by kernel_rfl) (by simp) ?_
        refine AllReadyH.cons (o := { dst := some 81, op := Op.call { callee := Callee.value (Operand.func 80), args := #[Operand.tmp 78, Operand.tmp 80], argTypes := #[3, 26] }, type := 4, pos := "check.go:25", after := #[{ on := 4, ground := Ground.data }, { on := 6, ground := Ground.data }, { on := 6, ground := Ground.chain }], guard := none }) rfl (fun K hK => ?_) AllReadyH.nil
        rw [if_pos (by rfl)]
        go_simp
        refine (HAL.out _ _ _ _ HL1.out).mono ?_
        rintro e s2 ⟨rfl, h2⟩
        have v2 : Below W.heap.size W s2 := below_up v1 h2
        clear h2
        refine hK.out _ _ (v2) (fun hHeld2 => ?_)
        clear hK K hHeld1
        try simp only [Act.put, List.setIfInBounds_toArray, List.set_cons_zero, List.set_cons_succ]
        refine wpAnyH_take (i := 8) (oi := { dst := some 82, op := Op.unOp UnOp.not 4 (Operand.tmp 81), type := 4, pos := "check.go:25", after := #[{ on := 7, ground := Ground.data }], guard := none }) (v := ?_) rfl (by kernel_rfl) (by kernel_rfl) (by kernel_rfl) (fun _ _ _ h => h) (Or.inl ⟨by rfl, ?_⟩) (by assumption) ?_
        rotate_left
        · intro W hSw
          try dsimp only at hSw
          go_simp
          try with_reducible rfl
        try simp only [Act.put, List.setIfInBounds_toArray, List.set_cons_zero, List.set_cons_succ]
        refine wpAnyH_take (i := 9) (oi := { dst := some 73, op := Op.assign (Operand.tmp 82), type := 4, pos := "check.go:25", after := #[{ on := 8, ground := Ground.data }, { on := 7, ground := Ground.chain }], guard := none }) (v := ?_) rfl (by kernel_rfl) (by kernel_rfl) (by kernel_rfl) (fun _ _ _ h => h) (Or.inl ⟨by rfl, ?_⟩) (by assumption) ?_
        rotate_left
        · intro W hSw
          try dsimp only at hSw
          go_simp
          try with_reducible rfl
        try simp only [Act.put, List.setIfInBounds_toArray, List.set_cons_zero, List.set_cons_succ]
        refine wpAnyH_done (by kernel_rfl) ?_ _
        refine NoPanic.normal ?_
        clear hHeld2
        clear v0 v1
        generalize vl.all (okT ft) = q at *
        have B := hid v2
        clear v2
        cases q
        · go_wp2_with fail
          go_ret
          exact ⟨ret_int (by rw [HR.out]; simp), below_up B0.out B.out⟩
        · go_wp2_with fail
          go_ret
          exact ⟨ret_int (by rw [HR.out]; simp), below_up B0.out B.out⟩
    · have h2' : ¬ ((n : Int) = 2) := by omega
      have h2'' : ((n : Int) != 2) = true := by simp; omega
      go_wp2_with fail
      go_ret
      exact ⟨ret_int (by rw [HR.out]; simp [h2]), below_up B0.out B.out⟩
end Go.Proofs.YthgnibphhiaecaaGreat

/-
  Check. (Written by mkchk.py.)
-/
namespace Go.Proofs.YthgnibphhiaecaaGreat
open Go.ChangeShapes Go.WideShapes Go.ChangeAt Go.RowKit Cu Vl
attribute [local go_sem] run_store_float

set_option maxRecDepth 8000 in
set_option maxHeartbeats 8000000 in
theorem check_4 (ac : Option Addr) (l : List Col) (dc : Nat) (p : Pr) (a : Option Addr) (d : Nat) (b : Option Addr) (e : Nat) (w : World) (hL : Lst cc 3 w ac l) (hl : l.length ≤ 140737488355328) (hp : POk w p a) (hk : p.K = 4) :
    Calls Tryz.prog 69 #[.slice ac l.length dc, pv p a d b e] w fun r w' => r = .returned (.int .i64 (chkP l p)) ∧ Below w.heap.size w w' := by
  have HA := hid fun w => atom_is p.K w
  have HO := hid fun w => op_is p.op w
  have B0 := hid (below_new w (.cells (pa p a d b e) 29))
  have HX := hid (Bx.new w (pa p a d b e) 29)
  obtain ⟨W, hW⟩ : ∃ W, w.alloc (.cells (pa p a d b e) 29) = W := ⟨_, rfl⟩
  have HW := hid hW
  rw [hW] at HX B0
  have HF := hid (find_any ac l dc p.c W (hL.later B0.out) hl)
  have HRS := hid fun w => rest_any p a d b e w hp.v hp.n hp.m
  have T := hid fun (W2 : World) (h : Below W.heap.size W W2) => (HX.out.later h).prd
  have HVA := hid fun (W2 : World) (h : Below W.heap.size W W2) => vals_any p a d b e W2 ((hp.L.later B0.out).later h)
  have HAL := hid fun (k : Int) (a2 : Option Addr) (c2 : Nat) (W2 : World) (h : Lst vc 4 W2 a2 (valsP p)) => allOf_any k a2 (valsP p) c2 W2 (by
    intro v hv
    unfold valsP at hv
    split at hv
    · simp at hv; subst hv; exact hp.v
    · split at hv
      · exact hp.l v hv
      · cases hv) h (by
    unfold valsP
    split
    · simp
    · split
      · exact hp.n
      · simp)
  have HFT : Hid (findB l p.c = true → ∃ i : Nat, findI l p.c = (i : Int) ∧ i < l.length ∧ ∃ g o, ac = some ⟨g, o, none⟩ ∧ ∀ W2, Below W.heap.size W W2 → W2.cell? ⟨g, o + i * 3 + 1, none⟩ = some (.int .i64 (findT l p.c))) := fun h => by
    unfold findB at h
    obtain ⟨i, hi⟩ := Option.isSome_iff_exists.1 h
    obtain ⟨h1, h2⟩ := findT_at hi
    obtain ⟨g, o, e1, hg, k0, k1, k2⟩ := (hL.later B0.out).cell3 h1
    rw [h2] at k1
    exact ⟨i, by unfold findI; rw [hi], h1, g, o, e1, fun W2 h3 => (h3.cell (by exact hg)).trans k1⟩
  have HR : Hid (chkP l p = if (!atmB p.K || (decide (p.K = 1) && !opB p.op)) = true then 180
    else if (decide (p.K = 5) && findB l p.c && decide (findT l p.c ≠ 2)) = true then 180
    else if (!rstB p || (decide (p.K = 3) && decide (p.l.length ≠ 2))) = true then 2
    else if findB l p.c = false then 151
    else if (decide (p.K = 2) && decide (1024 < p.l.length)) = true then 3
    else if (valsP p).all (okT (findT l p.c)) = true then 0 else 50) := rfl
  have HLN := hid (show l.length ≤ 140737488355328 from hl)
  generalize chkP l p = R at *
  generalize rstB p = rs at *
  generalize findB l p.c = fb at *
  generalize findI l p.c = fi at *
  generalize findT l p.c = ft at *
  generalize valsP p = vl at *
  generalize l.length = nc at *
  obtain ⟨K, c, op, v, pl, m⟩ := p
  have hpn := hp.n
  dsimp only at *
  generalize hln : pl.length = n at *
  have hpl : pl.length = n := hln
  clear hp hln hL hW HX
  obtain ⟨vK, vI, vb, vs⟩ := v
  unfold pv at *
  unfold pa at *
  dsimp only at *
  rw [hpl] at *
  clear hpl
  subst hk
  obtain ⟨q0, q1, q2, q3, q4, q5, q6, q7, q8⟩ := T.out W (Below.refl _ _)
  go_enter Tryz.func69, Tryz.ntmps69
  go_wp2_with fail
  rw [HW.out]
  refine HF.out.mono ?_
  rintro e1 w1 ⟨rfl, hb⟩
  have B := hid hb
  clear hb HF HW
  clear q0 q1 q2 q3 q4 q5 q6 q7 q8
  obtain ⟨q0, q1, q2, q3, q4, q5, q6, q7, q8⟩ := T.out _ B.out
  rw [show atmB 4 = true by decide] at HA HR
  go_wp2_with (first | (go_at_call 63; refine (HA.out _).mono ?_; rintro e w' ⟨rfl, rfl⟩) | (go_at_call 56; refine (HO.out _).mono ?_; rintro e w' ⟨rfl, rfl⟩))
  refine (HRS.out _).mono ?_
  rintro e2 w2 ⟨rfl, hb⟩
  replace B := hid (below_up B.out hb)
  clear hb HRS
  clear q0 q1 q2 q3 q4 q5 q6 q7 q8
  obtain ⟨q0, q1, q2, q3, q4, q5, q6, q7, q8⟩ := T.out _ B.out
  cases rs
  · go_wp2_with fail
    go_ret
    exact ⟨ret_int (by rw [HR.out]; simp), below_up B0.out B.out⟩
  ·
    cases fb
    · go_wp2_with fail
      go_ret
      exact ⟨ret_int (by rw [HR.out]; simp), below_up B0.out B.out⟩
    ·
      obtain ⟨i, rfl, hin, g, o, rfl, TC⟩ := HFT.out rfl
      have TC := hid TC
      have hii : (i : Int) < (nc : Int) := by omega
      go_wp2_with fail
      have v0 : Below W.heap.size W w2.drew := below_drewN B.out 1
      have HVM := hid (fun (W2 : World) (h : Below W.heap.size W W2) => HVA.out W2 h)
      clear q0 q1 q2 q3 q4 q5 q6 q7 q8 HVA
      refine wp_region_noPanic ?_
      refine wp_region_held_drew (S := fun v => Below W.heap.size W v) (by kernel_rfl) (v0) (fun hHeld0 => ?_)
      refine wpAnyH_take (i := 0) (oi := { dst := some 74, op := Op.move (Operand.tmp 0), type := 22, pos := "check.go:25", after := #[], guard := none }) (v := ?_) rfl (by kernel_rfl) (by kernel_rfl) (by kernel_rfl) (fun _ _ _ h => h) (Or.inl ⟨by rfl, ?_⟩) (by assumption) ?_
      rotate_left
      · intro W hSw
        try dsimp only at hSw
        obtain ⟨q0, q1, q2, q3, q4, q5, q6, q7, q8⟩ := T.out _ hSw; have tc := TC.out _ hSw
        go_simp
        try with_reducible rfl
      try simp only [Act.put, List.setIfInBounds_toArray, List.set_cons_zero, List.set_cons_succ]
      refine wpAnyH_take (i := 1) (oi := { dst := some 75, op := Op.move (Operand.tmp 5), type := 3, pos := "check.go:25", after := #[], guard := none }) (v := ?_) rfl (by kernel_rfl) (by kernel_rfl) (by kernel_rfl) (fun _ _ _ h => h) (Or.inl ⟨by rfl, ?_⟩) (by assumption) ?_
      rotate_left
      · intro W hSw
        try dsimp only at hSw
        obtain ⟨q0, q1, q2, q3, q4, q5, q6, q7, q8⟩ := T.out _ hSw; have tc := TC.out _ hSw
        go_simp
        try with_reducible rfl
      try simp only [Act.put, List.setIfInBounds_toArray, List.set_cons_zero, List.set_cons_succ]
      refine wpAnyH_take (i := 2) (oi := { dst := some 76, op := Op.indexAddr 22 (Operand.tmp 74) (Operand.tmp 75), type := 0, pos := "check.go:25", after := #[{ on := 0, ground := Ground.data }, { on := 1, ground := Ground.data }], guard := none }) (v := ?_) rfl (by kernel_rfl) (by kernel_rfl) (by kernel_rfl) (fun _ _ _ h => h) (Or.inl ⟨by rfl, ?_⟩) (by assumption) ?_
      rotate_left
      · intro W hSw
        try dsimp only at hSw
        obtain ⟨q0, q1, q2, q3, q4, q5, q6, q7, q8⟩ := T.out _ hSw; have tc := TC.out _ hSw
        go_simp
        try with_reducible rfl
      try simp only [Act.put, List.setIfInBounds_toArray, List.set_cons_zero, List.set_cons_succ]
      refine wpAnyH_take (i := 3) (oi := { dst := some 77, op := Op.fieldAddr 77 (Operand.tmp 76) 1, type := 0, pos := "check.go:25", after := #[{ on := 2, ground := Ground.data }], guard := none }) (v := ?_) rfl (by kernel_rfl) (by kernel_rfl) (by kernel_rfl) (fun _ _ _ h => h) (Or.inl ⟨by rfl, ?_⟩) (by assumption) ?_
      rotate_left
      · intro W hSw
        try dsimp only at hSw
        obtain ⟨q0, q1, q2, q3, q4, q5, q6, q7, q8⟩ := T.out _ hSw; have tc := TC.out _ hSw
        go_simp
        try with_reducible rfl
      try simp only [Act.put, List.setIfInBounds_toArray, List.set_cons_zero, List.set_cons_succ]
      refine wpAnyH_take (i := 4) (oi := { dst := some 78, op := Op.load 3 (Operand.tmp 77), type := 3, pos := "check.go:25", after := #[{ on := 3, ground := Ground.data }], guard := none }) (v := ?_) rfl (by kernel_rfl) (by kernel_rfl) (by kernel_rfl) (fun _ _ _ h => h) (Or.inl ⟨by rfl, ?_⟩) (by assumption) ?_
      rotate_left
      · intro W hSw
        try dsimp only at hSw
        obtain ⟨q0, q1, q2, q3, q4, q5, q6, q7, q8⟩ := T.out _ hSw; have tc := TC.out _ hSw
        go_simp
        try with_reducible rfl
      try simp only [Act.put, List.setIfInBounds_toArray, List.set_cons_zero, List.set_cons_succ]
      refine wpAnyH_take (i := 5) (oi := { dst := some 79, op := Op.load 29 (Operand.tmp 3), type := 29, pos := "check.go:25", after := #[], guard := none }) (v := ?_) rfl (by kernel_rfl) (by kernel_rfl) (by kernel_rfl) (fun _ _ _ h => h) (Or.inl ⟨by rfl, ?_⟩) (by assumption) ?_
      rotate_left
      · intro W hSw
        try dsimp only at hSw
        obtain ⟨q0, q1, q2, q3, q4, q5, q6, q7, q8⟩ := T.out _ hSw; have tc := TC.out _ hSw
        go_simp
        try with_reducible rfl
      try simp only [Act.put, List.setIfInBounds_toArray, List.set_cons_zero, List.set_cons_succ]
      refine wpAnyH_ready (rs := [6]) (by kernel_rfl) (by simp) ?_
      refine AllReadyH.cons (o := { dst := some 80, op := Op.call { callee := Callee.value (Operand.func 81), args := #[Operand.tmp 79], argTypes := #[29] }, type := 26, pos := "check.go:25", after := #[{ on := 5, ground := Ground.data }], guard := none }) rfl (fun K hK => ?_) AllReadyH.nil
      rw [if_pos (by rfl)]
      go_simp
      refine (HVM.out _ v0).mono ?_
      rintro e s1 ⟨a1, c1, rfl, hL1, h1⟩
      have v1 : Below W.heap.size W s1 := below_up v0 h1
      have HL1 := hid hL1
      clear h1 hL1
      refine hK.out _ _ (v1) (fun hHeld1 => ?_)
      clear hK K hHeld0
      try simp only [Act.put, List.setIfInBounds_toArray, List.set_cons_zero, List.set_cons_succ]
      refine wpAnyH_ready (rs := [7]) (by kernel_rfl) (by simp) ?_
      refine AllReadyH.cons (o := { dst := some 81, op := Op.call { callee := Callee.value (Operand.func 80), args := #[Operand.tmp 78, Operand.tmp 80], argTypes := #[3, 26] }, type := 4, pos := "check.go:25", after := #[{ on := 4, ground := Ground.data }, { on := 6, ground := Ground.data }, { on := 6, ground := Ground.chain }], guard := none }) rfl (fun K hK => ?_) AllReadyH.nil
      rw [if_pos (by rfl)]
      go_simp
      refine (HAL.out _ _ _ _ HL1.out).mono ?_
      rintro e s2 ⟨rfl, h2⟩
      have v2 : Below W.heap.size W s2 := below_up v1 h2
      clear h2
      refine hK.out _ _ (v2) (fun hHeld2 => ?_)
      clear hK K hHeld1
      try simp only [Act.put, List.setIfInBounds_toArray, List.set_cons_zero, List.set_cons_succ]
      refine wpAnyH_take (i := 8) (oi := { dst := some 82, op := Op.unOp UnOp.not 4 (Operand.tmp 81), type := 4, pos := "check.go:25", after := #[{ on := 7, ground := Ground.data }], guard := none }) (v := ?_) rfl (by kernel_rfl) (by kernel_rfl) (by kernel_rfl) (fun _ _ _ h => h) (Or.inl ⟨by rfl, ?_⟩) (by assumption) ?_
      rotate_left
      · intro W hSw
        try dsimp only at hSw
        go_simp
        try with_reducible rfl
      try simp only [Act.put, List.setIfInBounds_toArray, List.set_cons_zero, List.set_cons_succ]
      refine wpAnyH_take (i := 9) (oi := { dst := some 73, op := Op.assign (Operand.tmp 82), type := 4, pos := "check.go:25", after := #[{ on := 8, ground := Ground.data }, { on := 7, ground := Ground.chain }], guard := none }) (v := ?_) rfl (by kernel_rfl) (by kernel_rfl) (by kernel_rfl) (fun _ _ _ h => h) (Or.inl ⟨by rfl, ?_⟩) (by assumption) ?_
      rotate_left
      · intro W hSw
        try dsimp only at hSw
        go_simp
        try with_reducible rfl
      try simp only [Act.put, List.setIfInBounds_toArray, List.set_cons_zero, List.set_cons_succ]
      refine wpAnyH_done (by kernel_rfl) ?_ _
      refine NoPanic.normal ?_
      clear hHeld2
      clear v0 v1
      generalize vl.all (okT ft) = q at *
      have B := hid v2
      clear v2
      cases q
      · go_wp2_with fail
        go_ret
        exact ⟨ret_int (by rw [HR.out]; simp), below_up B0.out B.out⟩
      · go_wp2_with fail
        go_ret
        exact ⟨ret_int (by rw [HR.out]; simp), below_up B0.out B.out⟩
end Go.Proofs.YthgnibphhiaecaaGreat

/-
  Check. (Written by mkchk.py.)
-/
namespace Go.Proofs.YthgnibphhiaecaaGreat
open Go.ChangeShapes Go.WideShapes Go.ChangeAt Go.RowKit Cu Vl
attribute [local go_sem] run_store_float

set_option maxRecDepth 8000 in
set_option maxHeartbeats 8000000 in
theorem check_5 (ac : Option Addr) (l : List Col) (dc : Nat) (p : Pr) (a : Option Addr) (d : Nat) (b : Option Addr) (e : Nat) (w : World) (hL : Lst cc 3 w ac l) (hl : l.length ≤ 140737488355328) (hp : POk w p a) (hk : p.K = 5) :
    Calls Tryz.prog 69 #[.slice ac l.length dc, pv p a d b e] w fun r w' => r = .returned (.int .i64 (chkP l p)) ∧ Below w.heap.size w w' := by
  have HA := hid fun w => atom_is p.K w
  have HO := hid fun w => op_is p.op w
  have B0 := hid (below_new w (.cells (pa p a d b e) 29))
  have HX := hid (Bx.new w (pa p a d b e) 29)
  obtain ⟨W, hW⟩ : ∃ W, w.alloc (.cells (pa p a d b e) 29) = W := ⟨_, rfl⟩
  have HW := hid hW
  rw [hW] at HX B0
  have HF := hid (find_any ac l dc p.c W (hL.later B0.out) hl)
  have HRS := hid fun w => rest_any p a d b e w hp.v hp.n hp.m
  have T := hid fun (W2 : World) (h : Below W.heap.size W W2) => (HX.out.later h).prd
  have HVA := hid fun (W2 : World) (h : Below W.heap.size W W2) => vals_any p a d b e W2 ((hp.L.later B0.out).later h)
  have HAL := hid fun (k : Int) (a2 : Option Addr) (c2 : Nat) (W2 : World) (h : Lst vc 4 W2 a2 (valsP p)) => allOf_any k a2 (valsP p) c2 W2 (by
    intro v hv
    unfold valsP at hv
    split at hv
    · simp at hv; subst hv; exact hp.v
    · split at hv
      · exact hp.l v hv
      · cases hv) h (by
    unfold valsP
    split
    · simp
    · split
      · exact hp.n
      · simp)
  have HFT : Hid (findB l p.c = true → ∃ i : Nat, findI l p.c = (i : Int) ∧ i < l.length ∧ ∃ g o, ac = some ⟨g, o, none⟩ ∧ ∀ W2, Below W.heap.size W W2 → W2.cell? ⟨g, o + i * 3 + 1, none⟩ = some (.int .i64 (findT l p.c))) := fun h => by
    unfold findB at h
    obtain ⟨i, hi⟩ := Option.isSome_iff_exists.1 h
    obtain ⟨h1, h2⟩ := findT_at hi
    obtain ⟨g, o, e1, hg, k0, k1, k2⟩ := (hL.later B0.out).cell3 h1
    rw [h2] at k1
    exact ⟨i, by unfold findI; rw [hi], h1, g, o, e1, fun W2 h3 => (h3.cell (by exact hg)).trans k1⟩
  have HR : Hid (chkP l p = if (!atmB p.K || (decide (p.K = 1) && !opB p.op)) = true then 180
    else if (decide (p.K = 5) && findB l p.c && decide (findT l p.c ≠ 2)) = true then 180
    else if (!rstB p || (decide (p.K = 3) && decide (p.l.length ≠ 2))) = true then 2
    else if findB l p.c = false then 151
    else if (decide (p.K = 2) && decide (1024 < p.l.length)) = true then 3
    else if (valsP p).all (okT (findT l p.c)) = true then 0 else 50) := rfl
  have HLN := hid (show l.length ≤ 140737488355328 from hl)
  generalize chkP l p = R at *
  generalize rstB p = rs at *
  generalize findB l p.c = fb at *
  generalize findI l p.c = fi at *
  generalize findT l p.c = ft at *
  generalize valsP p = vl at *
  generalize l.length = nc at *
  obtain ⟨K, c, op, v, pl, m⟩ := p
  have hpn := hp.n
  dsimp only at *
  generalize hln : pl.length = n at *
  have hpl : pl.length = n := hln
  clear hp hln hL hW HX
  obtain ⟨vK, vI, vb, vs⟩ := v
  unfold pv at *
  unfold pa at *
  dsimp only at *
  rw [hpl] at *
  clear hpl
  subst hk
  obtain ⟨q0, q1, q2, q3, q4, q5, q6, q7, q8⟩ := T.out W (Below.refl _ _)
  go_enter Tryz.func69, Tryz.ntmps69
  go_wp2_with fail
  rw [HW.out]
  refine HF.out.mono ?_
  rintro e1 w1 ⟨rfl, hb⟩
  have B := hid hb
  clear hb HF HW
  clear q0 q1 q2 q3 q4 q5 q6 q7 q8
  obtain ⟨q0, q1, q2, q3, q4, q5, q6, q7, q8⟩ := T.out _ B.out
  rw [show atmB 5 = true by decide] at HA HR
  cases fb
  · go_wp2_with (first | (go_at_call 63; refine (HA.out _).mono ?_; rintro e w' ⟨rfl, rfl⟩) | (go_at_call 56; refine (HO.out _).mono ?_; rintro e w' ⟨rfl, rfl⟩))
    refine (HRS.out _).mono ?_
    rintro e2 w2 ⟨rfl, hb⟩
    replace B := hid (below_up B.out hb)
    clear hb
    clear q0 q1 q2 q3 q4 q5 q6 q7 q8
    obtain ⟨q0, q1, q2, q3, q4, q5, q6, q7, q8⟩ := T.out _ B.out
    cases rs
    · go_wp2_with fail
      go_ret
      exact ⟨ret_int (by rw [HR.out]; simp), below_up B0.out B.out⟩
    · go_wp2_with fail
      go_ret
      exact ⟨ret_int (by rw [HR.out]; simp), below_up B0.out B.out⟩
  ·
    obtain ⟨i, rfl, hin, g, o, rfl, TC⟩ := HFT.out rfl
    have TC := hid TC
    have hii : (i : Int) < (nc : Int) := by omega
    have tc := TC.out _ B.out
    by_cases ht : ft = 2
    · subst ht
      have HQ := hid (show True from trivial)
      go_wp2_with (first | (go_at_call 63; refine (HA.out _).mono ?_; rintro e w' ⟨rfl, rfl⟩) | (go_at_call 56; refine (HO.out _).mono ?_; rintro e w' ⟨rfl, rfl⟩))
      refine (HRS.out _).mono ?_
      rintro e2 w2 ⟨rfl, hb⟩
      replace B := hid (below_up B.out hb)
      clear hb HRS tc
      clear q0 q1 q2 q3 q4 q5 q6 q7 q8
      obtain ⟨q0, q1, q2, q3, q4, q5, q6, q7, q8⟩ := T.out _ B.out
      cases rs
      · go_wp2_with fail
        go_ret
        exact ⟨ret_int (by rw [HR.out]; simp), below_up B0.out B.out⟩
      ·
        go_wp2_with fail
        have v0 : Below W.heap.size W w2.drew := below_drewN B.out 1
        have HVM := hid (fun (W2 : World) (h : Below W.heap.size W W2) => HVA.out W2 h)
        clear q0 q1 q2 q3 q4 q5 q6 q7 q8 HVA
        refine wp_region_noPanic ?_
        refine wp_region_held_drew (S := fun v => Below W.heap.size W v) (by kernel_rfl) (v0) (fun hHeld0 => ?_)
        refine wpAnyH_take (i := 0) (oi := { dst := some 74, op := Op.move (Operand.tmp 0), type := 22, pos := "check.go:25", after := #[], guard := none }) (v := ?_) rfl (by kernel_rfl) (by kernel_rfl) (by kernel_rfl) (fun _ _ _ h => h) (Or.inl ⟨by rfl, ?_⟩) (by assumption) ?_
        rotate_left
        · intro W hSw
          try dsimp only at hSw
          obtain ⟨q0, q1, q2, q3, q4, q5, q6, q7, q8⟩ := T.out _ hSw; have tc := TC.out _ hSw
          go_simp
          try with_reducible rfl
        try simp only [Act.put, List.setIfInBounds_toArray, List.set_cons_zero, List.set_cons_succ]
        refine wpAnyH_take (i := 1) (oi := { dst := some 75, op := Op.move (Operand.tmp 5), type := 3, pos := "check.go:25", after := #[], guard := none }) (v := ?_) rfl (by kernel_rfl) (by kernel_rfl) (by kernel_rfl) (fun _ _ _ h => h) (Or.inl ⟨by rfl, ?_⟩) (by assumption) ?_
        rotate_left
        · intro W hSw
          try dsimp only at hSw
          obtain ⟨q0, q1, q2, q3, q4, q5, q6, q7, q8⟩ := T.out _ hSw; have tc := TC.out _ hSw
          go_simp
          try with_reducible rfl
        try simp only [Act.put, List.setIfInBounds_toArray, List.set_cons_zero, List.set_cons_succ]
        refine wpAnyH_take (i := 2) (oi := { dst := some 76, op := Op.indexAddr 22 (Operand.tmp 74) (Operand.tmp 75), type := 0, pos := "check.go:25", after := #[{ on := 0, ground := Ground.data }, { on := 1, ground := Ground.data }], guard := none }) (v := ?_) rfl (by kernel_rfl) (by kernel_rfl) (by kernel_rfl) (fun _ _ _ h => h) (Or.inl ⟨by rfl, ?_⟩) (by assumption) ?_
        rotate_left
        · intro W hSw
          try dsimp only at hSw
          obtain ⟨q0, q1, q2, q3, q4, q5, q6, q7, q8⟩ := T.out _ hSw; have tc := TC.out _ hSw
          go_simp
          try with_reducible rfl
        try simp only [Act.put, List.setIfInBounds_toArray, List.set_cons_zero, List.set_cons_succ]
        refine wpAnyH_take (i := 3) (oi := { dst := some 77, op := Op.fieldAddr 77 (Operand.tmp 76) 1, type := 0, pos := "check.go:25", after := #[{ on := 2, ground := Ground.data }], guard := none }) (v := ?_) rfl (by kernel_rfl) (by kernel_rfl) (by kernel_rfl) (fun _ _ _ h => h) (Or.inl ⟨by rfl, ?_⟩) (by assumption) ?_
        rotate_left
        · intro W hSw
          try dsimp only at hSw
          obtain ⟨q0, q1, q2, q3, q4, q5, q6, q7, q8⟩ := T.out _ hSw; have tc := TC.out _ hSw
          go_simp
          try with_reducible rfl
        try simp only [Act.put, List.setIfInBounds_toArray, List.set_cons_zero, List.set_cons_succ]
        refine wpAnyH_take (i := 4) (oi := { dst := some 78, op := Op.load 3 (Operand.tmp 77), type := 3, pos := "check.go:25", after := #[{ on := 3, ground := Ground.data }], guard := none }) (v := ?_) rfl (by kernel_rfl) (by kernel_rfl) (by kernel_rfl) (fun _ _ _ h => h) (Or.inl ⟨by rfl, ?_⟩) (by assumption) ?_
        rotate_left
        · intro W hSw
          try dsimp only at hSw
          obtain ⟨q0, q1, q2, q3, q4, q5, q6, q7, q8⟩ := T.out _ hSw; have tc := TC.out _ hSw
          go_simp
          try with_reducible rfl
        try simp only [Act.put, List.setIfInBounds_toArray, List.set_cons_zero, List.set_cons_succ]
        refine wpAnyH_take (i := 5) (oi := { dst := some 79, op := Op.load 29 (Operand.tmp 3), type := 29, pos := "check.go:25", after := #[], guard := none }) (v := ?_) rfl (by kernel_rfl) (by kernel_rfl) (by kernel_rfl) (fun _ _ _ h => h) (Or.inl ⟨by rfl, ?_⟩) (by assumption) ?_
        rotate_left
        · intro W hSw
          try dsimp only at hSw
          obtain ⟨q0, q1, q2, q3, q4, q5, q6, q7, q8⟩ := T.out _ hSw; have tc := TC.out _ hSw
          go_simp
          try with_reducible rfl
        try simp only [Act.put, List.setIfInBounds_toArray, List.set_cons_zero, List.set_cons_succ]
        refine wpAnyH_ready (rs := [6]) (by kernel_rfl) (by simp) ?_
        refine AllReadyH.cons (o := { dst := some 80, op := Op.call { callee := Callee.value (Operand.func 81), args := #[Operand.tmp 79], argTypes := #[29] }, type := 26, pos := "check.go:25", after := #[{ on := 5, ground := Ground.data }], guard := none }) rfl (fun K hK => ?_) AllReadyH.nil
        rw [if_pos (by rfl)]
        go_simp
        refine (HVM.out _ v0).mono ?_
        rintro e s1 ⟨a1, c1, rfl, hL1, h1⟩
        have v1 : Below W.heap.size W s1 := below_up v0 h1
        have HL1 := hid hL1
        clear h1 hL1
        refine hK.out _ _ (v1) (fun hHeld1 => ?_)
        clear hK K hHeld0
        try simp only [Act.put, List.setIfInBounds_toArray, List.set_cons_zero, List.set_cons_succ]
        refine wpAnyH_ready (rs := [7]) (by kernel_rfl) (by simp) ?_
        refine AllReadyH.cons (o := { dst := some 81, op := Op.call { callee := Callee.value (Operand.func 80), args := #[Operand.tmp 78, Operand.tmp 80], argTypes := #[3, 26] }, type := 4, pos := "check.go:25", after := #[{ on := 4, ground := Ground.data }, { on := 6, ground := Ground.data }, { on := 6, ground := Ground.chain }], guard := none }) rfl (fun K hK => ?_) AllReadyH.nil
        rw [if_pos (by rfl)]
        go_simp
        refine (HAL.out _ _ _ _ HL1.out).mono ?_
        rintro e s2 ⟨rfl, h2⟩
        have v2 : Below W.heap.size W s2 := below_up v1 h2
        clear h2
        refine hK.out _ _ (v2) (fun hHeld2 => ?_)
        clear hK K hHeld1
        try simp only [Act.put, List.setIfInBounds_toArray, List.set_cons_zero, List.set_cons_succ]
        refine wpAnyH_take (i := 8) (oi := { dst := some 82, op := Op.unOp UnOp.not 4 (Operand.tmp 81), type := 4, pos := "check.go:25", after := #[{ on := 7, ground := Ground.data }], guard := none }) (v := ?_) rfl (by kernel_rfl) (by kernel_rfl) (by kernel_rfl) (fun _ _ _ h => h) (Or.inl ⟨by rfl, ?_⟩) (by assumption) ?_
        rotate_left
        · intro W hSw
          try dsimp only at hSw
          go_simp
          try with_reducible rfl
        try simp only [Act.put, List.setIfInBounds_toArray, List.set_cons_zero, List.set_cons_succ]
        refine wpAnyH_take (i := 9) (oi := { dst := some 73, op := Op.assign (Operand.tmp 82), type := 4, pos := "check.go:25", after := #[{ on := 8, ground := Ground.data }, { on := 7, ground := Ground.chain }], guard := none }) (v := ?_) rfl (by kernel_rfl) (by kernel_rfl) (by kernel_rfl) (fun _ _ _ h => h) (Or.inl ⟨by rfl, ?_⟩) (by assumption) ?_
        rotate_left
        · intro W hSw
          try dsimp only at hSw
          go_simp
          try with_reducible rfl
        try simp only [Act.put, List.setIfInBounds_toArray, List.set_cons_zero, List.set_cons_succ]
        refine wpAnyH_done (by kernel_rfl) ?_ _
        refine NoPanic.normal ?_
        clear hHeld2
        clear v0 v1
        generalize vl.all (okT 2) = q at *
        have B := hid v2
        clear v2
        cases q
        · go_wp2_with fail
          go_ret
          exact ⟨ret_int (by rw [HR.out]; simp), below_up B0.out B.out⟩
        · go_wp2_with fail
          go_ret
          exact ⟨ret_int (by rw [HR.out]; simp), below_up B0.out B.out⟩
    · have ht' : (ft != 2) = true := by simpa using ht
      go_wp2_with (first | (go_at_call 63; refine (HA.out _).mono ?_; rintro e w' ⟨rfl, rfl⟩) | (go_at_call 56; refine (HO.out _).mono ?_; rintro e w' ⟨rfl, rfl⟩))
      go_ret
      exact ⟨ret_int (by rw [HR.out]; simp [ht]), below_up B0.out B.out⟩
end Go.Proofs.YthgnibphhiaecaaGreat

/-
  Check. (Written by mkchk.py.)
-/
namespace Go.Proofs.YthgnibphhiaecaaGreat
open Go.ChangeShapes Go.WideShapes Go.ChangeAt Go.RowKit Cu Vl
attribute [local go_sem] run_store_float

theorem check_any (ac : Option Addr) (l : List Col) (dc : Nat) (p : Pr) (a : Option Addr) (d : Nat) (b : Option Addr) (e : Nat) (w : World) (hL : Lst cc 3 w ac l) (hl : l.length ≤ 140737488355328) (hp : POk w p a) :
    Calls Tryz.prog 69 #[.slice ac l.length dc, pv p a d b e] w fun r w' => r = .returned (.int .i64 (chkP l p)) ∧ Below w.heap.size w w' := by
  by_cases hk : 1 ≤ p.K ∧ p.K ≤ 5
  · have : p.K = 1 ∨ p.K = 2 ∨ p.K = 3 ∨ p.K = 4 ∨ p.K = 5 := by omega
    rcases this with h | h | h | h | h
    · exact check_1 ac l dc p a d b e w hL hl hp h
    · exact check_2 ac l dc p a d b e w hL hl hp h
    · exact check_3 ac l dc p a d b e w hL hl hp h
    · exact check_4 ac l dc p a d b e w hL hl hp h
    · exact check_5 ac l dc p a d b e w hL hl hp h
  · exact check_0 ac l dc p a d b e w hL hl hp hk
end Go.Proofs.YthgnibphhiaecaaGreat
