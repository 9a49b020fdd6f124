/-
  Bounds. (Written by mkbnd.py.)
-/
import Derived.Test.YtogmjhheleagfaaARefS
import Derived.Deep.RegionHeld3
namespace Go.Proofs.Ytogmjhheleagfaa
open Go.ChangeShapes Go.WideShapes Go.ChangeAt Go.RowKit Cu Vl
attribute [local go_sem] run_store_float

set_option maxRecDepth 8000 in
set_option maxHeartbeats 8000000 in
theorem says_2 (p : Pr) (a : Option Addr) (d : Nat) (b : Option Addr) (e : Nat) (v : V) (w : World) (hp : POk w p a) (hv : VOk v) (hk : p.K = 2) :
    Calls Try.prog 34 #[pv p a d b e, vv v] w fun r w' => r = .returned (.bool (if p.K = 4 then false else hldB p v)) ∧ Below w.heap.size w w' := by
  have b1 := below_new w (.cells (pa p a d b e) 32)
  have b2 := below_new (w.alloc (.cells (pa p a d b e) 32)) (.cells (va v) 28)
  have HX := hid ((Bx.new w (pa p a d b e) 32).later b2)
  have HY : Hid (Bx ((w.alloc (.cells (pa p a d b e) 32)).alloc (.cells (va v) 28)) (w.heap.size + 1) (va v) 28) := by
    have := Bx.new (w.alloc (.cells (pa p a d b e) 32)) (va v) 28
    rwa [show (w.alloc (.cells (pa p a d b e) 32)).heap.size = w.heap.size + 1 by simp] at this
  have B0 := hid (below_up b1 b2)
  obtain ⟨W, hW⟩ : ∃ W, (w.alloc (.cells (pa p a d b e) 32)).alloc (.cells (va v) 28) = W := ⟨_, rfl⟩
  have HW := hid hW
  rw [hW] at HX HY B0
  have T := hid fun (W2 : World) (h : Below W.heap.size W W2) => (HX.out.later h).prd
  have TV := hid fun (W2 : World) (h : Below W.heap.size W W2) => (HY.out.later h).val
  have HL := hid (hp.L.later B0.out)
  have HR : Hid (hldB p v = if p.K = 1 then stdB p.op (cmpA v p.v)
    else if p.K = 2 then p.l.any fun x => decide (cmpA v x = 0)
    else if p.K = 3 then (match p.l with | x :: y :: _ => decide (0 ≤ cmpA v x) && decide (cmpA v y ≤ 0) | _ => false)
    else if p.K = 4 then decide (v.K = 0)
    else if p.K = 5 then decide (v.K = 2) && decide (p.v.K = 2) && prfB v.s p.v.s
    else false) := rfl
  have HQ : Hid (∀ R, R = hldB p v → (if p.K = 4 then false else hldB p v) = if p.K = 4 then false else R) := fun R h => by rw [h]
  have HHH : Hid (hldB p v = hldB p v) := rfl
  obtain ⟨R0, hR0⟩ : ∃ R0, (if p.K = 4 then false else hldB p v) = R0 := ⟨_, rfl⟩
  rw [hR0]
  have HR0 := hid hR0
  have HC := hid fun x w (h : VOk x) => compare18 v x w hv h
  have HO := hid hp.l
  have hpn := hp.n
  have hpm := hp.m
  have hvs := hv.s
  have hus := hp.v.s
  clear b1 b2 hW HX HY hp HQ HHH hR0
  obtain ⟨K, c, op, u, l, m⟩ := p
  obtain ⟨uK, uI, ub, us⟩ := u
  dsimp only at *
  subst hk
  have HZ : Hid (R0 = _) := (by have h0 := HR0.out; rw [if_neg (by decide), HR.out] at h0; exact h0.symm)
  clear HR HR0
  rw [if_neg (by decide), if_pos rfl] at HZ
  have HA1 : Hid (∀ j x, l[j]? = some x → cmpA v x = 0 → R0 = true) := fun j x hj hc => by
    rw [HZ.out, List.any_eq_true]
    exact ⟨x, List.mem_of_getElem? hj, by simp [hc]⟩
  have HA2 : Hid ((∀ j x, l[j]? = some x → ¬ cmpA v x = 0) → R0 = false) := fun h => by
    rw [HZ.out, List.any_eq_false]
    intro x hx
    obtain ⟨j, hj, rfl⟩ := List.mem_iff_getElem.1 hx
    simpa using h j _ (List.getElem?_eq_getElem hj)
  clear HZ
  have HVV : Hid (∀ x, VOk x → ∀ w, Calls Try.prog 38 #[vv v, vv x] w fun e w' => e = .returned (.int .i64 (cmpA v x)) ∧ Below w.heap.size w w') := fun x h w => HC.out x w h
  clear HC
  obtain ⟨vK, vI, vb, vs⟩ := v
  try unfold pv at *
  unfold vv
  try unfold pa at *
  unfold va at *
  dsimp only at *
  obtain ⟨q0, q1, q2, q3, q4, q5, q6, q7, q8⟩ := T.out W (Below.refl _ _)
  obtain ⟨x0, x1, x2, x3⟩ := TV.out W (Below.refl _ _)
  go_enter Try.func34, Try.ntmps34
  go_wp2_with fail
  rw [HW.out]
  clear q0 q1 q2 q3 q4 q5 q6 q7 q8 x0 x1 x2 x3 HW
  go_loopw [5] (fun ix wr => ∃ i : Nat, i ≤ l.length ∧ ix = .int .i64 i ∧ Hid (∀ j x, j < i → l[j]? = some x → ¬ cmpA ⟨vK, vI, vb, vs⟩ x = 0) ∧ Hid (Below W.heap.size W wr)) (fun ix _ => l.length - (intOf ix).toNat)
  case atStart => exact ⟨0, Nat.zero_le _, rfl, fun j u hj => by omega, Below.refl _ _⟩
  case round =>
    obtain ⟨i, hi, rfl, HE, HBl⟩ := hrel
    rename World => wr
    obtain ⟨q0, q1, q2, q3, q4, q5, q6, q7, q8⟩ := T.out _ HBl.out
    obtain ⟨x0, x1, x2, x3⟩ := TV.out _ HBl.out
    by_cases hlt : i < l.length
    · have hii : (i : Int) < (l.length : Int) := by omega
      obtain ⟨g, o, rfl, hg, k0, k1, k2, k3⟩ := (HL.out.later HBl.out).cell4 hlt
      have HLI := hid (List.getElem?_eq_getElem hlt)
      have HVi := hid (HO.out l[i] (List.getElem_mem hlt))
      generalize l[i] = x at *
      have HCx := hid (HVV.out x HVi.out)
      have HY := hid (HA1.out i x HLI.out)
      have HN : Hid (¬ cmpA ⟨vK, vI, vb, vs⟩ x = 0 → ∀ j u, j < i + 1 → l[j]? = some u → ¬ cmpA ⟨vK, vI, vb, vs⟩ u = 0) := fun hh j u hj hu => by
        by_cases e : j = i
        · subst e
          rw [HLI.out] at hu
          cases hu
          exact hh
        · exact HE.out j u (by omega) hu
      have TL : Hid (∀ W2, Below wr.heap.size wr W2 → W2.cell? ⟨g, o + i * 4, none⟩ = some (.int .i64 x.K) ∧ W2.cell? ⟨g, o + i * 4 + 1, none⟩ = some (.int .i64 x.I) ∧ W2.cell? ⟨g, o + i * 4 + 2, none⟩ = some (.float .f64 x.b) ∧ W2.cell? ⟨g, o + i * 4 + 3, none⟩ = some (.string x.s)) := fun W2 h => ⟨(h.cell (by exact hg)).trans k0, (h.cell (by exact hg)).trans k1, (h.cell (by exact hg)).trans k2, (h.cell (by exact hg)).trans k3⟩
      generalize cmpA _ x = cm at *
      obtain ⟨xK, xI, xb, xs⟩ := x
      unfold vv at HCx
      dsimp only at *
      clear k0 k1 k2 k3 hg HLI HVi HE
      go_wp2_with fail
      have v0 : Below wr.heap.size wr wr.drew := below_drewN (Below.refl _ wr) 1
      clear q0 q1 q2 q3 q4 q5 q6 q7 q8 x0 x1 x2 x3
      refine wp_region_noPanic ?_
      refine wp_region_held_drew (S := fun v => Below wr.heap.size wr v) (by kernel_rfl) (v0) (fun hHeld0 => ?_)
      refine wpAnyH_take (i := 0) (oi := { dst := some 26, op := Op.load 28 (Operand.tmp 3), type := 28, pos := "ref.go:150", after := #[], guard := none }) (v := ?_) rfl (by kernel_rfl) (by kernel_rfl) (by kernel_rfl) (fun _ _ _ h => h) (Or.inl ⟨by rfl, ?_⟩) (by assumption) ?_
      rotate_left
      · intro W hSw
        try dsimp only at hSw
        obtain ⟨q0, q1, q2, q3, q4, q5, q6, q7, q8⟩ := T.out _ (below_up HBl.out hSw); obtain ⟨x0, x1, x2, x3⟩ := TV.out _ (below_up HBl.out hSw); obtain ⟨k0, k1, k2, k3⟩ := TL.out _ hSw
        go_simp
        try with_reducible rfl
      try simp only [Act.put, List.setIfInBounds_toArray, List.set_cons_zero, List.set_cons_succ]
      refine wpAnyH_take (i := 1) (oi := { dst := some 27, op := Op.fieldAddr 32 (Operand.tmp 2) 4, type := 0, pos := "ref.go:150", after := #[], guard := none }) (v := ?_) rfl (by kernel_rfl) (by kernel_rfl) (by kernel_rfl) (fun _ _ _ h => h) (Or.inl ⟨by rfl, ?_⟩) (by assumption) ?_
      rotate_left
      · intro W hSw
        try dsimp only at hSw
        obtain ⟨q0, q1, q2, q3, q4, q5, q6, q7, q8⟩ := T.out _ (below_up HBl.out hSw); obtain ⟨x0, x1, x2, x3⟩ := TV.out _ (below_up HBl.out hSw); obtain ⟨k0, k1, k2, k3⟩ := TL.out _ hSw
        go_simp
        try with_reducible rfl
      try simp only [Act.put, List.setIfInBounds_toArray, List.set_cons_zero, List.set_cons_succ]
      refine wpAnyH_take (i := 2) (oi := { dst := some 28, op := Op.load 25 (Operand.tmp 27), type := 25, pos := "ref.go:150", after := #[{ on := 1, ground := Ground.data }], guard := none }) (v := ?_) rfl (by kernel_rfl) (by kernel_rfl) (by kernel_rfl) (fun _ _ _ h => h) (Or.inl ⟨by rfl, ?_⟩) (by assumption) ?_
      rotate_left
      · intro W hSw
        try dsimp only at hSw
        obtain ⟨q0, q1, q2, q3, q4, q5, q6, q7, q8⟩ := T.out _ (below_up HBl.out hSw); obtain ⟨x0, x1, x2, x3⟩ := TV.out _ (below_up HBl.out hSw); obtain ⟨k0, k1, k2, k3⟩ := TL.out _ hSw
        go_simp
        try with_reducible rfl
      try simp only [Act.put, List.setIfInBounds_toArray, List.set_cons_zero, List.set_cons_succ]
      refine wpAnyH_take (i := 3) (oi := { dst := some 29, op := Op.move (Operand.tmp 5), type := 3, pos := "ref.go:150", after := #[], guard := none }) (v := ?_) rfl (by kernel_rfl) (by kernel_rfl) (by kernel_rfl) (fun _ _ _ h => h) (Or.inl ⟨by rfl, ?_⟩) (by assumption) ?_
      rotate_left
      · intro W hSw
        try dsimp only at hSw
        obtain ⟨q0, q1, q2, q3, q4, q5, q6, q7, q8⟩ := T.out _ (below_up HBl.out hSw); obtain ⟨x0, x1, x2, x3⟩ := TV.out _ (below_up HBl.out hSw); obtain ⟨k0, k1, k2, k3⟩ := TL.out _ hSw
        go_simp
        try with_reducible rfl
      try simp only [Act.put, List.setIfInBounds_toArray, List.set_cons_zero, List.set_cons_succ]
      refine wpAnyH_take (i := 4) (oi := { dst := some 30, op := Op.indexAddr 25 (Operand.tmp 28) (Operand.tmp 29), type := 0, pos := "ref.go:150", after := #[{ on := 2, ground := Ground.data }, { on := 3, ground := Ground.data }], guard := none }) (v := ?_) rfl (by kernel_rfl) (by kernel_rfl) (by kernel_rfl) (fun _ _ _ h => h) (Or.inl ⟨by rfl, ?_⟩) (by assumption) ?_
      rotate_left
      · intro W hSw
        try dsimp only at hSw
        obtain ⟨q0, q1, q2, q3, q4, q5, q6, q7, q8⟩ := T.out _ (below_up HBl.out hSw); obtain ⟨x0, x1, x2, x3⟩ := TV.out _ (below_up HBl.out hSw); obtain ⟨k0, k1, k2, k3⟩ := TL.out _ hSw
        go_simp
        try with_reducible rfl
      try simp only [Act.put, List.setIfInBounds_toArray, List.set_cons_zero, List.set_cons_succ]
      refine wpAnyH_take (i := 5) (oi := { dst := some 31, op := Op.load 28 (Operand.tmp 30), type := 28, pos := "ref.go:150", after := #[{ on := 4, ground := Ground.data }], guard := none }) (v := ?_) rfl (by kernel_rfl) (by kernel_rfl) (by kernel_rfl) (fun _ _ _ h => h) (Or.inl ⟨by rfl, ?_⟩) (by assumption) ?_
      rotate_left
      · intro W hSw
        try dsimp only at hSw
        obtain ⟨q0, q1, q2, q3, q4, q5, q6, q7, q8⟩ := T.out _ (below_up HBl.out hSw); obtain ⟨x0, x1, x2, x3⟩ := TV.out _ (below_up HBl.out hSw); obtain ⟨k0, k1, k2, k3⟩ := TL.out _ hSw
        go_simp
        try with_reducible rfl
      try simp only [Act.put, List.setIfInBounds_toArray, List.set_cons_zero, List.set_cons_succ]
      refine wpAnyH_ready (rs := [6]) (by kernel_rfl) (by simp) ?_
      refine AllReadyH.cons (o := { dst := some 32, op := Op.call { callee := Callee.value (Operand.func 38), args := #[Operand.tmp 26, Operand.tmp 31], argTypes := #[28, 28] }, type := 3, pos := "ref.go:150", after := #[{ on := 0, ground := Ground.data }, { on := 5, ground := Ground.data }], guard := none }) rfl (fun K hK => ?_) AllReadyH.nil
      rw [if_pos (by rfl)]
      go_simp
      refine (HCx.out _).mono ?_
      rintro e s1 ⟨rfl, h1⟩
      have v1 : Below wr.heap.size wr s1 := below_up v0 h1
      clear h1
      refine hK.out _ _ (v1) (fun hHeld1 => ?_)
      clear hK K hHeld0
      try simp only [Act.put, List.setIfInBounds_toArray, List.set_cons_zero, List.set_cons_succ]
      refine wpAnyH_take (i := 7) (oi := { dst := some 33, op := Op.binOp BinOp.eql 3 (Operand.tmp 32) (Operand.const (Value.int IntKind.i64 0)) 3, type := 4, pos := "ref.go:150", after := #[{ on := 6, ground := Ground.data }], guard := none }) (v := ?_) rfl (by kernel_rfl) (by kernel_rfl) (by kernel_rfl) (fun _ _ _ h => h) (Or.inl ⟨by rfl, ?_⟩) (by assumption) ?_
      rotate_left
      · intro W hSw
        try dsimp only at hSw
        go_simp
        try with_reducible rfl
      try simp only [Act.put, List.setIfInBounds_toArray, List.set_cons_zero, List.set_cons_succ]
      refine wpAnyH_done (by kernel_rfl) ?_ _
      refine NoPanic.normal ?_
      clear hHeld1
      have B2 := hid (below_up HBl.out v1)
      clear v0 v1 TL HBl
      by_cases hc : cm = 0
      · have HY2 := hid (HY.out hc)
        subst hc
        go_wp2_with fail
        go_ret
        exact ⟨ret_bool HY2.out.symm, below_up B0.out B2.out⟩
      · have hc' : (cm == 0) = false := by simpa using hc
        have HN2 := hid (HN.out hc)
        go_wp2_with fail
        exact ⟨⟨i + 1, by omega, by go_num, HN2, B2⟩, by simp [intOf]; omega⟩
    · obtain rfl : i = l.length := by omega
      have HF := hid (HA2.out fun j x hj => HE.out j x (List.getElem?_eq_some_iff.1 hj).1 hj)
      go_wp2_with fail
      go_ret
      exact ⟨ret_bool HF.out.symm, below_up B0.out HBl.out⟩
end Go.Proofs.Ytogmjhheleagfaa
