/-
  Bounds. (Written by mkbnd.py.)
-/
import Derived.Test.YtogmjhheleagfaaAKnown
import Derived.Test.YtogmjhheleagfaaARefT
import Derived.Test.YtogmjhheleagfaaATwin2
import Derived.Deep.RegionHeld3
namespace Go.Proofs.Ytogmjhheleagfaa
open Go.ChangeShapes Go.WideShapes Go.ChangeAt Go.RowKit Cu Vl
attribute [local go_sem] run_store_float

set_option maxRecDepth 8000 in
set_option maxHeartbeats 16000000 in
theorem walk_atomTests (w : World) (p : Pr) (a : Option Addr) (d : Nat) (b : Option Addr) (e : Nat) (ks : List Kd) (v : V) (hp : PArg w p a d b e ks) (hv : VOk v) :
    Calls Try.prog 5 #[pv p a d b e, vv v] w fun r w' => r = .returned (.bool true) ∧ Below w.heap.size w w' := by
  have HK := hid fun w => known_any w
  have b1 := below_new w (.cells (pa p a d b e) 32)
  have b2 := below_new (w.alloc (.cells (pa p a d b e) 32)) (.cells (va v) 28)
  have HX := hid ((Bx.new w (pa p a d b e) 32).later b2)
  have HY : Hid (Bx ((w.alloc (.cells (pa p a d b e) 32)).alloc (.cells (va v) 28)) (w.heap.size + 1) (va v) 28) := by
    have := Bx.new (w.alloc (.cells (pa p a d b e) 32)) (va v) 28
    rwa [show (w.alloc (.cells (pa p a d b e) 32)).heap.size = w.heap.size + 1 by simp] at this
  have B := hid (below_up b1 b2)
  obtain ⟨W, hW⟩ : ∃ W, (w.alloc (.cells (pa p a d b e) 32)).alloc (.cells (va v) 28) = W := ⟨_, rfl⟩
  have HW := hid hW
  rw [hW] at HX HY B
  have HD := hid (deep_any p a d b e ks W ⟨hp.K, hp.op, hp.cs, hp.v, ⟨rfl, hp.l.lst.later B.out, hp.l.ok, hp.l.nil, hp.l.le, hp.l.small⟩, hp.m, hp.kl.later B.out, hp.kn, hp.ke, hp.kb, fun gC k hC => (hp.pt gC k (Nat.le_trans B.out.size hC)).later B.out⟩)
  have HTw := hid fun (W2 : World) (h : Below W.heap.size W W2) => twin_any p a d b e ks W2 hp.v ⟨rfl, (hp.l.lst.later B.out).later h, hp.l.ok, hp.l.nil, hp.l.le, hp.l.small⟩ hp.m ((hp.kl.later B.out).later h) hp.kn hp.ke hp.kb
  have HTs := hid fun (W2 : World) (a' : Option Addr) (d' : Nat) (b' : Option Addr) (e' : Nat) (h : POk W2 p a') => test_any p a' d' b' e' v W2 h hv
  have HTr := hid fun (W2 : World) (h : Below W.heap.size W W2) => test18 p a d b e v W2 ((hp.ok.later B.out).later h) hv
  have TP := hid fun (x : World) (h : Below W.heap.size W x) => (HX.out.later h).prd
  have TV := hid fun (x : World) (h : Below W.heap.size W x) => (HY.out.later h).val
  generalize tstP p v = ts at *
  clear b1 b2 hW HX HY hp hv
  obtain ⟨K, c, op, u, l, m⟩ := p
  obtain ⟨uK, uI, ub, us⟩ := u
  obtain ⟨vK, vI, vb, vs⟩ := v
  unfold pv vv at *
  unfold pa va at *
  dsimp only at *
  obtain ⟨q0, q1, q2, q3, q4, q5, q6, q7, q8⟩ := TP.out W (Below.refl _ _)
  go_enter Try.func5, Try.ntmps5
  go_wp2_with fail
  rw [HW.out]
  refine HD.out.mono ?_
  rintro e1 w1 ⟨q, rfl, hbb⟩
  have B1 := hid hbb
  clear hbb HD HW q0 q1 q2 q3 q4 q5 q6 q7 q8
  cases q
  rotate_left
  · go_wp2_with fail
    go_ret
    exact ⟨rfl, below_up B.out B1.out⟩
  obtain ⟨q0, q1, q2, q3, q4, q5, q6, q7, q8⟩ := TP.out _ B1.out
  obtain ⟨x0, x1, x2, x3⟩ := TV.out _ B1.out
  go_wp2_with fail
  refine (HTr.out _ B1.out).mono ?_
  rintro e1 w2 ⟨rfl, hbb⟩
  replace B1 := hid (below_up B1.out hbb)
  clear hbb HTr q0 q1 q2 q3 q4 q5 q6 q7 q8 x0 x1 x2 x3
  go_wp2_with fail
  have v0 : Below W.heap.size W w2.drew := below_drewN B1.out 1
  refine wp_region_noPanic ?_
  refine wp_region_held_drew (S := fun x => Below W.heap.size W x) (by kernel_rfl) (v0) (fun hHeld0 => ?_)
  refine wpAnyH_take (i := 0) (oi := { dst := some 11, op := Op.load 32 (Operand.tmp 2), type := 32, pos := "law.go:44", after := #[], guard := none }) (v := ?_) rfl (by kernel_rfl) (by kernel_rfl) (by kernel_rfl) (fun _ _ _ h => h) (Or.inl ⟨by rfl, ?_⟩) (by assumption) ?_
  rotate_left
  · intro W hSw
    try dsimp only at hSw
    obtain ⟨q0, q1, q2, q3, q4, q5, q6, q7, q8⟩ := TP.out _ hSw; obtain ⟨x0, x1, x2, x3⟩ := TV.out _ hSw
    go_simp
    try with_reducible rfl
  try simp only [Act.put, List.setIfInBounds_toArray, List.set_cons_zero, List.set_cons_succ]
  refine wpAnyH_take (i := 2) (oi := { dst := some 13, op := Op.load 28 (Operand.tmp 3), type := 28, pos := "law.go:44", after := #[], guard := none }) (v := ?_) rfl (by kernel_rfl) (by kernel_rfl) (by kernel_rfl) (fun _ _ _ h => h) (Or.inl ⟨by rfl, ?_⟩) (by assumption) ?_
  rotate_left
  · intro W hSw
    try dsimp only at hSw
    obtain ⟨q0, q1, q2, q3, q4, q5, q6, q7, q8⟩ := TP.out _ hSw; obtain ⟨x0, x1, x2, x3⟩ := TV.out _ hSw
    go_simp
    try with_reducible rfl
  try simp only [Act.put, List.setIfInBounds_toArray, List.set_cons_zero, List.set_cons_succ]
  refine wpAnyH_take (i := 4) (oi := { dst := some 15, op := Op.move (Operand.tmp 5), type := 41, pos := "law.go:44", after := #[], guard := none }) (v := ?_) rfl (by kernel_rfl) (by kernel_rfl) (by kernel_rfl) (fun _ _ _ h => h) (Or.inl ⟨by rfl, ?_⟩) (by assumption) ?_
  rotate_left
  · intro W hSw
    try dsimp only at hSw
    obtain ⟨q0, q1, q2, q3, q4, q5, q6, q7, q8⟩ := TP.out _ hSw; obtain ⟨x0, x1, x2, x3⟩ := TV.out _ hSw
    go_simp
    try with_reducible rfl
  try simp only [Act.put, List.setIfInBounds_toArray, List.set_cons_zero, List.set_cons_succ]
  refine wpAnyH_ready (rs := [1]) (by kernel_rfl) (by simp) ?_
  refine AllReadyH.cons (o := { dst := some 12, op := Op.call { callee := Callee.value (Operand.func 14), args := #[Operand.tmp 11], argTypes := #[32] }, type := 32, pos := "law.go:44", after := #[{ on := 0, ground := Ground.data }], guard := none }) rfl (fun K hK => ?_) AllReadyH.nil
  rw [if_pos (by rfl)]
  go_simp
  refine (HTw.out _ v0).mono ?_
  rintro e1 u1 ⟨a2, d2, b2, e2, rfl, ho, h1⟩
  have v1 : Below W.heap.size W u1 := below_up v0 h1
  have HO := hid ho
  clear h1 ho
  refine hK.out _ _ (v1) (fun hHeld1 => ?_)
  clear hK K hHeld0
  try simp only [Act.put, List.setIfInBounds_toArray, List.set_cons_zero, List.set_cons_succ]
  refine wpAnyH_ready (rs := [3]) (by kernel_rfl) (by simp) ?_
  refine AllReadyH.cons (o := { dst := some 14, op := Op.call { callee := Callee.value (Operand.func 16), args := #[Operand.tmp 12, Operand.tmp 13], argTypes := #[32, 28] }, type := 41, pos := "law.go:44", after := #[{ on := 1, ground := Ground.data }, { on := 2, ground := Ground.data }, { on := 1, ground := Ground.chain }], guard := none }) rfl (fun K hK => ?_) AllReadyH.nil
  rw [if_pos (by rfl)]
  go_simp
  refine (HTs.out _ _ _ _ _ HO.out).mono ?_
  rintro e1 u2 ⟨rfl, h1⟩
  have v2 : Below W.heap.size W u2 := below_up v1 h1
  clear h1
  refine hK.out _ _ (v2) (fun hHeld2 => ?_)
  clear hK K hHeld1
  try simp only [Act.put, List.setIfInBounds_toArray, List.set_cons_zero, List.set_cons_succ]
  refine wpAnyH_take (i := 5) (oi := { dst := some 16, op := Op.binOp BinOp.eql 41 (Operand.tmp 14) (Operand.tmp 15) 41, type := 4, pos := "law.go:44", after := #[{ on := 3, ground := Ground.data }, { on := 4, ground := Ground.data }], guard := none }) (v := Value.bool true) rfl (by kernel_rfl) (by kernel_rfl) (by kernel_rfl) (fun _ _ _ h => h) (Or.inl ⟨by rfl, ?_⟩) (by assumption) ?_
  · intro W hSw
    try dsimp only at hSw
    go_simp
    try with_reducible rfl
  try simp only [Act.put, List.setIfInBounds_toArray, List.set_cons_zero, List.set_cons_succ]
  refine wpAnyH_take (i := 6) (oi := { dst := some 17, op := Op.move (Operand.tmp 16), type := 4, pos := "law.go:44", after := #[{ on := 5, ground := Ground.data }, { on := 3, ground := Ground.chain }], guard := none }) (v := ?_) rfl (by kernel_rfl) (by kernel_rfl) (by kernel_rfl) (fun _ _ _ h => h) (Or.inl ⟨by rfl, ?_⟩) (by assumption) ?_
  rotate_left
  · intro W hSw
    try dsimp only at hSw
    go_simp
    try with_reducible rfl
  try simp only [Act.put, List.setIfInBounds_toArray, List.set_cons_zero, List.set_cons_succ]
  refine wpAnyH_ready (rs := [7]) (by kernel_rfl) (by simp) ?_
  refine AllReadyH.cons (o := { dst := some 18, op := Op.call { callee := Callee.value (Operand.func 11), args := #[], argTypes := #[] }, type := 4, pos := "law.go:44", after := #[{ on := 6, ground := Ground.chain }, { on := 6, ground := Ground.guard }], guard := some (6, true) }) rfl (fun K hK => ?_) AllReadyH.nil
  rw [if_pos (by rfl)]
  go_simp
  refine (HK.out _).mono ?_
  rintro e1 u3 ⟨rfl, h1⟩
  have v3 : Below W.heap.size W u3 := below_up v2 h1
  clear h1
  refine hK.out _ _ (v3) (fun hHeld3 => ?_)
  clear hK K hHeld2
  try simp only [Act.put, List.setIfInBounds_toArray, List.set_cons_zero, List.set_cons_succ]
  refine wpAnyH_take (i := 8) (oi := { dst := some 19, op := Op.pick (Operand.tmp 17) (Operand.tmp 18) (Operand.const (Value.bool false)), type := 4, pos := "law.go:44", after := #[{ on := 6, ground := Ground.data }, { on := 7, ground := Ground.data }], guard := none }) (v := ?_) rfl (by kernel_rfl) (by kernel_rfl) (by kernel_rfl) (fun _ _ _ h => h) (Or.inl ⟨by rfl, ?_⟩) (by assumption) ?_
  rotate_left
  · intro W hSw
    try dsimp only at hSw
    go_simp
    try with_reducible rfl
  try simp only [Act.put, List.setIfInBounds_toArray, List.set_cons_zero, List.set_cons_succ]
  refine wpAnyH_take (i := 9) (oi := { dst := some 4, op := Op.assign (Operand.tmp 19), type := 4, pos := "law.go:44", after := #[{ on := 8, ground := Ground.data }, { on := 7, ground := Ground.chain }, { on := 0, ground := Ground.phase }, { on := 1, ground := Ground.phase }, { on := 2, ground := Ground.phase }, { on := 3, ground := Ground.phase }, { on := 4, ground := Ground.phase }, { on := 5, ground := Ground.phase }, { on := 6, ground := Ground.phase }, { on := 7, ground := Ground.phase }, { on := 8, ground := Ground.phase }], guard := none }) (v := ?_) rfl (by kernel_rfl) (by kernel_rfl) (by kernel_rfl) (fun _ _ _ h => h) (Or.inl ⟨by rfl, ?_⟩) (by assumption) ?_
  rotate_left
  · intro W hSw
    try dsimp only at hSw
    go_simp
    try with_reducible rfl
  try simp only [Act.put, List.setIfInBounds_toArray, List.set_cons_zero, List.set_cons_succ]
  refine wpAnyH_done (by kernel_rfl) ?_ _
  refine NoPanic.normal ?_
  clear hHeld3
  go_wp2_with fail
  go_ret
  exact ⟨rfl, below_up B.out v3⟩
end Go.Proofs.Ytogmjhheleagfaa
