import Derived.Test.YthgnibphhiaecaaGreatAStand
import Derived.Deep.RegionHeld3
/-
  holds, Test. (Written by mkhold.py.)
-/
namespace Go.Proofs.YthgnibphhiaecaaGreat
open Go.ChangeShapes Go.WideShapes Go.ChangeAt Go.RowKit Cu Vl
attribute [local go_sem] run_store_float

set_option maxRecDepth 8000 in
set_option maxHeartbeats 8000000 in
theorem hold_0 (p : Pr) (a : Option Addr) (d : Nat) (b : Option Addr) (e : Nat) (v : V) (w : World) (hp : POk w p a) (hv : VOk v) (hk : ¬ (1 ≤ p.K ∧ p.K ≤ 5)) :
    Calls Tryz.prog 64 #[pv p a d b e, vv v] w fun r w' => r = .returned (.bool (hldB p v)) ∧ Below w.heap.size w w' := by
  have b1 := below_new w (.cells (pa p a d b e) 29)
  have b2 := below_new (w.alloc (.cells (pa p a d b e) 29)) (.cells (va v) 25)
  have HX := hid ((Bx.new w (pa p a d b e) 29).later b2)
  have HY : Hid (Bx ((w.alloc (.cells (pa p a d b e) 29)).alloc (.cells (va v) 25)) (w.heap.size + 1) (va v) 25) := by
    have := Bx.new (w.alloc (.cells (pa p a d b e) 29)) (va v) 25
    rwa [show (w.alloc (.cells (pa p a d b e) 29)).heap.size = w.heap.size + 1 by simp] at this
  have B0 := hid (below_up b1 b2)
  obtain ⟨W, hW⟩ : ∃ W, (w.alloc (.cells (pa p a d b e) 29)).alloc (.cells (va v) 25) = W := ⟨_, rfl⟩
  have HW := hid hW
  rw [hW] at HX HY B0
  have T := hid fun (W2 : World) (h : Below W.heap.size W W2) => (HX.out.later h).prd
  have TV := hid fun (W2 : World) (h : Below W.heap.size W W2) => (HY.out.later h).val
  have HL := hid (hp.L.later B0.out)
  have HR : Hid (hldB p v = if p.K = 1 then stdB p.op (cmpA v p.v)
    else if p.K = 2 then p.l.any fun x => decide (cmpA v x = 0)
    else if p.K = 3 then (match p.l with | x :: y :: _ => decide (0 ≤ cmpA v x) && decide (cmpA v y ≤ 0) | _ => false)
    else if p.K = 4 then decide (v.K = 0)
    else if p.K = 5 then decide (v.K = 2) && decide (p.v.K = 2) && prfB v.s p.v.s
    else false) := rfl
  generalize hldB p v = R at *
  have hpn := hp.n
  have hpm := hp.m
  clear b1 b2 hW HX HY hp
  obtain ⟨K, c, op, u, l, m⟩ := p
  obtain ⟨uK, uI, ub, us⟩ := u
  dsimp only at *
  rw [if_neg (by omega), if_neg (by omega), if_neg (by omega), if_neg (by omega), if_neg (by omega)] at HR
  have e1 : (K == 1) = false := by simp; omega
  have e2 : (K == 2) = false := by simp; omega
  have e3 : (K == 3) = false := by simp; omega
  have e4 : (K == 4) = false := by simp; omega
  have e5 : (K == 5) = false := by simp; omega
  clear hk
  obtain ⟨vK, vI, vb, vs⟩ := v
  try unfold pv at *
  unfold vv at *
  try unfold pa at *
  unfold va at *
  dsimp only at *
  obtain ⟨q0, q1, q2, q3, q4, q5, q6, q7, q8⟩ := T.out W (Below.refl _ _)
  obtain ⟨x0, x1, x2, x3⟩ := TV.out W (Below.refl _ _)
  go_enter Tryz.func64, Tryz.ntmps64
  go_wp2_with fail
  go_ret
  exact ⟨ret_bool (by rw [HR.out]), by rw [HW.out]; exact B0.out⟩
end Go.Proofs.YthgnibphhiaecaaGreat

/-
  holds, Test. (Written by mkhold.py.)
-/
namespace Go.Proofs.YthgnibphhiaecaaGreat
open Go.ChangeShapes Go.WideShapes Go.ChangeAt Go.RowKit Cu Vl
attribute [local go_sem] run_store_float

set_option maxRecDepth 8000 in
set_option maxHeartbeats 8000000 in
theorem hold_1 (p : Pr) (a : Option Addr) (d : Nat) (b : Option Addr) (e : Nat) (v : V) (w : World) (hp : POk w p a) (hv : VOk v) (hk : p.K = 1) :
    Calls Tryz.prog 64 #[pv p a d b e, vv v] w fun r w' => r = .returned (.bool (hldB p v)) ∧ Below w.heap.size w w' := by
  have b1 := below_new w (.cells (pa p a d b e) 29)
  have b2 := below_new (w.alloc (.cells (pa p a d b e) 29)) (.cells (va v) 25)
  have HX := hid ((Bx.new w (pa p a d b e) 29).later b2)
  have HY : Hid (Bx ((w.alloc (.cells (pa p a d b e) 29)).alloc (.cells (va v) 25)) (w.heap.size + 1) (va v) 25) := by
    have := Bx.new (w.alloc (.cells (pa p a d b e) 29)) (va v) 25
    rwa [show (w.alloc (.cells (pa p a d b e) 29)).heap.size = w.heap.size + 1 by simp] at this
  have B0 := hid (below_up b1 b2)
  obtain ⟨W, hW⟩ : ∃ W, (w.alloc (.cells (pa p a d b e) 29)).alloc (.cells (va v) 25) = W := ⟨_, rfl⟩
  have HW := hid hW
  rw [hW] at HX HY B0
  have T := hid fun (W2 : World) (h : Below W.heap.size W W2) => (HX.out.later h).prd
  have TV := hid fun (W2 : World) (h : Below W.heap.size W W2) => (HY.out.later h).val
  have HL := hid (hp.L.later B0.out)
  have HR : Hid (hldB p v = if p.K = 1 then stdB p.op (cmpA v p.v)
    else if p.K = 2 then p.l.any fun x => decide (cmpA v x = 0)
    else if p.K = 3 then (match p.l with | x :: y :: _ => decide (0 ≤ cmpA v x) && decide (cmpA v y ≤ 0) | _ => false)
    else if p.K = 4 then decide (v.K = 0)
    else if p.K = 5 then decide (v.K = 2) && decide (p.v.K = 2) && prfB v.s p.v.s
    else false) := rfl
  generalize hldB p v = R at *
  have HC := hid fun w => compareA_any v p.v w hv hp.v
  have HS := hid fun w => stand_any p.op (cmpA v p.v) w
  have hpn := hp.n
  have hpm := hp.m
  clear b1 b2 hW HX HY hp
  obtain ⟨K, c, op, u, l, m⟩ := p
  obtain ⟨uK, uI, ub, us⟩ := u
  dsimp only at *
  subst hk
  rw [if_pos rfl] at HR
  generalize cmpA v _ = cm at *
  generalize stdB op cm = sb at *
  obtain ⟨vK, vI, vb, vs⟩ := v
  try unfold pv at *
  unfold vv at *
  try unfold pa at *
  unfold va at *
  dsimp only at *
  obtain ⟨q0, q1, q2, q3, q4, q5, q6, q7, q8⟩ := T.out W (Below.refl _ _)
  obtain ⟨x0, x1, x2, x3⟩ := TV.out W (Below.refl _ _)
  go_enter Tryz.func64, Tryz.ntmps64
  go_wp2_with fail
  rw [HW.out]
  have v0 : Below W.heap.size W W.drew := below_drewN (Below.refl _ W) 1
  clear q0 q1 q2 q3 q4 q5 q6 q7 q8 x0 x1 x2 x3
  refine wp_region_noPanic ?_
  refine wp_region_held_drew (S := fun v => Below W.heap.size W v) (by kernel_rfl) (v0) (fun hHeld0 => ?_)
  refine wpAnyH_take (i := 0) (oi := { dst := some 9, op := Op.fieldAddr 29 (Operand.tmp 2) 2, type := 0, pos := "atom.go:59", after := #[], guard := none }) (v := ?_) rfl (by kernel_rfl) (by kernel_rfl) (by kernel_rfl) (fun _ _ _ h => h) (Or.inl ⟨by rfl, ?_⟩) (by assumption) ?_
  rotate_left
  · intro W hSw
    try dsimp only at hSw
    obtain ⟨q0, q1, q2, q3, q4, q5, q6, q7, q8⟩ := T.out _ hSw; obtain ⟨x0, x1, x2, x3⟩ := TV.out _ hSw
    go_simp
    try with_reducible rfl
  try simp only [Act.put, List.setIfInBounds_toArray, List.set_cons_zero, List.set_cons_succ]
  refine wpAnyH_take (i := 1) (oi := { dst := some 10, op := Op.load 3 (Operand.tmp 9), type := 3, pos := "atom.go:59", after := #[{ on := 0, ground := Ground.data }], guard := none }) (v := ?_) rfl (by kernel_rfl) (by kernel_rfl) (by kernel_rfl) (fun _ _ _ h => h) (Or.inl ⟨by rfl, ?_⟩) (by assumption) ?_
  rotate_left
  · intro W hSw
    try dsimp only at hSw
    obtain ⟨q0, q1, q2, q3, q4, q5, q6, q7, q8⟩ := T.out _ hSw; obtain ⟨x0, x1, x2, x3⟩ := TV.out _ hSw
    go_simp
    try with_reducible rfl
  try simp only [Act.put, List.setIfInBounds_toArray, List.set_cons_zero, List.set_cons_succ]
  refine wpAnyH_take (i := 2) (oi := { dst := some 11, op := Op.load 25 (Operand.tmp 3), type := 25, pos := "atom.go:59", after := #[], guard := none }) (v := ?_) rfl (by kernel_rfl) (by kernel_rfl) (by kernel_rfl) (fun _ _ _ h => h) (Or.inl ⟨by rfl, ?_⟩) (by assumption) ?_
  rotate_left
  · intro W hSw
    try dsimp only at hSw
    obtain ⟨q0, q1, q2, q3, q4, q5, q6, q7, q8⟩ := T.out _ hSw; obtain ⟨x0, x1, x2, x3⟩ := TV.out _ hSw
    go_simp
    try with_reducible rfl
  try simp only [Act.put, List.setIfInBounds_toArray, List.set_cons_zero, List.set_cons_succ]
  refine wpAnyH_take (i := 3) (oi := { dst := some 12, op := Op.fieldAddr 29 (Operand.tmp 2) 3, type := 0, pos := "atom.go:59", after := #[], guard := none }) (v := ?_) rfl (by kernel_rfl) (by kernel_rfl) (by kernel_rfl) (fun _ _ _ h => h) (Or.inl ⟨by rfl, ?_⟩) (by assumption) ?_
  rotate_left
  · intro W hSw
    try dsimp only at hSw
    obtain ⟨q0, q1, q2, q3, q4, q5, q6, q7, q8⟩ := T.out _ hSw; obtain ⟨x0, x1, x2, x3⟩ := TV.out _ hSw
    go_simp
    try with_reducible rfl
  try simp only [Act.put, List.setIfInBounds_toArray, List.set_cons_zero, List.set_cons_succ]
  refine wpAnyH_take (i := 4) (oi := { dst := some 13, op := Op.load 25 (Operand.tmp 12), type := 25, pos := "atom.go:59", after := #[{ on := 3, ground := Ground.data }], guard := none }) (v := ?_) rfl (by kernel_rfl) (by kernel_rfl) (by kernel_rfl) (fun _ _ _ h => h) (Or.inl ⟨by rfl, ?_⟩) (by assumption) ?_
  rotate_left
  · intro W hSw
    try dsimp only at hSw
    obtain ⟨q0, q1, q2, q3, q4, q5, q6, q7, q8⟩ := T.out _ hSw; obtain ⟨x0, x1, x2, x3⟩ := TV.out _ hSw
    go_simp
    try with_reducible rfl
  try simp only [Act.put, List.setIfInBounds_toArray, List.set_cons_zero, List.set_cons_succ]
  refine wpAnyH_ready (rs := [5]) (by kernel_rfl) (by simp) ?_
  refine AllReadyH.cons (o := { dst := some 14, op := Op.call { callee := Callee.value (Operand.func 75), args := #[Operand.tmp 11, Operand.tmp 13], argTypes := #[25, 25] }, type := 3, pos := "atom.go:59", after := #[{ on := 2, ground := Ground.data }, { on := 4, ground := Ground.data }], guard := none }) rfl (fun K hK => ?_) AllReadyH.nil
  rw [if_pos (by rfl)]
  go_simp
  refine (HC.out _).mono ?_
  rintro e s1 ⟨rfl, h1⟩
  have v1 : Below W.heap.size W s1 := below_up v0 h1
  clear h1
  refine hK.out _ _ (v1) (fun hHeld1 => ?_)
  clear hK K hHeld0
  try simp only [Act.put, List.setIfInBounds_toArray, List.set_cons_zero, List.set_cons_succ]
  refine wpAnyH_ready (rs := [6]) (by kernel_rfl) (by simp) ?_
  refine AllReadyH.cons (o := { dst := some 15, op := Op.call { callee := Callee.value (Operand.func 74), args := #[Operand.tmp 10, Operand.tmp 14], argTypes := #[3, 3] }, type := 4, pos := "atom.go:59", after := #[{ on := 1, ground := Ground.data }, { on := 5, ground := Ground.data }, { on := 5, ground := Ground.chain }], guard := none }) rfl (fun K hK => ?_) AllReadyH.nil
  rw [if_pos (by rfl)]
  go_simp
  refine (HS.out _).mono ?_
  rintro e s2 ⟨rfl, h2⟩
  have v2 : Below W.heap.size W s2 := by rw [h2]; exact v1
  clear h2
  refine hK.out _ _ (v2) (fun hHeld2 => ?_)
  clear hK K hHeld1
  try simp only [Act.put, List.setIfInBounds_toArray, List.set_cons_zero, List.set_cons_succ]
  refine wpAnyH_take (i := 7) (oi := { dst := some 4, op := Op.assign (Operand.tmp 15), type := 4, pos := "atom.go:59", after := #[{ on := 6, ground := Ground.data }, { on := 6, ground := Ground.chain }, { on := 0, ground := Ground.phase }, { on := 1, ground := Ground.phase }, { on := 2, ground := Ground.phase }, { on := 3, ground := Ground.phase }, { on := 4, ground := Ground.phase }, { on := 5, ground := Ground.phase }, { on := 6, ground := Ground.phase }], guard := none }) (v := ?_) rfl (by kernel_rfl) (by kernel_rfl) (by kernel_rfl) (fun _ _ _ h => h) (Or.inl ⟨by rfl, ?_⟩) (by assumption) ?_
  rotate_left
  · intro W hSw
    try dsimp only at hSw
    go_simp
    try with_reducible rfl
  try simp only [Act.put, List.setIfInBounds_toArray, List.set_cons_zero, List.set_cons_succ]
  refine wpAnyH_done (by kernel_rfl) ?_ _
  refine NoPanic.normal ?_
  clear hHeld2
  go_wp2_with fail
  go_ret
  exact ⟨ret_bool HR.out.symm, below_up B0.out v2⟩
end Go.Proofs.YthgnibphhiaecaaGreat

/-
  holds, Test. (Written by mkhold.py.)
-/
namespace Go.Proofs.YthgnibphhiaecaaGreat
open Go.ChangeShapes Go.WideShapes Go.ChangeAt Go.RowKit Cu Vl
attribute [local go_sem] run_store_float

set_option maxRecDepth 8000 in
set_option maxHeartbeats 8000000 in
theorem hold_2 (p : Pr) (a : Option Addr) (d : Nat) (b : Option Addr) (e : Nat) (v : V) (w : World) (hp : POk w p a) (hv : VOk v) (hk : p.K = 2) :
    Calls Tryz.prog 64 #[pv p a d b e, vv v] w fun r w' => r = .returned (.bool (hldB p v)) ∧ Below w.heap.size w w' := by
  have b1 := below_new w (.cells (pa p a d b e) 29)
  have b2 := below_new (w.alloc (.cells (pa p a d b e) 29)) (.cells (va v) 25)
  have HX := hid ((Bx.new w (pa p a d b e) 29).later b2)
  have HY : Hid (Bx ((w.alloc (.cells (pa p a d b e) 29)).alloc (.cells (va v) 25)) (w.heap.size + 1) (va v) 25) := by
    have := Bx.new (w.alloc (.cells (pa p a d b e) 29)) (va v) 25
    rwa [show (w.alloc (.cells (pa p a d b e) 29)).heap.size = w.heap.size + 1 by simp] at this
  have B0 := hid (below_up b1 b2)
  obtain ⟨W, hW⟩ : ∃ W, (w.alloc (.cells (pa p a d b e) 29)).alloc (.cells (va v) 25) = W := ⟨_, rfl⟩
  have HW := hid hW
  rw [hW] at HX HY B0
  have T := hid fun (W2 : World) (h : Below W.heap.size W W2) => (HX.out.later h).prd
  have TV := hid fun (W2 : World) (h : Below W.heap.size W W2) => (HY.out.later h).val
  have HL := hid (hp.L.later B0.out)
  have HR : Hid (hldB p v = if p.K = 1 then stdB p.op (cmpA v p.v)
    else if p.K = 2 then p.l.any fun x => decide (cmpA v x = 0)
    else if p.K = 3 then (match p.l with | x :: y :: _ => decide (0 ≤ cmpA v x) && decide (cmpA v y ≤ 0) | _ => false)
    else if p.K = 4 then decide (v.K = 0)
    else if p.K = 5 then decide (v.K = 2) && decide (p.v.K = 2) && prfB v.s p.v.s
    else false) := rfl
  generalize hldB p v = R at *
  have HC := hid (index_alk_has v hv (w.heap.size + 1) a p.l d W HY.out hp.l HL.out hp.n)
  have hpn := hp.n
  have hpm := hp.m
  clear b1 b2 hW HX HY hp
  obtain ⟨K, c, op, u, l, m⟩ := p
  obtain ⟨uK, uI, ub, us⟩ := u
  dsimp only at *
  subst hk
  rw [if_neg (by decide), if_pos rfl] at HR
  generalize l.any _ = q at *
  obtain ⟨vK, vI, vb, vs⟩ := v
  try unfold pv at *
  unfold vv at *
  try unfold pa at *
  unfold va at *
  dsimp only at *
  obtain ⟨q0, q1, q2, q3, q4, q5, q6, q7, q8⟩ := T.out W (Below.refl _ _)
  obtain ⟨x0, x1, x2, x3⟩ := TV.out W (Below.refl _ _)
  go_enter Tryz.func64, Tryz.ntmps64
  go_wp2_with fail
  rw [HW.out]
  refine HC.out.mono ?_
  rintro e w1 ⟨rfl, hb⟩
  have B := hid (below_up B0.out hb)
  clear hb
  go_wp2_with fail
  go_ret
  exact ⟨ret_bool HR.out.symm, B.out⟩
end Go.Proofs.YthgnibphhiaecaaGreat

/-
  holds, Test. (Written by mkhold.py.)
-/
namespace Go.Proofs.YthgnibphhiaecaaGreat
open Go.ChangeShapes Go.WideShapes Go.ChangeAt Go.RowKit Cu Vl
attribute [local go_sem] run_store_float

set_option maxRecDepth 8000 in
set_option maxHeartbeats 8000000 in
theorem hold_3 (p : Pr) (a : Option Addr) (d : Nat) (b : Option Addr) (e : Nat) (v : V) (w : World) (hp : POk w p a) (hv : VOk v) (hk : p.K = 3) :
    Calls Tryz.prog 64 #[pv p a d b e, vv v] w fun r w' => r = .returned (.bool (hldB p v)) ∧ Below w.heap.size w w' := by
  have b1 := below_new w (.cells (pa p a d b e) 29)
  have b2 := below_new (w.alloc (.cells (pa p a d b e) 29)) (.cells (va v) 25)
  have HX := hid ((Bx.new w (pa p a d b e) 29).later b2)
  have HY : Hid (Bx ((w.alloc (.cells (pa p a d b e) 29)).alloc (.cells (va v) 25)) (w.heap.size + 1) (va v) 25) := by
    have := Bx.new (w.alloc (.cells (pa p a d b e) 29)) (va v) 25
    rwa [show (w.alloc (.cells (pa p a d b e) 29)).heap.size = w.heap.size + 1 by simp] at this
  have B0 := hid (below_up b1 b2)
  obtain ⟨W, hW⟩ : ∃ W, (w.alloc (.cells (pa p a d b e) 29)).alloc (.cells (va v) 25) = W := ⟨_, rfl⟩
  have HW := hid hW
  rw [hW] at HX HY B0
  have T := hid fun (W2 : World) (h : Below W.heap.size W W2) => (HX.out.later h).prd
  have TV := hid fun (W2 : World) (h : Below W.heap.size W W2) => (HY.out.later h).val
  have HL := hid (hp.L.later B0.out)
  have HR : Hid (hldB p v = if p.K = 1 then stdB p.op (cmpA v p.v)
    else if p.K = 2 then p.l.any fun x => decide (cmpA v x = 0)
    else if p.K = 3 then (match p.l with | x :: y :: _ => decide (0 ≤ cmpA v x) && decide (cmpA v y ≤ 0) | _ => false)
    else if p.K = 4 then decide (v.K = 0)
    else if p.K = 5 then decide (v.K = 2) && decide (p.v.K = 2) && prfB v.s p.v.s
    else false) := rfl
  generalize hldB p v = R at *
  have HC := hid fun x w (h : VOk x) => compareA_any v x w hv h
  have HO := hid hp.l
  have hpn := hp.n
  have hpm := hp.m
  clear b1 b2 hW HX HY hp
  obtain ⟨K, c, op, u, l, m⟩ := p
  obtain ⟨uK, uI, ub, us⟩ := u
  dsimp only at *
  subst hk
  rw [if_neg (by decide), if_neg (by decide), if_pos rfl] at HR
  rcases l with _ | ⟨x, _ | ⟨y, r⟩⟩
  · dsimp only at HR
    obtain ⟨vK, vI, vb, vs⟩ := v
    try unfold pv at *
    unfold vv at *
    try unfold pa at *
    unfold va at *
    dsimp only at *
    simp only [List.length_nil] at HW T ⊢
    obtain ⟨q0, q1, q2, q3, q4, q5, q6, q7, q8⟩ := T.out W (Below.refl _ _)
    obtain ⟨x0, x1, x2, x3⟩ := TV.out W (Below.refl _ _)
    go_enter Tryz.func64, Tryz.ntmps64
    go_wp2_with fail
    rw [HW.out]
    have v0 : Below W.heap.size W W.drew := below_drewN (Below.refl _ W) 1
    clear q0 q1 q2 q3 q4 q5 q6 q7 q8 x0 x1 x2 x3
    refine wp_region_noPanic ?_
    refine wp_region_held_drew (S := fun v => Below W.heap.size W v) (by kernel_rfl) (v0) (fun hHeld0 => ?_)
    refine wpAnyH_take (i := 0) (oi := { dst := some 24, op := Op.fieldAddr 29 (Operand.tmp 2) 4, type := 0, pos := "atom.go:63", after := #[], guard := none }) (v := ?_) rfl (by kernel_rfl) (by kernel_rfl) (by kernel_rfl) (fun _ _ _ h => h) (Or.inl ⟨by rfl, ?_⟩) (by assumption) ?_
    rotate_left
    · intro W hSw
      try dsimp only at hSw
      obtain ⟨q0, q1, q2, q3, q4, q5, q6, q7, q8⟩ := T.out _ hSw; obtain ⟨x0, x1, x2, x3⟩ := TV.out _ hSw
      go_simp
      try with_reducible rfl
    try simp only [Act.put, List.setIfInBounds_toArray, List.set_cons_zero, List.set_cons_succ]
    refine wpAnyH_take (i := 1) (oi := { dst := some 25, op := Op.load 26 (Operand.tmp 24), type := 26, pos := "atom.go:63", after := #[{ on := 0, ground := Ground.data }], guard := none }) (v := ?_) rfl (by kernel_rfl) (by kernel_rfl) (by kernel_rfl) (fun _ _ _ h => h) (Or.inl ⟨by rfl, ?_⟩) (by assumption) ?_
    rotate_left
    · intro W hSw
      try dsimp only at hSw
      obtain ⟨q0, q1, q2, q3, q4, q5, q6, q7, q8⟩ := T.out _ hSw; obtain ⟨x0, x1, x2, x3⟩ := TV.out _ hSw
      go_simp
      try with_reducible rfl
    try simp only [Act.put, List.setIfInBounds_toArray, List.set_cons_zero, List.set_cons_succ]
    refine wpAnyH_take (i := 2) (oi := { dst := some 26, op := Op.call { callee := Callee.builtin Builtin.len, args := #[Operand.tmp 25], argTypes := #[26] }, type := 3, pos := "atom.go:63", after := #[{ on := 1, ground := Ground.data }], guard := none }) (v := ?_) rfl (by kernel_rfl) (by kernel_rfl) (by kernel_rfl) (fun _ _ _ h => h) (Or.inl ⟨by rfl, ?_⟩) (by assumption) ?_
    rotate_left
    · intro W hSw
      try dsimp only at hSw
      obtain ⟨q0, q1, q2, q3, q4, q5, q6, q7, q8⟩ := T.out _ hSw; obtain ⟨x0, x1, x2, x3⟩ := TV.out _ hSw
      go_simp
      try with_reducible rfl
    try simp only [Act.put, List.setIfInBounds_toArray, List.set_cons_zero, List.set_cons_succ]
    refine wpAnyH_take (i := 3) (oi := { dst := some 27, op := Op.binOp BinOp.geq 3 (Operand.tmp 26) (Operand.const (Value.int IntKind.i64 2)) 3, type := 4, pos := "atom.go:63", after := #[{ on := 2, ground := Ground.data }], guard := none }) (v := Value.bool false) rfl (by kernel_rfl) (by kernel_rfl) (by kernel_rfl) (fun _ _ _ h => h) (Or.inl ⟨by rfl, ?_⟩) (by assumption) ?_
    · intro W hSw
      try dsimp only at hSw
      go_simp
      try with_reducible rfl
    try simp only [Act.put, List.setIfInBounds_toArray, List.set_cons_zero, List.set_cons_succ]
    refine wpAnyH_take (i := 4) (oi := { dst := some 28, op := Op.move (Operand.tmp 27), type := 4, pos := "atom.go:63", after := #[{ on := 3, ground := Ground.data }], guard := none }) (v := ?_) rfl (by kernel_rfl) (by kernel_rfl) (by kernel_rfl) (fun _ _ _ h => h) (Or.inl ⟨by rfl, ?_⟩) (by assumption) ?_
    rotate_left
    · intro W hSw
      try dsimp only at hSw
      go_simp
      try with_reducible rfl
    try simp only [Act.put, List.setIfInBounds_toArray, List.set_cons_zero, List.set_cons_succ]
    refine wpAnyH_take (i := 5) (oi := { dst := some 29, op := Op.load 25 (Operand.tmp 3), type := 25, pos := "atom.go:63", after := #[{ on := 4, ground := Ground.guard }], guard := some (4, true) }) (v := undef) rfl (by kernel_rfl) (by kernel_rfl) (by kernel_rfl) (fun _ _ _ h => h) (Or.inr ⟨by rfl, rfl⟩) (by assumption) ?_
    try simp only [Act.put, List.setIfInBounds_toArray, List.set_cons_zero, List.set_cons_succ]
    refine wpAnyH_take (i := 6) (oi := { dst := some 30, op := Op.fieldAddr 29 (Operand.tmp 2) 4, type := 0, pos := "atom.go:63", after := #[{ on := 4, ground := Ground.guard }], guard := some (4, true) }) (v := undef) rfl (by kernel_rfl) (by kernel_rfl) (by kernel_rfl) (fun _ _ _ h => h) (Or.inr ⟨by rfl, rfl⟩) (by assumption) ?_
    try simp only [Act.put, List.setIfInBounds_toArray, List.set_cons_zero, List.set_cons_succ]
    refine wpAnyH_take (i := 7) (oi := { dst := some 31, op := Op.load 26 (Operand.tmp 30), type := 26, pos := "atom.go:63", after := #[{ on := 6, ground := Ground.data }, { on := 4, ground := Ground.guard }], guard := some (4, true) }) (v := undef) rfl (by kernel_rfl) (by kernel_rfl) (by kernel_rfl) (fun _ _ _ h => h) (Or.inr ⟨by rfl, rfl⟩) (by assumption) ?_
    try simp only [Act.put, List.setIfInBounds_toArray, List.set_cons_zero, List.set_cons_succ]
    refine wpAnyH_take (i := 8) (oi := { dst := some 32, op := Op.indexAddr 26 (Operand.tmp 31) (Operand.const (Value.int IntKind.i64 0)), type := 0, pos := "atom.go:63", after := #[{ on := 7, ground := Ground.data }, { on := 4, ground := Ground.guard }], guard := some (4, true) }) (v := undef) rfl (by kernel_rfl) (by kernel_rfl) (by kernel_rfl) (fun _ _ _ h => h) (Or.inr ⟨by rfl, rfl⟩) (by assumption) ?_
    try simp only [Act.put, List.setIfInBounds_toArray, List.set_cons_zero, List.set_cons_succ]
    refine wpAnyH_take (i := 9) (oi := { dst := some 33, op := Op.load 25 (Operand.tmp 32), type := 25, pos := "atom.go:63", after := #[{ on := 8, ground := Ground.data }, { on := 4, ground := Ground.guard }], guard := some (4, true) }) (v := undef) rfl (by kernel_rfl) (by kernel_rfl) (by kernel_rfl) (fun _ _ _ h => h) (Or.inr ⟨by rfl, rfl⟩) (by assumption) ?_
    try simp only [Act.put, List.setIfInBounds_toArray, List.set_cons_zero, List.set_cons_succ]
    refine wpAnyH_take (i := 10) (oi := { dst := some 34, op := Op.call { callee := Callee.value (Operand.func 75), args := #[Operand.tmp 29, Operand.tmp 33], argTypes := #[25, 25] }, type := 3, pos := "atom.go:63", after := #[{ on := 5, ground := Ground.data }, { on := 9, ground := Ground.data }, { on := 4, ground := Ground.chain }, { on := 4, ground := Ground.guard }], guard := some (4, true) }) (v := undef) rfl (by kernel_rfl) (by kernel_rfl) (by kernel_rfl) (fun _ _ _ h => h) (Or.inr ⟨by rfl, rfl⟩) (by assumption) ?_
    try simp only [Act.put, List.setIfInBounds_toArray, List.set_cons_zero, List.set_cons_succ]
    refine wpAnyH_take (i := 11) (oi := { dst := some 35, op := Op.binOp BinOp.geq 3 (Operand.tmp 34) (Operand.const (Value.int IntKind.i64 0)) 3, type := 4, pos := "atom.go:63", after := #[{ on := 10, ground := Ground.data }, { on := 4, ground := Ground.guard }], guard := some (4, true) }) (v := undef) rfl (by kernel_rfl) (by kernel_rfl) (by kernel_rfl) (fun _ _ _ h => h) (Or.inr ⟨by rfl, rfl⟩) (by assumption) ?_
    try simp only [Act.put, List.setIfInBounds_toArray, List.set_cons_zero, List.set_cons_succ]
    refine wpAnyH_take (i := 12) (oi := { dst := some 36, op := Op.pick (Operand.tmp 28) (Operand.tmp 35) (Operand.const (Value.bool false)), type := 4, pos := "atom.go:63", after := #[{ on := 4, ground := Ground.data }, { on := 11, ground := Ground.data }], guard := none }) (v := ?_) rfl (by kernel_rfl) (by kernel_rfl) (by kernel_rfl) (fun _ _ _ h => h) (Or.inl ⟨by rfl, ?_⟩) (by assumption) ?_
    rotate_left
    · intro W hSw
      try dsimp only at hSw
      go_simp
      try with_reducible rfl
    try simp only [Act.put, List.setIfInBounds_toArray, List.set_cons_zero, List.set_cons_succ]
    refine wpAnyH_take (i := 13) (oi := { dst := some 37, op := Op.move (Operand.tmp 36), type := 4, pos := "atom.go:63", after := #[{ on := 12, ground := Ground.data }, { on := 10, ground := Ground.chain }], guard := none }) (v := ?_) rfl (by kernel_rfl) (by kernel_rfl) (by kernel_rfl) (fun _ _ _ h => h) (Or.inl ⟨by rfl, ?_⟩) (by assumption) ?_
    rotate_left
    · intro W hSw
      try dsimp only at hSw
      go_simp
      try with_reducible rfl
    try simp only [Act.put, List.setIfInBounds_toArray, List.set_cons_zero, List.set_cons_succ]
    refine wpAnyH_take (i := 14) (oi := { dst := some 38, op := Op.load 25 (Operand.tmp 3), type := 25, pos := "atom.go:63", after := #[{ on := 13, ground := Ground.guard }], guard := some (13, true) }) (v := undef) rfl (by kernel_rfl) (by kernel_rfl) (by kernel_rfl) (fun _ _ _ h => h) (Or.inr ⟨by rfl, rfl⟩) (by assumption) ?_
    try simp only [Act.put, List.setIfInBounds_toArray, List.set_cons_zero, List.set_cons_succ]
    refine wpAnyH_take (i := 15) (oi := { dst := some 39, op := Op.fieldAddr 29 (Operand.tmp 2) 4, type := 0, pos := "atom.go:63", after := #[{ on := 13, ground := Ground.guard }], guard := some (13, true) }) (v := undef) rfl (by kernel_rfl) (by kernel_rfl) (by kernel_rfl) (fun _ _ _ h => h) (Or.inr ⟨by rfl, rfl⟩) (by assumption) ?_
    try simp only [Act.put, List.setIfInBounds_toArray, List.set_cons_zero, List.set_cons_succ]
    refine wpAnyH_take (i := 16) (oi := { dst := some 40, op := Op.load 26 (Operand.tmp 39), type := 26, pos := "atom.go:63", after := #[{ on := 15, ground := Ground.data }, { on := 13, ground := Ground.guard }], guard := some (13, true) }) (v := undef) rfl (by kernel_rfl) (by kernel_rfl) (by kernel_rfl) (fun _ _ _ h => h) (Or.inr ⟨by rfl, rfl⟩) (by assumption) ?_
    try simp only [Act.put, List.setIfInBounds_toArray, List.set_cons_zero, List.set_cons_succ]
    refine wpAnyH_take (i := 17) (oi := { dst := some 41, op := Op.indexAddr 26 (Operand.tmp 40) (Operand.const (Value.int IntKind.i64 1)), type := 0, pos := "atom.go:63", after := #[{ on := 16, ground := Ground.data }, { on := 13, ground := Ground.guard }], guard := some (13, true) }) (v := undef) rfl (by kernel_rfl) (by kernel_rfl) (by kernel_rfl) (fun _ _ _ h => h) (Or.inr ⟨by rfl, rfl⟩) (by assumption) ?_
    try simp only [Act.put, List.setIfInBounds_toArray, List.set_cons_zero, List.set_cons_succ]
    refine wpAnyH_take (i := 18) (oi := { dst := some 42, op := Op.load 25 (Operand.tmp 41), type := 25, pos := "atom.go:63", after := #[{ on := 17, ground := Ground.data }, { on := 13, ground := Ground.guard }], guard := some (13, true) }) (v := undef) rfl (by kernel_rfl) (by kernel_rfl) (by kernel_rfl) (fun _ _ _ h => h) (Or.inr ⟨by rfl, rfl⟩) (by assumption) ?_
    try simp only [Act.put, List.setIfInBounds_toArray, List.set_cons_zero, List.set_cons_succ]
    refine wpAnyH_take (i := 19) (oi := { dst := some 43, op := Op.call { callee := Callee.value (Operand.func 75), args := #[Operand.tmp 38, Operand.tmp 42], argTypes := #[25, 25] }, type := 3, pos := "atom.go:63", after := #[{ on := 14, ground := Ground.data }, { on := 18, ground := Ground.data }, { on := 13, ground := Ground.chain }, { on := 13, ground := Ground.guard }], guard := some (13, true) }) (v := undef) rfl (by kernel_rfl) (by kernel_rfl) (by kernel_rfl) (fun _ _ _ h => h) (Or.inr ⟨by rfl, rfl⟩) (by assumption) ?_
    try simp only [Act.put, List.setIfInBounds_toArray, List.set_cons_zero, List.set_cons_succ]
    refine wpAnyH_take (i := 20) (oi := { dst := some 44, op := Op.binOp BinOp.leq 3 (Operand.tmp 43) (Operand.const (Value.int IntKind.i64 0)) 3, type := 4, pos := "atom.go:63", after := #[{ on := 19, ground := Ground.data }, { on := 13, ground := Ground.guard }], guard := some (13, true) }) (v := undef) rfl (by kernel_rfl) (by kernel_rfl) (by kernel_rfl) (fun _ _ _ h => h) (Or.inr ⟨by rfl, rfl⟩) (by assumption) ?_
    try simp only [Act.put, List.setIfInBounds_toArray, List.set_cons_zero, List.set_cons_succ]
    refine wpAnyH_take (i := 21) (oi := { dst := some 45, op := Op.pick (Operand.tmp 37) (Operand.tmp 44) (Operand.const (Value.bool false)), type := 4, pos := "atom.go:63", after := #[{ on := 13, ground := Ground.data }, { on := 20, ground := Ground.data }], guard := none }) (v := ?_) rfl (by kernel_rfl) (by kernel_rfl) (by kernel_rfl) (fun _ _ _ h => h) (Or.inl ⟨by rfl, ?_⟩) (by assumption) ?_
    rotate_left
    · intro W hSw
      try dsimp only at hSw
      go_simp
      try with_reducible rfl
    try simp only [Act.put, List.setIfInBounds_toArray, List.set_cons_zero, List.set_cons_succ]
    refine wpAnyH_take (i := 22) (oi := { dst := some 4, op := Op.assign (Operand.tmp 45), type := 4, pos := "atom.go:63", after := #[{ on := 21, ground := Ground.data }, { on := 19, ground := Ground.chain }, { on := 0, ground := Ground.phase }, { on := 1, ground := Ground.phase }, { on := 2, ground := Ground.phase }, { on := 3, ground := Ground.phase }, { on := 4, ground := Ground.phase }, { on := 5, ground := Ground.phase }, { on := 6, ground := Ground.phase }, { on := 7, ground := Ground.phase }, { on := 8, ground := Ground.phase }, { on := 9, ground := Ground.phase }, { on := 10, ground := Ground.phase }, { on := 11, ground := Ground.phase }, { on := 12, ground := Ground.phase }, { on := 13, ground := Ground.phase }, { on := 14, ground := Ground.phase }, { on := 15, ground := Ground.phase }, { on := 16, ground := Ground.phase }, { on := 17, ground := Ground.phase }, { on := 18, ground := Ground.phase }, { on := 19, ground := Ground.phase }, { on := 20, ground := Ground.phase }, { on := 21, ground := Ground.phase }], guard := none }) (v := ?_) rfl (by kernel_rfl) (by kernel_rfl) (by kernel_rfl) (fun _ _ _ h => h) (Or.inl ⟨by rfl, ?_⟩) (by assumption) ?_
    rotate_left
    · intro W hSw
      try dsimp only at hSw
      go_simp
      try with_reducible rfl
    try simp only [Act.put, List.setIfInBounds_toArray, List.set_cons_zero, List.set_cons_succ]
    refine wpAnyH_done (by kernel_rfl) ?_ _
    refine NoPanic.normal ?_
    clear hHeld0
    go_wp2_with fail
    go_ret
    exact ⟨ret_bool HR.out.symm, below_up B0.out v0⟩
  · dsimp only at HR
    obtain ⟨vK, vI, vb, vs⟩ := v
    try unfold pv at *
    unfold vv at *
    try unfold pa at *
    unfold va at *
    dsimp only at *
    simp only [List.length_cons, List.length_nil, Nat.zero_add] at HW T ⊢
    obtain ⟨q0, q1, q2, q3, q4, q5, q6, q7, q8⟩ := T.out W (Below.refl _ _)
    obtain ⟨x0, x1, x2, x3⟩ := TV.out W (Below.refl _ _)
    go_enter Tryz.func64, Tryz.ntmps64
    go_wp2_with fail
    rw [HW.out]
    have v0 : Below W.heap.size W W.drew := below_drewN (Below.refl _ W) 1
    clear q0 q1 q2 q3 q4 q5 q6 q7 q8 x0 x1 x2 x3
    refine wp_region_noPanic ?_
    refine wp_region_held_drew (S := fun v => Below W.heap.size W v) (by kernel_rfl) (v0) (fun hHeld0 => ?_)
    refine wpAnyH_take (i := 0) (oi := { dst := some 24, op := Op.fieldAddr 29 (Operand.tmp 2) 4, type := 0, pos := "atom.go:63", after := #[], guard := none }) (v := ?_) rfl (by kernel_rfl) (by kernel_rfl) (by kernel_rfl) (fun _ _ _ h => h) (Or.inl ⟨by rfl, ?_⟩) (by assumption) ?_
    rotate_left
    · intro W hSw
      try dsimp only at hSw
      obtain ⟨q0, q1, q2, q3, q4, q5, q6, q7, q8⟩ := T.out _ hSw; obtain ⟨x0, x1, x2, x3⟩ := TV.out _ hSw
      go_simp
      try with_reducible rfl
    try simp only [Act.put, List.setIfInBounds_toArray, List.set_cons_zero, List.set_cons_succ]
    refine wpAnyH_take (i := 1) (oi := { dst := some 25, op := Op.load 26 (Operand.tmp 24), type := 26, pos := "atom.go:63", after := #[{ on := 0, ground := Ground.data }], guard := none }) (v := ?_) rfl (by kernel_rfl) (by kernel_rfl) (by kernel_rfl) (fun _ _ _ h => h) (Or.inl ⟨by rfl, ?_⟩) (by assumption) ?_
    rotate_left
    · intro W hSw
      try dsimp only at hSw
      obtain ⟨q0, q1, q2, q3, q4, q5, q6, q7, q8⟩ := T.out _ hSw; obtain ⟨x0, x1, x2, x3⟩ := TV.out _ hSw
      go_simp
      try with_reducible rfl
    try simp only [Act.put, List.setIfInBounds_toArray, List.set_cons_zero, List.set_cons_succ]
    refine wpAnyH_take (i := 2) (oi := { dst := some 26, op := Op.call { callee := Callee.builtin Builtin.len, args := #[Operand.tmp 25], argTypes := #[26] }, type := 3, pos := "atom.go:63", after := #[{ on := 1, ground := Ground.data }], guard := none }) (v := ?_) rfl (by kernel_rfl) (by kernel_rfl) (by kernel_rfl) (fun _ _ _ h => h) (Or.inl ⟨by rfl, ?_⟩) (by assumption) ?_
    rotate_left
    · intro W hSw
      try dsimp only at hSw
      obtain ⟨q0, q1, q2, q3, q4, q5, q6, q7, q8⟩ := T.out _ hSw; obtain ⟨x0, x1, x2, x3⟩ := TV.out _ hSw
      go_simp
      try with_reducible rfl
    try simp only [Act.put, List.setIfInBounds_toArray, List.set_cons_zero, List.set_cons_succ]
    refine wpAnyH_take (i := 3) (oi := { dst := some 27, op := Op.binOp BinOp.geq 3 (Operand.tmp 26) (Operand.const (Value.int IntKind.i64 2)) 3, type := 4, pos := "atom.go:63", after := #[{ on := 2, ground := Ground.data }], guard := none }) (v := Value.bool false) rfl (by kernel_rfl) (by kernel_rfl) (by kernel_rfl) (fun _ _ _ h => h) (Or.inl ⟨by rfl, ?_⟩) (by assumption) ?_
    · intro W hSw
      try dsimp only at hSw
      go_simp
      try with_reducible rfl
    try simp only [Act.put, List.setIfInBounds_toArray, List.set_cons_zero, List.set_cons_succ]
    refine wpAnyH_take (i := 4) (oi := { dst := some 28, op := Op.move (Operand.tmp 27), type := 4, pos := "atom.go:63", after := #[{ on := 3, ground := Ground.data }], guard := none }) (v := ?_) rfl (by kernel_rfl) (by kernel_rfl) (by kernel_rfl) (fun _ _ _ h => h) (Or.inl ⟨by rfl, ?_⟩) (by assumption) ?_
    rotate_left
    · intro W hSw
      try dsimp only at hSw
      go_simp
      try with_reducible rfl
    try simp only [Act.put, List.setIfInBounds_toArray, List.set_cons_zero, List.set_cons_succ]
    refine wpAnyH_take (i := 5) (oi := { dst := some 29, op := Op.load 25 (Operand.tmp 3), type := 25, pos := "atom.go:63", after := #[{ on := 4, ground := Ground.guard }], guard := some (4, true) }) (v := undef) rfl (by kernel_rfl) (by kernel_rfl) (by kernel_rfl) (fun _ _ _ h => h) (Or.inr ⟨by rfl, rfl⟩) (by assumption) ?_
    try simp only [Act.put, List.setIfInBounds_toArray, List.set_cons_zero, List.set_cons_succ]
    refine wpAnyH_take (i := 6) (oi := { dst := some 30, op := Op.fieldAddr 29 (Operand.tmp 2) 4, type := 0, pos := "atom.go:63", after := #[{ on := 4, ground := Ground.guard }], guard := some (4, true) }) (v := undef) rfl (by kernel_rfl) (by kernel_rfl) (by kernel_rfl) (fun _ _ _ h => h) (Or.inr ⟨by rfl, rfl⟩) (by assumption) ?_
    try simp only [Act.put, List.setIfInBounds_toArray, List.set_cons_zero, List.set_cons_succ]
    refine wpAnyH_take (i := 7) (oi := { dst := some 31, op := Op.load 26 (Operand.tmp 30), type := 26, pos := "atom.go:63", after := #[{ on := 6, ground := Ground.data }, { on := 4, ground := Ground.guard }], guard := some (4, true) }) (v := undef) rfl (by kernel_rfl) (by kernel_rfl) (by kernel_rfl) (fun _ _ _ h => h) (Or.inr ⟨by rfl, rfl⟩) (by assumption) ?_
    try simp only [Act.put, List.setIfInBounds_toArray, List.set_cons_zero, List.set_cons_succ]
    refine wpAnyH_take (i := 8) (oi := { dst := some 32, op := Op.indexAddr 26 (Operand.tmp 31) (Operand.const (Value.int IntKind.i64 0)), type := 0, pos := "atom.go:63", after := #[{ on := 7, ground := Ground.data }, { on := 4, ground := Ground.guard }], guard := some (4, true) }) (v := undef) rfl (by kernel_rfl) (by kernel_rfl) (by kernel_rfl) (fun _ _ _ h => h) (Or.inr ⟨by rfl, rfl⟩) (by assumption) ?_
    try simp only [Act.put, List.setIfInBounds_toArray, List.set_cons_zero, List.set_cons_succ]
    refine wpAnyH_take (i := 9) (oi := { dst := some 33, op := Op.load 25 (Operand.tmp 32), type := 25, pos := "atom.go:63", after := #[{ on := 8, ground := Ground.data }, { on := 4, ground := Ground.guard }], guard := some (4, true) }) (v := undef) rfl (by kernel_rfl) (by kernel_rfl) (by kernel_rfl) (fun _ _ _ h => h) (Or.inr ⟨by rfl, rfl⟩) (by assumption) ?_
    try simp only [Act.put, List.setIfInBounds_toArray, List.set_cons_zero, List.set_cons_succ]
    refine wpAnyH_take (i := 10) (oi := { dst := some 34, op := Op.call { callee := Callee.value (Operand.func 75), args := #[Operand.tmp 29, Operand.tmp 33], argTypes := #[25, 25] }, type := 3, pos := "atom.go:63", after := #[{ on := 5, ground := Ground.data }, { on := 9, ground := Ground.data }, { on := 4, ground := Ground.chain }, { on := 4, ground := Ground.guard }], guard := some (4, true) }) (v := undef) rfl (by kernel_rfl) (by kernel_rfl) (by kernel_rfl) (fun _ _ _ h => h) (Or.inr ⟨by rfl, rfl⟩) (by assumption) ?_
    try simp only [Act.put, List.setIfInBounds_toArray, List.set_cons_zero, List.set_cons_succ]
    refine wpAnyH_take (i := 11) (oi := { dst := some 35, op := Op.binOp BinOp.geq 3 (Operand.tmp 34) (Operand.const (Value.int IntKind.i64 0)) 3, type := 4, pos := "atom.go:63", after := #[{ on := 10, ground := Ground.data }, { on := 4, ground := Ground.guard }], guard := some (4, true) }) (v := undef) rfl (by kernel_rfl) (by kernel_rfl) (by kernel_rfl) (fun _ _ _ h => h) (Or.inr ⟨by rfl, rfl⟩) (by assumption) ?_
    try simp only [Act.put, List.setIfInBounds_toArray, List.set_cons_zero, List.set_cons_succ]
    refine wpAnyH_take (i := 12) (oi := { dst := some 36, op := Op.pick (Operand.tmp 28) (Operand.tmp 35) (Operand.const (Value.bool false)), type := 4, pos := "atom.go:63", after := #[{ on := 4, ground := Ground.data }, { on := 11, ground := Ground.data }], guard := none }) (v := ?_) rfl (by kernel_rfl) (by kernel_rfl) (by kernel_rfl) (fun _ _ _ h => h) (Or.inl ⟨by rfl, ?_⟩) (by assumption) ?_
    rotate_left
    · intro W hSw
      try dsimp only at hSw
      go_simp
      try with_reducible rfl
    try simp only [Act.put, List.setIfInBounds_toArray, List.set_cons_zero, List.set_cons_succ]
    refine wpAnyH_take (i := 13) (oi := { dst := some 37, op := Op.move (Operand.tmp 36), type := 4, pos := "atom.go:63", after := #[{ on := 12, ground := Ground.data }, { on := 10, ground := Ground.chain }], guard := none }) (v := ?_) rfl (by kernel_rfl) (by kernel_rfl) (by kernel_rfl) (fun _ _ _ h => h) (Or.inl ⟨by rfl, ?_⟩) (by assumption) ?_
    rotate_left
    · intro W hSw
      try dsimp only at hSw
      go_simp
      try with_reducible rfl
    try simp only [Act.put, List.setIfInBounds_toArray, List.set_cons_zero, List.set_cons_succ]
    refine wpAnyH_take (i := 14) (oi := { dst := some 38, op := Op.load 25 (Operand.tmp 3), type := 25, pos := "atom.go:63", after := #[{ on := 13, ground := Ground.guard }], guard := some (13, true) }) (v := undef) rfl (by kernel_rfl) (by kernel_rfl) (by kernel_rfl) (fun _ _ _ h => h) (Or.inr ⟨by rfl, rfl⟩) (by assumption) ?_
    try simp only [Act.put, List.setIfInBounds_toArray, List.set_cons_zero, List.set_cons_succ]
    refine wpAnyH_take (i := 15) (oi := { dst := some 39, op := Op.fieldAddr 29 (Operand.tmp 2) 4, type := 0, pos := "atom.go:63", after := #[{ on := 13, ground := Ground.guard }], guard := some (13, true) }) (v := undef) rfl (by kernel_rfl) (by kernel_rfl) (by kernel_rfl) (fun _ _ _ h => h) (Or.inr ⟨by rfl, rfl⟩) (by assumption) ?_
    try simp only [Act.put, List.setIfInBounds_toArray, List.set_cons_zero, List.set_cons_succ]
    refine wpAnyH_take (i := 16) (oi := { dst := some 40, op := Op.load 26 (Operand.tmp 39), type := 26, pos := "atom.go:63", after := #[{ on := 15, ground := Ground.data }, { on := 13, ground := Ground.guard }], guard := some (13, true) }) (v := undef) rfl (by kernel_rfl) (by kernel_rfl) (by kernel_rfl) (fun _ _ _ h => h) (Or.inr ⟨by rfl, rfl⟩) (by assumption) ?_
    try simp only [Act.put, List.setIfInBounds_toArray, List.set_cons_zero, List.set_cons_succ]
    refine wpAnyH_take (i := 17) (oi := { dst := some 41, op := Op.indexAddr 26 (Operand.tmp 40) (Operand.const (Value.int IntKind.i64 1)), type := 0, pos := "atom.go:63", after := #[{ on := 16, ground := Ground.data }, { on := 13, ground := Ground.guard }], guard := some (13, true) }) (v := undef) rfl (by kernel_rfl) (by kernel_rfl) (by kernel_rfl) (fun _ _ _ h => h) (Or.inr ⟨by rfl, rfl⟩) (by assumption) ?_
    try simp only [Act.put, List.setIfInBounds_toArray, List.set_cons_zero, List.set_cons_succ]
    refine wpAnyH_take (i := 18) (oi := { dst := some 42, op := Op.load 25 (Operand.tmp 41), type := 25, pos := "atom.go:63", after := #[{ on := 17, ground := Ground.data }, { on := 13, ground := Ground.guard }], guard := some (13, true) }) (v := undef) rfl (by kernel_rfl) (by kernel_rfl) (by kernel_rfl) (fun _ _ _ h => h) (Or.inr ⟨by rfl, rfl⟩) (by assumption) ?_
    try simp only [Act.put, List.setIfInBounds_toArray, List.set_cons_zero, List.set_cons_succ]
    refine wpAnyH_take (i := 19) (oi := { dst := some 43, op := Op.call { callee := Callee.value (Operand.func 75), args := #[Operand.tmp 38, Operand.tmp 42], argTypes := #[25, 25] }, type := 3, pos := "atom.go:63", after := #[{ on := 14, ground := Ground.data }, { on := 18, ground := Ground.data }, { on := 13, ground := Ground.chain }, { on := 13, ground := Ground.guard }], guard := some (13, true) }) (v := undef) rfl (by kernel_rfl) (by kernel_rfl) (by kernel_rfl) (fun _ _ _ h => h) (Or.inr ⟨by rfl, rfl⟩) (by assumption) ?_
    try simp only [Act.put, List.setIfInBounds_toArray, List.set_cons_zero, List.set_cons_succ]
    refine wpAnyH_take (i := 20) (oi := { dst := some 44, op := Op.binOp BinOp.leq 3 (Operand.tmp 43) (Operand.const (Value.int IntKind.i64 0)) 3, type := 4, pos := "atom.go:63", after := #[{ on := 19, ground := Ground.data }, { on := 13, ground := Ground.guard }], guard := some (13, true) }) (v := undef) rfl (by kernel_rfl) (by kernel_rfl) (by kernel_rfl) (fun _ _ _ h => h) (Or.inr ⟨by rfl, rfl⟩) (by assumption) ?_
    try simp only [Act.put, List.setIfInBounds_toArray, List.set_cons_zero, List.set_cons_succ]
    refine wpAnyH_take (i := 21) (oi := { dst := some 45, op := Op.pick (Operand.tmp 37) (Operand.tmp 44) (Operand.const (Value.bool false)), type := 4, pos := "atom.go:63", after := #[{ on := 13, ground := Ground.data }, { on := 20, ground := Ground.data }], guard := none }) (v := ?_) rfl (by kernel_rfl) (by kernel_rfl) (by kernel_rfl) (fun _ _ _ h => h) (Or.inl ⟨by rfl, ?_⟩) (by assumption) ?_
    rotate_left
    · intro W hSw
      try dsimp only at hSw
      go_simp
      try with_reducible rfl
    try simp only [Act.put, List.setIfInBounds_toArray, List.set_cons_zero, List.set_cons_succ]
    refine wpAnyH_take (i := 22) (oi := { dst := some 4, op := Op.assign (Operand.tmp 45), type := 4, pos := "atom.go:63", after := #[{ on := 21, ground := Ground.data }, { on := 19, ground := Ground.chain }, { on := 0, ground := Ground.phase }, { on := 1, ground := Ground.phase }, { on := 2, ground := Ground.phase }, { on := 3, ground := Ground.phase }, { on := 4, ground := Ground.phase }, { on := 5, ground := Ground.phase }, { on := 6, ground := Ground.phase }, { on := 7, ground := Ground.phase }, { on := 8, ground := Ground.phase }, { on := 9, ground := Ground.phase }, { on := 10, ground := Ground.phase }, { on := 11, ground := Ground.phase }, { on := 12, ground := Ground.phase }, { on := 13, ground := Ground.phase }, { on := 14, ground := Ground.phase }, { on := 15, ground := Ground.phase }, { on := 16, ground := Ground.phase }, { on := 17, ground := Ground.phase }, { on := 18, ground := Ground.phase }, { on := 19, ground := Ground.phase }, { on := 20, ground := Ground.phase }, { on := 21, ground := Ground.phase }], guard := none }) (v := ?_) rfl (by kernel_rfl) (by kernel_rfl) (by kernel_rfl) (fun _ _ _ h => h) (Or.inl ⟨by rfl, ?_⟩) (by assumption) ?_
    rotate_left
    · intro W hSw
      try dsimp only at hSw
      go_simp
      try with_reducible rfl
    try simp only [Act.put, List.setIfInBounds_toArray, List.set_cons_zero, List.set_cons_succ]
    refine wpAnyH_done (by kernel_rfl) ?_ _
    refine NoPanic.normal ?_
    clear hHeld0
    go_wp2_with fail
    go_ret
    exact ⟨ret_bool HR.out.symm, below_up B0.out v0⟩
  ·
    dsimp only at HR
    have HX := hid (HO.out x (by simp))
    have HY := hid (HO.out y (by simp))
    obtain ⟨g, o, rfl, hg, k0, k1, k2, k3⟩ := HL.out.cell4 (i := 0) (by simp)
    obtain ⟨g', o', e', _, n0, n1, n2, n3⟩ := HL.out.cell4 (i := 1) (by simp)
    cases e'
    simp only [Nat.zero_mul, Nat.one_mul, Nat.add_zero, List.getElem_cons_zero, List.getElem_cons_succ] at k0 k1 k2 k3 n0 n1 n2 n3
    have TL : Hid (∀ W2, Below W.heap.size W W2 → W2.cell? ⟨g, o, none⟩ = some (.int .i64 x.K) ∧ W2.cell? ⟨g, o + 1, none⟩ = some (.int .i64 x.I) ∧ W2.cell? ⟨g, o + 2, none⟩ = some (.float .f64 x.b) ∧ W2.cell? ⟨g, o + 3, none⟩ = some (.string x.s) ∧ W2.cell? ⟨g, o + 4, none⟩ = some (.int .i64 y.K) ∧ W2.cell? ⟨g, o + 4 + 1, none⟩ = some (.int .i64 y.I) ∧ W2.cell? ⟨g, o + 4 + 2, none⟩ = some (.float .f64 y.b) ∧ W2.cell? ⟨g, o + 4 + 3, none⟩ = some (.string y.s)) := fun W2 h =>
      ⟨(h.cell (by exact hg)).trans k0, (h.cell (by exact hg)).trans k1, (h.cell (by exact hg)).trans k2, (h.cell (by exact hg)).trans k3, (h.cell (by exact hg)).trans n0, (h.cell (by exact hg)).trans n1, (h.cell (by exact hg)).trans n2, (h.cell (by exact hg)).trans n3⟩
    have HCx := hid fun w => HC.out x w HX.out
    have HCy := hid fun w => HC.out y w HY.out
    clear k0 k1 k2 k3 n0 n1 n2 n3 HL HO HX HY HC hg
    obtain ⟨n, hn⟩ : ∃ n, (x :: y :: r).length = n := ⟨_, rfl⟩
    have hn2 : 2 ≤ n := by rw [← hn]; simp
    rw [hn] at hpn T
    have hi0 : (0 : Int) < (n : Int) := by omega
    have hn0 : 0 < n := by omega
    have hn1 : 1 < n := by omega
    have hi1 : (1 : Int) < (n : Int) := by omega
    have hge : (2 : Int) ≤ (n : Int) := by omega
    have hpv : pv ⟨3, c, op, ⟨uK, uI, ub, us⟩, x :: y :: r, m⟩ (some ⟨g, o, none⟩) d b e = .agg #[.int .i64 3, .string c, .int .i64 op, .int .i64 uK, .int .i64 uI, .float .f64 ub, .string us, .slice (some ⟨g, o, none⟩) n d, .slice b m e] := by unfold pv pa; dsimp only; rw [hn]
    have hpa : pa ⟨3, c, op, ⟨uK, uI, ub, us⟩, x :: y :: r, m⟩ (some ⟨g, o, none⟩) d b e = #[.int .i64 3, .string c, .int .i64 op, .int .i64 uK, .int .i64 uI, .float .f64 ub, .string us, .slice (some ⟨g, o, none⟩) n d, .slice b m e] := by unfold pa; dsimp only; rw [hn]
    rw [hpv]
    rw [hpa] at HW
    clear hpv hpa hn
    generalize cmpA v x = cx at *
    generalize cmpA v y = cy at *
    obtain ⟨xK, xI, xb, xs⟩ := x
    obtain ⟨yK, yI, yb, ys⟩ := y
    obtain ⟨vK, vI, vb, vs⟩ := v
    try unfold pv at *
    unfold vv at *
    try unfold pa at *
    unfold va at *
    dsimp only at *
    obtain ⟨q0, q1, q2, q3, q4, q5, q6, q7, q8⟩ := T.out W (Below.refl _ _)
    obtain ⟨x0, x1, x2, x3⟩ := TV.out W (Below.refl _ _)
    go_enter Tryz.func64, Tryz.ntmps64
    go_wp2_with fail
    rw [HW.out]
    have v0 : Below W.heap.size W W.drew := below_drewN (Below.refl _ W) 1
    clear q0 q1 q2 q3 q4 q5 q6 q7 q8 x0 x1 x2 x3
    by_cases hcx : 0 ≤ cx
    · have hcx2 := hcx
      refine wp_region_noPanic ?_
      refine wp_region_held_drew (S := fun v => Below W.heap.size W v) (by kernel_rfl) (v0) (fun hHeld0 => ?_)
      refine wpAnyH_take (i := 0) (oi := { dst := some 24, op := Op.fieldAddr 29 (Operand.tmp 2) 4, type := 0, pos := "atom.go:63", after := #[], guard := none }) (v := ?_) rfl (by kernel_rfl) (by kernel_rfl) (by kernel_rfl) (fun _ _ _ h => h) (Or.inl ⟨by rfl, ?_⟩) (by assumption) ?_
      rotate_left
      · intro W hSw
        try dsimp only at hSw
        obtain ⟨q0, q1, q2, q3, q4, q5, q6, q7, q8⟩ := T.out _ hSw; obtain ⟨x0, x1, x2, x3⟩ := TV.out _ hSw; obtain ⟨g0, g1, g2, g3, g4, g5, g6, g7⟩ := TL.out _ hSw
        go_simp
        try with_reducible rfl
      try simp only [Act.put, List.setIfInBounds_toArray, List.set_cons_zero, List.set_cons_succ]
      refine wpAnyH_take (i := 1) (oi := { dst := some 25, op := Op.load 26 (Operand.tmp 24), type := 26, pos := "atom.go:63", after := #[{ on := 0, ground := Ground.data }], guard := none }) (v := ?_) rfl (by kernel_rfl) (by kernel_rfl) (by kernel_rfl) (fun _ _ _ h => h) (Or.inl ⟨by rfl, ?_⟩) (by assumption) ?_
      rotate_left
      · intro W hSw
        try dsimp only at hSw
        obtain ⟨q0, q1, q2, q3, q4, q5, q6, q7, q8⟩ := T.out _ hSw; obtain ⟨x0, x1, x2, x3⟩ := TV.out _ hSw; obtain ⟨g0, g1, g2, g3, g4, g5, g6, g7⟩ := TL.out _ hSw
        go_simp
        try with_reducible rfl
      try simp only [Act.put, List.setIfInBounds_toArray, List.set_cons_zero, List.set_cons_succ]
      refine wpAnyH_take (i := 2) (oi := { dst := some 26, op := Op.call { callee := Callee.builtin Builtin.len, args := #[Operand.tmp 25], argTypes := #[26] }, type := 3, pos := "atom.go:63", after := #[{ on := 1, ground := Ground.data }], guard := none }) (v := ?_) rfl (by kernel_rfl) (by kernel_rfl) (by kernel_rfl) (fun _ _ _ h => h) (Or.inl ⟨by rfl, ?_⟩) (by assumption) ?_
      rotate_left
      · intro W hSw
        try dsimp only at hSw
        obtain ⟨q0, q1, q2, q3, q4, q5, q6, q7, q8⟩ := T.out _ hSw; obtain ⟨x0, x1, x2, x3⟩ := TV.out _ hSw; obtain ⟨g0, g1, g2, g3, g4, g5, g6, g7⟩ := TL.out _ hSw
        go_simp
        try with_reducible rfl
      try simp only [Act.put, List.setIfInBounds_toArray, List.set_cons_zero, List.set_cons_succ]
      refine wpAnyH_take (i := 3) (oi := { dst := some 27, op := Op.binOp BinOp.geq 3 (Operand.tmp 26) (Operand.const (Value.int IntKind.i64 2)) 3, type := 4, pos := "atom.go:63", after := #[{ on := 2, ground := Ground.data }], guard := none }) (v := Value.bool true) rfl (by kernel_rfl) (by kernel_rfl) (by kernel_rfl) (fun _ _ _ h => h) (Or.inl ⟨by rfl, ?_⟩) (by assumption) ?_
      · intro W hSw
        try dsimp only at hSw
        go_simp
        try with_reducible rfl
      try simp only [Act.put, List.setIfInBounds_toArray, List.set_cons_zero, List.set_cons_succ]
      refine wpAnyH_take (i := 4) (oi := { dst := some 28, op := Op.move (Operand.tmp 27), type := 4, pos := "atom.go:63", after := #[{ on := 3, ground := Ground.data }], guard := none }) (v := ?_) rfl (by kernel_rfl) (by kernel_rfl) (by kernel_rfl) (fun _ _ _ h => h) (Or.inl ⟨by rfl, ?_⟩) (by assumption) ?_
      rotate_left
      · intro W hSw
        try dsimp only at hSw
        go_simp
        try with_reducible rfl
      try simp only [Act.put, List.setIfInBounds_toArray, List.set_cons_zero, List.set_cons_succ]
      refine wpAnyH_take (i := 5) (oi := { dst := some 29, op := Op.load 25 (Operand.tmp 3), type := 25, pos := "atom.go:63", after := #[{ on := 4, ground := Ground.guard }], guard := some (4, true) }) (v := ?_) rfl (by kernel_rfl) (by kernel_rfl) (by kernel_rfl) (fun _ _ _ h => h) (Or.inl ⟨by rfl, ?_⟩) (by assumption) ?_
      rotate_left
      · intro W hSw
        try dsimp only at hSw
        obtain ⟨q0, q1, q2, q3, q4, q5, q6, q7, q8⟩ := T.out _ hSw; obtain ⟨x0, x1, x2, x3⟩ := TV.out _ hSw; obtain ⟨g0, g1, g2, g3, g4, g5, g6, g7⟩ := TL.out _ hSw
        go_simp
        try with_reducible rfl
      try simp only [Act.put, List.setIfInBounds_toArray, List.set_cons_zero, List.set_cons_succ]
      refine wpAnyH_take (i := 6) (oi := { dst := some 30, op := Op.fieldAddr 29 (Operand.tmp 2) 4, type := 0, pos := "atom.go:63", after := #[{ on := 4, ground := Ground.guard }], guard := some (4, true) }) (v := ?_) rfl (by kernel_rfl) (by kernel_rfl) (by kernel_rfl) (fun _ _ _ h => h) (Or.inl ⟨by rfl, ?_⟩) (by assumption) ?_
      rotate_left
      · intro W hSw
        try dsimp only at hSw
        obtain ⟨q0, q1, q2, q3, q4, q5, q6, q7, q8⟩ := T.out _ hSw; obtain ⟨x0, x1, x2, x3⟩ := TV.out _ hSw; obtain ⟨g0, g1, g2, g3, g4, g5, g6, g7⟩ := TL.out _ hSw
        go_simp
        try with_reducible rfl
      try simp only [Act.put, List.setIfInBounds_toArray, List.set_cons_zero, List.set_cons_succ]
      refine wpAnyH_take (i := 7) (oi := { dst := some 31, op := Op.load 26 (Operand.tmp 30), type := 26, pos := "atom.go:63", after := #[{ on := 6, ground := Ground.data }, { on := 4, ground := Ground.guard }], guard := some (4, true) }) (v := ?_) rfl (by kernel_rfl) (by kernel_rfl) (by kernel_rfl) (fun _ _ _ h => h) (Or.inl ⟨by rfl, ?_⟩) (by assumption) ?_
      rotate_left
      · intro W hSw
        try dsimp only at hSw
        obtain ⟨q0, q1, q2, q3, q4, q5, q6, q7, q8⟩ := T.out _ hSw; obtain ⟨x0, x1, x2, x3⟩ := TV.out _ hSw; obtain ⟨g0, g1, g2, g3, g4, g5, g6, g7⟩ := TL.out _ hSw
        go_simp
        try with_reducible rfl
      try simp only [Act.put, List.setIfInBounds_toArray, List.set_cons_zero, List.set_cons_succ]
      refine wpAnyH_take (i := 8) (oi := { dst := some 32, op := Op.indexAddr 26 (Operand.tmp 31) (Operand.const (Value.int IntKind.i64 0)), type := 0, pos := "atom.go:63", after := #[{ on := 7, ground := Ground.data }, { on := 4, ground := Ground.guard }], guard := some (4, true) }) (v := ?_) rfl (by kernel_rfl) (by kernel_rfl) (by kernel_rfl) (fun _ _ _ h => h) (Or.inl ⟨by rfl, ?_⟩) (by assumption) ?_
      rotate_left
      · intro W hSw
        try dsimp only at hSw
        obtain ⟨q0, q1, q2, q3, q4, q5, q6, q7, q8⟩ := T.out _ hSw; obtain ⟨x0, x1, x2, x3⟩ := TV.out _ hSw; obtain ⟨g0, g1, g2, g3, g4, g5, g6, g7⟩ := TL.out _ hSw
        go_simp
        try with_reducible rfl
      try simp only [Act.put, List.setIfInBounds_toArray, List.set_cons_zero, List.set_cons_succ]
      refine wpAnyH_take (i := 9) (oi := { dst := some 33, op := Op.load 25 (Operand.tmp 32), type := 25, pos := "atom.go:63", after := #[{ on := 8, ground := Ground.data }, { on := 4, ground := Ground.guard }], guard := some (4, true) }) (v := ?_) rfl (by kernel_rfl) (by kernel_rfl) (by kernel_rfl) (fun _ _ _ h => h) (Or.inl ⟨by rfl, ?_⟩) (by assumption) ?_
      rotate_left
      · intro W hSw
        try dsimp only at hSw
        obtain ⟨q0, q1, q2, q3, q4, q5, q6, q7, q8⟩ := T.out _ hSw; obtain ⟨x0, x1, x2, x3⟩ := TV.out _ hSw; obtain ⟨g0, g1, g2, g3, g4, g5, g6, g7⟩ := TL.out _ hSw
        go_simp
        try with_reducible rfl
      try simp only [Act.put, List.setIfInBounds_toArray, List.set_cons_zero, List.set_cons_succ]
      refine wpAnyH_ready (rs := [10]) (by kernel_rfl) (by simp) ?_
      refine AllReadyH.cons (o := { dst := some 34, op := Op.call { callee := Callee.value (Operand.func 75), args := #[Operand.tmp 29, Operand.tmp 33], argTypes := #[25, 25] }, type := 3, pos := "atom.go:63", after := #[{ on := 5, ground := Ground.data }, { on := 9, ground := Ground.data }, { on := 4, ground := Ground.chain }, { on := 4, ground := Ground.guard }], guard := some (4, true) }) rfl (fun K hK => ?_) AllReadyH.nil
      rw [if_pos (by rfl)]
      go_simp
      refine (HCx.out _).mono ?_
      rintro e s1 ⟨rfl, h1⟩
      have v1 : Below W.heap.size W s1 := below_up v0 h1
      clear h1
      refine hK.out _ _ (v1) (fun hHeld1 => ?_)
      clear hK K hHeld0
      try simp only [Act.put, List.setIfInBounds_toArray, List.set_cons_zero, List.set_cons_succ]
      refine wpAnyH_take (i := 11) (oi := { dst := some 35, op := Op.binOp BinOp.geq 3 (Operand.tmp 34) (Operand.const (Value.int IntKind.i64 0)) 3, type := 4, pos := "atom.go:63", after := #[{ on := 10, ground := Ground.data }, { on := 4, ground := Ground.guard }], guard := some (4, true) }) (v := Value.bool true) rfl (by kernel_rfl) (by kernel_rfl) (by kernel_rfl) (fun _ _ _ h => h) (Or.inl ⟨by rfl, ?_⟩) (by assumption) ?_
      · intro W hSw
        try dsimp only at hSw
        go_simp
        try with_reducible rfl
      try simp only [Act.put, List.setIfInBounds_toArray, List.set_cons_zero, List.set_cons_succ]
      refine wpAnyH_take (i := 12) (oi := { dst := some 36, op := Op.pick (Operand.tmp 28) (Operand.tmp 35) (Operand.const (Value.bool false)), type := 4, pos := "atom.go:63", after := #[{ on := 4, ground := Ground.data }, { on := 11, ground := Ground.data }], guard := none }) (v := ?_) rfl (by kernel_rfl) (by kernel_rfl) (by kernel_rfl) (fun _ _ _ h => h) (Or.inl ⟨by rfl, ?_⟩) (by assumption) ?_
      rotate_left
      · intro W hSw
        try dsimp only at hSw
        go_simp
        try with_reducible rfl
      try simp only [Act.put, List.setIfInBounds_toArray, List.set_cons_zero, List.set_cons_succ]
      refine wpAnyH_take (i := 13) (oi := { dst := some 37, op := Op.move (Operand.tmp 36), type := 4, pos := "atom.go:63", after := #[{ on := 12, ground := Ground.data }, { on := 10, ground := Ground.chain }], guard := none }) (v := ?_) rfl (by kernel_rfl) (by kernel_rfl) (by kernel_rfl) (fun _ _ _ h => h) (Or.inl ⟨by rfl, ?_⟩) (by assumption) ?_
      rotate_left
      · intro W hSw
        try dsimp only at hSw
        go_simp
        try with_reducible rfl
      try simp only [Act.put, List.setIfInBounds_toArray, List.set_cons_zero, List.set_cons_succ]
      refine wpAnyH_take (i := 14) (oi := { dst := some 38, op := Op.load 25 (Operand.tmp 3), type := 25, pos := "atom.go:63", after := #[{ on := 13, ground := Ground.guard }], guard := some (13, true) }) (v := ?_) rfl (by kernel_rfl) (by kernel_rfl) (by kernel_rfl) (fun _ _ _ h => h) (Or.inl ⟨by rfl, ?_⟩) (by assumption) ?_
      rotate_left
      · intro W hSw
        try dsimp only at hSw
        obtain ⟨q0, q1, q2, q3, q4, q5, q6, q7, q8⟩ := T.out _ hSw; obtain ⟨x0, x1, x2, x3⟩ := TV.out _ hSw; obtain ⟨g0, g1, g2, g3, g4, g5, g6, g7⟩ := TL.out _ hSw
        go_simp
        try with_reducible rfl
      try simp only [Act.put, List.setIfInBounds_toArray, List.set_cons_zero, List.set_cons_succ]
      refine wpAnyH_take (i := 15) (oi := { dst := some 39, op := Op.fieldAddr 29 (Operand.tmp 2) 4, type := 0, pos := "atom.go:63", after := #[{ on := 13, ground := Ground.guard }], guard := some (13, true) }) (v := ?_) rfl (by kernel_rfl) (by kernel_rfl) (by kernel_rfl) (fun _ _ _ h => h) (Or.inl ⟨by rfl, ?_⟩) (by assumption) ?_
      rotate_left
      · intro W hSw
        try dsimp only at hSw
        obtain ⟨q0, q1, q2, q3, q4, q5, q6, q7, q8⟩ := T.out _ hSw; obtain ⟨x0, x1, x2, x3⟩ := TV.out _ hSw; obtain ⟨g0, g1, g2, g3, g4, g5, g6, g7⟩ := TL.out _ hSw
        go_simp
        try with_reducible rfl
      try simp only [Act.put, List.setIfInBounds_toArray, List.set_cons_zero, List.set_cons_succ]
      refine wpAnyH_take (i := 16) (oi := { dst := some 40, op := Op.load 26 (Operand.tmp 39), type := 26, pos := "atom.go:63", after := #[{ on := 15, ground := Ground.data }, { on := 13, ground := Ground.guard }], guard := some (13, true) }) (v := ?_) rfl (by kernel_rfl) (by kernel_rfl) (by kernel_rfl) (fun _ _ _ h => h) (Or.inl ⟨by rfl, ?_⟩) (by assumption) ?_
      rotate_left
      · intro W hSw
        try dsimp only at hSw
        obtain ⟨q0, q1, q2, q3, q4, q5, q6, q7, q8⟩ := T.out _ hSw; obtain ⟨x0, x1, x2, x3⟩ := TV.out _ hSw; obtain ⟨g0, g1, g2, g3, g4, g5, g6, g7⟩ := TL.out _ hSw
        go_simp
        try with_reducible rfl
      try simp only [Act.put, List.setIfInBounds_toArray, List.set_cons_zero, List.set_cons_succ]
      refine wpAnyH_take (i := 17) (oi := { dst := some 41, op := Op.indexAddr 26 (Operand.tmp 40) (Operand.const (Value.int IntKind.i64 1)), type := 0, pos := "atom.go:63", after := #[{ on := 16, ground := Ground.data }, { on := 13, ground := Ground.guard }], guard := some (13, true) }) (v := ?_) rfl (by kernel_rfl) (by kernel_rfl) (by kernel_rfl) (fun _ _ _ h => h) (Or.inl ⟨by rfl, ?_⟩) (by assumption) ?_
      rotate_left
      · intro W hSw
        try dsimp only at hSw
        obtain ⟨q0, q1, q2, q3, q4, q5, q6, q7, q8⟩ := T.out _ hSw; obtain ⟨x0, x1, x2, x3⟩ := TV.out _ hSw; obtain ⟨g0, g1, g2, g3, g4, g5, g6, g7⟩ := TL.out _ hSw
        go_simp
        try with_reducible rfl
      try simp only [Act.put, List.setIfInBounds_toArray, List.set_cons_zero, List.set_cons_succ]
      refine wpAnyH_take (i := 18) (oi := { dst := some 42, op := Op.load 25 (Operand.tmp 41), type := 25, pos := "atom.go:63", after := #[{ on := 17, ground := Ground.data }, { on := 13, ground := Ground.guard }], guard := some (13, true) }) (v := ?_) rfl (by kernel_rfl) (by kernel_rfl) (by kernel_rfl) (fun _ _ _ h => h) (Or.inl ⟨by rfl, ?_⟩) (by assumption) ?_
      rotate_left
      · intro W hSw
        try dsimp only at hSw
        obtain ⟨q0, q1, q2, q3, q4, q5, q6, q7, q8⟩ := T.out _ hSw; obtain ⟨x0, x1, x2, x3⟩ := TV.out _ hSw; obtain ⟨g0, g1, g2, g3, g4, g5, g6, g7⟩ := TL.out _ hSw
        go_simp
        try with_reducible rfl
      try simp only [Act.put, List.setIfInBounds_toArray, List.set_cons_zero, List.set_cons_succ]
      refine wpAnyH_ready (rs := [19]) (by kernel_rfl) (by simp) ?_
      refine AllReadyH.cons (o := { dst := some 43, op := Op.call { callee := Callee.value (Operand.func 75), args := #[Operand.tmp 38, Operand.tmp 42], argTypes := #[25, 25] }, type := 3, pos := "atom.go:63", after := #[{ on := 14, ground := Ground.data }, { on := 18, ground := Ground.data }, { on := 13, ground := Ground.chain }, { on := 13, ground := Ground.guard }], guard := some (13, true) }) rfl (fun K hK => ?_) AllReadyH.nil
      rw [if_pos (by rfl)]
      go_simp
      refine (HCy.out _).mono ?_
      rintro e s2 ⟨rfl, h2⟩
      have v2 : Below W.heap.size W s2 := below_up v1 h2
      clear h2
      refine hK.out _ _ (v2) (fun hHeld2 => ?_)
      clear hK K hHeld1
      try simp only [Act.put, List.setIfInBounds_toArray, List.set_cons_zero, List.set_cons_succ]
      refine wpAnyH_take (i := 20) (oi := { dst := some 44, op := Op.binOp BinOp.leq 3 (Operand.tmp 43) (Operand.const (Value.int IntKind.i64 0)) 3, type := 4, pos := "atom.go:63", after := #[{ on := 19, ground := Ground.data }, { on := 13, ground := Ground.guard }], guard := some (13, true) }) (v := ?_) rfl (by kernel_rfl) (by kernel_rfl) (by kernel_rfl) (fun _ _ _ h => h) (Or.inl ⟨by rfl, ?_⟩) (by assumption) ?_
      rotate_left
      · intro W hSw
        try dsimp only at hSw
        go_simp
        try with_reducible rfl
      try simp only [Act.put, List.setIfInBounds_toArray, List.set_cons_zero, List.set_cons_succ]
      refine wpAnyH_take (i := 21) (oi := { dst := some 45, op := Op.pick (Operand.tmp 37) (Operand.tmp 44) (Operand.const (Value.bool false)), type := 4, pos := "atom.go:63", after := #[{ on := 13, ground := Ground.data }, { on := 20, ground := Ground.data }], guard := none }) (v := ?_) rfl (by kernel_rfl) (by kernel_rfl) (by kernel_rfl) (fun _ _ _ h => h) (Or.inl ⟨by rfl, ?_⟩) (by assumption) ?_
      rotate_left
      · intro W hSw
        try dsimp only at hSw
        go_simp
        try with_reducible rfl
      try simp only [Act.put, List.setIfInBounds_toArray, List.set_cons_zero, List.set_cons_succ]
      refine wpAnyH_take (i := 22) (oi := { dst := some 4, op := Op.assign (Operand.tmp 45), type := 4, pos := "atom.go:63", after := #[{ on := 21, ground := Ground.data }, { on := 19, ground := Ground.chain }, { on := 0, ground := Ground.phase }, { on := 1, ground := Ground.phase }, { on := 2, ground := Ground.phase }, { on := 3, ground := Ground.phase }, { on := 4, ground := Ground.phase }, { on := 5, ground := Ground.phase }, { on := 6, ground := Ground.phase }, { on := 7, ground := Ground.phase }, { on := 8, ground := Ground.phase }, { on := 9, ground := Ground.phase }, { on := 10, ground := Ground.phase }, { on := 11, ground := Ground.phase }, { on := 12, ground := Ground.phase }, { on := 13, ground := Ground.phase }, { on := 14, ground := Ground.phase }, { on := 15, ground := Ground.phase }, { on := 16, ground := Ground.phase }, { on := 17, ground := Ground.phase }, { on := 18, ground := Ground.phase }, { on := 19, ground := Ground.phase }, { on := 20, ground := Ground.phase }, { on := 21, ground := Ground.phase }], guard := none }) (v := ?_) rfl (by kernel_rfl) (by kernel_rfl) (by kernel_rfl) (fun _ _ _ h => h) (Or.inl ⟨by rfl, ?_⟩) (by assumption) ?_
      rotate_left
      · intro W hSw
        try dsimp only at hSw
        go_simp
        try with_reducible rfl
      try simp only [Act.put, List.setIfInBounds_toArray, List.set_cons_zero, List.set_cons_succ]
      refine wpAnyH_done (by kernel_rfl) ?_ _
      refine NoPanic.normal ?_
      clear hHeld2
      go_wp2_with fail
      go_ret
      exact ⟨ret_bool (by rw [HR.out]; simp [hcx]), below_up B0.out v2⟩
    · have hcx2 : cx < 0 := by omega
      refine wp_region_noPanic ?_
      refine wp_region_held_drew (S := fun v => Below W.heap.size W v) (by kernel_rfl) (v0) (fun hHeld0 => ?_)
      refine wpAnyH_take (i := 0) (oi := { dst := some 24, op := Op.fieldAddr 29 (Operand.tmp 2) 4, type := 0, pos := "atom.go:63", after := #[], guard := none }) (v := ?_) rfl (by kernel_rfl) (by kernel_rfl) (by kernel_rfl) (fun _ _ _ h => h) (Or.inl ⟨by rfl, ?_⟩) (by assumption) ?_
      rotate_left
      · intro W hSw
        try dsimp only at hSw
        obtain ⟨q0, q1, q2, q3, q4, q5, q6, q7, q8⟩ := T.out _ hSw; obtain ⟨x0, x1, x2, x3⟩ := TV.out _ hSw; obtain ⟨g0, g1, g2, g3, g4, g5, g6, g7⟩ := TL.out _ hSw
        go_simp
        try with_reducible rfl
      try simp only [Act.put, List.setIfInBounds_toArray, List.set_cons_zero, List.set_cons_succ]
      refine wpAnyH_take (i := 1) (oi := { dst := some 25, op := Op.load 26 (Operand.tmp 24), type := 26, pos := "atom.go:63", after := #[{ on := 0, ground := Ground.data }], guard := none }) (v := ?_) rfl (by kernel_rfl) (by kernel_rfl) (by kernel_rfl) (fun _ _ _ h => h) (Or.inl ⟨by rfl, ?_⟩) (by assumption) ?_
      rotate_left
      · intro W hSw
        try dsimp only at hSw
        obtain ⟨q0, q1, q2, q3, q4, q5, q6, q7, q8⟩ := T.out _ hSw; obtain ⟨x0, x1, x2, x3⟩ := TV.out _ hSw; obtain ⟨g0, g1, g2, g3, g4, g5, g6, g7⟩ := TL.out _ hSw
        go_simp
        try with_reducible rfl
      try simp only [Act.put, List.setIfInBounds_toArray, List.set_cons_zero, List.set_cons_succ]
      refine wpAnyH_take (i := 2) (oi := { dst := some 26, op := Op.call { callee := Callee.builtin Builtin.len, args := #[Operand.tmp 25], argTypes := #[26] }, type := 3, pos := "atom.go:63", after := #[{ on := 1, ground := Ground.data }], guard := none }) (v := ?_) rfl (by kernel_rfl) (by kernel_rfl) (by kernel_rfl) (fun _ _ _ h => h) (Or.inl ⟨by rfl, ?_⟩) (by assumption) ?_
      rotate_left
      · intro W hSw
        try dsimp only at hSw
        obtain ⟨q0, q1, q2, q3, q4, q5, q6, q7, q8⟩ := T.out _ hSw; obtain ⟨x0, x1, x2, x3⟩ := TV.out _ hSw; obtain ⟨g0, g1, g2, g3, g4, g5, g6, g7⟩ := TL.out _ hSw
        go_simp
        try with_reducible rfl
      try simp only [Act.put, List.setIfInBounds_toArray, List.set_cons_zero, List.set_cons_succ]
      refine wpAnyH_take (i := 3) (oi := { dst := some 27, op := Op.binOp BinOp.geq 3 (Operand.tmp 26) (Operand.const (Value.int IntKind.i64 2)) 3, type := 4, pos := "atom.go:63", after := #[{ on := 2, ground := Ground.data }], guard := none }) (v := Value.bool true) rfl (by kernel_rfl) (by kernel_rfl) (by kernel_rfl) (fun _ _ _ h => h) (Or.inl ⟨by rfl, ?_⟩) (by assumption) ?_
      · intro W hSw
        try dsimp only at hSw
        go_simp
        try with_reducible rfl
      try simp only [Act.put, List.setIfInBounds_toArray, List.set_cons_zero, List.set_cons_succ]
      refine wpAnyH_take (i := 4) (oi := { dst := some 28, op := Op.move (Operand.tmp 27), type := 4, pos := "atom.go:63", after := #[{ on := 3, ground := Ground.data }], guard := none }) (v := ?_) rfl (by kernel_rfl) (by kernel_rfl) (by kernel_rfl) (fun _ _ _ h => h) (Or.inl ⟨by rfl, ?_⟩) (by assumption) ?_
      rotate_left
      · intro W hSw
        try dsimp only at hSw
        go_simp
        try with_reducible rfl
      try simp only [Act.put, List.setIfInBounds_toArray, List.set_cons_zero, List.set_cons_succ]
      refine wpAnyH_take (i := 5) (oi := { dst := some 29, op := Op.load 25 (Operand.tmp 3), type := 25, pos := "atom.go:63", after := #[{ on := 4, ground := Ground.guard }], guard := some (4, true) }) (v := ?_) rfl (by kernel_rfl) (by kernel_rfl) (by kernel_rfl) (fun _ _ _ h => h) (Or.inl ⟨by rfl, ?_⟩) (by assumption) ?_
      rotate_left
      · intro W hSw
        try dsimp only at hSw
        obtain ⟨q0, q1, q2, q3, q4, q5, q6, q7, q8⟩ := T.out _ hSw; obtain ⟨x0, x1, x2, x3⟩ := TV.out _ hSw; obtain ⟨g0, g1, g2, g3, g4, g5, g6, g7⟩ := TL.out _ hSw
        go_simp
        try with_reducible rfl
      try simp only [Act.put, List.setIfInBounds_toArray, List.set_cons_zero, List.set_cons_succ]
      refine wpAnyH_take (i := 6) (oi := { dst := some 30, op := Op.fieldAddr 29 (Operand.tmp 2) 4, type := 0, pos := "atom.go:63", after := #[{ on := 4, ground := Ground.guard }], guard := some (4, true) }) (v := ?_) rfl (by kernel_rfl) (by kernel_rfl) (by kernel_rfl) (fun _ _ _ h => h) (Or.inl ⟨by rfl, ?_⟩) (by assumption) ?_
      rotate_left
      · intro W hSw
        try dsimp only at hSw
        obtain ⟨q0, q1, q2, q3, q4, q5, q6, q7, q8⟩ := T.out _ hSw; obtain ⟨x0, x1, x2, x3⟩ := TV.out _ hSw; obtain ⟨g0, g1, g2, g3, g4, g5, g6, g7⟩ := TL.out _ hSw
        go_simp
        try with_reducible rfl
      try simp only [Act.put, List.setIfInBounds_toArray, List.set_cons_zero, List.set_cons_succ]
      refine wpAnyH_take (i := 7) (oi := { dst := some 31, op := Op.load 26 (Operand.tmp 30), type := 26, pos := "atom.go:63", after := #[{ on := 6, ground := Ground.data }, { on := 4, ground := Ground.guard }], guard := some (4, true) }) (v := ?_) rfl (by kernel_rfl) (by kernel_rfl) (by kernel_rfl) (fun _ _ _ h => h) (Or.inl ⟨by rfl, ?_⟩) (by assumption) ?_
      rotate_left
      · intro W hSw
        try dsimp only at hSw
        obtain ⟨q0, q1, q2, q3, q4, q5, q6, q7, q8⟩ := T.out _ hSw; obtain ⟨x0, x1, x2, x3⟩ := TV.out _ hSw; obtain ⟨g0, g1, g2, g3, g4, g5, g6, g7⟩ := TL.out _ hSw
        go_simp
        try with_reducible rfl
      try simp only [Act.put, List.setIfInBounds_toArray, List.set_cons_zero, List.set_cons_succ]
      refine wpAnyH_take (i := 8) (oi := { dst := some 32, op := Op.indexAddr 26 (Operand.tmp 31) (Operand.const (Value.int IntKind.i64 0)), type := 0, pos := "atom.go:63", after := #[{ on := 7, ground := Ground.data }, { on := 4, ground := Ground.guard }], guard := some (4, true) }) (v := ?_) rfl (by kernel_rfl) (by kernel_rfl) (by kernel_rfl) (fun _ _ _ h => h) (Or.inl ⟨by rfl, ?_⟩) (by assumption) ?_
      rotate_left
      · intro W hSw
        try dsimp only at hSw
        obtain ⟨q0, q1, q2, q3, q4, q5, q6, q7, q8⟩ := T.out _ hSw; obtain ⟨x0, x1, x2, x3⟩ := TV.out _ hSw; obtain ⟨g0, g1, g2, g3, g4, g5, g6, g7⟩ := TL.out _ hSw
        go_simp
        try with_reducible rfl
      try simp only [Act.put, List.setIfInBounds_toArray, List.set_cons_zero, List.set_cons_succ]
      refine wpAnyH_take (i := 9) (oi := { dst := some 33, op := Op.load 25 (Operand.tmp 32), type := 25, pos := "atom.go:63", after := #[{ on := 8, ground := Ground.data }, { on := 4, ground := Ground.guard }], guard := some (4, true) }) (v := ?_) rfl (by kernel_rfl) (by kernel_rfl) (by kernel_rfl) (fun _ _ _ h => h) (Or.inl ⟨by rfl, ?_⟩) (by assumption) ?_
      rotate_left
      · intro W hSw
        try dsimp only at hSw
        obtain ⟨q0, q1, q2, q3, q4, q5, q6, q7, q8⟩ := T.out _ hSw; obtain ⟨x0, x1, x2, x3⟩ := TV.out _ hSw; obtain ⟨g0, g1, g2, g3, g4, g5, g6, g7⟩ := TL.out _ hSw
        go_simp
        try with_reducible rfl
      try simp only [Act.put, List.setIfInBounds_toArray, List.set_cons_zero, List.set_cons_succ]
      refine wpAnyH_ready (rs := [10]) (by kernel_rfl) (by simp) ?_
      refine AllReadyH.cons (o := { dst := some 34, op := Op.call { callee := Callee.value (Operand.func 75), args := #[Operand.tmp 29, Operand.tmp 33], argTypes := #[25, 25] }, type := 3, pos := "atom.go:63", after := #[{ on := 5, ground := Ground.data }, { on := 9, ground := Ground.data }, { on := 4, ground := Ground.chain }, { on := 4, ground := Ground.guard }], guard := some (4, true) }) rfl (fun K hK => ?_) AllReadyH.nil
      rw [if_pos (by rfl)]
      go_simp
      refine (HCx.out _).mono ?_
      rintro e s1 ⟨rfl, h1⟩
      have v1 : Below W.heap.size W s1 := below_up v0 h1
      clear h1
      refine hK.out _ _ (v1) (fun hHeld1 => ?_)
      clear hK K hHeld0
      try simp only [Act.put, List.setIfInBounds_toArray, List.set_cons_zero, List.set_cons_succ]
      refine wpAnyH_take (i := 11) (oi := { dst := some 35, op := Op.binOp BinOp.geq 3 (Operand.tmp 34) (Operand.const (Value.int IntKind.i64 0)) 3, type := 4, pos := "atom.go:63", after := #[{ on := 10, ground := Ground.data }, { on := 4, ground := Ground.guard }], guard := some (4, true) }) (v := Value.bool false) rfl (by kernel_rfl) (by kernel_rfl) (by kernel_rfl) (fun _ _ _ h => h) (Or.inl ⟨by rfl, ?_⟩) (by assumption) ?_
      · intro W hSw
        try dsimp only at hSw
        go_simp
        try with_reducible rfl
      try simp only [Act.put, List.setIfInBounds_toArray, List.set_cons_zero, List.set_cons_succ]
      refine wpAnyH_take (i := 12) (oi := { dst := some 36, op := Op.pick (Operand.tmp 28) (Operand.tmp 35) (Operand.const (Value.bool false)), type := 4, pos := "atom.go:63", after := #[{ on := 4, ground := Ground.data }, { on := 11, ground := Ground.data }], guard := none }) (v := ?_) rfl (by kernel_rfl) (by kernel_rfl) (by kernel_rfl) (fun _ _ _ h => h) (Or.inl ⟨by rfl, ?_⟩) (by assumption) ?_
      rotate_left
      · intro W hSw
        try dsimp only at hSw
        go_simp
        try with_reducible rfl
      try simp only [Act.put, List.setIfInBounds_toArray, List.set_cons_zero, List.set_cons_succ]
      refine wpAnyH_take (i := 13) (oi := { dst := some 37, op := Op.move (Operand.tmp 36), type := 4, pos := "atom.go:63", after := #[{ on := 12, ground := Ground.data }, { on := 10, ground := Ground.chain }], guard := none }) (v := ?_) rfl (by kernel_rfl) (by kernel_rfl) (by kernel_rfl) (fun _ _ _ h => h) (Or.inl ⟨by rfl, ?_⟩) (by assumption) ?_
      rotate_left
      · intro W hSw
        try dsimp only at hSw
        go_simp
        try with_reducible rfl
      try simp only [Act.put, List.setIfInBounds_toArray, List.set_cons_zero, List.set_cons_succ]
      refine wpAnyH_take (i := 14) (oi := { dst := some 38, op := Op.load 25 (Operand.tmp 3), type := 25, pos := "atom.go:63", after := #[{ on := 13, ground := Ground.guard }], guard := some (13, true) }) (v := undef) rfl (by kernel_rfl) (by kernel_rfl) (by kernel_rfl) (fun _ _ _ h => h) (Or.inr ⟨by rfl, rfl⟩) (by assumption) ?_
      try simp only [Act.put, List.setIfInBounds_toArray, List.set_cons_zero, List.set_cons_succ]
      refine wpAnyH_take (i := 15) (oi := { dst := some 39, op := Op.fieldAddr 29 (Operand.tmp 2) 4, type := 0, pos := "atom.go:63", after := #[{ on := 13, ground := Ground.guard }], guard := some (13, true) }) (v := undef) rfl (by kernel_rfl) (by kernel_rfl) (by kernel_rfl) (fun _ _ _ h => h) (Or.inr ⟨by rfl, rfl⟩) (by assumption) ?_
      try simp only [Act.put, List.setIfInBounds_toArray, List.set_cons_zero, List.set_cons_succ]
      refine wpAnyH_take (i := 16) (oi := { dst := some 40, op := Op.load 26 (Operand.tmp 39), type := 26, pos := "atom.go:63", after := #[{ on := 15, ground := Ground.data }, { on := 13, ground := Ground.guard }], guard := some (13, true) }) (v := undef) rfl (by kernel_rfl) (by kernel_rfl) (by kernel_rfl) (fun _ _ _ h => h) (Or.inr ⟨by rfl, rfl⟩) (by assumption) ?_
      try simp only [Act.put, List.setIfInBounds_toArray, List.set_cons_zero, List.set_cons_succ]
      refine wpAnyH_take (i := 17) (oi := { dst := some 41, op := Op.indexAddr 26 (Operand.tmp 40) (Operand.const (Value.int IntKind.i64 1)), type := 0, pos := "atom.go:63", after := #[{ on := 16, ground := Ground.data }, { on := 13, ground := Ground.guard }], guard := some (13, true) }) (v := undef) rfl (by kernel_rfl) (by kernel_rfl) (by kernel_rfl) (fun _ _ _ h => h) (Or.inr ⟨by rfl, rfl⟩) (by assumption) ?_
      try simp only [Act.put, List.setIfInBounds_toArray, List.set_cons_zero, List.set_cons_succ]
      refine wpAnyH_take (i := 18) (oi := { dst := some 42, op := Op.load 25 (Operand.tmp 41), type := 25, pos := "atom.go:63", after := #[{ on := 17, ground := Ground.data }, { on := 13, ground := Ground.guard }], guard := some (13, true) }) (v := undef) rfl (by kernel_rfl) (by kernel_rfl) (by kernel_rfl) (fun _ _ _ h => h) (Or.inr ⟨by rfl, rfl⟩) (by assumption) ?_
      try simp only [Act.put, List.setIfInBounds_toArray, List.set_cons_zero, List.set_cons_succ]
      refine wpAnyH_take (i := 19) (oi := { dst := some 43, op := Op.call { callee := Callee.value (Operand.func 75), args := #[Operand.tmp 38, Operand.tmp 42], argTypes := #[25, 25] }, type := 3, pos := "atom.go:63", after := #[{ on := 14, ground := Ground.data }, { on := 18, ground := Ground.data }, { on := 13, ground := Ground.chain }, { on := 13, ground := Ground.guard }], guard := some (13, true) }) (v := undef) rfl (by kernel_rfl) (by kernel_rfl) (by kernel_rfl) (fun _ _ _ h => h) (Or.inr ⟨by rfl, rfl⟩) (by assumption) ?_
      try simp only [Act.put, List.setIfInBounds_toArray, List.set_cons_zero, List.set_cons_succ]
      refine wpAnyH_take (i := 20) (oi := { dst := some 44, op := Op.binOp BinOp.leq 3 (Operand.tmp 43) (Operand.const (Value.int IntKind.i64 0)) 3, type := 4, pos := "atom.go:63", after := #[{ on := 19, ground := Ground.data }, { on := 13, ground := Ground.guard }], guard := some (13, true) }) (v := undef) rfl (by kernel_rfl) (by kernel_rfl) (by kernel_rfl) (fun _ _ _ h => h) (Or.inr ⟨by rfl, rfl⟩) (by assumption) ?_
      try simp only [Act.put, List.setIfInBounds_toArray, List.set_cons_zero, List.set_cons_succ]
      refine wpAnyH_take (i := 21) (oi := { dst := some 45, op := Op.pick (Operand.tmp 37) (Operand.tmp 44) (Operand.const (Value.bool false)), type := 4, pos := "atom.go:63", after := #[{ on := 13, ground := Ground.data }, { on := 20, ground := Ground.data }], guard := none }) (v := ?_) rfl (by kernel_rfl) (by kernel_rfl) (by kernel_rfl) (fun _ _ _ h => h) (Or.inl ⟨by rfl, ?_⟩) (by assumption) ?_
      rotate_left
      · intro W hSw
        try dsimp only at hSw
        go_simp
        try with_reducible rfl
      try simp only [Act.put, List.setIfInBounds_toArray, List.set_cons_zero, List.set_cons_succ]
      refine wpAnyH_take (i := 22) (oi := { dst := some 4, op := Op.assign (Operand.tmp 45), type := 4, pos := "atom.go:63", after := #[{ on := 21, ground := Ground.data }, { on := 19, ground := Ground.chain }, { on := 0, ground := Ground.phase }, { on := 1, ground := Ground.phase }, { on := 2, ground := Ground.phase }, { on := 3, ground := Ground.phase }, { on := 4, ground := Ground.phase }, { on := 5, ground := Ground.phase }, { on := 6, ground := Ground.phase }, { on := 7, ground := Ground.phase }, { on := 8, ground := Ground.phase }, { on := 9, ground := Ground.phase }, { on := 10, ground := Ground.phase }, { on := 11, ground := Ground.phase }, { on := 12, ground := Ground.phase }, { on := 13, ground := Ground.phase }, { on := 14, ground := Ground.phase }, { on := 15, ground := Ground.phase }, { on := 16, ground := Ground.phase }, { on := 17, ground := Ground.phase }, { on := 18, ground := Ground.phase }, { on := 19, ground := Ground.phase }, { on := 20, ground := Ground.phase }, { on := 21, ground := Ground.phase }], guard := none }) (v := ?_) rfl (by kernel_rfl) (by kernel_rfl) (by kernel_rfl) (fun _ _ _ h => h) (Or.inl ⟨by rfl, ?_⟩) (by assumption) ?_
      rotate_left
      · intro W hSw
        try dsimp only at hSw
        go_simp
        try with_reducible rfl
      try simp only [Act.put, List.setIfInBounds_toArray, List.set_cons_zero, List.set_cons_succ]
      refine wpAnyH_done (by kernel_rfl) ?_ _
      refine NoPanic.normal ?_
      clear hHeld1
      go_wp2_with fail
      go_ret
      exact ⟨ret_bool (by rw [HR.out]; simp; intro h; omega), below_up B0.out v1⟩
end Go.Proofs.YthgnibphhiaecaaGreat

/-
  holds, Test. (Written by mkhold.py.)
-/
namespace Go.Proofs.YthgnibphhiaecaaGreat
open Go.ChangeShapes Go.WideShapes Go.ChangeAt Go.RowKit Cu Vl
attribute [local go_sem] run_store_float

set_option maxRecDepth 8000 in
set_option maxHeartbeats 8000000 in
theorem hold_4 (p : Pr) (a : Option Addr) (d : Nat) (b : Option Addr) (e : Nat) (v : V) (w : World) (hp : POk w p a) (hv : VOk v) (hk : p.K = 4) :
    Calls Tryz.prog 64 #[pv p a d b e, vv v] w fun r w' => r = .returned (.bool (hldB p v)) ∧ Below w.heap.size w w' := by
  have b1 := below_new w (.cells (pa p a d b e) 29)
  have b2 := below_new (w.alloc (.cells (pa p a d b e) 29)) (.cells (va v) 25)
  have HX := hid ((Bx.new w (pa p a d b e) 29).later b2)
  have HY : Hid (Bx ((w.alloc (.cells (pa p a d b e) 29)).alloc (.cells (va v) 25)) (w.heap.size + 1) (va v) 25) := by
    have := Bx.new (w.alloc (.cells (pa p a d b e) 29)) (va v) 25
    rwa [show (w.alloc (.cells (pa p a d b e) 29)).heap.size = w.heap.size + 1 by simp] at this
  have B0 := hid (below_up b1 b2)
  obtain ⟨W, hW⟩ : ∃ W, (w.alloc (.cells (pa p a d b e) 29)).alloc (.cells (va v) 25) = W := ⟨_, rfl⟩
  have HW := hid hW
  rw [hW] at HX HY B0
  have T := hid fun (W2 : World) (h : Below W.heap.size W W2) => (HX.out.later h).prd
  have TV := hid fun (W2 : World) (h : Below W.heap.size W W2) => (HY.out.later h).val
  have HL := hid (hp.L.later B0.out)
  have HR : Hid (hldB p v = if p.K = 1 then stdB p.op (cmpA v p.v)
    else if p.K = 2 then p.l.any fun x => decide (cmpA v x = 0)
    else if p.K = 3 then (match p.l with | x :: y :: _ => decide (0 ≤ cmpA v x) && decide (cmpA v y ≤ 0) | _ => false)
    else if p.K = 4 then decide (v.K = 0)
    else if p.K = 5 then decide (v.K = 2) && decide (p.v.K = 2) && prfB v.s p.v.s
    else false) := rfl
  generalize hldB p v = R at *
  have hpn := hp.n
  have hpm := hp.m
  clear b1 b2 hW HX HY hp
  obtain ⟨K, c, op, u, l, m⟩ := p
  obtain ⟨uK, uI, ub, us⟩ := u
  dsimp only at *
  subst hk
  rw [if_neg (by decide), if_neg (by decide), if_neg (by decide), if_pos rfl] at HR
  obtain ⟨vK, vI, vb, vs⟩ := v
  try unfold pv at *
  unfold vv at *
  try unfold pa at *
  unfold va at *
  dsimp only at *
  obtain ⟨q0, q1, q2, q3, q4, q5, q6, q7, q8⟩ := T.out W (Below.refl _ _)
  obtain ⟨x0, x1, x2, x3⟩ := TV.out W (Below.refl _ _)
  go_enter Tryz.func64, Tryz.ntmps64
  go_wp2_with fail
  go_ret
  exact ⟨ret_bool (by rw [HR.out]; rw [Bool.eq_iff_iff]; simp), by rw [HW.out]; exact B0.out⟩
end Go.Proofs.YthgnibphhiaecaaGreat

/-
  holds, Test. (Written by mkhold.py.)
-/
namespace Go.Proofs.YthgnibphhiaecaaGreat
open Go.ChangeShapes Go.WideShapes Go.ChangeAt Go.RowKit Cu Vl
attribute [local go_sem] run_store_float

set_option maxRecDepth 8000 in
set_option maxHeartbeats 8000000 in
theorem hold_5 (p : Pr) (a : Option Addr) (d : Nat) (b : Option Addr) (e : Nat) (v : V) (w : World) (hp : POk w p a) (hv : VOk v) (hk : p.K = 5) :
    Calls Tryz.prog 64 #[pv p a d b e, vv v] w fun r w' => r = .returned (.bool (hldB p v)) ∧ Below w.heap.size w w' := by
  have b1 := below_new w (.cells (pa p a d b e) 29)
  have b2 := below_new (w.alloc (.cells (pa p a d b e) 29)) (.cells (va v) 25)
  have HX := hid ((Bx.new w (pa p a d b e) 29).later b2)
  have HY : Hid (Bx ((w.alloc (.cells (pa p a d b e) 29)).alloc (.cells (va v) 25)) (w.heap.size + 1) (va v) 25) := by
    have := Bx.new (w.alloc (.cells (pa p a d b e) 29)) (va v) 25
    rwa [show (w.alloc (.cells (pa p a d b e) 29)).heap.size = w.heap.size + 1 by simp] at this
  have B0 := hid (below_up b1 b2)
  obtain ⟨W, hW⟩ : ∃ W, (w.alloc (.cells (pa p a d b e) 29)).alloc (.cells (va v) 25) = W := ⟨_, rfl⟩
  have HW := hid hW
  rw [hW] at HX HY B0
  have T := hid fun (W2 : World) (h : Below W.heap.size W W2) => (HX.out.later h).prd
  have TV := hid fun (W2 : World) (h : Below W.heap.size W W2) => (HY.out.later h).val
  have HL := hid (hp.L.later B0.out)
  have HR : Hid (hldB p v = if p.K = 1 then stdB p.op (cmpA v p.v)
    else if p.K = 2 then p.l.any fun x => decide (cmpA v x = 0)
    else if p.K = 3 then (match p.l with | x :: y :: _ => decide (0 ≤ cmpA v x) && decide (cmpA v y ≤ 0) | _ => false)
    else if p.K = 4 then decide (v.K = 0)
    else if p.K = 5 then decide (v.K = 2) && decide (p.v.K = 2) && prfB v.s p.v.s
    else false) := rfl
  generalize hldB p v = R at *
  have HP := hid fun w => pre_any v.s p.v.s w hv.s hp.v.s
  have hpn := hp.n
  have hpm := hp.m
  clear b1 b2 hW HX HY hp
  obtain ⟨K, c, op, u, l, m⟩ := p
  obtain ⟨uK, uI, ub, us⟩ := u
  dsimp only at *
  subst hk
  rw [if_neg (by decide), if_neg (by decide), if_neg (by decide), if_neg (by decide), if_pos rfl] at HR
  generalize prfB _ _ = q at *
  obtain ⟨vK, vI, vb, vs⟩ := v
  try unfold pv at *
  unfold vv at *
  try unfold pa at *
  unfold va at *
  dsimp only at *
  by_cases h1 : vK = 2
  · subst h1
    by_cases h2 : uK = 2
    · subst h2
      obtain ⟨q0, q1, q2, q3, q4, q5, q6, q7, q8⟩ := T.out W (Below.refl _ _)
      obtain ⟨x0, x1, x2, x3⟩ := TV.out W (Below.refl _ _)
      go_enter Tryz.func64, Tryz.ntmps64
      go_wp2_with fail
      rw [HW.out]
      refine (HP.out _).mono ?_
      rintro e w1 ⟨rfl, rfl⟩
      go_wp2_with fail
      go_ret
      exact ⟨ret_bool (by rw [HR.out]; simp), B0.out⟩
    · have h2' : (uK == 2) = false := by simpa using h2
      obtain ⟨q0, q1, q2, q3, q4, q5, q6, q7, q8⟩ := T.out W (Below.refl _ _)
      obtain ⟨x0, x1, x2, x3⟩ := TV.out W (Below.refl _ _)
      go_enter Tryz.func64, Tryz.ntmps64
      go_wp2_with fail
      go_ret
      exact ⟨ret_bool (by rw [HR.out]; simp [h2]), by rw [HW.out]; exact B0.out⟩
  · have h1' : (vK == 2) = false := by simpa using h1
    obtain ⟨q0, q1, q2, q3, q4, q5, q6, q7, q8⟩ := T.out W (Below.refl _ _)
    obtain ⟨x0, x1, x2, x3⟩ := TV.out W (Below.refl _ _)
    go_enter Tryz.func64, Tryz.ntmps64
    go_wp2_with fail
    go_ret
    exact ⟨ret_bool (by rw [HR.out]; simp [h1]), by rw [HW.out]; exact B0.out⟩
end Go.Proofs.YthgnibphhiaecaaGreat
