/-
  Bounds. (Written by mkbnd.py.)
-/
import Derived.Test.YtogmjhheleagfaaARefS
import Derived.Deep.RegionHeld3
namespace Go.Proofs.Ytogmjhheleagfaa
open Go.ChangeShapes Go.WideShapes Go.ChangeAt Go.RowKit Cu Vl
attribute [local go_sem] run_store_float

set_option maxRecDepth 8000 in
set_option maxHeartbeats 8000000 in
theorem says_1 (p : Pr) (a : Option Addr) (d : Nat) (b : Option Addr) (e : Nat) (v : V) (w : World) (hp : POk w p a) (hv : VOk v) (hk : p.K = 1) :
    Calls Try.prog 34 #[pv p a d b e, vv v] w fun r w' => r = .returned (.bool (if p.K = 4 then false else hldB p v)) ∧ Below w.heap.size w w' := by
  have b1 := below_new w (.cells (pa p a d b e) 32)
  have b2 := below_new (w.alloc (.cells (pa p a d b e) 32)) (.cells (va v) 28)
  have HX := hid ((Bx.new w (pa p a d b e) 32).later b2)
  have HY : Hid (Bx ((w.alloc (.cells (pa p a d b e) 32)).alloc (.cells (va v) 28)) (w.heap.size + 1) (va v) 28) := by
    have := Bx.new (w.alloc (.cells (pa p a d b e) 32)) (va v) 28
    rwa [show (w.alloc (.cells (pa p a d b e) 32)).heap.size = w.heap.size + 1 by simp] at this
  have B0 := hid (below_up b1 b2)
  obtain ⟨W, hW⟩ : ∃ W, (w.alloc (.cells (pa p a d b e) 32)).alloc (.cells (va v) 28) = W := ⟨_, rfl⟩
  have HW := hid hW
  rw [hW] at HX HY B0
  have T := hid fun (W2 : World) (h : Below W.heap.size W W2) => (HX.out.later h).prd
  have TV := hid fun (W2 : World) (h : Below W.heap.size W W2) => (HY.out.later h).val
  have HL := hid (hp.L.later B0.out)
  have HR : Hid (hldB p v = if p.K = 1 then stdB p.op (cmpA v p.v)
    else if p.K = 2 then p.l.any fun x => decide (cmpA v x = 0)
    else if p.K = 3 then (match p.l with | x :: y :: _ => decide (0 ≤ cmpA v x) && decide (cmpA v y ≤ 0) | _ => false)
    else if p.K = 4 then decide (v.K = 0)
    else if p.K = 5 then decide (v.K = 2) && decide (p.v.K = 2) && prfB v.s p.v.s
    else false) := rfl
  have HQ : Hid (∀ R, R = hldB p v → (if p.K = 4 then false else hldB p v) = if p.K = 4 then false else R) := fun R h => by rw [h]
  have HHH : Hid (hldB p v = hldB p v) := rfl
  obtain ⟨R0, hR0⟩ : ∃ R0, (if p.K = 4 then false else hldB p v) = R0 := ⟨_, rfl⟩
  rw [hR0]
  have HR0 := hid hR0
  have HC := hid fun w => stands18 v p.op p.v w hv hp.v
  have hpn := hp.n
  have hpm := hp.m
  have hvs := hv.s
  have hus := hp.v.s
  clear b1 b2 hW HX HY hp HQ HHH hR0
  obtain ⟨K, c, op, u, l, m⟩ := p
  obtain ⟨uK, uI, ub, us⟩ := u
  dsimp only at *
  subst hk
  have HZ : Hid (R0 = _) := (by have h0 := HR0.out; rw [if_neg (by decide), HR.out] at h0; exact h0.symm)
  clear HR HR0
  rw [if_pos rfl] at HZ
  generalize cmpA v _ = cm at *
  generalize stdB op cm = sb at *
  obtain ⟨vK, vI, vb, vs⟩ := v
  try unfold pv at *
  unfold vv at *
  try unfold pa at *
  unfold va at *
  dsimp only at *
  obtain ⟨q0, q1, q2, q3, q4, q5, q6, q7, q8⟩ := T.out W (Below.refl _ _)
  obtain ⟨x0, x1, x2, x3⟩ := TV.out W (Below.refl _ _)
  go_enter Try.func34, Try.ntmps34
  go_wp2_with fail
  rw [HW.out]
  refine (HC.out _).mono ?_
  rintro e w1 ⟨rfl, hb⟩
  have B := hid (below_up B0.out hb)
  clear hb
  go_wp2_with fail
  go_ret
  exact ⟨ret_bool HZ.out.symm, B.out⟩
end Go.Proofs.Ytogmjhheleagfaa
