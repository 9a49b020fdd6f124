/-
  restIsZero, valuesOf, allOfType. (Written by mkcheck.py.)
-/
import Derived.Test.YthgnibphhiaecaaGreatALeaf
namespace Go.Proofs.YthgnibphhiaecaaGreat
open Go.ChangeShapes Go.WideShapes Go.ChangeAt Go.RowKit Cu Vl
attribute [local go_sem] run_store_float

theorem beq0 (m : Nat) : ((m : Int) == 0) = decide (m = 0) := by rw [Bool.eq_iff_iff]; simp

set_option maxRecDepth 4000 in
set_option maxHeartbeats 4000000 in
theorem rest_any (p : Pr) (a : Option Addr) (d : Nat) (b : Option Addr) (e : Nat) (w : World) (hv : VOk p.v) (hn : p.l.length ≤ 140737488355328) (hm : p.m ≤ 140737488355328) :
    Calls Tryz.prog 79 #[pv p a d b e] w fun r w' => r = .returned (.bool (rstB p)) ∧ Below w.heap.size w w' := by
  have HN := hid fun w => none_any p.v w hv
  have HC := hid fun w => counts_any p.K w
  have HR : Hid (rstB p = ((cntO p.K || decide (p.op = 0)) && (cntS p.K || nulB p.v) && (cntL p.K || decide (p.l.length = 0)) && decide (p.m = 0))) := rfl
  have HX := hid (Bx.new w (pa p a d b e) 29)
  have B := hid (below_new w (.cells (pa p a d b e) 29))
  generalize rstB p = R at *
  generalize nulB p.v = n at *
  obtain ⟨K, c, op, v, l, m⟩ := p
  generalize hlen : l.length = ln at *
  dsimp only at *
  generalize cntO K = co at *
  generalize cntS K = cs at *
  generalize cntL K = cl at *
  obtain ⟨W, hW⟩ : ∃ W, w.alloc (.cells (pa ⟨K, c, op, v, l, m⟩ a d b e) 29) = W := ⟨_, rfl⟩
  rw [hW] at HX B
  have HW := hid hW
  have T := hid fun (W2 : World) (h : Below W.heap.size W W2) => (HX.out.later h).prd
  obtain ⟨q0, q1, q2, q3, q4, q5, q6, q7, q8⟩ := HX.out.prd
  unfold pv
  unfold pa at *
  rw [hlen] at *
  obtain ⟨vK, vI, vb, vs⟩ := v
  unfold vv at *
  dsimp only at *
  clear hW hlen hv HX
  have h0 : op = 0 ∨ (op == 0) = false := by by_cases h : op = 0; exact .inl h; exact .inr (by simpa using h)
  clear hn hm
  go_enter Tryz.func79, Tryz.ntmps79
  go_wp2_with fail
  rw [HW.out]
  refine (HC.out _).mono ?_
  rintro e1 w1 ⟨rfl, rfl⟩
  clear HC HW
  rcases h0 with rfl | h0 <;> cases co <;> cases cs <;> cases cl
  all_goals go_wp2_with fail
  all_goals first
    | (go_ret; exact ⟨ret_bool (by rw [HR.out]; simp_all [beq0]), B.out⟩)
    | (refine (HN.out _).mono ?_
       rintro e2 w2 ⟨rfl, hb⟩
       replace B := hid (below_up B.out hb)
       clear q0 q1 q2 q3 q4 q5 q6 q7 q8
       obtain ⟨q0, q1, q2, q3, q4, q5, q6, q7, q8⟩ := T.out _ hb
       clear hb
       cases n
       all_goals go_wp2_with fail
       all_goals go_ret
       all_goals exact ⟨ret_bool (by rw [HR.out]; simp_all [beq0]), B.out⟩)
end Go.Proofs.YthgnibphhiaecaaGreat
