/-
  Bounds. (Written by mkbnd.py.)
-/
import Derived.Test.YthlfdmigmgpgfaaAChk
import Derived.Test.YthlfdmigmgpgfaaACb
namespace Go.Proofs.Ythlfdmigmgpgfaa
open Go.ChangeShapes Go.WideShapes Go.ChangeAt Go.RowKit Cu Vl
attribute [local go_sem] run_store_float

theorem cst_one (w : World) (c : Col) : Lst cc 3 (w.alloc (.cells #[.string c.nm, .int .i64 c.T, .bool c.nb] 40)) (some ⟨w.heap.size, 0, none⟩) [c] := fun j x hj => by
  have hj0 : j = 0 := by have := (List.getElem?_eq_some_iff.1 hj).1; simp at this; exact this
  subst hj0
  simp at hj
  subst hj
  refine ⟨_, _, rfl, by simp, fun i u hu => ?_⟩
  have hn := heap_alloc_new w (.cells #[.string c.nm, .int .i64 c.T, .bool c.nb] 40)
  refine cell_of hn ?_
  rw [← Array.getElem?_toList]
  simpa [cc] using hu
set_option maxRecDepth 8000 in
set_option maxHeartbeats 8000000 in
theorem some_one (p : Pr) (a : Option Addr) (d : Nat) (b : Option Addr) (e : Nat) (k : Int) (gB : Nat) (w : World) (hx : Bx w gB (pa p a d b e) 29) (hp : POk w p a) :
    Calls Try.prog 54 #[.int .i64 k, .pointer (some ⟨gB, 0, none⟩)] w fun r w' => r = .returned (.bool (decide (chkP [colT p.c k] p = 0))) ∧ Below w.heap.size w w' := by
  have b1 := below_new w (.cells #[.string p.c, .int .i64 k, .bool false] 40)
  have HC := hid (check_any (some ⟨w.heap.size, 0, none⟩) [colT p.c k] 1 p a d b e _ (cst_one w (colT p.c k)) (by simp) (hp.later (below_new w _)))
  obtain ⟨q0, q1, q2, q3, q4, q5, q6, q7, q8⟩ := hx.prd
  obtain ⟨r0, r1, r2, r3, r4, r5, r6, r7, r8⟩ := (hx.later b1).prd
  have B := hid b1
  generalize chkP _ p = R at *
  obtain ⟨K, c, op, u, l, m⟩ := p
  obtain ⟨uK, uI, ub, us⟩ := u
  unfold pv pa colT at *
  dsimp only [List.length_cons, List.length_nil] at *
  clear hx hp b1
  go_enter Try.func54, Try.ntmps54
  go_wp2_with fail
  refine HC.out.mono ?_
  rintro e1 w1 ⟨rfl, hb⟩
  replace B := hid (below_up B.out hb)
  clear hb
  go_wp2_with fail
  go_ret
  exact ⟨ret_bool (by rw [Bool.eq_iff_iff]; simp), B.out⟩
set_option maxRecDepth 8000 in
set_option maxHeartbeats 8000000 in
theorem some_any (p : Pr) (a : Option Addr) (d : Nat) (b : Option Addr) (e : Nat) (w : World) (hp : POk w p a) :
    Calls Try.prog 40 #[pv p a d b e] w fun r w' => r = .returned (.bool (somB p)) ∧ Below w.heap.size w w' := by
  have b1 := below_new w (.cells (pa p a d b e) 29)
  have HX := hid (Bx.new w (pa p a d b e) 29)
  obtain ⟨W, hW⟩ : ∃ W, w.alloc (.cells (pa p a d b e) 29) = W := ⟨_, rfl⟩
  rw [hW] at b1 HX
  have HC := hid fun (k : Int) (W2 : World) (h : Below W.heap.size W W2) => some_one p a d b e k w.heap.size W2 (HX.out.later h) ((hp.later b1).later h)
  have HW := hid hW
  have B0 := hid b1
  have HR : Hid (somB p = (decide (chkP [colT p.c 1] p = 0) || decide (chkP [colT p.c 2] p = 0))) := rfl
  have HC1 := hid (HC.out 1)
  have HC2 := hid (HC.out 2)
  generalize somB p = R at *
  generalize decide (chkP [colT p.c 1] p = 0) = c1 at *
  generalize decide (chkP [colT p.c 2] p = 0) = c2 at *
  clear b1 hW HX HC hp
  obtain ⟨K, c, op, u, l, m⟩ := p
  obtain ⟨uK, uI, ub, us⟩ := u
  unfold pv pa at *
  dsimp only at *
  go_enter Try.func40, Try.ntmps40
  go_wp2_with fail
  rw [HW.out]
  refine (HC1.out _ (Below.refl _ _)).mono ?_
  rintro e1 w1 ⟨rfl, hb⟩
  have B := hid hb
  clear hb
  cases c1
  · go_wp2_with fail
    refine (HC2.out _ B.out).mono ?_
    rintro e1 w2 ⟨rfl, hb⟩
    replace B := hid (below_up B.out hb)
    clear hb
    go_wp2_with fail
    go_ret
    exact ⟨ret_bool (by rw [HR.out]; simp), below_up B0.out B.out⟩
  · go_wp2_with fail
    go_ret
    exact ⟨ret_bool (by rw [HR.out]; simp), below_up B0.out B.out⟩
end Go.Proofs.Ythlfdmigmgpgfaa
