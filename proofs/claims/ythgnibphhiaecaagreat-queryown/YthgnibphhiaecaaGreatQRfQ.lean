import Derived.Test.YthgnibphhiaecaaGreatQAskAll
import Derived.Test.YthgnibphhiaecaaGreatQDeep
/-
  colonnaderef00.Query of any query.
-/
namespace Go.Proofs.YthgnibphhiaecaaGreat
open Go.ChangeShapes Go.WideShapes Go.ChangeAt Go.RowKit Cu Vl
attribute [local go_sem] run_store_float

set_option maxRecDepth 8000 in
set_option maxHeartbeats 4000000 in
theorem refQuery_any (q : Qy) (x : Qa) (w : World) (hq : QyC w q x) :
    Calls Tryz.prog 5 #[qv q x] w fun r w' => ∃ b, r = .returned (.bool b) ∧ Below w.heap.size w w' := by
  have HP := hid fun (W : World) (h : Below w.heap.size w W) => deepT_any q.wh W (hq.wh.later h)
  have B1 := hid (below_new w (.cells (qa q x) 34))
  have X := hid (Bx.new w (qa q x) 34)
  obtain ⟨w1, hw1⟩ : ∃ w1, w.alloc (.cells (qa q x) 34) = w1 := ⟨_, rfl⟩
  rw [hw1] at X B1
  have TX : Hid (Bx w1 w.heap.size (qa q x) 34) := X.out
  clear hq X
  unfold qa at TX
  obtain ⟨its, ⟨⟨K, c, op, ⟨vK, vI, vb, vs⟩, l⟩, la, lc, kb, kc, kk⟩, grp, ord, lim⟩ := q
  obtain ⟨ai, ci, ag, cg, ao, co⟩ := x
  simp only [qv, qa, T.h, T.la, T.lc, T.kb, T.kc, T.ks, tv, T.pr, pv, pa, prH] at *
  obtain ⟨x0, x1, x2, x3, x4, x5, x6, x7, x8, x9, x10, x11, x12⟩ := TX.out.qry
  go_enter Tryz.func5, Tryz.ntmps5
  go_wp2_with fail
  refine (HP.out _ B1.out).mono ?_
  rintro e w2 ⟨b, rfl, hb⟩
  have B2 := hid (below_up B1.out hb)
  clear hb hw1 x0 x1 x2 x3 x4 x5 x6 x7 x8 x9 x10 x11 x12 TX
  go_wp2_with fail
  go_ret
  exact ⟨b, rfl, B2.out⟩
end Go.Proofs.YthgnibphhiaecaaGreat
