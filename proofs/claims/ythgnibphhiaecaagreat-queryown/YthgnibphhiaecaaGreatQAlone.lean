/-
  kidsAlone.
-/
import Derived.Test.YthgnibphhiaecaaGreatQMem
import Derived.Test.YthgnibphhiaecaaGreatANot
namespace Go.Proofs.YthgnibphhiaecaaGreat
open Go.ChangeShapes Go.WideShapes Go.ChangeAt Go.RowKit Cu Vl
attribute [local go_sem] run_store_float

def aloneP (p : Pr) : Bool := decide (p.c = ⟨#[]⟩) && decide (p.op = 0) && nulB p.v && decide (p.l.length = 0)
theorem empty_eq (s : ByteArray) : s.toList.isEmpty = decide (s = ⟨#[]⟩) := by
  rw [Bool.eq_iff_iff, decide_eq_true_eq]
  constructor
  · exact ba_nil
  · rintro rfl; simp [Go.ByteArray.toList_eq]
set_option maxRecDepth 4000 in
set_option maxHeartbeats 4000000 in
theorem alone_any (p : Pr) (a : Option Addr) (d : Nat) (b : Option Addr) (e : Nat) (w : World) (hv : VOk p.v) (hn : p.l.length ≤ 140737488355328) (hm : p.m ≤ 140737488355328) :
    Calls Tryz.prog 67 #[pv p a d b e] w fun r w' => r = .returned (.bool (aloneP p)) ∧ Below w.heap.size w w' := by
  have HM : Hid (∀ w, Calls Tryz.prog 62 #[vv p.v] w fun e w' => e = .returned (.bool (mayV p.v)) ∧ Below w.heap.size w w') := fun w => may_any p.v.K p.v.I p.v.b p.v.s w hv.b
  have HR : Hid (aloneP p = (decide (p.c = ⟨#[]⟩) && decide (p.op = 0) && (decide (p.v.K = 0) && mayV p.v) && decide (p.l.length = 0))) := rfl
  have HX := hid (Bx.new w (pa p a d b e) 29)
  have B := hid (below_new w (.cells (pa p a d b e) 29))
  generalize aloneP p = R at *
  generalize mayV p.v = m at *
  obtain ⟨K, c, op, v, l, mm⟩ := p
  generalize hlen : l.length = ln at *
  dsimp only at *
  obtain ⟨W, hW⟩ : ∃ W, w.alloc (.cells (pa ⟨K, c, op, v, l, mm⟩ a d b e) 29) = W := ⟨_, rfl⟩
  rw [hW] at HX B
  have HW := hid hW
  have T := hid fun (W2 : World) (h : Below W.heap.size W W2) => (HX.out.later h).prd
  obtain ⟨q0, q1, q2, q3, q4, q5, q6, q7, q8⟩ := HX.out.prd
  have hce := empty_eq c
  unfold pv
  unfold pa at *
  rw [hlen] at *
  obtain ⟨vK, vI, vb, vs⟩ := v
  unfold vv at *
  dsimp only at *
  clear hW hlen hv HX
  have h0 : op = 0 ∨ ((op == 0) = false ∧ decide (op = 0) = false) := by by_cases h : op = 0; exact .inl h; exact .inr (by simpa using h)
  have h1 : vK = 0 ∨ ((vK == 0) = false ∧ decide (vK = 0) = false) := by by_cases h : vK = 0; exact .inl h; exact .inr (by simpa using h)
  have h2 : ln = 0 ∨ (((ln : Int) == 0) = false ∧ decide (ln = 0) = false) := by by_cases h : ln = 0; exact .inl h; exact .inr (by simp; omega)
  clear hn hm
  generalize decide (c = ⟨#[]⟩) = cb at *
  cases cb
  · go_enter Tryz.func67, Tryz.ntmps67
    go_wp2_with fail
    go_ret
    rw [HW.out]
    exact ⟨ret_bool (by rw [HR.out]; rfl), B.out⟩
  · rcases h0 with rfl | ⟨h0, g0⟩
    · rcases h1 with rfl | ⟨h1, g1⟩
      · go_enter Tryz.func67, Tryz.ntmps67
        go_wp2_with fail
        rw [HW.out]
        refine (HM.out _).mono ?_
        rintro e2 w2 ⟨rfl, hb⟩
        replace B := hid (below_up B.out hb)
        clear q0 q1 q2 q3 q4 q5 q6 q7 q8
        obtain ⟨q0, q1, q2, q3, q4, q5, q6, q7, q8⟩ := T.out _ hb
        clear hb
        cases m
        · go_wp2_with fail
          go_ret
          exact ⟨ret_bool (by rw [HR.out]; rfl), B.out⟩
        · rcases h2 with rfl | ⟨h2, g2⟩
          · go_wp2_with fail
            go_ret
            exact ⟨ret_bool (by rw [HR.out]; rfl), B.out⟩
          · go_wp2_with fail
            go_ret
            exact ⟨ret_bool (by rw [HR.out, g2]; rfl), B.out⟩
      · go_enter Tryz.func67, Tryz.ntmps67
        go_wp2_with fail
        go_ret
        rw [HW.out]
        exact ⟨ret_bool (by rw [HR.out, g1]; rfl), B.out⟩
    · go_enter Tryz.func67, Tryz.ntmps67
      go_wp2_with fail
      go_ret
      rw [HW.out]
      exact ⟨ret_bool (by rw [HR.out, g0]; rfl), B.out⟩
theorem alone_bare (h : Hd) (m : Nat) : aloneP (prH h m) = bareH h := rfl
end Go.Proofs.YthgnibphhiaecaaGreat
