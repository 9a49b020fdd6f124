/-
  Bounds. (Written by mkbnd.py.)
-/
import Derived.Test.YthlfdmigmgpgfaaAKnown
import Derived.Test.YthlfdmigmgpgfaaARefB
import Derived.Test.YthlfdmigmgpgfaaATwin2
import Derived.Test.YthlfdmigmgpgfaaALike
namespace Go.Proofs.Ythlfdmigmgpgfaa
open Go.ChangeShapes Go.WideShapes Go.ChangeAt Go.RowKit Cu Vl
attribute [local go_sem] run_store_float

set_option maxRecDepth 8000 in
set_option maxHeartbeats 16000000 in
theorem walk_atomBounds (w : World) (p : Pr) (a : Option Addr) (d : Nat) (b : Option Addr) (e : Nat) (ks : List Kd) (hp : PArg w p a d b e ks) :
    Calls Try.prog 4 #[pv p a d b e] w fun r w' => r = .returned (.bool true) ∧ Below w.heap.size w w' := by
  have HK := hid fun w => known_any w
  have HA := hid fun (v : V) (w : World) => alike_same v w
  have b1 := below_new w (.cells (pa p a d b e) 29)
  have HX := hid (Bx.new w (pa p a d b e) 29)
  obtain ⟨W, hW⟩ : ∃ W, w.alloc (.cells (pa p a d b e) 29) = W := ⟨_, rfl⟩
  have HW := hid hW
  have B := hid b1
  rw [hW] at HX B
  have HD := hid (deep_any p a d b e ks W ⟨hp.K, hp.op, hp.cs, hp.v, ⟨rfl, hp.l.lst.later B.out, hp.l.ok, hp.l.nil, hp.l.le, hp.l.small⟩, hp.m, hp.kl.later B.out, hp.kn, hp.ke, hp.kb, fun gC k hC => (hp.pt gC k (Nat.le_trans B.out.size hC)).later B.out⟩)
  have HTw := hid fun (W2 : World) (h : Below W.heap.size W W2) => twin_any p a d b e ks W2 hp.v ⟨rfl, (hp.l.lst.later B.out).later h, hp.l.ok, hp.l.nil, hp.l.le, hp.l.small⟩ hp.m ((hp.kl.later B.out).later h) hp.kn hp.ke hp.kb
  have HBr := hid fun (W2 : World) (h : Below W.heap.size W W2) => bnd18 p a d b e W2 ((hp.ok.later B.out).later h)
  have HBp := hid fun (W2 : World) (a' : Option Addr) (d' : Nat) (b' : Option Addr) (e' : Nat) (h : POk W2 p a') => bnd_any p a' d' b' e' W2 h
  have TP := hid fun (x : World) (h : Below W.heap.size W x) => (HX.out.later h).prd
  obtain ⟨⟨lo, hi, ok⟩, hq⟩ : ∃ q : V × V × Bool, q = bndP p := ⟨_, rfl⟩
  rw [← hq] at HBr HBp
  have HAl := hid (HA.out lo)
  have HAh := hid (HA.out hi)
  clear b1 hW HX hp hq HA
  obtain ⟨K, c, op, u, pl, m⟩ := p
  obtain ⟨uK, uI, ub, us⟩ := u
  have TL := hid fun (x : World) (g : Nat) (h : Bx x g (va lo) 25) => h.val
  have TH := hid fun (x : World) (g : Nat) (h : Bx x g (va hi) 25) => h.val
  unfold va at TL TH
  unfold vv at HBr HBp HAl HAh
  unfold pv at *
  unfold pa at *
  dsimp only at *
  obtain ⟨q0, q1, q2, q3, q4, q5, q6, q7, q8⟩ := TP.out W (Below.refl _ _)
  go_enter Try.func4, Try.ntmps4
  go_wp2_with fail
  rw [HW.out]
  refine HD.out.mono ?_
  rintro e1 w1 ⟨q, rfl, hbb⟩
  have B1 := hid hbb
  clear hbb HD HW q0 q1 q2 q3 q4 q5 q6 q7 q8
  cases q
  rotate_left
  · go_wp2_with fail
    go_ret
    exact ⟨rfl, below_up B.out B1.out⟩
  obtain ⟨q0, q1, q2, q3, q4, q5, q6, q7, q8⟩ := TP.out _ B1.out
  go_wp2_with fail
  refine (HBr.out _ B1.out).mono ?_
  rintro e1 w2 ⟨rfl, hbb⟩
  replace B1 := hid (below_up B1.out hbb)
  clear hbb HBr q0 q1 q2 q3 q4 q5 q6 q7 q8
  have n1 := below_new w2 (.cells #[.int .i64 lo.K, .int .i64 lo.I, .float .f64 lo.b, .string lo.s] 25)
  have n2 := below_new (w2.alloc (.cells #[.int .i64 lo.K, .int .i64 lo.I, .float .f64 lo.b, .string lo.s] 25)) (.cells #[.int .i64 hi.K, .int .i64 hi.I, .float .f64 hi.b, .string hi.s] 25)
  have X3 := hid ((Bx.new w2 (va lo) 25).later n2)
  have X4 : Hid (Bx ((w2.alloc (.cells #[.int .i64 lo.K, .int .i64 lo.I, .float .f64 lo.b, .string lo.s] 25)).alloc (.cells #[.int .i64 hi.K, .int .i64 hi.I, .float .f64 hi.b, .string hi.s] 25)) (w2.heap.size + 1) (va hi) 25) := by
    have := Bx.new (w2.alloc (.cells #[.int .i64 lo.K, .int .i64 lo.I, .float .f64 lo.b, .string lo.s] 25)) (va hi) 25
    rwa [show (w2.alloc (.cells #[.int .i64 lo.K, .int .i64 lo.I, .float .f64 lo.b, .string lo.s] 25)).heap.size = w2.heap.size + 1 by simp] at this
  replace B1 := hid (below_up (below_up B1.out n1) n2)
  obtain ⟨w3, hw3⟩ : ∃ w3, (w2.alloc (.cells #[.int .i64 lo.K, .int .i64 lo.I, .float .f64 lo.b, .string lo.s] 25)).alloc (.cells #[.int .i64 hi.K, .int .i64 hi.I, .float .f64 hi.b, .string hi.s] 25) = w3 := ⟨_, rfl⟩
  have HW3 := hid hw3
  rw [hw3] at B1 X3 X4 
  clear n1 n2 hw3
  unfold va at X3 X4
  obtain ⟨q0, q1, q2, q3, q4, q5, q6, q7, q8⟩ := TP.out _ B1.out
  rw [← HW3.out] at q0 q1 q2 q3 q4 q5 q6 q7 q8
  go_wp2_with fail
  rw [HW3.out]
  refine (HTw.out _ B1.out).mono ?_
  rintro e1 w4 ⟨a2, d2, b2, e2, rfl, ho, hbb⟩
  have HO := hid ho
  replace B1 := hid (below_up B1.out hbb)
  replace X3 := hid (X3.out.later hbb)
  replace X4 := hid (X4.out.later hbb)
  clear hbb ho q0 q1 q2 q3 q4 q5 q6 q7 q8 HTw HW3
  dsimp only
  go_wp2_with fail
  refine (HBp.out _ _ _ _ _ HO.out).mono ?_
  rintro e1 w5 ⟨rfl, hbb⟩
  replace B1 := hid (below_up B1.out hbb)
  replace X3 := hid (X3.out.later hbb)
  replace X4 := hid (X4.out.later hbb)
  clear hbb HBp HO
  have n1 := below_new w5 (.cells #[.int .i64 lo.K, .int .i64 lo.I, .float .f64 lo.b, .string lo.s] 25)
  have n2 := below_new (w5.alloc (.cells #[.int .i64 lo.K, .int .i64 lo.I, .float .f64 lo.b, .string lo.s] 25)) (.cells #[.int .i64 hi.K, .int .i64 hi.I, .float .f64 hi.b, .string hi.s] 25)
  have X6 := hid ((Bx.new w5 (va lo) 25).later n2)
  have X7 : Hid (Bx ((w5.alloc (.cells #[.int .i64 lo.K, .int .i64 lo.I, .float .f64 lo.b, .string lo.s] 25)).alloc (.cells #[.int .i64 hi.K, .int .i64 hi.I, .float .f64 hi.b, .string hi.s] 25)) (w5.heap.size + 1) (va hi) 25) := by
    have := Bx.new (w5.alloc (.cells #[.int .i64 lo.K, .int .i64 lo.I, .float .f64 lo.b, .string lo.s] 25)) (va hi) 25
    rwa [show (w5.alloc (.cells #[.int .i64 lo.K, .int .i64 lo.I, .float .f64 lo.b, .string lo.s] 25)).heap.size = w5.heap.size + 1 by simp] at this
  replace X3 := hid ((X3.out.later n1).later n2)
  replace X4 := hid ((X4.out.later n1).later n2)
  replace B1 := hid (below_up (below_up B1.out n1) n2)
  obtain ⟨w6, hw6⟩ : ∃ w6, (w5.alloc (.cells #[.int .i64 lo.K, .int .i64 lo.I, .float .f64 lo.b, .string lo.s] 25)).alloc (.cells #[.int .i64 hi.K, .int .i64 hi.I, .float .f64 hi.b, .string hi.s] 25) = w6 := ⟨_, rfl⟩
  have HW6 := hid hw6
  rw [hw6] at B1 X6 X7 X3 X4
  clear n1 n2 hw6
  unfold va at X6 X7
  obtain ⟨i0, i1, i2, i3⟩ := TL.out _ _ X3.out
  obtain ⟨j0, j1, j2, j3⟩ := TH.out _ _ X4.out
  obtain ⟨k0, k1, k2, k3⟩ := TL.out _ _ X6.out
  obtain ⟨l0, l1, l2, l3⟩ := TH.out _ _ X7.out
  rw [← HW6.out] at i0 i1 i2 i3 j0 j1 j2 j3 k0 k1 k2 k3 l0 l1 l2 l3
  have hokk : (ok == ok) = true := by simp
  go_wp2_with fail
  rw [HW6.out]
  refine (HAl.out _).mono ?_
  rintro e1 w7 ⟨rfl, hbb⟩
  replace B1 := hid (below_up B1.out hbb)
  replace X4 := hid (X4.out.later hbb)
  replace X7 := hid (X7.out.later hbb)
  clear hbb i0 i1 i2 i3 j0 j1 j2 j3 k0 k1 k2 k3 l0 l1 l2 l3
  obtain ⟨j0, j1, j2, j3⟩ := TH.out _ _ X4.out
  obtain ⟨l0, l1, l2, l3⟩ := TH.out _ _ X7.out
  go_wp2_with fail
  refine (HAh.out _).mono ?_
  rintro e1 w8 ⟨rfl, hbb⟩
  replace B1 := hid (below_up B1.out hbb)
  clear hbb
  go_wp2_with fail
  refine (HK.out _).mono ?_
  rintro e1 w9 ⟨rfl, hbb⟩
  replace B1 := hid (below_up B1.out hbb)
  clear hbb
  go_wp2_with fail
  go_ret
  exact ⟨rfl, below_up B.out B1.out⟩
end Go.Proofs.Ythlfdmigmgpgfaa
