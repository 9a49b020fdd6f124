/-
  Bounds. (Written by mkbnd.py.)
-/
import Derived.Test.YthlfdmigmgpgfaaAKnown
import Derived.Test.YthlfdmigmgpgfaaARefKA
import Derived.Test.YthlfdmigmgpgfaaATwin2
namespace Go.Proofs.Ythlfdmigmgpgfaa
open Go.ChangeShapes Go.WideShapes Go.ChangeAt Go.RowKit Cu Vl
attribute [local go_sem] run_store_float

theorem infoC2 : (Try.prog.info? 40).map (fun i => (i.zero, i.size, i.bytes)) = some (some (.agg #[.string ByteArray.empty, .int .i64 0, .bool false]), 3, 32) := by kernel_rfl
set_option maxRecDepth 8000 in
set_option maxHeartbeats 16000000 in
theorem walk_atomChecks (w : World) (ac : Option Addr) (nc dc : Nat) (l : List Col) (p : Pr) (a : Option Addr) (d : Nat) (b : Option Addr) (e : Nat) (ks : List Kd) (hL : CArgL w ac nc dc l) (hp : PArg w p a d b e ks) :
    Calls Try.prog 3 #[.slice ac nc dc, pv p a d b e] w fun r w' => r = .returned (.bool true) ∧ Below w.heap.size w w' := by
  obtain rfl := hL.len
  have hlen : l.length ≤ 140737488355328 := by have := hL.le; have := hL.small; omega
  have HK := hid fun w => known_any w
  have b1 := below_new w (.cells (pa p a d b e) 29)
  have HX := hid (Bx.new w (pa p a d b e) 29)
  obtain ⟨W, hW⟩ : ∃ W, w.alloc (.cells (pa p a d b e) 29) = W := ⟨_, rfl⟩
  have HW := hid hW
  have B := hid b1
  rw [hW] at HX B
  have HD := hid (deep_any p a d b e ks W ⟨hp.K, hp.op, hp.cs, hp.v, ⟨rfl, hp.l.lst.later B.out, hp.l.ok, hp.l.nil, hp.l.le, hp.l.small⟩, hp.m, hp.kl.later B.out, hp.kn, hp.ke, hp.kb, fun gC k hC => (hp.pt gC k (Nat.le_trans B.out.size hC)).later B.out⟩)
  have HTw := hid fun (W2 : World) (h : Below W.heap.size W W2) => twin_any p a d b e ks W2 hp.v ⟨rfl, (hp.l.lst.later B.out).later h, hp.l.ok, hp.l.nil, hp.l.le, hp.l.small⟩ hp.m ((hp.kl.later B.out).later h) hp.kn hp.ke hp.kb
  have HCr := hid fun (W2 : World) (h : Below W.heap.size W W2) => check18 ac l dc p a d b e W2 ((hL.lst.later B.out).later h) hlen ((hp.ok.later B.out).later h)
  have HAp := hid fun (W2 : World) (h : Below W.heap.size W W2) => lst_many cc_len (by decide) cc_one (t := 22) (ty := 22) (c := dc) (by0 := 32) Try.underlying22 infoC2 rfl (OwnL.nil cc 3 W2 W2.heap.size 40) ((hL.lst.later B.out).later h) hL.nil (by have h1 := hL.le; have h2 := hL.small; simp; omega) (by decide) (Nat.le_refl _)
  have HCk := hid fun (W2 : World) (a1 : Option Addr) (c1 : Nat) (a' : Option Addr) (d' : Nat) (b' : Option Addr) (e' : Nat) (h1 : Lst cc 3 W2 a1 l) (h : POk W2 p a') => check_any a1 l c1 p a' d' b' e' W2 h1 hlen h
  have TP := hid fun (x : World) (h : Below W.heap.size W x) => (HX.out.later h).prd
  generalize chkP l p = ck at *
  clear b1 hW HX hp
  obtain ⟨K, c, op, u, pl, m⟩ := p
  obtain ⟨uK, uI, ub, us⟩ := u
  unfold pv at *
  unfold pa at *
  dsimp only at *
  obtain ⟨q0, q1, q2, q3, q4, q5, q6, q7, q8⟩ := TP.out W (Below.refl _ _)
  go_enter Try.func3, Try.ntmps3
  go_wp2_with fail
  rw [HW.out]
  refine HD.out.mono ?_
  rintro e1 w1 ⟨q, rfl, hbb⟩
  have B1 := hid hbb
  clear hbb HD HW q0 q1 q2 q3 q4 q5 q6 q7 q8
  cases q
  rotate_left
  · go_wp2_with fail
    go_ret
    exact ⟨rfl, below_up B.out B1.out⟩
  obtain ⟨q0, q1, q2, q3, q4, q5, q6, q7, q8⟩ := TP.out _ B1.out
  go_wp2_with fail
  refine (HCr.out _ B1.out).mono ?_
  rintro e1 w2 ⟨rfl, hbb⟩
  replace B1 := hid (below_up B1.out hbb)
  clear hbb HCr q0 q1 q2 q3 q4 q5 q6 q7 q8
  obtain ⟨v1, w3, hr1, ho1, hb1⟩ := HAp.out _ B1.out
  rw [List.nil_append] at ho1
  have R := hid hr1
  have O := hid ho1
  have B2 := hid (hb1 w2 (Below.refl _ _))
  clear hr1 ho1 hb1 HAp
  have B3 := hid (below_up B1.out B2.out)
  obtain ⟨q0, q1, q2, q3, q4, q5, q6, q7, q8⟩ := TP.out _ B3.out
  go_wp2_with (at_builtin; refine wpList_app (by rfl) (by rfl) R.out ?_; clear R)
  refine (HTw.out _ B3.out).mono ?_
  rintro e1 w4 ⟨a2, d2, b2, e2, rfl, ho, hbb⟩
  have HO := hid ho
  replace B3 := hid (below_up B3.out hbb)
  obtain ⟨a1, c1, rfl, -, -, -, hl1, -⟩ := OwnL.form cc_len O.out
  have HL1 := hid (hl1.later hbb)
  clear hbb ho hl1 q0 q1 q2 q3 q4 q5 q6 q7 q8 HTw
  go_wp2_with fail
  refine (HCk.out _ _ _ _ _ _ _ HL1.out HO.out).mono ?_
  rintro e1 w5 ⟨rfl, hbb⟩
  replace B3 := hid (below_up B3.out hbb)
  clear hbb
  go_wp2_with fail
  refine (HK.out _).mono ?_
  rintro e1 w6 ⟨rfl, hbb⟩
  replace B3 := hid (below_up B3.out hbb)
  clear hbb
  go_wp2_with fail
  go_ret
  exact ⟨rfl, below_up B.out B3.out⟩
end Go.Proofs.Ythlfdmigmgpgfaa
