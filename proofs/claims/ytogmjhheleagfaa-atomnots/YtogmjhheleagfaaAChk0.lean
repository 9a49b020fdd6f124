/-
  Check. (Written by mkchk.py.)
-/
import Derived.Test.YtogmjhheleagfaaACheck
import Derived.Test.YtogmjhheleagfaaAVals
import Derived.Deep.RegionHeld3
namespace Go.Proofs.Ytogmjhheleagfaa
open Go.ChangeShapes Go.WideShapes Go.ChangeAt Go.RowKit Cu Vl
attribute [local go_sem] run_store_float

set_option maxRecDepth 8000 in
set_option maxHeartbeats 8000000 in
theorem check_0 (ac : Option Addr) (l : List Col) (dc : Nat) (p : Pr) (a : Option Addr) (d : Nat) (b : Option Addr) (e : Nat) (w : World) (hL : Lst cc 3 w ac l) (hl : l.length ≤ 140737488355328) (hp : POk w p a) (hk : ¬ (1 ≤ p.K ∧ p.K ≤ 5)) :
    Calls Try.prog 9 #[.slice ac l.length dc, pv p a d b e] w fun r w' => r = .returned (.int .i64 (chkP l p)) ∧ Below w.heap.size w w' := by
  have HA := hid fun w => atom_is p.K w
  have HO := hid fun w => op_is p.op w
  have B0 := hid (below_new w (.cells (pa p a d b e) 32))
  have HX := hid (Bx.new w (pa p a d b e) 32)
  obtain ⟨W, hW⟩ : ∃ W, w.alloc (.cells (pa p a d b e) 32) = W := ⟨_, rfl⟩
  have HW := hid hW
  rw [hW] at HX B0
  have HF := hid (find_any ac l dc p.c W (hL.later B0.out) hl)
  have HRS := hid fun w => rest_any p a d b e w hp.v hp.n hp.m
  have T := hid fun (W2 : World) (h : Below W.heap.size W W2) => (HX.out.later h).prd
  have HVA := hid fun (W2 : World) (h : Below W.heap.size W W2) => vals_any p a d b e W2 ((hp.L.later B0.out).later h)
  have HAL := hid fun (k : Int) (a2 : Option Addr) (c2 : Nat) (W2 : World) (h : Lst vc 4 W2 a2 (valsP p)) => allOf_any k a2 (valsP p) c2 W2 (by
    intro v hv
    unfold valsP at hv
    split at hv
    · simp at hv; subst hv; exact hp.v
    · split at hv
      · exact hp.l v hv
      · cases hv) h (by
    unfold valsP
    split
    · simp
    · split
      · exact hp.n
      · simp)
  have HFT : Hid (findB l p.c = true → ∃ i : Nat, findI l p.c = (i : Int) ∧ i < l.length ∧ ∃ g o, ac = some ⟨g, o, none⟩ ∧ ∀ W2, Below W.heap.size W W2 → W2.cell? ⟨g, o + i * 3 + 1, none⟩ = some (.int .i64 (findT l p.c))) := fun h => by
    unfold findB at h
    obtain ⟨i, hi⟩ := Option.isSome_iff_exists.1 h
    obtain ⟨h1, h2⟩ := findT_at hi
    obtain ⟨g, o, e1, hg, k0, k1, k2⟩ := (hL.later B0.out).cell3 h1
    rw [h2] at k1
    exact ⟨i, by unfold findI; rw [hi], h1, g, o, e1, fun W2 h3 => (h3.cell (by exact hg)).trans k1⟩
  have HR : Hid (chkP l p = if (!atmB p.K || (decide (p.K = 1) && !opB p.op)) = true then 180
    else if (decide (p.K = 5) && findB l p.c && decide (findT l p.c ≠ 2)) = true then 180
    else if (!rstB p || (decide (p.K = 3) && decide (p.l.length ≠ 2))) = true then 2
    else if findB l p.c = false then 151
    else if (decide (p.K = 2) && decide (1024 < p.l.length)) = true then 3
    else if (valsP p).all (okT (findT l p.c)) = true then 0 else 50) := rfl
  have HLN := hid (show l.length ≤ 140737488355328 from hl)
  generalize chkP l p = R at *
  generalize rstB p = rs at *
  generalize findB l p.c = fb at *
  generalize findI l p.c = fi at *
  generalize findT l p.c = ft at *
  generalize valsP p = vl at *
  generalize l.length = nc at *
  obtain ⟨K, c, op, v, pl, m⟩ := p
  have hpn := hp.n
  dsimp only at *
  generalize hln : pl.length = n at *
  have hpl : pl.length = n := hln
  clear hp hln hL hW HX
  obtain ⟨vK, vI, vb, vs⟩ := v
  unfold pv at *
  unfold pa at *
  dsimp only at *
  rw [hpl] at *
  clear hpl
  have e0 : atmB K = false := by unfold atmB; simp; omega
  rw [e0] at HA HR
  clear e0 hk
  obtain ⟨q0, q1, q2, q3, q4, q5, q6, q7, q8⟩ := T.out W (Below.refl _ _)
  go_enter Try.func9, Try.ntmps9
  go_wp2_with fail
  rw [HW.out]
  refine HF.out.mono ?_
  rintro e1 w1 ⟨rfl, hb⟩
  have B := hid hb
  clear hb HF HW
  clear q0 q1 q2 q3 q4 q5 q6 q7 q8
  obtain ⟨q0, q1, q2, q3, q4, q5, q6, q7, q8⟩ := T.out _ B.out
  go_wp2_with (go_at_call 24; refine (HA.out _).mono ?_; rintro e w' ⟨rfl, rfl⟩)
  go_ret
  exact ⟨ret_int (by rw [HR.out]; simp), below_up B0.out B.out⟩
end Go.Proofs.Ytogmjhheleagfaa
