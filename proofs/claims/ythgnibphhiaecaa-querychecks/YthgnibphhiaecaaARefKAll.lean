import Derived.Test.YthgnibphhiaecaaARefM
/-
  The document's column and none (chapter 18's).
-/
namespace Go.Proofs.Ythgnibphhiaecaa
open Go.ChangeShapes Go.WideShapes Go.ChangeAt Go.RowKit Cu Vl
attribute [local go_sem] run_store_float

theorem findT_no : ∀ {l : List Col} {s : ByteArray}, findN l s = none → findT l s = 0
  | [], _, _ => rfl
  | c :: r, s, h => by
    simp only [findN] at h
    by_cases e : c.nm = s
    · rw [if_pos e] at h; cases h
    · rw [if_neg e] at h
      have : findN r s = none := by simpa using h
      simp [findT, e, findT_no this]
set_option maxRecDepth 4000 in
set_option maxHeartbeats 4000000 in
theorem column18 (a : Option Addr) (l : List Col) (d : Nat) (s : ByteArray) (w : World) (hL : Lst cc 3 w a l) (hl : l.length ≤ 140737488355328) :
    Calls Try.prog 120 #[.slice a l.length d, .string s] w fun e w' => e = .returned (.tuple #[.int .i64 (findT l s), .bool (findB l s)]) ∧ w' = w := by
  have HL := hid hL
  clear hL
  go_enter Try.func120, Try.ntmps120
  go_wp2_with fail
  go_loopw [6] (fun ix wr => ∃ i : Nat, i ≤ l.length ∧ ix = .int .i64 i ∧ Hid (∀ j (h : j < l.length), j < i → l[j].nm ≠ s) ∧ wr = w) (fun ix _ => l.length - (intOf ix).toNat)
  case atStart => exact ⟨0, Nat.zero_le _, rfl, fun j _ hj => (by omega), rfl⟩
  case round =>
    obtain ⟨i, hi, rfl, HA, rfl⟩ := hrel
    rename World => wr
    by_cases hlt : i < l.length
    · have hii : (i : Int) < (l.length : Int) := by omega
      obtain ⟨g, o, rfl, _, k0, k1, k2⟩ := HL.out.cell3 hlt
      have HY : Hid (l[i].nm = s → findN l s = some i ∧ l[i].T = findT l s) := fun h => by
        have h1 := findN_at hlt (fun j hj => HA.out j (by omega) hj) h
        obtain ⟨_, h2⟩ := findT_at h1
        exact ⟨h1, h2⟩
      have HN : Hid (l[i].nm ≠ s → ∀ j (h : j < l.length), j < i + 1 → l[j].nm ≠ s) := fun h j hj hj2 => by
        by_cases e : j = i
        · subst e; exact h
        · exact HA.out j hj (by omega)
      generalize hci : l[i] = c at *
      clear hci
      obtain ⟨nm, T, nb⟩ := c
      dsimp only at *
      by_cases he : nm = s
      · have HE := hid (HY.out he)
        subst he
        have hse := str_eq nm
        go_wp2_with fail
        go_ret2
        unfold findB
        rw [HE.out.1, HE.out.2]
        exact ⟨rfl, rfl⟩
      · have HE := hid (HN.out he)
        have hse := str_ne he
        clear he
        go_wp2_with fail
        exact ⟨⟨i + 1, by omega, by go_num, HE, trivial⟩, by simp [intOf]; omega⟩
    · obtain rfl : i = l.length := by omega
      have HE : Hid (findN l s = none) := findN_no (fun j hj => HA.out j hj hj)
      go_wp2_with fail
      go_ret2
      unfold findB
      rw [findT_no HE.out, HE.out]
      exact ⟨rfl, rfl⟩
set_option maxHeartbeats 1000000 in
theorem none18 (v : V) (w : World) (hv : VOk v) : Calls Try.prog 121 #[vv v] w fun e w' => e = .returned (.bool (nulB v)) ∧ Below w.heap.size w w' := by
  have HM := hid fun w => refMay18 v w hv
  have B := hid (below_new w (.cells (va v) 26))
  have hx : Bx (w.alloc (.cells (va v) 26)) w.heap.size (va v) 26 := Bx.new w _ _
  obtain ⟨c0, c1, c2, c3⟩ := hx.val
  have HR : Hid (nulB v = (decide (v.K = 0) && mayV v)) := rfl
  generalize nulB v = r at *
  generalize mayV v = m at *
  clear hx hv
  obtain ⟨K, I, b, s⟩ := v
  unfold vv at *
  unfold va at *
  dsimp only at *
  by_cases h0 : K = 0
  · subst h0
    go_enter Try.func121, Try.ntmps121
    go_wp2_with fail
    refine (HM.out _).mono ?_
    rintro e w1 ⟨rfl, hb⟩
    replace B := hid (below_up B.out hb)
    clear hb
    go_wp2_with fail
    go_ret
    exact ⟨ret_bool (by rw [HR.out]; simp), B.out⟩
  · have e0 : (K == 0) = false := by simpa using h0
    have HR2 := hid (show r = false by rw [HR.out]; simp [h0])
    go_enter Try.func121, Try.ntmps121
    go_wp2_with fail
    go_ret
    exact ⟨ret_bool (by rw [HR2.out]), B.out⟩
end Go.Proofs.Ythgnibphhiaecaa

/-
  Bounds. (Written by mkbnd.py.)
-/
namespace Go.Proofs.Ythgnibphhiaecaa
open Go.ChangeShapes Go.WideShapes Go.ChangeAt Go.RowKit Cu Vl
attribute [local go_sem] run_store_float

set_option maxRecDepth 8000 in
set_option maxHeartbeats 8000000 in
theorem rcheck_0 (ac : Option Addr) (l : List Col) (dc : Nat) (p : Pr) (a : Option Addr) (d : Nat) (b : Option Addr) (e : Nat) (w : World) (hL : Lst cc 3 w ac l) (hl : l.length ≤ 140737488355328) (hp : POk w p a) (hk : (p.K < 1 ∨ 5 < p.K)) :
    Calls Try.prog 102 #[.slice ac l.length dc, pv p a d b e] w fun r w' => r = .returned (.int .i64 (chkP l p)) ∧ Below w.heap.size w w' := by
  have B0 := hid (below_new w (.cells (pa p a d b e) 30))
  have HX := hid (Bx.new w (pa p a d b e) 30)
  obtain ⟨W, hW⟩ : ∃ W, w.alloc (.cells (pa p a d b e) 30) = W := ⟨_, rfl⟩
  have HW := hid hW
  rw [hW] at HX B0
  have HF := hid (column18 ac l dc p.c W (hL.later B0.out) hl)
  have T := hid fun (W2 : World) (h : Below W.heap.size W W2) => (HX.out.later h).prd
  have HNo := hid fun w => none18 p.v w hp.v
  have HMa := hid fun w => refMay18 p.v w hp.v
  have HRS : Hid (rstB p = ((cntO p.K || decide (p.op = 0)) && (cntS p.K || nulB p.v) && (cntL p.K || decide (p.l.length = 0)) && decide (p.m = 0))) := rfl
  have HVL : Hid (valsP p = if cntS p.K = true then [p.v] else if cntL p.K = true then p.l else []) := rfl
  have HOT : Hid (∀ k, okT k p.v = (!decide (p.v.K = 0) && decide (p.v.K = k) && mayV p.v)) := fun _ => rfl
  have HR : Hid (chkP l p = if (!atmB p.K || (decide (p.K = 1) && !opB p.op)) = true then 180
    else if (decide (p.K = 5) && findB l p.c && decide (findT l p.c ≠ 2)) = true then 180
    else if (!rstB p || (decide (p.K = 3) && decide (p.l.length ≠ 2))) = true then 2
    else if findB l p.c = false then 151
    else if (decide (p.K = 2) && decide (1024 < p.l.length)) = true then 3
    else if (valsP p).all (okT (findT l p.c)) = true then 0 else 50) := rfl
  generalize chkP l p = R at *
  generalize rstB p = rs at *
  generalize nulB p.v = nu at *
  generalize mayV p.v = mv at *
  generalize findB l p.c = fb at *
  generalize findT l p.c = ft at *
  obtain ⟨K, c, op, v, pl, m⟩ := p
  have hpn := hp.n
  have hpm := hp.m
  have HL := hid (hp.L.later B0.out)
  have HO := hid hp.l
  dsimp only at *
  clear hp hL hW HX
  obtain ⟨vK, vI, vb, vs⟩ := v
  unfold pv at *
  unfold pa at *
  unfold vv at *
  dsimp only at *
  obtain ⟨q0, q1, q2, q3, q4, q5, q6, q7, q8⟩ := T.out W (Below.refl _ _)
  have HZ : Hid (R = 180) := by
    have h := HR.out
    rw [if_pos] at h
    · exact h
    · unfold atmB; rcases hk with hk | hk
      · rw [decide_eq_false (by omega : ¬ 1 ≤ K)]; rfl
      · rw [decide_eq_false (by omega : ¬ K ≤ 5)]; simp
  clear HR
  rcases hk with hk | hk
  all_goals
    go_enter Try.func102, Try.ntmps102
    go_wp2_with fail
    rw [HW.out]
    refine HF.out.mono ?_
    rintro e1 w1 ⟨rfl, rfl⟩
    go_wp2_with fail
    go_ret
    exact ⟨ret_int HZ.out.symm, B0.out⟩
end Go.Proofs.Ythgnibphhiaecaa

/-
  Bounds. (Written by mkbnd.py.)
-/
namespace Go.Proofs.Ythgnibphhiaecaa
open Go.ChangeShapes Go.WideShapes Go.ChangeAt Go.RowKit Cu Vl
attribute [local go_sem] run_store_float

set_option maxRecDepth 8000 in
set_option maxHeartbeats 8000000 in
theorem rcheck_1 (ac : Option Addr) (l : List Col) (dc : Nat) (p : Pr) (a : Option Addr) (d : Nat) (b : Option Addr) (e : Nat) (w : World) (hL : Lst cc 3 w ac l) (hl : l.length ≤ 140737488355328) (hp : POk w p a) (hk : p.K = 1) :
    Calls Try.prog 102 #[.slice ac l.length dc, pv p a d b e] w fun r w' => r = .returned (.int .i64 (chkP l p)) ∧ Below w.heap.size w w' := by
  have B0 := hid (below_new w (.cells (pa p a d b e) 30))
  have HX := hid (Bx.new w (pa p a d b e) 30)
  obtain ⟨W, hW⟩ : ∃ W, w.alloc (.cells (pa p a d b e) 30) = W := ⟨_, rfl⟩
  have HW := hid hW
  rw [hW] at HX B0
  have HF := hid (column18 ac l dc p.c W (hL.later B0.out) hl)
  have T := hid fun (W2 : World) (h : Below W.heap.size W W2) => (HX.out.later h).prd
  have HNo := hid fun w => none18 p.v w hp.v
  have HMa := hid fun w => refMay18 p.v w hp.v
  have HRS : Hid (rstB p = ((cntO p.K || decide (p.op = 0)) && (cntS p.K || nulB p.v) && (cntL p.K || decide (p.l.length = 0)) && decide (p.m = 0))) := rfl
  have HVL : Hid (valsP p = if cntS p.K = true then [p.v] else if cntL p.K = true then p.l else []) := rfl
  have HOT : Hid (∀ k, okT k p.v = (!decide (p.v.K = 0) && decide (p.v.K = k) && mayV p.v)) := fun _ => rfl
  have HR : Hid (chkP l p = if (!atmB p.K || (decide (p.K = 1) && !opB p.op)) = true then 180
    else if (decide (p.K = 5) && findB l p.c && decide (findT l p.c ≠ 2)) = true then 180
    else if (!rstB p || (decide (p.K = 3) && decide (p.l.length ≠ 2))) = true then 2
    else if findB l p.c = false then 151
    else if (decide (p.K = 2) && decide (1024 < p.l.length)) = true then 3
    else if (valsP p).all (okT (findT l p.c)) = true then 0 else 50) := rfl
  generalize chkP l p = R at *
  generalize rstB p = rs at *
  generalize nulB p.v = nu at *
  generalize mayV p.v = mv at *
  generalize findB l p.c = fb at *
  generalize findT l p.c = ft at *
  obtain ⟨K, c, op, v, pl, m⟩ := p
  have hpn := hp.n
  have hpm := hp.m
  have HL := hid (hp.L.later B0.out)
  have HO := hid hp.l
  dsimp only at *
  clear hp hL hW HX
  obtain ⟨vK, vI, vb, vs⟩ := v
  unfold pv at *
  unfold pa at *
  unfold vv at *
  dsimp only at *
  obtain ⟨q0, q1, q2, q3, q4, q5, q6, q7, q8⟩ := T.out W (Below.refl _ _)
  subst hk
  rw [HRS.out, HVL.out] at HR
  clear HRS HVL
  by_cases ho : 1 ≤ op ∧ op ≤ 6
  rotate_left
  · have ho' : op < 1 ∨ 6 < op := by omega
    rcases ho' with ho' | ho'
    all_goals (try have ho2 : ¬ op < 1 := by omega)
    all_goals
    go_enter Try.func102, Try.ntmps102
    go_wp2_with fail
    rw [HW.out]
    refine HF.out.mono ?_
    rintro e1 w1 ⟨rfl, hw⟩
    subst w1
    have B := hid (Below.refl W.heap.size W)
    go_wp2_with fail
    go_ret
    exact ⟨ret_int (by rw [HR.out]; simp [opB, ho]), below_up B0.out B.out⟩
  obtain ⟨o1, o2⟩ := ho
  have o1' : ¬ op < 1 := by omega
  have o2' : ¬ 6 < op := by omega
  by_cases hm : m = 0
  rotate_left
  · have hm' : (0 : Int) < (m : Int) := by omega
    go_enter Try.func102, Try.ntmps102
    go_wp2_with fail
    rw [HW.out]
    refine HF.out.mono ?_
    rintro e1 w1 ⟨rfl, hw⟩
    subst w1
    have B := hid (Below.refl W.heap.size W)
    go_wp2_with fail
    go_ret
    exact ⟨ret_int (by rw [HR.out]; simp [atmB, opB, cntO, cntS, cntL, o1, o2, hm]), below_up B0.out B.out⟩
  subst hm
  by_cases hn : pl.length = 0
  rotate_left
  · have hn' : (0 : Int) < (pl.length : Int) := by omega
    go_enter Try.func102, Try.ntmps102
    go_wp2_with fail
    rw [HW.out]
    refine HF.out.mono ?_
    rintro e1 w1 ⟨rfl, hw⟩
    subst w1
    have B := hid (Below.refl W.heap.size W)
    go_wp2_with fail
    go_ret
    exact ⟨ret_int (by rw [HR.out]; simp [atmB, opB, cntO, cntS, cntL, o1, o2, hn]), below_up B0.out B.out⟩
  obtain rfl : pl = [] := List.length_eq_zero_iff.1 hn
  clear hn
  simp only [List.length_nil] at q7 HW ⊢
  cases fb
  · skip
    go_enter Try.func102, Try.ntmps102
    go_wp2_with fail
    rw [HW.out]
    refine HF.out.mono ?_
    rintro e1 w1 ⟨rfl, hw⟩
    subst w1
    have B := hid (Below.refl W.heap.size W)
    go_wp2_with fail
    go_ret
    exact ⟨ret_int (by rw [HR.out]; simp [atmB, opB, cntO, cntS, cntL, o1, o2, ]), below_up B0.out B.out⟩
  go_enter Try.func102, Try.ntmps102
  go_wp2_with fail
  rw [HW.out]
  refine HF.out.mono ?_
  rintro e1 w1 ⟨rfl, hw⟩
  subst w1
  have B := hid (Below.refl W.heap.size W)
  go_wp2_with fail
  refine (HMa.out _).mono ?_
  rintro e2 w2 ⟨rfl, hb⟩
  replace B := hid (below_up B.out hb)
  clear hb HMa
  clear q0 q1 q2 q3 q4 q5 q6 q7 q8
  obtain ⟨q0, q1, q2, q3, q4, q5, q6, q7, q8⟩ := T.out _ B.out
  cases mv
  · go_wp2_with fail
    go_ret
    exact ⟨ret_int (by rw [HR.out]; simp [atmB, opB, cntO, cntS, cntL, o1, o2, HOT.out]), below_up B0.out B.out⟩
  by_cases hv : vK = ft
  rotate_left
  · have hv' : (vK != ft) = true := by simpa using hv
    go_wp2_with fail
    go_ret
    exact ⟨ret_int (by rw [HR.out]; simp [atmB, opB, cntO, cntS, cntL, o1, o2, HOT.out, hv]), below_up B0.out B.out⟩
  subst hv
  by_cases hz : vK = 0
  · subst hz
    go_wp2_with fail
    go_ret
    exact ⟨ret_int (by rw [HR.out]; simp [atmB, opB, cntO, cntS, cntL, o1, o2, HOT.out]), below_up B0.out B.out⟩
  have hz' : (vK == 0) = false := by simpa using hz
  go_wp2_with fail
  clear q0 q1 q2 q3 q4 q5 q6 q7 q8
  go_loopw [9] (fun ix wr => ix = .int .i64 0 ∧ Hid (Below W.heap.size W wr)) (fun ix _ => 0)
  case atStart => exact ⟨rfl, B⟩
  case round =>
    obtain ⟨rfl, HBl⟩ := hrel
    obtain ⟨q0, q1, q2, q3, q4, q5, q6, q7, q8⟩ := T.out _ HBl.out
    simp only [List.length_nil] at q7
    go_wp2_with fail
    go_ret
    exact ⟨ret_int (by rw [HR.out]; simp [atmB, opB, cntO, cntS, cntL, o1, o2, HOT.out, hz]), below_up B0.out HBl.out⟩
end Go.Proofs.Ythgnibphhiaecaa

/-
  Bounds. (Written by mkbnd.py.)
-/
namespace Go.Proofs.Ythgnibphhiaecaa
open Go.ChangeShapes Go.WideShapes Go.ChangeAt Go.RowKit Cu Vl
attribute [local go_sem] run_store_float

set_option maxRecDepth 8000 in
set_option maxHeartbeats 8000000 in
theorem rcheck_2 (ac : Option Addr) (l : List Col) (dc : Nat) (p : Pr) (a : Option Addr) (d : Nat) (b : Option Addr) (e : Nat) (w : World) (hL : Lst cc 3 w ac l) (hl : l.length ≤ 140737488355328) (hp : POk w p a) (hk : p.K = 2) :
    Calls Try.prog 102 #[.slice ac l.length dc, pv p a d b e] w fun r w' => r = .returned (.int .i64 (chkP l p)) ∧ Below w.heap.size w w' := by
  have B0 := hid (below_new w (.cells (pa p a d b e) 30))
  have HX := hid (Bx.new w (pa p a d b e) 30)
  obtain ⟨W, hW⟩ : ∃ W, w.alloc (.cells (pa p a d b e) 30) = W := ⟨_, rfl⟩
  have HW := hid hW
  rw [hW] at HX B0
  have HF := hid (column18 ac l dc p.c W (hL.later B0.out) hl)
  have T := hid fun (W2 : World) (h : Below W.heap.size W W2) => (HX.out.later h).prd
  have HNo := hid fun w => none18 p.v w hp.v
  have HMa := hid fun w => refMay18 p.v w hp.v
  have HRS : Hid (rstB p = ((cntO p.K || decide (p.op = 0)) && (cntS p.K || nulB p.v) && (cntL p.K || decide (p.l.length = 0)) && decide (p.m = 0))) := rfl
  have HVL : Hid (valsP p = if cntS p.K = true then [p.v] else if cntL p.K = true then p.l else []) := rfl
  have HOT : Hid (∀ k, okT k p.v = (!decide (p.v.K = 0) && decide (p.v.K = k) && mayV p.v)) := fun _ => rfl
  have HR : Hid (chkP l p = if (!atmB p.K || (decide (p.K = 1) && !opB p.op)) = true then 180
    else if (decide (p.K = 5) && findB l p.c && decide (findT l p.c ≠ 2)) = true then 180
    else if (!rstB p || (decide (p.K = 3) && decide (p.l.length ≠ 2))) = true then 2
    else if findB l p.c = false then 151
    else if (decide (p.K = 2) && decide (1024 < p.l.length)) = true then 3
    else if (valsP p).all (okT (findT l p.c)) = true then 0 else 50) := rfl
  generalize chkP l p = R at *
  generalize rstB p = rs at *
  generalize nulB p.v = nu at *
  generalize mayV p.v = mv at *
  generalize findB l p.c = fb at *
  generalize findT l p.c = ft at *
  obtain ⟨K, c, op, v, pl, m⟩ := p
  have hpn := hp.n
  have hpm := hp.m
  have HL := hid (hp.L.later B0.out)
  have HO := hid hp.l
  dsimp only at *
  clear hp hL hW HX
  obtain ⟨vK, vI, vb, vs⟩ := v
  unfold pv at *
  unfold pa at *
  unfold vv at *
  dsimp only at *
  obtain ⟨q0, q1, q2, q3, q4, q5, q6, q7, q8⟩ := T.out W (Below.refl _ _)
  subst hk
  rw [HRS.out, HVL.out] at HR
  clear HRS HVL
  by_cases hm : m = 0
  rotate_left
  · have hm' : (0 : Int) < (m : Int) := by omega
    go_enter Try.func102, Try.ntmps102
    go_wp2_with fail
    rw [HW.out]
    refine HF.out.mono ?_
    rintro e1 w1 ⟨rfl, hw⟩
    subst w1
    have B := hid (Below.refl W.heap.size W)
    go_wp2_with fail
    go_ret
    exact ⟨ret_int (by rw [HR.out]; simp [atmB, opB, cntO, cntS, cntL, hm]), below_up B0.out B.out⟩
  subst hm
  by_cases hop : op = 0
  rotate_left
  · have hop' : (op != 0) = true := by simpa using hop
    go_enter Try.func102, Try.ntmps102
    go_wp2_with fail
    rw [HW.out]
    refine HF.out.mono ?_
    rintro e1 w1 ⟨rfl, hw⟩
    subst w1
    have B := hid (Below.refl W.heap.size W)
    go_wp2_with fail
    go_ret
    exact ⟨ret_int (by rw [HR.out]; simp [atmB, opB, cntO, cntS, cntL, hop]), below_up B0.out B.out⟩
  subst hop
  go_enter Try.func102, Try.ntmps102
  go_wp2_with fail
  rw [HW.out]
  refine HF.out.mono ?_
  rintro e1 w1 ⟨rfl, hw⟩
  subst w1
  have B := hid (Below.refl W.heap.size W)
  go_wp2_with fail
  refine (HNo.out _).mono ?_
  rintro e2 w2 ⟨rfl, hb⟩
  replace B := hid (below_up B.out hb)
  clear hb HNo
  clear q0 q1 q2 q3 q4 q5 q6 q7 q8
  obtain ⟨q0, q1, q2, q3, q4, q5, q6, q7, q8⟩ := T.out _ B.out
  cases nu
  · go_wp2_with fail
    go_ret
    exact ⟨ret_int (by rw [HR.out]; simp [atmB, cntO, cntS]), below_up B0.out B.out⟩
  cases fb
  · go_wp2_with fail
    go_ret
    exact ⟨ret_int (by rw [HR.out]; simp [atmB, opB, cntO, cntS, cntL]), below_up B0.out B.out⟩
  by_cases hn : 1024 < pl.length
  · have hn' : (1024 : Int) < (pl.length : Int) := by omega
    go_wp2_with fail
    go_ret
    exact ⟨ret_int (by rw [HR.out]; simp [atmB, cntO, cntS, cntL, hn]), below_up B0.out B.out⟩
  have hn' : ¬ (1024 : Int) < (pl.length : Int) := by omega
  go_wp2_with fail
  clear q0 q1 q2 q3 q4 q5 q6 q7 q8
  have HY : Hid (pl.all (okT ft) = true → R = 0) := fun h => by rw [HR.out]; simp [atmB, cntO, cntS, cntL, hn]; simpa using h
  have HN : Hid (pl.all (okT ft) = false → R = 50) := fun h => by
    rw [HR.out]
    rw [List.all_eq_false] at h
    simp [atmB, cntO, cntS, cntL, hn]
    simpa using h
  go_loopw [9] (fun ix wr => ∃ i : Nat, i ≤ pl.length ∧ ix = .int .i64 i ∧ Hid (∀ j x, j < i → pl[j]? = some x → okT ft x = true) ∧ Hid (Below W.heap.size W wr)) (fun ix _ => pl.length - (intOf ix).toNat)
  case atStart => exact ⟨0, Nat.zero_le _, rfl, fun j u hj => by omega, B⟩
  case round =>
    obtain ⟨i, hi, rfl, HE, HBl⟩ := hrel
    rename World => wr
    obtain ⟨q0, q1, q2, q3, q4, q5, q6, q7, q8⟩ := T.out _ HBl.out
    by_cases hlt : i < pl.length
    · have hii : (i : Int) < (pl.length : Int) := by omega
      obtain ⟨g, o, rfl, hg, k0, k1, k2, k3⟩ := (HL.out.later HBl.out).cell4 hlt
      have HLI := hid (List.getElem?_eq_getElem hlt)
      have HVi := hid (HO.out pl[i] (List.getElem_mem hlt))
      generalize pl[i] = x at *
      have HCx := hid fun w => refMay18 x w HVi.out
      have HOK : Hid (okT ft x = (!decide (x.K = 0) && decide (x.K = ft) && mayV x)) := rfl
      have HBad : Hid (okT ft x = false → R = 50) := fun h => HN.out (by rw [List.all_eq_false]; exact ⟨x, List.mem_of_getElem? HLI.out, by simp [h]⟩)
      have HGo : Hid (okT ft x = true → ∀ j u, j < i + 1 → pl[j]? = some u → okT ft u = true) := fun hh j u hj hu => by
        by_cases e : j = i
        · subst e
          rw [HLI.out] at hu
          cases hu
          exact hh
        · exact HE.out j u (by omega) hu
      have TL : Hid (∀ W2, Below wr.heap.size wr W2 → W2.cell? ⟨g, o + i * 4, none⟩ = some (.int .i64 x.K) ∧ W2.cell? ⟨g, o + i * 4 + 1, none⟩ = some (.int .i64 x.I) ∧ W2.cell? ⟨g, o + i * 4 + 2, none⟩ = some (.float .f64 x.b) ∧ W2.cell? ⟨g, o + i * 4 + 3, none⟩ = some (.string x.s)) := fun W2 h => ⟨(h.cell (by exact hg)).trans k0, (h.cell (by exact hg)).trans k1, (h.cell (by exact hg)).trans k2, (h.cell (by exact hg)).trans k3⟩
      generalize okT ft x = okx at *
      generalize mayV x = mx at *
      obtain ⟨xK, xI, xb, xs⟩ := x
      unfold vv at HCx
      dsimp only at *
      clear hg HLI HVi HE
      go_wp2_with fail
      refine (HCx.out _).mono ?_
      rintro e2 w3 ⟨rfl, hb⟩
      have B3 := hid (below_up HBl.out hb)
      clear k0 k1 k2 k3 q0 q1 q2 q3 q4 q5 q6 q7 q8
      obtain ⟨k0, k1, k2, k3⟩ := TL.out _ hb
      obtain ⟨q0, q1, q2, q3, q4, q5, q6, q7, q8⟩ := T.out _ B3.out
      clear hb HCx HBl
      cases mx
      · go_wp2_with fail
        go_ret
        exact ⟨ret_int (HBad.out (by rw [HOK.out]; simp)).symm, below_up B0.out B3.out⟩
      by_cases hv : xK = ft
      rotate_left
      · have hv' : (xK != ft) = true := by simpa using hv
        go_wp2_with fail
        go_ret
        exact ⟨ret_int (HBad.out (by rw [HOK.out]; simp [hv])).symm, below_up B0.out B3.out⟩
      subst hv
      by_cases hz : xK = 0
      · subst hz
        go_wp2_with fail
        go_ret
        exact ⟨ret_int (HBad.out (by rw [HOK.out]; simp)).symm, below_up B0.out B3.out⟩
      have hz' : (xK == 0) = false := by simpa using hz
      go_wp2_with fail
      exact ⟨⟨i + 1, by omega, by go_num, hid (HGo.out (by rw [HOK.out]; simp [hz])), B3⟩, by simp [intOf]; omega⟩
    · obtain rfl : i = pl.length := by omega
      have HF2 := hid (HY.out (List.all_eq_true.2 fun x hx => by
        obtain ⟨j, hj, rfl⟩ := List.mem_iff_getElem.1 hx
        exact HE.out j _ hj (List.getElem?_eq_getElem hj)))
      go_wp2_with fail
      go_ret
      exact ⟨ret_int HF2.out.symm, below_up B0.out HBl.out⟩
end Go.Proofs.Ythgnibphhiaecaa

/-
  Bounds. (Written by mkbnd.py.)
-/
namespace Go.Proofs.Ythgnibphhiaecaa
open Go.ChangeShapes Go.WideShapes Go.ChangeAt Go.RowKit Cu Vl
attribute [local go_sem] run_store_float

set_option maxRecDepth 8000 in
set_option maxHeartbeats 8000000 in
theorem rcheck_3 (ac : Option Addr) (l : List Col) (dc : Nat) (p : Pr) (a : Option Addr) (d : Nat) (b : Option Addr) (e : Nat) (w : World) (hL : Lst cc 3 w ac l) (hl : l.length ≤ 140737488355328) (hp : POk w p a) (hk : p.K = 3) :
    Calls Try.prog 102 #[.slice ac l.length dc, pv p a d b e] w fun r w' => r = .returned (.int .i64 (chkP l p)) ∧ Below w.heap.size w w' := by
  have B0 := hid (below_new w (.cells (pa p a d b e) 30))
  have HX := hid (Bx.new w (pa p a d b e) 30)
  obtain ⟨W, hW⟩ : ∃ W, w.alloc (.cells (pa p a d b e) 30) = W := ⟨_, rfl⟩
  have HW := hid hW
  rw [hW] at HX B0
  have HF := hid (column18 ac l dc p.c W (hL.later B0.out) hl)
  have T := hid fun (W2 : World) (h : Below W.heap.size W W2) => (HX.out.later h).prd
  have HNo := hid fun w => none18 p.v w hp.v
  have HMa := hid fun w => refMay18 p.v w hp.v
  have HRS : Hid (rstB p = ((cntO p.K || decide (p.op = 0)) && (cntS p.K || nulB p.v) && (cntL p.K || decide (p.l.length = 0)) && decide (p.m = 0))) := rfl
  have HVL : Hid (valsP p = if cntS p.K = true then [p.v] else if cntL p.K = true then p.l else []) := rfl
  have HOT : Hid (∀ k, okT k p.v = (!decide (p.v.K = 0) && decide (p.v.K = k) && mayV p.v)) := fun _ => rfl
  have HR : Hid (chkP l p = if (!atmB p.K || (decide (p.K = 1) && !opB p.op)) = true then 180
    else if (decide (p.K = 5) && findB l p.c && decide (findT l p.c ≠ 2)) = true then 180
    else if (!rstB p || (decide (p.K = 3) && decide (p.l.length ≠ 2))) = true then 2
    else if findB l p.c = false then 151
    else if (decide (p.K = 2) && decide (1024 < p.l.length)) = true then 3
    else if (valsP p).all (okT (findT l p.c)) = true then 0 else 50) := rfl
  generalize chkP l p = R at *
  generalize rstB p = rs at *
  generalize nulB p.v = nu at *
  generalize mayV p.v = mv at *
  generalize findB l p.c = fb at *
  generalize findT l p.c = ft at *
  obtain ⟨K, c, op, v, pl, m⟩ := p
  have hpn := hp.n
  have hpm := hp.m
  have HL := hid (hp.L.later B0.out)
  have HO := hid hp.l
  dsimp only at *
  clear hp hL hW HX
  obtain ⟨vK, vI, vb, vs⟩ := v
  unfold pv at *
  unfold pa at *
  unfold vv at *
  dsimp only at *
  obtain ⟨q0, q1, q2, q3, q4, q5, q6, q7, q8⟩ := T.out W (Below.refl _ _)
  subst hk
  rw [HRS.out, HVL.out] at HR
  clear HRS HVL
  by_cases hm : m = 0
  rotate_left
  · have hm' : (0 : Int) < (m : Int) := by omega
    go_enter Try.func102, Try.ntmps102
    go_wp2_with fail
    rw [HW.out]
    refine HF.out.mono ?_
    rintro e1 w1 ⟨rfl, hw⟩
    subst w1
    have B := hid (Below.refl W.heap.size W)
    go_wp2_with fail
    go_ret
    exact ⟨ret_int (by rw [HR.out]; simp [atmB, opB, cntO, cntS, cntL, hm]), below_up B0.out B.out⟩
  subst hm
  by_cases hop : op = 0
  rotate_left
  · have hop' : (op != 0) = true := by simpa using hop
    go_enter Try.func102, Try.ntmps102
    go_wp2_with fail
    rw [HW.out]
    refine HF.out.mono ?_
    rintro e1 w1 ⟨rfl, hw⟩
    subst w1
    have B := hid (Below.refl W.heap.size W)
    go_wp2_with fail
    go_ret
    exact ⟨ret_int (by rw [HR.out]; simp [atmB, opB, cntO, cntS, cntL, hop]), below_up B0.out B.out⟩
  subst hop
  go_enter Try.func102, Try.ntmps102
  go_wp2_with fail
  rw [HW.out]
  refine HF.out.mono ?_
  rintro e1 w1 ⟨rfl, hw⟩
  subst w1
  have B := hid (Below.refl W.heap.size W)
  go_wp2_with fail
  refine (HNo.out _).mono ?_
  rintro e2 w2 ⟨rfl, hb⟩
  replace B := hid (below_up B.out hb)
  clear hb HNo
  clear q0 q1 q2 q3 q4 q5 q6 q7 q8
  obtain ⟨q0, q1, q2, q3, q4, q5, q6, q7, q8⟩ := T.out _ B.out
  cases nu
  · go_wp2_with fail
    go_ret
    exact ⟨ret_int (by rw [HR.out]; simp [atmB, cntO, cntS]), below_up B0.out B.out⟩
  by_cases hn : pl.length = 2
  rotate_left
  · have hn' : ((pl.length : Int) != 2) = true := by simp; omega
    go_wp2_with fail
    go_ret
    exact ⟨ret_int (by rw [HR.out]; simp [atmB, cntO, cntS, cntL, hn]), below_up B0.out B.out⟩
  have hn' : ((pl.length : Int) != 2) = false := by simp; omega
  have hn2 : ¬ (1024 : Int) < (pl.length : Int) := by omega
  cases fb
  · go_wp2_with fail
    go_ret
    exact ⟨ret_int (by rw [HR.out]; simp [atmB, opB, cntO, cntS, cntL, hn]), below_up B0.out B.out⟩
  go_wp2_with fail
  clear q0 q1 q2 q3 q4 q5 q6 q7 q8
  have HY : Hid (pl.all (okT ft) = true → R = 0) := fun h => by rw [HR.out]; simp [atmB, cntO, cntS, cntL, hn]; simpa using h
  have HN : Hid (pl.all (okT ft) = false → R = 50) := fun h => by
    rw [HR.out]
    rw [List.all_eq_false] at h
    simp [atmB, cntO, cntS, cntL, hn]
    simpa using h
  go_loopw [9] (fun ix wr => ∃ i : Nat, i ≤ pl.length ∧ ix = .int .i64 i ∧ Hid (∀ j x, j < i → pl[j]? = some x → okT ft x = true) ∧ Hid (Below W.heap.size W wr)) (fun ix _ => pl.length - (intOf ix).toNat)
  case atStart => exact ⟨0, Nat.zero_le _, rfl, fun j u hj => by omega, B⟩
  case round =>
    obtain ⟨i, hi, rfl, HE, HBl⟩ := hrel
    rename World => wr
    obtain ⟨q0, q1, q2, q3, q4, q5, q6, q7, q8⟩ := T.out _ HBl.out
    by_cases hlt : i < pl.length
    · have hii : (i : Int) < (pl.length : Int) := by omega
      obtain ⟨g, o, rfl, hg, k0, k1, k2, k3⟩ := (HL.out.later HBl.out).cell4 hlt
      have HLI := hid (List.getElem?_eq_getElem hlt)
      have HVi := hid (HO.out pl[i] (List.getElem_mem hlt))
      generalize pl[i] = x at *
      have HCx := hid fun w => refMay18 x w HVi.out
      have HOK : Hid (okT ft x = (!decide (x.K = 0) && decide (x.K = ft) && mayV x)) := rfl
      have HBad : Hid (okT ft x = false → R = 50) := fun h => HN.out (by rw [List.all_eq_false]; exact ⟨x, List.mem_of_getElem? HLI.out, by simp [h]⟩)
      have HGo : Hid (okT ft x = true → ∀ j u, j < i + 1 → pl[j]? = some u → okT ft u = true) := fun hh j u hj hu => by
        by_cases e : j = i
        · subst e
          rw [HLI.out] at hu
          cases hu
          exact hh
        · exact HE.out j u (by omega) hu
      have TL : Hid (∀ W2, Below wr.heap.size wr W2 → W2.cell? ⟨g, o + i * 4, none⟩ = some (.int .i64 x.K) ∧ W2.cell? ⟨g, o + i * 4 + 1, none⟩ = some (.int .i64 x.I) ∧ W2.cell? ⟨g, o + i * 4 + 2, none⟩ = some (.float .f64 x.b) ∧ W2.cell? ⟨g, o + i * 4 + 3, none⟩ = some (.string x.s)) := fun W2 h => ⟨(h.cell (by exact hg)).trans k0, (h.cell (by exact hg)).trans k1, (h.cell (by exact hg)).trans k2, (h.cell (by exact hg)).trans k3⟩
      generalize okT ft x = okx at *
      generalize mayV x = mx at *
      obtain ⟨xK, xI, xb, xs⟩ := x
      unfold vv at HCx
      dsimp only at *
      clear hg HLI HVi HE
      go_wp2_with fail
      refine (HCx.out _).mono ?_
      rintro e2 w3 ⟨rfl, hb⟩
      have B3 := hid (below_up HBl.out hb)
      clear k0 k1 k2 k3 q0 q1 q2 q3 q4 q5 q6 q7 q8
      obtain ⟨k0, k1, k2, k3⟩ := TL.out _ hb
      obtain ⟨q0, q1, q2, q3, q4, q5, q6, q7, q8⟩ := T.out _ B3.out
      clear hb HCx HBl
      cases mx
      · go_wp2_with fail
        go_ret
        exact ⟨ret_int (HBad.out (by rw [HOK.out]; simp)).symm, below_up B0.out B3.out⟩
      by_cases hv : xK = ft
      rotate_left
      · have hv' : (xK != ft) = true := by simpa using hv
        go_wp2_with fail
        go_ret
        exact ⟨ret_int (HBad.out (by rw [HOK.out]; simp [hv])).symm, below_up B0.out B3.out⟩
      subst hv
      by_cases hz : xK = 0
      · subst hz
        go_wp2_with fail
        go_ret
        exact ⟨ret_int (HBad.out (by rw [HOK.out]; simp)).symm, below_up B0.out B3.out⟩
      have hz' : (xK == 0) = false := by simpa using hz
      go_wp2_with fail
      exact ⟨⟨i + 1, by omega, by go_num, hid (HGo.out (by rw [HOK.out]; simp [hz])), B3⟩, by simp [intOf]; omega⟩
    · obtain rfl : i = pl.length := by omega
      have HF2 := hid (HY.out (List.all_eq_true.2 fun x hx => by
        obtain ⟨j, hj, rfl⟩ := List.mem_iff_getElem.1 hx
        exact HE.out j _ hj (List.getElem?_eq_getElem hj)))
      go_wp2_with fail
      go_ret
      exact ⟨ret_int HF2.out.symm, below_up B0.out HBl.out⟩
end Go.Proofs.Ythgnibphhiaecaa

/-
  Bounds. (Written by mkbnd.py.)
-/
namespace Go.Proofs.Ythgnibphhiaecaa
open Go.ChangeShapes Go.WideShapes Go.ChangeAt Go.RowKit Cu Vl
attribute [local go_sem] run_store_float

set_option maxRecDepth 8000 in
set_option maxHeartbeats 8000000 in
theorem rcheck_4 (ac : Option Addr) (l : List Col) (dc : Nat) (p : Pr) (a : Option Addr) (d : Nat) (b : Option Addr) (e : Nat) (w : World) (hL : Lst cc 3 w ac l) (hl : l.length ≤ 140737488355328) (hp : POk w p a) (hk : p.K = 4) :
    Calls Try.prog 102 #[.slice ac l.length dc, pv p a d b e] w fun r w' => r = .returned (.int .i64 (chkP l p)) ∧ Below w.heap.size w w' := by
  have B0 := hid (below_new w (.cells (pa p a d b e) 30))
  have HX := hid (Bx.new w (pa p a d b e) 30)
  obtain ⟨W, hW⟩ : ∃ W, w.alloc (.cells (pa p a d b e) 30) = W := ⟨_, rfl⟩
  have HW := hid hW
  rw [hW] at HX B0
  have HF := hid (column18 ac l dc p.c W (hL.later B0.out) hl)
  have T := hid fun (W2 : World) (h : Below W.heap.size W W2) => (HX.out.later h).prd
  have HNo := hid fun w => none18 p.v w hp.v
  have HMa := hid fun w => refMay18 p.v w hp.v
  have HRS : Hid (rstB p = ((cntO p.K || decide (p.op = 0)) && (cntS p.K || nulB p.v) && (cntL p.K || decide (p.l.length = 0)) && decide (p.m = 0))) := rfl
  have HVL : Hid (valsP p = if cntS p.K = true then [p.v] else if cntL p.K = true then p.l else []) := rfl
  have HOT : Hid (∀ k, okT k p.v = (!decide (p.v.K = 0) && decide (p.v.K = k) && mayV p.v)) := fun _ => rfl
  have HR : Hid (chkP l p = if (!atmB p.K || (decide (p.K = 1) && !opB p.op)) = true then 180
    else if (decide (p.K = 5) && findB l p.c && decide (findT l p.c ≠ 2)) = true then 180
    else if (!rstB p || (decide (p.K = 3) && decide (p.l.length ≠ 2))) = true then 2
    else if findB l p.c = false then 151
    else if (decide (p.K = 2) && decide (1024 < p.l.length)) = true then 3
    else if (valsP p).all (okT (findT l p.c)) = true then 0 else 50) := rfl
  generalize chkP l p = R at *
  generalize rstB p = rs at *
  generalize nulB p.v = nu at *
  generalize mayV p.v = mv at *
  generalize findB l p.c = fb at *
  generalize findT l p.c = ft at *
  obtain ⟨K, c, op, v, pl, m⟩ := p
  have hpn := hp.n
  have hpm := hp.m
  have HL := hid (hp.L.later B0.out)
  have HO := hid hp.l
  dsimp only at *
  clear hp hL hW HX
  obtain ⟨vK, vI, vb, vs⟩ := v
  unfold pv at *
  unfold pa at *
  unfold vv at *
  dsimp only at *
  obtain ⟨q0, q1, q2, q3, q4, q5, q6, q7, q8⟩ := T.out W (Below.refl _ _)
  subst hk
  rw [HRS.out, HVL.out] at HR
  clear HRS HVL
  by_cases hm : m = 0
  rotate_left
  · have hm' : (0 : Int) < (m : Int) := by omega
    go_enter Try.func102, Try.ntmps102
    go_wp2_with fail
    rw [HW.out]
    refine HF.out.mono ?_
    rintro e1 w1 ⟨rfl, hw⟩
    subst w1
    have B := hid (Below.refl W.heap.size W)
    go_wp2_with fail
    go_ret
    exact ⟨ret_int (by rw [HR.out]; simp [atmB, opB, cntO, cntS, cntL, hm]), below_up B0.out B.out⟩
  subst hm
  by_cases hop : op = 0
  rotate_left
  · have hop' : (op != 0) = true := by simpa using hop
    go_enter Try.func102, Try.ntmps102
    go_wp2_with fail
    rw [HW.out]
    refine HF.out.mono ?_
    rintro e1 w1 ⟨rfl, hw⟩
    subst w1
    have B := hid (Below.refl W.heap.size W)
    go_wp2_with fail
    go_ret
    exact ⟨ret_int (by rw [HR.out]; simp [atmB, opB, cntO, cntS, cntL, hop]), below_up B0.out B.out⟩
  subst hop
  go_enter Try.func102, Try.ntmps102
  go_wp2_with fail
  rw [HW.out]
  refine HF.out.mono ?_
  rintro e1 w1 ⟨rfl, hw⟩
  subst w1
  have B := hid (Below.refl W.heap.size W)
  go_wp2_with fail
  refine (HNo.out _).mono ?_
  rintro e2 w2 ⟨rfl, hb⟩
  replace B := hid (below_up B.out hb)
  clear hb HNo
  clear q0 q1 q2 q3 q4 q5 q6 q7 q8
  obtain ⟨q0, q1, q2, q3, q4, q5, q6, q7, q8⟩ := T.out _ B.out
  cases nu
  · go_wp2_with fail
    go_ret
    exact ⟨ret_int (by rw [HR.out]; simp [atmB, cntO, cntS]), below_up B0.out B.out⟩
  by_cases hn : pl.length = 0
  rotate_left
  · have hn' : (0 : Int) < (pl.length : Int) := by omega
    go_wp2_with fail
    go_ret
    exact ⟨ret_int (by rw [HR.out]; simp [atmB, opB, cntO, cntS, cntL, hn]), below_up B0.out B.out⟩
  obtain rfl : pl = [] := List.length_eq_zero_iff.1 hn
  clear hn
  simp only [List.length_nil] at q7 HW ⊢
  cases fb
  · go_wp2_with fail
    go_ret
    exact ⟨ret_int (by rw [HR.out]; simp [atmB, opB, cntO, cntS, cntL]), below_up B0.out B.out⟩
  go_wp2_with fail
  clear q0 q1 q2 q3 q4 q5 q6 q7 q8
  go_loopw [9] (fun ix wr => ix = .int .i64 0 ∧ Hid (Below W.heap.size W wr)) (fun ix _ => 0)
  case atStart => exact ⟨rfl, B⟩
  case round =>
    obtain ⟨rfl, HBl⟩ := hrel
    obtain ⟨q0, q1, q2, q3, q4, q5, q6, q7, q8⟩ := T.out _ HBl.out
    simp only [List.length_nil] at q7
    go_wp2_with fail
    go_ret
    exact ⟨ret_int (by rw [HR.out]; simp [atmB, cntO, cntS, cntL]), below_up B0.out HBl.out⟩
end Go.Proofs.Ythgnibphhiaecaa

/-
  Bounds. (Written by mkbnd.py.)
-/
namespace Go.Proofs.Ythgnibphhiaecaa
open Go.ChangeShapes Go.WideShapes Go.ChangeAt Go.RowKit Cu Vl
attribute [local go_sem] run_store_float

set_option maxRecDepth 8000 in
set_option maxHeartbeats 8000000 in
theorem rcheck_5 (ac : Option Addr) (l : List Col) (dc : Nat) (p : Pr) (a : Option Addr) (d : Nat) (b : Option Addr) (e : Nat) (w : World) (hL : Lst cc 3 w ac l) (hl : l.length ≤ 140737488355328) (hp : POk w p a) (hk : p.K = 5) :
    Calls Try.prog 102 #[.slice ac l.length dc, pv p a d b e] w fun r w' => r = .returned (.int .i64 (chkP l p)) ∧ Below w.heap.size w w' := by
  have B0 := hid (below_new w (.cells (pa p a d b e) 30))
  have HX := hid (Bx.new w (pa p a d b e) 30)
  obtain ⟨W, hW⟩ : ∃ W, w.alloc (.cells (pa p a d b e) 30) = W := ⟨_, rfl⟩
  have HW := hid hW
  rw [hW] at HX B0
  have HF := hid (column18 ac l dc p.c W (hL.later B0.out) hl)
  have T := hid fun (W2 : World) (h : Below W.heap.size W W2) => (HX.out.later h).prd
  have HNo := hid fun w => none18 p.v w hp.v
  have HMa := hid fun w => refMay18 p.v w hp.v
  have HRS : Hid (rstB p = ((cntO p.K || decide (p.op = 0)) && (cntS p.K || nulB p.v) && (cntL p.K || decide (p.l.length = 0)) && decide (p.m = 0))) := rfl
  have HVL : Hid (valsP p = if cntS p.K = true then [p.v] else if cntL p.K = true then p.l else []) := rfl
  have HOT : Hid (∀ k, okT k p.v = (!decide (p.v.K = 0) && decide (p.v.K = k) && mayV p.v)) := fun _ => rfl
  have HR : Hid (chkP l p = if (!atmB p.K || (decide (p.K = 1) && !opB p.op)) = true then 180
    else if (decide (p.K = 5) && findB l p.c && decide (findT l p.c ≠ 2)) = true then 180
    else if (!rstB p || (decide (p.K = 3) && decide (p.l.length ≠ 2))) = true then 2
    else if findB l p.c = false then 151
    else if (decide (p.K = 2) && decide (1024 < p.l.length)) = true then 3
    else if (valsP p).all (okT (findT l p.c)) = true then 0 else 50) := rfl
  generalize chkP l p = R at *
  generalize rstB p = rs at *
  generalize nulB p.v = nu at *
  generalize mayV p.v = mv at *
  generalize findB l p.c = fb at *
  generalize findT l p.c = ft at *
  obtain ⟨K, c, op, v, pl, m⟩ := p
  have hpn := hp.n
  have hpm := hp.m
  have HL := hid (hp.L.later B0.out)
  have HO := hid hp.l
  dsimp only at *
  clear hp hL hW HX
  obtain ⟨vK, vI, vb, vs⟩ := v
  unfold pv at *
  unfold pa at *
  unfold vv at *
  dsimp only at *
  obtain ⟨q0, q1, q2, q3, q4, q5, q6, q7, q8⟩ := T.out W (Below.refl _ _)
  subst hk
  rw [HRS.out, HVL.out] at HR
  clear HRS HVL
  by_cases hq : fb = true ∧ ft ≠ 2
  · obtain ⟨rfl, ht⟩ := hq
    have ht' : (ft != 2) = true := by simpa using ht
    go_enter Try.func102, Try.ntmps102
    go_wp2_with fail
    rw [HW.out]
    refine HF.out.mono ?_
    rintro e1 w1 ⟨rfl, hw⟩
    subst w1
    have B := hid (Below.refl W.heap.size W)
    go_wp2_with fail
    go_ret
    exact ⟨ret_int (by rw [HR.out]; simp [atmB, ht]), below_up B0.out B.out⟩
  have hq' : (fb = true ∧ ft = 2) ∨ fb = false := by
    cases fb
    · exact .inr rfl
    · exact .inl ⟨rfl, by by_cases h : ft = 2; exact h; exact absurd ⟨rfl, h⟩ hq⟩
  clear hq
  by_cases hm : m = 0
  rotate_left
  · have hm' : (0 : Int) < (m : Int) := by omega
    rcases hq' with ⟨rfl, rfl⟩ | rfl
    all_goals
      go_enter Try.func102, Try.ntmps102
      go_wp2_with fail
      rw [HW.out]
      refine HF.out.mono ?_
      rintro e1 w1 ⟨rfl, hw⟩
      subst w1
      have B := hid (Below.refl W.heap.size W)
      go_wp2_with fail
      go_ret
      exact ⟨ret_int (by rw [HR.out]; simp [atmB, opB, cntO, cntS, cntL, hm]), below_up B0.out B.out⟩
  subst hm
  by_cases hop : op = 0
  rotate_left
  · have hop' : (op != 0) = true := by simpa using hop
    rcases hq' with ⟨rfl, rfl⟩ | rfl
    all_goals
      go_enter Try.func102, Try.ntmps102
      go_wp2_with fail
      rw [HW.out]
      refine HF.out.mono ?_
      rintro e1 w1 ⟨rfl, hw⟩
      subst w1
      have B := hid (Below.refl W.heap.size W)
      go_wp2_with fail
      go_ret
      exact ⟨ret_int (by rw [HR.out]; simp [atmB, opB, cntO, cntS, cntL, hop]), below_up B0.out B.out⟩
  subst hop
  rcases hq' with ⟨rfl, rfl⟩ | rfl
  rotate_left
  ·
    by_cases hn : pl.length = 0
    rotate_left
    · have hn' : (0 : Int) < (pl.length : Int) := by omega
      go_enter Try.func102, Try.ntmps102
      go_wp2_with fail
      rw [HW.out]
      refine HF.out.mono ?_
      rintro e1 w1 ⟨rfl, hw⟩
      subst w1
      have B := hid (Below.refl W.heap.size W)
      go_wp2_with fail
      go_ret
      exact ⟨ret_int (by rw [HR.out]; simp [atmB, cntO, cntS, cntL, hn]), below_up B0.out B.out⟩
    obtain rfl : pl = [] := List.length_eq_zero_iff.1 hn
    clear hn
    simp only [List.length_nil] at q7 HW ⊢
    go_enter Try.func102, Try.ntmps102
    go_wp2_with fail
    rw [HW.out]
    refine HF.out.mono ?_
    rintro e1 w1 ⟨rfl, hw⟩
    subst w1
    have B := hid (Below.refl W.heap.size W)
    go_wp2_with fail
    go_ret
    exact ⟨ret_int (by rw [HR.out]; simp [atmB, cntO, cntS, cntL]), below_up B0.out B.out⟩
  by_cases hn : pl.length = 0
  rotate_left
  · have hn' : (0 : Int) < (pl.length : Int) := by omega
    go_enter Try.func102, Try.ntmps102
    go_wp2_with fail
    rw [HW.out]
    refine HF.out.mono ?_
    rintro e1 w1 ⟨rfl, hw⟩
    subst w1
    have B := hid (Below.refl W.heap.size W)
    go_wp2_with fail
    go_ret
    exact ⟨ret_int (by rw [HR.out]; simp [atmB, opB, cntO, cntS, cntL, hn]), below_up B0.out B.out⟩
  obtain rfl : pl = [] := List.length_eq_zero_iff.1 hn
  clear hn
  simp only [List.length_nil] at q7 HW ⊢
  go_enter Try.func102, Try.ntmps102
  go_wp2_with fail
  rw [HW.out]
  refine HF.out.mono ?_
  rintro e1 w1 ⟨rfl, hw⟩
  subst w1
  have B := hid (Below.refl W.heap.size W)
  go_wp2_with fail
  refine (HMa.out _).mono ?_
  rintro e2 w2 ⟨rfl, hb⟩
  replace B := hid (below_up B.out hb)
  clear hb HMa
  clear q0 q1 q2 q3 q4 q5 q6 q7 q8
  obtain ⟨q0, q1, q2, q3, q4, q5, q6, q7, q8⟩ := T.out _ B.out
  cases mv
  · go_wp2_with fail
    go_ret
    exact ⟨ret_int (by rw [HR.out]; simp [atmB, opB, cntO, cntS, cntL, HOT.out]), below_up B0.out B.out⟩
  by_cases hv : vK = 2
  rotate_left
  · have hv' : (vK != 2) = true := by simpa using hv
    go_wp2_with fail
    go_ret
    exact ⟨ret_int (by rw [HR.out]; simp [atmB, opB, cntO, cntS, cntL, HOT.out, hv]), below_up B0.out B.out⟩
  subst hv
  go_wp2_with fail
  clear q0 q1 q2 q3 q4 q5 q6 q7 q8
  go_loopw [9] (fun ix wr => ix = .int .i64 0 ∧ Hid (Below W.heap.size W wr)) (fun ix _ => 0)
  case atStart => exact ⟨rfl, B⟩
  case round =>
    obtain ⟨rfl, HBl⟩ := hrel
    obtain ⟨q0, q1, q2, q3, q4, q5, q6, q7, q8⟩ := T.out _ HBl.out
    simp only [List.length_nil] at q7
    go_wp2_with fail
    go_ret
    exact ⟨ret_int (by rw [HR.out]; simp [atmB, opB, cntO, cntS, cntL, HOT.out]), below_up B0.out HBl.out⟩
end Go.Proofs.Ythgnibphhiaecaa

/-
  Bounds. (Written by mkbnd.py.)
-/
namespace Go.Proofs.Ythgnibphhiaecaa
open Go.ChangeShapes Go.WideShapes Go.ChangeAt Go.RowKit Cu Vl
attribute [local go_sem] run_store_float

theorem check18 (ac : Option Addr) (l : List Col) (dc : Nat) (p : Pr) (a : Option Addr) (d : Nat) (b : Option Addr) (e : Nat) (w : World) (hL : Lst cc 3 w ac l) (hl : l.length ≤ 140737488355328) (hp : POk w p a) :
    Calls Try.prog 102 #[.slice ac l.length dc, pv p a d b e] w fun r w' => r = .returned (.int .i64 (chkP l p)) ∧ Below w.heap.size w w' := by
  have : (p.K < 1 ∨ 5 < p.K) ∨ p.K = 1 ∨ p.K = 2 ∨ p.K = 3 ∨ p.K = 4 ∨ p.K = 5 := by omega
  rcases this with h | h | h | h | h | h
  · exact rcheck_0 ac l dc p a d b e w hL hl hp h
  · exact rcheck_1 ac l dc p a d b e w hL hl hp h
  · exact rcheck_2 ac l dc p a d b e w hL hl hp h
  · exact rcheck_3 ac l dc p a d b e w hL hl hp h
  · exact rcheck_4 ac l dc p a d b e w hL hl hp h
  · exact rcheck_5 ac l dc p a d b e w hL hl hp h
end Go.Proofs.Ythgnibphhiaecaa
