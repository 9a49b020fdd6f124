/-
  Bounds. (Written by mkbnd.py.)
-/
import Derived.Test.YthlfdmigmgpgfaaABeg
import Derived.Test.YthlfdmigmgpgfaaATru
namespace Go.Proofs.Ythlfdmigmgpgfaa
open Go.ChangeShapes Go.WideShapes Go.ChangeAt Go.RowKit Cu Vl
attribute [local go_sem] run_store_float

open Tr
def colK (K : Int) : Col := ⟨sC, K, true⟩
def inP (l : List V) : Pr := ⟨2, sC, 0, v0, l, 0⟩
def btwP (c d : V) : Pr := ⟨3, sC, 0, v0, [c, d], 0⟩
def nulC : Pr := ⟨4, sC, 0, v0, [], 0⟩
structure KOk (v c d : V) (l : List V) : Prop where
  hc : c.K = 1 ∨ c.K = 2
  mc : mayV c = true
  md : mayV d = true
  ml : ∀ x ∈ l, x.K = c.K ∧ mayV x = true
  dk : d.K = c.K
  mv : mayV v = true
  vk : v.K = 0 ∨ v.K = c.K
theorem find_colK (K : Int) : findB [colK K] sC = true ∧ findT [colK K] sC = K := by
  constructor
  · simp [findB, findN, colK]
  · simp [findT, colK]
theorem chk_vals {l : List Col} {p : Pr} (h : chkP l p = 0) : (valsP p).all (okT (findT l p.c)) = true := by
  unfold chkP at h
  split at h
  · omega
  split at h
  · omega
  split at h
  · omega
  split at h
  · omega
  split at h
  · omega
  split at h
  · assumption
  · omega
theorem kok_of {v c d : V} {l : List V} (hc : c.K = 1 ∨ c.K = 2) (hf : fitsB c.K true v.K (mayV v) = true) (h1 : chkP [colK c.K] (inP l) = 0) (h2 : chkP [colK c.K] (btwP c d) = 0) : KOk v c d l := by
  have e1 := chk_vals h1
  have e2 := chk_vals h2
  rw [show (inP l).c = sC from rfl, (find_colK c.K).2] at e1
  rw [show (btwP c d).c = sC from rfl, (find_colK c.K).2] at e2
  have e1' : l.all (okT c.K) = true := e1
  have e2' : [c, d].all (okT c.K) = true := e2
  simp [okT] at e1' e2'
  unfold fitsB at hf
  simp at hf
  refine ⟨hc, e2'.1.2, e2'.2.2, fun x hx => ⟨(e1' x hx).1.2, (e1' x hx).2⟩, e2'.2.1.2, hf.1, ?_⟩
  rcases hf.2 with h | h
  · exact .inr h
  · exact .inl h
theorem kok_chk {c : V} {op : Int} (hc : c.K = 1 ∨ c.K = 2) (mc : mayV c = true) (h1 : 1 ≤ op) (h2 : op ≤ 6) : chkP [colK c.K] (cmpP op c) = 0 := by
  unfold chkP
  rw [if_neg, if_neg, if_neg, if_neg, if_neg, if_pos]
  · show [c].all (okT (findT [colK c.K] sC)) = true
    rw [(find_colK c.K).2]
    simp [okT, mc]
    omega
  · show ¬ (decide ((1 : Int) = 2) && _) = true
    simp
  · show ¬ findB [colK c.K] sC = false
    rw [(find_colK c.K).1]; simp
  · show ¬ (!rstB (cmpP op c) || (decide ((1 : Int) = 3) && _)) = true
    have : rstB (cmpP op c) = true := by simp [rstB, cmpP, cntO, cntS, cntL]
    rw [this]; simp
  · show ¬ (decide ((1 : Int) = 5) && _ && _) = true
    simp
  · show ¬ (!atmB 1 || (decide ((1 : Int) = 1) && !opB op)) = true
    simp [atmB, opB, h1, h2]
theorem tst_null {op : Int} {c v : V} (hv : mayV v = true) (hk : v.K = 0) : tstP (cmpP op c) v = 2 := by
  unfold tstP
  rw [if_neg (by rw [hv]; show ¬ (!atmB 1 || !true) = true; decide), if_pos (by rw [hk]; show (decide ((0 : Int) = 0) && decide ((1 : Int) ≠ 4)) = true; decide)]
theorem tst_in {op : Int} {c v : V} (hv : mayV v = true) : (tstP (cmpP op c) v = 2 ∧ v.K = 0) ∨ (v.K ≠ 0 ∧ (tstP (cmpP op c) v = 0 ∨ tstP (cmpP op c) v = 1)) := by
  by_cases h : v.K = 0
  · exact .inl ⟨tst_null hv h, h⟩
  · rw [tst_cmp hv h]
    refine .inr ⟨h, ?_⟩
    split
    · exact .inr rfl
    · exact .inl rfl
theorem opp_in {op : Int} (h1 : 1 ≤ op) (h2 : op ≤ 6) : 1 ≤ oppO op ∧ oppO op ≤ 6 ∧ oppO (oppO op) = op := by
  obtain rfl | rfl | rfl | rfl | rfl | rfl : op = 1 ∨ op = 2 ∨ op = 3 ∨ op = 4 ∨ op = 5 ∨ op = 6 := by omega
  all_goals decide
theorem std_opp {op : Int} (h1 : 1 ≤ op) (h2 : op ≤ 6) (k : Int) : stdB (oppO op) k = !stdB op k := by
  obtain rfl | rfl | rfl | rfl | rfl | rfl : op = 1 ∨ op = 2 ∨ op = 3 ∨ op = 4 ∨ op = 5 ∨ op = 6 := by omega
  all_goals (rw [Bool.eq_iff_iff]; simp [stdB, oppO] <;> omega)
theorem not_cmp {op : Int} {c : V} (h1 : 1 ≤ op) (h2 : op ≤ 6) : notB (cmpP op c) = true ∧ notP (cmpP op c) = cmpP (oppO op) c := by
  have : notB (cmpP op c) = true := by simp [notB, cmpP, opB, h1, h2]
  refine ⟨this, ?_⟩
  unfold notP
  rw [if_pos this]
  rfl
theorem tst_opp {op : Int} {c v : V} (hv : mayV v = true) (h1 : 1 ≤ op) (h2 : op ≤ 6) : tstP (cmpP (oppO op) c) v = notI (tstP (cmpP op c) v) := by
  by_cases h : v.K = 0
  · rw [tst_null hv h, tst_null hv h]; decide
  · rw [tst_cmp hv h, tst_cmp hv h, std_opp h1 h2]
    cases stdB op (cmpA v c) <;> decide
/-- How many of Eq, Lt, Gt below i say Yes. -/
def cntY (c v : V) : Nat → Int
  | 0 => 0
  | i + 1 => cntY c v i + if (i = 1 ∨ i = 3 ∨ i = 5) ∧ tstP (cmpP i c) v = 1 then 1 else 0
theorem cntY_in (c v : V) : ∀ i, 0 ≤ cntY c v i ∧ cntY c v i ≤ i
  | 0 => by simp [cntY]
  | i + 1 => by
    have := cntY_in c v i
    simp only [cntY]
    split <;> omega
theorem cntY_all {c v : V} (hv : mayV v = true) : cntY c v 7 = if v.K = 0 then 0 else 1 := by
  by_cases h : v.K = 0
  · have e : ∀ i : Nat, tstP (cmpP i c) v = 2 := fun i => tst_null hv h
    simp only [cntY, h, e, if_true]
    simp
  · have e : ∀ i : Nat, tstP (cmpP i c) v = if stdB i (cmpA v c) = true then 1 else 0 := fun i => tst_cmp hv h
    simp only [cntY, e, if_neg h]
    have h3 : cmpA v c < 0 ∨ cmpA v c = 0 ∨ 0 < cmpA v c := by omega
    generalize cmpA v c = k at *
    simp [stdB]
    rcases h3 with h3 | h3 | h3
    · simp [show ¬ k = 0 by omega, show ¬ 0 < k by omega, h3]
    · simp [h3]
    · simp [show ¬ k = 0 by omega, show ¬ k < 0 by omega, h3]
theorem tst_nulC {v : V} (hv : mayV v = true) : tstP nulC v = if v.K = 0 then 1 else 0 := by
  unfold tstP
  rw [if_neg (by rw [hv]; show ¬ (!atmB 4 || !true) = true; decide), if_neg (by show ¬ (_ && decide ((4 : Int) ≠ 4)) = true; simp)]
  have : hldB nulC v = decide (v.K = 0) := by
    unfold hldB
    rw [if_neg (by show ¬ (4 : Int) = 1; decide), if_neg (by show ¬ (4 : Int) = 2; decide), if_neg (by show ¬ (4 : Int) = 3; decide), if_pos (show nulC.K = 4 from rfl)]
  rw [this]
  simp
def tw (x y : Int) : Nat → Int := fun j => if j = 0 then x else y
theorem tst_btw {c d v : V} (hv : mayV v = true) : tstP (btwP c d) v = tr (mn (tw (tstP (cmpP 6 c) v) (tstP (cmpP 4 d) v)) 2) := by
  by_cases h : v.K = 0
  · rw [tst_null hv h, tst_null hv h]
    unfold tstP
    rw [if_neg (by rw [hv]; show ¬ (!atmB 3 || !true) = true; decide), if_pos (by rw [h]; show (decide ((0 : Int) = 0) && decide ((3 : Int) ≠ 4)) = true; decide)]
    decide
  · rw [tst_cmp hv h, tst_cmp hv h]
    unfold tstP
    rw [if_neg (by rw [hv]; show ¬ (!atmB 3 || !true) = true; decide), if_neg (by simp [h])]
    have : hldB (btwP c d) v = (decide (0 ≤ cmpA v c) && decide (cmpA v d ≤ 0)) := by
      unfold hldB
      rw [if_neg (by show ¬ (3 : Int) = 1; decide), if_neg (by show ¬ (3 : Int) = 2; decide), if_pos (show (btwP c d).K = 3 from rfl)]
      rfl
    rw [this, show stdB 6 (cmpA v c) = decide (0 ≤ cmpA v c) from rfl, show stdB 4 (cmpA v d) = decide (cmpA v d ≤ 0) from rfl]
    cases decide (0 ≤ cmpA v c) <;> cases decide (cmpA v d ≤ 0) <;> decide
def orS (v : V) (l : List V) (i : Nat) : Int := if v.K = 0 then 2 else if (l.take i).any (fun x => decide (cmpA v x = 0)) = true then 1 else 0
theorem orS_zero (v : V) (l : List V) : orS v l 0 = if v.K = 0 then 2 else 0 := by simp [orS]
theorem orS_step {v : V} {l : List V} {i : Nat} (hv : mayV v = true) (hi : i < l.length) : orS v l (i + 1) = tr (mx (tw (orS v l i) (tstP (cmpP 1 l[i]) v)) 2) := by
  by_cases h : v.K = 0
  · rw [tst_null hv h]
    simp only [orS, if_pos h]
    decide
  · rw [tst_cmp hv h]
    simp only [orS, if_neg h]
    rw [List.take_add_one, List.getElem?_eq_getElem hi, List.any_append]
    rw [show (some l[i]).toList.any (fun x => decide (cmpA v x = 0)) = decide (cmpA v l[i] = 0) by simp]
    rw [show stdB 1 (cmpA v l[i]) = decide (cmpA v l[i] = 0) from rfl]
    generalize (l.take i).any (fun x => decide (cmpA v x = 0)) = a
    cases a <;> cases decide (cmpA v l[i] = 0) <;> decide
theorem tst_inP {v : V} {l : List V} (hv : mayV v = true) : tstP (inP l) v = orS v l l.length := by
  unfold tstP orS
  rw [if_neg (by rw [hv]; show ¬ (!atmB 2 || !true) = true; decide)]
  by_cases h : v.K = 0
  · rw [if_pos (by rw [h]; show (decide ((0 : Int) = 0) && decide ((2 : Int) ≠ 4)) = true; decide), if_pos h]
  · rw [if_neg (by simp [h]), if_neg h, List.take_length]
    have : hldB (inP l) v = l.any (fun x => decide (cmpA v x = 0)) := by
      unfold hldB
      rw [if_neg (by show ¬ (2 : Int) = 1; decide), if_pos (show (inP l).K = 2 from rfl)]
      rfl
    rw [this]
set_option maxRecDepth 8000 in
set_option maxHeartbeats 4000000 in
theorem ends_any (t : Int) (v : V) (w : World) (h : (t = 2 ∧ v.K = 0) ∨ (v.K ≠ 0 ∧ (t = 0 ∨ t = 1))) : Calls Try.prog 20 #[.int .i8 t, vv v] w fun e w' => e = .returned (.bool true) ∧ Below w.heap.size w w' := by
  have B := hid (below_new w (.cells (va v) 25))
  obtain ⟨c0, c1, c2, c3⟩ := (Bx.new w (va v) 25).val
  obtain ⟨K, I, b, s⟩ := v
  unfold vv
  unfold va at *
  dsimp only at *
  rcases h with ⟨rfl, rfl⟩ | ⟨hk, rfl | rfl⟩
  all_goals (try have hk2 : (K == 0) = false := by simpa using hk)
  all_goals go_enter Try.func20, Try.ntmps20
  all_goals go_wp2_with fail
  all_goals go_ret
  all_goals exact ⟨rfl, B.out⟩
theorem tw_nums (w : World) (x y : Int) (t : TypeId) : Tr.Nums (w.alloc (.cells #[.int .i8 x, .int .i8 y] t)) .i8 (some ⟨w.heap.size, 0, none⟩) 2 (tw x y) := fun j hj => by
  refine ⟨_, _, rfl, by simp, ?_⟩
  have hn := heap_alloc_new w (.cells #[.int .i8 x, .int .i8 y] t)
  refine cell_of hn ?_
  have : j = 0 ∨ j = 1 := by omega
  rcases this with rfl | rfl <;> rfl
end Go.Proofs.Ythlfdmigmgpgfaa
