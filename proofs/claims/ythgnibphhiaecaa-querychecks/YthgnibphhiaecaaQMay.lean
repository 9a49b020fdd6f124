import Derived.Test.YthgnibphhiaecaaQTruAll
import Derived.Test.YthgnibphhiaecaaQTAll
import Derived.Test.YthgnibphhiaecaaARefKAll
/-
  The document's Same of any two values, bare, counted, May. (Written by mkmay.py.)
-/
namespace Go.Proofs.Ythgnibphhiaecaa
open Go.ChangeShapes Go.WideShapes Go.ChangeAt Go.RowKit Cu Vl
attribute [local go_sem] run_store_float

def sameV (u v : V) : Bool := decide (u.K = v.K) && decide (u.I = v.I) && decide (u.s = v.s) && decide (u.b = v.b)
set_option maxRecDepth 8000 in
set_option maxHeartbeats 8000000 in
theorem same05_any (u v : V) (w : World) : Calls Try.prog 61 #[vv u, vv v] w fun e w' => e = .returned (.bool (sameV u v)) ∧ Below w.heap.size w w' := by
  have h1 := run_bits u.b
  have h2 := run_bits v.b
  obtain ⟨W0, hW0⟩ : ∃ W0, (w.alloc (.cells (va u) 26)).alloc (.cells (va v) 26) = W0 := ⟨_, rfl⟩
  obtain ⟨c0, c1, c2, c3, d0, d1, d2, d3, hB⟩ := two_cells u v hW0
  have HB := hid hB
  have HW := hid hW0
  clear hB hW0
  obtain ⟨K, I, b, s⟩ := u
  obtain ⟨K', I', b', s'⟩ := v
  have HD : Hid (sameV ⟨K, I, b, s⟩ ⟨K', I', b', s'⟩ = (decide (K = K') && decide (I = I') && decide (s = s') && decide (b = b'))) := rfl
  generalize sameV ⟨K, I, b, s⟩ ⟨K', I', b', s'⟩ = R at *
  unfold vv
  unfold va at HW
  dsimp only at *
  by_cases e1 : K = K'
  · by_cases e2 : I = I'
    · by_cases e3 : s = s'
      · by_cases e4 : b = b'
        · have HE : Hid (R = true) := by show _ = _; rw [HD.out]; simp [e1, e2, e3, e4]
          subst e1 e2 e3 e4
          have hs := str_eq s
          have q1 : (K == K) = true := by simp
          have q2 : (I == I) = true := by simp
          have q4 : ((b : Int) == (b : Int)) = true := by simp
          go_enter Try.func61, Try.ntmps61
          go_wp2_with fail
          rw [HW.out]
          go_quiet (fail)
          go_wp2_with fail
          go_ret
          exact ⟨by rw [HE.out]; rfl, below_drewN HB.out nq⟩
        · have HE : Hid (R = false) := by show _ = _; rw [HD.out]; simp [e4]
          subst e1 e2 e3
          have hs := str_eq s
          have q1 : (K == K) = true := by simp
          have q2 : (I == I) = true := by simp
          have q4 : ((b : Int) == (b' : Int)) = false := by simp; omega
          clear e4
          go_enter Try.func61, Try.ntmps61
          go_wp2_with fail
          rw [HW.out]
          go_quiet (fail)
          go_wp2_with fail
          go_ret
          exact ⟨by rw [HE.out]; rfl, below_drewN HB.out nq⟩
      · have HE : Hid (R = false) := by show _ = _; rw [HD.out]; simp [e3]
        subst e1 e2
        have hs := str_ne e3
        have q1 : (K == K) = true := by simp
        have q2 : (I == I) = true := by simp
        clear e3
        go_enter Try.func61, Try.ntmps61
        go_wp2_with fail
        rw [HW.out]
        go_quiet (fail)
        go_wp2_with fail
        go_ret
        exact ⟨by rw [HE.out]; rfl, below_drewN HB.out nq⟩
    · have HE : Hid (R = false) := by show _ = _; rw [HD.out]; simp [e2]
      subst e1
      have q1 : (K == K) = true := by simp
      have q2 : (I == I') = false := by simpa using e2
      clear e2
      go_enter Try.func61, Try.ntmps61
      go_wp2_with fail
      rw [HW.out]
      go_quiet (fail)
      go_wp2_with fail
      go_ret
      exact ⟨by rw [HE.out]; rfl, below_drewN HB.out nq⟩
  · have HE : Hid (R = false) := by show _ = _; rw [HD.out]; simp [e1]
    have q1 : (K == K') = false := by simpa using e1
    clear e1
    go_enter Try.func61, Try.ntmps61
    go_wp2_with fail
    rw [HW.out]
    go_quiet (fail)
    go_wp2_with fail
    go_ret
    exact ⟨by rw [HE.out]; rfl, below_drewN HB.out nq⟩
theorem same05_zero (v : V) (w : World) : Calls Try.prog 61 #[vv v, vv v0] w fun e w' => e = .returned (.bool (nulB v)) ∧ Below w.heap.size w w' := by
  have h := same05_any v v0 w
  rw [show sameV v v0 = nulB v by
    rw [Bool.eq_iff_iff, nul_iff]
    unfold sameV v0
    obtain ⟨K, I, b, s⟩ := v
    simp only [decide_eq_true_eq, Bool.and_eq_true, V.mk.injEq]
    constructor
    · rintro ⟨⟨⟨a, b⟩, d⟩, c⟩; exact ⟨a, b, c, d⟩
    · rintro ⟨a, b, c, d⟩; exact ⟨⟨⟨a, b⟩, d⟩, c⟩] at h
  exact h
set_option maxRecDepth 8000 in
set_option maxHeartbeats 8000000 in
theorem bare_any (t : T) (w : World) (hn : t.h.l.length ≤ 140737488355328) : Calls Try.prog 103 #[tv t] w fun e w' => e = .returned (.bool (bareH t.h)) ∧ Below w.heap.size w w' := by
  have HS := hid fun (W : World) => same05_zero t.h.v W
  have HD : Hid (bareH t.h = (decide (t.h.c = ⟨#[]⟩) && decide (t.h.op = 0) && nulB t.h.v && decide (t.h.l.length = 0))) := rfl
  have b1 := below_new w (.cells (ta t) 30)
  have y1 := Bx.new w (ta t) 30
  obtain ⟨w1, hw1⟩ : ∃ w1, w.alloc (.cells (ta t) 30) = w1 := ⟨_, rfl⟩
  rw [hw1] at b1 y1
  have Y := hid y1
  have B1 := hid b1
  have TX := hid fun (W : World) (h : Below w1.heap.size w1 W) => (Y.out.later h).prd
  obtain ⟨y0, y1', y2, y3, y4, y5, y6, y7, y8⟩ := Y.out.prd
  generalize bareH t.h = R at *
  generalize nulB t.h.v = q at *
  clear b1 y1
  obtain ⟨⟨K, c, op, ⟨vK, vI, vb, vs⟩, l⟩, la, lc, kb, kc, kk⟩ := t
  simp only [T.h, T.la, T.lc, T.kb, T.kc, T.ks, tv, ta, T.pr, pv, pa, prH] at *
  unfold vv v0 at HS
  dsimp only at *
  by_cases e1 : c = ⟨#[]⟩
  · by_cases e2 : op = 0
    · subst e1 e2
      have hs := str_eq ⟨#[]⟩
      cases q
      · have HE : Hid (R = false) := by show _ = _; rw [HD.out]; simp
        go_enter Try.func103, Try.ntmps103
        go_wp2_with fail
        refine (HS.out _).mono ?_
        rintro e w2 ⟨rfl, hb⟩
        have B2 := hid (below_up B1.out hb)
        clear hw1 hb y0 y1' y2 y3 y4 y5 y6 y7 y8
        go_wp2_with fail
        go_ret
        exact ⟨by rw [HE.out]; rfl, B2.out⟩
      · have HE : Hid (R = decide (l.length = 0)) := by show _ = _; rw [HD.out]; simp
        go_enter Try.func103, Try.ntmps103
        go_wp2_with fail
        refine (HS.out _).mono ?_
        rintro e w2 ⟨rfl, hb⟩
        have B2 := hid (below_up B1.out hb)
        have T2 := TX.out _ hb
        clear hw1 hb y0 y1' y2 y3 y4 y5 y6 y7 y8
        obtain ⟨y0, y1', y2, y3, y4, y5, y6, y7, y8⟩ := T2
        by_cases h0 : l.length = 0
        · have hq : ((l.length : Int) == 0) = true := beq_iff_eq.2 (by omega)
          have HE2 : Hid (R = true) := by show _ = _; rw [HE.out, decide_eq_true h0]
          clear h0 HE
          have HE := HE2
          go_wp2_with fail
          go_ret
          exact ⟨by rw [HE.out]; rfl, B2.out⟩
        · have hq : ((l.length : Int) == 0) = false := beq_eq_false_iff_ne.2 (by omega)
          have HE2 : Hid (R = false) := by show _ = _; rw [HE.out, decide_eq_false h0]
          go_wp2_with fail
          go_ret
          exact ⟨by rw [HE2.out]; rfl, B2.out⟩
    · have HE : Hid (R = false) := by show _ = _; rw [HD.out]; simp [e2]
      subst e1
      have hs := str_eq ⟨#[]⟩
      have q2 : (op == 0) = false := by simpa using e2
      clear e2
      go_enter Try.func103, Try.ntmps103
      go_wp2_with fail
      go_ret
      exact ⟨by rw [HE.out]; rfl, B1.out⟩
  · have HE : Hid (R = false) := by show _ = _; rw [HD.out]; simp [e1]
    have hs := str_ne e1
    have hs2 : c.toList.isEmpty = false := by
      cases h : c.toList.isEmpty with
      | false => rfl
      | true => exact absurd (ba_nil h) e1
    clear e1
    go_enter Try.func103, Try.ntmps103
    go_wp2_with fail
    go_ret
    exact ⟨by rw [HE.out]; rfl, B1.out⟩
set_option maxHeartbeats 1000000 in
theorem atom23_any (K : Int) (w : World) : Calls Try.prog 80 #[.int .i64 K] w fun e w' => e = .returned (.bool (decide (1 ≤ K ∧ K ≤ 5))) ∧ w' = w := by
  by_cases h1 : 1 ≤ K
  · by_cases h2 : K ≤ 5
    · rw [decide_eq_true ⟨h1, h2⟩]
      go_enter Try.func80, Try.ntmps80
      go_wp2_with fail
      go_ret
      exact ⟨rfl, rfl⟩
    · rw [decide_eq_false (by omega)]
      go_enter Try.func80, Try.ntmps80
      go_wp2_with fail
      go_ret
      exact ⟨rfl, rfl⟩
  · rw [decide_eq_false (by omega)]
    go_enter Try.func80, Try.ntmps80
    go_wp2_with fail
    go_ret
    exact ⟨rfl, rfl⟩
theorem atom23_yes {K : Int} (w : World) (h : 1 ≤ K ∧ K ≤ 5) : Calls Try.prog 80 #[.int .i64 K] w fun e w' => e = .returned (.bool true) ∧ w' = w := by
  have := atom23_any K w
  rw [decide_eq_true h] at this
  exact this
theorem atom23_no {K : Int} (w : World) (h : ¬ (1 ≤ K ∧ K ≤ 5)) : Calls Try.prog 80 #[.int .i64 K] w fun e w' => e = .returned (.bool false) ∧ w' = w := by
  have := atom23_any K w
  rw [decide_eq_false h] at this
  exact this
def cntF (cols : List Col) (q : Q) (depth sofar : Nat) : Nat := if mayQ cols q (65 - depth) (4096 - sofar) = true then sofar + q.sz else 4097
def cntI (cols : List Col) (ks : List Q) (depth sofar i : Nat) : Nat := if mayL cols (ks.take i) (64 - depth) (4095 - sofar) = true then sofar + 1 + szL (ks.take i) else 4097
theorem cntI_zero {cols : List Col} {ks : List Q} {depth sofar : Nat} : cntI cols ks depth sofar 0 = sofar + 1 := by
  unfold cntI
  rw [List.take_zero, mayL_nil, if_pos rfl]
  simp [szL]
theorem cntI_or {cols : List Col} {ks : List Q} {depth sofar : Nat} (hs : sofar < 4096) (i : Nat) : cntI cols ks depth sofar i ≤ 4096 ∨ cntI cols ks depth sofar i = 4097 := by
  unfold cntI
  split
  · rename_i h
    unfold mayL at h
    simp only [Bool.and_eq_true, decide_eq_true_eq] at h
    left
    omega
  · exact .inr rfl
theorem cntI_succ {cols : List Col} {ks : List Q} {depth sofar i : Nat} (hi : i < ks.length) (h : cntI cols ks depth sofar i ≤ 4096) : cntI cols ks depth sofar (i + 1) = cntF cols ks[i] (depth + 1) (cntI cols ks depth sofar i) := by
  unfold cntI at h
  split at h
  · rename_i hm
    have e : cntI cols ks depth sofar i = sofar + 1 + szL (ks.take i) := by unfold cntI; rw [if_pos hm]
    rw [e]
    unfold cntI cntF
    rw [mayL_snoc hi, szL_snoc hi, hm, Bool.true_and, show 65 - (depth + 1) = 64 - depth by omega, show 4096 - (sofar + 1 + szL (ks.take i)) = 4095 - sofar - szL (ks.take i) by omega]
    split
    · omega
    · rfl
  · omega
theorem cntF_big {cols : List Col} {q : Q} {depth sofar : Nat} (h : 64 < depth ∨ 4096 ≤ sofar) : cntF cols q depth sofar = 4097 := by
  unfold cntF
  rw [if_neg]
  unfold mayQ
  have h1 := q.dep_pos
  have h2 := q.sz_pos
  simp only [Bool.and_eq_true, decide_eq_true_eq]
  omega
theorem cntF_mk {cols : List Col} {h : Hd} {ks : List Q} {depth sofar : Nat} (hd : depth ≤ 64) (hs : sofar < 4096) : cntF cols (.mk h ks) depth sofar = if wfH cols h ks.length = true ∧ mayL cols ks (64 - depth) (4095 - sofar) = true then sofar + 1 + szL ks else 4097 := by
  unfold cntF
  rw [mayQ_mk, show 65 - depth - 1 = 64 - depth by omega, show 4096 - sofar - 1 = 4095 - sofar by omega, Q.sz]
  simp only [Bool.and_eq_true, decide_eq_true_eq]
  by_cases e : wfH cols h ks.length = true ∧ mayL cols ks (64 - depth) (4095 - sofar) = true
  · rw [if_pos e, if_pos ⟨⟨⟨by omega, by omega⟩, e.1⟩, e.2⟩]; omega
  · rw [if_neg e, if_neg (fun x => e ⟨x.1.2, x.2⟩)]
theorem cnt_bad {cols : List Col} {h : Hd} {ks : List Q} {depth sofar : Nat} (hd : depth ≤ 64) (hs : sofar < 4096) (hw : wfH cols h ks.length = false) : cntF cols (.mk h ks) depth sofar = 4097 := by
  rw [cntF_mk hd hs, if_neg (fun x => by rw [hw] at x; cases x.1)]
theorem cnt_all {cols : List Col} {h : Hd} {ks : List Q} {depth sofar : Nat} (hd : depth ≤ 64) (hs : sofar < 4096) (hw : wfH cols h ks.length = true) : cntF cols (.mk h ks) depth sofar = cntI cols ks depth sofar ks.length := by
  rw [cntF_mk hd hs]
  unfold cntI
  rw [List.take_length]
  simp only [hw, true_and]
theorem cnt_no {cols : List Col} {h : Hd} {ks : List Q} {depth sofar i : Nat} (hd : depth ≤ 64) (hs : sofar < 4096) (hn : cntI cols ks depth sofar i = 4097) : cntF cols (.mk h ks) depth sofar = 4097 := by
  rw [cntF_mk hd hs, if_neg]
  rintro ⟨_, hm⟩
  unfold cntI at hn
  cases hf : mayL cols (ks.take i) (64 - depth) (4095 - sofar) with
  | false => rw [mayL_no hf] at hm; cases hm
  | true =>
    rw [if_pos hf] at hn
    unfold mayL at hf
    simp only [Bool.and_eq_true, decide_eq_true_eq] at hf
    omega
theorem wf_other {cols : List Col} {h : Hd} {m : Nat} (hk : h.K < 0 ∨ 8 < h.K) : wfH cols h m = false := by
  cases hw : wfH cols h m with
  | false => rfl
  | true =>
    rcases wf_kind hw with ⟨e, _⟩ | ⟨e1, e2, _⟩ | ⟨e, _⟩ | ⟨e, _⟩
    · omega
    · omega
    · have := join_or e; omega
    · omega
def CountOk (cols : List Col) (ac : Option Addr) (dc : Nat) (t : T) : Prop := ∀ (depth sofar : Nat) (w : World), depth ≤ 65 → sofar ≤ 4096 → Lst cc 3 w ac cols → MT w w.heap.size t →
  Calls Try.prog 82 #[.slice ac cols.length dc, tv t, .int .i64 (depth : Int), .int .i64 (sofar : Int)] w fun r w' => r = .returned (.int .i64 (cntF cols t.abs depth sofar : Nat)) ∧ Below w.heap.size w w'
set_option maxRecDepth 8000 in
set_option maxHeartbeats 32000000 in
theorem counted_step (cols : List Col) (ac : Option Addr) (dc : Nat) (hcn : cols.length ≤ 140737488355328) (t : T) (ih : ∀ k ∈ t.ks, CountOk cols ac dc k) : CountOk cols ac dc t := by
  intro depth sofar w hd hs hL hm
  have hpok := hm.pok
  obtain ⟨h1, h2, h3, h4, h5⟩ := MT_iff.1 hm
  have hkn : t.ks.length ≤ 140737488355328 := by have := h3.n; omega
  have hln : t.h.l.length ≤ 140737488355328 := by have := h1.n; omega
  have HBa := hid fun (W : World) => bare_any t W hln
  have HCh := hid fun (W : World) (h : Below w.heap.size w W) => check18 ac cols dc t.pr t.la t.lc t.kb t.kc W (hL.later h) hcn (hpok.later h)
  have HA := hid fun (W : World) (h : Below w.heap.size w W) (i : Nat) (hi : i < t.ks.length) => (h4.1.later h).cell9 hi
  have b1 := below_new w (.cells (ta t) 30)
  have y1 := Bx.new w (ta t) 30
  obtain ⟨w1, hw1⟩ : ∃ w1, w.alloc (.cells (ta t) 30) = w1 := ⟨_, rfl⟩
  rw [hw1] at b1 y1
  have Y := hid y1
  have B1 := hid b1
  have TX := hid fun (W : World) (h : Below w1.heap.size w1 W) => (Y.out.later h).prd
  obtain ⟨y0, y1', y2, y3, y4, y5, y6, y7, y8⟩ := Y.out.prd
  by_cases hbig : 64 < depth ∨ 4096 ≤ sofar
  · have HE : Hid (cntF cols t.abs depth sofar = 4097) := cntF_big hbig
    generalize cntF cols t.abs depth sofar = R at *
    clear b1 y1 hm hpok h1 h2 h3 h4 h5 ih hL HBa HCh HA
    obtain ⟨⟨K, c, op, ⟨vK, vI, vb, vs⟩, l⟩, la, lc, kb, kc, kk⟩ := t
    simp only [T.h, T.la, T.lc, T.kb, T.kc, T.ks, tv, ta, T.pr, pv, pa, prH] at *
    by_cases hb2 : 64 < depth
    · have hdi : (64 : Int) < (depth : Int) := by omega
      go_enter Try.func82, Try.ntmps82
      go_wp2_with fail
      go_ret
      exact ⟨by rw [HE.out]; rfl, B1.out⟩
    · have hdi : (depth : Int) ≤ (64 : Int) := by omega
      obtain rfl : sofar = 4096 := by omega
      go_enter Try.func82, Try.ntmps82
      go_wp2_with fail
      go_ret
      exact ⟨by rw [HE.out]; rfl, B1.out⟩
  · have hd64 : depth ≤ 64 := by omega
    have hs64 : sofar < 4096 := by omega
    have hdi : (depth : Int) ≤ (64 : Int) := by omega
    have hsi : (sofar : Int) < (4096 : Int) := by omega
    have HKid := hid fun (i : Nat) (hi : i < t.ks.length) (n : Nat) (W : World) (hn : n ≤ 4096) (h : Below w.heap.size w W) => ih _ (List.getElem_mem hi) (depth + 1) n W (by omega) hn (hL.later h) ((h5 _ (List.getElem_mem hi)).later h)
    have HC0 := hid (cntI_zero (cols := cols) (ks := absL t.ks) (depth := depth) (sofar := sofar))
    have HCO := hid fun (i : Nat) => cntI_or (cols := cols) (ks := absL t.ks) (depth := depth) hs64 i
    have HCS := hid fun (i : Nat) (hi : i < t.ks.length) (h : cntI cols (absL t.ks) depth sofar i ≤ 4096) => show cntI cols (absL t.ks) depth sofar (i + 1) = cntF cols t.ks[i].abs (depth + 1) (cntI cols (absL t.ks) depth sofar i) by
      rw [cntI_succ (by rw [absL_len]; exact hi) h, absL_get hi]
    have HCN := hid fun (i : Nat) (h : cntI cols (absL t.ks) depth sofar i = 4097) => show cntF cols t.abs depth sofar = 4097 by rw [T.abs_eq]; exact cnt_no hd64 hs64 h
    have HCE := hid fun (h : wfH cols t.h t.ks.length = true) => show cntF cols t.abs depth sofar = cntI cols (absL t.ks) depth sofar t.ks.length by
      have := cnt_all (cols := cols) (h := t.h) (ks := absL t.ks) hd64 hs64 (by rw [absL_len]; exact h)
      rw [T.abs_eq, this, absL_len]
    have HCB := hid fun (h : wfH cols t.h t.ks.length = false) => show cntF cols t.abs depth sofar = 4097 by rw [T.abs_eq]; exact cnt_bad hd64 hs64 (by rw [absL_len]; exact h)
    have HAtm := hid fun (h : 1 ≤ t.h.K ∧ t.h.K ≤ 5) => show cntF cols t.abs depth sofar = if chkP cols t.pr = 0 then sofar + 1 else 4097 by
      have hw : wfH cols t.h t.ks.length = decide (chkP cols t.pr = 0) := by
        unfold wfH
        rw [if_neg (by omega), if_neg (by omega), if_neg (by omega)]
        rfl
      split
      · rename_i hc
        have h0 := (chk_kids hc).1
        have h0 : t.ks.length = 0 := h0
        have := cnt_all (cols := cols) (h := t.h) (ks := absL t.ks) hd64 hs64 (by rw [absL_len, hw, decide_eq_true hc])
        rw [T.abs_eq, this, absL_len, h0, cntI_zero]
      · rename_i hc
        rw [T.abs_eq]
        exact cnt_bad hd64 hs64 (by rw [absL_len, hw, decide_eq_false hc])
    have HW0 := hid fun (h : t.h.K = 0) => show (bareH t.h = true → t.ks.length = 0 → wfH cols t.h t.ks.length = true) ∧ (bareH t.h = false → wfH cols t.h t.ks.length = false) ∧ (t.ks.length ≠ 0 → wfH cols t.h t.ks.length = false) by
      have e : wfH cols t.h t.ks.length = (bareH t.h && decide (t.ks.length = 0)) := by unfold wfH; rw [if_pos h]
      rw [e]
      exact ⟨fun a b => by rw [a, decide_eq_true b]; rfl, fun a => by rw [a]; rfl, fun b => by rw [decide_eq_false b, Bool.and_false]⟩
    have HW6 := hid fun (h : t.h.K = 6 ∨ t.h.K = 7) => show (bareH t.h = true → 2 ≤ t.ks.length → wfH cols t.h t.ks.length = true) ∧ (bareH t.h = false → wfH cols t.h t.ks.length = false) ∧ (¬ 2 ≤ t.ks.length → wfH cols t.h t.ks.length = false) by
      have e : wfH cols t.h t.ks.length = (bareH t.h && decide (2 ≤ t.ks.length)) := by unfold wfH; rw [if_neg (by omega), if_pos h]
      rw [e]
      exact ⟨fun a b => by rw [a, decide_eq_true b]; rfl, fun a => by rw [a]; rfl, fun b => by rw [decide_eq_false b, Bool.and_false]⟩
    have HW8 := hid fun (h : t.h.K = 8) => show (bareH t.h = true → t.ks.length = 1 → wfH cols t.h t.ks.length = true) ∧ (bareH t.h = false → wfH cols t.h t.ks.length = false) ∧ (t.ks.length ≠ 1 → wfH cols t.h t.ks.length = false) by
      have e : wfH cols t.h t.ks.length = (bareH t.h && decide (t.ks.length = 1)) := by unfold wfH; rw [if_neg (by omega), if_neg (by omega), if_pos h]
      rw [e]
      exact ⟨fun a b => by rw [a, decide_eq_true b]; rfl, fun a => by rw [a]; rfl, fun b => by rw [decide_eq_false b, Bool.and_false]⟩
    have HWo := hid fun (h : t.h.K < 0 ∨ 8 < t.h.K) => wf_other (cols := cols) (h := t.h) (m := t.ks.length) h
    generalize hR : cntF cols t.abs depth sofar = R at *
    generalize hCI : cntI cols (absL t.ks) depth sofar = CI at *
    generalize wfH cols t.h t.ks.length = wq at *
    generalize bareH t.h = bq at *
    generalize chkP cols t.pr = cq at *
    obtain ⟨n9, hn9⟩ : ∃ n, sofar + 1 = n := ⟨_, rfl⟩
    have hsn : (sofar : Int) + 1 = (n9 : Int) := by omega
    have hsl : (n9 : Int) ≤ 4096 := by omega
    rw [hn9] at HC0 HAtm
    clear hsi hn9
    clear b1 y1 hm hpok h1 h2 h3 h4 h5 ih hL hbig hd hs hR hCI hs64 hd64
    obtain ⟨⟨K, c, op, ⟨vK, vI, vb, vs⟩, l⟩, la, lc, kb, kc, kk⟩ := t
    simp only [T.h, T.la, T.lc, T.kb, T.kc, T.ks, tv, ta, T.pr, pv, pa, prH] at *
    by_cases hat : 1 ≤ K ∧ K ≤ 5
    · have HAA := hid (HAtm.out hat)
      have HAt1 := hid fun (W : World) => atom23_yes W hat
      go_enter Try.func82, Try.ntmps82
      go_wp2_with (go_at_call 80; refine (HAt1.out _).mono ?_; rintro e wn ⟨rfl, hwn⟩; subst wn)
      refine (HCh.out _ B1.out).mono ?_
      rintro e w2 ⟨rfl, hb⟩
      have B2 := hid (below_up B1.out hb)
      clear hw1 hb y0 y1' y2 y3 y4 y5 y6 y7 y8
      by_cases hc : cq = 0
      · have HE : Hid (R = n9) := by show _ = _; rw [HAA.out, if_pos hc]
        subst hc
        go_wp2_with fail
        go_ret
        exact ⟨by rw [HE.out]; rfl, B2.out⟩
      · have HE : Hid (R = 4097) := by show _ = _; rw [HAA.out, if_neg hc]
        have hcb : (cq != 0) = true := by simpa using hc
        go_wp2_with fail
        go_ret
        exact ⟨by rw [HE.out]; rfl, B2.out⟩
    · have HAt1 := hid fun (W : World) => atom23_no W hat
      have hK : K = 0 ∨ K = 6 ∨ K = 7 ∨ K = 8 ∨ (K < 0 ∨ 8 < K) := by omega
      clear hat HCh HAtm
      rcases hK with hK | hK | hK | hK | hK
      · have HWw := hid (HW0.out hK)
        subst hK
        by_cases hlen : kk.length = 0
        · have hq0 : ((kk.length : Int) == 0) = true := beq_iff_eq.2 (by omega)
          have HLn := hid hlen
          clear hlen
          go_enter Try.func82, Try.ntmps82
          go_wp2_with (go_at_call 80; refine (HAt1.out _).mono ?_; rintro e wn ⟨rfl, hwn⟩; subst wn)
          refine (HBa.out _).mono ?_
          rintro e w2 ⟨rfl, hb⟩
          have B2 := hid (below_up B1.out hb)
          have C2 := hid hb
          clear hw1 hb y0 y1' y2 y3 y4 y5 y6 y7 y8
          cases bq
          · have HE : Hid (R = 4097) := HCB.out (HWw.out.2.1 rfl)
            go_wp2_with fail
            go_ret
            exact ⟨by rw [HE.out]; rfl, B2.out⟩
          · have HW : Hid (wq = true) := HWw.out.1 rfl HLn.out
            go_wp2_with fail
            go_loopw [9, 15] (fun nx ix wr => ∃ i : Nat, i ≤ kk.length ∧ nx = .int .i64 (CI i : Nat) ∧ ix = .int .i64 i ∧ Hid (Below w1.heap.size w1 wr)) (fun _ ix _ => kk.length - (intOf ix).toNat)
            case atStart => exact ⟨0, Nat.zero_le _, by rw [HC0.out], rfl, C2.out⟩
            case round =>
              clear C2 B2
              obtain ⟨i, hi, rfl, rfl, HB⟩ := hrel
              rename World => wr
              have HBw := hid (below_up B1.out HB.out)
              by_cases hlt : i < kk.length
              · have hii : (i : Int) < (kk.length : Int) := by omega
                by_cases hle : CI i ≤ 4096
                · have hlei : (CI i : Int) ≤ 4096 := by omega
                  obtain ⟨y0, y1', y2, y3, y4, y5, y6, y7, y8⟩ := TX.out _ HB.out
                  obtain ⟨g, o, rfl, _, k0, k1, k2, k3, k4, k5, k6, k7, k8⟩ := HA.out wr HBw.out i hlt
                  have HCl := hid (HKid.out i hlt (CI i) wr hle HBw.out)
                  have HSi := hid (HCS.out i hlt hle)
                  rw [← HSi.out] at HCl
                  have HX := hid (show ((CI (i + 1) : Nat) : Int) = ((CI (i + 1) : Nat) : Int) from rfl)
                  generalize CI (i + 1) = n1 at HCl HSi HX
                  have HSx : Hid (n1 = CI (i + 1)) := by show _ = _; rw [HSi.out, HCS.out i hlt hle]
                  clear HSi HX
                  have hn9 : (0 : Int) ≤ (CI i : Int) := by omega
                  generalize CI i = n at *
                  generalize kk[i] = k at *
                  obtain ⟨⟨kK, kcc, kop, ⟨kvK, kvI, kvb, kvs⟩, kl⟩, kla, klc, kkb, kkc, kks⟩ := k
                  dsimp only at *
                  go_wp2_with fail
                  refine HCl.out.mono ?_
                  rintro e w3 ⟨rfl, hb⟩
                  have HB2 := hid (below_up HB.out hb)
                  clear hb y0 y1' y2 y3 y4 y5 y6 y7 y8 k0 k1 k2 k3 k4 k5 k6 k7 k8
                  go_wp2_with fail
                  exact ⟨⟨i + 1, by omega, by rw [HSx.out], by go_num, HB2⟩, by simp [intOf]; omega⟩
                · have h97 : CI i = 4097 := by rcases HCO.out i with h | h <;> omega
                  have HE := hid (HCN.out i h97)
                  rw [h97]
                  clear hle h97
                  go_wp2_with fail
                  go_ret
                  exact ⟨by rw [HE.out]; rfl, HBw.out⟩
              · obtain rfl : i = kk.length := by omega
                have HE : Hid (R = CI kk.length) := HCE.out HW.out
                generalize CI kk.length = n at *
                go_wp2_with fail
                go_ret
                exact ⟨by rw [HE.out]; rfl, HBw.out⟩
        · have hq0 : ((kk.length : Int) == 0) = false := beq_eq_false_iff_ne.2 (by omega)
          have HE : Hid (R = 4097) := HCB.out (HWw.out.2.2 hlen)
          clear hlen
          go_enter Try.func82, Try.ntmps82
          go_wp2_with (go_at_call 80; refine (HAt1.out _).mono ?_; rintro e wn ⟨rfl, hwn⟩; subst wn)
          refine (HBa.out _).mono ?_
          rintro e w2 ⟨rfl, hb⟩
          have B2 := hid (below_up B1.out hb)
          have C2 := hid hb
          clear hw1 hb y0 y1' y2 y3 y4 y5 y6 y7 y8
          cases bq
          · go_wp2_with fail
            go_ret
            exact ⟨by rw [HE.out]; rfl, B2.out⟩
          · go_wp2_with fail
            all_goals first
              | (exfalso; simp only [Bool.not_eq_false', decide_eq_true_eq] at *; omega)
              | (go_ret; exact ⟨by rw [HE.out]; rfl, B2.out⟩)
      · have HWw := hid (HW6.out (.inl hK))
        subst hK
        by_cases hlen : 2 ≤ kk.length
        · have hq0 : (2 : Int) ≤ (kk.length : Int) := by omega
          have HLn := hid hlen
          clear hlen
          go_enter Try.func82, Try.ntmps82
          go_wp2_with (go_at_call 80; refine (HAt1.out _).mono ?_; rintro e wn ⟨rfl, hwn⟩; subst wn)
          refine (HBa.out _).mono ?_
          rintro e w2 ⟨rfl, hb⟩
          have B2 := hid (below_up B1.out hb)
          have C2 := hid hb
          clear hw1 hb y0 y1' y2 y3 y4 y5 y6 y7 y8
          cases bq
          · have HE : Hid (R = 4097) := HCB.out (HWw.out.2.1 rfl)
            go_wp2_with fail
            go_ret
            exact ⟨by rw [HE.out]; rfl, B2.out⟩
          · have HW : Hid (wq = true) := HWw.out.1 rfl HLn.out
            go_wp2_with fail
            go_loopw [9, 15] (fun nx ix wr => ∃ i : Nat, i ≤ kk.length ∧ nx = .int .i64 (CI i : Nat) ∧ ix = .int .i64 i ∧ Hid (Below w1.heap.size w1 wr)) (fun _ ix _ => kk.length - (intOf ix).toNat)
            case atStart => exact ⟨0, Nat.zero_le _, by rw [HC0.out], rfl, C2.out⟩
            case round =>
              clear C2 B2
              obtain ⟨i, hi, rfl, rfl, HB⟩ := hrel
              rename World => wr
              have HBw := hid (below_up B1.out HB.out)
              by_cases hlt : i < kk.length
              · have hii : (i : Int) < (kk.length : Int) := by omega
                by_cases hle : CI i ≤ 4096
                · have hlei : (CI i : Int) ≤ 4096 := by omega
                  obtain ⟨y0, y1', y2, y3, y4, y5, y6, y7, y8⟩ := TX.out _ HB.out
                  obtain ⟨g, o, rfl, _, k0, k1, k2, k3, k4, k5, k6, k7, k8⟩ := HA.out wr HBw.out i hlt
                  have HCl := hid (HKid.out i hlt (CI i) wr hle HBw.out)
                  have HSi := hid (HCS.out i hlt hle)
                  rw [← HSi.out] at HCl
                  have HX := hid (show ((CI (i + 1) : Nat) : Int) = ((CI (i + 1) : Nat) : Int) from rfl)
                  generalize CI (i + 1) = n1 at HCl HSi HX
                  have HSx : Hid (n1 = CI (i + 1)) := by show _ = _; rw [HSi.out, HCS.out i hlt hle]
                  clear HSi HX
                  have hn9 : (0 : Int) ≤ (CI i : Int) := by omega
                  generalize CI i = n at *
                  generalize kk[i] = k at *
                  obtain ⟨⟨kK, kcc, kop, ⟨kvK, kvI, kvb, kvs⟩, kl⟩, kla, klc, kkb, kkc, kks⟩ := k
                  dsimp only at *
                  go_wp2_with fail
                  refine HCl.out.mono ?_
                  rintro e w3 ⟨rfl, hb⟩
                  have HB2 := hid (below_up HB.out hb)
                  clear hb y0 y1' y2 y3 y4 y5 y6 y7 y8 k0 k1 k2 k3 k4 k5 k6 k7 k8
                  go_wp2_with fail
                  exact ⟨⟨i + 1, by omega, by rw [HSx.out], by go_num, HB2⟩, by simp [intOf]; omega⟩
                · have h97 : CI i = 4097 := by rcases HCO.out i with h | h <;> omega
                  have HE := hid (HCN.out i h97)
                  rw [h97]
                  clear hle h97
                  go_wp2_with fail
                  go_ret
                  exact ⟨by rw [HE.out]; rfl, HBw.out⟩
              · obtain rfl : i = kk.length := by omega
                have HE : Hid (R = CI kk.length) := HCE.out HW.out
                generalize CI kk.length = n at *
                go_wp2_with fail
                go_ret
                exact ⟨by rw [HE.out]; rfl, HBw.out⟩
        · have hq0 : ¬ (2 : Int) ≤ (kk.length : Int) := by omega
          have hq1 : (kk.length : Int) < 2 := by omega
          have HE : Hid (R = 4097) := HCB.out (HWw.out.2.2 hlen)
          clear hlen
          go_enter Try.func82, Try.ntmps82
          go_wp2_with (go_at_call 80; refine (HAt1.out _).mono ?_; rintro e wn ⟨rfl, hwn⟩; subst wn)
          refine (HBa.out _).mono ?_
          rintro e w2 ⟨rfl, hb⟩
          have B2 := hid (below_up B1.out hb)
          have C2 := hid hb
          clear hw1 hb y0 y1' y2 y3 y4 y5 y6 y7 y8
          cases bq
          · go_wp2_with fail
            go_ret
            exact ⟨by rw [HE.out]; rfl, B2.out⟩
          · go_wp2_with fail
            all_goals first
              | (exfalso; simp only [Bool.not_eq_false', decide_eq_true_eq] at *; omega)
              | (go_ret; exact ⟨by rw [HE.out]; rfl, B2.out⟩)
      · have HWw := hid (HW6.out (.inr hK))
        subst hK
        by_cases hlen : 2 ≤ kk.length
        · have hq0 : (2 : Int) ≤ (kk.length : Int) := by omega
          have HLn := hid hlen
          clear hlen
          go_enter Try.func82, Try.ntmps82
          go_wp2_with (go_at_call 80; refine (HAt1.out _).mono ?_; rintro e wn ⟨rfl, hwn⟩; subst wn)
          refine (HBa.out _).mono ?_
          rintro e w2 ⟨rfl, hb⟩
          have B2 := hid (below_up B1.out hb)
          have C2 := hid hb
          clear hw1 hb y0 y1' y2 y3 y4 y5 y6 y7 y8
          cases bq
          · have HE : Hid (R = 4097) := HCB.out (HWw.out.2.1 rfl)
            go_wp2_with fail
            go_ret
            exact ⟨by rw [HE.out]; rfl, B2.out⟩
          · have HW : Hid (wq = true) := HWw.out.1 rfl HLn.out
            go_wp2_with fail
            go_loopw [9, 15] (fun nx ix wr => ∃ i : Nat, i ≤ kk.length ∧ nx = .int .i64 (CI i : Nat) ∧ ix = .int .i64 i ∧ Hid (Below w1.heap.size w1 wr)) (fun _ ix _ => kk.length - (intOf ix).toNat)
            case atStart => exact ⟨0, Nat.zero_le _, by rw [HC0.out], rfl, C2.out⟩
            case round =>
              clear C2 B2
              obtain ⟨i, hi, rfl, rfl, HB⟩ := hrel
              rename World => wr
              have HBw := hid (below_up B1.out HB.out)
              by_cases hlt : i < kk.length
              · have hii : (i : Int) < (kk.length : Int) := by omega
                by_cases hle : CI i ≤ 4096
                · have hlei : (CI i : Int) ≤ 4096 := by omega
                  obtain ⟨y0, y1', y2, y3, y4, y5, y6, y7, y8⟩ := TX.out _ HB.out
                  obtain ⟨g, o, rfl, _, k0, k1, k2, k3, k4, k5, k6, k7, k8⟩ := HA.out wr HBw.out i hlt
                  have HCl := hid (HKid.out i hlt (CI i) wr hle HBw.out)
                  have HSi := hid (HCS.out i hlt hle)
                  rw [← HSi.out] at HCl
                  have HX := hid (show ((CI (i + 1) : Nat) : Int) = ((CI (i + 1) : Nat) : Int) from rfl)
                  generalize CI (i + 1) = n1 at HCl HSi HX
                  have HSx : Hid (n1 = CI (i + 1)) := by show _ = _; rw [HSi.out, HCS.out i hlt hle]
                  clear HSi HX
                  have hn9 : (0 : Int) ≤ (CI i : Int) := by omega
                  generalize CI i = n at *
                  generalize kk[i] = k at *
                  obtain ⟨⟨kK, kcc, kop, ⟨kvK, kvI, kvb, kvs⟩, kl⟩, kla, klc, kkb, kkc, kks⟩ := k
                  dsimp only at *
                  go_wp2_with fail
                  refine HCl.out.mono ?_
                  rintro e w3 ⟨rfl, hb⟩
                  have HB2 := hid (below_up HB.out hb)
                  clear hb y0 y1' y2 y3 y4 y5 y6 y7 y8 k0 k1 k2 k3 k4 k5 k6 k7 k8
                  go_wp2_with fail
                  exact ⟨⟨i + 1, by omega, by rw [HSx.out], by go_num, HB2⟩, by simp [intOf]; omega⟩
                · have h97 : CI i = 4097 := by rcases HCO.out i with h | h <;> omega
                  have HE := hid (HCN.out i h97)
                  rw [h97]
                  clear hle h97
                  go_wp2_with fail
                  go_ret
                  exact ⟨by rw [HE.out]; rfl, HBw.out⟩
              · obtain rfl : i = kk.length := by omega
                have HE : Hid (R = CI kk.length) := HCE.out HW.out
                generalize CI kk.length = n at *
                go_wp2_with fail
                go_ret
                exact ⟨by rw [HE.out]; rfl, HBw.out⟩
        · have hq0 : ¬ (2 : Int) ≤ (kk.length : Int) := by omega
          have hq1 : (kk.length : Int) < 2 := by omega
          have HE : Hid (R = 4097) := HCB.out (HWw.out.2.2 hlen)
          clear hlen
          go_enter Try.func82, Try.ntmps82
          go_wp2_with (go_at_call 80; refine (HAt1.out _).mono ?_; rintro e wn ⟨rfl, hwn⟩; subst wn)
          refine (HBa.out _).mono ?_
          rintro e w2 ⟨rfl, hb⟩
          have B2 := hid (below_up B1.out hb)
          have C2 := hid hb
          clear hw1 hb y0 y1' y2 y3 y4 y5 y6 y7 y8
          cases bq
          · go_wp2_with fail
            go_ret
            exact ⟨by rw [HE.out]; rfl, B2.out⟩
          · go_wp2_with fail
            all_goals first
              | (exfalso; simp only [Bool.not_eq_false', decide_eq_true_eq] at *; omega)
              | (go_ret; exact ⟨by rw [HE.out]; rfl, B2.out⟩)
      · have HWw := hid (HW8.out hK)
        subst hK
        by_cases hlen : kk.length = 1
        · have hq0 : ((kk.length : Int) == 1) = true := beq_iff_eq.2 (by omega)
          have HLn := hid hlen
          clear hlen
          go_enter Try.func82, Try.ntmps82
          go_wp2_with (go_at_call 80; refine (HAt1.out _).mono ?_; rintro e wn ⟨rfl, hwn⟩; subst wn)
          refine (HBa.out _).mono ?_
          rintro e w2 ⟨rfl, hb⟩
          have B2 := hid (below_up B1.out hb)
          have C2 := hid hb
          clear hw1 hb y0 y1' y2 y3 y4 y5 y6 y7 y8
          cases bq
          · have HE : Hid (R = 4097) := HCB.out (HWw.out.2.1 rfl)
            go_wp2_with fail
            go_ret
            exact ⟨by rw [HE.out]; rfl, B2.out⟩
          · have HW : Hid (wq = true) := HWw.out.1 rfl HLn.out
            go_wp2_with fail
            go_loopw [9, 15] (fun nx ix wr => ∃ i : Nat, i ≤ kk.length ∧ nx = .int .i64 (CI i : Nat) ∧ ix = .int .i64 i ∧ Hid (Below w1.heap.size w1 wr)) (fun _ ix _ => kk.length - (intOf ix).toNat)
            case atStart => exact ⟨0, Nat.zero_le _, by rw [HC0.out], rfl, C2.out⟩
            case round =>
              clear C2 B2
              obtain ⟨i, hi, rfl, rfl, HB⟩ := hrel
              rename World => wr
              have HBw := hid (below_up B1.out HB.out)
              by_cases hlt : i < kk.length
              · have hii : (i : Int) < (kk.length : Int) := by omega
                by_cases hle : CI i ≤ 4096
                · have hlei : (CI i : Int) ≤ 4096 := by omega
                  obtain ⟨y0, y1', y2, y3, y4, y5, y6, y7, y8⟩ := TX.out _ HB.out
                  obtain ⟨g, o, rfl, _, k0, k1, k2, k3, k4, k5, k6, k7, k8⟩ := HA.out wr HBw.out i hlt
                  have HCl := hid (HKid.out i hlt (CI i) wr hle HBw.out)
                  have HSi := hid (HCS.out i hlt hle)
                  rw [← HSi.out] at HCl
                  have HX := hid (show ((CI (i + 1) : Nat) : Int) = ((CI (i + 1) : Nat) : Int) from rfl)
                  generalize CI (i + 1) = n1 at HCl HSi HX
                  have HSx : Hid (n1 = CI (i + 1)) := by show _ = _; rw [HSi.out, HCS.out i hlt hle]
                  clear HSi HX
                  have hn9 : (0 : Int) ≤ (CI i : Int) := by omega
                  generalize CI i = n at *
                  generalize kk[i] = k at *
                  obtain ⟨⟨kK, kcc, kop, ⟨kvK, kvI, kvb, kvs⟩, kl⟩, kla, klc, kkb, kkc, kks⟩ := k
                  dsimp only at *
                  go_wp2_with fail
                  refine HCl.out.mono ?_
                  rintro e w3 ⟨rfl, hb⟩
                  have HB2 := hid (below_up HB.out hb)
                  clear hb y0 y1' y2 y3 y4 y5 y6 y7 y8 k0 k1 k2 k3 k4 k5 k6 k7 k8
                  go_wp2_with fail
                  exact ⟨⟨i + 1, by omega, by rw [HSx.out], by go_num, HB2⟩, by simp [intOf]; omega⟩
                · have h97 : CI i = 4097 := by rcases HCO.out i with h | h <;> omega
                  have HE := hid (HCN.out i h97)
                  rw [h97]
                  clear hle h97
                  go_wp2_with fail
                  go_ret
                  exact ⟨by rw [HE.out]; rfl, HBw.out⟩
              · obtain rfl : i = kk.length := by omega
                have HE : Hid (R = CI kk.length) := HCE.out HW.out
                generalize CI kk.length = n at *
                go_wp2_with fail
                go_ret
                exact ⟨by rw [HE.out]; rfl, HBw.out⟩
        · have hq0 : ((kk.length : Int) == 1) = false := beq_eq_false_iff_ne.2 (by omega)
          have HE : Hid (R = 4097) := HCB.out (HWw.out.2.2 hlen)
          clear hlen
          go_enter Try.func82, Try.ntmps82
          go_wp2_with (go_at_call 80; refine (HAt1.out _).mono ?_; rintro e wn ⟨rfl, hwn⟩; subst wn)
          refine (HBa.out _).mono ?_
          rintro e w2 ⟨rfl, hb⟩
          have B2 := hid (below_up B1.out hb)
          have C2 := hid hb
          clear hw1 hb y0 y1' y2 y3 y4 y5 y6 y7 y8
          cases bq
          · go_wp2_with fail
            go_ret
            exact ⟨by rw [HE.out]; rfl, B2.out⟩
          · go_wp2_with fail
            all_goals first
              | (exfalso; simp only [Bool.not_eq_false', decide_eq_true_eq] at *; omega)
              | (go_ret; exact ⟨by rw [HE.out]; rfl, B2.out⟩)
      · have HE : Hid (R = 4097) := HCB.out (HWo.out hK)
        have q0 : (K == 0) = false := by simp; omega
        have q6 : (K == 6) = false := by simp; omega
        have q7 : (K == 7) = false := by simp; omega
        have q8 : (K == 8) = false := by simp; omega
        clear hK
        go_enter Try.func82, Try.ntmps82
        go_wp2_with (go_at_call 80; refine (HAt1.out _).mono ?_; rintro e wn ⟨rfl, hwn⟩; subst wn)
        refine (HBa.out _).mono ?_
        rintro e w2 ⟨rfl, hb⟩
        have B2 := hid (below_up B1.out hb)
        clear hw1 hb y0 y1' y2 y3 y4 y5 y6 y7 y8
        cases bq
        · go_wp2_with fail
          go_ret
          exact ⟨by rw [HE.out]; rfl, B2.out⟩
        · go_wp2_with fail
          go_ret
          exact ⟨by rw [HE.out]; rfl, B2.out⟩
theorem counted_any (cols : List Col) (ac : Option Addr) (dc : Nat) (hcn : cols.length ≤ 140737488355328) : ∀ t, CountOk cols ac dc t := T.ind fun t ih => counted_step cols ac dc hcn t ih
set_option maxHeartbeats 2000000 in
theorem refMay_any (cols : List Col) (ac : Option Addr) (dc : Nat) (hcn : cols.length ≤ 140737488355328) (t : T) (w : World) (hL : Lst cc 3 w ac cols) (hm : MT w w.heap.size t) :
    Calls Try.prog 48 #[.slice ac cols.length dc, tv t] w fun r w' => r = .returned (.bool (chkQ cols t.abs)) ∧ Below w.heap.size w w' := by
  have HC := hid fun (W : World) (h : Below w.heap.size w W) => counted_any cols ac dc hcn t 1 0 W (by decide) (by decide) (hL.later h) (hm.later h)
  have HE : Hid ((chkQ cols t.abs = true ∧ cntF cols t.abs 1 0 ≤ 4096) ∨ (chkQ cols t.abs = false ∧ cntF cols t.abs 1 0 = 4097)) := by
    show _ ∨ _
    unfold chkQ cntF
    rw [show 65 - 1 = 64 from rfl, show 4096 - 0 = 4096 from rfl]
    by_cases h : mayQ cols t.abs 64 4096 = true
    · left
      refine ⟨h, ?_⟩
      rw [if_pos h]
      unfold mayQ at h
      simp only [Bool.and_eq_true, decide_eq_true_eq] at h
      omega
    · right
      exact ⟨by simpa using h, by rw [if_neg h]⟩
  have b1 := below_new w (.cells (ta t) 30)
  have y1 := Bx.new w (ta t) 30
  obtain ⟨w1, hw1⟩ : ∃ w1, w.alloc (.cells (ta t) 30) = w1 := ⟨_, rfl⟩
  rw [hw1] at b1 y1
  have Y := hid y1
  have B1 := hid b1
  have TX := hid fun (W : World) (h : Below w1.heap.size w1 W) => (Y.out.later h).prd
  obtain ⟨y0, y1', y2, y3, y4, y5, y6, y7, y8⟩ := Y.out.prd
  generalize chkQ cols t.abs = q at *
  generalize cntF cols t.abs 1 0 = n at *
  clear b1 y1 hL hm
  obtain ⟨⟨K, c, op, ⟨vK, vI, vb, vs⟩, l⟩, la, lc, kb, kc, kk⟩ := t
  simp only [T.h, T.la, T.lc, T.kb, T.kc, T.ks, tv, ta, T.pr, pv, pa, prH] at *
  go_enter Try.func48, Try.ntmps48
  go_wp2_with fail
  refine (HC.out _ B1.out).mono ?_
  rintro e w2 ⟨rfl, hb⟩
  have B2 := hid (below_up B1.out hb)
  clear hb hw1 y0 y1' y2 y3 y4 y5 y6 y7 y8
  rcases HE.out with ⟨h1, h2⟩ | ⟨h1, h2⟩
  · subst h1
    have hn : (n : Int) ≤ 4096 := by omega
    go_wp2_with fail
    go_ret
    exact ⟨rfl, B2.out⟩
  · subst h1 h2
    go_wp2_with fail
    go_ret
    exact ⟨rfl, B2.out⟩
end Go.Proofs.Ythgnibphhiaecaa
