import Derived.Test.YtflgmcmecnlgiaaGreatQTruAll
import Derived.Test.YtflgmcmecnlgiaaGreatQTAll
import Derived.Test.YtflgmcmecnlgiaaGreatARefKAll
import Derived.Test.YtflgmcmecnlgiaaGreatQFlAll
import Derived.Test.YtflgmcmecnlgiaaGreatQSam
import Derived.Test.YtflgmcmecnlgiaaGreatQDeep
import Derived.Test.YtflgmcmecnlgiaaGreatQAwk
import Derived.Test.YtflgmcmecnlgiaaGreatQArg
import Derived.ChangeMaps5
/-
  The document's Same of any two values, bare, counted, May. (Written by mkmay.py.)
-/
namespace Go.Proofs.YtflgmcmecnlgiaaGreat
open Go.ChangeShapes Go.WideShapes Go.ChangeAt Go.RowKit Cu Vl
attribute [local go_sem] run_store_float

def sameV (u v : V) : Bool := decide (u.K = v.K) && decide (u.I = v.I) && decide (u.s = v.s) && decide (u.b = v.b)
set_option maxRecDepth 8000 in
set_option maxHeartbeats 8000000 in
theorem same05_any (u v : V) (w : World) : Calls Tryz.prog 40 #[vv u, vv v] w fun e w' => e = .returned (.bool (sameV u v)) ∧ Below w.heap.size w w' := by
  have h1 := run_bits u.b
  have h2 := run_bits v.b
  obtain ⟨W0, hW0⟩ : ∃ W0, (w.alloc (.cells (va u) 25)).alloc (.cells (va v) 25) = W0 := ⟨_, rfl⟩
  obtain ⟨c0, c1, c2, c3, d0, d1, d2, d3, hB⟩ := two_cells u v hW0
  have HB := hid hB
  have HW := hid hW0
  clear hB hW0
  obtain ⟨K, I, b, s⟩ := u
  obtain ⟨K', I', b', s'⟩ := v
  have HD : Hid (sameV ⟨K, I, b, s⟩ ⟨K', I', b', s'⟩ = (decide (K = K') && decide (I = I') && decide (s = s') && decide (b = b'))) := rfl
  generalize sameV ⟨K, I, b, s⟩ ⟨K', I', b', s'⟩ = R at *
  unfold vv
  unfold va at HW
  dsimp only at *
  by_cases e1 : K = K'
  · by_cases e2 : I = I'
    · by_cases e3 : s = s'
      · by_cases e4 : b = b'
        · have HE : Hid (R = true) := by show _ = _; rw [HD.out]; simp [e1, e2, e3, e4]
          subst e1 e2 e3 e4
          have hs := str_eq s
          have q1 : (K == K) = true := by simp
          have q2 : (I == I) = true := by simp
          have q4 : ((b : Int) == (b : Int)) = true := by simp
          go_enter Tryz.func40, Tryz.ntmps40
          go_wp2_with fail
          rw [HW.out]
          go_quiet (fail)
          go_wp2_with fail
          go_ret
          exact ⟨by rw [HE.out]; rfl, below_drewN HB.out nq⟩
        · have HE : Hid (R = false) := by show _ = _; rw [HD.out]; simp [e4]
          subst e1 e2 e3
          have hs := str_eq s
          have q1 : (K == K) = true := by simp
          have q2 : (I == I) = true := by simp
          have q4 : ((b : Int) == (b' : Int)) = false := by simp; omega
          clear e4
          go_enter Tryz.func40, Tryz.ntmps40
          go_wp2_with fail
          rw [HW.out]
          go_quiet (fail)
          go_wp2_with fail
          go_ret
          exact ⟨by rw [HE.out]; rfl, below_drewN HB.out nq⟩
      · have HE : Hid (R = false) := by show _ = _; rw [HD.out]; simp [e3]
        subst e1 e2
        have hs := str_ne e3
        have q1 : (K == K) = true := by simp
        have q2 : (I == I) = true := by simp
        clear e3
        go_enter Tryz.func40, Tryz.ntmps40
        go_wp2_with fail
        rw [HW.out]
        go_quiet (fail)
        go_wp2_with fail
        go_ret
        exact ⟨by rw [HE.out]; rfl, below_drewN HB.out nq⟩
    · have HE : Hid (R = false) := by show _ = _; rw [HD.out]; simp [e2]
      subst e1
      have q1 : (K == K) = true := by simp
      have q2 : (I == I') = false := by simpa using e2
      clear e2
      go_enter Tryz.func40, Tryz.ntmps40
      go_wp2_with fail
      rw [HW.out]
      go_quiet (fail)
      go_wp2_with fail
      go_ret
      exact ⟨by rw [HE.out]; rfl, below_drewN HB.out nq⟩
  · have HE : Hid (R = false) := by show _ = _; rw [HD.out]; simp [e1]
    have q1 : (K == K') = false := by simpa using e1
    clear e1
    go_enter Tryz.func40, Tryz.ntmps40
    go_wp2_with fail
    rw [HW.out]
    go_quiet (fail)
    go_wp2_with fail
    go_ret
    exact ⟨by rw [HE.out]; rfl, below_drewN HB.out nq⟩
theorem same05_zero (v : V) (w : World) : Calls Tryz.prog 40 #[vv v, vv v0] w fun e w' => e = .returned (.bool (nulB v)) ∧ Below w.heap.size w w' := by
  have h := same05_any v v0 w
  rw [show sameV v v0 = nulB v by
    rw [Bool.eq_iff_iff, nul_iff]
    unfold sameV v0
    obtain ⟨K, I, b, s⟩ := v
    simp only [decide_eq_true_eq, Bool.and_eq_true, V.mk.injEq]
    constructor
    · rintro ⟨⟨⟨a, b⟩, d⟩, c⟩; exact ⟨a, b, c, d⟩
    · rintro ⟨a, b, c, d⟩; exact ⟨⟨⟨a, b⟩, d⟩, c⟩] at h
  exact h
set_option maxRecDepth 8000 in
set_option maxHeartbeats 8000000 in
theorem bare_any (t : T) (w : World) (hn : t.h.l.length ≤ 140737488355328) : Calls Tryz.prog 65 #[tv t] w fun e w' => e = .returned (.bool (bareH t.h)) ∧ Below w.heap.size w w' := by
  have HS := hid fun (W : World) => same05_zero t.h.v W
  have HD : Hid (bareH t.h = (decide (t.h.c = ⟨#[]⟩) && decide (t.h.op = 0) && nulB t.h.v && decide (t.h.l.length = 0))) := rfl
  have b1 := below_new w (.cells (ta t) 29)
  have y1 := Bx.new w (ta t) 29
  obtain ⟨w1, hw1⟩ : ∃ w1, w.alloc (.cells (ta t) 29) = w1 := ⟨_, rfl⟩
  rw [hw1] at b1 y1
  have Y := hid y1
  have B1 := hid b1
  have TX := hid fun (W : World) (h : Below w1.heap.size w1 W) => (Y.out.later h).prd
  obtain ⟨y0, y1', y2, y3, y4, y5, y6, y7, y8⟩ := Y.out.prd
  generalize bareH t.h = R at *
  generalize nulB t.h.v = q at *
  clear b1 y1
  obtain ⟨⟨K, c, op, ⟨vK, vI, vb, vs⟩, l⟩, la, lc, kb, kc, kk⟩ := t
  simp only [T.h, T.la, T.lc, T.kb, T.kc, T.ks, tv, ta, T.pr, pv, pa, prH] at *
  unfold vv v0 at HS
  dsimp only at *
  by_cases e1 : c = ⟨#[]⟩
  · by_cases e2 : op = 0
    · subst e1 e2
      have hs := str_eq ⟨#[]⟩
      cases q
      · have HE : Hid (R = false) := by show _ = _; rw [HD.out]; simp
        go_enter Tryz.func65, Tryz.ntmps65
        go_wp2_with fail
        refine (HS.out _).mono ?_
        rintro e w2 ⟨rfl, hb⟩
        have B2 := hid (below_up B1.out hb)
        clear hw1 hb y0 y1' y2 y3 y4 y5 y6 y7 y8
        go_wp2_with fail
        go_ret
        exact ⟨by rw [HE.out]; rfl, B2.out⟩
      · have HE : Hid (R = decide (l.length = 0)) := by show _ = _; rw [HD.out]; simp
        go_enter Tryz.func65, Tryz.ntmps65
        go_wp2_with fail
        refine (HS.out _).mono ?_
        rintro e w2 ⟨rfl, hb⟩
        have B2 := hid (below_up B1.out hb)
        have T2 := TX.out _ hb
        clear hw1 hb y0 y1' y2 y3 y4 y5 y6 y7 y8
        obtain ⟨y0, y1', y2, y3, y4, y5, y6, y7, y8⟩ := T2
        by_cases h0 : l.length = 0
        · have hq : ((l.length : Int) == 0) = true := beq_iff_eq.2 (by omega)
          have HE2 : Hid (R = true) := by show _ = _; rw [HE.out, decide_eq_true h0]
          clear h0 HE
          have HE := HE2
          go_wp2_with fail
          go_ret
          exact ⟨by rw [HE.out]; rfl, B2.out⟩
        · have hq : ((l.length : Int) == 0) = false := beq_eq_false_iff_ne.2 (by omega)
          have HE2 : Hid (R = false) := by show _ = _; rw [HE.out, decide_eq_false h0]
          go_wp2_with fail
          go_ret
          exact ⟨by rw [HE2.out]; rfl, B2.out⟩
    · have HE : Hid (R = false) := by show _ = _; rw [HD.out]; simp [e2]
      subst e1
      have hs := str_eq ⟨#[]⟩
      have q2 : (op == 0) = false := by simpa using e2
      clear e2
      go_enter Tryz.func65, Tryz.ntmps65
      go_wp2_with fail
      go_ret
      exact ⟨by rw [HE.out]; rfl, B1.out⟩
  · have HE : Hid (R = false) := by show _ = _; rw [HD.out]; simp [e1]
    have hs := str_ne e1
    have hs2 : c.toList.isEmpty = false := by
      cases h : c.toList.isEmpty with
      | false => rfl
      | true => exact absurd (ba_nil h) e1
    clear e1
    go_enter Tryz.func65, Tryz.ntmps65
    go_wp2_with fail
    go_ret
    exact ⟨by rw [HE.out]; rfl, B1.out⟩
set_option maxHeartbeats 1000000 in
theorem atom23_any (K : Int) (w : World) : Calls Tryz.prog 63 #[.int .i64 K] w fun e w' => e = .returned (.bool (decide (1 ≤ K ∧ K ≤ 5))) ∧ w' = w := by
  by_cases h1 : 1 ≤ K
  · by_cases h2 : K ≤ 5
    · rw [decide_eq_true ⟨h1, h2⟩]
      go_enter Tryz.func63, Tryz.ntmps63
      go_wp2_with fail
      go_ret
      exact ⟨rfl, rfl⟩
    · rw [decide_eq_false (by omega)]
      go_enter Tryz.func63, Tryz.ntmps63
      go_wp2_with fail
      go_ret
      exact ⟨rfl, rfl⟩
  · rw [decide_eq_false (by omega)]
    go_enter Tryz.func63, Tryz.ntmps63
    go_wp2_with fail
    go_ret
    exact ⟨rfl, rfl⟩
theorem atom23_yes {K : Int} (w : World) (h : 1 ≤ K ∧ K ≤ 5) : Calls Tryz.prog 63 #[.int .i64 K] w fun e w' => e = .returned (.bool true) ∧ w' = w := by
  have := atom23_any K w
  rw [decide_eq_true h] at this
  exact this
theorem atom23_no {K : Int} (w : World) (h : ¬ (1 ≤ K ∧ K ≤ 5)) : Calls Tryz.prog 63 #[.int .i64 K] w fun e w' => e = .returned (.bool false) ∧ w' = w := by
  have := atom23_any K w
  rw [decide_eq_false h] at this
  exact this
def cntF (cols : List Col) (q : Q) (depth sofar : Nat) : Nat := if mayQ cols q (65 - depth) (4096 - sofar) = true then sofar + q.sz else 4097
def cntI (cols : List Col) (ks : List Q) (depth sofar i : Nat) : Nat := if mayL cols (ks.take i) (64 - depth) (4095 - sofar) = true then sofar + 1 + szL (ks.take i) else 4097
theorem cntI_zero {cols : List Col} {ks : List Q} {depth sofar : Nat} : cntI cols ks depth sofar 0 = sofar + 1 := by
  unfold cntI
  rw [List.take_zero, mayL_nil, if_pos rfl]
  simp [szL]
theorem cntI_or {cols : List Col} {ks : List Q} {depth sofar : Nat} (hs : sofar < 4096) (i : Nat) : cntI cols ks depth sofar i ≤ 4096 ∨ cntI cols ks depth sofar i = 4097 := by
  unfold cntI
  split
  · rename_i h
    unfold mayL at h
    simp only [Bool.and_eq_true, decide_eq_true_eq] at h
    left
    omega
  · exact .inr rfl
theorem cntI_succ {cols : List Col} {ks : List Q} {depth sofar i : Nat} (hi : i < ks.length) (h : cntI cols ks depth sofar i ≤ 4096) : cntI cols ks depth sofar (i + 1) = cntF cols ks[i] (depth + 1) (cntI cols ks depth sofar i) := by
  unfold cntI at h
  split at h
  · rename_i hm
    have e : cntI cols ks depth sofar i = sofar + 1 + szL (ks.take i) := by unfold cntI; rw [if_pos hm]
    rw [e]
    unfold cntI cntF
    rw [mayL_snoc hi, szL_snoc hi, hm, Bool.true_and, show 65 - (depth + 1) = 64 - depth by omega, show 4096 - (sofar + 1 + szL (ks.take i)) = 4095 - sofar - szL (ks.take i) by omega]
    split
    · omega
    · rfl
  · omega
theorem cntF_big {cols : List Col} {q : Q} {depth sofar : Nat} (h : 64 < depth ∨ 4096 ≤ sofar) : cntF cols q depth sofar = 4097 := by
  unfold cntF
  rw [if_neg]
  unfold mayQ
  have h1 := q.dep_pos
  have h2 := q.sz_pos
  simp only [Bool.and_eq_true, decide_eq_true_eq]
  omega
theorem cntF_mk {cols : List Col} {h : Hd} {ks : List Q} {depth sofar : Nat} (hd : depth ≤ 64) (hs : sofar < 4096) : cntF cols (.mk h ks) depth sofar = if wfH cols h ks.length = true ∧ mayL cols ks (64 - depth) (4095 - sofar) = true then sofar + 1 + szL ks else 4097 := by
  unfold cntF
  rw [mayQ_mk, show 65 - depth - 1 = 64 - depth by omega, show 4096 - sofar - 1 = 4095 - sofar by omega, Q.sz]
  simp only [Bool.and_eq_true, decide_eq_true_eq]
  by_cases e : wfH cols h ks.length = true ∧ mayL cols ks (64 - depth) (4095 - sofar) = true
  · rw [if_pos e, if_pos ⟨⟨⟨by omega, by omega⟩, e.1⟩, e.2⟩]; omega
  · rw [if_neg e, if_neg (fun x => e ⟨x.1.2, x.2⟩)]
theorem cnt_bad {cols : List Col} {h : Hd} {ks : List Q} {depth sofar : Nat} (hd : depth ≤ 64) (hs : sofar < 4096) (hw : wfH cols h ks.length = false) : cntF cols (.mk h ks) depth sofar = 4097 := by
  rw [cntF_mk hd hs, if_neg (fun x => by rw [hw] at x; cases x.1)]
theorem cnt_all {cols : List Col} {h : Hd} {ks : List Q} {depth sofar : Nat} (hd : depth ≤ 64) (hs : sofar < 4096) (hw : wfH cols h ks.length = true) : cntF cols (.mk h ks) depth sofar = cntI cols ks depth sofar ks.length := by
  rw [cntF_mk hd hs]
  unfold cntI
  rw [List.take_length]
  simp only [hw, true_and]
theorem cnt_no {cols : List Col} {h : Hd} {ks : List Q} {depth sofar i : Nat} (hd : depth ≤ 64) (hs : sofar < 4096) (hn : cntI cols ks depth sofar i = 4097) : cntF cols (.mk h ks) depth sofar = 4097 := by
  rw [cntF_mk hd hs, if_neg]
  rintro ⟨_, hm⟩
  unfold cntI at hn
  cases hf : mayL cols (ks.take i) (64 - depth) (4095 - sofar) with
  | false => rw [mayL_no hf] at hm; cases hm
  | true =>
    rw [if_pos hf] at hn
    unfold mayL at hf
    simp only [Bool.and_eq_true, decide_eq_true_eq] at hf
    omega
theorem wf_other {cols : List Col} {h : Hd} {m : Nat} (hk : h.K < 0 ∨ 8 < h.K) : wfH cols h m = false := by
  cases hw : wfH cols h m with
  | false => rfl
  | true =>
    rcases wf_kind hw with ⟨e, _⟩ | ⟨e1, e2, _⟩ | ⟨e, _⟩ | ⟨e, _⟩
    · omega
    · omega
    · have := join_or e; omega
    · omega
def CountOk (cols : List Col) (ac : Option Addr) (dc : Nat) (t : T) : Prop := ∀ (depth sofar : Nat) (w : World), depth ≤ 65 → sofar ≤ 4096 → Lst cc 3 w ac cols → MT w w.heap.size t →
  Calls Tryz.prog 42 #[.slice ac cols.length dc, tv t, .int .i64 (depth : Int), .int .i64 (sofar : Int)] w fun r w' => r = .returned (.int .i64 (cntF cols t.abs depth sofar : Nat)) ∧ Below w.heap.size w w'
set_option maxRecDepth 8000 in
set_option maxHeartbeats 32000000 in
theorem counted_step (cols : List Col) (ac : Option Addr) (dc : Nat) (hcn : cols.length ≤ 140737488355328) (t : T) (ih : ∀ k ∈ t.ks, CountOk cols ac dc k) : CountOk cols ac dc t := by
  intro depth sofar w hd hs hL hm
  have hpok := hm.pok
  obtain ⟨h1, h2, h3, h4, h5⟩ := MT_iff.1 hm
  have hkn : t.ks.length ≤ 140737488355328 := by have := h3.n; omega
  have hln : t.h.l.length ≤ 140737488355328 := by have := h1.n; omega
  have HBa := hid fun (W : World) => bare_any t W hln
  have HCh := hid fun (W : World) (h : Below w.heap.size w W) => check18 ac cols dc t.pr t.la t.lc t.kb t.kc W (hL.later h) hcn (hpok.later h)
  have HA := hid fun (W : World) (h : Below w.heap.size w W) (i : Nat) (hi : i < t.ks.length) => (h4.1.later h).cell9 hi
  have b1 := below_new w (.cells (ta t) 29)
  have y1 := Bx.new w (ta t) 29
  obtain ⟨w1, hw1⟩ : ∃ w1, w.alloc (.cells (ta t) 29) = w1 := ⟨_, rfl⟩
  rw [hw1] at b1 y1
  have Y := hid y1
  have B1 := hid b1
  have TX := hid fun (W : World) (h : Below w1.heap.size w1 W) => (Y.out.later h).prd
  obtain ⟨y0, y1', y2, y3, y4, y5, y6, y7, y8⟩ := Y.out.prd
  by_cases hbig : 64 < depth ∨ 4096 ≤ sofar
  · have HE : Hid (cntF cols t.abs depth sofar = 4097) := cntF_big hbig
    generalize cntF cols t.abs depth sofar = R at *
    clear b1 y1 hm hpok h1 h2 h3 h4 h5 ih hL HBa HCh HA
    obtain ⟨⟨K, c, op, ⟨vK, vI, vb, vs⟩, l⟩, la, lc, kb, kc, kk⟩ := t
    simp only [T.h, T.la, T.lc, T.kb, T.kc, T.ks, tv, ta, T.pr, pv, pa, prH] at *
    by_cases hb2 : 64 < depth
    · have hdi : (64 : Int) < (depth : Int) := by omega
      go_enter Tryz.func42, Tryz.ntmps42
      go_wp2_with fail
      go_ret
      exact ⟨by rw [HE.out]; rfl, B1.out⟩
    · have hdi : (depth : Int) ≤ (64 : Int) := by omega
      obtain rfl : sofar = 4096 := by omega
      go_enter Tryz.func42, Tryz.ntmps42
      go_wp2_with fail
      go_ret
      exact ⟨by rw [HE.out]; rfl, B1.out⟩
  · have hd64 : depth ≤ 64 := by omega
    have hs64 : sofar < 4096 := by omega
    have hdi : (depth : Int) ≤ (64 : Int) := by omega
    have hsi : (sofar : Int) < (4096 : Int) := by omega
    have HKid := hid fun (i : Nat) (hi : i < t.ks.length) (n : Nat) (W : World) (hn : n ≤ 4096) (h : Below w.heap.size w W) => ih _ (List.getElem_mem hi) (depth + 1) n W (by omega) hn (hL.later h) ((h5 _ (List.getElem_mem hi)).later h)
    have HC0 := hid (cntI_zero (cols := cols) (ks := absL t.ks) (depth := depth) (sofar := sofar))
    have HCO := hid fun (i : Nat) => cntI_or (cols := cols) (ks := absL t.ks) (depth := depth) hs64 i
    have HCS := hid fun (i : Nat) (hi : i < t.ks.length) (h : cntI cols (absL t.ks) depth sofar i ≤ 4096) => show cntI cols (absL t.ks) depth sofar (i + 1) = cntF cols t.ks[i].abs (depth + 1) (cntI cols (absL t.ks) depth sofar i) by
      rw [cntI_succ (by rw [absL_len]; exact hi) h, absL_get hi]
    have HCN := hid fun (i : Nat) (h : cntI cols (absL t.ks) depth sofar i = 4097) => show cntF cols t.abs depth sofar = 4097 by rw [T.abs_eq]; exact cnt_no hd64 hs64 h
    have HCE := hid fun (h : wfH cols t.h t.ks.length = true) => show cntF cols t.abs depth sofar = cntI cols (absL t.ks) depth sofar t.ks.length by
      have := cnt_all (cols := cols) (h := t.h) (ks := absL t.ks) hd64 hs64 (by rw [absL_len]; exact h)
      rw [T.abs_eq, this, absL_len]
    have HCB := hid fun (h : wfH cols t.h t.ks.length = false) => show cntF cols t.abs depth sofar = 4097 by rw [T.abs_eq]; exact cnt_bad hd64 hs64 (by rw [absL_len]; exact h)
    have HAtm := hid fun (h : 1 ≤ t.h.K ∧ t.h.K ≤ 5) => show cntF cols t.abs depth sofar = if chkP cols t.pr = 0 then sofar + 1 else 4097 by
      have hw : wfH cols t.h t.ks.length = decide (chkP cols t.pr = 0) := by
        unfold wfH
        rw [if_neg (by omega), if_neg (by omega), if_neg (by omega)]
        rfl
      split
      · rename_i hc
        have h0 := (chk_kids hc).1
        have h0 : t.ks.length = 0 := h0
        have := cnt_all (cols := cols) (h := t.h) (ks := absL t.ks) hd64 hs64 (by rw [absL_len, hw, decide_eq_true hc])
        rw [T.abs_eq, this, absL_len, h0, cntI_zero]
      · rename_i hc
        rw [T.abs_eq]
        exact cnt_bad hd64 hs64 (by rw [absL_len, hw, decide_eq_false hc])
    have HW0 := hid fun (h : t.h.K = 0) => show (bareH t.h = true → t.ks.length = 0 → wfH cols t.h t.ks.length = true) ∧ (bareH t.h = false → wfH cols t.h t.ks.length = false) ∧ (t.ks.length ≠ 0 → wfH cols t.h t.ks.length = false) by
      have e : wfH cols t.h t.ks.length = (bareH t.h && decide (t.ks.length = 0)) := by unfold wfH; rw [if_pos h]
      rw [e]
      exact ⟨fun a b => by rw [a, decide_eq_true b]; rfl, fun a => by rw [a]; rfl, fun b => by rw [decide_eq_false b, Bool.and_false]⟩
    have HW6 := hid fun (h : t.h.K = 6 ∨ t.h.K = 7) => show (bareH t.h = true → 2 ≤ t.ks.length → wfH cols t.h t.ks.length = true) ∧ (bareH t.h = false → wfH cols t.h t.ks.length = false) ∧ (¬ 2 ≤ t.ks.length → wfH cols t.h t.ks.length = false) by
      have e : wfH cols t.h t.ks.length = (bareH t.h && decide (2 ≤ t.ks.length)) := by unfold wfH; rw [if_neg (by omega), if_pos h]
      rw [e]
      exact ⟨fun a b => by rw [a, decide_eq_true b]; rfl, fun a => by rw [a]; rfl, fun b => by rw [decide_eq_false b, Bool.and_false]⟩
    have HW8 := hid fun (h : t.h.K = 8) => show (bareH t.h = true → t.ks.length = 1 → wfH cols t.h t.ks.length = true) ∧ (bareH t.h = false → wfH cols t.h t.ks.length = false) ∧ (t.ks.length ≠ 1 → wfH cols t.h t.ks.length = false) by
      have e : wfH cols t.h t.ks.length = (bareH t.h && decide (t.ks.length = 1)) := by unfold wfH; rw [if_neg (by omega), if_neg (by omega), if_pos h]
      rw [e]
      exact ⟨fun a b => by rw [a, decide_eq_true b]; rfl, fun a => by rw [a]; rfl, fun b => by rw [decide_eq_false b, Bool.and_false]⟩
    have HWo := hid fun (h : t.h.K < 0 ∨ 8 < t.h.K) => wf_other (cols := cols) (h := t.h) (m := t.ks.length) h
    generalize hR : cntF cols t.abs depth sofar = R at *
    generalize hCI : cntI cols (absL t.ks) depth sofar = CI at *
    generalize wfH cols t.h t.ks.length = wq at *
    generalize bareH t.h = bq at *
    generalize chkP cols t.pr = cq at *
    obtain ⟨n9, hn9⟩ : ∃ n, sofar + 1 = n := ⟨_, rfl⟩
    have hsn : (sofar : Int) + 1 = (n9 : Int) := by omega
    have hsl : (n9 : Int) ≤ 4096 := by omega
    rw [hn9] at HC0 HAtm
    clear hsi hn9
    clear b1 y1 hm hpok h1 h2 h3 h4 h5 ih hL hbig hd hs hR hCI hs64 hd64
    obtain ⟨⟨K, c, op, ⟨vK, vI, vb, vs⟩, l⟩, la, lc, kb, kc, kk⟩ := t
    simp only [T.h, T.la, T.lc, T.kb, T.kc, T.ks, tv, ta, T.pr, pv, pa, prH] at *
    by_cases hat : 1 ≤ K ∧ K ≤ 5
    · have HAA := hid (HAtm.out hat)
      have HAt1 := hid fun (W : World) => atom23_yes W hat
      go_enter Tryz.func42, Tryz.ntmps42
      go_wp2_with (go_at_call 63; refine (HAt1.out _).mono ?_; rintro e wn ⟨rfl, hwn⟩; subst wn)
      refine (HCh.out _ B1.out).mono ?_
      rintro e w2 ⟨rfl, hb⟩
      have B2 := hid (below_up B1.out hb)
      clear hw1 hb y0 y1' y2 y3 y4 y5 y6 y7 y8
      by_cases hc : cq = 0
      · have HE : Hid (R = n9) := by show _ = _; rw [HAA.out, if_pos hc]
        subst hc
        go_wp2_with fail
        go_ret
        exact ⟨by rw [HE.out]; rfl, B2.out⟩
      · have HE : Hid (R = 4097) := by show _ = _; rw [HAA.out, if_neg hc]
        have hcb : (cq != 0) = true := by simpa using hc
        go_wp2_with fail
        go_ret
        exact ⟨by rw [HE.out]; rfl, B2.out⟩
    · have HAt1 := hid fun (W : World) => atom23_no W hat
      have hK : K = 0 ∨ K = 6 ∨ K = 7 ∨ K = 8 ∨ (K < 0 ∨ 8 < K) := by omega
      clear hat HCh HAtm
      rcases hK with hK | hK | hK | hK | hK
      · have HWw := hid (HW0.out hK)
        subst hK
        by_cases hlen : kk.length = 0
        · have hq0 : ((kk.length : Int) == 0) = true := beq_iff_eq.2 (by omega)
          have HLn := hid hlen
          clear hlen
          go_enter Tryz.func42, Tryz.ntmps42
          go_wp2_with (go_at_call 63; refine (HAt1.out _).mono ?_; rintro e wn ⟨rfl, hwn⟩; subst wn)
          refine (HBa.out _).mono ?_
          rintro e w2 ⟨rfl, hb⟩
          have B2 := hid (below_up B1.out hb)
          have C2 := hid hb
          clear hw1 hb y0 y1' y2 y3 y4 y5 y6 y7 y8
          cases bq
          · have HE : Hid (R = 4097) := HCB.out (HWw.out.2.1 rfl)
            go_wp2_with fail
            go_ret
            exact ⟨by rw [HE.out]; rfl, B2.out⟩
          · have HW : Hid (wq = true) := HWw.out.1 rfl HLn.out
            go_wp2_with fail
            go_loopw [9, 15] (fun nx ix wr => ∃ i : Nat, i ≤ kk.length ∧ nx = .int .i64 (CI i : Nat) ∧ ix = .int .i64 i ∧ Hid (Below w1.heap.size w1 wr)) (fun _ ix _ => kk.length - (intOf ix).toNat)
            case atStart => exact ⟨0, Nat.zero_le _, by rw [HC0.out], rfl, C2.out⟩
            case round =>
              clear C2 B2
              obtain ⟨i, hi, rfl, rfl, HB⟩ := hrel
              rename World => wr
              have HBw := hid (below_up B1.out HB.out)
              by_cases hlt : i < kk.length
              · have hii : (i : Int) < (kk.length : Int) := by omega
                by_cases hle : CI i ≤ 4096
                · have hlei : (CI i : Int) ≤ 4096 := by omega
                  obtain ⟨y0, y1', y2, y3, y4, y5, y6, y7, y8⟩ := TX.out _ HB.out
                  obtain ⟨g, o, rfl, _, k0, k1, k2, k3, k4, k5, k6, k7, k8⟩ := HA.out wr HBw.out i hlt
                  have HCl := hid (HKid.out i hlt (CI i) wr hle HBw.out)
                  have HSi := hid (HCS.out i hlt hle)
                  rw [← HSi.out] at HCl
                  have HX := hid (show ((CI (i + 1) : Nat) : Int) = ((CI (i + 1) : Nat) : Int) from rfl)
                  generalize CI (i + 1) = n1 at HCl HSi HX
                  have HSx : Hid (n1 = CI (i + 1)) := by show _ = _; rw [HSi.out, HCS.out i hlt hle]
                  clear HSi HX
                  have hn9 : (0 : Int) ≤ (CI i : Int) := by omega
                  generalize CI i = n at *
                  generalize kk[i] = k at *
                  obtain ⟨⟨kK, kcc, kop, ⟨kvK, kvI, kvb, kvs⟩, kl⟩, kla, klc, kkb, kkc, kks⟩ := k
                  dsimp only at *
                  go_wp2_with fail
                  refine HCl.out.mono ?_
                  rintro e w3 ⟨rfl, hb⟩
                  have HB2 := hid (below_up HB.out hb)
                  clear hb y0 y1' y2 y3 y4 y5 y6 y7 y8 k0 k1 k2 k3 k4 k5 k6 k7 k8
                  go_wp2_with fail
                  exact ⟨⟨i + 1, by omega, by rw [HSx.out], by go_num, HB2⟩, by simp [intOf]; omega⟩
                · have h97 : CI i = 4097 := by rcases HCO.out i with h | h <;> omega
                  have HE := hid (HCN.out i h97)
                  rw [h97]
                  clear hle h97
                  go_wp2_with fail
                  go_ret
                  exact ⟨by rw [HE.out]; rfl, HBw.out⟩
              · obtain rfl : i = kk.length := by omega
                have HE : Hid (R = CI kk.length) := HCE.out HW.out
                generalize CI kk.length = n at *
                go_wp2_with fail
                go_ret
                exact ⟨by rw [HE.out]; rfl, HBw.out⟩
        · have hq0 : ((kk.length : Int) == 0) = false := beq_eq_false_iff_ne.2 (by omega)
          have HE : Hid (R = 4097) := HCB.out (HWw.out.2.2 hlen)
          clear hlen
          go_enter Tryz.func42, Tryz.ntmps42
          go_wp2_with (go_at_call 63; refine (HAt1.out _).mono ?_; rintro e wn ⟨rfl, hwn⟩; subst wn)
          refine (HBa.out _).mono ?_
          rintro e w2 ⟨rfl, hb⟩
          have B2 := hid (below_up B1.out hb)
          have C2 := hid hb
          clear hw1 hb y0 y1' y2 y3 y4 y5 y6 y7 y8
          cases bq
          · go_wp2_with fail
            go_ret
            exact ⟨by rw [HE.out]; rfl, B2.out⟩
          · go_wp2_with fail
            all_goals first
              | (exfalso; simp only [Bool.not_eq_false', decide_eq_true_eq] at *; omega)
              | (go_ret; exact ⟨by rw [HE.out]; rfl, B2.out⟩)
      · have HWw := hid (HW6.out (.inl hK))
        subst hK
        by_cases hlen : 2 ≤ kk.length
        · have hq0 : (2 : Int) ≤ (kk.length : Int) := by omega
          have HLn := hid hlen
          clear hlen
          go_enter Tryz.func42, Tryz.ntmps42
          go_wp2_with (go_at_call 63; refine (HAt1.out _).mono ?_; rintro e wn ⟨rfl, hwn⟩; subst wn)
          refine (HBa.out _).mono ?_
          rintro e w2 ⟨rfl, hb⟩
          have B2 := hid (below_up B1.out hb)
          have C2 := hid hb
          clear hw1 hb y0 y1' y2 y3 y4 y5 y6 y7 y8
          cases bq
          · have HE : Hid (R = 4097) := HCB.out (HWw.out.2.1 rfl)
            go_wp2_with fail
            go_ret
            exact ⟨by rw [HE.out]; rfl, B2.out⟩
          · have HW : Hid (wq = true) := HWw.out.1 rfl HLn.out
            go_wp2_with fail
            go_loopw [9, 15] (fun nx ix wr => ∃ i : Nat, i ≤ kk.length ∧ nx = .int .i64 (CI i : Nat) ∧ ix = .int .i64 i ∧ Hid (Below w1.heap.size w1 wr)) (fun _ ix _ => kk.length - (intOf ix).toNat)
            case atStart => exact ⟨0, Nat.zero_le _, by rw [HC0.out], rfl, C2.out⟩
            case round =>
              clear C2 B2
              obtain ⟨i, hi, rfl, rfl, HB⟩ := hrel
              rename World => wr
              have HBw := hid (below_up B1.out HB.out)
              by_cases hlt : i < kk.length
              · have hii : (i : Int) < (kk.length : Int) := by omega
                by_cases hle : CI i ≤ 4096
                · have hlei : (CI i : Int) ≤ 4096 := by omega
                  obtain ⟨y0, y1', y2, y3, y4, y5, y6, y7, y8⟩ := TX.out _ HB.out
                  obtain ⟨g, o, rfl, _, k0, k1, k2, k3, k4, k5, k6, k7, k8⟩ := HA.out wr HBw.out i hlt
                  have HCl := hid (HKid.out i hlt (CI i) wr hle HBw.out)
                  have HSi := hid (HCS.out i hlt hle)
                  rw [← HSi.out] at HCl
                  have HX := hid (show ((CI (i + 1) : Nat) : Int) = ((CI (i + 1) : Nat) : Int) from rfl)
                  generalize CI (i + 1) = n1 at HCl HSi HX
                  have HSx : Hid (n1 = CI (i + 1)) := by show _ = _; rw [HSi.out, HCS.out i hlt hle]
                  clear HSi HX
                  have hn9 : (0 : Int) ≤ (CI i : Int) := by omega
                  generalize CI i = n at *
                  generalize kk[i] = k at *
                  obtain ⟨⟨kK, kcc, kop, ⟨kvK, kvI, kvb, kvs⟩, kl⟩, kla, klc, kkb, kkc, kks⟩ := k
                  dsimp only at *
                  go_wp2_with fail
                  refine HCl.out.mono ?_
                  rintro e w3 ⟨rfl, hb⟩
                  have HB2 := hid (below_up HB.out hb)
                  clear hb y0 y1' y2 y3 y4 y5 y6 y7 y8 k0 k1 k2 k3 k4 k5 k6 k7 k8
                  go_wp2_with fail
                  exact ⟨⟨i + 1, by omega, by rw [HSx.out], by go_num, HB2⟩, by simp [intOf]; omega⟩
                · have h97 : CI i = 4097 := by rcases HCO.out i with h | h <;> omega
                  have HE := hid (HCN.out i h97)
                  rw [h97]
                  clear hle h97
                  go_wp2_with fail
                  go_ret
                  exact ⟨by rw [HE.out]; rfl, HBw.out⟩
              · obtain rfl : i = kk.length := by omega
                have HE : Hid (R = CI kk.length) := HCE.out HW.out
                generalize CI kk.length = n at *
                go_wp2_with fail
                go_ret
                exact ⟨by rw [HE.out]; rfl, HBw.out⟩
        · have hq0 : ¬ (2 : Int) ≤ (kk.length : Int) := by omega
          have hq1 : (kk.length : Int) < 2 := by omega
          have HE : Hid (R = 4097) := HCB.out (HWw.out.2.2 hlen)
          clear hlen
          go_enter Tryz.func42, Tryz.ntmps42
          go_wp2_with (go_at_call 63; refine (HAt1.out _).mono ?_; rintro e wn ⟨rfl, hwn⟩; subst wn)
          refine (HBa.out _).mono ?_
          rintro e w2 ⟨rfl, hb⟩
          have B2 := hid (below_up B1.out hb)
          have C2 := hid hb
          clear hw1 hb y0 y1' y2 y3 y4 y5 y6 y7 y8
          cases bq
          · go_wp2_with fail
            go_ret
            exact ⟨by rw [HE.out]; rfl, B2.out⟩
          · go_wp2_with fail
            all_goals first
              | (exfalso; simp only [Bool.not_eq_false', decide_eq_true_eq] at *; omega)
              | (go_ret; exact ⟨by rw [HE.out]; rfl, B2.out⟩)
      · have HWw := hid (HW6.out (.inr hK))
        subst hK
        by_cases hlen : 2 ≤ kk.length
        · have hq0 : (2 : Int) ≤ (kk.length : Int) := by omega
          have HLn := hid hlen
          clear hlen
          go_enter Tryz.func42, Tryz.ntmps42
          go_wp2_with (go_at_call 63; refine (HAt1.out _).mono ?_; rintro e wn ⟨rfl, hwn⟩; subst wn)
          refine (HBa.out _).mono ?_
          rintro e w2 ⟨rfl, hb⟩
          have B2 := hid (below_up B1.out hb)
          have C2 := hid hb
          clear hw1 hb y0 y1' y2 y3 y4 y5 y6 y7 y8
          cases bq
          · have HE : Hid (R = 4097) := HCB.out (HWw.out.2.1 rfl)
            go_wp2_with fail
            go_ret
            exact ⟨by rw [HE.out]; rfl, B2.out⟩
          · have HW : Hid (wq = true) := HWw.out.1 rfl HLn.out
            go_wp2_with fail
            go_loopw [9, 15] (fun nx ix wr => ∃ i : Nat, i ≤ kk.length ∧ nx = .int .i64 (CI i : Nat) ∧ ix = .int .i64 i ∧ Hid (Below w1.heap.size w1 wr)) (fun _ ix _ => kk.length - (intOf ix).toNat)
            case atStart => exact ⟨0, Nat.zero_le _, by rw [HC0.out], rfl, C2.out⟩
            case round =>
              clear C2 B2
              obtain ⟨i, hi, rfl, rfl, HB⟩ := hrel
              rename World => wr
              have HBw := hid (below_up B1.out HB.out)
              by_cases hlt : i < kk.length
              · have hii : (i : Int) < (kk.length : Int) := by omega
                by_cases hle : CI i ≤ 4096
                · have hlei : (CI i : Int) ≤ 4096 := by omega
                  obtain ⟨y0, y1', y2, y3, y4, y5, y6, y7, y8⟩ := TX.out _ HB.out
                  obtain ⟨g, o, rfl, _, k0, k1, k2, k3, k4, k5, k6, k7, k8⟩ := HA.out wr HBw.out i hlt
                  have HCl := hid (HKid.out i hlt (CI i) wr hle HBw.out)
                  have HSi := hid (HCS.out i hlt hle)
                  rw [← HSi.out] at HCl
                  have HX := hid (show ((CI (i + 1) : Nat) : Int) = ((CI (i + 1) : Nat) : Int) from rfl)
                  generalize CI (i + 1) = n1 at HCl HSi HX
                  have HSx : Hid (n1 = CI (i + 1)) := by show _ = _; rw [HSi.out, HCS.out i hlt hle]
                  clear HSi HX
                  have hn9 : (0 : Int) ≤ (CI i : Int) := by omega
                  generalize CI i = n at *
                  generalize kk[i] = k at *
                  obtain ⟨⟨kK, kcc, kop, ⟨kvK, kvI, kvb, kvs⟩, kl⟩, kla, klc, kkb, kkc, kks⟩ := k
                  dsimp only at *
                  go_wp2_with fail
                  refine HCl.out.mono ?_
                  rintro e w3 ⟨rfl, hb⟩
                  have HB2 := hid (below_up HB.out hb)
                  clear hb y0 y1' y2 y3 y4 y5 y6 y7 y8 k0 k1 k2 k3 k4 k5 k6 k7 k8
                  go_wp2_with fail
                  exact ⟨⟨i + 1, by omega, by rw [HSx.out], by go_num, HB2⟩, by simp [intOf]; omega⟩
                · have h97 : CI i = 4097 := by rcases HCO.out i with h | h <;> omega
                  have HE := hid (HCN.out i h97)
                  rw [h97]
                  clear hle h97
                  go_wp2_with fail
                  go_ret
                  exact ⟨by rw [HE.out]; rfl, HBw.out⟩
              · obtain rfl : i = kk.length := by omega
                have HE : Hid (R = CI kk.length) := HCE.out HW.out
                generalize CI kk.length = n at *
                go_wp2_with fail
                go_ret
                exact ⟨by rw [HE.out]; rfl, HBw.out⟩
        · have hq0 : ¬ (2 : Int) ≤ (kk.length : Int) := by omega
          have hq1 : (kk.length : Int) < 2 := by omega
          have HE : Hid (R = 4097) := HCB.out (HWw.out.2.2 hlen)
          clear hlen
          go_enter Tryz.func42, Tryz.ntmps42
          go_wp2_with (go_at_call 63; refine (HAt1.out _).mono ?_; rintro e wn ⟨rfl, hwn⟩; subst wn)
          refine (HBa.out _).mono ?_
          rintro e w2 ⟨rfl, hb⟩
          have B2 := hid (below_up B1.out hb)
          have C2 := hid hb
          clear hw1 hb y0 y1' y2 y3 y4 y5 y6 y7 y8
          cases bq
          · go_wp2_with fail
            go_ret
            exact ⟨by rw [HE.out]; rfl, B2.out⟩
          · go_wp2_with fail
            all_goals first
              | (exfalso; simp only [Bool.not_eq_false', decide_eq_true_eq] at *; omega)
              | (go_ret; exact ⟨by rw [HE.out]; rfl, B2.out⟩)
      · have HWw := hid (HW8.out hK)
        subst hK
        by_cases hlen : kk.length = 1
        · have hq0 : ((kk.length : Int) == 1) = true := beq_iff_eq.2 (by omega)
          have HLn := hid hlen
          clear hlen
          go_enter Tryz.func42, Tryz.ntmps42
          go_wp2_with (go_at_call 63; refine (HAt1.out _).mono ?_; rintro e wn ⟨rfl, hwn⟩; subst wn)
          refine (HBa.out _).mono ?_
          rintro e w2 ⟨rfl, hb⟩
          have B2 := hid (below_up B1.out hb)
          have C2 := hid hb
          clear hw1 hb y0 y1' y2 y3 y4 y5 y6 y7 y8
          cases bq
          · have HE : Hid (R = 4097) := HCB.out (HWw.out.2.1 rfl)
            go_wp2_with fail
            go_ret
            exact ⟨by rw [HE.out]; rfl, B2.out⟩
          · have HW : Hid (wq = true) := HWw.out.1 rfl HLn.out
            go_wp2_with fail
            go_loopw [9, 15] (fun nx ix wr => ∃ i : Nat, i ≤ kk.length ∧ nx = .int .i64 (CI i : Nat) ∧ ix = .int .i64 i ∧ Hid (Below w1.heap.size w1 wr)) (fun _ ix _ => kk.length - (intOf ix).toNat)
            case atStart => exact ⟨0, Nat.zero_le _, by rw [HC0.out], rfl, C2.out⟩
            case round =>
              clear C2 B2
              obtain ⟨i, hi, rfl, rfl, HB⟩ := hrel
              rename World => wr
              have HBw := hid (below_up B1.out HB.out)
              by_cases hlt : i < kk.length
              · have hii : (i : Int) < (kk.length : Int) := by omega
                by_cases hle : CI i ≤ 4096
                · have hlei : (CI i : Int) ≤ 4096 := by omega
                  obtain ⟨y0, y1', y2, y3, y4, y5, y6, y7, y8⟩ := TX.out _ HB.out
                  obtain ⟨g, o, rfl, _, k0, k1, k2, k3, k4, k5, k6, k7, k8⟩ := HA.out wr HBw.out i hlt
                  have HCl := hid (HKid.out i hlt (CI i) wr hle HBw.out)
                  have HSi := hid (HCS.out i hlt hle)
                  rw [← HSi.out] at HCl
                  have HX := hid (show ((CI (i + 1) : Nat) : Int) = ((CI (i + 1) : Nat) : Int) from rfl)
                  generalize CI (i + 1) = n1 at HCl HSi HX
                  have HSx : Hid (n1 = CI (i + 1)) := by show _ = _; rw [HSi.out, HCS.out i hlt hle]
                  clear HSi HX
                  have hn9 : (0 : Int) ≤ (CI i : Int) := by omega
                  generalize CI i = n at *
                  generalize kk[i] = k at *
                  obtain ⟨⟨kK, kcc, kop, ⟨kvK, kvI, kvb, kvs⟩, kl⟩, kla, klc, kkb, kkc, kks⟩ := k
                  dsimp only at *
                  go_wp2_with fail
                  refine HCl.out.mono ?_
                  rintro e w3 ⟨rfl, hb⟩
                  have HB2 := hid (below_up HB.out hb)
                  clear hb y0 y1' y2 y3 y4 y5 y6 y7 y8 k0 k1 k2 k3 k4 k5 k6 k7 k8
                  go_wp2_with fail
                  exact ⟨⟨i + 1, by omega, by rw [HSx.out], by go_num, HB2⟩, by simp [intOf]; omega⟩
                · have h97 : CI i = 4097 := by rcases HCO.out i with h | h <;> omega
                  have HE := hid (HCN.out i h97)
                  rw [h97]
                  clear hle h97
                  go_wp2_with fail
                  go_ret
                  exact ⟨by rw [HE.out]; rfl, HBw.out⟩
              · obtain rfl : i = kk.length := by omega
                have HE : Hid (R = CI kk.length) := HCE.out HW.out
                generalize CI kk.length = n at *
                go_wp2_with fail
                go_ret
                exact ⟨by rw [HE.out]; rfl, HBw.out⟩
        · have hq0 : ((kk.length : Int) == 1) = false := beq_eq_false_iff_ne.2 (by omega)
          have HE : Hid (R = 4097) := HCB.out (HWw.out.2.2 hlen)
          clear hlen
          go_enter Tryz.func42, Tryz.ntmps42
          go_wp2_with (go_at_call 63; refine (HAt1.out _).mono ?_; rintro e wn ⟨rfl, hwn⟩; subst wn)
          refine (HBa.out _).mono ?_
          rintro e w2 ⟨rfl, hb⟩
          have B2 := hid (below_up B1.out hb)
          have C2 := hid hb
          clear hw1 hb y0 y1' y2 y3 y4 y5 y6 y7 y8
          cases bq
          · go_wp2_with fail
            go_ret
            exact ⟨by rw [HE.out]; rfl, B2.out⟩
          · go_wp2_with fail
            all_goals first
              | (exfalso; simp only [Bool.not_eq_false', decide_eq_true_eq] at *; omega)
              | (go_ret; exact ⟨by rw [HE.out]; rfl, B2.out⟩)
      · have HE : Hid (R = 4097) := HCB.out (HWo.out hK)
        have q0 : (K == 0) = false := by simp; omega
        have q6 : (K == 6) = false := by simp; omega
        have q7 : (K == 7) = false := by simp; omega
        have q8 : (K == 8) = false := by simp; omega
        clear hK
        go_enter Tryz.func42, Tryz.ntmps42
        go_wp2_with (go_at_call 63; refine (HAt1.out _).mono ?_; rintro e wn ⟨rfl, hwn⟩; subst wn)
        refine (HBa.out _).mono ?_
        rintro e w2 ⟨rfl, hb⟩
        have B2 := hid (below_up B1.out hb)
        clear hw1 hb y0 y1' y2 y3 y4 y5 y6 y7 y8
        cases bq
        · go_wp2_with fail
          go_ret
          exact ⟨by rw [HE.out]; rfl, B2.out⟩
        · go_wp2_with fail
          go_ret
          exact ⟨by rw [HE.out]; rfl, B2.out⟩
theorem counted_any (cols : List Col) (ac : Option Addr) (dc : Nat) (hcn : cols.length ≤ 140737488355328) : ∀ t, CountOk cols ac dc t := T.ind fun t ih => counted_step cols ac dc hcn t ih
set_option maxHeartbeats 2000000 in
theorem refMay_any (cols : List Col) (ac : Option Addr) (dc : Nat) (hcn : cols.length ≤ 140737488355328) (t : T) (w : World) (hL : Lst cc 3 w ac cols) (hm : MT w w.heap.size t) :
    Calls Tryz.prog 13 #[.slice ac cols.length dc, tv t] w fun r w' => r = .returned (.bool (chkQ cols t.abs)) ∧ Below w.heap.size w w' := by
  have HC := hid fun (W : World) (h : Below w.heap.size w W) => counted_any cols ac dc hcn t 1 0 W (by decide) (by decide) (hL.later h) (hm.later h)
  have HE : Hid ((chkQ cols t.abs = true ∧ cntF cols t.abs 1 0 ≤ 4096) ∨ (chkQ cols t.abs = false ∧ cntF cols t.abs 1 0 = 4097)) := by
    show _ ∨ _
    unfold chkQ cntF
    rw [show 65 - 1 = 64 from rfl, show 4096 - 0 = 4096 from rfl]
    by_cases h : mayQ cols t.abs 64 4096 = true
    · left
      refine ⟨h, ?_⟩
      rw [if_pos h]
      unfold mayQ at h
      simp only [Bool.and_eq_true, decide_eq_true_eq] at h
      omega
    · right
      exact ⟨by simpa using h, by rw [if_neg h]⟩
  have b1 := below_new w (.cells (ta t) 29)
  have y1 := Bx.new w (ta t) 29
  obtain ⟨w1, hw1⟩ : ∃ w1, w.alloc (.cells (ta t) 29) = w1 := ⟨_, rfl⟩
  rw [hw1] at b1 y1
  have Y := hid y1
  have B1 := hid b1
  have TX := hid fun (W : World) (h : Below w1.heap.size w1 W) => (Y.out.later h).prd
  obtain ⟨y0, y1', y2, y3, y4, y5, y6, y7, y8⟩ := Y.out.prd
  generalize chkQ cols t.abs = q at *
  generalize cntF cols t.abs 1 0 = n at *
  clear b1 y1 hL hm
  obtain ⟨⟨K, c, op, ⟨vK, vI, vb, vs⟩, l⟩, la, lc, kb, kc, kk⟩ := t
  simp only [T.h, T.la, T.lc, T.kb, T.kc, T.ks, tv, ta, T.pr, pv, pa, prH] at *
  go_enter Tryz.func13, Tryz.ntmps13
  go_wp2_with fail
  refine (HC.out _ B1.out).mono ?_
  rintro e w2 ⟨rfl, hb⟩
  have B2 := hid (below_up B1.out hb)
  clear hb hw1 y0 y1' y2 y3 y4 y5 y6 y7 y8
  rcases HE.out with ⟨h1, h2⟩ | ⟨h1, h2⟩
  · subst h1
    have hn : (n : Int) ≤ 4096 := by omega
    go_wp2_with fail
    go_ret
    exact ⟨rfl, B2.out⟩
  · subst h1 h2
    go_wp2_with fail
    go_ret
    exact ⟨rfl, B2.out⟩
end Go.Proofs.YtflgmcmecnlgiaaGreat

/-
  QuerySame, walked. (Written by mksame2.py.)
-/
namespace Go.Proofs.YtflgmcmecnlgiaaGreat
open Go.ChangeShapes Go.WideShapes Go.ChangeAt Go.RowKit Cu Vl
attribute [local go_sem] run_store_float

theorem at_v {cols : List Col} {row : List V} (h : rowB cols row = true) : AtV cols row := fun c hc => by
  obtain ⟨i, hi, hil⟩ := find_at hc
  have hir : i < row.length := by rw [rowB_len h]; exact hil
  unfold valAt
  rw [hi, List.getD_eq_getElem?_getD, show ((i : Int)).toNat = i by omega, List.getElem?_eq_getElem hir]
  have hf := rowB_at h hil hir
  unfold fitB fitsB at hf
  show mayV row[i] = true
  cases hm : mayV row[i] with
  | true => rfl
  | false =>
    rw [hm] at hf
    simp at hf
/-- Not of a predicate, in memory. -/
def nT (g : Nat) (x : T) : T := .mk (hdK 8) none 0 (some ⟨g, 0, none⟩) 1 [x]
theorem nT_abs (g : Nat) (x : T) : (nT g x).abs = .mk (hdK 8) [x.abs] := rfl
theorem nT_mt {W : World} {g : Nat} {x : T} (hk : Lst tc 9 W (some ⟨g, 0, none⟩) [x]) (hx : MT W W.heap.size x) : MT W W.heap.size (nT g x) := MT_iff.2 ⟨hdK_ok 8 ⟨by decide, by decide⟩, .nil, ⟨(by show 1 * 120 ≤ 140737488355328; decide), fun e => by cases e⟩, .of hk (Nat.le_refl _), fun k hk => by
  simp only [nT, T.ks, List.mem_singleton] at hk
  subst hk
  exact hx⟩
set_option maxRecDepth 8000 in
set_option maxHeartbeats 32000000 in
theorem querySame_any (cols : List Col) (row : List V) (ac : Option Addr) (dc : Nat) (ar : Option Addr) (dr : Nat) (t : T) (w : World) (hC : ColC w ac cols) (hr : Lst vc 4 w ar row) (hrn : row.length ≤ 140737488355328) (hok : ∀ v ∈ row, VOk v) (hm : MT w w.heap.size t) :
    Calls Tryz.prog 3 #[.slice ac cols.length dc, tv t, .slice ar row.length dr] w fun r w' => r = .returned (.bool true) ∧ Below w.heap.size w w' := by
  have HD := hid fun (W : World) (h : Below w.heap.size w W) => deepT_any t W (hm.later h)
  have HA := hid fun (W : World) => awake_any W
  have HOf := hid fun (W : World) (h : Below w.heap.size w W) => of_any cols row ac dc ar dr W (hC.later h).cl (hr.later h) hC.cn hrn hok
  have HCp := hid fun (W : World) (h : Below w.heap.size w W) => checkPred_any cols ac dc t W (hC.later h) (hm.later h)
  have HCt := hid fun (W : World) (h : Below w.heap.size w W) (x : T) (hx : MT W W.heap.size x) => callTruth_any cols row ac dc ar dr x W (hC.later h) (hr.later h) hrn hok hx
  have HMy := hid fun (W : World) (h : Below w.heap.size w W) (x : T) (hx : MT W W.heap.size x) => refMay_any cols ac dc hC.cn x W (hC.later h).cl hx
  have HMt := hid fun (W : World) (h : Below w.heap.size w W) => hm.later h
  have HNt := hid fun (x : Int) (W : World) => Tr.refNot_any x W
  obtain ⟨A, hA⟩ : ∃ A, plQ false t.abs = A := ⟨_, rfl⟩
  obtain ⟨B, hB⟩ : ∃ B, plQ true t.abs = B := ⟨_, rfl⟩
  have HP : Hid (cpE cols t.abs = 0 → ∀ (W : World), Below w.heap.size w W → Calls Tryz.prog 11 #[tv t] W fun r w' => ∃ q : T, r = .returned (tv q) ∧ q.abs = A ∧ FT w' W.heap.size q ∧ Below W.heap.size W w') := fun hc W h => by
    have hq := (cpE_ok.1 hc).2
    unfold chkQ mayQ at hq
    simp only [Bool.and_eq_true, decide_eq_true_eq] at hq
    rw [← hA]
    exact plain_any t W (hm.later h) (by unfold top40; omega)
  have HP1 : Hid (cpE cols t.abs = 0 → ∀ (W : World) (ga : Nat), Below w.heap.size w W → Lst tc 9 W (some ⟨ga, 0, none⟩) [t] → Calls Tryz.prog 11 #[tv (nT ga t)] W fun r w' => ∃ q : T, r = .returned (tv q) ∧ q.abs = B ∧ FT w' W.heap.size q ∧ Below W.heap.size W w') := fun hc W ga h hl => by
    have hq := (cpE_ok.1 hc).2
    unfold chkQ mayQ at hq
    simp only [Bool.and_eq_true, decide_eq_true_eq] at hq
    have h1 := plain_any (nT ga t) W (nT_mt hl (hm.later h)) (by rw [nT_abs, Q.sz]; simp only [szL]; unfold top40; omega)
    rw [nT_abs, plQ_not rfl] at h1
    rw [← hB]
    exact h1
  have HP2 : Hid (cpE cols t.abs = 0 → ∀ (W : World) (ga gb : Nat), Below w.heap.size w W → Lst tc 9 W (some ⟨ga, 0, none⟩) [t] → Lst tc 9 W (some ⟨gb, 0, none⟩) [nT ga t] → Calls Tryz.prog 11 #[tv (nT gb (nT ga t))] W fun r w' => ∃ q : T, r = .returned (tv q) ∧ q.abs = A ∧ FT w' W.heap.size q ∧ Below W.heap.size W w') := fun hc W ga gb h hl hl2 => by
    have hq := (cpE_ok.1 hc).2
    unfold chkQ mayQ at hq
    simp only [Bool.and_eq_true, decide_eq_true_eq] at hq
    have h1 := plain_any (nT gb (nT ga t)) W (nT_mt hl2 (nT_mt hl (hm.later h))) (by rw [nT_abs, nT_abs, Q.sz]; simp only [szL, Q.sz]; unfold top40; omega)
    rw [nT_abs, nT_abs, plQ_not rfl, plQ_not rfl] at h1
    rw [← hA]
    exact h1
  have HF : Hid (cpE cols t.abs = 0 → (chkQ cols A = true → A.sz ≤ 4096) ∧ (chkQ cols A = false → 4096 < A.sz) ∧ (chkQ cols B = false → 4096 < B.sz ∨ 64 < B.dep) ∧ A.sz ≤ 1000000 ∧ B.sz ≤ 1000000 ∧ B.dep ≤ 1000000) := fun hc => by
    have hq := (cpE_ok.1 hc).2
    unfold chkQ mayQ at hq
    simp only [Bool.and_eq_true, decide_eq_true_eq] at hq
    obtain ⟨⟨hw, hd⟩, hs⟩ := hq
    have a1 := wf_pl t.abs hw false
    have a2 := dep_pl t.abs false
    have a3 := sz_pl t.abs false
    have b1 := wf_pl t.abs hw true
    have b2 := dep_pl t.abs true
    have b3 := sz_pl t.abs true
    rw [hA] at a1 a2 a3
    rw [hB] at b1 b2 b3
    simp only [Bool.false_eq_true, if_false, if_true] at a2 b2
    refine ⟨fun h => ?_, fun h => ?_, fun h => ?_, by omega, by omega, by omega⟩
    · unfold chkQ mayQ at h
      simp only [Bool.and_eq_true, decide_eq_true_eq] at h
      exact h.2
    · unfold chkQ mayQ at h
      simp only [Bool.and_eq_false_iff, decide_eq_false_iff_not, a1] at h
      rcases h with (h | h) | h
      · cases h
      · omega
      · omega
    · unfold chkQ mayQ at h
      simp only [Bool.and_eq_false_iff, decide_eq_false_iff_not, b1] at h
      rcases h with (h | h) | h
      · cases h
      · exact .inr (by omega)
      · exact .inl (by omega)
  have HTr : Hid (cpE cols t.abs = 0 → rowB cols row = true → truE cols row t.abs = 0 ∧ (chkQ cols A = true → truE cols row A = 0 ∧ truR cols row A = truR cols row t.abs) ∧ (chkQ cols B = true → truE cols row B = 0 ∧ truR cols row B = Tr.notI (truR cols row t.abs))) := fun hc hrb => by
    have hq := (cpE_ok.1 hc)
    have hw : wfQ cols t.abs = true := by
      have h := hq.2
      unfold chkQ mayQ at h
      simp only [Bool.and_eq_true] at h
      exact h.1.1
    have hE : ∀ q, cpE cols q = 0 → truE cols row q = 0 ∧ truR cols row q = truQ cols row q := fun q h => by
      have e : truE cols row q = 0 := by unfold truE; rw [if_neg (by rw [h]; simp), if_pos hrb]
      exact ⟨e, by unfold truR; rw [if_pos e]⟩
    have h0 := hE _ hc
    refine ⟨h0.1, fun h => ?_, fun h => ?_⟩
    · have h1 := hE A (cpE_ok.2 ⟨hq.1, h⟩)
      refine ⟨h1.1, ?_⟩
      rw [h1.2, h0.2, ← hA, same_tru (at_v hrb) _ hw false]
      rfl
    · have h1 := hE B (cpE_ok.2 ⟨hq.1, h⟩)
      refine ⟨h1.1, ?_⟩
      rw [h1.2, h0.2, ← hB, same_tru (at_v hrb) _ hw true]
      rfl
  have HCt0 := hid fun (W : World) (h : Below w.heap.size w W) => HCt.out W h t (hm.later h)
  have b1 := below_new w (.cells (ta t) 29)
  have y1 := Bx.new w (ta t) 29
  obtain ⟨w1, hw1⟩ : ∃ w1, w.alloc (.cells (ta t) 29) = w1 := ⟨_, rfl⟩
  rw [hw1] at b1 y1
  have Y := hid y1
  have B0 := hid b1
  have C0 := hid (Below.refl w1.heap.size w1)
  have TX := hid fun (W : World) (h : Below w1.heap.size w1 W) => (Y.out.later h).prd
  obtain ⟨x0, x1, x2, x3, x4, x5, x6, x7, x8⟩ := Y.out.prd
  have HTc : Hid ((ta t).toList = [t].flatMap tc) := by show _ = _; simp [tc]
  generalize hcE : cpE cols t.abs = cE at *
  generalize hrB : rowB cols row = rB at *
  generalize truR cols row t.abs = tR at *
  generalize truE cols row t.abs = tE at *
  clear b1 y1 hC hr hrn hok hm hcE hrB hA hB
  obtain ⟨t0, ht0⟩ : ∃ t0, t = t0 := ⟨_, rfl⟩
  obtain ⟨⟨K, c, op, ⟨vK, vI, vb, vs⟩, l⟩, la, lc, kb, kc, kk⟩ := t
  rw [ht0] at HP HP1 HP2 HMt HTc
  have HTV : Hid (tv t0 = .agg #[.int .i64 K, .string c, .int .i64 op, .int .i64 vK, .int .i64 vI, .float .f64 vb, .string vs, .slice la l.length lc, .slice kb kk.length kc]) := by show _ = _; rw [← ht0]; rfl
  have HTA : Hid (ta t0 = #[.int .i64 K, .string c, .int .i64 op, .int .i64 vK, .int .i64 vI, .float .f64 vb, .string vs, .slice la l.length lc, .slice kb kk.length kc]) := by show _ = _; rw [← ht0]; rfl
  rw [HTV.out] at HP
  clear ht0
  simp only [T.h, T.la, T.lc, T.kb, T.kc, T.ks, tv, ta, T.pr, pv, pa, prH] at HD HCp HCt0 Y TX x0 x1 x2 x3 x4 x5 x6 x7 x8 hw1 ⊢
  go_enter Tryz.func3, Tryz.ntmps3
  go_wp2_with fail
  refine (HD.out _ B0.out).mono ?_
  rintro e w2 ⟨q0, rfl, hb⟩
  replace B0 := hid (below_up B0.out hb)
  replace C0 := hid (below_up C0.out hb)
  clear hb
  clear hw1 x0 x1 x2 x3 x4 x5 x6 x7 x8 HD
  cases q0
  case true =>
    go_wp2_with fail
    go_ret
    exact ⟨rfl, B0.out⟩
  go_wp2_with fail
  refine (HA.out _).mono ?_
  rintro e w3 ⟨rfl, hb⟩
  replace B0 := hid (below_up B0.out hb)
  replace C0 := hid (below_up C0.out hb)
  clear hb
  clear HA
  go_wp2_with fail
  refine (HOf.out _ B0.out).mono ?_
  rintro e w4 ⟨rfl, hb⟩
  replace B0 := hid (below_up B0.out hb)
  replace C0 := hid (below_up C0.out hb)
  clear hb
  clear HOf
  obtain ⟨x0, x1, x2, x3, x4, x5, x6, x7, x8⟩ := TX.out _ C0.out
  go_wp2_with fail
  refine (HCp.out _ B0.out).mono ?_
  rintro e w5 ⟨rfl, hb⟩
  replace B0 := hid (below_up B0.out hb)
  replace C0 := hid (below_up C0.out hb)
  clear hb
  clear HCp x0 x1 x2 x3 x4 x5 x6 x7 x8
  obtain ⟨x0, x1, x2, x3, x4, x5, x6, x7, x8⟩ := TX.out _ C0.out
  by_cases hc : cE = 0
  case neg =>
    have hcb : (cE != 0) = true := by simpa using hc
    go_wp2_with (go_at_call 8; refine (num_any _ _).mono ?_; rintro e wn ⟨rfl, hwn⟩; subst wn)
    go_ret
    exact ⟨rfl, B0.out⟩
  subst hc
  cases rB
  case false =>
    go_wp2_with (go_at_call 8; refine (num_any _ _).mono ?_; rintro e wn ⟨rfl, hwn⟩; subst wn)
    go_ret
    exact ⟨rfl, B0.out⟩
  obtain ⟨hE0, hTA, hTB⟩ := HTr.out rfl rfl
  subst hE0
  have HTA2 := hid hTA
  have HTB2 := hid hTB
  have HFF := hid (HF.out rfl)
  have Hp0 := hid (HP.out rfl)
  have Hp1 := hid (HP1.out rfl)
  have Hp2 := hid (HP2.out rfl)
  clear hTA hTB HTr HF HP HP1 HP2
  go_wp2_with (go_at_call 8; refine (num_any _ _).mono ?_; rintro e wn ⟨rfl, hwn⟩; subst wn)
  refine (HCt0.out _ B0.out).mono ?_
  rintro e w6 ⟨rfl, hb⟩
  replace B0 := hid (below_up B0.out hb)
  replace C0 := hid (below_up C0.out hb)
  clear hb
  clear HCt0 x0 x1 x2 x3 x4 x5 x6 x7 x8
  obtain ⟨x0, x1, x2, x3, x4, x5, x6, x7, x8⟩ := TX.out _ C0.out
  go_wp2_with fail
  refine (Hp0.out _ B0.out).mono ?_
  rintro e w7 ⟨q, rfl, hqa, hf, hb⟩
  replace B0 := hid (below_up B0.out hb)
  replace C0 := hid (below_up C0.out hb)
  clear hb
  have MQ := hid fun (W : World) (h : Below w7.heap.size w7 W) => (NT.mt q hf.1).later h
  have HQa := hid hqa
  clear hf hqa Hp0 x0 x1 x2 x3 x4 x5 x6 x7 x8
  have Q1 := hid (Below.refl w7.heap.size w7)
  have bz := below_putP (below_new w7 (.cells #[.int .i64 0, .string ⟨#[]⟩, .int .i64 0, .int .i64 0, .int .i64 0, .float .f64 0, .string ⟨#[]⟩, .slice none 0 0, .slice none 0 0] 29)) (Nat.le_refl _) q.pr q.la q.lc q.kb q.kc
  have z0 := Bx.new w7 #[.int .i64 0, .string ⟨#[]⟩, .int .i64 0, .int .i64 0, .int .i64 0, .float .f64 0, .string ⟨#[]⟩, .slice none 0 0, .slice none 0 0] 29
  obtain ⟨u1, hu⟩ : ∃ u, w7.alloc (.cells #[.int .i64 0, .string ⟨#[]⟩, .int .i64 0, .int .i64 0, .int .i64 0, .float .f64 0, .string ⟨#[]⟩, .slice none 0 0, .slice none 0 0] 29) = u := ⟨_, rfl⟩
  rw [hu] at bz z0
  have zp := (show Bx u1 w7.heap.size (pa p0 none 0 none 0) 29 from z0).putP q.pr q.la q.lc q.kb q.kc
  obtain ⟨v1, hv⟩ : ∃ v, putP u1 w7.heap.size q.pr q.la q.lc q.kb q.kc = v := ⟨_, rfl⟩
  rw [hv] at zp bz
  have TB1 := hid fun (W : World) (h : Below v1.heap.size v1 W) => (zp.later h).prd
  have fy := z0.frz
  obtain ⟨y0, y1, y2, y3, y4, y5, y6, y7, y8⟩ := (show Bx u1 w7.heap.size (pa p0 none 0 none 0) 29 from z0).prd
  unfold p0 v0 at y0 y1 y2 y3 y4 y5 y6 y7 y8
  dsimp only [List.length_nil] at y0 y1 y2 y3 y4 y5 y6 y7 y8
  clear z0 zp
  replace B0 := hid (below_up B0.out bz)
  replace C0 := hid (below_up C0.out bz)
  replace Q1 := hid (below_up Q1.out bz)
  have V1 := hid (Below.refl v1.heap.size v1)
  clear bz
  obtain ⟨q0, hq0⟩ : ∃ q0, q = q0 := ⟨_, rfl⟩
  obtain ⟨⟨qK, qc, qo, ⟨qvK, qvI, qvb, qvs⟩, ql⟩, qla, qlc, qkb, qkc, qks⟩ := q
  rw [hq0] at MQ HQa
  have HQV : Hid (tv q0 = .agg #[.int .i64 qK, .string qc, .int .i64 qo, .int .i64 qvK, .int .i64 qvI, .float .f64 qvb, .string qvs, .slice qla ql.length qlc, .slice qkb qks.length qkc]) := by show _ = _; rw [← hq0]; rfl
  clear hq0
  unfold putP at hv
  simp only [T.h, T.la, T.lc, T.kb, T.kc, T.ks, tv, T.pr, pv, pa, prH] at TB1 hv ⊢
  obtain ⟨x0, x1, x2, x3, x4, x5, x6, x7, x8⟩ := TX.out _ C0.out
  have bl := below_new v1 (.cells (ta t0) 29)
  have L1 := tst_litQ v1 [t0] 29 (ta t0) (0, 0) HTc.out
  obtain ⟨ga, hga⟩ : ∃ g, v1.heap.size = g := ⟨_, rfl⟩
  rw [hga] at L1
  rw [HTA.out] at bl L1
  obtain ⟨s1, hs1⟩ : ∃ s, v1.alloc (.cells #[.int .i64 K, .string c, .int .i64 op, .int .i64 vK, .int .i64 vI, .float .f64 vb, .string vs, .slice la l.length lc, .slice kb kk.length kc] 29) = s := ⟨_, rfl⟩
  rw [hs1] at bl L1
  have HLa := hid L1
  clear L1
  replace B0 := hid (below_up B0.out bl)
  replace C0 := hid (below_up C0.out bl)
  replace Q1 := hid (below_up Q1.out bl)
  replace V1 := hid (below_up V1.out bl)
  clear bl
  go_wp2_with fail
  try rw [hga]
  try rw [hs1]
  clear y0 y1 y2 y3 y4 y5 y6 y7 y8 fy hu hv
  clear hs1 hga x0 x1 x2 x3 x4 x5 x6 x7 x8
  refine (Hp1.out _ ga B0.out HLa.out).mono ?_
  rintro e w8 ⟨r, rfl, hqa, hf, hb⟩
  replace B0 := hid (below_up B0.out hb)
  replace C0 := hid (below_up C0.out hb)
  replace Q1 := hid (below_up Q1.out hb)
  replace V1 := hid (below_up V1.out hb)
  clear hb
  clear HLa Hp1
  have MR := hid fun (W : World) (h : Below w8.heap.size w8 W) => (NT.mt r hf.1).later h
  have HRa := hid hqa
  clear hf hqa
  have R1 := hid (Below.refl w8.heap.size w8)
  have bz := below_putP (below_new w8 (.cells #[.int .i64 0, .string ⟨#[]⟩, .int .i64 0, .int .i64 0, .int .i64 0, .float .f64 0, .string ⟨#[]⟩, .slice none 0 0, .slice none 0 0] 29)) (Nat.le_refl _) r.pr r.la r.lc r.kb r.kc
  have z0 := Bx.new w8 #[.int .i64 0, .string ⟨#[]⟩, .int .i64 0, .int .i64 0, .int .i64 0, .float .f64 0, .string ⟨#[]⟩, .slice none 0 0, .slice none 0 0] 29
  obtain ⟨u2, hu⟩ : ∃ u, w8.alloc (.cells #[.int .i64 0, .string ⟨#[]⟩, .int .i64 0, .int .i64 0, .int .i64 0, .float .f64 0, .string ⟨#[]⟩, .slice none 0 0, .slice none 0 0] 29) = u := ⟨_, rfl⟩
  rw [hu] at bz z0
  have zp := (show Bx u2 w8.heap.size (pa p0 none 0 none 0) 29 from z0).putP r.pr r.la r.lc r.kb r.kc
  obtain ⟨v2, hv⟩ : ∃ v, putP u2 w8.heap.size r.pr r.la r.lc r.kb r.kc = v := ⟨_, rfl⟩
  rw [hv] at zp bz
  have TB2 := hid fun (W : World) (h : Below v2.heap.size v2 W) => (zp.later h).prd
  have fy := z0.frz
  obtain ⟨y0, y1, y2, y3, y4, y5, y6, y7, y8⟩ := (show Bx u2 w8.heap.size (pa p0 none 0 none 0) 29 from z0).prd
  unfold p0 v0 at y0 y1 y2 y3 y4 y5 y6 y7 y8
  dsimp only [List.length_nil] at y0 y1 y2 y3 y4 y5 y6 y7 y8
  clear z0 zp
  replace B0 := hid (below_up B0.out bz)
  replace C0 := hid (below_up C0.out bz)
  replace Q1 := hid (below_up Q1.out bz)
  replace V1 := hid (below_up V1.out bz)
  replace R1 := hid (below_up R1.out bz)
  have V2 := hid (Below.refl v2.heap.size v2)
  clear bz
  obtain ⟨r0, hr0⟩ : ∃ r0, r = r0 := ⟨_, rfl⟩
  obtain ⟨⟨rK, rc, ro, ⟨rvK, rvI, rvb, rvs⟩, rl⟩, rla, rlc, rkb, rkc, rks⟩ := r
  rw [hr0] at MR HRa
  have HRV : Hid (tv r0 = .agg #[.int .i64 rK, .string rc, .int .i64 ro, .int .i64 rvK, .int .i64 rvI, .float .f64 rvb, .string rvs, .slice rla rl.length rlc, .slice rkb rks.length rkc]) := by show _ = _; rw [← hr0]; rfl
  clear hr0
  unfold putP at hv
  simp only [T.h, T.la, T.lc, T.kb, T.kc, T.ks, tv, T.pr, pv, pa, prH] at TB2 hv ⊢
  obtain ⟨x0, x1, x2, x3, x4, x5, x6, x7, x8⟩ := TX.out _ C0.out
  have bl := below_new v2 (.cells (ta t0) 29)
  have L1 := tst_litQ v2 [t0] 29 (ta t0) (0, 0) HTc.out
  obtain ⟨ga, hga⟩ : ∃ g, v2.heap.size = g := ⟨_, rfl⟩
  rw [hga] at L1
  rw [HTA.out] at bl L1
  obtain ⟨s1, hs1⟩ : ∃ s, v2.alloc (.cells #[.int .i64 K, .string c, .int .i64 op, .int .i64 vK, .int .i64 vI, .float .f64 vb, .string vs, .slice la l.length lc, .slice kb kk.length kc] 29) = s := ⟨_, rfl⟩
  rw [hs1] at bl L1
  replace B0 := hid (below_up B0.out bl)
  replace C0 := hid (below_up C0.out bl)
  replace Q1 := hid (below_up Q1.out bl)
  replace V1 := hid (below_up V1.out bl)
  replace R1 := hid (below_up R1.out bl)
  replace V2 := hid (below_up V2.out bl)
  clear bl
  have bl := below_new s1 (.cells #[.int .i64 8, .string ⟨#[]⟩, .int .i64 0, .int .i64 0, .int .i64 0, .float .f64 0, .string ⟨#[]⟩, .slice none 0 0, .slice (some ⟨ga, 0, none⟩) 1 1] 29)
  have L2 := tst_litQ s1 [nT ga t0] 29 #[.int .i64 8, .string ⟨#[]⟩, .int .i64 0, .int .i64 0, .int .i64 0, .float .f64 0, .string ⟨#[]⟩, .slice none 0 0, .slice (some ⟨ga, 0, none⟩) 1 1] (0, 0) rfl
  have L3 := L1.later bl
  obtain ⟨gb, hgb⟩ : ∃ g, s1.heap.size = g := ⟨_, rfl⟩
  rw [hgb] at L2
  obtain ⟨s2, hs2⟩ : ∃ s, s1.alloc (.cells #[.int .i64 8, .string ⟨#[]⟩, .int .i64 0, .int .i64 0, .int .i64 0, .float .f64 0, .string ⟨#[]⟩, .slice none 0 0, .slice (some ⟨ga, 0, none⟩) 1 1] 29) = s := ⟨_, rfl⟩
  rw [hs2] at bl L2 L3
  have HLa := hid L3
  have HLb := hid L2
  clear L1 L2 L3
  replace B0 := hid (below_up B0.out bl)
  replace C0 := hid (below_up C0.out bl)
  replace Q1 := hid (below_up Q1.out bl)
  replace V1 := hid (below_up V1.out bl)
  replace R1 := hid (below_up R1.out bl)
  replace V2 := hid (below_up V2.out bl)
  clear bl
  go_wp2_with fail
  try rw [hga]
  try rw [hs1]
  try rw [hgb]
  try rw [hs2]
  clear y0 y1 y2 y3 y4 y5 y6 y7 y8 fy hu hv
  clear hs1 hga hs2 hgb x0 x1 x2 x3 x4 x5 x6 x7 x8
  refine (Hp2.out _ ga gb B0.out HLa.out HLb.out).mono ?_
  rintro e w9 ⟨z, rfl, hqa, hf, hb⟩
  replace B0 := hid (below_up B0.out hb)
  replace C0 := hid (below_up C0.out hb)
  replace Q1 := hid (below_up Q1.out hb)
  replace V1 := hid (below_up V1.out hb)
  replace R1 := hid (below_up R1.out hb)
  replace V2 := hid (below_up V2.out hb)
  clear hb
  clear HLa HLb Hp2
  have MZ := hid fun (W : World) (h : Below w9.heap.size w9 W) => (NT.mt z hf.1).later h
  have HZa := hid hqa
  clear hf hqa
  have Z1 := hid (Below.refl w9.heap.size w9)
  have bz := below_putP (below_new w9 (.cells #[.int .i64 0, .string ⟨#[]⟩, .int .i64 0, .int .i64 0, .int .i64 0, .float .f64 0, .string ⟨#[]⟩, .slice none 0 0, .slice none 0 0] 29)) (Nat.le_refl _) z.pr z.la z.lc z.kb z.kc
  have z0 := Bx.new w9 #[.int .i64 0, .string ⟨#[]⟩, .int .i64 0, .int .i64 0, .int .i64 0, .float .f64 0, .string ⟨#[]⟩, .slice none 0 0, .slice none 0 0] 29
  obtain ⟨u3, hu⟩ : ∃ u, w9.alloc (.cells #[.int .i64 0, .string ⟨#[]⟩, .int .i64 0, .int .i64 0, .int .i64 0, .float .f64 0, .string ⟨#[]⟩, .slice none 0 0, .slice none 0 0] 29) = u := ⟨_, rfl⟩
  rw [hu] at bz z0
  have zp := (show Bx u3 w9.heap.size (pa p0 none 0 none 0) 29 from z0).putP z.pr z.la z.lc z.kb z.kc
  obtain ⟨v3, hv⟩ : ∃ v, putP u3 w9.heap.size z.pr z.la z.lc z.kb z.kc = v := ⟨_, rfl⟩
  rw [hv] at zp bz
  have TB3 := hid fun (W : World) (h : Below v3.heap.size v3 W) => (zp.later h).prd
  have fy := z0.frz
  obtain ⟨y0, y1, y2, y3, y4, y5, y6, y7, y8⟩ := (show Bx u3 w9.heap.size (pa p0 none 0 none 0) 29 from z0).prd
  unfold p0 v0 at y0 y1 y2 y3 y4 y5 y6 y7 y8
  dsimp only [List.length_nil] at y0 y1 y2 y3 y4 y5 y6 y7 y8
  clear z0 zp
  replace B0 := hid (below_up B0.out bz)
  replace C0 := hid (below_up C0.out bz)
  replace Q1 := hid (below_up Q1.out bz)
  replace V1 := hid (below_up V1.out bz)
  replace R1 := hid (below_up R1.out bz)
  replace V2 := hid (below_up V2.out bz)
  replace Z1 := hid (below_up Z1.out bz)
  have V3 := hid (Below.refl v3.heap.size v3)
  clear bz
  obtain ⟨z0, hz0⟩ : ∃ z0, z = z0 := ⟨_, rfl⟩
  obtain ⟨⟨zK, zc, zo, ⟨zvK, zvI, zvb, zvs⟩, zl⟩, zla, zlc, zkb, zkc, zks⟩ := z
  rw [hz0] at MZ HZa
  have HZV : Hid (tv z0 = .agg #[.int .i64 zK, .string zc, .int .i64 zo, .int .i64 zvK, .int .i64 zvI, .float .f64 zvb, .string zvs, .slice zla zl.length zlc, .slice zkb zks.length zkc]) := by show _ = _; rw [← hz0]; rfl
  clear hz0
  unfold putP at hv
  simp only [T.h, T.la, T.lc, T.kb, T.kc, T.ks, tv, T.pr, pv, pa, prH] at TB3 hv ⊢
  obtain ⟨x0, x1, x2, x3, x4, x5, x6, x7, x8⟩ := TB1.out _ V1.out
  obtain ⟨p0, p1, p2, p3, p4, p5, p6, p7, p8⟩ := TB3.out _ V3.out
  go_wp2_with (go_at_call 8; refine (num_any _ _).mono ?_; rintro e wn ⟨rfl, hwn⟩; subst wn)
  clear y0 y1 y2 y3 y4 y5 y6 y7 y8 fy hu hv
  clear x0 x1 x2 x3 x4 x5 x6 x7 x8 p0 p1 p2 p3 p4 p5 p6 p7 p8
  have HSm := hid (samePred_any z0 q0 v3 (MZ.out _ Z1.out) (MQ.out _ Q1.out) (HQa.out.trans HZa.out.symm))
  rw [HZV.out, HQV.out] at HSm
  refine (HSm.out).mono ?_
  rintro e w10 ⟨rfl, hb⟩
  replace B0 := hid (below_up B0.out hb)
  replace C0 := hid (below_up C0.out hb)
  replace Q1 := hid (below_up Q1.out hb)
  replace V1 := hid (below_up V1.out hb)
  replace R1 := hid (below_up R1.out hb)
  replace V2 := hid (below_up V2.out hb)
  replace Z1 := hid (below_up Z1.out hb)
  replace V3 := hid (below_up V3.out hb)
  clear hb
  clear HSm HZV MZ HZa TB3
  obtain ⟨x0, x1, x2, x3, x4, x5, x6, x7, x8⟩ := TB1.out _ V1.out
  go_wp2_with fail
  have Hm1 := hid (HMy.out _ B0.out q0 (MQ.out _ Q1.out))
  rw [HQV.out, HQa.out] at Hm1
  refine (Hm1.out).mono ?_
  rintro e w11 ⟨rfl, hb⟩
  replace B0 := hid (below_up B0.out hb)
  replace C0 := hid (below_up C0.out hb)
  replace Q1 := hid (below_up Q1.out hb)
  replace V1 := hid (below_up V1.out hb)
  replace R1 := hid (below_up R1.out hb)
  replace V2 := hid (below_up V2.out hb)
  replace Z1 := hid (below_up Z1.out hb)
  replace V3 := hid (below_up V3.out hb)
  clear hb
  clear Hm1 x0 x1 x2 x3 x4 x5 x6 x7 x8
  obtain ⟨f1, f2, f3, f4, f5, f6⟩ := HFF.out
  generalize hqa : chkQ cols A = qa at *
  cases qa
  · have f2 := f2 rfl
    obtain ⟨x0, x1, x2, x3, x4, x5, x6, x7, x8⟩ := TB1.out _ V1.out
    go_wp2_with fail
    have Hs1 := hid (size_any q0 _ (MQ.out _ Q1.out) (by rw [HQa.out]; exact f4))
    rw [HQV.out, HQa.out] at Hs1
    have hbig : (4096 : Int) < (A.sz : Int) := by omega
    refine (Hs1.out).mono ?_
    rintro e w12 ⟨rfl, hb⟩
    replace B0 := hid (below_up B0.out hb)
    replace C0 := hid (below_up C0.out hb)
    replace Q1 := hid (below_up Q1.out hb)
    replace V1 := hid (below_up V1.out hb)
    replace R1 := hid (below_up R1.out hb)
    replace V2 := hid (below_up V2.out hb)
    replace Z1 := hid (below_up Z1.out hb)
    replace V3 := hid (below_up V3.out hb)
    clear hb
    clear x0 x1 x2 x3 x4 x5 x6 x7 x8
    go_wp2_with fail
    go_ret
    exact ⟨rfl, B0.out⟩
  · have f1 := f1 rfl
    obtain ⟨x0, x1, x2, x3, x4, x5, x6, x7, x8⟩ := TB2.out _ V2.out
    go_wp2_with fail
    have Hm1 := hid (HMy.out _ B0.out r0 (MR.out _ R1.out))
    rw [HRV.out, HRa.out] at Hm1
    refine (Hm1.out).mono ?_
    rintro e w13 ⟨rfl, hb⟩
    replace B0 := hid (below_up B0.out hb)
    replace C0 := hid (below_up C0.out hb)
    replace Q1 := hid (below_up Q1.out hb)
    replace V1 := hid (below_up V1.out hb)
    replace R1 := hid (below_up R1.out hb)
    replace V2 := hid (below_up V2.out hb)
    replace Z1 := hid (below_up Z1.out hb)
    replace V3 := hid (below_up V3.out hb)
    clear hb
    clear Hm1 x0 x1 x2 x3 x4 x5 x6 x7 x8
    generalize hqb : chkQ cols B = qb at *
    cases qb
    · have f3 := f3 rfl
      obtain ⟨x0, x1, x2, x3, x4, x5, x6, x7, x8⟩ := TB1.out _ V1.out
      go_wp2_with fail
      have Hs1 := hid (size_any q0 _ (MQ.out _ Q1.out) (by rw [HQa.out]; exact f4))
      rw [HQV.out, HQa.out] at Hs1
      have hsm : (A.sz : Int) ≤ (4096 : Int) := by omega
      refine (Hs1.out).mono ?_
      rintro e w14 ⟨rfl, hb⟩
      replace B0 := hid (below_up B0.out hb)
      replace C0 := hid (below_up C0.out hb)
      replace Q1 := hid (below_up Q1.out hb)
      replace V1 := hid (below_up V1.out hb)
      replace R1 := hid (below_up R1.out hb)
      replace V2 := hid (below_up V2.out hb)
      replace Z1 := hid (below_up Z1.out hb)
      replace V3 := hid (below_up V3.out hb)
      clear hb
      clear Hs1 x0 x1 x2 x3 x4 x5 x6 x7 x8
      obtain ⟨x0, x1, x2, x3, x4, x5, x6, x7, x8⟩ := TB2.out _ V2.out
      go_wp2_with fail
      have Hs1 := hid (size_any r0 _ (MR.out _ R1.out) (by rw [HRa.out]; exact f5))
      rw [HRV.out, HRa.out] at Hs1
      refine (Hs1.out).mono ?_
      rintro e w15 ⟨rfl, hb⟩
      replace B0 := hid (below_up B0.out hb)
      replace C0 := hid (below_up C0.out hb)
      replace Q1 := hid (below_up Q1.out hb)
      replace V1 := hid (below_up V1.out hb)
      replace R1 := hid (below_up R1.out hb)
      replace V2 := hid (below_up V2.out hb)
      replace Z1 := hid (below_up Z1.out hb)
      replace V3 := hid (below_up V3.out hb)
      clear hb
      clear Hs1 x0 x1 x2 x3 x4 x5 x6 x7 x8
      by_cases hbb : 4096 < B.sz
      · have hbig : (4096 : Int) < (B.sz : Int) := by omega
        go_wp2_with fail
        go_ret
        exact ⟨rfl, B0.out⟩
      · have hbs : (B.sz : Int) ≤ (4096 : Int) := by omega
        have hdb : (64 : Int) < (B.dep : Int) := by omega
        obtain ⟨x0, x1, x2, x3, x4, x5, x6, x7, x8⟩ := TB2.out _ V2.out
        go_wp2_with fail
        have Hs1 := hid (depth_any r0 _ (MR.out _ R1.out) (by rw [HRa.out]; exact f6))
        rw [HRV.out, HRa.out] at Hs1
        refine (Hs1.out).mono ?_
        rintro e w16 ⟨rfl, hb⟩
        replace B0 := hid (below_up B0.out hb)
        replace C0 := hid (below_up C0.out hb)
        replace Q1 := hid (below_up Q1.out hb)
        replace V1 := hid (below_up V1.out hb)
        replace R1 := hid (below_up R1.out hb)
        replace V2 := hid (below_up V2.out hb)
        replace Z1 := hid (below_up Z1.out hb)
        replace V3 := hid (below_up V3.out hb)
        clear hb
        clear Hs1 x0 x1 x2 x3 x4 x5 x6 x7 x8
        go_wp2_with fail
        go_ret
        exact ⟨rfl, B0.out⟩
    · have e1 := HTA2.out (by simp)
      have e2 := HTB2.out (by simp)
      obtain ⟨x0, x1, x2, x3, x4, x5, x6, x7, x8⟩ := TB1.out _ V1.out
      go_wp2_with fail
      have Hs1 := hid (HCt.out _ B0.out q0 (MQ.out _ Q1.out))
      rw [HQV.out, HQa.out, e1.1, e1.2] at Hs1
      refine (Hs1.out).mono ?_
      rintro e w17 ⟨rfl, hb⟩
      replace B0 := hid (below_up B0.out hb)
      replace C0 := hid (below_up C0.out hb)
      replace Q1 := hid (below_up Q1.out hb)
      replace V1 := hid (below_up V1.out hb)
      replace R1 := hid (below_up R1.out hb)
      replace V2 := hid (below_up V2.out hb)
      replace Z1 := hid (below_up Z1.out hb)
      replace V3 := hid (below_up V3.out hb)
      clear hb
      clear Hs1 x0 x1 x2 x3 x4 x5 x6 x7 x8
      obtain ⟨x0, x1, x2, x3, x4, x5, x6, x7, x8⟩ := TB2.out _ V2.out
      go_wp2_with fail
      have Hs1 := hid (HCt.out _ B0.out r0 (MR.out _ R1.out))
      rw [HRV.out, HRa.out, e2.1, e2.2] at Hs1
      refine (Hs1.out).mono ?_
      rintro e w18 ⟨rfl, hb⟩
      replace B0 := hid (below_up B0.out hb)
      replace C0 := hid (below_up C0.out hb)
      replace Q1 := hid (below_up Q1.out hb)
      replace V1 := hid (below_up V1.out hb)
      replace R1 := hid (below_up R1.out hb)
      replace V2 := hid (below_up V2.out hb)
      replace Z1 := hid (below_up Z1.out hb)
      replace V3 := hid (below_up V3.out hb)
      clear hb
      clear Hs1 x0 x1 x2 x3 x4 x5 x6 x7 x8
      have q1 : (tR == tR) = true := by simp
      have q2 : (Tr.notI tR == Tr.notI tR) = true := by simp
      skip
      go_wp2_with first | (go_at_call 8; refine (num_any _ _).mono ?_; rintro e wn ⟨rfl, hwn⟩; subst wn) | (go_at_call 16; refine (HNt.out _ _).mono ?_; rintro e wn ⟨rfl, hwn⟩; subst wn)
      go_ret
      exact ⟨rfl, B0.out⟩
theorem walk_querySame (w : World) (ac : Option Addr) (nc dc : Nat) (cols : List Col) (t : T) (ar : Option Addr) (nr dr : Nat) (row : List V) (hC : CArgL w ac nc dc cols) (hm : MT w w.heap.size t) (hR : VArgL w ar nr dr row) :
    Calls Tryz.prog 3 #[.slice ac nc dc, tv t, .slice ar nr dr] w fun r w' => r = .returned (.bool true) ∧ Below w.heap.size w w' := by
  obtain rfl := hC.len
  obtain rfl := hR.len
  exact querySame_any cols row ac dc ar dr t w ⟨hC.lst, (fun c hc => Nat.le_trans (hC.few c hc) (by decide)), by have := hC.le; have := hC.small; omega⟩ hR.lst (by have := hR.le; have := hR.small; omega) hR.ok hm
end Go.Proofs.YtflgmcmecnlgiaaGreat

/-
  THE ROW OF QuerySame.
-/
namespace Go.Proofs.YtflgmcmecnlgiaaGreat.querySame
open Go.ChangeShapes Go.WideShapes Go.ChangeAt Go.RowKit

set_option maxRecDepth 100000 in
theorem contract (H : Type) (enc : TypeId × Value → H) (W : World) (base : Nat) (args : Array Value) (ds gs : List (DataW H)) (before : List MemPlace)
    (hval : ∀ (j : Nat) t v, Tryz.f3.params[j]? = some t → args[j]? = some v → Value.okWide Tryz.prog W .any base t v)
    (hW : DataW.Whole enc Tryz.prog Tryz.f3.params.toList Rows.querySameSpec.vars false W args.toList ds gs before)
    (hsz : (DataW.weightsEach Tryz.prog (Tryz.f3.params.toList ++ Rows.querySameSpec.plain.varTypes Tryz.prog) (ds ++ gs)).all (· ≤ reachBytes) = true) :
    Calls Tryz.prog 3 args W fun e W' => ∃ v, e = .returned v ∧ Rows.querySameSpec.post enc Tryz.prog Tryz.f3 false true false false W args v W' := by
  have hW' := hW
  have hltA := hW.lt
  obtain ⟨p, q, hA0, hV, rfl, hfz, hnd⟩ := hW
  have hA : DataW.TrodAll enc Tryz.prog W 0 (fun _ => true) true Tryz.f3.params.toList args.toList ds p := hA0
  rw [Tryz.params3] at hA hval hsz
  obtain ⟨v0, vs0, d0, ds0, p0, q0, hargs, rfl, rfl, h0, r0⟩ := trodAll_cons hA
  obtain ⟨v1, vs1, d1, ds1, p1, q1, rfl, rfl, rfl, h1, r1⟩ := trodAll_cons r0
  obtain ⟨v2, vs2, d2, ds2, p2, q2, rfl, rfl, rfl, h2, r2⟩ := trodAll_cons r1
  obtain ⟨rfl, rfl, rfl⟩ := trodAll_nil r2
  obtain rfl : args = #[v0, v1, v2] := by cases args; simp_all
  obtain ⟨rfl, rfl⟩ := trodVars_none hV
  clear hA0
  obtain ⟨a0, n0, c0, rfl⟩ := okWide_slice Tryz.underlying22 (hval 0 22 v0 rfl rfl)
  obtain ⟨l0, hL0⟩ := cArgL_of h0 hsz (j := 0) rfl rfl
  obtain ⟨x1, rfl, hP1⟩ := treeArg_of (hval 1 29 v1 rfl rfl) h1 hsz (j := 1) rfl rfl
  obtain ⟨a2, n2, c2, rfl⟩ := okWide_slice Tryz.underlying26 (hval 2 26 v2 rfl rfl)
  obtain ⟨l2, hL2⟩ := vArgL_of h2 hsz (j := 2) rfl rfl
  simp only [List.append_nil] at hW' hltA
  refine (walk_querySame W a0 n0 c0 l0 x1 a2 n2 c2 l2 hL0 hP1 hL2).mono fun e W' ⟨he, hb⟩ => ?_
  subst he
  refine ⟨_, rfl, _, _, _, [], (p0 ++ (p1 ++ (p2 ++ []))), [], hW', trodAll_cons_mk (shut_bool Tryz.underlying4 _) trodAll_mk0, ?_, rfl, hb.frame _, fun h => by cases h⟩
  exact (trodAll_cons_mk (Below.trod laidOut (by kernel_rfl) (of_decide_eq_true (by kernel_rfl)) h0 hb (fun x hx => hltA x (by simp [hx]))) (trodAll_cons_mk (Below.trod laidOut (by kernel_rfl) (of_decide_eq_true (by kernel_rfl)) h1 hb (fun x hx => hltA x (by simp [hx]))) (trodAll_cons_mk (Below.trod laidOut (by kernel_rfl) (of_decide_eq_true (by kernel_rfl)) h2 hb (fun x hx => hltA x (by simp [hx]))) trodAll_mk0)))

set_option maxRecDepth 100000 in
theorem lifted (os : Os) (started : os.Started) (H : Type) (enc : TypeId × Value → H) :
    ReturnsInHanded {} Tryz.checked os 3 .any (Rows.querySameSpec.pre6 enc Tryz.prog Tryz.f3 Rows.querySameRow.domain false) (Rows.querySameSpec.post enc Tryz.prog Tryz.f3 false true false false) := by
  refine returnsInHanded_of_change_sized (C := Tryz.checked) own started (by kernel_rfl) Tryz.func3
    (ChangeSpec.witness6 (enc := enc) (C := Tryz.checked) false ⟨#[], #[.slice none 0 0, .agg #[.int .i64 0, .string ⟨#[]⟩, .int .i64 0, .int .i64 0, .int .i64 0, .float .f64 0, .string ⟨#[]⟩, .slice none 0 0, .slice none 0 0], .slice none 0 0], []⟩ 8 (by kernel_rfl) (by kernel_rfl) (by kernel_rfl) (by kernel_rfl)) ?_
  intro W base args ds gs before hval hW _ hsz _
  exact contract H enc W base args ds gs before hval hW hsz

theorem over : Rows.querySameRow.holds Tryz.pinned (OpenSpec.ofChange Rows.querySameSpec) :=
  OpenClaim.holds_of_wide 3 Tryz.f3 rfl rfl rfl rfl rfl rfl rfl ⟨rfl, rfl, rfl, rfl, rfl⟩ rfl rfl rfl rfl rfl (by kernel_rfl) Tryz.func3 (by kernel_rfl)
    (of_decide_eq_true (by kernel_rfl)) (by unfold Func.isWrapper; first | (rw [if_pos (by decide +kernel)]; kernel_rfl) | (rw [if_neg (by decide +kernel)]; exact ⟨rfl, rfl⟩))
    (fun os started H enc _ => lifted os started H enc)
end Go.Proofs.YtflgmcmecnlgiaaGreat.querySame
namespace Go.Proofs.YtflgmcmecnlgiaaGreat
theorem querySame_holds : Rows.QuerySameSaid := querySame.over
end Go.Proofs.YtflgmcmecnlgiaaGreat
