import Derived.Test.YthgnibphhiaecaaGreatQAlone
import Derived.Test.YthgnibphhiaecaaGreatYQAll
import Derived.Test.YthgnibphhiaecaaGreatAChkAll
/-
  look.mayBe, allMayBe.
-/
namespace Go.Proofs.YthgnibphhiaecaaGreat
open Go.ChangeShapes Go.WideShapes Go.ChangeAt Go.RowKit Cu Vl
attribute [local go_sem] run_store_float

theorem mayL_app {cols : List Col} (a b : List Q) (deep left : Nat) : mayL cols (a ++ b) deep left = (mayL cols a deep left && mayL cols b deep (left - szL a)) := by
  induction a generalizing left with
  | nil => simp [mayL_nil, szL]
  | cons k r ih =>
    rw [List.cons_append, mayL_cons, mayL_cons, ih, Bool.and_assoc, szL]
    congr 3
    omega
theorem mayL_snoc {cols : List Col} {l : List Q} {i : Nat} (h : i < l.length) (deep left : Nat) : mayL cols (l.take (i + 1)) deep left = (mayL cols (l.take i) deep left && mayQ cols l[i] deep (left - szL (l.take i))) := by
  rw [List.take_add_one, List.getElem?_eq_getElem h, Option.toList_some, mayL_app, mayL_cons, mayL_nil, Bool.and_true]
theorem szL_snoc {l : List Q} {i : Nat} (h : i < l.length) : szL (l.take (i + 1)) = szL (l.take i) + l[i].sz := by
  rw [List.take_add_one, List.getElem?_eq_getElem h, Option.toList_some, szL_app, szL, szL]
  omega
theorem mayL_no {cols : List Col} {l : List Q} {i : Nat} {deep left : Nat} (h : mayL cols (l.take i) deep left = false) : mayL cols l deep left = false := by
  rw [← List.take_append_drop i l, mayL_app, h]
  rfl
theorem absL_get {ks : List T} {i : Nat} (h : i < ks.length) : (absL ks)[i]'(by rw [absL_len]; exact h) = ks[i].abs := by
  simp [absL_map]
/-- What a look holds. -/
def lkA (ac : Option Addr) (n dc : Nat) (left : Nat) : Array Value := #[.slice ac n dc, .int .i64 (left : Int)]
def LookPost (cols : List Col) (ac : Option Addr) (dc gL left : Nat) (ok : Bool) (n : Nat) (w : World) (r : Ending) (w' : World) : Prop :=
  ∃ left', r = .returned (.bool ok) ∧ Bx w' gL (lkA ac cols.length dc left') 105 ∧ (ok = true → left' + n = left) ∧ Below gL w w'
def LookOk (cols : List Col) (ac : Option Addr) (dc : Nat) (t : T) : Prop :=
  ∀ (deep left gL B : Nat) (w : World), deep ≤ 64 → left ≤ 4096 → Bx w gL (lkA ac cols.length dc left) 105 → B ≤ gL → MT w B t → LstB cc 3 w B ac cols →
    Calls Tryz.prog 55 #[.pointer (some ⟨gL, 0, none⟩), tv t, .int .i64 (deep : Int)] w (LookPost cols ac dc gL left (mayQ cols t.abs deep left) t.abs.sz w)
def LooksOk (cols : List Col) (ac : Option Addr) (dc : Nat) (b : Option Addr) (ks : List T) : Prop :=
  ∀ (d deep left gL B : Nat) (w : World), deep ≤ 64 → left ≤ 4096 → Bx w gL (lkA ac cols.length dc left) 105 → B ≤ gL → ks.length ≤ 140737488355328 → LstB tc 9 w B b ks → (∀ k ∈ ks, MT w B k) → LstB cc 3 w B ac cols →
    Calls Tryz.prog 68 #[.pointer (some ⟨gL, 0, none⟩), .slice b ks.length d, .int .i64 (deep : Int)] w (LookPost cols ac dc gL left (mayL cols (absL ks) deep left) (szL (absL ks)) w)
theorem Lst.cell9 {w : World} {b : Option Addr} {ks : List T} (h : Lst tc 9 w b ks) {i : Nat} (hi : i < ks.length) : ∃ g o, b = some ⟨g, o, none⟩ ∧ g < w.heap.size ∧ w.cell? ⟨g, o + i * 9, none⟩ = some (.int .i64 ks[i].h.K) ∧ w.cell? ⟨g, o + i * 9 + 1, none⟩ = some (.string ks[i].h.c) ∧ w.cell? ⟨g, o + i * 9 + 2, none⟩ = some (.int .i64 ks[i].h.op) ∧ w.cell? ⟨g, o + i * 9 + 3, none⟩ = some (.int .i64 ks[i].h.v.K) ∧ w.cell? ⟨g, o + i * 9 + 4, none⟩ = some (.int .i64 ks[i].h.v.I) ∧ w.cell? ⟨g, o + i * 9 + 5, none⟩ = some (.float .f64 ks[i].h.v.b) ∧ w.cell? ⟨g, o + i * 9 + 6, none⟩ = some (.string ks[i].h.v.s) ∧ w.cell? ⟨g, o + i * 9 + 7, none⟩ = some (.slice ks[i].la ks[i].h.l.length ks[i].lc) ∧ w.cell? ⟨g, o + i * 9 + 8, none⟩ = some (.slice ks[i].kb ks[i].ks.length ks[i].kc) := by
  obtain ⟨g, o, e, hg, hc⟩ := h i ks[i] (List.getElem?_eq_getElem hi)
  have h0 := hc 0 _ rfl
  rw [Nat.add_zero] at h0
  exact ⟨g, o, e, hg, h0, hc 1 _ rfl, hc 2 _ rfl, hc 3 _ rfl, hc 4 _ rfl, hc 5 _ rfl, hc 6 _ rfl, hc 7 _ rfl, hc 8 _ rfl⟩
set_option maxRecDepth 8000 in
set_option maxHeartbeats 8000000 in
theorem looks_any (cols : List Col) (ac : Option Addr) (dc : Nat) (b : Option Addr) (ks : List T) (ih : ∀ k ∈ ks, LookOk cols ac dc k) : LooksOk cols ac dc b ks := by
  intro d deep left gL B w hd hl hx hB hn hk hm hc
  have HI := hid ih
  have HK := hid hk
  have HM := hid hm
  have HC := hid hc
  have HX := hid hx
  have hG := hid hx.lt
  clear ih hk hm hc hx
  go_enter Tryz.func68, Tryz.ntmps68
  go_wp2_with fail
  go_loopw [11] (fun ix wr => ∃ i : Nat, i ≤ ks.length ∧ ix = .int .i64 i ∧ ∃ lf : Nat, lf ≤ left ∧ Hid (mayL cols ((absL ks).take i) deep left = true ∧ lf + szL ((absL ks).take i) = left) ∧ Hid (Bx wr gL (lkA ac cols.length dc lf) 105) ∧ Hid (Below gL w wr)) (fun ix _ => ks.length - (intOf ix).toNat)
  case atStart => exact ⟨0, Nat.zero_le _, rfl, left, Nat.le_refl _, ⟨by simp [mayL_nil], by simp [szL]⟩, HX, Below.refl _ _⟩
  case round =>
    obtain ⟨i, hi, rfl, lf, hlf, HA, HL, HB⟩ := hrel
    rename World => wr
    by_cases hlt : i < ks.length
    · have hii : (i : Int) < (ks.length : Int) := by omega
      have hbB : Below B wr wr := Below.refl _ _
      have hk' := HK.out.keep (HB.out.mono hB)
      obtain ⟨g, o, rfl, _, k0, k1, k2, k3, k4, k5, k6, k7, k8⟩ := hk'.1.cell9 hlt
      have hmi := HM.out _ (List.getElem_mem hlt)
      have hb1 := below_new wr (.cells (ta ks[i]) 29)
      have hbG : Below gL w (wr.alloc (.cells (ta ks[i]) 29)) := HB.out.trans (hb1.mono (Nat.le_of_lt HL.out.lt))
      have HR := hid (HI.out _ (List.getElem_mem hlt) deep lf gL B (wr.alloc (.cells (ta ks[i]) 29)) hd (by omega) (HL.out.later hb1) hB (hmi.keep (hbG.mono hB)) (HC.out.keep (hbG.mono hB)))
      have hal : i < (absL ks).length := by rw [absL_len]; exact hlt
      have HS : Hid (mayL cols ((absL ks).take (i + 1)) deep left = mayQ cols ks[i].abs deep lf ∧ szL ((absL ks).take (i + 1)) = szL ((absL ks).take i) + ks[i].abs.sz) := by
        show _ ∧ _
        rw [mayL_snoc hal, szL_snoc hal, absL_get hlt, HA.out.1, Bool.true_and]
        have := HA.out.2
        exact ⟨by congr 1; omega, rfl⟩
      have HBG := hid hbG
      clear hk' hmi hb1 hbG hbB
      have X := hid (Bx.new wr (ta ks[i]) 29)
      obtain ⟨w1, hw1⟩ : ∃ w1, wr.alloc (.cells (ta ks[i]) 29) = w1 := ⟨_, rfl⟩
      rw [hw1] at HR X HBG
      have HW1 := hid hw1
      clear hw1
      obtain ⟨x0, x1, x2, x3, x4, x5, x6, x7, x8⟩ := X.out.prd
      generalize hti : ks[i] = t at *
      clear hti
      obtain ⟨⟨K, c, op, ⟨vK, vI, vb, vs⟩, l⟩, la, lc, kb, kc, kk⟩ := t
      generalize hq : (T.mk ⟨K, c, op, ⟨vK, vI, vb, vs⟩, l⟩ la lc kb kc kk).abs = tq at *
      clear hq
      simp only [T.h, T.la, T.lc, T.kb, T.kc, T.ks, tv, ta, T.pr, pv, pa, prH] at *
      go_wp2_with fail
      rw [HW1.out]
      refine HR.out.mono ?_
      rintro e w2 ⟨lf', rfl, hl', hle, hbl⟩
      have HL2 := hid hl'
      have HB2 := hid (HBG.out.trans hbl)
      have HLE := hid hle
      clear hl' hle hbl k0 k1 k2 k3 k4 k5 k6 k7 k8 x0 x1 x2 x3 x4 x5 x6 x7 x8 X HW1 HL HB HBG HR
      cases hok : mayQ cols tq deep lf
      · have HF := hid (mayL_no (HS.out.1.trans hok))
        clear hok
        go_wp2_with fail
        go_ret
        exact ⟨lf', by rw [HF.out]; rfl, HL2.out, (fun h => by rw [HF.out] at h; cases h), HB2.out⟩
      · have HT : Hid (mayL cols ((absL ks).take (i + 1)) deep left = true ∧ lf' + szL ((absL ks).take (i + 1)) = left) := by
          have h1 := HLE.out hok
          have h2 := HA.out.2
          have h3 := HS.out
          exact ⟨h3.1.trans hok, by rw [h3.2]; omega⟩
        have hlf' : lf' ≤ left := by have := HT.out.2; omega
        clear hok
        go_wp2_with fail
        exact ⟨⟨i + 1, by omega, by go_num, lf', hlf', HT, HL2, HB2⟩, by simp [intOf]; omega⟩
    · obtain rfl : i = ks.length := by omega
      have HE : Hid (mayL cols (absL ks) deep left = true ∧ lf + szL (absL ks) = left) := by
        have := HA.out
        rw [show (absL ks).take ks.length = absL ks by rw [← absL_len, List.take_length]] at this
        exact this
      go_wp2_with fail
      go_ret
      exact ⟨lf, by rw [HE.out.1]; rfl, HL.out, (fun _ => HE.out.2), HB.out⟩
end Go.Proofs.YthgnibphhiaecaaGreat

/-
  look.mayBe; predMayBe, CheckPred.
-/
namespace Go.Proofs.YthgnibphhiaecaaGreat
open Go.ChangeShapes Go.WideShapes Go.ChangeAt Go.RowKit Cu Vl
attribute [local go_sem] run_store_float

set_option maxRecDepth 8000 in
set_option maxHeartbeats 16000000 in
theorem look_any (cols : List Col) (ac : Option Addr) (dc : Nat) (hcl : cols.length ≤ 140737488355328) : ∀ t, LookOk cols ac dc t := by
  refine T.ind fun t ih => ?_
  intro deep left gL B w hd hl hx hB hm hc
  have hpok := hm.pok
  have hpr : t.pr = prH t.h t.ks.length := rfl
  rw [MT_iff] at hm
  obtain ⟨hH, hV, hKs, hKb, hkm⟩ := hm
  have HAll := hid (looks_any cols ac dc t.kb t.ks ih t.kc)
  have HAl := hid fun (w : World) => alone_any t.pr t.la t.lc t.kb t.kc w hH.v (by have := hH.n; show t.h.l.length ≤ _; omega) (by have := hKs.n; show t.ks.length ≤ _; omega)
  have HCk := hid fun (w' : World) (h : Below B w w') => check_any ac cols dc t.pr t.la t.lc t.kb t.kc w' (hc.keep h).1 hcl ⟨hpok.v, hpok.l, (hV.keep h).1, hpok.n, hpok.m⟩
  have HKb := hid hKb
  have HKm := hid hkm
  have HC := hid hc
  have hkn : t.ks.length ≤ 140737488355328 := by have := hKs.n; omega
  have HMay : Hid (mayQ cols t.abs deep left = (decide (deep ≠ 0) && decide (left ≠ 0) && wfH cols t.h t.ks.length && mayL cols (absL t.ks) (deep - 1) (left - 1))) := by
    show _ = _
    rw [T.abs_eq, mayQ_mk, absL_len]
  have HSz : Hid (t.abs.sz = szL (absL t.ks) + 1) := by
    show _ = _
    rw [T.abs_eq, Q.sz]
  have hGlt := hx.lt
  have b1 := below_new w (.cells (ta t) 29)
  have x1 := Bx.new w (ta t) 29
  have hx1 := hx.later b1
  have B1 := hid ((b1.mono (Nat.le_of_lt hGlt) : Below gL w _))
  obtain ⟨w1, hw1⟩ : ∃ w1, w.alloc (.cells (ta t) 29) = w1 := ⟨_, rfl⟩
  rw [hw1] at x1 hx1 B1
  have X1 := hid x1
  have HL1 := hid hx1
  clear b1 x1 hx1 hx hV hH hKs hKb hkm hc hpok ih
  have l0 : w1.cell? ⟨gL, 0, none⟩ = some (.slice ac cols.length dc) := cell_of HL1.out rfl
  have l1 : w1.cell? ⟨gL, 1, none⟩ = some (.int .i64 (left : Int)) := cell_of HL1.out rfl
  have fl := HL1.out.frz
  obtain ⟨x0, x1, x2, x3, x4, x5, x6, x7, x8⟩ := X1.out.prd
  by_cases hl0 : left = 0
  · subst hl0
    have hF : mayQ cols t.abs deep 0 = false := by rw [HMay.out]; simp
    have HF := hid hF
    clear hF
    rw [show ((0 : Nat) : Int) = 0 from rfl] at l1
    obtain ⟨⟨K, c, op, ⟨vK, vI, vb, vs⟩, l⟩, la, lc, kb, kc, kk⟩ := t
    simp only [T.h, T.la, T.lc, T.kb, T.kc, T.ks, tv, ta, T.pr, pv, pa, prH] at *
    go_enter Tryz.func55, Tryz.ntmps55
    go_wp2_with fail
    go_ret
    exact ⟨0, by rw [HF.out]; rfl, HL1.out, (fun h => by rw [HF.out] at h; cases h), B1.out⟩
  · by_cases hd0 : deep = 0
    · subst hd0
      have hF : mayQ cols t.abs 0 left = false := by rw [HMay.out]; simp
      have HF := hid hF
      have hl0b : ((left : Int) == 0) = false := by simp; omega
      clear hF
      rw [show ((0 : Nat) : Int) = 0 from rfl]
      obtain ⟨⟨K, c, op, ⟨vK, vI, vb, vs⟩, l⟩, la, lc, kb, kc, kk⟩ := t
      simp only [T.h, T.la, T.lc, T.kb, T.kc, T.ks, tv, ta, T.pr, pv, pa, prH] at *
      go_enter Tryz.func55, Tryz.ntmps55
      go_wp2_with fail
      go_ret
      exact ⟨left, by rw [HF.out]; rfl, HL1.out, (fun h => by rw [HF.out] at h; cases h), B1.out⟩
    · obtain ⟨lf, rfl⟩ : ∃ lf, left = lf + 1 := ⟨left - 1, by omega⟩
      obtain ⟨dp, rfl⟩ : ∃ dp, deep = dp + 1 := ⟨deep - 1, by omega⟩
      have HMay2 : Hid (mayQ cols t.abs (dp + 1) (lf + 1) = (wfH cols t.h t.ks.length && mayL cols (absL t.ks) dp lf)) := by
        show _ = _
        rw [HMay.out]; simp
      clear HMay hl0 hd0
      have hl0b : (((lf + 1 : Nat) : Int) == 0) = false := by simp; omega
      have hd0b : (((dp + 1 : Nat) : Int) == 0) = false := by simp; omega
      have hl0c : ((lf : Int) + 1 == 0) = false := by simp; omega
      have hd0c : ((dp : Int) + 1 == 0) = false := by simp; omega
      have e1 : IntKind.i64.wrap (((lf + 1 : Nat) : Int) - 1) = (lf : Int) := by
        rw [show ((lf + 1 : Nat) : Int) - 1 = (lf : Int) by omega]
        rw [IntKind.wrap_i64]; omega
      have e2 : IntKind.i64.wrap (((dp + 1 : Nat) : Int) - 1) = (dp : Int) := by
        rw [show ((dp + 1 : Nat) : Int) - 1 = (dp : Int) by omega]
        rw [IntKind.wrap_i64]; omega
      have hgne : w.heap.size ≠ gL := by omega
      have hL2 := bx_set (i := 1) HL1.out (.int .i64 (lf : Int))
      have hX2 := X1.out.far1 (i := 1) hgne (.int .i64 (lf : Int))
      have hB2 := B1.out.setCell (p := ⟨gL, 1, none⟩) (Nat.le_refl _) (.int .i64 (lf : Int))
      obtain ⟨w2, hw2⟩ : ∃ w2, w1.setCell ⟨gL, 1, none⟩ (.int .i64 (lf : Int)) = w2 := ⟨_, rfl⟩
      rw [hw2] at hL2 hX2 hB2
      have L2 : Hid (Bx w2 gL (lkA ac cols.length dc lf) 105) := hL2
      have X2 := hid hX2
      have B2 := hid hB2
      clear hL2 hX2 hB2 hgne
      obtain ⟨y0, y1, y2, y3, y4, y5, y6, y7, y8⟩ := X2.out.prd
      have m0 : w2.cell? ⟨gL, 0, none⟩ = some (.slice ac cols.length dc) := cell_of L2.out rfl
      have TX := hid fun (W : World) (h : Below w2.heap.size w2 W) => (X2.out.later h).prd
      have TL := hid fun (W : World) (h : Below w2.heap.size w2 W) => L2.out.later h
      have TB := hid fun (W : World) (h : Below w2.heap.size w2 W) => (B2.out.trans (h.mono (Nat.le_of_lt L2.out.lt)) : Below gL w W)
      have HAll2 : Hid (∀ W, Below w2.heap.size w2 W → Calls Tryz.prog 68 #[.pointer (some ⟨gL, 0, none⟩), .slice t.kb t.ks.length t.kc, .int .i64 (dp : Int)] W (LookPost cols ac dc gL lf (mayL cols (absL t.ks) dp lf) (szL (absL t.ks)) W)) := fun W h =>
        HAll.out dp lf gL B W (by omega) (by omega) (TL.out W h) hB hkn (HKb.out.keep ((TB.out W h).mono hB)) (fun k hk => (HKm.out k hk).keep ((TB.out W h).mono hB)) (HC.out.keep ((TB.out W h).mono hB))
      have HCk2 := hid fun (W : World) (h : Below w2.heap.size w2 W) => HCk.out W ((TB.out W h).mono hB)
      have HB0 : Hid (Below w2.heap.size w2 w2) := Below.refl _ _
      have HAB : Hid (aloneP t.pr = bareH t.h) := rfl
      have HKN : Hid (wfH cols t.h t.ks.length = true → t.h.K = 0 ∨ (t.h.K ≠ 6 ∧ t.h.K ≠ 7 ∧ t.h.K ≠ 8) → t.ks = []) := fun hw h => by
        refine List.eq_nil_of_length_eq_zero ?_
        by_cases h0 : t.h.K = 0
        · unfold wfH at hw
          rw [if_pos h0] at hw
          simp at hw
          exact hw.2 ▸ rfl
        · have h1 : t.h.K ≠ 6 ∧ t.h.K ≠ 7 ∧ t.h.K ≠ 8 := h.resolve_left h0
          unfold wfH at hw
          rw [if_neg h0, if_neg (by omega), if_neg (by omega)] at hw
          exact (chk_kids (of_decide_eq_true hw)).1
      generalize hAbs : t.abs = tq at *
      generalize hAL : absL t.ks = tl at *
      generalize hba : bareH t.h = ba at *
      rw [HAB.out] at HAl
      obtain ⟨⟨K, c, op, ⟨vK, vI, vb, vs⟩, l⟩, la, lc, kb, kc, kk⟩ := t
      simp only [T.h, T.la, T.lc, T.kb, T.kc, T.ks, tv, ta, T.pr, pv, pa, prH] at *
      clear HAll HKb HKm HC HCk HAB hpr
      have HWf : Hid (wfH cols ⟨K, c, op, ⟨vK, vI, vb, vs⟩, l⟩ kk.length = if K = 0 then ba && decide (kk.length = 0) else if K = 6 ∨ K = 7 then ba && decide (2 ≤ kk.length) else if K = 8 then ba && decide (kk.length = 1) else decide (chkP cols ⟨K, c, op, ⟨vK, vI, vb, vs⟩, l, kk.length⟩ = 0)) := by
        show _ = _
        rw [← hba]
        rfl
      clear hba
      generalize hwf : wfH cols ⟨K, c, op, ⟨vK, vI, vb, vs⟩, l⟩ kk.length = wf at *
      clear hwf
      have HML : Hid (tl = [] → mayL cols tl dp lf = true ∧ szL tl = 0) := fun h => by rw [h]; exact ⟨mayL_nil, rfl⟩
      generalize hml : mayL cols tl dp lf = ml at *
      clear hml
      generalize hma : mayQ cols tq (dp + 1) (lf + 1) = mq at *
      clear hma
      generalize hkk : kk.length = m at *
      have HK0 : Hid (kk = [] → m = 0) := fun h => by rw [← hkk, h]; rfl
      have HTL : Hid (kk = [] → tl = []) := fun h => by rw [← hAL, h]; rfl
      clear hAL hAbs hkk
      have HS0 : Hid (Below w2.heap.size w2 w2.drew) := Below.drew (Below.refl _ _)
      have hmc : m = 0 ∨ (((m : Int) == 0) = false ∧ ¬ m = 0) := by by_cases h : m = 0; exact .inl h; exact .inr ⟨by simp; omega, h⟩
      by_cases hK0 : K = 0
      · subst hK0
        rw [if_pos rfl] at HWf
        clear HCk2 HAll2
        go_enter Tryz.func55, Tryz.ntmps55
        go_wp2_with fail
        refine (HAl.out _).mono ?_
        rintro e w3 ⟨rfl, hb⟩
        clear y0 y1 y2 y3 y4 y5 y6 y7 y8 m0 x0 x1 x2 x3 x4 x5 x6 x7 x8 l0 l1 fl hw1 hw2
        obtain ⟨y0, y1, y2, y3, y4, y5, y6, y7, y8⟩ := TX.out _ hb
        have L3 := hid (TL.out _ hb)
        have B3 := hid (TB.out _ hb)
        clear hb TX TL TB HAl
        cases ba
        · go_wp2_with fail
          go_ret
          have hmq : mq = false := by rw [HMay2.out, HWf.out]; rfl
          exact ⟨lf, by rw [hmq]; rfl, L3.out, (fun h => by rw [hmq] at h; cases h), B3.out⟩
        · rcases hmc with rfl | ⟨hmc, hm0⟩
          · have hwf : wf = true := by rw [HWf.out]; rfl
            have h1 := HML.out (HTL.out (HKN.out hwf (.inl trivial)))
            go_wp2_with fail
            go_ret
            have hmq : mq = true := by rw [HMay2.out, hwf, h1.1]; rfl
            exact ⟨lf, by rw [hmq]; rfl, L3.out, (fun _ => by rw [HSz.out, h1.2]), B3.out⟩
          · have hwf : wf = false := by rw [HWf.out]; simp [hm0]
            clear hm0
            go_wp2_with fail
            go_ret
            have hmq : mq = false := by rw [HMay2.out, hwf]; rfl
            exact ⟨lf, by rw [hmq]; rfl, L3.out, (fun h => by rw [hmq] at h; cases h), B3.out⟩
      · rw [if_neg hK0] at HWf
        by_cases hKj : K = 6 ∨ K = 7
        · rw [if_pos hKj] at HWf
          have hm2 : 2 ≤ m ∨ (¬ (2 : Int) ≤ (m : Int) ∧ ¬ 2 ≤ m) := by omega
          clear HCk2 hmc HKN hK0
          rcases hKj with rfl | rfl
          all_goals
            go_enter Tryz.func55, Tryz.ntmps55
            go_wp2_with fail
            refine (HAl.out _).mono ?_
            rintro e w3 ⟨rfl, hb⟩
            clear y0 y1 y2 y3 y4 y5 y6 y7 y8 m0 x0 x1 x2 x3 x4 x5 x6 x7 x8 l0 l1 fl hw1 hw2
            obtain ⟨y0, y1, y2, y3, y4, y5, y6, y7, y8⟩ := TX.out _ hb
            have L3 := hid (TL.out _ hb)
            have B3 := hid (TB.out _ hb)
            have HA3 := hid (HAll2.out _ hb)
            have HG3 := hid (show gL < w3.heap.size from L3.out.lt)
            clear hb TX TL TB HAl HAll2
            cases ba
            · go_wp2_with fail
              go_ret
              have hmq : mq = false := by rw [HMay2.out, HWf.out]; rfl
              exact ⟨lf, by rw [hmq]; rfl, L3.out, (fun h => by rw [hmq] at h; cases h), B3.out⟩
            · rcases hm2 with hm2 | ⟨hm2, hm3⟩
              · have hwf : wf = true := by rw [HWf.out]; simp [hm2]
                have hm2i : (2 : Int) ≤ (m : Int) := by omega
                go_wp2_with fail
                refine HA3.out.mono ?_
                rintro e2 w4 ⟨lf2, rfl, hl4, hle, hb4⟩
                have L4 := hid hl4
                have B4 := hid (B3.out.trans hb4)
                have HLE := hid hle
                have hmq : mq = ml := by rw [HMay2.out, hwf]; rfl
                have HMQ := hid hmq
                clear hl4 hle hb4 hmq hwf
                go_wp2_with fail
                go_ret
                exact ⟨lf2, by rw [HMQ.out]; rfl, L4.out, (fun h => by have := HLE.out (HMQ.out ▸ h); rw [HSz.out]; omega), B4.out⟩
              · have hwf : wf = false := by rw [HWf.out]; simp [hm3]
                clear hm3
                go_wp2_with fail
                go_ret
                have hmq : mq = false := by rw [HMay2.out, hwf]; rfl
                exact ⟨lf, by rw [hmq]; rfl, L3.out, (fun h => by rw [hmq] at h; cases h), B3.out⟩
        · rw [if_neg hKj] at HWf
          by_cases hK8 : K = 8
          · subst hK8
            rw [if_pos rfl] at HWf
            have hm1 : m = 1 ∨ (((m : Int) == 1) = false ∧ ¬ m = 1) := by by_cases h : m = 1; exact .inl h; exact .inr ⟨by simp; omega, h⟩
            clear HCk2 hmc HKN hK0 hKj
            go_enter Tryz.func55, Tryz.ntmps55
            go_wp2_with fail
            refine (HAl.out _).mono ?_
            rintro e w3 ⟨rfl, hb⟩
            clear y0 y1 y2 y3 y4 y5 y6 y7 y8 m0 x0 x1 x2 x3 x4 x5 x6 x7 x8 l0 l1 fl hw1 hw2
            obtain ⟨y0, y1, y2, y3, y4, y5, y6, y7, y8⟩ := TX.out _ hb
            have L3 := hid (TL.out _ hb)
            have B3 := hid (TB.out _ hb)
            have HA3 := hid (HAll2.out _ hb)
            clear hb TX TL TB HAl HAll2
            cases ba
            · go_wp2_with fail
              go_ret
              have hmq : mq = false := by rw [HMay2.out, HWf.out]; rfl
              exact ⟨lf, by rw [hmq]; rfl, L3.out, (fun h => by rw [hmq] at h; cases h), B3.out⟩
            · rcases hm1 with rfl | ⟨hm2, hm3⟩
              · have hwf : wf = true := by rw [HWf.out]; rfl
                go_wp2_with fail
                refine HA3.out.mono ?_
                rintro e2 w4 ⟨lf2, rfl, hl4, hle, hb4⟩
                have L4 := hid hl4
                have B4 := hid (B3.out.trans hb4)
                have HLE := hid hle
                have hmq : mq = ml := by rw [HMay2.out, hwf]; rfl
                have HMQ := hid hmq
                clear hl4 hle hb4 hmq hwf
                go_wp2_with fail
                go_ret
                exact ⟨lf2, by rw [HMQ.out]; rfl, L4.out, (fun h => by have := HLE.out (HMQ.out ▸ h); rw [HSz.out]; omega), B4.out⟩
              · have hwf : wf = false := by rw [HWf.out]; simp [hm3]
                clear hm3
                go_wp2_with fail
                go_ret
                have hmq : mq = false := by rw [HMay2.out, hwf]; rfl
                exact ⟨lf, by rw [hmq]; rfl, L3.out, (fun h => by rw [hmq] at h; cases h), B3.out⟩
          · rw [if_neg hK8] at HWf
            have k0 : (K == 0) = false := by simpa using hK0
            have k6 : (K == 6) = false := by simp; omega
            have k7 : (K == 7) = false := by simp; omega
            have k8 : (K == 8) = false := by simpa using hK8
            have HKK := hid (show K ≠ 6 ∧ K ≠ 7 ∧ K ≠ 8 by omega)
            clear HAll2 HAl hmc hK0 hKj hK8
            generalize chkP cols ⟨K, c, op, ⟨vK, vI, vb, vs⟩, l, m⟩ = ck at *
            have HEND : Hid (∀ W, Below w2.heap.size w2 W → LookPost cols ac dc gL (lf + 1) mq tq.sz w (.returned (.bool (ck == 0))) W) := fun W hW => by
              refine ⟨lf, ?_, TL.out W hW, fun h => ?_, TB.out W hW⟩
              · rw [HMay2.out]
                by_cases hc : ck = 0
                · have hwf : wf = true := by rw [HWf.out]; simp [hc]
                  rw [hwf, (HML.out (HTL.out (HKN.out hwf (.inr HKK.out)))).1, hc]; rfl
                · have hwf : wf = false := by rw [HWf.out]; simp [hc]
                  rw [hwf]
                  have : (ck == 0) = false := by simpa using hc
                  rw [this]; rfl
              · rw [HMay2.out, Bool.and_eq_true] at h
                rw [HSz.out, (HML.out (HTL.out (HKN.out h.1 (.inr HKK.out)))).2]
            clear HML HTL HKN HK0 HWf TL TB HMay2 HSz
            go_enter Tryz.func55, Tryz.ntmps55
            go_wp2_with fail
            go_region_with (go_at_call 69; refine (HCk2.out _ HS0.out).mono ?_; rintro e w9 ⟨rfl, hb9⟩; have hS9 : Below w2.heap.size w2 w9 := HS0.out.trans (hb9.mono HS0.out.size); clear hb9)
            all_goals
              go_wp2_with fail
              go_ret
              exact HEND.out _ (by assumption)
end Go.Proofs.YthgnibphhiaecaaGreat
