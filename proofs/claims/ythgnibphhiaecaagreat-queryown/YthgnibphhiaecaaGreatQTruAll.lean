import Derived.Test.YthgnibphhiaecaaGreatQLkAll
import Derived.Test.YthgnibphhiaecaaGreatATest
import Derived.Test.YthgnibphhiaecaaGreatQTAll
/-
  rowOf.truth, truths; isRow.
-/
namespace Go.Proofs.YthgnibphhiaecaaGreat
open Go.ChangeShapes Go.WideShapes Go.ChangeAt Go.RowKit Cu Vl
attribute [local go_sem] run_store_float

theorem MT.later {w w' : World} (hb : Below w.heap.size w w') {t : T} (h : MT w w.heap.size t) : MT w' w'.heap.size t := (h.keep hb).low hb.size
/-- Columns and a row of them. -/
structure RowC (w : World) (ac : Option Addr) (cols : List Col) (ar : Option Addr) (row : List V) : Prop where
  cl : Lst cc 3 w ac cols
  rl : Lst vc 4 w ar row
  len : row.length = cols.length
  cn : cols.length ≤ 140737488355328
  ok : ∀ v ∈ row, VOk v
theorem RowC.later {w w' : World} (hb : Below w.heap.size w w') {ac : Option Addr} {cols : List Col} {ar : Option Addr} {row : List V} (h : RowC w ac cols ar row) : RowC w' ac cols ar row := ⟨h.cl.later hb, h.rl.later hb, h.len, h.cn, h.ok⟩
def rowV (ac : Option Addr) (n dc : Nat) (ar : Option Addr) (m dr : Nat) : Value := .agg #[.slice ac n dc, .slice ar m dr]
def TruOk (cols : List Col) (row : List V) (ac : Option Addr) (dc : Nat) (ar : Option Addr) (dr : Nat) (t : T) : Prop :=
  ∀ (w : World), RowC w ac cols ar row → MT w w.heap.size t → wfQ cols t.abs = true →
    Calls Tryz.prog 35 #[rowV ac cols.length dc ar row.length dr, tv t] w fun r w' => r = .returned (.int .i8 (truQ cols row t.abs)) ∧ Below w.heap.size w w'
def trA (l : List Int) (n i : Nat) : Array Value := (((l.take i).map (fun x => Value.int .i8 x)) ++ List.replicate (n - i) (Value.int .i8 0)).toArray
theorem trA_at {l : List Int} {n i : Nat} (hl : l.length = n) (hi : i < n) : (trA l n i)[i]? = some (.int .i8 0) := by
  unfold trA
  rw [List.getElem?_toArray, List.getElem?_append_right (by simp; omega)]
  simp only [List.length_map, List.length_take, List.getElem?_replicate]
  rw [if_pos (by omega)]
theorem trA_set {l : List Int} {n i : Nat} (hl : l.length = n) (hi : i < n) : (trA l n i).setIfInBounds i (.int .i8 (l[i]'(by omega))) = trA l n (i + 1) := by
  have h1 : ((l.take i).map (fun x => Value.int .i8 x)).length = i := by simp; omega
  unfold trA
  rw [List.setIfInBounds_toArray, List.set_append, if_neg (by omega), h1, Nat.sub_self, show n - i = (n - (i + 1)) + 1 by omega, List.replicate_succ, List.set_cons_zero, List.take_add_one, List.getElem?_eq_getElem (by omega)]
  simp only [Option.toList_some, List.map_append, List.map_cons, List.map_nil, List.append_assoc, List.cons_append, List.nil_append]
theorem trA_nums {w : World} {g : Nat} {l : List Int} (h : Bx w g (trA l l.length l.length) 56) : Tr.Nums w .i8 (some ⟨g, 0, none⟩) l.length (fun j => l.getD j 0) := fun j hj => by
  refine ⟨g, 0, rfl, h.lt, ?_⟩
  rw [Nat.zero_add]
  refine cell_of h ?_
  unfold trA
  show _ = some (Value.int .i8 (l.getD j 0))
  rw [List.take_length, Nat.sub_self, List.replicate_zero, List.append_nil, List.getElem?_toArray, List.getElem?_map, List.getElem?_eq_getElem hj, List.getD_eq_getElem?_getD, List.getElem?_eq_getElem hj]
  rfl
theorem infoTr : (Tryz.prog.info? 56).map (fun i => (i.zero, i.size, i.bytes)) = some (some (.int .i8 0), 1, 1) := by kernel_rfl
theorem makeTr (w : World) (m : Nat) (hm : m ≤ 140737488355328) : (Instr.makeSlice 98 (.int .i64 (m : Int)) (.int .i64 (m : Int))).run Tryz.prog w = .ok (.slice (some ⟨w.heap.size, 0, none⟩) m m) (w.alloc (.cells (madeCells #[.int .i8 0] m) 56)) := by
  obtain ⟨i0, hi, hz0, hz1, hz2⟩ := info_parts infoTr
  have hmk := run_make (P := Tryz.prog) w 98 56 i0 (.int .i8 0) Tryz.underlying98 hi hz0 .i64 .i64 (m : Int) (m : Int) (by omega) (by omega) (by rw [hz2]; omega) (by omega)
  rw [hz1, show (m : Int).toNat * 1 = m by omega, show (m : Int).toNat = m by omega, show (Value.int .i8 0).cells = #[Value.int .i8 0] from rfl] at hmk
  exact hmk
theorem made_trA (l : List Int) (m : Nat) : madeCells #[.int .i8 0] m = trA l m 0 := by
  unfold trA madeCells
  simp only [List.take_zero, List.map_nil, List.nil_append, Nat.sub_zero]
  apply Array.ext
  · simp
  · intro i h1 h2
    simp [Nat.mod_one]
theorem truL_len {cols : List Col} {row : List V} (ks : List Q) : (truL cols row ks).length = ks.length := by rw [truL_map, List.length_map]
set_option maxRecDepth 8000 in
set_option maxHeartbeats 8000000 in
theorem truths_any (cols : List Col) (row : List V) (ac : Option Addr) (dc : Nat) (ar : Option Addr) (dr : Nat) (b : Option Addr) (d : Nat) (ks : List T) (ih : ∀ k ∈ ks, TruOk cols row ac dc ar dr k) (w : World) (hr : RowC w ac cols ar row) (hn : ks.length ≤ 140737488355328) (hK : Lst tc 9 w b ks) (hM : ∀ k ∈ ks, MT w w.heap.size k) (hW : ∀ k ∈ ks, wfQ cols k.abs = true) :
    Calls Tryz.prog 48 #[rowV ac cols.length dc ar row.length dr, .slice b ks.length d] w fun r w' => ∃ g, r = .returned (.slice (some ⟨g, 0, none⟩) ks.length ks.length) ∧ Tr.Nums w' .i8 (some ⟨g, 0, none⟩) ks.length (fun j => (truL cols row (absL ks)).getD j 0) ∧ Below w.heap.size w w' := by
  have hll : (truL cols row (absL ks)).length = ks.length := by rw [truL_len, absL_len]
  have b1 := below_new w (.cells #[.slice ac cols.length dc, .slice ar row.length dr] 83)
  have hmk := makeTr (w.alloc (.cells #[.slice ac cols.length dc, .slice ar row.length dr] 83)) ks.length hn
  rw [made_trA (truL cols row (absL ks))] at hmk
  have b2 := below_new (w.alloc (.cells #[.slice ac cols.length dc, .slice ar row.length dr] 83)) (.cells (trA (truL cols row (absL ks)) ks.length 0) 56)
  have x0 := Bx.new w #[.slice ac cols.length dc, .slice ar row.length dr] 83
  have x1 := x0.later b2
  have y1 := Bx.new (w.alloc (.cells #[.slice ac cols.length dc, .slice ar row.length dr] 83)) (trA (truL cols row (absL ks)) ks.length 0) 56
  have B1 := below_up b1 b2
  have hsz : (w.alloc (.cells #[.slice ac cols.length dc, .slice ar row.length dr] 83)).heap.size = w.heap.size + 1 := by simp
  rw [hsz] at y1 hmk
  obtain ⟨w1, hw1⟩ : ∃ w1, (w.alloc (.cells #[.slice ac cols.length dc, .slice ar row.length dr] 83)).alloc (.cells (trA (truL cols row (absL ks)) ks.length 0) 56) = w1 := ⟨_, rfl⟩
  rw [hw1] at x1 y1 B1 hmk
  obtain ⟨gT, hgT⟩ : ∃ gT, w.heap.size + 1 = gT := ⟨_, rfl⟩
  rw [hgT] at y1 hmk
  have HG := hid hgT
  have X1 := hid x1
  have Y1 := hid y1
  have B1 := hid B1
  have HR := hid hr
  have HK := hid hK
  have HM := hid hM
  have HW := hid hW
  have HI := hid ih
  clear b1 b2 x0 x1 y1 hw1 hgT hsz hr hK hM hW ih
  unfold rowV
  go_enter Tryz.func48, Tryz.ntmps48
  go_wp2_with fail
  clear hmk
  go_loopw [13] (fun ix wr => ∃ i : Nat, i ≤ ks.length ∧ ix = .int .i64 i ∧ Hid (Bx wr gT (trA (truL cols row (absL ks)) ks.length i) 56) ∧ Hid (Bx wr w.heap.size #[.slice ac cols.length dc, .slice ar row.length dr] 83) ∧ Hid (Below w.heap.size w wr)) (fun ix _ => ks.length - (intOf ix).toNat)
  case atStart => exact ⟨0, Nat.zero_le _, rfl, Y1, X1, B1⟩
  case round =>
    clear X1 Y1 B1
    obtain ⟨i, hi, rfl, HY, HX, HB⟩ := hrel
    rename World => wr
    by_cases hlt : i < ks.length
    · have hii : (i : Int) < (ks.length : Int) := by omega
      obtain ⟨g, o, rfl, _, k0, k1, k2, k3, k4, k5, k6, k7, k8⟩ := (HK.out.later HB.out).cell9 hlt
      have hmi := HM.out _ (List.getElem_mem hlt)
      have hb1 := below_new wr (.cells (ta ks[i]) 29)
      have hbG := below_up HB.out hb1
      have HR1 := hid (HI.out _ (List.getElem_mem hlt) (wr.alloc (.cells (ta ks[i]) 29)) (HR.out.later hbG) (hmi.later hbG) (HW.out _ (List.getElem_mem hlt)))
      have HS : Hid ((truL cols row (absL ks))[i]'(by rw [hll]; exact hlt) = truQ cols row ks[i].abs) := by
        show _ = _
        simp [truL_map, absL_map]
      have HST : Hid ((trA (truL cols row (absL ks)) ks.length i).setIfInBounds i (.int .i8 (truQ cols row ks[i].abs)) = trA (truL cols row (absL ks)) ks.length (i + 1)) := by
        show _ = _
        rw [← HS.out]
        exact trA_set hll hlt
      have HCA := hid (trA_at hll hlt)
      have HY1 := hid (HY.out.later hb1)
      have HX1 := hid (HX.out.later hb1)
      have X := hid (Bx.new wr (ta ks[i]) 29)
      have HBG := hid hbG
      clear hmi hb1 hbG HS
      obtain ⟨w1, hw1⟩ : ∃ w1, wr.alloc (.cells (ta ks[i]) 29) = w1 := ⟨_, rfl⟩
      rw [hw1] at HR1 X HBG HY1 HX1
      obtain ⟨x0, x1, x2, x3, x4, x5, x6, x7, x8⟩ := X.out.prd
      have r0 : w1.cell? ⟨w.heap.size, 0, none⟩ = some (.slice ac cols.length dc) := cell_of HX1.out rfl
      have r1 : w1.cell? ⟨w.heap.size, 1, none⟩ = some (.slice ar row.length dr) := cell_of HX1.out rfl
      generalize truQ cols row ks[i].abs = tq at *
      generalize hti : ks[i] = t at *
      clear hti
      obtain ⟨⟨K, c, op, ⟨vK, vI, vb, vs⟩, l⟩, la, lc, kb, kc, kk⟩ := t
      simp only [T.h, T.la, T.lc, T.kb, T.kc, T.ks, tv, ta, T.pr, pv, pa, prH, rowV] at *
      go_wp2_with fail
      refine HR1.out.mono ?_
      rintro e w2 ⟨rfl, hbl⟩
      have HY2 := hid (HY1.out.later hbl)
      have HX2 := hid (HX1.out.later hbl)
      have HB2 := hid (below_up HBG.out hbl)
      have c0 : w2.cell? ⟨gT, i, none⟩ = some (.int .i8 0) := cell_of HY2.out HCA.out
      have fT := HY2.out.frz
      have HGT : Hid (w.heap.size ≤ gT ∧ w.heap.size ≠ gT) := by show _ ∧ _; have := HG.out; omega
      clear hbl k0 k1 k2 k3 k4 k5 k6 k7 k8 x0 x1 x2 x3 x4 x5 x6 x7 x8 r0 r1 X hw1 HY HX HB HBG HR1 HY1 HX1 HCA
      have hy3 := bx_set (i := i) HY2.out (.int .i8 tq)
      rw [HST.out] at hy3
      have HY3 := hid hy3
      have HX3 := hid (HX2.out.far1 (i := i) HGT.out.2 (.int .i8 tq))
      have HB3 := hid (HB2.out.setCell (p := ⟨gT, i, none⟩) HGT.out.1 (.int .i8 tq))
      clear hy3 HY2 HX2 HB2 HST
      go_wp2_with fail
      exact ⟨⟨i + 1, by omega, by go_num, HY3, HX3, HB3⟩, by simp [intOf]; omega⟩
    · obtain rfl : i = ks.length := by omega
      have HN : Hid (Tr.Nums wr .i8 (some ⟨gT, 0, none⟩) ks.length (fun j => (truL cols row (absL ks)).getD j 0)) := by
        have h := HY.out
        rw [← hll] at h
        have h2 := trA_nums h
        rw [hll] at h2
        exact h2
      go_wp2_with fail
      go_ret
      exact ⟨gT, rfl, HN.out, HB.out⟩
end Go.Proofs.YthgnibphhiaecaaGreat

/-
  rowOf.truth.
-/
namespace Go.Proofs.YthgnibphhiaecaaGreat
open Go.ChangeShapes Go.WideShapes Go.ChangeAt Go.RowKit Cu Vl Tr
attribute [local go_sem] run_store_float

theorem mn_all {l : List Int} : Tr.mn (fun j => l.getD j 0) l.length = rmin l := by rw [mn_snoc l l.length (Nat.le_refl _), List.take_length]
theorem mx_all {l : List Int} : Tr.mx (fun j => l.getD j 0) l.length = rmax l := by rw [mx_snoc l l.length (Nat.le_refl _), List.take_length]
theorem below_two (w : World) (o p : Obj) : Below w.heap.size w ((w.alloc o).alloc p) := below_up (below_new _ _) (below_new _ _)
theorem find_at {cols : List Col} {c : ByteArray} (h : findB cols c = true) : ∃ i : Nat, findI cols c = (i : Int) ∧ i < cols.length := by
  unfold findB at h
  cases hf : findN cols c with
  | none => rw [hf] at h; cases h
  | some i =>
    obtain ⟨h1, _⟩ := findT_at hf
    exact ⟨i, by unfold findI; rw [hf], h1⟩
theorem absL_nil {ks : List T} (h : ks.length = 0) : ks = [] := List.eq_nil_of_length_eq_zero h
set_option maxRecDepth 8000 in
set_option maxHeartbeats 16000000 in
theorem truth_any (cols : List Col) (row : List V) (ac : Option Addr) (dc : Nat) (ar : Option Addr) (dr : Nat) : ∀ t, TruOk cols row ac dc ar dr t := by
  refine T.ind fun t ih => ?_
  intro w hr hm hw
  have hpok := hm.pok
  have hm' := hm
  rw [MT_iff] at hm'
  obtain ⟨hH, hV, hKs, hKb, hkm⟩ := hm'
  have hkn : t.ks.length ≤ 140737488355328 := by have := hKs.n; omega
  have hwk : wfH cols t.h t.ks.length = true ∧ ∀ k ∈ t.ks, wfQ cols k.abs = true := by
    rw [T.abs_eq] at hw
    have := wf_kids hw
    rw [absL_len] at this
    exact ⟨this.1, fun k hk => this.2 _ (by rw [absL_map]; exact List.mem_map.2 ⟨k, hk, rfl⟩)⟩
  have HTs := hid fun (W : World) (h : Below w.heap.size w W) => truths_any cols row ac dc ar dr t.kb t.kc t.ks ih W (hr.later h) hkn (hKb.1.later h) (fun k hk => (hkm k hk).later h) hwk.2
  have HT1 : Hid (∀ (W : World) (k : T) (hk : k ∈ t.ks), Below w.heap.size w W → Calls Tryz.prog 35 #[rowV ac cols.length dc ar row.length dr, tv k] W fun r w' => r = .returned (.int .i8 (truQ cols row k.abs)) ∧ Below W.heap.size W w') := fun W k hk h => ih k hk W (hr.later h) ((hkm k hk).later h) (hwk.2 k hk)
  have HFi := hid fun (W : World) (h : Below w.heap.size w W) => find_any ac cols dc t.h.c W (hr.cl.later h) hr.cn
  have HTe := hid fun (W : World) (v : V) (hv : VOk v) (h : Below w.heap.size w W) => test_any t.pr t.la t.lc t.kb t.kc v W (hpok.later h) hv
  have HRow := hid fun (W : World) (h : Below w.heap.size w W) => hr.rl.later h
  have HOk := hid hr.ok
  have HLen := hid hr.len
  have HKb := hid fun (W : World) (h : Below w.heap.size w W) => hKb.1.later h
  have HTru : Hid (truQ cols row t.abs = if t.h.K = 0 then 1 else if t.h.K = 6 then tr (rmin (truL cols row (absL t.ks))) else if t.h.K = 7 then tr (rmax (truL cols row (absL t.ks))) else if t.h.K = 8 then notI ((truL cols row (absL t.ks)).headD 0) else tstP t.pr (valAt cols row t.h.c)) := by
    show _ = _
    rw [T.abs_eq, truQ, absL_len]
    rfl
  have HTL : Hid ((truL cols row (absL t.ks)).length = t.ks.length) := by show _ = _; rw [truL_len, absL_len]
  have HKD := hid (wf_kind hwk.1)
  have HCh := hid (fun (h0 : t.h.K ≠ 0) (hj : joinB t.h.K = false) (h8 : t.h.K ≠ 8) => chk_find (wf_atom hwk.1 h0 hj h8))
  have HMn : Hid (Tr.mn (fun j => (truL cols row (absL t.ks)).getD j 0) t.ks.length = rmin (truL cols row (absL t.ks))) := by
    show _ = _
    rw [← HTL.out]; exact mn_all
  have HMx : Hid (Tr.mx (fun j => (truL cols row (absL t.ks)).getD j 0) t.ks.length = rmax (truL cols row (absL t.ks))) := by
    show _ = _
    rw [← HTL.out]; exact mx_all
  have HAn := hid fun (g : Nat) (W : World) (h : Tr.Nums W .i8 (some ⟨g, 0, none⟩) t.ks.length (fun j => (truL cols row (absL t.ks)).getD j 0)) => Tr.and_any (some ⟨g, 0, none⟩) t.ks.length t.ks.length _ W h (by omega)
  have HOr := hid fun (g : Nat) (W : World) (h : Tr.Nums W .i8 (some ⟨g, 0, none⟩) t.ks.length (fun j => (truL cols row (absL t.ks)).getD j 0)) => Tr.or_any (some ⟨g, 0, none⟩) t.ks.length t.ks.length _ W h (by omega)
  rw [HMn.out] at HAn
  rw [HMx.out] at HOr
  have HNo := hid fun (x : Int) (W : World) => Tr.not_any x W
  have b1 := below_new w (.cells #[.slice ac cols.length dc, .slice ar row.length dr] 83)
  have b2 := below_new (w.alloc (.cells #[.slice ac cols.length dc, .slice ar row.length dr] 83)) (.cells (ta t) 29)
  have x0 := (Bx.new w #[.slice ac cols.length dc, .slice ar row.length dr] 83).later b2
  have y1 := Bx.new (w.alloc (.cells #[.slice ac cols.length dc, .slice ar row.length dr] 83)) (ta t) 29
  have hsz : (w.alloc (.cells #[.slice ac cols.length dc, .slice ar row.length dr] 83)).heap.size = w.heap.size + 1 := by simp
  rw [hsz] at y1
  have B1 := hid (below_up b1 b2)
  obtain ⟨w1, hw1⟩ : ∃ w1, (w.alloc (.cells #[.slice ac cols.length dc, .slice ar row.length dr] 83)).alloc (.cells (ta t) 29) = w1 := ⟨_, rfl⟩
  rw [hw1] at x0 y1 B1
  have X := hid x0
  have Y := hid y1
  have r0 : w1.cell? ⟨w.heap.size, 0, none⟩ = some (.slice ac cols.length dc) := cell_of X.out rfl
  have r1 : w1.cell? ⟨w.heap.size, 1, none⟩ = some (.slice ar row.length dr) := cell_of X.out rfl
  obtain ⟨y0, y1', y2, y3, y4, y5, y6, y7, y8⟩ := Y.out.prd
  clear b1 b2 x0 y1 hsz hr hm hw hpok hH hV hKs hKb hkm hwk ih
  have hKc : t.h.K = 0 ∨ t.h.K = 6 ∨ t.h.K = 7 ∨ t.h.K = 8 ∨ (1 ≤ t.h.K ∧ t.h.K ≤ 5) := by
    rcases HKD.out with ⟨h, _⟩ | ⟨h1, h2, _⟩ | ⟨h, _⟩ | ⟨h, _⟩
    · exact .inl h
    · exact .inr (.inr (.inr (.inr ⟨h1, h2⟩)))
    · rcases join_or h with h | h
      · exact .inr (.inl h)
      · exact .inr (.inr (.inl h))
    · exact .inr (.inr (.inr (.inl h)))
  generalize hR : truQ cols row t.abs = R at *
  clear hR
  unfold rowV at *
  rcases hKc with hK | hK | hK | hK | hK
  · have HE : Hid (R = 1) := by show _ = _; rw [HTru.out, if_pos hK]
    clear HTs HT1 HFi HTe HRow HOk HLen HKb HTru HTL HKD HCh HMn HMx HAn HOr HNo
    obtain ⟨⟨K, c, op, ⟨vK, vI, vb, vs⟩, l⟩, la, lc, kb, kc, kk⟩ := t
    simp only [T.h, T.la, T.lc, T.kb, T.kc, T.ks, tv, ta, T.pr, pv, pa, prH] at *
    subst hK
    go_enter Tryz.func35, Tryz.ntmps35
    go_wp2_with fail
    go_ret
    exact ⟨by rw [HE.out]; rfl, B1.out⟩
  · have HE : Hid (R = tr (rmin (truL cols row (absL t.ks)))) := by show _ = _; rw [HTru.out, if_neg (by omega), if_pos hK]
    clear HT1 HFi HTe HRow HOk HLen HKb HTru HKD HCh HMn HMx HOr HNo HTL
    obtain ⟨⟨K, c, op, ⟨vK, vI, vb, vs⟩, l⟩, la, lc, kb, kc, kk⟩ := t
    simp only [T.h, T.la, T.lc, T.kb, T.kc, T.ks, tv, ta, T.pr, pv, pa, prH] at *
    subst hK
    go_enter Tryz.func35, Tryz.ntmps35
    go_wp2_with fail
    refine (HTs.out _ B1.out).mono ?_
    rintro e w2 ⟨g, rfl, hn, hb⟩
    have HA := hid (HAn.out g w2 hn)
    have B2 := hid (below_up B1.out hb)
    clear hn hb r0 r1 y0 y1' y2 y3 y4 y5 y6 y7 y8 hw1 X Y
    go_wp2_with fail
    refine HA.out.mono ?_
    rintro e w3 ⟨rfl, rfl⟩
    go_wp2_with fail
    go_ret
    exact ⟨by rw [HE.out]; rfl, B2.out⟩
  · have HE : Hid (R = tr (rmax (truL cols row (absL t.ks)))) := by show _ = _; rw [HTru.out, if_neg (by omega), if_neg (by omega), if_pos hK]
    clear HT1 HFi HTe HRow HOk HLen HKb HTru HKD HCh HMn HMx HAn HNo HTL
    obtain ⟨⟨K, c, op, ⟨vK, vI, vb, vs⟩, l⟩, la, lc, kb, kc, kk⟩ := t
    simp only [T.h, T.la, T.lc, T.kb, T.kc, T.ks, tv, ta, T.pr, pv, pa, prH] at *
    subst hK
    go_enter Tryz.func35, Tryz.ntmps35
    go_wp2_with fail
    refine (HTs.out _ B1.out).mono ?_
    rintro e w2 ⟨g, rfl, hn, hb⟩
    have HA := hid (HOr.out g w2 hn)
    have B2 := hid (below_up B1.out hb)
    clear hn hb r0 r1 y0 y1' y2 y3 y4 y5 y6 y7 y8 hw1 X Y
    go_wp2_with fail
    refine HA.out.mono ?_
    rintro e w3 ⟨rfl, rfl⟩
    go_wp2_with fail
    go_ret
    exact ⟨by rw [HE.out]; rfl, B2.out⟩
  · have hk1 : t.ks.length = 1 := by
      rcases HKD.out with ⟨h, _⟩ | ⟨h1, h2, _⟩ | ⟨h, _⟩ | ⟨_, h⟩
      · omega
      · omega
      · have := join_or h; omega
      · exact h
    obtain ⟨k, hkk⟩ := list1 hk1
    have HE : Hid (R = notI (truQ cols row k.abs)) := by
      show _ = _
      rw [HTru.out, if_neg (by omega), if_neg (by omega), if_neg (by omega), if_pos hK, hkk]
      rfl
    have HT2 := hid fun (W : World) (h : Below w.heap.size w W) => HT1.out W k (by rw [hkk]; simp) h
    have HKC := hid fun (W : World) (h : Below w.heap.size w W) => (HKb.out W h).cell9 (i := 0) (by omega)
    have hkk0 : t.ks[0]'(by omega) = k := by simp [hkk]
    rw [hkk0] at HKC
    clear HTs HT1 HFi HTe HRow HOk HLen HKb HTru HKD HCh HMn HMx HAn HOr HTL hkk hkk0
    generalize truQ cols row k.abs = tk at *
    obtain ⟨⟨K, c, op, ⟨vK, vI, vb, vs⟩, l⟩, la, lc, kb, kc, kk⟩ := t
    obtain ⟨⟨K', c', op', ⟨vK', vI', vb', vs'⟩, l'⟩, la', lc', kb', kc', kk'⟩ := k
    simp only [T.h, T.la, T.lc, T.kb, T.kc, T.ks, tv, ta, T.pr, pv, pa, prH] at *
    generalize kk.length = m at *
    subst hK
    subst hk1
    obtain ⟨g, o, rfl, _, k0, k1, k2, k3, k4, k5, k6, k7, k8⟩ := HKC.out _ B1.out
    simp only [Nat.zero_mul, Nat.add_zero] at k0 k1 k2 k3 k4 k5 k6 k7 k8
    have HS0 : Hid (Below w.heap.size w w1.drew) := Below.drew B1.out
    clear HKC
    go_enter Tryz.func35, Tryz.ntmps35
    go_wp2_with fail
    go_region_with first | (go_at_call 35; refine (HT2.out _ HS0.out).mono ?_; rintro e w9 ⟨rfl, hb9⟩; have hS9 : Below w.heap.size w w9 := below_up HS0.out hb9; clear hb9) | (go_at_call 50; refine (HNo.out _ _).mono ?_; rintro e w8 ⟨rfl, rfl⟩)
    all_goals
      go_wp2_with fail
      go_ret
      exact ⟨by rw [HE.out]; rfl, by assumption⟩
  · have hj : joinB t.h.K = false := by simp [joinB]; omega
    have hf : findB cols t.h.c = true := HCh.out (by omega) hj (by omega)
    have HE : Hid (R = tstP t.pr (valAt cols row t.h.c)) := by
      show _ = _
      rw [HTru.out, if_neg (by omega), if_neg (by omega), if_neg (by omega), if_neg (by omega)]
    obtain ⟨i, hi, hil⟩ := find_at hf
    have hir : i < row.length := by rw [HLen.out]; exact hil
    have hva : valAt cols row t.h.c = row[i] := by
      unfold valAt
      rw [hi, List.getD_eq_getElem?_getD, show ((i : Int)).toNat = i by omega, List.getElem?_eq_getElem hir]
      rfl
    rw [hva] at HE
    rw [hi, hf] at HFi
    have HTe2 := hid fun (W : World) (h : Below w.heap.size w W) => HTe.out W row[i] (HOk.out _ (List.getElem_mem hir)) h
    have hiri : (i : Int) < (row.length : Int) := by omega
    have HRw := hid fun (W : World) (h : Below w.heap.size w W) => (HRow.out W h).cell4 hir
    have TX := hid fun (W : World) (h : Below w1.heap.size w1 W) => (Y.out.later h).prd
    have TR := hid fun (W : World) (h : Below w1.heap.size w1 W) => show W.cell? ⟨w.heap.size, 1, none⟩ = some (.slice ar row.length dr) from cell_of (X.out.later h) rfl
    clear HTs HT1 HTe HRow HOk HLen HKb HTru HKD HCh HMn HMx HAn HOr HTL hva hi hf hil HNo
    generalize tstP t.pr row[i] = tk at *
    generalize hri : row[i] = v at *
    clear hri
    have k0 : (t.h.K == 0) = false := by simp; omega
    have k6 : (t.h.K == 6) = false := by simp; omega
    have k7 : (t.h.K == 7) = false := by simp; omega
    have k8 : (t.h.K == 8) = false := by simp; omega
    clear hK hj
    obtain ⟨⟨K, c, op, ⟨vK, vI, vb, vs⟩, l⟩, la, lc, kb, kc, kk⟩ := t
    obtain ⟨aK, aI, ab, as'⟩ := v
    simp only [T.h, T.la, T.lc, T.kb, T.kc, T.ks, tv, ta, T.pr, pv, pa, prH, vv] at *
    go_enter Tryz.func35, Tryz.ntmps35
    go_wp2_with fail
    refine (HFi.out _ B1.out).mono ?_
    rintro e w2 ⟨rfl, hb⟩
    clear r0 r1 y0 y1' y2 y3 y4 y5 y6 y7 y8 hw1
    obtain ⟨y0, y1', y2, y3, y4, y5, y6, y7, y8⟩ := TX.out _ hb
    have r1 := TR.out _ hb
    have hb2 := below_up B1.out hb
    obtain ⟨g, o, rfl, _, a0, a1, a2, a3⟩ := HRw.out _ hb2
    have HS0 : Hid (Below w.heap.size w w2.drew) := Below.drew hb2
    clear hb hb2 HRw HFi TX TR X Y
    go_wp2_with fail
    go_region_with (go_at_call 52; refine (HTe2.out _ HS0.out).mono ?_; rintro e w9 ⟨rfl, hb9⟩; have hS9 : Below w.heap.size w w9 := below_up HS0.out hb9; clear hb9)
    all_goals
      go_wp2_with fail
      go_ret
      exact ⟨by rw [HE.out]; rfl, by assumption⟩
end Go.Proofs.YthgnibphhiaecaaGreat
