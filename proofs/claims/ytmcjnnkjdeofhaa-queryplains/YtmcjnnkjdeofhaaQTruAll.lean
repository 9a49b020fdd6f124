import Derived.Test.YtmcjnnkjdeofhaaQLook2
import Derived.Test.YtmcjnnkjdeofhaaATest
import Derived.Test.YtmcjnnkjdeofhaaQTAll
/-
  rowOf.truth, truths; isRow.
-/
namespace Go.Proofs.Ytmcjnnkjdeofhaa
open Go.ChangeShapes Go.WideShapes Go.ChangeAt Go.RowKit Cu Vl
attribute [local go_sem] run_store_float

theorem MT.later {w w' : World} (hb : Below w.heap.size w w') {t : T} (h : MT w w.heap.size t) : MT w' w'.heap.size t := (h.keep hb).low hb.size
/-- Columns and a row of them. -/
structure RowC (w : World) (ac : Option Addr) (cols : List Col) (ar : Option Addr) (row : List V) : Prop where
  cl : Lst cc 3 w ac cols
  rl : Lst vc 4 w ar row
  len : row.length = cols.length
  cn : cols.length ≤ 140737488355328
  ok : ∀ v ∈ row, VOk v
theorem RowC.later {w w' : World} (hb : Below w.heap.size w w') {ac : Option Addr} {cols : List Col} {ar : Option Addr} {row : List V} (h : RowC w ac cols ar row) : RowC w' ac cols ar row := ⟨h.cl.later hb, h.rl.later hb, h.len, h.cn, h.ok⟩
def rowV (ac : Option Addr) (n dc : Nat) (ar : Option Addr) (m dr : Nat) : Value := .agg #[.slice ac n dc, .slice ar m dr]
def TruOk (cols : List Col) (row : List V) (ac : Option Addr) (dc : Nat) (ar : Option Addr) (dr : Nat) (t : T) : Prop :=
  ∀ (w : World), RowC w ac cols ar row → MT w w.heap.size t → wfQ cols t.abs = true →
    Calls Try.prog 46 #[rowV ac cols.length dc ar row.length dr, tv t] w fun r w' => r = .returned (.int .i8 (truQ cols row t.abs)) ∧ Below w.heap.size w w'
def trA (l : List Int) (n i : Nat) : Array Value := (((l.take i).map (fun x => Value.int .i8 x)) ++ List.replicate (n - i) (Value.int .i8 0)).toArray
theorem trA_at {l : List Int} {n i : Nat} (hl : l.length = n) (hi : i < n) : (trA l n i)[i]? = some (.int .i8 0) := by
  unfold trA
  rw [List.getElem?_toArray, List.getElem?_append_right (by simp; omega)]
  simp only [List.length_map, List.length_take, List.getElem?_replicate]
  rw [if_pos (by omega)]
theorem trA_set {l : List Int} {n i : Nat} (hl : l.length = n) (hi : i < n) : (trA l n i).setIfInBounds i (.int .i8 (l[i]'(by omega))) = trA l n (i + 1) := by
  have h1 : ((l.take i).map (fun x => Value.int .i8 x)).length = i := by simp; omega
  unfold trA
  rw [List.setIfInBounds_toArray, List.set_append, if_neg (by omega), h1, Nat.sub_self, show n - i = (n - (i + 1)) + 1 by omega, List.replicate_succ, List.set_cons_zero, List.take_add_one, List.getElem?_eq_getElem (by omega)]
  simp only [Option.toList_some, List.map_append, List.map_cons, List.map_nil, List.append_assoc, List.cons_append, List.nil_append]
theorem trA_nums {w : World} {g : Nat} {l : List Int} (h : Bx w g (trA l l.length l.length) 40) : Tr.Nums w .i8 (some ⟨g, 0, none⟩) l.length (fun j => l.getD j 0) := fun j hj => by
  refine ⟨g, 0, rfl, h.lt, ?_⟩
  rw [Nat.zero_add]
  refine cell_of h ?_
  unfold trA
  show _ = some (Value.int .i8 (l.getD j 0))
  rw [List.take_length, Nat.sub_self, List.replicate_zero, List.append_nil, List.getElem?_toArray, List.getElem?_map, List.getElem?_eq_getElem hj, List.getD_eq_getElem?_getD, List.getElem?_eq_getElem hj]
  rfl
theorem infoTr : (Try.prog.info? 40).map (fun i => (i.zero, i.size, i.bytes)) = some (some (.int .i8 0), 1, 1) := by kernel_rfl
theorem makeTr (w : World) (m : Nat) (hm : m ≤ 140737488355328) : (Instr.makeSlice 84 (.int .i64 (m : Int)) (.int .i64 (m : Int))).run Try.prog w = .ok (.slice (some ⟨w.heap.size, 0, none⟩) m m) (w.alloc (.cells (madeCells #[.int .i8 0] m) 40)) := by
  obtain ⟨i0, hi, hz0, hz1, hz2⟩ := info_parts infoTr
  have hmk := run_make (P := Try.prog) w 84 40 i0 (.int .i8 0) Try.underlying84 hi hz0 .i64 .i64 (m : Int) (m : Int) (by omega) (by omega) (by rw [hz2]; omega) (by omega)
  rw [hz1, show (m : Int).toNat * 1 = m by omega, show (m : Int).toNat = m by omega, show (Value.int .i8 0).cells = #[Value.int .i8 0] from rfl] at hmk
  exact hmk
theorem made_trA (l : List Int) (m : Nat) : madeCells #[.int .i8 0] m = trA l m 0 := by
  unfold trA madeCells
  simp only [List.take_zero, List.map_nil, List.nil_append, Nat.sub_zero]
  apply Array.ext
  · simp
  · intro i h1 h2
    simp [Nat.mod_one]
theorem truL_len {cols : List Col} {row : List V} (ks : List Q) : (truL cols row ks).length = ks.length := by rw [truL_map, List.length_map]
set_option maxRecDepth 8000 in
set_option maxHeartbeats 8000000 in
theorem truths_any (cols : List Col) (row : List V) (ac : Option Addr) (dc : Nat) (ar : Option Addr) (dr : Nat) (b : Option Addr) (d : Nat) (ks : List T) (ih : ∀ k ∈ ks, TruOk cols row ac dc ar dr k) (w : World) (hr : RowC w ac cols ar row) (hn : ks.length ≤ 140737488355328) (hK : Lst tc 9 w b ks) (hM : ∀ k ∈ ks, MT w w.heap.size k) (hW : ∀ k ∈ ks, wfQ cols k.abs = true) :
    Calls Try.prog 64 #[rowV ac cols.length dc ar row.length dr, .slice b ks.length d] w fun r w' => ∃ g, r = .returned (.slice (some ⟨g, 0, none⟩) ks.length ks.length) ∧ Tr.Nums w' .i8 (some ⟨g, 0, none⟩) ks.length (fun j => (truL cols row (absL ks)).getD j 0) ∧ Below w.heap.size w w' := by
  have hll : (truL cols row (absL ks)).length = ks.length := by rw [truL_len, absL_len]
  have b1 := below_new w (.cells #[.slice ac cols.length dc, .slice ar row.length dr] 82)
  have hmk := makeTr (w.alloc (.cells #[.slice ac cols.length dc, .slice ar row.length dr] 82)) ks.length hn
  rw [made_trA (truL cols row (absL ks))] at hmk
  have b2 := below_new (w.alloc (.cells #[.slice ac cols.length dc, .slice ar row.length dr] 82)) (.cells (trA (truL cols row (absL ks)) ks.length 0) 40)
  have x0 := Bx.new w #[.slice ac cols.length dc, .slice ar row.length dr] 82
  have x1 := x0.later b2
  have y1 := Bx.new (w.alloc (.cells #[.slice ac cols.length dc, .slice ar row.length dr] 82)) (trA (truL cols row (absL ks)) ks.length 0) 40
  have B1 := below_up b1 b2
  have hsz : (w.alloc (.cells #[.slice ac cols.length dc, .slice ar row.length dr] 82)).heap.size = w.heap.size + 1 := by simp
  rw [hsz] at y1 hmk
  obtain ⟨w1, hw1⟩ : ∃ w1, (w.alloc (.cells #[.slice ac cols.length dc, .slice ar row.length dr] 82)).alloc (.cells (trA (truL cols row (absL ks)) ks.length 0) 40) = w1 := ⟨_, rfl⟩
  rw [hw1] at x1 y1 B1 hmk
  obtain ⟨gT, hgT⟩ : ∃ gT, w.heap.size + 1 = gT := ⟨_, rfl⟩
  rw [hgT] at y1 hmk
  have HG := hid hgT
  have X1 := hid x1
  have Y1 := hid y1
  have B1 := hid B1
  have HR := hid hr
  have HK := hid hK
  have HM := hid hM
  have HW := hid hW
  have HI := hid ih
  clear b1 b2 x0 x1 y1 hw1 hgT hsz hr hK hM hW ih
  unfold rowV
  go_enter Try.func64, Try.ntmps64
  go_wp2_with fail
  clear hmk
  go_loopw [13] (fun ix wr => ∃ i : Nat, i ≤ ks.length ∧ ix = .int .i64 i ∧ Hid (Bx wr gT (trA (truL cols row (absL ks)) ks.length i) 40) ∧ Hid (Bx wr w.heap.size #[.slice ac cols.length dc, .slice ar row.length dr] 82) ∧ Hid (Below w.heap.size w wr)) (fun ix _ => ks.length - (intOf ix).toNat)
  case atStart => exact ⟨0, Nat.zero_le _, rfl, Y1, X1, B1⟩
  case round =>
    clear X1 Y1 B1
    obtain ⟨i, hi, rfl, HY, HX, HB⟩ := hrel
    rename World => wr
    by_cases hlt : i < ks.length
    · have hii : (i : Int) < (ks.length : Int) := by omega
      obtain ⟨g, o, rfl, _, k0, k1, k2, k3, k4, k5, k6, k7, k8⟩ := (HK.out.later HB.out).cell9 hlt
      have hmi := HM.out _ (List.getElem_mem hlt)
      have hb1 := below_new wr (.cells (ta ks[i]) 28)
      have hbG := below_up HB.out hb1
      have HR1 := hid (HI.out _ (List.getElem_mem hlt) (wr.alloc (.cells (ta ks[i]) 28)) (HR.out.later hbG) (hmi.later hbG) (HW.out _ (List.getElem_mem hlt)))
      have HS : Hid ((truL cols row (absL ks))[i]'(by rw [hll]; exact hlt) = truQ cols row ks[i].abs) := by
        show _ = _
        simp [truL_map, absL_map]
      have HST : Hid ((trA (truL cols row (absL ks)) ks.length i).setIfInBounds i (.int .i8 (truQ cols row ks[i].abs)) = trA (truL cols row (absL ks)) ks.length (i + 1)) := by
        show _ = _
        rw [← HS.out]
        exact trA_set hll hlt
      have HCA := hid (trA_at hll hlt)
      have HY1 := hid (HY.out.later hb1)
      have HX1 := hid (HX.out.later hb1)
      have X := hid (Bx.new wr (ta ks[i]) 28)
      have HBG := hid hbG
      clear hmi hb1 hbG HS
      obtain ⟨w1, hw1⟩ : ∃ w1, wr.alloc (.cells (ta ks[i]) 28) = w1 := ⟨_, rfl⟩
      rw [hw1] at HR1 X HBG HY1 HX1
      obtain ⟨x0, x1, x2, x3, x4, x5, x6, x7, x8⟩ := X.out.prd
      have r0 : w1.cell? ⟨w.heap.size, 0, none⟩ = some (.slice ac cols.length dc) := cell_of HX1.out rfl
      have r1 : w1.cell? ⟨w.heap.size, 1, none⟩ = some (.slice ar row.length dr) := cell_of HX1.out rfl
      generalize truQ cols row ks[i].abs = tq at *
      generalize hti : ks[i] = t at *
      clear hti
      obtain ⟨⟨K, c, op, ⟨vK, vI, vb, vs⟩, l⟩, la, lc, kb, kc, kk⟩ := t
      simp only [T.h, T.la, T.lc, T.kb, T.kc, T.ks, tv, ta, T.pr, pv, pa, prH, rowV] at *
      go_wp2_with fail
      refine HR1.out.mono ?_
      rintro e w2 ⟨rfl, hbl⟩
      have HY2 := hid (HY1.out.later hbl)
      have HX2 := hid (HX1.out.later hbl)
      have HB2 := hid (below_up HBG.out hbl)
      have c0 : w2.cell? ⟨gT, i, none⟩ = some (.int .i8 0) := cell_of HY2.out HCA.out
      have fT := HY2.out.frz
      have HGT : Hid (w.heap.size ≤ gT ∧ w.heap.size ≠ gT) := by show _ ∧ _; have := HG.out; omega
      clear hbl k0 k1 k2 k3 k4 k5 k6 k7 k8 x0 x1 x2 x3 x4 x5 x6 x7 x8 r0 r1 X hw1 HY HX HB HBG HR1 HY1 HX1 HCA
      have hy3 := bx_set (i := i) HY2.out (.int .i8 tq)
      rw [HST.out] at hy3
      have HY3 := hid hy3
      have HX3 := hid (HX2.out.far1 (i := i) HGT.out.2 (.int .i8 tq))
      have HB3 := hid (HB2.out.setCell (p := ⟨gT, i, none⟩) HGT.out.1 (.int .i8 tq))
      clear hy3 HY2 HX2 HB2 HST
      go_wp2_with fail
      exact ⟨⟨i + 1, by omega, by go_num, HY3, HX3, HB3⟩, by simp [intOf]; omega⟩
    · obtain rfl : i = ks.length := by omega
      have HN : Hid (Tr.Nums wr .i8 (some ⟨gT, 0, none⟩) ks.length (fun j => (truL cols row (absL ks)).getD j 0)) := by
        have h := HY.out
        rw [← hll] at h
        have h2 := trA_nums h
        rw [hll] at h2
        exact h2
      go_wp2_with fail
      go_ret
      exact ⟨gT, rfl, HN.out, HB.out⟩
end Go.Proofs.Ytmcjnnkjdeofhaa
