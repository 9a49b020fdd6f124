import Derived.Test.YthgnibphhiaecaaGreatQTruAll
/-
  predMayBe, CheckPred, isRow, Truth.
-/
namespace Go.Proofs.YthgnibphhiaecaaGreat
open Go.ChangeShapes Go.WideShapes Go.ChangeAt Go.RowKit Cu Vl
attribute [local go_sem] run_store_float

theorem predMay_any (cols : List Col) (ac : Option Addr) (dc : Nat) (t : T) (w : World) (hL : Lst cc 3 w ac cols) (hcl : cols.length ≤ 140737488355328) (hm : MT w w.heap.size t) :
    Calls Tryz.prog 37 #[.slice ac cols.length dc, tv t] w fun r w' => r = .returned (.bool (chkQ cols t.abs)) ∧ Below w.heap.size w w' := by
  have b1 := below_new w (.cells (ta t) 29)
  have b2 := below_new (w.alloc (.cells (ta t) 29)) (.cells (#[.slice ac cols.length dc, .int .i64 4096]) 105)
  have x1 := (Bx.new w (ta t) 29).later b2
  have y1 := Bx.new (w.alloc (.cells (ta t) 29)) (#[.slice ac cols.length dc, .int .i64 4096]) 105
  have hsz : (w.alloc (.cells (ta t) 29)).heap.size = w.heap.size + 1 := by simp
  rw [hsz] at y1
  have B1 := hid (below_up b1 b2)
  obtain ⟨w1, hw1⟩ : ∃ w1, (w.alloc (.cells (ta t) 29)).alloc (.cells (#[.slice ac cols.length dc, .int .i64 4096]) 105) = w1 := ⟨_, rfl⟩
  rw [hw1] at x1 y1 B1
  have HL : Hid (Calls Tryz.prog 55 #[.pointer (some ⟨w.heap.size + 1, 0, none⟩), tv t, .int .i64 64] w1 (LookPost cols ac dc (w.heap.size + 1) 4096 (mayQ cols t.abs 64 4096) t.abs.sz w1)) := (look_any cols ac dc hcl t 64 4096 (w.heap.size + 1) w.heap.size w1 (Nat.le_refl _) (Nat.le_refl _) y1 (by omega) (hm.keep B1.out) ((LstB.of hL (Nat.le_refl _)).keep B1.out))
  obtain ⟨x0, x1', x2, x3, x4, x5, x6, x7, x8⟩ := x1.prd
  have HQ : Hid (mayQ cols t.abs 64 4096 = chkQ cols t.abs) := rfl
  rw [HQ.out] at HL
  generalize t.abs.sz = sz at *
  generalize chkQ cols t.abs = q at *
  clear b1 b2 x1 y1 hsz hm hL HQ
  obtain ⟨⟨K, c, op, ⟨vK, vI, vb, vs⟩, l⟩, la, lc, kb, kc, kk⟩ := t
  simp only [T.h, T.la, T.lc, T.kb, T.kc, T.ks, tv, ta, T.pr, pv, pa, prH] at *
  go_enter Tryz.func37, Tryz.ntmps37
  go_wp2_with fail
  refine HL.out.mono ?_
  rintro e w2 ⟨lf, rfl, _, _, hb⟩
  have B2 := hid (B1.out.trans (hb.mono (show w.heap.size ≤ w.heap.size + 1 by omega)))
  clear hb x0 x1' x2 x3 x4 x5 x6 x7 x8 hw1 HL
  go_wp2_with fail
  go_ret
  exact ⟨rfl, B2.out⟩
def cpE (cols : List Col) (q : Q) : Int := if Sc.chkB cols = true then (if chkQ cols q = true then 0 else 230) else 150
theorem cpE_ok {cols : List Col} {q : Q} : cpE cols q = 0 ↔ Sc.chkB cols = true ∧ chkQ cols q = true := by
  unfold cpE
  by_cases h1 : Sc.chkB cols = true
  · by_cases h2 : chkQ cols q = true
    · simp [h1, h2]
    · simp [h1, h2]
  · simp [h1]
structure ColC (w : World) (ac : Option Addr) (cols : List Col) : Prop where
  cl : Lst cc 3 w ac cols
  few : Sc.Few cols
  cn : cols.length ≤ 140737488355328
theorem ColC.later {w w' : World} (hb : Below w.heap.size w w') {ac : Option Addr} {cols : List Col} (h : ColC w ac cols) : ColC w' ac cols := ⟨h.cl.later hb, h.few, h.cn⟩
set_option maxHeartbeats 1000000 in
theorem checkPred_any (cols : List Col) (ac : Option Addr) (dc : Nat) (t : T) (w : World) (hC : ColC w ac cols) (hm : MT w w.heap.size t) :
    Calls Tryz.prog 21 #[.slice ac cols.length dc, tv t] w fun r w' => r = .returned (.int .i64 (cpE cols t.abs)) ∧ Below w.heap.size w w' := by
  have HS := hid fun (W : World) (h : Below w.heap.size w W) => Sc.check_any ac cols dc W (hC.cl.later h) hC.few hC.cn
  have HP := hid fun (W : World) (h : Below w.heap.size w W) => predMay_any cols ac dc t W (hC.cl.later h) hC.cn (hm.later h)
  have B1 := hid (below_new w (.cells (ta t) 29))
  have X := hid (Bx.new w (ta t) 29)
  obtain ⟨w1, hw1⟩ : ∃ w1, w.alloc (.cells (ta t) 29) = w1 := ⟨_, rfl⟩
  rw [hw1] at X B1
  have TX := hid fun (W : World) (h : Below w1.heap.size w1 W) => (X.out.later h).prd
  have HE : Hid (cpE cols t.abs = if Sc.chkB cols = true then (if chkQ cols t.abs = true then 0 else 230) else 150) := rfl
  have HE1 : Hid (Sc.chkE cols = if Sc.chkB cols = true then 0 else 150) := rfl
  generalize cpE cols t.abs = R at *
  generalize chkQ cols t.abs = q at *
  generalize Sc.chkE cols = e0 at *
  generalize Sc.chkB cols = cb at *
  clear hm hC X
  obtain ⟨⟨K, c, op, ⟨vK, vI, vb, vs⟩, l⟩, la, lc, kb, kc, kk⟩ := t
  simp only [T.h, T.la, T.lc, T.kb, T.kc, T.ks, tv, ta, T.pr, pv, pa, prH] at *
  go_enter Tryz.func21, Tryz.ntmps21
  go_wp2_with fail
  refine (HS.out _ B1.out).mono ?_
  rintro e w2 ⟨rfl, hb⟩
  clear hw1
  obtain ⟨x0, x1, x2, x3, x4, x5, x6, x7, x8⟩ := TX.out _ hb
  have B2 := hid (below_up B1.out hb)
  clear hb HS TX B1
  cases cb
  · have h1 : e0 = 150 := by rw [HE1.out]; rfl
    subst h1
    go_wp2_with fail
    go_ret
    exact ⟨by rw [HE.out]; rfl, B2.out⟩
  · have h1 : e0 = 0 := by rw [HE1.out]; rfl
    subst h1
    go_wp2_with fail
    refine (HP.out _ B2.out).mono ?_
    rintro e w3 ⟨rfl, hb⟩
    have B3 := hid (below_up B2.out hb)
    clear hb HP B2 x0 x1 x2 x3 x4 x5 x6 x7 x8
    cases q
    · go_wp2_with fail
      go_ret
      exact ⟨by rw [HE.out]; rfl, B3.out⟩
    · go_wp2_with fail
      go_ret
      exact ⟨by rw [HE.out]; rfl, B3.out⟩
/-! ### Rows -/
def rowB (cols : List Col) (row : List V) : Bool := decide (row.length = cols.length) && (cols.zip row).all fun x => fitB x.1 x.2
theorem rowB_no {cols : List Col} {row : List V} {i : Nat} (h1 : i < cols.length) (h2 : i < row.length) (h : fitB cols[i] row[i] = false) : rowB cols row = false := by
  unfold rowB
  rw [Bool.and_eq_false_iff]
  right
  rw [List.all_eq_false]
  exact ⟨(cols[i], row[i]), List.mem_iff_getElem.2 ⟨i, by simp; omega, by simp⟩, by simp [h]⟩
theorem rowB_all {cols : List Col} {row : List V} (h : row.length = cols.length) (hf : ∀ i (h1 : i < cols.length) (h2 : i < row.length), fitB cols[i] row[i] = true) : rowB cols row = true := by
  unfold rowB
  rw [Bool.and_eq_true, decide_eq_true_eq, List.all_eq_true]
  refine ⟨h, fun x hx => ?_⟩
  obtain ⟨i, hi, rfl⟩ := List.mem_iff_getElem.1 hx
  simp only [List.length_zip] at hi
  simpa using hf i (by omega) (by omega)
theorem rowB_len {cols : List Col} {row : List V} (h : rowB cols row = true) : row.length = cols.length := by
  unfold rowB at h
  rw [Bool.and_eq_true, decide_eq_true_eq] at h
  exact h.1
theorem rowB_at {cols : List Col} {row : List V} (h : rowB cols row = true) {i : Nat} (h1 : i < cols.length) (h2 : i < row.length) : fitB cols[i] row[i] = true := by
  cases hf : fitB cols[i] row[i] with
  | true => rfl
  | false => rw [rowB_no h1 h2 hf] at h; cases h
end Go.Proofs.YthgnibphhiaecaaGreat

/-
  isRow, the document's Of; Truth. (Written by mkrowof.py.)
-/
namespace Go.Proofs.YthgnibphhiaecaaGreat
open Go.ChangeShapes Go.WideShapes Go.ChangeAt Go.RowKit Cu Vl
attribute [local go_sem] run_store_float

theorem fitB_eq (nm : ByteArray) (T : Int) (nb : Bool) (v : V) : fitB ⟨nm, T, nb⟩ v = fitsB T nb v.K (mayB v.K v.I v.b v.s) := rfl
set_option maxRecDepth 8000 in
set_option maxHeartbeats 8000000 in
theorem isRow_any (cols : List Col) (row : List V) (ac : Option Addr) (dc : Nat) (ar : Option Addr) (dr : Nat) (w : World) (hc : Lst cc 3 w ac cols) (hr : Lst vc 4 w ar row) (hcn : cols.length ≤ 140737488355328) (_hrn : row.length ≤ 140737488355328) (hok : ∀ v ∈ row, VOk v) :
    Calls Tryz.prog 34 #[.slice ac cols.length dc, .slice ar row.length dr] w fun r w' => r = .returned (.bool (rowB cols row)) ∧ Below w.heap.size w w' := by
  have HC := hid fun (W : World) (h : Below w.heap.size w W) => hc.later h
  have HR := hid fun (W : World) (h : Below w.heap.size w W) => hr.later h
  have HO := hid hok
  have HNo := hid fun (i : Nat) (h1 : i < cols.length) (h2 : i < row.length) (h : fitB cols[i] row[i] = false) => rowB_no h1 h2 h
  have HAll := hid fun (h : row.length = cols.length) hf => rowB_all (cols := cols) (row := row) h hf
  clear hc hr hok
  by_cases hl : row.length = cols.length
  · have hlb : ((row.length : Int) != (cols.length : Int)) = false := by rw [hl]; simp
    have HLn := hid hl
    clear hl
    go_enter Tryz.func34, Tryz.ntmps34
    go_wp2_with fail
    go_loopw [14] (fun ix wr => ∃ i : Nat, i ≤ row.length ∧ ix = .int .i64 i ∧ Hid (∀ j (h1 : j < cols.length) (h2 : j < row.length), j < i → fitB cols[j] row[j] = true) ∧ Hid (Below w.heap.size w wr)) (fun ix _ => row.length - (intOf ix).toNat)
    case atStart => exact ⟨0, Nat.zero_le _, rfl, fun j _ _ h => (by omega), Below.refl _ _⟩
    case round =>
      obtain ⟨i, hi, rfl, HA, HB⟩ := hrel
      rename World => wr
      by_cases hlt : i < row.length
      · have h1 : i < cols.length := by have := HLn.out; omega
        have h2 : i < row.length := by have := HLn.out; omega
        have hii : (i : Int) < (row.length : Int) := by omega
        have hic : (i : Int) < (cols.length : Int) := by omega
        have hir : (i : Int) < (row.length : Int) := by omega
        obtain ⟨g, o, hac, _, k0, k1, k2⟩ := (HC.out wr HB.out).cell3 h1
        obtain ⟨g', o', har, _, r0, r1, r2, r3⟩ := (HR.out wr HB.out).cell4 h2
        have hv := HO.out _ (List.getElem_mem h2)
        have HN := hid (HNo.out i h1 h2)
        have HAn : Hid (fitB cols[i] row[i] = true → ∀ j (h1 : j < cols.length) (h2 : j < row.length), j < i + 1 → fitB cols[j] row[j] = true) := fun hf j a b h => by
          by_cases e : j = i
          · subst e; exact hf
          · exact HA.out j a b (by omega)
        generalize hci : cols[i] = c at *
        generalize hvi : row[i] = v at *
        clear hci hvi
        have HF := hid fun (W : World) => fits_any c.nm c.T c.nb v.K v.I v.b v.s W hv.b
        have HQ : Hid (fitB c v = fitsB c.T c.nb v.K (mayB v.K v.I v.b v.s)) := rfl
        rw [← HQ.out] at HF
        generalize fitB c v = q at *
        clear hv HQ
        subst hac har
        obtain ⟨nm, T, nb⟩ := c
        obtain ⟨vK, vI, vb, vs⟩ := v
        unfold colV valV at HF
        dsimp only at *
        have HBN := hid (below_up HB.out (below_new wr (.cells #[.int .i64 vK, .int .i64 vI, .float .f64 vb, .string vs] 25)))
        have HBD : Hid (Below w.heap.size w (wr.alloc (.cells #[.int .i64 vK, .int .i64 vI, .float .f64 vb, .string vs] 25)).drew) := Below.drew HBN.out
        have X := hid (Bx.new wr #[.int .i64 vK, .int .i64 vI, .float .f64 vb, .string vs] 25)
        have k0' := HC.out _ HBN.out
        obtain ⟨w1, hw1⟩ : ∃ w1, wr.alloc (.cells #[.int .i64 vK, .int .i64 vI, .float .f64 vb, .string vs] 25) = w1 := ⟨_, rfl⟩
        have hb1 := below_new wr (.cells #[.int .i64 vK, .int .i64 vI, .float .f64 vb, .string vs] 25)
        rw [hw1] at HBN HBD X hb1
        have e0 : w1.cell? ⟨g, o + i * 3, none⟩ = some (.string nm) := (hb1.cell (p := ⟨g, o + i * 3, none⟩) (inHeap k0)).trans k0
        have e1 : w1.cell? ⟨g, o + i * 3 + 1, none⟩ = some (.int .i64 T) := (hb1.cell (p := ⟨g, o + i * 3 + 1, none⟩) (inHeap k1)).trans k1
        have e2 : w1.cell? ⟨g, o + i * 3 + 2, none⟩ = some (.bool nb) := (hb1.cell (p := ⟨g, o + i * 3 + 2, none⟩) (inHeap k2)).trans k2
        have x0 : w1.cell? ⟨wr.heap.size, 0, none⟩ = some (.int .i64 vK) := cell_of X.out rfl
        have x1 : w1.cell? ⟨wr.heap.size, 1, none⟩ = some (.int .i64 vI) := cell_of X.out rfl
        have x2 : w1.cell? ⟨wr.heap.size, 2, none⟩ = some (.float .f64 vb) := cell_of X.out rfl
        have x3 : w1.cell? ⟨wr.heap.size, 3, none⟩ = some (.string vs) := cell_of X.out rfl
        clear hb1 k0' k0 k1 k2 X HBN
        go_wp2_with fail
        go_region_with (go_at_call 46; refine (HF.out _).mono ?_; rintro e w9 ⟨rfl, hb9⟩; have hS9 : Below w.heap.size w w9 := below_up HBD.out hb9; clear hb9)
        all_goals
          have HB2 := hid hS9
          cases q
          · have HE := hid (HN.out rfl)
            clear HN HAn
            go_wp2_with fail
            go_ret
            exact ⟨by rw [HE.out]; rfl, HB2.out⟩
          · have HE := hid (HAn.out rfl)
            clear HN HAn
            go_wp2_with fail
            exact ⟨⟨i + 1, by omega, by go_num, HE, HB2⟩, by simp [intOf]; omega⟩
      · have HE := hid (HAll.out HLn.out (fun j a b => HA.out j a b (by have := HLn.out; omega)))
        obtain rfl : i = row.length := by omega
        go_wp2_with fail
        go_ret
        exact ⟨by rw [HE.out]; rfl, HB.out⟩
  · have hlb : ((row.length : Int) != (cols.length : Int)) = true := by simp; omega
    have HE : Hid (rowB cols row = false) := by
      cases h : rowB cols row with
      | false => rfl
      | true => exact absurd (rowB_len h) hl
    clear HAll HNo
    go_enter Tryz.func34, Tryz.ntmps34
    go_wp2_with fail
    go_ret
    exact ⟨by rw [HE.out]; rfl, Below.refl _ _⟩
def truE (cols : List Col) (row : List V) (q : Q) : Int := if cpE cols q ≠ 0 then cpE cols q else if rowB cols row = true then 0 else 50
def truR (cols : List Col) (row : List V) (q : Q) : Int := if truE cols row q = 0 then truQ cols row q else 0
set_option maxHeartbeats 2000000 in
theorem callTruth_any (cols : List Col) (row : List V) (ac : Option Addr) (dc : Nat) (ar : Option Addr) (dr : Nat) (t : T) (w : World) (hC : ColC w ac cols) (hr : Lst vc 4 w ar row) (hrn : row.length ≤ 140737488355328) (hok : ∀ v ∈ row, VOk v) (hm : MT w w.heap.size t) :
    Calls Tryz.prog 18 #[.slice ac cols.length dc, tv t, .slice ar row.length dr] w fun r w' => r = .returned (.tuple #[.int .i8 (truR cols row t.abs), .int .i64 (truE cols row t.abs)]) ∧ Below w.heap.size w w' := by
  have HP := hid fun (W : World) (h : Below w.heap.size w W) => checkPred_any cols ac dc t W (hC.later h) (hm.later h)
  have HI := hid fun (W : World) (h : Below w.heap.size w W) => isRow_any cols row ac dc ar dr W (hC.cl.later h) (hr.later h) hC.cn hrn hok
  have HT := hid fun (W : World) (h : Below w.heap.size w W) (h1 : cpE cols t.abs = 0) (h2 : rowB cols row = true) => truth_any cols row ac dc ar dr t W ⟨hC.cl.later h, hr.later h, rowB_len h2, hC.cn, hok⟩ (hm.later h) (by
    have := (cpE_ok.1 h1).2
    unfold chkQ mayQ at this
    simp only [Bool.and_eq_true] at this
    exact this.1.1)
  have HE : Hid (truE cols row t.abs = if cpE cols t.abs ≠ 0 then cpE cols t.abs else if rowB cols row = true then 0 else 50) := rfl
  have HR : Hid (truR cols row t.abs = if truE cols row t.abs = 0 then truQ cols row t.abs else 0) := rfl
  have B1 := hid (below_new w (.cells (ta t) 29))
  have X := hid (Bx.new w (ta t) 29)
  obtain ⟨w1, hw1⟩ : ∃ w1, w.alloc (.cells (ta t) 29) = w1 := ⟨_, rfl⟩
  rw [hw1] at X B1
  have TX := hid fun (W : World) (h : Below w1.heap.size w1 W) => (X.out.later h).prd
  unfold rowV at HT
  generalize truR cols row t.abs = R at *
  generalize truE cols row t.abs = E at *
  generalize truQ cols row t.abs = q at *
  generalize cpE cols t.abs = e0 at *
  generalize rowB cols row = rb at *
  clear hm hC X hr hrn hok
  obtain ⟨⟨K, c, op, ⟨vK, vI, vb, vs⟩, l⟩, la, lc, kb, kc, kk⟩ := t
  simp only [T.h, T.la, T.lc, T.kb, T.kc, T.ks, tv, ta, T.pr, pv, pa, prH] at *
  obtain ⟨x0, x1, x2, x3, x4, x5, x6, x7, x8⟩ := TX.out w1 (Below.refl _ _)
  go_enter Tryz.func18, Tryz.ntmps18
  go_wp2_with fail
  refine (HP.out _ B1.out).mono ?_
  rintro e w2 ⟨rfl, hb⟩
  clear hw1 x0 x1 x2 x3 x4 x5 x6 x7 x8
  obtain ⟨x0, x1, x2, x3, x4, x5, x6, x7, x8⟩ := TX.out _ hb
  have TX2 := hid fun (W : World) (h : Below w2.heap.size w2 W) => TX.out W (below_up hb h)
  have B2 := hid (below_up B1.out hb)
  clear hb TX B1
  by_cases h0 : e0 = 0
  · subst h0
    go_wp2_with fail
    refine (HI.out _ B2.out).mono ?_
    rintro e w3 ⟨rfl, hb⟩
    clear x0 x1 x2 x3 x4 x5 x6 x7 x8
    obtain ⟨x0, x1, x2, x3, x4, x5, x6, x7, x8⟩ := TX2.out _ hb
    have B3 := hid (below_up B2.out hb)
    clear hb TX2 B2
    cases rb
    · have h1 : E = 50 := by rw [HE.out]; rfl
      have h2 : R = 0 := by rw [HR.out, h1]; rfl
      subst h1 h2
      go_wp2_with fail
      go_ret2
      exact ⟨rfl, B3.out⟩
    · have h1 : E = 0 := by rw [HE.out]; rfl
      have h2 : R = q := by rw [HR.out, h1]; rfl
      subst h1 h2
      have HT2 := hid (HT.out _ B3.out trivial rfl)
      clear HT
      go_wp2_with fail
      refine HT2.out.mono ?_
      rintro e w4 ⟨rfl, hb⟩
      have B4 := hid (below_up B3.out hb)
      clear hb x0 x1 x2 x3 x4 x5 x6 x7 x8
      go_wp2_with fail
      go_ret2
      exact ⟨rfl, B4.out⟩
  · have h1 : E = e0 := by rw [HE.out, if_pos h0]
    have h2 : R = 0 := by rw [HR.out, h1, if_neg h0]
    have HEE := hid h1
    have HRR := hid h2
    have h0b : (e0 != 0) = true := by simpa using h0
    clear h1 h2 HE HR
    go_wp2_with fail
    go_ret2
    rw [HEE.out, HRR.out]
    exact ⟨rfl, B2.out⟩
end Go.Proofs.YthgnibphhiaecaaGreat
