import Derived.Test.YthgnibphhiaecaaGreatQTruAll
/-
  predMayBe, CheckPred, isRow, Truth.
-/
namespace Go.Proofs.YthgnibphhiaecaaGreat
open Go.ChangeShapes Go.WideShapes Go.ChangeAt Go.RowKit Cu Vl
attribute [local go_sem] run_store_float

theorem predMay_any (cols : List Col) (ac : Option Addr) (dc : Nat) (t : T) (w : World) (hL : Lst cc 3 w ac cols) (hcl : cols.length ≤ 140737488355328) (hm : MT w w.heap.size t) :
    Calls Tryz.prog 37 #[.slice ac cols.length dc, tv t] w fun r w' => r = .returned (.bool (chkQ cols t.abs)) ∧ Below w.heap.size w w' := by
  have b1 := below_new w (.cells (ta t) 29)
  have b2 := below_new (w.alloc (.cells (ta t) 29)) (.cells (#[.slice ac cols.length dc, .int .i64 4096]) 105)
  have x1 := (Bx.new w (ta t) 29).later b2
  have y1 := Bx.new (w.alloc (.cells (ta t) 29)) (#[.slice ac cols.length dc, .int .i64 4096]) 105
  have hsz : (w.alloc (.cells (ta t) 29)).heap.size = w.heap.size + 1 := by simp
  rw [hsz] at y1
  have B1 := hid (below_up b1 b2)
  obtain ⟨w1, hw1⟩ : ∃ w1, (w.alloc (.cells (ta t) 29)).alloc (.cells (#[.slice ac cols.length dc, .int .i64 4096]) 105) = w1 := ⟨_, rfl⟩
  rw [hw1] at x1 y1 B1
  have HL : Hid (Calls Tryz.prog 55 #[.pointer (some ⟨w.heap.size + 1, 0, none⟩), tv t, .int .i64 64] w1 (LookPost cols ac dc (w.heap.size + 1) 4096 (mayQ cols t.abs 64 4096) t.abs.sz w1)) := (look_any cols ac dc hcl t 64 4096 (w.heap.size + 1) w.heap.size w1 (Nat.le_refl _) (Nat.le_refl _) y1 (by omega) (hm.keep B1.out) ((LstB.of hL (Nat.le_refl _)).keep B1.out))
  obtain ⟨x0, x1', x2, x3, x4, x5, x6, x7, x8⟩ := x1.prd
  have HQ : Hid (mayQ cols t.abs 64 4096 = chkQ cols t.abs) := rfl
  rw [HQ.out] at HL
  generalize t.abs.sz = sz at *
  generalize chkQ cols t.abs = q at *
  clear b1 b2 x1 y1 hsz hm hL HQ
  obtain ⟨⟨K, c, op, ⟨vK, vI, vb, vs⟩, l⟩, la, lc, kb, kc, kk⟩ := t
  simp only [T.h, T.la, T.lc, T.kb, T.kc, T.ks, tv, ta, T.pr, pv, pa, prH] at *
  go_enter Tryz.func37, Tryz.ntmps37
  go_wp2_with fail
  refine HL.out.mono ?_
  rintro e w2 ⟨lf, rfl, _, _, hb⟩
  have B2 := hid (B1.out.trans (hb.mono (show w.heap.size ≤ w.heap.size + 1 by omega)))
  clear hb x0 x1' x2 x3 x4 x5 x6 x7 x8 hw1 HL
  go_wp2_with fail
  go_ret
  exact ⟨rfl, B2.out⟩
def cpE (cols : List Col) (q : Q) : Int := if Sc.chkB cols = true then (if chkQ cols q = true then 0 else 230) else 150
theorem cpE_ok {cols : List Col} {q : Q} : cpE cols q = 0 ↔ Sc.chkB cols = true ∧ chkQ cols q = true := by
  unfold cpE
  by_cases h1 : Sc.chkB cols = true
  · by_cases h2 : chkQ cols q = true
    · simp [h1, h2]
    · simp [h1, h2]
  · simp [h1]
structure ColC (w : World) (ac : Option Addr) (cols : List Col) : Prop where
  cl : Lst cc 3 w ac cols
  few : Sc.Few cols
  cn : cols.length ≤ 140737488355328
theorem ColC.later {w w' : World} (hb : Below w.heap.size w w') {ac : Option Addr} {cols : List Col} (h : ColC w ac cols) : ColC w' ac cols := ⟨h.cl.later hb, h.few, h.cn⟩
set_option maxHeartbeats 1000000 in
theorem checkPred_any (cols : List Col) (ac : Option Addr) (dc : Nat) (t : T) (w : World) (hC : ColC w ac cols) (hm : MT w w.heap.size t) :
    Calls Tryz.prog 21 #[.slice ac cols.length dc, tv t] w fun r w' => r = .returned (.int .i64 (cpE cols t.abs)) ∧ Below w.heap.size w w' := by
  have HS := hid fun (W : World) (h : Below w.heap.size w W) => Sc.check_any ac cols dc W (hC.cl.later h) hC.few hC.cn
  have HP := hid fun (W : World) (h : Below w.heap.size w W) => predMay_any cols ac dc t W (hC.cl.later h) hC.cn (hm.later h)
  have B1 := hid (below_new w (.cells (ta t) 29))
  have X := hid (Bx.new w (ta t) 29)
  obtain ⟨w1, hw1⟩ : ∃ w1, w.alloc (.cells (ta t) 29) = w1 := ⟨_, rfl⟩
  rw [hw1] at X B1
  have TX := hid fun (W : World) (h : Below w1.heap.size w1 W) => (X.out.later h).prd
  have HE : Hid (cpE cols t.abs = if Sc.chkB cols = true then (if chkQ cols t.abs = true then 0 else 230) else 150) := rfl
  have HE1 : Hid (Sc.chkE cols = if Sc.chkB cols = true then 0 else 150) := rfl
  generalize cpE cols t.abs = R at *
  generalize chkQ cols t.abs = q at *
  generalize Sc.chkE cols = e0 at *
  generalize Sc.chkB cols = cb at *
  clear hm hC X
  obtain ⟨⟨K, c, op, ⟨vK, vI, vb, vs⟩, l⟩, la, lc, kb, kc, kk⟩ := t
  simp only [T.h, T.la, T.lc, T.kb, T.kc, T.ks, tv, ta, T.pr, pv, pa, prH] at *
  go_enter Tryz.func21, Tryz.ntmps21
  go_wp2_with fail
  refine (HS.out _ B1.out).mono ?_
  rintro e w2 ⟨rfl, hb⟩
  clear hw1
  obtain ⟨x0, x1, x2, x3, x4, x5, x6, x7, x8⟩ := TX.out _ hb
  have B2 := hid (below_up B1.out hb)
  clear hb HS TX B1
  cases cb
  · have h1 : e0 = 150 := by rw [HE1.out]; rfl
    subst h1
    go_wp2_with fail
    go_ret
    exact ⟨by rw [HE.out]; rfl, B2.out⟩
  · have h1 : e0 = 0 := by rw [HE1.out]; rfl
    subst h1
    go_wp2_with fail
    refine (HP.out _ B2.out).mono ?_
    rintro e w3 ⟨rfl, hb⟩
    have B3 := hid (below_up B2.out hb)
    clear hb HP B2 x0 x1 x2 x3 x4 x5 x6 x7 x8
    cases q
    · go_wp2_with fail
      go_ret
      exact ⟨by rw [HE.out]; rfl, B3.out⟩
    · go_wp2_with fail
      go_ret
      exact ⟨by rw [HE.out]; rfl, B3.out⟩
/-! ### Rows -/
def rowB (cols : List Col) (row : List V) : Bool := decide (row.length = cols.length) && (cols.zip row).all fun x => fitB x.1 x.2
theorem rowB_no {cols : List Col} {row : List V} {i : Nat} (h1 : i < cols.length) (h2 : i < row.length) (h : fitB cols[i] row[i] = false) : rowB cols row = false := by
  unfold rowB
  rw [Bool.and_eq_false_iff]
  right
  rw [List.all_eq_false]
  exact ⟨(cols[i], row[i]), List.mem_iff_getElem.2 ⟨i, by simp; omega, by simp⟩, by simp [h]⟩
theorem rowB_all {cols : List Col} {row : List V} (h : row.length = cols.length) (hf : ∀ i (h1 : i < cols.length) (h2 : i < row.length), fitB cols[i] row[i] = true) : rowB cols row = true := by
  unfold rowB
  rw [Bool.and_eq_true, decide_eq_true_eq, List.all_eq_true]
  refine ⟨h, fun x hx => ?_⟩
  obtain ⟨i, hi, rfl⟩ := List.mem_iff_getElem.1 hx
  simp only [List.length_zip] at hi
  simpa using hf i (by omega) (by omega)
theorem rowB_len {cols : List Col} {row : List V} (h : rowB cols row = true) : row.length = cols.length := by
  unfold rowB at h
  rw [Bool.and_eq_true, decide_eq_true_eq] at h
  exact h.1
theorem rowB_at {cols : List Col} {row : List V} (h : rowB cols row = true) {i : Nat} (h1 : i < cols.length) (h2 : i < row.length) : fitB cols[i] row[i] = true := by
  cases hf : fitB cols[i] row[i] with
  | true => rfl
  | false => rw [rowB_no h1 h2 hf] at h; cases h
end Go.Proofs.YthgnibphhiaecaaGreat
