/-
  The walk of DictTextsOwn. (Written by mkown9T.py.)
-/
import Derived.Test.YtcbmhpdhbmjocaaGreatOReadsT
import Derived.Test.YtcbmhpdhbmjocaaGreatDKnown
import Derived.Test.YtcbmhpdhbmjocaaGreatDArgs
import Derived.Lib.MinMax
namespace Go.Proofs.YtcbmhpdhbmjocaaGreat.Ow
open Go.ChangeShapes Go.WideShapes Go.ChangeAt Go.RowKit Cu
open Classical

def one3 : ByteArray := ⟨#[111, 110, 101]⟩
def two3 : ByteArray := ⟨#[116, 119, 111]⟩
def t2 : List ByteArray := [one3, two3]
theorem new_t2 (w : World) : Strs (w.alloc (.cells #[.string one3, .string two3] 9)) (some ⟨w.heap.size, 0, none⟩) t2 := fun j s hj => by
  refine ⟨w.heap.size, 0, rfl, by simp, ?_⟩
  rw [cell_of_row _ _ _ _ _ _ (heap_new w _)]
  match j, hj with
  | 0, hj => simp [t2] at hj; subst hj; rfl
  | 1, hj => simp [t2] at hj; subst hj; rfl
/-- l[:n]. -/
theorem cut_n {l : List ByteArray} {a : Option Addr} {c n : Nat} (hz : a = none → l.length = 0 ∧ c = 0) (hc : l.length ≤ c) (hm : c ≤ 9223372036854775807) (hn : n ≤ l.length) (wx : World) : (Instr.slice 22 (.slice a l.length c) none (some (.int .i64 (n : Int))) none).run Tryz.prog wx = .ok (.slice a n c) wx := by
  cases a with
  | some x =>
    have h5 : n ≤ c := by omega
    go_simp
    first | done | (intro h; omega)
  | none =>
    obtain ⟨h5, rfl⟩ := hz rfl
    obtain rfl : n = 0 := by omega
    rw [h5]
    kernel_rfl
set_option maxRecDepth 8000 in
set_option maxHeartbeats 16000000 in
theorem walk_dictTextsOwn (W : World) (a0 : Option Addr) (n0 c0 : Nat) (l0 : List ByteArray) (a1 : Option Addr) (n1 c1 : Nat) (o0 : List ByteArray) (hL : SArgF W a0 n0 c0 l0) (hO : SArgF W a1 n1 c1 o0) :
    Calls Tryz.prog 3 #[.slice a0 n0 c0, .slice a1 n1 c1] W fun e W' => e = .returned (.bool true) ∧ Below W.heap.size W W' := by
  have e0 := hL.len
  subst e0
  have e1 := hO.len
  subst e1
  have hs0 := hL.small
  have hs1 := hO.small
  have hle0 := hL.le
  have hle1 := hO.le
  obtain ⟨n, hn⟩ : ∃ n, min l0.length (min o0.length 1000) = n := ⟨_, rfl⟩
  have hn0 : n ≤ l0.length := by omega
  have hn1 : n ≤ o0.length := by omega
  have hn2 : n ≤ 1000 := by omega
  have hmin : ∀ wx : World, (Builtin.min_ #[3, 3, 3] 3 #[.int .i64 (l0.length : Int), .int .i64 (o0.length : Int), .int .i64 1000]).run Tryz.prog wx = .ok (.int .i64 (n : Int)) wx := fun wx => by
    go_simp
    first | omega | (split <;> omega) | (repeat' split) <;> omega
  have hcut0 := fun wx => cut_n hL.nil hL.le (by omega) hn0 wx
  have hcut1 := fun wx => cut_n hO.nil hO.le (by omega) hn1 wx
  have HA0 := hid (strs_take hL.strs n)
  have HA1 := hid (strs_take hO.strs n)
  have hlt : (l0.take n).length = n := by rw [List.length_take]; omega
  have hot : (o0.take n).length = n := by rw [List.length_take]; omega
  have HIL : Hid ((∀ x ∈ l0, x.size ≤ 65535) → ∀ x ∈ l0.take n, x.size ≤ 65535) := fun h x hx => h x (List.mem_of_mem_take hx)
  have HIO : Hid ((∀ x ∈ o0, x.size ≤ 65535) → ∀ x ∈ o0.take n, x.size ≤ 65535) := fun h x hx => h x (List.mem_of_mem_take hx)
  have HNL : Hid (a0 = none → n = 0 ∧ c0 = 0) := fun e => by have := hL.nil e; exact ⟨by omega, this.2⟩
  have HNO : Hid (a1 = none → n = 0 ∧ c1 = 0) := fun e => by have := hO.nil e; exact ⟨by omega, this.2⟩
  have HIB : Hid (∀ g o, a1 = some ⟨g, o, none⟩ → 0 < n → g < W.heap.size) := fun g o e h => by
    obtain ⟨g', o', e', h', _⟩ := HA1.out 0 _ (List.getElem?_eq_getElem (by omega))
    rw [e] at e'
    cases e'
    exact h'
  have HKN := hid (known_yes W)
  have HM0 := hid (fun wx (h : Below W.heap.size W wx) => Tx.may_any a0 l0 c0 wx (hL.strs.later h) hL.each (by omega))
  have HM1 := hid (fun wx (h : Below W.heap.size W wx) => Tx.may_any a1 o0 c1 wx (hO.strs.later h) hO.each (by omega))
  clear hL hO hn hle0 hle1
  go_enter Tryz.func3, Tryz.ntmps3
  go_wp2_with fail
  refine HKN.out.mono ?_
  rintro e w1 ⟨rfl, hb⟩
  have HB := hid hb
  replace HA0 := hid (HA0.out.later hb)
  replace HA1 := hid (HA1.out.later hb)
  clear hb HKN
  have HQ0 := hid (HM0.out w1 HB.out)
  have HQ1 := hid (HM1.out w1 HB.out)
  clear HM0 HM1
  go_wp2_with fail
  refine HQ0.out.mono ?_
  rintro e w1x ⟨bm, rfl, hbm, hw⟩
  have hw' := hw.symm
  clear hw HQ0
  subst hw'
  cases bm with
  | false =>
    go_wp2_with fail
    go_ret
    exact ⟨rfl, HB.out⟩
  | true =>
  replace HIL := hid (HIL.out (hbm rfl))
  clear hbm
  go_wp2_with fail
  refine HQ1.out.mono ?_
  rintro e w1x ⟨bm, rfl, hbm, hw⟩
  have hw' := hw.symm
  clear hw HQ1
  subst hw'
  cases bm with
  | false =>
    go_wp2_with fail
    go_ret
    exact ⟨rfl, HB.out⟩
  | true =>
  replace HIO := hid (HIO.out (hbm rfl))
  clear hbm
  generalize l0.take n = lt at *
  generalize o0.take n = ot at *
  have HBL := hid (build_ownT lt (by omega) HIL.out)
  have HBO := hid (build_ownT ot (by omega) HIO.out)
  have HPL := hid (put_ownT lt (by omega) HIL.out)
  have HPO := hid (put_ownT ot (by omega) HIO.out)
  have HR1 := hid (read_formT lt (by omega) HIL.out)
  have HR2 := hid (read_formT ot (by omega) HIO.out)
  have HTL := hid (fun wx (h : Strs wx a0 lt) => Tx.texts_any a0 lt c0 wx h (by rw [hlt]; exact HNL.out) (by omega))
  have HTO := hid (fun wx (h : Strs wx a1 ot) => Tx.texts_any a1 ot c1 wx h (by rw [hot]; exact HNO.out) (by omega))
  have hkl := Tx.keysB_le lt
  have hko := Tx.keysB_le ot
  have hbl := Tx.formB_len lt (Tx.putOk_short lt (by omega) HIL.out) (by omega) (by omega)
  have hbo := Tx.formB_len ot (Tx.putOk_short ot (by omega) HIO.out) (by omega) (by omega)
  have hXl : (packC (wd (Tx.keysI lt).length) (Tx.codesI lt)).length ≤ 1000000000 := by
    have h2 := Pk.mul_small (n := lt.length) (by omega) (wd_le (K := (Tx.keysI lt).length) (by omega))
    rw [packC_len, Tx.codesB_len]
    omega
  have hXo : (packC (wd (Tx.keysI ot).length) (Tx.codesI ot)).length ≤ 1000000000 := by
    have h2 := Pk.mul_small (n := ot.length) (by omega) (wd_le (K := (Tx.keysI ot).length) (by omega))
    rw [packC_len, Tx.codesB_len]
    omega
  rw [hlt] at HBL HPL HTL HR1
  rw [hot] at HBO HPO HTO HR2
  have HRD := hid (fun a c b d w hA hB zA zB => readsT_any n lt ot (Tx.formT lt) (Tx.formT ot) (Tx.keysI lt) (Tx.keysI ot) _ _ _ _ HPL.out HPO.out HR1.out HR2.out (by omega) (by omega) (by omega) (by omega) hXl hXo hlt hot hn2 a c b d w hA hB zA zB)
  have hkl2 : (Tx.keysI lt).length ≤ 1000000 := by omega
  have hko2 : (Tx.keysI ot).length ≤ 1000000 := by omega
  clear HR2 hkl hko hXo HIL HIO HNL
  generalize packC (wd (Tx.keysI lt).length) (Tx.codesI lt) = XL at *
  generalize wd (Tx.keysI lt).length = WL at *
  generalize Tx.keysI lt = KL at *
  generalize Tx.keysI ot = KO at *
  generalize Tx.formT lt = BL at *
  generalize Tx.formT ot = BO at *
  have HLT := hid hlt
  have HOT := hid hot
  clear hlt hot
  have HQ0 := hid (HTL.out w1 HA0.out)
  go_wp2_with fail
  refine HQ0.out.mono ?_
  rintro e w2 ⟨v2, rfl, h2, hb⟩
  have bA := below_new w2 (.cells #[.string one3, .string two3] 9)
  obtain ⟨v3, w3, hr3, o3, b3⟩ := run_manyS (c := 2) (h2.later bA) (new_t2 w2) (fun e => by cases e) (by rw [HLT.out]; simp [t2]; omega) (by have := hb.size; have := bA.size; omega)
  have hb3 : Below w1.heap.size w1 w3 := b3 w1 (below_up hb bA)
  have o4 : OwnS w3 W.heap.size v3 (lt ++ t2) := row_low o3 HB.out.size
  have hl2 : (svals (lt ++ t2)).length = n + 2 := by rw [svals_len, List.length_append, HLT.out]; rfl
  have hrow := ownS_row o4
  obtain ⟨g, c, hv, hg1, hg2, -, -, -, -⟩ := row_store hrow (i := n) (by rw [hl2]; omega)
  rw [hl2] at hv
  subst hv
  have hcc : n + 2 ≤ c ∧ c ≤ maxLen := by
    obtain ⟨a', c', hv, h1, h2, _⟩ := o4.form
    simp only [Value.slice.injEq] at hv
    obtain ⟨-, -, rfl⟩ := hv
    have : (lt ++ t2).length = n + 2 := by rw [← svals_len]; exact hl2
    omega
  have hc1 : (n : Int) ≤ (c : Int) := by omega
  have hc2 : (n : Int) + 2 ≤ (c : Int) := by omega
  have R3 := hid hr3
  replace HB := hid (below_up HB.out hb3)
  have HRM := hid hrow
  replace HA0 := hid (HA0.out.later hb3)
  replace HA1 := hid (HA1.out.later hb3)
  have HG3 : Hid (W.heap.size ≤ g) := hg1
  clear hr3 hb hb3 hrow b3 o3 o4 bA h2 HQ0 hcc HTL hg1
  go_wp2_with (at_builtin; refine wpList_app (by rfl) (by rfl) R3.out ?_; clear R3)
  obtain ⟨lo, hlo⟩ : ∃ lo, w3.heap.size = lo := ⟨_, rfl⟩
  have hgl : g < lo := by omega
  have HLO : Hid (lo ≤ w3.heap.size ∧ W.heap.size ≤ lo) := ⟨by omega, by have := HB.out.size; omega⟩
  have FK : Hid (Fam w3 9 lo w3.heap.size []) := Fam.nil w3 9 lo
  have FP : Hid (Fam w3 5 lo w3.heap.size []) := Fam.nil w3 5 lo
  have HSB : Hid (∀ wx, wx.ownsRow W.heap.size 9 1 (.slice (some ⟨g, 0, none⟩) (n + 2) c) (svals (lt ++ t2)).length (svals (lt ++ t2)) → Strs wx (some ⟨g, 0, none⟩) lt ∧ wx.cell? ⟨g, n, none⟩ = some (.string ⟨#[111, 110, 101]⟩) ∧ wx.cell? ⟨g, n + 1, none⟩ = some (.string ⟨#[116, 119, 111]⟩)) := fun wx h => by
    have h1 : (lt ++ t2).length = n + 2 := by rw [← svals_len]; exact hl2
    have h2 := row_strs h1 h
    have c1 : (lt ++ t2)[n]? = some one3 := by rw [List.getElem?_append_right (by rw [HLT.out]; omega), HLT.out, Nat.sub_self]; rfl
    have c2 : (lt ++ t2)[n + 1]? = some two3 := by rw [List.getElem?_append_right (by rw [HLT.out]; omega), HLT.out, show n + 1 - n = 1 by omega]; rfl
    obtain ⟨g1, o1, e1, _, hc1⟩ := h2 n _ c1
    obtain ⟨g2, o2, e2, _, hc2⟩ := h2 (n + 1) _ c2
    cases e1
    cases e2
    rw [Nat.zero_add] at hc1 hc2
    exact ⟨strs_front h2, hc1, hc2⟩
  clear hlo hg2 hl2
  have HQ0 := hid (HBL.out (some ⟨g, 0, none⟩) c w3 (HSB.out w3 HRM.out).1)
  go_wp2_with fail
  refine HQ0.out.mono ?_
  rintro e w4 ⟨kA, dA, xA, yA, rfl, hk, hb⟩
  replace FK : Hid (Fam w4 9 lo w4.heap.size [vS kA KL.length dA KL]) := FK.out.snoc hb hk HLO.out.1
  replace FP := hid (FP.out.later hb)
  replace HA0 := hid (HA0.out.later hb)
  replace HA1 := hid (HA1.out.later hb)
  replace HB := hid (below_up HB.out hb)
  replace HRM := hid (row_later HRM.out hb)
  replace HLO : Hid (lo ≤ w4.heap.size ∧ W.heap.size ≤ lo) := ⟨Nat.le_trans HLO.out.1 hb.size, HLO.out.2⟩
  clear hk hb HQ0
  have HQ0 := hid (HPL.out (some ⟨g, 0, none⟩) c w4 (HSB.out w4 HRM.out).1)
  go_wp2_with fail
  refine HQ0.out.mono ?_
  rintro e w5 ⟨pA, rA, rfl, hp, hb⟩
  replace FP : Hid (Fam w5 5 lo w5.heap.size [vB pA BL.length rA BL]) := FP.out.snoc hb hp HLO.out.1
  replace FK := hid (FK.out.later hb)
  replace HA0 := hid (HA0.out.later hb)
  replace HA1 := hid (HA1.out.later hb)
  replace HB := hid (below_up HB.out hb)
  replace HRM := hid (row_later HRM.out hb)
  replace HLO : Hid (lo ≤ w5.heap.size ∧ W.heap.size ≤ lo) := ⟨Nat.le_trans HLO.out.1 hb.size, HLO.out.2⟩
  clear hp hb HQ0
  have HQ0 := hid (HBL.out (some ⟨g, 0, none⟩) c w5 (HSB.out w5 HRM.out).1)
  go_wp2_with fail
  refine HQ0.out.mono ?_
  rintro e w6 ⟨kB, dB, xB, yB, rfl, hk, hb⟩
  replace FK : Hid (Fam w6 9 lo w6.heap.size [vS kA KL.length dA KL, vS kB KL.length dB KL]) := FK.out.snoc hb hk HLO.out.1
  replace FP := hid (FP.out.later hb)
  replace HA0 := hid (HA0.out.later hb)
  replace HA1 := hid (HA1.out.later hb)
  replace HB := hid (below_up HB.out hb)
  replace HRM := hid (row_later HRM.out hb)
  replace HLO : Hid (lo ≤ w6.heap.size ∧ W.heap.size ≤ lo) := ⟨Nat.le_trans HLO.out.1 hb.size, HLO.out.2⟩
  clear hk hb HQ0
  have HQ0 := hid (HPL.out (some ⟨g, 0, none⟩) c w6 (HSB.out w6 HRM.out).1)
  go_wp2_with fail
  refine HQ0.out.mono ?_
  rintro e w7 ⟨pB, rB, rfl, hp, hb⟩
  replace FP : Hid (Fam w7 5 lo w7.heap.size [vB pA BL.length rA BL, vB pB BL.length rB BL]) := FP.out.snoc hb hp HLO.out.1
  replace FK := hid (FK.out.later hb)
  replace HA0 := hid (HA0.out.later hb)
  replace HA1 := hid (HA1.out.later hb)
  replace HB := hid (below_up HB.out hb)
  replace HRM := hid (row_later HRM.out hb)
  replace HLO : Hid (lo ≤ w7.heap.size ∧ W.heap.size ≤ lo) := ⟨Nat.le_trans HLO.out.1 hb.size, HLO.out.2⟩
  clear hp hb HQ0
  have HQ0 := hid (HTO.out w7 HA1.out)
  go_wp2_with fail
  refine HQ0.out.mono ?_
  rintro e w8 ⟨v0, rfl, h0, hb⟩
  obtain ⟨at0, ct0, rfl, s0⟩ := form_nS h0 HOT.out
  have HS0 := hid s0
  replace FK := hid (FK.out.later hb)
  replace FP := hid (FP.out.later hb)
  replace HA0 := hid (HA0.out.later hb)
  replace HA1 := hid (HA1.out.later hb)
  replace HB := hid (below_up HB.out hb)
  replace HRM := hid (row_later HRM.out hb)
  replace HLO : Hid (lo ≤ w8.heap.size ∧ W.heap.size ≤ lo) := ⟨Nat.le_trans HLO.out.1 hb.size, HLO.out.2⟩
  clear h0 s0 hb HQ0
  have HQ0 := hid (HBO.out at0 ct0 w8 HS0.out)
  go_wp2_with fail
  refine HQ0.out.mono ?_
  rintro e w9 ⟨kC, dC, xC, yC, rfl, hk, hb⟩
  replace FK : Hid (Fam w9 9 lo w9.heap.size [vS kA KL.length dA KL, vS kB KL.length dB KL, vS kC KO.length dC KO]) := FK.out.snoc hb hk HLO.out.1
  replace FP := hid (FP.out.later hb)
  replace HA0 := hid (HA0.out.later hb)
  replace HA1 := hid (HA1.out.later hb)
  replace HB := hid (below_up HB.out hb)
  replace HRM := hid (row_later HRM.out hb)
  replace HLO : Hid (lo ≤ w9.heap.size ∧ W.heap.size ≤ lo) := ⟨Nat.le_trans HLO.out.1 hb.size, HLO.out.2⟩
  clear hk hb HQ0
  clear HS0
  have HQ0 := hid (HTO.out w9 HA1.out)
  go_wp2_with fail
  refine HQ0.out.mono ?_
  rintro e wa ⟨v0, rfl, h0, hb⟩
  obtain ⟨at0, ct0, rfl, s0⟩ := form_nS h0 HOT.out
  have HS0 := hid s0
  replace FK := hid (FK.out.later hb)
  replace FP := hid (FP.out.later hb)
  replace HA0 := hid (HA0.out.later hb)
  replace HA1 := hid (HA1.out.later hb)
  replace HB := hid (below_up HB.out hb)
  replace HRM := hid (row_later HRM.out hb)
  replace HLO : Hid (lo ≤ wa.heap.size ∧ W.heap.size ≤ lo) := ⟨Nat.le_trans HLO.out.1 hb.size, HLO.out.2⟩
  clear h0 s0 hb HQ0
  have HQ0 := hid (HPO.out at0 ct0 wa HS0.out)
  go_wp2_with fail
  refine HQ0.out.mono ?_
  rintro e wb ⟨pC, rC, rfl, hp, hb⟩
  replace FP : Hid (Fam wb 5 lo wb.heap.size [vB pA BL.length rA BL, vB pB BL.length rB BL, vB pC BO.length rC BO]) := FP.out.snoc hb hp HLO.out.1
  replace FK := hid (FK.out.later hb)
  replace HA0 := hid (HA0.out.later hb)
  replace HA1 := hid (HA1.out.later hb)
  replace HB := hid (below_up HB.out hb)
  replace HRM := hid (row_later HRM.out hb)
  replace HLO : Hid (lo ≤ wb.heap.size ∧ W.heap.size ≤ lo) := ⟨Nat.le_trans HLO.out.1 hb.size, HLO.out.2⟩
  clear hp hb HQ0
  clear HS0
  have zp : pA = none → BL.length = 0 ∧ rA = 0 := by
    obtain ⟨a', c', hv, _, _, h5⟩ := (row_own (FP.out.each (vB pA BL.length rA BL) (by simp))).form
    simp only [Value.slice.injEq] at hv
    obtain ⟨rfl, -, rfl⟩ := hv
    exact h5
  have HTW := hid (fun wx (h : Bytes wx pA BL) => twin_any pA BL rA wx h zp (by omega))
  clear zp
  have HQ0 := hid (HTW.out wb (row_bytes rfl (FP.out.each (vB pA BL.length rA BL) (by simp))))
  go_wp2_with fail
  refine HQ0.out.mono ?_
  rintro e wc ⟨v0, rfl, h0⟩
  obtain ⟨at0, ct0, rfl, n0, s0⟩ := h0.form
  have hb := h0.2
  have HN0 := hid n0
  have HS0 := hid s0
  replace FK := hid (FK.out.later hb)
  replace FP := hid (FP.out.later hb)
  replace HA0 := hid (HA0.out.later hb)
  replace HA1 := hid (HA1.out.later hb)
  replace HB := hid (below_up HB.out hb)
  replace HRM := hid (row_later HRM.out hb)
  replace HLO : Hid (lo ≤ wc.heap.size ∧ W.heap.size ≤ lo) := ⟨Nat.le_trans HLO.out.1 hb.size, HLO.out.2⟩
  clear h0 n0 s0 hb HQ0
  have HQ0 := hid (HR1.out at0 ct0 wc HS0.out HN0.out)
  go_wp2_with fail
  refine HQ0.out.mono ?_
  rintro e we ⟨kD, dD, xD, yD, rfl, hk, hx, hb⟩
  replace FK : Hid (Fam we 9 lo we.heap.size [vS kA KL.length dA KL, vS kB KL.length dB KL, vS kC KO.length dC KO, vS kD KL.length dD KL]) := FK.out.snoc hb hk HLO.out.1
  replace FP : Hid (Fam we 5 lo we.heap.size [vB pA BL.length rA BL, vB pB BL.length rB BL, vB pC BO.length rC BO, vB xD XL.length yD XL]) := FP.out.snoc hb hx HLO.out.1
  replace HA0 := hid (HA0.out.later hb)
  replace HA1 := hid (HA1.out.later hb)
  replace HB := hid (below_up HB.out hb)
  replace HRM := hid (row_later HRM.out hb)
  replace HLO : Hid (lo ≤ we.heap.size ∧ W.heap.size ≤ lo) := ⟨Nat.le_trans HLO.out.1 hb.size, HLO.out.2⟩
  clear hk hx hb HQ0 HS0 HN0
  have HQ0 := hid (HTW.out we (row_bytes rfl (FP.out.each (vB pA BL.length rA BL) (by simp))))
  go_wp2_with fail
  refine HQ0.out.mono ?_
  rintro e wf ⟨v0, rfl, h0⟩
  obtain ⟨at0, ct0, rfl, n0, s0⟩ := h0.form
  have hb := h0.2
  have HN0 := hid n0
  have HS0 := hid s0
  replace FK := hid (FK.out.later hb)
  replace FP := hid (FP.out.later hb)
  replace HA0 := hid (HA0.out.later hb)
  replace HA1 := hid (HA1.out.later hb)
  replace HB := hid (below_up HB.out hb)
  replace HRM := hid (row_later HRM.out hb)
  replace HLO : Hid (lo ≤ wf.heap.size ∧ W.heap.size ≤ lo) := ⟨Nat.le_trans HLO.out.1 hb.size, HLO.out.2⟩
  clear h0 n0 s0 hb HQ0
  have HQ0 := hid (HR1.out at0 ct0 wf HS0.out HN0.out)
  go_wp2_with fail
  refine HQ0.out.mono ?_
  rintro e wg ⟨kE, dE, xE, yE, rfl, hk, hx, hb⟩
  replace FK : Hid (Fam wg 9 lo wg.heap.size [vS kA KL.length dA KL, vS kB KL.length dB KL, vS kC KO.length dC KO, vS kD KL.length dD KL, vS kE KL.length dE KL]) := FK.out.snoc hb hk HLO.out.1
  replace FP : Hid (Fam wg 5 lo wg.heap.size [vB pA BL.length rA BL, vB pB BL.length rB BL, vB pC BO.length rC BO, vB xD XL.length yD XL, vB xE XL.length yE XL]) := FP.out.snoc hb hx HLO.out.1
  replace HA0 := hid (HA0.out.later hb)
  replace HA1 := hid (HA1.out.later hb)
  replace HB := hid (below_up HB.out hb)
  replace HRM := hid (row_later HRM.out hb)
  replace HLO : Hid (lo ≤ wg.heap.size ∧ W.heap.size ≤ lo) := ⟨Nat.le_trans HLO.out.1 hb.size, HLO.out.2⟩
  clear hk hx hb HQ0 HS0 HN0
  clear HR1 HTW
  have hllt : lt.length ≤ 1000 := by rw [HLT.out]; exact hn2
  have HS1 := hid (fun V hV => Tx.sameTexts_any kA kB KL KL dA dB V (row_strs rfl (row_later (FK.out.each (vS kA KL.length dA KL) (by simp)) hV)) (row_strs rfl (row_later (FK.out.each (vS kB KL.length dB KL) (by simp)) hV)) (by omega) (by omega))
  have HS2 := hid (fun V hV => Tx.sameTexts_any kA kD KL KL dA dD V (row_strs rfl (row_later (FK.out.each (vS kA KL.length dA KL) (by simp)) hV)) (row_strs rfl (row_later (FK.out.each (vS kD KL.length dD KL) (by simp)) hV)) (by omega) (by omega))
  have HS3 := hid (fun V hV => Tx.sameTexts_any kA kE KL KL dA dE V (row_strs rfl (row_later (FK.out.each (vS kA KL.length dA KL) (by simp)) hV)) (row_strs rfl (row_later (FK.out.each (vS kE KL.length dE KL) (by simp)) hV)) (by omega) (by omega))
  have HS4 := hid (fun V hV => Tx.sameTexts_any (some ⟨g, 0, none⟩) a0 lt lt c c0 V (HSB.out _ (row_later HRM.out hV)).1 (HA0.out.later hV) (by omega) (by omega))
  rw [show decide (KL = KL) = true by simp] at HS1 HS2 HS3
  rw [show decide (lt = lt) = true by simp, HLT.out] at HS4
  obtain ⟨sB, hsB⟩ : ∃ sB, strL BL = sB := ⟨_, rfl⟩
  obtain ⟨sX, hsX⟩ : ∃ sX, strL XL = sX := ⟨_, rfl⟩
  have HCV : Hid (∀ V, Below wg.heap.size wg V → (convert 29 9 (.slice xD XL.length yD)).run Tryz.prog V = .ok (.string sX) V ∧ (convert 29 9 (.slice xE XL.length yE)).run Tryz.prog V = .ok (.string sX) V ∧ (convert 29 9 (.slice pA BL.length rA)).run Tryz.prog V = .ok (.string sB) V ∧ (convert 29 9 (.slice pB BL.length rB)).run Tryz.prog V = .ok (.string sB) V ∧ V.cell? ⟨g, n, none⟩ = some (.string ⟨#[111, 110, 101]⟩) ∧ V.cell? ⟨g, n + 1, none⟩ = some (.string ⟨#[116, 119, 111]⟩) ∧ Below wg.heap.size wg V) := fun V hV => by
    have h := HSB.out V (row_later HRM.out hV)
    rw [← hsB, ← hsX]
    exact ⟨row_conv rfl (row_later (FP.out.each (vB xD XL.length yD XL) (by simp)) hV), row_conv rfl (row_later (FP.out.each (vB xE XL.length yE XL) (by simp)) hV), row_conv rfl (row_later (FP.out.each (vB pA BL.length rA BL) (by simp)) hV), row_conv rfl (row_later (FP.out.each (vB pB BL.length rB BL) (by simp)) hV), h.2.1, h.2.2, hV⟩
  clear hsB hsX
  have hwr : IntKind.i64.wrap ((n : Int) + 1) = (n : Int) + 1 := by rw [IntKind.wrap_i64]; omega
  have htn : ((n : Int) + 1).toNat = n + 1 := by omega
  have hi1 : (n : Int) < (n : Int) + 2 := by omega
  have hi2 : (n : Int) + 1 < (n : Int) + 2 := by omega
  have hi3 : n < n + 2 := by omega
  have hi4 : n + 1 < n + 2 := by omega
  have hi5 : (0 : Int) ≤ (n : Int) + 1 := by omega
  go_wp2_with fail
  have v0 : Below wg.heap.size wg wg.drew := below_drewN (Below.refl _ wg) 1
  refine wp_region_noPanic ?_
  refine wp_region_held_drew (S := fun V => (convert 29 9 (.slice xD XL.length yD)).run Tryz.prog V = .ok (.string sX) V ∧ (convert 29 9 (.slice xE XL.length yE)).run Tryz.prog V = .ok (.string sX) V ∧ (convert 29 9 (.slice pA BL.length rA)).run Tryz.prog V = .ok (.string sB) V ∧ (convert 29 9 (.slice pB BL.length rB)).run Tryz.prog V = .ok (.string sB) V ∧ V.cell? ⟨g, n, none⟩ = some (.string ⟨#[111, 110, 101]⟩) ∧ V.cell? ⟨g, n + 1, none⟩ = some (.string ⟨#[116, 119, 111]⟩) ∧ Below wg.heap.size wg V) (by kernel_rfl) (HCV.out _ v0) (fun hHeld0 => ?_)
  refine wpAnyH_take (i := 0) (oi := { dst := some 115, op := Op.move (Operand.tmp 10), type := 30, pos := "outright.go:445", after := #[], guard := none }) (v := ?_) rfl (by kernel_rfl) (by kernel_rfl) (by kernel_rfl) (fun _ _ _ h => h) (Or.inl ⟨by rfl, ?_⟩) (by assumption) ?_
  rotate_left
  · intro W hSw
    try dsimp only at hSw
    go_simp
    try with_reducible rfl
  try simp only [Act.put, List.setIfInBounds_toArray, List.set_cons_zero, List.set_cons_succ]
  refine wpAnyH_take (i := 1) (oi := { dst := some 116, op := Op.binOp BinOp.neq 30 (Operand.tmp 115) (Operand.const (Value.int IntKind.i64 0)) 30, type := 4, pos := "outright.go:445", after := #[{ on := 0, ground := Ground.data }], guard := none }) (v := Value.bool false) rfl (by kernel_rfl) (by kernel_rfl) (by kernel_rfl) (fun _ _ _ h => h) (Or.inl ⟨by rfl, ?_⟩) (by assumption) ?_
  · intro W hSw
    try dsimp only at hSw
    go_simp
    try with_reducible rfl
  try simp only [Act.put, List.setIfInBounds_toArray, List.set_cons_zero, List.set_cons_succ]
  refine wpAnyH_take (i := 2) (oi := { dst := some 117, op := Op.move (Operand.tmp 116), type := 4, pos := "outright.go:445", after := #[{ on := 1, ground := Ground.data }], guard := none }) (v := ?_) rfl (by kernel_rfl) (by kernel_rfl) (by kernel_rfl) (fun _ _ _ h => h) (Or.inl ⟨by rfl, ?_⟩) (by assumption) ?_
  rotate_left
  · intro W hSw
    try dsimp only at hSw
    go_simp
    try with_reducible rfl
  try simp only [Act.put, List.setIfInBounds_toArray, List.set_cons_zero, List.set_cons_succ]
  refine wpAnyH_take (i := 3) (oi := { dst := some 118, op := Op.move (Operand.tmp 14), type := 30, pos := "outright.go:445", after := #[{ on := 2, ground := Ground.guard }], guard := some (2, false) }) (v := ?_) rfl (by kernel_rfl) (by kernel_rfl) (by kernel_rfl) (fun _ _ _ h => h) (Or.inl ⟨by rfl, ?_⟩) (by assumption) ?_
  rotate_left
  · intro W hSw
    try dsimp only at hSw
    go_simp
    try with_reducible rfl
  try simp only [Act.put, List.setIfInBounds_toArray, List.set_cons_zero, List.set_cons_succ]
  refine wpAnyH_take (i := 4) (oi := { dst := some 119, op := Op.binOp BinOp.neq 30 (Operand.tmp 118) (Operand.const (Value.int IntKind.i64 0)) 30, type := 4, pos := "outright.go:445", after := #[{ on := 3, ground := Ground.data }, { on := 2, ground := Ground.guard }], guard := some (2, false) }) (v := Value.bool false) rfl (by kernel_rfl) (by kernel_rfl) (by kernel_rfl) (fun _ _ _ h => h) (Or.inl ⟨by rfl, ?_⟩) (by assumption) ?_
  · intro W hSw
    try dsimp only at hSw
    go_simp
    try with_reducible rfl
  try simp only [Act.put, List.setIfInBounds_toArray, List.set_cons_zero, List.set_cons_succ]
  refine wpAnyH_take (i := 5) (oi := { dst := some 120, op := Op.pick (Operand.tmp 117) (Operand.const (Value.bool true)) (Operand.tmp 119), type := 4, pos := "outright.go:445", after := #[{ on := 2, ground := Ground.data }, { on := 4, ground := Ground.data }], guard := none }) (v := ?_) rfl (by kernel_rfl) (by kernel_rfl) (by kernel_rfl) (fun _ _ _ h => h) (Or.inl ⟨by rfl, ?_⟩) (by assumption) ?_
  rotate_left
  · intro W hSw
    try dsimp only at hSw
    go_simp
    try with_reducible rfl
  try simp only [Act.put, List.setIfInBounds_toArray, List.set_cons_zero, List.set_cons_succ]
  refine wpAnyH_take (i := 6) (oi := { dst := some 121, op := Op.move (Operand.tmp 120), type := 4, pos := "outright.go:445", after := #[{ on := 5, ground := Ground.data }, { on := 2, ground := Ground.chain }], guard := none }) (v := ?_) rfl (by kernel_rfl) (by kernel_rfl) (by kernel_rfl) (fun _ _ _ h => h) (Or.inl ⟨by rfl, ?_⟩) (by assumption) ?_
  rotate_left
  · intro W hSw
    try dsimp only at hSw
    go_simp
    try with_reducible rfl
  try simp only [Act.put, List.setIfInBounds_toArray, List.set_cons_zero, List.set_cons_succ]
  refine wpAnyH_take (i := 7) (oi := { dst := some 122, op := Op.move (Operand.tmp 18), type := 30, pos := "outright.go:445", after := #[{ on := 6, ground := Ground.guard }], guard := some (6, false) }) (v := ?_) rfl (by kernel_rfl) (by kernel_rfl) (by kernel_rfl) (fun _ _ _ h => h) (Or.inl ⟨by rfl, ?_⟩) (by assumption) ?_
  rotate_left
  · intro W hSw
    try dsimp only at hSw
    go_simp
    try with_reducible rfl
  try simp only [Act.put, List.setIfInBounds_toArray, List.set_cons_zero, List.set_cons_succ]
  refine wpAnyH_take (i := 8) (oi := { dst := some 123, op := Op.binOp BinOp.neq 30 (Operand.tmp 122) (Operand.const (Value.int IntKind.i64 0)) 30, type := 4, pos := "outright.go:445", after := #[{ on := 7, ground := Ground.data }, { on := 6, ground := Ground.guard }], guard := some (6, false) }) (v := Value.bool false) rfl (by kernel_rfl) (by kernel_rfl) (by kernel_rfl) (fun _ _ _ h => h) (Or.inl ⟨by rfl, ?_⟩) (by assumption) ?_
  · intro W hSw
    try dsimp only at hSw
    go_simp
    try with_reducible rfl
  try simp only [Act.put, List.setIfInBounds_toArray, List.set_cons_zero, List.set_cons_succ]
  refine wpAnyH_take (i := 9) (oi := { dst := some 124, op := Op.pick (Operand.tmp 121) (Operand.const (Value.bool true)) (Operand.tmp 123), type := 4, pos := "outright.go:445", after := #[{ on := 6, ground := Ground.data }, { on := 8, ground := Ground.data }], guard := none }) (v := ?_) rfl (by kernel_rfl) (by kernel_rfl) (by kernel_rfl) (fun _ _ _ h => h) (Or.inl ⟨by rfl, ?_⟩) (by assumption) ?_
  rotate_left
  · intro W hSw
    try dsimp only at hSw
    go_simp
    try with_reducible rfl
  try simp only [Act.put, List.setIfInBounds_toArray, List.set_cons_zero, List.set_cons_succ]
  refine wpAnyH_take (i := 10) (oi := { dst := some 125, op := Op.move (Operand.tmp 124), type := 4, pos := "outright.go:445", after := #[{ on := 9, ground := Ground.data }, { on := 6, ground := Ground.chain }], guard := none }) (v := ?_) rfl (by kernel_rfl) (by kernel_rfl) (by kernel_rfl) (fun _ _ _ h => h) (Or.inl ⟨by rfl, ?_⟩) (by assumption) ?_
  rotate_left
  · intro W hSw
    try dsimp only at hSw
    go_simp
    try with_reducible rfl
  try simp only [Act.put, List.setIfInBounds_toArray, List.set_cons_zero, List.set_cons_succ]
  refine wpAnyH_take (i := 11) (oi := { dst := some 126, op := Op.move (Operand.tmp 22), type := 30, pos := "outright.go:445", after := #[{ on := 10, ground := Ground.guard }], guard := some (10, false) }) (v := ?_) rfl (by kernel_rfl) (by kernel_rfl) (by kernel_rfl) (fun _ _ _ h => h) (Or.inl ⟨by rfl, ?_⟩) (by assumption) ?_
  rotate_left
  · intro W hSw
    try dsimp only at hSw
    go_simp
    try with_reducible rfl
  try simp only [Act.put, List.setIfInBounds_toArray, List.set_cons_zero, List.set_cons_succ]
  refine wpAnyH_take (i := 12) (oi := { dst := some 127, op := Op.binOp BinOp.neq 30 (Operand.tmp 126) (Operand.const (Value.int IntKind.i64 0)) 30, type := 4, pos := "outright.go:445", after := #[{ on := 11, ground := Ground.data }, { on := 10, ground := Ground.guard }], guard := some (10, false) }) (v := Value.bool false) rfl (by kernel_rfl) (by kernel_rfl) (by kernel_rfl) (fun _ _ _ h => h) (Or.inl ⟨by rfl, ?_⟩) (by assumption) ?_
  · intro W hSw
    try dsimp only at hSw
    go_simp
    try with_reducible rfl
  try simp only [Act.put, List.setIfInBounds_toArray, List.set_cons_zero, List.set_cons_succ]
  refine wpAnyH_take (i := 13) (oi := { dst := some 128, op := Op.pick (Operand.tmp 125) (Operand.const (Value.bool true)) (Operand.tmp 127), type := 4, pos := "outright.go:445", after := #[{ on := 10, ground := Ground.data }, { on := 12, ground := Ground.data }], guard := none }) (v := ?_) rfl (by kernel_rfl) (by kernel_rfl) (by kernel_rfl) (fun _ _ _ h => h) (Or.inl ⟨by rfl, ?_⟩) (by assumption) ?_
  rotate_left
  · intro W hSw
    try dsimp only at hSw
    go_simp
    try with_reducible rfl
  try simp only [Act.put, List.setIfInBounds_toArray, List.set_cons_zero, List.set_cons_succ]
  refine wpAnyH_take (i := 14) (oi := { dst := some 129, op := Op.move (Operand.tmp 128), type := 4, pos := "outright.go:445", after := #[{ on := 13, ground := Ground.data }, { on := 10, ground := Ground.chain }], guard := none }) (v := ?_) rfl (by kernel_rfl) (by kernel_rfl) (by kernel_rfl) (fun _ _ _ h => h) (Or.inl ⟨by rfl, ?_⟩) (by assumption) ?_
  rotate_left
  · intro W hSw
    try dsimp only at hSw
    go_simp
    try with_reducible rfl
  try simp only [Act.put, List.setIfInBounds_toArray, List.set_cons_zero, List.set_cons_succ]
  refine wpAnyH_take (i := 15) (oi := { dst := some 130, op := Op.move (Operand.tmp 26), type := 30, pos := "outright.go:445", after := #[{ on := 14, ground := Ground.guard }], guard := some (14, false) }) (v := ?_) rfl (by kernel_rfl) (by kernel_rfl) (by kernel_rfl) (fun _ _ _ h => h) (Or.inl ⟨by rfl, ?_⟩) (by assumption) ?_
  rotate_left
  · intro W hSw
    try dsimp only at hSw
    go_simp
    try with_reducible rfl
  try simp only [Act.put, List.setIfInBounds_toArray, List.set_cons_zero, List.set_cons_succ]
  refine wpAnyH_take (i := 16) (oi := { dst := some 131, op := Op.binOp BinOp.neq 30 (Operand.tmp 130) (Operand.const (Value.int IntKind.i64 0)) 30, type := 4, pos := "outright.go:445", after := #[{ on := 15, ground := Ground.data }, { on := 14, ground := Ground.guard }], guard := some (14, false) }) (v := Value.bool false) rfl (by kernel_rfl) (by kernel_rfl) (by kernel_rfl) (fun _ _ _ h => h) (Or.inl ⟨by rfl, ?_⟩) (by assumption) ?_
  · intro W hSw
    try dsimp only at hSw
    go_simp
    try with_reducible rfl
  try simp only [Act.put, List.setIfInBounds_toArray, List.set_cons_zero, List.set_cons_succ]
  refine wpAnyH_take (i := 17) (oi := { dst := some 132, op := Op.pick (Operand.tmp 129) (Operand.const (Value.bool true)) (Operand.tmp 131), type := 4, pos := "outright.go:445", after := #[{ on := 14, ground := Ground.data }, { on := 16, ground := Ground.data }], guard := none }) (v := ?_) rfl (by kernel_rfl) (by kernel_rfl) (by kernel_rfl) (fun _ _ _ h => h) (Or.inl ⟨by rfl, ?_⟩) (by assumption) ?_
  rotate_left
  · intro W hSw
    try dsimp only at hSw
    go_simp
    try with_reducible rfl
  try simp only [Act.put, List.setIfInBounds_toArray, List.set_cons_zero, List.set_cons_succ]
  refine wpAnyH_take (i := 18) (oi := { dst := some 133, op := Op.move (Operand.tmp 132), type := 4, pos := "outright.go:445", after := #[{ on := 17, ground := Ground.data }, { on := 14, ground := Ground.chain }], guard := none }) (v := ?_) rfl (by kernel_rfl) (by kernel_rfl) (by kernel_rfl) (fun _ _ _ h => h) (Or.inl ⟨by rfl, ?_⟩) (by assumption) ?_
  rotate_left
  · intro W hSw
    try dsimp only at hSw
    go_simp
    try with_reducible rfl
  try simp only [Act.put, List.setIfInBounds_toArray, List.set_cons_zero, List.set_cons_succ]
  refine wpAnyH_take (i := 19) (oi := { dst := some 134, op := Op.move (Operand.tmp 7), type := 22, pos := "outright.go:445", after := #[{ on := 18, ground := Ground.guard }], guard := some (18, false) }) (v := ?_) rfl (by kernel_rfl) (by kernel_rfl) (by kernel_rfl) (fun _ _ _ h => h) (Or.inl ⟨by rfl, ?_⟩) (by assumption) ?_
  rotate_left
  · intro W hSw
    try dsimp only at hSw
    go_simp
    try with_reducible rfl
  try simp only [Act.put, List.setIfInBounds_toArray, List.set_cons_zero, List.set_cons_succ]
  refine wpAnyH_take (i := 20) (oi := { dst := some 135, op := Op.move (Operand.tmp 11), type := 22, pos := "outright.go:445", after := #[{ on := 18, ground := Ground.guard }], guard := some (18, false) }) (v := ?_) rfl (by kernel_rfl) (by kernel_rfl) (by kernel_rfl) (fun _ _ _ h => h) (Or.inl ⟨by rfl, ?_⟩) (by assumption) ?_
  rotate_left
  · intro W hSw
    try dsimp only at hSw
    go_simp
    try with_reducible rfl
  try simp only [Act.put, List.setIfInBounds_toArray, List.set_cons_zero, List.set_cons_succ]
  refine wpAnyH_ready (rs := [21]) (by kernel_rfl) (by simp) ?_
  refine AllReadyH.cons (o := { dst := some 136, op := Op.call { callee := Callee.value (Operand.func 11), args := #[Operand.tmp 134, Operand.tmp 135], argTypes := #[22, 22] }, type := 4, pos := "outright.go:445", after := #[{ on := 19, ground := Ground.data }, { on := 20, ground := Ground.data }, { on := 18, ground := Ground.chain }, { on := 18, ground := Ground.guard }], guard := some (18, false) }) rfl (fun K hK => ?_) AllReadyH.nil
  rw [if_pos (by rfl)]
  go_simp
  refine (HS1.out _ v0).mono ?_
  rintro e s1 ⟨rfl, j1, hs1⟩
  have v1 : Below wg.heap.size wg s1 := by rw [hs1]; exact below_drewN v0 j1
  clear hs1
  refine hK.out _ _ (HCV.out _ v1) (fun hHeld1 => ?_)
  clear hK K hHeld0
  try simp only [Act.put, List.setIfInBounds_toArray, List.set_cons_zero, List.set_cons_succ]
  refine wpAnyH_take (i := 22) (oi := { dst := some 137, op := Op.unOp UnOp.not 4 (Operand.tmp 136), type := 4, pos := "outright.go:445", after := #[{ on := 21, ground := Ground.data }, { on := 18, ground := Ground.guard }], guard := some (18, false) }) (v := ?_) rfl (by kernel_rfl) (by kernel_rfl) (by kernel_rfl) (fun _ _ _ h => h) (Or.inl ⟨by rfl, ?_⟩) (by assumption) ?_
  rotate_left
  · intro W hSw
    try dsimp only at hSw
    go_simp
    try with_reducible rfl
  try simp only [Act.put, List.setIfInBounds_toArray, List.set_cons_zero, List.set_cons_succ]
  refine wpAnyH_take (i := 23) (oi := { dst := some 138, op := Op.pick (Operand.tmp 133) (Operand.const (Value.bool true)) (Operand.tmp 137), type := 4, pos := "outright.go:445", after := #[{ on := 18, ground := Ground.data }, { on := 22, ground := Ground.data }], guard := none }) (v := ?_) rfl (by kernel_rfl) (by kernel_rfl) (by kernel_rfl) (fun _ _ _ h => h) (Or.inl ⟨by rfl, ?_⟩) (by assumption) ?_
  rotate_left
  · intro W hSw
    try dsimp only at hSw
    go_simp
    try with_reducible rfl
  try simp only [Act.put, List.setIfInBounds_toArray, List.set_cons_zero, List.set_cons_succ]
  refine wpAnyH_take (i := 24) (oi := { dst := some 139, op := Op.move (Operand.tmp 138), type := 4, pos := "outright.go:445", after := #[{ on := 23, ground := Ground.data }, { on := 21, ground := Ground.chain }], guard := none }) (v := ?_) rfl (by kernel_rfl) (by kernel_rfl) (by kernel_rfl) (fun _ _ _ h => h) (Or.inl ⟨by rfl, ?_⟩) (by assumption) ?_
  rotate_left
  · intro W hSw
    try dsimp only at hSw
    go_simp
    try with_reducible rfl
  try simp only [Act.put, List.setIfInBounds_toArray, List.set_cons_zero, List.set_cons_succ]
  refine wpAnyH_take (i := 25) (oi := { dst := some 140, op := Op.move (Operand.tmp 7), type := 22, pos := "outright.go:445", after := #[{ on := 24, ground := Ground.guard }], guard := some (24, false) }) (v := ?_) rfl (by kernel_rfl) (by kernel_rfl) (by kernel_rfl) (fun _ _ _ h => h) (Or.inl ⟨by rfl, ?_⟩) (by assumption) ?_
  rotate_left
  · intro W hSw
    try dsimp only at hSw
    go_simp
    try with_reducible rfl
  try simp only [Act.put, List.setIfInBounds_toArray, List.set_cons_zero, List.set_cons_succ]
  refine wpAnyH_take (i := 26) (oi := { dst := some 141, op := Op.move (Operand.tmp 19), type := 22, pos := "outright.go:445", after := #[{ on := 24, ground := Ground.guard }], guard := some (24, false) }) (v := ?_) rfl (by kernel_rfl) (by kernel_rfl) (by kernel_rfl) (fun _ _ _ h => h) (Or.inl ⟨by rfl, ?_⟩) (by assumption) ?_
  rotate_left
  · intro W hSw
    try dsimp only at hSw
    go_simp
    try with_reducible rfl
  try simp only [Act.put, List.setIfInBounds_toArray, List.set_cons_zero, List.set_cons_succ]
  refine wpAnyH_ready (rs := [27]) (by kernel_rfl) (by simp) ?_
  refine AllReadyH.cons (o := { dst := some 142, op := Op.call { callee := Callee.value (Operand.func 11), args := #[Operand.tmp 140, Operand.tmp 141], argTypes := #[22, 22] }, type := 4, pos := "outright.go:445", after := #[{ on := 25, ground := Ground.data }, { on := 26, ground := Ground.data }, { on := 24, ground := Ground.chain }, { on := 24, ground := Ground.guard }], guard := some (24, false) }) rfl (fun K hK => ?_) AllReadyH.nil
  rw [if_pos (by rfl)]
  go_simp
  refine (HS2.out _ v1).mono ?_
  rintro e s2 ⟨rfl, j2, hs2⟩
  have v2 : Below wg.heap.size wg s2 := by rw [hs2]; exact below_drewN v1 j2
  clear hs2
  refine hK.out _ _ (HCV.out _ v2) (fun hHeld2 => ?_)
  clear hK K hHeld1
  try simp only [Act.put, List.setIfInBounds_toArray, List.set_cons_zero, List.set_cons_succ]
  refine wpAnyH_take (i := 28) (oi := { dst := some 143, op := Op.unOp UnOp.not 4 (Operand.tmp 142), type := 4, pos := "outright.go:445", after := #[{ on := 27, ground := Ground.data }, { on := 24, ground := Ground.guard }], guard := some (24, false) }) (v := ?_) rfl (by kernel_rfl) (by kernel_rfl) (by kernel_rfl) (fun _ _ _ h => h) (Or.inl ⟨by rfl, ?_⟩) (by assumption) ?_
  rotate_left
  · intro W hSw
    try dsimp only at hSw
    go_simp
    try with_reducible rfl
  try simp only [Act.put, List.setIfInBounds_toArray, List.set_cons_zero, List.set_cons_succ]
  refine wpAnyH_take (i := 29) (oi := { dst := some 144, op := Op.pick (Operand.tmp 139) (Operand.const (Value.bool true)) (Operand.tmp 143), type := 4, pos := "outright.go:445", after := #[{ on := 24, ground := Ground.data }, { on := 28, ground := Ground.data }], guard := none }) (v := ?_) rfl (by kernel_rfl) (by kernel_rfl) (by kernel_rfl) (fun _ _ _ h => h) (Or.inl ⟨by rfl, ?_⟩) (by assumption) ?_
  rotate_left
  · intro W hSw
    try dsimp only at hSw
    go_simp
    try with_reducible rfl
  try simp only [Act.put, List.setIfInBounds_toArray, List.set_cons_zero, List.set_cons_succ]
  refine wpAnyH_take (i := 30) (oi := { dst := some 145, op := Op.move (Operand.tmp 144), type := 4, pos := "outright.go:445", after := #[{ on := 29, ground := Ground.data }, { on := 27, ground := Ground.chain }], guard := none }) (v := ?_) rfl (by kernel_rfl) (by kernel_rfl) (by kernel_rfl) (fun _ _ _ h => h) (Or.inl ⟨by rfl, ?_⟩) (by assumption) ?_
  rotate_left
  · intro W hSw
    try dsimp only at hSw
    go_simp
    try with_reducible rfl
  try simp only [Act.put, List.setIfInBounds_toArray, List.set_cons_zero, List.set_cons_succ]
  refine wpAnyH_take (i := 31) (oi := { dst := some 146, op := Op.move (Operand.tmp 7), type := 22, pos := "outright.go:445", after := #[{ on := 30, ground := Ground.guard }], guard := some (30, false) }) (v := ?_) rfl (by kernel_rfl) (by kernel_rfl) (by kernel_rfl) (fun _ _ _ h => h) (Or.inl ⟨by rfl, ?_⟩) (by assumption) ?_
  rotate_left
  · intro W hSw
    try dsimp only at hSw
    go_simp
    try with_reducible rfl
  try simp only [Act.put, List.setIfInBounds_toArray, List.set_cons_zero, List.set_cons_succ]
  refine wpAnyH_take (i := 32) (oi := { dst := some 147, op := Op.move (Operand.tmp 23), type := 22, pos := "outright.go:445", after := #[{ on := 30, ground := Ground.guard }], guard := some (30, false) }) (v := ?_) rfl (by kernel_rfl) (by kernel_rfl) (by kernel_rfl) (fun _ _ _ h => h) (Or.inl ⟨by rfl, ?_⟩) (by assumption) ?_
  rotate_left
  · intro W hSw
    try dsimp only at hSw
    go_simp
    try with_reducible rfl
  try simp only [Act.put, List.setIfInBounds_toArray, List.set_cons_zero, List.set_cons_succ]
  refine wpAnyH_ready (rs := [33]) (by kernel_rfl) (by simp) ?_
  refine AllReadyH.cons (o := { dst := some 148, op := Op.call { callee := Callee.value (Operand.func 11), args := #[Operand.tmp 146, Operand.tmp 147], argTypes := #[22, 22] }, type := 4, pos := "outright.go:445", after := #[{ on := 31, ground := Ground.data }, { on := 32, ground := Ground.data }, { on := 30, ground := Ground.chain }, { on := 30, ground := Ground.guard }], guard := some (30, false) }) rfl (fun K hK => ?_) AllReadyH.nil
  rw [if_pos (by rfl)]
  go_simp
  refine (HS3.out _ v2).mono ?_
  rintro e s3 ⟨rfl, j3, hs3⟩
  have v3 : Below wg.heap.size wg s3 := by rw [hs3]; exact below_drewN v2 j3
  clear hs3
  refine hK.out _ _ (HCV.out _ v3) (fun hHeld3 => ?_)
  clear hK K hHeld2
  try simp only [Act.put, List.setIfInBounds_toArray, List.set_cons_zero, List.set_cons_succ]
  refine wpAnyH_take (i := 34) (oi := { dst := some 149, op := Op.unOp UnOp.not 4 (Operand.tmp 148), type := 4, pos := "outright.go:445", after := #[{ on := 33, ground := Ground.data }, { on := 30, ground := Ground.guard }], guard := some (30, false) }) (v := ?_) rfl (by kernel_rfl) (by kernel_rfl) (by kernel_rfl) (fun _ _ _ h => h) (Or.inl ⟨by rfl, ?_⟩) (by assumption) ?_
  rotate_left
  · intro W hSw
    try dsimp only at hSw
    go_simp
    try with_reducible rfl
  try simp only [Act.put, List.setIfInBounds_toArray, List.set_cons_zero, List.set_cons_succ]
  refine wpAnyH_take (i := 35) (oi := { dst := some 150, op := Op.pick (Operand.tmp 145) (Operand.const (Value.bool true)) (Operand.tmp 149), type := 4, pos := "outright.go:445", after := #[{ on := 30, ground := Ground.data }, { on := 34, ground := Ground.data }], guard := none }) (v := ?_) rfl (by kernel_rfl) (by kernel_rfl) (by kernel_rfl) (fun _ _ _ h => h) (Or.inl ⟨by rfl, ?_⟩) (by assumption) ?_
  rotate_left
  · intro W hSw
    try dsimp only at hSw
    go_simp
    try with_reducible rfl
  try simp only [Act.put, List.setIfInBounds_toArray, List.set_cons_zero, List.set_cons_succ]
  refine wpAnyH_take (i := 36) (oi := { dst := some 151, op := Op.move (Operand.tmp 150), type := 4, pos := "outright.go:445", after := #[{ on := 35, ground := Ground.data }, { on := 33, ground := Ground.chain }], guard := none }) (v := ?_) rfl (by kernel_rfl) (by kernel_rfl) (by kernel_rfl) (fun _ _ _ h => h) (Or.inl ⟨by rfl, ?_⟩) (by assumption) ?_
  rotate_left
  · intro W hSw
    try dsimp only at hSw
    go_simp
    try with_reducible rfl
  try simp only [Act.put, List.setIfInBounds_toArray, List.set_cons_zero, List.set_cons_succ]
  refine wpAnyH_take (i := 37) (oi := { dst := some 152, op := Op.move (Operand.tmp 20), type := 3, pos := "outright.go:445", after := #[{ on := 36, ground := Ground.guard }], guard := some (36, false) }) (v := ?_) rfl (by kernel_rfl) (by kernel_rfl) (by kernel_rfl) (fun _ _ _ h => h) (Or.inl ⟨by rfl, ?_⟩) (by assumption) ?_
  rotate_left
  · intro W hSw
    try dsimp only at hSw
    go_simp
    try with_reducible rfl
  try simp only [Act.put, List.setIfInBounds_toArray, List.set_cons_zero, List.set_cons_succ]
  refine wpAnyH_take (i := 38) (oi := { dst := some 153, op := Op.move (Operand.tmp 24), type := 3, pos := "outright.go:445", after := #[{ on := 36, ground := Ground.guard }], guard := some (36, false) }) (v := ?_) rfl (by kernel_rfl) (by kernel_rfl) (by kernel_rfl) (fun _ _ _ h => h) (Or.inl ⟨by rfl, ?_⟩) (by assumption) ?_
  rotate_left
  · intro W hSw
    try dsimp only at hSw
    go_simp
    try with_reducible rfl
  try simp only [Act.put, List.setIfInBounds_toArray, List.set_cons_zero, List.set_cons_succ]
  refine wpAnyH_take (i := 39) (oi := { dst := some 154, op := Op.binOp BinOp.neq 3 (Operand.tmp 152) (Operand.tmp 153) 3, type := 4, pos := "outright.go:445", after := #[{ on := 37, ground := Ground.data }, { on := 38, ground := Ground.data }, { on := 36, ground := Ground.guard }], guard := some (36, false) }) (v := Value.bool false) rfl (by kernel_rfl) (by kernel_rfl) (by kernel_rfl) (fun _ _ _ h => h) (Or.inl ⟨by rfl, ?_⟩) (by assumption) ?_
  · intro W hSw
    try dsimp only at hSw
    go_simp
    try with_reducible rfl
  try simp only [Act.put, List.setIfInBounds_toArray, List.set_cons_zero, List.set_cons_succ]
  refine wpAnyH_take (i := 40) (oi := { dst := some 155, op := Op.pick (Operand.tmp 151) (Operand.const (Value.bool true)) (Operand.tmp 154), type := 4, pos := "outright.go:445", after := #[{ on := 36, ground := Ground.data }, { on := 39, ground := Ground.data }], guard := none }) (v := ?_) rfl (by kernel_rfl) (by kernel_rfl) (by kernel_rfl) (fun _ _ _ h => h) (Or.inl ⟨by rfl, ?_⟩) (by assumption) ?_
  rotate_left
  · intro W hSw
    try dsimp only at hSw
    go_simp
    try with_reducible rfl
  try simp only [Act.put, List.setIfInBounds_toArray, List.set_cons_zero, List.set_cons_succ]
  refine wpAnyH_take (i := 41) (oi := { dst := some 156, op := Op.move (Operand.tmp 155), type := 4, pos := "outright.go:445", after := #[{ on := 40, ground := Ground.data }, { on := 36, ground := Ground.chain }], guard := none }) (v := ?_) rfl (by kernel_rfl) (by kernel_rfl) (by kernel_rfl) (fun _ _ _ h => h) (Or.inl ⟨by rfl, ?_⟩) (by assumption) ?_
  rotate_left
  · intro W hSw
    try dsimp only at hSw
    go_simp
    try with_reducible rfl
  try simp only [Act.put, List.setIfInBounds_toArray, List.set_cons_zero, List.set_cons_succ]
  refine wpAnyH_take (i := 42) (oi := { dst := some 157, op := Op.move (Operand.tmp 21), type := 29, pos := "outright.go:445", after := #[{ on := 41, ground := Ground.guard }], guard := some (41, false) }) (v := ?_) rfl (by kernel_rfl) (by kernel_rfl) (by kernel_rfl) (fun _ _ _ h => h) (Or.inl ⟨by rfl, ?_⟩) (by assumption) ?_
  rotate_left
  · intro W hSw
    try dsimp only at hSw
    go_simp
    try with_reducible rfl
  try simp only [Act.put, List.setIfInBounds_toArray, List.set_cons_zero, List.set_cons_succ]
  refine wpAnyH_take (i := 43) (oi := { dst := some 158, op := Op.convert 29 9 (Operand.tmp 157), type := 9, pos := "outright.go:445", after := #[{ on := 42, ground := Ground.data }, { on := 41, ground := Ground.guard }], guard := some (41, false) }) (v := ?_) rfl (by kernel_rfl) (by kernel_rfl) (by kernel_rfl) (fun _ _ _ h => h) (Or.inl ⟨by rfl, ?_⟩) (by assumption) ?_
  rotate_left
  · intro W hSw
    try dsimp only at hSw
    go_simp
    try with_reducible rfl
  try simp only [Act.put, List.setIfInBounds_toArray, List.set_cons_zero, List.set_cons_succ]
  refine wpAnyH_take (i := 44) (oi := { dst := some 159, op := Op.move (Operand.tmp 25), type := 29, pos := "outright.go:445", after := #[{ on := 41, ground := Ground.guard }], guard := some (41, false) }) (v := ?_) rfl (by kernel_rfl) (by kernel_rfl) (by kernel_rfl) (fun _ _ _ h => h) (Or.inl ⟨by rfl, ?_⟩) (by assumption) ?_
  rotate_left
  · intro W hSw
    try dsimp only at hSw
    go_simp
    try with_reducible rfl
  try simp only [Act.put, List.setIfInBounds_toArray, List.set_cons_zero, List.set_cons_succ]
  refine wpAnyH_take (i := 45) (oi := { dst := some 160, op := Op.convert 29 9 (Operand.tmp 159), type := 9, pos := "outright.go:445", after := #[{ on := 44, ground := Ground.data }, { on := 41, ground := Ground.guard }], guard := some (41, false) }) (v := ?_) rfl (by kernel_rfl) (by kernel_rfl) (by kernel_rfl) (fun _ _ _ h => h) (Or.inl ⟨by rfl, ?_⟩) (by assumption) ?_
  rotate_left
  · intro W hSw
    try dsimp only at hSw
    go_simp
    try with_reducible rfl
  try simp only [Act.put, List.setIfInBounds_toArray, List.set_cons_zero, List.set_cons_succ]
  refine wpAnyH_take (i := 46) (oi := { dst := some 161, op := Op.binOp BinOp.neq 9 (Operand.tmp 158) (Operand.tmp 160) 9, type := 4, pos := "outright.go:445", after := #[{ on := 43, ground := Ground.data }, { on := 45, ground := Ground.data }, { on := 41, ground := Ground.guard }], guard := some (41, false) }) (v := Value.bool false) rfl (by kernel_rfl) (by kernel_rfl) (by kernel_rfl) (fun _ _ _ h => h) (Or.inl ⟨by rfl, ?_⟩) (by assumption) ?_
  · intro W hSw
    try dsimp only at hSw
    go_simp
    try with_reducible rfl
  try simp only [Act.put, List.setIfInBounds_toArray, List.set_cons_zero, List.set_cons_succ]
  refine wpAnyH_take (i := 47) (oi := { dst := some 162, op := Op.pick (Operand.tmp 156) (Operand.const (Value.bool true)) (Operand.tmp 161), type := 4, pos := "outright.go:445", after := #[{ on := 41, ground := Ground.data }, { on := 46, ground := Ground.data }], guard := none }) (v := ?_) rfl (by kernel_rfl) (by kernel_rfl) (by kernel_rfl) (fun _ _ _ h => h) (Or.inl ⟨by rfl, ?_⟩) (by assumption) ?_
  rotate_left
  · intro W hSw
    try dsimp only at hSw
    go_simp
    try with_reducible rfl
  try simp only [Act.put, List.setIfInBounds_toArray, List.set_cons_zero, List.set_cons_succ]
  refine wpAnyH_take (i := 48) (oi := { dst := some 163, op := Op.move (Operand.tmp 162), type := 4, pos := "outright.go:445", after := #[{ on := 47, ground := Ground.data }, { on := 41, ground := Ground.chain }], guard := none }) (v := ?_) rfl (by kernel_rfl) (by kernel_rfl) (by kernel_rfl) (fun _ _ _ h => h) (Or.inl ⟨by rfl, ?_⟩) (by assumption) ?_
  rotate_left
  · intro W hSw
    try dsimp only at hSw
    go_simp
    try with_reducible rfl
  try simp only [Act.put, List.setIfInBounds_toArray, List.set_cons_zero, List.set_cons_succ]
  refine wpAnyH_take (i := 49) (oi := { dst := some 164, op := Op.move (Operand.tmp 9), type := 29, pos := "outright.go:445", after := #[{ on := 48, ground := Ground.guard }], guard := some (48, false) }) (v := ?_) rfl (by kernel_rfl) (by kernel_rfl) (by kernel_rfl) (fun _ _ _ h => h) (Or.inl ⟨by rfl, ?_⟩) (by assumption) ?_
  rotate_left
  · intro W hSw
    try dsimp only at hSw
    go_simp
    try with_reducible rfl
  try simp only [Act.put, List.setIfInBounds_toArray, List.set_cons_zero, List.set_cons_succ]
  refine wpAnyH_take (i := 50) (oi := { dst := some 165, op := Op.convert 29 9 (Operand.tmp 164), type := 9, pos := "outright.go:445", after := #[{ on := 49, ground := Ground.data }, { on := 48, ground := Ground.guard }], guard := some (48, false) }) (v := ?_) rfl (by kernel_rfl) (by kernel_rfl) (by kernel_rfl) (fun _ _ _ h => h) (Or.inl ⟨by rfl, ?_⟩) (by assumption) ?_
  rotate_left
  · intro W hSw
    try dsimp only at hSw
    go_simp
    try with_reducible rfl
  try simp only [Act.put, List.setIfInBounds_toArray, List.set_cons_zero, List.set_cons_succ]
  refine wpAnyH_take (i := 51) (oi := { dst := some 166, op := Op.move (Operand.tmp 13), type := 29, pos := "outright.go:445", after := #[{ on := 48, ground := Ground.guard }], guard := some (48, false) }) (v := ?_) rfl (by kernel_rfl) (by kernel_rfl) (by kernel_rfl) (fun _ _ _ h => h) (Or.inl ⟨by rfl, ?_⟩) (by assumption) ?_
  rotate_left
  · intro W hSw
    try dsimp only at hSw
    go_simp
    try with_reducible rfl
  try simp only [Act.put, List.setIfInBounds_toArray, List.set_cons_zero, List.set_cons_succ]
  refine wpAnyH_take (i := 52) (oi := { dst := some 167, op := Op.convert 29 9 (Operand.tmp 166), type := 9, pos := "outright.go:445", after := #[{ on := 51, ground := Ground.data }, { on := 48, ground := Ground.guard }], guard := some (48, false) }) (v := ?_) rfl (by kernel_rfl) (by kernel_rfl) (by kernel_rfl) (fun _ _ _ h => h) (Or.inl ⟨by rfl, ?_⟩) (by assumption) ?_
  rotate_left
  · intro W hSw
    try dsimp only at hSw
    go_simp
    try with_reducible rfl
  try simp only [Act.put, List.setIfInBounds_toArray, List.set_cons_zero, List.set_cons_succ]
  refine wpAnyH_take (i := 53) (oi := { dst := some 168, op := Op.binOp BinOp.neq 9 (Operand.tmp 165) (Operand.tmp 167) 9, type := 4, pos := "outright.go:445", after := #[{ on := 50, ground := Ground.data }, { on := 52, ground := Ground.data }, { on := 48, ground := Ground.guard }], guard := some (48, false) }) (v := Value.bool false) rfl (by kernel_rfl) (by kernel_rfl) (by kernel_rfl) (fun _ _ _ h => h) (Or.inl ⟨by rfl, ?_⟩) (by assumption) ?_
  · intro W hSw
    try dsimp only at hSw
    go_simp
    try with_reducible rfl
  try simp only [Act.put, List.setIfInBounds_toArray, List.set_cons_zero, List.set_cons_succ]
  refine wpAnyH_take (i := 54) (oi := { dst := some 169, op := Op.pick (Operand.tmp 163) (Operand.const (Value.bool true)) (Operand.tmp 168), type := 4, pos := "outright.go:445", after := #[{ on := 48, ground := Ground.data }, { on := 53, ground := Ground.data }], guard := none }) (v := ?_) rfl (by kernel_rfl) (by kernel_rfl) (by kernel_rfl) (fun _ _ _ h => h) (Or.inl ⟨by rfl, ?_⟩) (by assumption) ?_
  rotate_left
  · intro W hSw
    try dsimp only at hSw
    go_simp
    try with_reducible rfl
  try simp only [Act.put, List.setIfInBounds_toArray, List.set_cons_zero, List.set_cons_succ]
  refine wpAnyH_take (i := 55) (oi := { dst := some 170, op := Op.move (Operand.tmp 169), type := 4, pos := "outright.go:445", after := #[{ on := 54, ground := Ground.data }, { on := 48, ground := Ground.chain }], guard := none }) (v := ?_) rfl (by kernel_rfl) (by kernel_rfl) (by kernel_rfl) (fun _ _ _ h => h) (Or.inl ⟨by rfl, ?_⟩) (by assumption) ?_
  rotate_left
  · intro W hSw
    try dsimp only at hSw
    go_simp
    try with_reducible rfl
  try simp only [Act.put, List.setIfInBounds_toArray, List.set_cons_zero, List.set_cons_succ]
  refine wpAnyH_take (i := 56) (oi := { dst := some 171, op := Op.move (Operand.tmp 6), type := 22, pos := "outright.go:445", after := #[{ on := 55, ground := Ground.guard }], guard := some (55, false) }) (v := ?_) rfl (by kernel_rfl) (by kernel_rfl) (by kernel_rfl) (fun _ _ _ h => h) (Or.inl ⟨by rfl, ?_⟩) (by assumption) ?_
  rotate_left
  · intro W hSw
    try dsimp only at hSw
    go_simp
    try with_reducible rfl
  try simp only [Act.put, List.setIfInBounds_toArray, List.set_cons_zero, List.set_cons_succ]
  refine wpAnyH_take (i := 57) (oi := { dst := some 172, op := Op.move (Operand.tmp 5), type := 3, pos := "outright.go:445", after := #[{ on := 55, ground := Ground.guard }], guard := some (55, false) }) (v := ?_) rfl (by kernel_rfl) (by kernel_rfl) (by kernel_rfl) (fun _ _ _ h => h) (Or.inl ⟨by rfl, ?_⟩) (by assumption) ?_
  rotate_left
  · intro W hSw
    try dsimp only at hSw
    go_simp
    try with_reducible rfl
  try simp only [Act.put, List.setIfInBounds_toArray, List.set_cons_zero, List.set_cons_succ]
  refine wpAnyH_take (i := 58) (oi := { dst := some 173, op := Op.slice 22 (Operand.tmp 171) none (some (Operand.tmp 172)) none, type := 22, pos := "outright.go:445", after := #[{ on := 56, ground := Ground.data }, { on := 57, ground := Ground.data }, { on := 55, ground := Ground.guard }], guard := some (55, false) }) (v := ?_) rfl (by kernel_rfl) (by kernel_rfl) (by kernel_rfl) (fun _ _ _ h => h) (Or.inl ⟨by rfl, ?_⟩) (by assumption) ?_
  rotate_left
  · intro W hSw
    try dsimp only at hSw
    go_simp
    try with_reducible rfl
  try simp only [Act.put, List.setIfInBounds_toArray, List.set_cons_zero, List.set_cons_succ]
  refine wpAnyH_take (i := 59) (oi := { dst := some 174, op := Op.move (Operand.tmp 0), type := 22, pos := "outright.go:445", after := #[{ on := 55, ground := Ground.guard }], guard := some (55, false) }) (v := ?_) rfl (by kernel_rfl) (by kernel_rfl) (by kernel_rfl) (fun _ _ _ h => h) (Or.inl ⟨by rfl, ?_⟩) (by assumption) ?_
  rotate_left
  · intro W hSw
    try dsimp only at hSw
    go_simp
    try with_reducible rfl
  try simp only [Act.put, List.setIfInBounds_toArray, List.set_cons_zero, List.set_cons_succ]
  refine wpAnyH_take (i := 60) (oi := { dst := some 175, op := Op.move (Operand.tmp 5), type := 3, pos := "outright.go:445", after := #[{ on := 55, ground := Ground.guard }], guard := some (55, false) }) (v := ?_) rfl (by kernel_rfl) (by kernel_rfl) (by kernel_rfl) (fun _ _ _ h => h) (Or.inl ⟨by rfl, ?_⟩) (by assumption) ?_
  rotate_left
  · intro W hSw
    try dsimp only at hSw
    go_simp
    try with_reducible rfl
  try simp only [Act.put, List.setIfInBounds_toArray, List.set_cons_zero, List.set_cons_succ]
  refine wpAnyH_take (i := 61) (oi := { dst := some 176, op := Op.slice 22 (Operand.tmp 174) none (some (Operand.tmp 175)) none, type := 22, pos := "outright.go:445", after := #[{ on := 59, ground := Ground.data }, { on := 60, ground := Ground.data }, { on := 55, ground := Ground.guard }], guard := some (55, false) }) (v := ?_) rfl (by kernel_rfl) (by kernel_rfl) (by kernel_rfl) (fun _ _ _ h => h) (Or.inl ⟨by rfl, ?_⟩) (by assumption) ?_
  rotate_left
  · intro W hSw
    try dsimp only at hSw
    go_simp
    try with_reducible rfl
  try simp only [Act.put, List.setIfInBounds_toArray, List.set_cons_zero, List.set_cons_succ]
  refine wpAnyH_ready (rs := [62]) (by kernel_rfl) (by simp) ?_
  refine AllReadyH.cons (o := { dst := some 177, op := Op.call { callee := Callee.value (Operand.func 11), args := #[Operand.tmp 173, Operand.tmp 176], argTypes := #[22, 22] }, type := 4, pos := "outright.go:445", after := #[{ on := 58, ground := Ground.data }, { on := 61, ground := Ground.data }, { on := 55, ground := Ground.chain }, { on := 55, ground := Ground.guard }], guard := some (55, false) }) rfl (fun K hK => ?_) AllReadyH.nil
  rw [if_pos (by rfl)]
  go_simp
  refine (HS4.out _ v3).mono ?_
  rintro e wh ⟨rfl, j4, hs4⟩
  have v4 : Below wg.heap.size wg wh := by rw [hs4]; exact below_drewN v3 j4
  clear hs4
  refine hK.out _ _ (HCV.out _ v4) (fun hHeld4 => ?_)
  clear hK K hHeld3
  try simp only [Act.put, List.setIfInBounds_toArray, List.set_cons_zero, List.set_cons_succ]
  refine wpAnyH_take (i := 63) (oi := { dst := some 178, op := Op.unOp UnOp.not 4 (Operand.tmp 177), type := 4, pos := "outright.go:445", after := #[{ on := 62, ground := Ground.data }, { on := 55, ground := Ground.guard }], guard := some (55, false) }) (v := ?_) rfl (by kernel_rfl) (by kernel_rfl) (by kernel_rfl) (fun _ _ _ h => h) (Or.inl ⟨by rfl, ?_⟩) (by assumption) ?_
  rotate_left
  · intro W hSw
    try dsimp only at hSw
    go_simp
    try with_reducible rfl
  try simp only [Act.put, List.setIfInBounds_toArray, List.set_cons_zero, List.set_cons_succ]
  refine wpAnyH_take (i := 64) (oi := { dst := some 179, op := Op.pick (Operand.tmp 170) (Operand.const (Value.bool true)) (Operand.tmp 178), type := 4, pos := "outright.go:445", after := #[{ on := 55, ground := Ground.data }, { on := 63, ground := Ground.data }], guard := none }) (v := ?_) rfl (by kernel_rfl) (by kernel_rfl) (by kernel_rfl) (fun _ _ _ h => h) (Or.inl ⟨by rfl, ?_⟩) (by assumption) ?_
  rotate_left
  · intro W hSw
    try dsimp only at hSw
    go_simp
    try with_reducible rfl
  try simp only [Act.put, List.setIfInBounds_toArray, List.set_cons_zero, List.set_cons_succ]
  refine wpAnyH_take (i := 65) (oi := { dst := some 180, op := Op.move (Operand.tmp 179), type := 4, pos := "outright.go:445", after := #[{ on := 64, ground := Ground.data }, { on := 62, ground := Ground.chain }], guard := none }) (v := ?_) rfl (by kernel_rfl) (by kernel_rfl) (by kernel_rfl) (fun _ _ _ h => h) (Or.inl ⟨by rfl, ?_⟩) (by assumption) ?_
  rotate_left
  · intro W hSw
    try dsimp only at hSw
    go_simp
    try with_reducible rfl
  try simp only [Act.put, List.setIfInBounds_toArray, List.set_cons_zero, List.set_cons_succ]
  refine wpAnyH_take (i := 66) (oi := { dst := some 181, op := Op.move (Operand.tmp 6), type := 22, pos := "outright.go:445", after := #[{ on := 65, ground := Ground.guard }], guard := some (65, false) }) (v := ?_) rfl (by kernel_rfl) (by kernel_rfl) (by kernel_rfl) (fun _ _ _ h => h) (Or.inl ⟨by rfl, ?_⟩) (by assumption) ?_
  rotate_left
  · intro W hSw
    try dsimp only at hSw
    go_simp
    try with_reducible rfl
  try simp only [Act.put, List.setIfInBounds_toArray, List.set_cons_zero, List.set_cons_succ]
  refine wpAnyH_take (i := 67) (oi := { dst := some 182, op := Op.move (Operand.tmp 5), type := 3, pos := "outright.go:445", after := #[{ on := 65, ground := Ground.guard }], guard := some (65, false) }) (v := ?_) rfl (by kernel_rfl) (by kernel_rfl) (by kernel_rfl) (fun _ _ _ h => h) (Or.inl ⟨by rfl, ?_⟩) (by assumption) ?_
  rotate_left
  · intro W hSw
    try dsimp only at hSw
    go_simp
    try with_reducible rfl
  try simp only [Act.put, List.setIfInBounds_toArray, List.set_cons_zero, List.set_cons_succ]
  refine wpAnyH_take (i := 68) (oi := { dst := some 183, op := Op.indexAddr 22 (Operand.tmp 181) (Operand.tmp 182), type := 0, pos := "outright.go:445", after := #[{ on := 66, ground := Ground.data }, { on := 67, ground := Ground.data }, { on := 65, ground := Ground.guard }], guard := some (65, false) }) (v := ?_) rfl (by kernel_rfl) (by kernel_rfl) (by kernel_rfl) (fun _ _ _ h => h) (Or.inl ⟨by rfl, ?_⟩) (by assumption) ?_
  rotate_left
  · intro W hSw
    try dsimp only at hSw
    go_simp
    try with_reducible rfl
  try simp only [Act.put, List.setIfInBounds_toArray, List.set_cons_zero, List.set_cons_succ]
  refine wpAnyH_take (i := 69) (oi := { dst := some 184, op := Op.load 9 (Operand.tmp 183), type := 9, pos := "outright.go:445", after := #[{ on := 68, ground := Ground.data }, { on := 65, ground := Ground.guard }], guard := some (65, false) }) (v := ?_) rfl (by kernel_rfl) (by kernel_rfl) (by kernel_rfl) (fun _ _ _ h => h) (Or.inl ⟨by rfl, ?_⟩) (by assumption) ?_
  rotate_left
  · intro W hSw
    try dsimp only at hSw
    go_simp
    try with_reducible rfl
  try simp only [Act.put, List.setIfInBounds_toArray, List.set_cons_zero, List.set_cons_succ]
  refine wpAnyH_take (i := 70) (oi := { dst := some 185, op := Op.binOp BinOp.neq 9 (Operand.tmp 184) (Operand.const (Value.string { data := #[111, 110, 101] })) 9, type := 4, pos := "outright.go:445", after := #[{ on := 69, ground := Ground.data }, { on := 65, ground := Ground.guard }], guard := some (65, false) }) (v := Value.bool false) rfl (by kernel_rfl) (by kernel_rfl) (by kernel_rfl) (fun _ _ _ h => h) (Or.inl ⟨by rfl, ?_⟩) (by assumption) ?_
  · intro W hSw
    try dsimp only at hSw
    go_simp
    try with_reducible rfl
  try simp only [Act.put, List.setIfInBounds_toArray, List.set_cons_zero, List.set_cons_succ]
  refine wpAnyH_take (i := 71) (oi := { dst := some 186, op := Op.pick (Operand.tmp 180) (Operand.const (Value.bool true)) (Operand.tmp 185), type := 4, pos := "outright.go:445", after := #[{ on := 65, ground := Ground.data }, { on := 70, ground := Ground.data }], guard := none }) (v := ?_) rfl (by kernel_rfl) (by kernel_rfl) (by kernel_rfl) (fun _ _ _ h => h) (Or.inl ⟨by rfl, ?_⟩) (by assumption) ?_
  rotate_left
  · intro W hSw
    try dsimp only at hSw
    go_simp
    try with_reducible rfl
  try simp only [Act.put, List.setIfInBounds_toArray, List.set_cons_zero, List.set_cons_succ]
  refine wpAnyH_take (i := 72) (oi := { dst := some 187, op := Op.move (Operand.tmp 186), type := 4, pos := "outright.go:445", after := #[{ on := 71, ground := Ground.data }, { on := 65, ground := Ground.chain }], guard := none }) (v := ?_) rfl (by kernel_rfl) (by kernel_rfl) (by kernel_rfl) (fun _ _ _ h => h) (Or.inl ⟨by rfl, ?_⟩) (by assumption) ?_
  rotate_left
  · intro W hSw
    try dsimp only at hSw
    go_simp
    try with_reducible rfl
  try simp only [Act.put, List.setIfInBounds_toArray, List.set_cons_zero, List.set_cons_succ]
  refine wpAnyH_take (i := 73) (oi := { dst := some 188, op := Op.move (Operand.tmp 6), type := 22, pos := "outright.go:445", after := #[{ on := 72, ground := Ground.guard }], guard := some (72, false) }) (v := ?_) rfl (by kernel_rfl) (by kernel_rfl) (by kernel_rfl) (fun _ _ _ h => h) (Or.inl ⟨by rfl, ?_⟩) (by assumption) ?_
  rotate_left
  · intro W hSw
    try dsimp only at hSw
    go_simp
    try with_reducible rfl
  try simp only [Act.put, List.setIfInBounds_toArray, List.set_cons_zero, List.set_cons_succ]
  refine wpAnyH_take (i := 74) (oi := { dst := some 189, op := Op.move (Operand.tmp 5), type := 3, pos := "outright.go:445", after := #[{ on := 72, ground := Ground.guard }], guard := some (72, false) }) (v := ?_) rfl (by kernel_rfl) (by kernel_rfl) (by kernel_rfl) (fun _ _ _ h => h) (Or.inl ⟨by rfl, ?_⟩) (by assumption) ?_
  rotate_left
  · intro W hSw
    try dsimp only at hSw
    go_simp
    try with_reducible rfl
  try simp only [Act.put, List.setIfInBounds_toArray, List.set_cons_zero, List.set_cons_succ]
  refine wpAnyH_take (i := 75) (oi := { dst := some 190, op := Op.binOp BinOp.add 3 (Operand.tmp 189) (Operand.const (Value.int IntKind.i64 1)) 3, type := 3, pos := "outright.go:445", after := #[{ on := 74, ground := Ground.data }, { on := 72, ground := Ground.guard }], guard := some (72, false) }) (v := ?_) rfl (by kernel_rfl) (by kernel_rfl) (by kernel_rfl) (fun _ _ _ h => h) (Or.inl ⟨by rfl, ?_⟩) (by assumption) ?_
  rotate_left
  · intro W hSw
    try dsimp only at hSw
    go_simp
    try with_reducible rfl
  try simp only [Act.put, List.setIfInBounds_toArray, List.set_cons_zero, List.set_cons_succ]
  refine wpAnyH_take (i := 76) (oi := { dst := some 191, op := Op.indexAddr 22 (Operand.tmp 188) (Operand.tmp 190), type := 0, pos := "outright.go:445", after := #[{ on := 73, ground := Ground.data }, { on := 75, ground := Ground.data }, { on := 72, ground := Ground.guard }], guard := some (72, false) }) (v := ?_) rfl (by kernel_rfl) (by kernel_rfl) (by kernel_rfl) (fun _ _ _ h => h) (Or.inl ⟨by rfl, ?_⟩) (by assumption) ?_
  rotate_left
  · intro W hSw
    try dsimp only at hSw
    go_simp
    try with_reducible rfl
  try simp only [Act.put, List.setIfInBounds_toArray, List.set_cons_zero, List.set_cons_succ]
  refine wpAnyH_take (i := 77) (oi := { dst := some 192, op := Op.load 9 (Operand.tmp 191), type := 9, pos := "outright.go:445", after := #[{ on := 76, ground := Ground.data }, { on := 72, ground := Ground.guard }], guard := some (72, false) }) (v := ?_) rfl (by kernel_rfl) (by kernel_rfl) (by kernel_rfl) (fun _ _ _ h => h) (Or.inl ⟨by rfl, ?_⟩) (by assumption) ?_
  rotate_left
  · intro W hSw
    try dsimp only at hSw
    go_simp
    try with_reducible rfl
  try simp only [Act.put, List.setIfInBounds_toArray, List.set_cons_zero, List.set_cons_succ]
  refine wpAnyH_take (i := 78) (oi := { dst := some 193, op := Op.binOp BinOp.neq 9 (Operand.tmp 192) (Operand.const (Value.string { data := #[116, 119, 111] })) 9, type := 4, pos := "outright.go:445", after := #[{ on := 77, ground := Ground.data }, { on := 72, ground := Ground.guard }], guard := some (72, false) }) (v := Value.bool false) rfl (by kernel_rfl) (by kernel_rfl) (by kernel_rfl) (fun _ _ _ h => h) (Or.inl ⟨by rfl, ?_⟩) (by assumption) ?_
  · intro W hSw
    try dsimp only at hSw
    go_simp
    try with_reducible rfl
  try simp only [Act.put, List.setIfInBounds_toArray, List.set_cons_zero, List.set_cons_succ]
  refine wpAnyH_take (i := 79) (oi := { dst := some 194, op := Op.pick (Operand.tmp 187) (Operand.const (Value.bool true)) (Operand.tmp 193), type := 4, pos := "outright.go:445", after := #[{ on := 72, ground := Ground.data }, { on := 78, ground := Ground.data }], guard := none }) (v := ?_) rfl (by kernel_rfl) (by kernel_rfl) (by kernel_rfl) (fun _ _ _ h => h) (Or.inl ⟨by rfl, ?_⟩) (by assumption) ?_
  rotate_left
  · intro W hSw
    try dsimp only at hSw
    go_simp
    try with_reducible rfl
  try simp only [Act.put, List.setIfInBounds_toArray, List.set_cons_zero, List.set_cons_succ]
  refine wpAnyH_done (by kernel_rfl) ?_ _
  refine NoPanic.normal ?_
  clear hHeld4
  have hb := v4
  clear v0 v1 v2 v3 v4 HCV hwr htn hi1 hi2 hi3 hi4 hi5 HS1 HS2 HS3 HS4
  replace FK := hid (FK.out.later hb)
  replace FP := hid (FP.out.later hb)
  replace HA0 := hid (HA0.out.later hb)
  replace HA1 := hid (HA1.out.later hb)
  replace HB := hid (below_up HB.out hb)
  replace HRM := hid (row_later HRM.out hb)
  replace HLO : Hid (lo ≤ wh.heap.size ∧ W.heap.size ≤ lo) := ⟨Nat.le_trans HLO.out.1 hb.size, HLO.out.2⟩
  clear hb
  clear HA0
  have HG : Hid (Calls Tryz.prog 12 #[.slice (some ⟨wh.heap.size, 0, none⟩) 5 5] (wh.alloc (.cells #[.slice kA KL.length dA, .slice kB KL.length dB, .slice kC KO.length dC, .slice kD KL.length dD, .slice kE KL.length dE] 22)) fun e w' => e = .returned (.bool true) ∧ Touch (memF [vS kA KL.length dA KL, vS kB KL.length dB KL, vS kC KO.length dC KO, vS kD KL.length dD KL, vS kE KL.length dE KL]) wh w') := grownS_fam FK.out (by simp) (fun x hx => by
    simp only [List.mem_cons, List.not_mem_nil, or_false] at hx
    rcases hx with rfl | rfl | rfl | rfl | rfl <;> first | (show (svals _).length ≤ _; rw [svals_len]; omega) | (show (bytesV _).length ≤ _; rw [bytesV_len]; omega))
  go_wp2_with fail
  refine HG.out.mono ?_
  rintro e wj ⟨rfl, ht⟩
  have hb := touch_mem FK.out ht HLO.out.1
  replace FP := hid (FP.out.touch ht (FP.out.offF FK.out (by decide)))
  replace HA1 := hid (strs_below HA1.out hb (fun g o e h => Nat.lt_of_lt_of_le (HIB.out g o e (by have := HOT.out; omega)) HLO.out.2))
  replace HB := hid (HB.out.trans (hb.mono HLO.out.2))
  replace HRM := hid (row_below HRM.out hb hgl)
  replace HLO : Hid (lo ≤ wj.heap.size ∧ W.heap.size ≤ lo) := ⟨Nat.le_trans HLO.out.1 hb.size, HLO.out.2⟩
  clear ht hb HG FK
  have HG : Hid (Calls Tryz.prog 13 #[.slice (some ⟨wj.heap.size, 0, none⟩) 5 5] (wj.alloc (.cells #[.slice pA BL.length rA, .slice pB BL.length rB, .slice pC BO.length rC, .slice xD XL.length yD, .slice xE XL.length yE] 29)) fun e w' => e = .returned (.bool true) ∧ Touch (memF [vB pA BL.length rA BL, vB pB BL.length rB BL, vB pC BO.length rC BO, vB xD XL.length yD XL, vB xE XL.length yE XL]) wj w') := grownB_fam FP.out (by simp) (fun x hx => by
    simp only [List.mem_cons, List.not_mem_nil, or_false] at hx
    rcases hx with rfl | rfl | rfl | rfl | rfl <;> first | (show (svals _).length ≤ _; rw [svals_len]; omega) | (show (bytesV _).length ≤ _; rw [bytesV_len]; omega))
  go_wp2_with fail
  refine HG.out.mono ?_
  rintro e wk ⟨rfl, ht⟩
  have hb := touch_mem FP.out ht HLO.out.1
  replace HA1 := hid (strs_below HA1.out hb (fun g o e h => Nat.lt_of_lt_of_le (HIB.out g o e (by have := HOT.out; omega)) HLO.out.2))
  replace HB := hid (HB.out.trans (hb.mono HLO.out.2))
  replace HRM := hid (row_below HRM.out hb hgl)
  replace HLO : Hid (lo ≤ wk.heap.size ∧ W.heap.size ≤ lo) := ⟨Nat.le_trans HLO.out.1 hb.size, HLO.out.2⟩
  clear ht hb HG FP
  go_wp2_with fail
  have v0 : Below wk.heap.size wk wk.drew := below_drewN (Below.refl _ wk) 1
  refine wp_region_noPanic ?_
  refine wp_region_held_drew (S := fun V => Below wk.heap.size wk V) (by kernel_rfl) (v0) (fun hHeld0 => ?_)
  refine wpAnyH_take (i := 0) (oi := { dst := some 213, op := Op.move (Operand.tmp 6), type := 22, pos := "outright.go:451", after := #[], guard := none }) (v := ?_) rfl (by kernel_rfl) (by kernel_rfl) (by kernel_rfl) (fun _ _ _ h => h) (Or.inl ⟨by rfl, ?_⟩) (by assumption) ?_
  rotate_left
  · intro W hSw
    try dsimp only at hSw
    go_simp
    try with_reducible rfl
  try simp only [Act.put, List.setIfInBounds_toArray, List.set_cons_zero, List.set_cons_succ]
  refine wpAnyH_take (i := 1) (oi := { dst := some 214, op := Op.move (Operand.tmp 5), type := 3, pos := "outright.go:451", after := #[], guard := none }) (v := ?_) rfl (by kernel_rfl) (by kernel_rfl) (by kernel_rfl) (fun _ _ _ h => h) (Or.inl ⟨by rfl, ?_⟩) (by assumption) ?_
  rotate_left
  · intro W hSw
    try dsimp only at hSw
    go_simp
    try with_reducible rfl
  try simp only [Act.put, List.setIfInBounds_toArray, List.set_cons_zero, List.set_cons_succ]
  refine wpAnyH_take (i := 2) (oi := { dst := some 215, op := Op.slice 22 (Operand.tmp 213) none (some (Operand.tmp 214)) none, type := 22, pos := "outright.go:451", after := #[{ on := 0, ground := Ground.data }, { on := 1, ground := Ground.data }], guard := none }) (v := ?_) rfl (by kernel_rfl) (by kernel_rfl) (by kernel_rfl) (fun _ _ _ h => h) (Or.inl ⟨by rfl, ?_⟩) (by assumption) ?_
  rotate_left
  · intro W hSw
    try dsimp only at hSw
    go_simp
    try with_reducible rfl
  try simp only [Act.put, List.setIfInBounds_toArray, List.set_cons_zero, List.set_cons_succ]
  refine wpAnyH_take (i := 3) (oi := { dst := some 216, op := Op.move (Operand.tmp 1), type := 22, pos := "outright.go:451", after := #[], guard := none }) (v := ?_) rfl (by kernel_rfl) (by kernel_rfl) (by kernel_rfl) (fun _ _ _ h => h) (Or.inl ⟨by rfl, ?_⟩) (by assumption) ?_
  rotate_left
  · intro W hSw
    try dsimp only at hSw
    go_simp
    try with_reducible rfl
  try simp only [Act.put, List.setIfInBounds_toArray, List.set_cons_zero, List.set_cons_succ]
  refine wpAnyH_take (i := 4) (oi := { dst := some 217, op := Op.move (Operand.tmp 5), type := 3, pos := "outright.go:451", after := #[], guard := none }) (v := ?_) rfl (by kernel_rfl) (by kernel_rfl) (by kernel_rfl) (fun _ _ _ h => h) (Or.inl ⟨by rfl, ?_⟩) (by assumption) ?_
  rotate_left
  · intro W hSw
    try dsimp only at hSw
    go_simp
    try with_reducible rfl
  try simp only [Act.put, List.setIfInBounds_toArray, List.set_cons_zero, List.set_cons_succ]
  refine wpAnyH_take (i := 5) (oi := { dst := some 218, op := Op.slice 22 (Operand.tmp 216) none (some (Operand.tmp 217)) none, type := 22, pos := "outright.go:451", after := #[{ on := 3, ground := Ground.data }, { on := 4, ground := Ground.data }], guard := none }) (v := ?_) rfl (by kernel_rfl) (by kernel_rfl) (by kernel_rfl) (fun _ _ _ h => h) (Or.inl ⟨by rfl, ?_⟩) (by assumption) ?_
  rotate_left
  · intro W hSw
    try dsimp only at hSw
    go_simp
    try with_reducible rfl
  try simp only [Act.put, List.setIfInBounds_toArray, List.set_cons_zero, List.set_cons_succ]
  refine wpAnyH_ready (rs := [6]) (by kernel_rfl) (by simp) ?_
  refine AllReadyH.cons (o := { dst := some 219, op := Op.call { callee := Callee.value (Operand.func 14), args := #[Operand.tmp 215, Operand.tmp 218], argTypes := #[22, 22] }, type := 4, pos := "outright.go:451", after := #[{ on := 2, ground := Ground.data }, { on := 5, ground := Ground.data }], guard := none }) rfl (fun K hK => ?_) AllReadyH.nil
  rw [if_pos (by rfl)]
  go_simp
  refine (HRD.out (some ⟨g, 0, none⟩) c a1 c1 _ (HSB.out _ (row_later HRM.out v0)).1 (HA1.out.later v0) (fun e => by cases e) HNO.out).mono ?_
  rintro e wl ⟨rfl, hl⟩
  have v1 : Below wk.heap.size wk wl := below_up v0 hl
  clear hl
  refine hK.out _ _ (v1) (fun hHeld1 => ?_)
  clear hK K hHeld0
  try simp only [Act.put, List.setIfInBounds_toArray, List.set_cons_zero, List.set_cons_succ]
  refine wpAnyH_take (i := 7) (oi := { dst := some 220, op := Op.unOp UnOp.not 4 (Operand.tmp 219), type := 4, pos := "outright.go:451", after := #[{ on := 6, ground := Ground.data }], guard := none }) (v := ?_) rfl (by kernel_rfl) (by kernel_rfl) (by kernel_rfl) (fun _ _ _ h => h) (Or.inl ⟨by rfl, ?_⟩) (by assumption) ?_
  rotate_left
  · intro W hSw
    try dsimp only at hSw
    go_simp
    try with_reducible rfl
  try simp only [Act.put, List.setIfInBounds_toArray, List.set_cons_zero, List.set_cons_succ]
  refine wpAnyH_done (by kernel_rfl) ?_ _
  refine NoPanic.normal ?_
  clear hHeld1
  have hb := v1
  clear v0 v1 HRD
  replace HA1 := hid (HA1.out.later hb)
  replace HB := hid (below_up HB.out hb)
  replace HRM := hid (row_later HRM.out hb)
  clear hb
  have HQ0 := hid (HPL.out (some ⟨g, 0, none⟩) c wl (HSB.out wl HRM.out).1)
  go_wp2_with fail
  refine HQ0.out.mono ?_
  rintro e wn ⟨p5, r5, rfl, -, hb⟩
  replace HA1 := hid (HA1.out.later hb)
  replace HB := hid (below_up HB.out hb)
  replace HRM := hid (row_later HRM.out hb)
  clear hb HQ0
  have HI : Hid (∃ R : List ByteArray, R.length = n + 2 ∧ R.take 0 = ot.take 0 ∧ wn.ownsRow W.heap.size 9 1 (.slice (some ⟨g, 0, none⟩) (n + 2) c) (svals R).length (svals R)) := ⟨lt ++ t2, by rw [List.length_append, HLT.out]; rfl, rfl, HRM.out⟩
  clear HRM HLO HSB HBL HPL
  go_wp2_with fail
  go_loopw [27] (fun y wr => ∃ i : Nat, i ≤ n ∧ y = .int .i64 (i : Int) ∧ Hid ((∃ R : List ByteArray, R.length = n + 2 ∧ R.take i = ot.take i ∧ wr.ownsRow W.heap.size 9 1 (.slice (some ⟨g, 0, none⟩) (n + 2) c) (svals R).length (svals R)) ∧ Strs wr a1 ot ∧ Below W.heap.size W wr)) (fun y _ => n - (intOf y).toNat)
  case atStart => exact ⟨0, Nat.zero_le _, rfl, HI.out, HA1.out, HB.out⟩
  case round =>
    clear HI HA1 HB
    obtain ⟨i, hi, rfl, HJ⟩ := hrel
    by_cases hlt : i < n
    · have hii : (i : Int) < (n : Int) := by omega
      have hio : (i : Int) < (o0.length : Int) := by omega
      obtain ⟨⟨R, r1, r2, r3⟩, j2, j3⟩ := HJ.out
      have hil : i < (svals R).length := by rw [svals_len, r1]; omega
      obtain ⟨g', c', hv, s1, s2, s3, s4, s5, s6⟩ := row_store r3 hil
      simp only [Value.slice.injEq] at hv
      obtain ⟨hv1, -, -⟩ := hv
      cases hv1
      obtain ⟨xv, hxv⟩ : ∃ xv, wr.cell? ⟨g, i, none⟩ = some xv := ⟨_, s3⟩
      have hiot : i < ot.length := by rw [HOT.out]; exact hlt
      obtain ⟨gq, oq, rfl, hgq, hcq⟩ := j2 i _ (List.getElem?_eq_getElem hiot)
      have hne : gq ≠ g := fun e => by have := HIB.out gq oq rfl (by omega); have := HG3.out; omega
      have HN : Hid ((∃ R : List ByteArray, R.length = n + 2 ∧ R.take (i + 1) = ot.take (i + 1) ∧ (wr.setCell ⟨g, i, none⟩ (.string ot[i])).ownsRow W.heap.size 9 1 (.slice (some ⟨g, 0, none⟩) (n + 2) c) (svals R).length (svals R)) ∧ Strs (wr.setCell ⟨g, i, none⟩ (.string ot[i])) (some ⟨gq, oq, none⟩) ot ∧ Below W.heap.size W (wr.setCell ⟨g, i, none⟩ (.string ot[i]))) := by
        refine ⟨⟨R.set i ot[i], by rw [List.length_set]; exact r1, ?_, ?_⟩, ?_, j3.setCell s1 _⟩
        · have h1 : (R.set i ot[i]).take (i + 1) = R.take i ++ [ot[i]] := by
            rw [List.take_add_one, List.take_set_of_le (Nat.le_refl _), List.getElem?_set_self (by omega)]; rfl
          have h2 : ot.take (i + 1) = ot.take i ++ [ot[i]] := by
            rw [List.take_add_one, List.getElem?_eq_getElem hiot]; rfl
          rw [h1, h2, r2]
        · have := s6 (.string ot[i])
          rw [svals_set] at this
          rw [show (svals (R.set i ot[i])).length = (svals R).length by rw [svals_len, svals_len, List.length_set]]
          exact this
        · intro j s hj
          obtain ⟨g2, o2, e2, h2, h3⟩ := j2 j s hj
          cases e2
          refine ⟨gq, oq, rfl, Nat.lt_of_lt_of_le h2 ((Below.refl 0 wr).setCell (p := ⟨g, i, none⟩) (Nat.zero_le _) _).size, ?_⟩
          rw [World.cell?_setCell_far _ _ _ _ (fun e => hne e.symm)]
          exact h3
      clear HJ r1 r2 r3 j2 j3 s1 s2 s3 s5 s6 hil
      generalize ot[i] = z at *
      go_wp2_with fail
      exact ⟨⟨i + 1, by omega, by go_num, HN⟩, by simp [intOf]; omega⟩
    · obtain rfl : i = n := by omega
      obtain ⟨⟨R, r1, r2, r3⟩, j2, j3⟩ := HJ.out
      have hRB : Hid (∀ wx, wx.ownsRow W.heap.size 9 1 (.slice (some ⟨g, 0, none⟩) (i + 2) c) (svals R).length (svals R) → Strs wx (some ⟨g, 0, none⟩) ot) := fun wx h => by
        have h1 := row_strs r1 h
        have h2 : R = ot ++ R.drop i := by
          conv => lhs; rw [← List.take_append_drop i R]
          rw [r2, List.take_of_length_le (by rw [HOT.out]; omega)]
        rw [h2] at h1
        exact strs_front h1
      have HRM := hid r3
      have HA1 := hid j2
      have HB := hid j3
      clear HJ r1 r2 r3 j2 j3
      rename World => wr
      have hii : ¬ (i : Int) < (i : Int) := by omega
      have HQ0 := hid (HPO.out (some ⟨g, 0, none⟩) c wr (hRB.out wr HRM.out))
      go_wp2_with fail
      refine HQ0.out.mono ?_
      rintro e wo ⟨p6, r6, rfl, hp, hb⟩
      replace HA1 := hid (HA1.out.later hb)
      replace HB := hid (below_up HB.out hb)
      replace HRM := hid (row_later HRM.out hb)
      have HP6 := hid hp
      clear hp hb HQ0
      have HQ0 := hid (HTO.out wo HA1.out)
      go_wp2_with fail
      refine HQ0.out.mono ?_
      rintro e wq ⟨v0, rfl, h0, hb⟩
      obtain ⟨at0, ct0, rfl, s0⟩ := form_nS h0 HOT.out
      replace HA1 := hid (HA1.out.later hb)
      replace HB := hid (below_up HB.out hb)
      replace HRM := hid (row_later HRM.out hb)
      replace HP6 := hid (row_later HP6.out hb)
      clear h0 hb HQ0
      have HQ0 := hid (HPO.out at0 ct0 wq s0)
      clear s0
      go_wp2_with fail
      refine HQ0.out.mono ?_
      rintro e ws ⟨p7, r7, rfl, hp, hb⟩
      replace HA1 := hid (HA1.out.later hb)
      replace HB := hid (below_up HB.out hb)
      replace HRM := hid (row_later HRM.out hb)
      replace HP6 := hid (row_later HP6.out hb)
      have q1 := row_conv rfl HP6.out
      have q2 := row_conv rfl hp
      clear hp hb HQ0 HA1 HRM hRB HP6
      go_wp2_with fail
      go_ret
      exact ⟨ret_bool (by simp), HB.out⟩
end Go.Proofs.YtcbmhpdhbmjocaaGreat.Ow
