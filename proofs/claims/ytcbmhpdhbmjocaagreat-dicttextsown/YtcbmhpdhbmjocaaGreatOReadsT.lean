/-
  The law's readsTexts: the walk. (Written by mkreads9T.py.)
-/
import Derived.Test.YtcbmhpdhbmjocaaGreatOBaseT
namespace Go.Proofs.YtcbmhpdhbmjocaaGreat.Ow
open Go.ChangeShapes Go.WideShapes Go.ChangeAt Go.RowKit Cu

def t3 : List Nat := [201, 202, 203]
theorem str_t3 (P : List Nat) : strL (P ++ t3) = strL P ++ ⟨#[201, 202, 203]⟩ := by rw [← strL_append]; rfl
theorem new_t3 (w : World) : Bytes (w.alloc (.cells #[.int .u8 201, .int .u8 202, .int .u8 203] 5)) (some ⟨w.heap.size, 0, none⟩) t3 := fun j hj => by
  refine ⟨w.heap.size, 0, rfl, by simp, ?_⟩
  rw [cell_of_row _ _ _ _ _ _ (heap_new w _)]
  match j, hj with
  | 0, _ => rfl
  | 1, _ => rfl
  | 2, _ => rfl
set_option maxRecDepth 8000 in
set_option maxHeartbeats 16000000 in
theorem readsT_any (n : Nat) (L O : List ByteArray) (P Q : List Nat) (K1 K2 : List ByteArray) (W1 W2 : Nat) (X1 X2 : List Nat)
    (hP1 : ∀ a c w, Strs w a L → Calls Tryz.prog 8 #[.slice a n c] w fun e w' => PTt w P e w')
    (hP2 : ∀ a c w, Strs w a O → Calls Tryz.prog 8 #[.slice a n c] w fun e w' => PTt w Q e w')
    (hR1 : ∀ a c w, Bytes w a P → (a = none → P.length = 0 ∧ c = 0) → Calls Tryz.prog 9 #[.slice a P.length c, .int .i64 (n : Int)] w fun e w' => RDt w K1 W1 X1 e w')
    (hR2 : ∀ a c w, Bytes w a Q → (a = none → Q.length = 0 ∧ c = 0) → Calls Tryz.prog 9 #[.slice a Q.length c, .int .i64 (n : Int)] w fun e w' => RDt w K2 W2 X2 e w')
    (hlp : P.length ≤ 5000000000) (hlq : Q.length ≤ 5000000000) (hk1 : K1.length ≤ 1000000) (hk2 : K2.length ≤ 1000000) (hx1 : X1.length ≤ 1000000000) (hx2 : X2.length ≤ 1000000000)
    (hLn : L.length = n) (hOn : O.length = n) (hn : n ≤ 1000)
    (a0 : Option Addr) (c0 : Nat) (a1 : Option Addr) (c1 : Nat) (w : World) (hL : Strs w a0 L) (hO : Strs w a1 O) (z0 : a0 = none → n = 0 ∧ c0 = 0) (z1 : a1 = none → n = 0 ∧ c1 = 0) :
    Calls Tryz.prog 14 #[.slice a0 n c0, .slice a1 n c1] w fun e w' => e = .returned (.bool true) ∧ Below w.heap.size w w' := by
  have HR1 := hid hR1
  have HR2 := hid hR2
  have HP1 := hid hP1
  have HP2 := hid hP2
  have HTL := hid (fun wx (h : Strs wx a0 L) => Tx.texts_any a0 L c0 wx h (by rw [hLn]; exact z0) (by omega))
  have HTO := hid (fun wx (h : Strs wx a1 O) => Tx.texts_any a1 O c1 wx h (by rw [hOn]; exact z1) (by omega))
  rw [hLn] at HTL
  rw [hOn] at HTO
  have HLN := hid hLn
  have HON := hid hOn
  have HL := hid hL
  have HO := hid hO
  clear hR1 hR2 hP1 hP2 hL hO z0 z1 hLn hOn
  go_enter Tryz.func14, Tryz.ntmps14
  have HQ0 := hid (HTL.out w HL.out)
  go_wp2_with fail
  refine HQ0.out.mono ?_
  rintro e u1 ⟨v0, rfl, h0, hb⟩
  obtain ⟨at0, ct0, rfl, s0⟩ := form_nS h0 HLN.out
  have HB := hid hb
  replace HO := hid (HO.out.later hb)
  clear h0 hb HQ0 HL HTL
  have HQ0 := hid (HP1.out at0 ct0 u1 s0)
  clear s0
  go_wp2_with fail
  refine HQ0.out.mono ?_
  rintro e u2 ⟨ap, cp, rfl, hp, hb⟩
  have HPR := hid hp
  replace HB := hid (below_up HB.out hb)
  replace HO := hid (HO.out.later hb)
  clear hp hb HQ0 HP1
  have HQ0 := hid (HTO.out u2 HO.out)
  go_wp2_with fail
  refine HQ0.out.mono ?_
  rintro e u3 ⟨v0, rfl, h0, hb⟩
  obtain ⟨at1, ct1, rfl, s0⟩ := form_nS h0 HON.out
  replace HB := hid (below_up HB.out hb)
  replace HPR := hid (row_later HPR.out hb)
  clear h0 hb HQ0 HO HTO
  have HQ0 := hid (HP2.out at1 ct1 u3 s0)
  clear s0
  go_wp2_with fail
  refine HQ0.out.mono ?_
  rintro e u ⟨aq, cq, rfl, hq, hb⟩
  replace HB := hid (below_up HB.out hb)
  have hP := row_bytes rfl (row_later HPR.out hb)
  have hQ := row_bytes rfl hq
  have zp : ap = none → P.length = 0 ∧ cp = 0 := by
    obtain ⟨a', c', hv, _, _, h5⟩ := (row_own HPR.out).form
    simp only [Value.slice.injEq] at hv
    obtain ⟨rfl, -, rfl⟩ := hv
    exact h5
  have zq : aq = none → Q.length = 0 ∧ cq = 0 := by
    obtain ⟨a', c', hv, _, _, h5⟩ := (row_own hq).form
    simp only [Value.slice.injEq] at hv
    obtain ⟨rfl, -, rfl⟩ := hv
    exact h5
  have HT := hid (twin_any ap P cp u hP zp (by omega))
  have HTQ := hid (fun wx (h : Bytes wx aq Q) => twin_any aq Q cq wx h zq (by omega))
  have HP := hid hP
  have HQ := hid hQ
  have HPB0 : Hid (∀ g o, P ≠ [] → ap = some ⟨g, o, none⟩ → g < u.heap.size) := fun g o hne e => by
    obtain ⟨g', o', e', h', _⟩ := hP 0 (List.length_pos_iff.2 hne)
    rw [e] at e'
    cases e'
    exact h'
  have HQB0 : Hid (∀ g o, Q ≠ [] → aq = some ⟨g, o, none⟩ → g < u.heap.size) := fun g o hne e => by
    obtain ⟨g', o', e', h', _⟩ := hQ 0 (List.length_pos_iff.2 hne)
    rw [e] at e'
    cases e'
    exact h'
  have HWU : Hid (w.heap.size ≤ u.heap.size) := HB.out.size
  clear hP hQ zp zq hq hb HQ0 HP2 HPR
  go_wp2_with fail
  refine HT.out.mono ?_
  rintro e w1 ⟨v1, rfl, h1⟩
  have bA := below_new w1 (.cells #[.int .u8 201, .int .u8 202, .int .u8 203] 5)
  obtain ⟨v2, w2, hr2, o2, b2⟩ := run_appL (c := 3) (h1.1.later bA) (new_t3 w1) (fun e => by cases e) (by simp [t3]; omega) (by have := h1.2.size; have := bA.size; omega)
  have hb2 : Below u.heap.size u w2 := b2 u (below_up h1.2 bA)
  have hrow := own_row o2
  obtain ⟨g, c, hv, hg1, hg2, -, -, -, -⟩ := row_store hrow (i := P.length) (by rw [bytesV_len]; simp [t3])
  have hl3 : (bytesV (P ++ t3)).length = P.length + 3 := by rw [bytesV_len]; simp [t3]
  rw [hl3] at hv
  subst hv
  have hcc : P.length + 3 ≤ c ∧ c ≤ maxLen := by
    obtain ⟨a', c', hv, h1, h2, _⟩ := o2.form
    simp only [Value.slice.injEq] at hv
    obtain ⟨-, -, rfl⟩ := hv
    have : (P ++ t3).length = P.length + 3 := by simp [t3]
    omega
  have HM : Hid (c ≤ maxLen) := hcc.2
  have hc1 : (P.length : Int) ≤ (c : Int) := by omega
  have hc2 : (P.length : Int) + 3 ≤ (c : Int) := by omega
  have hR2' := hid hr2
  replace HB := hid (below_up HB.out hb2)
  have HRM := hid hrow
  replace HP := hid (HP.out.later hb2)
  replace HQ := hid (HQ.out.later hb2)
  clear hr2 hb2 hrow b2 o2 bA h1 HT hcc
  go_wp2_with (at_builtin; refine wpList_app (by rfl) (by rfl) hR2'.out ?_; clear hR2')
  obtain ⟨lo, hlo⟩ : ∃ lo, w2.heap.size = lo := ⟨_, rfl⟩
  have hgl : g < lo := by omega
  have HLO : Hid (lo ≤ w2.heap.size ∧ w.heap.size ≤ lo) := ⟨by omega, by have := HB.out.size; omega⟩
  have FK : Hid (Fam w2 9 lo w2.heap.size []) := Fam.nil w2 9 lo
  have FX : Hid (Fam w2 5 lo w2.heap.size []) := Fam.nil w2 5 lo
  have HSB : Hid (∀ wx, wx.ownsRow u.heap.size 5 1 (.slice (some ⟨g, 0, none⟩) (P.length + 3) c) (bytesV (P ++ t3)).length (bytesV (P ++ t3)) → Bytes wx (some ⟨g, 0, none⟩) P ∧ (convert 29 9 (.slice (some ⟨g, 0, none⟩) (P.length + 3) c)).run Tryz.prog wx = .ok (.string (strL P ++ ⟨#[201, 202, 203]⟩)) wx) := fun wx h => by
    have h1 : (P ++ t3).length = P.length + 3 := by simp [t3]
    refine ⟨bytes_front (row_bytes h1 h), ?_⟩
    rw [← str_t3]
    exact row_conv h1 h
  have HG3 : Hid (u.heap.size ≤ g) := hg1
  have HU : Hid (u.heap.size ≤ lo) := by show _ ≤ _; omega
  have HPB : Hid (∀ g o, P ≠ [] → ap = some ⟨g, o, none⟩ → g < lo) := fun g o hne e => Nat.lt_of_lt_of_le (HPB0.out g o hne e) HU.out
  have HQB : Hid (∀ g o, Q ≠ [] → aq = some ⟨g, o, none⟩ → g < lo) := fun g o hne e => Nat.lt_of_lt_of_le (HQB0.out g o hne e) HU.out
  have hsz : (strL P).size ≤ 5000000000 := by rw [strL_size]; exact hlp
  obtain ⟨sP, hsP⟩ : ∃ sP, strL P = sP := ⟨_, rfl⟩
  rw [hsP] at hsz HSB
  have HSP := hid hsP
  clear hlo hg1 hg2 hsP
  have HQ0 := hid (HR1.out (some ⟨g, 0, none⟩) c w2 (HSB.out w2 HRM.out).1 (fun e => by cases e))
  go_wp2_with fail
  refine HQ0.out.mono ?_
  rintro e w3 ⟨kA, dA, xA, yA, rfl, hk, hx, hb⟩
  replace FK : Hid (Fam w3 9 lo w3.heap.size [vS kA K1.length dA K1]) := FK.out.snoc hb hk HLO.out.1
  replace FX : Hid (Fam w3 5 lo w3.heap.size [vB xA X1.length yA X1]) := FX.out.snoc hb hx HLO.out.1
  replace HP := hid (HP.out.later hb)
  replace HQ := hid (HQ.out.later hb)
  replace HB := hid (below_up HB.out hb)
  replace HRM := hid (row_later HRM.out hb)
  replace HLO : Hid (lo ≤ w3.heap.size ∧ w.heap.size ≤ lo) := ⟨Nat.le_trans HLO.out.1 hb.size, HLO.out.2⟩
  clear hk hx hb HQ0
  have HQ0 := hid (HTQ.out w3 HQ.out)
  go_wp2_with fail
  refine HQ0.out.mono ?_
  rintro e w4 ⟨v0, rfl, h0⟩
  obtain ⟨at0, ct0, rfl, n0, s0⟩ := h0.form
  have hb := h0.2
  replace FK := hid (FK.out.later hb)
  replace FX := hid (FX.out.later hb)
  replace HP := hid (HP.out.later hb)
  replace HQ := hid (HQ.out.later hb)
  replace HB := hid (below_up HB.out hb)
  replace HRM := hid (row_later HRM.out hb)
  replace HLO : Hid (lo ≤ w4.heap.size ∧ w.heap.size ≤ lo) := ⟨Nat.le_trans HLO.out.1 hb.size, HLO.out.2⟩
  have HN0 := hid n0
  have HS0 := hid s0
  clear h0 n0 s0 hb HQ0
  have HQ0 := hid (HR2.out at0 ct0 w4 HS0.out HN0.out)
  go_wp2_with fail
  refine HQ0.out.mono ?_
  rintro e w5 ⟨kB, dB, xB, yB, rfl, hk, hx, hb⟩
  replace FK : Hid (Fam w5 9 lo w5.heap.size [vS kA K1.length dA K1, vS kB K2.length dB K2]) := FK.out.snoc hb hk HLO.out.1
  replace FX : Hid (Fam w5 5 lo w5.heap.size [vB xA X1.length yA X1, vB xB X2.length yB X2]) := FX.out.snoc hb hx HLO.out.1
  replace HP := hid (HP.out.later hb)
  replace HQ := hid (HQ.out.later hb)
  replace HB := hid (below_up HB.out hb)
  replace HRM := hid (row_later HRM.out hb)
  replace HLO : Hid (lo ≤ w5.heap.size ∧ w.heap.size ≤ lo) := ⟨Nat.le_trans HLO.out.1 hb.size, HLO.out.2⟩
  clear hk hx hb HQ0
  clear HS0 HN0
  have HQ0 := hid (HR1.out (some ⟨g, 0, none⟩) c w5 (HSB.out w5 HRM.out).1 (fun e => by cases e))
  go_wp2_with fail
  refine HQ0.out.mono ?_
  rintro e w6 ⟨kC, dC, xC, yC, rfl, hk, hx, hb⟩
  replace FK : Hid (Fam w6 9 lo w6.heap.size [vS kA K1.length dA K1, vS kB K2.length dB K2, vS kC K1.length dC K1]) := FK.out.snoc hb hk HLO.out.1
  replace FX : Hid (Fam w6 5 lo w6.heap.size [vB xA X1.length yA X1, vB xB X2.length yB X2, vB xC X1.length yC X1]) := FX.out.snoc hb hx HLO.out.1
  replace HP := hid (HP.out.later hb)
  replace HQ := hid (HQ.out.later hb)
  replace HB := hid (below_up HB.out hb)
  replace HRM := hid (row_later HRM.out hb)
  replace HLO : Hid (lo ≤ w6.heap.size ∧ w.heap.size ≤ lo) := ⟨Nat.le_trans HLO.out.1 hb.size, HLO.out.2⟩
  clear hk hx hb HQ0
  have HQ0 := hid (HR1.out (some ⟨g, 0, none⟩) c w6 (HSB.out w6 HRM.out).1 (fun e => by cases e))
  go_wp2_with fail
  refine HQ0.out.mono ?_
  rintro e w7 ⟨kD, dD, xD, yD, rfl, hk, hx, hb⟩
  replace FK : Hid (Fam w7 9 lo w7.heap.size [vS kA K1.length dA K1, vS kB K2.length dB K2, vS kC K1.length dC K1, vS kD K1.length dD K1]) := FK.out.snoc hb hk HLO.out.1
  replace FX : Hid (Fam w7 5 lo w7.heap.size [vB xA X1.length yA X1, vB xB X2.length yB X2, vB xC X1.length yC X1, vB xD X1.length yD X1]) := FX.out.snoc hb hx HLO.out.1
  replace HP := hid (HP.out.later hb)
  replace HQ := hid (HQ.out.later hb)
  replace HB := hid (below_up HB.out hb)
  replace HRM := hid (row_later HRM.out hb)
  replace HLO : Hid (lo ≤ w7.heap.size ∧ w.heap.size ≤ lo) := ⟨Nat.le_trans HLO.out.1 hb.size, HLO.out.2⟩
  clear hk hx hb HQ0
  have HQ0 := hid (Tx.sameTexts_any kA kC K1 K1 dA dC w7 (row_strs rfl (FK.out.each (vS kA K1.length dA K1) (by simp))) (row_strs rfl (FK.out.each (vS kC K1.length dC K1) (by simp))) (by omega) (by omega))
  rw [show decide (K1 = K1) = true by simp] at HQ0
  go_wp2_with fail
  refine HQ0.out.mono ?_
  rintro e w8 ⟨rfl, jq, hq⟩
  have hb : Below w7.heap.size w7 w8 := by rw [hq]; exact below_drewN (Below.refl _ _) _
  clear hq HQ0
  replace FK := hid (FK.out.later hb)
  replace FX := hid (FX.out.later hb)
  replace HP := hid (HP.out.later hb)
  replace HQ := hid (HQ.out.later hb)
  replace HB := hid (below_up HB.out hb)
  replace HRM := hid (row_later HRM.out hb)
  replace HLO : Hid (lo ≤ w8.heap.size ∧ w.heap.size ≤ lo) := ⟨Nat.le_trans HLO.out.1 hb.size, HLO.out.2⟩
  clear hb
  have HQ0 := hid (Tx.sameTexts_any kA kD K1 K1 dA dD w8 (row_strs rfl (FK.out.each (vS kA K1.length dA K1) (by simp))) (row_strs rfl (FK.out.each (vS kD K1.length dD K1) (by simp))) (by omega) (by omega))
  rw [show decide (K1 = K1) = true by simp] at HQ0
  go_wp2_with fail
  refine HQ0.out.mono ?_
  rintro e w9 ⟨rfl, jq, hq⟩
  have hb : Below w8.heap.size w8 w9 := by rw [hq]; exact below_drewN (Below.refl _ _) _
  clear hq HQ0
  replace FK := hid (FK.out.later hb)
  replace FX := hid (FX.out.later hb)
  replace HP := hid (HP.out.later hb)
  replace HQ := hid (HQ.out.later hb)
  replace HB := hid (below_up HB.out hb)
  replace HRM := hid (row_later HRM.out hb)
  replace HLO : Hid (lo ≤ w9.heap.size ∧ w.heap.size ≤ lo) := ⟨Nat.le_trans HLO.out.1 hb.size, HLO.out.2⟩
  clear hb
  have q1 := row_conv rfl (FX.out.each (vB xA X1.length yA X1) (by simp))
  have q2 := row_conv rfl (FX.out.each (vB xC X1.length yC X1) (by simp))
  have q3 := row_conv rfl (FX.out.each (vB xD X1.length yD X1) (by simp))
  have q4 := (HSB.out w9 HRM.out).2
  have q5 := run_strL cp HP.out
  rw [HSP.out] at q5
  go_wp2_with fail
  clear q1 q2 q3 q4 q5
  have HG : Hid (Calls Tryz.prog 12 #[.slice (some ⟨w9.heap.size, 0, none⟩) 4 4] (w9.alloc (.cells #[.slice kA K1.length dA, .slice kB K2.length dB, .slice kC K1.length dC, .slice kD K1.length dD] 22)) fun e w' => e = .returned (.bool true) ∧ Touch (memF [vS kA K1.length dA K1, vS kB K2.length dB K2, vS kC K1.length dC K1, vS kD K1.length dD K1]) w9 w') := grownS_fam FK.out (by simp) (fun x hx => by
    simp only [List.mem_cons, List.not_mem_nil, or_false] at hx
    rcases hx with rfl | rfl | rfl | rfl <;> first | (show (svals _).length ≤ _; rw [svals_len]; omega) | (show (bytesV _).length ≤ _; rw [bytesV_len]; omega))
  go_wp2_with fail
  refine HG.out.mono ?_
  rintro e wa ⟨rfl, ht⟩
  have hb := touch_mem FK.out ht HLO.out.1
  replace FX := hid (FX.out.touch ht (FX.out.offF FK.out (by decide)))
  replace HP := hid (bytes_below HP.out hb HPB.out)
  replace HQ := hid (bytes_below HQ.out hb HQB.out)
  replace HB := hid (HB.out.trans (hb.mono HLO.out.2))
  replace HRM := hid (row_below HRM.out hb hgl)
  replace HLO : Hid (lo ≤ wa.heap.size ∧ w.heap.size ≤ lo) := ⟨Nat.le_trans HLO.out.1 hb.size, HLO.out.2⟩
  clear ht hb HG FK
  have HG : Hid (Calls Tryz.prog 13 #[.slice (some ⟨wa.heap.size, 0, none⟩) 4 4] (wa.alloc (.cells #[.slice xA X1.length yA, .slice xB X2.length yB, .slice xC X1.length yC, .slice xD X1.length yD] 29)) fun e w' => e = .returned (.bool true) ∧ Touch (memF [vB xA X1.length yA X1, vB xB X2.length yB X2, vB xC X1.length yC X1, vB xD X1.length yD X1]) wa w') := grownB_fam FX.out (by simp) (fun x hx => by
    simp only [List.mem_cons, List.not_mem_nil, or_false] at hx
    rcases hx with rfl | rfl | rfl | rfl <;> first | (show (svals _).length ≤ _; rw [svals_len]; omega) | (show (bytesV _).length ≤ _; rw [bytesV_len]; omega))
  go_wp2_with fail
  refine HG.out.mono ?_
  rintro e wb ⟨rfl, ht⟩
  have hb := touch_mem FX.out ht HLO.out.1
  replace HP := hid (bytes_below HP.out hb HPB.out)
  replace HQ := hid (bytes_below HQ.out hb HQB.out)
  replace HB := hid (HB.out.trans (hb.mono HLO.out.2))
  replace HRM := hid (row_below HRM.out hb hgl)
  replace HLO : Hid (lo ≤ wb.heap.size ∧ w.heap.size ≤ lo) := ⟨Nat.le_trans HLO.out.1 hb.size, HLO.out.2⟩
  clear ht hb HG FX
  have q4 := (HSB.out wb HRM.out).2
  have q5 := run_strL cp HP.out
  rw [HSP.out] at q5
  by_cases hpq : Q.length = P.length
  case neg =>
    have hpqb : ((Q.length : Int) != (P.length : Int)) = true := by simp; omega
    go_wp2_with fail
    go_ret
    exact ⟨rfl, HB.out⟩
  have hpqb : ((Q.length : Int) != (P.length : Int)) = false := by rw [hpq]; simp
  go_wp2_with fail
  clear q4 q5
  have HQ0 := hid (HR1.out (some ⟨g, 0, none⟩) c wb (HSB.out wb HRM.out).1 (fun e => by cases e))
  refine HQ0.out.mono ?_
  rintro e wc ⟨k5, d5, x5, y5, rfl, -, -, hb⟩
  replace HP := hid (HP.out.later hb)
  replace HQ := hid (HQ.out.later hb)
  replace HB := hid (below_up HB.out hb)
  replace HRM := hid (row_later HRM.out hb)
  replace HLO : Hid (lo ≤ wc.heap.size ∧ w.heap.size ≤ lo) := ⟨Nat.le_trans HLO.out.1 hb.size, HLO.out.2⟩
  clear hb HQ0
  have HI : Hid (∃ R : List Nat, R.length = P.length + 3 ∧ R.take 0 = Q.take 0 ∧ wc.ownsRow u.heap.size 5 1 (.slice (some ⟨g, 0, none⟩) (P.length + 3) c) (bytesV R).length (bytesV R)) := ⟨P ++ t3, by simp [t3], rfl, HRM.out⟩
  clear HRM
  go_wp2_with fail
  go_loopw [28] (fun y wr => ∃ i : Nat, i ≤ Q.length ∧ y = .int .i64 (i : Int) ∧ Hid ((∃ R : List Nat, R.length = P.length + 3 ∧ R.take i = Q.take i ∧ wr.ownsRow u.heap.size 5 1 (.slice (some ⟨g, 0, none⟩) (P.length + 3) c) (bytesV R).length (bytesV R)) ∧ Bytes wr aq Q ∧ Below w.heap.size w wr ∧ lo ≤ wr.heap.size)) (fun y _ => Q.length - (intOf y).toNat)
  case atStart => exact ⟨0, Nat.zero_le _, rfl, HI.out, HQ.out, HB.out, HLO.out.1⟩
  case round =>
    clear HI HQ HB HP
    obtain ⟨i, hi, rfl, HJ⟩ := hrel
    by_cases hlt : i < Q.length
    · have hii : (i : Int) < (Q.length : Int) := by omega
      have hip : (i : Int) < (P.length : Int) := by omega
      obtain ⟨⟨R, r1, r2, r3⟩, j2, j3, j4⟩ := HJ.out
      have hil : i < (bytesV R).length := by rw [bytesV_len, r1]; omega
      obtain ⟨g', c', hv, s1, s2, s3, s4, s5, s6⟩ := row_store r3 hil
      simp only [Value.slice.injEq] at hv
      obtain ⟨hv1, -, -⟩ := hv
      cases hv1
      obtain ⟨xv, hxv⟩ : ∃ xv, wr.cell? ⟨g, i, none⟩ = some xv := ⟨_, s3⟩
      obtain ⟨gq, oq, rfl, hgq, hcq⟩ := j2 i hlt
      have hne : gq ≠ g := fun e => by have := HQB0.out gq oq (fun e0 => by rw [e0] at hlt; simp at hlt) rfl; have := HG3.out; omega
      have HN : Hid ((∃ R : List Nat, R.length = P.length + 3 ∧ R.take (i + 1) = Q.take (i + 1) ∧ (wr.setCell ⟨g, i, none⟩ (.int .u8 ((ofL Q i : Nat) : Int))).ownsRow u.heap.size 5 1 (.slice (some ⟨g, 0, none⟩) (P.length + 3) c) (bytesV R).length (bytesV R)) ∧ Bytes (wr.setCell ⟨g, i, none⟩ (.int .u8 ((ofL Q i : Nat) : Int))) (some ⟨gq, oq, none⟩) Q ∧ Below w.heap.size w (wr.setCell ⟨g, i, none⟩ (.int .u8 ((ofL Q i : Nat) : Int))) ∧ lo ≤ (wr.setCell ⟨g, i, none⟩ (.int .u8 ((ofL Q i : Nat) : Int))).heap.size) := by
        refine ⟨⟨R.set i (ofL Q i), by rw [List.length_set]; exact r1, ?_, ?_⟩, ?_, j3.setCell (Nat.le_trans HWU.out s1) _, ?_⟩
        · have h1 : (R.set i (ofL Q i)).take (i + 1) = R.take i ++ [ofL Q i] := by
            rw [List.take_add_one, List.take_set_of_le (Nat.le_refl _), List.getElem?_set_self (by omega)]; rfl
          have h2 : Q.take (i + 1) = Q.take i ++ [ofL Q i] := by
            rw [List.take_add_one, ofL_in hlt]; rfl
          rw [h1, h2, r2]
        · have := s6 (.int .u8 ((ofL Q i : Nat) : Int))
          rw [bytesV_set] at this
          rw [show (bytesV (R.set i (ofL Q i))).length = (bytesV R).length by rw [bytesV_len, bytesV_len, List.length_set]]
          exact this
        · intro j hj
          obtain ⟨g2, o2, e2, h2, h3⟩ := j2 j hj
          cases e2
          refine ⟨gq, oq, rfl, Nat.lt_of_lt_of_le h2 ((Below.refl 0 wr).setCell (p := ⟨g, i, none⟩) (Nat.zero_le _) _).size, ?_⟩
          rw [World.cell?_setCell_far _ _ _ _ (fun e => hne e.symm)]
          exact h3
        · exact Nat.le_trans j4 ((Below.refl 0 wr).setCell (p := ⟨g, i, none⟩) (Nat.zero_le _) _).size
      clear HJ r1 r2 r3 j2 j3 j4 s1 s2 s3 s5 s6 hil
      generalize ofL Q i = z at *
      go_wp2_with fail
      exact ⟨⟨i + 1, by omega, by go_num, HN⟩, by simp [intOf]; omega⟩
    · obtain rfl : i = Q.length := by omega
      obtain ⟨⟨R, r1, r2, r3⟩, j2, j3, j4⟩ := HJ.out
      have hRB : Bytes wr (some ⟨g, 0, none⟩) Q := by
        have h1 := row_bytes r1 r3
        have h2 : R = Q ++ R.drop Q.length := by
          conv => lhs; rw [← List.take_append_drop Q.length R]
          rw [r2, List.take_of_length_le (Nat.le_refl _)]
        rw [h2] at h1
        exact bytes_front h1
      have HQ0 := hid (HR2.out (some ⟨g, 0, none⟩) c wr hRB (fun e => by cases e))
      rw [hpq] at HQ0
      have HQ := hid j2
      have HB := hid j3
      clear HJ r1 r2 r3 j2 j3 j4 hRB HSB HR1 HLO
      rename World => wr
      have hii : ¬ (Q.length : Int) < (Q.length : Int) := by omega
      go_wp2_with fail
      refine HQ0.out.mono ?_
      rintro e wd1 ⟨k6, d6, x6, y6, rfl, hk6, hx6, hb⟩
      replace HB := hid (below_up HB.out hb)
      replace HQ := hid (HQ.out.later hb)
      have HK6 := hid hk6
      have HX6 := hid hx6
      have HQ1 := hid (HTQ.out wd1 HQ.out)
      rw [hpq] at HQ1
      clear hb HQ0 hk6 hx6
      go_wp2_with fail
      refine HQ1.out.mono ?_
      rintro e we ⟨v0, rfl, h0⟩
      obtain ⟨at0, ct0, rfl, n0, s0⟩ := h0.form
      have hb := h0.2
      replace HB := hid (below_up HB.out hb)
      replace HK6 := hid (row_later HK6.out hb)
      replace HX6 := hid (row_later HX6.out hb)
      have HQ2 := hid (HR2.out at0 ct0 we s0 n0)
      rw [hpq] at HQ2
      clear h0 hb HQ1 HQ HR2 HTQ
      go_wp2_with fail
      refine HQ2.out.mono ?_
      rintro e wf ⟨k7, d7, x7, y7, rfl, hk7, hx7, hb⟩
      replace HB := hid (below_up HB.out hb)
      replace HK6 := hid (row_later HK6.out hb)
      replace HX6 := hid (row_later HX6.out hb)
      have HX7 := hid hx7
      have HQ3 := hid (Tx.sameTexts_any k6 k7 K2 K2 d6 d7 wf (row_strs rfl HK6.out) (row_strs rfl hk7) (by omega) (by omega))
      rw [show decide (K2 = K2) = true by simp] at HQ3
      clear hb HQ2 hk7 hx7 HK6
      go_wp2_with fail
      refine HQ3.out.mono ?_
      rintro e wg ⟨rfl, jq, hq⟩
      have hb : Below wf.heap.size wf wg := by rw [hq]; exact below_drewN (Below.refl _ _) _
      clear hq HQ3
      replace HB := hid (below_up HB.out hb)
      have q1 := row_conv rfl (row_later HX6.out hb)
      have q2 := row_conv rfl (row_later HX7.out hb)
      clear hb HX6 HX7
      have hw2 : (0 : Int) ≤ (W2 : Int) := by omega
      go_wp2_with fail
      go_ret
      exact ⟨ret_bool (by simp), HB.out⟩
end Go.Proofs.YtcbmhpdhbmjocaaGreat.Ow
