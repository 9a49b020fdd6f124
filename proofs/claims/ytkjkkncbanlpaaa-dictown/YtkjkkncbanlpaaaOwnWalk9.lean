/-
  The walk of DictOwn. (Written by mkown9.py.)
-/
import Derived.Test.YtkjkkncbanlpaaaOReads
import Derived.Test.YtkjkkncbanlpaaaDKnown
import Derived.Test.YtkjkkncbanlpaaaDArgs
import Derived.Lib.MinMax
namespace Go.Proofs.Ytkjkkncbanlpaaa.Ow
open Go.ChangeShapes Go.WideShapes Go.ChangeAt Go.RowKit Cu

def t2 : List Int := [-9, -10]
theorem new_t2 (w : World) : IntsA (w.alloc (.cells #[.int .i64 (-9), .int .i64 (-10)] 2)) (some ⟨w.heap.size, 0, none⟩) t2 := fun j s hj => by
  refine ⟨w.heap.size, 0, rfl, by simp, ?_⟩
  rw [cell_of_row _ _ _ _ _ _ (heap_new w _)]
  match j, hj with
  | 0, hj => simp [t2] at hj; subst hj; rfl
  | 1, hj => simp [t2] at hj; subst hj; rfl
theorem form_n {w : World} {B n : Nat} {v : Value} {T : List Int} (h : OwnI w B v T) (hn : T.length = n) : ∃ a c, v = .slice a n c ∧ IntsA w a T := by
  obtain ⟨a, c, hv, _, _, _, hs⟩ := h.form
  rw [hn] at hv
  exact ⟨a, c, hv, hs⟩
theorem ints_take {w : World} {a : Option Addr} {l : List Int} (h : IntsA w a l) (n : Nat) : IntsA w a (l.take n) := by
  rw [← List.take_append_drop n l] at h
  exact ints_front h
/-- l[:n]. -/
theorem cut_n {l : List Int} {a : Option Addr} {c n : Nat} (hz : a = none → l.length = 0 ∧ c = 0) (hc : l.length ≤ c) (hm : c ≤ 9223372036854775807) (hn : n ≤ l.length) (wx : World) : (Instr.slice 22 (.slice a l.length c) none (some (.int .i64 (n : Int))) none).run Try.prog wx = .ok (.slice a n c) wx := by
  cases a with
  | some x =>
    have h5 : n ≤ c := by omega
    go_simp
    first | done | (intro h; omega)
  | none =>
    obtain ⟨h5, rfl⟩ := hz rfl
    obtain rfl : n = 0 := by omega
    rw [h5]
    kernel_rfl
theorem ints_below {w w' : World} {C : Nat} {a : Option Addr} {L : List Int} (h : IntsA w a L) (hb : Below C w w') (hC : ∀ g o, a = some ⟨g, o, none⟩ → 0 < L.length → g < C) : IntsA w' a L := fun j s hj => by
  obtain ⟨g, o, e, hg, hc⟩ := h j s hj
  have hjl := (List.getElem?_eq_some_iff.1 hj).1
  exact ⟨g, o, e, Nat.lt_of_lt_of_le hg hb.size, (hb.cell (p := ⟨g, o + j, none⟩) (hC g o e (by omega))).trans hc⟩
set_option maxRecDepth 8000 in
set_option maxHeartbeats 16000000 in
theorem walk_dictOwn (W : World) (a0 : Option Addr) (n0 c0 : Nat) (l0 : List Int) (a1 : Option Addr) (n1 c1 : Nat) (o0 : List Int) (hL : IArgD W a0 n0 c0 l0) (hO : IArgD W a1 n1 c1 o0) :
    Calls Try.prog 3 #[.slice a0 n0 c0, .slice a1 n1 c1] W fun e W' => e = .returned (.bool true) ∧ Below W.heap.size W W' := by
  have e0 := hL.len
  subst e0
  have e1 := hO.len
  subst e1
  have hs0 := hL.small
  have hs1 := hO.small
  have hle0 := hL.le
  have hle1 := hO.le
  obtain ⟨n, hn⟩ : ∃ n, min l0.length (min o0.length 1000) = n := ⟨_, rfl⟩
  have hn0 : n ≤ l0.length := by omega
  have hn1 : n ≤ o0.length := by omega
  have hn2 : n ≤ 1000 := by omega
  have hmin : ∀ wx : World, (Builtin.min_ #[3, 3, 3] 3 #[.int .i64 (l0.length : Int), .int .i64 (o0.length : Int), .int .i64 1000]).run Try.prog wx = .ok (.int .i64 (n : Int)) wx := fun wx => by
    go_simp
    first | omega | (split <;> omega) | (repeat' split) <;> omega
  have hcut0 := fun wx => cut_n hL.nil hL.le (by omega) hn0 wx
  have hcut1 := fun wx => cut_n hO.nil hO.le (by omega) hn1 wx
  have HA0 := hid (ints_take hL.ints n)
  have HA1 := hid (ints_take hO.ints n)
  have hlt : (l0.take n).length = n := by rw [List.length_take]; omega
  have hot : (o0.take n).length = n := by rw [List.length_take]; omega
  have HIL : Hid (∀ x ∈ l0.take n, In64 x) := fun x hx => hL.in64 x (List.mem_of_mem_take hx)
  have HIO : Hid (∀ x ∈ o0.take n, In64 x) := fun x hx => hO.in64 x (List.mem_of_mem_take hx)
  have HNL : Hid (a0 = none → n = 0 ∧ c0 = 0) := fun e => by have := hL.nil e; exact ⟨by omega, this.2⟩
  have HNO : Hid (a1 = none → n = 0 ∧ c1 = 0) := fun e => by have := hO.nil e; exact ⟨by omega, this.2⟩
  have HIB : Hid (∀ g o, a1 = some ⟨g, o, none⟩ → 0 < n → g < W.heap.size) := fun g o e h => by
    obtain ⟨g', o', e', h', _⟩ := HA1.out 0 _ (List.getElem?_eq_getElem (by omega))
    rw [e] at e'
    cases e'
    exact h'
  have HKN := hid (known_yes W)
  clear hL hO hn hle0 hle1 hs0 hs1
  generalize l0.take n = lt at *
  generalize o0.take n = ot at *
  have HBL := hid (build_own lt HIL.out (by omega))
  have HBO := hid (build_own ot HIO.out (by omega))
  have HPL := hid (put_own lt HIL.out (by omega))
  have HPO := hid (put_own ot HIO.out (by omega))
  have HR1 := hid (read_form lt HIL.out (by omega))
  have HR2 := hid (read_form ot HIO.out (by omega))
  have HTL := hid (fun wx (h : IntsA wx a0 lt) => ints_any a0 lt c0 wx h (by rw [hlt]; exact HNL.out) (by omega))
  have HTO := hid (fun wx (h : IntsA wx a1 ot) => ints_any a1 ot c1 wx h (by rw [hot]; exact HNO.out) (by omega))
  have hkl := keysO_le lt
  have hko := keysO_le ot
  have hbl := formD_len lt (by omega) (by omega)
  have hbo := formD_len ot (by omega) (by omega)
  have hXl : (packC (wd (keysI lt).length) (codesI lt)).length ≤ 1000000000 := by
    have h2 := Pk.mul_small (n := lt.length) (by omega) (wd_le (K := (keysI lt).length) (by omega))
    rw [packC_len]
    have : (codesI lt).length = lt.length := by unfold codesI; rw [List.length_map]
    rw [this]
    omega
  have hXo : (packC (wd (keysI ot).length) (codesI ot)).length ≤ 1000000000 := by
    have h2 := Pk.mul_small (n := ot.length) (by omega) (wd_le (K := (keysI ot).length) (by omega))
    rw [packC_len]
    have : (codesI ot).length = ot.length := by unfold codesI; rw [List.length_map]
    rw [this]
    omega
  have hCl : (cvals (codesI lt)).length ≤ 1099511627776 := by unfold cvals; rw [List.length_map]; unfold codesI; rw [List.length_map]; omega
  have hCo : (cvals (codesI ot)).length ≤ 1099511627776 := by unfold cvals; rw [List.length_map]; unfold codesI; rw [List.length_map]; omega
  have HRD := hid (fun ap cp aq cq w hP hQ zp zq => reads_any lt.length (formD lt) (formD ot) (keysI lt) (keysI ot) _ _ _ _ HR1.out (by rw [hlt, ← hot]; exact HR2.out) (by omega) (by omega) (by omega) (by omega) hXl hXo ap cp aq cq w hP hQ zp zq)
  rw [hlt] at HBL HPL HTL HRD
  rw [hot] at HBO HPO HTO
  have hkl2 : (keysI lt).length ≤ 1000000 := by omega
  have hko2 : (keysI ot).length ≤ 1000000 := by omega
  clear HR1 HR2 hkl hko hXl hXo HIL HIO HNL HNO
  have HCL := hid hCl
  have HCO := hid hCo
  clear hCl hCo
  generalize keysI lt = KL at *
  generalize keysI ot = KO at *
  generalize codesI lt = CL at *
  generalize codesI ot = CO at *
  generalize formD lt = BL at *
  generalize formD ot = BO at *
  have HLT := hid hlt
  have HOT := hid hot
  clear hlt hot
  go_enter Try.func3, Try.ntmps3
  go_wp2_with fail
  refine HKN.out.mono ?_
  rintro e w1 ⟨rfl, hb⟩
  have HB := hid hb
  replace HA0 := hid (HA0.out.later hb)
  replace HA1 := hid (HA1.out.later hb)
  clear hb HKN
  have HQ0 := hid (HTL.out w1 HA0.out)
  go_wp2_with fail
  refine HQ0.out.mono ?_
  rintro e w2 ⟨v2, rfl, h2, hb⟩
  have bA := below_new w2 (.cells #[.int .i64 (-9), .int .i64 (-10)] 2)
  obtain ⟨v3, w3, hr3, o3, b3⟩ := run_manyI (c := 2) (h2.later bA) (new_t2 w2) (fun e => by cases e) (by rw [HLT.out]; simp [t2]; omega) (by have := hb.size; have := bA.size; omega)
  have hb3 : Below w1.heap.size w1 w3 := b3 w1 (below_up hb bA)
  have o4 : OwnI w3 W.heap.size v3 (lt ++ t2) := row_low o3 HB.out.size
  have hl2 : (ivals (lt ++ t2)).length = n + 2 := by rw [ivals_len, List.length_append, HLT.out]; rfl
  have hrow := ownI_row o4
  obtain ⟨g, c, hv, hg1, hg2, -, -, -, -⟩ := row_store hrow (i := n) (by rw [hl2]; omega)
  rw [hl2] at hv
  subst hv
  have hcc : n + 2 ≤ c ∧ c ≤ maxLen := by
    obtain ⟨a', c', hv, h1, h2, _⟩ := o4.form
    simp only [Value.slice.injEq] at hv
    obtain ⟨-, -, rfl⟩ := hv
    have : (lt ++ t2).length = n + 2 := by rw [← ivals_len]; exact hl2
    omega
  have hc1 : (n : Int) ≤ (c : Int) := by omega
  have hc2 : (n : Int) + 2 ≤ (c : Int) := by omega
  have R3 := hid hr3
  replace HB := hid (below_up HB.out hb3)
  have HRM := hid hrow
  replace HA0 := hid (HA0.out.later hb3)
  replace HA1 := hid (HA1.out.later hb3)
  have HG3 : Hid (W.heap.size ≤ g) := hg1
  clear hr3 hb hb3 hrow b3 o3 o4 bA h2 HQ0 hcc HTL hg1
  go_wp2_with (at_builtin; refine wpList_app (by rfl) (by rfl) R3.out ?_; clear R3)
  obtain ⟨lo, hlo⟩ : ∃ lo, w3.heap.size = lo := ⟨_, rfl⟩
  have hgl : g < lo := by omega
  have HLO : Hid (lo ≤ w3.heap.size ∧ W.heap.size ≤ lo) := ⟨by omega, by have := HB.out.size; omega⟩
  have FK : Hid (Fam w3 2 lo w3.heap.size []) := Fam.nil w3 2 lo
  have FP : Hid (Fam w3 5 lo w3.heap.size []) := Fam.nil w3 5 lo
  have FC : Hid (Fam w3 58 lo w3.heap.size []) := Fam.nil w3 58 lo
  have HSB : Hid (∀ wx, wx.ownsRow W.heap.size 2 1 (.slice (some ⟨g, 0, none⟩) (n + 2) c) (ivals (lt ++ t2)).length (ivals (lt ++ t2)) → IntsA wx (some ⟨g, 0, none⟩) lt ∧ wx.cell? ⟨g, n, none⟩ = some (.int .i64 (-9)) ∧ wx.cell? ⟨g, n + 1, none⟩ = some (.int .i64 (-10))) := fun wx h => by
    have h1 : (lt ++ t2).length = n + 2 := by rw [← ivals_len]; exact hl2
    have h2 := row_ints h1 h
    have c1 : (lt ++ t2)[n]? = some (-9) := by rw [List.getElem?_append_right (by rw [HLT.out]; omega), HLT.out, Nat.sub_self]; rfl
    have c2 : (lt ++ t2)[n + 1]? = some (-10) := by rw [List.getElem?_append_right (by rw [HLT.out]; omega), HLT.out, show n + 1 - n = 1 by omega]; rfl
    obtain ⟨g1, o1, e1, _, hc1⟩ := h2 n _ c1
    obtain ⟨g2, o2, e2, _, hc2⟩ := h2 (n + 1) _ c2
    cases e1
    cases e2
    rw [Nat.zero_add] at hc1 hc2
    exact ⟨ints_front h2, hc1, hc2⟩
  clear hlo hg2 hl2
  have HQ0 := hid (HBL.out (some ⟨g, 0, none⟩) c w3 (HSB.out w3 HRM.out).1)
  go_wp2_with fail
  refine HQ0.out.mono ?_
  rintro e w4 ⟨kA, dA, xA, yA, rfl, hk, hx, hb⟩
  replace FK : Hid (Fam w4 2 lo w4.heap.size [vI kA KL.length dA KL]) := FK.out.snoc hb hk HLO.out.1
  replace FC : Hid (Fam w4 58 lo w4.heap.size [vC xA n yA CL]) := FC.out.snoc hb hx HLO.out.1
  replace FP := hid (FP.out.later hb)
  replace HA0 := hid (HA0.out.later hb)
  replace HA1 := hid (HA1.out.later hb)
  replace HB := hid (below_up HB.out hb)
  replace HRM := hid (row_later HRM.out hb)
  replace HLO : Hid (lo ≤ w4.heap.size ∧ W.heap.size ≤ lo) := ⟨Nat.le_trans HLO.out.1 hb.size, HLO.out.2⟩
  clear hk hx hb HQ0
  have HQ0 := hid (HPL.out (some ⟨g, 0, none⟩) c w4 (HSB.out w4 HRM.out).1)
  go_wp2_with fail
  refine HQ0.out.mono ?_
  rintro e w5 ⟨pA, rA, rfl, hp, hb⟩
  replace FP : Hid (Fam w5 5 lo w5.heap.size [vB pA BL.length rA BL]) := FP.out.snoc hb hp HLO.out.1
  replace FK := hid (FK.out.later hb)
  replace FC := hid (FC.out.later hb)
  replace HA0 := hid (HA0.out.later hb)
  replace HA1 := hid (HA1.out.later hb)
  replace HB := hid (below_up HB.out hb)
  replace HRM := hid (row_later HRM.out hb)
  replace HLO : Hid (lo ≤ w5.heap.size ∧ W.heap.size ≤ lo) := ⟨Nat.le_trans HLO.out.1 hb.size, HLO.out.2⟩
  clear hp hb HQ0
  have HQ0 := hid (HTO.out w5 HA1.out)
  go_wp2_with fail
  refine HQ0.out.mono ?_
  rintro e w6 ⟨v0, rfl, h0, hb⟩
  obtain ⟨at0, ct0, rfl, s0⟩ := form_n h0 HOT.out
  have HS0 := hid s0
  replace FK := hid (FK.out.later hb)
  replace FP := hid (FP.out.later hb)
  replace FC := hid (FC.out.later hb)
  replace HA0 := hid (HA0.out.later hb)
  replace HA1 := hid (HA1.out.later hb)
  replace HB := hid (below_up HB.out hb)
  replace HRM := hid (row_later HRM.out hb)
  replace HLO : Hid (lo ≤ w6.heap.size ∧ W.heap.size ≤ lo) := ⟨Nat.le_trans HLO.out.1 hb.size, HLO.out.2⟩
  clear h0 s0 hb HQ0
  have HQ0 := hid (HBO.out at0 ct0 w6 HS0.out)
  go_wp2_with fail
  refine HQ0.out.mono ?_
  rintro e w7 ⟨kB, dB, xB, yB, rfl, hk, hx, hb⟩
  replace FK : Hid (Fam w7 2 lo w7.heap.size [vI kA KL.length dA KL, vI kB KO.length dB KO]) := FK.out.snoc hb hk HLO.out.1
  replace FC : Hid (Fam w7 58 lo w7.heap.size [vC xA n yA CL, vC xB n yB CO]) := FC.out.snoc hb hx HLO.out.1
  replace FP := hid (FP.out.later hb)
  replace HA0 := hid (HA0.out.later hb)
  replace HA1 := hid (HA1.out.later hb)
  replace HB := hid (below_up HB.out hb)
  replace HRM := hid (row_later HRM.out hb)
  replace HLO : Hid (lo ≤ w7.heap.size ∧ W.heap.size ≤ lo) := ⟨Nat.le_trans HLO.out.1 hb.size, HLO.out.2⟩
  clear hk hx hb HQ0
  clear HS0
  have HQ0 := hid (HTO.out w7 HA1.out)
  go_wp2_with fail
  refine HQ0.out.mono ?_
  rintro e w8 ⟨v0, rfl, h0, hb⟩
  obtain ⟨at0, ct0, rfl, s0⟩ := form_n h0 HOT.out
  have HS0 := hid s0
  replace FK := hid (FK.out.later hb)
  replace FP := hid (FP.out.later hb)
  replace FC := hid (FC.out.later hb)
  replace HA0 := hid (HA0.out.later hb)
  replace HA1 := hid (HA1.out.later hb)
  replace HB := hid (below_up HB.out hb)
  replace HRM := hid (row_later HRM.out hb)
  replace HLO : Hid (lo ≤ w8.heap.size ∧ W.heap.size ≤ lo) := ⟨Nat.le_trans HLO.out.1 hb.size, HLO.out.2⟩
  clear h0 s0 hb HQ0
  have HQ0 := hid (HPO.out at0 ct0 w8 HS0.out)
  go_wp2_with fail
  refine HQ0.out.mono ?_
  rintro e w9 ⟨pB, rB, rfl, hp, hb⟩
  replace FP : Hid (Fam w9 5 lo w9.heap.size [vB pA BL.length rA BL, vB pB BO.length rB BO]) := FP.out.snoc hb hp HLO.out.1
  replace FK := hid (FK.out.later hb)
  replace FC := hid (FC.out.later hb)
  replace HA0 := hid (HA0.out.later hb)
  replace HA1 := hid (HA1.out.later hb)
  replace HB := hid (below_up HB.out hb)
  replace HRM := hid (row_later HRM.out hb)
  replace HLO : Hid (lo ≤ w9.heap.size ∧ W.heap.size ≤ lo) := ⟨Nat.le_trans HLO.out.1 hb.size, HLO.out.2⟩
  clear hp hb HQ0
  clear HS0
  have HQ0 := hid (HBL.out (some ⟨g, 0, none⟩) c w9 (HSB.out w9 HRM.out).1)
  go_wp2_with fail
  refine HQ0.out.mono ?_
  rintro e wa ⟨kC, dC, xC, yC, rfl, hk, hx, hb⟩
  replace FK : Hid (Fam wa 2 lo wa.heap.size [vI kA KL.length dA KL, vI kB KO.length dB KO, vI kC KL.length dC KL]) := FK.out.snoc hb hk HLO.out.1
  replace FC : Hid (Fam wa 58 lo wa.heap.size [vC xA n yA CL, vC xB n yB CO, vC xC n yC CL]) := FC.out.snoc hb hx HLO.out.1
  replace FP := hid (FP.out.later hb)
  replace HA0 := hid (HA0.out.later hb)
  replace HA1 := hid (HA1.out.later hb)
  replace HB := hid (below_up HB.out hb)
  replace HRM := hid (row_later HRM.out hb)
  replace HLO : Hid (lo ≤ wa.heap.size ∧ W.heap.size ≤ lo) := ⟨Nat.le_trans HLO.out.1 hb.size, HLO.out.2⟩
  clear hk hx hb HQ0
  have HQ0 := hid (HPL.out (some ⟨g, 0, none⟩) c wa (HSB.out wa HRM.out).1)
  go_wp2_with fail
  refine HQ0.out.mono ?_
  rintro e wb ⟨pC, rC, rfl, hp, hb⟩
  replace FP : Hid (Fam wb 5 lo wb.heap.size [vB pA BL.length rA BL, vB pB BO.length rB BO, vB pC BL.length rC BL]) := FP.out.snoc hb hp HLO.out.1
  replace FK := hid (FK.out.later hb)
  replace FC := hid (FC.out.later hb)
  replace HA0 := hid (HA0.out.later hb)
  replace HA1 := hid (HA1.out.later hb)
  replace HB := hid (below_up HB.out hb)
  replace HRM := hid (row_later HRM.out hb)
  replace HLO : Hid (lo ≤ wb.heap.size ∧ W.heap.size ≤ lo) := ⟨Nat.le_trans HLO.out.1 hb.size, HLO.out.2⟩
  clear hp hb HQ0
  have HQ0 := hid (HBL.out (some ⟨g, 0, none⟩) c wb (HSB.out wb HRM.out).1)
  go_wp2_with fail
  refine HQ0.out.mono ?_
  rintro e wc ⟨kD, dD, xD, yD, rfl, hk, hx, hb⟩
  replace FK : Hid (Fam wc 2 lo wc.heap.size [vI kA KL.length dA KL, vI kB KO.length dB KO, vI kC KL.length dC KL, vI kD KL.length dD KL]) := FK.out.snoc hb hk HLO.out.1
  replace FC : Hid (Fam wc 58 lo wc.heap.size [vC xA n yA CL, vC xB n yB CO, vC xC n yC CL, vC xD n yD CL]) := FC.out.snoc hb hx HLO.out.1
  replace FP := hid (FP.out.later hb)
  replace HA0 := hid (HA0.out.later hb)
  replace HA1 := hid (HA1.out.later hb)
  replace HB := hid (below_up HB.out hb)
  replace HRM := hid (row_later HRM.out hb)
  replace HLO : Hid (lo ≤ wc.heap.size ∧ W.heap.size ≤ lo) := ⟨Nat.le_trans HLO.out.1 hb.size, HLO.out.2⟩
  clear hk hx hb HQ0
  have HQ0 := hid (HPL.out (some ⟨g, 0, none⟩) c wc (HSB.out wc HRM.out).1)
  go_wp2_with fail
  refine HQ0.out.mono ?_
  rintro e we ⟨pD, rD, rfl, hp, hb⟩
  replace FP : Hid (Fam we 5 lo we.heap.size [vB pA BL.length rA BL, vB pB BO.length rB BO, vB pC BL.length rC BL, vB pD BL.length rD BL]) := FP.out.snoc hb hp HLO.out.1
  replace FK := hid (FK.out.later hb)
  replace FC := hid (FC.out.later hb)
  replace HA0 := hid (HA0.out.later hb)
  replace HA1 := hid (HA1.out.later hb)
  replace HB := hid (below_up HB.out hb)
  replace HRM := hid (row_later HRM.out hb)
  replace HLO : Hid (lo ≤ we.heap.size ∧ W.heap.size ≤ lo) := ⟨Nat.le_trans HLO.out.1 hb.size, HLO.out.2⟩
  clear hp hb HQ0
  have hllt : lt.length ≤ 1000 := by rw [HLT.out]; exact hn2
  have HS1 := hid (fun V hV => sameInts_any kA kC KL KL dA dC V (row_ints rfl (row_later (FK.out.each (vI kA KL.length dA KL) (by simp)) hV)) (row_ints rfl (row_later (FK.out.each (vI kC KL.length dC KL) (by simp)) hV)) (by omega) (by omega))
  have HS2 := hid (fun V hV => sameInts_any kA kD KL KL dA dD V (row_ints rfl (row_later (FK.out.each (vI kA KL.length dA KL) (by simp)) hV)) (row_ints rfl (row_later (FK.out.each (vI kD KL.length dD KL) (by simp)) hV)) (by omega) (by omega))
  have HS3 := hid (fun V hV => sameInts_any (some ⟨g, 0, none⟩) a0 lt lt c c0 V (HSB.out _ (row_later HRM.out hV)).1 (HA0.out.later hV) (by omega) (by omega))
  rw [show decide (KL = KL) = true by simp] at HS1 HS2
  rw [show decide (lt = lt) = true by simp, HLT.out] at HS3
  obtain ⟨sB, hsB⟩ : ∃ sB, strL BL = sB := ⟨_, rfl⟩
  have HCV : Hid (∀ V, Below we.heap.size we V → (convert 28 9 (.slice pA BL.length rA)).run Try.prog V = .ok (.string sB) V ∧ (convert 28 9 (.slice pC BL.length rC)).run Try.prog V = .ok (.string sB) V ∧ (convert 28 9 (.slice pD BL.length rD)).run Try.prog V = .ok (.string sB) V ∧ V.cell? ⟨g, n, none⟩ = some (.int .i64 (-9)) ∧ V.cell? ⟨g, n + 1, none⟩ = some (.int .i64 (-10)) ∧ Below we.heap.size we V) := fun V hV => by
    have h := HSB.out V (row_later HRM.out hV)
    rw [← hsB]
    exact ⟨row_conv rfl (row_later (FP.out.each (vB pA BL.length rA BL) (by simp)) hV), row_conv rfl (row_later (FP.out.each (vB pC BL.length rC BL) (by simp)) hV), row_conv rfl (row_later (FP.out.each (vB pD BL.length rD BL) (by simp)) hV), h.2.1, h.2.2, hV⟩
  clear hsB
  have hwr : IntKind.i64.wrap ((n : Int) + 1) = (n : Int) + 1 := by rw [IntKind.wrap_i64]; omega
  have htn : ((n : Int) + 1).toNat = n + 1 := by omega
  have hi1 : (n : Int) < (n : Int) + 2 := by omega
  have hi2 : (n : Int) + 1 < (n : Int) + 2 := by omega
  have hi3 : n < n + 2 := by omega
  have hi4 : n + 1 < n + 2 := by omega
  have hi5 : (0 : Int) ≤ (n : Int) + 1 := by omega
  go_wp2_with fail
  have v0 : Below we.heap.size we we.drew := below_drewN (Below.refl _ we) 1
  refine wp_region_noPanic ?_
  refine wp_region_held_drew (S := fun V => (convert 28 9 (.slice pA BL.length rA)).run Try.prog V = .ok (.string sB) V ∧ (convert 28 9 (.slice pC BL.length rC)).run Try.prog V = .ok (.string sB) V ∧ (convert 28 9 (.slice pD BL.length rD)).run Try.prog V = .ok (.string sB) V ∧ V.cell? ⟨g, n, none⟩ = some (.int .i64 (-9)) ∧ V.cell? ⟨g, n + 1, none⟩ = some (.int .i64 (-10)) ∧ Below we.heap.size we V) (by kernel_rfl) (HCV.out _ v0) (fun hHeld0 => ?_)
  refine wpAnyH_take (i := 0) (oi := { dst := some 103, op := Op.move (Operand.tmp 10), type := 29, pos := "outright.go:351", after := #[], guard := none }) (v := ?_) rfl (by kernel_rfl) (by kernel_rfl) (by kernel_rfl) (fun _ _ _ h => h) (Or.inl ⟨by rfl, ?_⟩) (by assumption) ?_
  rotate_left
  · intro W hSw
    try dsimp only at hSw
    go_simp
    try with_reducible rfl
  try simp only [Act.put, List.setIfInBounds_toArray, List.set_cons_zero, List.set_cons_succ]
  refine wpAnyH_take (i := 1) (oi := { dst := some 104, op := Op.binOp BinOp.neq 29 (Operand.tmp 103) (Operand.const (Value.int IntKind.i64 0)) 29, type := 4, pos := "outright.go:351", after := #[{ on := 0, ground := Ground.data }], guard := none }) (v := Value.bool false) rfl (by kernel_rfl) (by kernel_rfl) (by kernel_rfl) (fun _ _ _ h => h) (Or.inl ⟨by rfl, ?_⟩) (by assumption) ?_
  · intro W hSw
    try dsimp only at hSw
    go_simp
    try with_reducible rfl
  try simp only [Act.put, List.setIfInBounds_toArray, List.set_cons_zero, List.set_cons_succ]
  refine wpAnyH_take (i := 2) (oi := { dst := some 105, op := Op.move (Operand.tmp 104), type := 4, pos := "outright.go:351", after := #[{ on := 1, ground := Ground.data }], guard := none }) (v := ?_) rfl (by kernel_rfl) (by kernel_rfl) (by kernel_rfl) (fun _ _ _ h => h) (Or.inl ⟨by rfl, ?_⟩) (by assumption) ?_
  rotate_left
  · intro W hSw
    try dsimp only at hSw
    go_simp
    try with_reducible rfl
  try simp only [Act.put, List.setIfInBounds_toArray, List.set_cons_zero, List.set_cons_succ]
  refine wpAnyH_take (i := 3) (oi := { dst := some 106, op := Op.move (Operand.tmp 14), type := 29, pos := "outright.go:351", after := #[{ on := 2, ground := Ground.guard }], guard := some (2, false) }) (v := ?_) rfl (by kernel_rfl) (by kernel_rfl) (by kernel_rfl) (fun _ _ _ h => h) (Or.inl ⟨by rfl, ?_⟩) (by assumption) ?_
  rotate_left
  · intro W hSw
    try dsimp only at hSw
    go_simp
    try with_reducible rfl
  try simp only [Act.put, List.setIfInBounds_toArray, List.set_cons_zero, List.set_cons_succ]
  refine wpAnyH_take (i := 4) (oi := { dst := some 107, op := Op.binOp BinOp.neq 29 (Operand.tmp 106) (Operand.const (Value.int IntKind.i64 0)) 29, type := 4, pos := "outright.go:351", after := #[{ on := 3, ground := Ground.data }, { on := 2, ground := Ground.guard }], guard := some (2, false) }) (v := Value.bool false) rfl (by kernel_rfl) (by kernel_rfl) (by kernel_rfl) (fun _ _ _ h => h) (Or.inl ⟨by rfl, ?_⟩) (by assumption) ?_
  · intro W hSw
    try dsimp only at hSw
    go_simp
    try with_reducible rfl
  try simp only [Act.put, List.setIfInBounds_toArray, List.set_cons_zero, List.set_cons_succ]
  refine wpAnyH_take (i := 5) (oi := { dst := some 108, op := Op.pick (Operand.tmp 105) (Operand.const (Value.bool true)) (Operand.tmp 107), type := 4, pos := "outright.go:351", after := #[{ on := 2, ground := Ground.data }, { on := 4, ground := Ground.data }], guard := none }) (v := ?_) rfl (by kernel_rfl) (by kernel_rfl) (by kernel_rfl) (fun _ _ _ h => h) (Or.inl ⟨by rfl, ?_⟩) (by assumption) ?_
  rotate_left
  · intro W hSw
    try dsimp only at hSw
    go_simp
    try with_reducible rfl
  try simp only [Act.put, List.setIfInBounds_toArray, List.set_cons_zero, List.set_cons_succ]
  refine wpAnyH_take (i := 6) (oi := { dst := some 109, op := Op.move (Operand.tmp 108), type := 4, pos := "outright.go:351", after := #[{ on := 5, ground := Ground.data }, { on := 2, ground := Ground.chain }], guard := none }) (v := ?_) rfl (by kernel_rfl) (by kernel_rfl) (by kernel_rfl) (fun _ _ _ h => h) (Or.inl ⟨by rfl, ?_⟩) (by assumption) ?_
  rotate_left
  · intro W hSw
    try dsimp only at hSw
    go_simp
    try with_reducible rfl
  try simp only [Act.put, List.setIfInBounds_toArray, List.set_cons_zero, List.set_cons_succ]
  refine wpAnyH_take (i := 7) (oi := { dst := some 110, op := Op.move (Operand.tmp 18), type := 29, pos := "outright.go:351", after := #[{ on := 6, ground := Ground.guard }], guard := some (6, false) }) (v := ?_) rfl (by kernel_rfl) (by kernel_rfl) (by kernel_rfl) (fun _ _ _ h => h) (Or.inl ⟨by rfl, ?_⟩) (by assumption) ?_
  rotate_left
  · intro W hSw
    try dsimp only at hSw
    go_simp
    try with_reducible rfl
  try simp only [Act.put, List.setIfInBounds_toArray, List.set_cons_zero, List.set_cons_succ]
  refine wpAnyH_take (i := 8) (oi := { dst := some 111, op := Op.binOp BinOp.neq 29 (Operand.tmp 110) (Operand.const (Value.int IntKind.i64 0)) 29, type := 4, pos := "outright.go:351", after := #[{ on := 7, ground := Ground.data }, { on := 6, ground := Ground.guard }], guard := some (6, false) }) (v := Value.bool false) rfl (by kernel_rfl) (by kernel_rfl) (by kernel_rfl) (fun _ _ _ h => h) (Or.inl ⟨by rfl, ?_⟩) (by assumption) ?_
  · intro W hSw
    try dsimp only at hSw
    go_simp
    try with_reducible rfl
  try simp only [Act.put, List.setIfInBounds_toArray, List.set_cons_zero, List.set_cons_succ]
  refine wpAnyH_take (i := 9) (oi := { dst := some 112, op := Op.pick (Operand.tmp 109) (Operand.const (Value.bool true)) (Operand.tmp 111), type := 4, pos := "outright.go:351", after := #[{ on := 6, ground := Ground.data }, { on := 8, ground := Ground.data }], guard := none }) (v := ?_) rfl (by kernel_rfl) (by kernel_rfl) (by kernel_rfl) (fun _ _ _ h => h) (Or.inl ⟨by rfl, ?_⟩) (by assumption) ?_
  rotate_left
  · intro W hSw
    try dsimp only at hSw
    go_simp
    try with_reducible rfl
  try simp only [Act.put, List.setIfInBounds_toArray, List.set_cons_zero, List.set_cons_succ]
  refine wpAnyH_take (i := 10) (oi := { dst := some 113, op := Op.move (Operand.tmp 112), type := 4, pos := "outright.go:351", after := #[{ on := 9, ground := Ground.data }, { on := 6, ground := Ground.chain }], guard := none }) (v := ?_) rfl (by kernel_rfl) (by kernel_rfl) (by kernel_rfl) (fun _ _ _ h => h) (Or.inl ⟨by rfl, ?_⟩) (by assumption) ?_
  rotate_left
  · intro W hSw
    try dsimp only at hSw
    go_simp
    try with_reducible rfl
  try simp only [Act.put, List.setIfInBounds_toArray, List.set_cons_zero, List.set_cons_succ]
  refine wpAnyH_take (i := 11) (oi := { dst := some 114, op := Op.move (Operand.tmp 22), type := 29, pos := "outright.go:351", after := #[{ on := 10, ground := Ground.guard }], guard := some (10, false) }) (v := ?_) rfl (by kernel_rfl) (by kernel_rfl) (by kernel_rfl) (fun _ _ _ h => h) (Or.inl ⟨by rfl, ?_⟩) (by assumption) ?_
  rotate_left
  · intro W hSw
    try dsimp only at hSw
    go_simp
    try with_reducible rfl
  try simp only [Act.put, List.setIfInBounds_toArray, List.set_cons_zero, List.set_cons_succ]
  refine wpAnyH_take (i := 12) (oi := { dst := some 115, op := Op.binOp BinOp.neq 29 (Operand.tmp 114) (Operand.const (Value.int IntKind.i64 0)) 29, type := 4, pos := "outright.go:351", after := #[{ on := 11, ground := Ground.data }, { on := 10, ground := Ground.guard }], guard := some (10, false) }) (v := Value.bool false) rfl (by kernel_rfl) (by kernel_rfl) (by kernel_rfl) (fun _ _ _ h => h) (Or.inl ⟨by rfl, ?_⟩) (by assumption) ?_
  · intro W hSw
    try dsimp only at hSw
    go_simp
    try with_reducible rfl
  try simp only [Act.put, List.setIfInBounds_toArray, List.set_cons_zero, List.set_cons_succ]
  refine wpAnyH_take (i := 13) (oi := { dst := some 116, op := Op.pick (Operand.tmp 113) (Operand.const (Value.bool true)) (Operand.tmp 115), type := 4, pos := "outright.go:351", after := #[{ on := 10, ground := Ground.data }, { on := 12, ground := Ground.data }], guard := none }) (v := ?_) rfl (by kernel_rfl) (by kernel_rfl) (by kernel_rfl) (fun _ _ _ h => h) (Or.inl ⟨by rfl, ?_⟩) (by assumption) ?_
  rotate_left
  · intro W hSw
    try dsimp only at hSw
    go_simp
    try with_reducible rfl
  try simp only [Act.put, List.setIfInBounds_toArray, List.set_cons_zero, List.set_cons_succ]
  refine wpAnyH_take (i := 14) (oi := { dst := some 117, op := Op.move (Operand.tmp 116), type := 4, pos := "outright.go:351", after := #[{ on := 13, ground := Ground.data }, { on := 10, ground := Ground.chain }], guard := none }) (v := ?_) rfl (by kernel_rfl) (by kernel_rfl) (by kernel_rfl) (fun _ _ _ h => h) (Or.inl ⟨by rfl, ?_⟩) (by assumption) ?_
  rotate_left
  · intro W hSw
    try dsimp only at hSw
    go_simp
    try with_reducible rfl
  try simp only [Act.put, List.setIfInBounds_toArray, List.set_cons_zero, List.set_cons_succ]
  refine wpAnyH_take (i := 15) (oi := { dst := some 118, op := Op.move (Operand.tmp 7), type := 22, pos := "outright.go:351", after := #[{ on := 14, ground := Ground.guard }], guard := some (14, false) }) (v := ?_) rfl (by kernel_rfl) (by kernel_rfl) (by kernel_rfl) (fun _ _ _ h => h) (Or.inl ⟨by rfl, ?_⟩) (by assumption) ?_
  rotate_left
  · intro W hSw
    try dsimp only at hSw
    go_simp
    try with_reducible rfl
  try simp only [Act.put, List.setIfInBounds_toArray, List.set_cons_zero, List.set_cons_succ]
  refine wpAnyH_take (i := 16) (oi := { dst := some 119, op := Op.move (Operand.tmp 15), type := 22, pos := "outright.go:351", after := #[{ on := 14, ground := Ground.guard }], guard := some (14, false) }) (v := ?_) rfl (by kernel_rfl) (by kernel_rfl) (by kernel_rfl) (fun _ _ _ h => h) (Or.inl ⟨by rfl, ?_⟩) (by assumption) ?_
  rotate_left
  · intro W hSw
    try dsimp only at hSw
    go_simp
    try with_reducible rfl
  try simp only [Act.put, List.setIfInBounds_toArray, List.set_cons_zero, List.set_cons_succ]
  refine wpAnyH_ready (rs := [17]) (by kernel_rfl) (by simp) ?_
  refine AllReadyH.cons (o := { dst := some 120, op := Op.call { callee := Callee.value (Operand.func 8), args := #[Operand.tmp 118, Operand.tmp 119], argTypes := #[22, 22] }, type := 4, pos := "outright.go:351", after := #[{ on := 15, ground := Ground.data }, { on := 16, ground := Ground.data }, { on := 14, ground := Ground.chain }, { on := 14, ground := Ground.guard }], guard := some (14, false) }) rfl (fun K hK => ?_) AllReadyH.nil
  rw [if_pos (by rfl)]
  go_simp
  refine (HS1.out _ v0).mono ?_
  rintro e s1 ⟨rfl, j1, hs1⟩
  have v1 : Below we.heap.size we s1 := by rw [hs1]; exact below_drewN v0 j1
  clear hs1
  refine hK.out _ _ (HCV.out _ v1) (fun hHeld1 => ?_)
  clear hK K hHeld0
  try simp only [Act.put, List.setIfInBounds_toArray, List.set_cons_zero, List.set_cons_succ]
  refine wpAnyH_take (i := 18) (oi := { dst := some 121, op := Op.unOp UnOp.not 4 (Operand.tmp 120), type := 4, pos := "outright.go:351", after := #[{ on := 17, ground := Ground.data }, { on := 14, ground := Ground.guard }], guard := some (14, false) }) (v := ?_) rfl (by kernel_rfl) (by kernel_rfl) (by kernel_rfl) (fun _ _ _ h => h) (Or.inl ⟨by rfl, ?_⟩) (by assumption) ?_
  rotate_left
  · intro W hSw
    try dsimp only at hSw
    go_simp
    try with_reducible rfl
  try simp only [Act.put, List.setIfInBounds_toArray, List.set_cons_zero, List.set_cons_succ]
  refine wpAnyH_take (i := 19) (oi := { dst := some 122, op := Op.pick (Operand.tmp 117) (Operand.const (Value.bool true)) (Operand.tmp 121), type := 4, pos := "outright.go:351", after := #[{ on := 14, ground := Ground.data }, { on := 18, ground := Ground.data }], guard := none }) (v := ?_) rfl (by kernel_rfl) (by kernel_rfl) (by kernel_rfl) (fun _ _ _ h => h) (Or.inl ⟨by rfl, ?_⟩) (by assumption) ?_
  rotate_left
  · intro W hSw
    try dsimp only at hSw
    go_simp
    try with_reducible rfl
  try simp only [Act.put, List.setIfInBounds_toArray, List.set_cons_zero, List.set_cons_succ]
  refine wpAnyH_take (i := 20) (oi := { dst := some 123, op := Op.move (Operand.tmp 122), type := 4, pos := "outright.go:351", after := #[{ on := 19, ground := Ground.data }, { on := 17, ground := Ground.chain }], guard := none }) (v := ?_) rfl (by kernel_rfl) (by kernel_rfl) (by kernel_rfl) (fun _ _ _ h => h) (Or.inl ⟨by rfl, ?_⟩) (by assumption) ?_
  rotate_left
  · intro W hSw
    try dsimp only at hSw
    go_simp
    try with_reducible rfl
  try simp only [Act.put, List.setIfInBounds_toArray, List.set_cons_zero, List.set_cons_succ]
  refine wpAnyH_take (i := 21) (oi := { dst := some 124, op := Op.move (Operand.tmp 7), type := 22, pos := "outright.go:351", after := #[{ on := 20, ground := Ground.guard }], guard := some (20, false) }) (v := ?_) rfl (by kernel_rfl) (by kernel_rfl) (by kernel_rfl) (fun _ _ _ h => h) (Or.inl ⟨by rfl, ?_⟩) (by assumption) ?_
  rotate_left
  · intro W hSw
    try dsimp only at hSw
    go_simp
    try with_reducible rfl
  try simp only [Act.put, List.setIfInBounds_toArray, List.set_cons_zero, List.set_cons_succ]
  refine wpAnyH_take (i := 22) (oi := { dst := some 125, op := Op.move (Operand.tmp 19), type := 22, pos := "outright.go:351", after := #[{ on := 20, ground := Ground.guard }], guard := some (20, false) }) (v := ?_) rfl (by kernel_rfl) (by kernel_rfl) (by kernel_rfl) (fun _ _ _ h => h) (Or.inl ⟨by rfl, ?_⟩) (by assumption) ?_
  rotate_left
  · intro W hSw
    try dsimp only at hSw
    go_simp
    try with_reducible rfl
  try simp only [Act.put, List.setIfInBounds_toArray, List.set_cons_zero, List.set_cons_succ]
  refine wpAnyH_ready (rs := [23]) (by kernel_rfl) (by simp) ?_
  refine AllReadyH.cons (o := { dst := some 126, op := Op.call { callee := Callee.value (Operand.func 8), args := #[Operand.tmp 124, Operand.tmp 125], argTypes := #[22, 22] }, type := 4, pos := "outright.go:351", after := #[{ on := 21, ground := Ground.data }, { on := 22, ground := Ground.data }, { on := 20, ground := Ground.chain }, { on := 20, ground := Ground.guard }], guard := some (20, false) }) rfl (fun K hK => ?_) AllReadyH.nil
  rw [if_pos (by rfl)]
  go_simp
  refine (HS2.out _ v1).mono ?_
  rintro e s2 ⟨rfl, j2, hs2⟩
  have v2 : Below we.heap.size we s2 := by rw [hs2]; exact below_drewN v1 j2
  clear hs2
  refine hK.out _ _ (HCV.out _ v2) (fun hHeld2 => ?_)
  clear hK K hHeld1
  try simp only [Act.put, List.setIfInBounds_toArray, List.set_cons_zero, List.set_cons_succ]
  refine wpAnyH_take (i := 24) (oi := { dst := some 127, op := Op.unOp UnOp.not 4 (Operand.tmp 126), type := 4, pos := "outright.go:351", after := #[{ on := 23, ground := Ground.data }, { on := 20, ground := Ground.guard }], guard := some (20, false) }) (v := ?_) rfl (by kernel_rfl) (by kernel_rfl) (by kernel_rfl) (fun _ _ _ h => h) (Or.inl ⟨by rfl, ?_⟩) (by assumption) ?_
  rotate_left
  · intro W hSw
    try dsimp only at hSw
    go_simp
    try with_reducible rfl
  try simp only [Act.put, List.setIfInBounds_toArray, List.set_cons_zero, List.set_cons_succ]
  refine wpAnyH_take (i := 25) (oi := { dst := some 128, op := Op.pick (Operand.tmp 123) (Operand.const (Value.bool true)) (Operand.tmp 127), type := 4, pos := "outright.go:351", after := #[{ on := 20, ground := Ground.data }, { on := 24, ground := Ground.data }], guard := none }) (v := ?_) rfl (by kernel_rfl) (by kernel_rfl) (by kernel_rfl) (fun _ _ _ h => h) (Or.inl ⟨by rfl, ?_⟩) (by assumption) ?_
  rotate_left
  · intro W hSw
    try dsimp only at hSw
    go_simp
    try with_reducible rfl
  try simp only [Act.put, List.setIfInBounds_toArray, List.set_cons_zero, List.set_cons_succ]
  refine wpAnyH_take (i := 26) (oi := { dst := some 129, op := Op.move (Operand.tmp 128), type := 4, pos := "outright.go:351", after := #[{ on := 25, ground := Ground.data }, { on := 23, ground := Ground.chain }], guard := none }) (v := ?_) rfl (by kernel_rfl) (by kernel_rfl) (by kernel_rfl) (fun _ _ _ h => h) (Or.inl ⟨by rfl, ?_⟩) (by assumption) ?_
  rotate_left
  · intro W hSw
    try dsimp only at hSw
    go_simp
    try with_reducible rfl
  try simp only [Act.put, List.setIfInBounds_toArray, List.set_cons_zero, List.set_cons_succ]
  refine wpAnyH_take (i := 27) (oi := { dst := some 130, op := Op.move (Operand.tmp 9), type := 28, pos := "outright.go:351", after := #[{ on := 26, ground := Ground.guard }], guard := some (26, false) }) (v := ?_) rfl (by kernel_rfl) (by kernel_rfl) (by kernel_rfl) (fun _ _ _ h => h) (Or.inl ⟨by rfl, ?_⟩) (by assumption) ?_
  rotate_left
  · intro W hSw
    try dsimp only at hSw
    go_simp
    try with_reducible rfl
  try simp only [Act.put, List.setIfInBounds_toArray, List.set_cons_zero, List.set_cons_succ]
  refine wpAnyH_take (i := 28) (oi := { dst := some 131, op := Op.convert 28 9 (Operand.tmp 130), type := 9, pos := "outright.go:351", after := #[{ on := 27, ground := Ground.data }, { on := 26, ground := Ground.guard }], guard := some (26, false) }) (v := ?_) rfl (by kernel_rfl) (by kernel_rfl) (by kernel_rfl) (fun _ _ _ h => h) (Or.inl ⟨by rfl, ?_⟩) (by assumption) ?_
  rotate_left
  · intro W hSw
    try dsimp only at hSw
    go_simp
    try with_reducible rfl
  try simp only [Act.put, List.setIfInBounds_toArray, List.set_cons_zero, List.set_cons_succ]
  refine wpAnyH_take (i := 29) (oi := { dst := some 132, op := Op.move (Operand.tmp 17), type := 28, pos := "outright.go:351", after := #[{ on := 26, ground := Ground.guard }], guard := some (26, false) }) (v := ?_) rfl (by kernel_rfl) (by kernel_rfl) (by kernel_rfl) (fun _ _ _ h => h) (Or.inl ⟨by rfl, ?_⟩) (by assumption) ?_
  rotate_left
  · intro W hSw
    try dsimp only at hSw
    go_simp
    try with_reducible rfl
  try simp only [Act.put, List.setIfInBounds_toArray, List.set_cons_zero, List.set_cons_succ]
  refine wpAnyH_take (i := 30) (oi := { dst := some 133, op := Op.convert 28 9 (Operand.tmp 132), type := 9, pos := "outright.go:351", after := #[{ on := 29, ground := Ground.data }, { on := 26, ground := Ground.guard }], guard := some (26, false) }) (v := ?_) rfl (by kernel_rfl) (by kernel_rfl) (by kernel_rfl) (fun _ _ _ h => h) (Or.inl ⟨by rfl, ?_⟩) (by assumption) ?_
  rotate_left
  · intro W hSw
    try dsimp only at hSw
    go_simp
    try with_reducible rfl
  try simp only [Act.put, List.setIfInBounds_toArray, List.set_cons_zero, List.set_cons_succ]
  refine wpAnyH_take (i := 31) (oi := { dst := some 134, op := Op.binOp BinOp.neq 9 (Operand.tmp 131) (Operand.tmp 133) 9, type := 4, pos := "outright.go:351", after := #[{ on := 28, ground := Ground.data }, { on := 30, ground := Ground.data }, { on := 26, ground := Ground.guard }], guard := some (26, false) }) (v := Value.bool false) rfl (by kernel_rfl) (by kernel_rfl) (by kernel_rfl) (fun _ _ _ h => h) (Or.inl ⟨by rfl, ?_⟩) (by assumption) ?_
  · intro W hSw
    try dsimp only at hSw
    go_simp
    try with_reducible rfl
  try simp only [Act.put, List.setIfInBounds_toArray, List.set_cons_zero, List.set_cons_succ]
  refine wpAnyH_take (i := 32) (oi := { dst := some 135, op := Op.pick (Operand.tmp 129) (Operand.const (Value.bool true)) (Operand.tmp 134), type := 4, pos := "outright.go:351", after := #[{ on := 26, ground := Ground.data }, { on := 31, ground := Ground.data }], guard := none }) (v := ?_) rfl (by kernel_rfl) (by kernel_rfl) (by kernel_rfl) (fun _ _ _ h => h) (Or.inl ⟨by rfl, ?_⟩) (by assumption) ?_
  rotate_left
  · intro W hSw
    try dsimp only at hSw
    go_simp
    try with_reducible rfl
  try simp only [Act.put, List.setIfInBounds_toArray, List.set_cons_zero, List.set_cons_succ]
  refine wpAnyH_take (i := 33) (oi := { dst := some 136, op := Op.move (Operand.tmp 135), type := 4, pos := "outright.go:351", after := #[{ on := 32, ground := Ground.data }, { on := 26, ground := Ground.chain }], guard := none }) (v := ?_) rfl (by kernel_rfl) (by kernel_rfl) (by kernel_rfl) (fun _ _ _ h => h) (Or.inl ⟨by rfl, ?_⟩) (by assumption) ?_
  rotate_left
  · intro W hSw
    try dsimp only at hSw
    go_simp
    try with_reducible rfl
  try simp only [Act.put, List.setIfInBounds_toArray, List.set_cons_zero, List.set_cons_succ]
  refine wpAnyH_take (i := 34) (oi := { dst := some 137, op := Op.move (Operand.tmp 9), type := 28, pos := "outright.go:351", after := #[{ on := 33, ground := Ground.guard }], guard := some (33, false) }) (v := ?_) rfl (by kernel_rfl) (by kernel_rfl) (by kernel_rfl) (fun _ _ _ h => h) (Or.inl ⟨by rfl, ?_⟩) (by assumption) ?_
  rotate_left
  · intro W hSw
    try dsimp only at hSw
    go_simp
    try with_reducible rfl
  try simp only [Act.put, List.setIfInBounds_toArray, List.set_cons_zero, List.set_cons_succ]
  refine wpAnyH_take (i := 35) (oi := { dst := some 138, op := Op.convert 28 9 (Operand.tmp 137), type := 9, pos := "outright.go:351", after := #[{ on := 34, ground := Ground.data }, { on := 33, ground := Ground.guard }], guard := some (33, false) }) (v := ?_) rfl (by kernel_rfl) (by kernel_rfl) (by kernel_rfl) (fun _ _ _ h => h) (Or.inl ⟨by rfl, ?_⟩) (by assumption) ?_
  rotate_left
  · intro W hSw
    try dsimp only at hSw
    go_simp
    try with_reducible rfl
  try simp only [Act.put, List.setIfInBounds_toArray, List.set_cons_zero, List.set_cons_succ]
  refine wpAnyH_take (i := 36) (oi := { dst := some 139, op := Op.move (Operand.tmp 21), type := 28, pos := "outright.go:351", after := #[{ on := 33, ground := Ground.guard }], guard := some (33, false) }) (v := ?_) rfl (by kernel_rfl) (by kernel_rfl) (by kernel_rfl) (fun _ _ _ h => h) (Or.inl ⟨by rfl, ?_⟩) (by assumption) ?_
  rotate_left
  · intro W hSw
    try dsimp only at hSw
    go_simp
    try with_reducible rfl
  try simp only [Act.put, List.setIfInBounds_toArray, List.set_cons_zero, List.set_cons_succ]
  refine wpAnyH_take (i := 37) (oi := { dst := some 140, op := Op.convert 28 9 (Operand.tmp 139), type := 9, pos := "outright.go:351", after := #[{ on := 36, ground := Ground.data }, { on := 33, ground := Ground.guard }], guard := some (33, false) }) (v := ?_) rfl (by kernel_rfl) (by kernel_rfl) (by kernel_rfl) (fun _ _ _ h => h) (Or.inl ⟨by rfl, ?_⟩) (by assumption) ?_
  rotate_left
  · intro W hSw
    try dsimp only at hSw
    go_simp
    try with_reducible rfl
  try simp only [Act.put, List.setIfInBounds_toArray, List.set_cons_zero, List.set_cons_succ]
  refine wpAnyH_take (i := 38) (oi := { dst := some 141, op := Op.binOp BinOp.neq 9 (Operand.tmp 138) (Operand.tmp 140) 9, type := 4, pos := "outright.go:351", after := #[{ on := 35, ground := Ground.data }, { on := 37, ground := Ground.data }, { on := 33, ground := Ground.guard }], guard := some (33, false) }) (v := Value.bool false) rfl (by kernel_rfl) (by kernel_rfl) (by kernel_rfl) (fun _ _ _ h => h) (Or.inl ⟨by rfl, ?_⟩) (by assumption) ?_
  · intro W hSw
    try dsimp only at hSw
    go_simp
    try with_reducible rfl
  try simp only [Act.put, List.setIfInBounds_toArray, List.set_cons_zero, List.set_cons_succ]
  refine wpAnyH_take (i := 39) (oi := { dst := some 142, op := Op.pick (Operand.tmp 136) (Operand.const (Value.bool true)) (Operand.tmp 141), type := 4, pos := "outright.go:351", after := #[{ on := 33, ground := Ground.data }, { on := 38, ground := Ground.data }], guard := none }) (v := ?_) rfl (by kernel_rfl) (by kernel_rfl) (by kernel_rfl) (fun _ _ _ h => h) (Or.inl ⟨by rfl, ?_⟩) (by assumption) ?_
  rotate_left
  · intro W hSw
    try dsimp only at hSw
    go_simp
    try with_reducible rfl
  try simp only [Act.put, List.setIfInBounds_toArray, List.set_cons_zero, List.set_cons_succ]
  refine wpAnyH_take (i := 40) (oi := { dst := some 143, op := Op.move (Operand.tmp 142), type := 4, pos := "outright.go:351", after := #[{ on := 39, ground := Ground.data }, { on := 33, ground := Ground.chain }], guard := none }) (v := ?_) rfl (by kernel_rfl) (by kernel_rfl) (by kernel_rfl) (fun _ _ _ h => h) (Or.inl ⟨by rfl, ?_⟩) (by assumption) ?_
  rotate_left
  · intro W hSw
    try dsimp only at hSw
    go_simp
    try with_reducible rfl
  try simp only [Act.put, List.setIfInBounds_toArray, List.set_cons_zero, List.set_cons_succ]
  refine wpAnyH_take (i := 41) (oi := { dst := some 144, op := Op.move (Operand.tmp 6), type := 22, pos := "outright.go:351", after := #[{ on := 40, ground := Ground.guard }], guard := some (40, false) }) (v := ?_) rfl (by kernel_rfl) (by kernel_rfl) (by kernel_rfl) (fun _ _ _ h => h) (Or.inl ⟨by rfl, ?_⟩) (by assumption) ?_
  rotate_left
  · intro W hSw
    try dsimp only at hSw
    go_simp
    try with_reducible rfl
  try simp only [Act.put, List.setIfInBounds_toArray, List.set_cons_zero, List.set_cons_succ]
  refine wpAnyH_take (i := 42) (oi := { dst := some 145, op := Op.move (Operand.tmp 5), type := 3, pos := "outright.go:351", after := #[{ on := 40, ground := Ground.guard }], guard := some (40, false) }) (v := ?_) rfl (by kernel_rfl) (by kernel_rfl) (by kernel_rfl) (fun _ _ _ h => h) (Or.inl ⟨by rfl, ?_⟩) (by assumption) ?_
  rotate_left
  · intro W hSw
    try dsimp only at hSw
    go_simp
    try with_reducible rfl
  try simp only [Act.put, List.setIfInBounds_toArray, List.set_cons_zero, List.set_cons_succ]
  refine wpAnyH_take (i := 43) (oi := { dst := some 146, op := Op.slice 22 (Operand.tmp 144) none (some (Operand.tmp 145)) none, type := 22, pos := "outright.go:351", after := #[{ on := 41, ground := Ground.data }, { on := 42, ground := Ground.data }, { on := 40, ground := Ground.guard }], guard := some (40, false) }) (v := ?_) rfl (by kernel_rfl) (by kernel_rfl) (by kernel_rfl) (fun _ _ _ h => h) (Or.inl ⟨by rfl, ?_⟩) (by assumption) ?_
  rotate_left
  · intro W hSw
    try dsimp only at hSw
    go_simp
    try with_reducible rfl
  try simp only [Act.put, List.setIfInBounds_toArray, List.set_cons_zero, List.set_cons_succ]
  refine wpAnyH_take (i := 44) (oi := { dst := some 147, op := Op.move (Operand.tmp 0), type := 22, pos := "outright.go:351", after := #[{ on := 40, ground := Ground.guard }], guard := some (40, false) }) (v := ?_) rfl (by kernel_rfl) (by kernel_rfl) (by kernel_rfl) (fun _ _ _ h => h) (Or.inl ⟨by rfl, ?_⟩) (by assumption) ?_
  rotate_left
  · intro W hSw
    try dsimp only at hSw
    go_simp
    try with_reducible rfl
  try simp only [Act.put, List.setIfInBounds_toArray, List.set_cons_zero, List.set_cons_succ]
  refine wpAnyH_take (i := 45) (oi := { dst := some 148, op := Op.move (Operand.tmp 5), type := 3, pos := "outright.go:351", after := #[{ on := 40, ground := Ground.guard }], guard := some (40, false) }) (v := ?_) rfl (by kernel_rfl) (by kernel_rfl) (by kernel_rfl) (fun _ _ _ h => h) (Or.inl ⟨by rfl, ?_⟩) (by assumption) ?_
  rotate_left
  · intro W hSw
    try dsimp only at hSw
    go_simp
    try with_reducible rfl
  try simp only [Act.put, List.setIfInBounds_toArray, List.set_cons_zero, List.set_cons_succ]
  refine wpAnyH_take (i := 46) (oi := { dst := some 149, op := Op.slice 22 (Operand.tmp 147) none (some (Operand.tmp 148)) none, type := 22, pos := "outright.go:351", after := #[{ on := 44, ground := Ground.data }, { on := 45, ground := Ground.data }, { on := 40, ground := Ground.guard }], guard := some (40, false) }) (v := ?_) rfl (by kernel_rfl) (by kernel_rfl) (by kernel_rfl) (fun _ _ _ h => h) (Or.inl ⟨by rfl, ?_⟩) (by assumption) ?_
  rotate_left
  · intro W hSw
    try dsimp only at hSw
    go_simp
    try with_reducible rfl
  try simp only [Act.put, List.setIfInBounds_toArray, List.set_cons_zero, List.set_cons_succ]
  refine wpAnyH_ready (rs := [47]) (by kernel_rfl) (by simp) ?_
  refine AllReadyH.cons (o := { dst := some 150, op := Op.call { callee := Callee.value (Operand.func 8), args := #[Operand.tmp 146, Operand.tmp 149], argTypes := #[22, 22] }, type := 4, pos := "outright.go:351", after := #[{ on := 43, ground := Ground.data }, { on := 46, ground := Ground.data }, { on := 40, ground := Ground.chain }, { on := 40, ground := Ground.guard }], guard := some (40, false) }) rfl (fun K hK => ?_) AllReadyH.nil
  rw [if_pos (by rfl)]
  go_simp
  refine (HS3.out _ v2).mono ?_
  rintro e wh ⟨rfl, j3, hs3⟩
  have v3 : Below we.heap.size we wh := by rw [hs3]; exact below_drewN v2 j3
  clear hs3
  refine hK.out _ _ (HCV.out _ v3) (fun hHeld3 => ?_)
  clear hK K hHeld2
  try simp only [Act.put, List.setIfInBounds_toArray, List.set_cons_zero, List.set_cons_succ]
  refine wpAnyH_take (i := 48) (oi := { dst := some 151, op := Op.unOp UnOp.not 4 (Operand.tmp 150), type := 4, pos := "outright.go:351", after := #[{ on := 47, ground := Ground.data }, { on := 40, ground := Ground.guard }], guard := some (40, false) }) (v := ?_) rfl (by kernel_rfl) (by kernel_rfl) (by kernel_rfl) (fun _ _ _ h => h) (Or.inl ⟨by rfl, ?_⟩) (by assumption) ?_
  rotate_left
  · intro W hSw
    try dsimp only at hSw
    go_simp
    try with_reducible rfl
  try simp only [Act.put, List.setIfInBounds_toArray, List.set_cons_zero, List.set_cons_succ]
  refine wpAnyH_take (i := 49) (oi := { dst := some 152, op := Op.pick (Operand.tmp 143) (Operand.const (Value.bool true)) (Operand.tmp 151), type := 4, pos := "outright.go:351", after := #[{ on := 40, ground := Ground.data }, { on := 48, ground := Ground.data }], guard := none }) (v := ?_) rfl (by kernel_rfl) (by kernel_rfl) (by kernel_rfl) (fun _ _ _ h => h) (Or.inl ⟨by rfl, ?_⟩) (by assumption) ?_
  rotate_left
  · intro W hSw
    try dsimp only at hSw
    go_simp
    try with_reducible rfl
  try simp only [Act.put, List.setIfInBounds_toArray, List.set_cons_zero, List.set_cons_succ]
  refine wpAnyH_take (i := 50) (oi := { dst := some 153, op := Op.move (Operand.tmp 152), type := 4, pos := "outright.go:351", after := #[{ on := 49, ground := Ground.data }, { on := 47, ground := Ground.chain }], guard := none }) (v := ?_) rfl (by kernel_rfl) (by kernel_rfl) (by kernel_rfl) (fun _ _ _ h => h) (Or.inl ⟨by rfl, ?_⟩) (by assumption) ?_
  rotate_left
  · intro W hSw
    try dsimp only at hSw
    go_simp
    try with_reducible rfl
  try simp only [Act.put, List.setIfInBounds_toArray, List.set_cons_zero, List.set_cons_succ]
  refine wpAnyH_take (i := 51) (oi := { dst := some 154, op := Op.move (Operand.tmp 6), type := 22, pos := "outright.go:351", after := #[{ on := 50, ground := Ground.guard }], guard := some (50, false) }) (v := ?_) rfl (by kernel_rfl) (by kernel_rfl) (by kernel_rfl) (fun _ _ _ h => h) (Or.inl ⟨by rfl, ?_⟩) (by assumption) ?_
  rotate_left
  · intro W hSw
    try dsimp only at hSw
    go_simp
    try with_reducible rfl
  try simp only [Act.put, List.setIfInBounds_toArray, List.set_cons_zero, List.set_cons_succ]
  refine wpAnyH_take (i := 52) (oi := { dst := some 155, op := Op.move (Operand.tmp 5), type := 3, pos := "outright.go:351", after := #[{ on := 50, ground := Ground.guard }], guard := some (50, false) }) (v := ?_) rfl (by kernel_rfl) (by kernel_rfl) (by kernel_rfl) (fun _ _ _ h => h) (Or.inl ⟨by rfl, ?_⟩) (by assumption) ?_
  rotate_left
  · intro W hSw
    try dsimp only at hSw
    go_simp
    try with_reducible rfl
  try simp only [Act.put, List.setIfInBounds_toArray, List.set_cons_zero, List.set_cons_succ]
  refine wpAnyH_take (i := 53) (oi := { dst := some 156, op := Op.indexAddr 22 (Operand.tmp 154) (Operand.tmp 155), type := 0, pos := "outright.go:351", after := #[{ on := 51, ground := Ground.data }, { on := 52, ground := Ground.data }, { on := 50, ground := Ground.guard }], guard := some (50, false) }) (v := ?_) rfl (by kernel_rfl) (by kernel_rfl) (by kernel_rfl) (fun _ _ _ h => h) (Or.inl ⟨by rfl, ?_⟩) (by assumption) ?_
  rotate_left
  · intro W hSw
    try dsimp only at hSw
    go_simp
    try with_reducible rfl
  try simp only [Act.put, List.setIfInBounds_toArray, List.set_cons_zero, List.set_cons_succ]
  refine wpAnyH_take (i := 54) (oi := { dst := some 157, op := Op.load 2 (Operand.tmp 156), type := 2, pos := "outright.go:351", after := #[{ on := 53, ground := Ground.data }, { on := 50, ground := Ground.guard }], guard := some (50, false) }) (v := ?_) rfl (by kernel_rfl) (by kernel_rfl) (by kernel_rfl) (fun _ _ _ h => h) (Or.inl ⟨by rfl, ?_⟩) (by assumption) ?_
  rotate_left
  · intro W hSw
    try dsimp only at hSw
    go_simp
    try with_reducible rfl
  try simp only [Act.put, List.setIfInBounds_toArray, List.set_cons_zero, List.set_cons_succ]
  refine wpAnyH_take (i := 55) (oi := { dst := some 158, op := Op.binOp BinOp.neq 2 (Operand.tmp 157) (Operand.const (Value.int IntKind.i64 (-9))) 2, type := 4, pos := "outright.go:351", after := #[{ on := 54, ground := Ground.data }, { on := 50, ground := Ground.guard }], guard := some (50, false) }) (v := Value.bool false) rfl (by kernel_rfl) (by kernel_rfl) (by kernel_rfl) (fun _ _ _ h => h) (Or.inl ⟨by rfl, ?_⟩) (by assumption) ?_
  · intro W hSw
    try dsimp only at hSw
    go_simp
    try with_reducible rfl
  try simp only [Act.put, List.setIfInBounds_toArray, List.set_cons_zero, List.set_cons_succ]
  refine wpAnyH_take (i := 56) (oi := { dst := some 159, op := Op.pick (Operand.tmp 153) (Operand.const (Value.bool true)) (Operand.tmp 158), type := 4, pos := "outright.go:351", after := #[{ on := 50, ground := Ground.data }, { on := 55, ground := Ground.data }], guard := none }) (v := ?_) rfl (by kernel_rfl) (by kernel_rfl) (by kernel_rfl) (fun _ _ _ h => h) (Or.inl ⟨by rfl, ?_⟩) (by assumption) ?_
  rotate_left
  · intro W hSw
    try dsimp only at hSw
    go_simp
    try with_reducible rfl
  try simp only [Act.put, List.setIfInBounds_toArray, List.set_cons_zero, List.set_cons_succ]
  refine wpAnyH_take (i := 57) (oi := { dst := some 160, op := Op.move (Operand.tmp 159), type := 4, pos := "outright.go:351", after := #[{ on := 56, ground := Ground.data }, { on := 50, ground := Ground.chain }], guard := none }) (v := ?_) rfl (by kernel_rfl) (by kernel_rfl) (by kernel_rfl) (fun _ _ _ h => h) (Or.inl ⟨by rfl, ?_⟩) (by assumption) ?_
  rotate_left
  · intro W hSw
    try dsimp only at hSw
    go_simp
    try with_reducible rfl
  try simp only [Act.put, List.setIfInBounds_toArray, List.set_cons_zero, List.set_cons_succ]
  refine wpAnyH_take (i := 58) (oi := { dst := some 161, op := Op.move (Operand.tmp 6), type := 22, pos := "outright.go:351", after := #[{ on := 57, ground := Ground.guard }], guard := some (57, false) }) (v := ?_) rfl (by kernel_rfl) (by kernel_rfl) (by kernel_rfl) (fun _ _ _ h => h) (Or.inl ⟨by rfl, ?_⟩) (by assumption) ?_
  rotate_left
  · intro W hSw
    try dsimp only at hSw
    go_simp
    try with_reducible rfl
  try simp only [Act.put, List.setIfInBounds_toArray, List.set_cons_zero, List.set_cons_succ]
  refine wpAnyH_take (i := 59) (oi := { dst := some 162, op := Op.move (Operand.tmp 5), type := 3, pos := "outright.go:351", after := #[{ on := 57, ground := Ground.guard }], guard := some (57, false) }) (v := ?_) rfl (by kernel_rfl) (by kernel_rfl) (by kernel_rfl) (fun _ _ _ h => h) (Or.inl ⟨by rfl, ?_⟩) (by assumption) ?_
  rotate_left
  · intro W hSw
    try dsimp only at hSw
    go_simp
    try with_reducible rfl
  try simp only [Act.put, List.setIfInBounds_toArray, List.set_cons_zero, List.set_cons_succ]
  refine wpAnyH_take (i := 60) (oi := { dst := some 163, op := Op.binOp BinOp.add 3 (Operand.tmp 162) (Operand.const (Value.int IntKind.i64 1)) 3, type := 3, pos := "outright.go:351", after := #[{ on := 59, ground := Ground.data }, { on := 57, ground := Ground.guard }], guard := some (57, false) }) (v := ?_) rfl (by kernel_rfl) (by kernel_rfl) (by kernel_rfl) (fun _ _ _ h => h) (Or.inl ⟨by rfl, ?_⟩) (by assumption) ?_
  rotate_left
  · intro W hSw
    try dsimp only at hSw
    go_simp
    try with_reducible rfl
  try simp only [Act.put, List.setIfInBounds_toArray, List.set_cons_zero, List.set_cons_succ]
  refine wpAnyH_take (i := 61) (oi := { dst := some 164, op := Op.indexAddr 22 (Operand.tmp 161) (Operand.tmp 163), type := 0, pos := "outright.go:351", after := #[{ on := 58, ground := Ground.data }, { on := 60, ground := Ground.data }, { on := 57, ground := Ground.guard }], guard := some (57, false) }) (v := ?_) rfl (by kernel_rfl) (by kernel_rfl) (by kernel_rfl) (fun _ _ _ h => h) (Or.inl ⟨by rfl, ?_⟩) (by assumption) ?_
  rotate_left
  · intro W hSw
    try dsimp only at hSw
    go_simp
    try with_reducible rfl
  try simp only [Act.put, List.setIfInBounds_toArray, List.set_cons_zero, List.set_cons_succ]
  refine wpAnyH_take (i := 62) (oi := { dst := some 165, op := Op.load 2 (Operand.tmp 164), type := 2, pos := "outright.go:351", after := #[{ on := 61, ground := Ground.data }, { on := 57, ground := Ground.guard }], guard := some (57, false) }) (v := ?_) rfl (by kernel_rfl) (by kernel_rfl) (by kernel_rfl) (fun _ _ _ h => h) (Or.inl ⟨by rfl, ?_⟩) (by assumption) ?_
  rotate_left
  · intro W hSw
    try dsimp only at hSw
    go_simp
    try with_reducible rfl
  try simp only [Act.put, List.setIfInBounds_toArray, List.set_cons_zero, List.set_cons_succ]
  refine wpAnyH_take (i := 63) (oi := { dst := some 166, op := Op.binOp BinOp.neq 2 (Operand.tmp 165) (Operand.const (Value.int IntKind.i64 (-10))) 2, type := 4, pos := "outright.go:351", after := #[{ on := 62, ground := Ground.data }, { on := 57, ground := Ground.guard }], guard := some (57, false) }) (v := Value.bool false) rfl (by kernel_rfl) (by kernel_rfl) (by kernel_rfl) (fun _ _ _ h => h) (Or.inl ⟨by rfl, ?_⟩) (by assumption) ?_
  · intro W hSw
    try dsimp only at hSw
    go_simp
    try with_reducible rfl
  try simp only [Act.put, List.setIfInBounds_toArray, List.set_cons_zero, List.set_cons_succ]
  refine wpAnyH_take (i := 64) (oi := { dst := some 167, op := Op.pick (Operand.tmp 160) (Operand.const (Value.bool true)) (Operand.tmp 166), type := 4, pos := "outright.go:351", after := #[{ on := 57, ground := Ground.data }, { on := 63, ground := Ground.data }], guard := none }) (v := ?_) rfl (by kernel_rfl) (by kernel_rfl) (by kernel_rfl) (fun _ _ _ h => h) (Or.inl ⟨by rfl, ?_⟩) (by assumption) ?_
  rotate_left
  · intro W hSw
    try dsimp only at hSw
    go_simp
    try with_reducible rfl
  try simp only [Act.put, List.setIfInBounds_toArray, List.set_cons_zero, List.set_cons_succ]
  refine wpAnyH_done (by kernel_rfl) ?_ _
  refine NoPanic.normal ?_
  clear hHeld3
  have hb := v3
  clear v0 v1 v2 v3 HCV hwr htn hi1 hi2 hi3 hi4 hi5 HS1 HS2 HS3
  replace FK := hid (FK.out.later hb)
  replace FP := hid (FP.out.later hb)
  replace FC := hid (FC.out.later hb)
  replace HA0 := hid (HA0.out.later hb)
  replace HA1 := hid (HA1.out.later hb)
  replace HB := hid (below_up HB.out hb)
  replace HRM := hid (row_later HRM.out hb)
  replace HLO : Hid (lo ≤ wh.heap.size ∧ W.heap.size ≤ lo) := ⟨Nat.le_trans HLO.out.1 hb.size, HLO.out.2⟩
  clear hb
  have zp : pA = none → BL.length = 0 ∧ rA = 0 := by
    obtain ⟨a', c', hv, _, _, h5⟩ := (row_own (FP.out.each (vB pA BL.length rA BL) (by simp))).form
    simp only [Value.slice.injEq] at hv
    obtain ⟨rfl, -, rfl⟩ := hv
    exact h5
  have zq : pB = none → BO.length = 0 ∧ rB = 0 := by
    obtain ⟨a', c', hv, _, _, h5⟩ := (row_own (FP.out.each (vB pB BO.length rB BO) (by simp))).form
    simp only [Value.slice.injEq] at hv
    obtain ⟨rfl, -, rfl⟩ := hv
    exact h5
  have HQ0 := hid (HRD.out pA rA pB rB wh (row_bytes rfl (FP.out.each (vB pA BL.length rA BL) (by simp))) (row_bytes rfl (FP.out.each (vB pB BO.length rB BO) (by simp))) zp zq)
  clear zp zq HRD
  go_wp2_with fail
  refine HQ0.out.mono ?_
  rintro e wi ⟨rfl, hb⟩
  replace FK := hid (FK.out.later hb)
  replace FP := hid (FP.out.later hb)
  replace FC := hid (FC.out.later hb)
  replace HA0 := hid (HA0.out.later hb)
  replace HA1 := hid (HA1.out.later hb)
  replace HB := hid (below_up HB.out hb)
  replace HRM := hid (row_later HRM.out hb)
  replace HLO : Hid (lo ≤ wi.heap.size ∧ W.heap.size ≤ lo) := ⟨Nat.le_trans HLO.out.1 hb.size, HLO.out.2⟩
  clear hb HQ0
  clear HA0
  have HG : Hid (Calls Try.prog 10 #[.slice (some ⟨wi.heap.size, 0, none⟩) 4 4] (wi.alloc (.cells #[.slice kA KL.length dA, .slice kB KO.length dB, .slice kC KL.length dC, .slice kD KL.length dD] 22)) fun e w' => e = .returned (.bool true) ∧ Touch (memF [vI kA KL.length dA KL, vI kB KO.length dB KO, vI kC KL.length dC KL, vI kD KL.length dD KL]) wi w') := grownI_fam FK.out (by simp) (fun x hx => by
    simp only [List.mem_cons, List.not_mem_nil, or_false] at hx
    rcases hx with rfl | rfl | rfl | rfl <;> first | (show (ivals _).length ≤ _; rw [ivals_len]; omega) | (show (bytesV _).length ≤ _; rw [bytesV_len]; omega) | exact HCL.out | exact HCO.out)
  go_wp2_with fail
  refine HG.out.mono ?_
  rintro e wj ⟨rfl, ht⟩
  have hb := touch_mem FK.out ht HLO.out.1
  replace FP := hid (FP.out.touch ht (FP.out.offF FK.out (by decide)))
  replace FC := hid (FC.out.touch ht (FC.out.offF FK.out (by decide)))
  replace HA1 := hid (ints_below HA1.out hb (fun g o e h => Nat.lt_of_lt_of_le (HIB.out g o e (by have := HOT.out; omega)) HLO.out.2))
  replace HB := hid (HB.out.trans (hb.mono HLO.out.2))
  replace HRM := hid (row_below HRM.out hb hgl)
  replace HLO : Hid (lo ≤ wj.heap.size ∧ W.heap.size ≤ lo) := ⟨Nat.le_trans HLO.out.1 hb.size, HLO.out.2⟩
  clear ht hb HG FK
  have HG : Hid (Calls Try.prog 11 #[.slice (some ⟨wj.heap.size, 0, none⟩) 4 4] (wj.alloc (.cells #[.slice pA BL.length rA, .slice pB BO.length rB, .slice pC BL.length rC, .slice pD BL.length rD] 28)) fun e w' => e = .returned (.bool true) ∧ Touch (memF [vB pA BL.length rA BL, vB pB BO.length rB BO, vB pC BL.length rC BL, vB pD BL.length rD BL]) wj w') := grownB_fam FP.out (by simp) (fun x hx => by
    simp only [List.mem_cons, List.not_mem_nil, or_false] at hx
    rcases hx with rfl | rfl | rfl | rfl <;> first | (show (ivals _).length ≤ _; rw [ivals_len]; omega) | (show (bytesV _).length ≤ _; rw [bytesV_len]; omega) | exact HCL.out | exact HCO.out)
  go_wp2_with fail
  refine HG.out.mono ?_
  rintro e wk ⟨rfl, ht⟩
  have hb := touch_mem FP.out ht HLO.out.1
  replace FC := hid (FC.out.touch ht (FC.out.offF FP.out (by decide)))
  replace HA1 := hid (ints_below HA1.out hb (fun g o e h => Nat.lt_of_lt_of_le (HIB.out g o e (by have := HOT.out; omega)) HLO.out.2))
  replace HB := hid (HB.out.trans (hb.mono HLO.out.2))
  replace HRM := hid (row_below HRM.out hb hgl)
  replace HLO : Hid (lo ≤ wk.heap.size ∧ W.heap.size ≤ lo) := ⟨Nat.le_trans HLO.out.1 hb.size, HLO.out.2⟩
  clear ht hb HG FP
  have HG : Hid (Calls Try.prog 12 #[.slice (some ⟨wk.heap.size, 0, none⟩) 4 4] (wk.alloc (.cells #[.slice xA n yA, .slice xB n yB, .slice xC n yC, .slice xD n yD] 25)) fun e w' => e = .returned (.bool true) ∧ Touch (memF [vC xA n yA CL, vC xB n yB CO, vC xC n yC CL, vC xD n yD CL]) wk w') := grownC_fam FC.out (by simp) (fun x hx => by
    simp only [List.mem_cons, List.not_mem_nil, or_false] at hx
    rcases hx with rfl | rfl | rfl | rfl <;> first | (show (ivals _).length ≤ _; rw [ivals_len]; omega) | (show (bytesV _).length ≤ _; rw [bytesV_len]; omega) | exact HCL.out | exact HCO.out)
  go_wp2_with fail
  refine HG.out.mono ?_
  rintro e wl ⟨rfl, ht⟩
  have hb := touch_mem FC.out ht HLO.out.1
  replace HA1 := hid (ints_below HA1.out hb (fun g o e h => Nat.lt_of_lt_of_le (HIB.out g o e (by have := HOT.out; omega)) HLO.out.2))
  replace HB := hid (HB.out.trans (hb.mono HLO.out.2))
  replace HRM := hid (row_below HRM.out hb hgl)
  replace HLO : Hid (lo ≤ wl.heap.size ∧ W.heap.size ≤ lo) := ⟨Nat.le_trans HLO.out.1 hb.size, HLO.out.2⟩
  clear ht hb HG FC
  have HQ0 := hid (HBL.out (some ⟨g, 0, none⟩) c wl (HSB.out wl HRM.out).1)
  go_wp2_with fail
  refine HQ0.out.mono ?_
  rintro e wm ⟨k5, d5, x5, y5, rfl, -, -, hb⟩
  replace HA1 := hid (HA1.out.later hb)
  replace HB := hid (below_up HB.out hb)
  replace HRM := hid (row_later HRM.out hb)
  clear hb HQ0
  have HQ0 := hid (HPL.out (some ⟨g, 0, none⟩) c wm (HSB.out wm HRM.out).1)
  go_wp2_with fail
  refine HQ0.out.mono ?_
  rintro e wn ⟨p5, r5, rfl, -, hb⟩
  replace HA1 := hid (HA1.out.later hb)
  replace HB := hid (below_up HB.out hb)
  replace HRM := hid (row_later HRM.out hb)
  clear hb HQ0
  have HI : Hid (∃ R : List Int, R.length = n + 2 ∧ R.take 0 = ot.take 0 ∧ wn.ownsRow W.heap.size 2 1 (.slice (some ⟨g, 0, none⟩) (n + 2) c) (ivals R).length (ivals R)) := ⟨lt ++ t2, by rw [List.length_append, HLT.out]; rfl, rfl, HRM.out⟩
  clear HRM HLO HSB HBL HPL HCL HCO
  go_wp2_with fail
  go_loopw [23] (fun y wr => ∃ i : Nat, i ≤ n ∧ y = .int .i64 (i : Int) ∧ Hid ((∃ R : List Int, R.length = n + 2 ∧ R.take i = ot.take i ∧ wr.ownsRow W.heap.size 2 1 (.slice (some ⟨g, 0, none⟩) (n + 2) c) (ivals R).length (ivals R)) ∧ IntsA wr a1 ot ∧ Below W.heap.size W wr)) (fun y _ => n - (intOf y).toNat)
  case atStart => exact ⟨0, Nat.zero_le _, rfl, HI.out, HA1.out, HB.out⟩
  case round =>
    clear HI HA1 HB
    obtain ⟨i, hi, rfl, HJ⟩ := hrel
    by_cases hlt : i < n
    · have hii : (i : Int) < (n : Int) := by omega
      have hio : (i : Int) < (o0.length : Int) := by omega
      obtain ⟨⟨R, r1, r2, r3⟩, j2, j3⟩ := HJ.out
      have hil : i < (ivals R).length := by rw [ivals_len, r1]; omega
      obtain ⟨g', c', hv, s1, s2, s3, s4, s5, s6⟩ := row_store r3 hil
      simp only [Value.slice.injEq] at hv
      obtain ⟨hv1, -, -⟩ := hv
      cases hv1
      obtain ⟨xv, hxv⟩ : ∃ xv, wr.cell? ⟨g, i, none⟩ = some xv := ⟨_, s3⟩
      have hiot : i < ot.length := by rw [HOT.out]; exact hlt
      obtain ⟨gq, oq, rfl, hgq, hcq⟩ := j2 i _ (List.getElem?_eq_getElem hiot)
      have hne : gq ≠ g := fun e => by have := HIB.out gq oq rfl (by omega); have := HG3.out; omega
      have HN : Hid ((∃ R : List Int, R.length = n + 2 ∧ R.take (i + 1) = ot.take (i + 1) ∧ (wr.setCell ⟨g, i, none⟩ (.int .i64 ot[i])).ownsRow W.heap.size 2 1 (.slice (some ⟨g, 0, none⟩) (n + 2) c) (ivals R).length (ivals R)) ∧ IntsA (wr.setCell ⟨g, i, none⟩ (.int .i64 ot[i])) (some ⟨gq, oq, none⟩) ot ∧ Below W.heap.size W (wr.setCell ⟨g, i, none⟩ (.int .i64 ot[i]))) := by
        refine ⟨⟨R.set i ot[i], by rw [List.length_set]; exact r1, ?_, ?_⟩, ?_, j3.setCell s1 _⟩
        · have h1 : (R.set i ot[i]).take (i + 1) = R.take i ++ [ot[i]] := by
            rw [List.take_add_one, List.take_set_of_le (Nat.le_refl _), List.getElem?_set_self (by omega)]; rfl
          have h2 : ot.take (i + 1) = ot.take i ++ [ot[i]] := by
            rw [List.take_add_one, List.getElem?_eq_getElem hiot]; rfl
          rw [h1, h2, r2]
        · have := s6 (.int .i64 ot[i])
          rw [ivals_set] at this
          rw [show (ivals (R.set i ot[i])).length = (ivals R).length by rw [ivals_len, ivals_len, List.length_set]]
          exact this
        · intro j s hj
          obtain ⟨g2, o2, e2, h2, h3⟩ := j2 j s hj
          cases e2
          refine ⟨gq, oq, rfl, Nat.lt_of_lt_of_le h2 ((Below.refl 0 wr).setCell (p := ⟨g, i, none⟩) (Nat.zero_le _) _).size, ?_⟩
          rw [World.cell?_setCell_far _ _ _ _ (fun e => hne e.symm)]
          exact h3
      clear HJ r1 r2 r3 j2 j3 s1 s2 s3 s5 s6 hil
      generalize ot[i] = z at *
      go_wp2_with fail
      exact ⟨⟨i + 1, by omega, by go_num, HN⟩, by simp [intOf]; omega⟩
    · obtain rfl : i = n := by omega
      obtain ⟨⟨R, r1, r2, r3⟩, j2, j3⟩ := HJ.out
      have hRB : Hid (∀ wx, wx.ownsRow W.heap.size 2 1 (.slice (some ⟨g, 0, none⟩) (i + 2) c) (ivals R).length (ivals R) → IntsA wx (some ⟨g, 0, none⟩) ot) := fun wx h => by
        have h1 := row_ints r1 h
        have h2 : R = ot ++ R.drop i := by
          conv => lhs; rw [← List.take_append_drop i R]
          rw [r2, List.take_of_length_le (by rw [HOT.out]; omega)]
        rw [h2] at h1
        exact ints_front h1
      have HRM := hid r3
      have HA1 := hid j2
      have HB := hid j3
      clear HJ r1 r2 r3 j2 j3
      rename World => wr
      have hii : ¬ (i : Int) < (i : Int) := by omega
      have HQ0 := hid (HPO.out (some ⟨g, 0, none⟩) c wr (hRB.out wr HRM.out))
      go_wp2_with fail
      refine HQ0.out.mono ?_
      rintro e wo ⟨p6, r6, rfl, hp, hb⟩
      replace HA1 := hid (HA1.out.later hb)
      replace HB := hid (below_up HB.out hb)
      replace HRM := hid (row_later HRM.out hb)
      have HP6 := hid hp
      clear hp hb HQ0
      have HQ0 := hid (HBO.out (some ⟨g, 0, none⟩) c wo (hRB.out wo HRM.out))
      go_wp2_with fail
      refine HQ0.out.mono ?_
      rintro e wp ⟨k6, d6, x6, y6, rfl, hk, -, hb⟩
      replace HA1 := hid (HA1.out.later hb)
      replace HB := hid (below_up HB.out hb)
      replace HRM := hid (row_later HRM.out hb)
      replace HP6 := hid (row_later HP6.out hb)
      have HK6 := hid hk
      clear hk hb HQ0
      have HQ0 := hid (HTO.out wp HA1.out)
      go_wp2_with fail
      refine HQ0.out.mono ?_
      rintro e wq ⟨v0, rfl, h0, hb⟩
      obtain ⟨at0, ct0, rfl, s0⟩ := form_n h0 HOT.out
      replace HA1 := hid (HA1.out.later hb)
      replace HB := hid (below_up HB.out hb)
      replace HRM := hid (row_later HRM.out hb)
      replace HP6 := hid (row_later HP6.out hb)
      replace HK6 := hid (row_later HK6.out hb)
      clear h0 hb HQ0
      have HQ0 := hid (HPO.out at0 ct0 wq s0)
      clear s0
      go_wp2_with fail
      refine HQ0.out.mono ?_
      rintro e ws ⟨p7, r7, rfl, hp, hb⟩
      replace HA1 := hid (HA1.out.later hb)
      replace HB := hid (below_up HB.out hb)
      replace HRM := hid (row_later HRM.out hb)
      replace HP6 := hid (row_later HP6.out hb)
      replace HK6 := hid (row_later HK6.out hb)
      have HP7 := hid hp
      clear hp hb HQ0
      have HQ0 := hid (HTO.out ws HA1.out)
      go_wp2_with fail
      refine HQ0.out.mono ?_
      rintro e wt ⟨v0, rfl, h0, hb⟩
      obtain ⟨at1, ct1, rfl, s0⟩ := form_n h0 HOT.out
      replace HA1 := hid (HA1.out.later hb)
      replace HB := hid (below_up HB.out hb)
      replace HRM := hid (row_later HRM.out hb)
      replace HP6 := hid (row_later HP6.out hb)
      replace HK6 := hid (row_later HK6.out hb)
      replace HP7 := hid (row_later HP7.out hb)
      clear h0 hb HQ0
      have HQ0 := hid (HBO.out at1 ct1 wt s0)
      clear s0
      go_wp2_with fail
      refine HQ0.out.mono ?_
      rintro e wu ⟨k7, d7, x7, y7, rfl, hk, -, hb⟩
      replace HA1 := hid (HA1.out.later hb)
      replace HB := hid (below_up HB.out hb)
      replace HRM := hid (row_later HRM.out hb)
      replace HP6 := hid (row_later HP6.out hb)
      replace HK6 := hid (row_later HK6.out hb)
      replace HP7 := hid (row_later HP7.out hb)
      have q1 := row_conv rfl HP6.out
      have q2 := row_conv rfl HP7.out
      have HQ1 := hid (sameInts_any k6 k7 KO KO d6 d7 wu (row_ints rfl HK6.out) (row_ints rfl hk) (by omega) (by omega))
      rw [show decide (KO = KO) = true by simp] at HQ1
      clear hk hb HQ0 HA1 HRM hRB
      go_wp2_with fail
      refine HQ1.out.mono ?_
      rintro e wv ⟨rfl, jq, hq⟩
      have hb : Below wu.heap.size wu wv := by rw [hq]; exact below_drewN (Below.refl _ _) _
      replace HB := hid (below_up HB.out hb)
      clear hq HQ1 hb q1 q2
      go_wp2_with fail
      go_ret
      exact ⟨ret_bool (by simp), HB.out⟩
end Go.Proofs.Ytkjkkncbanlpaaa.Ow
