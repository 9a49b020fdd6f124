/-
  The walk of SchemaBack.
-/
import Derived.Test.YtllnknjmfffnbaaOneWalk
namespace Go.Proofs.Ytllnknjmfffnbaa
open Go.ChangeShapes Go.WideShapes Go.ChangeAt Go.RowKit Cu

theorem find_own {l : List Col} (h : chkB l = true) {i : Nat} (hi : i < l.length) : findI l l[i].nm = (i : Int) ∧ findB l l[i].nm = true := by
  have hn := ((chkB_iff l).1 h).2.2
  have e := findN_at (l := l) (s := l[i].nm) hi (fun j hj e => dup_of hj hi e hn) rfl
  unfold findI findB
  rw [e]
  exact ⟨rfl, rfl⟩
theorem CArgL.Few {w : World} {a : Option Addr} {n c : Nat} {l : List Col} (h : CArgL w a n c l) : Few l := fun v hv => Nat.le_trans (h.few v hv) (by omega)
theorem frm_le {l : List Col} (h : chkB l = true) : (frm l).length ≤ 20000 := by
  obtain ⟨⟨_, h2⟩, hA, _⟩ := (chkB_iff l).1 h
  have h3 := encCs_le hA
  have h4 := Cu.uv_le l.length
  unfold frm
  rw [List.length_append]
  omega
theorem same_str {l r : List Col} (h : chkB l = true) (h' : chkB r = true) : ((strL (frm r)).toList == (strL (frm l)).toList) = decide (l = r) := by
  rw [str_beqR, Bool.eq_iff_iff]
  simp only [decide_eq_true_eq]
  constructor
  · intro e
    exact ((frm_iff h' h).1 (strL_inj (frm_byte h') (frm_byte h) e)).symm
  · rintro rfl; rfl
set_option maxRecDepth 4000 in
set_option maxHeartbeats 8000000 in
theorem walk_schemaBack (w : World) (a : Option Addr) (n c : Nat) (l : List Col) (b : Option Addr) (m d : Nat) (r : List Col) (x0 : Int) (hL : CArgL w a n c l) (hR : CArgL w b m d r) (hx0 : 0 ≤ x0 ∧ x0 < ((256 : Nat) : Int)) : Calls Try.prog 4 #[.slice a n c, .slice b m d, .int .u8 x0] w fun e w' => e = .returned (.bool true) ∧ Below w.heap.size w w' := by
  obtain rfl := hL.len
  obtain rfl := hR.len
  have hs := hL.small
  have hle := hL.le
  have hs2 := hR.small
  have hle2 := hR.le
  have hll : l.length ≤ 140737488355328 := by omega
  have hlr : r.length ≤ 140737488355328 := by omega
  obtain ⟨x, rfl⟩ : ∃ x : Nat, x0 = (x : Int) := ⟨x0.toNat, by omega⟩
  have hx : x < 256 := by omega
  have HC := hid fun w1 hw => columns_any a l c w1 (hL.lst.later hw) hL.nil (by omega)
  have HC2 := hid fun w1 hw => columns_any b r d w1 (hR.lst.later hw) hR.nil (by omega)
  have HL := hid hL.lst
  have HR := hid hR.lst
  have HF := hid hL.Few
  have HF2 := hid hR.Few
  clear hL hR hs hle hs2 hle2 hx0
  go_enter Try.func4, Try.ntmps4
  go_wp2_with fail
  refine (known_any _).mono ?_
  rintro e w1 ⟨rfl, hb⟩
  have HB := hid hb
  clear hb
  go_wp2_with fail
  refine (HC.out _ HB.out).mono ?_
  rintro e w2 ⟨v2, rfl, hN2⟩
  replace HB := hid (below_up HB.out hN2.2)
  obtain ⟨a2, d2, rfl, -, hl2⟩ := hN2.form
  have HP := hid (put_any a2 l d2 w2 hl2 HF.out hll)
  clear hN2 hl2
  cases hq : chkB l
  · rw [chkE_no hq, putR_no hq] at HP
    have HE := hid (chkE_no hq)
    clear hq
    go_wp2_with fail
    refine HP.out.mono ?_
    rintro e w3 ⟨v3, rfl, hN3⟩
    replace HB := hid (below_up HB.out hN3.2)
    obtain ⟨a3, d3, rfl, -, -⟩ := hN3.form
    rw [List.length_nil]
    clear hN3 HP
    go_wp2_with fail
    refine (HC.out _ HB.out).mono ?_
    rintro e w4 ⟨v4, rfl, hN4⟩
    replace HB := hid (below_up HB.out hN4.2)
    obtain ⟨a4, d4, rfl, -, hl4⟩ := hN4.form
    have HK := hid (check_any a4 l d4 w4 hl4 HF.out hll)
    rw [HE.out] at HK
    clear hN4 hl4
    go_wp2_with fail
    refine HK.out.mono ?_
    rintro e w5 ⟨rfl, hb⟩
    replace HB := hid (below_up HB.out hb)
    clear hb
    go_wp2_with fail
    go_ret
    exact ⟨rfl, HB.out⟩
  · rw [chkE_ok hq, putR_ok hq] at HP
    have HQ := hid hq
    clear hq HC
    have hfl := frm_le HQ.out
    have HTw := hid fun w a d h1 h2 => twin_any a (frm l) d w h1 h2 (by omega)
    have HTk := hid fun w a d h1 h2 => take_any a (frm l) d w h1 h2 (frm_byte HQ.out) (by omega)
    rw [(tk_back HQ.out).2.1, (tk_back HQ.out).2.2] at HTk
    have HCut := hid fun n (hn : n < (frm l).length) => tk_cut HQ.out hn
    have HMore := hid (tk_more HQ.out hx)
    have HByt := hid (frm_byte HQ.out)
    have HSt := hid fun (h : chkB r = true) => same_str HQ.out h
    generalize frm l = F at *
    go_wp2_with fail
    refine HP.out.mono ?_
    rintro e w3 ⟨v3, rfl, hN3⟩
    replace HB := hid (below_up HB.out hN3.2)
    obtain ⟨a3, d3, rfl, hd3, -, hn3⟩ := hN3.1.form
    have hb3 : Bytes w3 a3 F := hN3.1.nums
    have HD3 := hid hd3
    clear hd3
    have HNil := hid hn3
    have H3 := hid hb3
    clear hN3 hn3 hb3 HP
    go_wp2_with fail
    refine (HTw.out _ a3 d3 H3.out HNil.out).mono ?_
    rintro e w4 ⟨v4, rfl, hN4⟩
    replace HB := hid (below_up HB.out hN4.2)
    replace H3 := hid (H3.out.later hN4.2)
    obtain ⟨a4, d4, rfl, hn4, hb4⟩ := hN4.form
    have HK := hid (HTk.out w4 a4 d4 hb4 hn4)
    clear hN4 hn4 hb4 HTk
    go_wp2_with fail
    refine HK.out.mono ?_
    rintro e w5 ⟨v5, rfl, hN5⟩
    replace HB := hid (below_up HB.out hN5.2)
    replace H3 := hid (H3.out.later hN5.2)
    obtain ⟨a5, d5, rfl, -, hl5⟩ := hN5.form
    have HS := hid (same_any a5 a l l d5 c w5 hl5 (HL.out.later HB.out) hll hll)
    rw [decide_eq_true rfl] at HS
    have H5 := hid hl5
    clear hN5 hl5 HK
    have hlle : ((l.length : Int) == (l.length : Int)) = true := by simp
    go_wp2_with fail
    refine HS.out.mono ?_
    rintro e w6 ⟨rfl, j6, rfl⟩
    have hb6 := drewN_below w5 j6
    replace HB := hid (below_up HB.out hb6)
    replace H3 := hid (H3.out.later hb6)
    replace H5 := hid (H5.out.later hb6)
    generalize w5.drewN j6 = w6 at *
    clear hb6 HS
    go_wp2_with fail
    go_loopw [11] (fun ix wr => ∃ i : Nat, i ≤ l.length ∧ ix = .int .i64 i ∧ Hid (Below w6.heap.size w6 wr)) (fun ix _ => l.length - (intOf ix).toNat)
    case atStart => exact ⟨0, Nat.zero_le _, rfl, Below.refl _ _⟩
    case round =>
      obtain ⟨i, hi, rfl, HW⟩ := hrel
      rename World => wr
      by_cases hlt : i < l.length
      · have hii : (i : Int) < (l.length : Int) := by omega
        obtain ⟨g, o, rfl, -, k0, k1, k2⟩ := (HL.out.later (below_up HB.out HW.out)).cell3 hlt
        have HFd := hid (find_any a5 l d5 l[i].nm wr (H5.out.later HW.out) hll)
        rw [(find_own HQ.out hlt).1, (find_own HQ.out hlt).2] at HFd
        have HLi := hid fun (W : World) (hW : Below w6.heap.size w6 W) => (HL.out.later (below_up HB.out hW)).cell3 hlt
        have HGi := hid fun (W : World) (hW : Below w6.heap.size w6 W) => (H5.out.later hW).cell3 hlt
        obtain ⟨cc0, hc⟩ : ∃ cc0, l[i] = cc0 := ⟨_, rfl⟩
        simp only [hc] at HLi HGi HFd k0 k1 k2
        clear hc
        obtain ⟨nm, T, nb⟩ := cc0
        dsimp only at *
        go_wp2_with fail
        refine HFd.out.mono ?_
        rintro e w7 ⟨rfl, hb7⟩
        have HW7 := hid (below_up HW.out hb7)
        clear hb7 k0 k1 k2 HFd
        obtain ⟨g1, o1, e1, -, x0, x1, x2⟩ := HLi.out w7 HW7.out
        cases e1
        obtain ⟨g2, o2, rfl, -, y0, y1, y2⟩ := HGi.out w7 HW7.out
        have hse := str_eq nm
        have hte : (T == T) = true := by simp
        have hbe : (nb == nb) = true := by simp
        have hie : ((i : Int) == (i : Int)) = true := by simp
        have HD := hid fun nq => below_up HW7.out (drewN_below w7 nq)
        clear HLi HGi
        go_wp2_with fail
        go_quiet (fail)
        go_wp2_with fail
        exact ⟨⟨i + 1, by omega, by go_num, HD.out _⟩, by simp [intOf]; omega⟩
      · obtain rfl : i = l.length := by omega
        replace HB := hid (below_up HB.out HW.out)
        replace H3 := hid (H3.out.later HW.out)
        clear H5 HW
        go_wp2_with fail
        go_loopw [14] (fun ix wx => ∃ i : Nat, i ≤ F.length ∧ ix = .int .i64 i ∧ Hid (Below wr.heap.size wr wx)) (fun ix _ => F.length - (intOf ix).toNat)
        case atStart => exact ⟨0, Nat.zero_le _, rfl, Below.refl _ _⟩
        case round =>
          obtain ⟨i, hi, rfl, HW⟩ := hrel
          rename World => wx
          by_cases hlt : i < F.length
          · have hii : (i : Int) < (F.length : Int) := by omega
            have htl : (F.take i).length = i := by rw [List.length_take]; omega
            have HT1 := hid (twin_any a3 (F.take i) d3 wx (bytes_take (H3.out.later HW.out) i) (fun h => by have := HNil.out h; rw [htl]; omega) (by omega))
            have HT2 := hid fun w a d h1 h2 => take_any a (F.take i) d w h1 h2 (fun c hc => HByt.out c (List.mem_of_mem_take hc)) (by omega)
            rw [(tk_no (HCut.out i hlt)).1, (tk_no (HCut.out i hlt)).2, htl] at HT2
            rw [htl] at HT1
            have HTL := hid htl
            obtain ⟨g3, o3, rfl, -, -⟩ := H3.out i hlt
            have hd3 : F.length ≤ d3 := HD3.out
            have hid3 : (i : Int) ≤ (d3 : Int) := by omega
            clear htl
            go_wp2_with fail
            refine HT1.out.mono ?_
            rintro e w8 ⟨v8, rfl, hN8⟩
            have HW8 := hid (below_up HW.out hN8.2)
            obtain ⟨a8, d8, rfl, hn8, hb8⟩ := hN8.form
            rw [HTL.out] at hn8
            have HT3 := hid (HT2.out w8 a8 d8 hb8 hn8)
            rw [HTL.out]
            clear hN8 hn8 hb8 HT1 HT2 HTL hd3 hid3
            go_wp2_with fail
            refine HT3.out.mono ?_
            rintro e w9 ⟨v9, rfl, hN9⟩
            have HW9 := hid (below_up HW8.out hN9.2)
            clear hN9 HT3
            go_wp2_with fail
            exact ⟨⟨i + 1, by omega, by go_num, HW9⟩, by simp [intOf]; omega⟩
          · obtain rfl : i = F.length := by omega
            replace HB := hid (below_up HB.out HW.out)
            replace H3 := hid (H3.out.later HW.out)
            clear HW HCut
            go_wp2_with fail
            refine (HTw.out _ a3 d3 H3.out HNil.out).mono ?_
            rintro e w8 ⟨v8, rfl, hN8⟩
            obtain ⟨v9, w9, hr9, hO9, hB9⟩ := run_oneL hN8.1 (by omega) hN8.2.size x _ rfl
            have HR9 := hid hr9
            have hN9 : NewL wx w9 v9 (F ++ [x]) := ⟨hO9, hN8.2.trans hB9⟩
            replace HB := hid (below_up HB.out hN9.2)
            replace H3 := hid (H3.out.later hN9.2)
            obtain ⟨a9, d9, hv9, hn9, hb9⟩ := hN9.form
            subst hv9
            have HTm := hid (take_any a9 (F ++ [x]) d9 w9 hb9 hn9 (fun c hc => by
              rw [List.mem_append, List.mem_singleton] at hc
              rcases hc with hc | rfl
              · exact HByt.out c hc
              · exact hx) (by rw [List.length_append, List.length_singleton]; omega))
            rw [(tk_no HMore.out).1, (tk_no HMore.out).2] at HTm
            have hlF : (F ++ [x]).length = F.length + 1 := by rw [List.length_append, List.length_singleton]
            rw [hlF] at HTm HR9
            clear hN8 hr9 hO9 hB9 hN9 hn9 hb9 hlF HTw HMore
            go_wp2_with (at_builtin; refine wpList_app (by rfl) (by rfl) HR9.out ?_; clear HR9)
            refine HTm.out.mono ?_
            rintro e w10 ⟨v10, rfl, hN10⟩
            replace HB := hid (below_up HB.out hN10.2)
            replace H3 := hid (H3.out.later hN10.2)
            clear hN10 HTm
            go_wp2_with fail
            refine (HC2.out _ HB.out).mono ?_
            rintro e w11 ⟨v11, rfl, hN11⟩
            replace HB := hid (below_up HB.out hN11.2)
            replace H3 := hid (H3.out.later hN11.2)
            obtain ⟨a11, d11, rfl, -, hl11⟩ := hN11.form
            have HP := hid (put_any a11 r d11 w11 hl11 HF2.out hlr)
            clear hN11 hl11 HC2
            cases hq : chkB r
            · rw [chkE_no hq] at HP
              clear hq HSt
              go_wp2_with fail
              refine HP.out.mono ?_
              rintro e w12 ⟨v12, rfl, hN12⟩
              have HB12 := hid fun nq => below_up (below_up HB.out hN12.2) (drewN_below w12 nq)
              clear hN12 HP
              go_wp2_with fail
              go_quiet (fail)
              go_wp2_with fail
              go_ret
              exact ⟨rfl, HB12.out _⟩
            · rw [chkE_ok hq, putR_ok hq] at HP
              have hst := HSt.out hq
              clear hq HSt
              generalize frm r = G at *
              go_wp2_with fail
              refine HP.out.mono ?_
              rintro e w12 ⟨v12, rfl, hN12⟩
              replace HB := hid (below_up HB.out hN12.2)
              replace H3 := hid (H3.out.later hN12.2)
              obtain ⟨a12, d12, rfl, -, hb12⟩ := hN12.form
              have hcv := fun nq => run_strL d12 (hb12.later (drewN_below w12 nq))
              have hcb := fun nq => run_strL d3 (H3.out.later (drewN_below w12 nq))
              have HS := hid fun nq => same_any a b l r c d (w12.drewN nq) (HL.out.later (below_up HB.out (drewN_below w12 nq))) (HR.out.later (below_up HB.out (drewN_below w12 nq))) hll hlr
              have HB12 := hid fun nq => below_up HB.out (drewN_below w12 nq)
              generalize strL G = S1 at *
              generalize strL F = S2 at *
              generalize decide (l = r) = E at *
              have hEE : (E == E) = true := by simp
              clear hN12 hb12 HP
              go_wp2_with fail
              go_quiet ((go_at_call 14; exact Calls.quiet_of (HS.out _)))
              go_wp2_with fail
              go_ret
              exact ⟨rfl, HB12.out _⟩
end Go.Proofs.Ytllnknjmfffnbaa
