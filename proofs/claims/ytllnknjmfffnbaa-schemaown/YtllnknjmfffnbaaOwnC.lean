/-
  The law's taken.
-/
import Derived.Test.YtllnknjmfffnbaaOwnB
namespace Go.Proofs.Ytllnknjmfffnbaa
open Go.ChangeShapes Go.WideShapes Go.ChangeAt Go.RowKit Cu

theorem Hit.cell {g : Nat} {w a : World} (h : Hit g w a) (i : Nat) (u : Value) : Hit g w (a.setCell ⟨g, i, none⟩ u) :=
  ⟨h.os, h.tape, h.output, by simpa using h.size, fun j hj hne => (Below.heap_setCell _ _ _ _ (show j ≠ g from hne)).trans (h.block j hj hne)⟩
theorem Hit.belowG {g B : Nat} {w a : World} (h : Hit g w a) (hB : B ≤ w.heap.size) (hg : B ≤ g) : Below B w a := ⟨h.os, h.tape, h.output, h.size, fun j hj => h.block j (by omega) (by omega)⟩
theorem OwnL.hit {β : Type} {f : β → List Value} {k : Nat} {w w' : World} {B g : Nat} {e : TypeId} {v : Value} {l : List β} (h : OwnL f k w B e v l) (hh : Hit g w w') (hg : g < B) : OwnL f k w' B e v l := h.kept fun j hj => hh.block j (h.lt j hj).2 (by have := (h.lt j hj).1; omega)
theorem Fam.hit {β : Type} {f : β → List Value} {s : Nat} {w w' : World} {e : TypeId} {lo hi g : Nat} {E : List (Value × List β)} (h : Fam f s w e lo hi E) (hh : Hit g w w') (hg : g < lo) : Fam f s w' e lo hi E :=
  h.kept (fun x hx j hj => hh.block j ((h.each x hx).lt j hj).2 (by have := ((h.each x hx).lt j hj).1; omega)) hh.size
theorem st3 : (⟨#[201, 202, 203]⟩ : ByteArray) = strL [201, 202, 203] := by decide +kernel
theorem data_app (s t : ByteArray) : (s ++ t).data.toList = s.data.toList ++ t.data.toList := by simp
theorem strL_cat (x y : List Nat) : strL x ++ strL y = strL (x ++ y) := by
  apply ByteArray.ext
  apply Array.toList_inj.1
  rw [data_app, strL_data, strL_data, strL_data, List.map_append]
theorem encC_pos' (c : Col) : 0 < (encC c).length := by unfold encC; simp
theorem frm_pos {l : List Col} (h : chkB l = true) : 0 < (frm l).length := by
  have h1 := ((chkB_iff l).1 h).1
  have : 0 < (encCs l).length := by
    cases l with
    | nil => simp at h1
    | cons c r => simp only [encCs, List.flatMap_cons, List.length_append]; have := encC_pos' c; omega
  unfold frm
  rw [List.length_append]
  omega
theorem new3 (w : World) : Bytes (w.alloc (.cells #[.int .u8 201, .int .u8 202, .int .u8 203] 5)) (some ⟨w.heap.size, 0, none⟩) [201, 202, 203] := bytes_new w _ _ (0, 0) [201, 202, 203] (fun j hj => by
  have : j < 3 := hj
  match j, this with
  | 0, _ => rfl
  | 1, _ => rfl
  | 2, _ => rfl)
/-- A new list that is not empty lies in a block. -/
theorem own_some {w : World} {B : Nat} {v : Value} {l : List Nat} (h : Own w B 5 .u8 v l.length (ofL l)) (hl : 0 < l.length) : ∃ g c, v = .slice (some ⟨g, 0, none⟩) l.length c ∧ B ≤ g ∧ g < w.heap.size ∧ l.length ≤ c ∧ c ≤ maxLen ∧ Blk w g 5 .u8 c l.length (ofL l) := by
  rcases h.blk with ⟨_, h0⟩ | ⟨g, c, hv, hB, hg, hc, hb⟩
  · omega
  · exact ⟨g, c, hv, hB, hg, hb.le, hc, hb⟩
theorem bytes_blk {w : World} {g c : Nat} {l : List Nat} (h : Blk w g 5 .u8 c l.length (ofL l)) : Bytes w (some ⟨g, 0, none⟩) l := h.nums (Nat.le_refl _)
set_option maxRecDepth 8000 in
set_option maxHeartbeats 8000000 in
theorem taken_any (a b : Option Addr) (l r : List Col) (c d : Nat) (w : World) (hl : chkB l = true) (hr : chkB r = true) (hA : Bytes w a (frm l)) (hBq : Bytes w b (frm r)) (ha : a = none → (frm l).length = 0 ∧ c = 0) (hb : b = none → (frm r).length = 0 ∧ d = 0) :
    Calls Try.prog 17 #[.slice a (frm l).length c, .slice b (frm r).length d] w fun e w' => e = .returned (.bool true) ∧ Below w.heap.size w w' := by
  have hfl := frm_le hl
  have hfr := frm_le hr
  have hlp := frm_pos hl
  have hrp := frm_pos hr
  have HTp := hid fun w1 hw => twin_any a (frm l) c w1 (hA.later hw) ha (by omega)
  have HTq := hid fun w1 hw => twin_any b (frm r) d w1 (hBq.later hw) hb (by omega)
  have HKp := hid fun w a d h1 h2 => take_any a (frm l) d w h1 h2 (frm_byte hl) (by omega)
  have HKq := hid fun w a d h1 h2 => take_any a (frm r) d w h1 h2 (frm_byte hr) (by omega)
  rw [(tk_back hl).2.1, (tk_back hl).2.2] at HKp
  rw [(tk_back hr).2.1, (tk_back hr).2.2] at HKq
  have hl6 := ((chkB_iff l).1 hl).1.2
  have hr6 := ((chkB_iff r).1 hr).1.2
  have HSl := hid fun W a1 a2 d1 d2 (h1 : Lst cc 3 W a1 l) (h2 : Lst cc 3 W a2 l) => same_any a1 a2 l l d1 d2 W h1 h2 (by omega) (by omega)
  have HSr := hid fun W a1 a2 d1 d2 (h1 : Lst cc 3 W a1 r) (h2 : Lst cc 3 W a2 r) => same_any a1 a2 r r d1 d2 W h1 h2 (by omega) (by omega)
  rw [decide_eq_true rfl] at HSl HSr
  have HCk := hid fun W a1 d1 (h1 : Lst cc 3 W a1 l) (h2 : a1 = none → l.length = 0 ∧ d1 = 0) => columns_any a1 l d1 W h1 h2 (by omega)
  have HA := hid hA
  have HQ := hid hBq
  clear hl hr hA hBq ha hb
  generalize frm l = P at *
  generalize frm r = Q at *
  go_enter Try.func17, Try.ntmps17
  go_wp2_with fail
  refine (HTp.out _ (Below.refl _ w)).mono ?_
  rintro e w1 ⟨v1, rfl, hN1⟩
  have hb1 := below_new w1 (.cells #[.int .u8 201, .int .u8 202, .int .u8 203] 5)
  obtain ⟨v2, w2, hr2, hO2, hB2⟩ := run_appL (c := 3) (hN1.1.later hb1) (new3 w1) (fun h => by cases h) (by simp; omega) (below_up hN1.2 hb1).size
  have hB2' := hB2 w (below_up hN1.2 hb1)
  obtain ⟨gr, dr, rfl, hgr, hgr2, hdr, hdm, hblk⟩ := own_some hO2 (by rw [List.length_append]; omega)
  have hlen3 : (P ++ [201, 202, 203]).length = P.length + 3 := by rw [List.length_append]; rfl
  rw [hlen3, show [201, 202, 203].length = 3 from rfl] at hr2
  have HR2 := hid hr2
  have HB := hid hB2'
  have HK := hid hblk
  rw [hlen3] at hdr
  clear hN1 hb1 hr2 hO2 hB2 hB2' hblk
  have hpd : (P.length : Int) ≤ (dr : Int) := by omega
  have HBy := hid fun (W : World) (hW : Below w2.heap.size w2 W) => (show Bytes W (some ⟨gr, 0, none⟩) P from by
    have h1 := bytes_take ((bytes_blk HK.out).later hW) P.length
    rwa [List.take_left] at h1)
  have HRm := hid fun (W : World) (hW : Below w2.heap.size w2 W) => (bytes_blk HK.out).later hW
  go_wp2_with (at_builtin; refine wpList_app (by rfl) (by rfl) HR2.out ?_; clear HR2)
  refine (HKp.out w2 (some ⟨gr, 0, none⟩) dr (HBy.out _ (Below.refl _ _)) (fun h => by cases h)).mono ?_
  rintro e w3 ⟨v3, rfl, hN3⟩
  have HF1 := hid ((Fam.nil cc 3 w2 25 w2.heap.size).snoc hN3.2 hN3.1 (Nat.le_refl _))
  have HV := hid hN3.2
  obtain ⟨a3, d3, rfl, hn3, hl3⟩ := hN3.form
  have HN3 := hid hn3
  clear hN3 hl3 hn3
  go_wp2_with fail
  refine (HTq.out _ (below_up HB.out HV.out)).mono ?_
  rintro e w4 ⟨v4, rfl, hN4⟩
  obtain ⟨a4, d4, rfl, hn4, hb4⟩ := hN4.form
  have HF2 := hid (HF1.out.later hN4.2)
  replace HV := hid (below_up HV.out hN4.2)
  have HK4 := hid (HKq.out w4 a4 d4 hb4 hn4)
  clear hN4 hn4 hb4 HF1
  go_wp2_with fail
  refine HK4.out.mono ?_
  rintro e w5 ⟨v5, rfl, hN5⟩
  have HF3 := hid (HF2.out.snoc hN5.2 hN5.1 HV.out.size)
  replace HV := hid (below_up HV.out hN5.2)
  obtain ⟨a5, d5, rfl, -, -⟩ := hN5.form
  clear hN5 HK4 HF2
  go_wp2_with fail
  refine (HKp.out w5 (some ⟨gr, 0, none⟩) dr (HBy.out _ HV.out) (fun h => by cases h)).mono ?_
  rintro e w6 ⟨v6, rfl, hN6⟩
  have HF4 := hid (HF3.out.snoc hN6.2 hN6.1 HV.out.size)
  replace HV := hid (below_up HV.out hN6.2)
  obtain ⟨a6, d6, rfl, -, -⟩ := hN6.form
  clear hN6 HF3
  go_wp2_with fail
  refine (HKp.out w6 (some ⟨gr, 0, none⟩) dr (HBy.out _ HV.out) (fun h => by cases h)).mono ?_
  rintro e w7 ⟨v7, rfl, hN7⟩
  have HF5 := hid (HF4.out.snoc hN7.2 hN7.1 HV.out.size)
  replace HV := hid (below_up HV.out hN7.2)
  obtain ⟨a7, d7, rfl, -, -⟩ := hN7.form
  clear hN7 HF4
  have hE := HF5.out
  simp only [List.nil_append, List.cons_append] at hE
  have HF := hid hE
  clear hE HF5
  have HL3 := hid fun (W : World) (hW : Below w7.heap.size w7 W) => ((HF.out.later hW).each (.slice a3 l.length d3, l) (by simp)).lst
  have HL6 := hid fun (W : World) (hW : Below w7.heap.size w7 W) => ((HF.out.later hW).each (.slice a6 l.length d6, l) (by simp)).lst
  have HL7 := hid fun (W : World) (hW : Below w7.heap.size w7 W) => ((HF.out.later hW).each (.slice a7 l.length d7, l) (by simp)).lst
  go_wp2_with fail
  refine (HSl.out w7 a3 a6 d3 d6 (HL3.out _ (Below.refl _ _)) (HL6.out _ (Below.refl _ _))).mono ?_
  rintro e w8 ⟨rfl, j8, hw8⟩
  have hb8 : Below w7.heap.size w7 w8 := by rw [hw8]; exact drewN_below w7 j8
  have HW := hid hb8
  clear hb8 hw8
  go_wp2_with fail
  refine (HSl.out w8 a3 a7 d3 d7 (HL3.out _ HW.out) (HL7.out _ HW.out)).mono ?_
  rintro e w9 ⟨rfl, j9, hw9⟩
  have hb9 : Below w8.heap.size w8 w9 := by rw [hw9]; exact drewN_below w8 j9
  replace HW := hid (below_up HW.out hb9)
  clear hb9 hw9
  have hrr := run_strL dr (HRm.out w9 (below_up HV.out HW.out))
  have hrp := run_strL c (HA.out.later (below_up HB.out (below_up HV.out HW.out)))
  rw [hlen3] at hrr
  have hcat : strL P ++ ⟨#[201, 202, 203]⟩ = strL (P ++ [201, 202, 203]) := by rw [st3, strL_cat]
  have hsz : ¬ 9223372036854775807 < (strL P).size + 3 := by rw [strL_size]; omega
  generalize strL P = S1 at *
  generalize strL (P ++ [201, 202, 203]) = S2 at *
  have hse := str_eq S2
  go_wp2_with fail
  clear hrr hrp hcat hsz hse
  have hs9 : w2.heap.size ≤ w9.heap.size := (below_up HV.out HW.out).size
  refine (HCk.out w9 a3 d3 (HL3.out _ HW.out) HN3.out).mono ?_
  rintro e w10 ⟨v10, rfl, hN10⟩
  obtain ⟨a10, d10, rfl, -, hl10⟩ := hN10.form
  replace HW := hid (below_up HW.out hN10.2)
  have HF10 := hid (HF.out.later HW.out)
  have HO10 := hid hN10.1
  have HK10 := hid (HK.out.kept ((below_up HV.out HW.out).block gr hgr2))
  have HB10 := hid (below_up HB.out (below_up HV.out HW.out))
  rw [hlen3] at HK10
  clear hN10 hl10 HW HV HB HF HK HL3 HL6 HL7 HBy HRm HCk HN3
  go_wp2_with fail
  go_loopw [16] (fun ix wr => ∃ i : Nat, i ≤ P.length + 3 ∧ ix = .int .i64 i ∧ Hid (∃ L, Blk wr gr 5 .u8 dr (P.length + 3) L) ∧ Hid (Hit gr w10 wr)) (fun ix _ => P.length + 3 - (intOf ix).toNat)
  case atStart => exact ⟨0, Nat.zero_le _, rfl, ⟨_, HK10.out⟩, Hit.refl _ _⟩
  case round =>
    obtain ⟨i, hi, rfl, HL, HH⟩ := hrel
    rename World => y1
    by_cases hlt : i < P.length + 3
    · have hii : (i : Int) < (P.length : Int) + 3 := by omega
      obtain ⟨L, hLb⟩ := HL.out
      have hc := hLb.cell hlt
      have hf := hLb.frozen
      have HL2 : Hid (∃ L, Blk (y1.setCell ⟨gr, i, none⟩ (.int .u8 65)) gr 5 .u8 dr (P.length + 3) L) := ⟨_, hLb.store i 65⟩
      have HH2 := hid (HH.out.cell i (.int .u8 65))
      clear hLb
      go_wp2_with fail
      exact ⟨⟨i + 1, by omega, by go_num, HL2, HH2⟩, by simp [intOf]; omega⟩
    · obtain rfl : i = P.length + 3 := by omega
      have HB := hid (HB10.out.trans (HH.out.belowG HB10.out.size hgr))
      have HF := hid (HF10.out.hit HH.out hgr2)
      have HO := hid (HO10.out.hit HH.out (Nat.lt_of_lt_of_le hgr2 hs9))
      clear HL HH HF10 HO10 HB10 HK10
      have hl3 := (HF.out.each (.slice a3 l.length d3, l) (by simp)).lst
      have HS1 := hid (HSl.out y1 a3 a10 d3 d10 hl3 HO.out.lst)
      clear hl3
      go_wp2_with fail
      refine HS1.out.mono ?_
      rintro e y2 ⟨rfl, j2, hy2⟩
      have hb2 : Below y1.heap.size y1 y2 := by rw [hy2]; exact drewN_below y1 j2
      replace HF := hid (HF.out.later hb2)
      replace HO := hid (HO.out.later hb2)
      replace HB := hid (below_up HB.out hb2)
      clear hb2 hy2 HS1
      have hl7 := (HF.out.each (.slice a7 l.length d7, l) (by simp)).lst
      have HS1 := hid (HSl.out y2 a7 a10 d7 d10 hl7 HO.out.lst)
      clear hl7
      go_wp2_with fail
      refine HS1.out.mono ?_
      rintro e y3 ⟨rfl, j3, hy3⟩
      have hb3 : Below y2.heap.size y2 y3 := by rw [hy3]; exact drewN_below y2 j3
      replace HF := hid (HF.out.later hb3)
      replace HB := hid (below_up HB.out hb3)
      clear hb3 hy3 HS1 HO
      have hG := grownC_fam HF.out (by simp) (fun x hx => by
        simp only [List.mem_cons, List.not_mem_nil, or_false] at hx
        rcases hx with rfl | rfl | rfl | rfl <;> (dsimp only; omega))
      simp only [List.map_cons, List.map_nil, List.length_cons, List.length_nil, Nat.zero_add, Nat.reduceAdd] at hG
      have HG := hid hG
      clear hG
      go_wp2_with fail
      refine HG.out.mono ?_
      rintro e y4 ⟨rfl, ht4⟩
      have hb4 : Below w.heap.size y3 y4 := ht4.below HB.out.size (fun j ⟨x, hx, hxj⟩ => by
        have := ((HF.out.each x hx).lt j hxj).1
        omega)
      replace HB := hid (HB.out.trans hb4)
      clear ht4 hb4 HG HF
      by_cases hPQ : P.length = Q.length
      · have hpq : ((P.length : Int) == (Q.length : Int)) = true := by rw [hPQ]; simp
        rw [← hPQ] at HKq HTq hpq
        rw [← hPQ]
        have HPQ := hid hPQ
        clear hPQ
        go_wp2_with fail
        refine (HTp.out _ HB.out).mono ?_
        rintro e z1 ⟨u1, rfl, hN1⟩
        obtain ⟨gt, dt, rfl, hgt, hgt2, hdt, hdtm, hbt⟩ := own_some hN1.1 (by omega)
        have hgw : w.heap.size ≤ gt := by have := HB.out.size; omega
        replace HB := hid (below_up HB.out hN1.2)
        have HKt := hid hbt
        have HT1 := hid (HKp.out z1 (some ⟨gt, 0, none⟩) dt (bytes_blk hbt) (fun h => by cases h))
        clear hN1 hbt
        go_wp2_with fail
        refine HT1.out.mono ?_
        rintro e z2 ⟨u2, rfl, hN2⟩
        replace HB := hid (below_up HB.out hN2.2)
        replace HKt := hid (HKt.out.kept (hN2.2.block gt hgt2))
        clear hN2 HT1
        go_wp2_with fail
        go_loopw [17] (fun ix wr => ∃ i : Nat, i ≤ P.length ∧ ix = .int .i64 i ∧ Hid (∃ L, Blk wr gt 5 .u8 dt P.length L ∧ ∀ j, j < i → L j = ofL Q j) ∧ Hid (Below w.heap.size w wr)) (fun ix _ => P.length - (intOf ix).toNat)
        case atStart => exact ⟨0, Nat.zero_le _, rfl, ⟨_, HKt.out, fun j hj => (by omega)⟩, HB⟩
        case round =>
          clear HB HKt
          obtain ⟨i, hi, rfl, HL, HB⟩ := hrel
          rename World => z3
          by_cases hlt : i < P.length
          · have hii : (i : Int) < (P.length : Int) := by omega
            obtain ⟨L, hLb, hLj⟩ := HL.out
            have hc := hLb.cell hlt
            have hf := hLb.frozen
            obtain ⟨g5, o5, rfl, -, k5⟩ := (HQ.out.later HB.out) i (by rw [← HPQ.out]; exact hlt)
            have HL2 : Hid (∃ L, Blk (z3.setCell ⟨gt, i, none⟩ (.int .u8 (ofL Q i : Int))) gt 5 .u8 dt P.length L ∧ ∀ j, j < i + 1 → L j = ofL Q j) := ⟨_, hLb.store i (ofL Q i), fun j hj => by
              unfold upd
              split
              · rename_i e; rw [e]
              · exact hLj j (by omega)⟩
            have HB2 := hid (below_set HB.out (p := ⟨gt, i, none⟩) hgw (.int .u8 (ofL Q i : Int)))
            clear hLb hLj HL HB
            generalize ofL Q i = x at *
            go_wp2_with fail
            exact ⟨⟨i + 1, by omega, by go_num, HL2, HB2⟩, by simp [intOf]; omega⟩
          · obtain rfl : i = P.length := by omega
            obtain ⟨L, hLb, hLj⟩ := HL.out
            have hby : Bytes z3 (some ⟨gt, 0, none⟩) Q := by
              have h1 := (hLb.ext hLj).nums (Nat.le_refl _)
              rw [HPQ.out] at h1
              exact h1
            have HT1 := hid (HKq.out z3 (some ⟨gt, 0, none⟩) dt hby (fun h => by cases h))
            clear hLb hLj HL hby
            go_wp2_with fail
            refine HT1.out.mono ?_
            rintro e z4 ⟨u4, rfl, hN4⟩
            obtain ⟨b4, e4, rfl, -, hl4⟩ := hN4.form
            replace HB := hid (below_up HB.out hN4.2)
            have H4 := hid hl4
            clear hN4 hl4 HT1
            go_wp2_with fail
            refine (HTq.out _ HB.out).mono ?_
            rintro e z5 ⟨u5, rfl, hN5⟩
            obtain ⟨b5, e5, rfl, hn5, hb5⟩ := hN5.form
            replace HB := hid (below_up HB.out hN5.2)
            replace H4 := hid (H4.out.later hN5.2)
            rw [← HPQ.out] at hn5 ⊢
            have HT1 := hid (HKq.out z5 b5 e5 hb5 hn5)
            clear hN5 hn5 hb5
            go_wp2_with fail
            refine HT1.out.mono ?_
            rintro e z6 ⟨u6, rfl, hN6⟩
            obtain ⟨b6, e6, rfl, -, hl6⟩ := hN6.form
            replace HB := hid (below_up HB.out hN6.2)
            have HS1 := hid (HSr.out z6 b4 b6 e4 e6 (H4.out.later hN6.2) hl6)
            clear hN6 hl6 HT1
            go_wp2_with fail
            refine HS1.out.mono ?_
            rintro e z7 ⟨rfl, j7, rfl⟩
            replace HB := hid (below_up HB.out (drewN_below z6 j7))
            generalize z6.drewN j7 = z7 at *
            go_wp2_with fail
            go_ret
            exact ⟨rfl, HB.out⟩
      · have hpq : ((P.length : Int) == (Q.length : Int)) = false := by rw [beq_eq_false_iff_ne]; omega
        have hpn : ¬ (P.length : Int) = (Q.length : Int) := by omega
        go_wp2_with fail
        go_ret
        exact ⟨rfl, HB.out⟩
end Go.Proofs.Ytllnknjmfffnbaa
