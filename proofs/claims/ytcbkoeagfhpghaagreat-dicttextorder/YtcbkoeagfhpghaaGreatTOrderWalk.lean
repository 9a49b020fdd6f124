/-
  The walk of DictTextOrder.
-/
import Derived.Test.YtcbkoeagfhpghaaGreatDKnown
import Derived.Test.YtcbkoeagfhpghaaGreatTextsWalk
import Derived.Test.YtcbkoeagfhpghaaGreatDTPre
namespace Go.Proofs.YtcbkoeagfhpghaaGreat.Tx
open Go.ChangeShapes Go.WideShapes Go.ChangeAt Go.RowKit Cu
open Classical

theorem size_list (x : ByteArray) : x.toList.length = x.size := by rw [Go.ByteArray.toList_eq]; rfl
theorem extract_list (x : ByteArray) (n : Nat) : (x.extract 0 n).toList = x.toList.take n := by
  rw [Go.ByteArray.toList_eq, Go.ByteArray.toList_eq, ByteArray.data_extract, Array.toList_extract]
  simp
theorem beg_cut (x v : ByteArray) : ((x.extract 0 v.size).toList == v.toList) = begB x v := by
  rw [Bool.eq_iff_iff, beg_iff, beq_iff_eq, extract_list, List.prefix_iff_eq_take, size_list]
  exact ⟨fun h => h.symm, fun h => h.symm⟩
set_option maxHeartbeats 1000000 in
theorem begins_any (x v : ByteArray) (w : World) (_hx : x.size ≤ maxLen) (_hv : v.size ≤ maxLen) : Calls Tryz.prog 13 #[.string x, .string v] w fun e w' => e = .returned (.bool (begB x v)) ∧ w' = w := by
  by_cases h : v.size ≤ x.size
  · have hi : (v.size : Int) ≤ (x.size : Int) := by omega
    go_enter Tryz.func13, Tryz.ntmps13
    go_wp2_with fail
    go_ret
    exact ⟨ret_bool (beg_cut x v), rfl⟩
  · have hb : begB x v = false := Bool.not_eq_true _ |>.mp fun hc => by
      have := (beg_iff.1 hc).length_le
      rw [size_list, size_list] at this
      omega
    rw [hb]
    have hi : ¬ (v.size : Int) ≤ (x.size : Int) := by omega
    go_enter Tryz.func13, Tryz.ntmps13
    go_wp2_with fail
    go_ret
    exact ⟨rfl, rfl⟩
theorem idx_get {l : List ByteArray} {x : ByteArray} (hx : x ∈ l) : (keysI l)[idxT (keysI l) x]? = some x := by
  obtain ⟨i, hi, e⟩ := List.getElem_of_mem ((keysI_mem l x).2 hx)
  have hr : (keysI l).Pairwise tlt := by rw [← keys_eq]; exact (refKeys_ok l).1
  have := idxT_get (nodup_tlt hr) hi
  rw [e] at this
  rw [this, List.getElem?_eq_getElem hi, e]
set_option maxRecDepth 8000 in
set_option maxHeartbeats 4000000 in
theorem walk_dictTextOrder (W : World) (a0 : Option Addr) (n0 c0 : Nat) (l : List ByteArray) (v : ByteArray) (hL : SArg W a0 n0 c0 l) (hv : v.size ≤ maxLen) :
    Calls Tryz.prog 4 #[.slice a0 n0 c0, .string v] W fun e W' => e = .returned (.bool true) ∧ Below W.heap.size W W' := by
  have e0 := hL.len
  subst e0
  have hn : l.length ≤ 1048576 := by have := hL.small; omega
  have HA := hid hL.strs
  have HOK : Hid (∀ x ∈ l, OkT x) := fun x hx => by
    have h1 := size_le hx
    have h2 := hL.small
    unfold OkT maxLen
    omega
  have HNIL := hid hL.nil
  have hK := keysI_le l
  have HBG := hid (fun x (hx : x ∈ keysI l) wx => begins_any x v wx (HOK.out x ((keysI_mem l x).1 hx)) hv)
  have HR : Hid ((keysI l).Pairwise tlt) := by show _; rw [← keys_eq]; exact (refKeys_ok l).1
  have HMK : Hid (∀ x, x ∈ l → x ∈ keysI l) := fun x hx => (keysI_mem l x).2 hx
  have HIG := hid (fun x hx => idx_get (l := l) (x := x) hx)
  have HKW := hid (known_yes W)
  clear hL
  go_enter Tryz.func4, Tryz.ntmps4
  go_wp2_with fail
  refine HKW.out.mono ?_
  rintro e w1 ⟨rfl, b1⟩
  have HA1 := hid (HA.out.later b1)
  have B1 := hid b1
  have HIW := hid (texts_any a0 l c0 w1 HA1.out HNIL.out (by omega))
  clear b1 HKW HA
  go_wp2_with fail
  refine HIW.out.mono ?_
  rintro e w3 ⟨v3, rfl, o3, b3⟩
  obtain ⟨a3, c3, rfl, _, _, _, i3⟩ := o3.form
  have HA3 := hid (HA1.out.later b3)
  have B3 := hid (below_up B1.out b3)
  have HBD := hid (build_any a3 l c3 w3 i3 HOK.out (by omega))
  clear o3 i3 b3 B1 HA1 HIW
  go_wp2_with fail
  refine HBD.out.mono ?_
  rintro e w4 ⟨g4, c4, a5, c5, rfl, hk4, hc4, b4⟩
  have HA4 := hid (HA3.out.later b4)
  have B4 := hid (below_up B3.out b4)
  have KS := hid (row_strs hk4)
  have CS := hid (fun (j : Nat) (x : Nat) (hx : (codesI l)[j]? = some x) => row_cell hc4 (j := j) (x := .int .u32 (x : Int)) (by unfold cvals; rw [List.getElem?_map, hx]; rfl))
  have HFL := hid (floorT_any (some ⟨g4, 0, none⟩) (keysI l) c4 v w4 KS.out (by omega))
  have HCL : Hid (∀ j x, l[j]? = some x → (codesI l)[j]? = some (idxT (keysI l) x)) := fun j x hx => by unfold codesI; rw [List.getElem?_map, hx]; rfl
  clear hk4 hc4 b4 B3 HA3 HBD
  generalize keysI l = K at *
  generalize codesI l = CC at *
  obtain ⟨kn, hkn⟩ : ∃ kn, K.length = kn := ⟨_, rfl⟩
  have HKN := hid hkn
  rw [hkn] at HFL hK ⊢
  clear hkn
  go_wp2_with fail
  refine HFL.out.mono ?_
  rintro e w5 ⟨f, rfl, hf, hs, hw5⟩
  subst w5
  have HSR := hid hs
  have hf0 : ¬ (f : Int) < 0 := by omega
  have hf1 : ¬ (kn : Int) < (f : Int) := by omega
  have hfd0 : decide ((f : Int) < 0) = false := by simp
  have hfd1 : decide ((kn : Int) < (f : Int)) = false := by simpa using hf1
  have hfd2 : decide (kn < f) = false := by simp; omega
  clear hs HFL
  go_wp2_with fail
  go_loopw [8] (fun y wr => ∃ e : Nat, f ≤ e ∧ e ≤ kn ∧ y = .int .i64 (e : Int) ∧ Hid (∀ j s, f ≤ j → j < e → K[j]? = some s → begB s v = true) ∧ wr = w4) (fun y _ => kn - (intOf y).toNat)
  case atStart => exact ⟨f, Nat.le_refl _, hf, rfl, fun j s h1 h2 => by omega, rfl⟩
  case round =>
    obtain ⟨en, hfe, hen, rfl, HE, hwr⟩ := hrel
    subst hwr
    have HCONT : Hid ((∀ s, K[en]? = some s → begB s v = false) → ∀ q x, K[q]? = some x → ltB x v = decide (q < f) ∧ begB x v = (decide (f ≤ q) && decide (q < en))) := fun hend q x hx =>
      ⟨srch_lt HR.out (by rw [HKN.out]; exact hf) HSR.out hx, beg_run HR.out (by rw [HKN.out]; exact hf) HSR.out hfe HE.out hend hx⟩
    by_cases hlt : en < kn
    · have hii : (en : Int) < (kn : Int) := by omega
      have hx : K[en]? = some (K[en]'(by rw [HKN.out]; exact hlt)) := List.getElem?_eq_getElem _
      have HB := hid (HBG.out _ (List.mem_of_getElem? hx) wr)
      generalize (K[en]'(by rw [HKN.out]; exact hlt)) = x at hx HB
      obtain ⟨g, o, ea, -, hc⟩ := KS.out en _ hx
      cases ea
      rw [Nat.zero_add] at hc
      cases hb : begB x v with
      | true =>
        rw [hb] at HB
        have HE2 : Hid (∀ j s, f ≤ j → j < en + 1 → K[j]? = some s → begB s v = true) := fun j s h1 h2 h3 => by
          by_cases e : j = en
          · subst e; rw [hx] at h3; cases h3; exact hb
          · exact HE.out j s h1 (by omega) h3
        clear HCONT hx hb HE
        go_wp2_with fail
        refine HB.out.mono ?_
        rintro e wz ⟨rfl, hwz⟩
        subst wz
        go_wp2_with fail
        exact ⟨⟨en + 1, by omega, by omega, by go_num, HE2, trivial⟩, by simp [intOf]; omega⟩
      | false =>
        rw [hb] at HB
        have HC := hid (HCONT.out (fun s hs => by rw [hx] at hs; cases hs; exact hb))
        clear HCONT hx hb HE
        go_wp2_with fail
        refine HB.out.mono ?_
        rintro e wz ⟨rfl, hwz⟩
        subst wz
        clear HB hc
        go_wp2_with fail
        generalize hw4e : wr = w4 at *
        clear hw4e
        go_loopw [9] (fun y wr => ∃ i : Nat, i ≤ l.length ∧ y = .int .i64 (i : Int) ∧ Hid (∃ m, wr = w4.drewN m)) (fun y _ => l.length - (intOf y).toNat)
        case atStart => exact ⟨0, Nat.zero_le _, rfl, 0, rfl⟩
        case round =>
          obtain ⟨i, hi, rfl, HW⟩ := hrel
          obtain ⟨m, hwr⟩ := HW.out
          have HWR := hid hwr
          by_cases hlt2 : i < l.length
          · have hii2 : (i : Int) < (l.length : Int) := by omega
            have hx : l[i]? = some l[i] := List.getElem?_eq_getElem hlt2
            have HXM : Hid (l[i] ∈ K) := HMK.out _ (List.getElem_mem hlt2)
            have hq := HIG.out _ (List.getElem_mem hlt2)
            have hcc := HCL.out i _ hx
            generalize l[i] = x at hx HXM hq hcc
            obtain ⟨g1, o1, rfl, -, hc1⟩ := HA4.out i _ hx
            generalize idxT K x = q at hq hcc
            have hqk : q < kn := by rw [← HKN.out]; exact (List.getElem?_eq_some_iff.1 hq).1
            obtain ⟨g5, rfl, hc5⟩ := CS.out i q hcc
            obtain ⟨g2, o2, ea, -, hc2⟩ := KS.out q _ hq
            cases ea
            rw [Nat.zero_add] at hc2
            obtain ⟨hl1, hl2⟩ := HC.out q x hq
            have hbl : Op.bytesLess x.toList v.toList = ltB x v := rfl
            have k1 : wr.cell? ⟨g1, o1 + i, none⟩ = some (.string x) := by rw [hwr]; exact hc1
            have k2 : wr.cell? ⟨g4, q, none⟩ = some (.string x) := by rw [hwr]; exact hc2
            have k5 : wr.cell? ⟨g5, i, none⟩ = some (.int .u32 (q : Int)) := by rw [hwr]; exact hc5
            have hq0 : decide ((q : Int) < 0) = false := by simp
            have hq1 : decide ((kn : Int) ≤ (q : Int)) = false := by simp; omega
            have hq1n : decide (kn ≤ q) = false := by simp; omega
            have hqq : (q : Int) < (kn : Int) := by omega
            have hss : (x.toList == x.toList) = true := by simp
            clear hc1 hc2 hc5 hx hq hcc hwr HW
            by_cases h1 : q < f
            · have d1 : decide ((q : Int) < (f : Int)) = true := by simp; omega
              have d1n : decide (q < f) = true := by simp; omega
              have d2 : decide ((f : Int) ≤ (q : Int)) = false := by simp; omega
              have d2n : decide (f ≤ q) = false := by simp; omega
              rw [decide_eq_true h1] at hl1
              rw [decide_eq_false (show ¬ f ≤ q by omega), Bool.false_and] at hl2
              have HL1 := hid hl1
              have HL2 := hid hl2
              clear hl1 hl2 h1
              rw [HL1.out] at hbl
              have HG := hid (HBG.out x HXM.out)
              rw [HL2.out] at HG
              go_wp2_with fail
              go_quiet ((go_at_call 13; exact Calls.quiet_of_same (HG.out _)))
              go_wp2_with fail
              exact ⟨⟨i + 1, by omega, by go_num, by show _; exact ⟨m + nq, by rw [HWR.out]; simp⟩⟩, by simp [intOf]; omega⟩
            · have d1 : decide ((q : Int) < (f : Int)) = false := by simp; omega
              have d1n : decide (q < f) = false := by simp; omega
              have d2 : decide ((f : Int) ≤ (q : Int)) = true := by simp; omega
              have d2n : decide (f ≤ q) = true := by simp; omega
              rw [decide_eq_false h1] at hl1
              by_cases h2 : q < en
              · have d3 : decide ((q : Int) < (en : Int)) = true := by simp; omega
                have d3n : decide (q < en) = true := by simp; omega
                rw [decide_eq_true (show f ≤ q by omega), decide_eq_true h2, Bool.true_and] at hl2
                have HL1 := hid hl1
                have HL2 := hid hl2
                clear hl1 hl2 h1 h2
                rw [HL1.out] at hbl
                have HG := hid (HBG.out x HXM.out)
                rw [HL2.out] at HG
                go_wp2_with fail
                go_quiet ((go_at_call 13; exact Calls.quiet_of_same (HG.out _)))
                go_wp2_with fail
                exact ⟨⟨i + 1, by omega, by go_num, by show _; exact ⟨m + nq, by rw [HWR.out]; simp⟩⟩, by simp [intOf]; omega⟩
              · have d3 : decide ((q : Int) < (en : Int)) = false := by simp; omega
                have d3n : decide (q < en) = false := by simp; omega
                rw [decide_eq_true (show f ≤ q by omega), decide_eq_false h2, Bool.true_and] at hl2
                have HL1 := hid hl1
                have HL2 := hid hl2
                clear hl1 hl2 h1 h2
                rw [HL1.out] at hbl
                have HG := hid (HBG.out x HXM.out)
                rw [HL2.out] at HG
                go_wp2_with fail
                go_quiet ((go_at_call 13; exact Calls.quiet_of_same (HG.out _)))
                go_wp2_with fail
                exact ⟨⟨i + 1, by omega, by go_num, by show _; exact ⟨m + nq, by rw [HWR.out]; simp⟩⟩, by simp [intOf]; omega⟩
          · have hii2 : ¬ (i : Int) < (l.length : Int) := by omega
            have HF : Hid (Below W.heap.size W wr) := by rw [hwr]; exact below_drewN B4.out m
            clear hwr HW HWR
            go_wp2_with fail
            go_ret
            exact ⟨rfl, HF.out⟩
    · obtain rfl : en = kn := by omega
      have hii : ¬ (en : Int) < (en : Int) := by omega
      have HC := hid (HCONT.out (fun s hs => by rw [List.getElem?_eq_none (by rw [HKN.out]; omega)] at hs; cases hs))
      clear HCONT HE
      go_wp2_with fail
      generalize hw4e : wr = w4 at *
      clear hw4e
      go_loopw [9] (fun y wr => ∃ i : Nat, i ≤ l.length ∧ y = .int .i64 (i : Int) ∧ Hid (∃ m, wr = w4.drewN m)) (fun y _ => l.length - (intOf y).toNat)
      case atStart => exact ⟨0, Nat.zero_le _, rfl, 0, rfl⟩
      case round =>
        obtain ⟨i, hi, rfl, HW⟩ := hrel
        obtain ⟨m, hwr⟩ := HW.out
        have HWR := hid hwr
        by_cases hlt2 : i < l.length
        · have hii2 : (i : Int) < (l.length : Int) := by omega
          have hx : l[i]? = some l[i] := List.getElem?_eq_getElem hlt2
          have HXM : Hid (l[i] ∈ K) := HMK.out _ (List.getElem_mem hlt2)
          have hq := HIG.out _ (List.getElem_mem hlt2)
          have hcc := HCL.out i _ hx
          generalize l[i] = x at hx HXM hq hcc
          obtain ⟨g1, o1, rfl, -, hc1⟩ := HA4.out i _ hx
          generalize idxT K x = q at hq hcc
          have hqk : q < en := by rw [← HKN.out]; exact (List.getElem?_eq_some_iff.1 hq).1
          obtain ⟨g5, rfl, hc5⟩ := CS.out i q hcc
          obtain ⟨g2, o2, ea, -, hc2⟩ := KS.out q _ hq
          cases ea
          rw [Nat.zero_add] at hc2
          obtain ⟨hl1, hl2⟩ := HC.out q x hq
          have hbl : Op.bytesLess x.toList v.toList = ltB x v := rfl
          have k1 : wr.cell? ⟨g1, o1 + i, none⟩ = some (.string x) := by rw [hwr]; exact hc1
          have k2 : wr.cell? ⟨g4, q, none⟩ = some (.string x) := by rw [hwr]; exact hc2
          have k5 : wr.cell? ⟨g5, i, none⟩ = some (.int .u32 (q : Int)) := by rw [hwr]; exact hc5
          have hq0 : decide ((q : Int) < 0) = false := by simp
          have hq1 : decide ((en : Int) ≤ (q : Int)) = false := by simp; omega
          have hq1n : decide (en ≤ q) = false := by simp; omega
          have hqq : (q : Int) < (en : Int) := by omega
          have hss : (x.toList == x.toList) = true := by simp
          clear hc1 hc2 hc5 hx hq hcc hwr HW
          by_cases h1 : q < f
          · have d1 : decide ((q : Int) < (f : Int)) = true := by simp; omega
            have d1n : decide (q < f) = true := by simp; omega
            have d2 : decide ((f : Int) ≤ (q : Int)) = false := by simp; omega
            have d2n : decide (f ≤ q) = false := by simp; omega
            rw [decide_eq_true h1] at hl1
            rw [decide_eq_false (show ¬ f ≤ q by omega), Bool.false_and] at hl2
            have HL1 := hid hl1
            have HL2 := hid hl2
            clear hl1 hl2 h1
            rw [HL1.out] at hbl
            have HG := hid (HBG.out x HXM.out)
            rw [HL2.out] at HG
            go_wp2_with fail
            go_quiet ((go_at_call 13; exact Calls.quiet_of_same (HG.out _)))
            go_wp2_with fail
            exact ⟨⟨i + 1, by omega, by go_num, by show _; exact ⟨m + nq, by rw [HWR.out]; simp⟩⟩, by simp [intOf]; omega⟩
          · have d1 : decide ((q : Int) < (f : Int)) = false := by simp; omega
            have d1n : decide (q < f) = false := by simp; omega
            have d2 : decide ((f : Int) ≤ (q : Int)) = true := by simp; omega
            have d2n : decide (f ≤ q) = true := by simp; omega
            rw [decide_eq_false h1] at hl1
            by_cases h2 : q < en
            · have d3 : decide ((q : Int) < (en : Int)) = true := by simp; omega
              have d3n : decide (q < en) = true := by simp; omega
              rw [decide_eq_true (show f ≤ q by omega), decide_eq_true h2, Bool.true_and] at hl2
              have HL1 := hid hl1
              have HL2 := hid hl2
              clear hl1 hl2 h1 h2
              rw [HL1.out] at hbl
              have HG := hid (HBG.out x HXM.out)
              rw [HL2.out] at HG
              go_wp2_with fail
              go_quiet ((go_at_call 13; exact Calls.quiet_of_same (HG.out _)))
              go_wp2_with fail
              exact ⟨⟨i + 1, by omega, by go_num, by show _; exact ⟨m + nq, by rw [HWR.out]; simp⟩⟩, by simp [intOf]; omega⟩
            · exact absurd hqk h2
        · have hii2 : ¬ (i : Int) < (l.length : Int) := by omega
          have HF : Hid (Below W.heap.size W wr) := by rw [hwr]; exact below_drewN B4.out m
          clear hwr HW HWR
          go_wp2_with fail
          go_ret
          exact ⟨rfl, HF.out⟩
end Go.Proofs.YtcbkoeagfhpghaaGreat.Tx
