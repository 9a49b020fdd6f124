/-
  The walk of DictFloors.
-/
import Derived.Test.YtjkblkjpcbjhnaaDKnown
import Derived.Test.YtjkblkjpcbjhnaaDArgs
import Derived.Test.YtjkblkjpcbjhnaaDRefKeysW
import Derived.Test.YtjkblkjpcbjhnaaDKeysEq
import Derived.Test.YtjkblkjpcbjhnaaDTFind
namespace Go.Proofs.Ytjkblkjpcbjhnaa
open Go.ChangeShapes Go.WideShapes Go.ChangeAt Go.RowKit Cu

theorem count_next {K : List Int} {v : Int} {i : Nat} {x : Int} (hx : K[i]? = some x) : (K.take (i + 1)).countP (fun s => decide (s < v)) = (K.take i).countP (fun s => decide (s < v)) + (if x < v then 1 else 0) := by
  rw [List.take_add_one, hx, List.countP_append]
  by_cases h : x < v <;> simp [h]
theorem countT_next {K : List ByteArray} {v : ByteArray} {i : Nat} {x : ByteArray} (hx : K[i]? = some x) : (K.take (i + 1)).countP (fun s => Tx.ltB s v) = (K.take i).countP (fun s => Tx.ltB s v) + (if Tx.ltB x v = true then 1 else 0) := by
  rw [List.take_add_one, hx, List.countP_append]
  by_cases h : Tx.ltB x v = true <;> simp [h]
set_option maxRecDepth 8000 in
set_option maxHeartbeats 8000000 in
theorem walk_dictFloors (W : World) (a0 : Option Addr) (n0 c0 : Nat) (l : List Int) (v : Int) (a2 : Option Addr) (n2 c2 : Nat) (M : List ByteArray) (hL0 : IArgD W a0 n0 c0 l) (_hv : -9223372036854775808 ≤ v ∧ v ≤ 9223372036854775807) (hL2 : SArgF W a2 n2 c2 M) :
    Calls Try.prog 3 #[.slice a0 n0 c0, .int .i64 v, .slice a2 n2 c2] W fun e W' => e = .returned (.bool true) ∧ Below W.heap.size W W' := by
  obtain ⟨rfl, hI, -, hnil, hle, hsm⟩ := hL0
  obtain ⟨rfl, hS, hnil2, hle2, hsm2, -⟩ := hL2
  have hl8 : l.length ≤ 17592186043904 := by omega
  have hm8 : M.length ≤ 8796093021952 := by omega
  have HK := hid (known_yes W)
  have HI := hid hI
  have HS := hid hS
  have HNIL := hid hnil
  have HNIL2 := hid hnil2
  obtain ⟨hKr, hKm⟩ := refKeys_ok l
  have hKl := refKeys_len l
  have HKR := hid hKr
  have HRK := hid (fun wx h => rKeys a0 l c0 wx h hl8)
  obtain ⟨hTr, hTm⟩ := Tx.refKeys_ok M
  have hTl := Tx.refKeys_len M
  have HTR := hid hTr
  have HTM := hid hTm
  have HRT := hid (fun wx h => Tx.rKeys a2 M c2 wx h hm8)
  clear hI hS hnil hnil2 hKr hKm hTr hTm
  generalize refKeys l = K at *
  generalize Tx.refKeys M = TK at *
  go_enter Try.func3, Try.ntmps3
  go_wp2_with fail
  refine HK.out.mono ?_
  rintro e w1 ⟨rfl, b1⟩
  have HI1 := hid (HI.out.later b1)
  have HS1 := hid (HS.out.later b1)
  have B1 := hid b1
  clear b1 HK HI HS
  go_wp2_with fail
  refine (HRK.out _ HI1.out).mono ?_
  rintro e w2 ⟨v2, rfl, o2, b2⟩
  obtain ⟨a1, c1, rfl, hc1, -, nl1, i1⟩ := o2.form
  have HI2 := hid (HI1.out.later b2)
  have HS2 := hid (HS1.out.later b2)
  have B2 := hid (below_up B1.out b2)
  have I1 := hid i1
  have NL1 := hid nl1
  clear b2 HI1 HS1 HRK B1 o2 i1 nl1
  obtain ⟨kn, hkn⟩ : ∃ kn, K.length = kn := ⟨_, rfl⟩
  have HKN := hid hkn
  rw [hkn] at hKl hc1 ⊢
  clear hkn
  go_wp2_with fail
  go_loopw [8, 9] (fun x y wr => ∃ i m : Nat, i ≤ kn ∧ m ≤ i ∧ y = .int .i64 (i : Int) ∧ x = .int .i64 (m : Int) ∧ Hid (m = (K.take i).countP (fun s => decide (s < v))) ∧ wr = w2) (fun _ y _ => kn - (intOf y).toNat)
  case atStart => exact ⟨0, 0, Nat.zero_le _, Nat.le_refl _, rfl, rfl, rfl, rfl⟩
  case round =>
    obtain ⟨i, m, hi, hmi, rfl, rfl, HM, hwr⟩ := hrel
    subst hwr
    by_cases hlt : i < kn
    · have hii : (i : Int) < (kn : Int) := by omega
      have hx : K[i]? = some (K[i]'(by rw [HKN.out]; exact hlt)) := List.getElem?_eq_getElem _
      generalize (K[i]'(by rw [HKN.out]; exact hlt)) = x at hx
      obtain ⟨g, o, rfl, -, hc⟩ := I1.out i _ hx
      have hcn := count_next (v := v) hx
      by_cases hxv : x < v
      · have HM2 : Hid (m + 1 = (K.take (i + 1)).countP (fun s => decide (s < v))) := by show _ = _; rw [hcn, if_pos hxv, ← HM.out]
        clear hcn hx HM
        go_wp2_with fail
        exact ⟨⟨i + 1, m + 1, by omega, by omega, by go_num, by go_num, HM2, trivial⟩, by simp [intOf]; omega⟩
      · have HM2 : Hid (m = (K.take (i + 1)).countP (fun s => decide (s < v))) := by show _ = _; rw [hcn, if_neg hxv, ← HM.out]; rfl
        clear hcn hx HM
        go_wp2_with fail
        exact ⟨⟨i + 1, m, by omega, by omega, by go_num, rfl, HM2, trivial⟩, by simp [intOf]; omega⟩
    · obtain rfl : i = kn := by omega
      have hii : ¬ (i : Int) < (i : Int) := by omega
      have HMC : Hid (m = K.countP (fun s => decide (s < v))) := by
        have := HM.out
        rw [← HKN.out, List.take_length] at this
        exact this
      have HFI := hid (fun a c wx h => Tx.findI_any a K c v wx h (by rw [HKN.out]; omega))
      have HFL := hid (fun a c wx h => Tx.floorI_any a K c v wx h (by rw [HKN.out]; omega))
      have HIN := hid (fun wx h => ints_any a1 K c1 wx h NL1.out (by rw [HKN.out]; omega))
      have HIL := hid (fun wx h => ints_any a0 l c0 wx h HNIL.out (by omega))
      have HFA := hid (fun a c wx h => Tx.floorI_any a l c v wx h hl8)
      rw [HKN.out] at HFI HFL HIN
      have HSC : Hid (∀ j, j ≤ i → Tx.SrchI K v j j → j = m) := fun j hj hs => by rw [HMC.out]; exact (Tx.srch_countI HKR.out (by rw [HKN.out]; exact hj) hs).symm
      clear HM HNIL HKR HMC
      obtain ⟨bb, hbb⟩ : ∃ bb : Bool, decide (K[m]? = some v) = bb := ⟨_, rfl⟩
      have hcase : (m < i ∧ ∃ x, K[m]? = some x ∧ (x == v) = bb) ∨ (m = i ∧ bb = false) := by
        by_cases h : m < i
        · have hx : K[m]? = some (K[m]'(by rw [HKN.out]; exact h)) := List.getElem?_eq_getElem _
          refine .inl ⟨h, _, hx, ?_⟩
          rw [← hbb, hx]
          by_cases e : (K[m]'(by rw [HKN.out]; exact h)) = v <;> simp [e]
        · refine .inr ⟨by omega, ?_⟩
          rw [← hbb, List.getElem?_eq_none (by rw [HKN.out]; omega)]
          simp
      have HFI2 : Hid (∀ a c wx, IntsA wx a K → Calls Try.prog 7 #[.slice a i c, .int .i64 v] wx fun e w' => e = .returned (.tuple #[.int .i64 ((if bb = true then m else 0 : Nat) : Int), .bool bb]) ∧ w' = wx) := fun a c wx h => (HFI.out a c wx h).mono fun e w' ⟨j, he, hj, hs, hw⟩ => by
        have := HSC.out j hj hs
        subst this
        refine ⟨?_, hw⟩
        rw [he, hbb]
        by_cases h2 : K[j]? = some v
        · rw [if_pos h2, ← hbb, if_pos (decide_eq_true h2)]
        · rw [if_neg h2, ← hbb, if_neg (by simpa using h2)]
      have HFL2 : Hid (∀ a c wx, IntsA wx a K → Calls Try.prog 9 #[.slice a i c, .int .i64 v] wx fun e w' => e = .returned (.int .i64 (m : Int)) ∧ w' = wx) := fun a c wx h => (HFL.out a c wx h).mono fun e w' ⟨j, he, hj, hs, hw⟩ => by
        have := HSC.out j hj hs
        subst this
        exact ⟨he, hw⟩
      clear hbb HFI HFL HSC
      rcases hcase with ⟨hmi2, x, hx, hxb⟩ | ⟨hmi2, hbf⟩
      · have hmm : (m : Int) < (i : Int) := by omega
        obtain ⟨g, o, rfl, -, hc⟩ := I1.out m _ hx
        clear hx
        cases bb with
        | true =>
          rw [if_pos rfl] at HFI2
          go_wp2_with fail
          refine (HIN.out _ I1.out).mono ?_
          rintro e w3 ⟨v3, rfl, o3, b3⟩
          obtain ⟨a3, c3, hv3, -, -, -, i3⟩ := o3.form
          rw [HKN.out] at hv3
          subst hv3
          have F3 := hid (HFI2.out a3 c3 w3 i3)
          have I3 := hid (I1.out.later b3)
          have HI3 := hid (HI2.out.later b3)
          have HS3 := hid (HS2.out.later b3)
          have B3 := hid (below_up B2.out b3)
          clear o3 b3 i3 I1 HI2 HS2 B2 HFI2
          go_wp2_with fail
          refine F3.out.mono ?_
          rintro e w4 ⟨rfl, hw4⟩
          subst w4
          clear F3
          go_wp2_with fail
          refine (HIN.out _ I3.out).mono ?_
          rintro e w5 ⟨v5, rfl, o5, b5⟩
          obtain ⟨a5, c5, hv5, -, -, -, i5⟩ := o5.form
          rw [HKN.out] at hv5
          subst hv5
          have F5 := hid (HFL2.out a5 c5 w5 i5)
          have HI5 := hid (HI3.out.later b5)
          have HS5 := hid (HS3.out.later b5)
          have B5 := hid (below_up B3.out b5)
          clear o5 b5 i5 I3 HI3 HS3 B3 HFL2 HIN
          go_wp2_with fail
          refine F5.out.mono ?_
          rintro e w6 ⟨rfl, hw6⟩
          subst w6
          clear F5
          go_wp2_with fail
          refine (HIL.out _ HI5.out).mono ?_
          rintro e w7 ⟨v7, rfl, o7, b7⟩
          obtain ⟨a7, c7, rfl, -, -, -, i7⟩ := o7.form
          have F7 := hid (HFA.out a7 c7 w7 i7)
          have HS7 := hid (HS5.out.later b7)
          have B7 := hid (below_up B5.out b7)
          clear o7 b7 i7 HI5 HS5 B5 HIL HFA
          go_wp2_with fail
          refine F7.out.mono ?_
          rintro e w8 ⟨ja, rfl, hja, -, hw8⟩
          subst w8
          have hj0 : ¬ (ja : Int) < 0 := by omega
          have hj1 : ¬ (l.length : Int) < (ja : Int) := by omega
          clear F7
          by_cases hM : M.length = 0
          · have hMi : ¬ (0 : Int) < (M.length : Int) := by omega
            have HTE : Hid (TK = []) := by
              refine List.eq_nil_iff_forall_not_mem.2 fun x hx => ?_
              have := (HTM.out x).1 hx
              rw [List.eq_nil_of_length_eq_zero hM] at this
              cases this
            obtain ⟨t, ht⟩ : ∃ t : ByteArray, (⟨#[]⟩ : ByteArray) = t := ⟨_, rfl⟩
            have HQT := hid ht
            clear HTM hM ht
            go_wp2_with fail
            rw [HQT.out]
            have HRX := hid (HRT.out _ HS7.out)
            refine HRX.out.mono ?_
            rintro e w8 ⟨v8, rfl, o8, b8⟩
            obtain ⟨a8, c8, rfl, -, -, nl8, i8⟩ := o8.form
            have B8 := hid (below_up B7.out b8)
            have I8 := hid i8
            obtain ⟨tn, htn⟩ : ∃ tn, TK.length = tn := ⟨_, rfl⟩
            have HTN := hid htn
            have HTX := hid (fun wx h => Tx.texts_any a8 TK c8 wx h nl8 (by omega))
            have HFT := hid (fun a c wx h => Tx.findT_any a TK c t wx h (by omega))
            have HFO := hid (fun a c wx h => Tx.floorT_any a TK c t wx h (by omega))
            rw [htn] at hTl HTX HFT HFO ⊢
            clear o8 b8 i8 nl8 HRX HRT B7 HS7 htn
            go_wp2_with fail
            go_loopw [8, 16] (fun x y wr => ∃ i m : Nat, i ≤ tn ∧ m ≤ i ∧ y = .int .i64 (i : Int) ∧ x = .int .i64 (m : Int) ∧ Hid (m = (TK.take i).countP (fun s => Tx.ltB s t)) ∧ wr = w8) (fun _ y _ => tn - (intOf y).toNat)
            case atStart => exact ⟨0, 0, Nat.zero_le _, Nat.le_refl _, rfl, rfl, rfl, rfl⟩
            case round =>
              obtain ⟨i, m, hi, hmi, rfl, rfl, HM, hwr⟩ := hrel
              subst hwr
              by_cases hlt : i < tn
              · have hii : (i : Int) < (tn : Int) := by omega
                have hx : TK[i]? = some (TK[i]'(by rw [HTN.out]; exact hlt)) := List.getElem?_eq_getElem _
                generalize (TK[i]'(by rw [HTN.out]; exact hlt)) = x at hx
                obtain ⟨g, o, rfl, -, hc⟩ := I8.out i _ hx
                have hcn := countT_next (v := t) hx
                have hbl : Op.bytesLess x.toList t.toList = Tx.ltB x t := rfl
                cases hxv : Tx.ltB x t with
                | true =>
                  have HM2 : Hid (m + 1 = (TK.take (i + 1)).countP (fun s => Tx.ltB s t)) := by show _ = _; rw [hcn, if_pos hxv, ← HM.out]
                  rw [hxv] at hbl
                  clear hcn hx HM hxv
                  go_wp2_with fail
                  exact ⟨⟨i + 1, m + 1, by omega, by omega, by go_num, by go_num, HM2, trivial⟩, by simp [intOf]; omega⟩
                | false =>
                  have HM2 : Hid (m = (TK.take (i + 1)).countP (fun s => Tx.ltB s t)) := by show _ = _; rw [hcn, hxv, ← HM.out]; rfl
                  rw [hxv] at hbl
                  clear hcn hx HM hxv
                  go_wp2_with fail
                  exact ⟨⟨i + 1, m, by omega, by omega, by go_num, rfl, HM2, trivial⟩, by simp [intOf]; omega⟩
              · obtain rfl : i = tn := by omega
                have hii : ¬ (i : Int) < (i : Int) := by omega
                have HMC : Hid (m = TK.countP (fun s => Tx.ltB s t)) := by
                  have := HM.out
                  rw [← HTN.out, List.take_length] at this
                  exact this
                have HSC2 : Hid (∀ j, j ≤ i → Tx.Srch TK t j j → j = m ∧ decide (TK[j]? = some t) = false) := fun j hj hs => by
                  refine ⟨by rw [HMC.out]; exact (Tx.srch_count HTR.out (by rw [HTN.out]; exact hj) hs).symm, ?_⟩
                  rw [HTE.out]; simp
                clear HM HMC
                go_wp2_with fail
                refine (HTX.out _ I8.out).mono ?_
                rintro e w9 ⟨v9, rfl, o9, b9⟩
                obtain ⟨a9, c9, hv9, -, -, -, i9⟩ := o9.form
                rw [HTN.out] at hv9
                subst hv9
                have B9 := hid (below_up B8.out b9)
                have I9 := hid (I8.out.later b9)
                have F9 := hid (HFT.out a9 c9 w9 i9)
                clear o9 b9 i9 B8 I8 HFT
                go_wp2_with fail
                refine F9.out.mono ?_
                rintro e wA ⟨j, rfl, hj, hs, hw⟩
                subst wA
                obtain ⟨hjm, hjd⟩ := HSC2.out j hj hs
                subst hjm
                rw [hjd]
                rw [if_neg (of_decide_eq_false hjd), show ((0 : Nat) : Int) = 0 from rfl]
                clear hs hjd F9
                go_wp2_with fail
                refine (HTX.out _ I9.out).mono ?_
                rintro e wB ⟨vB, rfl, oB, bB⟩
                obtain ⟨aB, cB, hvB, -, -, -, iB⟩ := oB.form
                rw [HTN.out] at hvB
                subst hvB
                have BB := hid (below_up B9.out bB)
                have FB := hid (HFO.out aB cB wB iB)
                clear oB bB iB B9 I9 HFO HTX
                go_wp2_with fail
                refine FB.out.mono ?_
                rintro e wC ⟨j2, rfl, hj2, hs2, hw2⟩
                subst wC
                obtain ⟨hjm2, -⟩ := HSC2.out j2 hj2 hs2
                subst hjm2
                clear hs2 FB HSC2
                go_wp2_with fail
                go_ret
                exact ⟨ret_bool (by simp), BB.out⟩
          · have hMi : (0 : Int) < (M.length : Int) := by omega
            obtain ⟨q, hq⟩ : ∃ q, M.length - 1 = q := ⟨_, rfl⟩
            have hqi : (M.length : Int) - 1 = (q : Int) := by omega
            have hql : q < M.length := by omega
            have hqli : (q : Int) < (M.length : Int) := by omega
            have hx : M[q]? = some M[q] := List.getElem?_eq_getElem hql
            obtain ⟨g7, o7, rfl, -, hc7⟩ := HS7.out q _ hx
            have HTT : Hid (M[q] ∈ TK) := (HTM.out _).2 (List.getElem_mem hql)
            generalize M[q] = t at hx hc7 HTT
            clear HTM hM hq hx
            have HRX := hid (HRT.out _ HS7.out)
            go_wp2_with fail
            refine HRX.out.mono ?_
            rintro e w8 ⟨v8, rfl, o8, b8⟩
            obtain ⟨a8, c8, rfl, -, -, nl8, i8⟩ := o8.form
            have B8 := hid (below_up B7.out b8)
            have I8 := hid i8
            obtain ⟨tn, htn⟩ : ∃ tn, TK.length = tn := ⟨_, rfl⟩
            have HTN := hid htn
            have HTX := hid (fun wx h => Tx.texts_any a8 TK c8 wx h nl8 (by omega))
            have HFT := hid (fun a c wx h => Tx.findT_any a TK c t wx h (by omega))
            have HFO := hid (fun a c wx h => Tx.floorT_any a TK c t wx h (by omega))
            rw [htn] at hTl HTX HFT HFO ⊢
            clear o8 b8 i8 nl8 HRX HRT B7 HS7 htn
            go_wp2_with fail
            go_loopw [8, 16] (fun x y wr => ∃ i m : Nat, i ≤ tn ∧ m ≤ i ∧ y = .int .i64 (i : Int) ∧ x = .int .i64 (m : Int) ∧ Hid (m = (TK.take i).countP (fun s => Tx.ltB s t)) ∧ wr = w8) (fun _ y _ => tn - (intOf y).toNat)
            case atStart => exact ⟨0, 0, Nat.zero_le _, Nat.le_refl _, rfl, rfl, rfl, rfl⟩
            case round =>
              obtain ⟨i, m, hi, hmi, rfl, rfl, HM, hwr⟩ := hrel
              subst hwr
              by_cases hlt : i < tn
              · have hii : (i : Int) < (tn : Int) := by omega
                have hx : TK[i]? = some (TK[i]'(by rw [HTN.out]; exact hlt)) := List.getElem?_eq_getElem _
                generalize (TK[i]'(by rw [HTN.out]; exact hlt)) = x at hx
                obtain ⟨g, o, rfl, -, hc⟩ := I8.out i _ hx
                have hcn := countT_next (v := t) hx
                have hbl : Op.bytesLess x.toList t.toList = Tx.ltB x t := rfl
                cases hxv : Tx.ltB x t with
                | true =>
                  have HM2 : Hid (m + 1 = (TK.take (i + 1)).countP (fun s => Tx.ltB s t)) := by show _ = _; rw [hcn, if_pos hxv, ← HM.out]
                  rw [hxv] at hbl
                  clear hcn hx HM hxv
                  go_wp2_with fail
                  exact ⟨⟨i + 1, m + 1, by omega, by omega, by go_num, by go_num, HM2, trivial⟩, by simp [intOf]; omega⟩
                | false =>
                  have HM2 : Hid (m = (TK.take (i + 1)).countP (fun s => Tx.ltB s t)) := by show _ = _; rw [hcn, hxv, ← HM.out]; rfl
                  rw [hxv] at hbl
                  clear hcn hx HM hxv
                  go_wp2_with fail
                  exact ⟨⟨i + 1, m, by omega, by omega, by go_num, rfl, HM2, trivial⟩, by simp [intOf]; omega⟩
              · obtain rfl : i = tn := by omega
                have hii : ¬ (i : Int) < (i : Int) := by omega
                have HMC : Hid (m = TK.countP (fun s => Tx.ltB s t)) := by
                  have := HM.out
                  rw [← HTN.out, List.take_length] at this
                  exact this
                have HSC2 : Hid (∀ j, j ≤ i → Tx.Srch TK t j j → j = m ∧ decide (TK[j]? = some t) = true) := fun j hj hs => by
                  refine ⟨by rw [HMC.out]; exact (Tx.srch_count HTR.out (by rw [HTN.out]; exact hj) hs).symm, ?_⟩
                  exact decide_eq_true (Tx.srch_found HTR.out (by rw [HTN.out]; exact hj) hs HTT.out)
                clear HM HMC
                go_wp2_with fail
                refine (HTX.out _ I8.out).mono ?_
                rintro e w9 ⟨v9, rfl, o9, b9⟩
                obtain ⟨a9, c9, hv9, -, -, -, i9⟩ := o9.form
                rw [HTN.out] at hv9
                subst hv9
                have B9 := hid (below_up B8.out b9)
                have I9 := hid (I8.out.later b9)
                have F9 := hid (HFT.out a9 c9 w9 i9)
                clear o9 b9 i9 B8 I8 HFT
                go_wp2_with fail
                refine F9.out.mono ?_
                rintro e wA ⟨j, rfl, hj, hs, hw⟩
                subst wA
                obtain ⟨hjm, hjd⟩ := HSC2.out j hj hs
                subst hjm
                rw [hjd]
                rw [if_pos (of_decide_eq_true hjd)]
                clear hs hjd F9
                go_wp2_with fail
                refine (HTX.out _ I9.out).mono ?_
                rintro e wB ⟨vB, rfl, oB, bB⟩
                obtain ⟨aB, cB, hvB, -, -, -, iB⟩ := oB.form
                rw [HTN.out] at hvB
                subst hvB
                have BB := hid (below_up B9.out bB)
                have FB := hid (HFO.out aB cB wB iB)
                clear oB bB iB B9 I9 HFO HTX
                go_wp2_with fail
                refine FB.out.mono ?_
                rintro e wC ⟨j2, rfl, hj2, hs2, hw2⟩
                subst wC
                obtain ⟨hjm2, -⟩ := HSC2.out j2 hj2 hs2
                subst hjm2
                clear hs2 FB HSC2
                go_wp2_with fail
                go_ret
                exact ⟨ret_bool (by simp), BB.out⟩
        | false =>
          rw [if_neg (by decide), show ((0 : Nat) : Int) = 0 from rfl] at HFI2
          go_wp2_with fail
          refine (HIN.out _ I1.out).mono ?_
          rintro e w3 ⟨v3, rfl, o3, b3⟩
          obtain ⟨a3, c3, hv3, -, -, -, i3⟩ := o3.form
          rw [HKN.out] at hv3
          subst hv3
          have F3 := hid (HFI2.out a3 c3 w3 i3)
          have I3 := hid (I1.out.later b3)
          have HI3 := hid (HI2.out.later b3)
          have HS3 := hid (HS2.out.later b3)
          have B3 := hid (below_up B2.out b3)
          clear o3 b3 i3 I1 HI2 HS2 B2 HFI2
          go_wp2_with fail
          refine F3.out.mono ?_
          rintro e w4 ⟨rfl, hw4⟩
          subst w4
          clear F3
          go_wp2_with fail
          refine (HIN.out _ I3.out).mono ?_
          rintro e w5 ⟨v5, rfl, o5, b5⟩
          obtain ⟨a5, c5, hv5, -, -, -, i5⟩ := o5.form
          rw [HKN.out] at hv5
          subst hv5
          have F5 := hid (HFL2.out a5 c5 w5 i5)
          have HI5 := hid (HI3.out.later b5)
          have HS5 := hid (HS3.out.later b5)
          have B5 := hid (below_up B3.out b5)
          clear o5 b5 i5 I3 HI3 HS3 B3 HFL2 HIN
          go_wp2_with fail
          refine F5.out.mono ?_
          rintro e w6 ⟨rfl, hw6⟩
          subst w6
          clear F5
          go_wp2_with fail
          refine (HIL.out _ HI5.out).mono ?_
          rintro e w7 ⟨v7, rfl, o7, b7⟩
          obtain ⟨a7, c7, rfl, -, -, -, i7⟩ := o7.form
          have F7 := hid (HFA.out a7 c7 w7 i7)
          have HS7 := hid (HS5.out.later b7)
          have B7 := hid (below_up B5.out b7)
          clear o7 b7 i7 HI5 HS5 B5 HIL HFA
          go_wp2_with fail
          refine F7.out.mono ?_
          rintro e w8 ⟨ja, rfl, hja, -, hw8⟩
          subst w8
          have hj0 : ¬ (ja : Int) < 0 := by omega
          have hj1 : ¬ (l.length : Int) < (ja : Int) := by omega
          clear F7
          by_cases hM : M.length = 0
          · have hMi : ¬ (0 : Int) < (M.length : Int) := by omega
            have HTE : Hid (TK = []) := by
              refine List.eq_nil_iff_forall_not_mem.2 fun x hx => ?_
              have := (HTM.out x).1 hx
              rw [List.eq_nil_of_length_eq_zero hM] at this
              cases this
            obtain ⟨t, ht⟩ : ∃ t : ByteArray, (⟨#[]⟩ : ByteArray) = t := ⟨_, rfl⟩
            have HQT := hid ht
            clear HTM hM ht
            go_wp2_with fail
            rw [HQT.out]
            have HRX := hid (HRT.out _ HS7.out)
            refine HRX.out.mono ?_
            rintro e w8 ⟨v8, rfl, o8, b8⟩
            obtain ⟨a8, c8, rfl, -, -, nl8, i8⟩ := o8.form
            have B8 := hid (below_up B7.out b8)
            have I8 := hid i8
            obtain ⟨tn, htn⟩ : ∃ tn, TK.length = tn := ⟨_, rfl⟩
            have HTN := hid htn
            have HTX := hid (fun wx h => Tx.texts_any a8 TK c8 wx h nl8 (by omega))
            have HFT := hid (fun a c wx h => Tx.findT_any a TK c t wx h (by omega))
            have HFO := hid (fun a c wx h => Tx.floorT_any a TK c t wx h (by omega))
            rw [htn] at hTl HTX HFT HFO ⊢
            clear o8 b8 i8 nl8 HRX HRT B7 HS7 htn
            go_wp2_with fail
            go_loopw [8, 16] (fun x y wr => ∃ i m : Nat, i ≤ tn ∧ m ≤ i ∧ y = .int .i64 (i : Int) ∧ x = .int .i64 (m : Int) ∧ Hid (m = (TK.take i).countP (fun s => Tx.ltB s t)) ∧ wr = w8) (fun _ y _ => tn - (intOf y).toNat)
            case atStart => exact ⟨0, 0, Nat.zero_le _, Nat.le_refl _, rfl, rfl, rfl, rfl⟩
            case round =>
              obtain ⟨i, m, hi, hmi, rfl, rfl, HM, hwr⟩ := hrel
              subst hwr
              by_cases hlt : i < tn
              · have hii : (i : Int) < (tn : Int) := by omega
                have hx : TK[i]? = some (TK[i]'(by rw [HTN.out]; exact hlt)) := List.getElem?_eq_getElem _
                generalize (TK[i]'(by rw [HTN.out]; exact hlt)) = x at hx
                obtain ⟨g, o, rfl, -, hc⟩ := I8.out i _ hx
                have hcn := countT_next (v := t) hx
                have hbl : Op.bytesLess x.toList t.toList = Tx.ltB x t := rfl
                cases hxv : Tx.ltB x t with
                | true =>
                  have HM2 : Hid (m + 1 = (TK.take (i + 1)).countP (fun s => Tx.ltB s t)) := by show _ = _; rw [hcn, if_pos hxv, ← HM.out]
                  rw [hxv] at hbl
                  clear hcn hx HM hxv
                  go_wp2_with fail
                  exact ⟨⟨i + 1, m + 1, by omega, by omega, by go_num, by go_num, HM2, trivial⟩, by simp [intOf]; omega⟩
                | false =>
                  have HM2 : Hid (m = (TK.take (i + 1)).countP (fun s => Tx.ltB s t)) := by show _ = _; rw [hcn, hxv, ← HM.out]; rfl
                  rw [hxv] at hbl
                  clear hcn hx HM hxv
                  go_wp2_with fail
                  exact ⟨⟨i + 1, m, by omega, by omega, by go_num, rfl, HM2, trivial⟩, by simp [intOf]; omega⟩
              · obtain rfl : i = tn := by omega
                have hii : ¬ (i : Int) < (i : Int) := by omega
                have HMC : Hid (m = TK.countP (fun s => Tx.ltB s t)) := by
                  have := HM.out
                  rw [← HTN.out, List.take_length] at this
                  exact this
                have HSC2 : Hid (∀ j, j ≤ i → Tx.Srch TK t j j → j = m ∧ decide (TK[j]? = some t) = false) := fun j hj hs => by
                  refine ⟨by rw [HMC.out]; exact (Tx.srch_count HTR.out (by rw [HTN.out]; exact hj) hs).symm, ?_⟩
                  rw [HTE.out]; simp
                clear HM HMC
                go_wp2_with fail
                refine (HTX.out _ I8.out).mono ?_
                rintro e w9 ⟨v9, rfl, o9, b9⟩
                obtain ⟨a9, c9, hv9, -, -, -, i9⟩ := o9.form
                rw [HTN.out] at hv9
                subst hv9
                have B9 := hid (below_up B8.out b9)
                have I9 := hid (I8.out.later b9)
                have F9 := hid (HFT.out a9 c9 w9 i9)
                clear o9 b9 i9 B8 I8 HFT
                go_wp2_with fail
                refine F9.out.mono ?_
                rintro e wA ⟨j, rfl, hj, hs, hw⟩
                subst wA
                obtain ⟨hjm, hjd⟩ := HSC2.out j hj hs
                subst hjm
                rw [hjd]
                rw [if_neg (of_decide_eq_false hjd), show ((0 : Nat) : Int) = 0 from rfl]
                clear hs hjd F9
                go_wp2_with fail
                refine (HTX.out _ I9.out).mono ?_
                rintro e wB ⟨vB, rfl, oB, bB⟩
                obtain ⟨aB, cB, hvB, -, -, -, iB⟩ := oB.form
                rw [HTN.out] at hvB
                subst hvB
                have BB := hid (below_up B9.out bB)
                have FB := hid (HFO.out aB cB wB iB)
                clear oB bB iB B9 I9 HFO HTX
                go_wp2_with fail
                refine FB.out.mono ?_
                rintro e wC ⟨j2, rfl, hj2, hs2, hw2⟩
                subst wC
                obtain ⟨hjm2, -⟩ := HSC2.out j2 hj2 hs2
                subst hjm2
                clear hs2 FB HSC2
                go_wp2_with fail
                go_ret
                exact ⟨ret_bool (by simp), BB.out⟩
          · have hMi : (0 : Int) < (M.length : Int) := by omega
            obtain ⟨q, hq⟩ : ∃ q, M.length - 1 = q := ⟨_, rfl⟩
            have hqi : (M.length : Int) - 1 = (q : Int) := by omega
            have hql : q < M.length := by omega
            have hqli : (q : Int) < (M.length : Int) := by omega
            have hx : M[q]? = some M[q] := List.getElem?_eq_getElem hql
            obtain ⟨g7, o7, rfl, -, hc7⟩ := HS7.out q _ hx
            have HTT : Hid (M[q] ∈ TK) := (HTM.out _).2 (List.getElem_mem hql)
            generalize M[q] = t at hx hc7 HTT
            clear HTM hM hq hx
            have HRX := hid (HRT.out _ HS7.out)
            go_wp2_with fail
            refine HRX.out.mono ?_
            rintro e w8 ⟨v8, rfl, o8, b8⟩
            obtain ⟨a8, c8, rfl, -, -, nl8, i8⟩ := o8.form
            have B8 := hid (below_up B7.out b8)
            have I8 := hid i8
            obtain ⟨tn, htn⟩ : ∃ tn, TK.length = tn := ⟨_, rfl⟩
            have HTN := hid htn
            have HTX := hid (fun wx h => Tx.texts_any a8 TK c8 wx h nl8 (by omega))
            have HFT := hid (fun a c wx h => Tx.findT_any a TK c t wx h (by omega))
            have HFO := hid (fun a c wx h => Tx.floorT_any a TK c t wx h (by omega))
            rw [htn] at hTl HTX HFT HFO ⊢
            clear o8 b8 i8 nl8 HRX HRT B7 HS7 htn
            go_wp2_with fail
            go_loopw [8, 16] (fun x y wr => ∃ i m : Nat, i ≤ tn ∧ m ≤ i ∧ y = .int .i64 (i : Int) ∧ x = .int .i64 (m : Int) ∧ Hid (m = (TK.take i).countP (fun s => Tx.ltB s t)) ∧ wr = w8) (fun _ y _ => tn - (intOf y).toNat)
            case atStart => exact ⟨0, 0, Nat.zero_le _, Nat.le_refl _, rfl, rfl, rfl, rfl⟩
            case round =>
              obtain ⟨i, m, hi, hmi, rfl, rfl, HM, hwr⟩ := hrel
              subst hwr
              by_cases hlt : i < tn
              · have hii : (i : Int) < (tn : Int) := by omega
                have hx : TK[i]? = some (TK[i]'(by rw [HTN.out]; exact hlt)) := List.getElem?_eq_getElem _
                generalize (TK[i]'(by rw [HTN.out]; exact hlt)) = x at hx
                obtain ⟨g, o, rfl, -, hc⟩ := I8.out i _ hx
                have hcn := countT_next (v := t) hx
                have hbl : Op.bytesLess x.toList t.toList = Tx.ltB x t := rfl
                cases hxv : Tx.ltB x t with
                | true =>
                  have HM2 : Hid (m + 1 = (TK.take (i + 1)).countP (fun s => Tx.ltB s t)) := by show _ = _; rw [hcn, if_pos hxv, ← HM.out]
                  rw [hxv] at hbl
                  clear hcn hx HM hxv
                  go_wp2_with fail
                  exact ⟨⟨i + 1, m + 1, by omega, by omega, by go_num, by go_num, HM2, trivial⟩, by simp [intOf]; omega⟩
                | false =>
                  have HM2 : Hid (m = (TK.take (i + 1)).countP (fun s => Tx.ltB s t)) := by show _ = _; rw [hcn, hxv, ← HM.out]; rfl
                  rw [hxv] at hbl
                  clear hcn hx HM hxv
                  go_wp2_with fail
                  exact ⟨⟨i + 1, m, by omega, by omega, by go_num, rfl, HM2, trivial⟩, by simp [intOf]; omega⟩
              · obtain rfl : i = tn := by omega
                have hii : ¬ (i : Int) < (i : Int) := by omega
                have HMC : Hid (m = TK.countP (fun s => Tx.ltB s t)) := by
                  have := HM.out
                  rw [← HTN.out, List.take_length] at this
                  exact this
                have HSC2 : Hid (∀ j, j ≤ i → Tx.Srch TK t j j → j = m ∧ decide (TK[j]? = some t) = true) := fun j hj hs => by
                  refine ⟨by rw [HMC.out]; exact (Tx.srch_count HTR.out (by rw [HTN.out]; exact hj) hs).symm, ?_⟩
                  exact decide_eq_true (Tx.srch_found HTR.out (by rw [HTN.out]; exact hj) hs HTT.out)
                clear HM HMC
                go_wp2_with fail
                refine (HTX.out _ I8.out).mono ?_
                rintro e w9 ⟨v9, rfl, o9, b9⟩
                obtain ⟨a9, c9, hv9, -, -, -, i9⟩ := o9.form
                rw [HTN.out] at hv9
                subst hv9
                have B9 := hid (below_up B8.out b9)
                have I9 := hid (I8.out.later b9)
                have F9 := hid (HFT.out a9 c9 w9 i9)
                clear o9 b9 i9 B8 I8 HFT
                go_wp2_with fail
                refine F9.out.mono ?_
                rintro e wA ⟨j, rfl, hj, hs, hw⟩
                subst wA
                obtain ⟨hjm, hjd⟩ := HSC2.out j hj hs
                subst hjm
                rw [hjd]
                rw [if_pos (of_decide_eq_true hjd)]
                clear hs hjd F9
                go_wp2_with fail
                refine (HTX.out _ I9.out).mono ?_
                rintro e wB ⟨vB, rfl, oB, bB⟩
                obtain ⟨aB, cB, hvB, -, -, -, iB⟩ := oB.form
                rw [HTN.out] at hvB
                subst hvB
                have BB := hid (below_up B9.out bB)
                have FB := hid (HFO.out aB cB wB iB)
                clear oB bB iB B9 I9 HFO HTX
                go_wp2_with fail
                refine FB.out.mono ?_
                rintro e wC ⟨j2, rfl, hj2, hs2, hw2⟩
                subst wC
                obtain ⟨hjm2, -⟩ := HSC2.out j2 hj2 hs2
                subst hjm2
                clear hs2 FB HSC2
                go_wp2_with fail
                go_ret
                exact ⟨ret_bool (by simp), BB.out⟩
      · have hmm : ¬ (m : Int) < (i : Int) := by omega
        subst hbf
        rw [if_neg (by decide), show ((0 : Nat) : Int) = 0 from rfl] at HFI2
        clear hmi2
        go_wp2_with fail
        refine (HIN.out _ I1.out).mono ?_
        rintro e w3 ⟨v3, rfl, o3, b3⟩
        obtain ⟨a3, c3, hv3, -, -, -, i3⟩ := o3.form
        rw [HKN.out] at hv3
        subst hv3
        have F3 := hid (HFI2.out a3 c3 w3 i3)
        have I3 := hid (I1.out.later b3)
        have HI3 := hid (HI2.out.later b3)
        have HS3 := hid (HS2.out.later b3)
        have B3 := hid (below_up B2.out b3)
        clear o3 b3 i3 I1 HI2 HS2 B2 HFI2
        go_wp2_with fail
        refine F3.out.mono ?_
        rintro e w4 ⟨rfl, hw4⟩
        subst w4
        clear F3
        go_wp2_with fail
        refine (HIN.out _ I3.out).mono ?_
        rintro e w5 ⟨v5, rfl, o5, b5⟩
        obtain ⟨a5, c5, hv5, -, -, -, i5⟩ := o5.form
        rw [HKN.out] at hv5
        subst hv5
        have F5 := hid (HFL2.out a5 c5 w5 i5)
        have HI5 := hid (HI3.out.later b5)
        have HS5 := hid (HS3.out.later b5)
        have B5 := hid (below_up B3.out b5)
        clear o5 b5 i5 I3 HI3 HS3 B3 HFL2 HIN
        go_wp2_with fail
        refine F5.out.mono ?_
        rintro e w6 ⟨rfl, hw6⟩
        subst w6
        clear F5
        go_wp2_with fail
        refine (HIL.out _ HI5.out).mono ?_
        rintro e w7 ⟨v7, rfl, o7, b7⟩
        obtain ⟨a7, c7, rfl, -, -, -, i7⟩ := o7.form
        have F7 := hid (HFA.out a7 c7 w7 i7)
        have HS7 := hid (HS5.out.later b7)
        have B7 := hid (below_up B5.out b7)
        clear o7 b7 i7 HI5 HS5 B5 HIL HFA
        go_wp2_with fail
        refine F7.out.mono ?_
        rintro e w8 ⟨ja, rfl, hja, -, hw8⟩
        subst w8
        have hj0 : ¬ (ja : Int) < 0 := by omega
        have hj1 : ¬ (l.length : Int) < (ja : Int) := by omega
        clear F7
        by_cases hM : M.length = 0
        · have hMi : ¬ (0 : Int) < (M.length : Int) := by omega
          have HTE : Hid (TK = []) := by
            refine List.eq_nil_iff_forall_not_mem.2 fun x hx => ?_
            have := (HTM.out x).1 hx
            rw [List.eq_nil_of_length_eq_zero hM] at this
            cases this
          obtain ⟨t, ht⟩ : ∃ t : ByteArray, (⟨#[]⟩ : ByteArray) = t := ⟨_, rfl⟩
          have HQT := hid ht
          clear HTM hM ht
          go_wp2_with fail
          rw [HQT.out]
          have HRX := hid (HRT.out _ HS7.out)
          refine HRX.out.mono ?_
          rintro e w8 ⟨v8, rfl, o8, b8⟩
          obtain ⟨a8, c8, rfl, -, -, nl8, i8⟩ := o8.form
          have B8 := hid (below_up B7.out b8)
          have I8 := hid i8
          obtain ⟨tn, htn⟩ : ∃ tn, TK.length = tn := ⟨_, rfl⟩
          have HTN := hid htn
          have HTX := hid (fun wx h => Tx.texts_any a8 TK c8 wx h nl8 (by omega))
          have HFT := hid (fun a c wx h => Tx.findT_any a TK c t wx h (by omega))
          have HFO := hid (fun a c wx h => Tx.floorT_any a TK c t wx h (by omega))
          rw [htn] at hTl HTX HFT HFO ⊢
          clear o8 b8 i8 nl8 HRX HRT B7 HS7 htn
          go_wp2_with fail
          go_loopw [8, 16] (fun x y wr => ∃ i m : Nat, i ≤ tn ∧ m ≤ i ∧ y = .int .i64 (i : Int) ∧ x = .int .i64 (m : Int) ∧ Hid (m = (TK.take i).countP (fun s => Tx.ltB s t)) ∧ wr = w8) (fun _ y _ => tn - (intOf y).toNat)
          case atStart => exact ⟨0, 0, Nat.zero_le _, Nat.le_refl _, rfl, rfl, rfl, rfl⟩
          case round =>
            obtain ⟨i, m, hi, hmi, rfl, rfl, HM, hwr⟩ := hrel
            subst hwr
            by_cases hlt : i < tn
            · have hii : (i : Int) < (tn : Int) := by omega
              have hx : TK[i]? = some (TK[i]'(by rw [HTN.out]; exact hlt)) := List.getElem?_eq_getElem _
              generalize (TK[i]'(by rw [HTN.out]; exact hlt)) = x at hx
              obtain ⟨g, o, rfl, -, hc⟩ := I8.out i _ hx
              have hcn := countT_next (v := t) hx
              have hbl : Op.bytesLess x.toList t.toList = Tx.ltB x t := rfl
              cases hxv : Tx.ltB x t with
              | true =>
                have HM2 : Hid (m + 1 = (TK.take (i + 1)).countP (fun s => Tx.ltB s t)) := by show _ = _; rw [hcn, if_pos hxv, ← HM.out]
                rw [hxv] at hbl
                clear hcn hx HM hxv
                go_wp2_with fail
                exact ⟨⟨i + 1, m + 1, by omega, by omega, by go_num, by go_num, HM2, trivial⟩, by simp [intOf]; omega⟩
              | false =>
                have HM2 : Hid (m = (TK.take (i + 1)).countP (fun s => Tx.ltB s t)) := by show _ = _; rw [hcn, hxv, ← HM.out]; rfl
                rw [hxv] at hbl
                clear hcn hx HM hxv
                go_wp2_with fail
                exact ⟨⟨i + 1, m, by omega, by omega, by go_num, rfl, HM2, trivial⟩, by simp [intOf]; omega⟩
            · obtain rfl : i = tn := by omega
              have hii : ¬ (i : Int) < (i : Int) := by omega
              have HMC : Hid (m = TK.countP (fun s => Tx.ltB s t)) := by
                have := HM.out
                rw [← HTN.out, List.take_length] at this
                exact this
              have HSC2 : Hid (∀ j, j ≤ i → Tx.Srch TK t j j → j = m ∧ decide (TK[j]? = some t) = false) := fun j hj hs => by
                refine ⟨by rw [HMC.out]; exact (Tx.srch_count HTR.out (by rw [HTN.out]; exact hj) hs).symm, ?_⟩
                rw [HTE.out]; simp
              clear HM HMC
              go_wp2_with fail
              refine (HTX.out _ I8.out).mono ?_
              rintro e w9 ⟨v9, rfl, o9, b9⟩
              obtain ⟨a9, c9, hv9, -, -, -, i9⟩ := o9.form
              rw [HTN.out] at hv9
              subst hv9
              have B9 := hid (below_up B8.out b9)
              have I9 := hid (I8.out.later b9)
              have F9 := hid (HFT.out a9 c9 w9 i9)
              clear o9 b9 i9 B8 I8 HFT
              go_wp2_with fail
              refine F9.out.mono ?_
              rintro e wA ⟨j, rfl, hj, hs, hw⟩
              subst wA
              obtain ⟨hjm, hjd⟩ := HSC2.out j hj hs
              subst hjm
              rw [hjd]
              rw [if_neg (of_decide_eq_false hjd), show ((0 : Nat) : Int) = 0 from rfl]
              clear hs hjd F9
              go_wp2_with fail
              refine (HTX.out _ I9.out).mono ?_
              rintro e wB ⟨vB, rfl, oB, bB⟩
              obtain ⟨aB, cB, hvB, -, -, -, iB⟩ := oB.form
              rw [HTN.out] at hvB
              subst hvB
              have BB := hid (below_up B9.out bB)
              have FB := hid (HFO.out aB cB wB iB)
              clear oB bB iB B9 I9 HFO HTX
              go_wp2_with fail
              refine FB.out.mono ?_
              rintro e wC ⟨j2, rfl, hj2, hs2, hw2⟩
              subst wC
              obtain ⟨hjm2, -⟩ := HSC2.out j2 hj2 hs2
              subst hjm2
              clear hs2 FB HSC2
              go_wp2_with fail
              go_ret
              exact ⟨ret_bool (by simp), BB.out⟩
        · have hMi : (0 : Int) < (M.length : Int) := by omega
          obtain ⟨q, hq⟩ : ∃ q, M.length - 1 = q := ⟨_, rfl⟩
          have hqi : (M.length : Int) - 1 = (q : Int) := by omega
          have hql : q < M.length := by omega
          have hqli : (q : Int) < (M.length : Int) := by omega
          have hx : M[q]? = some M[q] := List.getElem?_eq_getElem hql
          obtain ⟨g7, o7, rfl, -, hc7⟩ := HS7.out q _ hx
          have HTT : Hid (M[q] ∈ TK) := (HTM.out _).2 (List.getElem_mem hql)
          generalize M[q] = t at hx hc7 HTT
          clear HTM hM hq hx
          have HRX := hid (HRT.out _ HS7.out)
          go_wp2_with fail
          refine HRX.out.mono ?_
          rintro e w8 ⟨v8, rfl, o8, b8⟩
          obtain ⟨a8, c8, rfl, -, -, nl8, i8⟩ := o8.form
          have B8 := hid (below_up B7.out b8)
          have I8 := hid i8
          obtain ⟨tn, htn⟩ : ∃ tn, TK.length = tn := ⟨_, rfl⟩
          have HTN := hid htn
          have HTX := hid (fun wx h => Tx.texts_any a8 TK c8 wx h nl8 (by omega))
          have HFT := hid (fun a c wx h => Tx.findT_any a TK c t wx h (by omega))
          have HFO := hid (fun a c wx h => Tx.floorT_any a TK c t wx h (by omega))
          rw [htn] at hTl HTX HFT HFO ⊢
          clear o8 b8 i8 nl8 HRX HRT B7 HS7 htn
          go_wp2_with fail
          go_loopw [8, 16] (fun x y wr => ∃ i m : Nat, i ≤ tn ∧ m ≤ i ∧ y = .int .i64 (i : Int) ∧ x = .int .i64 (m : Int) ∧ Hid (m = (TK.take i).countP (fun s => Tx.ltB s t)) ∧ wr = w8) (fun _ y _ => tn - (intOf y).toNat)
          case atStart => exact ⟨0, 0, Nat.zero_le _, Nat.le_refl _, rfl, rfl, rfl, rfl⟩
          case round =>
            obtain ⟨i, m, hi, hmi, rfl, rfl, HM, hwr⟩ := hrel
            subst hwr
            by_cases hlt : i < tn
            · have hii : (i : Int) < (tn : Int) := by omega
              have hx : TK[i]? = some (TK[i]'(by rw [HTN.out]; exact hlt)) := List.getElem?_eq_getElem _
              generalize (TK[i]'(by rw [HTN.out]; exact hlt)) = x at hx
              obtain ⟨g, o, rfl, -, hc⟩ := I8.out i _ hx
              have hcn := countT_next (v := t) hx
              have hbl : Op.bytesLess x.toList t.toList = Tx.ltB x t := rfl
              cases hxv : Tx.ltB x t with
              | true =>
                have HM2 : Hid (m + 1 = (TK.take (i + 1)).countP (fun s => Tx.ltB s t)) := by show _ = _; rw [hcn, if_pos hxv, ← HM.out]
                rw [hxv] at hbl
                clear hcn hx HM hxv
                go_wp2_with fail
                exact ⟨⟨i + 1, m + 1, by omega, by omega, by go_num, by go_num, HM2, trivial⟩, by simp [intOf]; omega⟩
              | false =>
                have HM2 : Hid (m = (TK.take (i + 1)).countP (fun s => Tx.ltB s t)) := by show _ = _; rw [hcn, hxv, ← HM.out]; rfl
                rw [hxv] at hbl
                clear hcn hx HM hxv
                go_wp2_with fail
                exact ⟨⟨i + 1, m, by omega, by omega, by go_num, rfl, HM2, trivial⟩, by simp [intOf]; omega⟩
            · obtain rfl : i = tn := by omega
              have hii : ¬ (i : Int) < (i : Int) := by omega
              have HMC : Hid (m = TK.countP (fun s => Tx.ltB s t)) := by
                have := HM.out
                rw [← HTN.out, List.take_length] at this
                exact this
              have HSC2 : Hid (∀ j, j ≤ i → Tx.Srch TK t j j → j = m ∧ decide (TK[j]? = some t) = true) := fun j hj hs => by
                refine ⟨by rw [HMC.out]; exact (Tx.srch_count HTR.out (by rw [HTN.out]; exact hj) hs).symm, ?_⟩
                exact decide_eq_true (Tx.srch_found HTR.out (by rw [HTN.out]; exact hj) hs HTT.out)
              clear HM HMC
              go_wp2_with fail
              refine (HTX.out _ I8.out).mono ?_
              rintro e w9 ⟨v9, rfl, o9, b9⟩
              obtain ⟨a9, c9, hv9, -, -, -, i9⟩ := o9.form
              rw [HTN.out] at hv9
              subst hv9
              have B9 := hid (below_up B8.out b9)
              have I9 := hid (I8.out.later b9)
              have F9 := hid (HFT.out a9 c9 w9 i9)
              clear o9 b9 i9 B8 I8 HFT
              go_wp2_with fail
              refine F9.out.mono ?_
              rintro e wA ⟨j, rfl, hj, hs, hw⟩
              subst wA
              obtain ⟨hjm, hjd⟩ := HSC2.out j hj hs
              subst hjm
              rw [hjd]
              rw [if_pos (of_decide_eq_true hjd)]
              clear hs hjd F9
              go_wp2_with fail
              refine (HTX.out _ I9.out).mono ?_
              rintro e wB ⟨vB, rfl, oB, bB⟩
              obtain ⟨aB, cB, hvB, -, -, -, iB⟩ := oB.form
              rw [HTN.out] at hvB
              subst hvB
              have BB := hid (below_up B9.out bB)
              have FB := hid (HFO.out aB cB wB iB)
              clear oB bB iB B9 I9 HFO HTX
              go_wp2_with fail
              refine FB.out.mono ?_
              rintro e wC ⟨j2, rfl, hj2, hs2, hw2⟩
              subst wC
              obtain ⟨hjm2, -⟩ := HSC2.out j2 hj2 hs2
              subst hjm2
              clear hs2 FB HSC2
              go_wp2_with fail
              go_ret
              exact ⟨ret_bool (by simp), BB.out⟩
end Go.Proofs.Ytjkblkjpcbjhnaa
