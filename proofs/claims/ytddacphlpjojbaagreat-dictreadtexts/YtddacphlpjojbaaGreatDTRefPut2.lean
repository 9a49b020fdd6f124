/-
  The document's PutTexts of chapter 9: every refusal; the walk of DictPutTexts.
-/
import Derived.Test.YtddacphlpjojbaaGreatDTRefPut
import Derived.Test.YtddacphlpjojbaaGreatDKnown
import Derived.Test.YtddacphlpjojbaaGreatDArgs
namespace Go.Proofs.YtddacphlpjojbaaGreat.Tx
open Go.ChangeShapes Go.WideShapes Go.ChangeAt Go.RowKit Cu
open Classical

theorem codesI_len' (l : List ByteArray) : (codesI l).length = l.length := by unfold codesI; rw [List.length_map]
set_option maxRecDepth 8000 in
set_option maxHeartbeats 4000000 in
theorem rPutT_any (a : Option Addr) (l : List ByteArray) (c : Nat) (w : World) (hA : Strs w a l) (hin : ∀ x ∈ l, x.size ≤ 140737488351232) :
    Calls Tryz.prog 21 #[.slice a l.length c] w fun e w' => ∃ v, e = .returned (.tuple #[v, .int .i64 (putTE l)]) ∧ NewL w w' v (putTR l) := by
  unfold putTE putTR
  by_cases h1 : 16777216 < l.length
  · rw [if_pos h1, if_pos h1]
    have hd1 : (16777216 : Int) < (l.length : Int) := by omega
    go_enter Tryz.func21, Tryz.ntmps21
    go_wp2_with fail
    go_ret2
    exact ⟨_, rfl, Own.nil _ _ _ _ _, Below.refl _ _⟩
  · rw [if_neg h1, if_neg h1]
    have hd1 : ¬ (16777216 : Int) < (l.length : Int) := by omega
    have HKS := hid (rKeys a l c w hA (by omega))
    rw [keys_eq] at HKS
    have HA := hid hA
    have HSZ : Hid (∀ s ∈ keysI l, s.size ≤ 140737488351232) := fun s hs => hin s ((keysI_mem l s).1 hs)
    have HCS := hid (codes_same l)
    have HCT := hid (fun x hx => codesI_lt l x hx)
    have hcl := codesI_len' l
    clear hA hin
    unfold formT keyB
    generalize keysI l = K at *
    generalize codesI l = CC at *
    by_cases h2 : 65536 < K.length
    · rw [if_pos h2, if_pos h2]
      have hd2 : (65536 : Int) < (K.length : Int) := by omega
      go_enter Tryz.func21, Tryz.ntmps21
      go_wp2_with fail
      refine HKS.out.mono ?_
      rintro e w1 ⟨v1, rfl, o1, b1⟩
      obtain ⟨a1, c1, rfl, -⟩ := o1.form
      have B1 := hid b1
      clear o1 b1 HKS
      go_wp2_with fail
      go_ret2
      exact ⟨_, rfl, Own.nil _ _ _ _ _, B1.out⟩
    · rw [if_neg h2, if_neg h2]
      have hd2 : ¬ (65536 : Int) < (K.length : Int) := by omega
      have HML : Hid ((K.map bs).length = K.length) := List.length_map _
      have HSS : Hid (∀ i s, K[i]? = some s → sumT (K.map bs) (i + 1) = sumT (K.map bs) i + s.size) := fun i s hs => by
        rw [sumT_succ _ i (bs s) (by rw [List.getElem?_map, hs]; rfl), bs_len]
      have HIX : Hid (∀ (i : Nat) (s : ByteArray), K[i]? = some s → 65535 < s.size → ¬ PutOk (K.map bs)) := fun i s hs hb hP => by
        have := hP.2.1 (bs s) (List.mem_map.2 ⟨s, List.mem_of_getElem? hs, rfl⟩)
        rw [bs_len] at this
        omega
      have HSX : Hid (∀ i, 4294967295 < sumT (K.map bs) i → ¬ PutOk (K.map bs)) := fun i hb hP => by
        have h3 := sumT_le (K.map bs) i
        have h4 := hP.2.2
        omega
      have HYES : Hid ((∀ (j : Nat) (s : ByteArray), j < K.length → K[j]? = some s → s.size ≤ 65535) → sumT (K.map bs) K.length ≤ 4294967295 → PutOk (K.map bs)) := fun hx hs => by
        refine ⟨by rw [HML.out]; omega, fun p hp => ?_, ?_⟩
        · obtain ⟨s, hs2, rfl⟩ := List.mem_map.1 hp
          obtain ⟨j, hj, e⟩ := List.getElem_of_mem hs2
          rw [bs_len]
          exact hx j s hj (by rw [List.getElem?_eq_getElem hj, e])
        · have h5 := sumT_all (K.map bs)
          rw [HML.out] at h5
          omega
      obtain ⟨E, hE⟩ : ∃ E : Int, (if PutOk (K.map bs) then (0 : Int) else 3) = E := ⟨_, rfl⟩
      obtain ⟨R, hR⟩ : ∃ R : List Nat, (if PutOk (K.map bs) then Cr.Cu.uv K.length ++ encT (K.map bs) ++ packC (wd K.length) CC else []) = R := ⟨_, rfl⟩
      have HE1 : Hid (PutOk (K.map bs) → E = 0 ∧ R = Cr.Cu.uv K.length ++ encT (K.map bs) ++ packC (wd K.length) CC) := fun h => by
        rw [if_pos h] at hE hR
        exact ⟨hE.symm, hR.symm⟩
      have HE2 : Hid (¬ PutOk (K.map bs) → E = 3 ∧ R = []) := fun h => by
        rw [if_neg h] at hE hR
        exact ⟨hE.symm, hR.symm⟩
      rw [hE, hR]
      clear hE hR
      have hd2d : decide ((65536 : Int) < (K.length : Int)) = false := by simpa using hd2
      have hd2n : decide (65536 < K.length) = false := by simpa using h2
      go_enter Tryz.func21, Tryz.ntmps21
      go_wp2_with fail
      refine HKS.out.mono ?_
      rintro e w1 ⟨v1, rfl, o1, b1⟩
      obtain ⟨a1, c1, rfl, -, -, -, i1⟩ := o1.form
      have B1 := hid b1
      have I1 := hid i1
      have HA1 := hid (HA.out.later b1)
      clear o1 b1 i1 HKS HA
      go_wp2_with fail
      go_loopw [5, 6] (fun x y wr => ∃ i m : Nat, i ≤ K.length ∧ y = .int .i64 (i : Int) ∧ x = .int .i64 (m : Int) ∧ m ≤ 4294967295 ∧ Hid (m = sumT (K.map bs) i ∧ ∀ (j : Nat) (s : ByteArray), j < i → K[j]? = some s → s.size ≤ 65535) ∧ wr = w1) (fun _ y _ => K.length - (intOf y).toNat)
      case atStart => exact ⟨0, 0, Nat.zero_le _, rfl, rfl, by omega, ⟨rfl, fun j s hj => by omega⟩, rfl⟩
      case round =>
        obtain ⟨i, m, hi, rfl, rfl, hm4, HM, hwr⟩ := hrel
        subst hwr
        by_cases hlt : i < K.length
        · have hii : (i : Int) < (K.length : Int) := by omega
          have hs : K[i]? = some K[i] := List.getElem?_eq_getElem hlt
          have hsz := HSZ.out K[i] (List.getElem_mem hlt)
          generalize K[i] = s at hs hsz
          obtain ⟨g, o, rfl, hg, hc⟩ := I1.out i s hs
          have hms := HSS.out i s hs
          rw [← HM.out.1] at hms
          obtain ⟨z, hz⟩ : ∃ z, s.size = z := ⟨_, rfl⟩
          have hz2 : (s.size : Int) = (z : Int) := by omega
          obtain ⟨q, hq⟩ : ∃ q, m + z = q := ⟨_, rfl⟩
          have hqi : (m : Int) + (z : Int) = (q : Int) := by omega
          rw [hz] at hsz
          by_cases h3 : 65535 < z
          · have HNO : Hid (¬ PutOk (K.map bs)) := HIX.out i s hs (by omega)
            have hd3 : (65535 : Int) < (z : Int) := by omega
            clear hs hms HM
            obtain ⟨hE3, hR3⟩ := HE2.out HNO.out
            subst hE3 hR3
            clear HE1 HE2
            go_wp2_with fail
            refine bodyPost_ret (v := .tuple #[.slice none 0 0, .int .i64 3]) (by simp [results, Tryz.results21, go_sem]) rfl ?_
            exact ⟨_, rfl, Own.nil _ _ _ _ _, B1.out⟩
          · have hd3 : ¬ (65535 : Int) < (z : Int) := by omega
            have hd3d : decide ((65535 : Int) < (z : Int)) = false := by simpa using hd3
            have hd3n : decide (65535 < z) = false := by simpa using h3
            by_cases h4 : 4294967295 < q
            · have HNO : Hid (¬ PutOk (K.map bs)) := HSX.out (i + 1) (by omega)
              have hd4 : (4294967295 : Int) < (q : Int) := by omega
              clear hs hms HM
              obtain ⟨hE3, hR3⟩ := HE2.out HNO.out
              subst hE3 hR3
              clear HE1 HE2
              go_wp2_with fail
              refine bodyPost_ret (v := .tuple #[.slice none 0 0, .int .i64 3]) (by simp [results, Tryz.results21, go_sem]) rfl ?_
              exact ⟨_, rfl, Own.nil _ _ _ _ _, B1.out⟩
            · have hd4 : ¬ (4294967295 : Int) < (q : Int) := by omega
              have HM2 : Hid (q = sumT (K.map bs) (i + 1) ∧ ∀ (j : Nat) (s : ByteArray), j < i + 1 → K[j]? = some s → s.size ≤ 65535) := ⟨by omega, fun j s' hj hs' => by
                by_cases e : j = i
                · subst e; rw [hs] at hs'; cases hs'; omega
                · exact HM.out.2 j s' (by omega) hs'⟩
              clear hs hms HM
              go_wp2_with fail
              exact ⟨⟨i + 1, q, by omega, by go_num, by go_num, by omega, HM2, trivial⟩, by simp [intOf]; omega⟩
        · obtain rfl : i = K.length := by omega
          have hii : ¬ (K.length : Int) < (K.length : Int) := by omega
          have hP := HYES.out HM.out.2 (by rw [← HM.out.1]; exact hm4)
          obtain ⟨hE0, hR0⟩ := HE1.out hP
          have HP := hid hP
          subst hE0 hR0
          clear HE1 HE2
          have HC := hid (rCodes a1 K c1 a l c wr I1.out HA1.out (by omega) (by omega))
          rw [HCS.out] at HC
          clear HM hP HYES HSX HIX HSS
          go_wp2_with fail
          refine HC.out.mono ?_
          rintro e w2 ⟨v2, rfl, o2, b2⟩
          obtain ⟨a2, c2, rfl⟩ : ∃ a2 c2, v2 = .slice a2 l.length c2 := by
            rcases o2.2 with ⟨hv, h0⟩ | ⟨g, cap, cur, hv, _⟩
            · exact ⟨none, 0, by rw [hv, h0]⟩
            · exact ⟨_, _, hv⟩
          have hN2 := uvals_nums hcl o2
          rw [← hcl] at hN2
          have HF := hid (rTextForm a1 K c1 a2 CC c2 w2 (I1.out.later b2) hN2 (by omega) HP.out (by omega) (fun x hx => by have := HCT.out x hx; omega))
          rw [hcl] at HF
          have B2 := hid (below_up B1.out b2)
          clear o2 b2 hN2 HC B1 I1 HA1
          go_wp2_with fail
          refine HF.out.mono ?_
          rintro e w3 ⟨v3, rfl, h3⟩
          have HR : Hid (NewL w w3 v3 (Cr.Cu.uv K.length ++ encT (K.map bs) ++ packC (wd K.length) CC)) := ⟨h3.1.low B2.out.size, below_up B2.out h3.2⟩
          clear h3 HF B2
          go_wp2_with fail
          go_ret2
          exact ⟨_, rfl, HR.out⟩
end Go.Proofs.YtddacphlpjojbaaGreat.Tx
