/-
  The document's PutTexts of chapter 9, of any texts.
-/
import Derived.Test.YtddacphlpjojbaaGreatDTPut
import Derived.Test.YtddacphlpjojbaaGreatDRefPut
namespace Go.Proofs.YtddacphlpjojbaaGreat.Tx
open Go.ChangeShapes Go.WideShapes Go.ChangeAt Go.RowKit Cu
open Classical

set_option maxRecDepth 4000 in
set_option maxHeartbeats 2000000 in
theorem rLow4 (v : Nat) (w : World) (_hv : v < 18446744073709551616) :
    Calls Tryz.prog 64 #[.int .u64 (v : Int), .int .i64 4] w fun e w' => ∃ v', e = .returned v' ∧ NewL w w' v' (fx 4 v) := by
  go_enter Tryz.func64, Tryz.ntmps64
  go_wp2_with fail
  go_loopw [5, 6] (fun x y wr => ∃ i : Nat, i ≤ 4 ∧ y = .int .i64 (i : Int) ∧ Hid (NewL w wr x (fx i v))) (fun _ y _ => 4 - (intOf y).toNat)
  case atStart => exact ⟨0, Nat.zero_le _, rfl, Own.nil _ _ _ _ _, Below.refl _ _⟩
  case round =>
    obtain ⟨i, hi, rfl, HO⟩ := hrel
    by_cases hlt : i < 4
    · obtain ⟨v2, w2, hr2, o2, b2⟩ := run_oneL HO.out.1 (by rw [fx_len]; omega) HO.out.2.size (v / 256 ^ i % 256) _ rfl
      rw [← fx_snoc] at o2
      have HN : Hid (NewL w w2 v2 (fx (i + 1) v)) := ⟨o2, HO.out.2.trans b2⟩
      have R2 := hid hr2
      have hcv : IntKind.u8.wrap ((v : Int) / 2 ^ (8 * i)) = ((v / 256 ^ i % 256 : Nat) : Int) := by
        rw [Pk.pow_cast, IntKind.wrap_u8, show (2 : Nat) ^ (8 * i) = 256 ^ i by rw [Nat.pow_mul]]; rfl
      have hiw : IntKind.u64.wrap (8 * (i : Int)) = 8 * (i : Int) := Pk.u64_left _ (by omega) (by omega)
      have h8n : (8 * (i : Int)).toNat = 8 * i := by omega
      have hmin : min (8 * i) 64 = 8 * i := by omega
      have hii : (i : Int) < 4 := by omega
      clear hr2 o2 b2 HO
      generalize v / 256 ^ i % 256 = z at *
      go_wp2_with (at_builtin; refine wpList_app (by rfl) (by rfl) R2.out ?_; clear R2)
      exact ⟨⟨i + 1, by omega, by go_num, HN⟩, by simp [intOf]; omega⟩
    · obtain rfl : i = 4 := by omega
      go_wp2_with fail
      go_ret
      exact ⟨_, rfl, HO.out⟩
theorem run_strA {w : World} {B : Nat} {v : Value} {l : List Nat} (s : ByteArray) (h : Own w B 5 .u8 v l.length (ofL l)) (hb : l.length + s.size ≤ 140737488355328) (hB : B ≤ w.heap.size) :
    ∃ u' w', (Builtin.append_ #[22, 9] 22 #[v, .string s]).run Tryz.prog w = .ok u' w' ∧ Own w' B 5 .u8 u' (l ++ bs s).length (ofL (l ++ bs s)) ∧ (∀ b0, Below B b0 w → Below B b0 w') := by
  obtain ⟨i0, hi0, hz0, hz1, hz2⟩ := info_parts infoU8
  obtain ⟨u', w', hr, h1, h2, _⟩ := Lib.run_append_own_string (P := Tryz.prog) w B 22 9 22 5 i0 Tryz.underlying22 Tryz.underlying9 hi0 hz0 hz1 hz2 v l.length _ h s (by simp [maxLen]; omega) (by omega) hB
  refine ⟨u', w', hr, ?_, fun b0 hx => hx.grown h2 hB (fun j hj => (h.lt j hj).1)⟩
  rw [Pt.vals_bs, vals_cat, ← bs_len] at h1
  rw [List.length_append]
  exact Own.ext h1 fun j _ => (ofL_append l (bs s) j).symm
set_option maxRecDepth 8000 in
set_option maxHeartbeats 4000000 in
theorem rTextForm (a : Option Addr) (K : List ByteArray) (c : Nat) (b : Option Addr) (C : List Nat) (d : Nat) (w : World) (hA : Strs w a K) (hN : Pk.Nums w .u64 b C.length (ofL C)) (hK : K.length ≤ 65536) (hP : PutOk (K.map bs)) (hC : C.length ≤ 16777216) (hlt : ∀ x ∈ C, x < 18446744073709551616) :
    Calls Tryz.prog 38 #[.slice a K.length c, .slice b C.length d] w fun e w' => ∃ v', e = .returned v' ∧ NewL w w' v' (Cr.Cu.uv K.length ++ encT (K.map bs) ++ packC (wd K.length) C) := by
  have HA := hid hA
  have HNN := hid hN
  have HS := hid (rShort9 K.length w hK)
  have HLT := hid (fun j => ofL_small (by decide) hlt j)
  have HW := hid (fun wx => rWidth9 K.length wx hK)
  have hkw := wd_le hK
  have HU : Hid ((Cr.Cu.uv K.length).length ≤ 100) := by
    show _ ≤ _
    have := Cr.Cu.uv_le K.length
    omega
  have HSM : Hid (∀ i, sumT (K.map bs) i ≤ 4294967295) := fun i => Nat.le_trans (sumT_le _ i) hP.2.2
  have HSS : Hid (∀ i s, K[i]? = some s → sumT (K.map bs) (i + 1) = sumT (K.map bs) i + s.size) := fun i s hs => by
    rw [sumT_succ _ i (bs s) (by rw [List.getElem?_map, hs]; rfl), bs_len]
  have HML : Hid ((K.map bs).length = K.length) := List.length_map _
  clear hA hN hlt hP
  generalize hT : K.map bs = T at *
  have HT := hid hT
  clear hT
  go_enter Tryz.func38, Tryz.ntmps38
  go_wp2_with fail
  refine HS.out.mono ?_
  rintro e w1 ⟨v1, rfl, h1⟩
  have HZ := hid (rLow4 0 w1 (by omega))
  rw [show ((0 : Nat) : Int) = 0 from rfl] at HZ
  have H1 := hid h1
  clear h1 HS
  go_wp2_with fail
  refine HZ.out.mono ?_
  rintro e w2 ⟨v2, rfl, h2⟩
  obtain ⟨a2, c2, rfl, n2, s2⟩ := h2.form
  obtain ⟨v3, w3, hr3, o3, b3⟩ := run_appL (c := c2) (H1.out.1.later h2.2) s2 n2 (by have := HU.out; rw [fx_len]; omega) (Nat.le_trans H1.out.2.size h2.2.size)
  have R3 := hid hr3
  have H3 : Hid (NewL w w3 v3 (Cr.Cu.uv K.length ++ flat 4 (sumT T) (0 + 1))) := by
    show NewL _ _ _ _
    rw [show flat 4 (sumT T) (0 + 1) = fx 4 0 by rw [flat_succ]; simp [flat, sumT]]
    exact ⟨o3, b3 _ (below_up H1.out.2 h2.2)⟩
  clear h2 s2 n2 hr3 o3 b3 HZ H1
  go_wp2_with (at_builtin; refine wpList_app (by rfl) (by rfl) R3.out ?_; clear R3)
  go_loopw [5, 6, 7] (fun x z y wr => ∃ i m : Nat, i ≤ K.length ∧ y = .int .i64 (i : Int) ∧ z = .int .i64 (m : Int) ∧ m ≤ 4294967295 ∧ Hid (m = sumT T i) ∧ Hid (NewL w wr x (Cr.Cu.uv K.length ++ flat 4 (sumT T) (i + 1)))) (fun _ _ y _ => K.length - (intOf y).toNat)
  case atStart => exact ⟨0, 0, Nat.zero_le _, rfl, rfl, by omega, rfl, H3⟩
  case round =>
    clear H3
    obtain ⟨i, m, hi, rfl, rfl, hm4, HM, HO⟩ := hrel
    by_cases hlt : i < K.length
    · have hii : (i : Int) < (K.length : Int) := by omega
      have hs : K[i]? = some K[i] := List.getElem?_eq_getElem hlt
      generalize K[i] = s at hs
      obtain ⟨g, o, rfl, hg, hc⟩ := (HA.out.later HO.out.2) i s hs
      have hms := HSS.out i s hs
      have hm2 := HSM.out (i + 1)
      rw [hms, ← HM.out] at hm2
      have HM2 : Hid (m + s.size = sumT T (i + 1)) := by show _ = _; rw [hms, ← HM.out]
      obtain ⟨q, hq⟩ : ∃ q, m + s.size = q := ⟨_, rfl⟩
      have hqi : (m : Int) + (s.size : Int) = (q : Int) := by omega
      rw [hq] at hm2 HM2
      have hqw : IntKind.u64.wrap (q : Int) = (q : Int) := Pk.u64_left _ (by omega) (by omega)
      have HF := hid (rLow4 q wr (by omega))
      have HL : Hid ((Cr.Cu.uv K.length ++ flat 4 (sumT T) (i + 1)).length ≤ 100 + 4 * (i + 1)) := by
        show _ ≤ _
        have := HU.out
        rw [List.length_append, flat_len]
        omega
      clear hms hs hq HM
      go_wp2_with fail
      refine HF.out.mono ?_
      rintro e w4 ⟨v4, rfl, h4⟩
      obtain ⟨a4, c4, rfl, n4, s4⟩ := h4.form
      obtain ⟨v5, w5, hr5, o5, b5⟩ := run_appL (c := c4) (HO.out.1.later h4.2) s4 n4 (by have := HL.out; rw [fx_len]; omega) (Nat.le_trans HO.out.2.size h4.2.size)
      have R5 := hid hr5
      have H5 : Hid (NewL w w5 v5 (Cr.Cu.uv K.length ++ flat 4 (sumT T) (i + 1 + 1))) := by
        show NewL _ _ _ _
        rw [flat_succ 4 (sumT T) (i + 1), ← List.append_assoc, ← HM2.out]
        exact ⟨o5, b5 _ (below_up HO.out.2 h4.2)⟩
      clear h4 s4 n4 hr5 o5 b5 HF HO hc
      go_wp2_with (at_builtin; refine wpList_app (by rfl) (by rfl) R5.out ?_; clear R5)
      exact ⟨⟨i + 1, q, by omega, by go_num, by go_num, hm2, HM2, H5⟩, by simp [intOf]; omega⟩
    · obtain rfl : i = K.length := by omega
      have hii : ¬ (K.length : Int) < (K.length : Int) := by omega
      have H6 : Hid (NewL w wr u5 (Cr.Cu.uv K.length ++ endsT T ++ (T.take 0).flatten)) := by
        show NewL _ _ _ _
        unfold endsT
        rw [HML.out, show (T.take 0).flatten = [] from rfl, List.append_nil]
        exact HO.out
      clear HO HM
      go_wp2_with fail
      go_loopw [5, 8] (fun x y wr => ∃ i : Nat, i ≤ K.length ∧ y = .int .i64 (i : Int) ∧ Hid (NewL w wr x (Cr.Cu.uv K.length ++ endsT T ++ (T.take i).flatten))) (fun _ y _ => K.length - (intOf y).toNat)
      case atStart => exact ⟨0, Nat.zero_le _, rfl, H6⟩
      case round =>
        clear H6
        obtain ⟨i, hi2, rfl, HO⟩ := hrel
        have HL : Hid ((Cr.Cu.uv K.length ++ endsT T ++ (T.take i).flatten).length ≤ 4300000000) := by
          show _ ≤ _
          have h1 := HU.out
          have h2 := HSM.out i
          unfold sumT at h2
          unfold endsT
          rw [List.length_append, List.length_append, flat_len, HML.out]
          omega
        by_cases hlt : i < K.length
        · have hii : (i : Int) < (K.length : Int) := by omega
          have hs : K[i]? = some K[i] := List.getElem?_eq_getElem hlt
          generalize K[i] = s at hs
          obtain ⟨g, o, rfl, hg, hc⟩ := (HA.out.later HO.out.2) i s hs
          have HTK : Hid ((T.take (i + 1)).flatten = (T.take i).flatten ++ bs s) := by
            show _ = _
            rw [List.take_add_one, ← HT.out, List.getElem?_map, hs, List.flatten_append]
            simp
          have hsz : s.size ≤ 4294967295 := by have h1 := HSS.out i s hs; have h2 := HSM.out (i + 1); omega
          obtain ⟨v5, w5, hr5, o5, b5⟩ := run_strA s HO.out.1 (by have := HL.out; omega) HO.out.2.size
          have R5 := hid hr5
          have H5 : Hid (NewL w w5 v5 (Cr.Cu.uv K.length ++ endsT T ++ (T.take (i + 1)).flatten)) := by
            show NewL _ _ _ _
            rw [HTK.out, ← List.append_assoc]
            exact ⟨o5, b5 _ HO.out.2⟩
          clear hr5 o5 b5 HO hs HTK
          go_wp2_with (at_builtin; refine Pt.wpList_appS (by rfl) (by rfl) R5.out ?_; clear R5)
          exact ⟨⟨i + 1, by omega, by go_num, H5⟩, by simp [intOf]; omega⟩
        · obtain rfl : i = K.length := by omega
          have hii : ¬ (K.length : Int) < (K.length : Int) := by omega
          have H6 : Hid (NewL w wr u5 (Cr.Cu.uv K.length ++ encT T)) := by
            show NewL _ _ _ _
            unfold encT
            have := HO.out
            rw [List.take_of_length_le (by rw [HML.out]; exact Nat.le_refl _), List.append_assoc] at this
            exact this
          have HL6 : Hid ((Cr.Cu.uv K.length ++ encT T).length ≤ 4300000000) := by
            show _ ≤ _
            have := HL.out
            rw [List.take_of_length_le (by rw [HML.out]; exact Nat.le_refl _), List.append_assoc] at this
            exact this
          have hnk := Pk.mul_small hC hkw
          have HPK := hid (Pk.ref3Pack_run b C.length d (wd K.length) (ofL C) wr hC hkw HLT.out (Pk.Nums.later HNN.out HO.out.2))
          clear HO HL
          go_wp2_with fail
          refine (HW.out _).mono ?_
          rintro e w8 ⟨rfl, hw8⟩
          subst w8
          go_wp2_with fail
          refine HPK.out.mono ?_
          rintro e w9 ⟨v9, rfl, o9, b9⟩
          have o9' := packC_own (c := C) (k := wd K.length) o9
          obtain ⟨a9, c9, rfl, -, -, hz9⟩ := o9'.form
          have h9 := o9'.nums
          obtain ⟨vA, wA, hrA, oA, bA⟩ := run_appL (c := c9) (H6.out.1.later b9) (show Bytes w9 a9 (packC (wd K.length) C) from h9) hz9 (by have := HL6.out; rw [packC_len]; omega) (Nat.le_trans H6.out.2.size b9.size)
          have RA := hid hrA
          have HF : Hid (NewL w wA vA (Cr.Cu.uv K.length ++ encT T ++ packC (wd K.length) C)) := ⟨oA, bA _ (below_up H6.out.2 b9)⟩
          clear o9 o9' h9 hz9 hrA oA bA b9 HPK H6
          go_wp2_with (at_builtin; refine wpList_app (by rfl) (by rfl) RA.out ?_; clear RA)
          go_ret
          exact ⟨_, rfl, HF.out⟩
end Go.Proofs.YtddacphlpjojbaaGreat.Tx
