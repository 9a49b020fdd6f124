/-
  The document's Form and PutInts of chapter 9.
-/
import Derived.Test.YtenkdhphgfhkbaaGreatDRefForm
import Derived.Test.YtenkdhphgfhkbaaGreatDRefPack
import Derived.Test.YtenkdhphgfhkbaaGreatDPutAny
import Derived.Test.YtenkdhphgfhkbaaGreatDKeysEq
import Derived.Test.YtenkdhphgfhkbaaGreatDRefKeysW
import Derived.Test.YtenkdhphgfhkbaaGreatDLaw
namespace Go.Proofs.YtenkdhphgfhkbaaGreat
open Go.RowKit Cu

theorem packC_own {w : World} {B : Nat} {v : Value} {k : Nat} {c : List Nat} (h : Own w B 5 .u8 v ((c.length * k + 7) / 8) (Pk.byt (Pk.laneB c.length k (ofL c)))) : Own w B 5 .u8 v (packC k c).length (ofL (packC k c)) := by
  unfold Own at h ⊢
  rw [packC_len]
  have e : vals .u8 ((c.length * k + 7) / 8) (Pk.byt (Pk.laneB c.length k (ofL c))) = vals .u8 ((c.length * k + 7) / 8) (ofL (packC k c)) := by
    unfold vals
    apply List.map_congr_left
    intro j hj
    have hj2 := List.mem_range.1 hj
    have : ofL (packC k c) j = Pk.byt (Pk.laneB c.length k (ofL c)) j := by
      unfold ofL packC
      rw [List.getD_eq_getElem?_getD, List.getElem?_map, List.getElem?_range hj2]; rfl
    rw [this]
  rw [e] at h
  exact h
theorem uvals_nums {w : World} {B : Nat} {a : Option Addr} {n c : Nat} {l : List Nat} (hn : l.length = n) (h : w.ownsRow B 40 1 (.slice a n c) n (uvals l)) : Pk.Nums w .u64 a n (ofL l) := fun j hj => by
  have h' : w.ownsRow B 40 1 (.slice a n c) (uvals l).length (uvals l) := by rw [uvals_len, hn]; exact h
  have hjl : j < l.length := by omega
  have hj2 : (uvals l)[j]? = some (.int .u64 ((ofL l j : Nat) : Int)) := by rw [uvals, List.getElem?_map, ofL_in hjl]; rfl
  obtain ⟨g, rfl, hc⟩ := row_cell h' hj2
  exact ⟨g, 0, rfl, (World.ownsRow.lt h' g rfl).2, by rw [Nat.zero_add]; exact hc⟩
set_option maxRecDepth 8000 in
set_option maxHeartbeats 4000000 in
theorem rForm9 (a : Option Addr) (K : List Int) (c : Nat) (b : Option Addr) (C : List Nat) (d : Nat) (w : World) (hA : IntsA w a K) (hN : Pk.Nums w .u64 b C.length (ofL C)) (hK : K.length ≤ 65536) (hC : C.length ≤ 16777216) (hlt : ∀ x ∈ C, x < 18446744073709551616) :
    Calls Tryz.prog 34 #[.slice a K.length c, .slice b C.length d] w fun e w' => ∃ v', e = .returned v' ∧ NewL w w' v' (Cr.Cu.uv K.length ++ Cu.encI K ++ packC (wd K.length) C) := by
  have HA := hid hA
  have HNN := hid hN
  have HS := hid (rShort9 K.length w hK)
  have HLT := hid (fun j => ofL_small (by decide) hlt j)
  have HW := hid (fun wx => rWidth9 K.length wx hK)
  have hkw := wd_le hK
  have HU : Hid ((Cr.Cu.uv K.length).length ≤ 100) := by
    show _ ≤ _
    have := Cr.Cu.uv_le K.length
    omega
  clear hA hN hlt
  go_enter Tryz.func34, Tryz.ntmps34
  go_wp2_with fail
  refine HS.out.mono ?_
  rintro e w1 ⟨v1, rfl, h1⟩
  have H1 : Hid (NewL w w1 v1 (Cr.Cu.uv K.length ++ Cu.encI (K.take 0))) := by
    show NewL _ _ _ _
    rw [show Cu.encI (K.take 0) = [] from rfl, List.append_nil]; exact h1
  clear h1 HS
  go_wp2_with fail
  go_loopw [5, 6] (fun x y wr => ∃ i : Nat, i ≤ K.length ∧ y = .int .i64 (i : Int) ∧ Hid (NewL w wr x (Cr.Cu.uv K.length ++ Cu.encI (K.take i)))) (fun _ y _ => K.length - (intOf y).toNat)
  case atStart => exact ⟨0, Nat.zero_le _, rfl, H1⟩
  case round =>
    clear H1
    obtain ⟨i, hi, rfl, HO⟩ := hrel
    by_cases hlt : i < K.length
    · have hii : (i : Int) < (K.length : Int) := by omega
      have hs : K[i]? = some K[i] := List.getElem?_eq_getElem hlt
      generalize K[i] = s at hs
      obtain ⟨g, o, rfl, hg, hc⟩ := (HA.out.later HO.out.2) i s hs
      have HE : Hid (Cr.Cu.uv K.length ++ Cu.encI (K.take (i + 1)) = (Cr.Cu.uv K.length ++ Cu.encI (K.take i)) ++ fx 8 (tou s)) := by
        show _ = _
        rw [encI_take K i s hs, List.append_assoc]
      have HL : Hid ((Cr.Cu.uv K.length ++ Cu.encI (K.take i)).length ≤ 100 + 8 * i) := by
        show _ ≤ _
        have := HU.out
        rw [List.length_append, encI_len, List.length_take, Nat.min_eq_left (by omega)]
        omega
      have HF := hid (rLow9 (tou s) wr (tou_lt s))
      have HWR := hid (tou_wrap s)
      generalize Cr.Cu.uv K.length ++ Cu.encI (K.take i) = q at *
      generalize hq2 : Cr.Cu.uv K.length ++ Cu.encI (K.take (i + 1)) = q2 at *
      clear hs
      go_wp2_with (first
        | (go_at_call 55
           rw [HWR.out]
           refine HF.out.mono ?_
           rintro e w2 ⟨v2, rfl, h2⟩
           obtain ⟨a2, c2, rfl, h3, h4⟩ := h2.form
           obtain ⟨v5, w5, hr5, o5, b5⟩ := run_appL (c := c2) (HO.out.1.later h2.2) h4 h3 (by have := HL.out; rw [fx_len]; omega) (Nat.le_trans HO.out.2.size h2.2.size)
           rw [← HE.out] at o5
           have O5 : Hid (NewL w w5 v5 q2) := ⟨o5, b5 w (below_up HO.out.2 h2.2)⟩
           have R5 := hid hr5
           clear h2 h3 h4 hr5 o5 b5 HF HWR HO)
        | (at_builtin; refine wpList_app (by rfl) (by rfl) R5.out ?_; clear R5))
      subst hq2
      exact ⟨⟨i + 1, by omega, by go_num, O5⟩, by simp [intOf]; omega⟩
    · have hii : ¬ (i : Int) < (K.length : Int) := by omega
      have hik : i = K.length := by omega
      have HO2 : Hid (NewL w wr u5 (Cr.Cu.uv K.length ++ Cu.encI K)) := by
        have h := HO.out
        rw [hik, List.take_of_length_le (Nat.le_refl _)] at h
        exact h
      have HQL : Hid ((Cr.Cu.uv K.length ++ Cu.encI K).length ≤ 1000000) := by
        show _ ≤ _
        have := HU.out
        rw [List.length_append, encI_len]
        omega
      clear HO hik HU
      have hNr : Pk.Nums wr .u64 b C.length (ofL C) := Pk.Nums.later HNN.out HO2.out.2
      have HPK := hid (Pk.ref3Pack_run b C.length d (wd K.length) (ofL C) wr hC hkw HLT.out hNr)
      have hpm : (packC (wd K.length) C).length ≤ 134217729 := by
        rw [packC_len]
        have := Pk.mul_small hC hkw
        omega
      generalize hQ : Cr.Cu.uv K.length ++ Cu.encI K = Q at *
      generalize hPC : packC (wd K.length) C = PC at *
      go_wp2_with (first
        | (go_at_call 20; refine (HW.out _).mono ?_; rintro e w2 ⟨rfl, hw2⟩; have hw2' := hw2.symm; clear hw2; subst hw2')
        | (go_at_call 21
           refine HPK.out.mono ?_
           rintro e w3 ⟨v3, rfl, h3o, h3b⟩
           have h3' := packC_own h3o
           rw [hPC] at h3'
           have hNL : NewL wr w3 v3 PC := ⟨h3', h3b⟩
           obtain ⟨a3, c3, rfl, h3, h4⟩ := hNL.form
           obtain ⟨v5, w5, hr5, o5, b5⟩ := run_appL (c := c3) (HO2.out.1.later h3b) h4 h3 (by have := HQL.out; omega) (Nat.le_trans HO2.out.2.size h3b.size)
           have O5 : Hid (NewL w w5 v5 (Q ++ PC)) := ⟨o5, b5 w (below_up HO2.out.2 h3b)⟩
           have R5 := hid hr5
           clear hNL h3 h4 hr5 o5 b5 h3' h3o h3b HPK)
        | (at_builtin; refine wpList_app (by rfl) (by rfl) R5.out ?_; clear R5))
      go_ret
      subst hQ
      subst hPC
      exact ⟨_, rfl, O5.out⟩
set_option maxRecDepth 8000 in
set_option maxHeartbeats 4000000 in
theorem rPut9_fit (a : Option Addr) (l : List Int) (c : Nat) (w : World) (hA : IntsA w a l) (hn : l.length ≤ 16777216) (hK : (keysI l).length ≤ 65536) :
    Calls Tryz.prog 19 #[.slice a l.length c] w fun e w' => ∃ v, e = .returned (.tuple #[v, .int .i64 0]) ∧ NewL w w' v (formD l) := by
  have hd1 : ¬ (16777216 : Int) < (l.length : Int) := by omega
  have HKS := hid (rKeys a l c w hA (by omega))
  rw [keys_eq] at HKS
  have HA := hid hA
  clear hA
  go_enter Tryz.func19, Tryz.ntmps19
  go_wp2_with fail
  refine HKS.out.mono ?_
  rintro e w1 ⟨v1, rfl, h1, hb1⟩
  obtain ⟨a1, c1, rfl, _, _, _, hI1⟩ := h1.form
  have hA1 := HA.out.later hb1
  have HC := hid (rCodes a1 (keysI l) c1 a l c w1 hI1 hA1 (by omega) (by omega))
  rw [codes_same] at HC
  have HI1 := hid hI1
  have HB1 := hid hb1
  have hd2 : ¬ (65536 : Int) < ((keysI l).length : Int) := by omega
  clear h1 hb1 hI1 hA1 HKS
  go_wp2_with fail
  refine HC.out.mono ?_
  rintro e w2 ⟨v2, rfl, h2, hb2⟩
  have hcl : (codesI l).length = l.length := by unfold codesI; rw [List.length_map]
  have hv2 : ∃ a2 c2, v2 = .slice a2 l.length c2 := by
    rcases h2.2 with ⟨hv, h0⟩ | ⟨g, cap, cur, hv, _⟩
    · exact ⟨none, 0, by rw [hv, h0]⟩
    · exact ⟨_, _, hv⟩
  obtain ⟨a2, c2, rfl⟩ := hv2
  have hN2 := uvals_nums hcl h2
  rw [← hcl] at hN2
  have HF := hid (rForm9 a1 (keysI l) c1 a2 (codesI l) c2 w2 (HI1.out.later hb2) hN2 hK (by rw [hcl]; exact hn) (fun x hx => by have := codesI_lt l x hx; omega))
  rw [hcl] at HF
  have HB2 := hid (below_up HB1.out hb2)
  clear h2 hb2 hN2 HI1 HB1 HC
  go_wp2_with fail
  refine HF.out.mono ?_
  rintro e w3 ⟨v3, rfl, h3⟩
  have HR : Hid (NewL w w3 v3 (formD l)) := ⟨h3.1.low HB2.out.size, below_up HB2.out h3.2⟩
  clear h3 HF HB2
  go_wp2_with fail
  go_ret2
  exact ⟨_, rfl, HR.out⟩
set_option maxRecDepth 8000 in
set_option maxHeartbeats 4000000 in
theorem rPut9_any (a : Option Addr) (l : List Int) (c : Nat) (w : World) (hA : IntsA w a l) :
    Calls Tryz.prog 19 #[.slice a l.length c] w fun e w' => ∃ v, e = .returned (.tuple #[v, .int .i64 (putE l)]) ∧ NewL w w' v (putR l) := by
  unfold putE putR
  by_cases h1 : 16777216 < l.length
  · rw [if_pos h1, if_pos h1]
    have hd1 : (16777216 : Int) < (l.length : Int) := by omega
    go_enter Tryz.func19, Tryz.ntmps19
    go_wp2_with fail
    go_ret2
    exact ⟨_, rfl, Own.nil _ _ _ _ _, Below.refl _ _⟩
  · rw [if_neg h1, if_neg h1]
    by_cases h2 : 65536 < (keysI l).length
    · rw [if_pos h2, if_pos h2]
      have hd1 : ¬ (16777216 : Int) < (l.length : Int) := by omega
      have HKS := hid (rKeys a l c w hA (by omega))
      rw [keys_eq] at HKS
      clear hA
      go_enter Tryz.func19, Tryz.ntmps19
      go_wp2_with fail
      refine HKS.out.mono ?_
      rintro e w1 ⟨v1, rfl, h1, hb1⟩
      obtain ⟨a1, c1, rfl, _⟩ := h1.form
      have HB1 := hid hb1
      have hd2 : (65536 : Int) < ((keysI l).length : Int) := by omega
      clear h1 hb1 HKS
      go_wp2_with fail
      go_ret2
      exact ⟨_, rfl, Own.nil _ _ _ _ _, HB1.out⟩
    · rw [if_neg h2, if_neg h2]
      exact rPut9_fit a l c w hA (by omega) (by omega)
end Go.Proofs.YtenkdhphgfhkbaaGreat
