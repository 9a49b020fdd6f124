/-
  The document's own functions of chapter 8: texts put.
-/
import Derived.Test.YtcgdagladndgfaaPTwo
namespace Go.Proofs.Ytcgdagladndgfaa
open Go.ChangeShapes Go.WideShapes Go.ChangeAt Go.RowKit Cu

def putE (T : List (List Nat)) : Nat := if PutOk T then 0 else 3
def putR (T : List (List Nat)) : List Nat := if PutOk T then encT T else []
theorem put_yes {T : List (List Nat)} (h : PutOk T) : putE T = 0 ∧ putR T = encT T := ⟨if_pos h, if_pos h⟩
theorem put_no {T : List (List Nat)} (h : ¬ PutOk T) : putE T = 3 ∧ putR T = [] := ⟨if_neg h, if_neg h⟩
/-- So far it may be put. -/
def OkTo (U : List (List Nat)) (i : Nat) : Prop := (∀ p ∈ U.take i, p.length ≤ 65535) ∧ sumT U i ≤ 4294967295
theorem okTo_zero (U : List (List Nat)) : OkTo U 0 := ⟨fun p hp => by simp at hp, by rw [sumT_zero]; omega⟩
theorem okTo_next {U : List (List Nat)} {i : Nat} {p : List Nat} (h : OkTo U i) (hp : U[i]? = some p) (h1 : p.length ≤ 65535) (h2 : sumT U i + p.length ≤ 4294967295) : OkTo U (i + 1) := by
  refine ⟨fun q hq => ?_, by rw [sumT_succ U i p hp]; exact h2⟩
  rw [List.take_add_one, hp] at hq
  cases List.mem_append.1 hq with
  | inl h3 => exact h.1 q h3
  | inr h3 => simp at h3; rw [h3]; exact h1
theorem okTo_all {U : List (List Nat)} (h : OkTo U U.length) (hl : U.length ≤ 16777216) : PutOk U := by
  refine ⟨hl, fun p hp => h.1 p (by rw [List.take_of_length_le (Nat.le_refl _)]; exact hp), ?_⟩
  have := h.2
  rwa [sumT_all] at this
theorem not_long {U : List (List Nat)} {i : Nat} {p : List Nat} (hp : U[i]? = some p) (h1 : 65535 < p.length) : ¬ PutOk U := fun h => by
  have := h.2.1 p (List.mem_of_getElem? hp)
  omega
theorem not_sum {U : List (List Nat)} {i : Nat} {p : List Nat} (hp : U[i]? = some p) (h1 : 4294967295 < sumT U i + p.length) : ¬ PutOk U := fun h => by
  have h2 := sumT_le U (i + 1)
  rw [sumT_succ U i p hp] at h2
  have := h.2.2
  omega
theorem flat_take_next {U : List (List Nat)} {i : Nat} {p : List Nat} (hp : U[i]? = some p) : (U.take i).flatten ++ p = (U.take (i + 1)).flatten := by
  rw [List.take_add_one, hp, List.flatten_append]
  simp
theorem map_get {T : List ByteArray} {i : Nat} {s : ByteArray} (h : T[i]? = some s) : (T.map bs)[i]? = some (bs s) := by simp [h]
set_option maxRecDepth 4000 in
set_option maxHeartbeats 4000000 in
theorem rPutTexts (a : Option Addr) (T : List ByteArray) (c : Nat) (w : World) (hA : Strs w a T) (hT : T.length ≤ 8796093022208) (hS : ∀ s ∈ T, s.size ≤ 140737488355328) :
    Calls Try.prog 4 #[.slice a T.length c] w fun e w' => ∃ v, e = .returned (.tuple #[v, .int .i64 (putE (T.map bs) : Nat)]) ∧ NewL w w' v (putR (T.map bs)) := by
  have HA := hid hA
  have HS := hid hS
  clear hA hS
  have HM := hid (rMay (T.length : Int) w)
  by_cases h0 : T.length ≤ 16777216
  · rw [mayE_nat h0] at HM
    have HF0 := hid (fun W => rFixed 0 4 W (by omega) (by omega))
    go_enter Try.func4, Try.ntmps4
    go_wp2_with (first
      | (go_at_call 11; refine HM.out.mono ?_; rintro e w2 ⟨rfl, hw2⟩; subst w2)
      | (go_at_call 12; refine (HF0.out w).mono ?_; rintro e w3 ⟨v3, rfl, h3⟩; have H3 := hid h3; clear h3 HF0 HM))
    go_loopw [5, 6, 7, 8] (fun x v u y wr => ∃ i S : Nat, i ≤ T.length ∧ y = .int .i64 (i : Int) ∧ x = .int .i64 (S : Int) ∧ S ≤ 4294967295 ∧ Hid (S = sumT (T.map bs) i) ∧ Hid (OkTo (T.map bs) i) ∧ Hid (Two wr w.heap.size v (flat 4 (sumT (T.map bs)) (i + 1)) u ((T.map bs).take i).flatten) ∧ Hid (Below w.heap.size w wr)) (fun _ _ _ y _ => T.length - (intOf y).toNat)
    case atStart =>
      refine ⟨0, 0, Nat.zero_le _, rfl, rfl, by omega, rfl, okTo_zero _, ⟨?_, Own.nil _ _ _ _ _, fun g _ h => by simp [Value.ownBlock] at h⟩, H3.out.2⟩
      have := H3.out.1
      rw [flat_succ, flat_zero, List.nil_append, sumT_zero]
      exact this
    case round =>
      clear H3
      obtain ⟨i, S, hi, rfl, rfl, hS4, HS1, HOk, H2, HB⟩ := hrel
      by_cases hlt : i < T.length
      · have hii : (i : Int) < (T.length : Int) := by omega
        have hs : T[i]? = some T[i] := List.getElem?_eq_getElem hlt
        have hz := HS.out T[i] (List.getElem_mem hlt)
        generalize T[i] = s at hs hz
        obtain ⟨g, o, rfl, hg, hc⟩ := (HA.out.later HB.out) i s hs
        have hm := map_get hs
        have HSS := hid hs
        have hbl := bs_len s
        generalize hU : T.map bs = U at *
        obtain ⟨z, hzz⟩ : ∃ z, s.size = z := ⟨_, rfl⟩
        by_cases h1 : 65535 < s.size
        · have hno := put_no (not_long hm (by omega))
          have HNO := hid hno
          have h1' : (65535 : Int) < (s.size : Int) := by omega
          clear hno hm hbl hs
          go_wp2_with fail
          go_ret2
          subst hU
          rw [HNO.out.1, HNO.out.2]
          exact ⟨_, rfl, Own.nil _ _ _ _ _, HB.out⟩
        · have h1' : (s.size : Int) ≤ 65535 := by omega
          have hd1 : decide ((65535 : Int) < (s.size : Int)) = false := by simp; omega
          by_cases h2 : 4294967295 < S + s.size
          · have hno := put_no (not_sum hm (by rw [← HS1.out, hbl]; exact h2))
            have HNO := hid hno
            have h2' : (4294967295 : Int) < (S : Int) + (s.size : Int) := by omega
            clear hno hm hbl hs
            go_wp2_with fail
            go_ret2
            subst hU
            rw [HNO.out.1, HNO.out.2]
            exact ⟨_, rfl, Own.nil _ _ _ _ _, HB.out⟩
          · have h2' : (S : Int) + (s.size : Int) ≤ 4294967295 := by omega
            have HOk2 := hid (okTo_next HOk.out hm (by omega) (by rw [← HS1.out, hbl]; omega))
            have HS2 : Hid (S + s.size = sumT U (i + 1)) := by show _ = _; rw [sumT_succ U i _ hm, ← HS1.out, hbl]
            obtain ⟨S2, hS2⟩ : ∃ S2, S + s.size = S2 := ⟨_, rfl⟩
            have hS2' : (S : Int) + (s.size : Int) = (S2 : Int) := by omega
            have hS24 : S2 ≤ 4294967295 := by omega
            rw [hS2] at HS2
            have HF := hid (rFixed S2 4 wr (by omega) (by omega))
            have hfl : (flat 4 (sumT U) (i + 1)).length = 4 * (i + 1) := flat_len _ _ _
            have hhl : (U.take i).flatten.length = S := by rw [HS1.out]; rfl
            have HE1 : Hid (flat 4 (sumT U) (i + 1) ++ fx 4 S2 = flat 4 (sumT U) (i + 1 + 1)) := by show _ = _; rw [flat_succ 4 (sumT U) (i + 1), HS2.out]
            have HE2 := hid (flat_take_next hm)
            have HL := hid hfl
            have HH := hid hhl
            generalize hq1 : flat 4 (sumT U) (i + 1) = q1 at *
            generalize hq2 : flat 4 (sumT U) (i + 1 + 1) = q2 at *
            generalize hq3 : (U.take i).flatten = q3 at *
            generalize hq4 : (U.take (i + 1)).flatten = q4 at *
            clear hm hbl hs hfl hhl hS2 hq1 hq3 HOk HS1 hzz
            go_wp2_with (first
              | (go_at_call 12
                 refine HF.out.mono ?_
                 rintro e w3 ⟨v3, rfl, h3⟩
                 obtain ⟨a3, c3, rfl, h3z, h3b⟩ := h3.form
                 obtain ⟨v5, w5, hr5, o5, b5⟩ := (H2.out.later h3.2).app (c := c3) h3b h3z (by rw [HL.out, fx_len]; omega) (Nat.le_trans HB.out.size h3.2.size)
                 rw [HE1.out] at o5
                 have hb5 := b5 w (below_up HB.out h3.2)
                 have hc5 : w5.cell? ⟨g, o + i, none⟩ = some (.string s) := by
                   obtain ⟨g', o', e', _, hc'⟩ := (HA.out.later hb5) i s HSS.out
                   cases e'
                   exact hc'
                 obtain ⟨u6, w6, hr6, o6, b6⟩ := o5.appStr s (by rw [HH.out]; omega) hb5.size
                 rw [HE2.out] at o6
                 have R5 := hid hr5
                 have R6 := hid hr6
                 have O6 := hid o6
                 have B6 := hid (b6 w hb5)
                 clear h3 h3z h3b hr5 o5 b5 hb5 hr6 o6 b6 HF H2 HB)
              | (at_builtin; first | (refine wpList_app (by rfl) (by rfl) R5.out ?_; clear R5) | (refine wpList_appS (by rfl) (by rfl) R6.out ?_; clear R6)))
            subst hq2 hq4
            exact ⟨⟨i + 1, S2, by omega, by go_num, by first | rfl | go_num, hS24, HS2, HOk2, O6, B6⟩, by simp [intOf]; omega⟩
      · obtain rfl : i = T.length := by omega
        have hok : PutOk (T.map bs) := okTo_all (by rw [List.length_map]; exact HOk.out) (by rw [List.length_map]; exact h0)
        have HYES := hid (put_yes hok)
        have h2 := H2.out
        rw [show (T.map bs).take T.length = T.map bs from List.take_of_length_le (by simp)] at h2
        obtain ⟨au, cu, rfl, _, _, hzu⟩ := h2.two.form
        have hfl : (T.map bs).flatten.length ≤ 4294967295 := hok.2.2
        obtain ⟨v5, w5, hr5, o5, b5⟩ := h2.app (c := cu) h2.two.nums hzu (by rw [flat_len]; omega) HB.out.size
        have HN : Hid (NewL w w5 v5 (encT (T.map bs))) := by
          refine ⟨?_, b5 w HB.out⟩
          have := o5.one
          unfold encT endsT
          rw [List.length_map]
          exact this
        have R5 := hid hr5
        generalize (T.map bs).flatten.length = fl at *
        clear h2 hr5 o5 b5 hzu hfl HOk H2 hok
        go_wp2_with (at_builtin; refine wpList_app (by rfl) (by rfl) R5.out ?_; clear R5)
        go_ret2
        rw [HYES.out.1, HYES.out.2]
        exact ⟨_, rfl, HN.out⟩
  · have hno := put_no (T := T.map bs) (fun h => h0 (by have := h.1; rwa [List.length_map] at this))
    rw [hno.1, hno.2]
    have e3 : mayE (T.length : Int) = 3 := by unfold mayE; rw [if_neg (by omega), if_pos (by omega)]
    rw [e3] at HM
    clear hno e3
    go_enter Try.func4, Try.ntmps4
    go_wp2_with (go_at_call 11; refine HM.out.mono ?_; rintro e w2 ⟨rfl, hw2⟩; subst w2)
    go_ret2
    exact ⟨_, rfl, Own.nil _ _ _ _ _, Below.refl _ _⟩
end Go.Proofs.Ytcgdagladndgfaa
