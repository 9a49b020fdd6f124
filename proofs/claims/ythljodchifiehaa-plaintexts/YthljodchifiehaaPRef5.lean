/-
  The document's own TextAt.
-/
import Derived.Test.YthljodchifiehaaPRef4
import Derived.Test.YthljodchifiehaaPTexts2
namespace Go.Proofs.Ythljodchifiehaa
open Go.ChangeShapes Go.WideShapes Go.ChangeAt Go.RowKit Cu

set_option maxRecDepth 4000 in
set_option maxHeartbeats 4000000 in
theorem rTextAt (a : Option Addr) (l : List Nat) (c : Nat) (n i : Int) (w : World) (hA : Bytes w a l) (hb : ∀ x ∈ l, x < 256) (hc : l.length ≤ c) (hcm : c ≤ 9223372036854775807) :
    Calls Try.prog 21 #[.slice a l.length c, .int .i64 n, .int .i64 i] w fun e w' => e = .returned (atT (textAtR l n i)) ∧ w' = w := by
  have HM := hid (rMay n w)
  by_cases h0 : mayE n = 0
  · rw [h0] at HM
    obtain ⟨m, rfl, hm⟩ := mayE_ok h0
    by_cases h1 : i < 0
    · rw [textAtR_no (.inr (.inl h1))]
      clear hA
      go_enter Try.func21, Try.ntmps21
      go_wp2_with (go_at_call 23; refine HM.out.mono ?_; rintro e w2 ⟨rfl, hw2⟩; subst w2)
      go_ret2
      exact ⟨rfl, rfl⟩
    · obtain ⟨i, rfl⟩ : ∃ k : Nat, i = (k : Int) := ⟨i.toNat, by omega⟩
      have h1' : (0 : Int) ≤ (i : Int) := by omega
      have hd1 : decide ((i : Int) < 0) = false := by simp
      by_cases h2 : m ≤ i
      · rw [textAtR_no (.inr (.inr (.inl (by omega))))]
        have h2' : (m : Int) ≤ (i : Int) := by omega
        clear hA
        go_enter Try.func21, Try.ntmps21
        go_wp2_with (go_at_call 23; refine HM.out.mono ?_; rintro e w2 ⟨rfl, hw2⟩; subst w2)
        go_ret2
        exact ⟨rfl, rfl⟩
      · have h2' : (i : Int) < (m : Int) := by omega
        have hd2 : decide ((m : Int) ≤ (i : Int)) = false := by simp; omega
        have h4 : 4 * ((m : Int) + 1) = ((4 * (m + 1) : Nat) : Int) := by omega
        by_cases h3 : l.length < 4 * (m + 1)
        · rw [textAtR_no (.inr (.inr (.inr (by rw [Int.toNat_natCast]; exact h3))))]
          obtain ⟨k, hk⟩ : ∃ k, 4 * (m + 1) = k := ⟨_, rfl⟩
          rw [hk] at h3 h4
          have h3' : (l.length : Int) < (k : Int) := by omega
          clear hk hA
          go_enter Try.func21, Try.ntmps21
          go_wp2_with (go_at_call 23; refine HM.out.mono ?_; rintro e w2 ⟨rfl, hw2⟩; subst w2)
          go_ret2
          exact ⟨rfl, rfl⟩
        · rw [textAtR_yes hm (by omega) (by omega)]
          obtain ⟨g, o, rfl, _⟩ := hA 0 (by omega)
          have HE := hid (fun (j : Nat) (hj : j ≤ m) => rEnd (some ⟨g, o, none⟩) l c j w hA hb (by omega) hc hcm)
          have hhb := heap_bytes hA (show 4 * (m + 1) ≤ l.length by omega)
          have hll : l.length - 4 * (m + 1) = (heapOf l m).length := by unfold heapOf; rw [List.length_drop]
          have hkh : heapOf l m = l.drop (4 * (m + 1)) := rfl
          rw [← hkh] at hhb
          have HT : Hid (textR l m i = if numAt 4 l (i + 1) < numAt 4 l i ∨ (heapOf l m).length < numAt 4 l (i + 1) then none else some (((heapOf l m).drop (numAt 4 l i)).take (numAt 4 l (i + 1) - numAt 4 l i))) := rfl
          have hx2 : numAt 4 l i < 4294967296 := numAt_lt hb 4 i
          have hy2 : numAt 4 l (i + 1) < 4294967296 := numAt_lt hb 4 (i + 1)
          obtain ⟨k, hk⟩ : ∃ k, 4 * (m + 1) = k := ⟨_, rfl⟩
          rw [hk] at h3 h4 hll hhb
          have h3' : (k : Int) ≤ (l.length : Int) := by omega
          have hd3 : decide ((l.length : Int) < (k : Int)) = false := by simp; omega
          have hlc' : (l.length : Int) ≤ (c : Int) := by omega
          have hkc' : (k : Int) ≤ (c : Int) := by omega
          have hkc : k ≤ c := by omega
          generalize numAt 4 l = f at *
          generalize heapOf l m = Hp at *
          have hi1 : (i : Int) + 1 = ((i + 1 : Nat) : Int) := by omega
          obtain ⟨i1, hi2⟩ : ∃ i1, i + 1 = i1 := ⟨_, rfl⟩
          have him1 : i1 ≤ m := by omega
          have him : i ≤ m := by omega
          rw [hi2] at hi1 HT hy2
          obtain ⟨hl, hhl⟩ : ∃ hl, Hp.length = hl := ⟨_, rfl⟩
          rw [hhl] at HT hll
          have HHL := hid hhl
          have HHB := hid hhb
          clear hi2 hA hb hk hkh hhl hhb
          by_cases hck : c = k
          · obtain rfl : hl = 0 := by omega
            have hcl : l.length = c := by omega
            rw [hcl] at HE hc h3' hd3 hlc' ⊢
            clear hll h3 hc hcl
            subst hck
            by_cases h5 : f i1 < f i
            · rw [if_pos (.inl h5)] at HT
              have h5' : ((f i1 : Nat) : Int) < ((f i : Nat) : Int) := by omega
              go_enter Try.func21, Try.ntmps21
              go_wp2_with (first
                | (go_at_call 23; refine HM.out.mono ?_; rintro e w2 ⟨rfl, hw2⟩; subst w2)
                | (go_at_call 32; refine (HE.out _ (by omega)).mono ?_; rintro e w3 ⟨rfl, hw3⟩; subst w3))
              go_ret2
              rw [HT.out]
              exact ⟨rfl, rfl⟩
            · have h5' : ((f i : Nat) : Int) ≤ ((f i1 : Nat) : Int) := by omega
              have hd5 : decide (((f i1 : Nat) : Int) < ((f i : Nat) : Int)) = false := by simp; omega
              by_cases h6 : 0 < f i1
              · rw [if_pos (.inr h6)] at HT
                have h6' : ((0 : Nat) : Int) < ((f i1 : Nat) : Int) := by omega
                go_enter Try.func21, Try.ntmps21
                go_wp2_with (first
                  | (go_at_call 23; refine HM.out.mono ?_; rintro e w2 ⟨rfl, hw2⟩; subst w2)
                  | (go_at_call 32; refine (HE.out _ (by omega)).mono ?_; rintro e w3 ⟨rfl, hw3⟩; subst w3))
                go_ret2
                rw [HT.out]
                exact ⟨rfl, rfl⟩
              · rw [if_neg (by omega)] at HT
                have h6' : ((f i1 : Nat) : Int) ≤ ((0 : Nat) : Int) := by omega
                have hd6 : decide (((0 : Nat) : Int) < ((f i1 : Nat) : Int)) = false := by simp; omega
                have hlen := sub_len (l := Hp) (t := f i) (n := f i1 - f i) (by rw [HHL.out]; omega)
                have u1 : f i ≤ f i1 := by omega
                have u2 : f i1 ≤ 0 := by omega
                have u2' : ((f i1 : Nat) : Int) ≤ ((0 : Nat) : Int) := by omega
                by_cases hxc : 0 = f i
                · have hp : (Hp.drop (f i)).take (f i1 - f i) = [] := List.eq_nil_of_length_eq_zero (by rw [hlen]; omega)
                  rw [hp] at HT
                  have hr := run_strL (w := w) (a := some ⟨g, o, none⟩) (l := []) 0 (fun q hq => by simp at hq)
                  simp only [List.length_nil] at hr
                  have u6 : f i = 0 := hxc.symm
                  have u7 : f i1 = 0 := by omega
                  generalize hzz : strL [] = z at *
                  clear hlen hp hxc u1 u2 u2' h5 h5' hd5 h6 h6' hd6
                  go_enter Try.func21, Try.ntmps21
                  go_wp2_with (first
                    | (go_at_call 23; refine HM.out.mono ?_; rintro e w2 ⟨rfl, hw2⟩; subst w2)
                    | (go_at_call 32; refine (HE.out _ (by omega)).mono ?_; rintro e w3 ⟨rfl, hw3⟩; subst w3))
                  go_ret2
                  rw [HT.out]
                  subst hzz
                  exact ⟨rfl, rfl⟩
                · exact absurd (by omega) hxc
          · have hck2 : k < c := by omega
            obtain ⟨ck, hcck⟩ : ∃ ck, c - k = ck := ⟨_, rfl⟩
            have hlck : hl ≤ ck := by omega
            by_cases h5 : f i1 < f i
            · rw [if_pos (.inl h5)] at HT
              have h5' : ((f i1 : Nat) : Int) < ((f i : Nat) : Int) := by omega
              go_enter Try.func21, Try.ntmps21
              go_wp2_with (first
                | (go_at_call 23; refine HM.out.mono ?_; rintro e w2 ⟨rfl, hw2⟩; subst w2)
                | (go_at_call 32; refine (HE.out _ (by omega)).mono ?_; rintro e w3 ⟨rfl, hw3⟩; subst w3))
              go_ret2
              rw [HT.out]
              exact ⟨rfl, rfl⟩
            · have h5' : ((f i : Nat) : Int) ≤ ((f i1 : Nat) : Int) := by omega
              have hd5 : decide (((f i1 : Nat) : Int) < ((f i : Nat) : Int)) = false := by simp; omega
              by_cases h6 : hl < f i1
              · rw [if_pos (.inr h6)] at HT
                have h6' : ((hl : Nat) : Int) < ((f i1 : Nat) : Int) := by omega
                go_enter Try.func21, Try.ntmps21
                go_wp2_with (first
                  | (go_at_call 23; refine HM.out.mono ?_; rintro e w2 ⟨rfl, hw2⟩; subst w2)
                  | (go_at_call 32; refine (HE.out _ (by omega)).mono ?_; rintro e w3 ⟨rfl, hw3⟩; subst w3))
                go_ret2
                rw [HT.out]
                exact ⟨rfl, rfl⟩
              · rw [if_neg (by omega)] at HT
                have h6' : ((f i1 : Nat) : Int) ≤ ((hl : Nat) : Int) := by omega
                have hd6 : decide (((hl : Nat) : Int) < ((f i1 : Nat) : Int)) = false := by simp; omega
                have hlen := sub_len (l := Hp) (t := f i) (n := f i1 - f i) (by rw [HHL.out]; omega)
                have u1 : f i ≤ f i1 := by omega
                have u2 : f i1 ≤ ck := by omega
                have u2' : ((f i1 : Nat) : Int) ≤ ((ck : Nat) : Int) := by omega
                by_cases hxc : ck = f i
                · have hp : (Hp.drop (f i)).take (f i1 - f i) = [] := List.eq_nil_of_length_eq_zero (by rw [hlen]; omega)
                  rw [hp] at HT
                  have hr := run_strL (w := w) (a := some ⟨g, (o + k), none⟩) (l := []) 0 (fun q hq => by simp at hq)
                  simp only [List.length_nil] at hr
                  have u6 : f i = ck := hxc.symm
                  have u7 : f i1 = ck := by omega
                  have hle : hl = ck := by omega
                  subst hle
                  generalize hzz : strL [] = z at *
                  clear hlen hp hxc u1 u2 u2' h5 h5' hd5 h6 h6' hd6
                  go_enter Try.func21, Try.ntmps21
                  go_wp2_with (first
                    | (go_at_call 23; refine HM.out.mono ?_; rintro e w2 ⟨rfl, hw2⟩; subst w2)
                    | (go_at_call 32; refine (HE.out _ (by omega)).mono ?_; rintro e w3 ⟨rfl, hw3⟩; subst w3))
                  go_ret2
                  rw [HT.out]
                  subst hzz
                  exact ⟨rfl, rfl⟩
                · have hr := run_strL (ck - f i) (bytes_sub HHB.out (t := f i) (n := f i1 - f i) (by rw [HHL.out]; omega))
                  rw [hlen] at hr
                  have u4 : f i < ck := by omega
                  generalize (Hp.drop (f i)).take (f i1 - f i) = P at *
                  clear hlen
                  go_enter Try.func21, Try.ntmps21
                  go_wp2_with (first
                    | (go_at_call 23; refine HM.out.mono ?_; rintro e w2 ⟨rfl, hw2⟩; subst w2)
                    | (go_at_call 32; refine (HE.out _ (by omega)).mono ?_; rintro e w3 ⟨rfl, hw3⟩; subst w3))
                  go_ret2
                  rw [HT.out]
                  exact ⟨rfl, rfl⟩
  · rw [textAtR_no (.inl h0)]
    generalize mayE n = x at *
    have h0' : ¬ ((x : Int) = 0) := by omega
    clear hA
    go_enter Try.func21, Try.ntmps21
    go_wp2_with (go_at_call 23; refine HM.out.mono ?_; rintro e w2 ⟨rfl, hw2⟩; subst w2)
    go_ret2
    exact ⟨rfl, rfl⟩
end Go.Proofs.Ythljodchifiehaa
