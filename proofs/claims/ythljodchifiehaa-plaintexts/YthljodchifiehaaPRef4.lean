/-
  The document's own functions of chapter 8: texts read.
-/
import Derived.Test.YthljodchifiehaaPTexts
import Derived.Test.YthljodchifiehaaPRef2
namespace Go.Proofs.Ythljodchifiehaa
open Go.ChangeShapes Go.WideShapes Go.ChangeAt Go.RowKit Cu

theorem heap_bytes {w : World} {g o k : Nat} {l : List Nat} (hA : Bytes w (some ⟨g, o, none⟩) l) (h : k ≤ l.length) : Bytes w (some ⟨g, o + k, none⟩) (l.drop k) := by
  have := bytes_sub hA (t := k) (n := l.length - k) (by omega)
  rwa [List.take_of_length_le (by rw [List.length_drop]; omega)] at this
theorem textsS_oneLess {l : List Nat} {m i : Nat} (hi : i < m) : (textsS l m i).length = i := textsS_len (by omega)
set_option maxRecDepth 4000 in
set_option maxHeartbeats 4000000 in
theorem rTexts_may (a : Option Addr) (l : List Nat) (c : Nat) (n : Int) (w : World) (h0 : mayE n ≠ 0) :
    Calls Try.prog 19 #[.slice a l.length c, .int .i64 n] w fun e w' => ∃ v, e = .returned (.tuple #[v, .int .i64 (textsE l n : Nat)]) ∧ OwnS w' w.heap.size v ((textsR l n).map strL) ∧ Below w.heap.size w w' := by
  rw [(textsE_may h0).1, (textsE_may h0).2]
  have HM := hid (rMay n w)
  generalize mayE n = x at *
  have h0' : ¬ ((x : Int) = 0) := by omega
  go_enter Try.func19, Try.ntmps19
  go_wp2_with (go_at_call 23; refine HM.out.mono ?_; rintro e w2 ⟨rfl, hw2⟩; subst w2)
  go_ret2
  exact ⟨_, rfl, OwnS.nil _ _, Below.refl _ _⟩
set_option maxRecDepth 4000 in
set_option maxHeartbeats 4000000 in
theorem rTexts_short (a : Option Addr) (l : List Nat) (c m : Nat) (w : World) (hm : m ≤ 16777216) (h : l.length < 4 * (m + 1)) :
    Calls Try.prog 19 #[.slice a l.length c, .int .i64 (m : Int)] w fun e w' => ∃ v, e = .returned (.tuple #[v, .int .i64 (textsE l (m : Int) : Nat)]) ∧ OwnS w' w.heap.size v ((textsR l (m : Int)).map strL) ∧ Below w.heap.size w w' := by
  rw [(textsE_short hm h).1, (textsE_short hm h).2]
  have HM := hid (rMay (m : Int) w)
  rw [mayE_nat hm] at HM
  have h1 : 4 * ((m : Int) + 1) = ((4 * (m + 1) : Nat) : Int) := by omega
  obtain ⟨k, hk⟩ : ∃ k, 4 * (m + 1) = k := ⟨_, rfl⟩
  rw [hk] at h1 h
  have h' : (l.length : Int) < (k : Int) := by omega
  clear hk
  go_enter Try.func19, Try.ntmps19
  go_wp2_with (go_at_call 23; refine HM.out.mono ?_; rintro e w2 ⟨rfl, hw2⟩; subst w2)
  go_ret2
  exact ⟨_, rfl, OwnS.nil _ _, Below.refl _ _⟩
set_option maxRecDepth 4000 in
set_option maxHeartbeats 8000000 in
theorem rTexts_long (g o : Nat) (l : List Nat) (c m : Nat) (w : World) (hA : Bytes w (some ⟨g, o, none⟩) l) (hb : ∀ x ∈ l, x < 256) (hc : l.length ≤ c) (hcm : c ≤ 9223372036854775807) (hm : m ≤ 16777216) (h : 4 * (m + 1) ≤ l.length) :
    Calls Try.prog 19 #[.slice (some ⟨g, o, none⟩) l.length c, .int .i64 (m : Int)] w fun e w' => ∃ v, e = .returned (.tuple #[v, .int .i64 (textsE l (m : Int) : Nat)]) ∧ OwnS w' w.heap.size v ((textsR l (m : Int)).map strL) ∧ Below w.heap.size w w' := by
  have HM := hid (rMay (m : Int) w)
  rw [mayE_nat hm] at HM
  have HE := hid (fun (W : World) (hb2 : Below w.heap.size w W) (j : Nat) (hj : j ≤ m) => rEnd (some ⟨g, o, none⟩) l c j W (hA.later hb2) hb (by omega) hc hcm)
  have HE0 := hid (show Calls Try.prog 32 #[.slice (some ⟨g, o, none⟩) l.length c, .int .i64 0] w fun e w' => e = .returned (.int .i64 (numAt 4 l 0 : Nat)) ∧ w' = w from HE.out w (Below.refl _ _) 0 (Nat.zero_le _))
  have hll : l.length - 4 * (m + 1) = (heapOf l m).length := by unfold heapOf; rw [List.length_drop]
  have HEF := hid (textsE_form (l := l) hm h)
  have HEM := hid (textsE_many (l := l) hm h)
  have HF := hid (fun j => numAt_lt hb 4 j)
  have HOK : Hid (EndsOk l m ↔ numAt 4 l 0 = 0 ∧ ∀ i, i < m → numAt 4 l i ≤ numAt 4 l (i + 1) ∧ numAt 4 l (i + 1) ≤ numAt 4 l i + 65535) := Iff.rfl
  have htn : ∀ i, textN l m i = ((heapOf l m).drop (numAt 4 l i)).take (numAt 4 l (i + 1) - numAt 4 l i) := fun i => rfl
  have HTN := hid htn
  clear htn
  have HHB := hid (fun (W : World) (hb2 : Below w.heap.size w W) => heap_bytes (hA.later hb2) h)
  obtain ⟨f, hf⟩ : ∃ f, numAt 4 l = f := ⟨_, rfl⟩
  rw [hf] at HE HE0 HEM HF HOK HTN
  have h1 : 4 * ((m : Int) + 1) = ((4 * (m + 1) : Nat) : Int) := by omega
  have hlh : (heapOf l m).length ≤ 9223372036854775807 := by rw [← hll]; omega
  obtain ⟨k, hk⟩ : ∃ k, 4 * (m + 1) = k := ⟨_, rfl⟩
  rw [hk] at h1 h hll HHB
  have hkh : heapOf l m = l.drop k := by unfold heapOf; rw [hk]
  have h' : (k : Int) ≤ (l.length : Int) := by omega
  have h2' : (l.length : Int) ≤ (c : Int) := by omega
  have h3' : (k : Int) ≤ (c : Int) := by omega
  have h4 : k ≤ c := by omega
  have HNF := hid hf
  have HKH := hid hkh
  clear hA hb hk hf hkh
  have hf0 : f 0 < 4294967296 := HF.out 0
  by_cases h0 : f 0 = 0
  · have HF0 := hid h0
    rw [h0] at HE0
    clear h0 hf0
    by_cases hck : c = k
    · have hl0 : (heapOf l m).length = 0 := by omega
      have HHL := hid hl0
      have hcl : l.length = c := by omega
      rw [hcl] at HE HE0 hc h' h2' ⊢
      clear hll hlh hl0 h hc hcl
      subst hck
      go_enter Try.func19, Try.ntmps19
      go_wp2_with (first
        | (go_at_call 23; refine HM.out.mono ?_; rintro e w2 ⟨rfl, hw2⟩; subst w2)
        | (go_at_call 32; refine HE0.out.mono ?_; rintro e w2 ⟨rfl, hw2⟩; subst w2))
      go_loopw [7] (fun y wr => ∃ i : Nat, i ≤ m ∧ y = .int .i64 (i : Int) ∧ Hid (∀ j, j < i → f j ≤ f (j + 1) ∧ f (j + 1) ≤ f j + 65535) ∧ wr = w) (fun y _ => m - (intOf y).toNat)
      case atStart => exact ⟨0, Nat.zero_le _, rfl, (fun j hj => by omega), rfl⟩
      case round =>
        obtain ⟨i, hi, rfl, HQ, hwr⟩ := hrel
        subst wr
        by_cases hlt : i < m
        · have hii : (i : Int) < (m : Int) := by omega
          have hi1 : (i : Int) + 1 = ((i + 1 : Nat) : Int) := by omega
          have hx : f i < 4294967296 := HF.out i
          have hy : f (i + 1) < 4294967296 := HF.out (i + 1)
          have HQn : Hid ((f i ≤ f (i + 1) ∧ f (i + 1) ≤ f i + 65535) → ∀ j, j < i + 1 → f j ≤ f (j + 1) ∧ f (j + 1) ≤ f j + 65535) := fun hn j hj => by
            by_cases e : j = i
            · subst e; exact hn
            · exact HQ.out j (by omega)
          have HNO : Hid (¬ (f i ≤ f (i + 1) ∧ f (i + 1) ≤ f i + 65535) → ¬ EndsOk l m) := fun hn => by
            rw [HOK.out]
            intro hh
            exact hn (hh.2 i hlt)
          obtain ⟨i1, hi2⟩ : ∃ i1, i + 1 = i1 := ⟨_, rfl⟩
          have hi1m : i1 ≤ m := by omega
          rw [hi2] at hi1 hy HQn HNO
          have HI2 := hid hi2
          clear hi2 HQ
          by_cases h5 : f i1 < f i
          · have h5' : ((f i1 : Nat) : Int) < ((f i : Nat) : Int) := by omega
            have HR := hid (HEF.out (HNO.out (by omega)))
            go_wp2_with (go_at_call 32; refine (HE.out _ (Below.refl _ _) _ (by omega)).mono ?_; rintro e w3 ⟨rfl, hw3⟩; subst w3)
            go_ret2
            rw [HR.out.1, HR.out.2]
            exact ⟨_, rfl, OwnS.nil _ _, Below.refl _ _⟩
          · have h5' : ((f i : Nat) : Int) ≤ ((f i1 : Nat) : Int) := by omega
            have hd1 : decide (((f i1 : Nat) : Int) < ((f i : Nat) : Int)) = false := by simp; omega
            by_cases h6 : f i + 65535 < f i1
            · have h6' : (65535 : Int) < ((f i1 : Nat) : Int) - ((f i : Nat) : Int) := by omega
              have HR := hid (HEF.out (HNO.out (by omega)))
              go_wp2_with (go_at_call 32; refine (HE.out _ (Below.refl _ _) _ (by omega)).mono ?_; rintro e w3 ⟨rfl, hw3⟩; subst w3)
              go_ret2
              rw [HR.out.1, HR.out.2]
              exact ⟨_, rfl, OwnS.nil _ _, Below.refl _ _⟩
            · have h6' : ((f i1 : Nat) : Int) - ((f i : Nat) : Int) ≤ 65535 := by omega
              have hd2 : decide ((65535 : Int) < ((f i1 : Nat) : Int) - ((f i : Nat) : Int)) = false := by simp; omega
              have HQ2 := hid (HQn.out (by omega))
              go_wp2_with (go_at_call 32; refine (HE.out _ (Below.refl _ _) _ (by omega)).mono ?_; rintro e w3 ⟨rfl, hw3⟩; subst w3)
              have e1 := HI2.out
              exact ⟨⟨i1, by omega, by first | rfl | go_num, by rw [← e1] at HQ2 ⊢; exact HQ2, by first | trivial | rfl⟩, by simp [intOf]; omega⟩
        · obtain rfl : i = m := by omega
          have HOK2 : Hid (EndsOk l i) := HOK.out.2 ⟨HF0.out, HQ.out⟩
          have hfm : f i < 4294967296 := HF.out i
          clear HQ
          have HHB2 := hid (fun (W : World) (hb2 : Below w.heap.size w W) => (fun q hq => by rw [HHL.out] at hq; omega : Bytes W (some ⟨g, o, none⟩) (heapOf l i)))
          by_cases h7 : 0 < f i
          · have h7' : ((0 : Nat) : Int) < ((f i : Nat) : Int) := by omega
            have HR : Hid (textsE l (i : Int) = 71) := by show _ = _; rw [HEM.out HOK2.out, HHL.out]; unfold manyE; rw [if_pos h7]
            have HR2 : Hid (textsR l (i : Int) = []) := by show _ = _; unfold textsR; rw [HR.out, if_neg (by omega)]
            go_wp2_with (go_at_call 32; refine (HE.out _ (Below.refl _ _) _ (by omega)).mono ?_; rintro e w3 ⟨rfl, hw3⟩; subst w3)
            go_ret2
            rw [HR.out, HR2.out]
            exact ⟨_, rfl, OwnS.nil _ _, Below.refl _ _⟩
          · have h7' : ((f i : Nat) : Int) ≤ ((0 : Nat) : Int) := by omega
            by_cases h8 : f i < 0
            · exact absurd h8 (by omega)
            · have h8' : ((0 : Nat) : Int) ≤ ((f i : Nat) : Int) := by omega
              have HR : Hid (textsE l (i : Int) = 0) := by show _ = _; rw [HEM.out HOK2.out, HHL.out]; unfold manyE; rw [if_neg h7, if_neg h8]
              have HR2 : Hid (textsR l (i : Int) = textsV l i) := by show _ = _; unfold textsR; rw [if_pos HR.out, Int.toNat_natCast]
              have HUP : Hid (∀ j, j < i → f j ≤ f (j + 1) ∧ f (j + 1) ≤ 0) := fun j hj => by
                have h9 := (HOK.out.1 HOK2.out).2 j hj
                have h10 := ends_up HOK2.out (show j + 1 ≤ i by omega) (Nat.le_refl i)
                rw [HNF.out] at h10
                exact ⟨h9.1, by omega⟩
              go_wp2_with (go_at_call 32; refine (HE.out _ (Below.refl _ _) _ (by omega)).mono ?_; rintro e w3 ⟨rfl, hw3⟩; subst w3)
              clear h7' h8' h7 h8 hfm
              go_loopw [9, 10] (fun x y wr => ∃ j : Nat, j ≤ i ∧ y = .int .i64 (j : Int) ∧ Hid (OwnS wr w.heap.size x (textsS l i j)) ∧ Hid (Below w.heap.size w wr)) (fun _ y _ => i - (intOf y).toNat)
              case atStart => exact ⟨0, Nat.zero_le _, rfl, OwnS.nil _ _, Below.refl _ _⟩
              case round =>
                obtain ⟨j, hj, rfl, HO, HW⟩ := hrel
                by_cases hjl : j < i
                · have hjj : (j : Int) < (i : Int) := by omega
                  have hj1 : (j : Int) + 1 = ((j + 1 : Nat) : Int) := by omega
                  obtain ⟨u1, u2⟩ := HUP.out j hjl
                  have hx : f j < 4294967296 := HF.out j
                  have hTN := HTN.out j
                  obtain ⟨v5, w5, hr5, o5, b5⟩ := run_oneS HO.out (by rw [textsS_len (by omega)]; omega) HW.out.size (strL (textN l i j))
                  rw [← textsS_succ hjl] at o5
                  have hlen := sub_len (l := heapOf l i) (t := f j) (n := f (j + 1) - f j) (by rw [HHL.out]; omega)
                  obtain ⟨j1, hj2⟩ : ∃ j1, j + 1 = j1 := ⟨_, rfl⟩
                  have hj1m : j1 ≤ i := by omega
                  rw [hj2] at hj1 u1 u2 hTN o5 hlen
                  have u1' : ((f j : Nat) : Int) ≤ ((f j1 : Nat) : Int) := by omega
                  have u2' : ((f j1 : Nat) : Int) ≤ ((0 : Nat) : Int) := by omega
                  have u3 : f j1 ≤ 0 := by omega
                  have R5 := hid hr5
                  have O5 := hid o5
                  have B5 := hid (HW.out.trans b5)
                  have HJ2 := hid hj2
                  by_cases hxc : 0 = f j
                  · have hp : textN l i j = [] := by rw [hTN]; exact List.eq_nil_of_length_eq_zero (by rw [hlen]; omega)
                    have hr := run_strL (w := wr) (a := some ⟨g, o, none⟩) (l := []) 0 (fun q hq => by simp at hq)
                    rw [hp] at R5
                    generalize strL [] = z at *
                    simp only [List.length_nil] at hr
                    have u6 : f j = 0 := hxc.symm
                    have u7 : f j1 = 0 := by omega
                    clear hr5 o5 b5 hlen hp hTN hj2 HO hxc u1 u2 u3 u1' u2'
                    go_wp2_with (first
                      | (go_at_call 32; refine (HE.out _ HW.out _ (by omega)).mono ?_; rintro e w3 ⟨rfl, hw3⟩; subst w3)
                      | (at_builtin; refine wpList_app (by rfl) (by rfl) R5.out ?_; clear R5))
                    have e1 := HJ2.out
                    exact ⟨⟨j1, by omega, by first | rfl | go_num, by rw [← e1] at O5 ⊢; exact O5, B5⟩, by simp [intOf]; omega⟩
                  · exact absurd (by omega) hxc
                · obtain rfl : j = i := by omega
                  go_wp2_with fail
                  go_ret2
                  rw [HR.out, HR2.out, ← textsS_all]
                  exact ⟨_, rfl, HO.out, HW.out⟩
    · have hck2 : k < c := by omega
      obtain ⟨hl, hhl⟩ : ∃ hl, (heapOf l m).length = hl := ⟨_, rfl⟩
      obtain ⟨ck, hcck⟩ : ∃ ck, c - k = ck := ⟨_, rfl⟩
      have hlck : hl ≤ ck := by omega
      rw [hhl] at hll hlh
      have HHL := hid hhl
      have hckt : ck ≤ 9223372036854775807 := by omega
      clear hhl
      go_enter Try.func19, Try.ntmps19
      go_wp2_with (first
        | (go_at_call 23; refine HM.out.mono ?_; rintro e w2 ⟨rfl, hw2⟩; subst w2)
        | (go_at_call 32; refine HE0.out.mono ?_; rintro e w2 ⟨rfl, hw2⟩; subst w2))
      go_loopw [7] (fun y wr => ∃ i : Nat, i ≤ m ∧ y = .int .i64 (i : Int) ∧ Hid (∀ j, j < i → f j ≤ f (j + 1) ∧ f (j + 1) ≤ f j + 65535) ∧ wr = w) (fun y _ => m - (intOf y).toNat)
      case atStart => exact ⟨0, Nat.zero_le _, rfl, (fun j hj => by omega), rfl⟩
      case round =>
        obtain ⟨i, hi, rfl, HQ, hwr⟩ := hrel
        subst wr
        by_cases hlt : i < m
        · have hii : (i : Int) < (m : Int) := by omega
          have hi1 : (i : Int) + 1 = ((i + 1 : Nat) : Int) := by omega
          have hx : f i < 4294967296 := HF.out i
          have hy : f (i + 1) < 4294967296 := HF.out (i + 1)
          have HQn : Hid ((f i ≤ f (i + 1) ∧ f (i + 1) ≤ f i + 65535) → ∀ j, j < i + 1 → f j ≤ f (j + 1) ∧ f (j + 1) ≤ f j + 65535) := fun hn j hj => by
            by_cases e : j = i
            · subst e; exact hn
            · exact HQ.out j (by omega)
          have HNO : Hid (¬ (f i ≤ f (i + 1) ∧ f (i + 1) ≤ f i + 65535) → ¬ EndsOk l m) := fun hn => by
            rw [HOK.out]
            intro hh
            exact hn (hh.2 i hlt)
          obtain ⟨i1, hi2⟩ : ∃ i1, i + 1 = i1 := ⟨_, rfl⟩
          have hi1m : i1 ≤ m := by omega
          rw [hi2] at hi1 hy HQn HNO
          have HI2 := hid hi2
          clear hi2 HQ
          by_cases h5 : f i1 < f i
          · have h5' : ((f i1 : Nat) : Int) < ((f i : Nat) : Int) := by omega
            have HR := hid (HEF.out (HNO.out (by omega)))
            go_wp2_with (go_at_call 32; refine (HE.out _ (Below.refl _ _) _ (by omega)).mono ?_; rintro e w3 ⟨rfl, hw3⟩; subst w3)
            go_ret2
            rw [HR.out.1, HR.out.2]
            exact ⟨_, rfl, OwnS.nil _ _, Below.refl _ _⟩
          · have h5' : ((f i : Nat) : Int) ≤ ((f i1 : Nat) : Int) := by omega
            have hd1 : decide (((f i1 : Nat) : Int) < ((f i : Nat) : Int)) = false := by simp; omega
            by_cases h6 : f i + 65535 < f i1
            · have h6' : (65535 : Int) < ((f i1 : Nat) : Int) - ((f i : Nat) : Int) := by omega
              have HR := hid (HEF.out (HNO.out (by omega)))
              go_wp2_with (go_at_call 32; refine (HE.out _ (Below.refl _ _) _ (by omega)).mono ?_; rintro e w3 ⟨rfl, hw3⟩; subst w3)
              go_ret2
              rw [HR.out.1, HR.out.2]
              exact ⟨_, rfl, OwnS.nil _ _, Below.refl _ _⟩
            · have h6' : ((f i1 : Nat) : Int) - ((f i : Nat) : Int) ≤ 65535 := by omega
              have hd2 : decide ((65535 : Int) < ((f i1 : Nat) : Int) - ((f i : Nat) : Int)) = false := by simp; omega
              have HQ2 := hid (HQn.out (by omega))
              go_wp2_with (go_at_call 32; refine (HE.out _ (Below.refl _ _) _ (by omega)).mono ?_; rintro e w3 ⟨rfl, hw3⟩; subst w3)
              have e1 := HI2.out
              exact ⟨⟨i1, by omega, by first | rfl | go_num, by rw [← e1] at HQ2 ⊢; exact HQ2, by first | trivial | rfl⟩, by simp [intOf]; omega⟩
        · obtain rfl : i = m := by omega
          have HOK2 : Hid (EndsOk l i) := HOK.out.2 ⟨HF0.out, HQ.out⟩
          have hfm : f i < 4294967296 := HF.out i
          clear HQ
          have HHB2 := hid (fun (W : World) (hb2 : Below w.heap.size w W) => (by rw [HKH.out]; exact HHB.out W hb2 : Bytes W (some ⟨g, (o + k), none⟩) (heapOf l i)))
          by_cases h7 : hl < f i
          · have h7' : ((hl : Nat) : Int) < ((f i : Nat) : Int) := by omega
            have HR : Hid (textsE l (i : Int) = 71) := by show _ = _; rw [HEM.out HOK2.out, HHL.out]; unfold manyE; rw [if_pos h7]
            have HR2 : Hid (textsR l (i : Int) = []) := by show _ = _; unfold textsR; rw [HR.out, if_neg (by omega)]
            go_wp2_with (go_at_call 32; refine (HE.out _ (Below.refl _ _) _ (by omega)).mono ?_; rintro e w3 ⟨rfl, hw3⟩; subst w3)
            go_ret2
            rw [HR.out, HR2.out]
            exact ⟨_, rfl, OwnS.nil _ _, Below.refl _ _⟩
          · have h7' : ((f i : Nat) : Int) ≤ ((hl : Nat) : Int) := by omega
            by_cases h8 : f i < hl
            · have h8' : ((f i : Nat) : Int) < ((hl : Nat) : Int) := by omega
              have HR : Hid (textsE l (i : Int) = 72) := by show _ = _; rw [HEM.out HOK2.out, HHL.out]; unfold manyE; rw [if_neg h7, if_pos h8]
              have HR2 : Hid (textsR l (i : Int) = []) := by show _ = _; unfold textsR; rw [HR.out, if_neg (by omega)]
              go_wp2_with (go_at_call 32; refine (HE.out _ (Below.refl _ _) _ (by omega)).mono ?_; rintro e w3 ⟨rfl, hw3⟩; subst w3)
              go_ret2
              rw [HR.out, HR2.out]
              exact ⟨_, rfl, OwnS.nil _ _, Below.refl _ _⟩
            · have h8' : ((hl : Nat) : Int) ≤ ((f i : Nat) : Int) := by omega
              have HR : Hid (textsE l (i : Int) = 0) := by show _ = _; rw [HEM.out HOK2.out, HHL.out]; unfold manyE; rw [if_neg h7, if_neg h8]
              have HR2 : Hid (textsR l (i : Int) = textsV l i) := by show _ = _; unfold textsR; rw [if_pos HR.out, Int.toNat_natCast]
              have HUP : Hid (∀ j, j < i → f j ≤ f (j + 1) ∧ f (j + 1) ≤ hl) := fun j hj => by
                have h9 := (HOK.out.1 HOK2.out).2 j hj
                have h10 := ends_up HOK2.out (show j + 1 ≤ i by omega) (Nat.le_refl i)
                rw [HNF.out] at h10
                exact ⟨h9.1, by omega⟩
              go_wp2_with (go_at_call 32; refine (HE.out _ (Below.refl _ _) _ (by omega)).mono ?_; rintro e w3 ⟨rfl, hw3⟩; subst w3)
              clear h7' h8' h7 h8 hfm
              go_loopw [9, 10] (fun x y wr => ∃ j : Nat, j ≤ i ∧ y = .int .i64 (j : Int) ∧ Hid (OwnS wr w.heap.size x (textsS l i j)) ∧ Hid (Below w.heap.size w wr)) (fun _ y _ => i - (intOf y).toNat)
              case atStart => exact ⟨0, Nat.zero_le _, rfl, OwnS.nil _ _, Below.refl _ _⟩
              case round =>
                obtain ⟨j, hj, rfl, HO, HW⟩ := hrel
                by_cases hjl : j < i
                · have hjj : (j : Int) < (i : Int) := by omega
                  have hj1 : (j : Int) + 1 = ((j + 1 : Nat) : Int) := by omega
                  obtain ⟨u1, u2⟩ := HUP.out j hjl
                  have hx : f j < 4294967296 := HF.out j
                  have hTN := HTN.out j
                  obtain ⟨v5, w5, hr5, o5, b5⟩ := run_oneS HO.out (by rw [textsS_len (by omega)]; omega) HW.out.size (strL (textN l i j))
                  rw [← textsS_succ hjl] at o5
                  have hlen := sub_len (l := heapOf l i) (t := f j) (n := f (j + 1) - f j) (by rw [HHL.out]; omega)
                  obtain ⟨j1, hj2⟩ : ∃ j1, j + 1 = j1 := ⟨_, rfl⟩
                  have hj1m : j1 ≤ i := by omega
                  rw [hj2] at hj1 u1 u2 hTN o5 hlen
                  have u1' : ((f j : Nat) : Int) ≤ ((f j1 : Nat) : Int) := by omega
                  have u2' : ((f j1 : Nat) : Int) ≤ ((ck : Nat) : Int) := by omega
                  have u3 : f j1 ≤ ck := by omega
                  have R5 := hid hr5
                  have O5 := hid o5
                  have B5 := hid (HW.out.trans b5)
                  have HJ2 := hid hj2
                  by_cases hxc : ck = f j
                  · have hp : textN l i j = [] := by rw [hTN]; exact List.eq_nil_of_length_eq_zero (by rw [hlen]; omega)
                    have hr := run_strL (w := wr) (a := some ⟨g, (o + k), none⟩) (l := []) 0 (fun q hq => by simp at hq)
                    rw [hp] at R5
                    generalize strL [] = z at *
                    simp only [List.length_nil] at hr
                    have u6 : f j = ck := hxc.symm
                    have u7 : f j1 = ck := by omega
                    clear hr5 o5 b5 hlen hp hTN hj2 HO hxc u1 u2 u3 u1' u2'
                    go_wp2_with (first
                      | (go_at_call 32; refine (HE.out _ HW.out _ (by omega)).mono ?_; rintro e w3 ⟨rfl, hw3⟩; subst w3)
                      | (at_builtin; refine wpList_app (by rfl) (by rfl) R5.out ?_; clear R5))
                    have e1 := HJ2.out
                    exact ⟨⟨j1, by omega, by first | rfl | go_num, by rw [← e1] at O5 ⊢; exact O5, B5⟩, by simp [intOf]; omega⟩
                  · have hr := run_strL (ck - f j) (bytes_sub (HHB2.out wr HW.out) (t := f j) (n := f j1 - f j) (by rw [HHL.out]; omega))
                    rw [hlen, ← hTN] at hr
                    generalize strL (textN l i j) = z at *
                    have u4 : f j < ck := by omega
                    clear hr5 o5 b5 hlen hTN hj2 HO
                    go_wp2_with (first
                      | (go_at_call 32; refine (HE.out _ HW.out _ (by omega)).mono ?_; rintro e w3 ⟨rfl, hw3⟩; subst w3)
                      | (at_builtin; refine wpList_app (by rfl) (by rfl) R5.out ?_; clear R5))
                    have e1 := HJ2.out
                    exact ⟨⟨j1, by omega, by first | rfl | go_num, by rw [← e1] at O5 ⊢; exact O5, B5⟩, by simp [intOf]; omega⟩
                · obtain rfl : j = i := by omega
                  go_wp2_with fail
                  go_ret2
                  rw [HR.out, HR2.out, ← textsS_all]
                  exact ⟨_, rfl, HO.out, HW.out⟩
  · have h0' : ¬ (((f 0 : Nat) : Int) = 0) := by omega
    have HR := hid (HEF.out (fun hh => h0 (HOK.out.1 hh).1))
    generalize f 0 = z at *
    go_enter Try.func19, Try.ntmps19
    go_wp2_with (first
      | (go_at_call 23; refine HM.out.mono ?_; rintro e w2 ⟨rfl, hw2⟩; subst w2)
      | (go_at_call 32; refine HE0.out.mono ?_; rintro e w2 ⟨rfl, hw2⟩; subst w2))
    go_ret2
    rw [HR.out.1, HR.out.2]
    exact ⟨_, rfl, OwnS.nil _ _, Below.refl _ _⟩
theorem rTexts (a : Option Addr) (l : List Nat) (c : Nat) (n : Int) (w : World) (hA : Bytes w a l) (hb : ∀ x ∈ l, x < 256) (hc : l.length ≤ c) (hcm : c ≤ 9223372036854775807) :
    Calls Try.prog 19 #[.slice a l.length c, .int .i64 n] w fun e w' => ∃ v, e = .returned (.tuple #[v, .int .i64 (textsE l n : Nat)]) ∧ OwnS w' w.heap.size v ((textsR l n).map strL) ∧ Below w.heap.size w w' := by
  by_cases h0 : mayE n = 0
  · obtain ⟨m, rfl, hm⟩ := mayE_ok h0
    by_cases h : l.length < 4 * (m + 1)
    · exact rTexts_short a l c m w hm h
    · obtain ⟨g, o, rfl, _⟩ := hA 0 (by omega)
      exact rTexts_long g o l c m w hA hb hc hcm hm (by omega)
  · exact rTexts_may a l c n w h0
end Go.Proofs.Ythljodchifiehaa
