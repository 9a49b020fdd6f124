/-
  isLetter, isDigit, isType, isName; the document's letter and Name.
-/
import Derived.Test.YtllnknjmfffnbaaYMath
namespace Go.Proofs.Ytllnknjmfffnbaa
open Go.RowKit Cu

set_option maxHeartbeats 1000000 in
theorem isLetter_any (x : Nat) (w : World) : Calls Try.prog 33 #[.int .u8 (x : Int)] w fun e w' => e = .returned (.bool (letB x)) ∧ w' = w := by
  have HL : Hid (letB x = ((decide (97 ≤ x) && decide (x ≤ 122)) || (decide (65 ≤ x) && decide (x ≤ 90)))) := rfl
  generalize letB x = q at *
  go_enter Try.func33, Try.ntmps33
  go_wp2_with fail
  all_goals (go_ret; refine ⟨ret_bool ?_, rfl⟩; rw [HL.out, Bool.eq_iff_iff]; simp only [Bool.and_eq_true, Bool.or_eq_true, decide_eq_true_eq, reduceCtorEq, eq_self, true_iff, false_iff]; omega)
set_option maxHeartbeats 1000000 in
theorem isDigit_any (x : Nat) (w : World) : Calls Try.prog 34 #[.int .u8 (x : Int)] w fun e w' => e = .returned (.bool (digB x)) ∧ w' = w := by
  have HL : Hid (digB x = (decide (48 ≤ x) && decide (x ≤ 57))) := rfl
  generalize digB x = q at *
  go_enter Try.func34, Try.ntmps34
  go_wp2_with fail
  all_goals (go_ret; refine ⟨ret_bool ?_, rfl⟩; rw [HL.out, Bool.eq_iff_iff]; simp only [Bool.and_eq_true, decide_eq_true_eq, reduceCtorEq, false_iff]; omega)
set_option maxHeartbeats 1000000 in
theorem isType_any (x : Int) (w : World) : Calls Try.prog 21 #[.int .i64 x] w fun e w' => e = .returned (.bool (typB x)) ∧ w' = w := by
  by_cases h1 : x = 1
  · subst h1
    go_enter Try.func21, Try.ntmps21
    go_wp2_with fail
    go_ret
    exact ⟨rfl, rfl⟩
  · have hd1 : (x == 1) = false := by simpa using h1
    have HT : Hid (typB x = (x == 2)) := by unfold typB; rw [decide_eq_false h1]; rfl
    clear h1
    go_enter Try.func21, Try.ntmps21
    go_wp2_with fail
    go_ret
    rw [HT.out]
    exact ⟨rfl, rfl⟩
theorem bs_at {s : ByteArray} {i : Nat} (h : i < s.size) : ofL (bs s) i = s[i].toNat := by
  have h2 : i < s.data.toList.length := h
  unfold ofL bs
  rw [List.getD_eq_getElem?_getD, List.getElem?_map, List.getElem?_eq_getElem h2]
  rfl
theorem bs_get {s : ByteArray} {i : Nat} (h : i < s.size) : (bs s)[i]'(by rw [bs_len]; exact h) = s[i].toNat := by
  have := bs_at h
  have h2 := ofL_in (l := bs s) (j := i) (by rw [bs_len]; exact h)
  rw [List.getElem?_eq_getElem (by rw [bs_len]; exact h)] at h2
  rw [Option.some.inj h2, this]
theorem all_of_take {l : List Nat} {p : Nat → Bool} {i : Nat} (h : (l.take i).all p = true) (hi : i < l.length) (hp : p l[i] = true) : (l.take (i + 1)).all p = true := by
  rw [List.take_add_one, List.getElem?_eq_getElem hi]
  simp only [Option.toList_some, List.all_append, h, List.all_cons, List.all_nil, hp, Bool.and_self]
theorem all_not {l : List Nat} {p : Nat → Bool} {i : Nat} (hi : i < l.length) (hp : p l[i] = false) : l.all p = false := by
  rw [Bool.eq_false_iff]
  intro h
  rw [List.all_eq_true] at h
  have := h l[i] (List.getElem_mem hi)
  rw [hp] at this
  cases this
theorem namB_of {s : ByteArray} (h0 : ¬ s.size = 0) (h1 : ¬ 64 < s.size) : namB s = (letB (s[0]'(by omega)).toNat && (bs s).all chB) := by
  unfold namB namL
  rw [bs_len, bs_at (by omega), decide_eq_true (show 1 ≤ s.size by omega), decide_eq_true (show s.size ≤ 64 by omega)]
  rfl
theorem start1 {s : ByteArray} (h : 0 < s.size) (hl : letB (s[0]'h).toNat = true) : ((bs s).take 1).all chB = true := by
  refine all_of_take (i := 0) rfl (by rw [bs_len]; exact h) ?_
  rw [bs_get h]
  unfold chB
  rw [hl]
  rfl
set_option maxRecDepth 4000 in
set_option maxHeartbeats 4000000 in
theorem isName_any (s : ByteArray) (w : World) (hs : s.size ≤ 140737488355328) : Calls Try.prog 20 #[.string s] w fun e w' => e = .returned (.bool (namB s)) ∧ w' = w := by
  by_cases h0 : s.size = 0
  · have HF : Hid (namB s = false) := by unfold namB namL; rw [bs_len, h0]; rfl
    have hz : ((s.size : Int) == 0) = true := by rw [h0]; rfl
    have hl1 : (s.size : Int) < 1 := by omega
    go_enter Try.func20, Try.ntmps20
    go_wp2_with fail
    go_ret
    rw [HF.out]
    exact ⟨rfl, rfl⟩
  · have hz : ((s.size : Int) == 0) = false := by rw [beq_eq_false_iff_ne]; omega
    have hl1 : ¬ (s.size : Int) < 1 := by omega
    by_cases h64 : 64 < s.size
    · have HF : Hid (namB s = false) := by unfold namB namL; show _ = false; rw [bs_len, decide_eq_false (show ¬ s.size ≤ 64 by omega)]; simp
      have h64i : (64 : Int) < (s.size : Int) := by omega
      go_enter Try.func20, Try.ntmps20
      go_wp2_with fail
      go_ret
      rw [HF.out]
      exact ⟨rfl, rfl⟩
    · have h64i : ¬ (64 : Int) < (s.size : Int) := by omega
      have HN := hid (namB_of h0 h64)
      have hpos : 0 < s.size := by omega
      have HC := hid fun x w => isLetter_any x w
      have HD := hid fun x w => isDigit_any x w
      go_enter Try.func20, Try.ntmps20
      go_wp2_with fail
      refine (HC.out _ _).mono ?_
      rintro e w1 ⟨rfl, rfl⟩
      by_cases hq : letB (s[0]'hpos).toNat = true
      · rw [hq] at HN ⊢
        have HQ := hid hq
        clear hq
        go_wp2_with fail
        go_loopw [20] (fun y wr => ∃ i : Nat, i ≤ s.size ∧ y = .int .i64 (i : Int) ∧ Hid (((bs s).take i).all chB = true) ∧ wr = w1) (fun y _ => s.size - (intOf y).toNat)
        case atStart => exact ⟨0, Nat.zero_le _, rfl, rfl, rfl⟩
        case round =>
          obtain ⟨i, hi, rfl, HE, rfl⟩ := hrel
          by_cases hlt : i < s.size
          · have hii : (i : Int) < (s.size : Int) := by omega
            have HB := hid (bs_get hlt)
            have HNE := hid (show chB (s[i]'hlt).toNat = (letB (s[i]'hlt).toNat || digB (s[i]'hlt).toNat || decide ((s[i]'hlt).toNat = 95)) from rfl)
            have HYes : Hid (chB (s[i]'hlt).toNat = true → ((bs s).take (i + 1)).all chB = true) := fun h => all_of_take HE.out (by rw [bs_len]; exact hlt) (by rw [HB.out]; exact h)
            have HNo : Hid (chB (s[i]'hlt).toNat = false → (bs s).all chB = false) := fun h => all_not (by rw [bs_len]; exact hlt) (by rw [HB.out]; exact h)
            obtain ⟨x, hx⟩ : ∃ x : Nat, (s[i]'hlt).toNat = x := ⟨_, rfl⟩
            rw [hx] at HB HNE HYes HNo
            go_wp2_with fail
            refine (HC.out _ _).mono ?_
            rintro e w2 ⟨rfl, rfl⟩
            cases hq : letB x
            · rw [hq] at HNE
              go_wp2_with fail
              refine (HD.out _ _).mono ?_
              rintro e w3 ⟨rfl, rfl⟩
              cases hdg : digB x
              · rw [hdg] at HNE
                by_cases h95 : x = 95
                · have HY := hid (HYes.out (by rw [HNE.out, h95]; rfl))
                  subst h95
                  clear HYes HNo HNE hq hdg
                  go_wp2_with fail
                  exact ⟨⟨i + 1, by omega, by go_num, HY, trivial⟩, by simp [intOf]; omega⟩
                · have HF := hid (HNo.out (by rw [HNE.out, decide_eq_false h95]; rfl))
                  have h95i : ((x : Int) == 95) = false := by simp; omega
                  have h95n : ¬ (x : Int) = 95 := by omega
                  clear HYes HNo HNE hq hdg h95
                  go_wp2_with fail
                  go_ret
                  rw [HN.out, HF.out]
                  exact ⟨rfl, rfl⟩
              · rw [hdg] at HNE
                have HY := hid (HYes.out (by rw [HNE.out]; rfl))
                clear HYes HNo HNE hq hdg
                go_wp2_with fail
                exact ⟨⟨i + 1, by omega, by go_num, HY, trivial⟩, by simp [intOf]; omega⟩
            · rw [hq] at HNE
              have HY := hid (HYes.out (by rw [HNE.out]; rfl))
              clear HYes HNo HNE hq
              go_wp2_with fail
              exact ⟨⟨i + 1, by omega, by go_num, HY, trivial⟩, by simp [intOf]; omega⟩
          · obtain rfl : i = s.size := by omega
            have HF : Hid ((bs s).all chB = true) := by have := HE.out; rwa [List.take_of_length_le (by rw [bs_len]; exact Nat.le_refl _)] at this
            go_wp2_with fail
            go_ret
            rw [HN.out, HF.out]
            exact ⟨rfl, rfl⟩
      · have hq2 : letB (s[0]'hpos).toNat = false := by simpa using hq
        rw [hq2] at HN ⊢
        clear hq
        go_wp2_with fail
        go_ret
        rw [HN.out]
        exact ⟨rfl, rfl⟩
end Go.Proofs.Ytllnknjmfffnbaa
