/-
  The program's own Texts, TextAt.
-/
import Derived.Test.YtmmdncpiidglcaaPText
import Derived.Laws.OwnMore
import Derived.Laws.MakeOwn
namespace Go.Proofs.Ytmmdncpiidglcaa
open Go.ChangeShapes Go.WideShapes Go.ChangeAt Go.RowKit Cu

theorem TB.own {w : World} {b c : Nat} {T : List ByteArray} (h : TB w b c T) {B : Nat} (hB : B ≤ b) : OwnS w B (.slice (some ⟨b, 0, none⟩) T.length c) T := by
  obtain ⟨cur, h1, h2, h3, h4⟩ := h.row
  refine ⟨by simp [svals], .inr ⟨b, c, cur, rfl, hB, h1, h3, h.top, by omega, ?_⟩⟩
  apply List.ext_getElem?
  intro j
  rw [List.getElem?_take]
  by_cases hj : j < T.length * 1
  · rw [if_pos hj]
    have e : T[j]? = some T[j] := List.getElem?_eq_getElem (by omega)
    have := h4 j _ e
    simp only [svals, List.getElem?_map, e, Option.map_some]
    simpa using this
  · rw [if_neg hj, List.getElem?_eq_none (by simp [svals]; omega)]
theorem tb_made (w : World) (n : Nat) (hn : n ≤ maxLen) : TB (w.alloc (.cells (madeCells #[.string ByteArray.empty] n) 9)) w.heap.size n (List.replicate n ByteArray.empty) := by
  refine ⟨⟨_, heap_alloc_new w _, by rw [size_madeCells], by simp, fun i s hi => ?_⟩, hn⟩
  have hin : i < n := by have := (List.getElem?_eq_some_iff.1 hi).1; simpa using this
  rw [← Array.getElem?_toList, toList_madeCells_one]
  simp [hin] at hi ⊢
  exact hi
/-- The first i texts, as strings. -/
def textsS (l : List Nat) (m i : Nat) : List ByteArray := ((textsV l m).take i).map strL
theorem textsS_len {l : List Nat} {m i : Nat} (hi : i ≤ m) : (textsS l m i).length = i := by unfold textsS; rw [List.length_map, List.length_take, textsV_len]; omega
theorem textsS_succ {l : List Nat} {m i : Nat} (hi : i < m) : textsS l m (i + 1) = textsS l m i ++ [strL (textN l m i)] := by
  unfold textsS
  rw [List.take_add_one, textsV_get hi, List.map_append]
  rfl
theorem textsS_all (l : List Nat) (m : Nat) : textsS l m m = (textsV l m).map strL := by unfold textsS; rw [List.take_of_length_le (by rw [textsV_len]; exact Nat.le_refl _)]
theorem texts_set {l : List Nat} {m i : Nat} (hi : i < m) : (textsS l m i ++ List.replicate (m - i) ByteArray.empty).set i (strL (textN l m i)) = textsS l m (i + 1) ++ List.replicate (m - (i + 1)) ByteArray.empty := by
  rw [List.set_append, if_neg (by rw [textsS_len (by omega)]; omega), textsS_len (by omega), Nat.sub_self, textsS_succ hi, List.append_assoc, show m - i = (m - (i + 1)) + 1 by omega, List.replicate_succ]
  rfl
/-- All is well with the ends: each text is there. -/
theorem textR_ok {l : List Nat} {m : Nat} (h : EndsOk l m) (hh : (heapOf l m).length = numAt 4 l m) {i : Nat} (hi : i < m) : textR l m i = some (textN l m i) := by
  unfold textR
  rw [if_neg]
  have h1 := (h.2 i hi).1
  have h2 := ends_up h (show i + 1 ≤ m by omega) (Nat.le_refl m)
  omega
/-- The errors of Texts, by n's kinds. -/
theorem textsE_may {l : List Nat} {n : Int} (h : mayE n ≠ 0) : textsE l n = mayE n ∧ textsR l n = [] := by
  have e : textsE l n = mayE n := by unfold textsE; rw [if_pos h]
  exact ⟨e, by unfold textsR; rw [e, if_neg h]⟩
theorem textsE_short {l : List Nat} {m : Nat} (hm : m ≤ 16777216) (h : l.length < 4 * (m + 1)) : textsE l (m : Int) = 71 ∧ textsR l (m : Int) = [] := by
  have e : textsE l (m : Int) = 71 := by unfold textsE; rw [mayE_nat hm, Int.toNat_natCast, if_neg (by simp), if_pos h]
  exact ⟨e, by unfold textsR; rw [e, if_neg (by omega)]⟩
theorem textsE_form {l : List Nat} {m : Nat} (hm : m ≤ 16777216) (h : 4 * (m + 1) ≤ l.length) (hf : ¬ EndsOk l m) : textsE l (m : Int) = 70 ∧ textsR l (m : Int) = [] := by
  have e : textsE l (m : Int) = 70 := by unfold textsE; rw [mayE_nat hm, Int.toNat_natCast, if_neg (by simp), if_neg (by omega), if_pos hf]
  exact ⟨e, by unfold textsR; rw [e, if_neg (by omega)]⟩
theorem textsE_many {l : List Nat} {m : Nat} (hm : m ≤ 16777216) (h : 4 * (m + 1) ≤ l.length) (hf : EndsOk l m) : textsE l (m : Int) = manyE (heapOf l m).length (numAt 4 l m) := by
  unfold textsE manyE
  rw [mayE_nat hm, Int.toNat_natCast, if_neg (by simp), if_neg (by omega), if_neg (fun x => x hf)]
theorem manyE_cases (h n : Nat) : (manyE h n = 0 ∧ h = n) ∨ (manyE h n ≠ 0 ∧ manyE h n ≤ 72) := by
  unfold manyE
  by_cases h1 : h < n
  · rw [if_pos h1]; right; omega
  · rw [if_neg h1]
    by_cases h2 : n < h
    · rw [if_pos h2]; right; omega
    · rw [if_neg h2]; left; omega
set_option maxRecDepth 4000 in
set_option maxHeartbeats 4000000 in
theorem pTexts_may (a : Option Addr) (l : List Nat) (c : Nat) (n : Int) (w : World) (h0 : mayE n ≠ 0) :
    Calls Try.prog 10 #[.slice a l.length c, .int .i64 n] w fun e w' => ∃ v, e = .returned (.tuple #[v, .int .i64 (textsE l n : Nat)]) ∧ OwnS w' w.heap.size v ((textsR l n).map strL) ∧ Below w.heap.size w w' := by
  rw [(textsE_may h0).1, (textsE_may h0).2]
  have HM := hid (mayCount_any n w)
  generalize mayE n = x at *
  have h0' : ¬ ((x : Int) = 0) := by omega
  go_enter Try.func10, Try.ntmps10
  go_wp2_with (go_at_call 19; refine HM.out.mono ?_; rintro e w2 ⟨rfl, hw2⟩; subst w2)
  go_ret2
  exact ⟨_, rfl, OwnS.nil _ _, Below.refl _ _⟩
set_option maxRecDepth 4000 in
set_option maxHeartbeats 4000000 in
theorem pTexts_short (a : Option Addr) (l : List Nat) (c m : Nat) (w : World) (hm : m ≤ 16777216) (h : l.length < 4 * (m + 1)) :
    Calls Try.prog 10 #[.slice a l.length c, .int .i64 (m : Int)] w fun e w' => ∃ v, e = .returned (.tuple #[v, .int .i64 (textsE l (m : Int) : Nat)]) ∧ OwnS w' w.heap.size v ((textsR l (m : Int)).map strL) ∧ Below w.heap.size w w' := by
  rw [(textsE_short hm h).1, (textsE_short hm h).2]
  have HM := hid (mayCount_any (m : Int) w)
  rw [mayE_nat hm] at HM
  have HO := hid (openShelf_no a l.length c m w hm h)
  clear h
  go_enter Try.func10, Try.ntmps10
  go_wp2_with (first
    | (go_at_call 19; refine HM.out.mono ?_; rintro e w2 ⟨rfl, hw2⟩; subst w2)
    | (go_at_call 23; refine HO.out.mono ?_; rintro e w3 ⟨rfl, hb3⟩; have H3 := hid hb3; clear hb3))
  go_ret2
  exact ⟨_, rfl, OwnS.nil _ _, below_up H3.out (below_new w3 _)⟩
end Go.Proofs.Ytmmdncpiidglcaa
