/-
  Beginnings of texts, and the order.
-/
import Derived.Test.YtcbkoeagfhpghaaGreatDTFind
namespace Go.Proofs.YtcbkoeagfhpghaaGreat.Tx
open Go.RowKit Cu

def begB (x v : ByteArray) : Bool := v.toList.isPrefixOf x.toList
theorem pre_between : ∀ {p y z : List UInt8}, p <+: z → ¬ y < p → y < z → p <+: y
  | [], y, z, _, _, _ => List.nil_prefix
  | a :: p, y, [], h, _, _ => by simp at h
  | a :: p, [], c :: z, _, h2, _ => by simp at h2
  | a :: p, b :: y, c :: z, h1, h2, h3 => by
    rw [List.cons_prefix_cons] at h1 ⊢
    obtain ⟨rfl, h1⟩ := h1
    rw [List.cons_lt_cons_iff] at h2 h3
    rcases h3 with h | ⟨rfl, h⟩
    · exact absurd (.inl h) h2
    · exact ⟨rfl, pre_between h1 (fun k => h2 (.inr ⟨rfl, k⟩)) h⟩
theorem pre_not_lt : ∀ {p z : List UInt8}, p <+: z → ¬ z < p
  | [], z, _ => by simp
  | a :: p, [], h => by simp at h
  | a :: p, c :: z, h => by
    rw [List.cons_prefix_cons] at h
    obtain ⟨rfl, h⟩ := h
    rw [List.cons_lt_cons_iff]
    rintro (k | ⟨_, k⟩)
    · exact absurd k (by simp)
    · exact pre_not_lt h k
theorem beg_iff {x v : ByteArray} : begB x v = true ↔ v.toList <+: x.toList := by unfold begB; exact List.isPrefixOf_iff_prefix
/-- In texts that rise a search parts those below. -/
theorem srch_lt {K : List ByteArray} (hK : K.Pairwise tlt) {v : ByteArray} {f : Nat} (hf : f ≤ K.length) (hs : Srch K v f f) {q : Nat} {x : ByteArray} (hx : K[q]? = some x) : ltB x v = decide (q < f) := by
  obtain ⟨hq, rfl⟩ := List.getElem?_eq_some_iff.1 hx
  by_cases h : q < f
  · rw [decide_eq_true h]
    have hi1 : f - 1 < K.length := by omega
    have hlast := hs.low _ (by omega) (List.getElem?_eq_getElem hi1)
    by_cases e1 : q = f - 1
    · subst e1; exact hlast
    · exact tlt_trans (List.pairwise_iff_getElem.1 hK q (f - 1) hq hi1 (by omega)) hlast
  · rw [decide_eq_false h]
    have hi1 : f < K.length := by omega
    have hfirst := hs.top _ (List.getElem?_eq_getElem hi1)
    by_cases e1 : q = f
    · subst e1; exact Bool.not_eq_true _ |>.mp hfirst
    · refine Bool.not_eq_true _ |>.mp fun hc => hfirst (tlt_trans (List.pairwise_iff_getElem.1 hK f q hi1 hq (by omega)) hc)
/-- Those that begin with a text stand together. -/
theorem beg_run {K : List ByteArray} (hK : K.Pairwise tlt) {v : ByteArray} {f e : Nat} (hf : f ≤ K.length) (hs : Srch K v f f) (hfe : f ≤ e) (hall : ∀ j s, f ≤ j → j < e → K[j]? = some s → begB s v = true) (hend : ∀ s, K[e]? = some s → begB s v = false)
    {q : Nat} {x : ByteArray} (hx : K[q]? = some x) : begB x v = (decide (f ≤ q) && decide (q < e)) := by
  have hl := srch_lt hK hf hs hx
  by_cases h1 : f ≤ q
  · rw [decide_eq_true h1, Bool.true_and]
    by_cases h2 : q < e
    · rw [decide_eq_true h2]; exact hall q x h1 h2 hx
    · rw [decide_eq_false h2]
      obtain ⟨hq, rfl⟩ := List.getElem?_eq_some_iff.1 hx
      by_cases h3 : q = e
      · subst h3; exact hend _ hx
      · have he : e < K.length := by omega
        have hb := hend _ (List.getElem?_eq_getElem he)
        refine Bool.not_eq_true _ |>.mp fun hc => ?_
        have hle := srch_lt hK hf hs (List.getElem?_eq_getElem he)
        rw [decide_eq_false (by omega)] at hle
        have hlt := List.pairwise_iff_getElem.1 hK e q he hq (by omega)
        have := pre_between (beg_iff.1 hc) (fun k => by have := tlt_iff.2 k; unfold tlt at this; rw [hle] at this; cases this) (tlt_iff.1 hlt)
        rw [beg_iff.2 this] at hb
        cases hb
  · rw [decide_eq_false h1, Bool.false_and]
    rw [decide_eq_true (by omega)] at hl
    refine Bool.not_eq_true _ |>.mp fun hc => ?_
    exact pre_not_lt (beg_iff.1 hc) (tlt_iff.1 (show tlt x v from hl))
end Go.Proofs.YtcbkoeagfhpghaaGreat.Tx
