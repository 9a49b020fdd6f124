/-
  Lists of rows: what the list of a set holds, cut by a test, taken in turn.
-/
import Derived.Test.YtgfdgajagknpmaaDoorBIter
namespace Go.Proofs.YtgfdgajagknpmaaDoor.Sl
open Go.RowKit Bt

theorem mem_pos (f : Nat → Bool) (m i : Nat) : i ∈ pos f m ↔ i < m ∧ f i = true := by simp [pos]
theorem pos_filter (f h : Nat → Bool) (m : Nat) : (pos f m).filter h = pos (fun i => f i && h i) m := by
  unfold pos
  rw [List.filter_filter]
  exact List.filter_congr fun i _ => Bool.and_comm _ _
theorem pos_lt (f : Nat → Bool) : ∀ m i j, i < j → j < (pos f m).length → (pos f m).getD i 0 < (pos f m).getD j 0
  | 0, i, j => by simp [pos]
  | m + 1, i, j => by
    intro hij hj
    cases hf : f m with
    | true =>
      rw [pos_hit hf] at hj ⊢
      simp at hj
      by_cases e : j = (pos f m).length
      · subst e
        rw [List.getD_eq_getElem?_getD, List.getD_eq_getElem?_getD, List.getElem?_append_left hij, List.getElem?_append_right (Nat.le_refl _)]
        simp only [Nat.sub_self, List.getElem?_cons_zero, Option.getD_some]
        have h2 : (pos f m)[i]?.getD 0 ∈ pos f m := by
          rw [List.getElem?_eq_getElem hij]; exact List.getElem_mem hij
        exact ((mem_pos f m _).1 h2).1
      · have h1 := pos_lt f m i j hij (by omega)
        rw [List.getD_eq_getElem?_getD, List.getD_eq_getElem?_getD] at h1 ⊢
        rw [List.getElem?_append_left (by omega), List.getElem?_append_left (by omega)]
        exact h1
    | false =>
      rw [pos_skip (f := f) (a := m) (m + 1) (by omega) (fun j h1 h2 => by rw [show j = m by omega]; exact hf)] at hj ⊢
      exact pos_lt f m i j hij hj
theorem posI_getD (f : Nat → Bool) (m k : Nat) : (posI f m).getD k 0 = (((pos f m).getD k 0 : Nat) : Int) := by
  unfold posI
  rw [List.getD_eq_getElem?_getD, List.getD_eq_getElem?_getD, List.getElem?_map]
  cases (pos f m)[k]? <;> simp
/-- The k-th row. -/
def rowAt (f : Nat → Bool) (m k : Nat) : Nat := (pos f m).getD k 0
theorem rowAt_in {f : Nat → Bool} {m k : Nat} (h : k < cnt f m) : rowAt f m k < m ∧ f (rowAt f m k) = true := by
  have hl : k < (pos f m).length := by rw [pos_len]; exact h
  refine (mem_pos f m _).1 ?_
  unfold rowAt
  rw [List.getD_eq_getElem?_getD, List.getElem?_eq_getElem hl]
  exact List.getElem_mem hl
theorem rowAt_lt {f : Nat → Bool} {m i j : Nat} (h : i < j) (hj : j < cnt f m) : rowAt f m i < rowAt f m j := pos_lt f m i j h (by rw [pos_len]; exact hj)
theorem rowAt_any {f : Nat → Bool} {m i : Nat} (h : i < m) (hf : f i = true) : ∃ k, k < cnt f m ∧ rowAt f m k = i := by
  obtain ⟨k, hk, e⟩ := List.getElem_of_mem ((mem_pos f m i).2 ⟨h, hf⟩)
  refine ⟨k, by rw [← pos_len f m]; exact hk, ?_⟩
  unfold rowAt
  rw [List.getD_eq_getElem?_getD, List.getElem?_eq_getElem hk]; exact e
theorem posI_rowAt {f : Nat → Bool} {m k : Nat} : (posI f m).getD k 0 = (rowAt f m k : Int) := posI_getD f m k
theorem cnt_and (f h : Nat → Bool) : ∀ m, cnt (fun i => f i && h i) m ≤ cnt f m
  | 0 => by simp [cnt]
  | m + 1 => by
    rw [cnt, cnt]
    have := cnt_and f h m
    cases f m <;> cases h m <;> simp <;> omega
theorem cnt_both (f h : Nat → Bool) : ∀ m, cnt (fun i => f i && h i) m + cnt (fun i => f i || h i) m = cnt f m + cnt h m
  | 0 => by simp [cnt]
  | m + 1 => by
    rw [cnt, cnt, cnt, cnt]
    have := cnt_both f h m
    cases f m <;> cases h m <;> simp <;> omega
end Go.Proofs.YtgfdgajagknpmaaDoor.Sl
