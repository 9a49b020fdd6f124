/-
  Codes and keys, as DictOrder asks them: plain Lean.
-/
import Derived.Test.YtcmjjadddbdmdaaBuildsWalk
namespace Go.Proofs.Ytcmjjadddbdmdaa
open Go.ChangeShapes Go.WideShapes Go.ChangeAt Go.RowKit Cu

theorem lt_count : ∀ {K : List Int} {j : Nat} {x v : Int}, K.Pairwise (· < ·) → K[j]? = some x → (x < v ↔ j < K.countP (· < v))
  | [], j, x, v, _, hj => by simp at hj
  | y :: r, 0, x, v, hs, hj => by
    simp at hj
    subst hj
    rw [List.countP_cons]
    by_cases h : y < v
    · simp [h]
    · have : r.countP (· < v) = 0 := by
        rw [List.countP_eq_zero]
        intro z hz
        have := (List.pairwise_cons.1 hs).1 z hz
        simp
        omega
      simp [h, this]
  | y :: r, j + 1, x, v, hs, hj => by
    simp at hj
    have hp := List.pairwise_cons.1 hs
    have ih := lt_count (v := v) hp.2 hj
    have hyx := hp.1 x (List.mem_of_getElem? hj)
    rw [List.countP_cons]
    by_cases h : y < v
    · simp [h]; exact ih
    · have : ¬ x < v := by omega
      have h0 : r.countP (· < v) = 0 := by
        rw [List.countP_eq_zero]
        intro z hz
        have := hp.1 z hz
        simp
        omega
      simp [h, this, h0]
theorem keys_rise (l : List Int) : (keysI l).Pairwise (· < ·) := by
  rw [← keys_eq]
  exact (refKeys_ok l).1
theorem code_at {l : List Int} {i : Nat} {x : Int} (h : l[i]? = some x) : (codesI l)[i]? = some ((keysI l).idxOf x) ∧ (keysI l)[(keysI l).idxOf x]? = some x ∧ (keysI l).idxOf x < (keysI l).length := by
  have hm := (keysI_mem l x).2 (List.mem_of_getElem? h)
  have hlt := List.idxOf_lt_length_of_mem hm
  refine ⟨by unfold codesI; rw [List.getElem?_map, h]; rfl, ?_, hlt⟩
  rw [List.getElem?_eq_getElem hlt, List.getElem_idxOf]
/-- What the law asks of one value. -/
theorem asks {l : List Int} {x v : Int} {ci : Nat} (hx : x ∈ l) (hc : (keysI l).idxOf x = ci) :
    (decide (x < v) = decide (ci < (keysI l).countP (· < v))) ∧ ((x == v) = ((keysI l).contains v && decide (ci = (if (keysI l).contains v then (keysI l).countP (· < v) else 0)))) ∧ (decide (x ≤ v) = (decide (ci < (keysI l).countP (· < v)) || ((keysI l).contains v && decide (ci = (if (keysI l).contains v then (keysI l).countP (· < v) else 0))))) := by
  have hs := keys_rise l
  have hm := (keysI_mem l x).2 hx
  have hlt := List.idxOf_lt_length_of_mem hm
  have hg : (keysI l)[ci]? = some x := by rw [← hc, List.getElem?_eq_getElem hlt, List.getElem_idxOf]
  have h1 := lt_count (v := v) hs hg
  have h2 : (x = v) ↔ ((keysI l).contains v = true ∧ ci = (keysI l).countP (· < v)) := by
    constructor
    · intro e
      subst e
      refine ⟨by simpa using hm, ?_⟩
      have := below_idx hs hm
      unfold belowI at this
      rw [this, hc]
    · rintro ⟨hv, he⟩
      have hv' : v ∈ keysI l := by simpa using hv
      have := below_idx hs hv'
      unfold belowI at this
      have e2 : (keysI l).idxOf v = ci := by rw [← this, ← he]
      have hg2 : (keysI l)[ci]? = some v := by rw [← e2, List.getElem?_eq_getElem (List.idxOf_lt_length_of_mem hv'), List.getElem_idxOf]
      rw [hg] at hg2
      simpa using hg2
  have e1 : decide (x < v) = decide (ci < (keysI l).countP (· < v)) := by simp only [h1]
  have e2 : (x == v) = ((keysI l).contains v && decide (ci = (if (keysI l).contains v then (keysI l).countP (· < v) else 0))) := by
    by_cases hv : (keysI l).contains v = true
    · rw [hv] at h2 ⊢
      simp only [true_and] at h2
      simp only [Bool.true_and, if_true]
      by_cases he : x = v
      · rw [decide_eq_true (h2.1 he)]; simp [he]
      · rw [decide_eq_false (fun h => he (h2.2 h))]; simp [he]
    · have hv' : (keysI l).contains v = false := by simpa using hv
      have : ¬ x = v := fun e => by have := (h2.1 e).1; rw [hv'] at this; cases this
      rw [hv']; simp [this]
  refine ⟨e1, e2, ?_⟩
  rw [← e1, ← e2]
  by_cases h3 : x < v
  · simp [h3]; omega
  · by_cases h4 : x = v
    · simp [h4]
    · have : ¬ x ≤ v := by omega
      simp [h3, h4, this]
theorem codes_lt {l : List Int} {x y : Int} (hx : x ∈ l) (hy : y ∈ l) : decide (x < y) = decide ((keysI l).idxOf x < (keysI l).idxOf y) := by
  have h := (asks (v := y) hx rfl).1
  have hm := (keysI_mem l y).2 hy
  have := below_idx (keys_rise l) hm
  unfold belowI at this
  rw [h, this]
theorem all_used {l : List Int} {k : Nat} (hk : k < (keysI l).length) : ∃ (i : Nat) (x : Int), l[i]? = some x ∧ (keysI l).idxOf x = k := by
  have hm : (keysI l)[k] ∈ l := (keysI_mem l _).1 (List.getElem_mem hk)
  obtain ⟨i, hi, he⟩ := List.mem_iff_getElem.1 hm
  refine ⟨i, (keysI l)[k], by rw [List.getElem?_eq_getElem hi, he], ?_⟩
  have hnd : (keysI l).Nodup := (keys_rise l).imp (fun h => by omega)
  exact hnd.idxOf_getElem k hk
/-- A block of bools. -/
def UB (w : World) (b n : Nat) (U : Nat → Bool) : Prop := ∃ cur : Array Value, w.heap[b]? = some (.cells cur 4 (0, 0)) ∧ cur.size = n ∧ ∀ j, j < n → cur[j]? = some (.bool (U j))
def updB (U : Nat → Bool) (i : Nat) : Nat → Bool := fun j => if j = i then true else U j
theorem UB.cell {w : World} {b n : Nat} {U : Nat → Bool} (h : UB w b n U) {j : Nat} (hj : j < n) : w.cell? ⟨b, j, none⟩ = some (.bool (U j)) := by
  obtain ⟨cur, h1, _, h3⟩ := h
  rw [cell_of_row _ _ _ _ _ _ h1]; exact h3 j hj
theorem UB.frozen {w : World} {b n : Nat} {U : Nat → Bool} (h : UB w b n U) (j : Nat) : w.frozen? ⟨b, j, none⟩ = false := by
  obtain ⟨cur, h1, _⟩ := h
  simp [World.frozen?, h1]
theorem UB.kept {w w' : World} {b n : Nat} {U : Nat → Bool} (h : UB w b n U) (hk : w'.heap[b]? = w.heap[b]?) : UB w' b n U := by
  obtain ⟨cur, h1, h2⟩ := h
  exact ⟨cur, hk.trans h1, h2⟩
theorem UB.store {w : World} {b n : Nat} {U : Nat → Bool} (h : UB w b n U) (i : Nat) : UB (w.setCell ⟨b, i, none⟩ (.bool true)) b n (updB U i) := by
  obtain ⟨cur, h1, h2, h3⟩ := h
  refine ⟨cur.setIfInBounds i (.bool true), heap_set_rowT h1 _, by simpa using h2, fun j hj => ?_⟩
  rw [Array.getElem?_setIfInBounds]
  unfold updB
  by_cases hji : i = j
  · subst hji; simp; omega
  · rw [if_neg hji, if_neg (fun e => hji e.symm)]; exact h3 j hj
theorem make_bools (w : World) (m : Nat) (hm : m ≤ 16777216) : (Instr.makeSlice 45 (.int .i64 (m : Int)) (.int .i64 (m : Int))).run Try.prog w = .ok (.slice (some ⟨w.heap.size, 0, none⟩) m m) (w.alloc (.cells (madeCells #[.bool false] m) 4)) := by
  obtain ⟨i0, hi, hz0, hz1, hz2⟩ := info_parts infoBool
  have hmk := run_make (P := Try.prog) w 45 4 i0 (.bool false) Try.underlying45 hi hz0 .i64 .i64 (m : Int) (m : Int) (by omega) (by omega) (by rw [hz2]; omega) (by omega)
  rw [hz1, show (m : Int).toNat * 1 = m by omega, show (m : Int).toNat = m by omega, show (Value.bool false).cells = #[Value.bool false] from rfl] at hmk
  exact hmk
theorem ub_made (w : World) (m : Nat) : UB (w.alloc (.cells (madeCells #[.bool false] m) 4)) w.heap.size m (fun _ => false) :=
  ⟨_, heap_new w _, size_madeCells _ _, fun j hj => by rw [← Array.getElem?_toList, toList_madeCells_one, List.getElem?_replicate, if_pos hj]⟩
end Go.Proofs.Ytcmjjadddbdmdaa
