import Derived.Test.YtlidolocibfbgaaGreatDoorBAll
/-
  Spread, as mathematics: the rows that are said Yes of.
-/
namespace Go.Proofs.YtlidolocibfbgaaGreatDoor.Ck
open Go.RowKit Go.Shelf Bt

/-- The rows of those numbers xs whose places f wants, below n. -/
def rowsF (n : Nat) (f : Nat → Bool) (xs : List Int) : Nat → Bool := fun i => decide (i < n) && (List.range xs.length).any fun t => (xs.getD t (-1) == (i : Int)) && f t
theorem rowsF_nil (n : Nat) (f : Nat → Bool) : rowsF n f [] = fun _ => false := by funext i; simp [rowsF]
theorem rowsF_tail (n : Nat) (f : Nat → Bool) (xs : List Int) : Tail n (rowsF n f xs) := fun i hi => by unfold rowsF; rw [decide_eq_false (by omega)]; rfl
theorem rowsF_snoc (n : Nat) (f : Nat → Bool) (xs : List Int) (x : Int) (i : Nat) : rowsF n f (xs ++ [x]) i = (rowsF n f xs i || (decide (i < n) && ((x == (i : Int)) && f xs.length))) := by
  unfold rowsF
  rw [List.length_append, List.length_singleton, List.range_succ, List.any_append]
  have e1 : (List.range xs.length).any (fun t => ((xs ++ [x]).getD t (-1) == (i : Int)) && f t) = (List.range xs.length).any (fun t => (xs.getD t (-1) == (i : Int)) && f t) := by
    rw [Bool.eq_iff_iff, List.any_eq_true, List.any_eq_true]
    constructor
    · rintro ⟨t, ht, h⟩
      have := List.mem_range.1 ht
      exact ⟨t, ht, by rwa [List.getD_eq_getElem?_getD, List.getElem?_append_left this, ← List.getD_eq_getElem?_getD] at h⟩
    · rintro ⟨t, ht, h⟩
      have := List.mem_range.1 ht
      exact ⟨t, ht, by rwa [List.getD_eq_getElem?_getD, List.getElem?_append_left this, ← List.getD_eq_getElem?_getD]⟩
  have e2 : (xs ++ [x]).getD xs.length (-1) = x := by rw [List.getD_eq_getElem?_getD, List.getElem?_append_right (Nat.le_refl _), Nat.sub_self]; rfl
  rw [e1]
  simp only [List.any_cons, List.any_nil, Bool.or_false, e2]
  cases decide (i < n) <;> simp
theorem rowsF_no {n : Nat} {f : Nat → Bool} {xs : List Int} (x : Int) (h : f xs.length = false) : rowsF n f (xs ++ [x]) = rowsF n f xs := by
  funext i
  rw [rowsF_snoc, h]
  simp
theorem rowsF_out {n : Nat} (f : Nat → Bool) (xs : List Int) {x : Int} (h : x < 0 ∨ (n : Int) ≤ x) : rowsF n f (xs ++ [x]) = rowsF n f xs := by
  funext i
  rw [rowsF_snoc]
  by_cases hi : i < n
  · have : (x == (i : Int)) = false := by rw [beq_eq_false_iff_ne]; omega
    rw [this]; simp
  · simp [hi]
theorem rowsF_yes {n : Nat} {f : Nat → Bool} {xs : List Int} {k : Nat} (hk : k < n) (h : f xs.length = true) : rowsF n f (xs ++ [(k : Int)]) = putF (rowsF n f xs) k true := by
  funext i
  rw [rowsF_snoc, h]
  unfold putF
  by_cases e : i = k
  · subst e; simp [hk]
  · have : ((k : Int) == (i : Int)) = false := by rw [beq_eq_false_iff_ne]; omega
    rw [this, if_neg e]; simp
/-- What the dense ones say of the rows. -/
def sprF (n : Nat) (h f : Nat → Bool) : Nat → Bool := fun i => decide (i < n) && !h i && f (cnt (fun j => !h j) i)
theorem sprF_tail (n : Nat) (h f : Nat → Bool) : Tail n (sprF n h f) := fun i hi => by unfold sprF; rw [decide_eq_false (by omega)]; rfl
theorem cnt_ext {f g : Nat → Bool} : ∀ {n : Nat}, (∀ i, i < n → f i = g i) → cnt f n = cnt g n
  | 0, _ => rfl
  | n + 1, h => by
    have := cnt_ext (f := f) (g := g) (n := n) (fun i hi => h i (by omega))
    simp only [cnt, h n (Nat.lt_succ_self n), this]
/-- The number of a place is how many come ahead of it. -/
theorem pos_at {g : Nat → Bool} : ∀ {m i : Nat}, i < m → g i = true → (pos g m)[cnt g i]? = some i
  | 0, _, h, _ => by omega
  | m + 1, i, h, hg => by
    by_cases e : i = m
    · subst e
      rw [pos_hit hg, List.getElem?_append_right (by rw [pos_len]; exact Nat.le_refl _), pos_len, Nat.sub_self]
      rfl
    · have ih := pos_at (g := g) (m := m) (i := i) (by omega) hg
      cases hm : g m with
      | true => rw [pos_hit hm, List.getElem?_append_left (List.getElem?_eq_some_iff.1 ih).1]; exact ih
      | false =>
        have e2 := pos_skip (f := g) (a := m) (m + 1) (by omega) (fun j h1 h2 => by rw [show j = m by omega]; exact hm)
        rw [e2]; exact ih
theorem pos_sound {g : Nat → Bool} {m t i : Nat} (h : (pos g m)[t]? = some i) : g i = true ∧ i < m ∧ cnt g i = t := by
  induction m with
  | zero => simp [pos] at h
  | succ m ih =>
    cases hm : g m with
    | true =>
      rw [pos_hit hm] at h
      by_cases ht : t < (pos g m).length
      · rw [List.getElem?_append_left ht] at h
        obtain ⟨h1, h2, h3⟩ := ih h
        exact ⟨h1, by omega, h3⟩
      · rw [List.getElem?_append_right (by omega)] at h
        have ht2 : t = (pos g m).length := by
          apply Classical.byContradiction
          intro hne
          rw [List.getElem?_eq_none (by simp; omega)] at h
          cases h
        rw [ht2, Nat.sub_self] at h
        simp at h
        subst h
        exact ⟨hm, by omega, by rw [ht2, pos_len]⟩
    | false =>
      have e2 := pos_skip (f := g) (a := m) (m + 1) (by omega) (fun j h1 h2 => by rw [show j = m by omega]; exact hm)
      rw [e2] at h
      obtain ⟨h1, h2, h3⟩ := ih h
      exact ⟨h1, by omega, h3⟩
theorem rowsF_all (n : Nat) (h f : Nat → Bool) : rowsF n f (posI (fun i => decide (i < n) && !h i) n) = sprF n h f := by
  funext i
  unfold rowsF sprF
  by_cases hi : i < n
  · have hcn : cnt (fun j => decide (j < n) && !h j) i = cnt (fun j => !h j) i := cnt_ext fun j hj => by simp [show j < n by omega]
    rw [Bool.eq_iff_iff]
    simp only [hi, decide_true, Bool.true_and, List.any_eq_true, Bool.and_eq_true]
    constructor
    · rintro ⟨t, ht, h1, h2⟩
      rw [beq_iff_eq] at h1
      have hl : t < (posI (fun i => decide (i < n) && !h i) n).length := List.mem_range.1 ht
      have hl2 : t < (pos (fun i => decide (i < n) && !h i) n).length := by rw [posI, List.length_map] at hl; exact hl
      rw [List.getD_eq_getElem?_getD, posI, List.getElem?_map, List.getElem?_eq_getElem hl2] at h1
      simp at h1
      have h1' : (pos (fun i => decide (i < n) && !h i) n)[t] = i := by exact_mod_cast h1
      have := pos_sound (t := t) (i := i) (g := fun i => decide (i < n) && !h i) (m := n) (by rw [List.getElem?_eq_getElem hl2, h1'])
      obtain ⟨q1, q2, q3⟩ := this
      rw [hcn] at q3
      simp [hi] at q1
      exact ⟨by simp [q1], by rw [q3]; exact h2⟩
    · rintro ⟨h1, h2⟩
      have hp := pos_at (g := fun i => decide (i < n) && !h i) (m := n) (i := i) hi (by simp [hi]; simpa using h1)
      rw [hcn] at hp
      refine ⟨cnt (fun j => !h j) i, List.mem_range.2 ?_, ?_, h2⟩
      · rw [posI, List.length_map]; exact (List.getElem?_eq_some_iff.1 hp).1
      · rw [List.getD_eq_getElem?_getD, posI, List.getElem?_map, hp]; simp
  · simp [hi]
end Go.Proofs.YtlidolocibfbgaaGreatDoor.Ck
