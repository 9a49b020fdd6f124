import Derived.Test.YtlidolocibfbgaaGreatDoorUAll
/-
  Runs, as mathematics: folded, unfolded, one of them, how few they are. (No seat is named here.)
-/
namespace Go.Proofs.YtlidolocibfbgaaGreatDoor.Rn

section
variable {α β : Type}
/-- What runs mean. -/
def expand (r : List (α × Int)) : List α := r.flatMap fun p => List.replicate p.2.toNat p.1
theorem expand_nil : expand ([] : List (α × Int)) = [] := rfl
theorem expand_append (r s : List (α × Int)) : expand (r ++ s) = expand r ++ expand s := by simp [expand]
theorem expand_one (v : α) (n : Int) : expand [(v, n)] = List.replicate n.toNat v := by simp [expand]
theorem expand_cons (p : α × Int) (s : List (α × Int)) : expand (p :: s) = List.replicate p.2.toNat p.1 ++ expand s := by simp [expand]
/-- How many values they mean. -/
def total (r : List (α × Int)) : Nat := (expand r).length
theorem total_append (r s : List (α × Int)) : total (r ++ s) = total r + total s := by simp [total, expand_append]
theorem total_one (v : α) (n : Int) : total [(v, n)] = n.toNat := by simp [total, expand_one]
theorem total_cons (p : α × Int) (s : List (α × Int)) : total (p :: s) = p.2.toNat + total s := by simp [total, expand_cons]
theorem len_le_total (r : List (α × Int)) (h : ∀ p ∈ r, 1 ≤ p.2) : r.length ≤ total r := by
  induction r with
  | nil => simp
  | cons p r ih =>
    have h1 := h p (List.mem_cons_self ..)
    have h2 := ih (fun q hq => h q (List.mem_cons_of_mem _ hq))
    rw [total_cons, List.length_cons]; omega
def mapR (f : α → β) (r : List (α × Int)) : List (β × Int) := r.map fun p => (f p.1, p.2)
theorem mapR_len (f : α → β) (r : List (α × Int)) : (mapR f r).length = r.length := by simp [mapR]
theorem expand_map (f : α → β) (r : List (α × Int)) : expand (mapR f r) = (expand r).map f := by
  induction r with
  | nil => rfl
  | cons p r ih =>
    have e : mapR f (p :: r) = (f p.1, p.2) :: mapR f r := rfl
    rw [e, expand_cons, expand_cons, List.map_append, ih, List.map_replicate]
theorem total_map (f : α → β) (r : List (α × Int)) : total (mapR f r) = total r := by simp [total, expand_map]
theorem run_le {r : List (α × Int)} {p : α × Int} (h : p ∈ r) : p.2.toNat ≤ total r := by
  obtain ⟨s, t, rfl⟩ := List.append_of_mem h
  rw [total_append, total_cons]; omega
/-- What may not be unfolded. -/
def unfE (r : List (α × Int)) : Nat := if ∃ p ∈ r, p.2 < 1 then 100 else if 16777216 < total r then 3 else 0
theorem unfE_map (f : α → β) (r : List (α × Int)) : unfE (mapR f r) = unfE r := by
  unfold unfE
  rw [total_map]
  have e : (∃ p ∈ mapR f r, p.2 < 1) ↔ ∃ p ∈ r, p.2 < 1 := by
    simp only [mapR, List.mem_map]
    constructor
    · rintro ⟨p, ⟨q, hq, rfl⟩, h⟩; exact ⟨q, hq, h⟩
    · rintro ⟨q, hq, h⟩; exact ⟨_, ⟨q, hq, rfl⟩, h⟩
  by_cases h : ∃ p ∈ r, p.2 < 1
  · rw [if_pos h, if_pos (e.2 h)]
  · rw [if_neg h, if_neg (fun k => h (e.1 k))]
def unfL (r : List (α × Int)) : List α := if unfE r = 0 then expand r else []
theorem unfL_map (f : α → β) (r : List (α × Int)) : unfL (mapR f r) = (unfL r).map f := by
  unfold unfL
  rw [unfE_map, expand_map]
  split <;> simp
/-- The value number i. -/
def atR : List (α × Int) → Int → Option α
  | [], _ => none
  | p :: r, i => if p.2 < 1 then atR r i else if i < p.2 then some p.1 else atR r (i - p.2)
theorem atR_expand (r : List (α × Int)) (i : Nat) : atR r (i : Int) = (expand r)[i]? := by
  induction r generalizing i with
  | nil => simp [atR, expand]
  | cons p r ih =>
    rw [expand_cons, atR]
    by_cases h1 : p.2 < 1
    · rw [if_pos h1, ih, show p.2.toNat = 0 by omega]; simp
    · rw [if_neg h1]
      by_cases h2 : (i : Int) < p.2
      · rw [if_pos h2, List.getElem?_append_left (by simp; omega)]
        rw [List.getElem?_replicate, if_pos (by omega)]
      · rw [if_neg h2, List.getElem?_append_right (by simp; omega), show (i : Int) - p.2 = ((i - p.2.toNat : Nat) : Int) by omega, ih]
        simp
theorem atR_map (f : α → β) (r : List (α × Int)) (i : Int) : atR (mapR f r) i = (atR r i).map f := by
  induction r generalizing i with
  | nil => rfl
  | cons p r ih =>
    have e : mapR f (p :: r) = (f p.1, p.2) :: mapR f r := rfl
    rw [e, atR, atR]
    simp only [ih]
    split
    · rfl
    · split <;> rfl
theorem last_cases (r : List (α × Int)) : r = [] ∨ ∃ s p, r = s ++ [p] := by
  rcases List.eq_nil_or_concat r with h | ⟨s, p, h⟩
  · exact .inl h
  · exact .inr ⟨s, p, by rw [h, List.concat_eq_append]⟩
/-- Each N is 1 or more; neighbours are not alike. -/
def Norm (r : List (α × Int)) : Prop := (∀ p ∈ r, 1 ≤ p.2) ∧ ∀ s p q t, r = s ++ [p, q] ++ t → p.1 ≠ q.1
theorem norm_nil : Norm ([] : List (α × Int)) := ⟨fun p hp => by simp at hp, fun s p q t h => by simp at h⟩
theorem norm_snoc {r : List (α × Int)} {v : α} {n : Int} (h : Norm r) (hn : 1 ≤ n) (hv : ∀ s p, r = s ++ [p] → p.1 ≠ v) : Norm (r ++ [(v, n)]) := by
  refine ⟨fun p hp => ?_, fun s p q t e => ?_⟩
  · rw [List.mem_append] at hp
    rcases hp with hp | hp
    · exact h.1 p hp
    · simp at hp; subst hp; exact hn
  · rcases List.eq_nil_or_concat t with rfl | ⟨t', z, rfl⟩
    · rw [List.append_nil, show s ++ [p, q] = (s ++ [p]) ++ [q] by simp] at e
      have e1 := List.append_inj' e rfl
      have e2 := e1.2
      simp at e2
      rw [← e2]
      exact hv s p e1.1
    · rw [List.concat_eq_append, ← List.append_assoc] at e
      have e1 := List.append_inj' e rfl
      exact h.2 s p q t' e1.1
theorem norm_init {r : List (α × Int)} {p : α × Int} (h : Norm (r ++ [p])) : Norm r :=
  ⟨fun q hq => h.1 q (List.mem_append_left _ hq), fun s a b t e => h.2 s a b (t ++ [p]) (by rw [e]; simp)⟩
theorem norm_last {r : List (α × Int)} {v : α} {n : Int} (h : Norm (r ++ [(v, n)])) : 1 ≤ n ∧ ∀ s p, r = s ++ [p] → p.1 ≠ v :=
  ⟨h.1 (v, n) (by simp), fun s p e => h.2 s p (v, n) [] (by rw [e]; simp)⟩
end

section
variable {α β : Type} [DecidableEq α] [DecidableEq β]
/-- One value more. -/
def addR (r : List (α × Int)) (v : α) : List (α × Int) :=
  match r.getLast? with
  | some p => if p.1 = v then r.dropLast ++ [(p.1, p.2 + 1)] else r ++ [(v, 1)]
  | none => [(v, 1)]
theorem addR_nil (v : α) : addR [] v = [(v, 1)] := rfl
theorem addR_same (r : List (α × Int)) (v : α) (n : Int) : addR (r ++ [(v, n)]) v = r ++ [(v, n + 1)] := by
  simp [addR, List.getLast?_append]
theorem addR_other (r : List (α × Int)) (u v : α) (n : Int) (h : u ≠ v) : addR (r ++ [(u, n)]) v = r ++ [(u, n)] ++ [(v, 1)] := by
  simp [addR, List.getLast?_append, h]
/-- The runs of values. -/
def foldR (l : List α) : List (α × Int) := l.foldl addR []
theorem foldR_nil : foldR ([] : List α) = [] := rfl
theorem foldR_snoc (l : List α) (v : α) : foldR (l ++ [v]) = addR (foldR l) v := by simp [foldR]
theorem foldR_append (l m : List α) : foldR (l ++ m) = m.foldl addR (foldR l) := by simp [foldR]
theorem addR_ne (r : List (α × Int)) (v : α) : ∃ s n, addR r v = s ++ [(v, n)] := by
  rcases last_cases r with rfl | ⟨s, ⟨u, n⟩, rfl⟩
  · exact ⟨[], 1, rfl⟩
  · by_cases h : u = v
    · subst h; exact ⟨s, n + 1, addR_same s u n⟩
    · exact ⟨s ++ [(u, n)], 1, addR_other s u v n h⟩
theorem foldR_last (l : List α) (v : α) : ∃ s n, foldR (l ++ [v]) = s ++ [(v, n)] := by rw [foldR_snoc]; exact addR_ne _ _
theorem norm_add {r : List (α × Int)} (h : Norm r) (v : α) : Norm (addR r v) := by
  rcases last_cases r with rfl | ⟨s, ⟨u, n⟩, rfl⟩
  · exact norm_snoc norm_nil (by omega) (fun s p e => by simp at e)
  · by_cases hu : u = v
    · subst hu
      rw [addR_same]
      have hl := norm_last h
      exact norm_snoc (norm_init h) (by omega) hl.2
    · rw [addR_other _ _ _ _ hu]
      refine norm_snoc h (by omega) (fun s' p e => ?_)
      have e1 := (List.append_inj' e rfl).2
      simp at e1
      rw [← e1]; exact hu
theorem norm_foldl (m : List α) {r : List (α × Int)} (h : Norm r) : Norm (m.foldl addR r) := by
  induction m generalizing r with
  | nil => exact h
  | cons v m ih => exact ih (norm_add h v)
theorem foldR_norm (l : List α) : Norm (foldR l) := norm_foldl l norm_nil
theorem expand_add {r : List (α × Int)} (h : Norm r) (v : α) : expand (addR r v) = expand r ++ [v] := by
  rcases last_cases r with rfl | ⟨s, ⟨u, n⟩, rfl⟩
  · simp [addR_nil, expand_one, expand_nil]
  · have hn := (norm_last h).1
    by_cases hu : u = v
    · subst hu
      rw [addR_same, expand_append, expand_append, expand_one, expand_one, show (n + 1).toNat = n.toNat + 1 by omega, List.replicate_succ', List.append_assoc]
    · rw [addR_other _ _ _ _ hu, expand_append _ [(v, 1)], expand_one]
      rfl
theorem expand_foldl (m : List α) {r : List (α × Int)} (h : Norm r) : expand (m.foldl addR r) = expand r ++ m := by
  induction m generalizing r with
  | nil => simp
  | cons v m ih =>
    have := ih (norm_add h v)
    rw [expand_add h] at this
    simpa using this
/-- What was folded is unfolded again. -/
theorem expand_fold (l : List α) : expand (foldR l) = l := by
  have := expand_foldl l (norm_nil (α := α))
  simpa [foldR, expand_nil] using this
theorem total_fold (l : List α) : total (foldR l) = l.length := by rw [total, expand_fold]
theorem foldl_rep (s : List (α × Int)) (v : α) (n : Int) (k : Nat) : (List.replicate k v).foldl addR (s ++ [(v, n)]) = s ++ [(v, n + k)] := by
  induction k generalizing n with
  | zero => simp
  | succ k ih =>
    rw [List.replicate_succ, List.foldl_cons, addR_same, ih]
    congr 3
    omega
theorem foldl_rep_new {s : List (α × Int)} {v : α} (hv : ∀ t p, s = t ++ [p] → p.1 ≠ v) (k : Nat) : (List.replicate (k + 1) v).foldl addR s = s ++ [(v, (k : Int) + 1)] := by
  rw [List.replicate_succ, List.foldl_cons]
  have e : addR s v = s ++ [(v, 1)] := by
    rcases last_cases s with rfl | ⟨t, ⟨u, n⟩, rfl⟩
    · rfl
    · rw [addR_other _ _ _ _ (hv t (u, n) rfl)]
  rw [e, foldl_rep]
  congr 3
  omega
theorem fold_expand_snoc (r : List (α × Int)) : ∀ k, r.length = k → Norm r → foldR (expand r) = r := by
  intro k
  induction k generalizing r with
  | zero => intro h _; rw [List.eq_nil_of_length_eq_zero h]; rfl
  | succ k ih =>
    intro h hn
    rcases last_cases r with rfl | ⟨s, ⟨v, n⟩, rfl⟩
    · simp at h
    · have hl := norm_last hn
      rw [expand_append, expand_one, foldR_append, ih s (by simpa using h) (norm_init hn)]
      obtain ⟨m, hm⟩ : ∃ m : Nat, n.toNat = m + 1 := ⟨n.toNat - 1, by omega⟩
      rw [hm, foldl_rep_new hl.2]
      congr 3
      omega
/-- Such runs are those of what they mean. -/
theorem fold_expand {r : List (α × Int)} (h : Norm r) : foldR (expand r) = r := fold_expand_snoc r _ rfl h
theorem add_len (r : List (α × Int)) (v : α) : (addR r v).length ≤ r.length + 1 := by
  rcases last_cases r with rfl | ⟨s, ⟨u, n⟩, rfl⟩
  · simp [addR_nil]
  · by_cases hu : u = v
    · subst hu; rw [addR_same]; simp
    · rw [addR_other _ _ _ _ hu]; simp
theorem len_add (r : List (α × Int)) (v : α) : r.length ≤ (addR r v).length := by
  rcases last_cases r with rfl | ⟨s, ⟨u, n⟩, rfl⟩
  · simp [addR_nil]
  · by_cases hu : u = v
    · subst hu; rw [addR_same]; simp
    · rw [addR_other _ _ _ _ hu]; simp
theorem foldl_rep_len (r : List (α × Int)) (v : α) (k : Nat) : ((List.replicate k v).foldl addR r).length ≤ r.length + 1 := by
  cases k with
  | zero => simp
  | succ k =>
    rw [List.replicate_succ, List.foldl_cons]
    obtain ⟨s, n, e⟩ := addR_ne r v
    have h1 := add_len r v
    rw [e] at h1 ⊢
    rw [foldl_rep]
    simpa using h1
/-- They are the fewest. -/
theorem fewest (r : List (α × Int)) : (foldR (expand r)).length ≤ r.length := by
  suffices ∀ k, r.length = k → (foldR (expand r)).length ≤ r.length from this _ rfl
  intro k
  induction k generalizing r with
  | zero => intro h; rw [List.eq_nil_of_length_eq_zero h]; simp [expand_nil, foldR_nil]
  | succ k ih =>
    intro h
    rcases last_cases r with rfl | ⟨s, ⟨v, n⟩, rfl⟩
    · simp at h
    · rw [expand_append, expand_one, foldR_append]
      have h1 := foldl_rep_len (foldR (expand s)) v n.toNat
      have h2 := ih s (by simpa using h)
      simp only [List.length_append, List.length_singleton]
      omega
theorem fold_len (l : List α) : (foldR l).length ≤ l.length := by
  have h1 := len_le_total (foldR l) (foldR_norm l).1
  rw [total_fold] at h1; exact h1
theorem fold_pos {l : List α} (h : 0 < l.length) : 0 < (foldR l).length := by
  apply Nat.pos_of_ne_zero
  intro h0
  have e := expand_fold l
  rw [List.eq_nil_of_length_eq_zero h0] at e
  rw [← e] at h
  simp [expand_nil] at h
theorem fold_le {l : List α} {p : α × Int} (h : p ∈ foldR l) : 1 ≤ p.2 ∧ p.2 ≤ (l.length : Int) := by
  have h1 := run_le h
  have h2 := (foldR_norm l).1 p h
  rw [total_fold] at h1
  omega
theorem fold_mem {l : List α} {p : α × Int} (h : p ∈ foldR l) : p.1 ∈ l := by
  have h1 := (fold_le h).1
  have e := expand_fold l
  rw [← e]
  unfold expand
  rw [List.mem_flatMap]
  exact ⟨p, h, by rw [List.mem_replicate]; exact ⟨by omega, rfl⟩⟩
/-- The runs of a longer beginning: the N of the last one, or one more. -/
theorem fold_take_same {l : List α} {i : Nat} {v : α} (h0 : l[i]? = some v) (h1 : l[i + 1]? = some v) : ∃ s n, foldR (l.take (i + 1)) = s ++ [(v, n)] ∧ foldR (l.take (i + 2)) = s ++ [(v, n + 1)] := by
  have e1 : l.take (i + 1) = l.take i ++ [v] := by rw [List.take_add_one, h0]; rfl
  have e2 : l.take (i + 2) = l.take (i + 1) ++ [v] := by rw [List.take_add_one, h1]; rfl
  obtain ⟨s, n, e⟩ := foldR_last (l.take i) v
  rw [← e1] at e
  exact ⟨s, n, e, by rw [e2, foldR_snoc, e, addR_same]⟩
theorem fold_take_new {l : List α} {i : Nat} {u v : α} (h0 : l[i]? = some u) (h1 : l[i + 1]? = some v) (hu : u ≠ v) : foldR (l.take (i + 2)) = foldR (l.take (i + 1)) ++ [(v, 1)] := by
  have e1 : l.take (i + 1) = l.take i ++ [u] := by rw [List.take_add_one, h0]; rfl
  have e2 : l.take (i + 2) = l.take (i + 1) ++ [v] := by rw [List.take_add_one, h1]; rfl
  obtain ⟨s, n, e⟩ := foldR_last (l.take i) u
  rw [← e1] at e
  rw [e2, foldR_snoc, e, addR_other _ _ _ _ hu]
theorem fold_take_one {l : List α} {v : α} (h0 : l[0]? = some v) : foldR (l.take 1) = [(v, 1)] := by
  have e1 : l.take (0 + 1) = l.take 0 ++ [v] := by rw [List.take_add_one, h0]; rfl
  rw [show (1 : Nat) = 0 + 1 from rfl, e1]; rfl
/-- A run begins with the value number i. -/
def beg (l : List α) (i : Nat) : Prop := i = 0 ∨ l[i - 1]? ≠ l[i]?
instance (l : List α) (i : Nat) : Decidable (beg l i) := by unfold beg; infer_instance
theorem fold_beg {l : List α} {i : Nat} {v : α} (hv : l[i]? = some v) (h : beg l i) : foldR (l.take (i + 1)) = foldR (l.take i) ++ [(v, 1)] := by
  rcases Nat.eq_zero_or_pos i with rfl | hp
  · rw [fold_take_one hv]; rfl
  · obtain ⟨j, rfl⟩ : ∃ j, i = j + 1 := ⟨i - 1, by omega⟩
    have hj : j < l.length := by
      have := (List.getElem?_eq_some_iff.1 hv).1
      omega
    rcases h with h | h
    · omega
    · refine fold_take_new (u := l[j]) (List.getElem?_eq_getElem hj) hv (fun e => h ?_)
      rw [hv, show j + 1 - 1 = j by omega, List.getElem?_eq_getElem hj, e]
theorem fold_nbeg {l : List α} {i : Nat} {v : α} (hv : l[i]? = some v) (h : ¬ beg l i) : ∃ s n, foldR (l.take i) = s ++ [(v, n)] ∧ foldR (l.take (i + 1)) = s ++ [(v, n + 1)] := by
  rcases Nat.eq_zero_or_pos i with rfl | hp
  · exact absurd (.inl rfl) h
  · obtain ⟨j, rfl⟩ : ∃ j, i = j + 1 := ⟨i - 1, by omega⟩
    have h2 : l[j]? = some v := by
      apply Classical.byContradiction
      intro hn
      apply h
      right
      rw [hv, show j + 1 - 1 = j by omega]
      exact hn
    exact fold_take_same h2 hv
theorem fold_map {f : α → β} (l : List α) (h : ∀ x ∈ l, ∀ y ∈ l, f x = f y → x = y) : foldR (l.map f) = mapR f (foldR l) := by
  suffices ∀ i, i ≤ l.length → foldR ((l.take i).map f) = mapR f (foldR (l.take i)) by
    have := this l.length (Nat.le_refl _)
    rwa [List.take_length] at this
  intro i
  induction i with
  | zero => intro _; simp [foldR_nil, mapR]
  | succ i ih =>
    intro hi
    have hv : l[i]? = some l[i] := List.getElem?_eq_getElem (by omega)
    have hv' : (l.map f)[i]? = some (f l[i]) := by rw [List.getElem?_map, hv]; rfl
    have e := ih (by omega)
    rw [List.map_take] at e ⊢
    by_cases hb : beg l i
    · have hb' : beg (l.map f) i := by
        rcases hb with hb | hb
        · exact .inl hb
        · right
          intro k
          apply hb
          rw [List.getElem?_map, List.getElem?_map, hv] at k
          have hj : i - 1 < l.length := by omega
          rw [List.getElem?_eq_getElem hj] at k ⊢
          rw [hv]
          congr 1
          exact h _ (List.getElem_mem _) _ (List.getElem_mem _) (by simpa using k)
      rw [fold_beg hv' hb', fold_beg hv hb, e]
      simp [mapR]
    · have hb' : ¬ beg (l.map f) i := by
        rintro (k | k)
        · exact hb (.inl k)
        · apply hb
          right
          intro k2
          apply k
          rw [List.getElem?_map, List.getElem?_map, k2]
      obtain ⟨s, n, e1, e2⟩ := fold_nbeg hv hb
      obtain ⟨s', n', e1', e2'⟩ := fold_nbeg hv' hb'
      rw [e2', e2]
      rw [e, e1] at e1'
      have e3 : mapR f (s ++ [(l[i], n)]) = mapR f s ++ [(f l[i], n)] := by simp [mapR]
      rw [e3] at e1'
      have e4 := List.append_inj' e1' rfl
      have e5 := e4.2
      simp at e5
      rw [← e4.1, ← e5]
      simp [mapR]
/-- How many runs begin ahead of i. -/
theorem fold_take_len {l : List α} {i : Nat} (hi : i < l.length) : (foldR (l.take (i + 1))).length = (foldR (l.take i)).length + if beg l i then 1 else 0 := by
  have hv : l[i]? = some l[i] := List.getElem?_eq_getElem hi
  by_cases h : beg l i
  · rw [fold_beg hv h, if_pos h]; simp
  · obtain ⟨s, n, e1, e2⟩ := fold_nbeg hv h
    rw [e1, e2, if_neg h]; simp
theorem fold_take_le {l : List α} (i : Nat) : (foldR (l.take i)).length ≤ (foldR l).length := by
  have e : foldR l = (l.drop i).foldl addR (foldR (l.take i)) := by rw [← foldR_append, List.take_append_drop]
  rw [e]
  generalize foldR (l.take i) = r
  generalize l.drop i = m
  induction m generalizing r with
  | nil => simp
  | cons v m ih => exact Nat.le_trans (len_add r v) (ih (addR r v))
end
end Go.Proofs.YtlidolocibfbgaaGreatDoor.Rn

/-
  Lists in memory whose elements are so many cells each: values, and runs.
-/
namespace Go.Proofs.YtlidolocibfbgaaGreatDoor
open Go.ChangeShapes Go.WideShapes Go.ChangeAt Go.RowKit

theorem str_beqR (s t : ByteArray) : (s.toList == t.toList) = decide (s = t) := by
  rw [Bool.eq_iff_iff]
  simp only [beq_iff_eq, decide_eq_true_eq]
  constructor
  · intro h
    rw [Go.ByteArray.toList_eq, Go.ByteArray.toList_eq] at h
    exact ByteArray.ext (Array.toList_inj.1 h)
  · intro h; rw [h]
section
variable {β : Type}
/-- The elements of a list as cells. -/
def Lst (f : β → List Value) (k : Nat) (w : World) (a : Option Addr) (l : List β) : Prop :=
  ∀ j x, l[j]? = some x → ∃ g o, a = some ⟨g, o, none⟩ ∧ g < w.heap.size ∧ ∀ i u, (f x)[i]? = some u → w.cell? ⟨g, o + j * k + i, none⟩ = some u
theorem Lst.nil {f : β → List Value} {k : Nat} {w : World} {a : Option Addr} : Lst f k w a [] := fun j x hj => by simp at hj
theorem Lst.later {f : β → List Value} {k : Nat} {w w' : World} {a : Option Addr} {l : List β} (h : Lst f k w a l) (hb : Below w.heap.size w w') : Lst f k w' a l := fun j x hj => by
  obtain ⟨g, o, e, hg, hc⟩ := h j x hj
  exact ⟨g, o, e, Nat.lt_of_lt_of_le hg hb.size, fun i u hu => (hb.cell (p := ⟨g, o + j * k + i, none⟩) hg).trans (hc i u hu)⟩
theorem Lst.kept {f : β → List Value} {k : Nat} {w w' : World} {a : Option Addr} {l : List β} (h : Lst f k w a l) (hk : ∀ x, a = some x → w'.heap[x.block]? = w.heap[x.block]?) (hs : w.heap.size ≤ w'.heap.size) : Lst f k w' a l := fun j x hj => by
  obtain ⟨g, o, e, hg, hc⟩ := h j x hj
  exact ⟨g, o, e, by omega, fun i u hu => by rw [World.cell?_of_block (w := w) (a := ⟨g, o + j * k + i, none⟩) (hk ⟨g, o, none⟩ e)]; exact hc i u hu⟩
theorem Lst.begin {f : β → List Value} {k : Nat} {w : World} {a : Option Addr} {l r : List β} (h : Lst f k w a (l ++ r)) : Lst f k w a l := fun j x hj => by
  have hl : j < l.length := (List.getElem?_eq_some_iff.1 hj).1
  exact h j x (by rw [List.getElem?_append_left hl]; exact hj)
/-- A list that the call owns. -/
def OwnL (f : β → List Value) (k : Nat) (w : World) (B : Nat) (e : TypeId) (v : Value) (l : List β) : Prop := w.ownsRow B e k v l.length (l.flatMap f)
theorem flat_len {f : β → List Value} {k : Nat} (hf : ∀ x, (f x).length = k) (l : List β) : (l.flatMap f).length = l.length * k := by
  induction l with
  | nil => simp
  | cons x l ih => rw [List.flatMap_cons, List.length_append, ih, hf, List.length_cons, Nat.add_mul]; omega
theorem flat_get {f : β → List Value} {k : Nat} (hf : ∀ x, (f x).length = k) {l : List β} {j i : Nat} {x : β} {u : Value} (hj : l[j]? = some x) (hu : (f x)[i]? = some u) : (l.flatMap f)[j * k + i]? = some u := by
  induction l generalizing j with
  | nil => simp at hj
  | cons y l ih =>
    have hi : i < k := by rw [← hf x]; exact (List.getElem?_eq_some_iff.1 hu).1
    rw [List.flatMap_cons]
    cases j with
    | zero =>
      simp at hj
      subst hj
      rw [Nat.zero_mul, Nat.zero_add, List.getElem?_append_left (by rw [hf]; exact hi)]
      exact hu
    | succ j =>
      rw [List.getElem?_append_right (by rw [hf, Nat.add_mul]; omega), hf, show (j + 1) * k + i - k = j * k + i by rw [Nat.add_mul]; omega]
      exact ih (by simpa using hj)
theorem OwnL.nil (f : β → List Value) (k : Nat) (w : World) (B : Nat) (e : TypeId) : OwnL f k w B e (.slice none 0 0) [] := ⟨by simp, .inl ⟨rfl, rfl⟩⟩
theorem OwnL.lt {f : β → List Value} {k : Nat} {w : World} {B : Nat} {e : TypeId} {v : Value} {l : List β} (h : OwnL f k w B e v l) : ∀ g, v.ownBlock = some g → B ≤ g ∧ g < w.heap.size := World.ownsRow.lt h
theorem OwnL.kept {f : β → List Value} {k : Nat} {w w' : World} {B : Nat} {e : TypeId} {v : Value} {l : List β} (h : OwnL f k w B e v l) (hk : ∀ g, v.ownBlock = some g → w'.heap[g]? = w.heap[g]?) : OwnL f k w' B e v l := by
  rcases h.2 with ⟨rfl, e⟩ | ⟨g, cap, cur, rfl, hb, hg, hr⟩
  · exact ⟨h.1, .inl ⟨rfl, e⟩⟩
  · exact ⟨h.1, .inr ⟨g, cap, cur, rfl, hb, (hk g rfl).trans hg, hr⟩⟩
theorem OwnL.later {f : β → List Value} {k : Nat} {w w' : World} {B : Nat} {e : TypeId} {v : Value} {l : List β} (h : OwnL f k w B e v l) (hb : Below w.heap.size w w') : OwnL f k w' B e v l :=
  h.kept fun g hg => hb.block g (h.lt g hg).2
theorem OwnL.low {f : β → List Value} {k : Nat} {w : World} {B C : Nat} {e : TypeId} {v : Value} {l : List β} (h : OwnL f k w B e v l) (hC : C ≤ B) : OwnL f k w C e v l :=
  ⟨h.1, h.2.imp id (fun ⟨g, cap, cur, q1, q2, q3⟩ => ⟨g, cap, cur, q1, by omega, q3⟩)⟩
/-- What is owned: its form, its cells. -/
theorem OwnL.form {f : β → List Value} {k : Nat} (hf : ∀ x, (f x).length = k) {w : World} {B : Nat} {e : TypeId} {v : Value} {l : List β} (h : OwnL f k w B e v l) :
    ∃ a c, v = .slice a l.length c ∧ l.length ≤ c ∧ c ≤ maxLen ∧ (a = none → l.length = 0 ∧ c = 0) ∧ Lst f k w a l ∧ ∀ x, a = some x → B ≤ x.block ∧ x.block < w.heap.size ∧ x = ⟨x.block, 0, none⟩ := by
  rcases h.2 with ⟨hv, e⟩ | ⟨g, cap, cur, hv, hb, hg, hn, hm, hs, ht⟩
  · have e' : l = [] := List.eq_nil_of_length_eq_zero e
    subst e'
    exact ⟨none, 0, hv, Nat.le_refl _, Nat.zero_le _, fun _ => ⟨rfl, rfl⟩, Lst.nil, fun x hx => by cases hx⟩
  · have hg' := (Array.getElem?_eq_some_iff.1 hg).1
    refine ⟨_, cap, hv, hn, hm, fun h => by simp at h, fun j x hj => ⟨g, 0, rfl, hg', fun i u hu => ?_⟩, fun x hx => by cases hx; exact ⟨hb, hg', rfl⟩⟩
    have e1 := flat_get hf hj hu
    have hjl : j < l.length := (List.getElem?_eq_some_iff.1 hj).1
    have hi : i < k := by rw [← hf x]; exact (List.getElem?_eq_some_iff.1 hu).1
    have hlt : j * k + i < l.length * k := by
      have : (j + 1) * k ≤ l.length * k := Nat.mul_le_mul_right _ hjl
      rw [Nat.add_mul] at this; omega
    rw [← ht, List.getElem?_take, if_pos hlt] at e1
    rw [Nat.zero_add]
    simp [World.cell?, hg]
    simpa using e1
/-- A block whose cells are known: what is appended. -/
theorem news_of {f : β → List Value} {w : World} {e : TypeId} {x : β} {o : Array Value} (ho : o.toList = f x) : ∀ j u, (f x)[j]? = some u → (w.alloc (.cells o e)).cell? ((⟨w.heap.size, 0, none⟩ : Addr).add j) = some u := fun j u hj => by
  rw [add_plain, Nat.zero_add, cell_of_row _ _ _ _ _ _ (heap_alloc_new w _), ← Array.getElem?_toList, ho]
  exact hj
/-- append of one element, which lies in a new block of its own. -/
theorem lst_one {f : β → List Value} {k : Nat} (hf : ∀ x, (f x).length = k) (hk : 0 < k) (h1 : ∀ x, ∀ u ∈ f x, u.oneCell' = true) {w : World} {B : Nat} {t ty e : TypeId} {z : Value} {by0 : Nat} {v : Value} {l : List β}
    (ht : Tryz.prog.underlying t = some (.slice e)) (hi : (Tryz.prog.info? e).map (fun i => (i.zero, i.size, i.bytes)) = some (some z, k, by0)) (hzs : z.cells.size = k)
    (ho : OwnL f k w B e v l) (hb : (l.length + 1) * by0 ≤ 140737488355328) (hp : 0 < by0) (hB : B ≤ w.heap.size) (x : β) (o : Array Value) (hx : o.toList = f x) :
    ∃ g c w', (Builtin.append_ #[t, t] ty #[v, .slice (some ⟨w.heap.size, 0, none⟩) 1 1]).run Tryz.prog (w.alloc (.cells o e)) = .ok (.slice (some ⟨g, 0, none⟩) (l.length + 1) c) w' ∧ OwnL f k w' B e (.slice (some ⟨g, 0, none⟩) (l.length + 1) c) (l ++ [x]) ∧ Below B w w' ∧ (v.ownBlock = some g ∨ g = w.heap.size + 1) ∧ (w.alloc (.cells o e)).grownBy w' v.ownBlock := by
  obtain ⟨i0, hi0, hz0, hz1, hz2⟩ := info_parts hi
  have hnm : l.length + 1 ≤ 140737488355328 := Nat.le_trans (Nat.le_mul_of_pos_right _ hp) hb
  have ho2 : (w.alloc (.cells o e)).ownsRow B e k v l.length (l.flatMap f) := World.ownsRow.alloc ho _
  obtain ⟨g, c, w', hr, q1, q2, q3, q4⟩ := run_append_lies (P := Tryz.prog) (w.alloc (.cells o e)) t ty B e i0 z k by0 ht hi0 hz0 hz1 hz2 hzs hk v l.length _ ho2 ⟨w.heap.size, 0, none⟩ 1 1 (f x) (by rw [hf, Nat.one_mul]) (news_of hx) (h1 x) (by omega) (by simp [maxLen]; omega) hb (by simp; omega) _ rfl
  refine ⟨g, c, w', hr, ?_, ((Below.refl B w).alloc hB _).grown q2 (by simp; omega) (fun j hj => (OwnL.lt ho j hj).1), ?_, q2⟩
  · unfold OwnL
    rw [List.length_append, List.length_singleton, List.flatMap_append, show List.flatMap f [x] = f x by simp]
    exact q1
  · rcases q3 with q3 | q3
    · exact .inl q3
    · exact .inr (by simpa using q3)
/-- append of a list. -/
theorem lst_many {f : β → List Value} {k : Nat} (hf : ∀ x, (f x).length = k) (hk : 0 < k) (h1 : ∀ x, ∀ u ∈ f x, u.oneCell' = true) {w : World} {B : Nat} {t ty e : TypeId} {z : Value} {by0 : Nat} {v : Value} {l r : List β} {a0 : Option Addr} {c : Nat}
    (ht : Tryz.prog.underlying t = some (.slice e)) (hi : (Tryz.prog.info? e).map (fun i => (i.zero, i.size, i.bytes)) = some (some z, k, by0)) (hzs : z.cells.size = k)
    (ho : OwnL f k w B e v l) (hr : Lst f k w a0 r) (ha : a0 = none → r.length = 0 ∧ c = 0) (hb : (l.length + r.length) * by0 ≤ 140737488355328) (hp : 0 < by0) (hB : B ≤ w.heap.size) :
    ∃ v' w', (Builtin.append_ #[t, t] ty #[v, .slice a0 r.length c]).run Tryz.prog w = .ok v' w' ∧ OwnL f k w' B e v' (l ++ r) ∧ (∀ b0, Below B b0 w → Below B b0 w') := by
  obtain ⟨i0, hi0, hz0, hz1, hz2⟩ := info_parts hi
  have hnm : l.length + r.length ≤ 140737488355328 := Nat.le_trans (Nat.le_mul_of_pos_right _ hp) hb
  cases a0 with
  | none =>
    obtain ⟨h0, rfl⟩ := ha rfl
    obtain rfl : r = [] := List.eq_nil_of_length_eq_zero h0
    refine ⟨v, w, run_append_owned_none (P := Tryz.prog) w B t ty e i0 k ht hi0 v l.length _ ho, ?_, fun _ h => h⟩
    rw [List.append_nil]; exact ho
  | some a =>
    have hnews : ∀ j u, (r.flatMap f)[j]? = some u → w.cell? (a.add j) = some u := fun j u hj => by
      have hjl : j < r.length * k := by rw [← flat_len hf r]; exact (List.getElem?_eq_some_iff.1 hj).1
      have hq : j / k < r.length := Nat.div_lt_of_lt_mul (by rw [Nat.mul_comm]; exact hjl)
      have hm : j % k < k := Nat.mod_lt _ hk
      have hx : r[j / k]? = some r[j / k] := List.getElem?_eq_getElem hq
      have hu : (f r[j / k])[j % k]? = some ((f r[j / k])[j % k]'(by rw [hf]; exact hm)) := List.getElem?_eq_getElem _
      have e2 := flat_get hf hx hu
      rw [show j / k * k + j % k = j by rw [Nat.mul_comm]; exact Nat.div_add_mod j k, hj] at e2
      cases e2
      obtain ⟨g, o, ea, _, hc⟩ := hr _ _ hx
      cases ea
      have := hc _ _ hu
      rw [Nat.add_assoc, show j / k * k + j % k = j by rw [Nat.mul_comm]; exact Nat.div_add_mod j k] at this
      rw [add_plain]
      exact this
    have hone : ∀ u ∈ r.flatMap f, u.oneCell' = true := fun u hu => by
      rw [List.mem_flatMap] at hu
      obtain ⟨x, _, hx⟩ := hu
      exact h1 x u hx
    obtain ⟨v', w', hrun, q1, q2, _, q4⟩ := run_append_own_at (P := Tryz.prog) w B t ty e i0 z k by0 ht hi0 hz0 hz1 hz2 hzs hk v l.length _ ho a r.length c (r.flatMap f) (flat_len hf r) hnews hone (by simp [maxLen]; omega) hb hB
    refine ⟨v', w', hrun, ?_, fun b0 h => h.grown q2 hB (fun j hj => (OwnL.lt ho j hj).1)⟩
    unfold OwnL
    rw [List.length_append, List.flatMap_append]
    exact q1
/-- A list of no elements with room, just made. -/
theorem OwnL.made {f : β → List Value} {k : Nat} {w : World} {B : Nat} {e : TypeId} {n : Nat} (z : Array Value) (hB : B ≤ w.heap.size) (hn : n ≤ maxLen) : OwnL f k (w.alloc (.cells (madeCells z (n * k)) e)) B e (.slice (some ⟨w.heap.size, 0, none⟩) 0 n) ([] : List β) := by
  refine ⟨by simp, .inr ⟨w.heap.size, n, _, rfl, hB, heap_alloc_new w _, Nat.zero_le _, hn, by rw [size_madeCells], ?_⟩⟩
  simp
/-- An element of an owned list is written over: what it is then. -/
theorem OwnL.at {f : β → List Value} {k : Nat} (hf : ∀ x, (f x).length = k) {w : World} {B : Nat} {e : TypeId} {v : Value} {l : List β} (h : OwnL f k w B e v l) {j i : Nat} {x : β} (hj : l[j]? = some x) (hi : i < k) (u : Value) (y : β) (hy : f y = (f x).set i u) :
    ∃ g c, v = .slice (some ⟨g, 0, none⟩) l.length c ∧ B ≤ g ∧ g < w.heap.size ∧ l.length ≤ c ∧ w.frozen? ⟨g, j * k + i, none⟩ = false ∧ OwnL f k (w.setCell ⟨g, j * k + i, none⟩ u) B e v (l.set j y) := by
  have hjl : j < l.length := (List.getElem?_eq_some_iff.1 hj).1
  rcases h.2 with ⟨_, e0⟩ | ⟨g, cap, cur, hv, hb, hg, hn, hm, hs, ht⟩
  · omega
  · have hg' := (Array.getElem?_eq_some_iff.1 hg).1
    refine ⟨g, cap, hv, hb, hg', hn, by simp [World.frozen?, hg], ?_⟩
    refine ⟨by rw [flat_len hf], .inr ⟨g, cap, cur.setIfInBounds (j * k + i) u, by rw [List.length_set]; exact hv, hb, ?_, by rw [List.length_set]; exact hn, hm, by simpa using hs, ?_⟩⟩
    · simp only [World.setCell, Array.getElem?_modify]
      simp [hg]
    · rw [List.length_set, Array.toList_setIfInBounds, List.take_set, ht]
      apply List.ext_getElem?
      intro m
      have hk0 : 0 < k := by omega
      by_cases hml : m < l.length * k
      · have hq : m / k < l.length := Nat.div_lt_of_lt_mul (by rw [Nat.mul_comm]; exact hml)
        have hr : m % k < k := Nat.mod_lt _ hk0
        have em : m / k * k + m % k = m := by rw [Nat.mul_comm]; exact Nat.div_add_mod m k
        have hxq : l[m / k]? = some l[m / k] := List.getElem?_eq_getElem hq
        have hur : (f l[m / k])[m % k]? = some ((f l[m / k])[m % k]'(by rw [hf]; exact hr)) := List.getElem?_eq_getElem _
        have e1 := flat_get hf hxq hur
        rw [em] at e1
        by_cases hjm : m / k = j
        · have hset : (l.set j y)[m / k]? = some y := by rw [hjm, List.getElem?_set_self hjl]
          have hxe : l[m / k] = x := by
            have h2 : l[m / k]? = some x := by rw [hjm]; exact hj
            rw [hxq] at h2
            exact Option.some.inj h2
          by_cases him : m % k = i
          · have hyu : (f y)[m % k]? = some u := by rw [hy, him, List.getElem?_set_self (by rw [hf]; exact hi)]
            have e2 := flat_get hf hset hyu
            rw [em] at e2
            rw [e2, show j * k + i = m by rw [← hjm, ← him]; exact em, List.getElem?_set_self (by rw [flat_len hf]; exact hml)]
          · have hyu : (f y)[m % k]? = some ((f l[m / k])[m % k]'(by rw [hf]; exact hr)) := by rw [hy, List.getElem?_set_ne (fun h => him h.symm), ← hxe]; exact hur
            have e2 := flat_get hf hset hyu
            rw [em] at e2
            rw [e2, List.getElem?_set_ne (fun h => him (by rw [← h, Nat.mul_comm, Nat.mul_add_mod, Nat.mod_eq_of_lt hi])), e1]
        · have hset : (l.set j y)[m / k]? = some l[m / k] := by rw [List.getElem?_set_ne (fun h => hjm h.symm)]; exact hxq
          have e2 := flat_get hf hset hur
          rw [em] at e2
          rw [e2, List.getElem?_set_ne, e1]
          intro h
          apply hjm
          rw [← h, Nat.mul_comm, Nat.mul_add_div hk0, Nat.div_eq_of_lt hi, Nat.add_zero]
      · rw [List.getElem?_eq_none (by rw [List.length_set, flat_len hf]; omega), List.getElem?_eq_none (by rw [flat_len hf, List.length_set]; omega)]
/-! ### Values, runs -/
variable {α : Type}
def one (enc : α → Value) : α → List Value := fun x => [enc x]
def two (enc : α → Value) : α × Int → List Value := fun p => [enc p.1, .int .i64 p.2]
theorem one_len (enc : α → Value) (x : α) : (one enc x).length = 1 := rfl
theorem two_len (enc : α → Value) (p : α × Int) : (two enc p).length = 2 := rfl
theorem one_cell {enc : α → Value} (h : ∀ x, (enc x).oneCell' = true) (x : α) : ∀ u ∈ one enc x, u.oneCell' = true := fun u hu => by
  simp [one] at hu; subst hu; exact h x
theorem two_cell {enc : α → Value} (h : ∀ x, (enc x).oneCell' = true) (p : α × Int) : ∀ u ∈ two enc p, u.oneCell' = true := fun u hu => by
  simp [two] at hu
  rcases hu with rfl | rfl
  · exact h p.1
  · rfl
theorem Lst.cell1 {enc : α → Value} {w : World} {a : Option Addr} {l : List α} (h : Lst (one enc) 1 w a l) {i : Nat} (hi : i < l.length) : ∃ g o, a = some ⟨g, o, none⟩ ∧ g < w.heap.size ∧ w.cell? ⟨g, o + i, none⟩ = some (enc l[i]) := by
  obtain ⟨g, o, e, hg, hc⟩ := h i l[i] (List.getElem?_eq_getElem hi)
  refine ⟨g, o, e, hg, ?_⟩
  have := hc 0 (enc l[i]) rfl
  rwa [Nat.mul_one, Nat.add_zero] at this
theorem Lst.cell2 {enc : α → Value} {w : World} {a : Option Addr} {l : List (α × Int)} (h : Lst (two enc) 2 w a l) {i : Nat} (hi : i < l.length) : ∃ g o, a = some ⟨g, o, none⟩ ∧ g < w.heap.size ∧ w.cell? ⟨g, o + i * 2, none⟩ = some (enc l[i].1) ∧ w.cell? ⟨g, o + i * 2 + 1, none⟩ = some (.int .i64 l[i].2) := by
  obtain ⟨g, o, e, hg, hc⟩ := h i l[i] (List.getElem?_eq_getElem hi)
  refine ⟨g, o, e, hg, ?_, ?_⟩
  · have := hc 0 (enc l[i].1) rfl
    rwa [Nat.add_zero] at this
  · exact hc 1 (.int .i64 l[i].2) rfl
/-- The N of the last run. -/
theorem OwnL.bump {enc : α → Value} {w : World} {B : Nat} {e : TypeId} {v : Value} {r : List (α × Int)} {x : α} {n : Int} (h : OwnL (two enc) 2 w B e v (r ++ [(x, n)])) :
    ∃ g c, v = .slice (some ⟨g, 0, none⟩) (r.length + 1) c ∧ B ≤ g ∧ g < w.heap.size ∧ r.length + 1 ≤ c ∧ w.cell? ⟨g, r.length * 2 + 1, none⟩ = some (.int .i64 n) ∧ w.frozen? ⟨g, r.length * 2 + 1, none⟩ = false ∧ ∀ m, OwnL (two enc) 2 (w.setCell ⟨g, r.length * 2 + 1, none⟩ (.int .i64 m)) B e v (r ++ [(x, m)]) := by
  have hj : (r ++ [(x, n)])[r.length]? = some (x, n) := by simp
  obtain ⟨g, c, hv, hB, hg, hc, hf, _⟩ := h.at (two_len enc) hj (i := 1) (by omega) (.int .i64 n) (x, n) rfl
  rw [List.length_append, List.length_singleton] at hv hc
  subst hv
  obtain ⟨a, c', hv, _, _, _, hl, _⟩ := h.form (two_len enc)
  simp only [Value.slice.injEq] at hv
  obtain ⟨rfl, _, rfl⟩ := hv
  obtain ⟨g', o', ea, _, hcl⟩ := hl _ _ hj
  cases ea
  have hcell := hcl 1 (.int .i64 n) rfl
  rw [Nat.zero_add] at hcell
  refine ⟨_, _, rfl, hB, hg, hc, hcell, hf, fun m => ?_⟩
  obtain ⟨g2, c2, hv2, _, _, _, _, ho⟩ := h.at (two_len enc) hj (i := 1) (by omega) (.int .i64 m) (x, m) rfl
  simp only [Value.slice.injEq, Option.some.injEq, Addr.mk.injEq, and_true] at hv2
  obtain ⟨rfl, _, rfl⟩ := hv2
  rw [List.set_append_right _ _ (Nat.le_refl _), Nat.sub_self] at ho
  exact ho
def encB8 (n : Nat) : Value := .int .u8 (n : Int)
theorem take_nextL {T U : List β} {i : Nat} (h : T.take i = U.take i) (hi : i < T.length) (hj : i < U.length) (e : T[i] = U[i]) : T.take (i + 1) = U.take (i + 1) := by
  rw [List.take_add_one, List.take_add_one, h, List.getElem?_eq_getElem hi, List.getElem?_eq_getElem hj, e]
/-- A list that was lent: twenty marks behind it. -/
def Lnt (f : β → List Value) (k : Nat) (e : TypeId) (w : World) (B b c : Nat) (l : List β) (m : β) : Prop := OwnL f k w B e (.slice (some ⟨b, 0, none⟩) (l.length + 20) c) (l ++ List.replicate 20 m)
theorem Lnt.le {f : β → List Value} {k : Nat} (hf : ∀ x, (f x).length = k) {e : TypeId} {w : World} {B b c : Nat} {l : List β} {m : β} (h : Lnt f k e w B b c l m) : B ≤ b ∧ b < w.heap.size ∧ l.length + 20 ≤ c := by
  obtain ⟨a, c', hv, hc, _, _, _, hx⟩ := OwnL.form hf h
  simp only [Value.slice.injEq] at hv
  obtain ⟨rfl, _, rfl⟩ := hv
  have := hx _ rfl
  rw [List.length_append, List.length_replicate] at hc
  exact ⟨this.1, this.2.1, hc⟩
theorem Lnt.all {f : β → List Value} {k : Nat} (hf : ∀ x, (f x).length = k) {e : TypeId} {w : World} {B b c : Nat} {l : List β} {m : β} (h : Lnt f k e w B b c l m) : Lst f k w (some ⟨b, 0, none⟩) (l ++ List.replicate 20 m) := by
  obtain ⟨a, c', hv, hc, _, _, hl, hx⟩ := OwnL.form hf h
  simp only [Value.slice.injEq] at hv
  obtain ⟨rfl, _, rfl⟩ := hv
  exact hl
theorem Lnt.lst {f : β → List Value} {k : Nat} (hf : ∀ x, (f x).length = k) {e : TypeId} {w : World} {B b c : Nat} {l : List β} {m : β} (h : Lnt f k e w B b c l m) : Lst f k w (some ⟨b, 0, none⟩) l := (h.all hf).begin
theorem Lnt.kept {f : β → List Value} {k : Nat} {e : TypeId} {w w' : World} {B b c : Nat} {l : List β} {m : β} (h : Lnt f k e w B b c l m) (hk : w'.heap[b]? = w.heap[b]?) : Lnt f k e w' B b c l m := OwnL.kept h fun g hg => by cases hg; exact hk
theorem Lnt.later {f : β → List Value} {k : Nat} (hf : ∀ x, (f x).length = k) {e : TypeId} {w w' : World} {B b c : Nat} {l : List β} {m : β} (h : Lnt f k e w B b c l m) (hb : Below w.heap.size w w') : Lnt f k e w' B b c l m := h.kept (hb.block b (h.le hf).2.1)
theorem Lnt.set {f : β → List Value} {k : Nat} (hf : ∀ x, (f x).length = k) {e : TypeId} {w : World} {B b c : Nat} {l : List β} {m : β} (h : Lnt f k e w B b c l m) {j i : Nat} {x : β} (hj : l[j]? = some x) (hi : i < k) (u : Value) (y : β) (hy : f y = (f x).set i u) :
    w.frozen? ⟨b, j * k + i, none⟩ = false ∧ Lnt f k e (w.setCell ⟨b, j * k + i, none⟩ u) B b c (l.set j y) m := by
  have hjl : j < l.length := (List.getElem?_eq_some_iff.1 hj).1
  obtain ⟨g, c', hv, _, _, _, hfz, ho⟩ := OwnL.at hf h (j := j) (x := x) (by rw [List.getElem?_append_left hjl]; exact hj) hi u y hy
  simp only [Value.slice.injEq, Option.some.injEq, Addr.mk.injEq, and_true] at hv
  obtain ⟨rfl, _, rfl⟩ := hv
  refine ⟨hfz, ?_⟩
  unfold Lnt
  rw [List.length_set]
  rw [List.set_append_left _ _ hjl] at ho
  exact ho
end
end Go.Proofs.YtlidolocibfbgaaGreatDoor
