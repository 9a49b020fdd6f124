/-
  Runs, as mathematics: folded, unfolded, one of them, how few they are. (No seat is named here.)
-/
namespace Go.Proofs.YtlchcckhplclcaaDoor.Rn

section
variable {α β : Type}
/-- What runs mean. -/
def expand (r : List (α × Int)) : List α := r.flatMap fun p => List.replicate p.2.toNat p.1
theorem expand_nil : expand ([] : List (α × Int)) = [] := rfl
theorem expand_append (r s : List (α × Int)) : expand (r ++ s) = expand r ++ expand s := by simp [expand]
theorem expand_one (v : α) (n : Int) : expand [(v, n)] = List.replicate n.toNat v := by simp [expand]
theorem expand_cons (p : α × Int) (s : List (α × Int)) : expand (p :: s) = List.replicate p.2.toNat p.1 ++ expand s := by simp [expand]
/-- How many values they mean. -/
def total (r : List (α × Int)) : Nat := (expand r).length
theorem total_append (r s : List (α × Int)) : total (r ++ s) = total r + total s := by simp [total, expand_append]
theorem total_one (v : α) (n : Int) : total [(v, n)] = n.toNat := by simp [total, expand_one]
theorem total_cons (p : α × Int) (s : List (α × Int)) : total (p :: s) = p.2.toNat + total s := by simp [total, expand_cons]
theorem len_le_total (r : List (α × Int)) (h : ∀ p ∈ r, 1 ≤ p.2) : r.length ≤ total r := by
  induction r with
  | nil => simp
  | cons p r ih =>
    have h1 := h p (List.mem_cons_self ..)
    have h2 := ih (fun q hq => h q (List.mem_cons_of_mem _ hq))
    rw [total_cons, List.length_cons]; omega
def mapR (f : α → β) (r : List (α × Int)) : List (β × Int) := r.map fun p => (f p.1, p.2)
theorem mapR_len (f : α → β) (r : List (α × Int)) : (mapR f r).length = r.length := by simp [mapR]
theorem expand_map (f : α → β) (r : List (α × Int)) : expand (mapR f r) = (expand r).map f := by
  induction r with
  | nil => rfl
  | cons p r ih =>
    have e : mapR f (p :: r) = (f p.1, p.2) :: mapR f r := rfl
    rw [e, expand_cons, expand_cons, List.map_append, ih, List.map_replicate]
theorem total_map (f : α → β) (r : List (α × Int)) : total (mapR f r) = total r := by simp [total, expand_map]
theorem run_le {r : List (α × Int)} {p : α × Int} (h : p ∈ r) : p.2.toNat ≤ total r := by
  obtain ⟨s, t, rfl⟩ := List.append_of_mem h
  rw [total_append, total_cons]; omega
/-- What may not be unfolded. -/
def unfE (r : List (α × Int)) : Nat := if ∃ p ∈ r, p.2 < 1 then 100 else if 16777216 < total r then 3 else 0
theorem unfE_map (f : α → β) (r : List (α × Int)) : unfE (mapR f r) = unfE r := by
  unfold unfE
  rw [total_map]
  have e : (∃ p ∈ mapR f r, p.2 < 1) ↔ ∃ p ∈ r, p.2 < 1 := by
    simp only [mapR, List.mem_map]
    constructor
    · rintro ⟨p, ⟨q, hq, rfl⟩, h⟩; exact ⟨q, hq, h⟩
    · rintro ⟨q, hq, h⟩; exact ⟨_, ⟨q, hq, rfl⟩, h⟩
  by_cases h : ∃ p ∈ r, p.2 < 1
  · rw [if_pos h, if_pos (e.2 h)]
  · rw [if_neg h, if_neg (fun k => h (e.1 k))]
def unfL (r : List (α × Int)) : List α := if unfE r = 0 then expand r else []
theorem unfL_map (f : α → β) (r : List (α × Int)) : unfL (mapR f r) = (unfL r).map f := by
  unfold unfL
  rw [unfE_map, expand_map]
  split <;> simp
/-- The value number i. -/
def atR : List (α × Int) → Int → Option α
  | [], _ => none
  | p :: r, i => if p.2 < 1 then atR r i else if i < p.2 then some p.1 else atR r (i - p.2)
theorem atR_expand (r : List (α × Int)) (i : Nat) : atR r (i : Int) = (expand r)[i]? := by
  induction r generalizing i with
  | nil => simp [atR, expand]
  | cons p r ih =>
    rw [expand_cons, atR]
    by_cases h1 : p.2 < 1
    · rw [if_pos h1, ih, show p.2.toNat = 0 by omega]; simp
    · rw [if_neg h1]
      by_cases h2 : (i : Int) < p.2
      · rw [if_pos h2, List.getElem?_append_left (by simp; omega)]
        rw [List.getElem?_replicate, if_pos (by omega)]
      · rw [if_neg h2, List.getElem?_append_right (by simp; omega), show (i : Int) - p.2 = ((i - p.2.toNat : Nat) : Int) by omega, ih]
        simp
theorem atR_map (f : α → β) (r : List (α × Int)) (i : Int) : atR (mapR f r) i = (atR r i).map f := by
  induction r generalizing i with
  | nil => rfl
  | cons p r ih =>
    have e : mapR f (p :: r) = (f p.1, p.2) :: mapR f r := rfl
    rw [e, atR, atR]
    simp only [ih]
    split
    · rfl
    · split <;> rfl
theorem last_cases (r : List (α × Int)) : r = [] ∨ ∃ s p, r = s ++ [p] := by
  rcases List.eq_nil_or_concat r with h | ⟨s, p, h⟩
  · exact .inl h
  · exact .inr ⟨s, p, by rw [h, List.concat_eq_append]⟩
/-- Each N is 1 or more; neighbours are not alike. -/
def Norm (r : List (α × Int)) : Prop := (∀ p ∈ r, 1 ≤ p.2) ∧ ∀ s p q t, r = s ++ [p, q] ++ t → p.1 ≠ q.1
theorem norm_nil : Norm ([] : List (α × Int)) := ⟨fun p hp => by simp at hp, fun s p q t h => by simp at h⟩
theorem norm_snoc {r : List (α × Int)} {v : α} {n : Int} (h : Norm r) (hn : 1 ≤ n) (hv : ∀ s p, r = s ++ [p] → p.1 ≠ v) : Norm (r ++ [(v, n)]) := by
  refine ⟨fun p hp => ?_, fun s p q t e => ?_⟩
  · rw [List.mem_append] at hp
    rcases hp with hp | hp
    · exact h.1 p hp
    · simp at hp; subst hp; exact hn
  · rcases List.eq_nil_or_concat t with rfl | ⟨t', z, rfl⟩
    · rw [List.append_nil, show s ++ [p, q] = (s ++ [p]) ++ [q] by simp] at e
      have e1 := List.append_inj' e rfl
      have e2 := e1.2
      simp at e2
      rw [← e2]
      exact hv s p e1.1
    · rw [List.concat_eq_append, ← List.append_assoc] at e
      have e1 := List.append_inj' e rfl
      exact h.2 s p q t' e1.1
theorem norm_init {r : List (α × Int)} {p : α × Int} (h : Norm (r ++ [p])) : Norm r :=
  ⟨fun q hq => h.1 q (List.mem_append_left _ hq), fun s a b t e => h.2 s a b (t ++ [p]) (by rw [e]; simp)⟩
theorem norm_last {r : List (α × Int)} {v : α} {n : Int} (h : Norm (r ++ [(v, n)])) : 1 ≤ n ∧ ∀ s p, r = s ++ [p] → p.1 ≠ v :=
  ⟨h.1 (v, n) (by simp), fun s p e => h.2 s p (v, n) [] (by rw [e]; simp)⟩
end

section
variable {α β : Type} [DecidableEq α] [DecidableEq β]
/-- One value more. -/
def addR (r : List (α × Int)) (v : α) : List (α × Int) :=
  match r.getLast? with
  | some p => if p.1 = v then r.dropLast ++ [(p.1, p.2 + 1)] else r ++ [(v, 1)]
  | none => [(v, 1)]
theorem addR_nil (v : α) : addR [] v = [(v, 1)] := rfl
theorem addR_same (r : List (α × Int)) (v : α) (n : Int) : addR (r ++ [(v, n)]) v = r ++ [(v, n + 1)] := by
  simp [addR, List.getLast?_append]
theorem addR_other (r : List (α × Int)) (u v : α) (n : Int) (h : u ≠ v) : addR (r ++ [(u, n)]) v = r ++ [(u, n)] ++ [(v, 1)] := by
  simp [addR, List.getLast?_append, h]
/-- The runs of values. -/
def foldR (l : List α) : List (α × Int) := l.foldl addR []
theorem foldR_nil : foldR ([] : List α) = [] := rfl
theorem foldR_snoc (l : List α) (v : α) : foldR (l ++ [v]) = addR (foldR l) v := by simp [foldR]
theorem foldR_append (l m : List α) : foldR (l ++ m) = m.foldl addR (foldR l) := by simp [foldR]
theorem addR_ne (r : List (α × Int)) (v : α) : ∃ s n, addR r v = s ++ [(v, n)] := by
  rcases last_cases r with rfl | ⟨s, ⟨u, n⟩, rfl⟩
  · exact ⟨[], 1, rfl⟩
  · by_cases h : u = v
    · subst h; exact ⟨s, n + 1, addR_same s u n⟩
    · exact ⟨s ++ [(u, n)], 1, addR_other s u v n h⟩
theorem foldR_last (l : List α) (v : α) : ∃ s n, foldR (l ++ [v]) = s ++ [(v, n)] := by rw [foldR_snoc]; exact addR_ne _ _
theorem norm_add {r : List (α × Int)} (h : Norm r) (v : α) : Norm (addR r v) := by
  rcases last_cases r with rfl | ⟨s, ⟨u, n⟩, rfl⟩
  · exact norm_snoc norm_nil (by omega) (fun s p e => by simp at e)
  · by_cases hu : u = v
    · subst hu
      rw [addR_same]
      have hl := norm_last h
      exact norm_snoc (norm_init h) (by omega) hl.2
    · rw [addR_other _ _ _ _ hu]
      refine norm_snoc h (by omega) (fun s' p e => ?_)
      have e1 := (List.append_inj' e rfl).2
      simp at e1
      rw [← e1]; exact hu
theorem norm_foldl (m : List α) {r : List (α × Int)} (h : Norm r) : Norm (m.foldl addR r) := by
  induction m generalizing r with
  | nil => exact h
  | cons v m ih => exact ih (norm_add h v)
theorem foldR_norm (l : List α) : Norm (foldR l) := norm_foldl l norm_nil
theorem expand_add {r : List (α × Int)} (h : Norm r) (v : α) : expand (addR r v) = expand r ++ [v] := by
  rcases last_cases r with rfl | ⟨s, ⟨u, n⟩, rfl⟩
  · simp [addR_nil, expand_one, expand_nil]
  · have hn := (norm_last h).1
    by_cases hu : u = v
    · subst hu
      rw [addR_same, expand_append, expand_append, expand_one, expand_one, show (n + 1).toNat = n.toNat + 1 by omega, List.replicate_succ', List.append_assoc]
    · rw [addR_other _ _ _ _ hu, expand_append _ [(v, 1)], expand_one]
      rfl
theorem expand_foldl (m : List α) {r : List (α × Int)} (h : Norm r) : expand (m.foldl addR r) = expand r ++ m := by
  induction m generalizing r with
  | nil => simp
  | cons v m ih =>
    have := ih (norm_add h v)
    rw [expand_add h] at this
    simpa using this
/-- What was folded is unfolded again. -/
theorem expand_fold (l : List α) : expand (foldR l) = l := by
  have := expand_foldl l (norm_nil (α := α))
  simpa [foldR, expand_nil] using this
theorem total_fold (l : List α) : total (foldR l) = l.length := by rw [total, expand_fold]
theorem foldl_rep (s : List (α × Int)) (v : α) (n : Int) (k : Nat) : (List.replicate k v).foldl addR (s ++ [(v, n)]) = s ++ [(v, n + k)] := by
  induction k generalizing n with
  | zero => simp
  | succ k ih =>
    rw [List.replicate_succ, List.foldl_cons, addR_same, ih]
    congr 3
    omega
theorem foldl_rep_new {s : List (α × Int)} {v : α} (hv : ∀ t p, s = t ++ [p] → p.1 ≠ v) (k : Nat) : (List.replicate (k + 1) v).foldl addR s = s ++ [(v, (k : Int) + 1)] := by
  rw [List.replicate_succ, List.foldl_cons]
  have e : addR s v = s ++ [(v, 1)] := by
    rcases last_cases s with rfl | ⟨t, ⟨u, n⟩, rfl⟩
    · rfl
    · rw [addR_other _ _ _ _ (hv t (u, n) rfl)]
  rw [e, foldl_rep]
  congr 3
  omega
theorem fold_expand_snoc (r : List (α × Int)) : ∀ k, r.length = k → Norm r → foldR (expand r) = r := by
  intro k
  induction k generalizing r with
  | zero => intro h _; rw [List.eq_nil_of_length_eq_zero h]; rfl
  | succ k ih =>
    intro h hn
    rcases last_cases r with rfl | ⟨s, ⟨v, n⟩, rfl⟩
    · simp at h
    · have hl := norm_last hn
      rw [expand_append, expand_one, foldR_append, ih s (by simpa using h) (norm_init hn)]
      obtain ⟨m, hm⟩ : ∃ m : Nat, n.toNat = m + 1 := ⟨n.toNat - 1, by omega⟩
      rw [hm, foldl_rep_new hl.2]
      congr 3
      omega
/-- Such runs are those of what they mean. -/
theorem fold_expand {r : List (α × Int)} (h : Norm r) : foldR (expand r) = r := fold_expand_snoc r _ rfl h
theorem add_len (r : List (α × Int)) (v : α) : (addR r v).length ≤ r.length + 1 := by
  rcases last_cases r with rfl | ⟨s, ⟨u, n⟩, rfl⟩
  · simp [addR_nil]
  · by_cases hu : u = v
    · subst hu; rw [addR_same]; simp
    · rw [addR_other _ _ _ _ hu]; simp
theorem len_add (r : List (α × Int)) (v : α) : r.length ≤ (addR r v).length := by
  rcases last_cases r with rfl | ⟨s, ⟨u, n⟩, rfl⟩
  · simp [addR_nil]
  · by_cases hu : u = v
    · subst hu; rw [addR_same]; simp
    · rw [addR_other _ _ _ _ hu]; simp
theorem foldl_rep_len (r : List (α × Int)) (v : α) (k : Nat) : ((List.replicate k v).foldl addR r).length ≤ r.length + 1 := by
  cases k with
  | zero => simp
  | succ k =>
    rw [List.replicate_succ, List.foldl_cons]
    obtain ⟨s, n, e⟩ := addR_ne r v
    have h1 := add_len r v
    rw [e] at h1 ⊢
    rw [foldl_rep]
    simpa using h1
/-- They are the fewest. -/
theorem fewest (r : List (α × Int)) : (foldR (expand r)).length ≤ r.length := by
  suffices ∀ k, r.length = k → (foldR (expand r)).length ≤ r.length from this _ rfl
  intro k
  induction k generalizing r with
  | zero => intro h; rw [List.eq_nil_of_length_eq_zero h]; simp [expand_nil, foldR_nil]
  | succ k ih =>
    intro h
    rcases last_cases r with rfl | ⟨s, ⟨v, n⟩, rfl⟩
    · simp at h
    · rw [expand_append, expand_one, foldR_append]
      have h1 := foldl_rep_len (foldR (expand s)) v n.toNat
      have h2 := ih s (by simpa using h)
      simp only [List.length_append, List.length_singleton]
      omega
theorem fold_len (l : List α) : (foldR l).length ≤ l.length := by
  have h1 := len_le_total (foldR l) (foldR_norm l).1
  rw [total_fold] at h1; exact h1
theorem fold_pos {l : List α} (h : 0 < l.length) : 0 < (foldR l).length := by
  apply Nat.pos_of_ne_zero
  intro h0
  have e := expand_fold l
  rw [List.eq_nil_of_length_eq_zero h0] at e
  rw [← e] at h
  simp [expand_nil] at h
theorem fold_le {l : List α} {p : α × Int} (h : p ∈ foldR l) : 1 ≤ p.2 ∧ p.2 ≤ (l.length : Int) := by
  have h1 := run_le h
  have h2 := (foldR_norm l).1 p h
  rw [total_fold] at h1
  omega
theorem fold_mem {l : List α} {p : α × Int} (h : p ∈ foldR l) : p.1 ∈ l := by
  have h1 := (fold_le h).1
  have e := expand_fold l
  rw [← e]
  unfold expand
  rw [List.mem_flatMap]
  exact ⟨p, h, by rw [List.mem_replicate]; exact ⟨by omega, rfl⟩⟩
/-- The runs of a longer beginning: the N of the last one, or one more. -/
theorem fold_take_same {l : List α} {i : Nat} {v : α} (h0 : l[i]? = some v) (h1 : l[i + 1]? = some v) : ∃ s n, foldR (l.take (i + 1)) = s ++ [(v, n)] ∧ foldR (l.take (i + 2)) = s ++ [(v, n + 1)] := by
  have e1 : l.take (i + 1) = l.take i ++ [v] := by rw [List.take_add_one, h0]; rfl
  have e2 : l.take (i + 2) = l.take (i + 1) ++ [v] := by rw [List.take_add_one, h1]; rfl
  obtain ⟨s, n, e⟩ := foldR_last (l.take i) v
  rw [← e1] at e
  exact ⟨s, n, e, by rw [e2, foldR_snoc, e, addR_same]⟩
theorem fold_take_new {l : List α} {i : Nat} {u v : α} (h0 : l[i]? = some u) (h1 : l[i + 1]? = some v) (hu : u ≠ v) : foldR (l.take (i + 2)) = foldR (l.take (i + 1)) ++ [(v, 1)] := by
  have e1 : l.take (i + 1) = l.take i ++ [u] := by rw [List.take_add_one, h0]; rfl
  have e2 : l.take (i + 2) = l.take (i + 1) ++ [v] := by rw [List.take_add_one, h1]; rfl
  obtain ⟨s, n, e⟩ := foldR_last (l.take i) u
  rw [← e1] at e
  rw [e2, foldR_snoc, e, addR_other _ _ _ _ hu]
theorem fold_take_one {l : List α} {v : α} (h0 : l[0]? = some v) : foldR (l.take 1) = [(v, 1)] := by
  have e1 : l.take (0 + 1) = l.take 0 ++ [v] := by rw [List.take_add_one, h0]; rfl
  rw [show (1 : Nat) = 0 + 1 from rfl, e1]; rfl
/-- A run begins with the value number i. -/
def beg (l : List α) (i : Nat) : Prop := i = 0 ∨ l[i - 1]? ≠ l[i]?
instance (l : List α) (i : Nat) : Decidable (beg l i) := by unfold beg; infer_instance
theorem fold_beg {l : List α} {i : Nat} {v : α} (hv : l[i]? = some v) (h : beg l i) : foldR (l.take (i + 1)) = foldR (l.take i) ++ [(v, 1)] := by
  rcases Nat.eq_zero_or_pos i with rfl | hp
  · rw [fold_take_one hv]; rfl
  · obtain ⟨j, rfl⟩ : ∃ j, i = j + 1 := ⟨i - 1, by omega⟩
    have hj : j < l.length := by
      have := (List.getElem?_eq_some_iff.1 hv).1
      omega
    rcases h with h | h
    · omega
    · refine fold_take_new (u := l[j]) (List.getElem?_eq_getElem hj) hv (fun e => h ?_)
      rw [hv, show j + 1 - 1 = j by omega, List.getElem?_eq_getElem hj, e]
theorem fold_nbeg {l : List α} {i : Nat} {v : α} (hv : l[i]? = some v) (h : ¬ beg l i) : ∃ s n, foldR (l.take i) = s ++ [(v, n)] ∧ foldR (l.take (i + 1)) = s ++ [(v, n + 1)] := by
  rcases Nat.eq_zero_or_pos i with rfl | hp
  · exact absurd (.inl rfl) h
  · obtain ⟨j, rfl⟩ : ∃ j, i = j + 1 := ⟨i - 1, by omega⟩
    have h2 : l[j]? = some v := by
      apply Classical.byContradiction
      intro hn
      apply h
      right
      rw [hv, show j + 1 - 1 = j by omega]
      exact hn
    exact fold_take_same h2 hv
theorem fold_map {f : α → β} (l : List α) (h : ∀ x ∈ l, ∀ y ∈ l, f x = f y → x = y) : foldR (l.map f) = mapR f (foldR l) := by
  suffices ∀ i, i ≤ l.length → foldR ((l.take i).map f) = mapR f (foldR (l.take i)) by
    have := this l.length (Nat.le_refl _)
    rwa [List.take_length] at this
  intro i
  induction i with
  | zero => intro _; simp [foldR_nil, mapR]
  | succ i ih =>
    intro hi
    have hv : l[i]? = some l[i] := List.getElem?_eq_getElem (by omega)
    have hv' : (l.map f)[i]? = some (f l[i]) := by rw [List.getElem?_map, hv]; rfl
    have e := ih (by omega)
    rw [List.map_take] at e ⊢
    by_cases hb : beg l i
    · have hb' : beg (l.map f) i := by
        rcases hb with hb | hb
        · exact .inl hb
        · right
          intro k
          apply hb
          rw [List.getElem?_map, List.getElem?_map, hv] at k
          have hj : i - 1 < l.length := by omega
          rw [List.getElem?_eq_getElem hj] at k ⊢
          rw [hv]
          congr 1
          exact h _ (List.getElem_mem _) _ (List.getElem_mem _) (by simpa using k)
      rw [fold_beg hv' hb', fold_beg hv hb, e]
      simp [mapR]
    · have hb' : ¬ beg (l.map f) i := by
        rintro (k | k)
        · exact hb (.inl k)
        · apply hb
          right
          intro k2
          apply k
          rw [List.getElem?_map, List.getElem?_map, k2]
      obtain ⟨s, n, e1, e2⟩ := fold_nbeg hv hb
      obtain ⟨s', n', e1', e2'⟩ := fold_nbeg hv' hb'
      rw [e2', e2]
      rw [e, e1] at e1'
      have e3 : mapR f (s ++ [(l[i], n)]) = mapR f s ++ [(f l[i], n)] := by simp [mapR]
      rw [e3] at e1'
      have e4 := List.append_inj' e1' rfl
      have e5 := e4.2
      simp at e5
      rw [← e4.1, ← e5]
      simp [mapR]
/-- How many runs begin ahead of i. -/
theorem fold_take_len {l : List α} {i : Nat} (hi : i < l.length) : (foldR (l.take (i + 1))).length = (foldR (l.take i)).length + if beg l i then 1 else 0 := by
  have hv : l[i]? = some l[i] := List.getElem?_eq_getElem hi
  by_cases h : beg l i
  · rw [fold_beg hv h, if_pos h]; simp
  · obtain ⟨s, n, e1, e2⟩ := fold_nbeg hv h
    rw [e1, e2, if_neg h]; simp
theorem fold_take_le {l : List α} (i : Nat) : (foldR (l.take i)).length ≤ (foldR l).length := by
  have e : foldR l = (l.drop i).foldl addR (foldR (l.take i)) := by rw [← foldR_append, List.take_append_drop]
  rw [e]
  generalize foldR (l.take i) = r
  generalize l.drop i = m
  induction m generalizing r with
  | nil => simp
  | cons v m ih => exact Nat.le_trans (len_add r v) (ih (addR r v))
end
end Go.Proofs.YtlchcckhplclcaaDoor.Rn
