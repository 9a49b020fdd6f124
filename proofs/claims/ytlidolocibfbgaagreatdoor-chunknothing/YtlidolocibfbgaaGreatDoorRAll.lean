import Derived.Test.YtlidolocibfbgaaGreatDoorUAll
import Derived.Defers
import Derived.Recover
import Derived.Test.YtlidolocibfbgaaGreatDoorPAll
import Derived.Deep.RegionHeld3
/-
  Runs, as mathematics: folded, unfolded, one of them, how few they are. (No seat is named here.)
-/
namespace Go.Proofs.YtlidolocibfbgaaGreatDoor.Rn

section
variable {α β : Type}
/-- What runs mean. -/
def expand (r : List (α × Int)) : List α := r.flatMap fun p => List.replicate p.2.toNat p.1
theorem expand_nil : expand ([] : List (α × Int)) = [] := rfl
theorem expand_append (r s : List (α × Int)) : expand (r ++ s) = expand r ++ expand s := by simp [expand]
theorem expand_one (v : α) (n : Int) : expand [(v, n)] = List.replicate n.toNat v := by simp [expand]
theorem expand_cons (p : α × Int) (s : List (α × Int)) : expand (p :: s) = List.replicate p.2.toNat p.1 ++ expand s := by simp [expand]
/-- How many values they mean. -/
def total (r : List (α × Int)) : Nat := (expand r).length
theorem total_append (r s : List (α × Int)) : total (r ++ s) = total r + total s := by simp [total, expand_append]
theorem total_one (v : α) (n : Int) : total [(v, n)] = n.toNat := by simp [total, expand_one]
theorem total_cons (p : α × Int) (s : List (α × Int)) : total (p :: s) = p.2.toNat + total s := by simp [total, expand_cons]
theorem len_le_total (r : List (α × Int)) (h : ∀ p ∈ r, 1 ≤ p.2) : r.length ≤ total r := by
  induction r with
  | nil => simp
  | cons p r ih =>
    have h1 := h p (List.mem_cons_self ..)
    have h2 := ih (fun q hq => h q (List.mem_cons_of_mem _ hq))
    rw [total_cons, List.length_cons]; omega
def mapR (f : α → β) (r : List (α × Int)) : List (β × Int) := r.map fun p => (f p.1, p.2)
theorem mapR_len (f : α → β) (r : List (α × Int)) : (mapR f r).length = r.length := by simp [mapR]
theorem expand_map (f : α → β) (r : List (α × Int)) : expand (mapR f r) = (expand r).map f := by
  induction r with
  | nil => rfl
  | cons p r ih =>
    have e : mapR f (p :: r) = (f p.1, p.2) :: mapR f r := rfl
    rw [e, expand_cons, expand_cons, List.map_append, ih, List.map_replicate]
theorem total_map (f : α → β) (r : List (α × Int)) : total (mapR f r) = total r := by simp [total, expand_map]
theorem run_le {r : List (α × Int)} {p : α × Int} (h : p ∈ r) : p.2.toNat ≤ total r := by
  obtain ⟨s, t, rfl⟩ := List.append_of_mem h
  rw [total_append, total_cons]; omega
/-- What may not be unfolded. -/
def unfE (r : List (α × Int)) : Nat := if ∃ p ∈ r, p.2 < 1 then 100 else if 16777216 < total r then 3 else 0
theorem unfE_map (f : α → β) (r : List (α × Int)) : unfE (mapR f r) = unfE r := by
  unfold unfE
  rw [total_map]
  have e : (∃ p ∈ mapR f r, p.2 < 1) ↔ ∃ p ∈ r, p.2 < 1 := by
    simp only [mapR, List.mem_map]
    constructor
    · rintro ⟨p, ⟨q, hq, rfl⟩, h⟩; exact ⟨q, hq, h⟩
    · rintro ⟨q, hq, h⟩; exact ⟨_, ⟨q, hq, rfl⟩, h⟩
  by_cases h : ∃ p ∈ r, p.2 < 1
  · rw [if_pos h, if_pos (e.2 h)]
  · rw [if_neg h, if_neg (fun k => h (e.1 k))]
def unfL (r : List (α × Int)) : List α := if unfE r = 0 then expand r else []
theorem unfL_map (f : α → β) (r : List (α × Int)) : unfL (mapR f r) = (unfL r).map f := by
  unfold unfL
  rw [unfE_map, expand_map]
  split <;> simp
/-- The value number i. -/
def atR : List (α × Int) → Int → Option α
  | [], _ => none
  | p :: r, i => if p.2 < 1 then atR r i else if i < p.2 then some p.1 else atR r (i - p.2)
theorem atR_expand (r : List (α × Int)) (i : Nat) : atR r (i : Int) = (expand r)[i]? := by
  induction r generalizing i with
  | nil => simp [atR, expand]
  | cons p r ih =>
    rw [expand_cons, atR]
    by_cases h1 : p.2 < 1
    · rw [if_pos h1, ih, show p.2.toNat = 0 by omega]; simp
    · rw [if_neg h1]
      by_cases h2 : (i : Int) < p.2
      · rw [if_pos h2, List.getElem?_append_left (by simp; omega)]
        rw [List.getElem?_replicate, if_pos (by omega)]
      · rw [if_neg h2, List.getElem?_append_right (by simp; omega), show (i : Int) - p.2 = ((i - p.2.toNat : Nat) : Int) by omega, ih]
        simp
theorem atR_map (f : α → β) (r : List (α × Int)) (i : Int) : atR (mapR f r) i = (atR r i).map f := by
  induction r generalizing i with
  | nil => rfl
  | cons p r ih =>
    have e : mapR f (p :: r) = (f p.1, p.2) :: mapR f r := rfl
    rw [e, atR, atR]
    simp only [ih]
    split
    · rfl
    · split <;> rfl
theorem last_cases (r : List (α × Int)) : r = [] ∨ ∃ s p, r = s ++ [p] := by
  rcases List.eq_nil_or_concat r with h | ⟨s, p, h⟩
  · exact .inl h
  · exact .inr ⟨s, p, by rw [h, List.concat_eq_append]⟩
/-- Each N is 1 or more; neighbours are not alike. -/
def Norm (r : List (α × Int)) : Prop := (∀ p ∈ r, 1 ≤ p.2) ∧ ∀ s p q t, r = s ++ [p, q] ++ t → p.1 ≠ q.1
theorem norm_nil : Norm ([] : List (α × Int)) := ⟨fun p hp => by simp at hp, fun s p q t h => by simp at h⟩
theorem norm_snoc {r : List (α × Int)} {v : α} {n : Int} (h : Norm r) (hn : 1 ≤ n) (hv : ∀ s p, r = s ++ [p] → p.1 ≠ v) : Norm (r ++ [(v, n)]) := by
  refine ⟨fun p hp => ?_, fun s p q t e => ?_⟩
  · rw [List.mem_append] at hp
    rcases hp with hp | hp
    · exact h.1 p hp
    · simp at hp; subst hp; exact hn
  · rcases List.eq_nil_or_concat t with rfl | ⟨t', z, rfl⟩
    · rw [List.append_nil, show s ++ [p, q] = (s ++ [p]) ++ [q] by simp] at e
      have e1 := List.append_inj' e rfl
      have e2 := e1.2
      simp at e2
      rw [← e2]
      exact hv s p e1.1
    · rw [List.concat_eq_append, ← List.append_assoc] at e
      have e1 := List.append_inj' e rfl
      exact h.2 s p q t' e1.1
theorem norm_init {r : List (α × Int)} {p : α × Int} (h : Norm (r ++ [p])) : Norm r :=
  ⟨fun q hq => h.1 q (List.mem_append_left _ hq), fun s a b t e => h.2 s a b (t ++ [p]) (by rw [e]; simp)⟩
theorem norm_last {r : List (α × Int)} {v : α} {n : Int} (h : Norm (r ++ [(v, n)])) : 1 ≤ n ∧ ∀ s p, r = s ++ [p] → p.1 ≠ v :=
  ⟨h.1 (v, n) (by simp), fun s p e => h.2 s p (v, n) [] (by rw [e]; simp)⟩
end

section
variable {α β : Type} [DecidableEq α] [DecidableEq β]
/-- One value more. -/
def addR (r : List (α × Int)) (v : α) : List (α × Int) :=
  match r.getLast? with
  | some p => if p.1 = v then r.dropLast ++ [(p.1, p.2 + 1)] else r ++ [(v, 1)]
  | none => [(v, 1)]
theorem addR_nil (v : α) : addR [] v = [(v, 1)] := rfl
theorem addR_same (r : List (α × Int)) (v : α) (n : Int) : addR (r ++ [(v, n)]) v = r ++ [(v, n + 1)] := by
  simp [addR, List.getLast?_append]
theorem addR_other (r : List (α × Int)) (u v : α) (n : Int) (h : u ≠ v) : addR (r ++ [(u, n)]) v = r ++ [(u, n)] ++ [(v, 1)] := by
  simp [addR, List.getLast?_append, h]
/-- The runs of values. -/
def foldR (l : List α) : List (α × Int) := l.foldl addR []
theorem foldR_nil : foldR ([] : List α) = [] := rfl
theorem foldR_snoc (l : List α) (v : α) : foldR (l ++ [v]) = addR (foldR l) v := by simp [foldR]
theorem foldR_append (l m : List α) : foldR (l ++ m) = m.foldl addR (foldR l) := by simp [foldR]
theorem addR_ne (r : List (α × Int)) (v : α) : ∃ s n, addR r v = s ++ [(v, n)] := by
  rcases last_cases r with rfl | ⟨s, ⟨u, n⟩, rfl⟩
  · exact ⟨[], 1, rfl⟩
  · by_cases h : u = v
    · subst h; exact ⟨s, n + 1, addR_same s u n⟩
    · exact ⟨s ++ [(u, n)], 1, addR_other s u v n h⟩
theorem foldR_last (l : List α) (v : α) : ∃ s n, foldR (l ++ [v]) = s ++ [(v, n)] := by rw [foldR_snoc]; exact addR_ne _ _
theorem norm_add {r : List (α × Int)} (h : Norm r) (v : α) : Norm (addR r v) := by
  rcases last_cases r with rfl | ⟨s, ⟨u, n⟩, rfl⟩
  · exact norm_snoc norm_nil (by omega) (fun s p e => by simp at e)
  · by_cases hu : u = v
    · subst hu
      rw [addR_same]
      have hl := norm_last h
      exact norm_snoc (norm_init h) (by omega) hl.2
    · rw [addR_other _ _ _ _ hu]
      refine norm_snoc h (by omega) (fun s' p e => ?_)
      have e1 := (List.append_inj' e rfl).2
      simp at e1
      rw [← e1]; exact hu
theorem norm_foldl (m : List α) {r : List (α × Int)} (h : Norm r) : Norm (m.foldl addR r) := by
  induction m generalizing r with
  | nil => exact h
  | cons v m ih => exact ih (norm_add h v)
theorem foldR_norm (l : List α) : Norm (foldR l) := norm_foldl l norm_nil
theorem expand_add {r : List (α × Int)} (h : Norm r) (v : α) : expand (addR r v) = expand r ++ [v] := by
  rcases last_cases r with rfl | ⟨s, ⟨u, n⟩, rfl⟩
  · simp [addR_nil, expand_one, expand_nil]
  · have hn := (norm_last h).1
    by_cases hu : u = v
    · subst hu
      rw [addR_same, expand_append, expand_append, expand_one, expand_one, show (n + 1).toNat = n.toNat + 1 by omega, List.replicate_succ', List.append_assoc]
    · rw [addR_other _ _ _ _ hu, expand_append _ [(v, 1)], expand_one]
      rfl
theorem expand_foldl (m : List α) {r : List (α × Int)} (h : Norm r) : expand (m.foldl addR r) = expand r ++ m := by
  induction m generalizing r with
  | nil => simp
  | cons v m ih =>
    have := ih (norm_add h v)
    rw [expand_add h] at this
    simpa using this
/-- What was folded is unfolded again. -/
theorem expand_fold (l : List α) : expand (foldR l) = l := by
  have := expand_foldl l (norm_nil (α := α))
  simpa [foldR, expand_nil] using this
theorem total_fold (l : List α) : total (foldR l) = l.length := by rw [total, expand_fold]
theorem foldl_rep (s : List (α × Int)) (v : α) (n : Int) (k : Nat) : (List.replicate k v).foldl addR (s ++ [(v, n)]) = s ++ [(v, n + k)] := by
  induction k generalizing n with
  | zero => simp
  | succ k ih =>
    rw [List.replicate_succ, List.foldl_cons, addR_same, ih]
    congr 3
    omega
theorem foldl_rep_new {s : List (α × Int)} {v : α} (hv : ∀ t p, s = t ++ [p] → p.1 ≠ v) (k : Nat) : (List.replicate (k + 1) v).foldl addR s = s ++ [(v, (k : Int) + 1)] := by
  rw [List.replicate_succ, List.foldl_cons]
  have e : addR s v = s ++ [(v, 1)] := by
    rcases last_cases s with rfl | ⟨t, ⟨u, n⟩, rfl⟩
    · rfl
    · rw [addR_other _ _ _ _ (hv t (u, n) rfl)]
  rw [e, foldl_rep]
  congr 3
  omega
theorem fold_expand_snoc (r : List (α × Int)) : ∀ k, r.length = k → Norm r → foldR (expand r) = r := by
  intro k
  induction k generalizing r with
  | zero => intro h _; rw [List.eq_nil_of_length_eq_zero h]; rfl
  | succ k ih =>
    intro h hn
    rcases last_cases r with rfl | ⟨s, ⟨v, n⟩, rfl⟩
    · simp at h
    · have hl := norm_last hn
      rw [expand_append, expand_one, foldR_append, ih s (by simpa using h) (norm_init hn)]
      obtain ⟨m, hm⟩ : ∃ m : Nat, n.toNat = m + 1 := ⟨n.toNat - 1, by omega⟩
      rw [hm, foldl_rep_new hl.2]
      congr 3
      omega
/-- Such runs are those of what they mean. -/
theorem fold_expand {r : List (α × Int)} (h : Norm r) : foldR (expand r) = r := fold_expand_snoc r _ rfl h
theorem add_len (r : List (α × Int)) (v : α) : (addR r v).length ≤ r.length + 1 := by
  rcases last_cases r with rfl | ⟨s, ⟨u, n⟩, rfl⟩
  · simp [addR_nil]
  · by_cases hu : u = v
    · subst hu; rw [addR_same]; simp
    · rw [addR_other _ _ _ _ hu]; simp
theorem len_add (r : List (α × Int)) (v : α) : r.length ≤ (addR r v).length := by
  rcases last_cases r with rfl | ⟨s, ⟨u, n⟩, rfl⟩
  · simp [addR_nil]
  · by_cases hu : u = v
    · subst hu; rw [addR_same]; simp
    · rw [addR_other _ _ _ _ hu]; simp
theorem foldl_rep_len (r : List (α × Int)) (v : α) (k : Nat) : ((List.replicate k v).foldl addR r).length ≤ r.length + 1 := by
  cases k with
  | zero => simp
  | succ k =>
    rw [List.replicate_succ, List.foldl_cons]
    obtain ⟨s, n, e⟩ := addR_ne r v
    have h1 := add_len r v
    rw [e] at h1 ⊢
    rw [foldl_rep]
    simpa using h1
/-- They are the fewest. -/
theorem fewest (r : List (α × Int)) : (foldR (expand r)).length ≤ r.length := by
  suffices ∀ k, r.length = k → (foldR (expand r)).length ≤ r.length from this _ rfl
  intro k
  induction k generalizing r with
  | zero => intro h; rw [List.eq_nil_of_length_eq_zero h]; simp [expand_nil, foldR_nil]
  | succ k ih =>
    intro h
    rcases last_cases r with rfl | ⟨s, ⟨v, n⟩, rfl⟩
    · simp at h
    · rw [expand_append, expand_one, foldR_append]
      have h1 := foldl_rep_len (foldR (expand s)) v n.toNat
      have h2 := ih s (by simpa using h)
      simp only [List.length_append, List.length_singleton]
      omega
theorem fold_len (l : List α) : (foldR l).length ≤ l.length := by
  have h1 := len_le_total (foldR l) (foldR_norm l).1
  rw [total_fold] at h1; exact h1
theorem fold_pos {l : List α} (h : 0 < l.length) : 0 < (foldR l).length := by
  apply Nat.pos_of_ne_zero
  intro h0
  have e := expand_fold l
  rw [List.eq_nil_of_length_eq_zero h0] at e
  rw [← e] at h
  simp [expand_nil] at h
theorem fold_le {l : List α} {p : α × Int} (h : p ∈ foldR l) : 1 ≤ p.2 ∧ p.2 ≤ (l.length : Int) := by
  have h1 := run_le h
  have h2 := (foldR_norm l).1 p h
  rw [total_fold] at h1
  omega
theorem fold_mem {l : List α} {p : α × Int} (h : p ∈ foldR l) : p.1 ∈ l := by
  have h1 := (fold_le h).1
  have e := expand_fold l
  rw [← e]
  unfold expand
  rw [List.mem_flatMap]
  exact ⟨p, h, by rw [List.mem_replicate]; exact ⟨by omega, rfl⟩⟩
/-- The runs of a longer beginning: the N of the last one, or one more. -/
theorem fold_take_same {l : List α} {i : Nat} {v : α} (h0 : l[i]? = some v) (h1 : l[i + 1]? = some v) : ∃ s n, foldR (l.take (i + 1)) = s ++ [(v, n)] ∧ foldR (l.take (i + 2)) = s ++ [(v, n + 1)] := by
  have e1 : l.take (i + 1) = l.take i ++ [v] := by rw [List.take_add_one, h0]; rfl
  have e2 : l.take (i + 2) = l.take (i + 1) ++ [v] := by rw [List.take_add_one, h1]; rfl
  obtain ⟨s, n, e⟩ := foldR_last (l.take i) v
  rw [← e1] at e
  exact ⟨s, n, e, by rw [e2, foldR_snoc, e, addR_same]⟩
theorem fold_take_new {l : List α} {i : Nat} {u v : α} (h0 : l[i]? = some u) (h1 : l[i + 1]? = some v) (hu : u ≠ v) : foldR (l.take (i + 2)) = foldR (l.take (i + 1)) ++ [(v, 1)] := by
  have e1 : l.take (i + 1) = l.take i ++ [u] := by rw [List.take_add_one, h0]; rfl
  have e2 : l.take (i + 2) = l.take (i + 1) ++ [v] := by rw [List.take_add_one, h1]; rfl
  obtain ⟨s, n, e⟩ := foldR_last (l.take i) u
  rw [← e1] at e
  rw [e2, foldR_snoc, e, addR_other _ _ _ _ hu]
theorem fold_take_one {l : List α} {v : α} (h0 : l[0]? = some v) : foldR (l.take 1) = [(v, 1)] := by
  have e1 : l.take (0 + 1) = l.take 0 ++ [v] := by rw [List.take_add_one, h0]; rfl
  rw [show (1 : Nat) = 0 + 1 from rfl, e1]; rfl
/-- A run begins with the value number i. -/
def beg (l : List α) (i : Nat) : Prop := i = 0 ∨ l[i - 1]? ≠ l[i]?
instance (l : List α) (i : Nat) : Decidable (beg l i) := by unfold beg; infer_instance
theorem fold_beg {l : List α} {i : Nat} {v : α} (hv : l[i]? = some v) (h : beg l i) : foldR (l.take (i + 1)) = foldR (l.take i) ++ [(v, 1)] := by
  rcases Nat.eq_zero_or_pos i with rfl | hp
  · rw [fold_take_one hv]; rfl
  · obtain ⟨j, rfl⟩ : ∃ j, i = j + 1 := ⟨i - 1, by omega⟩
    have hj : j < l.length := by
      have := (List.getElem?_eq_some_iff.1 hv).1
      omega
    rcases h with h | h
    · omega
    · refine fold_take_new (u := l[j]) (List.getElem?_eq_getElem hj) hv (fun e => h ?_)
      rw [hv, show j + 1 - 1 = j by omega, List.getElem?_eq_getElem hj, e]
theorem fold_nbeg {l : List α} {i : Nat} {v : α} (hv : l[i]? = some v) (h : ¬ beg l i) : ∃ s n, foldR (l.take i) = s ++ [(v, n)] ∧ foldR (l.take (i + 1)) = s ++ [(v, n + 1)] := by
  rcases Nat.eq_zero_or_pos i with rfl | hp
  · exact absurd (.inl rfl) h
  · obtain ⟨j, rfl⟩ : ∃ j, i = j + 1 := ⟨i - 1, by omega⟩
    have h2 : l[j]? = some v := by
      apply Classical.byContradiction
      intro hn
      apply h
      right
      rw [hv, show j + 1 - 1 = j by omega]
      exact hn
    exact fold_take_same h2 hv
theorem fold_map {f : α → β} (l : List α) (h : ∀ x ∈ l, ∀ y ∈ l, f x = f y → x = y) : foldR (l.map f) = mapR f (foldR l) := by
  suffices ∀ i, i ≤ l.length → foldR ((l.take i).map f) = mapR f (foldR (l.take i)) by
    have := this l.length (Nat.le_refl _)
    rwa [List.take_length] at this
  intro i
  induction i with
  | zero => intro _; simp [foldR_nil, mapR]
  | succ i ih =>
    intro hi
    have hv : l[i]? = some l[i] := List.getElem?_eq_getElem (by omega)
    have hv' : (l.map f)[i]? = some (f l[i]) := by rw [List.getElem?_map, hv]; rfl
    have e := ih (by omega)
    rw [List.map_take] at e ⊢
    by_cases hb : beg l i
    · have hb' : beg (l.map f) i := by
        rcases hb with hb | hb
        · exact .inl hb
        · right
          intro k
          apply hb
          rw [List.getElem?_map, List.getElem?_map, hv] at k
          have hj : i - 1 < l.length := by omega
          rw [List.getElem?_eq_getElem hj] at k ⊢
          rw [hv]
          congr 1
          exact h _ (List.getElem_mem _) _ (List.getElem_mem _) (by simpa using k)
      rw [fold_beg hv' hb', fold_beg hv hb, e]
      simp [mapR]
    · have hb' : ¬ beg (l.map f) i := by
        rintro (k | k)
        · exact hb (.inl k)
        · apply hb
          right
          intro k2
          apply k
          rw [List.getElem?_map, List.getElem?_map, k2]
      obtain ⟨s, n, e1, e2⟩ := fold_nbeg hv hb
      obtain ⟨s', n', e1', e2'⟩ := fold_nbeg hv' hb'
      rw [e2', e2]
      rw [e, e1] at e1'
      have e3 : mapR f (s ++ [(l[i], n)]) = mapR f s ++ [(f l[i], n)] := by simp [mapR]
      rw [e3] at e1'
      have e4 := List.append_inj' e1' rfl
      have e5 := e4.2
      simp at e5
      rw [← e4.1, ← e5]
      simp [mapR]
/-- How many runs begin ahead of i. -/
theorem fold_take_len {l : List α} {i : Nat} (hi : i < l.length) : (foldR (l.take (i + 1))).length = (foldR (l.take i)).length + if beg l i then 1 else 0 := by
  have hv : l[i]? = some l[i] := List.getElem?_eq_getElem hi
  by_cases h : beg l i
  · rw [fold_beg hv h, if_pos h]; simp
  · obtain ⟨s, n, e1, e2⟩ := fold_nbeg hv h
    rw [e1, e2, if_neg h]; simp
theorem fold_take_le {l : List α} (i : Nat) : (foldR (l.take i)).length ≤ (foldR l).length := by
  have e : foldR l = (l.drop i).foldl addR (foldR (l.take i)) := by rw [← foldR_append, List.take_append_drop]
  rw [e]
  generalize foldR (l.take i) = r
  generalize l.drop i = m
  induction m generalizing r with
  | nil => simp
  | cons v m ih => exact Nat.le_trans (len_add r v) (ih (addR r v))
end
end Go.Proofs.YtlidolocibfbgaaGreatDoor.Rn

/-
  Lists in memory whose elements are so many cells each: values, and runs.
-/
namespace Go.Proofs.YtlidolocibfbgaaGreatDoor
open Go.ChangeShapes Go.WideShapes Go.ChangeAt Go.RowKit

theorem str_beqR (s t : ByteArray) : (s.toList == t.toList) = decide (s = t) := by
  rw [Bool.eq_iff_iff]
  simp only [beq_iff_eq, decide_eq_true_eq]
  constructor
  · intro h
    rw [Go.ByteArray.toList_eq, Go.ByteArray.toList_eq] at h
    exact ByteArray.ext (Array.toList_inj.1 h)
  · intro h; rw [h]
section
variable {β : Type}
/-- The elements of a list as cells. -/
def Lst (f : β → List Value) (k : Nat) (w : World) (a : Option Addr) (l : List β) : Prop :=
  ∀ j x, l[j]? = some x → ∃ g o, a = some ⟨g, o, none⟩ ∧ g < w.heap.size ∧ ∀ i u, (f x)[i]? = some u → w.cell? ⟨g, o + j * k + i, none⟩ = some u
theorem Lst.nil {f : β → List Value} {k : Nat} {w : World} {a : Option Addr} : Lst f k w a [] := fun j x hj => by simp at hj
theorem Lst.later {f : β → List Value} {k : Nat} {w w' : World} {a : Option Addr} {l : List β} (h : Lst f k w a l) (hb : Below w.heap.size w w') : Lst f k w' a l := fun j x hj => by
  obtain ⟨g, o, e, hg, hc⟩ := h j x hj
  exact ⟨g, o, e, Nat.lt_of_lt_of_le hg hb.size, fun i u hu => (hb.cell (p := ⟨g, o + j * k + i, none⟩) hg).trans (hc i u hu)⟩
theorem Lst.kept {f : β → List Value} {k : Nat} {w w' : World} {a : Option Addr} {l : List β} (h : Lst f k w a l) (hk : ∀ x, a = some x → w'.heap[x.block]? = w.heap[x.block]?) (hs : w.heap.size ≤ w'.heap.size) : Lst f k w' a l := fun j x hj => by
  obtain ⟨g, o, e, hg, hc⟩ := h j x hj
  exact ⟨g, o, e, by omega, fun i u hu => by rw [World.cell?_of_block (w := w) (a := ⟨g, o + j * k + i, none⟩) (hk ⟨g, o, none⟩ e)]; exact hc i u hu⟩
theorem Lst.begin {f : β → List Value} {k : Nat} {w : World} {a : Option Addr} {l r : List β} (h : Lst f k w a (l ++ r)) : Lst f k w a l := fun j x hj => by
  have hl : j < l.length := (List.getElem?_eq_some_iff.1 hj).1
  exact h j x (by rw [List.getElem?_append_left hl]; exact hj)
/-- A list that the call owns. -/
def OwnL (f : β → List Value) (k : Nat) (w : World) (B : Nat) (e : TypeId) (v : Value) (l : List β) : Prop := w.ownsRow B e k v l.length (l.flatMap f)
theorem flat_len {f : β → List Value} {k : Nat} (hf : ∀ x, (f x).length = k) (l : List β) : (l.flatMap f).length = l.length * k := by
  induction l with
  | nil => simp
  | cons x l ih => rw [List.flatMap_cons, List.length_append, ih, hf, List.length_cons, Nat.add_mul]; omega
theorem flat_get {f : β → List Value} {k : Nat} (hf : ∀ x, (f x).length = k) {l : List β} {j i : Nat} {x : β} {u : Value} (hj : l[j]? = some x) (hu : (f x)[i]? = some u) : (l.flatMap f)[j * k + i]? = some u := by
  induction l generalizing j with
  | nil => simp at hj
  | cons y l ih =>
    have hi : i < k := by rw [← hf x]; exact (List.getElem?_eq_some_iff.1 hu).1
    rw [List.flatMap_cons]
    cases j with
    | zero =>
      simp at hj
      subst hj
      rw [Nat.zero_mul, Nat.zero_add, List.getElem?_append_left (by rw [hf]; exact hi)]
      exact hu
    | succ j =>
      rw [List.getElem?_append_right (by rw [hf, Nat.add_mul]; omega), hf, show (j + 1) * k + i - k = j * k + i by rw [Nat.add_mul]; omega]
      exact ih (by simpa using hj)
theorem OwnL.nil (f : β → List Value) (k : Nat) (w : World) (B : Nat) (e : TypeId) : OwnL f k w B e (.slice none 0 0) [] := ⟨by simp, .inl ⟨rfl, rfl⟩⟩
theorem OwnL.lt {f : β → List Value} {k : Nat} {w : World} {B : Nat} {e : TypeId} {v : Value} {l : List β} (h : OwnL f k w B e v l) : ∀ g, v.ownBlock = some g → B ≤ g ∧ g < w.heap.size := World.ownsRow.lt h
theorem OwnL.kept {f : β → List Value} {k : Nat} {w w' : World} {B : Nat} {e : TypeId} {v : Value} {l : List β} (h : OwnL f k w B e v l) (hk : ∀ g, v.ownBlock = some g → w'.heap[g]? = w.heap[g]?) : OwnL f k w' B e v l := by
  rcases h.2 with ⟨rfl, e⟩ | ⟨g, cap, cur, rfl, hb, hg, hr⟩
  · exact ⟨h.1, .inl ⟨rfl, e⟩⟩
  · exact ⟨h.1, .inr ⟨g, cap, cur, rfl, hb, (hk g rfl).trans hg, hr⟩⟩
theorem OwnL.later {f : β → List Value} {k : Nat} {w w' : World} {B : Nat} {e : TypeId} {v : Value} {l : List β} (h : OwnL f k w B e v l) (hb : Below w.heap.size w w') : OwnL f k w' B e v l :=
  h.kept fun g hg => hb.block g (h.lt g hg).2
theorem OwnL.low {f : β → List Value} {k : Nat} {w : World} {B C : Nat} {e : TypeId} {v : Value} {l : List β} (h : OwnL f k w B e v l) (hC : C ≤ B) : OwnL f k w C e v l :=
  ⟨h.1, h.2.imp id (fun ⟨g, cap, cur, q1, q2, q3⟩ => ⟨g, cap, cur, q1, by omega, q3⟩)⟩
/-- What is owned: its form, its cells. -/
theorem OwnL.form {f : β → List Value} {k : Nat} (hf : ∀ x, (f x).length = k) {w : World} {B : Nat} {e : TypeId} {v : Value} {l : List β} (h : OwnL f k w B e v l) :
    ∃ a c, v = .slice a l.length c ∧ l.length ≤ c ∧ c ≤ maxLen ∧ (a = none → l.length = 0 ∧ c = 0) ∧ Lst f k w a l ∧ ∀ x, a = some x → B ≤ x.block ∧ x.block < w.heap.size ∧ x = ⟨x.block, 0, none⟩ := by
  rcases h.2 with ⟨hv, e⟩ | ⟨g, cap, cur, hv, hb, hg, hn, hm, hs, ht⟩
  · have e' : l = [] := List.eq_nil_of_length_eq_zero e
    subst e'
    exact ⟨none, 0, hv, Nat.le_refl _, Nat.zero_le _, fun _ => ⟨rfl, rfl⟩, Lst.nil, fun x hx => by cases hx⟩
  · have hg' := (Array.getElem?_eq_some_iff.1 hg).1
    refine ⟨_, cap, hv, hn, hm, fun h => by simp at h, fun j x hj => ⟨g, 0, rfl, hg', fun i u hu => ?_⟩, fun x hx => by cases hx; exact ⟨hb, hg', rfl⟩⟩
    have e1 := flat_get hf hj hu
    have hjl : j < l.length := (List.getElem?_eq_some_iff.1 hj).1
    have hi : i < k := by rw [← hf x]; exact (List.getElem?_eq_some_iff.1 hu).1
    have hlt : j * k + i < l.length * k := by
      have : (j + 1) * k ≤ l.length * k := Nat.mul_le_mul_right _ hjl
      rw [Nat.add_mul] at this; omega
    rw [← ht, List.getElem?_take, if_pos hlt] at e1
    rw [Nat.zero_add]
    simp [World.cell?, hg]
    simpa using e1
/-- A block whose cells are known: what is appended. -/
theorem news_of {f : β → List Value} {w : World} {e : TypeId} {x : β} {o : Array Value} (ho : o.toList = f x) : ∀ j u, (f x)[j]? = some u → (w.alloc (.cells o e)).cell? ((⟨w.heap.size, 0, none⟩ : Addr).add j) = some u := fun j u hj => by
  rw [add_plain, Nat.zero_add, cell_of_row _ _ _ _ _ _ (heap_alloc_new w _), ← Array.getElem?_toList, ho]
  exact hj
/-- append of one element, which lies in a new block of its own. -/
theorem lst_one {f : β → List Value} {k : Nat} (hf : ∀ x, (f x).length = k) (hk : 0 < k) (h1 : ∀ x, ∀ u ∈ f x, u.oneCell' = true) {w : World} {B : Nat} {t ty e : TypeId} {z : Value} {by0 : Nat} {v : Value} {l : List β}
    (ht : Tryz.prog.underlying t = some (.slice e)) (hi : (Tryz.prog.info? e).map (fun i => (i.zero, i.size, i.bytes)) = some (some z, k, by0)) (hzs : z.cells.size = k)
    (ho : OwnL f k w B e v l) (hb : (l.length + 1) * by0 ≤ 140737488355328) (hp : 0 < by0) (hB : B ≤ w.heap.size) (x : β) (o : Array Value) (hx : o.toList = f x) :
    ∃ g c w', (Builtin.append_ #[t, t] ty #[v, .slice (some ⟨w.heap.size, 0, none⟩) 1 1]).run Tryz.prog (w.alloc (.cells o e)) = .ok (.slice (some ⟨g, 0, none⟩) (l.length + 1) c) w' ∧ OwnL f k w' B e (.slice (some ⟨g, 0, none⟩) (l.length + 1) c) (l ++ [x]) ∧ Below B w w' ∧ (v.ownBlock = some g ∨ g = w.heap.size + 1) ∧ (w.alloc (.cells o e)).grownBy w' v.ownBlock := by
  obtain ⟨i0, hi0, hz0, hz1, hz2⟩ := info_parts hi
  have hnm : l.length + 1 ≤ 140737488355328 := Nat.le_trans (Nat.le_mul_of_pos_right _ hp) hb
  have ho2 : (w.alloc (.cells o e)).ownsRow B e k v l.length (l.flatMap f) := World.ownsRow.alloc ho _
  obtain ⟨g, c, w', hr, q1, q2, q3, q4⟩ := run_append_lies (P := Tryz.prog) (w.alloc (.cells o e)) t ty B e i0 z k by0 ht hi0 hz0 hz1 hz2 hzs hk v l.length _ ho2 ⟨w.heap.size, 0, none⟩ 1 1 (f x) (by rw [hf, Nat.one_mul]) (news_of hx) (h1 x) (by omega) (by simp [maxLen]; omega) hb (by simp; omega) _ rfl
  refine ⟨g, c, w', hr, ?_, ((Below.refl B w).alloc hB _).grown q2 (by simp; omega) (fun j hj => (OwnL.lt ho j hj).1), ?_, q2⟩
  · unfold OwnL
    rw [List.length_append, List.length_singleton, List.flatMap_append, show List.flatMap f [x] = f x by simp]
    exact q1
  · rcases q3 with q3 | q3
    · exact .inl q3
    · exact .inr (by simpa using q3)
/-- append of a list. -/
theorem lst_many {f : β → List Value} {k : Nat} (hf : ∀ x, (f x).length = k) (hk : 0 < k) (h1 : ∀ x, ∀ u ∈ f x, u.oneCell' = true) {w : World} {B : Nat} {t ty e : TypeId} {z : Value} {by0 : Nat} {v : Value} {l r : List β} {a0 : Option Addr} {c : Nat}
    (ht : Tryz.prog.underlying t = some (.slice e)) (hi : (Tryz.prog.info? e).map (fun i => (i.zero, i.size, i.bytes)) = some (some z, k, by0)) (hzs : z.cells.size = k)
    (ho : OwnL f k w B e v l) (hr : Lst f k w a0 r) (ha : a0 = none → r.length = 0 ∧ c = 0) (hb : (l.length + r.length) * by0 ≤ 140737488355328) (hp : 0 < by0) (hB : B ≤ w.heap.size) :
    ∃ v' w', (Builtin.append_ #[t, t] ty #[v, .slice a0 r.length c]).run Tryz.prog w = .ok v' w' ∧ OwnL f k w' B e v' (l ++ r) ∧ (∀ b0, Below B b0 w → Below B b0 w') := by
  obtain ⟨i0, hi0, hz0, hz1, hz2⟩ := info_parts hi
  have hnm : l.length + r.length ≤ 140737488355328 := Nat.le_trans (Nat.le_mul_of_pos_right _ hp) hb
  cases a0 with
  | none =>
    obtain ⟨h0, rfl⟩ := ha rfl
    obtain rfl : r = [] := List.eq_nil_of_length_eq_zero h0
    refine ⟨v, w, run_append_owned_none (P := Tryz.prog) w B t ty e i0 k ht hi0 v l.length _ ho, ?_, fun _ h => h⟩
    rw [List.append_nil]; exact ho
  | some a =>
    have hnews : ∀ j u, (r.flatMap f)[j]? = some u → w.cell? (a.add j) = some u := fun j u hj => by
      have hjl : j < r.length * k := by rw [← flat_len hf r]; exact (List.getElem?_eq_some_iff.1 hj).1
      have hq : j / k < r.length := Nat.div_lt_of_lt_mul (by rw [Nat.mul_comm]; exact hjl)
      have hm : j % k < k := Nat.mod_lt _ hk
      have hx : r[j / k]? = some r[j / k] := List.getElem?_eq_getElem hq
      have hu : (f r[j / k])[j % k]? = some ((f r[j / k])[j % k]'(by rw [hf]; exact hm)) := List.getElem?_eq_getElem _
      have e2 := flat_get hf hx hu
      rw [show j / k * k + j % k = j by rw [Nat.mul_comm]; exact Nat.div_add_mod j k, hj] at e2
      cases e2
      obtain ⟨g, o, ea, _, hc⟩ := hr _ _ hx
      cases ea
      have := hc _ _ hu
      rw [Nat.add_assoc, show j / k * k + j % k = j by rw [Nat.mul_comm]; exact Nat.div_add_mod j k] at this
      rw [add_plain]
      exact this
    have hone : ∀ u ∈ r.flatMap f, u.oneCell' = true := fun u hu => by
      rw [List.mem_flatMap] at hu
      obtain ⟨x, _, hx⟩ := hu
      exact h1 x u hx
    obtain ⟨v', w', hrun, q1, q2, _, q4⟩ := run_append_own_at (P := Tryz.prog) w B t ty e i0 z k by0 ht hi0 hz0 hz1 hz2 hzs hk v l.length _ ho a r.length c (r.flatMap f) (flat_len hf r) hnews hone (by simp [maxLen]; omega) hb hB
    refine ⟨v', w', hrun, ?_, fun b0 h => h.grown q2 hB (fun j hj => (OwnL.lt ho j hj).1)⟩
    unfold OwnL
    rw [List.length_append, List.flatMap_append]
    exact q1
/-- A list of no elements with room, just made. -/
theorem OwnL.made {f : β → List Value} {k : Nat} {w : World} {B : Nat} {e : TypeId} {n : Nat} (z : Array Value) (hB : B ≤ w.heap.size) (hn : n ≤ maxLen) : OwnL f k (w.alloc (.cells (madeCells z (n * k)) e)) B e (.slice (some ⟨w.heap.size, 0, none⟩) 0 n) ([] : List β) := by
  refine ⟨by simp, .inr ⟨w.heap.size, n, _, rfl, hB, heap_alloc_new w _, Nat.zero_le _, hn, by rw [size_madeCells], ?_⟩⟩
  simp
/-- An element of an owned list is written over: what it is then. -/
theorem OwnL.at {f : β → List Value} {k : Nat} (hf : ∀ x, (f x).length = k) {w : World} {B : Nat} {e : TypeId} {v : Value} {l : List β} (h : OwnL f k w B e v l) {j i : Nat} {x : β} (hj : l[j]? = some x) (hi : i < k) (u : Value) (y : β) (hy : f y = (f x).set i u) :
    ∃ g c, v = .slice (some ⟨g, 0, none⟩) l.length c ∧ B ≤ g ∧ g < w.heap.size ∧ l.length ≤ c ∧ w.frozen? ⟨g, j * k + i, none⟩ = false ∧ OwnL f k (w.setCell ⟨g, j * k + i, none⟩ u) B e v (l.set j y) := by
  have hjl : j < l.length := (List.getElem?_eq_some_iff.1 hj).1
  rcases h.2 with ⟨_, e0⟩ | ⟨g, cap, cur, hv, hb, hg, hn, hm, hs, ht⟩
  · omega
  · have hg' := (Array.getElem?_eq_some_iff.1 hg).1
    refine ⟨g, cap, hv, hb, hg', hn, by simp [World.frozen?, hg], ?_⟩
    refine ⟨by rw [flat_len hf], .inr ⟨g, cap, cur.setIfInBounds (j * k + i) u, by rw [List.length_set]; exact hv, hb, ?_, by rw [List.length_set]; exact hn, hm, by simpa using hs, ?_⟩⟩
    · simp only [World.setCell, Array.getElem?_modify]
      simp [hg]
    · rw [List.length_set, Array.toList_setIfInBounds, List.take_set, ht]
      apply List.ext_getElem?
      intro m
      have hk0 : 0 < k := by omega
      by_cases hml : m < l.length * k
      · have hq : m / k < l.length := Nat.div_lt_of_lt_mul (by rw [Nat.mul_comm]; exact hml)
        have hr : m % k < k := Nat.mod_lt _ hk0
        have em : m / k * k + m % k = m := by rw [Nat.mul_comm]; exact Nat.div_add_mod m k
        have hxq : l[m / k]? = some l[m / k] := List.getElem?_eq_getElem hq
        have hur : (f l[m / k])[m % k]? = some ((f l[m / k])[m % k]'(by rw [hf]; exact hr)) := List.getElem?_eq_getElem _
        have e1 := flat_get hf hxq hur
        rw [em] at e1
        by_cases hjm : m / k = j
        · have hset : (l.set j y)[m / k]? = some y := by rw [hjm, List.getElem?_set_self hjl]
          have hxe : l[m / k] = x := by
            have h2 : l[m / k]? = some x := by rw [hjm]; exact hj
            rw [hxq] at h2
            exact Option.some.inj h2
          by_cases him : m % k = i
          · have hyu : (f y)[m % k]? = some u := by rw [hy, him, List.getElem?_set_self (by rw [hf]; exact hi)]
            have e2 := flat_get hf hset hyu
            rw [em] at e2
            rw [e2, show j * k + i = m by rw [← hjm, ← him]; exact em, List.getElem?_set_self (by rw [flat_len hf]; exact hml)]
          · have hyu : (f y)[m % k]? = some ((f l[m / k])[m % k]'(by rw [hf]; exact hr)) := by rw [hy, List.getElem?_set_ne (fun h => him h.symm), ← hxe]; exact hur
            have e2 := flat_get hf hset hyu
            rw [em] at e2
            rw [e2, List.getElem?_set_ne (fun h => him (by rw [← h, Nat.mul_comm, Nat.mul_add_mod, Nat.mod_eq_of_lt hi])), e1]
        · have hset : (l.set j y)[m / k]? = some l[m / k] := by rw [List.getElem?_set_ne (fun h => hjm h.symm)]; exact hxq
          have e2 := flat_get hf hset hur
          rw [em] at e2
          rw [e2, List.getElem?_set_ne, e1]
          intro h
          apply hjm
          rw [← h, Nat.mul_comm, Nat.mul_add_div hk0, Nat.div_eq_of_lt hi, Nat.add_zero]
      · rw [List.getElem?_eq_none (by rw [List.length_set, flat_len hf]; omega), List.getElem?_eq_none (by rw [flat_len hf, List.length_set]; omega)]
/-! ### Values, runs -/
variable {α : Type}
def one (enc : α → Value) : α → List Value := fun x => [enc x]
def two (enc : α → Value) : α × Int → List Value := fun p => [enc p.1, .int .i64 p.2]
theorem one_len (enc : α → Value) (x : α) : (one enc x).length = 1 := rfl
theorem two_len (enc : α → Value) (p : α × Int) : (two enc p).length = 2 := rfl
theorem one_cell {enc : α → Value} (h : ∀ x, (enc x).oneCell' = true) (x : α) : ∀ u ∈ one enc x, u.oneCell' = true := fun u hu => by
  simp [one] at hu; subst hu; exact h x
theorem two_cell {enc : α → Value} (h : ∀ x, (enc x).oneCell' = true) (p : α × Int) : ∀ u ∈ two enc p, u.oneCell' = true := fun u hu => by
  simp [two] at hu
  rcases hu with rfl | rfl
  · exact h p.1
  · rfl
theorem Lst.cell1 {enc : α → Value} {w : World} {a : Option Addr} {l : List α} (h : Lst (one enc) 1 w a l) {i : Nat} (hi : i < l.length) : ∃ g o, a = some ⟨g, o, none⟩ ∧ g < w.heap.size ∧ w.cell? ⟨g, o + i, none⟩ = some (enc l[i]) := by
  obtain ⟨g, o, e, hg, hc⟩ := h i l[i] (List.getElem?_eq_getElem hi)
  refine ⟨g, o, e, hg, ?_⟩
  have := hc 0 (enc l[i]) rfl
  rwa [Nat.mul_one, Nat.add_zero] at this
theorem Lst.cell2 {enc : α → Value} {w : World} {a : Option Addr} {l : List (α × Int)} (h : Lst (two enc) 2 w a l) {i : Nat} (hi : i < l.length) : ∃ g o, a = some ⟨g, o, none⟩ ∧ g < w.heap.size ∧ w.cell? ⟨g, o + i * 2, none⟩ = some (enc l[i].1) ∧ w.cell? ⟨g, o + i * 2 + 1, none⟩ = some (.int .i64 l[i].2) := by
  obtain ⟨g, o, e, hg, hc⟩ := h i l[i] (List.getElem?_eq_getElem hi)
  refine ⟨g, o, e, hg, ?_, ?_⟩
  · have := hc 0 (enc l[i].1) rfl
    rwa [Nat.add_zero] at this
  · exact hc 1 (.int .i64 l[i].2) rfl
/-- The N of the last run. -/
theorem OwnL.bump {enc : α → Value} {w : World} {B : Nat} {e : TypeId} {v : Value} {r : List (α × Int)} {x : α} {n : Int} (h : OwnL (two enc) 2 w B e v (r ++ [(x, n)])) :
    ∃ g c, v = .slice (some ⟨g, 0, none⟩) (r.length + 1) c ∧ B ≤ g ∧ g < w.heap.size ∧ r.length + 1 ≤ c ∧ w.cell? ⟨g, r.length * 2 + 1, none⟩ = some (.int .i64 n) ∧ w.frozen? ⟨g, r.length * 2 + 1, none⟩ = false ∧ ∀ m, OwnL (two enc) 2 (w.setCell ⟨g, r.length * 2 + 1, none⟩ (.int .i64 m)) B e v (r ++ [(x, m)]) := by
  have hj : (r ++ [(x, n)])[r.length]? = some (x, n) := by simp
  obtain ⟨g, c, hv, hB, hg, hc, hf, _⟩ := h.at (two_len enc) hj (i := 1) (by omega) (.int .i64 n) (x, n) rfl
  rw [List.length_append, List.length_singleton] at hv hc
  subst hv
  obtain ⟨a, c', hv, _, _, _, hl, _⟩ := h.form (two_len enc)
  simp only [Value.slice.injEq] at hv
  obtain ⟨rfl, _, rfl⟩ := hv
  obtain ⟨g', o', ea, _, hcl⟩ := hl _ _ hj
  cases ea
  have hcell := hcl 1 (.int .i64 n) rfl
  rw [Nat.zero_add] at hcell
  refine ⟨_, _, rfl, hB, hg, hc, hcell, hf, fun m => ?_⟩
  obtain ⟨g2, c2, hv2, _, _, _, _, ho⟩ := h.at (two_len enc) hj (i := 1) (by omega) (.int .i64 m) (x, m) rfl
  simp only [Value.slice.injEq, Option.some.injEq, Addr.mk.injEq, and_true] at hv2
  obtain ⟨rfl, _, rfl⟩ := hv2
  rw [List.set_append_right _ _ (Nat.le_refl _), Nat.sub_self] at ho
  exact ho
def encB8 (n : Nat) : Value := .int .u8 (n : Int)
theorem take_nextL {T U : List β} {i : Nat} (h : T.take i = U.take i) (hi : i < T.length) (hj : i < U.length) (e : T[i] = U[i]) : T.take (i + 1) = U.take (i + 1) := by
  rw [List.take_add_one, List.take_add_one, h, List.getElem?_eq_getElem hi, List.getElem?_eq_getElem hj, e]
/-- A list that was lent: twenty marks behind it. -/
def Lnt (f : β → List Value) (k : Nat) (e : TypeId) (w : World) (B b c : Nat) (l : List β) (m : β) : Prop := OwnL f k w B e (.slice (some ⟨b, 0, none⟩) (l.length + 20) c) (l ++ List.replicate 20 m)
theorem Lnt.le {f : β → List Value} {k : Nat} (hf : ∀ x, (f x).length = k) {e : TypeId} {w : World} {B b c : Nat} {l : List β} {m : β} (h : Lnt f k e w B b c l m) : B ≤ b ∧ b < w.heap.size ∧ l.length + 20 ≤ c := by
  obtain ⟨a, c', hv, hc, _, _, _, hx⟩ := OwnL.form hf h
  simp only [Value.slice.injEq] at hv
  obtain ⟨rfl, _, rfl⟩ := hv
  have := hx _ rfl
  rw [List.length_append, List.length_replicate] at hc
  exact ⟨this.1, this.2.1, hc⟩
theorem Lnt.all {f : β → List Value} {k : Nat} (hf : ∀ x, (f x).length = k) {e : TypeId} {w : World} {B b c : Nat} {l : List β} {m : β} (h : Lnt f k e w B b c l m) : Lst f k w (some ⟨b, 0, none⟩) (l ++ List.replicate 20 m) := by
  obtain ⟨a, c', hv, hc, _, _, hl, hx⟩ := OwnL.form hf h
  simp only [Value.slice.injEq] at hv
  obtain ⟨rfl, _, rfl⟩ := hv
  exact hl
theorem Lnt.lst {f : β → List Value} {k : Nat} (hf : ∀ x, (f x).length = k) {e : TypeId} {w : World} {B b c : Nat} {l : List β} {m : β} (h : Lnt f k e w B b c l m) : Lst f k w (some ⟨b, 0, none⟩) l := (h.all hf).begin
theorem Lnt.kept {f : β → List Value} {k : Nat} {e : TypeId} {w w' : World} {B b c : Nat} {l : List β} {m : β} (h : Lnt f k e w B b c l m) (hk : w'.heap[b]? = w.heap[b]?) : Lnt f k e w' B b c l m := OwnL.kept h fun g hg => by cases hg; exact hk
theorem Lnt.later {f : β → List Value} {k : Nat} (hf : ∀ x, (f x).length = k) {e : TypeId} {w w' : World} {B b c : Nat} {l : List β} {m : β} (h : Lnt f k e w B b c l m) (hb : Below w.heap.size w w') : Lnt f k e w' B b c l m := h.kept (hb.block b (h.le hf).2.1)
theorem Lnt.set {f : β → List Value} {k : Nat} (hf : ∀ x, (f x).length = k) {e : TypeId} {w : World} {B b c : Nat} {l : List β} {m : β} (h : Lnt f k e w B b c l m) {j i : Nat} {x : β} (hj : l[j]? = some x) (hi : i < k) (u : Value) (y : β) (hy : f y = (f x).set i u) :
    w.frozen? ⟨b, j * k + i, none⟩ = false ∧ Lnt f k e (w.setCell ⟨b, j * k + i, none⟩ u) B b c (l.set j y) m := by
  have hjl : j < l.length := (List.getElem?_eq_some_iff.1 hj).1
  obtain ⟨g, c', hv, _, _, _, hfz, ho⟩ := OwnL.at hf h (j := j) (x := x) (by rw [List.getElem?_append_left hjl]; exact hj) hi u y hy
  simp only [Value.slice.injEq, Option.some.injEq, Addr.mk.injEq, and_true] at hv
  obtain ⟨rfl, _, rfl⟩ := hv
  refine ⟨hfz, ?_⟩
  unfold Lnt
  rw [List.length_set]
  rw [List.set_append_left _ _ hjl] at ho
  exact ho
end
end Go.Proofs.YtlidolocibfbgaaGreatDoor

/-
  alike: == of two values, behind a recover that finds nothing.
-/
namespace Go.Proofs.YtlidolocibfbgaaGreatDoor
open Go.RowKit

set_option maxRecDepth 4000 in
theorem alike_idleInt (w : World) :
    CallsD Tryz.prog 284 #[] .returning w fun e u' w' => e = .returned (.tuple #[]) ∧ u' = .returning ∧ w' = w := by
  refine callsD_of_wpS Tryz.func284 rfl fun c₀ cs hu => ?_
  apply wpS_region
  simp [wpOpsS, go_sem, recoverD, hu, Tryz.ntmps284]
  cases c₀
  simp_all [bodyPostS, results, Tryz.results284]
set_option maxRecDepth 4000 in
set_option maxHeartbeats 1000000 in
theorem alikeInt (x y : Int) (w : World) :
    Calls Tryz.prog 254 #[(Value.int .i64) x, (Value.int .i64) y] w fun e w' => e = .returned (.bool (decide (x = y))) ∧ w' = w := by
  go_enter_defers Tryz.func254, Tryz.ntmps254
  go_wp2_with fail
  refine leaves_cons (f := 284) (args := #[]) (by simp) (by simp [go_sem]) ?_
  refine (alike_idleInt w).mono ?_
  rintro e u' w4 ⟨rfl, rfl, rfl⟩
  exact ⟨_, results_tmp rfl _ _ _, rfl, rfl⟩
end Go.Proofs.YtlidolocibfbgaaGreatDoor

/-
  begins, beginnings, Fold.
-/
namespace Go.Proofs.YtlidolocibfbgaaGreatDoor
open Go.ChangeShapes Go.WideShapes Go.ChangeAt Go.RowKit Rn

/-- Values in memory; runs in memory. -/
abbrev VlsInt (w : World) (a : Option Addr) (l : List Int) : Prop := Lst (one (Value.int .i64)) 1 w a l
abbrev RnsInt (w : World) (a : Option Addr) (l : List (Int × Int)) : Prop := Lst (two (Value.int .i64)) 2 w a l
abbrev OwnRInt (w : World) (B : Nat) (v : Value) (l : List (Int × Int)) : Prop := OwnL (two (Value.int .i64)) 2 w B 157 v l
theorem infoRInt : (Tryz.prog.info? 157).map (fun i => (i.zero, i.size, i.bytes)) = some (some (.agg #[(Value.int .i64 0), .int .i64 0]), 2, 16) := by kernel_rfl
set_option maxRecDepth 4000 in
set_option maxHeartbeats 1000000 in
theorem beginsInt (a : Option Addr) (l : List Int) (c : Nat) (i : Nat) (w : World) (hA : VlsInt w a l) (hi : i < l.length) (hn : l.length ≤ 140737488355328) :
    Calls Tryz.prog 292 #[.slice a l.length c, .int .i64 (i : Int)] w fun e w' => e = .returned (.bool (decide (beg l i))) ∧ ∃ j, w' = w.drewN j := by
  obtain ⟨g, o, rfl, _, k1⟩ := hA.cell1 hi
  by_cases h0 : i = 0
  · have hd : decide (beg l i) = true := decide_eq_true (.inl h0)
    rw [hd]
    subst h0
    clear hA k1
    go_enter Tryz.func292, Tryz.ntmps292
    go_wp2_with fail
    go_quiet (fail)
    go_wp2_with fail
    go_ret
    exact ⟨rfl, _, rfl⟩
  · obtain ⟨j, rfl⟩ : ∃ j, i = j + 1 := ⟨i - 1, by omega⟩
    obtain ⟨g2, o2, e2, _, k2⟩ := hA.cell1 (show j < l.length by omega)
    cases e2
    have hb : decide (beg l (j + 1)) = !decide (l[j] = l[j + 1]) := by
      rw [← decide_not]
      apply decide_eq_decide.2
      unfold beg
      rw [show j + 1 - 1 = j by omega, List.getElem?_eq_getElem (show j < l.length by omega), List.getElem?_eq_getElem hi]
      simp
    rw [hb]
    have HAl := hid (alikeInt l[j] l[j + 1])
    clear hA hb
    generalize l[j] = x at *
    generalize l[j + 1] = y at *
    have hd : (((j + 1 : Nat) : Int) == 0) = false := by simp; omega
    have hj1 : ((j + 1 : Nat) : Int) - 1 = (j : Int) := by omega
    have hi1 : (j : Int) < (l.length : Int) := by omega
    have hi2 : ((j + 1 : Nat) : Int) < (l.length : Int) := by omega
    obtain ⟨i, hie⟩ : ∃ i, j + 1 = i := ⟨_, rfl⟩
    rw [hie] at k1 hd hj1 hi2 ⊢
    clear hie hi h0
    go_enter Tryz.func292, Tryz.ntmps292
    go_wp2_with fail
    go_quiet ((go_at_call 254; exact Calls.quiet_of_same (HAl.out _)))
    go_wp2_with fail
    go_ret
    exact ⟨rfl, _, rfl⟩
set_option maxRecDepth 4000 in
set_option maxHeartbeats 1000000 in
theorem beginningsInt (a : Option Addr) (l : List Int) (c : Nat) (w : World) (hA : VlsInt w a l) (hn : l.length ≤ 140737488355328) :
    Calls Tryz.prog 291 #[.slice a l.length c] w fun e w' => e = .returned (.int .i64 ((foldR l).length : Int)) ∧ ∃ j, w' = w.drewN j := by
  have HA := hid hA
  clear hA
  go_enter Tryz.func291, Tryz.ntmps291
  go_wp2_with fail
  go_loopw [3, 7] (fun x y wr => ∃ i m : Nat, i ≤ l.length ∧ y = .int .i64 (i : Int) ∧ x = .int .i64 ((foldR (l.take i)).length : Int) ∧ wr = w.drewN m) (fun _ y _ => l.length - (intOf y).toNat)
  case atStart => exact ⟨0, 0, Nat.zero_le _, rfl, rfl, rfl⟩
  case round =>
    obtain ⟨i, m, hi, rfl, rfl, rfl⟩ := hrel
    by_cases hlt : i < l.length
    · have hii : (i : Int) < (l.length : Int) := by omega
      have HB := hid (beginsInt a l c i (w.drewN m) (HA.out.later (below_drewN (Below.refl _ w) m)) hlt hn)
      have hF := fold_take_len hlt
      have hF2 := fold_take_le (l := l) (i + 1)
      have hF3 := fold_len l
      by_cases hb : beg l i
      · rw [if_pos hb] at hF
        rw [decide_eq_true hb] at HB
        have HF := hid hF
        have hq0 := hF2
        rw [hF] at hq0
        generalize (foldR (l.take i)).length = q at *
        have hq : q + 1 ≤ 140737488355328 := by omega
        clear hF hF2 hF3 hb hq0
        go_wp2_with (go_at_call 292; refine HB.out.mono ?_; rintro e w2 ⟨rfl, j, hw2⟩; subst w2)
        refine ⟨⟨i + 1, m + j, by omega, by go_num, ?_, by simp⟩, by simp [intOf]; omega⟩
        rw [HF.out]; go_num
      · rw [if_neg hb] at hF
        rw [decide_eq_false hb] at HB
        have HF := hid hF
        have hq0 := hF2
        rw [hF] at hq0
        generalize (foldR (l.take i)).length = q at *
        have hq : q ≤ 140737488355328 := by omega
        clear hF hF2 hF3 hb hq0
        go_wp2_with (go_at_call 292; refine HB.out.mono ?_; rintro e w2 ⟨rfl, j, hw2⟩; subst w2)
        refine ⟨⟨i + 1, m + j, by omega, by go_num, ?_, by simp⟩, by simp [intOf]; omega⟩
        rw [HF.out]; go_num
    · obtain rfl : i = l.length := by omega
      rw [List.take_length]
      go_wp2_with fail
      go_ret
      exact ⟨rfl, m, rfl⟩
theorem makeRInt (w : World) (n : Nat) (hn : n * 16 ≤ 140737488355328) : (Instr.makeSlice 104 (.int .i64 0) (.int .i64 (n : Int))).run Tryz.prog w = .ok (.slice (some ⟨w.heap.size, 0, none⟩) 0 n) (w.alloc (.cells (madeCells #[(Value.int .i64 0), .int .i64 0] (n * 2)) 157)) := by
  obtain ⟨i0, hi, hz0, hz1, hz2⟩ := info_parts infoRInt
  have h := run_make (P := Tryz.prog) w 104 157 i0 (.agg #[(Value.int .i64 0), .int .i64 0]) Tryz.underlying104 hi hz0 .i64 .i64 0 (n : Int) (by omega) (by omega) (by rw [hz2]; omega) (by omega)
  rw [hz1, show (n : Int).toNat = n by omega] at h
  exact h
theorem encCInt (x : Int) : ((Value.int .i64) x).oneCell' = true := rfl
/-- append of one run. -/
theorem run_oneRInt {w : World} {B : Nat} {v : Value} {r : List (Int × Int)} (ho : OwnRInt w B v r) (hb : (r.length + 1) * 16 ≤ 140737488355328) (hB : B ≤ w.heap.size) (x : Int) (n : Int) :
    ∃ g c w', (Builtin.append_ #[104, 104] 104 #[v, .slice (some ⟨w.heap.size, 0, none⟩) 1 1]).run Tryz.prog (w.alloc (.cells #[(Value.int .i64) x, .int .i64 n] 157)) = .ok (.slice (some ⟨g, 0, none⟩) (r.length + 1) c) w' ∧ OwnRInt w' B (.slice (some ⟨g, 0, none⟩) (r.length + 1) c) (r ++ [(x, n)]) ∧ Below B w w' := by
  obtain ⟨g, c, w', h1, h2, h3, _⟩ := lst_one (two_len (Value.int .i64)) (by omega) (two_cell encCInt) (t := 104) (ty := 104) Tryz.underlying104 infoRInt rfl ho hb (by omega) hB (x, n) #[(Value.int .i64) x, .int .i64 n] rfl
  exact ⟨g, c, w', h1, h2, h3⟩
set_option maxRecDepth 4000 in
set_option maxHeartbeats 1000000 in
theorem foldInt (a : Option Addr) (l : List Int) (c : Nat) (w : World) (hA : VlsInt w a l) (hn : l.length * 16 ≤ 140737488355328) :
    Calls Tryz.prog 270 #[.slice a l.length c] w fun e w' => ∃ v, e = .returned v ∧ OwnRInt w' w.heap.size v (foldR l) ∧ Below w.heap.size w w' := by
  have HA := hid hA
  have HB := hid (beginningsInt a l c w hA (by omega))
  have hF := fold_len l
  have hmk := fun W => makeRInt W (foldR l).length (by omega)
  have hF2 := fun i => fold_take_le (l := l) i
  have HM : ∀ j, Hid (OwnRInt ((w.drewN j).alloc (.cells (madeCells #[(Value.int .i64 0), .int .i64 0] ((foldR l).length * 2)) 157)) w.heap.size (.slice (some ⟨w.heap.size, 0, none⟩) 0 (foldR l).length) (foldR (l.take 0))) := fun j => OwnL.made _ (Nat.le_refl _) (by simp [maxLen]; omega)
  have HQ := hid (fun i => Nat.le_trans (hF2 i) hF)
  clear hA hF2
  generalize hq : (foldR l).length = q at *
  have hqq : q ≤ 140737488355328 := by omega
  clear hF
  go_enter Tryz.func270, Tryz.ntmps270
  go_wp2_with (go_at_call 291; refine HB.out.mono ?_; rintro e w2 ⟨rfl, j, hw2⟩; subst w2)
  have hb1 := (below_drewN (Below.refl w.heap.size w) j).alloc (Nat.le_refl _) (.cells (madeCells #[(Value.int .i64 0), .int .i64 0] (q * 2)) 157)
  go_loopw [3, 11] (fun x y wr => ∃ i : Nat, i ≤ l.length ∧ y = .int .i64 (i : Int) ∧ Hid (OwnRInt wr w.heap.size x (foldR (l.take i))) ∧ Hid (Below w.heap.size w wr)) (fun _ y _ => l.length - (intOf y).toNat)
  case atStart => exact ⟨0, Nat.zero_le _, rfl, HM j, hb1⟩
  case round =>
    obtain ⟨i, hi, rfl, HO, HBl⟩ := hrel
    rename World => wr
    by_cases hlt : i < l.length
    · have hii : (i : Int) < (l.length : Int) := by omega
      have hAr := Lst.later HA.out HBl.out
      have HBg := hid (beginsInt a l c i wr hAr hlt (by omega))
      obtain ⟨g, o, rfl, _, k1⟩ := hAr.cell1 hlt
      have hv : l[i]? = some l[i] := List.getElem?_eq_getElem hlt
      have hL := HQ.out i
      clear hAr
      by_cases hb : beg l i
      · have HE := hid (fold_beg hv hb)
        have hL2 := HQ.out (i + 1)
        rw [HE.out, List.length_append, List.length_singleton] at hL2
        rw [decide_eq_true hb] at HBg
        clear hb hv
        generalize l[i] = x0 at *
        generalize foldR (l.take i) = r at *
        have hr1 : r.length ≤ 140737488355328 := by omega
        go_wp2_with (first
          | (go_at_call 292
             refine HBg.out.mono ?_
             rintro e w2 ⟨rfl, j2, hw2⟩
             subst w2
             obtain ⟨g3, c3, w3, R3, H3, B3⟩ := run_oneRInt (w := wr.drewN j2) (r := r) (OwnL.later HO.out (below_drewN (Below.refl _ wr) j2)) (by omega) HBl.out.size x0 0
             obtain ⟨g4, c4, e4, hg1, hg2, hc4, k4, f4, H4⟩ := H3.bump
             cases e4
             have HH := hid H4
             have HB3 : Hid (Below w.heap.size w w3) := (below_drewN HBl.out j2).trans B3
             have HG := hid hg1
             have hr2 : (r.length : Int) + 1 - 1 = (r.length : Int) := by omega
             rw [show (wr.drewN j2).heap.size = wr.heap.size from rfl] at R3
             have R3' := hid R3
             clear H3 H4 B3 hg1 hg2 R3 HBg)
          | (at_builtin; refine wpList_app (by rfl) (by rfl) R3'.out ?_; clear R3'))
        exact ⟨⟨i + 1, by omega, by go_num, HE.out ▸ HH.out _, HB3.out.setCell HG.out _⟩, by simp [intOf]; omega⟩
      · obtain ⟨s, n, E1, E2⟩ := fold_nbeg hv hb
        rw [decide_eq_false hb] at HBg
        clear hb hv
        have hn1 := (fold_le (show (l[i], n) ∈ foldR (l.take i) by rw [E1]; simp)).2
        rw [List.length_take] at hn1
        dsimp only at hn1
        have hn2 : n + 1 ≤ 140737488355328 := by omega
        have hn3 := (fold_le (show (l[i], n) ∈ foldR (l.take i) by rw [E1]; simp)).1
        dsimp only at hn3
        rw [E1] at HO hL
        have HE2 := hid E2
        clear E1 E2 hn1
        generalize l[i] = x0 at *
        obtain ⟨g4, c4, e4, hg1, hg2, hc4, k4, f4, H4⟩ := OwnL.bump (OwnL.later HO.out (below_drewN (Below.refl _ wr) 0))
        obtain ⟨s0, hs0⟩ : ∃ s0, s.length = s0 := ⟨_, rfl⟩
        have hs1 : s0 ≤ 140737488355328 := by rw [List.length_append, hs0] at hL; omega
        rw [hs0] at e4 hc4 k4 f4 H4
        subst e4
        have HH : Hid (∀ j m, OwnRInt ((wr.drewN j).setCell ⟨g4, s0 * 2 + 1, none⟩ (.int .i64 m)) w.heap.size (.slice (some ⟨g4, 0, none⟩) (s0 + 1) c4) (s ++ [(x0, m)])) := fun j m => (H4 m).kept fun _ _ => rfl
        have HG := hid hg1
        have hr2 : (s0 : Int) + 1 - 1 = (s0 : Int) := by omega
        have k4' : ∀ j, (wr.drewN j).cell? ⟨g4, s0 * 2 + 1, none⟩ = some (.int .i64 n) := fun _ => k4
        have f4' : ∀ j, (wr.drewN j).frozen? ⟨g4, s0 * 2 + 1, none⟩ = false := fun _ => f4
        clear H4 hg1 hg2 HO k4 f4
        go_wp2_with (go_at_call 292; refine HBg.out.mono ?_; rintro e w2 ⟨rfl, j2, hw2⟩; subst w2; have k5 := k4' j2; have f5 := f4' j2; clear k4' f4')
        exact ⟨⟨i + 1, by omega, by go_num, by rw [HE2.out]; exact HH.out _ _, (below_drewN HBl.out _).setCell HG.out _⟩, by simp [intOf]; omega⟩
    · obtain rfl : i = l.length := by omega
      rw [List.take_length] at HO
      go_wp2_with fail
      go_ret
      exact ⟨_, rfl, HO.out, HBl.out⟩
end Go.Proofs.YtlidolocibfbgaaGreatDoor

/-
  The bytes of runs, as mathematics.
-/
namespace Go.Proofs.YtlidolocibfbgaaGreatDoor.Rn
open Cu

section
variable {α β : Type}
/-- A run's bytes; those of all of them. -/
def body (ev : α → List Nat) (r : List (α × Int)) : List Nat := r.flatMap fun p => uv p.2.toNat ++ ev p.1
def encR (ev : α → List Nat) (r : List (α × Int)) : List Nat := uv r.length ++ body ev r
def evI (v : Int) : List Nat := uv (fold v)
def evS (s : ByteArray) : List Nat := encB (bs s)
theorem body_nil (ev : α → List Nat) : body ev [] = [] := rfl
theorem body_cons (ev : α → List Nat) (p : α × Int) (r : List (α × Int)) : body ev (p :: r) = uv p.2.toNat ++ ev p.1 ++ body ev r := by simp [body]
theorem body_append (ev : α → List Nat) (r s : List (α × Int)) : body ev (r ++ s) = body ev r ++ body ev s := by simp [body]
theorem body_map (ev : β → List Nat) (f : α → β) (r : List (α × Int)) : body ev (mapR f r) = body (fun x => ev (f x)) r := by
  induction r with
  | nil => rfl
  | cons p r ih =>
    have e : mapR f (p :: r) = (f p.1, p.2) :: mapR f r := rfl
    rw [e, body_cons, body_cons, ih]
theorem body_take (ev : α → List Nat) {r : List (α × Int)} {i : Nat} (hi : i < r.length) : body ev (r.take (i + 1)) = body ev (r.take i) ++ (uv r[i].2.toNat ++ ev r[i].1) := by
  rw [List.take_add_one, List.getElem?_eq_getElem hi, body_append]
  simp [body]
theorem body_take_le (ev : α → List Nat) (r : List (α × Int)) (i : Nat) : (body ev (r.take i)).length ≤ (body ev r).length := by
  conv => rhs; rw [← List.take_append_drop i r, body_append, List.length_append]
  omega
/-- What is put up to the run number i. -/
def encP (ev : α → List Nat) (r : List (α × Int)) (i : Nat) : List Nat := uv r.length ++ body ev (r.take i)
theorem encP_zero (ev : α → List Nat) (r : List (α × Int)) : encP ev r 0 = uv r.length := by simp [encP, body_nil]
theorem encP_all (ev : α → List Nat) (r : List (α × Int)) : encP ev r r.length = encR ev r := by unfold encP encR; rw [List.take_length]
theorem encP_next (ev : α → List Nat) {r : List (α × Int)} {i : Nat} (hi : i < r.length) : encP ev r (i + 1) = encP ev r i ++ (uv r[i].2.toNat ++ ev r[i].1) := by
  unfold encP; rw [body_take ev hi, List.append_assoc]
theorem encP_le (ev : α → List Nat) (r : List (α × Int)) (i : Nat) : (encP ev r i).length ≤ (encR ev r).length := by
  unfold encP encR
  have := body_take_le ev r i
  rw [List.length_append, List.length_append]; omega
theorem encI_len_le (r : List (Int × Int)) : (encR evI r).length ≤ 10 + 20 * r.length := by
  unfold encR
  have h : (body evI r).length ≤ 20 * r.length := by
    induction r with
    | nil => simp [body_nil]
    | cons p r ih =>
      rw [body_cons, List.length_append, List.length_append, List.length_cons]
      have h1 := uv_le p.2.toNat
      have h2 : (evI p.1).length ≤ 10 := uv_le (fold p.1)
      omega
  have := uv_le r.length
  rw [List.length_append]; omega
end
end Go.Proofs.YtlidolocibfbgaaGreatDoor.Rn

/-
  PutInts, PutTexts.
-/
namespace Go.Proofs.YtlidolocibfbgaaGreatDoor
open Go.ChangeShapes Go.WideShapes Go.ChangeAt Go.RowKit Rn Cu

/-- append of bytes, and what it may have written. -/
theorem run_appG {w : World} {B : Nat} {v : Value} {l r : List Nat} {a0 : Option Addr} {c : Nat} (ho : Own w B 5 .u8 v l.length (ofL l)) (hN : Bytes w a0 r) (ha : a0 = none → r.length = 0 ∧ c = 0) (hb : l.length + r.length ≤ 140737488355328) (hB : B ≤ w.heap.size) :
    ∃ v' w', (Builtin.append_ #[81, 81] 81 #[v, .slice a0 r.length c]).run Tryz.prog w = .ok v' w' ∧ Own w' B 5 .u8 v' (l ++ r).length (ofL (l ++ r)) ∧ (∀ b0, Below B b0 w → Below B b0 w') ∧ w.grownBy w' v.ownBlock := by
  obtain ⟨v', w', hr, h1, h2, _⟩ := run_many (t := 81) (ty := 81) (c := c) Tryz.underlying81 infoU8 ho hN ha (by omega) (by omega) hB
  refine ⟨v', w', hr, ?_, fun b0 h => h.grown h2 hB (fun j hj => (ho.lt j hj).1), h2⟩
  rw [List.length_append]
  exact h1.ext fun j _ => (ofL_append l r j).symm
/-- An append whose run is known, in a region that draws. -/
theorem oper_appP {a : Act} {w : World} {K : Act → World → Prop} {Q : Exit → Act → World → Prop} {d : Option Nat} {s x : Operand} {t ty : TypeId} {pos : String} {aft : Array Edge} {gd : Option (Nat × Bool)}
    {v u v' : Value} {w' : World} (hs : a.eval s = v) (hx : a.eval x = u)
    (hr : (Builtin.append_ #[t, t] ty #[v, u]).run Tryz.prog w = .ok v' w') (h : K (a.put d v') w') :
    Oper.wp Tryz.prog { dst := d, op := .call { callee := .builtin .append, args := #[s, x], argTypes := #[t, t] }, type := ty, pos := pos, after := aft, guard := gd } a w K Q := by
  unfold Oper.wp execOp
  simp only [resolve, invoke, builtin, Sem.run_bind, Sem.run_pure, Result.andThen_ok, List.map_toArray, List.map_cons, List.map_nil, hs, hx, hr]
  exact h

set_option maxRecDepth 4000 in
set_option maxHeartbeats 2000000 in
theorem putInt (a : Option Addr) (l : List Int) (c : Nat) (w : World) (hA : VlsInt w a l) (hn : l.length * 16 ≤ 140737488355328) (hb : (encR evI (foldR l)).length + 20 ≤ 140737488355328) (hin : ∀ x ∈ l, -9223372036854775808 ≤ x ∧ x ≤ 9223372036854775807) :
    Calls Tryz.prog 233 #[.slice a l.length c, .func (.func 234) #[] #[]] w fun e w' => ∃ v, e = .returned v ∧ NewL w w' v (encR evI (foldR l)) := by
  have HF := hid (foldInt a l c w hA hn)
  have hfl := fold_len l
  have HLE : Hid (∀ p ∈ foldR l, 1 ≤ p.2 ∧ p.2 ≤ (l.length : Int) ∧ -9223372036854775808 ≤ p.1 ∧ p.1 ≤ 9223372036854775807) := fun p hp => ⟨(fold_le hp).1, (fold_le hp).2, hin p.1 (by have := fold_mem hp; exact this)⟩
  have hll : l.length ≤ 140737488355328 := by omega
  generalize foldR l = r at *
  have hrl : r.length ≤ 140737488355328 := by omega
  clear hA hn hfl hin
  go_enter Tryz.func233, Tryz.ntmps233
  go_wp2_with (first
    | (go_at_call 270
       refine HF.out.mono ?_
       rintro e w1 ⟨v1, rfl, h1, hb1⟩
       obtain ⟨a1, c1, rfl, -, -, hz1, hL1, -⟩ := h1.form (two_len (Value.int .i64))
       have HU := hid (pPutUvarint none [] 0 r.length w1 (fun j hj => by simp at hj) (fun _ => ⟨rfl, rfl⟩) (by omega) (by simp))
       rw [List.nil_append] at HU
       have HL := hid hL1
       have HB1 := hid hb1
       clear h1 hb1 hL1 hz1 HF)
    | (go_at_call 153
       refine HU.out.mono ?_
       rintro e w2 ⟨v2, rfl, h2⟩
       have H2 : Hid (NewL w1 w2 v2 (encP evI r 0)) := by rw [encP_zero]; exact h2
       clear h2 HU))
  go_loopw [6, 17] (fun x y wr => ∃ i : Nat, i ≤ r.length ∧ y = .int .i64 (i : Int) ∧ Hid (NewL w1 wr x (encP evI r i))) (fun _ y _ => r.length - (intOf y).toNat)
  case atStart => exact ⟨0, Nat.zero_le _, rfl, H2⟩
  case round =>
    clear H2
    obtain ⟨i, hi, rfl, HO⟩ := hrel
    rename World => wr
    by_cases hlt : i < r.length
    · have hii : (i : Int) < (r.length : Int) := by omega
      obtain ⟨g, o, rfl, hgw, k1, k2⟩ := (HL.out.later HO.out.2).cell2 hlt
      have hp := HLE.out _ (List.getElem_mem hlt)
      have HE := hid (encP_next evI hlt)
      have hel := encP_le evI r (i + 1)
      rw [HE.out] at hel
      generalize r[i].1 = x at *
      obtain ⟨n, hn⟩ : ∃ n : Nat, r[i].2 = (n : Int) := ⟨r[i].2.toNat, by omega⟩
      rw [hn] at k2 hp HE hel
      rw [show ((n : Int)).toNat = n by omega] at HE hel
      clear hn
      go_wp2_with fail
      obtain ⟨bx, hbx⟩ : ∃ bx, wr.heap.size = bx := ⟨_, rfl⟩
      have hb0 : Below wr.heap.size wr (wr.alloc (.cells #[(Value.int .i64) x, .int .i64 (n : Int)] 157)) := below_new wr _
      have hbox : (wr.alloc (.cells #[(Value.int .i64) x, .int .i64 (n : Int)] 157)).heap[wr.heap.size]? = some (.cells #[(Value.int .i64) x, .int .i64 (n : Int)] 157 (0, 0)) := heap_alloc_new wr _
      have hsz : (wr.alloc (.cells #[(Value.int .i64) x, .int .i64 (n : Int)] 157)).heap.size = wr.heap.size + 1 := by simp
      rw [hbx] at hbox ⊢
      obtain ⟨W0, hW0⟩ : ∃ W0, wr.alloc (.cells #[(Value.int .i64) x, .int .i64 (n : Int)] 157) = W0 := ⟨_, rfl⟩
      rw [hW0] at hb0 hbox hsz ⊢
      have hbl : bx < W0.heap.size := by omega
      have hK : Hid (∀ W, Below W0.heap.size W0 W → W.cell? ⟨bx, 0, none⟩ = some ((Value.int .i64) x) ∧ W.cell? ⟨bx, 1, none⟩ = some (.int .i64 (n : Int))) := fun W hW => by
        have hr := (hW.block bx hbl).trans hbox
        exact ⟨by rw [cell_of_row _ _ _ _ _ _ hr]; rfl, by rw [cell_of_row _ _ _ _ _ _ hr]; rfl⟩
      have hbd : Below W0.heap.size W0 W0.drew := below_drewN (Below.refl _ W0) 1
      have HK0 := hid (hK.out W0.drew hbd)
      have hwn : IntKind.u64.wrap (n : Int) = (n : Int) := by rw [IntKind.wrap_u64]; omega
      have HUn := hid (pPutUvarint none [] 0 n W0.drew (fun j hj => by simp at hj) (fun _ => ⟨rfl, rfl⟩) (by omega) (by simp))
      rw [List.nil_append] at HUn
      have hun := uv_le n
      rw [List.length_append, List.length_append] at hel
      have HBd := hid hbd
      have HO0 : Hid (NewL w1 W0 u6 (encP evI r i)) := ⟨HO.out.1.later hb0, below_up HO.out.2 hb0⟩
      have HNB : Hid (u6.ownBlock ≠ some bx) := fun e => by have := (HO.out.1.lt bx e).2; omega
      have HBL := hid hbl
      have hp1 := hp.2.2
      have hel2 : (encP evI r i).length + ((uv n).length + (evI x).length) + 20 ≤ 140737488355328 := by omega
      have HEL2 : Hid ((encP evI r i).length + (uv n ++ evI x).length ≤ 140737488355328) := by show _ ≤ _; rw [List.length_append]; omega
      have HP1 := hid hp1
      clear hb0 hbox hsz hW0 hbl hbd hp hp1 hel hel2 k1 k2 HO hbx
      go_region_held3 (fun W => W.cell? ⟨bx, 0, none⟩ = some ((Value.int .i64) x) ∧ W.cell? ⟨bx, 1, none⟩ = some (.int .i64 (n : Int))) (first | exact HK0 | exact HK3 | exact HK4 | exact HK5) (first
        | (go_at_call 153
           refine HUn.out.mono ?_
           rintro e w3 ⟨v3, rfl, h3⟩
           obtain ⟨a3, c3, rfl, hz3, hB3⟩ := h3.form
           have HPV := hid (pPutVarint a3 (uv n) c3 x w3 hB3 hz3 HP1.out.1 HP1.out.2 (by omega))
           have HB3 : Hid (Below W0.heap.size W0 w3) := below_up HBd.out h3.2
           have HK3 := hid (hK.out w3 HB3.out)
           clear h3 hz3 hB3 HUn)
        | (go_at_call 234
           refine HPV.out.mono ?_
           rintro e w4 ⟨v4, rfl, h4⟩
           obtain ⟨a4, c4, rfl, hz4, hB4⟩ := h4.form
           have HB4 : Hid (Below W0.heap.size W0 w4) := below_up HB3.out h4.2
           obtain ⟨v5, w5, R5, o5, b5, g5⟩ := run_appG (c := c4) (HO0.out.1.later HB4.out) hB4 hz4 HEL2.out (Nat.le_trans HO0.out.2.size HB4.out.size)
           rw [List.length_append] at R5
           have R5' := hid R5
           have O5 : Hid (NewL w1 w5 v5 (encP evI r (i + 1))) := by rw [HE.out]; exact ⟨o5, b5 w1 (below_up HO0.out.2 HB4.out)⟩
           have k45 : w5.heap[bx]? = w4.heap[bx]? := g5.block bx (Nat.lt_of_lt_of_le HBL.out HB4.out.size) (fun e => HNB.out e.symm)
           have HK5 : Hid (w5.cell? ⟨bx, 0, none⟩ = some ((Value.int .i64) x) ∧ w5.cell? ⟨bx, 1, none⟩ = some (.int .i64 (n : Int))) := by
             have h7 := hK.out w4 HB4.out
             exact ⟨(World.cell?_of_block (a := ⟨bx, 0, none⟩) k45).trans h7.1, (World.cell?_of_block (a := ⟨bx, 1, none⟩) k45).trans h7.2⟩
           have HK4 := hid (hK.out w4 HB4.out)
           clear h4 hz4 hB4 HPV R5 o5 b5 g5 k45)
        | (rw [if_pos (by rfl)]; refine oper_appP (by rfl) (by rfl) R5'.out ?_))
      all_goals go_wp2_with fail
      all_goals exact ⟨⟨i + 1, by omega, by go_num, O5⟩, by simp [intOf]; omega⟩
    · obtain rfl : i = r.length := by omega
      rw [encP_all] at HO
      go_wp2_with fail
      go_ret
      exact ⟨_, rfl, HO.out.up HB1.out⟩
set_option maxRecDepth 4000 in
set_option maxHeartbeats 1000000 in
theorem putInts (a : Option Addr) (l : List Int) (c : Nat) (w : World) (hA : VlsInt w a l) (hn : l.length * 16 ≤ 140737488355328) (hb : (encR evI (foldR l)).length + 20 ≤ 140737488355328) (hin : ∀ x ∈ l, -9223372036854775808 ≤ x ∧ x ≤ 9223372036854775807) :
    Calls Tryz.prog 193 #[.slice a l.length c] w fun e w' => ∃ v, e = .returned v ∧ NewL w w' v (encR evI (foldR l)) := by
  have HP := hid (putInt a l c w hA hn hb hin)
  clear hA hn hb hin
  generalize encR evI (foldR l) = q at *
  go_enter Tryz.func193, Tryz.ntmps193
  go_wp2_with (go_at_call 233; refine HP.out.mono ?_; rintro e w2 ⟨v2, rfl, h2⟩)
  go_ret
  exact ⟨_, rfl, h2⟩
end Go.Proofs.YtlidolocibfbgaaGreatDoor

/-
  Reading runs, as mathematics.
-/
namespace Go.Proofs.YtlidolocibfbgaaGreatDoor.Rn
open Cu

/-- A number, a text, taken by a reader. -/
def decI (r : Rd) : Int × Rd := (unfold' r.uv.1, r.uv.2)
def decS (r : Rd) : ByteArray × Rd := (strL (r.block 65535).1, (r.block 65535).2)
section
variable {α : Type}
/-- The last run has that value. -/
def lastIs (acc : List (α × Int)) (v : α) : Prop := acc.getLast?.map Prod.fst = some v
theorem lastIs_nil (v : α) : ¬ lastIs ([] : List (α × Int)) v := by simp [lastIs]
theorem lastIs_snoc (s : List (α × Int)) (u v : α) (n : Int) : lastIs (s ++ [(u, n)]) v ↔ u = v := by simp [lastIs, List.getLast?_append]
end
section
variable {α : Type} [DecidableEq α]
instance (acc : List (α × Int)) (v : α) : Decidable (lastIs acc v) := by unfold lastIs; infer_instance
/-- So many runs more, m values being missing: the error, and the runs. -/
def readR (dec : Rd → α × Rd) : Nat → Rd → Nat → List (α × Int) → Nat × List (α × Int)
  | 0, r, m, acc => if 0 < m then (100, []) else if r.at' < r.l.length then (72, []) else (0, acc)
  | k + 1, r, m, acc =>
    if (dec r.uv.2).2.e ≠ 0 then ((dec r.uv.2).2.e, [])
    else if r.uv.1 < 1 ∨ m < r.uv.1 ∨ lastIs acc (dec r.uv.2).1 then (100, [])
    else readR dec k (dec r.uv.2).2 (m - r.uv.1) (acc ++ [((dec r.uv.2).1, (r.uv.1 : Int))])
/-- All of it. -/
def readT (dec : Rd → α × Rd) (l : List Nat) (n : Int) : Nat × List (α × Int) :=
  if n < 0 ∨ 16777216 < n then (2, []) else if (Rd.mk l 0 0).uv.2.e ≠ 0 then ((Rd.mk l 0 0).uv.2.e, []) else readR dec (Rd.mk l 0 0).uv.1 (Rd.mk l 0 0).uv.2 n.toNat []
theorem readR_zero (dec : Rd → α × Rd) (r : Rd) (m : Nat) (acc : List (α × Int)) : readR dec 0 r m acc = if 0 < m then (100, []) else if r.at' < r.l.length then (72, []) else (0, acc) := by rw [readR]
theorem readR_fault {dec : Rd → α × Rd} {k : Nat} {r : Rd} {m : Nat} {acc : List (α × Int)} (h : (dec r.uv.2).2.e ≠ 0) : readR dec (k + 1) r m acc = ((dec r.uv.2).2.e, []) := by rw [readR, if_pos h]
theorem readR_bad {dec : Rd → α × Rd} {k : Nat} {r : Rd} {m : Nat} {acc : List (α × Int)} (h : (dec r.uv.2).2.e = 0) (h2 : r.uv.1 < 1 ∨ m < r.uv.1 ∨ lastIs acc (dec r.uv.2).1) : readR dec (k + 1) r m acc = (100, []) := by rw [readR, if_neg (by simp [h]), if_pos h2]
theorem readR_on {dec : Rd → α × Rd} {k : Nat} {r : Rd} {m : Nat} {acc : List (α × Int)} (h : (dec r.uv.2).2.e = 0) (h2 : ¬ (r.uv.1 < 1 ∨ m < r.uv.1 ∨ lastIs acc (dec r.uv.2).1)) : readR dec (k + 1) r m acc = readR dec k (dec r.uv.2).2 (m - r.uv.1) (acc ++ [((dec r.uv.2).1, (r.uv.1 : Int))]) := by rw [readR, if_neg (by simp [h]), if_neg h2]
/-- Without an error there is the list; with one there is none. -/
theorem readR_none (dec : Rd → α × Rd) (k : Nat) (r : Rd) (m : Nat) (acc : List (α × Int)) : (readR dec k r m acc).1 ≠ 0 → (readR dec k r m acc).2 = [] := by
  induction k generalizing r m acc with
  | zero =>
    rw [readR_zero]
    split
    · simp
    · split <;> simp
  | succ k ih =>
    by_cases h : (dec r.uv.2).2.e = 0
    · by_cases h2 : r.uv.1 < 1 ∨ m < r.uv.1 ∨ lastIs acc (dec r.uv.2).1
      · rw [readR_bad h h2]; simp
      · rw [readR_on h h2]; exact ih _ _ _
    · rw [readR_fault h]; simp
end
end Go.Proofs.YtlidolocibfbgaaGreatDoor.Rn

/-
  Ints, Texts.
-/
namespace Go.Proofs.YtlidolocibfbgaaGreatDoor
open Go.ChangeShapes Go.WideShapes Go.ChangeAt Go.RowKit Rn Cu

theorem below_hitR {w a b : World} {g : Nat} (h : Below w.heap.size w a) (hh : Hit g a b) (hg : w.heap.size ≤ g) : Below w.heap.size w b :=
  ⟨hh.os.trans h.os, hh.tape.trans h.tape, hh.output.trans h.output, Nat.le_trans h.size hh.size, fun j hj => (hh.block j (Nat.lt_of_lt_of_le hj h.size) (by omega)).trans (h.block j hj)⟩
theorem ownL_hit {β : Type} {f : β → List Value} {k : Nat} {w w' : World} {B g : Nat} {e : TypeId} {v : Value} {l : List β} (h : OwnL f k w B e v l) (hg : g < B) (hh : Hit g w w') : OwnL f k w' B e v l :=
  h.kept fun j hj => hh.block j (h.lt j hj).2 (by have := (h.lt j hj).1; omega)
theorem OwnL.lastv {α : Type} {enc : α → Value} {w : World} {B : Nat} {e : TypeId} {v : Value} {r : List (α × Int)} {x : α} {n : Int} (h : OwnL (two enc) 2 w B e v (r ++ [(x, n)])) :
    ∃ g c, v = .slice (some ⟨g, 0, none⟩) (r.length + 1) c ∧ w.cell? ⟨g, r.length * 2, none⟩ = some (enc x) := by
  obtain ⟨g, c, hv, _⟩ := h.bump
  obtain ⟨a, c', hv2, _, _, _, hl, _⟩ := h.form (two_len enc)
  rw [hv] at hv2
  simp only [Value.slice.injEq] at hv2
  obtain ⟨rfl, _, rfl⟩ := hv2
  have hj : (r ++ [(x, n)])[r.length]? = some (x, n) := by simp
  obtain ⟨g', o', ea, _, hcl⟩ := hl _ _ hj
  cases ea
  have hcell := hcl 0 (enc x) rfl
  rw [Nat.zero_add, Nat.add_zero] at hcell
  exact ⟨_, _, hv, hcell⟩
theorem progRd_below {w w' : World} {lo hi g : Nat} {r : Rd} (h : ProgRd w lo hi g r) (hb : Below hi w w') : ProgRd w' lo hi g r := h.stay (fun j _ hj => hb.block j hj) hb.size
theorem min_three (x y z : Nat) (w : World) : (Builtin.min_ #[31, 31, 31] 31 #[.int .u64 (x : Int), .int .u64 (y : Int), .int .u64 (z : Int)]).run Tryz.prog w = .ok (.int .u64 ((min (min x y) z : Nat) : Int)) w := by
  rw [show ((min (min x y) z : Nat) : Int) = (if (z : Int) < (if (y : Int) < (x : Int) then (y : Int) else (x : Int)) then (z : Int) else (if (y : Int) < (x : Int) then (y : Int) else (x : Int))) by split <;> split at * <;> omega]
  rfl
theorem takeInt {w : World} {lo hi g : Nat} {r : Rd} (h : ProgRd w lo hi g r) : Calls Tryz.prog 217 #[.pointer (some ⟨g, 0, none⟩)] w fun x w' => x = .returned (.int .i64 (decI r).1) ∧ ProgRd w' lo hi g (decI r).2 ∧ Hit g w w' := pVarint h
theorem makeRUInt (w : World) (n : Nat) (hn : n ≤ 16777216) : (Instr.makeSlice 104 (.int .i64 0) (.int .u64 (n : Int))).run Tryz.prog w = .ok (.slice (some ⟨w.heap.size, 0, none⟩) 0 n) (w.alloc (.cells (madeCells #[(Value.int .i64 0), .int .i64 0] (n * 2)) 157)) := by
  obtain ⟨i0, hi, hz0, hz1, hz2⟩ := info_parts infoRInt
  have h := run_make (P := Tryz.prog) w 104 157 i0 (.agg #[(Value.int .i64 0), .int .i64 0]) Tryz.underlying104 hi hz0 .i64 .u64 0 (n : Int) (by omega) (by omega) (by rw [hz2]; omega) (by omega)
  rw [hz1, show (n : Int).toNat = n by omega] at h
  exact h
set_option maxRecDepth 4000 in
set_option maxHeartbeats 4000000 in
theorem readInt (a : Option Addr) (l : List Nat) (c : Nat) (n : Int) (w : World) (hA : Bytes w a l) (ha : a = none → l.length = 0 ∧ c = 0) (hl : ∀ x ∈ l, x < 256) (hn : l.length + 20 ≤ 140737488355328) (hn1 : -9223372036854775808 ≤ n) (hn2 : n ≤ 9223372036854775807) :
    Calls Tryz.prog 216 #[.slice a l.length c, .int .i64 n, .func (.func 217) #[] #[]] w fun e w' => ∃ v, e = .returned (.tuple #[v, .int .i64 ((readT decI l n).1 : Int)]) ∧ OwnRInt w' w.heap.size v (readT decI l n).2 ∧ Below w.heap.size w w' := by
  have HO := hid (pOpen a l c w hA ha hl hn)
  clear hA ha
  by_cases hr : n < 0 ∨ 16777216 < n
  · have HR : Hid (readT decI l n = (2, [])) := by show _ = _; unfold readT; rw [if_pos hr]
    by_cases hlow : n < 0
    · clear hr
      go_enter Tryz.func216, Tryz.ntmps216
      go_wp2_with fail
      go_ret2
      rw [HR.out]
      exact ⟨_, rfl, OwnL.nil _ _ _ _ _, Below.refl _ _⟩
    · have hhi : 16777216 < n := by omega
      clear hr
      go_enter Tryz.func216, Tryz.ntmps216
      go_wp2_with fail
      go_ret2
      rw [HR.out]
      exact ⟨_, rfl, OwnL.nil _ _ _ _ _, Below.refl _ _⟩
  · obtain ⟨N, rfl⟩ : ∃ N : Nat, n = (N : Int) := ⟨n.toNat, by omega⟩
    have hN : N ≤ 16777216 := by omega
    have HR : Hid (readT decI l (N : Int) = if (Rd.mk l 0 0).uv.2.e ≠ 0 then ((Rd.mk l 0 0).uv.2.e, []) else readR decI (Rd.mk l 0 0).uv.1 (Rd.mk l 0 0).uv.2 N []) := by
      show _ = _
      unfold readT
      rw [if_neg hr, show ((N : Int)).toNat = N by omega]
    have hmany := uv_top (ok_new hl)
    have HOK := hid (ok_new hl)
    clear hr hl
    have hNl : ¬ (N : Int) < 0 := by omega
    have hNh : ¬ (16777216 : Int) < (N : Int) := by omega
    have hNw : IntKind.u64.wrap (N : Int) = (N : Int) := by rw [IntKind.wrap_u64]; omega
    go_enter Tryz.func216, Tryz.ntmps216
    go_wp2_with fail
    refine HO.out.mono ?_
    rintro e w1 ⟨g, rfl, h1, hb1⟩
    have HU := hid (pUv h1)
    have HB1 := hid hb1
    have hgl := h1.glo
    have hgh := h1.ghi
    clear h1 hb1 HO
    obtain ⟨hi, hhi⟩ : ∃ hi, w1.heap.size = hi := ⟨_, rfl⟩
    rw [hhi] at HU hgh
    have HHI := hid hhi
    clear hhi
    generalize (Rd.mk l 0 0).uv = U at *
    go_wp2_with fail
    refine HU.out.mono ?_
    rintro e w2 ⟨rfl, h2, t2⟩
    have HF := hid (pFault h2)
    have HLf := hid (pLeft h2)
    have HP := hid h2
    have HB2 : Hid (Below w.heap.size w w2) := below_hitR HB1.out t2 hgl
    have hhi2 : hi ≤ w2.heap.size := h2.top
    clear h2 t2 HU HB1
    obtain ⟨many, r1⟩ := U
    dsimp only at *
    go_wp2_with fail
    refine HF.out.mono ?_
    rintro e w3 ⟨rfl, hw3⟩
    subst w3
    by_cases he : r1.e = 0
    · have he' : (r1.e : Int) = 0 := by omega
      rw [if_neg (by simp [he])] at HR
      rw [he']
      go_wp2_with fail
      refine HLf.out.mono ?_
      rintro e w3 ⟨rfl, hw3⟩
      subst w3
      clear HF HLf
      obtain ⟨lf, hlf⟩ : ∃ lf, Rd.left r1 = lf := ⟨_, rfl⟩
      have hlf2 : lf ≤ 140737488355328 := by
        have h5 := HP.out.len
        rw [← hlf]; unfold Rd.left; omega
      rw [hlf]
      clear hlf
      obtain ⟨q, hq⟩ : ∃ q, lf / 2 = q := ⟨_, rfl⟩
      have hq2 : (lf : Int).tdiv 2 = (q : Int) := by rw [← hq]; rfl
      have hq3 : (lf : Int) / 2 = (q : Int) := by omega
      have hq4 : IntKind.u64.wrap (q : Int) = (q : Int) := by rw [IntKind.wrap_u64]; omega
      have hq5 : q ≤ 140737488355328 := by omega
      obtain ⟨cap, hcap⟩ : ∃ cap, min (min many q) N = cap := ⟨_, rfl⟩
      have hmin := fun W => min_three many q N W
      rw [hcap] at hmin
      have hcap2 : cap ≤ 16777216 := by omega
      have hmk := fun W => makeRUInt W cap hcap2
      clear hq hcap
      go_wp2_with fail
      have HO0 : Hid (OwnRInt (w2.alloc (.cells (madeCells #[(Value.int .i64 0), .int .i64 0] (cap * 2)) 157)) hi (.slice (some ⟨w2.heap.size, 0, none⟩) 0 cap) []) := OwnL.made _ hhi2 (by simp [maxLen]; omega)
      have HP0 := hid (HP.out.later (below_new w2 (.cells (madeCells #[(Value.int .i64 0), .int .i64 0] (cap * 2)) 157)))
      have HB0 : Hid (Below w.heap.size w (w2.alloc (.cells (madeCells #[(Value.int .i64 0), .int .i64 0] (cap * 2)) 157))) := HB2.out.alloc HB2.out.size _
      have HE0 := hid he
      have HHG : Hid (g < hi) := hgh
      have HGL := hid hgl
      have HWH : Hid (w.heap.size ≤ hi) := by show _ ≤ _; omega
      clear HP HB2 hmin hmk hhi2 he he'
      go_loopw [11, 12, 43] (fun x11 x12 y wr => ∃ (i m : Nat) (acc : List (Int × Int)) (rd : Rd), i ≤ many ∧ y = .int .u64 (i : Int) ∧ x11 = .int .u64 (m : Int) ∧ acc.length + m ≤ 16777216 ∧ Hid (ProgRd wr w.heap.size hi g rd ∧ OwnRInt wr hi x12 acc ∧ Below w.heap.size w wr ∧ rd.e = 0 ∧ readR decI (many - i) rd m acc = readT decI l (N : Int))) (fun _ _ y _ => many - (intOf y).toNat)
      case atStart => exact ⟨0, N, [], r1, Nat.zero_le _, rfl, rfl, by simpa using hN, HP0.out, HO0.out, HB0.out, HE0.out, HR.out.symm⟩
      case round =>
        clear HP0 HO0 HB0 HE0 HR
        obtain ⟨i, m, acc, rd, hi2, rfl, rfl, hml, HH⟩ := hrel
        rename World => wr
        by_cases hlt : i < many
        · have hii : (i : Int) < (many : Int) := by omega
          obtain ⟨hP, hO, hB, hE, hR⟩ := HH.out
          obtain ⟨k, hk⟩ : ∃ k, many - i = k + 1 := ⟨many - i - 1, by omega⟩
          have hk2 : many - (i + 1) = k := by omega
          rw [hk] at hR
          have hot := uv_top hP.ok
          have HU := hid (pUv hP)
          have HOx := hid hO
          have HBx := hid hB
          have HRx := hid hR
          have HK2 := hid hk2
          clear hP hO hB hE hR HH hk hk2
          go_wp2_with fail
          refine HU.out.mono ?_
          rintro e w3 ⟨rfl, h3, t3⟩
          have HT := hid (takeInt h3)
          have HOx := hid (ownL_hit HOx.out HHG.out t3)
          have HBx := hid (below_hitR HBx.out t3 HGL.out)
          clear h3 t3 HU
          go_wp2_with fail
          refine HT.out.mono ?_
          rintro e w4 ⟨rfl, h4, t4⟩
          have HF := hid (pFault h4)
          have HOx := hid (ownL_hit HOx.out HHG.out t4)
          have HBx := hid (below_hitR HBx.out t4 HGL.out)
          have HPx := hid h4
          have hhi4 := h4.top
          clear h4 t4 HT
          go_wp2_with fail
          refine HF.out.mono ?_
          rintro e w5 ⟨rfl, hw5⟩
          subst w5
          clear HF
          by_cases hq : (decI rd.uv.2).2.e = 0
          · have HQ := hid hq
            have hq' : ((decI rd.uv.2).2.e : Int) = 0 := by omega
            rw [hq']
            have HBad : Hid (rd.uv.1 < 1 ∨ m < rd.uv.1 ∨ lastIs acc (decI rd.uv.2).1 → readT decI l (N : Int) = (100, [])) := fun h => HRx.out.symm.trans (readR_bad hq h)
            have HOn : Hid (¬ (rd.uv.1 < 1 ∨ m < rd.uv.1 ∨ lastIs acc (decI rd.uv.2).1) → readR decI k (decI rd.uv.2).2 (m - rd.uv.1) (acc ++ [((decI rd.uv.2).1, (rd.uv.1 : Int))]) = readT decI l (N : Int)) := fun h => (readR_on hq h).symm.trans HRx.out
            clear HRx hq hq'
            generalize decI rd.uv.2 = Q at *
            generalize rd.uv.1 = of at *
            obtain ⟨v, rd2⟩ := Q
            dsimp only at *
            by_cases h1 : of < 1
            · have HRe := hid (HBad.out (.inl h1))
              have h1' : (of : Int) < 1 := by omega
              clear HBad HOn
              go_wp2_with fail
              go_ret2
              rw [HRe.out]
              exact ⟨_, rfl, OwnL.nil _ _ _ _ _, HBx.out⟩
            · have h1' : ¬ (of : Int) < 1 := by omega
              by_cases h2 : m < of
              · have HRe := hid (HBad.out (.inr (.inl h2)))
                have h2' : (m : Int) < (of : Int) := by omega
                clear HBad HOn
                go_wp2_with fail
                go_ret2
                rw [HRe.out]
                exact ⟨_, rfl, OwnL.nil _ _ _ _ _, HBx.out⟩
              · have h2' : ¬ (m : Int) < (of : Int) := by omega
                obtain ⟨m2, hm2⟩ : ∃ m2, m - of = m2 := ⟨_, rfl⟩
                have hm3 : (m : Int) - (of : Int) = (m2 : Int) := by omega
                have how : IntKind.i64.wrap (of : Int) = (of : Int) := by rw [IntKind.wrap_i64]; omega
                rw [hm2] at HOn
                obtain ⟨g6, c6, w6, R6, H6, B6⟩ := run_oneRInt (r := acc) HOx.out (by omega) hhi4 v (of : Int)
                rcases last_cases acc with rfl | ⟨s, ⟨u, k0⟩, rfl⟩
                · obtain ⟨a5, c5, rfl, -, -, -, -, -⟩ := HOx.out.form (two_len (Value.int .i64))
                  rw [List.length_nil] at R6 H6
                  have HNx : Hid (ProgRd w6 w.heap.size hi g rd2 ∧ OwnRInt w6 hi (.slice (some ⟨g6, 0, none⟩) (0 + 1) c6) ([] ++ [(v, (of : Int))]) ∧ Below w.heap.size w w6 ∧ rd2.e = 0 ∧ readR decI (many - (i + 1)) rd2 m2 ([] ++ [(v, (of : Int))]) = readT decI l (N : Int)) := ⟨progRd_below HPx.out B6, H6, HBx.out.trans (B6.mono HWH.out), HQ.out, by rw [HK2.out]; exact HOn.out (by rintro (h | h | h); exact h1 h; exact h2 h; exact lastIs_nil _ h)⟩
                  have R6' := hid R6
                  rw [List.length_nil]
                  clear R6 H6 B6 HBad HOn HOx hm2
                  go_wp2_with (at_builtin; refine wpList_app (by rfl) (by rfl) R6'.out ?_; clear R6')
                  exact ⟨⟨i + 1, m2, _, rd2, by omega, by go_num, by first | rfl | go_num, by simp; omega, HNx⟩, by simp [intOf]; omega⟩
                · obtain ⟨g5, c5, rfl, k5⟩ := HOx.out.lastv
                  obtain ⟨sl, hsl⟩ : ∃ sl, s.length = sl := ⟨_, rfl⟩
                  have hlen5 : (s ++ [(u, k0)]).length = sl + 1 := by rw [List.length_append, hsl]; rfl
                  have hml5 : sl + 1 + m ≤ 16777216 := by rw [hlen5] at hml; exact hml
                  rw [hlen5] at R6 H6
                  rw [hsl] at k5 R6 ⊢
                  have hs5 : (sl : Int) + 1 - 1 = (sl : Int) := by omega
                  have hs6 : (0 : Int) < (sl : Int) + 1 := by omega
                  have HAl := hid (alikeInt u v w4)
                  by_cases huv : u = v
                  · have HRe := hid (HBad.out (.inr (.inr ((lastIs_snoc s u v k0).2 huv))))
                    rw [decide_eq_true huv] at HAl
                    subst huv
                    clear HBad HOn R6 H6 B6 HOx hml hlen5
                    go_wp2_with (go_at_call 254; refine HAl.out.mono ?_; rintro e w7 ⟨rfl, hw7⟩; subst w7)
                    go_ret2
                    rw [HRe.out]
                    exact ⟨_, rfl, OwnL.nil _ _ _ _ _, HBx.out⟩
                  · rw [decide_eq_false huv] at HAl
                    have HNx : Hid (ProgRd w6 w.heap.size hi g rd2 ∧ OwnRInt w6 hi (.slice (some ⟨g6, 0, none⟩) ((sl + 1) + 1) c6) ((s ++ [(u, k0)]) ++ [(v, (of : Int))]) ∧ Below w.heap.size w w6 ∧ rd2.e = 0 ∧ readR decI (many - (i + 1)) rd2 m2 ((s ++ [(u, k0)]) ++ [(v, (of : Int))]) = readT decI l (N : Int)) := ⟨progRd_below HPx.out B6, H6, HBx.out.trans (B6.mono HWH.out), HQ.out, by rw [HK2.out]; exact HOn.out (by rintro (h | h | h); exact h1 h; exact h2 h; exact huv ((lastIs_snoc s u v k0).1 h))⟩
                    have R6' := hid R6
                    have HL5 : Hid ((s ++ [(u, k0)] ++ [(v, (of : Int))]).length + m2 ≤ 16777216) := by show _ ≤ _; rw [List.length_append, hlen5, List.length_singleton]; omega
                    clear R6 H6 B6 HBad HOn HOx hm2 hml hlen5
                    go_wp2_with (first
                      | (go_at_call 254; refine HAl.out.mono ?_; rintro e w7 ⟨rfl, hw7⟩; subst w7)
                      | (at_builtin; refine wpList_app (by rfl) (by rfl) R6'.out ?_; clear R6'))
                    exact ⟨⟨i + 1, m2, _, rd2, by omega, by go_num, by first | rfl | go_num, HL5.out, HNx⟩, by simp [intOf]; omega⟩
          · have HRe : Hid (readT decI l (N : Int) = ((decI rd.uv.2).2.e, [])) := HRx.out.symm.trans (readR_fault hq)
            have hne : (((decI rd.uv.2).2.e : Int) == 0) = false := by simp; omega
            clear HRx hq
            generalize decI rd.uv.2 = Q at *
            generalize Q.2.e = e1 at *
            go_wp2_with fail
            go_ret2
            rw [HRe.out]
            exact ⟨_, rfl, OwnL.nil _ _ _ _ _, HBx.out⟩
        · obtain rfl : i = many := by omega
          obtain ⟨hP, hO, hB, hE, hR⟩ := HH.out
          rw [Nat.sub_self, readR_zero] at hR
          clear HH
          by_cases hm : 0 < m
          · rw [if_pos hm] at hR
            have HRe := hid hR
            have HBx := hid hB
            have hm2 : (0 : Int) < (m : Int) := by omega
            clear hP hO hB hE hR
            go_wp2_with fail
            go_ret2
            rw [← HRe.out]
            exact ⟨_, rfl, OwnL.nil _ _ _ _ _, HBx.out⟩
          · rw [if_neg hm] at hR
            obtain rfl : m = 0 := by omega
            have hEd := pEnd hP
            have HBx := hid hB
            have HOx := hid hO
            rw [show ((0 : Nat) : Int) = 0 from rfl]
            by_cases hat : rd.at' < rd.l.length
            · rw [if_pos ⟨hE, hat⟩] at hEd
              rw [if_pos hat] at hR
              have HEd := hid hEd
              have HRe := hid hR
              clear hP hO hB hE hR hEd hm
              go_wp2_with fail
              refine HEd.out.mono ?_
              rintro e w5 ⟨rfl, hw5⟩
              subst w5
              go_wp2_with fail
              go_ret2
              rw [← HRe.out]
              exact ⟨_, rfl, OwnL.nil _ _ _ _ _, HBx.out⟩
            · rw [if_neg (fun h => hat h.2), show (rd.e : Int) = 0 by omega] at hEd
              rw [if_neg hat] at hR
              have HEd := hid hEd
              have HRe := hid hR
              clear hP hO hB hE hR hEd hm
              go_wp2_with fail
              refine HEd.out.mono ?_
              rintro e w5 ⟨rfl, hw5⟩
              subst w5
              go_wp2_with fail
              go_ret2
              rw [← HRe.out]
              exact ⟨_, rfl, HOx.out.low HWH.out, HBx.out⟩
    · rw [if_pos he] at HR
      have hne : ((r1.e : Int) == 0) = false := by simp; omega
      generalize r1.e = e1 at *
      go_wp2_with fail
      go_ret2
      rw [HR.out]
      exact ⟨_, rfl, OwnL.nil _ _ _ _ _, HB2.out⟩
set_option maxRecDepth 4000 in
set_option maxHeartbeats 1000000 in
theorem readInts (a : Option Addr) (l : List Nat) (c : Nat) (n : Int) (w : World) (hA : Bytes w a l) (ha : a = none → l.length = 0 ∧ c = 0) (hl : ∀ x ∈ l, x < 256) (hn : l.length + 20 ≤ 140737488355328) (hn1 : -9223372036854775808 ≤ n) (hn2 : n ≤ 9223372036854775807) :
    Calls Tryz.prog 184 #[.slice a l.length c, .int .i64 n] w fun e w' => ∃ v, e = .returned (.tuple #[v, .int .i64 ((readT decI l n).1 : Int)]) ∧ OwnRInt w' w.heap.size v (readT decI l n).2 ∧ Below w.heap.size w w' := by
  have HP := hid (readInt a l c n w hA ha hl hn hn1 hn2)
  clear hA ha hl
  generalize readT decI l n = R at *
  go_enter Tryz.func184, Tryz.ntmps184
  go_wp2_with (go_at_call 216; refine HP.out.mono ?_; rintro e w2 ⟨v2, rfl, h2, hb2⟩)
  go_ret2
  exact ⟨_, rfl, h2, hb2⟩
end Go.Proofs.YtlidolocibfbgaaGreatDoor
