/-
  Mathematics: keys that rise, beginnings as a range of them.
-/
import Derived.Test.YtigoogfgbikgcaaXRange
namespace Go.Proofs.Ytigoogfgbikgcaa.Tx
open Go.ChangeShapes Go.WideShapes Go.ChangeAt Go.RowKit Cu

theorem snocRec {α : Type} {P : List α → Prop} (h0 : P []) (h1 : ∀ l x, P l → P (l ++ [x])) (l : List α) : P l := by
  rw [← List.reverse_reverse l]
  induction l.reverse with
  | nil => exact h0
  | cons x r ih => rw [List.reverse_cons]; exact h1 _ _ ih
/-- Of texts those that rise. -/
def riseS (K : List ByteArray) (x : ByteArray) : List ByteArray := match K.getLast? with
  | none => [x]
  | some y => if ltB y x then K ++ [x] else K
def rise (l : List ByteArray) : List ByteArray := l.foldl riseS []
theorem rise_snoc (l : List ByteArray) (x : ByteArray) : rise (l ++ [x]) = riseS (rise l) x := by unfold rise; rw [List.foldl_append]; rfl
theorem riseS_len (K : List ByteArray) (x : ByteArray) : (riseS K x).length ≤ K.length + 1 := by
  unfold riseS
  cases K.getLast? with
  | none => simp
  | some y => simp only []; split <;> simp
theorem rise_len (l : List ByteArray) : (rise l).length ≤ l.length := by
  refine snocRec (P := fun l => (rise l).length ≤ l.length) (by simp [rise]) (fun l x ih => ?_) l
  try dsimp only at ih ⊢
  rw [rise_snoc, List.length_append]; have := riseS_len (rise l) x; simp; omega
theorem riseS_pair {K : List ByteArray} (h : K.Pairwise tlt) (x : ByteArray) : (riseS K x).Pairwise tlt := by
  unfold riseS
  cases hK : K.getLast? with
  | none => simp
  | some y =>
    simp only []
    split
    · rename_i hy
      rw [List.pairwise_append]
      refine ⟨h, by simp, fun a ha c hc => ?_⟩
      rw [List.mem_singleton] at hc
      subst hc
      obtain ⟨K', rfl⟩ : ∃ K', K = K' ++ [y] := by
        rw [List.getLast?_eq_some_iff] at hK
        exact hK
      rw [List.pairwise_append] at h
      rcases List.mem_append.1 ha with h1 | h1
      · exact tlt_trans (h.2.2 a h1 y (by simp)) hy
      · rw [List.mem_singleton] at h1
        subst h1
        exact hy
    · exact h
theorem rise_pair (l : List ByteArray) : (rise l).Pairwise tlt := by
  refine snocRec (P := fun l => (rise l).Pairwise tlt) (by simp [rise]) (fun l x ih => ?_) l
  try dsimp only at ih ⊢
  rw [rise_snoc]; exact riseS_pair ih x
theorem riseS_mem {K : List ByteArray} {x y : ByteArray} (h : y ∈ riseS K x) : y ∈ K ∨ y = x := by
  unfold riseS at h
  cases hK : K.getLast? with
  | none => rw [hK] at h; simp at h; exact .inr h
  | some z =>
    rw [hK] at h
    simp only [] at h
    split at h
    · rcases List.mem_append.1 h with h1 | h1
      · exact .inl h1
      · exact .inr (by simpa using h1)
    · exact .inl h
theorem rise_mem (l : List ByteArray) : ∀ y ∈ rise l, y ∈ l := by
  refine snocRec (P := fun l => ∀ y ∈ rise l, y ∈ l) (by simp [rise]) (fun l x ih => ?_) l
  try dsimp only at ih ⊢
  intro y hy
  rw [rise_snoc] at hy
  rcases riseS_mem hy with h | h
  · exact List.mem_append_left _ (ih y h)
  · subst h; simp
/-- Of a text that is not below b, and below one that begins with b: it begins with b. -/
theorem mid_list (b : List UInt8) : ∀ (x y : List UInt8), ¬ x < b → x < y → b <+: y → b <+: x := by
  induction b with
  | nil => intro x y _ _ _; exact List.nil_prefix
  | cons c b ih =>
    intro x y h1 h2 h3
    obtain ⟨r, rfl⟩ := h3
    cases x with
    | nil => exact absurd (List.nil_lt_cons c b) h1
    | cons d x =>
      rw [List.cons_append, List.cons_lt_cons_iff] at h2
      rw [List.cons_lt_cons_iff] at h1
      rcases h2 with h2 | ⟨rfl, h2⟩
      · exact absurd (.inl h2) h1
      · rw [List.cons_prefix_cons]
        exact ⟨rfl, ih x (b ++ r) (fun h => h1 (.inr ⟨rfl, h⟩)) h2 (List.prefix_append _ _)⟩
theorem mid {b x y : ByteArray} (h1 : ¬ tlt x b) (h2 : tlt x y) (h3 : prfB y b = true) : prfB x b = true := by
  rw [prf_iff] at *
  rw [tlt_iff] at *
  exact mid_list _ _ _ h1 h2 h3
theorem pre_not_lt_list (b : List UInt8) : ∀ x : List UInt8, b <+: x → ¬ x < b := by
  induction b with
  | nil => intro x _ h; exact absurd h (List.not_lt_nil x)
  | cons c b ih =>
    rintro x ⟨r, rfl⟩ h
    rw [List.cons_append, List.cons_lt_cons_iff] at h
    rcases h with h | ⟨_, h⟩
    · exact absurd h (by simp [UInt8.lt_irrefl])
    · exact ih _ (List.prefix_append _ _) h
theorem pre_not_lt {b x : ByteArray} (h : prfB x b = true) : ¬ tlt x b := by
  rw [prf_iff] at h
  rw [tlt_iff]
  exact pre_not_lt_list _ _ h
theorem cat_lt_list (b x y : List UInt8) (h : x < y) : b ++ x < b ++ y := by
  induction b with
  | nil => exact h
  | cons c b ih => rw [List.cons_append, List.cons_append, List.cons_lt_cons_iff]; exact .inr ⟨rfl, ih⟩
theorem cat_toList (b x : ByteArray) : (b ++ x).toList = b.toList ++ x.toList := by
  rw [Go.ByteArray.toList_eq, Go.ByteArray.toList_eq, Go.ByteArray.toList_eq]
  simp
theorem cat_lt {b x y : ByteArray} (h : tlt x y) : tlt (b ++ x) (b ++ y) := by
  rw [tlt_iff] at *
  rw [cat_toList, cat_toList]
  exact cat_lt_list _ _ _ h
theorem rng {K : List ByteArray} {b : ByteArray} {i m : Nat} (hK : K.Pairwise tlt) (hi : i ≤ K.length) (h : Srch K b i i) (hs : Sch (fun j => !prfB (K.getD (i + j) ByteArray.empty) b) (K.length - i) m) :
    i = K.countP (fun s => ltB s b) ∧ m = K.countP (fun s => prfB s b) := by
  have hc := srch_count hK hi h
  refine ⟨hc.symm, ?_⟩
  obtain ⟨hm, h1, h2⟩ := hs
  have gd : ∀ (j : Nat) (hj : j < K.length), K.getD j ByteArray.empty = K[j] := fun j hj => by rw [List.getD_eq_getElem?_getD, List.getElem?_eq_getElem hj]; rfl
  have low : ∀ (j : Nat) (hj : j < K.length), j < i → tlt K[j] b := fun j hj hji => by
    have hi1 : i - 1 < K.length := by omega
    have hlast := h.low _ (by omega) (List.getElem?_eq_getElem hi1)
    by_cases e1 : j = i - 1
    · subst e1; exact hlast
    · exact tlt_trans (List.pairwise_iff_getElem.1 hK j (i - 1) (by omega) hi1 (by omega)) hlast
  have top : ∀ (j : Nat) (hj : j < K.length), i ≤ j → ¬ tlt K[j] b := fun j hj hji hcc => by
    have hi1 : i < K.length := by omega
    have hfirst := h.top _ (List.getElem?_eq_getElem hi1)
    by_cases e1 : j = i
    · subst e1; exact hfirst hcc
    · exact hfirst (tlt_trans (List.pairwise_iff_getElem.1 hK i j hi1 hj (by omega)) hcc)
  have pj : ∀ (j : Nat) (hj : j < K.length), prfB K[j] b = decide (i ≤ j ∧ j < i + m) := fun j hj => by
    rw [Bool.eq_iff_iff, decide_eq_true_iff]
    constructor
    · intro hp
      have hij : i ≤ j := by
        apply Nat.le_of_not_lt
        intro hlt
        exact pre_not_lt hp (low j hj hlt)
      refine ⟨hij, ?_⟩
      apply Nat.lt_of_not_le
      intro hle
      have him : i + m < K.length := by omega
      have h3 := h2 (by omega)
      simp only [] at h3
      rw [gd _ him, Bool.not_eq_true'] at h3
      by_cases e1 : j = i + m
      · subst e1; rw [h3] at hp; cases hp
      · have := mid (top _ him (by omega)) (List.pairwise_iff_getElem.1 hK (i + m) j him hj (by omega)) hp
        rw [h3] at this
        cases this
    · rintro ⟨h4, h5⟩
      have h3 := h1 (by omega)
      have hl : i + (m - 1) < K.length := by omega
      simp only [] at h3
      rw [gd _ hl, Bool.not_eq_false'] at h3
      by_cases e1 : j = i + (m - 1)
      · subst e1; exact h3
      · exact mid (top _ hj h4) (List.pairwise_iff_getElem.1 hK j (i + (m - 1)) hj hl (by omega)) h3
  have e0 : K = K.take i ++ ((K.drop i).take m ++ (K.drop i).drop m) := by rw [List.take_append_drop, List.take_append_drop]
  have c1 : (K.take i).countP (fun s => prfB s b) = 0 := by
    rw [List.countP_eq_zero]
    intro s hs
    obtain ⟨j, hj, rfl⟩ := List.getElem_of_mem hs
    rw [List.length_take] at hj
    rw [List.getElem_take, pj j (by omega), decide_eq_true_iff]
    omega
  have c2 : ((K.drop i).take m).countP (fun s => prfB s b) = m := by
    rw [List.countP_eq_length.2, List.length_take, List.length_drop]
    · omega
    · intro s hs
      obtain ⟨j, hj, rfl⟩ := List.getElem_of_mem hs
      rw [List.length_take, List.length_drop] at hj
      rw [List.getElem_take, List.getElem_drop, pj _ (by omega), decide_eq_true_iff]
      omega
  have c3 : ((K.drop i).drop m).countP (fun s => prfB s b) = 0 := by
    rw [List.countP_eq_zero]
    intro s hs
    obtain ⟨j, hj, rfl⟩ := List.getElem_of_mem hs
    rw [List.length_drop, List.length_drop] at hj
    rw [List.getElem_drop, List.getElem_drop, pj _ (by omega), decide_eq_true_iff]
    omega
  conv => rhs; rw [e0]
  rw [List.countP_append, List.countP_append, c1, c2, c3]
  omega
end Go.Proofs.Ytigoogfgbikgcaa.Tx
