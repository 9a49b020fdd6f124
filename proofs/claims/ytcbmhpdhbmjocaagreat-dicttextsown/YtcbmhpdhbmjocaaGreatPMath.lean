/-
  Numbers of a width, end to end; texts end to end: what is written, what is read. (No seat is named here.)
-/
namespace Go.Proofs.YtcbmhpdhbmjocaaGreat.Cu
/-! ### A fixed width -/
/-- The lowest byte first. -/
def fx : Nat → Nat → List Nat
  | 0, _ => []
  | k + 1, v => v % 256 :: fx k (v / 256)
def unfx : List Nat → Nat
  | [] => 0
  | c :: r => c + 256 * unfx r
theorem fx_len (k v : Nat) : (fx k v).length = k := by
  induction k generalizing v with
  | zero => rfl
  | succ k ih => simp [fx, ih]
theorem unfx_fx (k v : Nat) (h : v < 256 ^ k) : unfx (fx k v) = v := by
  induction k generalizing v with
  | zero => simp at h; subst h; rfl
  | succ k ih =>
    rw [fx, unfx, ih (v / 256) (by rw [Nat.pow_succ, Nat.mul_comm] at h; exact Nat.div_lt_of_lt_mul h)]
    omega
theorem fx_unfx (l : List Nat) (h : ∀ c ∈ l, c < 256) : fx l.length (unfx l) = l := by
  induction l with
  | nil => rfl
  | cons c r ih =>
    have hc := h c (List.mem_cons_self ..)
    have hr := ih (fun x hx => h x (List.mem_cons_of_mem _ hx))
    rw [List.length_cons, unfx, fx, show (c + 256 * unfx r) % 256 = c by omega, show (c + 256 * unfx r) / 256 = unfx r by omega, hr]
theorem unfx_lt (l : List Nat) (h : ∀ c ∈ l, c < 256) : unfx l < 256 ^ l.length := by
  induction l with
  | nil => simp [unfx]
  | cons c r ih =>
    have hc := h c (List.mem_cons_self ..)
    have hr := ih (fun x hx => h x (List.mem_cons_of_mem _ hx))
    rw [List.length_cons, unfx, Nat.pow_succ]
    omega
theorem fx_get (k v i : Nat) (h : i < k) : (fx k v)[i]? = some (v / 256 ^ i % 256) := by
  induction k generalizing v i with
  | zero => omega
  | succ k ih =>
    cases i with
    | zero => simp [fx]
    | succ i =>
      rw [fx, List.getElem?_cons_succ, ih (v / 256) i (by omega), Nat.div_div_eq_div_mul, Nat.pow_succ, Nat.mul_comm]
theorem fx_lt (k v : Nat) : ∀ c ∈ fx k v, c < 256 := by
  induction k generalizing v with
  | zero => intro c hc; cases hc
  | succ k ih =>
    intro c hc
    rw [fx] at hc
    cases List.mem_cons.1 hc with
    | inl e => subst e; omega
    | inr e => exact ih _ c e
theorem fx_snoc (i v : Nat) : fx (i + 1) v = fx i v ++ [v / 256 ^ i % 256] := by
  apply List.ext_getElem?
  intro j
  by_cases h : j < i
  · rw [fx_get _ _ _ (by omega), List.getElem?_append_left (by rw [fx_len]; exact h), fx_get _ _ _ h]
  · by_cases h2 : j = i
    · subst h2
      rw [fx_get _ _ _ (by omega), List.getElem?_append_right (by rw [fx_len]; omega), fx_len]
      simp
    · rw [List.getElem?_eq_none (by rw [fx_len]; omega), List.getElem?_eq_none (by rw [List.length_append, fx_len]; simp; omega)]
theorem unfx_app (l r : List Nat) : unfx (l ++ r) = unfx l + 256 ^ l.length * unfx r := by
  induction l with
  | nil => simp [unfx]
  | cons c l ih =>
    rw [List.cons_append, unfx, unfx, ih, List.length_cons, Nat.pow_succ, Nat.mul_add, ← Nat.mul_assoc, Nat.mul_comm 256 (256 ^ l.length)]
    omega

/-! ### Numbers of a width, end to end -/
def flat (k : Nat) (f : Nat → Nat) (n : Nat) : List Nat := (List.range n).flatMap fun i => fx k (f i)
theorem flat_zero (k : Nat) (f : Nat → Nat) : flat k f 0 = [] := rfl
theorem flat_succ (k : Nat) (f : Nat → Nat) (n : Nat) : flat k f (n + 1) = flat k f n ++ fx k (f n) := by
  unfold flat; rw [List.range_succ, List.flatMap_append]; simp
theorem flat_len (k : Nat) (f : Nat → Nat) (n : Nat) : (flat k f n).length = k * n := by
  induction n with
  | zero => rfl
  | succ n ih => rw [flat_succ, List.length_append, ih, fx_len, Nat.mul_succ]
theorem flat_lt (k : Nat) (f : Nat → Nat) (n : Nat) : ∀ c ∈ flat k f n, c < 256 := by
  intro c hc
  unfold flat at hc
  rw [List.mem_flatMap] at hc
  obtain ⟨i, _, hi⟩ := hc
  exact fx_lt _ _ c hi
theorem flat_ext {k : Nat} {f g : Nat → Nat} {n : Nat} (h : ∀ i, i < n → f i = g i) : flat k f n = flat k g n := by
  induction n with
  | zero => rfl
  | succ n ih => rw [flat_succ, flat_succ, ih (fun i hi => h i (by omega)), h n (by omega)]
theorem flat_add (k : Nat) (f : Nat → Nat) (n m : Nat) : flat k f (n + m) = flat k f n ++ flat k (fun i => f (n + i)) m := by
  induction m with
  | zero => simp [flat_zero]
  | succ m ih => rw [← Nat.add_assoc, flat_succ, ih, flat_succ, List.append_assoc]
/-- The number in place i of numbers of k bytes. -/
def numAt (k : Nat) (b : List Nat) (i : Nat) : Nat := unfx ((b.drop (k * i)).take k)
theorem numAt_lt {b : List Nat} (hb : ∀ c ∈ b, c < 256) (k i : Nat) : numAt k b i < 256 ^ k := by
  have h := unfx_lt ((b.drop (k * i)).take k) (fun c hc => hb c (List.mem_of_mem_drop (List.mem_of_mem_take hc)))
  have h2 : ((b.drop (k * i)).take k).length ≤ k := List.length_take_le _ _
  exact Nat.lt_of_lt_of_le h (Nat.pow_le_pow_right (by omega) h2)
theorem numAt_flat {k : Nat} {f : Nat → Nat} {n i : Nat} (hi : i < n) (hf : f i < 256 ^ k) (r : List Nat) : numAt k (flat k f n ++ r) i = f i := by
  have e : flat k f n = flat k f i ++ (fx k (f i) ++ flat k (fun j => f (i + 1 + j)) (n - (i + 1))) := by
    rw [← List.append_assoc, ← flat_succ, ← flat_add]
    congr 1; omega
  unfold numAt
  rw [e, List.append_assoc, List.append_assoc, List.drop_left' (flat_len k f i), List.take_left' (fx_len k (f i)), unfx_fx k (f i) hf]
theorem flat_numAt {k : Nat} {b : List Nat} (hb : ∀ c ∈ b, c < 256) {n : Nat} (hn : k * n ≤ b.length) : flat k (numAt k b) n = b.take (k * n) := by
  induction n with
  | zero => simp [flat_zero]
  | succ n ih =>
    have hk : k * (n + 1) = k * n + k := Nat.mul_succ k n
    have hl : ((b.drop (k * n)).take k).length = k := by rw [List.length_take, List.length_drop]; omega
    have e := fx_unfx ((b.drop (k * n)).take k) (fun c hc => hb c (List.mem_of_mem_drop (List.mem_of_mem_take hc)))
    rw [hl] at e
    rw [flat_succ, ih (by omega), hk, List.take_add]
    unfold numAt
    rw [e]

/-! ### Whole numbers -/
def tou (x : Int) : Nat := (x % 18446744073709551616).toNat
def toi (u : Nat) : Int := if u < 9223372036854775808 then (u : Int) else (u : Int) - 18446744073709551616
def In64 (x : Int) : Prop := -9223372036854775808 ≤ x ∧ x ≤ 9223372036854775807
theorem tou_lt (x : Int) : tou x < 18446744073709551616 := by unfold tou; omega
theorem toi_tou {x : Int} (h : In64 x) : toi (tou x) = x := by unfold toi tou; unfold In64 at h; split <;> omega
theorem tou_toi {u : Nat} (h : u < 18446744073709551616) : tou (toi u) = u := by unfold toi tou; split <;> omega
theorem toi_in {u : Nat} (h : u < 18446744073709551616) : In64 (toi u) := by unfold toi In64; split <;> omega
def encI (l : List Int) : List Nat := flat 8 (fun i => tou (l.getD i 0)) l.length
def decI (b : List Nat) (n : Nat) : List Int := (List.range n).map fun i => toi (numAt 8 b i)
theorem encI_len (l : List Int) : (encI l).length = 8 * l.length := flat_len _ _ _
theorem encI_lt (l : List Int) : ∀ c ∈ encI l, c < 256 := flat_lt _ _ _
theorem decI_len (b : List Nat) (n : Nat) : (decI b n).length = n := by simp [decI]
theorem decI_get {b : List Nat} {n i : Nat} (h : i < n) : (decI b n)[i]? = some (toi (numAt 8 b i)) := by simp [decI, h]
theorem encI_append (l m : List Int) : encI (l ++ m) = encI l ++ encI m := by
  unfold encI
  rw [List.length_append, flat_add]
  congr 1
  · exact flat_ext fun i hi => by rw [List.getD_eq_getElem?_getD, List.getD_eq_getElem?_getD, List.getElem?_append_left hi]
  · exact flat_ext fun i hi => by rw [List.getD_eq_getElem?_getD, List.getD_eq_getElem?_getD, List.getElem?_append_right (by omega), Nat.add_sub_cancel_left]
theorem encI_take (l : List Int) (i : Nat) (x : Int) (h : l[i]? = some x) : encI (l.take (i + 1)) = encI (l.take i) ++ fx 8 (tou x) := by
  rw [List.take_add_one, h, encI_append]
  congr 1
theorem numAt_encI {l : List Int} {i : Nat} {x : Int} (h : l[i]? = some x) : numAt 8 (encI l) i = tou x := by
  have hi := (List.getElem?_eq_some_iff.1 h).1
  have := numAt_flat (k := 8) (f := fun i => tou (l.getD i 0)) hi (tou_lt _) []
  rw [List.append_nil] at this
  unfold encI
  rw [this, List.getD_eq_getElem?_getD, h]
  rfl
theorem dec_enc {l : List Int} (h : ∀ x ∈ l, In64 x) : decI (encI l) l.length = l := by
  apply List.ext_getElem?
  intro i
  by_cases hi : i < l.length
  · have e : l[i]? = some l[i] := List.getElem?_eq_getElem hi
    rw [decI_get hi, numAt_encI e, toi_tou (h _ (List.getElem_mem hi)), e]
  · rw [List.getElem?_eq_none (by rw [decI_len]; omega), List.getElem?_eq_none (by omega)]
theorem enc_dec {b : List Nat} (hb : ∀ c ∈ b, c < 256) {n : Nat} (hn : b.length = 8 * n) : encI (decI b n) = b := by
  unfold encI
  rw [decI_len, flat_ext (g := numAt 8 b), flat_numAt hb (by omega), ← hn, List.take_of_length_le (Nat.le_refl _)]
  intro i hi
  rw [List.getD_eq_getElem?_getD, decI_get hi]
  exact tou_toi (numAt_lt hb 8 i)

/-! ### Texts -/
/-- How many bytes the first i texts have together. -/
def sumT (T : List (List Nat)) (i : Nat) : Nat := (T.take i).flatten.length
def endsT (T : List (List Nat)) : List Nat := flat 4 (sumT T) (T.length + 1)
def encT (T : List (List Nat)) : List Nat := endsT T ++ T.flatten
theorem sumT_zero (T : List (List Nat)) : sumT T 0 = 0 := rfl
theorem sumT_succ (T : List (List Nat)) (i : Nat) (p : List Nat) (h : T[i]? = some p) : sumT T (i + 1) = sumT T i + p.length := by
  unfold sumT
  rw [List.take_add_one, h, List.flatten_append, List.length_append]
  simp
theorem sumT_all (T : List (List Nat)) : sumT T T.length = T.flatten.length := by unfold sumT; rw [List.take_of_length_le (Nat.le_refl _)]
theorem sumT_mono (T : List (List Nat)) {i j : Nat} (h : i ≤ j) : sumT T i ≤ sumT T j := by
  unfold sumT
  obtain ⟨d, rfl⟩ : ∃ d, j = i + d := ⟨j - i, by omega⟩
  rw [List.take_add, List.flatten_append, List.length_append]
  omega
theorem sumT_le (T : List (List Nat)) (i : Nat) : sumT T i ≤ T.flatten.length := by
  by_cases h : i ≤ T.length
  · rw [← sumT_all]; exact sumT_mono T h
  · unfold sumT; rw [List.take_of_length_le (by omega)]; exact Nat.le_refl _
theorem endsT_len (T : List (List Nat)) : (endsT T).length = 4 * (T.length + 1) := flat_len _ _ _
theorem encT_len (T : List (List Nat)) : (encT T).length = 4 * (T.length + 1) + T.flatten.length := by unfold encT; rw [List.length_append, endsT_len]
/-- What may be put. -/
def PutOk (T : List (List Nat)) : Prop := T.length ≤ 16777216 ∧ (∀ p ∈ T, p.length ≤ 65535) ∧ T.flatten.length ≤ 4294967295
instance (T : List (List Nat)) : Decidable (PutOk T) := by unfold PutOk; infer_instance
/-- Texts that are read. -/
def heapOf (b : List Nat) (m : Nat) : List Nat := b.drop (4 * (m + 1))
def EndsOk (b : List Nat) (m : Nat) : Prop := numAt 4 b 0 = 0 ∧ ∀ i, i < m → numAt 4 b i ≤ numAt 4 b (i + 1) ∧ numAt 4 b (i + 1) ≤ numAt 4 b i + 65535
instance (b : List Nat) (m : Nat) : Decidable (EndsOk b m) := by unfold EndsOk; infer_instance
def textN (b : List Nat) (m i : Nat) : List Nat := ((heapOf b m).drop (numAt 4 b i)).take (numAt 4 b (i + 1) - numAt 4 b i)
def textsV (b : List Nat) (m : Nat) : List (List Nat) := (List.range m).map fun i => textN b m i
theorem textsV_len (b : List Nat) (m : Nat) : (textsV b m).length = m := by simp [textsV]
theorem textsV_get {b : List Nat} {m i : Nat} (h : i < m) : (textsV b m)[i]? = some (textN b m i) := by simp [textsV, h]
/-- A number of values: its error. -/
def mayE (n : Int) : Nat := if n < 0 then 2 else if 16777216 < n then 3 else 0
def intsE (b : List Nat) (n : Int) : Nat := if mayE n ≠ 0 then mayE n else if b.length < 8 * n.toNat then 71 else if 8 * n.toNat < b.length then 72 else 0
def intsR (b : List Nat) (n : Int) : List Int := if intsE b n = 0 then decI b n.toNat else []
def textsE (b : List Nat) (n : Int) : Nat :=
  if mayE n ≠ 0 then mayE n else if b.length < 4 * (n.toNat + 1) then 71 else if ¬ EndsOk b n.toNat then 70
  else if (heapOf b n.toNat).length < numAt 4 b n.toNat then 71 else if numAt 4 b n.toNat < (heapOf b n.toNat).length then 72 else 0
def textsR (b : List Nat) (n : Int) : List (List Nat) := if textsE b n = 0 then textsV b n.toNat else []
/-- One number, one text. -/
def intAtR (b : List Nat) (i : Int) : Option Int := if i < 0 ∨ ((b.length / 8 : Nat) : Int) ≤ i then none else some (toi (numAt 8 b i.toNat))
def textAtR (b : List Nat) (n i : Int) : Option (List Nat) :=
  if mayE n ≠ 0 ∨ i < 0 ∨ n ≤ i ∨ b.length < 4 * (n.toNat + 1) then none
  else if numAt 4 b (i.toNat + 1) < numAt 4 b i.toNat ∨ (heapOf b n.toNat).length < numAt 4 b (i.toNat + 1) then none
  else some (textN b n.toNat i.toNat)
theorem mayE_ok {n : Int} (h : mayE n = 0) : ∃ m : Nat, n = (m : Int) ∧ m ≤ 16777216 := by
  unfold mayE at h
  by_cases h1 : n < 0
  · rw [if_pos h1] at h; omega
  · rw [if_neg h1] at h
    by_cases h2 : 16777216 < n
    · rw [if_pos h2] at h; omega
    · exact ⟨n.toNat, by omega, by omega⟩
theorem mayE_nat {m : Nat} (h : m ≤ 16777216) : mayE (m : Int) = 0 := by unfold mayE; rw [if_neg (by omega), if_neg (by omega)]
/-- Ends that may be rise. -/
theorem ends_up {b : List Nat} {m : Nat} (h : EndsOk b m) {i j : Nat} (hij : i ≤ j) (hj : j ≤ m) : numAt 4 b i ≤ numAt 4 b j := by
  induction j with
  | zero => rw [show i = 0 by omega]; exact Nat.le_refl _
  | succ j ih =>
    by_cases e : i = j + 1
    · subst e; exact Nat.le_refl _
    · exact Nat.le_trans (ih (by omega) (by omega)) (h.2 j (by omega)).1

/-! ### There and back -/
theorem encT_end {T : List (List Nat)} (h : T.flatten.length ≤ 4294967295) {i : Nat} (hi : i ≤ T.length) : numAt 4 (encT T) i = sumT T i := by
  unfold encT endsT
  exact numAt_flat (k := 4) (by omega) (by have := sumT_le T i; omega) _
theorem heapOf_encT (T : List (List Nat)) : heapOf (encT T) T.length = T.flatten := by
  unfold heapOf encT
  exact List.drop_left' (endsT_len T)
theorem drop_sum (T : List (List Nat)) (i : Nat) : T.flatten.drop (sumT T i) = (T.drop i).flatten := by
  have e : T.flatten = (T.take i).flatten ++ (T.drop i).flatten := by rw [← List.flatten_append, List.take_append_drop]
  rw [e]
  exact List.drop_left' rfl
theorem textN_encT {T : List (List Nat)} (h : T.flatten.length ≤ 4294967295) {i : Nat} {p : List Nat} (hp : T[i]? = some p) : textN (encT T) T.length i = p := by
  have hi := (List.getElem?_eq_some_iff.1 hp).1
  unfold textN
  rw [heapOf_encT, encT_end h (by omega), encT_end h (by omega), drop_sum, sumT_succ T i p hp, Nat.add_sub_cancel_left]
  have e : T.drop i = p :: T.drop (i + 1) := by
    rw [List.drop_eq_getElem_cons hi]
    rw [List.getElem?_eq_getElem hi] at hp
    injection hp with hp
    rw [hp]
  rw [e, List.flatten_cons]
  exact List.take_left' rfl
theorem endsOk_encT {T : List (List Nat)} (h : PutOk T) : EndsOk (encT T) T.length := by
  refine ⟨by rw [encT_end h.2.2 (Nat.zero_le _)]; rfl, fun i hi => ?_⟩
  have e : T[i]? = some T[i] := List.getElem?_eq_getElem hi
  have := h.2.1 _ (List.getElem_mem hi)
  rw [encT_end h.2.2 (by omega), encT_end h.2.2 (by omega), sumT_succ T i _ e]
  omega
theorem textsE_encT {T : List (List Nat)} (h : PutOk T) : textsE (encT T) (T.length : Int) = 0 := by
  unfold textsE
  rw [mayE_nat h.1, Int.toNat_natCast, if_neg (by simp), if_neg (by rw [encT_len]; omega), if_neg (fun c => c (endsOk_encT h)), heapOf_encT, encT_end h.2.2 (Nat.le_refl _), sumT_all, if_neg (by omega), if_neg (by omega)]
theorem textsV_encT {T : List (List Nat)} (h : T.flatten.length ≤ 4294967295) : textsV (encT T) T.length = T := by
  apply List.ext_getElem?
  intro i
  by_cases hi : i < T.length
  · have e : T[i]? = some T[i] := List.getElem?_eq_getElem hi
    rw [textsV_get hi, textN_encT h e, e]
  · rw [List.getElem?_eq_none (by rw [textsV_len]; omega), List.getElem?_eq_none (by omega)]
theorem textsE_ok {b : List Nat} {n : Int} (h : textsE b n = 0) : ∃ m : Nat, n = (m : Int) ∧ m ≤ 16777216 ∧ 4 * (m + 1) ≤ b.length ∧ EndsOk b m ∧ (heapOf b m).length = numAt 4 b m := by
  unfold textsE at h
  by_cases h1 : mayE n = 0
  · obtain ⟨m, rfl, hm⟩ := mayE_ok h1
    rw [if_neg (by simp [h1])] at h
    simp only [Int.toNat_natCast] at h
    by_cases h2 : b.length < 4 * (m + 1)
    · rw [if_pos h2] at h; omega
    · rw [if_neg h2] at h
      by_cases h3 : EndsOk b m
      · rw [if_neg (fun c => c h3)] at h
        by_cases h4 : (heapOf b m).length < numAt 4 b m
        · rw [if_pos h4] at h; omega
        · rw [if_neg h4] at h
          by_cases h5 : numAt 4 b m < (heapOf b m).length
          · rw [if_pos h5] at h; omega
          · exact ⟨m, rfl, hm, by omega, h3, by omega⟩
      · rw [if_pos h3] at h; omega
  · rw [if_pos h1] at h; omega
/-- Texts that were read: how long the first ones are together. -/
theorem sumT_textsV {b : List Nat} {m : Nat} (h : EndsOk b m) (hh : (heapOf b m).length = numAt 4 b m) {i : Nat} (hi : i ≤ m) : sumT (textsV b m) i = numAt 4 b i ∧ ((textsV b m).take i).flatten = (heapOf b m).take (numAt 4 b i) := by
  induction i with
  | zero => rw [h.1]; exact ⟨rfl, by simp⟩
  | succ i ih =>
    obtain ⟨h1, h2⟩ := ih (by omega)
    have hg := textsV_get (b := b) (m := m) (i := i) (by omega)
    have hup := (h.2 i (by omega)).1
    have htop := ends_up h (show i + 1 ≤ m by omega) (Nat.le_refl m)
    have hl : (textN b m i).length = numAt 4 b (i + 1) - numAt 4 b i := by
      unfold textN; rw [List.length_take, List.length_drop, hh]; omega
    refine ⟨by rw [sumT_succ _ _ _ hg, h1, hl]; omega, ?_⟩
    rw [List.take_add_one, hg, List.flatten_append, h2]
    have e : numAt 4 b (i + 1) = numAt 4 b i + (numAt 4 b (i + 1) - numAt 4 b i) := by omega
    rw [e, List.take_add]
    congr 1
    simp [textN]
theorem encT_textsV {b : List Nat} (hb : ∀ c ∈ b, c < 256) {m : Nat} (hl : 4 * (m + 1) ≤ b.length) (h : EndsOk b m) (hh : (heapOf b m).length = numAt 4 b m) : encT (textsV b m) = b := by
  unfold encT endsT
  rw [textsV_len, flat_ext (g := numAt 4 b) (fun i hi => (sumT_textsV h hh (by omega)).1), flat_numAt hb (by omega)]
  have e := (sumT_textsV h hh (Nat.le_refl m)).2
  rw [List.take_of_length_le (by rw [textsV_len]; omega), List.take_of_length_le (by omega)] at e
  rw [e]
  exact List.take_append_drop _ _
theorem putOk_textsV {b : List Nat} (hb : ∀ c ∈ b, c < 256) {m : Nat} (hm : m ≤ 16777216) (h : EndsOk b m) (hh : (heapOf b m).length = numAt 4 b m) : PutOk (textsV b m) := by
  refine ⟨by rw [textsV_len]; exact hm, fun p hp => ?_, ?_⟩
  · unfold textsV at hp
    rw [List.mem_map] at hp
    obtain ⟨i, hi, rfl⟩ := hp
    have := h.2 i (by simpa using hi)
    unfold textN
    have := List.length_take_le (numAt 4 b (i + 1) - numAt 4 b i) ((heapOf b m).drop (numAt 4 b i))
    omega
  · have e := (sumT_textsV h hh (Nat.le_refl m)).1
    have e2 := sumT_all (textsV b m)
    rw [textsV_len] at e2
    have := numAt_lt hb 4 m
    omega
end Go.Proofs.YtcbmhpdhbmjocaaGreat.Cu
