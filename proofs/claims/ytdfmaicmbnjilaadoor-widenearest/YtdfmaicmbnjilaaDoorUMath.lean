/-
  Short forms of numbers: what is written, what is read; numbers of a fixed width; folded numbers. (No seat is named here.)
-/
namespace Go.Proofs.YtdfmaicmbnjilaaDoor.Cu

/-- The short form, with fuel: as few groups of seven bits as hold the number. -/
def uvF : Nat → Nat → List Nat
  | 0, v => [v]
  | k + 1, v => if v < 128 then [v] else (128 + v % 128) :: uvF k (v / 128)
/-- The short form of a number below 2^64. -/
def uv (v : Nat) : List Nat := uvF 9 v
theorem uvF_pos (k v : Nat) : 1 ≤ (uvF k v).length := by
  cases k with
  | zero => simp [uvF]
  | succ k => unfold uvF; split <;> simp
theorem uvF_le (k v : Nat) : (uvF k v).length ≤ k + 1 := by
  induction k generalizing v with
  | zero => simp [uvF]
  | succ k ih =>
    unfold uvF
    split
    · simp
    · have := ih (v / 128); simp; omega
theorem uv_pos (v : Nat) : 1 ≤ (uv v).length := uvF_pos 9 v
theorem uv_le (v : Nat) : (uv v).length ≤ 10 := uvF_le 9 v
/-- What is read: nothing is left too early, it has not its form, or a number and how many bytes. -/
inductive Res where
  | short : Res
  | form : Res
  | num : Nat → Nat → Res
/-- From the number i on, acc being what was read before. -/
def rdF : Nat → List Nat → Nat → Nat → Res
  | 0, _, _, _ => .form
  | _ + 1, [], _, _ => .short
  | k + 1, c :: r, i, acc =>
    if k = 0 ∧ 1 < c then .form
    else if c < 128 then (if c = 0 ∧ 0 < i then .form else .num (acc + c % 128 * 2 ^ (7 * i)) (i + 1))
    else rdF k r (i + 1) (acc + c % 128 * 2 ^ (7 * i))
def rd (l : List Nat) : Res := rdF 10 l 0 0
/-- The number k of groups that are left and the number i of those that were read make ten. -/
theorem rdF_uvF (k i v acc : Nat) (rest : List Nat) (hv : v < 2 ^ (7 * k + 1)) (h0 : 0 < i → 0 < v) : rdF (k + 1) (uvF k v ++ rest) i acc = .num (acc + v * 2 ^ (7 * i)) (i + (uvF k v).length) := by
  induction k generalizing i v acc with
  | zero =>
    have hv2 : v < 2 := by simpa using hv
    have e : uvF 0 v = [v] := rfl
    rw [e]
    simp only [List.cons_append, List.nil_append, rdF]
    rw [if_neg (by omega), if_pos (by omega), if_neg (by omega), Nat.mod_eq_of_lt (by omega)]
    rfl
  | succ k ih =>
    by_cases h : v < 128
    · have e : uvF (k + 1) v = [v] := by unfold uvF; rw [if_pos h]
      rw [e]
      simp only [List.cons_append, List.nil_append, rdF]
      rw [if_neg (by omega), if_pos h, if_neg (by omega), Nat.mod_eq_of_lt h]
      rfl
    · have e : uvF (k + 1) v = (128 + v % 128) :: uvF k (v / 128) := by rw [uvF]; rw [if_neg h]
      rw [e]
      simp only [List.cons_append, List.length_cons]
      rw [rdF, if_neg (by omega), if_neg (by omega), ih (i + 1) (v / 128) _ (by
        have : 2 ^ (7 * (k + 1) + 1) = 128 * 2 ^ (7 * k + 1) := by rw [show 7 * (k + 1) + 1 = (7 * k + 1) + 7 by omega, Nat.pow_add]; omega
        rw [this] at hv
        exact Nat.div_lt_of_lt_mul hv) (fun _ => by omega)]
      have e2 : (128 + v % 128) % 128 = v % 128 := by omega
      have e3 : v / 128 * 2 ^ (7 * (i + 1)) = v / 128 * 128 * 2 ^ (7 * i) := by
        rw [show 7 * (i + 1) = 7 + 7 * i by omega, Nat.pow_add, ← Nat.mul_assoc]
      have e4 : v % 128 * 2 ^ (7 * i) + v / 128 * 128 * 2 ^ (7 * i) = v * 2 ^ (7 * i) := by
        rw [← Nat.add_mul]; congr 1; omega
      rw [e2, e3, Nat.add_assoc, e4]
      congr 1
      omega
/-- What was written is read again. -/
theorem rd_uv (v : Nat) (rest : List Nat) (hv : v < 18446744073709551616) : rd (uv v ++ rest) = .num v (uv v).length := by
  have := rdF_uvF 9 0 v 0 rest (by simpa using hv) (by omega)
  simpa [rd, uv] using this
/-- Of a shorter beginning nothing is read. -/
theorem rdF_cut (k i v acc m : Nat) (hm : m < (uvF k v).length) : rdF (k + 1) ((uvF k v).take m) i acc = .short := by
  induction k generalizing i v acc m with
  | zero =>
    have : m = 0 := by simp [uvF] at hm; omega
    subst this
    rfl
  | succ k ih =>
    by_cases h : v < 128
    · have e : uvF (k + 1) v = [v] := by unfold uvF; rw [if_pos h]
      rw [e] at hm ⊢
      have : m = 0 := by simp at hm; omega
      subst this
      rfl
    · have e : uvF (k + 1) v = (128 + v % 128) :: uvF k (v / 128) := by rw [uvF]; rw [if_neg h]
      rw [e] at hm ⊢
      cases m with
      | zero => rfl
      | succ m =>
        rw [List.take_succ_cons, rdF, if_neg (by omega), if_neg (by omega)]
        exact ih _ _ _ _ (by simp at hm; omega)
theorem rd_cut (v m : Nat) (hm : m < (uv v).length) : rd ((uv v).take m) = .short := rdF_cut 9 0 v 0 m hm
/-- What is read is just what its number's short form is. -/
theorem rdF_only (k i acc v m : Nat) (l : List Nat) (hl : ∀ c ∈ l, c < 256) (h : rdF (k + 1) l i acc = .num v m) : ∃ u, v = acc + u * 2 ^ (7 * i) ∧ i < m ∧ l.take (m - i) = uvF k u ∧ (uvF k u).length = m - i ∧ u < 2 ^ (7 * k + 1) ∧ (0 < i → 0 < u) := by
  induction k generalizing i acc l with
  | zero =>
    cases l with
    | nil => simp [rdF] at h
    | cons c r =>
      rw [rdF] at h
      by_cases h1 : 1 < c
      · rw [if_pos ⟨rfl, h1⟩] at h; cases h
      · rw [if_neg (fun x => h1 x.2), if_pos (by omega)] at h
        by_cases h2 : c = 0 ∧ 0 < i
        · rw [if_pos h2] at h; cases h
        · rw [if_neg h2] at h
          injection h with h3 h4
          subst h3 h4
          refine ⟨c, by rw [Nat.mod_eq_of_lt (by omega)], by omega, ?_, ?_, by simp; omega, fun hi => by omega⟩
          · rw [show i + 1 - i = 1 by omega]; rfl
          · rw [show i + 1 - i = 1 by omega]; rfl
  | succ k ih =>
    cases l with
    | nil => simp [rdF] at h
    | cons c r =>
      rw [rdF, if_neg (by omega)] at h
      by_cases h1 : c < 128
      · rw [if_pos h1] at h
        by_cases h2 : c = 0 ∧ 0 < i
        · rw [if_pos h2] at h; cases h
        · rw [if_neg h2] at h
          injection h with h3 h4
          subst h3 h4
          have e : uvF (k + 1) c = [c] := by unfold uvF; rw [if_pos h1]
          have hp : 128 ≤ 2 ^ (7 * (k + 1) + 1) := Nat.le_trans (show 128 ≤ 2 ^ 8 by decide) (Nat.pow_le_pow_right (by omega) (by omega))
          refine ⟨c, by rw [Nat.mod_eq_of_lt h1], by omega, ?_, ?_, by omega, fun hi => by omega⟩
          · rw [show i + 1 - i = 1 by omega, e]; rfl
          · rw [show i + 1 - i = 1 by omega, e]; rfl
      · rw [if_neg h1] at h
        obtain ⟨u, hv, hm, ht, hlen, hu, hu0⟩ := ih (i + 1) _ r (fun x hx => hl x (List.mem_cons_of_mem _ hx)) h
        have hc := hl c (List.mem_cons_self ..)
        have hup := hu0 (by omega)
        have e1 : ¬ (c - 128 + 128 * u < 128) := by omega
        have e : uvF (k + 1) (c - 128 + 128 * u) = c :: uvF k u := by
          rw [uvF, if_neg e1]
          congr 1
          · omega
          · congr 1; omega
        refine ⟨c - 128 + 128 * u, ?_, by omega, ?_, ?_, ?_, fun _ => by omega⟩
        · rw [hv, show c % 128 = c - 128 by omega, Nat.add_mul, show 7 * (i + 1) = 7 + 7 * i by omega, Nat.pow_add, ← Nat.mul_assoc, Nat.add_assoc, show u * 2 ^ 7 = 128 * u by omega]
        · rw [e, show m - i = (m - (i + 1)) + 1 by omega, List.take_succ_cons, ht]
        · rw [e, List.length_cons, hlen]; omega
        · have : 2 ^ (7 * (k + 1) + 1) = 128 * 2 ^ (7 * k + 1) := by rw [show 7 * (k + 1) + 1 = (7 * k + 1) + 7 by omega, Nat.pow_add]; omega
          omega
theorem rd_only {l : List Nat} {v m : Nat} (hl : ∀ c ∈ l, c < 256) (h : rd l = .num v m) : l.take m = uv v ∧ (uv v).length = m ∧ v < 18446744073709551616 := by
  obtain ⟨u, h1, _, h3, h4, h5, _⟩ := rdF_only 9 0 0 v m l hl h
  have e : v = u := by simpa using h1
  subst e
  rw [Nat.sub_zero] at h3 h4
  exact ⟨h3, h4, h5⟩
/-- Every byte of it is a byte. -/
theorem uvF_lt (k v : Nat) (h : v < 2 ^ (7 * k + 1)) : ∀ c ∈ uvF k v, c < 256 := by
  induction k generalizing v with
  | zero => intro c hc; simp [uvF] at hc; simp at h; omega
  | succ k ih =>
    intro c hc
    unfold uvF at hc
    split at hc
    · simp at hc; omega
    · rw [List.mem_cons] at hc
      rcases hc with rfl | hc
      · omega
      · refine ih (v / 128) ?_ c hc
        have : 2 ^ (7 * (k + 1) + 1) = 128 * 2 ^ (7 * k + 1) := by rw [show 7 * (k + 1) + 1 = (7 * k + 1) + 7 by omega, Nat.pow_add]; omega
        rw [this] at h
        exact Nat.div_lt_of_lt_mul h
theorem uv_lt {v : Nat} (h : v < 18446744073709551616) : ∀ c ∈ uv v, c < 256 := uvF_lt 9 v (by simpa using h)

/-! ### Folded numbers -/
def fold (v : Int) : Nat := if 0 ≤ v then (2 * v).toNat else (-2 * v - 1).toNat
def unfold' (u : Nat) : Int := if u % 2 = 0 then ((u / 2 : Nat) : Int) else -((u / 2 : Nat) : Int) - 1
theorem unfold_fold (v : Int) : unfold' (fold v) = v := by
  unfold unfold' fold
  split <;> split <;> omega
theorem fold_unfold (u : Nat) : fold (unfold' u) = u := by
  unfold unfold' fold
  split <;> split <;> omega
theorem fold_lt {v : Int} (h1 : -9223372036854775808 ≤ v) (h2 : v ≤ 9223372036854775807) : fold v < 18446744073709551616 := by
  unfold fold; split <;> omega
theorem unfold_in {u : Nat} (h : u < 18446744073709551616) : -9223372036854775808 ≤ unfold' u ∧ unfold' u ≤ 9223372036854775807 := by
  unfold unfold'; split <;> omega

/-! ### A fixed width -/
/-- The lowest byte first. -/
def fx : Nat → Nat → List Nat
  | 0, _ => []
  | k + 1, v => v % 256 :: fx k (v / 256)
def unfx : List Nat → Nat
  | [] => 0
  | c :: r => c + 256 * unfx r
theorem fx_len (k v : Nat) : (fx k v).length = k := by
  induction k generalizing v with
  | zero => rfl
  | succ k ih => simp [fx, ih]
theorem unfx_fx (k v : Nat) (h : v < 256 ^ k) : unfx (fx k v) = v := by
  induction k generalizing v with
  | zero => simp at h; subst h; rfl
  | succ k ih =>
    rw [fx, unfx, ih (v / 256) (by rw [Nat.pow_succ, Nat.mul_comm] at h; exact Nat.div_lt_of_lt_mul h)]
    omega
theorem fx_unfx (l : List Nat) (h : ∀ c ∈ l, c < 256) : fx l.length (unfx l) = l := by
  induction l with
  | nil => rfl
  | cons c r ih =>
    have hc := h c (List.mem_cons_self ..)
    have hr := ih (fun x hx => h x (List.mem_cons_of_mem _ hx))
    rw [List.length_cons, unfx, fx, show (c + 256 * unfx r) % 256 = c by omega, show (c + 256 * unfx r) / 256 = unfx r by omega, hr]
theorem unfx_lt (l : List Nat) (h : ∀ c ∈ l, c < 256) : unfx l < 256 ^ l.length := by
  induction l with
  | nil => simp [unfx]
  | cons c r ih =>
    have hc := h c (List.mem_cons_self ..)
    have hr := ih (fun x hx => h x (List.mem_cons_of_mem _ hx))
    rw [List.length_cons, unfx, Nat.pow_succ]
    omega
theorem fx_get (k v i : Nat) (h : i < k) : (fx k v)[i]? = some (v / 256 ^ i % 256) := by
  induction k generalizing v i with
  | zero => omega
  | succ k ih =>
    cases i with
    | zero => simp [fx]
    | succ i =>
      rw [fx, List.getElem?_cons_succ, ih (v / 256) i (by omega), Nat.div_div_eq_div_mul, Nat.pow_succ, Nat.mul_comm]
end Go.Proofs.YtdfmaicmbnjilaaDoor.Cu
