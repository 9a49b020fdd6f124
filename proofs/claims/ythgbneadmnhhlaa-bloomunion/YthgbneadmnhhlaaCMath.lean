/-
  The register as a linear map on numbers; texts as numbers; the order of x.
-/
namespace Go.Proofs.Ythgbneadmnhhlaa.Crc

theorem bit_ext {a b : Nat} (h : ∀ i, a.testBit i = b.testBit i) : a = b := Nat.eq_of_testBit_eq h
theorem shl_bit (i a j : Nat) : (2 ^ i * a).testBit j = (decide (i ≤ j) && a.testBit (j - i)) := by
  rw [Nat.testBit_two_pow_mul]
theorem add_bit (i a b j : Nat) (h : b < 2 ^ i) : (2 ^ i * a + b).testBit j = if j < i then b.testBit j else a.testBit (j - i) := Nat.testBit_two_pow_mul_add a h j
theorem add_xor (i a b : Nat) (h : b < 2 ^ i) : 2 ^ i * a + b = 2 ^ i * a ^^^ b := by
  apply bit_ext
  intro j
  rw [add_bit i a b j h, Nat.testBit_xor, shl_bit]
  by_cases hj : j < i
  · simp [hj, Nat.not_le.2 hj]
  · have : b.testBit j = false := Nat.testBit_lt_two_pow (Nat.lt_of_lt_of_le h (Nat.pow_le_pow_right (by omega) (by omega)))
    simp [hj, this, Nat.le_of_not_lt hj]

def poly : Nat := 3988292384
/-- One shift of the register. -/
def sh (r : Nat) : Nat := (r / 2) ^^^ (r % 2 * poly)
def shN : Nat → Nat → Nat
  | 0, r => r
  | n + 1, r => sh (shN n r)
theorem mod2_xor (a b : Nat) : (a ^^^ b) % 2 = (a + b) % 2 := by
  have h : (a ^^^ b).testBit 0 = (a.testBit 0 ^^ b.testBit 0) := Nat.testBit_xor ..
  simp only [Nat.testBit_zero] at h
  rcases Nat.mod_two_eq_zero_or_one a with ha | ha <;> rcases Nat.mod_two_eq_zero_or_one b with hb | hb <;> rcases Nat.mod_two_eq_zero_or_one (a ^^^ b) with hc | hc
  all_goals simp [ha, hb, hc] at h
  all_goals omega
theorem half_xor (a b : Nat) : (a ^^^ b) / 2 = (a / 2) ^^^ (b / 2) := by
  apply bit_ext
  intro i
  rw [Nat.testBit_xor, ← Nat.testBit_succ, ← Nat.testBit_succ, ← Nat.testBit_succ, Nat.testBit_xor]
theorem four_xor (a b c d : Nat) : (a ^^^ b) ^^^ (c ^^^ d) = (a ^^^ c) ^^^ (b ^^^ d) := by
  apply bit_ext
  intro i
  simp only [Nat.testBit_xor]
  cases a.testBit i <;> cases b.testBit i <;> cases c.testBit i <;> cases d.testBit i <;> rfl
theorem sh_xor (a b : Nat) : sh (a ^^^ b) = sh a ^^^ sh b := by
  unfold sh
  rw [half_xor, four_xor, mod2_xor]
  congr 1
  rcases Nat.mod_two_eq_zero_or_one a with ha | ha <;> rcases Nat.mod_two_eq_zero_or_one b with hb | hb
  all_goals rw [ha, hb]
  · rw [show (a + b) % 2 = 0 by omega]; simp
  · rw [show (a + b) % 2 = 1 by omega]; simp
  · rw [show (a + b) % 2 = 1 by omega]; simp
  · rw [show (a + b) % 2 = 0 by omega]; simp
theorem sh_zero : sh 0 = 0 := by decide
theorem sh_two (a : Nat) : sh (2 * a) = a := by
  unfold sh
  rw [show 2 * a / 2 = a by omega, show 2 * a % 2 = 0 by omega]
  simp
theorem shN_xor (n a b : Nat) : shN n (a ^^^ b) = shN n a ^^^ shN n b := by
  induction n with
  | zero => rfl
  | succ n ih => rw [shN, ih, sh_xor]; rfl
theorem shN_zero (n : Nat) : shN n 0 = 0 := by
  induction n with
  | zero => rfl
  | succ n ih => rw [shN, ih, sh_zero]
theorem shN_add (m n a : Nat) : shN (m + n) a = shN m (shN n a) := by
  induction m with
  | zero => rw [Nat.zero_add]; rfl
  | succ m ih => rw [Nat.add_right_comm, shN, ih]; rfl
theorem shN_sh (n a : Nat) : shN n (sh a) = shN (n + 1) a := (shN_add n 1 a).symm
theorem shN_shl (n a : Nat) : shN n (2 ^ n * a) = a := by
  induction n generalizing a with
  | zero => simp [shN]
  | succ n ih => rw [shN, show 2 ^ (n + 1) * a = 2 ^ n * (2 * a) by rw [Nat.pow_succ]; ac_rfl, ih, sh_two]
theorem shN_more (m n a : Nat) (h : n ≤ m) : shN m (2 ^ n * a) = shN (m - n) a := by
  rw [show m = (m - n) + n by omega, shN_add, shN_shl, show m - n + n - n = m - n by omega]
theorem sh_lt {a : Nat} (h : a < 4294967296) : sh a < 4294967296 := by
  unfold sh poly
  refine Nat.xor_lt_two_pow (n := 32) (by omega) ?_
  have : a % 2 < 2 := Nat.mod_lt _ (by omega)
  have h2 : a % 2 * 3988292384 ≤ 1 * 3988292384 := Nat.mul_le_mul_right _ (by omega)
  omega
theorem shN_lt {a : Nat} (h : a < 4294967296) (n : Nat) : shN n a < 4294967296 := by
  induction n with
  | zero => exact h
  | succ n ih => exact sh_lt ih
/-- A register is not lost. -/
theorem xor_eq_zero {a b : Nat} (h : a ^^^ b = 0) : a = b := by
  apply bit_ext
  intro i
  have := congrArg (fun x => x.testBit i) h
  simp only [Nat.testBit_xor, Nat.zero_testBit] at this
  cases ha : a.testBit i <;> cases hb : b.testBit i <;> simp_all
theorem sh_none {a : Nat} (h : a < 4294967296) (h0 : sh a = 0) : a = 0 := by
  have := xor_eq_zero h0
  unfold poly at this
  rcases Nat.mod_two_eq_zero_or_one a with ha | ha
  · rw [ha] at this; omega
  · rw [ha] at this; omega
theorem shN_none {a : Nat} (h : a < 4294967296) (n : Nat) (h0 : shN n a = 0) : a = 0 := by
  induction n with
  | zero => exact h0
  | succ n ih => exact ih (sh_none (shN_lt h n) h0)
theorem xor_self_eq {a b : Nat} (h : a = b) : a ^^^ b = 0 := by rw [h, Nat.xor_self]
theorem shN_inj {a b : Nat} (ha : a < 4294967296) (hb : b < 4294967296) (n : Nat) (h : shN n a = shN n b) : a = b :=
  xor_eq_zero (shN_none (Nat.xor_lt_two_pow (n := 32) ha hb) n (by rw [shN_xor, h, Nat.xor_self]))
/-- Half a byte by the table. -/
theorem half_step (r : Nat) : shN 4 (r % 16) ^^^ (r / 16) = shN 4 r := by
  have h := add_xor 4 (r / 16) (r % 16) (Nat.mod_lt _ (by decide))
  rw [show 2 ^ 4 * (r / 16) + r % 16 = r by omega] at h
  conv => rhs; rw [h]
  rw [shN_xor, shN_shl, Nat.xor_comm]

/-! ### Texts as numbers -/
def num (L : Nat → Nat) : Nat → Nat
  | 0 => 0
  | n + 1 => 2 ^ (8 * n) * L n + num L n
theorem num_lt {L : Nat → Nat} {n : Nat} (h : ∀ j, j < n → L j < 256) : num L n < 2 ^ (8 * n) := by
  induction n with
  | zero => simp [num]
  | succ n ih =>
    have h1 := ih (fun j hj => h j (by omega))
    have h2 := h n (by omega)
    rw [num, show 8 * (n + 1) = 8 * n + 8 by omega, Nat.pow_add]
    have h3 : 2 ^ (8 * n) * L n ≤ 2 ^ (8 * n) * 255 := Nat.mul_le_mul_left _ (by omega)
    omega
theorem num_step {L : Nat → Nat} {n : Nat} (h : ∀ j, j < n → L j < 256) : num L (n + 1) = 2 ^ (8 * n) * L n ^^^ num L n := by
  rw [num, add_xor _ _ _ (num_lt h)]
theorem num_bit {L : Nat → Nat} {n : Nat} (h : ∀ j, j < n → L j < 256) (i : Nat) (hi : i < 8 * n) : (num L n).testBit i = (L (i / 8)).testBit (i % 8) := by
  induction n with
  | zero => omega
  | succ n ih =>
    have h' : ∀ j, j < n → L j < 256 := fun j hj => h j (by omega)
    rw [num, add_bit _ _ _ _ (num_lt h')]
    by_cases hj : i < 8 * n
    · rw [if_pos hj, ih h' hj]
    · rw [if_neg hj, show i / 8 = n by omega, show i - 8 * n = i % 8 by omega]
theorem num_ext {L M : Nat → Nat} {n : Nat} (h : ∀ j, j < n → L j = M j) : num L n = num M n := by
  induction n with
  | zero => rfl
  | succ n ih => rw [num, num, ih (fun j hj => h j (by omega)), h n (by omega)]
theorem num_xor {L M : Nat → Nat} {n : Nat} (hL : ∀ j, j < n → L j < 256) (hM : ∀ j, j < n → M j < 256) : num (fun j => L j ^^^ M j) n = num L n ^^^ num M n := by
  induction n with
  | zero => simp [num]
  | succ n ih =>
    have hL' : ∀ j, j < n → L j < 256 := fun j hj => hL j (by omega)
    have hM' : ∀ j, j < n → M j < 256 := fun j hj => hM j (by omega)
    rw [num_step (L := fun j => L j ^^^ M j) (fun j hj => Nat.xor_lt_two_pow (n := 8) (hL' j hj) (hM' j hj)), num_step hL', num_step hM', ih hL' hM', four_xor]
    congr 1
    apply bit_ext
    intro i
    rw [Nat.testBit_xor, shl_bit, shl_bit, shl_bit, Nat.testBit_xor]
    cases decide (8 * n ≤ i) <;> simp
/-- The register, beginning with r, gone over n bytes. -/
def reg (r : Nat) (L : Nat → Nat) (n : Nat) : Nat := shN (8 * n) (r ^^^ num L n)
theorem reg_zero (r : Nat) (L : Nat → Nat) : reg r L 0 = r := by simp [reg, num, shN]
theorem xor_rot (a b c : Nat) : a ^^^ (b ^^^ c) = b ^^^ (a ^^^ c) := by
  apply bit_ext
  intro i
  simp only [Nat.testBit_xor]
  cases a.testBit i <;> cases b.testBit i <;> cases c.testBit i <;> rfl
theorem reg_step {r : Nat} {L : Nat → Nat} {n : Nat} (h : ∀ j, j < n → L j < 256) : reg r L (n + 1) = shN 8 (reg r L n ^^^ L n) := by
  unfold reg
  rw [num_step h, show 8 * (n + 1) = 8 + 8 * n by omega, shN_add, xor_rot, shN_xor, shN_shl, Nat.xor_comm (L n)]
theorem reg_ext {r : Nat} {L M : Nat → Nat} {n : Nat} (h : ∀ j, j < n → L j = M j) : reg r L n = reg r M n := by unfold reg; rw [num_ext h]
theorem shN8_split (x : Nat) : shN 8 x = shN 4 (shN 4 x) := shN_add 4 4 x
theorem reg_lt {r : Nat} {L : Nat → Nat} {n : Nat} (hr : r < 4294967296) (h : ∀ j, j < n → L j < 256) : reg r L n < 4294967296 := by
  induction n with
  | zero => rw [reg_zero]; exact hr
  | succ n ih =>
    have h' : ∀ j, j < n → L j < 256 := fun j hj => h j (by omega)
    rw [reg_step h']
    exact shN_lt (Nat.xor_lt_two_pow (n := 32) (ih h') (by have := h n (by omega); omega)) 8
/-- Over the bytes of one text and then of another. -/
theorem num_cat {L M : Nat → Nat} {n m : Nat} : num (fun j => if j < n then L j else M (j - n)) (n + m) = 2 ^ (8 * n) * num M m + num L n := by
  induction m with
  | zero =>
    rw [show num M 0 = 0 from rfl, Nat.mul_zero, Nat.zero_add, Nat.add_zero]
    exact num_ext fun j hj => if_pos hj
  | succ m ih =>
    rw [show n + (m + 1) = (n + m) + 1 by omega, num, ih, num]
    simp only [show ¬ (n + m < n) by omega, if_false, show n + m - n = m by omega]
    rw [show 8 * (n + m) = 8 * n + 8 * m by omega, Nat.pow_add, Nat.mul_add]
    have : 2 ^ (8 * n) * 2 ^ (8 * m) * M m = 2 ^ (8 * n) * (2 ^ (8 * m) * M m) := by ac_rfl
    omega
theorem reg_cat {r : Nat} {L M : Nat → Nat} {n m : Nat} (hL : ∀ j, j < n → L j < 256) : reg r (fun j => if j < n then L j else M (j - n)) (n + m) = reg (reg r L n) M m := by
  unfold reg
  rw [num_cat, add_xor _ _ _ (num_lt hL), show 8 * (n + m) = 8 * m + 8 * n by omega, shN_add, xor_rot, shN_xor, shN_shl, Nat.xor_comm]
/-- Three texts. -/
theorem reg_xor {r s : Nat} {L M : Nat → Nat} {n : Nat} (hL : ∀ j, j < n → L j < 256) (hM : ∀ j, j < n → M j < 256) : reg (r ^^^ s) (fun j => L j ^^^ M j) n = reg r L n ^^^ reg s M n := by
  unfold reg
  rw [num_xor hL hM, four_xor, shN_xor]

/-! ### The order of x -/
def apN : Nat → Nat → Nat → Nat
  | 0, _, _ => 0
  | i + 1, c, v => (if c.testBit i then v else 0) ^^^ apN i c (sh v)
def ap (c v : Nat) : Nat := apN 32 c v
theorem shN_apN (k i c v : Nat) : shN k (apN i c v) = apN i c (shN k v) := by
  induction i generalizing v with
  | zero => exact shN_zero k
  | succ i ih =>
    rw [apN, apN, shN_xor, ih, shN_sh, ← show shN (k + 1) v = sh (shN k v) from rfl]
    congr 1
    split
    · rfl
    · exact shN_zero k
theorem apN_unit (i c : Nat) (hi : i < 32) : apN (i + 1) c (2 ^ i) = c % 2 ^ (i + 1) := by
  induction i with
  | zero =>
    simp only [apN]
    rw [Nat.testBit_zero]
    rcases Nat.mod_two_eq_zero_or_one c with h | h <;> simp [h]
  | succ i ih =>
    rw [apN, show sh (2 ^ (i + 1)) = 2 ^ i by rw [Nat.pow_succ, Nat.mul_comm]; exact sh_two _, ih (by omega)]
    apply bit_ext
    intro j
    rw [Nat.testBit_xor, Nat.testBit_mod_two_pow, Nat.testBit_mod_two_pow]
    split
    · rename_i h
      rw [Nat.testBit_two_pow]
      by_cases hj : j = i + 1
      · subst hj; simp [h]
      · have : ¬ (i + 1 = j) := fun e => hj e.symm
        simp only [this, decide_false, Bool.false_bne]
        by_cases h2 : j < i + 1
        · simp [h2, show j < i + 1 + 1 by omega]
        · simp [h2, show ¬ j < i + 1 + 1 by omega]
    · rename_i h
      simp only [Nat.zero_testBit, Bool.false_bne]
      by_cases hj : j = i + 1
      · subst hj; simp at h; simp [h]
      · by_cases h2 : j < i + 1
        · simp [h2, show j < i + 1 + 1 by omega]
        · simp [h2, show ¬ j < i + 1 + 1 by omega]
def unit : Nat := 2147483648
theorem ap_unit {c : Nat} (h : c < 4294967296) : ap c unit = c := by
  have := apN_unit 31 c (by omega)
  rw [Nat.mod_eq_of_lt (by omega)] at this
  exact this
theorem shN_ap (k v : Nat) (hv : v < 4294967296) : shN k v = ap v (shN k unit) := by
  conv => lhs; rw [← ap_unit hv]
  exact shN_apN k 32 v unit
/-- x to the power that the bits say, the greatest bit first. -/
def pw : List Bool → Nat → Nat
  | [], e => e
  | b :: r, e => pw r (if b then sh (ap e e) else ap e e)
def val : List Bool → Nat → Nat
  | [], n => n
  | b :: r, n => val r (if b then 2 * n + 1 else 2 * n)
theorem unit_lt : unit < 4294967296 := by decide
theorem pw_val (l : List Bool) (n : Nat) (e : Nat) (h : shN n unit = e) : shN (val l n) unit = pw l e := by
  induction l generalizing n e with
  | nil => exact h
  | cons b r ih =>
    have he : e < 4294967296 := h ▸ shN_lt unit_lt n
    have h2 : shN (2 * n) unit = ap e e := by rw [Nat.two_mul, shN_add, h, shN_ap n e he, h]
    rw [val, pw]
    apply ih
    cases b
    · exact h2
    · exact congrArg sh h2
theorem order_at (l : List Bool) (n : Nat) (e : Nat) (hn : val l 0 = n) (h : pw l unit = e) : shN n unit = e := by rw [← hn, pw_val l 0 unit rfl, h]
def bitsOf : Nat → Nat → List Bool
  | 0, _ => []
  | k + 1, n => n.testBit k :: bitsOf k n
theorem ord_all : shN 4294967295 unit = unit := order_at (bitsOf 32 4294967295) _ _ (by decide +kernel) (by decide +kernel)
theorem ord_3 : shN (4294967295 / 3) unit ≠ unit := fun h => absurd ((order_at (bitsOf 32 1431655765) _ _ (by decide +kernel) rfl).symm.trans h) (by decide +kernel)
theorem ord_5 : shN (4294967295 / 5) unit ≠ unit := fun h => absurd ((order_at (bitsOf 32 858993459) _ _ (by decide +kernel) rfl).symm.trans h) (by decide +kernel)
theorem ord_17 : shN (4294967295 / 17) unit ≠ unit := fun h => absurd ((order_at (bitsOf 32 252645135) _ _ (by decide +kernel) rfl).symm.trans h) (by decide +kernel)
theorem ord_257 : shN (4294967295 / 257) unit ≠ unit := fun h => absurd ((order_at (bitsOf 32 16711935) _ _ (by decide +kernel) rfl).symm.trans h) (by decide +kernel)
theorem ord_65537 : shN (4294967295 / 65537) unit ≠ unit := fun h => absurd ((order_at (bitsOf 32 65535) _ _ (by decide +kernel) rfl).symm.trans h) (by decide +kernel)
theorem per_mul {d : Nat} (h : shN d unit = unit) (k : Nat) : shN (d * k) unit = unit := by
  induction k with
  | zero => rfl
  | succ k ih => rw [Nat.mul_succ, shN_add, h, ih]
theorem per_sub {a b : Nat} (ha : shN a unit = unit) (hb : shN b unit = unit) (h : b ≤ a) : shN (a - b) unit = unit := by
  have : shN (a - b) (shN b unit) = unit := by rw [← shN_add, show a - b + b = a by omega, ha]
  rwa [hb] at this
theorem per_mod {a b : Nat} (ha : shN a unit = unit) (hb : shN b unit = unit) : shN (a % b) unit = unit := by
  have h := per_sub ha (per_mul hb (a / b)) (Nat.mul_div_le a b)
  have e : a - b * (a / b) = a % b := by have := Nat.div_add_mod a b; omega
  rwa [e] at h
theorem per_gcd (a : Nat) : ∀ b, shN a unit = unit → shN b unit = unit → shN (Nat.gcd a b) unit = unit := by
  induction a using Nat.strongRecOn with
  | ind a ih =>
    intro b ha hb
    by_cases h0 : a = 0
    · subst h0; rw [Nat.gcd_zero_left]; exact hb
    · rw [Nat.gcd_rec]
      exact ih (b % a) (Nat.mod_lt _ (by omega)) a (per_mod hb ha) ha
theorem dvd_prime {g n p q : Nat} (hn : n = p * q) (hg : g ∣ n) (hp : Nat.Coprime g p) : g ∣ q := by
  subst hn
  exact Nat.Coprime.dvd_of_dvd_mul_left hp hg
theorem prime_of {p : Nat} (h0 : 0 < p) (h2 : p < 66049) (hp : ∀ x, x < 257 → 2 ≤ x → x < p → p % x ≠ 0) (c : Nat) (hc : c ∣ p) : c = 1 ∨ c = p := by
  obtain ⟨e, he⟩ := hc
  by_cases h : c ≤ 256
  · by_cases h1 : c ≤ 1
    · by_cases h3 : c = 0
      · subst h3; omega
      · exact .inl (by omega)
    · by_cases h4 : c < p
      · exact absurd (by rw [he]; exact Nat.mul_mod_right c e) (hp c (by omega) (by omega) h4)
      · have := Nat.le_of_dvd h0 ⟨e, he⟩
        exact .inr (by omega)
  · have h5 : e < 257 := by
      apply Nat.lt_of_not_le
      intro h6
      have := Nat.mul_le_mul (show 257 ≤ c by omega) h6
      omega
    by_cases h6 : e ≤ 1
    · by_cases h7 : e = 0
      · subst h7; omega
      · have : e = 1 := by omega
        subst this
        exact .inr (by omega)
    · have h8 : e < p := by
        rw [he]
        have := Nat.mul_le_mul (show 2 ≤ c by omega) (Nat.le_refl e)
        omega
      exact absurd (by rw [he]; exact Nat.mul_mod_left c e) (hp e h5 (by omega) h8)
theorem cop_or {p m : Nat} (hp : ∀ c, c ∣ p → c = 1 ∨ c = p) : Nat.Coprime m p ∨ p ∣ m := by
  rcases hp _ (Nat.gcd_dvd_right m p) with h | h
  · exact .inl h
  · right
    have := Nat.gcd_dvd_left m p
    rwa [h] at this
theorem not_part {g m p N : Nat} (hN : N = g * m) (hp0 : 0 < p) (hp : p ∣ m) (hg : shN g unit = unit) (hne : shN (N / p) unit ≠ unit) : False := by
  obtain ⟨k, rfl⟩ := hp
  apply hne
  rw [hN, show g * (p * k) = p * (g * k) by ac_rfl, Nat.mul_div_cancel_left _ hp0]
  exact per_mul hg k
/-- x has the order 2^32 - 1. -/
theorem order_x {d : Nat} (h0 : 0 < d) (h1 : d < 4294967295) : shN d unit ≠ unit := by
  intro h
  have hg := per_gcd d 4294967295 h ord_all
  have hl : Nat.gcd d 4294967295 ≤ d := Nat.le_of_dvd h0 (Nat.gcd_dvd_left _ _)
  obtain ⟨m, hm⟩ := Nat.gcd_dvd_right d 4294967295
  generalize Nat.gcd d 4294967295 = g at *
  have p3 := prime_of (p := 3) (by decide) (by decide) (by decide +kernel)
  have p5 := prime_of (p := 5) (by decide) (by decide) (by decide +kernel)
  have p17 := prime_of (p := 17) (by decide) (by decide) (by decide +kernel)
  have p257 := prime_of (p := 257) (by decide) (by decide) (by decide +kernel)
  have p65 := prime_of (p := 65537) (by decide) (by decide) (by decide +kernel)
  rcases cop_or (m := m) p3 with c3 | c3
  rotate_left
  · exact not_part hm (by decide) c3 hg ord_3
  rcases cop_or (m := m) p5 with c5 | c5
  rotate_left
  · exact not_part hm (by decide) c5 hg ord_5
  rcases cop_or (m := m) p17 with c17 | c17
  rotate_left
  · exact not_part hm (by decide) c17 hg ord_17
  rcases cop_or (m := m) p257 with c257 | c257
  rotate_left
  · exact not_part hm (by decide) c257 hg ord_257
  rcases cop_or (m := m) p65 with c65 | c65
  rotate_left
  · exact not_part hm (by decide) c65 hg ord_65537
  have d0 : m ∣ 4294967295 := ⟨g, by rw [Nat.mul_comm]; exact hm⟩
  have d1 : m ∣ 1431655765 := dvd_prime (p := 3) (by decide) d0 c3
  have d2 : m ∣ 286331153 := dvd_prime (p := 5) (by decide) d1 c5
  have d3 : m ∣ 16843009 := dvd_prime (p := 17) (by decide) d2 c17
  have d4 : m ∣ 65537 := dvd_prime (p := 257) (by decide) d3 c257
  have d5 : m ∣ 1 := dvd_prime (p := 65537) (by decide) d4 c65
  have : m = 1 := Nat.dvd_one.1 d5
  subst this
  omega
/-- The number 1, as a register, comes round no earlier. -/
theorem one_round {d : Nat} (h0 : 0 < d) (h1 : d < 4294967295) : shN d 1 ≠ 1 := by
  intro h
  have h31 : shN 31 unit = 1 := by decide +kernel
  apply order_x h0 h1
  apply shN_inj (shN_lt unit_lt d) unit_lt 31
  rw [← shN_add, Nat.add_comm, shN_add, h31, h]

/-! ### What is told -/
/-- Bits of a burst: no sum stays. -/
theorem burst_told {m n p : Nat} (h : n ≤ m) (hp : p < 4294967296) (h0 : p ≠ 0) : shN m (2 ^ n * p) ≠ 0 := fun e =>
  h0 (shN_none hp (m - n) (by rw [← shN_more m n p h]; exact e))
/-- Two bits, f below t. -/
theorem two_told {m f t : Nat} (h : f < t) (ht : t < m) (hm : m < 4294967295) : shN m (2 ^ f ^^^ 2 ^ t) ≠ 0 := by
  intro e
  have e1 : (2 : Nat) ^ t = 2 ^ f * 2 ^ (t - f) := by rw [← Nat.pow_add, show f + (t - f) = t by omega]
  have e2 : shN m (2 ^ f) = shN (m - f) 1 := by have := shN_more m f 1 (by omega); rwa [Nat.mul_one] at this
  have e3 : shN m (2 ^ t) = shN (m - t) 1 := by have := shN_more m t 1 (by omega); rwa [Nat.mul_one] at this
  rw [shN_xor, e2, e3, show m - f = (m - t) + (t - f) by omega, shN_add, ← shN_xor] at e
  have := shN_none (Nat.xor_lt_two_pow (n := 32) (shN_lt (by decide) _) (by decide)) _ e
  exact one_round (by omega) (by omega) (xor_eq_zero this)
end Go.Proofs.Ythgbneadmnhhlaa.Crc
