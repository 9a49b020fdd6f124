import Derived.Test.YtobmehajknmniaaGreatUAll
import Derived.Laws.BitsAllLaws
import Derived.Deep.WholeRow
import Derived.Lib.SlBytesConst
/-
  The register as a linear map on numbers; texts as numbers; the order of x.
-/
namespace Go.Proofs.YtobmehajknmniaaGreat.Crc

theorem bit_ext {a b : Nat} (h : ∀ i, a.testBit i = b.testBit i) : a = b := Nat.eq_of_testBit_eq h
theorem shl_bit (i a j : Nat) : (2 ^ i * a).testBit j = (decide (i ≤ j) && a.testBit (j - i)) := by
  rw [Nat.testBit_two_pow_mul]
theorem add_bit (i a b j : Nat) (h : b < 2 ^ i) : (2 ^ i * a + b).testBit j = if j < i then b.testBit j else a.testBit (j - i) := Nat.testBit_two_pow_mul_add a h j
theorem add_xor (i a b : Nat) (h : b < 2 ^ i) : 2 ^ i * a + b = 2 ^ i * a ^^^ b := by
  apply bit_ext
  intro j
  rw [add_bit i a b j h, Nat.testBit_xor, shl_bit]
  by_cases hj : j < i
  · simp [hj, Nat.not_le.2 hj]
  · have : b.testBit j = false := Nat.testBit_lt_two_pow (Nat.lt_of_lt_of_le h (Nat.pow_le_pow_right (by omega) (by omega)))
    simp [hj, this, Nat.le_of_not_lt hj]

def poly : Nat := 3988292384
/-- One shift of the register. -/
def sh (r : Nat) : Nat := (r / 2) ^^^ (r % 2 * poly)
def shN : Nat → Nat → Nat
  | 0, r => r
  | n + 1, r => sh (shN n r)
theorem mod2_xor (a b : Nat) : (a ^^^ b) % 2 = (a + b) % 2 := by
  have h : (a ^^^ b).testBit 0 = (a.testBit 0 ^^ b.testBit 0) := Nat.testBit_xor ..
  simp only [Nat.testBit_zero] at h
  rcases Nat.mod_two_eq_zero_or_one a with ha | ha <;> rcases Nat.mod_two_eq_zero_or_one b with hb | hb <;> rcases Nat.mod_two_eq_zero_or_one (a ^^^ b) with hc | hc
  all_goals simp [ha, hb, hc] at h
  all_goals omega
theorem half_xor (a b : Nat) : (a ^^^ b) / 2 = (a / 2) ^^^ (b / 2) := by
  apply bit_ext
  intro i
  rw [Nat.testBit_xor, ← Nat.testBit_succ, ← Nat.testBit_succ, ← Nat.testBit_succ, Nat.testBit_xor]
theorem four_xor (a b c d : Nat) : (a ^^^ b) ^^^ (c ^^^ d) = (a ^^^ c) ^^^ (b ^^^ d) := by
  apply bit_ext
  intro i
  simp only [Nat.testBit_xor]
  cases a.testBit i <;> cases b.testBit i <;> cases c.testBit i <;> cases d.testBit i <;> rfl
theorem sh_xor (a b : Nat) : sh (a ^^^ b) = sh a ^^^ sh b := by
  unfold sh
  rw [half_xor, four_xor, mod2_xor]
  congr 1
  rcases Nat.mod_two_eq_zero_or_one a with ha | ha <;> rcases Nat.mod_two_eq_zero_or_one b with hb | hb
  all_goals rw [ha, hb]
  · rw [show (a + b) % 2 = 0 by omega]; simp
  · rw [show (a + b) % 2 = 1 by omega]; simp
  · rw [show (a + b) % 2 = 1 by omega]; simp
  · rw [show (a + b) % 2 = 0 by omega]; simp
theorem sh_zero : sh 0 = 0 := by decide
theorem sh_two (a : Nat) : sh (2 * a) = a := by
  unfold sh
  rw [show 2 * a / 2 = a by omega, show 2 * a % 2 = 0 by omega]
  simp
theorem shN_xor (n a b : Nat) : shN n (a ^^^ b) = shN n a ^^^ shN n b := by
  induction n with
  | zero => rfl
  | succ n ih => rw [shN, ih, sh_xor]; rfl
theorem shN_zero (n : Nat) : shN n 0 = 0 := by
  induction n with
  | zero => rfl
  | succ n ih => rw [shN, ih, sh_zero]
theorem shN_add (m n a : Nat) : shN (m + n) a = shN m (shN n a) := by
  induction m with
  | zero => rw [Nat.zero_add]; rfl
  | succ m ih => rw [Nat.add_right_comm, shN, ih]; rfl
theorem shN_sh (n a : Nat) : shN n (sh a) = shN (n + 1) a := (shN_add n 1 a).symm
theorem shN_shl (n a : Nat) : shN n (2 ^ n * a) = a := by
  induction n generalizing a with
  | zero => simp [shN]
  | succ n ih => rw [shN, show 2 ^ (n + 1) * a = 2 ^ n * (2 * a) by rw [Nat.pow_succ]; ac_rfl, ih, sh_two]
theorem shN_more (m n a : Nat) (h : n ≤ m) : shN m (2 ^ n * a) = shN (m - n) a := by
  rw [show m = (m - n) + n by omega, shN_add, shN_shl, show m - n + n - n = m - n by omega]
theorem sh_lt {a : Nat} (h : a < 4294967296) : sh a < 4294967296 := by
  unfold sh poly
  refine Nat.xor_lt_two_pow (n := 32) (by omega) ?_
  have : a % 2 < 2 := Nat.mod_lt _ (by omega)
  have h2 : a % 2 * 3988292384 ≤ 1 * 3988292384 := Nat.mul_le_mul_right _ (by omega)
  omega
theorem shN_lt {a : Nat} (h : a < 4294967296) (n : Nat) : shN n a < 4294967296 := by
  induction n with
  | zero => exact h
  | succ n ih => exact sh_lt ih
/-- A register is not lost. -/
theorem xor_eq_zero {a b : Nat} (h : a ^^^ b = 0) : a = b := by
  apply bit_ext
  intro i
  have := congrArg (fun x => x.testBit i) h
  simp only [Nat.testBit_xor, Nat.zero_testBit] at this
  cases ha : a.testBit i <;> cases hb : b.testBit i <;> simp_all
theorem sh_none {a : Nat} (h : a < 4294967296) (h0 : sh a = 0) : a = 0 := by
  have := xor_eq_zero h0
  unfold poly at this
  rcases Nat.mod_two_eq_zero_or_one a with ha | ha
  · rw [ha] at this; omega
  · rw [ha] at this; omega
theorem shN_none {a : Nat} (h : a < 4294967296) (n : Nat) (h0 : shN n a = 0) : a = 0 := by
  induction n with
  | zero => exact h0
  | succ n ih => exact ih (sh_none (shN_lt h n) h0)
theorem xor_self_eq {a b : Nat} (h : a = b) : a ^^^ b = 0 := by rw [h, Nat.xor_self]
theorem shN_inj {a b : Nat} (ha : a < 4294967296) (hb : b < 4294967296) (n : Nat) (h : shN n a = shN n b) : a = b :=
  xor_eq_zero (shN_none (Nat.xor_lt_two_pow (n := 32) ha hb) n (by rw [shN_xor, h, Nat.xor_self]))
/-- Half a byte by the table. -/
theorem half_step (r : Nat) : shN 4 (r % 16) ^^^ (r / 16) = shN 4 r := by
  have h := add_xor 4 (r / 16) (r % 16) (Nat.mod_lt _ (by decide))
  rw [show 2 ^ 4 * (r / 16) + r % 16 = r by omega] at h
  conv => rhs; rw [h]
  rw [shN_xor, shN_shl, Nat.xor_comm]

/-! ### Texts as numbers -/
def num (L : Nat → Nat) : Nat → Nat
  | 0 => 0
  | n + 1 => 2 ^ (8 * n) * L n + num L n
theorem num_lt {L : Nat → Nat} {n : Nat} (h : ∀ j, j < n → L j < 256) : num L n < 2 ^ (8 * n) := by
  induction n with
  | zero => simp [num]
  | succ n ih =>
    have h1 := ih (fun j hj => h j (by omega))
    have h2 := h n (by omega)
    rw [num, show 8 * (n + 1) = 8 * n + 8 by omega, Nat.pow_add]
    have h3 : 2 ^ (8 * n) * L n ≤ 2 ^ (8 * n) * 255 := Nat.mul_le_mul_left _ (by omega)
    omega
theorem num_step {L : Nat → Nat} {n : Nat} (h : ∀ j, j < n → L j < 256) : num L (n + 1) = 2 ^ (8 * n) * L n ^^^ num L n := by
  rw [num, add_xor _ _ _ (num_lt h)]
theorem num_bit {L : Nat → Nat} {n : Nat} (h : ∀ j, j < n → L j < 256) (i : Nat) (hi : i < 8 * n) : (num L n).testBit i = (L (i / 8)).testBit (i % 8) := by
  induction n with
  | zero => omega
  | succ n ih =>
    have h' : ∀ j, j < n → L j < 256 := fun j hj => h j (by omega)
    rw [num, add_bit _ _ _ _ (num_lt h')]
    by_cases hj : i < 8 * n
    · rw [if_pos hj, ih h' hj]
    · rw [if_neg hj, show i / 8 = n by omega, show i - 8 * n = i % 8 by omega]
theorem num_ext {L M : Nat → Nat} {n : Nat} (h : ∀ j, j < n → L j = M j) : num L n = num M n := by
  induction n with
  | zero => rfl
  | succ n ih => rw [num, num, ih (fun j hj => h j (by omega)), h n (by omega)]
theorem num_xor {L M : Nat → Nat} {n : Nat} (hL : ∀ j, j < n → L j < 256) (hM : ∀ j, j < n → M j < 256) : num (fun j => L j ^^^ M j) n = num L n ^^^ num M n := by
  induction n with
  | zero => simp [num]
  | succ n ih =>
    have hL' : ∀ j, j < n → L j < 256 := fun j hj => hL j (by omega)
    have hM' : ∀ j, j < n → M j < 256 := fun j hj => hM j (by omega)
    rw [num_step (L := fun j => L j ^^^ M j) (fun j hj => Nat.xor_lt_two_pow (n := 8) (hL' j hj) (hM' j hj)), num_step hL', num_step hM', ih hL' hM', four_xor]
    congr 1
    apply bit_ext
    intro i
    rw [Nat.testBit_xor, shl_bit, shl_bit, shl_bit, Nat.testBit_xor]
    cases decide (8 * n ≤ i) <;> simp
/-- The register, beginning with r, gone over n bytes. -/
def reg (r : Nat) (L : Nat → Nat) (n : Nat) : Nat := shN (8 * n) (r ^^^ num L n)
theorem reg_zero (r : Nat) (L : Nat → Nat) : reg r L 0 = r := by simp [reg, num, shN]
theorem xor_rot (a b c : Nat) : a ^^^ (b ^^^ c) = b ^^^ (a ^^^ c) := by
  apply bit_ext
  intro i
  simp only [Nat.testBit_xor]
  cases a.testBit i <;> cases b.testBit i <;> cases c.testBit i <;> rfl
theorem reg_step {r : Nat} {L : Nat → Nat} {n : Nat} (h : ∀ j, j < n → L j < 256) : reg r L (n + 1) = shN 8 (reg r L n ^^^ L n) := by
  unfold reg
  rw [num_step h, show 8 * (n + 1) = 8 + 8 * n by omega, shN_add, xor_rot, shN_xor, shN_shl, Nat.xor_comm (L n)]
theorem reg_ext {r : Nat} {L M : Nat → Nat} {n : Nat} (h : ∀ j, j < n → L j = M j) : reg r L n = reg r M n := by unfold reg; rw [num_ext h]
theorem shN8_split (x : Nat) : shN 8 x = shN 4 (shN 4 x) := shN_add 4 4 x
theorem reg_lt {r : Nat} {L : Nat → Nat} {n : Nat} (hr : r < 4294967296) (h : ∀ j, j < n → L j < 256) : reg r L n < 4294967296 := by
  induction n with
  | zero => rw [reg_zero]; exact hr
  | succ n ih =>
    have h' : ∀ j, j < n → L j < 256 := fun j hj => h j (by omega)
    rw [reg_step h']
    exact shN_lt (Nat.xor_lt_two_pow (n := 32) (ih h') (by have := h n (by omega); omega)) 8
/-- Over the bytes of one text and then of another. -/
theorem num_cat {L M : Nat → Nat} {n m : Nat} : num (fun j => if j < n then L j else M (j - n)) (n + m) = 2 ^ (8 * n) * num M m + num L n := by
  induction m with
  | zero =>
    rw [show num M 0 = 0 from rfl, Nat.mul_zero, Nat.zero_add, Nat.add_zero]
    exact num_ext fun j hj => if_pos hj
  | succ m ih =>
    rw [show n + (m + 1) = (n + m) + 1 by omega, num, ih, num]
    simp only [show ¬ (n + m < n) by omega, if_false, show n + m - n = m by omega]
    rw [show 8 * (n + m) = 8 * n + 8 * m by omega, Nat.pow_add, Nat.mul_add]
    have : 2 ^ (8 * n) * 2 ^ (8 * m) * M m = 2 ^ (8 * n) * (2 ^ (8 * m) * M m) := by ac_rfl
    omega
theorem reg_cat {r : Nat} {L M : Nat → Nat} {n m : Nat} (hL : ∀ j, j < n → L j < 256) : reg r (fun j => if j < n then L j else M (j - n)) (n + m) = reg (reg r L n) M m := by
  unfold reg
  rw [num_cat, add_xor _ _ _ (num_lt hL), show 8 * (n + m) = 8 * m + 8 * n by omega, shN_add, xor_rot, shN_xor, shN_shl, Nat.xor_comm]
/-- Three texts. -/
theorem reg_xor {r s : Nat} {L M : Nat → Nat} {n : Nat} (hL : ∀ j, j < n → L j < 256) (hM : ∀ j, j < n → M j < 256) : reg (r ^^^ s) (fun j => L j ^^^ M j) n = reg r L n ^^^ reg s M n := by
  unfold reg
  rw [num_xor hL hM, four_xor, shN_xor]

/-! ### The order of x -/
def apN : Nat → Nat → Nat → Nat
  | 0, _, _ => 0
  | i + 1, c, v => (if c.testBit i then v else 0) ^^^ apN i c (sh v)
def ap (c v : Nat) : Nat := apN 32 c v
theorem shN_apN (k i c v : Nat) : shN k (apN i c v) = apN i c (shN k v) := by
  induction i generalizing v with
  | zero => exact shN_zero k
  | succ i ih =>
    rw [apN, apN, shN_xor, ih, shN_sh, ← show shN (k + 1) v = sh (shN k v) from rfl]
    congr 1
    split
    · rfl
    · exact shN_zero k
theorem apN_unit (i c : Nat) (hi : i < 32) : apN (i + 1) c (2 ^ i) = c % 2 ^ (i + 1) := by
  induction i with
  | zero =>
    simp only [apN]
    rw [Nat.testBit_zero]
    rcases Nat.mod_two_eq_zero_or_one c with h | h <;> simp [h]
  | succ i ih =>
    rw [apN, show sh (2 ^ (i + 1)) = 2 ^ i by rw [Nat.pow_succ, Nat.mul_comm]; exact sh_two _, ih (by omega)]
    apply bit_ext
    intro j
    rw [Nat.testBit_xor, Nat.testBit_mod_two_pow, Nat.testBit_mod_two_pow]
    split
    · rename_i h
      rw [Nat.testBit_two_pow]
      by_cases hj : j = i + 1
      · subst hj; simp [h]
      · have : ¬ (i + 1 = j) := fun e => hj e.symm
        simp only [this, decide_false, Bool.false_bne]
        by_cases h2 : j < i + 1
        · simp [h2, show j < i + 1 + 1 by omega]
        · simp [h2, show ¬ j < i + 1 + 1 by omega]
    · rename_i h
      simp only [Nat.zero_testBit, Bool.false_bne]
      by_cases hj : j = i + 1
      · subst hj; simp at h; simp [h]
      · by_cases h2 : j < i + 1
        · simp [h2, show j < i + 1 + 1 by omega]
        · simp [h2, show ¬ j < i + 1 + 1 by omega]
def unit : Nat := 2147483648
theorem ap_unit {c : Nat} (h : c < 4294967296) : ap c unit = c := by
  have := apN_unit 31 c (by omega)
  rw [Nat.mod_eq_of_lt (by omega)] at this
  exact this
theorem shN_ap (k v : Nat) (hv : v < 4294967296) : shN k v = ap v (shN k unit) := by
  conv => lhs; rw [← ap_unit hv]
  exact shN_apN k 32 v unit
/-- x to the power that the bits say, the greatest bit first. -/
def pw : List Bool → Nat → Nat
  | [], e => e
  | b :: r, e => pw r (if b then sh (ap e e) else ap e e)
def val : List Bool → Nat → Nat
  | [], n => n
  | b :: r, n => val r (if b then 2 * n + 1 else 2 * n)
theorem unit_lt : unit < 4294967296 := by decide
theorem pw_val (l : List Bool) (n : Nat) (e : Nat) (h : shN n unit = e) : shN (val l n) unit = pw l e := by
  induction l generalizing n e with
  | nil => exact h
  | cons b r ih =>
    have he : e < 4294967296 := h ▸ shN_lt unit_lt n
    have h2 : shN (2 * n) unit = ap e e := by rw [Nat.two_mul, shN_add, h, shN_ap n e he, h]
    rw [val, pw]
    apply ih
    cases b
    · exact h2
    · exact congrArg sh h2
theorem order_at (l : List Bool) (n : Nat) (e : Nat) (hn : val l 0 = n) (h : pw l unit = e) : shN n unit = e := by rw [← hn, pw_val l 0 unit rfl, h]
def bitsOf : Nat → Nat → List Bool
  | 0, _ => []
  | k + 1, n => n.testBit k :: bitsOf k n
theorem ord_all : shN 4294967295 unit = unit := order_at (bitsOf 32 4294967295) _ _ (by decide +kernel) (by decide +kernel)
theorem ord_3 : shN (4294967295 / 3) unit ≠ unit := fun h => absurd ((order_at (bitsOf 32 1431655765) _ _ (by decide +kernel) rfl).symm.trans h) (by decide +kernel)
theorem ord_5 : shN (4294967295 / 5) unit ≠ unit := fun h => absurd ((order_at (bitsOf 32 858993459) _ _ (by decide +kernel) rfl).symm.trans h) (by decide +kernel)
theorem ord_17 : shN (4294967295 / 17) unit ≠ unit := fun h => absurd ((order_at (bitsOf 32 252645135) _ _ (by decide +kernel) rfl).symm.trans h) (by decide +kernel)
theorem ord_257 : shN (4294967295 / 257) unit ≠ unit := fun h => absurd ((order_at (bitsOf 32 16711935) _ _ (by decide +kernel) rfl).symm.trans h) (by decide +kernel)
theorem ord_65537 : shN (4294967295 / 65537) unit ≠ unit := fun h => absurd ((order_at (bitsOf 32 65535) _ _ (by decide +kernel) rfl).symm.trans h) (by decide +kernel)
theorem per_mul {d : Nat} (h : shN d unit = unit) (k : Nat) : shN (d * k) unit = unit := by
  induction k with
  | zero => rfl
  | succ k ih => rw [Nat.mul_succ, shN_add, h, ih]
theorem per_sub {a b : Nat} (ha : shN a unit = unit) (hb : shN b unit = unit) (h : b ≤ a) : shN (a - b) unit = unit := by
  have : shN (a - b) (shN b unit) = unit := by rw [← shN_add, show a - b + b = a by omega, ha]
  rwa [hb] at this
theorem per_mod {a b : Nat} (ha : shN a unit = unit) (hb : shN b unit = unit) : shN (a % b) unit = unit := by
  have h := per_sub ha (per_mul hb (a / b)) (Nat.mul_div_le a b)
  have e : a - b * (a / b) = a % b := by have := Nat.div_add_mod a b; omega
  rwa [e] at h
theorem per_gcd (a : Nat) : ∀ b, shN a unit = unit → shN b unit = unit → shN (Nat.gcd a b) unit = unit := by
  induction a using Nat.strongRecOn with
  | ind a ih =>
    intro b ha hb
    by_cases h0 : a = 0
    · subst h0; rw [Nat.gcd_zero_left]; exact hb
    · rw [Nat.gcd_rec]
      exact ih (b % a) (Nat.mod_lt _ (by omega)) a (per_mod hb ha) ha
theorem dvd_prime {g n p q : Nat} (hn : n = p * q) (hg : g ∣ n) (hp : Nat.Coprime g p) : g ∣ q := by
  subst hn
  exact Nat.Coprime.dvd_of_dvd_mul_left hp hg
theorem prime_of {p : Nat} (h0 : 0 < p) (h2 : p < 66049) (hp : ∀ x, x < 257 → 2 ≤ x → x < p → p % x ≠ 0) (c : Nat) (hc : c ∣ p) : c = 1 ∨ c = p := by
  obtain ⟨e, he⟩ := hc
  by_cases h : c ≤ 256
  · by_cases h1 : c ≤ 1
    · by_cases h3 : c = 0
      · subst h3; omega
      · exact .inl (by omega)
    · by_cases h4 : c < p
      · exact absurd (by rw [he]; exact Nat.mul_mod_right c e) (hp c (by omega) (by omega) h4)
      · have := Nat.le_of_dvd h0 ⟨e, he⟩
        exact .inr (by omega)
  · have h5 : e < 257 := by
      apply Nat.lt_of_not_le
      intro h6
      have := Nat.mul_le_mul (show 257 ≤ c by omega) h6
      omega
    by_cases h6 : e ≤ 1
    · by_cases h7 : e = 0
      · subst h7; omega
      · have : e = 1 := by omega
        subst this
        exact .inr (by omega)
    · have h8 : e < p := by
        rw [he]
        have := Nat.mul_le_mul (show 2 ≤ c by omega) (Nat.le_refl e)
        omega
      exact absurd (by rw [he]; exact Nat.mul_mod_left c e) (hp e h5 (by omega) h8)
theorem cop_or {p m : Nat} (hp : ∀ c, c ∣ p → c = 1 ∨ c = p) : Nat.Coprime m p ∨ p ∣ m := by
  rcases hp _ (Nat.gcd_dvd_right m p) with h | h
  · exact .inl h
  · right
    have := Nat.gcd_dvd_left m p
    rwa [h] at this
theorem not_part {g m p N : Nat} (hN : N = g * m) (hp0 : 0 < p) (hp : p ∣ m) (hg : shN g unit = unit) (hne : shN (N / p) unit ≠ unit) : False := by
  obtain ⟨k, rfl⟩ := hp
  apply hne
  rw [hN, show g * (p * k) = p * (g * k) by ac_rfl, Nat.mul_div_cancel_left _ hp0]
  exact per_mul hg k
/-- x has the order 2^32 - 1. -/
theorem order_x {d : Nat} (h0 : 0 < d) (h1 : d < 4294967295) : shN d unit ≠ unit := by
  intro h
  have hg := per_gcd d 4294967295 h ord_all
  have hl : Nat.gcd d 4294967295 ≤ d := Nat.le_of_dvd h0 (Nat.gcd_dvd_left _ _)
  obtain ⟨m, hm⟩ := Nat.gcd_dvd_right d 4294967295
  generalize Nat.gcd d 4294967295 = g at *
  have p3 := prime_of (p := 3) (by decide) (by decide) (by decide +kernel)
  have p5 := prime_of (p := 5) (by decide) (by decide) (by decide +kernel)
  have p17 := prime_of (p := 17) (by decide) (by decide) (by decide +kernel)
  have p257 := prime_of (p := 257) (by decide) (by decide) (by decide +kernel)
  have p65 := prime_of (p := 65537) (by decide) (by decide) (by decide +kernel)
  rcases cop_or (m := m) p3 with c3 | c3
  rotate_left
  · exact not_part hm (by decide) c3 hg ord_3
  rcases cop_or (m := m) p5 with c5 | c5
  rotate_left
  · exact not_part hm (by decide) c5 hg ord_5
  rcases cop_or (m := m) p17 with c17 | c17
  rotate_left
  · exact not_part hm (by decide) c17 hg ord_17
  rcases cop_or (m := m) p257 with c257 | c257
  rotate_left
  · exact not_part hm (by decide) c257 hg ord_257
  rcases cop_or (m := m) p65 with c65 | c65
  rotate_left
  · exact not_part hm (by decide) c65 hg ord_65537
  have d0 : m ∣ 4294967295 := ⟨g, by rw [Nat.mul_comm]; exact hm⟩
  have d1 : m ∣ 1431655765 := dvd_prime (p := 3) (by decide) d0 c3
  have d2 : m ∣ 286331153 := dvd_prime (p := 5) (by decide) d1 c5
  have d3 : m ∣ 16843009 := dvd_prime (p := 17) (by decide) d2 c17
  have d4 : m ∣ 65537 := dvd_prime (p := 257) (by decide) d3 c257
  have d5 : m ∣ 1 := dvd_prime (p := 65537) (by decide) d4 c65
  have : m = 1 := Nat.dvd_one.1 d5
  subst this
  omega
/-- The number 1, as a register, comes round no earlier. -/
theorem one_round {d : Nat} (h0 : 0 < d) (h1 : d < 4294967295) : shN d 1 ≠ 1 := by
  intro h
  have h31 : shN 31 unit = 1 := by decide +kernel
  apply order_x h0 h1
  apply shN_inj (shN_lt unit_lt d) unit_lt 31
  rw [← shN_add, Nat.add_comm, shN_add, h31, h]

/-! ### What is told -/
/-- Bits of a burst: no sum stays. -/
theorem burst_told {m n p : Nat} (h : n ≤ m) (hp : p < 4294967296) (h0 : p ≠ 0) : shN m (2 ^ n * p) ≠ 0 := fun e =>
  h0 (shN_none hp (m - n) (by rw [← shN_more m n p h]; exact e))
/-- Two bits, f below t. -/
theorem two_told {m f t : Nat} (h : f < t) (ht : t < m) (hm : m < 4294967295) : shN m (2 ^ f ^^^ 2 ^ t) ≠ 0 := by
  intro e
  have e1 : (2 : Nat) ^ t = 2 ^ f * 2 ^ (t - f) := by rw [← Nat.pow_add, show f + (t - f) = t by omega]
  have e2 : shN m (2 ^ f) = shN (m - f) 1 := by have := shN_more m f 1 (by omega); rwa [Nat.mul_one] at this
  have e3 : shN m (2 ^ t) = shN (m - t) 1 := by have := shN_more m t 1 (by omega); rwa [Nat.mul_one] at this
  rw [shN_xor, e2, e3, show m - f = (m - t) + (t - f) by omega, shN_add, ← shN_xor] at e
  have := shN_none (Nat.xor_lt_two_pow (n := 32) (shN_lt (by decide) _) (by decide)) _ e
  exact one_round (by omega) (by omega) (xor_eq_zero this)
end Go.Proofs.YtobmehajknmniaaGreat.Crc

/-
  What check stands on here: the memory of wip/cursor.
-/

/-
  shifted, halves, over, More, Sum: the register.
-/
namespace Go.Proofs.YtobmehajknmniaaGreat
open Go.RowKit Crc

theorem mul_bit (r : Nat) : r % 2 * 3988292384 < 4294967296 := by
  have := Nat.mod_lt r (show 0 < 2 by omega)
  have h2 : r % 2 * 3988292384 ≤ 1 * 3988292384 := Nat.mul_le_mul_right _ (by omega)
  omega
theorem sh_val {x : Nat} (h : x < 4294967296) : bits BinOp.xor IntKind.u32 ((x : Int) / 2) (bits BinOp.and IntKind.u32 (x : Int) 1 * 3988292384 % 4294967296) = ((sh x : Nat) : Int) := by
  have h1 := u32_and_nat x 1 h (by omega)
  rw [Nat.and_one_is_mod] at h1
  have h2 := mul_bit x
  rw [show (1 : Int) = ((1 : Nat) : Int) from rfl, h1, show ((x : Int) / 2) = ((x / 2 : Nat) : Int) by omega, show (((x % 2 : Nat) : Int) * 3988292384 % 4294967296) = ((x % 2 * 3988292384 : Nat) : Int) by omega, u32_xor_nat _ _ (by omega) h2]
  rfl
/-- The table's cells. -/
def tabN (j : Nat) : Nat := shN 4 j
def zer16 : Array Value := #[.int .u32 0, .int .u32 0, .int .u32 0, .int .u32 0, .int .u32 0, .int .u32 0, .int .u32 0, .int .u32 0, .int .u32 0, .int .u32 0, .int .u32 0, .int .u32 0, .int .u32 0, .int .u32 0, .int .u32 0, .int .u32 0]
def part (k : Nat) : Nat → Nat := fun j => if j < k then tabN j else 0
theorem part_all (j : Nat) (h : j < 16) : part 16 j = tabN j := if_pos h
theorem part_step (k : Nat) (j : Nat) : upd (part k) k (tabN k) j = part (k + 1) j := by
  unfold upd part
  by_cases h : j = k
  · subst h; simp
  · by_cases h2 : j < k
    · simp [h, h2, show j < k + 1 by omega]
    · simp [h, h2, show ¬ j < k + 1 by omega]
/-- The table as a value. -/
def tabL : Array Value := #[.int .u32 ((tabN 0 : Nat) : Int), .int .u32 ((tabN 1 : Nat) : Int), .int .u32 ((tabN 2 : Nat) : Int), .int .u32 ((tabN 3 : Nat) : Int), .int .u32 ((tabN 4 : Nat) : Int), .int .u32 ((tabN 5 : Nat) : Int), .int .u32 ((tabN 6 : Nat) : Int), .int .u32 ((tabN 7 : Nat) : Int), .int .u32 ((tabN 8 : Nat) : Int), .int .u32 ((tabN 9 : Nat) : Int), .int .u32 ((tabN 10 : Nat) : Int), .int .u32 ((tabN 11 : Nat) : Int), .int .u32 ((tabN 12 : Nat) : Int), .int .u32 ((tabN 13 : Nat) : Int), .int .u32 ((tabN 14 : Nat) : Int), .int .u32 ((tabN 15 : Nat) : Int)]
def tabV : Array Value := (vals .u32 16 tabN).toArray
theorem tabV_eq : tabV = tabL := rfl
theorem tabV_size : tabV.size = 16 := by simp [tabV]
theorem load_row {w : World} {g : Nat} {t : TypeId} {L : Nat → Nat} (h : Blk w g t .u32 16 16 L) : (loadCellsFrom ⟨g, 0, none⟩ 0 16 #[]).run Tryz.prog w = .ok (vals .u32 16 L).toArray w := by
  have := run_loadCells_list (P := Tryz.prog) w ⟨g, 0, none⟩ (vals .u32 16 L) (fun j v hv => by
    have hj : j < 16 := by have := (List.getElem?_eq_some_iff.1 hv).1; simpa using this
    rw [vals_get hj] at hv
    rw [show (⟨g, 0, none⟩ : Addr).add j = ⟨g, j, none⟩ by unfold Addr.add; split <;> simp_all, h.cell hj, hv])
  simpa [loadCells] using this
theorem tabV_one : tabV.all (·.oneCell') = true := by
  rw [Array.all_eq_true']
  intro v hv
  exact vals_one (by simpa [tabV] using hv)
theorem flip32 {x : Nat} (hx : x < 4294967296) : 4294967295 ^^^ x = 4294967295 - x := by
  apply bit_ext
  intro k
  have h1 : (4294967295 : Nat).testBit k = decide (k < 32) := by
    rw [show (4294967295 : Nat) = 2 ^ 32 - 1 by decide, Nat.testBit_two_pow_sub_one]
  have h2 := Nat.testBit_two_pow_sub_succ (n := 32) hx k
  rw [show 2 ^ 32 - (x + 1) = 4294967295 - x by omega] at h2
  rw [h2, Nat.testBit_xor, h1]
  by_cases hk : k < 32
  · simp [hk]
  · have : x.testBit k = false := Nat.testBit_lt_two_pow (Nat.lt_of_lt_of_le hx (Nat.pow_le_pow_right (n := 2) (by omega) (show 32 ≤ k by omega)))
    simp [hk, this]
theorem u32_not {x : Nat} (hx : x < 4294967296) : bits BinOp.xor IntKind.u32 (if IntKind.u32.signed = true then -1 else IntKind.u32.max) (x : Int) = ((4294967295 - x : Nat) : Int) := by
  rw [show (if IntKind.u32.signed = true then (-1 : Int) else IntKind.u32.max) = ((4294967295 : Nat) : Int) by decide, u32_xor_nat _ _ (by omega) hx]
  congr 1
  exact flip32 hx
theorem and15 {z : Nat} (h : z < 4294967296) : bits BinOp.and IntKind.u32 (z : Int) 15 = ((z % 16 : Nat) : Int) := by
  rw [show (15 : Int) = ((15 : Nat) : Int) from rfl, u32_and_nat z 15 h (by omega), show (15 : Nat) = 2 ^ 4 - 1 by decide, Nat.and_two_pow_sub_one_eq_mod]
theorem tab_step {z : Nat} (h : z < 4294967296) : bits BinOp.xor IntKind.u32 ((tabN (z % 16) : Nat) : Int) ((z : Int) / 16) = ((shN 4 z : Nat) : Int) := by
  have ht : tabN (z % 16) < 4294967296 := shN_lt (by omega) 4
  rw [show ((z : Int) / 16) = ((z / 16 : Nat) : Int) by omega, u32_xor_nat _ _ ht (by omega)]
  congr 1
  exact half_step z
/-- What More says: the register, turned on both sides. -/
def moreN (s : Nat) (L : Nat → Nat) (n : Nat) : Nat := 4294967295 - reg (4294967295 - s) L n
theorem moreN_lt (s : Nat) (L : Nat → Nat) (n : Nat) : moreN s L n < 4294967296 := by unfold moreN; omega
theorem moreN_ext {s : Nat} {L M : Nat → Nat} {n : Nat} (h : ∀ j, j < n → L j = M j) : moreN s L n = moreN s M n := by unfold moreN; rw [reg_ext h]
/-- The hash of n bytes. -/
def hashN (L : Nat → Nat) : Nat → Nat
  | 0 => 14695981039346656037
  | n + 1 => (hashN L n ^^^ L n) * 1099511628211 % 18446744073709551616
theorem hashN_lt (L : Nat → Nat) (n : Nat) : hashN L n < 18446744073709551616 := by
  cases n with
  | zero => show 14695981039346656037 < 18446744073709551616; omega
  | succ n => exact Nat.mod_lt _ (by omega)
theorem hashN_ext {L M : Nat → Nat} {n : Nat} (h : ∀ j, j < n → L j = M j) : hashN L n = hashN M n := by
  induction n with
  | zero => rfl
  | succ n ih => rw [hashN, hashN, ih (fun j hj => h j (by omega)), h n (by omega)]
set_option maxHeartbeats 1000000 in
theorem hash_any (a0 : Option Addr) (n c : Nat) (L : Nat → Nat) (w : World) (hL : Nums w .u8 a0 n L) (hb : ∀ j, j < n → L j < 256) (hn : n ≤ 9223372036854775807) : Calls Tryz.prog 101 #[.slice a0 n c] w fun e w' => e = .returned (.int .u64 ((hashN L n : Nat) : Int)) ∧ w' = w := by
  have HN : Hid (Nums w .u8 a0 n L) := hL
  have HB : Hid (∀ j, j < n → L j < 256) := hb
  clear hL hb
  go_enter Tryz.func101, Tryz.ntmps101
  go_wp2_with fail
  go_loopw [3, 8] (fun y i wr => ∃ k : Nat, k ≤ n ∧ i = .int .i64 k ∧ y = .int .u64 ((hashN L k : Nat) : Int) ∧ wr = w) (fun _ i _ => n - (intOf i).toNat)
  case atStart => exact ⟨0, Nat.zero_le _, rfl, rfl, rfl⟩
  case round =>
    obtain ⟨k, hk, rfl, rfl, rfl⟩ := hrel
    by_cases hlt : k < n
    · obtain ⟨gb, o, rfl, _, hc⟩ := HN.out k hlt
      have hki : (k : Int) < (n : Int) := by omega
      have hl := hashN_lt L k
      have HS : Hid (hashN L (k + 1) = (hashN L k ^^^ L k) * 1099511628211 % 18446744073709551616) := rfl
      have hx8 := HB.out k hlt
      generalize hashN L k = x at *
      generalize L k = y at *
      have h1 := u64_xor_nat x y hl (by omega)
      have hz : x ^^^ y < 18446744073709551616 := Nat.xor_lt_two_pow (n := 64) hl (by omega)
      generalize x ^^^ y = z at *
      go_wp2_with fail
      exact ⟨⟨k + 1, by omega, by go_num, by rw [HS.out]; congr 1, by first | trivial | rfl⟩, by simp [intOf]; omega⟩
    · obtain rfl : k = n := by omega
      go_wp2_with fail
      go_ret
      exact ⟨rfl, rfl⟩
end Go.Proofs.YtobmehajknmniaaGreat

/-
  Places, twin, known.
-/
namespace Go.Proofs.YtobmehajknmniaaGreat
open Go.RowKit Crc

/-- Which sizes a filter may have. -/
def isPow (b : Int) : Bool := (List.range 31).any fun x => b == ((2 ^ x : Nat) : Int)
theorem isPow_iff (b : Int) : isPow b = true ↔ ∃ x, x ≤ 30 ∧ b = ((2 ^ x : Nat) : Int) := by
  unfold isPow
  rw [List.any_eq_true]
  constructor
  · rintro ⟨x, hx, he⟩
    exact ⟨x, by have := List.mem_range.1 hx; omega, by simpa using he⟩
  · rintro ⟨x, hx, he⟩
    exact ⟨x, List.mem_range.2 (by omega), by simpa using he⟩
theorem isPow_two {x : Nat} (h : x ≤ 30) : isPow ((2 ^ x : Nat) : Int) = true := (isPow_iff _).2 ⟨x, h, rfl⟩
theorem pow_le_30 {x : Nat} (h : x ≤ 30) : 2 ^ x ≤ 1073741824 := Nat.le_trans (Nat.pow_le_pow_right (by omega) h) (by decide)
theorem and_pow {b : Nat} (h0 : 0 < b) (h1 : b ≤ 1073741824) : ((b &&& (b - 1)) = 0) ↔ isPow (b : Int) = true := by
  rw [Nat.and_sub_one_eq_zero_iff_isPowerOfTwo (by omega), isPow_iff]
  constructor
  · rintro ⟨x, hx⟩
    refine ⟨x, ?_, by rw [hx]⟩
    apply Nat.le_of_not_lt
    intro h
    have : 2 ^ 31 ≤ 2 ^ x := Nat.pow_le_pow_right (by omega) h
    omega
  · rintro ⟨x, _, hx⟩
    exact ⟨x, by omega⟩
theorem i64_and_nat' (a b : Nat) (ha : a < 9223372036854775808) (hb : b < 9223372036854775808) : bits .and .i64 (a : Int) (b : Int) = ((a &&& b : Nat) : Int) := by
  have hx : a &&& b < 2 ^ 63 := Nat.and_lt_two_pow _ (by omega)
  show IntKind.i64.wrap ((BitVec.ofInt 64 (a : Int) &&& BitVec.ofInt 64 (b : Int)).toNat : Int) = _
  rw [BitVec.toNat_and, ofInt_u64 a (by omega), ofInt_u64 b (by omega), IntKind.wrap_i64]
  omega
theorem nat_eq0 (y : Nat) : ((y : Int) == 0) = decide (y = 0) := by
  rw [Bool.eq_iff_iff]; simp
set_option maxHeartbeats 1000000 in
theorem mayBits_any (b : Int) (w : World) (hb : -9223372036854775808 ≤ b) (hb2 : b ≤ 9223372036854775807) : Calls Tryz.prog 108 #[.int .i64 b] w fun e w' => e = .returned (.bool (isPow b)) ∧ w' = w := by
  by_cases h0 : 0 < b
  · by_cases h1 : b ≤ 1073741824
    · obtain ⟨m, rfl⟩ : ∃ m : Nat, b = (m : Int) := ⟨b.toNat, by omega⟩
      have h2 := i64_and_nat' m (m - 1) (by omega) (by omega)
      have h3 := and_pow (b := m) (by omega) (by omega)
      rw [show ((m - 1 : Nat) : Int) = (m : Int) - 1 by omega] at h2
      have h4 : isPow (m : Int) = decide ((m &&& (m - 1)) = 0) := by
        rw [Bool.eq_iff_iff, ← h3]; simp
      rw [h4]
      generalize (m &&& (m - 1)) = y at *
      clear h3 h4
      go_enter Tryz.func108, Tryz.ntmps108
      go_wp2_with fail
      go_ret
      exact ⟨by rw [nat_eq0]; rfl, rfl⟩
    · have h2 : isPow b = false := by
        rw [Bool.eq_false_iff]
        intro h
        obtain ⟨x, hx, he⟩ := (isPow_iff b).1 h
        have := pow_le_30 hx
        omega
      rw [h2]
      have hd : decide (b ≤ 1073741824) = false := by simpa using h1
      go_enter Tryz.func108, Tryz.ntmps108
      go_wp2_with fail
      go_ret
      exact ⟨rfl, rfl⟩
  · have h2 : isPow b = false := by
      rw [Bool.eq_false_iff]
      intro h
      obtain ⟨x, hx, he⟩ := (isPow_iff b).1 h
      have := Nat.two_pow_pos x
      omega
    rw [h2]
    have hd : decide (0 < b) = false := by simpa using h0
    go_enter Tryz.func108, Tryz.ntmps108
    go_wp2_with fail
    go_ret
    exact ⟨rfl, rfl⟩
/-- The place number i. -/
def placeN (h b i : Nat) : Nat := (h % 4294967296 + i * (h / 4294967296 ||| 1)) % b
theorem or1_lt {d : Nat} (h : d < 4294967296) : d ||| 1 < 4294967296 := Nat.or_lt_two_pow (n := 32) h (by decide)
theorem infoInt : (Tryz.prog.info? 3).map (fun i => (i.zero, i.size, i.bytes)) = some (some (.int .i64 0), 1, 8) := by kernel_rfl
theorem Blk.made (w : World) (t : TypeId) (k : IntKind) (m : Nat) : Blk (w.alloc (.cells (madeCells #[.int k 0] m) t)) w.heap.size t k m m (fun _ => 0) :=
  ⟨madeCells #[.int k 0] m, heap_alloc_new w _, by simp [madeCells], Nat.le_refl _, fun j hj => by simp [madeCells, Nat.mod_one, hj]⟩
set_option maxHeartbeats 1000000 in
theorem places_ok (h x k : Nat) (w : World) (hh : h < 18446744073709551616) (hx : x ≤ 30) (hk : k ≤ 64) : Calls Tryz.prog 100 #[.int .u64 (h : Int), .int .i64 ((2 ^ x : Nat) : Int), .int .i64 (k : Int)] w fun e w' => ∃ g, e = .returned (.tuple #[.slice (some ⟨g, 0, none⟩) k k, .int .i64 0]) ∧ Blk w' g 3 .i64 k k (placeN h (2 ^ x)) ∧ w.heap.size ≤ g ∧ Below w.heap.size w w' := by
  have HP := isPow_two hx
  have hp1 := pow_le_30 hx
  have hp0 := Nat.two_pow_pos x
  obtain ⟨b, hb⟩ : ∃ b, 2 ^ x = b := ⟨_, rfl⟩
  rw [hb] at HP hp1 hp0 ⊢
  have HM := hid (mayBits_any (b : Int) w (by omega) (by omega))
  rw [HP] at HM
  have h1 : bits BinOp.and IntKind.u64 (h : Int) 4294967295 = ((h % 4294967296 : Nat) : Int) := by
    rw [show (4294967295 : Int) = ((4294967295 : Nat) : Int) from rfl, u64_and_nat h 4294967295 hh (by omega), show (4294967295 : Nat) = 2 ^ 32 - 1 by decide, Nat.and_two_pow_sub_one_eq_mod]
  have h2 : bits BinOp.or IntKind.u64 ((h : Int) / 4294967296) 1 = ((h / 4294967296 ||| 1 : Nat) : Int) := by
    rw [show (h : Int) / 4294967296 = ((h / 4294967296 : Nat) : Int) by omega, show (1 : Int) = ((1 : Nat) : Int) from rfl, u64_or_nat _ _ (by omega) (by omega)]
  have ha : h % 4294967296 < 4294967296 := Nat.mod_lt _ (by omega)
  have hd : (h / 4294967296 ||| 1) < 4294967296 := or1_lt (by omega)
  have HPl : Hid (∀ i, placeN h b i = (h % 4294967296 + i * (h / 4294967296 ||| 1)) % b) := fun _ => rfl
  generalize h % 4294967296 = A at *
  generalize (h / 4294967296 ||| 1) = D at *
  obtain ⟨i0, hi, hz0, hz1, hz2⟩ := info_parts infoInt
  have hmk := fun wx => run_make (P := Tryz.prog) wx 81 3 i0 (.int .i64 0) Tryz.underlying81 hi hz0 .i64 .i64 (k : Int) (k : Int) (by omega) (by omega) (by rw [hz2]; omega) (by omega)
  simp only [hz1, Int.toNat_natCast, Nat.mul_one] at hmk
  have HBM := hid (Blk.made w 3 .i64 k)
  have HB0 : Hid (Below w.heap.size w (w.alloc (.cells (madeCells #[.int .i64 0] k) 3))) := (Below.refl _ _).alloc (Nat.le_refl _) _
  have hk0 : decide ((k : Int) < 0) = false := by simp
  have hk1 : decide (64 < (k : Int)) = false := by simp; omega
  clear HP hb hi hz0 hz1 hz2
  go_enter Tryz.func100, Tryz.ntmps100
  go_wp2_with (go_at_call 108; refine HM.out.mono ?_; rintro e w1 ⟨rfl, rfl⟩)
  generalize World.alloc _ _ = w2 at *
  generalize hgs : w1.heap.size = g at *
  have HG := hid hgs
  clear hgs
  go_loopw [30] (fun ix wr => ∃ i : Nat, i ≤ k ∧ ix = .int .i64 i ∧ Hid (Blk wr g 3 .i64 k k (fun j => if j < i then placeN h b j else 0)) ∧ Hid (Below g w1 wr)) (fun ix _ => k - (intOf ix).toNat)
  case atStart => exact ⟨0, Nat.zero_le _, rfl, HBM.out.ext (fun j _ => by simp), HB0⟩
  case round =>
    clear HBM HB0 hmk
    obtain ⟨i, hi, rfl, HK, HB⟩ := hrel
    by_cases hlt : i < k
    · have hki : (i : Int) < (k : Int) := by omega
      have hf := HK.out.frozen i
      have hc := HK.out.cell hlt
      have hm : i * D < 4294967296 * 64 := by
        have := Nat.mul_le_mul (show i ≤ 63 by omega) (show D ≤ 4294967295 by omega)
        omega
      have hme : (i : Int) * (D : Int) = ((i * D : Nat) : Int) := by simp
      have HPi := hid (HPl.out i)
      generalize i * D = M at *
      have hrem : ((A : Int) + (M : Int)) % (b : Int) = (((A + M) % b : Nat) : Int) := by simp
      have hlt2 : (A + M) % b < b := Nat.mod_lt _ hp0
      generalize (A + M) % b = R at *
      go_wp2_with fail
      refine ⟨⟨i + 1, by omega, by go_num, (HK.out.store i R).ext fun j _ => ?_, HB.out.setCell (p := ⟨g, i, none⟩) (Nat.le_refl _) _⟩, by simp [intOf]; omega⟩
      rw [← HPi.out]
      unfold upd
      by_cases hj : j = i
      · subst hj; simp
      · by_cases hj2 : j < i
        · simp [hj, hj2, show j < i + 1 by omega]
        · simp [hj, hj2, show ¬ j < i + 1 by omega]
    · obtain rfl : i = k := by omega
      go_wp2_with fail
      go_ret2
      exact ⟨g, rfl, HK.out.ext (fun j hj => if_pos hj), by rw [HG.out]; exact Nat.le_refl _, by rw [HG.out]; exact HB.out⟩
/-- Bytes that are written out. -/
def litB (l : List Nat) : Nat → Nat := fun j => l.getD j 0
theorem nums_lit (w : World) (l : List Nat) (t : TypeId) (arr : Array Value) (fr : Nat × Nat) (h : arr.toList = l.map fun (x : Nat) => Value.int .u8 (x : Int)) : Nums (w.alloc (.cells arr t fr)) .u8 (some ⟨w.heap.size, 0, none⟩) l.length (litB l) := fun j hj => by
  refine ⟨w.heap.size, 0, rfl, by simp, ?_⟩
  rw [Nat.zero_add, cell_of_row _ w.heap.size j arr t fr (heap_alloc_new w _), ← Array.getElem?_toList, h]
  simp [litB, hj]
theorem hash_lit (l : List Nat) (w : World) (t : TypeId) (arr : Array Value) (fr : Nat × Nat) (N s : Nat) (h : arr.toList = l.map fun (x : Nat) => Value.int .u8 (x : Int)) (hb : ∀ j, j < l.length → litB l j < 256) (hN : l.length = N) (hl : l.length ≤ 100) (hs : hashN (litB l) N = s) : Calls Tryz.prog 101 #[.slice (some ⟨w.heap.size, 0, none⟩) N N] (w.alloc (.cells arr t fr)) fun e w' => e = .returned (.int .u64 (s : Int)) ∧ w' = w.alloc (.cells arr t fr) := by
  subst hN hs
  exact hash_any _ _ _ _ _ (nums_lit w l t arr fr h) hb (by omega)
def t19 : List Nat := [49, 50, 51, 52, 53, 54, 55, 56, 57]
theorem hashA (w : World) : Calls Tryz.prog 101 #[.slice (some ⟨w.heap.size, 0, none⟩) 1 1] (w.alloc (.cells #[.int .u8 97] 5 (1, 2))) fun e w' => e = .returned (.int .u64 12638187200555641996) ∧ w' = w.alloc (.cells #[.int .u8 97] 5 (1, 2)) :=
  hash_lit [97] w _ _ _ 1 12638187200555641996 rfl (by decide) rfl (by decide) (by decide +kernel)
theorem four_at {w : World} {g : Nat} (h : Blk w g 3 .i64 4 4 (placeN 12884901893 (2 ^ 3))) : w.cell? ⟨g, 0, none⟩ = some (.int .i64 5) ∧ w.cell? ⟨g, 1, none⟩ = some (.int .i64 0) ∧ w.cell? ⟨g, 2, none⟩ = some (.int .i64 3) ∧ w.cell? ⟨g, 3, none⟩ = some (.int .i64 6) := by
  have h0 := h.cell (show 0 < 4 by omega)
  have h1 := h.cell (show 1 < 4 by omega)
  have h2 := h.cell (show 2 < 4 by omega)
  have h3 := h.cell (show 3 < 4 by omega)
  rw [show placeN 12884901893 (2 ^ 3) 0 = 5 by decide +kernel] at h0
  rw [show placeN 12884901893 (2 ^ 3) 1 = 0 by decide +kernel] at h1
  rw [show placeN 12884901893 (2 ^ 3) 2 = 3 by decide +kernel] at h2
  rw [show placeN 12884901893 (2 ^ 3) 3 = 6 by decide +kernel] at h3
  exact ⟨h0, h1, h2, h3⟩
end Go.Proofs.YtobmehajknmniaaGreat

/-
  THE WALK OF CheckPlaces.
-/
namespace Go.Proofs.YtobmehajknmniaaGreat
open Go.RowKit Crc

def anyPow (b : Int) (k : Nat) : Bool := (List.range k).any fun x => b == ((2 ^ x : Nat) : Int)
theorem anyPow_step (b : Int) (k : Nat) : anyPow b (k + 1) = (anyPow b k || b == ((2 ^ k : Nat) : Int)) := by
  unfold anyPow
  rw [List.range_succ, List.any_append]
  simp
/-- What the document's Places answers. -/
def PlAns (w : World) (h : Nat) (b : Int) (k : Int) (e : Ending) (w' : World) : Prop :=
  if isPow b = true ∧ 0 ≤ k ∧ k ≤ 64 then ∃ a c, e = .returned (.tuple #[.slice a k.toNat c, .int .i64 0]) ∧ Nums w' .i64 a k.toNat (placeN h b.toNat) ∧ Below w.heap.size w w'
  else e = .returned (.tuple #[.slice none 0 0, .int .i64 2]) ∧ w' = w
theorem or1_eq (d : Nat) : d ||| 1 = if d % 2 = 0 then d + 1 else d := by
  apply bit_ext
  intro i
  rw [Nat.testBit_or]
  split
  · rename_i h
    obtain ⟨e, rfl⟩ : ∃ e, d = 2 * e := ⟨d / 2, by omega⟩
    cases i with
    | zero => simp [Nat.testBit_zero]
    | succ i =>
      rw [Nat.testBit_succ, Nat.testBit_succ, Nat.testBit_succ, show (2 * e + 1) / 2 = 2 * e / 2 by omega]
      simp
  · rename_i h
    cases i with
    | zero => simp [Nat.testBit_zero]; omega
    | succ i => rw [Nat.testBit_succ, Nat.testBit_succ]; simp
end Go.Proofs.YtobmehajknmniaaGreat

/-
  THE WALKS OF CheckHashes, CheckGoes.
-/
namespace Go.Proofs.YtobmehajknmniaaGreat
open Go.RowKit Crc

theorem ref_mul (z : Nat) : IntKind.u64.wrap (IntKind.u64.wrap ((z : Int) * 1099511627776) + IntKind.u64.wrap ((z : Int) * 435)) = ((z * 1099511628211 % 18446744073709551616 : Nat) : Int) := by
  simp only [IntKind.wrap_u64]
  omega
end Go.Proofs.YtobmehajknmniaaGreat
