import Derived.Test.YtobmehajknmniaaGreatCAll
import Derived.Test.YtobmehajknmniaaGreatVAll
import Derived.Test.YtobmehajknmniaaGreatRMem
import Derived.Test.YtobmehajknmniaaGreatUAll
/-
  Filters as mathematics.
-/
namespace Go.Proofs.YtobmehajknmniaaGreat
open Go.RowKit Crc Cu Vl

/-- A value: its four fields. -/
structure V where
  K : Int
  I : Int
  b : Nat
  s : ByteArray
def vc (v : V) : List Value := [.int .i64 v.K, .int .i64 v.I, .float .f64 v.b, .string v.s]
theorem vc_len (v : V) : (vc v).length = 4 := rfl
theorem vc_one (v : V) : ∀ u ∈ vc v, u.oneCell' = true := fun u hu => by
  simp [vc] at hu
  rcases hu with rfl | rfl | rfl | rfl <;> rfl
structure VOk (v : V) : Prop where
  k : In64 v.K
  i : In64 v.I
  b : v.b < 18446744073709551616
  s : v.s.size ≤ 281474976710656
def forB (v : V) : Bool := (decide (v.K = 1) || decide (v.K = 2)) && mayB v.K v.I v.b v.s
theorem forB_kind {v : V} (h : forB v = true) : v.K = 1 ∨ v.K = 2 := by
  simp [forB] at h; exact h.1
theorem forB_text {v : V} (h : forB v = true) (hk : v.K = 2) : v.s.size ≤ 65535 := by
  simp [forB, mayB, hk] at h; omega
def isSz (n : Int) : Bool := decide (8 ≤ n) && decide (n ≤ 65536) && isPow n
theorem isSz_iff (n : Int) : isSz n = true ↔ ∃ x, x ≤ 13 ∧ n = ((2 ^ (x + 3) : Nat) : Int) := by
  unfold isSz
  simp only [Bool.and_eq_true, decide_eq_true_eq, isPow_iff]
  constructor
  · rintro ⟨⟨h1, h2⟩, x, hx, rfl⟩
    have hx3 : 3 ≤ x := by
      apply Nat.le_of_not_lt; intro h
      have : 2 ^ x ≤ 2 ^ 2 := Nat.pow_le_pow_right (by omega) (by omega)
      omega
    have hx16 : x ≤ 16 := by
      apply Nat.le_of_not_lt; intro h
      have : 2 ^ 17 ≤ 2 ^ x := Nat.pow_le_pow_right (by omega) (by omega)
      omega
    exact ⟨x - 3, by omega, by rw [Nat.sub_add_cancel hx3]⟩
  · rintro ⟨x, hx, rfl⟩
    have h1 : 2 ^ 3 ≤ 2 ^ (x + 3) := Nat.pow_le_pow_right (by omega) (by omega)
    have h2 : 2 ^ (x + 3) ≤ 2 ^ 16 := Nat.pow_le_pow_right (by omega) (by omega)
    exact ⟨⟨by omega, by omega⟩, x + 3, by omega, rfl⟩
theorem isSz_le {n : Nat} (h : isSz (n : Int) = true) : 8 ≤ n ∧ n ≤ 65536 := by
  simp [isSz] at h; omega
theorem isSz_pow {n : Nat} (h : isSz (n : Int) = true) : ∃ x, x ≤ 13 ∧ n = 2 ^ (x + 3) ∧ 8 * n = 2 ^ (x + 6) := by
  obtain ⟨x, hx, e⟩ := (isSz_iff _).1 h
  have e' : n = 2 ^ (x + 3) := by omega
  exact ⟨x, hx, e', by rw [e', Nat.pow_add, Nat.pow_add]; omega⟩
/-- A number as eight bytes' number. -/
def u64 (i : Int) : Nat := (i % 18446744073709551616).toNat
theorem u64_lt (i : Int) : u64 i < 18446744073709551616 := by unfold u64; omega
theorem u64_int (i : Int) : ((u64 i : Nat) : Int) = i % 18446744073709551616 := by unfold u64; omega
/-- A value's bytes, its hash, its places. -/
def vb (v : V) : List Nat := if v.K = 2 then 2 :: bs v.s else 1 :: fx 8 (u64 v.I)
theorem fx_lt (k v : Nat) : ∀ c ∈ fx k v, c < 256 := by
  induction k generalizing v with
  | zero => intro c hc; simp [fx] at hc
  | succ k ih =>
    intro c hc
    simp only [fx, List.mem_cons] at hc
    rcases hc with rfl | h
    · exact Nat.mod_lt _ (by omega)
    · exact ih _ c h
theorem vb_lt (v : V) : ∀ c ∈ vb v, c < 256 := by
  unfold vb
  split
  · intro c hc
    rcases List.mem_cons.1 hc with rfl | h
    · omega
    · exact bs_lt _ c h
  · intro c hc
    rcases List.mem_cons.1 hc with rfl | h
    · omega
    · exact fx_lt _ _ c h
theorem vb_len {v : V} (h : forB v = true) : (vb v).length ≤ 65536 := by
  unfold vb
  split
  · rename_i hk
    rw [List.length_cons, bs_len]; have := forB_text h hk; omega
  · rw [List.length_cons, fx_len]; omega
def vh (v : V) : Nat := hashN (ofL (vb v)) (vb v).length
theorem vh_lt (v : V) : vh v < 18446744073709551616 := hashN_lt _ _
def pl (n : Nat) (v : V) (i : Nat) : Nat := placeN (vh v) (8 * n) i
theorem pl_lt {n : Nat} (v : V) (i : Nat) (h : 0 < n) : pl n v i < 8 * n := Nat.mod_lt _ (by omega)
/-- Is j one of the first k places? -/
def hasK (n : Nat) (v : V) : Nat → Nat → Bool
  | 0, _ => false
  | k + 1, j => hasK n v k j || decide (pl n v k = j)
def setF (n : Nat) (l : List V) (j : Nat) : Bool := l.any fun v => hasK n v 4 j
theorem setF_snoc (n : Nat) (l : List V) (v : V) (j : Nat) : setF n (l ++ [v]) j = (setF n l j || hasK n v 4 j) := by
  unfold setF; rw [List.any_append]; simp
/-- Bits as bytes. -/
def byF (f : Nat → Bool) (k : Nat) : Nat := (f (8 * k)).toNat + 2 * (f (8 * k + 1)).toNat + 4 * (f (8 * k + 2)).toNat + 8 * (f (8 * k + 3)).toNat + 16 * (f (8 * k + 4)).toNat + 32 * (f (8 * k + 5)).toNat + 64 * (f (8 * k + 6)).toNat + 128 * (f (8 * k + 7)).toNat
theorem by_key : ∀ b0 b1 b2 b3 b4 b5 b6 b7 : Bool, ∀ i : Fin 8, (b0.toNat + 2 * b1.toNat + 4 * b2.toNat + 8 * b3.toNat + 16 * b4.toNat + 32 * b5.toNat + 64 * b6.toNat + 128 * b7.toNat).testBit i.val = [b0, b1, b2, b3, b4, b5, b6, b7].getD i.val false := by decide +kernel
theorem byF_lt (f : Nat → Bool) (k : Nat) : byF f k < 256 := by
  unfold byF
  have h := fun b : Bool => Bool.toNat_le b
  have h0 := h (f (8 * k)); have h1 := h (f (8 * k + 1)); have h2 := h (f (8 * k + 2)); have h3 := h (f (8 * k + 3))
  have h4 := h (f (8 * k + 4)); have h5 := h (f (8 * k + 5)); have h6 := h (f (8 * k + 6)); have h7 := h (f (8 * k + 7))
  omega
theorem byF_bit (f : Nat → Bool) (k i : Nat) : (byF f k).testBit i = (decide (i < 8) && f (8 * k + i)) := by
  by_cases hi : i < 8
  · have := by_key (f (8 * k)) (f (8 * k + 1)) (f (8 * k + 2)) (f (8 * k + 3)) (f (8 * k + 4)) (f (8 * k + 5)) (f (8 * k + 6)) (f (8 * k + 7)) ⟨i, hi⟩
    unfold byF
    rw [this]
    have : i = 0 ∨ i = 1 ∨ i = 2 ∨ i = 3 ∨ i = 4 ∨ i = 5 ∨ i = 6 ∨ i = 7 := by omega
    rcases this with rfl | rfl | rfl | rfl | rfl | rfl | rfl | rfl <;> rfl
  · rw [Nat.testBit_lt_two_pow (Nat.lt_of_lt_of_le (byF_lt f k) (show 2 ^ 8 ≤ 2 ^ i from Nat.pow_le_pow_right (by omega) (by omega)))]
    simp [hi]
theorem byF_ext {f g : Nat → Bool} {k : Nat} (h : ∀ i, i < 8 → f (8 * k + i) = g (8 * k + i)) : byF f k = byF g k := by
  apply Nat.eq_of_testBit_eq
  intro i
  rw [byF_bit, byF_bit]
  by_cases hi : i < 8
  · rw [h i hi]
  · simp [hi]
theorem or_add8 : ∀ x : Fin 256, ∀ i : Fin 8, x.val.testBit i.val = false → x.val ||| 2 ^ i.val = x.val + 2 ^ i.val := by decide +kernel
/-- One more bit. -/
theorem byF_or (f : Nat → Bool) (p k : Nat) : byF (fun m => f m || decide (p = m)) k = if k = p / 8 then byF f k ||| 2 ^ (p % 8) else byF f k := by
  split
  · rename_i h
    subst h
    apply Nat.eq_of_testBit_eq
    intro i
    rw [byF_bit, Nat.testBit_or, byF_bit, Nat.testBit_two_pow]
    by_cases hi : i < 8
    · by_cases e : p % 8 = i
      · have : p = 8 * (p / 8) + i := by omega
        simp [hi, e, ← this]
      · have : ¬ p = 8 * (p / 8) + i := by omega
        simp [hi, e, this]
    · have : ¬ p % 8 = i := by omega
      simp [hi, this]
  · rename_i h
    apply byF_ext
    intro i hi
    have : ¬ p = 8 * k + i := by omega
    simp [this]
theorem byF_zero (k : Nat) : byF (fun _ => false) k = 0 := rfl
def upto (f : Nat → Bool) (j : Nat) : Nat → Bool := fun m => f m && decide (m < j)
/-- The bit j, added. -/
theorem byF_add (f : Nat → Bool) (j k : Nat) : byF (upto f (j + 1)) k = if f j = true ∧ k = j / 8 then byF (upto f j) k + 2 ^ (j % 8) else byF (upto f j) k := by
  split
  · rename_i h
    obtain ⟨hf, rfl⟩ := h
    have h1 : byF (upto f (j + 1)) (j / 8) = byF (fun m => upto f j m || decide (j = m)) (j / 8) := byF_ext fun i _ => by
      unfold upto
      by_cases e : j = 8 * (j / 8) + i
      · rw [← e]; simp [hf]
      · by_cases e2 : 8 * (j / 8) + i < j
        · simp [e, e2, show 8 * (j / 8) + i < j + 1 by omega]
        · simp [e, e2, show ¬ 8 * (j / 8) + i < j + 1 by omega]
    rw [h1, byF_or, if_pos rfl]
    have := or_add8 ⟨byF (upto f j) (j / 8), byF_lt _ _⟩ ⟨j % 8, Nat.mod_lt _ (by omega)⟩
    refine this ?_
    show (byF (upto f j) (j / 8)).testBit (j % 8) = false
    rw [byF_bit]
    unfold upto
    rw [show 8 * (j / 8) + j % 8 = j by omega]
    simp
  · rename_i h
    apply byF_ext
    intro i hi
    unfold upto
    by_cases e : 8 * k + i = j
    · have hk : k = j / 8 := by omega
      have hf : f j = false := by
        cases hq : f j
        · rfl
        · exact absurd ⟨hq, hk⟩ h
      rw [e, hf]; rfl
    · by_cases e2 : 8 * k + i < j
      · simp [e2, show 8 * k + i < j + 1 by omega]
      · simp [e2, show ¬ 8 * k + i < j + 1 by omega]
/-- The filter's bytes. -/
def filt (n : Nat) (l : List V) : List Nat := (List.range n).map (byF (setF n l))
theorem filt_len (n : Nat) (l : List V) : (filt n l).length = n := by simp [filt]
theorem ofL_range {n : Nat} {L : Nat → Nat} {j : Nat} (h : j < n) : ofL ((List.range n).map L) j = L j := by
  unfold ofL
  rw [List.getD_eq_getElem?_getD, List.getElem?_map, List.getElem?_range h]
  rfl
theorem filt_at {n : Nat} (l : List V) {j : Nat} (h : j < n) : ofL (filt n l) j = byF (setF n l) j := ofL_range h
theorem filt_lt (n : Nat) (l : List V) : ∀ c ∈ filt n l, c < 256 := fun c hc => by
  simp only [filt, List.mem_map] at hc
  obtain ⟨k, _, rfl⟩ := hc
  exact byF_lt _ _
def bitL (b : List Nat) (j : Nat) : Bool := (ofL b (j / 8)).testBit (j % 8)
theorem bit_filt {n : Nat} (l : List V) {j : Nat} (h : j < 8 * n) : bitL (filt n l) j = setF n l j := by
  unfold bitL
  rw [filt_at l (by omega), byF_bit, show 8 * (j / 8) + j % 8 = j by omega]
  simp [Nat.mod_lt]
/-- Are the bits at the first k places set? -/
def setK (b : List Nat) (v : V) : Nat → Bool
  | 0 => true
  | k + 1 => setK b v k && bitL b (pl b.length v k)
def hasB (b : List Nat) (v : V) : Bool := if isSz (b.length : Int) = true then (if forB v = true then setK b v 4 else false) else true
def allB (b : List Nat) (l : List V) : Bool := l.all (hasB b)
def buildE (z : Int) (l : List V) : Int := if isSz z = true then (if l.all forB = true then 0 else 50) else 130
def buildR (z : Int) (l : List V) : List Nat := if isSz z = true ∧ l.all forB = true then filt z.toNat l else []
theorem buildR_lt (z : Int) (l : List V) : ∀ c ∈ buildR z l, c < 256 := by
  unfold buildR; split
  · exact filt_lt _ _
  · intro c hc; simp at hc
theorem buildR_len (z : Int) (l : List V) : (buildR z l).length ≤ 65536 := by
  unfold buildR; split
  · rename_i h
    rw [filt_len]
    simp [isSz] at h; omega
  · simp
theorem hasK_at (n : Nat) (v : V) {i k : Nat} (h : i < k) : hasK n v k (pl n v i) = true := by
  induction k with
  | zero => omega
  | succ k ih =>
    by_cases e : i = k
    · subst e; simp [hasK]
    · simp [hasK, ih (by omega)]
theorem setF_mem {n : Nat} {l : List V} {v : V} (h : v ∈ l) {i : Nat} (hi : i < 4) : setF n l (pl n v i) = true := by
  unfold setF
  rw [List.any_eq_true]
  exact ⟨v, h, hasK_at n v hi⟩
theorem setK_of {b : List Nat} {v : V} {k : Nat} (h : ∀ i, i < k → bitL b (pl b.length v i) = true) : setK b v k = true := by
  induction k with
  | zero => rfl
  | succ k ih => simp [setK, ih (fun i hi => h i (by omega)), h k (by omega)]
/-- What was built in is there. -/
theorem has_built {n : Nat} (hn : isSz (n : Int) = true) {l : List V} (hf : l.all forB = true) {v : V} (hv : v ∈ l) : hasB (filt n l) v = true := by
  unfold hasB
  rw [filt_len, if_pos hn, if_pos (List.all_eq_true.1 hf v hv)]
  apply setK_of
  intro i hi
  rw [filt_len, bit_filt l (pl_lt v i (by have := isSz_le hn; omega))]
  exact setF_mem hv hi
theorem all_built {n : Nat} (hn : isSz (n : Int) = true) {l : List V} (hf : l.all forB = true) : allB (filt n l) l = true :=
  List.all_eq_true.2 fun _ hv => has_built hn hf hv
/-- The empty filter has nothing. -/
theorem has_none {n : Nat} (hn : isSz (n : Int) = true) (v : V) : hasB (filt n []) v = false := by
  unfold hasB
  rw [filt_len, if_pos hn]
  split
  · have h0 : bitL (filt n []) (pl n v 0) = false := by
      rw [bit_filt [] (pl_lt v 0 (by have := isSz_le hn; omega))]; rfl
    simp [setK, filt_len, h0]
  · rfl
/-! ### Filters together -/
def orA (ls : List (List Nat)) (k : Nat) : Nat := ls.foldl (fun a b => a ||| ofL b k) 0
theorem orA_snoc (ls : List (List Nat)) (b : List Nat) (k : Nat) : orA (ls ++ [b]) k = orA ls k ||| ofL b k := by unfold orA; rw [List.foldl_append]; rfl
theorem foldl_bit (ls : List (List Nat)) (k i a : Nat) : (ls.foldl (fun a b => a ||| ofL b k) a).testBit i = (a.testBit i || ls.any fun b => (ofL b k).testBit i) := by
  induction ls generalizing a with
  | nil => simp
  | cons b ls ih => rw [List.foldl_cons, ih, Nat.testBit_or, List.any_cons, Bool.or_assoc]
theorem orA_bit (ls : List (List Nat)) (k i : Nat) : (orA ls k).testBit i = ls.any fun b => (ofL b k).testBit i := by
  unfold orA; rw [foldl_bit]; simp
def joinOk (ls : List (List Nat)) : Bool := ls.all fun b => isSz (b.length : Int) && decide (b.length = (ls.headD []).length)
def joinE (ls : List (List Nat)) : Int := if joinOk ls = true then 0 else 130
def joinR (ls : List (List Nat)) : List Nat := if joinOk ls = true then (List.range (ls.headD []).length).map (orA ls) else []
end Go.Proofs.YtobmehajknmniaaGreat
