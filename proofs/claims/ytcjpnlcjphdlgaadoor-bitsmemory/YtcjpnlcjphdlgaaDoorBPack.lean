/-
  PLAIN MATHEMATICS: a set of numbers below n as words. f: which numbers are in it.
-/
import Derived.Test.YtcjpnlcjphdlgaaDoorBPart
namespace Go.Proofs.YtcjpnlcjphdlgaaDoor.Bt

/-- Word j of f. -/
def wrd (f : Nat → Bool) (j : Nat) : Nat := wordOf (fun k => f (64 * j + k)) 64
def packF (n : Nat) (f : Nat → Bool) : List Nat := (List.range (wordsOf n)).map (wrd f)
/-- Nothing from n on. -/
def Tail (n : Nat) (f : Nat → Bool) : Prop := ∀ i, n ≤ i → f i = false

theorem wrd_lt (f : Nat → Bool) (j : Nat) : wrd f j < 18446744073709551616 := wordOf_lt _ 64
theorem wrd_bit (f : Nat → Bool) (j k : Nat) : (wrd f j).testBit k = (decide (k < 64) && f (64 * j + k)) := wordOf_bit _ _ _
theorem wrd_ext {x : Nat} {f : Nat → Bool} {j : Nat} (h : x < 18446744073709551616) (hb : ∀ k, k < 64 → x.testBit k = f (64 * j + k)) : x = wrd f j := word_ext h hb
theorem wrd_congr {f g : Nat → Bool} {j : Nat} (h : ∀ k, k < 64 → f (64 * j + k) = g (64 * j + k)) : wrd f j = wrd g j := wordOf_congr 64 h
@[simp] theorem length_packF (n : Nat) (f : Nat → Bool) : (packF n f).length = wordsOf n := by simp [packF]
theorem packF_get (n : Nat) (f : Nat → Bool) (j : Nat) (h : j < wordsOf n) : (packF n f).getD j 0 = wrd f j := by
  simp [packF, h]
theorem packF_out (n : Nat) (f : Nat → Bool) (j : Nat) (h : ¬ j < wordsOf n) : (packF n f).getD j 0 = 0 := by
  simp [packF, h]
theorem packF_lt (n : Nat) (f : Nat → Bool) (j : Nat) : (packF n f).getD j 0 < 18446744073709551616 := by
  by_cases h : j < wordsOf n
  · rw [packF_get n f j h]; exact wrd_lt _ _
  · rw [packF_out n f j h]; omega
theorem packF_congr {n : Nat} {f g : Nat → Bool} (h : ∀ i, i < 64 * wordsOf n → f i = g i) : packF n f = packF n g := by
  apply List.map_congr_left
  intro j hj
  simp at hj
  exact wrd_congr fun k hk => h _ (by omega)
theorem wordsOf_lt (n : Nat) : n ≤ 64 * wordsOf n := by unfold wordsOf; omega
theorem packF_congr' {n : Nat} {f g : Nat → Bool} (hf : Tail n f) (hg : Tail n g) (h : ∀ i, i < n → f i = g i) : packF n f = packF n g :=
  packF_congr fun i _ => by
    by_cases hi : i < n
    · exact h i hi
    · rw [hf i (by omega), hg i (by omega)]

theorem wrd_none (j : Nat) : wrd (fun _ => false) j = 0 := by
  have : (0 : Nat) = wrd (fun _ => false) j := wrd_ext (by omega) (fun k _ => by simp)
  exact this.symm
theorem packF_none (n : Nat) : packF n (fun _ => false) = zeros n := by
  unfold packF zeros
  apply List.ext_getElem?
  intro j
  simp only [List.getElem?_map, List.getElem?_replicate]
  by_cases h : j < wordsOf n
  · simp [h, wrd_none]
  · simp [h]

/-- One word turned: the word of i, z in its place. -/
theorem packF_set {n : Nat} {f g : Nat → Bool} {j z : Nat} (hz : z < 18446744073709551616) (hb : ∀ k, k < 64 → z.testBit k = g (64 * j + k)) (ho : ∀ i, i / 64 ≠ j → g i = f i) : (packF n f).set j z = packF n g := by
  apply List.ext_getElem?
  intro t
  rw [List.getElem?_set]
  by_cases ht : t < wordsOf n
  · by_cases hj : j = t
    · subst hj
      simp [packF, ht, ← wrd_ext hz hb]
    · simp [packF, ht, hj]
      exact wrd_congr fun k hk => (ho _ (by omega)).symm
  · simp [packF, ht]
    omega

theorem and64_lt (x : Nat) {y : Nat} (hy : y < 18446744073709551616) : x &&& y < 18446744073709551616 := Nat.lt_of_le_of_lt Nat.and_le_right hy
theorem or64_lt {x y : Nat} (hx : x < 18446744073709551616) (hy : y < 18446744073709551616) : x ||| y < 18446744073709551616 := Nat.or_lt_two_pow (n := 64) hx hy
theorem xor64_lt {x y : Nat} (hx : x < 18446744073709551616) (hy : y < 18446744073709551616) : x ^^^ y < 18446744073709551616 := Nat.xor_lt_two_pow (n := 64) hx hy
theorem wrd_and (f g : Nat → Bool) (j : Nat) : wrd (fun i => f i && g i) j = wrd f j &&& wrd g j :=
  (wrd_ext (and64_lt _ (wrd_lt g j)) fun k hk => by simp [Nat.testBit_and, wrd_bit, hk]).symm
theorem wrd_or (f g : Nat → Bool) (j : Nat) : wrd (fun i => f i || g i) j = wrd f j ||| wrd g j :=
  (wrd_ext (or64_lt (wrd_lt f j) (wrd_lt g j)) fun k hk => by simp [Nat.testBit_or, wrd_bit, hk]).symm
theorem wrd_xor (f g : Nat → Bool) (j : Nat) : wrd (fun i => f i ^^ g i) j = wrd f j ^^^ wrd g j :=
  (wrd_ext (xor64_lt (wrd_lt f j) (wrd_lt g j)) fun k hk => by simp [Nat.testBit_xor, wrd_bit, hk]).symm
theorem bit_flip (y k : Nat) (hy : y < 18446744073709551616) : (18446744073709551615 - y).testBit k = (decide (k < 64) && !y.testBit k) := by
  have := Nat.testBit_two_pow_sub_succ (x := y) (n := 64) hy k
  rw [← this]; congr 1; omega
theorem wrd_less (f g : Nat → Bool) (j : Nat) : wrd (fun i => f i && !g i) j = wrd f j &&& (18446744073709551615 - wrd g j) :=
  (wrd_ext (and64_lt _ (by omega)) fun k hk => by simp [Nat.testBit_and, wrd_bit, hk, bit_flip _ _ (wrd_lt g j)]).symm
theorem zip_and (n : Nat) (f g : Nat → Bool) (k : Nat) : (packF n (fun i => f i && g i)).getD k 0 = (packF n f).getD k 0 &&& (packF n g).getD k 0 := by
  by_cases h : k < wordsOf n
  · rw [packF_get _ _ _ h, packF_get _ _ _ h, packF_get _ _ _ h, wrd_and]
  · rw [packF_out _ _ _ h, packF_out _ _ _ h, packF_out _ _ _ h]; rfl
theorem zip_or (n : Nat) (f g : Nat → Bool) (k : Nat) : (packF n (fun i => f i || g i)).getD k 0 = (packF n f).getD k 0 ||| (packF n g).getD k 0 := by
  by_cases h : k < wordsOf n
  · rw [packF_get _ _ _ h, packF_get _ _ _ h, packF_get _ _ _ h, wrd_or]
  · rw [packF_out _ _ _ h, packF_out _ _ _ h, packF_out _ _ _ h]; rfl
theorem zip_xor (n : Nat) (f g : Nat → Bool) (k : Nat) : (packF n (fun i => f i ^^ g i)).getD k 0 = (packF n f).getD k 0 ^^^ (packF n g).getD k 0 := by
  by_cases h : k < wordsOf n
  · rw [packF_get _ _ _ h, packF_get _ _ _ h, packF_get _ _ _ h, wrd_xor]
  · rw [packF_out _ _ _ h, packF_out _ _ _ h, packF_out _ _ _ h]; rfl
theorem zip_less (n : Nat) (f g : Nat → Bool) (k : Nat) : (packF n (fun i => f i && !g i)).getD k 0 = (packF n f).getD k 0 &&& (18446744073709551615 - (packF n g).getD k 0) := by
  by_cases h : k < wordsOf n
  · rw [packF_get _ _ _ h, packF_get _ _ _ h, packF_get _ _ _ h, wrd_less]
  · rw [packF_out _ _ _ h, packF_out _ _ _ h, packF_out _ _ _ h]; simp

/-- The ones of the words are the numbers in the set. -/
theorem pop_wrd (f : Nat → Bool) (j : Nat) : pop (wrd f j) = cnt (fun k => f (64 * j + k)) 64 :=
  cnt_congr 64 fun k hk => by rw [wrd_bit]; simp [hk]
theorem pops_range (f : Nat → Bool) : ∀ m, pops ((List.range m).map (wrd f)) = cnt f (64 * m)
  | 0 => rfl
  | m + 1 => by
    rw [List.range_succ, List.map_append, List.map_singleton, pops_snoc, pops_range f m, pop_wrd, show 64 * (m + 1) = 64 * m + 64 by omega, cnt_add]
theorem cnt_tail {n m : Nat} {f : Nat → Bool} (h : Tail n f) (hm : n ≤ m) : cnt f m = cnt f n := by
  obtain ⟨d, rfl⟩ := Nat.le.dest hm
  rw [cnt_add, cnt_none d (fun k _ => h _ (by omega))]; omega
theorem pops_packF {n : Nat} {f : Nat → Bool} (h : Tail n f) : pops (packF n f) = cnt f n := by
  rw [packF, pops_range, cnt_tail h (wordsOf_lt n)]
end Go.Proofs.YtcjpnlcjphdlgaaDoor.Bt
