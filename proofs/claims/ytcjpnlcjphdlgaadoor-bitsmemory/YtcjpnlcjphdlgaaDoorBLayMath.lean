/-
  PLAIN MATHEMATICS: a set's words laid into the words of a longer one, by a higher.
-/
import Derived.Test.YtcjpnlcjphdlgaaDoorBPack
namespace Go.Proofs.YtcjpnlcjphdlgaaDoor.Bt

/-- f, and from a on what h holds. -/
def joinF (f h : Nat → Bool) (a : Nat) : Nat → Bool := fun i => f i || (decide (a ≤ i) && h (i - a))
/-- The first k words of h alone. -/
def firstW (h : Nat → Bool) (k : Nat) : Nat → Bool := fun i => decide (i < 64 * k) && h i
/-- G, and in word j what h holds, by a higher. -/
def lay1F (G h : Nat → Bool) (a j k : Nat) : Nat → Bool := fun i => G i || (decide (i / 64 = j) && (decide (a + 64 * k ≤ i) && h (i - a)))

theorem shl_bit (x s i : Nat) : (x * 2 ^ s % 18446744073709551616).testBit i = (decide (i < 64) && (decide (s ≤ i) && x.testBit (i - s))) := by
  rw [show (18446744073709551616 : Nat) = 2 ^ 64 by decide, Nat.testBit_mod_two_pow, Nat.mul_comm, Nat.testBit_two_pow_mul]
theorem shr_bit (x s i : Nat) : (x / 2 ^ s).testBit i = x.testBit (i + s) := by
  rw [Nat.testBit_div_two_pow, Nat.add_comm]

theorem lay_first {n q r k a x0 s : Nat} {G h : Nat → Bool} (ha : a = 64 * q + r) (hr : r < 64) (hj : q + k < wordsOf n) (hx : (packF n G).getD (q + k) 0 = x0) (hs : wrd h k * 2 ^ r % 18446744073709551616 = s) :
    (packF n G).set (q + k) (x0 ||| s) = packF n (lay1F G h a (q + k) k) := by
  subst hx hs
  refine packF_set (or64_lt (packF_lt _ _ _) (Nat.mod_lt _ (by omega))) ?_ ?_
  · intro t ht
    rw [packF_get _ _ _ hj, Nat.testBit_or, wrd_bit, shl_bit, wrd_bit]
    unfold lay1F
    rw [show (64 * (q + k) + t) / 64 = q + k by omega]
    by_cases h1 : r ≤ t
    · rw [show 64 * (q + k) + t - a = 64 * k + (t - r) by omega]
      simp [ht, h1, show a + 64 * k ≤ 64 * (q + k) + t by omega, show t - r < 64 by omega]
    · simp [ht, h1, show ¬ a + 64 * k ≤ 64 * (q + k) + t by omega]
  · intro i hi
    unfold lay1F
    simp [hi]

theorem lay_rest {f h : Nat → Bool} {a q r k i : Nat} (ha : a = 64 * q + r) (hr : r < 64) (hi : i / 64 ≠ q + k + 1) :
    joinF f (firstW h (k + 1)) a i = lay1F (joinF f (firstW h k) a) h a (q + k) k i := by
  unfold joinF firstW lay1F
  by_cases h1 : a ≤ i
  · by_cases h2 : i - a < 64 * k
    · simp [h1, h2, show i - a < 64 * (k + 1) by omega, show ¬ a + 64 * k ≤ i by omega]
    · by_cases h3 : i - a < 64 * (k + 1)
      · simp [h1, h2, h3, show a + 64 * k ≤ i by omega, show i / 64 = q + k by omega]
      · simp [h1, h2, h3, show ¬ i / 64 = q + k by omega]
  · simp [h1, show ¬ a + 64 * k ≤ i by omega]
theorem lay_over {f h : Nat → Bool} {a q r k t : Nat} (ha : a = 64 * q + r) (hr : r < 64) (ht : t < 64) :
    joinF f (firstW h (k + 1)) a (64 * (q + k + 1) + t) = (lay1F (joinF f (firstW h k) a) h a (q + k) k (64 * (q + k + 1) + t) || (wrd h k / 2 ^ (64 - r)).testBit t) := by
  rw [shr_bit, wrd_bit]
  unfold joinF firstW lay1F
  by_cases h1 : t + (64 - r) < 64
  · rw [show 64 * (q + k + 1) + t - a = 64 * k + (t + (64 - r)) by omega]
    simp [show a ≤ 64 * (q + k + 1) + t by omega, show 64 * k + (t + (64 - r)) < 64 * (k + 1) by omega, show ¬ 64 * (q + k + 1) + t - a < 64 * k by omega, h1,
      show ¬ (64 * (q + k + 1) + t) / 64 = q + k by omega]
  · simp [show ¬ 64 * (q + k + 1) + t - a < 64 * (k + 1) by omega, show ¬ 64 * (q + k + 1) + t - a < 64 * k by omega, h1, show ¬ (64 * (q + k + 1) + t) / 64 = q + k by omega]
theorem lay_second {n q r k a x1 o : Nat} {f h : Nat → Bool} (ha : a = 64 * q + r) (hr : r < 64) (hj : q + k + 1 < wordsOf n)
    (hx : (packF n (lay1F (joinF f (firstW h k) a) h a (q + k) k)).getD (q + k + 1) 0 = x1) (ho : wrd h k / 2 ^ (64 - r) = o) :
    (packF n (lay1F (joinF f (firstW h k) a) h a (q + k) k)).set (q + k + 1) (x1 ||| o) = packF n (joinF f (firstW h (k + 1)) a) := by
  subst hx ho
  refine packF_set (or64_lt (packF_lt _ _ _) (Nat.lt_of_le_of_lt (Nat.div_le_self _ _) (wrd_lt _ _))) ?_ ?_
  · intro t ht
    rw [packF_get _ _ _ hj, Nat.testBit_or, lay_over ha hr ht, wrd_bit]
    simp [ht]
  · intro i hi
    exact lay_rest ha hr hi
theorem lay_none {n q r k a : Nat} {f h : Nat → Bool} (ha : a = 64 * q + r) (hr : r < 64) (ho : wrd h k / 2 ^ (64 - r) = 0) :
    packF n (lay1F (joinF f (firstW h k) a) h a (q + k) k) = packF n (joinF f (firstW h (k + 1)) a) := by
  apply packF_congr
  intro i _
  by_cases hi : i / 64 = q + k + 1
  · obtain ⟨t, ht, rfl⟩ : ∃ t, t < 64 ∧ i = 64 * (q + k + 1) + t := ⟨i % 64, by omega, by omega⟩
    rw [lay_over ha hr ht, ho]; simp
  · exact (lay_rest ha hr hi).symm
/-- What stands over lies within. -/
theorem lay_room {n m q r k a : Nat} {h : Nat → Bool} (ha : a = 64 * q + r) (ht : Tail m h) (ham : a + m ≤ n) (ho : wrd h k / 2 ^ (64 - r) ≠ 0) : q + k + 1 < wordsOf n := by
  obtain ⟨t, hb⟩ := Nat.exists_testBit_of_ne_zero ho
  rw [shr_bit, wrd_bit] at hb
  have h1 : t + (64 - r) < 64 ∧ h (64 * k + (t + (64 - r))) = true := by simpa using hb
  have h2 : 64 * k + (t + (64 - r)) < m := by
    apply Nat.lt_of_not_le
    intro hle
    rw [ht _ hle] at h1; exact absurd h1.2 (by simp)
  unfold wordsOf; omega
theorem firstW_zero (f h : Nat → Bool) (a : Nat) : joinF f (firstW h 0) a = f := by
  funext i; simp [joinF, firstW]
theorem firstW_all {m k : Nat} {h : Nat → Bool} (ht : Tail m h) (hk : m ≤ 64 * k) : firstW h k = h := by
  funext i
  unfold firstW
  by_cases h1 : i < 64 * k
  · simp [h1]
  · simp [h1, ht i (by omega)]
end Go.Proofs.YtcjpnlcjphdlgaaDoor.Bt
