/-
  WHAT THE LOOP OF chosen PUTS TOGETHER (plain mathematics).
-/
import Derived.Test.YtoephmcmmbhnaacLLay
import Derived.Test.YtoephmcmmbhnaacLPacked
import Derived.Test.YtoephmcmmbhnaacBitsAll
namespace Go.Proofs.Ytoephmcmmbhnaac.Ln
open Go.RowKit Go.Sort
open Bt (wrd packF joinF firstW lay1F wordsOf wcells Tail)

/-- The numbers below a that P chooses. -/
def chF (f : Nat → Bool) (k m : Nat) (P : Nat → Bool) (a : Nat) : Nat → Bool := fun i => decide (i < a) && (decide (i < m) && P (laneOf f k i))
/-- Those of one word, from a on. -/
def chH (f : Nat → Bool) (k m : Nat) (P : Nat → Bool) (a : Nat) : Nat → Bool := fun j => decide (j < lanesOf k) && (decide (a + j < m) && P (laneOf f k (a + j)))
def askW (k : Nat) (P : Nat → Bool) (x : Nat) : Nat := markN (fun j => P (laneW x k j)) k (lanesOf k)
theorem chF_zero (f : Nat → Bool) (k m : Nat) (P : Nat → Bool) : chF f k m P 0 = fun _ => false := by funext i; simp [chF]
theorem chF_all {f : Nat → Bool} {k m : Nat} {P : Nat → Bool} {a : Nat} (h : m ≤ a) : chF f k m P a = fun i => decide (i < m) && P (laneOf f k i) := by
  funext i
  unfold chF
  by_cases hi : i < m
  · simp [hi, show i < a by omega]
  · simp [hi]
theorem chF_step (f : Nat → Bool) (k m : Nat) (P : Nat → Bool) (a : Nat) : joinF (chF f k m P a) (chH f k m P a) a = chF f k m P (a + lanesOf k) := by
  funext i
  unfold joinF chF chH
  by_cases h : i < a
  · simp [h, show ¬ a ≤ i by omega, show i < a + lanesOf k by omega]
  · have e : a + (i - a) = i := by omega
    rw [e]
    by_cases h2 : i - a < lanesOf k
    · simp [h, show a ≤ i by omega, h2, show i < a + lanesOf k by omega]
    · simp [h, h2, show ¬ i < a + lanesOf k by omega]
theorem chH_tail (f : Nat → Bool) (k m : Nat) (P : Nat → Bool) (a : Nat) : Tail 64 (chH f k m P a) := fun j hj => by
  have := lanes_le k
  unfold chH; simp; omega
theorem chH_room {f : Nat → Bool} {k m : Nat} {P : Nat → Bool} {a i : Nat} (h : chH f k m P a i = true) : a + i < m := by
  unfold chH at h; simp at h; exact h.2.1
theorem lane_of_word {f : Nat → Bool} {k a j : Nat} (hk1 : 1 ≤ k) (hj : j < lanesOf k) : laneW (wordZ f ((a * k : Nat) : Int)) k j = laneOf f k (a + j) := by
  refine wordOf_ext (laneW_lt _ _ _) fun r hr => ?_
  have := (lane_place hk1 hj).1
  rw [laneW_bit, wordZ_nat, wordOf_bit]
  simp only [hr, decide_true, Bool.true_and, show j * k + r < 64 by omega]
  congr 1
  rw [Nat.add_mul]; omega
theorem ask_word {f : Nat → Bool} {k m a : Nat} {P : Nat → Bool} (hk1 : 1 ≤ k) :
    marksW k (askW k P (wordZ f ((a * k : Nat) : Int))) (lanesOf k) &&& lowN (m - a) = wrd (chH f k m P a) 0 := by
  refine Bt.wrd_ext ?_ fun p hp => ?_
  · exact Nat.lt_of_le_of_lt Nat.and_le_right (lowN_lt _)
  · rw [Nat.testBit_and, lowN_bit]
    unfold askW
    rw [marksW_mark hk1]
    unfold chH
    simp only [Nat.mul_zero, Nat.zero_add]
    by_cases h1 : p < lanesOf k
    · rw [lane_of_word hk1 h1]
      by_cases h2 : a + p < m
      · simp [h1, h2, hp, show p < m - a by omega]
      · simp [h2, show ¬ p < m - a by omega]
    · simp [h1]
theorem askW_lt (k : Nat) (P : Nat → Bool) (x : Nat) (hk1 : 1 ≤ k) : askW k P x < 18446744073709551616 := marks_lt _ hk1
theorem marks64 {k x : Nat} (hk1 : 1 ≤ k) : marksW k x (lanesOf k) < 18446744073709551616 := Nat.lt_of_lt_of_le (marksW_lt hk1 _) (Nat.pow_le_pow_right (n := 2) (by omega) (lanes_le k))
end Go.Proofs.Ytoephmcmmbhnaac.Ln
