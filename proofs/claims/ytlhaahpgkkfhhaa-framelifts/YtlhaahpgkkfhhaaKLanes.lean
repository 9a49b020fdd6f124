/-
  PLAIN MATHEMATICS of lanes; memory that is made.
-/
import Derived.Test.YtlhaahpgkkfhhaaKLay
import Derived.Test.YtlhaahpgkkfhhaaKLen
namespace Go.Proofs.Ytlhaahpgkkfhhaa.Pk
open Go.RowKit

/-- One number more. -/
theorem lane_step {k i a s : Nat} {L : Nat → Nat} (hL : L i < 2 ^ k) (has : 8 * a + s = i * k) : laid (byt (laneB i k L)) a (L i * 2 ^ s) = byt (laneB (i + 1) k L) := by
  rw [← byt_bitB (laid_lt (byt_lt _))]
  congr 1
  funext x
  rw [laid_bits, bitB_byt, has]
  unfold laneB
  have hm : (i + 1) * k = i * k + k := Nat.succ_mul i k
  by_cases h1 : x < i * k
  · simp [h1, show x < (i + 1) * k by omega, show ¬ i * k ≤ x by omega]
  · obtain ⟨d, rfl⟩ : ∃ d, x = i * k + d := ⟨x - i * k, by omega⟩
    by_cases h2 : d < k
    · rw [lane_div h2, lane_mod h2]
      simp [show i * k + d < (i + 1) * k by omega]
    · rw [show i * k + d - i * k = d by omega, bit_high hL (by omega)]
      simp [show ¬ i * k + d < (i + 1) * k by omega]
      intro; omega
theorem lane_fit {n k i a s v : Nat} (hi : i < n) (has : 8 * a + s = i * k) (hv : v < 2 ^ k) : v * 2 ^ s < 2 ^ (8 * ((n * k + 7) / 8 - a)) := by
  have h1 : (i + 1) * k ≤ n * k := Nat.mul_le_mul_right k hi
  have hm : (i + 1) * k = i * k + k := Nat.succ_mul i k
  have h2 : v * 2 ^ s < 2 ^ (k + s) := by rw [Nat.pow_add]; exact Nat.mul_lt_mul_of_pos_right hv (Nat.two_pow_pos _)
  exact Nat.lt_of_lt_of_le h2 (Nat.pow_le_pow_right (by omega) (by omega))
theorem lane_none (k : Nat) (L : Nat → Nat) (j : Nat) : byt (laneB 0 k L) j = 0 := wordOf_none 8 fun t _ => by unfold laneB; simp
theorem byteN_nat {n k : Nat} (hn : n ≤ 16777216) (hk : k ≤ 64) : byteN (n : Int) (k : Int) = (((n * k + 7) / 8 : Nat) : Int) := by
  unfold byteN
  rw [if_pos ⟨by omega, by omega, isWidth_nat k hk⟩, ← Int.natCast_mul]
  omega
theorem byteE_nat {n k : Nat} (hn : n ≤ 16777216) (hk : k ≤ 64) : byteE (n : Int) (k : Int) = 0 := by
  unfold byteE
  rw [if_neg (by omega), if_neg (by omega), if_pos (isWidth_nat k hk)]
theorem byteE_ok {n : Nat} {width : Int} (h : byteE (n : Int) width = 0) : n ≤ 16777216 ∧ ∃ k : Nat, width = (k : Int) ∧ k ≤ 64 := by
  unfold byteE at h
  rw [if_neg (by omega)] at h
  by_cases h1 : (16777216 : Int) < (n : Int)
  · rw [if_pos h1] at h; omega
  · rw [if_neg h1] at h
    by_cases h2 : isWidth width = true
    · exact ⟨by omega, isWidth_yes h2⟩
    · rw [if_neg h2] at h; omega
theorem byteE_nz {n : Nat} {width : Int} (h : byteE (n : Int) width ≠ 0) : byteN (n : Int) width = 0 := by
  unfold byteN
  rw [if_neg]
  intro ⟨h1, h2, h3⟩
  obtain ⟨k, rfl, hk⟩ := isWidth_yes h3
  exact h (byteE_nat (by omega) hk)

theorem nat_bne {z : Nat} (h : z ≠ 0) : ((z : Int) != 0) = true := by simpa using h
theorem Blk.made (w : World) (e : TypeId) (k : IntKind) (m : Nat) : Blk (w.alloc (.cells (madeCells #[.int k 0] m) e)) w.heap.size e k m m (fun _ => 0) := by
  refine ⟨_, heap_alloc_new w _, by simp [madeCells], Nat.le_refl _, fun j hj => ?_⟩
  simp [madeCells, Nat.mod_one, hj]
end Go.Proofs.Ytlhaahpgkkfhhaa.Pk
