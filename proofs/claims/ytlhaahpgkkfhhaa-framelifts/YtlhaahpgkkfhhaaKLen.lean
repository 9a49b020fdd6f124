/-
  Len64, and the two Widths.
-/
import Derived.Test.YtlhaahpgkkfhhaaKSmall
import Derived.Lib.Strings
import Derived.Lib.Slices
import Derived.Lib.Small
namespace Go.Proofs.Ytlhaahpgkkfhhaa.Pk
open Go.RowKit

theorem tab_at (j : Nat) (h : j < Lib.len8tab.size) : ((Lib.len8tab[j].toNat : Nat) : Int) = (Lib.bitLen j : Int) ∧ Lib.bitLen j ≤ 8 := by
  have hs := Lib.len8tab_size
  have h8 := Lib.len8_of (j : Int) (by omega) (by omega)
  have hl := Lib.bitLen_le8' (j : Int) (by omega) (by omega)
  simp only [Int.toNat_natCast] at h8 hl
  refine ⟨?_, hl⟩
  rw [← h8, Lib.len8]
  simp [h]
theorem wrap64_left (n : Int) (h0 : -9223372036854775808 ≤ n) (h1 : n ≤ 9223372036854775807) : wrap64 n = n := by unfold wrap64; omega
/-- One way through Len64: k bits off, a byte left. -/
theorem len_way {x : Int} {j : Nat} (h : j < Lib.len8tab.size) (k : Nat) (h0 : 0 ≤ x) (hx : x ≤ 18446744073709551615) (hk : k ≤ 56) (hj : x.toNat / 2 ^ k = j) (hge : k = 0 ∨ 2 ^ k ≤ x.toNat) :
    (k : Int) + wrap64 ((Lib.len8tab[j].toNat : Nat) : Int) = (Lib.bitLen x.toNat : Int) ∧ (Lib.bitLen x.toNat : Int) ≤ 64 := by
  obtain ⟨e, l⟩ := tab_at j h
  have s : Lib.bitLen x.toNat = k + Lib.bitLen j := by
    rcases hge with rfl | hge
    · simp at hj; rw [hj]; omega
    · exact bitLen_parts (by omega) hge hj
  rw [e, s, wrap64_left _ (by omega) (by omega)]
  omega
theorem len_end {a b : Int} (h : a = b ∧ b ≤ 64) (h0 : 0 ≤ b) : wrap64 a = b := by
  rw [h.1, wrap64_left _ (by omega) (by omega)]

end Go.Proofs.Ytlhaahpgkkfhhaa.Pk
