/-
  Len64, and the two Widths.
-/
import Derived.Test.YtaefdkifijebcaaKSmall
import Derived.Lib.Strings
import Derived.Lib.Slices
import Derived.Lib.Small
namespace Go.Proofs.Ytaefdkifijebcaa.Pk
open Go.RowKit

theorem tab_at (j : Nat) (h : j < Lib.len8tab.size) : ((Lib.len8tab[j].toNat : Nat) : Int) = (Lib.bitLen j : Int) ∧ Lib.bitLen j ≤ 8 := by
  have hs := Lib.len8tab_size
  have h8 := Lib.len8_of (j : Int) (by omega) (by omega)
  have hl := Lib.bitLen_le8' (j : Int) (by omega) (by omega)
  simp only [Int.toNat_natCast] at h8 hl
  refine ⟨?_, hl⟩
  rw [← h8, Lib.len8]
  simp [h]
theorem wrap64_left (n : Int) (h0 : -9223372036854775808 ≤ n) (h1 : n ≤ 9223372036854775807) : wrap64 n = n := by unfold wrap64; omega
/-- One way through Len64: k bits off, a byte left. -/
theorem len_way {x : Int} {j : Nat} (h : j < Lib.len8tab.size) (k : Nat) (h0 : 0 ≤ x) (hx : x ≤ 18446744073709551615) (hk : k ≤ 56) (hj : x.toNat / 2 ^ k = j) (hge : k = 0 ∨ 2 ^ k ≤ x.toNat) :
    (k : Int) + wrap64 ((Lib.len8tab[j].toNat : Nat) : Int) = (Lib.bitLen x.toNat : Int) ∧ (Lib.bitLen x.toNat : Int) ≤ 64 := by
  obtain ⟨e, l⟩ := tab_at j h
  have s : Lib.bitLen x.toNat = k + Lib.bitLen j := by
    rcases hge with rfl | hge
    · simp at hj; rw [hj]; omega
    · exact bitLen_parts (by omega) hge hj
  rw [e, s, wrap64_left _ (by omega) (by omega)]
  omega
theorem len_end {a b : Int} (h : a = b ∧ b ≤ 64) (h0 : 0 ≤ b) : wrap64 a = b := by
  rw [h.1, wrap64_left _ (by omega) (by omega)]

set_option maxHeartbeats 4000000 in
set_option maxRecDepth 100000 in
theorem len64_any (x : Int) (w : World) (h0 : 0 ≤ x) (h1 : x ≤ 18446744073709551615) :
    Calls Try.prog 74 #[.int .u64 x] w fun e w' => e = .returned (.int .i64 (Lib.bitLen x.toNat : Int)) ∧ w' = w := by
  have hs := Lib.len8tab_size
  have HS : Hid (Lib.len8tab.size = 256) := hs
  clear hs
  go_enter Try.func74, Try.ntmps74
  go_wp2
  any_goals (go_ret; refine ⟨ret_int (len_end ?_ (by omega)), rfl⟩)
  any_goals (exfalso; have hs := HS.out; omega)
  · exact len_way _ 56 h0 h1 (by omega) (by omega) (by omega)
  · exact len_way _ 48 h0 h1 (by omega) (by omega) (by omega)
  · exact len_way _ 40 h0 h1 (by omega) (by omega) (by omega)
  · exact len_way _ 32 h0 h1 (by omega) (by omega) (by omega)
  · exact len_way _ 24 h0 h1 (by omega) (by omega) (by omega)
  · exact len_way _ 16 h0 h1 (by omega) (by omega) (by omega)
  · exact len_way _ 8 h0 h1 (by omega) (by omega) (by omega)
  · have := len_way (x := x) (j := x.toNat) (by have hs := HS.out; omega) 0 h0 h1 (by omega) (by simp) (by omega)
    simp only [Int.natCast_zero, Int.zero_add] at this
    exact ⟨this.1, this.2⟩


set_option maxHeartbeats 400000 in
theorem width_any (x : Nat) (w : World) (hx : x < 18446744073709551616) :
    Calls Try.prog 42 #[.int .u64 (x : Int)] w fun e w' => e = .returned (.int .i64 (Lib.bitLen x : Int)) ∧ w' = w := by
  go_enter Try.func42, Try.ntmps42
  go_wp2_with (go_at_call 74; refine (len64_any (x : Int) _ (by omega) (by omega)).mono ?_; rintro e w' ⟨rfl, rfl⟩)
  go_ret
  exact ⟨by simp, rfl⟩
end Go.Proofs.Ytaefdkifijebcaa.Pk
