/-
  fault, the ends of codes, a copy.
-/
import Derived.Test.YtlhaahpgkkfhhaaFPut
import Derived.Test.YtlhaahpgkkfhhaaKUnpackU64
import Derived.Laws.CopyRow
import Derived.Laws.MakeOwn
import Derived.Laws.OwnMore
namespace Go.Proofs.Ytlhaahpgkkfhhaa
open Go.ChangeShapes Go.WideShapes Go.ChangeAt Go.RowKit Fr

def faultE (b : List Nat) (n width : Int) : Int := if Pk.byteE n width ≠ 0 then Pk.byteE n width else if (b.length : Int) < Pk.byteN n width then 22 else if Pk.byteN n width < (b.length : Int) ∨ tailZ b n.toNat width.toNat ≠ 0 then 23 else 0
theorem byteE_int {n width : Int} (h : Pk.byteE n width = 0) : ∃ m k : Nat, n = (m : Int) ∧ width = (k : Int) ∧ m ≤ 16777216 ∧ k ≤ 64 := by
  by_cases h0 : n < 0
  · unfold Pk.byteE at h; rw [if_pos h0] at h; omega
  · obtain ⟨m, rfl⟩ : ∃ m : Nat, n = (m : Int) := ⟨n.toNat, by omega⟩
    obtain ⟨h1, k, h2, h3⟩ := Pk.byteE_ok h
    exact ⟨m, k, rfl, h2, h1, h3⟩
theorem lane_is {m k i : Nat} (hk : k ≤ 64) (hi : i < m) : Pk.atIs ((m * k + 7) / 8) (k : Int) (i : Int) = true := by
  rw [Pk.atIs_in hk]
  rcases Nat.eq_zero_or_pos k with rfl | hp
  · simp
  · have h1 : (i + 1) * k ≤ m * k := Nat.mul_le_mul_right k hi
    have h2 : i + 1 ≤ 8 * ((m * k + 7) / 8) / k := (Nat.le_div_iff_mul_le hp).2 (by omega)
    simp; omega
theorem lane_at {B : Nat → Nat} {m k i : Nat} (hk : k ≤ 64) (hi : i < m) : Pk.atV B ((m * k + 7) / 8) (k : Int) (i : Int) = Pk.laneOf (Pk.bitB B) k i := by
  unfold Pk.atV
  rw [if_pos (lane_is hk hi), Int.toNat_natCast, Int.toNat_natCast]
structure Ends (c : List Nat) (mn mx : Nat) : Prop where
  all : ∀ x ∈ c, mn ≤ x ∧ x ≤ mx
  is : c ≠ [] → mn ∈ c ∧ mx ∈ c
  none : c = [] → mn = 0 ∧ mx = 0
theorem lane_lt64 (b : List Nat) {k : Nat} (hk : k ≤ 64) (i : Nat) : Pk.laneOf (Pk.bitB (ofL b)) k i < 18446744073709551616 :=
  Nat.lt_of_lt_of_le (Pk.laneOf_lt _ _ _) (Nat.pow_le_pow_right (n := 2) (by omega) hk)
theorem ends_of {b : List Nat} {n k mn mx : Nat} {F : Nat → Nat} (hF : F = Pk.laneOf (Pk.bitB (ofL b)) k) (h1 : ∀ j, j < n → mn ≤ F j ∧ F j ≤ mx) (h2 : n = 0 → mn = 0) (h3 : 0 < n → ∃ j, j < n ∧ mn = F j) (h4 : mx = 0 ∨ ∃ j, j < n ∧ mx = F j) : Ends (unpackL b n k) mn mx := by
  have hmem : ∀ x, x ∈ unpackL b n k ↔ ∃ j, j < n ∧ x = F j := fun x => by
    unfold unpackL
    rw [← hF]
    simp only [List.mem_map, List.mem_range]
    exact ⟨fun ⟨j, hj, e⟩ => ⟨j, hj, e.symm⟩, fun ⟨j, hj, e⟩ => ⟨j, hj, e.symm⟩⟩
  refine ⟨fun x hx => ?_, fun hne => ?_, fun he => ?_⟩
  · obtain ⟨j, hj, rfl⟩ := (hmem x).1 hx
    exact h1 j hj
  · have hn0 : 0 < n := by
      apply Nat.pos_of_ne_zero
      intro h; apply hne
      exact List.eq_nil_of_length_eq_zero (by rw [unpackL_len]; exact h)
    refine ⟨(hmem _).2 (h3 hn0), (hmem _).2 ?_⟩
    rcases h4 with rfl | h4
    · exact ⟨0, hn0, by have := (h1 0 hn0).2; omega⟩
    · exact h4
  · have hn0 : n = 0 := by rw [← unpackL_len b n k, he]; rfl
    refine ⟨h2 hn0, ?_⟩
    rcases h4 with h4 | ⟨j, hj, _⟩
    · exact h4
    · omega
end Go.Proofs.Ytlhaahpgkkfhhaa
