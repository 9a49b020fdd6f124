/-
  Floats: one divided by a float; a float less itself.
-/
import Derived.Test.YthgnibphhiaecaaAMath
import Derived.Laws.FloatArith
namespace Go.Proofs.Ythgnibphhiaecaa
open Go.RowKit Cu Vl Ieee

theorem word_mod (s : Bool) {r : Nat} (h : r ≤ 9218868437227405312) : (Ieee.double.word s r) % 9223372036854775808 = r := by
  unfold Format.word
  rw [d_sign]
  cases s <;> simp <;> omega
theorem write_le {d : Datum} (h : ∀ b t, d ≠ .nan b t) : (Ieee.double.write d) % 9223372036854775808 ≤ 9218868437227405312 := by
  cases d with
  | number s m e =>
    show (Ieee.double.nearest s m e) % _ ≤ _
    unfold Format.nearest
    split
    · rw [word_mod s (by omega)]; omega
    · dsimp only
      rw [d_inf, word_mod s (Nat.min_le_right _ _)]
      exact Nat.min_le_right _ _
  | infinity s =>
    show (Ieee.double.word s Ieee.double.infRung) % _ ≤ _
    rw [d_inf, word_mod s (Nat.le_refl _)]
    exact Nat.le_refl _
  | nan s t => exact absurd rfl (h s t)
/-- One divided by what is a number is a number. -/
theorem div_one {b : Nat} (h : b % 9223372036854775808 ≤ 9218868437227405312) : ∃ r, Ieee.double.div 4607182418800017408 b = some r ∧ Ieee.double.order r r = some .eq := by
  have key : ∃ d, (Datum.quotient (Ieee.double.fractionBits + 2) (Ieee.double.read 4607182418800017408) (Ieee.double.read b)) = some d ∧ ∀ s t, d ≠ .nan s t := by
    rw [read_one]
    by_cases hi : b % 9223372036854775808 = 9218868437227405312
    · rw [read_inf b hi]
      exact ⟨_, rfl, by intro s t e; cases e⟩
    · obtain ⟨m, k, hr, _, _, hz⟩ := read_num b (by omega)
      rw [hr]
      unfold Datum.quotient
      split <;> rename_i e1 e2
      all_goals first
        | (cases e1; done)
        | (cases e2; done)
        | skip
      all_goals (first | (cases e1; cases e2) | skip)
      by_cases h0 : m = 0
      · rw [if_pos h0, if_neg (by decide)]
        exact ⟨_, rfl, by intro s t e; cases e⟩
      · rw [if_neg h0]
        exact ⟨_, rfl, by intro s t e; cases e⟩
  obtain ⟨d, hd, hn⟩ := key
  refine ⟨Ieee.double.write d, by unfold Format.div; rw [hd]; rfl, ?_⟩
  have := ne_self (Ieee.double.write d)
  rw [decide_eq_false (by have := write_le hn; omega)] at this
  simpa using this
theorem div_zero : Ieee.double.div 4607182418800017408 0 = some 9218868437227405312 := by rfl
theorem div_mzero : Ieee.double.div 4607182418800017408 9223372036854775808 = some 18442240474082181120 := by rfl
theorem ord_inf : Ieee.double.order 9218868437227405312 0 = some .gt := by rfl
theorem ord_minf : Ieee.double.order 18442240474082181120 0 = some .lt := by rfl
/-- A float less itself. -/
theorem sub_self {b : Nat} (h : b % 9223372036854775808 < 9218868437227405312) : Ieee.double.sub b b = some 0 := by
  obtain ⟨m, k, hr, _, _, _⟩ := read_num b h
  unfold Format.sub
  rw [hr]
  generalize (b / 9223372036854775808 % 2 == 1) = s
  simp only [Datum.opposite, Datum.sum, Int.min_self, Int.sub_self]
  have ht : signed s m (Int.toNat 0) + signed (!s) m (Int.toNat 0) = 0 := by unfold signed; cases s <;> simp <;> omega
  rw [ht, if_pos rfl]
  cases s <;> rfl
theorem sub_none {b : Nat} (h : ¬ b % 9223372036854775808 < 9218868437227405312) : Ieee.double.sub b b = none := by
  unfold Format.sub
  by_cases hi : b % 9223372036854775808 = 9218868437227405312
  · rw [read_inf b hi]
    generalize (b / 9223372036854775808 % 2 == 1) = s
    cases s <;> rfl
  · obtain ⟨s, t, hr⟩ := read_nan b (by omega)
    rw [hr]
    rfl
end Go.Proofs.Ythgnibphhiaecaa
