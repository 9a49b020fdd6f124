/-
  Bytes turned; a copy of some bytes.
-/
import Derived.Test.YtijoamhfmophmaaBelow
import Derived.Test.YtijoamhfmophmaaInfo
namespace Go.Proofs.Ytijoamhfmophmaa
open Go.RowKit

/-- The first i of B with their two lowest bits turned. -/
def turnB (i : Nat) (B : Nat → Nat) : Nat → Nat := fun j => if j < i then B j ^^^ 3 else B j
theorem turnB_byt {n i : Nat} {B : Nat → Nat} (h : Byt n B) (hi : i ≤ n) : Byt n (turnB i B) := by
  refine ⟨fun j => ?_, fun j hj => ?_⟩
  · unfold turnB
    split
    · exact Nat.xor_lt_two_pow (n := 8) (h.1 j) (by omega)
    · exact h.1 j
  · unfold turnB; rw [if_neg (by omega)]; exact h.2 j hj
theorem turnB_zero (B : Nat → Nat) : turnB 0 B = B := by funext j; simp [turnB]
theorem turnB_step {n i : Nat} {B M : Nat → Nat} (hi : i < n) (z : Nat) (hz : B i ^^^ 3 = z) : upd (cat n (turnB i B) M) i z = cat n (turnB (i + 1) B) M := by
  funext j
  unfold upd cat turnB
  by_cases hj : j = i
  · subst hj; simp [hi, hz]
  · simp only [if_neg hj]
    by_cases h1 : j < i
    · simp [h1, show j < i + 1 by omega]
    · simp [h1, show ¬ j < i + 1 by omega]
/-- 'append([]byte{}, b..)'. -/
theorem clone_run {w : World} {a0 : Option Addr} {n c : Nat} {L : Nat → Nat} (hN : Nums w .u8 a0 n L) (hn : n ≤ 140737488351232) (ha : a0 = none → n = 0 ∧ c = 0) :
    ∃ a1 c1 w', (Builtin.append_ #[36, 36] 36 #[.slice (some ⟨w.heap.size, 0, none⟩) 0 0, .slice a0 n c]).run Try.prog (w.alloc (.cells #[] 5)) = .ok (.slice a1 n c1) w' ∧ Own w' w.heap.size 5 .u8 (.slice a1 n c1) n L ∧ n ≤ c1 ∧ c1 ≤ maxLen ∧ (a1 = none → n = 0 ∧ c1 = 0) ∧ Below w.heap.size w w' := by
  obtain ⟨v1, w2, hr, ho, hg2, _⟩ := run_many (w := w.alloc (.cells #[] 5)) (B := w.heap.size) (t := 36) (ty := 36) (c := c) Try.underlying36 infoU8 (Own.empty w 5 .u8 (Nat.le_refl _) (fun _ => 0)) (hN.later ((Below.refl _ w).alloc (Nat.le_refl _) _)) ha (by omega) (by omega) (by simp)
  have hB2 : Below w.heap.size w w2 := ((Below.refl _ w).alloc (Nat.le_refl _) _).grown hg2 (by simp) (fun j hj => by simp [Value.ownBlock] at hj; omega)
  simp only [Nat.zero_add] at ho
  have ho2 : Own w2 w.heap.size 5 .u8 v1 n L := ho.ext fun j hj => by simp [cat]
  obtain ⟨a1, c1, rfl, hc1, hc1m, ha1⟩ := ho2.form
  exact ⟨a1, c1, w2, hr, ho2, hc1, hc1m, ha1, hB2⟩
end Go.Proofs.Ytijoamhfmophmaa
