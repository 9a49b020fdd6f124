/-
  What Pack answers, as one relation.
-/
import Derived.Test.YtijoamhfmophmabLanes
import Derived.Test.YtijoamhfmophmabInfo
namespace Go.Proofs.Ytijoamhfmophmab
open Go.RowKit

/-- Pack of n numbers L: the error, how many bytes, which. -/
def PR (n : Nat) (width : Int) (L : Nat → Nat) (E : Int) (M : Nat) (F : Nat → Nat) : Prop :=
  (byteE (n : Int) width ≠ 0 ∧ E = byteE (n : Int) width ∧ M = 0 ∧ F = fun _ => 0) ∨
  ∃ k : Nat, width = (k : Int) ∧ n ≤ 16777216 ∧ k ≤ 64 ∧ (((∃ i, i < n ∧ ¬ L i < 2 ^ k) ∧ E = 21 ∧ M = 0 ∧ F = fun _ => 0) ∨ ((∀ i, i < n → L i < 2 ^ k) ∧ E = 0 ∧ M = (n * k + 7) / 8 ∧ F = byt (laneB n k L)))
theorem PR.one {n : Nat} {width : Int} {L : Nat → Nat} {E E' : Int} {M M' : Nat} {F F' : Nat → Nat} (h : PR n width L E M F) (h' : PR n width L E' M' F') : E = E' ∧ M = M' ∧ F = F' := by
  rcases h with ⟨h1, rfl, rfl, rfl⟩ | ⟨k, rfl, hn, hk, h⟩
  · rcases h' with ⟨_, rfl, rfl, rfl⟩ | ⟨k', rfl, hn', hk', _⟩
    · exact ⟨rfl, rfl, rfl⟩
    · exact absurd (byteE_nat hn' hk') h1
  · rcases h' with ⟨h1', _⟩ | ⟨k', he, _, _, h'⟩
    · exact absurd (byteE_nat hn hk) h1'
    · obtain rfl : k = k' := by omega
      rcases h with ⟨⟨i, hi, hx⟩, rfl, rfl, rfl⟩ | ⟨ha, rfl, rfl, rfl⟩
      · rcases h' with ⟨_, rfl, rfl, rfl⟩ | ⟨ha', _⟩
        · exact ⟨rfl, rfl, rfl⟩
        · exact absurd (ha' i hi) hx
      · rcases h' with ⟨⟨i, hi, hx⟩, _⟩ | ⟨_, rfl, rfl, rfl⟩
        · exact absurd (ha i hi) hx
        · exact ⟨rfl, rfl, rfl⟩
theorem PR.small {n : Nat} {width : Int} {L : Nat → Nat} {E : Int} {M : Nat} {F : Nat → Nat} (h : PR n width L E M F) : M ≤ 134217728 ∧ ∀ j, F j < 256 := by
  rcases h with ⟨_, _, rfl, rfl⟩ | ⟨k, _, hn, hk, ⟨_, _, rfl, rfl⟩ | ⟨_, _, rfl, rfl⟩⟩
  · exact ⟨by omega, fun _ => (by decide : (0 : Nat) < 256)⟩
  · exact ⟨by omega, fun _ => (by decide : (0 : Nat) < 256)⟩
  · exact ⟨by have := mul_small hn hk; omega, byt_lt _⟩

/-- How a Pack answers. -/
def PAns (w : World) (n : Nat) (width : Int) (L : Nat → Nat) (e : Ending) (w' : World) : Prop :=
  Below w.heap.size w w' ∧ ∃ E M F v, e = .returned (.tuple #[v, .int .i64 E]) ∧ Own w' w.heap.size 5 .u8 v M F ∧ PR n width L E M F
theorem pAns_of {f : Nat} {a0 : Option Addr} {n c : Nat} {L : Nat → Nat} {width : Int} {w : World}
    (hbad : byteE (n : Int) width ≠ 0 → Calls Try.prog f #[.slice a0 n c, .int .i64 width] w fun e w' => e = .returned (.tuple #[.slice none 0 0, .int .i64 (byteE (n : Int) width)]) ∧ w' = w)
    (hrun : ∀ k : Nat, width = (k : Int) → n ≤ 16777216 → k ≤ 64 → Calls Try.prog f #[.slice a0 n c, .int .i64 width] w fun e w' => Below w.heap.size w w' ∧
      ((e = .returned (.tuple #[.slice none 0 0, .int .i64 21]) ∧ ∃ i, i < n ∧ ¬ L i < 2 ^ k) ∨
       ((∀ i, i < n → L i < 2 ^ k) ∧ e = .returned (.tuple #[.slice (some ⟨w.heap.size, 0, none⟩) ((n * k + 7) / 8) ((n * k + 7) / 8), .int .i64 0]) ∧ Blk w' w.heap.size 5 .u8 ((n * k + 7) / 8) ((n * k + 7) / 8) (byt (laneB n k L))))) :
    Calls Try.prog f #[.slice a0 n c, .int .i64 width] w fun e w' => PAns w n width L e w' := by
  by_cases he : byteE (n : Int) width = 0
  · obtain ⟨hn, k, rfl, hk⟩ := byteE_ok he
    refine (hrun k rfl hn hk).mono ?_
    rintro e w' ⟨hb, ⟨rfl, hx⟩ | ⟨ha, rfl, hbk⟩⟩
    · exact ⟨hb, 21, 0, fun _ => 0, _, rfl, Own.nil _ _ _ _ _, .inr ⟨k, rfl, hn, hk, .inl ⟨hx, rfl, rfl, rfl⟩⟩⟩
    · exact ⟨hb, 0, _, _, _, rfl, hbk.own (Nat.le_refl _) (Nat.le_refl _) (by have := mul_small hn hk; simp only [maxLen]; omega), .inr ⟨k, rfl, hn, hk, .inr ⟨ha, rfl, rfl, rfl⟩⟩⟩
  · refine (hbad he).mono ?_
    rintro e w' ⟨rfl, rfl⟩
    exact ⟨Below.refl _ _, _, 0, fun _ => 0, _, rfl, Own.nil _ _ _ _ _, .inl ⟨he, rfl, rfl, rfl⟩⟩

theorem Own.keptG {w w' : World} {B : Nat} {e : TypeId} {k : IntKind} {v : Value} {n : Nat} {L : Nat → Nat} {row : Option Nat} (h : Own w B e k v n L) (hg : w.grownBy w' row) (hne : ∀ g, v.ownBlock = some g → row ≠ some g) : Own w' B e k v n L :=
  h.kept fun g hgb => hg.block g (h.lt g hgb).2 fun e => hne g hgb e.symm
theorem Blk.keptG {w w' : World} {g : Nat} {e : TypeId} {k : IntKind} {c m : Nat} {L : Nat → Nat} {row : Option Nat} (h : Blk w g e k c m L) (hg : w.grownBy w' row) (hne : row ≠ some g) : Blk w' g e k c m L :=
  h.kept (hg.block g h.lt fun e => hne e.symm)
theorem grown_drewN {w w' : World} {row : Option Nat} (h : w.grownBy w' row) (j : Nat) : w.grownBy (w'.drewN j) row := ⟨h.os, h.tape, h.output, h.size, h.block⟩
end Go.Proofs.Ytijoamhfmophmab
