/-
  put, the base's bytes, PutFrame, PutPacked.
-/
import Derived.Test.YtlhaahpgkkfhhaaFCat
import Derived.Test.YtlhaahpgkkfhhaaKPackU64
namespace Go.Proofs.Ytlhaahpgkkfhhaa
open Go.ChangeShapes Go.WideShapes Go.ChangeAt Go.RowKit Fr

theorem new_pack {w w' : World} {g k : Nat} {c : List Nat} (hb : Pk.Blk w' g 5 .u8 ((c.length * k + 7) / 8) ((c.length * k + 7) / 8) (Pk.byt (Pk.laneB c.length k (ofL c)))) (hg : w.heap.size ≤ g) (hB : Below w.heap.size w w') (hs : (c.length * k + 7) / 8 ≤ 134217728) :
    NewL w w' (.slice (some ⟨g, 0, none⟩) ((c.length * k + 7) / 8) ((c.length * k + 7) / 8)) (packL k c) := by
  refine ⟨?_, hB⟩
  have h : Blk w' g 5 .u8 ((c.length * k + 7) / 8) ((c.length * k + 7) / 8) (Pk.byt (Pk.laneB c.length k (ofL c))) := hb
  rw [packL_len, packL_of]
  exact h.own hg (Nat.le_refl _) (by simp only [maxLen]; omega)
def putE (n : Nat) (width least : Int) : Int := if Pk.byteE (n : Int) width ≠ 0 then Pk.byteE (n : Int) width else if width < least then 110 else 0
def putR (n : Nat) (width least : Int) (r : List Nat) : List Nat := if putE n width least = 0 then r else []

def frameE (l : List Int) (width : Int) : Int := putE l.length width (fw l)
def frameR (l : List Int) (width : Int) : List Nat := putR l.length width (fw l) (baseL (lo l) ++ packL width.toNat (codes (lo l) l))
def least (l : List Int) : Int := if lo l < 0 then 9223372036854775807 else (pw l : Int)
def packE (l : List Int) (width : Int) : Int := putE l.length width (least l)
def packR (l : List Int) (width : Int) : List Nat := putR l.length width (least l) (packL width.toNat (codes 0 l))
theorem putE_width {n : Nat} {width lst : Int} (h : putE n width lst = 0) : n ≤ 16777216 ∧ ∃ k : Nat, width = (k : Int) ∧ k ≤ 64 ∧ lst ≤ (k : Int) := by
  unfold putE at h
  by_cases hE : Pk.byteE (n : Int) width = 0
  · obtain ⟨hn, k, rfl, hk⟩ := Pk.byteE_ok hE
    rw [if_neg (by simpa using hE)] at h
    by_cases hw : (k : Int) < lst
    · rw [if_pos hw] at h; omega
    · exact ⟨hn, k, rfl, hk, by omega⟩
  · rw [if_pos hE] at h; exact absurd h hE

end Go.Proofs.Ytlhaahpgkkfhhaa
