/-
  For BitsMemory: a number that is turned shows in the words.
-/
import Derived.Test.YtcjpnlcjphdlgaaDoorBMemT
namespace Go.Proofs.YtcjpnlcjphdlgaaDoor.Bt
open Go.RowKit

theorem put_shows {n k : Nat} (f : Nat → Bool) (hk : k < n) : ∃ q, q < wordsOf n ∧ wrd (putF f k (!f k)) q ≠ wrd f q := by
  refine ⟨k / 64, by unfold wordsOf; omega, fun e => ?_⟩
  have h := congrArg (fun x => Nat.testBit x (k % 64)) e
  simp only [wrd_bit] at h
  rw [show 64 * (k / 64) + k % 64 = k by omega] at h
  simp [putF, show k % 64 < 64 by omega] at h
end Go.Proofs.YtcjpnlcjphdlgaaDoor.Bt
