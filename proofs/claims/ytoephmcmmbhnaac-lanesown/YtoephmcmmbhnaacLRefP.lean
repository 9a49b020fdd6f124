/-
  THE DOCUMENT's OWN ANSWERS about packed numbers: Fault, Numbers.
-/
import Derived.Test.YtoephmcmmbhnaacLRef2
import Derived.Test.YtoephmcmmbhnaacLPacked
namespace Go.Proofs.Ytoephmcmmbhnaac.Ln
open Go.RowKit Go.Sort

theorem tail_zero {B : Nat → Nat} {nb p : Nat} (hz : ∀ j, nb ≤ j → B j = 0) (hp : 8 * nb ≤ p + 64) : wordZ (bitB B) (p : Int) = 0 ↔ ∀ t, p ≤ t → t < 8 * nb → bitB B t = false := by
  rw [wordZ_nat]
  constructor
  · intro h t h1 h2
    have := congrArg (fun z => z.testBit (t - p)) h
    simp only [wordOf_bit, Nat.zero_testBit] at this
    rw [show p + (t - p) = t by omega] at this
    simpa [show t - p < 64 by omega] using this
  · intro h
    refine wordOf_none 64 fun j _ => ?_
    by_cases h2 : p + j < 8 * nb
    · exact h _ (by omega) h2
    · unfold bitB
      rw [hz _ (by omega)]; simp

end Go.Proofs.Ytoephmcmmbhnaac.Ln
