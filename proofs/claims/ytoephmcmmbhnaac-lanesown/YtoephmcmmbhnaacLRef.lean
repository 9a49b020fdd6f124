/-
  THE DOCUMENT's OWN ANSWERS about words: fits, Spread, Stands, Bit, Lane, word, Held, Marks.
-/
import Derived.Test.YtoephmcmmbhnaacLTop
import Derived.Test.YtoephmcmmbhnaacPackAll
namespace Go.Proofs.Ytoephmcmmbhnaac.Ln
open Go.RowKit Go.Sort

theorem shr_zero (v k : Nat) : decide ((v : Int) / 2 ^ k = 0) = decide (v < 2 ^ k) := by
  have e : (v : Int) / 2 ^ k = ((v / 2 ^ k : Nat) : Int) := by rw [pow_cast]; rfl
  rw [e, decide_eq_decide]
  have := Nat.two_pow_pos k
  constructor
  · intro h
    have h2 : v / 2 ^ k = 0 := by omega
    exact (Nat.div_eq_zero_iff.1 h2).resolve_left (by omega)
  · intro h
    rw [Nat.div_eq_of_lt h]; rfl
end Go.Proofs.Ytoephmcmmbhnaac.Ln
