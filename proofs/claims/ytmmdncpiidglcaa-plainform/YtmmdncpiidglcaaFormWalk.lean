/-
  The walk of PlainForm.
-/
import Derived.Test.YtmmdncpiidglcaaFormA
import Derived.Test.YtmmdncpiidglcaaFormB
namespace Go.Proofs.Ytmmdncpiidglcaa
open Go.RowKit Cu

theorem walk_plainForm (W : World) (a0 : Option Addr) (n0 c0 : Nat) (L0 : Nat → Nat) (n : Int) (hL0 : NumArg W .u8 a0 n0 c0 L0 256 140737488351232) (_hn : -9223372036854775808 ≤ n ∧ n ≤ 9223372036854775807) :
    Calls Try.prog 3 #[.slice a0 n0 c0, .int .i64 n] W fun e W' => e = .returned (.bool true) ∧ Below W.heap.size W W' := by
  obtain ⟨l, hA⟩ := bArg_of hL0
  by_cases hI : intsE l n = 0
  · exact walk_formA W a0 n0 c0 l n hA hI
  · exact walk_formB W a0 n0 c0 l n hA hI
end Go.Proofs.Ytmmdncpiidglcaa
