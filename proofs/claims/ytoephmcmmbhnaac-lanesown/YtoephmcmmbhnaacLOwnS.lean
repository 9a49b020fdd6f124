/-
  For LanesOwn: a set that was answered.
-/
import Derived.Test.YtoephmcmmbhnaacLPkd
namespace Go.Proofs.Ytoephmcmmbhnaac
open Go.RowKit Ln
theorem okSet_set {w w' : World} {n : Nat} {f : Nat → Bool} {e : Ending} (h : OkSet w n f e w') : ∃ d, e = .returned (.tuple #[.pointer (some ⟨d, 0, none⟩), .int .i64 0]) ∧ Bt.SetF w' d n (fun i => decide (i < n) && f i) ∧ Below w.heap.size w w' := by
  obtain ⟨d, g, h1, _, _, h2, h3⟩ := h
  exact ⟨d, h1, h2.is, h3⟩
end Go.Proofs.Ytoephmcmmbhnaac
