/-
  The document's numbers: the law's of; Int with its sign.
-/
import Derived.Test.YtdfmaicmbnjilaaDoorWRef12
namespace Go.Proofs.YtdfmaicmbnjilaaDoor
open Go.RowKit Wd

theorem cInt (i : Int) (s : Bool) (hI : I64 i) (hs : decide (i < 0) = s) (w : World) : Calls Tryd.prog 53 #[.int .i64 i] w fun e w' => ∃ g, e = .returned (.agg #[.slice (some ⟨g, 0, none⟩) 24 24, .bool s]) ∧ w.heap.size ≤ g ∧ NmB w' g i ∧ Below w.heap.size w w' := by
  subst hs; exact rInt i hI w
/-- A wide that was just read, by its number. -/
theorem cNum (a : Int) (s : Bool) (ha : Is a) (hs : decide (a < 0) = s) (w : World) : Calls Tryd.prog 34 #[.agg #[.int .i64 (hi (a)), .int .u64 (lo (a))]] w fun e w' => ∃ g, e = .returned (.agg #[.slice (some ⟨g, 0, none⟩) 24 24, .bool s]) ∧ w.heap.size ≤ g ∧ NmB w' g a ∧ Below w.heap.size w w' := by
  subst hs; exact lNum a ha w
theorem is_bound {a : Int} (h : Is a) : a.natAbs ≤ 340282366920938463463374607431768211456 := by unfold Is at h; omega
theorem i64_bound {a : Int} (h : I64 a) : a.natAbs ≤ 340282366920938463463374607431768211456 := by unfold I64 at h; omega
end Go.Proofs.YtdfmaicmbnjilaaDoor
