import Derived.Test.YtgfdgajagknpmaaDoorBLowest
import Derived.Test.YtgfdgajagknpmaaDoorBAlg
namespace Go.Proofs.YtgfdgajagknpmaaDoor.Bt
open Go.RowKit

theorem pops_take (n q : Nat) (f : Nat → Bool) (hq : q ≤ wordsOf n) : pops ((packF n f).take q) = cnt f (64 * q) := by
  rw [packF, ← List.map_take, List.take_range, show min q (wordsOf n) = q by omega, pops_range]

end Go.Proofs.YtgfdgajagknpmaaDoor.Bt
