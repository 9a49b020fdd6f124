/-
  Pack, of the kind uint64.
-/
import Derived.Test.YtlhaahpgkkfhhaaKLanes
namespace Go.Proofs.Ytlhaahpgkkfhhaa.Pk
open Go.RowKit

end Go.Proofs.Ytlhaahpgkkfhhaa.Pk
