/-
  Unpack, to the kind uint64.
-/
import Derived.Test.YtlhaahpgkkfhhaaKLanes
import Derived.Test.YtlhaahpgkkfhhaaKInfo
namespace Go.Proofs.Ytlhaahpgkkfhhaa.Pk
open Go.RowKit

end Go.Proofs.Ytlhaahpgkkfhhaa.Pk
