/-
  slices.Grow and slices.Concat, of two lists of bytes.
-/
import Derived.Test.YtlhaahpgkkfhhaaFLeaf
import Derived.Lib.AppendZeros
namespace Go.Proofs.Ytlhaahpgkkfhhaa
open Go.ChangeShapes Go.WideShapes Go.ChangeAt Go.RowKit Fr

end Go.Proofs.Ytlhaahpgkkfhhaa
