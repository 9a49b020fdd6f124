import Derived.Test.YtgfdgajagknpmaaDoorBPart
import Derived.BigRegion
namespace Go.Proofs.YtgfdgajagknpmaaDoor.Bt
open Go.RowKit
end Go.Proofs.YtgfdgajagknpmaaDoor.Bt
