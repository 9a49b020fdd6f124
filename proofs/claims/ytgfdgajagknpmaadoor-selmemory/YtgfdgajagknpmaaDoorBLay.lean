import Derived.Test.YtgfdgajagknpmaaDoorBAlg
import Derived.Test.YtgfdgajagknpmaaDoorBLayMath
import Derived.Deep.RegionWith
namespace Go.Proofs.YtgfdgajagknpmaaDoor.Bt
open Go.RowKit

end Go.Proofs.YtgfdgajagknpmaaDoor.Bt
