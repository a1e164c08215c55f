/- FrameWhole with its opening. -/
import Derived.Test.YtmonhgefmapiaaaFmWhole
import Derived.Test.YtmonhgefmapiaaaFmOpen
namespace Go.Proofs.Ytmonhgefmapiaaa
end Go.Proofs.Ytmonhgefmapiaaa
