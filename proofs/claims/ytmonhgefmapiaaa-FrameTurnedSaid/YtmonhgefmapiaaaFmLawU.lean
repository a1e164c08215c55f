/- FrameTurned with its opening. -/
import Derived.Test.YtmonhgefmapiaaaFmTurned
import Derived.Test.YtmonhgefmapiaaaFmOpen
namespace Go.Proofs.Ytmonhgefmapiaaa
end Go.Proofs.Ytmonhgefmapiaaa
