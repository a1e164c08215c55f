/- FrameTells with its opening. -/
import Derived.Test.YtmonhgefmapiaaaFmTells
import Derived.Test.YtmonhgefmapiaaaFmOpen
namespace Go.Proofs.Ytmonhgefmapiaaa
end Go.Proofs.Ytmonhgefmapiaaa
