/- A slice of slices of bytes: what its element is. No function of the program. -/
import Derived.Test.YtcmdggdionghcaaMa
import Derived.Test.YtcmdggdionghcaaChecked
namespace Go.Proofs.Ytcmdggdionghcaa
open Go.RowKit

theorem infoRow : (Try.prog.info? 40).map (fun i => (i.zero, i.size, i.bytes)) = some (some (.slice none 0 0), 1, 24) := by kernel_rfl
end Go.Proofs.Ytcmdggdionghcaa
