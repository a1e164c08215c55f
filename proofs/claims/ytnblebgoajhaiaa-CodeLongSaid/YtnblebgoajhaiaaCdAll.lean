/- The walks of chapter 6's laws, and what they are told of their arguments. -/
import Derived.Test.YtnblebgoajhaiaaCdWrites
import Derived.Test.YtnblebgoajhaiaaCdLong
import Derived.Test.YtnblebgoajhaiaaItOpen
namespace Go.Proofs.Ytnblebgoajhaiaa
end Go.Proofs.Ytnblebgoajhaiaa
