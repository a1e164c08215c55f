/- FaultIs' texts together. -/
import Derived.Test.YtdfialcaebjihaaDoorFtIsLaw
import Derived.Test.YtdfialcaebjihaaDoorFtHandle
import Derived.Test.YtdfialcaebjihaaDoorTxOpen
