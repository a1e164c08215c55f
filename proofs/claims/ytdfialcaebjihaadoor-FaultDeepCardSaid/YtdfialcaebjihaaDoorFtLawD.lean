/- FaultDeep's texts together. -/
import Derived.Test.YtdfialcaebjihaaDoorFtDeep
import Derived.Test.YtdfialcaebjihaaDoorFtHandle
