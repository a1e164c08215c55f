/- FaultOther's texts together. -/
import Derived.Test.YtdfialcaebjihaaDoorFtOther
import Derived.Test.YtdfialcaebjihaaDoorFtHandle
