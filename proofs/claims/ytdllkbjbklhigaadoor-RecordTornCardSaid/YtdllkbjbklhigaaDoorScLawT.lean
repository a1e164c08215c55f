/- RecordTorn's walk, and what its shell asks for. -/
import Derived.Test.YtdllkbjbklhigaaDoorScTorn
import Derived.Test.YtdllkbjbklhigaaDoorRcOpen
import Derived.Test.YtdllkbjbklhigaaDoorScOpen
