/- RecordSeals' walk, and what its shell asks for. -/
import Derived.Test.YtdllkbjbklhigaaDoorScSeals
import Derived.Test.YtdllkbjbklhigaaDoorScOpen
import Derived.Test.YtdllkbjbklhigaaDoorLsOpen
