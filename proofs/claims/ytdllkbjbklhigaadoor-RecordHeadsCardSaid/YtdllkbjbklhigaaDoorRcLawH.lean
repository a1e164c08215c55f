/- RecordHeads' walk, and what its shell asks for. -/
import Derived.Test.YtdllkbjbklhigaaDoorRcHeads
import Derived.Test.YtdllkbjbklhigaaDoorRcOpen
import Derived.Test.YtdllkbjbklhigaaDoorLsOpen
