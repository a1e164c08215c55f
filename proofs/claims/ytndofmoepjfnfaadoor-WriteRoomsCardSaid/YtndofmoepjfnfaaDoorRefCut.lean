/- What the document's own Cut answers. -/
import Derived.Test.YtndofmoepjfnfaaDoorMae
import Derived.Test.YtndofmoepjfnfaaDoorChecked
import Derived.OwnWalk
import Derived.Handy
import Derived.WalkSpells
import Derived.WalkLawsBesides
namespace Go.Proofs.YtndofmoepjfnfaaDoor
open Go.RowKit
open Pt (Tx)

theorem refCut_any (n a b : Int) (h : a ≤ b) (w : World) : Calls Tryd.prog 19 #[.int .i64 n, .int .i64 a, .int .i64 b] w fun e w' => e = .returned (.int .i64 (min (max n a) b)) ∧ w = w' := by
  by_cases h0 : n < a
  · have H : Hid (min (max n a) b = a) := Lib.hid (by omega)
    go_enter Tryd.func19, Tryd.ntmps19
    go_wp2
    go_ret
    exact ⟨by rw [H.out]; first | done | rfl | (exact congrArg (fun k : Int => Ending.returned (.int .i64 k)) (by omega)), rfl⟩
  · by_cases h1 : b < n
    · have H : Hid (min (max n a) b = b) := Lib.hid (by omega)
      go_enter Tryd.func19, Tryd.ntmps19
      go_wp2
      go_ret
      exact ⟨by rw [H.out]; first | done | rfl | (exact congrArg (fun k : Int => Ending.returned (.int .i64 k)) (by omega)), rfl⟩
    · have H : Hid (min (max n a) b = n) := Lib.hid (by omega)
      go_enter Tryd.func19, Tryd.ntmps19
      go_wp2
      go_ret
      exact ⟨by rw [H.out]; first | done | rfl | (exact congrArg (fun k : Int => Ending.returned (.int .i64 k)) (by omega)), rfl⟩
end Go.Proofs.YtndofmoepjfnfaaDoor
