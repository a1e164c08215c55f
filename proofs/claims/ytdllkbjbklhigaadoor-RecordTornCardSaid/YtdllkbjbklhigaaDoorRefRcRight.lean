/- What the document's own RightHead answers. -/
import Derived.Test.YtdllkbjbklhigaaDoorRefRcRightA
import Derived.Test.YtdllkbjbklhigaaDoorRefRcRightB
import Derived.Test.YtdllkbjbklhigaaDoorRefRcRightC
namespace Go.Proofs.YtdllkbjbklhigaaDoor
open Go.RowKit
open Pt (Tx)

theorem refRightHead_any (p : Tx) (v z f l s m : Int) (g : Bool) (w : World) (hl : p.length ≤ maxLen) :
    Calls Tryd.prog 8 #[.agg #[.string (tx p), .int .i64 v, .int .i64 z, .int .i64 f, .int .i64 l, .int .i64 s, .int .i64 m, .bool g]] w (AnsB (decide (Rc.Ok ⟨p, v, z, f, l, s, m, g⟩)) w) := by
  by_cases h : Pt.right p = false ∨ v < 1 ∨ 1073741824 < v ∨ s < 1 ∨ 1073741824 < s ∨ z < 0
  · exact refRight_A p v z f l s m g w hl h
  · have hp : Pt.right p = true := by cases e : Pt.right p with
      | true => rfl
      | false => exact absurd (.inl e) h
    by_cases h2 : 4000 < z ∨ f < 0 ∨ l < 0 ∨ z < f ∨ z - f < l ∨ l = 0 ∧ 0 < z
    · exact refRight_B p v z f l s m g w hl hp (by omega) (by omega) (by omega) (by omega) (by omega) h2
    · exact refRight_C p v z f l s m g w hl hp (by omega) (by omega) (by omega) (by omega) (by omega) (by omega) (by omega) (by omega) (by omega) (by omega) (by omega)
end Go.Proofs.YtdllkbjbklhigaaDoor
