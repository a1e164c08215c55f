/- What the document's own RightSeal answers. -/
import Derived.Test.YtdllkbjbklhigaaDoorRefScRightA
import Derived.Test.YtdllkbjbklhigaaDoorRefScRightB
import Derived.Test.YtdllkbjbklhigaaDoorRefScRightC
namespace Go.Proofs.YtdllkbjbklhigaaDoor
open Go.RowKit
open Pt (Tx)

theorem refRightSeal_any (n x d p : Int) (A : Option Addr) (l : List Int) (m C : Nat) (G : Nat → Prop) (w : World) (hm : m = l.length) (hC : m ≤ C) (hCm : C ≤ maxLen) (hr : RdZ w A l G) :
    Calls Tryd.prog 15 #[.agg #[.int .i64 n, .int .i64 x, .int .i64 d, .int .i64 p, .slice A m C]] w (AnsB (decide (Rc.SOk ⟨n, x, d, p, l⟩)) w) := by
  have hb : m ≤ maxLen := by omega
  by_cases c1 : n < 1
  · exact refSeal_no1 n x d p A l m C w hm hb  c1
  by_cases c2 : 1073741824 < n
  · exact refSeal_no2 n x d p A l m C w hm hb c1 c2
  by_cases c3 : d < 1
  · exact refSeal_no3 n x d p A l m C w hm hb c1 c2 c3
  by_cases c4 : p < 1
  · exact refSeal_no4 n x d p A l m C w hm hb c1 c2 c3 c4
  by_cases c5 : 14 < d
  · exact refSeal_no5 n x d p A l m C w hm hb c1 c2 c3 c4 c5
  by_cases c6 : 14 < p
  · exact refSeal_no6 n x d p A l m C w hm hb c1 c2 c3 c4 c5 c6
  by_cases c7 : 14 < d + p
  · exact refSeal_no7 n x d p A l m C w hm hb c1 c2 c3 c4 c5 c6 c7
  by_cases c8' : ¬ (m : Int) = d + p
  · exact refSeal_no8 n x d p A l m C w hm hb c1 c2 c3 c4 c5 c6 c7 c8'
  have c8 : (m : Int) = d + p := by omega
  by_cases c9 : x < 0
  · exact refSeal_no9 n x d p A l m C w hm hb c1 c2 c3 c4 c5 c6 c7 c8 c9
  by_cases c10 : (m : Int) ≤ x
  · exact refSeal_no10 n x d p A l m C w hm hb c1 c2 c3 c4 c5 c6 c7 c8 c9 c10
  exact refSeal_yes n x d p A l m C G w hm hb hr ⟨⟨by show 1 ≤ n; omega, by show n ≤ 1073741824; omega⟩, (by show 1 ≤ d; omega), (by show 1 ≤ p; omega), (by show d + p ≤ 14; omega), (by show (l.length : Int) = d + p; omega), (by show 0 ≤ x; omega), (by show x < (l.length : Int); omega)⟩
end Go.Proofs.YtdllkbjbklhigaaDoor
