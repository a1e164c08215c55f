/- The sums of castagnoli and of the document's own, of bytes that read as a list. -/
import Derived.Test.YtmonhgefmapiaaaFmStep
import Derived.Test.YtmonhgefmapiaaaCrSum
import Derived.Test.YtmonhgefmapiaaaRefCr
namespace Go.Proofs.Ytmonhgefmapiaaa
open Go.RowKit
open Pt (Tx)

theorem sumL_any (A : Option Addr) (l : Tx) (n C : Nat) (G : Nat → Prop) (w : World) (hm : n = l.length) (hn : l.length ≤ maxLen) (hr : RdL w A l G) :
    Calls Try.prog 31 #[.slice A n C] w fun e w' => e = .returned (.int .u32 (sumL l)) ∧ w = w' := by
  subst hm; exact sum_any A l.length C (rowL l) G w hn hr.rd
theorem refSumL_any (A : Option Addr) (l : Tx) (n C : Nat) (G : Nat → Prop) (w : World) (hm : n = l.length) (hn : l.length ≤ maxLen) (hr : RdL w A l G) :
    Calls Try.prog 19 #[.slice A n C] w fun e w' => e = .returned (.int .u32 (sumL l)) ∧ w = w' := by
  subst hm; exact refCrc_any A l.length C (rowL l) G w hn hr.rd
end Go.Proofs.Ytmonhgefmapiaaa
