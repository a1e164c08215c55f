/- A new Writer, and what a call on one block leaves of the rest. -/
import Derived.Test.YtdllkbjbklhigaaDoorCdWords
namespace Go.Proofs.YtdllkbjbklhigaaDoor
open Go.RowKit
open Pt (Tx)


theorem Wr.new (w : World) : Wr (w.alloc (.cells #[.pointer none, .int .i64 0] 51)) w.heap.size [] := ⟨none, [], Go.Deep.blk_alloc_new _ _, rfl, rfl⟩
theorem lo_g {a b : World} {g : Nat} (hk : Kp (· = g) a b) {B : Nat} (hB : B ≤ a.heap.size) (hg : B ≤ g) : Below B a b := hk.below hB (fun k h => by subst h; exact hg)
end Go.Proofs.YtdllkbjbklhigaaDoor
