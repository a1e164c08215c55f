/- What the walk is told of a []byte, and of a unit, in whose place stands what lies in its cells. -/
import Derived.Test.YtmonhgefmapiaaaLsOpen
import Derived.Lib.SmallJoins
namespace Go.Proofs.Ytmonhgefmapiaaa
open Go.RowKit Mx Go.ChangeShapes Go.WideShapes Go.Joins
open Pt (Tx)

theorem cellsInt8 : Try.prog.cellsOf 3 = 1 := by kernel_rfl
theorem cellsRow8 : Try.prog.cellsOf 22 = 1 := by kernel_rfl
section
variable {H : Type} {enc : TypeId × Value → H} {w : World} {base fuel : Nat} {held : Bool} {x : DataW H × List MemPlace}
theorem open_row8 {cs : List Value} (h : DataW.trod enc Try.prog w base (fun _ => true) held fuel 22 cs = some x) :
    ∃ (a : Option Addr) (cap : Nat) (t : Tx), cs = [.slice a t.length cap] ∧ t.length ≤ cap ∧ (a = none → t.length = 0 ∧ cap = 0) ∧ RdL w a t (fun _ => True) := by
  have key : ∃ a len cap, cs = [Value.slice a len cap] := by
    rcases open_ints Try.underlying22 Try.underlying5 (by kernel_rfl) h with ⟨hcs, _⟩ | ⟨y, l, c, zs, hcs, _⟩
    · exact ⟨_, _, _, hcs⟩
    · exact ⟨_, _, _, hcs⟩
  obtain ⟨a, len, cap, rfl⟩ := key
  have h' : DataW.trod enc Try.prog w base (fun _ => true) held fuel 22 (Value.slice a len cap).cells.toList = some x := h
  obtain ⟨_, h2, h3, t, rfl, h4⟩ := open_rdL h'
  exact ⟨a, cap, t, rfl, h2, h3, h4⟩
end
end Go.Proofs.Ytmonhgefmapiaaa
