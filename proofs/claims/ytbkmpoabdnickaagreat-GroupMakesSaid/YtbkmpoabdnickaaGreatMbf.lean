/- A row of tapes that came in as an argument, where it is nil. No function of the program. -/
import Derived.Test.YtbkmpoabdnickaaGreatMbe
namespace Go.Proofs.YtbkmpoabdnickaaGreat
open Go.RowKit

section
variable {H : Type} {enc : TypeId × Value → H} {w : World} {base fuel : Nat} {held : Bool} {x : DataW H × List MemPlace}
theorem tapes_nil {T : TypeId} (hT : Tryz.prog.underlying T = some (.slice 49)) {a : Option Addr} {len cap : Nat} (h : DataW.trod enc Tryz.prog w base (fun _ => true) held fuel T (Value.slice a len cap).cells.toList = some x) :
    a = none → len = 0 ∧ cap = 0 := by
  rcases Go.Deep.open_slice hT h with ⟨hcs, _⟩ | ⟨y, l, c, m, n, D, Pl, hcs, _⟩
  · simp [Value.cells] at hcs
    obtain ⟨rfl, rfl, rfl⟩ := hcs
    exact fun _ => ⟨rfl, rfl⟩
  · simp [Value.cells] at hcs
    obtain ⟨rfl, rfl, rfl⟩ := hcs
    intro h
    cases h
end
end Go.Proofs.YtbkmpoabdnickaaGreat
