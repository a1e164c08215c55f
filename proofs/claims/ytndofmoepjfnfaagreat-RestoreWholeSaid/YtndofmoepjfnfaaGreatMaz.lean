/- What Bad of the document's own Reader answers. -/
import Derived.Test.YtndofmoepjfnfaaGreatMay
namespace Go.Proofs.YtndofmoepjfnfaaGreat
open Go.RowKit
open Pt (Tx)

theorem refBad_any (g : Nat) (s : Cd.St) (G : Nat → Prop) (w : World) (h : Rf w g s G) :
    Calls Tryz.prog 30 #[.pointer (some ⟨g, 0, none⟩)] w fun e w' => e = .returned (.bool s.2) ∧ w = w' := by
  obtain ⟨⟨A, m, c, h1, -, -, -, -⟩, hok, ng⟩ := h
  have c1 : w.cell? ⟨g, 1, none⟩ = some (.bool s.2) := heap_cell h1
  clear h1 hok
  go_enter Tryz.func30, Tryz.ntmps30
  go_wp2
  go_ret
  exact ⟨rfl, rfl⟩
end Go.Proofs.YtndofmoepjfnfaaGreat
