/- What bytes.Equal answers. -/
import Derived.Test.YtdllkbjbklhigaaDoorFmStep
import Derived.Test.YtdllkbjbklhigaaDoorChecked
import Derived.OwnWalk
import Derived.Handy
import Derived.WalkSpells
import Derived.WalkLawsBesides
import Derived.StillTailTactics
namespace Go.Proofs.YtdllkbjbklhigaaDoor
open Go.RowKit
open Pt (Tx)

theorem equal_any (A A' : Option Addr) (a b : Tx) (n m C C' : Nat) (G G' : Nat → Prop) (w : World) (hn : n = a.length) (hm : m = b.length) (hr : RdL w A a G) (hr' : RdL w A' b G') :
    Calls Tryd.prog 32 #[.slice A n C, .slice A' m C'] w fun e w' => e = .returned (.bool (a == b)) ∧ w = w' := by
  subst hn; subst hm
  have s1 := hr.str C
  have s2 := hr'.str C'
  have e1 := tx_toList a
  have e2 := tx_toList b
  clear hr hr'
  go_enter Tryd.func32, Tryd.ntmps32
  go_wp2
  go_ret
  exact ⟨rfl, rfl⟩
end Go.Proofs.YtdllkbjbklhigaaDoor
