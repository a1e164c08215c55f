/-
  DERIVED. GIVEN WITH THE SEED: THE CARDS: each row of YtndofmoepjfnfaaDoorRows.lean that lists a variable, with what it lists TIED to the program's text (the seventh form; the later family's looks); each row that meets fmt, with fmt's text TOLD by the authors' own Lean function (tested against real Go, not proved from fmt's source: count such statements apart). THE CARD IS WHAT COUNTS. Prove the row's statement (the work); the ties are given (YtndofmoepjfnfaaDoorTie.lean); close each card by the builder's one call (the guide's Derived/Test/ToyasCard.lean, 'card_holds'). Laid BY PROGRAM, IN A SANDBOX (cutbox-door.mjs). By AI agents, Wed Nov 11 2026. No macro, syntax, notation, axiom, sorry.
-/
import Derived.Test.YtndofmoepjfnfaaDoorRows
import GoSem.ClaimSeven
namespace Go.Proofs.YtndofmoepjfnfaaDoor
namespace Rows

/-- THE TIED CARD OF 'cartridgelaw20.WriteDoes'. -/
def writeDoesCard : Claim7 := { stood := { row := writeDoesRow, standIns := [], harness := (true, "cbd27eff5c12cd1e8c93f3592d4ed385f2045fbb0032a14fb3852bb8d164bebf"), looks := false }, kinds := [], alts := [], laidByText := true, laidKinds := [.data, .pinned], laidTests := true, laidLooks := .later }
def WriteDoesCardSaid : Prop := Claim7.holds Tryd.pinned (.plain (OpenSpec.ofChange writeDoesSpec)) writeDoesCard

/-- THE TIED CARD OF 'cartridgelaw20.WriteRooms'. -/
def writeRoomsCard : Claim7 := { stood := { row := writeRoomsRow, standIns := [], harness := (true, "cbd27eff5c12cd1e8c93f3592d4ed385f2045fbb0032a14fb3852bb8d164bebf"), looks := false }, kinds := [], alts := [], laidByText := true, laidKinds := [.data, .pinned], laidTests := true, laidLooks := .later }
def WriteRoomsCardSaid : Prop := Claim7.holds Tryd.pinned (.plain (OpenSpec.ofChange writeRoomsSpec)) writeRoomsCard

/-- THE SECOND FORM's CARD OF 'cartridgelaw20.WriteDoes'. -/
def writeDoesUptoCard : Claim7 := { stood := { row := writeDoesUptoRow, standIns := [], harness := (true, "cbd27eff5c12cd1e8c93f3592d4ed385f2045fbb0032a14fb3852bb8d164bebf"), looks := false }, kinds := [], alts := [], laidByText := true, laidKinds := [.data, .pinned], laidTests := true, laidLooks := .later }
def WriteDoesUptoCardSaid : Prop := Claim7.holds Tryd.pinned (.plain (OpenSpec.upto writeDoesSpec)) writeDoesUptoCard

/-- THE SECOND FORM's CARD OF 'cartridgelaw20.WriteRooms'. -/
def writeRoomsUptoCard : Claim7 := { stood := { row := writeRoomsUptoRow, standIns := [], harness := (true, "cbd27eff5c12cd1e8c93f3592d4ed385f2045fbb0032a14fb3852bb8d164bebf"), looks := false }, kinds := [], alts := [], laidByText := true, laidKinds := [.data, .pinned], laidTests := true, laidLooks := .later }
def WriteRoomsUptoCardSaid : Prop := Claim7.holds Tryd.pinned (.plain (OpenSpec.upto writeRoomsSpec)) writeRoomsUptoCard
end Rows
end Go.Proofs.YtndofmoepjfnfaaDoor
