/-
  DERIVED. GIVEN WITH THE SEED: THE CARDS: each row of YtbijjgicjkmopaaDoorRows.lean that lists a variable, with what it lists TIED to the program's text (the seventh form; the later family's looks); each row that meets fmt, with fmt's text TOLD by the authors' own Lean function (tested against real Go, not proved from fmt's source: count such statements apart). THE CARD IS WHAT COUNTS. Prove the row's statement (the work); the ties are given (YtbijjgicjkmopaaDoorTie.lean); close each card by the builder's one call (the guide's Derived/Test/ToyasCard.lean, 'card_holds'). Laid BY PROGRAM, IN A SANDBOX (cutbox-door.mjs). By AI agents, Wed Nov 11 2026. No macro, syntax, notation, axiom, sorry.
-/
import Derived.Test.YtbijjgicjkmopaaDoorRows
import GoSem.ClaimSeven
namespace Go.Proofs.YtbijjgicjkmopaaDoor
namespace Rows

/-- THE TIED CARD OF 'cartridgelaw17.CatalogOrder'. -/
def catalogOrderCard : Claim7 := { stood := { row := catalogOrderRow, standIns := [], harness := (true, "3b54afa903e0eae8d7ba5fc7643f356f62c022f5c17867ea3c62774eeeebe792"), looks := false }, kinds := [], alts := [], laidByText := true, laidKinds := [.data, .pinned], laidTests := true, laidLooks := .later }
def CatalogOrderCardSaid : Prop := Claim7.holds Tryd.pinned (.plain (OpenSpec.ofChange catalogOrderSpec)) catalogOrderCard

/-- THE TIED CARD OF 'cartridgelaw17.CatalogGaps'. -/
def catalogGapsCard : Claim7 := { stood := { row := catalogGapsRow, standIns := [], harness := (true, "3b54afa903e0eae8d7ba5fc7643f356f62c022f5c17867ea3c62774eeeebe792"), looks := false }, kinds := [], alts := [], laidByText := true, laidKinds := [.data, .pinned], laidTests := true, laidLooks := .later }
def CatalogGapsCardSaid : Prop := Claim7.holds Tryd.pinned (.plain (OpenSpec.ofChange catalogGapsSpec)) catalogGapsCard

/-- THE SECOND FORM's CARD OF 'cartridgelaw17.CatalogOrder'. -/
def catalogOrderUptoCard : Claim7 := { stood := { row := catalogOrderUptoRow, standIns := [], harness := (true, "3b54afa903e0eae8d7ba5fc7643f356f62c022f5c17867ea3c62774eeeebe792"), looks := false }, kinds := [], alts := [], laidByText := true, laidKinds := [.data, .pinned], laidTests := true, laidLooks := .later }
def CatalogOrderUptoCardSaid : Prop := Claim7.holds Tryd.pinned (.plain (OpenSpec.upto catalogOrderSpec)) catalogOrderUptoCard

/-- THE SECOND FORM's CARD OF 'cartridgelaw17.CatalogGaps'. -/
def catalogGapsUptoCard : Claim7 := { stood := { row := catalogGapsUptoRow, standIns := [], harness := (true, "3b54afa903e0eae8d7ba5fc7643f356f62c022f5c17867ea3c62774eeeebe792"), looks := false }, kinds := [], alts := [], laidByText := true, laidKinds := [.data, .pinned], laidTests := true, laidLooks := .later }
def CatalogGapsUptoCardSaid : Prop := Claim7.holds Tryd.pinned (.plain (OpenSpec.upto catalogGapsSpec)) catalogGapsUptoCard
end Rows
end Go.Proofs.YtbijjgicjkmopaaDoor
