/-
  DERIVED. GIVEN WITH THE SEED: THE CARDS: each row of YtbcncmampabmfaaDoorRows.lean that lists a variable, with what it lists TIED to the program's text (the seventh form; the later family's looks); each row that meets fmt, with fmt's text TOLD by the authors' own Lean function (tested against real Go, not proved from fmt's source: count such statements apart). THE CARD IS WHAT COUNTS. Prove the row's statement (the work); the ties are given (YtbcncmampabmfaaDoorTie.lean); close each card by the builder's one call (the guide's Derived/Test/ToyasCard.lean, 'card_holds'). Laid BY PROGRAM, IN A SANDBOX (cutbox-door.mjs). By AI agents, Wed Nov 11 2026. No macro, syntax, notation, axiom, sorry.
-/
import Derived.Test.YtbcncmampabmfaaDoorRows
import GoSem.ClaimSeven
namespace Go.Proofs.YtbcncmampabmfaaDoor
namespace Rows

/-- THE TIED CARD OF 'cartridgelaw11.VolumeBlocks'. -/
def volumeBlocksCard : Claim7 := { stood := { row := volumeBlocksRow, standIns := [], harness := (true, "5b4a7f19e9ca9f142929e3b4df988538c1ade3b28e3ca248abc4a7e0254c68e6"), looks := false }, kinds := [], alts := [], laidByText := true, laidKinds := [.data, .pinned], laidTests := true, laidLooks := .later }
def VolumeBlocksCardSaid : Prop := Claim7.holds Tryd.pinned (.plain (OpenSpec.ofChange volumeBlocksSpec)) volumeBlocksCard

/-- THE TIED CARD OF 'cartridgelaw11.VolumeKeeps'. -/
def volumeKeepsCard : Claim7 := { stood := { row := volumeKeepsRow, standIns := [], harness := (true, "5b4a7f19e9ca9f142929e3b4df988538c1ade3b28e3ca248abc4a7e0254c68e6"), looks := false }, kinds := [], alts := [], laidByText := true, laidKinds := [.data, .pinned], laidTests := true, laidLooks := .later }
def VolumeKeepsCardSaid : Prop := Claim7.holds Tryd.pinned (.plain (OpenSpec.ofChange volumeKeepsSpec)) volumeKeepsCard

/-- THE TIED CARD OF 'cartridgelaw11.VolumeFinds'. -/
def volumeFindsCard : Claim7 := { stood := { row := volumeFindsRow, standIns := [], harness := (true, "5b4a7f19e9ca9f142929e3b4df988538c1ade3b28e3ca248abc4a7e0254c68e6"), looks := false }, kinds := [], alts := [], laidByText := true, laidKinds := [.data, .pinned], laidTests := true, laidLooks := .later }
def VolumeFindsCardSaid : Prop := Claim7.holds Tryd.pinned (.plain (OpenSpec.ofChange volumeFindsSpec)) volumeFindsCard

/-- THE SECOND FORM's CARD OF 'cartridgelaw11.VolumeBlocks'. -/
def volumeBlocksUptoCard : Claim7 := { stood := { row := volumeBlocksUptoRow, standIns := [], harness := (true, "5b4a7f19e9ca9f142929e3b4df988538c1ade3b28e3ca248abc4a7e0254c68e6"), looks := false }, kinds := [], alts := [], laidByText := true, laidKinds := [.data, .pinned], laidTests := true, laidLooks := .later }
def VolumeBlocksUptoCardSaid : Prop := Claim7.holds Tryd.pinned (.plain (OpenSpec.upto volumeBlocksSpec)) volumeBlocksUptoCard

/-- THE SECOND FORM's CARD OF 'cartridgelaw11.VolumeKeeps'. -/
def volumeKeepsUptoCard : Claim7 := { stood := { row := volumeKeepsUptoRow, standIns := [], harness := (true, "5b4a7f19e9ca9f142929e3b4df988538c1ade3b28e3ca248abc4a7e0254c68e6"), looks := false }, kinds := [], alts := [], laidByText := true, laidKinds := [.data, .pinned], laidTests := true, laidLooks := .later }
def VolumeKeepsUptoCardSaid : Prop := Claim7.holds Tryd.pinned (.plain (OpenSpec.upto volumeKeepsSpec)) volumeKeepsUptoCard

/-- THE SECOND FORM's CARD OF 'cartridgelaw11.VolumeFinds'. -/
def volumeFindsUptoCard : Claim7 := { stood := { row := volumeFindsUptoRow, standIns := [], harness := (true, "5b4a7f19e9ca9f142929e3b4df988538c1ade3b28e3ca248abc4a7e0254c68e6"), looks := false }, kinds := [], alts := [], laidByText := true, laidKinds := [.data, .pinned], laidTests := true, laidLooks := .later }
def VolumeFindsUptoCardSaid : Prop := Claim7.holds Tryd.pinned (.plain (OpenSpec.upto volumeFindsSpec)) volumeFindsUptoCard
end Rows
end Go.Proofs.YtbcncmampabmfaaDoor
