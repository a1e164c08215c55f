/-
  No cell of these rows narrows 'for every input' (looked for: loops, veiled, ifaces, maps, wideKeys, modest, calm, conditions, laid).
  DERIVED. THE GIVEN ROWS OF THIS SEAT. 2 by the template 'for every input the law returns true; each argument reads behind the call as it read before'; 0 by the template 'total and deterministic' (their statements: YtcokmmanajdioaaTotals.lean).
  GIVEN WITH THE SEED: the statements are not yours to turn. If you find one false, say at which input.
  Laid BY PROGRAM, IN A SANDBOX (cutbox-rows.mjs): the forced cells as the released guide's own fill.sh prints them over the translation 3b3360d401542a42… (all of the seat's roots in one cut). By AI agents, Wed Nov 11 2026. No macro, syntax, notation, axiom, sorry.
-/
import Derived.Test.YtcokmmanajdioaaChecked
import GoSem.Claim
import GoSem.ClaimJoined
import GoSem.ClaimMapViews
import Derived.JoinedTies
import Derived.KernelRfl
namespace Go.Proofs.Ytcokmmanajdioaa
/- THE CELL 'sum', in the pinned program and in every row, IS THE sha256 OF THE DUMP (.gsa) THAT YtcokmmanajdioaaProg.lean LOADS. Nothing in Lean hashes anything: it is a label: what it is worth is what the hold of that sum in a sandbox is worth. -/
noncomputable def Try.pinned : Pinned := { name := "ytcokmmanajdioaa", sum := "3b3360d401542a42f3eba833c541bd6bb7e36c28bcb1672dea8986fb4c09c10e", checked := Try.checked }
namespace Rows
def none {H : Type} : Left H := { results := [], args := [] }

/-- 'cartridgelaw15.MendMany': WHATEVER THE INPUT: true; the input reads as it did. -/
def mendManySpec : ChangeSpec := { name := "mendMany", fn := fun _ => fun
  | [d1, d2, d3] => { results := [.lit (.bool true)], args := [d1, d2, d3] }
  | _ => none }
def mendManyRow : OpenClaim := { program := "ytcokmmanajdioaa", sum := "3b3360d401542a42f3eba833c541bd6bb7e36c28bcb1672dea8986fb4c09c10e", func := "cartridge/cartridgelaw15.MendMany", spec := "mendMany", unfollowed := true, recurses := true, apart := false }
def MendManySaid : Prop := mendManyRow.holds Try.pinned (OpenSpec.ofChange mendManySpec)

/-- ITS FALSE NEIGHBOUR: 'it returns false'. Refute it at one input. -/
def mendManyWrong : ChangeSpec := { name := "mendMany", fn := fun _ => fun
  | [d1, d2, d3] => { results := [.lit (.bool false)], args := [d1, d2, d3] }
  | _ => none }
def MendManyWrongFalsely : Prop := mendManyRow.holds Try.pinned (OpenSpec.ofChange mendManyWrong)

/-- 'cartridgelaw15.MendBlind': WHATEVER THE INPUT: true; the input reads as it did. -/
def mendBlindSpec : ChangeSpec := { name := "mendBlind", fn := fun _ => fun
  | [d1, d2, d3] => { results := [.lit (.bool true)], args := [d1, d2, d3] }
  | _ => none }
def mendBlindRow : OpenClaim := { program := "ytcokmmanajdioaa", sum := "3b3360d401542a42f3eba833c541bd6bb7e36c28bcb1672dea8986fb4c09c10e", func := "cartridge/cartridgelaw15.MendBlind", spec := "mendBlind", unfollowed := true, recurses := true, apart := false }
def MendBlindSaid : Prop := mendBlindRow.holds Try.pinned (OpenSpec.ofChange mendBlindSpec)

/-- ITS FALSE NEIGHBOUR: 'it returns false'. Refute it at one input. -/
def mendBlindWrong : ChangeSpec := { name := "mendBlind", fn := fun _ => fun
  | [d1, d2, d3] => { results := [.lit (.bool false)], args := [d1, d2, d3] }
  | _ => none }
def MendBlindWrongFalsely : Prop := mendBlindRow.holds Try.pinned (OpenSpec.ofChange mendBlindWrong)

/- THE SECOND FORM. 'bulk': how many values and letters a reading holds, each counted each time it is reached (what is shared counts as often as it is met; a slice's spare places count too). A statement '..UptoSaid' is the law's where the arguments, and the package variables that the reading takes, are together of bulk at most 1048576: NARROWER than '..Said'. Prove '..Said' where nothing that the law and all that it calls make is longer than what came in: it says more and counts as full. Else prove '..UptoSaid'. A law counts once. -/
mutual
def uptoBulk {H : Type} : DataW H → Nat
  | .lit (.string bytes) => bytes.length + 1
  | .lit _ => 1
  | .nil => 1
  | .ptr d => uptoBulk d + 1
  | .slice elems spare => uptoBulkAll elems + uptoBulkAll spare + 1
  | .agg parts => uptoBulkAll parts + 1
  | .iface _ d => uptoBulk d + 1
  | .map entries => uptoBulkEntries entries + 1
  | .held _ => 1
def uptoBulkAll {H : Type} : List (DataW H) → Nat
  | [] => 0
  | d :: r => uptoBulk d + uptoBulkAll r
def uptoBulkEntries {H : Type} : List (Lit × DataW H) → Nat
  | [] => 0
  | x :: r => uptoBulkEntry x + uptoBulkEntries r
def uptoBulkEntry {H : Type} : Lit × DataW H → Nat
  | (.string bytes, d) => bytes.length + uptoBulk d + 1
  | (_, d) => uptoBulk d + 1
 end
def uptoSmall : (H : Type) → List (DataW H) → Bool := fun _ ds => decide (uptoBulkAll ds ≤ 1048576)
def OpenSpec.upto (s : _root_.Go.ChangeSpec) : _root_.Go.OpenSpec := { _root_.Go.OpenSpec.ofChange s with cond := some uptoSmall }

/-- 'cartridgelaw15.MendMany', WHERE WHAT IT READS IS OF BULK AT MOST 1048576: true; the input reads as it did. -/
def mendManyUptoRow : OpenClaim := { program := "ytcokmmanajdioaa", sum := "3b3360d401542a42f3eba833c541bd6bb7e36c28bcb1672dea8986fb4c09c10e", func := "cartridge/cartridgelaw15.MendMany", spec := "mendMany", unfollowed := true, recurses := true, apart := false, narrowed := true }
def MendManyUptoSaid : Prop := mendManyUptoRow.holds Try.pinned (OpenSpec.upto mendManySpec)

/-- 'cartridgelaw15.MendBlind', WHERE WHAT IT READS IS OF BULK AT MOST 1048576: true; the input reads as it did. -/
def mendBlindUptoRow : OpenClaim := { program := "ytcokmmanajdioaa", sum := "3b3360d401542a42f3eba833c541bd6bb7e36c28bcb1672dea8986fb4c09c10e", func := "cartridge/cartridgelaw15.MendBlind", spec := "mendBlind", unfollowed := true, recurses := true, apart := false, narrowed := true }
def MendBlindUptoSaid : Prop := mendBlindUptoRow.holds Try.pinned (OpenSpec.upto mendBlindSpec)

end Rows
end Go.Proofs.Ytcokmmanajdioaa
