/-
  No cell of these rows narrows 'for every input' (looked for: loops, veiled, ifaces, maps, wideKeys, modest, calm, conditions, laid).
  DERIVED. THE GIVEN ROWS OF THIS SEAT. 3 by the template 'for every input the law returns true; each argument reads behind the call as it read before'; 0 by the template 'total and deterministic' (their statements: YtelkeoopfejgnaaTotals.lean).
  GIVEN WITH THE SEED: the statements are not yours to turn. If you find one false, say at which input.
  Laid BY PROGRAM, IN A SANDBOX (cutbox-rows.mjs): the forced cells as the released guide's own fill.sh prints them over the translation b2a0d3cfe6f81efa… (all of the seat's roots in one cut). By AI agents, Wed Nov 11 2026. No macro, syntax, notation, axiom, sorry.
-/
import Derived.Test.YtelkeoopfejgnaaChecked
import GoSem.Claim
import GoSem.ClaimJoined
import GoSem.ClaimMapViews
import Derived.JoinedTies
import Derived.KernelRfl
namespace Go.Proofs.Ytelkeoopfejgnaa
/- THE CELL 'sum', in the pinned program and in every row, IS THE sha256 OF THE DUMP (.gsa) THAT YtelkeoopfejgnaaProg.lean LOADS. Nothing in Lean hashes anything: it is a label: what it is worth is what the hold of that sum in a sandbox is worth. -/
noncomputable def Try.pinned : Pinned := { name := "ytelkeoopfejgnaa", sum := "b2a0d3cfe6f81efa4c76c7335b110ae7e44443f50cbbc11772b2202f069c8914", checked := Try.checked }
namespace Rows
def none {H : Type} : Left H := { results := [], args := [] }

/-- 'cartridgelaw3.ErasureTells': WHATEVER THE INPUT: true; the input reads as it did. -/
def erasureTellsSpec : ChangeSpec := { name := "erasureTells", fn := fun _ => fun
  | [d1, d2, d3] => { results := [.lit (.bool true)], args := [d1, d2, d3] }
  | _ => none }
def erasureTellsRow : OpenClaim := { program := "ytelkeoopfejgnaa", sum := "b2a0d3cfe6f81efa4c76c7335b110ae7e44443f50cbbc11772b2202f069c8914", func := "cartridge/cartridgelaw3.ErasureTells", spec := "erasureTells", apart := false }
def ErasureTellsSaid : Prop := erasureTellsRow.holds Try.pinned (OpenSpec.ofChange erasureTellsSpec)

/-- ITS FALSE NEIGHBOUR: 'it returns false'. Refute it at one input. -/
def erasureTellsWrong : ChangeSpec := { name := "erasureTells", fn := fun _ => fun
  | [d1, d2, d3] => { results := [.lit (.bool false)], args := [d1, d2, d3] }
  | _ => none }
def ErasureTellsWrongFalsely : Prop := erasureTellsRow.holds Try.pinned (OpenSpec.ofChange erasureTellsWrong)

/-- 'cartridgelaw3.ErasureBack': WHATEVER THE INPUT: true; the input reads as it did. -/
def erasureBackSpec : ChangeSpec := { name := "erasureBack", fn := fun _ => fun
  | [d1, d2, d3] => { results := [.lit (.bool true)], args := [d1, d2, d3] }
  | _ => none }
def erasureBackRow : OpenClaim := { program := "ytelkeoopfejgnaa", sum := "b2a0d3cfe6f81efa4c76c7335b110ae7e44443f50cbbc11772b2202f069c8914", func := "cartridge/cartridgelaw3.ErasureBack", spec := "erasureBack", apart := false }
def ErasureBackSaid : Prop := erasureBackRow.holds Try.pinned (OpenSpec.ofChange erasureBackSpec)

/-- ITS FALSE NEIGHBOUR: 'it returns false'. Refute it at one input. -/
def erasureBackWrong : ChangeSpec := { name := "erasureBack", fn := fun _ => fun
  | [d1, d2, d3] => { results := [.lit (.bool false)], args := [d1, d2, d3] }
  | _ => none }
def ErasureBackWrongFalsely : Prop := erasureBackRow.holds Try.pinned (OpenSpec.ofChange erasureBackWrong)

/-- 'cartridgelaw3.ErasureLine': WHATEVER THE INPUT: true; the input reads as it did. -/
def erasureLineSpec : ChangeSpec := { name := "erasureLine", fn := fun _ => fun
  | [d1, d2, d3] => { results := [.lit (.bool true)], args := [d1, d2, d3] }
  | _ => none }
def erasureLineRow : OpenClaim := { program := "ytelkeoopfejgnaa", sum := "b2a0d3cfe6f81efa4c76c7335b110ae7e44443f50cbbc11772b2202f069c8914", func := "cartridge/cartridgelaw3.ErasureLine", spec := "erasureLine", apart := false }
def ErasureLineSaid : Prop := erasureLineRow.holds Try.pinned (OpenSpec.ofChange erasureLineSpec)

/-- ITS FALSE NEIGHBOUR: 'it returns false'. Refute it at one input. -/
def erasureLineWrong : ChangeSpec := { name := "erasureLine", fn := fun _ => fun
  | [d1, d2, d3] => { results := [.lit (.bool false)], args := [d1, d2, d3] }
  | _ => none }
def ErasureLineWrongFalsely : Prop := erasureLineRow.holds Try.pinned (OpenSpec.ofChange erasureLineWrong)

/- THE SECOND FORM. 'bulk': how many values and letters a reading holds, each counted each time it is reached (what is shared counts as often as it is met; a slice's spare places count too). A statement '..UptoSaid' is the law's where the arguments, and the package variables that the reading takes, are together of bulk at most 1048576: NARROWER than '..Said'. Prove '..Said' where nothing that the law and all that it calls make is longer than what came in: it says more and counts as full. Else prove '..UptoSaid'. A law counts once. -/
mutual
def uptoBulk {H : Type} : DataW H → Nat
  | .lit (.string bytes) => bytes.length + 1
  | .lit _ => 1
  | .nil => 1
  | .ptr d => uptoBulk d + 1
  | .slice elems spare => uptoBulkAll elems + uptoBulkAll spare + 1
  | .agg parts => uptoBulkAll parts + 1
  | .iface _ d => uptoBulk d + 1
  | .map entries => uptoBulkEntries entries + 1
  | .held _ => 1
def uptoBulkAll {H : Type} : List (DataW H) → Nat
  | [] => 0
  | d :: r => uptoBulk d + uptoBulkAll r
def uptoBulkEntries {H : Type} : List (Lit × DataW H) → Nat
  | [] => 0
  | x :: r => uptoBulkEntry x + uptoBulkEntries r
def uptoBulkEntry {H : Type} : Lit × DataW H → Nat
  | (.string bytes, d) => bytes.length + uptoBulk d + 1
  | (_, d) => uptoBulk d + 1
 end
def uptoSmall : (H : Type) → List (DataW H) → Bool := fun _ ds => decide (uptoBulkAll ds ≤ 1048576)
def OpenSpec.upto (s : _root_.Go.ChangeSpec) : _root_.Go.OpenSpec := { _root_.Go.OpenSpec.ofChange s with cond := some uptoSmall }

/-- 'cartridgelaw3.ErasureTells', WHERE WHAT IT READS IS OF BULK AT MOST 1048576: true; the input reads as it did. -/
def erasureTellsUptoRow : OpenClaim := { program := "ytelkeoopfejgnaa", sum := "b2a0d3cfe6f81efa4c76c7335b110ae7e44443f50cbbc11772b2202f069c8914", func := "cartridge/cartridgelaw3.ErasureTells", spec := "erasureTells", apart := false, narrowed := true }
def ErasureTellsUptoSaid : Prop := erasureTellsUptoRow.holds Try.pinned (OpenSpec.upto erasureTellsSpec)

/-- 'cartridgelaw3.ErasureBack', WHERE WHAT IT READS IS OF BULK AT MOST 1048576: true; the input reads as it did. -/
def erasureBackUptoRow : OpenClaim := { program := "ytelkeoopfejgnaa", sum := "b2a0d3cfe6f81efa4c76c7335b110ae7e44443f50cbbc11772b2202f069c8914", func := "cartridge/cartridgelaw3.ErasureBack", spec := "erasureBack", apart := false, narrowed := true }
def ErasureBackUptoSaid : Prop := erasureBackUptoRow.holds Try.pinned (OpenSpec.upto erasureBackSpec)

/-- 'cartridgelaw3.ErasureLine', WHERE WHAT IT READS IS OF BULK AT MOST 1048576: true; the input reads as it did. -/
def erasureLineUptoRow : OpenClaim := { program := "ytelkeoopfejgnaa", sum := "b2a0d3cfe6f81efa4c76c7335b110ae7e44443f50cbbc11772b2202f069c8914", func := "cartridge/cartridgelaw3.ErasureLine", spec := "erasureLine", apart := false, narrowed := true }
def ErasureLineUptoSaid : Prop := erasureLineUptoRow.holds Try.pinned (OpenSpec.upto erasureLineSpec)

end Rows
end Go.Proofs.Ytelkeoopfejgnaa
