/-
  No cell of these rows narrows 'for every input' (looked for: loops, veiled, ifaces, maps, wideKeys, modest, calm, conditions, laid).
  DERIVED. THE GIVEN ROWS OF THIS SEAT. 3 by the template 'for every input the law returns true; each argument reads behind the call as it read before'; 0 by the template 'total and deterministic' (their statements: YtnbfkihgloipiaaTotals.lean).
  GIVEN WITH THE SEED: the statements are not yours to turn. If you find one false, say at which input.
  Laid BY PROGRAM, IN A SANDBOX (cutbox-rows.mjs): the forced cells as the released guide's own fill.sh prints them over the translation 939f324bdad93bdc… (all of the seat's roots in one cut). By AI agents, Wed Nov 11 2026. No macro, syntax, notation, axiom, sorry.
-/
import Derived.Test.YtnbfkihgloipiaaChecked
import GoSem.Claim
import GoSem.ClaimJoined
import GoSem.ClaimMapViews
import Derived.JoinedTies
import Derived.KernelRfl
namespace Go.Proofs.Ytnbfkihgloipiaa
/- THE CELL 'sum', in the pinned program and in every row, IS THE sha256 OF THE DUMP (.gsa) THAT YtnbfkihgloipiaaProg.lean LOADS. Nothing in Lean hashes anything: it is a label: what it is worth is what the hold of that sum in a sandbox is worth. -/
noncomputable def Try.pinned : Pinned := { name := "ytnbfkihgloipiaa", sum := "939f324bdad93bdc16228c181a2bdb9561443d711862fcb2ce6b3fc76bac96f8", checked := Try.checked }
namespace Rows
def none {H : Type} : Left H := { results := [], args := [] }

/-- 'cartridgelaw16.VerifyTells': WHATEVER THE INPUT: true; the input reads as it did. -/
def verifyTellsSpec : ChangeSpec := { name := "verifyTells", fn := fun _ => fun
  | [d1, d2] => { results := [.lit (.bool true)], args := [d1, d2] }
  | _ => none }
def verifyTellsRow : OpenClaim := { program := "ytnbfkihgloipiaa", sum := "939f324bdad93bdc16228c181a2bdb9561443d711862fcb2ce6b3fc76bac96f8", func := "cartridge/cartridgelaw16.VerifyTells", spec := "verifyTells", apart := false }
def VerifyTellsSaid : Prop := verifyTellsRow.holds Try.pinned (OpenSpec.ofChange verifyTellsSpec)

/-- ITS FALSE NEIGHBOUR: 'it returns false'. Refute it at one input. -/
def verifyTellsWrong : ChangeSpec := { name := "verifyTells", fn := fun _ => fun
  | [d1, d2] => { results := [.lit (.bool false)], args := [d1, d2] }
  | _ => none }
def VerifyTellsWrongFalsely : Prop := verifyTellsRow.holds Try.pinned (OpenSpec.ofChange verifyTellsWrong)

/-- 'cartridgelaw16.VerifyFinds': WHATEVER THE INPUT: true; the input reads as it did. -/
def verifyFindsSpec : ChangeSpec := { name := "verifyFinds", fn := fun _ => fun
  | [d1, d2] => { results := [.lit (.bool true)], args := [d1, d2] }
  | _ => none }
def verifyFindsRow : OpenClaim := { program := "ytnbfkihgloipiaa", sum := "939f324bdad93bdc16228c181a2bdb9561443d711862fcb2ce6b3fc76bac96f8", func := "cartridge/cartridgelaw16.VerifyFinds", spec := "verifyFinds", apart := false }
def VerifyFindsSaid : Prop := verifyFindsRow.holds Try.pinned (OpenSpec.ofChange verifyFindsSpec)

/-- ITS FALSE NEIGHBOUR: 'it returns false'. Refute it at one input. -/
def verifyFindsWrong : ChangeSpec := { name := "verifyFinds", fn := fun _ => fun
  | [d1, d2] => { results := [.lit (.bool false)], args := [d1, d2] }
  | _ => none }
def VerifyFindsWrongFalsely : Prop := verifyFindsRow.holds Try.pinned (OpenSpec.ofChange verifyFindsWrong)

/-- 'cartridgelaw16.VerifyMembers': WHATEVER THE INPUT: true; the input reads as it did. -/
def verifyMembersSpec : ChangeSpec := { name := "verifyMembers", fn := fun _ => fun
  | [d1, d2, d3, d4] => { results := [.lit (.bool true)], args := [d1, d2, d3, d4] }
  | _ => none }
def verifyMembersRow : OpenClaim := { program := "ytnbfkihgloipiaa", sum := "939f324bdad93bdc16228c181a2bdb9561443d711862fcb2ce6b3fc76bac96f8", func := "cartridge/cartridgelaw16.VerifyMembers", spec := "verifyMembers", apart := false }
def VerifyMembersSaid : Prop := verifyMembersRow.holds Try.pinned (OpenSpec.ofChange verifyMembersSpec)

/-- ITS FALSE NEIGHBOUR: 'it returns false'. Refute it at one input. -/
def verifyMembersWrong : ChangeSpec := { name := "verifyMembers", fn := fun _ => fun
  | [d1, d2, d3, d4] => { results := [.lit (.bool false)], args := [d1, d2, d3, d4] }
  | _ => none }
def VerifyMembersWrongFalsely : Prop := verifyMembersRow.holds Try.pinned (OpenSpec.ofChange verifyMembersWrong)

/- THE SECOND FORM. 'bulk': how many values and letters a reading holds, each counted each time it is reached (what is shared counts as often as it is met; a slice's spare places count too). A statement '..UptoSaid' is the law's where the arguments, and the package variables that the reading takes, are together of bulk at most 1048576: NARROWER than '..Said'. Prove '..Said' where nothing that the law and all that it calls make is longer than what came in: it says more and counts as full. Else prove '..UptoSaid'. A law counts once. -/
mutual
def uptoBulk {H : Type} : DataW H → Nat
  | .lit (.string bytes) => bytes.length + 1
  | .lit _ => 1
  | .nil => 1
  | .ptr d => uptoBulk d + 1
  | .slice elems spare => uptoBulkAll elems + uptoBulkAll spare + 1
  | .agg parts => uptoBulkAll parts + 1
  | .iface _ d => uptoBulk d + 1
  | .map entries => uptoBulkEntries entries + 1
  | .held _ => 1
def uptoBulkAll {H : Type} : List (DataW H) → Nat
  | [] => 0
  | d :: r => uptoBulk d + uptoBulkAll r
def uptoBulkEntries {H : Type} : List (Lit × DataW H) → Nat
  | [] => 0
  | x :: r => uptoBulkEntry x + uptoBulkEntries r
def uptoBulkEntry {H : Type} : Lit × DataW H → Nat
  | (.string bytes, d) => bytes.length + uptoBulk d + 1
  | (_, d) => uptoBulk d + 1
 end
def uptoSmall : (H : Type) → List (DataW H) → Bool := fun _ ds => decide (uptoBulkAll ds ≤ 1048576)
def OpenSpec.upto (s : _root_.Go.ChangeSpec) : _root_.Go.OpenSpec := { _root_.Go.OpenSpec.ofChange s with cond := some uptoSmall }

/-- 'cartridgelaw16.VerifyTells', WHERE WHAT IT READS IS OF BULK AT MOST 1048576: true; the input reads as it did. -/
def verifyTellsUptoRow : OpenClaim := { program := "ytnbfkihgloipiaa", sum := "939f324bdad93bdc16228c181a2bdb9561443d711862fcb2ce6b3fc76bac96f8", func := "cartridge/cartridgelaw16.VerifyTells", spec := "verifyTells", apart := false, narrowed := true }
def VerifyTellsUptoSaid : Prop := verifyTellsUptoRow.holds Try.pinned (OpenSpec.upto verifyTellsSpec)

/-- 'cartridgelaw16.VerifyFinds', WHERE WHAT IT READS IS OF BULK AT MOST 1048576: true; the input reads as it did. -/
def verifyFindsUptoRow : OpenClaim := { program := "ytnbfkihgloipiaa", sum := "939f324bdad93bdc16228c181a2bdb9561443d711862fcb2ce6b3fc76bac96f8", func := "cartridge/cartridgelaw16.VerifyFinds", spec := "verifyFinds", apart := false, narrowed := true }
def VerifyFindsUptoSaid : Prop := verifyFindsUptoRow.holds Try.pinned (OpenSpec.upto verifyFindsSpec)

/-- 'cartridgelaw16.VerifyMembers', WHERE WHAT IT READS IS OF BULK AT MOST 1048576: true; the input reads as it did. -/
def verifyMembersUptoRow : OpenClaim := { program := "ytnbfkihgloipiaa", sum := "939f324bdad93bdc16228c181a2bdb9561443d711862fcb2ce6b3fc76bac96f8", func := "cartridge/cartridgelaw16.VerifyMembers", spec := "verifyMembers", apart := false, narrowed := true }
def VerifyMembersUptoSaid : Prop := verifyMembersUptoRow.holds Try.pinned (OpenSpec.upto verifyMembersSpec)

end Rows
end Go.Proofs.Ytnbfkihgloipiaa
