/-
  No cell of these rows narrows 'for every input' (looked for: loops, veiled, ifaces, maps, wideKeys, modest, calm, conditions, laid).
  DERIVED. THE GIVEN ROWS OF THIS SEAT. 5 by the template 'for every input the law returns true; each argument reads behind the call as it read before'; 0 by the template 'total and deterministic' (their statements: YtanaldojoacbeaaTotals.lean).
  GIVEN WITH THE SEED: the statements are not yours to turn. If you find one false, say at which input.
  Laid BY PROGRAM, IN A SANDBOX (cutbox-rows.mjs): the forced cells as the released guide's own fill.sh prints them over the translation 9b6875a44e481e9f… (all of the seat's roots in one cut). By AI agents, Wed Nov 11 2026. No macro, syntax, notation, axiom, sorry.
-/
import Derived.Test.YtanaldojoacbeaaChecked
import GoSem.Claim
import GoSem.ClaimJoined
import GoSem.ClaimMapViews
import Derived.JoinedTies
import Derived.KernelRfl
namespace Go.Proofs.Ytanaldojoacbeaa
/- THE CELL 'sum', in the pinned program and in every row, IS THE sha256 OF THE DUMP (.gsa) THAT YtanaldojoacbeaaProg.lean LOADS. Nothing in Lean hashes anything: it is a label: what it is worth is what the hold of that sum in a sandbox is worth. -/
noncomputable def Try.pinned : Pinned := { name := "ytanaldojoacbeaa", sum := "9b6875a44e481e9f8396776009ad881a6d4629ce022b985093ad56de28facbf2", checked := Try.checked }
namespace Rows
def none {H : Type} : Left H := { results := [], args := [] }

/-- 'cartridgelaw2.MatrixTells': WHATEVER THE INPUT: true; the input reads as it did. -/
def matrixTellsSpec : ChangeSpec := { name := "matrixTells", fn := fun _ => fun
  | [d1, d2, d3] => { results := [.lit (.bool true)], args := [d1, d2, d3] }
  | _ => none }
def matrixTellsRow : OpenClaim := { program := "ytanaldojoacbeaa", sum := "9b6875a44e481e9f8396776009ad881a6d4629ce022b985093ad56de28facbf2", func := "cartridge/cartridgelaw2.MatrixTells", spec := "matrixTells", apart := false }
def MatrixTellsSaid : Prop := matrixTellsRow.holds Try.pinned (OpenSpec.ofChange matrixTellsSpec)

/-- ITS FALSE NEIGHBOUR: 'it returns false'. Refute it at one input. -/
def matrixTellsWrong : ChangeSpec := { name := "matrixTells", fn := fun _ => fun
  | [d1, d2, d3] => { results := [.lit (.bool false)], args := [d1, d2, d3] }
  | _ => none }
def MatrixTellsWrongFalsely : Prop := matrixTellsRow.holds Try.pinned (OpenSpec.ofChange matrixTellsWrong)

/-- 'cartridgelaw2.MatrixCauchy': WHATEVER THE INPUT: true; the input reads as it did. -/
def matrixCauchySpec : ChangeSpec := { name := "matrixCauchy", fn := fun _ => fun
  | [d1, d2, d3, d4] => { results := [.lit (.bool true)], args := [d1, d2, d3, d4] }
  | _ => none }
def matrixCauchyRow : OpenClaim := { program := "ytanaldojoacbeaa", sum := "9b6875a44e481e9f8396776009ad881a6d4629ce022b985093ad56de28facbf2", func := "cartridge/cartridgelaw2.MatrixCauchy", spec := "matrixCauchy", apart := false }
def MatrixCauchySaid : Prop := matrixCauchyRow.holds Try.pinned (OpenSpec.ofChange matrixCauchySpec)

/-- ITS FALSE NEIGHBOUR: 'it returns false'. Refute it at one input. -/
def matrixCauchyWrong : ChangeSpec := { name := "matrixCauchy", fn := fun _ => fun
  | [d1, d2, d3, d4] => { results := [.lit (.bool false)], args := [d1, d2, d3, d4] }
  | _ => none }
def MatrixCauchyWrongFalsely : Prop := matrixCauchyRow.holds Try.pinned (OpenSpec.ofChange matrixCauchyWrong)

/-- 'cartridgelaw2.MatrixUndoes': WHATEVER THE INPUT: true; the input reads as it did. -/
def matrixUndoesSpec : ChangeSpec := { name := "matrixUndoes", fn := fun _ => fun
  | [d1, d2] => { results := [.lit (.bool true)], args := [d1, d2] }
  | _ => none }
def matrixUndoesRow : OpenClaim := { program := "ytanaldojoacbeaa", sum := "9b6875a44e481e9f8396776009ad881a6d4629ce022b985093ad56de28facbf2", func := "cartridge/cartridgelaw2.MatrixUndoes", spec := "matrixUndoes", apart := false }
def MatrixUndoesSaid : Prop := matrixUndoesRow.holds Try.pinned (OpenSpec.ofChange matrixUndoesSpec)

/-- ITS FALSE NEIGHBOUR: 'it returns false'. Refute it at one input. -/
def matrixUndoesWrong : ChangeSpec := { name := "matrixUndoes", fn := fun _ => fun
  | [d1, d2] => { results := [.lit (.bool false)], args := [d1, d2] }
  | _ => none }
def MatrixUndoesWrongFalsely : Prop := matrixUndoesRow.holds Try.pinned (OpenSpec.ofChange matrixUndoesWrong)

/-- 'cartridgelaw2.MatrixOne': WHATEVER THE INPUT: true; the input reads as it did. -/
def matrixOneSpec : ChangeSpec := { name := "matrixOne", fn := fun _ => fun
  | [d1, d2] => { results := [.lit (.bool true)], args := [d1, d2] }
  | _ => none }
def matrixOneRow : OpenClaim := { program := "ytanaldojoacbeaa", sum := "9b6875a44e481e9f8396776009ad881a6d4629ce022b985093ad56de28facbf2", func := "cartridge/cartridgelaw2.MatrixOne", spec := "matrixOne", apart := false }
def MatrixOneSaid : Prop := matrixOneRow.holds Try.pinned (OpenSpec.ofChange matrixOneSpec)

/-- ITS FALSE NEIGHBOUR: 'it returns false'. Refute it at one input. -/
def matrixOneWrong : ChangeSpec := { name := "matrixOne", fn := fun _ => fun
  | [d1, d2] => { results := [.lit (.bool false)], args := [d1, d2] }
  | _ => none }
def MatrixOneWrongFalsely : Prop := matrixOneRow.holds Try.pinned (OpenSpec.ofChange matrixOneWrong)

/-- 'cartridgelaw2.MatrixEven': WHATEVER THE INPUT: true; the input reads as it did. -/
def matrixEvenSpec : ChangeSpec := { name := "matrixEven", fn := fun _ => fun
  | [d1, d2, d3] => { results := [.lit (.bool true)], args := [d1, d2, d3] }
  | _ => none }
def matrixEvenRow : OpenClaim := { program := "ytanaldojoacbeaa", sum := "9b6875a44e481e9f8396776009ad881a6d4629ce022b985093ad56de28facbf2", func := "cartridge/cartridgelaw2.MatrixEven", spec := "matrixEven", apart := false }
def MatrixEvenSaid : Prop := matrixEvenRow.holds Try.pinned (OpenSpec.ofChange matrixEvenSpec)

/-- ITS FALSE NEIGHBOUR: 'it returns false'. Refute it at one input. -/
def matrixEvenWrong : ChangeSpec := { name := "matrixEven", fn := fun _ => fun
  | [d1, d2, d3] => { results := [.lit (.bool false)], args := [d1, d2, d3] }
  | _ => none }
def MatrixEvenWrongFalsely : Prop := matrixEvenRow.holds Try.pinned (OpenSpec.ofChange matrixEvenWrong)

/- THE SECOND FORM. 'bulk': how many values and letters a reading holds, each counted each time it is reached (what is shared counts as often as it is met; a slice's spare places count too). A statement '..UptoSaid' is the law's where the arguments, and the package variables that the reading takes, are together of bulk at most 1048576: NARROWER than '..Said'. Prove '..Said' where nothing that the law and all that it calls make is longer than what came in: it says more and counts as full. Else prove '..UptoSaid'. A law counts once. -/
mutual
def uptoBulk {H : Type} : DataW H → Nat
  | .lit (.string bytes) => bytes.length + 1
  | .lit _ => 1
  | .nil => 1
  | .ptr d => uptoBulk d + 1
  | .slice elems spare => uptoBulkAll elems + uptoBulkAll spare + 1
  | .agg parts => uptoBulkAll parts + 1
  | .iface _ d => uptoBulk d + 1
  | .map entries => uptoBulkEntries entries + 1
  | .held _ => 1
def uptoBulkAll {H : Type} : List (DataW H) → Nat
  | [] => 0
  | d :: r => uptoBulk d + uptoBulkAll r
def uptoBulkEntries {H : Type} : List (Lit × DataW H) → Nat
  | [] => 0
  | x :: r => uptoBulkEntry x + uptoBulkEntries r
def uptoBulkEntry {H : Type} : Lit × DataW H → Nat
  | (.string bytes, d) => bytes.length + uptoBulk d + 1
  | (_, d) => uptoBulk d + 1
 end
def uptoSmall : (H : Type) → List (DataW H) → Bool := fun _ ds => decide (uptoBulkAll ds ≤ 1048576)
def OpenSpec.upto (s : _root_.Go.ChangeSpec) : _root_.Go.OpenSpec := { _root_.Go.OpenSpec.ofChange s with cond := some uptoSmall }

/-- 'cartridgelaw2.MatrixTells', WHERE WHAT IT READS IS OF BULK AT MOST 1048576: true; the input reads as it did. -/
def matrixTellsUptoRow : OpenClaim := { program := "ytanaldojoacbeaa", sum := "9b6875a44e481e9f8396776009ad881a6d4629ce022b985093ad56de28facbf2", func := "cartridge/cartridgelaw2.MatrixTells", spec := "matrixTells", apart := false, narrowed := true }
def MatrixTellsUptoSaid : Prop := matrixTellsUptoRow.holds Try.pinned (OpenSpec.upto matrixTellsSpec)

/-- 'cartridgelaw2.MatrixCauchy', WHERE WHAT IT READS IS OF BULK AT MOST 1048576: true; the input reads as it did. -/
def matrixCauchyUptoRow : OpenClaim := { program := "ytanaldojoacbeaa", sum := "9b6875a44e481e9f8396776009ad881a6d4629ce022b985093ad56de28facbf2", func := "cartridge/cartridgelaw2.MatrixCauchy", spec := "matrixCauchy", apart := false, narrowed := true }
def MatrixCauchyUptoSaid : Prop := matrixCauchyUptoRow.holds Try.pinned (OpenSpec.upto matrixCauchySpec)

/-- 'cartridgelaw2.MatrixUndoes', WHERE WHAT IT READS IS OF BULK AT MOST 1048576: true; the input reads as it did. -/
def matrixUndoesUptoRow : OpenClaim := { program := "ytanaldojoacbeaa", sum := "9b6875a44e481e9f8396776009ad881a6d4629ce022b985093ad56de28facbf2", func := "cartridge/cartridgelaw2.MatrixUndoes", spec := "matrixUndoes", apart := false, narrowed := true }
def MatrixUndoesUptoSaid : Prop := matrixUndoesUptoRow.holds Try.pinned (OpenSpec.upto matrixUndoesSpec)

/-- 'cartridgelaw2.MatrixOne', WHERE WHAT IT READS IS OF BULK AT MOST 1048576: true; the input reads as it did. -/
def matrixOneUptoRow : OpenClaim := { program := "ytanaldojoacbeaa", sum := "9b6875a44e481e9f8396776009ad881a6d4629ce022b985093ad56de28facbf2", func := "cartridge/cartridgelaw2.MatrixOne", spec := "matrixOne", apart := false, narrowed := true }
def MatrixOneUptoSaid : Prop := matrixOneUptoRow.holds Try.pinned (OpenSpec.upto matrixOneSpec)

/-- 'cartridgelaw2.MatrixEven', WHERE WHAT IT READS IS OF BULK AT MOST 1048576: true; the input reads as it did. -/
def matrixEvenUptoRow : OpenClaim := { program := "ytanaldojoacbeaa", sum := "9b6875a44e481e9f8396776009ad881a6d4629ce022b985093ad56de28facbf2", func := "cartridge/cartridgelaw2.MatrixEven", spec := "matrixEven", apart := false, narrowed := true }
def MatrixEvenUptoSaid : Prop := matrixEvenUptoRow.holds Try.pinned (OpenSpec.upto matrixEvenSpec)

end Rows
end Go.Proofs.Ytanaldojoacbeaa
