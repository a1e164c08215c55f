/- A part in a block, as an object. No function of the program. -/
import Derived.Test.YtjhbmijdpcbbiaaVoMath
import Derived.Test.YtjhbmijdpcbbiaaBlWords
import Derived.Test.YtjhbmijdpcbbiaaChecked
import Derived.OwnWalk
import Derived.Handy
import Derived.WalkSpells
import Derived.WalkLawsBesides
namespace Go.Proofs.Ytjhbmijdpcbbiaa
open Go.RowKit
open Pt (Tx)

/-- a part in memory: its head, its tape's label, and where it lies -/
def partObj (p : Tx) (v z f l s m : Int) (g : Bool) (lab at_ : Int) : Obj := .cells #[.string (tx p), .int .i64 v, .int .i64 z, .int .i64 f, .int .i64 l, .int .i64 s, .int .i64 m, .bool g, .int .i64 lab, .int .i64 at_] 45
theorem part10 {w : World} {B : Nat} {p : Tx} {v z f l s m : Int} {g : Bool} {lab at_ : Int} (h : w.heap[B]? = some (partObj p v z f l s m g lab at_)) :
    w.cell? ⟨B, 0, none⟩ = some (.string (tx p)) ∧ w.cell? ⟨B, 1, none⟩ = some (.int .i64 v) ∧ w.cell? ⟨B, 2, none⟩ = some (.int .i64 z) ∧ w.cell? ⟨B, 3, none⟩ = some (.int .i64 f)
      ∧ w.cell? ⟨B, 4, none⟩ = some (.int .i64 l) ∧ w.cell? ⟨B, 5, none⟩ = some (.int .i64 s) ∧ w.cell? ⟨B, 6, none⟩ = some (.int .i64 m) ∧ w.cell? ⟨B, 7, none⟩ = some (.bool g) ∧ w.cell? ⟨B, 8, none⟩ = some (.int .i64 lab) ∧ w.cell? ⟨B, 9, none⟩ = some (.int .i64 at_) :=
  ⟨heap_cell h, heap_cell h, heap_cell h, heap_cell h, heap_cell h, heap_cell h, heap_cell h, heap_cell h, heap_cell h, heap_cell h⟩
theorem part_frozen {w : World} {B : Nat} {p : Tx} {v z f l s m : Int} {g : Bool} {lab at_ : Int} (h : w.heap[B]? = some (partObj p v z f l s m g lab at_)) (j : Nat) : w.frozen? ⟨B, j, none⟩ = false := heap_frozen h
theorem below_obj' {o : Obj} {B : Nat} {x y : World} (hb : Below x.heap.size x y) (h : x.heap[B]? = some o) : y.heap[B]? = some o := (hb.block B (heap_lt h)).trans h
end Go.Proofs.Ytjhbmijdpcbbiaa
