/- A head in memory; what between, flag and the law's own num answer. -/
import Derived.Test.YtdllkbjbklhigaaDoorRcMath
import Derived.Test.YtdllkbjbklhigaaDoorBlWords
import Derived.Test.YtdllkbjbklhigaaDoorChecked
import Derived.OwnWalk
import Derived.Handy
import Derived.WalkSpells
import Derived.WalkLawsBesides
namespace Go.Proofs.YtdllkbjbklhigaaDoor
open Go.RowKit
open Pt (Tx)

/-- the head in a block -/
def headObj (p : Tx) (v z f l s m : Int) (g : Bool) : Obj := .cells #[.string (tx p), .int .i64 v, .int .i64 z, .int .i64 f, .int .i64 l, .int .i64 s, .int .i64 m, .bool g] 23
theorem head8 {w : World} {B : Nat} {p : Tx} {v z f l s m : Int} {g : Bool} (h : w.heap[B]? = some (headObj p v z f l s m g)) :
    w.cell? ⟨B, 0, none⟩ = some (.string (tx p)) ∧ w.cell? ⟨B, 1, none⟩ = some (.int .i64 v) ∧ w.cell? ⟨B, 2, none⟩ = some (.int .i64 z) ∧ w.cell? ⟨B, 3, none⟩ = some (.int .i64 f)
      ∧ w.cell? ⟨B, 4, none⟩ = some (.int .i64 l) ∧ w.cell? ⟨B, 5, none⟩ = some (.int .i64 s) ∧ w.cell? ⟨B, 6, none⟩ = some (.int .i64 m) ∧ w.cell? ⟨B, 7, none⟩ = some (.bool g) :=
  ⟨heap_cell h, heap_cell h, heap_cell h, heap_cell h, heap_cell h, heap_cell h, heap_cell h, heap_cell h⟩
theorem head_free {w : World} {B : Nat} {p : Tx} {v z f l s m : Int} {g : Bool} (h : w.heap[B]? = some (headObj p v z f l s m g)) :
    w.frozen? ⟨B, 0, none⟩ = false ∧ w.frozen? ⟨B, 1, none⟩ = false ∧ w.frozen? ⟨B, 2, none⟩ = false ∧ w.frozen? ⟨B, 3, none⟩ = false
      ∧ w.frozen? ⟨B, 4, none⟩ = false ∧ w.frozen? ⟨B, 5, none⟩ = false ∧ w.frozen? ⟨B, 6, none⟩ = false ∧ w.frozen? ⟨B, 7, none⟩ = false :=
  ⟨heap_frozen h, heap_frozen h, heap_frozen h, heap_frozen h, heap_frozen h, heap_frozen h, heap_frozen h, heap_frozen h⟩
theorem below_head {p : Tx} {v z f l s m : Int} {g : Bool} {B : Nat} {x y : World} (hb : Below x.heap.size x y) (h : x.heap[B]? = some (headObj p v z f l s m g)) : y.heap[B]? = some (headObj p v z f l s m g) :=
  (hb.block B (heap_lt h)).trans h
/-- a Bool is answered; nothing that was there is written -/
def AnsB (b : Bool) (w : World) (e : Ending) (w' : World) : Prop := e = .returned (.bool b) ∧ Below w.heap.size w w'
theorem num10 (n : Int) (w : World) : Calls Tryd.prog 14 #[.int .i64 n] w fun e w' => e = .returned (.int .i64 n) ∧ w = w' := by
  go_enter Tryd.func14, Tryd.ntmps14
  go_wp2
  go_ret
  exact ⟨rfl, rfl⟩
theorem flag_any (g : Bool) (w : World) : Calls Tryd.prog 26 #[.bool g] w fun e w' => e = .returned (.int .u8 ((Rc.goneB g).toNat : Int)) ∧ w = w' := by
  cases g with
  | true =>
    go_enter Tryd.func26, Tryd.ntmps26
    go_wp2
    go_ret
    exact ⟨rfl, rfl⟩
  | false =>
    go_enter Tryd.func26, Tryd.ntmps26
    go_wp2
    go_ret
    exact ⟨rfl, rfl⟩
/-- a number from a to b -/
def btw (n a b : Int) : Bool := decide (a ≤ n) && decide (n ≤ b)
theorem btw_yes {n a b : Int} (h : btw n a b = true) : a ≤ n ∧ n ≤ b := by simpa [btw] using h
theorem btw_no {n a b : Int} (h : btw n a b = false) : n < a ∨ b < n := by
  have : ¬ (a ≤ n ∧ n ≤ b) := fun h' => by simp [btw, h'.1, h'.2] at h
  omega
theorem btw_of {n a b : Int} (h : a ≤ n ∧ n ≤ b) : btw n a b = true := by simp [btw, h.1, h.2]
theorem between_any (n a b : Int) (w : World) : Calls Tryd.prog 38 #[.int .i64 n, .int .i64 a, .int .i64 b] w fun e w' => e = .returned (.bool (btw n a b)) ∧ w = w' := by
  cases q1 : decide (a ≤ n) with
  | true =>
    have H : Hid (btw n a b = decide (n ≤ b)) := Lib.hid (by unfold btw; rw [q1]; rfl)
    go_enter Tryd.func38, Tryd.ntmps38
    go_wp2
    go_ret
    exact ⟨by rw [H.out]; rfl, rfl⟩
  | false =>
    have H : Hid (btw n a b = false) := Lib.hid (by unfold btw; rw [q1]; rfl)
    go_enter Tryd.func38, Tryd.ntmps38
    go_wp2
    go_ret
    exact ⟨by rw [H.out]; rfl, rfl⟩
end Go.Proofs.YtdllkbjbklhigaaDoor
