/- A row of files that is given: its files as a list, the seven cells of each, what stands where another makes none. No function of the program. -/
import Derived.Test.YtjhbmijdpcbbiaaCtFileO
import Derived.Test.YtjhbmijdpcbbiaaLsPl
import Derived.BigQuiet
import Derived.Deep.QuietTactic
import Derived.Deep.DeepCutAuto
import Derived.Deep.RegionLaw
import Derived.Deep.DeepFit
import Derived.Deep.RegionHeld3
namespace Go.Proofs.Ytjhbmijdpcbbiaa
open Go.RowKit
open Pt (Tx)

/-- the files of a row -/
def filesOf (xs : List Fx) : List Ct.F := xs.map fun x => x.f
theorem filesOf_len (xs : List Fx) : (filesOf xs).length = xs.length := List.length_map _
theorem filesOf_get {xs : List Fx} {i : Nat} (h : i < xs.length) (h' : i < (filesOf xs).length) : (filesOf xs)[i] = xs[i].f := List.getElem_map (f := fun x : Fx => x.f) (l := xs) (i := i)
/-- one of a row of files -/
theorem seven_at {w : World} {A : Option Addr} {xs : List Fx} {G : Nat → Prop} (h : encF.Rd w A xs G) {i : Nat} (hi : i < xs.length) {P : Tx} {v z s r : Int} {b : Bool} {pl : List Ct.P} {A1 : Option Addr} {C1 : Nat} (hx : (⟨⟨P, v, z, s, r, b, pl⟩, A1, C1⟩ : Fx) = xs[i]) :
    ∃ g o, A = some ⟨g, o, none⟩ ∧ Seven w g (o + i * 7) P v z s r b A1 pl.length C1 := by
  obtain ⟨g, o, e, -, c⟩ := h.at_ hi
  rw [← hx] at c
  exact ⟨g, o, e, c 0 _ rfl, c 1 _ rfl, c 2 _ rfl, c 3 _ rfl, c 4 _ rfl, c 5 _ rfl, c 6 _ rfl⟩
theorem drewN_below (w : World) (n : Nat) : Below w.heap.size w (w.drewN n) := ⟨rfl, rfl, rfl, Nat.le_refl _, fun _ _ => rfl⟩
/-- a place as the walk has it -/
def pv (o : Option Nat) : Value := .int .i64 (Ls.pz o)
theorem pv_none : pv none = .int .i64 (-1) := rfl
theorem pv_some (k : Nat) : pv (some k) = .int .i64 (k : Int) := rfl
end Go.Proofs.Ytjhbmijdpcbbiaa
