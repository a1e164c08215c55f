/- Errors of package fault in memory: a flaw, layers of words around it; what Unwrap, errors.As and errors.Is do with them. -/
import Derived.Test.YtdfialcaebjihaaDoorFtFacts
import Derived.Tactics
import Derived.Tactics2
import Derived.Defers
import Derived.Recover
import Derived.Laws.Pointers
import Derived.Deep.DeepFit
namespace Go.Proofs.YtdfialcaebjihaaDoor
open Go.RowKit Go.Extern.Stop Go.Stop Go.Extern
open Pt (Tx)

/-- a code, a label, a block -/
structure Fl where
  c : Int
  l : Int
  k : Int
  deriving DecidableEq
theorem Fl.ext' {f g : Fl} (h1 : f.c = g.c) (h2 : f.l = g.l) (h3 : f.k = g.k) : f = g := by cases f; cases g; simp_all
abbrev flv (f : Fl) : Value := .agg #[.int .i64 f.c, .int .i64 f.l, .int .i64 f.k]
/-- layers of these words around f, the outermost first -/
def Ly (w : World) (f : Fl) : List Tx → Option Addr → Prop
  | [], P => P = none
  | s :: r, P => ∃ b P', P = some ⟨b, 0, none⟩ ∧ w.heap[b]? = some (.cells #[.string (tx s), .pointer P', .int .i64 f.c, .int .i64 f.l, .int .i64 f.k] 48 (0, 0)) ∧ (∀ a, P' = some a → a.block < b) ∧ Ly w f r P'
/-- the error v is f with these words around it -/
def Er (w : World) (f : Fl) : List Tx → Value → Prop
  | [], v => v = .iface 44 (flv f)
  | s :: r, v => ∃ b, v = .iface 45 (.pointer (some ⟨b, 0, none⟩)) ∧ Ly w f (s :: r) (some ⟨b, 0, none⟩)
theorem Ly.keep {w w' : World} {f : Fl} : ∀ {ws : List Tx} {P : Option Addr}, Ly w f ws P → (∀ (b : Nat) (c : Array Value), w.heap[b]? = some (Obj.cells c 48 (0, 0)) → w'.heap[b]? = w.heap[b]?) → Ly w' f ws P
  | [], _, h, _ => h
  | _ :: _, _, ⟨b, P', e, hb, hlt, h⟩, hk => ⟨b, P', e, (hk b _ hb).trans hb, hlt, Ly.keep h hk⟩
theorem Er.keep {w w' : World} {f : Fl} : ∀ {ws : List Tx} {v : Value}, Er w f ws v → (∀ (b : Nat) (c : Array Value), w.heap[b]? = some (Obj.cells c 48 (0, 0)) → w'.heap[b]? = w.heap[b]?) → Er w' f ws v
  | [], _, h, _ => h
  | _ :: _, _, ⟨b, e, h⟩, hk => ⟨b, e, Ly.keep h hk⟩
theorem heap_lt' {w : World} {b : Nat} {o : Obj} (h : w.heap[b]? = some o) : b < w.heap.size := (Array.getElem?_eq_some_iff.1 h).1
theorem Er.old {w w' : World} {f : Fl} {ws : List Tx} {v : Value} (h : Er w f ws v) (hb : Below w.heap.size w w') : Er w' f ws v :=
  Er.keep h fun b _ hc => hb.block b (heap_lt' hc)
theorem Er.heap {w w' : World} {f : Fl} {ws : List Tx} {v : Value} (h : Er w f ws v) (hb : w'.heap = w.heap) : Er w' f ws v :=
  Er.keep h fun b _ _ => by rw [hb]
theorem Er.iface {w : World} {f : Fl} {ws : List Tx} {v : Value} (h : Er w f ws v) : ∃ t x, v = .iface t x := by
  cases ws with
  | nil => exact ⟨_, _, h⟩
  | cons s r => obtain ⟨b, e, _⟩ := h; exact ⟨_, _, e⟩
/-- how deep an error may lie -/
def rank : Value → Nat
  | .iface _ (.pointer (some a)) => a.block + 1
  | _ => 0
theorem cell_of {w : World} {b : Nat} {c : Array Value} {t : TypeId} {fr : Nat × Nat} (h : w.heap[b]? = some (.cells c t fr)) (j : Nat) : w.cell? ⟨b, j, none⟩ = c[j]? := by simp [World.cell?, h]

/-- Unwrap: what the word is around. -/
theorem unwrap_any (f : Fl) (s : Tx) (r : List Tx) (b : Nat) (w : World) (h : Ly w f (s :: r) (some ⟨b, 0, none⟩)) :
    Calls Tryd.prog 66 #[.pointer (some ⟨b, 0, none⟩)] w fun e w' => (∃ v', e = .returned v' ∧ Er w f r v' ∧ rank v' < b + 1) ∧ w' = w := by
  obtain ⟨b', P', e, hb, hlt, hr⟩ := h
  injection e with e
  injection e with e _ _
  subst e
  have c1 : w.cell? ⟨b, 1, none⟩ = some (.pointer P') := cell_of hb 1
  have c2 : w.cell? ⟨b, 2, none⟩ = some (.int .i64 f.c) := cell_of hb 2
  have c3 : w.cell? ⟨b, 3, none⟩ = some (.int .i64 f.l) := cell_of hb 3
  have c4 : w.cell? ⟨b, 4, none⟩ = some (.int .i64 f.k) := cell_of hb 4
  have HB := Lib.hid hb
  have HR := Lib.hid hr
  have HL := Lib.hid hlt
  clear hb hr hlt
  cases r with
  | nil =>
    have hP : P' = none := HR.out
    subst hP
    go_enter Tryd.func66, Tryd.ntmps66
    go_wp2
    go_ret
    exact ⟨⟨_, rfl, rfl, Nat.succ_pos _⟩, rfl⟩
  | cons s' r' =>
    obtain ⟨b2, P2, rfl, h2, hl2, hr2⟩ := HR.out
    have hlt2 := HL.out _ rfl
    go_enter Tryd.func66, Tryd.ntmps66
    go_wp2
    go_ret
    exact ⟨⟨_, rfl, ⟨b2, rfl, HR.out⟩, Nat.succ_lt_succ hlt2⟩, rfl⟩
end Go.Proofs.YtdfialcaebjihaaDoor
