/- What Whole of package catalog answers: the file that parts make up. Units in a row: what a unit's cells are; one struct in a block of its own. No function of the program. -/
import Derived.Test.YtbijjgicjkmopaaDoorMaq
import Derived.Test.YtbijjgicjkmopaaDoorMar
import Derived.Test.YtbijjgicjkmopaaDoorShelf
import Derived.Test.YtbijjgicjkmopaaDoorMao
namespace Go.Proofs.YtbijjgicjkmopaaDoor
open Go.RowKit
open Pt (Tx)

/-- a file in a block -/
def fileO (P : Tx) (v z s r : Int) (b : Bool) (A : Option Addr) (m C : Nat) : Obj := .cells #[.string (tx P), .int .i64 v, .int .i64 z, .int .i64 s, .int .i64 r, .bool b, .slice A m C] 46
theorem file7 {w : World} {B : Nat} {P : Tx} {v z s r : Int} {b : Bool} {A : Option Addr} {m C : Nat} (h : w.heap[B]? = some (fileO P v z s r b A m C)) :
    w.cell? ⟨B, 0, none⟩ = some (.string (tx P)) ∧ w.cell? ⟨B, 1, none⟩ = some (.int .i64 v) ∧ w.cell? ⟨B, 2, none⟩ = some (.int .i64 z) ∧ w.cell? ⟨B, 3, none⟩ = some (.int .i64 s) ∧ w.cell? ⟨B, 4, none⟩ = some (.int .i64 r) ∧ w.cell? ⟨B, 5, none⟩ = some (.bool b) ∧ w.cell? ⟨B, 6, none⟩ = some (.slice A m C) :=
  ⟨heap_cell h, heap_cell h, heap_cell h, heap_cell h, heap_cell h, heap_cell h, heap_cell h⟩
theorem file_free {w : World} {B : Nat} {P : Tx} {v z s r : Int} {b : Bool} {A : Option Addr} {m C : Nat} (h : w.heap[B]? = some (fileO P v z s r b A m C)) :
    w.frozen? ⟨B, 0, none⟩ = false ∧ w.frozen? ⟨B, 1, none⟩ = false ∧ w.frozen? ⟨B, 2, none⟩ = false ∧ w.frozen? ⟨B, 3, none⟩ = false ∧ w.frozen? ⟨B, 4, none⟩ = false ∧ w.frozen? ⟨B, 5, none⟩ = false ∧ w.frozen? ⟨B, 6, none⟩ = false :=
  ⟨heap_frozen h, heap_frozen h, heap_frozen h, heap_frozen h, heap_frozen h, heap_frozen h, heap_frozen h⟩
theorem seven_set {w : World} {g : Nat} {P0 : Tx} {v0 z0 s0 r0 : Int} {b0 : Bool} {A0 : Option Addr} {m0 C0 : Nat} (h : w.heap[g]? = some (fileO P0 v0 z0 s0 r0 b0 A0 m0 C0)) (P : Tx) (v z s r : Int) (b : Bool) (A : Option Addr) (m C : Nat) :
    (((((((w.setCell ⟨g, 0, none⟩ (.string (tx P))).setCell ⟨g, 1, none⟩ (.int .i64 v)).setCell ⟨g, 2, none⟩ (.int .i64 z)).setCell ⟨g, 3, none⟩ (.int .i64 s)).setCell ⟨g, 4, none⟩ (.int .i64 r)).setCell ⟨g, 5, none⟩ (.bool b)).setCell ⟨g, 6, none⟩ (.slice A m C)).heap[g]? = some (fileO P v z s r b A m C) := by
  have h0 : (w.setCell ⟨g, 0, none⟩ (.string (tx P))).heap[g]? = some (.cells #[.string (tx P), .int .i64 v0, .int .i64 z0, .int .i64 s0, .int .i64 r0, .bool b0, .slice A0 m0 C0] 46) := heap_set h _
  have h1 : ((w.setCell ⟨g, 0, none⟩ (.string (tx P))).setCell ⟨g, 1, none⟩ (.int .i64 v)).heap[g]? = some (.cells #[.string (tx P), .int .i64 v, .int .i64 z0, .int .i64 s0, .int .i64 r0, .bool b0, .slice A0 m0 C0] 46) := heap_set h0 _
  have h2 : (((w.setCell ⟨g, 0, none⟩ (.string (tx P))).setCell ⟨g, 1, none⟩ (.int .i64 v)).setCell ⟨g, 2, none⟩ (.int .i64 z)).heap[g]? = some (.cells #[.string (tx P), .int .i64 v, .int .i64 z, .int .i64 s0, .int .i64 r0, .bool b0, .slice A0 m0 C0] 46) := heap_set h1 _
  have h3 : ((((w.setCell ⟨g, 0, none⟩ (.string (tx P))).setCell ⟨g, 1, none⟩ (.int .i64 v)).setCell ⟨g, 2, none⟩ (.int .i64 z)).setCell ⟨g, 3, none⟩ (.int .i64 s)).heap[g]? = some (.cells #[.string (tx P), .int .i64 v, .int .i64 z, .int .i64 s, .int .i64 r0, .bool b0, .slice A0 m0 C0] 46) := heap_set h2 _
  have h4 : (((((w.setCell ⟨g, 0, none⟩ (.string (tx P))).setCell ⟨g, 1, none⟩ (.int .i64 v)).setCell ⟨g, 2, none⟩ (.int .i64 z)).setCell ⟨g, 3, none⟩ (.int .i64 s)).setCell ⟨g, 4, none⟩ (.int .i64 r)).heap[g]? = some (.cells #[.string (tx P), .int .i64 v, .int .i64 z, .int .i64 s, .int .i64 r, .bool b0, .slice A0 m0 C0] 46) := heap_set h3 _
  have h5 : ((((((w.setCell ⟨g, 0, none⟩ (.string (tx P))).setCell ⟨g, 1, none⟩ (.int .i64 v)).setCell ⟨g, 2, none⟩ (.int .i64 z)).setCell ⟨g, 3, none⟩ (.int .i64 s)).setCell ⟨g, 4, none⟩ (.int .i64 r)).setCell ⟨g, 5, none⟩ (.bool b)).heap[g]? = some (.cells #[.string (tx P), .int .i64 v, .int .i64 z, .int .i64 s, .int .i64 r, .bool b, .slice A0 m0 C0] 46) := heap_set h4 _
  have h6 : (((((((w.setCell ⟨g, 0, none⟩ (.string (tx P))).setCell ⟨g, 1, none⟩ (.int .i64 v)).setCell ⟨g, 2, none⟩ (.int .i64 z)).setCell ⟨g, 3, none⟩ (.int .i64 s)).setCell ⟨g, 4, none⟩ (.int .i64 r)).setCell ⟨g, 5, none⟩ (.bool b)).setCell ⟨g, 6, none⟩ (.slice A m C)).heap[g]? = some (.cells #[.string (tx P), .int .i64 v, .int .i64 z, .int .i64 s, .int .i64 r, .bool b, .slice A m C] 46) := heap_set h5 _
  exact h6
theorem seven_zero {w : World} {g : Nat} {P0 : Tx} {v0 z0 s0 r0 : Int} {b0 : Bool} {A0 : Option Addr} {m0 C0 : Nat} (h : w.heap[g]? = some (fileO P0 v0 z0 s0 r0 b0 A0 m0 C0)) :
    (((((((w.setCell ⟨g, 0, none⟩ (.string ⟨#[]⟩)).setCell ⟨g, 1, none⟩ (.int .i64 0)).setCell ⟨g, 2, none⟩ (.int .i64 0)).setCell ⟨g, 3, none⟩ (.int .i64 0)).setCell ⟨g, 4, none⟩ (.int .i64 0)).setCell ⟨g, 5, none⟩ (.bool false)).setCell ⟨g, 6, none⟩ (.slice none 0 0)).heap[g]? = some (.cells #[.string ⟨#[]⟩, .int .i64 0, .int .i64 0, .int .i64 0, .int .i64 0, .bool false, .slice none 0 0] 46) := seven_set h [] 0 0 0 0 false none 0 0
theorem zero7 {w : World} {B : Nat} (h : w.heap[B]? = some (.cells #[.string ⟨#[]⟩, .int .i64 0, .int .i64 0, .int .i64 0, .int .i64 0, .bool false, .slice none 0 0] 46)) :
    w.cell? ⟨B, 0, none⟩ = some (.string ⟨#[]⟩) ∧ w.cell? ⟨B, 1, none⟩ = some (.int .i64 0) ∧ w.cell? ⟨B, 2, none⟩ = some (.int .i64 0) ∧ w.cell? ⟨B, 3, none⟩ = some (.int .i64 0) ∧ w.cell? ⟨B, 4, none⟩ = some (.int .i64 0) ∧ w.cell? ⟨B, 5, none⟩ = some (.bool false) ∧ w.cell? ⟨B, 6, none⟩ = some (.slice none 0 0) :=
  ⟨heap_cell h, heap_cell h, heap_cell h, heap_cell h, heap_cell h, heap_cell h, heap_cell h⟩
theorem seven_kp (w : World) (g : Nat) (u0 u1 u2 u3 u4 u5 u6 : Value) : Kp (· = g) w (((((((w.setCell ⟨g, 0, none⟩ u0).setCell ⟨g, 1, none⟩ u1).setCell ⟨g, 2, none⟩ u2).setCell ⟨g, 3, none⟩ u3).setCell ⟨g, 4, none⟩ u4).setCell ⟨g, 5, none⟩ u5).setCell ⟨g, 6, none⟩ u6) :=
  (((((((Kp.store _ _ _ _).trans (Kp.store _ _ _ _)).trans (Kp.store _ _ _ _)).trans (Kp.store _ _ _ _)).trans (Kp.store _ _ _ _)).trans (Kp.store _ _ _ _)).trans (Kp.store _ _ _ _))
/-- a store of what is there turns nothing -/
theorem setCell_same {w : World} {g j : Nat} {c : Array Value} {t : TypeId} {fr : Nat × Nat} {v : Value} (h : w.heap[g]? = some (.cells c t fr)) (hv : w.cell? ⟨g, j, none⟩ = some v) : w.setCell ⟨g, j, none⟩ v = w := by
  rw [heap_cell h] at hv
  have hc : c.setIfInBounds j v = c := by
    apply Array.ext_getElem?
    intro i
    rw [Array.getElem?_setIfInBounds]
    split
    · rename_i e
      subst e
      split
      · exact hv.symm
      · rename_i hlt
        rw [Array.getElem?_eq_none (by omega)] at hv
        cases hv
    · rfl
  have hh : (w.setCell ⟨g, j, none⟩ v).heap = w.heap := by
    apply Array.ext_getElem?
    intro i
    by_cases e : i = g
    · subst e; rw [heap_set h v, hc, h]
    · exact Below.heap_setCell _ _ _ _ (fun h => e h)
  have hd : ∀ (h' : Array Obj), h' = w.heap → ({ w with heap := h' } : World) = w := by rintro h' rfl; rfl
  exact hd _ hh
/-- an own row of parts, at one of them -/
theorem ownQ_at {w : World} {base : Nat} {v : Value} {l : List Ct.P} (h : encQ.Own w base 44 v l) {i : Nat} (hi : i < l.length) : ∃ g C c, v = .slice (some ⟨g, 0, none⟩) l.length C ∧ base ≤ g ∧ w.heap[g]? = some (.cells c 44 (0, 0)) ∧ Ten w g (i * 10) l[i] := by
  obtain ⟨A, C, hv, -, -, -, hr⟩ := h.rd
  obtain ⟨b, off, e, hg, ht⟩ := ten_of hr hi
  rcases h.2 with ⟨e0, h0⟩ | ⟨g, cap, cur, e0, hb, hgg, _⟩
  · omega
  · rw [e0] at hv
    injection hv with h1 h2 h3
    rw [e] at h1
    injection h1 with h1
    injection h1 with h1 h4
    subst h1 h4
    rw [Nat.zero_add] at ht
    exact ⟨g, cap, cur, e0, hb, hgg, ht⟩
/-- what Whole answers -/
def WholeA (o : Option Ct.F) (w : World) (e : Ending) (w' : World) : Prop :=
  (match o with
    | some f => ∃ A C, e = .returned (.tuple #[.agg #[.string (tx f.path), .int .i64 f.version, .int .i64 f.size, .int .i64 f.sum, .int .i64 f.serial, .bool f.gone, .slice A f.parts.length C], .bool true]) ∧ encQ.Own w' w.heap.size 44 (.slice A f.parts.length C) f.parts
    | none => e = .returned (.tuple #[.agg #[.string ⟨#[]⟩, .int .i64 0, .int .i64 0, .int .i64 0, .int .i64 0, .bool false, .slice none 0 0], .bool false])) ∧ Below w.heap.size w w'
theorem WholeA.no {o : Option Ct.F} {w w' : World} (h : o = none) (hb : Below w.heap.size w w') : WholeA o w (.returned (.tuple #[.agg #[.string ⟨#[]⟩, .int .i64 0, .int .i64 0, .int .i64 0, .int .i64 0, .bool false, .slice none 0 0], .bool false])) w' := by subst h; exact ⟨rfl, hb⟩
theorem WholeA.yes {o : Option Ct.F} {P : Tx} {v z s r : Int} {b : Bool} {A : Option Addr} {m C : Nat} {l : List Ct.P} {w w' : World} (h : o = some ⟨P, v, z, s, r, b, l⟩) (hm : m = l.length) (hO : encQ.Own w' w.heap.size 44 (.slice A m C) l) (hb : Below w.heap.size w w') :
    WholeA o w (.returned (.tuple #[.agg #[.string (tx P), .int .i64 v, .int .i64 z, .int .i64 s, .int .i64 r, .bool b, .slice A m C], .bool true])) w' := by subst h hm; exact ⟨⟨A, C, rfl, hO⟩, hb⟩
theorem cloned17 (s : Tx) (w : World) (hl : s.length ≤ 281474976710656) :
    Calls Tryd.prog 24 #[.string (tx s)] w fun e w' => e = .returned (.string (tx s)) ∧ Below w.heap.size w w' := by
  have es := tx_size s
  go_enter Tryd.func24, Tryd.ntmps24
  go_wp2_with fail
  refine (Tryd.stringslite_Clone (tx s) _ (by omega)).mono ?_
  rintro e w1 ⟨rfl, hb⟩
  have HB := Lib.hid hb
  clear hb
  go_wp2
  go_ret
  exact ⟨rfl, HB.out⟩
end Go.Proofs.YtbijjgicjkmopaaDoor
namespace Go.Proofs.YtbijjgicjkmopaaDoor
open Go.RowKit

theorem infoUnit : (Tryd.prog.info? 32).map (fun i => (i.zero, i.size, i.bytes)) = some (some (.agg #[.int .i64 0, .int .i64 0, .int .i64 0, .slice none 0 0]), 4, 48) := by kernel_rfl
/-- one struct in a block of its own -/
theorem Enc.Own.one {α : Type} {E : Enc α} {w : World} {base g : Nat} {t : TypeId} {x : α} (h : w.heap[g]? = some (.cells (E.enc x).toArray t)) (hb : base ≤ g) : E.Own w base t (.slice (some ⟨g, 0, none⟩) 1 1) [x] := by
  refine ⟨E.cells_len [x], .inr ⟨g, 1, _, rfl, hb, h, Nat.le_refl _, by decide, ?_, ?_⟩⟩
  · rw [List.size_toArray, E.len]; omega
  · rw [E.cells_one, List.length_singleton, Nat.one_mul]
    show (E.enc x).take E.k = E.enc x
    exact List.take_of_length_le (by rw [E.len]; exact Nat.le_refl _)
theorem own_lower {w : World} {B B' : Nat} {t : TypeId} {k n : Nat} {v : Value} {xs : List Value} (h : w.ownsRow B t k v n xs) (hb : B' ≤ B) : w.ownsRow B' t k v n xs := by
  refine ⟨h.1, ?_⟩
  rcases h.2 with h0 | ⟨g, cap, cur, e, hg, r⟩
  · exact .inl h0
  · exact .inr ⟨g, cap, cur, e, Nat.le_trans hb hg, r⟩
end Go.Proofs.YtbijjgicjkmopaaDoor
