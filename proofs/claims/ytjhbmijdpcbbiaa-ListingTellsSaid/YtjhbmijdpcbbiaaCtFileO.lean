/- A file in a block; a text cloned; two texts compared. -/
import Derived.Test.YtjhbmijdpcbbiaaCtWords
import Derived.Test.YtjhbmijdpcbbiaaShelf
import Derived.OwnWalk
import Derived.Handy
import Derived.WalkSpells
import Derived.WalkLawsBesides
namespace Go.Proofs.Ytjhbmijdpcbbiaa
open Go.RowKit
open Pt (Tx)

/-- a file in a block -/
def fileO (P : Tx) (v z s r : Int) (b : Bool) (A : Option Addr) (m C : Nat) : Obj := .cells #[.string (tx P), .int .i64 v, .int .i64 z, .int .i64 s, .int .i64 r, .bool b, .slice A m C] 26
theorem file7 {w : World} {B : Nat} {P : Tx} {v z s r : Int} {b : Bool} {A : Option Addr} {m C : Nat} (h : w.heap[B]? = some (fileO P v z s r b A m C)) :
    w.cell? ⟨B, 0, none⟩ = some (.string (tx P)) ∧ w.cell? ⟨B, 1, none⟩ = some (.int .i64 v) ∧ w.cell? ⟨B, 2, none⟩ = some (.int .i64 z) ∧ w.cell? ⟨B, 3, none⟩ = some (.int .i64 s) ∧ w.cell? ⟨B, 4, none⟩ = some (.int .i64 r) ∧ w.cell? ⟨B, 5, none⟩ = some (.bool b) ∧ w.cell? ⟨B, 6, none⟩ = some (.slice A m C) :=
  ⟨heap_cell h, heap_cell h, heap_cell h, heap_cell h, heap_cell h, heap_cell h, heap_cell h⟩
theorem file_free {w : World} {B : Nat} {P : Tx} {v z s r : Int} {b : Bool} {A : Option Addr} {m C : Nat} (h : w.heap[B]? = some (fileO P v z s r b A m C)) :
    w.frozen? ⟨B, 0, none⟩ = false ∧ w.frozen? ⟨B, 1, none⟩ = false ∧ w.frozen? ⟨B, 2, none⟩ = false ∧ w.frozen? ⟨B, 3, none⟩ = false ∧ w.frozen? ⟨B, 4, none⟩ = false ∧ w.frozen? ⟨B, 5, none⟩ = false ∧ w.frozen? ⟨B, 6, none⟩ = false :=
  ⟨heap_frozen h, heap_frozen h, heap_frozen h, heap_frozen h, heap_frozen h, heap_frozen h, heap_frozen h⟩
theorem seven_set {w : World} {g : Nat} {P0 : Tx} {v0 z0 s0 r0 : Int} {b0 : Bool} {A0 : Option Addr} {m0 C0 : Nat} (h : w.heap[g]? = some (fileO P0 v0 z0 s0 r0 b0 A0 m0 C0)) (P : Tx) (v z s r : Int) (b : Bool) (A : Option Addr) (m C : Nat) :
    (((((((w.setCell ⟨g, 0, none⟩ (.string (tx P))).setCell ⟨g, 1, none⟩ (.int .i64 v)).setCell ⟨g, 2, none⟩ (.int .i64 z)).setCell ⟨g, 3, none⟩ (.int .i64 s)).setCell ⟨g, 4, none⟩ (.int .i64 r)).setCell ⟨g, 5, none⟩ (.bool b)).setCell ⟨g, 6, none⟩ (.slice A m C)).heap[g]? = some (fileO P v z s r b A m C) := by
  have h0 : (w.setCell ⟨g, 0, none⟩ (.string (tx P))).heap[g]? = some (.cells #[.string (tx P), .int .i64 v0, .int .i64 z0, .int .i64 s0, .int .i64 r0, .bool b0, .slice A0 m0 C0] 26) := heap_set h _
  have h1 : ((w.setCell ⟨g, 0, none⟩ (.string (tx P))).setCell ⟨g, 1, none⟩ (.int .i64 v)).heap[g]? = some (.cells #[.string (tx P), .int .i64 v, .int .i64 z0, .int .i64 s0, .int .i64 r0, .bool b0, .slice A0 m0 C0] 26) := heap_set h0 _
  have h2 : (((w.setCell ⟨g, 0, none⟩ (.string (tx P))).setCell ⟨g, 1, none⟩ (.int .i64 v)).setCell ⟨g, 2, none⟩ (.int .i64 z)).heap[g]? = some (.cells #[.string (tx P), .int .i64 v, .int .i64 z, .int .i64 s0, .int .i64 r0, .bool b0, .slice A0 m0 C0] 26) := heap_set h1 _
  have h3 : ((((w.setCell ⟨g, 0, none⟩ (.string (tx P))).setCell ⟨g, 1, none⟩ (.int .i64 v)).setCell ⟨g, 2, none⟩ (.int .i64 z)).setCell ⟨g, 3, none⟩ (.int .i64 s)).heap[g]? = some (.cells #[.string (tx P), .int .i64 v, .int .i64 z, .int .i64 s, .int .i64 r0, .bool b0, .slice A0 m0 C0] 26) := heap_set h2 _
  have h4 : (((((w.setCell ⟨g, 0, none⟩ (.string (tx P))).setCell ⟨g, 1, none⟩ (.int .i64 v)).setCell ⟨g, 2, none⟩ (.int .i64 z)).setCell ⟨g, 3, none⟩ (.int .i64 s)).setCell ⟨g, 4, none⟩ (.int .i64 r)).heap[g]? = some (.cells #[.string (tx P), .int .i64 v, .int .i64 z, .int .i64 s, .int .i64 r, .bool b0, .slice A0 m0 C0] 26) := heap_set h3 _
  have h5 : ((((((w.setCell ⟨g, 0, none⟩ (.string (tx P))).setCell ⟨g, 1, none⟩ (.int .i64 v)).setCell ⟨g, 2, none⟩ (.int .i64 z)).setCell ⟨g, 3, none⟩ (.int .i64 s)).setCell ⟨g, 4, none⟩ (.int .i64 r)).setCell ⟨g, 5, none⟩ (.bool b)).heap[g]? = some (.cells #[.string (tx P), .int .i64 v, .int .i64 z, .int .i64 s, .int .i64 r, .bool b, .slice A0 m0 C0] 26) := heap_set h4 _
  have h6 : (((((((w.setCell ⟨g, 0, none⟩ (.string (tx P))).setCell ⟨g, 1, none⟩ (.int .i64 v)).setCell ⟨g, 2, none⟩ (.int .i64 z)).setCell ⟨g, 3, none⟩ (.int .i64 s)).setCell ⟨g, 4, none⟩ (.int .i64 r)).setCell ⟨g, 5, none⟩ (.bool b)).setCell ⟨g, 6, none⟩ (.slice A m C)).heap[g]? = some (.cells #[.string (tx P), .int .i64 v, .int .i64 z, .int .i64 s, .int .i64 r, .bool b, .slice A m C] 26) := heap_set h5 _
  exact h6
theorem seven_zero {w : World} {g : Nat} {P0 : Tx} {v0 z0 s0 r0 : Int} {b0 : Bool} {A0 : Option Addr} {m0 C0 : Nat} (h : w.heap[g]? = some (fileO P0 v0 z0 s0 r0 b0 A0 m0 C0)) :
    (((((((w.setCell ⟨g, 0, none⟩ (.string ⟨#[]⟩)).setCell ⟨g, 1, none⟩ (.int .i64 0)).setCell ⟨g, 2, none⟩ (.int .i64 0)).setCell ⟨g, 3, none⟩ (.int .i64 0)).setCell ⟨g, 4, none⟩ (.int .i64 0)).setCell ⟨g, 5, none⟩ (.bool false)).setCell ⟨g, 6, none⟩ (.slice none 0 0)).heap[g]? = some (.cells #[.string ⟨#[]⟩, .int .i64 0, .int .i64 0, .int .i64 0, .int .i64 0, .bool false, .slice none 0 0] 26) := seven_set h [] 0 0 0 0 false none 0 0
theorem zero7 {w : World} {B : Nat} (h : w.heap[B]? = some (.cells #[.string ⟨#[]⟩, .int .i64 0, .int .i64 0, .int .i64 0, .int .i64 0, .bool false, .slice none 0 0] 26)) :
    w.cell? ⟨B, 0, none⟩ = some (.string ⟨#[]⟩) ∧ w.cell? ⟨B, 1, none⟩ = some (.int .i64 0) ∧ w.cell? ⟨B, 2, none⟩ = some (.int .i64 0) ∧ w.cell? ⟨B, 3, none⟩ = some (.int .i64 0) ∧ w.cell? ⟨B, 4, none⟩ = some (.int .i64 0) ∧ w.cell? ⟨B, 5, none⟩ = some (.bool false) ∧ w.cell? ⟨B, 6, none⟩ = some (.slice none 0 0) :=
  ⟨heap_cell h, heap_cell h, heap_cell h, heap_cell h, heap_cell h, heap_cell h, heap_cell h⟩
theorem seven_kp (w : World) (g : Nat) (u0 u1 u2 u3 u4 u5 u6 : Value) : Kp (· = g) w (((((((w.setCell ⟨g, 0, none⟩ u0).setCell ⟨g, 1, none⟩ u1).setCell ⟨g, 2, none⟩ u2).setCell ⟨g, 3, none⟩ u3).setCell ⟨g, 4, none⟩ u4).setCell ⟨g, 5, none⟩ u5).setCell ⟨g, 6, none⟩ u6) :=
  (((((((Kp.store _ _ _ _).trans (Kp.store _ _ _ _)).trans (Kp.store _ _ _ _)).trans (Kp.store _ _ _ _)).trans (Kp.store _ _ _ _)).trans (Kp.store _ _ _ _)).trans (Kp.store _ _ _ _))
/-- a store of what is there turns nothing -/
theorem setCell_same {w : World} {g j : Nat} {c : Array Value} {t : TypeId} {fr : Nat × Nat} {v : Value} (h : w.heap[g]? = some (.cells c t fr)) (hv : w.cell? ⟨g, j, none⟩ = some v) : w.setCell ⟨g, j, none⟩ v = w := by
  rw [heap_cell h] at hv
  have hc : c.setIfInBounds j v = c := by
    apply Array.ext_getElem?
    intro i
    rw [Array.getElem?_setIfInBounds]
    split
    · rename_i e
      subst e
      split
      · exact hv.symm
      · rename_i hlt
        rw [Array.getElem?_eq_none (by omega)] at hv
        cases hv
    · rfl
  have hh : (w.setCell ⟨g, j, none⟩ v).heap = w.heap := by
    apply Array.ext_getElem?
    intro i
    by_cases e : i = g
    · subst e; rw [heap_set h v, hc, h]
    · exact Below.heap_setCell _ _ _ _ (fun h => e h)
  have hd : ∀ (h' : Array Obj), h' = w.heap → ({ w with heap := h' } : World) = w := by rintro h' rfl; rfl
  exact hd _ hh
/-- an own row of parts, at one of them -/
theorem ownQ_at {w : World} {base : Nat} {v : Value} {l : List Ct.P} (h : encQ.Own w base 45 v l) {i : Nat} (hi : i < l.length) : ∃ g C c, v = .slice (some ⟨g, 0, none⟩) l.length C ∧ base ≤ g ∧ w.heap[g]? = some (.cells c 45 (0, 0)) ∧ Ten w g (i * 10) l[i] := by
  obtain ⟨A, C, hv, -, -, -, hr⟩ := h.rd
  obtain ⟨b, off, e, hg, ht⟩ := ten_of hr hi
  rcases h.2 with ⟨e0, h0⟩ | ⟨g, cap, cur, e0, hb, hgg, _⟩
  · omega
  · rw [e0] at hv
    injection hv with h1 h2 h3
    rw [e] at h1
    injection h1 with h1
    injection h1 with h1 h4
    subst h1 h4
    rw [Nat.zero_add] at ht
    exact ⟨g, cap, cur, e0, hb, hgg, ht⟩
theorem two_files {w wb : World} {o1 o2 : Obj} (h : wb = (w.alloc o1).alloc o2) : Below w.heap.size w wb ∧ wb.heap[w.heap.size]? = some o1 ∧ wb.heap[w.heap.size + 1]? = some o2 := by
  have hb1 : Below w.heap.size w (w.alloc o1) := (Below.refl _ _).alloc (Nat.le_refl _) _
  have h1 : (w.alloc o1).heap[w.heap.size]? = some o1 := Go.Deep.blk_alloc_new _ _
  have h2 := Go.Deep.blk_alloc_new (w.alloc o1) o2
  rw [show (w.alloc o1).heap.size = w.heap.size + 1 by simp] at h2
  subst h
  exact ⟨hb1.alloc hb1.size _, (Below.heap_alloc _ _ _ (heap_lt h1)).trans h1, h2⟩
theorem lessB_is : ∀ (x y : List UInt8), Op.bytesLess x y = decide (x < y)
  | [], [] => by simp [Op.bytesLess]
  | _ :: _, [] => by simp [Op.bytesLess]
  | [], _ :: _ => by simp [Op.bytesLess]
  | a :: x, b :: y => by
    rw [Op.bytesLess, lessB_is x y]
    simp only [List.cons_lt_cons_iff]
    by_cases h : a < b <;> by_cases h' : a = b <;> simp [h, h']
theorem cloned17 (s : Tx) (w : World) (hl : s.length ≤ 281474976710656) :
    Calls Try.prog 23 #[.string (tx s)] w fun e w' => e = .returned (.string (tx s)) ∧ Below w.heap.size w w' := by
  have es := tx_size s
  go_enter Try.func23, Try.ntmps23
  go_wp2_with fail
  refine (Try.stringslite_Clone (tx s) _ (by omega)).mono ?_
  rintro e w1 ⟨rfl, hb⟩
  have HB := Lib.hid hb
  clear hb
  go_wp2
  go_ret
  exact ⟨rfl, HB.out⟩
end Go.Proofs.Ytjhbmijdpcbbiaa
