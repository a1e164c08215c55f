/- A Reader of the document's own at work, and what lies beside it. -/
import Derived.Test.YtdllkbjbklhigaaDoorRefCdR
import Derived.Test.YtdllkbjbklhigaaDoorCdNew
namespace Go.Proofs.YtdllkbjbklhigaaDoor
open Go.RowKit
open Pt (Tx)

/-- the state of the document's own that reads -/
structure WayF (w : World) (gr hB : Nat) (s : Cd.St) (G : Nat → Prop) (o z : Obj) (x : World) : Prop where
  rr : Rf x gr s G
  hd : x.heap[hB]? = some o
  zr : x.heap[w.heap.size]? = some z
  bel : Below w.heap.size w x
  lo : w.heap.size < gr
  ne : gr < hB
  gs : ∀ b, G b → b < gr
theorem WayF.red {w : World} {gr hB : Nat} {s s' : Cd.St} {G : Nat → Prop} {o z : Obj} {x y : World} (h : WayF w gr hB s G o z x) (hr : Rf y gr s' G) (hk : Kp (· = gr) x y) : WayF w gr hB s' G o z y := by
  have h1 : hB < x.heap.size := by obtain ⟨hlt, _⟩ := Array.getElem?_eq_some_iff.1 h.hd; exact hlt
  have h2 : w.heap.size < x.heap.size := by obtain ⟨hlt, _⟩ := Array.getElem?_eq_some_iff.1 h.zr; exact hlt
  have := h.lo
  have := h.ne
  exact ⟨hr, (hk.block _ h1 (by omega)).trans h.hd, (hk.block _ h2 (by omega)).trans h.zr, h.bel.trans (lo_g hk h.bel.size (by omega)), h.lo, h.ne, h.gs⟩
theorem WayF.set {w : World} {gr hB : Nat} {s : Cd.St} {G : Nat → Prop} {z : Obj} {x : World} {cs cs' : Array Value} {t : TypeId} {fr : Nat × Nat} (h : WayF w gr hB s G (.cells cs t fr) z x) (i : Nat) (v : Value) (hc : cs.setIfInBounds i v = cs') : WayF w gr hB s G (.cells cs' t fr) z (x.setCell ⟨hB, i, none⟩ v) := by
  subst hc
  have hk : Kp (· = hB) x (x.setCell ⟨hB, i, none⟩ v) := Kp.store _ _ _ _
  have h2 : w.heap.size < x.heap.size := by obtain ⟨hlt, _⟩ := Array.getElem?_eq_some_iff.1 h.zr; exact hlt
  have := h.lo
  have := h.ne
  exact ⟨h.rr.kp hk (by omega) (fun b hb => by have := h.gs b hb; omega), heap_set h.hd _, (hk.block _ h2 (by omega)).trans h.zr, h.bel.trans (lo_g hk h.bel.size (by omega)), h.lo, h.ne, h.gs⟩
theorem WayF.old {w : World} {gr hB : Nat} {s : Cd.St} {G : Nat → Prop} {o z : Obj} {x y : World} (h : WayF w gr hB s G o z x) (hb : Below x.heap.size x y) : WayF w gr hB s G o z y := by
  have h1 : hB < x.heap.size := by obtain ⟨hlt, _⟩ := Array.getElem?_eq_some_iff.1 h.hd; exact hlt
  have h2 : w.heap.size < x.heap.size := by obtain ⟨hlt, _⟩ := Array.getElem?_eq_some_iff.1 h.zr; exact hlt
  exact ⟨h.rr.kp (S := fun _ => False) (Kp.of_below hb) (fun h => h) (fun _ _ h => h), (hb.block _ h1).trans h.hd, (hb.block _ h2).trans h.zr, h.bel.trans (hb.mono h.bel.size), h.lo, h.ne, h.gs⟩
/-- ahead of what is made -/
structure WayG (w : World) (gr : Nat) (s : Cd.St) (G : Nat → Prop) (z : Obj) (x : World) : Prop where
  rr : Rf x gr s G
  zr : x.heap[w.heap.size]? = some z
  bel : Below w.heap.size w x
  lo : w.heap.size < gr
  gs : ∀ b, G b → b < gr
theorem WayG.red {w : World} {gr : Nat} {s s' : Cd.St} {G : Nat → Prop} {z : Obj} {x y : World} (h : WayG w gr s G z x) (hr : Rf y gr s' G) (hk : Kp (· = gr) x y) : WayG w gr s' G z y := by
  have h2 : w.heap.size < x.heap.size := by obtain ⟨hlt, _⟩ := Array.getElem?_eq_some_iff.1 h.zr; exact hlt
  have := h.lo
  exact ⟨hr, (hk.block _ h2 (by omega)).trans h.zr, h.bel.trans (lo_g hk h.bel.size (by omega)), h.lo, h.gs⟩
theorem WayG.make {w : World} {gr : Nat} {s : Cd.St} {G : Nat → Prop} {z : Obj} {x : World} (h : WayG w gr s G z x) (o : Obj) : WayF w gr x.heap.size s G o z (x.alloc o) := by
  have h2 : w.heap.size < x.heap.size := by obtain ⟨hlt, _⟩ := Array.getElem?_eq_some_iff.1 h.zr; exact hlt
  have hb : Below x.heap.size x (x.alloc o) := (Below.refl _ _).alloc (Nat.le_refl _) _
  exact ⟨h.rr.kp (S := fun _ => False) (Kp.of_below hb) (fun h => h) (fun _ _ h => h), Go.Deep.blk_alloc_new _ _, (hb.block _ h2).trans h.zr, h.bel.trans (hb.mono h.bel.size), h.lo, h.rr.lt, h.gs⟩
theorem WayF.kp {w : World} {gr hB : Nat} {s : Cd.St} {G S : Nat → Prop} {o z : Obj} {x y : World} (h : WayF w gr hB s G o z x) (hk : Kp S x y) (h1 : ¬ S gr) (h2 : ¬ S hB) (h3 : ¬ S w.heap.size) (h4 : ∀ b, G b → ¬ S b) (h5 : ∀ b, S b → w.heap.size ≤ b) : WayF w gr hB s G o z y := by
  have e1 : hB < x.heap.size := by obtain ⟨hlt, _⟩ := Array.getElem?_eq_some_iff.1 h.hd; exact hlt
  have e2 : w.heap.size < x.heap.size := by obtain ⟨hlt, _⟩ := Array.getElem?_eq_some_iff.1 h.zr; exact hlt
  exact ⟨h.rr.kp hk h1 h4, (hk.block _ e1 h2).trans h.hd, (hk.block _ e2 h3).trans h.zr, h.bel.trans (hk.below h.bel.size h5), h.lo, h.ne, h.gs⟩
end Go.Proofs.YtdllkbjbklhigaaDoor
