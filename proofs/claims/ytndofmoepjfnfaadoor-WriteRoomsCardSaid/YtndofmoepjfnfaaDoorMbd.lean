/- What the document's own Writer writes. A Writer of the document's own at work. -/
import Derived.Test.YtndofmoepjfnfaaDoorMai
import Derived.Test.YtndofmoepjfnfaaDoorChecked
import Derived.OwnWalk
import Derived.Handy
import Derived.WalkSpells
import Derived.WalkLawsBesides
import Derived.StillTailTactics
import Derived.Laws.BitsAllLaws
import Derived.Laws.BitsLemmas
import Derived.Test.YtndofmoepjfnfaaDoorMat
namespace Go.Proofs.YtndofmoepjfnfaaDoor
open Go.RowKit
open Pt (Tx)

theorem lit_rd (w : World) (l : Tx) {c : Array Value} (hc : c = (cellsL l).toArray) : RdL (w.alloc (.cells c 5)) (some ⟨w.heap.size, 0, none⟩) l (· = w.heap.size) := by
  subst hc
  exact RdL.of_cells (Go.Deep.blk_alloc_new _ _) fun j hj => by rw [Nat.zero_add]; simpa using cellsL_get hj
theorem Turned.refl (g base : Nat) (w : World) : Turned g base w w := Kp.refl _ w
theorem vbyte_any (g base : Nat) (v : Value) (l : Tx) (c : UInt8) (w : World) (h : Rw w g base v l) (hbase : base ≤ w.heap.size) (hl : l.length ≤ 999999990) :
    Calls Tryd.prog 23 #[.pointer (some ⟨g, 0, none⟩), .int .u8 (c.toNat : Int)] w (RefWrote g base (l ++ [c]) w) := by
  have hlt := h.lt
  obtain ⟨A, C, hv, -, -, -, -⟩ := h.2.rd
  have c0 : w.cell? ⟨g, 0, none⟩ = some v := heap_cell h.1
  have f0 : w.frozen? ⟨g, 0, none⟩ = false := heap_frozen h.1
  have H := Lib.hid h
  clear h
  subst hv
  go_enter Tryd.func23, Tryd.ntmps23
  go_wp2_with (at_builtin; refine wpList_append_bl _ rfl _ _ rfl base _ l rfl (H.out.2.alloc _) (some ⟨w.heap.size, 0, none⟩) 1 1 [c] (· = w.heap.size) rfl rfl (fun h => by cases h) (lit_rd w [c] rfl) (by omega) (by simp; omega) ?_; intro v' w' hv hg; obtain ⟨hA, hB, hC⟩ := H.out.stored ((Turned.refl g base w).alloc _) (Below.heap_alloc _ _ _ hlt) (H.out.2.alloc _) hg hv; obtain ⟨A', C', rfl, -, -, -, -⟩ := hv.rd; have d0 : w'.cell? ⟨g, 0, none⟩ = some (.slice A l.length C) := heap_cell (hA.trans H.out.1); have d1 : w'.frozen? ⟨g, 0, none⟩ = false := heap_frozen (hA.trans H.out.1); have HB := Lib.hid hB; have HC := Lib.hid hC; clear hA hB hC hv hg)
  go_end0
  have hb := HB.out
  have hc := HC.out
  rw [List.length_append] at hb hc
  exact ⟨rfl, ⟨_, hb⟩, hc⟩
theorem mask_u64 (y : Int) (h0 : 0 ≤ y) (h1 : y < 18446744073709551616) : bits BinOp.and IntKind.u64 y 255 = y % 256 := by
  have h : bits BinOp.and IntKind.u64 y (2 ^ 8 - 1) = y % 2 ^ 8 := bits_mask .u64 64 (by decide) (fun m h0 h1 => by rw [IntKind.wrap_u64]; omega) 8 (by decide) y h0 h1
  simpa using h
theorem vint_any (g base : Nat) (v : Value) (l : Tx) (n : Int) (w : World) (h : Rw w g base v l) (hbase : base ≤ w.heap.size) (hl : l.length ≤ 999999990) :
    Calls Tryd.prog 24 #[.pointer (some ⟨g, 0, none⟩), .int .i64 n] w (RefWrote g base (l ++ Cd.be4 n) w) := by
  have hlt := h.lt
  obtain ⟨A, C, hv, -, -, -, -⟩ := h.2.rd
  have c0 : w.cell? ⟨g, 0, none⟩ = some v := heap_cell h.1
  have f0 : w.frozen? ⟨g, 0, none⟩ = false := heap_frozen h.1
  have H := Lib.hid h
  clear h
  subst hv
  have hw := IntKind.wrap_u64 n
  have m0 : bits BinOp.and IntKind.u64 (IntKind.u64.wrap n / 16777216) 255 = n / 16777216 % 256 := by rw [mask_u64 _ (by omega) (by omega), hw]; omega
  have m1 : bits BinOp.and IntKind.u64 (IntKind.u64.wrap n / 65536) 255 = n / 65536 % 256 := by rw [mask_u64 _ (by omega) (by omega), hw]; omega
  have m2 : bits BinOp.and IntKind.u64 (IntKind.u64.wrap n / 256) 255 = n / 256 % 256 := by rw [mask_u64 _ (by omega) (by omega), hw]; omega
  have m3 : bits BinOp.and IntKind.u64 (IntKind.u64.wrap n) 255 = n % 256 := by rw [mask_u64 _ (by omega) (by omega), hw]; omega
  clear hw
  go_enter Tryd.func24, Tryd.ntmps24
  go_wp2_with (at_builtin; refine wpList_append_bl _ rfl _ _ rfl base _ l rfl (H.out.2.alloc _) (some ⟨w.heap.size, 0, none⟩) 4 4 (Cd.be4 n) (· = w.heap.size) rfl rfl (fun h => by cases h) (lit_rd w (Cd.be4 n) (by simp [cellsL, Cd.be4, Cd.b8_nat])) (by omega) (by simp; omega) ?_; intro v' w' hv hg; obtain ⟨hA, hB, hC⟩ := H.out.stored ((Turned.refl g base w).alloc _) (Below.heap_alloc _ _ _ hlt) (H.out.2.alloc _) hg hv; obtain ⟨A', C', rfl, -, -, -, -⟩ := hv.rd; have d0 : w'.cell? ⟨g, 0, none⟩ = some (.slice A l.length C) := heap_cell (hA.trans H.out.1); have d1 : w'.frozen? ⟨g, 0, none⟩ = false := heap_frozen (hA.trans H.out.1); have HB := Lib.hid hB; have HC := Lib.hid hC; clear hA hB hC hv hg)
  go_end0
  have hb := HB.out
  have hc := HC.out
  rw [List.length_append] at hb hc
  exact ⟨rfl, ⟨_, hb⟩, hc⟩
end Go.Proofs.YtndofmoepjfnfaaDoor
namespace Go.Proofs.YtndofmoepjfnfaaDoor
open Go.RowKit
open Pt (Tx)

theorem Turned.other {g base B : Nat} {a b : World} {cs : Array Value} {t : TypeId} (h : Turned g base a b) (hB : B ≠ g) (ht : t ≠ 5) (hu : a.heap[B]? = some (.cells cs t (0, 0))) : b.heap[B]? = some (.cells cs t (0, 0)) := by
  refine (h.block B (heap_lt hu) ?_).trans hu
  rintro (h' | ⟨_, c, h'⟩)
  · exact hB h'
  · rw [hu] at h'
    injection h' with h'
    injection h' with _ e
    exact ht e
/-- a Writer of the document's own at work: what it holds, and what lies beside it -/
structure RefAt (w : World) (gr : Nat) (o : Obj) (l : Tx) (x : World) : Prop where
  rw_ : ∃ v, Rw x gr gr v l
  hd : x.heap[w.heap.size]? = some o
  bel : Below w.heap.size w x
  lo : w.heap.size < gr
theorem RefAt.wrote {w : World} {gr : Nat} {l l' : Tx} {x y : World} {e : Ending} {cs : Array Value} {t : TypeId} (ht : t ≠ 5) (h : RefAt w gr (.cells cs t (0, 0)) l x) (hw : RefWrote gr gr l' x e y) : RefAt w gr (.cells cs t (0, 0)) l' y := by
  obtain ⟨_, h2, h3⟩ := hw
  have := h.lo
  exact ⟨h2, h3.other (by omega) ht h.hd, h.bel.trans (Turned.below h3 h.bel.size (by omega) (by omega)), h.lo⟩
theorem RefAt.base {w : World} {gr : Nat} {o : Obj} {l : Tx} {x : World} (h : RefAt w gr o l x) : gr ≤ x.heap.size := by
  obtain ⟨v, hv⟩ := h.rw_
  exact Nat.le_of_lt hv.lt
theorem RefAt.done {w : World} {gr : Nat} {o : Obj} {l l' : Tx} {x : World} (h : RefAt w gr o l x) (hl : l = l') : ∃ A C, x.cell? ⟨gr, 0, none⟩ = some (.slice A l.length C) ∧ AnsT l' w (.returned (.slice A l.length C)) x := by
  subst hl
  obtain ⟨v, hv⟩ := h.rw_
  obtain ⟨A, C, rfl, g1, g2, g3, g4⟩ := hv.2.rd
  have := h.lo
  exact ⟨A, C, heap_cell hv.1, A, l.length, C, rfl, rfl, g1, g2, g3, g4.mono (fun x hx => by omega), h.bel⟩
theorem vbyte_int (g base : Nat) (v : Value) (l : Tx) (n : Int) (w : World) (h : Rw w g base v l) (hbase : base ≤ w.heap.size) (hl : l.length ≤ 999999990) :
    Calls Tryd.prog 23 #[.pointer (some ⟨g, 0, none⟩), .int .u8 (n % 256)] w (RefWrote g base (l ++ [Cd.b8 n]) w) := by
  rw [← Cd.b8_nat]; exact vbyte_any g base v l (Cd.b8 n) w h hbase hl
end Go.Proofs.YtndofmoepjfnfaaDoor
