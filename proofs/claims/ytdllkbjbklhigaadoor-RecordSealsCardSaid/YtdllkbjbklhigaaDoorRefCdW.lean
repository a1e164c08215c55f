/- What the document's own Writer writes. -/
import Derived.Test.YtdllkbjbklhigaaDoorCdWords
import Derived.Test.YtdllkbjbklhigaaDoorChecked
import Derived.OwnWalk
import Derived.Handy
import Derived.WalkSpells
import Derived.WalkLawsBesides
import Derived.StillTailTactics
import Derived.Laws.BitsAllLaws
import Derived.Laws.BitsLemmas
namespace Go.Proofs.YtdllkbjbklhigaaDoor
open Go.RowKit
open Pt (Tx)

theorem lit_rd (w : World) (l : Tx) {c : Array Value} (hc : c = (cellsL l).toArray) : RdL (w.alloc (.cells c 5)) (some ⟨w.heap.size, 0, none⟩) l (· = w.heap.size) := by
  subst hc
  exact RdL.of_cells (Go.Deep.blk_alloc_new _ _) fun j hj => by rw [Nat.zero_add]; simpa using cellsL_get hj
theorem Turned.refl (g base : Nat) (w : World) : Turned g base w w := Kp.refl _ w
theorem vbyte_any (g base : Nat) (v : Value) (l : Tx) (c : UInt8) (w : World) (h : Rw w g base v l) (hbase : base ≤ w.heap.size) (hl : l.length ≤ 999999990) :
    Calls Tryd.prog 42 #[.pointer (some ⟨g, 0, none⟩), .int .u8 (c.toNat : Int)] w (RefWrote g base (l ++ [c]) w) := by
  have hlt := h.lt
  obtain ⟨A, C, hv, -, -, -, -⟩ := h.2.rd
  have c0 : w.cell? ⟨g, 0, none⟩ = some v := heap_cell h.1
  have f0 : w.frozen? ⟨g, 0, none⟩ = false := heap_frozen h.1
  have H := Lib.hid h
  clear h
  subst hv
  go_enter Tryd.func42, Tryd.ntmps42
  go_wp2_with (at_builtin; refine wpList_append_bl _ rfl _ _ rfl base _ l rfl (H.out.2.alloc _) (some ⟨w.heap.size, 0, none⟩) 1 1 [c] (· = w.heap.size) rfl rfl (fun h => by cases h) (lit_rd w [c] rfl) (by omega) (by simp; omega) ?_; intro v' w' hv hg; obtain ⟨hA, hB, hC⟩ := H.out.stored ((Turned.refl g base w).alloc _) (Below.heap_alloc _ _ _ hlt) (H.out.2.alloc _) hg hv; obtain ⟨A', C', rfl, -, -, -, -⟩ := hv.rd; have d0 : w'.cell? ⟨g, 0, none⟩ = some (.slice A l.length C) := heap_cell (hA.trans H.out.1); have d1 : w'.frozen? ⟨g, 0, none⟩ = false := heap_frozen (hA.trans H.out.1); have HB := Lib.hid hB; have HC := Lib.hid hC; clear hA hB hC hv hg)
  go_end0
  have hb := HB.out
  have hc := HC.out
  rw [List.length_append] at hb hc
  exact ⟨rfl, ⟨_, hb⟩, hc⟩
theorem mask_u64 (y : Int) (h0 : 0 ≤ y) (h1 : y < 18446744073709551616) : bits BinOp.and IntKind.u64 y 255 = y % 256 := by
  have h : bits BinOp.and IntKind.u64 y (2 ^ 8 - 1) = y % 2 ^ 8 := bits_mask .u64 64 (by decide) (fun m h0 h1 => by rw [IntKind.wrap_u64]; omega) 8 (by decide) y h0 h1
  simpa using h
theorem vint_any (g base : Nat) (v : Value) (l : Tx) (n : Int) (w : World) (h : Rw w g base v l) (hbase : base ≤ w.heap.size) (hl : l.length ≤ 999999990) :
    Calls Tryd.prog 41 #[.pointer (some ⟨g, 0, none⟩), .int .i64 n] w (RefWrote g base (l ++ Cd.be4 n) w) := by
  have hlt := h.lt
  obtain ⟨A, C, hv, -, -, -, -⟩ := h.2.rd
  have c0 : w.cell? ⟨g, 0, none⟩ = some v := heap_cell h.1
  have f0 : w.frozen? ⟨g, 0, none⟩ = false := heap_frozen h.1
  have H := Lib.hid h
  clear h
  subst hv
  have hw := IntKind.wrap_u64 n
  have m0 : bits BinOp.and IntKind.u64 (IntKind.u64.wrap n / 16777216) 255 = n / 16777216 % 256 := by rw [mask_u64 _ (by omega) (by omega), hw]; omega
  have m1 : bits BinOp.and IntKind.u64 (IntKind.u64.wrap n / 65536) 255 = n / 65536 % 256 := by rw [mask_u64 _ (by omega) (by omega), hw]; omega
  have m2 : bits BinOp.and IntKind.u64 (IntKind.u64.wrap n / 256) 255 = n / 256 % 256 := by rw [mask_u64 _ (by omega) (by omega), hw]; omega
  have m3 : bits BinOp.and IntKind.u64 (IntKind.u64.wrap n) 255 = n % 256 := by rw [mask_u64 _ (by omega) (by omega), hw]; omega
  clear hw
  go_enter Tryd.func41, Tryd.ntmps41
  go_wp2_with (at_builtin; refine wpList_append_bl _ rfl _ _ rfl base _ l rfl (H.out.2.alloc _) (some ⟨w.heap.size, 0, none⟩) 4 4 (Cd.be4 n) (· = w.heap.size) rfl rfl (fun h => by cases h) (lit_rd w (Cd.be4 n) (by simp [cellsL, Cd.be4, Cd.b8_nat])) (by omega) (by simp; omega) ?_; intro v' w' hv hg; obtain ⟨hA, hB, hC⟩ := H.out.stored ((Turned.refl g base w).alloc _) (Below.heap_alloc _ _ _ hlt) (H.out.2.alloc _) hg hv; obtain ⟨A', C', rfl, -, -, -, -⟩ := hv.rd; have d0 : w'.cell? ⟨g, 0, none⟩ = some (.slice A l.length C) := heap_cell (hA.trans H.out.1); have d1 : w'.frozen? ⟨g, 0, none⟩ = false := heap_frozen (hA.trans H.out.1); have HB := Lib.hid hB; have HC := Lib.hid hC; clear hA hB hC hv hg)
  go_end0
  have hb := HB.out
  have hc := HC.out
  rw [List.length_append] at hb hc
  exact ⟨rfl, ⟨_, hb⟩, hc⟩
end Go.Proofs.YtdllkbjbklhigaaDoor
