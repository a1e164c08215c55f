/- Rows of bytes laid one by one into a slice that has room for all; which unit lies where. What the document's own Writer writes. A Writer of the document's own at work. Bytes that a call of the document's own answers: its own row. The document's own row of units: what lies in it, and what stores into one of them leave. -/
import Derived.Test.YtbijjgicjkmopaaDoorMaw
import Derived.Test.YtbijjgicjkmopaaDoorMad
import Derived.Test.YtbijjgicjkmopaaDoorMaj
import Derived.Test.YtbijjgicjkmopaaDoorMap
import Derived.Test.YtbijjgicjkmopaaDoorMag
import Derived.Test.YtbijjgicjkmopaaDoorChecked
import Derived.OwnWalk
import Derived.Handy
import Derived.WalkSpells
import Derived.WalkLawsBesides
import Derived.StillTailTactics
import Derived.Laws.BitsAllLaws
import Derived.Laws.BitsLemmas
import Derived.Test.YtbijjgicjkmopaaDoorMam
namespace Go.Proofs.YtbijjgicjkmopaaDoor
open Go.RowKit
open Pt (Tx)

/-- v is a slice of the call's own, in block M with room for K, whose rows us read as bs and lie behind M -/
structure TopR (w : World) (B M K : Nat) (us : List Value) (bs : List Tx) : Prop where
  top : w.ownsRow B 28 1 (.slice (some ⟨M, 0, none⟩) us.length K) us.length us
  len : us.length = bs.length
  rows : ∀ i (h : i < us.length) (h' : i < bs.length), ∃ A C, us[i] = .slice A bs[i].length C ∧ bs[i].length ≤ C ∧ (A = none → bs[i].length = 0 ∧ C = 0) ∧ RdL w A bs[i] (M < ·)
namespace TopR
variable {w w' : World} {B M K : Nat} {us : List Value} {bs : List Tx}
theorem block (h : TopR w B M K us bs) : ∃ c, w.heap[M]? = some (.cells c 28 (0, 0)) := by
  rcases h.top.2 with ⟨e, _⟩ | ⟨g, cap, cur, e, _, hg, _⟩
  · cases e
  · cases e; exact ⟨cur, hg⟩
theorem lt (h : TopR w B M K us bs) : M < w.heap.size := by obtain ⟨c, hc⟩ := h.block; exact heap_lt hc
theorem lo (h : TopR w B M K us bs) : B ≤ M := (World.ownsRow.lt h.top M rfl).1
theorem old (h : TopR w B M K us bs) (hb : Below w.heap.size w w') : TopR w' B M K us bs := by
  refine ⟨⟨h.top.1, ?_⟩, h.len, fun i hi hi' => ?_⟩
  · rcases h.top.2 with ⟨e, _⟩ | ⟨g, cap, cur, e, hB, hg, hr⟩
    · cases e
    · exact .inr ⟨g, cap, cur, e, hB, (hb.block g (heap_lt hg)).trans hg, hr⟩
  · obtain ⟨A, C, h1, h2, h3, h4⟩ := h.rows i hi hi'
    exact ⟨A, C, h1, h2, h3, h4.old hb⟩
/-- a row more -/
theorem push (h : TopR w B M K us bs) {w1 : World} (hw : Below w.heap.size w w1) {A : Option Addr} {C : Nat} {s : Tx} (h2 : s.length ≤ C) (h3 : A = none → s.length = 0 ∧ C = 0) (h4 : RdL w1 A s (M < ·))
    (ho : w'.ownsRow B 28 1 (.slice (some ⟨M, 0, none⟩) (us.length + 1) K) (us.length + 1) (us ++ [.slice A s.length C])) (hg : w1.grownBy w' (some M)) : TopR w' B M K (us ++ [.slice A s.length C]) (bs ++ [s]) := by
  have keep : ∀ {A' : Option Addr} {l : Tx}, RdL w1 A' l (M < ·) → RdL w' A' l (M < ·) := fun {A' l} hx => hx.keep fun p u hp hc =>
    (World.cell?_of_block (hg.block _ (World.block_lt_of_cell? _ _ hc) (fun e => by cases e; omega))).trans hc
  refine ⟨by rw [List.length_append]; exact ho, by simp [h.len], fun i hi hi' => ?_⟩
  rcases Nat.lt_or_ge i us.length with hl | hl
  · have hl' : i < bs.length := by rw [← h.len]; exact hl
    obtain ⟨A', C', g1, g2, g3, g4⟩ := h.rows i hl hl'
    rw [List.getElem_append_left hl, List.getElem_append_left hl']
    exact ⟨A', C', g1, g2, g3, keep (g4.old hw)⟩
  · have : i = us.length := by simp at hi; omega
    subst this
    have e2 : (bs ++ [s])[us.length] = s := by simp [h.len]
    rw [e2]
    simp only [List.getElem_concat_length]
    exact ⟨A, C, rfl, h2, h3, keep h4⟩
/-- as what reads -/
theorem rdB (h : TopR w B M K us bs) : RdB w (some ⟨M, 0, none⟩) bs (B ≤ ·) := by
  intro hn
  rcases h.top.2 with ⟨e, _⟩ | ⟨g, cap, cur, e, hB, hg, hnc, _, hs, ht⟩
  · cases e
  · cases e
    refine ⟨M, 0, rfl, hB, fun i hi => ?_⟩
    have hi' : i < us.length := by rw [h.len]; exact hi
    obtain ⟨A', C', hv, h1, h2, h3⟩ := h.rows i hi' hi
    refine ⟨A', C', ?_, h1, h2, h3.mono fun x hx => by omega⟩
    have hx : us[i]? = some (.slice A' bs[i].length C') := by rw [List.getElem?_eq_getElem hi', hv]
    rw [← ht, List.getElem?_take, if_pos (by omega), Array.getElem?_toList] at hx
    rw [Nat.zero_add, heap_cell hg, hx]
end TopR
theorem chunk_of {b : Tx} {k : Nat} : (Vo.chunk b k).length = min 64 (b.length - 64 * k) := by
  unfold Vo.chunk; rw [List.length_take, List.length_drop]
/-- the unit i, as it lies in the row -/
theorem uv_is {h : Rc.H} {b : Tx} {lab at_ : Int} {A Ah : Option Addr} {nh Ch bb off L : Nat} (hOk : Rc.Ok h) (hL : L = b.length) (hnh : nh = (Rc.put h).length) (hch : nh ≤ Ch) (hz : Ah = none → nh = 0 ∧ Ch = 0) (hA : 0 < L → A = some ⟨bb, off, none⟩) {i : Nat} (hi : i < Vo.data L + 2) :
    ∃ u uv, (Vo.units lab at_ h b)[i]? = some u ∧ (uvs Ah nh Ch (pcs bb off L (Vo.data L)) ++ [⟨4, none, 0, 0⟩])[i]? = some uv ∧ uv.kind = u.kind ∧ uv.n = u.load.length ∧ (uv.A = none → uv.n = 0 ∧ uv.C = 0) ∧ uv.n ≤ uv.C
      ∧ ∀ (W : World) (G : Nat → Prop), RdL W Ah (Rc.put h) G → RdL W A b G → RdL W uv.A u.load G := by
  subst hL
  by_cases h0 : i = 0
  · subst h0
    refine ⟨_, _, Vo.units_zero lab at_ h b, rfl, rfl, ?_, hz, hch, fun W G h1 _ => ?_⟩
    · show nh = (Rc.blk h).length
      rw [hnh, Rc.put_ok hOk]
    · show RdL W Ah (Rc.blk h) G
      rw [← Rc.put_ok hOk]; exact h1
  · obtain ⟨k, rfl⟩ : ∃ k, i = k + 1 := ⟨i - 1, by omega⟩
    by_cases hk : k < Vo.data b.length
    · have hlt : 64 * k < b.length := by unfold Vo.data at hk; omega
      refine ⟨_, pu (pcAt bb off b.length k), Vo.units_data hk, ?_, rfl, ?_, (fun h => by cases h), Nat.le_refl _, fun W G _ h2 => ?_⟩
      · rw [List.getElem?_append_left (by simp [uvs, pcs]; omega)]
        unfold uvs
        rw [List.getElem?_cons_succ, List.getElem?_map, pcs, List.getElem?_map, List.getElem?_range hk]
        rfl
      · show min 64 (b.length - 64 * k) = (Vo.chunk b k).length
        rw [chunk_of]
      · rw [hA (by omega)] at h2
        exact (h2.drop (64 * k)).take 64
    · obtain rfl : k = Vo.data b.length := by omega
      refine ⟨_, ⟨4, none, 0, 0⟩, Vo.units_mark lab at_ h b, ?_, rfl, rfl, fun _ => ⟨rfl, rfl⟩, Nat.le_refl _, fun W G _ _ => RdL.empty _ _ _⟩
      simp [uvs, pcs]
end Go.Proofs.YtbijjgicjkmopaaDoor
namespace Go.Proofs.YtbijjgicjkmopaaDoor
open Go.RowKit
open Pt (Tx)

theorem lit_rd (w : World) (l : Tx) {c : Array Value} (hc : c = (cellsL l).toArray) : RdL (w.alloc (.cells c 5)) (some ⟨w.heap.size, 0, none⟩) l (· = w.heap.size) := by
  subst hc
  exact RdL.of_cells (Go.Deep.blk_alloc_new _ _) fun j hj => by rw [Nat.zero_add]; simpa using cellsL_get hj
theorem Turned.refl (g base : Nat) (w : World) : Turned g base w w := Kp.refl _ w
theorem vbyte_any (g base : Nat) (v : Value) (l : Tx) (c : UInt8) (w : World) (h : Rw w g base v l) (hbase : base ≤ w.heap.size) (hl : l.length ≤ 999999990) :
    Calls Tryd.prog 11 #[.pointer (some ⟨g, 0, none⟩), .int .u8 (c.toNat : Int)] w (RefWrote g base (l ++ [c]) w) := by
  have hlt := h.lt
  obtain ⟨A, C, hv, -, -, -, -⟩ := h.2.rd
  have c0 : w.cell? ⟨g, 0, none⟩ = some v := heap_cell h.1
  have f0 : w.frozen? ⟨g, 0, none⟩ = false := heap_frozen h.1
  have H := Lib.hid h
  clear h
  subst hv
  go_enter Tryd.func11, Tryd.ntmps11
  go_wp2_with (at_builtin; refine wpList_append_bl _ rfl _ _ rfl base _ l rfl (H.out.2.alloc _) (some ⟨w.heap.size, 0, none⟩) 1 1 [c] (· = w.heap.size) rfl rfl (fun h => by cases h) (lit_rd w [c] rfl) (by omega) (by simp; omega) ?_; intro v' w' hv hg; obtain ⟨hA, hB, hC⟩ := H.out.stored ((Turned.refl g base w).alloc _) (Below.heap_alloc _ _ _ hlt) (H.out.2.alloc _) hg hv; obtain ⟨A', C', rfl, -, -, -, -⟩ := hv.rd; have d0 : w'.cell? ⟨g, 0, none⟩ = some (.slice A l.length C) := heap_cell (hA.trans H.out.1); have d1 : w'.frozen? ⟨g, 0, none⟩ = false := heap_frozen (hA.trans H.out.1); have HB := Lib.hid hB; have HC := Lib.hid hC; clear hA hB hC hv hg)
  go_end0
  have hb := HB.out
  have hc := HC.out
  rw [List.length_append] at hb hc
  exact ⟨rfl, ⟨_, hb⟩, hc⟩
theorem mask_u64 (y : Int) (h0 : 0 ≤ y) (h1 : y < 18446744073709551616) : bits BinOp.and IntKind.u64 y 255 = y % 256 := by
  have h : bits BinOp.and IntKind.u64 y (2 ^ 8 - 1) = y % 2 ^ 8 := bits_mask .u64 64 (by decide) (fun m h0 h1 => by rw [IntKind.wrap_u64]; omega) 8 (by decide) y h0 h1
  simpa using h
theorem vint_any (g base : Nat) (v : Value) (l : Tx) (n : Int) (w : World) (h : Rw w g base v l) (hbase : base ≤ w.heap.size) (hl : l.length ≤ 999999990) :
    Calls Tryd.prog 12 #[.pointer (some ⟨g, 0, none⟩), .int .i64 n] w (RefWrote g base (l ++ Cd.be4 n) w) := by
  have hlt := h.lt
  obtain ⟨A, C, hv, -, -, -, -⟩ := h.2.rd
  have c0 : w.cell? ⟨g, 0, none⟩ = some v := heap_cell h.1
  have f0 : w.frozen? ⟨g, 0, none⟩ = false := heap_frozen h.1
  have H := Lib.hid h
  clear h
  subst hv
  have hw := IntKind.wrap_u64 n
  have m0 : bits BinOp.and IntKind.u64 (IntKind.u64.wrap n / 16777216) 255 = n / 16777216 % 256 := by rw [mask_u64 _ (by omega) (by omega), hw]; omega
  have m1 : bits BinOp.and IntKind.u64 (IntKind.u64.wrap n / 65536) 255 = n / 65536 % 256 := by rw [mask_u64 _ (by omega) (by omega), hw]; omega
  have m2 : bits BinOp.and IntKind.u64 (IntKind.u64.wrap n / 256) 255 = n / 256 % 256 := by rw [mask_u64 _ (by omega) (by omega), hw]; omega
  have m3 : bits BinOp.and IntKind.u64 (IntKind.u64.wrap n) 255 = n % 256 := by rw [mask_u64 _ (by omega) (by omega), hw]; omega
  clear hw
  go_enter Tryd.func12, Tryd.ntmps12
  go_wp2_with (at_builtin; refine wpList_append_bl _ rfl _ _ rfl base _ l rfl (H.out.2.alloc _) (some ⟨w.heap.size, 0, none⟩) 4 4 (Cd.be4 n) (· = w.heap.size) rfl rfl (fun h => by cases h) (lit_rd w (Cd.be4 n) (by simp [cellsL, Cd.be4, Cd.b8_nat])) (by omega) (by simp; omega) ?_; intro v' w' hv hg; obtain ⟨hA, hB, hC⟩ := H.out.stored ((Turned.refl g base w).alloc _) (Below.heap_alloc _ _ _ hlt) (H.out.2.alloc _) hg hv; obtain ⟨A', C', rfl, -, -, -, -⟩ := hv.rd; have d0 : w'.cell? ⟨g, 0, none⟩ = some (.slice A l.length C) := heap_cell (hA.trans H.out.1); have d1 : w'.frozen? ⟨g, 0, none⟩ = false := heap_frozen (hA.trans H.out.1); have HB := Lib.hid hB; have HC := Lib.hid hC; clear hA hB hC hv hg)
  go_end0
  have hb := HB.out
  have hc := HC.out
  rw [List.length_append] at hb hc
  exact ⟨rfl, ⟨_, hb⟩, hc⟩
end Go.Proofs.YtbijjgicjkmopaaDoor
namespace Go.Proofs.YtbijjgicjkmopaaDoor
open Go.RowKit
open Pt (Tx)

theorem Turned.other {g base B : Nat} {a b : World} {cs : Array Value} {t : TypeId} (h : Turned g base a b) (hB : B ≠ g) (ht : t ≠ 5) (hu : a.heap[B]? = some (.cells cs t (0, 0))) : b.heap[B]? = some (.cells cs t (0, 0)) := by
  refine (h.block B (heap_lt hu) ?_).trans hu
  rintro (h' | ⟨_, c, h'⟩)
  · exact hB h'
  · rw [hu] at h'
    injection h' with h'
    injection h' with _ e
    exact ht e
/-- a Writer of the document's own at work: what it holds, and what lies beside it -/
structure RefAt (w : World) (gr : Nat) (o : Obj) (l : Tx) (x : World) : Prop where
  rw_ : ∃ v, Rw x gr gr v l
  hd : x.heap[w.heap.size]? = some o
  bel : Below w.heap.size w x
  lo : w.heap.size < gr
theorem RefAt.wrote {w : World} {gr : Nat} {l l' : Tx} {x y : World} {e : Ending} {cs : Array Value} {t : TypeId} (ht : t ≠ 5) (h : RefAt w gr (.cells cs t (0, 0)) l x) (hw : RefWrote gr gr l' x e y) : RefAt w gr (.cells cs t (0, 0)) l' y := by
  obtain ⟨_, h2, h3⟩ := hw
  have := h.lo
  exact ⟨h2, h3.other (by omega) ht h.hd, h.bel.trans (Turned.below h3 h.bel.size (by omega) (by omega)), h.lo⟩
theorem RefAt.base {w : World} {gr : Nat} {o : Obj} {l : Tx} {x : World} (h : RefAt w gr o l x) : gr ≤ x.heap.size := by
  obtain ⟨v, hv⟩ := h.rw_
  exact Nat.le_of_lt hv.lt
theorem RefAt.done {w : World} {gr : Nat} {o : Obj} {l l' : Tx} {x : World} (h : RefAt w gr o l x) (hl : l = l') : ∃ A C, x.cell? ⟨gr, 0, none⟩ = some (.slice A l.length C) ∧ AnsT l' w (.returned (.slice A l.length C)) x := by
  subst hl
  obtain ⟨v, hv⟩ := h.rw_
  obtain ⟨A, C, rfl, g1, g2, g3, g4⟩ := hv.2.rd
  have := h.lo
  exact ⟨A, C, heap_cell hv.1, A, l.length, C, rfl, rfl, g1, g2, g3, g4.mono (fun x hx => by omega), h.bel⟩
theorem vbyte_int (g base : Nat) (v : Value) (l : Tx) (n : Int) (w : World) (h : Rw w g base v l) (hbase : base ≤ w.heap.size) (hl : l.length ≤ 999999990) :
    Calls Tryd.prog 11 #[.pointer (some ⟨g, 0, none⟩), .int .u8 (n % 256)] w (RefWrote g base (l ++ [Cd.b8 n]) w) := by
  rw [← Cd.b8_nat]; exact vbyte_any g base v l (Cd.b8 n) w h hbase hl
end Go.Proofs.YtbijjgicjkmopaaDoor
namespace Go.Proofs.YtbijjgicjkmopaaDoor
open Go.RowKit
open Pt (Tx)

theorem OwnL.lower {w : World} {B B' : Nat} {v : Value} {l : Tx} (h : OwnL w B v l) (hb : B' ≤ B) : OwnL w B' v l := by
  refine ⟨h.1, ?_⟩
  rcases h.2 with h0 | ⟨g, cap, cur, e, hg, r⟩
  · exact .inl h0
  · exact .inr ⟨g, cap, cur, e, Nat.le_trans hb hg, r⟩
/-- bytes are answered, a row of its own; or nothing -/
def AnsO (l : Tx) (w : World) (e : Ending) (w' : World) : Prop :=
  ∃ A n C, e = .returned (.slice A n C) ∧ OwnL w' w.heap.size (.slice A n C) l ∧ Below w.heap.size w w'
theorem AnsO.nil {w w' : World} (h : Below w.heap.size w w') : AnsO [] w (.returned (.slice none 0 0)) w' := ⟨none, 0, 0, rfl, OwnL.nil _ _, h⟩
theorem AnsO.toT {l : Tx} {w w' : World} {e : Ending} (h : AnsO l w e w') : AnsT l w e w' := by
  obtain ⟨A, n, C, h1, h2, h3⟩ := h
  obtain ⟨A', C', e', g1, g2, g3, g4⟩ := h2.rd
  injection e' with x1 x2 x3
  subst x1 x3
  exact ⟨A, n, C, h1, x2, by rw [x2]; exact g1, g2, fun h => by rw [x2]; exact g3 h, g4.mono fun _ h => h.1, h3⟩
theorem RefAt.doneO {w : World} {gr : Nat} {o : Obj} {l l' : Tx} {x : World} (h : RefAt w gr o l x) (hl : l = l') : ∃ A C, x.cell? ⟨gr, 0, none⟩ = some (.slice A l.length C) ∧ AnsO l' w (.returned (.slice A l.length C)) x := by
  subst hl
  obtain ⟨v, hv⟩ := h.rw_
  obtain ⟨A, C, rfl, g1, g2, g3, g4⟩ := hv.2.rd
  exact ⟨A, C, heap_cell hv.1, A, l.length, C, rfl, hv.2.lower (Nat.le_of_lt h.lo), h.bel⟩
end Go.Proofs.YtbijjgicjkmopaaDoor
namespace Go.Proofs.YtbijjgicjkmopaaDoor
open Go.RowKit
open Pt (Tx)

/-- the document's own piece k: a piece of the bytes, with all that is behind as room -/
def pcR (b off L C k : Nat) : Pc := ⟨some ⟨b, off + 64 * k, none⟩, min 64 (L - 64 * k), C - 64 * k⟩
def pcsR (b off L C k : Nat) : List Pc := (List.range k).map (pcR b off L C)
theorem pcsR_succ (b off L C k : Nat) : pcsR b off L C (k + 1) = pcsR b off L C k ++ [pcR b off L C k] := by simp [pcsR, List.range_succ]
/-- the unit i, as it lies in the document's own row -/
theorem uvR_is {h : Rc.H} {b : Tx} {lab at_ : Int} {A Ah : Option Addr} {nh Ch bb off L C : Nat} (hOk : Rc.Ok h) (hL : L = b.length) (hC : L ≤ C) (hnh : nh = (Rc.put h).length) (hz : Ah = none → nh = 0 ∧ Ch = 0) (hA : 0 < L → A = some ⟨bb, off, none⟩) {i : Nat} (hi : i < Vo.data L + 2) :
    ∃ u uv, (Vo.units lab at_ h b)[i]? = some u ∧ (uvs Ah nh Ch (pcsR bb off L C (Vo.data L)) ++ [⟨4, none, 0, 0⟩])[i]? = some uv ∧ uv.kind = u.kind ∧ uv.n = u.load.length ∧ (uv.A = none → uv.n = 0 ∧ uv.C = 0)
      ∧ ∀ (W : World) (G : Nat → Prop), RdL W Ah (Rc.put h) G → RdL W A b G → RdL W uv.A u.load G := by
  subst hL
  by_cases h0 : i = 0
  · subst h0
    refine ⟨_, _, Vo.units_zero lab at_ h b, rfl, rfl, ?_, hz, fun W G h1 _ => ?_⟩
    · show nh = (Rc.blk h).length
      rw [hnh, Rc.put_ok hOk]
    · show RdL W Ah (Rc.blk h) G
      rw [← Rc.put_ok hOk]; exact h1
  · obtain ⟨k, rfl⟩ : ∃ k, i = k + 1 := ⟨i - 1, by omega⟩
    by_cases hk : k < Vo.data b.length
    · have hlt : 64 * k < b.length := by unfold Vo.data at hk; omega
      refine ⟨_, pu (pcR bb off b.length C k), Vo.units_data hk, ?_, rfl, ?_, (fun h => by cases h), fun W G _ h2 => ?_⟩
      · rw [List.getElem?_append_left (by simp [uvs, pcsR]; omega)]
        unfold uvs
        rw [List.getElem?_cons_succ, List.getElem?_map, pcsR, List.getElem?_map, List.getElem?_range hk]
        rfl
      · show min 64 (b.length - 64 * k) = (Vo.chunk b k).length
        rw [chunk_of]
      · rw [hA (by omega)] at h2
        exact (h2.drop (64 * k)).take 64
    · obtain rfl : k = Vo.data b.length := by omega
      refine ⟨_, ⟨4, none, 0, 0⟩, Vo.units_mark lab at_ h b, ?_, rfl, rfl, fun _ => ⟨rfl, rfl⟩, fun W G _ _ => RdL.empty _ _ _⟩
      simp [uvs, pcsR]
/-- the units from i on lie as they were laid -/
def Lay (w : World) (g N i : Nat) (us : List Uv) : Prop :=
  ∃ c, w.heap[g]? = some (.cells c 32 (0, 0)) ∧ N * 4 ≤ c.size ∧ ∀ j uv, i ≤ j → us[j]? = some uv → c[j * 4]? = some (.int .i64 uv.kind) ∧ c[j * 4 + 3]? = some (.slice uv.A uv.n uv.C)
theorem Lay.of_own {w : World} {B : Nat} {v : Value} {us : List Uv} (h : encU.Own w B 32 v us) (hp : 0 < us.length) : ∃ g cap, v = .slice (some ⟨g, 0, none⟩) us.length cap ∧ us.length ≤ cap ∧ B ≤ g ∧ Lay w g us.length 0 us := by
  rcases h.2 with ⟨_, h0⟩ | ⟨g, cap, cur, e, hB, hg, hnc, hcm, hs, ht⟩
  · omega
  · refine ⟨g, cap, e, hnc, hB, cur, hg, ?_, fun j uv _ hu => ?_⟩
    · have : cur.size = cap * 4 := hs
      omega
    · obtain ⟨hj, he⟩ := List.getElem?_eq_some_iff.1 hu
      have hx : ∀ r, r < 4 → cur[j * 4 + r]? = (cells4 uv)[r]? := fun r hr => by
        have h1 := encU.cells_get us j r hr hj
        rw [he] at h1
        have h2 : (encU.cells us)[j * 4 + r]? = cur[j * 4 + r]? := by
          rw [← ht, List.getElem?_take, if_pos (by show j * 4 + r < us.length * 4; omega), Array.getElem?_toList]
        exact h2.symm.trans h1
      exact ⟨hx 0 (by decide), hx 3 (by decide)⟩
theorem Lay.kp {S : Nat → Prop} {w w' : World} {g N i : Nat} {us : List Uv} (h : Lay w g N i us) (hk : Kp S w w') (hs : ¬ S g) : Lay w' g N i us := by
  obtain ⟨c, hc, hr⟩ := h
  exact ⟨c, (hk.block g (heap_lt hc) hs).trans hc, hr⟩
theorem Lay.lt {w : World} {g N i : Nat} {us : List Uv} (h : Lay w g N i us) : g < w.heap.size := by obtain ⟨c, hc, _⟩ := h; exact heap_lt hc
theorem Lay.old {w w' : World} {g N i : Nat} {us : List Uv} (h : Lay w g N i us) (hb : Below w.heap.size w w') : Lay w' g N i us := h.kp (S := fun _ => False) (Kp.of_below hb) (fun h => h)
/-- what a store into another of a unit's cells leaves -/
theorem Lay.set {w : World} {g N i r : Nat} {us : List Uv} (h : Lay w g N i us) (hr : r = 1 ∨ r = 2) (v : Value) : Lay (w.setCell ⟨g, i * 4 + r, none⟩ v) g N i us := by
  obtain ⟨c, hc, hs, hl⟩ := h
  refine ⟨_, heap_set hc v, by simpa using hs, fun j uv hj hu => ?_⟩
  obtain ⟨h1, h2⟩ := hl j uv hj hu
  rw [Array.getElem?_setIfInBounds, if_neg (by omega), Array.getElem?_setIfInBounds, if_neg (by omega)]
  exact ⟨h1, h2⟩
theorem Lay.next {w : World} {g N i : Nat} {us : List Uv} (h : Lay w g N i us) : Lay w g N (i + 1) us := by
  obtain ⟨c, hc, hs, hl⟩ := h
  exact ⟨c, hc, hs, fun j uv hj hu => hl j uv (by omega) hu⟩
/-- the cells of unit i -/
theorem Lay.cells {w : World} {g N i : Nat} {us : List Uv} {uv : Uv} (h : Lay w g N i us) (hi : i < N) (hu : us[i]? = some uv) : w.cell? ⟨g, i * 4, none⟩ = some (.int .i64 uv.kind) ∧ (∃ v, w.cell? ⟨g, i * 4 + 1, none⟩ = some v) ∧ (∃ v, w.cell? ⟨g, i * 4 + 2, none⟩ = some v) ∧ w.cell? ⟨g, i * 4 + 3, none⟩ = some (.slice uv.A uv.n uv.C)
    ∧ (∀ r, w.frozen? ⟨g, i * 4 + r, none⟩ = false) := by
  obtain ⟨c, hc, hs, hl⟩ := h
  obtain ⟨h1, h2⟩ := hl i uv (Nat.le_refl _) hu
  exact ⟨by rw [heap_cell hc]; exact h1, ⟨_, by rw [heap_cell hc]; exact Array.getElem?_eq_getElem (by omega)⟩, ⟨_, by rw [heap_cell hc]; exact Array.getElem?_eq_getElem (by omega)⟩, by rw [heap_cell hc]; exact h2, fun r => heap_frozen hc⟩
/-- a cell that was just stored -/
theorem Lay.got {w : World} {g N i r : Nat} {us : List Uv} (h : Lay w g N i us) (hi : i < N) (hr : r = 1 ∨ r = 2) (v : Value) : (w.setCell ⟨g, i * 4 + r, none⟩ v).cell? ⟨g, i * 4 + r, none⟩ = some v := by
  obtain ⟨c, hc, hs, hl⟩ := h
  rw [heap_cell (heap_set hc v), Array.getElem?_setIfInBounds, if_pos rfl, if_pos (by omega)]
theorem Lay.othr {w : World} {g N i r r' : Nat} {us : List Uv} {x : Value} (h : Lay w g N i us) (hr : r ≠ r') (hx : w.cell? ⟨g, i * 4 + r', none⟩ = some x) (v : Value) : (w.setCell ⟨g, i * 4 + r, none⟩ v).cell? ⟨g, i * 4 + r', none⟩ = some x := by
  obtain ⟨c, hc, hs, hl⟩ := h
  rw [heap_cell hc] at hx
  rw [heap_cell (heap_set hc v), Array.getElem?_setIfInBounds, if_neg (by omega)]
  exact hx
/-- what is of another kind stays when a row grows -/
theorem blk_kept {w w' : World} {B : Nat} {t t' : TypeId} {v : Value} {n : Nat} {xs : List Value} (h : w.ownsRow B t 1 v n xs) (hg : w.grownBy w' v.ownBlock) {k : Nat} {c : Array Value} (hk : w.heap[k]? = some (.cells c t' (0, 0))) (ht : t' ≠ t) : w'.heap[k]? = w.heap[k]? :=
  hg.block k (heap_lt hk) fun e => by
    obtain ⟨c', hc'⟩ := own_blk h k e.symm
    rw [hk] at hc'
    injection hc' with hc'
    injection hc' with _ e2
    exact ht e2
/-- the state while blocks are made of units -/
structure Bs2 (w : World) (gU N i : Nat) (us : List Uv) (hv : Value) (ht : Tx) (vo : Value) (rs : List Value) (bs : List Tx) (x : World) : Prop where
  top : TopB x w.heap.size (w.heap.size ≤ ·) vo rs bs
  lay : Lay x gU N i us
  hd : OwnL x w.heap.size hv ht
  bel : Below w.heap.size w x
  lo : w.heap.size ≤ gU
namespace Bs2
variable {w x y z : World} {gU N i : Nat} {us : List Uv} {hv vo : Value} {ht : Tx} {rs : List Value} {bs : List Tx}
theorem old (h : Bs2 w gU N i us hv ht vo rs bs x) (hb : Below x.heap.size x y) : Bs2 w gU N i us hv ht vo rs bs y :=
  ⟨h.top.old hb, h.lay.old hb, h.hd.of_block fun k e => hb.block k (h.hd.lt k e), h.bel.trans (hb.mono h.bel.size), h.lo⟩
theorem next (h : Bs2 w gU N i us hv ht vo rs bs x) : Bs2 w gU N (i + 1) us hv ht vo rs bs x := ⟨h.top, h.lay.next, h.hd, h.bel, h.lo⟩
theorem set (h : Bs2 w gU N i us hv ht vo rs bs x) {r : Nat} (hr : r = 1 ∨ r = 2) (v : Value) : Bs2 w gU N i us hv ht vo rs bs (x.setCell ⟨gU, i * 4 + r, none⟩ v) := by
  have hk : Kp (· = gU) x (x.setCell ⟨gU, i * 4 + r, none⟩ v) := Kp.store _ _ _ _
  obtain ⟨c, hc, _⟩ := h.lay
  have hne : ∀ {k : Nat} {c' : Array Value} {t : TypeId}, t ≠ 32 → x.heap[k]? = some (.cells c' t (0, 0)) → k ≠ gU := fun {k c' t} ht hk' e => by
    subst e
    rw [hc] at hk'
    injection hk' with hk'
    injection hk' with _ e2
    exact ht e2.symm
  refine ⟨h.top.kpT hk (fun k c' e hk' => hne (by decide) hk' e) (fun k c' e hk' => hne (by decide) hk' e), h.lay.set hr v, h.hd.kp hk fun k e => ?_, h.bel.trans (hk.below h.bel.size fun k e => by have := h.lo; omega), h.lo⟩
  obtain ⟨c', hc'⟩ := h.hd.block k e
  exact hne (by decide) hc'
theorem push (h : Bs2 w gU N i us hv ht vo rs bs x) (hw : Below x.heap.size x y) {u : Value} {s : Tx} (hu : OwnL y x.heap.size u s) {vo' : Value} (ho : z.ownsRow w.heap.size 28 1 vo' (rs.length + 1) (rs ++ [u])) (hg : y.grownBy z vo.ownBlock) : Bs2 w gU N i us hv ht vo' (rs ++ [u]) (bs ++ [s]) z := by
  have h1 := h.old hw
  have hlo := h.bel.size
  refine ⟨h.top.push hw (hu.lower hlo) (fun k e => hu.lo k e) (fun k e => Nat.le_trans hlo (hu.lo k e)) ho hg, ?_, h1.hd.of_block fun k e => ?_, h1.bel.grown hg h1.bel.size fun k e => (World.ownsRow.lt h1.top.top k e).1, h.lo⟩
  · obtain ⟨c, hc, hr⟩ := h1.lay
    exact ⟨c, (blk_kept h1.top.top hg hc (by decide)).trans hc, hr⟩
  · obtain ⟨c, hc⟩ := h1.hd.block k e
    exact blk_kept h1.top.top hg hc (by decide)
end Bs2
end Go.Proofs.YtbijjgicjkmopaaDoor
