/- Texts in memory: a string is a list of bytes; a slice of strings that reads as a list of texts. No function of the program. -/
import Derived.Test.YtelplmhfacmkdaaDoorShelf
import Derived.Test.YtelplmhfacmkdaaDoorPtMath
import Derived.Test.YtelplmhfacmkdaaDoorChecked
import Derived.Laws.OwnMore
import Derived.Laws.Concat
import Derived.Laws.Strings2
import Derived.Laws.NewBlocks
import Derived.Deep.AppendLies
import Derived.WalkKit
import Derived.WalkSpells
import Derived.WalkLawsBesides
import Derived.Below
import Derived.Lib.Hide
namespace Go.Proofs.YtelplmhfacmkdaaDoor
open Go.RowKit
open Pt (Tx)

/-- a text as a string -/
def tx (l : Tx) : ByteArray := ⟨l.toArray⟩
theorem tx_toList (l : Tx) : (tx l).toList = l := ByteArray.toList_mk l
theorem tx_data (l : Tx) : (tx l).data.toList = l := by simp [tx]
theorem tx_size (l : Tx) : (tx l).size = l.length := by simp [tx, ByteArray.size]
theorem tx_eta (s : ByteArray) : tx s.data.toList = s := by apply ByteArray.ext; simp [tx]
theorem tx_of {s : ByteArray} {l : Tx} (h : s.data.toList = l) : s = tx l := by rw [← h, tx_eta]
theorem tx_append (a b : Tx) : tx a ++ tx b = tx (a ++ b) := ByteArray.mk_append_mk a b
theorem tx_extract (l : Tx) (i j : Nat) : (tx l).extract i j = tx ((l.drop i).take (j - i)) := ByteArray.extract_mk l i j
theorem tx_get (l : Tx) (k : Nat) (h : k < (tx l).size) (h' : k < l.length) : (tx l)[k]'h = l[k] := by
  show (tx l).data[k]'_ = _
  simp [tx]
theorem tx_inj {a b : Tx} (h : tx a = tx b) : a = b := by rw [← tx_toList a, h, tx_toList]

/-- the cells of texts -/
def cellsT (ps : List Tx) : List Value := ps.map fun p => .string (tx p)
theorem cellsT_len (ps : List Tx) : (cellsT ps).length = ps.length := by simp [cellsT]
theorem cellsT_get {ps : List Tx} {j : Nat} {p : Tx} (h : ps[j]? = some p) : (cellsT ps)[j]? = some (.string (tx p)) := by simp [cellsT, h]
/-- a slice of strings that reads as texts -/
def TxR (w : World) (A : Option Addr) (ps : List Tx) : Prop := 0 < ps.length → ∃ b off, A = some ⟨b, off, none⟩ ∧ ∀ j p, ps[j]? = some p → w.cell? ⟨b, off + j, none⟩ = some (.string (tx p))
theorem TxR.empty (w : World) (A : Option Addr) : TxR w A [] := fun h => absurd h (by simp)
theorem TxR.old {w w' : World} {A : Option Addr} {ps : List Tx} (h : TxR w A ps) (hb : Below w.heap.size w w') : TxR w' A ps := fun h0 => by
  obtain ⟨b, off, e, hc⟩ := h h0
  refine ⟨b, off, e, fun j p hp => ?_⟩
  have := hc j p hp
  rw [hb.cell (World.block_lt_of_cell? _ _ this)]; exact this
theorem TxR.at {w : World} {A : Option Addr} {ps : List Tx} (h : TxR w A ps) {j : Nat} (hj : j < ps.length) : ∃ b off, A = some ⟨b, off, none⟩ ∧ w.cell? ⟨b, off + j, none⟩ = some (.string (tx ps[j])) := by
  obtain ⟨b, off, e, hc⟩ := h (by omega)
  exact ⟨b, off, e, hc j _ (List.getElem?_eq_getElem hj)⟩
/-- texts made by append -/
theorem TxR.of_owns {w : World} {B : Nat} {v : Value} {n : Nat} {ps : List Tx} (h : w.ownsRow B 9 1 v n (cellsT ps)) : ∃ A c, v = .slice A ps.length c ∧ TxR w A ps := by
  have hn : n = ps.length := by have := h.1; rw [cellsT_len] at this; omega
  subst hn
  rcases Nat.eq_zero_or_pos ps.length with h0 | h0
  · rcases h.2 with ⟨rfl, _⟩ | ⟨g, cap, cur, rfl, _⟩
    · exact ⟨none, 0, by rw [h0], fun h => absurd h (by omega)⟩
    · exact ⟨_, cap, rfl, fun h => absurd h (by omega)⟩
  · obtain ⟨g, cap, hv, _, _⟩ := h.form h0
    refine ⟨some ⟨g, 0, none⟩, cap, hv, fun _ => ⟨g, 0, rfl, fun j p hp => ?_⟩⟩
    have := h.cells (g := g) (by rw [hv]; rfl) j _ (cellsT_get hp)
    have e : (⟨g, 0, none⟩ : Addr).add j = ⟨g, j, none⟩ := by unfold Addr.add; split <;> simp_all
    rw [e] at this
    rw [Nat.zero_add]; exact this
/-- what strings.Split lays -/
theorem split_pieces (s : Tx) : (Lib.splitB ⟨#[47]⟩ 0 (Lib.countB (tx s) ⟨#[47]⟩) (tx s)).map Value.string = cellsT (Pt.cut s) := by
  have h := Lib.splitB_data ⟨#[47]⟩ 0 (Lib.countB (tx s) ⟨#[47]⟩) (tx s)
  have e : Lib.countB (tx s) ⟨#[47]⟩ = Lib.count s [47] := by unfold Lib.countB; rw [tx_data]
  rw [e] at h ⊢
  rw [tx_data, Pt.split_cut] at h
  unfold cellsT
  rw [← h, List.map_map]
  exact List.map_congr_left fun x _ => by show Value.string x = Value.string (tx x.data.toList); rw [tx_eta]
theorem split_number (s : Tx) : Lib.countB (tx s) ⟨#[47]⟩ + 1 = (Pt.cut s).length := by
  have h := congrArg List.length (split_pieces s)
  rw [List.length_map, cellsT_len] at h
  rw [← h, Lib.splitB_all ⟨#[47]⟩ (by decide) 0 _ _ rfl]
/-- texts, in new memory or where they were -/
def TxAns (ps : List Tx) (w : World) (e : Ending) (w' : World) : Prop := ∃ A c, e = .returned (.slice A ps.length c) ∧ TxR w' A ps ∧ Below w.heap.size w w'
theorem TxAns.empty {w w' : World} (h : Below w.heap.size w w') : TxAns [] w (.returned (.slice none 0 0)) w' := ⟨none, 0, rfl, TxR.empty _ _, h⟩
/-- the variable that the library's search reads, whatever it holds -/
def Kept (w : World) : Prop := ∃ m : Int, w.cell? ⟨0, 0, none⟩ = some (.int .i64 m)
theorem kept_of {w : World} (h : w.ShapedOpen Tryd.prog) : Kept w := Tryd.laysM146.s1_3 w h
theorem Kept.old {w w' : World} (h : Kept w) (hb : Below w.heap.size w w') : Kept w' := by
  obtain ⟨m, hm⟩ := h
  exact ⟨m, by rw [hb.cell (World.block_lt_of_cell? _ _ hm)]; exact hm⟩
theorem split_any (s : Tx) (w : World) (hk : Kept w) (hs : s.length ≤ 1000000) :
    Calls Tryd.prog 14 #[.string (tx s), .string ⟨#[47]⟩] w fun e w' => ∃ A, e = .returned (.slice A (Pt.cut s).length (Pt.cut s).length) ∧ TxR w' A (Pt.cut s) ∧ Below w.heap.size w w' := by
  obtain ⟨m, hm⟩ := hk
  refine (Tryd.strings_Split (tx s) ⟨#[47]⟩ m w (by rw [tx_size]; omega) hm (by decide)).mono ?_
  rintro e w' ⟨rfl, rfl⟩
  rw [split_number, split_pieces]
  refine ⟨_, rfl, fun _ => ⟨_, 0, rfl, fun j p hp => ?_⟩, (Below.refl _ _).alloc (Nat.le_refl _) _⟩
  rw [Nat.zero_add, cell_of_row _ _ _ _ _ _ (heap_alloc_new w _)]
  simpa using cellsT_get hp
theorem hasPrefix_any (s p : Tx) (w : World) :
    Calls Tryd.prog 17 #[.string (tx s), .string (tx p)] w fun e w' => e = .returned (.bool (p.isPrefixOf s)) ∧ w = w' := by
  refine (Tryd.strings_HasPrefix (tx s) (tx p) w).mono ?_
  rintro e w' ⟨rfl, rfl⟩
  rw [tx_data, tx_data]
  exact ⟨rfl, rfl⟩
end Go.Proofs.YtelplmhfacmkdaaDoor
