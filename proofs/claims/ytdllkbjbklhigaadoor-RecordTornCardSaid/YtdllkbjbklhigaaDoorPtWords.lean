/- Texts in memory: a string is a list of bytes; a slice of strings that reads as a list of texts. No function of the program. -/
import Derived.Test.YtdllkbjbklhigaaDoorShelf
import Derived.Test.YtdllkbjbklhigaaDoorTx
import Derived.Test.YtdllkbjbklhigaaDoorTxR
import Derived.Test.YtdllkbjbklhigaaDoorChecked
import Derived.Laws.OwnMore
import Derived.Laws.Concat
import Derived.Laws.Strings2
import Derived.Laws.NewBlocks
import Derived.Deep.AppendLies
import Derived.WalkKit
import Derived.WalkSpells
import Derived.WalkLawsBesides
import Derived.Below
import Derived.Lib.Hide
namespace Go.Proofs.YtdllkbjbklhigaaDoor
open Go.RowKit
open Pt (Tx)

/-- what strings.Split lays -/
theorem split_pieces (s : Tx) : (Lib.splitB ⟨#[47]⟩ 0 (Lib.countB (tx s) ⟨#[47]⟩) (tx s)).map Value.string = cellsT (Pt.cut s) := by
  have h := Lib.splitB_data ⟨#[47]⟩ 0 (Lib.countB (tx s) ⟨#[47]⟩) (tx s)
  have e : Lib.countB (tx s) ⟨#[47]⟩ = Lib.count s [47] := by unfold Lib.countB; rw [tx_data]
  rw [e] at h ⊢
  rw [tx_data, Pt.split_cut] at h
  unfold cellsT
  rw [← h, List.map_map]
  exact List.map_congr_left fun x _ => by show Value.string x = Value.string (tx x.data.toList); rw [tx_eta]
theorem split_number (s : Tx) : Lib.countB (tx s) ⟨#[47]⟩ + 1 = (Pt.cut s).length := by
  have h := congrArg List.length (split_pieces s)
  rw [List.length_map, cellsT_len] at h
  rw [← h, Lib.splitB_all ⟨#[47]⟩ (by decide) 0 _ _ rfl]
/-- texts, in new memory or where they were -/
def TxAns (ps : List Tx) (w : World) (e : Ending) (w' : World) : Prop := ∃ A c, e = .returned (.slice A ps.length c) ∧ TxR w' A ps ∧ Below w.heap.size w w'
theorem TxAns.empty {w w' : World} (h : Below w.heap.size w w') : TxAns [] w (.returned (.slice none 0 0)) w' := ⟨none, 0, rfl, TxR.empty _ _, h⟩
/-- the variable that the library's search reads, whatever it holds -/
def Kept (w : World) : Prop := ∃ m : Int, w.cell? ⟨0, 0, none⟩ = some (.int .i64 m)
theorem kept_of {w : World} (h : w.ShapedOpen Tryd.prog) : Kept w := Tryd.laysM146.s1_3 w h
theorem Kept.old {w w' : World} (h : Kept w) (hb : Below w.heap.size w w') : Kept w' := by
  obtain ⟨m, hm⟩ := h
  exact ⟨m, by rw [hb.cell (World.block_lt_of_cell? _ _ hm)]; exact hm⟩
theorem split_any (s : Tx) (w : World) (hk : Kept w) (hs : s.length ≤ 1000000) :
    Calls Tryd.prog 50 #[.string (tx s), .string ⟨#[47]⟩] w fun e w' => ∃ A, e = .returned (.slice A (Pt.cut s).length (Pt.cut s).length) ∧ TxR w' A (Pt.cut s) ∧ Below w.heap.size w w' := by
  obtain ⟨m, hm⟩ := hk
  refine (Tryd.strings_Split (tx s) ⟨#[47]⟩ m w (by rw [tx_size]; omega) hm (by decide)).mono ?_
  rintro e w' ⟨rfl, rfl⟩
  rw [split_number, split_pieces]
  refine ⟨_, rfl, fun _ => ⟨_, 0, rfl, fun j p hp => ?_⟩, (Below.refl _ _).alloc (Nat.le_refl _) _⟩
  rw [Nat.zero_add, cell_of_row _ _ _ _ _ _ (heap_alloc_new w _)]
  simpa using cellsT_get hp
end Go.Proofs.YtdllkbjbklhigaaDoor
