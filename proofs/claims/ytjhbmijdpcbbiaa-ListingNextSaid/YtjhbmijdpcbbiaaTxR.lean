/- A slice of strings that reads as texts. No function of the program. -/
import Derived.Test.YtjhbmijdpcbbiaaTx
import Derived.Deep.AppendLies
import Derived.Below
namespace Go.Proofs.Ytjhbmijdpcbbiaa
open Go.RowKit
open Pt (Tx)

theorem retB {a b : Bool} (h : a = b) : Ending.returned (Value.bool a) = Ending.returned (Value.bool b) := by rw [h]
/-- the cells of texts -/
def cellsT (ps : List Tx) : List Value := ps.map fun p => .string (tx p)
theorem cellsT_len (ps : List Tx) : (cellsT ps).length = ps.length := by simp [cellsT]
theorem cellsT_get {ps : List Tx} {j : Nat} {p : Tx} (h : ps[j]? = some p) : (cellsT ps)[j]? = some (.string (tx p)) := by simp [cellsT, h]
/-- a slice of strings that reads as texts -/
def TxR (w : World) (A : Option Addr) (ps : List Tx) : Prop := 0 < ps.length → ∃ b off, A = some ⟨b, off, none⟩ ∧ ∀ j p, ps[j]? = some p → w.cell? ⟨b, off + j, none⟩ = some (.string (tx p))
theorem TxR.empty (w : World) (A : Option Addr) : TxR w A [] := fun h => absurd h (by simp)
theorem TxR.old {w w' : World} {A : Option Addr} {ps : List Tx} (h : TxR w A ps) (hb : Below w.heap.size w w') : TxR w' A ps := fun h0 => by
  obtain ⟨b, off, e, hc⟩ := h h0
  refine ⟨b, off, e, fun j p hp => ?_⟩
  have := hc j p hp
  rw [hb.cell (World.block_lt_of_cell? _ _ this)]; exact this
theorem TxR.at {w : World} {A : Option Addr} {ps : List Tx} (h : TxR w A ps) {j : Nat} (hj : j < ps.length) : ∃ b off, A = some ⟨b, off, none⟩ ∧ w.cell? ⟨b, off + j, none⟩ = some (.string (tx ps[j])) := by
  obtain ⟨b, off, e, hc⟩ := h (by omega)
  exact ⟨b, off, e, hc j _ (List.getElem?_eq_getElem hj)⟩
/-- texts made by append -/
theorem TxR.of_owns {w : World} {B : Nat} {v : Value} {n : Nat} {ps : List Tx} (h : w.ownsRow B 9 1 v n (cellsT ps)) : ∃ A c, v = .slice A ps.length c ∧ TxR w A ps := by
  have hn : n = ps.length := by have := h.1; rw [cellsT_len] at this; omega
  subst hn
  rcases Nat.eq_zero_or_pos ps.length with h0 | h0
  · rcases h.2 with ⟨rfl, _⟩ | ⟨g, cap, cur, rfl, _⟩
    · exact ⟨none, 0, by rw [h0], fun h => absurd h (by omega)⟩
    · exact ⟨_, cap, rfl, fun h => absurd h (by omega)⟩
  · obtain ⟨g, cap, hv, _, _⟩ := h.form h0
    refine ⟨some ⟨g, 0, none⟩, cap, hv, fun _ => ⟨g, 0, rfl, fun j p hp => ?_⟩⟩
    have := h.cells (g := g) (by rw [hv]; rfl) j _ (cellsT_get hp)
    have e : (⟨g, 0, none⟩ : Addr).add j = ⟨g, j, none⟩ := by unfold Addr.add; split <;> simp_all
    rw [e] at this
    rw [Nat.zero_add]; exact this
end Go.Proofs.Ytjhbmijdpcbbiaa
