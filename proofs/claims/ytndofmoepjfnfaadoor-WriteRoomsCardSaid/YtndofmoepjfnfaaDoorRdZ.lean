/- A row of numbers in memory as a list. No function of the program. -/
import Derived.Test.YtndofmoepjfnfaaDoorKp
import Derived.Test.YtndofmoepjfnfaaDoorRows
namespace Go.Proofs.YtndofmoepjfnfaaDoor
open Go.RowKit

def cellsZ (l : List Int) : List Value := l.map fun x => .int .i64 x
theorem cellsZ_len (l : List Int) : (cellsZ l).length = l.length := by simp [cellsZ]
theorem cellsZ_get {l : List Int} {j : Nat} (h : j < l.length) : (cellsZ l)[j]? = some (.int .i64 l[j]) := by simp [cellsZ, h]
theorem cellsZ_append (a b : List Int) : cellsZ (a ++ b) = cellsZ a ++ cellsZ b := by simp [cellsZ]
/-- the slice at A reads as the numbers l, and lies in a block of G -/
def RdZ (w : World) (A : Option Addr) (l : List Int) (G : Nat → Prop) : Prop :=
  0 < l.length → ∃ b off, A = some ⟨b, off, none⟩ ∧ G b ∧ ∀ j (hj : j < l.length), w.cell? ⟨b, off + j, none⟩ = some (.int .i64 l[j])
namespace RdZ
variable {w w' : World} {A : Option Addr} {l : List Int} {G G' S : Nat → Prop}
theorem empty (w : World) (A : Option Addr) (G : Nat → Prop) : RdZ w A [] G := fun h => absurd h (by simp)
theorem keep (h : RdZ w A l G) (hk : ∀ p v, G p.block → w.cell? p = some v → w'.cell? p = some v) : RdZ w' A l G := by
  intro hn
  obtain ⟨b, off, e, hg, hc⟩ := h hn
  exact ⟨b, off, e, hg, fun j hj => hk _ _ hg (hc j hj)⟩
theorem mono (h : RdZ w A l G) (hg : ∀ b, G b → G' b) : RdZ w A l G' := by
  intro hn
  obtain ⟨b, off, e, hg', hc⟩ := h hn
  exact ⟨b, off, e, hg _ hg', hc⟩
theorem kp (h : RdZ w A l G) (hk : Kp S w w') (hs : ∀ b, G b → ¬ S b) : RdZ w' A l G := h.keep fun _ _ hg hc => hk.cell hc (hs _ hg)
theorem old (h : RdZ w A l G) (hb : Below w.heap.size w w') : RdZ w' A l G := h.keep fun _ _ _ hc => (hb.cell (World.block_lt_of_cell? _ _ hc)).trans hc
theorem in_ (h : RdZ w A l G) : RdZ w A l (fun b => G b ∧ b < w.heap.size) := by
  intro hn
  obtain ⟨b, off, e, hg, hc⟩ := h hn
  exact ⟨b, off, e, ⟨hg, World.block_lt_of_cell? _ _ (hc 0 hn)⟩, hc⟩
theorem at_ (h : RdZ w A l G) {j : Nat} (hj : j < l.length) : ∃ b off, A = some ⟨b, off, none⟩ ∧ G b ∧ w.cell? ⟨b, off + j, none⟩ = some (.int .i64 l[j]) := by
  obtain ⟨b, off, e, hg, hc⟩ := h (by omega)
  exact ⟨b, off, e, hg, hc j hj⟩
theorem take (h : RdZ w A l G) (k : Nat) : RdZ w A (l.take k) G := by
  intro hn
  rw [List.length_take] at hn
  obtain ⟨b, off, e, hg, hc⟩ := h (by omega)
  refine ⟨b, off, e, hg, fun j hj => ?_⟩
  rw [List.length_take] at hj
  rw [hc j (by omega), List.getElem_take]
theorem of_cells {b : Nat} {fr : Nat × Nat} {m : List Int} (h : w.heap[b]? = some (.cells (cellsZ (l ++ m)).toArray 3 fr)) : RdZ w (some ⟨b, 0, none⟩) l (· = b) := by
  intro hn
  refine ⟨b, 0, rfl, rfl, fun j hj => ?_⟩
  rw [Nat.zero_add, heap_cell h]
  rw [List.getElem?_toArray, cellsZ_append, List.getElem?_append_left (by rw [cellsZ_len]; exact hj)]
  exact cellsZ_get hj
end RdZ
end Go.Proofs.YtndofmoepjfnfaaDoor
