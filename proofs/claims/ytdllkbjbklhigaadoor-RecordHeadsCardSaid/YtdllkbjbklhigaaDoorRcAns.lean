/- Bytes that a call answers, in new memory. -/
import Derived.Test.YtdllkbjbklhigaaDoorCdWrite
namespace Go.Proofs.YtdllkbjbklhigaaDoor
open Go.RowKit
open Pt (Tx)

/-- bytes are answered, in new memory; or nothing -/
def AnsT (l : Tx) (w : World) (e : Ending) (w' : World) : Prop :=
  ∃ A n C, e = .returned (.slice A n C) ∧ n = l.length ∧ n ≤ C ∧ C ≤ maxLen ∧ (A = none → n = 0 ∧ C = 0) ∧ RdL w' A l (w.heap.size ≤ ·) ∧ Below w.heap.size w w'
theorem AnsT.nil {w w' : World} (h : Below w.heap.size w w') : AnsT [] w (.returned (.slice none 0 0)) w' :=
  ⟨none, 0, 0, rfl, rfl, Nat.le_refl _, by decide, fun _ => ⟨rfl, rfl⟩, RdL.empty _ _ _, h⟩
theorem AnsT.after {l : Tx} {w w1 w2 : World} {e : Ending} (hb : Below w.heap.size w w1) (h : AnsT l w1 e w2) : AnsT l w e w2 := by
  obtain ⟨A, n, C, h1, h2, h3, h4, h5, h6, h7⟩ := h
  exact ⟨A, n, C, h1, h2, h3, h4, h5, h6.mono fun x hx => Nat.le_trans hb.size hx, hb.trans (h7.mono hb.size)⟩
theorem AnsT.of_new {l : Tx} {w w' : World} {e : Ending} (hl : l.length ≤ maxLen) (h : NewC l w e w') : AnsT l w e w' := by
  obtain ⟨b, h1, h2, h3, h4⟩ := h
  exact ⟨some ⟨b, 0, Option.none⟩, l.length, l.length, h1, rfl, Nat.le_refl _, hl, (fun h => by cases h), (rd_of_cells h3).mono (fun x hx => by omega), h4⟩
end Go.Proofs.YtdllkbjbklhigaaDoor
