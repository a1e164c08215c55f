/- A slice of slices that is made by append: each of its rows is older than it, or a row of the call's own. No function of the program. -/
import Derived.Test.YtelkeoopfejgnaaErWords
namespace Go.Proofs.Ytelkeoopfejgnaa
open Go.RowKit Mx

def topsOf (k : Nat) (A : Nat → Option Addr) (L C : Nat → Nat) : List Value := (List.range k).map fun i => .slice (A i) (L i) (C i)
theorem topsOf_len (k : Nat) (A : Nat → Option Addr) (L C : Nat → Nat) : (topsOf k A L C).length = k := by simp [topsOf]
theorem topsOf_get {k : Nat} {A : Nat → Option Addr} {L C : Nat → Nat} {j : Nat} (hj : j < k) : (topsOf k A L C)[j]? = some (.slice (A j) (L j) (C j)) := by simp [topsOf, hj]
theorem topsOf_one {k : Nat} {A : Nat → Option Addr} {L C : Nat → Nat} : ∀ u ∈ topsOf k A L C, u.oneCell' = true := by
  intro u hu
  simp only [topsOf, List.mem_map] at hu
  obtain ⟨j, _, rfl⟩ := hu
  rfl
/-- rows behind rows -/
structure TopA (w : World) (B : Nat) (v : Value) (k : Nat) (A : Nat → Option Addr) (L C : Nat → Nat) (M : Mat) : Prop where
  top : w.ownsRow B 34 1 v k (topsOf k A L C)
  rows : ∀ i, i < k → Rd w (A i) (L i) (M i) (· < B) ∨ ∃ g, A i = some ⟨g, 0, none⟩ ∧ RowAt w g (L i) (M i)
namespace TopA
variable {w w' : World} {B k : Nat} {v v' : Value} {A : Nat → Option Addr} {L L' C : Nat → Nat} {M M' : Mat}
theorem start (w : World) (B : Nat) (A : Nat → Option Addr) (L C : Nat → Nat) (M : Mat) : TopA w B (.slice none 0 0) 0 A L C M := ⟨World.ownsRow_nil _ _ _ _, fun i hi => absurd hi (by omega)⟩
theorem old (h : TopA w B v k A L C M) (hb : Below w.heap.size w w') : TopA w' B v k A L C M :=
  ⟨own_old h.top hb, fun i hi => (h.rows i hi).imp (fun hr => hr.old hb) fun ⟨g, e, hr⟩ => ⟨g, e, hr.old hb⟩⟩
theorem drew (h : TopA w B v k A L C M) : TopA w.drew B v k A L C M := ⟨h.top.drew, h.rows⟩
theorem congr (h : TopA w B v k A L C M) (he : ∀ i, i < k → ∀ j, j < L i → M i j = M' i j) : TopA w B v k A L C M' :=
  ⟨h.top, fun i hi => (h.rows i hi).imp (fun hr => hr.congr (he i hi)) fun ⟨g, e, hr⟩ => ⟨g, e, hr.congr (he i hi)⟩⟩
theorem lens (h : TopA w B v k A L C M) (he : ∀ i, i < k → L i = L' i) : TopA w B v k A L' C M := by
  refine ⟨?_, fun i hi => by rw [← he i hi]; exact h.rows i hi⟩
  rw [show topsOf k A L' C = topsOf k A L C from List.map_congr_left fun i hi => by rw [he i (List.mem_range.1 hi)]]
  exact h.top
/-- a row is appended -/
theorem push (h : TopA w B v k A L C M) {o : Obj} (hg : (w.alloc o).grownBy w' v.ownBlock) {a : Option Addr} {l c : Nat} {f : Nat → Fe} (hown : w'.ownsRow B 34 1 v' (k + 1) (topsOf k A L C ++ [.slice a l c]))
    (hr : Rd w a l f (· < B) ∨ ∃ g, a = some ⟨g, 0, none⟩ ∧ RowAt w g l f) : TopA w' B v' (k + 1) (fun i => if i = k then a else A i) (fun i => if i = k then l else L i) (fun i => if i = k then c else C i) (fun i => if i = k then f else M i) := by
  have keep1 : ∀ {g' l' : Nat} {f' : Nat → Fe}, RowAt w g' l' f' → RowAt w' g' l' f' := fun {g' l' f'} h' =>
    h'.of_block ((hg.block g' (by have := h'.lt; simp; omega) (owns_ne h.top h' (by decide))).trans (Below.heap_alloc _ _ _ h'.lt))
  have keep2 : ∀ {a' : Option Addr} {l' : Nat} {f' : Nat → Fe}, Rd w a' l' f' (· < B) → Rd w' a' l' f' (· < B) := fun {a' l' f'} h' =>
    h'.keep fun p u hp hc => by
      have hlt := World.block_lt_of_cell? _ _ hc
      have hne : some p.block ≠ v.ownBlock := fun e => by have := (h.top.lt p.block e.symm).1; omega
      exact (World.cell?_of_block ((hg.block p.block (by simp; omega) hne).trans (Below.heap_alloc _ _ _ hlt))).trans hc
  have ht : topsOf k A L C ++ [.slice a l c] = topsOf (k + 1) (fun i => if i = k then a else A i) (fun i => if i = k then l else L i) (fun i => if i = k then c else C i) := by
    unfold topsOf
    rw [List.range_succ, List.map_append]
    congr 1
    · exact List.map_congr_left fun i hi => by
        have := List.mem_range.1 hi
        simp only [show ¬ i = k by omega, if_false]
    · simp
  rw [ht] at hown
  refine ⟨hown, fun i hi => ?_⟩
  by_cases e : i = k
  · simp only [e, if_true]
    exact hr.imp keep2 fun ⟨g, e, hr⟩ => ⟨g, e, keep1 hr⟩
  · simp only [e, if_false]
    exact (h.rows i (by omega)).imp keep2 fun ⟨g, e, hr⟩ => ⟨g, e, keep1 hr⟩
/-- as what reads -/
theorem rdM (h : TopA w B v k A L C M) (hk : 0 < k) : ∃ b cp, v = .slice (some ⟨b, 0, none⟩) k cp ∧ B ≤ b ∧ k ≤ cp ∧ RdM w (some ⟨b, 0, none⟩) k L M (· < w.heap.size) := by
  obtain ⟨b, cp, h1, h2, h3, h4⟩ := RowV.of_owns h.top hk
  refine ⟨b, cp, h1, h2, h3, RdM.in_ (G := fun _ => True) fun _ => ⟨b, 0, rfl, trivial, fun i hi => ⟨A i, C i, ?_, ?_⟩⟩⟩
  · rw [Nat.zero_add, h4.cell hi, List.getD_eq_getElem?_getD, topsOf_get hi]; rfl
  · rcases h.rows i hi with hr | ⟨g, e, hr⟩
    · exact hr.mono fun _ _ => trivial
    · rw [e]; exact hr.rd _ trivial
end TopA
end Go.Proofs.Ytelkeoopfejgnaa
