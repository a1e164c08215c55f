/- What the walk is told of a slice of items that came in as an argument, and of bytes as a list. -/
import Derived.Test.YtnblebgoajhaiaaCdReads
import Derived.Test.YtnblebgoajhaiaaByOpen
import Derived.Deep.Slices
import Derived.Deep.Fields
namespace Go.Proofs.Ytnblebgoajhaiaa
open Go.RowKit Mx Go.ChangeShapes Go.WideShapes
open Pt (Tx)

theorem cellsItem : Try.prog.cellsOf 33 = 3 := by kernel_rfl
theorem cellsInt : Try.prog.cellsOf 3 = 1 := by kernel_rfl
theorem cellsStr : Try.prog.cellsOf 9 = 1 := by kernel_rfl
section
variable {H : Type} {enc : TypeId × Value → H} {w : World} {base fuel : Nat} {held : Bool} {a : Option Addr} {len cap : Nat} {x : DataW H × List MemPlace}
/-- the cells of one item -/
theorem item_cells {spare : Nat → Bool} {n : Nat} {cs : List Value} {y : DataW H × List MemPlace} (h : DataW.trod enc Try.prog w base spare held n 33 cs = some y) :
    ∃ (p q : Int) (s : Tx), cs = [.int .i64 p, .int .i64 q, .string (tx s)] ∧ s.length ≤ maxLen := by
  obtain ⟨xs, m, _, _, h3, hxl, hf⟩ := DataW.trod_struct Try.underlying33 h
  rw [cellsItem] at h3
  have h0 := hf 0 _ rfl
  have h1 := hf 1 _ rfl
  have h2 := hf 2 _ rfl
  match cs, h3 with
  | [v0, v1, v2], _ =>
    match xs, hxl with
    | [x0, x1, x2], _ =>
      have g0 : DataW.trod enc Try.prog w base spare held m 3 (([v0, v1, v2].drop 0).take (Try.prog.cellsOf 3)) = some x0 := h0
      have g1 : DataW.trod enc Try.prog w base spare held m 3 (([v0, v1, v2].drop 1).take (Try.prog.cellsOf 3)) = some x1 := h1
      have g2 : DataW.trod enc Try.prog w base spare held m 9 (([v0, v1, v2].drop 2).take (Try.prog.cellsOf 9)) = some x2 := h2
      rw [cellsInt] at g0 g1
      rw [cellsStr] at g2
      obtain ⟨p, e0, -, -⟩ := DataW.trod_int (cs := [v0]) Try.underlying3 g0
      obtain ⟨q, e1, -, -⟩ := DataW.trod_int (cs := [v1]) Try.underlying3 g1
      obtain ⟨s, e2, -, hs⟩ := DataW.trod_string (cs := [v2]) Try.underlying9 g2
      refine ⟨p, q, s.data.toList, ?_, by rw [← tx_size, tx_eta]; exact hs⟩
      rw [tx_eta]
      simp only [List.cons.injEq, and_true] at e0 e1 e2
      rw [e0, e1, e2]
theorem open_items (h : DataW.trod enc Try.prog w base (fun _ => true) held fuel 22 (Value.slice a len cap).cells.toList = some x) :
    len ≤ maxLen ∧ ∃ way num st, ItR w a len way num st w.heap.size ∧ ∀ i, i < len → (st i).length ≤ maxLen := by
  rcases Go.Deep.open_slice Try.underlying22 h with ⟨hcs, _⟩ | ⟨y, l, c, m, n, D, Pl, hcs, hb, hl, hm, hmm, _, hi⟩
  · simp [Value.cells] at hcs
    obtain ⟨rfl, rfl, rfl⟩ := hcs
    exact ⟨by decide, fun _ => 0, fun _ => 0, fun _ => [], fun h => absurd h (by omega), fun i h => absurd h (by omega)⟩
  · simp [Value.cells] at hcs
    obtain ⟨rfl, rfl, rfl⟩ := hcs
    have hm' : m = cap := by simpa using hmm
    have key : ∀ i, ∃ q : Int × Int × Tx, i < len → (w.cell? (y.add (i * 3)) = some (.int .i64 q.1) ∧ w.cell? (y.add (i * 3 + 1)) = some (.int .i64 q.2.1) ∧ w.cell? (y.add (i * 3 + 2)) = some (.string (tx q.2.2))) ∧ q.2.2.length ≤ maxLen := by
      intro i
      by_cases hil : i < len
      · obtain ⟨cs', h1, h2⟩ := hi i (by omega)
        rw [cellsItem] at h1
        obtain ⟨_, _, h4⟩ := World.cells?_some h1
        obtain ⟨p, q, s, rfl, hs⟩ := item_cells h2
        refine ⟨(p, q, s), fun _ => ⟨⟨?_, ?_, ?_⟩, hs⟩⟩
        · have := h4 0 (by omega); rw [Go.Deep.add_add] at this; simpa using this
        · have := h4 1 (by omega); rw [Go.Deep.add_add] at this; simpa using this
        · have := h4 2 (by omega); rw [Go.Deep.add_add] at this; simpa using this
      · exact ⟨(0, 0, []), fun h => absurd h hil⟩
    refine ⟨by omega, fun i => (key i).choose.1, fun i => (key i).choose.2.1, fun i => (key i).choose.2.2, fun h0 => ?_, fun i hil => ((key i).choose_spec hil).2⟩
    obtain ⟨b, off, spot⟩ := y
    have k0 := ((key 0).choose_spec h0).1.1
    have hs : spot = none := by simpa [Addr.add] using World.cell?_spot k0
    subst hs
    refine ⟨b, off, rfl, ?_, fun i hil => ?_⟩
    · have := World.block_lt_of_cell? _ _ k0
      simpa [Addr.add] using this
    · obtain ⟨c1, c2, c3⟩ := ((key i).choose_spec hil).1
      exact ⟨(congrArg w.cell? (addr_add b off (i * 3)).symm).trans c1, (congrArg w.cell? (addr_add b off (i * 3 + 1)).symm).trans c2, (congrArg w.cell? (addr_add b off (i * 3 + 2)).symm).trans c3⟩
/-- bytes, as a list -/
theorem open_rdL (h : DataW.trod enc Try.prog w base (fun _ => true) held fuel 29 (Value.slice a len cap).cells.toList = some x) :
    cap ≤ maxLen ∧ len ≤ cap ∧ (a = none → len = 0 ∧ cap = 0) ∧ ∃ l : Tx, l.length = len ∧ RdL w a l (fun _ => True) := by
  rcases open_ints Try.underlying29 Try.underlying5 (by kernel_rfl) h with ⟨hcs, _⟩ | ⟨y, l, c, zs, hcs, _, hl, hm, hz, _, hcell, hwz⟩
  · simp [Value.cells] at hcs
    obtain ⟨rfl, rfl, rfl⟩ := hcs
    exact ⟨by decide, Nat.le_refl _, fun _ => ⟨rfl, rfl⟩, [], rfl, RdL.empty _ _ _⟩
  · simp [Value.cells] at hcs
    obtain ⟨rfl, rfl, rfl⟩ := hcs
    have hz' : zs.length = cap := by simpa using hz
    refine ⟨hm, hl, (fun h => by cases h), (List.range len).map fun i => UInt8.ofNat (zs.getD i 0).toNat, by simp, fun h0 => ?_⟩
    simp at h0
    obtain ⟨b, off, spot⟩ := y
    have hs : spot = none := by simpa [Addr.add] using World.cell?_spot (hcell 0 (by omega))
    subst hs
    refine ⟨b, off, rfl, trivial, fun j hj => ?_⟩
    have hj' : j < len := by simpa using hj
    have hc := hcell j (by omega)
    rw [addr_add] at hc
    have hw := fi_feOf (getD_wf hwz (c := j) (by omega))
    rw [hc]
    have hr : 0 ≤ zs.getD j 0 ∧ zs.getD j 0 < 256 := by have h1 := fi_lo (feOf (zs.getD j 0)); have h2 := fi_hi (feOf (zs.getD j 0)); rw [hw] at h1 h2; exact ⟨h1, h2⟩
    simp only [List.getElem_map, List.getElem_range, UInt8.toNat_ofNat']
    rw [Nat.mod_eq_of_lt (show (zs.getD j 0).toNat < 2 ^ 8 by have := hr.2; have := hr.1; omega)]
    congr 2
    have := hr.1
    omega
end
end Go.Proofs.Ytnblebgoajhaiaa
