/- What the walk is told of a tape that came in as an argument. No function of the program. What the walk is told of a row of tapes that came in as an argument. No function of the program. What the walk is told of a row of steps that came in as an argument. No function of the program. -/
import Derived.Test.YtndofmoepjfnfaaDoorMbb
import Derived.Test.YtndofmoepjfnfaaDoorMal
import Derived.Lib.SmallJoins
import Derived.Test.YtndofmoepjfnfaaDoorMao
import Derived.Test.YtndofmoepjfnfaaDoorMav
namespace Go.Proofs.YtndofmoepjfnfaaDoor
open Go.RowKit Mx Go.ChangeShapes Go.WideShapes Go.Joins
open Pt (Tx)

set_option maxRecDepth 100000 in
theorem cellsTape : Tryd.prog.cellsOf 35 = 4 := by kernel_rfl
section
variable {H : Type} {enc : TypeId × Value → H} {w : World} {base fuel : Nat} {held : Bool} {x : DataW H × List MemPlace}
set_option maxRecDepth 100000 in
theorem open_blocks {cs : List Value} (h : DataW.trod enc Tryd.prog w base (fun _ => true) held fuel 33 cs = some x) :
    ∃ (a : Option Addr) (cap : Nat) (bs : List Tx), cs = [.slice a bs.length cap] ∧ bs.length ≤ maxLen ∧ RdB w a bs (fun _ => True) := by
  rcases Go.Deep.open_slice Tryd.underlying33 h with ⟨hcs, _⟩ | ⟨y, l, c, m, n, D, Pl, hcs, hb, hl, hm, hmm, _, hi⟩
  · exact ⟨none, 0, [], hcs, by decide, RdB.empty _ _ _⟩
  · have hm' : m = c := by simpa using hmm
    have key : ∀ i, ∃ t : Tx, i < l → ∃ A' C', w.cell? (y.add i) = some (.slice A' t.length C') ∧ t.length ≤ C' ∧ (A' = none → t.length = 0 ∧ C' = 0) ∧ RdL w A' t (fun _ => True) := by
      intro i
      by_cases hil : i < l
      · obtain ⟨cs', h1, h2⟩ := hi i (by omega)
        rw [cellsRow8, Nat.mul_one] at h1
        obtain ⟨_, _, h4⟩ := World.cells?_some h1
        obtain ⟨A', C', t, rfl, g1, g2, g3⟩ := open_row8 h2
        refine ⟨t, fun _ => ⟨A', C', ?_, g1, g2, g3⟩⟩
        have := h4 0 (by omega)
        rw [Go.Deep.add_add] at this
        simpa using this
      · exact ⟨[], fun h => absurd h hil⟩
    refine ⟨some y, c, (List.range l).map fun i => (key i).choose, by simpa using hcs, by simp; omega, fun h0 => ?_⟩
    have h0' : 0 < l := by simpa using h0
    obtain ⟨b, off, spot⟩ := y
    obtain ⟨A0, C0, k0, _⟩ := (key 0).choose_spec h0'
    have hs : spot = none := by simpa [Addr.add] using World.cell?_spot k0
    subst hs
    refine ⟨b, off, rfl, trivial, fun i hil => ?_⟩
    have hil' : i < l := by simpa using hil
    obtain ⟨A', C', c1, c2, c3, c4⟩ := (key i).choose_spec hil'
    refine ⟨A', C', ?_, ?_, ?_, ?_⟩
    · have c1' := (congrArg w.cell? (addr_add b off i).symm).trans c1
      simpa using c1'
    · simpa using c2
    · simpa using c3
    · simpa using c4
set_option maxRecDepth 100000 in
/-- a tape, by value -/
theorem open_tape {r : Reach} {b0 : Nat} {v : Value} {d : DataW H} {p : List MemPlace} (hv : Value.okWide Tryd.prog w r b0 35 v) (h : DataW.Trod enc Tryd.prog w base (fun _ => true) held 35 v d p) :
    ∃ (lab cap : Int) (a : Option Addr) (C : Nat) (bs : List Tx) (lost : Bool), v = .agg #[.int .i64 lab, .int .i64 cap, .slice a bs.length C, .bool lost] ∧ bs.length ≤ maxLen ∧ RdB w a bs (fun _ => True) := by
  obtain ⟨v0, v1, v2, v3, y0, y1, y2, y3, n, rfl, _, _, h0, h1, h2, h3⟩ := open_agg4 Tryd.underlying35 (by kernel_rfl) cellsTape hv h
  obtain ⟨lab, e0, -, -⟩ := DataW.trod_int (cs := [v0]) Tryd.underlying3 h0
  obtain ⟨cap, e1, -, -⟩ := DataW.trod_int (cs := [v1]) Tryd.underlying3 h1
  obtain ⟨a, C, bs, e2, k1, k2⟩ := open_blocks (cs := [v2]) h2
  obtain ⟨lost, e3, -⟩ := DataW.trod_bool (cs := [v3]) Tryd.underlying4 h3
  simp only [List.cons.injEq, and_true] at e0 e1 e2 e3
  exact ⟨lab, cap, a, C, bs, lost, by rw [e0, e1, e2, e3], k1, k2⟩
end
end Go.Proofs.YtndofmoepjfnfaaDoor
namespace Go.Proofs.YtndofmoepjfnfaaDoor
open Go.RowKit Mx Go.ChangeShapes Go.WideShapes Go.Joins
open Pt (Tx)

section
variable {H : Type} {enc : TypeId × Value → H} {w : World} {base fuel : Nat} {held : Bool} {x : DataW H × List MemPlace}
set_option maxRecDepth 100000 in
theorem tape_cells {n : Nat} {cs : List Value} {y : DataW H × List MemPlace} (h : DataW.trod enc Tryd.prog w base (fun _ => true) held n 35 cs = some y) :
    ∃ (lab cap : Int) (a : Option Addr) (C : Nat) (bs : List Tx) (lost : Bool), cs = [.int .i64 lab, .int .i64 cap, .slice a bs.length C, .bool lost] ∧ bs.length ≤ maxLen ∧ RdB w a bs (fun _ => True) := by
  obtain ⟨xs, m, _, _, h3, hxl, hf⟩ := DataW.trod_struct Tryd.underlying35 h
  rw [cellsTape] at h3
  have h0 := hf 0 _ rfl
  have h1 := hf 1 _ rfl
  have h2 := hf 2 _ rfl
  have h4 := hf 3 _ rfl
  match cs, h3 with
  | [v0, v1, v2, v3], _ =>
    match xs, hxl with
    | [x0, x1, x2, x3], _ =>
      have g0 : DataW.trod enc Tryd.prog w base (fun _ => true) held m 3 (([v0, v1, v2, v3].drop 0).take (Tryd.prog.cellsOf 3)) = some x0 := h0
      have g1 : DataW.trod enc Tryd.prog w base (fun _ => true) held m 3 (([v0, v1, v2, v3].drop 1).take (Tryd.prog.cellsOf 3)) = some x1 := h1
      have g2 : DataW.trod enc Tryd.prog w base (fun _ => true) held m 33 (([v0, v1, v2, v3].drop 2).take (Tryd.prog.cellsOf 33)) = some x2 := h2
      have g3 : DataW.trod enc Tryd.prog w base (fun _ => true) held m 4 (([v0, v1, v2, v3].drop 3).take (Tryd.prog.cellsOf 4)) = some x3 := h4
      rw [cellsInt8] at g0 g1
      rw [show Tryd.prog.cellsOf 33 = 1 by kernel_rfl] at g2
      rw [show Tryd.prog.cellsOf 4 = 1 by kernel_rfl] at g3
      obtain ⟨p, e0, -, -⟩ := DataW.trod_int (cs := [v0]) Tryd.underlying3 g0
      obtain ⟨q, e1, -, -⟩ := DataW.trod_int (cs := [v1]) Tryd.underlying3 g1
      obtain ⟨a, C, bs, e2, k1, k2⟩ := open_blocks (cs := [v2]) g2
      obtain ⟨lost, e3, -⟩ := DataW.trod_bool (cs := [v3]) Tryd.underlying4 g3
      refine ⟨p, q, a, C, bs, lost, ?_, k1, k2⟩
      simp only [List.cons.injEq, and_true] at e0 e1 e2 e3
      rw [e0, e1, e2, e3]
set_option maxRecDepth 100000 in
theorem open_tapes {T : TypeId} (hT : Tryd.prog.underlying T = some (.slice 35)) {a : Option Addr} {len cap : Nat} (h : DataW.trod enc Tryd.prog w base (fun _ => true) held fuel T (Value.slice a len cap).cells.toList = some x) :
    len ≤ cap ∧ cap ≤ maxLen ∧ ∃ ts : List St.T, ts.length = len ∧ (∀ t ∈ ts, t.blocks.length ≤ maxLen) ∧ RdT w a ts (fun _ => True) := by
  rcases Go.Deep.open_slice hT h with ⟨hcs, _⟩ | ⟨y, l, c, m, n, D, Pl, hcs, hb, hl, hm, hmm, _, hi⟩
  · simp [Value.cells] at hcs
    obtain ⟨rfl, rfl, rfl⟩ := hcs
    exact ⟨Nat.le_refl _, by decide, [], rfl, (fun t ht => by cases ht), RdT.empty _ _ _⟩
  · simp [Value.cells] at hcs
    obtain ⟨rfl, rfl, rfl⟩ := hcs
    have hm' : m = cap := by simpa using hmm
    have key : ∀ i, ∃ t : St.T, i < len → ∃ A' C', w.cell? (y.add (i * 4)) = some (.int .i64 t.label) ∧ w.cell? (y.add (i * 4 + 1)) = some (.int .i64 t.cap) ∧ w.cell? (y.add (i * 4 + 2)) = some (.slice A' t.blocks.length C') ∧ w.cell? (y.add (i * 4 + 3)) = some (.bool t.lost) ∧ t.blocks.length ≤ maxLen ∧ RdB w A' t.blocks (fun _ => True) := by
      intro i
      by_cases hil : i < len
      · obtain ⟨cs', h1, h2⟩ := hi i (by omega)
        rw [cellsTape] at h1
        obtain ⟨_, _, h4⟩ := World.cells?_some h1
        obtain ⟨p, q, A', C', bs, lost, rfl, g1, g2⟩ := tape_cells h2
        refine ⟨⟨p, q, bs, lost⟩, fun _ => ⟨A', C', ?_, ?_, ?_, ?_, g1, g2⟩⟩
        · have := h4 0 (by omega); rw [Go.Deep.add_add] at this; simpa using this
        · have := h4 1 (by omega); rw [Go.Deep.add_add] at this; simpa using this
        · have := h4 2 (by omega); rw [Go.Deep.add_add] at this; simpa using this
        · have := h4 3 (by omega); rw [Go.Deep.add_add] at this; simpa using this
      · exact ⟨⟨0, 0, [], false⟩, fun h => absurd h hil⟩
    refine ⟨by omega, by omega, (List.range len).map fun i => (key i).choose, by simp, fun t ht => ?_, fun h0 => ?_⟩
    · simp only [List.mem_map, List.mem_range] at ht
      obtain ⟨i, hi', rfl⟩ := ht
      obtain ⟨A', C', _, _, _, _, c5, _⟩ := (key i).choose_spec hi'
      exact c5
    · have h0' : 0 < len := by simpa using h0
      obtain ⟨b, off, spot⟩ := y
      obtain ⟨A0, C0, k0, _⟩ := (key 0).choose_spec h0'
      have hs : spot = none := by simpa [Addr.add] using World.cell?_spot k0
      subst hs
      refine ⟨b, off, rfl, trivial, fun i hil => ?_⟩
      have hil' : i < len := by simpa using hil
      obtain ⟨A', C', c1, c2, c3, c4, c5, c6⟩ := (key i).choose_spec hil'
      refine ⟨A', C', ?_, ?_, ?_, ?_, ?_⟩
      · have := (congrArg w.cell? (addr_add b off (i * 4)).symm).trans c1; simpa using this
      · have := (congrArg w.cell? (addr_add b off (i * 4 + 1)).symm).trans c2; simpa [Nat.add_assoc] using this
      · have := (congrArg w.cell? (addr_add b off (i * 4 + 2)).symm).trans c3; simpa [Nat.add_assoc] using this
      · have := (congrArg w.cell? (addr_add b off (i * 4 + 3)).symm).trans c4; simpa [Nat.add_assoc] using this
      · simpa using c6
end
end Go.Proofs.YtndofmoepjfnfaaDoor
namespace Go.Proofs.YtndofmoepjfnfaaDoor
open Go.RowKit Mx Go.ChangeShapes Go.WideShapes Go.Joins
open Pt (Tx)

theorem cellsStep : Tryd.prog.cellsOf 28 = 2 := by kernel_rfl
section
variable {H : Type} {enc : TypeId × Value → H} {w : World} {base fuel : Nat} {held : Bool} {x : DataW H × List MemPlace}
set_option maxRecDepth 100000 in
theorem step_cells {n : Nat} {cs : List Value} {y : DataW H × List MemPlace} (h : DataW.trod enc Tryd.prog w base (fun _ => true) held n 28 cs = some y) :
    ∃ (k : Int) (a : Option Addr) (C : Nat) (t : Tx), cs = [.int .i64 k, .slice a t.length C] ∧ t.length ≤ C ∧ (a = none → t.length = 0 ∧ C = 0) ∧ RdL w a t (fun _ => True) := by
  obtain ⟨xs, m, _, _, h3, hxl, hf⟩ := DataW.trod_struct Tryd.underlying28 h
  rw [cellsStep] at h3
  have h0 := hf 0 _ rfl
  have h1 := hf 1 _ rfl
  match cs, h3 with
  | [v0, v1], _ =>
    match xs, hxl with
    | [x0, x1], _ =>
      have g0 : DataW.trod enc Tryd.prog w base (fun _ => true) held m 3 (([v0, v1].drop 0).take (Tryd.prog.cellsOf 3)) = some x0 := h0
      have g1 : DataW.trod enc Tryd.prog w base (fun _ => true) held m 26 (([v0, v1].drop 1).take (Tryd.prog.cellsOf 26)) = some x1 := h1
      rw [cellsInt8] at g0
      rw [show Tryd.prog.cellsOf 26 = 1 by kernel_rfl] at g1
      obtain ⟨p, e0, -, -⟩ := DataW.trod_int (cs := [v0]) Tryd.underlying3 g0
      obtain ⟨a, C, t, e1, k1, k2, k3⟩ := open_row8 (cs := [v1]) g1
      refine ⟨p, a, C, t, ?_, k1, k2, k3⟩
      simp only [List.cons.injEq, and_true] at e0 e1
      rw [e0, e1]
set_option maxRecDepth 100000 in
theorem open_steps {T : TypeId} (hT : Tryd.prog.underlying T = some (.slice 28)) {a : Option Addr} {len cap : Nat} (h : DataW.trod enc Tryd.prog w base (fun _ => true) held fuel T (Value.slice a len cap).cells.toList = some x) :
    len ≤ cap ∧ cap ≤ maxLen ∧ ∃ l : List (Int × Tx), l.length = len ∧ StpR w a l (fun _ => True) := by
  rcases Go.Deep.open_slice hT h with ⟨hcs, _⟩ | ⟨y, l, c, m, n, D, Pl, hcs, hb, hl, hm, hmm, _, hi⟩
  · simp [Value.cells] at hcs
    obtain ⟨rfl, rfl, rfl⟩ := hcs
    exact ⟨Nat.le_refl _, by decide, [], rfl, StpR.empty _ _ _⟩
  · simp [Value.cells] at hcs
    obtain ⟨rfl, rfl, rfl⟩ := hcs
    have hm' : m = cap := by simpa using hmm
    have key : ∀ i, ∃ s : Int × Tx, i < len → ∃ A' C', w.cell? (y.add (i * 2)) = some (.int .i64 s.1) ∧ w.cell? (y.add (i * 2 + 1)) = some (.slice A' s.2.length C') ∧ s.2.length ≤ C' ∧ (A' = none → s.2.length = 0 ∧ C' = 0) ∧ RdL w A' s.2 (fun _ => True) := by
      intro i
      by_cases hil : i < len
      · obtain ⟨cs', h1, h2⟩ := hi i (by omega)
        rw [cellsStep] at h1
        obtain ⟨_, _, h4⟩ := World.cells?_some h1
        obtain ⟨p, A', C', t, rfl, g1, g2, g3⟩ := step_cells h2
        refine ⟨⟨p, t⟩, fun _ => ⟨A', C', ?_, ?_, g1, g2, g3⟩⟩
        · have := h4 0 (by omega); rw [Go.Deep.add_add] at this; simpa using this
        · have := h4 1 (by omega); rw [Go.Deep.add_add] at this; simpa using this
      · exact ⟨⟨0, []⟩, fun h => absurd h hil⟩
    refine ⟨by omega, by omega, (List.range len).map fun i => (key i).choose, by simp, fun h0 => ?_⟩
    have h0' : 0 < len := by simpa using h0
    obtain ⟨b, off, spot⟩ := y
    obtain ⟨A0, C0, k0, _⟩ := (key 0).choose_spec h0'
    have hs : spot = none := by simpa [Addr.add] using World.cell?_spot k0
    subst hs
    refine ⟨b, off, rfl, trivial, fun i hil => ?_⟩
    have hil' : i < len := by simpa using hil
    obtain ⟨A', C', c1, c2, c3, c4, c5⟩ := (key i).choose_spec hil'
    refine ⟨A', C', ?_, ?_, ?_, ?_, ?_⟩
    · have := (congrArg w.cell? (addr_add b off (i * 2)).symm).trans c1; simpa using this
    · have := (congrArg w.cell? (addr_add b off (i * 2 + 1)).symm).trans c2; simpa [Nat.add_assoc] using this
    · simpa using c3
    · simpa using c4
    · simpa using c5
end
end Go.Proofs.YtndofmoepjfnfaaDoor
