/- What the walk is told of a tape and of a row of calls that came in as arguments. -/
import Derived.Test.YtflcnghjhgfkfaaLsOpen
import Derived.Test.YtflcnghjhgfkfaaTpActs
import Derived.Lib.SmallJoins
namespace Go.Proofs.Ytflcnghjhgfkfaa
open Go.RowKit Mx Go.ChangeShapes Go.WideShapes Go.Joins
open Pt (Tx)

theorem cellsAct : Try.prog.cellsOf 37 = 4 := by kernel_rfl
theorem cellsTape : Try.prog.cellsOf 24 = 4 := by kernel_rfl
theorem cellsInt8 : Try.prog.cellsOf 3 = 1 := by kernel_rfl
theorem cellsRow8 : Try.prog.cellsOf 35 = 1 := by kernel_rfl
section
variable {H : Type} {enc : TypeId × Value → H} {w : World} {base fuel : Nat} {held : Bool} {x : DataW H × List MemPlace}
theorem open_row8 {cs : List Value} (h : DataW.trod enc Try.prog w base (fun _ => true) held fuel 35 cs = some x) :
    ∃ (a : Option Addr) (cap : Nat) (t : Tx), cs = [.slice a t.length cap] ∧ t.length ≤ cap ∧ (a = none → t.length = 0 ∧ cap = 0) ∧ RdL w a t (fun _ => True) := by
  have key : ∃ a len cap, cs = [Value.slice a len cap] := by
    rcases open_ints Try.underlying35 Try.underlying5 (by kernel_rfl) h with ⟨hcs, _⟩ | ⟨y, l, c, zs, hcs, _⟩
    · exact ⟨_, _, _, hcs⟩
    · exact ⟨_, _, _, hcs⟩
  obtain ⟨a, len, cap, rfl⟩ := key
  have h' : DataW.trod enc Try.prog w base (fun _ => true) held fuel 35 (Value.slice a len cap).cells.toList = some x := h
  obtain ⟨_, h2, h3, t, rfl, h4⟩ := open_rdL h'
  exact ⟨a, cap, t, rfl, h2, h3, h4⟩
theorem open_blocks {cs : List Value} (h : DataW.trod enc Try.prog w base (fun _ => true) held fuel 22 cs = some x) :
    ∃ (a : Option Addr) (cap : Nat) (bs : List Tx), cs = [.slice a bs.length cap] ∧ bs.length ≤ maxLen ∧ RdB w a bs (fun _ => True) := by
  rcases Go.Deep.open_slice Try.underlying22 h with ⟨hcs, _⟩ | ⟨y, l, c, m, n, D, Pl, hcs, hb, hl, hm, hmm, _, hi⟩
  · exact ⟨none, 0, [], hcs, by decide, RdB.empty _ _ _⟩
  · have hm' : m = c := by simpa using hmm
    have key : ∀ i, ∃ t : Tx, i < l → ∃ A' C', w.cell? (y.add i) = some (.slice A' t.length C') ∧ t.length ≤ C' ∧ (A' = none → t.length = 0 ∧ C' = 0) ∧ RdL w A' t (fun _ => True) := by
      intro i
      by_cases hil : i < l
      · obtain ⟨cs', h1, h2⟩ := hi i (by omega)
        rw [cellsRow8, Nat.mul_one] at h1
        obtain ⟨_, _, h4⟩ := World.cells?_some h1
        obtain ⟨A', C', t, rfl, g1, g2, g3⟩ := open_row8 h2
        refine ⟨t, fun _ => ⟨A', C', ?_, g1, g2, g3⟩⟩
        have := h4 0 (by omega)
        rw [Go.Deep.add_add] at this
        simpa using this
      · exact ⟨[], fun h => absurd h hil⟩
    refine ⟨some y, c, (List.range l).map fun i => (key i).choose, by simpa using hcs, by simp; omega, fun h0 => ?_⟩
    have h0' : 0 < l := by simpa using h0
    obtain ⟨b, off, spot⟩ := y
    obtain ⟨A0, C0, k0, _⟩ := (key 0).choose_spec h0'
    have hs : spot = none := by simpa [Addr.add] using World.cell?_spot k0
    subst hs
    refine ⟨b, off, rfl, trivial, fun i hil => ?_⟩
    have hil' : i < l := by simpa using hil
    obtain ⟨A', C', c1, c2, c3, c4⟩ := (key i).choose_spec hil'
    refine ⟨A', C', ?_, ?_, ?_, ?_⟩
    · have c1' := (congrArg w.cell? (addr_add b off i).symm).trans c1
      simpa using c1'
    · simpa using c2
    · simpa using c3
    · simpa using c4
theorem act_cells {n : Nat} {cs : List Value} {y : DataW H × List MemPlace} (h : DataW.trod enc Try.prog w base (fun _ => true) held n 37 cs = some y) :
    ∃ (p q r : Int) (a : Option Addr) (cap : Nat) (t : Tx), cs = [.int .i64 p, .int .i64 q, .int .i64 r, .slice a t.length cap] ∧ t.length ≤ cap ∧ (a = none → t.length = 0 ∧ cap = 0) ∧ RdL w a t (fun _ => True) := by
  obtain ⟨xs, m, _, _, h3, hxl, hf⟩ := DataW.trod_struct Try.underlying37 h
  rw [cellsAct] at h3
  have h0 := hf 0 _ rfl
  have h1 := hf 1 _ rfl
  have h2 := hf 2 _ rfl
  have h4 := hf 3 _ rfl
  match cs, h3 with
  | [v0, v1, v2, v3], _ =>
    match xs, hxl with
    | [x0, x1, x2, x3], _ =>
      have g0 : DataW.trod enc Try.prog w base (fun _ => true) held m 3 (([v0, v1, v2, v3].drop 0).take (Try.prog.cellsOf 3)) = some x0 := h0
      have g1 : DataW.trod enc Try.prog w base (fun _ => true) held m 3 (([v0, v1, v2, v3].drop 1).take (Try.prog.cellsOf 3)) = some x1 := h1
      have g2 : DataW.trod enc Try.prog w base (fun _ => true) held m 3 (([v0, v1, v2, v3].drop 2).take (Try.prog.cellsOf 3)) = some x2 := h2
      have g3 : DataW.trod enc Try.prog w base (fun _ => true) held m 35 (([v0, v1, v2, v3].drop 3).take (Try.prog.cellsOf 35)) = some x3 := h4
      rw [cellsInt8] at g0 g1 g2
      rw [cellsRow8] at g3
      obtain ⟨p, e0, -, -⟩ := DataW.trod_int (cs := [v0]) Try.underlying3 g0
      obtain ⟨q, e1, -, -⟩ := DataW.trod_int (cs := [v1]) Try.underlying3 g1
      obtain ⟨r, e2, -, -⟩ := DataW.trod_int (cs := [v2]) Try.underlying3 g2
      obtain ⟨a, cap, t, e3, k1, k2, k3⟩ := open_row8 (cs := [v3]) g3
      refine ⟨p, q, r, a, cap, t, ?_, k1, k2, k3⟩
      simp only [List.cons.injEq, and_true] at e0 e1 e2 e3
      rw [e0, e1, e2, e3]
theorem open_acts {a : Option Addr} {len cap : Nat} (h : DataW.trod enc Try.prog w base (fun _ => true) held fuel 25 (Value.slice a len cap).cells.toList = some x) :
    len ≤ maxLen ∧ ∃ way num mm st, ActR w a len way num mm st w.heap.size := by
  rcases Go.Deep.open_slice Try.underlying25 h with ⟨hcs, _⟩ | ⟨y, l, c, m, n, D, Pl, hcs, hb, hl, hm, hmm, _, hi⟩
  · simp [Value.cells] at hcs
    obtain ⟨rfl, rfl, rfl⟩ := hcs
    exact ⟨by decide, fun _ => 0, fun _ => 0, fun _ => 0, fun _ => [], fun h => absurd h (by omega)⟩
  · simp [Value.cells] at hcs
    obtain ⟨rfl, rfl, rfl⟩ := hcs
    have hm' : m = cap := by simpa using hmm
    have key : ∀ i, ∃ q : Int × Int × Int × Tx, i < len → ∃ A' C', w.cell? (y.add (i * 4)) = some (.int .i64 q.1) ∧ w.cell? (y.add (i * 4 + 1)) = some (.int .i64 q.2.1) ∧ w.cell? (y.add (i * 4 + 2)) = some (.int .i64 q.2.2.1) ∧ w.cell? (y.add (i * 4 + 3)) = some (.slice A' q.2.2.2.length C') ∧ q.2.2.2.length ≤ C' ∧ (A' = none → q.2.2.2.length = 0 ∧ C' = 0) ∧ RdL w A' q.2.2.2 (fun _ => True) := by
      intro i
      by_cases hil : i < len
      · obtain ⟨cs', h1, h2⟩ := hi i (by omega)
        rw [cellsAct] at h1
        obtain ⟨_, _, h4⟩ := World.cells?_some h1
        obtain ⟨p, q, r, A', C', t, rfl, g1, g2, g3⟩ := act_cells h2
        refine ⟨(p, q, r, t), fun _ => ⟨A', C', ?_, ?_, ?_, ?_, g1, g2, g3⟩⟩
        · have := h4 0 (by omega); rw [Go.Deep.add_add] at this; simpa using this
        · have := h4 1 (by omega); rw [Go.Deep.add_add] at this; simpa using this
        · have := h4 2 (by omega); rw [Go.Deep.add_add] at this; simpa using this
        · have := h4 3 (by omega); rw [Go.Deep.add_add] at this; simpa using this
      · exact ⟨(0, 0, 0, []), fun h => absurd h hil⟩
    refine ⟨by omega, fun i => (key i).choose.1, fun i => (key i).choose.2.1, fun i => (key i).choose.2.2.1, fun i => (key i).choose.2.2.2, fun h0 => ?_⟩
    obtain ⟨b, off, spot⟩ := y
    obtain ⟨A0, C0, k0, _⟩ := (key 0).choose_spec h0
    have hs : spot = none := by simpa [Addr.add] using World.cell?_spot k0
    subst hs
    refine ⟨b, off, rfl, ?_, fun i hil => ?_⟩
    · have := World.block_lt_of_cell? _ _ k0
      simpa [Addr.add] using this
    · obtain ⟨A', C', c1, c2, c3, c4, c5, c6, c7⟩ := (key i).choose_spec hil
      exact ⟨A', C', (congrArg w.cell? (addr_add b off (i * 4)).symm).trans c1, (congrArg w.cell? (addr_add b off (i * 4 + 1)).symm).trans c2, (congrArg w.cell? (addr_add b off (i * 4 + 2)).symm).trans c3, (congrArg w.cell? (addr_add b off (i * 4 + 3)).symm).trans c4, c5, c6, c7.in_.mono fun _ h => h.2⟩
/-- a tape, by value -/
theorem open_tape {r : Reach} {b0 : Nat} {v : Value} {d : DataW H} {p : List MemPlace} (hv : Value.okWide Try.prog w r b0 24 v) (h : DataW.Trod enc Try.prog w base (fun _ => true) held 24 v d p) :
    ∃ (lab cap : Int) (a : Option Addr) (C : Nat) (bs : List Tx) (lost : Bool), v = .agg #[.int .i64 lab, .int .i64 cap, .slice a bs.length C, .bool lost] ∧ bs.length ≤ maxLen ∧ RdB w a bs (fun _ => True) := by
  obtain ⟨v0, v1, v2, v3, y0, y1, y2, y3, n, rfl, _, _, h0, h1, h2, h3⟩ := open_agg4 Try.underlying24 (by kernel_rfl) cellsTape hv h
  obtain ⟨lab, e0, -, -⟩ := DataW.trod_int (cs := [v0]) Try.underlying3 h0
  obtain ⟨cap, e1, -, -⟩ := DataW.trod_int (cs := [v1]) Try.underlying3 h1
  obtain ⟨a, C, bs, e2, k1, k2⟩ := open_blocks (cs := [v2]) h2
  obtain ⟨lost, e3, -⟩ := DataW.trod_bool (cs := [v3]) Try.underlying4 h3
  simp only [List.cons.injEq, and_true] at e0 e1 e2 e3
  exact ⟨lab, cap, a, C, bs, lost, by rw [e0, e1, e2, e3], k1, k2⟩
end
end Go.Proofs.Ytflcnghjhgfkfaa
