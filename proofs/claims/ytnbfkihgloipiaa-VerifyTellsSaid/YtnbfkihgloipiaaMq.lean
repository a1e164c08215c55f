/- What the walk is told of bytes that came in as an argument, as a list. What the walk is told of a []byte, and of a unit, in whose place stands what lies in its cells. What the walk is told of a tape that came in as an argument. No function of the program. What the walk is told of a seal that came in as an argument. What the walk is told of a row of tapes, and of a seal, that came in as arguments, their labels' reach too. No function of the program. -/
import Derived.Test.YtnbfkihgloipiaaMc
import Derived.Test.YtnbfkihgloipiaaMp
import Derived.Deep.Slices
import Derived.Deep.Fields
import Derived.Lib.SmallJoins
import Derived.Test.YtnbfkihgloipiaaMj
import Derived.Test.YtnbfkihgloipiaaMk
namespace Go.Proofs.Ytnbfkihgloipiaa
open Go.RowKit Mx Go.ChangeShapes Go.WideShapes
open Pt (Tx)

section
variable {H : Type} {enc : TypeId × Value → H} {w : World} {base fuel : Nat} {held : Bool} {a : Option Addr} {len cap : Nat} {x : DataW H × List MemPlace}
/-- bytes, as a list -/
theorem open_rdL (h : DataW.trod enc Try.prog w base (fun _ => true) held fuel 36 (Value.slice a len cap).cells.toList = some x) :
    cap ≤ maxLen ∧ len ≤ cap ∧ (a = none → len = 0 ∧ cap = 0) ∧ ∃ l : Tx, l.length = len ∧ RdL w a l (fun _ => True) := by
  rcases open_ints Try.underlying36 Try.underlying5 (by kernel_rfl) h with ⟨hcs, _⟩ | ⟨y, l, c, zs, hcs, _, hl, hm, hz, _, hcell, hwz⟩
  · simp [Value.cells] at hcs
    obtain ⟨rfl, rfl, rfl⟩ := hcs
    exact ⟨by decide, Nat.le_refl _, fun _ => ⟨rfl, rfl⟩, [], rfl, RdL.empty _ _ _⟩
  · simp [Value.cells] at hcs
    obtain ⟨rfl, rfl, rfl⟩ := hcs
    have hz' : zs.length = cap := by simpa using hz
    refine ⟨hm, hl, (fun h => by cases h), (List.range len).map fun i => UInt8.ofNat (zs.getD i 0).toNat, by simp, fun h0 => ?_⟩
    simp at h0
    obtain ⟨b, off, spot⟩ := y
    have hs : spot = none := by simpa [Addr.add] using World.cell?_spot (hcell 0 (by omega))
    subst hs
    refine ⟨b, off, rfl, trivial, fun j hj => ?_⟩
    have hj' : j < len := by simpa using hj
    have hc := hcell j (by omega)
    rw [addr_add] at hc
    have hw := fi_feOf (getD_wf hwz (c := j) (by omega))
    rw [hc]
    have hr : 0 ≤ zs.getD j 0 ∧ zs.getD j 0 < 256 := by have h1 := fi_lo (feOf (zs.getD j 0)); have h2 := fi_hi (feOf (zs.getD j 0)); rw [hw] at h1 h2; exact ⟨h1, h2⟩
    simp only [List.getElem_map, List.getElem_range, UInt8.toNat_ofNat']
    rw [Nat.mod_eq_of_lt (show (zs.getD j 0).toNat < 2 ^ 8 by have := hr.2; have := hr.1; omega)]
    congr 2
    have := hr.1
    omega
end
end Go.Proofs.Ytnbfkihgloipiaa
namespace Go.Proofs.Ytnbfkihgloipiaa
open Go.RowKit Mx Go.ChangeShapes Go.WideShapes Go.Joins
open Pt (Tx)

theorem cellsInt8 : Try.prog.cellsOf 3 = 1 := by kernel_rfl
theorem cellsRow8 : Try.prog.cellsOf 36 = 1 := by kernel_rfl
section
variable {H : Type} {enc : TypeId × Value → H} {w : World} {base fuel : Nat} {held : Bool} {x : DataW H × List MemPlace}
theorem open_row8 {cs : List Value} (h : DataW.trod enc Try.prog w base (fun _ => true) held fuel 36 cs = some x) :
    ∃ (a : Option Addr) (cap : Nat) (t : Tx), cs = [.slice a t.length cap] ∧ t.length ≤ cap ∧ (a = none → t.length = 0 ∧ cap = 0) ∧ RdL w a t (fun _ => True) := by
  have key : ∃ a len cap, cs = [Value.slice a len cap] := by
    rcases open_ints Try.underlying36 Try.underlying5 (by kernel_rfl) h with ⟨hcs, _⟩ | ⟨y, l, c, zs, hcs, _⟩
    · exact ⟨_, _, _, hcs⟩
    · exact ⟨_, _, _, hcs⟩
  obtain ⟨a, len, cap, rfl⟩ := key
  have h' : DataW.trod enc Try.prog w base (fun _ => true) held fuel 36 (Value.slice a len cap).cells.toList = some x := h
  obtain ⟨_, h2, h3, t, rfl, h4⟩ := open_rdL h'
  exact ⟨a, cap, t, rfl, h2, h3, h4⟩
end
end Go.Proofs.Ytnbfkihgloipiaa
namespace Go.Proofs.Ytnbfkihgloipiaa
open Go.RowKit Mx Go.ChangeShapes Go.WideShapes Go.Joins
open Pt (Tx)

set_option maxRecDepth 100000 in
theorem cellsTape : Try.prog.cellsOf 35 = 4 := by kernel_rfl
section
variable {H : Type} {enc : TypeId × Value → H} {w : World} {base fuel : Nat} {held : Bool} {x : DataW H × List MemPlace}
set_option maxRecDepth 100000 in
theorem open_blocks {cs : List Value} (h : DataW.trod enc Try.prog w base (fun _ => true) held fuel 33 cs = some x) :
    ∃ (a : Option Addr) (cap : Nat) (bs : List Tx), cs = [.slice a bs.length cap] ∧ bs.length ≤ maxLen ∧ RdB w a bs (fun _ => True) := by
  rcases Go.Deep.open_slice Try.underlying33 h with ⟨hcs, _⟩ | ⟨y, l, c, m, n, D, Pl, hcs, hb, hl, hm, hmm, _, hi⟩
  · exact ⟨none, 0, [], hcs, by decide, RdB.empty _ _ _⟩
  · have hm' : m = c := by simpa using hmm
    have key : ∀ i, ∃ t : Tx, i < l → ∃ A' C', w.cell? (y.add i) = some (.slice A' t.length C') ∧ t.length ≤ C' ∧ (A' = none → t.length = 0 ∧ C' = 0) ∧ RdL w A' t (fun _ => True) := by
      intro i
      by_cases hil : i < l
      · obtain ⟨cs', h1, h2⟩ := hi i (by omega)
        rw [cellsRow8, Nat.mul_one] at h1
        obtain ⟨_, _, h4⟩ := World.cells?_some h1
        obtain ⟨A', C', t, rfl, g1, g2, g3⟩ := open_row8 h2
        refine ⟨t, fun _ => ⟨A', C', ?_, g1, g2, g3⟩⟩
        have := h4 0 (by omega)
        rw [Go.Deep.add_add] at this
        simpa using this
      · exact ⟨[], fun h => absurd h hil⟩
    refine ⟨some y, c, (List.range l).map fun i => (key i).choose, by simpa using hcs, by simp; omega, fun h0 => ?_⟩
    have h0' : 0 < l := by simpa using h0
    obtain ⟨b, off, spot⟩ := y
    obtain ⟨A0, C0, k0, _⟩ := (key 0).choose_spec h0'
    have hs : spot = none := by simpa [Addr.add] using World.cell?_spot k0
    subst hs
    refine ⟨b, off, rfl, trivial, fun i hil => ?_⟩
    have hil' : i < l := by simpa using hil
    obtain ⟨A', C', c1, c2, c3, c4⟩ := (key i).choose_spec hil'
    refine ⟨A', C', ?_, ?_, ?_, ?_⟩
    · have c1' := (congrArg w.cell? (addr_add b off i).symm).trans c1
      simpa using c1'
    · simpa using c2
    · simpa using c3
    · simpa using c4
set_option maxRecDepth 100000 in
/-- a tape, by value -/
theorem open_tape {r : Reach} {b0 : Nat} {v : Value} {d : DataW H} {p : List MemPlace} (hv : Value.okWide Try.prog w r b0 35 v) (h : DataW.Trod enc Try.prog w base (fun _ => true) held 35 v d p) :
    ∃ (lab cap : Int) (a : Option Addr) (C : Nat) (bs : List Tx) (lost : Bool), v = .agg #[.int .i64 lab, .int .i64 cap, .slice a bs.length C, .bool lost] ∧ bs.length ≤ maxLen ∧ RdB w a bs (fun _ => True) := by
  obtain ⟨v0, v1, v2, v3, y0, y1, y2, y3, n, rfl, _, _, h0, h1, h2, h3⟩ := open_agg4 Try.underlying35 (by kernel_rfl) cellsTape hv h
  obtain ⟨lab, e0, -, -⟩ := DataW.trod_int (cs := [v0]) Try.underlying3 h0
  obtain ⟨cap, e1, -, -⟩ := DataW.trod_int (cs := [v1]) Try.underlying3 h1
  obtain ⟨a, C, bs, e2, k1, k2⟩ := open_blocks (cs := [v2]) h2
  obtain ⟨lost, e3, -⟩ := DataW.trod_bool (cs := [v3]) Try.underlying4 h3
  simp only [List.cons.injEq, and_true] at e0 e1 e2 e3
  exact ⟨lab, cap, a, C, bs, lost, by rw [e0, e1, e2, e3], k1, k2⟩
end
end Go.Proofs.Ytnbfkihgloipiaa
namespace Go.Proofs.Ytnbfkihgloipiaa
open Go.RowKit Mx Go.ChangeShapes Go.WideShapes Go.Joins
open Pt (Tx)

set_option maxRecDepth 100000 in
theorem array5 {α : Type} {cs : Array α} (h : cs.size = 5) : ∃ c0 c1 c2 c3 c4, cs = #[c0, c1, c2, c3, c4] := by
  obtain ⟨l⟩ := cs
  match l, h with
  | [c0, c1, c2, c3, c4], _ => exact ⟨c0, c1, c2, c3, c4, rfl⟩
set_option maxRecDepth 100000 in
theorem cellsSeal : Try.prog.cellsOf 25 = 5 := by kernel_rfl
set_option maxRecDepth 100000 in
theorem cellsIs : Try.prog.cellsOf 3 = 1 := by kernel_rfl
set_option maxRecDepth 100000 in
theorem cellsZs : Try.prog.cellsOf 23 = 1 := by kernel_rfl
section
variable {H : Type} {enc : TypeId × Value → H} {w : World} {base fuel : Nat} {held : Bool}
set_option maxRecDepth 100000 in
theorem open_rdZ {cs : List Value} {x : DataW H × List MemPlace} (h : DataW.trod enc Try.prog w base (fun _ => true) held fuel 23 cs = some x) :
    ∃ (a : Option Addr) (cap : Nat) (l : List Int), cs = [.slice a l.length cap] ∧ l.length ≤ cap ∧ cap ≤ maxLen ∧ (a = none → l.length = 0 ∧ cap = 0) ∧ RdZ w a l (fun _ => True) := by
  rcases open_ints Try.underlying23 Try.underlying3 (by kernel_rfl) h with ⟨hcs, _⟩ | ⟨y, l, c, zs, hcs, _, hl, hm, hz, _, hcell, hwz⟩
  · exact ⟨none, 0, [], hcs, Nat.le_refl _, by decide, fun _ => ⟨rfl, rfl⟩, RdZ.empty _ _ _⟩
  · have hz' : zs.length = c := by simpa using hz
    refine ⟨some y, c, (List.range l).map fun i => zs.getD i 0, by simpa using hcs, by simpa using hl, hm, (fun h => by cases h), fun h0 => ?_⟩
    have h0' : 0 < l := by simpa using h0
    obtain ⟨b, off, spot⟩ := y
    have hs : spot = none := by simpa [Addr.add] using World.cell?_spot (hcell 0 (by omega))
    subst hs
    refine ⟨b, off, rfl, trivial, fun j hj => ?_⟩
    have hj' : j < l := by simpa using hj
    have hc := hcell j (by omega)
    rw [addr_add] at hc
    rw [hc]
    simp
set_option maxRecDepth 100000 in
theorem open_seal {r : Reach} {b0 : Nat} {x : Value} {d : DataW H} {q : List MemPlace} (hv : Value.okWide Try.prog w r b0 25 x) (h : DataW.Trod enc Try.prog w base (fun _ => true) held 25 x d q) :
    ∃ (n i e p : Int) (a : Option Addr) (C : Nat) (l : List Int), x = .agg #[.int .i64 n, .int .i64 i, .int .i64 e, .int .i64 p, .slice a l.length C] ∧ l.length ≤ C ∧ C ≤ maxLen ∧ (a = none → l.length = 0 ∧ C = 0) ∧ RdZ w a l (fun _ => True) := by
  obtain ⟨cs, rfl, hsz⟩ := okWide_struct Try.underlying25 hv
  obtain ⟨v0, v1, v2, v3, v4, rfl⟩ := array5 (hsz.trans cellsSeal)
  obtain ⟨fuel, hf⟩ := h
  have hf' : DataW.trod enc Try.prog w base (fun _ => true) held fuel 25 [v0, v1, v2, v3, v4] = some (d, q) := by simpa [Value.cells] using hf
  clear hf
  obtain ⟨xs, m, _, _, h3, hxl, hf⟩ := DataW.trod_struct Try.underlying25 hf'
  have h0 := hf 0 _ rfl
  have h1 := hf 1 _ rfl
  have h2 := hf 2 _ rfl
  have h3 := hf 3 _ rfl
  have h4 := hf 4 _ rfl
  clear hf
  match xs, hxl with
  | [x0, x1, x2, x3, x4], _ =>
    have g0 : DataW.trod enc Try.prog w base (fun _ => true) held m 3 (([v0, v1, v2, v3, v4].drop 0).take (Try.prog.cellsOf 3)) = some x0 := h0
    have g1 : DataW.trod enc Try.prog w base (fun _ => true) held m 3 (([v0, v1, v2, v3, v4].drop 1).take (Try.prog.cellsOf 3)) = some x1 := h1
    have g2 : DataW.trod enc Try.prog w base (fun _ => true) held m 3 (([v0, v1, v2, v3, v4].drop 2).take (Try.prog.cellsOf 3)) = some x2 := h2
    have g3 : DataW.trod enc Try.prog w base (fun _ => true) held m 3 (([v0, v1, v2, v3, v4].drop 3).take (Try.prog.cellsOf 3)) = some x3 := h3
    have g4 : DataW.trod enc Try.prog w base (fun _ => true) held m 23 (([v0, v1, v2, v3, v4].drop 4).take (Try.prog.cellsOf 23)) = some x4 := h4
    rw [cellsIs] at g0 g1 g2 g3
    rw [cellsZs] at g4
    obtain ⟨n0, e0, -, -⟩ := DataW.trod_int (cs := [v0]) Try.underlying3 g0
    obtain ⟨n1, e1, -, -⟩ := DataW.trod_int (cs := [v1]) Try.underlying3 g1
    obtain ⟨n2, e2, -, -⟩ := DataW.trod_int (cs := [v2]) Try.underlying3 g2
    obtain ⟨n3, e3, -, -⟩ := DataW.trod_int (cs := [v3]) Try.underlying3 g3
    obtain ⟨a, C, l, e4, k1, k2, k3, k4⟩ := open_rdZ (cs := [v4]) g4
    simp only [List.cons.injEq, and_true] at e0 e1 e2 e3 e4
    exact ⟨n0, n1, n2, n3, a, C, l, by rw [e0, e1, e2, e3, e4], k1, k2, k3, k4⟩
end
end Go.Proofs.Ytnbfkihgloipiaa
namespace Go.Proofs.Ytnbfkihgloipiaa
open Go.RowKit Mx Go.ChangeShapes Go.WideShapes Go.Joins
open Pt (Tx)

section
variable {H : Type} {enc : TypeId × Value → H} {w : World} {base fuel : Nat} {held : Bool} {x : DataW H × List MemPlace}
set_option maxRecDepth 100000 in
theorem tape_cellsW {n : Nat} {cs : List Value} {y : DataW H × List MemPlace} (h : DataW.trod enc Try.prog w base (fun _ => true) held n 35 cs = some y) :
    ∃ (lab cap : Int) (a : Option Addr) (C : Nat) (bs : List Tx) (lost : Bool), cs = [.int .i64 lab, .int .i64 cap, .slice a bs.length C, .bool lost] ∧ bs.length ≤ maxLen ∧ RdB w a bs (fun _ => True) ∧ wfZ lab := by
  obtain ⟨xs, m, _, _, h3, hxl, hf⟩ := DataW.trod_struct Try.underlying35 h
  rw [cellsTape] at h3
  have h0 := hf 0 _ rfl
  have h1 := hf 1 _ rfl
  have h2 := hf 2 _ rfl
  have h4 := hf 3 _ rfl
  match cs, h3 with
  | [v0, v1, v2, v3], _ =>
    match xs, hxl with
    | [x0, x1, x2, x3], _ =>
      have g0 : DataW.trod enc Try.prog w base (fun _ => true) held m 3 (([v0, v1, v2, v3].drop 0).take (Try.prog.cellsOf 3)) = some x0 := h0
      have g1 : DataW.trod enc Try.prog w base (fun _ => true) held m 3 (([v0, v1, v2, v3].drop 1).take (Try.prog.cellsOf 3)) = some x1 := h1
      have g2 : DataW.trod enc Try.prog w base (fun _ => true) held m 33 (([v0, v1, v2, v3].drop 2).take (Try.prog.cellsOf 33)) = some x2 := h2
      have g3 : DataW.trod enc Try.prog w base (fun _ => true) held m 4 (([v0, v1, v2, v3].drop 3).take (Try.prog.cellsOf 4)) = some x3 := h4
      rw [cellsInt8] at g0 g1
      rw [show Try.prog.cellsOf 33 = 1 by kernel_rfl] at g2
      rw [show Try.prog.cellsOf 4 = 1 by kernel_rfl] at g3
      obtain ⟨p, e0, -, wp⟩ := DataW.trod_int (cs := [v0]) Try.underlying3 g0
      obtain ⟨q, e1, -, -⟩ := DataW.trod_int (cs := [v1]) Try.underlying3 g1
      obtain ⟨a, C, bs, e2, k1, k2⟩ := open_blocks (cs := [v2]) g2
      obtain ⟨lost, e3, -⟩ := DataW.trod_bool (cs := [v3]) Try.underlying4 g3
      refine ⟨p, q, a, C, bs, lost, ?_, k1, k2, wp⟩
      simp only [List.cons.injEq, and_true] at e0 e1 e2 e3
      rw [e0, e1, e2, e3]
set_option maxRecDepth 100000 in
theorem open_tapesW {T : TypeId} (hT : Try.prog.underlying T = some (.slice 35)) {a : Option Addr} {len cap : Nat} (h : DataW.trod enc Try.prog w base (fun _ => true) held fuel T (Value.slice a len cap).cells.toList = some x) :
    len ≤ cap ∧ cap ≤ maxLen ∧ ∃ ts : List St.T, ts.length = len ∧ (∀ t ∈ ts, t.blocks.length ≤ maxLen) ∧ RdT w a ts (fun _ => True) ∧ ∀ t ∈ ts, wfZ t.label := by
  rcases Go.Deep.open_slice hT h with ⟨hcs, _⟩ | ⟨y, l, c, m, n, D, Pl, hcs, hb, hl, hm, hmm, _, hi⟩
  · simp [Value.cells] at hcs
    obtain ⟨rfl, rfl, rfl⟩ := hcs
    exact ⟨Nat.le_refl _, by decide, [], rfl, (fun t ht => by cases ht), RdT.empty _ _ _, (fun t ht => by cases ht)⟩
  · simp [Value.cells] at hcs
    obtain ⟨rfl, rfl, rfl⟩ := hcs
    have hm' : m = cap := by simpa using hmm
    have key : ∀ i, ∃ t : St.T, i < len → ∃ A' C', w.cell? (y.add (i * 4)) = some (.int .i64 t.label) ∧ w.cell? (y.add (i * 4 + 1)) = some (.int .i64 t.cap) ∧ w.cell? (y.add (i * 4 + 2)) = some (.slice A' t.blocks.length C') ∧ w.cell? (y.add (i * 4 + 3)) = some (.bool t.lost) ∧ t.blocks.length ≤ maxLen ∧ RdB w A' t.blocks (fun _ => True) ∧ wfZ t.label := by
      intro i
      by_cases hil : i < len
      · obtain ⟨cs', h1, h2⟩ := hi i (by omega)
        rw [cellsTape] at h1
        obtain ⟨_, _, h4⟩ := World.cells?_some h1
        obtain ⟨p, q, A', C', bs, lost, rfl, g1, g2, g3⟩ := tape_cellsW h2
        refine ⟨⟨p, q, bs, lost⟩, fun _ => ⟨A', C', ?_, ?_, ?_, ?_, g1, g2, g3⟩⟩
        · have := h4 0 (by omega); rw [Go.Deep.add_add] at this; simpa using this
        · have := h4 1 (by omega); rw [Go.Deep.add_add] at this; simpa using this
        · have := h4 2 (by omega); rw [Go.Deep.add_add] at this; simpa using this
        · have := h4 3 (by omega); rw [Go.Deep.add_add] at this; simpa using this
      · exact ⟨⟨0, 0, [], false⟩, fun h => absurd h hil⟩
    refine ⟨by omega, by omega, (List.range len).map fun i => (key i).choose, by simp, fun t ht => ?_, fun h0 => ?_, fun t ht => ?_⟩
    · simp only [List.mem_map, List.mem_range] at ht
      obtain ⟨i, hi', rfl⟩ := ht
      obtain ⟨A', C', _, _, _, _, c5, _⟩ := (key i).choose_spec hi'
      exact c5
    · have h0' : 0 < len := by simpa using h0
      obtain ⟨b, off, spot⟩ := y
      obtain ⟨A0, C0, k0, _⟩ := (key 0).choose_spec h0'
      have hs : spot = none := by simpa [Addr.add] using World.cell?_spot k0
      subst hs
      refine ⟨b, off, rfl, trivial, fun i hil => ?_⟩
      have hil' : i < len := by simpa using hil
      obtain ⟨A', C', c1, c2, c3, c4, c5, c6, -⟩ := (key i).choose_spec hil'
      refine ⟨A', C', ?_, ?_, ?_, ?_, ?_⟩
      · have := (congrArg w.cell? (addr_add b off (i * 4)).symm).trans c1; simpa using this
      · have := (congrArg w.cell? (addr_add b off (i * 4 + 1)).symm).trans c2; simpa [Nat.add_assoc] using this
      · have := (congrArg w.cell? (addr_add b off (i * 4 + 2)).symm).trans c3; simpa [Nat.add_assoc] using this
      · have := (congrArg w.cell? (addr_add b off (i * 4 + 3)).symm).trans c4; simpa [Nat.add_assoc] using this
      · simpa using c6
    · simp only [List.mem_map, List.mem_range] at ht
      obtain ⟨i, hi', rfl⟩ := ht
      obtain ⟨A', C', _, _, _, _, _, _, c7⟩ := (key i).choose_spec hi'
      exact c7
set_option maxRecDepth 100000 in
theorem open_rdZW {cs : List Value} {x : DataW H × List MemPlace} (h : DataW.trod enc Try.prog w base (fun _ => true) held fuel 23 cs = some x) :
    ∃ (a : Option Addr) (cap : Nat) (l : List Int), cs = [.slice a l.length cap] ∧ l.length ≤ cap ∧ cap ≤ maxLen ∧ (a = none → l.length = 0 ∧ cap = 0) ∧ RdZ w a l (fun _ => True) ∧ ∀ x ∈ l, wfZ x := by
  rcases open_ints Try.underlying23 Try.underlying3 (by kernel_rfl) h with ⟨hcs, _⟩ | ⟨y, l, c, zs, hcs, _, hl, hm, hz, _, hcell, hwz⟩
  · exact ⟨none, 0, [], hcs, Nat.le_refl _, by decide, fun _ => ⟨rfl, rfl⟩, RdZ.empty _ _ _, fun x hx => by cases hx⟩
  · have hz' : zs.length = c := by simpa using hz
    refine ⟨some y, c, (List.range l).map fun i => zs.getD i 0, by simpa using hcs, by simpa using hl, hm, (fun h => by cases h), fun h0 => ?_, (by
      intro x hx
      simp only [List.mem_map, List.mem_range] at hx
      obtain ⟨i, hi, rfl⟩ := hx
      have hin : i < zs.length := by omega
      rw [List.getD_eq_getElem?_getD, List.getElem?_eq_getElem hin]
      exact hwz _ (List.getElem_mem hin))⟩
    have h0' : 0 < l := by simpa using h0
    obtain ⟨b, off, spot⟩ := y
    have hs : spot = none := by simpa [Addr.add] using World.cell?_spot (hcell 0 (by omega))
    subst hs
    refine ⟨b, off, rfl, trivial, fun j hj => ?_⟩
    have hj' : j < l := by simpa using hj
    have hc := hcell j (by omega)
    rw [addr_add] at hc
    rw [hc]
    simp
set_option maxRecDepth 100000 in
theorem open_sealW {r : Reach} {b0 : Nat} {x : Value} {d : DataW H} {q : List MemPlace} (hv : Value.okWide Try.prog w r b0 25 x) (h : DataW.Trod enc Try.prog w base (fun _ => true) held 25 x d q) :
    ∃ (n i e p : Int) (a : Option Addr) (C : Nat) (l : List Int), x = .agg #[.int .i64 n, .int .i64 i, .int .i64 e, .int .i64 p, .slice a l.length C] ∧ l.length ≤ C ∧ C ≤ maxLen ∧ (a = none → l.length = 0 ∧ C = 0) ∧ RdZ w a l (fun _ => True) ∧ ∀ x ∈ l, wfZ x := by
  obtain ⟨cs, rfl, hsz⟩ := okWide_struct Try.underlying25 hv
  obtain ⟨v0, v1, v2, v3, v4, rfl⟩ := array5 (hsz.trans cellsSeal)
  obtain ⟨fuel, hf⟩ := h
  have hf' : DataW.trod enc Try.prog w base (fun _ => true) held fuel 25 [v0, v1, v2, v3, v4] = some (d, q) := by simpa [Value.cells] using hf
  clear hf
  obtain ⟨xs, m, _, _, h3, hxl, hf⟩ := DataW.trod_struct Try.underlying25 hf'
  have h0 := hf 0 _ rfl
  have h1 := hf 1 _ rfl
  have h2 := hf 2 _ rfl
  have h3 := hf 3 _ rfl
  have h4 := hf 4 _ rfl
  clear hf
  match xs, hxl with
  | [x0, x1, x2, x3, x4], _ =>
    have g0 : DataW.trod enc Try.prog w base (fun _ => true) held m 3 (([v0, v1, v2, v3, v4].drop 0).take (Try.prog.cellsOf 3)) = some x0 := h0
    have g1 : DataW.trod enc Try.prog w base (fun _ => true) held m 3 (([v0, v1, v2, v3, v4].drop 1).take (Try.prog.cellsOf 3)) = some x1 := h1
    have g2 : DataW.trod enc Try.prog w base (fun _ => true) held m 3 (([v0, v1, v2, v3, v4].drop 2).take (Try.prog.cellsOf 3)) = some x2 := h2
    have g3 : DataW.trod enc Try.prog w base (fun _ => true) held m 3 (([v0, v1, v2, v3, v4].drop 3).take (Try.prog.cellsOf 3)) = some x3 := h3
    have g4 : DataW.trod enc Try.prog w base (fun _ => true) held m 23 (([v0, v1, v2, v3, v4].drop 4).take (Try.prog.cellsOf 23)) = some x4 := h4
    rw [cellsIs] at g0 g1 g2 g3
    rw [cellsZs] at g4
    obtain ⟨n0, e0, -, -⟩ := DataW.trod_int (cs := [v0]) Try.underlying3 g0
    obtain ⟨n1, e1, -, -⟩ := DataW.trod_int (cs := [v1]) Try.underlying3 g1
    obtain ⟨n2, e2, -, -⟩ := DataW.trod_int (cs := [v2]) Try.underlying3 g2
    obtain ⟨n3, e3, -, -⟩ := DataW.trod_int (cs := [v3]) Try.underlying3 g3
    obtain ⟨a, C, l, e4, k1, k2, k3, k4, k5⟩ := open_rdZW (cs := [v4]) g4
    simp only [List.cons.injEq, and_true] at e0 e1 e2 e3 e4
    exact ⟨n0, n1, n2, n3, a, C, l, by rw [e0, e1, e2, e3, e4], k1, k2, k3, k4, k5⟩
end
end Go.Proofs.Ytnbfkihgloipiaa
