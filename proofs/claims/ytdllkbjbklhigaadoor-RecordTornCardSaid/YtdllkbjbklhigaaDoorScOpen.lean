/- What the walk is told of a seal that came in as an argument. -/
import Derived.Test.YtdllkbjbklhigaaDoorScWords
import Derived.Test.YtdllkbjbklhigaaDoorByOpen
import Derived.Lib.SmallJoins
namespace Go.Proofs.YtdllkbjbklhigaaDoor
open Go.RowKit Mx Go.ChangeShapes Go.WideShapes Go.Joins
open Pt (Tx)

theorem array5 {α : Type} {cs : Array α} (h : cs.size = 5) : ∃ c0 c1 c2 c3 c4, cs = #[c0, c1, c2, c3, c4] := by
  obtain ⟨l⟩ := cs
  match l, h with
  | [c0, c1, c2, c3, c4], _ => exact ⟨c0, c1, c2, c3, c4, rfl⟩
theorem cellsSeal : Tryd.prog.cellsOf 37 = 5 := by kernel_rfl
theorem cellsIs : Tryd.prog.cellsOf 3 = 1 := by kernel_rfl
theorem cellsZs : Tryd.prog.cellsOf 35 = 1 := by kernel_rfl
section
variable {H : Type} {enc : TypeId × Value → H} {w : World} {base fuel : Nat} {held : Bool}
theorem open_rdZ {cs : List Value} {x : DataW H × List MemPlace} (h : DataW.trod enc Tryd.prog w base (fun _ => true) held fuel 35 cs = some x) :
    ∃ (a : Option Addr) (cap : Nat) (l : List Int), cs = [.slice a l.length cap] ∧ l.length ≤ cap ∧ cap ≤ maxLen ∧ (a = none → l.length = 0 ∧ cap = 0) ∧ RdZ w a l (fun _ => True) := by
  rcases open_ints Tryd.underlying35 Tryd.underlying3 (by kernel_rfl) h with ⟨hcs, _⟩ | ⟨y, l, c, zs, hcs, _, hl, hm, hz, _, hcell, hwz⟩
  · exact ⟨none, 0, [], hcs, Nat.le_refl _, by decide, fun _ => ⟨rfl, rfl⟩, RdZ.empty _ _ _⟩
  · have hz' : zs.length = c := by simpa using hz
    refine ⟨some y, c, (List.range l).map fun i => zs.getD i 0, by simpa using hcs, by simpa using hl, hm, (fun h => by cases h), fun h0 => ?_⟩
    have h0' : 0 < l := by simpa using h0
    obtain ⟨b, off, spot⟩ := y
    have hs : spot = none := by simpa [Addr.add] using World.cell?_spot (hcell 0 (by omega))
    subst hs
    refine ⟨b, off, rfl, trivial, fun j hj => ?_⟩
    have hj' : j < l := by simpa using hj
    have hc := hcell j (by omega)
    rw [addr_add] at hc
    rw [hc]
    simp
theorem open_seal {r : Reach} {b0 : Nat} {x : Value} {d : DataW H} {q : List MemPlace} (hv : Value.okWide Tryd.prog w r b0 37 x) (h : DataW.Trod enc Tryd.prog w base (fun _ => true) held 37 x d q) :
    ∃ (n i e p : Int) (a : Option Addr) (C : Nat) (l : List Int), x = .agg #[.int .i64 n, .int .i64 i, .int .i64 e, .int .i64 p, .slice a l.length C] ∧ l.length ≤ C ∧ C ≤ maxLen ∧ (a = none → l.length = 0 ∧ C = 0) ∧ RdZ w a l (fun _ => True) := by
  obtain ⟨cs, rfl, hsz⟩ := okWide_struct Tryd.underlying37 hv
  obtain ⟨v0, v1, v2, v3, v4, rfl⟩ := array5 (hsz.trans cellsSeal)
  obtain ⟨fuel, hf⟩ := h
  have hf' : DataW.trod enc Tryd.prog w base (fun _ => true) held fuel 37 [v0, v1, v2, v3, v4] = some (d, q) := by simpa [Value.cells] using hf
  clear hf
  obtain ⟨xs, m, _, _, h3, hxl, hf⟩ := DataW.trod_struct Tryd.underlying37 hf'
  have h0 := hf 0 _ rfl
  have h1 := hf 1 _ rfl
  have h2 := hf 2 _ rfl
  have h3 := hf 3 _ rfl
  have h4 := hf 4 _ rfl
  clear hf
  match xs, hxl with
  | [x0, x1, x2, x3, x4], _ =>
    have g0 : DataW.trod enc Tryd.prog w base (fun _ => true) held m 3 (([v0, v1, v2, v3, v4].drop 0).take (Tryd.prog.cellsOf 3)) = some x0 := h0
    have g1 : DataW.trod enc Tryd.prog w base (fun _ => true) held m 3 (([v0, v1, v2, v3, v4].drop 1).take (Tryd.prog.cellsOf 3)) = some x1 := h1
    have g2 : DataW.trod enc Tryd.prog w base (fun _ => true) held m 3 (([v0, v1, v2, v3, v4].drop 2).take (Tryd.prog.cellsOf 3)) = some x2 := h2
    have g3 : DataW.trod enc Tryd.prog w base (fun _ => true) held m 3 (([v0, v1, v2, v3, v4].drop 3).take (Tryd.prog.cellsOf 3)) = some x3 := h3
    have g4 : DataW.trod enc Tryd.prog w base (fun _ => true) held m 35 (([v0, v1, v2, v3, v4].drop 4).take (Tryd.prog.cellsOf 35)) = some x4 := h4
    rw [cellsIs] at g0 g1 g2 g3
    rw [cellsZs] at g4
    obtain ⟨n0, e0, -, -⟩ := DataW.trod_int (cs := [v0]) Tryd.underlying3 g0
    obtain ⟨n1, e1, -, -⟩ := DataW.trod_int (cs := [v1]) Tryd.underlying3 g1
    obtain ⟨n2, e2, -, -⟩ := DataW.trod_int (cs := [v2]) Tryd.underlying3 g2
    obtain ⟨n3, e3, -, -⟩ := DataW.trod_int (cs := [v3]) Tryd.underlying3 g3
    obtain ⟨a, C, l, e4, k1, k2, k3, k4⟩ := open_rdZ (cs := [v4]) g4
    simp only [List.cons.injEq, and_true] at e0 e1 e2 e3 e4
    exact ⟨n0, n1, n2, n3, a, C, l, by rw [e0, e1, e2, e3, e4], k1, k2, k3, k4⟩
end
end Go.Proofs.YtdllkbjbklhigaaDoor
