/- What the walk is told of a head that came in as an argument. -/
import Derived.Test.YtjhbmijdpcbbiaaRcMath
import Derived.Test.YtjhbmijdpcbbiaaBlWords
import Derived.Lib.SmallJoins
namespace Go.Proofs.Ytjhbmijdpcbbiaa
open Go.RowKit Mx Go.ChangeShapes Go.WideShapes Go.Joins
open Pt (Tx)

theorem array8 {α : Type} {cs : Array α} (h : cs.size = 8) : ∃ c0 c1 c2 c3 c4 c5 c6 c7, cs = #[c0, c1, c2, c3, c4, c5, c6, c7] := by
  obtain ⟨l⟩ := cs
  match l, h with
  | [c0, c1, c2, c3, c4, c5, c6, c7], _ => exact ⟨c0, c1, c2, c3, c4, c5, c6, c7, rfl⟩
theorem cellsHead : Try.prog.cellsOf 43 = 8 := by kernel_rfl
theorem cellsI : Try.prog.cellsOf 3 = 1 := by kernel_rfl
theorem cellsS : Try.prog.cellsOf 9 = 1 := by kernel_rfl
theorem cellsB : Try.prog.cellsOf 4 = 1 := by kernel_rfl
section
variable {H : Type} {enc : TypeId × Value → H} {w : World} {base fuel : Nat} {held : Bool}
/-- the cells of a head -/
theorem head_cells {spare : Nat → Bool} {n : Nat} {v0 v1 v2 v3 v4 v5 v6 v7 : Value} {y : DataW H × List MemPlace} (h : DataW.trod enc Try.prog w base spare held n 43 [v0, v1, v2, v3, v4, v5, v6, v7] = some y) :
    ∃ (p : Tx) (v z f l s m : Int) (g : Bool), [v0, v1, v2, v3, v4, v5, v6, v7] = [.string (tx p), .int .i64 v, .int .i64 z, .int .i64 f, .int .i64 l, .int .i64 s, .int .i64 m, .bool g] ∧ p.length ≤ maxLen := by
  obtain ⟨xs, m, _, _, h3, hxl, hf⟩ := DataW.trod_struct Try.underlying43 h
  have h0 := hf 0 _ rfl
  have h1 := hf 1 _ rfl
  have h2 := hf 2 _ rfl
  have h3 := hf 3 _ rfl
  have h4 := hf 4 _ rfl
  have h5 := hf 5 _ rfl
  have h6 := hf 6 _ rfl
  have h7 := hf 7 _ rfl
  clear hf
  match xs, hxl with
  | [x0, x1, x2, x3, x4, x5, x6, x7], _ =>
    have g0 : DataW.trod enc Try.prog w base spare held m 9 (([v0, v1, v2, v3, v4, v5, v6, v7].drop 0).take (Try.prog.cellsOf 9)) = some x0 := h0
    have g1 : DataW.trod enc Try.prog w base spare held m 3 (([v0, v1, v2, v3, v4, v5, v6, v7].drop 1).take (Try.prog.cellsOf 3)) = some x1 := h1
    have g2 : DataW.trod enc Try.prog w base spare held m 3 (([v0, v1, v2, v3, v4, v5, v6, v7].drop 2).take (Try.prog.cellsOf 3)) = some x2 := h2
    have g3 : DataW.trod enc Try.prog w base spare held m 3 (([v0, v1, v2, v3, v4, v5, v6, v7].drop 3).take (Try.prog.cellsOf 3)) = some x3 := h3
    have g4 : DataW.trod enc Try.prog w base spare held m 3 (([v0, v1, v2, v3, v4, v5, v6, v7].drop 4).take (Try.prog.cellsOf 3)) = some x4 := h4
    have g5 : DataW.trod enc Try.prog w base spare held m 3 (([v0, v1, v2, v3, v4, v5, v6, v7].drop 5).take (Try.prog.cellsOf 3)) = some x5 := h5
    have g6 : DataW.trod enc Try.prog w base spare held m 3 (([v0, v1, v2, v3, v4, v5, v6, v7].drop 6).take (Try.prog.cellsOf 3)) = some x6 := h6
    have g7 : DataW.trod enc Try.prog w base spare held m 4 (([v0, v1, v2, v3, v4, v5, v6, v7].drop 7).take (Try.prog.cellsOf 4)) = some x7 := h7
    rw [cellsI] at g1 g2 g3 g4 g5 g6
    rw [cellsS] at g0
    rw [cellsB] at g7
    obtain ⟨p, e0, -, hp⟩ := DataW.trod_string (cs := [v0]) Try.underlying9 g0
    obtain ⟨n1, e1, -, -⟩ := DataW.trod_int (cs := [v1]) Try.underlying3 g1
    obtain ⟨n2, e2, -, -⟩ := DataW.trod_int (cs := [v2]) Try.underlying3 g2
    obtain ⟨n3, e3, -, -⟩ := DataW.trod_int (cs := [v3]) Try.underlying3 g3
    obtain ⟨n4, e4, -, -⟩ := DataW.trod_int (cs := [v4]) Try.underlying3 g4
    obtain ⟨n5, e5, -, -⟩ := DataW.trod_int (cs := [v5]) Try.underlying3 g5
    obtain ⟨n6, e6, -, -⟩ := DataW.trod_int (cs := [v6]) Try.underlying3 g6
    obtain ⟨b, e7, -⟩ := DataW.trod_bool (cs := [v7]) Try.underlying4 g7
    simp only [List.cons.injEq, and_true] at e0 e1 e2 e3 e4 e5 e6 e7
    refine ⟨p.data.toList, n1, n2, n3, n4, n5, n6, b, ?_, by rw [← tx_size, tx_eta]; exact hp⟩
    rw [tx_eta, e0, e1, e2, e3, e4, e5, e6, e7]
set_option maxRecDepth 4000 in
theorem open_head {r : Reach} {b0 : Nat} {x : Value} {d : DataW H} {q : List MemPlace} (hv : Value.okWide Try.prog w r b0 43 x) (h : DataW.Trod enc Try.prog w base (fun _ => true) held 43 x d q) :
    ∃ (p : Tx) (v z f l s m : Int) (g : Bool), x = .agg #[.string (tx p), .int .i64 v, .int .i64 z, .int .i64 f, .int .i64 l, .int .i64 s, .int .i64 m, .bool g] ∧ p.length ≤ maxLen := by
  obtain ⟨cs, rfl, hsz⟩ := okWide_struct Try.underlying43 hv
  obtain ⟨c0, c1, c2, c3, c4, c5, c6, c7, rfl⟩ := array8 (hsz.trans cellsHead)
  obtain ⟨fuel, hf⟩ := h
  have hf' : DataW.trod enc Try.prog w base (fun _ => true) held fuel 43 [c0, c1, c2, c3, c4, c5, c6, c7] = some (d, q) := by simpa [Value.cells] using hf
  obtain ⟨p, v, z, f, l, s, m, g, e, hp⟩ := head_cells hf'
  simp only [List.cons.injEq, and_true] at e
  obtain ⟨e0, e1, e2, e3, e4, e5, e6, e7⟩ := e
  exact ⟨p, v, z, f, l, s, m, g, by rw [e0, e1, e2, e3, e4, e5, e6, e7], hp⟩
end
end Go.Proofs.Ytjhbmijdpcbbiaa
