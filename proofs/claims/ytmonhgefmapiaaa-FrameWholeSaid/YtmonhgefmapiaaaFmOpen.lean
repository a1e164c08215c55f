/- What the walk is told of a unit that came in as an argument. -/
import Derived.Test.YtmonhgefmapiaaaRwOpen
namespace Go.Proofs.Ytmonhgefmapiaaa
open Go.RowKit Mx Go.ChangeShapes Go.WideShapes Go.Joins
open Pt (Tx)

theorem cellsUnit : Try.prog.cellsOf 24 = 4 := by kernel_rfl
section
variable {H : Type} {enc : TypeId × Value → H} {w : World} {base : Nat} {held : Bool}
theorem open_unit {r : Reach} {b0 : Nat} {v : Value} {d : DataW H} {p : List MemPlace} (hv : Value.okWide Try.prog w r b0 24 v) (h : DataW.Trod enc Try.prog w base (fun _ => true) held 24 v d p) :
    ∃ (k l n : Int) (a : Option Addr) (C : Nat) (t : Tx), v = .agg #[.int .i64 k, .int .i64 l, .int .i64 n, .slice a t.length C] ∧ t.length ≤ C ∧ (a = none → t.length = 0 ∧ C = 0) ∧ RdL w a t (fun _ => True) := by
  obtain ⟨v0, v1, v2, v3, y0, y1, y2, y3, m, rfl, _, _, h0, h1, h2, h3⟩ := open_agg4 Try.underlying24 (by kernel_rfl) cellsUnit hv h
  obtain ⟨k, e0, -, -⟩ := DataW.trod_int (cs := [v0]) Try.underlying3 h0
  obtain ⟨l, e1, -, -⟩ := DataW.trod_int (cs := [v1]) Try.underlying3 h1
  obtain ⟨n, e2, -, -⟩ := DataW.trod_int (cs := [v2]) Try.underlying3 h2
  obtain ⟨a, C, t, e3, k1, k2, k3⟩ := open_row8 (cs := [v3]) h3
  simp only [List.cons.injEq, and_true] at e0 e1 e2 e3
  exact ⟨k, l, n, a, C, t, by rw [e0, e1, e2, e3], k1, k2, k3⟩
end
end Go.Proofs.Ytmonhgefmapiaaa
