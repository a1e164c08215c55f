/- What the walk is told of a row of bytes, a row of numbers and a slice of rows of bytes that came in as arguments. -/
import Derived.Test.YtelkeoopfejgnaaRows
import Derived.Test.YtelkeoopfejgnaaMxMem
import Derived.OpenShut
import Derived.Deep.Matrix
namespace Go.Proofs.Ytelkeoopfejgnaa
open Go.RowKit Mx Go.ChangeShapes Go.WideShapes

/-- the element of a number that lies in a cell -/
def feOf (x : Int) : Fe := mk (x.toNat % 256) (Nat.mod_lt _ (by decide))
theorem fi_feOf {x : Int} (h : (Lit.int .u8 x).wf = true) : fi (feOf x) = x := by
  have h' := range_u8 (zs := [x]) (by simpa using h) 0
  simp at h'
  unfold fi feOf
  rw [nat_mk, Nat.mod_eq_of_lt (by omega)]; omega
theorem getD_wf {k : IntKind} {zs : List Int} (h : ∀ n ∈ zs, (Lit.int k n).wf = true) {c : Nat} (hc : c < zs.length) : (Lit.int k (zs.getD c 0)).wf = true := by
  rw [List.getD_eq_getElem?_getD, List.getElem?_eq_getElem hc]
  exact h _ (List.getElem_mem hc)
theorem rd_cells {w : World} {a : Addr} {n : Nat} {zs : List Int} (hn : n ≤ zs.length) (hw : ∀ x ∈ zs, (Lit.int .u8 x).wf = true) (hc : ∀ c, c < n → w.cell? (a.add c) = some (.int .u8 (zs.getD c 0))) :
    Rd w (some a) n (fun c => feOf (zs.getD c 0)) (fun _ => True) := by
  intro h0
  obtain ⟨b, off, spot⟩ := a
  have hs : spot = none := by simpa [Addr.add] using World.cell?_spot (hc 0 h0)
  subst hs
  refine ⟨b, off, rfl, trivial, fun j hj => ?_⟩
  have := hc j hj
  rw [fi_feOf (getD_wf hw (by omega))]
  by_cases e : j = 0
  · subst e; simpa [Addr.add] using this
  · simpa [Addr.add, e] using this
section
variable {H : Type} {enc : TypeId × Value → H} {w : World} {base fuel : Nat} {held : Bool} {a : Option Addr} {len cap : Nat} {x : DataW H × List MemPlace}
/-- a row of bytes -/
theorem open_rd (h : DataW.trod enc Try.prog w base (fun _ => true) held fuel 34 (Value.slice a len cap).cells.toList = some x) :
    len ≤ maxLen ∧ ∃ r, Rd w a len r (fun _ => True) := by
  rcases open_ints Try.underlying34 Try.underlying5 (by kernel_rfl) h with ⟨hcs, _⟩ | ⟨y, l, c, zs, hcs, _, hl, hm, hz, _, hcell, hwz⟩
  · simp [Value.cells] at hcs
    obtain ⟨rfl, rfl, rfl⟩ := hcs
    exact ⟨by decide, fun _ => 0, Rd.empty _ _ _ _⟩
  · simp [Value.cells] at hcs
    obtain ⟨rfl, rfl, rfl⟩ := hcs
    have hz' : zs.length = cap := by simpa using hz
    exact ⟨by omega, _, rd_cells (by omega) hwz (fun c hc => hcell c (by omega))⟩
/-- rows of bytes -/
theorem open_rdM (h : DataW.trod enc Try.prog w base (fun _ => true) held fuel 22 (Value.slice a len cap).cells.toList = some x) :
    len ≤ maxLen ∧ ∃ L M, RdM w a len L M (fun _ => True) := by
  rcases Go.Deep.open_int_rows Try.underlying22 Try.underlying34 Try.underlying5 (by kernel_rfl) (by kernel_rfl) h with ⟨hcs, _⟩ | ⟨y, l, c, A, L, C, Z, hcs, _, hl, hm, _, hrow⟩
  · simp [Value.cells] at hcs
    obtain ⟨rfl, rfl, rfl⟩ := hcs
    exact ⟨by decide, fun _ => 0, fun _ _ => 0, RdM.empty _ _ _ _ _⟩
  · simp [Value.cells] at hcs
    obtain ⟨rfl, rfl, rfl⟩ := hcs
    refine ⟨by omega, L, fun r c => feOf ((Z r).getD c 0), fun h0 => ?_⟩
    obtain ⟨b, off, spot⟩ := y
    have hs : spot = none := by simpa [Addr.add] using World.cell?_spot (hrow 0 (by omega)).1
    subst hs
    refine ⟨b, off, rfl, trivial, fun i hi => ⟨A i, C i, ?_, ?_⟩⟩
    · have := (hrow i (by omega)).1
      by_cases e : i = 0
      · subst e; simpa [Addr.add] using this
      · simpa [Addr.add, e] using this
    · obtain ⟨_, r1, r2, r3, r4, r5, r6⟩ := hrow i (by omega)
      cases hA : A i with
      | none =>
        have := r5 hA
        intro h1; omega
      | some a' => exact rd_cells (by omega) r4 (fun c hc => (r6 a' hA).2 c (by omega))
end
end Go.Proofs.Ytelkeoopfejgnaa
