/- What the walk is told of bytes that came in as an argument, as a list. -/
import Derived.Test.YtdllkbjbklhigaaDoorBlWords
import Derived.Test.YtdllkbjbklhigaaDoorByOpen
import Derived.Deep.Slices
import Derived.Deep.Fields
namespace Go.Proofs.YtdllkbjbklhigaaDoor
open Go.RowKit Mx Go.ChangeShapes Go.WideShapes
open Pt (Tx)

section
variable {H : Type} {enc : TypeId × Value → H} {w : World} {base fuel : Nat} {held : Bool} {a : Option Addr} {len cap : Nat} {x : DataW H × List MemPlace}
/-- bytes, as a list -/
theorem open_rdL (h : DataW.trod enc Tryd.prog w base (fun _ => true) held fuel 24 (Value.slice a len cap).cells.toList = some x) :
    cap ≤ maxLen ∧ len ≤ cap ∧ (a = none → len = 0 ∧ cap = 0) ∧ ∃ l : Tx, l.length = len ∧ RdL w a l (fun _ => True) := by
  rcases open_ints Tryd.underlying24 Tryd.underlying5 (by kernel_rfl) h with ⟨hcs, _⟩ | ⟨y, l, c, zs, hcs, _, hl, hm, hz, _, hcell, hwz⟩
  · simp [Value.cells] at hcs
    obtain ⟨rfl, rfl, rfl⟩ := hcs
    exact ⟨by decide, Nat.le_refl _, fun _ => ⟨rfl, rfl⟩, [], rfl, RdL.empty _ _ _⟩
  · simp [Value.cells] at hcs
    obtain ⟨rfl, rfl, rfl⟩ := hcs
    have hz' : zs.length = cap := by simpa using hz
    refine ⟨hm, hl, (fun h => by cases h), (List.range len).map fun i => UInt8.ofNat (zs.getD i 0).toNat, by simp, fun h0 => ?_⟩
    simp at h0
    obtain ⟨b, off, spot⟩ := y
    have hs : spot = none := by simpa [Addr.add] using World.cell?_spot (hcell 0 (by omega))
    subst hs
    refine ⟨b, off, rfl, trivial, fun j hj => ?_⟩
    have hj' : j < len := by simpa using hj
    have hc := hcell j (by omega)
    rw [addr_add] at hc
    have hw := fi_feOf (getD_wf hwz (c := j) (by omega))
    rw [hc]
    have hr : 0 ≤ zs.getD j 0 ∧ zs.getD j 0 < 256 := by have h1 := fi_lo (feOf (zs.getD j 0)); have h2 := fi_hi (feOf (zs.getD j 0)); rw [hw] at h1 h2; exact ⟨h1, h2⟩
    simp only [List.getElem_map, List.getElem_range, UInt8.toNat_ofNat']
    rw [Nat.mod_eq_of_lt (show (zs.getD j 0).toNat < 2 ^ 8 by have := hr.2; have := hr.1; omega)]
    congr 2
    have := hr.1
    omega
end
end Go.Proofs.YtdllkbjbklhigaaDoor
