/- What the walk is told of a slice of strings and of a spot that came in as arguments. -/
import Derived.Test.YtdfialcaebjihaaDoorTxR
import Derived.Lib.SmallJoins
import Derived.SliceStrings
import Derived.SizedLaws
import Derived.ChangeSame
namespace Go.Proofs.YtdfialcaebjihaaDoor
open Go.RowKit Go.ChangeShapes Go.WideShapes
open Pt (Tx)

theorem weightsAll_mem {H : Type} {P : Program} {e : TypeId} {n : Nat} : ∀ {ds : List (DataW H)} {d : DataW H}, d ∈ ds → n ∈ d.weights P e → n ∈ DataW.weightsAll P e ds
  | d0 :: ds, d, hd, hn => by
    simp only [DataW.weightsAll, List.mem_append]
    rcases List.mem_cons.1 hd with rfl | hd
    · exact .inl hn
    · exact .inr (weightsAll_mem hd hn)
  | [], d, hd, _ => by cases hd
theorem sized_at {H : Type} {P : Program} {ts : List TypeId} {ds : List (DataW H)} (h : (DataW.weightsEach P ts ds).all (· ≤ reachBytes) = true) {j : Nat} {t : TypeId} {d : DataW H} (ht : ts[j]? = some t) (hd : ds[j]? = some d) : ∀ n ∈ d.weights P t, n ≤ reachBytes :=
  fun n hn => by simpa using List.all_eq_true.1 h n (DataW.weights_mem_each ht hd n hn)
theorem add_at (b off i : Nat) : (⟨b, off, none⟩ : Addr).add i = ⟨b, off + i, none⟩ := by unfold Addr.add; split <;> simp_all
section
variable {H : Type} {enc : TypeId × Value → H} {w : World} {base fuel : Nat} {held : Bool} {a : Option Addr} {len cap : Nat} {x : DataW H × List MemPlace}
theorem open_texts (h : DataW.trod enc Tryd.prog w base (fun _ => true) held fuel 22 (Value.slice a len cap).cells.toList = some x) (hz : ∀ n ∈ x.1.weights Tryd.prog 22, n ≤ reachBytes) :
    len ≤ maxLen ∧ ∃ ps : List Tx, ps.length = len ∧ TxR w a ps ∧ ∀ s ∈ ps, s.length ≤ 281474976710656 := by
  rcases open_strings Tryd.underlying22 Tryd.underlying9 (by kernel_rfl) h with ⟨hcs, _⟩ | ⟨y, l, c, ss, hcs, _, hl, hm, hss, hx, hcell, _⟩
  · simp [Value.cells] at hcs
    obtain ⟨rfl, rfl, rfl⟩ := hcs
    exact ⟨by decide, [], rfl, TxR.empty _ _, fun s h => by cases h⟩
  · simp [Value.cells] at hcs
    obtain ⟨rfl, rfl, rfl⟩ := hcs
    have hs' : ss.length = cap := by simpa using hss
    refine ⟨by omega, (ss.take len).map (·.data.toList), by simp; omega, fun h0 => ?_, fun s hs => ?_⟩
    · have h0' : 0 < len := by simp at h0; omega
      obtain ⟨b, off, spot⟩ := y
      have hsp : spot = none := by simpa [Addr.add] using World.cell?_spot (hcell 0 (by omega))
      subst hsp
      refine ⟨b, off, rfl, fun j p hp => ?_⟩
      have hj : j < len := by
        rcases Nat.lt_or_ge j len with h | h
        · exact h
        · rw [List.getElem?_eq_none (by simp; omega)] at hp; cases hp
      have := hcell j (by omega)
      rw [add_at] at this
      rw [this]
      simp [List.getElem?_map, hj, List.getElem?_eq_getElem (show j < ss.length by omega)] at hp
      rw [← hp, List.getD_eq_getElem?_getD, List.getElem?_eq_getElem (show j < ss.length by omega)]
      simp [tx_eta]
    · obtain ⟨z, hz1, rfl⟩ := List.mem_map.1 hs
      have h1 := hz (z.data.toList.length) (by
        rw [hx]
        simp only [DataW.weights, Tryd.underlying22, List.mem_cons, List.mem_append]
        exact .inr (.inl (weightsAll_mem (List.mem_map.2 ⟨z, hz1, rfl⟩) (by simp [DataW.weights]))))
      have e : reachBytes = 140737488351232 := rfl
      rw [e] at h1
      omega
end
set_option maxRecDepth 100000 in
theorem open_spot {H : Type} {enc : TypeId × Value → H} {w : World} {base b0 : Nat} {spare : Nat → Bool} {held : Bool} {r : Reach} {v : Value} {d : DataW H} {p : List MemPlace}
    (hv : Value.okWide Tryd.prog w r b0 25 v) (h : DataW.Trod enc Tryd.prog w base spare held 25 v d p) : ∃ l k : Int, v = .agg #[.int .i64 l, .int .i64 k] := by
  obtain ⟨v0, v1, y0, y1, n, rfl, _, _, t0, t1⟩ := Go.Joins.open_agg2 Tryd.underlying25 (by kernel_rfl) (by kernel_rfl) hv h
  obtain ⟨l, e0, -, -⟩ := DataW.trod_int (cs := [v0]) Tryd.underlying3 t0
  obtain ⟨k, e1, -, -⟩ := DataW.trod_int (cs := [v1]) Tryd.underlying3 t1
  simp only [List.cons.injEq, and_true] at e0 e1
  exact ⟨l, k, by rw [e0, e1]⟩
end Go.Proofs.YtdfialcaebjihaaDoor
