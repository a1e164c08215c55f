/- What the walk is told of a row of elements of several cells each that came in as an argument. No function of the program. -/
import Derived.Test.YtjhbmijdpcbbiaaStRow
import Derived.Lib.SmallJoins
import Derived.OpenShut
import Derived.Deep.Slices
import Derived.SizedLaws
namespace Go.Proofs.Ytjhbmijdpcbbiaa
open Go.RowKit Go.ChangeShapes Go.WideShapes Go.Joins

theorem weightsAll_memE {H : Type} {P : Program} {e : TypeId} {n : Nat} : ∀ {ds : List (DataW H)} {d : DataW H}, d ∈ ds → n ∈ d.weights P e → n ∈ DataW.weightsAll P e ds
  | d0 :: ds, d, hd, hn => by
    simp only [DataW.weightsAll, List.mem_append]
    rcases List.mem_cons.1 hd with rfl | hd
    · exact .inl hn
    · exact .inr (weightsAll_memE hd hn)
  | [], d, hd, _ => by cases hd
theorem sized_atE {H : Type} {P : Program} {ts : List TypeId} {ds : List (DataW H)} (h : (DataW.weightsEach P ts ds).all (· ≤ reachBytes) = true) {j : Nat} {t : TypeId} {d : DataW H} (ht : ts[j]? = some t) (hd : ds[j]? = some d) : ∀ n ∈ d.weights P t, n ≤ reachBytes :=
  fun n hn => by simpa using List.all_eq_true.1 h n (DataW.weights_mem_each ht hd n hn)
theorem reach_eqE : reachBytes = 140737488351232 := rfl
/-- what a struct's field weighs, the struct does -/
theorem weights_field {H : Type} {P : Program} {t : TypeId} {fs : Array Field} (ht : P.underlying t = some (.struct fs)) {ds : List (DataW H)} {j : Nat} {f : Field} {d : DataW H} (hf : fs[j]? = some f) (hd : ds[j]? = some d) {n : Nat} (hn : n ∈ d.weights P f.type) : n ∈ (DataW.agg ds).weights P t := by
  simp only [DataW.weights, ht]
  exact DataW.weights_mem_each (ts := fs.toList.map (·.type)) (by rw [List.getElem?_map, Array.getElem?_toList, hf]; rfl) hd n hn
section
variable {H : Type} {enc : TypeId × Value → H} {w : World} {base fuel : Nat} {held : Bool} {x : DataW H × List MemPlace}
/-- a row of elements, each of so many cells -/
theorem open_encs {P : Program} {α : Type} (E : Enc α) (Ok : α → Prop) {e T : TypeId} (hT : P.underlying T = some (.slice e)) (hk : P.cellsOf e = E.k)
    (one : ∀ n cs y, cs.length = E.k → DataW.trod enc P w base (fun _ => true) held n e cs = some y → (∀ n ∈ y.1.weights P e, n ≤ reachBytes) → ∃ q : α, cs = E.enc q ∧ Ok q)
    {cs : List Value} (h : DataW.trod enc P w base (fun _ => true) held fuel T cs = some x) (hz : ∀ n ∈ x.1.weights P T, n ≤ reachBytes) :
    ∃ (a : Option Addr) (C : Nat) (l : List α), cs = [.slice a l.length C] ∧ l.length ≤ C ∧ C ≤ maxLen ∧ (a = none → l.length = 0 ∧ C = 0) ∧ E.Rd w a l (fun _ => True) ∧ (∀ q ∈ l, Ok q) ∧ l.length * P.bytesOf e ≤ 140737488351232 := by
  rcases Go.Deep.open_slice hT h with ⟨hcs, _⟩ | ⟨y, len, c, m, n, D, Pl, hcs, hb, hl, hm, hmm, rfl, hi⟩
  · exact ⟨none, 0, [], hcs, Nat.le_refl _, by decide, fun _ => ⟨rfl, rfl⟩, Enc.Rd.nil _ _ _, (fun q hq => nomatch hq), by simp⟩
  · have hm' : m = c := by simpa using hmm
    have key : ∀ i : Fin len, ∃ q : α, Ok q ∧ ∀ j u, (E.enc q)[j]? = some u → w.cell? (y.add (i.1 * E.k + j)) = some u := by
      intro i
      have := i.2
      obtain ⟨cs', h1, h2⟩ := hi i.1 (by omega)
      rw [hk] at h1
      obtain ⟨_, h3, h4⟩ := World.cells?_some h1
      obtain ⟨q, rfl, hq⟩ := one n cs' _ (by first | exact h3 | exact h3.symm) h2 fun n' hn' => hz n' (by
        simp only [DataW.weights, hT, List.mem_cons, List.mem_append]
        exact .inr (.inl (weightsAll_memE (List.mem_map.2 ⟨i.1, List.mem_range.2 i.2, rfl⟩) hn')))
      refine ⟨q, hq, fun j u hu => ?_⟩
      have hj := (List.getElem?_eq_some_iff.1 hu).1
      rw [E.len] at hj
      have h5 := h4 j hj
      rw [Go.Deep.add_add] at h5
      rw [h5, hu]
    refine ⟨some y, c, List.ofFn fun i => (key i).choose, by rw [List.length_ofFn]; exact hcs, by rw [List.length_ofFn]; exact hl, hm, (fun h => by cases h), fun h0 => ?_, fun q hq => ?_, ?_⟩
    · rw [List.length_ofFn] at h0
      obtain ⟨b, off, spot⟩ := y
      have k0 := (key ⟨0, h0⟩).choose_spec.2
      have hp := E.pos
      have hlen := E.len (key ⟨0, h0⟩).choose
      have hs : spot = none := by
        have := k0 0 _ (List.getElem?_eq_getElem (by omega))
        simpa [Addr.add] using World.cell?_spot this
      subst hs
      refine ⟨b, off, rfl, trivial, fun i hi j u hu => ?_⟩
      rw [List.getElem_ofFn] at hu
      have := (key _).choose_spec.2 j u hu
      rw [addr_add] at this
      rw [Nat.add_assoc]
      exact this
    · obtain ⟨i, rfl⟩ := List.mem_ofFn.1 hq
      exact (key i).choose_spec.1
    · rw [List.length_ofFn]
      have h1 := hz ((len + (m - len)) * P.bytesOf e) (by
        simp only [DataW.weights, hT, List.mem_cons, List.length_map, List.length_range]
        exact .inl trivial)
      rw [reach_eqE] at h1
      exact Nat.le_trans (Nat.mul_le_mul_right _ (Nat.le_add_right _ _)) h1
end
end Go.Proofs.Ytjhbmijdpcbbiaa
