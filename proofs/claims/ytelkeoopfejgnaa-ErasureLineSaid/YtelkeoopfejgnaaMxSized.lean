/- What the form's own reach tells of a slice of rows of bytes that came in: no row is longer than a process's addresses. -/
import Derived.Test.YtelkeoopfejgnaaMxOpen
import Derived.SizedLaws
namespace Go.Proofs.Ytelkeoopfejgnaa
open Go.RowKit Mx Go.ChangeShapes Go.WideShapes

theorem weightsAll_mem {H : Type} {P : Program} {e : TypeId} {n : Nat} : ∀ {ds : List (DataW H)} {d : DataW H}, d ∈ ds → n ∈ d.weights P e → n ∈ DataW.weightsAll P e ds
  | d0 :: ds, d, hd, hn => by
    simp only [DataW.weightsAll, List.mem_append]
    rcases List.mem_cons.1 hd with rfl | hd
    · exact .inl hn
    · exact .inr (weightsAll_mem hd hn)
  | [], d, hd, _ => by cases hd
theorem sized_at {H : Type} {P : Program} {ts : List TypeId} {ds : List (DataW H)} (h : (DataW.weightsEach P ts ds).all (· ≤ reachBytes) = true) {j : Nat} {t : TypeId} {d : DataW H} (ht : ts[j]? = some t) (hd : ds[j]? = some d) : ∀ n ∈ d.weights P t, n ≤ reachBytes :=
  fun n hn => by simpa using List.all_eq_true.1 h n (DataW.weights_mem_each ht hd n hn)
theorem bytesOfByte : Try.prog.bytesOf 5 = 1 := by kernel_rfl
theorem reach_eq : reachBytes = 140737488351232 := rfl
section
variable {H : Type} {enc : TypeId × Value → H} {w : World} {base fuel : Nat} {held : Bool} {a : Option Addr} {len cap : Nat} {x : DataW H × List MemPlace}
/-- rows of bytes, none longer than the reach -/
theorem open_rdM_sized (h : DataW.trod enc Try.prog w base (fun _ => true) held fuel 22 (Value.slice a len cap).cells.toList = some x) (hz : ∀ n ∈ x.1.weights Try.prog 22, n ≤ reachBytes) :
    len ≤ maxLen ∧ ∃ L M, RdM w a len L M (fun _ => True) ∧ ∀ i, i < len → L i ≤ 140737488351232 := by
  rcases Go.Deep.open_int_rows Try.underlying22 Try.underlying34 Try.underlying5 (by kernel_rfl) (by kernel_rfl) h with ⟨hcs, _⟩ | ⟨y, l, c, A, L, C, Z, hcs, _, hl, hm, hx, hrow⟩
  · simp [Value.cells] at hcs
    obtain ⟨rfl, rfl, rfl⟩ := hcs
    exact ⟨by decide, fun _ => 0, fun _ _ => 0, RdM.empty _ _ _ _ _, fun i hi => absurd hi (by omega)⟩
  · simp [Value.cells] at hcs
    obtain ⟨rfl, rfl, rfl⟩ := hcs
    refine ⟨by omega, L, fun r c => feOf ((Z r).getD c 0), fun h0 => ?_, fun i hi => ?_⟩
    · obtain ⟨b, off, spot⟩ := y
      have hs : spot = none := by simpa [Addr.add] using World.cell?_spot (hrow 0 (by omega)).1
      subst hs
      refine ⟨b, off, rfl, trivial, fun i hi => ⟨A i, C i, ?_, ?_⟩⟩
      · have := (hrow i (by omega)).1
        by_cases e : i = 0
        · subst e; simpa [Addr.add] using this
        · simpa [Addr.add, e] using this
      · obtain ⟨_, r1, r2, r3, r4, r5, r6⟩ := hrow i (by omega)
        cases hA : A i with
        | none =>
          have := r5 hA
          intro h1; omega
        | some a' => exact rd_cells (by omega) r4 (fun c hc => (r6 a' hA).2 c (by omega))
    · obtain ⟨_, r1, r2, r3, r4, r5, r6⟩ := hrow i (by omega)
      cases hA : A i with
      | none => have := r5 hA; omega
      | some a' =>
        have h1 := hz (L i + (C i - L i)) (by
          rw [hx]
          simp only [DataW.weights, Try.underlying22, List.mem_cons, List.mem_append]
          refine .inr (.inl (weightsAll_mem (List.mem_map.2 ⟨i, List.mem_range.2 hi, rfl⟩) ?_))
          simp only [Go.Deep.intRow, hA, DataW.weights, Try.underlying34, List.mem_cons, bytesOfByte]
          left
          simp only [lits, List.length_map, List.length_take, List.length_drop, Nat.mul_one]
          omega)
        rw [reach_eq] at h1
        omega
end
end Go.Proofs.Ytelkeoopfejgnaa
