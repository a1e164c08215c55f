/- A row of numbers that a call owns and makes longer by append. No function of the program. -/
import Derived.Test.YtndofmoepjfnfaaDoorRdZ
import Derived.Laws.AppendOwn
import Derived.OwnWalk
namespace Go.Proofs.YtndofmoepjfnfaaDoor
open Go.RowKit

theorem infoI : (Tryd.prog.info? 3).map (fun i => (i.zero, i.size, i.bytes)) = some (some (.int .i64 0), 1, 8) := by kernel_rfl
theorem cellsZ_one {l : List Int} : ∀ u ∈ cellsZ l, u.oneCell' = true := by
  intro u hu
  simp only [cellsZ, List.mem_map] at hu
  obtain ⟨x, _, rfl⟩ := hu
  rfl
theorem cellsZ_some {l : List Int} {j : Nat} {u : Value} (h : (cellsZ l)[j]? = some u) : ∃ hj : j < l.length, u = .int .i64 l[j] := by
  obtain ⟨hj, e⟩ := List.getElem?_eq_some_iff.1 h
  have hj' : j < l.length := by rwa [cellsZ_len] at hj
  refine ⟨hj', ?_⟩
  rw [cellsZ_get hj'] at h
  exact (Option.some.inj h).symm
/-- v is a slice of the call's own that holds the numbers l -/
def OwnZ (w : World) (base : Nat) (v : Value) (l : List Int) : Prop := w.ownsRow base 3 1 v l.length (cellsZ l)
namespace OwnZ
variable {w w' : World} {base : Nat} {v : Value} {l : List Int}
theorem nil (w : World) (base : Nat) : OwnZ w base (.slice none 0 0) [] := World.ownsRow_nil _ _ _ _
theorem rd (h : OwnZ w base v l) : ∃ A C, v = .slice A l.length C ∧ l.length ≤ C ∧ C ≤ maxLen ∧ (A = none → l.length = 0 ∧ C = 0) ∧ RdZ w A l (base ≤ ·) := by
  rcases h.2 with ⟨rfl, h0⟩ | ⟨g, cap, cur, rfl, hb, hg, hnc, hcm, hs, ht⟩
  · have : l = [] := List.length_eq_zero_iff.1 h0
    subst this
    exact ⟨none, 0, rfl, Nat.le_refl _, by decide, fun _ => ⟨rfl, rfl⟩, RdZ.empty _ _ _⟩
  · refine ⟨_, cap, rfl, hnc, hcm, (fun h => by cases h), fun _ => ⟨g, 0, rfl, hb, fun j hj => ?_⟩⟩
    have hx := cellsZ_get hj
    rw [← ht, List.getElem?_take, if_pos (by omega), Array.getElem?_toList] at hx
    simp [World.cell?, hg, hx]
theorem lo (h : OwnZ w base v l) : ∀ k, v.ownBlock = some k → base ≤ k := fun k hk => (World.ownsRow.lt h k hk).1
theorem lt (h : OwnZ w base v l) : ∀ k, v.ownBlock = some k → k < w.heap.size := fun k hk => (World.ownsRow.lt h k hk).2
theorem of_block (h : OwnZ w base v l) (hb : ∀ k, v.ownBlock = some k → w'.heap[k]? = w.heap[k]?) : OwnZ w' base v l := by
  refine ⟨h.1, ?_⟩
  rcases h.2 with h0 | ⟨g, cap, cur, rfl, hb', hg, hr⟩
  · exact .inl h0
  · exact .inr ⟨g, cap, cur, rfl, hb', (hb g rfl).trans hg, hr⟩
theorem kp {S : Nat → Prop} (h : OwnZ w base v l) (hk : Kp S w w') (hs : ∀ k, v.ownBlock = some k → ¬ S k) : OwnZ w' base v l :=
  h.of_block fun k e => hk.block k (h.lt k e) (hs k e)
end OwnZ
theorem apZ_run (w : World) (base : Nat) (v : Value) (l : List Int) (hown : OwnZ w base v l) (ad : Addr) (m c : Nat) (l' : List Int) (G : Nat → Prop) (hm : l'.length = m) (hr : RdZ w (some ad) l' G) (hb : (l.length + m) * 8 ≤ 140737488355328) (hbase : base ≤ w.heap.size) (n : Nat) (hn : n = l.length + m) :
    ∃ A' C' w', (∀ ty, (Builtin.append_ #[41, 41] ty #[v, .slice (some ad) m c]).run Tryd.prog w = .ok (.slice A' n C') w') ∧ OwnZ w' base (.slice A' n C') (l ++ l') ∧ w.grownBy w' v.ownBlock := by
  obtain ⟨i0, hi, hz0, hz1, hz2⟩ := info_parts infoI
  have hnews : ∀ j u, (cellsZ l')[j]? = some u → w.cell? (ad.add j) = some u := fun j u hu => by
    obtain ⟨hj, rfl⟩ := cellsZ_some hu
    obtain ⟨b, off, e, _, hc⟩ := hr (by omega)
    cases e
    rw [addr_add]; exact hc j hj
  obtain ⟨v', w', h1, h2, h3, _⟩ := run_append_own (P := Tryd.prog) w base 41 3 3 i0 (.int .i64 0) 1 8 Tryd.underlying41 hi hz0 hz1 hz2 rfl (by decide) v l.length (cellsZ l) hown ad m c (cellsZ l') (by rw [cellsZ_len, hm, Nat.mul_one]) hnews cellsZ_one (by unfold maxLen; omega) (by omega) hbase
  have h2' : OwnZ w' base v' (l ++ l') := by unfold OwnZ; rw [cellsZ_append, List.length_append, hm]; exact h2
  obtain ⟨A', C', rfl, _, _, _, _⟩ := h2'.rd
  have e : (l ++ l').length = n := by rw [List.length_append, hm, hn]
  refine ⟨A', C', w', fun ty => by rw [← e]; exact h1, ?_, h3⟩
  rw [← e]; exact h2'
end Go.Proofs.YtndofmoepjfnfaaDoor
