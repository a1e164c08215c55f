/- Names that are inserted one by one: what they are behind some of the files. No program. -/
import Derived.Test.YtjhbmijdpcbbiaaLsPl
namespace Go.Proofs.Ytjhbmijdpcbbiaa.Ls
open Pt (Tx)

/-- where a path comes among rising ones -/
theorem ins_at {p : Tx} : ∀ {l : List Tx} {k : Nat} (hk : k ≤ l.length) (_ : ∀ i (hi : i < k), l[i]'(by omega) < p) (_ : ∀ h : k < l.length, ¬ l[k] < p), ins p l = if h : k < l.length then (if l[k] = p then l else l.take k ++ p :: l.drop k) else l.take k ++ p :: l.drop k
  | [], k, hk, _, _ => by
    have h0 : k = 0 := by simpa using hk
    subst h0; rfl
  | a :: l, 0, _, _, h2 => by
    have h3 : ¬ a < p := h2 (by simp)
    rw [ins, if_neg h3]
    simp only [List.length_cons, Nat.zero_lt_succ, dite_true, List.getElem_cons_zero, List.take_zero, List.drop_zero, List.nil_append]
  | a :: l, k + 1, hk, h1, h2 => by
    have h3 : a < p := h1 0 (by omega)
    have ih := ins_at (p := p) (l := l) (k := k) (by simpa using hk) (fun i hi => by have := h1 (i + 1) (by omega); simpa using this) (fun h => by have := h2 (by simpa using h); simpa using this)
    rw [ins, if_pos h3, ih]
    by_cases h : k < l.length
    · rw [dif_pos h, dif_pos (by simpa using h)]
      simp only [List.getElem_cons_succ]
      by_cases e : l[k] = p
      · rw [if_pos e, if_pos e]
      · rw [if_neg e, if_neg e]; rfl
    · rw [dif_neg h, dif_neg (by simpa using h)]; rfl
/-- the names behind i of the files -/
def NmU (l : List Ct.F) (i : Nat) (os : List Tx) : Prop := Up os ∧ ∀ p, p ∈ os ↔ (∃ j, ∃ hj : j < l.length, j < i ∧ l[j].path = p) ∧ (newest l p).isSome = true
theorem NmU.start (l : List Ct.F) : NmU l 0 [] := ⟨List.Pairwise.nil, fun p => ⟨fun h => (nomatch h), fun h => by obtain ⟨⟨j, _, h, _⟩, _⟩ := h; omega⟩⟩
theorem NmU.skip {l : List Ct.F} {i : Nat} {os : List Tx} (h : NmU l i os) (hi : i < l.length) (hn : (newest l l[i].path).isSome = false) : NmU l (i + 1) os := by
  refine ⟨h.1, fun p => (h.2 p).trans ⟨fun hp => ?_, fun hp => ?_⟩⟩
  · obtain ⟨⟨j, hj, hlt, e⟩, hs⟩ := hp
    exact ⟨⟨j, hj, by omega, e⟩, hs⟩
  · obtain ⟨⟨j, hj, hlt, e⟩, hs⟩ := hp
    refine ⟨⟨j, hj, ?_, e⟩, hs⟩
    by_cases hji : j = i
    · subst hji; rw [e] at hn; rw [hs] at hn; cases hn
    · omega
theorem NmU.ins {l : List Ct.F} {i : Nat} {os : List Tx} (h : NmU l i os) (hi : i < l.length) (hn : (newest l l[i].path).isSome = true) : NmU l (i + 1) (Ls.ins l[i].path os) := by
  refine ⟨up_ins h.1, fun p => ?_⟩
  rw [mem_ins, h.2 p]
  constructor
  · rintro (rfl | ⟨⟨j, hj, hlt, e⟩, hs⟩)
    · exact ⟨⟨i, hi, by omega, rfl⟩, hn⟩
    · exact ⟨⟨j, hj, by omega, e⟩, hs⟩
  · rintro ⟨⟨j, hj, hlt, e⟩, hs⟩
    by_cases hji : j = i
    · subst hji; exact .inl e.symm
    · exact .inr ⟨⟨j, hj, by omega, e⟩, hs⟩
theorem NmU.done {l : List Ct.F} {os : List Tx} {n : Nat} (h : NmU l n os) (hn : n = l.length) : os = names l := by
  refine (names_of h.1 fun p => (h.2 p).trans ⟨fun hp => hp.2, fun hp => ⟨?_, hp⟩⟩).symm
  obtain ⟨f, hf, e⟩ := newest_there hp
  obtain ⟨j, hj, rfl⟩ := List.mem_iff_getElem.1 hf
  exact ⟨j, hj, by omega, e⟩
theorem ins_len (p : Tx) : ∀ l : List Tx, (ins p l).length ≤ l.length + 1
  | [] => Nat.le_refl _
  | a :: l => by
    rw [ins]
    have := ins_len p l
    split
    · simp only [List.length_cons]; omega
    · split <;> simp
end Go.Proofs.Ytjhbmijdpcbbiaa.Ls
