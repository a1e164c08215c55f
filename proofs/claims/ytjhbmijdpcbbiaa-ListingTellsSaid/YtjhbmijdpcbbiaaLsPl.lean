/- Where among files the newest lies, how a row of them is gone through, and what a map of their paths tells. No program. -/
import Derived.Test.YtjhbmijdpcbbiaaLsMath
namespace Go.Proofs.Ytjhbmijdpcbbiaa.Ls
open Pt (Tx)

/-- the place of the first of the greatest among the first i -/
def pl (keep : Ct.F → Bool) (num : Ct.F → Int) (l : List Ct.F) : Nat → Option Nat
  | 0 => none
  | i + 1 => match l[i]? with
    | none => pl keep num l i
    | some f => if keep f = true then match pl keep num l i with
        | none => some i
        | some k => match l[k]? with
          | none => none
          | some g => if num g < num f then some i else some k
      else pl keep num l i
theorem pl_lt {keep : Ct.F → Bool} {num : Ct.F → Int} {l : List Ct.F} : ∀ {i k : Nat}, pl keep num l i = some k → k < i ∧ k < l.length
  | 0, k, h => by cases h
  | i + 1, k, h => by
    rw [pl] at h
    split at h
    · have := pl_lt h; omega
    · rename_i f hf
      have hi := (List.getElem?_eq_some_iff.1 hf).1
      split at h
      · split at h
        · cases h; exact ⟨Nat.lt_succ_self _, hi⟩
        · rename_i k' hk'
          have := pl_lt hk'
          split at h
          · cases h
          · split at h
            · cases h; exact ⟨Nat.lt_succ_self _, hi⟩
            · cases h; omega
      · have := pl_lt h; omega
/-- it is where the best lies -/
theorem best_pl {keep : Ct.F → Bool} {num : Ct.F → Int} {l : List Ct.F} : ∀ {i : Nat}, i ≤ l.length → best keep num (l.take i) = (pl keep num l i).bind fun k => l[k]?
  | 0, _ => rfl
  | i + 1, h => by
    have hi : i < l.length := h
    have ih := best_pl (keep := keep) (num := num) (Nat.le_of_lt hi)
    rw [best_take hi, pl, List.getElem?_eq_getElem hi]
    unfold pick
    by_cases hk : keep l[i] = true
    · rw [if_pos hk]
      simp only [if_pos hk]
      cases hp : pl keep num l i with
      | none =>
        rw [hp] at ih
        rw [ih]
        simp [List.getElem?_eq_getElem hi]
      | some k =>
        rw [hp] at ih
        have hkl := (pl_lt hp).2
        rw [ih]
        simp only [Option.bind_some, List.getElem?_eq_getElem hkl]
        by_cases hlt : num l[k] < num l[i]
        · simp only [if_pos hlt, Option.bind_some, List.getElem?_eq_getElem hi]
        · simp only [if_neg hlt, Option.bind_some, List.getElem?_eq_getElem hkl]
    · rw [if_neg hk]
      simp only [if_neg hk]
      exact ih
theorem pl_step {keep : Ct.F → Bool} {num : Ct.F → Int} {l : List Ct.F} {i : Nat} (hi : i < l.length) : pl keep num l (i + 1) = if keep l[i] = true then (match pl keep num l i with
    | none => some i
    | some k => match l[k]? with
      | none => none
      | some g => if num g < num l[i] then some i else some k) else pl keep num l i := by
  rw [pl, List.getElem?_eq_getElem hi]
theorem pl_skip {keep : Ct.F → Bool} {num : Ct.F → Int} {l : List Ct.F} {i : Nat} (hi : i < l.length) (hk : keep l[i] = false) : pl keep num l (i + 1) = pl keep num l i := by
  rw [pl_step hi, if_neg (by rw [hk]; decide)]
theorem pl_first {keep : Ct.F → Bool} {num : Ct.F → Int} {l : List Ct.F} {i : Nat} (hi : i < l.length) (hk : keep l[i] = true) (hp : pl keep num l i = none) : pl keep num l (i + 1) = some i := by
  rw [pl_step hi, if_pos hk, hp]
theorem pl_more {keep : Ct.F → Bool} {num : Ct.F → Int} {l : List Ct.F} {i k : Nat} (hi : i < l.length) (hk : keep l[i] = true) (hp : pl keep num l i = some k) (hkl : k < l.length) (hlt : num l[k] < num l[i]) : pl keep num l (i + 1) = some i := by
  rw [pl_step hi, if_pos hk, hp]
  simp only [List.getElem?_eq_getElem hkl, if_pos hlt]
theorem pl_less {keep : Ct.F → Bool} {num : Ct.F → Int} {l : List Ct.F} {i k : Nat} (hi : i < l.length) (hk : keep l[i] = true) (hp : pl keep num l i = some k) (hkl : k < l.length) (hlt : ¬ num l[k] < num l[i]) : pl keep num l (i + 1) = some k := by
  rw [pl_step hi, if_pos hk, hp]
  simp only [List.getElem?_eq_getElem hkl, if_neg hlt]
/-- of all -/
theorem best_all (keep : Ct.F → Bool) (num : Ct.F → Int) (l : List Ct.F) : best keep num l = (pl keep num l l.length).bind fun k => l[k]? := by
  have := best_pl (keep := keep) (num := num) (l := l) (Nat.le_refl _)
  rwa [List.take_length] at this
theorem best_none {keep : Ct.F → Bool} {num : Ct.F → Int} {l : List Ct.F} (h : pl keep num l l.length = none) : best keep num l = none := by rw [best_all, h]; rfl
theorem best_at {keep : Ct.F → Bool} {num : Ct.F → Int} {l : List Ct.F} {k : Nat} (h : pl keep num l l.length = some k) (hk : k < l.length) : best keep num l = some l[k] := by rw [best_all, h, Option.bind_some, List.getElem?_eq_getElem hk]
/-- a place as a number: below 0, none -/
def pz : Option Nat → Int
  | none => -1
  | some k => k
/-- the greatest number met -/
def top (num : Ct.F → Int) (l : List Ct.F) (a : Int) : Nat → Int
  | 0 => a
  | i + 1 => match l[i]? with
    | none => top num l a i
    | some f => max (top num l a i) (num f)
theorem top_step {num : Ct.F → Int} {l : List Ct.F} {a : Int} {i : Nat} (hi : i < l.length) : top num l a (i + 1) = max (top num l a i) (num l[i]) := by rw [top, List.getElem?_eq_getElem hi]
theorem best_top {num : Ct.F → Int} {l : List Ct.F} {f : Ct.F} (hf : l[0]? = some f) : ∀ {i : Nat}, i ≤ l.length → 0 < i → ∃ g, best (fun _ => true) num (l.take i) = some g ∧ num g = top num l (num f) i
  | 0, _, h => absurd h (by omega)
  | 1, h, _ => by
    obtain ⟨h0, rfl⟩ := List.getElem?_eq_some_iff.1 hf
    refine ⟨l[0], ?_, ?_⟩
    · rw [best_take h0]; rfl
    · rw [top_step h0]; show _ = max (num l[0]) (num l[0]); omega
  | i + 2, h, _ => by
    obtain ⟨g, hg, hn⟩ := best_top (i := i + 1) hf (by omega) (by omega)
    have hi : i + 1 < l.length := h
    rw [best_take hi, hg, top_step hi, ← hn]
    unfold pick
    rw [if_pos rfl]
    show ∃ g_1, (if num g < num l[i + 1] then some l[i + 1] else some g) = some g_1 ∧ _
    by_cases hlt : num g < num l[i + 1]
    · rw [if_pos hlt]; exact ⟨_, rfl, by omega⟩
    · rw [if_neg hlt]; exact ⟨_, rfl, by omega⟩
theorem serial_top {l : List Ct.F} {f : Ct.F} (hf : l[0]? = some f) : serial l = top (fun f => f.serial) l f.serial l.length + 1 := by
  have h0 := (List.getElem?_eq_some_iff.1 hf).1
  obtain ⟨g, hg, hn⟩ := best_top (num := fun f => f.serial) hf (Nat.le_refl _) h0
  rw [List.take_length] at hg
  unfold serial
  rw [hg]
  show g.serial + 1 = _
  rw [← hn]
theorem top_le {num : Ct.F → Int} {l : List Ct.F} {a b : Int} (ha : a ≤ b) (h : ∀ f ∈ l, num f ≤ b) : ∀ i, top num l a i ≤ b
  | 0 => ha
  | i + 1 => by
    rw [top]
    have := top_le ha h i
    split
    · exact this
    · rename_i f hf
      have := h f (List.mem_of_getElem? hf)
      omega
theorem top_ge {num : Ct.F → Int} {l : List Ct.F} {a b : Int} (ha : b ≤ a) : ∀ i, b ≤ top num l a i
  | 0 => ha
  | i + 1 => by
    rw [top]
    have := top_ge (num := num) (l := l) ha i
    split
    · exact this
    · omega
/-- what a map of the paths tells behind i of the files -/
def told (l : List Ct.F) (i : Nat) (p : Tx) : Option Nat := pl (ofPath p) (fun f => f.version) l i
theorem told_zero (l : List Ct.F) (p : Tx) : told l 0 p = none := rfl
theorem ofPath_iff {p : Tx} {f : Ct.F} : ofPath p f = true ↔ f.path = p := by unfold ofPath; simp
theorem told_other {l : List Ct.F} {i : Nat} (hi : i < l.length) {p : Tx} (hp : p ≠ l[i].path) : told l (i + 1) p = told l i p :=
  pl_skip hi (by cases h : ofPath p l[i] with | false => rfl | true => exact absurd (ofPath_iff.1 h).symm hp)
theorem told_new {l : List Ct.F} {i : Nat} (hi : i < l.length) (h : told l i l[i].path = none) : told l (i + 1) l[i].path = some i := pl_first hi (ofPath_iff.2 rfl) h
theorem told_more {l : List Ct.F} {i k : Nat} (hi : i < l.length) (h : told l i l[i].path = some k) (hk : k < l.length) (hlt : l[k].version < l[i].version) : told l (i + 1) l[i].path = some i := pl_more hi (ofPath_iff.2 rfl) h hk hlt
theorem told_less {l : List Ct.F} {i k : Nat} (hi : i < l.length) (h : told l i l[i].path = some k) (hk : k < l.length) (hlt : ¬ l[k].version < l[i].version) : told l (i + 1) l[i].path = some k := pl_less hi (ofPath_iff.2 rfl) h hk hlt
theorem newest_none {l : List Ct.F} {p : Tx} (h : told l l.length p = none) : newest l p = none := by unfold newest; rw [best_none h]; rfl
theorem newest_at {l : List Ct.F} {p : Tx} {k : Nat} (h : told l l.length p = some k) (hk : k < l.length) : newest l p = if l[k].gone = true then none else some l[k] := by unfold newest; rw [best_at h hk]; rfl
theorem next_none {l : List Ct.F} {p : Tx} (h : told l l.length p = none) : next l p = 1 := by unfold next; rw [best_none h]; rfl
theorem next_at {l : List Ct.F} {p : Tx} {k : Nat} (h : told l l.length p = some k) (hk : k < l.length) : next l p = l[k].version + 1 := by unfold next; rw [best_at h hk]; rfl
theorem told_path {l : List Ct.F} {p : Tx} : ∀ {i k : Nat} (_ : told l i p = some k) (hk : k < l.length), l[k].path = p
  | 0, _, h, _ => by cases h
  | i + 1, k, h, hk => by
    by_cases hi : i < l.length
    · by_cases hp : p = l[i].path
      · subst hp
        cases ht : told l i l[i].path with
        | none => rw [told_new hi ht] at h; cases h; rfl
        | some q =>
          have hq := (pl_lt ht).2
          by_cases hlt : l[q].version < l[i].version
          · rw [told_more hi ht hq hlt] at h; cases h; rfl
          · rw [told_less hi ht hq hlt] at h; cases h; exact told_path ht hq
      · rw [told_other hi hp] at h; exact told_path h hk
    · have e : told l (i + 1) p = told l i p := by unfold told; rw [pl, List.getElem?_eq_none (by omega)]
      rw [e] at h; exact told_path h hk
/-- has the path a newest file -/
theorem newest_isSome {l : List Ct.F} {p : Tx} : (newest l p).isSome = true ↔ ∃ k, ∃ hk : k < l.length, told l l.length p = some k ∧ l[k].gone = false := by
  constructor
  · intro h
    cases ht : told l l.length p with
    | none => rw [newest_none ht] at h; cases h
    | some k =>
      have hk := (pl_lt ht).2
      rw [newest_at ht hk] at h
      cases hg : l[k].gone with
      | true => rw [hg] at h; cases h
      | false => exact ⟨k, hk, rfl, hg⟩
  · rintro ⟨k, hk, ht, hg⟩
    rw [newest_at ht hk, hg]; rfl
/-- the paths that a map's keys give, whatever their order: sorted they are the names -/
theorem names_sorted {l : List Ct.F} {ss : List Tx} (hn : ss.Nodup) (hm : ∀ p, p ∈ ss ↔ (newest l p).isSome = true) : ss.mergeSort (fun x y => decide (x ≤ y)) = names l := by
  have tr : ∀ a b c : Tx, decide (a ≤ b) = true → decide (b ≤ c) = true → decide (a ≤ c) = true := fun a b c h1 h2 => by
    simp only [decide_eq_true_eq] at *; exact List.le_trans h1 h2
  have to : ∀ a b : Tx, (decide (a ≤ b) || decide (b ≤ a)) = true := fun a b => by
    simp only [Bool.or_eq_true, decide_eq_true_eq]; exact List.le_total a b
  have hs := List.pairwise_mergeSort tr to ss
  have hp := List.mergeSort_perm ss (fun x y => decide (x ≤ y))
  have hd : (ss.mergeSort fun x y => decide (x ≤ y)).Nodup := hp.nodup_iff.2 hn
  refine (names_of ?_ fun p => ?_).symm
  · refine (hs.and hd).imp fun {a b} h => ?_
    have h1 : a ≤ b := by simpa using h.1
    by_cases hlt : a < b
    · exact hlt
    · exact absurd (List.le_antisymm h1 (List.not_lt.1 hlt)) h.2
  · rw [← hm p]; exact hp.mem_iff
end Go.Proofs.Ytjhbmijdpcbbiaa.Ls
