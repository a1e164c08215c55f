/- The files that a law lays, of two paths, versions and serials rising: what they say. No program. -/
import Derived.Test.YtjhbmijdpcbbiaaLsMath
namespace Go.Proofs.Ytjhbmijdpcbbiaa.Ls
open Pt (Tx)

theorem fold_none {keep : Ct.F → Bool} {num : Ct.F → Int} : ∀ {l : List Ct.F} {a : Option Ct.F}, (∀ f ∈ l, keep f = false) → l.foldl (pick keep num) a = a
  | [], _, _ => rfl
  | f :: l, a, h => by
    have e : pick keep num a f = a := by unfold pick; rw [if_neg (by rw [h f List.mem_cons_self]; decide)]
    rw [List.foldl_cons, e]
    exact fold_none fun g hg => h g (List.mem_cons_of_mem _ hg)
theorem best_append (keep : Ct.F → Bool) (num : Ct.F → Int) (l r : List Ct.F) : best keep num (l ++ r) = r.foldl (pick keep num) (best keep num l) := by unfold best; rw [List.foldl_append]
theorem map_succ (f : Nat → Ct.F) (i : Nat) : (List.range (i + 1)).map f = (List.range i).map f ++ [f i] := by rw [List.range_succ, List.map_append]; rfl
/-- of a rising row the last -/
theorem best_up {keep : Ct.F → Bool} {num : Ct.F → Int} {f : Nat → Ct.F} {a : Option Ct.F} (hk : ∀ j, keep (f j) = true) (ha : ∀ g, a = some g → num g < num (f 0)) (hu : ∀ j, num (f j) < num (f (j + 1))) : ∀ i, ((List.range (i + 1)).map f).foldl (pick keep num) a = some (f i)
  | 0 => by
    show pick keep num a (f 0) = _
    unfold pick
    rw [if_pos (hk 0)]
    cases a with
    | none => rfl
    | some g => show (if _ then _ else _) = _; rw [if_pos (ha g rfl)]
  | i + 1 => by
    rw [map_succ, List.foldl_append, best_up hk ha hu i]
    show pick keep num (some (f i)) (f (i + 1)) = _
    unfold pick
    rw [if_pos (hk _)]
    show (if _ then _ else _) = _
    rw [if_pos (hu i)]
/-- the law's own -/
def fa (n : Nat) (g : Bool) (i : Nat) : Ct.F := ⟨[97], (i : Int) + 1, 0, 0, 2 * (i : Int) + 1, g && decide (i = n), []⟩
def fb (i : Nat) : Ct.F := ⟨[98], (i : Int) + 1, 0, 0, 2 * (i : Int) + 2, false, []⟩
/-- n + 1 of the one path, of which the last may be gone, and m + 1 of the other -/
def laid (n m : Nat) (g : Bool) : List Ct.F := (List.range (n + 1)).map (fa n g) ++ (List.range (m + 1)).map fb
theorem best_a (n m : Nat) (g : Bool) : best (ofPath [97]) (fun f => f.version) (laid n m g) = some (fa n g n) := by
  unfold laid
  rw [best_append, fold_none]
  · unfold best
    exact best_up (fun _ => rfl) (fun _ h => by cases h) (fun j => by show (j : Int) + 1 < ((j + 1 : Nat) : Int) + 1; omega) n
  · intro f hf
    obtain ⟨j, -, rfl⟩ := List.mem_map.1 hf
    rfl
theorem best_b (n m : Nat) (g : Bool) : best (ofPath [98]) (fun f => f.version) (laid n m g) = some (fb m) := by
  unfold laid
  have e : best (ofPath [98]) (fun f => f.version) ((List.range (n + 1)).map (fa n g)) = none := by
    unfold best
    refine fold_none fun f hf => ?_
    obtain ⟨j, -, rfl⟩ := List.mem_map.1 hf
    rfl
  rw [best_append, e]
  exact best_up (fun _ => rfl) (fun _ h => by cases h) (fun j => by show (j : Int) + 1 < ((j + 1 : Nat) : Int) + 1; omega) m
theorem best_no {n m : Nat} {g : Bool} {p : Tx} (ha : p ≠ [97]) (hb : p ≠ [98]) : best (ofPath p) (fun f => f.version) (laid n m g) = none := by
  unfold laid best
  refine fold_none fun f hf => ?_
  rcases List.mem_append.1 hf with hf | hf
  · obtain ⟨j, -, rfl⟩ := List.mem_map.1 hf
    show ([97] == p) = false
    simp; exact fun e => ha e.symm
  · obtain ⟨j, -, rfl⟩ := List.mem_map.1 hf
    show ([98] == p) = false
    simp; exact fun e => hb e.symm
theorem next_a (n m : Nat) (g : Bool) : next (laid n m g) [97] = (n : Int) + 2 := by
  unfold next
  rw [best_a]
  show (n : Int) + 1 + 1 = _
  omega
theorem next_b (n m : Nat) (g : Bool) : next (laid n m g) [98] = (m : Int) + 2 := by
  unfold next
  rw [best_b]
  show (m : Int) + 1 + 1 = _
  omega
theorem next_c (n m : Nat) (g : Bool) : next (laid n m g) [99] = 1 := by
  unfold next
  rw [best_no (by decide) (by decide)]; rfl
theorem newest_a (n m : Nat) (g : Bool) : (newest (laid n m g) [97]).isSome = !g := by
  unfold newest
  rw [best_a]
  cases g with
  | false => rfl
  | true => show (live (some (fa n true n))).isSome = false; unfold live fa; simp
theorem newest_b (n m : Nat) (g : Bool) : (newest (laid n m g) [98]).isSome = true := by
  unfold newest
  rw [best_b]; rfl
theorem find_a (n m : Nat) (g : Bool) : (laid n m g).find? (fun f => ofPath [97] f && f.version == (n : Int) + 1) = some (fa n g n) := by
  unfold laid
  rw [map_succ, List.append_assoc, List.find?_append]
  have e : ((List.range n).map (fa n g)).find? (fun f => ofPath [97] f && f.version == (n : Int) + 1) = none := by
    rw [List.find?_eq_none]
    intro f hf
    obtain ⟨j, hj, rfl⟩ := List.mem_map.1 hf
    have := List.mem_range.1 hj
    show ¬ ((true && ((j : Int) + 1 == (n : Int) + 1)) = true)
    simp; omega
  rw [e, Option.none_or, List.singleton_append, List.find?_cons_of_pos]
  show (true && ((n : Int) + 1 == (n : Int) + 1)) = true
  simp
theorem get_a (n m : Nat) (g : Bool) : (get (laid n m g) [97] ((n : Int) + 1)).isSome = !g := by
  unfold get
  rw [if_neg (by omega), find_a]
  cases g with
  | false => rfl
  | true => show (live (some (fa n true n))).isSome = false; unfold live fa; simp
theorem names_laid (n m : Nat) (g : Bool) : names (laid n m g) = if g = true then [[98]] else [[97], [98]] := by
  refine names_of ?_ fun p => ?_
  · unfold Up; cases g <;> decide
  · by_cases ha : p = [97]
    · subst ha
      rw [newest_a]
      cases g <;> decide
    · by_cases hb : p = [98]
      · subst hb
        rw [newest_b]
        cases g <;> decide
      · have h : (newest (laid n m g) p).isSome = false := by
          unfold newest
          rw [best_no ha hb]; rfl
        rw [h]
        cases g <;> simp [ha, hb]
theorem best_ser {a : Ct.F} : ∀ i, ∃ h, ((List.range (i + 1)).map fb).foldl (pick (fun _ => true) (fun f => f.serial)) (some a) = some h ∧ h.serial = if a.serial < 2 * (i : Int) + 2 then 2 * (i : Int) + 2 else a.serial
  | 0 => by
    by_cases hlt : a.serial < 2
    · refine ⟨fb 0, ?_, ?_⟩
      · show pick (fun _ => true) (fun f => f.serial) (some a) (fb 0) = _
        unfold pick
        rw [if_pos rfl]
        exact if_pos (show a.serial < 2 * ((0 : Nat) : Int) + 2 by omega)
      · rw [if_pos (by omega)]; rfl
    · refine ⟨a, ?_, by rw [if_neg (by omega)]⟩
      show pick (fun _ => true) (fun f => f.serial) (some a) (fb 0) = _
      unfold pick
      rw [if_pos rfl]
      exact if_neg (show ¬ a.serial < 2 * ((0 : Nat) : Int) + 2 by omega)
  | i + 1 => by
    obtain ⟨h, e, hs⟩ := best_ser (a := a) i
    rw [map_succ, List.foldl_append, e]
    by_cases hlt : h.serial < 2 * ((i + 1 : Nat) : Int) + 2
    · refine ⟨fb (i + 1), ?_, ?_⟩
      · show pick (fun _ => true) (fun f => f.serial) (some h) (fb (i + 1)) = _
        unfold pick
        rw [if_pos rfl]
        exact if_pos hlt
      · rw [if_pos (by split at hs <;> omega)]; rfl
    · refine ⟨h, ?_, ?_⟩
      · show pick (fun _ => true) (fun f => f.serial) (some h) (fb (i + 1)) = _
        unfold pick
        rw [if_pos rfl]
        exact if_neg hlt
      · rw [hs]
        split at hs
        · rename_i h1; rw [if_pos h1]; rw [if_neg (by omega)]; omega
        · rename_i h1; rw [if_neg h1, if_neg (by omega)]
theorem serial_laid (n m : Nat) (g : Bool) : serial (laid n m g) = if n ≤ m then 2 * (m : Int) + 3 else 2 * (n : Int) + 2 := by
  unfold serial laid
  have e : best (fun _ => true) (fun f => f.serial) ((List.range (n + 1)).map (fa n g)) = some (fa n g n) := by
    unfold best
    exact best_up (fun _ => rfl) (fun _ h => by cases h) (fun j => by show 2 * (j : Int) + 1 < 2 * ((j + 1 : Nat) : Int) + 1; omega) n
  rw [best_append, e]
  obtain ⟨h, e2, hs⟩ := best_ser (a := fa n g n) m
  rw [e2]
  have hf : (fa n g n).serial = 2 * (n : Int) + 1 := rfl
  rw [hf] at hs
  show h.serial + 1 = _
  rw [hs]
  by_cases hnm : n ≤ m
  · rw [if_pos (by omega), if_pos hnm]; omega
  · rw [if_neg (by omega), if_neg hnm]; omega
end Go.Proofs.Ytjhbmijdpcbbiaa.Ls
