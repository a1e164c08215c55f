/- The first file of a path and a version: where it lies. No program. -/
import Derived.Test.YtjhbmijdpcbbiaaLsPl
namespace Go.Proofs.Ytjhbmijdpcbbiaa.Ls
open Pt (Tx)

def hit (p : Tx) (v : Int) (f : Ct.F) : Bool := ofPath p f && f.version == v
/-- none of the first i is it -/
def Miss (l : List Ct.F) (p : Tx) (v : Int) (i : Nat) : Prop := ∀ j (hj : j < l.length), j < i → hit p v l[j] = false
theorem Miss.zero (l : List Ct.F) (p : Tx) (v : Int) : Miss l p v 0 := fun j _ h => absurd h (by omega)
theorem Miss.step {l : List Ct.F} {p : Tx} {v : Int} {i : Nat} (h : Miss l p v i) (hi : i < l.length) (hn : hit p v l[i] = false) : Miss l p v (i + 1) := fun j hj hlt => by
  by_cases e : j = i
  · subst e; exact hn
  · exact h j hj (by omega)
theorem hit_of {p : Tx} {v : Int} {f : Ct.F} {b1 b2 : Bool} (h1 : (f.path == p) = b1) (h2 : (f.version == v) = b2) : hit p v f = (b1 && b2) := by unfold hit ofPath; rw [h1, h2]
theorem hit_mk (p : Tx) (V : Int) (P : Tx) (v z s r : Int) (b : Bool) (l : List Ct.P) : hit p V ⟨P, v, z, s, r, b, l⟩ = ((P == p) && (v == V)) := rfl
theorem get_zero {l : List Ct.F} {p : Tx} {v : Int} (hv : v = 0) : get l p v = newest l p := by unfold get; rw [if_pos hv]
theorem get_miss {l : List Ct.F} {p : Tx} {v : Int} {n : Nat} (hv : ¬ v = 0) (hn : n = l.length) (h : Miss l p v n) : get l p v = none := by
  unfold get
  rw [if_neg hv]
  have : l.find? (fun f => ofPath p f && f.version == v) = none := by
    rw [List.find?_eq_none]
    intro f hf
    obtain ⟨j, hj, rfl⟩ := List.mem_iff_getElem.1 hf
    have := h j hj (by omega)
    unfold hit at this
    rw [this]; decide
  rw [this]; rfl
theorem get_hit {l : List Ct.F} {p : Tx} {v : Int} {k : Nat} (hv : ¬ v = 0) (hk : k < l.length) (h : Miss l p v k) (hh : hit p v l[k] = true) : get l p v = if l[k].gone = true then none else some l[k] := by
  unfold get
  rw [if_neg hv]
  have : l.find? (fun f => ofPath p f && f.version == v) = some l[k] := by
    rw [List.find?_eq_some_iff_getElem]
    refine ⟨hh, k, hk, rfl, fun j hj => ?_⟩
    have := h j (by omega) hj
    unfold hit at this
    rw [this]; rfl
  rw [this]; rfl
/-- what looking for it answers -/
def Found (l : List Ct.F) (p : Tx) (v : Int) : Option Nat → Prop
  | none => Miss l p v l.length
  | some k => ∃ hk : k < l.length, Miss l p v k ∧ hit p v l[k] = true
end Go.Proofs.Ytjhbmijdpcbbiaa.Ls
