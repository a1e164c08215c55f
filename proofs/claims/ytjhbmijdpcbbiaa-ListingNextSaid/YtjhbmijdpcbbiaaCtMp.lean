/- Maps of whole numbers that a call makes, by any keys, as functions that may tell nothing. No function of the program. -/
import Derived.Test.YtjhbmijdpcbbiaaKp
import Derived.Test.YtjhbmijdpcbbiaaTx
import Derived.Test.YtjhbmijdpcbbiaaRows
import Derived.Maps.OwnSet
import Derived.Maps.OwnOps
import Derived.Maps.Views
import Derived.DeepKeys4
namespace Go.Proofs.Ytjhbmijdpcbbiaa
open Go.RowKit Go.Maps
open Pt (Tx)

def wfI (k : Int) : Prop := (Lit.int .i64 k).wf = true
theorem wfI_of {k : Int} (h : -9223372036854775808 ≤ k ∧ k ≤ 9223372036854775807) : wfI k := by unfold wfI; exact WalkArith.wf_i64 (by omega)
/-- a kind of keys: how each is a value -/
structure Ks (κ : Type) where
  k : TypeId
  m : TypeId
  val : κ → Value
  ok : κ → Prop
  keyed : Keyed Try.prog k
  map : Try.prog.underlying m = some (.map k 3)
  key : ∀ x, ok x → ∃ l, keyOf Try.prog k (val x) = some l
  inj : ∀ x y, val x = val y → x = y
theorem zeroI17 (w : World) : (zeroValue 3).run Try.prog w = .ok (.int .i64 0) w := by kernel_rfl
/-- block b holds a map of at most n entries that tells f x at x -/
def MpO {κ : Type} (K : Ks κ) (w : World) (b n : Nat) (f : κ → Option Int) : Prop :=
  ∃ D : DataW Unit, w.ownsMap Try.prog K.k (plainElem Try.prog 3) b n D ∧ ∀ x, K.ok x → ∀ l, keyOf Try.prog K.k (K.val x) = some l → Maps.has D l = (f x).isSome ∧ D.atKey l (.lit (.int .i64 0)) = .lit (.int .i64 ((f x).getD 0))
namespace MpO
variable {κ : Type} {K : Ks κ} {w w' : World} {b n : Nat} {f g : κ → Option Int}
theorem made (w : World) : MpO K (w.alloc (.map #[] 0)) w.heap.size 0 (fun _ => none) := ⟨.map [], World.ownsMap_made _ _ _ _, fun _ _ _ _ => ⟨rfl, rfl⟩⟩
theorem lt (h : MpO K w b n f) : b < w.heap.size := by obtain ⟨D, ho, _⟩ := h; exact ho.lt
theorem old (h : MpO K w b n f) (hb : Below w.heap.size w w') : MpO K w' b n f := by
  obtain ⟨D, ho, hd⟩ := h
  exact ⟨D, ho.kept (⟨hb.os, hb.tape, hb.output, hb.size, fun k hk _ => hb.block k hk⟩ : w.grownBy w' none) (by simp), hd⟩
theorem grown (h : MpO K w b n f) {row : Option Nat} (hg : w.grownBy w' row) (hne : some b ≠ row) : MpO K w' b n f := by
  obtain ⟨D, ho, hd⟩ := h
  exact ⟨D, ho.kept hg hne, hd⟩
theorem cell (h : MpO K w b n f) (g i : Nat) (v : Value) (hne : b ≠ g) : MpO K (w.setCell ⟨g, i, none⟩ v) b n f := by
  obtain ⟨D, ho, hd⟩ := h
  exact ⟨D, ho.setCell (a := ⟨g, i, none⟩) hne v, hd⟩
theorem congr (h : MpO K w b n f) (e : ∀ x, K.ok x → f x = g x) : MpO K w b n g := by
  obtain ⟨D, ho, hd⟩ := h
  exact ⟨D, ho, fun x hx l hl => by rw [← e x hx]; exact hd x hx l hl⟩
/-- it is no block of cells -/
theorem ne (h : MpO K w b n f) {g : Nat} {c : Array Value} {t : TypeId} {fr : Nat × Nat} (hg : w.heap[g]? = some (.cells c t fr)) : b ≠ g := by
  rintro rfl
  obtain ⟨D, ho, _⟩ := h
  obtain ⟨es, clock, hb, _⟩ := ho
  rw [hg] at hb
  cases hb
set_option maxRecDepth 100000 in
theorem look (h : MpO K w b n f) {x : κ} (hx : K.ok x) : (Instr.lookup K.m (.map (some b)) (K.val x) true).run Try.prog w = .ok (.tuple #[.int .i64 ((f x).getD 0), .bool (f x).isSome]) w := by
  obtain ⟨D, ho, hd⟩ := h
  obtain ⟨l, hl⟩ := K.key x hx
  obtain ⟨v, ps, hrun, hv⟩ := ho.look_ok K.keyed K.map (zeroI17 w) (plainElem_int Try.underlying3 (by decide)) hl
  obtain ⟨h1, h2⟩ := hd x hx l hl
  rw [h1] at hrun
  rw [h2] at hv
  obtain ⟨c, rfl, hc, hwc⟩ := plainElem_int_inv Try.underlying3 hv
  have hc' : (f x).getD 0 = c := by
    have := congrArg Prod.fst hc
    injection this with this
    injection this
  rw [← hc'] at hrun
  exact hrun
set_option maxRecDepth 100000 in
theorem put (h : MpO K w b n f) {x : κ} {u : Int} (hn : n < maxLen) (hx : K.ok x) (hu : wfI u) [DecidableEq κ] : ∃ w', (Instr.mapUpdate K.m (.map (some b)) (K.val x) (.int .i64 u)).run Try.prog w = .ok () w' ∧ MpO K w' b (n + 1) (fun y => if y = x then some u else f y) ∧ w.grownBy w' (some b) := by
  obtain ⟨D, ho, hd⟩ := h
  obtain ⟨l, hl⟩ := K.key x hx
  obtain ⟨w', hrun, ho', hg⟩ := ho.update K.keyed K.map hn hl (plainElem_int Try.underlying3 hu)
  refine ⟨w', hrun, ⟨_, ho', fun y hy l' hl' => ?_⟩, hg⟩
  by_cases e : y = x
  · subst e
    have : l' = l := Option.some.inj (hl'.symm.trans hl)
    subst this
    have hk := K.keyed.key hl'
    simp only [if_true]
    exact ⟨has_put_same ho.isMap hk _, atKey_put_same ho.isMap hk _ _⟩
  · have hne : l' ≠ l := fun e' => e (K.inj _ _ (K.keyed.inj (e' ▸ hl') hl))
    simp only [e, if_false]
    rw [has_put_other hne, atKey_put_other hne]
    exact hd y hy l' hl'
end MpO
end Go.Proofs.Ytjhbmijdpcbbiaa
