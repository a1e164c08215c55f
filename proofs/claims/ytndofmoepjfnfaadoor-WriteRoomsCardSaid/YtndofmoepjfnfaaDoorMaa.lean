/- A map of numbers that a call makes, as a function. No function of the program. -/
import Derived.Test.YtndofmoepjfnfaaDoorKp
import Derived.Test.YtndofmoepjfnfaaDoorRows
import Derived.Maps.OwnSet
import Derived.Maps.OwnOps
import Derived.Maps.Views
namespace Go.Proofs.YtndofmoepjfnfaaDoor
open Go.RowKit Go.Maps

def wfZ (k : Int) : Prop := (Lit.int .i64 k).wf = true
set_option maxRecDepth 100000 in
theorem keyI : Keyed Tryd.prog 3 := int_keyed Tryd.underlying3
set_option maxRecDepth 100000 in
theorem zeroI (w : World) : (zeroValue 3).run Tryd.prog w = .ok (.int .i64 0) w := by kernel_rfl
/-- block b holds a map of at most n entries that tells f k at k -/
def MpZ (w : World) (b n : Nat) (f : Int → Int) : Prop :=
  ∃ D : DataW Unit, w.ownsMap Tryd.prog 3 (plainElem Tryd.prog 3) b n D ∧ ∀ k, wfZ k → D.atKey (.int .i64 k) (.lit (.int .i64 0)) = .lit (.int .i64 (f k))
set_option maxRecDepth 100000 in
theorem grown_of_below {w w' : World} (h : Below w.heap.size w w') : w.grownBy w' none := ⟨h.os, h.tape, h.output, h.size, fun k hk _ => h.block k hk⟩
namespace MpZ
variable {w w' : World} {b n : Nat} {f g : Int → Int}
set_option maxRecDepth 100000 in
theorem made (w : World) : MpZ (w.alloc (.map #[] 0)) w.heap.size 0 (fun _ => 0) := ⟨.map [], World.ownsMap_made _ _ _ _, fun _ _ => rfl⟩
set_option maxRecDepth 100000 in
theorem lt (h : MpZ w b n f) : b < w.heap.size := by obtain ⟨D, ho, _⟩ := h; exact ho.lt
set_option maxRecDepth 100000 in
theorem old (h : MpZ w b n f) (hb : Below w.heap.size w w') : MpZ w' b n f := by
  obtain ⟨D, ho, hd⟩ := h
  exact ⟨D, ho.kept (grown_of_below hb) (by simp), hd⟩
set_option maxRecDepth 100000 in
theorem congr (h : MpZ w b n f) (e : ∀ k, wfZ k → f k = g k) : MpZ w b n g := by
  obtain ⟨D, ho, hd⟩ := h
  exact ⟨D, ho, fun k hk => by rw [hd k hk, e k hk]⟩
set_option maxRecDepth 100000 in
theorem look (h : MpZ w b n f) {k : Int} (hk : wfZ k) : (Instr.lookup 71 (.map (some b)) (.int .i64 k) false).run Tryd.prog w = .ok (.int .i64 (f k)) w := by
  obtain ⟨D, ho, hd⟩ := h
  obtain ⟨c, hrun, hat, _⟩ := ho.lookup_int keyI Tryd.underlying71 Tryd.underlying3 (zeroI _) (keyOf_int_mk Tryd.underlying3 hk)
  have e := (hd k hk).symm.trans hat
  injection e with e
  injection e with _ e
  rw [e]; exact hrun
set_option maxRecDepth 100000 in
theorem put (h : MpZ w b n f) {k u : Int} (hn : n < maxLen) (hk : wfZ k) (hu : wfZ u) : ∃ w', (Instr.mapUpdate 71 (.map (some b)) (.int .i64 k) (.int .i64 u)).run Tryd.prog w = .ok () w' ∧ MpZ w' b (n + 1) (fun x => if x = k then u else f x) ∧ w.grownBy w' (some b) := by
  obtain ⟨D, ho, hd⟩ := h
  obtain ⟨w', hrun, ho', hg⟩ := ho.update keyI Tryd.underlying71 hn (keyOf_int_mk Tryd.underlying3 hk) (plainElem_int Tryd.underlying3 hu)
  refine ⟨w', hrun, ⟨_, ho', fun x hx => ?_⟩, hg⟩
  show _ = DataW.lit (Lit.int .i64 (if x = k then u else f x))
  by_cases e : x = k
  · rw [if_pos e, e]; exact atKey_put_same (k := .int .i64 k) ho.isMap trivial _ _
  · rw [if_neg e, atKey_put_other (fun h => e (by injection h)) _ _]; exact hd x hx
set_option maxRecDepth 100000 in
theorem del (h : MpZ w b n f) {k : Int} (hk : wfZ k) : ∃ w', (∀ ty, (Builtin.delete_ #[71, 3] ty #[.map (some b), .int .i64 k]).run Tryd.prog w = .ok (.tuple #[]) w') ∧ MpZ w' b n (fun x => if x = k then 0 else f x) ∧ w.grownBy w' (some b) := by
  obtain ⟨D, ho, hd⟩ := h
  obtain ⟨w', hrun, h1, h2⟩ := ho.drop keyI Tryd.underlying71 (keyOf_int_mk Tryd.underlying3 hk) 0
  refine ⟨w', fun ty => hrun, ⟨_, h1, fun y hy => ?_⟩, h2.grown⟩
  show _ = DataW.lit (Lit.int .i64 (if y = k then 0 else f y))
  by_cases e : y = k
  · rw [if_pos e, e]; exact atKey_del_same _
  · rw [if_neg e, atKey_del_other (fun h => e (by injection h)) _]; exact hd y hy
end MpZ
end Go.Proofs.YtndofmoepjfnfaaDoor
