/- What between of package record answers. A row of numbers in memory as a list. No function of the program. A seal in its block. No function of the program. A row of numbers in memory as a list, and a seal in its block. No function of the program. What the document's own Make of groups holds while it lays tapes: each tape's rows in blocks of their own, one tape's behind the other's. -/
import Derived.Test.YtcokmmanajdioaaGreatMac
import Derived.Test.YtcokmmanajdioaaGreatChecked
import Derived.OwnWalk
import Derived.Handy
import Derived.WalkSpells
import Derived.WalkLawsBesides
import Derived.Test.YtcokmmanajdioaaGreatMab
import Derived.Test.YtcokmmanajdioaaGreatRows
import Derived.Test.YtcokmmanajdioaaGreatMae
import Derived.Test.YtcokmmanajdioaaGreatMaf
import Derived.Test.YtcokmmanajdioaaGreatMag
import Derived.Test.YtcokmmanajdioaaGreatMaj
import Derived.Test.YtcokmmanajdioaaGreatRefFmP
import Derived.Lib.SmallJoins
namespace Go.Proofs.YtcokmmanajdioaaGreat
open Go.RowKit

/-- a number from a to b -/
def btw (n a b : Int) : Bool := decide (a ≤ n) && decide (n ≤ b)
theorem btw_yes {n a b : Int} (h : btw n a b = true) : a ≤ n ∧ n ≤ b := by simpa [btw] using h
theorem btw_no {n a b : Int} (h : btw n a b = false) : n < a ∨ b < n := by
  have : ¬ (a ≤ n ∧ n ≤ b) := fun h' => by simp [btw, h'.1, h'.2] at h
  omega
theorem btw_of {n a b : Int} (h : a ≤ n ∧ n ≤ b) : btw n a b = true := by simp [btw, h.1, h.2]
theorem between_any (n a b : Int) (w : World) : Calls Tryz.prog 47 #[.int .i64 n, .int .i64 a, .int .i64 b] w fun e w' => e = .returned (.bool (btw n a b)) ∧ w = w' := by
  cases q1 : decide (a ≤ n) with
  | true =>
    have H : Hid (btw n a b = decide (n ≤ b)) := Lib.hid (by unfold btw; rw [q1]; rfl)
    go_enter Tryz.func47, Tryz.ntmps47
    go_wp2
    go_ret
    exact ⟨by rw [H.out]; rfl, rfl⟩
  | false =>
    have H : Hid (btw n a b = false) := Lib.hid (by unfold btw; rw [q1]; rfl)
    go_enter Tryz.func47, Tryz.ntmps47
    go_wp2
    go_ret
    exact ⟨by rw [H.out]; rfl, rfl⟩
end Go.Proofs.YtcokmmanajdioaaGreat
namespace Go.Proofs.YtcokmmanajdioaaGreat
open Go.RowKit

def cellsZ (l : List Int) : List Value := l.map fun x => .int .i64 x
theorem cellsZ_len (l : List Int) : (cellsZ l).length = l.length := by simp [cellsZ]
theorem cellsZ_get {l : List Int} {j : Nat} (h : j < l.length) : (cellsZ l)[j]? = some (.int .i64 l[j]) := by simp [cellsZ, h]
theorem cellsZ_append (a b : List Int) : cellsZ (a ++ b) = cellsZ a ++ cellsZ b := by simp [cellsZ]
/-- the slice at A reads as the numbers l, and lies in a block of G -/
def RdZ (w : World) (A : Option Addr) (l : List Int) (G : Nat → Prop) : Prop :=
  0 < l.length → ∃ b off, A = some ⟨b, off, none⟩ ∧ G b ∧ ∀ j (hj : j < l.length), w.cell? ⟨b, off + j, none⟩ = some (.int .i64 l[j])
namespace RdZ
variable {w w' : World} {A : Option Addr} {l : List Int} {G G' S : Nat → Prop}
theorem empty (w : World) (A : Option Addr) (G : Nat → Prop) : RdZ w A [] G := fun h => absurd h (by simp)
theorem keep (h : RdZ w A l G) (hk : ∀ p v, G p.block → w.cell? p = some v → w'.cell? p = some v) : RdZ w' A l G := by
  intro hn
  obtain ⟨b, off, e, hg, hc⟩ := h hn
  exact ⟨b, off, e, hg, fun j hj => hk _ _ hg (hc j hj)⟩
theorem mono (h : RdZ w A l G) (hg : ∀ b, G b → G' b) : RdZ w A l G' := by
  intro hn
  obtain ⟨b, off, e, hg', hc⟩ := h hn
  exact ⟨b, off, e, hg _ hg', hc⟩
theorem kp (h : RdZ w A l G) (hk : Kp S w w') (hs : ∀ b, G b → ¬ S b) : RdZ w' A l G := h.keep fun _ _ hg hc => hk.cell hc (hs _ hg)
theorem old (h : RdZ w A l G) (hb : Below w.heap.size w w') : RdZ w' A l G := h.keep fun _ _ _ hc => (hb.cell (World.block_lt_of_cell? _ _ hc)).trans hc
theorem in_ (h : RdZ w A l G) : RdZ w A l (fun b => G b ∧ b < w.heap.size) := by
  intro hn
  obtain ⟨b, off, e, hg, hc⟩ := h hn
  exact ⟨b, off, e, ⟨hg, World.block_lt_of_cell? _ _ (hc 0 hn)⟩, hc⟩
theorem at_ (h : RdZ w A l G) {j : Nat} (hj : j < l.length) : ∃ b off, A = some ⟨b, off, none⟩ ∧ G b ∧ w.cell? ⟨b, off + j, none⟩ = some (.int .i64 l[j]) := by
  obtain ⟨b, off, e, hg, hc⟩ := h (by omega)
  exact ⟨b, off, e, hg, hc j hj⟩
theorem take (h : RdZ w A l G) (k : Nat) : RdZ w A (l.take k) G := by
  intro hn
  rw [List.length_take] at hn
  obtain ⟨b, off, e, hg, hc⟩ := h (by omega)
  refine ⟨b, off, e, hg, fun j hj => ?_⟩
  rw [List.length_take] at hj
  rw [hc j (by omega), List.getElem_take]
theorem of_cells {b : Nat} {fr : Nat × Nat} {m : List Int} (h : w.heap[b]? = some (.cells (cellsZ (l ++ m)).toArray 3 fr)) : RdZ w (some ⟨b, 0, none⟩) l (· = b) := by
  intro hn
  refine ⟨b, 0, rfl, rfl, fun j hj => ?_⟩
  rw [Nat.zero_add, heap_cell h]
  rw [List.getElem?_toArray, cellsZ_append, List.getElem?_append_left (by rw [cellsZ_len]; exact hj)]
  exact cellsZ_get hj
end RdZ
end Go.Proofs.YtcokmmanajdioaaGreat
namespace Go.Proofs.YtcokmmanajdioaaGreat
open Go.RowKit
open Pt (Tx)

/-- the seal in a block -/
def sealObj (n x d p : Int) (A : Option Addr) (m C : Nat) : Obj := .cells #[.int .i64 n, .int .i64 x, .int .i64 d, .int .i64 p, .slice A m C] 26
theorem seal5 {w : World} {B : Nat} {n x d p : Int} {A : Option Addr} {m C : Nat} (h : w.heap[B]? = some (sealObj n x d p A m C)) :
    w.cell? ⟨B, 0, none⟩ = some (.int .i64 n) ∧ w.cell? ⟨B, 1, none⟩ = some (.int .i64 x) ∧ w.cell? ⟨B, 2, none⟩ = some (.int .i64 d) ∧ w.cell? ⟨B, 3, none⟩ = some (.int .i64 p) ∧ w.cell? ⟨B, 4, none⟩ = some (.slice A m C) :=
  ⟨heap_cell h, heap_cell h, heap_cell h, heap_cell h, heap_cell h⟩
theorem seal_free {w : World} {B : Nat} {n x d p : Int} {A : Option Addr} {m C : Nat} (h : w.heap[B]? = some (sealObj n x d p A m C)) :
    w.frozen? ⟨B, 0, none⟩ = false ∧ w.frozen? ⟨B, 1, none⟩ = false ∧ w.frozen? ⟨B, 2, none⟩ = false ∧ w.frozen? ⟨B, 3, none⟩ = false ∧ w.frozen? ⟨B, 4, none⟩ = false :=
  ⟨heap_frozen h, heap_frozen h, heap_frozen h, heap_frozen h, heap_frozen h⟩
theorem below_obj {o : Obj} {B : Nat} {x y : World} (hb : Below x.heap.size x y) (h : x.heap[B]? = some o) : y.heap[B]? = some o :=
  (hb.block B (by obtain ⟨hlt, _⟩ := Array.getElem?_eq_some_iff.1 h; exact hlt)).trans h
end Go.Proofs.YtcokmmanajdioaaGreat

namespace Go.Proofs.YtcokmmanajdioaaGreat
open Go.RowKit
open Pt (Tx)

set_option maxRecDepth 100000 in
/-- the bytes of a right unit's frame, in a row of their own -/
theorem refFrame_own (k lb nb : Int) (A : Option Addr) (s : Tx) (m C : Nat) (G : Nat → Prop) (w : World) (hm : m = s.length) (hA : A = none → m = 0 ∧ C = 0) (hr : RdL w A s G) (hok : Fm.Ok ⟨k, lb, nb, s⟩) :
    Calls Tryz.prog 26 #[.int .i64 k, .int .i64 lb, .int .i64 nb, .slice A m C] w fun e w' => ∃ A' n C', e = .returned (.slice A' n C') ∧ OwnL w' w.heap.size (.slice A' n C') (Fm.blk ⟨k, lb, nb, s⟩) ∧ Below w.heap.size w w' := by
  have hp := refPut_own k lb nb A s m C G w hm hA hr
  unfold PutO at hp
  rw [Fm.put_ok hok] at hp
  have HP := Lib.hid hp
  clear hm hA hr hp hok
  go_enter Tryz.func26, Tryz.ntmps26
  go_wp2_with fail
  refine HP.out.mono ?_
  rintro e w1 ⟨A1, n1, C1, rfl, ho, hb1⟩
  have H1 := Lib.hid ho
  have H5 := Lib.hid hb1
  clear ho hb1
  go_wp2
  go_ret
  exact ⟨A1, n1, C1, rfl, H1.out, H5.out⟩
/-- what is kept while tapes are laid: the seal's own block, and the tapes laid so far -/
structure MkR (w6 : World) (sB : Nat) (number : Int) (n1 n2 : Nat) (sA : Option Addr) (m sC : Nat) (v : Value) (ts : List St.T) (wr : World) : Prop where
  hd : ∃ xi : Int, wr.heap[sB]? = some (sealObj number xi (n1 : Int) (n2 : Int) sA m sC)
  kp : Kp (fun k => k = sB ∨ w6.heap.size ≤ k) w6 wr
  ex : ∃ tvs L, encT.Own wr w6.heap.size 31 v tvs ∧ RowsT wr w6.heap.size wr.heap.size tvs ts L
  ne : sB < w6.heap.size
/-- one tape more -/
theorem MkR.next {w6 wr w43 w45 w46 : World} {sB : Nat} {number y lab cap : Int} {n1 n2 m sC : Nat} {sA : Option Addr} {v v' : Value} {ts : List St.T} {bs : List Tx} {tvs : List Tv} {L : Nat → Nat} {G : Nat → Prop} {A : Option Addr} {n C : Nat} {us : List Value}
    (h : MkR w6 sB number n1 n2 sA m sC v ts wr) (hown : encT.Own wr w6.heap.size 31 v tvs) (hrow : RowsT wr w6.heap.size wr.heap.size tvs ts L)
    (h43 : Below wr.heap.size wr w43) (h45 : Below wr.heap.size (w43.setCell ⟨sB, 1, none⟩ (.int .i64 y)) w45) (hn : n = bs.length)
    (hT : TopB w45 wr.heap.size G (.slice A n C) us bs)
    {o : Obj} (hg : (w45.alloc o).grownBy w46 v.ownBlock) (ho : encT.Own w46 w6.heap.size 31 v' (tvs ++ [⟨lab, cap, A, n, C, false⟩])) :
    MkR w6 sB number n1 n2 sA m sC v' (ts ++ [⟨lab, cap, bs, false⟩]) w46 := by
  obtain ⟨xi, hx⟩ := h.hd
  have hslt := heap_lt hx
  have hwr : w6.heap.size ≤ wr.heap.size := h.kp.size
  have hvb : ∀ k, v.ownBlock = some k → ∃ c, wr.heap[k]? = some (.cells c 31 (0, 0)) := hown.block
  have hs43 : w43.heap[sB]? = some (sealObj number xi (n1 : Int) (n2 : Int) sA m sC) := (h43.block _ hslt).trans hx
  have hs44 : (w43.setCell ⟨sB, 1, none⟩ (.int .i64 y)).heap[sB]? = some (sealObj number y (n1 : Int) (n2 : Int) sA m sC) := heap_set hs43 (.int .i64 y)
  have hs45 := (h45.block _ hslt).trans hs44
  have hse : (w43.setCell ⟨sB, 1, none⟩ (.int .i64 y)).heap.size = w43.heap.size := by simp
  have h45s : wr.heap.size ≤ w45.heap.size := Nat.le_trans (Nat.le_trans h43.size (Nat.le_of_eq hse.symm)) h45.size
  have hne : v.ownBlock ≠ some sB := fun e => by
    obtain ⟨c, hc⟩ := hvb sB e
    rw [hx] at hc
    injection hc with hc
    injection hc with _ e2
    exact absurd e2 (by decide)
  have hsz : (w45.alloc o).heap.size = w45.heap.size + 1 := by simp
  have hkp : Kp (fun k => k = sB ∨ wr.heap.size ≤ k ∨ v.ownBlock = some k) wr w46 := by
    refine ((Kp.of_below h43).trans ((Kp.store w43 sB 1 (.int .i64 y)).mono fun k e => .inl e)).trans ?_
    have hk45 : Kp (fun k => k = sB ∨ wr.heap.size ≤ k ∨ v.ownBlock = some k) (w43.setCell ⟨sB, 1, none⟩ (.int .i64 y)) w45 :=
      ⟨h45.os, h45.tape, h45.output, h45.size, fun k _ hs => h45.block k (by
        have : ¬ wr.heap.size ≤ k := fun e => hs (.inr (.inl e))
        omega)⟩
    exact hk45.trans ⟨hg.os, hg.tape, hg.output, by have := hg.size; omega, fun k hk hs => by
      rw [hg.block k (by omega) fun e => hs (.inr (.inr e.symm))]
      exact ((Below.refl w45.heap.size w45).alloc (Nat.le_refl _) o).block k hk⟩
  have hs46 : w46.heap[sB]? = some (sealObj number y (n1 : Int) (n2 : Int) sA m sC) := by
    refine (hg.block sB ?_ fun e => hne e.symm).trans ((((Below.refl w45.heap.size w45).alloc (Nat.le_refl _) o).block sB ?_).trans hs45)
    · omega
    · omega
  have hcl1 : ∀ k c, (k = sB ∨ wr.heap.size ≤ k ∨ v.ownBlock = some k) → k < wr.heap.size → wr.heap[k]? ≠ some (.cells c 34 (0, 0)) := by
    rintro k c (rfl | e | e) hk hc
    · rw [hx] at hc; injection hc with hc; injection hc with _ e2; exact absurd e2 (by decide)
    · omega
    · obtain ⟨c', hc'⟩ := hvb k e
      rw [hc'] at hc; injection hc with hc; injection hc with _ e2; exact absurd e2 (by decide)
  have hcl2 : ∀ k c, (k = sB ∨ wr.heap.size ≤ k ∨ v.ownBlock = some k) → k < wr.heap.size → wr.heap[k]? ≠ some (.cells c 5 (0, 0)) := by
    rintro k c (rfl | e | e) hk hc
    · rw [hx] at hc; injection hc with hc; injection hc with _ e2; exact absurd e2 (by decide)
    · omega
    · obtain ⟨c', hc'⟩ := hvb k e
      rw [hc'] at hc; injection hc with hc; injection hc with _ e2; exact absurd e2 (by decide)
  have hone45 : OneT w45 wr.heap.size w45.heap.size ⟨lab, cap, A, n, C, false⟩ ⟨lab, cap, bs, false⟩ := by
    refine ⟨rfl, rfl, hn, rfl, ⟨us, ⟨hT.top, hT.len, hT.rows, fun i hi k e => ?_, hT.inj⟩⟩, fun k e => (hT.top.lt k e).2⟩
    have hr := hT.rows i hi (by rw [← hT.len]; exact hi)
    exact ⟨hr.lo k e, hr.lt k e⟩
  have hk46 : Kp (fun k => v.ownBlock = some k) w45 w46 := ⟨hg.os, hg.tape, hg.output, by have := hg.size; omega, fun k hk hs => by
    rw [hg.block k (by omega) fun e => hs e.symm]
    exact ((Below.refl w45.heap.size w45).alloc (Nat.le_refl _) o).block k hk⟩
  have hv45 : ∀ k, v.ownBlock = some k → ∃ c, w45.heap[k]? = some (.cells c 31 (0, 0)) := fun k e => by
    obtain ⟨c, hc⟩ := hvb k e
    have hkl := heap_lt hc
    have hks : k ≠ sB := fun e' => hne (by rw [e, e'])
    exact ⟨c, ((h45.block k hkl).trans (((Kp.store w43 sB 1 (.int .i64 y)).block k (by have := h43.size; omega) hks).trans (h43.block k hkl))).trans hc⟩
  have hone := hone45.kp hk46 (fun k c e _ hc => by
      obtain ⟨c', hc'⟩ := hv45 k e
      rw [hc'] at hc; injection hc with hc; injection hc with _ e2; exact absurd e2 (by decide)) (fun k c e _ hc => by
      obtain ⟨c', hc'⟩ := hv45 k e
      rw [hc'] at hc; injection hc with hc; injection hc with _ e2; exact absurd e2 (by decide))
  refine ⟨⟨y, hs46⟩, h.kp.trans (hkp.mono fun k hk => ?_), ⟨_, _, ho, ((hrow.kp hkp hcl1 hcl2).push hone h45s).up hk46.size⟩, h.ne⟩
  rcases hk with rfl | hk | hk
  · exact .inl rfl
  · exact .inr (by omega)
  · exact .inr (hown.lt k hk).1
/-- the document's own Make: parity tapes in new memory, each row of theirs in a block of its own; or why none -/
def MakeS (data blank : List St.T) (number : Int) (w : World) (e : Ending) (w' : World) : Prop :=
  if Gr.mkE data blank number = 0 then ∃ v tvs L, e = .returned (.tuple #[v, .int .i64 0]) ∧ encT.Own w' w.heap.size 31 v tvs ∧ RowsT w' w.heap.size w'.heap.size tvs (Gr.made data blank number) L ∧ Below w.heap.size w w'
  else e = .returned (.tuple #[.slice none 0 0, .int .i64 (Gr.mkE data blank number)]) ∧ Below w.heap.size w w'
section
variable {data blank : List St.T} {number : Int}
def Gr.badB (data blank : List St.T) (number : Int) : Bool := !decide (Rc.SOk (Gr.sealOf data blank number 0)) || (data.any lostB || blank.any lostB) || (decide (St.len data = 0) || !data.all goodB)
theorem mkE_bad (h : Gr.badB data blank number = true) : Gr.mkE data blank number = 1 := by
  have hc : Gr.chk data blank number = 1 := by
    unfold Gr.badB at h
    unfold Gr.chk checkE
    generalize decide (Rc.SOk (Gr.sealOf data blank number 0)) = b1 at h ⊢
    generalize data.any lostB = b2 at h ⊢
    generalize blank.any lostB = b3 at h ⊢
    generalize decide (St.len data = 0) = b4 at h ⊢
    generalize data.all goodB = b5 at h ⊢
    revert h
    cases b1 <;> cases b2 <;> cases b3 <;> cases b4 <;> cases b5 <;> simp
  unfold Gr.mkE
  rw [hc]; rfl
theorem chk_good (h : Gr.badB data blank number = false) : Gr.chk data blank number = if blank.any hasB = true then 11 else if blank.any (smallB (St.len data)) = true then 6 else 0 := by
  unfold Gr.badB at h
  unfold Gr.chk checkE
  generalize decide (Rc.SOk (Gr.sealOf data blank number 0)) = b1 at h ⊢
  generalize data.any lostB = b2 at h ⊢
  generalize blank.any lostB = b3 at h ⊢
  generalize decide (St.len data = 0) = b4 at h ⊢
  generalize data.all goodB = b5 at h ⊢
  revert h
  cases b1 <;> cases b2 <;> cases b3 <;> cases b4 <;> cases b5 <;> simp
theorem mkE_has (h : Gr.badB data blank number = false) (h1 : blank.any hasB = true) : Gr.mkE data blank number = 11 := by
  have hc : Gr.chk data blank number = 11 := by rw [chk_good h, if_pos h1]
  unfold Gr.mkE
  rw [hc]; rfl
theorem mkE_small (h : Gr.badB data blank number = false) (h1 : blank.any hasB = false) (h2 : blank.any (smallB (St.len data)) = true) : Gr.mkE data blank number = 6 := by
  have hc : Gr.chk data blank number = 6 := by rw [chk_good h, if_neg (by rw [h1]; simp), if_pos h2]
  unfold Gr.mkE
  rw [hc]; rfl
theorem mkE_par (h : Gr.badB data blank number = false) (h1 : blank.any hasB = false) (h2 : blank.any (smallB (St.len data)) = false) : Gr.mkE data blank number = St.err data (blank.length : Int) ∧ Gr.chk data blank number = 0 := by
  have hc : Gr.chk data blank number = 0 := by rw [chk_good h, if_neg (by rw [h1]; simp), if_neg (by rw [h2]; simp)]
  refine ⟨?_, hc⟩
  unfold Gr.mkE
  rw [if_neg (by rw [hc]; simp)]
end
end Go.Proofs.YtcokmmanajdioaaGreat
