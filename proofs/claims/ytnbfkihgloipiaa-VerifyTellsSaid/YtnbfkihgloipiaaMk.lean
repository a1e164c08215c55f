/- Tapes in memory: a slice of tapes that reads as a list, and parity as it is made, a slice of slices of rows. No function of the program. What Spots of package verify answers. A map of numbers that a call makes, as a function. No function of the program. A seal in its block. No function of the program. A row of numbers in memory as a list. No function of the program. -/
import Derived.Test.YtnbfkihgloipiaaMc
import Derived.Test.YtnbfkihgloipiaaMj
import Derived.Test.YtnbfkihgloipiaaMb
import Derived.Test.YtnbfkihgloipiaaRows
import Derived.Maps.OwnSet
import Derived.Maps.OwnOps
import Derived.Maps.Views
namespace Go.Proofs.Ytnbfkihgloipiaa
open Go.RowKit
open Pt (Tx)

/-- the slice at A reads as these tapes; all lies in blocks of G -/
def RdT (w : World) (A : Option Addr) (ts : List St.T) (G : Nat → Prop) : Prop :=
  0 < ts.length → ∃ b off, A = some ⟨b, off, none⟩ ∧ G b ∧ ∀ i (hi : i < ts.length), ∃ A' C', w.cell? ⟨b, off + i * 4, none⟩ = some (.int .i64 ts[i].label) ∧ w.cell? ⟨b, off + i * 4 + 1, none⟩ = some (.int .i64 ts[i].cap) ∧ w.cell? ⟨b, off + i * 4 + 2, none⟩ = some (.slice A' ts[i].blocks.length C') ∧ w.cell? ⟨b, off + i * 4 + 3, none⟩ = some (.bool ts[i].lost) ∧ RdB w A' ts[i].blocks G
namespace RdT
variable {w w' : World} {A : Option Addr} {ts : List St.T} {G G' S : Nat → Prop}
theorem empty (w : World) (A : Option Addr) (G : Nat → Prop) : RdT w A [] G := fun h => absurd h (by simp)
theorem keep (h : RdT w A ts G) (hk : ∀ p v, G p.block → w.cell? p = some v → w'.cell? p = some v) : RdT w' A ts G := by
  intro hn
  obtain ⟨b, off, e, hg, hc⟩ := h hn
  refine ⟨b, off, e, hg, fun i hi => ?_⟩
  obtain ⟨A', C', h0, h1, h2, h3, h4⟩ := hc i hi
  exact ⟨A', C', hk _ _ hg h0, hk _ _ hg h1, hk _ _ hg h2, hk _ _ hg h3, h4.keep hk⟩
theorem mono (h : RdT w A ts G) (hg : ∀ b, G b → G' b) : RdT w A ts G' := by
  intro hn
  obtain ⟨b, off, e, hg', hc⟩ := h hn
  refine ⟨b, off, e, hg _ hg', fun i hi => ?_⟩
  obtain ⟨A', C', h0, h1, h2, h3, h4⟩ := hc i hi
  exact ⟨A', C', h0, h1, h2, h3, h4.mono hg⟩
theorem kp (h : RdT w A ts G) (hk : Kp S w w') (hs : ∀ b, G b → ¬ S b) : RdT w' A ts G := h.keep fun _ _ hg hc => hk.cell hc (hs _ hg)
theorem old (h : RdT w A ts G) (hb : Below w.heap.size w w') : RdT w' A ts G := h.keep fun _ _ _ hc => (hb.cell (World.block_lt_of_cell? _ _ hc)).trans hc
theorem in_ (h : RdT w A ts G) : RdT w A ts (fun b => G b ∧ b < w.heap.size) := by
  intro hn
  obtain ⟨b, off, e, hg, hc⟩ := h hn
  refine ⟨b, off, e, ⟨hg, ?_⟩, fun i hi => ?_⟩
  · obtain ⟨_, _, h0, _⟩ := hc 0 hn
    exact World.block_lt_of_cell? _ _ h0
  · obtain ⟨A', C', h0, h1, h2, h3, h4⟩ := hc i hi
    exact ⟨A', C', h0, h1, h2, h3, h4.in_⟩
theorem at_ (h : RdT w A ts G) {i : Nat} (hi : i < ts.length) : ∃ b off A' C', A = some ⟨b, off, none⟩ ∧ G b ∧ w.cell? ⟨b, off + i * 4, none⟩ = some (.int .i64 ts[i].label) ∧ w.cell? ⟨b, off + i * 4 + 1, none⟩ = some (.int .i64 ts[i].cap) ∧ w.cell? ⟨b, off + i * 4 + 2, none⟩ = some (.slice A' ts[i].blocks.length C') ∧ w.cell? ⟨b, off + i * 4 + 3, none⟩ = some (.bool ts[i].lost) ∧ RdB w A' ts[i].blocks G := by
  obtain ⟨b, off, e, hg, hc⟩ := h (by omega)
  obtain ⟨A', C', h0, h1, h2, h3, h4⟩ := hc i hi
  exact ⟨b, off, A', C', e, hg, h0, h1, h2, h3, h4⟩
end RdT
/-- a row of blocks as a matrix -/
theorem RdB.rdM {w : World} {A : Option Addr} {bs : List Tx} {G : Nat → Prop} (h : RdB w A bs G) : RdM w A bs.length (St.lens bs) (St.mat bs) G := fun hn => by
  obtain ⟨b, off, e, hg, hc⟩ := h hn
  refine ⟨b, off, e, hg, fun i hi => ?_⟩
  obtain ⟨A', C', h1, _, _, h4⟩ := hc i hi
  refine ⟨A', C', by rw [St.lens_at hi]; exact h1, ?_⟩
  rw [St.lens_at hi, St.mat_at hi]
  exact h4.rd
/-- the slice at A reads as p matrices, each of n rows of m elements -/
def RdP (w : World) (A : Option Addr) (p n m : Nat) (X : Nat → Mx.Mat) (G : Nat → Prop) : Prop :=
  0 < p → ∃ b off, A = some ⟨b, off, none⟩ ∧ G b ∧ ∀ j, j < p → ∃ A' C', w.cell? ⟨b, off + j, none⟩ = some (.slice A' n C') ∧ n ≤ C' ∧ (A' = none → n = 0 ∧ C' = 0) ∧ RdM w A' n (fun _ => m) (X j) G
namespace RdP
variable {w w' : World} {A : Option Addr} {p n m : Nat} {X Y : Nat → Mx.Mat} {G G' S : Nat → Prop}
theorem empty (w : World) (A : Option Addr) (n m : Nat) (X : Nat → Mx.Mat) (G : Nat → Prop) : RdP w A 0 n m X G := fun h => absurd h (by omega)
theorem keep (h : RdP w A p n m X G) (hk : ∀ p v, G p.block → w.cell? p = some v → w'.cell? p = some v) : RdP w' A p n m X G := by
  intro hn
  obtain ⟨b, off, e, hg, hc⟩ := h hn
  refine ⟨b, off, e, hg, fun j hj => ?_⟩
  obtain ⟨A', C', h1, h2, h3, h4⟩ := hc j hj
  exact ⟨A', C', hk _ _ hg h1, h2, h3, h4.keep hk⟩
theorem mono (h : RdP w A p n m X G) (hg : ∀ b, G b → G' b) : RdP w A p n m X G' := by
  intro hn
  obtain ⟨b, off, e, hg', hc⟩ := h hn
  refine ⟨b, off, e, hg _ hg', fun j hj => ?_⟩
  obtain ⟨A', C', h1, h2, h3, h4⟩ := hc j hj
  exact ⟨A', C', h1, h2, h3, h4.mono hg⟩
theorem congr (h : RdP w A p n m X G) (he : ∀ j, j < p → ∀ i, i < n → ∀ c, c < m → X j i c = Y j i c) : RdP w A p n m Y G := by
  intro hn
  obtain ⟨b, off, e, hg', hc⟩ := h hn
  refine ⟨b, off, e, hg', fun j hj => ?_⟩
  obtain ⟨A', C', h1, h2, h3, h4⟩ := hc j hj
  exact ⟨A', C', h1, h2, h3, h4.congr (fun _ _ => rfl) (he j hj)⟩
theorem old (h : RdP w A p n m X G) (hb : Below w.heap.size w w') : RdP w' A p n m X G := h.keep fun _ _ _ hc => (hb.cell (World.block_lt_of_cell? _ _ hc)).trans hc
theorem at_ (h : RdP w A p n m X G) {j : Nat} (hj : j < p) : ∃ b off A' C', A = some ⟨b, off, none⟩ ∧ G b ∧ w.cell? ⟨b, off + j, none⟩ = some (.slice A' n C') ∧ n ≤ C' ∧ (A' = none → n = 0 ∧ C' = 0) ∧ RdM w A' n (fun _ => m) (X j) G := by
  obtain ⟨b, off, e, hg, hc⟩ := h (by omega)
  obtain ⟨A', C', h1, h2, h3, h4⟩ := hc j hj
  exact ⟨b, off, A', C', e, hg, h1, h2, h3, h4⟩
end RdP
end Go.Proofs.Ytnbfkihgloipiaa
namespace Go.Proofs.Ytnbfkihgloipiaa
open Go.RowKit Vf
open Pt (Tx)

set_option maxHeartbeats 4000000 in
theorem spots_any (A : Option Addr) (ts : List St.T) (n C : Nat) (G : Nat → Prop) (w : World) (hnl : n = ts.length) (hn : n ≤ 1000) (hr : RdT w A ts G) (hl : ∀ t ∈ ts, t.blocks.length ≤ 1000 ∧ ∀ s ∈ t.blocks, s.length ≤ 1000000) :
    Calls Try.prog 9 #[.slice A n C] w (SpotsA (spots ts) w) := by
  have HR := Lib.hid hr
  have HL := Lib.hid hl
  have HNL := Lib.hid hnl
  have HLEN : Hid (∀ i, (spots (ts.take i)).length ≤ 1002000) := Lib.hid fun i => by
    have h := spots_len (ts := ts.take i) (m := 1000) fun t ht => (hl t (List.mem_of_mem_take ht)).1
    have h2 : (ts.take i).length ≤ 1000 := by rw [List.length_take]; omega
    have h3 : (ts.take i).length * 1001 ≤ 1000 * 1001 := Nat.mul_le_mul_right _ h2
    omega
  clear hr hl hnl
  go_enter Try.func9, Try.ntmps9
  go_wp2
  go_loopw [8, 3] (fun vi vl wr => ∃ i : Nat, i ≤ n ∧ vi = .int .i64 (i : Int) ∧ Hid (encS.Own wr w.heap.size 44 vl (spots (ts.take i))) ∧ Hid (Below w.heap.size w wr)) (fun vi _ _ => n - (intOf vi).toNat)
  case atStart => exact ⟨0, Nat.zero_le _, rfl, Lib.hid (Enc.Own.nil _ _ _), Lib.hid (Below.refl _ _)⟩
  case round =>
    obtain ⟨i, hi, rfl, HO, HB⟩ := hrel
    by_cases hlt : i < n
    · have e0 : decide (i < n) = true := decide_eq_true hlt
      have hlt' : i < ts.length := by rw [← HNL.out]; exact hlt
      obtain ⟨b, off, A', C', rfl, -, c0, c1, c2, c3, hb⟩ := (HR.out.old HB.out).at_ hlt'
      obtain ⟨⟨lab, cap, bs, lost⟩, ht⟩ : ∃ t, t = ts[i] := ⟨_, rfl⟩
      have hln := HL.out ts[i] (List.getElem_mem hlt')
      have HTK : Hid (spots (ts.take (i + 1)) = spots (ts.take i) ++ spotsT ⟨lab, cap, bs, lost⟩) := Lib.hid (by rw [ht]; exact spots_take hlt')
      rw [← ht] at c0 c1 c2 c3 hb hln
      dsimp only at c0 c1 c2 c3 hb hln
      obtain ⟨K, hK⟩ : ∃ K, K = bs.length := ⟨_, rfl⟩
      rw [← hK] at c2
      obtain ⟨w1, hw1⟩ : ∃ w1, w1 = wr.alloc (tapeObj lab cap A' K C' lost) := ⟨_, rfl⟩
      have hb1 : Below wr.heap.size wr w1 := by rw [hw1]; exact (Below.refl _ _).alloc (Nat.le_refl _) _
      have HC := Lib.hid (spotsOf_any lab cap bs A' K C' G lost w1 hK (hb.old hb1) (by rw [hK]; have := hln.1; omega) hln.2)
      have HB1 := Lib.hid hb1
      have HW1 := Lib.hid hw1
      unfold tapeObj at HW1
      have HSL : Hid ((spots (ts.take i)).length ≤ 1002000 ∧ (spotsT ⟨lab, cap, bs, lost⟩).length ≤ 1001) := Lib.hid ⟨HLEN.out i, by have h := spotsT_len ⟨lab, cap, bs, lost⟩; have := hln.1; dsimp only at h; omega⟩
      clear ht hb hln hK hw1 hb1
      go_wp2_with fail
      rw [← HW1.out]
      refine HC.out.mono ?_
      rintro e w2 ⟨A2, C2, rfl, hn2, hr2, hb2⟩
      have hbb : Below wr.heap.size wr w2 := HB1.out.trans (hb2.mono HB1.out.size)
      have HO2 := Lib.hid (HO.out.old hbb)
      have HB2 := Lib.hid (HB.out.trans (hbb.mono HB.out.size))
      have HR2 := Lib.hid hr2
      have HN2 := Lib.hid hn2
      clear hr2 hn2 hb2 hbb c0 c1 c2 c3
      obtain ⟨M, hM⟩ : ∃ M, M = (spotsT ⟨lab, cap, bs, lost⟩).length := ⟨_, rfl⟩
      rw [← hM] at HN2 ⊢
      have HM := Lib.hid hM
      clear hM
      go_wp2_with (at_builtin; refine wpList_append_stO encS _ rfl _ _ _ rfl w.heap.size 44 _ 16 Try.underlying29 infoSpot rfl _ _ rfl HO2.out A2 M C2 (spotsT ⟨lab, cap, bs, lost⟩) (fun _ => True) rfl HM.out HN2.out HR2.out (by have := HSL.out; rw [HM.out]; unfold maxLen; omega) (by have := HSL.out; rw [HM.out]; omega) HB2.out.size ?_; intro v' w4 ho4 hg4; rw [← HTK.out] at ho4; have HO4 := Lib.hid ho4; have HB4 := Lib.hid (HB2.out.grown hg4 HB2.out.size (fun k hk => (HO2.out.lt k hk).1)); clear ho4 hg4)
      go_roundw
      case rel => exact ⟨i + 1, by omega, by go_num, HO4, HB4⟩
      case measure => simp [intOf]; omega
    · have hnL : i = n := by omega
      have e0 : decide (i < n) = false := decide_eq_false hlt
      have hall : spots (ts.take i) = spots ts := spots_all (by rw [← HNL.out]; omega)
      rw [hall] at HO
      obtain ⟨A', C', hv, h1, h2, h3, h4⟩ := HO.out.rd
      have HR4 := Lib.hid h4
      have H3 := Lib.hid h3
      clear h3 h4 hnL h1 h2 hall
      subst hv
      go_wp2
      go_ret
      exact ⟨A', C', rfl, H3.out, HR4.out.mono fun x hx => trivial, HB.out⟩
end Go.Proofs.Ytnbfkihgloipiaa
namespace Go.Proofs.Ytnbfkihgloipiaa
open Go.RowKit Go.Maps

def wfZ (k : Int) : Prop := (Lit.int .i64 k).wf = true
theorem keyI : Keyed Try.prog 3 := int_keyed Try.underlying3
theorem zeroI (w : World) : (zeroValue 3).run Try.prog w = .ok (.int .i64 0) w := by kernel_rfl
/-- block b holds a map of at most n entries that tells f k at k -/
def MpZ (w : World) (b n : Nat) (f : Int → Int) : Prop :=
  ∃ D : DataW Unit, w.ownsMap Try.prog 3 (plainElem Try.prog 3) b n D ∧ ∀ k, wfZ k → D.atKey (.int .i64 k) (.lit (.int .i64 0)) = .lit (.int .i64 (f k))
theorem grown_of_below {w w' : World} (h : Below w.heap.size w w') : w.grownBy w' none := ⟨h.os, h.tape, h.output, h.size, fun k hk _ => h.block k hk⟩
namespace MpZ
variable {w w' : World} {b n : Nat} {f g : Int → Int}
theorem made (w : World) : MpZ (w.alloc (.map #[] 0)) w.heap.size 0 (fun _ => 0) := ⟨.map [], World.ownsMap_made _ _ _ _, fun _ _ => rfl⟩
theorem lt (h : MpZ w b n f) : b < w.heap.size := by obtain ⟨D, ho, _⟩ := h; exact ho.lt
theorem old (h : MpZ w b n f) (hb : Below w.heap.size w w') : MpZ w' b n f := by
  obtain ⟨D, ho, hd⟩ := h
  exact ⟨D, ho.kept (grown_of_below hb) (by simp), hd⟩
theorem congr (h : MpZ w b n f) (e : ∀ k, wfZ k → f k = g k) : MpZ w b n g := by
  obtain ⟨D, ho, hd⟩ := h
  exact ⟨D, ho, fun k hk => by rw [hd k hk, e k hk]⟩
theorem look (h : MpZ w b n f) {k : Int} (hk : wfZ k) : (Instr.lookup 50 (.map (some b)) (.int .i64 k) false).run Try.prog w = .ok (.int .i64 (f k)) w := by
  obtain ⟨D, ho, hd⟩ := h
  obtain ⟨c, hrun, hat, _⟩ := ho.lookup_int keyI Try.underlying50 Try.underlying3 (zeroI _) (keyOf_int_mk Try.underlying3 hk)
  have e := (hd k hk).symm.trans hat
  injection e with e
  injection e with _ e
  rw [e]; exact hrun
theorem put (h : MpZ w b n f) {k u : Int} (hn : n < maxLen) (hk : wfZ k) (hu : wfZ u) : ∃ w', (Instr.mapUpdate 50 (.map (some b)) (.int .i64 k) (.int .i64 u)).run Try.prog w = .ok () w' ∧ MpZ w' b (n + 1) (fun x => if x = k then u else f x) ∧ w.grownBy w' (some b) := by
  obtain ⟨D, ho, hd⟩ := h
  obtain ⟨w', hrun, ho', hg⟩ := ho.update keyI Try.underlying50 hn (keyOf_int_mk Try.underlying3 hk) (plainElem_int Try.underlying3 hu)
  refine ⟨w', hrun, ⟨_, ho', fun x hx => ?_⟩, hg⟩
  show _ = DataW.lit (Lit.int .i64 (if x = k then u else f x))
  by_cases e : x = k
  · rw [if_pos e, e]; exact atKey_put_same (k := .int .i64 k) ho.isMap trivial _ _
  · rw [if_neg e, atKey_put_other (fun h => e (by injection h)) _ _]; exact hd x hx
theorem del (h : MpZ w b n f) {k : Int} (hk : wfZ k) : ∃ w', (∀ ty, (Builtin.delete_ #[50, 3] ty #[.map (some b), .int .i64 k]).run Try.prog w = .ok (.tuple #[]) w') ∧ MpZ w' b n (fun x => if x = k then 0 else f x) ∧ w.grownBy w' (some b) := by
  obtain ⟨D, ho, hd⟩ := h
  obtain ⟨w', hrun, h1, h2⟩ := ho.drop keyI Try.underlying50 (keyOf_int_mk Try.underlying3 hk) 0
  refine ⟨w', fun ty => hrun, ⟨_, h1, fun y hy => ?_⟩, h2.grown⟩
  show _ = DataW.lit (Lit.int .i64 (if y = k then 0 else f y))
  by_cases e : y = k
  · rw [if_pos e, e]; exact atKey_del_same _
  · rw [if_neg e, atKey_del_other (fun h => e (by injection h)) _]; exact hd y hy
end MpZ
end Go.Proofs.Ytnbfkihgloipiaa
namespace Go.Proofs.Ytnbfkihgloipiaa
open Go.RowKit
open Pt (Tx)

/-- the seal in a block -/
def sealObj (n x d p : Int) (A : Option Addr) (m C : Nat) : Obj := .cells #[.int .i64 n, .int .i64 x, .int .i64 d, .int .i64 p, .slice A m C] 25
theorem seal5 {w : World} {B : Nat} {n x d p : Int} {A : Option Addr} {m C : Nat} (h : w.heap[B]? = some (sealObj n x d p A m C)) :
    w.cell? ⟨B, 0, none⟩ = some (.int .i64 n) ∧ w.cell? ⟨B, 1, none⟩ = some (.int .i64 x) ∧ w.cell? ⟨B, 2, none⟩ = some (.int .i64 d) ∧ w.cell? ⟨B, 3, none⟩ = some (.int .i64 p) ∧ w.cell? ⟨B, 4, none⟩ = some (.slice A m C) :=
  ⟨heap_cell h, heap_cell h, heap_cell h, heap_cell h, heap_cell h⟩
theorem seal_free {w : World} {B : Nat} {n x d p : Int} {A : Option Addr} {m C : Nat} (h : w.heap[B]? = some (sealObj n x d p A m C)) :
    w.frozen? ⟨B, 0, none⟩ = false ∧ w.frozen? ⟨B, 1, none⟩ = false ∧ w.frozen? ⟨B, 2, none⟩ = false ∧ w.frozen? ⟨B, 3, none⟩ = false ∧ w.frozen? ⟨B, 4, none⟩ = false :=
  ⟨heap_frozen h, heap_frozen h, heap_frozen h, heap_frozen h, heap_frozen h⟩
theorem below_obj {o : Obj} {B : Nat} {x y : World} (hb : Below x.heap.size x y) (h : x.heap[B]? = some o) : y.heap[B]? = some o :=
  (hb.block B (by obtain ⟨hlt, _⟩ := Array.getElem?_eq_some_iff.1 h; exact hlt)).trans h
end Go.Proofs.Ytnbfkihgloipiaa
namespace Go.Proofs.Ytnbfkihgloipiaa
open Go.RowKit

def cellsZ (l : List Int) : List Value := l.map fun x => .int .i64 x
theorem cellsZ_len (l : List Int) : (cellsZ l).length = l.length := by simp [cellsZ]
theorem cellsZ_get {l : List Int} {j : Nat} (h : j < l.length) : (cellsZ l)[j]? = some (.int .i64 l[j]) := by simp [cellsZ, h]
theorem cellsZ_append (a b : List Int) : cellsZ (a ++ b) = cellsZ a ++ cellsZ b := by simp [cellsZ]
/-- the slice at A reads as the numbers l, and lies in a block of G -/
def RdZ (w : World) (A : Option Addr) (l : List Int) (G : Nat → Prop) : Prop :=
  0 < l.length → ∃ b off, A = some ⟨b, off, none⟩ ∧ G b ∧ ∀ j (hj : j < l.length), w.cell? ⟨b, off + j, none⟩ = some (.int .i64 l[j])
namespace RdZ
variable {w w' : World} {A : Option Addr} {l : List Int} {G G' S : Nat → Prop}
theorem empty (w : World) (A : Option Addr) (G : Nat → Prop) : RdZ w A [] G := fun h => absurd h (by simp)
theorem keep (h : RdZ w A l G) (hk : ∀ p v, G p.block → w.cell? p = some v → w'.cell? p = some v) : RdZ w' A l G := by
  intro hn
  obtain ⟨b, off, e, hg, hc⟩ := h hn
  exact ⟨b, off, e, hg, fun j hj => hk _ _ hg (hc j hj)⟩
theorem mono (h : RdZ w A l G) (hg : ∀ b, G b → G' b) : RdZ w A l G' := by
  intro hn
  obtain ⟨b, off, e, hg', hc⟩ := h hn
  exact ⟨b, off, e, hg _ hg', hc⟩
theorem kp (h : RdZ w A l G) (hk : Kp S w w') (hs : ∀ b, G b → ¬ S b) : RdZ w' A l G := h.keep fun _ _ hg hc => hk.cell hc (hs _ hg)
theorem old (h : RdZ w A l G) (hb : Below w.heap.size w w') : RdZ w' A l G := h.keep fun _ _ _ hc => (hb.cell (World.block_lt_of_cell? _ _ hc)).trans hc
theorem in_ (h : RdZ w A l G) : RdZ w A l (fun b => G b ∧ b < w.heap.size) := by
  intro hn
  obtain ⟨b, off, e, hg, hc⟩ := h hn
  exact ⟨b, off, e, ⟨hg, World.block_lt_of_cell? _ _ (hc 0 hn)⟩, hc⟩
theorem at_ (h : RdZ w A l G) {j : Nat} (hj : j < l.length) : ∃ b off, A = some ⟨b, off, none⟩ ∧ G b ∧ w.cell? ⟨b, off + j, none⟩ = some (.int .i64 l[j]) := by
  obtain ⟨b, off, e, hg, hc⟩ := h (by omega)
  exact ⟨b, off, e, hg, hc j hj⟩
theorem take (h : RdZ w A l G) (k : Nat) : RdZ w A (l.take k) G := by
  intro hn
  rw [List.length_take] at hn
  obtain ⟨b, off, e, hg, hc⟩ := h (by omega)
  refine ⟨b, off, e, hg, fun j hj => ?_⟩
  rw [List.length_take] at hj
  rw [hc j (by omega), List.getElem_take]
theorem of_cells {b : Nat} {fr : Nat × Nat} {m : List Int} (h : w.heap[b]? = some (.cells (cellsZ (l ++ m)).toArray 3 fr)) : RdZ w (some ⟨b, 0, none⟩) l (· = b) := by
  intro hn
  refine ⟨b, 0, rfl, rfl, fun j hj => ?_⟩
  rw [Nat.zero_add, heap_cell h]
  rw [List.getElem?_toArray, cellsZ_append, List.getElem?_append_left (by rw [cellsZ_len]; exact hj)]
  exact cellsZ_get hj
end RdZ
end Go.Proofs.Ytnbfkihgloipiaa
