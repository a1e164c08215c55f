/- What the document's own Make of groups holds while it lays tapes: each tape's rows in blocks of their own, one tape's behind the other's. How long tapes are: the document's own answer. A slice of slices that is made by append: each of its rows is older than it, or a row of the call's own. No function of the program. What the document's own Row answers. What the document's own product and inverse answer: the same as package gf; nothing is written. -/
import Derived.Test.YtbkmpoabdnickaaGreatMay
import Derived.Test.YtbkmpoabdnickaaGreatMat
import Derived.Test.YtbkmpoabdnickaaGreatMai
import Derived.Test.YtbkmpoabdnickaaGreatRefFmP
import Derived.Test.YtbkmpoabdnickaaGreatMaj
import Derived.Lib.SmallJoins
import Derived.Test.YtbkmpoabdnickaaGreatMap
import Derived.Test.YtbkmpoabdnickaaGreatMah
import Derived.Test.YtbkmpoabdnickaaGreatMaf
namespace Go.Proofs.YtbkmpoabdnickaaGreat
open Go.RowKit
open Pt (Tx)

set_option maxRecDepth 100000 in
/-- the bytes of a right unit's frame, in a row of their own -/
theorem refFrame_own (k lb nb : Int) (A : Option Addr) (s : Tx) (m C : Nat) (G : Nat → Prop) (w : World) (hm : m = s.length) (hA : A = none → m = 0 ∧ C = 0) (hr : RdL w A s G) (hok : Fm.Ok ⟨k, lb, nb, s⟩) :
    Calls Tryz.prog 27 #[.int .i64 k, .int .i64 lb, .int .i64 nb, .slice A m C] w fun e w' => ∃ A' n C', e = .returned (.slice A' n C') ∧ OwnL w' w.heap.size (.slice A' n C') (Fm.blk ⟨k, lb, nb, s⟩) ∧ Below w.heap.size w w' := by
  have hp := refPut_own k lb nb A s m C G w hm hA hr
  unfold PutO at hp
  rw [Fm.put_ok hok] at hp
  have HP := Lib.hid hp
  clear hm hA hr hp hok
  go_enter Tryz.func27, Tryz.ntmps27
  go_wp2_with fail
  refine HP.out.mono ?_
  rintro e w1 ⟨A1, n1, C1, rfl, ho, hb1⟩
  have H1 := Lib.hid ho
  have H5 := Lib.hid hb1
  clear ho hb1
  go_wp2
  go_ret
  exact ⟨A1, n1, C1, rfl, H1.out, H5.out⟩
/-- a tape whose rows lie in blocks from lo on, below hi -/
structure OneT (w : World) (lo hi : Nat) (t : Tv) (s : St.T) : Prop where
  label : t.label = s.label
  cap : t.cap = s.cap
  n : t.n = s.blocks.length
  lost : t.lost = s.lost
  rows : ∃ us, TopB w lo (fun k => lo ≤ k ∧ k < hi) (.slice t.A t.n t.C) us s.blocks
  top : ∀ k, (Value.slice t.A t.n t.C).ownBlock = some k → k < hi
namespace OneT
variable {w w' : World} {lo hi : Nat} {t : Tv} {s : St.T}
theorem kp {S : Nat → Prop} (h : OneT w lo hi t s) (hk : Kp S w w') (h1 : ∀ k c, S k → k < hi → w.heap[k]? ≠ some (.cells c 42 (0, 0))) (h2 : ∀ k c, S k → k < hi → w.heap[k]? ≠ some (.cells c 5 (0, 0))) : OneT w' lo hi t s := by
  obtain ⟨us, ht⟩ := h.rows
  refine ⟨h.label, h.cap, h.n, h.lost, ⟨us, ⟨own_of ht.top fun k e => ?_, ht.len, fun i hi hi' => (ht.rows i hi hi').of_block fun k e => ?_, ht.gs, ht.inj⟩⟩, h.top⟩
  · obtain ⟨c, hc⟩ := own_blk ht.top k e
    exact hk.block k (heap_lt hc) fun hs => h1 k c hs (h.top k e) hc
  · obtain ⟨c, hc⟩ := (ht.rows i hi hi').block k e
    exact hk.block k (heap_lt hc) fun hs => h2 k c hs (ht.gs i hi k e).2 hc
theorem up (h : OneT w lo hi t s) {hi' : Nat} (hh : hi ≤ hi') : OneT w lo hi' t s := by
  obtain ⟨us, ht⟩ := h.rows
  exact ⟨h.label, h.cap, h.n, h.lost, ⟨us, ht.mono fun k hk => ⟨hk.1, by omega⟩⟩, fun k e => by have := h.top k e; omega⟩
theorem rdB (h : OneT w lo hi t s) : RdB w t.A s.blocks (lo ≤ ·) := by
  obtain ⟨us, ht⟩ := h.rows
  exact ht.rdB
end OneT
/-- tapes, one's rows behind the other's -/
structure RowsT (w : World) (B N : Nat) (tvs : List Tv) (ts : List St.T) (L : Nat → Nat) : Prop where
  len : tvs.length = ts.length
  lo : B ≤ L 0
  mono : ∀ i, i < ts.length → L i ≤ L (i + 1)
  hi : L ts.length ≤ N
  one : ∀ i (hi : i < tvs.length) (hi' : i < ts.length), OneT w (L i) (L (i + 1)) tvs[i] ts[i]
namespace RowsT
variable {w w' : World} {B N : Nat} {tvs : List Tv} {ts : List St.T} {L : Nat → Nat}
theorem nil (w : World) (B : Nat) : RowsT w B B [] [] (fun _ => B) := ⟨rfl, Nat.le_refl _, fun _ _ => Nat.le_refl _, Nat.le_refl _, fun i hi => absurd hi (by simp)⟩
theorem le (h : RowsT w B N tvs ts L) : ∀ j i, i ≤ j → j ≤ ts.length → L i ≤ L j := by
  intro j
  induction j with
  | zero => intro i hi _; rw [Nat.le_zero.1 hi]; exact Nat.le_refl _
  | succ j ih =>
    intro i hi hj
    by_cases e : i = j + 1
    · rw [e]; exact Nat.le_refl _
    · exact Nat.le_trans (ih i (by omega) (by omega)) (h.mono j (by omega))
theorem kp {S : Nat → Prop} (h : RowsT w B N tvs ts L) (hk : Kp S w w') (h1 : ∀ k c, S k → k < N → w.heap[k]? ≠ some (.cells c 42 (0, 0))) (h2 : ∀ k c, S k → k < N → w.heap[k]? ≠ some (.cells c 5 (0, 0))) : RowsT w' B N tvs ts L := by
  refine ⟨h.len, h.lo, h.mono, h.hi, fun i hi hi' => ?_⟩
  have hle := Nat.le_trans (h.le ts.length (i + 1) (by omega) (Nat.le_refl _)) h.hi
  exact (h.one i hi hi').kp hk (fun k c hs hl => h1 k c hs (by omega)) (fun k c hs hl => h2 k c hs (by omega))
theorem up (h : RowsT w B N tvs ts L) {N' : Nat} (hN : N ≤ N') : RowsT w B N' tvs ts L := ⟨h.len, h.lo, h.mono, Nat.le_trans h.hi hN, h.one⟩
theorem down (h : RowsT w B N tvs ts L) {B' : Nat} (hB : B' ≤ B) : RowsT w B' N tvs ts L := ⟨h.len, Nat.le_trans hB h.lo, h.mono, h.hi, h.one⟩
theorem push (h : RowsT w B N tvs ts L) {M : Nat} {t : Tv} {s : St.T} (ho : OneT w N M t s) (hM : N ≤ M) : RowsT w B M (tvs ++ [t]) (ts ++ [s]) (fun i => if i < ts.length then L i else if i = ts.length then N else M) := by
  have hl := h.len
  refine ⟨by simp [hl], ?_, fun i hi => ?_, ?_, fun i hi hi' => ?_⟩
  · split
    · exact h.lo
    · rename_i h0
      have e : ts.length = 0 := by omega
      rw [if_pos e.symm]
      have := h.hi
      rw [e] at this
      exact Nat.le_trans h.lo this
  · rw [List.length_append, List.length_singleton] at hi
    by_cases h0 : i < ts.length
    · rw [if_pos h0]
      by_cases h1 : i + 1 < ts.length
      · rw [if_pos h1]; exact h.mono i h0
      · rw [if_neg h1, if_pos (by omega)]
        exact Nat.le_trans (h.le ts.length i (by omega) (Nat.le_refl _)) h.hi
    · rw [if_neg h0, if_pos (by omega), if_neg (by omega), if_neg (by omega)]; exact hM
  · rw [List.length_append, List.length_singleton, if_neg (by omega), if_neg (by omega)]; exact Nat.le_refl _
  · rw [List.length_append, List.length_singleton] at hi hi'
    by_cases h0 : i < ts.length
    · rw [if_pos h0, List.getElem_append_left h0, List.getElem_append_left (by omega)]
      by_cases h1 : i + 1 < ts.length
      · rw [if_pos h1]; exact h.one i (by omega) h0
      · rw [if_neg h1, if_pos (by omega)]
        have e : i + 1 = ts.length := by omega
        have h2 := h.hi
        rw [← e] at h2
        exact (h.one i (by omega) h0).up h2
    · have e : i = ts.length := by omega
      subst e
      have e1 : (ts ++ [s])[ts.length] = s := by simp
      have e2 : (tvs ++ [t])[ts.length]'(by simp [hl]) = t := by simp [← hl]
      rw [if_neg (by omega), if_pos rfl, if_neg (by omega), if_neg (by omega), e1, e2]
      exact ho
theorem rdT (h : RowsT w B N tvs ts L) {A : Option Addr} {G : Nat → Prop} (hr : encT.Rd w A tvs G) (hG : ∀ b, B ≤ b → G b) : RdT w A ts G :=
  RdT.of_rows hr h.len fun i hi hi' => by
    have ho := h.one i hi hi'
    exact ⟨ho.label, ho.cap, ho.n, ho.lost, ho.rdB.mono fun b hb => hG b (Nat.le_trans (Nat.le_trans h.lo (h.le i 0 (by omega) (by omega))) hb)⟩
end RowsT
/-- what is kept while tapes are laid: the seal's own block, and the tapes laid so far -/
structure MkR (w6 : World) (sB : Nat) (number : Int) (n1 n2 : Nat) (sA : Option Addr) (m sC : Nat) (v : Value) (ts : List St.T) (wr : World) : Prop where
  hd : ∃ xi : Int, wr.heap[sB]? = some (sealObj number xi (n1 : Int) (n2 : Int) sA m sC)
  kp : Kp (fun k => k = sB ∨ w6.heap.size ≤ k) w6 wr
  ex : ∃ tvs L, encT.Own wr w6.heap.size 49 v tvs ∧ RowsT wr w6.heap.size wr.heap.size tvs ts L
  ne : sB < w6.heap.size
/-- one tape more -/
theorem MkR.next {w6 wr w43 w45 w46 : World} {sB : Nat} {number y lab cap : Int} {n1 n2 m sC : Nat} {sA : Option Addr} {v v' : Value} {ts : List St.T} {bs : List Tx} {tvs : List Tv} {L : Nat → Nat} {G : Nat → Prop} {A : Option Addr} {n C : Nat} {us : List Value}
    (h : MkR w6 sB number n1 n2 sA m sC v ts wr) (hown : encT.Own wr w6.heap.size 49 v tvs) (hrow : RowsT wr w6.heap.size wr.heap.size tvs ts L)
    (h43 : Below wr.heap.size wr w43) (h45 : Below wr.heap.size (w43.setCell ⟨sB, 1, none⟩ (.int .i64 y)) w45) (hn : n = bs.length)
    (hT : TopB w45 wr.heap.size G (.slice A n C) us bs)
    {o : Obj} (hg : (w45.alloc o).grownBy w46 v.ownBlock) (ho : encT.Own w46 w6.heap.size 49 v' (tvs ++ [⟨lab, cap, A, n, C, false⟩])) :
    MkR w6 sB number n1 n2 sA m sC v' (ts ++ [⟨lab, cap, bs, false⟩]) w46 := by
  obtain ⟨xi, hx⟩ := h.hd
  have hslt := heap_lt hx
  have hwr : w6.heap.size ≤ wr.heap.size := h.kp.size
  have hvb : ∀ k, v.ownBlock = some k → ∃ c, wr.heap[k]? = some (.cells c 49 (0, 0)) := hown.block
  have hs43 : w43.heap[sB]? = some (sealObj number xi (n1 : Int) (n2 : Int) sA m sC) := (h43.block _ hslt).trans hx
  have hs44 : (w43.setCell ⟨sB, 1, none⟩ (.int .i64 y)).heap[sB]? = some (sealObj number y (n1 : Int) (n2 : Int) sA m sC) := heap_set hs43 (.int .i64 y)
  have hs45 := (h45.block _ hslt).trans hs44
  have hse : (w43.setCell ⟨sB, 1, none⟩ (.int .i64 y)).heap.size = w43.heap.size := by simp
  have h45s : wr.heap.size ≤ w45.heap.size := Nat.le_trans (Nat.le_trans h43.size (Nat.le_of_eq hse.symm)) h45.size
  have hne : v.ownBlock ≠ some sB := fun e => by
    obtain ⟨c, hc⟩ := hvb sB e
    rw [hx] at hc
    injection hc with hc
    injection hc with _ e2
    exact absurd e2 (by decide)
  have hsz : (w45.alloc o).heap.size = w45.heap.size + 1 := by simp
  have hkp : Kp (fun k => k = sB ∨ wr.heap.size ≤ k ∨ v.ownBlock = some k) wr w46 := by
    refine ((Kp.of_below h43).trans ((Kp.store w43 sB 1 (.int .i64 y)).mono fun k e => .inl e)).trans ?_
    have hk45 : Kp (fun k => k = sB ∨ wr.heap.size ≤ k ∨ v.ownBlock = some k) (w43.setCell ⟨sB, 1, none⟩ (.int .i64 y)) w45 :=
      ⟨h45.os, h45.tape, h45.output, h45.size, fun k _ hs => h45.block k (by
        have : ¬ wr.heap.size ≤ k := fun e => hs (.inr (.inl e))
        omega)⟩
    exact hk45.trans ⟨hg.os, hg.tape, hg.output, by have := hg.size; omega, fun k hk hs => by
      rw [hg.block k (by omega) fun e => hs (.inr (.inr e.symm))]
      exact ((Below.refl w45.heap.size w45).alloc (Nat.le_refl _) o).block k hk⟩
  have hs46 : w46.heap[sB]? = some (sealObj number y (n1 : Int) (n2 : Int) sA m sC) := by
    refine (hg.block sB ?_ fun e => hne e.symm).trans ((((Below.refl w45.heap.size w45).alloc (Nat.le_refl _) o).block sB ?_).trans hs45)
    · omega
    · omega
  have hcl1 : ∀ k c, (k = sB ∨ wr.heap.size ≤ k ∨ v.ownBlock = some k) → k < wr.heap.size → wr.heap[k]? ≠ some (.cells c 42 (0, 0)) := by
    rintro k c (rfl | e | e) hk hc
    · rw [hx] at hc; injection hc with hc; injection hc with _ e2; exact absurd e2 (by decide)
    · omega
    · obtain ⟨c', hc'⟩ := hvb k e
      rw [hc'] at hc; injection hc with hc; injection hc with _ e2; exact absurd e2 (by decide)
  have hcl2 : ∀ k c, (k = sB ∨ wr.heap.size ≤ k ∨ v.ownBlock = some k) → k < wr.heap.size → wr.heap[k]? ≠ some (.cells c 5 (0, 0)) := by
    rintro k c (rfl | e | e) hk hc
    · rw [hx] at hc; injection hc with hc; injection hc with _ e2; exact absurd e2 (by decide)
    · omega
    · obtain ⟨c', hc'⟩ := hvb k e
      rw [hc'] at hc; injection hc with hc; injection hc with _ e2; exact absurd e2 (by decide)
  have hone45 : OneT w45 wr.heap.size w45.heap.size ⟨lab, cap, A, n, C, false⟩ ⟨lab, cap, bs, false⟩ := by
    refine ⟨rfl, rfl, hn, rfl, ⟨us, ⟨hT.top, hT.len, hT.rows, fun i hi k e => ?_, hT.inj⟩⟩, fun k e => (hT.top.lt k e).2⟩
    have hr := hT.rows i hi (by rw [← hT.len]; exact hi)
    exact ⟨hr.lo k e, hr.lt k e⟩
  have hk46 : Kp (fun k => v.ownBlock = some k) w45 w46 := ⟨hg.os, hg.tape, hg.output, by have := hg.size; omega, fun k hk hs => by
    rw [hg.block k (by omega) fun e => hs e.symm]
    exact ((Below.refl w45.heap.size w45).alloc (Nat.le_refl _) o).block k hk⟩
  have hv45 : ∀ k, v.ownBlock = some k → ∃ c, w45.heap[k]? = some (.cells c 49 (0, 0)) := fun k e => by
    obtain ⟨c, hc⟩ := hvb k e
    have hkl := heap_lt hc
    have hks : k ≠ sB := fun e' => hne (by rw [e, e'])
    exact ⟨c, ((h45.block k hkl).trans (((Kp.store w43 sB 1 (.int .i64 y)).block k (by have := h43.size; omega) hks).trans (h43.block k hkl))).trans hc⟩
  have hone := hone45.kp hk46 (fun k c e _ hc => by
      obtain ⟨c', hc'⟩ := hv45 k e
      rw [hc'] at hc; injection hc with hc; injection hc with _ e2; exact absurd e2 (by decide)) (fun k c e _ hc => by
      obtain ⟨c', hc'⟩ := hv45 k e
      rw [hc'] at hc; injection hc with hc; injection hc with _ e2; exact absurd e2 (by decide))
  refine ⟨⟨y, hs46⟩, h.kp.trans (hkp.mono fun k hk => ?_), ⟨_, _, ho, ((hrow.kp hkp hcl1 hcl2).push hone h45s).up hk46.size⟩, h.ne⟩
  rcases hk with rfl | hk | hk
  · exact .inl rfl
  · exact .inr (by omega)
  · exact .inr (hown.lt k hk).1
/-- the document's own Make: parity tapes in new memory, each row of theirs in a block of its own; or why none -/
def MakeS (data blank : List St.T) (number : Int) (w : World) (e : Ending) (w' : World) : Prop :=
  if Gr.mkE data blank number = 0 then ∃ v tvs L, e = .returned (.tuple #[v, .int .i64 0]) ∧ encT.Own w' w.heap.size 49 v tvs ∧ RowsT w' w.heap.size w'.heap.size tvs (Gr.made data blank number) L ∧ Below w.heap.size w w'
  else e = .returned (.tuple #[.slice none 0 0, .int .i64 (Gr.mkE data blank number)]) ∧ Below w.heap.size w w'
section
variable {data blank : List St.T} {number : Int}
def Gr.badB (data blank : List St.T) (number : Int) : Bool := !decide (Rc.SOk (Gr.sealOf data blank number 0)) || (data.any lostB || blank.any lostB) || (decide (St.len data = 0) || !data.all goodB)
theorem mkE_bad (h : Gr.badB data blank number = true) : Gr.mkE data blank number = 1 := by
  have hc : Gr.chk data blank number = 1 := by
    unfold Gr.badB at h
    unfold Gr.chk checkE
    generalize decide (Rc.SOk (Gr.sealOf data blank number 0)) = b1 at h ⊢
    generalize data.any lostB = b2 at h ⊢
    generalize blank.any lostB = b3 at h ⊢
    generalize decide (St.len data = 0) = b4 at h ⊢
    generalize data.all goodB = b5 at h ⊢
    revert h
    cases b1 <;> cases b2 <;> cases b3 <;> cases b4 <;> cases b5 <;> simp
  unfold Gr.mkE
  rw [hc]; rfl
theorem chk_good (h : Gr.badB data blank number = false) : Gr.chk data blank number = if blank.any hasB = true then 11 else if blank.any (smallB (St.len data)) = true then 6 else 0 := by
  unfold Gr.badB at h
  unfold Gr.chk checkE
  generalize decide (Rc.SOk (Gr.sealOf data blank number 0)) = b1 at h ⊢
  generalize data.any lostB = b2 at h ⊢
  generalize blank.any lostB = b3 at h ⊢
  generalize decide (St.len data = 0) = b4 at h ⊢
  generalize data.all goodB = b5 at h ⊢
  revert h
  cases b1 <;> cases b2 <;> cases b3 <;> cases b4 <;> cases b5 <;> simp
theorem mkE_has (h : Gr.badB data blank number = false) (h1 : blank.any hasB = true) : Gr.mkE data blank number = 11 := by
  have hc : Gr.chk data blank number = 11 := by rw [chk_good h, if_pos h1]
  unfold Gr.mkE
  rw [hc]; rfl
theorem mkE_small (h : Gr.badB data blank number = false) (h1 : blank.any hasB = false) (h2 : blank.any (smallB (St.len data)) = true) : Gr.mkE data blank number = 6 := by
  have hc : Gr.chk data blank number = 6 := by rw [chk_good h, if_neg (by rw [h1]; simp), if_pos h2]
  unfold Gr.mkE
  rw [hc]; rfl
theorem mkE_par (h : Gr.badB data blank number = false) (h1 : blank.any hasB = false) (h2 : blank.any (smallB (St.len data)) = false) : Gr.mkE data blank number = St.err data (blank.length : Int) ∧ Gr.chk data blank number = 0 := by
  have hc : Gr.chk data blank number = 0 := by rw [chk_good h, if_neg (by rw [h1]; simp), if_neg (by rw [h2]; simp)]
  refine ⟨?_, hc⟩
  unfold Gr.mkE
  rw [if_neg (by rw [hc]; simp)]
end
end Go.Proofs.YtbkmpoabdnickaaGreat
namespace Go.Proofs.YtbkmpoabdnickaaGreat
open Go.RowKit Mx
open Pt (Tx)

set_option maxHeartbeats 2000000 in
theorem refLen_any (A : Option Addr) (ts : List St.T) (C : Nat) (G : Nat → Prop) (w : World) (hn : ts.length ≤ maxLen) (hr : RdT w A ts G) :
    Calls Tryz.prog 23 #[.slice A ts.length C] w fun e w' => e = .returned (.int .i64 (St.len ts : Int)) ∧ w = w' := by
  unfold maxLen at hn
  have HR := Lib.hid hr
  clear hr
  go_enter Tryz.func23, Tryz.ntmps23
  go_wp2
  go_loop [4, 3] (fun vi vm => ∃ i m : Nat, i ≤ ts.length ∧ vi = .int .i64 (i : Int) ∧ vm = .int .i64 (m : Int) ∧ Hid (m = St.len (ts.take i))) (fun vi _ => ts.length - (intOf vi).toNat)
  case atStart => exact ⟨0, 0, Nat.zero_le _, rfl, rfl, Lib.hid rfl⟩
  case round =>
    obtain ⟨i, m, hi, rfl, rfl, HM⟩ := hrel
    by_cases hlt : i < ts.length
    · obtain ⟨b, off, A', C', rfl, -, c0, c1, c2, c3, hb⟩ := HR.out.at_ hlt
      obtain ⟨⟨lab, cap, bs, lost⟩, ht⟩ : ∃ t, t = ts[i] := ⟨_, rfl⟩
      have HT := Lib.hid ht
      rw [← ht] at c0 c1 c2 c3
      dsimp only at c0 c1 c2 c3
      clear ht hb
      have e0 : decide (i < ts.length) = true := decide_eq_true hlt
      cases lost with
      | true =>
        have HM1 : Hid (m = St.len (ts.take (i + 1))) := Lib.hid (by rw [St.len_take hlt, ← HM.out, ← HT.out]; simp [St.one])
        go_wp2
        go_round
        case rel => exact ⟨i + 1, m, by omega, by go_num, rfl, HM1⟩
        case measure => simp [intOf]; omega
      | false =>
        obtain ⟨k, hk⟩ : ∃ k, k = bs.length := ⟨_, rfl⟩
        have HM1 : Hid (max m k = St.len (ts.take (i + 1))) := Lib.hid (by rw [St.len_take hlt, ← HM.out, ← HT.out, hk]; simp [St.one])
        rw [← hk] at c2
        clear hk
        by_cases hmk : m < k
        · have e1 : decide ((m : Int) < (k : Int)) = true := decide_eq_true (by omega)
          have e2 : decide (m < k) = true := decide_eq_true hmk
          have HM2 : Hid (k = St.len (ts.take (i + 1))) := Lib.hid (by rw [← HM1.out]; omega)
          clear hmk HM1
          go_wp2
          go_round
          case rel => exact ⟨i + 1, k, by omega, by go_num, rfl, HM2⟩
          case measure => simp [intOf]; omega
        · have e1 : decide ((m : Int) < (k : Int)) = false := decide_eq_false (by omega)
          have e2 : decide (m < k) = false := decide_eq_false hmk
          have HM2 : Hid (m = St.len (ts.take (i + 1))) := Lib.hid (by rw [← HM1.out]; omega)
          clear hmk HM1
          go_wp2
          go_round
          case rel => exact ⟨i + 1, m, by omega, by go_num, rfl, HM2⟩
          case measure => simp [intOf]; omega
    · have e0 : decide (i < ts.length) = false := decide_eq_false hlt
      have HE : Hid (m = St.len ts) := Lib.hid (by rw [HM.out, St.len_all (by omega)])
      go_wp2
      go_ret
      exact ⟨by rw [HE.out]; rfl, rfl⟩
end Go.Proofs.YtbkmpoabdnickaaGreat
namespace Go.Proofs.YtbkmpoabdnickaaGreat
open Go.RowKit Mx

def topsOf (k : Nat) (A : Nat → Option Addr) (L C : Nat → Nat) : List Value := (List.range k).map fun i => .slice (A i) (L i) (C i)
theorem topsOf_len (k : Nat) (A : Nat → Option Addr) (L C : Nat → Nat) : (topsOf k A L C).length = k := by simp [topsOf]
theorem topsOf_get {k : Nat} {A : Nat → Option Addr} {L C : Nat → Nat} {j : Nat} (hj : j < k) : (topsOf k A L C)[j]? = some (.slice (A j) (L j) (C j)) := by simp [topsOf, hj]
theorem topsOf_one {k : Nat} {A : Nat → Option Addr} {L C : Nat → Nat} : ∀ u ∈ topsOf k A L C, u.oneCell' = true := by
  intro u hu
  simp only [topsOf, List.mem_map] at hu
  obtain ⟨j, _, rfl⟩ := hu
  rfl
/-- rows behind rows -/
structure TopA (w : World) (B : Nat) (v : Value) (k : Nat) (A : Nat → Option Addr) (L C : Nat → Nat) (M : Mat) : Prop where
  top : w.ownsRow B 42 1 v k (topsOf k A L C)
  rows : ∀ i, i < k → Rd w (A i) (L i) (M i) (· < B) ∨ ∃ g, A i = some ⟨g, 0, none⟩ ∧ RowAt w g (L i) (M i)
namespace TopA
variable {w w' : World} {B k : Nat} {v v' : Value} {A : Nat → Option Addr} {L L' C : Nat → Nat} {M M' : Mat}
theorem start (w : World) (B : Nat) (A : Nat → Option Addr) (L C : Nat → Nat) (M : Mat) : TopA w B (.slice none 0 0) 0 A L C M := ⟨World.ownsRow_nil _ _ _ _, fun i hi => absurd hi (by omega)⟩
theorem old (h : TopA w B v k A L C M) (hb : Below w.heap.size w w') : TopA w' B v k A L C M :=
  ⟨own_old h.top hb, fun i hi => (h.rows i hi).imp (fun hr => hr.old hb) fun ⟨g, e, hr⟩ => ⟨g, e, hr.old hb⟩⟩
theorem drew (h : TopA w B v k A L C M) : TopA w.drew B v k A L C M := ⟨h.top.drew, h.rows⟩
theorem congr (h : TopA w B v k A L C M) (he : ∀ i, i < k → ∀ j, j < L i → M i j = M' i j) : TopA w B v k A L C M' :=
  ⟨h.top, fun i hi => (h.rows i hi).imp (fun hr => hr.congr (he i hi)) fun ⟨g, e, hr⟩ => ⟨g, e, hr.congr (he i hi)⟩⟩
theorem lens (h : TopA w B v k A L C M) (he : ∀ i, i < k → L i = L' i) : TopA w B v k A L' C M := by
  refine ⟨?_, fun i hi => by rw [← he i hi]; exact h.rows i hi⟩
  rw [show topsOf k A L' C = topsOf k A L C from List.map_congr_left fun i hi => by rw [he i (List.mem_range.1 hi)]]
  exact h.top
/-- a row is appended -/
theorem push (h : TopA w B v k A L C M) {o : Obj} (hg : (w.alloc o).grownBy w' v.ownBlock) {a : Option Addr} {l c : Nat} {f : Nat → Fe} (hown : w'.ownsRow B 42 1 v' (k + 1) (topsOf k A L C ++ [.slice a l c]))
    (hr : Rd w a l f (· < B) ∨ ∃ g, a = some ⟨g, 0, none⟩ ∧ RowAt w g l f) : TopA w' B v' (k + 1) (fun i => if i = k then a else A i) (fun i => if i = k then l else L i) (fun i => if i = k then c else C i) (fun i => if i = k then f else M i) := by
  have keep1 : ∀ {g' l' : Nat} {f' : Nat → Fe}, RowAt w g' l' f' → RowAt w' g' l' f' := fun {g' l' f'} h' =>
    h'.of_block ((hg.block g' (by have := h'.lt; simp; omega) (owns_ne h.top h' (by decide))).trans (Below.heap_alloc _ _ _ h'.lt))
  have keep2 : ∀ {a' : Option Addr} {l' : Nat} {f' : Nat → Fe}, Rd w a' l' f' (· < B) → Rd w' a' l' f' (· < B) := fun {a' l' f'} h' =>
    h'.keep fun p u hp hc => by
      have hlt := World.block_lt_of_cell? _ _ hc
      have hne : some p.block ≠ v.ownBlock := fun e => by have := (h.top.lt p.block e.symm).1; omega
      exact (World.cell?_of_block ((hg.block p.block (by simp; omega) hne).trans (Below.heap_alloc _ _ _ hlt))).trans hc
  have ht : topsOf k A L C ++ [.slice a l c] = topsOf (k + 1) (fun i => if i = k then a else A i) (fun i => if i = k then l else L i) (fun i => if i = k then c else C i) := by
    unfold topsOf
    rw [List.range_succ, List.map_append]
    congr 1
    · exact List.map_congr_left fun i hi => by
        have := List.mem_range.1 hi
        simp only [show ¬ i = k by omega, if_false]
    · simp
  rw [ht] at hown
  refine ⟨hown, fun i hi => ?_⟩
  by_cases e : i = k
  · simp only [e, if_true]
    exact hr.imp keep2 fun ⟨g, e, hr⟩ => ⟨g, e, keep1 hr⟩
  · simp only [e, if_false]
    exact (h.rows i (by omega)).imp keep2 fun ⟨g, e, hr⟩ => ⟨g, e, keep1 hr⟩
/-- as what reads -/
theorem rdM (h : TopA w B v k A L C M) (hk : 0 < k) : ∃ b cp, v = .slice (some ⟨b, 0, none⟩) k cp ∧ B ≤ b ∧ k ≤ cp ∧ RdM w (some ⟨b, 0, none⟩) k L M (· < w.heap.size) := by
  obtain ⟨b, cp, h1, h2, h3, h4⟩ := RowV.of_owns h.top hk
  refine ⟨b, cp, h1, h2, h3, RdM.in_ (G := fun _ => True) fun _ => ⟨b, 0, rfl, trivial, fun i hi => ⟨A i, C i, ?_, ?_⟩⟩⟩
  · rw [Nat.zero_add, h4.cell hi, List.getD_eq_getElem?_getD, topsOf_get hi]; rfl
  · rcases h.rows i hi with hr | ⟨g, e, hr⟩
    · exact hr.mono fun _ _ => trivial
    · rw [e]; exact hr.rd _ trivial
end TopA
end Go.Proofs.YtbkmpoabdnickaaGreat
namespace Go.Proofs.YtbkmpoabdnickaaGreat
open Go.RowKit Mx
open Pt (Tx)

theorem TopA.val {w : World} {B k : Nat} {v : Value} {A : Nat → Option Addr} {L C : Nat → Nat} {M : Mat} (h : TopA w B v k A L C M) : ∃ a c, v = .slice a k c ∧ k ≤ c ∧ (a = none → k = 0 ∧ c = 0) ∧ RdM w a k L M (· < w.heap.size) := by
  rcases Nat.eq_zero_or_pos k with h0 | h0
  · subst h0
    rcases h.top.2 with ⟨e, _⟩ | ⟨g, cap, cur, e, hb, hg, hnc, hcm, hs, ht⟩
    · exact ⟨none, 0, e, Nat.le_refl _, fun _ => ⟨rfl, rfl⟩, RdM.empty _ _ _ _ _⟩
    · exact ⟨_, cap, e, hnc, (fun h => by cases h), RdM.empty _ _ _ _ _⟩
  · obtain ⟨b, cp, e, _, hc, hr⟩ := h.rdM h0
    exact ⟨_, cp, e, hc, (fun h => by cases h), hr⟩
set_option maxRecDepth 100000 in
set_option maxHeartbeats 8000000 in
theorem refRow_any (A : Option Addr) (ts : List St.T) (C : Nat) (G : Nat → Prop) (n : Int) (w : World) (hn : ts.length ≤ 1000000) (hr : RdT w A ts G) :
    Calls Tryz.prog 56 #[.slice A ts.length C, .int .i64 n] w (RowA ts n w) := by
  have HR := Lib.hid hr
  clear hr
  obtain ⟨i0, hi0, hz0, hz1, hz2⟩ := info_parts infoRow
  obtain ⟨j0, hj0, hy0, hy1, hy2⟩ := info_parts infoByte
  have HMK := Lib.hid make79
  go_enter Tryz.func56, Tryz.ntmps56
  go_wp2
  go_loopw [6, 5] (fun vi vo wr => ∃ i : Nat, i ≤ ts.length ∧ vi = .int .i64 (i : Int) ∧ Hid (∃ A C, TopA wr w.heap.size vo i A (St.lens (St.row ts n)) C (St.mat (St.row ts n))) ∧ Hid (Below w.heap.size w wr)) (fun vi _ _ => ts.length - (intOf vi).toNat)
  case atStart => exact ⟨0, Nat.zero_le _, rfl, Lib.hid ⟨fun _ => none, fun _ => 0, TopA.start _ _ _ _ _ _⟩, Lib.hid (Below.refl _ _)⟩
  case round =>
    obtain ⟨i, hi, rfl, HO, HB⟩ := hrel
    obtain ⟨Ax, Cx, hO⟩ := HO.out
    have HO' := Lib.hid hO
    clear hO HO
    by_cases hlt : i < ts.length
    · obtain ⟨b, off, A', C', rfl, -, c0, c1, c2, c3, hb⟩ := (HR.out.old HB.out).at_ hlt
      obtain ⟨h1, h2⟩ := St.row_at (n := n) hlt
      obtain ⟨⟨lab, cap, bs, lost⟩, ht⟩ : ∃ t, t = ts[i] := ⟨_, rfl⟩
      rw [← ht] at c0 c1 c2 c3 hb h1 h2
      dsimp only at c0 c1 c2 c3 hb
      have H1 := Lib.hid h1
      have H2 := Lib.hid h2
      have e0 : decide (i < ts.length) = true := decide_eq_true hlt
      have hlow : w.heap.size ≤ wr.heap.size := HB.out.size
      have hq : lost = true ∨ (lost = false ∧ decide (n < 0) = true ∧ n < 0) ∨ (lost = false ∧ decide (n < 0) = false ∧ decide ((bs.length : Int) ≤ n) = true ∧ (bs.length : Int) ≤ n) ∨ (lost = false ∧ ∃ k : Nat, n = (k : Int) ∧ k < bs.length) := by
        cases lost with
        | true => exact .inl rfl
        | false =>
          refine .inr ?_
          by_cases a : n < 0
          · exact .inl ⟨rfl, decide_eq_true a, a⟩
          · refine .inr ?_
            by_cases a2 : (bs.length : Int) ≤ n
            · exact .inl ⟨rfl, decide_eq_false a, decide_eq_true a2, a2⟩
            · exact .inr ⟨rfl, n.toNat, by omega, by omega⟩
      clear ht h1 h2
      rcases hq with hl | ⟨hl, q1, g1⟩ | ⟨hl, q1, q2, g2⟩ | ⟨hl, k, hk, hkl⟩
      · have HZ : Hid (St.lens (St.row ts n) i = 79 ∧ St.mat (St.row ts n) i = fun _ => 0) := Lib.hid (by
          rw [H1.out, H2.out, St.blk_none (t := ⟨lab, cap, bs, lost⟩) (.inl hl), St.zeros_len, rowL_zeros]; exact ⟨rfl, rfl⟩)
        have hal : Below wr.heap.size wr (wr.alloc (.cells (madeCells #[.int .u8 0] 79) 5)) := (Below.refl _ _).alloc (Nat.le_refl _) _
        have HU : Hid (RowAt (wr.alloc (.cells (madeCells #[.int .u8 0] 79) 5)) wr.heap.size 79 (St.mat (St.row ts n) i)) := Lib.hid (by rw [HZ.out.2]; exact RowAt.made wr 79)
        have HAX := Lib.hid (HO'.out.old hal)
        have hown := HAX.out.top
        have HBX := Lib.hid (HB.out.trans (hal.mono HB.out.size))
        have hmk := HMK.out
        rw [hl] at c3
        clear hal hl hb
        go_wp2_with (at_builtin; refine wpList_append_own _ rfl _ _ 47 rfl w.heap.size 42 i0 (.slice none 0 0) 1 24 Tryz.underlying47 hi0 hz0 hz1 hz2 rfl (by decide) _ _ _ rfl (hown.alloc _) ⟨wr.heap.size + 1, 0, none⟩ 1 1 [.slice (some ⟨wr.heap.size, 0, none⟩) 79 79] rfl rfl (oneCellAt _ _ _ _ (by simp)) (oneSlice _ _ _) (by unfold maxLen; omega) (by omega) (by simp; omega) ?_)
        intro v' w3 hown' hgrow _
        have HP := Lib.hid (HAX.out.push hgrow hown' (.inr ⟨wr.heap.size, rfl, HU.out⟩))
        have HB3 := Lib.hid ((HBX.out.alloc HBX.out.size _).grown hgrow (by simp; omega) (fun x hx => (HAX.out.top.lt x hx).1))
        clear hown' hgrow hown hmk c0 c1 c2 c3
        go_wp2
        go_roundw
        case rel => exact ⟨i + 1, by omega, by go_num, Lib.hid ⟨_, _, (HP.out.congr (M' := St.mat (St.row ts n)) fun r _ c _ => by by_cases e : r = i <;> simp [e]).lens fun r _ => by by_cases e : r = i <;> simp [e, HZ.out.1]⟩, HB3⟩
        case measure => simp [intOf]; omega
      · have HZ : Hid (St.lens (St.row ts n) i = 79 ∧ St.mat (St.row ts n) i = fun _ => 0) := Lib.hid (by
          rw [H1.out, H2.out, St.blk_none (t := ⟨lab, cap, bs, lost⟩) (.inr (.inl g1)), St.zeros_len, rowL_zeros]; exact ⟨rfl, rfl⟩)
        have hal : Below wr.heap.size wr (wr.alloc (.cells (madeCells #[.int .u8 0] 79) 5)) := (Below.refl _ _).alloc (Nat.le_refl _) _
        have HU : Hid (RowAt (wr.alloc (.cells (madeCells #[.int .u8 0] 79) 5)) wr.heap.size 79 (St.mat (St.row ts n) i)) := Lib.hid (by rw [HZ.out.2]; exact RowAt.made wr 79)
        have HAX := Lib.hid (HO'.out.old hal)
        have hown := HAX.out.top
        have HBX := Lib.hid (HB.out.trans (hal.mono HB.out.size))
        have hmk := HMK.out
        rw [hl] at c3
        clear hal hl hb
        go_wp2_with (at_builtin; refine wpList_append_own _ rfl _ _ 47 rfl w.heap.size 42 i0 (.slice none 0 0) 1 24 Tryz.underlying47 hi0 hz0 hz1 hz2 rfl (by decide) _ _ _ rfl (hown.alloc _) ⟨wr.heap.size + 1, 0, none⟩ 1 1 [.slice (some ⟨wr.heap.size, 0, none⟩) 79 79] rfl rfl (oneCellAt _ _ _ _ (by simp)) (oneSlice _ _ _) (by unfold maxLen; omega) (by omega) (by simp; omega) ?_)
        intro v' w3 hown' hgrow _
        have HP := Lib.hid (HAX.out.push hgrow hown' (.inr ⟨wr.heap.size, rfl, HU.out⟩))
        have HB3 := Lib.hid ((HBX.out.alloc HBX.out.size _).grown hgrow (by simp; omega) (fun x hx => (HAX.out.top.lt x hx).1))
        clear hown' hgrow hown hmk c0 c1 c2 c3
        go_wp2
        go_roundw
        case rel => exact ⟨i + 1, by omega, by go_num, Lib.hid ⟨_, _, (HP.out.congr (M' := St.mat (St.row ts n)) fun r _ c _ => by by_cases e : r = i <;> simp [e]).lens fun r _ => by by_cases e : r = i <;> simp [e, HZ.out.1]⟩, HB3⟩
        case measure => simp [intOf]; omega
      · have HZ : Hid (St.lens (St.row ts n) i = 79 ∧ St.mat (St.row ts n) i = fun _ => 0) := Lib.hid (by
          rw [H1.out, H2.out, St.blk_none (t := ⟨lab, cap, bs, lost⟩) (.inr (.inr g2)), St.zeros_len, rowL_zeros]; exact ⟨rfl, rfl⟩)
        have hal : Below wr.heap.size wr (wr.alloc (.cells (madeCells #[.int .u8 0] 79) 5)) := (Below.refl _ _).alloc (Nat.le_refl _) _
        have HU : Hid (RowAt (wr.alloc (.cells (madeCells #[.int .u8 0] 79) 5)) wr.heap.size 79 (St.mat (St.row ts n) i)) := Lib.hid (by rw [HZ.out.2]; exact RowAt.made wr 79)
        have HAX := Lib.hid (HO'.out.old hal)
        have hown := HAX.out.top
        have HBX := Lib.hid (HB.out.trans (hal.mono HB.out.size))
        have hmk := HMK.out
        rw [hl] at c3
        clear hal hl hb
        go_wp2_with (at_builtin; refine wpList_append_own _ rfl _ _ 47 rfl w.heap.size 42 i0 (.slice none 0 0) 1 24 Tryz.underlying47 hi0 hz0 hz1 hz2 rfl (by decide) _ _ _ rfl (hown.alloc _) ⟨wr.heap.size + 1, 0, none⟩ 1 1 [.slice (some ⟨wr.heap.size, 0, none⟩) 79 79] rfl rfl (oneCellAt _ _ _ _ (by simp)) (oneSlice _ _ _) (by unfold maxLen; omega) (by omega) (by simp; omega) ?_)
        intro v' w3 hown' hgrow _
        have HP := Lib.hid (HAX.out.push hgrow hown' (.inr ⟨wr.heap.size, rfl, HU.out⟩))
        have HB3 := Lib.hid ((HBX.out.alloc HBX.out.size _).grown hgrow (by simp; omega) (fun x hx => (HAX.out.top.lt x hx).1))
        clear hown' hgrow hown hmk c0 c1 c2 c3
        go_wp2
        go_roundw
        case rel => exact ⟨i + 1, by omega, by go_num, Lib.hid ⟨_, _, (HP.out.congr (M' := St.mat (St.row ts n)) fun r _ c _ => by by_cases e : r = i <;> simp [e]).lens fun r _ => by by_cases e : r = i <;> simp [e, HZ.out.1]⟩, HB3⟩
        case measure => simp [intOf]; omega
      · obtain ⟨b2, off2, A2, C2, rfl, -, d1, -, -, hrr⟩ := hb.at_ hkl
        have hr2 := hrr.rd
        subst hk
        have f1 : decide ((k : Int) < 0) = false := decide_eq_false (by omega)
        have f2 : decide ((bs.length : Int) ≤ (k : Int)) = false := decide_eq_false (by omega)
        have f3 : decide (bs.length ≤ k) = false := decide_eq_false (by omega)
        by_cases h79 : bs[k].length = 79
        · rw [St.blk_some (t := ⟨lab, cap, bs, lost⟩) hl hkl h79] at H1 H2
          obtain ⟨m, hm⟩ : ∃ m, m = bs[k].length := ⟨_, rfl⟩
          have f4 : ((m : Int) == 79) = true := by rw [hm, h79]; rfl
          have hm0 : 0 < m := by omega
          have hm1 : m ≤ 1000000 := by omega
          have H1' : Hid (St.lens (St.row ts (k : Int)) i = m) := Lib.hid (by rw [H1.out, hm])
          obtain ⟨b3, off3, rfl, -, hcr⟩ := hr2 (by omega)
          rw [← hm] at d1 hcr
          have HRR := Lib.hid hcr
          have hownN : wr.ownsRow wr.heap.size 5 1 (.slice none 0 0) 0 [] := World.ownsRow_nil _ _ _ _
          have HS := Lib.hid H2.out
          rw [hl] at c3
          clear hl hrr hr2 h79 hcr hm hb
          go_wp2_with (at_builtin; refine wpList_append_own _ rfl _ _ 42 rfl wr.heap.size 5 j0 (.int .u8 0) 1 1 Tryz.underlying42 hj0 hy0 hy1 hy2 rfl (by decide) _ _ _ rfl hownN ⟨b3, off3, none⟩ m C2 (cellsOf m (rowL bs[k])) rfl (by rw [cellsOf_len, Nat.mul_one]) (Rd.cells HRR.out) cellsOf_one (by unfold maxLen; omega) (by omega) (Nat.le_refl _) ?_)
          intro v1 w2 hown1 hgrow1 _
          obtain ⟨g, Cg, rfl, hg, hCg, hrg⟩ := RowAt.of_owns hown1 (by omega)
          have hb2 : Below wr.heap.size wr w2 := (Below.refl wr.heap.size wr).grown hgrow1 (Nat.le_refl _) (fun x hx => by simp [Value.ownBlock] at hx)
          have HAX := Lib.hid (HO'.out.old hb2)
          have hown := HAX.out.top
          have HBX := Lib.hid (HB.out.trans (hb2.mono HB.out.size))
          have hlow2 : w.heap.size ≤ w2.heap.size := HBX.out.size
          have HU : Hid (RowAt w2 g m (St.mat (St.row ts (k : Int)) i)) := Lib.hid (by rw [HS.out]; exact hrg)
          clear hown1 hgrow1 hrg hownN c0 c1 c2 c3 d1 hb2
          go_wp2_with (at_builtin; refine wpList_append_own _ rfl _ _ 47 rfl w.heap.size 42 i0 (.slice none 0 0) 1 24 Tryz.underlying47 hi0 hz0 hz1 hz2 rfl (by decide) _ _ _ rfl (hown.alloc _) ⟨w2.heap.size, 0, none⟩ 1 1 [.slice (some ⟨g, 0, none⟩) m Cg] rfl rfl (oneCell _ _ _) (oneSlice _ _ _) (by unfold maxLen; omega) (by omega) (by simp; omega) ?_)
          intro v' w3 hown' hgrow _
          have HP := Lib.hid (HAX.out.push hgrow hown' (.inr ⟨g, rfl, HU.out⟩))
          have HB3 := Lib.hid ((HBX.out.alloc HBX.out.size _).grown hgrow (by simp; omega) (fun x hx => (HAX.out.top.lt x hx).1))
          rw [← H1'.out] at HP
          clear hown' hgrow hown
          go_wp2
          go_roundw
          case rel => exact ⟨i + 1, by omega, by go_num, Lib.hid ⟨_, _, (HP.out.congr (M' := St.mat (St.row ts (k : Int))) fun r _ c _ => by by_cases e : r = i <;> simp [e]).lens fun r _ => by by_cases e : r = i <;> simp [e]⟩, HB3⟩
          case measure => simp [intOf]; omega
        · rw [St.blk_bad (t := ⟨lab, cap, bs, lost⟩) hl hkl h79] at H1 H2
          have f4 : ((bs[k].length : Int) == 79) = false := beq_eq_false_iff_ne.2 (by omega)
          have hown := HO'.out.top
          rw [hl] at c3
          clear hl hrr hr2 h79
          go_wp2_with (at_builtin; refine wpList_append_own _ rfl _ _ 47 rfl w.heap.size 42 i0 (.slice none 0 0) 1 24 Tryz.underlying47 hi0 hz0 hz1 hz2 rfl (by decide) _ _ _ rfl (hown.alloc _) ⟨wr.heap.size, 0, none⟩ 1 1 [.slice none 0 0] rfl rfl (oneCell _ _ _) (oneSlice _ _ _) (by unfold maxLen; omega) (by omega) (by simp; omega) ?_)
          intro v' w3 hown' hgrow _
          have HP := Lib.hid (HO'.out.push hgrow hown' (.inl (Rd.empty _ _ (St.mat (St.row ts (k : Int)) i) _)))
          have HB3 := Lib.hid ((HB.out.alloc HB.out.size _).grown hgrow (by simp; omega) (fun x hx => (HO'.out.top.lt x hx).1))
          rw [show (0 : Nat) = St.lens (St.row ts (k : Int)) i from H1.out.symm] at HP
          clear hown' hgrow hown c0 c1 c2 c3 d1

          go_wp2
          go_roundw
          case rel => exact ⟨i + 1, by omega, by go_num, Lib.hid ⟨_, _, (HP.out.congr (M' := St.mat (St.row ts (k : Int))) fun r _ c _ => by by_cases e : r = i <;> simp [e]).lens fun r _ => by by_cases e : r = i <;> simp [e]⟩, HB3⟩
          case measure => simp [intOf]; omega
    · have e0 : decide (i < ts.length) = false := decide_eq_false hlt
      obtain rfl : i = ts.length := by omega
      obtain ⟨a, c, rfl, hc, hz, hro⟩ := HO'.out.val
      have HF := Lib.hid hro
      have HZ := Lib.hid hz
      clear hro hz HO'
      go_wp2
      go_ret
      exact ⟨a, c, rfl, hc, HZ.out, HF.out, HB.out⟩
end Go.Proofs.YtbkmpoabdnickaaGreat
namespace Go.Proofs.YtbkmpoabdnickaaGreat
open Go.RowKit

set_option maxHeartbeats 400000 in
theorem refMul_nat (a b : Nat) (w : World) (ha : a < 256) (hb : b < 256) :
    Calls Tryz.prog 90 #[.int .u8 (a : Int), .int .u8 (b : Int)] w fun e w' => e = .returned (.int .u8 ((Gf.refMul a b : Nat) : Int)) ∧ w = w' := by
  go_enter Tryz.func90, Tryz.ntmps90
  go_wp2
  go_loop [5, 6] (fun vx vi => ∃ k x : Nat, k ≤ 8 ∧ x < 32768 ∧ vi = .int .i64 (k : Int) ∧ vx = .int .i64 (x : Int) ∧ Hid (Gf.refUp (8 - k) a b x = Gf.refUp 8 a b 0)) (fun _ vi => 8 - (intOf vi).toNat)
  case atStart => exact ⟨0, 0, by omega, by omega, rfl, rfl, Lib.hid rfl⟩
  case round =>
    obtain ⟨k, x, hk, hx, rfl, rfl, HR'⟩ := hrel
    by_cases hlt : k < 8
    · have hbit := up_bit b k hb
      have hstep : Gf.refUp (8 - k) a b x = Gf.refUp (8 - (k + 1)) a b (if b / 2 ^ k % 2 = 1 then x ^^^ (a * 2 ^ k) else x) := by
        rw [show 8 - k = (8 - (k + 1)) + 1 by omega]
        simp only [Gf.refUp]
        rw [show 7 - (8 - (k + 1)) = k by omega]
      by_cases hb1 : b / 2 ^ k % 2 = 1
      · have hb2 : (bits BinOp.and IntKind.u8 ((b : Int) / 2 ^ k) 1 == 1) = true := by rw [hbit, hb1]; rfl
        rw [if_pos hb1] at hstep
        have HR2 := Lib.hid (hstep.symm.trans HR'.out)
        clear hstep hbit hb1 HR'
        go_wp2
        go_round
        case rel => exact ⟨k + 1, x ^^^ (a * 2 ^ k), by omega, xor_lt15 hx (up_lt a k ha hlt), by go_num, val_i64 (up_xor a k x ha hlt hx), HR2⟩
        case measure => simp [intOf]; omega
      · have hb2 : (bits BinOp.and IntKind.u8 ((b : Int) / 2 ^ k) 1 == 1) = false := by
          rw [hbit, show b / 2 ^ k % 2 = 0 from (Nat.mod_two_eq_zero_or_one _).resolve_right hb1]; rfl
        rw [if_neg hb1] at hstep
        have HR2 := Lib.hid (hstep.symm.trans HR'.out)
        clear hstep hbit hb1 HR'
        go_wp2
        go_round
        case rel => exact ⟨k + 1, x, by omega, hx, by go_num, rfl, HR2⟩
        case measure => simp [intOf]; omega
    · have HX : Hid (x = Gf.refUp 8 a b 0) := by
        have h := HR'.out
        rw [show 8 - k = 0 by omega] at h
        exact Lib.hid h
      clear HR'
      go_wp2
      go_loop [5, 7] (fun vx vi => ∃ n y : Nat, n ≤ 7 ∧ y < 32768 ∧ vi = .int .i64 ((n : Int) + 7) ∧ vx = .int .i64 (y : Int) ∧ Hid (Gf.refDown n y = Gf.refDown 7 x)) (fun _ vi => (intOf vi).toNat)
      case atStart => exact ⟨7, x, by omega, hx, rfl, rfl, Lib.hid rfl⟩
      case round =>
        obtain ⟨n, y, hn, hy, rfl, rfl, HD⟩ := hrel
        by_cases hpos : 0 < n
        · obtain ⟨m, rfl⟩ : ∃ m, n = m + 1 := ⟨n - 1, by omega⟩
          have hbit := down_bit y (m + 1 + 7) hy
          have hstep : Gf.refDown (m + 1) y = Gf.refDown m (if y / 2 ^ (m + 1 + 7) % 2 = 1 then y ^^^ (285 * 2 ^ m) else y) := rfl
          by_cases hb1 : y / 2 ^ (m + 1 + 7) % 2 = 1
          · have hb2 : (bits BinOp.and IntKind.i64 ((y : Int) / 2 ^ (m + 1 + 7)) 1 == 1) = true := by rw [hbit, hb1]; rfl
            rw [if_pos hb1] at hstep
            have HR2 := Lib.hid (hstep.symm.trans HD.out)
            clear hstep hbit hb1 HD
            go_wp2
            go_round
            case rel => exact ⟨m, y ^^^ (285 * 2 ^ m), by omega, xor_lt15 hy (down_lt m (by omega)), by go_num, val_i64 (down_xor m y (by omega) hy), HR2⟩
            case measure => simp [intOf]; omega
          · have hb2 : (bits BinOp.and IntKind.i64 ((y : Int) / 2 ^ (m + 1 + 7)) 1 == 1) = false := by
              rw [hbit, show y / 2 ^ (m + 1 + 7) % 2 = 0 from (Nat.mod_two_eq_zero_or_one _).resolve_right hb1]; rfl
            rw [if_neg hb1] at hstep
            have HR2 := Lib.hid (hstep.symm.trans HD.out)
            clear hstep hbit hb1 HD
            go_wp2
            go_round
            case rel => exact ⟨m, y, by omega, hy, by go_num, rfl, HR2⟩
            case measure => simp [intOf]; omega
        · have HY : Hid (y % 256 = Gf.refMul a b) := by
            have h := HD.out
            rw [show n = 0 by omega] at h
            have h1 : y = Gf.refDown 7 x := h
            rw [h1, HX.out]
            exact Lib.hid rfl
          clear HD HX
          go_wp2
          go_ret
          exact ⟨ret_u8 (by rw [← HY.out]; omega), rfl⟩
theorem refMul_any (a b : Int) (w : World) (ha : 0 ≤ a) (ha' : a < 256) (hb : 0 ≤ b) (hb' : b < 256) :
    Calls Tryz.prog 90 #[.int .u8 a, .int .u8 b] w fun e w' => e = .returned (.int .u8 (gmul a b)) ∧ w = w' := by
  obtain ⟨a, rfl⟩ := Int.eq_ofNat_of_zero_le ha
  obtain ⟨b, rfl⟩ := Int.eq_ofNat_of_zero_le hb
  have h := refMul_nat a b w (by omega) (by omega)
  rw [Gf.refMul_eq (by omega)] at h
  exact h
set_option maxRecDepth 100000 in
set_option maxHeartbeats 400000 in
theorem refInv_any (a : Int) (w : World) (ha : 0 ≤ a) (ha' : a < 256) :
    Calls Tryz.prog 105 #[.int .u8 a] w fun e w' => e = .returned (.int .u8 (ginv a)) ∧ w = w' := by
  go_enter Tryz.func105, Tryz.ntmps105
  go_wp2
  go_loop [3, 4] (fun vx vi => ∃ k : Nat, k ≤ 254 ∧ vi = .int .i64 (k : Int) ∧ vx = .int .u8 ((Gf.pw a.toNat k : Nat) : Int)) (fun _ vi => 254 - (intOf vi).toNat)
  case atStart => exact ⟨0, by omega, rfl, rfl⟩
  case round =>
    obtain ⟨k, hk, rfl, rfl⟩ := hrel
    have hp := Gf.pw_lt (a := a.toNat) (by omega) k
    by_cases hlt : k < 254
    · go_wp2_with fail
      refine (refMul_any _ _ _ (by omega) (by omega) ha ha').mono ?_
      rintro e w' ⟨rfl, rfl⟩
      go_wp2
      go_round
      case rel => exact ⟨k + 1, by omega, by go_num, rfl⟩
      case measure => simp [intOf]; omega
    · have HK : Hid (Gf.pw a.toNat k = Gf.inv a.toNat) := by rw [show k = 254 by omega]; exact Lib.hid rfl
      go_wp2
      go_ret
      exact ⟨ret_u8 (congrArg (fun n : Nat => (n : Int)) HK.out), rfl⟩
end Go.Proofs.YtbkmpoabdnickaaGreat
