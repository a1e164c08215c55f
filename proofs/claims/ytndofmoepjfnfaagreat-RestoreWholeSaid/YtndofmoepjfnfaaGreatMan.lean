/- Tapes in a row of the call's own, each tape's rows in blocks of its own, told by a function which block is whose. Steps in a row. No function of the program. A byte of a block of one of the tapes that Do made is turned. No function of the program. A tape that lies in a block, or in a row of them. No function of the program. A Writer and a Reader of package code in memory, and those of the document's own. No function of the program. What a Writer of package code writes. -/
import Derived.Test.YtndofmoepjfnfaaGreatMam
import Derived.Test.YtndofmoepjfnfaaGreatMal
import Derived.Test.YtndofmoepjfnfaaGreatMab
import Derived.Test.YtndofmoepjfnfaaGreatChecked
import Derived.OwnWalk
import Derived.Handy
import Derived.WalkSpells
import Derived.WalkLawsBesides
import Derived.Test.YtndofmoepjfnfaaGreatMad
import Derived.Laws.CopyOwn
import Derived.StillTailTactics
namespace Go.Proofs.YtndofmoepjfnfaaGreat
open Go.RowKit
open Pt (Tx)

/-- steps in a row: on which tape, and the block -/
def StpR (w : World) (A : Option Addr) (l : List (Int × Tx)) (G : Nat → Prop) : Prop :=
  0 < l.length → ∃ b off, A = some ⟨b, off, none⟩ ∧ G b ∧ ∀ i (hi : i < l.length), ∃ A' C', w.cell? ⟨b, off + i * 2, none⟩ = some (.int .i64 l[i].1) ∧ w.cell? ⟨b, off + i * 2 + 1, none⟩ = some (.slice A' l[i].2.length C') ∧ l[i].2.length ≤ C' ∧ (A' = none → l[i].2.length = 0 ∧ C' = 0) ∧ RdL w A' l[i].2 G
namespace StpR
variable {w w' : World} {A : Option Addr} {l : List (Int × Tx)} {G G' S : Nat → Prop}
theorem empty (w : World) (A : Option Addr) (G : Nat → Prop) : StpR w A [] G := fun h => absurd h (by simp)
theorem keep (h : StpR w A l G) (hk : ∀ p v, G p.block → w.cell? p = some v → w'.cell? p = some v) : StpR w' A l G := by
  intro hn
  obtain ⟨b, off, e, hg, hc⟩ := h hn
  refine ⟨b, off, e, hg, fun i hi => ?_⟩
  obtain ⟨A', C', h0, h1, h2, h3, h4⟩ := hc i hi
  exact ⟨A', C', hk _ _ hg h0, hk _ _ hg h1, h2, h3, h4.keep hk⟩
theorem mono (h : StpR w A l G) (hg : ∀ b, G b → G' b) : StpR w A l G' := by
  intro hn
  obtain ⟨b, off, e, hg', hc⟩ := h hn
  refine ⟨b, off, e, hg _ hg', fun i hi => ?_⟩
  obtain ⟨A', C', h0, h1, h2, h3, h4⟩ := hc i hi
  exact ⟨A', C', h0, h1, h2, h3, h4.mono hg⟩
theorem kp (h : StpR w A l G) (hk : Kp S w w') (hs : ∀ b, G b → ¬ S b) : StpR w' A l G := h.keep fun _ _ hg hc => hk.cell hc (hs _ hg)
theorem old (h : StpR w A l G) (hb : Below w.heap.size w w') : StpR w' A l G := h.keep fun _ _ _ hc => (hb.cell (World.block_lt_of_cell? _ _ hc)).trans hc
theorem below {B : Nat} (h : StpR w A l (· < B)) (hb : Below B w w') : StpR w' A l (· < B) := h.keep fun _ _ hg hc => (hb.cell hg).trans hc
theorem in_ (h : StpR w A l G) : StpR w A l (fun b => G b ∧ b < w.heap.size) := by
  intro hn
  obtain ⟨b, off, e, hg, hc⟩ := h hn
  refine ⟨b, off, e, ⟨hg, ?_⟩, fun i hi => ?_⟩
  · obtain ⟨_, _, h0, _⟩ := hc 0 hn
    exact World.block_lt_of_cell? _ _ h0
  · obtain ⟨A', C', h0, h1, h2, h3, h4⟩ := hc i hi
    exact ⟨A', C', h0, h1, h2, h3, h4.in_⟩
theorem at_ (h : StpR w A l G) {i : Nat} (hi : i < l.length) : ∃ b off A' C', A = some ⟨b, off, none⟩ ∧ G b ∧ w.cell? ⟨b, off + i * 2, none⟩ = some (.int .i64 l[i].1) ∧ w.cell? ⟨b, off + i * 2 + 1, none⟩ = some (.slice A' l[i].2.length C') ∧ l[i].2.length ≤ C' ∧ (A' = none → l[i].2.length = 0 ∧ C' = 0) ∧ RdL w A' l[i].2 G := by
  obtain ⟨b, off, e, hg, hc⟩ := h (by omega)
  obtain ⟨A', C', h0, h1, h2, h3, h4⟩ := hc i hi
  exact ⟨b, off, A', C', e, hg, h0, h1, h2, h3, h4⟩
end StpR
/-- one cell of one struct of a row is turned -/
theorem Enc.cells_set {α : Type} (E : Enc α) {j : Nat} (hj : j < E.k) {u : Value} {t : α} : ∀ (l : List α) (i : Nat) (hi : i < l.length), E.enc t = (E.enc l[i]).set j u → E.cells (l.set i t) = (E.cells l).set (i * E.k + j) u
  | [], i, hi, _ => absurd hi (by simp)
  | x :: l, 0, hi, h => by
    rw [List.set_cons_zero, Enc.cells_cons, Enc.cells_cons, Nat.zero_mul, Nat.zero_add, List.set_append_left _ _ (by rw [E.len]; exact hj)]
    rw [h]; rfl
  | x :: l, i + 1, hi, h => by
    have h' : i < l.length := by simpa using hi
    rw [List.set_cons_succ, Enc.cells_cons, Enc.cells_cons, List.set_append_right _ _ (by rw [E.len, Nat.succ_mul]; omega), E.len, show (i + 1) * E.k + j - E.k = i * E.k + j by rw [Nat.succ_mul]; omega]
    rw [Enc.cells_set E hj l i h' h]
theorem Enc.Own.set {α : Type} {E : Enc α} {x y : World} {B g n C : Nat} {T : TypeId} {l : List α} {cur : Array Value} (h : E.Own x B T (.slice (some ⟨g, 0, none⟩) n C) l) (hx : x.heap[g]? = some (.cells cur T (0, 0))) {i j : Nat} (hi : i < l.length) (hj : j < E.k) {u : Value} {t : α} (ht : E.enc t = (E.enc l[i]).set j u)
    (hy : y.heap[g]? = some (.cells (cur.setIfInBounds (i * E.k + j) u) T (0, 0))) : E.Own y B T (.slice (some ⟨g, 0, none⟩) n C) (l.set i t) := by
  refine ⟨by rw [Enc.cells_len], ?_⟩
  rcases h.2 with ⟨e, _⟩ | ⟨g', cap, cur', e, hb, hg, hnc, hcm, hs, htk⟩
  · cases e
  · cases e
    rw [hx] at hg
    cases hg
    refine .inr ⟨g, C, cur.setIfInBounds (i * E.k + j) u, by rw [List.length_set], hb, hy, by rw [List.length_set]; exact hnc, hcm, by simpa using hs, ?_⟩
    rw [Enc.cells_set E hj l i hi ht, ← htk, List.length_set, Array.toList_setIfInBounds, List.take_set]
/-- a tape whose rows lie in blocks of number i -/
structure OneF (x : World) (B : Nat) (f : Nat → Nat) (i : Nat) (t : Tv) (s : St.T) : Prop where
  label : t.label = s.label
  cap : t.cap = s.cap
  n : t.n = s.blocks.length
  lost : t.lost = s.lost
  rows : ∃ us, TopB x B (fun k => f k = i) (.slice t.A t.n t.C) us s.blocks
  top : ∀ k, (Value.slice t.A t.n t.C).ownBlock = some k → f k = i
namespace OneF
variable {x y : World} {B : Nat} {f f' : Nat → Nat} {i : Nat} {t : Tv} {s : St.T}
/-- what is not touched is as it was, whatever the function says of blocks that were not there -/
theorem kp {S : Nat → Prop} (h : OneF x B f i t s) (hk : Kp S x y) (hs : ∀ k, f k = i → k < x.heap.size → S k → ∀ c T, x.heap[k]? = some (.cells c T (0, 0)) → T ≠ 22 ∧ T ≠ 5) (hf : ∀ k, k < x.heap.size → f' k = f k) : OneF y B f' i t s := by
  obtain ⟨us, ht⟩ := h.rows
  refine ⟨h.label, h.cap, h.n, h.lost, ⟨us, ⟨own_of ht.top fun k e => ?_, ht.len, fun j hj hj' => (ht.rows j hj hj').of_block fun k e => ?_, fun j hj k e => ?_, ht.inj⟩⟩, fun k e => ?_⟩
  · obtain ⟨c, hc⟩ := own_blk ht.top k e
    exact hk.block k (heap_lt hc) fun h' => (hs k (h.top k e) (heap_lt hc) h' c _ hc).1 rfl
  · obtain ⟨c, hc⟩ := (ht.rows j hj hj').block k e
    exact hk.block k (heap_lt hc) fun h' => (hs k (ht.gs j hj k e) (heap_lt hc) h' c _ hc).2 rfl
  · rw [hf k ((ht.rows j hj (by rw [← ht.len]; exact hj)).lt k e)]
    exact ht.gs j hj k e
  · rw [hf k (ht.top.lt k e).2]
    exact h.top k e
theorem rdB (h : OneF x B f i t s) : RdB x t.A s.blocks (B ≤ ·) := by
  obtain ⟨us, ht⟩ := h.rows
  exact ht.rdB
end OneF
/-- tapes in a row of the call's own -/
structure DoT (B : Nat) (v : Value) (ts : List St.T) (x : World) : Prop where
  ex : ∃ tvs f, encT.Own x B 28 v tvs ∧ tvs.length = ts.length ∧ ∀ i (hi : i < tvs.length) (hi' : i < ts.length), OneF x B f i tvs[i] ts[i]
namespace DoT
variable {x y z : World} {B : Nat} {v v' : Value} {ts : List St.T}
theorem start (x : World) (B : Nat) : DoT B (.slice none 0 0) [] x := ⟨⟨[], fun _ => 0, Enc.Own.nil _ _ _, rfl, fun i hi => absurd hi (by simp)⟩⟩
theorem old (h : DoT B v ts x) (hb : Below x.heap.size x y) : DoT B v ts y := by
  obtain ⟨tvs, f, h1, h2, h3⟩ := h.ex
  exact ⟨⟨tvs, f, h1.old hb, h2, fun i hi hi' => (h3 i hi hi').kp (S := fun _ => False) (Kp.of_below hb) (fun _ _ _ hs => hs.elim) (fun _ _ => rfl)⟩⟩
/-- one tape more -/
theorem push {tvs : List Tv} {f : Nat → Nat} {lab cap : Int} {A : Option Addr} {n C : Nat} {us : List Value} {bs : List Tx} {lost : Bool} {o : Obj} (hown : encT.Own x B 28 v tvs) (hlen : tvs.length = ts.length) (hone : ∀ i (hi : i < tvs.length) (hi' : i < ts.length), OneF x B f i tvs[i] ts[i])
    (hB : B ≤ x.heap.size) (hb : Below x.heap.size x y) (hn : n = bs.length) (hT : TopB y x.heap.size (fun k => x.heap.size ≤ k) (.slice A n C) us bs) (hg : (y.alloc o).grownBy z v.ownBlock) (ho : encT.Own z B 28 v' (tvs ++ [⟨lab, cap, A, n, C, lost⟩])) :
    DoT B v' (ts ++ [⟨lab, cap, bs, lost⟩]) z := by
  have hvb := hown.block
  have hk2 : Kp (fun k => v.ownBlock = some k) y z := ⟨hg.os, hg.tape, hg.output, by have := hg.size; simp at this; omega, fun k hk hs => by
    rw [hg.block k (by simp; omega) fun e => hs e.symm]
    exact ((Below.refl y.heap.size y).alloc (Nat.le_refl _) o).block k hk⟩
  have hv2 : ∀ k, v.ownBlock = some k → y.heap[k]? = x.heap[k]? := fun k e => by
    obtain ⟨c, hc⟩ := hvb k e
    exact hb.block k (heap_lt hc)
  have hk : Kp (fun k => v.ownBlock = some k) x z := (Kp.of_below hb).trans hk2
  have hTz : TopB z x.heap.size (fun k => x.heap.size ≤ k) (.slice A n C) us bs := hT.kpT hk2 (fun k c e hc => by
      obtain ⟨c', hc'⟩ := hvb k e
      rw [hv2 k e, hc'] at hc; injection hc with hc; injection hc with _ e2; exact absurd e2 (by decide)) (fun k c e hc => by
      obtain ⟨c', hc'⟩ := hvb k e
      rw [hv2 k e, hc'] at hc; injection hc with hc; injection hc with _ e2; exact absurd e2 (by decide))
  refine ⟨⟨_, fun k => if k < x.heap.size then f k else ts.length, ho, by simp [hlen], fun i hi hi' => ?_⟩⟩
  rw [List.length_append, List.length_singleton] at hi hi'
  by_cases h0 : i < ts.length
  · rw [List.getElem_append_left (by omega), List.getElem_append_left h0]
    refine (hone i (by omega) h0).kp hk (fun k _ _ hs c T hc => ?_) (fun k hk' => if_pos hk')
    obtain ⟨c', hc'⟩ := hvb k hs
    rw [hc'] at hc
    cases hc
    exact ⟨by decide, by decide⟩
  · have e : i = ts.length := by omega
    subst e
    have e1 : (ts ++ [⟨lab, cap, bs, lost⟩])[ts.length] = ⟨lab, cap, bs, lost⟩ := by simp
    have e2 : (tvs ++ [⟨lab, cap, A, n, C, lost⟩])[ts.length]'(by simp [hlen]) = ⟨lab, cap, A, n, C, lost⟩ := by simp [← hlen]
    rw [e1, e2]
    refine ⟨rfl, rfl, hn, rfl, ⟨us, ⟨own_down hTz.top hB, hTz.len, fun j hj hj' => own_down (hTz.rows j hj hj') hB, fun j hj k hk => ?_, hTz.inj⟩⟩, fun k hk => ?_⟩
    · exact if_neg (by have := hTz.gs j hj k hk; omega)
    · exact if_neg (by have := (hTz.top.lt k hk).1; omega)
/-- as a value -/
theorem val (h : DoT B v ts x) : ∃ A C, v = .slice A ts.length C ∧ ts.length ≤ C ∧ C ≤ maxLen ∧ (A = none → ts.length = 0 ∧ C = 0) := by
  obtain ⟨tvs, f, h1, h2, -⟩ := h.ex
  obtain ⟨A, C, hv, a, b, c, -⟩ := h1.rd
  rw [h2] at hv a c
  exact ⟨A, C, hv, a, b, c⟩
/-- as what reads -/
theorem rdT {A : Option Addr} {n C : Nat} (h : DoT B (.slice A n C) ts x) : RdT x A ts (B ≤ ·) := by
  obtain ⟨tvs, f, h1, h2, h3⟩ := h.ex
  obtain ⟨A', C', hv, -, -, -, hr⟩ := h1.rd
  cases hv
  exact RdT.of_rows (hr.mono fun _ hb => hb.1) h2 fun i hi hi' => by
    have ho := h3 i hi hi'
    exact ⟨ho.label, ho.cap, ho.n, ho.lost, ho.rdB⟩
/-- the cells of one tape -/
theorem at_ {A : Option Addr} {n C : Nat} (h : DoT B (.slice A n C) ts x) {i : Nat} (hi : i < ts.length) : ∃ g off cur A' C' f us, A = some ⟨g, off, none⟩ ∧ off = 0 ∧ x.heap[g]? = some (.cells cur 28 (0, 0)) ∧ B ≤ g ∧ x.cell? ⟨g, off + i * 4, none⟩ = some (.int .i64 ts[i].label) ∧ x.cell? ⟨g, off + i * 4 + 1, none⟩ = some (.int .i64 ts[i].cap) ∧ x.cell? ⟨g, off + i * 4 + 2, none⟩ = some (.slice A' ts[i].blocks.length C') ∧ x.cell? ⟨g, off + i * 4 + 3, none⟩ = some (.bool ts[i].lost)
    ∧ TopB x B (fun k => f k = i) (.slice A' ts[i].blocks.length C') us ts[i].blocks ∧ (∀ k, (Value.slice A' ts[i].blocks.length C').ownBlock = some k → f k = i)
    ∧ ∃ tvs : List Tv, encT.Own x B 28 (.slice A n C) tvs ∧ tvs.length = ts.length ∧ (∀ j (hj : j < tvs.length) (hj' : j < ts.length), OneF x B f j tvs[j] ts[j]) ∧ tvs[i]? = some ⟨ts[i].label, ts[i].cap, A', ts[i].blocks.length, C', ts[i].lost⟩ := by
  obtain ⟨tvs, f, h1, h2, h3⟩ := h.ex
  have h1' := h1
  have hit : i < tvs.length := by omega
  have ho := h3 i hit hi
  obtain ⟨us, hT⟩ := ho.rows
  have hone := h3
  rcases h1.2 with ⟨e, h0⟩ | ⟨g, cap, cur, e, hb, hg, hnc, hcm, hs, ht⟩
  · omega
  · cases e
    obtain ⟨A2, C2, hv, -, -, -, hr⟩ := h1'.rd
    cases hv
    obtain ⟨b, off, e, -, hc⟩ := hr.at_ hit
    cases e
    have k0 := hc 0 _ rfl
    have k1 := hc 1 _ rfl
    have k2 := hc 2 _ rfl
    have k3 := hc 3 _ rfl
    have top := ho.top
    have hl := ho.label
    have hca := ho.cap
    have hn := ho.n
    have hlo := ho.lost
    obtain ⟨t, ht'⟩ : ∃ t, t = tvs[i] := ⟨_, rfl⟩
    rw [← ht'] at k0 k1 k2 k3 hT top hl hca hn hlo
    obtain ⟨l1, l2, l3, l4, l5, l6⟩ := t
    dsimp only at k0 k1 k2 k3 hT top hl hca hn hlo
    subst hl hca hn hlo
    exact ⟨g, 0, cur, l3, l5, f, us, rfl, rfl, hg, hb, k0, k1, k2, k3, hT, top, tvs, h1', h2, hone, by rw [List.getElem?_eq_getElem hit, ← ht']⟩
/-- one tape's rows are others -/
theorem set {g n C : Nat} {cur : Array Value} {f : Nat → Nat} {tvs : List Tv} {i : Nat} {A' : Option Addr} {C' m' : Nat} {lab cap : Int} {lost : Bool} {bs' : List Tx} {v' : Value} {us' : List Value} (hown : encT.Own x B 28 (.slice (some ⟨g, 0, none⟩) n C) tvs) (hlen : tvs.length = ts.length) (hone : ∀ j (hj : j < tvs.length) (hj' : j < ts.length), OneF x B f j tvs[j] ts[j])
    (hi : i < ts.length) (hti : tvs[i]? = some ⟨lab, cap, A', m', C', lost⟩) (hx : x.heap[g]? = some (.cells cur 28 (0, 0))) (hy : y.heap[g]? = some (.cells (cur.setIfInBounds (i * 4 + 2) v') 28 (0, 0)))
    (hT : TopB y B (fun k => (if k < x.heap.size then f k else i) = i) v' us' bs') (hk : Kp (fun k => k = g ∨ (Value.slice A' m' C').ownBlock = some k) x y) (htop : ∀ k, v'.ownBlock = some k → (Value.slice A' m' C').ownBlock = some k ∨ x.heap.size ≤ k) :
    DoT B (.slice (some ⟨g, 0, none⟩) n C) (ts.set i ⟨lab, cap, bs', lost⟩) y := by
  have hit : i < tvs.length := by omega
  have hti' : tvs[i] = ⟨lab, cap, A', m', C', lost⟩ := Option.some.inj ((List.getElem?_eq_getElem hit).symm.trans hti)
  have ho := hone i hit hi
  obtain ⟨A2, C2, hv, -⟩ := hT.val
  subst hv
  have hto := ho.top
  rw [hti'] at hto
  refine ⟨⟨tvs.set i ⟨lab, cap, A2, bs'.length, C2, lost⟩, fun k => if k < x.heap.size then f k else i, hown.set hx hit (j := 2) (by decide) (by rw [hti']; rfl) hy, by simp [hlen], fun j hj hj' => ?_⟩⟩
  rw [List.length_set] at hj hj'
  by_cases e : i = j
  · subst e
    rw [List.getElem_set_self, List.getElem_set_self]
    refine ⟨rfl, rfl, rfl, rfl, ⟨us', hT⟩, fun k hk' => ?_⟩
    show (if k < x.heap.size then f k else i) = i
    split
    · rcases htop k hk' with h | h
      · exact hto k h
      · omega
    · rfl
  · rw [List.getElem_set_ne e, List.getElem_set_ne e]
    refine (hone j hj hj').kp hk (fun k hfk _ hs' c T hc => ?_) (fun k hk' => if_pos hk')
    rcases hs' with h | h
    · subst h
      rw [hx] at hc
      cases hc
      exact ⟨by decide, by decide⟩
    · exact absurd ((hto k h).symm.trans hfk) e
end DoT
end Go.Proofs.YtndofmoepjfnfaaGreat
namespace Go.Proofs.YtndofmoepjfnfaaGreat
open Go.RowKit
open Pt (Tx)

/-- tapes in a row of the call's own, all of whose rows lie in blocks below N -/
structure DoL (B N : Nat) (v : Value) (ts : List St.T) (x : World) : Prop where
  ex : ∃ tvs f, encT.Own x B 28 v tvs ∧ tvs.length = ts.length ∧ (∀ i (hi : i < tvs.length) (hi' : i < ts.length), OneF x B f i tvs[i] ts[i]) ∧ ∀ k, N ≤ k → ts.length ≤ f k
namespace DoL
variable {x y : World} {B N : Nat} {v : Value} {ts : List St.T}
theorem of (h : DoT B v ts x) : DoL B x.heap.size v ts x := by
  obtain ⟨tvs, f, h1, h2, h3⟩ := h.ex
  exact ⟨⟨tvs, fun k => if k < x.heap.size then f k else ts.length, h1, h2, fun i hi hi' => (h3 i hi hi').kp (S := fun _ => False) (Kp.of_below (Below.refl _ _)) (fun _ _ _ hs => hs.elim) (fun k hk => if_pos hk), fun k hk => by
    show ts.length ≤ if k < x.heap.size then f k else ts.length
    rw [if_neg (by omega)]; exact Nat.le_refl _⟩⟩
theorem doT (h : DoL B N v ts x) : DoT B v ts x := by
  obtain ⟨tvs, f, h1, h2, h3, -⟩ := h.ex
  exact ⟨⟨tvs, f, h1, h2, h3⟩⟩
theorem old (h : DoL B N v ts x) (hb : Below x.heap.size x y) : DoL B N v ts y := by
  obtain ⟨tvs, f, h1, h2, h3, h4⟩ := h.ex
  exact ⟨⟨tvs, f, h1.old hb, h2, fun i hi hi' => (h3 i hi hi').kp (S := fun _ => False) (Kp.of_below hb) (fun _ _ _ hs => hs.elim) (fun _ _ => rfl), h4⟩⟩
/-- where a byte lies, and what is when it is turned -/
theorem turned {A : Option Addr} {n C : Nat} (h : DoL B N (.slice A n C) ts x) {i : Nat} (hi : i < ts.length) {j : Nat} {s : Tx} (hs : ts[i].blocks[j]? = some s) {p : Nat} (hp : p < s.length) :
    ∃ g g' C' r Cr c, A = some ⟨g, 0, none⟩ ∧ x.cell? ⟨g, i * 4, none⟩ = some (.int .i64 ts[i].label) ∧ x.cell? ⟨g, i * 4 + 1, none⟩ = some (.int .i64 ts[i].cap) ∧ x.cell? ⟨g, i * 4 + 2, none⟩ = some (.slice (some ⟨g', 0, none⟩) ts[i].blocks.length C') ∧ x.cell? ⟨g, i * 4 + 3, none⟩ = some (.bool ts[i].lost)
      ∧ x.cell? ⟨g', j, none⟩ = some (.slice (some ⟨r, 0, none⟩) s.length Cr) ∧ x.heap[r]? = some (.cells c 5 (0, 0)) ∧ x.cell? ⟨r, p, none⟩ = some (.int .u8 (fi (feB s[p]))) ∧ B ≤ r ∧ r < N
      ∧ ∀ (y : World), Below x.heap.size x y → ∀ b : UInt8, DoL B N (.slice A n C) (ts.set i ⟨ts[i].label, ts[i].cap, ts[i].blocks.set j (s.set p b), ts[i].lost⟩) (y.setCell ⟨r, p, none⟩ (.int .u8 (b.toNat : Int))) := by
  obtain ⟨tvs, f, h1, h2, h3, h4⟩ := h.ex
  have hit : i < tvs.length := by omega
  have ho := h3 i hit hi
  obtain ⟨us, hT⟩ := ho.rows
  obtain ⟨A2, C2, hv, -, -, -, hr⟩ := h1.rd
  cases hv
  obtain ⟨b, off, e, -, hc⟩ := hr.at_ hit
  have hoff : off = 0 := by
    rcases h1.2 with ⟨e', h0⟩ | ⟨g, cap, cur, e', -⟩
    · omega
    · cases e'; cases e; rfl
  subst hoff
  have k0 := hc 0 _ rfl
  have k1 := hc 1 _ rfl
  have k2 := hc 2 _ rfl
  have k3 := hc 3 _ rfl
  have hl := ho.label
  have hca := ho.cap
  have hn := ho.n
  have hlo := ho.lost
  rw [hl] at k0
  rw [hca] at k1
  rw [hlo] at k3
  obtain ⟨hj', hsj⟩ := List.getElem?_eq_some_iff.1 hs
  have hj : j < us.length := by rw [hT.len]; exact hj'
  have hrj := hT.rows j hj hj'
  obtain ⟨Ar, Cr, er, q1, q2, q3, q4⟩ := hrj.rd
  rw [hsj] at hrj er q1 q3 q4
  obtain ⟨r, cp, cur, er2, hB, hg⟩ : ∃ r cap cur, us[j] = .slice (some ⟨r, 0, none⟩) s.length cap ∧ B ≤ r ∧ x.heap[r]? = some (.cells cur 5 (0, 0)) := by
    rcases hrj.2 with ⟨e, h0⟩ | ⟨g, cap, cur, e, hB, hg, _⟩
    · omega
    · exact ⟨g, cap, cur, e, hB, hg⟩
  rw [er] at er2
  injection er2 with e1 e2 e3
  subst e1 e3
  obtain ⟨b5, off5, e5, -, hc5⟩ := q4 (by omega)
  cases e5
  have hcp := hc5 p hp
  rw [Nat.zero_add] at hcp
  have hown : us[j].ownBlock = some r := by rw [er]; rfl
  have hfr : f r = i := hT.gs j hj r hown
  have hrN : r < N := by
    rcases Nat.lt_or_ge r N with h | h
    · exact h
    · have := h4 r h; omega
  obtain ⟨g', C', hv', hcell⟩ : ∃ g' C', (Value.slice tvs[i].A tvs[i].n tvs[i].C) = .slice (some ⟨g', 0, none⟩) ts[i].blocks.length C' ∧ x.cell? ⟨g', j, none⟩ = some (.slice (some ⟨r, 0, none⟩) s.length Cr) := by
    rcases hT.top.2 with ⟨_, h0⟩ | ⟨g', cap', cur', e', _, hg', _, _, _, htk⟩
    · omega
    · refine ⟨g', cap', by rw [e', hT.len], ?_⟩
      have hx : us[j]? = some (.slice (some ⟨r, 0, none⟩) s.length Cr) := by rw [List.getElem?_eq_getElem hj, er]
      rw [← htk, List.getElem?_take, if_pos (by omega), Array.getElem?_toList] at hx
      rw [heap_cell hg', hx]
  have k2' : x.cell? ⟨b, 0 + i * encT.k + 2, none⟩ = some (.slice tvs[i].A tvs[i].n tvs[i].C) := k2
  rw [hv'] at k2'
  refine ⟨b, g', C', r, Cr, cur, e, by simpa [encT] using k0, by simpa [encT] using k1, by simpa [encT] using k2', by simpa [encT] using k3, hcell, hg, hcp, hB, hrN, fun y hby z => ?_⟩
  have hkp := Kp.store y r p (.int .u8 (z.toNat : Int))
  have h1y := h1.old hby
  have hgy := (hby.block r (heap_lt hg)).trans hg
  have hT' := (hT.old hby).turned hj hj' er (s := s) hsj hp z
  refine ⟨⟨tvs, f, h1y.of_block fun k ek => hkp.block k (h1y.lt k ek).2 fun hk => ?_, by rw [List.length_set]; exact h2, fun i' hi1 hi2 => ?_, fun k hk => by rw [List.length_set]; exact h4 k hk⟩⟩
  · obtain ⟨c, hcb⟩ := h1y.block k ek
    rw [hk, hgy] at hcb
    injection hcb with hcb
    injection hcb with _ e2
    exact absurd e2 (by decide)
  · rw [List.length_set] at hi2
    by_cases ei : i = i'
    · subst ei
      rw [List.getElem_set_self]
      exact ⟨hl, hca, by show tvs[i].n = (ts[i].blocks.set j (s.set p z)).length; rw [List.length_set]; exact hn, hlo, ⟨us, hT'⟩, ho.top⟩
    · rw [List.getElem_set_ne ei]
      refine ((h3 i' hi1 hi2).kp (f' := f) (S := fun _ => False) (Kp.of_below hby) (fun _ _ _ hs => hs.elim) (fun _ _ => rfl)).kp hkp (fun k hfk _ hs' c T hc => ?_) (fun _ _ => rfl)
      rw [hs', hfr] at hfk
      exact absurd hfk ei
end DoL
end Go.Proofs.YtndofmoepjfnfaaGreat
namespace Go.Proofs.YtndofmoepjfnfaaGreat
open Go.RowKit

/-- a tape in a block -/
def tapeObj (lab cap : Int) (A : Option Addr) (n C : Nat) (lost : Bool) : Obj := .cells #[.int .i64 lab, .int .i64 cap, .slice A n C, .bool lost] 28
theorem tape4 {w : World} {g : Nat} {lab cap : Int} {A : Option Addr} {n C : Nat} {lost : Bool} (h : w.heap[g]? = some (tapeObj lab cap A n C lost)) :
    w.cell? ⟨g, 0, none⟩ = some (.int .i64 lab) ∧ w.cell? ⟨g, 1, none⟩ = some (.int .i64 cap) ∧ w.cell? ⟨g, 2, none⟩ = some (.slice A n C) ∧ w.cell? ⟨g, 3, none⟩ = some (.bool lost) := ⟨heap_cell h, heap_cell h, heap_cell h, heap_cell h⟩
theorem below_tape {lab cap : Int} {A : Option Addr} {n C : Nat} {lost : Bool} {B : Nat} {x y : World} (hb : Below x.heap.size x y) (h : x.heap[B]? = some (tapeObj lab cap A n C lost)) : y.heap[B]? = some (tapeObj lab cap A n C lost) :=
  (hb.block B (heap_lt h)).trans h
theorem tape_new (w : World) (lab cap : Int) (A : Option Addr) (n C : Nat) (lost : Bool) : Below w.heap.size w (w.alloc (tapeObj lab cap A n C lost)) ∧ (w.alloc (tapeObj lab cap A n C lost)).heap[w.heap.size]? = some (tapeObj lab cap A n C lost) :=
  ⟨(Below.refl _ _).alloc (Nat.le_refl _) _, Go.Deep.blk_alloc_new _ _⟩
end Go.Proofs.YtndofmoepjfnfaaGreat
namespace Go.Proofs.YtndofmoepjfnfaaGreat
open Go.RowKit
open Pt (Tx)

/-- pieces, each behind the next one -/
def Chain (w : World) : Option Addr → List Tx → Prop
  | P, [] => P = none
  | P, s :: ss => ∃ p P', P = some ⟨p, 0, none⟩ ∧ w.heap[p]? = some (.cells #[.pointer P', .string (tx s)] 172 (0, 0)) ∧ 0 < s.length ∧ Chain w P' ss
/-- all that pieces hold -/
def flat : List Tx → Tx
  | [] => []
  | s :: ss => flat ss ++ s
theorem Chain.keep {w w' : World} (hk : ∀ (k : Nat) (c : Array Value), w.heap[k]? = some (.cells c 172 (0, 0)) → w'.heap[k]? = w.heap[k]?) : ∀ (ss : List Tx) (P : Option Addr), Chain w P ss → Chain w' P ss
  | [], _, h => h
  | _ :: ss, _, ⟨p, P', h1, h2, h3, h4⟩ => ⟨p, P', h1, (hk p _ h2).trans h2, h3, Chain.keep hk ss P' h4⟩
/-- a Writer at block g that holds l -/
def Wr (w : World) (g : Nat) (l : Tx) : Prop :=
  ∃ P ss, w.heap[g]? = some (.cells #[.pointer P, .int .i64 (l.length : Int)] 159 (0, 0)) ∧ Chain w P ss ∧ l = flat ss
theorem Chain.kp {w w' : World} {S : Nat → Prop} {P : Option Addr} {ss : List Tx} (h : Chain w P ss) (hk : Kp S w w') (hs : ∀ (k : Nat) (c : Array Value), S k → w.heap[k]? ≠ some (.cells c 172 (0, 0))) : Chain w' P ss :=
  Chain.keep (fun k c hc => hk.block k (heap_lt hc) fun h => hs k c h hc) ss P h
theorem Wr.kp {w w' : World} {S : Nat → Prop} {g : Nat} {l : Tx} (h : Wr w g l) (hk : Kp S w w') (hg : ¬ S g) (hs : ∀ (k : Nat) (c : Array Value), S k → w.heap[k]? ≠ some (.cells c 172 (0, 0))) : Wr w' g l := by
  obtain ⟨P, ss, h1, h2, h3⟩ := h
  exact ⟨P, ss, (hk.block g (heap_lt h1) hg).trans h1, h2.kp hk hs, h3⟩
theorem Wr.old {w w' : World} {g : Nat} {l : Tx} (h : Wr w g l) (hb : Below w.heap.size w w') : Wr w' g l :=
  h.kp (S := fun _ => False) (Kp.of_below hb) (fun h => h) (fun _ _ h => h.elim)
theorem Wr.lt {w : World} {g : Nat} {l : Tx} (h : Wr w g l) : g < w.heap.size := by
  obtain ⟨P, ss, h1, _⟩ := h; exact heap_lt h1
/-- a call has written: the Writer at g holds l now, and of what was there g alone has turned -/
def Wrote (g : Nat) (l : Tx) (w : World) (e : Ending) (w' : World) : Prop := e = .returned (.tuple #[]) ∧ Wr w' g l ∧ Kp (· = g) w w'
/-- a Reader at block g with s left; its bytes lie in blocks of G -/
structure Rr (w : World) (g : Nat) (s : Cd.St) (G : Nat → Prop) : Prop where
  ex : ∃ A c, w.heap[g]? = some (.cells #[.slice A s.1.length c, .bool s.2] 154 (0, 0)) ∧ s.1.length ≤ c ∧ (A = none → s.1.length = 0 ∧ c = 0) ∧ RdL w A s.1 G
  ng : ¬ G g
theorem Rr.lt {w : World} {g : Nat} {s : Cd.St} {G : Nat → Prop} (h : Rr w g s G) : g < w.heap.size := by
  obtain ⟨A, c, h1, _⟩ := h.ex; exact heap_lt h1
theorem Rr.kp {w w' : World} {g : Nat} {s : Cd.St} {G S : Nat → Prop} (h : Rr w g s G) (hk : Kp S w w') (hg : ¬ S g) (hs : ∀ b, G b → ¬ S b) : Rr w' g s G := by
  obtain ⟨⟨A, c, h1, h2, h3, h5⟩, hn⟩ := h
  exact ⟨⟨A, c, (hk.block g (heap_lt h1) hg).trans h1, h2, h3, h5.kp hk hs⟩, hn⟩
/-- the document's own Writer: its slice is v -/
def Rw (w : World) (g base : Nat) (v : Value) (l : Tx) : Prop := w.heap[g]? = some (.cells #[v] 98 (0, 0)) ∧ OwnL w base v l
theorem Rw.lt {w : World} {g base : Nat} {v : Value} {l : Tx} (h : Rw w g base v l) : g < w.heap.size := heap_lt h.1
theorem Rw.ne {w : World} {g base : Nat} {v : Value} {l : Tx} (h : Rw w g base v l) : ∀ k, v.ownBlock = some k → k ≠ g := by
  rintro k hk rfl
  obtain ⟨c, hc⟩ := h.2.block k hk
  have := h.1
  rw [hc] at this
  injection this with this
  injection this with _ e
  exact absurd e (by decide)
theorem Rw.kp {w w' : World} {g base : Nat} {v : Value} {l : Tx} {S : Nat → Prop} (h : Rw w g base v l) (hk : Kp S w w') (hg : ¬ S g) (hs : ∀ k, v.ownBlock = some k → ¬ S k) : Rw w' g base v l :=
  ⟨(hk.block g h.lt hg).trans h.1, h.2.kp hk hs⟩
/-- g alone has turned, and rows of bytes from base on -/
def Turned (g base : Nat) (w w' : World) : Prop := Kp (fun k => k = g ∨ base ≤ k ∧ ∃ c, w.heap[k]? = some (.cells c 5 (0, 0))) w w'
theorem Turned.trans {g base : Nat} {a b c : World} (h : Turned g base a b) (k : Turned g base b c) : Turned g base a c := by
  refine ⟨k.os.trans h.os, k.tape.trans h.tape, k.output.trans h.output, Nat.le_trans h.size k.size, fun i hi hs => ?_⟩
  have e := h.block i hi hs
  rw [← e]
  refine k.block i (Nat.lt_of_lt_of_le hi h.size) fun h' => hs ?_
  rcases h' with h' | ⟨h1, x, h2⟩
  · exact .inl h'
  · exact .inr ⟨h1, x, e ▸ h2⟩
theorem Turned.alloc {g base : Nat} {a b : World} (h : Turned g base a b) (o : Obj) : Turned g base a (b.alloc o) := Kp.alloc h o
theorem Turned.below {g base B : Nat} {a b : World} (h : Turned g base a b) (hB : B ≤ a.heap.size) (hg : B ≤ g) (hb : B ≤ base) : Below B a b :=
  Kp.below h hB fun k hk => by rcases hk with rfl | hk; exact hg; omega
/-- what a call of the document's own Writer has turned -/
def RefWrote (g base : Nat) (l : Tx) (w : World) (e : Ending) (w' : World) : Prop := e = .returned (.tuple #[]) ∧ (∃ v', Rw w' g base v' l) ∧ Turned g base w w'
theorem Rw.stored {w w1 w' : World} {g base : Nat} {v v' : Value} {l l' : Tx} (h : Rw w g base v l) (hK : Turned g base w w1) (h1 : w1.heap[g]? = w.heap[g]?) (hv1 : OwnL w1 base v l) (hg : w1.grownBy w' v.ownBlock) (hv : OwnL w' base v' l') :
    w'.heap[g]? = w.heap[g]? ∧ Rw (w'.setCell ⟨g, 0, none⟩ v') g base v' l' ∧ Turned g base w (w'.setCell ⟨g, 0, none⟩ v') := by
  have hlt : g < w1.heap.size := heap_lt (h1.trans h.1)
  have e : w'.heap[g]? = w.heap[g]? := (hg.block g hlt fun e => h.ne g e.symm rfl).trans h1
  have hr : Rw w' g base v' l' ∨ True := .inr trivial
  have hb := e.trans h.1
  refine ⟨e, ⟨by rw [heap_set hb]; simp, hv.kp (Kp.store w' g 0 _) fun k hk hkg => ?_⟩, ?_⟩
  · subst hkg
    obtain ⟨c, hc⟩ := hv.block k hk
    rw [hb] at hc
    injection hc with hc
    injection hc with _ hc
    exact absurd hc (by decide)
  · refine hK.trans (Kp.setCell (Kp.grown (Kp.refl _ w1) hg fun k hk => .inr ⟨hv1.lo k hk, hv1.block k hk⟩) (.inl rfl) _)
/-- what a read answered, and left -/
def Red (v : Value) (g : Nat) (s : Cd.St) (G : Nat → Prop) (w : World) (e : Ending) (w' : World) : Prop := e = .returned v ∧ Rr w' g s G ∧ Kp (· = g) w w'
end Go.Proofs.YtndofmoepjfnfaaGreat
namespace Go.Proofs.YtndofmoepjfnfaaGreat
open Go.RowKit
open Pt (Tx)

theorem not_piece {w : World} {g : Nat} {c : Array Value} {t : TypeId} {fr : Nat × Nat} (h : w.heap[g]? = some (.cells c t fr)) (ht : t ≠ 172) : ∀ (k : Nat) (c' : Array Value), k = g → w.heap[k]? ≠ some (.cells c' 172 (0, 0)) := by
  rintro k c' rfl h'
  rw [h] at h'
  injection h' with h'
  injection h' with _ e
  exact ht e
theorem conv_lit (w : World) (l : Tx) {c : Array Value} {n : Nat} (hn : n = l.length) (hc : c = (cellsL l).toArray) :
    (convert 22 9 (.slice (some ⟨w.heap.size, 0, none⟩) n n)).run Tryz.prog (w.alloc (.cells c 5)) = .ok (.string (tx l)) (w.alloc (.cells c 5)) := by
  subst hn; subst hc
  refine RdL.str (RdL.of_cells (Go.Deep.blk_alloc_new _ _) fun j hj => ?_) _
  rw [Nat.zero_add]
  simpa using cellsL_get hj
theorem put_any (g : Nat) (l s : Tx) (w : World) (h : Wr w g l) (h0 : 0 < s.length) (hl : l.length + s.length ≤ 1000000000) :
    Calls Tryz.prog 98 #[.pointer (some ⟨g, 0, none⟩), .string (tx s)] w (Wrote g (l ++ s) w) := by
  obtain ⟨P, ss, h1, h2, h3⟩ := h
  have hlt := heap_lt h1
  have c0 : w.cell? ⟨g, 0, none⟩ = some (.pointer P) := heap_cell h1
  have c1 : w.cell? ⟨g, 1, none⟩ = some (.int .i64 (l.length : Int)) := heap_cell h1
  have f0 : w.frozen? ⟨g, 0, none⟩ = false := heap_frozen h1
  have f1 : w.frozen? ⟨g, 1, none⟩ = false := heap_frozen h1
  have es := tx_size s
  have et := tx_toList s
  have H1 := Lib.hid h1
  have H3 := Lib.hid h3
  clear h1 h3
  go_enter Tryz.func98, Tryz.ntmps98
  go_wp2
  go_end0
  have hk : Kp (· = g) w (((w.setCell ⟨g, 0, none⟩ (.pointer (some ⟨w.heap.size, 0, none⟩))).setCell ⟨g, 1, none⟩ (.int .i64 ((l.length : Int) + (s.length : Int)))).alloc (.cells #[.pointer P, .string (tx s)] 172)) :=
    (((Kp.refl (· = g) w).setCell (p := ⟨g, 0, none⟩) rfl _).setCell (p := ⟨g, 1, none⟩) rfl _).alloc _
  refine ⟨rfl, ⟨some ⟨w.heap.size, 0, none⟩, s :: ss, ?_, ⟨w.heap.size, P, rfl, ?_, h0, h2.kp hk (not_piece H1.out (by decide))⟩, by rw [H3.out]; rfl⟩, hk⟩
  · rw [Below.heap_alloc _ _ _ (by simpa [World.setCell] using hlt), heap_set (heap_set H1.out _)]
    simp
  · have := Go.Deep.blk_alloc_new ((w.setCell ⟨g, 0, none⟩ (.pointer (some ⟨w.heap.size, 0, none⟩))).setCell ⟨g, 1, none⟩ (.int .i64 ((l.length : Int) + (s.length : Int)))) (.cells #[.pointer P, .string (tx s)] 172)
    simpa [World.setCell] using this
theorem Wrote.after {g : Nat} {l : Tx} {w w1 w' : World} {e : Ending} (hk : Kp (· = g) w w1) (h : Wrote g l w1 e w') : Wrote g l w e w' := ⟨h.1, h.2.1, hk.trans h.2.2⟩
theorem wint_any (g : Nat) (l : Tx) (n : Int) (w : World) (h : Wr w g l) (hl : l.length ≤ 999999990) :
    Calls Tryz.prog 88 #[.pointer (some ⟨g, 0, none⟩), .int .i64 n] w (Wrote g (l ++ Cd.be4 n) w) := by
  have hc := conv_lit w (Cd.be4 n) (n := 4) rfl (c := #[.int .u8 (n / 16777216 % 256), .int .u8 (n / 65536 % 256), .int .u8 (n / 256 % 256), .int .u8 (n % 256)]) (by simp [cellsL, Cd.be4, Cd.b8_nat])
  go_enter Tryz.func88, Tryz.ntmps88
  go_wp2_with (go_at_call 98; (refine (put_any g l (Cd.be4 n) _ (h.old ((Below.refl _ _).alloc (Nat.le_refl _) _)) (Nat.succ_pos _) (by rw [Cd.be4_len]; omega)).mono ?_); rintro e w' hq; have HQ := Lib.hid hq; obtain ⟨rfl, _, _⟩ := hq)
  go_end0
  exact HQ.out.after ((Kp.refl _ w).alloc _)
theorem wbyte_any (g : Nat) (l : Tx) (c : UInt8) (w : World) (h : Wr w g l) (hl : l.length ≤ 999999990) :
    Calls Tryz.prog 89 #[.pointer (some ⟨g, 0, none⟩), .int .u8 (c.toNat : Int)] w (Wrote g (l ++ [c]) w) := by
  have hc := conv_lit w [c] (n := 1) rfl (c := #[.int .u8 (c.toNat : Int)]) (by simp [cellsL])
  go_enter Tryz.func89, Tryz.ntmps89
  go_wp2_with (go_at_call 98; (refine (put_any g l [c] _ (h.old ((Below.refl _ _).alloc (Nat.le_refl _) _)) (Nat.succ_pos _) (by simp; omega)).mono ?_); rintro e w' hq; have HQ := Lib.hid hq; obtain ⟨rfl, _, _⟩ := hq)
  go_end0
  exact HQ.out.after ((Kp.refl _ w).alloc _)
/-- bytes in new memory -/
def NewL (l : Tx) (w : World) (e : Ending) (w' : World) : Prop := ∃ b, e = .returned (.slice (some ⟨b, 0, none⟩) l.length l.length) ∧ w.heap.size ≤ b ∧ RdL w' (some ⟨b, 0, none⟩) l (· = b) ∧ Below w.heap.size w w'
theorem splice_text (E n : Nat) (s r : Tx) (hn : s.length = n) :
    ((cellsL (List.replicate (E + n) 0 ++ r)).toArray.toList.take E ++ Lib.byteCells (tx s).data.toList ++ (cellsL (List.replicate (E + n) 0 ++ r)).toArray.toList.drop (E + (tx s).size)).toArray = (cellsL (List.replicate E 0 ++ (s ++ r))).toArray := by
  have hb : Lib.byteCells (tx s).data.toList = cellsL s := by rw [tx_data]; rfl
  rw [hb, tx_size, hn]
  congr 1
  have e1 : cellsL (List.replicate (E + n) 0 ++ r) = cellsL (List.replicate E 0) ++ (cellsL (List.replicate n 0) ++ cellsL r) := by simp [cellsL, ← List.append_assoc, List.replicate_append_replicate]
  have e2 : (cellsL (List.replicate E (0 : UInt8))).length = E := by simp [cellsL_len]
  have e3 : (cellsL (List.replicate n (0 : UInt8))).length = n := by simp [cellsL_len]
  rw [List.toList_toArray, e1, List.take_left' e2, ← List.drop_drop, List.drop_left' e2, List.drop_left' e3, cellsL_append, cellsL_append, List.append_assoc]
/-- the same, and what the new block holds -/
def NewC (l : Tx) (w : World) (e : Ending) (w' : World) : Prop := ∃ b, e = .returned (.slice (some ⟨b, 0, none⟩) l.length l.length) ∧ w.heap.size ≤ b ∧ w'.heap[b]? = some (.cells (cellsL l).toArray 5 (0, 0)) ∧ Below w.heap.size w w'
theorem rd_of_cells {w : World} {b : Nat} {l : Tx} {fr : Nat × Nat} (h : w.heap[b]? = some (.cells (cellsL l).toArray 5 fr)) : RdL w (some ⟨b, 0, none⟩) l (· = b) :=
  RdL.of_cells h (fun j hj => by rw [Nat.zero_add]; simpa using cellsL_get hj)
theorem own_of_cells {w : World} {b B n : Nat} {l : Tx} (h : w.heap[b]? = some (.cells (cellsL l).toArray 5 (0, 0))) (hB : B ≤ b) (hn : n = l.length) (hl : l.length ≤ maxLen) : OwnL w B (.slice (some ⟨b, 0, none⟩) n n) l := by
  subst hn
  refine ⟨by rw [cellsL_len, Nat.mul_one], .inr ⟨b, l.length, (cellsL l).toArray, rfl, hB, h, Nat.le_refl _, hl, by simp [cellsL_len], ?_⟩⟩
  rw [List.toList_toArray, List.take_of_length_le (by rw [cellsL_len]; omega)]
set_option maxRecDepth 100000 in
theorem bytes_own (g : Nat) (l : Tx) (w : World) (h : Wr w g l) (hl : l.length ≤ 1000000000) :
    Calls Tryz.prog 90 #[.pointer (some ⟨g, 0, none⟩)] w (NewC l w) := by
  obtain ⟨P, ss, h1, h2, h3⟩ := h
  have hlt := heap_lt h1
  have c0 : w.cell? ⟨g, 0, none⟩ = some (.pointer P) := heap_cell h1
  have c1 : w.cell? ⟨g, 1, none⟩ = some (.int .i64 (l.length : Int)) := heap_cell h1
  have H1 := Lib.hid h1
  have H2 := Lib.hid h2
  have H3 := Lib.hid h3
  clear h1 h2 h3
  obtain ⟨L, hL⟩ : ∃ L, L = l.length := ⟨_, rfl⟩
  rw [← hL] at hl c1
  have HL := Lib.hid hL
  clear hL
  have hmk := run_make_row' (P := Tryz.prog) 22 5 (.int .u8 0) 1 Tryz.underlying22 infoB rfl .i64 .i64 L (by omega) (by omega)
  go_enter Tryz.func90, Tryz.ntmps90
  go_wp2
  go_loopw [4, 5] (fun ve vp wr => ∃ (ss : List Tx) (P : Option Addr) (r : Tx) (k : Nat), k ≤ L ∧ ve = .int .i64 (k : Int) ∧ vp = .pointer P ∧ Hid (k = (flat ss).length) ∧ Hid (l = flat ss ++ r) ∧ Hid (Chain wr P ss) ∧ Hid (wr.heap[w.heap.size]? = some (.cells (cellsL (List.replicate k 0 ++ r)).toArray 5 (0, 0))) ∧ Hid (Below w.heap.size w wr)) (fun ve _ _ => (intOf ve).toNat)
  case atStart =>
    refine ⟨ss, P, [], L, Nat.le_refl _, rfl, rfl, Lib.hid (by rw [HL.out, H3.out]), Lib.hid (by rw [H3.out, List.append_nil]), Lib.hid (H2.out.kp (Kp.of_below (S := fun _ => False) ((Below.refl _ _).alloc (Nat.le_refl _) _)) (fun _ _ h => h.elim)), Lib.hid ?_, Lib.hid ((Below.refl _ _).alloc (Nat.le_refl _) _)⟩
    rw [Go.Deep.blk_alloc_new]
    congr 2
    apply Array.ext
    · simp [size_madeCells, cellsL_len]
    · intro i h1 h2
      simp [madeCells, cellsL, Nat.mod_one]
  case round =>
    obtain ⟨ss, P, r, k, hk, rfl, rfl, HK, HF, HC, HW, HB⟩ := hrel
    cases ss with
    | nil =>
      have hP : P = none := HC.out
      subst hP
      go_wp2
      go_ret
      have hk0 : k = 0 := HK.out
      have hr : l = r := HF.out
      have hx := HW.out
      rw [hk0, ← hr] at hx
      exact ⟨w.heap.size, by rw [HL.out]; rfl, Nat.le_refl _, hx, HB.out⟩
    | cons s ss =>
      obtain ⟨p, P', rfl, hp, hs0, hch⟩ := HC.out
      have p0 : wr.cell? ⟨p, 0, none⟩ = some (.pointer P') := heap_cell hp
      have p1 : wr.cell? ⟨p, 1, none⟩ = some (.string (tx s)) := heap_cell hp
      obtain ⟨E, hE⟩ : ∃ E, E = (flat ss).length := ⟨_, rfl⟩
      obtain ⟨n, hn⟩ : ∃ n, n = s.length := ⟨_, rfl⟩
      have hkE : k = E + n := by rw [HK.out, hE, hn]; simp [flat]
      subst hkE
      have es : (tx s).size = n := by rw [tx_size, hn]
      rw [← hn] at hs0
      have HE := Lib.hid hE
      have HN := Lib.hid hn
      have HP := Lib.hid hp
      have HCH := Lib.hid hch
      have hcp : ∃ ws : World, (Builtin.copy_ #[22, 9] 3 #[.slice (some ⟨w.heap.size, E, none⟩) (L - E) (L - E), .string (tx s)]).run Tryz.prog wr.drew = .ok (goInt n) ws ∧ ws.cell? ⟨p, 0, none⟩ = some (.pointer P') ∧
          Hid (ws.heap[w.heap.size]? = some (.cells (cellsL (List.replicate E 0 ++ (s ++ r))).toArray 5 (0, 0))) ∧ Hid (Chain ws P' ss) ∧ Hid (Below w.heap.size w ws) := by
        have hsz : (cellsL (List.replicate (E + n) 0 ++ r)).toArray.size = L := by
          have := congrArg List.length HF.out
          rw [List.length_append, ← HL.out, ← HK.out] at this
          simp [cellsL_len]; omega
        have hr := Lib.run_copy_row_string (P := Tryz.prog) wr.drew 22 9 3 5 w.heap.size E (L - E) (L - E) (tx s) _ 5 Tryz.underlying22 (by kernel_rfl) (show wr.drew.heap[w.heap.size]? = _ from HW.out) (by rw [es]; omega) (by rw [es, hsz]; omega)
        rw [splice_text E n s r hn.symm, es] at hr
        have hpb : p ≠ w.heap.size := by
          rintro rfl
          have h' := HW.out
          rw [hp] at h'
          injection h' with h'
          injection h' with _ e
          exact absurd e (by decide)
        refine ⟨_, hr, ?_, Lib.hid (setRow_heap _ _ _ _ _ _ (show wr.drew.heap[w.heap.size]? = _ from HW.out)), Lib.hid (Chain.keep (fun k c hc => ?_) ss P' hch), Lib.hid (below_setRow (w := wr.drew) ⟨HB.out.os, HB.out.tape, HB.out.output, HB.out.size, HB.out.block⟩ (Nat.le_refl _) _)⟩
        · rw [World.cell?_of_block (setRow_other _ _ _ _ hpb)]; exact p0
        · refine setRow_other _ _ _ _ ?_
          rintro rfl
          have h' := HW.out
          rw [hc] at h'
          injection h' with h'
          injection h' with _ e
          exact absurd e (by decide)
      obtain ⟨ws, hcp, q0, HX, HY, HZ⟩ := hcp
      have HR : Hid (l = flat ss ++ (s ++ r)) := Lib.hid (by rw [HF.out]; simp [flat])
      clear hE hn hp hch
      go_wp2
      have hEL : E ≤ L := by omega
      have hne : ¬ L = E := by omega
      have hne' : ¬ E = L := by omega
      refine wp_region_still_tail 7 (by kernel_rfl) (by kernel_rfl) ?_
      simp only [List.take_succ_cons, List.take_zero, List.drop_succ_cons, List.drop_zero]
      repeat (first | still_step)
      refine wpStill_nil ?_
      change wpList _ _ _ _ _ wr.drew
      go_wp2
      go_roundw
      case rel => exact ⟨ss, P', s ++ r, E, hEL, rfl, rfl, Lib.hid HE.out, HR, HY, HX, HZ⟩
      case measure => simp [intOf]; omega
theorem bytes_any (g : Nat) (l : Tx) (w : World) (h : Wr w g l) (hl : l.length ≤ 1000000000) :
    Calls Tryz.prog 90 #[.pointer (some ⟨g, 0, none⟩)] w (NewL l w) :=
  (bytes_own g l w h hl).mono fun _ _ ⟨b, h1, h2, h3, h4⟩ => ⟨b, h1, h2, rd_of_cells h3, h4⟩
end Go.Proofs.YtndofmoepjfnfaaGreat
