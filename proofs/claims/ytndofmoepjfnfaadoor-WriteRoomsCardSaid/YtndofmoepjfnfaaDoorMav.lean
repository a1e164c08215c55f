/- Tapes in a row of the call's own, each tape's rows in blocks of its own, told by a function which block is whose. Steps in a row. No function of the program. append of a row of structs that may be nil. No function of the program. Steps in a row that a call makes longer by append, each block a row of its own. No function of the program. -/
import Derived.Test.YtndofmoepjfnfaaDoorMau
import Derived.Test.YtndofmoepjfnfaaDoorStRow
import Derived.Test.YtndofmoepjfnfaaDoorMac
namespace Go.Proofs.YtndofmoepjfnfaaDoor
open Go.RowKit
open Pt (Tx)

/-- steps in a row: on which tape, and the block -/
def StpR (w : World) (A : Option Addr) (l : List (Int × Tx)) (G : Nat → Prop) : Prop :=
  0 < l.length → ∃ b off, A = some ⟨b, off, none⟩ ∧ G b ∧ ∀ i (hi : i < l.length), ∃ A' C', w.cell? ⟨b, off + i * 2, none⟩ = some (.int .i64 l[i].1) ∧ w.cell? ⟨b, off + i * 2 + 1, none⟩ = some (.slice A' l[i].2.length C') ∧ l[i].2.length ≤ C' ∧ (A' = none → l[i].2.length = 0 ∧ C' = 0) ∧ RdL w A' l[i].2 G
namespace StpR
variable {w w' : World} {A : Option Addr} {l : List (Int × Tx)} {G G' S : Nat → Prop}
theorem empty (w : World) (A : Option Addr) (G : Nat → Prop) : StpR w A [] G := fun h => absurd h (by simp)
theorem keep (h : StpR w A l G) (hk : ∀ p v, G p.block → w.cell? p = some v → w'.cell? p = some v) : StpR w' A l G := by
  intro hn
  obtain ⟨b, off, e, hg, hc⟩ := h hn
  refine ⟨b, off, e, hg, fun i hi => ?_⟩
  obtain ⟨A', C', h0, h1, h2, h3, h4⟩ := hc i hi
  exact ⟨A', C', hk _ _ hg h0, hk _ _ hg h1, h2, h3, h4.keep hk⟩
theorem mono (h : StpR w A l G) (hg : ∀ b, G b → G' b) : StpR w A l G' := by
  intro hn
  obtain ⟨b, off, e, hg', hc⟩ := h hn
  refine ⟨b, off, e, hg _ hg', fun i hi => ?_⟩
  obtain ⟨A', C', h0, h1, h2, h3, h4⟩ := hc i hi
  exact ⟨A', C', h0, h1, h2, h3, h4.mono hg⟩
theorem kp (h : StpR w A l G) (hk : Kp S w w') (hs : ∀ b, G b → ¬ S b) : StpR w' A l G := h.keep fun _ _ hg hc => hk.cell hc (hs _ hg)
theorem old (h : StpR w A l G) (hb : Below w.heap.size w w') : StpR w' A l G := h.keep fun _ _ _ hc => (hb.cell (World.block_lt_of_cell? _ _ hc)).trans hc
theorem below {B : Nat} (h : StpR w A l (· < B)) (hb : Below B w w') : StpR w' A l (· < B) := h.keep fun _ _ hg hc => (hb.cell hg).trans hc
theorem in_ (h : StpR w A l G) : StpR w A l (fun b => G b ∧ b < w.heap.size) := by
  intro hn
  obtain ⟨b, off, e, hg, hc⟩ := h hn
  refine ⟨b, off, e, ⟨hg, ?_⟩, fun i hi => ?_⟩
  · obtain ⟨_, _, h0, _⟩ := hc 0 hn
    exact World.block_lt_of_cell? _ _ h0
  · obtain ⟨A', C', h0, h1, h2, h3, h4⟩ := hc i hi
    exact ⟨A', C', h0, h1, h2, h3, h4.in_⟩
theorem at_ (h : StpR w A l G) {i : Nat} (hi : i < l.length) : ∃ b off A' C', A = some ⟨b, off, none⟩ ∧ G b ∧ w.cell? ⟨b, off + i * 2, none⟩ = some (.int .i64 l[i].1) ∧ w.cell? ⟨b, off + i * 2 + 1, none⟩ = some (.slice A' l[i].2.length C') ∧ l[i].2.length ≤ C' ∧ (A' = none → l[i].2.length = 0 ∧ C' = 0) ∧ RdL w A' l[i].2 G := by
  obtain ⟨b, off, e, hg, hc⟩ := h (by omega)
  obtain ⟨A', C', h0, h1, h2, h3, h4⟩ := hc i hi
  exact ⟨b, off, A', C', e, hg, h0, h1, h2, h3, h4⟩
end StpR
/-- one cell of one struct of a row is turned -/
theorem Enc.cells_set {α : Type} (E : Enc α) {j : Nat} (hj : j < E.k) {u : Value} {t : α} : ∀ (l : List α) (i : Nat) (hi : i < l.length), E.enc t = (E.enc l[i]).set j u → E.cells (l.set i t) = (E.cells l).set (i * E.k + j) u
  | [], i, hi, _ => absurd hi (by simp)
  | x :: l, 0, hi, h => by
    rw [List.set_cons_zero, Enc.cells_cons, Enc.cells_cons, Nat.zero_mul, Nat.zero_add, List.set_append_left _ _ (by rw [E.len]; exact hj)]
    rw [h]; rfl
  | x :: l, i + 1, hi, h => by
    have h' : i < l.length := by simpa using hi
    rw [List.set_cons_succ, Enc.cells_cons, Enc.cells_cons, List.set_append_right _ _ (by rw [E.len, Nat.succ_mul]; omega), E.len, show (i + 1) * E.k + j - E.k = i * E.k + j by rw [Nat.succ_mul]; omega]
    rw [Enc.cells_set E hj l i h' h]
theorem Enc.Own.set {α : Type} {E : Enc α} {x y : World} {B g n C : Nat} {T : TypeId} {l : List α} {cur : Array Value} (h : E.Own x B T (.slice (some ⟨g, 0, none⟩) n C) l) (hx : x.heap[g]? = some (.cells cur T (0, 0))) {i j : Nat} (hi : i < l.length) (hj : j < E.k) {u : Value} {t : α} (ht : E.enc t = (E.enc l[i]).set j u)
    (hy : y.heap[g]? = some (.cells (cur.setIfInBounds (i * E.k + j) u) T (0, 0))) : E.Own y B T (.slice (some ⟨g, 0, none⟩) n C) (l.set i t) := by
  refine ⟨by rw [Enc.cells_len], ?_⟩
  rcases h.2 with ⟨e, _⟩ | ⟨g', cap, cur', e, hb, hg, hnc, hcm, hs, htk⟩
  · cases e
  · cases e
    rw [hx] at hg
    cases hg
    refine .inr ⟨g, C, cur.setIfInBounds (i * E.k + j) u, by rw [List.length_set], hb, hy, by rw [List.length_set]; exact hnc, hcm, by simpa using hs, ?_⟩
    rw [Enc.cells_set E hj l i hi ht, ← htk, List.length_set, Array.toList_setIfInBounds, List.take_set]
/-- a tape whose rows lie in blocks of number i -/
structure OneF (x : World) (B : Nat) (f : Nat → Nat) (i : Nat) (t : Tv) (s : St.T) : Prop where
  label : t.label = s.label
  cap : t.cap = s.cap
  n : t.n = s.blocks.length
  lost : t.lost = s.lost
  rows : ∃ us, TopB x B (fun k => f k = i) (.slice t.A t.n t.C) us s.blocks
  top : ∀ k, (Value.slice t.A t.n t.C).ownBlock = some k → f k = i
namespace OneF
variable {x y : World} {B : Nat} {f f' : Nat → Nat} {i : Nat} {t : Tv} {s : St.T}
/-- what is not touched is as it was, whatever the function says of blocks that were not there -/
theorem kp {S : Nat → Prop} (h : OneF x B f i t s) (hk : Kp S x y) (hs : ∀ k, f k = i → k < x.heap.size → S k → ∀ c T, x.heap[k]? = some (.cells c T (0, 0)) → T ≠ 26 ∧ T ≠ 5) (hf : ∀ k, k < x.heap.size → f' k = f k) : OneF y B f' i t s := by
  obtain ⟨us, ht⟩ := h.rows
  refine ⟨h.label, h.cap, h.n, h.lost, ⟨us, ⟨own_of ht.top fun k e => ?_, ht.len, fun j hj hj' => (ht.rows j hj hj').of_block fun k e => ?_, fun j hj k e => ?_, ht.inj⟩⟩, fun k e => ?_⟩
  · obtain ⟨c, hc⟩ := own_blk ht.top k e
    exact hk.block k (heap_lt hc) fun h' => (hs k (h.top k e) (heap_lt hc) h' c _ hc).1 rfl
  · obtain ⟨c, hc⟩ := (ht.rows j hj hj').block k e
    exact hk.block k (heap_lt hc) fun h' => (hs k (ht.gs j hj k e) (heap_lt hc) h' c _ hc).2 rfl
  · rw [hf k ((ht.rows j hj (by rw [← ht.len]; exact hj)).lt k e)]
    exact ht.gs j hj k e
  · rw [hf k (ht.top.lt k e).2]
    exact h.top k e
theorem rdB (h : OneF x B f i t s) : RdB x t.A s.blocks (B ≤ ·) := by
  obtain ⟨us, ht⟩ := h.rows
  exact ht.rdB
end OneF
/-- tapes in a row of the call's own -/
structure DoT (B : Nat) (v : Value) (ts : List St.T) (x : World) : Prop where
  ex : ∃ tvs f, encT.Own x B 35 v tvs ∧ tvs.length = ts.length ∧ ∀ i (hi : i < tvs.length) (hi' : i < ts.length), OneF x B f i tvs[i] ts[i]
namespace DoT
variable {x y z : World} {B : Nat} {v v' : Value} {ts : List St.T}
theorem start (x : World) (B : Nat) : DoT B (.slice none 0 0) [] x := ⟨⟨[], fun _ => 0, Enc.Own.nil _ _ _, rfl, fun i hi => absurd hi (by simp)⟩⟩
theorem old (h : DoT B v ts x) (hb : Below x.heap.size x y) : DoT B v ts y := by
  obtain ⟨tvs, f, h1, h2, h3⟩ := h.ex
  exact ⟨⟨tvs, f, h1.old hb, h2, fun i hi hi' => (h3 i hi hi').kp (S := fun _ => False) (Kp.of_below hb) (fun _ _ _ hs => hs.elim) (fun _ _ => rfl)⟩⟩
/-- one tape more -/
theorem push {tvs : List Tv} {f : Nat → Nat} {lab cap : Int} {A : Option Addr} {n C : Nat} {us : List Value} {bs : List Tx} {lost : Bool} {o : Obj} (hown : encT.Own x B 35 v tvs) (hlen : tvs.length = ts.length) (hone : ∀ i (hi : i < tvs.length) (hi' : i < ts.length), OneF x B f i tvs[i] ts[i])
    (hB : B ≤ x.heap.size) (hb : Below x.heap.size x y) (hn : n = bs.length) (hT : TopB y x.heap.size (fun k => x.heap.size ≤ k) (.slice A n C) us bs) (hg : (y.alloc o).grownBy z v.ownBlock) (ho : encT.Own z B 35 v' (tvs ++ [⟨lab, cap, A, n, C, lost⟩])) :
    DoT B v' (ts ++ [⟨lab, cap, bs, lost⟩]) z := by
  have hvb := hown.block
  have hk2 : Kp (fun k => v.ownBlock = some k) y z := ⟨hg.os, hg.tape, hg.output, by have := hg.size; simp at this; omega, fun k hk hs => by
    rw [hg.block k (by simp; omega) fun e => hs e.symm]
    exact ((Below.refl y.heap.size y).alloc (Nat.le_refl _) o).block k hk⟩
  have hv2 : ∀ k, v.ownBlock = some k → y.heap[k]? = x.heap[k]? := fun k e => by
    obtain ⟨c, hc⟩ := hvb k e
    exact hb.block k (heap_lt hc)
  have hk : Kp (fun k => v.ownBlock = some k) x z := (Kp.of_below hb).trans hk2
  have hTz : TopB z x.heap.size (fun k => x.heap.size ≤ k) (.slice A n C) us bs := hT.kpT hk2 (fun k c e hc => by
      obtain ⟨c', hc'⟩ := hvb k e
      rw [hv2 k e, hc'] at hc; injection hc with hc; injection hc with _ e2; exact absurd e2 (by decide)) (fun k c e hc => by
      obtain ⟨c', hc'⟩ := hvb k e
      rw [hv2 k e, hc'] at hc; injection hc with hc; injection hc with _ e2; exact absurd e2 (by decide))
  refine ⟨⟨_, fun k => if k < x.heap.size then f k else ts.length, ho, by simp [hlen], fun i hi hi' => ?_⟩⟩
  rw [List.length_append, List.length_singleton] at hi hi'
  by_cases h0 : i < ts.length
  · rw [List.getElem_append_left (by omega), List.getElem_append_left h0]
    refine (hone i (by omega) h0).kp hk (fun k _ _ hs c T hc => ?_) (fun k hk' => if_pos hk')
    obtain ⟨c', hc'⟩ := hvb k hs
    rw [hc'] at hc
    cases hc
    exact ⟨by decide, by decide⟩
  · have e : i = ts.length := by omega
    subst e
    have e1 : (ts ++ [⟨lab, cap, bs, lost⟩])[ts.length] = ⟨lab, cap, bs, lost⟩ := by simp
    have e2 : (tvs ++ [⟨lab, cap, A, n, C, lost⟩])[ts.length]'(by simp [hlen]) = ⟨lab, cap, A, n, C, lost⟩ := by simp [← hlen]
    rw [e1, e2]
    refine ⟨rfl, rfl, hn, rfl, ⟨us, ⟨own_down hTz.top hB, hTz.len, fun j hj hj' => own_down (hTz.rows j hj hj') hB, fun j hj k hk => ?_, hTz.inj⟩⟩, fun k hk => ?_⟩
    · exact if_neg (by have := hTz.gs j hj k hk; omega)
    · exact if_neg (by have := (hTz.top.lt k hk).1; omega)
/-- as a value -/
theorem val (h : DoT B v ts x) : ∃ A C, v = .slice A ts.length C ∧ ts.length ≤ C ∧ C ≤ maxLen ∧ (A = none → ts.length = 0 ∧ C = 0) := by
  obtain ⟨tvs, f, h1, h2, -⟩ := h.ex
  obtain ⟨A, C, hv, a, b, c, -⟩ := h1.rd
  rw [h2] at hv a c
  exact ⟨A, C, hv, a, b, c⟩
/-- as what reads -/
theorem rdT {A : Option Addr} {n C : Nat} (h : DoT B (.slice A n C) ts x) : RdT x A ts (B ≤ ·) := by
  obtain ⟨tvs, f, h1, h2, h3⟩ := h.ex
  obtain ⟨A', C', hv, -, -, -, hr⟩ := h1.rd
  cases hv
  exact RdT.of_rows (hr.mono fun _ hb => hb.1) h2 fun i hi hi' => by
    have ho := h3 i hi hi'
    exact ⟨ho.label, ho.cap, ho.n, ho.lost, ho.rdB⟩
/-- the cells of one tape -/
theorem at_ {A : Option Addr} {n C : Nat} (h : DoT B (.slice A n C) ts x) {i : Nat} (hi : i < ts.length) : ∃ g off cur A' C' f us, A = some ⟨g, off, none⟩ ∧ off = 0 ∧ x.heap[g]? = some (.cells cur 35 (0, 0)) ∧ B ≤ g ∧ x.cell? ⟨g, off + i * 4, none⟩ = some (.int .i64 ts[i].label) ∧ x.cell? ⟨g, off + i * 4 + 1, none⟩ = some (.int .i64 ts[i].cap) ∧ x.cell? ⟨g, off + i * 4 + 2, none⟩ = some (.slice A' ts[i].blocks.length C') ∧ x.cell? ⟨g, off + i * 4 + 3, none⟩ = some (.bool ts[i].lost)
    ∧ TopB x B (fun k => f k = i) (.slice A' ts[i].blocks.length C') us ts[i].blocks ∧ (∀ k, (Value.slice A' ts[i].blocks.length C').ownBlock = some k → f k = i)
    ∧ ∃ tvs : List Tv, encT.Own x B 35 (.slice A n C) tvs ∧ tvs.length = ts.length ∧ (∀ j (hj : j < tvs.length) (hj' : j < ts.length), OneF x B f j tvs[j] ts[j]) ∧ tvs[i]? = some ⟨ts[i].label, ts[i].cap, A', ts[i].blocks.length, C', ts[i].lost⟩ := by
  obtain ⟨tvs, f, h1, h2, h3⟩ := h.ex
  have h1' := h1
  have hit : i < tvs.length := by omega
  have ho := h3 i hit hi
  obtain ⟨us, hT⟩ := ho.rows
  have hone := h3
  rcases h1.2 with ⟨e, h0⟩ | ⟨g, cap, cur, e, hb, hg, hnc, hcm, hs, ht⟩
  · omega
  · cases e
    obtain ⟨A2, C2, hv, -, -, -, hr⟩ := h1'.rd
    cases hv
    obtain ⟨b, off, e, -, hc⟩ := hr.at_ hit
    cases e
    have k0 := hc 0 _ rfl
    have k1 := hc 1 _ rfl
    have k2 := hc 2 _ rfl
    have k3 := hc 3 _ rfl
    have top := ho.top
    have hl := ho.label
    have hca := ho.cap
    have hn := ho.n
    have hlo := ho.lost
    obtain ⟨t, ht'⟩ : ∃ t, t = tvs[i] := ⟨_, rfl⟩
    rw [← ht'] at k0 k1 k2 k3 hT top hl hca hn hlo
    obtain ⟨l1, l2, l3, l4, l5, l6⟩ := t
    dsimp only at k0 k1 k2 k3 hT top hl hca hn hlo
    subst hl hca hn hlo
    exact ⟨g, 0, cur, l3, l5, f, us, rfl, rfl, hg, hb, k0, k1, k2, k3, hT, top, tvs, h1', h2, hone, by rw [List.getElem?_eq_getElem hit, ← ht']⟩
/-- one tape's rows are others -/
theorem set {g n C : Nat} {cur : Array Value} {f : Nat → Nat} {tvs : List Tv} {i : Nat} {A' : Option Addr} {C' m' : Nat} {lab cap : Int} {lost : Bool} {bs' : List Tx} {v' : Value} {us' : List Value} (hown : encT.Own x B 35 (.slice (some ⟨g, 0, none⟩) n C) tvs) (hlen : tvs.length = ts.length) (hone : ∀ j (hj : j < tvs.length) (hj' : j < ts.length), OneF x B f j tvs[j] ts[j])
    (hi : i < ts.length) (hti : tvs[i]? = some ⟨lab, cap, A', m', C', lost⟩) (hx : x.heap[g]? = some (.cells cur 35 (0, 0))) (hy : y.heap[g]? = some (.cells (cur.setIfInBounds (i * 4 + 2) v') 35 (0, 0)))
    (hT : TopB y B (fun k => (if k < x.heap.size then f k else i) = i) v' us' bs') (hk : Kp (fun k => k = g ∨ (Value.slice A' m' C').ownBlock = some k) x y) (htop : ∀ k, v'.ownBlock = some k → (Value.slice A' m' C').ownBlock = some k ∨ x.heap.size ≤ k) :
    DoT B (.slice (some ⟨g, 0, none⟩) n C) (ts.set i ⟨lab, cap, bs', lost⟩) y := by
  have hit : i < tvs.length := by omega
  have hti' : tvs[i] = ⟨lab, cap, A', m', C', lost⟩ := Option.some.inj ((List.getElem?_eq_getElem hit).symm.trans hti)
  have ho := hone i hit hi
  obtain ⟨A2, C2, hv, -⟩ := hT.val
  subst hv
  have hto := ho.top
  rw [hti'] at hto
  refine ⟨⟨tvs.set i ⟨lab, cap, A2, bs'.length, C2, lost⟩, fun k => if k < x.heap.size then f k else i, hown.set hx hit (j := 2) (by decide) (by rw [hti']; rfl) hy, by simp [hlen], fun j hj hj' => ?_⟩⟩
  rw [List.length_set] at hj hj'
  by_cases e : i = j
  · subst e
    rw [List.getElem_set_self, List.getElem_set_self]
    refine ⟨rfl, rfl, rfl, rfl, ⟨us', hT⟩, fun k hk' => ?_⟩
    show (if k < x.heap.size then f k else i) = i
    split
    · rcases htop k hk' with h | h
      · exact hto k h
      · omega
    · rfl
  · rw [List.getElem_set_ne e, List.getElem_set_ne e]
    refine (hone j hj hj').kp hk (fun k hfk _ hs' c T hc => ?_) (fun k hk' => if_pos hk')
    rcases hs' with h | h
    · subst h
      rw [hx] at hc
      cases hc
      exact ⟨by decide, by decide⟩
    · exact absurd ((hto k h).symm.trans hfk) e
end DoT
end Go.Proofs.YtndofmoepjfnfaaDoor
namespace Go.Proofs.YtndofmoepjfnfaaDoor
open Go.RowKit

theorem below_objS {o : Obj} {B : Nat} {x y : World} (hb : Below x.heap.size x y) (h : x.heap[B]? = some o) : y.heap[B]? = some o := (hb.block B (heap_lt h)).trans h
theorem Enc.Rd.newsO {α : Type} {E : Enc α} {w : World} {ad : Addr} {l : List α} {G : Nat → Prop} (h : E.Rd w (some ad) l G) : ∀ j u, (E.cells l)[j]? = some u → w.cell? (ad.add j) = some u := by
  intro j u hu
  have hj : j < l.length * E.k := by
    have := (List.getElem?_eq_some_iff.1 hu).1
    rwa [E.cells_len] at this
  have h0 : 0 < l.length := by
    rcases Nat.eq_zero_or_pos l.length with e | e
    · rw [e, Nat.zero_mul] at hj; exact absurd hj (Nat.not_lt_zero _)
    · exact e
  obtain ⟨b, off, e, _, hc⟩ := h h0
  cases e
  have hi : j / E.k < l.length := (Nat.div_lt_iff_lt_mul E.pos).2 hj
  have hm := Nat.mod_lt j E.pos
  have hd : j = j / E.k * E.k + j % E.k := by have := Nat.div_add_mod j E.k; rw [Nat.mul_comm]; omega
  have hx := E.cells_get l (j / E.k) (j % E.k) hm hi
  rw [← hd, hu] at hx
  have := hc (j / E.k) hi (j % E.k) u hx.symm
  rw [addr_add, show off + j = off + j / E.k * E.k + j % E.k by omega]
  exact this
/-- append of what may be nil -/
theorem wpList_append_stO {P : Program} {α : Type} (E : Enc α) (w : World) {ops : Array Oper} {rest : List Oper} {o : Oper} {a : Act} {Q : Exit → Act → World → Prop} (hgd : o.guard = none) (s x : Operand) (t : TypeId)
    (ho : o.op = .call { callee := .builtin .append, args := #[s, x], argTypes := #[t, t] })
    (base : Nat) (e : TypeId) (z : Value) (bytes : Nat) (ht : P.underlying t = some (.slice e)) (hi : (P.info? e).map (fun i => (i.zero, i.size, i.bytes)) = some (some z, E.k, bytes)) (hzs : z.cells.size = E.k)
    (v : Value) (l : List α) (hs : a.eval s = v) (hown : E.Own w base e v l)
    (A : Option Addr) (m c : Nat) (l' : List α) (G : Nat → Prop) (hx : a.eval x = .slice A m c) (hm : m = l'.length) (hA : A = none → m = 0 ∧ c = 0) (hrd : E.Rd w A l' G)
    (h63 : l.length + m ≤ maxLen) (hbytes : (l.length + m) * bytes ≤ 140737488355328) (hbase : base ≤ w.heap.size)
    (h : ∀ v' w', E.Own w' base e v' (l ++ l') → w.grownBy w' v.ownBlock → wpList P ops Q rest (a.put o.dst v') w') : wpList P ops Q (o :: rest) a w := by
  cases A with
  | none =>
    obtain ⟨rfl, rfl⟩ := hA rfl
    have hn : l' = [] := List.length_eq_zero_iff.1 hm.symm
    subst hn
    obtain ⟨i0, hi', hz0, hz1, hz2⟩ := info_parts hi
    refine wpList_append_own_none hgd s x t ho base e i0 E.k ht hi' v l.length (E.cells l) hs hown hx (h v w ?_ (grown_refl w _))
    rw [List.append_nil]; exact hown
  | some ad => exact wpList_append_st' E w hgd s x t ho base e z bytes ht hi hzs v l hs hown ad m c l' hx hm hrd.newsO h63 hbytes hbase h
/-- a row of another type is as it was when one has grown -/
theorem Enc.Own.beside {α β : Type} {E : Enc α} {F : Enc β} {w w' : World} {b1 b2 : Nat} {t1 t2 : TypeId} {v1 v2 : Value} {l1 : List α} {l2 : List β} (h1 : E.Own w b1 t1 v1 l1) (h2 : F.Own w b2 t2 v2 l2) (ht : t1 ≠ t2) (hg : w.grownBy w' v1.ownBlock) : F.Own w' b2 t2 v2 l2 :=
  h2.of_block fun k hk => hg.block k (h2.lt k hk).2 fun e => by
    obtain ⟨c, hc⟩ := h1.block k e.symm
    obtain ⟨c', hc'⟩ := h2.block k hk
    rw [hc] at hc'
    injection hc' with hc'
    injection hc' with _ hc'
    exact ht hc'
/-- append of some structs, as an equation -/
theorem apE_run {P : Program} {α : Type} (E : Enc α) (w : World) (t : TypeId) (base : Nat) (e : TypeId) (z : Value) (bytes : Nat) (ht : P.underlying t = some (.slice e)) (hi : (P.info? e).map (fun i => (i.zero, i.size, i.bytes)) = some (some z, E.k, bytes)) (hzs : z.cells.size = E.k)
    (v : Value) (l : List α) (hown : E.Own w base e v l) (ad : Addr) (m c : Nat) (l' : List α) (hm : m = l'.length) (hnews : ∀ j u, (E.cells l')[j]? = some u → w.cell? (ad.add j) = some u)
    (h63 : l.length + m ≤ maxLen) (hbytes : (l.length + m) * bytes ≤ 140737488355328) (hbase : base ≤ w.heap.size) (t0 : TypeId := e) :
    ∃ v' w', (∀ ty, (Builtin.append_ #[t, t] ty #[v, .slice (some ad) m c]).run P w = .ok v' w') ∧ E.Own w' base e v' (l ++ l') ∧ w.grownBy w' v.ownBlock := by
  obtain ⟨i0, hi, hz0, hz1, hz2⟩ := info_parts hi
  subst hm
  obtain ⟨v', w', h1, h2, h3, _⟩ := run_append_own (P := P) w base t t0 e i0 z E.k bytes ht hi hz0 hz1 hz2 hzs E.pos v l.length (E.cells l) hown ad l'.length c (E.cells l') (E.cells_len l') hnews (E.cells_all l') h63 hbytes hbase
  exact ⟨v', w', fun ty => h1, by unfold Enc.Own; rw [E.cells_append, List.length_append]; exact h2, h3⟩
end Go.Proofs.YtndofmoepjfnfaaDoor
namespace Go.Proofs.YtndofmoepjfnfaaDoor
open Go.RowKit
open Pt (Tx)

/-- a step's two cells -/
structure Sv where
  tape : Int
  A : Option Addr
  n : Nat
  C : Nat
def encS : Enc Sv where
  k := 2
  pos := by decide
  enc s := [.int .i64 s.tape, .slice s.A s.n s.C]
  len _ := rfl
  one s u hu := by
    simp only [List.mem_cons, List.not_mem_nil, or_false] at hu
    rcases hu with rfl | rfl <;> rfl
theorem infoStep : (Tryd.prog.info? 28).map (fun i => (i.zero, i.size, i.bytes)) = some (some (.agg #[.int .i64 0, .slice none 0 0]), 2, 32) := by kernel_rfl
/-- what a step's cells point to -/
structure SvIs (x : World) (B : Nat) (s : Sv) (p : Int × Tx) : Prop where
  tape : s.tape = p.1
  n : s.n = p.2.length
  own : OwnL x B (.slice s.A s.n s.C) p.2
theorem SvIs.kp {x y : World} {B : Nat} {S : Nat → Prop} {s : Sv} {p : Int × Tx} (h : SvIs x B s p) (hk : Kp S x y) (hs : ∀ k c, S k → x.heap[k]? ≠ some (.cells c 5 (0, 0))) : SvIs y B s p :=
  ⟨h.tape, h.n, h.own.of_block fun k e => by
    obtain ⟨c, hc⟩ := h.own.block k e
    exact hk.block k (heap_lt hc) fun hs' => hs k c hs' hc⟩
/-- what is of another type stays as it was when steps grow -/
theorem grown_typed {x y z : World} {B : Nat} {v : Value} {svs : List Sv} (hown : encS.Own x B 28 v svs) (hb : Below x.heap.size x y) (hg : y.grownBy z v.ownBlock) : Kp (fun k => v.ownBlock = some k) x z ∧ (∀ (k : Nat) (c : Array Value) (t : TypeId), x.heap[k]? = some (.cells c t (0, 0)) → t ≠ 28 → z.heap[k]? = some (.cells c t (0, 0))) ∧ (∀ (k : Nat) (c : Array Value) (t : TypeId), v.ownBlock = some k → x.heap[k]? = some (.cells c t (0, 0)) → t = 28) := by
  have hk : Kp (fun k => v.ownBlock = some k) x z := (Kp.of_below hb).grown hg fun k e => e
  have ht : ∀ (k : Nat) (c : Array Value) (t : TypeId), v.ownBlock = some k → x.heap[k]? = some (.cells c t (0, 0)) → t = 28 := fun k c t e hc => by
    obtain ⟨c', hc'⟩ := hown.block k e
    rw [hc'] at hc
    injection hc with hc
    injection hc with _ e2
    exact e2.symm
  exact ⟨hk, fun k c t hc hne => (hk.block k (heap_lt hc) fun e => hne (ht k c t e hc)).trans hc, ht⟩
/-- steps in a row of the call's own -/
structure StO (B : Nat) (v : Value) (l : List (Int × Tx)) (x : World) : Prop where
  ex : ∃ svs, encS.Own x B 28 v svs ∧ svs.length = l.length ∧ ∀ i (hi : i < svs.length) (hi' : i < l.length), SvIs x B svs[i] l[i]
namespace StO
variable {x y z : World} {B : Nat} {v v' : Value} {l : List (Int × Tx)}
theorem start (x : World) (B : Nat) : StO B (.slice none 0 0) [] x := ⟨⟨[], Enc.Own.nil _ _ _, rfl, fun i hi => absurd hi (by simp)⟩⟩
/-- what is of another type may turn -/
theorem kp {S : Nat → Prop} (h : StO B v l x) (hk : Kp S x y) (hs : ∀ k c t, S k → x.heap[k]? = some (.cells c t (0, 0)) → t ≠ 28 ∧ t ≠ 5) : StO B v l y := by
  obtain ⟨svs, h1, h2, h3⟩ := h.ex
  refine ⟨⟨svs, h1.of_block fun k e => ?_, h2, fun i hi hi' => (h3 i hi hi').kp hk fun k c e hc => (hs k c _ e hc).2 rfl⟩⟩
  obtain ⟨c, hc⟩ := h1.block k e
  exact hk.block k (heap_lt hc) fun e' => (hs k c _ e' hc).1 rfl
theorem old (h : StO B v l x) (hb : Below x.heap.size x y) : StO B v l y := h.kp (S := fun _ => False) (Kp.of_below hb) (fun _ _ _ hs => hs.elim)
/-- one step more -/
theorem push2 {svs : List Sv} {t : Int} {A : Option Addr} {n C : Nat} {s : Tx} (hown : encS.Own x B 28 v svs) (hlen : svs.length = l.length) (hone : ∀ i (hi : i < svs.length) (hi' : i < l.length), SvIs x B svs[i] l[i])
    (hb : Below x.heap.size x y) (hn : n = s.length) (hs : OwnL y B (.slice A n C) s) (hg : y.grownBy z v.ownBlock) (ho : encS.Own z B 28 v' (svs ++ [⟨t, A, n, C⟩])) : StO B v' (l ++ [(t, s)]) z := by
  have hvb := hown.block
  have hk2 : Kp (fun k => v.ownBlock = some k) y z := (Kp.refl _ y).grown hg fun k e => e
  have hne : ∀ k c, v.ownBlock = some k → x.heap[k]? ≠ some (.cells c 5 (0, 0)) := fun k c e hc => by
    obtain ⟨c', hc'⟩ := hvb k e
    rw [hc'] at hc; injection hc with hc; injection hc with _ e2; exact absurd e2 (by decide)
  have hne2 : ∀ k c, v.ownBlock = some k → y.heap[k]? ≠ some (.cells c 5 (0, 0)) := fun k c e hc => by
    obtain ⟨c', hc'⟩ := hvb k e
    rw [hb.block k (heap_lt hc')] at hc
    exact hne k c e hc
  have hk : Kp (fun k => v.ownBlock = some k) x z := (Kp.of_below hb).trans hk2
  refine ⟨⟨_, ho, by simp [hlen], fun i hi hi' => ?_⟩⟩
  rw [List.length_append, List.length_singleton] at hi hi'
  by_cases h0 : i < l.length
  · rw [List.getElem_append_left (by omega), List.getElem_append_left h0]
    exact (hone i (by omega) h0).kp hk hne
  · have e : i = l.length := by omega
    subst e
    have e1 : (l ++ [(t, s)])[l.length] = (t, s) := by simp
    have e2 : (svs ++ [⟨t, A, n, C⟩])[l.length]'(by simp [hlen]) = ⟨t, A, n, C⟩ := by simp [← hlen]
    rw [e1, e2]
    exact SvIs.kp ⟨rfl, hn, hs⟩ hk2 hne2
/-- as what reads -/
theorem rd (h : StO B v l x) : ∃ A C, v = .slice A l.length C ∧ l.length ≤ C ∧ C ≤ maxLen ∧ (A = none → l.length = 0 ∧ C = 0) ∧ StpR x A l (B ≤ ·) := by
  obtain ⟨svs, h1, h2, h3⟩ := h.ex
  obtain ⟨A, C, hv, a, b, c, hr⟩ := h1.rd
  rw [h2] at hv a c
  refine ⟨A, C, hv, a, b, c, fun hn => ?_⟩
  obtain ⟨g, off, e, hg, hc⟩ := hr (by omega)
  refine ⟨g, off, e, hg.1, fun i hi => ?_⟩
  have hi' : i < svs.length := by omega
  have hs := h3 i hi' hi
  obtain ⟨A', C', hv', k1, k2, k3, k4⟩ := hs.own.rd
  injection hv' with x1 x2 x3
  refine ⟨svs[i].A, svs[i].C, ?_, ?_, ?_, ?_, ?_⟩
  · rw [← hs.tape]; exact hc i hi' 0 _ rfl
  · rw [← x2]; exact hc i hi' 1 _ rfl
  · rw [x3]; exact k1
  · rw [x1, x3]; exact k3
  · rw [x1]; exact k4.mono fun _ h => h.1
end StO
end Go.Proofs.YtndofmoepjfnfaaDoor
