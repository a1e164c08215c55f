/- append of a row of structs that may be nil. No function of the program. -/
import Derived.Test.YtjhbmijdpcbbiaaStRow
import Derived.Test.YtjhbmijdpcbbiaaApOpt
namespace Go.Proofs.Ytjhbmijdpcbbiaa
open Go.RowKit

theorem below_objS {o : Obj} {B : Nat} {x y : World} (hb : Below x.heap.size x y) (h : x.heap[B]? = some o) : y.heap[B]? = some o := (hb.block B (heap_lt h)).trans h
theorem Enc.Rd.news {α : Type} {E : Enc α} {w : World} {ad : Addr} {l : List α} {G : Nat → Prop} (h : E.Rd w (some ad) l G) : ∀ j u, (E.cells l)[j]? = some u → w.cell? (ad.add j) = some u := by
  intro j u hu
  have hj : j < l.length * E.k := by
    have := (List.getElem?_eq_some_iff.1 hu).1
    rwa [E.cells_len] at this
  have h0 : 0 < l.length := by
    rcases Nat.eq_zero_or_pos l.length with e | e
    · rw [e, Nat.zero_mul] at hj; exact absurd hj (Nat.not_lt_zero _)
    · exact e
  obtain ⟨b, off, e, _, hc⟩ := h h0
  cases e
  have hi : j / E.k < l.length := (Nat.div_lt_iff_lt_mul E.pos).2 hj
  have hm := Nat.mod_lt j E.pos
  have hd : j = j / E.k * E.k + j % E.k := by have := Nat.div_add_mod j E.k; rw [Nat.mul_comm]; omega
  have hx := E.cells_get l (j / E.k) (j % E.k) hm hi
  rw [← hd, hu] at hx
  have := hc (j / E.k) hi (j % E.k) u hx.symm
  rw [addr_add, show off + j = off + j / E.k * E.k + j % E.k by omega]
  exact this
/-- append of what may be nil -/
theorem wpList_append_stO {P : Program} {α : Type} (E : Enc α) (w : World) {ops : Array Oper} {rest : List Oper} {o : Oper} {a : Act} {Q : Exit → Act → World → Prop} (hgd : o.guard = none) (s x : Operand) (t : TypeId)
    (ho : o.op = .call { callee := .builtin .append, args := #[s, x], argTypes := #[t, t] })
    (base : Nat) (e : TypeId) (z : Value) (bytes : Nat) (ht : P.underlying t = some (.slice e)) (hi : (P.info? e).map (fun i => (i.zero, i.size, i.bytes)) = some (some z, E.k, bytes)) (hzs : z.cells.size = E.k)
    (v : Value) (l : List α) (hs : a.eval s = v) (hown : E.Own w base e v l)
    (A : Option Addr) (m c : Nat) (l' : List α) (G : Nat → Prop) (hx : a.eval x = .slice A m c) (hm : m = l'.length) (hA : A = none → m = 0 ∧ c = 0) (hrd : E.Rd w A l' G)
    (h63 : l.length + m ≤ maxLen) (hbytes : (l.length + m) * bytes ≤ 140737488355328) (hbase : base ≤ w.heap.size)
    (h : ∀ v' w', E.Own w' base e v' (l ++ l') → w.grownBy w' v.ownBlock → wpList P ops Q rest (a.put o.dst v') w') : wpList P ops Q (o :: rest) a w := by
  cases A with
  | none =>
    obtain ⟨rfl, rfl⟩ := hA rfl
    have hn : l' = [] := List.length_eq_zero_iff.1 hm.symm
    subst hn
    obtain ⟨i0, hi', hz0, hz1, hz2⟩ := info_parts hi
    refine wpList_append_own_none hgd s x t ho base e i0 E.k ht hi' v l.length (E.cells l) hs hown hx (h v w ?_ (grown_refl w _))
    rw [List.append_nil]; exact hown
  | some ad => exact wpList_append_st' E w hgd s x t ho base e z bytes ht hi hzs v l hs hown ad m c l' hx hm hrd.news h63 hbytes hbase h
/-- a row of another type is as it was when one has grown -/
theorem Enc.Own.beside {α β : Type} {E : Enc α} {F : Enc β} {w w' : World} {b1 b2 : Nat} {t1 t2 : TypeId} {v1 v2 : Value} {l1 : List α} {l2 : List β} (h1 : E.Own w b1 t1 v1 l1) (h2 : F.Own w b2 t2 v2 l2) (ht : t1 ≠ t2) (hg : w.grownBy w' v1.ownBlock) : F.Own w' b2 t2 v2 l2 :=
  h2.of_block fun k hk => hg.block k (h2.lt k hk).2 fun e => by
    obtain ⟨c, hc⟩ := h1.block k e.symm
    obtain ⟨c', hc'⟩ := h2.block k hk
    rw [hc] at hc'
    injection hc' with hc'
    injection hc' with _ hc'
    exact ht hc'
/-- append of some structs, as an equation -/
theorem apE_run {P : Program} {α : Type} (E : Enc α) (w : World) (t : TypeId) (base : Nat) (e : TypeId) (z : Value) (bytes : Nat) (ht : P.underlying t = some (.slice e)) (hi : (P.info? e).map (fun i => (i.zero, i.size, i.bytes)) = some (some z, E.k, bytes)) (hzs : z.cells.size = E.k)
    (v : Value) (l : List α) (hown : E.Own w base e v l) (ad : Addr) (m c : Nat) (l' : List α) (hm : m = l'.length) (hnews : ∀ j u, (E.cells l')[j]? = some u → w.cell? (ad.add j) = some u)
    (h63 : l.length + m ≤ maxLen) (hbytes : (l.length + m) * bytes ≤ 140737488355328) (hbase : base ≤ w.heap.size) (t0 : TypeId := e) :
    ∃ v' w', (∀ ty, (Builtin.append_ #[t, t] ty #[v, .slice (some ad) m c]).run P w = .ok v' w') ∧ E.Own w' base e v' (l ++ l') ∧ w.grownBy w' v.ownBlock := by
  obtain ⟨i0, hi, hz0, hz1, hz2⟩ := info_parts hi
  subst hm
  obtain ⟨v', w', h1, h2, h3, _⟩ := run_append_own (P := P) w base t t0 e i0 z E.k bytes ht hi hz0 hz1 hz2 hzs E.pos v l.length (E.cells l) hown ad l'.length c (E.cells l') (E.cells_len l') hnews (E.cells_all l') h63 hbytes hbase
  exact ⟨v', w', fun ty => h1, by unfold Enc.Own; rw [E.cells_append, List.length_append]; exact h2, h3⟩
end Go.Proofs.Ytjhbmijdpcbbiaa
