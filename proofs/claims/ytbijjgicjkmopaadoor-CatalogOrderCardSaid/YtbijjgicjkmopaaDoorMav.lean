/- What alive of the law on catalogs answers: true. append of a row of structs that may be nil. No function of the program. -/
import Derived.Test.YtbijjgicjkmopaaDoorMau
import Derived.Test.YtbijjgicjkmopaaDoorMao
import Derived.Test.YtbijjgicjkmopaaDoorMac
namespace Go.Proofs.YtbijjgicjkmopaaDoor
open Go.RowKit
open Pt (Tx)

namespace Ct
/-- one part that is the file -/
theorem whole_one {p : P} (h0 : p.h.from_ = 0) (hl : p.h.len = p.h.size) (hs : 0 ≤ p.h.size) : whole [p] = some (file p.h [p]) := by
  have ha : alikeB [p] = true := by simp [alikeB]
  have hg : goes p.h.size 0 p = true := by
    unfold goes
    rw [h0, hl]
    by_cases h : 0 < p.h.size
    · simp [h, show ¬ p.h.size ≤ 0 by omega]
    · simp [h]
  have hf : first [p] p.h.size 0 = some 0 := by
    unfold first
    rw [List.findIdx?_cons, hg]; rfl
  rw [whole_yes ha (p := p) rfl]
  unfold row
  rw [if_neg (by omega)]
  show (walk [p] p.h.size 1 0 []).map (file p.h) = _
  rw [walk_some hf (p := p) rfl, h0, hl, Int.zero_add, if_neg (by omega), if_pos rfl]
  rfl
end Ct
/-- the part of the example -/
def p17 : Ct.P := ⟨⟨[97], 1, 0, 0, 0, 1, 0, false⟩, 1, 1⟩
theorem whole17 : Ct.whole [p17] = some ⟨[97], 1, 0, 0, 1, false, [p17]⟩ := Ct.whole_one rfl rfl (by decide)
set_option maxRecDepth 100000 in
set_option maxHeartbeats 2000000 in
theorem alive17_true (w : World) (hk : Kept w) : Calls Tryd.prog 5 #[] w fun e w' => e = .returned (.bool true) ∧ Below w.heap.size w w' := by
  obtain ⟨w1, hw1⟩ : ∃ x, x = w.alloc (partO p17) := ⟨_, rfl⟩
  have hb1 : Below w.heap.size w w1 := by rw [hw1]; exact (Below.refl _ _).alloc (Nat.le_refl _) _
  have hrd : encQ.Rd w1 (some ⟨w.heap.size, 0, none⟩) [p17] (fun _ => True) := fun _ => ⟨w.heap.size, 0, rfl, trivial, fun i hi j u hu => by
    have hi0 : i = 0 := by simpa using hi
    subst hi0
    rw [hw1, show 0 + 0 * encQ.k + j = 0 + j by simp]
    have h1 := newCells w (encQ.enc p17) 44 j u hu
    rw [addr_add] at h1
    exact h1⟩
  have hwa := whole_any (some ⟨w.heap.size, 0, none⟩) [p17] 1 1 _ w1 rfl (by decide) hrd (fun p hp => by rw [List.mem_singleton.1 hp]; exact ⟨⟨by decide, by decide⟩, by decide, by decide⟩) (fun p hp => by rw [List.mem_singleton.1 hp]; decide)
  rw [whole17] at hwa
  have HWA := Lib.hid hwa
  have HB1 := Lib.hid hb1
  have HK := Lib.hid hk
  have HW1 : Hid (w1 = w.alloc (.cells #[.string ⟨#[97]⟩, .int .i64 1, .int .i64 0, .int .i64 0, .int .i64 0, .int .i64 1, .int .i64 0, .bool false, .int .i64 1, .int .i64 1] 44)) := Lib.hid hw1
  clear hw1 hb1 hrd hwa hk
  go_enter Tryd.func5, Tryd.ntmps5
  go_wp2_with fail
  rw [← HW1.out]
  refine HWA.out.mono ?_
  rintro e w2 ⟨⟨A, C, rfl, hO⟩, hb2⟩
  obtain ⟨w3, hw3⟩ : ∃ x, x = w2.alloc (fileO [97] 1 0 0 1 false A 1 C) := ⟨_, rfl⟩
  have hb3 : Below w1.heap.size w1 w3 := by rw [hw3]; exact hb2.alloc hb2.size _
  have hk3 : w3.heap[w2.heap.size]? = some (fileO [97] 1 0 0 1 false A 1 C) := by rw [hw3]; exact Go.Deep.blk_alloc_new _ _
  have HB3 := Lib.hid (HB1.out.trans (hb3.mono HB1.out.size))
  have HK3 := Lib.hid hk3
  have HW3 : Hid (w3 = w2.alloc (.cells #[.string (tx [97]), .int .i64 1, .int .i64 0, .int .i64 0, .int .i64 1, .bool false, .slice A 1 C] 46)) := Lib.hid hw3
  have HFR := Lib.hid (from_any none [] 0 0 (fun _ => True) w3 rfl (by decide) (fun h => absurd h (by simp)) (fun _ h => nomatch h) (by decide) (by decide) (HK.out.old HB3.out))
  clear hO hb2 hw3 hb3 hk3 HWA
  go_upto_region 2 with fail
  rw [← HW3.out]
  go_wp2_with fail
  refine HFR.out.mono ?_
  rintro e w4 ⟨A4, C4, xs, rfl, -, -, -, -, -, hb4⟩
  have HB4 := Lib.hid (HB3.out.trans (hb4.mono HB3.out.size))
  obtain ⟨a0, a1, a2, a3, a4, a5, a6⟩ := file7 (below_obj' hb4 HK3.out)
  have q1 : ((tx [97]).toList == [97]) = true := by rw [tx_toList]; rfl
  have hl0 : (Ct.from_ []).length = 0 := rfl
  rw [hl0]
  clear hb4 HFR
  go_wp2
  go_ret
  exact ⟨rfl, HB4.out⟩
end Go.Proofs.YtbijjgicjkmopaaDoor
namespace Go.Proofs.YtbijjgicjkmopaaDoor
open Go.RowKit

theorem below_objS {o : Obj} {B : Nat} {x y : World} (hb : Below x.heap.size x y) (h : x.heap[B]? = some o) : y.heap[B]? = some o := (hb.block B (heap_lt h)).trans h
theorem Enc.Rd.news {α : Type} {E : Enc α} {w : World} {ad : Addr} {l : List α} {G : Nat → Prop} (h : E.Rd w (some ad) l G) : ∀ j u, (E.cells l)[j]? = some u → w.cell? (ad.add j) = some u := by
  intro j u hu
  have hj : j < l.length * E.k := by
    have := (List.getElem?_eq_some_iff.1 hu).1
    rwa [E.cells_len] at this
  have h0 : 0 < l.length := by
    rcases Nat.eq_zero_or_pos l.length with e | e
    · rw [e, Nat.zero_mul] at hj; exact absurd hj (Nat.not_lt_zero _)
    · exact e
  obtain ⟨b, off, e, _, hc⟩ := h h0
  cases e
  have hi : j / E.k < l.length := (Nat.div_lt_iff_lt_mul E.pos).2 hj
  have hm := Nat.mod_lt j E.pos
  have hd : j = j / E.k * E.k + j % E.k := by have := Nat.div_add_mod j E.k; rw [Nat.mul_comm]; omega
  have hx := E.cells_get l (j / E.k) (j % E.k) hm hi
  rw [← hd, hu] at hx
  have := hc (j / E.k) hi (j % E.k) u hx.symm
  rw [addr_add, show off + j = off + j / E.k * E.k + j % E.k by omega]
  exact this
/-- append of what may be nil -/
theorem wpList_append_stO {P : Program} {α : Type} (E : Enc α) (w : World) {ops : Array Oper} {rest : List Oper} {o : Oper} {a : Act} {Q : Exit → Act → World → Prop} (hgd : o.guard = none) (s x : Operand) (t : TypeId)
    (ho : o.op = .call { callee := .builtin .append, args := #[s, x], argTypes := #[t, t] })
    (base : Nat) (e : TypeId) (z : Value) (bytes : Nat) (ht : P.underlying t = some (.slice e)) (hi : (P.info? e).map (fun i => (i.zero, i.size, i.bytes)) = some (some z, E.k, bytes)) (hzs : z.cells.size = E.k)
    (v : Value) (l : List α) (hs : a.eval s = v) (hown : E.Own w base e v l)
    (A : Option Addr) (m c : Nat) (l' : List α) (G : Nat → Prop) (hx : a.eval x = .slice A m c) (hm : m = l'.length) (hA : A = none → m = 0 ∧ c = 0) (hrd : E.Rd w A l' G)
    (h63 : l.length + m ≤ maxLen) (hbytes : (l.length + m) * bytes ≤ 140737488355328) (hbase : base ≤ w.heap.size)
    (h : ∀ v' w', E.Own w' base e v' (l ++ l') → w.grownBy w' v.ownBlock → wpList P ops Q rest (a.put o.dst v') w') : wpList P ops Q (o :: rest) a w := by
  cases A with
  | none =>
    obtain ⟨rfl, rfl⟩ := hA rfl
    have hn : l' = [] := List.length_eq_zero_iff.1 hm.symm
    subst hn
    obtain ⟨i0, hi', hz0, hz1, hz2⟩ := info_parts hi
    refine wpList_append_own_none hgd s x t ho base e i0 E.k ht hi' v l.length (E.cells l) hs hown hx (h v w ?_ (grown_refl w _))
    rw [List.append_nil]; exact hown
  | some ad => exact wpList_append_st' E w hgd s x t ho base e z bytes ht hi hzs v l hs hown ad m c l' hx hm hrd.news h63 hbytes hbase h
/-- a row of another type is as it was when one has grown -/
theorem Enc.Own.beside {α β : Type} {E : Enc α} {F : Enc β} {w w' : World} {b1 b2 : Nat} {t1 t2 : TypeId} {v1 v2 : Value} {l1 : List α} {l2 : List β} (h1 : E.Own w b1 t1 v1 l1) (h2 : F.Own w b2 t2 v2 l2) (ht : t1 ≠ t2) (hg : w.grownBy w' v1.ownBlock) : F.Own w' b2 t2 v2 l2 :=
  h2.of_block fun k hk => hg.block k (h2.lt k hk).2 fun e => by
    obtain ⟨c, hc⟩ := h1.block k e.symm
    obtain ⟨c', hc'⟩ := h2.block k hk
    rw [hc] at hc'
    injection hc' with hc'
    injection hc' with _ hc'
    exact ht hc'
/-- append of some structs, as an equation -/
theorem apE_run {P : Program} {α : Type} (E : Enc α) (w : World) (t : TypeId) (base : Nat) (e : TypeId) (z : Value) (bytes : Nat) (ht : P.underlying t = some (.slice e)) (hi : (P.info? e).map (fun i => (i.zero, i.size, i.bytes)) = some (some z, E.k, bytes)) (hzs : z.cells.size = E.k)
    (v : Value) (l : List α) (hown : E.Own w base e v l) (ad : Addr) (m c : Nat) (l' : List α) (hm : m = l'.length) (hnews : ∀ j u, (E.cells l')[j]? = some u → w.cell? (ad.add j) = some u)
    (h63 : l.length + m ≤ maxLen) (hbytes : (l.length + m) * bytes ≤ 140737488355328) (hbase : base ≤ w.heap.size) (t0 : TypeId := e) :
    ∃ v' w', (∀ ty, (Builtin.append_ #[t, t] ty #[v, .slice (some ad) m c]).run P w = .ok v' w') ∧ E.Own w' base e v' (l ++ l') ∧ w.grownBy w' v.ownBlock := by
  obtain ⟨i0, hi, hz0, hz1, hz2⟩ := info_parts hi
  subst hm
  obtain ⟨v', w', h1, h2, h3, _⟩ := run_append_own (P := P) w base t t0 e i0 z E.k bytes ht hi hz0 hz1 hz2 hzs E.pos v l.length (E.cells l) hown ad l'.length c (E.cells l') (E.cells_len l') hnews (E.cells_all l') h63 hbytes hbase
  exact ⟨v', w', fun ty => h1, by unfold Enc.Own; rw [E.cells_append, List.length_append]; exact h2, h3⟩
end Go.Proofs.YtbijjgicjkmopaaDoor
