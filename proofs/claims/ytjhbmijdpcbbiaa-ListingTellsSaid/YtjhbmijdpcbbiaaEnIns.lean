/- append(append(append([]T(nil), a...), x), b...), whichever of its steps comes first. No function of the program. -/
import Derived.Test.YtjhbmijdpcbbiaaStApp
namespace Go.Proofs.Ytjhbmijdpcbbiaa
open Go.RowKit

section
variable {P : Program} {α : Type}
theorem Enc.rd_take {E : Enc α} {w : World} {A : Option Addr} {l : List α} {G : Nat → Prop} (h : E.Rd w A l G) (k : Nat) : E.Rd w A (l.take k) G := fun hn => by
  rw [List.length_take] at hn
  obtain ⟨b, off, e, hg, hc⟩ := h (by omega)
  refine ⟨b, off, e, hg, fun i hi j u hu => ?_⟩
  rw [List.length_take] at hi
  rw [List.getElem_take] at hu
  exact hc i (by omega) j u hu
theorem Enc.rd_drop {E : Enc α} {w : World} {b off : Nat} {l : List α} {G : Nat → Prop} (h : E.Rd w (some ⟨b, off, none⟩) l G) (k : Nat) : E.Rd w (some ⟨b, off + k * E.k, none⟩) (l.drop k) G := fun hn => by
  rw [List.length_drop] at hn
  obtain ⟨b', off', e, hg, hc⟩ := h (by omega)
  cases e
  refine ⟨b, off + k * E.k, rfl, hg, fun i hi j u hu => ?_⟩
  rw [List.length_drop] at hi
  rw [List.getElem_drop] at hu
  have := hc (k + i) (by omega) j u hu
  rw [← this, show off + k * E.k + i * E.k + j = off + (k + i) * E.k + j by rw [Nat.add_mul]; omega]
theorem grown_nilE {w w' : World} (hg : w.grownBy w' (Value.slice none 0 0).ownBlock) : Below w.heap.size w w' := ⟨hg.os, hg.tape, hg.output, hg.size, fun k hk => hg.block k hk (fun e => by cases e)⟩
theorem Enc.Own.low {E : Enc α} {w w' : World} {B : Nat} {t : TypeId} {v : Value} {l : List α} (hown : E.Own w B t v l) (hB : B ≤ w.heap.size) (hg : w.grownBy w' v.ownBlock) : Below B w w' := (Below.refl _ _).grown hg hB (fun k hk => (hown.lt k hk).1)
theorem Enc.Own.lowerE {E : Enc α} {w : World} {B B' : Nat} {t : TypeId} {v : Value} {l : List α} (h : E.Own w B t v l) (hB : B' ≤ B) : E.Own w B' t v l := by
  refine ⟨h.1, ?_⟩
  rcases h.2 with h | ⟨g, cap, cur, e, hb, r⟩
  · exact .inl h
  · exact .inr ⟨g, cap, cur, e, Nat.le_trans hB hb, r⟩
theorem Enc.one_new (E : Enc α) (w : World) (x : α) (t : TypeId) : E.Rd (w.alloc (.cells (E.enc x).toArray t)) (some ⟨w.heap.size, 0, none⟩) [x] (fun _ => True) := fun _ => by
  refine ⟨w.heap.size, 0, rfl, trivial, fun i hi k u hu => ?_⟩
  have h0 : i = 0 := by simpa using hi
  subst h0
  have h := newCells w (E.enc x) t k u hu
  rw [addr_add] at h
  simpa using h
/-- append of what may be nil, as an equation -/
theorem Enc.apO_run (E : Enc α) (w : World) (t : TypeId) (base : Nat) (e : TypeId) (z : Value) (bytes : Nat) (ht : P.underlying t = some (.slice e)) (hi : (P.info? e).map (fun i => (i.zero, i.size, i.bytes)) = some (some z, E.k, bytes)) (hzs : z.cells.size = E.k)
    (v : Value) (l : List α) (hown : E.Own w base e v l) (A : Option Addr) (m c : Nat) (l' : List α) (G : Nat → Prop) (hm : m = l'.length) (hA : A = none → m = 0 ∧ c = 0) (hr : E.Rd w A l' G)
    (h63 : l.length + m ≤ maxLen) (hbytes : (l.length + m) * bytes ≤ 140737488355328) (hbase : base ≤ w.heap.size) :
    ∃ v' w', (∀ ty, (Builtin.append_ #[t, t] ty #[v, .slice A m c]).run P w = .ok v' w') ∧ E.Own w' base e v' (l ++ l') ∧ w.grownBy w' v.ownBlock := by
  cases A with
  | none =>
    obtain ⟨rfl, rfl⟩ := hA rfl
    have hn : l' = [] := List.length_eq_zero_iff.1 hm.symm
    subst hn
    obtain ⟨i0, hi', hz0, hz1, hz2⟩ := info_parts hi
    refine ⟨v, w, fun ty => run_append_owned_none (P := P) (w := w) base t ty e i0 E.k ht hi' v l.length (E.cells l) hown, ?_, grown_refl w _⟩
    rw [List.append_nil]; exact hown
  | some ad => exact apE_run E w t base e z bytes ht hi hzs v l hown ad m c l' hm hr.news h63 hbytes hbase
/-- the three appends, in either order of the first and of the literal -/
structure Ins3 (P : Program) (E : Enc α) (t e : TypeId) (wz : World) (S1 S2 : Value) (l : List α) (L : Obj) (v1 : Value) (y1 : World) (v2 : Value) (y2 : World) (v3 : Value) (y3 : World) (u1 : Value) (x1 : World) (u2 : Value) (x2 : World) (u3 : Value) (x3 : World) : Prop where
  r1 : ∀ ty, (Builtin.append_ #[t, t] ty #[.slice none 0 0, S1]).run P wz.drew = .ok v1 y1
  r2 : ∀ ty, (Builtin.append_ #[t, t] ty #[v1, .slice (some ⟨y1.heap.size, 0, none⟩) 1 1]).run P (y1.alloc L) = .ok v2 y2
  r3 : ∀ ty, (Builtin.append_ #[t, t] ty #[v2, S2]).run P y2 = .ok v3 y3
  s1 : ∀ ty, (Builtin.append_ #[t, t] ty #[.slice none 0 0, S1]).run P (wz.alloc L).drew = .ok u1 x1
  s2 : ∀ ty, (Builtin.append_ #[t, t] ty #[u1, .slice (some ⟨wz.heap.size, 0, none⟩) 1 1]).run P x1 = .ok u2 x2
  s3 : ∀ ty, (Builtin.append_ #[t, t] ty #[u2, S2]).run P x2 = .ok u3 x3
  b0 : Below wz.heap.size wz wz.drew
  b1 : Below wz.heap.size wz y1
  b1a : Below wz.heap.size wz (y1.alloc L)
  b2 : Below wz.heap.size wz y2
  b3 : Below wz.heap.size wz y3
  c0 : Below wz.heap.size wz (wz.alloc L).drew
  c1 : Below wz.heap.size wz x1
  c2 : Below wz.heap.size wz x2
  c3 : Below wz.heap.size wz x3
  own : E.Own y3 wz.heap.size e v3 l
  pwn : E.Own x3 wz.heap.size e u3 l
theorem Enc.ins3 (E : Enc α) (t e : TypeId) (z : Value) (bytes : Nat) (ht : P.underlying t = some (.slice e)) (hi : (P.info? e).map (fun i => (i.zero, i.size, i.bytes)) = some (some z, E.k, bytes)) (hzs : z.cells.size = E.k) (hb100 : bytes ≤ 100) (wz : World) (x : α) (L : Obj) (hL : L = .cells (E.enc x).toArray e)
    (A1 : Option Addr) (m1 c1 : Nat) (l1 : List α) (A2 : Option Addr) (m2 c2 : Nat) (l2 : List α) (h1 : m1 = l1.length) (h2 : m2 = l2.length) (n1 : A1 = none → m1 = 0 ∧ c1 = 0) (n2 : A2 = none → m2 = 0 ∧ c2 = 0) (r1 : E.Rd wz A1 l1 (fun _ => True)) (r2 : E.Rd wz A2 l2 (fun _ => True)) (hs : m1 + m2 + 1 ≤ 1000000) :
    ∃ v1 y1 v2 y2 v3 y3 u1 x1 u2 x2 u3 x3, Ins3 P E t e wz (.slice A1 m1 c1) (.slice A2 m2 c2) (l1 ++ [x] ++ l2) L v1 y1 v2 y2 v3 y3 u1 x1 u2 x2 u3 x3 := by
  subst hL
  have hmul : ∀ q, q ≤ 1000000 → q ≤ maxLen ∧ q * bytes ≤ 140737488355328 := fun q hq => ⟨by unfold maxLen; omega, Nat.le_trans (Nat.mul_le_mul hq hb100) (by decide)⟩
  have b0 : Below wz.heap.size wz wz.drew := (Below.refl _ _).drew
  obtain ⟨v1, y1, hr1, ho1, hg1⟩ := E.apO_run wz.drew t wz.heap.size e z bytes ht hi hzs (.slice none 0 0) [] (Enc.Own.nil _ _ _) A1 m1 c1 l1 _ h1 n1 (r1.old b0) (hmul _ (by simp; omega)).1 (hmul _ (by simp; omega)).2 (Nat.le_refl _)
  rw [List.nil_append] at ho1
  have b1 : Below wz.heap.size wz y1 := b0.trans (grown_nilE hg1)
  have b1' : Below y1.heap.size y1 (y1.alloc (.cells (E.enc x).toArray e)) := (Below.refl _ _).alloc (Nat.le_refl _) _
  have b1a := b1.trans (b1'.mono b1.size)
  obtain ⟨v2, y2, hr2, ho2, hg2⟩ := E.apO_run _ t wz.heap.size e z bytes ht hi hzs v1 _ (ho1.old b1') (some ⟨y1.heap.size, 0, none⟩) 1 1 [x] _ rfl (fun h => by cases h) (E.one_new y1 x e) (hmul _ (by omega)).1 (hmul _ (by omega)).2 b1a.size
  have b2 := b1a.trans ((ho1.old b1').low b1a.size hg2)
  obtain ⟨v3, y3, hr3, ho3, hg3⟩ := E.apO_run y2 t wz.heap.size e z bytes ht hi hzs v2 _ ho2 A2 m2 c2 l2 _ h2 n2 (r2.old b2) (hmul _ (by simp; omega)).1 (hmul _ (by simp; omega)).2 b2.size
  have b3 := b2.trans (ho2.low b2.size hg3)
  have c0 : Below wz.heap.size wz (wz.alloc (.cells (E.enc x).toArray e)).drew := ((Below.refl _ wz).alloc (Nat.le_refl _) _).drew
  obtain ⟨u1, x1, hs1, po1, pg1⟩ := E.apO_run (wz.alloc (.cells (E.enc x).toArray e)).drew t wz.heap.size e z bytes ht hi hzs (.slice none 0 0) [] (Enc.Own.nil _ _ _) A1 m1 c1 l1 _ h1 n1 (r1.old c0) (hmul _ (by simp; omega)).1 (hmul _ (by simp; omega)).2 c0.size
  rw [List.nil_append] at po1
  have d1 := c0.trans ((grown_nilE pg1).mono c0.size)
  have hnx : E.Rd x1 (some ⟨wz.heap.size, 0, none⟩) [x] (fun _ => True) := Enc.Rd.old (w := (wz.alloc (.cells (E.enc x).toArray e)).drew) (E.one_new wz x e) (grown_nilE pg1)
  obtain ⟨u2, x2, hs2, po2, pg2⟩ := E.apO_run x1 t wz.heap.size e z bytes ht hi hzs u1 _ po1 (some ⟨wz.heap.size, 0, none⟩) 1 1 [x] _ rfl (fun h => by cases h) hnx (hmul _ (by omega)).1 (hmul _ (by omega)).2 d1.size
  have d2 := d1.trans (po1.low d1.size pg2)
  obtain ⟨u3, x3, hs3, po3, pg3⟩ := E.apO_run x2 t wz.heap.size e z bytes ht hi hzs u2 _ po2 A2 m2 c2 l2 _ h2 n2 (r2.old d2) (hmul _ (by simp; omega)).1 (hmul _ (by simp; omega)).2 d2.size
  exact ⟨v1, y1, v2, y2, v3, y3, u1, x1, u2, x2, u3, x3, hr1, hr2, hr3, hs1, hs2, hs3, b0, b1, b1a, b2, b3, c0, d1, d2, d2.trans (po2.low d2.size pg3), ho3, po3⟩
end
end Go.Proofs.Ytjhbmijdpcbbiaa
