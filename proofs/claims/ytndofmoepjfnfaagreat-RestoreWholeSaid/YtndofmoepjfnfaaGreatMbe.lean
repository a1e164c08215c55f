/- append(append(append([]T(nil), a...), x), b...), whichever of its steps comes first. No function of the program. What the document's own Into makes of no files and one. What the document's own Parts of a tape answers. What the document's own From answers of tapes whose parts are all of one file. -/
import Derived.Test.YtndofmoepjfnfaaGreatMbd
import Derived.Test.YtndofmoepjfnfaaGreatMax
import Derived.Test.YtndofmoepjfnfaaGreatMaj
import Derived.Deep.DeepCutAuto
import Derived.Deep.RegionHeld3
import Derived.Deep.RegionLaw
import Derived.BigQuiet
import Derived.Deep.QuietTactic
import Derived.Test.YtndofmoepjfnfaaGreatRefWhole
import Derived.Test.YtndofmoepjfnfaaGreatMak
namespace Go.Proofs.YtndofmoepjfnfaaGreat
open Go.RowKit

section
variable {P : Program} {α : Type}
theorem Enc.rd_take {E : Enc α} {w : World} {A : Option Addr} {l : List α} {G : Nat → Prop} (h : E.Rd w A l G) (k : Nat) : E.Rd w A (l.take k) G := fun hn => by
  rw [List.length_take] at hn
  obtain ⟨b, off, e, hg, hc⟩ := h (by omega)
  refine ⟨b, off, e, hg, fun i hi j u hu => ?_⟩
  rw [List.length_take] at hi
  rw [List.getElem_take] at hu
  exact hc i (by omega) j u hu
theorem Enc.rd_drop {E : Enc α} {w : World} {b off : Nat} {l : List α} {G : Nat → Prop} (h : E.Rd w (some ⟨b, off, none⟩) l G) (k : Nat) : E.Rd w (some ⟨b, off + k * E.k, none⟩) (l.drop k) G := fun hn => by
  rw [List.length_drop] at hn
  obtain ⟨b', off', e, hg, hc⟩ := h (by omega)
  cases e
  refine ⟨b, off + k * E.k, rfl, hg, fun i hi j u hu => ?_⟩
  rw [List.length_drop] at hi
  rw [List.getElem_drop] at hu
  have := hc (k + i) (by omega) j u hu
  rw [← this, show off + k * E.k + i * E.k + j = off + (k + i) * E.k + j by rw [Nat.add_mul]; omega]
theorem grown_nilE {w w' : World} (hg : w.grownBy w' (Value.slice none 0 0).ownBlock) : Below w.heap.size w w' := ⟨hg.os, hg.tape, hg.output, hg.size, fun k hk => hg.block k hk (fun e => by cases e)⟩
theorem Enc.Own.low {E : Enc α} {w w' : World} {B : Nat} {t : TypeId} {v : Value} {l : List α} (hown : E.Own w B t v l) (hB : B ≤ w.heap.size) (hg : w.grownBy w' v.ownBlock) : Below B w w' := (Below.refl _ _).grown hg hB (fun k hk => (hown.lt k hk).1)
theorem Enc.Own.lowerE {E : Enc α} {w : World} {B B' : Nat} {t : TypeId} {v : Value} {l : List α} (h : E.Own w B t v l) (hB : B' ≤ B) : E.Own w B' t v l := by
  refine ⟨h.1, ?_⟩
  rcases h.2 with h | ⟨g, cap, cur, e, hb, r⟩
  · exact .inl h
  · exact .inr ⟨g, cap, cur, e, Nat.le_trans hB hb, r⟩
theorem Enc.one_new (E : Enc α) (w : World) (x : α) (t : TypeId) : E.Rd (w.alloc (.cells (E.enc x).toArray t)) (some ⟨w.heap.size, 0, none⟩) [x] (fun _ => True) := fun _ => by
  refine ⟨w.heap.size, 0, rfl, trivial, fun i hi k u hu => ?_⟩
  have h0 : i = 0 := by simpa using hi
  subst h0
  have h := newCells w (E.enc x) t k u hu
  rw [addr_add] at h
  simpa using h
/-- append of what may be nil, as an equation -/
theorem Enc.apO_run (E : Enc α) (w : World) (t : TypeId) (base : Nat) (e : TypeId) (z : Value) (bytes : Nat) (ht : P.underlying t = some (.slice e)) (hi : (P.info? e).map (fun i => (i.zero, i.size, i.bytes)) = some (some z, E.k, bytes)) (hzs : z.cells.size = E.k)
    (v : Value) (l : List α) (hown : E.Own w base e v l) (A : Option Addr) (m c : Nat) (l' : List α) (G : Nat → Prop) (hm : m = l'.length) (hA : A = none → m = 0 ∧ c = 0) (hr : E.Rd w A l' G)
    (h63 : l.length + m ≤ maxLen) (hbytes : (l.length + m) * bytes ≤ 140737488355328) (hbase : base ≤ w.heap.size) :
    ∃ v' w', (∀ ty, (Builtin.append_ #[t, t] ty #[v, .slice A m c]).run P w = .ok v' w') ∧ E.Own w' base e v' (l ++ l') ∧ w.grownBy w' v.ownBlock := by
  cases A with
  | none =>
    obtain ⟨rfl, rfl⟩ := hA rfl
    have hn : l' = [] := List.length_eq_zero_iff.1 hm.symm
    subst hn
    obtain ⟨i0, hi', hz0, hz1, hz2⟩ := info_parts hi
    refine ⟨v, w, fun ty => run_append_owned_none (P := P) (w := w) base t ty e i0 E.k ht hi' v l.length (E.cells l) hown, ?_, grown_refl w _⟩
    rw [List.append_nil]; exact hown
  | some ad => exact apE_run E w t base e z bytes ht hi hzs v l hown ad m c l' hm hr.newsO h63 hbytes hbase
/-- the three appends, in either order of the first and of the literal -/
structure Ins3 (P : Program) (E : Enc α) (t e : TypeId) (wz : World) (S1 S2 : Value) (l : List α) (L : Obj) (v1 : Value) (y1 : World) (v2 : Value) (y2 : World) (v3 : Value) (y3 : World) (u1 : Value) (x1 : World) (u2 : Value) (x2 : World) (u3 : Value) (x3 : World) : Prop where
  r1 : ∀ ty, (Builtin.append_ #[t, t] ty #[.slice none 0 0, S1]).run P wz.drew = .ok v1 y1
  r2 : ∀ ty, (Builtin.append_ #[t, t] ty #[v1, .slice (some ⟨y1.heap.size, 0, none⟩) 1 1]).run P (y1.alloc L) = .ok v2 y2
  r3 : ∀ ty, (Builtin.append_ #[t, t] ty #[v2, S2]).run P y2 = .ok v3 y3
  s1 : ∀ ty, (Builtin.append_ #[t, t] ty #[.slice none 0 0, S1]).run P (wz.alloc L).drew = .ok u1 x1
  s2 : ∀ ty, (Builtin.append_ #[t, t] ty #[u1, .slice (some ⟨wz.heap.size, 0, none⟩) 1 1]).run P x1 = .ok u2 x2
  s3 : ∀ ty, (Builtin.append_ #[t, t] ty #[u2, S2]).run P x2 = .ok u3 x3
  b0 : Below wz.heap.size wz wz.drew
  b1 : Below wz.heap.size wz y1
  b1a : Below wz.heap.size wz (y1.alloc L)
  b2 : Below wz.heap.size wz y2
  b3 : Below wz.heap.size wz y3
  c0 : Below wz.heap.size wz (wz.alloc L).drew
  c1 : Below wz.heap.size wz x1
  c2 : Below wz.heap.size wz x2
  c3 : Below wz.heap.size wz x3
  own : E.Own y3 wz.heap.size e v3 l
  pwn : E.Own x3 wz.heap.size e u3 l
theorem Enc.ins3 (E : Enc α) (t e : TypeId) (z : Value) (bytes : Nat) (ht : P.underlying t = some (.slice e)) (hi : (P.info? e).map (fun i => (i.zero, i.size, i.bytes)) = some (some z, E.k, bytes)) (hzs : z.cells.size = E.k) (hb100 : bytes ≤ 100) (wz : World) (x : α) (L : Obj) (hL : L = .cells (E.enc x).toArray e)
    (A1 : Option Addr) (m1 c1 : Nat) (l1 : List α) (A2 : Option Addr) (m2 c2 : Nat) (l2 : List α) (h1 : m1 = l1.length) (h2 : m2 = l2.length) (n1 : A1 = none → m1 = 0 ∧ c1 = 0) (n2 : A2 = none → m2 = 0 ∧ c2 = 0) (r1 : E.Rd wz A1 l1 (fun _ => True)) (r2 : E.Rd wz A2 l2 (fun _ => True)) (hs : m1 + m2 + 1 ≤ 1000000) :
    ∃ v1 y1 v2 y2 v3 y3 u1 x1 u2 x2 u3 x3, Ins3 P E t e wz (.slice A1 m1 c1) (.slice A2 m2 c2) (l1 ++ [x] ++ l2) L v1 y1 v2 y2 v3 y3 u1 x1 u2 x2 u3 x3 := by
  subst hL
  have hmul : ∀ q, q ≤ 1000000 → q ≤ maxLen ∧ q * bytes ≤ 140737488355328 := fun q hq => ⟨by unfold maxLen; omega, Nat.le_trans (Nat.mul_le_mul hq hb100) (by decide)⟩
  have b0 : Below wz.heap.size wz wz.drew := (Below.refl _ _).drew
  obtain ⟨v1, y1, hr1, ho1, hg1⟩ := E.apO_run wz.drew t wz.heap.size e z bytes ht hi hzs (.slice none 0 0) [] (Enc.Own.nil _ _ _) A1 m1 c1 l1 _ h1 n1 (r1.old b0) (hmul _ (by simp; omega)).1 (hmul _ (by simp; omega)).2 (Nat.le_refl _)
  rw [List.nil_append] at ho1
  have b1 : Below wz.heap.size wz y1 := b0.trans (grown_nilE hg1)
  have b1' : Below y1.heap.size y1 (y1.alloc (.cells (E.enc x).toArray e)) := (Below.refl _ _).alloc (Nat.le_refl _) _
  have b1a := b1.trans (b1'.mono b1.size)
  obtain ⟨v2, y2, hr2, ho2, hg2⟩ := E.apO_run _ t wz.heap.size e z bytes ht hi hzs v1 _ (ho1.old b1') (some ⟨y1.heap.size, 0, none⟩) 1 1 [x] _ rfl (fun h => by cases h) (E.one_new y1 x e) (hmul _ (by omega)).1 (hmul _ (by omega)).2 b1a.size
  have b2 := b1a.trans ((ho1.old b1').low b1a.size hg2)
  obtain ⟨v3, y3, hr3, ho3, hg3⟩ := E.apO_run y2 t wz.heap.size e z bytes ht hi hzs v2 _ ho2 A2 m2 c2 l2 _ h2 n2 (r2.old b2) (hmul _ (by simp; omega)).1 (hmul _ (by simp; omega)).2 b2.size
  have b3 := b2.trans (ho2.low b2.size hg3)
  have c0 : Below wz.heap.size wz (wz.alloc (.cells (E.enc x).toArray e)).drew := ((Below.refl _ wz).alloc (Nat.le_refl _) _).drew
  obtain ⟨u1, x1, hs1, po1, pg1⟩ := E.apO_run (wz.alloc (.cells (E.enc x).toArray e)).drew t wz.heap.size e z bytes ht hi hzs (.slice none 0 0) [] (Enc.Own.nil _ _ _) A1 m1 c1 l1 _ h1 n1 (r1.old c0) (hmul _ (by simp; omega)).1 (hmul _ (by simp; omega)).2 c0.size
  rw [List.nil_append] at po1
  have d1 := c0.trans ((grown_nilE pg1).mono c0.size)
  have hnx : E.Rd x1 (some ⟨wz.heap.size, 0, none⟩) [x] (fun _ => True) := Enc.Rd.old (w := (wz.alloc (.cells (E.enc x).toArray e)).drew) (E.one_new wz x e) (grown_nilE pg1)
  obtain ⟨u2, x2, hs2, po2, pg2⟩ := E.apO_run x1 t wz.heap.size e z bytes ht hi hzs u1 _ po1 (some ⟨wz.heap.size, 0, none⟩) 1 1 [x] _ rfl (fun h => by cases h) hnx (hmul _ (by omega)).1 (hmul _ (by omega)).2 d1.size
  have d2 := d1.trans (po1.low d1.size pg2)
  obtain ⟨u3, x3, hs3, po3, pg3⟩ := E.apO_run x2 t wz.heap.size e z bytes ht hi hzs u2 _ po2 A2 m2 c2 l2 _ h2 n2 (r2.old d2) (hmul _ (by simp; omega)).1 (hmul _ (by simp; omega)).2 d2.size
  exact ⟨v1, y1, v2, y2, v3, y3, u1, x1, u2, x2, u3, x3, hr1, hr2, hr3, hs1, hs2, hs3, b0, b1, b1a, b2, b3, c0, d1, d2, d2.trans (po2.low d2.size pg3), ho3, po3⟩
end
end Go.Proofs.YtndofmoepjfnfaaGreat
namespace Go.Proofs.YtndofmoepjfnfaaGreat
open Go.RowKit
open Pt (Tx)

set_option maxRecDepth 100000 in
set_option maxHeartbeats 8000000 in
theorem refInto_nil (P : Tx) (v z s r : Int) (b : Bool) (A : Option Addr) (l : List Ct.P) (n C : Nat) (w : World) (hn : n = l.length) :
    Calls Tryz.prog 22 #[.slice none 0 0, .agg #[.string (tx P), .int .i64 v, .int .i64 z, .int .i64 s, .int .i64 r, .bool b, .slice A n C]] w fun e w' => ∃ v', e = .returned v' ∧ encF.Own w' w.heap.size 45 v' [⟨⟨P, v, z, s, r, b, l⟩, A, C⟩] ∧ Below w.heap.size w w' := by
  subst hn
  obtain ⟨wz, hwz⟩ : ∃ x, x = w.alloc (fileO P v z s r b A l.length C) := ⟨_, rfl⟩
  have hbz : Below w.heap.size w wz := by rw [hwz]; exact (Below.refl _ _).alloc (Nat.le_refl _) _
  have hkz : wz.heap[w.heap.size]? = some (fileO P v z s r b A l.length C) := by rw [hwz]; exact Go.Deep.blk_alloc_new _ _
  have HW : Hid (wz = w.alloc (.cells #[.string (tx P), .int .i64 v, .int .i64 z, .int .i64 s, .int .i64 r, .bool b, .slice A l.length C] 45)) := Lib.hid hwz
  have HBZ := Lib.hid hbz
  have HKZ := Lib.hid hkz
  clear hbz hkz hwz
  go_enter Tryz.func22, Tryz.ntmps22
  go_upto_region 1 with fail
  rw [← HW.out]
  go_wp2
  go_loopw [5] (fun vi wx => vi = .int .i64 0 ∧ Hid (Below wz.heap.size wz wx)) (fun _ _ => 0)
  case atStart => exact ⟨rfl, Lib.hid (Below.refl _ _)⟩
  case round =>
    obtain ⟨rfl, HWE⟩ := hrel
    go_upto_region 2 with fail
    go_quiet (fail)
    have HW5 : Hid (Below wz.heap.size wz (wr.drewN nq)) := Lib.hid (HWE.out.trans (Below.mono (B := wr.heap.size) ⟨rfl, rfl, rfl, Nat.le_refl _, fun _ _ => rfl⟩ HWE.out.size))
    generalize wr.drewN nq = w5 at HW5 ⊢
    go_upto_region 5 with fail
    go_quiet (fail)
    have HW6 : Hid (Below wz.heap.size wz (w5.drewN nq)) := Lib.hid (HW5.out.trans (Below.mono (B := w5.heap.size) ⟨rfl, rfl, rfl, Nat.le_refl _, fun _ _ => rfl⟩ HW5.out.size))
    generalize w5.drewN nq = w6 at HW6 ⊢
    have HB6 := Lib.hid (HBZ.out.trans (HW6.out.mono HBZ.out.size))
    have HK6 := Lib.hid (below_obj' HW6.out HKZ.out)
    go_upto_region 7 with fail
    obtain ⟨v1, y1, v2, y2, v3, y3, u1, x1, u2, x2, u3, x3, H3⟩ := encF.ins3 36 45 zeroF 80 Tryz.underlying36 infoFile rfl (by decide) w6 ⟨⟨P, v, z, s, r, b, l⟩, A, C⟩ (.cells #[.string (tx P), .int .i64 v, .int .i64 z, .int .i64 s, .int .i64 r, .bool b, .slice A l.length C] 45) rfl none 0 0 [] none 0 0 [] rfl rfl (fun _ => ⟨rfl, rfl⟩) (fun _ => ⟨rfl, rfl⟩) (Enc.Rd.nil _ _ _) (Enc.Rd.nil _ _ _) (by omega)
    have HF3 := Lib.hid (H3.own.lowerE HB6.out.size)
    have HG3 := Lib.hid (H3.pwn.lowerE HB6.out.size)
    have HBF := Lib.hid (HB6.out.trans (H3.b3.mono HB6.out.size))
    have HBG := Lib.hid (HB6.out.trans (H3.c3.mono HB6.out.size))
    have HS : Hid (∀ y, Below w6.heap.size w6 y → y.cell? ⟨w.heap.size, 0, none⟩ = some (.string (tx P)) ∧ y.cell? ⟨w.heap.size, 1, none⟩ = some (.int .i64 v) ∧ y.cell? ⟨w.heap.size, 2, none⟩ = some (.int .i64 z) ∧ y.cell? ⟨w.heap.size, 3, none⟩ = some (.int .i64 s) ∧ y.cell? ⟨w.heap.size, 4, none⟩ = some (.int .i64 r) ∧ y.cell? ⟨w.heap.size, 5, none⟩ = some (.bool b) ∧ y.cell? ⟨w.heap.size, 6, none⟩ = some (.slice A l.length C) ∧ Below w6.heap.size w6 y) := Lib.hid fun y hy => by
      have hk : y.heap[w.heap.size]? = some (fileO P v z s r b A l.length C) := (hy.block _ (heap_lt HK6.out)).trans HK6.out
      obtain ⟨a0, a1, a2, a3, a4, a5, a6⟩ := file7 hk
      exact ⟨a0, a1, a2, a3, a4, a5, a6, hy⟩
    have hr1 := H3.r1
    have hr2 := H3.r2
    have hr3 := H3.r3
    have hs1 := H3.s1
    have hs2 := H3.s2
    have hs3 := H3.s3
    have s0 := HS.out _ H3.b0
    have s1' := HS.out _ H3.b1
    have s1a := HS.out _ H3.b1a
    have s2' := HS.out _ H3.b2
    have s3' := HS.out _ H3.b3
    have t0 := HS.out _ H3.c0
    have t1 := HS.out _ H3.c1
    have t2 := HS.out _ H3.c2
    have t3 := HS.out _ H3.c3
    clear H3
    go_region_held3 (fun y => y.cell? ⟨w.heap.size, 0, none⟩ = some (.string (tx P)) ∧ y.cell? ⟨w.heap.size, 1, none⟩ = some (.int .i64 v) ∧ y.cell? ⟨w.heap.size, 2, none⟩ = some (.int .i64 z) ∧ y.cell? ⟨w.heap.size, 3, none⟩ = some (.int .i64 s) ∧ y.cell? ⟨w.heap.size, 4, none⟩ = some (.int .i64 r) ∧ y.cell? ⟨w.heap.size, 5, none⟩ = some (.bool b) ∧ y.cell? ⟨w.heap.size, 6, none⟩ = some (.slice A l.length C) ∧ Below w6.heap.size w6 y)
      (first
        | exact s0
        | exact s1'
        | exact s1a
        | exact s2'
        | exact s3'
        | exact t0
        | exact t1
        | exact t2
        | exact t3)
      (first
        | (refine step_append_eq (by rfl) _ _ _ _ (by rfl) _ _ _ _ hr1 (by rfl) (by rfl) ?_)
        | (refine step_append_eq (by rfl) _ _ _ _ (by rfl) _ _ _ _ hs1 (by rfl) (by rfl) ?_)
        | (refine step_append_eq (by rfl) _ _ _ _ (by rfl) _ _ _ _ hr2 (by rfl) (by rfl) ?_)
        | (refine step_append_eq (by rfl) _ _ _ _ (by rfl) _ _ _ _ hs2 (by rfl) (by rfl) ?_)
        | (refine step_append_eq (by rfl) _ _ _ _ (by rfl) _ _ _ _ hr3 (by rfl) (by rfl) ?_)
        | (refine step_append_eq (by rfl) _ _ _ _ (by rfl) _ _ _ _ hs3 (by rfl) (by rfl) ?_))
    all_goals
      clear s0 s1' s1a s2' s3' t0 t1 t2 t3 hr1 hr2 hr3 hs1 hs2 hs3
      go_wp2
      go_ret
      first
        | exact ⟨_, rfl, HF3.out, HBF.out⟩
        | exact ⟨_, rfl, HG3.out, HBG.out⟩
end Go.Proofs.YtndofmoepjfnfaaGreat
namespace Go.Proofs.YtndofmoepjfnfaaGreat
open Go.RowKit
open Pt (Tx)

set_option maxRecDepth 100000 in
set_option maxHeartbeats 4000000 in
theorem refVoParts_any (lab cap : Int) (bs : List Tx) (A : Option Addr) (L C : Nat) (G : Nat → Prop) (lost : Bool) (w : World) (hL : L = bs.length) (hr : RdB w A bs G) (hs : L ≤ 1000000) (hl : ∀ s ∈ bs, s.length ≤ 1000) :
    Calls Tryz.prog 20 #[.agg #[.int .i64 lab, .int .i64 cap, .slice A L C, .bool lost]] w (PartsA lab (Vo.parts ⟨lab, bs, lost⟩) w) := by
  obtain ⟨wb, hwb⟩ : ∃ wb, wb = w.alloc (tapeObj lab cap A L C lost) := ⟨_, rfl⟩
  have hB : Below w.heap.size w wb := by rw [hwb]; exact (Below.refl _ _).alloc (Nat.le_refl _) _
  have hT : wb.heap[w.heap.size]? = some (tapeObj lab cap A L C lost) := by rw [hwb]; exact Go.Deep.blk_alloc_new _ _
  obtain ⟨T, hTd⟩ : ∃ T : Vo.T, T = ⟨lab, bs, lost⟩ := ⟨_, rfl⟩
  have hlen : T.blocks.length = L := by rw [hTd, hL]
  have HT0 := Lib.hid hT
  have HB0 := Lib.hid hB
  have HW := Lib.hid hwb
  unfold tapeObj at HW
  have HR := Lib.hid hr
  have HL := Lib.hid hl
  have HTD := Lib.hid hTd
  have HLEN := Lib.hid hlen
  have HLL := Lib.hid hL
  rw [← hTd]
  have HP0 : Hid (Vo.parts T = [] ++ Vo.scan T L 1) := Lib.hid (by rw [List.nil_append, ← hlen]; rfl)
  clear hB hT hwb hr hl hTd hlen hL
  go_enter Tryz.func20, Tryz.ntmps20
  go_wp2_with fail
  rw [← HW.out]
  go_loopw [4, 3] (fun vn vl wr => ∃ (n f : Nat) (pre : List (Rc.H × Nat)), n ≤ L + 1 ∧ L ≤ n + f ∧ pre.length ≤ n ∧ vn = .int .i64 (n : Int) ∧ Hid (Vo.parts T = pre ++ Vo.scan T f n) ∧ Hid ((encP lab).Own wr (w.heap.size + 1) 74 vl pre) ∧ Hid (Below w.heap.size w wr) ∧ Hid (wr.heap[w.heap.size]? = some (tapeObj lab cap A L C lost))) (fun vn _ _ => L + 1 - (intOf vn).toNat)
  case atStart => exact ⟨1, L, [], by omega, by omega, Nat.zero_le _, rfl, HP0, Lib.hid (Enc.Own.nil _ _ _), HB0, HT0⟩
  case round =>
    obtain ⟨n, f, pre, hn1, hn2, hn3, rfl, HP, HO, HB, HT⟩ := hrel
    obtain ⟨t0, t1, t2, t3⟩ := tape4 HT.out
    by_cases hlt : n < L
    · obtain ⟨f, rfl⟩ : ∃ f', f = f' + 1 := ⟨f - 1, by omega⟩
      have hltT : n < T.blocks.length := by rw [HLEN.out]; exact hlt
      have hcall := refPart_any lab cap bs A L C G lost n wr HLL.out (HR.out.old HB.out) (by omega) HL.out
      rw [← HTD.out] at hcall
      have HC := Lib.hid hcall
      clear hcall
      cases hp : Vo.part T n with
      | none =>
        have HP2 : Hid (Vo.parts T = pre ++ Vo.scan T f (n + 1)) := Lib.hid (by rw [← scan_no hltT hp]; exact HP.out)
        rw [hp] at HC
        clear hp hltT
        go_wp2_with fail
        refine HC.out.mono ?_
        rintro e w1 ⟨rfl, hb1⟩
        have hb2 : Below wr.heap.size wr (w1.alloc (.cells #[.string ⟨#[]⟩, .int .i64 0, .int .i64 0, .int .i64 0, .int .i64 0, .int .i64 0, .int .i64 0, .bool false] 30)) := hb1.alloc hb1.size _
        have HB2 := Lib.hid (HB.out.trans (hb2.mono HB.out.size))
        have HT2 := Lib.hid (below_obj' hb2 HT.out)
        have HO2 := Lib.hid (HO.out.old hb2)
        clear t0 t1 t2 t3 hb1 hb2
        unfold headVal
        go_wp2
        go_roundw
        case rel => exact ⟨n + 1, f, pre, by omega, by omega, by omega, by go_num, HP2, HO2, HB2, HT2⟩
        case measure => simp [intOf]; omega
      | some q =>
        have HP2 : Hid (Vo.parts T = (pre ++ [(q, n)]) ++ Vo.scan T f (n + Vo.need q.len)) := Lib.hid (by rw [← snoc_append, ← scan_yes hltT hp]; exact HP.out)
        have hin := (Vo.part_in hp).1
        have hok := (Vo.part_in hp).2
        have hq := need_head hok
        rw [HLEN.out] at hin
        rw [hp] at HC
        clear hp hltT
        obtain ⟨P, v, z, fr, l, s, m, g⟩ := q
        have hin' : n + Vo.data l.toNat + 1 < L := hin
        have hq' : Vo.need l = Vo.data l.toNat + 2 := hq
        have hl4 : l ≤ 4000 := by
          obtain ⟨-, -, -, ⟨_, a⟩, b', c, d, _⟩ := hok
          simp only at a b' c d
          omega
        obtain ⟨D, hD⟩ : ∃ D, D = Vo.data l.toNat := ⟨_, rfl⟩
        obtain ⟨K, hK⟩ : ∃ K, K = Vo.need l := ⟨_, rfl⟩
        have hK2 : n + K ≤ L ∧ K = D + 2 := by rw [hK, hD]; omega
        have HP3 : Hid (Vo.parts T = (pre ++ [(⟨P, v, z, fr, l, s, m, g⟩, n)]) ++ Vo.scan T f (n + K)) := Lib.hid (by rw [hK]; exact HP2.out)
        have hcall : ∀ y, Calls Tryz.prog 42 #[.int .i64 l] y fun e w' => e = .returned (.int .i64 (D : Int)) ∧ y = w' := fun y => by rw [hD]; exact refData_any l (by omega) y
        have HCB := Lib.hid hcall
        clear hin hq hin' hq' hK HP2 hcall hok hD hl4
        go_wp2_with fail
        refine HC.out.mono ?_
        rintro e w1 ⟨rfl, hb1⟩
        obtain ⟨w2, hw2⟩ : ∃ w2, w2 = w1.alloc (headObj P v z fr l s m g) := ⟨_, rfl⟩
        have hb2 : Below wr.heap.size wr w2 := by rw [hw2]; exact hb1.alloc hb1.size _
        have hP2 : w2.heap[w1.heap.size]? = some (headObj P v z fr l s m g) := by rw [hw2]; exact Go.Deep.blk_alloc_new _ _
        have HP2 := Lib.hid hP2
        have HB2 := Lib.hid (HB.out.trans (hb2.mono HB.out.size))
        have HT2 := Lib.hid (below_obj' hb2 HT.out)
        have HW2 : Hid (w2 = w1.alloc (.cells #[.string (tx P), .int .i64 v, .int .i64 z, .int .i64 fr, .int .i64 l, .int .i64 s, .int .i64 m, .bool g] 30)) := Lib.hid hw2
        have hO3 := (HO.out.old hb2).old (w' := w2.alloc (.cells (cells10 ⟨P, v, z, fr, l, s, m, g⟩ lab n).toArray 74)) ((Below.refl _ _).alloc (Nat.le_refl _) _)
        have hsz : w2.heap.size = w1.heap.size + 1 := by rw [hw2]; simp
        have hbz : w.heap.size ≤ w2.heap.size := HB2.out.size
        have HSZ := Lib.hid hsz
        have HO3 := Lib.hid hO3
        have hlo : wr.heap.size ≤ w1.heap.size := hb1.size
        have hlo0 : w.heap.size < wr.heap.size := heap_lt HT.out
        have HB2' := Lib.hid hb2
        obtain ⟨a0, a1, a2, a3, a4, a5, a6, a7⟩ := head8 HP2.out
        obtain ⟨t0, t1, t2, t3⟩ := tape4 HT2.out
        clear hb1 hb2 hP2 hw2 hO3 hsz HC
        rw [HW2.out] at a0 a1 a2 a3 a4 a5 a6 a7 t0 t1 t2 t3
        unfold headVal
        go_upto_region 7 with fail
        rw [← HW2.out] at a0 a1 a2 a3 a4 a5 a6 a7 t0 t1 t2 t3 ⊢
        go_wp2_with (at_builtin; refine wpList_append_st' (encP lab) _ rfl _ _ _ rfl (w.heap.size + 1) 74 _ 88 Tryz.underlying43 infoPart rfl _ pre rfl HO3.out ⟨w2.heap.size, 0, none⟩ 1 1 [(⟨P, v, z, fr, l, s, m, g⟩, n)] rfl rfl (newCellsAt _ (cells10 ⟨P, v, z, fr, l, s, m, g⟩ lab n) _ _ (by simp)) (by unfold maxLen; omega) (by omega) (by simp; omega) ?_; intro v' w3 hO4 hg4; obtain ⟨k1, k2, k3⟩ := grown_keeps HO.out rfl HB.out HB2'.out hg4; have b0 := (head8 (k1 _ _ hlo HP2.out)).2.2.2.2.1; have HT4 := Lib.hid (k2 _ HT2.out); have HB4 := Lib.hid k3; have HO4 := Lib.hid hO4; clear k1 k2 k3 hO4 hg4 a0 a1 a2 a3 a4 a5 a6 a7 t0 t1 t2 t3)
        refine (HCB.out _).mono ?_
        rintro e w4 ⟨rfl, hw4⟩
        subst hw4
        go_wp2
        go_roundw
        case rel => exact ⟨n + K, f, _, by omega, by omega, by simp; omega, by go_num, HP3, HO4, HB4, HT4⟩
        case measure => simp [intOf]; omega
    · have hend : Vo.parts T = pre := by
        rw [HP.out, scan_end (by rw [HLEN.out]; omega), List.append_nil]
      have HE := Lib.hid hend
      obtain ⟨A', C', hv, h1, h2, h3, h4⟩ := HO.out.rd
      have HR4 := Lib.hid h4
      have H3 := Lib.hid h3
      clear hend h3 h4
      subst hv
      go_wp2
      go_ret
      rw [HE.out]
      exact ⟨A', C', rfl, h1, h2, H3.out, HR4.out.mono fun x hx => by omega, HB.out⟩
end Go.Proofs.YtndofmoepjfnfaaGreat
namespace Go.Proofs.YtndofmoepjfnfaaGreat
open Go.RowKit
open Pt (Tx)

/-- files are answered, each with its parts in new memory -/
def FromF (fs : List Ct.F) (w : World) (e : Ending) (w' : World) : Prop := ∃ v xs, e = .returned v ∧ encF.Own w' w.heap.size 45 v xs ∧ xs.map Fx.f = fs ∧ (∀ x ∈ xs, x.Ok w' (w.heap.size ≤ ·)) ∧ Below w.heap.size w w'
theorem scan_len {t : Vo.T} : ∀ (f n : Nat), (Vo.scan t f n).length ≤ f
  | 0, _ => Nat.le_refl _
  | f + 1, n => by
    rw [Vo.scan]
    split
    · split
      · rw [List.length_cons]; have := scan_len (t := t) f; exact Nat.succ_le_succ (this _)
      · exact Nat.le_succ_of_le (scan_len f _)
    · exact Nat.zero_le _
theorem partsOf_len (t : St.T) : (Ct.partsOf t).length ≤ t.blocks.length := by
  unfold Ct.partsOf
  rw [List.length_map]
  exact scan_len _ _
set_option maxRecDepth 100000 in
set_option maxHeartbeats 16000000 in
theorem refFrom_one (ts : List St.T) (A1 : Option Addr) (n1 C1 : Nat) (G1 : Nat → Prop) (w : World) (h1 : n1 = ts.length) (hr1 : RdT w A1 ts G1) (hm1 : n1 ≤ 1000) (hb1 : ∀ t ∈ ts, t.blocks.length ≤ 1000 ∧ ∀ s ∈ t.blocks, s.length ≤ 1000)
    (p0 : Ct.P) (hp0 : (Ct.all ts)[0]? = some p0) (hal : ∀ i (hi : i < (Ct.all ts).length), Ct.common (Ct.all ts)[i].h = Ct.common p0.h) (hlen : ∀ p ∈ Ct.all ts, 0 ≤ p.h.len) (hsz : ∀ p ∈ Ct.all ts, p.h.size ≤ 1000000000) :
    Calls Tryz.prog 7 #[.slice A1 n1 C1] w (FromF (Cf.from1 (Ct.all ts)) w) := by
  have HR1 := Lib.hid hr1
  have HL1 := Lib.hid h1
  have HB1 := Lib.hid hb1
  have HP0 := Lib.hid hp0
  have HAL := Lib.hid hal
  have HLEN := Lib.hid hlen
  have HSZ := Lib.hid hsz
  clear hr1 h1 hb1 hp0 hal hlen hsz
  go_enter Tryz.func7, Tryz.ntmps7
  go_wp2
  go_loopw [4, 3] (fun vi vl wr => ∃ (k : Nat) (pre : List Ct.P), k ≤ n1 ∧ vi = .int .i64 (k : Int) ∧ pre.length ≤ k * 1000 ∧ Hid (pre = Ct.all (ts.take k)) ∧ Hid (encQ.Own wr w.heap.size 74 vl pre) ∧ Hid (Below w.heap.size w wr)) (fun vi _ _ => n1 - (intOf vi).toNat)
  case atStart => exact ⟨0, [], Nat.zero_le _, rfl, by simp, Lib.hid rfl, Lib.hid (Enc.Own.nil _ _ _), Lib.hid (Below.refl _ _)⟩
  case round =>
    obtain ⟨k, pre, hk, rfl, hpl, HP, HO, HB⟩ := hrel
    by_cases hlt : k < n1
    · have hltT : k < ts.length := by rw [← HL1.out]; exact hlt
      obtain ⟨b, off, A', C', rfl, -, c0, c1, c2, c3, hrB⟩ := (HR1.out.old HB.out).at_ hltT
      have hbl := HB1.out ts[k] (List.getElem_mem hltT)
      have hnext := Ct.all_take hltT
      have hpn := partsOf_len ts[k]
      rw [← HP.out] at hnext
      have hpe : Ct.partsOf ts[k] = (Vo.parts ⟨ts[k].label, ts[k].blocks, ts[k].lost⟩).map fun q => (⟨q.1, ts[k].label, (q.2 : Int)⟩ : Ct.P) := rfl
      obtain ⟨lab, cap, bs, lost, ht⟩ : ∃ lab cap bs lost, ts[k] = ⟨lab, cap, bs, lost⟩ := ⟨_, _, _, _, rfl⟩
      rw [ht] at c0 c1 c2 c3 hrB hbl hnext hpn hpe
      dsimp only at c0 c1 c2 c3 hrB hbl hpn hpe
      obtain ⟨new, hnew⟩ : ∃ new, new = Ct.partsOf ⟨lab, cap, bs, lost⟩ := ⟨_, rfl⟩
      rw [← hnew] at hnext hpn hpe
      obtain ⟨N, hN⟩ : ∃ N, N = bs.length := ⟨_, rfl⟩
      rw [← hN] at c2 hbl hpn
      have hcall := refVoParts_any lab cap bs A' N C' _ lost wr hN hrB (by omega) hbl.2
      have HC := Lib.hid hcall
      have HNX := Lib.hid hnext
      have HPE := Lib.hid hpe
      have hN1 := hbl.1
      have hsz : w.heap.size ≤ wr.heap.size := HB.out.size
      clear hcall hnext hpe hnew hN hrB hbl ht hltT
      go_wp2_with (first
        | (go_at_call 20; refine HC.out.mono ?_; rintro e w1 ⟨Ap, Cp, rfl, hp1, hp2, hp3, hpr, hb⟩; have HPR : Hid (encQ.Rd w1 Ap new (fun _ => True)) := Lib.hid (by rw [HPE.out]; exact (rdQ_of hpr).mono fun _ _ => trivial); have HO1 := Lib.hid (HO.out.old hb); have HB1' := Lib.hid (HB.out.trans (hb.mono hsz)); have hpl2 : (Vo.parts ⟨lab, bs, lost⟩).length = new.length := (by rw [HPE.out, List.length_map]); rw [hpl2] at hp1 hp3 ⊢; have HP3 := Lib.hid hp3; clear hpr hb hpl2 hp3 c0 c1 c2 c3)
        | (at_builtin; refine wpList_append_stO encQ _ rfl _ _ _ rfl w.heap.size 74 _ 88 Tryz.underlying43 infoPart rfl _ pre rfl HO1.out Ap new.length Cp new _ rfl rfl HP3.out HPR.out (by unfold maxLen; omega) (by omega) HB1'.out.size ?_; intro v' w3 hO3 hg3; have HO3 := Lib.hid hO3; have HB3 := Lib.hid (HB1'.out.grown hg3 HB1'.out.size (fun x hx => (HO1.out.lt x hx).1)); clear hO3 hg3))
      go_roundw
      case rel => exact ⟨k + 1, _, by omega, by go_num, by rw [List.length_append]; omega, Lib.hid HNX.out.symm, HO3, HB3⟩
      case measure => simp [intOf]; omega
    · have hall : pre = Ct.all ts := by rw [HP.out, List.take_of_length_le (by rw [← HL1.out]; omega)]
      subst hall
      obtain ⟨Ao, Co, rfl, ho1, ho2, ho3, hor⟩ := HO.out.rd
      obtain ⟨ps, hps⟩ : ∃ ps, ps = Ct.all ts := ⟨_, rfl⟩
      rw [← hps] at hpl HO ho1 ho3 hor HP0 HAL HLEN HSZ
      rw [← hps]
      obtain ⟨N, hN⟩ : ∃ N, N = ps.length := ⟨_, rfl⟩
      have hNl : N ≤ 1000000 := by omega
      have h0N : 0 < N := by
        have := (List.getElem?_eq_some_iff.1 HP0.out).1
        omega
      have HN := Lib.hid hN
      have HPS := Lib.hid hps
      have HOR : Hid (encQ.Rd wr Ao ps (fun _ => True)) := Lib.hid (hor.mono fun _ _ => trivial)
      rw [← hN]
      clear ho1 ho2 ho3 hor hN hps hpl HP HR1 HB1 HL1
      obtain ⟨w0, rfl⟩ : ∃ x, x = wr := ⟨wr, rfl⟩
      go_wp2
      clear hk hlt
      go_loopw [6, 5] (fun vi vo wr => ∃ (i : Nat), i ≤ N ∧ vi = .int .i64 (i : Int) ∧ ((i = 0 ∧ vo = .slice none 0 0) ∨ (0 < i ∧ Hid (∃ xs, encF.Own wr w.heap.size 45 vo xs ∧ xs.map Fx.f = Cf.from1 ps ∧ ∀ x ∈ xs, x.Ok wr (w.heap.size ≤ ·)))) ∧ Hid (Below w0.heap.size w0 wr)) (fun vi _ _ => N - (intOf vi).toNat)
      case atStart => exact ⟨0, by omega, rfl, .inl ⟨rfl, rfl⟩, Lib.hid (Below.refl _ _)⟩
      case round =>
        obtain ⟨i, hi, rfl, hout, HBW⟩ := hrel
        have HOUT := Lib.hid hout
        clear hout
        by_cases hlt : i < N
        · have hlp : i < ps.length := by rw [← HN.out]; exact hlt
          obtain ⟨b0, off, rfl, -, t1⟩ := ten_of (HOR.out.old HBW.out) hlp
          have hci := HAL.out i hlp
          obtain ⟨q, hq⟩ : ∃ q, q = ps[i] := ⟨_, rfl⟩
          rw [← hq] at t1 hci
          obtain ⟨⟨P, v, z, f, l, s, m, g⟩, lab, at_⟩ := q
          have HCI := Lib.hid hci
          obtain ⟨c0, c1, c2, c3, c4, c5, c6, c7, -, -⟩ := t1
          dsimp only at c0 c1 c2 c3 c4 c5 c6 c7
          obtain ⟨w2, hw2⟩ : ∃ x, x = wr.alloc (headObj P v z f l s m g) := ⟨_, rfl⟩
          have hb2 : Below wr.heap.size wr w2 := by rw [hw2]; exact (Below.refl _ _).alloc (Nat.le_refl _) _
          have hk2 : w2.heap[wr.heap.size]? = some (headObj P v z f l s m g) := by rw [hw2]; exact Go.Deep.blk_alloc_new _ _
          have HW2 : Hid (w2 = wr.alloc (.cells #[.string (tx P), .int .i64 v, .int .i64 z, .int .i64 f, .int .i64 l, .int .i64 s, .int .i64 m, .bool g] 30)) := Lib.hid hw2
          have HB2 := Lib.hid hb2
          have HK2 := Lib.hid hk2
          have HOR2 := Lib.hid ((HOR.out.old HBW.out).old hb2)
          have hwl : w0.heap.size ≤ wr.heap.size := HBW.out.size
          clear hw2 hb2 hk2 hq hlp hci
          go_upto_region 11 with fail
          rw [← HW2.out]
          clear c0 c1 c2 c3 c4 c5 c6 c7
          obtain ⟨wq, rfl⟩ : ∃ x, x = wr := ⟨wr, rfl⟩
          go_wp2
          go_loopw [10, 8, 9] (fun vk vf vm wx => ∃ (k : Nat), k ≤ N ∧ vk = .int .i64 (k : Int) ∧ vf = .bool (decide (k = 0) || decide (i = 0)) ∧ Hid (encQ.Own wx w2.heap.size 74 vm (ps.take k)) ∧ Hid (Below w2.heap.size w2 wx)) (fun vk _ _ _ => N - (intOf vk).toNat)
          case atStart => exact ⟨0, by omega, rfl, by simp, Lib.hid (by rw [List.take_zero]; exact Enc.Own.nil _ _ _), Lib.hid (Below.refl _ _)⟩
          case round =>
            obtain ⟨k, hk, rfl, rfl, HO3, HB3⟩ := hrel
            by_cases hlk : k < N
            · have hlp : k < ps.length := by rw [← HN.out]; exact hlk
              obtain ⟨b1, o1, hba, -, t1⟩ := ten_of (HOR2.out.old HB3.out) hlp
              have hck := (HAL.out k hlp).trans HCI.out.symm
              have htk : ps.take k ++ [ps[k]] = ps.take (k + 1) := List.take_append_getElem hlp
              obtain ⟨q, hq⟩ : ∃ q, q = ps[k] := ⟨_, rfl⟩
              rw [← hq] at t1 hck htk
              obtain ⟨⟨P1, v1, z1, f1, l1, s1, m1, g1⟩, lab1, at1⟩ := q
              have HTK := Lib.hid htk
              obtain ⟨e1, e2, e3, e4, e5, e6⟩ : P1 = P ∧ v1 = v ∧ z1 = z ∧ s1 = s ∧ m1 = m ∧ g1 = g := by
                unfold Ct.common at hck
                injection hck with k1 k2 k3 k4 k5 k6 k7 k8
                exact ⟨k1, k2, k3, k6, k7, k8⟩
              clear htk hck hq hlp
              subst e1 e2 e3 e4 e5 e6
              cases hba
              have HT1 := Lib.hid t1
              obtain ⟨c0, c1, c2, c3, c4, c5, c6, c7, c8, c9⟩ := t1
              dsimp only at c0 c1 c2 c3 c4 c5 c6 c7 c8 c9
              obtain ⟨w4, hw4⟩ : ∃ x, x = wr.alloc (headObj P1 v1 z1 f1 l1 s1 m1 g1) := ⟨_, rfl⟩
              have hb4 : Below wr.heap.size wr w4 := by rw [hw4]; exact (Below.refl _ _).alloc (Nat.le_refl _) _
              have hk4 : w4.heap[wr.heap.size]? = some (headObj P1 v1 z1 f1 l1 s1 m1 g1) := by rw [hw4]; exact Go.Deep.blk_alloc_new _ _
              have HW4 : Hid (w4 = wr.alloc (.cells #[.string (tx P1), .int .i64 v1, .int .i64 z1, .int .i64 f1, .int .i64 l1, .int .i64 s1, .int .i64 m1, .bool g1] 30)) := Lib.hid hw4
              have HB4 := Lib.hid (HB3.out.trans (hb4.mono HB3.out.size))
              have HO4 := Lib.hid (HO3.out.old hb4)
              have HT4 := Lib.hid (HT1.out.old hb4)
              have HLK : Hid ((ps.take k).length = k) := Lib.hid (by rw [List.length_take]; have := HN.out; omega)
              have hkl : (ps.take k).length ≤ 1000000 := by rw [HLK.out]; omega
              have hw4l : w2.heap.size ≤ w4.heap.size := HB4.out.size
              have eP := tx_toList P1
              obtain ⟨x0, x1, x2, x3, x4, x5, x6, x7⟩ := head8 hk4
              obtain ⟨u0, u1, u2, u3, u4, u5, u6, u7⟩ := head8 (below_head HB4.out HK2.out)
              clear hw4 hb4 hk4
              go_upto_region 17 with fail
              rw [← HW4.out]
              clear c0 c1 c2 c3 c4 c5 c6 c7 c8 c9
              go_upto_region 18 with fail
              clear x0 x1 x2 x3 x4 x5 x6 x7 u0 u1 u2 u3 u4 u5 u6 u7
              obtain ⟨c0, c1, c2, c3, c4, c5, c6, c7, c8, c9⟩ := HT4.out
              dsimp only at c0 c1 c2 c3 c4 c5 c6 c7 c8 c9
              by_cases hki : k < i
              · have dki : decide (k < i) = true := decide_eq_true hki
                have hfb : (decide (k + 1 = 0) || decide (i = 0)) = false := by rw [decide_eq_false (by omega), decide_eq_false (by omega)]; rfl
                go_wp2_with (at_builtin; refine wpList_append_st' encQ _ rfl _ _ _ rfl w2.heap.size 74 _ 88 Tryz.underlying43 infoPart rfl _ (ps.take k) rfl (HO4.out.old ((Below.refl _ _).alloc (Nat.le_refl _) _)) ⟨w4.heap.size, 0, none⟩ 1 1 [⟨⟨P1, v1, z1, f1, l1, s1, m1, g1⟩, lab1, at1⟩] rfl rfl (newCells _ (cells10 ⟨P1, v1, z1, f1, l1, s1, m1, g1⟩ lab1 at1) _) (by unfold maxLen; omega) (by omega) (by simp; omega) ?_; intro v' w5 hO5 hg5; rw [HTK.out] at hO5; have HO5 := Lib.hid hO5; have HB5 := Lib.hid ((HB4.out.alloc hw4l _).grown hg5 (by simp; omega) (fun x hx => (HO4.out.lt x hx).1)); clear hO5 hg5)
                go_roundw
                case rel => exact ⟨k + 1, by omega, by go_num, by rw [hfb], HO5, HB5⟩
                case measure => simp [intOf]; omega
              · have dki : decide (k < i) = false := decide_eq_false hki
                have hfb : (decide (k + 1 = 0) || decide (i = 0)) = (decide (k = 0) || decide (i = 0)) := by
                  by_cases h : i = 0
                  · rw [decide_eq_true h]; simp
                  · rw [decide_eq_false h, decide_eq_false (show ¬ k + 1 = 0 by omega), decide_eq_false (show ¬ k = 0 by omega)]
                go_wp2_with (at_builtin; refine wpList_append_st' encQ _ rfl _ _ _ rfl w2.heap.size 74 _ 88 Tryz.underlying43 infoPart rfl _ (ps.take k) rfl (HO4.out.old ((Below.refl _ _).alloc (Nat.le_refl _) _)) ⟨w4.heap.size, 0, none⟩ 1 1 [⟨⟨P1, v1, z1, f1, l1, s1, m1, g1⟩, lab1, at1⟩] rfl rfl (newCells _ (cells10 ⟨P1, v1, z1, f1, l1, s1, m1, g1⟩ lab1 at1) _) (by unfold maxLen; omega) (by omega) (by simp; omega) ?_; intro v' w5 hO5 hg5; rw [HTK.out] at hO5; have HO5 := Lib.hid hO5; have HB5 := Lib.hid ((HB4.out.alloc hw4l _).grown hg5 (by simp; omega) (fun x hx => (HO4.out.lt x hx).1)); clear hO5 hg5)
                go_roundw
                case rel => exact ⟨k + 1, by omega, by go_num, by rw [hfb], HO5, HB5⟩
                case measure => simp [intOf]; omega
            · have hmine : ps.take k = ps := List.take_of_length_le (by rw [← HN.out]; omega)
              have HOM := Lib.hid HO3.out
              rw [hmine] at HOM
              have hB3 := HB2.out.trans (HB3.out.mono HB2.out.size)
              have HBN := Lib.hid (HBW.out.trans (hB3.mono HBW.out.size))
              by_cases hi0 : i = 0
              · have hfb : (decide (k = 0) || decide (i = 0)) = true := by rw [decide_eq_true hi0]; simp
                obtain ⟨rfl, rfl⟩ : i = 0 ∧ u5 = .slice none 0 0 := by
                  rcases HOUT.out with h | h
                  · exact h
                  · exact absurd h.1 (by omega)
                rw [hfb]
                obtain ⟨Am, Cm, rfl, hm1', hm2', hm3', hmr⟩ := HOM.out.rd
                rw [← HN.out] at hm1' hm3'
                have hcall := refWhole_any Am ps N Cm _ wr HN.out (by omega) hmr p0 HP0.out HAL.out HLEN.out HSZ.out
                have HC := Lib.hid hcall
                have HHB3 := Lib.hid hB3
                clear hcall hmr hm3' hmine hB3 hfb hi0 HOUT HCI
                rw [← HN.out]
                cases hwh : Cf.whole ps with
                | none =>
                  rw [hwh] at HC
                  have HFR : Hid (Cf.from1 ps = []) := Lib.hid (by unfold Cf.from1; rw [hwh]; rfl)
                  clear hwh
                  go_wp2_with (go_at_call 21; refine HC.out.mono ?_; rintro e w5 ⟨rfl, hb5⟩; have HB5 := Lib.hid hb5; clear hb5)
                  go_roundw
                  case rel => exact ⟨1, by omega, by go_num, .inr ⟨by omega, Lib.hid ⟨[], Enc.Own.nil _ _ _, HFR.out.symm, fun x hx => nomatch hx⟩⟩, Lib.hid ((HBN.out.trans (HB5.out.mono HBN.out.size)).alloc (Nat.le_trans HBN.out.size HB5.out.size) _)⟩
                  case measure => simp [intOf]; omega
                | some fl =>
                  rw [hwh] at HC
                  have HFR : Hid (Cf.from1 ps = [fl]) := Lib.hid (by unfold Cf.from1; rw [hwh]; rfl)
                  clear hwh
                  obtain ⟨fP, fv, fz, fs, fr, fg, fps⟩ := fl
                  go_wp2_with (go_at_call 21; refine HC.out.mono ?_; rintro e w5 ⟨⟨Af, Cf', rfl, hof⟩, hb5⟩; have HB5 := Lib.hid hb5; have HOF := Lib.hid hof; clear hb5 hof)
                  obtain ⟨nf, hnf⟩ : ∃ nf, nf = fps.length := ⟨_, rfl⟩
                  have HNF := Lib.hid hnf
                  rw [← hnf]
                  clear hnf
                  obtain ⟨w6, hw6⟩ : ∃ x, x = w5.alloc (fileO fP fv fz fs fr fg Af nf Cf') := ⟨_, rfl⟩
                  have hb6 : Below w5.heap.size w5 w6 := by rw [hw6]; exact (Below.refl _ _).alloc (Nat.le_refl _) _
                  have hk6 : w6.heap[w5.heap.size]? = some (fileO fP fv fz fs fr fg Af nf Cf') := by rw [hw6]; exact Go.Deep.blk_alloc_new _ _
                  have HW6 : Hid (w6 = w5.alloc (.cells #[.string (tx fP), .int .i64 fv, .int .i64 fz, .int .i64 fs, .int .i64 fr, .bool fg, .slice Af nf Cf'] 45)) := Lib.hid hw6
                  have HB6 := Lib.hid (HBN.out.trans ((HB5.out.trans (hb6.mono HB5.out.size)).mono HBN.out.size))
                  have HK6 := Lib.hid hk6
                  have HOF6 := Lib.hid (HOF.out.old hb6)
                  have hl6 : w5.heap.size ≤ w6.heap.size := hb6.size
                  have hl5 : wr.heap.size ≤ w5.heap.size := HB5.out.size
                  rw [← HW6.out]
                  clear hw6 hb6 hk6 HOF
                  obtain ⟨w7, rfl⟩ : ∃ x, x = wr := ⟨wr, rfl⟩
                  go_loopw [15, 14] (fun vi vb wx => vi = .int .i64 0 ∧ vb = .bool true ∧ Hid (Below w6.heap.size w6 wx)) (fun _ _ _ => 0)
                  case atStart => exact ⟨rfl, rfl, Lib.hid (Below.refl _ _)⟩
                  case round =>
                    obtain ⟨rfl, rfl, HB7⟩ := hrel
                    obtain ⟨y0, y1, y2, y3, y4, y5, y6⟩ := file7 (below_obj' HB7.out HK6.out)
                    go_wp2_with (go_at_call 22; refine (refInto_nil fP fv fz fs fr fg Af fps nf Cf' _ HNF.out).mono ?_; rintro e w8 ⟨v', rfl, ho8, hb8⟩; have HO8 := Lib.hid ho8; have HB8 := Lib.hid hb8; clear ho8 hb8 y0 y1 y2 y3 y4 y5 y6)
                    go_roundw
                    case rel =>
                      obtain ⟨A9, C9, e9, t1, t2, t3, t4⟩ := HOF6.out.rd
                      cases e9
                      have hok : (⟨⟨fP, fv, fz, fs, fr, fg, fps⟩, Af, Cf'⟩ : Fx).Ok w6 (w.heap.size ≤ ·) := ⟨t1, t2, t3, t4.mono fun b hb => by have := HB.out.size; have := HBN.out.size; omega⟩
                      have hb9 := HB7.out.trans (HB8.out.mono HB7.out.size)
                      exact ⟨1, by omega, by go_num, .inr ⟨by omega, Lib.hid ⟨[⟨⟨fP, fv, fz, fs, fr, fg, fps⟩, Af, Cf'⟩], HO8.out.lowerE (by have := HB.out.size; have := HB6.out.size; have := HB7.out.size; omega), HFR.out.symm, fun x hx => by rw [List.mem_singleton.1 hx]; exact hok.old hb9⟩⟩, Lib.hid (HB6.out.trans (hb9.mono HB6.out.size))⟩
                    case measure => simp [intOf]; omega
              · have hfb : (decide (k = 0) || decide (i = 0)) = false := by rw [decide_eq_false hi0, decide_eq_false (by omega)]; rfl
                rw [hfb]
                have HXS : Hid (∃ xs, encF.Own wr w.heap.size 45 u5 xs ∧ xs.map Fx.f = Cf.from1 ps ∧ ∀ x ∈ xs, x.Ok wr (w.heap.size ≤ ·)) := by
                  rcases HOUT.out with h | h
                  · exact absurd h.1 hi0
                  · obtain ⟨xs, k1, k2, k3⟩ := h.2.out
                    exact Lib.hid ⟨xs, k1.old hB3, k2, fun x hx => (k3 x hx).old hB3⟩
                clear hfb hmine hB3
                go_wp2
                go_roundw
                case rel => exact ⟨i + 1, by omega, by go_num, .inr ⟨by omega, HXS⟩, HBN⟩
                case measure => simp [intOf]; omega
        · have hin : 0 < i := by omega
          obtain ⟨xs, k1, k2, k3⟩ : ∃ xs, encF.Own wr w.heap.size 45 u5 xs ∧ xs.map Fx.f = Cf.from1 ps ∧ ∀ x ∈ xs, x.Ok wr (w.heap.size ≤ ·) := by
            rcases HOUT.out with h | h
            · exact absurd h.1 (by omega)
            · exact h.2.out
          have K1 := Lib.hid k1
          have K2 := Lib.hid k2
          have K3 := Lib.hid k3
          clear k1 k2 k3 HOUT
          go_wp2
          go_ret
          exact ⟨_, xs, rfl, K1.out, by rw [← HPS.out]; exact K2.out, K3.out, HB.out.trans (HBW.out.mono HB.out.size)⟩
end Go.Proofs.YtndofmoepjfnfaaGreat
