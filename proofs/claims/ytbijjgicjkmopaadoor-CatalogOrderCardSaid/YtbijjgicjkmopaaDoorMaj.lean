/- What Get of package frame answers. Tapes that read: a slice of slices of bytes as a list of texts. No function of the program. What Good of package volume answers. How many blocks a part takes: what Need of package volume answers. What between of package record answers. -/
import Derived.Test.YtbijjgicjkmopaaDoorMai
import Derived.Test.YtbijjgicjkmopaaDoorMad
import Derived.Test.YtbijjgicjkmopaaDoorMaf
import Derived.Test.YtbijjgicjkmopaaDoorMae
import Derived.BigQuiet
import Derived.Deep.QuietTactic
import Derived.Deep.RegionWith
import Derived.Test.YtbijjgicjkmopaaDoorChecked
import Derived.OwnWalk
import Derived.Handy
import Derived.WalkSpells
import Derived.WalkLawsBesides
namespace Go.Proofs.YtbijjgicjkmopaaDoor
open Go.RowKit
open Pt (Tx)

/-- what Get answers: unit and error -/
def GotU (b : Tx) (w : World) (e : Ending) (w' : World) : Prop :=
  ∃ A m C, e = .returned (.tuple #[.agg #[.int .i64 (Fm.got b).kind, .int .i64 (Fm.got b).label, .int .i64 (Fm.got b).number, .slice A m C], .int .i64 (Fm.gotE b)]) ∧ m = (Fm.got b).load.length ∧ m ≤ C ∧ (A = none → m = 0 ∧ C = 0) ∧ RdL w' A (Fm.got b).load (w.heap.size ≤ ·) ∧ Below w.heap.size w w'
theorem GotU.stored {w w7 : World} {B : Nat} {a0 a1 a2 a3 : Value} {b : Tx} {u : Fm.U} {er : Int} {A : Option Addr} {m C : Nat} (hu : Fm.got b = u) (he : Fm.gotE b = er) (hB : B = w.heap.size) (hr : RdL w7 A u.load (B < ·)) (hm : m = u.load.length) (hc : m ≤ C) (hn : A = none → m = 0 ∧ C = 0) (hb : Below w.heap.size w w7) :
    GotU b w (.returned (.tuple #[.agg #[.int .i64 u.kind, .int .i64 u.label, .int .i64 u.number, .slice A m C], .int .i64 er])) ((((w7.setCell ⟨B, 0, none⟩ a0).setCell ⟨B, 1, none⟩ a1).setCell ⟨B, 2, none⟩ a2).setCell ⟨B, 3, none⟩ a3) := by
  subst hB
  have hk : Kp (· = w.heap.size) w7 ((((w7.setCell ⟨w.heap.size, 0, none⟩ a0).setCell ⟨w.heap.size, 1, none⟩ a1).setCell ⟨w.heap.size, 2, none⟩ a2).setCell ⟨w.heap.size, 3, none⟩ a3) := (((Kp.store _ _ _ _).trans (Kp.store _ _ _ _)).trans (Kp.store _ _ _ _)).trans (Kp.store _ _ _ _)
  exact ⟨A, m, C, by rw [hu, he], by rw [hu]; exact hm, hc, hn, by rw [hu]; exact (hr.kp hk (fun x hx hx' => by omega)).mono (fun x hx => by omega), hb.trans (hk.below hb.size (fun x hx => by omega))⟩
set_option maxHeartbeats 4000000 in
theorem frameGet_any (A : Option Addr) (b : Tx) (L C : Nat) (G : Nat → Prop) (w : World) (hL : L = b.length) (hC : L ≤ C) (hl : L ≤ 1000000) (hA : A = none → L = 0 ∧ C = 0) (hr : RdL w A b G) :
    Calls Tryd.prog 48 #[.slice A L C] w (GotU b w) := by
  have HB0 : Hid (Below w.heap.size w (w.alloc (unitObj 0 0 0 none 0 0))) := Lib.hid ((Below.refl _ _).alloc (Nat.le_refl _) _)
  have HR := Lib.hid hr
  have HL := Lib.hid hL
  have HN := Lib.hid (read_any A b L C G (w.alloc (unitObj 0 0 0 none 0 0)) hL hC hl hA (hr.old HB0.out))
  unfold unitObj at HN
  obtain ⟨er, her⟩ : ∃ er, er = Fm.err (Fm.parse b) := ⟨_, rfl⟩
  obtain ⟨k, lb, nb, s, hu⟩ : ∃ k lb nb s, Fm.parse b = ⟨k, lb, nb, s⟩ := ⟨_, _, _, _, rfl⟩
  rw [hu] at HN
  have HU := Lib.hid hu
  have HE := Lib.hid her
  clear hL hA hr hu her
  by_cases he : er = 0
  · subst he
    have hok : Fm.Ok (Fm.parse b) := Fm.err_zero.1 HE.out.symm
    by_cases hg : Fm.blk (Fm.parse b) = b
    · have heq : (Fm.put (Fm.parse b) == b) = true := by rw [Fm.put_ok hok, hg]; simp
      have HGE := Lib.hid (Fm.gotE_yes ⟨hok, hg⟩)
      have HG := Lib.hid (Fm.got_yes ⟨hok, hg⟩)
      rw [HU.out] at heq HG
      have HE2 := Lib.hid (HU.out ▸ HE.out)
      clear hok hg HE
      go_enter Tryd.func48, Tryd.ntmps48
      go_wp2_with fail
      refine HN.out.mono ?_
      rintro e w1 ⟨A1, m1, C1, rfl, hm1, hc1, hn1, hr1, hb1⟩
      have HB1 := Lib.hid (HB0.out.trans (hb1.mono HB0.out.size))
      have HZ1 : Hid (w1.heap[w.heap.size]? = some (unitObj 0 0 0 none 0 0)) := Lib.hid ((hb1.block _ (by simp)).trans (Go.Deep.blk_alloc_new _ _))
      have HR1 : Hid (RdL w1 A1 s (w.heap.size < ·)) := Lib.hid (hr1.mono fun x hx => by simp at hx; omega)
      have HM1 : Hid (m1 = s.length) := Lib.hid hm1
      have HN1 := Lib.hid hn1
      have hB2 : Below w1.heap.size w1 (w1.alloc (unitObj k lb nb A1 m1 C1)) := (Below.refl _ _).alloc (Nat.le_refl _) _
      have HU2 : Hid ((w1.alloc (unitObj k lb nb A1 m1 C1)).heap[w1.heap.size]? = some (unitObj k lb nb A1 m1 C1)) := Lib.hid (Go.Deep.blk_alloc_new _ _)
      have HZ2 := Lib.hid ((hB2.block _ (heap_lt HZ1.out)).trans HZ1.out)
      have HR2 := Lib.hid (HR1.out.old hB2)
      have HB2 := Lib.hid (HB1.out.trans (hB2.mono HB1.out.size))
      clear hm1 hn1 hr1 hb1 hB2
      go_wp2_with fail
      refine (framePut_any k lb nb A1 s m1 C1 _ _ HM1.out HN1.out HR2.out).mono ?_
      rintro e w3 ⟨A3, n3, C3, rfl, hn3, hc3, -, ha3, hr3, hb3⟩
      have hb3' : Below (w1.alloc (unitObj k lb nb A1 m1 C1)).heap.size (w1.alloc (unitObj k lb nb A1 m1 C1)) w3 := hb3
      have HU3 := Lib.hid ((hb3'.block _ (heap_lt HU2.out)).trans HU2.out)
      have HZ3 := Lib.hid ((hb3'.block _ (heap_lt HZ2.out)).trans HZ2.out)
      have HS3 := Lib.hid (HR2.out.old hb3')
      have HB3 := Lib.hid (HB2.out.trans (hb3'.mono HB2.out.size))
      have HR3 := Lib.hid hr3
      have HN3 := Lib.hid hn3
      clear hb3 hb3' hr3 hn3 hc3 ha3 HU2 HZ2 HR2 HB2 HZ1 HR1 HB1
      obtain ⟨u0, u1, u2, u3⟩ := unit4 HU3.out
      obtain ⟨z0, z1, z2, z3⟩ := unit4 HZ3.out
      have y0 : w3.frozen? ⟨w.heap.size, 0, none⟩ = false := heap_frozen HZ3.out
      have y1 : w3.frozen? ⟨w.heap.size, 1, none⟩ = false := heap_frozen HZ3.out
      have y2 : w3.frozen? ⟨w.heap.size, 2, none⟩ = false := heap_frozen HZ3.out
      have y3 : w3.frozen? ⟨w.heap.size, 3, none⟩ = false := heap_frozen HZ3.out
      rw [← HE2.out]
      go_wp2_with fail
      refine (equal_any A3 A _ b n3 L C3 C _ _ w3 HN3.out HL.out HR3.out (HR.out.old HB3.out)).mono ?_
      rw [heq]
      rintro e w4 ⟨rfl, hw4⟩
      subst hw4
      go_wp2
      exact bodyPost_ret (v := .tuple #[.agg #[.int .i64 k, .int .i64 lb, .int .i64 nb, .slice A1 m1 C1], .int .i64 0]) (by simp [results, Tryd.results48, go_sem, z0, z1, z2, z3]) rfl (GotU.stored (u := ⟨k, lb, nb, s⟩) HG.out HGE.out rfl HS3.out HM1.out hc1 HN1.out HB3.out)
    · have heq : (Fm.put (Fm.parse b) == b) = false := by rw [Fm.put_ok hok]; simpa using hg
      have HGE := Lib.hid (Fm.gotE_no (b := b) fun h => hg h.2)
      have HG := Lib.hid (Fm.got_no (b := b) fun h => hg h.2)
      rw [HU.out] at heq
      have HE2 := Lib.hid (HU.out ▸ HE.out)
      clear hok hg HE
      go_enter Tryd.func48, Tryd.ntmps48
      go_wp2_with fail
      refine HN.out.mono ?_
      rintro e w1 ⟨A1, m1, C1, rfl, hm1, hc1, hn1, hr1, hb1⟩
      have HB1 := Lib.hid (HB0.out.trans (hb1.mono HB0.out.size))
      have HZ1 : Hid (w1.heap[w.heap.size]? = some (unitObj 0 0 0 none 0 0)) := Lib.hid ((hb1.block _ (by simp)).trans (Go.Deep.blk_alloc_new _ _))
      have HR1 : Hid (RdL w1 A1 s (w.heap.size < ·)) := Lib.hid (hr1.mono fun x hx => by simp at hx; omega)
      have HM1 : Hid (m1 = s.length) := Lib.hid hm1
      have HN1 := Lib.hid hn1
      have hB2 : Below w1.heap.size w1 (w1.alloc (unitObj k lb nb A1 m1 C1)) := (Below.refl _ _).alloc (Nat.le_refl _) _
      have HU2 : Hid ((w1.alloc (unitObj k lb nb A1 m1 C1)).heap[w1.heap.size]? = some (unitObj k lb nb A1 m1 C1)) := Lib.hid (Go.Deep.blk_alloc_new _ _)
      have HZ2 := Lib.hid ((hB2.block _ (heap_lt HZ1.out)).trans HZ1.out)
      have HR2 := Lib.hid (HR1.out.old hB2)
      have HB2 := Lib.hid (HB1.out.trans (hB2.mono HB1.out.size))
      clear hm1 hn1 hr1 hb1 hB2
      go_wp2_with fail
      refine (framePut_any k lb nb A1 s m1 C1 _ _ HM1.out HN1.out HR2.out).mono ?_
      rintro e w3 ⟨A3, n3, C3, rfl, hn3, hc3, -, ha3, hr3, hb3⟩
      have hb3' : Below (w1.alloc (unitObj k lb nb A1 m1 C1)).heap.size (w1.alloc (unitObj k lb nb A1 m1 C1)) w3 := hb3
      have HU3 := Lib.hid ((hb3'.block _ (heap_lt HU2.out)).trans HU2.out)
      have HZ3 := Lib.hid ((hb3'.block _ (heap_lt HZ2.out)).trans HZ2.out)
      have HS3 := Lib.hid (HR2.out.old hb3')
      have HB3 := Lib.hid (HB2.out.trans (hb3'.mono HB2.out.size))
      have HR3 := Lib.hid hr3
      have HN3 := Lib.hid hn3
      clear hb3 hb3' hr3 hn3 hc3 ha3 HU2 HZ2 HR2 HB2 HZ1 HR1 HB1
      obtain ⟨u0, u1, u2, u3⟩ := unit4 HU3.out
      obtain ⟨z0, z1, z2, z3⟩ := unit4 HZ3.out
      have y0 : w3.frozen? ⟨w.heap.size, 0, none⟩ = false := heap_frozen HZ3.out
      have y1 : w3.frozen? ⟨w.heap.size, 1, none⟩ = false := heap_frozen HZ3.out
      have y2 : w3.frozen? ⟨w.heap.size, 2, none⟩ = false := heap_frozen HZ3.out
      have y3 : w3.frozen? ⟨w.heap.size, 3, none⟩ = false := heap_frozen HZ3.out
      rw [← HE2.out]
      go_wp2_with fail
      refine (equal_any A3 A _ b n3 L C3 C _ _ w3 HN3.out HL.out HR3.out (HR.out.old HB3.out)).mono ?_
      rw [heq]
      rintro e w4 ⟨rfl, hw4⟩
      subst hw4
      go_wp2
      exact bodyPost_ret (v := .tuple #[.agg #[.int .i64 0, .int .i64 0, .int .i64 0, .slice none 0 0], .int .i64 2]) (by simp [results, Tryd.results48, go_sem, z0, z1, z2, z3]) rfl (GotU.stored (u := Fm.zero) HG.out HGE.out rfl (RdL.empty _ _ _) rfl (Nat.le_refl _) (fun _ => ⟨rfl, rfl⟩) HB3.out)
  · have hno : ¬ Fm.Good b := fun h => he (HE.out.trans (Fm.err_ok h.1))
    have HGE := Lib.hid (Fm.gotE_no hno)
    have HG := Lib.hid (Fm.got_no hno)
    have q1 : (er == 0) = false := beq_eq_false_iff_ne.2 he
    have q2 : (er != 0) = true := bne_iff_ne.2 he
    have HE2 := Lib.hid (HU.out ▸ HE.out)
    clear hno he HE
    go_enter Tryd.func48, Tryd.ntmps48
    go_wp2_with fail
    refine HN.out.mono ?_
    rintro e w1 ⟨A1, m1, C1, rfl, hm1, hc1, hn1, hr1, hb1⟩
    have HB1 := Lib.hid (HB0.out.trans (hb1.mono HB0.out.size))
    have HZ1 : Hid (w1.heap[w.heap.size]? = some (unitObj 0 0 0 none 0 0)) := Lib.hid ((hb1.block _ (by simp)).trans (Go.Deep.blk_alloc_new _ _))
    have HR1 : Hid (RdL w1 A1 s (w.heap.size < ·)) := Lib.hid (hr1.mono fun x hx => by simp at hx; omega)
    have HM1 : Hid (m1 = s.length) := Lib.hid hm1
    have HN1 := Lib.hid hn1
    have hB2 : Below w1.heap.size w1 (w1.alloc (unitObj k lb nb A1 m1 C1)) := (Below.refl _ _).alloc (Nat.le_refl _) _
    have HU2 : Hid ((w1.alloc (unitObj k lb nb A1 m1 C1)).heap[w1.heap.size]? = some (unitObj k lb nb A1 m1 C1)) := Lib.hid (Go.Deep.blk_alloc_new _ _)
    have HZ2 := Lib.hid ((hB2.block _ (heap_lt HZ1.out)).trans HZ1.out)
    have HR2 := Lib.hid (HR1.out.old hB2)
    have HB2 := Lib.hid (HB1.out.trans (hB2.mono HB1.out.size))
    clear hm1 hn1 hr1 hb1 hB2
    go_wp2_with fail
    refine (framePut_any k lb nb A1 s m1 C1 _ _ HM1.out HN1.out HR2.out).mono ?_
    rintro e w3 ⟨A3, n3, C3, rfl, hn3, hc3, -, ha3, hr3, hb3⟩
    have hb3' : Below (w1.alloc (unitObj k lb nb A1 m1 C1)).heap.size (w1.alloc (unitObj k lb nb A1 m1 C1)) w3 := hb3
    have HU3 := Lib.hid ((hb3'.block _ (heap_lt HU2.out)).trans HU2.out)
    have HZ3 := Lib.hid ((hb3'.block _ (heap_lt HZ2.out)).trans HZ2.out)
    have HS3 := Lib.hid (HR2.out.old hb3')
    have HB3 := Lib.hid (HB2.out.trans (hb3'.mono HB2.out.size))
    have HR3 := Lib.hid hr3
    have HN3 := Lib.hid hn3
    clear hb3 hb3' hr3 hn3 hc3 ha3 HU2 HZ2 HR2 HB2 HZ1 HR1 HB1
    obtain ⟨u0, u1, u2, u3⟩ := unit4 HU3.out
    obtain ⟨z0, z1, z2, z3⟩ := unit4 HZ3.out
    have y0 : w3.frozen? ⟨w.heap.size, 0, none⟩ = false := heap_frozen HZ3.out
    have y1 : w3.frozen? ⟨w.heap.size, 1, none⟩ = false := heap_frozen HZ3.out
    have y2 : w3.frozen? ⟨w.heap.size, 2, none⟩ = false := heap_frozen HZ3.out
    have y3 : w3.frozen? ⟨w.heap.size, 3, none⟩ = false := heap_frozen HZ3.out
    rw [← HE2.out]
    go_wp2
    exact bodyPost_ret (v := .tuple #[.agg #[.int .i64 0, .int .i64 0, .int .i64 0, .slice none 0 0], .int .i64 2]) (by simp [results, Tryd.results48, go_sem, z0, z1, z2, z3]) rfl (GotU.stored (u := Fm.zero) HG.out HGE.out rfl (RdL.empty _ _ _) rfl (Nat.le_refl _) (fun _ => ⟨rfl, rfl⟩) HB3.out)
end Go.Proofs.YtbijjgicjkmopaaDoor
namespace Go.Proofs.YtbijjgicjkmopaaDoor
open Go.RowKit
open Pt (Tx)

/-- the slice at A of slices reads as these texts, all in blocks of G -/
def RdB (w : World) (A : Option Addr) (bs : List Tx) (G : Nat → Prop) : Prop :=
  0 < bs.length → ∃ b off, A = some ⟨b, off, none⟩ ∧ G b ∧ ∀ i (hi : i < bs.length), ∃ A' C', w.cell? ⟨b, off + i, none⟩ = some (.slice A' bs[i].length C') ∧ bs[i].length ≤ C' ∧ (A' = none → bs[i].length = 0 ∧ C' = 0) ∧ RdL w A' bs[i] G
namespace RdB
variable {w w' : World} {A : Option Addr} {bs : List Tx} {G G' S : Nat → Prop}
theorem empty (w : World) (A : Option Addr) (G : Nat → Prop) : RdB w A [] G := fun h => absurd h (by simp)
theorem keep (h : RdB w A bs G) (hk : ∀ p v, G p.block → w.cell? p = some v → w'.cell? p = some v) : RdB w' A bs G := by
  intro hn
  obtain ⟨b, off, e, hg, hc⟩ := h hn
  refine ⟨b, off, e, hg, fun i hi => ?_⟩
  obtain ⟨A', C', h1, h2, h3, h4⟩ := hc i hi
  exact ⟨A', C', hk _ _ hg h1, h2, h3, h4.keep hk⟩
theorem mono (h : RdB w A bs G) (hg : ∀ b, G b → G' b) : RdB w A bs G' := by
  intro hn
  obtain ⟨b, off, e, hg', hc⟩ := h hn
  refine ⟨b, off, e, hg _ hg', fun i hi => ?_⟩
  obtain ⟨A', C', h1, h2, h3, h4⟩ := hc i hi
  exact ⟨A', C', h1, h2, h3, h4.mono hg⟩
theorem kp (h : RdB w A bs G) (hk : Kp S w w') (hs : ∀ b, G b → ¬ S b) : RdB w' A bs G := h.keep fun _ _ hg hc => hk.cell hc (hs _ hg)
theorem old (h : RdB w A bs G) (hb : Below w.heap.size w w') : RdB w' A bs G := h.keep fun _ _ _ hc => (hb.cell (World.block_lt_of_cell? _ _ hc)).trans hc
theorem below {B : Nat} (h : RdB w A bs (· < B)) (hb : Below B w w') : RdB w' A bs (· < B) := h.keep fun _ _ hg hc => (hb.cell hg).trans hc
theorem in_ (h : RdB w A bs G) : RdB w A bs (fun b => G b ∧ b < w.heap.size) := by
  intro hn
  obtain ⟨b, off, e, hg, hc⟩ := h hn
  refine ⟨b, off, e, ⟨hg, ?_⟩, fun i hi => ?_⟩
  · obtain ⟨_, _, h1, _⟩ := hc 0 hn
    exact World.block_lt_of_cell? _ _ h1
  · obtain ⟨A', C', h1, h2, h3, h4⟩ := hc i hi
    exact ⟨A', C', h1, h2, h3, h4.in_⟩
theorem at_ (h : RdB w A bs G) {i : Nat} (hi : i < bs.length) : ∃ b off A' C', A = some ⟨b, off, none⟩ ∧ G b ∧ w.cell? ⟨b, off + i, none⟩ = some (.slice A' bs[i].length C') ∧ bs[i].length ≤ C' ∧ (A' = none → bs[i].length = 0 ∧ C' = 0) ∧ RdL w A' bs[i] G := by
  obtain ⟨b, off, e, hg, hc⟩ := h (by omega)
  obtain ⟨A', C', h1, h2, h3, h4⟩ := hc i hi
  exact ⟨b, off, A', C', e, hg, h1, h2, h3, h4⟩
end RdB
/-- a tape as the value that is handed on -/
def tape (lab cap : Int) (A : Option Addr) (n C : Nat) (lost : Bool) : Value := .agg #[.int .i64 lab, .int .i64 cap, .slice A n C, .bool lost]
end Go.Proofs.YtbijjgicjkmopaaDoor
namespace Go.Proofs.YtbijjgicjkmopaaDoor
open Go.RowKit
open Pt (Tx)

/-- block n, if it is good, for whatever n -/
def Vo.goodZ (t : Vo.T) (n : Int) : Option Fm.U := if n < 0 then none else Vo.good t n.toNat
/-- what is answered for it -/
def unitOf (o : Option Fm.U) : Fm.U := o.getD Fm.zero
def GoodA (o : Option Fm.U) (w : World) (e : Ending) (w' : World) : Prop :=
  ∃ A m C, e = .returned (.tuple #[.agg #[.int .i64 (unitOf o).kind, .int .i64 (unitOf o).label, .int .i64 (unitOf o).number, .slice A m C], .bool o.isSome]) ∧ m = (unitOf o).load.length ∧ m ≤ C ∧ (A = none → m = 0 ∧ C = 0) ∧ RdL w' A (unitOf o).load (w.heap.size ≤ ·) ∧ Below w.heap.size w w'
theorem GoodA.stored {w w7 : World} {B : Nat} {a0 a1 a2 a3 : Value} {o : Option Fm.U} {u : Fm.U} {b : Bool} {A : Option Addr} {m C : Nat} (hu : unitOf o = u) (he : o.isSome = b) (hB : w.heap.size ≤ B) (hr : RdL w7 A u.load (fun x => w.heap.size ≤ x ∧ x ≠ B)) (hm : m = u.load.length) (hc : m ≤ C) (hn : A = none → m = 0 ∧ C = 0) (hb : Below w.heap.size w w7) :
    GoodA o w (.returned (.tuple #[.agg #[.int .i64 u.kind, .int .i64 u.label, .int .i64 u.number, .slice A m C], .bool b])) ((((w7.setCell ⟨B, 0, none⟩ a0).setCell ⟨B, 1, none⟩ a1).setCell ⟨B, 2, none⟩ a2).setCell ⟨B, 3, none⟩ a3) := by
  have hk : Kp (· = B) w7 ((((w7.setCell ⟨B, 0, none⟩ a0).setCell ⟨B, 1, none⟩ a1).setCell ⟨B, 2, none⟩ a2).setCell ⟨B, 3, none⟩ a3) := (((Kp.store _ _ _ _).trans (Kp.store _ _ _ _)).trans (Kp.store _ _ _ _)).trans (Kp.store _ _ _ _)
  exact ⟨A, m, C, by rw [hu, he], by rw [hu]; exact hm, hc, hn, by rw [hu]; exact (hr.kp hk (fun x hx hx' => hx.2 hx')).mono (fun x hx => hx.1), hb.trans (hk.below hb.size (fun x hx => by omega))⟩
theorem goodZ_no {lab : Int} {bs : List Tx} {lost : Bool} {n : Int} (h : lost = true ∨ n < 0 ∨ (bs.length : Int) ≤ n) : Vo.goodZ ⟨lab, bs, lost⟩ n = none := by
  unfold Vo.goodZ
  split
  · rfl
  · rcases h with h | h | h
    · exact Vo.good_lost h _
    · omega
    · exact Vo.good_end (t := ⟨lab, bs, lost⟩) (by show bs.length ≤ _; omega)
theorem good_is {lab : Int} {bs : List Tx} {n : Nat} (h : n < bs.length) : Vo.good ⟨lab, bs, false⟩ n = if Fm.Good bs[n] ∧ (Fm.parse bs[n]).label = lab ∧ (Fm.parse bs[n]).number = (n : Int) then some (Fm.parse bs[n]) else none := by
  unfold Vo.good
  rw [if_neg (show ¬ (false = true) by decide)]
  show (match bs[n]? with | none => none | some b => if Fm.Good b ∧ (Fm.parse b).label = lab ∧ (Fm.parse b).number = (n : Int) then some (Fm.parse b) else none) = _
  rw [List.getElem?_eq_getElem h]
/-- a tape's block, and an answer's behind it -/
theorem two_blocks {w wb : World} {o1 o2 : Obj} (h : wb = (w.alloc o1).alloc o2) : Below w.heap.size w wb ∧ wb.heap[w.heap.size]? = some o1 ∧ wb.heap[w.heap.size + 1]? = some o2 := by
  have hb1 : Below w.heap.size w (w.alloc o1) := (Below.refl _ _).alloc (Nat.le_refl _) _
  have h1 : (w.alloc o1).heap[w.heap.size]? = some o1 := Go.Deep.blk_alloc_new _ _
  have h2 := Go.Deep.blk_alloc_new (w.alloc o1) o2
  rw [show (w.alloc o1).heap.size = w.heap.size + 1 by simp] at h2
  subst h
  exact ⟨hb1.alloc hb1.size _, (Below.heap_alloc _ _ _ (heap_lt h1)).trans h1, h2⟩
set_option maxHeartbeats 400000 in
theorem good_out (lab cap : Int) (bs : List Tx) (A : Option Addr) (L C : Nat) (lost : Bool) (n : Int) (w : World) (hL : L = bs.length) (h : lost = true ∨ n < 0 ∨ (bs.length : Int) ≤ n) :
    Calls Tryd.prog 44 #[.agg #[.int .i64 lab, .int .i64 cap, .slice A L C, .bool lost], .int .i64 n] w (GoodA (Vo.goodZ ⟨lab, bs, lost⟩ n) w) := by
  have HG := Lib.hid (goodZ_no (lab := lab) h)
  obtain ⟨wb, hwb⟩ : ∃ wb, wb = (w.alloc (tapeObj lab cap A L C lost)).alloc (unitObj 0 0 0 none 0 0) := ⟨_, rfl⟩
  obtain ⟨hB, hT, hU⟩ := two_blocks hwb
  have HB := Lib.hid hB
  have HU := Lib.hid hU
  have HT := Lib.hid hT
  have HW := Lib.hid hwb
  unfold tapeObj unitObj at HW
  obtain ⟨t0, t1, t2, t3⟩ := tape4 hT
  obtain ⟨z0, z1, z2, z3⟩ := unit4 hU
  rw [hwb] at t0 t1 t2 t3
  rw [← hL] at h
  clear hB hT hU hwb hL
  have hq : lost = true ∨ (lost = false ∧ decide (n < 0) = true) ∨ (lost = false ∧ decide (n < 0) = false ∧ decide ((L : Int) ≤ n) = true) := by
    cases lost with
    | true => exact .inl rfl
    | false =>
      refine .inr ?_
      by_cases h0 : n < 0
      · exact .inl ⟨rfl, decide_eq_true h0⟩
      · exact .inr ⟨rfl, decide_eq_false h0, decide_eq_true (by rcases h with h | h | h; · cases h
                                                                · exact absurd h h0
                                                                · exact h)⟩
  clear h
  rcases hq with rfl | ⟨rfl, q1⟩ | ⟨rfl, q1, q2⟩
  all_goals
    go_enter Tryd.func44, Tryd.ntmps44
    go_wp2_with fail
    rw [← HW.out]
    refine bodyPost_ret (v := .tuple #[.agg #[.int .i64 0, .int .i64 0, .int .i64 0, .slice none 0 0], .bool false]) (by simp [results, Tryd.results44, go_sem, z0, z1, z2, z3]) rfl ?_
    rw [HG.out]
    exact ⟨none, 0, 0, rfl, rfl, Nat.le_refl _, fun _ => ⟨rfl, rfl⟩, RdL.empty _ _ _, HB.out⟩
set_option maxHeartbeats 4000000 in
theorem good_in (lab cap : Int) (bs : List Tx) (A : Option Addr) (L C : Nat) (G : Nat → Prop) (n : Nat) (w : World) (hL : L = bs.length) (hr : RdB w A bs G) (hn : n < bs.length) (hl : ∀ s ∈ bs, s.length ≤ 1000000) :
    Calls Tryd.prog 44 #[.agg #[.int .i64 lab, .int .i64 cap, .slice A L C, .bool false], .int .i64 n] w (GoodA (Vo.good ⟨lab, bs, false⟩ n) w) := by
  obtain ⟨b, off, A1, C1, rfl, hg1, hc1, hC1, hN1, hr1⟩ := hr.at_ hn
  obtain ⟨s, hsd⟩ : ∃ s, s = bs[n] := ⟨_, rfl⟩
  have hsl : s.length ≤ 1000000 := by rw [hsd]; exact hl _ (List.getElem_mem hn)
  have HG := Lib.hid (good_is (lab := lab) hn)
  rw [← hsd] at HG hc1 hC1 hN1 hr1
  obtain ⟨S, hS⟩ : ∃ S, S = s.length := ⟨_, rfl⟩
  rw [← hS] at hc1 hC1 hN1 hsl
  obtain ⟨wb, hwb⟩ : ∃ wb, wb = (w.alloc (tapeObj lab cap (some ⟨b, off, none⟩) L C false)).alloc (unitObj 0 0 0 none 0 0) := ⟨_, rfl⟩
  obtain ⟨hB, hT, hU⟩ := two_blocks hwb
  have hcb : wb.cell? ⟨b, off + n, none⟩ = some (.slice A1 S C1) := (hB.cell (World.block_lt_of_cell? _ _ hc1)).trans hc1
  have HGET := Lib.hid (frameGet_any A1 s S C1 G wb hS hC1 hsl hN1 (hr1.old hB))
  have HB := Lib.hid hB
  have HU := Lib.hid hU
  have HT := Lib.hid hT
  have HW := Lib.hid hwb
  unfold tapeObj unitObj at HW
  obtain ⟨t0, t1, t2, t3⟩ := tape4 hT
  have q1 : decide ((n : Int) < 0) = false := decide_eq_false (by omega)
  have q2 : decide ((L : Int) ≤ (n : Int)) = false := decide_eq_false (by omega)
  have q3 : decide (L ≤ n) = false := decide_eq_false (by omega)
  have q4 : n < L := by omega
  obtain ⟨ge, hge⟩ : ∃ ge, ge = Fm.gotE s := ⟨_, rfl⟩
  obtain ⟨k, lb, nb, ld, hu⟩ : ∃ k lb nb ld, Fm.got s = ⟨k, lb, nb, ld⟩ := ⟨_, _, _, _, rfl⟩
  unfold GotU at HGET
  rw [hu, ← hge] at HGET
  have hcase : (ge = 0 ∧ lb = lab ∧ nb = (n : Int) ∧ Vo.good ⟨lab, bs, false⟩ n = some ⟨k, lb, nb, ld⟩) ∨ (Vo.good ⟨lab, bs, false⟩ n = none ∧ ((ge != 0) = true ∨ ((ge != 0) = false ∧ (lb != lab) = true) ∨ ((ge != 0) = false ∧ (lb != lab) = false ∧ (nb != (n : Int)) = true))) := by
    have h := HG.out
    by_cases hgd : Fm.Good s
    · rw [Fm.gotE_yes hgd] at hge
      rw [Fm.got_yes hgd] at hu
      rw [hu] at h
      by_cases h1 : lb = lab
      · by_cases h2 : nb = (n : Int)
        · refine .inl ⟨hge, h1, h2, ?_⟩
          rw [h, if_pos ⟨hgd, h1, h2⟩]
        · refine .inr ⟨?_, .inr (.inr ⟨by rw [hge]; rfl, by rw [h1]; simp, by simpa using h2⟩)⟩
          rw [h, if_neg fun h' => h2 h'.2.2]
      · refine .inr ⟨?_, .inr (.inl ⟨by rw [hge]; rfl, by simpa using h1⟩)⟩
        rw [h, if_neg fun h' => h1 h'.2.1]
    · rw [Fm.gotE_no hgd] at hge
      refine .inr ⟨?_, .inl (by rw [hge]; rfl)⟩
      rw [h, if_neg fun h' => hgd h'.1]
  clear HG hg1 hc1 hC1 hN1 hr1 hS hsl hu hge hr hl hL hn hB hT hU hsd
  rcases hcase with ⟨rfl, rfl, hnb, hres⟩ | ⟨hres, hq⟩
  · have HRES := Lib.hid hres
    have hq5 : (nb != (n : Int)) = false := by simp [hnb]
    clear hres hnb
    rw [HW.out] at t0 t1 t2 t3 hcb
    go_enter Tryd.func44, Tryd.ntmps44
    go_wp2_with fail
    rw [← HW.out]
    refine HGET.out.mono ?_
    rintro e w1 ⟨A2, m2, C2, rfl, hm2, hc2, hn2, hr2, hb2⟩
    obtain ⟨wc, hwc⟩ : ∃ wc, wc = w1.alloc (unitObj k lb nb A2 m2 C2) := ⟨_, rfl⟩
    have hb3 : Below w1.heap.size w1 wc := by rw [hwc]; exact (Below.refl _ _).alloc (Nat.le_refl _) _
    have hbc := hb2.trans (hb3.mono hb2.size)
    have hY : wc.heap[w1.heap.size]? = some (unitObj k lb nb A2 m2 C2) := by rw [hwc]; exact Go.Deep.blk_alloc_new _ _
    have hZ := (hbc.block _ (heap_lt HU.out)).trans HU.out
    have hT3 := below_tape hbc HT.out
    obtain ⟨t0', t1', t2', t3'⟩ := tape4 hT3
    obtain ⟨z0, z1, z2, z3⟩ := unit4 hZ
    obtain ⟨x0, x1, x2, x3⟩ := unit4 hY
    have y0 : wc.frozen? ⟨w.heap.size + 1, 0, none⟩ = false := heap_frozen hZ
    have y1 : wc.frozen? ⟨w.heap.size + 1, 1, none⟩ = false := heap_frozen hZ
    have y2 : wc.frozen? ⟨w.heap.size + 1, 2, none⟩ = false := heap_frozen hZ
    have y3 : wc.frozen? ⟨w.heap.size + 1, 3, none⟩ = false := heap_frozen hZ
    have HR2 : Hid (RdL wc A2 ld (fun x => w.heap.size ≤ x ∧ x ≠ w.heap.size + 1)) := Lib.hid ((hr2.old hb3).mono fun x hx => by
      have h1 : w.heap.size + 2 ≤ wb.heap.size := by have := heap_lt HU.out; omega
      have h2 : wb.heap.size ≤ x := hx
      omega)
    have HB3 := Lib.hid (HB.out.trans (hbc.mono HB.out.size))
    have HM2 := Lib.hid hm2
    have HN2 := Lib.hid hn2
    have HWC := Lib.hid hwc
    unfold unitObj at HWC
    obtain ⟨y, hy⟩ : ∃ y, y = w1.heap.size := ⟨_, rfl⟩
    rw [← hy] at x0 x1 x2 x3
    have HY := Lib.hid hy
    have hZ2 := Lib.hid hZ
    clear hb2 hb3 hbc hZ hT3 hr2 hm2 hn2 hwc hY hy t0 t1 t2 t3 x0 x1 x2 x3
    rw [HWC.out] at z0 z1 z2 z3 y0 y1 y2 y3 t0' t1' t2' t3'
    go_wp2
    rw [← HWC.out]
    clear z0 z1 z2 z3
    obtain ⟨z0, z1, z2, z3⟩ := unit4 hZ2.out
    exact bodyPost_ret (v := .tuple #[.agg #[.int .i64 k, .int .i64 lb, .int .i64 nb, .slice A2 m2 C2], .bool true]) (by simp [results, Tryd.results44, go_sem, z0, z1, z2, z3]) rfl (GoodA.stored (u := ⟨k, lb, nb, ld⟩) (by rw [HRES.out]; rfl) (by rw [HRES.out]; rfl) (by omega) HR2.out HM2.out hc2 HN2.out HB3.out)
  · have HRES := Lib.hid hres
    clear hres
    rw [HW.out] at t0 t1 t2 t3 hcb
    rcases hq with p1 | ⟨p1, p2⟩ | ⟨p1, p2, p3⟩
    all_goals
      go_enter Tryd.func44, Tryd.ntmps44
      go_wp2_with fail
      rw [← HW.out]
      refine HGET.out.mono ?_
      rintro e w1 ⟨A2, m2, C2, rfl, hm2, hc2, hn2, hr2, hb2⟩
      obtain ⟨wc, hwc⟩ : ∃ wc, wc = w1.alloc (unitObj k lb nb A2 m2 C2) := ⟨_, rfl⟩
      have hb3 : Below w1.heap.size w1 wc := by rw [hwc]; exact (Below.refl _ _).alloc (Nat.le_refl _) _
      have hbc := hb2.trans (hb3.mono hb2.size)
      have hY : wc.heap[w1.heap.size]? = some (unitObj k lb nb A2 m2 C2) := by rw [hwc]; exact Go.Deep.blk_alloc_new _ _
      have hZ := (hbc.block _ (heap_lt HU.out)).trans HU.out
      have hT3 := below_tape hbc HT.out
      obtain ⟨t0', t1', t2', t3'⟩ := tape4 hT3
      obtain ⟨z0, z1, z2, z3⟩ := unit4 hZ
      obtain ⟨x0, x1, x2, x3⟩ := unit4 hY
      have y0 : wc.frozen? ⟨w.heap.size + 1, 0, none⟩ = false := heap_frozen hZ
      have y1 : wc.frozen? ⟨w.heap.size + 1, 1, none⟩ = false := heap_frozen hZ
      have y2 : wc.frozen? ⟨w.heap.size + 1, 2, none⟩ = false := heap_frozen hZ
      have y3 : wc.frozen? ⟨w.heap.size + 1, 3, none⟩ = false := heap_frozen hZ
      have HR2 : Hid (RdL wc A2 ld (fun x => w.heap.size ≤ x ∧ x ≠ w.heap.size + 1)) := Lib.hid ((hr2.old hb3).mono fun x hx => by
        have h1 : w.heap.size + 2 ≤ wb.heap.size := by have := heap_lt HU.out; omega
        have h2 : wb.heap.size ≤ x := hx
        omega)
      have HB3 := Lib.hid (HB.out.trans (hbc.mono HB.out.size))
      have HM2 := Lib.hid hm2
      have HN2 := Lib.hid hn2
      have HWC := Lib.hid hwc
      unfold unitObj at HWC
      obtain ⟨y, hy⟩ : ∃ y, y = w1.heap.size := ⟨_, rfl⟩
      rw [← hy] at x0 x1 x2 x3
      have HY := Lib.hid hy
      have hZ2 := Lib.hid hZ
      clear hb2 hb3 hbc hZ hT3 hr2 hm2 hn2 hwc hY hy t0 t1 t2 t3 x0 x1 x2 x3
      rw [HWC.out] at z0 z1 z2 z3 y0 y1 y2 y3 t0' t1' t2' t3'
      go_wp2
      rw [← HWC.out]
      clear z0 z1 z2 z3
      obtain ⟨z0, z1, z2, z3⟩ := unit4 hZ2.out
      exact bodyPost_ret (v := .tuple #[.agg #[.int .i64 0, .int .i64 0, .int .i64 0, .slice none 0 0], .bool false]) (by simp [results, Tryd.results44, go_sem, z0, z1, z2, z3]) rfl (GoodA.stored (u := Fm.zero) (by rw [HRES.out]; rfl) (by rw [HRES.out]; rfl) (by omega) (RdL.empty _ _ _) rfl (Nat.le_refl _) (fun _ => ⟨rfl, rfl⟩) HB3.out)
theorem good_any (lab cap : Int) (bs : List Tx) (A : Option Addr) (L C : Nat) (G : Nat → Prop) (lost : Bool) (n : Int) (w : World) (hL : L = bs.length) (hr : RdB w A bs G) (hl : ∀ s ∈ bs, s.length ≤ 1000000) :
    Calls Tryd.prog 44 #[.agg #[.int .i64 lab, .int .i64 cap, .slice A L C, .bool lost], .int .i64 n] w (GoodA (Vo.goodZ ⟨lab, bs, lost⟩ n) w) := by
  by_cases h : lost = true ∨ n < 0 ∨ (bs.length : Int) ≤ n
  · exact good_out lab cap bs A L C lost n w hL h
  · have h1 : lost = false := by cases lost with
      | true => exact absurd (.inl rfl) h
      | false => rfl
    subst h1
    have h2 : 0 ≤ n ∧ n < (bs.length : Int) := by
      constructor
      · rcases Int.lt_or_le n 0 with h' | h'
        · exact absurd (.inr (.inl h')) h
        · exact h'
      · rcases Int.lt_or_le n (bs.length : Int) with h' | h'
        · exact h'
        · exact absurd (.inr (.inr h')) h
    obtain ⟨m, rfl⟩ : ∃ m : Nat, n = (m : Int) := ⟨n.toNat, by omega⟩
    have h3 : Vo.goodZ ⟨lab, bs, false⟩ (m : Int) = Vo.good ⟨lab, bs, false⟩ m := by
      unfold Vo.goodZ
      rw [if_neg (by omega)]; rfl
    rw [h3]
    exact good_in lab cap bs A L C G m w hL hr (by omega) hl
end Go.Proofs.YtbijjgicjkmopaaDoor
namespace Go.Proofs.YtbijjgicjkmopaaDoor
open Go.RowKit
open Pt (Tx)

theorem need_lo {n : Int} (h : n ≤ 0) : Vo.need n = 2 := by
  unfold Vo.need
  rw [show (min (max n 0) 4000).toNat = 0 by omega]; rfl
theorem need_mid {n : Int} (h : 0 ≤ n) (h' : n ≤ 4000) : (Vo.need n : Int) = (n + 63) / 64 + 2 := by
  unfold Vo.need Vo.data
  rw [show (min (max n 0) 4000).toNat = n.toNat by omega]; omega
theorem need_hi {n : Int} (h : 4000 ≤ n) : Vo.need n = 65 := by
  unfold Vo.need
  rw [show (min (max n 0) 4000).toNat = 4000 by omega]; rfl
theorem need_le (n : Int) : Vo.need n ≤ 65 := by
  unfold Vo.need Vo.data; omega
theorem need_ge (n : Int) : 2 ≤ Vo.need n := by
  unfold Vo.need Vo.data; omega
/-- a head's -/
theorem need_head {h : Rc.H} (k : Rc.Ok h) : Vo.need h.len = Vo.data h.len.toNat + 2 := by
  obtain ⟨-, -, -, ⟨_, a⟩, b', c, d, _⟩ := k
  unfold Vo.need
  rw [show (min (max h.len 0) 4000).toNat = h.len.toNat by omega]
set_option maxHeartbeats 1000000 in
theorem need_any (n : Int) (w : World) : Calls Tryd.prog 46 #[.int .i64 n] w fun e w' => e = .returned (.int .i64 (Vo.need n : Int)) ∧ w = w' := by
  by_cases h0 : n ≤ 0
  · have H := Lib.hid (need_lo h0)
    go_enter Tryd.func46, Tryd.ntmps46
    go_wp2
    all_goals
      go_ret
      exact ⟨by rw [H.out]; first | done | rfl | (exact congrArg (fun k : Int => Ending.returned (.int .i64 k)) (by omega)), rfl⟩
  · by_cases h1 : n ≤ 4000
    · have H := Lib.hid (need_mid (n := n) (by omega) h1)
      go_enter Tryd.func46, Tryd.ntmps46
      go_wp2
      all_goals
        go_ret
        exact ⟨by rw [H.out]; first | done | rfl | (exact congrArg (fun k : Int => Ending.returned (.int .i64 k)) (by omega)), rfl⟩
    · have H := Lib.hid (need_hi (n := n) (by omega))
      go_enter Tryd.func46, Tryd.ntmps46
      go_wp2
      all_goals
        go_ret
        exact ⟨by rw [H.out]; first | done | rfl | (exact congrArg (fun k : Int => Ending.returned (.int .i64 k)) (by omega)), rfl⟩
/-- a part in memory: its head, its tape's label, and where it lies -/
def partObj (p : Tx) (v z f l s m : Int) (g : Bool) (lab at_ : Int) : Obj := .cells #[.string (tx p), .int .i64 v, .int .i64 z, .int .i64 f, .int .i64 l, .int .i64 s, .int .i64 m, .bool g, .int .i64 lab, .int .i64 at_] 44
theorem part10 {w : World} {B : Nat} {p : Tx} {v z f l s m : Int} {g : Bool} {lab at_ : Int} (h : w.heap[B]? = some (partObj p v z f l s m g lab at_)) :
    w.cell? ⟨B, 0, none⟩ = some (.string (tx p)) ∧ w.cell? ⟨B, 1, none⟩ = some (.int .i64 v) ∧ w.cell? ⟨B, 2, none⟩ = some (.int .i64 z) ∧ w.cell? ⟨B, 3, none⟩ = some (.int .i64 f)
      ∧ w.cell? ⟨B, 4, none⟩ = some (.int .i64 l) ∧ w.cell? ⟨B, 5, none⟩ = some (.int .i64 s) ∧ w.cell? ⟨B, 6, none⟩ = some (.int .i64 m) ∧ w.cell? ⟨B, 7, none⟩ = some (.bool g) ∧ w.cell? ⟨B, 8, none⟩ = some (.int .i64 lab) ∧ w.cell? ⟨B, 9, none⟩ = some (.int .i64 at_) :=
  ⟨heap_cell h, heap_cell h, heap_cell h, heap_cell h, heap_cell h, heap_cell h, heap_cell h, heap_cell h, heap_cell h, heap_cell h⟩
set_option maxHeartbeats 2000000 in
theorem behind_any (p : Tx) (v z f l s m : Int) (g : Bool) (lab at_ : Int) (h0 : 0 ≤ at_) (h1 : at_ ≤ 1000000000000) (w : World) :
    Calls Tryd.prog 39 #[.agg #[.string (tx p), .int .i64 v, .int .i64 z, .int .i64 f, .int .i64 l, .int .i64 s, .int .i64 m, .bool g, .int .i64 lab, .int .i64 at_]] w fun e w' => e = .returned (.int .i64 (at_ + (Vo.need l : Int))) ∧ Below w.heap.size w w' := by
  have HB : Hid (Below w.heap.size w (w.alloc (partObj p v z f l s m g lab at_))) := Lib.hid ((Below.refl _ _).alloc (Nat.le_refl _) _)
  have HP : Hid ((w.alloc (partObj p v z f l s m g lab at_)).heap[w.heap.size]? = some (partObj p v z f l s m g lab at_)) := Lib.hid (Go.Deep.blk_alloc_new _ _)
  obtain ⟨k, hk⟩ : ∃ k, k = Vo.need l := ⟨_, rfl⟩
  have hk2 : k ≤ 65 := by rw [hk]; exact need_le l
  have hcall : ∀ x, Calls Tryd.prog 46 #[.int .i64 l] x fun e w' => e = .returned (.int .i64 (k : Int)) ∧ w' = x := fun x => by rw [hk]; exact (need_any l x).mono fun e w' h => ⟨h.1, h.2.symm⟩
  rw [← hk]
  clear hk
  obtain ⟨a0, a1, a2, a3, a4, a5, a6, a7, a8, a9⟩ := part10 HP.out
  unfold partObj at a0 a1 a2 a3 a4 a5 a6 a7 a8 a9
  go_enter Tryd.func39, Tryd.ntmps39
  go_wp2
  go_quiet (first | (go_at_call_of 46 (Value.int .i64 l); exact Calls.quiet_of_same (hcall _)))
  go_wp2
  go_ret
  have hx := HB.out
  exact ⟨rfl, ⟨hx.os, hx.tape, hx.output, hx.size, hx.block⟩⟩
end Go.Proofs.YtbijjgicjkmopaaDoor
namespace Go.Proofs.YtbijjgicjkmopaaDoor
open Go.RowKit

/-- a number from a to b -/
def btw (n a b : Int) : Bool := decide (a ≤ n) && decide (n ≤ b)
theorem btw_yes {n a b : Int} (h : btw n a b = true) : a ≤ n ∧ n ≤ b := by simpa [btw] using h
theorem btw_no {n a b : Int} (h : btw n a b = false) : n < a ∨ b < n := by
  have : ¬ (a ≤ n ∧ n ≤ b) := fun h' => by simp [btw, h'.1, h'.2] at h
  omega
theorem btw_of {n a b : Int} (h : a ≤ n ∧ n ≤ b) : btw n a b = true := by simp [btw, h.1, h.2]
theorem between_any (n a b : Int) (w : World) : Calls Tryd.prog 63 #[.int .i64 n, .int .i64 a, .int .i64 b] w fun e w' => e = .returned (.bool (btw n a b)) ∧ w = w' := by
  cases q1 : decide (a ≤ n) with
  | true =>
    have H : Hid (btw n a b = decide (n ≤ b)) := Lib.hid (by unfold btw; rw [q1]; rfl)
    go_enter Tryd.func63, Tryd.ntmps63
    go_wp2
    go_ret
    exact ⟨by rw [H.out]; rfl, rfl⟩
  | false =>
    have H : Hid (btw n a b = false) := Lib.hid (by unfold btw; rw [q1]; rfl)
    go_enter Tryd.func63, Tryd.ntmps63
    go_wp2
    go_ret
    exact ⟨by rw [H.out]; rfl, rfl⟩
end Go.Proofs.YtbijjgicjkmopaaDoor
