/- What Get of package frame answers. Tapes that read: a slice of slices of bytes as a list of texts. No function of the program. What Good of package volume answers. append of a row of structs that may be nil. No function of the program. Which blocks of a tape are not good: spotsOf of package verify. -/
import Derived.Test.YtnbfkihgloipiaaMi
import Derived.Test.YtnbfkihgloipiaaMc
import Derived.Test.YtnbfkihgloipiaaMf
import Derived.Test.YtnbfkihgloipiaaMe
import Derived.BigQuiet
import Derived.Deep.QuietTactic
import Derived.Deep.RegionWith
import Derived.Test.YtnbfkihgloipiaaMb
namespace Go.Proofs.Ytnbfkihgloipiaa
open Go.RowKit
open Pt (Tx)

/-- what Get answers: unit and error -/
def GotU (b : Tx) (w : World) (e : Ending) (w' : World) : Prop :=
  ∃ A m C, e = .returned (.tuple #[.agg #[.int .i64 (Fm.got b).kind, .int .i64 (Fm.got b).label, .int .i64 (Fm.got b).number, .slice A m C], .int .i64 (Fm.gotE b)]) ∧ m = (Fm.got b).load.length ∧ m ≤ C ∧ (A = none → m = 0 ∧ C = 0) ∧ RdL w' A (Fm.got b).load (w.heap.size ≤ ·) ∧ Below w.heap.size w w'
theorem GotU.stored {w w7 : World} {B : Nat} {a0 a1 a2 a3 : Value} {b : Tx} {u : Fm.U} {er : Int} {A : Option Addr} {m C : Nat} (hu : Fm.got b = u) (he : Fm.gotE b = er) (hB : B = w.heap.size) (hr : RdL w7 A u.load (B < ·)) (hm : m = u.load.length) (hc : m ≤ C) (hn : A = none → m = 0 ∧ C = 0) (hb : Below w.heap.size w w7) :
    GotU b w (.returned (.tuple #[.agg #[.int .i64 u.kind, .int .i64 u.label, .int .i64 u.number, .slice A m C], .int .i64 er])) ((((w7.setCell ⟨B, 0, none⟩ a0).setCell ⟨B, 1, none⟩ a1).setCell ⟨B, 2, none⟩ a2).setCell ⟨B, 3, none⟩ a3) := by
  subst hB
  have hk : Kp (· = w.heap.size) w7 ((((w7.setCell ⟨w.heap.size, 0, none⟩ a0).setCell ⟨w.heap.size, 1, none⟩ a1).setCell ⟨w.heap.size, 2, none⟩ a2).setCell ⟨w.heap.size, 3, none⟩ a3) := (((Kp.store _ _ _ _).trans (Kp.store _ _ _ _)).trans (Kp.store _ _ _ _)).trans (Kp.store _ _ _ _)
  exact ⟨A, m, C, by rw [hu, he], by rw [hu]; exact hm, hc, hn, by rw [hu]; exact (hr.kp hk (fun x hx hx' => by omega)).mono (fun x hx => by omega), hb.trans (hk.below hb.size (fun x hx => by omega))⟩
set_option maxHeartbeats 4000000 in
theorem frameGet_any (A : Option Addr) (b : Tx) (L C : Nat) (G : Nat → Prop) (w : World) (hL : L = b.length) (hC : L ≤ C) (hl : L ≤ 1000000) (hA : A = none → L = 0 ∧ C = 0) (hr : RdL w A b G) :
    Calls Try.prog 25 #[.slice A L C] w (GotU b w) := by
  have HB0 : Hid (Below w.heap.size w (w.alloc (unitObj 0 0 0 none 0 0))) := Lib.hid ((Below.refl _ _).alloc (Nat.le_refl _) _)
  have HR := Lib.hid hr
  have HL := Lib.hid hL
  have HN := Lib.hid (read_any A b L C G (w.alloc (unitObj 0 0 0 none 0 0)) hL hC hl hA (hr.old HB0.out))
  unfold unitObj at HN
  obtain ⟨er, her⟩ : ∃ er, er = Fm.err (Fm.parse b) := ⟨_, rfl⟩
  obtain ⟨k, lb, nb, s, hu⟩ : ∃ k lb nb s, Fm.parse b = ⟨k, lb, nb, s⟩ := ⟨_, _, _, _, rfl⟩
  rw [hu] at HN
  have HU := Lib.hid hu
  have HE := Lib.hid her
  clear hL hA hr hu her
  by_cases he : er = 0
  · subst he
    have hok : Fm.Ok (Fm.parse b) := Fm.err_zero.1 HE.out.symm
    by_cases hg : Fm.blk (Fm.parse b) = b
    · have heq : (Fm.put (Fm.parse b) == b) = true := by rw [Fm.put_ok hok, hg]; simp
      have HGE := Lib.hid (Fm.gotE_yes ⟨hok, hg⟩)
      have HG := Lib.hid (Fm.got_yes ⟨hok, hg⟩)
      rw [HU.out] at heq HG
      have HE2 := Lib.hid (HU.out ▸ HE.out)
      clear hok hg HE
      go_enter Try.func25, Try.ntmps25
      go_wp2_with fail
      refine HN.out.mono ?_
      rintro e w1 ⟨A1, m1, C1, rfl, hm1, hc1, hn1, hr1, hb1⟩
      have HB1 := Lib.hid (HB0.out.trans (hb1.mono HB0.out.size))
      have HZ1 : Hid (w1.heap[w.heap.size]? = some (unitObj 0 0 0 none 0 0)) := Lib.hid ((hb1.block _ (by simp)).trans (Go.Deep.blk_alloc_new _ _))
      have HR1 : Hid (RdL w1 A1 s (w.heap.size < ·)) := Lib.hid (hr1.mono fun x hx => by simp at hx; omega)
      have HM1 : Hid (m1 = s.length) := Lib.hid hm1
      have HN1 := Lib.hid hn1
      have hB2 : Below w1.heap.size w1 (w1.alloc (unitObj k lb nb A1 m1 C1)) := (Below.refl _ _).alloc (Nat.le_refl _) _
      have HU2 : Hid ((w1.alloc (unitObj k lb nb A1 m1 C1)).heap[w1.heap.size]? = some (unitObj k lb nb A1 m1 C1)) := Lib.hid (Go.Deep.blk_alloc_new _ _)
      have HZ2 := Lib.hid ((hB2.block _ (heap_lt HZ1.out)).trans HZ1.out)
      have HR2 := Lib.hid (HR1.out.old hB2)
      have HB2 := Lib.hid (HB1.out.trans (hB2.mono HB1.out.size))
      clear hm1 hn1 hr1 hb1 hB2
      go_wp2_with fail
      refine (framePut_any k lb nb A1 s m1 C1 _ _ HM1.out HN1.out HR2.out).mono ?_
      rintro e w3 ⟨A3, n3, C3, rfl, hn3, hc3, -, ha3, hr3, hb3⟩
      have hb3' : Below (w1.alloc (unitObj k lb nb A1 m1 C1)).heap.size (w1.alloc (unitObj k lb nb A1 m1 C1)) w3 := hb3
      have HU3 := Lib.hid ((hb3'.block _ (heap_lt HU2.out)).trans HU2.out)
      have HZ3 := Lib.hid ((hb3'.block _ (heap_lt HZ2.out)).trans HZ2.out)
      have HS3 := Lib.hid (HR2.out.old hb3')
      have HB3 := Lib.hid (HB2.out.trans (hb3'.mono HB2.out.size))
      have HR3 := Lib.hid hr3
      have HN3 := Lib.hid hn3
      clear hb3 hb3' hr3 hn3 hc3 ha3 HU2 HZ2 HR2 HB2 HZ1 HR1 HB1
      obtain ⟨u0, u1, u2, u3⟩ := unit4 HU3.out
      obtain ⟨z0, z1, z2, z3⟩ := unit4 HZ3.out
      have y0 : w3.frozen? ⟨w.heap.size, 0, none⟩ = false := heap_frozen HZ3.out
      have y1 : w3.frozen? ⟨w.heap.size, 1, none⟩ = false := heap_frozen HZ3.out
      have y2 : w3.frozen? ⟨w.heap.size, 2, none⟩ = false := heap_frozen HZ3.out
      have y3 : w3.frozen? ⟨w.heap.size, 3, none⟩ = false := heap_frozen HZ3.out
      rw [← HE2.out]
      go_wp2_with fail
      refine (equal_any A3 A _ b n3 L C3 C _ _ w3 HN3.out HL.out HR3.out (HR.out.old HB3.out)).mono ?_
      rw [heq]
      rintro e w4 ⟨rfl, hw4⟩
      subst hw4
      go_wp2
      exact bodyPost_ret (v := .tuple #[.agg #[.int .i64 k, .int .i64 lb, .int .i64 nb, .slice A1 m1 C1], .int .i64 0]) (by simp [results, Try.results25, go_sem, z0, z1, z2, z3]) rfl (GotU.stored (u := ⟨k, lb, nb, s⟩) HG.out HGE.out rfl HS3.out HM1.out hc1 HN1.out HB3.out)
    · have heq : (Fm.put (Fm.parse b) == b) = false := by rw [Fm.put_ok hok]; simpa using hg
      have HGE := Lib.hid (Fm.gotE_no (b := b) fun h => hg h.2)
      have HG := Lib.hid (Fm.got_no (b := b) fun h => hg h.2)
      rw [HU.out] at heq
      have HE2 := Lib.hid (HU.out ▸ HE.out)
      clear hok hg HE
      go_enter Try.func25, Try.ntmps25
      go_wp2_with fail
      refine HN.out.mono ?_
      rintro e w1 ⟨A1, m1, C1, rfl, hm1, hc1, hn1, hr1, hb1⟩
      have HB1 := Lib.hid (HB0.out.trans (hb1.mono HB0.out.size))
      have HZ1 : Hid (w1.heap[w.heap.size]? = some (unitObj 0 0 0 none 0 0)) := Lib.hid ((hb1.block _ (by simp)).trans (Go.Deep.blk_alloc_new _ _))
      have HR1 : Hid (RdL w1 A1 s (w.heap.size < ·)) := Lib.hid (hr1.mono fun x hx => by simp at hx; omega)
      have HM1 : Hid (m1 = s.length) := Lib.hid hm1
      have HN1 := Lib.hid hn1
      have hB2 : Below w1.heap.size w1 (w1.alloc (unitObj k lb nb A1 m1 C1)) := (Below.refl _ _).alloc (Nat.le_refl _) _
      have HU2 : Hid ((w1.alloc (unitObj k lb nb A1 m1 C1)).heap[w1.heap.size]? = some (unitObj k lb nb A1 m1 C1)) := Lib.hid (Go.Deep.blk_alloc_new _ _)
      have HZ2 := Lib.hid ((hB2.block _ (heap_lt HZ1.out)).trans HZ1.out)
      have HR2 := Lib.hid (HR1.out.old hB2)
      have HB2 := Lib.hid (HB1.out.trans (hB2.mono HB1.out.size))
      clear hm1 hn1 hr1 hb1 hB2
      go_wp2_with fail
      refine (framePut_any k lb nb A1 s m1 C1 _ _ HM1.out HN1.out HR2.out).mono ?_
      rintro e w3 ⟨A3, n3, C3, rfl, hn3, hc3, -, ha3, hr3, hb3⟩
      have hb3' : Below (w1.alloc (unitObj k lb nb A1 m1 C1)).heap.size (w1.alloc (unitObj k lb nb A1 m1 C1)) w3 := hb3
      have HU3 := Lib.hid ((hb3'.block _ (heap_lt HU2.out)).trans HU2.out)
      have HZ3 := Lib.hid ((hb3'.block _ (heap_lt HZ2.out)).trans HZ2.out)
      have HS3 := Lib.hid (HR2.out.old hb3')
      have HB3 := Lib.hid (HB2.out.trans (hb3'.mono HB2.out.size))
      have HR3 := Lib.hid hr3
      have HN3 := Lib.hid hn3
      clear hb3 hb3' hr3 hn3 hc3 ha3 HU2 HZ2 HR2 HB2 HZ1 HR1 HB1
      obtain ⟨u0, u1, u2, u3⟩ := unit4 HU3.out
      obtain ⟨z0, z1, z2, z3⟩ := unit4 HZ3.out
      have y0 : w3.frozen? ⟨w.heap.size, 0, none⟩ = false := heap_frozen HZ3.out
      have y1 : w3.frozen? ⟨w.heap.size, 1, none⟩ = false := heap_frozen HZ3.out
      have y2 : w3.frozen? ⟨w.heap.size, 2, none⟩ = false := heap_frozen HZ3.out
      have y3 : w3.frozen? ⟨w.heap.size, 3, none⟩ = false := heap_frozen HZ3.out
      rw [← HE2.out]
      go_wp2_with fail
      refine (equal_any A3 A _ b n3 L C3 C _ _ w3 HN3.out HL.out HR3.out (HR.out.old HB3.out)).mono ?_
      rw [heq]
      rintro e w4 ⟨rfl, hw4⟩
      subst hw4
      go_wp2
      exact bodyPost_ret (v := .tuple #[.agg #[.int .i64 0, .int .i64 0, .int .i64 0, .slice none 0 0], .int .i64 2]) (by simp [results, Try.results25, go_sem, z0, z1, z2, z3]) rfl (GotU.stored (u := Fm.zero) HG.out HGE.out rfl (RdL.empty _ _ _) rfl (Nat.le_refl _) (fun _ => ⟨rfl, rfl⟩) HB3.out)
  · have hno : ¬ Fm.Good b := fun h => he (HE.out.trans (Fm.err_ok h.1))
    have HGE := Lib.hid (Fm.gotE_no hno)
    have HG := Lib.hid (Fm.got_no hno)
    have q1 : (er == 0) = false := beq_eq_false_iff_ne.2 he
    have q2 : (er != 0) = true := bne_iff_ne.2 he
    have HE2 := Lib.hid (HU.out ▸ HE.out)
    clear hno he HE
    go_enter Try.func25, Try.ntmps25
    go_wp2_with fail
    refine HN.out.mono ?_
    rintro e w1 ⟨A1, m1, C1, rfl, hm1, hc1, hn1, hr1, hb1⟩
    have HB1 := Lib.hid (HB0.out.trans (hb1.mono HB0.out.size))
    have HZ1 : Hid (w1.heap[w.heap.size]? = some (unitObj 0 0 0 none 0 0)) := Lib.hid ((hb1.block _ (by simp)).trans (Go.Deep.blk_alloc_new _ _))
    have HR1 : Hid (RdL w1 A1 s (w.heap.size < ·)) := Lib.hid (hr1.mono fun x hx => by simp at hx; omega)
    have HM1 : Hid (m1 = s.length) := Lib.hid hm1
    have HN1 := Lib.hid hn1
    have hB2 : Below w1.heap.size w1 (w1.alloc (unitObj k lb nb A1 m1 C1)) := (Below.refl _ _).alloc (Nat.le_refl _) _
    have HU2 : Hid ((w1.alloc (unitObj k lb nb A1 m1 C1)).heap[w1.heap.size]? = some (unitObj k lb nb A1 m1 C1)) := Lib.hid (Go.Deep.blk_alloc_new _ _)
    have HZ2 := Lib.hid ((hB2.block _ (heap_lt HZ1.out)).trans HZ1.out)
    have HR2 := Lib.hid (HR1.out.old hB2)
    have HB2 := Lib.hid (HB1.out.trans (hB2.mono HB1.out.size))
    clear hm1 hn1 hr1 hb1 hB2
    go_wp2_with fail
    refine (framePut_any k lb nb A1 s m1 C1 _ _ HM1.out HN1.out HR2.out).mono ?_
    rintro e w3 ⟨A3, n3, C3, rfl, hn3, hc3, -, ha3, hr3, hb3⟩
    have hb3' : Below (w1.alloc (unitObj k lb nb A1 m1 C1)).heap.size (w1.alloc (unitObj k lb nb A1 m1 C1)) w3 := hb3
    have HU3 := Lib.hid ((hb3'.block _ (heap_lt HU2.out)).trans HU2.out)
    have HZ3 := Lib.hid ((hb3'.block _ (heap_lt HZ2.out)).trans HZ2.out)
    have HS3 := Lib.hid (HR2.out.old hb3')
    have HB3 := Lib.hid (HB2.out.trans (hb3'.mono HB2.out.size))
    have HR3 := Lib.hid hr3
    have HN3 := Lib.hid hn3
    clear hb3 hb3' hr3 hn3 hc3 ha3 HU2 HZ2 HR2 HB2 HZ1 HR1 HB1
    obtain ⟨u0, u1, u2, u3⟩ := unit4 HU3.out
    obtain ⟨z0, z1, z2, z3⟩ := unit4 HZ3.out
    have y0 : w3.frozen? ⟨w.heap.size, 0, none⟩ = false := heap_frozen HZ3.out
    have y1 : w3.frozen? ⟨w.heap.size, 1, none⟩ = false := heap_frozen HZ3.out
    have y2 : w3.frozen? ⟨w.heap.size, 2, none⟩ = false := heap_frozen HZ3.out
    have y3 : w3.frozen? ⟨w.heap.size, 3, none⟩ = false := heap_frozen HZ3.out
    rw [← HE2.out]
    go_wp2
    exact bodyPost_ret (v := .tuple #[.agg #[.int .i64 0, .int .i64 0, .int .i64 0, .slice none 0 0], .int .i64 2]) (by simp [results, Try.results25, go_sem, z0, z1, z2, z3]) rfl (GotU.stored (u := Fm.zero) HG.out HGE.out rfl (RdL.empty _ _ _) rfl (Nat.le_refl _) (fun _ => ⟨rfl, rfl⟩) HB3.out)
end Go.Proofs.Ytnbfkihgloipiaa
namespace Go.Proofs.Ytnbfkihgloipiaa
open Go.RowKit
open Pt (Tx)

/-- the slice at A of slices reads as these texts, all in blocks of G -/
def RdB (w : World) (A : Option Addr) (bs : List Tx) (G : Nat → Prop) : Prop :=
  0 < bs.length → ∃ b off, A = some ⟨b, off, none⟩ ∧ G b ∧ ∀ i (hi : i < bs.length), ∃ A' C', w.cell? ⟨b, off + i, none⟩ = some (.slice A' bs[i].length C') ∧ bs[i].length ≤ C' ∧ (A' = none → bs[i].length = 0 ∧ C' = 0) ∧ RdL w A' bs[i] G
namespace RdB
variable {w w' : World} {A : Option Addr} {bs : List Tx} {G G' S : Nat → Prop}
theorem empty (w : World) (A : Option Addr) (G : Nat → Prop) : RdB w A [] G := fun h => absurd h (by simp)
theorem keep (h : RdB w A bs G) (hk : ∀ p v, G p.block → w.cell? p = some v → w'.cell? p = some v) : RdB w' A bs G := by
  intro hn
  obtain ⟨b, off, e, hg, hc⟩ := h hn
  refine ⟨b, off, e, hg, fun i hi => ?_⟩
  obtain ⟨A', C', h1, h2, h3, h4⟩ := hc i hi
  exact ⟨A', C', hk _ _ hg h1, h2, h3, h4.keep hk⟩
theorem mono (h : RdB w A bs G) (hg : ∀ b, G b → G' b) : RdB w A bs G' := by
  intro hn
  obtain ⟨b, off, e, hg', hc⟩ := h hn
  refine ⟨b, off, e, hg _ hg', fun i hi => ?_⟩
  obtain ⟨A', C', h1, h2, h3, h4⟩ := hc i hi
  exact ⟨A', C', h1, h2, h3, h4.mono hg⟩
theorem kp (h : RdB w A bs G) (hk : Kp S w w') (hs : ∀ b, G b → ¬ S b) : RdB w' A bs G := h.keep fun _ _ hg hc => hk.cell hc (hs _ hg)
theorem old (h : RdB w A bs G) (hb : Below w.heap.size w w') : RdB w' A bs G := h.keep fun _ _ _ hc => (hb.cell (World.block_lt_of_cell? _ _ hc)).trans hc
theorem below {B : Nat} (h : RdB w A bs (· < B)) (hb : Below B w w') : RdB w' A bs (· < B) := h.keep fun _ _ hg hc => (hb.cell hg).trans hc
theorem in_ (h : RdB w A bs G) : RdB w A bs (fun b => G b ∧ b < w.heap.size) := by
  intro hn
  obtain ⟨b, off, e, hg, hc⟩ := h hn
  refine ⟨b, off, e, ⟨hg, ?_⟩, fun i hi => ?_⟩
  · obtain ⟨_, _, h1, _⟩ := hc 0 hn
    exact World.block_lt_of_cell? _ _ h1
  · obtain ⟨A', C', h1, h2, h3, h4⟩ := hc i hi
    exact ⟨A', C', h1, h2, h3, h4.in_⟩
theorem at_ (h : RdB w A bs G) {i : Nat} (hi : i < bs.length) : ∃ b off A' C', A = some ⟨b, off, none⟩ ∧ G b ∧ w.cell? ⟨b, off + i, none⟩ = some (.slice A' bs[i].length C') ∧ bs[i].length ≤ C' ∧ (A' = none → bs[i].length = 0 ∧ C' = 0) ∧ RdL w A' bs[i] G := by
  obtain ⟨b, off, e, hg, hc⟩ := h (by omega)
  obtain ⟨A', C', h1, h2, h3, h4⟩ := hc i hi
  exact ⟨b, off, A', C', e, hg, h1, h2, h3, h4⟩
end RdB
/-- a tape as the value that is handed on -/
def tape (lab cap : Int) (A : Option Addr) (n C : Nat) (lost : Bool) : Value := .agg #[.int .i64 lab, .int .i64 cap, .slice A n C, .bool lost]
end Go.Proofs.Ytnbfkihgloipiaa
namespace Go.Proofs.Ytnbfkihgloipiaa
open Go.RowKit
open Pt (Tx)

/-- block n, if it is good, for whatever n -/
def Vo.goodZ (t : Vo.T) (n : Int) : Option Fm.U := if n < 0 then none else Vo.good t n.toNat
/-- what is answered for it -/
def unitOf (o : Option Fm.U) : Fm.U := o.getD Fm.zero
def GoodA (o : Option Fm.U) (w : World) (e : Ending) (w' : World) : Prop :=
  ∃ A m C, e = .returned (.tuple #[.agg #[.int .i64 (unitOf o).kind, .int .i64 (unitOf o).label, .int .i64 (unitOf o).number, .slice A m C], .bool o.isSome]) ∧ m = (unitOf o).load.length ∧ m ≤ C ∧ (A = none → m = 0 ∧ C = 0) ∧ RdL w' A (unitOf o).load (w.heap.size ≤ ·) ∧ Below w.heap.size w w'
theorem GoodA.stored {w w7 : World} {B : Nat} {a0 a1 a2 a3 : Value} {o : Option Fm.U} {u : Fm.U} {b : Bool} {A : Option Addr} {m C : Nat} (hu : unitOf o = u) (he : o.isSome = b) (hB : w.heap.size ≤ B) (hr : RdL w7 A u.load (fun x => w.heap.size ≤ x ∧ x ≠ B)) (hm : m = u.load.length) (hc : m ≤ C) (hn : A = none → m = 0 ∧ C = 0) (hb : Below w.heap.size w w7) :
    GoodA o w (.returned (.tuple #[.agg #[.int .i64 u.kind, .int .i64 u.label, .int .i64 u.number, .slice A m C], .bool b])) ((((w7.setCell ⟨B, 0, none⟩ a0).setCell ⟨B, 1, none⟩ a1).setCell ⟨B, 2, none⟩ a2).setCell ⟨B, 3, none⟩ a3) := by
  have hk : Kp (· = B) w7 ((((w7.setCell ⟨B, 0, none⟩ a0).setCell ⟨B, 1, none⟩ a1).setCell ⟨B, 2, none⟩ a2).setCell ⟨B, 3, none⟩ a3) := (((Kp.store _ _ _ _).trans (Kp.store _ _ _ _)).trans (Kp.store _ _ _ _)).trans (Kp.store _ _ _ _)
  exact ⟨A, m, C, by rw [hu, he], by rw [hu]; exact hm, hc, hn, by rw [hu]; exact (hr.kp hk (fun x hx hx' => hx.2 hx')).mono (fun x hx => hx.1), hb.trans (hk.below hb.size (fun x hx => by omega))⟩
theorem goodZ_no {lab : Int} {bs : List Tx} {lost : Bool} {n : Int} (h : lost = true ∨ n < 0 ∨ (bs.length : Int) ≤ n) : Vo.goodZ ⟨lab, bs, lost⟩ n = none := by
  unfold Vo.goodZ
  split
  · rfl
  · rcases h with h | h | h
    · exact Vo.good_lost h _
    · omega
    · exact Vo.good_end (t := ⟨lab, bs, lost⟩) (by show bs.length ≤ _; omega)
theorem good_is {lab : Int} {bs : List Tx} {n : Nat} (h : n < bs.length) : Vo.good ⟨lab, bs, false⟩ n = if Fm.Good bs[n] ∧ (Fm.parse bs[n]).label = lab ∧ (Fm.parse bs[n]).number = (n : Int) then some (Fm.parse bs[n]) else none := by
  unfold Vo.good
  rw [if_neg (show ¬ (false = true) by decide)]
  show (match bs[n]? with | none => none | some b => if Fm.Good b ∧ (Fm.parse b).label = lab ∧ (Fm.parse b).number = (n : Int) then some (Fm.parse b) else none) = _
  rw [List.getElem?_eq_getElem h]
/-- a tape's block, and an answer's behind it -/
theorem two_blocks {w wb : World} {o1 o2 : Obj} (h : wb = (w.alloc o1).alloc o2) : Below w.heap.size w wb ∧ wb.heap[w.heap.size]? = some o1 ∧ wb.heap[w.heap.size + 1]? = some o2 := by
  have hb1 : Below w.heap.size w (w.alloc o1) := (Below.refl _ _).alloc (Nat.le_refl _) _
  have h1 : (w.alloc o1).heap[w.heap.size]? = some o1 := Go.Deep.blk_alloc_new _ _
  have h2 := Go.Deep.blk_alloc_new (w.alloc o1) o2
  rw [show (w.alloc o1).heap.size = w.heap.size + 1 by simp] at h2
  subst h
  exact ⟨hb1.alloc hb1.size _, (Below.heap_alloc _ _ _ (heap_lt h1)).trans h1, h2⟩
set_option maxHeartbeats 400000 in
theorem good_out (lab cap : Int) (bs : List Tx) (A : Option Addr) (L C : Nat) (lost : Bool) (n : Int) (w : World) (hL : L = bs.length) (h : lost = true ∨ n < 0 ∨ (bs.length : Int) ≤ n) :
    Calls Try.prog 21 #[.agg #[.int .i64 lab, .int .i64 cap, .slice A L C, .bool lost], .int .i64 n] w (GoodA (Vo.goodZ ⟨lab, bs, lost⟩ n) w) := by
  have HG := Lib.hid (goodZ_no (lab := lab) h)
  obtain ⟨wb, hwb⟩ : ∃ wb, wb = (w.alloc (tapeObj lab cap A L C lost)).alloc (unitObj 0 0 0 none 0 0) := ⟨_, rfl⟩
  obtain ⟨hB, hT, hU⟩ := two_blocks hwb
  have HB := Lib.hid hB
  have HU := Lib.hid hU
  have HT := Lib.hid hT
  have HW := Lib.hid hwb
  unfold tapeObj unitObj at HW
  obtain ⟨t0, t1, t2, t3⟩ := tape4 hT
  obtain ⟨z0, z1, z2, z3⟩ := unit4 hU
  rw [hwb] at t0 t1 t2 t3
  rw [← hL] at h
  clear hB hT hU hwb hL
  have hq : lost = true ∨ (lost = false ∧ decide (n < 0) = true) ∨ (lost = false ∧ decide (n < 0) = false ∧ decide ((L : Int) ≤ n) = true) := by
    cases lost with
    | true => exact .inl rfl
    | false =>
      refine .inr ?_
      by_cases h0 : n < 0
      · exact .inl ⟨rfl, decide_eq_true h0⟩
      · exact .inr ⟨rfl, decide_eq_false h0, decide_eq_true (by rcases h with h | h | h; · cases h
                                                                · exact absurd h h0
                                                                · exact h)⟩
  clear h
  rcases hq with rfl | ⟨rfl, q1⟩ | ⟨rfl, q1, q2⟩
  all_goals
    go_enter Try.func21, Try.ntmps21
    go_wp2_with fail
    rw [← HW.out]
    refine bodyPost_ret (v := .tuple #[.agg #[.int .i64 0, .int .i64 0, .int .i64 0, .slice none 0 0], .bool false]) (by simp [results, Try.results21, go_sem, z0, z1, z2, z3]) rfl ?_
    rw [HG.out]
    exact ⟨none, 0, 0, rfl, rfl, Nat.le_refl _, fun _ => ⟨rfl, rfl⟩, RdL.empty _ _ _, HB.out⟩
set_option maxHeartbeats 4000000 in
theorem good_in (lab cap : Int) (bs : List Tx) (A : Option Addr) (L C : Nat) (G : Nat → Prop) (n : Nat) (w : World) (hL : L = bs.length) (hr : RdB w A bs G) (hn : n < bs.length) (hl : ∀ s ∈ bs, s.length ≤ 1000000) :
    Calls Try.prog 21 #[.agg #[.int .i64 lab, .int .i64 cap, .slice A L C, .bool false], .int .i64 n] w (GoodA (Vo.good ⟨lab, bs, false⟩ n) w) := by
  obtain ⟨b, off, A1, C1, rfl, hg1, hc1, hC1, hN1, hr1⟩ := hr.at_ hn
  obtain ⟨s, hsd⟩ : ∃ s, s = bs[n] := ⟨_, rfl⟩
  have hsl : s.length ≤ 1000000 := by rw [hsd]; exact hl _ (List.getElem_mem hn)
  have HG := Lib.hid (good_is (lab := lab) hn)
  rw [← hsd] at HG hc1 hC1 hN1 hr1
  obtain ⟨S, hS⟩ : ∃ S, S = s.length := ⟨_, rfl⟩
  rw [← hS] at hc1 hC1 hN1 hsl
  obtain ⟨wb, hwb⟩ : ∃ wb, wb = (w.alloc (tapeObj lab cap (some ⟨b, off, none⟩) L C false)).alloc (unitObj 0 0 0 none 0 0) := ⟨_, rfl⟩
  obtain ⟨hB, hT, hU⟩ := two_blocks hwb
  have hcb : wb.cell? ⟨b, off + n, none⟩ = some (.slice A1 S C1) := (hB.cell (World.block_lt_of_cell? _ _ hc1)).trans hc1
  have HGET := Lib.hid (frameGet_any A1 s S C1 G wb hS hC1 hsl hN1 (hr1.old hB))
  have HB := Lib.hid hB
  have HU := Lib.hid hU
  have HT := Lib.hid hT
  have HW := Lib.hid hwb
  unfold tapeObj unitObj at HW
  obtain ⟨t0, t1, t2, t3⟩ := tape4 hT
  have q1 : decide ((n : Int) < 0) = false := decide_eq_false (by omega)
  have q2 : decide ((L : Int) ≤ (n : Int)) = false := decide_eq_false (by omega)
  have q3 : decide (L ≤ n) = false := decide_eq_false (by omega)
  have q4 : n < L := by omega
  obtain ⟨ge, hge⟩ : ∃ ge, ge = Fm.gotE s := ⟨_, rfl⟩
  obtain ⟨k, lb, nb, ld, hu⟩ : ∃ k lb nb ld, Fm.got s = ⟨k, lb, nb, ld⟩ := ⟨_, _, _, _, rfl⟩
  unfold GotU at HGET
  rw [hu, ← hge] at HGET
  have hcase : (ge = 0 ∧ lb = lab ∧ nb = (n : Int) ∧ Vo.good ⟨lab, bs, false⟩ n = some ⟨k, lb, nb, ld⟩) ∨ (Vo.good ⟨lab, bs, false⟩ n = none ∧ ((ge != 0) = true ∨ ((ge != 0) = false ∧ (lb != lab) = true) ∨ ((ge != 0) = false ∧ (lb != lab) = false ∧ (nb != (n : Int)) = true))) := by
    have h := HG.out
    by_cases hgd : Fm.Good s
    · rw [Fm.gotE_yes hgd] at hge
      rw [Fm.got_yes hgd] at hu
      rw [hu] at h
      by_cases h1 : lb = lab
      · by_cases h2 : nb = (n : Int)
        · refine .inl ⟨hge, h1, h2, ?_⟩
          rw [h, if_pos ⟨hgd, h1, h2⟩]
        · refine .inr ⟨?_, .inr (.inr ⟨by rw [hge]; rfl, by rw [h1]; simp, by simpa using h2⟩)⟩
          rw [h, if_neg fun h' => h2 h'.2.2]
      · refine .inr ⟨?_, .inr (.inl ⟨by rw [hge]; rfl, by simpa using h1⟩)⟩
        rw [h, if_neg fun h' => h1 h'.2.1]
    · rw [Fm.gotE_no hgd] at hge
      refine .inr ⟨?_, .inl (by rw [hge]; rfl)⟩
      rw [h, if_neg fun h' => hgd h'.1]
  clear HG hg1 hc1 hC1 hN1 hr1 hS hsl hu hge hr hl hL hn hB hT hU hsd
  rcases hcase with ⟨rfl, rfl, hnb, hres⟩ | ⟨hres, hq⟩
  · have HRES := Lib.hid hres
    have hq5 : (nb != (n : Int)) = false := by simp [hnb]
    clear hres hnb
    rw [HW.out] at t0 t1 t2 t3 hcb
    go_enter Try.func21, Try.ntmps21
    go_wp2_with fail
    rw [← HW.out]
    refine HGET.out.mono ?_
    rintro e w1 ⟨A2, m2, C2, rfl, hm2, hc2, hn2, hr2, hb2⟩
    obtain ⟨wc, hwc⟩ : ∃ wc, wc = w1.alloc (unitObj k lb nb A2 m2 C2) := ⟨_, rfl⟩
    have hb3 : Below w1.heap.size w1 wc := by rw [hwc]; exact (Below.refl _ _).alloc (Nat.le_refl _) _
    have hbc := hb2.trans (hb3.mono hb2.size)
    have hY : wc.heap[w1.heap.size]? = some (unitObj k lb nb A2 m2 C2) := by rw [hwc]; exact Go.Deep.blk_alloc_new _ _
    have hZ := (hbc.block _ (heap_lt HU.out)).trans HU.out
    have hT3 := below_tape hbc HT.out
    obtain ⟨t0', t1', t2', t3'⟩ := tape4 hT3
    obtain ⟨z0, z1, z2, z3⟩ := unit4 hZ
    obtain ⟨x0, x1, x2, x3⟩ := unit4 hY
    have y0 : wc.frozen? ⟨w.heap.size + 1, 0, none⟩ = false := heap_frozen hZ
    have y1 : wc.frozen? ⟨w.heap.size + 1, 1, none⟩ = false := heap_frozen hZ
    have y2 : wc.frozen? ⟨w.heap.size + 1, 2, none⟩ = false := heap_frozen hZ
    have y3 : wc.frozen? ⟨w.heap.size + 1, 3, none⟩ = false := heap_frozen hZ
    have HR2 : Hid (RdL wc A2 ld (fun x => w.heap.size ≤ x ∧ x ≠ w.heap.size + 1)) := Lib.hid ((hr2.old hb3).mono fun x hx => by
      have h1 : w.heap.size + 2 ≤ wb.heap.size := by have := heap_lt HU.out; omega
      have h2 : wb.heap.size ≤ x := hx
      omega)
    have HB3 := Lib.hid (HB.out.trans (hbc.mono HB.out.size))
    have HM2 := Lib.hid hm2
    have HN2 := Lib.hid hn2
    have HWC := Lib.hid hwc
    unfold unitObj at HWC
    obtain ⟨y, hy⟩ : ∃ y, y = w1.heap.size := ⟨_, rfl⟩
    rw [← hy] at x0 x1 x2 x3
    have HY := Lib.hid hy
    have hZ2 := Lib.hid hZ
    clear hb2 hb3 hbc hZ hT3 hr2 hm2 hn2 hwc hY hy t0 t1 t2 t3 x0 x1 x2 x3
    rw [HWC.out] at z0 z1 z2 z3 y0 y1 y2 y3 t0' t1' t2' t3'
    go_wp2
    rw [← HWC.out]
    clear z0 z1 z2 z3
    obtain ⟨z0, z1, z2, z3⟩ := unit4 hZ2.out
    exact bodyPost_ret (v := .tuple #[.agg #[.int .i64 k, .int .i64 lb, .int .i64 nb, .slice A2 m2 C2], .bool true]) (by simp [results, Try.results21, go_sem, z0, z1, z2, z3]) rfl (GoodA.stored (u := ⟨k, lb, nb, ld⟩) (by rw [HRES.out]; rfl) (by rw [HRES.out]; rfl) (by omega) HR2.out HM2.out hc2 HN2.out HB3.out)
  · have HRES := Lib.hid hres
    clear hres
    rw [HW.out] at t0 t1 t2 t3 hcb
    rcases hq with p1 | ⟨p1, p2⟩ | ⟨p1, p2, p3⟩
    all_goals
      go_enter Try.func21, Try.ntmps21
      go_wp2_with fail
      rw [← HW.out]
      refine HGET.out.mono ?_
      rintro e w1 ⟨A2, m2, C2, rfl, hm2, hc2, hn2, hr2, hb2⟩
      obtain ⟨wc, hwc⟩ : ∃ wc, wc = w1.alloc (unitObj k lb nb A2 m2 C2) := ⟨_, rfl⟩
      have hb3 : Below w1.heap.size w1 wc := by rw [hwc]; exact (Below.refl _ _).alloc (Nat.le_refl _) _
      have hbc := hb2.trans (hb3.mono hb2.size)
      have hY : wc.heap[w1.heap.size]? = some (unitObj k lb nb A2 m2 C2) := by rw [hwc]; exact Go.Deep.blk_alloc_new _ _
      have hZ := (hbc.block _ (heap_lt HU.out)).trans HU.out
      have hT3 := below_tape hbc HT.out
      obtain ⟨t0', t1', t2', t3'⟩ := tape4 hT3
      obtain ⟨z0, z1, z2, z3⟩ := unit4 hZ
      obtain ⟨x0, x1, x2, x3⟩ := unit4 hY
      have y0 : wc.frozen? ⟨w.heap.size + 1, 0, none⟩ = false := heap_frozen hZ
      have y1 : wc.frozen? ⟨w.heap.size + 1, 1, none⟩ = false := heap_frozen hZ
      have y2 : wc.frozen? ⟨w.heap.size + 1, 2, none⟩ = false := heap_frozen hZ
      have y3 : wc.frozen? ⟨w.heap.size + 1, 3, none⟩ = false := heap_frozen hZ
      have HR2 : Hid (RdL wc A2 ld (fun x => w.heap.size ≤ x ∧ x ≠ w.heap.size + 1)) := Lib.hid ((hr2.old hb3).mono fun x hx => by
        have h1 : w.heap.size + 2 ≤ wb.heap.size := by have := heap_lt HU.out; omega
        have h2 : wb.heap.size ≤ x := hx
        omega)
      have HB3 := Lib.hid (HB.out.trans (hbc.mono HB.out.size))
      have HM2 := Lib.hid hm2
      have HN2 := Lib.hid hn2
      have HWC := Lib.hid hwc
      unfold unitObj at HWC
      obtain ⟨y, hy⟩ : ∃ y, y = w1.heap.size := ⟨_, rfl⟩
      rw [← hy] at x0 x1 x2 x3
      have HY := Lib.hid hy
      have hZ2 := Lib.hid hZ
      clear hb2 hb3 hbc hZ hT3 hr2 hm2 hn2 hwc hY hy t0 t1 t2 t3 x0 x1 x2 x3
      rw [HWC.out] at z0 z1 z2 z3 y0 y1 y2 y3 t0' t1' t2' t3'
      go_wp2
      rw [← HWC.out]
      clear z0 z1 z2 z3
      obtain ⟨z0, z1, z2, z3⟩ := unit4 hZ2.out
      exact bodyPost_ret (v := .tuple #[.agg #[.int .i64 0, .int .i64 0, .int .i64 0, .slice none 0 0], .bool false]) (by simp [results, Try.results21, go_sem, z0, z1, z2, z3]) rfl (GoodA.stored (u := Fm.zero) (by rw [HRES.out]; rfl) (by rw [HRES.out]; rfl) (by omega) (RdL.empty _ _ _) rfl (Nat.le_refl _) (fun _ => ⟨rfl, rfl⟩) HB3.out)
theorem good_any (lab cap : Int) (bs : List Tx) (A : Option Addr) (L C : Nat) (G : Nat → Prop) (lost : Bool) (n : Int) (w : World) (hL : L = bs.length) (hr : RdB w A bs G) (hl : ∀ s ∈ bs, s.length ≤ 1000000) :
    Calls Try.prog 21 #[.agg #[.int .i64 lab, .int .i64 cap, .slice A L C, .bool lost], .int .i64 n] w (GoodA (Vo.goodZ ⟨lab, bs, lost⟩ n) w) := by
  by_cases h : lost = true ∨ n < 0 ∨ (bs.length : Int) ≤ n
  · exact good_out lab cap bs A L C lost n w hL h
  · have h1 : lost = false := by cases lost with
      | true => exact absurd (.inl rfl) h
      | false => rfl
    subst h1
    have h2 : 0 ≤ n ∧ n < (bs.length : Int) := by
      constructor
      · rcases Int.lt_or_le n 0 with h' | h'
        · exact absurd (.inr (.inl h')) h
        · exact h'
      · rcases Int.lt_or_le n (bs.length : Int) with h' | h'
        · exact h'
        · exact absurd (.inr (.inr h')) h
    obtain ⟨m, rfl⟩ : ∃ m : Nat, n = (m : Int) := ⟨n.toNat, by omega⟩
    have h3 : Vo.goodZ ⟨lab, bs, false⟩ (m : Int) = Vo.good ⟨lab, bs, false⟩ m := by
      unfold Vo.goodZ
      rw [if_neg (by omega)]; rfl
    rw [h3]
    exact good_in lab cap bs A L C G m w hL hr (by omega) hl
end Go.Proofs.Ytnbfkihgloipiaa
namespace Go.Proofs.Ytnbfkihgloipiaa
open Go.RowKit

theorem below_objS {o : Obj} {B : Nat} {x y : World} (hb : Below x.heap.size x y) (h : x.heap[B]? = some o) : y.heap[B]? = some o := (hb.block B (heap_lt h)).trans h
theorem Enc.Rd.news {α : Type} {E : Enc α} {w : World} {ad : Addr} {l : List α} {G : Nat → Prop} (h : E.Rd w (some ad) l G) : ∀ j u, (E.cells l)[j]? = some u → w.cell? (ad.add j) = some u := by
  intro j u hu
  have hj : j < l.length * E.k := by
    have := (List.getElem?_eq_some_iff.1 hu).1
    rwa [E.cells_len] at this
  have h0 : 0 < l.length := by
    rcases Nat.eq_zero_or_pos l.length with e | e
    · rw [e, Nat.zero_mul] at hj; exact absurd hj (Nat.not_lt_zero _)
    · exact e
  obtain ⟨b, off, e, _, hc⟩ := h h0
  cases e
  have hi : j / E.k < l.length := (Nat.div_lt_iff_lt_mul E.pos).2 hj
  have hm := Nat.mod_lt j E.pos
  have hd : j = j / E.k * E.k + j % E.k := by have := Nat.div_add_mod j E.k; rw [Nat.mul_comm]; omega
  have hx := E.cells_get l (j / E.k) (j % E.k) hm hi
  rw [← hd, hu] at hx
  have := hc (j / E.k) hi (j % E.k) u hx.symm
  rw [addr_add, show off + j = off + j / E.k * E.k + j % E.k by omega]
  exact this
/-- append of what may be nil -/
theorem wpList_append_stO {P : Program} {α : Type} (E : Enc α) (w : World) {ops : Array Oper} {rest : List Oper} {o : Oper} {a : Act} {Q : Exit → Act → World → Prop} (hgd : o.guard = none) (s x : Operand) (t : TypeId)
    (ho : o.op = .call { callee := .builtin .append, args := #[s, x], argTypes := #[t, t] })
    (base : Nat) (e : TypeId) (z : Value) (bytes : Nat) (ht : P.underlying t = some (.slice e)) (hi : (P.info? e).map (fun i => (i.zero, i.size, i.bytes)) = some (some z, E.k, bytes)) (hzs : z.cells.size = E.k)
    (v : Value) (l : List α) (hs : a.eval s = v) (hown : E.Own w base e v l)
    (A : Option Addr) (m c : Nat) (l' : List α) (G : Nat → Prop) (hx : a.eval x = .slice A m c) (hm : m = l'.length) (hA : A = none → m = 0 ∧ c = 0) (hrd : E.Rd w A l' G)
    (h63 : l.length + m ≤ maxLen) (hbytes : (l.length + m) * bytes ≤ 140737488355328) (hbase : base ≤ w.heap.size)
    (h : ∀ v' w', E.Own w' base e v' (l ++ l') → w.grownBy w' v.ownBlock → wpList P ops Q rest (a.put o.dst v') w') : wpList P ops Q (o :: rest) a w := by
  cases A with
  | none =>
    obtain ⟨rfl, rfl⟩ := hA rfl
    have hn : l' = [] := List.length_eq_zero_iff.1 hm.symm
    subst hn
    obtain ⟨i0, hi', hz0, hz1, hz2⟩ := info_parts hi
    refine wpList_append_own_none hgd s x t ho base e i0 E.k ht hi' v l.length (E.cells l) hs hown hx (h v w ?_ (grown_refl w _))
    rw [List.append_nil]; exact hown
  | some ad => exact wpList_append_st' E w hgd s x t ho base e z bytes ht hi hzs v l hs hown ad m c l' hx hm hrd.news h63 hbytes hbase h
/-- a row of another type is as it was when one has grown -/
theorem Enc.Own.beside {α β : Type} {E : Enc α} {F : Enc β} {w w' : World} {b1 b2 : Nat} {t1 t2 : TypeId} {v1 v2 : Value} {l1 : List α} {l2 : List β} (h1 : E.Own w b1 t1 v1 l1) (h2 : F.Own w b2 t2 v2 l2) (ht : t1 ≠ t2) (hg : w.grownBy w' v1.ownBlock) : F.Own w' b2 t2 v2 l2 :=
  h2.of_block fun k hk => hg.block k (h2.lt k hk).2 fun e => by
    obtain ⟨c, hc⟩ := h1.block k e.symm
    obtain ⟨c', hc'⟩ := h2.block k hk
    rw [hc] at hc'
    injection hc' with hc'
    injection hc' with _ hc'
    exact ht hc'
/-- append of some structs, as an equation -/
theorem apE_run {P : Program} {α : Type} (E : Enc α) (w : World) (t : TypeId) (base : Nat) (e : TypeId) (z : Value) (bytes : Nat) (ht : P.underlying t = some (.slice e)) (hi : (P.info? e).map (fun i => (i.zero, i.size, i.bytes)) = some (some z, E.k, bytes)) (hzs : z.cells.size = E.k)
    (v : Value) (l : List α) (hown : E.Own w base e v l) (ad : Addr) (m c : Nat) (l' : List α) (hm : m = l'.length) (hnews : ∀ j u, (E.cells l')[j]? = some u → w.cell? (ad.add j) = some u)
    (h63 : l.length + m ≤ maxLen) (hbytes : (l.length + m) * bytes ≤ 140737488355328) (hbase : base ≤ w.heap.size) (t0 : TypeId := e) :
    ∃ v' w', (∀ ty, (Builtin.append_ #[t, t] ty #[v, .slice (some ad) m c]).run P w = .ok v' w') ∧ E.Own w' base e v' (l ++ l') ∧ w.grownBy w' v.ownBlock := by
  obtain ⟨i0, hi, hz0, hz1, hz2⟩ := info_parts hi
  subst hm
  obtain ⟨v', w', h1, h2, h3, _⟩ := run_append_own (P := P) w base t t0 e i0 z E.k bytes ht hi hz0 hz1 hz2 hzs E.pos v l.length (E.cells l) hown ad l'.length c (E.cells l') (E.cells_len l') hnews (E.cells_all l') h63 hbytes hbase
  exact ⟨v', w', fun ty => h1, by unfold Enc.Own; rw [E.cells_append, List.length_append]; exact h2, h3⟩
end Go.Proofs.Ytnbfkihgloipiaa
namespace Go.Proofs.Ytnbfkihgloipiaa
open Go.RowKit Vf
open Pt (Tx)

theorem infoSpot : (Try.prog.info? 44).map (fun i => (i.zero, i.size, i.bytes)) = some (some (.agg #[.int .i64 0, .int .i64 0]), 2, 16) := by kernel_rfl
/-- spots answered, in new memory -/
def SpotsA (l : List (Int × Int)) (w : World) (e : Ending) (w' : World) : Prop :=
  ∃ A C, e = .returned (.slice A l.length C) ∧ (A = none → l.length = 0 ∧ C = 0) ∧ encS.Rd w' A l (fun _ => True) ∧ Below w.heap.size w w'
/-- what Good answers, as far as it is asked -/
theorem GoodA.flag {o : Option Fm.U} {b : Bool} (h : o.isSome = b) {w w' : World} {e : Ending} (hg : GoodA o w e w') : (∃ k lb nb A m C, e = .returned (.tuple #[.agg #[.int .i64 k, .int .i64 lb, .int .i64 nb, .slice A m C], .bool b])) ∧ Below w.heap.size w w' := by
  obtain ⟨A, m, C, he, -, -, -, -, hb⟩ := hg
  exact ⟨⟨_, _, _, A, m, C, by rw [he, h]⟩, hb⟩
set_option maxHeartbeats 2000000 in
theorem spotsOf_lost (lab cap : Int) (A : Option Addr) (L C : Nat) (w : World) :
    Calls Try.prog 15 #[.agg #[.int .i64 lab, .int .i64 cap, .slice A L C, .bool true]] w (SpotsA [(lab, -1)] w) := by
  obtain ⟨wb, hwb⟩ : ∃ wb, wb = w.alloc (tapeObj lab cap A L C true) := ⟨_, rfl⟩
  have hB : Below w.heap.size w wb := by rw [hwb]; exact (Below.refl _ _).alloc (Nat.le_refl _) _
  have hT : wb.heap[w.heap.size]? = some (tapeObj lab cap A L C true) := by rw [hwb]; exact Go.Deep.blk_alloc_new _ _
  obtain ⟨wc, hwc⟩ : ∃ wc, wc = wb.alloc (.cells #[.int .i64 lab, .int .i64 (-1)] 44) := ⟨_, rfl⟩
  have hC : Below w.heap.size w wc := by rw [hwc]; exact hB.alloc hB.size _
  have hS : wb.heap.size = w.heap.size + 1 := by rw [hwb]; simp
  have hcc : wc.heap[w.heap.size + 1]? = some (.cells #[.int .i64 lab, .int .i64 (-1)] 44 (0, 0)) := by rw [hwc, ← hS]; exact Go.Deep.blk_alloc_new _ _
  obtain ⟨t0, t1, t2, t3⟩ := tape4 hT
  have HC := Lib.hid hC
  have HCC := Lib.hid hcc
  have HWC := Lib.hid hwc
  have HWB := Lib.hid hwb
  unfold tapeObj at HWB
  clear hB hT hwc hwb hC hS hcc
  go_enter Try.func15, Try.ntmps15
  go_wp2_with fail
  rw [← HWB.out]
  go_wp2_with fail
  try rw [← HWC.out]
  go_ret
  refine ⟨_, _, rfl, (fun h => by cases h), fun _ => ⟨_, 0, rfl, trivial, fun i hi j u hu => ?_⟩, HC.out⟩
  have hi0 : i = 0 := by simp at hi; omega
  subst hi0
  rw [heap_cell HCC.out]
  have hj : j < 2 := (List.getElem?_eq_some_iff.1 hu).1
  have h2 : j = 0 ∨ j = 1 := by omega
  rcases h2 with rfl | rfl
  · exact hu
  · exact hu
set_option maxHeartbeats 4000000 in
theorem spotsOf_live (lab cap : Int) (bs : List Tx) (A : Option Addr) (L C : Nat) (G : Nat → Prop) (w : World) (hL : L = bs.length) (hr : RdB w A bs G) (hs : L ≤ 1000000) (hl : ∀ s ∈ bs, s.length ≤ 1000000) :
    Calls Try.prog 15 #[.agg #[.int .i64 lab, .int .i64 cap, .slice A L C, .bool false]] w (SpotsA (sp lab (upto ⟨lab, cap, bs, false⟩ L)) w) := by
  obtain ⟨wb, hwb⟩ : ∃ wb, wb = w.alloc (tapeObj lab cap A L C false) := ⟨_, rfl⟩
  have hB : Below w.heap.size w wb := by rw [hwb]; exact (Below.refl _ _).alloc (Nat.le_refl _) _
  have hT : wb.heap[w.heap.size]? = some (tapeObj lab cap A L C false) := by rw [hwb]; exact Go.Deep.blk_alloc_new _ _
  obtain ⟨T, hTd⟩ : ∃ T : St.T, T = ⟨lab, cap, bs, false⟩ := ⟨_, rfl⟩
  have HT0 := Lib.hid hT
  have HB0 := Lib.hid hB
  have HW := Lib.hid hwb
  unfold tapeObj at HW
  have HG := Lib.hid (fun (n : Nat) (y : World) (hn : n < bs.length) (hy : Below w.heap.size w y) => good_in lab cap bs A L C G n y hL (hr.old hy) hn hl)
  have HOK : Hid (∀ n, (Vo.good ⟨lab, bs, false⟩ n).isSome = ok T n) := Lib.hid fun n => by rw [hTd]; rfl
  have HL := Lib.hid hL
  rw [← hTd]
  clear hB hT hwb hr hl hTd hL
  go_enter Try.func15, Try.ntmps15
  obtain ⟨t0, t1, t2, t3⟩ := tape4 HT0.out
  go_wp2_with fail
  rw [← HW.out]
  go_loopw [16, 3] (fun vn vl wr => ∃ n : Nat, n ≤ L ∧ vn = .int .i64 (n : Int) ∧ Hid (encS.Own wr (w.heap.size + 1) 44 vl (sp lab (upto T n))) ∧ Hid (Below w.heap.size w wr) ∧ Hid (wr.heap[w.heap.size]? = some (tapeObj lab cap A L C false))) (fun vn _ _ => L - (intOf vn).toNat)
  case atStart => exact ⟨0, Nat.zero_le _, rfl, Lib.hid (Enc.Own.nil _ _ _), HB0, HT0⟩
  case round =>
    clear t0 t1 t2 t3
    obtain ⟨n, hn, rfl, HO, HB, HT⟩ := hrel
    obtain ⟨t0, t1, t2, t3⟩ := tape4 HT.out
    by_cases hlt : n < L
    · have e0 : decide (n < L) = true := decide_eq_true hlt
      have HC := Lib.hid (HG.out n wr (by rw [← HL.out]; exact hlt) HB.out)
      cases hok : ok T n with
      | true =>
        have HO2 : Hid (encS.Own wr (w.heap.size + 1) 44 u3 (sp lab (upto T (n + 1)))) := Lib.hid (by rw [upto_succ, hok]; exact HO.out)
        have HF := Lib.hid ((HOK.out n).trans hok)
        clear hok
        go_wp2_with fail
        refine HC.out.mono ?_
        intro e w1 hg
        obtain ⟨⟨k, lb, nb, A1, m1, C1, rfl⟩, hb1⟩ := hg.flag HF.out
        have hb2 : Below wr.heap.size wr (w1.alloc (.cells #[.int .i64 k, .int .i64 lb, .int .i64 nb, .slice A1 m1 C1] 40)) := hb1.alloc hb1.size _
        have HB2 := Lib.hid (HB.out.trans (hb2.mono HB.out.size))
        have HT2 := Lib.hid (below_objS hb2 HT.out)
        have HO3 := Lib.hid (HO2.out.old hb2)
        clear t0 t1 t2 t3 hg hb1 hb2
        go_wp2
        go_roundw
        case rel => exact ⟨n + 1, by omega, by go_num, HO3, HB2, HT2⟩
        case measure => simp [intOf]; omega
      | false =>
        have HSN : Hid (sp lab (upto T (n + 1)) = sp lab (upto T n) ++ [(lab, (n : Int))]) := Lib.hid (by rw [upto_succ, hok, ← sp_snoc]; rfl)
        have HF := Lib.hid ((HOK.out n).trans hok)
        have hlen : (sp lab (upto T n)).length ≤ n := by rw [sp_len]; exact upto_len _ _
        have HLEN := Lib.hid hlen
        clear hok hlen
        go_wp2_with fail
        refine HC.out.mono ?_
        intro e w1 hg
        obtain ⟨⟨k, lb, nb, A1, m1, C1, rfl⟩, hb1⟩ := hg.flag HF.out
        obtain ⟨w2, hw2⟩ : ∃ w2, w2 = w1.alloc (.cells #[.int .i64 k, .int .i64 lb, .int .i64 nb, .slice A1 m1 C1] 40) := ⟨_, rfl⟩
        have hb2 : Below wr.heap.size wr w2 := by rw [hw2]; exact hb1.alloc hb1.size _
        obtain ⟨w3, hw3⟩ : ∃ w3, w3 = w2.alloc (.cells #[.int .i64 lab, .int .i64 (n : Int)] 44) := ⟨_, rfl⟩
        have hb3 : Below wr.heap.size wr w3 := by rw [hw3]; exact hb2.alloc hb2.size _
        have HB3 := Lib.hid (HB.out.trans (hb3.mono HB.out.size))
        have HT2 := Lib.hid (below_objS hb2 HT.out)
        have HT3 := Lib.hid (below_objS hb3 HT.out)
        have HO3 := Lib.hid (HO.out.old hb3)
        have HNEW : Hid (∀ j u, (encS.cells [(lab, (n : Int))])[j]? = some u → w3.cell? ((⟨w1.heap.size + 1, 0, none⟩ : Addr).add j) = some u) := Lib.hid (by rw [hw3]; exact newCellsAt w2 [.int .i64 lab, .int .i64 (n : Int)] _ _ (by rw [hw2]; simp))
        have hbz : w.heap.size + 1 ≤ wr.heap.size := heap_lt HT.out
        have HSZ : Hid (w.heap.size + 1 ≤ w3.heap.size) := Lib.hid (by have := hb3.size; omega)
        have HLO : Hid (∀ k, u3.ownBlock = some k → w.heap.size + 1 ≤ k) := Lib.hid fun k hk => (HO.out.lt k hk).1
        have HW2 := Lib.hid hw2
        have HW3 := Lib.hid hw3
        clear t0 t1 t2 t3 hg hb1 hb2 hb3 hw2 hw3 hbz
        obtain ⟨t0, t1, t2, t3⟩ := tape4 HT2.out
        rw [HW2.out] at t0 t1 t2 t3
        go_wp2_with (at_builtin; rw [← HW2.out, ← HW3.out]; refine wpList_append_st' encS _ rfl _ _ _ rfl (w.heap.size + 1) 44 _ 16 Try.underlying29 infoSpot rfl _ _ rfl HO3.out ⟨w1.heap.size + 1, 0, none⟩ 1 1 [(lab, (n : Int))] rfl rfl HNEW.out (by have := HLEN.out; unfold maxLen; omega) (by have := HLEN.out; omega) HSZ.out ?_; intro v' w4 ho4 hg4; rw [← HSN.out] at ho4; have HO4 := Lib.hid ho4; have HB4 := Lib.hid (HB3.out.grown hg4 HB3.out.size (fun k hk => by have := HLO.out k hk; omega)); have HT4 : Hid (w4.heap[w.heap.size]? = some (tapeObj lab cap A L C false)) := Lib.hid ((hg4.block _ (heap_lt HT3.out) (fun e => by have := HLO.out _ e.symm; omega)).trans HT3.out); clear ho4 hg4)
        go_roundw
        case rel => exact ⟨n + 1, by omega, by go_num, HO4, HB4, HT4⟩
        case measure => simp [intOf]; omega
    · have hnL : n = L := by omega
      have e0 : decide (n < L) = false := decide_eq_false hlt
      rw [hnL] at HO
      obtain ⟨A', C', hv, h1, h2, h3, h4⟩ := HO.out.rd
      have HR4 := Lib.hid h4
      have H3 := Lib.hid h3
      clear h3 h4 hnL h1 h2
      subst hv
      go_wp2
      go_ret
      exact ⟨A', C', rfl, H3.out, HR4.out.mono fun x hx => trivial, HB.out⟩
theorem spotsOf_any (lab cap : Int) (bs : List Tx) (A : Option Addr) (L C : Nat) (G : Nat → Prop) (lost : Bool) (w : World) (hL : L = bs.length) (hr : RdB w A bs G) (hs : L ≤ 1000000) (hl : ∀ s ∈ bs, s.length ≤ 1000000) :
    Calls Try.prog 15 #[.agg #[.int .i64 lab, .int .i64 cap, .slice A L C, .bool lost]] w (SpotsA (spotsT ⟨lab, cap, bs, lost⟩) w) := by
  cases lost with
  | true => exact spotsOf_lost lab cap A L C w
  | false =>
    have h := spotsOf_live lab cap bs A L C G w hL hr hs hl
    rw [hL] at h ⊢
    exact h
end Go.Proofs.Ytnbfkihgloipiaa
