/- What Get of package frame answers. What Good of package volume answers. What slices.Index, slices.Contains, rightLabels and RightSeal of package record answer. -/
import Derived.Test.YtcokmmanajdioaaGreatMar
import Derived.Test.YtcokmmanajdioaaGreatMao
import Derived.Test.YtcokmmanajdioaaGreatMae
import Derived.BigQuiet
import Derived.Deep.QuietTactic
import Derived.Deep.RegionWith
import Derived.Test.YtcokmmanajdioaaGreatMan
namespace Go.Proofs.YtcokmmanajdioaaGreat
open Go.RowKit
open Pt (Tx)

/-- what Get answers: unit and error -/
def GotU (b : Tx) (w : World) (e : Ending) (w' : World) : Prop :=
  ∃ A m C, e = .returned (.tuple #[.agg #[.int .i64 (Fm.got b).kind, .int .i64 (Fm.got b).label, .int .i64 (Fm.got b).number, .slice A m C], .int .i64 (Fm.gotE b)]) ∧ m = (Fm.got b).load.length ∧ m ≤ C ∧ (A = none → m = 0 ∧ C = 0) ∧ RdL w' A (Fm.got b).load (w.heap.size ≤ ·) ∧ Below w.heap.size w w'
theorem GotU.stored {w w7 : World} {B : Nat} {a0 a1 a2 a3 : Value} {b : Tx} {u : Fm.U} {er : Int} {A : Option Addr} {m C : Nat} (hu : Fm.got b = u) (he : Fm.gotE b = er) (hB : B = w.heap.size) (hr : RdL w7 A u.load (B < ·)) (hm : m = u.load.length) (hc : m ≤ C) (hn : A = none → m = 0 ∧ C = 0) (hb : Below w.heap.size w w7) :
    GotU b w (.returned (.tuple #[.agg #[.int .i64 u.kind, .int .i64 u.label, .int .i64 u.number, .slice A m C], .int .i64 er])) ((((w7.setCell ⟨B, 0, none⟩ a0).setCell ⟨B, 1, none⟩ a1).setCell ⟨B, 2, none⟩ a2).setCell ⟨B, 3, none⟩ a3) := by
  subst hB
  have hk : Kp (· = w.heap.size) w7 ((((w7.setCell ⟨w.heap.size, 0, none⟩ a0).setCell ⟨w.heap.size, 1, none⟩ a1).setCell ⟨w.heap.size, 2, none⟩ a2).setCell ⟨w.heap.size, 3, none⟩ a3) := (((Kp.store _ _ _ _).trans (Kp.store _ _ _ _)).trans (Kp.store _ _ _ _)).trans (Kp.store _ _ _ _)
  exact ⟨A, m, C, by rw [hu, he], by rw [hu]; exact hm, hc, hn, by rw [hu]; exact (hr.kp hk (fun x hx hx' => by omega)).mono (fun x hx => by omega), hb.trans (hk.below hb.size (fun x hx => by omega))⟩
set_option maxHeartbeats 4000000 in
theorem frameGet_any (A : Option Addr) (b : Tx) (L C : Nat) (G : Nat → Prop) (w : World) (hL : L = b.length) (hC : L ≤ C) (hl : L ≤ 1000000) (hA : A = none → L = 0 ∧ C = 0) (hr : RdL w A b G) :
    Calls Tryz.prog 62 #[.slice A L C] w (GotU b w) := by
  have HB0 : Hid (Below w.heap.size w (w.alloc (unitObj 0 0 0 none 0 0))) := Lib.hid ((Below.refl _ _).alloc (Nat.le_refl _) _)
  have HR := Lib.hid hr
  have HL := Lib.hid hL
  have HN := Lib.hid (read_any A b L C G (w.alloc (unitObj 0 0 0 none 0 0)) hL hC hl hA (hr.old HB0.out))
  unfold unitObj at HN
  obtain ⟨er, her⟩ : ∃ er, er = Fm.err (Fm.parse b) := ⟨_, rfl⟩
  obtain ⟨k, lb, nb, s, hu⟩ : ∃ k lb nb s, Fm.parse b = ⟨k, lb, nb, s⟩ := ⟨_, _, _, _, rfl⟩
  rw [hu] at HN
  have HU := Lib.hid hu
  have HE := Lib.hid her
  clear hL hA hr hu her
  by_cases he : er = 0
  · subst he
    have hok : Fm.Ok (Fm.parse b) := Fm.err_zero.1 HE.out.symm
    by_cases hg : Fm.blk (Fm.parse b) = b
    · have heq : (Fm.put (Fm.parse b) == b) = true := by rw [Fm.put_ok hok, hg]; simp
      have HGE := Lib.hid (Fm.gotE_yes ⟨hok, hg⟩)
      have HG := Lib.hid (Fm.got_yes ⟨hok, hg⟩)
      rw [HU.out] at heq HG
      have HE2 := Lib.hid (HU.out ▸ HE.out)
      clear hok hg HE
      go_enter Tryz.func62, Tryz.ntmps62
      go_wp2_with fail
      refine HN.out.mono ?_
      rintro e w1 ⟨A1, m1, C1, rfl, hm1, hc1, hn1, hr1, hb1⟩
      have HB1 := Lib.hid (HB0.out.trans (hb1.mono HB0.out.size))
      have HZ1 : Hid (w1.heap[w.heap.size]? = some (unitObj 0 0 0 none 0 0)) := Lib.hid ((hb1.block _ (by simp)).trans (Go.Deep.blk_alloc_new _ _))
      have HR1 : Hid (RdL w1 A1 s (w.heap.size < ·)) := Lib.hid (hr1.mono fun x hx => by simp at hx; omega)
      have HM1 : Hid (m1 = s.length) := Lib.hid hm1
      have HN1 := Lib.hid hn1
      have hB2 : Below w1.heap.size w1 (w1.alloc (unitObj k lb nb A1 m1 C1)) := (Below.refl _ _).alloc (Nat.le_refl _) _
      have HU2 : Hid ((w1.alloc (unitObj k lb nb A1 m1 C1)).heap[w1.heap.size]? = some (unitObj k lb nb A1 m1 C1)) := Lib.hid (Go.Deep.blk_alloc_new _ _)
      have HZ2 := Lib.hid ((hB2.block _ (heap_lt HZ1.out)).trans HZ1.out)
      have HR2 := Lib.hid (HR1.out.old hB2)
      have HB2 := Lib.hid (HB1.out.trans (hB2.mono HB1.out.size))
      clear hm1 hn1 hr1 hb1 hB2
      go_wp2_with fail
      refine (framePut_any k lb nb A1 s m1 C1 _ _ HM1.out HN1.out HR2.out).mono ?_
      rintro e w3 ⟨A3, n3, C3, rfl, hn3, hc3, -, ha3, hr3, hb3⟩
      have hb3' : Below (w1.alloc (unitObj k lb nb A1 m1 C1)).heap.size (w1.alloc (unitObj k lb nb A1 m1 C1)) w3 := hb3
      have HU3 := Lib.hid ((hb3'.block _ (heap_lt HU2.out)).trans HU2.out)
      have HZ3 := Lib.hid ((hb3'.block _ (heap_lt HZ2.out)).trans HZ2.out)
      have HS3 := Lib.hid (HR2.out.old hb3')
      have HB3 := Lib.hid (HB2.out.trans (hb3'.mono HB2.out.size))
      have HR3 := Lib.hid hr3
      have HN3 := Lib.hid hn3
      clear hb3 hb3' hr3 hn3 hc3 ha3 HU2 HZ2 HR2 HB2 HZ1 HR1 HB1
      obtain ⟨u0, u1, u2, u3⟩ := unit4 HU3.out
      obtain ⟨z0, z1, z2, z3⟩ := unit4 HZ3.out
      have y0 : w3.frozen? ⟨w.heap.size, 0, none⟩ = false := heap_frozen HZ3.out
      have y1 : w3.frozen? ⟨w.heap.size, 1, none⟩ = false := heap_frozen HZ3.out
      have y2 : w3.frozen? ⟨w.heap.size, 2, none⟩ = false := heap_frozen HZ3.out
      have y3 : w3.frozen? ⟨w.heap.size, 3, none⟩ = false := heap_frozen HZ3.out
      rw [← HE2.out]
      go_wp2_with fail
      refine (equal_any A3 A _ b n3 L C3 C _ _ w3 HN3.out HL.out HR3.out (HR.out.old HB3.out)).mono ?_
      rw [heq]
      rintro e w4 ⟨rfl, hw4⟩
      subst hw4
      go_wp2
      exact bodyPost_ret (v := .tuple #[.agg #[.int .i64 k, .int .i64 lb, .int .i64 nb, .slice A1 m1 C1], .int .i64 0]) (by simp [results, Tryz.results62, go_sem, z0, z1, z2, z3]) rfl (GotU.stored (u := ⟨k, lb, nb, s⟩) HG.out HGE.out rfl HS3.out HM1.out hc1 HN1.out HB3.out)
    · have heq : (Fm.put (Fm.parse b) == b) = false := by rw [Fm.put_ok hok]; simpa using hg
      have HGE := Lib.hid (Fm.gotE_no (b := b) fun h => hg h.2)
      have HG := Lib.hid (Fm.got_no (b := b) fun h => hg h.2)
      rw [HU.out] at heq
      have HE2 := Lib.hid (HU.out ▸ HE.out)
      clear hok hg HE
      go_enter Tryz.func62, Tryz.ntmps62
      go_wp2_with fail
      refine HN.out.mono ?_
      rintro e w1 ⟨A1, m1, C1, rfl, hm1, hc1, hn1, hr1, hb1⟩
      have HB1 := Lib.hid (HB0.out.trans (hb1.mono HB0.out.size))
      have HZ1 : Hid (w1.heap[w.heap.size]? = some (unitObj 0 0 0 none 0 0)) := Lib.hid ((hb1.block _ (by simp)).trans (Go.Deep.blk_alloc_new _ _))
      have HR1 : Hid (RdL w1 A1 s (w.heap.size < ·)) := Lib.hid (hr1.mono fun x hx => by simp at hx; omega)
      have HM1 : Hid (m1 = s.length) := Lib.hid hm1
      have HN1 := Lib.hid hn1
      have hB2 : Below w1.heap.size w1 (w1.alloc (unitObj k lb nb A1 m1 C1)) := (Below.refl _ _).alloc (Nat.le_refl _) _
      have HU2 : Hid ((w1.alloc (unitObj k lb nb A1 m1 C1)).heap[w1.heap.size]? = some (unitObj k lb nb A1 m1 C1)) := Lib.hid (Go.Deep.blk_alloc_new _ _)
      have HZ2 := Lib.hid ((hB2.block _ (heap_lt HZ1.out)).trans HZ1.out)
      have HR2 := Lib.hid (HR1.out.old hB2)
      have HB2 := Lib.hid (HB1.out.trans (hB2.mono HB1.out.size))
      clear hm1 hn1 hr1 hb1 hB2
      go_wp2_with fail
      refine (framePut_any k lb nb A1 s m1 C1 _ _ HM1.out HN1.out HR2.out).mono ?_
      rintro e w3 ⟨A3, n3, C3, rfl, hn3, hc3, -, ha3, hr3, hb3⟩
      have hb3' : Below (w1.alloc (unitObj k lb nb A1 m1 C1)).heap.size (w1.alloc (unitObj k lb nb A1 m1 C1)) w3 := hb3
      have HU3 := Lib.hid ((hb3'.block _ (heap_lt HU2.out)).trans HU2.out)
      have HZ3 := Lib.hid ((hb3'.block _ (heap_lt HZ2.out)).trans HZ2.out)
      have HS3 := Lib.hid (HR2.out.old hb3')
      have HB3 := Lib.hid (HB2.out.trans (hb3'.mono HB2.out.size))
      have HR3 := Lib.hid hr3
      have HN3 := Lib.hid hn3
      clear hb3 hb3' hr3 hn3 hc3 ha3 HU2 HZ2 HR2 HB2 HZ1 HR1 HB1
      obtain ⟨u0, u1, u2, u3⟩ := unit4 HU3.out
      obtain ⟨z0, z1, z2, z3⟩ := unit4 HZ3.out
      have y0 : w3.frozen? ⟨w.heap.size, 0, none⟩ = false := heap_frozen HZ3.out
      have y1 : w3.frozen? ⟨w.heap.size, 1, none⟩ = false := heap_frozen HZ3.out
      have y2 : w3.frozen? ⟨w.heap.size, 2, none⟩ = false := heap_frozen HZ3.out
      have y3 : w3.frozen? ⟨w.heap.size, 3, none⟩ = false := heap_frozen HZ3.out
      rw [← HE2.out]
      go_wp2_with fail
      refine (equal_any A3 A _ b n3 L C3 C _ _ w3 HN3.out HL.out HR3.out (HR.out.old HB3.out)).mono ?_
      rw [heq]
      rintro e w4 ⟨rfl, hw4⟩
      subst hw4
      go_wp2
      exact bodyPost_ret (v := .tuple #[.agg #[.int .i64 0, .int .i64 0, .int .i64 0, .slice none 0 0], .int .i64 2]) (by simp [results, Tryz.results62, go_sem, z0, z1, z2, z3]) rfl (GotU.stored (u := Fm.zero) HG.out HGE.out rfl (RdL.empty _ _ _) rfl (Nat.le_refl _) (fun _ => ⟨rfl, rfl⟩) HB3.out)
  · have hno : ¬ Fm.Good b := fun h => he (HE.out.trans (Fm.err_ok h.1))
    have HGE := Lib.hid (Fm.gotE_no hno)
    have HG := Lib.hid (Fm.got_no hno)
    have q1 : (er == 0) = false := beq_eq_false_iff_ne.2 he
    have q2 : (er != 0) = true := bne_iff_ne.2 he
    have HE2 := Lib.hid (HU.out ▸ HE.out)
    clear hno he HE
    go_enter Tryz.func62, Tryz.ntmps62
    go_wp2_with fail
    refine HN.out.mono ?_
    rintro e w1 ⟨A1, m1, C1, rfl, hm1, hc1, hn1, hr1, hb1⟩
    have HB1 := Lib.hid (HB0.out.trans (hb1.mono HB0.out.size))
    have HZ1 : Hid (w1.heap[w.heap.size]? = some (unitObj 0 0 0 none 0 0)) := Lib.hid ((hb1.block _ (by simp)).trans (Go.Deep.blk_alloc_new _ _))
    have HR1 : Hid (RdL w1 A1 s (w.heap.size < ·)) := Lib.hid (hr1.mono fun x hx => by simp at hx; omega)
    have HM1 : Hid (m1 = s.length) := Lib.hid hm1
    have HN1 := Lib.hid hn1
    have hB2 : Below w1.heap.size w1 (w1.alloc (unitObj k lb nb A1 m1 C1)) := (Below.refl _ _).alloc (Nat.le_refl _) _
    have HU2 : Hid ((w1.alloc (unitObj k lb nb A1 m1 C1)).heap[w1.heap.size]? = some (unitObj k lb nb A1 m1 C1)) := Lib.hid (Go.Deep.blk_alloc_new _ _)
    have HZ2 := Lib.hid ((hB2.block _ (heap_lt HZ1.out)).trans HZ1.out)
    have HR2 := Lib.hid (HR1.out.old hB2)
    have HB2 := Lib.hid (HB1.out.trans (hB2.mono HB1.out.size))
    clear hm1 hn1 hr1 hb1 hB2
    go_wp2_with fail
    refine (framePut_any k lb nb A1 s m1 C1 _ _ HM1.out HN1.out HR2.out).mono ?_
    rintro e w3 ⟨A3, n3, C3, rfl, hn3, hc3, -, ha3, hr3, hb3⟩
    have hb3' : Below (w1.alloc (unitObj k lb nb A1 m1 C1)).heap.size (w1.alloc (unitObj k lb nb A1 m1 C1)) w3 := hb3
    have HU3 := Lib.hid ((hb3'.block _ (heap_lt HU2.out)).trans HU2.out)
    have HZ3 := Lib.hid ((hb3'.block _ (heap_lt HZ2.out)).trans HZ2.out)
    have HS3 := Lib.hid (HR2.out.old hb3')
    have HB3 := Lib.hid (HB2.out.trans (hb3'.mono HB2.out.size))
    have HR3 := Lib.hid hr3
    have HN3 := Lib.hid hn3
    clear hb3 hb3' hr3 hn3 hc3 ha3 HU2 HZ2 HR2 HB2 HZ1 HR1 HB1
    obtain ⟨u0, u1, u2, u3⟩ := unit4 HU3.out
    obtain ⟨z0, z1, z2, z3⟩ := unit4 HZ3.out
    have y0 : w3.frozen? ⟨w.heap.size, 0, none⟩ = false := heap_frozen HZ3.out
    have y1 : w3.frozen? ⟨w.heap.size, 1, none⟩ = false := heap_frozen HZ3.out
    have y2 : w3.frozen? ⟨w.heap.size, 2, none⟩ = false := heap_frozen HZ3.out
    have y3 : w3.frozen? ⟨w.heap.size, 3, none⟩ = false := heap_frozen HZ3.out
    rw [← HE2.out]
    go_wp2
    exact bodyPost_ret (v := .tuple #[.agg #[.int .i64 0, .int .i64 0, .int .i64 0, .slice none 0 0], .int .i64 2]) (by simp [results, Tryz.results62, go_sem, z0, z1, z2, z3]) rfl (GotU.stored (u := Fm.zero) HG.out HGE.out rfl (RdL.empty _ _ _) rfl (Nat.le_refl _) (fun _ => ⟨rfl, rfl⟩) HB3.out)
end Go.Proofs.YtcokmmanajdioaaGreat
namespace Go.Proofs.YtcokmmanajdioaaGreat
open Go.RowKit
open Pt (Tx)

/-- block n, if it is good, for whatever n -/
def Vo.goodZ (t : Vo.T) (n : Int) : Option Fm.U := if n < 0 then none else Vo.good t n.toNat
/-- what is answered for it -/
def unitOf (o : Option Fm.U) : Fm.U := o.getD Fm.zero
def GoodA (o : Option Fm.U) (w : World) (e : Ending) (w' : World) : Prop :=
  ∃ A m C, e = .returned (.tuple #[.agg #[.int .i64 (unitOf o).kind, .int .i64 (unitOf o).label, .int .i64 (unitOf o).number, .slice A m C], .bool o.isSome]) ∧ m = (unitOf o).load.length ∧ m ≤ C ∧ (A = none → m = 0 ∧ C = 0) ∧ RdL w' A (unitOf o).load (w.heap.size ≤ ·) ∧ Below w.heap.size w w'
theorem GoodA.stored {w w7 : World} {B : Nat} {a0 a1 a2 a3 : Value} {o : Option Fm.U} {u : Fm.U} {b : Bool} {A : Option Addr} {m C : Nat} (hu : unitOf o = u) (he : o.isSome = b) (hB : w.heap.size ≤ B) (hr : RdL w7 A u.load (fun x => w.heap.size ≤ x ∧ x ≠ B)) (hm : m = u.load.length) (hc : m ≤ C) (hn : A = none → m = 0 ∧ C = 0) (hb : Below w.heap.size w w7) :
    GoodA o w (.returned (.tuple #[.agg #[.int .i64 u.kind, .int .i64 u.label, .int .i64 u.number, .slice A m C], .bool b])) ((((w7.setCell ⟨B, 0, none⟩ a0).setCell ⟨B, 1, none⟩ a1).setCell ⟨B, 2, none⟩ a2).setCell ⟨B, 3, none⟩ a3) := by
  have hk : Kp (· = B) w7 ((((w7.setCell ⟨B, 0, none⟩ a0).setCell ⟨B, 1, none⟩ a1).setCell ⟨B, 2, none⟩ a2).setCell ⟨B, 3, none⟩ a3) := (((Kp.store _ _ _ _).trans (Kp.store _ _ _ _)).trans (Kp.store _ _ _ _)).trans (Kp.store _ _ _ _)
  exact ⟨A, m, C, by rw [hu, he], by rw [hu]; exact hm, hc, hn, by rw [hu]; exact (hr.kp hk (fun x hx hx' => hx.2 hx')).mono (fun x hx => hx.1), hb.trans (hk.below hb.size (fun x hx => by omega))⟩
theorem goodZ_no {lab : Int} {bs : List Tx} {lost : Bool} {n : Int} (h : lost = true ∨ n < 0 ∨ (bs.length : Int) ≤ n) : Vo.goodZ ⟨lab, bs, lost⟩ n = none := by
  unfold Vo.goodZ
  split
  · rfl
  · rcases h with h | h | h
    · exact Vo.good_lost h _
    · omega
    · exact Vo.good_end (t := ⟨lab, bs, lost⟩) (by show bs.length ≤ _; omega)
theorem good_is {lab : Int} {bs : List Tx} {n : Nat} (h : n < bs.length) : Vo.good ⟨lab, bs, false⟩ n = if Fm.Good bs[n] ∧ (Fm.parse bs[n]).label = lab ∧ (Fm.parse bs[n]).number = (n : Int) then some (Fm.parse bs[n]) else none := by
  unfold Vo.good
  rw [if_neg (show ¬ (false = true) by decide)]
  show (match bs[n]? with | none => none | some b => if Fm.Good b ∧ (Fm.parse b).label = lab ∧ (Fm.parse b).number = (n : Int) then some (Fm.parse b) else none) = _
  rw [List.getElem?_eq_getElem h]
/-- a tape's block, and an answer's behind it -/
theorem two_blocks {w wb : World} {o1 o2 : Obj} (h : wb = (w.alloc o1).alloc o2) : Below w.heap.size w wb ∧ wb.heap[w.heap.size]? = some o1 ∧ wb.heap[w.heap.size + 1]? = some o2 := by
  have hb1 : Below w.heap.size w (w.alloc o1) := (Below.refl _ _).alloc (Nat.le_refl _) _
  have h1 : (w.alloc o1).heap[w.heap.size]? = some o1 := Go.Deep.blk_alloc_new _ _
  have h2 := Go.Deep.blk_alloc_new (w.alloc o1) o2
  rw [show (w.alloc o1).heap.size = w.heap.size + 1 by simp] at h2
  subst h
  exact ⟨hb1.alloc hb1.size _, (Below.heap_alloc _ _ _ (heap_lt h1)).trans h1, h2⟩
set_option maxHeartbeats 400000 in
theorem good_out (lab cap : Int) (bs : List Tx) (A : Option Addr) (L C : Nat) (lost : Bool) (n : Int) (w : World) (hL : L = bs.length) (h : lost = true ∨ n < 0 ∨ (bs.length : Int) ≤ n) :
    Calls Tryz.prog 51 #[.agg #[.int .i64 lab, .int .i64 cap, .slice A L C, .bool lost], .int .i64 n] w (GoodA (Vo.goodZ ⟨lab, bs, lost⟩ n) w) := by
  have HG := Lib.hid (goodZ_no (lab := lab) h)
  obtain ⟨wb, hwb⟩ : ∃ wb, wb = (w.alloc (tapeObj lab cap A L C lost)).alloc (unitObj 0 0 0 none 0 0) := ⟨_, rfl⟩
  obtain ⟨hB, hT, hU⟩ := two_blocks hwb
  have HB := Lib.hid hB
  have HU := Lib.hid hU
  have HT := Lib.hid hT
  have HW := Lib.hid hwb
  unfold tapeObj unitObj at HW
  obtain ⟨t0, t1, t2, t3⟩ := tape4 hT
  obtain ⟨z0, z1, z2, z3⟩ := unit4 hU
  rw [hwb] at t0 t1 t2 t3
  rw [← hL] at h
  clear hB hT hU hwb hL
  have hq : lost = true ∨ (lost = false ∧ decide (n < 0) = true) ∨ (lost = false ∧ decide (n < 0) = false ∧ decide ((L : Int) ≤ n) = true) := by
    cases lost with
    | true => exact .inl rfl
    | false =>
      refine .inr ?_
      by_cases h0 : n < 0
      · exact .inl ⟨rfl, decide_eq_true h0⟩
      · exact .inr ⟨rfl, decide_eq_false h0, decide_eq_true (by rcases h with h | h | h; · cases h
                                                                · exact absurd h h0
                                                                · exact h)⟩
  clear h
  rcases hq with rfl | ⟨rfl, q1⟩ | ⟨rfl, q1, q2⟩
  all_goals
    go_enter Tryz.func51, Tryz.ntmps51
    go_wp2_with fail
    rw [← HW.out]
    refine bodyPost_ret (v := .tuple #[.agg #[.int .i64 0, .int .i64 0, .int .i64 0, .slice none 0 0], .bool false]) (by simp [results, Tryz.results51, go_sem, z0, z1, z2, z3]) rfl ?_
    rw [HG.out]
    exact ⟨none, 0, 0, rfl, rfl, Nat.le_refl _, fun _ => ⟨rfl, rfl⟩, RdL.empty _ _ _, HB.out⟩
set_option maxHeartbeats 4000000 in
theorem good_in (lab cap : Int) (bs : List Tx) (A : Option Addr) (L C : Nat) (G : Nat → Prop) (n : Nat) (w : World) (hL : L = bs.length) (hr : RdB w A bs G) (hn : n < bs.length) (hl : ∀ s ∈ bs, s.length ≤ 1000000) :
    Calls Tryz.prog 51 #[.agg #[.int .i64 lab, .int .i64 cap, .slice A L C, .bool false], .int .i64 n] w (GoodA (Vo.good ⟨lab, bs, false⟩ n) w) := by
  obtain ⟨b, off, A1, C1, rfl, hg1, hc1, hC1, hN1, hr1⟩ := hr.at_ hn
  obtain ⟨s, hsd⟩ : ∃ s, s = bs[n] := ⟨_, rfl⟩
  have hsl : s.length ≤ 1000000 := by rw [hsd]; exact hl _ (List.getElem_mem hn)
  have HG := Lib.hid (good_is (lab := lab) hn)
  rw [← hsd] at HG hc1 hC1 hN1 hr1
  obtain ⟨S, hS⟩ : ∃ S, S = s.length := ⟨_, rfl⟩
  rw [← hS] at hc1 hC1 hN1 hsl
  obtain ⟨wb, hwb⟩ : ∃ wb, wb = (w.alloc (tapeObj lab cap (some ⟨b, off, none⟩) L C false)).alloc (unitObj 0 0 0 none 0 0) := ⟨_, rfl⟩
  obtain ⟨hB, hT, hU⟩ := two_blocks hwb
  have hcb : wb.cell? ⟨b, off + n, none⟩ = some (.slice A1 S C1) := (hB.cell (World.block_lt_of_cell? _ _ hc1)).trans hc1
  have HGET := Lib.hid (frameGet_any A1 s S C1 G wb hS hC1 hsl hN1 (hr1.old hB))
  have HB := Lib.hid hB
  have HU := Lib.hid hU
  have HT := Lib.hid hT
  have HW := Lib.hid hwb
  unfold tapeObj unitObj at HW
  obtain ⟨t0, t1, t2, t3⟩ := tape4 hT
  have q1 : decide ((n : Int) < 0) = false := decide_eq_false (by omega)
  have q2 : decide ((L : Int) ≤ (n : Int)) = false := decide_eq_false (by omega)
  have q3 : decide (L ≤ n) = false := decide_eq_false (by omega)
  have q4 : n < L := by omega
  obtain ⟨ge, hge⟩ : ∃ ge, ge = Fm.gotE s := ⟨_, rfl⟩
  obtain ⟨k, lb, nb, ld, hu⟩ : ∃ k lb nb ld, Fm.got s = ⟨k, lb, nb, ld⟩ := ⟨_, _, _, _, rfl⟩
  unfold GotU at HGET
  rw [hu, ← hge] at HGET
  have hcase : (ge = 0 ∧ lb = lab ∧ nb = (n : Int) ∧ Vo.good ⟨lab, bs, false⟩ n = some ⟨k, lb, nb, ld⟩) ∨ (Vo.good ⟨lab, bs, false⟩ n = none ∧ ((ge != 0) = true ∨ ((ge != 0) = false ∧ (lb != lab) = true) ∨ ((ge != 0) = false ∧ (lb != lab) = false ∧ (nb != (n : Int)) = true))) := by
    have h := HG.out
    by_cases hgd : Fm.Good s
    · rw [Fm.gotE_yes hgd] at hge
      rw [Fm.got_yes hgd] at hu
      rw [hu] at h
      by_cases h1 : lb = lab
      · by_cases h2 : nb = (n : Int)
        · refine .inl ⟨hge, h1, h2, ?_⟩
          rw [h, if_pos ⟨hgd, h1, h2⟩]
        · refine .inr ⟨?_, .inr (.inr ⟨by rw [hge]; rfl, by rw [h1]; simp, by simpa using h2⟩)⟩
          rw [h, if_neg fun h' => h2 h'.2.2]
      · refine .inr ⟨?_, .inr (.inl ⟨by rw [hge]; rfl, by simpa using h1⟩)⟩
        rw [h, if_neg fun h' => h1 h'.2.1]
    · rw [Fm.gotE_no hgd] at hge
      refine .inr ⟨?_, .inl (by rw [hge]; rfl)⟩
      rw [h, if_neg fun h' => hgd h'.1]
  clear HG hg1 hc1 hC1 hN1 hr1 hS hsl hu hge hr hl hL hn hB hT hU hsd
  rcases hcase with ⟨rfl, rfl, hnb, hres⟩ | ⟨hres, hq⟩
  · have HRES := Lib.hid hres
    have hq5 : (nb != (n : Int)) = false := by simp [hnb]
    clear hres hnb
    rw [HW.out] at t0 t1 t2 t3 hcb
    go_enter Tryz.func51, Tryz.ntmps51
    go_wp2_with fail
    rw [← HW.out]
    refine HGET.out.mono ?_
    rintro e w1 ⟨A2, m2, C2, rfl, hm2, hc2, hn2, hr2, hb2⟩
    obtain ⟨wc, hwc⟩ : ∃ wc, wc = w1.alloc (unitObj k lb nb A2 m2 C2) := ⟨_, rfl⟩
    have hb3 : Below w1.heap.size w1 wc := by rw [hwc]; exact (Below.refl _ _).alloc (Nat.le_refl _) _
    have hbc := hb2.trans (hb3.mono hb2.size)
    have hY : wc.heap[w1.heap.size]? = some (unitObj k lb nb A2 m2 C2) := by rw [hwc]; exact Go.Deep.blk_alloc_new _ _
    have hZ := (hbc.block _ (heap_lt HU.out)).trans HU.out
    have hT3 := below_tape hbc HT.out
    obtain ⟨t0', t1', t2', t3'⟩ := tape4 hT3
    obtain ⟨z0, z1, z2, z3⟩ := unit4 hZ
    obtain ⟨x0, x1, x2, x3⟩ := unit4 hY
    have y0 : wc.frozen? ⟨w.heap.size + 1, 0, none⟩ = false := heap_frozen hZ
    have y1 : wc.frozen? ⟨w.heap.size + 1, 1, none⟩ = false := heap_frozen hZ
    have y2 : wc.frozen? ⟨w.heap.size + 1, 2, none⟩ = false := heap_frozen hZ
    have y3 : wc.frozen? ⟨w.heap.size + 1, 3, none⟩ = false := heap_frozen hZ
    have HR2 : Hid (RdL wc A2 ld (fun x => w.heap.size ≤ x ∧ x ≠ w.heap.size + 1)) := Lib.hid ((hr2.old hb3).mono fun x hx => by
      have h1 : w.heap.size + 2 ≤ wb.heap.size := by have := heap_lt HU.out; omega
      have h2 : wb.heap.size ≤ x := hx
      omega)
    have HB3 := Lib.hid (HB.out.trans (hbc.mono HB.out.size))
    have HM2 := Lib.hid hm2
    have HN2 := Lib.hid hn2
    have HWC := Lib.hid hwc
    unfold unitObj at HWC
    obtain ⟨y, hy⟩ : ∃ y, y = w1.heap.size := ⟨_, rfl⟩
    rw [← hy] at x0 x1 x2 x3
    have HY := Lib.hid hy
    have hZ2 := Lib.hid hZ
    clear hb2 hb3 hbc hZ hT3 hr2 hm2 hn2 hwc hY hy t0 t1 t2 t3 x0 x1 x2 x3
    rw [HWC.out] at z0 z1 z2 z3 y0 y1 y2 y3 t0' t1' t2' t3'
    go_wp2
    rw [← HWC.out]
    clear z0 z1 z2 z3
    obtain ⟨z0, z1, z2, z3⟩ := unit4 hZ2.out
    exact bodyPost_ret (v := .tuple #[.agg #[.int .i64 k, .int .i64 lb, .int .i64 nb, .slice A2 m2 C2], .bool true]) (by simp [results, Tryz.results51, go_sem, z0, z1, z2, z3]) rfl (GoodA.stored (u := ⟨k, lb, nb, ld⟩) (by rw [HRES.out]; rfl) (by rw [HRES.out]; rfl) (by omega) HR2.out HM2.out hc2 HN2.out HB3.out)
  · have HRES := Lib.hid hres
    clear hres
    rw [HW.out] at t0 t1 t2 t3 hcb
    rcases hq with p1 | ⟨p1, p2⟩ | ⟨p1, p2, p3⟩
    all_goals
      go_enter Tryz.func51, Tryz.ntmps51
      go_wp2_with fail
      rw [← HW.out]
      refine HGET.out.mono ?_
      rintro e w1 ⟨A2, m2, C2, rfl, hm2, hc2, hn2, hr2, hb2⟩
      obtain ⟨wc, hwc⟩ : ∃ wc, wc = w1.alloc (unitObj k lb nb A2 m2 C2) := ⟨_, rfl⟩
      have hb3 : Below w1.heap.size w1 wc := by rw [hwc]; exact (Below.refl _ _).alloc (Nat.le_refl _) _
      have hbc := hb2.trans (hb3.mono hb2.size)
      have hY : wc.heap[w1.heap.size]? = some (unitObj k lb nb A2 m2 C2) := by rw [hwc]; exact Go.Deep.blk_alloc_new _ _
      have hZ := (hbc.block _ (heap_lt HU.out)).trans HU.out
      have hT3 := below_tape hbc HT.out
      obtain ⟨t0', t1', t2', t3'⟩ := tape4 hT3
      obtain ⟨z0, z1, z2, z3⟩ := unit4 hZ
      obtain ⟨x0, x1, x2, x3⟩ := unit4 hY
      have y0 : wc.frozen? ⟨w.heap.size + 1, 0, none⟩ = false := heap_frozen hZ
      have y1 : wc.frozen? ⟨w.heap.size + 1, 1, none⟩ = false := heap_frozen hZ
      have y2 : wc.frozen? ⟨w.heap.size + 1, 2, none⟩ = false := heap_frozen hZ
      have y3 : wc.frozen? ⟨w.heap.size + 1, 3, none⟩ = false := heap_frozen hZ
      have HR2 : Hid (RdL wc A2 ld (fun x => w.heap.size ≤ x ∧ x ≠ w.heap.size + 1)) := Lib.hid ((hr2.old hb3).mono fun x hx => by
        have h1 : w.heap.size + 2 ≤ wb.heap.size := by have := heap_lt HU.out; omega
        have h2 : wb.heap.size ≤ x := hx
        omega)
      have HB3 := Lib.hid (HB.out.trans (hbc.mono HB.out.size))
      have HM2 := Lib.hid hm2
      have HN2 := Lib.hid hn2
      have HWC := Lib.hid hwc
      unfold unitObj at HWC
      obtain ⟨y, hy⟩ : ∃ y, y = w1.heap.size := ⟨_, rfl⟩
      rw [← hy] at x0 x1 x2 x3
      have HY := Lib.hid hy
      have hZ2 := Lib.hid hZ
      clear hb2 hb3 hbc hZ hT3 hr2 hm2 hn2 hwc hY hy t0 t1 t2 t3 x0 x1 x2 x3
      rw [HWC.out] at z0 z1 z2 z3 y0 y1 y2 y3 t0' t1' t2' t3'
      go_wp2
      rw [← HWC.out]
      clear z0 z1 z2 z3
      obtain ⟨z0, z1, z2, z3⟩ := unit4 hZ2.out
      exact bodyPost_ret (v := .tuple #[.agg #[.int .i64 0, .int .i64 0, .int .i64 0, .slice none 0 0], .bool false]) (by simp [results, Tryz.results51, go_sem, z0, z1, z2, z3]) rfl (GoodA.stored (u := Fm.zero) (by rw [HRES.out]; rfl) (by rw [HRES.out]; rfl) (by omega) (RdL.empty _ _ _) rfl (Nat.le_refl _) (fun _ => ⟨rfl, rfl⟩) HB3.out)
theorem good_any (lab cap : Int) (bs : List Tx) (A : Option Addr) (L C : Nat) (G : Nat → Prop) (lost : Bool) (n : Int) (w : World) (hL : L = bs.length) (hr : RdB w A bs G) (hl : ∀ s ∈ bs, s.length ≤ 1000000) :
    Calls Tryz.prog 51 #[.agg #[.int .i64 lab, .int .i64 cap, .slice A L C, .bool lost], .int .i64 n] w (GoodA (Vo.goodZ ⟨lab, bs, lost⟩ n) w) := by
  by_cases h : lost = true ∨ n < 0 ∨ (bs.length : Int) ≤ n
  · exact good_out lab cap bs A L C lost n w hL h
  · have h1 : lost = false := by cases lost with
      | true => exact absurd (.inl rfl) h
      | false => rfl
    subst h1
    have h2 : 0 ≤ n ∧ n < (bs.length : Int) := by
      constructor
      · rcases Int.lt_or_le n 0 with h' | h'
        · exact absurd (.inr (.inl h')) h
        · exact h'
      · rcases Int.lt_or_le n (bs.length : Int) with h' | h'
        · exact h'
        · exact absurd (.inr (.inr h')) h
    obtain ⟨m, rfl⟩ : ∃ m : Nat, n = (m : Int) := ⟨n.toNat, by omega⟩
    have h3 : Vo.goodZ ⟨lab, bs, false⟩ (m : Int) = Vo.good ⟨lab, bs, false⟩ m := by
      unfold Vo.goodZ
      rw [if_neg (by omega)]; rfl
    rw [h3]
    exact good_in lab cap bs A L C G m w hL hr (by omega) hl
end Go.Proofs.YtcokmmanajdioaaGreat
namespace Go.Proofs.YtcokmmanajdioaaGreat
open Go.RowKit
open Pt (Tx)

theorem mem_take_step {l : List Int} {k : Nat} (h : k < l.length) (x : Int) : x ∈ l.take (k + 1) ↔ x ∈ l.take k ∨ x = l[k] := by
  rw [List.take_succ_eq_append_getElem h, List.mem_append, List.mem_singleton]
/-- a place is told, or that there is none -/
def Found (b : Bool) (w : World) (e : Ending) (w' : World) : Prop := (∃ k : Int, e = .returned (.int .i64 k) ∧ decide (0 ≤ k) = b) ∧ w = w'
theorem index_any (A : Option Addr) (l : List Int) (n C : Nat) (x : Int) (G : Nat → Prop) (w : World) (hn : n = l.length) (hl : n ≤ maxLen) (hr : RdZ w A l G) :
    Calls Tryz.prog 30 #[.slice A n C, .int .i64 x] w (Found (decide (x ∈ l)) w) := by
  unfold maxLen at hl
  have HR := Lib.hid hr
  have HN := Lib.hid hn
  clear hr hn
  go_enter Tryz.func30, Tryz.ntmps30
  go_wp2
  go_loop [5, 8] (fun vs vi => ∃ k : Nat, k ≤ n ∧ vi = .int .i64 (k : Int) ∧ Hid (x ∉ l.take k)) (fun vs vi => n - (intOf vi).toNat)
  case atStart => exact ⟨0, Nat.zero_le _, rfl, Lib.hid (by simp)⟩
  case round =>
    obtain ⟨k, hk, rfl, HM⟩ := hrel
    by_cases hlt : k < n
    · have hlt' : k < l.length := by rw [← HN.out]; exact hlt
      obtain ⟨b, off, rfl, -, hc⟩ := HR.out.at_ hlt'
      have HS := Lib.hid (mem_take_step hlt' x)
      obtain ⟨y, hy⟩ : ∃ y, y = l[k] := ⟨_, rfl⟩
      rw [← hy] at hc HS
      have HY := Lib.hid (hy ▸ List.getElem_mem hlt')
      clear hy
      by_cases e : x = y
      · have q : (x == y) = true := beq_iff_eq.2 e
        have HX : Hid (x ∈ l) := Lib.hid (by rw [e]; exact HY.out)
        clear e
        go_wp2
        go_ret
        exact ⟨⟨(k : Int), rfl, by rw [decide_eq_true HX.out]; simp⟩, rfl⟩
      · have q : (x == y) = false := beq_eq_false_iff_ne.2 e
        have HX : Hid (x ∉ l.take (k + 1)) := Lib.hid fun h => (HS.out.1 h).elim HM.out e
        clear e
        go_wp2
        go_round
        case rel => exact ⟨k + 1, by omega, by go_num, HX⟩
        case measure => simp [intOf]; omega
    · have HX : Hid (x ∉ l) := Lib.hid (by have := HM.out; rwa [List.take_of_length_le (by rw [← HN.out]; omega)] at this)
      go_wp2
      go_ret
      exact ⟨⟨-1, rfl, by rw [decide_eq_false HX.out]; rfl⟩, rfl⟩
theorem contains_any (A : Option Addr) (l : List Int) (n C : Nat) (x : Int) (G : Nat → Prop) (w : World) (hn : n = l.length) (hl : n ≤ maxLen) (hr : RdZ w A l G) :
    Calls Tryz.prog 60 #[.slice A n C, .int .i64 x] w fun e w' => e = .returned (.bool (decide (x ∈ l))) ∧ w = w' := by
  have h := index_any A l n C x G w hn hl hr
  obtain ⟨d, hd⟩ : ∃ d, d = decide (x ∈ l) := ⟨_, rfl⟩
  rw [← hd] at h ⊢
  have H := Lib.hid h
  clear h hd hr hn hl
  go_enter Tryz.func60, Tryz.ntmps60
  go_wp2_with fail
  refine H.out.mono ?_
  rintro e w' ⟨⟨k, rfl, hk⟩, hw'⟩
  subst hw'
  go_wp2
  go_ret
  first | exact ⟨rfl, rfl⟩ | exact ⟨by rw [← hk]; rfl, rfl⟩
set_option maxHeartbeats 1000000 in
theorem labels_any (A : Option Addr) (l : List Int) (n C : Nat) (G : Nat → Prop) (w : World) (hn : n = l.length) (hl : n ≤ maxLen) (hC : n ≤ C) (hr : RdZ w A l G) :
    Calls Tryz.prog 48 #[.slice A n C] w fun e w' => e = .returned (.bool (decide (Rc.Labs l))) ∧ w = w' := by
  have HM := Lib.hid hl
  unfold maxLen at hl
  have HR := Lib.hid hr
  have HN := Lib.hid hn
  clear hr hn
  go_enter Tryz.func48, Tryz.ntmps48
  go_wp2
  go_loop [3, 4, 7] (fun va vb vi => ∃ k : Nat, k ≤ n ∧ vi = .int .i64 (k : Int) ∧ Hid (Rc.Labs (l.take k))) (fun va vb vi => n - (intOf vi).toNat)
  case atStart => exact ⟨0, Nat.zero_le _, rfl, Lib.hid Rc.Labs.nil⟩
  case round =>
    obtain ⟨k, hk, rfl, HK⟩ := hrel
    by_cases hlt : k < n
    · have hlt' : k < l.length := by rw [← HN.out]; exact hlt
      obtain ⟨b, off, rfl, -, hc⟩ := HR.out.at_ hlt'
      have HY := Lib.hid (Rc.labs_take hlt')
      have HZ : Hid (¬ ((1 ≤ l[k] ∧ l[k] ≤ 2147483647) ∧ l[k] ∉ l.take k) → decide (Rc.Labs l) = false) := Lib.hid fun h => decide_eq_false (Rc.labs_step_no hlt' h)
      have hlen : k = (l.take k).length := by rw [List.length_take]; omega
      have HT := Lib.hid (HR.out.take k)
      have HL := Lib.hid hlen
      obtain ⟨y, hy⟩ : ∃ y, y = l[k] := ⟨_, rfl⟩
      rw [← hy] at hc HY HZ
      clear hy hlen
      have hkc : (k : Int) ≤ (C : Int) := by omega
      cases q1 : btw y 1 2147483647 with
      | false =>
        have HF := Lib.hid (HZ.out fun h => by have := btw_no q1; omega)
        go_wp2_with (go_at_call 47; refine (between_any _ _ _ _).mono ?_; rintro e w' ⟨rfl, hw'⟩; subst hw')
        go_ret
        exact ⟨by rw [HF.out]; rfl, rfl⟩
      | true =>
        cases q2 : decide (y ∈ l.take k) with
        | true =>
          have HF := Lib.hid (HZ.out fun h => h.2 (of_decide_eq_true q2))
          have hcall := contains_any (some ⟨b, off, none⟩) (l.take k) k C y G w HL.out (by have := HM.out; omega) HT.out
          rw [q2] at hcall
          have HC := Lib.hid hcall
          clear hcall
          go_wp2_with (first
            | (go_at_call 47; refine (between_any _ _ _ _).mono ?_; rintro e w' ⟨rfl, hw'⟩; subst hw')
            | (go_at_call 60; refine HC.out.mono ?_; rintro e w' ⟨rfl, hw'⟩; subst hw'))
          go_ret
          exact ⟨by rw [HF.out]; rfl, rfl⟩
        | false =>
          have HX := Lib.hid (HY.out.2 ⟨HK.out, btw_yes q1, of_decide_eq_false q2⟩)
          have hcall := contains_any (some ⟨b, off, none⟩) (l.take k) k C y G w HL.out (by have := HM.out; omega) HT.out
          rw [q2] at hcall
          have HC := Lib.hid hcall
          clear hcall
          go_wp2_with (first
            | (go_at_call 47; refine (between_any _ _ _ _).mono ?_; rintro e w' ⟨rfl, hw'⟩; subst hw')
            | (go_at_call 60; refine HC.out.mono ?_; rintro e w' ⟨rfl, hw'⟩; subst hw'))
          go_round
          case rel => exact ⟨k + 1, by omega, by go_num, HX⟩
          case measure => simp [intOf]; omega
    · have HX : Hid (decide (Rc.Labs l) = true) := Lib.hid (decide_eq_true (by have := HK.out; rwa [List.take_of_length_le (by rw [← HN.out]; omega)] at this))
      go_wp2
      go_ret
      exact ⟨by rw [HX.out]; rfl, rfl⟩
/-- which seals are right, as RightSeal asks -/
def sealB (n x d p : Int) (m : Nat) (lb : Bool) : Bool :=
  btw n 1 1073741824 && (btw d 1 14 && (btw p 1 (14 - d) && (btw x 0 (d + p - 1) && (((m : Int) == d + p) && lb))))
theorem sealB_ok (n x d p : Int) (l : List Int) : sealB n x d p l.length (decide (Rc.Labs l)) = decide (Rc.SOk ⟨n, x, d, p, l⟩) := by
  rw [Bool.eq_iff_iff, decide_eq_true_eq]
  unfold sealB btw Rc.SOk Rc.SNums
  simp only [Bool.and_eq_true, decide_eq_true_eq, beq_iff_eq]
  constructor
  · rintro ⟨⟨h1, h2⟩, ⟨h3, h4⟩, ⟨h5, h6⟩, ⟨h7, h8⟩, h9, h10⟩
    exact ⟨⟨⟨h1, h2⟩, h3, h5, by omega, h9, h7, by omega⟩, h10⟩
  · rintro ⟨⟨⟨h1, h2⟩, h3, h5, h4, h9, h7, h8⟩, h10⟩
    exact ⟨⟨h1, h2⟩, ⟨h3, by omega⟩, ⟨h5, by omega⟩, ⟨h7, by omega⟩, h9, h10⟩
set_option maxHeartbeats 4000000 in
theorem rightSeal_way (n x d p : Int) (A : Option Addr) (l : List Int) (m C : Nat) (G : Nat → Prop) (w : World) (hm : m = l.length) (hC : m ≤ C) (hCm : C ≤ maxLen) (hr : RdZ w A l G) :
    Calls Tryz.prog 29 #[.agg #[.int .i64 n, .int .i64 x, .int .i64 d, .int .i64 p, .slice A m C]] w (AnsB (sealB n x d p m (decide (Rc.Labs l))) w) := by
  have HB0 : Hid (Below w.heap.size w (w.alloc (sealObj n x d p A m C))) := Lib.hid ((Below.refl _ _).alloc (Nat.le_refl _) _)
  have HU0 : Hid ((w.alloc (sealObj n x d p A m C)).heap[w.heap.size]? = some (sealObj n x d p A m C)) := Lib.hid (Go.Deep.blk_alloc_new _ _)
  have HL := Lib.hid (labels_any A l m C G (w.alloc (sealObj n x d p A m C)) hm (by omega) hC (hr.old HB0.out))
  clear hm hC hCm hr
  obtain ⟨a0, a1, a2, a3, a4⟩ := seal5 HU0.out
  unfold sealObj at a0 a1 a2 a3 a4 HL HB0
  cases q1 : btw n 1 1073741824 with
  | false =>
    have H : Hid (sealB n x d p m (decide (Rc.Labs l)) = false) := Lib.hid (by unfold sealB; rw [q1]; rfl)
    go_enter Tryz.func29, Tryz.ntmps29
    go_wp2_with (first
      | (go_at_call 47; refine (between_any _ _ _ _).mono ?_; rintro e w' ⟨rfl, hw'⟩; subst hw')
      | (go_at_call 48; refine HL.out.mono ?_; rintro e w' ⟨rfl, hw'⟩; subst hw'))
    go_ret
    rw [H.out]
    exact ⟨rfl, HB0.out⟩
  | true =>
    cases q2 : btw d 1 14 with
    | false =>
      have H : Hid (sealB n x d p m (decide (Rc.Labs l)) = false) := Lib.hid (by unfold sealB; rw [q1, q2]; rfl)
      go_enter Tryz.func29, Tryz.ntmps29
      go_wp2_with (first
        | (go_at_call 47; refine (between_any _ _ _ _).mono ?_; rintro e w' ⟨rfl, hw'⟩; subst hw')
        | (go_at_call 48; refine HL.out.mono ?_; rintro e w' ⟨rfl, hw'⟩; subst hw'))
      go_ret
      rw [H.out]
      exact ⟨rfl, HB0.out⟩
    | true =>
      have hd0 : 1 ≤ d := (btw_yes q2).1
      have hd1 : d ≤ 14 := (btw_yes q2).2
      cases q3 : btw p 1 (14 - d) with
      | false =>
        have H : Hid (sealB n x d p m (decide (Rc.Labs l)) = false) := Lib.hid (by unfold sealB; rw [q1, q2, q3]; rfl)
        go_enter Tryz.func29, Tryz.ntmps29
        go_wp2_with (first
          | (go_at_call 47; refine (between_any _ _ _ _).mono ?_; rintro e w' ⟨rfl, hw'⟩; subst hw')
          | (go_at_call 48; refine HL.out.mono ?_; rintro e w' ⟨rfl, hw'⟩; subst hw'))
        go_ret
        rw [H.out]
        exact ⟨rfl, HB0.out⟩
      | true =>
        have hp0 : 1 ≤ p := (btw_yes q3).1
        have hp1 : p ≤ 14 - d := (btw_yes q3).2
        cases q4 : btw x 0 (d + p - 1) with
        | false =>
          have H : Hid (sealB n x d p m (decide (Rc.Labs l)) = false) := Lib.hid (by unfold sealB; rw [q1, q2, q3, q4]; rfl)
          go_enter Tryz.func29, Tryz.ntmps29
          go_wp2_with (first
            | (go_at_call 47; refine (between_any _ _ _ _).mono ?_; rintro e w' ⟨rfl, hw'⟩; subst hw')
            | (go_at_call 48; refine HL.out.mono ?_; rintro e w' ⟨rfl, hw'⟩; subst hw'))
          go_ret
          rw [H.out]
          exact ⟨rfl, HB0.out⟩
        | true =>
          cases q5 : ((m : Int) == d + p) with
          | false =>
            have H : Hid (sealB n x d p m (decide (Rc.Labs l)) = false) := Lib.hid (by unfold sealB; rw [q1, q2, q3, q4, q5]; rfl)
            go_enter Tryz.func29, Tryz.ntmps29
            go_wp2_with (first
              | (go_at_call 47; refine (between_any _ _ _ _).mono ?_; rintro e w' ⟨rfl, hw'⟩; subst hw')
              | (go_at_call 48; refine HL.out.mono ?_; rintro e w' ⟨rfl, hw'⟩; subst hw'))
            go_ret
            rw [H.out]
            exact ⟨rfl, HB0.out⟩
          | true =>
            have H : Hid (sealB n x d p m (decide (Rc.Labs l)) = decide (Rc.Labs l)) := Lib.hid (by unfold sealB; rw [q1, q2, q3, q4, q5]; rfl)
            go_enter Tryz.func29, Tryz.ntmps29
            go_wp2_with (first
              | (go_at_call 47; refine (between_any _ _ _ _).mono ?_; rintro e w' ⟨rfl, hw'⟩; subst hw')
              | (go_at_call 48; refine HL.out.mono ?_; rintro e w' ⟨rfl, hw'⟩; subst hw'))
            go_ret
            rw [H.out]
            exact ⟨rfl, HB0.out⟩
theorem rightSeal_any (n x d p : Int) (A : Option Addr) (l : List Int) (m C : Nat) (G : Nat → Prop) (w : World) (hm : m = l.length) (hC : m ≤ C) (hCm : C ≤ maxLen) (hr : RdZ w A l G) :
    Calls Tryz.prog 29 #[.agg #[.int .i64 n, .int .i64 x, .int .i64 d, .int .i64 p, .slice A m C]] w (AnsB (decide (Rc.SOk ⟨n, x, d, p, l⟩)) w) := by
  have h := rightSeal_way n x d p A l m C G w hm hC hCm hr
  rw [hm, sealB_ok, ← hm] at h
  exact h
end Go.Proofs.YtcokmmanajdioaaGreat
