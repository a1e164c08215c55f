/- What Get of package frame answers. -/
import Derived.Test.YtmonhgefmapiaaaFmRead
import Derived.Test.YtmonhgefmapiaaaFmEqual
namespace Go.Proofs.Ytmonhgefmapiaaa
open Go.RowKit
open Pt (Tx)

/-- what Get answers: unit and error -/
def GotU (b : Tx) (w : World) (e : Ending) (w' : World) : Prop :=
  ∃ A m C, e = .returned (.tuple #[.agg #[.int .i64 (Fm.got b).kind, .int .i64 (Fm.got b).label, .int .i64 (Fm.got b).number, .slice A m C], .int .i64 (Fm.gotE b)]) ∧ m = (Fm.got b).load.length ∧ m ≤ C ∧ (A = none → m = 0 ∧ C = 0) ∧ RdL w' A (Fm.got b).load (w.heap.size ≤ ·) ∧ Below w.heap.size w w'
theorem GotU.stored {w w7 : World} {B : Nat} {a0 a1 a2 a3 : Value} {b : Tx} {u : Fm.U} {er : Int} {A : Option Addr} {m C : Nat} (hu : Fm.got b = u) (he : Fm.gotE b = er) (hB : B = w.heap.size) (hr : RdL w7 A u.load (B < ·)) (hm : m = u.load.length) (hc : m ≤ C) (hn : A = none → m = 0 ∧ C = 0) (hb : Below w.heap.size w w7) :
    GotU b w (.returned (.tuple #[.agg #[.int .i64 u.kind, .int .i64 u.label, .int .i64 u.number, .slice A m C], .int .i64 er])) ((((w7.setCell ⟨B, 0, none⟩ a0).setCell ⟨B, 1, none⟩ a1).setCell ⟨B, 2, none⟩ a2).setCell ⟨B, 3, none⟩ a3) := by
  subst hB
  have hk : Kp (· = w.heap.size) w7 ((((w7.setCell ⟨w.heap.size, 0, none⟩ a0).setCell ⟨w.heap.size, 1, none⟩ a1).setCell ⟨w.heap.size, 2, none⟩ a2).setCell ⟨w.heap.size, 3, none⟩ a3) := (((Kp.store _ _ _ _).trans (Kp.store _ _ _ _)).trans (Kp.store _ _ _ _)).trans (Kp.store _ _ _ _)
  exact ⟨A, m, C, by rw [hu, he], by rw [hu]; exact hm, hc, hn, by rw [hu]; exact (hr.kp hk (fun x hx hx' => by omega)).mono (fun x hx => by omega), hb.trans (hk.below hb.size (fun x hx => by omega))⟩
set_option maxHeartbeats 4000000 in
theorem frameGet_any (A : Option Addr) (b : Tx) (L C : Nat) (G : Nat → Prop) (w : World) (hL : L = b.length) (hC : L ≤ C) (hl : L ≤ 1000000) (hA : A = none → L = 0 ∧ C = 0) (hr : RdL w A b G) :
    Calls Try.prog 10 #[.slice A L C] w (GotU b w) := by
  have HB0 : Hid (Below w.heap.size w (w.alloc (unitObj 0 0 0 none 0 0))) := Lib.hid ((Below.refl _ _).alloc (Nat.le_refl _) _)
  have HR := Lib.hid hr
  have HL := Lib.hid hL
  have HN := Lib.hid (read_any A b L C G (w.alloc (unitObj 0 0 0 none 0 0)) hL hC hl hA (hr.old HB0.out))
  unfold unitObj at HN
  obtain ⟨er, her⟩ : ∃ er, er = Fm.err (Fm.parse b) := ⟨_, rfl⟩
  obtain ⟨k, lb, nb, s, hu⟩ : ∃ k lb nb s, Fm.parse b = ⟨k, lb, nb, s⟩ := ⟨_, _, _, _, rfl⟩
  rw [hu] at HN
  have HU := Lib.hid hu
  have HE := Lib.hid her
  clear hL hA hr hu her
  by_cases he : er = 0
  · subst he
    have hok : Fm.Ok (Fm.parse b) := Fm.err_zero.1 HE.out.symm
    by_cases hg : Fm.blk (Fm.parse b) = b
    · have heq : (Fm.put (Fm.parse b) == b) = true := by rw [Fm.put_ok hok, hg]; simp
      have HGE := Lib.hid (Fm.gotE_yes ⟨hok, hg⟩)
      have HG := Lib.hid (Fm.got_yes ⟨hok, hg⟩)
      rw [HU.out] at heq HG
      have HE2 := Lib.hid (HU.out ▸ HE.out)
      clear hok hg HE
      go_enter Try.func10, Try.ntmps10
      go_wp2_with fail
      refine HN.out.mono ?_
      rintro e w1 ⟨A1, m1, C1, rfl, hm1, hc1, hn1, hr1, hb1⟩
      have HB1 := Lib.hid (HB0.out.trans (hb1.mono HB0.out.size))
      have HZ1 : Hid (w1.heap[w.heap.size]? = some (unitObj 0 0 0 none 0 0)) := Lib.hid ((hb1.block _ (by simp)).trans (Go.Deep.blk_alloc_new _ _))
      have HR1 : Hid (RdL w1 A1 s (w.heap.size < ·)) := Lib.hid (hr1.mono fun x hx => by simp at hx; omega)
      have HM1 : Hid (m1 = s.length) := Lib.hid hm1
      have HN1 := Lib.hid hn1
      have hB2 : Below w1.heap.size w1 (w1.alloc (unitObj k lb nb A1 m1 C1)) := (Below.refl _ _).alloc (Nat.le_refl _) _
      have HU2 : Hid ((w1.alloc (unitObj k lb nb A1 m1 C1)).heap[w1.heap.size]? = some (unitObj k lb nb A1 m1 C1)) := Lib.hid (Go.Deep.blk_alloc_new _ _)
      have HZ2 := Lib.hid ((hB2.block _ (heap_lt HZ1.out)).trans HZ1.out)
      have HR2 := Lib.hid (HR1.out.old hB2)
      have HB2 := Lib.hid (HB1.out.trans (hB2.mono HB1.out.size))
      clear hm1 hn1 hr1 hb1 hB2
      go_wp2_with fail
      refine (framePut_any k lb nb A1 s m1 C1 _ _ HM1.out HN1.out HR2.out).mono ?_
      rintro e w3 ⟨A3, n3, C3, rfl, hn3, hc3, -, ha3, hr3, hb3⟩
      have hb3' : Below (w1.alloc (unitObj k lb nb A1 m1 C1)).heap.size (w1.alloc (unitObj k lb nb A1 m1 C1)) w3 := hb3
      have HU3 := Lib.hid ((hb3'.block _ (heap_lt HU2.out)).trans HU2.out)
      have HZ3 := Lib.hid ((hb3'.block _ (heap_lt HZ2.out)).trans HZ2.out)
      have HS3 := Lib.hid (HR2.out.old hb3')
      have HB3 := Lib.hid (HB2.out.trans (hb3'.mono HB2.out.size))
      have HR3 := Lib.hid hr3
      have HN3 := Lib.hid hn3
      clear hb3 hb3' hr3 hn3 hc3 ha3 HU2 HZ2 HR2 HB2 HZ1 HR1 HB1
      obtain ⟨u0, u1, u2, u3⟩ := unit4 HU3.out
      obtain ⟨z0, z1, z2, z3⟩ := unit4 HZ3.out
      have y0 : w3.frozen? ⟨w.heap.size, 0, none⟩ = false := heap_frozen HZ3.out
      have y1 : w3.frozen? ⟨w.heap.size, 1, none⟩ = false := heap_frozen HZ3.out
      have y2 : w3.frozen? ⟨w.heap.size, 2, none⟩ = false := heap_frozen HZ3.out
      have y3 : w3.frozen? ⟨w.heap.size, 3, none⟩ = false := heap_frozen HZ3.out
      rw [← HE2.out]
      go_wp2_with fail
      refine (equal_any A3 A _ b n3 L C3 C _ _ w3 HN3.out HL.out HR3.out (HR.out.old HB3.out)).mono ?_
      rw [heq]
      rintro e w4 ⟨rfl, hw4⟩
      subst hw4
      go_wp2
      exact bodyPost_ret (v := .tuple #[.agg #[.int .i64 k, .int .i64 lb, .int .i64 nb, .slice A1 m1 C1], .int .i64 0]) (by simp [results, Try.results10, go_sem, z0, z1, z2, z3]) rfl (GotU.stored (u := ⟨k, lb, nb, s⟩) HG.out HGE.out rfl HS3.out HM1.out hc1 HN1.out HB3.out)
    · have heq : (Fm.put (Fm.parse b) == b) = false := by rw [Fm.put_ok hok]; simpa using hg
      have HGE := Lib.hid (Fm.gotE_no (b := b) fun h => hg h.2)
      have HG := Lib.hid (Fm.got_no (b := b) fun h => hg h.2)
      rw [HU.out] at heq
      have HE2 := Lib.hid (HU.out ▸ HE.out)
      clear hok hg HE
      go_enter Try.func10, Try.ntmps10
      go_wp2_with fail
      refine HN.out.mono ?_
      rintro e w1 ⟨A1, m1, C1, rfl, hm1, hc1, hn1, hr1, hb1⟩
      have HB1 := Lib.hid (HB0.out.trans (hb1.mono HB0.out.size))
      have HZ1 : Hid (w1.heap[w.heap.size]? = some (unitObj 0 0 0 none 0 0)) := Lib.hid ((hb1.block _ (by simp)).trans (Go.Deep.blk_alloc_new _ _))
      have HR1 : Hid (RdL w1 A1 s (w.heap.size < ·)) := Lib.hid (hr1.mono fun x hx => by simp at hx; omega)
      have HM1 : Hid (m1 = s.length) := Lib.hid hm1
      have HN1 := Lib.hid hn1
      have hB2 : Below w1.heap.size w1 (w1.alloc (unitObj k lb nb A1 m1 C1)) := (Below.refl _ _).alloc (Nat.le_refl _) _
      have HU2 : Hid ((w1.alloc (unitObj k lb nb A1 m1 C1)).heap[w1.heap.size]? = some (unitObj k lb nb A1 m1 C1)) := Lib.hid (Go.Deep.blk_alloc_new _ _)
      have HZ2 := Lib.hid ((hB2.block _ (heap_lt HZ1.out)).trans HZ1.out)
      have HR2 := Lib.hid (HR1.out.old hB2)
      have HB2 := Lib.hid (HB1.out.trans (hB2.mono HB1.out.size))
      clear hm1 hn1 hr1 hb1 hB2
      go_wp2_with fail
      refine (framePut_any k lb nb A1 s m1 C1 _ _ HM1.out HN1.out HR2.out).mono ?_
      rintro e w3 ⟨A3, n3, C3, rfl, hn3, hc3, -, ha3, hr3, hb3⟩
      have hb3' : Below (w1.alloc (unitObj k lb nb A1 m1 C1)).heap.size (w1.alloc (unitObj k lb nb A1 m1 C1)) w3 := hb3
      have HU3 := Lib.hid ((hb3'.block _ (heap_lt HU2.out)).trans HU2.out)
      have HZ3 := Lib.hid ((hb3'.block _ (heap_lt HZ2.out)).trans HZ2.out)
      have HS3 := Lib.hid (HR2.out.old hb3')
      have HB3 := Lib.hid (HB2.out.trans (hb3'.mono HB2.out.size))
      have HR3 := Lib.hid hr3
      have HN3 := Lib.hid hn3
      clear hb3 hb3' hr3 hn3 hc3 ha3 HU2 HZ2 HR2 HB2 HZ1 HR1 HB1
      obtain ⟨u0, u1, u2, u3⟩ := unit4 HU3.out
      obtain ⟨z0, z1, z2, z3⟩ := unit4 HZ3.out
      have y0 : w3.frozen? ⟨w.heap.size, 0, none⟩ = false := heap_frozen HZ3.out
      have y1 : w3.frozen? ⟨w.heap.size, 1, none⟩ = false := heap_frozen HZ3.out
      have y2 : w3.frozen? ⟨w.heap.size, 2, none⟩ = false := heap_frozen HZ3.out
      have y3 : w3.frozen? ⟨w.heap.size, 3, none⟩ = false := heap_frozen HZ3.out
      rw [← HE2.out]
      go_wp2_with fail
      refine (equal_any A3 A _ b n3 L C3 C _ _ w3 HN3.out HL.out HR3.out (HR.out.old HB3.out)).mono ?_
      rw [heq]
      rintro e w4 ⟨rfl, hw4⟩
      subst hw4
      go_wp2
      exact bodyPost_ret (v := .tuple #[.agg #[.int .i64 0, .int .i64 0, .int .i64 0, .slice none 0 0], .int .i64 2]) (by simp [results, Try.results10, go_sem, z0, z1, z2, z3]) rfl (GotU.stored (u := Fm.zero) HG.out HGE.out rfl (RdL.empty _ _ _) rfl (Nat.le_refl _) (fun _ => ⟨rfl, rfl⟩) HB3.out)
  · have hno : ¬ Fm.Good b := fun h => he (HE.out.trans (Fm.err_ok h.1))
    have HGE := Lib.hid (Fm.gotE_no hno)
    have HG := Lib.hid (Fm.got_no hno)
    have q1 : (er == 0) = false := beq_eq_false_iff_ne.2 he
    have q2 : (er != 0) = true := bne_iff_ne.2 he
    have HE2 := Lib.hid (HU.out ▸ HE.out)
    clear hno he HE
    go_enter Try.func10, Try.ntmps10
    go_wp2_with fail
    refine HN.out.mono ?_
    rintro e w1 ⟨A1, m1, C1, rfl, hm1, hc1, hn1, hr1, hb1⟩
    have HB1 := Lib.hid (HB0.out.trans (hb1.mono HB0.out.size))
    have HZ1 : Hid (w1.heap[w.heap.size]? = some (unitObj 0 0 0 none 0 0)) := Lib.hid ((hb1.block _ (by simp)).trans (Go.Deep.blk_alloc_new _ _))
    have HR1 : Hid (RdL w1 A1 s (w.heap.size < ·)) := Lib.hid (hr1.mono fun x hx => by simp at hx; omega)
    have HM1 : Hid (m1 = s.length) := Lib.hid hm1
    have HN1 := Lib.hid hn1
    have hB2 : Below w1.heap.size w1 (w1.alloc (unitObj k lb nb A1 m1 C1)) := (Below.refl _ _).alloc (Nat.le_refl _) _
    have HU2 : Hid ((w1.alloc (unitObj k lb nb A1 m1 C1)).heap[w1.heap.size]? = some (unitObj k lb nb A1 m1 C1)) := Lib.hid (Go.Deep.blk_alloc_new _ _)
    have HZ2 := Lib.hid ((hB2.block _ (heap_lt HZ1.out)).trans HZ1.out)
    have HR2 := Lib.hid (HR1.out.old hB2)
    have HB2 := Lib.hid (HB1.out.trans (hB2.mono HB1.out.size))
    clear hm1 hn1 hr1 hb1 hB2
    go_wp2_with fail
    refine (framePut_any k lb nb A1 s m1 C1 _ _ HM1.out HN1.out HR2.out).mono ?_
    rintro e w3 ⟨A3, n3, C3, rfl, hn3, hc3, -, ha3, hr3, hb3⟩
    have hb3' : Below (w1.alloc (unitObj k lb nb A1 m1 C1)).heap.size (w1.alloc (unitObj k lb nb A1 m1 C1)) w3 := hb3
    have HU3 := Lib.hid ((hb3'.block _ (heap_lt HU2.out)).trans HU2.out)
    have HZ3 := Lib.hid ((hb3'.block _ (heap_lt HZ2.out)).trans HZ2.out)
    have HS3 := Lib.hid (HR2.out.old hb3')
    have HB3 := Lib.hid (HB2.out.trans (hb3'.mono HB2.out.size))
    have HR3 := Lib.hid hr3
    have HN3 := Lib.hid hn3
    clear hb3 hb3' hr3 hn3 hc3 ha3 HU2 HZ2 HR2 HB2 HZ1 HR1 HB1
    obtain ⟨u0, u1, u2, u3⟩ := unit4 HU3.out
    obtain ⟨z0, z1, z2, z3⟩ := unit4 HZ3.out
    have y0 : w3.frozen? ⟨w.heap.size, 0, none⟩ = false := heap_frozen HZ3.out
    have y1 : w3.frozen? ⟨w.heap.size, 1, none⟩ = false := heap_frozen HZ3.out
    have y2 : w3.frozen? ⟨w.heap.size, 2, none⟩ = false := heap_frozen HZ3.out
    have y3 : w3.frozen? ⟨w.heap.size, 3, none⟩ = false := heap_frozen HZ3.out
    rw [← HE2.out]
    go_wp2
    exact bodyPost_ret (v := .tuple #[.agg #[.int .i64 0, .int .i64 0, .int .i64 0, .slice none 0 0], .int .i64 2]) (by simp [results, Try.results10, go_sem, z0, z1, z2, z3]) rfl (GotU.stored (u := Fm.zero) HG.out HGE.out rfl (RdL.empty _ _ _) rfl (Nat.le_refl _) (fun _ => ⟨rfl, rfl⟩) HB3.out)
end Go.Proofs.Ytmonhgefmapiaaa
