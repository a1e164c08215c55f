/- What the document's own GetFrame answers. -/
import Derived.Test.YtndofmoepjfnfaaGreatMay
import Derived.Test.YtndofmoepjfnfaaGreatMaz
import Derived.Test.YtndofmoepjfnfaaGreatMap
namespace Go.Proofs.YtndofmoepjfnfaaGreat
open Go.RowKit
open Pt (Tx)

set_option maxHeartbeats 4000000 in
theorem refGet_bad (A : Option Addr) (b : Tx) (L C : Nat) (G : Nat → Prop) (w : World) (hL : L = b.length) (hC : L ≤ C) (hCm : L ≤ maxLen) (hA : A = none → L = 0 ∧ C = 0) (hr : RdL w A b G) (hbad : (Fm.s5 b).2 = true) :
    Calls Tryz.prog 10 #[.slice A L C] w (GotU b w) := by
  have hng : ¬ Fm.Good b := fun h => by have := (Fm.good_not_bad h).1; rw [hbad] at this; cases this
  have HGE := Lib.hid (Fm.gotE_no hng)
  have HG := Lib.hid (Fm.got_no hng)
  have HBAD := Lib.hid hbad
  clear hng hbad
  have HB0 : Hid (Below w.heap.size w (w.alloc (unitObj 0 0 0 none 0 0))) := Lib.hid ((Below.refl _ _).alloc (Nat.le_refl _) _)
  have HZ0 : Hid ((w.alloc (unitObj 0 0 0 none 0 0)).heap[w.heap.size]? = some (unitObj 0 0 0 none 0 0)) := Lib.hid (Go.Deep.blk_alloc_new _ _)
  have HR : Hid (RdL w A b (· < w.heap.size)) := Lib.hid (hr.in_.mono fun _ h => h.2)
  have HN := Lib.hid (refNewReader_any A b C (· < w.heap.size) (w.alloc (unitObj 0 0 0 none 0 0)) (by rw [← hL]; exact hA) (by omega) (by rw [← hL]; exact hCm) (HR.out.old HB0.out) (by simp))
  unfold unitObj at HN
  rw [← hL] at HN
  have HL := Lib.hid hL
  obtain ⟨n0, hn0⟩ : ∃ n, n = (Cd.byt (b, false)).toNat := ⟨_, rfl⟩
  obtain ⟨n3, hn3⟩ : ∃ n, n = (Cd.byt (Fm.s3 b)).toNat := ⟨_, rfl⟩
  obtain ⟨n4, hn4⟩ : ∃ n, n = (Cd.byt (Fm.s4 b)).toNat := ⟨_, rfl⟩
  obtain ⟨l1, hl1⟩ : ∃ l, l = Cd.num (Cd.tk 4 (Fm.s1 b)) := ⟨_, rfl⟩
  obtain ⟨l2, hl2⟩ : ∃ l, l = Cd.num (Cd.tk 4 (Fm.s2 b)) := ⟨_, rfl⟩
  have k0 : n0 < 256 := by rw [hn0]; exact (Cd.byt (b, false)).toNat_lt
  have k3 : n3 < 256 := by rw [hn3]; exact (Cd.byt (Fm.s3 b)).toNat_lt
  have k4 : n4 < 256 := by rw [hn4]; exact (Cd.byt (Fm.s4 b)).toNat_lt
  obtain ⟨Z, hZ⟩ : ∃ Z, Z = Fm.sizeOf b := ⟨_, rfl⟩
  have hZ' : Z = 256 * n3 + n4 := by rw [hZ, hn3, hn4]; rfl
  have hZs : 256 * (n3 : Int) + (n4 : Int) = (Z : Int) := by omega
  have hZl : Z < 65536 := by omega
  have Hn0 := Lib.hid hn0
  have Hn3 := Lib.hid hn3
  have Hn4 := Lib.hid hn4
  have Hl1 := Lib.hid hl1
  have Hl2 := Lib.hid hl2
  have HZZ := Lib.hid hZ
  clear hL hr hA hn0 hn3 hn4 hl1 hl2 hZ hZ'
  go_enter Tryz.func10, Tryz.ntmps10
  go_wp2_with fail
  refine HN.out.mono ?_
  rintro e w1 ⟨rfl, hr1, hb1⟩
  obtain ⟨gr, hgr⟩ : ∃ gr, gr = (w.alloc (unitObj 0 0 0 none 0 0)).heap.size := ⟨_, rfl⟩
  have hgr' : gr = w.heap.size + 1 := by rw [hgr]; simp
  unfold unitObj at hgr
  rw [← hgr] at hr1 hb1 ⊢
  have HR1 : Hid (Rf w1 gr (b, false) (· < w.heap.size)) := Lib.hid hr1
  have HGR := Lib.hid hgr'
  have HB1 : Hid (Below w.heap.size w w1) := Lib.hid (HB0.out.trans (hb1.mono (by rw [hgr']; exact Nat.le_succ _)))
  have HZ1 : Hid (w1.heap[w.heap.size]? = some (unitObj 0 0 0 none 0 0)) := Lib.hid ((hb1.block _ (by omega)).trans HZ0.out)
  have HLO : Hid (w.heap.size ≤ gr) := Lib.hid (by omega)
  have HNE : Hid (¬ w.heap.size = gr) := Lib.hid (by omega)
  clear hr1 hb1 hgr hgr'
  go_wp2_with fail
  have hcall1 := refByte_any gr (b, false) _ w1 HR1.out
  rw [← Hn0.out] at hcall1
  refine hcall1.mono ?_
  clear hcall1
  rintro e w2 ⟨rfl, hr2, hk2⟩
  have HR2 : Hid (Rf w2 gr (Fm.s1 b) _) := Lib.hid hr2
  have HB2 := Lib.hid (HB1.out.trans (lo_g hk2 HB1.out.size HLO.out))
  have HZ2 := Lib.hid ((hk2.block _ (heap_lt HZ1.out) HNE.out).trans HZ1.out)
  clear hr2 hk2
  go_wp2_with fail
  have hcall2 := refInt_any gr (Fm.s1 b) _ w2 HR2.out
  rw [← Hl1.out] at hcall2
  refine hcall2.mono ?_
  clear hcall2
  rintro e w3 ⟨rfl, hr3, hk3⟩
  have HR3 : Hid (Rf w3 gr (Fm.s2 b) _) := Lib.hid hr3
  have HB3 := Lib.hid (HB2.out.trans (lo_g hk3 HB2.out.size HLO.out))
  have HZ3 := Lib.hid ((hk3.block _ (heap_lt HZ2.out) HNE.out).trans HZ2.out)
  clear hr3 hk3
  go_wp2_with fail
  have hcall3 := refInt_any gr (Fm.s2 b) _ w3 HR3.out
  rw [← Hl2.out] at hcall3
  refine hcall3.mono ?_
  clear hcall3
  rintro e w4 ⟨rfl, hr4, hk4⟩
  have HR4 : Hid (Rf w4 gr (Fm.s3 b) _) := Lib.hid hr4
  have HB4 := Lib.hid (HB3.out.trans (lo_g hk4 HB3.out.size HLO.out))
  have HZ4 := Lib.hid ((hk4.block _ (heap_lt HZ3.out) HNE.out).trans HZ3.out)
  clear hr4 hk4
  obtain ⟨wu, hwu⟩ : ∃ wu, wu = w4.alloc (unitObj (n0 : Int) l1 l2 none 0 0) := ⟨_, rfl⟩
  have hbu : Below w4.heap.size w4 wu := by rw [hwu]; exact (Below.refl _ _).alloc (Nat.le_refl _) _
  have HR4' : Hid (Rf wu gr (Fm.s3 b) (· < w.heap.size)) := Lib.hid (HR4.out.kp (S := fun _ => False) (Kp.of_below hbu) (fun h => h) (fun _ _ h => h))
  have HU4 : Hid (wu.heap[w4.heap.size]? = some (unitObj (n0 : Int) l1 l2 none 0 0)) := Lib.hid (by rw [hwu]; exact Go.Deep.blk_alloc_new _ _)
  have HZ4' := Lib.hid ((hbu.block _ (heap_lt HZ4.out)).trans HZ4.out)
  have HB4' := Lib.hid (HB4.out.trans (hbu.mono HB4.out.size))
  have HNU : Hid (¬ w4.heap.size = gr) := Lib.hid (by have := HR4.out.lt; omega)
  have HWU := Lib.hid hwu
  unfold unitObj at HWU
  clear hwu hbu
  go_wp2_with fail
  rw [← HWU.out]
  have hcall4 := refByte_any gr (Fm.s3 b) _ wu HR4'.out
  rw [← Hn3.out] at hcall4
  refine hcall4.mono ?_
  clear hcall4
  rintro e w5 ⟨rfl, hr5, hk5⟩
  have HR5 : Hid (Rf w5 gr (Fm.s4 b) _) := Lib.hid hr5
  have HB5 := Lib.hid (HB4'.out.trans (lo_g hk5 HB4'.out.size HLO.out))
  have HZ5 := Lib.hid ((hk5.block _ (heap_lt HZ4'.out) HNE.out).trans HZ4'.out)
  have HU5 := Lib.hid ((hk5.block _ (heap_lt HU4.out) HNU.out).trans HU4.out)
  clear hr5 hk5
  go_wp2_with fail
  have hcall5 := refByte_any gr (Fm.s4 b) _ w5 HR5.out
  rw [← Hn4.out] at hcall5
  refine hcall5.mono ?_
  clear hcall5
  rintro e w6 ⟨rfl, hr6, hk6⟩
  have HR6 : Hid (Rf w6 gr (Fm.s5 b) _) := Lib.hid hr6
  have HB6 := Lib.hid (HB5.out.trans (lo_g hk6 HB5.out.size HLO.out))
  have HZ6 := Lib.hid ((hk6.block _ (heap_lt HZ5.out) HNE.out).trans HZ5.out)
  have HU6 := Lib.hid ((hk6.block _ (heap_lt HU5.out) HNU.out).trans HU5.out)
  clear hr6 hk6
  go_wp2_with fail
  refine (refBad_any gr (Fm.s5 b) _ w6 HR6.out).mono ?_
  rintro e wv ⟨rfl, hwv⟩
  subst hwv
  rw [HBAD.out]
  obtain ⟨z0, z1, z2, z3⟩ := unit4 HZ6.out
  have y0 : w6.frozen? ⟨w.heap.size, 0, none⟩ = false := heap_frozen HZ6.out
  have y1 : w6.frozen? ⟨w.heap.size, 1, none⟩ = false := heap_frozen HZ6.out
  have y2 : w6.frozen? ⟨w.heap.size, 2, none⟩ = false := heap_frozen HZ6.out
  have y3 : w6.frozen? ⟨w.heap.size, 3, none⟩ = false := heap_frozen HZ6.out
  go_wp2
  exact bodyPost_ret (v := .tuple #[.agg #[.int .i64 0, .int .i64 0, .int .i64 0, .slice none 0 0], .int .i64 2]) (by simp [results, Tryz.results10, go_sem, z0, z1, z2, z3]) rfl (GotU.stored (u := Fm.zero) HG.out HGE.out rfl (RdL.empty _ _ _) rfl (Nat.le_refl _) (fun _ => ⟨rfl, rfl⟩) HB6.out)
set_option maxHeartbeats 4000000 in
theorem refGet_few (A : Option Addr) (b : Tx) (L C : Nat) (G : Nat → Prop) (w : World) (hL : L = b.length) (hC : L ≤ C) (hCm : L ≤ maxLen) (hA : A = none → L = 0 ∧ C = 0) (hr : RdL w A b G) (hbad : (Fm.s5 b).2 = false) (hfew : (Fm.s5 b).1.length < Fm.sizeOf b) :
    Calls Tryz.prog 10 #[.slice A L C] w (GotU b w) := by
  have hng : ¬ Fm.Good b := fun h => by have := (Fm.good_not_bad h).2; omega
  have HGE := Lib.hid (Fm.gotE_no hng)
  have HG := Lib.hid (Fm.got_no hng)
  have HBAD := Lib.hid hbad
  have HFEW := Lib.hid hfew
  clear hng hbad hfew
  have HB0 : Hid (Below w.heap.size w (w.alloc (unitObj 0 0 0 none 0 0))) := Lib.hid ((Below.refl _ _).alloc (Nat.le_refl _) _)
  have HZ0 : Hid ((w.alloc (unitObj 0 0 0 none 0 0)).heap[w.heap.size]? = some (unitObj 0 0 0 none 0 0)) := Lib.hid (Go.Deep.blk_alloc_new _ _)
  have HR : Hid (RdL w A b (· < w.heap.size)) := Lib.hid (hr.in_.mono fun _ h => h.2)
  have HN := Lib.hid (refNewReader_any A b C (· < w.heap.size) (w.alloc (unitObj 0 0 0 none 0 0)) (by rw [← hL]; exact hA) (by omega) (by rw [← hL]; exact hCm) (HR.out.old HB0.out) (by simp))
  unfold unitObj at HN
  rw [← hL] at HN
  have HL := Lib.hid hL
  obtain ⟨n0, hn0⟩ : ∃ n, n = (Cd.byt (b, false)).toNat := ⟨_, rfl⟩
  obtain ⟨n3, hn3⟩ : ∃ n, n = (Cd.byt (Fm.s3 b)).toNat := ⟨_, rfl⟩
  obtain ⟨n4, hn4⟩ : ∃ n, n = (Cd.byt (Fm.s4 b)).toNat := ⟨_, rfl⟩
  obtain ⟨l1, hl1⟩ : ∃ l, l = Cd.num (Cd.tk 4 (Fm.s1 b)) := ⟨_, rfl⟩
  obtain ⟨l2, hl2⟩ : ∃ l, l = Cd.num (Cd.tk 4 (Fm.s2 b)) := ⟨_, rfl⟩
  have k0 : n0 < 256 := by rw [hn0]; exact (Cd.byt (b, false)).toNat_lt
  have k3 : n3 < 256 := by rw [hn3]; exact (Cd.byt (Fm.s3 b)).toNat_lt
  have k4 : n4 < 256 := by rw [hn4]; exact (Cd.byt (Fm.s4 b)).toNat_lt
  obtain ⟨Z, hZ⟩ : ∃ Z, Z = Fm.sizeOf b := ⟨_, rfl⟩
  have hZ' : Z = 256 * n3 + n4 := by rw [hZ, hn3, hn4]; rfl
  have hZs : 256 * (n3 : Int) + (n4 : Int) = (Z : Int) := by omega
  have hZl : Z < 65536 := by omega
  have Hn0 := Lib.hid hn0
  have Hn3 := Lib.hid hn3
  have Hn4 := Lib.hid hn4
  have Hl1 := Lib.hid hl1
  have Hl2 := Lib.hid hl2
  have HZZ := Lib.hid hZ
  clear hL hr hA hn0 hn3 hn4 hl1 hl2 hZ hZ'
  go_enter Tryz.func10, Tryz.ntmps10
  go_wp2_with fail
  refine HN.out.mono ?_
  rintro e w1 ⟨rfl, hr1, hb1⟩
  obtain ⟨gr, hgr⟩ : ∃ gr, gr = (w.alloc (unitObj 0 0 0 none 0 0)).heap.size := ⟨_, rfl⟩
  have hgr' : gr = w.heap.size + 1 := by rw [hgr]; simp
  unfold unitObj at hgr
  rw [← hgr] at hr1 hb1 ⊢
  have HR1 : Hid (Rf w1 gr (b, false) (· < w.heap.size)) := Lib.hid hr1
  have HGR := Lib.hid hgr'
  have HB1 : Hid (Below w.heap.size w w1) := Lib.hid (HB0.out.trans (hb1.mono (by rw [hgr']; exact Nat.le_succ _)))
  have HZ1 : Hid (w1.heap[w.heap.size]? = some (unitObj 0 0 0 none 0 0)) := Lib.hid ((hb1.block _ (by omega)).trans HZ0.out)
  have HLO : Hid (w.heap.size ≤ gr) := Lib.hid (by omega)
  have HNE : Hid (¬ w.heap.size = gr) := Lib.hid (by omega)
  clear hr1 hb1 hgr hgr'
  go_wp2_with fail
  have hcall1 := refByte_any gr (b, false) _ w1 HR1.out
  rw [← Hn0.out] at hcall1
  refine hcall1.mono ?_
  clear hcall1
  rintro e w2 ⟨rfl, hr2, hk2⟩
  have HR2 : Hid (Rf w2 gr (Fm.s1 b) _) := Lib.hid hr2
  have HB2 := Lib.hid (HB1.out.trans (lo_g hk2 HB1.out.size HLO.out))
  have HZ2 := Lib.hid ((hk2.block _ (heap_lt HZ1.out) HNE.out).trans HZ1.out)
  clear hr2 hk2
  go_wp2_with fail
  have hcall2 := refInt_any gr (Fm.s1 b) _ w2 HR2.out
  rw [← Hl1.out] at hcall2
  refine hcall2.mono ?_
  clear hcall2
  rintro e w3 ⟨rfl, hr3, hk3⟩
  have HR3 : Hid (Rf w3 gr (Fm.s2 b) _) := Lib.hid hr3
  have HB3 := Lib.hid (HB2.out.trans (lo_g hk3 HB2.out.size HLO.out))
  have HZ3 := Lib.hid ((hk3.block _ (heap_lt HZ2.out) HNE.out).trans HZ2.out)
  clear hr3 hk3
  go_wp2_with fail
  have hcall3 := refInt_any gr (Fm.s2 b) _ w3 HR3.out
  rw [← Hl2.out] at hcall3
  refine hcall3.mono ?_
  clear hcall3
  rintro e w4 ⟨rfl, hr4, hk4⟩
  have HR4 : Hid (Rf w4 gr (Fm.s3 b) _) := Lib.hid hr4
  have HB4 := Lib.hid (HB3.out.trans (lo_g hk4 HB3.out.size HLO.out))
  have HZ4 := Lib.hid ((hk4.block _ (heap_lt HZ3.out) HNE.out).trans HZ3.out)
  clear hr4 hk4
  obtain ⟨wu, hwu⟩ : ∃ wu, wu = w4.alloc (unitObj (n0 : Int) l1 l2 none 0 0) := ⟨_, rfl⟩
  have hbu : Below w4.heap.size w4 wu := by rw [hwu]; exact (Below.refl _ _).alloc (Nat.le_refl _) _
  have HR4' : Hid (Rf wu gr (Fm.s3 b) (· < w.heap.size)) := Lib.hid (HR4.out.kp (S := fun _ => False) (Kp.of_below hbu) (fun h => h) (fun _ _ h => h))
  have HU4 : Hid (wu.heap[w4.heap.size]? = some (unitObj (n0 : Int) l1 l2 none 0 0)) := Lib.hid (by rw [hwu]; exact Go.Deep.blk_alloc_new _ _)
  have HZ4' := Lib.hid ((hbu.block _ (heap_lt HZ4.out)).trans HZ4.out)
  have HB4' := Lib.hid (HB4.out.trans (hbu.mono HB4.out.size))
  have HNU : Hid (¬ w4.heap.size = gr) := Lib.hid (by have := HR4.out.lt; omega)
  have HWU := Lib.hid hwu
  unfold unitObj at HWU
  clear hwu hbu
  go_wp2_with fail
  rw [← HWU.out]
  have hcall4 := refByte_any gr (Fm.s3 b) _ wu HR4'.out
  rw [← Hn3.out] at hcall4
  refine hcall4.mono ?_
  clear hcall4
  rintro e w5 ⟨rfl, hr5, hk5⟩
  have HR5 : Hid (Rf w5 gr (Fm.s4 b) _) := Lib.hid hr5
  have HB5 := Lib.hid (HB4'.out.trans (lo_g hk5 HB4'.out.size HLO.out))
  have HZ5 := Lib.hid ((hk5.block _ (heap_lt HZ4'.out) HNE.out).trans HZ4'.out)
  have HU5 := Lib.hid ((hk5.block _ (heap_lt HU4.out) HNU.out).trans HU4.out)
  clear hr5 hk5
  go_wp2_with fail
  have hcall5 := refByte_any gr (Fm.s4 b) _ w5 HR5.out
  rw [← Hn4.out] at hcall5
  refine hcall5.mono ?_
  clear hcall5
  rintro e w6 ⟨rfl, hr6, hk6⟩
  have HR6 : Hid (Rf w6 gr (Fm.s5 b) _) := Lib.hid hr6
  have HB6 := Lib.hid (HB5.out.trans (lo_g hk6 HB5.out.size HLO.out))
  have HZ6 := Lib.hid ((hk6.block _ (heap_lt HZ5.out) HNE.out).trans HZ5.out)
  have HU6 := Lib.hid ((hk6.block _ (heap_lt HU5.out) HNU.out).trans HU5.out)
  clear hr6 hk6
  go_wp2_with fail
  refine (refBad_any gr (Fm.s5 b) _ w6 HR6.out).mono ?_
  rintro e wv ⟨rfl, hwv⟩
  subst hwv
  rw [HBAD.out]
  go_wp2_with fail
  refine (refLeft_any gr (Fm.s5 b) _ w6 HR6.out).mono ?_
  rintro e wv ⟨rfl, hwv⟩
  subst hwv
  obtain ⟨Y, hY⟩ : ∃ Y, Y = (Fm.s5 b).1.length := ⟨_, rfl⟩
  rw [← hY]
  have hYZ : Y < Z := by rw [hY, HZZ.out]; exact HFEW.out
  have q1 : decide (Y < Z) = true := decide_eq_true hYZ
  have q2 : decide ((Y : Int) < (Z : Int)) = true := decide_eq_true (by omega)
  obtain ⟨z0, z1, z2, z3⟩ := unit4 HZ6.out
  have y0 : w6.frozen? ⟨w.heap.size, 0, none⟩ = false := heap_frozen HZ6.out
  have y1 : w6.frozen? ⟨w.heap.size, 1, none⟩ = false := heap_frozen HZ6.out
  have y2 : w6.frozen? ⟨w.heap.size, 2, none⟩ = false := heap_frozen HZ6.out
  have y3 : w6.frozen? ⟨w.heap.size, 3, none⟩ = false := heap_frozen HZ6.out
  go_wp2
  exact bodyPost_ret (v := .tuple #[.agg #[.int .i64 0, .int .i64 0, .int .i64 0, .slice none 0 0], .int .i64 2]) (by simp [results, Tryz.results10, go_sem, z0, z1, z2, z3]) rfl (GotU.stored (u := Fm.zero) HG.out HGE.out rfl (RdL.empty _ _ _) rfl (Nat.le_refl _) (fun _ => ⟨rfl, rfl⟩) HB6.out)
set_option maxHeartbeats 4000000 in
theorem refGet_all (A : Option Addr) (b : Tx) (L C : Nat) (G : Nat → Prop) (w : World) (hL : L = b.length) (hC : L ≤ C) (hCm : L ≤ maxLen) (hl : L ≤ 1000) (hA : A = none → L = 0 ∧ C = 0) (hr : RdL w A b G) (hbad : (Fm.s5 b).2 = false) (hfew : Fm.sizeOf b ≤ (Fm.s5 b).1.length) :
    Calls Tryz.prog 10 #[.slice A L C] w (GotU b w) := by
  have HBAD := Lib.hid hbad
  have HFEW := Lib.hid hfew
  clear hbad hfew
  have HB0 : Hid (Below w.heap.size w (w.alloc (unitObj 0 0 0 none 0 0))) := Lib.hid ((Below.refl _ _).alloc (Nat.le_refl _) _)
  have HZ0 : Hid ((w.alloc (unitObj 0 0 0 none 0 0)).heap[w.heap.size]? = some (unitObj 0 0 0 none 0 0)) := Lib.hid (Go.Deep.blk_alloc_new _ _)
  have HR : Hid (RdL w A b (· < w.heap.size)) := Lib.hid (hr.in_.mono fun _ h => h.2)
  have HN := Lib.hid (refNewReader_any A b C (· < w.heap.size) (w.alloc (unitObj 0 0 0 none 0 0)) (by rw [← hL]; exact hA) (by omega) (by rw [← hL]; exact hCm) (HR.out.old HB0.out) (by simp))
  unfold unitObj at HN
  rw [← hL] at HN
  have HL := Lib.hid hL
  obtain ⟨n0, hn0⟩ : ∃ n, n = (Cd.byt (b, false)).toNat := ⟨_, rfl⟩
  obtain ⟨n3, hn3⟩ : ∃ n, n = (Cd.byt (Fm.s3 b)).toNat := ⟨_, rfl⟩
  obtain ⟨n4, hn4⟩ : ∃ n, n = (Cd.byt (Fm.s4 b)).toNat := ⟨_, rfl⟩
  obtain ⟨l1, hl1⟩ : ∃ l, l = Cd.num (Cd.tk 4 (Fm.s1 b)) := ⟨_, rfl⟩
  obtain ⟨l2, hl2⟩ : ∃ l, l = Cd.num (Cd.tk 4 (Fm.s2 b)) := ⟨_, rfl⟩
  have k0 : n0 < 256 := by rw [hn0]; exact (Cd.byt (b, false)).toNat_lt
  have k3 : n3 < 256 := by rw [hn3]; exact (Cd.byt (Fm.s3 b)).toNat_lt
  have k4 : n4 < 256 := by rw [hn4]; exact (Cd.byt (Fm.s4 b)).toNat_lt
  obtain ⟨Z, hZ⟩ : ∃ Z, Z = Fm.sizeOf b := ⟨_, rfl⟩
  have hZ' : Z = 256 * n3 + n4 := by rw [hZ, hn3, hn4]; rfl
  have hZs : 256 * (n3 : Int) + (n4 : Int) = (Z : Int) := by omega
  have hZl : Z < 65536 := by omega
  have Hn0 := Lib.hid hn0
  have Hn3 := Lib.hid hn3
  have Hn4 := Lib.hid hn4
  have Hl1 := Lib.hid hl1
  have Hl2 := Lib.hid hl2
  have HZZ := Lib.hid hZ
  clear hL hr hA hn0 hn3 hn4 hl1 hl2 hZ hZ'
  go_enter Tryz.func10, Tryz.ntmps10
  go_wp2_with fail
  refine HN.out.mono ?_
  rintro e w1 ⟨rfl, hr1, hb1⟩
  obtain ⟨gr, hgr⟩ : ∃ gr, gr = (w.alloc (unitObj 0 0 0 none 0 0)).heap.size := ⟨_, rfl⟩
  have hgr' : gr = w.heap.size + 1 := by rw [hgr]; simp
  unfold unitObj at hgr
  rw [← hgr] at hr1 hb1 ⊢
  have HR1 : Hid (Rf w1 gr (b, false) (· < w.heap.size)) := Lib.hid hr1
  have HGR := Lib.hid hgr'
  have HB1 : Hid (Below w.heap.size w w1) := Lib.hid (HB0.out.trans (hb1.mono (by rw [hgr']; exact Nat.le_succ _)))
  have HZ1 : Hid (w1.heap[w.heap.size]? = some (unitObj 0 0 0 none 0 0)) := Lib.hid ((hb1.block _ (by omega)).trans HZ0.out)
  have HLO : Hid (w.heap.size ≤ gr) := Lib.hid (by omega)
  have HNE : Hid (¬ w.heap.size = gr) := Lib.hid (by omega)
  clear hr1 hb1 hgr hgr'
  go_wp2_with fail
  have hcall1 := refByte_any gr (b, false) _ w1 HR1.out
  rw [← Hn0.out] at hcall1
  refine hcall1.mono ?_
  clear hcall1
  rintro e w2 ⟨rfl, hr2, hk2⟩
  have HR2 : Hid (Rf w2 gr (Fm.s1 b) _) := Lib.hid hr2
  have HB2 := Lib.hid (HB1.out.trans (lo_g hk2 HB1.out.size HLO.out))
  have HZ2 := Lib.hid ((hk2.block _ (heap_lt HZ1.out) HNE.out).trans HZ1.out)
  clear hr2 hk2
  go_wp2_with fail
  have hcall2 := refInt_any gr (Fm.s1 b) _ w2 HR2.out
  rw [← Hl1.out] at hcall2
  refine hcall2.mono ?_
  clear hcall2
  rintro e w3 ⟨rfl, hr3, hk3⟩
  have HR3 : Hid (Rf w3 gr (Fm.s2 b) _) := Lib.hid hr3
  have HB3 := Lib.hid (HB2.out.trans (lo_g hk3 HB2.out.size HLO.out))
  have HZ3 := Lib.hid ((hk3.block _ (heap_lt HZ2.out) HNE.out).trans HZ2.out)
  clear hr3 hk3
  go_wp2_with fail
  have hcall3 := refInt_any gr (Fm.s2 b) _ w3 HR3.out
  rw [← Hl2.out] at hcall3
  refine hcall3.mono ?_
  clear hcall3
  rintro e w4 ⟨rfl, hr4, hk4⟩
  have HR4 : Hid (Rf w4 gr (Fm.s3 b) _) := Lib.hid hr4
  have HB4 := Lib.hid (HB3.out.trans (lo_g hk4 HB3.out.size HLO.out))
  have HZ4 := Lib.hid ((hk4.block _ (heap_lt HZ3.out) HNE.out).trans HZ3.out)
  clear hr4 hk4
  obtain ⟨wu, hwu⟩ : ∃ wu, wu = w4.alloc (unitObj (n0 : Int) l1 l2 none 0 0) := ⟨_, rfl⟩
  have hbu : Below w4.heap.size w4 wu := by rw [hwu]; exact (Below.refl _ _).alloc (Nat.le_refl _) _
  have HR4' : Hid (Rf wu gr (Fm.s3 b) (· < w.heap.size)) := Lib.hid (HR4.out.kp (S := fun _ => False) (Kp.of_below hbu) (fun h => h) (fun _ _ h => h))
  have HU4 : Hid (wu.heap[w4.heap.size]? = some (unitObj (n0 : Int) l1 l2 none 0 0)) := Lib.hid (by rw [hwu]; exact Go.Deep.blk_alloc_new _ _)
  have HZ4' := Lib.hid ((hbu.block _ (heap_lt HZ4.out)).trans HZ4.out)
  have HB4' := Lib.hid (HB4.out.trans (hbu.mono HB4.out.size))
  have HNU : Hid (¬ w4.heap.size = gr) := Lib.hid (by have := HR4.out.lt; omega)
  have HWU := Lib.hid hwu
  unfold unitObj at HWU
  clear hwu hbu
  go_wp2_with fail
  rw [← HWU.out]
  have hcall4 := refByte_any gr (Fm.s3 b) _ wu HR4'.out
  rw [← Hn3.out] at hcall4
  refine hcall4.mono ?_
  clear hcall4
  rintro e w5 ⟨rfl, hr5, hk5⟩
  have HR5 : Hid (Rf w5 gr (Fm.s4 b) _) := Lib.hid hr5
  have HB5 := Lib.hid (HB4'.out.trans (lo_g hk5 HB4'.out.size HLO.out))
  have HZ5 := Lib.hid ((hk5.block _ (heap_lt HZ4'.out) HNE.out).trans HZ4'.out)
  have HU5 := Lib.hid ((hk5.block _ (heap_lt HU4.out) HNU.out).trans HU4.out)
  clear hr5 hk5
  go_wp2_with fail
  have hcall5 := refByte_any gr (Fm.s4 b) _ w5 HR5.out
  rw [← Hn4.out] at hcall5
  refine hcall5.mono ?_
  clear hcall5
  rintro e w6 ⟨rfl, hr6, hk6⟩
  have HR6 : Hid (Rf w6 gr (Fm.s5 b) _) := Lib.hid hr6
  have HB6 := Lib.hid (HB5.out.trans (lo_g hk6 HB5.out.size HLO.out))
  have HZ6 := Lib.hid ((hk6.block _ (heap_lt HZ5.out) HNE.out).trans HZ5.out)
  have HU6 := Lib.hid ((hk6.block _ (heap_lt HU5.out) HNU.out).trans HU5.out)
  clear hr6 hk6
  go_wp2_with fail
  refine (refBad_any gr (Fm.s5 b) _ w6 HR6.out).mono ?_
  rintro e wv ⟨rfl, hwv⟩
  subst hwv
  rw [HBAD.out]
  go_wp2_with fail
  refine (refLeft_any gr (Fm.s5 b) _ w6 HR6.out).mono ?_
  rintro e wv ⟨rfl, hwv⟩
  subst hwv
  obtain ⟨Y, hY⟩ : ∃ Y, Y = (Fm.s5 b).1.length := ⟨_, rfl⟩
  rw [← hY]
  have hYL : Y ≤ L := by rw [hY, HL.out]; exact (Fm.s_len b).2.2.2.2
  have hYZ : Z ≤ Y := by rw [hY, HZZ.out]; exact HFEW.out
  have q1 : decide (Y < Z) = false := decide_eq_false (by omega)
  have q2 : decide ((Y : Int) < (Z : Int)) = false := decide_eq_false (by omega)
  clear hY
  go_wp2_with fail
  refine (refTakeN_any gr Z (Fm.s5 b) _ w6 HR6.out (by omega)).mono ?_
  rintro e w7 ⟨A7, C7, rfl, hr7, -, hk7, hn7⟩
  obtain ⟨s, hs⟩ : ∃ s, s = Cd.tk Z (Fm.s5 b) := ⟨_, rfl⟩
  obtain ⟨m, hm⟩ : ∃ m, m = s.length := ⟨_, rfl⟩
  rw [← hs, ← hm] at hn7
  rw [← hs] at hr7
  rw [← hs, ← hm]
  have hmZ : m ≤ 1000 := by rw [hm, hs]; exact Nat.le_trans (Cd.tk_le _ _) (by omega)
  have HB7 := Lib.hid (HB6.out.trans (lo_g hk7 HB6.out.size HLO.out))
  have HZ7 := Lib.hid ((hk7.block _ (heap_lt HZ6.out) HNE.out).trans HZ6.out)
  have HU7 := Lib.hid ((hk7.block _ (heap_lt HU6.out) HNU.out).trans HU6.out)
  have HM := Lib.hid hm
  obtain ⟨A8, C8, w8, hr8, hO8, hG8⟩ := ap_run w7 w7.heap.size (.slice none 0 0) [] (OwnL.nil _ _) A7 m C7 s _ hm.symm hn7 hr7 (by simp; omega) (Nat.le_refl _) m (by simp)
  have hb8 : Below w7.heap.size w7 w8 := ⟨hG8.os, hG8.tape, hG8.output, hG8.size, fun x hx => hG8.block x hx (fun e => by cases e)⟩
  have hZ8 := (hb8.block _ (heap_lt HZ7.out)).trans HZ7.out
  have hU8 := (hb8.block _ (heap_lt HU7.out)).trans HU7.out
  have hPAR : Fm.parse b = ⟨(n0 : Int), l1, l2, s⟩ := by
    rw [Fm.parse_full HBAD.out HFEW.out, hs, HZZ.out, Hn0.out, Hl1.out, Hl2.out]; rfl
  obtain ⟨X8, D8, e8, g1, -, g3, g4⟩ := hO8.rd
  injection e8 with x1 x2 x3
  subst x1 x3
  rw [List.nil_append] at g1 g3 g4
  rw [← hm] at g1 g3
  have HB8 := Lib.hid (HB7.out.trans (hb8.mono HB7.out.size))
  have hKs : Kp (· = w4.heap.size) w8 (w8.setCell ⟨w4.heap.size, 3, none⟩ (.slice A8 m C8)) := Kp.store _ _ _ _
  have hlt47 : w4.heap.size < w7.heap.size := heap_lt HU7.out
  have HU9 : Hid ((w8.setCell ⟨w4.heap.size, 3, none⟩ (.slice A8 m C8)).heap[w4.heap.size]? = some (unitObj (n0 : Int) l1 l2 A8 m C8)) := Lib.hid (by
    have := heap_set (j := 3) hU8 (.slice A8 m C8)
    simpa [unitObj] using this)
  have hz4 : w.heap.size < w4.heap.size := heap_lt HZ4.out
  have HZ9 := Lib.hid ((hKs.block _ (heap_lt hZ8) (by omega)).trans hZ8)
  have HR9 : Hid (RdL (w8.setCell ⟨w4.heap.size, 3, none⟩ (.slice A8 m C8)) A8 s (w7.heap.size ≤ ·)) := Lib.hid ((g4.kp hKs (fun x hx e => by omega)).mono fun x hx => hx.1)
  have HB9 := Lib.hid (HB8.out.trans (hKs.below HB8.out.size (fun x hx => by omega)))
  have HG1 := Lib.hid g1
  have HG3 := Lib.hid g3
  have v3 : w8.cell? ⟨w4.heap.size, 3, none⟩ = some (.slice none 0 0) := (unit4 hU8).2.2.2
  have v0 : w8.cell? ⟨w4.heap.size, 0, none⟩ = some (.int .i64 (n0 : Int)) := (unit4 hU8).1
  have v1 : w8.cell? ⟨w4.heap.size, 1, none⟩ = some (.int .i64 l1) := (unit4 hU8).2.1
  have v2 : w8.cell? ⟨w4.heap.size, 2, none⟩ = some (.int .i64 l2) := (unit4 hU8).2.2.1
  have vf : w8.frozen? ⟨w4.heap.size, 3, none⟩ = false := heap_frozen hU8
  have HS := Lib.hid hs
  have HLT := Lib.hid (Nat.lt_trans hz4 hlt47)
  clear hs hm hr7 hk7 hn7 hO8 hG8 hb8 hZ8 hU8 g1 g3 g4 hKs hz4 hlt47 x2
  obtain ⟨er, her⟩ : ∃ er, er = Fm.err (Fm.parse b) := ⟨_, rfl⟩
  rw [hPAR] at her
  have HPAR := Lib.hid hPAR
  have HE2 := Lib.hid her
  clear hPAR her
  go_wp2_with (at_builtin; refine Lib.wpList_append_run _ rfl _ _ _ _ rfl _ _ rfl rfl _ _ (hr8 _) ?_)
  refine (refPut_any (n0 : Int) l1 l2 A8 s m C8 _ _ HM.out HG3.out HR9.out).mono ?_
  rintro e w10 ⟨A10, n10, C10, rfl, hn10, -, -, -, hr10, hb10⟩
  have HU10 := Lib.hid ((hb10.block _ (heap_lt HU9.out)).trans HU9.out)
  have HZ10 := Lib.hid ((hb10.block _ (heap_lt HZ9.out)).trans HZ9.out)
  have HS10 := Lib.hid ((HR9.out.old hb10).mono fun x hx => (Nat.lt_of_lt_of_le HLT.out hx : w.heap.size < x))
  have HB10 := Lib.hid (HB9.out.trans (hb10.mono HB9.out.size))
  rw [← HE2.out]
  obtain ⟨x, hx⟩ : ∃ x, x = Fm.put ⟨(n0 : Int), l1, l2, s⟩ := ⟨_, rfl⟩
  rw [← hx] at hn10 hr10
  have hst1 := hr10.str C10
  rw [← hn10] at hst1
  have hst2 := ((HR.out.old HB10.out)).str C
  rw [← HL.out] at hst2
  have et1 := tx_toList x
  have et2 := tx_toList b
  have HX := Lib.hid hx
  clear hr10 hn10 hb10 hx v0 v1 v2 v3 vf hr8
  obtain ⟨u0, u1, u2, u3⟩ := unit4 HU10.out
  obtain ⟨z0, z1, z2, z3⟩ := unit4 HZ10.out
  have y0 : w10.frozen? ⟨w.heap.size, 0, none⟩ = false := heap_frozen HZ10.out
  have y1 : w10.frozen? ⟨w.heap.size, 1, none⟩ = false := heap_frozen HZ10.out
  have y2 : w10.frozen? ⟨w.heap.size, 2, none⟩ = false := heap_frozen HZ10.out
  have y3 : w10.frozen? ⟨w.heap.size, 3, none⟩ = false := heap_frozen HZ10.out
  by_cases he : er = 0
  · subst he
    have hok : Fm.Ok ⟨(n0 : Int), l1, l2, s⟩ := Fm.err_zero.1 HE2.out.symm
    by_cases hg : Fm.blk ⟨(n0 : Int), l1, l2, s⟩ = b
    · have heq : (x == b) = true := by rw [HX.out, Fm.put_ok hok, hg]; simp
      have heq' : (x != b) = false := by rw [HX.out, Fm.put_ok hok, hg]; simp
      have hgood : Fm.Good b := by unfold Fm.Good; rw [HPAR.out]; exact ⟨hok, hg⟩
      have HGE := Lib.hid (Fm.gotE_yes hgood)
      have HG : Hid (Fm.got b = ⟨(n0 : Int), l1, l2, s⟩) := Lib.hid ((Fm.got_yes hgood).trans HPAR.out)
      clear hok hg hgood
      go_wp2
      exact bodyPost_ret (v := .tuple #[.agg #[.int .i64 (n0 : Int), .int .i64 l1, .int .i64 l2, .slice A8 m C8], .int .i64 0]) (by simp [results, Tryz.results10, go_sem, z0, z1, z2, z3]) rfl (GotU.stored (u := ⟨(n0 : Int), l1, l2, s⟩) HG.out HGE.out rfl HS10.out HM.out HG1.out HG3.out HB10.out)
    · have heq : (x == b) = false := by rw [HX.out, Fm.put_ok hok]; simpa using hg
      have heq' : (x != b) = true := by rw [HX.out, Fm.put_ok hok]; simpa using hg
      have hno : ¬ Fm.Good b := fun h => hg (by have := h.2; rw [HPAR.out] at this; exact this)
      have HGE := Lib.hid (Fm.gotE_no hno)
      have HG := Lib.hid (Fm.got_no hno)
      clear hok hg hno
      go_wp2
      exact bodyPost_ret (v := .tuple #[.agg #[.int .i64 0, .int .i64 0, .int .i64 0, .slice none 0 0], .int .i64 2]) (by simp [results, Tryz.results10, go_sem, z0, z1, z2, z3]) rfl (GotU.stored (u := Fm.zero) HG.out HGE.out rfl (RdL.empty _ _ _) rfl (Nat.le_refl _) (fun _ => ⟨rfl, rfl⟩) HB10.out)
  · have hno : ¬ Fm.Good b := fun h => he (by have := Fm.err_ok h.1; rw [HPAR.out] at this; rw [HE2.out]; exact this)
    have HGE := Lib.hid (Fm.gotE_no hno)
    have HG := Lib.hid (Fm.got_no hno)
    have q5 : (er == 0) = false := beq_eq_false_iff_ne.2 he
    have q6 : (er != 0) = true := bne_iff_ne.2 he
    clear hno he
    go_wp2
    exact bodyPost_ret (v := .tuple #[.agg #[.int .i64 0, .int .i64 0, .int .i64 0, .slice none 0 0], .int .i64 2]) (by simp [results, Tryz.results10, go_sem, z0, z1, z2, z3]) rfl (GotU.stored (u := Fm.zero) HG.out HGE.out rfl (RdL.empty _ _ _) rfl (Nat.le_refl _) (fun _ => ⟨rfl, rfl⟩) HB10.out)
theorem refGet_len (A : Option Addr) (b : Tx) (L C : Nat) (G : Nat → Prop) (w : World) (hL : L = b.length) (hC : L ≤ C) (hl : L ≤ 1000) (hA : A = none → L = 0 ∧ C = 0) (hr : RdL w A b G) :
    Calls Tryz.prog 10 #[.slice A L C] w (GotU b w) := by
  have hCm : L ≤ maxLen := by unfold maxLen; omega
  cases hbad : (Fm.s5 b).2 with
  | true => exact refGet_bad A b L C G w hL hC hCm hA hr hbad
  | false =>
    rcases Nat.lt_or_ge (Fm.s5 b).1.length (Fm.sizeOf b) with h | h
    · exact refGet_few A b L C G w hL hC hCm hA hr hbad h
    · exact refGet_all A b L C G w hL hC hCm hl hA hr hbad h
theorem refGet_any (A : Option Addr) (b : Tx) (L C : Nat) (G : Nat → Prop) (w : World) (hL : L = b.length) (hC : L ≤ C) (_ : C ≤ maxLen) (hl : L ≤ 1000) (hA : A = none → L = 0 ∧ C = 0) (hr : RdL w A b G) :
    Calls Tryz.prog 10 #[.slice A L C] w (GotU b w) := by
  exact refGet_len A b L C G w hL hC hl hA hr
end Go.Proofs.YtndofmoepjfnfaaGreat
