/- What RecordSeals answers: true. -/
import Derived.Test.YtdllkbjbklhigaaDoorRcAlive
import Derived.Test.YtdllkbjbklhigaaDoorScSame
import Derived.Test.YtdllkbjbklhigaaDoorRefScRead
import Derived.Deep.RegionHeld3
import Derived.Deep.DeepFit
namespace Go.Proofs.YtdllkbjbklhigaaDoor
open Go.RowKit
open Pt (Tx)

set_option maxHeartbeats 1000000 in
theorem seals_big (n i d p : Int) (A : Option Addr) (m C : Nat) (B : Option Addr) (L D : Nat) (w : World) (hk : Kept w) (h : 40 < m ∨ 300 < L) :
    Calls Tryd.prog 4 #[.agg #[.int .i64 n, .int .i64 i, .int .i64 d, .int .i64 p, .slice A m C], .slice B L D] w (AnsB true w) := by
  have HB0 : Hid (Below w.heap.size w (w.alloc (sealObj n i d p A m C))) := Lib.hid ((Below.refl _ _).alloc (Nat.le_refl _) _)
  have HU0 : Hid ((w.alloc (sealObj n i d p A m C)).heap[w.heap.size]? = some (sealObj n i d p A m C)) := Lib.hid (Go.Deep.blk_alloc_new _ _)
  have HC := Lib.hid (alive10_true _ (hk.old HB0.out))
  unfold sealObj at HC
  clear hk
  have hq : (decide (40 < (m : Int)) = true ∧ decide (40 < m) = true) ∨ (decide (40 < (m : Int)) = false ∧ decide (40 < m) = false ∧ decide (300 < (L : Int)) = true ∧ decide (300 < L) = true) := by
    simp only [decide_eq_true_eq, decide_eq_false_iff_not]; omega
  clear h
  rcases hq with ⟨q1, q2⟩ | ⟨q1, q2, q3, q4⟩
  all_goals
    go_enter Tryd.func4, Tryd.ntmps4
    go_wp2_with fail
    refine HC.out.mono ?_
    rintro e w1 ⟨rfl, hb1⟩
    obtain ⟨a0, a1, a2, a3, a4⟩ := seal5 (below_obj hb1 HU0.out)
    have HB1 := Lib.hid (HB0.out.trans (hb1.mono HB0.out.size))
    clear hb1
    go_wp2
    go_ret
    exact ⟨rfl, HB1.out⟩
set_option maxHeartbeats 8000000 in
theorem seals_main (n i d p : Int) (A : Option Addr) (l : List Int) (m C : Nat) (F : Nat → Prop) (B : Option Addr) (b : Tx) (L D : Nat) (G : Nat → Prop) (w : World) (hk : Kept w) (hm : m = l.length) (hC : m ≤ C) (hCm : C ≤ maxLen) (hrl : RdZ w A l F) (hL : L = b.length) (hB : B = none → L = 0 ∧ D = 0) (hD : L ≤ D) (hDm : D ≤ maxLen) (hr : RdL w B b G) (h : m ≤ 40) (h' : L ≤ 300) :
    Calls Tryd.prog 4 #[.agg #[.int .i64 n, .int .i64 i, .int .i64 d, .int .i64 p, .slice A m C], .slice B L D] w (AnsB true w) := by
  obtain ⟨wa, hwa⟩ : ∃ wa, wa = w.alloc (sealObj n i d p A m C) := ⟨_, rfl⟩
  have HB0 : Hid (Below w.heap.size w wa) := Lib.hid (by rw [hwa]; exact (Below.refl _ _).alloc (Nat.le_refl _) _)
  have HU0 : Hid (wa.heap[w.heap.size]? = some (sealObj n i d p A m C)) := Lib.hid (by rw [hwa]; exact Go.Deep.blk_alloc_new _ _)
  have HW := Lib.hid hwa
  unfold sealObj at HW
  clear hwa
  have p1 : decide (40 < (m : Int)) = false := decide_eq_false (by omega)
  have p2 : decide (300 < (L : Int)) = false := decide_eq_false (by omega)
  have p3 : decide (40 < m) = false := decide_eq_false (by omega)
  have p4 : decide (300 < L) = false := decide_eq_false (by omega)
  have HR0 : Hid (RdL wa B b G) := Lib.hid (hr.old HB0.out)
  have HS0 : Hid (RdZ wa A l F) := Lib.hid (hrl.old HB0.out)
  have HK := Lib.hid hk
  have HL := Lib.hid hL
  have HM := Lib.hid hm
  have HC := Lib.hid hC
  have HCm := Lib.hid hCm
  have HBN := Lib.hid hB
  have HDD := Lib.hid hD
  have HDm := Lib.hid hDm
  have HML : Hid (m ≤ maxLen) := Lib.hid (by omega)
  obtain ⟨ok, hok⟩ : ∃ ok, ok = decide (Rc.SOk ⟨n, i, d, p, l⟩) := ⟨_, rfl⟩
  obtain ⟨x, hx⟩ : ∃ x, x = Rc.sput ⟨n, i, d, p, l⟩ := ⟨_, rfl⟩
  obtain ⟨n', i', d', p', l', hu⟩ : ∃ n' i' d' p' l', Rc.sgot b = ⟨n', i', d', p', l'⟩ := ⟨_, _, _, _, _, rfl⟩
  obtain ⟨ge, hge⟩ : ∃ ge, ge = Rc.sgotE b := ⟨_, rfl⟩
  have hxl : x.length ≤ 63 := by rw [hx]; exact Rc.sput_le _
  have HOK := Lib.hid hok
  have HX := Lib.hid hx
  have HXL := Lib.hid hxl
  have HU := Lib.hid hu
  have HGE := Lib.hid hge
  clear hk hr hrl hL hm hC hCm hB hD hDm hok hx hxl hu hge
  go_enter Tryd.func4, Tryd.ntmps4
  go_wp2_with fail
  rw [← HW.out]
  refine (alive10_true wa (HK.out.old HB0.out)).mono ?_
  rintro e w1 ⟨rfl, hb1⟩
  have HU1 := Lib.hid (below_obj hb1 HU0.out)
  have HR1 := Lib.hid (HR0.out.old hb1)
  have HS1 := Lib.hid (HS0.out.old hb1)
  have HB1 := Lib.hid (HB0.out.trans (hb1.mono HB0.out.size))
  clear hb1
  obtain ⟨a0, a1, a2, a3, a4⟩ := seal5 HU1.out
  go_wp2_with fail
  clear p1 p2 p3 p4
  have hcall := refRightSeal_any n i d p A l m C F w1 HM.out HC.out HCm.out HS1.out
  rw [← HOK.out] at hcall
  refine hcall.mono ?_
  clear hcall
  rintro e w2 ⟨rfl, hb2⟩
  have HU2 := Lib.hid (below_obj hb2 HU1.out)
  have HR2 := Lib.hid (HR1.out.old hb2)
  have HS2 := Lib.hid (HS1.out.old hb2)
  have HB2 := Lib.hid (HB1.out.trans (hb2.mono HB1.out.size))
  clear hb2 a0 a1 a2 a3 a4
  obtain ⟨a0, a1, a2, a3, a4⟩ := seal5 HU2.out
  go_wp2_with fail
  have hcall := sealBytes_any n i d p A l m C F w2 HM.out HC.out HCm.out HS2.out
  rw [← HX.out] at hcall
  refine hcall.mono ?_
  clear hcall
  rintro e w3 ⟨A3, n3, C3, rfl, hn3, hc3, hm3, hz3, hr3, hb3⟩
  have HU3 := Lib.hid (below_obj hb3 HU2.out)
  have HR3 := Lib.hid (HR2.out.old hb3)
  have HS3 := Lib.hid (HS2.out.old hb3)
  have HB3 := Lib.hid (HB2.out.trans (hb3.mono HB2.out.size))
  have HX3 := Lib.hid hr3
  have HN3 := Lib.hid hn3
  have HZ3 := Lib.hid hz3
  have hn63 : n3 ≤ 63 := by rw [hn3]; exact HXL.out
  have HN63 := Lib.hid hn63
  clear hb3 hr3 hn3 hc3 hm3 hz3 hn63 a0 a1 a2 a3 a4
  obtain ⟨A4, C4, w4, hr4, hO4, hG4⟩ := ap_run w3 w3.heap.size (.slice none 0 0) [] (OwnL.nil _ _) B L D b _ HL.out.symm HBN.out HR3.out (by simp; omega) (Nat.le_refl _) L (by simp)
  have hb4 : Below w3.heap.size w3 w4 := ⟨hG4.os, hG4.tape, hG4.output, hG4.size, fun y hy => hG4.block y hy (fun e => by cases e)⟩
  obtain ⟨X4, D4, e4, g1, -, g3, g4⟩ := hO4.rd
  injection e4 with x1 x2 x3
  subst x1 x3
  rw [List.nil_append] at g1 g3 g4
  rw [← HL.out] at g1 g3
  have HB4 := Lib.hid (HB3.out.trans (hb4.mono HB3.out.size))
  have hget := readSeal_any A4 b L C4 _ w4 HL.out (by omega) g3 g4
  unfold GotS at hget
  rw [HU.out, ← HGE.out] at hget
  have HGET := Lib.hid hget
  have HU4 := Lib.hid (below_obj hb4 HU3.out)
  have HR4 := Lib.hid (HR3.out.old hb4)
  have HS4 := Lib.hid (HS3.out.old hb4)
  have HX4 := Lib.hid (HX3.out.old hb4)
  clear hb4 hO4 hG4 g1 g3 g4 x2 hget
  go_wp2_with (at_builtin; refine Lib.wpList_append_run _ rfl _ _ _ _ rfl _ _ rfl rfl _ _ (hr4 _) ?_)
  refine HGET.out.mono ?_
  rintro e w5 ⟨Ay, my, Cy, rfl, hmy, hcy, hcmy, -, hry, hb5⟩
  obtain ⟨wy, hwy⟩ : ∃ wy, wy = w5.alloc (sealObj n' i' d' p' Ay my Cy) := ⟨_, rfl⟩
  have hb5' : Below w5.heap.size w5 wy := by rw [hwy]; exact (Below.refl _ _).alloc (Nat.le_refl _) _
  have hb45 : Below w4.heap.size w4 wy := hb5.trans (hb5'.mono hb5.size)
  have HY5 : Hid (wy.heap[w5.heap.size]? = some (sealObj n' i' d' p' Ay my Cy)) := Lib.hid (by rw [hwy]; exact Go.Deep.blk_alloc_new _ _)
  have HYR5 := Lib.hid (hry.old hb5')
  have HMY := Lib.hid hmy
  have HMYL : Hid (my ≤ maxLen) := Lib.hid (by omega)
  have HU5 := Lib.hid (below_obj hb45 HU4.out)
  have HR5 := Lib.hid (HR4.out.old hb45)
  have HS5 := Lib.hid (HS4.out.old hb45)
  have HX5 := Lib.hid (HX4.out.old hb45)
  have HB5 := Lib.hid (HB4.out.trans (hb45.mono HB4.out.size))
  have HWY := Lib.hid hwy
  unfold sealObj at HWY
  have hget := refReadSeal_any B b L D _ wy HL.out HDD.out HDm.out HBN.out HR5.out
  unfold GotS at hget
  rw [HU.out, ← HGE.out] at hget
  have HGET2 := Lib.hid hget
  obtain ⟨y, hy⟩ : ∃ y, y = w5.heap.size := ⟨_, rfl⟩
  rw [← hy] at HY5
  have HYY := Lib.hid hy
  clear hb5 hb5' hb45 hget hr4 hwy hy hmy hcy hcmy hry
  go_wp2_with fail
  rw [← HWY.out, ← HYY.out]
  refine HGET2.out.mono ?_
  rintro e w6 ⟨Az, mz, Cz, rfl, hmz, -, -, -, hrz, hb6⟩
  obtain ⟨wz, hwz⟩ : ∃ wz, wz = w6.alloc (sealObj n' i' d' p' Az mz Cz) := ⟨_, rfl⟩
  have hb6' : Below w6.heap.size w6 wz := by rw [hwz]; exact (Below.refl _ _).alloc (Nat.le_refl _) _
  have hb56 : Below wy.heap.size wy wz := hb6.trans (hb6'.mono hb6.size)
  have HZ6 : Hid (wz.heap[w6.heap.size]? = some (sealObj n' i' d' p' Az mz Cz)) := Lib.hid (by rw [hwz]; exact Go.Deep.blk_alloc_new _ _)
  have HZR6 := Lib.hid (hrz.old hb6')
  have HMZ := Lib.hid hmz
  have HY6 := Lib.hid (below_obj hb56 HY5.out)
  have HYR6 := Lib.hid (HYR5.out.old hb56)
  have HU6 := Lib.hid (below_obj hb56 HU5.out)
  have HS6 := Lib.hid (HS5.out.old hb56)
  have HX6 := Lib.hid (HX5.out.old hb56)
  have HB6 := Lib.hid (HB5.out.trans (hb56.mono HB5.out.size))
  have HWZ := Lib.hid hwz
  unfold sealObj at HWZ
  obtain ⟨zb, hzb⟩ : ∃ zb, zb = w6.heap.size := ⟨_, rfl⟩
  rw [← hzb] at HZ6
  have HZB := Lib.hid hzb
  clear hb6 hb6' hb56 hwz hzb hmz hrz
  go_wp2_with fail
  rw [← HWZ.out, ← HZB.out]
  have hbd : Below wz.heap.size wz wz.drew := (Below.refl _ _).drew
  have hBd := HB6.out.trans (hbd.mono HB6.out.size)
  have HUd := Lib.hid (below_obj hbd HU6.out)
  have HYd := Lib.hid (below_obj hbd HY6.out)
  have HZd := Lib.hid (below_obj hbd HZ6.out)
  have HSd := Lib.hid (HS6.out.old hbd)
  have HYRd := Lib.hid (HYR6.out.old hbd)
  have HZRd := Lib.hid (HZR6.out.old hbd)
  have HXd := Lib.hid (HX6.out.old hbd)
  have HBd := Lib.hid hBd
  have hR := rightSeal_any n i d p A l m C F wz.drew HM.out HC.out HCm.out HSd.out
  rw [← HOK.out] at hR
  have HR := Lib.hid hR
  have hH : ∀ wx, RdZ wx A l F → Calls Tryd.prog 20 #[.agg #[.int .i64 n, .int .i64 i, .int .i64 d, .int .i64 p, .slice A m C]] wx (AnsT x wx) := fun wx hrx => by rw [HX.out]; exact refSealBytes_any n i d p A l m C F wx HM.out HC.out HCm.out hrx
  have HH := Lib.hid hH
  clear hbd hBd hR hH
  obtain ⟨c0, c1, c2, c3, c4⟩ := seal5 HUd.out
  obtain ⟨cy0, cy1, cy2, cy3, cy4⟩ := seal5 HYd.out
  obtain ⟨cz0, cz1, cz2, cz3, cz4⟩ := seal5 HZd.out
  have qo : (ok != ok) = false := by cases ok <;> rfl
  have qx : (x != x) = false := bne_self_eq_false x
  have qx' : (x == x) = true := beq_self_eq_true x
  have qe : (ge != ge) = false := bne_self_eq_false ge
  have etx := tx_toList x
  have qn : decide (64 < n3) = false := decide_eq_false (by have := HN63.out; omega)
  have qn' : decide (64 < (n3 : Int)) = false := decide_eq_false (by have := HN63.out; omega)
  go_region_held (fun w' => w'.cell? ⟨w.heap.size, 0, none⟩ = some (.int .i64 n) ∧ w'.cell? ⟨w.heap.size, 1, none⟩ = some (.int .i64 i) ∧ w'.cell? ⟨w.heap.size, 2, none⟩ = some (.int .i64 d) ∧ w'.cell? ⟨w.heap.size, 3, none⟩ = some (.int .i64 p) ∧ w'.cell? ⟨w.heap.size, 4, none⟩ = some (.slice A m C) ∧ w'.cell? ⟨y, 0, none⟩ = some (.int .i64 n') ∧ w'.cell? ⟨y, 1, none⟩ = some (.int .i64 i') ∧ w'.cell? ⟨y, 2, none⟩ = some (.int .i64 d') ∧ w'.cell? ⟨y, 3, none⟩ = some (.int .i64 p') ∧ w'.cell? ⟨y, 4, none⟩ = some (.slice Ay my Cy) ∧ w'.cell? ⟨zb, 0, none⟩ = some (.int .i64 n') ∧ w'.cell? ⟨zb, 1, none⟩ = some (.int .i64 i') ∧ w'.cell? ⟨zb, 2, none⟩ = some (.int .i64 d') ∧ w'.cell? ⟨zb, 3, none⟩ = some (.int .i64 p') ∧ w'.cell? ⟨zb, 4, none⟩ = some (.slice Az mz Cz))
    (first
      | exact ⟨g0, g1, g2, g3, g4, gy0, gy1, gy2, gy3, gy4, gz0, gz1, gz2, gz3, gz4⟩
      | exact ⟨k0, k1, k2, k3, k4, ky0, ky1, ky2, ky3, ky4, kz0, kz1, kz2, kz3, kz4⟩
      | exact ⟨e0, e1, e2, e3, e4, ey0, ey1, ey2, ey3, ey4, ez0, ez1, ez2, ez3, ez4⟩
      | exact ⟨c0, c1, c2, c3, c4, cy0, cy1, cy2, cy3, cy4, cz0, cz1, cz2, cz3, cz4⟩)
    (first
      | (go_at_call 19; refine HR.out.mono ?_; rintro e we ⟨rfl, hbe⟩; have HUe := Lib.hid (below_obj hbe HUd.out); have HYe := Lib.hid (below_obj hbe HYd.out); have HZe := Lib.hid (below_obj hbe HZd.out); have HSe := Lib.hid (HSd.out.old hbe); have HYRe := Lib.hid (HYRd.out.old hbe); have HZRe := Lib.hid (HZRd.out.old hbe); have HXe := Lib.hid (HXd.out.old hbe); have HBe := Lib.hid (HBd.out.trans (hbe.mono HBd.out.size)); obtain ⟨e0, e1, e2, e3, e4⟩ := seal5 HUe.out; obtain ⟨ey0, ey1, ey2, ey3, ey4⟩ := seal5 HYe.out; obtain ⟨ez0, ez1, ez2, ez3, ez4⟩ := seal5 HZe.out; have s1 := HXe.out.str C3; rw [← HN3.out] at s1; clear hbe)
      | (go_at_call 20; refine (HH.out we HSe.out).mono ?_; rintro e wf ⟨Af, nf, Cf, rfl, hnf, -, -, -, hrf, hbf⟩; have HUf := Lib.hid (below_obj hbf HUe.out); have HYf := Lib.hid (below_obj hbf HYe.out); have HZf := Lib.hid (below_obj hbf HZe.out); have HSf := Lib.hid (HSe.out.old hbf); have HYRf := Lib.hid (HYRe.out.old hbf); have HZRf := Lib.hid (HZRe.out.old hbf); have HXf := Lib.hid (HXe.out.old hbf); have HBf := Lib.hid (HBe.out.trans (hbf.mono HBe.out.size)); obtain ⟨k0, k1, k2, k3, k4⟩ := seal5 HUf.out; obtain ⟨ky0, ky1, ky2, ky3, ky4⟩ := seal5 HYf.out; obtain ⟨kz0, kz1, kz2, kz3, kz4⟩ := seal5 HZf.out; have s2 := HXf.out.str C3; rw [← HN3.out] at s2; have s3 := hrf.str Cf; rw [← hnf] at s3; clear hbf hrf hnf)
      | (go_at_call 21; refine (sameSeal_yes n' i' d' p' l' Ay my Cy _ Az mz Cz _ wf HMY.out HMZ.out HMYL.out HYRf.out HZRf.out).mono ?_; rintro e wg ⟨rfl, hbg⟩; have HUg := Lib.hid (below_obj hbg HUf.out); have HYg := Lib.hid (below_obj hbg HYf.out); have HZg := Lib.hid (below_obj hbg HZf.out); have HSg := Lib.hid (HSf.out.old hbg); have HXg := Lib.hid (HXf.out.old hbg); have HBg := Lib.hid (HBf.out.trans (hbg.mono HBf.out.size)); obtain ⟨g0, g1, g2, g3, g4⟩ := seal5 HUg.out; obtain ⟨gy0, gy1, gy2, gy3, gy4⟩ := seal5 HYg.out; obtain ⟨gz0, gz1, gz2, gz3, gz4⟩ := seal5 HZg.out; clear hbg)
      | (go_at_call 14; refine (num10 _ _).mono ?_; rintro e w' ⟨rfl, hw'⟩; subst hw'))
  all_goals
    clear c0 cy0 cz0 c1 cy1 cz1 c2 cy2 cz2 c3 cy3 cz3 c4 cy4 cz4 e0 ey0 ez0 e1 ey1 ez1 e2 ey2 ez2 e3 ey3 ez3 e4 ey4 ez4 k0 ky0 kz0 k1 ky1 kz1 k2 ky2 kz2 k3 ky3 kz3 k4 ky4 kz4 g0 gy0 gz0 g1 gy1 gz1 g2 gy2 gz2 g3 gy3 gz3 g4 gy4 gz4 s1 s2 s3 qo qx qx' qe qn qn'
    have HN := HN63.out
    cases ok with
    | true =>
      have hok : Rc.SOk ⟨n, i, d, p, l⟩ := of_decide_eq_true HOK.out.symm
      have hxb : x = Rc.sblk ⟨n, i, d, p, l⟩ := by rw [HX.out, Rc.sput_ok hok]
      have hget := readSeal_any A3 x n3 C3 _ wg HN3.out (by omega) HZ3.out HXg.out
      unfold GotS at hget
      rw [hxb, Rc.sgot_yes (Rc.sgood_blk hok), Rc.sgotE_yes (Rc.sgood_blk hok), Rc.sparse_sblk hok] at hget
      have HGF : Hid (Calls Tryd.prog 17 #[.slice A3 n3 C3] wg fun e w' => ∃ A m C, e = .returned (.tuple #[.agg #[.int .i64 n, .int .i64 i, .int .i64 d, .int .i64 p, .slice A m C], .int .i64 0]) ∧ m = l.length ∧ m ≤ C ∧ C ≤ maxLen ∧ (A = none → m = 0 ∧ C = 0) ∧ RdZ w' A l (wg.heap.size ≤ ·) ∧ Below wg.heap.size wg w') := Lib.hid hget
      clear hok hxb hget
      go_wp2_with fail
      refine HGF.out.mono ?_
      rintro e w7 ⟨A7, m7, C7, rfl, hm7, hc7, hcm7, -, hr7, hb7⟩
      obtain ⟨wv, hwv⟩ : ∃ wv, wv = w7.alloc (sealObj n i d p A7 m7 C7) := ⟨_, rfl⟩
      have hb7' : Below w7.heap.size w7 wv := by rw [hwv]; exact (Below.refl _ _).alloc (Nat.le_refl _) _
      have hbv : Below wg.heap.size wg wv := hb7.trans (hb7'.mono hb7.size)
      have HV7 : Hid (wv.heap[w7.heap.size]? = some (sealObj n i d p A7 m7 C7)) := Lib.hid (by rw [hwv]; exact Go.Deep.blk_alloc_new _ _)
      have HU7 := Lib.hid (below_obj hbv HUg.out)
      have HB7 := Lib.hid (HBg.out.trans (hbv.mono HBg.out.size))
      have HSAME := Lib.hid (sameSeal_yes n i d p l A7 m7 C7 _ A m C _ wv hm7 HM.out (by omega) (hr7.old hb7') (HSg.out.old hbv))
      have HWV := Lib.hid hwv
      unfold sealObj at HWV
      obtain ⟨a0, a1, a2, a3, a4⟩ := seal5 HU7.out
      obtain ⟨b0, b1, b2, b3, b4⟩ := seal5 HV7.out
      rw [HWV.out] at a0 a1 a2 a3 a4 b0 b1 b2 b3 b4
      clear hb7 hb7' hbv hwv hm7 hc7 hcm7 hr7
      go_wp2_with (first
        | (go_at_call 14; refine (num10 _ _).mono ?_; rintro e w' ⟨rfl, hw'⟩; subst hw')
        | (go_at_call 21; rw [← HWV.out]; refine HSAME.out.mono ?_; rintro e w8 ⟨rfl, hb8⟩; have HB8 := Lib.hid (HB7.out.trans (hb8.mono HB7.out.size)); clear hb8))
      go_ret
      exact ⟨rfl, HB8.out⟩
    | false =>
      have hn0 : n3 = 0 := by rw [HN3.out, HX.out, Rc.sput_no (of_decide_eq_false HOK.out.symm)]; rfl
      have HGF := Lib.hid (readSeal_any A3 x n3 C3 _ wg HN3.out (by omega) HZ3.out HXg.out)
      subst hn0
      go_wp2_with fail
      refine HGF.out.mono ?_
      rintro e w7 ⟨A7, m7, C7, rfl, -, -, -, -, -, hb7⟩
      have HB7 := Lib.hid ((HBg.out.trans (hb7.mono HBg.out.size)))
      have HB8 : Hid (∀ o, Below w.heap.size w (w7.alloc o)) := Lib.hid fun o => HB7.out.alloc HB7.out.size o
      clear hb7
      go_wp2
      go_ret
      exact ⟨rfl, HB8.out _⟩
theorem seals_any (n i d p : Int) (A : Option Addr) (l : List Int) (m C : Nat) (F : Nat → Prop) (B : Option Addr) (b : Tx) (L D : Nat) (G : Nat → Prop) (w : World) (hk : Kept w) (hm : m = l.length) (hC : m ≤ C) (hCm : C ≤ maxLen) (hrl : RdZ w A l F) (hL : L = b.length) (hB : B = none → L = 0 ∧ D = 0) (hD : L ≤ D) (hDm : D ≤ maxLen) (hr : RdL w B b G) :
    Calls Tryd.prog 4 #[.agg #[.int .i64 n, .int .i64 i, .int .i64 d, .int .i64 p, .slice A m C], .slice B L D] w (AnsB true w) := by
  by_cases h : m ≤ 40
  · by_cases h' : L ≤ 300
    · exact seals_main n i d p A l m C F B b L D G w hk hm hC hCm hrl hL hB hD hDm hr h h'
    · exact seals_big n i d p A m C B L D w hk (.inr (by omega))
  · exact seals_big n i d p A m C B L D w hk (.inl (by omega))
end Go.Proofs.YtdllkbjbklhigaaDoor
