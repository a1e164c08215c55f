/- What RecordHeads answers: true. -/
import Derived.Test.YtdllkbjbklhigaaDoorRcAlive
import Derived.Test.YtdllkbjbklhigaaDoorRcEq
import Derived.Test.YtdllkbjbklhigaaDoorRefRcRead
import Derived.Test.YtdllkbjbklhigaaDoorFmStep
import Derived.Deep.RegionHeld3
import Derived.Deep.DeepFit
namespace Go.Proofs.YtdllkbjbklhigaaDoor
open Go.RowKit
open Pt (Tx)

set_option maxHeartbeats 1000000 in
theorem heads_big (p : Tx) (v z f l s m : Int) (g : Bool) (A : Option Addr) (L C : Nat) (w : World) (hk : Kept w) (h : 200 < p.length ∨ 300 < L) :
    Calls Tryd.prog 3 #[.agg #[.string (tx p), .int .i64 v, .int .i64 z, .int .i64 f, .int .i64 l, .int .i64 s, .int .i64 m, .bool g], .slice A L C] w (AnsB true w) := by
  have HB0 : Hid (Below w.heap.size w (w.alloc (headObj p v z f l s m g))) := Lib.hid ((Below.refl _ _).alloc (Nat.le_refl _) _)
  have HU0 : Hid ((w.alloc (headObj p v z f l s m g)).heap[w.heap.size]? = some (headObj p v z f l s m g)) := Lib.hid (Go.Deep.blk_alloc_new _ _)
  have HC := Lib.hid (alive10_true _ (hk.old HB0.out))
  unfold headObj at HC
  clear hk
  have es := tx_size p
  have hq : (decide (200 < (p.length : Int)) = true ∧ decide (200 < p.length) = true) ∨ (decide (200 < (p.length : Int)) = false ∧ decide (200 < p.length) = false ∧ decide (300 < (L : Int)) = true ∧ decide (300 < L) = true) := by
    simp only [decide_eq_true_eq, decide_eq_false_iff_not]; omega
  clear h
  rcases hq with ⟨q1, q2⟩ | ⟨q1, q2, q3, q4⟩
  all_goals
    go_enter Tryd.func3, Tryd.ntmps3
    go_wp2_with fail
    refine HC.out.mono ?_
    rintro e w1 ⟨rfl, hb1⟩
    obtain ⟨a0, a1, a2, a3, a4, a5, a6, a7⟩ := head8 (below_head hb1 HU0.out)
    have HB1 := Lib.hid (HB0.out.trans (hb1.mono HB0.out.size))
    clear hb1
    go_wp2
    go_ret
    exact ⟨rfl, HB1.out⟩
set_option maxHeartbeats 8000000 in
theorem heads_main (p : Tx) (v z f l s m : Int) (g : Bool) (A : Option Addr) (b : Tx) (L C : Nat) (G : Nat → Prop) (w : World) (hk : Kept w) (hL : L = b.length) (hA : A = none → L = 0 ∧ C = 0) (hC : L ≤ C) (hCm : C ≤ maxLen) (hr : RdL w A b G) (h : p.length ≤ 200) (h' : L ≤ 300) :
    Calls Tryd.prog 3 #[.agg #[.string (tx p), .int .i64 v, .int .i64 z, .int .i64 f, .int .i64 l, .int .i64 s, .int .i64 m, .bool g], .slice A L C] w (AnsB true w) := by
  obtain ⟨wa, hwa⟩ : ∃ wa, wa = w.alloc (headObj p v z f l s m g) := ⟨_, rfl⟩
  have HB0 : Hid (Below w.heap.size w wa) := Lib.hid (by rw [hwa]; exact (Below.refl _ _).alloc (Nat.le_refl _) _)
  have HU0 : Hid (wa.heap[w.heap.size]? = some (headObj p v z f l s m g)) := Lib.hid (by rw [hwa]; exact Go.Deep.blk_alloc_new _ _)
  have HW := Lib.hid hwa
  unfold headObj at HW
  clear hwa
  have es := tx_size p
  have p1 : decide (200 < (p.length : Int)) = false := decide_eq_false (by omega)
  have p2 : decide (300 < (L : Int)) = false := decide_eq_false (by omega)
  have p3 : decide (200 < p.length) = false := decide_eq_false (by omega)
  have p4 : decide (300 < L) = false := decide_eq_false (by omega)
  have HR0 : Hid (RdL wa A b G) := Lib.hid (hr.old HB0.out)
  have HK := Lib.hid hk
  have HL := Lib.hid hL
  have HA := Lib.hid hA
  have HC := Lib.hid hC
  have HCm := Lib.hid hCm
  have HPL : Hid (p.length ≤ maxLen) := Lib.hid (by unfold maxLen; omega)
  obtain ⟨ok, hok⟩ : ∃ ok, ok = decide (Rc.Ok ⟨p, v, z, f, l, s, m, g⟩) := ⟨_, rfl⟩
  obtain ⟨x, hx⟩ : ∃ x, x = Rc.put ⟨p, v, z, f, l, s, m, g⟩ := ⟨_, rfl⟩
  obtain ⟨P, v', z', f', l', s', m', g', hu⟩ : ∃ P v' z' f' l' s' m' g', Rc.got b = ⟨P, v', z', f', l', s', m', g'⟩ := ⟨_, _, _, _, _, _, _, _, rfl⟩
  obtain ⟨ge, hge⟩ : ∃ ge, ge = Rc.gotE b := ⟨_, rfl⟩
  have hxl : x.length ≤ 50 := by rw [hx]; exact Rc.put_le _
  have HOK := Lib.hid hok
  have HX := Lib.hid hx
  have HXL := Lib.hid hxl
  have HU := Lib.hid hu
  have HGE := Lib.hid hge
  clear hk hr hL hA hC hCm hok hx hxl hu hge
  go_enter Tryd.func3, Tryd.ntmps3
  go_wp2_with fail
  rw [← HW.out]
  refine (alive10_true wa (HK.out.old HB0.out)).mono ?_
  rintro e w1 ⟨rfl, hb1⟩
  have HU1 := Lib.hid (below_head hb1 HU0.out)
  have HR1 := Lib.hid (HR0.out.old hb1)
  have HB1 := Lib.hid (HB0.out.trans (hb1.mono HB0.out.size))
  clear hb1
  obtain ⟨a0, a1, a2, a3, a4, a5, a6, a7⟩ := head8 HU1.out
  go_wp2_with fail
  clear p1 p2 p3 p4
  have hcall := refRightHead_any p v z f l s m g w1 HPL.out
  rw [← HOK.out] at hcall
  refine hcall.mono ?_
  clear hcall
  rintro e w2 ⟨rfl, hb2⟩
  have HU2 := Lib.hid (below_head hb2 HU1.out)
  have HR2 := Lib.hid (HR1.out.old hb2)
  have HB2 := Lib.hid (HB1.out.trans (hb2.mono HB1.out.size))
  clear hb2 a0 a1 a2 a3 a4 a5 a6 a7
  obtain ⟨a0, a1, a2, a3, a4, a5, a6, a7⟩ := head8 HU2.out
  go_wp2_with fail
  have hcall := headBytes_any p v z f l s m g w2 HPL.out (HK.out.old HB2.out)
  rw [← HX.out] at hcall
  refine hcall.mono ?_
  clear hcall
  rintro e w3 ⟨A3, n3, C3, rfl, hn3, hc3, hm3, hz3, hr3, hb3⟩
  have HU3 := Lib.hid (below_head hb3 HU2.out)
  have HR3 := Lib.hid (HR2.out.old hb3)
  have HB3 := Lib.hid (HB2.out.trans (hb3.mono HB2.out.size))
  have HX3 := Lib.hid hr3
  have HN3 := Lib.hid hn3
  have HZ3 := Lib.hid hz3
  have hn50 : n3 ≤ 50 := by rw [hn3]; exact HXL.out
  have HN50 := Lib.hid hn50
  clear hb3 hr3 hn3 hc3 hm3 hz3 hn50 a0 a1 a2 a3 a4 a5 a6 a7
  obtain ⟨A4, C4, w4, hr4, hO4, hG4⟩ := ap_run w3 w3.heap.size (.slice none 0 0) [] (OwnL.nil _ _) A L C b _ HL.out.symm HA.out HR3.out (by simp; omega) (Nat.le_refl _) L (by simp)
  have hb4 : Below w3.heap.size w3 w4 := ⟨hG4.os, hG4.tape, hG4.output, hG4.size, fun y hy => hG4.block y hy (fun e => by cases e)⟩
  obtain ⟨X4, D4, e4, g1, -, g3, g4⟩ := hO4.rd
  injection e4 with x1 x2 x3
  subst x1 x3
  rw [List.nil_append] at g1 g3 g4
  rw [← HL.out] at g1 g3
  have HB4 := Lib.hid (HB3.out.trans (hb4.mono HB3.out.size))
  have hget := readHead_any A4 b L C4 _ w4 HL.out (by omega) g3 g4 (HK.out.old HB4.out)
  unfold GotH at hget
  rw [HU.out, ← HGE.out] at hget
  have HGET := Lib.hid hget
  have HU4 := Lib.hid (below_head hb4 HU3.out)
  have HR4 := Lib.hid (HR3.out.old hb4)
  have HX4 := Lib.hid (HX3.out.old hb4)
  clear hb4 hO4 hG4 g1 g3 g4 x2 hget
  go_wp2_with (at_builtin; refine Lib.wpList_append_run _ rfl _ _ _ _ rfl _ _ rfl rfl _ _ (hr4 _) ?_)
  refine HGET.out.mono ?_
  rintro e w5 ⟨rfl, hb5⟩
  obtain ⟨wy, hwy⟩ : ∃ wy, wy = w5.alloc (headObj P v' z' f' l' s' m' g') := ⟨_, rfl⟩
  have hb5' : Below w5.heap.size w5 wy := by rw [hwy]; exact (Below.refl _ _).alloc (Nat.le_refl _) _
  have hb45 : Below w4.heap.size w4 wy := hb5.trans (hb5'.mono hb5.size)
  have HY5 : Hid (wy.heap[w5.heap.size]? = some (headObj P v' z' f' l' s' m' g')) := Lib.hid (by rw [hwy]; exact Go.Deep.blk_alloc_new _ _)
  have HU5 := Lib.hid (below_head hb45 HU4.out)
  have HR5 := Lib.hid (HR4.out.old hb45)
  have HX5 := Lib.hid (HX4.out.old hb45)
  have HB5 := Lib.hid (HB4.out.trans (hb45.mono HB4.out.size))
  have HWY := Lib.hid hwy
  unfold headObj at HWY
  have hget := refReadHead_any A b L C _ wy HL.out HC.out HCm.out HA.out HR5.out
  unfold GotH at hget
  rw [HU.out, ← HGE.out] at hget
  have HGET2 := Lib.hid hget
  obtain ⟨y, hy⟩ : ∃ y, y = w5.heap.size := ⟨_, rfl⟩
  rw [← hy] at HY5
  have HYY := Lib.hid hy
  clear hb5 hb5' hb45 hget hr4 hwy hy
  go_wp2_with fail
  rw [← HWY.out, ← HYY.out]
  refine HGET2.out.mono ?_
  rintro e w6 ⟨rfl, hb6⟩
  obtain ⟨wz, hwz⟩ : ∃ wz, wz = w6.alloc (headObj P v' z' f' l' s' m' g') := ⟨_, rfl⟩
  have hb6' : Below w6.heap.size w6 wz := by rw [hwz]; exact (Below.refl _ _).alloc (Nat.le_refl _) _
  have hb56 : Below wy.heap.size wy wz := hb6.trans (hb6'.mono hb6.size)
  have HZ6 : Hid (wz.heap[w6.heap.size]? = some (headObj P v' z' f' l' s' m' g')) := Lib.hid (by rw [hwz]; exact Go.Deep.blk_alloc_new _ _)
  have HY6 := Lib.hid (below_head hb56 HY5.out)
  have HU6 := Lib.hid (below_head hb56 HU5.out)
  have HX6 := Lib.hid (HX5.out.old hb56)
  have HB6 := Lib.hid (HB5.out.trans (hb56.mono HB5.out.size))
  have HWZ := Lib.hid hwz
  unfold headObj at HWZ
  obtain ⟨zb, hzb⟩ : ∃ zb, zb = w6.heap.size := ⟨_, rfl⟩
  rw [← hzb] at HZ6
  have HZB := Lib.hid hzb
  clear hb6 hb6' hb56 hwz hzb
  go_wp2_with fail
  rw [← HWZ.out, ← HZB.out]
  have hbd : Below wz.heap.size wz wz.drew := (Below.refl _ _).drew
  have hBd := HB6.out.trans (hbd.mono HB6.out.size)
  have HUd := Lib.hid (below_head hbd HU6.out)
  have HYd := Lib.hid (below_head hbd HY6.out)
  have HZd := Lib.hid (below_head hbd HZ6.out)
  have HXd := Lib.hid (HX6.out.old hbd)
  have HBd := Lib.hid hBd
  have hR := rightHead_any p v z f l s m g wz.drew HPL.out (HK.out.old hBd)
  rw [← HOK.out] at hR
  have HR := Lib.hid hR
  have hH : ∀ wx, Calls Tryd.prog 13 #[.agg #[.string (tx p), .int .i64 v, .int .i64 z, .int .i64 f, .int .i64 l, .int .i64 s, .int .i64 m, .bool g]] wx (AnsT x wx) := fun wx => by rw [HX.out]; exact refHeadBytes_any p v z f l s m g wx HPL.out
  have HH := Lib.hid hH
  clear hbd hBd hR hH es
  obtain ⟨d0, d1, d2, d3, d4, d5, d6, d7⟩ := head8 HUd.out
  obtain ⟨dy0, dy1, dy2, dy3, dy4, dy5, dy6, dy7⟩ := head8 HYd.out
  obtain ⟨dz0, dz1, dz2, dz3, dz4, dz5, dz6, dz7⟩ := head8 HZd.out
  have qo : (ok != ok) = false := by cases ok <;> rfl
  have qx : (x != x) = false := bne_self_eq_false x
  have qx' : (x == x) = true := beq_self_eq_true x
  have qe : (ge != ge) = false := bne_self_eq_false ge
  have e1 := tx_toList x
  have hne := heads_neq P v' z' f' l' s' m' g'
  have hgd := head_guard
  have qn : decide (64 < n3) = false := decide_eq_false (by have := HN50.out; omega)
  have qn' : decide (64 < (n3 : Int)) = false := decide_eq_false (by have := HN50.out; omega)
  go_region_held (fun w' => w'.cell? ⟨w.heap.size, 0, none⟩ = some (.string (tx p)) ∧ w'.cell? ⟨w.heap.size, 1, none⟩ = some (.int .i64 v) ∧ w'.cell? ⟨w.heap.size, 2, none⟩ = some (.int .i64 z) ∧ w'.cell? ⟨w.heap.size, 3, none⟩ = some (.int .i64 f) ∧ w'.cell? ⟨w.heap.size, 4, none⟩ = some (.int .i64 l) ∧ w'.cell? ⟨w.heap.size, 5, none⟩ = some (.int .i64 s) ∧ w'.cell? ⟨w.heap.size, 6, none⟩ = some (.int .i64 m) ∧ w'.cell? ⟨w.heap.size, 7, none⟩ = some (.bool g) ∧ w'.cell? ⟨y, 0, none⟩ = some (.string (tx P)) ∧ w'.cell? ⟨y, 1, none⟩ = some (.int .i64 v') ∧ w'.cell? ⟨y, 2, none⟩ = some (.int .i64 z') ∧ w'.cell? ⟨y, 3, none⟩ = some (.int .i64 f') ∧ w'.cell? ⟨y, 4, none⟩ = some (.int .i64 l') ∧ w'.cell? ⟨y, 5, none⟩ = some (.int .i64 s') ∧ w'.cell? ⟨y, 6, none⟩ = some (.int .i64 m') ∧ w'.cell? ⟨y, 7, none⟩ = some (.bool g') ∧ w'.cell? ⟨zb, 0, none⟩ = some (.string (tx P)) ∧ w'.cell? ⟨zb, 1, none⟩ = some (.int .i64 v') ∧ w'.cell? ⟨zb, 2, none⟩ = some (.int .i64 z') ∧ w'.cell? ⟨zb, 3, none⟩ = some (.int .i64 f') ∧ w'.cell? ⟨zb, 4, none⟩ = some (.int .i64 l') ∧ w'.cell? ⟨zb, 5, none⟩ = some (.int .i64 s') ∧ w'.cell? ⟨zb, 6, none⟩ = some (.int .i64 m') ∧ w'.cell? ⟨zb, 7, none⟩ = some (.bool g'))
    (first
      | exact ⟨k0, k1, k2, k3, k4, k5, k6, k7, ky0, ky1, ky2, ky3, ky4, ky5, ky6, ky7, kz0, kz1, kz2, kz3, kz4, kz5, kz6, kz7⟩
      | exact ⟨e0, e1, e2, e3, e4, e5, e6, e7, ey0, ey1, ey2, ey3, ey4, ey5, ey6, ey7, ez0, ez1, ez2, ez3, ez4, ez5, ez6, ez7⟩
      | exact ⟨d0, d1, d2, d3, d4, d5, d6, d7, dy0, dy1, dy2, dy3, dy4, dy5, dy6, dy7, dz0, dz1, dz2, dz3, dz4, dz5, dz6, dz7⟩)
    (first
      | (go_at_call 12; refine HR.out.mono ?_; rintro e we ⟨rfl, hbe⟩; have HUe := Lib.hid (below_head hbe HUd.out); have HYe := Lib.hid (below_head hbe HYd.out); have HZe := Lib.hid (below_head hbe HZd.out); have HXe := Lib.hid (HXd.out.old hbe); have HBe := Lib.hid (HBd.out.trans (hbe.mono HBd.out.size)); obtain ⟨e0, e1, e2, e3, e4, e5, e6, e7⟩ := head8 HUe.out; obtain ⟨ey0, ey1, ey2, ey3, ey4, ey5, ey6, ey7⟩ := head8 HYe.out; obtain ⟨ez0, ez1, ez2, ez3, ez4, ez5, ez6, ez7⟩ := head8 HZe.out; have s1 := HXe.out.str C3; rw [← HN3.out] at s1; clear hbe)
      | (go_at_call 13; refine (HH.out we).mono ?_; rintro e wf ⟨Af, nf, Cf, rfl, hnf, -, -, -, hrf, hbf⟩; have HUf := Lib.hid (below_head hbf HUe.out); have HYf := Lib.hid (below_head hbf HYe.out); have HZf := Lib.hid (below_head hbf HZe.out); have HXf := Lib.hid (HXe.out.old hbf); have HBf := Lib.hid (HBe.out.trans (hbf.mono HBe.out.size)); obtain ⟨k0, k1, k2, k3, k4, k5, k6, k7⟩ := head8 HUf.out; obtain ⟨ky0, ky1, ky2, ky3, ky4, ky5, ky6, ky7⟩ := head8 HYf.out; obtain ⟨kz0, kz1, kz2, kz3, kz4, kz5, kz6, kz7⟩ := head8 HZf.out; have s2 := HXf.out.str C3; rw [← HN3.out] at s2; have s3 := hrf.str Cf; rw [← hnf] at s3; clear hbf hrf hnf)
      | (go_at_call 14; refine (num10 _ _).mono ?_; rintro e w' ⟨rfl, hw'⟩; subst hw'))
  all_goals
    clear d0 dy0 dz0 d1 dy1 dz1 d2 dy2 dz2 d3 dy3 dz3 d4 dy4 dz4 d5 dy5 dz5 d6 dy6 dz6 d7 dy7 dz7 e0 ey0 ez0 e1 ey1 ez1 e2 ey2 ez2 e3 ey3 ez3 e4 ey4 ez4 e5 ey5 ez5 e6 ey6 ez6 e7 ey7 ez7 k0 ky0 kz0 k1 ky1 kz1 k2 ky2 kz2 k3 ky3 kz3 k4 ky4 kz4 k5 ky5 kz5 k6 ky6 kz6 k7 ky7 kz7 s1 s2 s3 hne qo qx qx' qe qn qn'
    have HN := HN50.out
    cases ok with
    | true =>
      have hok : Rc.Ok ⟨p, v, z, f, l, s, m, g⟩ := of_decide_eq_true HOK.out.symm
      have hxb : x = Rc.blk ⟨p, v, z, f, l, s, m, g⟩ := by rw [HX.out, Rc.put_ok hok]
      have hget := readHead_any A3 x n3 C3 _ wf HN3.out (by omega) HZ3.out HXf.out (HK.out.old HBf.out)
      unfold GotH at hget
      rw [hxb, Rc.got_yes (Rc.good_blk hok), Rc.gotE_yes (Rc.good_blk hok), Rc.parse_blk hok] at hget
      have HGF : Hid (Calls Tryd.prog 10 #[.slice A3 n3 C3] wf fun e w' => e = .returned (.tuple #[.agg #[.string (tx p), .int .i64 v, .int .i64 z, .int .i64 f, .int .i64 l, .int .i64 s, .int .i64 m, .bool g], .int .i64 0]) ∧ Below wf.heap.size wf w') := Lib.hid hget
      clear hok hxb hget
      go_wp2_with fail
      refine HGF.out.mono ?_
      rintro e w7 ⟨rfl, hb7⟩
      obtain ⟨wv, hwv⟩ : ∃ wv, wv = w7.alloc (headObj p v z f l s m g) := ⟨_, rfl⟩
      have hb7' : Below w7.heap.size w7 wv := by rw [hwv]; exact (Below.refl _ _).alloc (Nat.le_refl _) _
      have hbv : Below wf.heap.size wf wv := hb7.trans (hb7'.mono hb7.size)
      have HV7 : Hid (wv.heap[w7.heap.size]? = some (headObj p v z f l s m g)) := Lib.hid (by rw [hwv]; exact Go.Deep.blk_alloc_new _ _)
      have HU7 := Lib.hid (below_head hbv HUf.out)
      have HB7 := Lib.hid (HBf.out.trans (hbv.mono HBf.out.size))
      have HWV := Lib.hid hwv
      unfold headObj at HWV
      obtain ⟨a0, a1, a2, a3, a4, a5, a6, a7⟩ := head8 HU7.out
      obtain ⟨b0, b1, b2, b3, b4, b5, b6, b7⟩ := head8 HV7.out
      have hne := heads_eql p v z f l s m g
      rw [HWV.out] at a0 a1 a2 a3 a4 a5 a6 a7 b0 b1 b2 b3 b4 b5 b6 b7
      clear hb7 hb7' hbv hwv
      go_wp2_with (go_at_call 14; refine (num10 _ _).mono ?_; rintro e w' ⟨rfl, hw'⟩; subst hw')
      go_ret
      rw [← HWV.out]
      exact ⟨rfl, HB7.out⟩
    | false =>
      have hn0 : n3 = 0 := by rw [HN3.out, HX.out, Rc.put_no (of_decide_eq_false HOK.out.symm)]; rfl
      have HGF := Lib.hid (readHead_any A3 x n3 C3 _ wf HN3.out (by omega) HZ3.out HXf.out (HK.out.old HBf.out))
      subst hn0
      go_wp2_with fail
      refine HGF.out.mono ?_
      rintro e w7 ⟨rfl, hb7⟩
      have HB7 := Lib.hid ((HBf.out.trans (hb7.mono HBf.out.size)))
      have HB8 : Hid (∀ o, Below w.heap.size w (w7.alloc o)) := Lib.hid fun o => HB7.out.alloc HB7.out.size o
      clear hb7
      go_wp2
      go_ret
      exact ⟨rfl, HB8.out _⟩
theorem heads_any (p : Tx) (v z f l s m : Int) (g : Bool) (A : Option Addr) (b : Tx) (L C : Nat) (G : Nat → Prop) (w : World) (hk : Kept w) (hL : L = b.length) (hA : A = none → L = 0 ∧ C = 0) (hC : L ≤ C) (hCm : C ≤ maxLen) (hr : RdL w A b G) :
    Calls Tryd.prog 3 #[.agg #[.string (tx p), .int .i64 v, .int .i64 z, .int .i64 f, .int .i64 l, .int .i64 s, .int .i64 m, .bool g], .slice A L C] w (AnsB true w) := by
  by_cases h : p.length ≤ 200
  · by_cases h' : L ≤ 300
    · exact heads_main p v z f l s m g A b L C G w hk hL hA hC hCm hr h h'
    · exact heads_big p v z f l s m g A L C w hk (.inr (by omega))
  · exact heads_big p v z f l s m g A L C w hk (.inl (by omega))
end Go.Proofs.YtdllkbjbklhigaaDoor
