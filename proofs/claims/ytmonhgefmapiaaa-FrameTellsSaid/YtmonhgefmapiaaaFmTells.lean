/- What FrameTells answers: true. -/
import Derived.Test.YtmonhgefmapiaaaFmAlive
import Derived.Test.YtmonhgefmapiaaaRefFmG
namespace Go.Proofs.Ytmonhgefmapiaaa
open Go.RowKit
open Pt (Tx)

set_option maxHeartbeats 1000000 in
theorem tells_big (k l n : Int) (A : Option Addr) (m C : Nat) (A' : Option Addr) (L C' : Nat) (w : World) (h : 300 < m ∨ 300 < L) :
    Calls Try.prog 3 #[.agg #[.int .i64 k, .int .i64 l, .int .i64 n, .slice A m C], .slice A' L C'] w (AnsB9 true w) := by
  obtain ⟨wa, hwa⟩ : ∃ wa, wa = w.alloc (unitObj k l n A m C) := ⟨_, rfl⟩
  have HB0 : Hid (Below w.heap.size w wa) := Lib.hid (by rw [hwa]; exact (Below.refl _ _).alloc (Nat.le_refl _) _)
  have HU0 : Hid (wa.heap[w.heap.size]? = some (unitObj k l n A m C)) := Lib.hid (by rw [hwa]; exact Go.Deep.blk_alloc_new _ _)
  have HW := Lib.hid hwa
  unfold unitObj at HW
  clear hwa
  have hq : (decide (300 < (m : Int)) = true ∧ decide (300 < m) = true) ∨ (decide (300 < (m : Int)) = false ∧ decide (300 < m) = false ∧ decide (300 < (L : Int)) = true ∧ decide (300 < L) = true) := by
    simp only [decide_eq_true_eq, decide_eq_false_iff_not]; omega
  clear h
  rcases hq with ⟨q1, q2⟩ | ⟨q1, q2, q3, q4⟩
  all_goals
    go_enter Try.func3, Try.ntmps3
    go_wp2_with fail
    rw [← HW.out]
    refine (alive9_true wa).mono ?_
    rintro e w1 ⟨rfl, hb1⟩
    obtain ⟨a0, a1, a2, a3⟩ := unit4 (below_unit hb1 HU0.out)
    have HB1 := Lib.hid (HB0.out.trans (hb1.mono HB0.out.size))
    clear hb1
    go_wp2
    go_ret
    exact ⟨rfl, HB1.out⟩
set_option maxHeartbeats 4000000 in
theorem tells_main (k l n : Int) (A : Option Addr) (s : Tx) (m C : Nat) (G : Nat → Prop) (A' : Option Addr) (b : Tx) (L C' : Nat) (G' : Nat → Prop) (w : World) (hm : m = s.length) (hL : L = b.length) (hA : A = none → m = 0 ∧ C = 0) (hA' : A' = none → L = 0 ∧ C' = 0) (hC' : L ≤ C') (hCm : C' ≤ maxLen) (hr : RdL w A s G) (hr' : RdL w A' b G') (h : m ≤ 300) (h' : L ≤ 300) :
    Calls Try.prog 3 #[.agg #[.int .i64 k, .int .i64 l, .int .i64 n, .slice A m C], .slice A' L C'] w (AnsB9 true w) := by
  obtain ⟨wa, hwa⟩ : ∃ wa, wa = w.alloc (unitObj k l n A m C) := ⟨_, rfl⟩
  have HB0 : Hid (Below w.heap.size w wa) := Lib.hid (by rw [hwa]; exact (Below.refl _ _).alloc (Nat.le_refl _) _)
  have HU0 : Hid (wa.heap[w.heap.size]? = some (unitObj k l n A m C)) := Lib.hid (by rw [hwa]; exact Go.Deep.blk_alloc_new _ _)
  have HW := Lib.hid hwa
  unfold unitObj at HW
  clear hwa
  have p1 : decide (300 < (m : Int)) = false := decide_eq_false (by omega)
  have p2 : decide (300 < (L : Int)) = false := decide_eq_false (by omega)
  have p3 : decide (300 < m) = false := decide_eq_false (by omega)
  have p4 : decide (300 < L) = false := decide_eq_false (by omega)
  have HR0 : Hid (RdL wa A s G) := Lib.hid (hr.old HB0.out)
  have HR0' : Hid (RdL wa A' b G') := Lib.hid (hr'.old HB0.out)
  have HM := Lib.hid hm
  have HL := Lib.hid hL
  have HA := Lib.hid hA
  have HA' := Lib.hid hA'
  have HC := Lib.hid hC'
  have HCm := Lib.hid hCm
  obtain ⟨er, her⟩ : ∃ er, er = Fm.err ⟨k, l, n, s⟩ := ⟨_, rfl⟩
  obtain ⟨x, hx⟩ : ∃ x, x = Fm.put ⟨k, l, n, s⟩ := ⟨_, rfl⟩
  obtain ⟨u, hu⟩ : ∃ u, u = Fm.got b := ⟨_, rfl⟩
  obtain ⟨ge, hge⟩ : ∃ ge, ge = Fm.gotE b := ⟨_, rfl⟩
  have HE := Lib.hid her
  have HX := Lib.hid hx
  have HU := Lib.hid hu
  have HGE := Lib.hid hge
  clear hr hr' hm hL hA hA' hC' hCm her hx hu hge
  go_enter Try.func3, Try.ntmps3
  go_wp2_with fail
  rw [← HW.out]
  refine (alive9_true wa).mono ?_
  rintro e w1 ⟨rfl, hb1⟩
  have HU1 := Lib.hid (below_unit hb1 HU0.out)
  have HR1 := Lib.hid (HR0.out.old hb1)
  have HR1' := Lib.hid (HR0'.out.old hb1)
  have HB1 := Lib.hid (HB0.out.trans (hb1.mono HB0.out.size))
  clear hb1
  obtain ⟨a0, a1, a2, a3⟩ := unit4 HU1.out
  go_wp2_with fail
  have hp := framePut_any k l n A s m C _ w1 HM.out HA.out HR1.out
  unfold PutU at hp
  rw [← HE.out, ← HX.out] at hp
  refine hp.mono ?_
  clear hp
  rintro e w2 ⟨A2, n2, C2, rfl, hn2, hc2, -, hz2, hr2, hb2⟩
  have HU2 := Lib.hid (below_unit hb2 HU1.out)
  have HR2 := Lib.hid (HR1.out.old hb2)
  have HR2' := Lib.hid (HR1'.out.old hb2)
  have HB2 := Lib.hid (HB1.out.trans (hb2.mono HB1.out.size))
  have HX2 := Lib.hid hr2
  have HN2 := Lib.hid hn2
  have HC2 := Lib.hid hc2
  have HZ2 := Lib.hid hz2
  clear hb2 hr2 hn2 hc2 hz2 a0 a1 a2 a3
  obtain ⟨a0, a1, a2, a3⟩ := unit4 HU2.out
  go_wp2_with fail
  have hp := refPut_any k l n A s m C _ w2 HM.out HA.out HR2.out
  unfold PutU at hp
  rw [← HE.out, ← HX.out] at hp
  refine hp.mono ?_
  clear hp
  rintro e w3 ⟨A3, n3, C3, rfl, hn3, -, -, -, hr3, hb3⟩
  have HU3 := Lib.hid (below_unit hb3 HU2.out)
  have HR3 := Lib.hid (HR2.out.old hb3)
  have HR3' := Lib.hid (HR2'.out.old hb3)
  have HB3 := Lib.hid (HB2.out.trans (hb3.mono HB2.out.size))
  have HX3 := Lib.hid (HX2.out.old hb3)
  have HY3 := Lib.hid hr3
  have HN3 := Lib.hid hn3
  clear hb3 hr3 hn3 a0 a1 a2 a3
  obtain ⟨A4, C4, w4, hr4, hO4, hG4⟩ := ap_run w3 w3.heap.size (.slice none 0 0) [] (OwnL.nil _ _) A' L C' b _ HL.out.symm HA'.out HR3'.out (by simp; omega) (Nat.le_refl _) L (by simp)
  have hb4 : Below w3.heap.size w3 w4 := ⟨hG4.os, hG4.tape, hG4.output, hG4.size, fun y hy => hG4.block y hy (fun e => by cases e)⟩
  obtain ⟨X4, D4, e4, g1, -, g3, g4⟩ := hO4.rd
  injection e4 with x1 x2 x3
  subst x1 x3
  rw [List.nil_append] at g1 g3 g4
  rw [← HL.out] at g1 g3
  have hget := frameGet_any A4 b L C4 _ w4 HL.out g1 (by omega) g3 g4
  unfold GotU at hget
  rw [← HU.out, ← HGE.out] at hget
  have HGET := Lib.hid hget
  have HU4 := Lib.hid (below_unit hb4 HU3.out)
  have HR4 := Lib.hid (HR3.out.old hb4)
  have HR4' := Lib.hid (HR3'.out.old hb4)
  have HB4 := Lib.hid (HB3.out.trans (hb4.mono HB3.out.size))
  have HX4 := Lib.hid (HX3.out.old hb4)
  have HY4 := Lib.hid (HY3.out.old hb4)
  clear hb4 hO4 hG4 g1 g3 g4 x2 hget
  go_wp2_with (at_builtin; refine Lib.wpList_append_run _ rfl _ _ _ _ rfl _ _ rfl rfl _ _ (hr4 _) ?_)
  refine HGET.out.mono ?_
  rintro e w5 ⟨A5, m5, C5, rfl, hm5, -, -, hr5, hb5⟩
  have hb5' : Below w5.heap.size w5 (w5.alloc (unitObj u.kind u.label u.number A5 m5 C5)) := (Below.refl _ _).alloc (Nat.le_refl _) _
  have hb45 : Below w4.heap.size w4 (w5.alloc (unitObj u.kind u.label u.number A5 m5 C5)) := hb5.trans (hb5'.mono hb5.size)
  have HV5 : Hid ((w5.alloc (unitObj u.kind u.label u.number A5 m5 C5)).heap[w5.heap.size]? = some (unitObj u.kind u.label u.number A5 m5 C5)) := Lib.hid (Go.Deep.blk_alloc_new _ _)
  have HVR5 := Lib.hid (hr5.old hb5')
  have HM5 := Lib.hid hm5
  have HU5 := Lib.hid (below_unit hb45 HU4.out)
  have HR5 := Lib.hid (HR4.out.old hb45)
  have HR5' := Lib.hid (HR4'.out.old hb45)
  have HB5 := Lib.hid (HB4.out.trans (hb45.mono HB4.out.size))
  have HX5 := Lib.hid (HX4.out.old hb45)
  have HY5 := Lib.hid (HY4.out.old hb45)
  have hget := refGet_any A' b L C' _ (w5.alloc (unitObj u.kind u.label u.number A5 m5 C5)) HL.out HC.out HCm.out (by omega) HA'.out HR5'.out
  unfold GotU at hget
  rw [← HU.out, ← HGE.out] at hget
  have HGET2 := Lib.hid hget
  clear hb5 hb5' hb45 hr5 hm5 hget hr4
  go_wp2_with fail
  refine HGET2.out.mono ?_
  rintro e w6 ⟨A6, m6, C6, rfl, hm6, -, -, hr6, hb6⟩
  have hb6' : Below w6.heap.size w6 (w6.alloc (unitObj u.kind u.label u.number A6 m6 C6)) := (Below.refl _ _).alloc (Nat.le_refl _) _
  have hb56 : Below (w5.alloc (unitObj u.kind u.label u.number A5 m5 C5)).heap.size (w5.alloc (unitObj u.kind u.label u.number A5 m5 C5)) (w6.alloc (unitObj u.kind u.label u.number A6 m6 C6)) := hb6.trans (hb6'.mono hb6.size)
  have HY6V : Hid ((w6.alloc (unitObj u.kind u.label u.number A6 m6 C6)).heap[w6.heap.size]? = some (unitObj u.kind u.label u.number A6 m6 C6)) := Lib.hid (Go.Deep.blk_alloc_new _ _)
  have HYR6 := Lib.hid (hr6.old hb6')
  have HM6 := Lib.hid hm6
  have HV6 := Lib.hid (below_unit hb56 HV5.out)
  have HVR6 := Lib.hid (HVR5.out.old hb56)
  have HU6 := Lib.hid (below_unit hb56 HU5.out)
  have HR6 := Lib.hid (HR5.out.old hb56)
  have HB6 := Lib.hid (HB5.out.trans (hb56.mono HB5.out.size))
  have HX6 := Lib.hid (HX5.out.old hb56)
  have HY6 := Lib.hid (HY5.out.old hb56)
  have t1 := HX6.out.str C2
  have t2 := HY6.out.str C3
  rw [← HN2.out] at t1
  rw [← HN3.out] at t2
  have hsm := same9 u.kind u.label u.number A5 u.load m5 C5 _ u.kind u.label u.number A6 u.load m6 C6 _ (w6.alloc (unitObj u.kind u.label u.number A6 m6 C6)) HM5.out HM6.out HVR6.out HYR6.out
  rw [Fm.U.eta, Fm.same_self] at hsm
  have HSM := Lib.hid hsm
  obtain ⟨u0, u1, u2, u3⟩ := unit4 HV6.out
  obtain ⟨y0, y1, y2, y3⟩ := unit4 HY6V.out
  have e1 := tx_toList x
  unfold unitObj at t1 t2 u0 u1 u2 u3 y0 y1 y2 y3
  clear hb6 hb6' hb56 hr6 hm6 hsm
  by_cases he : er = 0
  · subst he
    have hok := Fm.err_zero.1 HE.out.symm
    have hxb : x = Fm.blk ⟨k, l, n, s⟩ := by rw [HX.out, Fm.put_ok hok]
    have hnl : n2 ≤ 1000000 := by rw [HN2.out, HX.out]; have := Fm.put_le ⟨k, l, n, s⟩; omega
    have hgot : ∀ wx, RdL wx A2 x (w1.heap.size ≤ ·) → Calls Try.prog 10 #[.slice A2 n2 C2] wx fun e w' => ∃ A m C, e = .returned (.tuple #[.agg #[.int .i64 k, .int .i64 l, .int .i64 n, .slice A m C], .int .i64 0]) ∧ m = s.length ∧ m ≤ C ∧ (A = none → m = 0 ∧ C = 0) ∧ RdL w' A s (wx.heap.size ≤ ·) ∧ Below wx.heap.size wx w' := fun wx hrx => by
      have := frameGet_any A2 x n2 C2 _ wx HN2.out HC2.out hnl HZ2.out hrx
      unfold GotU at this
      rw [hxb, Fm.got_yes (Fm.good_blk hok), Fm.gotE_yes (Fm.good_blk hok), Fm.parse_blk hok] at this
      exact this
    have HGOT := Lib.hid hgot
    clear hgot hxb hok hnl
    go_wp2_with (first
      | (go_at_call 12; refine (num9 _ _).mono ?_; rintro e w' ⟨rfl, hw'⟩; subst hw')
      | (go_at_call 13; refine HSM.out.mono ?_; rintro e w7 ⟨rfl, hb7⟩; have HB7 := Lib.hid (HB6.out.trans (hb7.mono HB6.out.size)); have HU7 := Lib.hid (below_unit hb7 HU6.out); have HR7 := Lib.hid (HR6.out.old hb7); have HX7 := Lib.hid (HX6.out.old hb7); clear hb7))
    refine (HGOT.out w7 HX7.out).mono ?_
    rintro e w8 ⟨A8, m8, C8, rfl, hm8, -, -, hr8, hb8⟩
    have hb8' : Below w8.heap.size w8 (w8.alloc (unitObj k l n A8 m8 C8)) := (Below.refl _ _).alloc (Nat.le_refl _) _
    have hb78 : Below w7.heap.size w7 (w8.alloc (unitObj k l n A8 m8 C8)) := hb8.trans (hb8'.mono hb8.size)
    obtain ⟨z0, z1, z2, z3⟩ := unit4 (Go.Deep.blk_alloc_new w8 (unitObj k l n A8 m8 C8))
    obtain ⟨v0, v1, v2, v3⟩ := unit4 (below_unit hb78 HU7.out)
    have hsm := same9 k l n A8 s m8 C8 _ k l n A s m C _ (w8.alloc (unitObj k l n A8 m8 C8)) hm8 HM.out (hr8.old hb8') (HR7.out.old hb78)
    rw [Fm.same_self] at hsm
    have HSM8 := Lib.hid hsm
    have HB8 := Lib.hid (HB7.out.trans (hb78.mono HB7.out.size))
    unfold unitObj at z0 z1 z2 z3 v0 v1 v2 v3
    clear hb8 hb8' hb78 hr8 hm8 hsm u0 u1 u2 u3 y0 y1 y2 y3 t1 t2
    go_wp2_with (first
      | (go_at_call 12; refine (num9 _ _).mono ?_; rintro e w' ⟨rfl, hw'⟩; subst hw')
      | (go_at_call 13; refine HSM8.out.mono ?_; rintro e w9 ⟨rfl, hb9⟩; have HB9 := Lib.hid (HB8.out.trans (hb9.mono HB8.out.size)); clear hb9))
    go_ret
    exact ⟨rfl, HB9.out⟩
  · have q5 : (er == 0) = false := beq_eq_false_iff_ne.2 he
    have q6 : (er != 0) = true := bne_iff_ne.2 he
    have hn0 : n2 = 0 := by rw [HN2.out, HX.out, Fm.put_no fun h => he (by rw [HE.out]; exact Fm.err_ok h)]; rfl
    subst hn0
    go_wp2_with (first
      | (go_at_call 12; refine (num9 _ _).mono ?_; rintro e w' ⟨rfl, hw'⟩; subst hw')
      | (go_at_call 13; refine HSM.out.mono ?_; rintro e w7 ⟨rfl, hb7⟩; have HB7 := Lib.hid (HB6.out.trans (hb7.mono HB6.out.size)); clear hb7))
    go_ret
    exact ⟨rfl, HB7.out⟩
theorem tells_any (k l n : Int) (A : Option Addr) (s : Tx) (m C : Nat) (G : Nat → Prop) (A' : Option Addr) (b : Tx) (L C' : Nat) (G' : Nat → Prop) (w : World) (hm : m = s.length) (hL : L = b.length) (hA : A = none → m = 0 ∧ C = 0) (hA' : A' = none → L = 0 ∧ C' = 0) (hC' : L ≤ C') (hCm : C' ≤ maxLen) (hr : RdL w A s G) (hr' : RdL w A' b G') :
    Calls Try.prog 3 #[.agg #[.int .i64 k, .int .i64 l, .int .i64 n, .slice A m C], .slice A' L C'] w (AnsB9 true w) := by
  by_cases h : m ≤ 300
  · by_cases h' : L ≤ 300
    · exact tells_main k l n A s m C G A' b L C' G' w hm hL hA hA' hC' hCm hr hr' h h'
    · exact tells_big k l n A m C A' L C' w (.inr (by omega))
  · exact tells_big k l n A m C A' L C' w (.inl (by omega))
end Go.Proofs.Ytmonhgefmapiaaa
