/- What FrameWhole answers: true. -/
import Derived.Test.YtmonhgefmapiaaaFmAlive
namespace Go.Proofs.Ytmonhgefmapiaaa
open Go.RowKit
open Pt (Tx)

set_option maxHeartbeats 1000000 in
theorem whole_big (k l n : Int) (A : Option Addr) (m C : Nat) (k' l' n' : Int) (A' : Option Addr) (m' C' : Nat) (w : World) (h : 100 < m ∨ 100 < m') :
    Calls Try.prog 6 #[.agg #[.int .i64 k, .int .i64 l, .int .i64 n, .slice A m C], .agg #[.int .i64 k', .int .i64 l', .int .i64 n', .slice A' m' C']] w (AnsB9 true w) := by
  obtain ⟨wa, hwa⟩ : ∃ wa, wa = (w.alloc (unitObj k l n A m C)).alloc (unitObj k' l' n' A' m' C') := ⟨_, rfl⟩
  have HB0 : Hid (Below w.heap.size w wa) := Lib.hid (by rw [hwa]; exact ((Below.refl _ _).alloc (Nat.le_refl _) _).alloc (by simp) _)
  have HU0 : Hid (wa.heap[w.heap.size]? = some (unitObj k l n A m C)) := Lib.hid (by rw [hwa, Below.heap_alloc _ _ _ (by simp)]; exact Go.Deep.blk_alloc_new _ _)
  have HV0 : Hid (wa.heap[w.heap.size + 1]? = some (unitObj k' l' n' A' m' C')) := Lib.hid (by
    have := Go.Deep.blk_alloc_new (w.alloc (unitObj k l n A m C)) (unitObj k' l' n' A' m' C')
    rw [hwa]; simpa using this)
  have HW := Lib.hid hwa
  unfold unitObj at HW
  clear hwa
  have hq : (decide (100 < (m : Int)) = true ∧ decide (100 < m) = true) ∨ (decide (100 < (m : Int)) = false ∧ decide (100 < m) = false ∧ decide (100 < (m' : Int)) = true ∧ decide (100 < m') = true) := by
    simp only [decide_eq_true_eq, decide_eq_false_iff_not]; omega
  clear h
  rcases hq with ⟨q1, q2⟩ | ⟨q1, q2, q3, q4⟩
  all_goals
    go_enter Try.func6, Try.ntmps6
    go_wp2_with fail
    rw [← HW.out]
    refine (alive9_true wa).mono ?_
    rintro e w1 ⟨rfl, hb1⟩
    obtain ⟨a0, a1, a2, a3⟩ := unit4 (below_unit hb1 HU0.out)
    obtain ⟨b0, b1, b2, b3⟩ := unit4 (below_unit hb1 HV0.out)
    have HB1 := Lib.hid (HB0.out.trans (hb1.mono HB0.out.size))
    clear hb1
    go_wp2
    go_ret
    exact ⟨rfl, HB1.out⟩
set_option maxHeartbeats 2000000 in
theorem whole_main (k l n : Int) (A : Option Addr) (s : Tx) (m C : Nat) (G : Nat → Prop) (k' l' n' : Int) (A' : Option Addr) (s' : Tx) (m' C' : Nat) (G' : Nat → Prop) (w : World) (hm : m = s.length) (hm' : m' = s'.length) (hA : A = none → m = 0 ∧ C = 0) (hA' : A' = none → m' = 0 ∧ C' = 0) (hr : RdL w A s G) (hr' : RdL w A' s' G') (h : m ≤ 100) (h' : m' ≤ 100) :
    Calls Try.prog 6 #[.agg #[.int .i64 k, .int .i64 l, .int .i64 n, .slice A m C], .agg #[.int .i64 k', .int .i64 l', .int .i64 n', .slice A' m' C']] w (AnsB9 true w) := by
  obtain ⟨wa, hwa⟩ : ∃ wa, wa = (w.alloc (unitObj k l n A m C)).alloc (unitObj k' l' n' A' m' C') := ⟨_, rfl⟩
  have HB0 : Hid (Below w.heap.size w wa) := Lib.hid (by rw [hwa]; exact ((Below.refl _ _).alloc (Nat.le_refl _) _).alloc (by simp) _)
  have HU0 : Hid (wa.heap[w.heap.size]? = some (unitObj k l n A m C)) := Lib.hid (by rw [hwa, Below.heap_alloc _ _ _ (by simp)]; exact Go.Deep.blk_alloc_new _ _)
  have HV0 : Hid (wa.heap[w.heap.size + 1]? = some (unitObj k' l' n' A' m' C')) := Lib.hid (by
    have := Go.Deep.blk_alloc_new (w.alloc (unitObj k l n A m C)) (unitObj k' l' n' A' m' C')
    rw [hwa]; simpa using this)
  have HW := Lib.hid hwa
  unfold unitObj at HW
  clear hwa
  have p1 : decide (100 < (m : Int)) = false := decide_eq_false (by omega)
  have p2 : decide (100 < (m' : Int)) = false := decide_eq_false (by omega)
  have p3 : decide (100 < m) = false := decide_eq_false (by omega)
  have p4 : decide (100 < m') = false := decide_eq_false (by omega)
  have HR0 : Hid (RdL wa A s G) := Lib.hid (hr.old HB0.out)
  have HR0' : Hid (RdL wa A' s' G') := Lib.hid (hr'.old HB0.out)
  have HM := Lib.hid hm
  have HM' := Lib.hid hm'
  have HA := Lib.hid hA
  have HA' := Lib.hid hA'
  obtain ⟨er, her⟩ : ∃ er, er = Fm.err ⟨k, l, n, s⟩ := ⟨_, rfl⟩
  obtain ⟨er', her'⟩ : ∃ er, er = Fm.err ⟨k', l', n', s'⟩ := ⟨_, rfl⟩
  have HE := Lib.hid her
  have HE' := Lib.hid her'
  clear hr hr' hm hm' hA hA' her her'
  go_enter Try.func6, Try.ntmps6
  go_wp2_with fail
  rw [← HW.out]
  refine (alive9_true wa).mono ?_
  rintro e w1 ⟨rfl, hb1⟩
  have HU1 := Lib.hid (below_unit hb1 HU0.out)
  have HV1 := Lib.hid (below_unit hb1 HV0.out)
  have HR1 := Lib.hid (HR0.out.old hb1)
  have HR1' := Lib.hid (HR0'.out.old hb1)
  have HB1 := Lib.hid (HB0.out.trans (hb1.mono HB0.out.size))
  clear hb1
  obtain ⟨a0, a1, a2, a3⟩ := unit4 HU1.out
  obtain ⟨b0, b1, b2, b3⟩ := unit4 HV1.out
  go_wp2_with fail
  refine (framePut_any k l n A s m C _ w1 HM.out HA.out HR1.out).mono ?_
  rintro e w2 ⟨A2, n2, C2, rfl, hn2, -, -, -, hr2, hb2⟩
  have HU2 := Lib.hid (below_unit hb2 HU1.out)
  have HV2 := Lib.hid (below_unit hb2 HV1.out)
  have HR2 := Lib.hid (HR1.out.old hb2)
  have HR2' := Lib.hid (HR1'.out.old hb2)
  have HB2 := Lib.hid (HB1.out.trans (hb2.mono HB1.out.size))
  have HX2 := Lib.hid hr2
  have HN2 := Lib.hid hn2
  rw [← HE.out]
  clear hb2 hr2 hn2 a0 a1 a2 a3 b0 b1 b2 b3
  obtain ⟨a0, a1, a2, a3⟩ := unit4 HU2.out
  obtain ⟨b0, b1, b2, b3⟩ := unit4 HV2.out
  go_wp2_with fail
  refine (framePut_any k' l' n' A' s' m' C' _ w2 HM'.out HA'.out HR2'.out).mono ?_
  rintro e w3 ⟨A3, n3, C3, rfl, hn3, -, -, -, hr3, hb3⟩
  have HU3 := Lib.hid (below_unit hb3 HU2.out)
  have HV3 := Lib.hid (below_unit hb3 HV2.out)
  have HR3 := Lib.hid (HR2.out.old hb3)
  have HR3' := Lib.hid (HR2'.out.old hb3)
  have HB3 := Lib.hid (HB2.out.trans (hb3.mono HB2.out.size))
  have HX3 := Lib.hid (HX2.out.old hb3)
  have HY3 := Lib.hid hr3
  have HN3 := Lib.hid hn3
  rw [← HE'.out]
  clear hb3 hr3 hn3 a0 a1 a2 a3 b0 b1 b2 b3
  by_cases he : er = 0
  · subst he
    by_cases he' : er' = 0
    · subst he'
      have hok := Fm.err_zero.1 HE.out.symm
      have hok' := Fm.err_zero.1 HE'.out.symm
      obtain ⟨x, hx⟩ : ∃ x, x = Fm.put ⟨k, l, n, s⟩ := ⟨_, rfl⟩
      obtain ⟨y, hy⟩ : ∃ y, y = Fm.put ⟨k', l', n', s'⟩ := ⟨_, rfl⟩
      have hxy : (x == y) = Fm.same ⟨k, l, n, s⟩ ⟨k', l', n', s'⟩ := by
        rw [hx, hy, Fm.put_ok hok, Fm.put_ok hok']
        cases hs : Fm.same ⟨k, l, n, s⟩ ⟨k', l', n', s'⟩ with
        | true => rw [Fm.same_iff.1 hs]; simp
        | false =>
          refine beq_eq_false_iff_ne.2 fun e => ?_
          rw [Fm.blk_inj hok hok' e, Fm.same_self] at hs
          cases hs
      obtain ⟨q, hq⟩ : ∃ q, q = Fm.same ⟨k, l, n, s⟩ ⟨k', l', n', s'⟩ := ⟨_, rfl⟩
      have hsm : ∀ wx, RdL wx A s G → RdL wx A' s' G' → Calls Try.prog 13 #[.agg #[.int .i64 k, .int .i64 l, .int .i64 n, .slice A m C], .agg #[.int .i64 k', .int .i64 l', .int .i64 n', .slice A' m' C']] wx (AnsB9 q wx) := fun wx h1 h2 => by
        rw [hq]; exact same9 k l n A s m C G k' l' n' A' s' m' C' G' wx HM.out HM'.out h1 h2
      have HSM := Lib.hid hsm
      rw [← hq] at hxy
      rw [← hx] at HX3 HN2
      rw [← hy] at HY3 HN3
      have e1 := tx_toList x
      have e2 := tx_toList y
      clear hok hok' hx hy hq hsm
      go_wp2_with (go_at_call 12; refine (num9 _ _).mono ?_; rintro e w' ⟨rfl, hw'⟩; subst hw')
      have hbel : Below w3.heap.size w3 w3.drew := (Below.refl _ _).drew
      have S0 : ∀ wx, Below w3.heap.size w3 wx → wx.cell? ⟨w.heap.size, 0, none⟩ = some (.int .i64 k) ∧ wx.cell? ⟨w.heap.size, 1, none⟩ = some (.int .i64 l) ∧ wx.cell? ⟨w.heap.size, 2, none⟩ = some (.int .i64 n) ∧ wx.cell? ⟨w.heap.size, 3, none⟩ = some (.slice A m C) ∧
          wx.cell? ⟨w.heap.size + 1, 0, none⟩ = some (.int .i64 k') ∧ wx.cell? ⟨w.heap.size + 1, 1, none⟩ = some (.int .i64 l') ∧ wx.cell? ⟨w.heap.size + 1, 2, none⟩ = some (.int .i64 n') ∧ wx.cell? ⟨w.heap.size + 1, 3, none⟩ = some (.slice A' m' C') ∧
          (convert 22 9 (.slice A2 n2 C2)).run Try.prog wx = .ok (.string (tx x)) wx ∧ (convert 22 9 (.slice A3 n3 C3)).run Try.prog wx = .ok (.string (tx y)) wx ∧ Below w3.heap.size w3 wx := fun wx hb => by
        obtain ⟨a0, a1, a2, a3⟩ := unit4 (below_unit hb HU3.out)
        obtain ⟨b0, b1, b2, b3⟩ := unit4 (below_unit hb HV3.out)
        have t1 := (HX3.out.old hb).str C2
        have t2 := (HY3.out.old hb).str C3
        rw [← HN2.out] at t1
        rw [← HN3.out] at t2
        exact ⟨a0, a1, a2, a3, b0, b1, b2, b3, t1, t2, hb⟩
      have HS0 := Lib.hid S0
      clear S0
      have D0 := HS0.out _ hbel
      go_wp2_with fail
      cases q
      all_goals
        go_region_held3 (fun wx => wx.cell? ⟨w.heap.size, 0, none⟩ = some (.int .i64 k) ∧ wx.cell? ⟨w.heap.size, 1, none⟩ = some (.int .i64 l) ∧ wx.cell? ⟨w.heap.size, 2, none⟩ = some (.int .i64 n) ∧ wx.cell? ⟨w.heap.size, 3, none⟩ = some (.slice A m C) ∧
          wx.cell? ⟨w.heap.size + 1, 0, none⟩ = some (.int .i64 k') ∧ wx.cell? ⟨w.heap.size + 1, 1, none⟩ = some (.int .i64 l') ∧ wx.cell? ⟨w.heap.size + 1, 2, none⟩ = some (.int .i64 n') ∧ wx.cell? ⟨w.heap.size + 1, 3, none⟩ = some (.slice A' m' C') ∧
          (convert 22 9 (.slice A2 n2 C2)).run Try.prog wx = .ok (.string (tx x)) wx ∧ (convert 22 9 (.slice A3 n3 C3)).run Try.prog wx = .ok (.string (tx y)) wx ∧ Below w3.heap.size w3 wx)
          (first | exact D1 | exact D0)
          (first
            | (go_at_call 13; refine (HSM.out w3.drew (HR3.out.old hbel) (HR3'.out.old hbel)).mono ?_; rintro e wn ⟨rfl, hbn⟩; have hbn' : Below w3.heap.size w3 wn := hbel.trans hbn; have D1 := HS0.out _ hbn'; have HB4 := Lib.hid (HB3.out.trans (hbn'.mono HB3.out.size)); clear hbn hbn'))
        go_wp2
        go_ret
        exact ⟨rfl, HB4.out⟩
    · have z1 : (er' == 0) = false := beq_eq_false_iff_ne.2 he'
      have z2 : (er' != 0) = true := bne_iff_ne.2 he'
      go_wp2_with (go_at_call 12; refine (num9 _ _).mono ?_; rintro e w' ⟨rfl, hw'⟩; subst hw')
      go_ret
      exact ⟨rfl, HB3.out⟩
  · have z1 : (er == 0) = false := beq_eq_false_iff_ne.2 he
    have z2 : (er != 0) = true := bne_iff_ne.2 he
    go_wp2_with (go_at_call 12; refine (num9 _ _).mono ?_; rintro e w' ⟨rfl, hw'⟩; subst hw')
    go_ret
    exact ⟨rfl, HB3.out⟩
theorem whole_any (k l n : Int) (A : Option Addr) (s : Tx) (m C : Nat) (G : Nat → Prop) (k' l' n' : Int) (A' : Option Addr) (s' : Tx) (m' C' : Nat) (G' : Nat → Prop) (w : World) (hm : m = s.length) (hm' : m' = s'.length) (hA : A = none → m = 0 ∧ C = 0) (hA' : A' = none → m' = 0 ∧ C' = 0) (hr : RdL w A s G) (hr' : RdL w A' s' G') :
    Calls Try.prog 6 #[.agg #[.int .i64 k, .int .i64 l, .int .i64 n, .slice A m C], .agg #[.int .i64 k', .int .i64 l', .int .i64 n', .slice A' m' C']] w (AnsB9 true w) := by
  by_cases h : m ≤ 100
  · by_cases h' : m' ≤ 100
    · exact whole_main k l n A s m C G k' l' n' A' s' m' C' G' w hm hm' hA hA' hr hr' h h'
    · exact whole_big k l n A m C k' l' n' A' m' C' w (.inr (by omega))
  · exact whole_big k l n A m C k' l' n' A' m' C' w (.inl (by omega))
end Go.Proofs.Ytmonhgefmapiaaa
