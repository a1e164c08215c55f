/- What the document's own RightHead answers. -/
import Derived.Test.YtdllkbjbklhigaaDoorRcWords
import Derived.Test.YtdllkbjbklhigaaDoorRefPt
namespace Go.Proofs.YtdllkbjbklhigaaDoor
open Go.RowKit
open Pt (Tx)

set_option maxHeartbeats 8000000 in
theorem refRight_C (p : Tx) (v z f l s m : Int) (g : Bool) (w : World) (hl : p.length ≤ maxLen) (hp : Pt.right p = true) (c1 : ¬ v < 1) (c2 : ¬ 1073741824 < v) (c3 : ¬ s < 1) (c4 : ¬ 1073741824 < s) (c5 : ¬ z < 0) (c6 : ¬ 4000 < z) (c7 : ¬ f < 0) (c8 : ¬ l < 0) (c9 : ¬ z < f) (c10 : ¬ z - f < l) (c11 : ¬ (l = 0 ∧ 0 < z)) :
    Calls Tryd.prog 8 #[.agg #[.string (tx p), .int .i64 v, .int .i64 z, .int .i64 f, .int .i64 l, .int .i64 s, .int .i64 m, .bool g]] w (AnsB (decide (Rc.Ok ⟨p, v, z, f, l, s, m, g⟩)) w) := by
  have HB0 : Hid (Below w.heap.size w (w.alloc (headObj p v z f l s m g))) := Lib.hid ((Below.refl _ _).alloc (Nat.le_refl _) _)
  have HU0 : Hid ((w.alloc (headObj p v z f l s m g)).heap[w.heap.size]? = some (headObj p v z f l s m g)) := Lib.hid (Go.Deep.blk_alloc_new _ _)
  have hcall := refRight_any p (w.alloc (headObj p v z f l s m g)) hl
  obtain ⟨r, hr⟩ : ∃ r, r = Pt.right p := ⟨_, rfl⟩
  rw [← hr] at hcall
  have HC := Lib.hid hcall
  have HR := Lib.hid hr
  clear hl hcall
  obtain ⟨a0, a1, a2, a3, a4, a5, a6, a7⟩ := head8 HU0.out
  unfold headObj at a0 a1 a2 a3 a4 a5 a6 a7 HC
  have hrt : r = true := hr.trans hp
  subst hrt
  clear hr hp
  have q1 : decide (v < 1) = false := decide_eq_false c1
  have q2 : decide (1073741824 < v) = false := decide_eq_false c2
  have q3 : decide (s < 1) = false := decide_eq_false c3
  have q4 : decide (1073741824 < s) = false := decide_eq_false c4
  have q5 : decide (z < 0) = false := decide_eq_false c5
  have q6 : decide (4000 < z) = false := decide_eq_false c6
  have q7 : decide (f < 0) = false := decide_eq_false c7
  have q8 : decide (l < 0) = false := decide_eq_false c8
  have q9 : decide (z < f) = false := decide_eq_false c9
  have q10 : decide (z - f < l) = false := decide_eq_false c10
  by_cases c13 : m < 0
  · have q13 : decide (m < 0) = true := decide_eq_true c13
    by_cases e : l = 0
    · have q11 : (l == 0) = true := beq_iff_eq.2 e
      have q12 : decide (0 < z) = false := decide_eq_false (by omega)
      have HF : Hid (decide (Rc.Ok ⟨p, v, z, f, l, s, m, g⟩) = false) := Lib.hid (decide_eq_false fun hk => by
        obtain ⟨k1, ⟨k2, k3⟩, ⟨k4, k5⟩, ⟨k6, k7⟩, k8, k9, k10, k11, ⟨k12, k13⟩, k14⟩ := hk
        simp only at *
        omega)
      clear c1 c2 c3 c4 c11 e c13
      go_enter Tryd.func8, Tryd.ntmps8
      dsimp only [List.append]
      go_wp2_with fail
      refine HC.out.mono ?_
      rintro e w1 ⟨rfl, hb⟩
      have HU1 := Lib.hid (below_head hb HU0.out)
      have HB1 := Lib.hid (HB0.out.trans (hb.mono HB0.out.size))
      clear hb a0 a1 a2 a3 a4 a5 a6 a7
      obtain ⟨a0, a1, a2, a3, a4, a5, a6, a7⟩ := head8 HU1.out
      go_wp2
      all_goals go_ret
      all_goals rw [HF.out]
      all_goals exact ⟨rfl, HB1.out⟩
    · have q11 : (l == 0) = false := beq_eq_false_iff_ne.2 e
      have HF : Hid (decide (Rc.Ok ⟨p, v, z, f, l, s, m, g⟩) = false) := Lib.hid (decide_eq_false fun hk => by
        obtain ⟨k1, ⟨k2, k3⟩, ⟨k4, k5⟩, ⟨k6, k7⟩, k8, k9, k10, k11, ⟨k12, k13⟩, k14⟩ := hk
        simp only at *
        omega)
      clear c1 c2 c3 c4 c11 e c13
      go_enter Tryd.func8, Tryd.ntmps8
      dsimp only [List.append]
      go_wp2_with fail
      refine HC.out.mono ?_
      rintro e w1 ⟨rfl, hb⟩
      have HU1 := Lib.hid (below_head hb HU0.out)
      have HB1 := Lib.hid (HB0.out.trans (hb.mono HB0.out.size))
      clear hb a0 a1 a2 a3 a4 a5 a6 a7
      obtain ⟨a0, a1, a2, a3, a4, a5, a6, a7⟩ := head8 HU1.out
      go_wp2
      all_goals go_ret
      all_goals rw [HF.out]
      all_goals exact ⟨rfl, HB1.out⟩
  have q13 : decide (m < 0) = false := decide_eq_false c13
  by_cases c14 : 4294967295 < m
  · have q14 : decide (4294967295 < m) = true := decide_eq_true c14
    by_cases e : l = 0
    · have q11 : (l == 0) = true := beq_iff_eq.2 e
      have q12 : decide (0 < z) = false := decide_eq_false (by omega)
      have HF : Hid (decide (Rc.Ok ⟨p, v, z, f, l, s, m, g⟩) = false) := Lib.hid (decide_eq_false fun hk => by
        obtain ⟨k1, ⟨k2, k3⟩, ⟨k4, k5⟩, ⟨k6, k7⟩, k8, k9, k10, k11, ⟨k12, k13⟩, k14⟩ := hk
        simp only at *
        omega)
      clear c1 c2 c3 c4 c11 e c13 c14
      go_enter Tryd.func8, Tryd.ntmps8
      dsimp only [List.append]
      go_wp2_with fail
      refine HC.out.mono ?_
      rintro e w1 ⟨rfl, hb⟩
      have HU1 := Lib.hid (below_head hb HU0.out)
      have HB1 := Lib.hid (HB0.out.trans (hb.mono HB0.out.size))
      clear hb a0 a1 a2 a3 a4 a5 a6 a7
      obtain ⟨a0, a1, a2, a3, a4, a5, a6, a7⟩ := head8 HU1.out
      go_wp2
      all_goals go_ret
      all_goals rw [HF.out]
      all_goals exact ⟨rfl, HB1.out⟩
    · have q11 : (l == 0) = false := beq_eq_false_iff_ne.2 e
      have HF : Hid (decide (Rc.Ok ⟨p, v, z, f, l, s, m, g⟩) = false) := Lib.hid (decide_eq_false fun hk => by
        obtain ⟨k1, ⟨k2, k3⟩, ⟨k4, k5⟩, ⟨k6, k7⟩, k8, k9, k10, k11, ⟨k12, k13⟩, k14⟩ := hk
        simp only at *
        omega)
      clear c1 c2 c3 c4 c11 e c13 c14
      go_enter Tryd.func8, Tryd.ntmps8
      dsimp only [List.append]
      go_wp2_with fail
      refine HC.out.mono ?_
      rintro e w1 ⟨rfl, hb⟩
      have HU1 := Lib.hid (below_head hb HU0.out)
      have HB1 := Lib.hid (HB0.out.trans (hb.mono HB0.out.size))
      clear hb a0 a1 a2 a3 a4 a5 a6 a7
      obtain ⟨a0, a1, a2, a3, a4, a5, a6, a7⟩ := head8 HU1.out
      go_wp2
      all_goals go_ret
      all_goals rw [HF.out]
      all_goals exact ⟨rfl, HB1.out⟩
  have q14 : decide (4294967295 < m) = false := decide_eq_false c14
  by_cases e : l = 0
  · have q11 : (l == 0) = true := beq_iff_eq.2 e
    have q12 : decide (0 < z) = false := decide_eq_false (by omega)
    cases g with
    | false =>
      have HF : Hid (decide (Rc.Ok ⟨p, v, z, f, l, s, m, false⟩) = true) := Lib.hid (decide_eq_true (by
        refine ⟨HR.out.symm, ⟨by show 1 ≤ v; omega, by show v ≤ 1073741824; omega⟩, ⟨by show 1 ≤ s; omega, by show s ≤ 1073741824; omega⟩, ⟨by show 0 ≤ z; omega, by show z ≤ 4000; omega⟩, (by show 0 ≤ f; omega), (by show 0 ≤ l; omega), (by show f + l ≤ z; omega), (by show 0 < l ∨ z = 0; omega), ⟨by show 0 ≤ m; omega, by show m ≤ 4294967295; omega⟩, fun h => by cases h⟩))
      clear c1 c2 c3 c4 c11 c13 c14 e
      go_enter Tryd.func8, Tryd.ntmps8
      dsimp only [List.append]
      go_wp2_with fail
      refine HC.out.mono ?_
      rintro e w1 ⟨rfl, hb⟩
      have HU1 := Lib.hid (below_head hb HU0.out)
      have HB1 := Lib.hid (HB0.out.trans (hb.mono HB0.out.size))
      clear hb a0 a1 a2 a3 a4 a5 a6 a7
      obtain ⟨a0, a1, a2, a3, a4, a5, a6, a7⟩ := head8 HU1.out
      go_wp2
      all_goals go_ret
      all_goals rw [HF.out]
      all_goals exact ⟨rfl, HB1.out⟩
    | true =>
      have q15 : (z == 0) = true := beq_iff_eq.2 (by omega)
      have q16 : (f == 0) = true := beq_iff_eq.2 (by omega)
      by_cases em : m = 0
      · have q17 : (m == 0) = true := beq_iff_eq.2 em
        have HF : Hid (decide (Rc.Ok ⟨p, v, z, f, l, s, m, true⟩) = true) := Lib.hid (decide_eq_true (by
          refine ⟨HR.out.symm, ⟨by show 1 ≤ v; omega, by show v ≤ 1073741824; omega⟩, ⟨by show 1 ≤ s; omega, by show s ≤ 1073741824; omega⟩, ⟨by show 0 ≤ z; omega, by show z ≤ 4000; omega⟩, (by show 0 ≤ f; omega), (by show 0 ≤ l; omega), (by show f + l ≤ z; omega), (by show 0 < l ∨ z = 0; omega), ⟨by show 0 ≤ m; omega, by show m ≤ 4294967295; omega⟩, fun _ => ⟨by show z = 0; omega, by show f = 0; omega, by show l = 0; omega, by show m = 0; omega⟩⟩))
        clear c1 c2 c3 c4 c11 c13 c14 e em
        go_enter Tryd.func8, Tryd.ntmps8
        dsimp only [List.append]
        go_wp2_with fail
        refine HC.out.mono ?_
        rintro e w1 ⟨rfl, hb⟩
        have HU1 := Lib.hid (below_head hb HU0.out)
        have HB1 := Lib.hid (HB0.out.trans (hb.mono HB0.out.size))
        clear hb a0 a1 a2 a3 a4 a5 a6 a7
        obtain ⟨a0, a1, a2, a3, a4, a5, a6, a7⟩ := head8 HU1.out
        go_wp2
        all_goals go_ret
        all_goals rw [HF.out]
        all_goals exact ⟨rfl, HB1.out⟩
      · have q17 : (m == 0) = false := beq_eq_false_iff_ne.2 em
        have HF : Hid (decide (Rc.Ok ⟨p, v, z, f, l, s, m, true⟩) = false) := Lib.hid (decide_eq_false fun hk => by
          obtain ⟨k1, ⟨k2, k3⟩, ⟨k4, k5⟩, ⟨k6, k7⟩, k8, k9, k10, k11, ⟨k12, k13⟩, k14⟩ := hk
          obtain ⟨k15, k16, k17, k18⟩ := k14 rfl
          simp only at *
          omega)
        clear c1 c2 c3 c4 c11 c13 c14 e em
        go_enter Tryd.func8, Tryd.ntmps8
        dsimp only [List.append]
        go_wp2_with fail
        refine HC.out.mono ?_
        rintro e w1 ⟨rfl, hb⟩
        have HU1 := Lib.hid (below_head hb HU0.out)
        have HB1 := Lib.hid (HB0.out.trans (hb.mono HB0.out.size))
        clear hb a0 a1 a2 a3 a4 a5 a6 a7
        obtain ⟨a0, a1, a2, a3, a4, a5, a6, a7⟩ := head8 HU1.out
        go_wp2
        all_goals go_ret
        all_goals rw [HF.out]
        all_goals exact ⟨rfl, HB1.out⟩
  · have q11 : (l == 0) = false := beq_eq_false_iff_ne.2 e
    cases g with
    | false =>
      have HF : Hid (decide (Rc.Ok ⟨p, v, z, f, l, s, m, false⟩) = true) := Lib.hid (decide_eq_true (by
        refine ⟨HR.out.symm, ⟨by show 1 ≤ v; omega, by show v ≤ 1073741824; omega⟩, ⟨by show 1 ≤ s; omega, by show s ≤ 1073741824; omega⟩, ⟨by show 0 ≤ z; omega, by show z ≤ 4000; omega⟩, (by show 0 ≤ f; omega), (by show 0 ≤ l; omega), (by show f + l ≤ z; omega), (by show 0 < l ∨ z = 0; omega), ⟨by show 0 ≤ m; omega, by show m ≤ 4294967295; omega⟩, fun h => by cases h⟩))
      clear c1 c2 c3 c4 c11 c13 c14 e
      go_enter Tryd.func8, Tryd.ntmps8
      dsimp only [List.append]
      go_wp2_with fail
      refine HC.out.mono ?_
      rintro e w1 ⟨rfl, hb⟩
      have HU1 := Lib.hid (below_head hb HU0.out)
      have HB1 := Lib.hid (HB0.out.trans (hb.mono HB0.out.size))
      clear hb a0 a1 a2 a3 a4 a5 a6 a7
      obtain ⟨a0, a1, a2, a3, a4, a5, a6, a7⟩ := head8 HU1.out
      go_wp2
      all_goals go_ret
      all_goals rw [HF.out]
      all_goals exact ⟨rfl, HB1.out⟩
    | true =>
      have q15 : (z == 0) = false := beq_eq_false_iff_ne.2 (by omega)
      have HF : Hid (decide (Rc.Ok ⟨p, v, z, f, l, s, m, true⟩) = false) := Lib.hid (decide_eq_false fun hk => by
        obtain ⟨k1, ⟨k2, k3⟩, ⟨k4, k5⟩, ⟨k6, k7⟩, k8, k9, k10, k11, ⟨k12, k13⟩, k14⟩ := hk
        obtain ⟨k15, k16, k17, k18⟩ := k14 rfl
        simp only at *
        omega)
      clear c1 c2 c3 c4 c11 c13 c14 e
      go_enter Tryd.func8, Tryd.ntmps8
      dsimp only [List.append]
      go_wp2_with fail
      refine HC.out.mono ?_
      rintro e w1 ⟨rfl, hb⟩
      have HU1 := Lib.hid (below_head hb HU0.out)
      have HB1 := Lib.hid (HB0.out.trans (hb.mono HB0.out.size))
      clear hb a0 a1 a2 a3 a4 a5 a6 a7
      obtain ⟨a0, a1, a2, a3, a4, a5, a6, a7⟩ := head8 HU1.out
      go_wp2
      all_goals go_ret
      all_goals rw [HF.out]
      all_goals exact ⟨rfl, HB1.out⟩
end Go.Proofs.YtdllkbjbklhigaaDoor
