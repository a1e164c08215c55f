/- What the document's own RightHead answers. -/
import Derived.Test.YtdllkbjbklhigaaDoorRcWords
import Derived.Test.YtdllkbjbklhigaaDoorRefPt
namespace Go.Proofs.YtdllkbjbklhigaaDoor
open Go.RowKit
open Pt (Tx)

set_option maxHeartbeats 8000000 in
theorem refRight_B (p : Tx) (v z f l s m : Int) (g : Bool) (w : World) (hl : p.length ≤ maxLen) (hp : Pt.right p = true) (c1 : ¬ v < 1) (c2 : ¬ 1073741824 < v) (c3 : ¬ s < 1) (c4 : ¬ 1073741824 < s) (c5 : ¬ z < 0) (h : 4000 < z ∨ f < 0 ∨ l < 0 ∨ z < f ∨ z - f < l ∨ l = 0 ∧ 0 < z) :
    Calls Tryd.prog 8 #[.agg #[.string (tx p), .int .i64 v, .int .i64 z, .int .i64 f, .int .i64 l, .int .i64 s, .int .i64 m, .bool g]] w (AnsB (decide (Rc.Ok ⟨p, v, z, f, l, s, m, g⟩)) w) := by
  have HB0 : Hid (Below w.heap.size w (w.alloc (headObj p v z f l s m g))) := Lib.hid ((Below.refl _ _).alloc (Nat.le_refl _) _)
  have HU0 : Hid ((w.alloc (headObj p v z f l s m g)).heap[w.heap.size]? = some (headObj p v z f l s m g)) := Lib.hid (Go.Deep.blk_alloc_new _ _)
  have hcall := refRight_any p (w.alloc (headObj p v z f l s m g)) hl
  obtain ⟨r, hr⟩ : ∃ r, r = Pt.right p := ⟨_, rfl⟩
  rw [← hr] at hcall
  have HC := Lib.hid hcall
  have HR := Lib.hid hr
  clear hl hcall
  obtain ⟨a0, a1, a2, a3, a4, a5, a6, a7⟩ := head8 HU0.out
  unfold headObj at a0 a1 a2 a3 a4 a5 a6 a7 HC
  have hrt : r = true := hr.trans hp
  subst hrt
  clear hr hp
  have q1 : decide (v < 1) = false := decide_eq_false c1
  have q2 : decide (1073741824 < v) = false := decide_eq_false c2
  have q3 : decide (s < 1) = false := decide_eq_false c3
  have q4 : decide (1073741824 < s) = false := decide_eq_false c4
  have q5 : decide (z < 0) = false := decide_eq_false c5
  by_cases c6 : 4000 < z
  · have q6 : decide (4000 < z) = true := decide_eq_true c6
    have HF : Hid (decide (Rc.Ok ⟨p, v, z, f, l, s, m, g⟩) = false) := Lib.hid (decide_eq_false fun hk => by
      obtain ⟨k1, ⟨k2, k3⟩, ⟨k4, k5⟩, ⟨k6, k7⟩, k8, k9, k10, k11, ⟨k12, k13⟩, k14⟩ := hk
      simp only at *
      omega)
    clear c1 c2 c3 c4 c6
    go_enter Tryd.func8, Tryd.ntmps8
    dsimp only [List.append]
    go_wp2_with fail
    refine HC.out.mono ?_
    rintro e w1 ⟨rfl, hb⟩
    have HU1 := Lib.hid (below_head hb HU0.out)
    have HB1 := Lib.hid (HB0.out.trans (hb.mono HB0.out.size))
    clear hb a0 a1 a2 a3 a4 a5 a6 a7
    obtain ⟨a0, a1, a2, a3, a4, a5, a6, a7⟩ := head8 HU1.out
    go_wp2
    all_goals go_ret
    all_goals rw [HF.out]
    all_goals exact ⟨rfl, HB1.out⟩
  have q6 : decide (4000 < z) = false := decide_eq_false c6
  by_cases c7 : f < 0
  · have q7 : decide (f < 0) = true := decide_eq_true c7
    have HF : Hid (decide (Rc.Ok ⟨p, v, z, f, l, s, m, g⟩) = false) := Lib.hid (decide_eq_false fun hk => by
      obtain ⟨k1, ⟨k2, k3⟩, ⟨k4, k5⟩, ⟨k6, k7⟩, k8, k9, k10, k11, ⟨k12, k13⟩, k14⟩ := hk
      simp only at *
      omega)
    clear c1 c2 c3 c4 c7
    go_enter Tryd.func8, Tryd.ntmps8
    dsimp only [List.append]
    go_wp2_with fail
    refine HC.out.mono ?_
    rintro e w1 ⟨rfl, hb⟩
    have HU1 := Lib.hid (below_head hb HU0.out)
    have HB1 := Lib.hid (HB0.out.trans (hb.mono HB0.out.size))
    clear hb a0 a1 a2 a3 a4 a5 a6 a7
    obtain ⟨a0, a1, a2, a3, a4, a5, a6, a7⟩ := head8 HU1.out
    go_wp2
    all_goals go_ret
    all_goals rw [HF.out]
    all_goals exact ⟨rfl, HB1.out⟩
  have q7 : decide (f < 0) = false := decide_eq_false c7
  by_cases c8 : l < 0
  · have q8 : decide (l < 0) = true := decide_eq_true c8
    have HF : Hid (decide (Rc.Ok ⟨p, v, z, f, l, s, m, g⟩) = false) := Lib.hid (decide_eq_false fun hk => by
      obtain ⟨k1, ⟨k2, k3⟩, ⟨k4, k5⟩, ⟨k6, k7⟩, k8, k9, k10, k11, ⟨k12, k13⟩, k14⟩ := hk
      simp only at *
      omega)
    clear c1 c2 c3 c4 c8
    go_enter Tryd.func8, Tryd.ntmps8
    dsimp only [List.append]
    go_wp2_with fail
    refine HC.out.mono ?_
    rintro e w1 ⟨rfl, hb⟩
    have HU1 := Lib.hid (below_head hb HU0.out)
    have HB1 := Lib.hid (HB0.out.trans (hb.mono HB0.out.size))
    clear hb a0 a1 a2 a3 a4 a5 a6 a7
    obtain ⟨a0, a1, a2, a3, a4, a5, a6, a7⟩ := head8 HU1.out
    go_wp2
    all_goals go_ret
    all_goals rw [HF.out]
    all_goals exact ⟨rfl, HB1.out⟩
  have q8 : decide (l < 0) = false := decide_eq_false c8
  by_cases c9 : z < f
  · have q9 : decide (z < f) = true := decide_eq_true c9
    have HF : Hid (decide (Rc.Ok ⟨p, v, z, f, l, s, m, g⟩) = false) := Lib.hid (decide_eq_false fun hk => by
      obtain ⟨k1, ⟨k2, k3⟩, ⟨k4, k5⟩, ⟨k6, k7⟩, k8, k9, k10, k11, ⟨k12, k13⟩, k14⟩ := hk
      simp only at *
      omega)
    clear c1 c2 c3 c4 c9
    go_enter Tryd.func8, Tryd.ntmps8
    dsimp only [List.append]
    go_wp2_with fail
    refine HC.out.mono ?_
    rintro e w1 ⟨rfl, hb⟩
    have HU1 := Lib.hid (below_head hb HU0.out)
    have HB1 := Lib.hid (HB0.out.trans (hb.mono HB0.out.size))
    clear hb a0 a1 a2 a3 a4 a5 a6 a7
    obtain ⟨a0, a1, a2, a3, a4, a5, a6, a7⟩ := head8 HU1.out
    go_wp2
    all_goals go_ret
    all_goals rw [HF.out]
    all_goals exact ⟨rfl, HB1.out⟩
  have q9 : decide (z < f) = false := decide_eq_false c9
  by_cases c10 : z - f < l
  · have q10 : decide (z - f < l) = true := decide_eq_true c10
    have HF : Hid (decide (Rc.Ok ⟨p, v, z, f, l, s, m, g⟩) = false) := Lib.hid (decide_eq_false fun hk => by
      obtain ⟨k1, ⟨k2, k3⟩, ⟨k4, k5⟩, ⟨k6, k7⟩, k8, k9, k10, k11, ⟨k12, k13⟩, k14⟩ := hk
      simp only at *
      omega)
    clear c1 c2 c3 c4 c10
    go_enter Tryd.func8, Tryd.ntmps8
    dsimp only [List.append]
    go_wp2_with fail
    refine HC.out.mono ?_
    rintro e w1 ⟨rfl, hb⟩
    have HU1 := Lib.hid (below_head hb HU0.out)
    have HB1 := Lib.hid (HB0.out.trans (hb.mono HB0.out.size))
    clear hb a0 a1 a2 a3 a4 a5 a6 a7
    obtain ⟨a0, a1, a2, a3, a4, a5, a6, a7⟩ := head8 HU1.out
    go_wp2
    all_goals go_ret
    all_goals rw [HF.out]
    all_goals exact ⟨rfl, HB1.out⟩
  have q10 : decide (z - f < l) = false := decide_eq_false c10
  have q11 : (l == 0) = true := beq_iff_eq.2 (by omega)
  have q12 : decide (0 < z) = true := decide_eq_true (by omega)
  have HF : Hid (decide (Rc.Ok ⟨p, v, z, f, l, s, m, g⟩) = false) := Lib.hid (decide_eq_false fun hk => by
    obtain ⟨k1, ⟨k2, k3⟩, ⟨k4, k5⟩, ⟨k6, k7⟩, k8, k9, k10, k11, ⟨k12, k13⟩, k14⟩ := hk
    simp only at *
    omega)
  clear c1 c2 c3 c4 h
  go_enter Tryd.func8, Tryd.ntmps8
  dsimp only [List.append]
  go_wp2_with fail
  refine HC.out.mono ?_
  rintro e w1 ⟨rfl, hb⟩
  have HU1 := Lib.hid (below_head hb HU0.out)
  have HB1 := Lib.hid (HB0.out.trans (hb.mono HB0.out.size))
  clear hb a0 a1 a2 a3 a4 a5 a6 a7
  obtain ⟨a0, a1, a2, a3, a4, a5, a6, a7⟩ := head8 HU1.out
  go_wp2
  all_goals go_ret
  all_goals rw [HF.out]
  all_goals exact ⟨rfl, HB1.out⟩
end Go.Proofs.YtdllkbjbklhigaaDoor
