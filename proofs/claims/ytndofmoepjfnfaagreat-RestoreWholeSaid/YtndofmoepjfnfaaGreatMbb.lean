/- What the document's own RightHead answers. What the document's own RightHead answers. What the document's own RightHead answers. What the document's own RightHead answers. What Text of the document's own Writer writes. -/
import Derived.Test.YtndofmoepjfnfaaGreatMba
import Derived.Test.YtndofmoepjfnfaaGreatMay
namespace Go.Proofs.YtndofmoepjfnfaaGreat
open Go.RowKit
open Pt (Tx)

set_option maxHeartbeats 8000000 in
theorem refRight_A (p : Tx) (v z f l s m : Int) (g : Bool) (w : World) (hl : p.length ≤ maxLen) (h : Pt.right p = false ∨ v < 1 ∨ 1073741824 < v ∨ s < 1 ∨ 1073741824 < s ∨ z < 0) :
    Calls Tryz.prog 39 #[.agg #[.string (tx p), .int .i64 v, .int .i64 z, .int .i64 f, .int .i64 l, .int .i64 s, .int .i64 m, .bool g]] w (AnsB (decide (Rc.Ok ⟨p, v, z, f, l, s, m, g⟩)) w) := by
  have HB0 : Hid (Below w.heap.size w (w.alloc (headObj p v z f l s m g))) := Lib.hid ((Below.refl _ _).alloc (Nat.le_refl _) _)
  have HU0 : Hid ((w.alloc (headObj p v z f l s m g)).heap[w.heap.size]? = some (headObj p v z f l s m g)) := Lib.hid (Go.Deep.blk_alloc_new _ _)
  have hcall := refRight_any p (w.alloc (headObj p v z f l s m g)) hl
  obtain ⟨r, hr⟩ : ∃ r, r = Pt.right p := ⟨_, rfl⟩
  rw [← hr] at hcall
  have HC := Lib.hid hcall
  have HR := Lib.hid hr
  clear hl hcall
  obtain ⟨a0, a1, a2, a3, a4, a5, a6, a7⟩ := head8 HU0.out
  unfold headObj at a0 a1 a2 a3 a4 a5 a6 a7 HC
  clear hr
  cases r with
  | false =>
    have HF : Hid (decide (Rc.Ok ⟨p, v, z, f, l, s, m, g⟩) = false) := Lib.hid (decide_eq_false fun hk => by
      exact absurd hk.1 (by rw [show Pt.right _ = false from HR.out.symm]; decide))
    go_enter Tryz.func39, Tryz.ntmps39
    dsimp only [List.append]
    go_wp2_with fail
    refine HC.out.mono ?_
    rintro e w1 ⟨rfl, hb⟩
    have HU1 := Lib.hid (below_head hb HU0.out)
    have HB1 := Lib.hid (HB0.out.trans (hb.mono HB0.out.size))
    clear hb a0 a1 a2 a3 a4 a5 a6 a7
    obtain ⟨a0, a1, a2, a3, a4, a5, a6, a7⟩ := head8 HU1.out
    go_wp2
    all_goals go_ret
    all_goals rw [HF.out]
    all_goals exact ⟨rfl, HB1.out⟩
  | true =>
    by_cases c1 : v < 1
    · have q1 : decide (v < 1) = true := decide_eq_true c1
      have HF : Hid (decide (Rc.Ok ⟨p, v, z, f, l, s, m, g⟩) = false) := Lib.hid (decide_eq_false fun hk => by
        obtain ⟨k1, ⟨k2, k3⟩, ⟨k4, k5⟩, ⟨k6, k7⟩, k8, k9, k10, k11, ⟨k12, k13⟩, k14⟩ := hk
        simp only at *
        omega)
      clear c1
      go_enter Tryz.func39, Tryz.ntmps39
      dsimp only [List.append]
      go_wp2_with fail
      refine HC.out.mono ?_
      rintro e w1 ⟨rfl, hb⟩
      have HU1 := Lib.hid (below_head hb HU0.out)
      have HB1 := Lib.hid (HB0.out.trans (hb.mono HB0.out.size))
      clear hb a0 a1 a2 a3 a4 a5 a6 a7
      obtain ⟨a0, a1, a2, a3, a4, a5, a6, a7⟩ := head8 HU1.out
      go_wp2
      all_goals go_ret
      all_goals rw [HF.out]
      all_goals exact ⟨rfl, HB1.out⟩
    have q1 : decide (v < 1) = false := decide_eq_false c1
    by_cases c2 : 1073741824 < v
    · have q2 : decide (1073741824 < v) = true := decide_eq_true c2
      have HF : Hid (decide (Rc.Ok ⟨p, v, z, f, l, s, m, g⟩) = false) := Lib.hid (decide_eq_false fun hk => by
        obtain ⟨k1, ⟨k2, k3⟩, ⟨k4, k5⟩, ⟨k6, k7⟩, k8, k9, k10, k11, ⟨k12, k13⟩, k14⟩ := hk
        simp only at *
        omega)
      clear c1 c2
      go_enter Tryz.func39, Tryz.ntmps39
      dsimp only [List.append]
      go_wp2_with fail
      refine HC.out.mono ?_
      rintro e w1 ⟨rfl, hb⟩
      have HU1 := Lib.hid (below_head hb HU0.out)
      have HB1 := Lib.hid (HB0.out.trans (hb.mono HB0.out.size))
      clear hb a0 a1 a2 a3 a4 a5 a6 a7
      obtain ⟨a0, a1, a2, a3, a4, a5, a6, a7⟩ := head8 HU1.out
      go_wp2
      all_goals go_ret
      all_goals rw [HF.out]
      all_goals exact ⟨rfl, HB1.out⟩
    have q2 : decide (1073741824 < v) = false := decide_eq_false c2
    by_cases c3 : s < 1
    · have q3 : decide (s < 1) = true := decide_eq_true c3
      have HF : Hid (decide (Rc.Ok ⟨p, v, z, f, l, s, m, g⟩) = false) := Lib.hid (decide_eq_false fun hk => by
        obtain ⟨k1, ⟨k2, k3⟩, ⟨k4, k5⟩, ⟨k6, k7⟩, k8, k9, k10, k11, ⟨k12, k13⟩, k14⟩ := hk
        simp only at *
        omega)
      clear c1 c2 c3
      go_enter Tryz.func39, Tryz.ntmps39
      dsimp only [List.append]
      go_wp2_with fail
      refine HC.out.mono ?_
      rintro e w1 ⟨rfl, hb⟩
      have HU1 := Lib.hid (below_head hb HU0.out)
      have HB1 := Lib.hid (HB0.out.trans (hb.mono HB0.out.size))
      clear hb a0 a1 a2 a3 a4 a5 a6 a7
      obtain ⟨a0, a1, a2, a3, a4, a5, a6, a7⟩ := head8 HU1.out
      go_wp2
      all_goals go_ret
      all_goals rw [HF.out]
      all_goals exact ⟨rfl, HB1.out⟩
    have q3 : decide (s < 1) = false := decide_eq_false c3
    by_cases c4 : 1073741824 < s
    · have q4 : decide (1073741824 < s) = true := decide_eq_true c4
      have HF : Hid (decide (Rc.Ok ⟨p, v, z, f, l, s, m, g⟩) = false) := Lib.hid (decide_eq_false fun hk => by
        obtain ⟨k1, ⟨k2, k3⟩, ⟨k4, k5⟩, ⟨k6, k7⟩, k8, k9, k10, k11, ⟨k12, k13⟩, k14⟩ := hk
        simp only at *
        omega)
      clear c1 c2 c3 c4
      go_enter Tryz.func39, Tryz.ntmps39
      dsimp only [List.append]
      go_wp2_with fail
      refine HC.out.mono ?_
      rintro e w1 ⟨rfl, hb⟩
      have HU1 := Lib.hid (below_head hb HU0.out)
      have HB1 := Lib.hid (HB0.out.trans (hb.mono HB0.out.size))
      clear hb a0 a1 a2 a3 a4 a5 a6 a7
      obtain ⟨a0, a1, a2, a3, a4, a5, a6, a7⟩ := head8 HU1.out
      go_wp2
      all_goals go_ret
      all_goals rw [HF.out]
      all_goals exact ⟨rfl, HB1.out⟩
    have q4 : decide (1073741824 < s) = false := decide_eq_false c4
    have c5 : z < 0 := by rcases h with h | h | h | h | h | h; exact absurd h (by rw [← HR.out]; decide); all_goals first | assumption | contradiction
    clear h
    have q5 : decide (z < 0) = true := decide_eq_true c5
    have HF : Hid (decide (Rc.Ok ⟨p, v, z, f, l, s, m, g⟩) = false) := Lib.hid (decide_eq_false fun hk => by
      obtain ⟨k1, ⟨k2, k3⟩, ⟨k4, k5⟩, ⟨k6, k7⟩, k8, k9, k10, k11, ⟨k12, k13⟩, k14⟩ := hk
      simp only at *
      omega)
    clear c1 c2 c3 c4 c5
    go_enter Tryz.func39, Tryz.ntmps39
    dsimp only [List.append]
    go_wp2_with fail
    refine HC.out.mono ?_
    rintro e w1 ⟨rfl, hb⟩
    have HU1 := Lib.hid (below_head hb HU0.out)
    have HB1 := Lib.hid (HB0.out.trans (hb.mono HB0.out.size))
    clear hb a0 a1 a2 a3 a4 a5 a6 a7
    obtain ⟨a0, a1, a2, a3, a4, a5, a6, a7⟩ := head8 HU1.out
    go_wp2
    all_goals go_ret
    all_goals rw [HF.out]
    all_goals exact ⟨rfl, HB1.out⟩
end Go.Proofs.YtndofmoepjfnfaaGreat
namespace Go.Proofs.YtndofmoepjfnfaaGreat
open Go.RowKit
open Pt (Tx)

set_option maxHeartbeats 8000000 in
theorem refRight_B (p : Tx) (v z f l s m : Int) (g : Bool) (w : World) (hl : p.length ≤ maxLen) (hp : Pt.right p = true) (c1 : ¬ v < 1) (c2 : ¬ 1073741824 < v) (c3 : ¬ s < 1) (c4 : ¬ 1073741824 < s) (c5 : ¬ z < 0) (h : 4000 < z ∨ f < 0 ∨ l < 0 ∨ z < f ∨ z - f < l ∨ l = 0 ∧ 0 < z) :
    Calls Tryz.prog 39 #[.agg #[.string (tx p), .int .i64 v, .int .i64 z, .int .i64 f, .int .i64 l, .int .i64 s, .int .i64 m, .bool g]] w (AnsB (decide (Rc.Ok ⟨p, v, z, f, l, s, m, g⟩)) w) := by
  have HB0 : Hid (Below w.heap.size w (w.alloc (headObj p v z f l s m g))) := Lib.hid ((Below.refl _ _).alloc (Nat.le_refl _) _)
  have HU0 : Hid ((w.alloc (headObj p v z f l s m g)).heap[w.heap.size]? = some (headObj p v z f l s m g)) := Lib.hid (Go.Deep.blk_alloc_new _ _)
  have hcall := refRight_any p (w.alloc (headObj p v z f l s m g)) hl
  obtain ⟨r, hr⟩ : ∃ r, r = Pt.right p := ⟨_, rfl⟩
  rw [← hr] at hcall
  have HC := Lib.hid hcall
  have HR := Lib.hid hr
  clear hl hcall
  obtain ⟨a0, a1, a2, a3, a4, a5, a6, a7⟩ := head8 HU0.out
  unfold headObj at a0 a1 a2 a3 a4 a5 a6 a7 HC
  have hrt : r = true := hr.trans hp
  subst hrt
  clear hr hp
  have q1 : decide (v < 1) = false := decide_eq_false c1
  have q2 : decide (1073741824 < v) = false := decide_eq_false c2
  have q3 : decide (s < 1) = false := decide_eq_false c3
  have q4 : decide (1073741824 < s) = false := decide_eq_false c4
  have q5 : decide (z < 0) = false := decide_eq_false c5
  by_cases c6 : 4000 < z
  · have q6 : decide (4000 < z) = true := decide_eq_true c6
    have HF : Hid (decide (Rc.Ok ⟨p, v, z, f, l, s, m, g⟩) = false) := Lib.hid (decide_eq_false fun hk => by
      obtain ⟨k1, ⟨k2, k3⟩, ⟨k4, k5⟩, ⟨k6, k7⟩, k8, k9, k10, k11, ⟨k12, k13⟩, k14⟩ := hk
      simp only at *
      omega)
    clear c1 c2 c3 c4 c6
    go_enter Tryz.func39, Tryz.ntmps39
    dsimp only [List.append]
    go_wp2_with fail
    refine HC.out.mono ?_
    rintro e w1 ⟨rfl, hb⟩
    have HU1 := Lib.hid (below_head hb HU0.out)
    have HB1 := Lib.hid (HB0.out.trans (hb.mono HB0.out.size))
    clear hb a0 a1 a2 a3 a4 a5 a6 a7
    obtain ⟨a0, a1, a2, a3, a4, a5, a6, a7⟩ := head8 HU1.out
    go_wp2
    all_goals go_ret
    all_goals rw [HF.out]
    all_goals exact ⟨rfl, HB1.out⟩
  have q6 : decide (4000 < z) = false := decide_eq_false c6
  by_cases c7 : f < 0
  · have q7 : decide (f < 0) = true := decide_eq_true c7
    have HF : Hid (decide (Rc.Ok ⟨p, v, z, f, l, s, m, g⟩) = false) := Lib.hid (decide_eq_false fun hk => by
      obtain ⟨k1, ⟨k2, k3⟩, ⟨k4, k5⟩, ⟨k6, k7⟩, k8, k9, k10, k11, ⟨k12, k13⟩, k14⟩ := hk
      simp only at *
      omega)
    clear c1 c2 c3 c4 c7
    go_enter Tryz.func39, Tryz.ntmps39
    dsimp only [List.append]
    go_wp2_with fail
    refine HC.out.mono ?_
    rintro e w1 ⟨rfl, hb⟩
    have HU1 := Lib.hid (below_head hb HU0.out)
    have HB1 := Lib.hid (HB0.out.trans (hb.mono HB0.out.size))
    clear hb a0 a1 a2 a3 a4 a5 a6 a7
    obtain ⟨a0, a1, a2, a3, a4, a5, a6, a7⟩ := head8 HU1.out
    go_wp2
    all_goals go_ret
    all_goals rw [HF.out]
    all_goals exact ⟨rfl, HB1.out⟩
  have q7 : decide (f < 0) = false := decide_eq_false c7
  by_cases c8 : l < 0
  · have q8 : decide (l < 0) = true := decide_eq_true c8
    have HF : Hid (decide (Rc.Ok ⟨p, v, z, f, l, s, m, g⟩) = false) := Lib.hid (decide_eq_false fun hk => by
      obtain ⟨k1, ⟨k2, k3⟩, ⟨k4, k5⟩, ⟨k6, k7⟩, k8, k9, k10, k11, ⟨k12, k13⟩, k14⟩ := hk
      simp only at *
      omega)
    clear c1 c2 c3 c4 c8
    go_enter Tryz.func39, Tryz.ntmps39
    dsimp only [List.append]
    go_wp2_with fail
    refine HC.out.mono ?_
    rintro e w1 ⟨rfl, hb⟩
    have HU1 := Lib.hid (below_head hb HU0.out)
    have HB1 := Lib.hid (HB0.out.trans (hb.mono HB0.out.size))
    clear hb a0 a1 a2 a3 a4 a5 a6 a7
    obtain ⟨a0, a1, a2, a3, a4, a5, a6, a7⟩ := head8 HU1.out
    go_wp2
    all_goals go_ret
    all_goals rw [HF.out]
    all_goals exact ⟨rfl, HB1.out⟩
  have q8 : decide (l < 0) = false := decide_eq_false c8
  by_cases c9 : z < f
  · have q9 : decide (z < f) = true := decide_eq_true c9
    have HF : Hid (decide (Rc.Ok ⟨p, v, z, f, l, s, m, g⟩) = false) := Lib.hid (decide_eq_false fun hk => by
      obtain ⟨k1, ⟨k2, k3⟩, ⟨k4, k5⟩, ⟨k6, k7⟩, k8, k9, k10, k11, ⟨k12, k13⟩, k14⟩ := hk
      simp only at *
      omega)
    clear c1 c2 c3 c4 c9
    go_enter Tryz.func39, Tryz.ntmps39
    dsimp only [List.append]
    go_wp2_with fail
    refine HC.out.mono ?_
    rintro e w1 ⟨rfl, hb⟩
    have HU1 := Lib.hid (below_head hb HU0.out)
    have HB1 := Lib.hid (HB0.out.trans (hb.mono HB0.out.size))
    clear hb a0 a1 a2 a3 a4 a5 a6 a7
    obtain ⟨a0, a1, a2, a3, a4, a5, a6, a7⟩ := head8 HU1.out
    go_wp2
    all_goals go_ret
    all_goals rw [HF.out]
    all_goals exact ⟨rfl, HB1.out⟩
  have q9 : decide (z < f) = false := decide_eq_false c9
  by_cases c10 : z - f < l
  · have q10 : decide (z - f < l) = true := decide_eq_true c10
    have HF : Hid (decide (Rc.Ok ⟨p, v, z, f, l, s, m, g⟩) = false) := Lib.hid (decide_eq_false fun hk => by
      obtain ⟨k1, ⟨k2, k3⟩, ⟨k4, k5⟩, ⟨k6, k7⟩, k8, k9, k10, k11, ⟨k12, k13⟩, k14⟩ := hk
      simp only at *
      omega)
    clear c1 c2 c3 c4 c10
    go_enter Tryz.func39, Tryz.ntmps39
    dsimp only [List.append]
    go_wp2_with fail
    refine HC.out.mono ?_
    rintro e w1 ⟨rfl, hb⟩
    have HU1 := Lib.hid (below_head hb HU0.out)
    have HB1 := Lib.hid (HB0.out.trans (hb.mono HB0.out.size))
    clear hb a0 a1 a2 a3 a4 a5 a6 a7
    obtain ⟨a0, a1, a2, a3, a4, a5, a6, a7⟩ := head8 HU1.out
    go_wp2
    all_goals go_ret
    all_goals rw [HF.out]
    all_goals exact ⟨rfl, HB1.out⟩
  have q10 : decide (z - f < l) = false := decide_eq_false c10
  have q11 : (l == 0) = true := beq_iff_eq.2 (by omega)
  have q12 : decide (0 < z) = true := decide_eq_true (by omega)
  have HF : Hid (decide (Rc.Ok ⟨p, v, z, f, l, s, m, g⟩) = false) := Lib.hid (decide_eq_false fun hk => by
    obtain ⟨k1, ⟨k2, k3⟩, ⟨k4, k5⟩, ⟨k6, k7⟩, k8, k9, k10, k11, ⟨k12, k13⟩, k14⟩ := hk
    simp only at *
    omega)
  clear c1 c2 c3 c4 h
  go_enter Tryz.func39, Tryz.ntmps39
  dsimp only [List.append]
  go_wp2_with fail
  refine HC.out.mono ?_
  rintro e w1 ⟨rfl, hb⟩
  have HU1 := Lib.hid (below_head hb HU0.out)
  have HB1 := Lib.hid (HB0.out.trans (hb.mono HB0.out.size))
  clear hb a0 a1 a2 a3 a4 a5 a6 a7
  obtain ⟨a0, a1, a2, a3, a4, a5, a6, a7⟩ := head8 HU1.out
  go_wp2
  all_goals go_ret
  all_goals rw [HF.out]
  all_goals exact ⟨rfl, HB1.out⟩
end Go.Proofs.YtndofmoepjfnfaaGreat
namespace Go.Proofs.YtndofmoepjfnfaaGreat
open Go.RowKit
open Pt (Tx)

set_option maxHeartbeats 8000000 in
theorem refRight_C (p : Tx) (v z f l s m : Int) (g : Bool) (w : World) (hl : p.length ≤ maxLen) (hp : Pt.right p = true) (c1 : ¬ v < 1) (c2 : ¬ 1073741824 < v) (c3 : ¬ s < 1) (c4 : ¬ 1073741824 < s) (c5 : ¬ z < 0) (c6 : ¬ 4000 < z) (c7 : ¬ f < 0) (c8 : ¬ l < 0) (c9 : ¬ z < f) (c10 : ¬ z - f < l) (c11 : ¬ (l = 0 ∧ 0 < z)) :
    Calls Tryz.prog 39 #[.agg #[.string (tx p), .int .i64 v, .int .i64 z, .int .i64 f, .int .i64 l, .int .i64 s, .int .i64 m, .bool g]] w (AnsB (decide (Rc.Ok ⟨p, v, z, f, l, s, m, g⟩)) w) := by
  have HB0 : Hid (Below w.heap.size w (w.alloc (headObj p v z f l s m g))) := Lib.hid ((Below.refl _ _).alloc (Nat.le_refl _) _)
  have HU0 : Hid ((w.alloc (headObj p v z f l s m g)).heap[w.heap.size]? = some (headObj p v z f l s m g)) := Lib.hid (Go.Deep.blk_alloc_new _ _)
  have hcall := refRight_any p (w.alloc (headObj p v z f l s m g)) hl
  obtain ⟨r, hr⟩ : ∃ r, r = Pt.right p := ⟨_, rfl⟩
  rw [← hr] at hcall
  have HC := Lib.hid hcall
  have HR := Lib.hid hr
  clear hl hcall
  obtain ⟨a0, a1, a2, a3, a4, a5, a6, a7⟩ := head8 HU0.out
  unfold headObj at a0 a1 a2 a3 a4 a5 a6 a7 HC
  have hrt : r = true := hr.trans hp
  subst hrt
  clear hr hp
  have q1 : decide (v < 1) = false := decide_eq_false c1
  have q2 : decide (1073741824 < v) = false := decide_eq_false c2
  have q3 : decide (s < 1) = false := decide_eq_false c3
  have q4 : decide (1073741824 < s) = false := decide_eq_false c4
  have q5 : decide (z < 0) = false := decide_eq_false c5
  have q6 : decide (4000 < z) = false := decide_eq_false c6
  have q7 : decide (f < 0) = false := decide_eq_false c7
  have q8 : decide (l < 0) = false := decide_eq_false c8
  have q9 : decide (z < f) = false := decide_eq_false c9
  have q10 : decide (z - f < l) = false := decide_eq_false c10
  by_cases c13 : m < 0
  · have q13 : decide (m < 0) = true := decide_eq_true c13
    by_cases e : l = 0
    · have q11 : (l == 0) = true := beq_iff_eq.2 e
      have q12 : decide (0 < z) = false := decide_eq_false (by omega)
      have HF : Hid (decide (Rc.Ok ⟨p, v, z, f, l, s, m, g⟩) = false) := Lib.hid (decide_eq_false fun hk => by
        obtain ⟨k1, ⟨k2, k3⟩, ⟨k4, k5⟩, ⟨k6, k7⟩, k8, k9, k10, k11, ⟨k12, k13⟩, k14⟩ := hk
        simp only at *
        omega)
      clear c1 c2 c3 c4 c11 e c13
      go_enter Tryz.func39, Tryz.ntmps39
      dsimp only [List.append]
      go_wp2_with fail
      refine HC.out.mono ?_
      rintro e w1 ⟨rfl, hb⟩
      have HU1 := Lib.hid (below_head hb HU0.out)
      have HB1 := Lib.hid (HB0.out.trans (hb.mono HB0.out.size))
      clear hb a0 a1 a2 a3 a4 a5 a6 a7
      obtain ⟨a0, a1, a2, a3, a4, a5, a6, a7⟩ := head8 HU1.out
      go_wp2
      all_goals go_ret
      all_goals rw [HF.out]
      all_goals exact ⟨rfl, HB1.out⟩
    · have q11 : (l == 0) = false := beq_eq_false_iff_ne.2 e
      have HF : Hid (decide (Rc.Ok ⟨p, v, z, f, l, s, m, g⟩) = false) := Lib.hid (decide_eq_false fun hk => by
        obtain ⟨k1, ⟨k2, k3⟩, ⟨k4, k5⟩, ⟨k6, k7⟩, k8, k9, k10, k11, ⟨k12, k13⟩, k14⟩ := hk
        simp only at *
        omega)
      clear c1 c2 c3 c4 c11 e c13
      go_enter Tryz.func39, Tryz.ntmps39
      dsimp only [List.append]
      go_wp2_with fail
      refine HC.out.mono ?_
      rintro e w1 ⟨rfl, hb⟩
      have HU1 := Lib.hid (below_head hb HU0.out)
      have HB1 := Lib.hid (HB0.out.trans (hb.mono HB0.out.size))
      clear hb a0 a1 a2 a3 a4 a5 a6 a7
      obtain ⟨a0, a1, a2, a3, a4, a5, a6, a7⟩ := head8 HU1.out
      go_wp2
      all_goals go_ret
      all_goals rw [HF.out]
      all_goals exact ⟨rfl, HB1.out⟩
  have q13 : decide (m < 0) = false := decide_eq_false c13
  by_cases c14 : 4294967295 < m
  · have q14 : decide (4294967295 < m) = true := decide_eq_true c14
    by_cases e : l = 0
    · have q11 : (l == 0) = true := beq_iff_eq.2 e
      have q12 : decide (0 < z) = false := decide_eq_false (by omega)
      have HF : Hid (decide (Rc.Ok ⟨p, v, z, f, l, s, m, g⟩) = false) := Lib.hid (decide_eq_false fun hk => by
        obtain ⟨k1, ⟨k2, k3⟩, ⟨k4, k5⟩, ⟨k6, k7⟩, k8, k9, k10, k11, ⟨k12, k13⟩, k14⟩ := hk
        simp only at *
        omega)
      clear c1 c2 c3 c4 c11 e c13 c14
      go_enter Tryz.func39, Tryz.ntmps39
      dsimp only [List.append]
      go_wp2_with fail
      refine HC.out.mono ?_
      rintro e w1 ⟨rfl, hb⟩
      have HU1 := Lib.hid (below_head hb HU0.out)
      have HB1 := Lib.hid (HB0.out.trans (hb.mono HB0.out.size))
      clear hb a0 a1 a2 a3 a4 a5 a6 a7
      obtain ⟨a0, a1, a2, a3, a4, a5, a6, a7⟩ := head8 HU1.out
      go_wp2
      all_goals go_ret
      all_goals rw [HF.out]
      all_goals exact ⟨rfl, HB1.out⟩
    · have q11 : (l == 0) = false := beq_eq_false_iff_ne.2 e
      have HF : Hid (decide (Rc.Ok ⟨p, v, z, f, l, s, m, g⟩) = false) := Lib.hid (decide_eq_false fun hk => by
        obtain ⟨k1, ⟨k2, k3⟩, ⟨k4, k5⟩, ⟨k6, k7⟩, k8, k9, k10, k11, ⟨k12, k13⟩, k14⟩ := hk
        simp only at *
        omega)
      clear c1 c2 c3 c4 c11 e c13 c14
      go_enter Tryz.func39, Tryz.ntmps39
      dsimp only [List.append]
      go_wp2_with fail
      refine HC.out.mono ?_
      rintro e w1 ⟨rfl, hb⟩
      have HU1 := Lib.hid (below_head hb HU0.out)
      have HB1 := Lib.hid (HB0.out.trans (hb.mono HB0.out.size))
      clear hb a0 a1 a2 a3 a4 a5 a6 a7
      obtain ⟨a0, a1, a2, a3, a4, a5, a6, a7⟩ := head8 HU1.out
      go_wp2
      all_goals go_ret
      all_goals rw [HF.out]
      all_goals exact ⟨rfl, HB1.out⟩
  have q14 : decide (4294967295 < m) = false := decide_eq_false c14
  by_cases e : l = 0
  · have q11 : (l == 0) = true := beq_iff_eq.2 e
    have q12 : decide (0 < z) = false := decide_eq_false (by omega)
    cases g with
    | false =>
      have HF : Hid (decide (Rc.Ok ⟨p, v, z, f, l, s, m, false⟩) = true) := Lib.hid (decide_eq_true (by
        refine ⟨HR.out.symm, ⟨by show 1 ≤ v; omega, by show v ≤ 1073741824; omega⟩, ⟨by show 1 ≤ s; omega, by show s ≤ 1073741824; omega⟩, ⟨by show 0 ≤ z; omega, by show z ≤ 4000; omega⟩, (by show 0 ≤ f; omega), (by show 0 ≤ l; omega), (by show f + l ≤ z; omega), (by show 0 < l ∨ z = 0; omega), ⟨by show 0 ≤ m; omega, by show m ≤ 4294967295; omega⟩, fun h => by cases h⟩))
      clear c1 c2 c3 c4 c11 c13 c14 e
      go_enter Tryz.func39, Tryz.ntmps39
      dsimp only [List.append]
      go_wp2_with fail
      refine HC.out.mono ?_
      rintro e w1 ⟨rfl, hb⟩
      have HU1 := Lib.hid (below_head hb HU0.out)
      have HB1 := Lib.hid (HB0.out.trans (hb.mono HB0.out.size))
      clear hb a0 a1 a2 a3 a4 a5 a6 a7
      obtain ⟨a0, a1, a2, a3, a4, a5, a6, a7⟩ := head8 HU1.out
      go_wp2
      all_goals go_ret
      all_goals rw [HF.out]
      all_goals exact ⟨rfl, HB1.out⟩
    | true =>
      have q15 : (z == 0) = true := beq_iff_eq.2 (by omega)
      have q16 : (f == 0) = true := beq_iff_eq.2 (by omega)
      by_cases em : m = 0
      · have q17 : (m == 0) = true := beq_iff_eq.2 em
        have HF : Hid (decide (Rc.Ok ⟨p, v, z, f, l, s, m, true⟩) = true) := Lib.hid (decide_eq_true (by
          refine ⟨HR.out.symm, ⟨by show 1 ≤ v; omega, by show v ≤ 1073741824; omega⟩, ⟨by show 1 ≤ s; omega, by show s ≤ 1073741824; omega⟩, ⟨by show 0 ≤ z; omega, by show z ≤ 4000; omega⟩, (by show 0 ≤ f; omega), (by show 0 ≤ l; omega), (by show f + l ≤ z; omega), (by show 0 < l ∨ z = 0; omega), ⟨by show 0 ≤ m; omega, by show m ≤ 4294967295; omega⟩, fun _ => ⟨by show z = 0; omega, by show f = 0; omega, by show l = 0; omega, by show m = 0; omega⟩⟩))
        clear c1 c2 c3 c4 c11 c13 c14 e em
        go_enter Tryz.func39, Tryz.ntmps39
        dsimp only [List.append]
        go_wp2_with fail
        refine HC.out.mono ?_
        rintro e w1 ⟨rfl, hb⟩
        have HU1 := Lib.hid (below_head hb HU0.out)
        have HB1 := Lib.hid (HB0.out.trans (hb.mono HB0.out.size))
        clear hb a0 a1 a2 a3 a4 a5 a6 a7
        obtain ⟨a0, a1, a2, a3, a4, a5, a6, a7⟩ := head8 HU1.out
        go_wp2
        all_goals go_ret
        all_goals rw [HF.out]
        all_goals exact ⟨rfl, HB1.out⟩
      · have q17 : (m == 0) = false := beq_eq_false_iff_ne.2 em
        have HF : Hid (decide (Rc.Ok ⟨p, v, z, f, l, s, m, true⟩) = false) := Lib.hid (decide_eq_false fun hk => by
          obtain ⟨k1, ⟨k2, k3⟩, ⟨k4, k5⟩, ⟨k6, k7⟩, k8, k9, k10, k11, ⟨k12, k13⟩, k14⟩ := hk
          obtain ⟨k15, k16, k17, k18⟩ := k14 rfl
          simp only at *
          omega)
        clear c1 c2 c3 c4 c11 c13 c14 e em
        go_enter Tryz.func39, Tryz.ntmps39
        dsimp only [List.append]
        go_wp2_with fail
        refine HC.out.mono ?_
        rintro e w1 ⟨rfl, hb⟩
        have HU1 := Lib.hid (below_head hb HU0.out)
        have HB1 := Lib.hid (HB0.out.trans (hb.mono HB0.out.size))
        clear hb a0 a1 a2 a3 a4 a5 a6 a7
        obtain ⟨a0, a1, a2, a3, a4, a5, a6, a7⟩ := head8 HU1.out
        go_wp2
        all_goals go_ret
        all_goals rw [HF.out]
        all_goals exact ⟨rfl, HB1.out⟩
  · have q11 : (l == 0) = false := beq_eq_false_iff_ne.2 e
    cases g with
    | false =>
      have HF : Hid (decide (Rc.Ok ⟨p, v, z, f, l, s, m, false⟩) = true) := Lib.hid (decide_eq_true (by
        refine ⟨HR.out.symm, ⟨by show 1 ≤ v; omega, by show v ≤ 1073741824; omega⟩, ⟨by show 1 ≤ s; omega, by show s ≤ 1073741824; omega⟩, ⟨by show 0 ≤ z; omega, by show z ≤ 4000; omega⟩, (by show 0 ≤ f; omega), (by show 0 ≤ l; omega), (by show f + l ≤ z; omega), (by show 0 < l ∨ z = 0; omega), ⟨by show 0 ≤ m; omega, by show m ≤ 4294967295; omega⟩, fun h => by cases h⟩))
      clear c1 c2 c3 c4 c11 c13 c14 e
      go_enter Tryz.func39, Tryz.ntmps39
      dsimp only [List.append]
      go_wp2_with fail
      refine HC.out.mono ?_
      rintro e w1 ⟨rfl, hb⟩
      have HU1 := Lib.hid (below_head hb HU0.out)
      have HB1 := Lib.hid (HB0.out.trans (hb.mono HB0.out.size))
      clear hb a0 a1 a2 a3 a4 a5 a6 a7
      obtain ⟨a0, a1, a2, a3, a4, a5, a6, a7⟩ := head8 HU1.out
      go_wp2
      all_goals go_ret
      all_goals rw [HF.out]
      all_goals exact ⟨rfl, HB1.out⟩
    | true =>
      have q15 : (z == 0) = false := beq_eq_false_iff_ne.2 (by omega)
      have HF : Hid (decide (Rc.Ok ⟨p, v, z, f, l, s, m, true⟩) = false) := Lib.hid (decide_eq_false fun hk => by
        obtain ⟨k1, ⟨k2, k3⟩, ⟨k4, k5⟩, ⟨k6, k7⟩, k8, k9, k10, k11, ⟨k12, k13⟩, k14⟩ := hk
        obtain ⟨k15, k16, k17, k18⟩ := k14 rfl
        simp only at *
        omega)
      clear c1 c2 c3 c4 c11 c13 c14 e
      go_enter Tryz.func39, Tryz.ntmps39
      dsimp only [List.append]
      go_wp2_with fail
      refine HC.out.mono ?_
      rintro e w1 ⟨rfl, hb⟩
      have HU1 := Lib.hid (below_head hb HU0.out)
      have HB1 := Lib.hid (HB0.out.trans (hb.mono HB0.out.size))
      clear hb a0 a1 a2 a3 a4 a5 a6 a7
      obtain ⟨a0, a1, a2, a3, a4, a5, a6, a7⟩ := head8 HU1.out
      go_wp2
      all_goals go_ret
      all_goals rw [HF.out]
      all_goals exact ⟨rfl, HB1.out⟩
end Go.Proofs.YtndofmoepjfnfaaGreat
namespace Go.Proofs.YtndofmoepjfnfaaGreat
open Go.RowKit
open Pt (Tx)

theorem refRightHead_any (p : Tx) (v z f l s m : Int) (g : Bool) (w : World) (hl : p.length ≤ maxLen) :
    Calls Tryz.prog 39 #[.agg #[.string (tx p), .int .i64 v, .int .i64 z, .int .i64 f, .int .i64 l, .int .i64 s, .int .i64 m, .bool g]] w (AnsB (decide (Rc.Ok ⟨p, v, z, f, l, s, m, g⟩)) w) := by
  by_cases h : Pt.right p = false ∨ v < 1 ∨ 1073741824 < v ∨ s < 1 ∨ 1073741824 < s ∨ z < 0
  · exact refRight_A p v z f l s m g w hl h
  · have hp : Pt.right p = true := by cases e : Pt.right p with
      | true => rfl
      | false => exact absurd (.inl e) h
    by_cases h2 : 4000 < z ∨ f < 0 ∨ l < 0 ∨ z < f ∨ z - f < l ∨ l = 0 ∧ 0 < z
    · exact refRight_B p v z f l s m g w hl hp (by omega) (by omega) (by omega) (by omega) (by omega) h2
    · exact refRight_C p v z f l s m g w hl hp (by omega) (by omega) (by omega) (by omega) (by omega) (by omega) (by omega) (by omega) (by omega) (by omega) (by omega)
end Go.Proofs.YtndofmoepjfnfaaGreat
namespace Go.Proofs.YtndofmoepjfnfaaGreat
open Go.RowKit
open Pt (Tx)


set_option maxRecDepth 100000 in
theorem vtext_any (g base : Nat) (v : Value) (l s : Tx) (w : World) (h : Rw w g base v l) (hbase : base ≤ w.heap.size) (hl : l.length ≤ 999999000) (hs : s.length ≤ maxLen) :
    Calls Tryz.prog 55 #[.pointer (some ⟨g, 0, none⟩), .string (tx s)] w (RefWrote g base (l ++ Cd.tb s) w) := by
  unfold maxLen at hs
  have hlt := h.lt
  obtain ⟨A, C, hv, -, -, -, -⟩ := h.2.rd
  have c0 : w.cell? ⟨g, 0, none⟩ = some v := heap_cell h.1
  have f0 : w.frozen? ⟨g, 0, none⟩ = false := heap_frozen h.1
  have H := Lib.hid h
  clear h
  subst hv
  have es := tx_size s
  have et := tx_toList s
  by_cases hle : s.length ≤ 255
  · have q1 : decide (255 < s.length) = false := decide_eq_false (by omega)
    have q2 : decide (255 < (s.length : Int)) = false := decide_eq_false (by omega)
    have HT : Hid (Cd.tb s = [Cd.b8 (s.length : Int)] ++ s) := Lib.hid (by unfold Cd.tb; rw [List.take_of_length_le hle]; rfl)
    go_enter Tryz.func55, Tryz.ntmps55
    go_wp2_with (first
      | (at_builtin; refine wpList_append_bl _ rfl _ _ rfl base _ l rfl (H.out.2.alloc _) (some ⟨w.heap.size, 0, none⟩) 1 1 [Cd.b8 (s.length : Int)] (· = w.heap.size) rfl rfl (fun h => by cases h) (lit_rd w [Cd.b8 (s.length : Int)] (by simp [cellsL, Cd.b8_nat]; omega)) (by omega) (by simp; omega) ?_; intro v' w' hv hg; obtain ⟨hA, hB, hC⟩ := H.out.stored ((Turned.refl g base w).alloc _) (Below.heap_alloc _ _ _ hlt) (H.out.2.alloc _) hg hv; obtain ⟨A', C', rfl, -, -, -, -⟩ := hv.rd; have d0 : w'.cell? ⟨g, 0, none⟩ = some (.slice A l.length C) := heap_cell (hA.trans H.out.1); have d1 : w'.frozen? ⟨g, 0, none⟩ = false := heap_frozen (hA.trans H.out.1); simp only [List.length_append, List.length_cons, List.length_nil, Nat.zero_add] at hB hC; have hsz : base ≤ w'.heap.size := Nat.le_trans hbase (by have := hC.size; simpa [World.setCell] using this); have HB := Lib.hid hB; have HC := Lib.hid hC; clear hA hB hC hv hg)
      | (at_builtin; refine wpList_append_st _ rfl _ _ rfl base _ (l ++ [Cd.b8 (s.length : Int)]) rfl HB.out.2 s rfl (by simp; omega) (by simpa [World.setCell] using hsz) ?_; intro v2 w2 hv hg; obtain ⟨hA, hB, hC⟩ := HB.out.stored (Turned.refl g base _) rfl HB.out.2 hg hv; obtain ⟨A2, C2, rfl, -, -, -, -⟩ := hv.rd; have d2 : w2.cell? ⟨g, 0, none⟩ = some (.slice A' (l.length + 1) C') := heap_cell (hA.trans HB.out.1); have d3 : w2.frozen? ⟨g, 0, none⟩ = false := heap_frozen (hA.trans HB.out.1); have HB2 := Lib.hid hB; have HC2 := Lib.hid (HC.out.trans hC); clear hA hB hC hv hg))
    go_end0
    have e3 : (l ++ [Cd.b8 (s.length : Int)]) ++ s = l ++ ([Cd.b8 (s.length : Int)] ++ s) := List.append_assoc _ _ _
    have hb := HB2.out
    have hc := HC2.out
    simp only [List.length_append, List.length_cons, List.length_nil, Nat.zero_add] at hb hc
    rw [HT.out, ← e3, show l.length + (s.length + 1) = l.length + 1 + s.length by omega]
    exact ⟨rfl, ⟨_, hb⟩, hc⟩
  · have q1 : decide (255 < s.length) = true := decide_eq_true (by omega)
    have q2 : decide (255 < (s.length : Int)) = true := decide_eq_true (by omega)
    have e0 : (tx s).extract 0 255 = tx (s.take 255) := by rw [tx_extract]; simp
    have hn : (s.take 255).length = 255 := by simp; omega
    have HT : Hid (Cd.tb s = [Cd.b8 255] ++ s.take 255) := Lib.hid (by unfold Cd.tb; rw [hn]; rfl)
    have e2 : (tx (s.take 255)).size = 255 := by rw [tx_size, hn]
    have e4 := tx_toList (s.take 255)
    have HN : Hid ((s.take 255).length = 255) := Lib.hid hn
    clear hn
    go_enter Tryz.func55, Tryz.ntmps55
    go_wp2_with (first
      | (at_builtin; refine wpList_append_bl _ rfl _ _ rfl base _ l rfl (H.out.2.alloc _) (some ⟨w.heap.size, 0, none⟩) 1 1 [Cd.b8 255] (· = w.heap.size) rfl rfl (fun h => by cases h) (lit_rd w [Cd.b8 255] (by simp [cellsL, Cd.b8_nat])) (by omega) (by simp; omega) ?_; intro v' w' hv hg; obtain ⟨hA, hB, hC⟩ := H.out.stored ((Turned.refl g base w).alloc _) (Below.heap_alloc _ _ _ hlt) (H.out.2.alloc _) hg hv; obtain ⟨A', C', rfl, -, -, -, -⟩ := hv.rd; have d0 : w'.cell? ⟨g, 0, none⟩ = some (.slice A l.length C) := heap_cell (hA.trans H.out.1); have d1 : w'.frozen? ⟨g, 0, none⟩ = false := heap_frozen (hA.trans H.out.1); simp only [List.length_append, List.length_cons, List.length_nil, Nat.zero_add] at hB hC; have hsz : base ≤ w'.heap.size := Nat.le_trans hbase (by have := hC.size; simpa [World.setCell] using this); have HB := Lib.hid hB; have HC := Lib.hid hC; clear hA hB hC hv hg)
      | (at_builtin; refine wpList_append_st _ rfl _ _ rfl base _ (l ++ [Cd.b8 255]) rfl HB.out.2 (s.take 255) rfl (by simp; omega) (by simpa [World.setCell] using hsz) ?_; intro v2 w2 hv hg; obtain ⟨hA, hB, hC⟩ := HB.out.stored (Turned.refl g base _) rfl HB.out.2 hg hv; obtain ⟨A2, C2, rfl, -, -, -, -⟩ := hv.rd; have d2 : w2.cell? ⟨g, 0, none⟩ = some (.slice A' (l.length + 1) C') := heap_cell (hA.trans HB.out.1); have d3 : w2.frozen? ⟨g, 0, none⟩ = false := heap_frozen (hA.trans HB.out.1); have HB2 := Lib.hid hB; have HC2 := Lib.hid (HC.out.trans hC); clear hA hB hC hv hg))
    go_end0
    have e3 : (l ++ [Cd.b8 255]) ++ (s.take 255) = l ++ ([Cd.b8 255] ++ (s.take 255)) := List.append_assoc _ _ _
    have hb := HB2.out
    have hc := HC2.out
    simp only [List.length_append, List.length_cons, List.length_nil, Nat.zero_add] at hb hc
    rw [HT.out, ← e3, show l.length + (min 255 s.length + 1) = l.length + 1 + (s.take 255).length by simp; omega]
    exact ⟨rfl, ⟨_, hb⟩, hc⟩
end Go.Proofs.YtndofmoepjfnfaaGreat
