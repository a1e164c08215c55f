/- What the document's own RightHead answers. What the document's own RightHead answers. What the document's own RightHead answers. What the document's own RightHead answers. What the document's own HeadBytes answers. -/
import Derived.Test.YtbcncmampabmfaaDoorMj
import Derived.Test.YtbcncmampabmfaaDoorMd
import Derived.Test.YtbcncmampabmfaaDoorMc
namespace Go.Proofs.YtbcncmampabmfaaDoor
open Go.RowKit
open Pt (Tx)

set_option maxHeartbeats 8000000 in
theorem refRight_A (p : Tx) (v z f l s m : Int) (g : Bool) (w : World) (hl : p.length ≤ maxLen) (h : Pt.right p = false ∨ v < 1 ∨ 1073741824 < v ∨ s < 1 ∨ 1073741824 < s ∨ z < 0) :
    Calls Tryd.prog 21 #[.agg #[.string (tx p), .int .i64 v, .int .i64 z, .int .i64 f, .int .i64 l, .int .i64 s, .int .i64 m, .bool g]] w (AnsB (decide (Rc.Ok ⟨p, v, z, f, l, s, m, g⟩)) w) := by
  have HB0 : Hid (Below w.heap.size w (w.alloc (headObj p v z f l s m g))) := Lib.hid ((Below.refl _ _).alloc (Nat.le_refl _) _)
  have HU0 : Hid ((w.alloc (headObj p v z f l s m g)).heap[w.heap.size]? = some (headObj p v z f l s m g)) := Lib.hid (Go.Deep.blk_alloc_new _ _)
  have hcall := refRight_any p (w.alloc (headObj p v z f l s m g)) hl
  obtain ⟨r, hr⟩ : ∃ r, r = Pt.right p := ⟨_, rfl⟩
  rw [← hr] at hcall
  have HC := Lib.hid hcall
  have HR := Lib.hid hr
  clear hl hcall
  obtain ⟨a0, a1, a2, a3, a4, a5, a6, a7⟩ := head8 HU0.out
  unfold headObj at a0 a1 a2 a3 a4 a5 a6 a7 HC
  clear hr
  cases r with
  | false =>
    have HF : Hid (decide (Rc.Ok ⟨p, v, z, f, l, s, m, g⟩) = false) := Lib.hid (decide_eq_false fun hk => by
      exact absurd hk.1 (by rw [show Pt.right _ = false from HR.out.symm]; decide))
    go_enter Tryd.func21, Tryd.ntmps21
    dsimp only [List.append]
    go_wp2_with fail
    refine HC.out.mono ?_
    rintro e w1 ⟨rfl, hb⟩
    have HU1 := Lib.hid (below_head hb HU0.out)
    have HB1 := Lib.hid (HB0.out.trans (hb.mono HB0.out.size))
    clear hb a0 a1 a2 a3 a4 a5 a6 a7
    obtain ⟨a0, a1, a2, a3, a4, a5, a6, a7⟩ := head8 HU1.out
    go_wp2
    all_goals go_ret
    all_goals rw [HF.out]
    all_goals exact ⟨rfl, HB1.out⟩
  | true =>
    by_cases c1 : v < 1
    · have q1 : decide (v < 1) = true := decide_eq_true c1
      have HF : Hid (decide (Rc.Ok ⟨p, v, z, f, l, s, m, g⟩) = false) := Lib.hid (decide_eq_false fun hk => by
        obtain ⟨k1, ⟨k2, k3⟩, ⟨k4, k5⟩, ⟨k6, k7⟩, k8, k9, k10, k11, ⟨k12, k13⟩, k14⟩ := hk
        simp only at *
        omega)
      clear c1
      go_enter Tryd.func21, Tryd.ntmps21
      dsimp only [List.append]
      go_wp2_with fail
      refine HC.out.mono ?_
      rintro e w1 ⟨rfl, hb⟩
      have HU1 := Lib.hid (below_head hb HU0.out)
      have HB1 := Lib.hid (HB0.out.trans (hb.mono HB0.out.size))
      clear hb a0 a1 a2 a3 a4 a5 a6 a7
      obtain ⟨a0, a1, a2, a3, a4, a5, a6, a7⟩ := head8 HU1.out
      go_wp2
      all_goals go_ret
      all_goals rw [HF.out]
      all_goals exact ⟨rfl, HB1.out⟩
    have q1 : decide (v < 1) = false := decide_eq_false c1
    by_cases c2 : 1073741824 < v
    · have q2 : decide (1073741824 < v) = true := decide_eq_true c2
      have HF : Hid (decide (Rc.Ok ⟨p, v, z, f, l, s, m, g⟩) = false) := Lib.hid (decide_eq_false fun hk => by
        obtain ⟨k1, ⟨k2, k3⟩, ⟨k4, k5⟩, ⟨k6, k7⟩, k8, k9, k10, k11, ⟨k12, k13⟩, k14⟩ := hk
        simp only at *
        omega)
      clear c1 c2
      go_enter Tryd.func21, Tryd.ntmps21
      dsimp only [List.append]
      go_wp2_with fail
      refine HC.out.mono ?_
      rintro e w1 ⟨rfl, hb⟩
      have HU1 := Lib.hid (below_head hb HU0.out)
      have HB1 := Lib.hid (HB0.out.trans (hb.mono HB0.out.size))
      clear hb a0 a1 a2 a3 a4 a5 a6 a7
      obtain ⟨a0, a1, a2, a3, a4, a5, a6, a7⟩ := head8 HU1.out
      go_wp2
      all_goals go_ret
      all_goals rw [HF.out]
      all_goals exact ⟨rfl, HB1.out⟩
    have q2 : decide (1073741824 < v) = false := decide_eq_false c2
    by_cases c3 : s < 1
    · have q3 : decide (s < 1) = true := decide_eq_true c3
      have HF : Hid (decide (Rc.Ok ⟨p, v, z, f, l, s, m, g⟩) = false) := Lib.hid (decide_eq_false fun hk => by
        obtain ⟨k1, ⟨k2, k3⟩, ⟨k4, k5⟩, ⟨k6, k7⟩, k8, k9, k10, k11, ⟨k12, k13⟩, k14⟩ := hk
        simp only at *
        omega)
      clear c1 c2 c3
      go_enter Tryd.func21, Tryd.ntmps21
      dsimp only [List.append]
      go_wp2_with fail
      refine HC.out.mono ?_
      rintro e w1 ⟨rfl, hb⟩
      have HU1 := Lib.hid (below_head hb HU0.out)
      have HB1 := Lib.hid (HB0.out.trans (hb.mono HB0.out.size))
      clear hb a0 a1 a2 a3 a4 a5 a6 a7
      obtain ⟨a0, a1, a2, a3, a4, a5, a6, a7⟩ := head8 HU1.out
      go_wp2
      all_goals go_ret
      all_goals rw [HF.out]
      all_goals exact ⟨rfl, HB1.out⟩
    have q3 : decide (s < 1) = false := decide_eq_false c3
    by_cases c4 : 1073741824 < s
    · have q4 : decide (1073741824 < s) = true := decide_eq_true c4
      have HF : Hid (decide (Rc.Ok ⟨p, v, z, f, l, s, m, g⟩) = false) := Lib.hid (decide_eq_false fun hk => by
        obtain ⟨k1, ⟨k2, k3⟩, ⟨k4, k5⟩, ⟨k6, k7⟩, k8, k9, k10, k11, ⟨k12, k13⟩, k14⟩ := hk
        simp only at *
        omega)
      clear c1 c2 c3 c4
      go_enter Tryd.func21, Tryd.ntmps21
      dsimp only [List.append]
      go_wp2_with fail
      refine HC.out.mono ?_
      rintro e w1 ⟨rfl, hb⟩
      have HU1 := Lib.hid (below_head hb HU0.out)
      have HB1 := Lib.hid (HB0.out.trans (hb.mono HB0.out.size))
      clear hb a0 a1 a2 a3 a4 a5 a6 a7
      obtain ⟨a0, a1, a2, a3, a4, a5, a6, a7⟩ := head8 HU1.out
      go_wp2
      all_goals go_ret
      all_goals rw [HF.out]
      all_goals exact ⟨rfl, HB1.out⟩
    have q4 : decide (1073741824 < s) = false := decide_eq_false c4
    have c5 : z < 0 := by rcases h with h | h | h | h | h | h; exact absurd h (by rw [← HR.out]; decide); all_goals first | assumption | contradiction
    clear h
    have q5 : decide (z < 0) = true := decide_eq_true c5
    have HF : Hid (decide (Rc.Ok ⟨p, v, z, f, l, s, m, g⟩) = false) := Lib.hid (decide_eq_false fun hk => by
      obtain ⟨k1, ⟨k2, k3⟩, ⟨k4, k5⟩, ⟨k6, k7⟩, k8, k9, k10, k11, ⟨k12, k13⟩, k14⟩ := hk
      simp only at *
      omega)
    clear c1 c2 c3 c4 c5
    go_enter Tryd.func21, Tryd.ntmps21
    dsimp only [List.append]
    go_wp2_with fail
    refine HC.out.mono ?_
    rintro e w1 ⟨rfl, hb⟩
    have HU1 := Lib.hid (below_head hb HU0.out)
    have HB1 := Lib.hid (HB0.out.trans (hb.mono HB0.out.size))
    clear hb a0 a1 a2 a3 a4 a5 a6 a7
    obtain ⟨a0, a1, a2, a3, a4, a5, a6, a7⟩ := head8 HU1.out
    go_wp2
    all_goals go_ret
    all_goals rw [HF.out]
    all_goals exact ⟨rfl, HB1.out⟩
end Go.Proofs.YtbcncmampabmfaaDoor
namespace Go.Proofs.YtbcncmampabmfaaDoor
open Go.RowKit
open Pt (Tx)

set_option maxHeartbeats 8000000 in
theorem refRight_B (p : Tx) (v z f l s m : Int) (g : Bool) (w : World) (hl : p.length ≤ maxLen) (hp : Pt.right p = true) (c1 : ¬ v < 1) (c2 : ¬ 1073741824 < v) (c3 : ¬ s < 1) (c4 : ¬ 1073741824 < s) (c5 : ¬ z < 0) (h : 4000 < z ∨ f < 0 ∨ l < 0 ∨ z < f ∨ z - f < l ∨ l = 0 ∧ 0 < z) :
    Calls Tryd.prog 21 #[.agg #[.string (tx p), .int .i64 v, .int .i64 z, .int .i64 f, .int .i64 l, .int .i64 s, .int .i64 m, .bool g]] w (AnsB (decide (Rc.Ok ⟨p, v, z, f, l, s, m, g⟩)) w) := by
  have HB0 : Hid (Below w.heap.size w (w.alloc (headObj p v z f l s m g))) := Lib.hid ((Below.refl _ _).alloc (Nat.le_refl _) _)
  have HU0 : Hid ((w.alloc (headObj p v z f l s m g)).heap[w.heap.size]? = some (headObj p v z f l s m g)) := Lib.hid (Go.Deep.blk_alloc_new _ _)
  have hcall := refRight_any p (w.alloc (headObj p v z f l s m g)) hl
  obtain ⟨r, hr⟩ : ∃ r, r = Pt.right p := ⟨_, rfl⟩
  rw [← hr] at hcall
  have HC := Lib.hid hcall
  have HR := Lib.hid hr
  clear hl hcall
  obtain ⟨a0, a1, a2, a3, a4, a5, a6, a7⟩ := head8 HU0.out
  unfold headObj at a0 a1 a2 a3 a4 a5 a6 a7 HC
  have hrt : r = true := hr.trans hp
  subst hrt
  clear hr hp
  have q1 : decide (v < 1) = false := decide_eq_false c1
  have q2 : decide (1073741824 < v) = false := decide_eq_false c2
  have q3 : decide (s < 1) = false := decide_eq_false c3
  have q4 : decide (1073741824 < s) = false := decide_eq_false c4
  have q5 : decide (z < 0) = false := decide_eq_false c5
  by_cases c6 : 4000 < z
  · have q6 : decide (4000 < z) = true := decide_eq_true c6
    have HF : Hid (decide (Rc.Ok ⟨p, v, z, f, l, s, m, g⟩) = false) := Lib.hid (decide_eq_false fun hk => by
      obtain ⟨k1, ⟨k2, k3⟩, ⟨k4, k5⟩, ⟨k6, k7⟩, k8, k9, k10, k11, ⟨k12, k13⟩, k14⟩ := hk
      simp only at *
      omega)
    clear c1 c2 c3 c4 c6
    go_enter Tryd.func21, Tryd.ntmps21
    dsimp only [List.append]
    go_wp2_with fail
    refine HC.out.mono ?_
    rintro e w1 ⟨rfl, hb⟩
    have HU1 := Lib.hid (below_head hb HU0.out)
    have HB1 := Lib.hid (HB0.out.trans (hb.mono HB0.out.size))
    clear hb a0 a1 a2 a3 a4 a5 a6 a7
    obtain ⟨a0, a1, a2, a3, a4, a5, a6, a7⟩ := head8 HU1.out
    go_wp2
    all_goals go_ret
    all_goals rw [HF.out]
    all_goals exact ⟨rfl, HB1.out⟩
  have q6 : decide (4000 < z) = false := decide_eq_false c6
  by_cases c7 : f < 0
  · have q7 : decide (f < 0) = true := decide_eq_true c7
    have HF : Hid (decide (Rc.Ok ⟨p, v, z, f, l, s, m, g⟩) = false) := Lib.hid (decide_eq_false fun hk => by
      obtain ⟨k1, ⟨k2, k3⟩, ⟨k4, k5⟩, ⟨k6, k7⟩, k8, k9, k10, k11, ⟨k12, k13⟩, k14⟩ := hk
      simp only at *
      omega)
    clear c1 c2 c3 c4 c7
    go_enter Tryd.func21, Tryd.ntmps21
    dsimp only [List.append]
    go_wp2_with fail
    refine HC.out.mono ?_
    rintro e w1 ⟨rfl, hb⟩
    have HU1 := Lib.hid (below_head hb HU0.out)
    have HB1 := Lib.hid (HB0.out.trans (hb.mono HB0.out.size))
    clear hb a0 a1 a2 a3 a4 a5 a6 a7
    obtain ⟨a0, a1, a2, a3, a4, a5, a6, a7⟩ := head8 HU1.out
    go_wp2
    all_goals go_ret
    all_goals rw [HF.out]
    all_goals exact ⟨rfl, HB1.out⟩
  have q7 : decide (f < 0) = false := decide_eq_false c7
  by_cases c8 : l < 0
  · have q8 : decide (l < 0) = true := decide_eq_true c8
    have HF : Hid (decide (Rc.Ok ⟨p, v, z, f, l, s, m, g⟩) = false) := Lib.hid (decide_eq_false fun hk => by
      obtain ⟨k1, ⟨k2, k3⟩, ⟨k4, k5⟩, ⟨k6, k7⟩, k8, k9, k10, k11, ⟨k12, k13⟩, k14⟩ := hk
      simp only at *
      omega)
    clear c1 c2 c3 c4 c8
    go_enter Tryd.func21, Tryd.ntmps21
    dsimp only [List.append]
    go_wp2_with fail
    refine HC.out.mono ?_
    rintro e w1 ⟨rfl, hb⟩
    have HU1 := Lib.hid (below_head hb HU0.out)
    have HB1 := Lib.hid (HB0.out.trans (hb.mono HB0.out.size))
    clear hb a0 a1 a2 a3 a4 a5 a6 a7
    obtain ⟨a0, a1, a2, a3, a4, a5, a6, a7⟩ := head8 HU1.out
    go_wp2
    all_goals go_ret
    all_goals rw [HF.out]
    all_goals exact ⟨rfl, HB1.out⟩
  have q8 : decide (l < 0) = false := decide_eq_false c8
  by_cases c9 : z < f
  · have q9 : decide (z < f) = true := decide_eq_true c9
    have HF : Hid (decide (Rc.Ok ⟨p, v, z, f, l, s, m, g⟩) = false) := Lib.hid (decide_eq_false fun hk => by
      obtain ⟨k1, ⟨k2, k3⟩, ⟨k4, k5⟩, ⟨k6, k7⟩, k8, k9, k10, k11, ⟨k12, k13⟩, k14⟩ := hk
      simp only at *
      omega)
    clear c1 c2 c3 c4 c9
    go_enter Tryd.func21, Tryd.ntmps21
    dsimp only [List.append]
    go_wp2_with fail
    refine HC.out.mono ?_
    rintro e w1 ⟨rfl, hb⟩
    have HU1 := Lib.hid (below_head hb HU0.out)
    have HB1 := Lib.hid (HB0.out.trans (hb.mono HB0.out.size))
    clear hb a0 a1 a2 a3 a4 a5 a6 a7
    obtain ⟨a0, a1, a2, a3, a4, a5, a6, a7⟩ := head8 HU1.out
    go_wp2
    all_goals go_ret
    all_goals rw [HF.out]
    all_goals exact ⟨rfl, HB1.out⟩
  have q9 : decide (z < f) = false := decide_eq_false c9
  by_cases c10 : z - f < l
  · have q10 : decide (z - f < l) = true := decide_eq_true c10
    have HF : Hid (decide (Rc.Ok ⟨p, v, z, f, l, s, m, g⟩) = false) := Lib.hid (decide_eq_false fun hk => by
      obtain ⟨k1, ⟨k2, k3⟩, ⟨k4, k5⟩, ⟨k6, k7⟩, k8, k9, k10, k11, ⟨k12, k13⟩, k14⟩ := hk
      simp only at *
      omega)
    clear c1 c2 c3 c4 c10
    go_enter Tryd.func21, Tryd.ntmps21
    dsimp only [List.append]
    go_wp2_with fail
    refine HC.out.mono ?_
    rintro e w1 ⟨rfl, hb⟩
    have HU1 := Lib.hid (below_head hb HU0.out)
    have HB1 := Lib.hid (HB0.out.trans (hb.mono HB0.out.size))
    clear hb a0 a1 a2 a3 a4 a5 a6 a7
    obtain ⟨a0, a1, a2, a3, a4, a5, a6, a7⟩ := head8 HU1.out
    go_wp2
    all_goals go_ret
    all_goals rw [HF.out]
    all_goals exact ⟨rfl, HB1.out⟩
  have q10 : decide (z - f < l) = false := decide_eq_false c10
  have q11 : (l == 0) = true := beq_iff_eq.2 (by omega)
  have q12 : decide (0 < z) = true := decide_eq_true (by omega)
  have HF : Hid (decide (Rc.Ok ⟨p, v, z, f, l, s, m, g⟩) = false) := Lib.hid (decide_eq_false fun hk => by
    obtain ⟨k1, ⟨k2, k3⟩, ⟨k4, k5⟩, ⟨k6, k7⟩, k8, k9, k10, k11, ⟨k12, k13⟩, k14⟩ := hk
    simp only at *
    omega)
  clear c1 c2 c3 c4 h
  go_enter Tryd.func21, Tryd.ntmps21
  dsimp only [List.append]
  go_wp2_with fail
  refine HC.out.mono ?_
  rintro e w1 ⟨rfl, hb⟩
  have HU1 := Lib.hid (below_head hb HU0.out)
  have HB1 := Lib.hid (HB0.out.trans (hb.mono HB0.out.size))
  clear hb a0 a1 a2 a3 a4 a5 a6 a7
  obtain ⟨a0, a1, a2, a3, a4, a5, a6, a7⟩ := head8 HU1.out
  go_wp2
  all_goals go_ret
  all_goals rw [HF.out]
  all_goals exact ⟨rfl, HB1.out⟩
end Go.Proofs.YtbcncmampabmfaaDoor
namespace Go.Proofs.YtbcncmampabmfaaDoor
open Go.RowKit
open Pt (Tx)

set_option maxHeartbeats 8000000 in
theorem refRight_C (p : Tx) (v z f l s m : Int) (g : Bool) (w : World) (hl : p.length ≤ maxLen) (hp : Pt.right p = true) (c1 : ¬ v < 1) (c2 : ¬ 1073741824 < v) (c3 : ¬ s < 1) (c4 : ¬ 1073741824 < s) (c5 : ¬ z < 0) (c6 : ¬ 4000 < z) (c7 : ¬ f < 0) (c8 : ¬ l < 0) (c9 : ¬ z < f) (c10 : ¬ z - f < l) (c11 : ¬ (l = 0 ∧ 0 < z)) :
    Calls Tryd.prog 21 #[.agg #[.string (tx p), .int .i64 v, .int .i64 z, .int .i64 f, .int .i64 l, .int .i64 s, .int .i64 m, .bool g]] w (AnsB (decide (Rc.Ok ⟨p, v, z, f, l, s, m, g⟩)) w) := by
  have HB0 : Hid (Below w.heap.size w (w.alloc (headObj p v z f l s m g))) := Lib.hid ((Below.refl _ _).alloc (Nat.le_refl _) _)
  have HU0 : Hid ((w.alloc (headObj p v z f l s m g)).heap[w.heap.size]? = some (headObj p v z f l s m g)) := Lib.hid (Go.Deep.blk_alloc_new _ _)
  have hcall := refRight_any p (w.alloc (headObj p v z f l s m g)) hl
  obtain ⟨r, hr⟩ : ∃ r, r = Pt.right p := ⟨_, rfl⟩
  rw [← hr] at hcall
  have HC := Lib.hid hcall
  have HR := Lib.hid hr
  clear hl hcall
  obtain ⟨a0, a1, a2, a3, a4, a5, a6, a7⟩ := head8 HU0.out
  unfold headObj at a0 a1 a2 a3 a4 a5 a6 a7 HC
  have hrt : r = true := hr.trans hp
  subst hrt
  clear hr hp
  have q1 : decide (v < 1) = false := decide_eq_false c1
  have q2 : decide (1073741824 < v) = false := decide_eq_false c2
  have q3 : decide (s < 1) = false := decide_eq_false c3
  have q4 : decide (1073741824 < s) = false := decide_eq_false c4
  have q5 : decide (z < 0) = false := decide_eq_false c5
  have q6 : decide (4000 < z) = false := decide_eq_false c6
  have q7 : decide (f < 0) = false := decide_eq_false c7
  have q8 : decide (l < 0) = false := decide_eq_false c8
  have q9 : decide (z < f) = false := decide_eq_false c9
  have q10 : decide (z - f < l) = false := decide_eq_false c10
  by_cases c13 : m < 0
  · have q13 : decide (m < 0) = true := decide_eq_true c13
    by_cases e : l = 0
    · have q11 : (l == 0) = true := beq_iff_eq.2 e
      have q12 : decide (0 < z) = false := decide_eq_false (by omega)
      have HF : Hid (decide (Rc.Ok ⟨p, v, z, f, l, s, m, g⟩) = false) := Lib.hid (decide_eq_false fun hk => by
        obtain ⟨k1, ⟨k2, k3⟩, ⟨k4, k5⟩, ⟨k6, k7⟩, k8, k9, k10, k11, ⟨k12, k13⟩, k14⟩ := hk
        simp only at *
        omega)
      clear c1 c2 c3 c4 c11 e c13
      go_enter Tryd.func21, Tryd.ntmps21
      dsimp only [List.append]
      go_wp2_with fail
      refine HC.out.mono ?_
      rintro e w1 ⟨rfl, hb⟩
      have HU1 := Lib.hid (below_head hb HU0.out)
      have HB1 := Lib.hid (HB0.out.trans (hb.mono HB0.out.size))
      clear hb a0 a1 a2 a3 a4 a5 a6 a7
      obtain ⟨a0, a1, a2, a3, a4, a5, a6, a7⟩ := head8 HU1.out
      go_wp2
      all_goals go_ret
      all_goals rw [HF.out]
      all_goals exact ⟨rfl, HB1.out⟩
    · have q11 : (l == 0) = false := beq_eq_false_iff_ne.2 e
      have HF : Hid (decide (Rc.Ok ⟨p, v, z, f, l, s, m, g⟩) = false) := Lib.hid (decide_eq_false fun hk => by
        obtain ⟨k1, ⟨k2, k3⟩, ⟨k4, k5⟩, ⟨k6, k7⟩, k8, k9, k10, k11, ⟨k12, k13⟩, k14⟩ := hk
        simp only at *
        omega)
      clear c1 c2 c3 c4 c11 e c13
      go_enter Tryd.func21, Tryd.ntmps21
      dsimp only [List.append]
      go_wp2_with fail
      refine HC.out.mono ?_
      rintro e w1 ⟨rfl, hb⟩
      have HU1 := Lib.hid (below_head hb HU0.out)
      have HB1 := Lib.hid (HB0.out.trans (hb.mono HB0.out.size))
      clear hb a0 a1 a2 a3 a4 a5 a6 a7
      obtain ⟨a0, a1, a2, a3, a4, a5, a6, a7⟩ := head8 HU1.out
      go_wp2
      all_goals go_ret
      all_goals rw [HF.out]
      all_goals exact ⟨rfl, HB1.out⟩
  have q13 : decide (m < 0) = false := decide_eq_false c13
  by_cases c14 : 4294967295 < m
  · have q14 : decide (4294967295 < m) = true := decide_eq_true c14
    by_cases e : l = 0
    · have q11 : (l == 0) = true := beq_iff_eq.2 e
      have q12 : decide (0 < z) = false := decide_eq_false (by omega)
      have HF : Hid (decide (Rc.Ok ⟨p, v, z, f, l, s, m, g⟩) = false) := Lib.hid (decide_eq_false fun hk => by
        obtain ⟨k1, ⟨k2, k3⟩, ⟨k4, k5⟩, ⟨k6, k7⟩, k8, k9, k10, k11, ⟨k12, k13⟩, k14⟩ := hk
        simp only at *
        omega)
      clear c1 c2 c3 c4 c11 e c13 c14
      go_enter Tryd.func21, Tryd.ntmps21
      dsimp only [List.append]
      go_wp2_with fail
      refine HC.out.mono ?_
      rintro e w1 ⟨rfl, hb⟩
      have HU1 := Lib.hid (below_head hb HU0.out)
      have HB1 := Lib.hid (HB0.out.trans (hb.mono HB0.out.size))
      clear hb a0 a1 a2 a3 a4 a5 a6 a7
      obtain ⟨a0, a1, a2, a3, a4, a5, a6, a7⟩ := head8 HU1.out
      go_wp2
      all_goals go_ret
      all_goals rw [HF.out]
      all_goals exact ⟨rfl, HB1.out⟩
    · have q11 : (l == 0) = false := beq_eq_false_iff_ne.2 e
      have HF : Hid (decide (Rc.Ok ⟨p, v, z, f, l, s, m, g⟩) = false) := Lib.hid (decide_eq_false fun hk => by
        obtain ⟨k1, ⟨k2, k3⟩, ⟨k4, k5⟩, ⟨k6, k7⟩, k8, k9, k10, k11, ⟨k12, k13⟩, k14⟩ := hk
        simp only at *
        omega)
      clear c1 c2 c3 c4 c11 e c13 c14
      go_enter Tryd.func21, Tryd.ntmps21
      dsimp only [List.append]
      go_wp2_with fail
      refine HC.out.mono ?_
      rintro e w1 ⟨rfl, hb⟩
      have HU1 := Lib.hid (below_head hb HU0.out)
      have HB1 := Lib.hid (HB0.out.trans (hb.mono HB0.out.size))
      clear hb a0 a1 a2 a3 a4 a5 a6 a7
      obtain ⟨a0, a1, a2, a3, a4, a5, a6, a7⟩ := head8 HU1.out
      go_wp2
      all_goals go_ret
      all_goals rw [HF.out]
      all_goals exact ⟨rfl, HB1.out⟩
  have q14 : decide (4294967295 < m) = false := decide_eq_false c14
  by_cases e : l = 0
  · have q11 : (l == 0) = true := beq_iff_eq.2 e
    have q12 : decide (0 < z) = false := decide_eq_false (by omega)
    cases g with
    | false =>
      have HF : Hid (decide (Rc.Ok ⟨p, v, z, f, l, s, m, false⟩) = true) := Lib.hid (decide_eq_true (by
        refine ⟨HR.out.symm, ⟨by show 1 ≤ v; omega, by show v ≤ 1073741824; omega⟩, ⟨by show 1 ≤ s; omega, by show s ≤ 1073741824; omega⟩, ⟨by show 0 ≤ z; omega, by show z ≤ 4000; omega⟩, (by show 0 ≤ f; omega), (by show 0 ≤ l; omega), (by show f + l ≤ z; omega), (by show 0 < l ∨ z = 0; omega), ⟨by show 0 ≤ m; omega, by show m ≤ 4294967295; omega⟩, fun h => by cases h⟩))
      clear c1 c2 c3 c4 c11 c13 c14 e
      go_enter Tryd.func21, Tryd.ntmps21
      dsimp only [List.append]
      go_wp2_with fail
      refine HC.out.mono ?_
      rintro e w1 ⟨rfl, hb⟩
      have HU1 := Lib.hid (below_head hb HU0.out)
      have HB1 := Lib.hid (HB0.out.trans (hb.mono HB0.out.size))
      clear hb a0 a1 a2 a3 a4 a5 a6 a7
      obtain ⟨a0, a1, a2, a3, a4, a5, a6, a7⟩ := head8 HU1.out
      go_wp2
      all_goals go_ret
      all_goals rw [HF.out]
      all_goals exact ⟨rfl, HB1.out⟩
    | true =>
      have q15 : (z == 0) = true := beq_iff_eq.2 (by omega)
      have q16 : (f == 0) = true := beq_iff_eq.2 (by omega)
      by_cases em : m = 0
      · have q17 : (m == 0) = true := beq_iff_eq.2 em
        have HF : Hid (decide (Rc.Ok ⟨p, v, z, f, l, s, m, true⟩) = true) := Lib.hid (decide_eq_true (by
          refine ⟨HR.out.symm, ⟨by show 1 ≤ v; omega, by show v ≤ 1073741824; omega⟩, ⟨by show 1 ≤ s; omega, by show s ≤ 1073741824; omega⟩, ⟨by show 0 ≤ z; omega, by show z ≤ 4000; omega⟩, (by show 0 ≤ f; omega), (by show 0 ≤ l; omega), (by show f + l ≤ z; omega), (by show 0 < l ∨ z = 0; omega), ⟨by show 0 ≤ m; omega, by show m ≤ 4294967295; omega⟩, fun _ => ⟨by show z = 0; omega, by show f = 0; omega, by show l = 0; omega, by show m = 0; omega⟩⟩))
        clear c1 c2 c3 c4 c11 c13 c14 e em
        go_enter Tryd.func21, Tryd.ntmps21
        dsimp only [List.append]
        go_wp2_with fail
        refine HC.out.mono ?_
        rintro e w1 ⟨rfl, hb⟩
        have HU1 := Lib.hid (below_head hb HU0.out)
        have HB1 := Lib.hid (HB0.out.trans (hb.mono HB0.out.size))
        clear hb a0 a1 a2 a3 a4 a5 a6 a7
        obtain ⟨a0, a1, a2, a3, a4, a5, a6, a7⟩ := head8 HU1.out
        go_wp2
        all_goals go_ret
        all_goals rw [HF.out]
        all_goals exact ⟨rfl, HB1.out⟩
      · have q17 : (m == 0) = false := beq_eq_false_iff_ne.2 em
        have HF : Hid (decide (Rc.Ok ⟨p, v, z, f, l, s, m, true⟩) = false) := Lib.hid (decide_eq_false fun hk => by
          obtain ⟨k1, ⟨k2, k3⟩, ⟨k4, k5⟩, ⟨k6, k7⟩, k8, k9, k10, k11, ⟨k12, k13⟩, k14⟩ := hk
          obtain ⟨k15, k16, k17, k18⟩ := k14 rfl
          simp only at *
          omega)
        clear c1 c2 c3 c4 c11 c13 c14 e em
        go_enter Tryd.func21, Tryd.ntmps21
        dsimp only [List.append]
        go_wp2_with fail
        refine HC.out.mono ?_
        rintro e w1 ⟨rfl, hb⟩
        have HU1 := Lib.hid (below_head hb HU0.out)
        have HB1 := Lib.hid (HB0.out.trans (hb.mono HB0.out.size))
        clear hb a0 a1 a2 a3 a4 a5 a6 a7
        obtain ⟨a0, a1, a2, a3, a4, a5, a6, a7⟩ := head8 HU1.out
        go_wp2
        all_goals go_ret
        all_goals rw [HF.out]
        all_goals exact ⟨rfl, HB1.out⟩
  · have q11 : (l == 0) = false := beq_eq_false_iff_ne.2 e
    cases g with
    | false =>
      have HF : Hid (decide (Rc.Ok ⟨p, v, z, f, l, s, m, false⟩) = true) := Lib.hid (decide_eq_true (by
        refine ⟨HR.out.symm, ⟨by show 1 ≤ v; omega, by show v ≤ 1073741824; omega⟩, ⟨by show 1 ≤ s; omega, by show s ≤ 1073741824; omega⟩, ⟨by show 0 ≤ z; omega, by show z ≤ 4000; omega⟩, (by show 0 ≤ f; omega), (by show 0 ≤ l; omega), (by show f + l ≤ z; omega), (by show 0 < l ∨ z = 0; omega), ⟨by show 0 ≤ m; omega, by show m ≤ 4294967295; omega⟩, fun h => by cases h⟩))
      clear c1 c2 c3 c4 c11 c13 c14 e
      go_enter Tryd.func21, Tryd.ntmps21
      dsimp only [List.append]
      go_wp2_with fail
      refine HC.out.mono ?_
      rintro e w1 ⟨rfl, hb⟩
      have HU1 := Lib.hid (below_head hb HU0.out)
      have HB1 := Lib.hid (HB0.out.trans (hb.mono HB0.out.size))
      clear hb a0 a1 a2 a3 a4 a5 a6 a7
      obtain ⟨a0, a1, a2, a3, a4, a5, a6, a7⟩ := head8 HU1.out
      go_wp2
      all_goals go_ret
      all_goals rw [HF.out]
      all_goals exact ⟨rfl, HB1.out⟩
    | true =>
      have q15 : (z == 0) = false := beq_eq_false_iff_ne.2 (by omega)
      have HF : Hid (decide (Rc.Ok ⟨p, v, z, f, l, s, m, true⟩) = false) := Lib.hid (decide_eq_false fun hk => by
        obtain ⟨k1, ⟨k2, k3⟩, ⟨k4, k5⟩, ⟨k6, k7⟩, k8, k9, k10, k11, ⟨k12, k13⟩, k14⟩ := hk
        obtain ⟨k15, k16, k17, k18⟩ := k14 rfl
        simp only at *
        omega)
      clear c1 c2 c3 c4 c11 c13 c14 e
      go_enter Tryd.func21, Tryd.ntmps21
      dsimp only [List.append]
      go_wp2_with fail
      refine HC.out.mono ?_
      rintro e w1 ⟨rfl, hb⟩
      have HU1 := Lib.hid (below_head hb HU0.out)
      have HB1 := Lib.hid (HB0.out.trans (hb.mono HB0.out.size))
      clear hb a0 a1 a2 a3 a4 a5 a6 a7
      obtain ⟨a0, a1, a2, a3, a4, a5, a6, a7⟩ := head8 HU1.out
      go_wp2
      all_goals go_ret
      all_goals rw [HF.out]
      all_goals exact ⟨rfl, HB1.out⟩
end Go.Proofs.YtbcncmampabmfaaDoor
namespace Go.Proofs.YtbcncmampabmfaaDoor
open Go.RowKit
open Pt (Tx)

theorem refRightHead_any (p : Tx) (v z f l s m : Int) (g : Bool) (w : World) (hl : p.length ≤ maxLen) :
    Calls Tryd.prog 21 #[.agg #[.string (tx p), .int .i64 v, .int .i64 z, .int .i64 f, .int .i64 l, .int .i64 s, .int .i64 m, .bool g]] w (AnsB (decide (Rc.Ok ⟨p, v, z, f, l, s, m, g⟩)) w) := by
  by_cases h : Pt.right p = false ∨ v < 1 ∨ 1073741824 < v ∨ s < 1 ∨ 1073741824 < s ∨ z < 0
  · exact refRight_A p v z f l s m g w hl h
  · have hp : Pt.right p = true := by cases e : Pt.right p with
      | true => rfl
      | false => exact absurd (.inl e) h
    by_cases h2 : 4000 < z ∨ f < 0 ∨ l < 0 ∨ z < f ∨ z - f < l ∨ l = 0 ∧ 0 < z
    · exact refRight_B p v z f l s m g w hl hp (by omega) (by omega) (by omega) (by omega) (by omega) h2
    · exact refRight_C p v z f l s m g w hl hp (by omega) (by omega) (by omega) (by omega) (by omega) (by omega) (by omega) (by omega) (by omega) (by omega) (by omega)
end Go.Proofs.YtbcncmampabmfaaDoor
namespace Go.Proofs.YtbcncmampabmfaaDoor
open Go.RowKit
open Pt (Tx)

theorem Turned.head {g base B : Nat} {a b : World} {p : Tx} {v z f l s m : Int} {gn : Bool} (h : Turned g base a b) (hB : B ≠ g) (hu : a.heap[B]? = some (headObj p v z f l s m gn)) : b.heap[B]? = some (headObj p v z f l s m gn) :=
  h.other hB (by decide) hu
set_option maxHeartbeats 1000000 in
theorem refHeadBytes_no (p : Tx) (v z f l s m : Int) (g : Bool) (w : World) (hl : p.length ≤ maxLen) (hok : ¬ Rc.Ok ⟨p, v, z, f, l, s, m, g⟩) :
    Calls Tryd.prog 22 #[.agg #[.string (tx p), .int .i64 v, .int .i64 z, .int .i64 f, .int .i64 l, .int .i64 s, .int .i64 m, .bool g]] w (AnsO (Rc.put ⟨p, v, z, f, l, s, m, g⟩) w) := by
  have HB0 : Hid (Below w.heap.size w (w.alloc (headObj p v z f l s m g))) := Lib.hid ((Below.refl _ _).alloc (Nat.le_refl _) _)
  have HU0 : Hid ((w.alloc (headObj p v z f l s m g)).heap[w.heap.size]? = some (headObj p v z f l s m g)) := Lib.hid (Go.Deep.blk_alloc_new _ _)
  have hcall := refRightHead_any p v z f l s m g (w.alloc (headObj p v z f l s m g)) hl
  rw [decide_eq_false hok] at hcall
  have HC := Lib.hid hcall
  have HP := Lib.hid (Rc.put_no hok)
  clear hl hok hcall
  obtain ⟨a0, a1, a2, a3, a4, a5, a6, a7⟩ := head8 HU0.out
  unfold headObj at a0 a1 a2 a3 a4 a5 a6 a7 HC
  go_enter Tryd.func22, Tryd.ntmps22
  go_wp2_with fail
  refine HC.out.mono ?_
  rintro e w1 ⟨rfl, hb⟩
  have HB1 := Lib.hid (HB0.out.trans (hb.mono HB0.out.size))
  clear hb a0 a1 a2 a3 a4 a5 a6 a7
  go_wp2
  go_ret
  rw [HP.out]
  exact AnsO.nil HB1.out
set_option maxHeartbeats 4000000 in
theorem refHeadBytes_yes (p : Tx) (v z f l s m : Int) (g : Bool) (w : World) (hl : p.length ≤ maxLen) (hok : Rc.Ok ⟨p, v, z, f, l, s, m, g⟩) :
    Calls Tryd.prog 22 #[.agg #[.string (tx p), .int .i64 v, .int .i64 z, .int .i64 f, .int .i64 l, .int .i64 s, .int .i64 m, .bool g]] w (AnsO (Rc.put ⟨p, v, z, f, l, s, m, g⟩) w) := by
  have HB0 : Hid (Below w.heap.size w (w.alloc (headObj p v z f l s m g))) := Lib.hid ((Below.refl _ _).alloc (Nat.le_refl _) _)
  have HU0 : Hid ((w.alloc (headObj p v z f l s m g)).heap[w.heap.size]? = some (headObj p v z f l s m g)) := Lib.hid (Go.Deep.blk_alloc_new _ _)
  have hcall := refRightHead_any p v z f l s m g (w.alloc (headObj p v z f l s m g)) hl
  rw [decide_eq_true hok] at hcall
  have HC := Lib.hid hcall
  have HP := Lib.hid (Rc.put_ok hok)
  have HS := Lib.hid hok.short
  have HL := Lib.hid hl
  clear hl hok hcall
  obtain ⟨a0, a1, a2, a3, a4, a5, a6, a7⟩ := head8 HU0.out
  unfold headObj at a0 a1 a2 a3 a4 a5 a6 a7 HC
  go_enter Tryd.func22, Tryd.ntmps22
  go_wp2_with fail
  refine HC.out.mono ?_
  rintro e w1 ⟨rfl, hb⟩
  obtain ⟨gr, hgr⟩ : ∃ gr, gr = w1.heap.size := ⟨_, rfl⟩
  obtain ⟨wb, hwb⟩ : ∃ wb, wb = w1.alloc (.cells #[.slice none 0 0] 62) := ⟨_, rfl⟩
  have hU1 := below_head hb HU0.out
  have hB1 := HB0.out.trans (hb.mono HB0.out.size)
  have HW2 : Hid (RefAt w gr (headObj p v z f l s m g) [] wb) := Lib.hid (by
    rw [hwb, hgr]
    exact ⟨⟨_, Go.Deep.blk_alloc_new _ _, OwnL.nil _ _⟩, (Below.heap_alloc _ _ _ (heap_lt hU1)).trans hU1, hB1.alloc hB1.size _, heap_lt hU1⟩)
  have HWB := Lib.hid hwb
  have HGR := Lib.hid hgr
  clear hb a0 a1 a2 a3 a4 a5 a6 a7 hU1 hB1 hwb hgr
  obtain ⟨a0, a1, a2, a3, a4, a5, a6, a7⟩ := head8 HW2.out.hd
  rw [HWB.out] at a0 a1 a2 a3 a4 a5 a6 a7
  go_wp2_with fail
  rw [← HWB.out, ← HGR.out]
  obtain ⟨v2, hv2⟩ := HW2.out.rw_
  refine (vtext_any gr gr v2 [] p wb hv2 HW2.out.base (by simp) HL.out).mono ?_
  intro e w3 hW
  have HW3 : Hid (RefAt w gr (headObj p v z f l s m g) _ w3) := Lib.hid (HW2.out.wrote (by decide) hW)
  obtain ⟨rfl, -, -⟩ := hW
  clear hv2 a0 a1 a2 a3 a4 a5 a6 a7
  obtain ⟨a0, a1, a2, a3, a4, a5, a6, a7⟩ := head8 HW3.out.hd
  go_wp2_with fail
  obtain ⟨v3, hv3⟩ := HW3.out.rw_
  refine (vint_any gr gr v3 _ v w3 hv3 HW3.out.base (by simp [Cd.tb_len]; omega)).mono ?_
  intro e w4 hW
  have HW4 : Hid (RefAt w gr (headObj p v z f l s m g) _ w4) := Lib.hid (HW3.out.wrote (by decide) hW)
  obtain ⟨rfl, -, -⟩ := hW
  clear hv3 a0 a1 a2 a3 a4 a5 a6 a7
  obtain ⟨a0, a1, a2, a3, a4, a5, a6, a7⟩ := head8 HW4.out.hd
  go_wp2_with fail
  obtain ⟨v4, hv4⟩ := HW4.out.rw_
  refine (vint_any gr gr v4 _ z w4 hv4 HW4.out.base (by simp [Cd.be4_len, Cd.tb_len]; omega)).mono ?_
  intro e w5 hW
  have HW5 : Hid (RefAt w gr (headObj p v z f l s m g) _ w5) := Lib.hid (HW4.out.wrote (by decide) hW)
  obtain ⟨rfl, -, -⟩ := hW
  clear hv4 a0 a1 a2 a3 a4 a5 a6 a7
  obtain ⟨a0, a1, a2, a3, a4, a5, a6, a7⟩ := head8 HW5.out.hd
  go_wp2_with fail
  obtain ⟨v5, hv5⟩ := HW5.out.rw_
  refine (vint_any gr gr v5 _ f w5 hv5 HW5.out.base (by simp [Cd.be4_len, Cd.tb_len]; omega)).mono ?_
  intro e w6 hW
  have HW6 : Hid (RefAt w gr (headObj p v z f l s m g) _ w6) := Lib.hid (HW5.out.wrote (by decide) hW)
  obtain ⟨rfl, -, -⟩ := hW
  clear hv5 a0 a1 a2 a3 a4 a5 a6 a7
  obtain ⟨a0, a1, a2, a3, a4, a5, a6, a7⟩ := head8 HW6.out.hd
  go_wp2_with fail
  obtain ⟨v6, hv6⟩ := HW6.out.rw_
  refine (vint_any gr gr v6 _ l w6 hv6 HW6.out.base (by simp [Cd.be4_len, Cd.tb_len]; omega)).mono ?_
  intro e w7 hW
  have HW7 : Hid (RefAt w gr (headObj p v z f l s m g) _ w7) := Lib.hid (HW6.out.wrote (by decide) hW)
  obtain ⟨rfl, -, -⟩ := hW
  clear hv6 a0 a1 a2 a3 a4 a5 a6 a7
  obtain ⟨a0, a1, a2, a3, a4, a5, a6, a7⟩ := head8 HW7.out.hd
  go_wp2_with fail
  obtain ⟨v7, hv7⟩ := HW7.out.rw_
  refine (vint_any gr gr v7 _ s w7 hv7 HW7.out.base (by simp [Cd.be4_len, Cd.tb_len]; omega)).mono ?_
  intro e w8 hW
  have HW8 : Hid (RefAt w gr (headObj p v z f l s m g) _ w8) := Lib.hid (HW7.out.wrote (by decide) hW)
  obtain ⟨rfl, -, -⟩ := hW
  clear hv7 a0 a1 a2 a3 a4 a5 a6 a7
  obtain ⟨a0, a1, a2, a3, a4, a5, a6, a7⟩ := head8 HW8.out.hd
  go_wp2_with fail
  obtain ⟨v8, hv8⟩ := HW8.out.rw_
  refine (vint_any gr gr v8 _ m w8 hv8 HW8.out.base (by simp [Cd.be4_len, Cd.tb_len]; omega)).mono ?_
  intro e w9 hW
  have HW9 : Hid (RefAt w gr (headObj p v z f l s m g) _ w9) := Lib.hid (HW8.out.wrote (by decide) hW)
  obtain ⟨rfl, -, -⟩ := hW
  clear hv8 a0 a1 a2 a3 a4 a5 a6 a7
  obtain ⟨a0, a1, a2, a3, a4, a5, a6, a7⟩ := head8 HW9.out.hd
  obtain ⟨v9, hv9⟩ := HW9.out.rw_
  have hcall := vbyte_any gr gr v9 _ (Rc.goneB g) w9 hv9 HW9.out.base (by simp [Cd.be4_len, Cd.tb_len]; omega)
  have HT : Hid ((((((((([] ++ Cd.tb p) ++ Cd.be4 v) ++ Cd.be4 z) ++ Cd.be4 f) ++ Cd.be4 l) ++ Cd.be4 s) ++ Cd.be4 m) ++ [Rc.goneB g]) = Rc.blk ⟨p, v, z, f, l, s, m, g⟩) := Lib.hid (by unfold Rc.blk; simp only [List.nil_append, List.append_assoc])
  rw [HT.out] at hcall
  have HC8 := Lib.hid hcall
  clear hcall hv9 HT
  have H8 : Hid (∀ e y, RefWrote gr gr (Rc.blk ⟨p, v, z, f, l, s, m, g⟩) w9 e y → e = .returned (.tuple #[]) ∧ ∃ A n C, y.cell? ⟨gr, 0, none⟩ = some (.slice A n C) ∧ AnsO (Rc.blk ⟨p, v, z, f, l, s, m, g⟩) w (.returned (.slice A n C)) y) := Lib.hid (fun e y hW => by
    obtain ⟨A, C, h1, h2⟩ := (HW9.out.wrote (by decide) hW).doneO rfl
    exact ⟨hW.1, A, _, C, h1, h2⟩)
  clear HW9
  cases g with
  | true =>
    have hcall : Calls Tryd.prog 25 #[.pointer (some ⟨gr, 0, none⟩), .int .u8 1] w9 _ := HC8.out
    have HD := Lib.hid hcall
    clear hcall
    go_wp2_with fail
    refine HD.out.mono ?_
    intro e y hW
    obtain ⟨rfl, A, n, C, c0, hans⟩ := H8.out e y hW
    have HA := Lib.hid hans
    clear hans hW a0 a1 a2 a3 a4 a5 a6 a7
    go_wp2
    go_ret
    rw [HP.out]
    exact HA.out
  | false =>
    have hcall : Calls Tryd.prog 25 #[.pointer (some ⟨gr, 0, none⟩), .int .u8 0] w9 _ := HC8.out
    have HD := Lib.hid hcall
    clear hcall
    go_wp2_with fail
    refine HD.out.mono ?_
    intro e y hW
    obtain ⟨rfl, A, n, C, c0, hans⟩ := H8.out e y hW
    have HA := Lib.hid hans
    clear hans hW a0 a1 a2 a3 a4 a5 a6 a7
    go_wp2
    go_ret
    rw [HP.out]
    exact HA.out
theorem refHeadBytes_own (p : Tx) (v z f l s m : Int) (g : Bool) (w : World) (hl : p.length ≤ maxLen) :
    Calls Tryd.prog 22 #[.agg #[.string (tx p), .int .i64 v, .int .i64 z, .int .i64 f, .int .i64 l, .int .i64 s, .int .i64 m, .bool g]] w (AnsO (Rc.put ⟨p, v, z, f, l, s, m, g⟩) w) := by
  by_cases hok : Rc.Ok ⟨p, v, z, f, l, s, m, g⟩
  · exact refHeadBytes_yes p v z f l s m g w hl hok
  · exact refHeadBytes_no p v z f l s m g w hl hok
theorem refHeadBytes_any (p : Tx) (v z f l s m : Int) (g : Bool) (w : World) (hl : p.length ≤ maxLen) :
    Calls Tryd.prog 22 #[.agg #[.string (tx p), .int .i64 v, .int .i64 z, .int .i64 f, .int .i64 l, .int .i64 s, .int .i64 m, .bool g]] w (AnsT (Rc.put ⟨p, v, z, f, l, s, m, g⟩) w) :=
  (refHeadBytes_own p v z f l s m g w hl).mono fun _ _ h => h.toT
end Go.Proofs.YtbcncmampabmfaaDoor
