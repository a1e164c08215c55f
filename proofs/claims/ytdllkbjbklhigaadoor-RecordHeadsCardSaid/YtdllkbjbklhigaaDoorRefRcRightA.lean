/- What the document's own RightHead answers. -/
import Derived.Test.YtdllkbjbklhigaaDoorRcWords
import Derived.Test.YtdllkbjbklhigaaDoorRefPt
namespace Go.Proofs.YtdllkbjbklhigaaDoor
open Go.RowKit
open Pt (Tx)

set_option maxHeartbeats 8000000 in
theorem refRight_A (p : Tx) (v z f l s m : Int) (g : Bool) (w : World) (hl : p.length ≤ maxLen) (h : Pt.right p = false ∨ v < 1 ∨ 1073741824 < v ∨ s < 1 ∨ 1073741824 < s ∨ z < 0) :
    Calls Tryd.prog 8 #[.agg #[.string (tx p), .int .i64 v, .int .i64 z, .int .i64 f, .int .i64 l, .int .i64 s, .int .i64 m, .bool g]] w (AnsB (decide (Rc.Ok ⟨p, v, z, f, l, s, m, g⟩)) w) := by
  have HB0 : Hid (Below w.heap.size w (w.alloc (headObj p v z f l s m g))) := Lib.hid ((Below.refl _ _).alloc (Nat.le_refl _) _)
  have HU0 : Hid ((w.alloc (headObj p v z f l s m g)).heap[w.heap.size]? = some (headObj p v z f l s m g)) := Lib.hid (Go.Deep.blk_alloc_new _ _)
  have hcall := refRight_any p (w.alloc (headObj p v z f l s m g)) hl
  obtain ⟨r, hr⟩ : ∃ r, r = Pt.right p := ⟨_, rfl⟩
  rw [← hr] at hcall
  have HC := Lib.hid hcall
  have HR := Lib.hid hr
  clear hl hcall
  obtain ⟨a0, a1, a2, a3, a4, a5, a6, a7⟩ := head8 HU0.out
  unfold headObj at a0 a1 a2 a3 a4 a5 a6 a7 HC
  clear hr
  cases r with
  | false =>
    have HF : Hid (decide (Rc.Ok ⟨p, v, z, f, l, s, m, g⟩) = false) := Lib.hid (decide_eq_false fun hk => by
      exact absurd hk.1 (by rw [show Pt.right _ = false from HR.out.symm]; decide))
    go_enter Tryd.func8, Tryd.ntmps8
    dsimp only [List.append]
    go_wp2_with fail
    refine HC.out.mono ?_
    rintro e w1 ⟨rfl, hb⟩
    have HU1 := Lib.hid (below_head hb HU0.out)
    have HB1 := Lib.hid (HB0.out.trans (hb.mono HB0.out.size))
    clear hb a0 a1 a2 a3 a4 a5 a6 a7
    obtain ⟨a0, a1, a2, a3, a4, a5, a6, a7⟩ := head8 HU1.out
    go_wp2
    all_goals go_ret
    all_goals rw [HF.out]
    all_goals exact ⟨rfl, HB1.out⟩
  | true =>
    by_cases c1 : v < 1
    · have q1 : decide (v < 1) = true := decide_eq_true c1
      have HF : Hid (decide (Rc.Ok ⟨p, v, z, f, l, s, m, g⟩) = false) := Lib.hid (decide_eq_false fun hk => by
        obtain ⟨k1, ⟨k2, k3⟩, ⟨k4, k5⟩, ⟨k6, k7⟩, k8, k9, k10, k11, ⟨k12, k13⟩, k14⟩ := hk
        simp only at *
        omega)
      clear c1
      go_enter Tryd.func8, Tryd.ntmps8
      dsimp only [List.append]
      go_wp2_with fail
      refine HC.out.mono ?_
      rintro e w1 ⟨rfl, hb⟩
      have HU1 := Lib.hid (below_head hb HU0.out)
      have HB1 := Lib.hid (HB0.out.trans (hb.mono HB0.out.size))
      clear hb a0 a1 a2 a3 a4 a5 a6 a7
      obtain ⟨a0, a1, a2, a3, a4, a5, a6, a7⟩ := head8 HU1.out
      go_wp2
      all_goals go_ret
      all_goals rw [HF.out]
      all_goals exact ⟨rfl, HB1.out⟩
    have q1 : decide (v < 1) = false := decide_eq_false c1
    by_cases c2 : 1073741824 < v
    · have q2 : decide (1073741824 < v) = true := decide_eq_true c2
      have HF : Hid (decide (Rc.Ok ⟨p, v, z, f, l, s, m, g⟩) = false) := Lib.hid (decide_eq_false fun hk => by
        obtain ⟨k1, ⟨k2, k3⟩, ⟨k4, k5⟩, ⟨k6, k7⟩, k8, k9, k10, k11, ⟨k12, k13⟩, k14⟩ := hk
        simp only at *
        omega)
      clear c1 c2
      go_enter Tryd.func8, Tryd.ntmps8
      dsimp only [List.append]
      go_wp2_with fail
      refine HC.out.mono ?_
      rintro e w1 ⟨rfl, hb⟩
      have HU1 := Lib.hid (below_head hb HU0.out)
      have HB1 := Lib.hid (HB0.out.trans (hb.mono HB0.out.size))
      clear hb a0 a1 a2 a3 a4 a5 a6 a7
      obtain ⟨a0, a1, a2, a3, a4, a5, a6, a7⟩ := head8 HU1.out
      go_wp2
      all_goals go_ret
      all_goals rw [HF.out]
      all_goals exact ⟨rfl, HB1.out⟩
    have q2 : decide (1073741824 < v) = false := decide_eq_false c2
    by_cases c3 : s < 1
    · have q3 : decide (s < 1) = true := decide_eq_true c3
      have HF : Hid (decide (Rc.Ok ⟨p, v, z, f, l, s, m, g⟩) = false) := Lib.hid (decide_eq_false fun hk => by
        obtain ⟨k1, ⟨k2, k3⟩, ⟨k4, k5⟩, ⟨k6, k7⟩, k8, k9, k10, k11, ⟨k12, k13⟩, k14⟩ := hk
        simp only at *
        omega)
      clear c1 c2 c3
      go_enter Tryd.func8, Tryd.ntmps8
      dsimp only [List.append]
      go_wp2_with fail
      refine HC.out.mono ?_
      rintro e w1 ⟨rfl, hb⟩
      have HU1 := Lib.hid (below_head hb HU0.out)
      have HB1 := Lib.hid (HB0.out.trans (hb.mono HB0.out.size))
      clear hb a0 a1 a2 a3 a4 a5 a6 a7
      obtain ⟨a0, a1, a2, a3, a4, a5, a6, a7⟩ := head8 HU1.out
      go_wp2
      all_goals go_ret
      all_goals rw [HF.out]
      all_goals exact ⟨rfl, HB1.out⟩
    have q3 : decide (s < 1) = false := decide_eq_false c3
    by_cases c4 : 1073741824 < s
    · have q4 : decide (1073741824 < s) = true := decide_eq_true c4
      have HF : Hid (decide (Rc.Ok ⟨p, v, z, f, l, s, m, g⟩) = false) := Lib.hid (decide_eq_false fun hk => by
        obtain ⟨k1, ⟨k2, k3⟩, ⟨k4, k5⟩, ⟨k6, k7⟩, k8, k9, k10, k11, ⟨k12, k13⟩, k14⟩ := hk
        simp only at *
        omega)
      clear c1 c2 c3 c4
      go_enter Tryd.func8, Tryd.ntmps8
      dsimp only [List.append]
      go_wp2_with fail
      refine HC.out.mono ?_
      rintro e w1 ⟨rfl, hb⟩
      have HU1 := Lib.hid (below_head hb HU0.out)
      have HB1 := Lib.hid (HB0.out.trans (hb.mono HB0.out.size))
      clear hb a0 a1 a2 a3 a4 a5 a6 a7
      obtain ⟨a0, a1, a2, a3, a4, a5, a6, a7⟩ := head8 HU1.out
      go_wp2
      all_goals go_ret
      all_goals rw [HF.out]
      all_goals exact ⟨rfl, HB1.out⟩
    have q4 : decide (1073741824 < s) = false := decide_eq_false c4
    have c5 : z < 0 := by rcases h with h | h | h | h | h | h; exact absurd h (by rw [← HR.out]; decide); all_goals first | assumption | contradiction
    clear h
    have q5 : decide (z < 0) = true := decide_eq_true c5
    have HF : Hid (decide (Rc.Ok ⟨p, v, z, f, l, s, m, g⟩) = false) := Lib.hid (decide_eq_false fun hk => by
      obtain ⟨k1, ⟨k2, k3⟩, ⟨k4, k5⟩, ⟨k6, k7⟩, k8, k9, k10, k11, ⟨k12, k13⟩, k14⟩ := hk
      simp only at *
      omega)
    clear c1 c2 c3 c4 c5
    go_enter Tryd.func8, Tryd.ntmps8
    dsimp only [List.append]
    go_wp2_with fail
    refine HC.out.mono ?_
    rintro e w1 ⟨rfl, hb⟩
    have HU1 := Lib.hid (below_head hb HU0.out)
    have HB1 := Lib.hid (HB0.out.trans (hb.mono HB0.out.size))
    clear hb a0 a1 a2 a3 a4 a5 a6 a7
    obtain ⟨a0, a1, a2, a3, a4, a5, a6, a7⟩ := head8 HU1.out
    go_wp2
    all_goals go_ret
    all_goals rw [HF.out]
    all_goals exact ⟨rfl, HB1.out⟩
end Go.Proofs.YtdllkbjbklhigaaDoor
