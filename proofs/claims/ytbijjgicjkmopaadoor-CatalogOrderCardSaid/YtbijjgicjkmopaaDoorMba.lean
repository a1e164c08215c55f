/- What the document's own RightHead answers. What the document's own RightHead answers. What Text of the document's own Writer writes. What the document's own HeadBytes answers. -/
import Derived.Test.YtbijjgicjkmopaaDoorMak
import Derived.Test.YtbijjgicjkmopaaDoorMaz
import Derived.Test.YtbijjgicjkmopaaDoorMax
import Derived.Test.YtbijjgicjkmopaaDoorMam
namespace Go.Proofs.YtbijjgicjkmopaaDoor
open Go.RowKit
open Pt (Tx)

set_option maxHeartbeats 8000000 in
theorem refRight_C (p : Tx) (v z f l s m : Int) (g : Bool) (w : World) (hl : p.length ≤ maxLen) (hp : Pt.right p = true) (c1 : ¬ v < 1) (c2 : ¬ 1073741824 < v) (c3 : ¬ s < 1) (c4 : ¬ 1073741824 < s) (c5 : ¬ z < 0) (c6 : ¬ 4000 < z) (c7 : ¬ f < 0) (c8 : ¬ l < 0) (c9 : ¬ z < f) (c10 : ¬ z - f < l) (c11 : ¬ (l = 0 ∧ 0 < z)) :
    Calls Tryd.prog 14 #[.agg #[.string (tx p), .int .i64 v, .int .i64 z, .int .i64 f, .int .i64 l, .int .i64 s, .int .i64 m, .bool g]] w (AnsB (decide (Rc.Ok ⟨p, v, z, f, l, s, m, g⟩)) w) := by
  have HB0 : Hid (Below w.heap.size w (w.alloc (headObj p v z f l s m g))) := Lib.hid ((Below.refl _ _).alloc (Nat.le_refl _) _)
  have HU0 : Hid ((w.alloc (headObj p v z f l s m g)).heap[w.heap.size]? = some (headObj p v z f l s m g)) := Lib.hid (Go.Deep.blk_alloc_new _ _)
  have hcall := refRight_any p (w.alloc (headObj p v z f l s m g)) hl
  obtain ⟨r, hr⟩ : ∃ r, r = Pt.right p := ⟨_, rfl⟩
  rw [← hr] at hcall
  have HC := Lib.hid hcall
  have HR := Lib.hid hr
  clear hl hcall
  obtain ⟨a0, a1, a2, a3, a4, a5, a6, a7⟩ := head8 HU0.out
  unfold headObj at a0 a1 a2 a3 a4 a5 a6 a7 HC
  have hrt : r = true := hr.trans hp
  subst hrt
  clear hr hp
  have q1 : decide (v < 1) = false := decide_eq_false c1
  have q2 : decide (1073741824 < v) = false := decide_eq_false c2
  have q3 : decide (s < 1) = false := decide_eq_false c3
  have q4 : decide (1073741824 < s) = false := decide_eq_false c4
  have q5 : decide (z < 0) = false := decide_eq_false c5
  have q6 : decide (4000 < z) = false := decide_eq_false c6
  have q7 : decide (f < 0) = false := decide_eq_false c7
  have q8 : decide (l < 0) = false := decide_eq_false c8
  have q9 : decide (z < f) = false := decide_eq_false c9
  have q10 : decide (z - f < l) = false := decide_eq_false c10
  by_cases c13 : m < 0
  · have q13 : decide (m < 0) = true := decide_eq_true c13
    by_cases e : l = 0
    · have q11 : (l == 0) = true := beq_iff_eq.2 e
      have q12 : decide (0 < z) = false := decide_eq_false (by omega)
      have HF : Hid (decide (Rc.Ok ⟨p, v, z, f, l, s, m, g⟩) = false) := Lib.hid (decide_eq_false fun hk => by
        obtain ⟨k1, ⟨k2, k3⟩, ⟨k4, k5⟩, ⟨k6, k7⟩, k8, k9, k10, k11, ⟨k12, k13⟩, k14⟩ := hk
        simp only at *
        omega)
      clear c1 c2 c3 c4 c11 e c13
      go_enter Tryd.func14, Tryd.ntmps14
      dsimp only [List.append]
      go_wp2_with fail
      refine HC.out.mono ?_
      rintro e w1 ⟨rfl, hb⟩
      have HU1 := Lib.hid (below_head hb HU0.out)
      have HB1 := Lib.hid (HB0.out.trans (hb.mono HB0.out.size))
      clear hb a0 a1 a2 a3 a4 a5 a6 a7
      obtain ⟨a0, a1, a2, a3, a4, a5, a6, a7⟩ := head8 HU1.out
      go_wp2
      all_goals go_ret
      all_goals rw [HF.out]
      all_goals exact ⟨rfl, HB1.out⟩
    · have q11 : (l == 0) = false := beq_eq_false_iff_ne.2 e
      have HF : Hid (decide (Rc.Ok ⟨p, v, z, f, l, s, m, g⟩) = false) := Lib.hid (decide_eq_false fun hk => by
        obtain ⟨k1, ⟨k2, k3⟩, ⟨k4, k5⟩, ⟨k6, k7⟩, k8, k9, k10, k11, ⟨k12, k13⟩, k14⟩ := hk
        simp only at *
        omega)
      clear c1 c2 c3 c4 c11 e c13
      go_enter Tryd.func14, Tryd.ntmps14
      dsimp only [List.append]
      go_wp2_with fail
      refine HC.out.mono ?_
      rintro e w1 ⟨rfl, hb⟩
      have HU1 := Lib.hid (below_head hb HU0.out)
      have HB1 := Lib.hid (HB0.out.trans (hb.mono HB0.out.size))
      clear hb a0 a1 a2 a3 a4 a5 a6 a7
      obtain ⟨a0, a1, a2, a3, a4, a5, a6, a7⟩ := head8 HU1.out
      go_wp2
      all_goals go_ret
      all_goals rw [HF.out]
      all_goals exact ⟨rfl, HB1.out⟩
  have q13 : decide (m < 0) = false := decide_eq_false c13
  by_cases c14 : 4294967295 < m
  · have q14 : decide (4294967295 < m) = true := decide_eq_true c14
    by_cases e : l = 0
    · have q11 : (l == 0) = true := beq_iff_eq.2 e
      have q12 : decide (0 < z) = false := decide_eq_false (by omega)
      have HF : Hid (decide (Rc.Ok ⟨p, v, z, f, l, s, m, g⟩) = false) := Lib.hid (decide_eq_false fun hk => by
        obtain ⟨k1, ⟨k2, k3⟩, ⟨k4, k5⟩, ⟨k6, k7⟩, k8, k9, k10, k11, ⟨k12, k13⟩, k14⟩ := hk
        simp only at *
        omega)
      clear c1 c2 c3 c4 c11 e c13 c14
      go_enter Tryd.func14, Tryd.ntmps14
      dsimp only [List.append]
      go_wp2_with fail
      refine HC.out.mono ?_
      rintro e w1 ⟨rfl, hb⟩
      have HU1 := Lib.hid (below_head hb HU0.out)
      have HB1 := Lib.hid (HB0.out.trans (hb.mono HB0.out.size))
      clear hb a0 a1 a2 a3 a4 a5 a6 a7
      obtain ⟨a0, a1, a2, a3, a4, a5, a6, a7⟩ := head8 HU1.out
      go_wp2
      all_goals go_ret
      all_goals rw [HF.out]
      all_goals exact ⟨rfl, HB1.out⟩
    · have q11 : (l == 0) = false := beq_eq_false_iff_ne.2 e
      have HF : Hid (decide (Rc.Ok ⟨p, v, z, f, l, s, m, g⟩) = false) := Lib.hid (decide_eq_false fun hk => by
        obtain ⟨k1, ⟨k2, k3⟩, ⟨k4, k5⟩, ⟨k6, k7⟩, k8, k9, k10, k11, ⟨k12, k13⟩, k14⟩ := hk
        simp only at *
        omega)
      clear c1 c2 c3 c4 c11 e c13 c14
      go_enter Tryd.func14, Tryd.ntmps14
      dsimp only [List.append]
      go_wp2_with fail
      refine HC.out.mono ?_
      rintro e w1 ⟨rfl, hb⟩
      have HU1 := Lib.hid (below_head hb HU0.out)
      have HB1 := Lib.hid (HB0.out.trans (hb.mono HB0.out.size))
      clear hb a0 a1 a2 a3 a4 a5 a6 a7
      obtain ⟨a0, a1, a2, a3, a4, a5, a6, a7⟩ := head8 HU1.out
      go_wp2
      all_goals go_ret
      all_goals rw [HF.out]
      all_goals exact ⟨rfl, HB1.out⟩
  have q14 : decide (4294967295 < m) = false := decide_eq_false c14
  by_cases e : l = 0
  · have q11 : (l == 0) = true := beq_iff_eq.2 e
    have q12 : decide (0 < z) = false := decide_eq_false (by omega)
    cases g with
    | false =>
      have HF : Hid (decide (Rc.Ok ⟨p, v, z, f, l, s, m, false⟩) = true) := Lib.hid (decide_eq_true (by
        refine ⟨HR.out.symm, ⟨by show 1 ≤ v; omega, by show v ≤ 1073741824; omega⟩, ⟨by show 1 ≤ s; omega, by show s ≤ 1073741824; omega⟩, ⟨by show 0 ≤ z; omega, by show z ≤ 4000; omega⟩, (by show 0 ≤ f; omega), (by show 0 ≤ l; omega), (by show f + l ≤ z; omega), (by show 0 < l ∨ z = 0; omega), ⟨by show 0 ≤ m; omega, by show m ≤ 4294967295; omega⟩, fun h => by cases h⟩))
      clear c1 c2 c3 c4 c11 c13 c14 e
      go_enter Tryd.func14, Tryd.ntmps14
      dsimp only [List.append]
      go_wp2_with fail
      refine HC.out.mono ?_
      rintro e w1 ⟨rfl, hb⟩
      have HU1 := Lib.hid (below_head hb HU0.out)
      have HB1 := Lib.hid (HB0.out.trans (hb.mono HB0.out.size))
      clear hb a0 a1 a2 a3 a4 a5 a6 a7
      obtain ⟨a0, a1, a2, a3, a4, a5, a6, a7⟩ := head8 HU1.out
      go_wp2
      all_goals go_ret
      all_goals rw [HF.out]
      all_goals exact ⟨rfl, HB1.out⟩
    | true =>
      have q15 : (z == 0) = true := beq_iff_eq.2 (by omega)
      have q16 : (f == 0) = true := beq_iff_eq.2 (by omega)
      by_cases em : m = 0
      · have q17 : (m == 0) = true := beq_iff_eq.2 em
        have HF : Hid (decide (Rc.Ok ⟨p, v, z, f, l, s, m, true⟩) = true) := Lib.hid (decide_eq_true (by
          refine ⟨HR.out.symm, ⟨by show 1 ≤ v; omega, by show v ≤ 1073741824; omega⟩, ⟨by show 1 ≤ s; omega, by show s ≤ 1073741824; omega⟩, ⟨by show 0 ≤ z; omega, by show z ≤ 4000; omega⟩, (by show 0 ≤ f; omega), (by show 0 ≤ l; omega), (by show f + l ≤ z; omega), (by show 0 < l ∨ z = 0; omega), ⟨by show 0 ≤ m; omega, by show m ≤ 4294967295; omega⟩, fun _ => ⟨by show z = 0; omega, by show f = 0; omega, by show l = 0; omega, by show m = 0; omega⟩⟩))
        clear c1 c2 c3 c4 c11 c13 c14 e em
        go_enter Tryd.func14, Tryd.ntmps14
        dsimp only [List.append]
        go_wp2_with fail
        refine HC.out.mono ?_
        rintro e w1 ⟨rfl, hb⟩
        have HU1 := Lib.hid (below_head hb HU0.out)
        have HB1 := Lib.hid (HB0.out.trans (hb.mono HB0.out.size))
        clear hb a0 a1 a2 a3 a4 a5 a6 a7
        obtain ⟨a0, a1, a2, a3, a4, a5, a6, a7⟩ := head8 HU1.out
        go_wp2
        all_goals go_ret
        all_goals rw [HF.out]
        all_goals exact ⟨rfl, HB1.out⟩
      · have q17 : (m == 0) = false := beq_eq_false_iff_ne.2 em
        have HF : Hid (decide (Rc.Ok ⟨p, v, z, f, l, s, m, true⟩) = false) := Lib.hid (decide_eq_false fun hk => by
          obtain ⟨k1, ⟨k2, k3⟩, ⟨k4, k5⟩, ⟨k6, k7⟩, k8, k9, k10, k11, ⟨k12, k13⟩, k14⟩ := hk
          obtain ⟨k15, k16, k17, k18⟩ := k14 rfl
          simp only at *
          omega)
        clear c1 c2 c3 c4 c11 c13 c14 e em
        go_enter Tryd.func14, Tryd.ntmps14
        dsimp only [List.append]
        go_wp2_with fail
        refine HC.out.mono ?_
        rintro e w1 ⟨rfl, hb⟩
        have HU1 := Lib.hid (below_head hb HU0.out)
        have HB1 := Lib.hid (HB0.out.trans (hb.mono HB0.out.size))
        clear hb a0 a1 a2 a3 a4 a5 a6 a7
        obtain ⟨a0, a1, a2, a3, a4, a5, a6, a7⟩ := head8 HU1.out
        go_wp2
        all_goals go_ret
        all_goals rw [HF.out]
        all_goals exact ⟨rfl, HB1.out⟩
  · have q11 : (l == 0) = false := beq_eq_false_iff_ne.2 e
    cases g with
    | false =>
      have HF : Hid (decide (Rc.Ok ⟨p, v, z, f, l, s, m, false⟩) = true) := Lib.hid (decide_eq_true (by
        refine ⟨HR.out.symm, ⟨by show 1 ≤ v; omega, by show v ≤ 1073741824; omega⟩, ⟨by show 1 ≤ s; omega, by show s ≤ 1073741824; omega⟩, ⟨by show 0 ≤ z; omega, by show z ≤ 4000; omega⟩, (by show 0 ≤ f; omega), (by show 0 ≤ l; omega), (by show f + l ≤ z; omega), (by show 0 < l ∨ z = 0; omega), ⟨by show 0 ≤ m; omega, by show m ≤ 4294967295; omega⟩, fun h => by cases h⟩))
      clear c1 c2 c3 c4 c11 c13 c14 e
      go_enter Tryd.func14, Tryd.ntmps14
      dsimp only [List.append]
      go_wp2_with fail
      refine HC.out.mono ?_
      rintro e w1 ⟨rfl, hb⟩
      have HU1 := Lib.hid (below_head hb HU0.out)
      have HB1 := Lib.hid (HB0.out.trans (hb.mono HB0.out.size))
      clear hb a0 a1 a2 a3 a4 a5 a6 a7
      obtain ⟨a0, a1, a2, a3, a4, a5, a6, a7⟩ := head8 HU1.out
      go_wp2
      all_goals go_ret
      all_goals rw [HF.out]
      all_goals exact ⟨rfl, HB1.out⟩
    | true =>
      have q15 : (z == 0) = false := beq_eq_false_iff_ne.2 (by omega)
      have HF : Hid (decide (Rc.Ok ⟨p, v, z, f, l, s, m, true⟩) = false) := Lib.hid (decide_eq_false fun hk => by
        obtain ⟨k1, ⟨k2, k3⟩, ⟨k4, k5⟩, ⟨k6, k7⟩, k8, k9, k10, k11, ⟨k12, k13⟩, k14⟩ := hk
        obtain ⟨k15, k16, k17, k18⟩ := k14 rfl
        simp only at *
        omega)
      clear c1 c2 c3 c4 c11 c13 c14 e
      go_enter Tryd.func14, Tryd.ntmps14
      dsimp only [List.append]
      go_wp2_with fail
      refine HC.out.mono ?_
      rintro e w1 ⟨rfl, hb⟩
      have HU1 := Lib.hid (below_head hb HU0.out)
      have HB1 := Lib.hid (HB0.out.trans (hb.mono HB0.out.size))
      clear hb a0 a1 a2 a3 a4 a5 a6 a7
      obtain ⟨a0, a1, a2, a3, a4, a5, a6, a7⟩ := head8 HU1.out
      go_wp2
      all_goals go_ret
      all_goals rw [HF.out]
      all_goals exact ⟨rfl, HB1.out⟩
end Go.Proofs.YtbijjgicjkmopaaDoor
namespace Go.Proofs.YtbijjgicjkmopaaDoor
open Go.RowKit
open Pt (Tx)

theorem refRightHead_any (p : Tx) (v z f l s m : Int) (g : Bool) (w : World) (hl : p.length ≤ maxLen) :
    Calls Tryd.prog 14 #[.agg #[.string (tx p), .int .i64 v, .int .i64 z, .int .i64 f, .int .i64 l, .int .i64 s, .int .i64 m, .bool g]] w (AnsB (decide (Rc.Ok ⟨p, v, z, f, l, s, m, g⟩)) w) := by
  by_cases h : Pt.right p = false ∨ v < 1 ∨ 1073741824 < v ∨ s < 1 ∨ 1073741824 < s ∨ z < 0
  · exact refRight_A p v z f l s m g w hl h
  · have hp : Pt.right p = true := by cases e : Pt.right p with
      | true => rfl
      | false => exact absurd (.inl e) h
    by_cases h2 : 4000 < z ∨ f < 0 ∨ l < 0 ∨ z < f ∨ z - f < l ∨ l = 0 ∧ 0 < z
    · exact refRight_B p v z f l s m g w hl hp (by omega) (by omega) (by omega) (by omega) (by omega) h2
    · exact refRight_C p v z f l s m g w hl hp (by omega) (by omega) (by omega) (by omega) (by omega) (by omega) (by omega) (by omega) (by omega) (by omega) (by omega)
end Go.Proofs.YtbijjgicjkmopaaDoor
namespace Go.Proofs.YtbijjgicjkmopaaDoor
open Go.RowKit
open Pt (Tx)


set_option maxRecDepth 100000 in
theorem vtext_any (g base : Nat) (v : Value) (l s : Tx) (w : World) (h : Rw w g base v l) (hbase : base ≤ w.heap.size) (hl : l.length ≤ 999999000) (hs : s.length ≤ maxLen) :
    Calls Tryd.prog 27 #[.pointer (some ⟨g, 0, none⟩), .string (tx s)] w (RefWrote g base (l ++ Cd.tb s) w) := by
  unfold maxLen at hs
  have hlt := h.lt
  obtain ⟨A, C, hv, -, -, -, -⟩ := h.2.rd
  have c0 : w.cell? ⟨g, 0, none⟩ = some v := heap_cell h.1
  have f0 : w.frozen? ⟨g, 0, none⟩ = false := heap_frozen h.1
  have H := Lib.hid h
  clear h
  subst hv
  have es := tx_size s
  have et := tx_toList s
  by_cases hle : s.length ≤ 255
  · have q1 : decide (255 < s.length) = false := decide_eq_false (by omega)
    have q2 : decide (255 < (s.length : Int)) = false := decide_eq_false (by omega)
    have HT : Hid (Cd.tb s = [Cd.b8 (s.length : Int)] ++ s) := Lib.hid (by unfold Cd.tb; rw [List.take_of_length_le hle]; rfl)
    go_enter Tryd.func27, Tryd.ntmps27
    go_wp2_with (first
      | (at_builtin; refine wpList_append_bl _ rfl _ _ rfl base _ l rfl (H.out.2.alloc _) (some ⟨w.heap.size, 0, none⟩) 1 1 [Cd.b8 (s.length : Int)] (· = w.heap.size) rfl rfl (fun h => by cases h) (lit_rd w [Cd.b8 (s.length : Int)] (by simp [cellsL, Cd.b8_nat]; omega)) (by omega) (by simp; omega) ?_; intro v' w' hv hg; obtain ⟨hA, hB, hC⟩ := H.out.stored ((Turned.refl g base w).alloc _) (Below.heap_alloc _ _ _ hlt) (H.out.2.alloc _) hg hv; obtain ⟨A', C', rfl, -, -, -, -⟩ := hv.rd; have d0 : w'.cell? ⟨g, 0, none⟩ = some (.slice A l.length C) := heap_cell (hA.trans H.out.1); have d1 : w'.frozen? ⟨g, 0, none⟩ = false := heap_frozen (hA.trans H.out.1); simp only [List.length_append, List.length_cons, List.length_nil, Nat.zero_add] at hB hC; have hsz : base ≤ w'.heap.size := Nat.le_trans hbase (by have := hC.size; simpa [World.setCell] using this); have HB := Lib.hid hB; have HC := Lib.hid hC; clear hA hB hC hv hg)
      | (at_builtin; refine wpList_append_st _ rfl _ _ rfl base _ (l ++ [Cd.b8 (s.length : Int)]) rfl HB.out.2 s rfl (by simp; omega) (by simpa [World.setCell] using hsz) ?_; intro v2 w2 hv hg; obtain ⟨hA, hB, hC⟩ := HB.out.stored (Turned.refl g base _) rfl HB.out.2 hg hv; obtain ⟨A2, C2, rfl, -, -, -, -⟩ := hv.rd; have d2 : w2.cell? ⟨g, 0, none⟩ = some (.slice A' (l.length + 1) C') := heap_cell (hA.trans HB.out.1); have d3 : w2.frozen? ⟨g, 0, none⟩ = false := heap_frozen (hA.trans HB.out.1); have HB2 := Lib.hid hB; have HC2 := Lib.hid (HC.out.trans hC); clear hA hB hC hv hg))
    go_end0
    have e3 : (l ++ [Cd.b8 (s.length : Int)]) ++ s = l ++ ([Cd.b8 (s.length : Int)] ++ s) := List.append_assoc _ _ _
    have hb := HB2.out
    have hc := HC2.out
    simp only [List.length_append, List.length_cons, List.length_nil, Nat.zero_add] at hb hc
    rw [HT.out, ← e3, show l.length + (s.length + 1) = l.length + 1 + s.length by omega]
    exact ⟨rfl, ⟨_, hb⟩, hc⟩
  · have q1 : decide (255 < s.length) = true := decide_eq_true (by omega)
    have q2 : decide (255 < (s.length : Int)) = true := decide_eq_true (by omega)
    have e0 : (tx s).extract 0 255 = tx (s.take 255) := by rw [tx_extract]; simp
    have hn : (s.take 255).length = 255 := by simp; omega
    have HT : Hid (Cd.tb s = [Cd.b8 255] ++ s.take 255) := Lib.hid (by unfold Cd.tb; rw [hn]; rfl)
    have e2 : (tx (s.take 255)).size = 255 := by rw [tx_size, hn]
    have e4 := tx_toList (s.take 255)
    have HN : Hid ((s.take 255).length = 255) := Lib.hid hn
    clear hn
    go_enter Tryd.func27, Tryd.ntmps27
    go_wp2_with (first
      | (at_builtin; refine wpList_append_bl _ rfl _ _ rfl base _ l rfl (H.out.2.alloc _) (some ⟨w.heap.size, 0, none⟩) 1 1 [Cd.b8 255] (· = w.heap.size) rfl rfl (fun h => by cases h) (lit_rd w [Cd.b8 255] (by simp [cellsL, Cd.b8_nat])) (by omega) (by simp; omega) ?_; intro v' w' hv hg; obtain ⟨hA, hB, hC⟩ := H.out.stored ((Turned.refl g base w).alloc _) (Below.heap_alloc _ _ _ hlt) (H.out.2.alloc _) hg hv; obtain ⟨A', C', rfl, -, -, -, -⟩ := hv.rd; have d0 : w'.cell? ⟨g, 0, none⟩ = some (.slice A l.length C) := heap_cell (hA.trans H.out.1); have d1 : w'.frozen? ⟨g, 0, none⟩ = false := heap_frozen (hA.trans H.out.1); simp only [List.length_append, List.length_cons, List.length_nil, Nat.zero_add] at hB hC; have hsz : base ≤ w'.heap.size := Nat.le_trans hbase (by have := hC.size; simpa [World.setCell] using this); have HB := Lib.hid hB; have HC := Lib.hid hC; clear hA hB hC hv hg)
      | (at_builtin; refine wpList_append_st _ rfl _ _ rfl base _ (l ++ [Cd.b8 255]) rfl HB.out.2 (s.take 255) rfl (by simp; omega) (by simpa [World.setCell] using hsz) ?_; intro v2 w2 hv hg; obtain ⟨hA, hB, hC⟩ := HB.out.stored (Turned.refl g base _) rfl HB.out.2 hg hv; obtain ⟨A2, C2, rfl, -, -, -, -⟩ := hv.rd; have d2 : w2.cell? ⟨g, 0, none⟩ = some (.slice A' (l.length + 1) C') := heap_cell (hA.trans HB.out.1); have d3 : w2.frozen? ⟨g, 0, none⟩ = false := heap_frozen (hA.trans HB.out.1); have HB2 := Lib.hid hB; have HC2 := Lib.hid (HC.out.trans hC); clear hA hB hC hv hg))
    go_end0
    have e3 : (l ++ [Cd.b8 255]) ++ (s.take 255) = l ++ ([Cd.b8 255] ++ (s.take 255)) := List.append_assoc _ _ _
    have hb := HB2.out
    have hc := HC2.out
    simp only [List.length_append, List.length_cons, List.length_nil, Nat.zero_add] at hb hc
    rw [HT.out, ← e3, show l.length + (min 255 s.length + 1) = l.length + 1 + (s.take 255).length by simp; omega]
    exact ⟨rfl, ⟨_, hb⟩, hc⟩
end Go.Proofs.YtbijjgicjkmopaaDoor
namespace Go.Proofs.YtbijjgicjkmopaaDoor
open Go.RowKit
open Pt (Tx)

theorem Turned.head {g base B : Nat} {a b : World} {p : Tx} {v z f l s m : Int} {gn : Bool} (h : Turned g base a b) (hB : B ≠ g) (hu : a.heap[B]? = some (headObj p v z f l s m gn)) : b.heap[B]? = some (headObj p v z f l s m gn) :=
  h.other hB (by decide) hu
set_option maxHeartbeats 1000000 in
theorem refHeadBytes_no (p : Tx) (v z f l s m : Int) (g : Bool) (w : World) (hl : p.length ≤ maxLen) (hok : ¬ Rc.Ok ⟨p, v, z, f, l, s, m, g⟩) :
    Calls Tryd.prog 15 #[.agg #[.string (tx p), .int .i64 v, .int .i64 z, .int .i64 f, .int .i64 l, .int .i64 s, .int .i64 m, .bool g]] w (AnsO (Rc.put ⟨p, v, z, f, l, s, m, g⟩) w) := by
  have HB0 : Hid (Below w.heap.size w (w.alloc (headObj p v z f l s m g))) := Lib.hid ((Below.refl _ _).alloc (Nat.le_refl _) _)
  have HU0 : Hid ((w.alloc (headObj p v z f l s m g)).heap[w.heap.size]? = some (headObj p v z f l s m g)) := Lib.hid (Go.Deep.blk_alloc_new _ _)
  have hcall := refRightHead_any p v z f l s m g (w.alloc (headObj p v z f l s m g)) hl
  rw [decide_eq_false hok] at hcall
  have HC := Lib.hid hcall
  have HP := Lib.hid (Rc.put_no hok)
  clear hl hok hcall
  obtain ⟨a0, a1, a2, a3, a4, a5, a6, a7⟩ := head8 HU0.out
  unfold headObj at a0 a1 a2 a3 a4 a5 a6 a7 HC
  go_enter Tryd.func15, Tryd.ntmps15
  go_wp2_with fail
  refine HC.out.mono ?_
  rintro e w1 ⟨rfl, hb⟩
  have HB1 := Lib.hid (HB0.out.trans (hb.mono HB0.out.size))
  clear hb a0 a1 a2 a3 a4 a5 a6 a7
  go_wp2
  go_ret
  rw [HP.out]
  exact AnsO.nil HB1.out
set_option maxHeartbeats 4000000 in
theorem refHeadBytes_yes (p : Tx) (v z f l s m : Int) (g : Bool) (w : World) (hl : p.length ≤ maxLen) (hok : Rc.Ok ⟨p, v, z, f, l, s, m, g⟩) :
    Calls Tryd.prog 15 #[.agg #[.string (tx p), .int .i64 v, .int .i64 z, .int .i64 f, .int .i64 l, .int .i64 s, .int .i64 m, .bool g]] w (AnsO (Rc.put ⟨p, v, z, f, l, s, m, g⟩) w) := by
  have HB0 : Hid (Below w.heap.size w (w.alloc (headObj p v z f l s m g))) := Lib.hid ((Below.refl _ _).alloc (Nat.le_refl _) _)
  have HU0 : Hid ((w.alloc (headObj p v z f l s m g)).heap[w.heap.size]? = some (headObj p v z f l s m g)) := Lib.hid (Go.Deep.blk_alloc_new _ _)
  have hcall := refRightHead_any p v z f l s m g (w.alloc (headObj p v z f l s m g)) hl
  rw [decide_eq_true hok] at hcall
  have HC := Lib.hid hcall
  have HP := Lib.hid (Rc.put_ok hok)
  have HS := Lib.hid hok.short
  have HL := Lib.hid hl
  clear hl hok hcall
  obtain ⟨a0, a1, a2, a3, a4, a5, a6, a7⟩ := head8 HU0.out
  unfold headObj at a0 a1 a2 a3 a4 a5 a6 a7 HC
  go_enter Tryd.func15, Tryd.ntmps15
  go_wp2_with fail
  refine HC.out.mono ?_
  rintro e w1 ⟨rfl, hb⟩
  obtain ⟨gr, hgr⟩ : ∃ gr, gr = w1.heap.size := ⟨_, rfl⟩
  obtain ⟨wb, hwb⟩ : ∃ wb, wb = w1.alloc (.cells #[.slice none 0 0] 52) := ⟨_, rfl⟩
  have hU1 := below_head hb HU0.out
  have hB1 := HB0.out.trans (hb.mono HB0.out.size)
  have HW2 : Hid (RefAt w gr (headObj p v z f l s m g) [] wb) := Lib.hid (by
    rw [hwb, hgr]
    exact ⟨⟨_, Go.Deep.blk_alloc_new _ _, OwnL.nil _ _⟩, (Below.heap_alloc _ _ _ (heap_lt hU1)).trans hU1, hB1.alloc hB1.size _, heap_lt hU1⟩)
  have HWB := Lib.hid hwb
  have HGR := Lib.hid hgr
  clear hb a0 a1 a2 a3 a4 a5 a6 a7 hU1 hB1 hwb hgr
  obtain ⟨a0, a1, a2, a3, a4, a5, a6, a7⟩ := head8 HW2.out.hd
  rw [HWB.out] at a0 a1 a2 a3 a4 a5 a6 a7
  go_wp2_with fail
  rw [← HWB.out, ← HGR.out]
  obtain ⟨v2, hv2⟩ := HW2.out.rw_
  refine (vtext_any gr gr v2 [] p wb hv2 HW2.out.base (by simp) HL.out).mono ?_
  intro e w3 hW
  have HW3 : Hid (RefAt w gr (headObj p v z f l s m g) _ w3) := Lib.hid (HW2.out.wrote (by decide) hW)
  obtain ⟨rfl, -, -⟩ := hW
  clear hv2 a0 a1 a2 a3 a4 a5 a6 a7
  obtain ⟨a0, a1, a2, a3, a4, a5, a6, a7⟩ := head8 HW3.out.hd
  go_wp2_with fail
  obtain ⟨v3, hv3⟩ := HW3.out.rw_
  refine (vint_any gr gr v3 _ v w3 hv3 HW3.out.base (by simp [Cd.tb_len]; omega)).mono ?_
  intro e w4 hW
  have HW4 : Hid (RefAt w gr (headObj p v z f l s m g) _ w4) := Lib.hid (HW3.out.wrote (by decide) hW)
  obtain ⟨rfl, -, -⟩ := hW
  clear hv3 a0 a1 a2 a3 a4 a5 a6 a7
  obtain ⟨a0, a1, a2, a3, a4, a5, a6, a7⟩ := head8 HW4.out.hd
  go_wp2_with fail
  obtain ⟨v4, hv4⟩ := HW4.out.rw_
  refine (vint_any gr gr v4 _ z w4 hv4 HW4.out.base (by simp [Cd.be4_len, Cd.tb_len]; omega)).mono ?_
  intro e w5 hW
  have HW5 : Hid (RefAt w gr (headObj p v z f l s m g) _ w5) := Lib.hid (HW4.out.wrote (by decide) hW)
  obtain ⟨rfl, -, -⟩ := hW
  clear hv4 a0 a1 a2 a3 a4 a5 a6 a7
  obtain ⟨a0, a1, a2, a3, a4, a5, a6, a7⟩ := head8 HW5.out.hd
  go_wp2_with fail
  obtain ⟨v5, hv5⟩ := HW5.out.rw_
  refine (vint_any gr gr v5 _ f w5 hv5 HW5.out.base (by simp [Cd.be4_len, Cd.tb_len]; omega)).mono ?_
  intro e w6 hW
  have HW6 : Hid (RefAt w gr (headObj p v z f l s m g) _ w6) := Lib.hid (HW5.out.wrote (by decide) hW)
  obtain ⟨rfl, -, -⟩ := hW
  clear hv5 a0 a1 a2 a3 a4 a5 a6 a7
  obtain ⟨a0, a1, a2, a3, a4, a5, a6, a7⟩ := head8 HW6.out.hd
  go_wp2_with fail
  obtain ⟨v6, hv6⟩ := HW6.out.rw_
  refine (vint_any gr gr v6 _ l w6 hv6 HW6.out.base (by simp [Cd.be4_len, Cd.tb_len]; omega)).mono ?_
  intro e w7 hW
  have HW7 : Hid (RefAt w gr (headObj p v z f l s m g) _ w7) := Lib.hid (HW6.out.wrote (by decide) hW)
  obtain ⟨rfl, -, -⟩ := hW
  clear hv6 a0 a1 a2 a3 a4 a5 a6 a7
  obtain ⟨a0, a1, a2, a3, a4, a5, a6, a7⟩ := head8 HW7.out.hd
  go_wp2_with fail
  obtain ⟨v7, hv7⟩ := HW7.out.rw_
  refine (vint_any gr gr v7 _ s w7 hv7 HW7.out.base (by simp [Cd.be4_len, Cd.tb_len]; omega)).mono ?_
  intro e w8 hW
  have HW8 : Hid (RefAt w gr (headObj p v z f l s m g) _ w8) := Lib.hid (HW7.out.wrote (by decide) hW)
  obtain ⟨rfl, -, -⟩ := hW
  clear hv7 a0 a1 a2 a3 a4 a5 a6 a7
  obtain ⟨a0, a1, a2, a3, a4, a5, a6, a7⟩ := head8 HW8.out.hd
  go_wp2_with fail
  obtain ⟨v8, hv8⟩ := HW8.out.rw_
  refine (vint_any gr gr v8 _ m w8 hv8 HW8.out.base (by simp [Cd.be4_len, Cd.tb_len]; omega)).mono ?_
  intro e w9 hW
  have HW9 : Hid (RefAt w gr (headObj p v z f l s m g) _ w9) := Lib.hid (HW8.out.wrote (by decide) hW)
  obtain ⟨rfl, -, -⟩ := hW
  clear hv8 a0 a1 a2 a3 a4 a5 a6 a7
  obtain ⟨a0, a1, a2, a3, a4, a5, a6, a7⟩ := head8 HW9.out.hd
  obtain ⟨v9, hv9⟩ := HW9.out.rw_
  have hcall := vbyte_any gr gr v9 _ (Rc.goneB g) w9 hv9 HW9.out.base (by simp [Cd.be4_len, Cd.tb_len]; omega)
  have HT : Hid ((((((((([] ++ Cd.tb p) ++ Cd.be4 v) ++ Cd.be4 z) ++ Cd.be4 f) ++ Cd.be4 l) ++ Cd.be4 s) ++ Cd.be4 m) ++ [Rc.goneB g]) = Rc.blk ⟨p, v, z, f, l, s, m, g⟩) := Lib.hid (by unfold Rc.blk; simp only [List.nil_append, List.append_assoc])
  rw [HT.out] at hcall
  have HC8 := Lib.hid hcall
  clear hcall hv9 HT
  have H8 : Hid (∀ e y, RefWrote gr gr (Rc.blk ⟨p, v, z, f, l, s, m, g⟩) w9 e y → e = .returned (.tuple #[]) ∧ ∃ A n C, y.cell? ⟨gr, 0, none⟩ = some (.slice A n C) ∧ AnsO (Rc.blk ⟨p, v, z, f, l, s, m, g⟩) w (.returned (.slice A n C)) y) := Lib.hid (fun e y hW => by
    obtain ⟨A, C, h1, h2⟩ := (HW9.out.wrote (by decide) hW).doneO rfl
    exact ⟨hW.1, A, _, C, h1, h2⟩)
  clear HW9
  cases g with
  | true =>
    have hcall : Calls Tryd.prog 11 #[.pointer (some ⟨gr, 0, none⟩), .int .u8 1] w9 _ := HC8.out
    have HD := Lib.hid hcall
    clear hcall
    go_wp2_with fail
    refine HD.out.mono ?_
    intro e y hW
    obtain ⟨rfl, A, n, C, c0, hans⟩ := H8.out e y hW
    have HA := Lib.hid hans
    clear hans hW a0 a1 a2 a3 a4 a5 a6 a7
    go_wp2
    go_ret
    rw [HP.out]
    exact HA.out
  | false =>
    have hcall : Calls Tryd.prog 11 #[.pointer (some ⟨gr, 0, none⟩), .int .u8 0] w9 _ := HC8.out
    have HD := Lib.hid hcall
    clear hcall
    go_wp2_with fail
    refine HD.out.mono ?_
    intro e y hW
    obtain ⟨rfl, A, n, C, c0, hans⟩ := H8.out e y hW
    have HA := Lib.hid hans
    clear hans hW a0 a1 a2 a3 a4 a5 a6 a7
    go_wp2
    go_ret
    rw [HP.out]
    exact HA.out
theorem refHeadBytes_own (p : Tx) (v z f l s m : Int) (g : Bool) (w : World) (hl : p.length ≤ maxLen) :
    Calls Tryd.prog 15 #[.agg #[.string (tx p), .int .i64 v, .int .i64 z, .int .i64 f, .int .i64 l, .int .i64 s, .int .i64 m, .bool g]] w (AnsO (Rc.put ⟨p, v, z, f, l, s, m, g⟩) w) := by
  by_cases hok : Rc.Ok ⟨p, v, z, f, l, s, m, g⟩
  · exact refHeadBytes_yes p v z f l s m g w hl hok
  · exact refHeadBytes_no p v z f l s m g w hl hok
theorem refHeadBytes_any (p : Tx) (v z f l s m : Int) (g : Bool) (w : World) (hl : p.length ≤ maxLen) :
    Calls Tryd.prog 15 #[.agg #[.string (tx p), .int .i64 v, .int .i64 z, .int .i64 f, .int .i64 l, .int .i64 s, .int .i64 m, .bool g]] w (AnsT (Rc.put ⟨p, v, z, f, l, s, m, g⟩) w) :=
  (refHeadBytes_own p v z f l s m g w hl).mono fun _ _ h => h.toT
end Go.Proofs.YtbijjgicjkmopaaDoor
