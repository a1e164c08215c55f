/- What the document's own RightSeal answers, of numbers that may not be. -/
import Derived.Test.YtdllkbjbklhigaaDoorScWords
namespace Go.Proofs.YtdllkbjbklhigaaDoor
open Go.RowKit
open Pt (Tx)

set_option maxHeartbeats 2000000 in
theorem refSeal_no6 (n x d p : Int) (A : Option Addr) (l : List Int) (m C : Nat) (w : World) (hm : m = l.length) (hCm : m ≤ maxLen) (c1 : ¬ n < 1) (c2 : ¬ 1073741824 < n) (c3 : ¬ d < 1) (c4 : ¬ p < 1) (c5 : ¬ 14 < d) (h : 14 < p) :
    Calls Tryd.prog 15 #[.agg #[.int .i64 n, .int .i64 x, .int .i64 d, .int .i64 p, .slice A m C]] w (AnsB (decide (Rc.SOk ⟨n, x, d, p, l⟩)) w) := by
  have HB0 : Hid (Below w.heap.size w (w.alloc (sealObj n x d p A m C))) := Lib.hid ((Below.refl _ _).alloc (Nat.le_refl _) _)
  have HU0 : Hid ((w.alloc (sealObj n x d p A m C)).heap[w.heap.size]? = some (sealObj n x d p A m C)) := Lib.hid (Go.Deep.blk_alloc_new _ _)
  have hmb : m ≤ 9223372036854775807 := by unfold maxLen at hCm; omega
  have HM := Lib.hid hm
  have HF : Hid (decide (Rc.SOk ⟨n, x, d, p, l⟩) = false) := Lib.hid (decide_eq_false fun hk => by
    obtain ⟨⟨⟨k1, k2⟩, k3, k4, k5, k6, k7, k8⟩, -⟩ := hk
    simp only at k1 k2 k3 k4 k5 k6 k7 k8
    omega)
  have q1 : decide (n < 1) = false := decide_eq_false c1
  have q2 : decide (1073741824 < n) = false := decide_eq_false c2
  have q3 : decide (d < 1) = false := decide_eq_false c3
  have q4 : decide (p < 1) = false := decide_eq_false c4
  have q5 : decide (14 < d) = false := decide_eq_false c5
  have q6 : decide (14 < p) = true := decide_eq_true h
  clear c1 c2 c3 c4 c5 h hm hCm
  obtain ⟨a0, a1, a2, a3, a4⟩ := seal5 HU0.out
  unfold sealObj at a0 a1 a2 a3 a4
  go_enter Tryd.func15, Tryd.ntmps15
  go_wp2
  all_goals go_ret
  all_goals rw [HF.out]
  all_goals exact ⟨rfl, HB0.out⟩
set_option maxHeartbeats 2000000 in
theorem refSeal_no7 (n x d p : Int) (A : Option Addr) (l : List Int) (m C : Nat) (w : World) (hm : m = l.length) (hCm : m ≤ maxLen) (c1 : ¬ n < 1) (c2 : ¬ 1073741824 < n) (c3 : ¬ d < 1) (c4 : ¬ p < 1) (c5 : ¬ 14 < d) (c6 : ¬ 14 < p) (h : 14 < d + p) :
    Calls Tryd.prog 15 #[.agg #[.int .i64 n, .int .i64 x, .int .i64 d, .int .i64 p, .slice A m C]] w (AnsB (decide (Rc.SOk ⟨n, x, d, p, l⟩)) w) := by
  have HB0 : Hid (Below w.heap.size w (w.alloc (sealObj n x d p A m C))) := Lib.hid ((Below.refl _ _).alloc (Nat.le_refl _) _)
  have HU0 : Hid ((w.alloc (sealObj n x d p A m C)).heap[w.heap.size]? = some (sealObj n x d p A m C)) := Lib.hid (Go.Deep.blk_alloc_new _ _)
  have hmb : m ≤ 9223372036854775807 := by unfold maxLen at hCm; omega
  have HM := Lib.hid hm
  have HF : Hid (decide (Rc.SOk ⟨n, x, d, p, l⟩) = false) := Lib.hid (decide_eq_false fun hk => by
    obtain ⟨⟨⟨k1, k2⟩, k3, k4, k5, k6, k7, k8⟩, -⟩ := hk
    simp only at k1 k2 k3 k4 k5 k6 k7 k8
    omega)
  have q1 : decide (n < 1) = false := decide_eq_false c1
  have q2 : decide (1073741824 < n) = false := decide_eq_false c2
  have q3 : decide (d < 1) = false := decide_eq_false c3
  have q4 : decide (p < 1) = false := decide_eq_false c4
  have q5 : decide (14 < d) = false := decide_eq_false c5
  have q6 : decide (14 < p) = false := decide_eq_false c6
  have q7 : decide (14 < d + p) = true := decide_eq_true h
  have hd0 : 1 ≤ d := by omega
  have hd1 : d ≤ 14 := by omega
  have hp0 : 1 ≤ p := by omega
  have hp1 : p ≤ 14 := by omega
  clear c1 c2 c3 c4 c5 c6 h hm hCm
  obtain ⟨a0, a1, a2, a3, a4⟩ := seal5 HU0.out
  unfold sealObj at a0 a1 a2 a3 a4
  go_enter Tryd.func15, Tryd.ntmps15
  go_wp2
  all_goals go_ret
  all_goals rw [HF.out]
  all_goals exact ⟨rfl, HB0.out⟩
set_option maxHeartbeats 2000000 in
theorem refSeal_no8 (n x d p : Int) (A : Option Addr) (l : List Int) (m C : Nat) (w : World) (hm : m = l.length) (hCm : m ≤ maxLen) (c1 : ¬ n < 1) (c2 : ¬ 1073741824 < n) (c3 : ¬ d < 1) (c4 : ¬ p < 1) (c5 : ¬ 14 < d) (c6 : ¬ 14 < p) (c7 : ¬ 14 < d + p) (h : ¬ (m : Int) = d + p) :
    Calls Tryd.prog 15 #[.agg #[.int .i64 n, .int .i64 x, .int .i64 d, .int .i64 p, .slice A m C]] w (AnsB (decide (Rc.SOk ⟨n, x, d, p, l⟩)) w) := by
  have HB0 : Hid (Below w.heap.size w (w.alloc (sealObj n x d p A m C))) := Lib.hid ((Below.refl _ _).alloc (Nat.le_refl _) _)
  have HU0 : Hid ((w.alloc (sealObj n x d p A m C)).heap[w.heap.size]? = some (sealObj n x d p A m C)) := Lib.hid (Go.Deep.blk_alloc_new _ _)
  have hmb : m ≤ 9223372036854775807 := by unfold maxLen at hCm; omega
  have HM := Lib.hid hm
  have HF : Hid (decide (Rc.SOk ⟨n, x, d, p, l⟩) = false) := Lib.hid (decide_eq_false fun hk => by
    obtain ⟨⟨⟨k1, k2⟩, k3, k4, k5, k6, k7, k8⟩, -⟩ := hk
    simp only at k1 k2 k3 k4 k5 k6 k7 k8
    omega)
  have q1 : decide (n < 1) = false := decide_eq_false c1
  have q2 : decide (1073741824 < n) = false := decide_eq_false c2
  have q3 : decide (d < 1) = false := decide_eq_false c3
  have q4 : decide (p < 1) = false := decide_eq_false c4
  have q5 : decide (14 < d) = false := decide_eq_false c5
  have q6 : decide (14 < p) = false := decide_eq_false c6
  have q7 : decide (14 < d + p) = false := decide_eq_false c7
  have q8 : (((m : Int)) == d + p) = false := beq_eq_false_iff_ne.2 h
  have q8b : ((m : Int) != d + p) = true := bne_iff_ne.2 h
  have hd0 : 1 ≤ d := by omega
  have hd1 : d ≤ 14 := by omega
  have hp0 : 1 ≤ p := by omega
  have hp1 : p ≤ 14 := by omega
  clear c1 c2 c3 c4 c5 c6 c7 h hm hCm
  obtain ⟨a0, a1, a2, a3, a4⟩ := seal5 HU0.out
  unfold sealObj at a0 a1 a2 a3 a4
  go_enter Tryd.func15, Tryd.ntmps15
  go_wp2
  all_goals go_ret
  all_goals rw [HF.out]
  all_goals exact ⟨rfl, HB0.out⟩
set_option maxHeartbeats 2000000 in
theorem refSeal_no9 (n x d p : Int) (A : Option Addr) (l : List Int) (m C : Nat) (w : World) (hm : m = l.length) (hCm : m ≤ maxLen) (c1 : ¬ n < 1) (c2 : ¬ 1073741824 < n) (c3 : ¬ d < 1) (c4 : ¬ p < 1) (c5 : ¬ 14 < d) (c6 : ¬ 14 < p) (c7 : ¬ 14 < d + p) (c8 : (m : Int) = d + p) (h : x < 0) :
    Calls Tryd.prog 15 #[.agg #[.int .i64 n, .int .i64 x, .int .i64 d, .int .i64 p, .slice A m C]] w (AnsB (decide (Rc.SOk ⟨n, x, d, p, l⟩)) w) := by
  have HB0 : Hid (Below w.heap.size w (w.alloc (sealObj n x d p A m C))) := Lib.hid ((Below.refl _ _).alloc (Nat.le_refl _) _)
  have HU0 : Hid ((w.alloc (sealObj n x d p A m C)).heap[w.heap.size]? = some (sealObj n x d p A m C)) := Lib.hid (Go.Deep.blk_alloc_new _ _)
  have hmb : m ≤ 9223372036854775807 := by unfold maxLen at hCm; omega
  have HM := Lib.hid hm
  have HF : Hid (decide (Rc.SOk ⟨n, x, d, p, l⟩) = false) := Lib.hid (decide_eq_false fun hk => by
    obtain ⟨⟨⟨k1, k2⟩, k3, k4, k5, k6, k7, k8⟩, -⟩ := hk
    simp only at k1 k2 k3 k4 k5 k6 k7 k8
    omega)
  have q1 : decide (n < 1) = false := decide_eq_false c1
  have q2 : decide (1073741824 < n) = false := decide_eq_false c2
  have q3 : decide (d < 1) = false := decide_eq_false c3
  have q4 : decide (p < 1) = false := decide_eq_false c4
  have q5 : decide (14 < d) = false := decide_eq_false c5
  have q6 : decide (14 < p) = false := decide_eq_false c6
  have q7 : decide (14 < d + p) = false := decide_eq_false c7
  have q8 : ((m : Int) == d + p) = true := beq_iff_eq.2 c8
  have q8b : ((m : Int) != d + p) = false := by rw [bne, q8]; rfl
  have q9 : decide (x < 0) = true := decide_eq_true h
  have hd0 : 1 ≤ d := by omega
  have hd1 : d ≤ 14 := by omega
  have hp0 : 1 ≤ p := by omega
  have hp1 : p ≤ 14 := by omega
  clear c1 c2 c3 c4 c5 c6 c7 c8 h hm hCm
  obtain ⟨a0, a1, a2, a3, a4⟩ := seal5 HU0.out
  unfold sealObj at a0 a1 a2 a3 a4
  go_enter Tryd.func15, Tryd.ntmps15
  go_wp2
  all_goals go_ret
  all_goals rw [HF.out]
  all_goals exact ⟨rfl, HB0.out⟩
set_option maxHeartbeats 2000000 in
theorem refSeal_no10 (n x d p : Int) (A : Option Addr) (l : List Int) (m C : Nat) (w : World) (hm : m = l.length) (hCm : m ≤ maxLen) (c1 : ¬ n < 1) (c2 : ¬ 1073741824 < n) (c3 : ¬ d < 1) (c4 : ¬ p < 1) (c5 : ¬ 14 < d) (c6 : ¬ 14 < p) (c7 : ¬ 14 < d + p) (c8 : (m : Int) = d + p) (c9 : ¬ x < 0) (h : (m : Int) ≤ x) :
    Calls Tryd.prog 15 #[.agg #[.int .i64 n, .int .i64 x, .int .i64 d, .int .i64 p, .slice A m C]] w (AnsB (decide (Rc.SOk ⟨n, x, d, p, l⟩)) w) := by
  have HB0 : Hid (Below w.heap.size w (w.alloc (sealObj n x d p A m C))) := Lib.hid ((Below.refl _ _).alloc (Nat.le_refl _) _)
  have HU0 : Hid ((w.alloc (sealObj n x d p A m C)).heap[w.heap.size]? = some (sealObj n x d p A m C)) := Lib.hid (Go.Deep.blk_alloc_new _ _)
  have hmb : m ≤ 9223372036854775807 := by unfold maxLen at hCm; omega
  have HM := Lib.hid hm
  have HF : Hid (decide (Rc.SOk ⟨n, x, d, p, l⟩) = false) := Lib.hid (decide_eq_false fun hk => by
    obtain ⟨⟨⟨k1, k2⟩, k3, k4, k5, k6, k7, k8⟩, -⟩ := hk
    simp only at k1 k2 k3 k4 k5 k6 k7 k8
    omega)
  have q1 : decide (n < 1) = false := decide_eq_false c1
  have q2 : decide (1073741824 < n) = false := decide_eq_false c2
  have q3 : decide (d < 1) = false := decide_eq_false c3
  have q4 : decide (p < 1) = false := decide_eq_false c4
  have q5 : decide (14 < d) = false := decide_eq_false c5
  have q6 : decide (14 < p) = false := decide_eq_false c6
  have q7 : decide (14 < d + p) = false := decide_eq_false c7
  have q8 : ((m : Int) == d + p) = true := beq_iff_eq.2 c8
  have q8b : ((m : Int) != d + p) = false := by rw [bne, q8]; rfl
  have q9 : decide (x < 0) = false := decide_eq_false c9
  have q10 : decide ((m : Int) ≤ x) = true := decide_eq_true h
  have hd0 : 1 ≤ d := by omega
  have hd1 : d ≤ 14 := by omega
  have hp0 : 1 ≤ p := by omega
  have hp1 : p ≤ 14 := by omega
  clear c1 c2 c3 c4 c5 c6 c7 c8 c9 h hm hCm
  obtain ⟨a0, a1, a2, a3, a4⟩ := seal5 HU0.out
  unfold sealObj at a0 a1 a2 a3 a4
  go_enter Tryd.func15, Tryd.ntmps15
  go_wp2
  all_goals go_ret
  all_goals rw [HF.out]
  all_goals exact ⟨rfl, HB0.out⟩
end Go.Proofs.YtdllkbjbklhigaaDoor
