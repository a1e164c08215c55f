/- What the document's own RightSeal answers, of numbers that may not be. -/
import Derived.Test.YtdllkbjbklhigaaDoorScWords
namespace Go.Proofs.YtdllkbjbklhigaaDoor
open Go.RowKit
open Pt (Tx)

set_option maxHeartbeats 2000000 in
theorem refSeal_no1 (n x d p : Int) (A : Option Addr) (l : List Int) (m C : Nat) (w : World) (hm : m = l.length) (hCm : m ≤ maxLen)  (h : n < 1) :
    Calls Tryd.prog 15 #[.agg #[.int .i64 n, .int .i64 x, .int .i64 d, .int .i64 p, .slice A m C]] w (AnsB (decide (Rc.SOk ⟨n, x, d, p, l⟩)) w) := by
  have HB0 : Hid (Below w.heap.size w (w.alloc (sealObj n x d p A m C))) := Lib.hid ((Below.refl _ _).alloc (Nat.le_refl _) _)
  have HU0 : Hid ((w.alloc (sealObj n x d p A m C)).heap[w.heap.size]? = some (sealObj n x d p A m C)) := Lib.hid (Go.Deep.blk_alloc_new _ _)
  have hmb : m ≤ 9223372036854775807 := by unfold maxLen at hCm; omega
  have HM := Lib.hid hm
  have HF : Hid (decide (Rc.SOk ⟨n, x, d, p, l⟩) = false) := Lib.hid (decide_eq_false fun hk => by
    obtain ⟨⟨⟨k1, k2⟩, k3, k4, k5, k6, k7, k8⟩, -⟩ := hk
    simp only at k1 k2 k3 k4 k5 k6 k7 k8
    omega)
  have q1 : decide (n < 1) = true := decide_eq_true h
  clear h hm hCm
  obtain ⟨a0, a1, a2, a3, a4⟩ := seal5 HU0.out
  unfold sealObj at a0 a1 a2 a3 a4
  go_enter Tryd.func15, Tryd.ntmps15
  go_wp2
  all_goals go_ret
  all_goals rw [HF.out]
  all_goals exact ⟨rfl, HB0.out⟩
set_option maxHeartbeats 2000000 in
theorem refSeal_no2 (n x d p : Int) (A : Option Addr) (l : List Int) (m C : Nat) (w : World) (hm : m = l.length) (hCm : m ≤ maxLen) (c1 : ¬ n < 1) (h : 1073741824 < n) :
    Calls Tryd.prog 15 #[.agg #[.int .i64 n, .int .i64 x, .int .i64 d, .int .i64 p, .slice A m C]] w (AnsB (decide (Rc.SOk ⟨n, x, d, p, l⟩)) w) := by
  have HB0 : Hid (Below w.heap.size w (w.alloc (sealObj n x d p A m C))) := Lib.hid ((Below.refl _ _).alloc (Nat.le_refl _) _)
  have HU0 : Hid ((w.alloc (sealObj n x d p A m C)).heap[w.heap.size]? = some (sealObj n x d p A m C)) := Lib.hid (Go.Deep.blk_alloc_new _ _)
  have hmb : m ≤ 9223372036854775807 := by unfold maxLen at hCm; omega
  have HM := Lib.hid hm
  have HF : Hid (decide (Rc.SOk ⟨n, x, d, p, l⟩) = false) := Lib.hid (decide_eq_false fun hk => by
    obtain ⟨⟨⟨k1, k2⟩, k3, k4, k5, k6, k7, k8⟩, -⟩ := hk
    simp only at k1 k2 k3 k4 k5 k6 k7 k8
    omega)
  have q1 : decide (n < 1) = false := decide_eq_false c1
  have q2 : decide (1073741824 < n) = true := decide_eq_true h
  clear c1 h hm hCm
  obtain ⟨a0, a1, a2, a3, a4⟩ := seal5 HU0.out
  unfold sealObj at a0 a1 a2 a3 a4
  go_enter Tryd.func15, Tryd.ntmps15
  go_wp2
  all_goals go_ret
  all_goals rw [HF.out]
  all_goals exact ⟨rfl, HB0.out⟩
set_option maxHeartbeats 2000000 in
theorem refSeal_no3 (n x d p : Int) (A : Option Addr) (l : List Int) (m C : Nat) (w : World) (hm : m = l.length) (hCm : m ≤ maxLen) (c1 : ¬ n < 1) (c2 : ¬ 1073741824 < n) (h : d < 1) :
    Calls Tryd.prog 15 #[.agg #[.int .i64 n, .int .i64 x, .int .i64 d, .int .i64 p, .slice A m C]] w (AnsB (decide (Rc.SOk ⟨n, x, d, p, l⟩)) w) := by
  have HB0 : Hid (Below w.heap.size w (w.alloc (sealObj n x d p A m C))) := Lib.hid ((Below.refl _ _).alloc (Nat.le_refl _) _)
  have HU0 : Hid ((w.alloc (sealObj n x d p A m C)).heap[w.heap.size]? = some (sealObj n x d p A m C)) := Lib.hid (Go.Deep.blk_alloc_new _ _)
  have hmb : m ≤ 9223372036854775807 := by unfold maxLen at hCm; omega
  have HM := Lib.hid hm
  have HF : Hid (decide (Rc.SOk ⟨n, x, d, p, l⟩) = false) := Lib.hid (decide_eq_false fun hk => by
    obtain ⟨⟨⟨k1, k2⟩, k3, k4, k5, k6, k7, k8⟩, -⟩ := hk
    simp only at k1 k2 k3 k4 k5 k6 k7 k8
    omega)
  have q1 : decide (n < 1) = false := decide_eq_false c1
  have q2 : decide (1073741824 < n) = false := decide_eq_false c2
  have q3 : decide (d < 1) = true := decide_eq_true h
  clear c1 c2 h hm hCm
  obtain ⟨a0, a1, a2, a3, a4⟩ := seal5 HU0.out
  unfold sealObj at a0 a1 a2 a3 a4
  go_enter Tryd.func15, Tryd.ntmps15
  go_wp2
  all_goals go_ret
  all_goals rw [HF.out]
  all_goals exact ⟨rfl, HB0.out⟩
set_option maxHeartbeats 2000000 in
theorem refSeal_no4 (n x d p : Int) (A : Option Addr) (l : List Int) (m C : Nat) (w : World) (hm : m = l.length) (hCm : m ≤ maxLen) (c1 : ¬ n < 1) (c2 : ¬ 1073741824 < n) (c3 : ¬ d < 1) (h : p < 1) :
    Calls Tryd.prog 15 #[.agg #[.int .i64 n, .int .i64 x, .int .i64 d, .int .i64 p, .slice A m C]] w (AnsB (decide (Rc.SOk ⟨n, x, d, p, l⟩)) w) := by
  have HB0 : Hid (Below w.heap.size w (w.alloc (sealObj n x d p A m C))) := Lib.hid ((Below.refl _ _).alloc (Nat.le_refl _) _)
  have HU0 : Hid ((w.alloc (sealObj n x d p A m C)).heap[w.heap.size]? = some (sealObj n x d p A m C)) := Lib.hid (Go.Deep.blk_alloc_new _ _)
  have hmb : m ≤ 9223372036854775807 := by unfold maxLen at hCm; omega
  have HM := Lib.hid hm
  have HF : Hid (decide (Rc.SOk ⟨n, x, d, p, l⟩) = false) := Lib.hid (decide_eq_false fun hk => by
    obtain ⟨⟨⟨k1, k2⟩, k3, k4, k5, k6, k7, k8⟩, -⟩ := hk
    simp only at k1 k2 k3 k4 k5 k6 k7 k8
    omega)
  have q1 : decide (n < 1) = false := decide_eq_false c1
  have q2 : decide (1073741824 < n) = false := decide_eq_false c2
  have q3 : decide (d < 1) = false := decide_eq_false c3
  have q4 : decide (p < 1) = true := decide_eq_true h
  clear c1 c2 c3 h hm hCm
  obtain ⟨a0, a1, a2, a3, a4⟩ := seal5 HU0.out
  unfold sealObj at a0 a1 a2 a3 a4
  go_enter Tryd.func15, Tryd.ntmps15
  go_wp2
  all_goals go_ret
  all_goals rw [HF.out]
  all_goals exact ⟨rfl, HB0.out⟩
set_option maxHeartbeats 2000000 in
theorem refSeal_no5 (n x d p : Int) (A : Option Addr) (l : List Int) (m C : Nat) (w : World) (hm : m = l.length) (hCm : m ≤ maxLen) (c1 : ¬ n < 1) (c2 : ¬ 1073741824 < n) (c3 : ¬ d < 1) (c4 : ¬ p < 1) (h : 14 < d) :
    Calls Tryd.prog 15 #[.agg #[.int .i64 n, .int .i64 x, .int .i64 d, .int .i64 p, .slice A m C]] w (AnsB (decide (Rc.SOk ⟨n, x, d, p, l⟩)) w) := by
  have HB0 : Hid (Below w.heap.size w (w.alloc (sealObj n x d p A m C))) := Lib.hid ((Below.refl _ _).alloc (Nat.le_refl _) _)
  have HU0 : Hid ((w.alloc (sealObj n x d p A m C)).heap[w.heap.size]? = some (sealObj n x d p A m C)) := Lib.hid (Go.Deep.blk_alloc_new _ _)
  have hmb : m ≤ 9223372036854775807 := by unfold maxLen at hCm; omega
  have HM := Lib.hid hm
  have HF : Hid (decide (Rc.SOk ⟨n, x, d, p, l⟩) = false) := Lib.hid (decide_eq_false fun hk => by
    obtain ⟨⟨⟨k1, k2⟩, k3, k4, k5, k6, k7, k8⟩, -⟩ := hk
    simp only at k1 k2 k3 k4 k5 k6 k7 k8
    omega)
  have q1 : decide (n < 1) = false := decide_eq_false c1
  have q2 : decide (1073741824 < n) = false := decide_eq_false c2
  have q3 : decide (d < 1) = false := decide_eq_false c3
  have q4 : decide (p < 1) = false := decide_eq_false c4
  have q5 : decide (14 < d) = true := decide_eq_true h
  clear c1 c2 c3 c4 h hm hCm
  obtain ⟨a0, a1, a2, a3, a4⟩ := seal5 HU0.out
  unfold sealObj at a0 a1 a2 a3 a4
  go_enter Tryd.func15, Tryd.ntmps15
  go_wp2
  all_goals go_ret
  all_goals rw [HF.out]
  all_goals exact ⟨rfl, HB0.out⟩
end Go.Proofs.YtdllkbjbklhigaaDoor
