/- What the document's own RightSeal answers, of numbers that may not be. What the document's own RightSeal answers, of numbers that may not be. What the document's own RightSeal answers, of numbers that may be: it looks through the labels. What the document's own RightSeal answers. What the document's own SealBytes answers. -/
import Derived.Test.YtbkmpoabdnickaaGreatMaj
import Derived.Test.YtbkmpoabdnickaaGreatMal
import Derived.Test.YtbkmpoabdnickaaGreatMax
namespace Go.Proofs.YtbkmpoabdnickaaGreat
open Go.RowKit
open Pt (Tx)

set_option maxHeartbeats 2000000 in
theorem refSeal_no1 (n x d p : Int) (A : Option Addr) (l : List Int) (m C : Nat) (w : World) (hm : m = l.length) (hCm : m ≤ maxLen)  (h : n < 1) :
    Calls Tryz.prog 25 #[.agg #[.int .i64 n, .int .i64 x, .int .i64 d, .int .i64 p, .slice A m C]] w (AnsB (decide (Rc.SOk ⟨n, x, d, p, l⟩)) w) := by
  have HB0 : Hid (Below w.heap.size w (w.alloc (sealObj n x d p A m C))) := Lib.hid ((Below.refl _ _).alloc (Nat.le_refl _) _)
  have HU0 : Hid ((w.alloc (sealObj n x d p A m C)).heap[w.heap.size]? = some (sealObj n x d p A m C)) := Lib.hid (Go.Deep.blk_alloc_new _ _)
  have hmb : m ≤ 9223372036854775807 := by unfold maxLen at hCm; omega
  have HM := Lib.hid hm
  have HF : Hid (decide (Rc.SOk ⟨n, x, d, p, l⟩) = false) := Lib.hid (decide_eq_false fun hk => by
    obtain ⟨⟨⟨k1, k2⟩, k3, k4, k5, k6, k7, k8⟩, -⟩ := hk
    simp only at k1 k2 k3 k4 k5 k6 k7 k8
    omega)
  have q1 : decide (n < 1) = true := decide_eq_true h
  clear h hm hCm
  obtain ⟨a0, a1, a2, a3, a4⟩ := seal5 HU0.out
  unfold sealObj at a0 a1 a2 a3 a4
  go_enter Tryz.func25, Tryz.ntmps25
  go_wp2
  all_goals go_ret
  all_goals rw [HF.out]
  all_goals exact ⟨rfl, HB0.out⟩
set_option maxHeartbeats 2000000 in
theorem refSeal_no2 (n x d p : Int) (A : Option Addr) (l : List Int) (m C : Nat) (w : World) (hm : m = l.length) (hCm : m ≤ maxLen) (c1 : ¬ n < 1) (h : 1073741824 < n) :
    Calls Tryz.prog 25 #[.agg #[.int .i64 n, .int .i64 x, .int .i64 d, .int .i64 p, .slice A m C]] w (AnsB (decide (Rc.SOk ⟨n, x, d, p, l⟩)) w) := by
  have HB0 : Hid (Below w.heap.size w (w.alloc (sealObj n x d p A m C))) := Lib.hid ((Below.refl _ _).alloc (Nat.le_refl _) _)
  have HU0 : Hid ((w.alloc (sealObj n x d p A m C)).heap[w.heap.size]? = some (sealObj n x d p A m C)) := Lib.hid (Go.Deep.blk_alloc_new _ _)
  have hmb : m ≤ 9223372036854775807 := by unfold maxLen at hCm; omega
  have HM := Lib.hid hm
  have HF : Hid (decide (Rc.SOk ⟨n, x, d, p, l⟩) = false) := Lib.hid (decide_eq_false fun hk => by
    obtain ⟨⟨⟨k1, k2⟩, k3, k4, k5, k6, k7, k8⟩, -⟩ := hk
    simp only at k1 k2 k3 k4 k5 k6 k7 k8
    omega)
  have q1 : decide (n < 1) = false := decide_eq_false c1
  have q2 : decide (1073741824 < n) = true := decide_eq_true h
  clear c1 h hm hCm
  obtain ⟨a0, a1, a2, a3, a4⟩ := seal5 HU0.out
  unfold sealObj at a0 a1 a2 a3 a4
  go_enter Tryz.func25, Tryz.ntmps25
  go_wp2
  all_goals go_ret
  all_goals rw [HF.out]
  all_goals exact ⟨rfl, HB0.out⟩
set_option maxHeartbeats 2000000 in
theorem refSeal_no3 (n x d p : Int) (A : Option Addr) (l : List Int) (m C : Nat) (w : World) (hm : m = l.length) (hCm : m ≤ maxLen) (c1 : ¬ n < 1) (c2 : ¬ 1073741824 < n) (h : d < 1) :
    Calls Tryz.prog 25 #[.agg #[.int .i64 n, .int .i64 x, .int .i64 d, .int .i64 p, .slice A m C]] w (AnsB (decide (Rc.SOk ⟨n, x, d, p, l⟩)) w) := by
  have HB0 : Hid (Below w.heap.size w (w.alloc (sealObj n x d p A m C))) := Lib.hid ((Below.refl _ _).alloc (Nat.le_refl _) _)
  have HU0 : Hid ((w.alloc (sealObj n x d p A m C)).heap[w.heap.size]? = some (sealObj n x d p A m C)) := Lib.hid (Go.Deep.blk_alloc_new _ _)
  have hmb : m ≤ 9223372036854775807 := by unfold maxLen at hCm; omega
  have HM := Lib.hid hm
  have HF : Hid (decide (Rc.SOk ⟨n, x, d, p, l⟩) = false) := Lib.hid (decide_eq_false fun hk => by
    obtain ⟨⟨⟨k1, k2⟩, k3, k4, k5, k6, k7, k8⟩, -⟩ := hk
    simp only at k1 k2 k3 k4 k5 k6 k7 k8
    omega)
  have q1 : decide (n < 1) = false := decide_eq_false c1
  have q2 : decide (1073741824 < n) = false := decide_eq_false c2
  have q3 : decide (d < 1) = true := decide_eq_true h
  clear c1 c2 h hm hCm
  obtain ⟨a0, a1, a2, a3, a4⟩ := seal5 HU0.out
  unfold sealObj at a0 a1 a2 a3 a4
  go_enter Tryz.func25, Tryz.ntmps25
  go_wp2
  all_goals go_ret
  all_goals rw [HF.out]
  all_goals exact ⟨rfl, HB0.out⟩
set_option maxHeartbeats 2000000 in
theorem refSeal_no4 (n x d p : Int) (A : Option Addr) (l : List Int) (m C : Nat) (w : World) (hm : m = l.length) (hCm : m ≤ maxLen) (c1 : ¬ n < 1) (c2 : ¬ 1073741824 < n) (c3 : ¬ d < 1) (h : p < 1) :
    Calls Tryz.prog 25 #[.agg #[.int .i64 n, .int .i64 x, .int .i64 d, .int .i64 p, .slice A m C]] w (AnsB (decide (Rc.SOk ⟨n, x, d, p, l⟩)) w) := by
  have HB0 : Hid (Below w.heap.size w (w.alloc (sealObj n x d p A m C))) := Lib.hid ((Below.refl _ _).alloc (Nat.le_refl _) _)
  have HU0 : Hid ((w.alloc (sealObj n x d p A m C)).heap[w.heap.size]? = some (sealObj n x d p A m C)) := Lib.hid (Go.Deep.blk_alloc_new _ _)
  have hmb : m ≤ 9223372036854775807 := by unfold maxLen at hCm; omega
  have HM := Lib.hid hm
  have HF : Hid (decide (Rc.SOk ⟨n, x, d, p, l⟩) = false) := Lib.hid (decide_eq_false fun hk => by
    obtain ⟨⟨⟨k1, k2⟩, k3, k4, k5, k6, k7, k8⟩, -⟩ := hk
    simp only at k1 k2 k3 k4 k5 k6 k7 k8
    omega)
  have q1 : decide (n < 1) = false := decide_eq_false c1
  have q2 : decide (1073741824 < n) = false := decide_eq_false c2
  have q3 : decide (d < 1) = false := decide_eq_false c3
  have q4 : decide (p < 1) = true := decide_eq_true h
  clear c1 c2 c3 h hm hCm
  obtain ⟨a0, a1, a2, a3, a4⟩ := seal5 HU0.out
  unfold sealObj at a0 a1 a2 a3 a4
  go_enter Tryz.func25, Tryz.ntmps25
  go_wp2
  all_goals go_ret
  all_goals rw [HF.out]
  all_goals exact ⟨rfl, HB0.out⟩
set_option maxHeartbeats 2000000 in
theorem refSeal_no5 (n x d p : Int) (A : Option Addr) (l : List Int) (m C : Nat) (w : World) (hm : m = l.length) (hCm : m ≤ maxLen) (c1 : ¬ n < 1) (c2 : ¬ 1073741824 < n) (c3 : ¬ d < 1) (c4 : ¬ p < 1) (h : 14 < d) :
    Calls Tryz.prog 25 #[.agg #[.int .i64 n, .int .i64 x, .int .i64 d, .int .i64 p, .slice A m C]] w (AnsB (decide (Rc.SOk ⟨n, x, d, p, l⟩)) w) := by
  have HB0 : Hid (Below w.heap.size w (w.alloc (sealObj n x d p A m C))) := Lib.hid ((Below.refl _ _).alloc (Nat.le_refl _) _)
  have HU0 : Hid ((w.alloc (sealObj n x d p A m C)).heap[w.heap.size]? = some (sealObj n x d p A m C)) := Lib.hid (Go.Deep.blk_alloc_new _ _)
  have hmb : m ≤ 9223372036854775807 := by unfold maxLen at hCm; omega
  have HM := Lib.hid hm
  have HF : Hid (decide (Rc.SOk ⟨n, x, d, p, l⟩) = false) := Lib.hid (decide_eq_false fun hk => by
    obtain ⟨⟨⟨k1, k2⟩, k3, k4, k5, k6, k7, k8⟩, -⟩ := hk
    simp only at k1 k2 k3 k4 k5 k6 k7 k8
    omega)
  have q1 : decide (n < 1) = false := decide_eq_false c1
  have q2 : decide (1073741824 < n) = false := decide_eq_false c2
  have q3 : decide (d < 1) = false := decide_eq_false c3
  have q4 : decide (p < 1) = false := decide_eq_false c4
  have q5 : decide (14 < d) = true := decide_eq_true h
  clear c1 c2 c3 c4 h hm hCm
  obtain ⟨a0, a1, a2, a3, a4⟩ := seal5 HU0.out
  unfold sealObj at a0 a1 a2 a3 a4
  go_enter Tryz.func25, Tryz.ntmps25
  go_wp2
  all_goals go_ret
  all_goals rw [HF.out]
  all_goals exact ⟨rfl, HB0.out⟩
end Go.Proofs.YtbkmpoabdnickaaGreat
namespace Go.Proofs.YtbkmpoabdnickaaGreat
open Go.RowKit
open Pt (Tx)

set_option maxHeartbeats 2000000 in
theorem refSeal_no6 (n x d p : Int) (A : Option Addr) (l : List Int) (m C : Nat) (w : World) (hm : m = l.length) (hCm : m ≤ maxLen) (c1 : ¬ n < 1) (c2 : ¬ 1073741824 < n) (c3 : ¬ d < 1) (c4 : ¬ p < 1) (c5 : ¬ 14 < d) (h : 14 < p) :
    Calls Tryz.prog 25 #[.agg #[.int .i64 n, .int .i64 x, .int .i64 d, .int .i64 p, .slice A m C]] w (AnsB (decide (Rc.SOk ⟨n, x, d, p, l⟩)) w) := by
  have HB0 : Hid (Below w.heap.size w (w.alloc (sealObj n x d p A m C))) := Lib.hid ((Below.refl _ _).alloc (Nat.le_refl _) _)
  have HU0 : Hid ((w.alloc (sealObj n x d p A m C)).heap[w.heap.size]? = some (sealObj n x d p A m C)) := Lib.hid (Go.Deep.blk_alloc_new _ _)
  have hmb : m ≤ 9223372036854775807 := by unfold maxLen at hCm; omega
  have HM := Lib.hid hm
  have HF : Hid (decide (Rc.SOk ⟨n, x, d, p, l⟩) = false) := Lib.hid (decide_eq_false fun hk => by
    obtain ⟨⟨⟨k1, k2⟩, k3, k4, k5, k6, k7, k8⟩, -⟩ := hk
    simp only at k1 k2 k3 k4 k5 k6 k7 k8
    omega)
  have q1 : decide (n < 1) = false := decide_eq_false c1
  have q2 : decide (1073741824 < n) = false := decide_eq_false c2
  have q3 : decide (d < 1) = false := decide_eq_false c3
  have q4 : decide (p < 1) = false := decide_eq_false c4
  have q5 : decide (14 < d) = false := decide_eq_false c5
  have q6 : decide (14 < p) = true := decide_eq_true h
  clear c1 c2 c3 c4 c5 h hm hCm
  obtain ⟨a0, a1, a2, a3, a4⟩ := seal5 HU0.out
  unfold sealObj at a0 a1 a2 a3 a4
  go_enter Tryz.func25, Tryz.ntmps25
  go_wp2
  all_goals go_ret
  all_goals rw [HF.out]
  all_goals exact ⟨rfl, HB0.out⟩
set_option maxHeartbeats 2000000 in
theorem refSeal_no7 (n x d p : Int) (A : Option Addr) (l : List Int) (m C : Nat) (w : World) (hm : m = l.length) (hCm : m ≤ maxLen) (c1 : ¬ n < 1) (c2 : ¬ 1073741824 < n) (c3 : ¬ d < 1) (c4 : ¬ p < 1) (c5 : ¬ 14 < d) (c6 : ¬ 14 < p) (h : 14 < d + p) :
    Calls Tryz.prog 25 #[.agg #[.int .i64 n, .int .i64 x, .int .i64 d, .int .i64 p, .slice A m C]] w (AnsB (decide (Rc.SOk ⟨n, x, d, p, l⟩)) w) := by
  have HB0 : Hid (Below w.heap.size w (w.alloc (sealObj n x d p A m C))) := Lib.hid ((Below.refl _ _).alloc (Nat.le_refl _) _)
  have HU0 : Hid ((w.alloc (sealObj n x d p A m C)).heap[w.heap.size]? = some (sealObj n x d p A m C)) := Lib.hid (Go.Deep.blk_alloc_new _ _)
  have hmb : m ≤ 9223372036854775807 := by unfold maxLen at hCm; omega
  have HM := Lib.hid hm
  have HF : Hid (decide (Rc.SOk ⟨n, x, d, p, l⟩) = false) := Lib.hid (decide_eq_false fun hk => by
    obtain ⟨⟨⟨k1, k2⟩, k3, k4, k5, k6, k7, k8⟩, -⟩ := hk
    simp only at k1 k2 k3 k4 k5 k6 k7 k8
    omega)
  have q1 : decide (n < 1) = false := decide_eq_false c1
  have q2 : decide (1073741824 < n) = false := decide_eq_false c2
  have q3 : decide (d < 1) = false := decide_eq_false c3
  have q4 : decide (p < 1) = false := decide_eq_false c4
  have q5 : decide (14 < d) = false := decide_eq_false c5
  have q6 : decide (14 < p) = false := decide_eq_false c6
  have q7 : decide (14 < d + p) = true := decide_eq_true h
  have hd0 : 1 ≤ d := by omega
  have hd1 : d ≤ 14 := by omega
  have hp0 : 1 ≤ p := by omega
  have hp1 : p ≤ 14 := by omega
  clear c1 c2 c3 c4 c5 c6 h hm hCm
  obtain ⟨a0, a1, a2, a3, a4⟩ := seal5 HU0.out
  unfold sealObj at a0 a1 a2 a3 a4
  go_enter Tryz.func25, Tryz.ntmps25
  go_wp2
  all_goals go_ret
  all_goals rw [HF.out]
  all_goals exact ⟨rfl, HB0.out⟩
set_option maxHeartbeats 2000000 in
theorem refSeal_no8 (n x d p : Int) (A : Option Addr) (l : List Int) (m C : Nat) (w : World) (hm : m = l.length) (hCm : m ≤ maxLen) (c1 : ¬ n < 1) (c2 : ¬ 1073741824 < n) (c3 : ¬ d < 1) (c4 : ¬ p < 1) (c5 : ¬ 14 < d) (c6 : ¬ 14 < p) (c7 : ¬ 14 < d + p) (h : ¬ (m : Int) = d + p) :
    Calls Tryz.prog 25 #[.agg #[.int .i64 n, .int .i64 x, .int .i64 d, .int .i64 p, .slice A m C]] w (AnsB (decide (Rc.SOk ⟨n, x, d, p, l⟩)) w) := by
  have HB0 : Hid (Below w.heap.size w (w.alloc (sealObj n x d p A m C))) := Lib.hid ((Below.refl _ _).alloc (Nat.le_refl _) _)
  have HU0 : Hid ((w.alloc (sealObj n x d p A m C)).heap[w.heap.size]? = some (sealObj n x d p A m C)) := Lib.hid (Go.Deep.blk_alloc_new _ _)
  have hmb : m ≤ 9223372036854775807 := by unfold maxLen at hCm; omega
  have HM := Lib.hid hm
  have HF : Hid (decide (Rc.SOk ⟨n, x, d, p, l⟩) = false) := Lib.hid (decide_eq_false fun hk => by
    obtain ⟨⟨⟨k1, k2⟩, k3, k4, k5, k6, k7, k8⟩, -⟩ := hk
    simp only at k1 k2 k3 k4 k5 k6 k7 k8
    omega)
  have q1 : decide (n < 1) = false := decide_eq_false c1
  have q2 : decide (1073741824 < n) = false := decide_eq_false c2
  have q3 : decide (d < 1) = false := decide_eq_false c3
  have q4 : decide (p < 1) = false := decide_eq_false c4
  have q5 : decide (14 < d) = false := decide_eq_false c5
  have q6 : decide (14 < p) = false := decide_eq_false c6
  have q7 : decide (14 < d + p) = false := decide_eq_false c7
  have q8 : (((m : Int)) == d + p) = false := beq_eq_false_iff_ne.2 h
  have q8b : ((m : Int) != d + p) = true := bne_iff_ne.2 h
  have hd0 : 1 ≤ d := by omega
  have hd1 : d ≤ 14 := by omega
  have hp0 : 1 ≤ p := by omega
  have hp1 : p ≤ 14 := by omega
  clear c1 c2 c3 c4 c5 c6 c7 h hm hCm
  obtain ⟨a0, a1, a2, a3, a4⟩ := seal5 HU0.out
  unfold sealObj at a0 a1 a2 a3 a4
  go_enter Tryz.func25, Tryz.ntmps25
  go_wp2
  all_goals go_ret
  all_goals rw [HF.out]
  all_goals exact ⟨rfl, HB0.out⟩
set_option maxHeartbeats 2000000 in
theorem refSeal_no9 (n x d p : Int) (A : Option Addr) (l : List Int) (m C : Nat) (w : World) (hm : m = l.length) (hCm : m ≤ maxLen) (c1 : ¬ n < 1) (c2 : ¬ 1073741824 < n) (c3 : ¬ d < 1) (c4 : ¬ p < 1) (c5 : ¬ 14 < d) (c6 : ¬ 14 < p) (c7 : ¬ 14 < d + p) (c8 : (m : Int) = d + p) (h : x < 0) :
    Calls Tryz.prog 25 #[.agg #[.int .i64 n, .int .i64 x, .int .i64 d, .int .i64 p, .slice A m C]] w (AnsB (decide (Rc.SOk ⟨n, x, d, p, l⟩)) w) := by
  have HB0 : Hid (Below w.heap.size w (w.alloc (sealObj n x d p A m C))) := Lib.hid ((Below.refl _ _).alloc (Nat.le_refl _) _)
  have HU0 : Hid ((w.alloc (sealObj n x d p A m C)).heap[w.heap.size]? = some (sealObj n x d p A m C)) := Lib.hid (Go.Deep.blk_alloc_new _ _)
  have hmb : m ≤ 9223372036854775807 := by unfold maxLen at hCm; omega
  have HM := Lib.hid hm
  have HF : Hid (decide (Rc.SOk ⟨n, x, d, p, l⟩) = false) := Lib.hid (decide_eq_false fun hk => by
    obtain ⟨⟨⟨k1, k2⟩, k3, k4, k5, k6, k7, k8⟩, -⟩ := hk
    simp only at k1 k2 k3 k4 k5 k6 k7 k8
    omega)
  have q1 : decide (n < 1) = false := decide_eq_false c1
  have q2 : decide (1073741824 < n) = false := decide_eq_false c2
  have q3 : decide (d < 1) = false := decide_eq_false c3
  have q4 : decide (p < 1) = false := decide_eq_false c4
  have q5 : decide (14 < d) = false := decide_eq_false c5
  have q6 : decide (14 < p) = false := decide_eq_false c6
  have q7 : decide (14 < d + p) = false := decide_eq_false c7
  have q8 : ((m : Int) == d + p) = true := beq_iff_eq.2 c8
  have q8b : ((m : Int) != d + p) = false := by rw [bne, q8]; rfl
  have q9 : decide (x < 0) = true := decide_eq_true h
  have hd0 : 1 ≤ d := by omega
  have hd1 : d ≤ 14 := by omega
  have hp0 : 1 ≤ p := by omega
  have hp1 : p ≤ 14 := by omega
  clear c1 c2 c3 c4 c5 c6 c7 c8 h hm hCm
  obtain ⟨a0, a1, a2, a3, a4⟩ := seal5 HU0.out
  unfold sealObj at a0 a1 a2 a3 a4
  go_enter Tryz.func25, Tryz.ntmps25
  go_wp2
  all_goals go_ret
  all_goals rw [HF.out]
  all_goals exact ⟨rfl, HB0.out⟩
set_option maxHeartbeats 2000000 in
theorem refSeal_no10 (n x d p : Int) (A : Option Addr) (l : List Int) (m C : Nat) (w : World) (hm : m = l.length) (hCm : m ≤ maxLen) (c1 : ¬ n < 1) (c2 : ¬ 1073741824 < n) (c3 : ¬ d < 1) (c4 : ¬ p < 1) (c5 : ¬ 14 < d) (c6 : ¬ 14 < p) (c7 : ¬ 14 < d + p) (c8 : (m : Int) = d + p) (c9 : ¬ x < 0) (h : (m : Int) ≤ x) :
    Calls Tryz.prog 25 #[.agg #[.int .i64 n, .int .i64 x, .int .i64 d, .int .i64 p, .slice A m C]] w (AnsB (decide (Rc.SOk ⟨n, x, d, p, l⟩)) w) := by
  have HB0 : Hid (Below w.heap.size w (w.alloc (sealObj n x d p A m C))) := Lib.hid ((Below.refl _ _).alloc (Nat.le_refl _) _)
  have HU0 : Hid ((w.alloc (sealObj n x d p A m C)).heap[w.heap.size]? = some (sealObj n x d p A m C)) := Lib.hid (Go.Deep.blk_alloc_new _ _)
  have hmb : m ≤ 9223372036854775807 := by unfold maxLen at hCm; omega
  have HM := Lib.hid hm
  have HF : Hid (decide (Rc.SOk ⟨n, x, d, p, l⟩) = false) := Lib.hid (decide_eq_false fun hk => by
    obtain ⟨⟨⟨k1, k2⟩, k3, k4, k5, k6, k7, k8⟩, -⟩ := hk
    simp only at k1 k2 k3 k4 k5 k6 k7 k8
    omega)
  have q1 : decide (n < 1) = false := decide_eq_false c1
  have q2 : decide (1073741824 < n) = false := decide_eq_false c2
  have q3 : decide (d < 1) = false := decide_eq_false c3
  have q4 : decide (p < 1) = false := decide_eq_false c4
  have q5 : decide (14 < d) = false := decide_eq_false c5
  have q6 : decide (14 < p) = false := decide_eq_false c6
  have q7 : decide (14 < d + p) = false := decide_eq_false c7
  have q8 : ((m : Int) == d + p) = true := beq_iff_eq.2 c8
  have q8b : ((m : Int) != d + p) = false := by rw [bne, q8]; rfl
  have q9 : decide (x < 0) = false := decide_eq_false c9
  have q10 : decide ((m : Int) ≤ x) = true := decide_eq_true h
  have hd0 : 1 ≤ d := by omega
  have hd1 : d ≤ 14 := by omega
  have hp0 : 1 ≤ p := by omega
  have hp1 : p ≤ 14 := by omega
  clear c1 c2 c3 c4 c5 c6 c7 c8 c9 h hm hCm
  obtain ⟨a0, a1, a2, a3, a4⟩ := seal5 HU0.out
  unfold sealObj at a0 a1 a2 a3 a4
  go_enter Tryz.func25, Tryz.ntmps25
  go_wp2
  all_goals go_ret
  all_goals rw [HF.out]
  all_goals exact ⟨rfl, HB0.out⟩
end Go.Proofs.YtbkmpoabdnickaaGreat
namespace Go.Proofs.YtbkmpoabdnickaaGreat
open Go.RowKit
open Pt (Tx)

/-- what lies where the call laid it, and all that was there is as it was -/
def Sits (w : World) (o : Obj) (x : World) : Prop := x.heap[w.heap.size]? = some o ∧ Below w.heap.size w x
theorem mem_take_iff {l : List Int} {k : Nat} (h : k < l.length) (x : Int) : x ∈ l.take (k + 1) ↔ x ∈ l.take k ∨ x = l[k] := by
  rw [List.take_succ_eq_append_getElem h, List.mem_append, List.mem_singleton]
theorem dup_bad {l : List Int} {i k : Nat} (hi : i < l.length) (hk : k < i) (h : l[k]'(by omega) = l[i]) : ¬ Rc.Labs l :=
  Rc.labs_step_no hi fun h' => h'.2 (by
    rw [← h]
    have hk' : k < (l.take i).length := by rw [List.length_take]; omega
    have := List.getElem_mem hk'
    rwa [List.getElem_take] at this)
theorem labs_row {l : List Int} {i : Nat} (hi : i < l.length) (hl : Rc.Labs (l.take i)) (h1 : 1 ≤ l[i]) (h2 : l[i] ≤ 2147483647) (h : l[i] ∉ l.take i) : Rc.Labs (l.take (i + 1)) := (Rc.labs_take hi).2 ⟨hl, ⟨h1, h2⟩, h⟩
set_option maxRecDepth 100000 in
set_option maxHeartbeats 8000000 in
theorem refSeal_yes (n x d p : Int) (A : Option Addr) (l : List Int) (m C : Nat) (G : Nat → Prop) (w : World) (hm : m = l.length) (hCm : m ≤ maxLen) (hr : RdZ w A l G) (hs : Rc.SNums ⟨n, x, d, p, l⟩) :
    Calls Tryz.prog 25 #[.agg #[.int .i64 n, .int .i64 x, .int .i64 d, .int .i64 p, .slice A m C]] w (AnsB (decide (Rc.SOk ⟨n, x, d, p, l⟩)) w) := by
  have HB0 : Hid (Below w.heap.size w (w.alloc (sealObj n x d p A m C))) := Lib.hid ((Below.refl _ _).alloc (Nat.le_refl _) _)
  have HU0 : Hid ((w.alloc (sealObj n x d p A m C)).heap[w.heap.size]? = some (sealObj n x d p A m C)) := Lib.hid (Go.Deep.blk_alloc_new _ _)
  have hmb : m ≤ 9223372036854775807 := by unfold maxLen at hCm; omega
  have HM := Lib.hid hm
  have HD : Hid (decide (Rc.SOk ⟨n, x, d, p, l⟩) = decide (Rc.Labs l)) := Lib.hid (by
    rw [Bool.eq_iff_iff, decide_eq_true_eq, decide_eq_true_eq]
    exact ⟨fun h => h.2, fun h => ⟨hs, h⟩⟩)
  obtain ⟨⟨k1, k2⟩, k3, k4, k5, k6, k7, k8⟩ := hs
  simp only at k1 k2 k3 k4 k5 k6 k7 k8
  rw [← hm] at k6 k8
  have q1 : decide (n < 1) = false := decide_eq_false (by omega)
  have q2 : decide (1073741824 < n) = false := decide_eq_false (by omega)
  have q3 : decide (d < 1) = false := decide_eq_false (by omega)
  have q4 : decide (p < 1) = false := decide_eq_false (by omega)
  have q5 : decide (14 < d) = false := decide_eq_false (by omega)
  have q6 : decide (14 < p) = false := decide_eq_false (by omega)
  have q7 : decide (14 < d + p) = false := decide_eq_false (by omega)
  have q8 : ((m : Int) == d + p) = true := beq_iff_eq.2 k6
  have q8b : ((m : Int) != d + p) = false := by rw [bne, q8]; rfl
  have q9 : decide (x < 0) = false := decide_eq_false (by omega)
  have q10 : decide ((m : Int) ≤ x) = false := decide_eq_false (by omega)
  have hd0 : 1 ≤ d := k3
  have hd1 : d ≤ 14 := by omega
  have hp0 : 1 ≤ p := k4
  have hp1 : p ≤ 14 := by omega
  have hm14 : m ≤ 14 := by omega
  have HR := Lib.hid hr
  have HS0 : Hid (Sits w (sealObj n x d p A m C) (w.alloc (sealObj n x d p A m C))) := Lib.hid ⟨HU0.out, HB0.out⟩
  clear k1 k2 k3 k4 k5 k6 k7 k8 hm hr hCm
  obtain ⟨a0, a1, a2, a3, a4⟩ := seal5 HU0.out
  unfold sealObj at a0 a1 a2 a3 a4
  go_enter Tryz.func25, Tryz.ntmps25
  go_wp2
  clear q1 q2 q3 q4 q5 q6 q7 q8 q8b q9 q10 hd0 hd1 hp0 hp1 a0 a1 a2 a3 a4
  go_loopw [3] (fun vi wr => ∃ k : Nat, k ≤ m ∧ vi = .int .i64 (k : Int) ∧ Hid (Rc.Labs (l.take k)) ∧ Hid (Sits w (sealObj n x d p A m C) wr)) (fun vi _ => m - (intOf vi).toNat)
  case atStart => exact ⟨0, Nat.zero_le _, rfl, Lib.hid Rc.Labs.nil, HS0⟩
  case round =>
    obtain ⟨k, hk, rfl, HK, HSI⟩ := hrel
    obtain ⟨wo, rfl⟩ : ∃ x, x = wr := ⟨wr, rfl⟩
    obtain ⟨a0, a1, a2, a3, a4⟩ := seal5 HSI.out.1
    by_cases hlt : k < m
    · have hlt' : k < l.length := by rw [← HM.out]; exact hlt
      obtain ⟨b, off, rfl, -, hc⟩ := (HR.out.old HSI.out.2).at_ hlt'
      have HZ : Hid (¬ ((1 ≤ l[k] ∧ l[k] ≤ 2147483647) ∧ l[k] ∉ l.take k) → decide (Rc.SOk ⟨n, x, d, p, l⟩) = false) := Lib.hid fun h => by rw [HD.out]; exact decide_eq_false (Rc.labs_step_no hlt' h)
      have HRW := Lib.hid (fun h1 h2 h => labs_row hlt' HK.out h1 h2 h)
      obtain ⟨y, hy⟩ : ∃ y, y = l[k] := ⟨_, rfl⟩
      rw [← hy] at hc HZ HRW
      have HY := Lib.hid hy
      clear hy
      by_cases c1 : y < 1
      · have q1 : decide (y < 1) = true := decide_eq_true c1
        have HF := Lib.hid (HZ.out fun h => by omega)
        clear c1
        go_wp2
        all_goals go_ret
        all_goals rw [HF.out]
        all_goals exact ⟨rfl, HSI.out.2⟩
      have q1 : decide (y < 1) = false := decide_eq_false c1
      by_cases c2 : 2147483647 < y
      · have q2 : decide (2147483647 < y) = true := decide_eq_true c2
        have HF := Lib.hid (HZ.out fun h => by omega)
        clear c1 c2
        go_wp2
        all_goals go_ret
        all_goals rw [HF.out]
        all_goals exact ⟨rfl, HSI.out.2⟩
      have q2 : decide (2147483647 < y) = false := decide_eq_false c2
      have HRW2 : Hid (y ∉ l.take k → Rc.Labs (l.take (k + 1))) := Lib.hid (HRW.out (by omega) (by omega))
      clear c1 c2
      go_wp2
      clear q1 q2 a0 a1 a2 a3 a4 hc
      go_loopw [4] (fun vj wr => ∃ j : Nat, j ≤ k ∧ vj = .int .i64 (j : Int) ∧ Hid (y ∉ l.take j) ∧ Hid (Sits w (sealObj n x d p (some ⟨b, off, none⟩) m C) wr)) (fun vj _ => k - (intOf vj).toNat)
      case atStart => exact ⟨0, Nat.zero_le _, rfl, Lib.hid (by simp), HSI⟩
      case round =>
        obtain ⟨j, hj, rfl, HJ, HSJ⟩ := hrel
        obtain ⟨a0, a1, a2, a3, a4⟩ := seal5 HSJ.out.1
        by_cases hjk : j < k
        · have hjl : j < l.length := by omega
          have hrr := HR.out.old HSJ.out.2
          obtain ⟨b1, off1, e', -, hcj⟩ := hrr.at_ hjl
          obtain ⟨b2, off2, e'', -, hck⟩ := hrr.at_ hlt'
          injection e' with e'
          injection e' with e1 e2
          subst e1 e2
          injection e'' with e''
          injection e'' with e1 e2
          subst e1 e2
          have HS := Lib.hid (mem_take_iff hjl y)
          have HDU : Hid (l[j] = y → decide (Rc.SOk ⟨n, x, d, p, l⟩) = false) := Lib.hid fun h => by rw [HD.out]; exact decide_eq_false (dup_bad hlt' hjk (by rw [h, HY.out]))
          rw [← HY.out] at hck
          obtain ⟨z, hz⟩ : ∃ z, z = l[j] := ⟨_, rfl⟩
          rw [← hz] at hcj HS HDU
          clear hz hrr
          have hjm : j < m := by omega
          have HSD : Hid (Sits w (sealObj n x d p (some ⟨b, off, none⟩) m C) wr.drew) := Lib.hid ⟨HSJ.out.1, HSJ.out.2.drew⟩
          by_cases e : z = y
          · have q : (z == y) = true := beq_iff_eq.2 e
            have HF := Lib.hid (HDU.out e)
            clear e
            go_wp2_with fail
            go_region
            go_wp2
            go_ret
            rw [HF.out]
            exact ⟨rfl, HSD.out.2⟩
          · have q : (z == y) = false := beq_eq_false_iff_ne.2 e
            have HX : Hid (y ∉ l.take (j + 1)) := Lib.hid fun h => (HS.out.1 h).elim HJ.out (fun h => e h.symm)
            clear e
            go_wp2_with fail
            go_region
            go_wp2
            go_roundw
            case rel => exact ⟨j + 1, by omega, by go_num, HX, HSD⟩
            case measure => simp [intOf]; omega
        · have HX : Hid (Rc.Labs (l.take (k + 1))) := Lib.hid (HRW2.out (by have := HJ.out; rwa [show j = k by omega] at this))
          go_wp2
          go_roundw
          case rel => exact ⟨k + 1, by omega, by go_num, HX, HSJ⟩
          case measure => simp [intOf]; omega
    · have HF : Hid (decide (Rc.SOk ⟨n, x, d, p, l⟩) = true) := Lib.hid (by rw [HD.out]; exact decide_eq_true (by have := HK.out; rwa [List.take_of_length_le (by rw [← HM.out]; omega)] at this))
      go_wp2
      go_ret
      rw [HF.out]
      exact ⟨rfl, HSI.out.2⟩
end Go.Proofs.YtbkmpoabdnickaaGreat
namespace Go.Proofs.YtbkmpoabdnickaaGreat
open Go.RowKit
open Pt (Tx)

theorem refRightSeal_any (n x d p : Int) (A : Option Addr) (l : List Int) (m C : Nat) (G : Nat → Prop) (w : World) (hm : m = l.length) (hC : m ≤ C) (hCm : C ≤ maxLen) (hr : RdZ w A l G) :
    Calls Tryz.prog 25 #[.agg #[.int .i64 n, .int .i64 x, .int .i64 d, .int .i64 p, .slice A m C]] w (AnsB (decide (Rc.SOk ⟨n, x, d, p, l⟩)) w) := by
  have hb : m ≤ maxLen := by omega
  by_cases c1 : n < 1
  · exact refSeal_no1 n x d p A l m C w hm hb  c1
  by_cases c2 : 1073741824 < n
  · exact refSeal_no2 n x d p A l m C w hm hb c1 c2
  by_cases c3 : d < 1
  · exact refSeal_no3 n x d p A l m C w hm hb c1 c2 c3
  by_cases c4 : p < 1
  · exact refSeal_no4 n x d p A l m C w hm hb c1 c2 c3 c4
  by_cases c5 : 14 < d
  · exact refSeal_no5 n x d p A l m C w hm hb c1 c2 c3 c4 c5
  by_cases c6 : 14 < p
  · exact refSeal_no6 n x d p A l m C w hm hb c1 c2 c3 c4 c5 c6
  by_cases c7 : 14 < d + p
  · exact refSeal_no7 n x d p A l m C w hm hb c1 c2 c3 c4 c5 c6 c7
  by_cases c8' : ¬ (m : Int) = d + p
  · exact refSeal_no8 n x d p A l m C w hm hb c1 c2 c3 c4 c5 c6 c7 c8'
  have c8 : (m : Int) = d + p := by omega
  by_cases c9 : x < 0
  · exact refSeal_no9 n x d p A l m C w hm hb c1 c2 c3 c4 c5 c6 c7 c8 c9
  by_cases c10 : (m : Int) ≤ x
  · exact refSeal_no10 n x d p A l m C w hm hb c1 c2 c3 c4 c5 c6 c7 c8 c9 c10
  exact refSeal_yes n x d p A l m C G w hm hb hr ⟨⟨by show 1 ≤ n; omega, by show n ≤ 1073741824; omega⟩, (by show 1 ≤ d; omega), (by show 1 ≤ p; omega), (by show d + p ≤ 14; omega), (by show (l.length : Int) = d + p; omega), (by show 0 ≤ x; omega), (by show x < (l.length : Int); omega)⟩
end Go.Proofs.YtbkmpoabdnickaaGreat
namespace Go.Proofs.YtbkmpoabdnickaaGreat
open Go.RowKit
open Pt (Tx)

set_option maxHeartbeats 1000000 in
theorem refSealBytes_no (n x d p : Int) (A : Option Addr) (l : List Int) (m C : Nat) (G : Nat → Prop) (w : World) (hm : m = l.length) (hC : m ≤ C) (hCm : C ≤ maxLen) (hr : RdZ w A l G) (hok : ¬ Rc.SOk ⟨n, x, d, p, l⟩) :
    Calls Tryz.prog 28 #[.agg #[.int .i64 n, .int .i64 x, .int .i64 d, .int .i64 p, .slice A m C]] w (AnsT (Rc.sput ⟨n, x, d, p, l⟩) w) := by
  have HB0 : Hid (Below w.heap.size w (w.alloc (sealObj n x d p A m C))) := Lib.hid ((Below.refl _ _).alloc (Nat.le_refl _) _)
  have HU0 : Hid ((w.alloc (sealObj n x d p A m C)).heap[w.heap.size]? = some (sealObj n x d p A m C)) := Lib.hid (Go.Deep.blk_alloc_new _ _)
  have hcall := refRightSeal_any n x d p A l m C G (w.alloc (sealObj n x d p A m C)) hm hC hCm (hr.old HB0.out)
  rw [decide_eq_false hok] at hcall
  have HC := Lib.hid hcall
  have HP := Lib.hid (Rc.sput_no hok)
  clear hm hC hCm hr hok hcall
  obtain ⟨a0, a1, a2, a3, a4⟩ := seal5 HU0.out
  unfold sealObj at a0 a1 a2 a3 a4 HC
  go_enter Tryz.func28, Tryz.ntmps28
  go_wp2_with fail
  refine HC.out.mono ?_
  rintro e w1 ⟨rfl, hb⟩
  have HB1 := Lib.hid (HB0.out.trans (hb.mono HB0.out.size))
  clear hb a0 a1 a2 a3 a4
  go_wp2
  go_ret
  rw [HP.out]
  exact AnsT.nil HB1.out
set_option maxHeartbeats 4000000 in
theorem refSealBytes_yes (n x d p : Int) (A : Option Addr) (l : List Int) (m C : Nat) (G : Nat → Prop) (w : World) (hm : m = l.length) (hC : m ≤ C) (hCm : C ≤ maxLen) (hr : RdZ w A l G) (hok : Rc.SOk ⟨n, x, d, p, l⟩) :
    Calls Tryz.prog 28 #[.agg #[.int .i64 n, .int .i64 x, .int .i64 d, .int .i64 p, .slice A m C]] w (AnsT (Rc.sput ⟨n, x, d, p, l⟩) w) := by
  have HB0 : Hid (Below w.heap.size w (w.alloc (sealObj n x d p A m C))) := Lib.hid ((Below.refl _ _).alloc (Nat.le_refl _) _)
  have HU0 : Hid ((w.alloc (sealObj n x d p A m C)).heap[w.heap.size]? = some (sealObj n x d p A m C)) := Lib.hid (Go.Deep.blk_alloc_new _ _)
  have hcall := refRightSeal_any n x d p A l m C G (w.alloc (sealObj n x d p A m C)) hm hC hCm (hr.old HB0.out)
  rw [decide_eq_true hok] at hcall
  have HC := Lib.hid hcall
  have HP := Lib.hid (Rc.sput_ok hok)
  have hm14 : m ≤ 14 := by rw [hm]; exact hok.few
  have HR := Lib.hid hr
  have HM := Lib.hid hm
  clear hm hC hCm hr hok hcall
  obtain ⟨a0, a1, a2, a3, a4⟩ := seal5 HU0.out
  unfold sealObj at a0 a1 a2 a3 a4 HC
  go_enter Tryz.func28, Tryz.ntmps28
  go_wp2_with fail
  refine HC.out.mono ?_
  rintro e w1 ⟨rfl, hb⟩
  obtain ⟨gr, hgr⟩ : ∃ gr, gr = w1.heap.size := ⟨_, rfl⟩
  obtain ⟨wb, hwb⟩ : ∃ wb, wb = w1.alloc (.cells #[.slice none 0 0] 78) := ⟨_, rfl⟩
  have hU1 := below_obj hb HU0.out
  have hB1 := HB0.out.trans (hb.mono HB0.out.size)
  have HW2 : Hid (RefAt w gr (sealObj n x d p A m C) [] wb) := Lib.hid (by
    rw [hwb, hgr]
    exact ⟨⟨_, Go.Deep.blk_alloc_new _ _, OwnL.nil _ _⟩, (Below.heap_alloc _ _ _ (heap_lt hU1)).trans hU1, hB1.alloc hB1.size _, heap_lt hU1⟩)
  have HWB := Lib.hid hwb
  have HGR := Lib.hid hgr
  clear hb a0 a1 a2 a3 a4 hU1 hB1 hwb hgr
  obtain ⟨a0, a1, a2, a3, a4⟩ := seal5 HW2.out.hd
  rw [HWB.out] at a0 a1 a2 a3 a4
  go_wp2_with fail
  rw [← HWB.out, ← HGR.out]
  obtain ⟨v2, hv2⟩ := HW2.out.rw_
  refine (vint_any gr gr v2 [] n wb hv2 HW2.out.base (by simp)).mono ?_
  intro e w3 hW
  have HW3 : Hid (RefAt w gr (sealObj n x d p A m C) _ w3) := Lib.hid (HW2.out.wrote (by decide) hW)
  obtain ⟨rfl, -, -⟩ := hW
  clear a0 a1 a2 a3 a4 hv2
  obtain ⟨a0, a1, a2, a3, a4⟩ := seal5 HW3.out.hd
  go_wp2_with fail
  obtain ⟨v3, hv3⟩ := HW3.out.rw_
  refine (vbyte_int gr gr v3 _ x w3 hv3 HW3.out.base (by simp [Cd.be4_len])).mono ?_
  intro e w4 hW
  have HW4 : Hid (RefAt w gr (sealObj n x d p A m C) _ w4) := Lib.hid (HW3.out.wrote (by decide) hW)
  obtain ⟨rfl, -, -⟩ := hW
  clear a0 a1 a2 a3 a4 hv3
  obtain ⟨a0, a1, a2, a3, a4⟩ := seal5 HW4.out.hd
  go_wp2_with fail
  obtain ⟨v4, hv4⟩ := HW4.out.rw_
  refine (vbyte_int gr gr v4 _ d w4 hv4 HW4.out.base (by simp [Cd.be4_len])).mono ?_
  intro e w5 hW
  have HW5 : Hid (RefAt w gr (sealObj n x d p A m C) _ w5) := Lib.hid (HW4.out.wrote (by decide) hW)
  obtain ⟨rfl, -, -⟩ := hW
  clear a0 a1 a2 a3 a4 hv4
  obtain ⟨a0, a1, a2, a3, a4⟩ := seal5 HW5.out.hd
  go_wp2_with fail
  obtain ⟨v5, hv5⟩ := HW5.out.rw_
  refine (vbyte_int gr gr v5 _ p w5 hv5 HW5.out.base (by simp [Cd.be4_len])).mono ?_
  intro e w6 hW
  have HW6 : Hid (RefAt w gr (sealObj n x d p A m C) _ w6) := Lib.hid (HW5.out.wrote (by decide) hW)
  obtain ⟨rfl, -, -⟩ := hW
  clear a0 a1 a2 a3 a4 hv5
  obtain ⟨a0, a1, a2, a3, a4⟩ := seal5 HW6.out.hd
  go_wp2
  have HT : Hid ((((([] ++ Cd.be4 n) ++ [Cd.b8 x]) ++ [Cd.b8 d]) ++ [Cd.b8 p]) = sealPart n x d p l 0) := Lib.hid (by unfold sealPart; simp only [List.nil_append, List.append_assoc, List.take_zero, Rc.labB, List.append_nil])
  have hstart := HW6.out
  rw [HT.out] at hstart
  have HS := Lib.hid hstart
  clear hstart a0 a1 a2 a3 a4
  go_loopw [4] (fun vi wr => ∃ k : Nat, k ≤ m ∧ vi = .int .i64 (k : Int) ∧ Hid (RefAt w gr (sealObj n x d p A m C) (sealPart n x d p l k) wr)) (fun vi _ => m - (intOf vi).toNat)
  case atStart => exact ⟨0, Nat.zero_le _, rfl, HS⟩
  case round =>
    obtain ⟨k, hk, rfl, HK⟩ := hrel
    obtain ⟨a0, a1, a2, a3, a4⟩ := seal5 HK.out.hd
    by_cases hlt : k < m
    · have hlt' : k < l.length := by rw [← HM.out]; exact hlt
      obtain ⟨b, off, rfl, -, hc⟩ := (HR.out.old HK.out.bel).at_ hlt'
      have HMO := Lib.hid (sealPart_more (n := n) (x := x) (d := d) (p := p) hlt')
      have HLE := Lib.hid (sealPart_len n x d p l k)
      obtain ⟨y, hy⟩ : ∃ y, y = l[k] := ⟨_, rfl⟩
      rw [← hy] at hc HMO
      clear hy
      have hle : (sealPart n x d p l k).length ≤ 999999990 := by have := HLE.out; omega
      have HLE2 := Lib.hid hle
      clear hle
      obtain ⟨v, hv⟩ := HK.out.rw_
      have hcall := vint_any gr gr v (sealPart n x d p l k) y wr hv HK.out.base HLE2.out
      have HCL := Lib.hid hcall
      clear hcall hv
      go_wp2_with fail
      refine HCL.out.mono ?_
      intro e ws hW
      have HN : Hid (RefAt w gr (sealObj n x d p (some ⟨b, off, none⟩) m C) (sealPart n x d p l (k + 1)) ws) := Lib.hid (by have := HK.out.wrote (by decide) hW; rwa [HMO.out] at this)
      obtain ⟨rfl, -, -⟩ := hW
      clear a0 a1 a2 a3 a4 hc
      go_wp2
      go_roundw
      case rel => exact ⟨k + 1, by omega, by go_num, HN⟩
      case measure => simp [intOf]; omega
    · have HE := Lib.hid (sealPart_all (n := n) (x := x) (d := d) (p := p) (l := l) (k := k) (by rw [← HM.out]; omega))
      have hK := HK.out
      rw [HE.out] at hK
      obtain ⟨A', C', c0, hans⟩ := hK.done rfl
      have HA := Lib.hid hans
      clear hans hK
      go_wp2
      go_ret
      rw [HP.out]
      exact HA.out
theorem refSealBytes_any (n x d p : Int) (A : Option Addr) (l : List Int) (m C : Nat) (G : Nat → Prop) (w : World) (hm : m = l.length) (hC : m ≤ C) (hCm : C ≤ maxLen) (hr : RdZ w A l G) :
    Calls Tryz.prog 28 #[.agg #[.int .i64 n, .int .i64 x, .int .i64 d, .int .i64 p, .slice A m C]] w (AnsT (Rc.sput ⟨n, x, d, p, l⟩) w) := by
  by_cases hok : Rc.SOk ⟨n, x, d, p, l⟩
  · exact refSealBytes_yes n x d p A l m C G w hm hC hCm hr hok
  · exact refSealBytes_no n x d p A l m C G w hm hC hCm hr hok
end Go.Proofs.YtbkmpoabdnickaaGreat
