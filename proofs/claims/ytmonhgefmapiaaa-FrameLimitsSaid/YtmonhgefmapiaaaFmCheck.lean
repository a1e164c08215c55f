/- What check of package frame answers, and what head and tail make. -/
import Derived.Test.YtmonhgefmapiaaaFmSum
import Derived.Test.YtmonhgefmapiaaaCdWrite
import Derived.Test.YtmonhgefmapiaaaCdNew
namespace Go.Proofs.Ytmonhgefmapiaaa
open Go.RowKit
open Pt (Tx)

/-- the unit in a block -/
def unitObj (k lb nb : Int) (A : Option Addr) (m C : Nat) : Obj := .cells #[.int .i64 k, .int .i64 lb, .int .i64 nb, .slice A m C] 24
def Checked (room er : Int) (w : World) (e : Ending) (w' : World) : Prop := e = .returned (.tuple #[.int .i64 room, .int .i64 er]) ∧ Below w.heap.size w w'
theorem check_kind (k lb nb : Int) (A : Option Addr) (m C : Nat) (w : World) (h : k < 1 ∨ 6 < k) :
    Calls Try.prog 14 #[.agg #[.int .i64 k, .int .i64 lb, .int .i64 nb, .slice A m C]] w (Checked 0 1 w) := by
  have q1 : (k == 1) = false := beq_eq_false_iff_ne.2 (by omega)
  have q2 : (k == 2) = false := beq_eq_false_iff_ne.2 (by omega)
  have q3 : (k == 3) = false := beq_eq_false_iff_ne.2 (by omega)
  have q4 : (k == 4) = false := beq_eq_false_iff_ne.2 (by omega)
  have q5 : (k == 5) = false := beq_eq_false_iff_ne.2 (by omega)
  have q6 : (k == 6) = false := beq_eq_false_iff_ne.2 (by omega)
  have HB : Hid (Below w.heap.size w (w.alloc (unitObj k lb nb A m C))) := Lib.hid ((Below.refl _ _).alloc (Nat.le_refl _) _)
  clear h
  go_enter Try.func14, Try.ntmps14
  go_wp2
  go_ret2
  exact ⟨rfl, HB.out⟩
set_option maxHeartbeats 4000000 in
theorem check_arg (k lb nb : Int) (A : Option Addr) (m C : Nat) (w : World) (h : 1 ≤ k ∧ k ≤ 6) (h' : lb < 1 ∨ 2147483647 < lb ∨ nb < 0 ∨ 2147483647 < nb) :
    Calls Try.prog 14 #[.agg #[.int .i64 k, .int .i64 lb, .int .i64 nb, .slice A m C]] w (Checked 0 1 w) := by
  have HB : Hid (Below w.heap.size w (w.alloc (unitObj k lb nb A m C))) := Lib.hid ((Below.refl _ _).alloc (Nat.le_refl _) _)
  have hk : k = 1 ∨ k = 2 ∨ k = 3 ∨ k = 4 ∨ k = 5 ∨ k = 6 := by omega
  clear h
  have hq : (decide (lb < 1) = true) ∨ (decide (lb < 1) = false ∧ decide (2147483647 < lb) = true) ∨ (decide (lb < 1) = false ∧ decide (2147483647 < lb) = false ∧ decide (nb < 0) = true) ∨ (decide (lb < 1) = false ∧ decide (2147483647 < lb) = false ∧ decide (nb < 0) = false ∧ decide (2147483647 < nb) = true) := by
    simp only [decide_eq_true_eq, decide_eq_false_iff_not]; omega
  clear h'
  rcases hk with rfl | rfl | rfl | rfl | rfl | rfl <;> rcases hq with q1 | ⟨q1, q2⟩ | ⟨q1, q2, q3⟩ | ⟨q1, q2, q3, q4⟩
  all_goals
    go_enter Try.func14, Try.ntmps14
    go_wp2
    go_ret2
    exact ⟨rfl, HB.out⟩
theorem check_long (k lb nb : Int) (A : Option Addr) (m C : Nat) (w : World) (h : 1 ≤ k ∧ k ≤ 6) (h' : 1 ≤ lb ∧ lb ≤ 2147483647 ∧ 0 ≤ nb ∧ nb ≤ 2147483647) (hm : Fm.room k < m) :
    Calls Try.prog 14 #[.agg #[.int .i64 k, .int .i64 lb, .int .i64 nb, .slice A m C]] w (Checked 0 4 w) := by
  have HB : Hid (Below w.heap.size w (w.alloc (unitObj k lb nb A m C))) := Lib.hid ((Below.refl _ _).alloc (Nat.le_refl _) _)
  have q1 : decide (lb < 1) = false := decide_eq_false (by omega)
  have q2 : decide (2147483647 < lb) = false := decide_eq_false (by omega)
  have q3 : decide (nb < 0) = false := decide_eq_false (by omega)
  have q4 : decide (2147483647 < nb) = false := decide_eq_false (by omega)
  have hk : k = 1 ∨ k = 2 ∨ k = 3 ∨ k = 4 ∨ k = 5 ∨ k = 6 := by omega
  clear h h'
  rcases hk with rfl | rfl | rfl | rfl | rfl | rfl
  all_goals
    simp only [Fm.room, reduceIte, Int.reduceEq] at hm
    go_enter Try.func14, Try.ntmps14
    go_wp2
    go_ret2
    exact ⟨rfl, HB.out⟩
theorem check_ok (k lb nb : Int) (A : Option Addr) (m C : Nat) (w : World) (h : 1 ≤ k ∧ k ≤ 6) (h' : 1 ≤ lb ∧ lb ≤ 2147483647 ∧ 0 ≤ nb ∧ nb ≤ 2147483647) (hm : m ≤ Fm.room k) :
    Calls Try.prog 14 #[.agg #[.int .i64 k, .int .i64 lb, .int .i64 nb, .slice A m C]] w (Checked (Fm.room k) 0 w) := by
  have HB : Hid (Below w.heap.size w (w.alloc (unitObj k lb nb A m C))) := Lib.hid ((Below.refl _ _).alloc (Nat.le_refl _) _)
  have q1 : decide (lb < 1) = false := decide_eq_false (by omega)
  have q2 : decide (2147483647 < lb) = false := decide_eq_false (by omega)
  have q3 : decide (nb < 0) = false := decide_eq_false (by omega)
  have q4 : decide (2147483647 < nb) = false := decide_eq_false (by omega)
  have hk : k = 1 ∨ k = 2 ∨ k = 3 ∨ k = 4 ∨ k = 5 ∨ k = 6 := by omega
  clear h h'
  rcases hk with rfl | rfl | rfl | rfl | rfl | rfl
  all_goals
    simp only [Fm.room, reduceIte, Int.reduceEq] at hm ⊢
    go_enter Try.func14, Try.ntmps14
    go_wp2
    go_ret2
    exact ⟨rfl, HB.out⟩
/-- bytes in new memory -/
def NewS (l : Tx) (w : World) (e : Ending) (w' : World) : Prop := ∃ b n, e = .returned (.slice (some ⟨b, 0, none⟩) n n) ∧ n = l.length ∧ w.heap.size ≤ b ∧ w'.heap[b]? = some (.cells (cellsL l).toArray 5 (0, 0)) ∧ Below w.heap.size w w'
theorem wbyte_int (g : Nat) (l : Tx) (n : Int) (w : World) (h : Wr w g l) (hl : l.length ≤ 999999990) :
    Calls Try.prog 28 #[.pointer (some ⟨g, 0, none⟩), .int .u8 (n % 256)] w (Wrote g (l ++ [Cd.b8 n]) w) := by
  rw [← Cd.b8_nat]; exact wbyte_any g l (Cd.b8 n) w h hl
theorem unit4 {w : World} {g : Nat} {k lb nb : Int} {A : Option Addr} {m C : Nat} (h : w.heap[g]? = some (unitObj k lb nb A m C)) :
    w.cell? ⟨g, 0, none⟩ = some (.int .i64 k) ∧ w.cell? ⟨g, 1, none⟩ = some (.int .i64 lb) ∧ w.cell? ⟨g, 2, none⟩ = some (.int .i64 nb) ∧ w.cell? ⟨g, 3, none⟩ = some (.slice A m C) :=
  ⟨heap_cell h, heap_cell h, heap_cell h, heap_cell h⟩
set_option maxHeartbeats 1000000 in
theorem head_any (k lb nb : Int) (A : Option Addr) (s : Tx) (m C : Nat) (w : World) (hm : m = s.length) :
    Calls Try.prog 15 #[.agg #[.int .i64 k, .int .i64 lb, .int .i64 nb, .slice A m C]] w (NewS (Fm.head ⟨k, lb, nb, s⟩) w) := by
  have HM := Lib.hid hm
  clear hm
  obtain ⟨wb, hwb⟩ : ∃ wb, wb = (w.alloc (unitObj k lb nb A m C)).alloc (.cells #[.pointer none, .int .i64 0] 63) := ⟨_, rfl⟩
  have HB0 : Hid (Below w.heap.size w wb) := Lib.hid (by rw [hwb]; exact ((Below.refl _ _).alloc (Nat.le_refl _) _).alloc (by simp) _)
  have H0 : Hid (Wr wb (w.heap.size + 1) []) := Lib.hid (by
    have := Wr.new (w.alloc (unitObj k lb nb A m C))
    rw [hwb]; simpa using this)
  have HU0 : Hid (wb.heap[w.heap.size]? = some (unitObj k lb nb A m C)) := Lib.hid (by
    rw [hwb, Below.heap_alloc _ _ _ (by simp)]; exact Go.Deep.blk_alloc_new _ _)
  obtain ⟨a0, a1, a2, a3⟩ := unit4 HU0.out
  have HW := Lib.hid hwb
  rw [hwb] at a0 a1 a2 a3
  clear hwb
  unfold unitObj at a0 a1 a2 a3 HW
  have hle : ∀ (g : Nat) (x y : World), Kp (· = g) x y → g = w.heap.size + 1 → x.heap[w.heap.size]? = some (unitObj k lb nb A m C) → y.heap[w.heap.size]? = some (unitObj k lb nb A m C) := fun g x y hk hg hx => by
    subst hg
    exact (hk.block _ (heap_lt hx) (by omega)).trans hx
  have HLE := Lib.hid hle
  clear hle
  go_enter Try.func15, Try.ntmps15
  go_wp2_with fail
  rw [← HW.out]
  refine (wbyte_int _ [] k wb H0.out (by simp)).mono ?_
  rintro e w1 ⟨rfl, hW1, hK1⟩
  have HW1 := Lib.hid hW1
  have HU1 := Lib.hid (HLE.out _ _ _ hK1 rfl HU0.out)
  have HB1 := Lib.hid (HB0.out.trans (lo_g hK1 HB0.out.size (Nat.le_succ _)))
  obtain ⟨b0, b1, b2, b3⟩ := unit4 HU1.out
  clear hW1 hK1 a0 a1 a2 a3
  go_wp2_with fail
  refine (wint_any _ _ lb w1 HW1.out (by simp)).mono ?_
  rintro e w2 ⟨rfl, hW2, hK2⟩
  have HW2 := Lib.hid hW2
  have HU2 := Lib.hid (HLE.out _ _ _ hK2 rfl HU1.out)
  have HB2 := Lib.hid (HB1.out.trans (lo_g hK2 HB1.out.size (Nat.le_succ _)))
  obtain ⟨c0, c1, c2, c3⟩ := unit4 HU2.out
  clear hW2 hK2 b0 b1 b2 b3
  go_wp2_with fail
  refine (wint_any _ _ nb w2 HW2.out (by simp [Cd.be4_len])).mono ?_
  rintro e w3 ⟨rfl, hW3, hK3⟩
  have HW3 := Lib.hid hW3
  have HU3 := Lib.hid (HLE.out _ _ _ hK3 rfl HU2.out)
  have HB3 := Lib.hid (HB2.out.trans (lo_g hK3 HB2.out.size (Nat.le_succ _)))
  obtain ⟨d0, d1, d2, d3⟩ := unit4 HU3.out
  clear hW3 hK3 c0 c1 c2 c3
  go_wp2_with fail
  refine (wbyte_int _ _ ((m : Int) / 256) w3 HW3.out (by simp [Cd.be4_len])).mono ?_
  rintro e w4 ⟨rfl, hW4, hK4⟩
  have HW4 := Lib.hid hW4
  have HU4 := Lib.hid (HLE.out _ _ _ hK4 rfl HU3.out)
  have HB4 := Lib.hid (HB3.out.trans (lo_g hK4 HB3.out.size (Nat.le_succ _)))
  obtain ⟨e0, e1, e2, e3⟩ := unit4 HU4.out
  clear hW4 hK4 d0 d1 d2 d3
  go_wp2_with fail
  refine (wbyte_int _ _ (m : Int) w4 HW4.out (by simp [Cd.be4_len])).mono ?_
  rintro e w5 ⟨rfl, hW5, hK5⟩
  have HW5 := Lib.hid hW5
  have HB5 := Lib.hid (HB4.out.trans (lo_g hK5 HB4.out.size (Nat.le_succ _)))
  clear hW5 hK5 e0 e1 e2 e3
  go_wp2_with fail
  refine (bytes_own _ _ w5 HW5.out (by simp [Cd.be4_len])).mono ?_
  rintro e w6 ⟨b, rfl, hb, hr6, hB6⟩
  have HR6 := Lib.hid hr6
  have HB6 := Lib.hid (HB5.out.trans (hB6.mono HB5.out.size))
  have HLO := Lib.hid (Nat.le_trans HB5.out.size hb)
  clear hr6 hB6 hb
  go_wp2
  go_ret
  have hh : Fm.head ⟨k, lb, nb, s⟩ = ((((([] ++ [Cd.b8 k]) ++ Cd.be4 lb) ++ Cd.be4 nb) ++ [Cd.b8 ((m : Int) / 256)]) ++ [Cd.b8 (m : Int)]) := by rw [HM.out]; rfl
  rw [hh]
  exact ⟨b, _, rfl, rfl, HLO.out, HR6.out, HB6.out⟩
set_option maxHeartbeats 1000000 in
theorem tail_any (A : Option Addr) (l : Tx) (n C : Nat) (G : Nat → Prop) (w : World) (hm : n = l.length) (hn : l.length ≤ 1000000) (hr : RdL w A l G) :
    Calls Try.prog 16 #[.slice A n C] w (NewS (Cd.be4 (sumL l)) w) := by
  have HB0 : Hid (Below w.heap.size w (w.alloc (.cells #[.pointer none, .int .i64 0] 63))) := Lib.hid ((Below.refl _ _).alloc (Nat.le_refl _) _)
  have H0 := Lib.hid (Wr.new w)
  have HR := Lib.hid (hr.old HB0.out)
  have HM := Lib.hid hm
  clear hm hr
  have s0 := sumL_lo l
  have s1 := sumL_hi l
  go_enter Try.func16, Try.ntmps16
  go_wp2_with fail
  refine (sumL_any A l n C G _ HM.out (by unfold maxLen; omega) HR.out).mono ?_
  rintro e _ ⟨rfl, rfl⟩
  go_wp2_with fail
  refine (wint_any _ _ (sumL l) _ H0.out (by simp)).mono ?_
  rintro e w2 ⟨rfl, hW2, hK2⟩
  have HW2 := Lib.hid hW2
  have HB2 := Lib.hid (HB0.out.trans (lo_g hK2 HB0.out.size (Nat.le_refl _)))
  clear hW2 hK2
  go_wp2_with fail
  refine (bytes_own _ _ w2 HW2.out (by simp [Cd.be4_len])).mono ?_
  rintro e w3 ⟨b, rfl, hb, hr3, hB3⟩
  have HR3 := Lib.hid hr3
  have HB3 := Lib.hid (HB2.out.trans (hB3.mono HB2.out.size))
  have HLO := Lib.hid (Nat.le_trans HB2.out.size hb)
  clear hr3 hB3 hb
  go_wp2
  go_ret
  exact ⟨b, _, rfl, rfl, HLO.out, HR3.out, HB3.out⟩
end Go.Proofs.Ytmonhgefmapiaaa
