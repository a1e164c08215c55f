/- A new Writer, and what a call on one block leaves of the rest. A byte of a number, written; bytes in new memory, their block known. What check of package frame answers, and what head and tail make. What Put of package frame answers. What a Reader of package code reads. -/
import Derived.Test.YtndofmoepjfnfaaGreatMan
import Derived.Test.YtndofmoepjfnfaaGreatMaj
import Derived.Lib.SmallJoins
import Derived.Deep.RegionHeld3
import Derived.Deep.DeepFit
import Derived.Test.YtndofmoepjfnfaaGreatChecked
import Derived.OwnWalk
import Derived.Handy
import Derived.WalkSpells
import Derived.WalkLawsBesides
import Derived.StillTailTactics
import Derived.Laws.BitsAllLaws
import Derived.Lib.SliceRun
namespace Go.Proofs.YtndofmoepjfnfaaGreat
open Go.RowKit
open Pt (Tx)


theorem Wr.new (w : World) : Wr (w.alloc (.cells #[.pointer none, .int .i64 0] 159)) w.heap.size [] := ⟨none, [], Go.Deep.blk_alloc_new _ _, rfl, rfl⟩
theorem lo_g {a b : World} {g : Nat} (hk : Kp (· = g) a b) {B : Nat} (hB : B ≤ a.heap.size) (hg : B ≤ g) : Below B a b := hk.below hB (fun k h => by subst h; exact hg)
end Go.Proofs.YtndofmoepjfnfaaGreat
namespace Go.Proofs.YtndofmoepjfnfaaGreat
open Go.RowKit
open Pt (Tx)

/-- bytes in new memory -/
def NewS (l : Tx) (w : World) (e : Ending) (w' : World) : Prop := ∃ b n, e = .returned (.slice (some ⟨b, 0, none⟩) n n) ∧ n = l.length ∧ w.heap.size ≤ b ∧ w'.heap[b]? = some (.cells (cellsL l).toArray 5 (0, 0)) ∧ Below w.heap.size w w'
theorem wbyte_int (g : Nat) (l : Tx) (n : Int) (w : World) (h : Wr w g l) (hl : l.length ≤ 999999990) :
    Calls Tryz.prog 89 #[.pointer (some ⟨g, 0, none⟩), .int .u8 (n % 256)] w (Wrote g (l ++ [Cd.b8 n]) w) := by
  rw [← Cd.b8_nat]; exact wbyte_any g l (Cd.b8 n) w h hl
end Go.Proofs.YtndofmoepjfnfaaGreat
namespace Go.Proofs.YtndofmoepjfnfaaGreat
open Go.RowKit
open Pt (Tx)

/-- the unit in a block -/
def unitObj (k lb nb : Int) (A : Option Addr) (m C : Nat) : Obj := .cells #[.int .i64 k, .int .i64 lb, .int .i64 nb, .slice A m C] 48
def Checked (room er : Int) (w : World) (e : Ending) (w' : World) : Prop := e = .returned (.tuple #[.int .i64 room, .int .i64 er]) ∧ Below w.heap.size w w'
theorem check_kind (k lb nb : Int) (A : Option Addr) (m C : Nat) (w : World) (h : k < 1 ∨ 6 < k) :
    Calls Tryz.prog 95 #[.agg #[.int .i64 k, .int .i64 lb, .int .i64 nb, .slice A m C]] w (Checked 0 1 w) := by
  have q1 : (k == 1) = false := beq_eq_false_iff_ne.2 (by omega)
  have q2 : (k == 2) = false := beq_eq_false_iff_ne.2 (by omega)
  have q3 : (k == 3) = false := beq_eq_false_iff_ne.2 (by omega)
  have q4 : (k == 4) = false := beq_eq_false_iff_ne.2 (by omega)
  have q5 : (k == 5) = false := beq_eq_false_iff_ne.2 (by omega)
  have q6 : (k == 6) = false := beq_eq_false_iff_ne.2 (by omega)
  have HB : Hid (Below w.heap.size w (w.alloc (unitObj k lb nb A m C))) := Lib.hid ((Below.refl _ _).alloc (Nat.le_refl _) _)
  clear h
  go_enter Tryz.func95, Tryz.ntmps95
  go_wp2
  go_ret2
  exact ⟨rfl, HB.out⟩
set_option maxHeartbeats 4000000 in
theorem check_arg (k lb nb : Int) (A : Option Addr) (m C : Nat) (w : World) (h : 1 ≤ k ∧ k ≤ 6) (h' : lb < 1 ∨ 2147483647 < lb ∨ nb < 0 ∨ 2147483647 < nb) :
    Calls Tryz.prog 95 #[.agg #[.int .i64 k, .int .i64 lb, .int .i64 nb, .slice A m C]] w (Checked 0 1 w) := by
  have HB : Hid (Below w.heap.size w (w.alloc (unitObj k lb nb A m C))) := Lib.hid ((Below.refl _ _).alloc (Nat.le_refl _) _)
  have hk : k = 1 ∨ k = 2 ∨ k = 3 ∨ k = 4 ∨ k = 5 ∨ k = 6 := by omega
  clear h
  have hq : (decide (lb < 1) = true) ∨ (decide (lb < 1) = false ∧ decide (2147483647 < lb) = true) ∨ (decide (lb < 1) = false ∧ decide (2147483647 < lb) = false ∧ decide (nb < 0) = true) ∨ (decide (lb < 1) = false ∧ decide (2147483647 < lb) = false ∧ decide (nb < 0) = false ∧ decide (2147483647 < nb) = true) := by
    simp only [decide_eq_true_eq, decide_eq_false_iff_not]; omega
  clear h'
  rcases hk with rfl | rfl | rfl | rfl | rfl | rfl <;> rcases hq with q1 | ⟨q1, q2⟩ | ⟨q1, q2, q3⟩ | ⟨q1, q2, q3, q4⟩
  all_goals
    go_enter Tryz.func95, Tryz.ntmps95
    go_wp2
    go_ret2
    exact ⟨rfl, HB.out⟩
theorem check_long (k lb nb : Int) (A : Option Addr) (m C : Nat) (w : World) (h : 1 ≤ k ∧ k ≤ 6) (h' : 1 ≤ lb ∧ lb ≤ 2147483647 ∧ 0 ≤ nb ∧ nb ≤ 2147483647) (hm : Fm.room k < m) :
    Calls Tryz.prog 95 #[.agg #[.int .i64 k, .int .i64 lb, .int .i64 nb, .slice A m C]] w (Checked 0 4 w) := by
  have HB : Hid (Below w.heap.size w (w.alloc (unitObj k lb nb A m C))) := Lib.hid ((Below.refl _ _).alloc (Nat.le_refl _) _)
  have q1 : decide (lb < 1) = false := decide_eq_false (by omega)
  have q2 : decide (2147483647 < lb) = false := decide_eq_false (by omega)
  have q3 : decide (nb < 0) = false := decide_eq_false (by omega)
  have q4 : decide (2147483647 < nb) = false := decide_eq_false (by omega)
  have hk : k = 1 ∨ k = 2 ∨ k = 3 ∨ k = 4 ∨ k = 5 ∨ k = 6 := by omega
  clear h h'
  rcases hk with rfl | rfl | rfl | rfl | rfl | rfl
  all_goals
    simp only [Fm.room, reduceIte, Int.reduceEq] at hm
    go_enter Tryz.func95, Tryz.ntmps95
    go_wp2
    go_ret2
    exact ⟨rfl, HB.out⟩
theorem check_ok (k lb nb : Int) (A : Option Addr) (m C : Nat) (w : World) (h : 1 ≤ k ∧ k ≤ 6) (h' : 1 ≤ lb ∧ lb ≤ 2147483647 ∧ 0 ≤ nb ∧ nb ≤ 2147483647) (hm : m ≤ Fm.room k) :
    Calls Tryz.prog 95 #[.agg #[.int .i64 k, .int .i64 lb, .int .i64 nb, .slice A m C]] w (Checked (Fm.room k) 0 w) := by
  have HB : Hid (Below w.heap.size w (w.alloc (unitObj k lb nb A m C))) := Lib.hid ((Below.refl _ _).alloc (Nat.le_refl _) _)
  have q1 : decide (lb < 1) = false := decide_eq_false (by omega)
  have q2 : decide (2147483647 < lb) = false := decide_eq_false (by omega)
  have q3 : decide (nb < 0) = false := decide_eq_false (by omega)
  have q4 : decide (2147483647 < nb) = false := decide_eq_false (by omega)
  have hk : k = 1 ∨ k = 2 ∨ k = 3 ∨ k = 4 ∨ k = 5 ∨ k = 6 := by omega
  clear h h'
  rcases hk with rfl | rfl | rfl | rfl | rfl | rfl
  all_goals
    simp only [Fm.room, reduceIte, Int.reduceEq] at hm ⊢
    go_enter Tryz.func95, Tryz.ntmps95
    go_wp2
    go_ret2
    exact ⟨rfl, HB.out⟩
theorem unit4 {w : World} {g : Nat} {k lb nb : Int} {A : Option Addr} {m C : Nat} (h : w.heap[g]? = some (unitObj k lb nb A m C)) :
    w.cell? ⟨g, 0, none⟩ = some (.int .i64 k) ∧ w.cell? ⟨g, 1, none⟩ = some (.int .i64 lb) ∧ w.cell? ⟨g, 2, none⟩ = some (.int .i64 nb) ∧ w.cell? ⟨g, 3, none⟩ = some (.slice A m C) :=
  ⟨heap_cell h, heap_cell h, heap_cell h, heap_cell h⟩
set_option maxHeartbeats 1000000 in
theorem head_any (k lb nb : Int) (A : Option Addr) (s : Tx) (m C : Nat) (w : World) (hm : m = s.length) :
    Calls Tryz.prog 96 #[.agg #[.int .i64 k, .int .i64 lb, .int .i64 nb, .slice A m C]] w (NewS (Fm.head ⟨k, lb, nb, s⟩) w) := by
  have HM := Lib.hid hm
  clear hm
  obtain ⟨wb, hwb⟩ : ∃ wb, wb = (w.alloc (unitObj k lb nb A m C)).alloc (.cells #[.pointer none, .int .i64 0] 159) := ⟨_, rfl⟩
  have HB0 : Hid (Below w.heap.size w wb) := Lib.hid (by rw [hwb]; exact ((Below.refl _ _).alloc (Nat.le_refl _) _).alloc (by simp) _)
  have H0 : Hid (Wr wb (w.heap.size + 1) []) := Lib.hid (by
    have := Wr.new (w.alloc (unitObj k lb nb A m C))
    rw [hwb]; simpa using this)
  have HU0 : Hid (wb.heap[w.heap.size]? = some (unitObj k lb nb A m C)) := Lib.hid (by
    rw [hwb, Below.heap_alloc _ _ _ (by simp)]; exact Go.Deep.blk_alloc_new _ _)
  obtain ⟨a0, a1, a2, a3⟩ := unit4 HU0.out
  have HW := Lib.hid hwb
  rw [hwb] at a0 a1 a2 a3
  clear hwb
  unfold unitObj at a0 a1 a2 a3 HW
  have hle : ∀ (g : Nat) (x y : World), Kp (· = g) x y → g = w.heap.size + 1 → x.heap[w.heap.size]? = some (unitObj k lb nb A m C) → y.heap[w.heap.size]? = some (unitObj k lb nb A m C) := fun g x y hk hg hx => by
    subst hg
    exact (hk.block _ (heap_lt hx) (by omega)).trans hx
  have HLE := Lib.hid hle
  clear hle
  go_enter Tryz.func96, Tryz.ntmps96
  go_wp2_with fail
  rw [← HW.out]
  refine (wbyte_int _ [] k wb H0.out (by simp)).mono ?_
  rintro e w1 ⟨rfl, hW1, hK1⟩
  have HW1 := Lib.hid hW1
  have HU1 := Lib.hid (HLE.out _ _ _ hK1 rfl HU0.out)
  have HB1 := Lib.hid (HB0.out.trans (lo_g hK1 HB0.out.size (Nat.le_succ _)))
  obtain ⟨b0, b1, b2, b3⟩ := unit4 HU1.out
  clear hW1 hK1 a0 a1 a2 a3
  go_wp2_with fail
  refine (wint_any _ _ lb w1 HW1.out (by simp)).mono ?_
  rintro e w2 ⟨rfl, hW2, hK2⟩
  have HW2 := Lib.hid hW2
  have HU2 := Lib.hid (HLE.out _ _ _ hK2 rfl HU1.out)
  have HB2 := Lib.hid (HB1.out.trans (lo_g hK2 HB1.out.size (Nat.le_succ _)))
  obtain ⟨c0, c1, c2, c3⟩ := unit4 HU2.out
  clear hW2 hK2 b0 b1 b2 b3
  go_wp2_with fail
  refine (wint_any _ _ nb w2 HW2.out (by simp [Cd.be4_len])).mono ?_
  rintro e w3 ⟨rfl, hW3, hK3⟩
  have HW3 := Lib.hid hW3
  have HU3 := Lib.hid (HLE.out _ _ _ hK3 rfl HU2.out)
  have HB3 := Lib.hid (HB2.out.trans (lo_g hK3 HB2.out.size (Nat.le_succ _)))
  obtain ⟨d0, d1, d2, d3⟩ := unit4 HU3.out
  clear hW3 hK3 c0 c1 c2 c3
  go_wp2_with fail
  refine (wbyte_int _ _ ((m : Int) / 256) w3 HW3.out (by simp [Cd.be4_len])).mono ?_
  rintro e w4 ⟨rfl, hW4, hK4⟩
  have HW4 := Lib.hid hW4
  have HU4 := Lib.hid (HLE.out _ _ _ hK4 rfl HU3.out)
  have HB4 := Lib.hid (HB3.out.trans (lo_g hK4 HB3.out.size (Nat.le_succ _)))
  obtain ⟨e0, e1, e2, e3⟩ := unit4 HU4.out
  clear hW4 hK4 d0 d1 d2 d3
  go_wp2_with fail
  refine (wbyte_int _ _ (m : Int) w4 HW4.out (by simp [Cd.be4_len])).mono ?_
  rintro e w5 ⟨rfl, hW5, hK5⟩
  have HW5 := Lib.hid hW5
  have HB5 := Lib.hid (HB4.out.trans (lo_g hK5 HB4.out.size (Nat.le_succ _)))
  clear hW5 hK5 e0 e1 e2 e3
  go_wp2_with fail
  refine (bytes_own _ _ w5 HW5.out (by simp [Cd.be4_len])).mono ?_
  rintro e w6 ⟨b, rfl, hb, hr6, hB6⟩
  have HR6 := Lib.hid hr6
  have HB6 := Lib.hid (HB5.out.trans (hB6.mono HB5.out.size))
  have HLO := Lib.hid (Nat.le_trans HB5.out.size hb)
  clear hr6 hB6 hb
  go_wp2
  go_ret
  have hh : Fm.head ⟨k, lb, nb, s⟩ = ((((([] ++ [Cd.b8 k]) ++ Cd.be4 lb) ++ Cd.be4 nb) ++ [Cd.b8 ((m : Int) / 256)]) ++ [Cd.b8 (m : Int)]) := by rw [HM.out]; rfl
  rw [hh]
  exact ⟨b, _, rfl, rfl, HLO.out, HR6.out, HB6.out⟩
set_option maxHeartbeats 1000000 in
theorem tail_any (A : Option Addr) (l : Tx) (n C : Nat) (G : Nat → Prop) (w : World) (hm : n = l.length) (hn : l.length ≤ 1000000) (hr : RdL w A l G) :
    Calls Tryz.prog 97 #[.slice A n C] w (NewS (Cd.be4 (sumL l)) w) := by
  have HB0 : Hid (Below w.heap.size w (w.alloc (.cells #[.pointer none, .int .i64 0] 159))) := Lib.hid ((Below.refl _ _).alloc (Nat.le_refl _) _)
  have H0 := Lib.hid (Wr.new w)
  have HR := Lib.hid (hr.old HB0.out)
  have HM := Lib.hid hm
  clear hm hr
  have s0 := sumL_lo l
  have s1 := sumL_hi l
  go_enter Tryz.func97, Tryz.ntmps97
  go_wp2_with fail
  refine (sumL_any A l n C G _ HM.out (by unfold maxLen; omega) HR.out).mono ?_
  rintro e _ ⟨rfl, rfl⟩
  go_wp2_with fail
  refine (wint_any _ _ (sumL l) _ H0.out (by simp)).mono ?_
  rintro e w2 ⟨rfl, hW2, hK2⟩
  have HW2 := Lib.hid hW2
  have HB2 := Lib.hid (HB0.out.trans (lo_g hK2 HB0.out.size (Nat.le_refl _)))
  clear hW2 hK2
  go_wp2_with fail
  refine (bytes_own _ _ w2 HW2.out (by simp [Cd.be4_len])).mono ?_
  rintro e w3 ⟨b, rfl, hb, hr3, hB3⟩
  have HR3 := Lib.hid hr3
  have HB3 := Lib.hid (HB2.out.trans (hB3.mono HB2.out.size))
  have HLO := Lib.hid (Nat.le_trans HB2.out.size hb)
  clear hr3 hB3 hb
  go_wp2
  go_ret
  exact ⟨b, _, rfl, rfl, HLO.out, HR3.out, HB3.out⟩
end Go.Proofs.YtndofmoepjfnfaaGreat
namespace Go.Proofs.YtndofmoepjfnfaaGreat
open Go.RowKit
open Pt (Tx)

/-- what Put answers: the block and the error -/
def PutU (u : Fm.U) (w : World) (e : Ending) (w' : World) : Prop :=
  ∃ A n C, e = .returned (.tuple #[.slice A n C, .int .i64 (Fm.err u)]) ∧ n = (Fm.put u).length ∧ n ≤ C ∧ C ≤ maxLen ∧ (A = none → n = 0 ∧ C = 0) ∧ RdL w' A (Fm.put u) (w.heap.size ≤ ·) ∧ Below w.heap.size w w'
set_option maxRecDepth 100000 in
theorem below_unit {k lb nb : Int} {A : Option Addr} {m C : Nat} {B : Nat} {x y : World} (hb : Below x.heap.size x y) (h : x.heap[B]? = some (unitObj k lb nb A m C)) : y.heap[B]? = some (unitObj k lb nb A m C) :=
  (hb.block B (heap_lt h)).trans h
set_option maxRecDepth 100000 in
theorem put_bad (k lb nb : Int) (A : Option Addr) (s : Tx) (m C : Nat) (w : World) (er : Int) (h0 : er = 1 ∨ er = 4) (he : Fm.err ⟨k, lb, nb, s⟩ = er)
    (hc : ∀ w, Calls Tryz.prog 95 #[.agg #[.int .i64 k, .int .i64 lb, .int .i64 nb, .slice A m C]] w (Checked 0 er w)) :
    Calls Tryz.prog 83 #[.agg #[.int .i64 k, .int .i64 lb, .int .i64 nb, .slice A m C]] w (PutU ⟨k, lb, nb, s⟩ w) := by
  have HB : Hid (Below w.heap.size w (w.alloc (unitObj k lb nb A m C))) := Lib.hid ((Below.refl _ _).alloc (Nat.le_refl _) _)
  obtain ⟨a0, a1, a2, a3⟩ := unit4 (Go.Deep.blk_alloc_new w (unitObj k lb nb A m C))
  unfold unitObj at a0 a1 a2 a3
  have HE := Lib.hid he
  have hp : Fm.put ⟨k, lb, nb, s⟩ = [] := Fm.put_no (fun h => by rw [Fm.err_ok h] at he; omega)
  have HP := Lib.hid hp
  have HC := Lib.hid hc
  clear he hp hc
  rcases h0 with rfl | rfl
  all_goals
    go_enter Tryz.func83, Tryz.ntmps83
    go_wp2_with fail
    refine (HC.out _).mono ?_
    rintro e w1 ⟨rfl, hb⟩
    have HB1 := Lib.hid (HB.out.trans (hb.mono HB.out.size))
    clear hb a0 a1 a2 a3
    go_wp2
    go_ret2
    refine ⟨none, 0, 0, by rw [HE.out]; rfl, by rw [HP.out]; rfl, Nat.le_refl _, by decide, fun _ => ⟨rfl, rfl⟩, by rw [HP.out]; exact RdL.empty _ _ _, HB1.out⟩
set_option maxRecDepth 100000 in
set_option maxHeartbeats 2000000 in
theorem put_own (k lb nb : Int) (A : Option Addr) (s : Tx) (m C : Nat) (G : Nat → Prop) (w : World) (hm : m = s.length) (hA : A = none → m = 0 ∧ C = 0) (hr : RdL w A s G) (hok : Fm.Ok ⟨k, lb, nb, s⟩) :
    Calls Tryz.prog 83 #[.agg #[.int .i64 k, .int .i64 lb, .int .i64 nb, .slice A m C]] w (fun e w' => ∃ A n C, e = .returned (.tuple #[.slice A n C, .int .i64 0]) ∧ OwnL w' w.heap.size (.slice A n C) (Fm.blk ⟨k, lb, nb, s⟩) ∧ n = (Fm.blk ⟨k, lb, nb, s⟩).length ∧ Below w.heap.size w w') := by
  obtain ⟨a0, a1, a2, a3⟩ := unit4 (Go.Deep.blk_alloc_new w (unitObj k lb nb A m C))
  have HB : Hid (Below w.heap.size w (w.alloc (unitObj k lb nb A m C))) := Lib.hid ((Below.refl _ _).alloc (Nat.le_refl _) _)
  have HU : Hid ((w.alloc (unitObj k lb nb A m C)).heap[w.heap.size]? = some (unitObj k lb nb A m C)) := Lib.hid (Go.Deep.blk_alloc_new _ _)
  have HK := Lib.hid hok
  have hroom : m ≤ Fm.room k := by rw [hm]; exact hok.2
  have hr79 := Fm.room_le k
  obtain ⟨R, hR⟩ : ∃ R, R = Fm.room k := ⟨_, rfl⟩
  have hchk := fun w => check_ok k lb nb A m C w ⟨hok.1.1, hok.1.2.1⟩ ⟨hok.1.2.2.1, hok.1.2.2.2.1, hok.1.2.2.2.2.1, hok.1.2.2.2.2.2⟩ hroom
  rw [← hR] at hchk hroom hr79
  have HC := Lib.hid hchk
  have HR := Lib.hid hr
  have HM := Lib.hid hm
  have HA := Lib.hid hA
  have HRM := Lib.hid hR
  have hsub : (R : Int) - (m : Int) = ((R - m : Nat) : Int) := by omega
  clear hok hm hA hr hR hchk
  unfold unitObj at a0 a1 a2 a3
  go_enter Tryz.func83, Tryz.ntmps83
  go_wp2_with fail
  refine (HC.out _).mono ?_
  rintro e w1 ⟨rfl, hb⟩
  have HB1 := Lib.hid (HB.out.trans (hb.mono HB.out.size))
  have HU1 := Lib.hid (below_unit hb HU.out)
  clear hb a0 a1 a2 a3 HU HB HC
  obtain ⟨a0, a1, a2, a3⟩ := unit4 HU1.out
  have hlt : w.heap.size < w1.heap.size := heap_lt HU1.out
  have hbel : Below w1.heap.size w1 w1.drew := (Below.refl _ _).drew
  have d0 : w1.drew.cell? ⟨w.heap.size, 0, none⟩ = some (.int .i64 k) := a0
  have d1 : w1.drew.cell? ⟨w.heap.size, 1, none⟩ = some (.int .i64 lb) := a1
  have d2 : w1.drew.cell? ⟨w.heap.size, 2, none⟩ = some (.int .i64 nb) := a2
  have d3 : w1.drew.cell? ⟨w.heap.size, 3, none⟩ = some (.slice A m C) := a3
  go_wp2_with fail
  go_region_held3 (fun w' => w'.cell? ⟨w.heap.size, 0, none⟩ = some (.int .i64 k) ∧ w'.cell? ⟨w.heap.size, 1, none⟩ = some (.int .i64 lb) ∧ w'.cell? ⟨w.heap.size, 2, none⟩ = some (.int .i64 nb) ∧ w'.cell? ⟨w.heap.size, 3, none⟩ = some (.slice A m C) ∧ Below w1.heap.size w1 w')
    (first
      | exact ⟨f0, f1, f2, f3, hbz⟩
      | exact ⟨e0, e1, e2, e3, hbt⟩
      | exact ⟨d0, d1, d2, d3, hbel⟩)
    (first
      | (go_at_call 96; refine (head_any k lb nb A s m C w1.drew HM.out).mono ?_; rintro e wn ⟨b, n, rfl, hn, hlo, hcl, hbn⟩; have hbt : Below w1.heap.size w1 wn := hbel.trans hbn; obtain ⟨e0, e1, e2, e3⟩ := unit4 (below_unit hbt HU1.out); have hnl : n = 11 := hn; subst hnl; have hO : OwnL wn w1.heap.size (.slice (some ⟨b, 0, none⟩) 11 11) (Fm.head ⟨k, lb, nb, s⟩) := own_of_cells hcl hlo rfl (by rw [Fm.head_len]; decide); have HS : RdL wn A s (· < w.heap.size) := ((HR.out.in_.old (HB1.out.trans (hbt.mono HB1.out.size))).mono (fun _ h => h.2)); obtain ⟨A4, C4, w4, hr4, hO4, hG4⟩ := ap_run wn w1.heap.size _ _ hO A m C s _ HM.out.symm HA.out HS (by rw [Fm.head_len]; omega) hbt.size (11 + m) rfl; have hbz : Below w1.heap.size w1 w4 := hbt.grown hG4 hbt.size (fun x hx => hO.lo x hx); obtain ⟨f0, f1, f2, f3⟩ := unit4 (below_unit hbz HU1.out); clear hn hlo hcl hbn hO HS hG4)
      | (refine step_append_eq (by rfl) _ _ _ _ (by rfl) _ _ _ _ hr4 (by rfl) (by rfl) ?_))
  have HO4 := Lib.hid hO4
  have HBZ := Lib.hid hbz
  clear hO4 hbz hbt e0 e1 e2 e3 d0 d1 d2 d3 a0 a1 a2 a3 hbel hr4
  have hh11 : (Fm.head ⟨k, lb, nb, s⟩ ++ s).length = 11 + m := by rw [List.length_append, Fm.head_len, ← HM.out]
  obtain ⟨A5, C5, w5, hr5, hO5, hG5⟩ := apz_run w4 w1.heap.size _ _ HO4.out (by omega) (R - m) (by omega) HBZ.out.size (((R - m : Nat) : Int)) rfl (11 + R) (by omega)
  have hbz5 : Below w1.heap.size w1 w5 := HBZ.out.grown hG5 HBZ.out.size (fun x hx => HO4.out.lo x hx)
  have HB5 := Lib.hid hbz5
  have HBD : Hid (Fm.body ⟨k, lb, nb, s⟩ = Fm.head ⟨k, lb, nb, s⟩ ++ s ++ List.replicate (R - m) 0) := Lib.hid (by unfold Fm.body Fm.pad; rw [HRM.out, HM.out])
  rw [← HBD.out] at hO5
  have hl5 : (Fm.body ⟨k, lb, nb, s⟩).length = 11 + R := by rw [Fm.body_len HK.out, HRM.out]
  have HL5 := Lib.hid hl5
  have HO5 := Lib.hid hO5
  clear hO5 hG5 hbz5 hh11 hl5
  go_wp2_with (at_builtin; refine Lib.wpList_append_run _ rfl _ _ _ _ rfl _ _ rfl rfl _ _ (hr5 _) ?_)
  have HS5 := Lib.hid (RdL.mono (by obtain ⟨A', C', e, _, _, _, h⟩ := HO5.out.rd; injection e with e1 e2 e3; subst e1; exact h) (fun _ _ => trivial) : RdL w5 A5 (Fm.body ⟨k, lb, nb, s⟩) (fun _ => True))
  go_wp2_with fail
  refine (tail_any A5 (Fm.body ⟨k, lb, nb, s⟩) (11 + R) C5 _ w5 HL5.out.symm (by rw [HL5.out]; omega) HS5.out).mono ?_
  rintro e w6 ⟨b6, n6, rfl, hn6, hlo6, hcl6, hb6⟩
  have hn6' : n6 = 4 := hn6
  subst hn6'
  have hbz6 : Below w1.heap.size w1 w6 := HB5.out.trans (hb6.mono HB5.out.size)
  have hO6 : OwnL w6 w1.heap.size (.slice A5 (11 + R) C5) (Fm.body ⟨k, lb, nb, s⟩) := HO5.out.of_block fun x hx => hb6.block x (HO5.out.lt x hx)
  obtain ⟨A7, C7, w7, hr7, hO7, hG7⟩ := ap_run w6 w1.heap.size _ _ hO6 (some ⟨b6, 0, none⟩) 4 4 (Cd.be4 (sumL (Fm.body ⟨k, lb, nb, s⟩))) _ rfl (fun h => by cases h) (rd_of_cells hcl6) (by rw [HL5.out]; omega) hbz6.size (15 + R) (by rw [HL5.out]; omega)
  have HB7 := Lib.hid (HB1.out.trans ((hbz6.grown hG7 hbz6.size (fun x hx => hO6.lo x hx)).mono HB1.out.size))
  have HO7 := Lib.hid hO7
  have HZ7 := Lib.hid HB1.out.size
  clear hn6 hlo6 hcl6 hb6 hbz6 hO6 hO7 hG7
  go_wp2_with (at_builtin; refine Lib.wpList_append_run _ rfl _ _ _ _ rfl _ _ rfl rfl _ _ (hr7 _) ?_)
  go_ret2
  have hlen : (Fm.body ⟨k, lb, nb, s⟩ ++ Cd.be4 (sumL (Fm.body ⟨k, lb, nb, s⟩))).length = 15 + R := by rw [List.length_append, HL5.out, Cd.be4_len]; omega
  have hb0 : Fm.blk ⟨k, lb, nb, s⟩ = Fm.body ⟨k, lb, nb, s⟩ ++ Cd.be4 (sumL (Fm.body ⟨k, lb, nb, s⟩)) := rfl
  refine ⟨A7, 15 + R, C7, rfl, ?_, by rw [hb0, hlen], HB7.out⟩
  rw [hb0]
  exact Go.Joins.ownsRow_le HO7.out HZ7.out
set_option maxRecDepth 100000 in
theorem put_good (k lb nb : Int) (A : Option Addr) (s : Tx) (m C : Nat) (G : Nat → Prop) (w : World) (hm : m = s.length) (hA : A = none → m = 0 ∧ C = 0) (hr : RdL w A s G) (hok : Fm.Ok ⟨k, lb, nb, s⟩) :
    Calls Tryz.prog 83 #[.agg #[.int .i64 k, .int .i64 lb, .int .i64 nb, .slice A m C]] w (PutU ⟨k, lb, nb, s⟩ w) := by
  refine (put_own k lb nb A s m C G w hm hA hr hok).mono fun e w' h => ?_
  obtain ⟨A7, n7, C7, rfl, ho, hn, hb⟩ := h
  obtain ⟨A8, C8, e8, g1, g2, g3, g4⟩ := ho.rd
  injection e8 with x1 x2 x3
  subst x1 x3
  rw [← x2] at g1 g3
  have hput : Fm.put ⟨k, lb, nb, s⟩ = Fm.blk ⟨k, lb, nb, s⟩ := Fm.put_ok hok
  refine ⟨A7, n7, C7, by rw [Fm.err_ok hok], by rw [hput, hn], g1, g2, g3, ?_, hb⟩
  rw [hput]
  exact g4.mono fun x h => h.1
set_option maxRecDepth 100000 in
theorem framePut_any (k lb nb : Int) (A : Option Addr) (s : Tx) (m C : Nat) (G : Nat → Prop) (w : World) (hm : m = s.length) (hA : A = none → m = 0 ∧ C = 0) (hr : RdL w A s G) :
    Calls Tryz.prog 83 #[.agg #[.int .i64 k, .int .i64 lb, .int .i64 nb, .slice A m C]] w (PutU ⟨k, lb, nb, s⟩ w) := by
  by_cases ha : Fm.argOk ⟨k, lb, nb, s⟩
  · by_cases hl : Fm.room k < m
    · exact put_bad k lb nb A s m C w 4 (.inr rfl) (Fm.err_long ha (by rw [hm] at hl; exact hl)) fun w => check_long k lb nb A m C w ⟨ha.1, ha.2.1⟩ ⟨ha.2.2.1, ha.2.2.2.1, ha.2.2.2.2.1, ha.2.2.2.2.2⟩ hl
    · exact put_good k lb nb A s m C G w hm hA hr ⟨ha, by show s.length ≤ Fm.room k; omega⟩
  · refine put_bad k lb nb A s m C w 1 (.inl rfl) (Fm.err_arg ha) fun w => ?_
    by_cases hk : k < 1 ∨ 6 < k
    · exact check_kind k lb nb A m C w hk
    · refine check_arg k lb nb A m C w (by omega) ?_
      unfold Fm.argOk at ha
      simp only at ha
      omega
end Go.Proofs.YtndofmoepjfnfaaGreat
namespace Go.Proofs.YtndofmoepjfnfaaGreat
open Go.RowKit
open Pt (Tx)

theorem or_byte (a c : Nat) (ha : a < 1099511627776) (hc : c < 256) : bits .or .i64 ((a : Int) * 256) (c : Int) = (a : Int) * 256 + (c : Int) := by
  show IntKind.i64.wrap ((BitVec.ofInt 64 ((a : Int) * 256) ||| BitVec.ofInt 64 (c : Int)).toNat : Int) = _
  have e1 : ((a : Int) * 256) = ((a * 256 : Nat) : Int) := by omega
  rw [e1, BitVec.ofInt_natCast, BitVec.ofInt_natCast, BitVec.toNat_or, BitVec.toNat_ofNat, BitVec.toNat_ofNat, Nat.mod_eq_of_lt (by omega), Nat.mod_eq_of_lt (by omega)]
  have h2 : a * 256 ||| c = a * 256 + c := by
    have := Nat.shiftLeft_add_eq_or_of_lt (i := 8) (b := c) (by omega) a
    rw [Nat.shiftLeft_eq, show (2 : Nat) ^ 8 = 256 from rfl] at this
    exact this.symm
  rw [h2, IntKind.wrap_i64]
  omega
theorem OwnL.lit0 (w : World) (base : Nat) (hb : base ≤ w.heap.size) : OwnL (w.alloc (.cells #[] 5)) base (.slice (some ⟨w.heap.size, 0, none⟩) 0 0) [] :=
  ⟨rfl, .inr ⟨w.heap.size, 0, #[], rfl, hb, Go.Deep.blk_alloc_new _ _, Nat.le_refl _, by decide, rfl, rfl⟩⟩
/-- bytes that are there now, in new memory -/
def AnsL (l : Tx) (w : World) (e : Ending) (w' : World) : Prop := ∃ A C, e = .returned (.slice A l.length C) ∧ l.length ≤ C ∧ (A = none → l.length = 0 ∧ C = 0) ∧ RdL w' A l (w.heap.size ≤ ·) ∧ Below w.heap.size w w'
theorem clone_any (A : Option Addr) (l : Tx) (c : Nat) (G : Nat → Prop) (w : World) (hA : A = none → l.length = 0 ∧ c = 0) (hr : RdL w A l G) (hl : l.length ≤ 1000000000) :
    Calls Tryz.prog 84 #[.slice A l.length c] w (AnsL l w) := by
  cases A with
  | none =>
    obtain ⟨h0, rfl⟩ := hA rfl
    have hl0 : l = [] := List.length_eq_zero_iff.1 h0
    subst hl0
    have hq := Lib.run_eql_slice_nil (P := Tryz.prog) w 22 5 none 0 0 0 0 Tryz.underlying22
    go_enter Tryz.func84, Tryz.ntmps84
    go_wp2
    go_ret
    exact ⟨none, 0, rfl, Nat.le_refl _, fun _ => ⟨rfl, rfl⟩, RdL.empty _ _ _, Below.refl _ _⟩
  | some a =>
    have hq := Lib.run_eql_slice_nil (P := Tryz.prog) w 22 5 (some a) l.length c 0 0 Tryz.underlying22
    go_enter Tryz.func84, Tryz.ntmps84
    go_wp2_with (at_builtin; refine wpList_append_bl _ rfl _ _ rfl w.heap.size _ [] rfl (OwnL.lit0 w _ (Nat.le_refl _)) (some a) l.length c l G rfl rfl (fun h => by cases h) (hr.old ((Below.refl _ _).alloc (Nat.le_refl _) _)) (by simp; omega) (by simp) ?_; intro v' w' hv hg; have HV := Lib.hid hv; have HG := Lib.hid hg; clear hv hg)
    go_ret
    have hv : OwnL w' w.heap.size v' l := HV.out
    obtain ⟨A', C', rfl, h1, -, h2, h3⟩ := hv.rd
    exact ⟨A', C', rfl, h1, h2, h3.mono (fun b h => h.1), ((Below.refl _ _).alloc (Nat.le_refl _) _).grown HG.out (by simp) (fun k h => by cases h; exact Nat.le_refl _)⟩
/-- a new Reader -/
def NewR (l : Tx) (w : World) (e : Ending) (w' : World) : Prop := ∃ g, e = .returned (.pointer (some ⟨g, 0, none⟩)) ∧ w.heap.size ≤ g ∧ Rr w' g (l, false) (fun b => w.heap.size ≤ b ∧ b < g) ∧ Below w.heap.size w w'
theorem newReader_any (A : Option Addr) (l : Tx) (c : Nat) (G : Nat → Prop) (w : World) (hA : A = none → l.length = 0 ∧ c = 0) (hr : RdL w A l G) (hl : l.length ≤ 1000000000) :
    Calls Tryz.prog 69 #[.slice A l.length c] w (NewR l w) := by
  go_enter Tryz.func69, Tryz.ntmps69
  go_wp2_with (go_at_call 84; refine (clone_any A l c G w hA hr hl).mono ?_; rintro e w' ⟨A', C', rfl, h1, h2, h3, h4⟩; have H2 := Lib.hid h2; clear h2)
  go_ret
  refine ⟨w'.heap.size, rfl, h4.size, ⟨⟨A', C', Go.Deep.blk_alloc_new _ _, h1, H2.out, ?_⟩, fun h => by have := h.2; omega⟩, h4.alloc h4.size _⟩
  exact (h3.in_.old ((Below.refl _ _).alloc (Nat.le_refl _) _)).mono fun b h => h
/-- a Reader whose slice is set -/
theorem Rr.set {w : World} {g : Nat} {v : Value} {bad : Bool} {G : Nat → Prop} (h1 : w.heap[g]? = some (.cells #[v, .bool bad] 154 (0, 0))) {A : Option Addr} {c m : Nat} {l : Tx} (hm : m = l.length) (hl : l.length ≤ c) (hA : A = none → l.length = 0 ∧ c = 0) (hr : RdL w A l G) (ng : ¬ G g) :
    Rr (w.setCell ⟨g, 0, none⟩ (.slice A m c)) g (l, bad) G := by
  subst hm
  refine ⟨⟨A, c, ?_, hl, hA, hr.kp (Kp.store w g 0 _) (fun b hb e => ng (e ▸ hb))⟩, ng⟩
  rw [heap_set h1]; simp
/-- what take answered, and left -/
def Took (n g : Nat) (s : Cd.St) (G : Nat → Prop) (w : World) (e : Ending) (w' : World) : Prop := ∃ A c, e = .returned (.slice A (Cd.tk n s).length c) ∧ RdL w' A (Cd.tk n s) G ∧ Rr w' g (Cd.af n s) G ∧ Kp (· = g) w w'
set_option maxRecDepth 100000 in
theorem take_any (g n : Nat) (s : Cd.St) (G : Nat → Prop) (w : World) (h : Rr w g s G) (hl : s.1.length ≤ 1000000000) (hn : n ≤ 1000) :
    Calls Tryz.prog 85 #[.pointer (some ⟨g, 0, none⟩), .int .i64 (n : Int)] w (Took n g s G w) := by
  obtain ⟨⟨A, c, h1, h2, h3, h4⟩, ng⟩ := h
  obtain ⟨l, bad⟩ := s
  simp only at h1 h2 h3 h4 hl
  have c0 : w.cell? ⟨g, 0, none⟩ = some (.slice A l.length c) := heap_cell h1
  have c1 : w.cell? ⟨g, 1, none⟩ = some (.bool bad) := heap_cell h1
  have f0 : w.frozen? ⟨g, 0, none⟩ = false := heap_frozen h1
  have f1 : w.frozen? ⟨g, 1, none⟩ = false := heap_frozen h1
  have H1 := Lib.hid h1
  have H3 := Lib.hid h3
  have H4 := Lib.hid h4
  clear h1 h3 h4
  by_cases hlt : l.length < n
  · go_enter Tryz.func85, Tryz.ntmps85
    go_wp2
    go_ret
    refine ⟨none, 0, by rw [Cd.tk_no hlt]; rfl, by rw [Cd.tk_no hlt]; exact RdL.empty _ _ _, ?_, (((Kp.refl (· = g) w).setCell (p := ⟨g, 0, none⟩) rfl _).setCell (p := ⟨g, 1, none⟩) rfl _)⟩
    rw [Cd.af_no hlt]
    refine ⟨⟨none, 0, ?_, Nat.le_refl _, fun _ => ⟨rfl, rfl⟩, RdL.empty _ _ _⟩, ng⟩
    rw [heap_set (heap_set H1.out _)]; simp
  · by_cases h0 : n = 0
    · subst h0
      go_enter Tryz.func85, Tryz.ntmps85
      go_wp2
      go_ret
      have ht : Cd.tk 0 (l, bad) = [] := by rw [Cd.tk_yes hlt]; rfl
      have ha : Cd.af 0 (l, bad) = (l, bad) := by rw [Cd.af_yes hlt]; rfl
      refine ⟨A, c, by rw [ht]; rfl, by rw [ht]; exact RdL.empty _ _ _, ?_, Kp.store w g 0 _⟩
      rw [ha]
      exact Rr.set H1.out rfl h2 H3.out H4.out ng
    · obtain ⟨b, off, rfl, hb, -⟩ := H4.out (by omega)
      have hmin : (l.take n).length = n := by simp; omega
      have ht : Cd.tk n (l, bad) = l.take n := Cd.tk_yes hlt
      have ha : Cd.af n (l, bad) = (l.drop n, bad) := Cd.af_yes hlt
      have HT := Lib.hid ht
      have HA := Lib.hid ha
      have HM := Lib.hid hmin
      clear ht ha hmin
      by_cases hc : c = n
      · subst hc
        have hll : c = l.length := by omega
        have HLL := Lib.hid hll
        clear hll
        have q1 : (c : Int) ≤ (l.length : Int) := by omega
        go_enter Tryz.func85, Tryz.ntmps85
        go_wp2
        go_ret
        have hd : (l.drop c).length = 0 := by have := HLL.out; simp; omega
        refine ⟨some ⟨b, off, none⟩, c, by rw [HT.out, HM.out]; rfl, by rw [HT.out]; exact (H4.out.take _).kp (Kp.store w g 0 _) (fun x hx e => ng (e ▸ hx)), ?_, Kp.store w g 0 _⟩
        rw [HA.out]
        exact Rr.set H1.out hd.symm (by omega) (fun h => by cases h) (fun h => by omega) ng
      · have q1 : n ≤ l.length := by omega
        have q2 : n ≤ c := by omega
        have q3 : ¬ n = c := fun h => hc h.symm
        go_enter Tryz.func85, Tryz.ntmps85
        go_wp2
        go_ret
        refine ⟨some ⟨b, off, none⟩, c, by rw [HT.out, HM.out]; rfl, by rw [HT.out]; exact (H4.out.take _).kp (Kp.store w g 0 _) (fun x hx e => ng (e ▸ hx)), ?_, Kp.store w g 0 _⟩
        rw [HA.out]
        exact Rr.set H1.out (by simp) (by simp; omega) (fun h => by cases h) (H4.out.drop n) ng
/-- the number -/
theorem take_num (l : Tx) (k : Nat) (h : k < l.length) : Cd.num (l.take (k + 1)) = Cd.num (l.take k) * 256 + (l[k].toNat : Int) := by
  rw [List.take_succ_eq_append_getElem h, Cd.num_snoc]
theorem num_small (l : Tx) (k : Nat) (hl : l.length ≤ 4) : 0 ≤ Cd.num (l.take k) ∧ Cd.num (l.take k) < 4294967296 := by
  refine ⟨Cd.num_lo _, ?_⟩
  have h := Cd.num_hi (l.take k)
  have h2 : (l.take k).length ≤ 4 := by simp; omega
  have h3 : (l.take k).length = 0 ∨ (l.take k).length = 1 ∨ (l.take k).length = 2 ∨ (l.take k).length = 3 ∨ (l.take k).length = 4 := by omega
  rcases h3 with e | e | e | e | e <;> rw [e] at h <;> simp only [Int.reducePow] at h <;> omega
set_option maxRecDepth 100000 in
theorem rint_any (g : Nat) (s : Cd.St) (G : Nat → Prop) (w : World) (h : Rr w g s G) (hl : s.1.length ≤ 1000000000) :
    Calls Tryz.prog 70 #[.pointer (some ⟨g, 0, none⟩)] w (Red (.int .i64 (Cd.num (Cd.tk 4 s))) g (Cd.af 4 s) G w) := by
  go_enter Tryz.func70, Tryz.ntmps70
  go_wp2_with (go_at_call 85; refine (take_any g 4 s G w h hl (by decide)).mono ?_; rintro e w1 ⟨A, c, rfl, hr, hR, hK⟩; have HR := Lib.hid hr; have HRR := Lib.hid hR; have HK := Lib.hid hK; clear hr hR hK)
  obtain ⟨t, ht⟩ : ∃ t, t = Cd.tk 4 s := ⟨_, rfl⟩
  have h4 : t.length ≤ 4 := by rw [ht]; exact Cd.tk_le 4 s
  rw [← ht] at HR ⊢
  have HT := Lib.hid ht
  clear ht
  go_loop [3, 9] (fun vn vi => ∃ k : Nat, k ≤ t.length ∧ vi = .int .i64 (k : Int) ∧ vn = .int .i64 (Cd.num (t.take k))) (fun _ vi => t.length - (intOf vi).toNat)
  case atStart => exact ⟨0, Nat.zero_le _, rfl, rfl⟩
  case round =>
    obtain ⟨k, hk, rfl, rfl⟩ := hrel
    by_cases hlt : k < t.length
    · obtain ⟨b, off, rfl, -, hc⟩ := HR.out.at_ hlt
      have hs := num_small t k h4
      obtain ⟨a, ha⟩ : ∃ a : Nat, Cd.num (t.take k) = (a : Int) := ⟨(Cd.num (t.take k)).toNat, by omega⟩
      have HN := Lib.hid (take_num t k hlt)
      rw [ha] at HN hs ⊢
      clear ha
      have ha' : a < 1099511627776 := by omega
      have hcl := t[k].toNat_lt
      have hor := or_byte a t[k].toNat ha' hcl
      clear ha'
      go_wp2
      go_round
      case rel => exact ⟨k + 1, by omega, by go_num, by rw [HN.out]⟩
      case measure => simp [intOf]; omega
    · go_wp2
      go_ret
      have e : t.take k = t := List.take_of_length_le (by omega)
      refine ⟨?_, HRR.out, HK.out⟩
      rw [← HT.out, e]; rfl
theorem byt_of {s : Cd.St} {t : Tx} (ht : t = Cd.tk 1 s) (h : t.length = 0) : Cd.byt s = 0 := by
  unfold Cd.byt; rw [← ht, List.length_eq_zero_iff.1 h]; rfl
theorem byt_at {s : Cd.St} {t : Tx} (ht : t = Cd.tk 1 s) (h : 0 < t.length) : Cd.byt s = t[0] := by
  unfold Cd.byt; rw [← ht]
  cases t with
  | nil => simp at h
  | cons c l => rfl
set_option maxRecDepth 100000 in
theorem rbyte_any (g : Nat) (s : Cd.St) (G : Nat → Prop) (w : World) (h : Rr w g s G) (hl : s.1.length ≤ 1000000000) :
    Calls Tryz.prog 71 #[.pointer (some ⟨g, 0, none⟩)] w (Red (.int .u8 ((Cd.byt s).toNat : Int)) g (Cd.af 1 s) G w) := by
  obtain ⟨t, ht⟩ : ∃ t, t = Cd.tk 1 s := ⟨_, rfl⟩
  have h1 : t.length ≤ 1 := by rw [ht]; exact Cd.tk_le 1 s
  have htake := take_any g 1 s G w h hl (by decide)
  unfold Took at htake
  rw [← ht] at htake
  have HT := Lib.hid ht
  clear ht
  by_cases h0 : t.length = 0
  · have q1 : ((t.length : Int) == 0) = true := by rw [h0]; rfl
    have HB := Lib.hid (byt_of HT.out h0)
    clear h0
    go_enter Tryz.func71, Tryz.ntmps71
    go_wp2_with (go_at_call 85; refine htake.mono ?_; rintro e w1 ⟨A, c, rfl, hr, hR, hK⟩; have HR := Lib.hid hr; have HRR := Lib.hid hR; have HK := Lib.hid hK; clear hr hR hK)
    go_ret
    refine ⟨?_, HRR.out, HK.out⟩
    rw [HB.out]; rfl
  · have q1 : ((t.length : Int) == 0) = false := beq_eq_false_iff_ne.2 (by omega)
    have hp : 0 < t.length := by omega
    have HB := Lib.hid (byt_at HT.out hp)
    have h0' : ¬ t.length = 0 := h0
    clear h0
    go_enter Tryz.func71, Tryz.ntmps71
    go_wp2_with (go_at_call 85; refine htake.mono ?_; rintro e w1 ⟨A, c, rfl, hr, hR, hK⟩; obtain ⟨b, off, rfl, -, hc⟩ := hr.at_ hp; rw [Nat.add_zero] at hc; have HRR := Lib.hid hR; have HK := Lib.hid hK; clear hr hR hK)
    go_ret
    refine ⟨?_, HRR.out, HK.out⟩
    rw [HB.out]; rfl
end Go.Proofs.YtndofmoepjfnfaaGreat
