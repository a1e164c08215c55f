/- The sums of castagnoli and of the document's own, of bytes that read as a list. What check of package frame answers, and what head and tail make. What units of package group answers: what the blocks of a parity tape say. What Put of package frame answers. What framed of package group answers: the blocks of units that are right. -/
import Derived.Test.YtbkmpoabdnickaaMl
import Derived.Test.YtbkmpoabdnickaaMd
import Derived.Test.YtbkmpoabdnickaaMk
import Derived.Test.YtbkmpoabdnickaaMi
import Derived.Test.YtbkmpoabdnickaaMj
import Derived.Lib.SmallJoins
import Derived.Deep.RegionHeld3
import Derived.Deep.DeepFit
import Derived.Test.YtbkmpoabdnickaaMe
import Derived.Test.YtbkmpoabdnickaaMh
namespace Go.Proofs.Ytbkmpoabdnickaa
open Go.RowKit
open Pt (Tx)

theorem sumL_any (A : Option Addr) (l : Tx) (n C : Nat) (G : Nat → Prop) (w : World) (hm : n = l.length) (hn : l.length ≤ maxLen) (hr : RdL w A l G) :
    Calls Try.prog 75 #[.slice A n C] w fun e w' => e = .returned (.int .u32 (sumL l)) ∧ w = w' := by
  subst hm; exact sum_any A l.length C (rowL l) G w hn hr.rd
theorem refSumL_any (A : Option Addr) (l : Tx) (n C : Nat) (G : Nat → Prop) (w : World) (hm : n = l.length) (hn : l.length ≤ maxLen) (hr : RdL w A l G) :
    Calls Try.prog 13 #[.slice A n C] w fun e w' => e = .returned (.int .u32 (sumL l)) ∧ w = w' := by
  subst hm; exact refCrc_any A l.length C (rowL l) G w hn hr.rd
end Go.Proofs.Ytbkmpoabdnickaa
namespace Go.Proofs.Ytbkmpoabdnickaa
open Go.RowKit
open Pt (Tx)

/-- the unit in a block -/
def unitObj (k lb nb : Int) (A : Option Addr) (m C : Nat) : Obj := .cells #[.int .i64 k, .int .i64 lb, .int .i64 nb, .slice A m C] 29
def Checked (room er : Int) (w : World) (e : Ending) (w' : World) : Prop := e = .returned (.tuple #[.int .i64 room, .int .i64 er]) ∧ Below w.heap.size w w'
theorem check_kind (k lb nb : Int) (A : Option Addr) (m C : Nat) (w : World) (h : k < 1 ∨ 6 < k) :
    Calls Try.prog 57 #[.agg #[.int .i64 k, .int .i64 lb, .int .i64 nb, .slice A m C]] w (Checked 0 1 w) := by
  have q1 : (k == 1) = false := beq_eq_false_iff_ne.2 (by omega)
  have q2 : (k == 2) = false := beq_eq_false_iff_ne.2 (by omega)
  have q3 : (k == 3) = false := beq_eq_false_iff_ne.2 (by omega)
  have q4 : (k == 4) = false := beq_eq_false_iff_ne.2 (by omega)
  have q5 : (k == 5) = false := beq_eq_false_iff_ne.2 (by omega)
  have q6 : (k == 6) = false := beq_eq_false_iff_ne.2 (by omega)
  have HB : Hid (Below w.heap.size w (w.alloc (unitObj k lb nb A m C))) := Lib.hid ((Below.refl _ _).alloc (Nat.le_refl _) _)
  clear h
  go_enter Try.func57, Try.ntmps57
  go_wp2
  go_ret2
  exact ⟨rfl, HB.out⟩
set_option maxHeartbeats 4000000 in
theorem check_arg (k lb nb : Int) (A : Option Addr) (m C : Nat) (w : World) (h : 1 ≤ k ∧ k ≤ 6) (h' : lb < 1 ∨ 2147483647 < lb ∨ nb < 0 ∨ 2147483647 < nb) :
    Calls Try.prog 57 #[.agg #[.int .i64 k, .int .i64 lb, .int .i64 nb, .slice A m C]] w (Checked 0 1 w) := by
  have HB : Hid (Below w.heap.size w (w.alloc (unitObj k lb nb A m C))) := Lib.hid ((Below.refl _ _).alloc (Nat.le_refl _) _)
  have hk : k = 1 ∨ k = 2 ∨ k = 3 ∨ k = 4 ∨ k = 5 ∨ k = 6 := by omega
  clear h
  have hq : (decide (lb < 1) = true) ∨ (decide (lb < 1) = false ∧ decide (2147483647 < lb) = true) ∨ (decide (lb < 1) = false ∧ decide (2147483647 < lb) = false ∧ decide (nb < 0) = true) ∨ (decide (lb < 1) = false ∧ decide (2147483647 < lb) = false ∧ decide (nb < 0) = false ∧ decide (2147483647 < nb) = true) := by
    simp only [decide_eq_true_eq, decide_eq_false_iff_not]; omega
  clear h'
  rcases hk with rfl | rfl | rfl | rfl | rfl | rfl <;> rcases hq with q1 | ⟨q1, q2⟩ | ⟨q1, q2, q3⟩ | ⟨q1, q2, q3, q4⟩
  all_goals
    go_enter Try.func57, Try.ntmps57
    go_wp2
    go_ret2
    exact ⟨rfl, HB.out⟩
theorem check_long (k lb nb : Int) (A : Option Addr) (m C : Nat) (w : World) (h : 1 ≤ k ∧ k ≤ 6) (h' : 1 ≤ lb ∧ lb ≤ 2147483647 ∧ 0 ≤ nb ∧ nb ≤ 2147483647) (hm : Fm.room k < m) :
    Calls Try.prog 57 #[.agg #[.int .i64 k, .int .i64 lb, .int .i64 nb, .slice A m C]] w (Checked 0 4 w) := by
  have HB : Hid (Below w.heap.size w (w.alloc (unitObj k lb nb A m C))) := Lib.hid ((Below.refl _ _).alloc (Nat.le_refl _) _)
  have q1 : decide (lb < 1) = false := decide_eq_false (by omega)
  have q2 : decide (2147483647 < lb) = false := decide_eq_false (by omega)
  have q3 : decide (nb < 0) = false := decide_eq_false (by omega)
  have q4 : decide (2147483647 < nb) = false := decide_eq_false (by omega)
  have hk : k = 1 ∨ k = 2 ∨ k = 3 ∨ k = 4 ∨ k = 5 ∨ k = 6 := by omega
  clear h h'
  rcases hk with rfl | rfl | rfl | rfl | rfl | rfl
  all_goals
    simp only [Fm.room, reduceIte, Int.reduceEq] at hm
    go_enter Try.func57, Try.ntmps57
    go_wp2
    go_ret2
    exact ⟨rfl, HB.out⟩
theorem check_ok (k lb nb : Int) (A : Option Addr) (m C : Nat) (w : World) (h : 1 ≤ k ∧ k ≤ 6) (h' : 1 ≤ lb ∧ lb ≤ 2147483647 ∧ 0 ≤ nb ∧ nb ≤ 2147483647) (hm : m ≤ Fm.room k) :
    Calls Try.prog 57 #[.agg #[.int .i64 k, .int .i64 lb, .int .i64 nb, .slice A m C]] w (Checked (Fm.room k) 0 w) := by
  have HB : Hid (Below w.heap.size w (w.alloc (unitObj k lb nb A m C))) := Lib.hid ((Below.refl _ _).alloc (Nat.le_refl _) _)
  have q1 : decide (lb < 1) = false := decide_eq_false (by omega)
  have q2 : decide (2147483647 < lb) = false := decide_eq_false (by omega)
  have q3 : decide (nb < 0) = false := decide_eq_false (by omega)
  have q4 : decide (2147483647 < nb) = false := decide_eq_false (by omega)
  have hk : k = 1 ∨ k = 2 ∨ k = 3 ∨ k = 4 ∨ k = 5 ∨ k = 6 := by omega
  clear h h'
  rcases hk with rfl | rfl | rfl | rfl | rfl | rfl
  all_goals
    simp only [Fm.room, reduceIte, Int.reduceEq] at hm ⊢
    go_enter Try.func57, Try.ntmps57
    go_wp2
    go_ret2
    exact ⟨rfl, HB.out⟩
theorem unit4 {w : World} {g : Nat} {k lb nb : Int} {A : Option Addr} {m C : Nat} (h : w.heap[g]? = some (unitObj k lb nb A m C)) :
    w.cell? ⟨g, 0, none⟩ = some (.int .i64 k) ∧ w.cell? ⟨g, 1, none⟩ = some (.int .i64 lb) ∧ w.cell? ⟨g, 2, none⟩ = some (.int .i64 nb) ∧ w.cell? ⟨g, 3, none⟩ = some (.slice A m C) :=
  ⟨heap_cell h, heap_cell h, heap_cell h, heap_cell h⟩
set_option maxHeartbeats 1000000 in
theorem head_any (k lb nb : Int) (A : Option Addr) (s : Tx) (m C : Nat) (w : World) (hm : m = s.length) :
    Calls Try.prog 58 #[.agg #[.int .i64 k, .int .i64 lb, .int .i64 nb, .slice A m C]] w (NewS (Fm.head ⟨k, lb, nb, s⟩) w) := by
  have HM := Lib.hid hm
  clear hm
  obtain ⟨wb, hwb⟩ : ∃ wb, wb = (w.alloc (unitObj k lb nb A m C)).alloc (.cells #[.pointer none, .int .i64 0] 108) := ⟨_, rfl⟩
  have HB0 : Hid (Below w.heap.size w wb) := Lib.hid (by rw [hwb]; exact ((Below.refl _ _).alloc (Nat.le_refl _) _).alloc (by simp) _)
  have H0 : Hid (Wr wb (w.heap.size + 1) []) := Lib.hid (by
    have := Wr.new (w.alloc (unitObj k lb nb A m C))
    rw [hwb]; simpa using this)
  have HU0 : Hid (wb.heap[w.heap.size]? = some (unitObj k lb nb A m C)) := Lib.hid (by
    rw [hwb, Below.heap_alloc _ _ _ (by simp)]; exact Go.Deep.blk_alloc_new _ _)
  obtain ⟨a0, a1, a2, a3⟩ := unit4 HU0.out
  have HW := Lib.hid hwb
  rw [hwb] at a0 a1 a2 a3
  clear hwb
  unfold unitObj at a0 a1 a2 a3 HW
  have hle : ∀ (g : Nat) (x y : World), Kp (· = g) x y → g = w.heap.size + 1 → x.heap[w.heap.size]? = some (unitObj k lb nb A m C) → y.heap[w.heap.size]? = some (unitObj k lb nb A m C) := fun g x y hk hg hx => by
    subst hg
    exact (hk.block _ (heap_lt hx) (by omega)).trans hx
  have HLE := Lib.hid hle
  clear hle
  go_enter Try.func58, Try.ntmps58
  go_wp2_with fail
  rw [← HW.out]
  refine (wbyte_int _ [] k wb H0.out (by simp)).mono ?_
  rintro e w1 ⟨rfl, hW1, hK1⟩
  have HW1 := Lib.hid hW1
  have HU1 := Lib.hid (HLE.out _ _ _ hK1 rfl HU0.out)
  have HB1 := Lib.hid (HB0.out.trans (lo_g hK1 HB0.out.size (Nat.le_succ _)))
  obtain ⟨b0, b1, b2, b3⟩ := unit4 HU1.out
  clear hW1 hK1 a0 a1 a2 a3
  go_wp2_with fail
  refine (wint_any _ _ lb w1 HW1.out (by simp)).mono ?_
  rintro e w2 ⟨rfl, hW2, hK2⟩
  have HW2 := Lib.hid hW2
  have HU2 := Lib.hid (HLE.out _ _ _ hK2 rfl HU1.out)
  have HB2 := Lib.hid (HB1.out.trans (lo_g hK2 HB1.out.size (Nat.le_succ _)))
  obtain ⟨c0, c1, c2, c3⟩ := unit4 HU2.out
  clear hW2 hK2 b0 b1 b2 b3
  go_wp2_with fail
  refine (wint_any _ _ nb w2 HW2.out (by simp [Cd.be4_len])).mono ?_
  rintro e w3 ⟨rfl, hW3, hK3⟩
  have HW3 := Lib.hid hW3
  have HU3 := Lib.hid (HLE.out _ _ _ hK3 rfl HU2.out)
  have HB3 := Lib.hid (HB2.out.trans (lo_g hK3 HB2.out.size (Nat.le_succ _)))
  obtain ⟨d0, d1, d2, d3⟩ := unit4 HU3.out
  clear hW3 hK3 c0 c1 c2 c3
  go_wp2_with fail
  refine (wbyte_int _ _ ((m : Int) / 256) w3 HW3.out (by simp [Cd.be4_len])).mono ?_
  rintro e w4 ⟨rfl, hW4, hK4⟩
  have HW4 := Lib.hid hW4
  have HU4 := Lib.hid (HLE.out _ _ _ hK4 rfl HU3.out)
  have HB4 := Lib.hid (HB3.out.trans (lo_g hK4 HB3.out.size (Nat.le_succ _)))
  obtain ⟨e0, e1, e2, e3⟩ := unit4 HU4.out
  clear hW4 hK4 d0 d1 d2 d3
  go_wp2_with fail
  refine (wbyte_int _ _ (m : Int) w4 HW4.out (by simp [Cd.be4_len])).mono ?_
  rintro e w5 ⟨rfl, hW5, hK5⟩
  have HW5 := Lib.hid hW5
  have HB5 := Lib.hid (HB4.out.trans (lo_g hK5 HB4.out.size (Nat.le_succ _)))
  clear hW5 hK5 e0 e1 e2 e3
  go_wp2_with fail
  refine (bytes_own _ _ w5 HW5.out (by simp [Cd.be4_len])).mono ?_
  rintro e w6 ⟨b, rfl, hb, hr6, hB6⟩
  have HR6 := Lib.hid hr6
  have HB6 := Lib.hid (HB5.out.trans (hB6.mono HB5.out.size))
  have HLO := Lib.hid (Nat.le_trans HB5.out.size hb)
  clear hr6 hB6 hb
  go_wp2
  go_ret
  have hh : Fm.head ⟨k, lb, nb, s⟩ = ((((([] ++ [Cd.b8 k]) ++ Cd.be4 lb) ++ Cd.be4 nb) ++ [Cd.b8 ((m : Int) / 256)]) ++ [Cd.b8 (m : Int)]) := by rw [HM.out]; rfl
  rw [hh]
  exact ⟨b, _, rfl, rfl, HLO.out, HR6.out, HB6.out⟩
set_option maxHeartbeats 1000000 in
theorem tail_any (A : Option Addr) (l : Tx) (n C : Nat) (G : Nat → Prop) (w : World) (hm : n = l.length) (hn : l.length ≤ 1000000) (hr : RdL w A l G) :
    Calls Try.prog 59 #[.slice A n C] w (NewS (Cd.be4 (sumL l)) w) := by
  have HB0 : Hid (Below w.heap.size w (w.alloc (.cells #[.pointer none, .int .i64 0] 108))) := Lib.hid ((Below.refl _ _).alloc (Nat.le_refl _) _)
  have H0 := Lib.hid (Wr.new w)
  have HR := Lib.hid (hr.old HB0.out)
  have HM := Lib.hid hm
  clear hm hr
  have s0 := sumL_lo l
  have s1 := sumL_hi l
  go_enter Try.func59, Try.ntmps59
  go_wp2_with fail
  refine (sumL_any A l n C G _ HM.out (by unfold maxLen; omega) HR.out).mono ?_
  rintro e _ ⟨rfl, rfl⟩
  go_wp2_with fail
  refine (wint_any _ _ (sumL l) _ H0.out (by simp)).mono ?_
  rintro e w2 ⟨rfl, hW2, hK2⟩
  have HW2 := Lib.hid hW2
  have HB2 := Lib.hid (HB0.out.trans (lo_g hK2 HB0.out.size (Nat.le_refl _)))
  clear hW2 hK2
  go_wp2_with fail
  refine (bytes_own _ _ w2 HW2.out (by simp [Cd.be4_len])).mono ?_
  rintro e w3 ⟨b, rfl, hb, hr3, hB3⟩
  have HR3 := Lib.hid hr3
  have HB3 := Lib.hid (HB2.out.trans (hB3.mono HB2.out.size))
  have HLO := Lib.hid (Nat.le_trans HB2.out.size hb)
  clear hr3 hB3 hb
  go_wp2
  go_ret
  exact ⟨b, _, rfl, rfl, HLO.out, HR3.out, HB3.out⟩
end Go.Proofs.Ytbkmpoabdnickaa
namespace Go.Proofs.Ytbkmpoabdnickaa
open Go.RowKit
open Pt (Tx)

/-- a unit as it lies in a row: its kind, its load, and where that lies -/
structure Ux where
  kind : Int
  s : Tx
  A : Option Addr
  C : Nat
def Ux.enc (u : Ux) : List Value := [.int .i64 u.kind, .int .i64 0, .int .i64 0, .slice u.A u.s.length u.C]
def Ux.pair (u : Ux) : Int × Tx := (u.kind, u.s)
def encY : Enc Ux where
  k := 4
  pos := by decide
  enc := Ux.enc
  len _ := rfl
  one u v hv := by
    simp only [Ux.enc, List.mem_cons, List.not_mem_nil, or_false] at hv
    rcases hv with rfl | rfl | rfl | rfl <;> rfl
structure Ux.Ok (u : Ux) (w : World) (G : Nat → Prop) : Prop where
  nil : u.A = none → u.s.length = 0 ∧ u.C = 0
  rd : RdL w u.A u.s G
theorem Ux.Ok.mono {x : Ux} {w : World} {G G' : Nat → Prop} (h : x.Ok w G) (hg : ∀ b, G b → G' b) : x.Ok w G' := ⟨h.nil, h.rd.mono hg⟩
theorem Ux.Ok.old {x : Ux} {w w' : World} {G : Nat → Prop} (h : x.Ok w G) (hb : Below w.heap.size w w') : x.Ok w' G := ⟨h.nil, h.rd.old hb⟩
theorem Ux.Ok.kp {x : Ux} {w w' : World} {G S : Nat → Prop} (h : x.Ok w G) (hk : Kp S w w') (hs : ∀ b, G b → ¬ S b) : x.Ok w' G := ⟨h.nil, h.rd.kp hk hs⟩
theorem Ux.Ok.in_ {x : Ux} {w : World} {G : Nat → Prop} (h : x.Ok w G) : x.Ok w (fun b => G b ∧ b < w.heap.size) := ⟨h.nil, h.rd.in_⟩
/-- units that are gathered in an own row -/
structure UnitI (w : World) (v : Value) (us : List Ux) (wr : World) : Prop where
  own : encY.Own wr w.heap.size 29 v us
  ok : ∀ u ∈ us, u.Ok wr (fun b => v.ownBlock ≠ some b)
  bel : Below w.heap.size w wr
namespace UnitI
variable {w wr w2 w3 : World} {v : Value} {us : List Ux}
theorem old (h : UnitI w v us wr) (hb : Below wr.heap.size wr w2) : UnitI w v us w2 :=
  ⟨h.own.old hb, fun x hx => (h.ok x hx).old hb, h.bel.trans (hb.mono h.bel.size)⟩
theorem push (h : UnitI w v us w2) {x : Ux} (hx : x.Ok w2 (fun b => v.ownBlock ≠ some b)) {o : Obj} {g n cap : Nat} (hown : encY.Own w3 w.heap.size 29 (.slice (some ⟨g, 0, none⟩) n cap) (us ++ [x])) (hg : (w2.alloc o).grownBy w3 v.ownBlock) (hat : v.ownBlock = some g ∨ g = w2.heap.size + 1) : UnitI w (.slice (some ⟨g, 0, none⟩) n cap) (us ++ [x]) w3 := by
  have key : ∀ y : Ux, y.Ok w2 (fun b => v.ownBlock ≠ some b) → y.Ok w3 (fun b => (.slice (some ⟨g, 0, none⟩) n cap : Value).ownBlock ≠ some b) := fun y hy => by
    have hk : Kp (fun k => v.ownBlock = some k) w2 w3 := ((Kp.refl _ w2).alloc o).grown hg (fun k e => e)
    have h3 := hy.in_.kp hk (fun b hb => hb.1)
    refine h3.mono fun b hb e => ?_
    have e' : g = b := by simpa [Value.ownBlock] using e
    rcases hat with hat | hat
    · exact hb.1 (by rw [hat, e'])
    · omega
  refine ⟨hown, fun y hy => ?_, ?_⟩
  · rcases List.mem_append.1 hy with hy | hy
    · exact key y (h.ok y hy)
    · rw [List.mem_singleton.1 hy]; exact key x hx
  · exact (h.bel.alloc h.bel.size _).grown hg (by have := h.bel.size; simp; omega) (fun k hk => (h.own.lt k hk).1)
end UnitI
/-- units are answered -/
def UnitsG (l : List (Int × Tx)) (w : World) (e : Ending) (w' : World) : Prop := ∃ v us, e = .returned v ∧ us.map Ux.pair = l ∧ UnitI w v us w'
theorem first_unit (w w1 wb : World) (h1 : w1 = w.alloc (.cells #[.int .u8 80] 5 (1, 2))) (hb : wb = w1.alloc (.cells #[.int .i64 1, .int .i64 0, .int .i64 0, .slice (some ⟨w.heap.size, 0, none⟩) 1 1] 29)) (W : World) (hW : Below W.heap.size W w) :
    UnitI W (.slice (some ⟨w.heap.size + 1, 0, none⟩) 1 1) [⟨1, [80], some ⟨w.heap.size, 0, none⟩, 1⟩] wb := by
  have hs : w1.heap.size = w.heap.size + 1 := by rw [h1]; simp
  have c1 : w1.heap[w.heap.size]? = some (.cells #[.int .u8 80] 5 (1, 2)) := by rw [h1]; exact Go.Deep.blk_alloc_new _ _
  have c2 : wb.heap[w.heap.size]? = some (.cells #[.int .u8 80] 5 (1, 2)) := by rw [hb]; exact (Below.heap_alloc _ _ _ (heap_lt c1)).trans c1
  have c3 : wb.heap[w.heap.size + 1]? = some (.cells #[.int .i64 1, .int .i64 0, .int .i64 0, .slice (some ⟨w.heap.size, 0, none⟩) 1 1] 29) := by
    rw [hb, ← hs]; exact Go.Deep.blk_alloc_new _ _
  have hb1 : Below W.heap.size W w1 := by rw [h1]; exact hW.alloc hW.size _
  refine ⟨Enc.Own.one (E := encY) (x := ⟨1, [80], some ⟨w.heap.size, 0, none⟩, 1⟩) c3 (by have := hW.size; omega), fun u hu => ?_, ?_⟩
  · rw [List.mem_singleton.1 hu]
    refine ⟨(fun e => by cases e), fun _ => ⟨_, 0, rfl, fun e => ?_, fun j hj => ?_⟩⟩
    · simp [Value.ownBlock] at e
    · have h0 : j = 0 := by simpa using hj
      subst h0
      rw [heap_cell c2]; rfl
  · rw [hb]; exact hb1.alloc hb1.size _
set_option maxRecDepth 100000 in
set_option maxHeartbeats 4000000 in
theorem units_any (A : Option Addr) (rows : List Tx) (n C : Nat) (G : Nat → Prop) (x : Sx) (w : World) (hn : n = rows.length) (hm : n ≤ 1000000) (hr : RdW w A rows G) (hx : x.Ok w (fun _ => True)) :
    Calls Try.prog 18 #[.slice A n C, .agg #[.int .i64 x.s.number, .int .i64 x.s.index, .int .i64 x.s.data, .int .i64 x.s.parity, .slice x.A x.s.labels.length x.C]] w (UnitsG (says rows x.s) w) := by
  obtain ⟨⟨sn, si, sd, sp, sl⟩, sA, sC⟩ := x
  dsimp only at hx ⊢
  obtain ⟨m, hm'⟩ : ∃ m, m = sl.length := ⟨_, rfl⟩
  rw [← hm']
  obtain ⟨wa, hwa⟩ : ∃ wa, wa = w.alloc (sealObj sn si sd sp sA m sC) := ⟨_, rfl⟩
  have hba : Below w.heap.size w wa := by rw [hwa]; exact (Below.refl _ _).alloc (Nat.le_refl _) _
  have hSa : wa.heap[w.heap.size]? = some (sealObj sn si sd sp sA m sC) := by rw [hwa]; exact Go.Deep.blk_alloc_new _ _
  obtain ⟨w1, hw1⟩ : ∃ w1, w1 = wa.alloc (.cells #[.int .u8 80] 5 (1, 2)) := ⟨_, rfl⟩
  obtain ⟨wb, hwb⟩ : ∃ wb, wb = w1.alloc (.cells #[.int .i64 1, .int .i64 0, .int .i64 0, .slice (some ⟨wa.heap.size, 0, none⟩) 1 1] 29) := ⟨_, rfl⟩
  have hU := first_unit wa w1 wb hw1 hwb w hba
  have hb1 : Below wa.heap.size wa w1 := by rw [hw1]; exact (Below.refl _ _).alloc (Nat.le_refl _) _
  have hbb : Below wa.heap.size wa wb := by rw [hwb]; exact hb1.alloc hb1.size _
  have hsz : wa.heap.size = w.heap.size + 1 := by rw [hwa]; simp
  rw [hsz] at hU
  have HU := Lib.hid hU
  have HS := Lib.hid (below_obj hbb hSa)
  have HR := Lib.hid hr
  have HN := Lib.hid hn
  have HLT : Hid (w.heap.size < wb.heap.size) := Lib.hid (heap_lt (below_obj hbb hSa))
  have HSB : Hid (∀ y, Below w.heap.size w y → Calls Try.prog 40 #[.agg #[.int .i64 sn, .int .i64 si, .int .i64 sd, .int .i64 sp, .slice sA m sC]] y (AnsT (Rc.sput ⟨sn, si, sd, sp, sl⟩) y)) := Lib.hid fun y hy =>
    sealBytes_any sn si sd sp sA sl m sC (fun _ => True) y hm' (by rw [hm']; exact hx.le) hx.max (hx.rd.old hy)
  have HW : Hid (wb = ((w.alloc (.cells #[.int .i64 sn, .int .i64 si, .int .i64 sd, .int .i64 sp, .slice sA m sC] 40)).alloc (.cells #[.int .u8 80] 5 (1, 2))).alloc (.cells #[.int .i64 1, .int .i64 0, .int .i64 0, .slice (some ⟨w.heap.size + 1, 0, none⟩) 1 1] 29)) := Lib.hid (by rw [hwb, hw1, hsz, hwa]; rfl)
  clear hr hn hx hwa hba hSa hw1 hwb hU hb1 hbb hsz hm'
  have kc := Go.Joins.run_convert_bytes_const_at (P := Try.prog) (w.alloc (sealObj sn si sd sp sA m sC)) 25 5 #[.int .u8 80] 1 1 (w.heap.size + 1) (by simp) Try.underlying25 Try.underlying5
  simp only [List.size_toArray, List.length_cons, List.length_nil, Nat.zero_add, Nat.reduceAdd] at kc
  unfold sealObj at kc
  go_enter Try.func18, Try.ntmps18
  go_wp2
  rw [← HW.out]
  clear kc
  go_loopw [14, 5] (fun vi v wr => ∃ (i : Nat) (us : List Ux), i ≤ n ∧ vi = .int .i64 (i : Int) ∧ us.length ≤ i + 1 ∧ Hid (UnitI w v us wr) ∧ Hid (us.map Ux.pair = (1, [80]) :: (rows.take i).map (fun b => ((6 : Int), b))) ∧ Hid (wr.heap[w.heap.size]? = some (sealObj sn si sd sp sA m sC))) (fun vi _ _ => n - (intOf vi).toNat)
  case atStart => exact ⟨0, _, Nat.zero_le _, rfl, Nat.le_refl _, HU, Lib.hid rfl, HS⟩
  case round =>
    obtain ⟨i, us, hi, rfl, hlen, HI, HM, HSW⟩ := hrel
    obtain ⟨v, rfl⟩ : ∃ v, v = u5 := ⟨u5, rfl⟩
    have hne : v.ownBlock ≠ some w.heap.size := fun e => by
      obtain ⟨c, hc⟩ := HI.out.own.block _ e
      rw [HSW.out] at hc
      unfold sealObj at hc
      injection hc with hc
      injection hc with _ e2
      exact absurd e2 (by decide)
    have HNE := Lib.hid hne
    clear hne
    by_cases hlt : i < n
    · have e0 : decide (i < n) = true := decide_eq_true hlt
      have hlt' : i < rows.length := by rw [← HN.out]; exact hlt
      obtain ⟨b, off, A', C', rfl, -, c0, hA', hr'⟩ := (HR.out.in_.old HI.out.bel).at_ hlt'
      have HM2 : Hid ((1, [80]) :: (rows.take (i + 1)).map (fun b => ((6 : Int), b)) = ((1, [80]) :: (rows.take i).map (fun b => ((6 : Int), b))) ++ [(6, rows[i])]) := Lib.hid (by
        rw [List.take_succ_eq_append_getElem hlt', List.map_append, List.cons_append]; rfl)
      obtain ⟨r, hr⟩ : ∃ r, r = rows[i] := ⟨_, rfl⟩
      rw [← hr] at c0 hA' hr' HM2
      obtain ⟨k, hk⟩ : ∃ k, k = r.length := ⟨_, rfl⟩
      rw [← hk] at c0
      have HK := Lib.hid hk
      have HUX : Hid (Ux.Ok ⟨6, r, A', C'⟩ wr (fun b => v.ownBlock ≠ some b)) := Lib.hid ⟨hA', hr'.mono fun x hx e => by have := (HI.out.own.lt x e).1; omega⟩
      have HM3 : Hid ((us ++ [(⟨6, r, A', C'⟩ : Ux)]).map Ux.pair = (1, [80]) :: (rows.take (i + 1)).map (fun b => ((6 : Int), b))) := Lib.hid (by
        rw [HM2.out, List.map_append, HM.out]; rfl)
      have HOB := Lib.hid (HI.out.own.old (w' := wr.alloc (.cells (Ux.enc ⟨6, r, A', C'⟩).toArray 29)) ((Below.refl _ _).alloc (Nat.le_refl _) _))
      have HNEW := Lib.hid (newCellsAt wr (Ux.enc ⟨6, r, A', C'⟩) 29 wr.heap.size rfl)
      have HIQ := HI
      unfold Ux.enc at HOB HNEW
      dsimp only at HOB HNEW
      rw [← HK.out] at HOB HNEW
      clear hr hk hA' hr' HM2
      go_wp2_with (at_builtin; refine wpList_append_stL encY _ rfl _ _ _ rfl w.heap.size 29 _ 48 Try.underlying61 infoUnit rfl _ us rfl HOB.out ⟨wr.heap.size, 0, none⟩ 1 1 [(⟨6, r, A', C'⟩ : Ux)] rfl rfl (by decide) (by rw [Enc.cells_one]; show ∀ j u, (Ux.enc _)[j]? = some u → _; unfold Ux.enc; dsimp only; rw [← HK.out]; exact HNEW.out) (by unfold maxLen; omega) (by omega) (by have := HIQ.out.bel.size; simp; omega) (wr.heap.size + 1) (by simp) ?_; intro g cap w3 hO3 hg3 hat3 _; have HI3 := Lib.hid (HIQ.out.push (x := ⟨6, r, A', C'⟩) HUX.out hO3 hg3 hat3); have HS3 : Hid (w3.heap[w.heap.size]? = some (sealObj sn si sd sp sA m sC)) := Lib.hid ((hg3.block _ (by have := heap_lt HSW.out; simp; omega) (fun e => HNE.out e.symm)).trans ((Below.heap_alloc _ _ _ (heap_lt HSW.out)).trans HSW.out)); clear hO3 hg3 hat3)
      go_wp2
      go_roundw
      case rel => exact ⟨i + 1, _, by omega, by go_num, by simp; omega, HI3, HM3, HS3⟩
      case measure => simp [intOf]; omega
    · have e0 : decide (i < n) = false := decide_eq_false hlt
      have HM2 : Hid (us.map Ux.pair = (1, [80]) :: rows.map (fun b => ((6 : Int), b))) := Lib.hid (by
        have h := HM.out
        rwa [List.take_of_length_le (by rw [← HN.out]; omega)] at h)
      obtain ⟨x0, x1, x2, x3, x4⟩ := seal5 HSW.out
      have HCL := Lib.hid (HSB.out wr HI.out.bel)
      obtain ⟨sb, hsb⟩ : ∃ sb, sb = Rc.sput ⟨sn, si, sd, sp, sl⟩ := ⟨_, rfl⟩
      have HFIN : Hid (says rows ⟨sn, si, sd, sp, sl⟩ = us.map Ux.pair ++ [(5, sb)]) := Lib.hid (by rw [HM2.out, hsb]; rfl)
      rw [← hsb] at HCL
      clear hsb
      go_wp2_with fail
      refine HCL.out.mono ?_
      rintro e w2 ⟨A2, k, C2, rfl, hk, -, -, hA2, hr2, hb2⟩
      have HIQ := Lib.hid (HI.out.old hb2)
      have HUX : Hid (Ux.Ok ⟨5, sb, A2, C2⟩ w2 (fun b => v.ownBlock ≠ some b)) := Lib.hid ⟨fun e => by rw [← hk]; exact hA2 e, hr2.mono fun x hx e => by have h1 := (HI.out.own.lt x e).2; have h2 : wr.heap.size ≤ x := hx; omega⟩
      have HK := Lib.hid hk
      have HOB := Lib.hid (HIQ.out.own.old (w' := w2.alloc (.cells (Ux.enc ⟨5, sb, A2, C2⟩).toArray 29)) ((Below.refl _ _).alloc (Nat.le_refl _) _))
      have HNEW := Lib.hid (newCellsAt w2 (Ux.enc ⟨5, sb, A2, C2⟩) 29 w2.heap.size rfl)
      unfold Ux.enc at HOB HNEW
      dsimp only at HOB HNEW
      rw [← HK.out] at HOB HNEW
      clear hb2 hA2 hr2 hk x0 x1 x2 x3 x4
      go_wp2_with (at_builtin; refine wpList_append_stL encY _ rfl _ _ _ rfl w.heap.size 29 _ 48 Try.underlying61 infoUnit rfl _ us rfl HOB.out ⟨w2.heap.size, 0, none⟩ 1 1 [(⟨5, sb, A2, C2⟩ : Ux)] rfl rfl (by decide) (by rw [Enc.cells_one]; show ∀ j u, (Ux.enc _)[j]? = some u → _; unfold Ux.enc; dsimp only; rw [← HK.out]; exact HNEW.out) (by unfold maxLen; omega) (by omega) (by have := HIQ.out.bel.size; simp; omega) (w2.heap.size + 1) (by simp) ?_; intro g cap w3 hO3 hg3 hat3 _; have HI3 := Lib.hid (HIQ.out.push (x := ⟨5, sb, A2, C2⟩) HUX.out hO3 hg3 hat3);  clear hO3 hg3 hat3)
      go_wp2
      go_ret
      exact ⟨_, _, rfl, by rw [List.map_append, HFIN.out]; rfl, HI3.out⟩
end Go.Proofs.Ytbkmpoabdnickaa
namespace Go.Proofs.Ytbkmpoabdnickaa
open Go.RowKit
open Pt (Tx)

/-- what Put answers: the block and the error -/
def PutU (u : Fm.U) (w : World) (e : Ending) (w' : World) : Prop :=
  ∃ A n C, e = .returned (.tuple #[.slice A n C, .int .i64 (Fm.err u)]) ∧ n = (Fm.put u).length ∧ n ≤ C ∧ C ≤ maxLen ∧ (A = none → n = 0 ∧ C = 0) ∧ RdL w' A (Fm.put u) (w.heap.size ≤ ·) ∧ Below w.heap.size w w'
set_option maxRecDepth 100000 in
theorem below_unit {k lb nb : Int} {A : Option Addr} {m C : Nat} {B : Nat} {x y : World} (hb : Below x.heap.size x y) (h : x.heap[B]? = some (unitObj k lb nb A m C)) : y.heap[B]? = some (unitObj k lb nb A m C) :=
  (hb.block B (heap_lt h)).trans h
set_option maxRecDepth 100000 in
theorem put_bad (k lb nb : Int) (A : Option Addr) (s : Tx) (m C : Nat) (w : World) (er : Int) (h0 : er = 1 ∨ er = 4) (he : Fm.err ⟨k, lb, nb, s⟩ = er)
    (hc : ∀ w, Calls Try.prog 57 #[.agg #[.int .i64 k, .int .i64 lb, .int .i64 nb, .slice A m C]] w (Checked 0 er w)) :
    Calls Try.prog 39 #[.agg #[.int .i64 k, .int .i64 lb, .int .i64 nb, .slice A m C]] w (PutU ⟨k, lb, nb, s⟩ w) := by
  have HB : Hid (Below w.heap.size w (w.alloc (unitObj k lb nb A m C))) := Lib.hid ((Below.refl _ _).alloc (Nat.le_refl _) _)
  obtain ⟨a0, a1, a2, a3⟩ := unit4 (Go.Deep.blk_alloc_new w (unitObj k lb nb A m C))
  unfold unitObj at a0 a1 a2 a3
  have HE := Lib.hid he
  have hp : Fm.put ⟨k, lb, nb, s⟩ = [] := Fm.put_no (fun h => by rw [Fm.err_ok h] at he; omega)
  have HP := Lib.hid hp
  have HC := Lib.hid hc
  clear he hp hc
  rcases h0 with rfl | rfl
  all_goals
    go_enter Try.func39, Try.ntmps39
    go_wp2_with fail
    refine (HC.out _).mono ?_
    rintro e w1 ⟨rfl, hb⟩
    have HB1 := Lib.hid (HB.out.trans (hb.mono HB.out.size))
    clear hb a0 a1 a2 a3
    go_wp2
    go_ret2
    refine ⟨none, 0, 0, by rw [HE.out]; rfl, by rw [HP.out]; rfl, Nat.le_refl _, by decide, fun _ => ⟨rfl, rfl⟩, by rw [HP.out]; exact RdL.empty _ _ _, HB1.out⟩
set_option maxRecDepth 100000 in
set_option maxHeartbeats 2000000 in
theorem put_good (k lb nb : Int) (A : Option Addr) (s : Tx) (m C : Nat) (G : Nat → Prop) (w : World) (hm : m = s.length) (hA : A = none → m = 0 ∧ C = 0) (hr : RdL w A s G) (hok : Fm.Ok ⟨k, lb, nb, s⟩) :
    Calls Try.prog 39 #[.agg #[.int .i64 k, .int .i64 lb, .int .i64 nb, .slice A m C]] w (PutU ⟨k, lb, nb, s⟩ w) := by
  obtain ⟨a0, a1, a2, a3⟩ := unit4 (Go.Deep.blk_alloc_new w (unitObj k lb nb A m C))
  have HB : Hid (Below w.heap.size w (w.alloc (unitObj k lb nb A m C))) := Lib.hid ((Below.refl _ _).alloc (Nat.le_refl _) _)
  have HU : Hid ((w.alloc (unitObj k lb nb A m C)).heap[w.heap.size]? = some (unitObj k lb nb A m C)) := Lib.hid (Go.Deep.blk_alloc_new _ _)
  have HK := Lib.hid hok
  have hroom : m ≤ Fm.room k := by rw [hm]; exact hok.2
  have hr79 := Fm.room_le k
  obtain ⟨R, hR⟩ : ∃ R, R = Fm.room k := ⟨_, rfl⟩
  have hchk := fun w => check_ok k lb nb A m C w ⟨hok.1.1, hok.1.2.1⟩ ⟨hok.1.2.2.1, hok.1.2.2.2.1, hok.1.2.2.2.2.1, hok.1.2.2.2.2.2⟩ hroom
  rw [← hR] at hchk hroom hr79
  have HC := Lib.hid hchk
  have HR := Lib.hid hr
  have HM := Lib.hid hm
  have HA := Lib.hid hA
  have HRM := Lib.hid hR
  have hsub : (R : Int) - (m : Int) = ((R - m : Nat) : Int) := by omega
  clear hok hm hA hr hR hchk
  unfold unitObj at a0 a1 a2 a3
  go_enter Try.func39, Try.ntmps39
  go_wp2_with fail
  refine (HC.out _).mono ?_
  rintro e w1 ⟨rfl, hb⟩
  have HB1 := Lib.hid (HB.out.trans (hb.mono HB.out.size))
  have HU1 := Lib.hid (below_unit hb HU.out)
  clear hb a0 a1 a2 a3 HU HB HC
  obtain ⟨a0, a1, a2, a3⟩ := unit4 HU1.out
  have hlt : w.heap.size < w1.heap.size := heap_lt HU1.out
  have hbel : Below w1.heap.size w1 w1.drew := (Below.refl _ _).drew
  have d0 : w1.drew.cell? ⟨w.heap.size, 0, none⟩ = some (.int .i64 k) := a0
  have d1 : w1.drew.cell? ⟨w.heap.size, 1, none⟩ = some (.int .i64 lb) := a1
  have d2 : w1.drew.cell? ⟨w.heap.size, 2, none⟩ = some (.int .i64 nb) := a2
  have d3 : w1.drew.cell? ⟨w.heap.size, 3, none⟩ = some (.slice A m C) := a3
  go_wp2_with fail
  go_region_held3 (fun w' => w'.cell? ⟨w.heap.size, 0, none⟩ = some (.int .i64 k) ∧ w'.cell? ⟨w.heap.size, 1, none⟩ = some (.int .i64 lb) ∧ w'.cell? ⟨w.heap.size, 2, none⟩ = some (.int .i64 nb) ∧ w'.cell? ⟨w.heap.size, 3, none⟩ = some (.slice A m C) ∧ Below w1.heap.size w1 w')
    (first
      | exact ⟨f0, f1, f2, f3, hbz⟩
      | exact ⟨e0, e1, e2, e3, hbt⟩
      | exact ⟨d0, d1, d2, d3, hbel⟩)
    (first
      | (go_at_call 58; refine (head_any k lb nb A s m C w1.drew HM.out).mono ?_; rintro e wn ⟨b, n, rfl, hn, hlo, hcl, hbn⟩; have hbt : Below w1.heap.size w1 wn := hbel.trans hbn; obtain ⟨e0, e1, e2, e3⟩ := unit4 (below_unit hbt HU1.out); have hnl : n = 11 := hn; subst hnl; have hO : OwnL wn w1.heap.size (.slice (some ⟨b, 0, none⟩) 11 11) (Fm.head ⟨k, lb, nb, s⟩) := own_of_cells hcl hlo rfl (by rw [Fm.head_len]; decide); have HS : RdL wn A s (· < w.heap.size) := ((HR.out.in_.old (HB1.out.trans (hbt.mono HB1.out.size))).mono (fun _ h => h.2)); obtain ⟨A4, C4, w4, hr4, hO4, hG4⟩ := ap_run wn w1.heap.size _ _ hO A m C s _ HM.out.symm HA.out HS (by rw [Fm.head_len]; omega) hbt.size (11 + m) rfl; have hbz : Below w1.heap.size w1 w4 := hbt.grown hG4 hbt.size (fun x hx => hO.lo x hx); obtain ⟨f0, f1, f2, f3⟩ := unit4 (below_unit hbz HU1.out); clear hn hlo hcl hbn hO HS hG4)
      | (refine step_append_eq (by rfl) _ _ _ _ (by rfl) _ _ _ _ hr4 (by rfl) (by rfl) ?_))
  have HO4 := Lib.hid hO4
  have HBZ := Lib.hid hbz
  clear hO4 hbz hbt e0 e1 e2 e3 d0 d1 d2 d3 a0 a1 a2 a3 hbel hr4
  have hh11 : (Fm.head ⟨k, lb, nb, s⟩ ++ s).length = 11 + m := by rw [List.length_append, Fm.head_len, ← HM.out]
  obtain ⟨A5, C5, w5, hr5, hO5, hG5⟩ := apz_run w4 w1.heap.size _ _ HO4.out (by omega) (R - m) (by omega) HBZ.out.size (((R - m : Nat) : Int)) rfl (11 + R) (by omega)
  have hbz5 : Below w1.heap.size w1 w5 := HBZ.out.grown hG5 HBZ.out.size (fun x hx => HO4.out.lo x hx)
  have HB5 := Lib.hid hbz5
  have HBD : Hid (Fm.body ⟨k, lb, nb, s⟩ = Fm.head ⟨k, lb, nb, s⟩ ++ s ++ List.replicate (R - m) 0) := Lib.hid (by unfold Fm.body Fm.pad; rw [HRM.out, HM.out])
  rw [← HBD.out] at hO5
  have hl5 : (Fm.body ⟨k, lb, nb, s⟩).length = 11 + R := by rw [Fm.body_len HK.out, HRM.out]
  have HL5 := Lib.hid hl5
  have HO5 := Lib.hid hO5
  clear hO5 hG5 hbz5 hh11 hl5
  go_wp2_with (at_builtin; refine Lib.wpList_append_run _ rfl _ _ _ _ rfl _ _ rfl rfl _ _ (hr5 _) ?_)
  have HS5 := Lib.hid (RdL.mono (by obtain ⟨A', C', e, _, _, _, h⟩ := HO5.out.rd; injection e with e1 e2 e3; subst e1; exact h) (fun _ _ => trivial) : RdL w5 A5 (Fm.body ⟨k, lb, nb, s⟩) (fun _ => True))
  go_wp2_with fail
  refine (tail_any A5 (Fm.body ⟨k, lb, nb, s⟩) (11 + R) C5 _ w5 HL5.out.symm (by rw [HL5.out]; omega) HS5.out).mono ?_
  rintro e w6 ⟨b6, n6, rfl, hn6, hlo6, hcl6, hb6⟩
  have hn6' : n6 = 4 := hn6
  subst hn6'
  have hbz6 : Below w1.heap.size w1 w6 := HB5.out.trans (hb6.mono HB5.out.size)
  have hO6 : OwnL w6 w1.heap.size (.slice A5 (11 + R) C5) (Fm.body ⟨k, lb, nb, s⟩) := HO5.out.of_block fun x hx => hb6.block x (HO5.out.lt x hx)
  obtain ⟨A7, C7, w7, hr7, hO7, hG7⟩ := ap_run w6 w1.heap.size _ _ hO6 (some ⟨b6, 0, none⟩) 4 4 (Cd.be4 (sumL (Fm.body ⟨k, lb, nb, s⟩))) _ rfl (fun h => by cases h) (rd_of_cells hcl6) (by rw [HL5.out]; omega) hbz6.size (15 + R) (by rw [HL5.out]; omega)
  have HB7 := Lib.hid (HB1.out.trans ((hbz6.grown hG7 hbz6.size (fun x hx => hO6.lo x hx)).mono HB1.out.size))
  have HO7 := Lib.hid hO7
  have HZ7 := Lib.hid HB1.out.size
  clear hn6 hlo6 hcl6 hb6 hbz6 hO6 hO7 hG7
  go_wp2_with (at_builtin; refine Lib.wpList_append_run _ rfl _ _ _ _ rfl _ _ rfl rfl _ _ (hr7 _) ?_)
  go_ret2
  have hput : Fm.put ⟨k, lb, nb, s⟩ = Fm.body ⟨k, lb, nb, s⟩ ++ Cd.be4 (sumL (Fm.body ⟨k, lb, nb, s⟩)) := Fm.put_ok HK.out
  have hlen : (Fm.body ⟨k, lb, nb, s⟩ ++ Cd.be4 (sumL (Fm.body ⟨k, lb, nb, s⟩))).length = 15 + R := by rw [List.length_append, HL5.out, Cd.be4_len]; omega
  obtain ⟨A8, C8, e8, g1, g2, g3, g4⟩ := HO7.out.rd
  injection e8 with x1 x2 x3
  subst x1 x3
  rw [← x2] at g1 g3
  refine ⟨A7, 15 + R, C7, by rw [Fm.err_ok HK.out]; rfl, by rw [hput, hlen], g1, g2, g3, ?_, HB7.out⟩
  rw [hput]
  exact g4.mono fun x h => Nat.le_trans HZ7.out h.1
set_option maxRecDepth 100000 in
theorem framePut_any (k lb nb : Int) (A : Option Addr) (s : Tx) (m C : Nat) (G : Nat → Prop) (w : World) (hm : m = s.length) (hA : A = none → m = 0 ∧ C = 0) (hr : RdL w A s G) :
    Calls Try.prog 39 #[.agg #[.int .i64 k, .int .i64 lb, .int .i64 nb, .slice A m C]] w (PutU ⟨k, lb, nb, s⟩ w) := by
  by_cases ha : Fm.argOk ⟨k, lb, nb, s⟩
  · by_cases hl : Fm.room k < m
    · exact put_bad k lb nb A s m C w 4 (.inr rfl) (Fm.err_long ha (by rw [hm] at hl; exact hl)) fun w => check_long k lb nb A m C w ⟨ha.1, ha.2.1⟩ ⟨ha.2.2.1, ha.2.2.2.1, ha.2.2.2.2.1, ha.2.2.2.2.2⟩ hl
    · exact put_good k lb nb A s m C G w hm hA hr ⟨ha, by show s.length ≤ Fm.room k; omega⟩
  · refine put_bad k lb nb A s m C w 1 (.inl rfl) (Fm.err_arg ha) fun w => ?_
    by_cases hk : k < 1 ∨ 6 < k
    · exact check_kind k lb nb A m C w hk
    · refine check_arg k lb nb A m C w (by omega) ?_
      unfold Fm.argOk at ha
      simp only at ha
      omega
end Go.Proofs.Ytbkmpoabdnickaa
namespace Go.Proofs.Ytbkmpoabdnickaa
open Go.RowKit
open Pt (Tx)

/-- rows are set one by one in a row of the call's own -/
structure BlksI (w : World) (g n : Nat) (bs : List Tx) (wr : World) : Prop where
  row : ∃ V, RowV wr 25 g n V ∧ ∀ i (hi : i < bs.length), ∃ A C, V i = .slice A bs[i].length C ∧ bs[i].length ≤ C ∧ (A = none → bs[i].length = 0 ∧ C = 0) ∧ RdL wr A bs[i] (fun b => w.heap.size ≤ b ∧ b ≠ g)
  lo : w.heap.size ≤ g
  bel : Below w.heap.size w wr
namespace BlksI
variable {w wr w2 : World} {g n : Nat} {bs : List Tx}
theorem start (w : World) (n : Nat) : BlksI w w.heap.size n [] (w.alloc (.cells (madeCells #[.slice none 0 0] n) 25)) :=
  ⟨⟨_, RowV.made w (.slice none 0 0) 25 n, fun i hi => absurd hi (by simp)⟩, Nat.le_refl _, (Below.refl _ _).alloc (Nat.le_refl _) _⟩
theorem old (h : BlksI w g n bs wr) (hb : Below wr.heap.size wr w2) : BlksI w g n bs w2 := by
  obtain ⟨V, hV, hr⟩ := h.row
  refine ⟨⟨V, hV.old hb, fun i hi => ?_⟩, h.lo, h.bel.trans (hb.mono h.bel.size)⟩
  obtain ⟨A, C, h1, h2, h3, h4⟩ := hr i hi
  exact ⟨A, C, h1, h2, h3, h4.old hb⟩
/-- what is as it was: all but some blocks behind the row -/
theorem kp (h : BlksI w g n bs wr) {S : Nat → Prop} (hk : Kp S wr w2) (hS : ∀ k, S k → w.heap.size ≤ k ∧ wr.heap.size ≤ k) : BlksI w g n bs w2 := by
  obtain ⟨V, hV, hr⟩ := h.row
  have hlt := hV.lt
  refine ⟨⟨V, hV.kp hk (fun e => by have := hS g e; omega), fun i hi => ?_⟩, h.lo, h.bel.trans (hk.below h.bel.size fun k e => (hS k e).1)⟩
  obtain ⟨A, C, h1, h2, h3, h4⟩ := hr i hi
  exact ⟨A, C, h1, h2, h3, (h4.in_.kp hk fun b hb e => by have := hS b e; omega).mono fun b hb => hb.1⟩
theorem cell (h : BlksI w g n bs wr) {k : Nat} (hk : k < n) : ∃ v, wr.cell? ⟨g, k, none⟩ = some v ∧ wr.frozen? ⟨g, k, none⟩ = false := by
  obtain ⟨V, hV, _⟩ := h.row
  exact ⟨V k, hV.cell hk, hV.frozen k⟩
theorem set (h : BlksI w g n bs wr) {k : Nat} (hk : k = bs.length) {s : Tx} {A : Option Addr} {C : Nat} (hC : s.length ≤ C) (hA : A = none → s.length = 0 ∧ C = 0) (hr : RdL wr A s (fun b => w.heap.size ≤ b ∧ b ≠ g)) : BlksI w g n (bs ++ [s]) (wr.setCell ⟨g, k, none⟩ (.slice A s.length C)) := by
  obtain ⟨V, hV, hrows⟩ := h.row
  have hkp : Kp (· = g) wr (wr.setCell ⟨g, k, none⟩ (.slice A s.length C)) := Kp.store _ _ _ _
  refine ⟨⟨_, hV.set k _, fun i hi => ?_⟩, h.lo, h.bel.trans (hkp.below h.bel.size fun x e => by have := h.lo; omega)⟩
  rw [List.length_append, List.length_singleton] at hi
  by_cases e : i = k
  · have e' : (bs ++ [s])[i]'(by rw [List.length_append, List.length_singleton]; exact hi) = s := by
      simp [e, hk]
    rw [e']
    refine ⟨A, C, ?_, hC, hA, hr.kp hkp fun b hb e => hb.2 e⟩
    simp [e]
  · have hi' : i < bs.length := by omega
    obtain ⟨A', C', h1, h2, h3, h4⟩ := hrows i hi'
    rw [List.getElem_append_left hi']
    refine ⟨A', C', ?_, h2, h3, h4.kp hkp fun b hb e => hb.2 e⟩
    simp only [e, if_false]; exact h1
theorem rdB (h : BlksI w g n bs wr) (hn : bs.length ≤ n) : RdB wr (some ⟨g, 0, none⟩) bs (w.heap.size ≤ ·) := fun _ => by
  obtain ⟨V, hV, hr⟩ := h.row
  refine ⟨g, 0, rfl, h.lo, fun i hi => ?_⟩
  obtain ⟨A, C, h1, h2, h3, h4⟩ := hr i hi
  exact ⟨A, C, by rw [Nat.zero_add, hV.cell (by omega), h1], h2, h3, h4.mono fun b hb => hb.1⟩
end BlksI
/-- blocks are answered, in new memory -/
def BlocksG (bs : List Tx) (w : World) (e : Ending) (w' : World) : Prop :=
  ∃ A C, e = .returned (.tuple #[.slice A bs.length C, .int .i64 0]) ∧ bs.length ≤ C ∧ C ≤ maxLen ∧ (A = none → bs.length = 0 ∧ C = 0) ∧ RdB w' A bs (w.heap.size ≤ ·) ∧ Below w.heap.size w w'
set_option maxRecDepth 100000 in
set_option maxHeartbeats 4000000 in
theorem framed_ok (label : Int) (A : Option Addr) (us : List Ux) (n C : Nat) (G : Nat → Prop) (w : World) (hn : n = us.length) (hm : n ≤ 2000000) (hr : encY.Rd w A us G) (hu : ∀ u ∈ us, u.Ok w (fun _ => True)) (hok : ∀ i (hi : i < us.length), Fm.Ok ⟨us[i].kind, label, (i : Int), us[i].s⟩) :
    Calls Try.prog 17 #[.int .i64 label, .slice A n C] w (BlocksG (framedL label (us.map Ux.pair)) w) := by
  obtain ⟨w0, hw0⟩ : ∃ w0, w0 = w.alloc (.cells (madeCells #[.slice none 0 0] n) 25) := ⟨_, rfl⟩
  have hmk := run_make_row' (P := Try.prog) 30 25 (.slice none 0 0) 24 Try.underlying30 infoRowT rfl .i64 .i64 n (by omega) (by omega)
  have hI0 : BlksI w w.heap.size n ((framedL label (us.map Ux.pair)).take 0) w0 := by rw [hw0]; exact BlksI.start w n
  have HI0 := Lib.hid hI0
  have HR := Lib.hid hr
  have HU := Lib.hid hu
  have HOK := Lib.hid hok
  have HN := Lib.hid hn
  have HW := Lib.hid hw0
  have HFL : Hid ((framedL label (us.map Ux.pair)).length = n) := Lib.hid (by rw [framedL_len, List.length_map, hn])
  clear hI0 hr hu hok hn hw0
  go_enter Try.func17, Try.ntmps17
  go_wp2
  rw [← HW.out]
  clear hmk
  obtain ⟨gB, hgB⟩ : ∃ gB, gB = w.heap.size := ⟨_, rfl⟩
  rw [← hgB] at HI0
  have HGB := Lib.hid hgB
  rw [← hgB]
  clear hgB
  go_loopw [16] (fun vi wr => ∃ k : Nat, k ≤ n ∧ vi = .int .i64 (k : Int) ∧ Hid (BlksI w gB n ((framedL label (us.map Ux.pair)).take k) wr)) (fun vi _ => n - (intOf vi).toNat)
  case atStart => exact ⟨0, Nat.zero_le _, rfl, HI0⟩
  case round =>
    obtain ⟨k, hk, rfl, HI⟩ := hrel
    by_cases hlt : k < n
    · have e0 : decide (k < n) = true := decide_eq_true hlt
      have hlt' : k < us.length := by rw [← HN.out]; exact hlt
      obtain ⟨b, off, rfl, -, hc⟩ := (HR.out.old HI.out.bel).at_ hlt'
      have hux := HU.out _ (List.getElem_mem hlt')
      have hokk := HOK.out k hlt'
      have hfk : (framedL label (us.map Ux.pair)).take (k + 1) = (framedL label (us.map Ux.pair)).take k ++ [Fm.blk ⟨us[k].kind, label, (k : Int), us[k].s⟩] := by
        rw [List.take_succ_eq_append_getElem (by rw [HFL.out]; exact hlt), framedL_at (by rw [List.length_map]; exact hlt')]
        simp [Ux.pair]
      obtain ⟨⟨uk, s, uA, uC⟩, hu⟩ : ∃ u, u = us[k] := ⟨_, rfl⟩
      rw [← hu] at hc hux hokk hfk
      dsimp only at hokk hfk
      obtain ⟨m, hm'⟩ : ∃ m, m = s.length := ⟨_, rfl⟩
      have c0 : wr.cell? ⟨b, off + k * 4, none⟩ = some (.int .i64 uk) := hc 0 _ rfl
      have c1 : wr.cell? ⟨b, off + k * 4 + 1, none⟩ = some (.int .i64 0) := hc 1 _ rfl
      have c2 : wr.cell? ⟨b, off + k * 4 + 2, none⟩ = some (.int .i64 0) := hc 2 _ rfl
      have c3 : wr.cell? ⟨b, off + k * 4 + 3, none⟩ = some (.slice uA m uC) := by rw [hm']; exact hc 3 _ rfl
      obtain ⟨wb, hwb⟩ : ∃ wb, wb = wr.alloc (unitObj uk label (k : Int) uA m uC) := ⟨_, rfl⟩
      have hbb : Below wr.heap.size wr wb := by rw [hwb]; exact (Below.refl _ _).alloc (Nat.le_refl _) _
      have HIB := Lib.hid (HI.out.old hbb)
      have hput := framePut_any uk label (k : Int) uA s m uC (fun _ => True) wb hm' (by rw [hm']; exact hux.nil) ((hux.rd.old HI.out.bel).old hbb)
      unfold PutU at hput
      rw [Fm.err_ok hokk, Fm.put_ok hokk] at hput
      obtain ⟨bl, hbl⟩ : ∃ bl, bl = Fm.blk ⟨uk, label, (k : Int), s⟩ := ⟨_, rfl⟩
      rw [← hbl] at hput hfk
      have HP := Lib.hid hput
      have HFK := Lib.hid hfk
      have HKL : Hid (k = ((framedL label (us.map Ux.pair)).take k).length) := Lib.hid (by rw [List.length_take, HFL.out]; omega)
      have HWB := Lib.hid hwb
      unfold unitObj at HWB
      clear hu hc hux hokk hfk hm' hwb hbb hput hbl
      have hlo : gB < wr.heap.size := by
        obtain ⟨V, hV, _⟩ := HI.out.row
        exact hV.lt
      have hlo2 : wr.heap.size ≤ wb.heap.size := by rw [HWB.out]; simp
      go_wp2_with fail
      rw [← HWB.out]
      refine HP.out.mono ?_
      rintro e w2 ⟨A2, m2, C2, rfl, hm2, hc2, -, hA2, hr2, hb2⟩
      have hI2 := HIB.out.old hb2
      obtain ⟨cv, d0, d1⟩ := hI2.cell hlt
      have hset := hI2.set HKL.out (s := bl) (A := A2) (C := C2) (by rw [← hm2]; exact hc2) (fun e => by rw [← hm2]; exact hA2 e) (hr2.mono fun x hx => by
        have h1 : wb.heap.size ≤ x := hx
        have h2 := HI.out.bel.size
        omega)
      rw [← HFK.out, ← hm2] at hset
      have HSET := Lib.hid hset
      clear hI2 hset hm2 hc2 hA2 hr2 hb2 c0 c1 c2 c3
      go_wp2
      go_roundw
      case rel => exact ⟨k + 1, by omega, by go_num, HSET⟩
      case measure => simp [intOf]; omega
    · have e0 : decide (k < n) = false := decide_eq_false hlt
      have hI := HI.out
      rw [List.take_of_length_le (by rw [HFL.out]; omega)] at hI
      have HIE := Lib.hid hI
      clear hI
      go_wp2
      go_ret2
      exact ⟨some ⟨gB, 0, none⟩, n, by rw [HFL.out]; rfl, by rw [HFL.out]; exact Nat.le_refl _, by unfold maxLen; omega, (fun e => by cases e), HIE.out.rdB (by rw [HFL.out]; exact Nat.le_refl _), HIE.out.bel⟩
end Go.Proofs.Ytbkmpoabdnickaa
