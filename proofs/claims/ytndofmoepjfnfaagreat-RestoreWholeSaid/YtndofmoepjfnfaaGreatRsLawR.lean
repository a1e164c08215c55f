/- The law of chapter 19, whatever is drawn. -/
import Derived.Test.YtndofmoepjfnfaaGreatMbl
import Derived.Test.YtndofmoepjfnfaaGreatMal
namespace Go.Proofs.YtndofmoepjfnfaaGreat
open Go.RowKit
open Pt (Tx)

set_option maxRecDepth 100000 in
theorem restoreWhole_no (A0 : Option Addr) (L C0 : Nat) (A1 : Option Addr) (m C1 : Nat) (A2 : Option Addr) (q C2 : Nat) (w : World) (h : 2000 < L ∨ 10 < m ∨ 10 < q) :
    Calls Tryz.prog 3 #[.slice A0 L C0, .slice A1 m C1, .slice A2 q C2] w fun e w' => e = .returned (.bool true) ∧ Below w.heap.size w w' := by
  have hq : (decide (2000 < L) = true ∧ decide ((2000 : Int) < (L : Int)) = true) ∨ (decide (2000 < L) = false ∧ decide ((2000 : Int) < (L : Int)) = false ∧ decide (10 < m) = true ∧ decide ((10 : Int) < (m : Int)) = true) ∨ (decide (2000 < L) = false ∧ decide ((2000 : Int) < (L : Int)) = false ∧ decide (10 < m) = false ∧ decide ((10 : Int) < (m : Int)) = false ∧ decide (10 < q) = true ∧ decide ((10 : Int) < (q : Int)) = true) := by
    by_cases h1 : 2000 < L
    · exact .inl ⟨decide_eq_true h1, decide_eq_true (by omega)⟩
    · by_cases h2 : 10 < m
      · exact .inr (.inl ⟨decide_eq_false h1, decide_eq_false (by omega), decide_eq_true h2, decide_eq_true (by omega)⟩)
      · have h3 : 10 < q := by omega
        exact .inr (.inr ⟨decide_eq_false h1, decide_eq_false (by omega), decide_eq_false h2, decide_eq_false (by omega), decide_eq_true h3, decide_eq_true (by omega)⟩)
  clear h
  rcases hq with ⟨q1, q1'⟩ | ⟨q1, q1', q2, q2'⟩ | ⟨q1, q1', q2, q2', q3, q3'⟩
  all_goals
    go_enter Tryz.func3, Tryz.ntmps3
    go_wp2_with (go_at_call 4; refine (alive19_true _).mono ?_; rintro e w1 ⟨rfl, hb1⟩; have HB1 := Lib.hid hb1; clear hb1)
    go_ret
    exact ⟨rfl, HB1.out⟩
theorem restoreWhole_walk (A0 : Option Addr) (b : Tx) (C0 : Nat) (A1 : Option Addr) (m C1 : Nat) (z1 : Nat → Int) (A2 : Option Addr) (q C2 : Nat) (z2 : Nat → Int) (w : World) (hC0 : b.length ≤ C0) (hCm : C0 ≤ maxLen) (hr0 : RdL w A0 b (fun _ => True)) (hr1 : RdI w A1 m z1) (hr2 : RdI w A2 q z2) :
    Calls Tryz.prog 3 #[.slice A0 b.length C0, .slice A1 m C1, .slice A2 q C2] w fun e w' => e = .returned (.bool true) ∧ Below w.heap.size w w' := by
  by_cases h : 2000 < b.length ∨ 10 < m ∨ 10 < q
  · exact restoreWhole_no A0 b.length C0 A1 m C1 A2 q C2 w h
  · exact restoreWhole_main A0 b b.length C0 _ A1 m C1 z1 A2 q C2 z2 w rfl (by omega) hC0 hCm hr0 (by omega) hr1 (by omega) hr2
end Go.Proofs.YtndofmoepjfnfaaGreat
