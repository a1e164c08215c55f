/- The law MatrixCauchy answers true, whatever it is given. -/
import Derived.Test.YtanaldojoacbeaaMxCauLaw
namespace Go.Proofs.Ytanaldojoacbeaa
open Go.RowKit Mx

set_option maxRecDepth 100000 in
set_option maxHeartbeats 4000000 in
/-- there is no such Cauchy -/
theorem matrixCauchy_none (d p : Int) (A : Option Addr) (s C : Nat) (A' : Option Addr) (s' C' : Nat) (w : World) (h1 : -9223372036854775808 ≤ d) (h3 : -9223372036854775808 ≤ p) (hd : d ≤ 30) (hp : p ≤ 30) (hs : s ≤ 8) (hss : s ≤ s') (hbad : d < 1 ∨ p < 1) :
    Calls Try.prog 4 #[.int .i64 d, .int .i64 p, .slice A s C, .slice A' s' C'] w fun e w' => e = .returned (.bool true) ∧ Below w.heap.size w w' := by
  have HBD : Hid (d < 1 ∨ p < 1 ∨ 255 < p ∨ 255 - p < d) := Lib.hid (by omega)
  clear hbad
  have q1 : decide (30 < d) = false := decide_eq_false (by omega)
  have q2 : decide (30 < p) = false := decide_eq_false (by omega)
  have q3 : decide (8 < (s : Int)) = false := decide_eq_false (by omega)
  have q4 : decide (s' < s) = false := decide_eq_false (by omega)
  have q5 : decide ((s' : Int) < (s : Int)) = false := decide_eq_false (by omega)
  go_enter Try.func4, Try.ntmps4
  go_wp2_with fail
  refine (alive_true _).mono ?_
  rintro e w1 ⟨rfl, hB⟩
  have HB := Lib.hid hB
  clear hB
  go_wp2_with fail
  refine (cauchy_bad d p _ h1 (by omega) h3 (by omega) HBD.out).mono ?_
  rintro e w2 ⟨A2, C2, rfl, hr2, hB2⟩
  have HR2 := Lib.hid hr2
  have HT2 := Lib.hid (HB.out.trans (hB2.mono HB.out.size))
  clear hr2 hB2 HB
  go_wp2_with fail
  refine (refCauchy_bad d p _ h1 (by omega) h3 (by omega) HBD.out).mono ?_
  rintro e w3 ⟨A3, C3, rfl, hr3, hB3⟩
  have HR3 := Lib.hid hr3
  have HX3 := Lib.hid (HR2.out.below hB3)
  have HT3 := Lib.hid (HT2.out.trans (hB3.mono HT2.out.size))
  clear hr3 hB3 HT2 HR2
  go_wp2_with fail
  refine (num_any _ _).mono ?_
  rintro e w' ⟨rfl, rfl⟩
  go_wp2_with fail
  refine (sameRows_any _ _ _ _ _ _ _ _ _ _ _ (by unfold maxLen; omega) HX3.out HR3.out (fun _ _ _ _ => rfl)).mono ?_
  rintro e w4 ⟨rfl, hB4⟩
  have HT4 := Lib.hid (HT3.out.trans (hB4.mono HT3.out.size))
  clear hB4
  go_wp2
  go_ret
  exact ⟨rfl, HT4.out⟩

set_option maxRecDepth 100000 in
set_option maxHeartbeats 4000000 in
/-- there is one, and no part of it is asked for -/
theorem matrixCauchy_few (d p : Nat) (A : Option Addr) (s C : Nat) (A' : Option Addr) (s' C' : Nat) (w : World) (hd : d ≤ 30) (hp : p ≤ 30) (hd0 : 0 < d) (hp0 : 0 < p) (hs : s ≤ 8) (hss : s ≤ s') (hout : s = 0 ∨ (0 < s ∧ p < s) ∨ (0 < s ∧ s ≤ p ∧ d < s)) :
    Calls Try.prog 4 #[.int .i64 (d : Int), .int .i64 (p : Int), .slice A s C, .slice A' s' C'] w fun e w' => e = .returned (.bool true) ∧ Below w.heap.size w w' := by
  have q1 : decide (30 < (d : Int)) = false := decide_eq_false (by omega)
  have q2 : decide (30 < (p : Int)) = false := decide_eq_false (by omega)
  have q3 : decide (8 < (s : Int)) = false := decide_eq_false (by omega)
  have q4 : decide (s' < s) = false := decide_eq_false (by omega)
  have q5 : decide ((s' : Int) < (s : Int)) = false := decide_eq_false (by omega)
  have HO := Lib.hid hout
  clear hout
  go_enter Try.func4, Try.ntmps4
  go_wp2_with fail
  refine (alive_true _).mono ?_
  rintro e w1 ⟨rfl, hB⟩
  have HB := Lib.hid hB
  clear hB
  go_wp2_with fail
  refine (cauchy_main d p _ hd0 hp0 (by omega)).mono ?_
  rintro e w2 ⟨A2, C2, rfl, hr2, hB2⟩
  have HR2 := Lib.hid hr2
  have HT2 := Lib.hid (HB.out.trans (hB2.mono HB.out.size))
  clear hr2 hB2 HB
  go_wp2_with fail
  refine (refCauchy_main d p _ hd0 hp0 (by omega)).mono ?_
  rintro e w3 ⟨A3, C3, rfl, hr3, hB3⟩
  have HR3 := Lib.hid hr3
  have HX3 := Lib.hid (HR2.out.below hB3)
  have HT3 := Lib.hid (HT2.out.trans (hB3.mono HT2.out.size))
  clear hr3 hB3 HT2 HR2
  go_wp2_with fail
  refine (num_any _ _).mono ?_
  rintro e w' ⟨rfl, rfl⟩
  go_wp2_with fail
  refine (sameRows_any _ _ _ _ _ _ _ _ _ _ _ (by unfold maxLen; omega) HX3.out HR3.out (fun _ _ _ _ => rfl)).mono ?_
  rintro e w4 ⟨rfl, hB4⟩
  have HT4 := Lib.hid (HT3.out.trans (hB4.mono HT3.out.size))
  clear hB4 HX3 HR3 HT3
  rcases HO.out with h0 | ⟨h0, h1⟩ | ⟨h0, h1, h2⟩
  · have q6 : ((s : Int) == 0) = true := by rw [h0]; rfl
    clear h0
    go_wp2
    go_ret
    exact ⟨rfl, HT4.out⟩
  · have q6 : ((s : Int) == 0) = false := beq_eq_false_iff_ne.2 (by omega)
    have q7 : decide (p < s) = true := decide_eq_true (by omega)
    have q8 : decide ((p : Int) < (s : Int)) = true := decide_eq_true (by omega)
    go_wp2
    go_ret
    exact ⟨rfl, HT4.out⟩
  · have q6 : ((s : Int) == 0) = false := beq_eq_false_iff_ne.2 (by omega)
    have q7 : decide (p < s) = false := decide_eq_false (by omega)
    have q8 : decide ((p : Int) < (s : Int)) = false := decide_eq_false (by omega)
    have q9 : decide (d < s) = true := decide_eq_true (by omega)
    have q10 : decide ((d : Int) < (s : Int)) = true := decide_eq_true (by omega)
    go_wp2
    go_ret
    exact ⟨rfl, HT4.out⟩

set_option maxRecDepth 100000 in
set_option maxHeartbeats 4000000 in
/-- what is asked for is too great -/
theorem matrixCauchy_out (d p : Int) (A : Option Addr) (s C : Nat) (A' : Option Addr) (s' C' : Nat) (w : World) (hl : s ≤ maxLen) (hout : 30 < d ∨ (d ≤ 30 ∧ 30 < p) ∨ (d ≤ 30 ∧ p ≤ 30 ∧ 8 < s) ∨ (d ≤ 30 ∧ p ≤ 30 ∧ s ≤ 8 ∧ s' < s)) :
    Calls Try.prog 4 #[.int .i64 d, .int .i64 p, .slice A s C, .slice A' s' C'] w fun e w' => e = .returned (.bool true) ∧ Below w.heap.size w w' := by
  unfold maxLen at hl
  rcases hout with h1 | ⟨h1, h2⟩ | ⟨h1, h2, h3⟩ | ⟨h1, h2, h3, h4⟩
  all_goals
    go_enter Try.func4, Try.ntmps4
    go_wp2_with fail
    refine (alive_true _).mono ?_
    rintro e w1 ⟨rfl, hB⟩
    have HB := Lib.hid hB
    clear hB
    go_wp2
    go_ret
    exact ⟨rfl, HB.out⟩

theorem matrixCauchy_walk (d p : Int) (A : Option Addr) (s C : Nat) (zr : Nat → Int) (A' : Option Addr) (s' C' : Nat) (zc : Nat → Int) (w : World) (h1 : -9223372036854775808 ≤ d) (h3 : -9223372036854775808 ≤ p) (hl : s ≤ maxLen) (hl' : s' ≤ maxLen) (h : RdI w A s zr) (h' : RdI w A' s' zc) :
    Calls Try.prog 4 #[.int .i64 d, .int .i64 p, .slice A s C, .slice A' s' C'] w fun e w' => e = .returned (.bool true) ∧ Below w.heap.size w w' := by
  by_cases hout : 30 < d ∨ 30 < p ∨ 8 < s ∨ s' < s
  · exact matrixCauchy_out d p A s C A' s' C' w hl (by omega)
  · by_cases hbad : d < 1 ∨ p < 1
    · exact matrixCauchy_none d p A s C A' s' C' w h1 h3 (by omega) (by omega) (by omega) (by omega) hbad
    · obtain ⟨d, rfl⟩ := Int.eq_ofNat_of_zero_le (show 0 ≤ d by omega)
      obtain ⟨p, rfl⟩ := Int.eq_ofNat_of_zero_le (show 0 ≤ p by omega)
      by_cases hfew : s = 0 ∨ p < s ∨ d < s
      · exact matrixCauchy_few d p A s C A' s' C' w (by omega) (by omega) (by omega) (by omega) (by omega) (by omega) (by omega)
      · exact matrixCauchy_main d p A s C zr A' s' C' zc w (by omega) (by omega) (by omega) (by omega) (by omega) (by omega) (by omega) (by omega) (by omega) hl' h h'
end Go.Proofs.Ytanaldojoacbeaa
