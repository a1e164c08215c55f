/- TapeRots, whatever it is given. -/
import Derived.Test.YtflcnghjhgfkfaaTpRots
import Derived.Test.YtflcnghjhgfkfaaLsOpen
namespace Go.Proofs.Ytflcnghjhgfkfaa
open Go.RowKit
open Pt (Tx)

set_option maxRecDepth 100000 in
theorem rots_any (a b : Int) (A : Option Addr) (t : Tx) (C : Nat) (w : World) (hr : RdL w A t (fun _ => True)) : Calls Try.prog 6 #[.int .i64 a, .int .i64 b, .slice A t.length C] w (AnsB true w) := by
  by_cases h0 : a < 1
  · have d0 : decide (a < 1) = true := decide_eq_true h0
    go_enter Try.func6, Try.ntmps6
    go_wp2_with (go_at_call 7; refine (alive8_true w).mono ?_; rintro e w0 ⟨rfl, hb0⟩; have HB0 := Lib.hid hb0; clear hb0)
    go_ret
    exact ⟨rfl, HB0.out⟩
  have d0 : decide (a < 1) = false := decide_eq_false h0
  by_cases h1 : 30 < a
  · have d1 : decide (30 < a) = true := decide_eq_true h1
    go_enter Try.func6, Try.ntmps6
    go_wp2_with (go_at_call 7; refine (alive8_true w).mono ?_; rintro e w0 ⟨rfl, hb0⟩; have HB0 := Lib.hid hb0; clear hb0)
    go_ret
    exact ⟨rfl, HB0.out⟩
  have d1 : decide (30 < a) = false := decide_eq_false h1
  by_cases h2 : b < 0
  · have d2 : decide (b < 0) = true := decide_eq_true h2
    go_enter Try.func6, Try.ntmps6
    go_wp2_with (go_at_call 7; refine (alive8_true w).mono ?_; rintro e w0 ⟨rfl, hb0⟩; have HB0 := Lib.hid hb0; clear hb0)
    go_ret
    exact ⟨rfl, HB0.out⟩
  have d2 : decide (b < 0) = false := decide_eq_false h2
  by_cases h3 : a ≤ b
  · have d3 : decide (a ≤ b) = true := decide_eq_true h3
    go_enter Try.func6, Try.ntmps6
    go_wp2_with (go_at_call 7; refine (alive8_true w).mono ?_; rintro e w0 ⟨rfl, hb0⟩; have HB0 := Lib.hid hb0; clear hb0)
    go_ret
    exact ⟨rfl, HB0.out⟩
  have d3 : decide (a ≤ b) = false := decide_eq_false h3
  by_cases h4 : 100 < (t.length : Int)
  · have d4 : decide (100 < (t.length : Int)) = true := decide_eq_true h4
    go_enter Try.func6, Try.ntmps6
    go_wp2_with (go_at_call 7; refine (alive8_true w).mono ?_; rintro e w0 ⟨rfl, hb0⟩; have HB0 := Lib.hid hb0; clear hb0)
    go_ret
    exact ⟨rfl, HB0.out⟩
  have d4 : decide (100 < (t.length : Int)) = false := decide_eq_false h4
  clear d0 d1 d2 d3 d4
  obtain ⟨B, rfl⟩ := Int.eq_ofNat_of_zero_le (by omega : 0 ≤ a)
  obtain ⟨N, rfl⟩ := Int.eq_ofNat_of_zero_le (by omega : 0 ≤ b)
  exact rots_main B N A t C w (by omega) (by omega) (by omega) (by omega) hr
end Go.Proofs.Ytflcnghjhgfkfaa
