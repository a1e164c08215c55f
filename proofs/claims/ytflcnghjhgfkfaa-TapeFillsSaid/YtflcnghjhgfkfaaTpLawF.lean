/- TapeFills, whatever it is given. -/
import Derived.Test.YtflcnghjhgfkfaaTpFills
namespace Go.Proofs.Ytflcnghjhgfkfaa
open Go.RowKit
open Pt (Tx)

theorem fills_any (a b : Int) (w : World) : Calls Try.prog 5 #[.int .i64 a, .int .i64 b] w (AnsB true w) := by
  by_cases h1 : a < 0
  · have d1 : decide (a < 0) = true := decide_eq_true h1
    go_enter Try.func5, Try.ntmps5
    go_wp2_with (go_at_call 7; refine (alive8_true w).mono ?_; rintro e w0 ⟨rfl, hb0⟩; have HB0 := Lib.hid hb0; clear hb0)
    go_ret
    exact ⟨rfl, HB0.out⟩
  have d1 : decide (a < 0) = false := decide_eq_false h1
  by_cases h2 : 64 < a
  · have d2 : decide (64 < a) = true := decide_eq_true h2
    go_enter Try.func5, Try.ntmps5
    go_wp2_with (go_at_call 7; refine (alive8_true w).mono ?_; rintro e w0 ⟨rfl, hb0⟩; have HB0 := Lib.hid hb0; clear hb0)
    go_ret
    exact ⟨rfl, HB0.out⟩
  have d2 : decide (64 < a) = false := decide_eq_false h2
  by_cases h3 : b < 0
  · have d3 : decide (b < 0) = true := decide_eq_true h3
    go_enter Try.func5, Try.ntmps5
    go_wp2_with (go_at_call 7; refine (alive8_true w).mono ?_; rintro e w0 ⟨rfl, hb0⟩; have HB0 := Lib.hid hb0; clear hb0)
    go_ret
    exact ⟨rfl, HB0.out⟩
  have d3 : decide (b < 0) = false := decide_eq_false h3
  by_cases h4 : 10 < b
  · have d4 : decide (10 < b) = true := decide_eq_true h4
    go_enter Try.func5, Try.ntmps5
    go_wp2_with (go_at_call 7; refine (alive8_true w).mono ?_; rintro e w0 ⟨rfl, hb0⟩; have HB0 := Lib.hid hb0; clear hb0)
    go_ret
    exact ⟨rfl, HB0.out⟩
  obtain ⟨M, rfl⟩ := Int.eq_ofNat_of_zero_le (by omega : 0 ≤ a)
  obtain ⟨N, rfl⟩ := Int.eq_ofNat_of_zero_le (by omega : 0 ≤ b)
  exact fills_main M N w (by omega) (by omega)
end Go.Proofs.Ytflcnghjhgfkfaa
