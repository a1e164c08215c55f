/- TapeCuts, whatever it is given. -/
import Derived.Test.YtflcnghjhgfkfaaTpCutsB
namespace Go.Proofs.Ytflcnghjhgfkfaa
open Go.RowKit
open Pt (Tx)

set_option maxRecDepth 100000 in
theorem cuts_any (a b c : Int) (w : World) : Calls Try.prog 4 #[.int .i64 a, .int .i64 b, .int .i64 c] w (AnsB true w) := by
  by_cases h0 : a < 0
  · have d0 : decide (a < 0) = true := decide_eq_true h0
    go_enter Try.func4, Try.ntmps4
    go_wp2_with (go_at_call 7; refine (alive8_true w).mono ?_; rintro e w0 ⟨rfl, hb0⟩; have HB0 := Lib.hid hb0; clear hb0)
    go_ret
    exact ⟨rfl, HB0.out⟩
  have d0 : decide (a < 0) = false := decide_eq_false h0
  by_cases h1 : 40 < a
  · have d1 : decide (40 < a) = true := decide_eq_true h1
    go_enter Try.func4, Try.ntmps4
    go_wp2_with (go_at_call 7; refine (alive8_true w).mono ?_; rintro e w0 ⟨rfl, hb0⟩; have HB0 := Lib.hid hb0; clear hb0)
    go_ret
    exact ⟨rfl, HB0.out⟩
  have d1 : decide (40 < a) = false := decide_eq_false h1
  by_cases h2 : b < 0
  · have d2 : decide (b < 0) = true := decide_eq_true h2
    go_enter Try.func4, Try.ntmps4
    go_wp2_with (go_at_call 7; refine (alive8_true w).mono ?_; rintro e w0 ⟨rfl, hb0⟩; have HB0 := Lib.hid hb0; clear hb0)
    go_ret
    exact ⟨rfl, HB0.out⟩
  have d2 : decide (b < 0) = false := decide_eq_false h2
  by_cases h3 : 40 < b
  · have d3 : decide (40 < b) = true := decide_eq_true h3
    go_enter Try.func4, Try.ntmps4
    go_wp2_with (go_at_call 7; refine (alive8_true w).mono ?_; rintro e w0 ⟨rfl, hb0⟩; have HB0 := Lib.hid hb0; clear hb0)
    go_ret
    exact ⟨rfl, HB0.out⟩
  have d3 : decide (40 < b) = false := decide_eq_false h3
  by_cases h4 : c < 0
  · have d4 : decide (c < 0) = true := decide_eq_true h4
    go_enter Try.func4, Try.ntmps4
    go_wp2_with (go_at_call 7; refine (alive8_true w).mono ?_; rintro e w0 ⟨rfl, hb0⟩; have HB0 := Lib.hid hb0; clear hb0)
    go_ret
    exact ⟨rfl, HB0.out⟩
  have d4 : decide (c < 0) = false := decide_eq_false h4
  by_cases h5 : 100 < c
  · have d5 : decide (100 < c) = true := decide_eq_true h5
    go_enter Try.func4, Try.ntmps4
    go_wp2_with (go_at_call 7; refine (alive8_true w).mono ?_; rintro e w0 ⟨rfl, hb0⟩; have HB0 := Lib.hid hb0; clear hb0)
    go_ret
    exact ⟨rfl, HB0.out⟩
  have d5 : decide (100 < c) = false := decide_eq_false h5
  clear d0 d1 d2 d3 d4 d5
  obtain ⟨B, rfl⟩ := Int.eq_ofNat_of_zero_le (by omega : 0 ≤ a)
  obtain ⟨N, rfl⟩ := Int.eq_ofNat_of_zero_le (by omega : 0 ≤ b)
  obtain ⟨M, rfl⟩ := Int.eq_ofNat_of_zero_le (by omega : 0 ≤ c)
  rcases Nat.lt_or_ge N B with h | h
  · rcases Nat.eq_zero_or_pos M with h0 | h0
    · subst h0
      exact cuts_zero B N w (by omega) (by omega) h
    · exact cuts_more B N M w (by omega) (by omega) (by omega) h h0
  · exact cuts_all B N M w (by omega) (by omega) (by omega) h
end Go.Proofs.Ytflcnghjhgfkfaa
