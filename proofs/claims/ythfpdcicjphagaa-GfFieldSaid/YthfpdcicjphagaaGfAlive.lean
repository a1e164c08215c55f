/- The document's example of the field holds: 'alive' answers true; and what it says of one argument that is a number of its kind. -/
import Derived.Test.YthfpdcicjphagaaGfPow
import Derived.OpenShut
namespace Go.Proofs.Ythfpdcicjphagaa
open Go.RowKit

theorem rng_u8 {a : Int} (h : (Lit.int .u8 a).wf = true) : 0 ≤ a ∧ a < 256 := by
  have := bounds_u8 h; omega
theorem rng_i64 {a : Int} (h : (Lit.int .i64 a).wf = true) : -9223372036854775808 ≤ a ∧ a ≤ 9223372036854775807 := bounds_i64 h

set_option maxHeartbeats 400000 in
theorem alive_true (w : World) : Calls Try.prog 7 #[] w fun e w' => e = .returned (.bool true) ∧ w = w' := by
  have h1 : (gmul 2 128 == 29) = true := by decide +kernel
  have h2 : (gadd 3 5 == 6) = true := by decide +kernel
  have h3 : (gmul 7 (ginv 7) == 1) = true := by decide +kernel
  have hr := ginv_rng 7 (by decide) (by decide)
  go_enter Try.func7, Try.ntmps7
  go_wp2_with fail
  refine (mul_any 2 128 _ (by decide) (by decide) (by decide) (by decide)).mono ?_
  rintro e w' ⟨rfl, rfl⟩
  go_wp2_with fail
  refine (add_any 3 5 _ (by decide) (by decide) (by decide) (by decide)).mono ?_
  rintro e w' ⟨rfl, rfl⟩
  go_wp2_with fail
  refine (inv_any 7 _ (by decide) (by decide)).mono ?_
  rintro e w' ⟨rfl, rfl⟩
  go_wp2_with fail
  refine (mul_any 7 (ginv 7) _ (by decide) (by decide) hr.1 hr.2).mono ?_
  rintro e w' ⟨rfl, rfl⟩
  go_wp2
  go_ret
  exact ⟨rfl, rfl⟩
end Go.Proofs.Ythfpdcicjphagaa
