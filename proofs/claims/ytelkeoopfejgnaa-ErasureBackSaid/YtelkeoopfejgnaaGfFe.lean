/- The calls of package gf, on elements. -/
import Derived.Test.YtelkeoopfejgnaaGfPow
import Derived.Test.YtelkeoopfejgnaaMxWords
namespace Go.Proofs.Ytelkeoopfejgnaa
open Go.RowKit Mx

theorem mul_fe (a b : Fe) (w : World) : Calls Try.prog 32 #[.int .u8 (fi a), .int .u8 (fi b)] w fun e w' => e = .returned (.int .u8 (fi (a * b))) ∧ w = w' := by
  rw [← gmul_fi]; exact mul_any _ _ w (fi_lo a) (fi_hi a) (fi_lo b) (fi_hi b)
theorem add_fe (a b : Fe) (w : World) : Calls Try.prog 24 #[.int .u8 (fi a), .int .u8 (fi b)] w fun e w' => e = .returned (.int .u8 (fi (a + b))) ∧ w = w' := by
  rw [← gadd_fi]; exact add_any _ _ w (fi_lo a) (fi_hi a) (fi_lo b) (fi_hi b)
theorem inv_fe (a : Fe) (w : World) : Calls Try.prog 23 #[.int .u8 (fi a)] w fun e w' => e = .returned (.int .u8 (fi (inv a))) ∧ w = w' := by
  rw [← ginv_fi]; exact inv_any _ w (fi_lo a) (fi_hi a)

theorem mul_st (a b : Fe) (w : World) : Calls Try.prog 32 #[.int .u8 (fi a), .int .u8 (fi b)] w fun e w' => e = .returned (.int .u8 (fi (a * b))) ∧ w' = w := (mul_fe a b w).mono fun _ _ h => ⟨h.1, h.2.symm⟩
theorem add_st (a b : Fe) (w : World) : Calls Try.prog 24 #[.int .u8 (fi a), .int .u8 (fi b)] w fun e w' => e = .returned (.int .u8 (fi (a + b))) ∧ w' = w := (add_fe a b w).mono fun _ _ h => ⟨h.1, h.2.symm⟩
theorem add_ist (a b : Int) (w : World) (ha : 0 ≤ a) (ha' : a < 256) (hb : 0 ≤ b) (hb' : b < 256) : Calls Try.prog 24 #[.int .u8 a, .int .u8 b] w fun e w' => e = .returned (.int .u8 (gadd a b)) ∧ w' = w := (add_any a b w ha ha' hb hb').mono fun _ _ h => ⟨h.1, h.2.symm⟩
theorem inv_ist (a : Int) (w : World) (ha : 0 ≤ a) (ha' : a < 256) : Calls Try.prog 23 #[.int .u8 a] w fun e w' => e = .returned (.int .u8 (ginv a)) ∧ w' = w := (inv_any a w ha ha').mono fun _ _ h => ⟨h.1, h.2.symm⟩
end Go.Proofs.Ytelkeoopfejgnaa
