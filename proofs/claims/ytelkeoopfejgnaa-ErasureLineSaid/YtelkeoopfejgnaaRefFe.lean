/- The document's own product and inverse, on elements. -/
import Derived.Test.YtelkeoopfejgnaaGfRef
import Derived.Test.YtelkeoopfejgnaaMxWords
namespace Go.Proofs.Ytelkeoopfejgnaa
open Go.RowKit Mx

theorem refMul_fe (a b : Fe) (w : World) : Calls Try.prog 18 #[.int .u8 (fi a), .int .u8 (fi b)] w fun e w' => e = .returned (.int .u8 (fi (a * b))) ∧ w = w' := by
  rw [← gmul_fi]; exact refMul_any _ _ w (fi_lo a) (fi_hi a) (fi_lo b) (fi_hi b)
theorem refInv_fe (a : Fe) (w : World) : Calls Try.prog 26 #[.int .u8 (fi a)] w fun e w' => e = .returned (.int .u8 (fi (inv a))) ∧ w = w' := by
  rw [← ginv_fi]; exact refInv_any _ w (fi_lo a) (fi_hi a)
theorem refMul_st (a b : Fe) (w : World) : Calls Try.prog 18 #[.int .u8 (fi a), .int .u8 (fi b)] w fun e w' => e = .returned (.int .u8 (fi (a * b))) ∧ w' = w := (refMul_fe a b w).mono fun _ _ h => ⟨h.1, h.2.symm⟩

theorem refInv_st (a : Fe) (w : World) : Calls Try.prog 26 #[.int .u8 (fi a)] w fun e w' => e = .returned (.int .u8 (fi (inv a))) ∧ w' = w := (refInv_fe a w).mono fun _ _ h => ⟨h.1, h.2.symm⟩
end Go.Proofs.Ytelkeoopfejgnaa
