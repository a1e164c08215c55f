/- One bit of a byte that is turned. No function of the program. -/
import Derived.Test.YtmonhgefmapiaaaMxWords
import Derived.Test.YtmonhgefmapiaaaCrInts
namespace Go.Proofs.Ytmonhgefmapiaaa
open Go.RowKit Mx

/-- the bit k of a byte -/
def bitK (k : Nat) : Fe := mk (2 ^ k % 256) (Nat.mod_lt _ (by decide))
theorem bitK_ne : ∀ k, k < 8 → bitK k ≠ 0 := by
  intro k hk
  rcases (show k = 0 ∨ k = 1 ∨ k = 2 ∨ k = 3 ∨ k = 4 ∨ k = 5 ∨ k = 6 ∨ k = 7 by omega) with rfl | rfl | rfl | rfl | rfl | rfl | rfl | rfl <;> exact fun e => absurd (congrArg Fe.nat e) (by decide)
theorem bit7 (b : Int) : ∃ k : Nat, k < 8 ∧ bits BinOp.and IntKind.i64 b 7 = (k : Int) := by
  refine ⟨((BitVec.ofInt 64 b) &&& (BitVec.ofInt 64 7)).toNat, ?_, ?_⟩
  · rw [BitVec.toNat_and, show (BitVec.ofInt 64 7).toNat = 2 ^ 3 - 1 by decide, Nat.and_two_pow_sub_one_eq_mod]
    exact Nat.mod_lt _ (by decide)
  · show IntKind.i64.wrap ((BitVec.ofInt 64 b &&& BitVec.ofInt 64 7).toNat : Int) = _
    have : ((BitVec.ofInt 64 b) &&& (BitVec.ofInt 64 7)).toNat < 8 := by
      rw [BitVec.toNat_and, show (BitVec.ofInt 64 7).toNat = 2 ^ 3 - 1 by decide, Nat.and_two_pow_sub_one_eq_mod]
      exact Nat.mod_lt _ (by decide)
    rw [IntKind.wrap_i64]
    omega
theorem turn_bit (a : Fe) (k : Nat) : bits BinOp.xor IntKind.u8 (fi a) (2 ^ k % 256) = fi (a + bitK k) := by
  have h : ((2 : Int) ^ k % 256) = fi (bitK k) := by
    unfold fi bitK; rw [nat_mk]; simp
  rw [h, xor_fi]
theorem bitK_turns (a : Fe) {k : Nat} (hk : k < 8) : a + bitK k ≠ a := fun e => bitK_ne k hk (by
  have := congrArg (fun x => a + x) e
  simpa [← Mx.add_assoc, Mx.add_self, Mx.zero_add] using this)
end Go.Proofs.Ytmonhgefmapiaaa
