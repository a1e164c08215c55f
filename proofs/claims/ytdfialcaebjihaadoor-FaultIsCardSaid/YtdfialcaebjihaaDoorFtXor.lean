/- a number with its lowest bit turned is another -/
import Derived.Test.YtdfialcaebjihaaDoorChecked
import Derived.WalkKit
namespace Go.Proofs.YtdfialcaebjihaaDoor
open Go.RowKit

theorem bv_of_wrap (n : Int) : BitVec.ofInt 64 (IntKind.i64.wrap n) = BitVec.ofInt 64 n := by
  apply BitVec.eq_of_toNat_eq
  rw [IntKind.wrap_i64]
  simp only [BitVec.toNat_ofInt]
  congr 1
  omega
theorem xor_bv (x y : Int) : BitVec.ofInt 64 (bits .xor .i64 x y) = BitVec.ofInt 64 x ^^^ BitVec.ofInt 64 y := by
  show BitVec.ofInt 64 (IntKind.i64.wrap ((BitVec.ofInt 64 x ^^^ BitVec.ofInt 64 y).toNat : Int)) = _
  rw [bv_of_wrap, BitVec.ofInt_natCast, BitVec.ofNat_toNat, BitVec.setWidth_eq]
theorem xor1_ne (x : Int) : bits .xor .i64 x 1 ≠ x := fun h => by
  have h1 := xor_bv x 1
  rw [h] at h1
  have h2 := congrArg (BitVec.ofInt 64 x ^^^ ·) h1
  simp only [BitVec.xor_self, ← BitVec.xor_assoc, BitVec.zero_xor] at h2
  exact absurd h2 (by decide)
theorem xor1_zero (x : Int) (h0 : -9223372036854775808 ≤ x) (h1 : x ≤ 9223372036854775807) (h : bits .xor .i64 x 1 = 0) : x = 1 := by
  have e := xor_bv x 1
  rw [h] at e
  have e2 := congrArg (· ^^^ BitVec.ofInt 64 1) e
  simp only [BitVec.xor_assoc, BitVec.xor_self, BitVec.xor_zero] at e2
  have e3 := congrArg BitVec.toNat e2
  rw [show (BitVec.ofInt 64 0 ^^^ BitVec.ofInt 64 1).toNat = 1 by decide, BitVec.toNat_ofInt] at e3
  omega
end Go.Proofs.YtdfialcaebjihaaDoor
