/- Words of 32 bits as the numbers of a uint32: bits, halves, what is turned round. No function of the program. -/
import Derived.Test.YtjhbmijdpcbbiaaRows
import Derived.Test.YtjhbmijdpcbbiaaCrMath
import Derived.Test.YtjhbmijdpcbbiaaMxMem
import Derived.WalkKit
import Derived.ProofKit
import Derived.Lib.Hide
import Derived.Laws.BitsLemmas
import Derived.IntWalk
namespace Go.Proofs.Ytjhbmijdpcbbiaa
open Go.RowKit Mx

/-- a word as the number that a uint32 is -/
def bi (x : Cr.W) : Int := (x.toNat : Int)
theorem bi_lo (x : Cr.W) : 0 ≤ bi x := Int.natCast_nonneg _
theorem bi_hi (x : Cr.W) : bi x < 4294967296 := by have := x.isLt; unfold bi; omega
theorem ofInt_bi (x : Cr.W) : BitVec.ofInt 32 (bi x) = x := by
  unfold bi; rw [BitVec.ofInt_natCast]
  apply BitVec.eq_of_toNat_eq; rw [BitVec.toNat_ofNat]; exact Nat.mod_eq_of_lt x.isLt
theorem bi_inj {x y : Cr.W} (h : bi x = bi y) : x = y := by rw [← ofInt_bi x, h, ofInt_bi]
theorem bi_toNat (x : Cr.W) : (bi x).toNat = x.toNat := Int.toNat_natCast _
theorem wrap_bi (x : Cr.W) : IntKind.u32.wrap (x.toNat : Int) = bi x := by
  rw [IntKind.wrap_u32]; have := x.isLt; unfold bi; omega
theorem of_bi (n : Int) (h0 : 0 ≤ n) (h1 : n < 4294967296) : bi (BitVec.ofInt 32 n) = n := by
  obtain ⟨k, rfl⟩ := Int.eq_ofNat_of_zero_le h0
  unfold bi
  rw [BitVec.ofInt_natCast, BitVec.toNat_ofNat]
  omega
theorem xor_bi (x y : Cr.W) : bits BinOp.xor IntKind.u32 (bi x) (bi y) = bi (x ^^^ y) := by
  show IntKind.u32.wrap ((BitVec.ofInt 32 (bi x) ^^^ BitVec.ofInt 32 (bi y)).toNat : Int) = _
  rw [ofInt_bi, ofInt_bi, wrap_bi]
theorem and_bi (x y : Cr.W) : bits BinOp.and IntKind.u32 (bi x) (bi y) = bi (x &&& y) := by
  show IntKind.u32.wrap ((BitVec.ofInt 32 (bi x) &&& BitVec.ofInt 32 (bi y)).toNat : Int) = _
  rw [ofInt_bi, ofInt_bi, wrap_bi]
theorem bit_of (x : Cr.W) : bits BinOp.and IntKind.u32 (bi x) 1 = if x.getLsbD 0 = true then 1 else 0 := by
  have h : bits BinOp.and IntKind.u32 (bi x) (2 ^ 1 - 1) = bi x % 2 ^ 1 := bits_mask .u32 32 (by decide) (fun m h0 h1 => by rw [IntKind.wrap_u32]; omega) 1 (by decide) (bi x) (bi_lo x) (bi_hi x)
  have h2 : bits BinOp.and IntKind.u32 (bi x) 1 = bi x % (2 : Int) := h
  rw [h2]
  have : x.getLsbD 0 = decide (x.toNat % 2 = 1) := by
    unfold BitVec.getLsbD; rw [Nat.testBit_zero]
  rw [this]
  unfold bi
  by_cases e : x.toNat % 2 = 1
  · rw [if_pos (by simpa using e)]; omega
  · rw [if_neg (by simpa using e)]; omega
theorem half_bi (x : Cr.W) : bi x / (2 : Int) = bi (x >>> (1 : Nat)) := by
  unfold bi; rw [BitVec.toNat_ushiftRight, Nat.shiftRight_eq_div_pow]; omega
theorem poly_bi : (2197175160 : Int) = bi Cr.poly := by decide
theorem ones_bi : (4294967295 : Int) = bi (BitVec.allOnes 32) := by decide
theorem not_bi (x : Cr.W) : bits BinOp.xor IntKind.u32 (bi x) 4294967295 = bi (~~~x) := by
  rw [ones_bi, xor_bi, BitVec.xor_allOnes]
theorem not_bi' (x : Cr.W) : bits BinOp.xor IntKind.u32 4294967295 (bi x) = bi (~~~x) := by
  rw [ones_bi, xor_bi, BitVec.allOnes_xor]
theorem not_max (x : Cr.W) : bits BinOp.xor IntKind.u32 IntKind.u32.max (bi x) = bi (~~~x) := by
  rw [show IntKind.u32.max = 4294967295 by decide]; exact not_bi' x
theorem byte_bi (x : Cr.W) (a : Fe) : bits BinOp.xor IntKind.u32 (bi x) (fi a) = bi (x ^^^ BitVec.ofNat 32 a.nat) := by
  have h : fi a = bi (BitVec.ofNat 32 a.nat) := by
    have := a.nat_lt
    unfold fi bi; rw [BitVec.toNat_ofNat]; omega
  rw [h, xor_bi]
theorem step_even {x : Cr.W} (h : x.getLsbD 0 = false) : bi x / (2 : Int) = bi (Cr.step x) := by
  unfold Cr.step; rw [if_neg (by rw [h]; decide)]; exact half_bi x
theorem step_odd {x : Cr.W} (h : x.getLsbD 0 = true) : bits BinOp.xor IntKind.u32 (bi x / (2 : Int)) 2197175160 = bi (Cr.step x) := by
  unfold Cr.step; rw [if_pos h, half_bi, poly_bi, xor_bi]
theorem ret_u32 {a b : Int} (h : a = b) : Ending.returned (.int .u32 a) = .returned (.int .u32 b) := by rw [h]
theorem val_u32 {a b : Int} (h : a = b) : Value.int .u32 a = .int .u32 b := by rw [h]
/-- the sum s of what is ahead, gone on with the n bytes of r -/
def crc (s : Cr.W) (r : Nat → Fe) (n : Nat) : Cr.W := ~~~(Cr.ups (~~~s) (fun i => (r i).nat) n)
end Go.Proofs.Ytjhbmijdpcbbiaa
