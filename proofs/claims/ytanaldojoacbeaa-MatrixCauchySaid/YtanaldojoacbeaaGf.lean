/- What the calls of package gf answer, for every two elements and every power: the product, power and inverse of the field; nothing is written. -/
import Derived.Test.YtanaldojoacbeaaRows
import Derived.Test.YtanaldojoacbeaaGfMath
import Derived.WalkKit
import Derived.ProofKit
import Derived.Lib.Hide
namespace Go.Proofs.Ytanaldojoacbeaa
open Go.RowKit

theorem bits_and_u8 (a b : Nat) (ha : a < 256) (hb : b < 256) : bits BinOp.and IntKind.u8 (a : Int) (b : Int) = ((a &&& b : Nat) : Int) := by
  have h1 : (BitVec.ofInt 8 (a : Int)).toNat = a := by
    rw [BitVec.ofInt_natCast, BitVec.toNat_ofNat]; exact Nat.mod_eq_of_lt ha
  have h2 : (BitVec.ofInt 8 (b : Int)).toNat = b := by
    rw [BitVec.ofInt_natCast, BitVec.toNat_ofNat]; exact Nat.mod_eq_of_lt hb
  have hx : a &&& b < 2 ^ 8 := Nat.and_lt_two_pow _ hb
  show IntKind.u8.wrap ((BitVec.ofInt 8 (a : Int) &&& BitVec.ofInt 8 (b : Int)).toNat : Int) = _
  rw [BitVec.toNat_and, h1, h2]
  simp [IntKind.wrap, IntKind.bits, IntKind.signed]; omega
theorem bits_xor_u8 (a b : Nat) (ha : a < 256) (hb : b < 256) : bits BinOp.xor IntKind.u8 (a : Int) (b : Int) = ((a ^^^ b : Nat) : Int) := by
  have h1 : (BitVec.ofInt 8 (a : Int)).toNat = a := by
    rw [BitVec.ofInt_natCast, BitVec.toNat_ofNat]; exact Nat.mod_eq_of_lt ha
  have h2 : (BitVec.ofInt 8 (b : Int)).toNat = b := by
    rw [BitVec.ofInt_natCast, BitVec.toNat_ofNat]; exact Nat.mod_eq_of_lt hb
  have hx : a ^^^ b < 2 ^ 8 := Nat.xor_lt_two_pow ha hb
  show IntKind.u8.wrap ((BitVec.ofInt 8 (a : Int) ^^^ BitVec.ofInt 8 (b : Int)).toNat : Int) = _
  rw [BitVec.toNat_xor, h1, h2]
  simp [IntKind.wrap, IntKind.bits, IntKind.signed]; omega
theorem and_one_u8 (a : Nat) (ha : a < 256) : bits BinOp.and IntKind.u8 (a : Int) 1 = ((a % 2 : Nat) : Int) := by
  rw [show (1 : Int) = ((1 : Nat) : Int) from rfl, bits_and_u8 a 1 ha (by decide), Nat.and_one_is_mod]
theorem and_top_u8 (a : Nat) (ha : a < 256) : (bits BinOp.and IntKind.u8 (a : Int) 128 == 0) = decide (a < 128) := by
  have h : ∀ n : Fin 256, (bits BinOp.and IntKind.u8 (n.val : Int) 128 == 0) = decide (n.val < 128) := by decide +kernel
  exact h ⟨a, ha⟩
theorem ret_u8 {a b : Int} (h : a = b) : Ending.returned (.int .u8 a) = .returned (.int .u8 b) := by rw [h]
theorem val_u8 {a b : Int} (h : a = b) : Value.int .u8 a = .int .u8 b := by rw [h]

set_option maxHeartbeats 400000 in
theorem add_nat (a b : Nat) (w : World) (ha : a < 256) (hb : b < 256) :
    Calls Try.prog 25 #[.int .u8 (a : Int), .int .u8 (b : Int)] w fun e w' => e = .returned (.int .u8 ((a ^^^ b : Nat) : Int)) ∧ w = w' := by
  go_enter Try.func25, Try.ntmps25
  go_wp2
  go_ret
  exact ⟨ret_u8 (bits_xor_u8 a b ha hb), rfl⟩

set_option maxHeartbeats 400000 in
theorem timesX_nat (a : Nat) (w : World) (ha : a < 256) :
    Calls Try.prog 33 #[.int .u8 (a : Int)] w fun e w' => e = .returned (.int .u8 ((Gf.tx a : Nat) : Int)) ∧ w = w' := by
  have ht := and_top_u8 a ha
  by_cases h : a < 128
  · have ht' : (bits BinOp.and IntKind.u8 (a : Int) 128 == 0) = true := by rw [ht]; simpa using h
    clear ht
    go_enter Try.func33, Try.ntmps33
    go_wp2
    go_ret
    refine ⟨ret_u8 ?_, rfl⟩
    unfold Gf.tx; rw [if_pos h]; omega
  · have ht' : (bits BinOp.and IntKind.u8 (a : Int) 128 == 0) = false := by rw [ht]; simpa using h
    clear ht
    go_enter Try.func33, Try.ntmps33
    go_wp2
    go_ret
    refine ⟨ret_u8 ?_, rfl⟩
    unfold Gf.tx; rw [if_neg h]
    rw [show (a : Int) * 2 % 256 = ((2 * a - 256 : Nat) : Int) by omega]
    exact bits_xor_u8 _ 29 (by omega) (by decide)

set_option maxHeartbeats 400000 in
theorem mul_nat (a b : Nat) (w : World) (ha : a < 256) (hb : b < 256) :
    Calls Try.prog 26 #[.int .u8 (a : Int), .int .u8 (b : Int)] w fun e w' => e = .returned (.int .u8 ((Gf.mul a b : Nat) : Int)) ∧ w = w' := by
  have HR := Lib.hid (show Gf.mulr 8 a b 0 = Gf.mul a b from rfl)
  go_enter Try.func26, Try.ntmps26
  go_wp2
  go_loop [0, 1, 5, 6] (fun va vb vp vi => ∃ k a' b' p : Nat, k ≤ 8 ∧ a' < 256 ∧ b' < 256 ∧ p < 256 ∧ vi = .int .i64 (k : Int) ∧ va = .int .u8 (a' : Int) ∧ vb = .int .u8 (b' : Int) ∧ vp = .int .u8 (p : Int) ∧ Hid (Gf.mulr (8 - k) a' b' p = Gf.mul a b)) (fun _ _ _ vi => 8 - (intOf vi).toNat)
  case atStart => exact ⟨0, a, b, 0, by omega, ha, hb, by omega, rfl, rfl, rfl, rfl, HR⟩
  case round =>
    obtain ⟨k, a', b', p, hk, ha', hb', hp, rfl, rfl, rfl, rfl, HR'⟩ := hrel
    have hand := and_one_u8 b' hb'
    by_cases hlt : k < 8
    · have hstep : Gf.mulr (8 - k) a' b' p = Gf.mulr (8 - (k + 1)) (Gf.tx a') (b' / 2) (if b' % 2 = 1 then p ^^^ a' else p) := by
        rw [show 8 - k = (8 - (k + 1)) + 1 by omega]; rfl
      by_cases hbit : b' % 2 = 1
      · have hb1 : (bits BinOp.and IntKind.u8 (b' : Int) 1 == 1) = true := by rw [hand, hbit]; rfl
        rw [if_pos hbit] at hstep
        have HR2 := Lib.hid (hstep.symm.trans HR'.out)
        clear hstep hand hbit HR' HR
        go_wp2_with (first | (go_at_call 25; refine (add_nat _ _ _ (by omega) (by omega)).mono ?_; rintro e w' ⟨rfl, rfl⟩) | (go_at_call 33; refine (timesX_nat _ _ (by omega)).mono ?_; rintro e w' ⟨rfl, rfl⟩))
        go_round
        case rel => exact ⟨k + 1, Gf.tx a', b' / 2, p ^^^ a', by omega, Gf.tx_lt ha', by omega, Gf.xor_lt hp ha', by go_num, rfl, by go_num, rfl, HR2⟩
        case measure => simp [intOf]; omega
      · have hb1 : (bits BinOp.and IntKind.u8 (b' : Int) 1 == 1) = false := by rw [hand]; simp; omega
        rw [if_neg hbit] at hstep
        have HR2 := Lib.hid (hstep.symm.trans HR'.out)
        clear hstep hand hbit HR' HR
        go_wp2_with (first | (go_at_call 33; refine (timesX_nat _ _ (by omega)).mono ?_; rintro e w' ⟨rfl, rfl⟩))
        go_round
        case rel => exact ⟨k + 1, Gf.tx a', b' / 2, p, by omega, Gf.tx_lt ha', by omega, hp, by go_num, rfl, by go_num, rfl, HR2⟩
        case measure => simp [intOf]; omega
    · clear hand
      have HR2 : Hid (p = Gf.mul a b) := by
        have h := HR'.out
        rw [show 8 - k = 0 by omega] at h
        exact Lib.hid h
      clear HR' HR
      go_wp2
      go_ret
      exact ⟨ret_u8 (congrArg (fun n : Nat => (n : Int)) HR2.out), rfl⟩
end Go.Proofs.Ytanaldojoacbeaa
