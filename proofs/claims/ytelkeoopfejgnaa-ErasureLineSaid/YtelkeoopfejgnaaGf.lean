/- What Add and Mul of package gf answer, for every two elements; nothing is written. -/
import Derived.Test.YtelkeoopfejgnaaGfInts
namespace Go.Proofs.Ytelkeoopfejgnaa
open Go.RowKit

set_option maxHeartbeats 400000 in
theorem add_nat (a b : Nat) (w : World) (ha : a < 256) (hb : b < 256) :
    Calls Try.prog 24 #[.int .u8 (a : Int), .int .u8 (b : Int)] w fun e w' => e = .returned (.int .u8 ((a ^^^ b : Nat) : Int)) ∧ w = w' := by
  go_enter Try.func24, Try.ntmps24
  go_wp2
  go_ret
  exact ⟨ret_u8 (bits_xor_u8 a b ha hb), rfl⟩
set_option maxHeartbeats 400000 in
theorem timesX_nat (a : Nat) (w : World) (ha : a < 256) :
    Calls Try.prog 37 #[.int .u8 (a : Int)] w fun e w' => e = .returned (.int .u8 ((Gf.tx a : Nat) : Int)) ∧ w = w' := by
  have ht := and_top_u8 a ha
  by_cases h : a < 128
  · have ht' : (bits BinOp.and IntKind.u8 (a : Int) 128 == 0) = true := by rw [ht]; simpa using h
    clear ht
    go_enter Try.func37, Try.ntmps37
    go_wp2
    go_ret
    refine ⟨ret_u8 ?_, rfl⟩
    unfold Gf.tx; rw [if_pos h]; omega
  · have ht' : (bits BinOp.and IntKind.u8 (a : Int) 128 == 0) = false := by rw [ht]; simpa using h
    clear ht
    go_enter Try.func37, Try.ntmps37
    go_wp2
    go_ret
    refine ⟨ret_u8 ?_, rfl⟩
    unfold Gf.tx; rw [if_neg h]
    rw [show (a : Int) * 2 % 256 = ((2 * a - 256 : Nat) : Int) by omega]
    exact bits_xor_u8 _ 29 (by omega) (by decide)
set_option maxHeartbeats 400000 in
theorem mul_nat (a b : Nat) (w : World) (ha : a < 256) (hb : b < 256) :
    Calls Try.prog 32 #[.int .u8 (a : Int), .int .u8 (b : Int)] w fun e w' => e = .returned (.int .u8 ((Gf.mul a b : Nat) : Int)) ∧ w = w' := by
  have HR := Lib.hid (show Gf.mulr 8 a b 0 = Gf.mul a b from rfl)
  go_enter Try.func32, Try.ntmps32
  go_wp2
  go_loop [0, 1, 5, 6] (fun va vb vp vi => ∃ k a' b' p : Nat, k ≤ 8 ∧ a' < 256 ∧ b' < 256 ∧ p < 256 ∧ vi = .int .i64 (k : Int) ∧ va = .int .u8 (a' : Int) ∧ vb = .int .u8 (b' : Int) ∧ vp = .int .u8 (p : Int) ∧ Hid (Gf.mulr (8 - k) a' b' p = Gf.mul a b)) (fun _ _ _ vi => 8 - (intOf vi).toNat)
  case atStart => exact ⟨0, a, b, 0, by omega, ha, hb, by omega, rfl, rfl, rfl, rfl, HR⟩
  case round =>
    obtain ⟨k, a', b', p, hk, ha', hb', hp, rfl, rfl, rfl, rfl, HR'⟩ := hrel
    have hand := and_one_u8 b' hb'
    by_cases hlt : k < 8
    · have hstep : Gf.mulr (8 - k) a' b' p = Gf.mulr (8 - (k + 1)) (Gf.tx a') (b' / 2) (if b' % 2 = 1 then p ^^^ a' else p) := by
        rw [show 8 - k = (8 - (k + 1)) + 1 by omega]; rfl
      by_cases hbit : b' % 2 = 1
      · have hb1 : (bits BinOp.and IntKind.u8 (b' : Int) 1 == 1) = true := by rw [hand, hbit]; rfl
        rw [if_pos hbit] at hstep
        have HR2 := Lib.hid (hstep.symm.trans HR'.out)
        clear hstep hand hbit HR' HR
        go_wp2_with (first | (go_at_call 24; refine (add_nat _ _ _ (by omega) (by omega)).mono ?_; rintro e w' ⟨rfl, rfl⟩) | (go_at_call 37; refine (timesX_nat _ _ (by omega)).mono ?_; rintro e w' ⟨rfl, rfl⟩))
        go_round
        case rel => exact ⟨k + 1, Gf.tx a', b' / 2, p ^^^ a', by omega, Gf.tx_lt ha', by omega, Gf.xor_lt hp ha', by go_num, rfl, by go_num, rfl, HR2⟩
        case measure => simp [intOf]; omega
      · have hb1 : (bits BinOp.and IntKind.u8 (b' : Int) 1 == 1) = false := by rw [hand]; simp; omega
        rw [if_neg hbit] at hstep
        have HR2 := Lib.hid (hstep.symm.trans HR'.out)
        clear hstep hand hbit HR' HR
        go_wp2_with (first | (go_at_call 37; refine (timesX_nat _ _ (by omega)).mono ?_; rintro e w' ⟨rfl, rfl⟩))
        go_round
        case rel => exact ⟨k + 1, Gf.tx a', b' / 2, p, by omega, Gf.tx_lt ha', by omega, hp, by go_num, rfl, by go_num, rfl, HR2⟩
        case measure => simp [intOf]; omega
    · clear hand
      have HR2 : Hid (p = Gf.mul a b) := by
        have h := HR'.out
        rw [show 8 - k = 0 by omega] at h
        exact Lib.hid h
      clear HR' HR
      go_wp2
      go_ret
      exact ⟨ret_u8 (congrArg (fun n : Nat => (n : Int)) HR2.out), rfl⟩
theorem mul_any (a b : Int) (w : World) (ha : 0 ≤ a) (ha' : a < 256) (hb : 0 ≤ b) (hb' : b < 256) :
    Calls Try.prog 32 #[.int .u8 a, .int .u8 b] w fun e w' => e = .returned (.int .u8 (gmul a b)) ∧ w = w' := by
  obtain ⟨a, rfl⟩ := Int.eq_ofNat_of_zero_le ha
  obtain ⟨b, rfl⟩ := Int.eq_ofNat_of_zero_le hb
  exact mul_nat a b w (by omega) (by omega)
theorem add_any (a b : Int) (w : World) (ha : 0 ≤ a) (ha' : a < 256) (hb : 0 ≤ b) (hb' : b < 256) :
    Calls Try.prog 24 #[.int .u8 a, .int .u8 b] w fun e w' => e = .returned (.int .u8 (gadd a b)) ∧ w = w' := by
  obtain ⟨a, rfl⟩ := Int.eq_ofNat_of_zero_le ha
  obtain ⟨b, rfl⟩ := Int.eq_ofNat_of_zero_le hb
  exact add_nat a b w (by omega) (by omega)
end Go.Proofs.Ytelkeoopfejgnaa
