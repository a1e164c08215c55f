/- What the document's own product and inverse answer: the same as package gf; nothing is written. -/
import Derived.Test.YtelkeoopfejgnaaGfInts
namespace Go.Proofs.Ytelkeoopfejgnaa
open Go.RowKit

set_option maxHeartbeats 400000 in
theorem refMul_nat (a b : Nat) (w : World) (ha : a < 256) (hb : b < 256) :
    Calls Try.prog 18 #[.int .u8 (a : Int), .int .u8 (b : Int)] w fun e w' => e = .returned (.int .u8 ((Gf.refMul a b : Nat) : Int)) ∧ w = w' := by
  go_enter Try.func18, Try.ntmps18
  go_wp2
  go_loop [5, 6] (fun vx vi => ∃ k x : Nat, k ≤ 8 ∧ x < 32768 ∧ vi = .int .i64 (k : Int) ∧ vx = .int .i64 (x : Int) ∧ Hid (Gf.refUp (8 - k) a b x = Gf.refUp 8 a b 0)) (fun _ vi => 8 - (intOf vi).toNat)
  case atStart => exact ⟨0, 0, by omega, by omega, rfl, rfl, Lib.hid rfl⟩
  case round =>
    obtain ⟨k, x, hk, hx, rfl, rfl, HR'⟩ := hrel
    by_cases hlt : k < 8
    · have hbit := up_bit b k hb
      have hstep : Gf.refUp (8 - k) a b x = Gf.refUp (8 - (k + 1)) a b (if b / 2 ^ k % 2 = 1 then x ^^^ (a * 2 ^ k) else x) := by
        rw [show 8 - k = (8 - (k + 1)) + 1 by omega]
        simp only [Gf.refUp]
        rw [show 7 - (8 - (k + 1)) = k by omega]
      by_cases hb1 : b / 2 ^ k % 2 = 1
      · have hb2 : (bits BinOp.and IntKind.u8 ((b : Int) / 2 ^ k) 1 == 1) = true := by rw [hbit, hb1]; rfl
        rw [if_pos hb1] at hstep
        have HR2 := Lib.hid (hstep.symm.trans HR'.out)
        clear hstep hbit hb1 HR'
        go_wp2
        go_round
        case rel => exact ⟨k + 1, x ^^^ (a * 2 ^ k), by omega, xor_lt15 hx (up_lt a k ha hlt), by go_num, val_i64 (up_xor a k x ha hlt hx), HR2⟩
        case measure => simp [intOf]; omega
      · have hb2 : (bits BinOp.and IntKind.u8 ((b : Int) / 2 ^ k) 1 == 1) = false := by
          rw [hbit, show b / 2 ^ k % 2 = 0 from (Nat.mod_two_eq_zero_or_one _).resolve_right hb1]; rfl
        rw [if_neg hb1] at hstep
        have HR2 := Lib.hid (hstep.symm.trans HR'.out)
        clear hstep hbit hb1 HR'
        go_wp2
        go_round
        case rel => exact ⟨k + 1, x, by omega, hx, by go_num, rfl, HR2⟩
        case measure => simp [intOf]; omega
    · have HX : Hid (x = Gf.refUp 8 a b 0) := by
        have h := HR'.out
        rw [show 8 - k = 0 by omega] at h
        exact Lib.hid h
      clear HR'
      go_wp2
      go_loop [5, 7] (fun vx vi => ∃ n y : Nat, n ≤ 7 ∧ y < 32768 ∧ vi = .int .i64 ((n : Int) + 7) ∧ vx = .int .i64 (y : Int) ∧ Hid (Gf.refDown n y = Gf.refDown 7 x)) (fun _ vi => (intOf vi).toNat)
      case atStart => exact ⟨7, x, by omega, hx, rfl, rfl, Lib.hid rfl⟩
      case round =>
        obtain ⟨n, y, hn, hy, rfl, rfl, HD⟩ := hrel
        by_cases hpos : 0 < n
        · obtain ⟨m, rfl⟩ : ∃ m, n = m + 1 := ⟨n - 1, by omega⟩
          have hbit := down_bit y (m + 1 + 7) hy
          have hstep : Gf.refDown (m + 1) y = Gf.refDown m (if y / 2 ^ (m + 1 + 7) % 2 = 1 then y ^^^ (285 * 2 ^ m) else y) := rfl
          by_cases hb1 : y / 2 ^ (m + 1 + 7) % 2 = 1
          · have hb2 : (bits BinOp.and IntKind.i64 ((y : Int) / 2 ^ (m + 1 + 7)) 1 == 1) = true := by rw [hbit, hb1]; rfl
            rw [if_pos hb1] at hstep
            have HR2 := Lib.hid (hstep.symm.trans HD.out)
            clear hstep hbit hb1 HD
            go_wp2
            go_round
            case rel => exact ⟨m, y ^^^ (285 * 2 ^ m), by omega, xor_lt15 hy (down_lt m (by omega)), by go_num, val_i64 (down_xor m y (by omega) hy), HR2⟩
            case measure => simp [intOf]; omega
          · have hb2 : (bits BinOp.and IntKind.i64 ((y : Int) / 2 ^ (m + 1 + 7)) 1 == 1) = false := by
              rw [hbit, show y / 2 ^ (m + 1 + 7) % 2 = 0 from (Nat.mod_two_eq_zero_or_one _).resolve_right hb1]; rfl
            rw [if_neg hb1] at hstep
            have HR2 := Lib.hid (hstep.symm.trans HD.out)
            clear hstep hbit hb1 HD
            go_wp2
            go_round
            case rel => exact ⟨m, y, by omega, hy, by go_num, rfl, HR2⟩
            case measure => simp [intOf]; omega
        · have HY : Hid (y % 256 = Gf.refMul a b) := by
            have h := HD.out
            rw [show n = 0 by omega] at h
            have h1 : y = Gf.refDown 7 x := h
            rw [h1, HX.out]
            exact Lib.hid rfl
          clear HD HX
          go_wp2
          go_ret
          exact ⟨ret_u8 (by rw [← HY.out]; omega), rfl⟩
theorem refMul_any (a b : Int) (w : World) (ha : 0 ≤ a) (ha' : a < 256) (hb : 0 ≤ b) (hb' : b < 256) :
    Calls Try.prog 18 #[.int .u8 a, .int .u8 b] w fun e w' => e = .returned (.int .u8 (gmul a b)) ∧ w = w' := by
  obtain ⟨a, rfl⟩ := Int.eq_ofNat_of_zero_le ha
  obtain ⟨b, rfl⟩ := Int.eq_ofNat_of_zero_le hb
  have h := refMul_nat a b w (by omega) (by omega)
  rw [Gf.refMul_eq (by omega)] at h
  exact h
set_option maxRecDepth 100000 in
set_option maxHeartbeats 400000 in
theorem refInv_any (a : Int) (w : World) (ha : 0 ≤ a) (ha' : a < 256) :
    Calls Try.prog 26 #[.int .u8 a] w fun e w' => e = .returned (.int .u8 (ginv a)) ∧ w = w' := by
  go_enter Try.func26, Try.ntmps26
  go_wp2
  go_loop [3, 4] (fun vx vi => ∃ k : Nat, k ≤ 254 ∧ vi = .int .i64 (k : Int) ∧ vx = .int .u8 ((Gf.pw a.toNat k : Nat) : Int)) (fun _ vi => 254 - (intOf vi).toNat)
  case atStart => exact ⟨0, by omega, rfl, rfl⟩
  case round =>
    obtain ⟨k, hk, rfl, rfl⟩ := hrel
    have hp := Gf.pw_lt (a := a.toNat) (by omega) k
    by_cases hlt : k < 254
    · go_wp2_with fail
      refine (refMul_any _ _ _ (by omega) (by omega) ha ha').mono ?_
      rintro e w' ⟨rfl, rfl⟩
      go_wp2
      go_round
      case rel => exact ⟨k + 1, by omega, by go_num, rfl⟩
      case measure => simp [intOf]; omega
    · have HK : Hid (Gf.pw a.toNat k = Gf.inv a.toNat) := by rw [show k = 254 by omega]; exact Lib.hid rfl
      go_wp2
      go_ret
      exact ⟨ret_u8 (congrArg (fun n : Nat => (n : Int)) HK.out), rfl⟩
end Go.Proofs.Ytelkeoopfejgnaa
