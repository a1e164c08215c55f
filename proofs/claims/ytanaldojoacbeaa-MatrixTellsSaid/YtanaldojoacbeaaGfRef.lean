/- What the document's own product, inverse and power answer: the same as package gf, for every element and every power; nothing is written. -/
import Derived.Test.YtanaldojoacbeaaGfPow
namespace Go.Proofs.Ytanaldojoacbeaa
open Go.RowKit

theorem xor_i64_nat (a b : Nat) (ha : a < 32768) (hb : b < 32768) : bits BinOp.xor IntKind.i64 (a : Int) (b : Int) = ((a ^^^ b : Nat) : Int) := by
  have h1 : (BitVec.ofInt 64 (a : Int)).toNat = a := by
    rw [BitVec.ofInt_natCast, BitVec.toNat_ofNat]; exact Nat.mod_eq_of_lt (by omega)
  have h2 : (BitVec.ofInt 64 (b : Int)).toNat = b := by
    rw [BitVec.ofInt_natCast, BitVec.toNat_ofNat]; exact Nat.mod_eq_of_lt (by omega)
  have hx : a ^^^ b < 2 ^ 15 := Nat.xor_lt_two_pow ha hb
  show IntKind.i64.wrap ((BitVec.ofInt 64 (a : Int) ^^^ BitVec.ofInt 64 (b : Int)).toNat : Int) = _
  rw [BitVec.toNat_xor, h1, h2, IntKind.wrap_i64]
  omega
theorem and_one_i64' (n : Nat) (hn : n < 32768) : bits BinOp.and IntKind.i64 (n : Int) 1 = ((n % 2 : Nat) : Int) := by
  have h := bits_mask .i64 15 (by decide) (fun m h0 h1 => by rw [IntKind.wrap_i64]; omega) 1 (by decide) (n : Int) (by omega) (by omega)
  simpa using h
theorem up_bit (b k : Nat) (hb : b < 256) : bits BinOp.and IntKind.u8 ((b : Int) / 2 ^ k) 1 = ((b / 2 ^ k % 2 : Nat) : Int) := by
  have h := and_one_u8 (b / 2 ^ k) (by have := Nat.div_le_self b (2 ^ k); omega)
  rw [← h]; congr 1
theorem up_lt (a k : Nat) (ha : a < 256) (hk : k < 8) : a * 2 ^ k < 32768 := by
  have h : 2 ^ k ≤ 2 ^ 7 := Nat.pow_le_pow_right (by decide) (by omega)
  have : a * 2 ^ k ≤ 255 * 2 ^ 7 := Nat.mul_le_mul (by omega) h
  omega
theorem wrap64_small (n : Nat) (h : n < 32768) : wrap64 (n : Int) = (n : Int) := by
  unfold wrap64; omega
theorem up_xor (a k x : Nat) (ha : a < 256) (hk : k < 8) (hx : x < 32768) :
    bits BinOp.xor IntKind.i64 (x : Int) (wrap64 ((a : Int) * 2 ^ k)) = ((x ^^^ a * 2 ^ k : Nat) : Int) := by
  have hl := up_lt a k ha hk
  rw [show (a : Int) * 2 ^ k = ((a * 2 ^ k : Nat) : Int) by simp, wrap64_small _ hl, xor_i64_nat x _ hx hl]
theorem xor_lt15 {a b : Nat} (ha : a < 32768) (hb : b < 32768) : a ^^^ b < 32768 := Nat.xor_lt_two_pow (n := 15) ha hb
theorem down_bit (y k : Nat) (hy : y < 32768) : bits BinOp.and IntKind.i64 ((y : Int) / 2 ^ k) 1 = ((y / 2 ^ k % 2 : Nat) : Int) := by
  have h := and_one_i64' (y / 2 ^ k) (by have := Nat.div_le_self y (2 ^ k); omega)
  rw [← h]; congr 1
theorem down_lt (m : Nat) (hm : m < 7) : 285 * 2 ^ m < 32768 := by
  have h : 2 ^ m ≤ 2 ^ 6 := Nat.pow_le_pow_right (by decide) (by omega)
  omega
theorem down_xor (m y : Nat) (hm : m < 7) (hy : y < 32768) :
    bits BinOp.xor IntKind.i64 (y : Int) (wrap64 (285 * 2 ^ m)) = ((y ^^^ 285 * 2 ^ m : Nat) : Int) := by
  have hl := down_lt m hm
  rw [show (285 : Int) * 2 ^ m = ((285 * 2 ^ m : Nat) : Int) by simp, wrap64_small _ hl, xor_i64_nat y _ hy hl]
theorem val_i64 {a b : Int} (h : a = b) : Value.int .i64 a = .int .i64 b := by rw [h]

set_option maxHeartbeats 400000 in
theorem refMul_nat (a b : Nat) (w : World) (ha : a < 256) (hb : b < 256) :
    Calls Try.prog 23 #[.int .u8 (a : Int), .int .u8 (b : Int)] w fun e w' => e = .returned (.int .u8 ((Gf.refMul a b : Nat) : Int)) ∧ w = w' := by
  go_enter Try.func23, Try.ntmps23
  go_wp2
  go_loop [5, 6] (fun vx vi => ∃ k x : Nat, k ≤ 8 ∧ x < 32768 ∧ vi = .int .i64 (k : Int) ∧ vx = .int .i64 (x : Int) ∧ Hid (Gf.refUp (8 - k) a b x = Gf.refUp 8 a b 0)) (fun _ vi => 8 - (intOf vi).toNat)
  case atStart => exact ⟨0, 0, by omega, by omega, rfl, rfl, Lib.hid rfl⟩
  case round =>
    obtain ⟨k, x, hk, hx, rfl, rfl, HR'⟩ := hrel
    by_cases hlt : k < 8
    · have hbit := up_bit b k hb
      have hstep : Gf.refUp (8 - k) a b x = Gf.refUp (8 - (k + 1)) a b (if b / 2 ^ k % 2 = 1 then x ^^^ (a * 2 ^ k) else x) := by
        rw [show 8 - k = (8 - (k + 1)) + 1 by omega]
        simp only [Gf.refUp]
        rw [show 7 - (8 - (k + 1)) = k by omega]
      by_cases hb1 : b / 2 ^ k % 2 = 1
      · have hb2 : (bits BinOp.and IntKind.u8 ((b : Int) / 2 ^ k) 1 == 1) = true := by rw [hbit, hb1]; rfl
        rw [if_pos hb1] at hstep
        have HR2 := Lib.hid (hstep.symm.trans HR'.out)
        clear hstep hbit hb1 HR'
        go_wp2
        go_round
        case rel => exact ⟨k + 1, x ^^^ (a * 2 ^ k), by omega, xor_lt15 hx (up_lt a k ha hlt), by go_num, val_i64 (up_xor a k x ha hlt hx), HR2⟩
        case measure => simp [intOf]; omega
      · have hb2 : (bits BinOp.and IntKind.u8 ((b : Int) / 2 ^ k) 1 == 1) = false := by
          rw [hbit, show b / 2 ^ k % 2 = 0 from (Nat.mod_two_eq_zero_or_one _).resolve_right hb1]; rfl
        rw [if_neg hb1] at hstep
        have HR2 := Lib.hid (hstep.symm.trans HR'.out)
        clear hstep hbit hb1 HR'
        go_wp2
        go_round
        case rel => exact ⟨k + 1, x, by omega, hx, by go_num, rfl, HR2⟩
        case measure => simp [intOf]; omega
    · have HX : Hid (x = Gf.refUp 8 a b 0) := by
        have h := HR'.out
        rw [show 8 - k = 0 by omega] at h
        exact Lib.hid h
      clear HR'
      go_wp2
      go_loop [5, 7] (fun vx vi => ∃ n y : Nat, n ≤ 7 ∧ y < 32768 ∧ vi = .int .i64 ((n : Int) + 7) ∧ vx = .int .i64 (y : Int) ∧ Hid (Gf.refDown n y = Gf.refDown 7 x)) (fun _ vi => (intOf vi).toNat)
      case atStart => exact ⟨7, x, by omega, hx, rfl, rfl, Lib.hid rfl⟩
      case round =>
        obtain ⟨n, y, hn, hy, rfl, rfl, HD⟩ := hrel
        by_cases hpos : 0 < n
        · obtain ⟨m, rfl⟩ : ∃ m, n = m + 1 := ⟨n - 1, by omega⟩
          have hbit := down_bit y (m + 1 + 7) hy
          have hstep : Gf.refDown (m + 1) y = Gf.refDown m (if y / 2 ^ (m + 1 + 7) % 2 = 1 then y ^^^ (285 * 2 ^ m) else y) := rfl
          by_cases hb1 : y / 2 ^ (m + 1 + 7) % 2 = 1
          · have hb2 : (bits BinOp.and IntKind.i64 ((y : Int) / 2 ^ (m + 1 + 7)) 1 == 1) = true := by rw [hbit, hb1]; rfl
            rw [if_pos hb1] at hstep
            have HR2 := Lib.hid (hstep.symm.trans HD.out)
            clear hstep hbit hb1 HD
            go_wp2
            go_round
            case rel => exact ⟨m, y ^^^ (285 * 2 ^ m), by omega, xor_lt15 hy (down_lt m (by omega)), by go_num, val_i64 (down_xor m y (by omega) hy), HR2⟩
            case measure => simp [intOf]; omega
          · have hb2 : (bits BinOp.and IntKind.i64 ((y : Int) / 2 ^ (m + 1 + 7)) 1 == 1) = false := by
              rw [hbit, show y / 2 ^ (m + 1 + 7) % 2 = 0 from (Nat.mod_two_eq_zero_or_one _).resolve_right hb1]; rfl
            rw [if_neg hb1] at hstep
            have HR2 := Lib.hid (hstep.symm.trans HD.out)
            clear hstep hbit hb1 HD
            go_wp2
            go_round
            case rel => exact ⟨m, y, by omega, hy, by go_num, rfl, HR2⟩
            case measure => simp [intOf]; omega
        · have HY : Hid (y % 256 = Gf.refMul a b) := by
            have h := HD.out
            rw [show n = 0 by omega] at h
            have h1 : y = Gf.refDown 7 x := h
            rw [h1, HX.out]
            exact Lib.hid rfl
          clear HD HX
          go_wp2
          go_ret
          exact ⟨ret_u8 (by rw [← HY.out]; omega), rfl⟩

theorem refMul_any (a b : Int) (w : World) (ha : 0 ≤ a) (ha' : a < 256) (hb : 0 ≤ b) (hb' : b < 256) :
    Calls Try.prog 23 #[.int .u8 a, .int .u8 b] w fun e w' => e = .returned (.int .u8 (gmul a b)) ∧ w = w' := by
  obtain ⟨a, rfl⟩ := Int.eq_ofNat_of_zero_le ha
  obtain ⟨b, rfl⟩ := Int.eq_ofNat_of_zero_le hb
  have h := refMul_nat a b w (by omega) (by omega)
  rw [Gf.refMul_eq (by omega)] at h
  exact h

set_option maxRecDepth 100000 in
set_option maxHeartbeats 400000 in
theorem refInv_any (a : Int) (w : World) (ha : 0 ≤ a) (ha' : a < 256) :
    Calls Try.prog 31 #[.int .u8 a] w fun e w' => e = .returned (.int .u8 (ginv a)) ∧ w = w' := by
  go_enter Try.func31, Try.ntmps31
  go_wp2
  go_loop [3, 4] (fun vx vi => ∃ k : Nat, k ≤ 254 ∧ vi = .int .i64 (k : Int) ∧ vx = .int .u8 ((Gf.pw a.toNat k : Nat) : Int)) (fun _ vi => 254 - (intOf vi).toNat)
  case atStart => exact ⟨0, by omega, rfl, rfl⟩
  case round =>
    obtain ⟨k, hk, rfl, rfl⟩ := hrel
    have hp := Gf.pw_lt (a := a.toNat) (by omega) k
    by_cases hlt : k < 254
    · go_wp2_with fail
      refine (refMul_any _ _ _ (by omega) (by omega) ha ha').mono ?_
      rintro e w' ⟨rfl, rfl⟩
      go_wp2
      go_round
      case rel => exact ⟨k + 1, by omega, by go_num, rfl⟩
      case measure => simp [intOf]; omega
    · have HK : Hid (Gf.pw a.toNat k = Gf.inv a.toNat) := by rw [show k = 254 by omega]; exact Lib.hid rfl
      go_wp2
      go_ret
      exact ⟨ret_u8 (congrArg (fun n : Nat => (n : Int)) HK.out), rfl⟩
end Go.Proofs.Ytanaldojoacbeaa
