/- What the law on powers of chapter 1 answers: true, for every element and every two powers; nothing is written. -/
import Derived.Test.YthfpdcicjphagaaGfLaw
namespace Go.Proofs.Ythfpdcicjphagaa
open Go.RowKit

theorem gpow_pw (a n : Int) (ha : 0 < a) (_ha' : a < 256) : gpow a n = ((Gf.pw a.toNat (n % 255).toNat : Nat) : Int) := by
  unfold gpow
  by_cases hn : n = 0
  · subst hn; rw [if_pos rfl]; rfl
  · rw [if_neg hn, if_neg (by omega)]
theorem gpow_add (a n m : Int) (ha : 0 < a) (ha' : a < 256) : gmul (gpow a n) (gpow a m) = gpow a (n + m) := by
  rw [gpow_pw a n ha ha', gpow_pw a m ha ha', gpow_pw a (n + m) ha ha']
  unfold gmul
  rw [Int.toNat_natCast, Int.toNat_natCast, ← Gf.pw_add (by omega), ← Gf.pw_mod (by omega) (by omega)]
  rw [show ((n % 255).toNat + (m % 255).toNat) % 255 = ((n + m) % 255).toNat by omega]
theorem gpow_ord (a : Int) (ha : 0 < a) (ha' : a < 256) : gpow a 255 = 1 := by
  rw [gpow_pw a 255 ha ha']; rfl
theorem gpow_two (a : Int) (ha : 0 < a) (ha' : a < 256) : ∃ j : Nat, j < 255 ∧ gpow 2 (j : Int) = a := by
  obtain ⟨j, hj, he⟩ := Gf.gen (a := a.toNat) (by omega) (by omega)
  refine ⟨j, hj, ?_⟩
  rw [gpow_pw 2 _ (by decide) (by decide), show ((j : Int) % 255).toNat = j by omega, show (2 : Int).toNat = Gf.txn 1 1 from rfl, Gf.pw_gen, Nat.one_mul, ← he]
  omega

set_option maxRecDepth 100000 in
set_option maxHeartbeats 800000 in
theorem gfPowers_out (a n m : Int) (w : World) (hout : n < -1000 ∨ n > 1000 ∨ m < -1000 ∨ m > 1000 ∨ a = 0) :
    Calls Try.prog 5 #[.int .u8 a, .int .i64 n, .int .i64 m] w fun e w' => e = .returned (.bool true) ∧ w = w' := by
  by_cases h1 : n < -1000
  · clear hout
    go_enter Try.func5, Try.ntmps5
    go_wp2_with fail
    refine (alive_true _).mono ?_
    rintro e w' ⟨rfl, rfl⟩
    go_wp2
    go_ret
    exact ⟨rfl, rfl⟩
  by_cases h2 : n > 1000
  · clear hout
    go_enter Try.func5, Try.ntmps5
    go_wp2_with fail
    refine (alive_true _).mono ?_
    rintro e w' ⟨rfl, rfl⟩
    go_wp2
    go_ret
    exact ⟨rfl, rfl⟩
  by_cases h3 : m < -1000
  · clear hout
    go_enter Try.func5, Try.ntmps5
    go_wp2_with fail
    refine (alive_true _).mono ?_
    rintro e w' ⟨rfl, rfl⟩
    go_wp2
    go_ret
    exact ⟨rfl, rfl⟩
  by_cases h4 : m > 1000
  · clear hout
    go_enter Try.func5, Try.ntmps5
    go_wp2_with fail
    refine (alive_true _).mono ?_
    rintro e w' ⟨rfl, rfl⟩
    go_wp2
    go_ret
    exact ⟨rfl, rfl⟩
  · obtain rfl : a = 0 := by omega
    clear hout
    go_enter Try.func5, Try.ntmps5
    go_wp2_with fail
    refine (alive_true _).mono ?_
    rintro e w' ⟨rfl, rfl⟩
    go_wp2
    go_ret
    exact ⟨rfl, rfl⟩

set_option maxRecDepth 100000 in
set_option maxHeartbeats 800000 in
theorem gfPowers_in (a n m : Int) (w : World) (ha : 0 < a) (ha' : a < 256) (hn : -1000 ≤ n) (hn' : n ≤ 1000) (hm : -1000 ≤ m) (hm' : m ≤ 1000) :
    Calls Try.prog 5 #[.int .u8 a, .int .i64 n, .int .i64 m] w fun e w' => e = .returned (.bool true) ∧ w = w' := by
  have hz : (a == 0) = false := beq_eq_false_iff_ne.2 (by omega)
  have r1 := gpow_rng a n (by omega) ha'
  have r2 := gpow_rng a m (by omega) ha'
  have e1 : (gmul (gpow a n) (gpow a m) != gpow a (n + m)) = false := by rw [gpow_add a n m ha ha']; simp
  have e2 : (gpow a 255 != 1) = false := by rw [gpow_ord a ha ha']; rfl
  obtain ⟨j, hj, he⟩ := gpow_two a ha ha'
  have HE := Lib.hid he
  clear he
  go_enter Try.func5, Try.ntmps5
  go_wp2_with (first
      | (go_at_call 7; refine (alive_true _).mono ?_; rintro e w' ⟨rfl, rfl⟩)
      | (go_at_call 9; refine (mul_any _ _ _ (by omega) (by omega) (by omega) (by omega)).mono ?_; rintro e w' ⟨rfl, rfl⟩)
      | (go_at_call 14; refine (pow_any _ _ _ (by omega) (by omega) (by omega) (by omega)).mono ?_; rintro e w' ⟨rfl, rfl⟩))
  go_loop [8] (fun vi => ∃ k : Nat, k ≤ j ∧ vi = .int .i64 (k : Int)) (fun vi => 255 - (intOf vi).toNat)
  case atStart => exact ⟨0, by omega, rfl⟩
  case round =>
    obtain ⟨k, hk, rfl⟩ := hrel
    have hlt : k < 255 := by omega
    by_cases heq : gpow 2 (k : Int) = a
    · have hb : (gpow 2 (k : Int) == a) = true := beq_iff_eq.2 heq
      clear heq
      go_wp2_with fail
      refine (pow_any 2 _ _ (by omega) (by omega) (by omega) (by omega)).mono ?_
      rintro e w' ⟨rfl, rfl⟩
      go_wp2
      go_ret
      exact ⟨rfl, rfl⟩
    · have hb : (gpow 2 (k : Int) == a) = false := beq_eq_false_iff_ne.2 heq
      have hkj : k < j := by
        rcases Nat.lt_or_eq_of_le hk with h | h
        · exact h
        · exact absurd (h ▸ HE.out) heq
      clear heq
      go_wp2_with fail
      refine (pow_any 2 _ _ (by omega) (by omega) (by omega) (by omega)).mono ?_
      rintro e w' ⟨rfl, rfl⟩
      go_wp2
      go_round
      case rel => exact ⟨k + 1, by omega, by go_num⟩
      case measure => simp [intOf]; omega

theorem gfPowers_walk (a n m : Int) (w : World) (ha : 0 ≤ a) (ha' : a < 256) :
    Calls Try.prog 5 #[.int .u8 a, .int .i64 n, .int .i64 m] w fun e w' => e = .returned (.bool true) ∧ w = w' := by
  by_cases h : n < -1000 ∨ n > 1000 ∨ m < -1000 ∨ m > 1000 ∨ a = 0
  · exact gfPowers_out a n m w h
  · exact gfPowers_in a n m w (by omega) ha' (by omega) (by omega) (by omega) (by omega)
end Go.Proofs.Ythfpdcicjphagaa
