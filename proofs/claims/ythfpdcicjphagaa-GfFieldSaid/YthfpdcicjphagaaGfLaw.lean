/- What the laws of chapter 1 answer: true, for every two or three elements and every power; nothing is written. -/
import Derived.Test.YthfpdcicjphagaaGfAlive
import Derived.Test.YthfpdcicjphagaaGfRef
namespace Go.Proofs.Ythfpdcicjphagaa
open Go.RowKit

/-! ### the laws of the field, on whole numbers -/
theorem gadd_eq (a b : Int) (ha : 0 ≤ a) (ha' : a < 256) (hb : 0 ≤ b) (hb' : b < 256) : gadd a b = bits BinOp.xor IntKind.u8 a b := by
  obtain ⟨a, rfl⟩ := Int.eq_ofNat_of_zero_le ha
  obtain ⟨b, rfl⟩ := Int.eq_ofNat_of_zero_le hb
  rw [bits_xor_u8 a b (by omega) (by omega)]; rfl
theorem gmul_comm (a b : Int) (ha : 0 ≤ a) (ha' : a < 256) (hb : 0 ≤ b) (hb' : b < 256) : gmul a b = gmul b a :=
  congrArg (fun n : Nat => (n : Int)) (Gf.mul_comm (by omega) (by omega))
theorem gmul_assoc (a b c : Int) (ha : 0 ≤ a) (ha' : a < 256) (hb : 0 ≤ b) (hb' : b < 256) : gmul (gmul a b) c = gmul a (gmul b c) := by
  unfold gmul
  rw [Int.toNat_natCast, Int.toNat_natCast, Gf.mul_assoc (by omega) (by omega)]
theorem gmul_gadd (a b c : Int) (ha : 0 ≤ a) (ha' : a < 256) (hb : 0 ≤ b) (hb' : b < 256) (hc : 0 ≤ c) (hc' : c < 256) : gmul a (gadd b c) = gadd (gmul a b) (gmul a c) := by
  unfold gmul gadd
  rw [Int.toNat_natCast, Int.toNat_natCast, Int.toNat_natCast, Gf.mul_xor (by omega) (by omega) (by omega)]
theorem gmul_one (a : Int) (ha : 0 ≤ a) (ha' : a < 256) : gmul a 1 = a := by
  unfold gmul
  rw [show (1 : Int).toNat = 1 from rfl, Gf.mul_one (by omega)]; omega
theorem gmul_zero (a : Int) (ha : 0 ≤ a) (ha' : a < 256) : gmul a 0 = 0 := by
  unfold gmul
  rw [show (0 : Int).toNat = 0 from rfl, Gf.mul_zero (by omega)]; rfl
theorem gadd_self (a : Int) : gadd a a = 0 := by
  unfold gadd; rw [Nat.xor_self]; rfl
theorem gmul_ginv (a : Int) (ha : 0 < a) (ha' : a < 256) : gmul a (ginv a) = 1 := by
  unfold gmul ginv
  rw [Int.toNat_natCast, Gf.mul_inv (by omega) (by omega)]; rfl
theorem gdiv_gmul (a b : Int) (ha : 0 ≤ a) (ha' : a < 256) (hb : 0 < b) (hb' : b < 256) : gmul (gmul a (ginv b)) b = a := by
  have hr := ginv_rng b (by omega) hb'
  rw [gmul_assoc a (ginv b) b ha ha' hr.1 hr.2, gmul_comm (ginv b) b hr.1 hr.2 (by omega) hb', gmul_ginv b hb hb', gmul_one a ha ha']

set_option maxHeartbeats 800000 in
theorem gfTells_walk (a b n : Int) (w : World) (ha : 0 ≤ a) (ha' : a < 256) (hb : 0 ≤ b) (hb' : b < 256) (h0 : -9223372036854775808 ≤ n) (h1 : n ≤ 9223372036854775807) :
    Calls Try.prog 3 #[.int .u8 a, .int .u8 b, .int .i64 n] w fun e w' => e = .returned (.bool true) ∧ w = w' := by
  have e1 : (gadd a b == bits BinOp.xor IntKind.u8 a b) = true := beq_iff_eq.2 (gadd_eq a b ha ha' hb hb')
  have hr := ginv_rng b hb hb'
  go_enter Try.func3, Try.ntmps3
  go_wp2_with fail
  refine (alive_true _).mono ?_
  rintro e w' ⟨rfl, rfl⟩
  go_wp2_with fail
  refine (add_any a b _ ha ha' hb hb').mono ?_
  rintro e w' ⟨rfl, rfl⟩
  go_wp2_with fail
  refine (mul_any a b _ ha ha' hb hb').mono ?_
  rintro e w' ⟨rfl, rfl⟩
  go_wp2_with fail
  refine (refMul_any a b _ ha ha' hb hb').mono ?_
  rintro e w' ⟨rfl, rfl⟩
  go_wp2_with fail
  refine (inv_any a _ ha ha').mono ?_
  rintro e w' ⟨rfl, rfl⟩
  go_wp2_with fail
  refine (refInv_any a _ ha ha').mono ?_
  rintro e w' ⟨rfl, rfl⟩
  go_wp2_with fail
  refine (div_any a b _ ha ha' hb hb').mono ?_
  rintro e w' ⟨rfl, rfl⟩
  go_wp2_with fail
  refine (refInv_any b _ hb hb').mono ?_
  rintro e w' ⟨rfl, rfl⟩
  go_wp2_with fail
  refine (refMul_any a (ginv b) _ ha ha' hr.1 hr.2).mono ?_
  rintro e w' ⟨rfl, rfl⟩
  go_wp2_with fail
  refine (pow_any a n _ ha ha' h0 h1).mono ?_
  rintro e w' ⟨rfl, rfl⟩
  go_wp2_with fail
  refine (refPow_any a n _ ha ha' h0 h1).mono ?_
  rintro e w' ⟨rfl, rfl⟩
  go_wp2
  go_ret
  exact ⟨rfl, rfl⟩

set_option maxHeartbeats 800000 in
theorem gfField_walk (a b c : Int) (w : World) (ha : 0 ≤ a) (ha' : a < 256) (hb : 0 ≤ b) (hb' : b < 256) (hc : 0 ≤ c) (hc' : c < 256) :
    Calls Try.prog 4 #[.int .u8 a, .int .u8 b, .int .u8 c] w fun e w' => e = .returned (.bool true) ∧ w = w' := by
  have hab := gmul_rng a b ha ha'
  have hac := gmul_rng a c ha ha'
  have hbc := gmul_rng b c hb hb'
  have habc := gadd_rng b c hb hb' hc hc'
  have hi := ginv_rng b hb hb'
  have hd := gmul_rng a (ginv b) ha ha'
  have e1 : (gmul a b != gmul b a) = false := by rw [gmul_comm a b ha ha' hb hb']; simp
  have e2 : (gmul (gmul a b) c != gmul a (gmul b c)) = false := by rw [gmul_assoc a b c ha ha' hb hb']; simp
  have e3 : (gmul a (gadd b c) != gadd (gmul a b) (gmul a c)) = false := by rw [gmul_gadd a b c ha ha' hb hb' hc hc']; simp
  have e4 : (gmul a 1 != a) = false := by rw [gmul_one a ha ha']; simp
  have e5 : (gmul a 0 != 0) = false := by rw [gmul_zero a ha ha']; simp
  have e6 : (gadd a a != 0) = false := by rw [gadd_self a]; simp
  by_cases hz : b = 0
  · have e7 : (b == 0) = true := beq_iff_eq.2 hz
    clear hz
    go_enter Try.func4, Try.ntmps4
    go_wp2_with (first
      | (go_at_call 7; refine (alive_true _).mono ?_; rintro e w' ⟨rfl, rfl⟩)
      | (go_at_call 9; refine (mul_any _ _ _ (by omega) (by omega) (by omega) (by omega)).mono ?_; rintro e w' ⟨rfl, rfl⟩)
      | (go_at_call 8; refine (add_any _ _ _ (by omega) (by omega) (by omega) (by omega)).mono ?_; rintro e w' ⟨rfl, rfl⟩))
    go_ret
    exact ⟨rfl, rfl⟩
  · have e7 : (b == 0) = false := beq_eq_false_iff_ne.2 hz
    have e8 : (gmul (gmul a (ginv b)) b == a) = true := beq_iff_eq.2 (gdiv_gmul a b ha ha' (by omega) hb')
    clear hz
    go_enter Try.func4, Try.ntmps4
    go_wp2_with (first
      | (go_at_call 7; refine (alive_true _).mono ?_; rintro e w' ⟨rfl, rfl⟩)
      | (go_at_call 9; refine (mul_any _ _ _ (by omega) (by omega) (by omega) (by omega)).mono ?_; rintro e w' ⟨rfl, rfl⟩)
      | (go_at_call 8; refine (add_any _ _ _ (by omega) (by omega) (by omega) (by omega)).mono ?_; rintro e w' ⟨rfl, rfl⟩)
      | (go_at_call 13; refine (div_any _ _ _ (by omega) (by omega) (by omega) (by omega)).mono ?_; rintro e w' ⟨rfl, rfl⟩))
    go_ret
    exact ⟨rfl, rfl⟩
end Go.Proofs.Ythfpdcicjphagaa
