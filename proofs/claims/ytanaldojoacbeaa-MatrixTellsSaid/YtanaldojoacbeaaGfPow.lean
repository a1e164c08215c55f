/- What Pow, Inv and Div of package gf answer, for every element and every power; nothing is written. The Lean functions on whole numbers gmul, ginv, gpow name the answers. -/
import Derived.Test.YtanaldojoacbeaaGf
import Derived.Laws.BitsLemmas
import Derived.IntWalk
namespace Go.Proofs.Ytanaldojoacbeaa
open Go.RowKit

def gmul (a b : Int) : Int := ((Gf.mul a.toNat b.toNat : Nat) : Int)
def gadd (a b : Int) : Int := ((a.toNat ^^^ b.toNat : Nat) : Int)
def ginv (a : Int) : Int := ((Gf.inv a.toNat : Nat) : Int)
def gpow (a n : Int) : Int := if n = 0 then 1 else if a = 0 then 0 else ((Gf.pw a.toNat (n % 255).toNat : Nat) : Int)

theorem gmul_rng (a b : Int) (_h0 : 0 ≤ a) (h1 : a < 256) : 0 ≤ gmul a b ∧ gmul a b < 256 := by
  have := Gf.mul_lt (a := a.toNat) (b := b.toNat) (by omega)
  unfold gmul; omega
theorem gadd_rng (a b : Int) (_h0 : 0 ≤ a) (h1 : a < 256) (_h2 : 0 ≤ b) (h3 : b < 256) : 0 ≤ gadd a b ∧ gadd a b < 256 := by
  have := Gf.xor_lt (a := a.toNat) (b := b.toNat) (by omega) (by omega)
  unfold gadd; omega
theorem ginv_rng (a : Int) (_h0 : 0 ≤ a) (h1 : a < 256) : 0 ≤ ginv a ∧ ginv a < 256 := by
  have := Gf.inv_lt (a := a.toNat) (by omega)
  unfold ginv; omega
theorem gpow_rng (a n : Int) (_h0 : 0 ≤ a) (h1 : a < 256) : 0 ≤ gpow a n ∧ gpow a n < 256 := by
  have := Gf.pw_lt (a := a.toNat) (by omega) (n % 255).toNat
  unfold gpow; split
  · omega
  · split <;> omega

theorem mul_any (a b : Int) (w : World) (ha : 0 ≤ a) (ha' : a < 256) (hb : 0 ≤ b) (hb' : b < 256) :
    Calls Try.prog 26 #[.int .u8 a, .int .u8 b] w fun e w' => e = .returned (.int .u8 (gmul a b)) ∧ w = w' := by
  obtain ⟨a, rfl⟩ := Int.eq_ofNat_of_zero_le ha
  obtain ⟨b, rfl⟩ := Int.eq_ofNat_of_zero_le hb
  exact mul_nat a b w (by omega) (by omega)
theorem add_any (a b : Int) (w : World) (ha : 0 ≤ a) (ha' : a < 256) (hb : 0 ≤ b) (hb' : b < 256) :
    Calls Try.prog 25 #[.int .u8 a, .int .u8 b] w fun e w' => e = .returned (.int .u8 (gadd a b)) ∧ w = w' := by
  obtain ⟨a, rfl⟩ := Int.eq_ofNat_of_zero_le ha
  obtain ⟨b, rfl⟩ := Int.eq_ofNat_of_zero_le hb
  exact add_nat a b w (by omega) (by omega)

theorem and_one_i64 (n : Nat) (hn : n < 256) : bits BinOp.and IntKind.i64 (n : Int) 1 = ((n % 2 : Nat) : Int) := by
  have h := bits_mask .i64 8 (by decide) (fun m h0 h1 => by rw [IntKind.wrap_i64]; omega) 1 (by decide) (n : Int) (by omega) (by omega)
  simpa using h

set_option maxHeartbeats 400000 in
theorem raise_nat (a n : Nat) (w : World) (ha : a < 256) (hn : n < 256) :
    Calls Try.prog 37 #[.int .u8 (a : Int), .int .i64 (n : Int)] w fun e w' => e = .returned (.int .u8 ((Gf.pw a n : Nat) : Int)) ∧ w = w' := by
  have HR := Lib.hid (Gf.one_mul (Gf.pw_lt ha n))
  go_enter Try.func37, Try.ntmps37
  go_wp2
  go_loop [0, 1, 5] (fun va vn vp => ∃ a' n' p : Nat, n' < 256 ∧ a' < 256 ∧ p < 256 ∧ vn = .int .i64 (n' : Int) ∧ va = .int .u8 (a' : Int) ∧ vp = .int .u8 (p : Int) ∧ Hid (Gf.mul p (Gf.pw a' n') = Gf.pw a n)) (fun _ vn _ => (intOf vn).toNat)
  case atStart => exact ⟨a, n, 1, hn, ha, by omega, rfl, rfl, rfl, HR⟩
  case round =>
    obtain ⟨a', n', p, hn', ha', hp, rfl, rfl, rfl, HR'⟩ := hrel
    have hand := and_one_i64 n' hn'
    by_cases hlt : 0 < n'
    · have hstep := Gf.raise_pw ha' hp n'
      by_cases hbit : n' % 2 = 1
      · have hb1 : (bits BinOp.and IntKind.i64 (n' : Int) 1 == 1) = true := by rw [hand, hbit]; rfl
        rw [if_pos hbit] at hstep
        have HR2 := Lib.hid (hstep.trans HR'.out)
        clear hstep hand hbit HR' HR
        go_wp2_with (first | (go_at_call 26; refine (mul_nat _ _ _ (by omega) (by omega)).mono ?_; rintro e w' ⟨rfl, rfl⟩))
        go_round
        case rel => exact ⟨Gf.mul a' a', n' / 2, Gf.mul p a', by omega, Gf.mul_lt ha', Gf.mul_lt hp, by go_num, rfl, rfl, HR2⟩
        case measure => simp [intOf]; omega
      · have hb1 : (bits BinOp.and IntKind.i64 (n' : Int) 1 == 1) = false := by rw [hand]; simp; omega
        rw [if_neg hbit] at hstep
        have HR2 := Lib.hid (hstep.trans HR'.out)
        clear hstep hand hbit HR' HR
        go_wp2_with (first | (go_at_call 26; refine (mul_nat _ _ _ (by omega) (by omega)).mono ?_; rintro e w' ⟨rfl, rfl⟩))
        go_round
        case rel => exact ⟨Gf.mul a' a', n' / 2, p, by omega, Gf.mul_lt ha', hp, by go_num, rfl, rfl, HR2⟩
        case measure => simp [intOf]; omega
    · clear hand
      have HR2 : Hid (p = Gf.pw a n) := by
        have h := HR'.out
        rw [show n' = 0 by omega] at h
        have h1 : Gf.mul p 1 = Gf.pw a n := h
        rw [Gf.mul_one hp] at h1
        exact Lib.hid h1
      clear HR' HR
      go_wp2
      go_ret
      exact ⟨ret_u8 (congrArg (fun n : Nat => (n : Int)) HR2.out), rfl⟩

theorem tmod255 (n : Int) : (0 ≤ n.tmod 255 → n % 255 = n.tmod 255) ∧ (n.tmod 255 < 0 → n % 255 = n.tmod 255 + 255) ∧ -255 < n.tmod 255 ∧ n.tmod 255 < 255 := by
  have h := Int.tmod_eq_emod (a := n) (b := 255)
  split at h <;> omega
theorem ret_i64 {a b : Int} (h : a = b) : Ending.returned (.int .i64 a) = .returned (.int .i64 b) := by rw [h]

set_option maxHeartbeats 400000 in
theorem exponent_any (n : Int) (w : World) (_h0 : -9223372036854775808 ≤ n) (_h1 : n ≤ 9223372036854775807) :
    Calls Try.prog 38 #[.int .i64 n] w fun e w' => e = .returned (.int .i64 (n % 255)) ∧ w = w' := by
  obtain ⟨hp, hm, hlo, hhi⟩ := tmod255 n
  have HP := Lib.hid hp
  have HM := Lib.hid hm
  clear hp hm
  by_cases hneg : n.tmod 255 < 0
  · go_enter Try.func38, Try.ntmps38
    go_wp2
    go_ret
    exact ⟨ret_i64 (HM.out hneg).symm, rfl⟩
  · go_enter Try.func38, Try.ntmps38
    go_wp2
    go_ret
    exact ⟨ret_i64 (HP.out (by omega)).symm, rfl⟩

set_option maxHeartbeats 400000 in
theorem pow_any (a n : Int) (w : World) (ha : 0 ≤ a) (ha' : a < 256) (h0 : -9223372036854775808 ≤ n) (h1 : n ≤ 9223372036854775807) :
    Calls Try.prog 36 #[.int .u8 a, .int .i64 n] w fun e w' => e = .returned (.int .u8 (gpow a n)) ∧ w = w' := by
  by_cases hn : n = 0
  · subst hn
    go_enter Try.func36, Try.ntmps36
    go_wp2
    go_ret
    exact ⟨rfl, rfl⟩
  · have hb : (n == 0) = false := by simpa using hn
    by_cases hz : a = 0
    · subst hz
      have HG := Lib.hid (show gpow 0 n = 0 by unfold gpow; rw [if_neg hn, if_pos rfl])
      clear hn
      go_enter Try.func36, Try.ntmps36
      go_wp2
      go_ret
      exact ⟨ret_u8 HG.out.symm, rfl⟩
    · have hc : (a == 0) = false := by simpa using hz
      have HG := Lib.hid (show gpow a n = _ by unfold gpow; rw [if_neg hn, if_neg hz])
      clear hn hz
      have hr0 : 0 ≤ n % 255 := by omega
      have hr1 : n % 255 < 255 := by omega
      obtain ⟨a, rfl⟩ := Int.eq_ofNat_of_zero_le ha
      have hraise := raise_nat a (n % 255).toNat w (by omega) (by omega)
      rw [Int.toNat_of_nonneg hr0] at hraise
      have HR := Lib.hid hraise
      clear hraise
      go_enter Try.func36, Try.ntmps36
      go_wp2_with fail
      refine (exponent_any n _ h0 h1).mono ?_
      rintro e w' ⟨rfl, rfl⟩
      go_wp2_with fail
      refine HR.out.mono ?_
      rintro e w' ⟨rfl, rfl⟩
      go_wp2
      go_ret
      exact ⟨ret_u8 HG.out.symm, rfl⟩

theorem gpow_inv (a : Int) (_h : 0 ≤ a) : gpow a 254 = ginv a := by
  unfold gpow ginv Gf.inv
  rw [if_neg (by decide)]
  by_cases hz : a = 0
  · subst hz; rw [if_pos rfl]; exact congrArg (fun n : Nat => (n : Int)) (Gf.inv_zero).symm
  · rw [if_neg hz]; rfl

set_option maxHeartbeats 400000 in
theorem inv_any (a : Int) (w : World) (ha : 0 ≤ a) (ha' : a < 256) :
    Calls Try.prog 32 #[.int .u8 a] w fun e w' => e = .returned (.int .u8 (ginv a)) ∧ w = w' := by
  have HG := Lib.hid (gpow_inv a ha)
  go_enter Try.func32, Try.ntmps32
  go_wp2_with fail
  refine (pow_any a 254 _ ha ha' (by decide) (by decide)).mono ?_
  rintro e w' ⟨rfl, rfl⟩
  go_wp2
  go_ret
  exact ⟨ret_u8 HG.out, rfl⟩
end Go.Proofs.Ytanaldojoacbeaa
