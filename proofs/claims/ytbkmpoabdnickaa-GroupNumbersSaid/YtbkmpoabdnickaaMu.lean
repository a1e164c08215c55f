/- What the small function alike of package erasure answers. What Add and Mul of package gf answer, for every two elements; nothing is written. What Pow and Inv of package gf answer, for every element and every power; nothing is written. The calls of package gf, on elements. What Right of package matrix answers. -/
import Derived.Test.YtbkmpoabdnickaaMh
import Derived.Test.YtbkmpoabdnickaaMf
import Derived.Test.YtbkmpoabdnickaaMg
namespace Go.Proofs.Ytbkmpoabdnickaa
open Go.RowKit Mx

def alikeB (n : Nat) (L : Nat → Nat) : Bool := decide (∀ i, i < n → L i = L 0)
theorem alikeB_true {n : Nat} {L : Nat → Nat} : alikeB n L = true ↔ ∀ i, i < n → L i = L 0 := decide_eq_true_iff
theorem alikeB_false {n : Nat} {L : Nat → Nat} {k : Nat} (hk : k < n) (h : L k ≠ L 0) : alikeB n L = false := decide_eq_false fun hh => h (hh k hk)
set_option maxHeartbeats 1000000 in
theorem alike_any (A : Option Addr) (n C : Nat) (L : Nat → Nat) (M : Mat) (G : Nat → Prop) (w : World) (hm : n ≤ maxLen) (h : RdM w A n L M G) :
    Calls Try.prog 51 #[.slice A n C] w fun e w' => e = .returned (.bool (alikeB n L)) ∧ w = w' := by
  unfold maxLen at hm
  have H := Lib.hid h
  clear h
  go_enter Try.func51, Try.ntmps51
  go_wp2
  go_loop [7, 4] (fun vi _ => ∃ k : Nat, k ≤ n ∧ vi = .int .i64 (k : Int) ∧ Hid (∀ i, i < k → L i = L 0)) (fun vi _ => n - (intOf vi).toNat)
  case atStart => exact ⟨0, by omega, rfl, Lib.hid (fun i hi => absurd hi (by omega))⟩
  case round =>
    obtain ⟨k, hk, rfl, HL⟩ := hrel
    by_cases hlt : k < n
    · obtain ⟨b, off, A0, C0, rfl, _, hc0, _⟩ := H.out.row (i := 0) (by omega)
      rw [Nat.add_zero] at hc0
      obtain ⟨b', off', Ak, Ck, e, _, hck, _⟩ := H.out.row hlt
      obtain ⟨rfl, rfl⟩ : b = b' ∧ off = off' := by simpa using e
      clear e
      by_cases he : L k = L 0
      · have hb : ((L k : Int) != (L 0 : Int)) = false := by rw [he]; simp
        have HE := Lib.hid he
        clear he
        go_wp2
        go_round
        case rel => exact ⟨k + 1, by omega, by go_num, Lib.hid (fun i hi => by
          by_cases e : i = k
          · rw [e]; exact HE.out
          · exact HL.out i (by omega))⟩
        case measure => simp [intOf]; omega
      · have hb : ((L k : Int) != (L 0 : Int)) = true := by rw [bne_iff_ne]; omega
        have HF := Lib.hid (alikeB_false (n := n) (L := L) hlt he)
        clear he
        go_wp2
        go_ret
        exact ⟨ret_bool HF.out.symm, rfl⟩
    · have HF := Lib.hid (alikeB_true (n := n) (L := L) |>.2 fun i hi => HL.out i (by omega))
      go_wp2
      go_ret
      exact ⟨ret_bool HF.out.symm, rfl⟩
theorem alike_is (A : Option Addr) (n C : Nat) (L : Nat → Nat) (M : Mat) (G : Nat → Prop) (w : World) (r : Bool) (hm : n ≤ maxLen) (h : RdM w A n L M G) (hr : alikeB n L = r) :
    Calls Try.prog 51 #[.slice A n C] w fun e w' => e = .returned (.bool r) ∧ w = w' := hr ▸ alike_any A n C L M G w hm h

end Go.Proofs.Ytbkmpoabdnickaa
namespace Go.Proofs.Ytbkmpoabdnickaa
open Go.RowKit

set_option maxHeartbeats 400000 in
theorem add_nat (a b : Nat) (w : World) (ha : a < 256) (hb : b < 256) :
    Calls Try.prog 71 #[.int .u8 (a : Int), .int .u8 (b : Int)] w fun e w' => e = .returned (.int .u8 ((a ^^^ b : Nat) : Int)) ∧ w = w' := by
  go_enter Try.func71, Try.ntmps71
  go_wp2
  go_ret
  exact ⟨ret_u8 (bits_xor_u8 a b ha hb), rfl⟩
set_option maxHeartbeats 400000 in
theorem timesX_nat (a : Nat) (w : World) (ha : a < 256) :
    Calls Try.prog 88 #[.int .u8 (a : Int)] w fun e w' => e = .returned (.int .u8 ((Gf.tx a : Nat) : Int)) ∧ w = w' := by
  have ht := and_top_u8 a ha
  by_cases h : a < 128
  · have ht' : (bits BinOp.and IntKind.u8 (a : Int) 128 == 0) = true := by rw [ht]; simpa using h
    clear ht
    go_enter Try.func88, Try.ntmps88
    go_wp2
    go_ret
    refine ⟨ret_u8 ?_, rfl⟩
    unfold Gf.tx; rw [if_pos h]; omega
  · have ht' : (bits BinOp.and IntKind.u8 (a : Int) 128 == 0) = false := by rw [ht]; simpa using h
    clear ht
    go_enter Try.func88, Try.ntmps88
    go_wp2
    go_ret
    refine ⟨ret_u8 ?_, rfl⟩
    unfold Gf.tx; rw [if_neg h]
    rw [show (a : Int) * 2 % 256 = ((2 * a - 256 : Nat) : Int) by omega]
    exact bits_xor_u8 _ 29 (by omega) (by decide)
set_option maxHeartbeats 400000 in
theorem mul_nat (a b : Nat) (w : World) (ha : a < 256) (hb : b < 256) :
    Calls Try.prog 83 #[.int .u8 (a : Int), .int .u8 (b : Int)] w fun e w' => e = .returned (.int .u8 ((Gf.mul a b : Nat) : Int)) ∧ w = w' := by
  have HR := Lib.hid (show Gf.mulr 8 a b 0 = Gf.mul a b from rfl)
  go_enter Try.func83, Try.ntmps83
  go_wp2
  go_loop [0, 1, 5, 6] (fun va vb vp vi => ∃ k a' b' p : Nat, k ≤ 8 ∧ a' < 256 ∧ b' < 256 ∧ p < 256 ∧ vi = .int .i64 (k : Int) ∧ va = .int .u8 (a' : Int) ∧ vb = .int .u8 (b' : Int) ∧ vp = .int .u8 (p : Int) ∧ Hid (Gf.mulr (8 - k) a' b' p = Gf.mul a b)) (fun _ _ _ vi => 8 - (intOf vi).toNat)
  case atStart => exact ⟨0, a, b, 0, by omega, ha, hb, by omega, rfl, rfl, rfl, rfl, HR⟩
  case round =>
    obtain ⟨k, a', b', p, hk, ha', hb', hp, rfl, rfl, rfl, rfl, HR'⟩ := hrel
    have hand := and_one_u8 b' hb'
    by_cases hlt : k < 8
    · have hstep : Gf.mulr (8 - k) a' b' p = Gf.mulr (8 - (k + 1)) (Gf.tx a') (b' / 2) (if b' % 2 = 1 then p ^^^ a' else p) := by
        rw [show 8 - k = (8 - (k + 1)) + 1 by omega]; rfl
      by_cases hbit : b' % 2 = 1
      · have hb1 : (bits BinOp.and IntKind.u8 (b' : Int) 1 == 1) = true := by rw [hand, hbit]; rfl
        rw [if_pos hbit] at hstep
        have HR2 := Lib.hid (hstep.symm.trans HR'.out)
        clear hstep hand hbit HR' HR
        go_wp2_with (first | (go_at_call 71; refine (add_nat _ _ _ (by omega) (by omega)).mono ?_; rintro e w' ⟨rfl, rfl⟩) | (go_at_call 88; refine (timesX_nat _ _ (by omega)).mono ?_; rintro e w' ⟨rfl, rfl⟩))
        go_round
        case rel => exact ⟨k + 1, Gf.tx a', b' / 2, p ^^^ a', by omega, Gf.tx_lt ha', by omega, Gf.xor_lt hp ha', by go_num, rfl, by go_num, rfl, HR2⟩
        case measure => simp [intOf]; omega
      · have hb1 : (bits BinOp.and IntKind.u8 (b' : Int) 1 == 1) = false := by rw [hand]; simp; omega
        rw [if_neg hbit] at hstep
        have HR2 := Lib.hid (hstep.symm.trans HR'.out)
        clear hstep hand hbit HR' HR
        go_wp2_with (first | (go_at_call 88; refine (timesX_nat _ _ (by omega)).mono ?_; rintro e w' ⟨rfl, rfl⟩))
        go_round
        case rel => exact ⟨k + 1, Gf.tx a', b' / 2, p, by omega, Gf.tx_lt ha', by omega, hp, by go_num, rfl, by go_num, rfl, HR2⟩
        case measure => simp [intOf]; omega
    · clear hand
      have HR2 : Hid (p = Gf.mul a b) := by
        have h := HR'.out
        rw [show 8 - k = 0 by omega] at h
        exact Lib.hid h
      clear HR' HR
      go_wp2
      go_ret
      exact ⟨ret_u8 (congrArg (fun n : Nat => (n : Int)) HR2.out), rfl⟩
theorem mul_any (a b : Int) (w : World) (ha : 0 ≤ a) (ha' : a < 256) (hb : 0 ≤ b) (hb' : b < 256) :
    Calls Try.prog 83 #[.int .u8 a, .int .u8 b] w fun e w' => e = .returned (.int .u8 (gmul a b)) ∧ w = w' := by
  obtain ⟨a, rfl⟩ := Int.eq_ofNat_of_zero_le ha
  obtain ⟨b, rfl⟩ := Int.eq_ofNat_of_zero_le hb
  exact mul_nat a b w (by omega) (by omega)
theorem add_any (a b : Int) (w : World) (ha : 0 ≤ a) (ha' : a < 256) (hb : 0 ≤ b) (hb' : b < 256) :
    Calls Try.prog 71 #[.int .u8 a, .int .u8 b] w fun e w' => e = .returned (.int .u8 (gadd a b)) ∧ w = w' := by
  obtain ⟨a, rfl⟩ := Int.eq_ofNat_of_zero_le ha
  obtain ⟨b, rfl⟩ := Int.eq_ofNat_of_zero_le hb
  exact add_nat a b w (by omega) (by omega)
end Go.Proofs.Ytbkmpoabdnickaa
namespace Go.Proofs.Ytbkmpoabdnickaa
open Go.RowKit

set_option maxHeartbeats 400000 in
theorem raise_nat (a n : Nat) (w : World) (ha : a < 256) (hn : n < 256) :
    Calls Try.prog 86 #[.int .u8 (a : Int), .int .i64 (n : Int)] w fun e w' => e = .returned (.int .u8 ((Gf.pw a n : Nat) : Int)) ∧ w = w' := by
  have HR := Lib.hid (Gf.one_mul (Gf.pw_lt ha n))
  go_enter Try.func86, Try.ntmps86
  go_wp2
  go_loop [0, 1, 5] (fun va vn vp => ∃ a' n' p : Nat, n' < 256 ∧ a' < 256 ∧ p < 256 ∧ vn = .int .i64 (n' : Int) ∧ va = .int .u8 (a' : Int) ∧ vp = .int .u8 (p : Int) ∧ Hid (Gf.mul p (Gf.pw a' n') = Gf.pw a n)) (fun _ vn _ => (intOf vn).toNat)
  case atStart => exact ⟨a, n, 1, hn, ha, by omega, rfl, rfl, rfl, HR⟩
  case round =>
    obtain ⟨a', n', p, hn', ha', hp, rfl, rfl, rfl, HR'⟩ := hrel
    have hand := and_one_i64 n' hn'
    by_cases hlt : 0 < n'
    · have hstep := Gf.raise_pw ha' hp n'
      by_cases hbit : n' % 2 = 1
      · have hb1 : (bits BinOp.and IntKind.i64 (n' : Int) 1 == 1) = true := by rw [hand, hbit]; rfl
        rw [if_pos hbit] at hstep
        have HR2 := Lib.hid (hstep.trans HR'.out)
        clear hstep hand hbit HR' HR
        go_wp2_with (first | (go_at_call 83; refine (mul_nat _ _ _ (by omega) (by omega)).mono ?_; rintro e w' ⟨rfl, rfl⟩))
        go_round
        case rel => exact ⟨Gf.mul a' a', n' / 2, Gf.mul p a', by omega, Gf.mul_lt ha', Gf.mul_lt hp, by go_num, rfl, rfl, HR2⟩
        case measure => simp [intOf]; omega
      · have hb1 : (bits BinOp.and IntKind.i64 (n' : Int) 1 == 1) = false := by rw [hand]; simp; omega
        rw [if_neg hbit] at hstep
        have HR2 := Lib.hid (hstep.trans HR'.out)
        clear hstep hand hbit HR' HR
        go_wp2_with (first | (go_at_call 83; refine (mul_nat _ _ _ (by omega) (by omega)).mono ?_; rintro e w' ⟨rfl, rfl⟩))
        go_round
        case rel => exact ⟨Gf.mul a' a', n' / 2, p, by omega, Gf.mul_lt ha', hp, by go_num, rfl, rfl, HR2⟩
        case measure => simp [intOf]; omega
    · clear hand
      have HR2 : Hid (p = Gf.pw a n) := by
        have h := HR'.out
        rw [show n' = 0 by omega] at h
        have h1 : Gf.mul p 1 = Gf.pw a n := h
        rw [Gf.mul_one hp] at h1
        exact Lib.hid h1
      clear HR' HR
      go_wp2
      go_ret
      exact ⟨ret_u8 (congrArg (fun n : Nat => (n : Int)) HR2.out), rfl⟩
set_option maxHeartbeats 400000 in
theorem exponent_any (n : Int) (w : World) (_h0 : -9223372036854775808 ≤ n) (_h1 : n ≤ 9223372036854775807) :
    Calls Try.prog 87 #[.int .i64 n] w fun e w' => e = .returned (.int .i64 (n % 255)) ∧ w = w' := by
  obtain ⟨hp, hm, hlo, hhi⟩ := tmod255 n
  have HP := Lib.hid hp
  have HM := Lib.hid hm
  clear hp hm
  by_cases hneg : n.tmod 255 < 0
  · go_enter Try.func87, Try.ntmps87
    go_wp2
    go_ret
    exact ⟨ret_i64 (HM.out hneg).symm, rfl⟩
  · go_enter Try.func87, Try.ntmps87
    go_wp2
    go_ret
    exact ⟨ret_i64 (HP.out (by omega)).symm, rfl⟩
set_option maxHeartbeats 400000 in
theorem pow_any (a n : Int) (w : World) (ha : 0 ≤ a) (ha' : a < 256) (h0 : -9223372036854775808 ≤ n) (h1 : n ≤ 9223372036854775807) :
    Calls Try.prog 81 #[.int .u8 a, .int .i64 n] w fun e w' => e = .returned (.int .u8 (gpow a n)) ∧ w = w' := by
  by_cases hn : n = 0
  · subst hn
    go_enter Try.func81, Try.ntmps81
    go_wp2
    go_ret
    exact ⟨rfl, rfl⟩
  · have hb : (n == 0) = false := by simpa using hn
    by_cases hz : a = 0
    · subst hz
      have HG := Lib.hid (show gpow 0 n = 0 by unfold gpow; rw [if_neg hn, if_pos rfl])
      clear hn
      go_enter Try.func81, Try.ntmps81
      go_wp2
      go_ret
      exact ⟨ret_u8 HG.out.symm, rfl⟩
    · have hc : (a == 0) = false := by simpa using hz
      have HG := Lib.hid (show gpow a n = _ by unfold gpow; rw [if_neg hn, if_neg hz])
      clear hn hz
      have hr0 : 0 ≤ n % 255 := by omega
      have hr1 : n % 255 < 255 := by omega
      obtain ⟨a, rfl⟩ := Int.eq_ofNat_of_zero_le ha
      have hraise := raise_nat a (n % 255).toNat w (by omega) (by omega)
      rw [Int.toNat_of_nonneg hr0] at hraise
      have HR := Lib.hid hraise
      clear hraise
      go_enter Try.func81, Try.ntmps81
      go_wp2_with fail
      refine (exponent_any n _ h0 h1).mono ?_
      rintro e w' ⟨rfl, rfl⟩
      go_wp2_with fail
      refine HR.out.mono ?_
      rintro e w' ⟨rfl, rfl⟩
      go_wp2
      go_ret
      exact ⟨ret_u8 HG.out.symm, rfl⟩
set_option maxHeartbeats 400000 in
theorem inv_any (a : Int) (w : World) (ha : 0 ≤ a) (ha' : a < 256) :
    Calls Try.prog 70 #[.int .u8 a] w fun e w' => e = .returned (.int .u8 (ginv a)) ∧ w = w' := by
  have HG := Lib.hid (gpow_inv a ha)
  go_enter Try.func70, Try.ntmps70
  go_wp2_with fail
  refine (pow_any a 254 _ ha ha' (by decide) (by decide)).mono ?_
  rintro e w' ⟨rfl, rfl⟩
  go_wp2
  go_ret
  exact ⟨ret_u8 HG.out, rfl⟩
end Go.Proofs.Ytbkmpoabdnickaa
namespace Go.Proofs.Ytbkmpoabdnickaa
open Go.RowKit Mx

theorem mul_fe (a b : Fe) (w : World) : Calls Try.prog 83 #[.int .u8 (fi a), .int .u8 (fi b)] w fun e w' => e = .returned (.int .u8 (fi (a * b))) ∧ w = w' := by
  rw [← gmul_fi]; exact mul_any _ _ w (fi_lo a) (fi_hi a) (fi_lo b) (fi_hi b)
theorem add_fe (a b : Fe) (w : World) : Calls Try.prog 71 #[.int .u8 (fi a), .int .u8 (fi b)] w fun e w' => e = .returned (.int .u8 (fi (a + b))) ∧ w = w' := by
  rw [← gadd_fi]; exact add_any _ _ w (fi_lo a) (fi_hi a) (fi_lo b) (fi_hi b)
theorem inv_fe (a : Fe) (w : World) : Calls Try.prog 70 #[.int .u8 (fi a)] w fun e w' => e = .returned (.int .u8 (fi (inv a))) ∧ w = w' := by
  rw [← ginv_fi]; exact inv_any _ w (fi_lo a) (fi_hi a)

theorem mul_st (a b : Fe) (w : World) : Calls Try.prog 83 #[.int .u8 (fi a), .int .u8 (fi b)] w fun e w' => e = .returned (.int .u8 (fi (a * b))) ∧ w' = w := (mul_fe a b w).mono fun _ _ h => ⟨h.1, h.2.symm⟩
theorem add_st (a b : Fe) (w : World) : Calls Try.prog 71 #[.int .u8 (fi a), .int .u8 (fi b)] w fun e w' => e = .returned (.int .u8 (fi (a + b))) ∧ w' = w := (add_fe a b w).mono fun _ _ h => ⟨h.1, h.2.symm⟩
theorem add_ist (a b : Int) (w : World) (ha : 0 ≤ a) (ha' : a < 256) (hb : 0 ≤ b) (hb' : b < 256) : Calls Try.prog 71 #[.int .u8 a, .int .u8 b] w fun e w' => e = .returned (.int .u8 (gadd a b)) ∧ w' = w := (add_any a b w ha ha' hb hb').mono fun _ _ h => ⟨h.1, h.2.symm⟩
theorem inv_ist (a : Int) (w : World) (ha : 0 ≤ a) (ha' : a < 256) : Calls Try.prog 70 #[.int .u8 a] w fun e w' => e = .returned (.int .u8 (ginv a)) ∧ w' = w := (inv_any a w ha ha').mono fun _ _ h => ⟨h.1, h.2.symm⟩
end Go.Proofs.Ytbkmpoabdnickaa
namespace Go.Proofs.Ytbkmpoabdnickaa
open Go.RowKit Mx

set_option maxHeartbeats 1000000 in
theorem right_any (A : Option Addr) (n C : Nat) (L : Nat → Nat) (M : Mat) (G : Nat → Prop) (w : World) (hm : n ≤ maxLen) (h : RdM w A n L M G) :
    Calls Try.prog 82 #[.slice A n C] w fun e w' => e = .returned (.bool (rightB n L)) ∧ w = w' := by
  unfold maxLen at hm
  by_cases h1 : 1 ≤ n ∧ n ≤ 255
  · obtain ⟨h1, h2⟩ := h1
    obtain ⟨b, off, A0, C0, rfl, _, hc0, _⟩ := h.row (i := 0) (by omega)
    rw [Nat.add_zero] at hc0
    have H := Lib.hid h
    clear h
    by_cases h3 : 1 ≤ L 0 ∧ L 0 ≤ 255
    · obtain ⟨h3, h4⟩ := h3
      go_enter Try.func82, Try.ntmps82
      go_wp2
      go_loop [26, 5] (fun vi _ => ∃ k : Nat, k ≤ n ∧ vi = .int .i64 (k : Int) ∧ Hid (∀ i, i < k → L i = L 0)) (fun vi _ => n - (intOf vi).toNat)
      case atStart => exact ⟨0, by omega, rfl, Lib.hid (fun i hi => absurd hi (by omega))⟩
      case round =>
        obtain ⟨k, hk, rfl, HL⟩ := hrel
        by_cases hlt : k < n
        · obtain ⟨b', off', Ak, Ck, e, _, hck, _⟩ := H.out.row hlt
          obtain ⟨rfl, rfl⟩ : b = b' ∧ off = off' := by simpa using e
          clear e
          by_cases he : L k = L 0
          · have hb : ((L k : Int) != (L 0 : Int)) = false := by rw [he]; simp
            have HE := Lib.hid he
            clear he
            go_wp2
            go_round
            case rel => exact ⟨k + 1, by omega, by go_num, Lib.hid (fun i hi => by
              by_cases e : i = k
              · rw [e]; exact HE.out
              · exact HL.out i (by omega))⟩
            case measure => simp [intOf]; omega
          · have hb : ((L k : Int) != (L 0 : Int)) = true := by rw [bne_iff_ne]; omega
            have HF := Lib.hid (rightB_false (n := n) (L := L) (fun h => he (h.2.2.2.2 k hlt)))
            clear he
            go_wp2
            go_ret
            exact ⟨ret_bool HF.out.symm, rfl⟩
        · have HF := Lib.hid (rightB_true (n := n) (L := L) |>.2 ⟨h1, h2, h3, h4, fun i hi => HL.out i (by omega)⟩)
          go_wp2
          go_ret
          exact ⟨ret_bool HF.out.symm, rfl⟩
    · have HF := Lib.hid (rightB_false (n := n) (L := L) (fun h => h3 ⟨h.2.2.1, h.2.2.2.1⟩))
      rcases (show L 0 < 1 ∨ 255 < L 0 by omega) with h5 | h5
      all_goals
        clear h3
        go_enter Try.func82, Try.ntmps82
        go_wp2
        go_ret
        exact ⟨ret_bool HF.out.symm, rfl⟩
  · have HF := Lib.hid (rightB_false (n := n) (L := L) (fun h => h1 ⟨h.1, h.2.1⟩))
    clear h
    rcases (show n < 1 ∨ 255 < n by omega) with h5 | h5
    all_goals
      clear h1
      go_enter Try.func82, Try.ntmps82
      go_wp2
      go_ret
      exact ⟨ret_bool HF.out.symm, rfl⟩
theorem right_is (A : Option Addr) (n C : Nat) (L : Nat → Nat) (M : Mat) (G : Nat → Prop) (w : World) (r : Bool) (hm : n ≤ maxLen) (h : RdM w A n L M G) (hr : rightB n L = r) :
    Calls Try.prog 82 #[.slice A n C] w fun e w' => e = .returned (.bool r) ∧ w = w' := hr ▸ right_any A n C L M G w hm h
end Go.Proofs.Ytbkmpoabdnickaa
