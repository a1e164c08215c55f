/- What Add and Mul of package gf answer, for every two elements; nothing is written. What Pow and Inv of package gf answer, for every element and every power; nothing is written. The calls of package gf, on elements. What Right of package matrix answers. What Apply of package matrix answers, whatever it is given. -/
import Derived.Test.YtmfikihcoafekaaMaf
import Derived.Test.YtmfikihcoafekaaMag
namespace Go.Proofs.Ytmfikihcoafekaa
open Go.RowKit

set_option maxHeartbeats 400000 in
theorem add_nat (a b : Nat) (w : World) (ha : a < 256) (hb : b < 256) :
    Calls Try.prog 67 #[.int .u8 (a : Int), .int .u8 (b : Int)] w fun e w' => e = .returned (.int .u8 ((a ^^^ b : Nat) : Int)) ∧ w = w' := by
  go_enter Try.func67, Try.ntmps67
  go_wp2
  go_ret
  exact ⟨ret_u8 (bits_xor_u8 a b ha hb), rfl⟩
set_option maxHeartbeats 400000 in
theorem timesX_nat (a : Nat) (w : World) (ha : a < 256) :
    Calls Try.prog 85 #[.int .u8 (a : Int)] w fun e w' => e = .returned (.int .u8 ((Gf.tx a : Nat) : Int)) ∧ w = w' := by
  have ht := and_top_u8 a ha
  by_cases h : a < 128
  · have ht' : (bits BinOp.and IntKind.u8 (a : Int) 128 == 0) = true := by rw [ht]; simpa using h
    clear ht
    go_enter Try.func85, Try.ntmps85
    go_wp2
    go_ret
    refine ⟨ret_u8 ?_, rfl⟩
    unfold Gf.tx; rw [if_pos h]; omega
  · have ht' : (bits BinOp.and IntKind.u8 (a : Int) 128 == 0) = false := by rw [ht]; simpa using h
    clear ht
    go_enter Try.func85, Try.ntmps85
    go_wp2
    go_ret
    refine ⟨ret_u8 ?_, rfl⟩
    unfold Gf.tx; rw [if_neg h]
    rw [show (a : Int) * 2 % 256 = ((2 * a - 256 : Nat) : Int) by omega]
    exact bits_xor_u8 _ 29 (by omega) (by decide)
set_option maxHeartbeats 400000 in
theorem mul_nat (a b : Nat) (w : World) (ha : a < 256) (hb : b < 256) :
    Calls Try.prog 80 #[.int .u8 (a : Int), .int .u8 (b : Int)] w fun e w' => e = .returned (.int .u8 ((Gf.mul a b : Nat) : Int)) ∧ w = w' := by
  have HR := Lib.hid (show Gf.mulr 8 a b 0 = Gf.mul a b from rfl)
  go_enter Try.func80, Try.ntmps80
  go_wp2
  go_loop [0, 1, 5, 6] (fun va vb vp vi => ∃ k a' b' p : Nat, k ≤ 8 ∧ a' < 256 ∧ b' < 256 ∧ p < 256 ∧ vi = .int .i64 (k : Int) ∧ va = .int .u8 (a' : Int) ∧ vb = .int .u8 (b' : Int) ∧ vp = .int .u8 (p : Int) ∧ Hid (Gf.mulr (8 - k) a' b' p = Gf.mul a b)) (fun _ _ _ vi => 8 - (intOf vi).toNat)
  case atStart => exact ⟨0, a, b, 0, by omega, ha, hb, by omega, rfl, rfl, rfl, rfl, HR⟩
  case round =>
    obtain ⟨k, a', b', p, hk, ha', hb', hp, rfl, rfl, rfl, rfl, HR'⟩ := hrel
    have hand := and_one_u8 b' hb'
    by_cases hlt : k < 8
    · have hstep : Gf.mulr (8 - k) a' b' p = Gf.mulr (8 - (k + 1)) (Gf.tx a') (b' / 2) (if b' % 2 = 1 then p ^^^ a' else p) := by
        rw [show 8 - k = (8 - (k + 1)) + 1 by omega]; rfl
      by_cases hbit : b' % 2 = 1
      · have hb1 : (bits BinOp.and IntKind.u8 (b' : Int) 1 == 1) = true := by rw [hand, hbit]; rfl
        rw [if_pos hbit] at hstep
        have HR2 := Lib.hid (hstep.symm.trans HR'.out)
        clear hstep hand hbit HR' HR
        go_wp2_with (first | (go_at_call 67; refine (add_nat _ _ _ (by omega) (by omega)).mono ?_; rintro e w' ⟨rfl, rfl⟩) | (go_at_call 85; refine (timesX_nat _ _ (by omega)).mono ?_; rintro e w' ⟨rfl, rfl⟩))
        go_round
        case rel => exact ⟨k + 1, Gf.tx a', b' / 2, p ^^^ a', by omega, Gf.tx_lt ha', by omega, Gf.xor_lt hp ha', by go_num, rfl, by go_num, rfl, HR2⟩
        case measure => simp [intOf]; omega
      · have hb1 : (bits BinOp.and IntKind.u8 (b' : Int) 1 == 1) = false := by rw [hand]; simp; omega
        rw [if_neg hbit] at hstep
        have HR2 := Lib.hid (hstep.symm.trans HR'.out)
        clear hstep hand hbit HR' HR
        go_wp2_with (first | (go_at_call 85; refine (timesX_nat _ _ (by omega)).mono ?_; rintro e w' ⟨rfl, rfl⟩))
        go_round
        case rel => exact ⟨k + 1, Gf.tx a', b' / 2, p, by omega, Gf.tx_lt ha', by omega, hp, by go_num, rfl, by go_num, rfl, HR2⟩
        case measure => simp [intOf]; omega
    · clear hand
      have HR2 : Hid (p = Gf.mul a b) := by
        have h := HR'.out
        rw [show 8 - k = 0 by omega] at h
        exact Lib.hid h
      clear HR' HR
      go_wp2
      go_ret
      exact ⟨ret_u8 (congrArg (fun n : Nat => (n : Int)) HR2.out), rfl⟩
theorem mul_any (a b : Int) (w : World) (ha : 0 ≤ a) (ha' : a < 256) (hb : 0 ≤ b) (hb' : b < 256) :
    Calls Try.prog 80 #[.int .u8 a, .int .u8 b] w fun e w' => e = .returned (.int .u8 (gmul a b)) ∧ w = w' := by
  obtain ⟨a, rfl⟩ := Int.eq_ofNat_of_zero_le ha
  obtain ⟨b, rfl⟩ := Int.eq_ofNat_of_zero_le hb
  exact mul_nat a b w (by omega) (by omega)
theorem add_any (a b : Int) (w : World) (ha : 0 ≤ a) (ha' : a < 256) (hb : 0 ≤ b) (hb' : b < 256) :
    Calls Try.prog 67 #[.int .u8 a, .int .u8 b] w fun e w' => e = .returned (.int .u8 (gadd a b)) ∧ w = w' := by
  obtain ⟨a, rfl⟩ := Int.eq_ofNat_of_zero_le ha
  obtain ⟨b, rfl⟩ := Int.eq_ofNat_of_zero_le hb
  exact add_nat a b w (by omega) (by omega)
end Go.Proofs.Ytmfikihcoafekaa
namespace Go.Proofs.Ytmfikihcoafekaa
open Go.RowKit

set_option maxHeartbeats 400000 in
theorem raise_nat (a n : Nat) (w : World) (ha : a < 256) (hn : n < 256) :
    Calls Try.prog 83 #[.int .u8 (a : Int), .int .i64 (n : Int)] w fun e w' => e = .returned (.int .u8 ((Gf.pw a n : Nat) : Int)) ∧ w = w' := by
  have HR := Lib.hid (Gf.one_mul (Gf.pw_lt ha n))
  go_enter Try.func83, Try.ntmps83
  go_wp2
  go_loop [0, 1, 5] (fun va vn vp => ∃ a' n' p : Nat, n' < 256 ∧ a' < 256 ∧ p < 256 ∧ vn = .int .i64 (n' : Int) ∧ va = .int .u8 (a' : Int) ∧ vp = .int .u8 (p : Int) ∧ Hid (Gf.mul p (Gf.pw a' n') = Gf.pw a n)) (fun _ vn _ => (intOf vn).toNat)
  case atStart => exact ⟨a, n, 1, hn, ha, by omega, rfl, rfl, rfl, HR⟩
  case round =>
    obtain ⟨a', n', p, hn', ha', hp, rfl, rfl, rfl, HR'⟩ := hrel
    have hand := and_one_i64 n' hn'
    by_cases hlt : 0 < n'
    · have hstep := Gf.raise_pw ha' hp n'
      by_cases hbit : n' % 2 = 1
      · have hb1 : (bits BinOp.and IntKind.i64 (n' : Int) 1 == 1) = true := by rw [hand, hbit]; rfl
        rw [if_pos hbit] at hstep
        have HR2 := Lib.hid (hstep.trans HR'.out)
        clear hstep hand hbit HR' HR
        go_wp2_with (first | (go_at_call 80; refine (mul_nat _ _ _ (by omega) (by omega)).mono ?_; rintro e w' ⟨rfl, rfl⟩))
        go_round
        case rel => exact ⟨Gf.mul a' a', n' / 2, Gf.mul p a', by omega, Gf.mul_lt ha', Gf.mul_lt hp, by go_num, rfl, rfl, HR2⟩
        case measure => simp [intOf]; omega
      · have hb1 : (bits BinOp.and IntKind.i64 (n' : Int) 1 == 1) = false := by rw [hand]; simp; omega
        rw [if_neg hbit] at hstep
        have HR2 := Lib.hid (hstep.trans HR'.out)
        clear hstep hand hbit HR' HR
        go_wp2_with (first | (go_at_call 80; refine (mul_nat _ _ _ (by omega) (by omega)).mono ?_; rintro e w' ⟨rfl, rfl⟩))
        go_round
        case rel => exact ⟨Gf.mul a' a', n' / 2, p, by omega, Gf.mul_lt ha', hp, by go_num, rfl, rfl, HR2⟩
        case measure => simp [intOf]; omega
    · clear hand
      have HR2 : Hid (p = Gf.pw a n) := by
        have h := HR'.out
        rw [show n' = 0 by omega] at h
        have h1 : Gf.mul p 1 = Gf.pw a n := h
        rw [Gf.mul_one hp] at h1
        exact Lib.hid h1
      clear HR' HR
      go_wp2
      go_ret
      exact ⟨ret_u8 (congrArg (fun n : Nat => (n : Int)) HR2.out), rfl⟩
set_option maxHeartbeats 400000 in
theorem exponent_any (n : Int) (w : World) (_h0 : -9223372036854775808 ≤ n) (_h1 : n ≤ 9223372036854775807) :
    Calls Try.prog 84 #[.int .i64 n] w fun e w' => e = .returned (.int .i64 (n % 255)) ∧ w = w' := by
  obtain ⟨hp, hm, hlo, hhi⟩ := tmod255 n
  have HP := Lib.hid hp
  have HM := Lib.hid hm
  clear hp hm
  by_cases hneg : n.tmod 255 < 0
  · go_enter Try.func84, Try.ntmps84
    go_wp2
    go_ret
    exact ⟨ret_i64 (HM.out hneg).symm, rfl⟩
  · go_enter Try.func84, Try.ntmps84
    go_wp2
    go_ret
    exact ⟨ret_i64 (HP.out (by omega)).symm, rfl⟩
set_option maxHeartbeats 400000 in
theorem pow_any (a n : Int) (w : World) (ha : 0 ≤ a) (ha' : a < 256) (h0 : -9223372036854775808 ≤ n) (h1 : n ≤ 9223372036854775807) :
    Calls Try.prog 78 #[.int .u8 a, .int .i64 n] w fun e w' => e = .returned (.int .u8 (gpow a n)) ∧ w = w' := by
  by_cases hn : n = 0
  · subst hn
    go_enter Try.func78, Try.ntmps78
    go_wp2
    go_ret
    exact ⟨rfl, rfl⟩
  · have hb : (n == 0) = false := by simpa using hn
    by_cases hz : a = 0
    · subst hz
      have HG := Lib.hid (show gpow 0 n = 0 by unfold gpow; rw [if_neg hn, if_pos rfl])
      clear hn
      go_enter Try.func78, Try.ntmps78
      go_wp2
      go_ret
      exact ⟨ret_u8 HG.out.symm, rfl⟩
    · have hc : (a == 0) = false := by simpa using hz
      have HG := Lib.hid (show gpow a n = _ by unfold gpow; rw [if_neg hn, if_neg hz])
      clear hn hz
      have hr0 : 0 ≤ n % 255 := by omega
      have hr1 : n % 255 < 255 := by omega
      obtain ⟨a, rfl⟩ := Int.eq_ofNat_of_zero_le ha
      have hraise := raise_nat a (n % 255).toNat w (by omega) (by omega)
      rw [Int.toNat_of_nonneg hr0] at hraise
      have HR := Lib.hid hraise
      clear hraise
      go_enter Try.func78, Try.ntmps78
      go_wp2_with fail
      refine (exponent_any n _ h0 h1).mono ?_
      rintro e w' ⟨rfl, rfl⟩
      go_wp2_with fail
      refine HR.out.mono ?_
      rintro e w' ⟨rfl, rfl⟩
      go_wp2
      go_ret
      exact ⟨ret_u8 HG.out.symm, rfl⟩
set_option maxHeartbeats 400000 in
theorem inv_any (a : Int) (w : World) (ha : 0 ≤ a) (ha' : a < 256) :
    Calls Try.prog 66 #[.int .u8 a] w fun e w' => e = .returned (.int .u8 (ginv a)) ∧ w = w' := by
  have HG := Lib.hid (gpow_inv a ha)
  go_enter Try.func66, Try.ntmps66
  go_wp2_with fail
  refine (pow_any a 254 _ ha ha' (by decide) (by decide)).mono ?_
  rintro e w' ⟨rfl, rfl⟩
  go_wp2
  go_ret
  exact ⟨ret_u8 HG.out, rfl⟩
end Go.Proofs.Ytmfikihcoafekaa
namespace Go.Proofs.Ytmfikihcoafekaa
open Go.RowKit Mx

theorem mul_fe (a b : Fe) (w : World) : Calls Try.prog 80 #[.int .u8 (fi a), .int .u8 (fi b)] w fun e w' => e = .returned (.int .u8 (fi (a * b))) ∧ w = w' := by
  rw [← gmul_fi]; exact mul_any _ _ w (fi_lo a) (fi_hi a) (fi_lo b) (fi_hi b)
theorem add_fe (a b : Fe) (w : World) : Calls Try.prog 67 #[.int .u8 (fi a), .int .u8 (fi b)] w fun e w' => e = .returned (.int .u8 (fi (a + b))) ∧ w = w' := by
  rw [← gadd_fi]; exact add_any _ _ w (fi_lo a) (fi_hi a) (fi_lo b) (fi_hi b)
theorem inv_fe (a : Fe) (w : World) : Calls Try.prog 66 #[.int .u8 (fi a)] w fun e w' => e = .returned (.int .u8 (fi (inv a))) ∧ w = w' := by
  rw [← ginv_fi]; exact inv_any _ w (fi_lo a) (fi_hi a)

theorem mul_st (a b : Fe) (w : World) : Calls Try.prog 80 #[.int .u8 (fi a), .int .u8 (fi b)] w fun e w' => e = .returned (.int .u8 (fi (a * b))) ∧ w' = w := (mul_fe a b w).mono fun _ _ h => ⟨h.1, h.2.symm⟩
theorem add_st (a b : Fe) (w : World) : Calls Try.prog 67 #[.int .u8 (fi a), .int .u8 (fi b)] w fun e w' => e = .returned (.int .u8 (fi (a + b))) ∧ w' = w := (add_fe a b w).mono fun _ _ h => ⟨h.1, h.2.symm⟩
theorem add_ist (a b : Int) (w : World) (ha : 0 ≤ a) (ha' : a < 256) (hb : 0 ≤ b) (hb' : b < 256) : Calls Try.prog 67 #[.int .u8 a, .int .u8 b] w fun e w' => e = .returned (.int .u8 (gadd a b)) ∧ w' = w := (add_any a b w ha ha' hb hb').mono fun _ _ h => ⟨h.1, h.2.symm⟩
theorem inv_ist (a : Int) (w : World) (ha : 0 ≤ a) (ha' : a < 256) : Calls Try.prog 66 #[.int .u8 a] w fun e w' => e = .returned (.int .u8 (ginv a)) ∧ w' = w := (inv_any a w ha ha').mono fun _ _ h => ⟨h.1, h.2.symm⟩
end Go.Proofs.Ytmfikihcoafekaa
namespace Go.Proofs.Ytmfikihcoafekaa
open Go.RowKit Mx

set_option maxHeartbeats 1000000 in
theorem right_any (A : Option Addr) (n C : Nat) (L : Nat → Nat) (M : Mat) (G : Nat → Prop) (w : World) (hm : n ≤ maxLen) (h : RdM w A n L M G) :
    Calls Try.prog 79 #[.slice A n C] w fun e w' => e = .returned (.bool (rightB n L)) ∧ w = w' := by
  unfold maxLen at hm
  by_cases h1 : 1 ≤ n ∧ n ≤ 255
  · obtain ⟨h1, h2⟩ := h1
    obtain ⟨b, off, A0, C0, rfl, _, hc0, _⟩ := h.row (i := 0) (by omega)
    rw [Nat.add_zero] at hc0
    have H := Lib.hid h
    clear h
    by_cases h3 : 1 ≤ L 0 ∧ L 0 ≤ 255
    · obtain ⟨h3, h4⟩ := h3
      go_enter Try.func79, Try.ntmps79
      go_wp2
      go_loop [26, 5] (fun vi _ => ∃ k : Nat, k ≤ n ∧ vi = .int .i64 (k : Int) ∧ Hid (∀ i, i < k → L i = L 0)) (fun vi _ => n - (intOf vi).toNat)
      case atStart => exact ⟨0, by omega, rfl, Lib.hid (fun i hi => absurd hi (by omega))⟩
      case round =>
        obtain ⟨k, hk, rfl, HL⟩ := hrel
        by_cases hlt : k < n
        · obtain ⟨b', off', Ak, Ck, e, _, hck, _⟩ := H.out.row hlt
          obtain ⟨rfl, rfl⟩ : b = b' ∧ off = off' := by simpa using e
          clear e
          by_cases he : L k = L 0
          · have hb : ((L k : Int) != (L 0 : Int)) = false := by rw [he]; simp
            have HE := Lib.hid he
            clear he
            go_wp2
            go_round
            case rel => exact ⟨k + 1, by omega, by go_num, Lib.hid (fun i hi => by
              by_cases e : i = k
              · rw [e]; exact HE.out
              · exact HL.out i (by omega))⟩
            case measure => simp [intOf]; omega
          · have hb : ((L k : Int) != (L 0 : Int)) = true := by rw [bne_iff_ne]; omega
            have HF := Lib.hid (rightB_false (n := n) (L := L) (fun h => he (h.2.2.2.2 k hlt)))
            clear he
            go_wp2
            go_ret
            exact ⟨ret_bool HF.out.symm, rfl⟩
        · have HF := Lib.hid (rightB_true (n := n) (L := L) |>.2 ⟨h1, h2, h3, h4, fun i hi => HL.out i (by omega)⟩)
          go_wp2
          go_ret
          exact ⟨ret_bool HF.out.symm, rfl⟩
    · have HF := Lib.hid (rightB_false (n := n) (L := L) (fun h => h3 ⟨h.2.2.1, h.2.2.2.1⟩))
      rcases (show L 0 < 1 ∨ 255 < L 0 by omega) with h5 | h5
      all_goals
        clear h3
        go_enter Try.func79, Try.ntmps79
        go_wp2
        go_ret
        exact ⟨ret_bool HF.out.symm, rfl⟩
  · have HF := Lib.hid (rightB_false (n := n) (L := L) (fun h => h1 ⟨h.1, h.2.1⟩))
    clear h
    rcases (show n < 1 ∨ 255 < n by omega) with h5 | h5
    all_goals
      clear h1
      go_enter Try.func79, Try.ntmps79
      go_wp2
      go_ret
      exact ⟨ret_bool HF.out.symm, rfl⟩
theorem right_is (A : Option Addr) (n C : Nat) (L : Nat → Nat) (M : Mat) (G : Nat → Prop) (w : World) (r : Bool) (hm : n ≤ maxLen) (h : RdM w A n L M G) (hr : rightB n L = r) :
    Calls Try.prog 79 #[.slice A n C] w fun e w' => e = .returned (.bool r) ∧ w = w' := hr ▸ right_any A n C L M G w hm h
end Go.Proofs.Ytmfikihcoafekaa
namespace Go.Proofs.Ytmfikihcoafekaa
open Go.RowKit Mx

set_option maxRecDepth 100000 in
set_option maxHeartbeats 2000000 in
theorem apply_own (A : Option Addr) (n C m : Nat) (M : Mat) (G : Nat → Prop) (A' : Option Addr) (C' : Nat) (v : Nat → Fe) (G' : Nat → Prop) (w : World) (hn0 : 0 < n) (hn : n ≤ 255) (hm0 : 0 < m) (hm : m ≤ 255)
    (h : RdM w A n (fun _ => m) M G) (h' : Rd w A' m v G') :
    Calls Try.prog 68 #[.slice A n C, .slice A' m C'] w (OwnV 0 n (mv m M v) w) := by
  have hR : rightB n (fun _ => m) = true := rightB_true.2 ⟨hn0, hn, hm0, hm, fun _ _ => rfl⟩
  obtain ⟨b0, off0, A0, C0, rfl, _, hc0, _⟩ := h.row hn0
  rw [Nat.add_zero] at hc0
  have H := Lib.hid h
  have H' := Lib.hid h'
  have HR := Lib.hid hR
  clear h h' hR
  have hmk := run_make_row' (P := Try.prog) 24 5 (.int .u8 0) 1 Try.underlying24 infoByte rfl .i64 .i64 n (by omega) (by omega)
  go_enter Try.func68, Try.ntmps68
  go_wp2_with fail
  refine (right_is _ n C _ M _ _ true (by unfold maxLen; omega) H.out HR.out).mono ?_
  rintro e w' ⟨rfl, rfl⟩
  go_wp2
  clear hmk HR
  go_loopw [28] (fun vi wr => ∃ i : Nat, i ≤ n ∧ vi = .int .i64 (i : Int) ∧ Hid (RowAt wr w.heap.size n (part (mv m M v) i 0)) ∧ Hid (Below w.heap.size w wr)) (fun vi _ => n - (intOf vi).toNat)
  case atStart => exact ⟨0, by omega, rfl, Lib.hid ((RowAt.made w n).congr fun j _ => by unfold part; rw [if_neg (by omega)]; split <;> rfl), Lib.hid ((Below.refl _ _).alloc (Nat.le_refl _) _)⟩
  case round =>
    obtain ⟨i, hi, rfl, HO, HB⟩ := hrel
    by_cases hlt : i < n
    · obtain ⟨b1, off1, Ai, Ci, e, _, hci, hri⟩ := (H.out.old HB.out).row hlt
      obtain ⟨rfl, rfl⟩ : b0 = b1 ∧ off0 = off1 := by simpa using e
      have HRI : Hid (Rd w Ai m (M i) (fun x => x < w.heap.size)) := by
        obtain ⟨b2, off2, Aj, Cj, e2, _, hcj, hrj⟩ := H.out.row hlt
        obtain ⟨rfl, rfl⟩ : b0 = b2 ∧ off0 = off2 := by simpa using e2
        have := (HB.out.cell (World.block_lt_of_cell? _ _ hcj)).trans hcj
        rw [hci] at this
        simp only [Option.some.injEq, Value.slice.injEq] at this
        obtain ⟨rfl, _, _⟩ := this
        intro hm'
        obtain ⟨b3, off3, e3, _, hc3⟩ := hrj hm'
        exact ⟨b3, off3, e3, World.block_lt_of_cell? _ _ (hc3 0 hm'), hc3⟩
      clear e hri
      go_wp2
      go_loopw [35] (fun vj wq => ∃ j : Nat, j ≤ m ∧ vj = .int .i64 (j : Int) ∧ Hid (RowAt wq w.heap.size n (part (mv m M v) i (sm j fun t => M i t * v t))) ∧ Hid (Below w.heap.size w wq)) (fun vj _ => m - (intOf vj).toNat)
      case atStart => exact ⟨0, by omega, rfl, HO, HB⟩
      case round =>
        obtain ⟨j, hj, rfl, HO2, HB2⟩ := hrel
        clear HO HB hci hc0
        by_cases hlt2 : j < m
        · obtain ⟨b2, off2, rfl, _, d1⟩ := (HRI.out.old HB2.out).at hlt2
          obtain ⟨b3, off3, rfl, _, d2⟩ := (H'.out.old HB2.out).at hlt2
          have d3 := HO2.out.cell hlt
          rw [part_at] at d3
          have f3 := HO2.out.frozen i
          go_wp2
          refine wp_region_still_tail 14 (by kernel_rfl) (by kernel_rfl) ?_
          simp only [List.take_succ_cons, List.take_zero, List.drop_succ_cons, List.drop_zero]
          repeat (first | still_step | still_call (mul_st _ _ _) | still_call (add_st _ _ _))
          refine wpStill_nil ?_
          change wpList _ _ _ _ _ wr.drew
          go_wp2
          go_roundw
          case rel => exact ⟨j + 1, by omega, by go_num, Lib.hid ((HO2.out.set i ((sm j fun t => M i t * v t) + M i j * v j)).congr fun x _ => part_set _ _ _ _ _), Lib.hid ((HB2.out.drew).setCell (p := ⟨w.heap.size, i, none⟩) (Nat.le_refl _) _)⟩
          case measure => simp [intOf]; omega
        · have HO3 : Hid (RowAt wr w.heap.size n (part (mv m M v) (i + 1) 0)) := by
            have hjm : j = m := by omega
            have hh := HO2.out
            rw [hjm] at hh
            exact Lib.hid (hh.congr fun x _ => part_next (mv m M v) i x)
          clear HO2
          go_wp2
          go_roundw
          case rel => exact ⟨i + 1, by omega, by go_num, HO3, HB2⟩
          case measure => simp [intOf]; omega
    · go_wp2
      go_ret2
      refine ⟨_, _, rfl, Nat.le_refl _, HO.out.congr fun x hx => ?_, HB.out⟩
      unfold part; rw [if_pos (by omega)]
theorem apply_main (A : Option Addr) (n C m : Nat) (M : Mat) (G : Nat → Prop) (A' : Option Addr) (C' : Nat) (v : Nat → Fe) (G' : Nat → Prop) (w : World) (hn0 : 0 < n) (hn : n ≤ 255) (hm0 : 0 < m) (hm : m ≤ 255)
    (h : RdM w A n (fun _ => m) M G) (h' : Rd w A' m v G') :
    Calls Try.prog 68 #[.slice A n C, .slice A' m C'] w (ResV 0 n (mv m M v) w) :=
  (apply_own A n C m M G A' C' v G' w hn0 hn hm0 hm h h').mono fun _ _ hh => hh.res
set_option maxHeartbeats 1000000 in
theorem apply_any (A : Option Addr) (n C : Nat) (L : Nat → Nat) (M : Mat) (G : Nat → Prop) (A' : Option Addr) (m C' : Nat) (v : Nat → Fe) (G' : Nat → Prop) (w : World) (hm : n ≤ maxLen) (h : RdM w A n L M G) (h' : Rd w A' m v G') :
    Calls Try.prog 68 #[.slice A n C, .slice A' m C'] w (ApplyAny n L M m v w) := by
  by_cases hr : rightB n L = true
  · obtain ⟨h1, h2, h3, h4, h5⟩ := rightB_true.1 hr
    by_cases he : L 0 = m
    · refine (apply_main A n C m M G A' C' v G' w (by omega) h2 (by omega) (by omega) (h.congr (fun i hi => by rw [h5 i hi, he]) (fun _ _ _ _ => rfl)) h').mono fun e w' hh => ?_
      unfold ApplyAny
      rw [if_pos ⟨hr, he⟩]; exact hh
    · obtain ⟨b0, off0, A0, C0, rfl, _, hc0, _⟩ := h.row (i := 0) (by omega)
      rw [Nat.add_zero] at hc0
      have hb : ((L 0 : Int) != (m : Int)) = true := by rw [bne_iff_ne]; omega
      have HN : Hid (¬ (rightB n L = true ∧ L 0 = m)) := Lib.hid (fun hh => he hh.2)
      have H := Lib.hid h
      have HR := Lib.hid hr
      clear h hr he h5 h'
      go_enter Try.func68, Try.ntmps68
      go_wp2_with fail
      refine (right_is _ n C L M _ _ true hm H.out HR.out).mono ?_
      rintro e w' ⟨rfl, rfl⟩
      go_wp2
      go_ret2
      unfold ApplyAny; rw [if_neg HN.out]; exact ResV.bad w (Below.refl _ _)
  · have hr' : rightB n L = false := by simpa using hr
    have HN : Hid (¬ (rightB n L = true ∧ L 0 = m)) := Lib.hid (fun hh => hr hh.1)
    have H := Lib.hid h
    have HR := Lib.hid hr'
    clear h hr hr' h'
    go_enter Try.func68, Try.ntmps68
    go_wp2_with fail
    refine (right_is _ n C L M _ _ false hm H.out HR.out).mono ?_
    rintro e w' ⟨rfl, rfl⟩
    go_wp2
    go_ret2
    unfold ApplyAny; rw [if_neg HN.out]; exact ResV.bad w (Below.refl _ _)
end Go.Proofs.Ytmfikihcoafekaa
