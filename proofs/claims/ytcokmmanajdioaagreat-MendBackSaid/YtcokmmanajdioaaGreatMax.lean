/- What Add and Mul of package gf answer, for every two elements; nothing is written. What Pow and Inv of package gf answer, for every element and every power; nothing is written. The calls of package gf, on elements. What Cauchy of package matrix answers, whatever it is given. What the inner functions of package matrix do to rows that a call owns. -/
import Derived.Test.YtcokmmanajdioaaGreatMah
import Derived.Test.YtcokmmanajdioaaGreatMai
namespace Go.Proofs.YtcokmmanajdioaaGreat
open Go.RowKit

set_option maxHeartbeats 400000 in
theorem add_nat (a b : Nat) (w : World) (ha : a < 256) (hb : b < 256) :
    Calls Tryz.prog 84 #[.int .u8 (a : Int), .int .u8 (b : Int)] w fun e w' => e = .returned (.int .u8 ((a ^^^ b : Nat) : Int)) ∧ w = w' := by
  go_enter Tryz.func84, Tryz.ntmps84
  go_wp2
  go_ret
  exact ⟨ret_u8 (bits_xor_u8 a b ha hb), rfl⟩
set_option maxHeartbeats 400000 in
theorem timesX_nat (a : Nat) (w : World) (ha : a < 256) :
    Calls Tryz.prog 99 #[.int .u8 (a : Int)] w fun e w' => e = .returned (.int .u8 ((Gf.tx a : Nat) : Int)) ∧ w = w' := by
  have ht := and_top_u8 a ha
  by_cases h : a < 128
  · have ht' : (bits BinOp.and IntKind.u8 (a : Int) 128 == 0) = true := by rw [ht]; simpa using h
    clear ht
    go_enter Tryz.func99, Tryz.ntmps99
    go_wp2
    go_ret
    refine ⟨ret_u8 ?_, rfl⟩
    unfold Gf.tx; rw [if_pos h]; omega
  · have ht' : (bits BinOp.and IntKind.u8 (a : Int) 128 == 0) = false := by rw [ht]; simpa using h
    clear ht
    go_enter Tryz.func99, Tryz.ntmps99
    go_wp2
    go_ret
    refine ⟨ret_u8 ?_, rfl⟩
    unfold Gf.tx; rw [if_neg h]
    rw [show (a : Int) * 2 % 256 = ((2 * a - 256 : Nat) : Int) by omega]
    exact bits_xor_u8 _ 29 (by omega) (by decide)
set_option maxHeartbeats 400000 in
theorem mul_nat (a b : Nat) (w : World) (ha : a < 256) (hb : b < 256) :
    Calls Tryz.prog 90 #[.int .u8 (a : Int), .int .u8 (b : Int)] w fun e w' => e = .returned (.int .u8 ((Gf.mul a b : Nat) : Int)) ∧ w = w' := by
  have HR := Lib.hid (show Gf.mulr 8 a b 0 = Gf.mul a b from rfl)
  go_enter Tryz.func90, Tryz.ntmps90
  go_wp2
  go_loop [0, 1, 5, 6] (fun va vb vp vi => ∃ k a' b' p : Nat, k ≤ 8 ∧ a' < 256 ∧ b' < 256 ∧ p < 256 ∧ vi = .int .i64 (k : Int) ∧ va = .int .u8 (a' : Int) ∧ vb = .int .u8 (b' : Int) ∧ vp = .int .u8 (p : Int) ∧ Hid (Gf.mulr (8 - k) a' b' p = Gf.mul a b)) (fun _ _ _ vi => 8 - (intOf vi).toNat)
  case atStart => exact ⟨0, a, b, 0, by omega, ha, hb, by omega, rfl, rfl, rfl, rfl, HR⟩
  case round =>
    obtain ⟨k, a', b', p, hk, ha', hb', hp, rfl, rfl, rfl, rfl, HR'⟩ := hrel
    have hand := and_one_u8 b' hb'
    by_cases hlt : k < 8
    · have hstep : Gf.mulr (8 - k) a' b' p = Gf.mulr (8 - (k + 1)) (Gf.tx a') (b' / 2) (if b' % 2 = 1 then p ^^^ a' else p) := by
        rw [show 8 - k = (8 - (k + 1)) + 1 by omega]; rfl
      by_cases hbit : b' % 2 = 1
      · have hb1 : (bits BinOp.and IntKind.u8 (b' : Int) 1 == 1) = true := by rw [hand, hbit]; rfl
        rw [if_pos hbit] at hstep
        have HR2 := Lib.hid (hstep.symm.trans HR'.out)
        clear hstep hand hbit HR' HR
        go_wp2_with (first | (go_at_call 84; refine (add_nat _ _ _ (by omega) (by omega)).mono ?_; rintro e w' ⟨rfl, rfl⟩) | (go_at_call 99; refine (timesX_nat _ _ (by omega)).mono ?_; rintro e w' ⟨rfl, rfl⟩))
        go_round
        case rel => exact ⟨k + 1, Gf.tx a', b' / 2, p ^^^ a', by omega, Gf.tx_lt ha', by omega, Gf.xor_lt hp ha', by go_num, rfl, by go_num, rfl, HR2⟩
        case measure => simp [intOf]; omega
      · have hb1 : (bits BinOp.and IntKind.u8 (b' : Int) 1 == 1) = false := by rw [hand]; simp; omega
        rw [if_neg hbit] at hstep
        have HR2 := Lib.hid (hstep.symm.trans HR'.out)
        clear hstep hand hbit HR' HR
        go_wp2_with (first | (go_at_call 99; refine (timesX_nat _ _ (by omega)).mono ?_; rintro e w' ⟨rfl, rfl⟩))
        go_round
        case rel => exact ⟨k + 1, Gf.tx a', b' / 2, p, by omega, Gf.tx_lt ha', by omega, hp, by go_num, rfl, by go_num, rfl, HR2⟩
        case measure => simp [intOf]; omega
    · clear hand
      have HR2 : Hid (p = Gf.mul a b) := by
        have h := HR'.out
        rw [show 8 - k = 0 by omega] at h
        exact Lib.hid h
      clear HR' HR
      go_wp2
      go_ret
      exact ⟨ret_u8 (congrArg (fun n : Nat => (n : Int)) HR2.out), rfl⟩
theorem mul_any (a b : Int) (w : World) (ha : 0 ≤ a) (ha' : a < 256) (hb : 0 ≤ b) (hb' : b < 256) :
    Calls Tryz.prog 90 #[.int .u8 a, .int .u8 b] w fun e w' => e = .returned (.int .u8 (gmul a b)) ∧ w = w' := by
  obtain ⟨a, rfl⟩ := Int.eq_ofNat_of_zero_le ha
  obtain ⟨b, rfl⟩ := Int.eq_ofNat_of_zero_le hb
  exact mul_nat a b w (by omega) (by omega)
theorem add_any (a b : Int) (w : World) (ha : 0 ≤ a) (ha' : a < 256) (hb : 0 ≤ b) (hb' : b < 256) :
    Calls Tryz.prog 84 #[.int .u8 a, .int .u8 b] w fun e w' => e = .returned (.int .u8 (gadd a b)) ∧ w = w' := by
  obtain ⟨a, rfl⟩ := Int.eq_ofNat_of_zero_le ha
  obtain ⟨b, rfl⟩ := Int.eq_ofNat_of_zero_le hb
  exact add_nat a b w (by omega) (by omega)
end Go.Proofs.YtcokmmanajdioaaGreat
namespace Go.Proofs.YtcokmmanajdioaaGreat
open Go.RowKit

set_option maxHeartbeats 400000 in
theorem raise_nat (a n : Nat) (w : World) (ha : a < 256) (hn : n < 256) :
    Calls Tryz.prog 102 #[.int .u8 (a : Int), .int .i64 (n : Int)] w fun e w' => e = .returned (.int .u8 ((Gf.pw a n : Nat) : Int)) ∧ w = w' := by
  have HR := Lib.hid (Gf.one_mul (Gf.pw_lt ha n))
  go_enter Tryz.func102, Tryz.ntmps102
  go_wp2
  go_loop [0, 1, 5] (fun va vn vp => ∃ a' n' p : Nat, n' < 256 ∧ a' < 256 ∧ p < 256 ∧ vn = .int .i64 (n' : Int) ∧ va = .int .u8 (a' : Int) ∧ vp = .int .u8 (p : Int) ∧ Hid (Gf.mul p (Gf.pw a' n') = Gf.pw a n)) (fun _ vn _ => (intOf vn).toNat)
  case atStart => exact ⟨a, n, 1, hn, ha, by omega, rfl, rfl, rfl, HR⟩
  case round =>
    obtain ⟨a', n', p, hn', ha', hp, rfl, rfl, rfl, HR'⟩ := hrel
    have hand := and_one_i64 n' hn'
    by_cases hlt : 0 < n'
    · have hstep := Gf.raise_pw ha' hp n'
      by_cases hbit : n' % 2 = 1
      · have hb1 : (bits BinOp.and IntKind.i64 (n' : Int) 1 == 1) = true := by rw [hand, hbit]; rfl
        rw [if_pos hbit] at hstep
        have HR2 := Lib.hid (hstep.trans HR'.out)
        clear hstep hand hbit HR' HR
        go_wp2_with (first | (go_at_call 90; refine (mul_nat _ _ _ (by omega) (by omega)).mono ?_; rintro e w' ⟨rfl, rfl⟩))
        go_round
        case rel => exact ⟨Gf.mul a' a', n' / 2, Gf.mul p a', by omega, Gf.mul_lt ha', Gf.mul_lt hp, by go_num, rfl, rfl, HR2⟩
        case measure => simp [intOf]; omega
      · have hb1 : (bits BinOp.and IntKind.i64 (n' : Int) 1 == 1) = false := by rw [hand]; simp; omega
        rw [if_neg hbit] at hstep
        have HR2 := Lib.hid (hstep.trans HR'.out)
        clear hstep hand hbit HR' HR
        go_wp2_with (first | (go_at_call 90; refine (mul_nat _ _ _ (by omega) (by omega)).mono ?_; rintro e w' ⟨rfl, rfl⟩))
        go_round
        case rel => exact ⟨Gf.mul a' a', n' / 2, p, by omega, Gf.mul_lt ha', hp, by go_num, rfl, rfl, HR2⟩
        case measure => simp [intOf]; omega
    · clear hand
      have HR2 : Hid (p = Gf.pw a n) := by
        have h := HR'.out
        rw [show n' = 0 by omega] at h
        have h1 : Gf.mul p 1 = Gf.pw a n := h
        rw [Gf.mul_one hp] at h1
        exact Lib.hid h1
      clear HR' HR
      go_wp2
      go_ret
      exact ⟨ret_u8 (congrArg (fun n : Nat => (n : Int)) HR2.out), rfl⟩
set_option maxHeartbeats 400000 in
theorem exponent_any (n : Int) (w : World) (_h0 : -9223372036854775808 ≤ n) (_h1 : n ≤ 9223372036854775807) :
    Calls Tryz.prog 103 #[.int .i64 n] w fun e w' => e = .returned (.int .i64 (n % 255)) ∧ w = w' := by
  obtain ⟨hp, hm, hlo, hhi⟩ := tmod255 n
  have HP := Lib.hid hp
  have HM := Lib.hid hm
  clear hp hm
  by_cases hneg : n.tmod 255 < 0
  · go_enter Tryz.func103, Tryz.ntmps103
    go_wp2
    go_ret
    exact ⟨ret_i64 (HM.out hneg).symm, rfl⟩
  · go_enter Tryz.func103, Tryz.ntmps103
    go_wp2
    go_ret
    exact ⟨ret_i64 (HP.out (by omega)).symm, rfl⟩
set_option maxHeartbeats 400000 in
theorem pow_any (a n : Int) (w : World) (ha : 0 ≤ a) (ha' : a < 256) (h0 : -9223372036854775808 ≤ n) (h1 : n ≤ 9223372036854775807) :
    Calls Tryz.prog 96 #[.int .u8 a, .int .i64 n] w fun e w' => e = .returned (.int .u8 (gpow a n)) ∧ w = w' := by
  by_cases hn : n = 0
  · subst hn
    go_enter Tryz.func96, Tryz.ntmps96
    go_wp2
    go_ret
    exact ⟨rfl, rfl⟩
  · have hb : (n == 0) = false := by simpa using hn
    by_cases hz : a = 0
    · subst hz
      have HG := Lib.hid (show gpow 0 n = 0 by unfold gpow; rw [if_neg hn, if_pos rfl])
      clear hn
      go_enter Tryz.func96, Tryz.ntmps96
      go_wp2
      go_ret
      exact ⟨ret_u8 HG.out.symm, rfl⟩
    · have hc : (a == 0) = false := by simpa using hz
      have HG := Lib.hid (show gpow a n = _ by unfold gpow; rw [if_neg hn, if_neg hz])
      clear hn hz
      have hr0 : 0 ≤ n % 255 := by omega
      have hr1 : n % 255 < 255 := by omega
      obtain ⟨a, rfl⟩ := Int.eq_ofNat_of_zero_le ha
      have hraise := raise_nat a (n % 255).toNat w (by omega) (by omega)
      rw [Int.toNat_of_nonneg hr0] at hraise
      have HR := Lib.hid hraise
      clear hraise
      go_enter Tryz.func96, Tryz.ntmps96
      go_wp2_with fail
      refine (exponent_any n _ h0 h1).mono ?_
      rintro e w' ⟨rfl, rfl⟩
      go_wp2_with fail
      refine HR.out.mono ?_
      rintro e w' ⟨rfl, rfl⟩
      go_wp2
      go_ret
      exact ⟨ret_u8 HG.out.symm, rfl⟩
set_option maxHeartbeats 400000 in
theorem inv_any (a : Int) (w : World) (ha : 0 ≤ a) (ha' : a < 256) :
    Calls Tryz.prog 83 #[.int .u8 a] w fun e w' => e = .returned (.int .u8 (ginv a)) ∧ w = w' := by
  have HG := Lib.hid (gpow_inv a ha)
  go_enter Tryz.func83, Tryz.ntmps83
  go_wp2_with fail
  refine (pow_any a 254 _ ha ha' (by decide) (by decide)).mono ?_
  rintro e w' ⟨rfl, rfl⟩
  go_wp2
  go_ret
  exact ⟨ret_u8 HG.out, rfl⟩
end Go.Proofs.YtcokmmanajdioaaGreat
namespace Go.Proofs.YtcokmmanajdioaaGreat
open Go.RowKit Mx

theorem mul_fe (a b : Fe) (w : World) : Calls Tryz.prog 90 #[.int .u8 (fi a), .int .u8 (fi b)] w fun e w' => e = .returned (.int .u8 (fi (a * b))) ∧ w = w' := by
  rw [← gmul_fi]; exact mul_any _ _ w (fi_lo a) (fi_hi a) (fi_lo b) (fi_hi b)
theorem add_fe (a b : Fe) (w : World) : Calls Tryz.prog 84 #[.int .u8 (fi a), .int .u8 (fi b)] w fun e w' => e = .returned (.int .u8 (fi (a + b))) ∧ w = w' := by
  rw [← gadd_fi]; exact add_any _ _ w (fi_lo a) (fi_hi a) (fi_lo b) (fi_hi b)
theorem inv_fe (a : Fe) (w : World) : Calls Tryz.prog 83 #[.int .u8 (fi a)] w fun e w' => e = .returned (.int .u8 (fi (inv a))) ∧ w = w' := by
  rw [← ginv_fi]; exact inv_any _ w (fi_lo a) (fi_hi a)

theorem mul_st (a b : Fe) (w : World) : Calls Tryz.prog 90 #[.int .u8 (fi a), .int .u8 (fi b)] w fun e w' => e = .returned (.int .u8 (fi (a * b))) ∧ w' = w := (mul_fe a b w).mono fun _ _ h => ⟨h.1, h.2.symm⟩
theorem add_st (a b : Fe) (w : World) : Calls Tryz.prog 84 #[.int .u8 (fi a), .int .u8 (fi b)] w fun e w' => e = .returned (.int .u8 (fi (a + b))) ∧ w' = w := (add_fe a b w).mono fun _ _ h => ⟨h.1, h.2.symm⟩
theorem add_ist (a b : Int) (w : World) (ha : 0 ≤ a) (ha' : a < 256) (hb : 0 ≤ b) (hb' : b < 256) : Calls Tryz.prog 84 #[.int .u8 a, .int .u8 b] w fun e w' => e = .returned (.int .u8 (gadd a b)) ∧ w' = w := (add_any a b w ha ha' hb hb').mono fun _ _ h => ⟨h.1, h.2.symm⟩
theorem inv_ist (a : Int) (w : World) (ha : 0 ≤ a) (ha' : a < 256) : Calls Tryz.prog 83 #[.int .u8 a] w fun e w' => e = .returned (.int .u8 (ginv a)) ∧ w' = w := (inv_any a w ha ha').mono fun _ _ h => ⟨h.1, h.2.symm⟩
end Go.Proofs.YtcokmmanajdioaaGreat
namespace Go.Proofs.YtcokmmanajdioaaGreat
open Go.RowKit Mx

set_option maxHeartbeats 1000000 in
theorem cauchy_bad (d p : Int) (w : World) (_hd : -9223372036854775808 ≤ d) (_hd' : d ≤ 9223372036854775807) (_hp : -9223372036854775808 ≤ p) (_hp' : p ≤ 9223372036854775807) (h : d < 1 ∨ p < 1 ∨ 255 < p ∨ 255 - p < d) :
    Calls Tryz.prog 72 #[.int .i64 d, .int .i64 p] w (ResM 1 0 0 one w) := by
  by_cases h1 : d < 1
  · clear h
    go_enter Tryz.func72, Tryz.ntmps72
    go_wp2
    go_ret2
    exact ResM.bad w (Below.refl _ _)
  · by_cases h2 : p < 1
    · clear h
      go_enter Tryz.func72, Tryz.ntmps72
      go_wp2
      go_ret2
      exact ResM.bad w (Below.refl _ _)
    · by_cases h3 : 255 < p
      · clear h
        go_enter Tryz.func72, Tryz.ntmps72
        go_wp2
        go_ret2
        exact ResM.bad w (Below.refl _ _)
      · have h4 : 255 - p < d := by omega
        clear h
        go_enter Tryz.func72, Tryz.ntmps72
        go_wp2
        go_ret2
        exact ResM.bad w (Below.refl _ _)
set_option maxRecDepth 100000 in
set_option maxHeartbeats 2000000 in
theorem cauchy_main (d p : Nat) (w : World) (hd0 : 0 < d) (hp0 : 0 < p) (hdp : d + p ≤ 255) :
    Calls Tryz.prog 72 #[.int .i64 (d : Int), .int .i64 (p : Int)] w (ResM 0 p d (cau p) w) := by
  have hmk := run_make_row' (P := Tryz.prog) 29 34 (.slice none 0 0) 24 Tryz.underlying29 infoRow rfl .i64 .i64 p (by omega) (by omega)
  have HMK := Lib.hid (run_make_row' (P := Tryz.prog) 34 5 (.int .u8 0) 1 Tryz.underlying34 infoByte rfl .i64 .i64 d (by omega) (by omega))
  go_enter Tryz.func72, Tryz.ntmps72
  go_wp2
  clear hmk
  go_loopw [29] (fun vi wr => ∃ i : Nat, i ≤ p ∧ vi = .int .i64 (i : Int) ∧ Hid (∃ G C, OwnK wr w.heap.size w.heap.size p i d G C (cau p)) ∧ Hid (Below w.heap.size w wr)) (fun vi _ => p - (intOf vi).toNat)
  case atStart => exact ⟨0, by omega, rfl, Lib.hid ⟨fun _ => 0, fun _ => 0, OwnK.start w _ p d _ _ _⟩, Lib.hid ((Below.refl _ _).alloc (Nat.le_refl _) _)⟩
  case round =>
    obtain ⟨i, hi, rfl, HO, HB⟩ := hrel
    obtain ⟨G1, Cp1, hO⟩ := HO.out
    have HO' := Lib.hid hO
    clear hO HO
    by_cases hlt : i < p
    · have hb1 : Below wr.heap.size wr (wr.alloc (.cells (madeCells #[.int .u8 0] d) 5)) := (Below.refl _ _).alloc (Nat.le_refl _) _
      have hO1 := HO'.out.old hb1
      have hct := hO1.top.cell hlt
      rw [if_neg (by omega)] at hct
      have hft := hO1.top.frozen i
      have hP := HO'.out.push hb1 (Nat.le_refl _) HB.out.size (Nat.le_refl d) (RowAt.made wr d)
      have hct2 := hP.top.cell hlt
      simp only [if_true, show i < i + 1 by omega] at hct2
      have HP := Lib.hid hP
      have HB1 := Lib.hid ((HB.out.trans (hb1.mono HB.out.size)).setCell (p := ⟨w.heap.size, i, none⟩) (Nat.le_refl _) (.slice (some ⟨wr.heap.size, 0, none⟩) d d))
      have hmk := HMK.out
      clear hb1 hO1 hP
      go_wp2
      clear hmk hct hft hct2
      generalize (wr.alloc (.cells (madeCells #[.int .u8 0] d) 5)).setCell ⟨w.heap.size, i, none⟩ (.slice (some ⟨wr.heap.size, 0, none⟩) d d) = ws at HP HB1 ⊢
      obtain ⟨G2, hG2⟩ : ∃ g, g = (fun r => if r = i then wr.heap.size else G1 r) := ⟨_, rfl⟩
      obtain ⟨C2, hC2⟩ : ∃ g, g = (fun r => if r = i then d else Cp1 r) := ⟨_, rfl⟩
      rw [← hG2, ← hC2] at HP
      clear hG2 hC2 HO' HB
      go_loopw [42] (fun vj wq => ∃ j : Nat, j ≤ d ∧ vj = .int .i64 (j : Int) ∧ Hid (OwnK wq w.heap.size w.heap.size p (i + 1) d G2 C2 (fun r => if r = i then (fun c => if c < j then cau p i c else 0) else cau p r)) ∧ Hid (Below w.heap.size w wq)) (fun vj _ => d - (intOf vj).toNat)
      case atStart => exact ⟨0, by omega, rfl, HP, HB1⟩
      case round =>
        obtain ⟨j, hj, rfl, HO2, HB2⟩ := hrel
        clear HP HB1
        by_cases hlt2 : j < d
        · have d1 := HO2.out.top.cell hlt
          rw [if_pos (by omega)] at d1
          have hrow := HO2.out.rows i (by omega)
          rw [if_pos rfl] at hrow
          have d2 := hrow.cell hlt2
          have f2 := hrow.frozen j
          have HRW := Lib.hid hrow
          have HCI := Lib.hid (cau_int (p := p) (i := i) (j := j) (by omega) (by omega))
          clear hrow
          have s1 : (0 : Int) ≤ (p : Int) + (j : Int) := by omega
          have s2 : (p : Int) + (j : Int) < 256 := by omega
          have s3 : IntKind.i64.wrap ((p : Int) + (j : Int)) = (p : Int) + (j : Int) := IntWalk.i64_in _ (by omega)
          have s4 : IntKind.u8.wrap ((p : Int) + (j : Int)) = (p : Int) + (j : Int) := IntWalk.u8_in _ (by omega)
          have s5 : IntKind.u8.wrap (i : Int) = (i : Int) := IntWalk.u8_in _ (by omega)
          go_wp2
          refine wp_region_still_tail 14 (by kernel_rfl) (by kernel_rfl) ?_
          simp only [List.take_succ_cons, List.take_zero, List.drop_succ_cons, List.drop_zero]
          repeat still_step
          still_call (add_ist (i : Int) ((p : Int) + (j : Int)) _ (by omega) (by omega) (by omega) (by omega))
          still_call (inv_ist _ _ (gadd_rng _ _ (by omega) (by omega) (by omega) (by omega)).1 (gadd_rng _ _ (by omega) (by omega) (by omega) (by omega)).2)
          repeat still_step
          refine wpStill_nil ?_
          rw [HCI.out]
          change wpList _ _ _ _ _ wr.drew
          clear s3 s4 s5
          go_wp2
          go_roundw
          case rel =>
            refine ⟨j + 1, by omega, by go_num, Lib.hid ((HO2.out.drew.turn (i := i) (by omega) (Kp.store wr.drew (G2 i) j (.int .u8 (fi (cau p i j)))) (HRW.out.set j (cau p i j))).congr fun r _ c _ => ?_), Lib.hid ((HB2.out.drew).setCell (p := ⟨G2 i, j, none⟩) (HO2.out.lo i (by omega)) _)⟩
            by_cases e : r = i
            · rw [if_pos e, if_pos e]
              exact upTo_step (f := fun _ => 0) (h := fun c => cau p i c)
            · rw [if_neg e, if_neg e, if_neg e]
          case measure => simp [intOf]; omega
        · have HO3 : Hid (∃ G C, OwnK wr w.heap.size w.heap.size p (i + 1) d G C (cau p)) := Lib.hid ⟨_, _, HO2.out.congr fun r _ c hc => by
            by_cases e : r = i
            · rw [if_pos e, if_pos (by omega), e]
            · rw [if_neg e]⟩
          clear HO2
          go_wp2
          go_roundw
          case rel => exact ⟨i + 1, by omega, by go_num, HO3, HB2⟩
          case measure => simp [intOf]; omega
    · obtain rfl : i = p := by omega
      go_wp2
      go_ret2
      exact ⟨_, _, rfl, HO'.out.rdAll (Nat.le_refl _), HB.out⟩
end Go.Proofs.YtcokmmanajdioaaGreat
namespace Go.Proofs.YtcokmmanajdioaaGreat
open Go.RowKit Mx

set_option maxRecDepth 100000 in
set_option maxHeartbeats 1000000 in
theorem addTimes_any (g m cap : Nat) (f : Nat → Fe) (a : Fe) (A : Option Addr) (C : Nat) (r : Nat → Fe) (w : World) (hm : m ≤ 255) (hf : RowAt w g m f) (hr : Rd w A m r (· ≠ g)) :
    Calls Tryz.prog 98 #[.slice (some ⟨g, 0, none⟩) m cap, .int .u8 (fi a), .slice A m C] w fun e w' => e = .returned (.tuple #[]) ∧ RowAt w' g m (fun j => f j + a * r j) ∧ Kp (· = g) w w' := by
  by_cases ha : a = 0
  · have hb : (fi a == 0) = true := by rw [ha]; rfl
    have HF := Lib.hid (hf.congr (f' := fun j => f j + a * r j) (fun j _ => by rw [ha, zero_mul, add_zero]))
    clear hf hr ha
    go_enter Tryz.func98, Tryz.ntmps98
    go_wp2
    go_returns
    exact ⟨rfl, HF.out, Kp.refl _ _⟩
  · have hb : (fi a == 0) = false := beq_eq_false_iff_ne.2 fun h => ha (fi_eq_zero.1 h)
    have HF := Lib.hid hf
    have HR := Lib.hid hr
    clear hf hr ha
    go_enter Tryz.func98, Tryz.ntmps98
    go_wp2
    go_loopw [12] (fun vi wr => ∃ k : Nat, k ≤ m ∧ vi = .int .i64 (k : Int) ∧ Hid (RowAt wr g m (fun j => if j < k then f j + a * r j else f j)) ∧ Hid (Kp (· = g) w wr)) (fun vi _ => m - (intOf vi).toNat)
    case atStart => exact ⟨0, by omega, rfl, Lib.hid (HF.out.congr fun j _ => (if_neg (by omega)).symm), Lib.hid (Kp.refl _ _)⟩
    case round =>
      obtain ⟨k, hk, rfl, H1, HK⟩ := hrel
      by_cases hlt : k < m
      · obtain ⟨b, off, rfl, hbg, hcr⟩ := (HR.out.kp HK.out (fun b hb => hb)).at hlt
        have hcs := H1.out.cell hlt
        rw [if_neg (by omega)] at hcs
        have hfs := H1.out.frozen k
        go_wp2
        refine wp_region_still_tail 11 (by kernel_rfl) (by kernel_rfl) ?_
        simp only [List.take_succ_cons, List.take_zero, List.drop_succ_cons, List.drop_zero]
        repeat (first | still_step | still_call (mul_st _ _ _) | still_call (add_st _ _ _))
        refine wpStill_nil ?_
        change wpList _ _ _ _ _ wr.drew
        go_wp2
        go_roundw
        case rel => exact ⟨k + 1, by omega, by go_num, Lib.hid ((H1.out.set k (f k + a * r k)).congr fun j _ => upTo_step (h := fun j => f j + a * r j)), Lib.hid ((HK.out.drew).setCell (p := ⟨g, k, none⟩) rfl _)⟩
        case measure => simp [intOf]; omega
      · go_wp2
        go_returns
        exact ⟨rfl, H1.out.congr fun j hj => if_pos (by omega), HK.out⟩
set_option maxRecDepth 100000 in
set_option maxHeartbeats 1000000 in
theorem multiply_any (g m cap : Nat) (f : Nat → Fe) (a : Fe) (w : World) (hm : m ≤ 255) (hf : RowAt w g m f) :
    Calls Tryz.prog 97 #[.slice (some ⟨g, 0, none⟩) m cap, .int .u8 (fi a)] w fun e w' => e = .returned (.tuple #[]) ∧ RowAt w' g m (fun j => a * f j) ∧ Kp (· = g) w w' := by
  have HF := Lib.hid hf
  clear hf
  go_enter Tryz.func97, Tryz.ntmps97
  go_wp2
  go_loopw [8] (fun vi wr => ∃ k : Nat, k ≤ m ∧ vi = .int .i64 (k : Int) ∧ Hid (RowAt wr g m (fun j => if j < k then a * f j else f j)) ∧ Hid (Kp (· = g) w wr)) (fun vi _ => m - (intOf vi).toNat)
  case atStart => exact ⟨0, by omega, rfl, Lib.hid (HF.out.congr fun j _ => (if_neg (by omega)).symm), Lib.hid (Kp.refl _ _)⟩
  case round =>
    obtain ⟨k, hk, rfl, H1, HK⟩ := hrel
    by_cases hlt : k < m
    · have hcs := H1.out.cell hlt
      rw [if_neg (by omega)] at hcs
      have hfs := H1.out.frozen k
      go_wp2_with (go_at_call 90; refine (mul_fe _ _ _).mono ?_; rintro e w' ⟨rfl, rfl⟩)
      go_roundw
      case rel => exact ⟨k + 1, by omega, by go_num, Lib.hid ((H1.out.set k (a * f k)).congr fun j _ => upTo_step (h := fun j => a * f j)), Lib.hid ((HK.out).setCell (p := ⟨g, k, none⟩) rfl _)⟩
      case measure => simp [intOf]; omega
    · go_wp2
      go_returns
      exact ⟨rfl, H1.out.congr fun j hj => if_pos (by omega), HK.out⟩
set_option maxRecDepth 100000 in
set_option maxHeartbeats 1000000 in
theorem pivot_any (A : Option Addr) (n C m i : Nat) (M : Mat) (G : Nat → Prop) (w : World) (hn : n ≤ 255) (hi : i < n) (him : i < m) (h : RdM w A n (fun _ => m) M G) :
    Calls Tryz.prog 88 #[.slice A n C, .int .i64 (i : Int)] w fun e w' => e = .returned (.int .i64 (pivI n M i)) ∧ w = w' := by
  have H := Lib.hid h
  clear h
  go_enter Tryz.func88, Tryz.ntmps88
  go_wp2
  go_loop [5] (fun vk => ∃ k : Nat, i ≤ k ∧ k ≤ n ∧ vk = .int .i64 (k : Int) ∧ Hid (pvt M i (n - i) i = pvt M i (n - k) k)) (fun vk => n - (intOf vk).toNat)
  case atStart => exact ⟨i, by omega, by omega, rfl, Lib.hid rfl⟩
  case round =>
    obtain ⟨k, hk0, hk, rfl, HP⟩ := hrel
    by_cases hlt : k < n
    · obtain ⟨b, off, Ak, Ck, rfl, _, hck, hrk⟩ := H.out.row hlt
      obtain ⟨b', off', rfl, _, hcell⟩ := hrk.at him
      clear hrk
      by_cases he : M k i = 0
      · have hb : (fi (M k i) != 0) = false := by rw [he]; rfl
        have HN : Hid (pvt M i (n - i) i = pvt M i (n - (k + 1)) (k + 1)) := Lib.hid (HP.out.trans (by rw [show n - k = (n - (k + 1)) + 1 by omega]; exact pvt_next he))
        clear he HP
        go_wp2
        go_round
        case rel => exact ⟨k + 1, by omega, by omega, by go_num, HN⟩
        case measure => simp [intOf]; omega
      · have hb : (fi (M k i) != 0) = true := by rw [bne_iff_ne]; exact fun h => he (fi_eq_zero.1 h)
        have HN := Lib.hid (pivI_at hlt (HP.out.trans (by rw [show n - k = (n - (k + 1)) + 1 by omega]; exact pvt_here he)))
        clear he HP
        go_wp2
        go_ret
        exact ⟨ret_i64 HN.out.symm, rfl⟩
    · have HN : Hid (pivI n M i = -1) := Lib.hid (pivI_none (by rw [HP.out, show n - k = 0 by omega]; simp only [pvt]; omega))
      clear HP
      go_wp2
      go_ret
      exact ⟨ret_i64 HN.out.symm, rfl⟩
set_option maxRecDepth 100000 in
theorem pivot_is (A : Option Addr) (n C m i : Nat) (M : Mat) (G : Nat → Prop) (w : World) (z : Int) (hn : n ≤ 255) (hi : i < n) (him : i < m) (h : RdM w A n (fun _ => m) M G) (hz : pivI n M i = z) :
    Calls Tryz.prog 88 #[.slice A n C, .int .i64 (i : Int)] w fun e w' => e = .returned (.int .i64 z) ∧ w = w' := hz ▸ pivot_any A n C m i M G w hn hi him h
end Go.Proofs.YtcokmmanajdioaaGreat
