/- What the document's own product and inverse answer: the same as package gf; nothing is written. The document's own product and inverse, on elements. What the document's own Cauchy answers, whatever it is given. What the document's own Encode answers, whatever it is given. append of bytes, and of bytes 0, onto a row that a call owns, as an equation and as a step of a region that draws its order. No function of the program. What the document's own Parity answers. What the document's own SameRows answers where the rows are the same. What the walk is told of bytes that came in as an argument, as a list. What the walk is told of a []byte, and of a unit, in whose place stands what lies in its cells. What the walk is told of a tape that came in as an argument. No function of the program. What the walk is told of a row of tapes that came in as an argument. No function of the program. -/
import Derived.Test.YtcmdggdionghcaaMb
import Derived.Test.YtcmdggdionghcaaMc
import Derived.Test.YtcmdggdionghcaaMa
import Derived.Test.YtcmdggdionghcaaMxZeros
import Derived.Deep.RegionLaw
import Derived.Test.YtcmdggdionghcaaMe
import Derived.Deep.Slices
import Derived.Deep.Fields
import Derived.Lib.SmallJoins
namespace Go.Proofs.Ytcmdggdionghcaa
open Go.RowKit

set_option maxHeartbeats 400000 in
theorem refMul_nat (a b : Nat) (w : World) (ha : a < 256) (hb : b < 256) :
    Calls Try.prog 24 #[.int .u8 (a : Int), .int .u8 (b : Int)] w fun e w' => e = .returned (.int .u8 ((Gf.refMul a b : Nat) : Int)) ∧ w = w' := by
  go_enter Try.func24, Try.ntmps24
  go_wp2
  go_loop [5, 6] (fun vx vi => ∃ k x : Nat, k ≤ 8 ∧ x < 32768 ∧ vi = .int .i64 (k : Int) ∧ vx = .int .i64 (x : Int) ∧ Hid (Gf.refUp (8 - k) a b x = Gf.refUp 8 a b 0)) (fun _ vi => 8 - (intOf vi).toNat)
  case atStart => exact ⟨0, 0, by omega, by omega, rfl, rfl, Lib.hid rfl⟩
  case round =>
    obtain ⟨k, x, hk, hx, rfl, rfl, HR'⟩ := hrel
    by_cases hlt : k < 8
    · have hbit := up_bit b k hb
      have hstep : Gf.refUp (8 - k) a b x = Gf.refUp (8 - (k + 1)) a b (if b / 2 ^ k % 2 = 1 then x ^^^ (a * 2 ^ k) else x) := by
        rw [show 8 - k = (8 - (k + 1)) + 1 by omega]
        simp only [Gf.refUp]
        rw [show 7 - (8 - (k + 1)) = k by omega]
      by_cases hb1 : b / 2 ^ k % 2 = 1
      · have hb2 : (bits BinOp.and IntKind.u8 ((b : Int) / 2 ^ k) 1 == 1) = true := by rw [hbit, hb1]; rfl
        rw [if_pos hb1] at hstep
        have HR2 := Lib.hid (hstep.symm.trans HR'.out)
        clear hstep hbit hb1 HR'
        go_wp2
        go_round
        case rel => exact ⟨k + 1, x ^^^ (a * 2 ^ k), by omega, xor_lt15 hx (up_lt a k ha hlt), by go_num, val_i64 (up_xor a k x ha hlt hx), HR2⟩
        case measure => simp [intOf]; omega
      · have hb2 : (bits BinOp.and IntKind.u8 ((b : Int) / 2 ^ k) 1 == 1) = false := by
          rw [hbit, show b / 2 ^ k % 2 = 0 from (Nat.mod_two_eq_zero_or_one _).resolve_right hb1]; rfl
        rw [if_neg hb1] at hstep
        have HR2 := Lib.hid (hstep.symm.trans HR'.out)
        clear hstep hbit hb1 HR'
        go_wp2
        go_round
        case rel => exact ⟨k + 1, x, by omega, hx, by go_num, rfl, HR2⟩
        case measure => simp [intOf]; omega
    · have HX : Hid (x = Gf.refUp 8 a b 0) := by
        have h := HR'.out
        rw [show 8 - k = 0 by omega] at h
        exact Lib.hid h
      clear HR'
      go_wp2
      go_loop [5, 7] (fun vx vi => ∃ n y : Nat, n ≤ 7 ∧ y < 32768 ∧ vi = .int .i64 ((n : Int) + 7) ∧ vx = .int .i64 (y : Int) ∧ Hid (Gf.refDown n y = Gf.refDown 7 x)) (fun _ vi => (intOf vi).toNat)
      case atStart => exact ⟨7, x, by omega, hx, rfl, rfl, Lib.hid rfl⟩
      case round =>
        obtain ⟨n, y, hn, hy, rfl, rfl, HD⟩ := hrel
        by_cases hpos : 0 < n
        · obtain ⟨m, rfl⟩ : ∃ m, n = m + 1 := ⟨n - 1, by omega⟩
          have hbit := down_bit y (m + 1 + 7) hy
          have hstep : Gf.refDown (m + 1) y = Gf.refDown m (if y / 2 ^ (m + 1 + 7) % 2 = 1 then y ^^^ (285 * 2 ^ m) else y) := rfl
          by_cases hb1 : y / 2 ^ (m + 1 + 7) % 2 = 1
          · have hb2 : (bits BinOp.and IntKind.i64 ((y : Int) / 2 ^ (m + 1 + 7)) 1 == 1) = true := by rw [hbit, hb1]; rfl
            rw [if_pos hb1] at hstep
            have HR2 := Lib.hid (hstep.symm.trans HD.out)
            clear hstep hbit hb1 HD
            go_wp2
            go_round
            case rel => exact ⟨m, y ^^^ (285 * 2 ^ m), by omega, xor_lt15 hy (down_lt m (by omega)), by go_num, val_i64 (down_xor m y (by omega) hy), HR2⟩
            case measure => simp [intOf]; omega
          · have hb2 : (bits BinOp.and IntKind.i64 ((y : Int) / 2 ^ (m + 1 + 7)) 1 == 1) = false := by
              rw [hbit, show y / 2 ^ (m + 1 + 7) % 2 = 0 from (Nat.mod_two_eq_zero_or_one _).resolve_right hb1]; rfl
            rw [if_neg hb1] at hstep
            have HR2 := Lib.hid (hstep.symm.trans HD.out)
            clear hstep hbit hb1 HD
            go_wp2
            go_round
            case rel => exact ⟨m, y, by omega, hy, by go_num, rfl, HR2⟩
            case measure => simp [intOf]; omega
        · have HY : Hid (y % 256 = Gf.refMul a b) := by
            have h := HD.out
            rw [show n = 0 by omega] at h
            have h1 : y = Gf.refDown 7 x := h
            rw [h1, HX.out]
            exact Lib.hid rfl
          clear HD HX
          go_wp2
          go_ret
          exact ⟨ret_u8 (by rw [← HY.out]; omega), rfl⟩
theorem refMul_any (a b : Int) (w : World) (ha : 0 ≤ a) (ha' : a < 256) (hb : 0 ≤ b) (hb' : b < 256) :
    Calls Try.prog 24 #[.int .u8 a, .int .u8 b] w fun e w' => e = .returned (.int .u8 (gmul a b)) ∧ w = w' := by
  obtain ⟨a, rfl⟩ := Int.eq_ofNat_of_zero_le ha
  obtain ⟨b, rfl⟩ := Int.eq_ofNat_of_zero_le hb
  have h := refMul_nat a b w (by omega) (by omega)
  rw [Gf.refMul_eq (by omega)] at h
  exact h
set_option maxRecDepth 100000 in
set_option maxHeartbeats 400000 in
theorem refInv_any (a : Int) (w : World) (ha : 0 ≤ a) (ha' : a < 256) :
    Calls Try.prog 31 #[.int .u8 a] w fun e w' => e = .returned (.int .u8 (ginv a)) ∧ w = w' := by
  go_enter Try.func31, Try.ntmps31
  go_wp2
  go_loop [3, 4] (fun vx vi => ∃ k : Nat, k ≤ 254 ∧ vi = .int .i64 (k : Int) ∧ vx = .int .u8 ((Gf.pw a.toNat k : Nat) : Int)) (fun _ vi => 254 - (intOf vi).toNat)
  case atStart => exact ⟨0, by omega, rfl, rfl⟩
  case round =>
    obtain ⟨k, hk, rfl, rfl⟩ := hrel
    have hp := Gf.pw_lt (a := a.toNat) (by omega) k
    by_cases hlt : k < 254
    · go_wp2_with fail
      refine (refMul_any _ _ _ (by omega) (by omega) ha ha').mono ?_
      rintro e w' ⟨rfl, rfl⟩
      go_wp2
      go_round
      case rel => exact ⟨k + 1, by omega, by go_num, rfl⟩
      case measure => simp [intOf]; omega
    · have HK : Hid (Gf.pw a.toNat k = Gf.inv a.toNat) := by rw [show k = 254 by omega]; exact Lib.hid rfl
      go_wp2
      go_ret
      exact ⟨ret_u8 (congrArg (fun n : Nat => (n : Int)) HK.out), rfl⟩
end Go.Proofs.Ytcmdggdionghcaa
namespace Go.Proofs.Ytcmdggdionghcaa
open Go.RowKit Mx

theorem refMul_fe (a b : Fe) (w : World) : Calls Try.prog 24 #[.int .u8 (fi a), .int .u8 (fi b)] w fun e w' => e = .returned (.int .u8 (fi (a * b))) ∧ w = w' := by
  rw [← gmul_fi]; exact refMul_any _ _ w (fi_lo a) (fi_hi a) (fi_lo b) (fi_hi b)
theorem refInv_fe (a : Fe) (w : World) : Calls Try.prog 31 #[.int .u8 (fi a)] w fun e w' => e = .returned (.int .u8 (fi (inv a))) ∧ w = w' := by
  rw [← ginv_fi]; exact refInv_any _ w (fi_lo a) (fi_hi a)
theorem refMul_st (a b : Fe) (w : World) : Calls Try.prog 24 #[.int .u8 (fi a), .int .u8 (fi b)] w fun e w' => e = .returned (.int .u8 (fi (a * b))) ∧ w' = w := (refMul_fe a b w).mono fun _ _ h => ⟨h.1, h.2.symm⟩

theorem refInv_st (a : Fe) (w : World) : Calls Try.prog 31 #[.int .u8 (fi a)] w fun e w' => e = .returned (.int .u8 (fi (inv a))) ∧ w' = w := (refInv_fe a w).mono fun _ _ h => ⟨h.1, h.2.symm⟩
end Go.Proofs.Ytcmdggdionghcaa
namespace Go.Proofs.Ytcmdggdionghcaa
open Go.RowKit Mx

set_option maxHeartbeats 1000000 in
theorem refCauchy_bad (d p : Int) (w : World) (_hd : -9223372036854775808 ≤ d) (_hd' : d ≤ 9223372036854775807) (_hp : -9223372036854775808 ≤ p) (_hp' : p ≤ 9223372036854775807) (h : d < 1 ∨ p < 1 ∨ 255 < p ∨ 255 - p < d) :
    Calls Try.prog 22 #[.int .i64 d, .int .i64 p] w (ResM 1 0 0 one w) := by
  by_cases h1 : d < 1
  · clear h
    go_enter Try.func22, Try.ntmps22
    go_wp2
    go_ret2
    exact ResM.bad w (Below.refl _ _)
  · by_cases h2 : p < 1
    · clear h
      go_enter Try.func22, Try.ntmps22
      go_wp2
      go_ret2
      exact ResM.bad w (Below.refl _ _)
    · by_cases h5 : 255 < d
      · clear h
        go_enter Try.func22, Try.ntmps22
        go_wp2
        go_ret2
        exact ResM.bad w (Below.refl _ _)
      · by_cases h3 : 255 < p
        · clear h
          go_enter Try.func22, Try.ntmps22
          go_wp2
          go_ret2
          exact ResM.bad w (Below.refl _ _)
        · have h4 : 255 < d + p := by omega
          clear h
          go_enter Try.func22, Try.ntmps22
          go_wp2
          go_ret2
          exact ResM.bad w (Below.refl _ _)
set_option maxHeartbeats 2000000 in
theorem refCauchy_main (d p : Nat) (w : World) (hd0 : 0 < d) (hp0 : 0 < p) (hdp : d + p ≤ 255) :
    Calls Try.prog 22 #[.int .i64 (d : Int), .int .i64 (p : Int)] w (ResM 0 p d (cau p) w) := by
  go_enter Try.func22, Try.ntmps22
  go_wp2
  go_loopw [7, 6] (fun vi vo wr => ∃ i : Nat, i ≤ p ∧ vi = .int .i64 (i : Int) ∧ Hid (∃ G C, OwnA wr w.heap.size vo i d G C (cau p)) ∧ Hid (Below w.heap.size w wr)) (fun vi _ _ => p - (intOf vi).toNat)
  case atStart => exact ⟨0, by omega, rfl, Lib.hid ⟨fun _ => 0, fun _ => 0, OwnA.start _ _ _ _ _ _⟩, Lib.hid (Below.refl _ _)⟩
  case round =>
    obtain ⟨i, hi, rfl, HO, HB⟩ := hrel
    obtain ⟨G1, Cp1, hO⟩ := HO.out
    have HO' := Lib.hid hO
    clear hO HO
    obtain ⟨wo, rfl⟩ : ∃ x, x = wr := ⟨wr, rfl⟩
    by_cases hlt : i < p
    · go_wp2
      go_loopw [9, 8] (fun vj vr wq => ∃ j : Nat, j ≤ d ∧ vj = .int .i64 (j : Int) ∧ Hid (wq.ownsRow wo.heap.size 5 1 vr j (cellsOf j (cau p i))) ∧ Hid (Below wo.heap.size wo wq)) (fun vj _ _ => d - (intOf vj).toNat)
      case atStart => exact ⟨0, by omega, rfl, Lib.hid (World.ownsRow_nil _ _ _ _), Lib.hid (Below.refl _ _)⟩
      case round =>
        obtain ⟨j, hj, rfl, HO2, HB2⟩ := hrel
        by_cases hlt2 : j < d
        · have HCI : Hid (bits BinOp.xor IntKind.u8 (i : Int) ((p : Int) + (j : Int)) = fi (el i + el (p + j))) := by
            have hx := xor_fi (el i) (el (p + j))
            rw [fi_el (by omega), fi_el (by omega)] at hx
            exact Lib.hid (by rw [← hx]; congr 1)
          obtain ⟨i0, hi0, hz0, hz1, hz2⟩ := info_parts infoByte
          have hlow : wo.heap.size ≤ wr.heap.size := HB2.out.size
          have hown := HO2.out
          go_wp2_with fail
          rw [HCI.out]
          refine (refInv_fe _ _).mono ?_
          rintro e w' ⟨rfl, rfl⟩
          go_wp2_with (at_builtin; refine wpList_append_own _ rfl _ _ 40 rfl wo.heap.size 5 i0 (.int .u8 0) 1 1 Try.underlying40 hi0 hz0 hz1 hz2 rfl (by decide) _ _ _ rfl (hown.alloc _) ⟨wr.heap.size, 0, none⟩ 1 1 [.int .u8 (fi (inv (el i + el (p + j))))] rfl rfl (oneCell _ _ _) (oneByte _) (by unfold maxLen; omega) (by omega) (by simp; omega) ?_)
          intro v' w3 hown' hgrow _
          have HO3 : Hid (w3.ownsRow wo.heap.size 5 1 v' (j + 1) (cellsOf (j + 1) (cau p i))) := by
            rw [← cellsOf_succ]; exact Lib.hid hown'
          have HB3 := Lib.hid ((HB2.out.alloc hlow _).grown hgrow (by simp; omega) (fun x hx => (HO2.out.lt x hx).1))
          clear hown' hgrow hown
          go_wp2
          go_roundw
          case rel => exact ⟨j + 1, by omega, by go_num, HO3, HB3⟩
          case measure => simp [intOf]; omega
        · obtain ⟨g, c, rfl, hg, hc, hr⟩ := RowAt.of_owns (show wr.ownsRow wo.heap.size 5 1 _ d (cellsOf d (cau p i)) by
            have hjd : j = d := by omega
            have hh := HO2.out
            rw [hjd] at hh
            exact hh) hd0
          have HRW := Lib.hid hr
          have HA := Lib.hid (HO'.out.old HB2.out)
          obtain ⟨i0, hi0, hz0, hz1, hz2⟩ := info_parts infoRow
          have hown := HA.out.top
          have HX := Lib.hid (HB.out.trans (HB2.out.mono HB.out.size))
          have hlow : w.heap.size ≤ wr.heap.size := HX.out.size
          clear hr HO2
          go_wp2_with (at_builtin; refine wpList_append_own _ rfl _ _ 34 rfl w.heap.size 40 i0 (.slice none 0 0) 1 24 Try.underlying34 hi0 hz0 hz1 hz2 rfl (by decide) _ _ _ rfl (hown.alloc _) ⟨wr.heap.size, 0, none⟩ 1 1 [.slice (some ⟨g, 0, none⟩) d c] rfl rfl (oneCell _ _ _) (oneSlice _ _ _) (by unfold maxLen; omega) (by omega) (by simp; omega) ?_)
          intro v' w3 hown' hgrow _
          have HP := Lib.hid (HA.out.push hgrow hown' HRW.out (fun r hr => by have := (HO'.out.rows r hr).lt; omega) (Nat.le_trans HB.out.size hg) hc)
          have HB3 := Lib.hid ((HX.out.alloc hlow _).grown hgrow (by simp; omega) (fun x hx => (HA.out.top.lt x hx).1))
          clear hown' hgrow hown
          go_wp2
          go_roundw
          case rel => exact ⟨i + 1, by omega, by go_num, Lib.hid ⟨_, _, HP.out.congr (M' := cau p) fun r _ c _ => by by_cases e : r = i <;> simp [e]⟩, HB3⟩
          case measure => simp [intOf]; omega
    · obtain rfl : i = p := by omega
      obtain ⟨b, cp, rfl, _, _, hK⟩ := HO'.out.own hp0
      have HK := Lib.hid hK
      clear hK
      go_wp2
      go_ret2
      exact ⟨_, _, rfl, HK.out.rdAll (Nat.le_refl _), HB.out⟩
end Go.Proofs.Ytcmdggdionghcaa
namespace Go.Proofs.Ytcmdggdionghcaa
open Go.RowKit Mx

set_option maxHeartbeats 8000000 in
theorem refEncode_in (A : Option Addr) (n C : Nat) (L : Nat → Nat) (D : Mat) (G : Nat → Prop) (p : Nat) (w : World) (hn0 : 0 < n) (hnp : n + p ≤ 255) (hL : L 0 ≤ 1000000) (h : RdM w A n L D G) :
    Calls Try.prog 19 #[.slice A n C, .int .i64 (p : Int)] w (EncNew n L D (p : Int) w) := by
  obtain ⟨b0, off0, A0, C0, rfl, _, hc0, _⟩ := h.row (i := 0) (by omega)
  rw [Nat.add_zero] at hc0
  have hb0 := World.block_lt_of_cell? _ _ hc0
  have HC0 := Lib.hid hc0
  have H := Lib.hid h
  clear h hc0
  have q0 : decide ((n : Int) < 1) = false := decide_eq_false (by omega)
  have q1 : decide ((p : Int) < 0) = false := decide_eq_false (by omega)
  have q2 : decide ((255 : Int) < (p : Int)) = false := decide_eq_false (by omega)
  have q3 : decide ((255 : Int) < (n : Int) + (p : Int)) = false := decide_eq_false (by omega)
  go_enter Try.func19, Try.ntmps19
  go_wp2
  clear q0 q1 q2 q3
  go_loopw [6] (fun vi wr => ∃ k : Nat, 1 ≤ k ∧ k ≤ n ∧ vi = .int .i64 (k : Int) ∧ Hid (∀ i, i < k → L i = L 0) ∧ Hid (Below w.heap.size w wr)) (fun vi _ => n - (intOf vi).toNat)
  case atStart => exact ⟨1, by omega, by omega, rfl, Lib.hid (fun i hi => by rw [show i = 0 by omega]), Lib.hid (Below.refl _ _)⟩
  case round =>
    obtain ⟨k, hk0, hk, rfl, HL, HB⟩ := hrel
    by_cases hlt : k < n
    · obtain ⟨b', off', Ak, Ck, e, _, hck, _⟩ := (H.out.old HB.out).row hlt
      obtain ⟨rfl, rfl⟩ : b0 = b' ∧ off0 = off' := by simpa using e
      clear e
      have hd0 := (HB.out.cell hb0).trans HC0.out
      by_cases he : L k = L 0
      · have hb : ((L k : Int) != (L 0 : Int)) = false := by rw [he]; simp
        have HE := Lib.hid he
        clear he
        go_wp2
        go_quiet (fail)
        go_wp2
        go_roundw
        case rel => exact ⟨k + 1, by omega, by omega, by go_num, Lib.hid (fun i hi => by
          by_cases e : i = k
          · rw [e]; exact HE.out
          · exact HL.out i (by omega)), Lib.hid ⟨HB.out.os, HB.out.tape, HB.out.output, HB.out.size, HB.out.block⟩⟩
        case measure => simp [intOf]; omega
      · have hb : ((L k : Int) != (L 0 : Int)) = true := by rw [bne_iff_ne]; omega
        have HF : Hid (¬ EncOk n L (p : Int)) := Lib.hid fun hh => he (hh.2.1 k hlt)
        clear he
        go_wp2
        go_quiet (fail)
        go_wp2
        go_ret2
        exact EncNew.bad HF.out w ⟨HB.out.os, HB.out.tape, HB.out.output, HB.out.size, HB.out.block⟩
    · have HE : Hid (EncOk n L (p : Int)) := Lib.hid ⟨by omega, fun i hi => HL.out i (by omega), by omega, by omega⟩
      obtain ⟨w1, rfl⟩ : ∃ x, x = wr := ⟨wr, rfl⟩
      by_cases hp0 : p = 0
      · subst hp0
        go_wp2
        go_ret2
        exact EncNew.none HE.out w HB.out
      · have q4 : ((p : Int) == 0) = false := beq_eq_false_iff_ne.2 (by omega)
        have HA : Hid (∀ i, i < n → L i = L 0) := Lib.hid fun i hi => HL.out i (by omega)
        clear HL
        have HMK := Lib.hid (run_make_row' (P := Try.prog) 40 5 (.int .u8 0) 1 Try.underlying40 infoByte rfl .i64 .i64 (L 0) (by omega) (by omega))
        go_wp2_with fail
        refine (refCauchy_main n p _ hn0 (by omega) hnp).mono ?_
        rintro e w2 ⟨A2, C2, rfl, hr2, hB2⟩
        obtain ⟨b2, off2, _, _, rfl, _, _, _⟩ := hr2.row (i := 0) (by omega)
        have HR := Lib.hid hr2
        have HB2 := Lib.hid (HB.out.trans (hB2.mono HB.out.size))
        obtain ⟨m, hm⟩ : ∃ m, m = L 0 := ⟨_, rfl⟩
        have HD := Lib.hid (((H.out.congr (L' := fun _ => m) (M' := D) (fun i hi => by rw [hm]; exact HA.out i hi) (fun _ _ _ _ => rfl)).old HB2.out).in_)
        have HC2 := Lib.hid ((HB2.out.cell hb0).trans HC0.out)
        have hlt2 := World.block_lt_of_cell? _ _ HC2.out
        have HEQ : Hid (∀ e w', NewM 0 p m (par n p D) w e w' → EncNew n L D (p : Int) w e w') := Lib.hid fun e w' hh => by
          rw [hm] at hh; exact EncNew.some HE.out (by omega) hh
        rw [← hm] at HMK HC2 hL
        clear hr2 hB2 hm HA H HB HC0 HE
        go_wp2
        go_loopw [10, 9] (fun vi vo wr => ∃ i : Nat, i ≤ p ∧ vi = .int .i64 (i : Int) ∧ Hid (∃ G C, OwnA wr w2.heap.size vo i m G C (par n p D)) ∧ Hid (Below w2.heap.size w2 wr)) (fun vi _ _ => p - (intOf vi).toNat)
        case atStart => exact ⟨0, by omega, rfl, Lib.hid ⟨fun _ => 0, fun _ => 0, OwnA.start _ _ _ _ _ _⟩, Lib.hid (Below.refl _ _)⟩
        case round =>
          obtain ⟨i, hi, rfl, HO, HB⟩ := hrel
          obtain ⟨G1, Cp1, hO⟩ := HO.out
          have HO' := Lib.hid hO
          clear hO HO
          obtain ⟨wo, rfl⟩ : ∃ x, x = wr := ⟨wr, rfl⟩
          by_cases hlti : i < p
          · have hc1 := (HB.out.cell hlt2).trans HC2.out
            have hmk := HMK.out
            go_wp2
            clear hmk hc1
            go_loopw [12] (fun vj wq => ∃ j : Nat, j ≤ m ∧ vj = .int .i64 (j : Int) ∧ Hid (RowAt wq wo.heap.size m (part (par n p D i) j 0)) ∧ Hid (Below wo.heap.size wo wq)) (fun vj _ => m - (intOf vj).toNat)
            case atStart => exact ⟨0, by omega, rfl, Lib.hid ((RowAt.made wo m).congr fun j _ => by unfold part; rw [if_neg (by omega)]; split <;> rfl), Lib.hid ((Below.refl _ _).alloc (Nat.le_refl _) _)⟩
            case round =>
              obtain ⟨j, hj, rfl, HO2, HB2'⟩ := hrel
              by_cases hltj : j < m
              · go_wp2
                go_loopw [13] (fun vk wq => ∃ k : Nat, k ≤ n ∧ vk = .int .i64 (k : Int) ∧ Hid (RowAt wq wo.heap.size m (part (par n p D i) j (sm k fun t => cau p i t * D t j))) ∧ Hid (Below wo.heap.size wo wq)) (fun vk _ => n - (intOf vk).toNat)
                case atStart => exact ⟨0, by omega, rfl, HO2, HB2'⟩
                case round =>
                  obtain ⟨k, hk, rfl, HO3, HB3⟩ := hrel
                  clear HO2 HB2'
                  have HB4 := Lib.hid (HB.out.trans (HB3.out.mono HB.out.size))
                  by_cases hlt3 : k < n
                  · obtain ⟨b3, off3, Ai, Ci, e, _, d0, hri⟩ := (HR.out.below HB4.out).row hlti
                    obtain ⟨rfl, rfl⟩ : b2 = b3 ∧ off2 = off3 := by simpa using e
                    obtain ⟨b3, off3, rfl, _, d1⟩ := hri.at hlt3
                    obtain ⟨b4, off4, Ak, Ck, e', _, d2, hrk⟩ := (HD.out.below HB4.out).row hlt3
                    obtain ⟨rfl, rfl⟩ : b0 = b4 ∧ off0 = off4 := by simpa using e'
                    obtain ⟨b5, off5, rfl, _, d3⟩ := hrk.at hltj
                    have d4 := HO3.out.cell hltj
                    rw [part_at] at d4
                    have f4 := HO3.out.frozen j
                    have HX := Lib.hid (xor_fi (sm k fun t => cau p i t * D t j) (cau p i k * D k j))
                    clear e e' hri hrk
                    go_wp2
                    refine wp_region_still_tail 23 (by kernel_rfl) (by kernel_rfl) ?_
                    simp only [List.take_succ_cons, List.take_zero, List.drop_succ_cons, List.drop_zero]
                    repeat (first | still_step | still_call (refMul_st _ _ _))
                    refine wpStill_nil ?_
                    rw [HX.out]
                    change wpList _ _ _ _ _ wr.drew
                    go_wp2
                    go_roundw
                    case rel => exact ⟨k + 1, by omega, by go_num, Lib.hid ((HO3.out.set j ((sm k fun t => cau p i t * D t j) + cau p i k * D k j)).congr fun x _ => part_set _ _ _ _ _), Lib.hid ((HB3.out.drew).setCell (p := ⟨wo.heap.size, j, none⟩) (Nat.le_refl _) _)⟩
                    case measure => simp [intOf]; omega
                  · have HO5 : Hid (RowAt wr wo.heap.size m (part (par n p D i) (j + 1) 0)) := by
                      have hkm : k = n := by omega
                      have hh := HO3.out
                      rw [hkm] at hh
                      exact Lib.hid (hh.congr fun x _ => part_next (par n p D i) j x)
                    clear HO3
                    go_wp2
                    go_roundw
                    case rel => exact ⟨j + 1, by omega, by go_num, HO5, HB3⟩
                    case measure => simp [intOf]; omega
              · have HO5 : Hid (RowAt wr wo.heap.size m (par n p D i)) := Lib.hid (HO2.out.congr fun x hx => by unfold part; rw [if_pos (by omega)])
                have HA := Lib.hid (HO'.out.old HB2'.out)
                obtain ⟨i0, hi0, hz0, hz1, hz2⟩ := info_parts infoRow
                have hown := HA.out.top
                have HX := Lib.hid (HB.out.trans (HB2'.out.mono HB.out.size))
                have hlow : w2.heap.size ≤ wr.heap.size := HX.out.size
                go_wp2_with (at_builtin; refine wpList_append_own _ rfl _ _ 34 rfl w2.heap.size 40 i0 (.slice none 0 0) 1 24 Try.underlying34 hi0 hz0 hz1 hz2 rfl (by decide) _ _ _ rfl (hown.alloc _) ⟨wr.heap.size, 0, none⟩ 1 1 [.slice (some ⟨wo.heap.size, 0, none⟩) m m] rfl rfl (oneCell _ _ _) (oneSlice _ _ _) (by unfold maxLen; omega) (by omega) (by simp; omega) ?_)
                intro v' w3 hown' hgrow _
                have HP := Lib.hid (HA.out.push hgrow hown' HO5.out (fun r hr => by have := (HO'.out.rows r hr).lt; omega) HB.out.size (Nat.le_refl m))
                have HB3 := Lib.hid ((HX.out.alloc hlow _).grown hgrow (by simp; omega) (fun x hx => (HA.out.top.lt x hx).1))
                clear hown' hgrow hown
                go_wp2
                go_roundw
                case rel => exact ⟨i + 1, by omega, by go_num, Lib.hid ⟨_, _, HP.out.congr (M' := par n p D) fun r _ c _ => by by_cases e : r = i <;> simp [e]⟩, HB3⟩
                case measure => simp [intOf]; omega
          · have hip : i = p := by omega
            obtain ⟨b, cp, rfl, hlo, hcp, hK⟩ := HO'.out.own (by omega)
            rw [hip] at hK
            have HK := Lib.hid hK
            clear hK HO'
            subst hip
            go_wp2
            go_ret2
            exact HEQ.out _ _ ⟨b, cp, G1, Cp1, rfl, hcp, Nat.le_trans HB2.out.size hlo, HK.out.down HB2.out.size, HB2.out.trans (HB.out.mono HB2.out.size)⟩
set_option maxHeartbeats 1000000 in
theorem refEncode_new (A : Option Addr) (n C : Nat) (L : Nat → Nat) (D : Mat) (G : Nat → Prop) (p : Int) (w : World) (hn : n ≤ 1000000) (hL : 0 < n → L 0 ≤ 1000000) (hp : -9223372036854775808 ≤ p) (hp' : p ≤ 9223372036854775807) (h : RdM w A n L D G) :
    Calls Try.prog 19 #[.slice A n C, .int .i64 p] w (EncNew n L D p w) := by
  by_cases h1 : n < 1
  · have HE : Hid (¬ EncOk n L p) := Lib.hid fun hh => by have := hh.1; omega
    clear h
    go_enter Try.func19, Try.ntmps19
    go_wp2
    go_ret2
    exact EncNew.bad HE.out w (Below.refl _ _)
  · by_cases h2 : p < 0
    · have HE : Hid (¬ EncOk n L p) := Lib.hid fun hh => by have := hh.2.2.1; omega
      clear h
      go_enter Try.func19, Try.ntmps19
      go_wp2
      go_ret2
      exact EncNew.bad HE.out w (Below.refl _ _)
    · by_cases h3 : 255 < p
      · have HE : Hid (¬ EncOk n L p) := Lib.hid fun hh => by have := hh.2.2.2; omega
        clear h
        go_enter Try.func19, Try.ntmps19
        go_wp2
        go_ret2
        exact EncNew.bad HE.out w (Below.refl _ _)
      · by_cases h4 : 255 < (n : Int) + p
        · have HE : Hid (¬ EncOk n L p) := Lib.hid fun hh => by have := hh.2.2.2; omega
          clear h
          go_enter Try.func19, Try.ntmps19
          go_wp2
          go_ret2
          exact EncNew.bad HE.out w (Below.refl _ _)
        · obtain ⟨k, rfl⟩ : ∃ k : Nat, p = (k : Int) := ⟨p.toNat, by omega⟩
          exact refEncode_in A n C L D G k w (by omega) (by omega) (hL (by omega)) h
theorem refEncode_any (A : Option Addr) (n C : Nat) (L : Nat → Nat) (D : Mat) (G : Nat → Prop) (p : Int) (w : World) (hn : n ≤ 1000000) (hL : 0 < n → L 0 ≤ 1000000) (hp : -9223372036854775808 ≤ p) (hp' : p ≤ 9223372036854775807) (h : RdM w A n L D G) :
    Calls Try.prog 19 #[.slice A n C, .int .i64 p] w (EncAny n L D p w) :=
  (refEncode_new A n C L D G p w hn hL hp hp' h).mono fun _ _ hh => hh.any
end Go.Proofs.Ytcmdggdionghcaa
namespace Go.Proofs.Ytcmdggdionghcaa
open Go.RowKit
open Pt (Tx)

/-- an append that runs to v' and w' is a step -/
theorem step_append_eq {P : Program} {ops : Array Oper} {o : Oper} {a : Act} {w : World} {K : Act → World → Prop} {Q : Exit → Act → World → Prop} {E : Prop} (hg : o.guard = none) (s x : Operand) (t tn : TypeId)
    (ho : o.op = .call { callee := .builtin .append, args := #[s, x], argTypes := #[t, tn] }) (vs vx v' : Value) (w' : World) (hr : ∀ ty, (Builtin.append_ #[t, tn] ty #[vs, vx]).run P w = .ok v' w') (hs : a.eval s = vs) (hx : a.eval x = vx)
    (hK : K (a.put o.dst v') w') : if Region.wanted o (yielded ops a.tmps) = true then Oper.wp P o a w K Q else E := by
  have hw : Region.wanted o (yielded ops a.tmps) = true := by simp [Region.wanted, hg]
  rw [if_pos hw]
  exact Lib.wp_append_run w s x t tn ho vs vx hs hx v' w' (hr _) hK
/-- what an append onto an own row of bytes made: the row as a slice -/
def Grew (w : World) (base : Nat) (v : Value) (l : Tx) (n : Nat) (A : Option Addr) (C : Nat) (w' : World) : Prop := OwnL w' base (.slice A n C) l ∧ w.grownBy w' v.ownBlock
theorem ap_run (w : World) (base : Nat) (v : Value) (l : Tx) (hown : OwnL w base v l) (A : Option Addr) (m c : Nat) (l' : Tx) (G : Nat → Prop) (hm : l'.length = m) (hA : A = none → m = 0 ∧ c = 0) (hr : RdL w A l' G) (hb : l.length + m ≤ 140737488355328) (hbase : base ≤ w.heap.size) (n : Nat) (hn : n = l.length + m) :
    ∃ A' C' w', (∀ ty, (Builtin.append_ #[40, 40] ty #[v, .slice A m c]).run Try.prog w = .ok (.slice A' n C') w') ∧ Grew w base v (l ++ l') n A' C' w' := by
  obtain ⟨i0, hi, hz0, hz1, hz2⟩ := info_parts infoB
  have key : ∃ v' w', (∀ ty, (Builtin.append_ #[40, 40] ty #[v, .slice A m c]).run Try.prog w = .ok v' w') ∧ OwnL w' base v' (l ++ l') ∧ w.grownBy w' v.ownBlock := by
    cases A with
    | none =>
      obtain ⟨rfl, rfl⟩ := hA rfl
      have h0 : l' = [] := List.length_eq_zero_iff.1 hm
      subst h0
      refine ⟨v, w, fun ty => run_append_owned_none (P := Try.prog) (w := w) base 40 ty 5 i0 1 Try.underlying40 hi v l.length (cellsL l) hown, ?_, grown_refl w _⟩
      rw [List.append_nil]; exact hown
    | some ad =>
      have hnews : ∀ j u, (cellsL l')[j]? = some u → w.cell? (ad.add j) = some u := fun j u hu => by
        obtain ⟨hj, rfl⟩ := cellsL_some hu
        obtain ⟨b, off, e, _, hc⟩ := hr (by omega)
        cases e
        rw [addr_add]; exact hc j hj
      obtain ⟨v', w', h1, h2, h3, _⟩ := run_append_own (P := Try.prog) w base 40 3 5 i0 (.int .u8 0) 1 1 Try.underlying40 hi hz0 hz1 hz2 rfl (by decide) v l.length (cellsL l) hown ad m c (cellsL l') (by rw [cellsL_len, hm, Nat.mul_one]) hnews cellsL_one (by unfold maxLen; omega) (by omega) hbase
      refine ⟨v', w', fun ty => h1, ?_, h3⟩
      unfold OwnL
      rw [← cellsL_append, List.length_append, hm]; exact h2
  obtain ⟨v', w', h1, h2, h3⟩ := key
  obtain ⟨A', C', rfl, _, _, _, _⟩ := h2.rd
  have e : (l ++ l').length = n := by rw [List.length_append, hm, hn]
  refine ⟨A', C', w', fun ty => by rw [← e]; exact h1 ty, ?_, h3⟩
  rw [← e]; exact h2
theorem cellsL_zeros (l : Tx) (k : Nat) : cellsL (l ++ List.replicate k 0) = cellsL l ++ List.replicate k (.int .u8 0) := by simp [cellsL]
theorem run_append_none_zeros {P : Program} (w : World) (t tn ty e : TypeId) (i : TypeInfo) (kq kn : IntKind) (ht : P.underlying t = some (.slice e)) (htn : P.underlying tn = some (.int kn)) (hi : P.info? e = some i) (A : Addr) (n c : Nat) (hc : n ≤ c) :
    (Builtin.append_ #[t, tn] ty #[.slice (some A) n c, .int kq 0]).run P w = .ok (.slice (some A) n c) w := by
  have hw : IntKind.i64.wrap 0 = 0 := by decide
  simp [Builtin.append_, run_underlying ht, run_underlying htn, sizeOf, typeInfo, hi, asInt, asIntOf, hw, hc, storeCells]
theorem apz_run (w : World) (base : Nat) (v : Value) (l : Tx) (hown : OwnL w base v l) (hl : 0 < l.length) (k : Nat) (hb : l.length + k ≤ 1000000) (hbase : base ≤ w.heap.size) (x : Int) (hx : x = (k : Int)) (n : Nat) (hn : n = l.length + k) :
    ∃ A' C' w', (∀ ty, (Builtin.append_ #[40, 3] ty #[v, .int .i64 x]).run Try.prog w = .ok (.slice A' n C') w') ∧ Grew w base v (l ++ List.replicate k 0) n A' C' w' := by
  subst hx
  obtain ⟨i0, hi, hz0, hz1, hz2⟩ := info_parts infoB
  by_cases h0 : k = 0
  · subst h0
    obtain ⟨A, C, rfl, hlc, _, hA, _⟩ := hown.rd
    cases A with
    | none => have := (hA rfl).1; omega
    | some a =>
      refine ⟨some a, C, w, fun ty => ?_, ?_, grown_refl w _⟩
      · rw [hn]; exact run_append_none_zeros (P := Try.prog) w 40 3 ty 5 i0 .i64 .i64 Try.underlying40 Try.underlying3 hi a l.length C hlc
      · rw [hn, List.replicate_zero, List.append_nil]; exact hown
  · have key : ∀ ty, ∃ v' w', (Builtin.append_ #[40, 3] ty #[v, .int .i64 (k : Int)]).run Try.prog w = .ok v' w' ∧ w'.ownsRow base 5 1 v' (l.length + k) (cellsL l ++ List.replicate k (.int .u8 0)) ∧ w.grownBy w' v.ownBlock := fun ty =>
      run_append_zeros_own (P := Try.prog) w base 40 3 ty 5 i0 (.int .u8 0) .i64 .i64 Try.underlying40 Try.underlying3 hi hz0 hz1 rfl rfl v l.length (cellsL l) hown hl k (by omega) (by unfold maxLen; omega) (by rw [hz2]; omega) hbase
    obtain ⟨v', w', h1, h2, h3⟩ := key 3
    have h4 : OwnL w' base v' (l ++ List.replicate k 0) := by
      unfold OwnL
      rw [cellsL_zeros, List.length_append, List.length_replicate]; exact h2
    obtain ⟨A', C', rfl, _, _, _, _⟩ := h4.rd
    have e : (l ++ List.replicate k (0 : UInt8)).length = n := by rw [List.length_append, List.length_replicate, hn]
    refine ⟨A', C', w', fun ty => by rw [← e]; exact h1, ?_, h3⟩
    rw [← e]; exact h4
end Go.Proofs.Ytcmdggdionghcaa
namespace Go.Proofs.Ytcmdggdionghcaa
open Go.RowKit Mx
open Pt (Tx)

/-- append of one row, and where it lies -/
theorem lies_run (w : World) (base : Nat) (v : Value) (n : Nat) (us : List Value) (hown : w.ownsRow base 40 1 v n us) (hl : n ≤ 1000000) (ad : Addr) (c : Nat) (x : Value) (hx : x.oneCell' = true) (hc : ∀ j u, [x][j]? = some u → w.cell? (ad.add j) = some u) (hbase : base ≤ w.heap.size) :
    ∃ g cap w', (∀ ty, (Builtin.append_ #[34, 34] ty #[v, .slice (some ad) 1 c]).run Try.prog w = .ok (.slice (some ⟨g, 0, none⟩) (n + 1) cap) w') ∧ w'.ownsRow base 40 1 (.slice (some ⟨g, 0, none⟩) (n + 1) cap) (n + 1) (us ++ [x]) ∧ w.grownBy w' v.ownBlock ∧ (v.ownBlock = some g ∨ g = w.heap.size) := by
  obtain ⟨i0, hi, hz0, hz1, hz2⟩ := info_parts infoRow
  obtain ⟨g, cap, w', h1, h2, h3, h4, _⟩ := run_append_lies (P := Try.prog) (w := w) 34 3 base 40 i0 (.slice none 0 0) 1 24 Try.underlying34 hi hz0 hz1 hz2 rfl (by decide) v n us hown ad 1 c [x] rfl hc (by simpa using hx) (by decide) (by unfold maxLen; omega) (by omega) hbase w.heap.size rfl
  exact ⟨g, cap, w', fun ty => h1, h2, h3, h4⟩
/-- empty tapes of parity, made by append -/
theorem OutP.of_owns {w : World} {B p : Nat} {v : Value} {X : Nat → Mat} (h : w.ownsRow B 34 1 v p (List.replicate p (.slice none 0 0))) :
    ∃ A C b, v = .slice A p C ∧ p ≤ C ∧ (A = none → p = 0 ∧ C = 0) ∧ (0 < p → A = some ⟨b, 0, none⟩) ∧ OutP w B b p 79 (fun _ => .slice none 0 0) (fun _ => 0) X := by
  rcases h.2 with ⟨e, h0⟩ | ⟨g, cap, cur, e, hb, hg, hnc, _, hs, ht⟩
  · subst h0
    exact ⟨none, 0, B, e, Nat.le_refl _, fun _ => ⟨rfl, rfl⟩, fun h => absurd h (by omega), OutP.start _ _ _ _ _ _ (Nat.le_refl _) fun h => absurd h (by omega)⟩
  · refine ⟨_, cap, g, e, hnc, (fun h => by cases h), fun _ => rfl, OutP.start _ _ _ _ _ _ hb fun _ => ⟨cur, hg, by omega, fun j hj => ?_⟩⟩
    have hx : (List.replicate p (Value.slice none 0 0))[j]? = some (.slice none 0 0) := by simp [hj]
    rw [← ht, List.getElem?_take, if_pos (by omega), Array.getElem?_toList] at hx
    exact hx
set_option maxRecDepth 100000 in
set_option maxHeartbeats 8000000 in
theorem refParity_main (A : Option Addr) (ts : List St.T) (C : Nat) (G : Nat → Prop) (p : Nat) (w : World) (hn0 : 0 < ts.length) (hnp : ts.length + p ≤ 255) (hl : St.len ts ≤ 1000000) (hr : RdT w A ts G) :
    Calls Try.prog 8 #[.slice A ts.length C, .int .i64 (p : Int)] w (ParA ts (p : Int) w) := by
  have HR := Lib.hid hr
  obtain ⟨i0, hi0, hz0, hz1, hz2⟩ := info_parts infoRow
  obtain ⟨j0, hj0, hy0, hy1, hy2⟩ := info_parts infoMat
  obtain ⟨K, hK⟩ : ∃ K, K = St.len ts := ⟨_, rfl⟩
  rw [← hK] at hl
  have HK := Lib.hid hK
  have q0 : decide ((ts.length : Int) < 1) = false := decide_eq_false (by omega)
  have q1 : decide ((p : Int) < 0) = false := decide_eq_false (by omega)
  have q2 : decide ((255 : Int) < (p : Int)) = false := decide_eq_false (by omega)
  have q3 : decide ((255 : Int) < (ts.length : Int) + (p : Int)) = false := decide_eq_false (by omega)
  clear hr hK
  go_enter Try.func8, Try.ntmps8
  go_wp2
  clear q0 q1 q2 q3
  go_loopw [7, 6] (fun vi vo wr => ∃ j : Nat, j ≤ p ∧ vi = .int .i64 (j : Int) ∧ Hid (wr.ownsRow w.heap.size 34 1 vo j (List.replicate j (.slice none 0 0))) ∧ Hid (Below w.heap.size w wr)) (fun vi _ _ => p - (intOf vi).toNat)
  case atStart => exact ⟨0, Nat.zero_le _, rfl, Lib.hid (World.ownsRow_nil _ _ _ _), Lib.hid (Below.refl _ _)⟩
  case round =>
    obtain ⟨j, hj, rfl, HO, HB⟩ := hrel
    by_cases hlt : j < p
    · have e0 : decide (j < p) = true := decide_eq_true hlt
      have hown := HO.out
      have hlow := HB.out.size
      go_wp2_with (at_builtin; refine wpList_append_own _ rfl _ _ 25 rfl w.heap.size 34 j0 (.slice none 0 0) 1 24 Try.underlying25 hj0 hy0 hy1 hy2 rfl (by decide) _ _ _ rfl (hown.alloc _) ⟨wr.heap.size, 0, none⟩ 1 1 [.slice none 0 0] rfl rfl (oneCell _ _ _) (oneSlice _ _ _) (by unfold maxLen; omega) (by omega) (by simp; omega) ?_)
      intro v' w3 hown' hgrow _
      have HO3 : Hid (w3.ownsRow w.heap.size 34 1 v' (j + 1) (List.replicate (j + 1) (.slice none 0 0))) := Lib.hid (by
        rw [show List.replicate (j + 1) (Value.slice none 0 0) = List.replicate j (Value.slice none 0 0) ++ [.slice none 0 0] by rw [List.replicate_succ']]
        exact hown')
      have HB3 := Lib.hid ((HB.out.alloc HB.out.size _).grown hgrow (by simp; omega) (fun x hx => (HO.out.lt x hx).1))
      clear hown' hgrow hown
      go_wp2
      go_roundw
      case rel => exact ⟨j + 1, by omega, by go_num, HO3, HB3⟩
      case measure => simp [intOf]; omega
    · have e0 : decide (j < p) = false := decide_eq_false hlt
      obtain rfl : j = p := by omega
      obtain ⟨Ao, Co, b, rfl, hCo, hAo, hbo, hO2⟩ := OutP.of_owns (X := St.X ts j) HO.out
      have HO2 := Lib.hid hO2
      have HAO := Lib.hid hAo
      have HBO := Lib.hid hbo
      have HB2 := HB
      clear HO hO2 hAo hbo HB
      go_wp2
      go_loopw [8] (fun vi wq => ∃ n : Nat, n ≤ K ∧ vi = .int .i64 (n : Int) ∧ Hid (∃ V, OutP wq w.heap.size b j 79 V (fun _ => n) (St.X ts j)) ∧ Hid (∀ m : Nat, m < n → ∀ t ∈ ts, St.blk (m : Int) t ≠ []) ∧ Hid (Below w.heap.size w wq)) (fun vi _ => K - (intOf vi).toNat)
      case atStart => exact ⟨0, Nat.zero_le _, rfl, Lib.hid ⟨_, HO2.out⟩, Lib.hid (fun m hm => absurd hm (by omega)), HB2⟩
      case round =>
        obtain ⟨n, hn, rfl, HO, HW, HB⟩ := hrel
        clear HO2 HB2
        obtain ⟨wo, rfl⟩ : ∃ x, x = wr := ⟨wr, rfl⟩
        go_wp2_with fail
        refine (refLen_any A ts C _ wo (by unfold maxLen; omega) (HR.out.old HB.out)).mono ?_
        rintro e w' ⟨rfl, rfl⟩
        rw [← HK.out]
        by_cases hlt : n < K
        · have e0 : decide (n < K) = true := decide_eq_true hlt
          go_wp2_with fail
          refine (refRow_any A ts C _ (n : Int) wo (by omega) (HR.out.old HB.out)).mono ?_
          rintro e w3 ⟨A3, C3, rfl, -, -, hr3, hb3⟩
          have HR3 := Lib.hid hr3
          have HB3 := Lib.hid (HB.out.trans (hb3.mono HB.out.size))
          have HBr := Lib.hid hb3
          clear hr3 hb3
          go_wp2
          go_loop [10] (fun vi => ∃ i : Nat, i ≤ ts.length ∧ vi = .int .i64 (i : Int) ∧ Hid (∀ k, k < i → St.lens (St.row ts (n : Int)) k ≠ 0)) (fun vi => ts.length - (intOf vi).toNat)
          case atStart => exact ⟨0, Nat.zero_le _, rfl, Lib.hid (fun k hk => absurd hk (by omega))⟩
          case round =>
            obtain ⟨i, hi, rfl, HL⟩ := hrel
            by_cases hlti : i < ts.length
            · have e1 : decide (i < ts.length) = true := decide_eq_true hlti
              obtain ⟨b3, off3, A4, C4, rfl, -, hc4, -⟩ := HR3.out.row hlti
              obtain ⟨L, hL⟩ : ∃ L, L = St.lens (St.row ts (n : Int)) i := ⟨_, rfl⟩
              rw [← hL] at hc4
              by_cases hz : L = 0
              · have HN : Hid (¬ St.Ok ts (j : Int)) := Lib.hid fun h => by
                  obtain ⟨t, ht, e⟩ := St.none_of (ts := ts) (n := (n : Int)) (emptyB_true.2 ⟨i, hlti, by rw [← hL]; exact hz⟩)
                  exact h.2 n (by rw [← HK.out]; exact hlt) t ht e
                have e2 : ((L : Int) == 0) = true := by rw [hz]; rfl
                clear hz hL
                go_wp2
                go_ret2
                exact ParA.no HN.out HB3.out
              · have e2 : ((L : Int) == 0) = false := beq_eq_false_iff_ne.2 (by omega)
                have HL2 : Hid (∀ k, k < i + 1 → St.lens (St.row ts (n : Int)) k ≠ 0) := Lib.hid fun k hk => by
                  by_cases e : k = i
                  · rw [e, ← hL]; exact hz
                  · exact HL.out k (by omega)
                clear hz hL
                go_wp2
                go_round
                case rel => exact ⟨i + 1, by omega, by go_num, HL2⟩
                case measure => simp [intOf]; omega
            · have e1 : decide (i < ts.length) = false := decide_eq_false hlti
              obtain ⟨h79, hne⟩ := St.all_of (ts := ts) (n := (n : Int)) (emptyB_false.2 fun k hk => HL.out k (by omega))
              have HW2 : Hid (∀ m : Nat, m < n + 1 → ∀ t ∈ ts, St.blk (m : Int) t ≠ []) := Lib.hid fun m hm => by
                by_cases e : m = n
                · subst e; exact hne
                · exact HW.out m (by omega)
              have hok : EncOk ts.length (St.lens (St.row ts (n : Int))) (j : Int) := ⟨hn0, fun i hi => by rw [h79 i hi, h79 0 hn0], by omega, by omega⟩
              have HOK := Lib.hid hok
              have H79 := Lib.hid h79
              clear hok h79 hne HW HL
              go_wp2_with fail
              refine (refEncode_new A3 ts.length C3 _ _ _ (j : Int) w3 (by omega) (fun h => by rw [H79.out 0 h]; omega) (by omega) (by omega) HR3.out).mono ?_
              intro e w4 hh
              obtain ⟨A4, C4, rfl, hM4, hb4⟩ := hh.made HOK.out (H79.out 0 hn0)
              obtain ⟨V0, hO⟩ := HO.out
              have HM4 := Lib.hid hM4
              have HB4 := Lib.hid (HB3.out.trans (hb4.mono HB3.out.size))
              have HO4 := Lib.hid ((hO.old HBr.out).old hb4)
              have HS3 := Lib.hid HB3.out.size
              have HLT : Hid (0 < j → ∀ x, (x = b ∨ ∃ i, i < j ∧ (V0 i).ownBlock = some x) → x < w3.heap.size) := Lib.hid fun hp x hx => by
                rcases hx with rfl | ⟨i, hi, e⟩
                · exact (((hO.old HBr.out).top hp).lt)
                · exact (((hO.old HBr.out).rows i hi).lt e).2
              clear hh hM4 hb4 hO HO HB3 HB HR3 HBr HOK H79
              go_wp2
              go_loopw [13] (fun vj wq => ∃ k : Nat, k ≤ j ∧ vj = .int .i64 (k : Int) ∧ Hid (Inn w w4 wq b j n k V0 (St.X ts j))) (fun vj _ => j - (intOf vj).toNat)
              case atStart => exact ⟨0, Nat.zero_le _, rfl, Lib.hid (Inn.start HO4.out)⟩
              case round =>
                obtain ⟨k, hk, rfl, HI⟩ := hrel
                by_cases hltk : k < j
                · have e2 : decide (k < j) = true := decide_eq_true hltk
                  obtain rfl := HBO.out (by omega)
                  obtain ⟨b2, r, c, rfl, -, hc, hC, hrr, hR⟩ := (HM4.out.kp HI.out.kp (HLT.out (by omega))) k hltk
                  obtain ⟨Av, Cv, us, hcv, hfv, hbl, hown, hnext⟩ := HI.out.next hltk
                  have hlow : w.heap.size ≤ wr.heap.size := (HI.out.below HO4.out HB4.out).size
                  obtain ⟨x9, hx9⟩ : ∃ x9, x9 = (wr.alloc (.cells #[.slice (some ⟨r, 0, none⟩) 79 c] 40)).drew := ⟨_, rfl⟩
                  have hb9 : Below wr.heap.size wr x9 := by rw [hx9]; exact ((Below.refl _ wr).alloc (Nat.le_refl _) _).drew
                  have hown9 : x9.ownsRow w.heap.size 40 1 (.slice Av n Cv) n us := own_old hown hb9
                  obtain ⟨g, cap, w5, hr9, hown5, hg5, hat5⟩ := lies_run x9 w.heap.size (.slice Av n Cv) n us hown9 (by omega) ⟨wr.heap.size, 0, none⟩ 1 (.slice (some ⟨r, 0, none⟩) 79 c) rfl (by rw [hx9]; exact oneCell _ _ _) (Nat.le_trans hlow hb9.size)
                  obtain ⟨c5, f5, hI5⟩ := hnext x9 w5 g cap r c _ hb9 hg5 hown5 (hat5.imp id fun e => by rw [e]; exact hb9.size) hC (Nat.le_trans HS3.out hrr) hR (fun x _ => rfl)
                  have HI5 := Lib.hid hI5
                  have hcvd : wr.drew.cell? ⟨b, k, none⟩ = some (.slice Av n Cv) := hcv
                  have hcd : wr.drew.cell? ⟨b2, k, none⟩ = some (.slice (some ⟨r, 0, none⟩) 79 c) := hc
                  have hcvx : ((wr.alloc (.cells #[.slice (some ⟨r, 0, none⟩) 79 c] 40)).drew).cell? ⟨b, k, none⟩ = some (.slice Av n Cv) := by rw [← hx9]; exact (hb9.cell (World.block_lt_of_cell? _ _ hcv)).trans hcv
                  rw [hx9] at hr9
                  clear hx9 hb9 hown9 hown5 hg5 hat5 hnext hI5 hown hR hC hrr
                  go_wp2_with fail
                  go_region_law (first
                    | (refine step_append_eq (by rfl) _ _ _ _ (by rfl) _ _ _ _ hr9 (by rfl) (by rfl) ?_))
                  all_goals
                    go_wp2
                    go_roundw
                    case rel => exact ⟨k + 1, by omega, by go_num, HI5⟩
                    case measure => simp [intOf]; omega
                · have e2 : decide (k < j) = false := decide_eq_false hltk
                  obtain rfl : k = j := by omega
                  have HO5 := Lib.hid HI.out.done
                  have HB5 := Lib.hid (HI.out.below HO4.out HB4.out)
                  clear HI
                  go_wp2
                  go_roundw
                  case rel => exact ⟨n + 1, by omega, by go_num, HO5, HW2, HB5⟩
                  case measure => simp [intOf]; omega
        · have e0 : decide (n < K) = false := decide_eq_false hlt
          obtain rfl : n = K := by omega
          obtain ⟨V, hO⟩ := HO.out
          have HF := Lib.hid (hO.rdP (n := n) fun _ _ => rfl)
          have HOK : Hid (St.Ok ts (j : Int)) := Lib.hid ⟨⟨hn0, by omega, by omega⟩, fun m hm => HW.out m (by rw [HK.out]; exact hm)⟩
          have HF2 : Hid (RdP wo Ao j (St.len ts) 79 (St.X ts j) (w.heap.size ≤ ·)) := Lib.hid fun hj0 => by
            have e := HBO.out hj0
            rw [e]
            have := HF.out hj0
            rw [HK.out] at this
            exact this
          clear hO HO HW HF
          go_wp2
          go_ret2
          exact ParA.yes HOK.out hCo HAO.out HF2.out HB.out
set_option maxHeartbeats 2000000 in
theorem refParity_any (A : Option Addr) (ts : List St.T) (C : Nat) (G : Nat → Prop) (p : Int) (w : World) (hn : ts.length ≤ 1000000) (hp : -9223372036854775808 ≤ p) (hp' : p ≤ 9223372036854775807) (hl : St.len ts ≤ 1000000) (hr : RdT w A ts G) :
    Calls Try.prog 8 #[.slice A ts.length C, .int .i64 p] w (ParA ts p w) := by
  by_cases ha : St.Arg ts p
  · obtain ⟨k, rfl⟩ : ∃ k : Nat, p = (k : Int) := ⟨p.toNat, by have := ha.2.1; omega⟩
    exact refParity_main A ts C G k w (by have := ha.1; omega) (by have := ha.2.2; omega) hl hr
  · have HN : Hid (¬ St.Ok ts p) := Lib.hid fun h => ha h.1
    have hq : decide ((ts.length : Int) < 1) = true ∨ (decide ((ts.length : Int) < 1) = false ∧ decide (p < 0) = true) ∨ (decide ((ts.length : Int) < 1) = false ∧ decide (p < 0) = false ∧ decide (255 < p) = true) ∨ (decide ((ts.length : Int) < 1) = false ∧ decide (p < 0) = false ∧ decide (255 < p) = false ∧ decide (255 < (ts.length : Int) + p) = true ∧ IntKind.i64.wrap ((ts.length : Int) + p) = (ts.length : Int) + p) := by
      by_cases a : (ts.length : Int) < 1
      · exact .inl (decide_eq_true a)
      · refine .inr ?_
        by_cases a2 : p < 0
        · exact .inl ⟨decide_eq_false a, decide_eq_true a2⟩
        · refine .inr ?_
          by_cases a3 : 255 < p
          · exact .inl ⟨decide_eq_false a, decide_eq_false a2, decide_eq_true a3⟩
          · refine .inr ⟨decide_eq_false a, decide_eq_false a2, decide_eq_false a3, decide_eq_true ?_, IntWalk.i64_in _ (by omega)⟩
            refine Int.not_le.1 fun h => ha ⟨by omega, by omega, by omega⟩
    clear ha hr
    rcases hq with q1 | ⟨q1, q2⟩ | ⟨q1, q2, q3⟩ | ⟨q1, q2, q3, q4, q5⟩
    all_goals
      go_enter Try.func8, Try.ntmps8
      go_wp2
      go_ret2
      exact ParA.no HN.out (Below.refl _ _)
end Go.Proofs.Ytcmdggdionghcaa
namespace Go.Proofs.Ytcmdggdionghcaa
open Go.RowKit Mx

set_option maxHeartbeats 1000000 in
theorem sameRows_any (A : Option Addr) (n C : Nat) (L : Nat → Nat) (M : Mat) (G : Nat → Prop) (A' : Option Addr) (C' : Nat) (M' : Mat) (G' : Nat → Prop) (w : World) (hm : n ≤ maxLen) (h : RdM w A n L M G) (h' : RdM w A' n L M' G') (he : ∀ i, i < n → ∀ j, j < L i → M i j = M' i j) :
    Calls Try.prog 12 #[.slice A n C, .slice A' n C'] w fun e w' => e = .returned (.bool true) ∧ Below w.heap.size w w' := by
  unfold maxLen at hm
  have H := Lib.hid h
  have H' := Lib.hid h'
  have HE := Lib.hid he
  clear h h' he
  go_enter Try.func12, Try.ntmps12
  go_wp2
  go_loopw [5] (fun vi wr => ∃ i : Nat, i ≤ n ∧ vi = .int .i64 (i : Int) ∧ Hid (Below w.heap.size w wr)) (fun vi _ => n - (intOf vi).toNat)
  case atStart => exact ⟨0, by omega, rfl, Lib.hid (Below.refl _ _)⟩
  case round =>
    obtain ⟨i, hi, rfl, HB⟩ := hrel
    by_cases hlt : i < n
    · obtain ⟨b0, off0, Ai, Ci, rfl, _, d1, hr1⟩ := (H.out.old HB.out).row hlt
      obtain ⟨b1, off1, Aj, Cj, rfl, _, d2, hr2⟩ := (H'.out.old HB.out).row hlt
      have s1 := fun q => str_runD hr1 Ci q
      have s2 := fun q => str_runD hr2 Cj q
      rw [← strOf_congr (HE.out i hlt)] at s2
      clear hr1 hr2
      obtain ⟨s, hs⟩ : ∃ s, s = strOf (L i) (M i) := ⟨_, rfl⟩
      rw [← hs] at s1 s2
      clear hs
      go_wp2
      go_quiet (fail)
      clear s1 s2 d1 d2
      go_wp2
      go_roundw
      case rel => exact ⟨i + 1, by omega, by go_num, Lib.hid ⟨HB.out.os, HB.out.tape, HB.out.output, HB.out.size, HB.out.block⟩⟩
      case measure => simp [intOf]; omega
    · go_wp2
      go_ret
      exact ⟨rfl, HB.out⟩
end Go.Proofs.Ytcmdggdionghcaa
namespace Go.Proofs.Ytcmdggdionghcaa
open Go.RowKit Mx Go.ChangeShapes Go.WideShapes
open Pt (Tx)

section
variable {H : Type} {enc : TypeId × Value → H} {w : World} {base fuel : Nat} {held : Bool} {a : Option Addr} {len cap : Nat} {x : DataW H × List MemPlace}
/-- bytes, as a list -/
theorem open_rdL (h : DataW.trod enc Try.prog w base (fun _ => true) held fuel 40 (Value.slice a len cap).cells.toList = some x) :
    cap ≤ maxLen ∧ len ≤ cap ∧ (a = none → len = 0 ∧ cap = 0) ∧ ∃ l : Tx, l.length = len ∧ RdL w a l (fun _ => True) := by
  rcases open_ints Try.underlying40 Try.underlying5 (by kernel_rfl) h with ⟨hcs, _⟩ | ⟨y, l, c, zs, hcs, _, hl, hm, hz, _, hcell, hwz⟩
  · simp [Value.cells] at hcs
    obtain ⟨rfl, rfl, rfl⟩ := hcs
    exact ⟨by decide, Nat.le_refl _, fun _ => ⟨rfl, rfl⟩, [], rfl, RdL.empty _ _ _⟩
  · simp [Value.cells] at hcs
    obtain ⟨rfl, rfl, rfl⟩ := hcs
    have hz' : zs.length = cap := by simpa using hz
    refine ⟨hm, hl, (fun h => by cases h), (List.range len).map fun i => UInt8.ofNat (zs.getD i 0).toNat, by simp, fun h0 => ?_⟩
    simp at h0
    obtain ⟨b, off, spot⟩ := y
    have hs : spot = none := by simpa [Addr.add] using World.cell?_spot (hcell 0 (by omega))
    subst hs
    refine ⟨b, off, rfl, trivial, fun j hj => ?_⟩
    have hj' : j < len := by simpa using hj
    have hc := hcell j (by omega)
    rw [addr_add] at hc
    have hw := fi_feOf (getD_wf hwz (c := j) (by omega))
    rw [hc]
    have hr : 0 ≤ zs.getD j 0 ∧ zs.getD j 0 < 256 := by have h1 := fi_lo (feOf (zs.getD j 0)); have h2 := fi_hi (feOf (zs.getD j 0)); rw [hw] at h1 h2; exact ⟨h1, h2⟩
    simp only [List.getElem_map, List.getElem_range, UInt8.toNat_ofNat']
    rw [Nat.mod_eq_of_lt (show (zs.getD j 0).toNat < 2 ^ 8 by have := hr.2; have := hr.1; omega)]
    congr 2
    have := hr.1
    omega
end
end Go.Proofs.Ytcmdggdionghcaa
namespace Go.Proofs.Ytcmdggdionghcaa
open Go.RowKit Mx Go.ChangeShapes Go.WideShapes Go.Joins
open Pt (Tx)

theorem cellsInt8 : Try.prog.cellsOf 3 = 1 := by kernel_rfl
theorem cellsRow8 : Try.prog.cellsOf 40 = 1 := by kernel_rfl
section
variable {H : Type} {enc : TypeId × Value → H} {w : World} {base fuel : Nat} {held : Bool} {x : DataW H × List MemPlace}
theorem open_row8 {cs : List Value} (h : DataW.trod enc Try.prog w base (fun _ => true) held fuel 40 cs = some x) :
    ∃ (a : Option Addr) (cap : Nat) (t : Tx), cs = [.slice a t.length cap] ∧ t.length ≤ cap ∧ (a = none → t.length = 0 ∧ cap = 0) ∧ RdL w a t (fun _ => True) := by
  have key : ∃ a len cap, cs = [Value.slice a len cap] := by
    rcases open_ints Try.underlying40 Try.underlying5 (by kernel_rfl) h with ⟨hcs, _⟩ | ⟨y, l, c, zs, hcs, _⟩
    · exact ⟨_, _, _, hcs⟩
    · exact ⟨_, _, _, hcs⟩
  obtain ⟨a, len, cap, rfl⟩ := key
  have h' : DataW.trod enc Try.prog w base (fun _ => true) held fuel 40 (Value.slice a len cap).cells.toList = some x := h
  obtain ⟨_, h2, h3, t, rfl, h4⟩ := open_rdL h'
  exact ⟨a, cap, t, rfl, h2, h3, h4⟩
end
end Go.Proofs.Ytcmdggdionghcaa
namespace Go.Proofs.Ytcmdggdionghcaa
open Go.RowKit Mx Go.ChangeShapes Go.WideShapes Go.Joins
open Pt (Tx)

theorem cellsTape : Try.prog.cellsOf 39 = 4 := by kernel_rfl
section
variable {H : Type} {enc : TypeId × Value → H} {w : World} {base fuel : Nat} {held : Bool} {x : DataW H × List MemPlace}
theorem open_blocks {cs : List Value} (h : DataW.trod enc Try.prog w base (fun _ => true) held fuel 34 cs = some x) :
    ∃ (a : Option Addr) (cap : Nat) (bs : List Tx), cs = [.slice a bs.length cap] ∧ bs.length ≤ maxLen ∧ RdB w a bs (fun _ => True) := by
  rcases Go.Deep.open_slice Try.underlying34 h with ⟨hcs, _⟩ | ⟨y, l, c, m, n, D, Pl, hcs, hb, hl, hm, hmm, _, hi⟩
  · exact ⟨none, 0, [], hcs, by decide, RdB.empty _ _ _⟩
  · have hm' : m = c := by simpa using hmm
    have key : ∀ i, ∃ t : Tx, i < l → ∃ A' C', w.cell? (y.add i) = some (.slice A' t.length C') ∧ t.length ≤ C' ∧ (A' = none → t.length = 0 ∧ C' = 0) ∧ RdL w A' t (fun _ => True) := by
      intro i
      by_cases hil : i < l
      · obtain ⟨cs', h1, h2⟩ := hi i (by omega)
        rw [cellsRow8, Nat.mul_one] at h1
        obtain ⟨_, _, h4⟩ := World.cells?_some h1
        obtain ⟨A', C', t, rfl, g1, g2, g3⟩ := open_row8 h2
        refine ⟨t, fun _ => ⟨A', C', ?_, g1, g2, g3⟩⟩
        have := h4 0 (by omega)
        rw [Go.Deep.add_add] at this
        simpa using this
      · exact ⟨[], fun h => absurd h hil⟩
    refine ⟨some y, c, (List.range l).map fun i => (key i).choose, by simpa using hcs, by simp; omega, fun h0 => ?_⟩
    have h0' : 0 < l := by simpa using h0
    obtain ⟨b, off, spot⟩ := y
    obtain ⟨A0, C0, k0, _⟩ := (key 0).choose_spec h0'
    have hs : spot = none := by simpa [Addr.add] using World.cell?_spot k0
    subst hs
    refine ⟨b, off, rfl, trivial, fun i hil => ?_⟩
    have hil' : i < l := by simpa using hil
    obtain ⟨A', C', c1, c2, c3, c4⟩ := (key i).choose_spec hil'
    refine ⟨A', C', ?_, ?_, ?_, ?_⟩
    · have c1' := (congrArg w.cell? (addr_add b off i).symm).trans c1
      simpa using c1'
    · simpa using c2
    · simpa using c3
    · simpa using c4
/-- a tape, by value -/
theorem open_tape {r : Reach} {b0 : Nat} {v : Value} {d : DataW H} {p : List MemPlace} (hv : Value.okWide Try.prog w r b0 39 v) (h : DataW.Trod enc Try.prog w base (fun _ => true) held 39 v d p) :
    ∃ (lab cap : Int) (a : Option Addr) (C : Nat) (bs : List Tx) (lost : Bool), v = .agg #[.int .i64 lab, .int .i64 cap, .slice a bs.length C, .bool lost] ∧ bs.length ≤ maxLen ∧ RdB w a bs (fun _ => True) := by
  obtain ⟨v0, v1, v2, v3, y0, y1, y2, y3, n, rfl, _, _, h0, h1, h2, h3⟩ := open_agg4 Try.underlying39 (by kernel_rfl) cellsTape hv h
  obtain ⟨lab, e0, -, -⟩ := DataW.trod_int (cs := [v0]) Try.underlying3 h0
  obtain ⟨cap, e1, -, -⟩ := DataW.trod_int (cs := [v1]) Try.underlying3 h1
  obtain ⟨a, C, bs, e2, k1, k2⟩ := open_blocks (cs := [v2]) h2
  obtain ⟨lost, e3, -⟩ := DataW.trod_bool (cs := [v3]) Try.underlying4 h3
  simp only [List.cons.injEq, and_true] at e0 e1 e2 e3
  exact ⟨lab, cap, a, C, bs, lost, by rw [e0, e1, e2, e3], k1, k2⟩
end
end Go.Proofs.Ytcmdggdionghcaa
namespace Go.Proofs.Ytcmdggdionghcaa
open Go.RowKit Mx Go.ChangeShapes Go.WideShapes Go.Joins
open Pt (Tx)

section
variable {H : Type} {enc : TypeId × Value → H} {w : World} {base fuel : Nat} {held : Bool} {x : DataW H × List MemPlace}
theorem tape_cells {n : Nat} {cs : List Value} {y : DataW H × List MemPlace} (h : DataW.trod enc Try.prog w base (fun _ => true) held n 39 cs = some y) :
    ∃ (lab cap : Int) (a : Option Addr) (C : Nat) (bs : List Tx) (lost : Bool), cs = [.int .i64 lab, .int .i64 cap, .slice a bs.length C, .bool lost] ∧ bs.length ≤ maxLen ∧ RdB w a bs (fun _ => True) := by
  obtain ⟨xs, m, _, _, h3, hxl, hf⟩ := DataW.trod_struct Try.underlying39 h
  rw [cellsTape] at h3
  have h0 := hf 0 _ rfl
  have h1 := hf 1 _ rfl
  have h2 := hf 2 _ rfl
  have h4 := hf 3 _ rfl
  match cs, h3 with
  | [v0, v1, v2, v3], _ =>
    match xs, hxl with
    | [x0, x1, x2, x3], _ =>
      have g0 : DataW.trod enc Try.prog w base (fun _ => true) held m 3 (([v0, v1, v2, v3].drop 0).take (Try.prog.cellsOf 3)) = some x0 := h0
      have g1 : DataW.trod enc Try.prog w base (fun _ => true) held m 3 (([v0, v1, v2, v3].drop 1).take (Try.prog.cellsOf 3)) = some x1 := h1
      have g2 : DataW.trod enc Try.prog w base (fun _ => true) held m 34 (([v0, v1, v2, v3].drop 2).take (Try.prog.cellsOf 34)) = some x2 := h2
      have g3 : DataW.trod enc Try.prog w base (fun _ => true) held m 4 (([v0, v1, v2, v3].drop 3).take (Try.prog.cellsOf 4)) = some x3 := h4
      rw [cellsInt8] at g0 g1
      rw [show Try.prog.cellsOf 34 = 1 by kernel_rfl] at g2
      rw [show Try.prog.cellsOf 4 = 1 by kernel_rfl] at g3
      obtain ⟨p, e0, -, -⟩ := DataW.trod_int (cs := [v0]) Try.underlying3 g0
      obtain ⟨q, e1, -, -⟩ := DataW.trod_int (cs := [v1]) Try.underlying3 g1
      obtain ⟨a, C, bs, e2, k1, k2⟩ := open_blocks (cs := [v2]) g2
      obtain ⟨lost, e3, -⟩ := DataW.trod_bool (cs := [v3]) Try.underlying4 g3
      refine ⟨p, q, a, C, bs, lost, ?_, k1, k2⟩
      simp only [List.cons.injEq, and_true] at e0 e1 e2 e3
      rw [e0, e1, e2, e3]
theorem open_tapes {T : TypeId} (hT : Try.prog.underlying T = some (.slice 39)) {a : Option Addr} {len cap : Nat} (h : DataW.trod enc Try.prog w base (fun _ => true) held fuel T (Value.slice a len cap).cells.toList = some x) :
    len ≤ cap ∧ cap ≤ maxLen ∧ ∃ ts : List St.T, ts.length = len ∧ (∀ t ∈ ts, t.blocks.length ≤ maxLen) ∧ RdT w a ts (fun _ => True) := by
  rcases Go.Deep.open_slice hT h with ⟨hcs, _⟩ | ⟨y, l, c, m, n, D, Pl, hcs, hb, hl, hm, hmm, _, hi⟩
  · simp [Value.cells] at hcs
    obtain ⟨rfl, rfl, rfl⟩ := hcs
    exact ⟨Nat.le_refl _, by decide, [], rfl, (fun t ht => by cases ht), RdT.empty _ _ _⟩
  · simp [Value.cells] at hcs
    obtain ⟨rfl, rfl, rfl⟩ := hcs
    have hm' : m = cap := by simpa using hmm
    have key : ∀ i, ∃ t : St.T, i < len → ∃ A' C', w.cell? (y.add (i * 4)) = some (.int .i64 t.label) ∧ w.cell? (y.add (i * 4 + 1)) = some (.int .i64 t.cap) ∧ w.cell? (y.add (i * 4 + 2)) = some (.slice A' t.blocks.length C') ∧ w.cell? (y.add (i * 4 + 3)) = some (.bool t.lost) ∧ t.blocks.length ≤ maxLen ∧ RdB w A' t.blocks (fun _ => True) := by
      intro i
      by_cases hil : i < len
      · obtain ⟨cs', h1, h2⟩ := hi i (by omega)
        rw [cellsTape] at h1
        obtain ⟨_, _, h4⟩ := World.cells?_some h1
        obtain ⟨p, q, A', C', bs, lost, rfl, g1, g2⟩ := tape_cells h2
        refine ⟨⟨p, q, bs, lost⟩, fun _ => ⟨A', C', ?_, ?_, ?_, ?_, g1, g2⟩⟩
        · have := h4 0 (by omega); rw [Go.Deep.add_add] at this; simpa using this
        · have := h4 1 (by omega); rw [Go.Deep.add_add] at this; simpa using this
        · have := h4 2 (by omega); rw [Go.Deep.add_add] at this; simpa using this
        · have := h4 3 (by omega); rw [Go.Deep.add_add] at this; simpa using this
      · exact ⟨⟨0, 0, [], false⟩, fun h => absurd h hil⟩
    refine ⟨by omega, by omega, (List.range len).map fun i => (key i).choose, by simp, fun t ht => ?_, fun h0 => ?_⟩
    · simp only [List.mem_map, List.mem_range] at ht
      obtain ⟨i, hi', rfl⟩ := ht
      obtain ⟨A', C', _, _, _, _, c5, _⟩ := (key i).choose_spec hi'
      exact c5
    · have h0' : 0 < len := by simpa using h0
      obtain ⟨b, off, spot⟩ := y
      obtain ⟨A0, C0, k0, _⟩ := (key 0).choose_spec h0'
      have hs : spot = none := by simpa [Addr.add] using World.cell?_spot k0
      subst hs
      refine ⟨b, off, rfl, trivial, fun i hil => ?_⟩
      have hil' : i < len := by simpa using hil
      obtain ⟨A', C', c1, c2, c3, c4, c5, c6⟩ := (key i).choose_spec hil'
      refine ⟨A', C', ?_, ?_, ?_, ?_, ?_⟩
      · have := (congrArg w.cell? (addr_add b off (i * 4)).symm).trans c1; simpa using this
      · have := (congrArg w.cell? (addr_add b off (i * 4 + 1)).symm).trans c2; simpa [Nat.add_assoc] using this
      · have := (congrArg w.cell? (addr_add b off (i * 4 + 2)).symm).trans c3; simpa [Nat.add_assoc] using this
      · have := (congrArg w.cell? (addr_add b off (i * 4 + 3)).symm).trans c4; simpa [Nat.add_assoc] using this
      · simpa using c6
end
end Go.Proofs.Ytcmdggdionghcaa
