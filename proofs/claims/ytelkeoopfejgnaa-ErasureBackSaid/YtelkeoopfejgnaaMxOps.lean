/- What the inner functions of package matrix do to rows that a call owns. -/
import Derived.Test.YtelkeoopfejgnaaGfFe
namespace Go.Proofs.Ytelkeoopfejgnaa
open Go.RowKit Mx

set_option maxHeartbeats 1000000 in
theorem addTimes_any (g m cap : Nat) (f : Nat → Fe) (a : Fe) (A : Option Addr) (C : Nat) (r : Nat → Fe) (w : World) (hm : m ≤ 255) (hf : RowAt w g m f) (hr : Rd w A m r (· ≠ g)) :
    Calls Try.prog 43 #[.slice (some ⟨g, 0, none⟩) m cap, .int .u8 (fi a), .slice A m C] w fun e w' => e = .returned (.tuple #[]) ∧ RowAt w' g m (fun j => f j + a * r j) ∧ Kp (· = g) w w' := by
  by_cases ha : a = 0
  · have hb : (fi a == 0) = true := by rw [ha]; rfl
    have HF := Lib.hid (hf.congr (f' := fun j => f j + a * r j) (fun j _ => by rw [ha, zero_mul, add_zero]))
    clear hf hr ha
    go_enter Try.func43, Try.ntmps43
    go_wp2
    go_returns
    exact ⟨rfl, HF.out, Kp.refl _ _⟩
  · have hb : (fi a == 0) = false := beq_eq_false_iff_ne.2 fun h => ha (fi_eq_zero.1 h)
    have HF := Lib.hid hf
    have HR := Lib.hid hr
    clear hf hr ha
    go_enter Try.func43, Try.ntmps43
    go_wp2
    go_loopw [12] (fun vi wr => ∃ k : Nat, k ≤ m ∧ vi = .int .i64 (k : Int) ∧ Hid (RowAt wr g m (fun j => if j < k then f j + a * r j else f j)) ∧ Hid (Kp (· = g) w wr)) (fun vi _ => m - (intOf vi).toNat)
    case atStart => exact ⟨0, by omega, rfl, Lib.hid (HF.out.congr fun j _ => (if_neg (by omega)).symm), Lib.hid (Kp.refl _ _)⟩
    case round =>
      obtain ⟨k, hk, rfl, H1, HK⟩ := hrel
      by_cases hlt : k < m
      · obtain ⟨b, off, rfl, hbg, hcr⟩ := (HR.out.kp HK.out (fun b hb => hb)).at hlt
        have hcs := H1.out.cell hlt
        rw [if_neg (by omega)] at hcs
        have hfs := H1.out.frozen k
        go_wp2
        refine wp_region_still_tail 11 (by kernel_rfl) (by kernel_rfl) ?_
        simp only [List.take_succ_cons, List.take_zero, List.drop_succ_cons, List.drop_zero]
        repeat (first | still_step | still_call (mul_st _ _ _) | still_call (add_st _ _ _))
        refine wpStill_nil ?_
        change wpList _ _ _ _ _ wr.drew
        go_wp2
        go_roundw
        case rel => exact ⟨k + 1, by omega, by go_num, Lib.hid ((H1.out.set k (f k + a * r k)).congr fun j _ => upTo_step (h := fun j => f j + a * r j)), Lib.hid ((HK.out.drew).setCell (p := ⟨g, k, none⟩) rfl _)⟩
        case measure => simp [intOf]; omega
      · go_wp2
        go_returns
        exact ⟨rfl, H1.out.congr fun j hj => if_pos (by omega), HK.out⟩
set_option maxHeartbeats 1000000 in
theorem multiply_any (g m cap : Nat) (f : Nat → Fe) (a : Fe) (w : World) (hm : m ≤ 255) (hf : RowAt w g m f) :
    Calls Try.prog 42 #[.slice (some ⟨g, 0, none⟩) m cap, .int .u8 (fi a)] w fun e w' => e = .returned (.tuple #[]) ∧ RowAt w' g m (fun j => a * f j) ∧ Kp (· = g) w w' := by
  have HF := Lib.hid hf
  clear hf
  go_enter Try.func42, Try.ntmps42
  go_wp2
  go_loopw [8] (fun vi wr => ∃ k : Nat, k ≤ m ∧ vi = .int .i64 (k : Int) ∧ Hid (RowAt wr g m (fun j => if j < k then a * f j else f j)) ∧ Hid (Kp (· = g) w wr)) (fun vi _ => m - (intOf vi).toNat)
  case atStart => exact ⟨0, by omega, rfl, Lib.hid (HF.out.congr fun j _ => (if_neg (by omega)).symm), Lib.hid (Kp.refl _ _)⟩
  case round =>
    obtain ⟨k, hk, rfl, H1, HK⟩ := hrel
    by_cases hlt : k < m
    · have hcs := H1.out.cell hlt
      rw [if_neg (by omega)] at hcs
      have hfs := H1.out.frozen k
      go_wp2_with (go_at_call 32; refine (mul_fe _ _ _).mono ?_; rintro e w' ⟨rfl, rfl⟩)
      go_roundw
      case rel => exact ⟨k + 1, by omega, by go_num, Lib.hid ((H1.out.set k (a * f k)).congr fun j _ => upTo_step (h := fun j => a * f j)), Lib.hid ((HK.out).setCell (p := ⟨g, k, none⟩) rfl _)⟩
      case measure => simp [intOf]; omega
    · go_wp2
      go_returns
      exact ⟨rfl, H1.out.congr fun j hj => if_pos (by omega), HK.out⟩
set_option maxHeartbeats 1000000 in
theorem pivot_any (A : Option Addr) (n C m i : Nat) (M : Mat) (G : Nat → Prop) (w : World) (hn : n ≤ 255) (hi : i < n) (him : i < m) (h : RdM w A n (fun _ => m) M G) :
    Calls Try.prog 40 #[.slice A n C, .int .i64 (i : Int)] w fun e w' => e = .returned (.int .i64 (pivI n M i)) ∧ w = w' := by
  have H := Lib.hid h
  clear h
  go_enter Try.func40, Try.ntmps40
  go_wp2
  go_loop [5] (fun vk => ∃ k : Nat, i ≤ k ∧ k ≤ n ∧ vk = .int .i64 (k : Int) ∧ Hid (pvt M i (n - i) i = pvt M i (n - k) k)) (fun vk => n - (intOf vk).toNat)
  case atStart => exact ⟨i, by omega, by omega, rfl, Lib.hid rfl⟩
  case round =>
    obtain ⟨k, hk0, hk, rfl, HP⟩ := hrel
    by_cases hlt : k < n
    · obtain ⟨b, off, Ak, Ck, rfl, _, hck, hrk⟩ := H.out.row hlt
      obtain ⟨b', off', rfl, _, hcell⟩ := hrk.at him
      clear hrk
      by_cases he : M k i = 0
      · have hb : (fi (M k i) != 0) = false := by rw [he]; rfl
        have HN : Hid (pvt M i (n - i) i = pvt M i (n - (k + 1)) (k + 1)) := Lib.hid (HP.out.trans (by rw [show n - k = (n - (k + 1)) + 1 by omega]; exact pvt_next he))
        clear he HP
        go_wp2
        go_round
        case rel => exact ⟨k + 1, by omega, by omega, by go_num, HN⟩
        case measure => simp [intOf]; omega
      · have hb : (fi (M k i) != 0) = true := by rw [bne_iff_ne]; exact fun h => he (fi_eq_zero.1 h)
        have HN := Lib.hid (pivI_at hlt (HP.out.trans (by rw [show n - k = (n - (k + 1)) + 1 by omega]; exact pvt_here he)))
        clear he HP
        go_wp2
        go_ret
        exact ⟨ret_i64 HN.out.symm, rfl⟩
    · have HN : Hid (pivI n M i = -1) := Lib.hid (pivI_none (by rw [HP.out, show n - k = 0 by omega]; simp only [pvt]; omega))
      clear HP
      go_wp2
      go_ret
      exact ⟨ret_i64 HN.out.symm, rfl⟩
theorem pivot_is (A : Option Addr) (n C m i : Nat) (M : Mat) (G : Nat → Prop) (w : World) (z : Int) (hn : n ≤ 255) (hi : i < n) (him : i < m) (h : RdM w A n (fun _ => m) M G) (hz : pivI n M i = z) :
    Calls Try.prog 40 #[.slice A n C, .int .i64 (i : Int)] w fun e w' => e = .returned (.int .i64 z) ∧ w = w' := hz ▸ pivot_any A n C m i M G w hn hi him h
end Go.Proofs.Ytelkeoopfejgnaa
