/- What package castagnoli's functions answer; nothing is written. -/
import Derived.Test.YtmonhgefmapiaaaCrInts
namespace Go.Proofs.Ytmonhgefmapiaaa
open Go.RowKit Mx

theorem timesX_any (x : Cr.W) (w : World) :
    Calls Try.prog 41 #[.int .u32 (bi x)] w fun e w' => e = .returned (.int .u32 (bi (Cr.step x))) ∧ w = w' := by
  have h0 := bi_lo x
  have h1 := bi_hi x
  by_cases hb : x.getLsbD 0 = true
  · have H := Lib.hid (step_odd hb)
    have ht : (bits BinOp.and IntKind.u32 (bi x) 1 == 0) = false := by rw [bit_of, if_pos hb]; rfl
    clear hb
    go_enter Try.func41, Try.ntmps41
    go_wp2
    go_ret
    exact ⟨ret_u32 H.out, rfl⟩
  · have H := Lib.hid (step_even (by simpa using hb))
    have ht : (bits BinOp.and IntKind.u32 (bi x) 1 == 0) = true := by rw [bit_of, if_neg hb]; rfl
    clear hb
    go_enter Try.func41, Try.ntmps41
    go_wp2
    go_ret
    exact ⟨ret_u32 H.out, rfl⟩
theorem timesX8_any (x : Cr.W) (w : World) :
    Calls Try.prog 40 #[.int .u32 (bi x)] w fun e w' => e = .returned (.int .u32 (bi (Cr.steps 8 x))) ∧ w = w' := by
  go_enter Try.func40, Try.ntmps40
  go_wp2
  go_loop [0, 3] (fun vx vi => ∃ k : Nat, k ≤ 8 ∧ vi = .int .i64 (k : Int) ∧ vx = .int .u32 (bi (Cr.steps k x))) (fun _ vi => 8 - (intOf vi).toNat)
  case atStart => exact ⟨0, by omega, rfl, rfl⟩
  case round =>
    obtain ⟨k, hk, rfl, rfl⟩ := hrel
    by_cases hlt : k < 8
    · go_wp2_with fail
      refine (timesX_any _ _).mono ?_
      rintro e w' ⟨rfl, rfl⟩
      go_wp2
      go_round
      case rel => exact ⟨k + 1, by omega, by go_num, val_u32 (by rw [Cr.steps_out])⟩
      case measure => simp [intOf]; omega
    · have HK : Hid (Cr.steps k x = Cr.steps 8 x) := by rw [show k = 8 by omega]; exact Lib.hid rfl
      go_wp2
      go_ret
      exact ⟨ret_u32 (by rw [HK.out]), rfl⟩
set_option maxHeartbeats 1000000 in
theorem more_any (s : Cr.W) (A : Option Addr) (n C : Nat) (r : Nat → Fe) (G : Nat → Prop) (w : World) (hn : n ≤ maxLen) (hr : Rd w A n r G) :
    Calls Try.prog 38 #[.int .u32 (bi s), .slice A n C] w fun e w' => e = .returned (.int .u32 (bi (crc s r n))) ∧ w = w' := by
  unfold maxLen at hn
  have hs := not_max s
  have HR := Lib.hid hr
  clear hr
  go_enter Try.func38, Try.ntmps38
  go_wp2
  clear hs
  go_loop [5, 12] (fun vx vi => ∃ k : Nat, k ≤ n ∧ vi = .int .i64 (k : Int) ∧ vx = .int .u32 (bi (Cr.ups (~~~s) (fun i => (r i).nat) k))) (fun _ vi => n - (intOf vi).toNat)
  case atStart => exact ⟨0, by omega, rfl, rfl⟩
  case round =>
    obtain ⟨k, hk, rfl, rfl⟩ := hrel
    by_cases hlt : k < n
    · obtain ⟨b, off, rfl, _, hc⟩ := HR.out.at hlt
      have r0 := fi_lo (r k)
      have r1 := fi_hi (r k)
      have hx := byte_bi (Cr.ups (~~~s) (fun i => (r i).nat) k) (r k)
      go_wp2_with fail
      refine (timesX8_any _ _).mono ?_
      rintro e w' ⟨rfl, rfl⟩
      clear hx
      go_wp2
      go_round
      case rel => exact ⟨k + 1, by omega, by go_num, rfl⟩
      case measure => simp [intOf]; omega
    · have HK : Hid (~~~(Cr.ups (~~~s) (fun i => (r i).nat) k) = crc s r n) := by rw [show k = n by omega]; exact Lib.hid rfl
      have hs := not_max (Cr.ups (~~~s) (fun i => (r i).nat) k)
      go_wp2
      go_ret
      exact ⟨ret_u32 (by rw [HK.out]), rfl⟩
theorem sum_any (A : Option Addr) (n C : Nat) (r : Nat → Fe) (G : Nat → Prop) (w : World) (hn : n ≤ maxLen) (hr : Rd w A n r G) :
    Calls Try.prog 31 #[.slice A n C] w fun e w' => e = .returned (.int .u32 (bi (crc 0#32 r n))) ∧ w = w' := by
  go_enter Try.func31, Try.ntmps31
  go_wp2_with fail
  refine (more_any 0#32 A n C r G _ hn hr).mono ?_
  rintro e w' ⟨rfl, rfl⟩
  go_wp2
  go_ret
  exact ⟨rfl, rfl⟩
end Go.Proofs.Ytmonhgefmapiaaa
