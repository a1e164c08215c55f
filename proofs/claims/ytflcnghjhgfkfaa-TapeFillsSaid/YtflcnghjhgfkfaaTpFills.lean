/- How many blocks fit. -/
import Derived.Test.YtflcnghjhgfkfaaTpAlive
namespace Go.Proofs.Ytflcnghjhgfkfaa
open Go.RowKit
open Pt (Tx)

set_option maxRecDepth 100000 in
theorem fills_main (M N : Nat) (w : World) (hM : M ≤ 64) (hN : N ≤ 10) :
    Calls Try.prog 5 #[.int .i64 (M : Int), .int .i64 (N : Int)] w (AnsB true w) := by
  have d1 : decide ((M : Int) < 0) = false := decide_eq_false (by omega)
  have d2 : decide (64 < (M : Int)) = false := decide_eq_false (by omega)
  have d3 : decide ((N : Int) < 0) = false := decide_eq_false (by omega)
  have d4 : decide (10 < (N : Int)) = false := decide_eq_false (by omega)
  have hT : Tp.right 1 (M : Int) [] = true := by simp [Tp.right]; omega
  go_enter Try.func5, Try.ntmps5
  go_wp2_with (first
    | (go_at_call 7; refine (alive8_true w).mono ?_; rintro e w0 ⟨rfl, hb0⟩; have HB0 := Lib.hid hb0; clear hb0)
    | (go_at_call 9; refine (load_ok 1 (M : Int) none [] 0 (fun _ => True) w0 (RdB.empty _ _ _) hT).mono ?_; rintro e w1 ⟨g, rfl, hg, hD, hb⟩; have HD := Lib.hid hD; have HB := Lib.hid hb; have hlt := hD.lt; clear hD hb)
    | (go_at_call 12; refine (num_any _ _).mono ?_; rintro e w' ⟨rfl, rfl⟩))
  have HBA : Hid (Below w.heap.size w w1) := Lib.hid (HB0.out.trans (HB.out.mono HB0.out.size))
  have hgw : w.heap.size ≤ g := Nat.le_trans HB0.out.size hg
  clear hT HB0 HB hg hlt
  go_loopw [8] (fun i wr => ∃ (k : Nat) (bs : List Tx), k ≤ M + N ∧ i = .int .i64 (k : Int) ∧ Hid (bs.length = min k M) ∧ Hid (Dr wr g 1 (M : Int) bs) ∧ Hid (Below w.heap.size w wr)) (fun i _ => M + N - (intOf i).toNat)
  case atStart => exact ⟨0, [], by omega, rfl, Lib.hid (by simp), HD, HBA⟩
  case round =>
    clear HD
    obtain ⟨k, bs, hk, rfl, HL, HD, HW⟩ := hrel
    have hgr : g < wr.heap.size := HD.out.lt
    have hB1 : Below wr.heap.size wr (wr.alloc (.cells #[.int .u8 (k : Int)] 5)) := (Below.refl _ _).alloc (Nat.le_refl _) _
    have HD1 := Lib.hid (HD.out.old hB1)
    have HW1 := Lib.hid (HW.out.trans (hB1.mono HW.out.size))
    clear hB1
    by_cases hlt : k < M + N
    · by_cases hkM : k < M
      · have d5 : decide (k < M) = true := decide_eq_true hkM
        have HR : Hid (RdL (wr.alloc (.cells #[.int .u8 (k : Int)] 5)) (some ⟨wr.heap.size, 0, none⟩) [UInt8.ofNat k] (· = wr.heap.size)) := Lib.hid (by
          have := lit1 wr (UInt8.ofNat k) (0, 0)
          rw [UInt8.toNat_ofNat_of_lt' (by show k < 256; omega)] at this
          exact this)
        have HF : Hid ((bs.length : Int) < (M : Int)) := Lib.hid (by rw [HL.out]; omega)
        go_wp2_with (first
          | (go_at_call 13; refine (append_ok g 1 (M : Int) bs _ [UInt8.ofNat k] 1 1 _ _ HD1.out rfl (by decide) (by decide) HF.out HR.out).mono ?_; rintro e w2 ⟨rfl, hD2, hK⟩; have HD2 := Lib.hid hD2; have HK := Lib.hid hK; clear hD2 hK)
          | (go_at_call 12; refine (num_any _ _).mono ?_; rintro e w' ⟨rfl, rfl⟩))
        go_roundw
        case rel => exact ⟨k + 1, _, by omega, by go_num, Lib.hid (by rw [List.length_append, HL.out]; simp; omega), HD2, Lib.hid (HW1.out.trans (HK.out.below (by have := HW1.out.size; omega) (fun j hj => by rw [hj]; exact hgw)))⟩
        case measure => simp [intOf]; omega
      · have d5 : decide (k < M) = false := decide_eq_false hkM
        have d6 : decide (M ≤ k) = true := decide_eq_true (by omega)
        have HF : Hid ((M : Int) ≤ (bs.length : Int)) := Lib.hid (by rw [HL.out]; omega)
        go_wp2_with (first
          | (go_at_call 13; refine (append_full g 1 (M : Int) bs _ 1 1 _ HD1.out (by decide) (by decide) HF.out).mono ?_; rintro e w2 ⟨rfl, nq, rfl⟩)
          | (go_at_call 12; refine (num_any _ _).mono ?_; rintro e w' ⟨rfl, rfl⟩))
        go_roundw
        case rel => exact ⟨k + 1, bs, by omega, by go_num, Lib.hid (by rw [HL.out]; omega), Lib.hid (HD1.out.of_block rfl), Lib.hid (below_drewN HW1.out _)⟩
        case measure => simp [intOf]; omega
    · have hl : bs.length = M := by rw [HL.out]; omega
      have HF : Hid ((M : Int) < 0 ∨ (bs.length : Int) ≤ (M : Int)) := Lib.hid (.inr (by omega))
      have HX := Lib.hid hl
      subst hl
      go_wp2_with (first
        | (go_at_call 15; refine (read_no g 1 _ bs _ HD.out _ HF.out).mono ?_; rintro e w2 ⟨rfl, rfl⟩)
        | (go_at_call 21; refine (dlen_any g 1 _ bs _ HD.out).mono ?_; rintro e w2 ⟨rfl, rfl⟩)
        | (go_at_call 22; refine (room_any g 1 _ bs _ HD.out).mono ?_; rintro e w2 ⟨rfl, nq, rfl⟩)
        | (go_at_call 12; refine (num_any _ _).mono ?_; rintro e w' ⟨rfl, rfl⟩))
      go_ret
      exact ⟨rfl, below_drewN HW.out _⟩
end Go.Proofs.Ytflcnghjhgfkfaa
