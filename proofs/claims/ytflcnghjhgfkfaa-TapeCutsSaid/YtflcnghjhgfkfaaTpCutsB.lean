/- TapeCuts, where of the next block a beginning stays. -/
import Derived.Test.YtflcnghjhgfkfaaTpCuts
namespace Go.Proofs.Ytflcnghjhgfkfaa
open Go.RowKit
open Pt (Tx)

theorem more_at {N k : Nat} {s : Tx} (hk : k < N) (h : k < (cbs N ++ [s]).length) : (cbs N ++ [s])[k] = cb k := by
  rw [List.getElem_append_left (by rw [cbs_len]; exact hk), cbs_at]
theorem more_last {N k : Nat} {s : Tx} (hk : k = N) (h : k < (cbs N ++ [s]).length) : (cbs N ++ [s])[k] = s := by
  rw [List.getElem_append_right (by rw [cbs_len]; omega)]
  simp
theorem more_len (N : Nat) (s : Tx) : (cbs N ++ [s]).length = N + 1 := by rw [List.length_append, cbs_len]; rfl

set_option maxRecDepth 100000 in
set_option maxHeartbeats 2000000 in
theorem cuts_more (B N M : Nat) (w : World) (hB : B ≤ 40) (hN : N ≤ 40) (hM : M ≤ 100) (h : N < B) (h0 : 0 < M) :
    Calls Try.prog 4 #[.int .i64 (B : Int), .int .i64 (N : Int), .int .i64 ((M : Int))] w (AnsB true w) := by
  have d1 : decide ((B : Int) < 0) = false := decide_eq_false (by omega)
  have d2 : decide (40 < (B : Int)) = false := decide_eq_false (by omega)
  have d3 : decide ((N : Int) < 0) = false := decide_eq_false (by omega)
  have d4 : decide (40 < (N : Int)) = false := decide_eq_false (by omega)
  have d5 : decide ((M : Int) < 0) = false := decide_eq_false (by omega)
  have d6 : decide (100 < (M : Int)) = false := decide_eq_false (by omega)
  have d7 : decide (N < B) = true := decide_eq_true (by omega)
  have d8 : decide (0 < (M : Int)) = true := decide_eq_true (by omega)
  have d9 : decide (0 < M) = true := decide_eq_true h0
  have hmk : ∀ w : World, (Instr.makeSlice 35 (.int .i64 60) (.int .i64 60)).run Try.prog w = .ok (.slice (some ⟨w.heap.size, 0, none⟩) 60 60) (w.alloc (.cells mk60 5)) := run_make_row' (P := Try.prog) 35 5 (.int .u8 0) 1 Try.underlying35 infoB rfl .i64 .i64 60 (by decide) (by decide)
  have m0 : mk60[0]? = some (.int .u8 0) := mk60_at (by decide)
  go_enter Try.func4, Try.ntmps4
  go_wp2_with (first
    | (go_at_call 7; refine (alive8_true w).mono ?_; rintro e w0 ⟨rfl, hb0⟩; have HB0 := Lib.hid hb0; clear hb0)
    | (go_at_call 9; refine (load_ok 5 40 none [] 0 (fun _ => True) w0 (RdB.empty _ _ _) (by decide)).mono ?_; rintro e w1 ⟨g, rfl, hg, hD, hb⟩; have HD := Lib.hid hD; have HB := Lib.hid hb; clear hD hb)
    | (go_at_call 12; refine (num_any _ _).mono ?_; rintro e w' ⟨rfl, rfl⟩))
  have HBA : Hid (Below w.heap.size w w1) := Lib.hid (HB0.out.trans (HB.out.mono HB0.out.size))
  have hgw : w.heap.size ≤ g := Nat.le_trans HB0.out.size hg
  clear HB0 HB hg
  go_loopw [10] (fun i wr => ∃ k : Nat, k ≤ B ∧ i = .int .i64 (k : Int) ∧ Hid (Dr wr g 5 40 (cbs k)) ∧ Hid (Below w.heap.size w wr)) (fun i _ => B - (intOf i).toNat)
  case atStart => exact ⟨0, by omega, rfl, HD, HBA⟩
  case round =>
    clear HD HBA
    obtain ⟨k, hk, rfl, HD, HW⟩ := hrel
    have hgr : g < wr.heap.size := HD.out.lt
    by_cases hlt : k < B
    · have hB1 : Below wr.heap.size wr (wr.alloc (.cells (mk60.setIfInBounds 0 (.int .u8 (k : Int))) 5)) := (Below.refl _ _).alloc (Nat.le_refl _) _
      have HD1 := Lib.hid (HD.out.old hB1)
      have HW1 := Lib.hid (HW.out.trans (hB1.mono HW.out.size))
      have HR := Lib.hid (cb_row wr k (by omega))
      have HF : Hid (((cbs k).length : Int) < 40) := Lib.hid (by rw [cbs_len]; omega)
      clear hB1
      go_wp2_with (first
        | (go_at_call 13; refine (append_ok g 5 40 (cbs k) _ (cb k) 60 60 _ _ HD1.out (cb_len k) (by decide) (by decide) HF.out HR.out).mono ?_; rintro e w2 ⟨rfl, hD2, hK⟩; rw [cbs_succ] at hD2; have HD2 := Lib.hid hD2; have HK := Lib.hid hK; clear hD2 hK))
      go_roundw
      case rel => exact ⟨k + 1, by omega, by go_num, HD2, Lib.hid (HW1.out.trans (HK.out.below (by have := HW1.out.size; omega) (fun j hj => by rw [hj]; exact hgw)))⟩
      case measure => simp [intOf]; omega
    · obtain rfl : B = k := by omega
      go_wp2_with (first
        | (go_at_call 16; refine (cut_any g 5 40 (cbs B) wr HD.out (N : Int) ((M : Int))).mono ?_; rintro e w2 ⟨rfl, hD2, hK⟩; rw [cut_more h h0] at hD2; have HD2 := Lib.hid hD2; have HK := Lib.hid hK; clear hD2 hK)
        | (go_at_call 21; refine (dlen_as g 5 40 _ _ HD2.out (N + 1) (by simp [cbs_len])).mono ?_; rintro e w3 ⟨rfl, rfl⟩))
      have HW2 : Hid (Below w.heap.size w w2) := Lib.hid (HW.out.trans (HK.out.below (by have := HW.out.size; omega) (fun j hj => by rw [hj]; exact hgw)))
      clear HD HW
      go_loopw [13] (fun i wq => ∃ k : Nat, k ≤ N + 1 ∧ i = .int .i64 (k : Int) ∧ Hid (Dr wq g 5 40 (cbs N ++ [(cb N).take M])) ∧ Hid (Below w.heap.size w wq)) (fun i _ => N + 1 - (intOf i).toNat)
      case atStart => exact ⟨0, by omega, rfl, HD2, HW2⟩
      case round =>
        clear HD2 HW2
        obtain ⟨k, hk, rfl, HD3, HW3⟩ := hrel
        by_cases hlt : k < N + 1
        · by_cases hkN : k < N
          · have b1 : (k == N) = false := by simp; omega
            have b2 : ((k : Int) == (N : Int)) = false := by simp; omega
            go_wp2_with (first
              | (go_at_call 15; refine (read_as g 5 40 _ _ HD3.out k (by rw [more_len]; exact hlt) (cb k) (60) (more_at hkN _) (cb_len k)).mono ?_; rintro e w4 ⟨b, C, rfl, hC, hb4, hR, hbw⟩; have hcell := cb_head0 k (by omega) _ _ hR; have HB4 := Lib.hid hbw; clear hR hbw)
              | (go_at_call 12; refine (num_any _ _).mono ?_; rintro e w' ⟨rfl, rfl⟩))
            go_roundw
            case rel => exact ⟨k + 1, by omega, by go_num, Lib.hid (HD3.out.old HB4.out), Lib.hid (HW3.out.trans (HB4.out.mono HW3.out.size))⟩
            case measure => simp [intOf]; omega
          · have hkE : k = N := by omega
            obtain rfl : N = k := hkE.symm
            have hkE : N = N := rfl
            by_cases hM6 : M < 60
            · have b3 : decide ((M : Int) < 60) = true := decide_eq_true (by omega)
              go_wp2_with (first
                | (go_at_call 15; refine (read_as g 5 40 _ _ HD3.out N (by rw [more_len]; exact hlt) ((cb N).take M) (M) (more_last hkE _) (by rw [List.length_take, cb_len]; omega)).mono ?_; rintro e w4 ⟨b, C, rfl, hC, hb4, hR, hbw⟩; have hcell := cb_head N (by omega) _ _ M h0 hR; have HB4 := Lib.hid hbw; clear hR hbw)
                | (go_at_call 12; refine (num_any _ _).mono ?_; rintro e w' ⟨rfl, rfl⟩))
              go_roundw
              case rel => exact ⟨N + 1, by omega, by go_num, Lib.hid (HD3.out.old HB4.out), Lib.hid (HW3.out.trans (HB4.out.mono HW3.out.size))⟩
              case measure => simp [intOf]
            · have b3 : decide ((M : Int) < 60) = false := decide_eq_false (by omega)
              go_wp2_with (first
                | (go_at_call 15; refine (read_as g 5 40 _ _ HD3.out N (by rw [more_len]; exact hlt) ((cb N).take M) (60) (more_last hkE _) (by rw [List.length_take, cb_len]; omega)).mono ?_; rintro e w4 ⟨b, C, rfl, hC, hb4, hR, hbw⟩; have hcell := cb_head N (by omega) _ _ M h0 hR; have HB4 := Lib.hid hbw; clear hR hbw)
                | (go_at_call 12; refine (num_any _ _).mono ?_; rintro e w' ⟨rfl, rfl⟩))
              go_roundw
              case rel => exact ⟨N + 1, by omega, by go_num, Lib.hid (HD3.out.old HB4.out), Lib.hid (HW3.out.trans (HB4.out.mono HW3.out.size))⟩
              case measure => simp [intOf]
        · go_wp2
          go_ret
          exact ⟨rfl, HW3.out⟩
end Go.Proofs.Ytflcnghjhgfkfaa
