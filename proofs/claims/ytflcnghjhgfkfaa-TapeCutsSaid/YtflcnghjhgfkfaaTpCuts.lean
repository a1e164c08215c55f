/- Of what is cut all ahead of it stays, and of the next block its beginning. -/
import Derived.Test.YtflcnghjhgfkfaaTpCut
import Derived.Test.YtflcnghjhgfkfaaTpAlive
namespace Go.Proofs.Ytflcnghjhgfkfaa
open Go.RowKit
open Pt (Tx)

/-- block i of the law -/
def cb (i : Nat) : Tx := UInt8.ofNat i :: List.replicate 59 0
def cbs (k : Nat) : List Tx := (List.range k).map cb
theorem cb_len (i : Nat) : (cb i).length = 60 := by simp [cb]
theorem cbs_len (k : Nat) : (cbs k).length = k := by simp [cbs]
theorem cbs_succ (k : Nat) : cbs k ++ [cb k] = cbs (k + 1) := by simp [cbs, List.range_succ]
theorem cbs_at {k i : Nat} (h : i < (cbs k).length) : (cbs k)[i] = cb i := by simp [cbs]
theorem cbs_take {B N : Nat} (h : N ≤ B) : (cbs B).take N = cbs N := by
  unfold cbs
  rw [← List.map_take, List.take_range, Nat.min_eq_left h]
/-- what is left -/
theorem cut_all {B N : Nat} (M : Int) (h : B ≤ N) : Tp.cut (cbs B) (N : Int) M = cbs B := by
  unfold Tp.cut
  rw [Int.toNat_natCast, List.getElem?_eq_none (by rw [cbs_len]; exact h)]
theorem cut_zero {B N : Nat} (h : N < B) : Tp.cut (cbs B) (N : Int) 0 = cbs N := by
  unfold Tp.cut
  rw [Int.toNat_natCast, List.getElem?_eq_getElem (by rw [cbs_len]; exact h), cbs_take (Nat.le_of_lt h)]
  simp
theorem cut_more {B N M : Nat} (h : N < B) (hM : 0 < M) : Tp.cut (cbs B) (N : Int) (M : Int) = cbs N ++ [(cb N).take M] := by
  unfold Tp.cut
  rw [Int.toNat_natCast, List.getElem?_eq_getElem (by rw [cbs_len]; exact h), cbs_take (Nat.le_of_lt h), cbs_at]
  simp only [Int.toNat_natCast, show (0 : Int) < (M : Int) by omega, if_true]
theorem cb_head (i : Nat) (hi : i < 256) (w : World) (b : Nat) (M : Nat) (hM : 0 < M) (h : RdL w (some ⟨b, 0, none⟩) ((cb i).take M) (· = b)) : w.cell? ⟨b, 0, none⟩ = some (.int .u8 (i : Int)) := by
  have hl : 0 < ((cb i).take M).length := by rw [List.length_take, cb_len]; omega
  obtain ⟨b', off, e, _, hc⟩ := h.at_ hl
  cases e
  rw [Nat.add_zero] at hc
  rw [hc, List.getElem_take]
  simp [cb]; omega
def mk60 : Array Value := madeCells #[.int .u8 0] 60
theorem mk60_size : mk60.size = 60 := by unfold mk60; rw [size_madeCells]
theorem mk60_at {j : Nat} (h : j < 60) : mk60[j]? = some (.int .u8 0) := by simp [mk60, madeCells, h, Nat.mod_one]
theorem cb_succ (k i : Nat) (h : i + 1 < (cb k).length) : (cb k)[i + 1] = 0 := by simp only [cb, List.getElem_cons_succ, List.getElem_replicate]
theorem cb_head0 (i : Nat) (hi : i < 256) (w : World) (b : Nat) (h : RdL w (some ⟨b, 0, none⟩) (cb i) (· = b)) : w.cell? ⟨b, 0, none⟩ = some (.int .u8 (i : Int)) :=
  cb_head i hi w b 60 (by decide) (by rw [List.take_of_length_le (by rw [cb_len]; exact Nat.le_refl _)]; exact h)
theorem cb_row (wr : World) (k : Nat) (hk : k < 256) : RdL (wr.alloc (.cells (mk60.setIfInBounds 0 (.int .u8 (k : Int))) 5)) (some ⟨wr.heap.size, 0, none⟩) (cb k) (· = wr.heap.size) :=
  RdL.of_cells (Go.Deep.blk_alloc_new _ _) fun j hj => by
    have hj' : j < 60 := by have := hj; rwa [cb_len] at this
    rw [Nat.zero_add, Array.getElem?_setIfInBounds, mk60_size]
    by_cases e : 0 = j
    · subst e
      rw [if_pos rfl, if_pos (by decide)]
      simp [cb]; omega
    · rw [if_neg e, mk60_at hj']
      obtain ⟨i, rfl⟩ : ∃ i, j = i + 1 := ⟨j - 1, by omega⟩
      rw [cb_succ]
      rfl

set_option maxRecDepth 100000 in
set_option maxHeartbeats 2000000 in
theorem cuts_all (B N M : Nat) (w : World) (hB : B ≤ 40) (hN : N ≤ 40) (hM : M ≤ 100) (h : B ≤ N) :
    Calls Try.prog 4 #[.int .i64 (B : Int), .int .i64 (N : Int), .int .i64 ((M : Int))] w (AnsB true w) := by
  have d1 : decide ((B : Int) < 0) = false := decide_eq_false (by omega)
  have d2 : decide (40 < (B : Int)) = false := decide_eq_false (by omega)
  have d3 : decide ((N : Int) < 0) = false := decide_eq_false (by omega)
  have d4 : decide (40 < (N : Int)) = false := decide_eq_false (by omega)
  have d5 : decide ((M : Int) < 0) = false := decide_eq_false (by omega)
  have d6 : decide (100 < (M : Int)) = false := decide_eq_false (by omega)
  have d7 : decide (N < B) = false := decide_eq_false (by omega)
  have hmk : ∀ w : World, (Instr.makeSlice 35 (.int .i64 60) (.int .i64 60)).run Try.prog w = .ok (.slice (some ⟨w.heap.size, 0, none⟩) 60 60) (w.alloc (.cells mk60 5)) := run_make_row' (P := Try.prog) 35 5 (.int .u8 0) 1 Try.underlying35 infoB rfl .i64 .i64 60 (by decide) (by decide)
  have m0 : mk60[0]? = some (.int .u8 0) := mk60_at (by decide)
  go_enter Try.func4, Try.ntmps4
  go_wp2_with (first
    | (go_at_call 7; refine (alive8_true w).mono ?_; rintro e w0 ⟨rfl, hb0⟩; have HB0 := Lib.hid hb0; clear hb0)
    | (go_at_call 9; refine (load_ok 5 40 none [] 0 (fun _ => True) w0 (RdB.empty _ _ _) (by decide)).mono ?_; rintro e w1 ⟨g, rfl, hg, hD, hb⟩; have HD := Lib.hid hD; have HB := Lib.hid hb; clear hD hb)
    | (go_at_call 12; refine (num_any _ _).mono ?_; rintro e w' ⟨rfl, rfl⟩))
  have HBA : Hid (Below w.heap.size w w1) := Lib.hid (HB0.out.trans (HB.out.mono HB0.out.size))
  have hgw : w.heap.size ≤ g := Nat.le_trans HB0.out.size hg
  clear HB0 HB hg
  go_loopw [10] (fun i wr => ∃ k : Nat, k ≤ B ∧ i = .int .i64 (k : Int) ∧ Hid (Dr wr g 5 40 (cbs k)) ∧ Hid (Below w.heap.size w wr)) (fun i _ => B - (intOf i).toNat)
  case atStart => exact ⟨0, by omega, rfl, HD, HBA⟩
  case round =>
    clear HD HBA
    obtain ⟨k, hk, rfl, HD, HW⟩ := hrel
    have hgr : g < wr.heap.size := HD.out.lt
    by_cases hlt : k < B
    · have hB1 : Below wr.heap.size wr (wr.alloc (.cells (mk60.setIfInBounds 0 (.int .u8 (k : Int))) 5)) := (Below.refl _ _).alloc (Nat.le_refl _) _
      have HD1 := Lib.hid (HD.out.old hB1)
      have HW1 := Lib.hid (HW.out.trans (hB1.mono HW.out.size))
      have HR := Lib.hid (cb_row wr k (by omega))
      have HF : Hid (((cbs k).length : Int) < 40) := Lib.hid (by rw [cbs_len]; omega)
      clear hB1
      go_wp2_with (first
        | (go_at_call 13; refine (append_ok g 5 40 (cbs k) _ (cb k) 60 60 _ _ HD1.out (cb_len k) (by decide) (by decide) HF.out HR.out).mono ?_; rintro e w2 ⟨rfl, hD2, hK⟩; rw [cbs_succ] at hD2; have HD2 := Lib.hid hD2; have HK := Lib.hid hK; clear hD2 hK))
      go_roundw
      case rel => exact ⟨k + 1, by omega, by go_num, HD2, Lib.hid (HW1.out.trans (HK.out.below (by have := HW1.out.size; omega) (fun j hj => by rw [hj]; exact hgw)))⟩
      case measure => simp [intOf]; omega
    · obtain rfl : B = k := by omega
      go_wp2_with (first
        | (go_at_call 16; refine (cut_any g 5 40 (cbs B) wr HD.out (N : Int) ((M : Int))).mono ?_; rintro e w2 ⟨rfl, hD2, hK⟩; rw [cut_all _ h] at hD2; have HD2 := Lib.hid hD2; have HK := Lib.hid hK; clear hD2 hK)
        | (go_at_call 21; refine (dlen_as g 5 40 _ _ HD2.out (B) (by simp [cbs_len])).mono ?_; rintro e w3 ⟨rfl, rfl⟩))
      have HW2 : Hid (Below w.heap.size w w2) := Lib.hid (HW.out.trans (HK.out.below (by have := HW.out.size; omega) (fun j hj => by rw [hj]; exact hgw)))
      clear HD HW
      go_loopw [13] (fun i wq => ∃ k : Nat, k ≤ B ∧ i = .int .i64 (k : Int) ∧ Hid (Dr wq g 5 40 (cbs B)) ∧ Hid (Below w.heap.size w wq)) (fun i _ => B - (intOf i).toNat)
      case atStart => exact ⟨0, by omega, rfl, HD2, HW2⟩
      case round =>
        clear HD2 HW2
        obtain ⟨k, hk, rfl, HD3, HW3⟩ := hrel
        by_cases hlt : k < B
        · have b1 : (k == N) = false := by simp; omega
          have b2 : ((k : Int) == (N : Int)) = false := by simp; omega
          go_wp2_with (first
            | (go_at_call 15; refine (read_as g 5 40 _ _ HD3.out k (by rw [cbs_len]; exact hlt) (cb k) (60) (cbs_at _) (cb_len k)).mono ?_; rintro e w4 ⟨b, C, rfl, hC, hb4, hR, hbw⟩; have hcell := cb_head0 k (by omega) _ _ hR; have HB4 := Lib.hid hbw; clear hR hbw)
            | (go_at_call 12; refine (num_any _ _).mono ?_; rintro e w' ⟨rfl, rfl⟩))
          go_roundw
          case rel => exact ⟨k + 1, by omega, by go_num, Lib.hid (HD3.out.old HB4.out), Lib.hid (HW3.out.trans (HB4.out.mono HW3.out.size))⟩
          case measure => simp [intOf]; omega
        · go_wp2
          go_ret
          exact ⟨rfl, HW3.out⟩

set_option maxRecDepth 100000 in
set_option maxHeartbeats 2000000 in
theorem cuts_zero (B N : Nat) (w : World) (hB : B ≤ 40) (hN : N ≤ 40) (h : N < B) :
    Calls Try.prog 4 #[.int .i64 (B : Int), .int .i64 (N : Int), .int .i64 ((0 : Int))] w (AnsB true w) := by
  have d1 : decide ((B : Int) < 0) = false := decide_eq_false (by omega)
  have d2 : decide (40 < (B : Int)) = false := decide_eq_false (by omega)
  have d3 : decide ((N : Int) < 0) = false := decide_eq_false (by omega)
  have d4 : decide (40 < (N : Int)) = false := decide_eq_false (by omega)
  have d7 : decide (N < B) = true := decide_eq_true (by omega)
  have hmk : ∀ w : World, (Instr.makeSlice 35 (.int .i64 60) (.int .i64 60)).run Try.prog w = .ok (.slice (some ⟨w.heap.size, 0, none⟩) 60 60) (w.alloc (.cells mk60 5)) := run_make_row' (P := Try.prog) 35 5 (.int .u8 0) 1 Try.underlying35 infoB rfl .i64 .i64 60 (by decide) (by decide)
  have m0 : mk60[0]? = some (.int .u8 0) := mk60_at (by decide)
  go_enter Try.func4, Try.ntmps4
  go_wp2_with (first
    | (go_at_call 7; refine (alive8_true w).mono ?_; rintro e w0 ⟨rfl, hb0⟩; have HB0 := Lib.hid hb0; clear hb0)
    | (go_at_call 9; refine (load_ok 5 40 none [] 0 (fun _ => True) w0 (RdB.empty _ _ _) (by decide)).mono ?_; rintro e w1 ⟨g, rfl, hg, hD, hb⟩; have HD := Lib.hid hD; have HB := Lib.hid hb; clear hD hb)
    | (go_at_call 12; refine (num_any _ _).mono ?_; rintro e w' ⟨rfl, rfl⟩))
  have HBA : Hid (Below w.heap.size w w1) := Lib.hid (HB0.out.trans (HB.out.mono HB0.out.size))
  have hgw : w.heap.size ≤ g := Nat.le_trans HB0.out.size hg
  clear HB0 HB hg
  go_loopw [10] (fun i wr => ∃ k : Nat, k ≤ B ∧ i = .int .i64 (k : Int) ∧ Hid (Dr wr g 5 40 (cbs k)) ∧ Hid (Below w.heap.size w wr)) (fun i _ => B - (intOf i).toNat)
  case atStart => exact ⟨0, by omega, rfl, HD, HBA⟩
  case round =>
    clear HD HBA
    obtain ⟨k, hk, rfl, HD, HW⟩ := hrel
    have hgr : g < wr.heap.size := HD.out.lt
    by_cases hlt : k < B
    · have hB1 : Below wr.heap.size wr (wr.alloc (.cells (mk60.setIfInBounds 0 (.int .u8 (k : Int))) 5)) := (Below.refl _ _).alloc (Nat.le_refl _) _
      have HD1 := Lib.hid (HD.out.old hB1)
      have HW1 := Lib.hid (HW.out.trans (hB1.mono HW.out.size))
      have HR := Lib.hid (cb_row wr k (by omega))
      have HF : Hid (((cbs k).length : Int) < 40) := Lib.hid (by rw [cbs_len]; omega)
      clear hB1
      go_wp2_with (first
        | (go_at_call 13; refine (append_ok g 5 40 (cbs k) _ (cb k) 60 60 _ _ HD1.out (cb_len k) (by decide) (by decide) HF.out HR.out).mono ?_; rintro e w2 ⟨rfl, hD2, hK⟩; rw [cbs_succ] at hD2; have HD2 := Lib.hid hD2; have HK := Lib.hid hK; clear hD2 hK))
      go_roundw
      case rel => exact ⟨k + 1, by omega, by go_num, HD2, Lib.hid (HW1.out.trans (HK.out.below (by have := HW1.out.size; omega) (fun j hj => by rw [hj]; exact hgw)))⟩
      case measure => simp [intOf]; omega
    · obtain rfl : B = k := by omega
      go_wp2_with (first
        | (go_at_call 16; refine (cut_any g 5 40 (cbs B) wr HD.out (N : Int) ((0 : Int))).mono ?_; rintro e w2 ⟨rfl, hD2, hK⟩; rw [cut_zero h] at hD2; have HD2 := Lib.hid hD2; have HK := Lib.hid hK; clear hD2 hK)
        | (go_at_call 21; refine (dlen_as g 5 40 _ _ HD2.out (N) (by simp [cbs_len])).mono ?_; rintro e w3 ⟨rfl, rfl⟩))
      have HW2 : Hid (Below w.heap.size w w2) := Lib.hid (HW.out.trans (HK.out.below (by have := HW.out.size; omega) (fun j hj => by rw [hj]; exact hgw)))
      clear HD HW
      go_loopw [13] (fun i wq => ∃ k : Nat, k ≤ N ∧ i = .int .i64 (k : Int) ∧ Hid (Dr wq g 5 40 (cbs N)) ∧ Hid (Below w.heap.size w wq)) (fun i _ => N - (intOf i).toNat)
      case atStart => exact ⟨0, by omega, rfl, HD2, HW2⟩
      case round =>
        clear HD2 HW2
        obtain ⟨k, hk, rfl, HD3, HW3⟩ := hrel
        by_cases hlt : k < N
        · have b1 : (k == N) = false := by simp; omega
          have b2 : ((k : Int) == (N : Int)) = false := by simp; omega
          go_wp2_with (first
            | (go_at_call 15; refine (read_as g 5 40 _ _ HD3.out k (by rw [cbs_len]; exact hlt) (cb k) (60) (cbs_at _) (cb_len k)).mono ?_; rintro e w4 ⟨b, C, rfl, hC, hb4, hR, hbw⟩; have hcell := cb_head0 k (by omega) _ _ hR; have HB4 := Lib.hid hbw; clear hR hbw)
            | (go_at_call 12; refine (num_any _ _).mono ?_; rintro e w' ⟨rfl, rfl⟩))
          go_roundw
          case rel => exact ⟨k + 1, by omega, by go_num, Lib.hid (HD3.out.old HB4.out), Lib.hid (HW3.out.trans (HB4.out.mono HW3.out.size))⟩
          case measure => simp [intOf]; omega
        · go_wp2
          go_ret
          exact ⟨rfl, HW3.out⟩
end Go.Proofs.Ytflcnghjhgfkfaa
