/- What CodeLong answers. -/
import Derived.Test.YtnblebgoajhaiaaCdLaws
namespace Go.Proofs.Ytnblebgoajhaiaa
open Go.RowKit
open Pt (Tx)

theorem zeros_rd (w : World) (k : Nat) : RdL (w.alloc (.cells (madeCells #[.int .u8 0] k) 5)) (some ⟨w.heap.size, 0, none⟩) (List.replicate k 0) (· = w.heap.size) :=
  RdL.of_cells (Go.Deep.blk_alloc_new _ _) fun j hj => by
    rw [Nat.zero_add]
    simp at hj
    simp [madeCells, hj, Nat.mod_one]
theorem zeros_str (w : World) (k : Nat) : (convert 29 9 (.slice (some ⟨w.heap.size, 0, none⟩) k k)).run Try.prog (w.alloc (.cells (madeCells #[.int .u8 0] k) 5)) = .ok (.string (tx (List.replicate k 0))) (w.alloc (.cells (madeCells #[.int .u8 0] k) 5)) := by
  have h := (zeros_rd w k).str k
  rw [List.length_replicate] at h
  exact h
set_option maxRecDepth 100000 in
theorem codeLong_main (k : Nat) (w : World) (h1 : k ≤ 600) :
    Calls Try.prog 5 #[.int .i64 (k : Int)] w fun e w' => e = .returned (.bool true) ∧ Below w.heap.size w w' := by
  obtain ⟨t, ht⟩ : ∃ t : Tx, t = List.replicate k 0 := ⟨_, rfl⟩
  have htl : t.length = k := by rw [ht, List.length_replicate]
  have q1 : decide ((k : Int) < 0) = false := decide_eq_false (by omega)
  have q2 : decide (600 < (k : Int)) = false := decide_eq_false (by omega)
  have q3 : decide (600 < k) = false := decide_eq_false (by omega)
  have hmk := run_make_row' (P := Try.prog) 29 5 (.int .u8 0) 1 Try.underlying29 infoB rfl .i64 .i64 k (by omega) (by omega)
  have HTL := Lib.hid htl
  have HT := Lib.hid ht
  clear ht htl
  go_enter Try.func5, Try.ntmps5
  go_wp2_with fail
  refine (alive6_true w).mono ?_
  rintro e w0 ⟨rfl, hB0⟩
  have HB0 := Lib.hid hB0
  have hz0 : w.heap.size ≤ w0.heap.size := hB0.size
  clear hB0
  obtain ⟨wa, hwa⟩ : ∃ wa, wa = w0.alloc (.cells #[.pointer none, .int .i64 0] 27) := ⟨_, rfl⟩
  have hcv := zeros_str wa k
  rw [← HT.out] at hcv
  have HW0 : Hid (Wr wa w0.heap.size []) := Lib.hid (by rw [hwa]; exact Wr.new w0)
  have HBa : Hid (Below w.heap.size w wa) := Lib.hid (by rw [hwa]; exact HB0.out.alloc hz0 _)
  have HWA := Lib.hid hwa
  rw [hwa, show (w0.alloc (.cells #[.pointer none, .int .i64 0] 27)).heap.size = w0.heap.size + 1 by simp] at hcv
  have HC : Hid (Wr ((w0.alloc (.cells #[.pointer none, .int .i64 0] 27)).alloc (.cells (madeCells #[.int .u8 0] k) 5)) w0.heap.size []) := Lib.hid (by rw [← hwa]; exact HW0.out.old ((Below.refl _ _).alloc (Nat.le_refl _) _))
  have HBc : Hid (Below w.heap.size w ((w0.alloc (.cells #[.pointer none, .int .i64 0] 27)).alloc (.cells (madeCells #[.int .u8 0] k) 5))) := Lib.hid (by rw [← hwa]; exact HBa.out.alloc HBa.out.size _)
  clear hwa HBa HW0
  go_wp2_with fail
  refine (wtext_any _ [] t _ HC.out (by simp) (by rw [HTL.out]; unfold maxLen; omega)).mono ?_
  rintro e w1 ⟨rfl, hW1, hK1⟩
  have HW1 : Hid (Wr w1 w0.heap.size (Cd.tb t)) := Lib.hid hW1
  have HB1 := Lib.hid (HBc.out.trans (lo_g hK1 HBc.out.size hz0))
  clear hW1 hK1 hcv
  have htb : (Cd.tb t).length ≤ 256 := by rw [Cd.tb_len]; omega
  go_wp2_with fail
  refine (wint_any _ (Cd.tb t) 9 w1 HW1.out (by omega)).mono ?_
  rintro e w2 ⟨rfl, hW2, hK2⟩
  have HW2 := Lib.hid hW2
  have HB2 := Lib.hid (HB1.out.trans (lo_g hK2 HB1.out.size hz0))
  clear hW2 hK2
  have hlen : (Cd.tb t ++ Cd.be4 9).length ≤ 260 := by rw [List.length_append, Cd.be4_len]; omega
  have HL := Lib.hid hlen
  clear hlen
  go_wp2_with fail
  refine (bytes_any _ (Cd.tb t ++ Cd.be4 9) _ HW2.out (Nat.le_trans HL.out (by omega))).mono ?_
  rintro e w3 ⟨b3, rfl, -, hr3, hB3⟩
  have HR3 := Lib.hid hr3
  have HB3 := Lib.hid (HB2.out.trans (hB3.mono HB2.out.size))
  clear hr3 hB3
  obtain ⟨L, hL⟩ : ∃ L, L = (Cd.tb t ++ Cd.be4 9).length := ⟨_, rfl⟩
  rw [← hL]
  have HLL := Lib.hid hL
  clear hL
  go_wp2_with fail
  rw [HLL.out]
  refine (newReader_any _ (Cd.tb t ++ Cd.be4 9) _ _ w3 (fun h => by cases h) HR3.out (Nat.le_trans HL.out (by omega))).mono ?_
  rintro e w4 ⟨g, rfl, hg, hr4, hB4⟩
  have HR4 := Lib.hid hr4
  have hg4 : w.heap.size ≤ g := Nat.le_trans HB3.out.size hg
  have HB4 := Lib.hid (HB3.out.trans (hB4.mono HB3.out.size))
  clear hr4 hB4 hg
  have HN0 : Hid (Cd.num (Cd.tk 4 (Cd.be4 9, false)) = 9) := Lib.hid (by decide)
  have HN1 : Hid (Cd.af 4 (Cd.be4 9, false) = ([], false)) := Lib.hid (by decide)
  have HN2 : Hid (Cd.num (Cd.tk 4 ([], false)) = 0) := Lib.hid (by decide)
  have HN3 : Hid (Cd.af 4 ([], false) = ([], true)) := Lib.hid (by decide)
  have HT5 : Hid ((t.take 255).length = min k 255) := Lib.hid (by rw [List.length_take, HTL.out]; omega)
  have es := tx_size (t.take 255)
  rw [HT5.out] at es
  by_cases hk : 255 < k
  all_goals
    first
    | (have p1 : decide (255 < k) = true := decide_eq_true hk
       have p2 : decide (255 < (k : Int)) = true := decide_eq_true (by omega)
       rw [show min k 255 = 255 by omega] at es)
    | (have p1 : decide (255 < k) = false := decide_eq_false hk
       have p2 : decide (255 < (k : Int)) = false := decide_eq_false (by omega)
       rw [show min k 255 = k by omega] at es)
    go_wp2_with fail
    refine (rtext_any g (Cd.tb t ++ Cd.be4 9, false) _ w4 HR4.out (Nat.le_trans HL.out (by omega))).mono ?_
    rw [Cd.txt_tb, Cd.afT_tb]
    rintro e w5 ⟨rfl, hr5, hK5⟩
    have HR5 := Lib.hid hr5
    have HB5 := Lib.hid (HB4.out.trans (lo_g hK5 HB4.out.size hg4))
    clear hr5 hK5
    go_wp2_with fail
    refine (rint_any g (Cd.be4 9, false) _ w5 HR5.out (by show (Cd.be4 9).length ≤ _; rw [Cd.be4_len]; omega)).mono ?_
    rw [HN0.out, HN1.out]
    rintro e w6 ⟨rfl, hr6, hK6⟩
    have HR6 := Lib.hid hr6
    have HB6 := Lib.hid (HB5.out.trans (lo_g hK6 HB5.out.size hg4))
    clear hr6 hK6
    go_wp2_with fail
    refine (left_any g ([], false) _ w6 HR6.out).mono ?_
    rintro e _ ⟨rfl, rfl⟩
    go_wp2_with fail
    refine (bad_any g ([], false) _ w6 HR6.out).mono ?_
    rintro e _ ⟨rfl, rfl⟩
    go_wp2_with fail
    refine (rint_any g ([], false) _ w6 HR6.out (by simp)).mono ?_
    rw [HN2.out, HN3.out]
    rintro e w7 ⟨rfl, hr7, hK7⟩
    have HR7 := Lib.hid hr7
    have HB7 := Lib.hid (HB6.out.trans (lo_g hK7 HB6.out.size hg4))
    clear hr7 hK7
    go_wp2_with fail
    refine (bad_any g ([], true) _ w7 HR7.out).mono ?_
    rintro e _ ⟨rfl, rfl⟩
    go_wp2
    go_ret
    exact ⟨rfl, HB7.out⟩
theorem codeLong_any (n : Int) (w : World) :
    Calls Try.prog 5 #[.int .i64 n] w fun e w' => e = .returned (.bool true) ∧ Below w.heap.size w w' := by
  by_cases h0 : n < 0
  · have q1 : decide (n < 0) = true := decide_eq_true h0
    go_enter Try.func5, Try.ntmps5
    go_wp2_with (go_at_call 6; refine (alive6_true w).mono ?_; rintro e w1 ⟨rfl, hB⟩; have HB := Lib.hid hB; clear hB)
    go_ret
    exact ⟨rfl, HB.out⟩
  by_cases h1 : 600 < n
  · have q1 : decide (n < 0) = false := decide_eq_false h0
    have q2 : decide (600 < n) = true := decide_eq_true h1
    go_enter Try.func5, Try.ntmps5
    go_wp2_with (go_at_call 6; refine (alive6_true w).mono ?_; rintro e w1 ⟨rfl, hB⟩; have HB := Lib.hid hB; clear hB)
    go_ret
    exact ⟨rfl, HB.out⟩
  obtain ⟨k, rfl⟩ := Int.eq_ofNat_of_zero_le (show 0 ≤ n by omega)
  exact codeLong_main k w (by omega)
end Go.Proofs.Ytnblebgoajhaiaa
