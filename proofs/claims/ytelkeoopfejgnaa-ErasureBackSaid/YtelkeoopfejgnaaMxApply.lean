/- What Apply of package matrix answers, whatever it is given. -/
import Derived.Test.YtelkeoopfejgnaaGfFe
import Derived.Test.YtelkeoopfejgnaaMxRight
namespace Go.Proofs.Ytelkeoopfejgnaa
open Go.RowKit Mx

set_option maxHeartbeats 2000000 in
theorem apply_own (A : Option Addr) (n C m : Nat) (M : Mat) (G : Nat → Prop) (A' : Option Addr) (C' : Nat) (v : Nat → Fe) (G' : Nat → Prop) (w : World) (hn0 : 0 < n) (hn : n ≤ 255) (hm0 : 0 < m) (hm : m ≤ 255)
    (h : RdM w A n (fun _ => m) M G) (h' : Rd w A' m v G') :
    Calls Try.prog 25 #[.slice A n C, .slice A' m C'] w (OwnV 0 n (mv m M v) w) := by
  have hR : rightB n (fun _ => m) = true := rightB_true.2 ⟨hn0, hn, hm0, hm, fun _ _ => rfl⟩
  obtain ⟨b0, off0, A0, C0, rfl, _, hc0, _⟩ := h.row hn0
  rw [Nat.add_zero] at hc0
  have H := Lib.hid h
  have H' := Lib.hid h'
  have HR := Lib.hid hR
  clear h h' hR
  have hmk := run_make_row' (P := Try.prog) 34 5 (.int .u8 0) 1 Try.underlying34 infoByte rfl .i64 .i64 n (by omega) (by omega)
  go_enter Try.func25, Try.ntmps25
  go_wp2_with fail
  refine (right_is _ n C _ M _ _ true (by unfold maxLen; omega) H.out HR.out).mono ?_
  rintro e w' ⟨rfl, rfl⟩
  go_wp2
  clear hmk HR
  go_loopw [28] (fun vi wr => ∃ i : Nat, i ≤ n ∧ vi = .int .i64 (i : Int) ∧ Hid (RowAt wr w.heap.size n (part (mv m M v) i 0)) ∧ Hid (Below w.heap.size w wr)) (fun vi _ => n - (intOf vi).toNat)
  case atStart => exact ⟨0, by omega, rfl, Lib.hid ((RowAt.made w n).congr fun j _ => by unfold part; rw [if_neg (by omega)]; split <;> rfl), Lib.hid ((Below.refl _ _).alloc (Nat.le_refl _) _)⟩
  case round =>
    obtain ⟨i, hi, rfl, HO, HB⟩ := hrel
    by_cases hlt : i < n
    · obtain ⟨b1, off1, Ai, Ci, e, _, hci, hri⟩ := (H.out.old HB.out).row hlt
      obtain ⟨rfl, rfl⟩ : b0 = b1 ∧ off0 = off1 := by simpa using e
      have HRI : Hid (Rd w Ai m (M i) (fun x => x < w.heap.size)) := by
        obtain ⟨b2, off2, Aj, Cj, e2, _, hcj, hrj⟩ := H.out.row hlt
        obtain ⟨rfl, rfl⟩ : b0 = b2 ∧ off0 = off2 := by simpa using e2
        have := (HB.out.cell (World.block_lt_of_cell? _ _ hcj)).trans hcj
        rw [hci] at this
        simp only [Option.some.injEq, Value.slice.injEq] at this
        obtain ⟨rfl, _, _⟩ := this
        intro hm'
        obtain ⟨b3, off3, e3, _, hc3⟩ := hrj hm'
        exact ⟨b3, off3, e3, World.block_lt_of_cell? _ _ (hc3 0 hm'), hc3⟩
      clear e hri
      go_wp2
      go_loopw [35] (fun vj wq => ∃ j : Nat, j ≤ m ∧ vj = .int .i64 (j : Int) ∧ Hid (RowAt wq w.heap.size n (part (mv m M v) i (sm j fun t => M i t * v t))) ∧ Hid (Below w.heap.size w wq)) (fun vj _ => m - (intOf vj).toNat)
      case atStart => exact ⟨0, by omega, rfl, HO, HB⟩
      case round =>
        obtain ⟨j, hj, rfl, HO2, HB2⟩ := hrel
        clear HO HB hci hc0
        by_cases hlt2 : j < m
        · obtain ⟨b2, off2, rfl, _, d1⟩ := (HRI.out.old HB2.out).at hlt2
          obtain ⟨b3, off3, rfl, _, d2⟩ := (H'.out.old HB2.out).at hlt2
          have d3 := HO2.out.cell hlt
          rw [part_at] at d3
          have f3 := HO2.out.frozen i
          go_wp2
          refine wp_region_still_tail 14 (by kernel_rfl) (by kernel_rfl) ?_
          simp only [List.take_succ_cons, List.take_zero, List.drop_succ_cons, List.drop_zero]
          repeat (first | still_step | still_call (mul_st _ _ _) | still_call (add_st _ _ _))
          refine wpStill_nil ?_
          change wpList _ _ _ _ _ wr.drew
          go_wp2
          go_roundw
          case rel => exact ⟨j + 1, by omega, by go_num, Lib.hid ((HO2.out.set i ((sm j fun t => M i t * v t) + M i j * v j)).congr fun x _ => part_set _ _ _ _ _), Lib.hid ((HB2.out.drew).setCell (p := ⟨w.heap.size, i, none⟩) (Nat.le_refl _) _)⟩
          case measure => simp [intOf]; omega
        · have HO3 : Hid (RowAt wr w.heap.size n (part (mv m M v) (i + 1) 0)) := by
            have hjm : j = m := by omega
            have hh := HO2.out
            rw [hjm] at hh
            exact Lib.hid (hh.congr fun x _ => part_next (mv m M v) i x)
          clear HO2
          go_wp2
          go_roundw
          case rel => exact ⟨i + 1, by omega, by go_num, HO3, HB2⟩
          case measure => simp [intOf]; omega
    · go_wp2
      go_ret2
      refine ⟨_, _, rfl, Nat.le_refl _, HO.out.congr fun x hx => ?_, HB.out⟩
      unfold part; rw [if_pos (by omega)]
theorem apply_main (A : Option Addr) (n C m : Nat) (M : Mat) (G : Nat → Prop) (A' : Option Addr) (C' : Nat) (v : Nat → Fe) (G' : Nat → Prop) (w : World) (hn0 : 0 < n) (hn : n ≤ 255) (hm0 : 0 < m) (hm : m ≤ 255)
    (h : RdM w A n (fun _ => m) M G) (h' : Rd w A' m v G') :
    Calls Try.prog 25 #[.slice A n C, .slice A' m C'] w (ResV 0 n (mv m M v) w) :=
  (apply_own A n C m M G A' C' v G' w hn0 hn hm0 hm h h').mono fun _ _ hh => hh.res
set_option maxHeartbeats 1000000 in
theorem apply_any (A : Option Addr) (n C : Nat) (L : Nat → Nat) (M : Mat) (G : Nat → Prop) (A' : Option Addr) (m C' : Nat) (v : Nat → Fe) (G' : Nat → Prop) (w : World) (hm : n ≤ maxLen) (h : RdM w A n L M G) (h' : Rd w A' m v G') :
    Calls Try.prog 25 #[.slice A n C, .slice A' m C'] w (ApplyAny n L M m v w) := by
  by_cases hr : rightB n L = true
  · obtain ⟨h1, h2, h3, h4, h5⟩ := rightB_true.1 hr
    by_cases he : L 0 = m
    · refine (apply_main A n C m M G A' C' v G' w (by omega) h2 (by omega) (by omega) (h.congr (fun i hi => by rw [h5 i hi, he]) (fun _ _ _ _ => rfl)) h').mono fun e w' hh => ?_
      unfold ApplyAny
      rw [if_pos ⟨hr, he⟩]; exact hh
    · obtain ⟨b0, off0, A0, C0, rfl, _, hc0, _⟩ := h.row (i := 0) (by omega)
      rw [Nat.add_zero] at hc0
      have hb : ((L 0 : Int) != (m : Int)) = true := by rw [bne_iff_ne]; omega
      have HN : Hid (¬ (rightB n L = true ∧ L 0 = m)) := Lib.hid (fun hh => he hh.2)
      have H := Lib.hid h
      have HR := Lib.hid hr
      clear h hr he h5 h'
      go_enter Try.func25, Try.ntmps25
      go_wp2_with fail
      refine (right_is _ n C L M _ _ true hm H.out HR.out).mono ?_
      rintro e w' ⟨rfl, rfl⟩
      go_wp2
      go_ret2
      unfold ApplyAny; rw [if_neg HN.out]; exact ResV.bad w (Below.refl _ _)
  · have hr' : rightB n L = false := by simpa using hr
    have HN : Hid (¬ (rightB n L = true ∧ L 0 = m)) := Lib.hid (fun hh => hr hh.1)
    have H := Lib.hid h
    have HR := Lib.hid hr'
    clear h hr hr' h'
    go_enter Try.func25, Try.ntmps25
    go_wp2_with fail
    refine (right_is _ n C L M _ _ false hm H.out HR.out).mono ?_
    rintro e w' ⟨rfl, rfl⟩
    go_wp2
    go_ret2
    unfold ApplyAny; rw [if_neg HN.out]; exact ResV.bad w (Below.refl _ _)
end Go.Proofs.Ytelkeoopfejgnaa
