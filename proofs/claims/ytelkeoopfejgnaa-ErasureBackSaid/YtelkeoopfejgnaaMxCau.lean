/- What Cauchy of package matrix answers, whatever it is given. -/
import Derived.Test.YtelkeoopfejgnaaGfFe
namespace Go.Proofs.Ytelkeoopfejgnaa
open Go.RowKit Mx

set_option maxHeartbeats 1000000 in
theorem cauchy_bad (d p : Int) (w : World) (_hd : -9223372036854775808 ≤ d) (_hd' : d ≤ 9223372036854775807) (_hp : -9223372036854775808 ≤ p) (_hp' : p ≤ 9223372036854775807) (h : d < 1 ∨ p < 1 ∨ 255 < p ∨ 255 - p < d) :
    Calls Try.prog 15 #[.int .i64 d, .int .i64 p] w (ResM 1 0 0 one w) := by
  by_cases h1 : d < 1
  · clear h
    go_enter Try.func15, Try.ntmps15
    go_wp2
    go_ret2
    exact ResM.bad w (Below.refl _ _)
  · by_cases h2 : p < 1
    · clear h
      go_enter Try.func15, Try.ntmps15
      go_wp2
      go_ret2
      exact ResM.bad w (Below.refl _ _)
    · by_cases h3 : 255 < p
      · clear h
        go_enter Try.func15, Try.ntmps15
        go_wp2
        go_ret2
        exact ResM.bad w (Below.refl _ _)
      · have h4 : 255 - p < d := by omega
        clear h
        go_enter Try.func15, Try.ntmps15
        go_wp2
        go_ret2
        exact ResM.bad w (Below.refl _ _)
set_option maxHeartbeats 2000000 in
theorem cauchy_main (d p : Nat) (w : World) (hd0 : 0 < d) (hp0 : 0 < p) (hdp : d + p ≤ 255) :
    Calls Try.prog 15 #[.int .i64 (d : Int), .int .i64 (p : Int)] w (ResM 0 p d (cau p) w) := by
  have hmk := run_make_row' (P := Try.prog) 22 34 (.slice none 0 0) 24 Try.underlying22 infoRow rfl .i64 .i64 p (by omega) (by omega)
  have HMK := Lib.hid (run_make_row' (P := Try.prog) 34 5 (.int .u8 0) 1 Try.underlying34 infoByte rfl .i64 .i64 d (by omega) (by omega))
  go_enter Try.func15, Try.ntmps15
  go_wp2
  clear hmk
  go_loopw [29] (fun vi wr => ∃ i : Nat, i ≤ p ∧ vi = .int .i64 (i : Int) ∧ Hid (∃ G C, OwnK wr w.heap.size w.heap.size p i d G C (cau p)) ∧ Hid (Below w.heap.size w wr)) (fun vi _ => p - (intOf vi).toNat)
  case atStart => exact ⟨0, by omega, rfl, Lib.hid ⟨fun _ => 0, fun _ => 0, OwnK.start w _ p d _ _ _⟩, Lib.hid ((Below.refl _ _).alloc (Nat.le_refl _) _)⟩
  case round =>
    obtain ⟨i, hi, rfl, HO, HB⟩ := hrel
    obtain ⟨G1, Cp1, hO⟩ := HO.out
    have HO' := Lib.hid hO
    clear hO HO
    by_cases hlt : i < p
    · have hb1 : Below wr.heap.size wr (wr.alloc (.cells (madeCells #[.int .u8 0] d) 5)) := (Below.refl _ _).alloc (Nat.le_refl _) _
      have hO1 := HO'.out.old hb1
      have hct := hO1.top.cell hlt
      rw [if_neg (by omega)] at hct
      have hft := hO1.top.frozen i
      have hP := HO'.out.push hb1 (Nat.le_refl _) HB.out.size (Nat.le_refl d) (RowAt.made wr d)
      have hct2 := hP.top.cell hlt
      simp only [if_true, show i < i + 1 by omega] at hct2
      have HP := Lib.hid hP
      have HB1 := Lib.hid ((HB.out.trans (hb1.mono HB.out.size)).setCell (p := ⟨w.heap.size, i, none⟩) (Nat.le_refl _) (.slice (some ⟨wr.heap.size, 0, none⟩) d d))
      have hmk := HMK.out
      clear hb1 hO1 hP
      go_wp2
      clear hmk hct hft hct2
      generalize (wr.alloc (.cells (madeCells #[.int .u8 0] d) 5)).setCell ⟨w.heap.size, i, none⟩ (.slice (some ⟨wr.heap.size, 0, none⟩) d d) = ws at HP HB1 ⊢
      obtain ⟨G2, hG2⟩ : ∃ g, g = (fun r => if r = i then wr.heap.size else G1 r) := ⟨_, rfl⟩
      obtain ⟨C2, hC2⟩ : ∃ g, g = (fun r => if r = i then d else Cp1 r) := ⟨_, rfl⟩
      rw [← hG2, ← hC2] at HP
      clear hG2 hC2 HO' HB
      go_loopw [42] (fun vj wq => ∃ j : Nat, j ≤ d ∧ vj = .int .i64 (j : Int) ∧ Hid (OwnK wq w.heap.size w.heap.size p (i + 1) d G2 C2 (fun r => if r = i then (fun c => if c < j then cau p i c else 0) else cau p r)) ∧ Hid (Below w.heap.size w wq)) (fun vj _ => d - (intOf vj).toNat)
      case atStart => exact ⟨0, by omega, rfl, HP, HB1⟩
      case round =>
        obtain ⟨j, hj, rfl, HO2, HB2⟩ := hrel
        clear HP HB1
        by_cases hlt2 : j < d
        · have d1 := HO2.out.top.cell hlt
          rw [if_pos (by omega)] at d1
          have hrow := HO2.out.rows i (by omega)
          rw [if_pos rfl] at hrow
          have d2 := hrow.cell hlt2
          have f2 := hrow.frozen j
          have HRW := Lib.hid hrow
          have HCI := Lib.hid (cau_int (p := p) (i := i) (j := j) (by omega) (by omega))
          clear hrow
          have s1 : (0 : Int) ≤ (p : Int) + (j : Int) := by omega
          have s2 : (p : Int) + (j : Int) < 256 := by omega
          have s3 : IntKind.i64.wrap ((p : Int) + (j : Int)) = (p : Int) + (j : Int) := IntWalk.i64_in _ (by omega)
          have s4 : IntKind.u8.wrap ((p : Int) + (j : Int)) = (p : Int) + (j : Int) := IntWalk.u8_in _ (by omega)
          have s5 : IntKind.u8.wrap (i : Int) = (i : Int) := IntWalk.u8_in _ (by omega)
          go_wp2
          refine wp_region_still_tail 14 (by kernel_rfl) (by kernel_rfl) ?_
          simp only [List.take_succ_cons, List.take_zero, List.drop_succ_cons, List.drop_zero]
          repeat still_step
          still_call (add_ist (i : Int) ((p : Int) + (j : Int)) _ (by omega) (by omega) (by omega) (by omega))
          still_call (inv_ist _ _ (gadd_rng _ _ (by omega) (by omega) (by omega) (by omega)).1 (gadd_rng _ _ (by omega) (by omega) (by omega) (by omega)).2)
          repeat still_step
          refine wpStill_nil ?_
          rw [HCI.out]
          change wpList _ _ _ _ _ wr.drew
          clear s3 s4 s5
          go_wp2
          go_roundw
          case rel =>
            refine ⟨j + 1, by omega, by go_num, Lib.hid ((HO2.out.drew.turn (i := i) (by omega) (Kp.store wr.drew (G2 i) j (.int .u8 (fi (cau p i j)))) (HRW.out.set j (cau p i j))).congr fun r _ c _ => ?_), Lib.hid ((HB2.out.drew).setCell (p := ⟨G2 i, j, none⟩) (HO2.out.lo i (by omega)) _)⟩
            by_cases e : r = i
            · rw [if_pos e, if_pos e]
              exact upTo_step (f := fun _ => 0) (h := fun c => cau p i c)
            · rw [if_neg e, if_neg e, if_neg e]
          case measure => simp [intOf]; omega
        · have HO3 : Hid (∃ G C, OwnK wr w.heap.size w.heap.size p (i + 1) d G C (cau p)) := Lib.hid ⟨_, _, HO2.out.congr fun r _ c hc => by
            by_cases e : r = i
            · rw [if_pos e, if_pos (by omega), e]
            · rw [if_neg e]⟩
          clear HO2
          go_wp2
          go_roundw
          case rel => exact ⟨i + 1, by omega, by go_num, HO3, HB2⟩
          case measure => simp [intOf]; omega
    · obtain rfl : i = p := by omega
      go_wp2
      go_ret2
      exact ⟨_, _, rfl, HO'.out.rdAll (Nat.le_refl _), HB.out⟩
end Go.Proofs.Ytelkeoopfejgnaa
