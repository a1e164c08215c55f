/- What Mul and Cauchy of package matrix answer, whatever they are given. -/
import Derived.Test.YtanaldojoacbeaaMxMul
namespace Go.Proofs.Ytanaldojoacbeaa
open Go.RowKit Mx

def MulAny (n : Nat) (L : Nat → Nat) (M : Mat) (n' : Nat) (L' : Nat → Nat) (M' : Mat) (w : World) (e : Ending) (w' : World) : Prop :=
  if rightB n L = true ∧ rightB n' L' = true ∧ L 0 = n' then ResM 0 n (L' 0) (mm n' M M') w e w' else ResM 1 0 0 one w e w'

set_option maxHeartbeats 1000000 in
theorem mulM_any (A : Option Addr) (n C : Nat) (L : Nat → Nat) (M : Mat) (G : Nat → Prop) (A' : Option Addr) (n' C' : Nat) (L' : Nat → Nat) (M' : Mat) (G' : Nat → Prop) (w : World) (hm : n ≤ maxLen) (hm' : n' ≤ maxLen) (h : RdM w A n L M G) (h' : RdM w A' n' L' M' G') :
    Calls Try.prog 10 #[.slice A n C, .slice A' n' C'] w (MulAny n L M n' L' M' w) := by
  by_cases hr : rightB n L = true
  · obtain ⟨h1, h2, h3, h4, h5⟩ := rightB_true.1 hr
    by_cases hr2 : rightB n' L' = true
    · obtain ⟨k1, k2, k3, k4, k5⟩ := rightB_true.1 hr2
      by_cases he : L 0 = n'
      · refine (mul_main A n C n' M G A' C' (L' 0) M' G' w (by omega) h2 (by omega) (by omega) (by omega) k4 (h.congr (fun i hi => by rw [h5 i hi, he]) (fun _ _ _ _ => rfl)) (h'.congr (fun i hi => k5 i hi) (fun _ _ _ _ => rfl))).mono fun e w' hh => ?_
        unfold MulAny
        rw [if_pos ⟨hr, hr2, he⟩]; exact hh
      · obtain ⟨b0, off0, A0, C0, rfl, _, hc0, _⟩ := h.row (i := 0) (by omega)
        rw [Nat.add_zero] at hc0
        have hb : ((L 0 : Int) != (n' : Int)) = true := by rw [bne_iff_ne]; omega
        have HN : Hid (¬ (rightB n L = true ∧ rightB n' L' = true ∧ L 0 = n')) := Lib.hid (fun hh => he hh.2.2)
        have H := Lib.hid h
        have H' := Lib.hid h'
        have HR := Lib.hid hr
        have HR2 := Lib.hid hr2
        clear h hr he h5 h' hr2 k5
        go_enter Try.func10, Try.ntmps10
        go_wp2_with fail
        refine (right_is _ n C L M _ _ true hm H.out HR.out).mono ?_
        rintro e w' ⟨rfl, rfl⟩
        go_wp2_with fail
        refine (right_is _ n' C' L' M' _ _ true hm' H'.out HR2.out).mono ?_
        rintro e w' ⟨rfl, rfl⟩
        go_wp2
        go_ret2
        unfold MulAny; rw [if_neg HN.out]; exact ResM.bad w (Below.refl _ _)
    · have hr' : rightB n' L' = false := by simpa using hr2
      have HN : Hid (¬ (rightB n L = true ∧ rightB n' L' = true ∧ L 0 = n')) := Lib.hid (fun hh => hr2 hh.2.1)
      have H := Lib.hid h
      have H' := Lib.hid h'
      have HR := Lib.hid hr
      have HR2 := Lib.hid hr'
      clear h hr h5 h' hr2 hr'
      go_enter Try.func10, Try.ntmps10
      go_wp2_with fail
      refine (right_is _ n C L M _ _ true hm H.out HR.out).mono ?_
      rintro e w' ⟨rfl, rfl⟩
      go_wp2_with fail
      refine (right_is _ n' C' L' M' _ _ false hm' H'.out HR2.out).mono ?_
      rintro e w' ⟨rfl, rfl⟩
      go_wp2
      go_ret2
      unfold MulAny; rw [if_neg HN.out]; exact ResM.bad w (Below.refl _ _)
  · have hr' : rightB n L = false := by simpa using hr
    have HN : Hid (¬ (rightB n L = true ∧ rightB n' L' = true ∧ L 0 = n')) := Lib.hid (fun hh => hr hh.1)
    have H := Lib.hid h
    have HR := Lib.hid hr'
    clear h hr hr' h'
    go_enter Try.func10, Try.ntmps10
    go_wp2_with fail
    refine (right_is _ n C L M _ _ false hm H.out HR.out).mono ?_
    rintro e w' ⟨rfl, rfl⟩
    go_wp2
    go_ret2
    unfold MulAny; rw [if_neg HN.out]; exact ResM.bad w (Below.refl _ _)

/-- the element of that number -/
def el (n : Nat) : Fe := mk (n % 256) (Nat.mod_lt _ (by decide))
theorem fi_el {n : Nat} (h : n < 256) : fi (el n) = (n : Int) := by
  unfold fi el; rw [nat_mk, Nat.mod_eq_of_lt h]
theorem el_ne {i j : Nat} (hi : i < 256) (hj : j < 256) (h : i ≠ j) : el i ≠ el j := fun e => h (by
  have := congrArg fi e
  rw [fi_el hi, fi_el hj] at this; omega)
def cau (p : Nat) : Mat := fun i j => inv (el i + el (p + j))
theorem cau_int {p i j : Nat} (h : i < 256) (h' : p + j < 256) : ginv (gadd (i : Int) ((p : Int) + (j : Int))) = fi (cau p i j) := by
  unfold cau
  rw [← ginv_fi, ← gadd_fi, fi_el h, fi_el h']; congr 2
theorem add_ist (a b : Int) (w : World) (ha : 0 ≤ a) (ha' : a < 256) (hb : 0 ≤ b) (hb' : b < 256) : Calls Try.prog 25 #[.int .u8 a, .int .u8 b] w fun e w' => e = .returned (.int .u8 (gadd a b)) ∧ w' = w := (add_any a b w ha ha' hb hb').mono fun _ _ h => ⟨h.1, h.2.symm⟩
theorem inv_ist (a : Int) (w : World) (ha : 0 ≤ a) (ha' : a < 256) : Calls Try.prog 32 #[.int .u8 a] w fun e w' => e = .returned (.int .u8 (ginv a)) ∧ w' = w := (inv_any a w ha ha').mono fun _ _ h => ⟨h.1, h.2.symm⟩

set_option maxHeartbeats 1000000 in
theorem cauchy_bad (d p : Int) (w : World) (_hd : -9223372036854775808 ≤ d) (_hd' : d ≤ 9223372036854775807) (_hp : -9223372036854775808 ≤ p) (_hp' : p ≤ 9223372036854775807) (h : d < 1 ∨ p < 1 ∨ 255 < p ∨ 255 - p < d) :
    Calls Try.prog 20 #[.int .i64 d, .int .i64 p] w (ResM 1 0 0 one w) := by
  by_cases h1 : d < 1
  · clear h
    go_enter Try.func20, Try.ntmps20
    go_wp2
    go_ret2
    exact ResM.bad w (Below.refl _ _)
  · by_cases h2 : p < 1
    · clear h
      go_enter Try.func20, Try.ntmps20
      go_wp2
      go_ret2
      exact ResM.bad w (Below.refl _ _)
    · by_cases h3 : 255 < p
      · clear h
        go_enter Try.func20, Try.ntmps20
        go_wp2
        go_ret2
        exact ResM.bad w (Below.refl _ _)
      · have h4 : 255 - p < d := by omega
        clear h
        go_enter Try.func20, Try.ntmps20
        go_wp2
        go_ret2
        exact ResM.bad w (Below.refl _ _)

set_option maxHeartbeats 2000000 in
theorem cauchy_main (d p : Nat) (w : World) (hd0 : 0 < d) (hp0 : 0 < p) (hdp : d + p ≤ 255) :
    Calls Try.prog 20 #[.int .i64 (d : Int), .int .i64 (p : Int)] w (ResM 0 p d (cau p) w) := by
  have hmk := run_make_row' (P := Try.prog) 22 23 (.slice none 0 0) 24 Try.underlying22 infoRow rfl .i64 .i64 p (by omega) (by omega)
  have HMK := Lib.hid (run_make_row' (P := Try.prog) 23 5 (.int .u8 0) 1 Try.underlying23 infoByte rfl .i64 .i64 d (by omega) (by omega))
  go_enter Try.func20, Try.ntmps20
  go_wp2
  clear hmk
  go_loopw [29] (fun vi wr => ∃ i : Nat, i ≤ p ∧ vi = .int .i64 (i : Int) ∧ Hid (∃ G C, OwnK wr w.heap.size w.heap.size p i d G C (cau p)) ∧ Hid (Below w.heap.size w wr)) (fun vi _ => p - (intOf vi).toNat)
  case atStart => exact ⟨0, by omega, rfl, Lib.hid ⟨fun _ => 0, fun _ => 0, OwnK.start w _ p d _ _ _⟩, Lib.hid ((Below.refl _ _).alloc (Nat.le_refl _) _)⟩
  case round =>
    obtain ⟨i, hi, rfl, HO, HB⟩ := hrel
    obtain ⟨G1, Cp1, hO⟩ := HO.out
    have HO' := Lib.hid hO
    clear hO HO
    by_cases hlt : i < p
    · have hb1 : Below wr.heap.size wr (wr.alloc (.cells (madeCells #[.int .u8 0] d) 5)) := (Below.refl _ _).alloc (Nat.le_refl _) _
      have hO1 := HO'.out.old hb1
      have hct := hO1.top.cell hlt
      rw [if_neg (by omega)] at hct
      have hft := hO1.top.frozen i
      have hP := HO'.out.push hb1 (Nat.le_refl _) HB.out.size (Nat.le_refl d) (RowAt.made wr d)
      have hct2 := hP.top.cell hlt
      simp only [if_true, show i < i + 1 by omega] at hct2
      have HP := Lib.hid hP
      have HB1 := Lib.hid ((HB.out.trans (hb1.mono HB.out.size)).setCell (p := ⟨w.heap.size, i, none⟩) (Nat.le_refl _) (.slice (some ⟨wr.heap.size, 0, none⟩) d d))
      have hmk := HMK.out
      clear hb1 hO1 hP
      go_wp2
      clear hmk hct hft hct2
      generalize (wr.alloc (.cells (madeCells #[.int .u8 0] d) 5)).setCell ⟨w.heap.size, i, none⟩ (.slice (some ⟨wr.heap.size, 0, none⟩) d d) = ws at HP HB1 ⊢
      obtain ⟨G2, hG2⟩ : ∃ g, g = (fun r => if r = i then wr.heap.size else G1 r) := ⟨_, rfl⟩
      obtain ⟨C2, hC2⟩ : ∃ g, g = (fun r => if r = i then d else Cp1 r) := ⟨_, rfl⟩
      rw [← hG2, ← hC2] at HP
      clear hG2 hC2 HO' HB
      go_loopw [42] (fun vj wq => ∃ j : Nat, j ≤ d ∧ vj = .int .i64 (j : Int) ∧ Hid (OwnK wq w.heap.size w.heap.size p (i + 1) d G2 C2 (fun r => if r = i then (fun c => if c < j then cau p i c else 0) else cau p r)) ∧ Hid (Below w.heap.size w wq)) (fun vj _ => d - (intOf vj).toNat)
      case atStart => exact ⟨0, by omega, rfl, HP, HB1⟩
      case round =>
        obtain ⟨j, hj, rfl, HO2, HB2⟩ := hrel
        clear HP HB1
        by_cases hlt2 : j < d
        · have d1 := HO2.out.top.cell hlt
          rw [if_pos (by omega)] at d1
          have hrow := HO2.out.rows i (by omega)
          rw [if_pos rfl] at hrow
          have d2 := hrow.cell hlt2
          have f2 := hrow.frozen j
          have HRW := Lib.hid hrow
          have HCI := Lib.hid (cau_int (p := p) (i := i) (j := j) (by omega) (by omega))
          clear hrow
          have s1 : (0 : Int) ≤ (p : Int) + (j : Int) := by omega
          have s2 : (p : Int) + (j : Int) < 256 := by omega
          have s3 : IntKind.i64.wrap ((p : Int) + (j : Int)) = (p : Int) + (j : Int) := IntWalk.i64_in _ (by omega)
          have s4 : IntKind.u8.wrap ((p : Int) + (j : Int)) = (p : Int) + (j : Int) := IntWalk.u8_in _ (by omega)
          have s5 : IntKind.u8.wrap (i : Int) = (i : Int) := IntWalk.u8_in _ (by omega)
          go_wp2
          refine wp_region_still_tail 14 (by kernel_rfl) (by kernel_rfl) ?_
          simp only [List.take_succ_cons, List.take_zero, List.drop_succ_cons, List.drop_zero]
          repeat still_step
          still_call (add_ist (i : Int) ((p : Int) + (j : Int)) _ (by omega) (by omega) (by omega) (by omega))
          still_call (inv_ist _ _ (gadd_rng _ _ (by omega) (by omega) (by omega) (by omega)).1 (gadd_rng _ _ (by omega) (by omega) (by omega) (by omega)).2)
          repeat still_step
          refine wpStill_nil ?_
          rw [HCI.out]
          change wpList _ _ _ _ _ wr.drew
          clear s3 s4 s5
          go_wp2
          go_roundw
          case rel =>
            refine ⟨j + 1, by omega, by go_num, Lib.hid ((HO2.out.drew.turn (i := i) (by omega) (Kp.store wr.drew (G2 i) j (.int .u8 (fi (cau p i j)))) (HRW.out.set j (cau p i j))).congr fun r _ c _ => ?_), Lib.hid ((HB2.out.drew).setCell (p := ⟨G2 i, j, none⟩) (HO2.out.lo i (by omega)) _)⟩
            by_cases e : r = i
            · rw [if_pos e, if_pos e]
              exact upTo_step (f := fun _ => 0) (h := fun c => cau p i c)
            · rw [if_neg e, if_neg e, if_neg e]
          case measure => simp [intOf]; omega
        · have HO3 : Hid (∃ G C, OwnK wr w.heap.size w.heap.size p (i + 1) d G C (cau p)) := Lib.hid ⟨_, _, HO2.out.congr fun r _ c hc => by
            by_cases e : r = i
            · rw [if_pos e, if_pos (by omega), e]
            · rw [if_neg e]⟩
          clear HO2
          go_wp2
          go_roundw
          case rel => exact ⟨i + 1, by omega, by go_num, HO3, HB2⟩
          case measure => simp [intOf]; omega
    · obtain rfl : i = p := by omega
      go_wp2
      go_ret2
      exact ⟨_, _, rfl, HO'.out.rdAll (Nat.le_refl _), HB.out⟩
end Go.Proofs.Ytanaldojoacbeaa
