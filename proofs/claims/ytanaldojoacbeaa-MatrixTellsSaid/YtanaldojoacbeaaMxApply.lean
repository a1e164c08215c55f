/- What Inverse, Apply and Mul of package matrix answer, whatever they are given. -/
import Derived.Test.YtanaldojoacbeaaMxInv
namespace Go.Proofs.Ytanaldojoacbeaa
open Go.RowKit Mx

def InvAny (n : Nat) (L : Nat → Nat) (M : Mat) (w : World) (e : Ending) (w' : World) : Prop :=
  if rightB n L = true ∧ n = L 0 then InvRes n M w e w' else ResM 1 0 0 one w e w'
theorem ResM.bad (w : World) {w' : World} (h : Below w.heap.size w w') : ResM 1 0 0 one w (.returned (.tuple #[.slice none 0 0, .int .i64 1])) w' := ⟨none, 0, rfl, RdM.empty _ _ _ _ _, h⟩

set_option maxHeartbeats 1000000 in
theorem inverse_any (A : Option Addr) (n C : Nat) (L : Nat → Nat) (M : Mat) (G : Nat → Prop) (w : World) (hm : n ≤ maxLen) (h : RdM w A n L M G) :
    Calls Try.prog 14 #[.slice A n C] w (InvAny n L M w) := by
  by_cases hr : rightB n L = true
  · obtain ⟨h1, h2, h3, h4, h5⟩ := rightB_true.1 hr
    by_cases he : n = L 0
    · refine (inverse_main A n C M G w (by omega) h2 (h.congr (fun i hi => by rw [h5 i hi, he]) (fun _ _ _ _ => rfl))).mono fun e w' hh => ?_
      unfold InvAny
      rw [if_pos ⟨hr, he⟩]; exact hh
    · obtain ⟨b0, off0, A0, C0, rfl, _, hc0, _⟩ := h.row (i := 0) (by omega)
      rw [Nat.add_zero] at hc0
      have hb : ((n : Int) != (L 0 : Int)) = true := by rw [bne_iff_ne]; omega
      have HN : Hid (¬ (rightB n L = true ∧ n = L 0)) := Lib.hid (fun hh => he hh.2)
      have H := Lib.hid h
      have HR := Lib.hid hr
      clear h hr he h5
      go_enter Try.func14, Try.ntmps14
      go_wp2_with fail
      refine (right_is _ n C L M _ _ true hm H.out HR.out).mono ?_
      rintro e w' ⟨rfl, rfl⟩
      go_wp2
      go_ret2
      unfold InvAny; rw [if_neg HN.out]; exact ResM.bad w (Below.refl _ _)
  · have hr' : rightB n L = false := by simpa using hr
    have HN : Hid (¬ (rightB n L = true ∧ n = L 0)) := Lib.hid (fun hh => hr hh.1)
    have H := Lib.hid h
    have HR := Lib.hid hr'
    clear h hr hr'
    go_enter Try.func14, Try.ntmps14
    go_wp2_with fail
    refine (right_is _ n C L M _ _ false hm H.out HR.out).mono ?_
    rintro e w' ⟨rfl, rfl⟩
    go_wp2
    go_ret2
    unfold InvAny; rw [if_neg HN.out]; exact ResM.bad w (Below.refl _ _)

/-- a row, and an error's number -/
def ResV (code : Int) (n : Nat) (v : Nat → Fe) (w : World) (e : Ending) (w' : World) : Prop :=
  ∃ A C, e = .returned (.tuple #[.slice A n C, .int .i64 code]) ∧ Rd w' A n v (· < w'.heap.size) ∧ Below w.heap.size w w'
theorem ResV.bad (w : World) {w' : World} (h : Below w.heap.size w w') : ResV 1 0 (fun _ => 0) w (.returned (.tuple #[.slice none 0 0, .int .i64 1])) w' := ⟨none, 0, rfl, Rd.empty _ _ _ _, h⟩
/-- the first rows are reckoned, of row i the first j terms -/
def part (f : Nat → Fe) (i : Nat) (s : Fe) : Nat → Fe := fun x => if x < i then f x else if x = i then s else 0
theorem part_set (f : Nat → Fe) (i : Nat) (s s' : Fe) (x : Nat) : (if x = i then s' else part f i s x) = part f i s' x := by
  unfold part
  by_cases e : x = i
  · rw [if_pos e, if_neg (by omega), if_pos e]
  · rw [if_neg e, if_neg e, if_neg e]
theorem part_next (f : Nat → Fe) (i : Nat) (x : Nat) : part f i (f i) x = part f (i + 1) 0 x := by
  unfold part
  by_cases e : x = i
  · rw [if_neg (by omega), if_pos e, if_pos (by omega), e]
  · by_cases e' : x < i
    · rw [if_pos e', if_pos (by omega)]
    · rw [if_neg e', if_neg e, if_neg (by omega)]
      by_cases e2 : x = i + 1
      · rw [if_pos e2]
      · rw [if_neg e2]
theorem part_at (f : Nat → Fe) (i : Nat) (s : Fe) : part f i s i = s := by unfold part; rw [if_neg (by omega), if_pos rfl]

set_option maxHeartbeats 2000000 in
theorem apply_main (A : Option Addr) (n C m : Nat) (M : Mat) (G : Nat → Prop) (A' : Option Addr) (C' : Nat) (v : Nat → Fe) (G' : Nat → Prop) (w : World) (hn0 : 0 < n) (hn : n ≤ 255) (hm0 : 0 < m) (hm : m ≤ 255)
    (h : RdM w A n (fun _ => m) M G) (h' : Rd w A' m v G') :
    Calls Try.prog 12 #[.slice A n C, .slice A' m C'] w (ResV 0 n (mv m M v) w) := by
  have hR : rightB n (fun _ => m) = true := rightB_true.2 ⟨hn0, hn, hm0, hm, fun _ _ => rfl⟩
  obtain ⟨b0, off0, A0, C0, rfl, _, hc0, _⟩ := h.row hn0
  rw [Nat.add_zero] at hc0
  have H := Lib.hid h
  have H' := Lib.hid h'
  have HR := Lib.hid hR
  clear h h' hR
  have hmk := run_make_row' (P := Try.prog) 23 5 (.int .u8 0) 1 Try.underlying23 infoByte rfl .i64 .i64 n (by omega) (by omega)
  go_enter Try.func12, Try.ntmps12
  go_wp2_with fail
  refine (right_is _ n C _ M _ _ true (by unfold maxLen; omega) H.out HR.out).mono ?_
  rintro e w' ⟨rfl, rfl⟩
  go_wp2
  clear hmk HR
  go_loopw [28] (fun vi wr => ∃ i : Nat, i ≤ n ∧ vi = .int .i64 (i : Int) ∧ Hid (RowAt wr w.heap.size n (part (mv m M v) i 0)) ∧ Hid (Below w.heap.size w wr)) (fun vi _ => n - (intOf vi).toNat)
  case atStart => exact ⟨0, by omega, rfl, Lib.hid ((RowAt.made w n).congr fun j _ => by unfold part; rw [if_neg (by omega)]; split <;> rfl), Lib.hid ((Below.refl _ _).alloc (Nat.le_refl _) _)⟩
  case round =>
    obtain ⟨i, hi, rfl, HO, HB⟩ := hrel
    by_cases hlt : i < n
    · obtain ⟨b1, off1, Ai, Ci, e, _, hci, hri⟩ := (H.out.old HB.out).row hlt
      obtain ⟨rfl, rfl⟩ : b0 = b1 ∧ off0 = off1 := by simpa using e
      have HRI : Hid (Rd w Ai m (M i) (fun x => x < w.heap.size)) := by
        obtain ⟨b2, off2, Aj, Cj, e2, _, hcj, hrj⟩ := H.out.row hlt
        obtain ⟨rfl, rfl⟩ : b0 = b2 ∧ off0 = off2 := by simpa using e2
        have := (HB.out.cell (World.block_lt_of_cell? _ _ hcj)).trans hcj
        rw [hci] at this
        simp only [Option.some.injEq, Value.slice.injEq] at this
        obtain ⟨rfl, _, _⟩ := this
        intro hm'
        obtain ⟨b3, off3, e3, _, hc3⟩ := hrj hm'
        exact ⟨b3, off3, e3, World.block_lt_of_cell? _ _ (hc3 0 hm'), hc3⟩
      clear e hri
      go_wp2
      go_loopw [35] (fun vj wq => ∃ j : Nat, j ≤ m ∧ vj = .int .i64 (j : Int) ∧ Hid (RowAt wq w.heap.size n (part (mv m M v) i (sm j fun t => M i t * v t))) ∧ Hid (Below w.heap.size w wq)) (fun vj _ => m - (intOf vj).toNat)
      case atStart => exact ⟨0, by omega, rfl, HO, HB⟩
      case round =>
        obtain ⟨j, hj, rfl, HO2, HB2⟩ := hrel
        clear HO HB hci hc0
        by_cases hlt2 : j < m
        · obtain ⟨b2, off2, rfl, _, d1⟩ := (HRI.out.old HB2.out).at hlt2
          obtain ⟨b3, off3, rfl, _, d2⟩ := (H'.out.old HB2.out).at hlt2
          have d3 := HO2.out.cell hlt
          rw [part_at] at d3
          have f3 := HO2.out.frozen i
          go_wp2
          refine wp_region_still_tail 14 (by kernel_rfl) (by kernel_rfl) ?_
          simp only [List.take_succ_cons, List.take_zero, List.drop_succ_cons, List.drop_zero]
          repeat (first | still_step | still_call (mul_st _ _ _) | still_call (add_st _ _ _))
          refine wpStill_nil ?_
          change wpList _ _ _ _ _ wr.drew
          go_wp2
          go_roundw
          case rel => exact ⟨j + 1, by omega, by go_num, Lib.hid ((HO2.out.set i ((sm j fun t => M i t * v t) + M i j * v j)).congr fun x _ => part_set _ _ _ _ _), Lib.hid ((HB2.out.drew).setCell (p := ⟨w.heap.size, i, none⟩) (Nat.le_refl _) _)⟩
          case measure => simp [intOf]; omega
        · have HO3 : Hid (RowAt wr w.heap.size n (part (mv m M v) (i + 1) 0)) := by
            have hjm : j = m := by omega
            have hh := HO2.out
            rw [hjm] at hh
            exact Lib.hid (hh.congr fun x _ => part_next (mv m M v) i x)
          clear HO2
          go_wp2
          go_roundw
          case rel => exact ⟨i + 1, by omega, by go_num, HO3, HB2⟩
          case measure => simp [intOf]; omega
    · go_wp2
      go_ret2
      refine ⟨_, _, rfl, (HO.out.congr fun x hx => ?_).rd _ HO.out.lt, HB.out⟩
      unfold part; rw [if_pos (by omega)]
end Go.Proofs.Ytanaldojoacbeaa
