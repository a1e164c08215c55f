/- What Apply and Mul of package matrix answer, whatever they are given. -/
import Derived.Test.YtanaldojoacbeaaMxApply
namespace Go.Proofs.Ytanaldojoacbeaa
open Go.RowKit Mx

def ApplyAny (n : Nat) (L : Nat → Nat) (M : Mat) (m : Nat) (v : Nat → Fe) (w : World) (e : Ending) (w' : World) : Prop :=
  if rightB n L = true ∧ L 0 = m then ResV 0 n (mv m M v) w e w' else ResV 1 0 (fun _ => 0) w e w'

set_option maxHeartbeats 1000000 in
theorem apply_any (A : Option Addr) (n C : Nat) (L : Nat → Nat) (M : Mat) (G : Nat → Prop) (A' : Option Addr) (m C' : Nat) (v : Nat → Fe) (G' : Nat → Prop) (w : World) (hm : n ≤ maxLen) (h : RdM w A n L M G) (h' : Rd w A' m v G') :
    Calls Try.prog 12 #[.slice A n C, .slice A' m C'] w (ApplyAny n L M m v w) := by
  by_cases hr : rightB n L = true
  · obtain ⟨h1, h2, h3, h4, h5⟩ := rightB_true.1 hr
    by_cases he : L 0 = m
    · refine (apply_main A n C m M G A' C' v G' w (by omega) h2 (by omega) (by omega) (h.congr (fun i hi => by rw [h5 i hi, he]) (fun _ _ _ _ => rfl)) h').mono fun e w' hh => ?_
      unfold ApplyAny
      rw [if_pos ⟨hr, he⟩]; exact hh
    · obtain ⟨b0, off0, A0, C0, rfl, _, hc0, _⟩ := h.row (i := 0) (by omega)
      rw [Nat.add_zero] at hc0
      have hb : ((L 0 : Int) != (m : Int)) = true := by rw [bne_iff_ne]; omega
      have HN : Hid (¬ (rightB n L = true ∧ L 0 = m)) := Lib.hid (fun hh => he hh.2)
      have H := Lib.hid h
      have HR := Lib.hid hr
      clear h hr he h5 h'
      go_enter Try.func12, Try.ntmps12
      go_wp2_with fail
      refine (right_is _ n C L M _ _ true hm H.out HR.out).mono ?_
      rintro e w' ⟨rfl, rfl⟩
      go_wp2
      go_ret2
      unfold ApplyAny; rw [if_neg HN.out]; exact ResV.bad w (Below.refl _ _)
  · have hr' : rightB n L = false := by simpa using hr
    have HN : Hid (¬ (rightB n L = true ∧ L 0 = m)) := Lib.hid (fun hh => hr hh.1)
    have H := Lib.hid h
    have HR := Lib.hid hr'
    clear h hr hr' h'
    go_enter Try.func12, Try.ntmps12
    go_wp2_with fail
    refine (right_is _ n C L M _ _ false hm H.out HR.out).mono ?_
    rintro e w' ⟨rfl, rfl⟩
    go_wp2
    go_ret2
    unfold ApplyAny; rw [if_neg HN.out]; exact ResV.bad w (Below.refl _ _)

/-- of row k the first terms are summed -/
theorem sumRow_step (MA MB : Mat) (X : Mat) (k j : Nat) : (fun r => if r = k then (fun c => (sm j fun t => MA k t * MB t c) + MA k j * MB j c) else (fun r => if r = k then (fun c => sm j fun t => MA k t * MB t c) else X r) r) = fun r => if r = k then (fun c => sm (j + 1) fun t => MA k t * MB t c) else X r := by
  funext r
  by_cases e : r = k
  · rw [if_pos e, if_pos e]; rfl
  · rw [if_neg e, if_neg e]; exact if_neg e

set_option maxHeartbeats 2000000 in
theorem mul_main (A : Option Addr) (n C m : Nat) (M : Mat) (G : Nat → Prop) (A' : Option Addr) (C' p : Nat) (M' : Mat) (G' : Nat → Prop) (w : World) (hn0 : 0 < n) (hn : n ≤ 255) (hm0 : 0 < m) (hm : m ≤ 255) (hp0 : 0 < p) (hp : p ≤ 255)
    (h : RdM w A n (fun _ => m) M G) (h' : RdM w A' m (fun _ => p) M' G') :
    Calls Try.prog 10 #[.slice A n C, .slice A' m C'] w (ResM 0 n p (mm m M M') w) := by
  have hR : rightB n (fun _ => m) = true := rightB_true.2 ⟨hn0, hn, hm0, hm, fun _ _ => rfl⟩
  have hR' : rightB m (fun _ => p) = true := rightB_true.2 ⟨hm0, hm, hp0, hp, fun _ _ => rfl⟩
  obtain ⟨b0, off0, A0, C0, rfl, _, hc0, _⟩ := h.row hn0
  rw [Nat.add_zero] at hc0
  obtain ⟨b1, off1, A1, C1, rfl, _, hc1, _⟩ := h'.row hm0
  rw [Nat.add_zero] at hc1
  have H := Lib.hid h.in_
  have H' := Lib.hid h'.in_
  have HR := Lib.hid hR
  have HR' := Lib.hid hR'
  have HC1 := Lib.hid hc1
  clear h h' hR hR' hc1
  have hmk := run_make_row' (P := Try.prog) 22 23 (.slice none 0 0) 24 Try.underlying22 infoRow rfl .i64 .i64 n (by omega) (by omega)
  have HMK := Lib.hid (run_make_row' (P := Try.prog) 23 5 (.int .u8 0) 1 Try.underlying23 infoByte rfl .i64 .i64 p (by omega) (by omega))
  go_enter Try.func10, Try.ntmps10
  go_wp2_with fail
  refine (right_is _ n C _ M _ _ true (by unfold maxLen; omega) H.out HR.out).mono ?_
  rintro e w' ⟨rfl, rfl⟩
  go_wp2_with fail
  refine (right_is _ m C' _ M' _ _ true (by unfold maxLen; omega) H'.out HR'.out).mono ?_
  rintro e w' ⟨rfl, rfl⟩
  go_wp2
  clear hmk HR HR' hc0
  go_loopw [33] (fun vi wr => ∃ i : Nat, i ≤ n ∧ vi = .int .i64 (i : Int) ∧ Hid (∃ G C, OwnK wr w.heap.size w.heap.size n i p G C (mm m M M')) ∧ Hid (Below w.heap.size w wr)) (fun vi _ => n - (intOf vi).toNat)
  case atStart => exact ⟨0, by omega, rfl, Lib.hid ⟨fun _ => 0, fun _ => 0, OwnK.start w _ n p _ _ _⟩, Lib.hid ((Below.refl _ _).alloc (Nat.le_refl _) _)⟩
  case round =>
    obtain ⟨i, hi, rfl, HO, HB⟩ := hrel
    obtain ⟨G1, Cp1, hO⟩ := HO.out
    have HO' := Lib.hid hO
    clear hO HO
    by_cases hlt : i < n
    · obtain ⟨b2, off2, Ai, Ci, e, _, hci, _⟩ := (H.out.below HB.out).row hlt
      obtain ⟨rfl, rfl⟩ : b0 = b2 ∧ off0 = off2 := by simpa using e
      have HRI : Hid (Rd wr Ai m (M i) (· < w.heap.size)) := by
        obtain ⟨b3, off3, Aj, Cj, e3, _, hcj, hrj⟩ := (H.out.below HB.out).row hlt
        obtain ⟨rfl, rfl⟩ : b0 = b3 ∧ off0 = off3 := by simpa using e3
        rw [hci] at hcj
        simp only [Option.some.injEq, Value.slice.injEq] at hcj
        obtain ⟨rfl, _, _⟩ := hcj
        exact Lib.hid hrj
      clear e
      have hb1 : Below wr.heap.size wr (wr.alloc (.cells (madeCells #[.int .u8 0] p) 5)) := (Below.refl _ _).alloc (Nat.le_refl _) _
      have hO1 := HO'.out.old hb1
      have hct := hO1.top.cell hlt
      rw [if_neg (by omega)] at hct
      have hft := hO1.top.frozen i
      have hc1 := (HB.out.cell (World.block_lt_of_cell? _ _ HC1.out)).trans HC1.out
      have HP := Lib.hid (HO'.out.push hb1 (Nat.le_refl _) HB.out.size (Nat.le_refl p) (RowAt.made wr p))
      have HB1 := Lib.hid ((HB.out.trans (hb1.mono HB.out.size)).setCell (p := ⟨w.heap.size, i, none⟩) (Nat.le_refl _) (.slice (some ⟨wr.heap.size, 0, none⟩) p p))
      have HX : Hid (Below w.heap.size wr ((wr.alloc (.cells (madeCells #[.int .u8 0] p) 5)).setCell ⟨w.heap.size, i, none⟩ (.slice (some ⟨wr.heap.size, 0, none⟩) p p))) := Lib.hid (((Below.refl _ _).alloc HB.out.size _).setCell (p := ⟨w.heap.size, i, none⟩) (Nat.le_refl _) _)
      have hmk := HMK.out
      clear hb1 hO1
      go_wp2
      clear hmk hct hft hc1 hci
      generalize (wr.alloc (.cells (madeCells #[.int .u8 0] p) 5)).setCell ⟨w.heap.size, i, none⟩ (.slice (some ⟨wr.heap.size, 0, none⟩) p p) = ws at HP HB1 HX ⊢
      have HRI' := Lib.hid (HRI.out.below HX.out)
      obtain ⟨G2, hG2⟩ : ∃ g, g = (fun r => if r = i then wr.heap.size else G1 r) := ⟨_, rfl⟩
      obtain ⟨C2, hC2⟩ : ∃ g, g = (fun r => if r = i then p else Cp1 r) := ⟨_, rfl⟩
      rw [← hG2, ← hC2] at HP
      clear hG2 hC2 HX HRI HO' HB
      go_loopw [48] (fun vj wq => ∃ j : Nat, j ≤ m ∧ vj = .int .i64 (j : Int) ∧ Hid (OwnK wq w.heap.size w.heap.size n (i + 1) p G2 C2 (fun r => if r = i then (fun c => sm j fun t => M i t * M' t c) else mm m M M' r)) ∧ Hid (Below w.heap.size w wq)  ∧ Hid (Rd wq Ai m (M i) (· < w.heap.size))) (fun vj _ => m - (intOf vj).toNat)
      case atStart => exact ⟨0, by omega, rfl, HP, HB1, HRI'⟩
      case round =>
        obtain ⟨j, hj, rfl, HO2, HB2, HR2⟩ := hrel
        clear HP HB1 HRI'
        by_cases hlt2 : j < m
        · obtain ⟨b2, off2, rfl, _, d1⟩ := HR2.out.at hlt2
          obtain ⟨b3, off3, Aj, Cj, e, _, d2, hrj⟩ := (H'.out.below HB2.out).row hlt2
          obtain ⟨rfl, rfl⟩ : b1 = b3 ∧ off1 = off3 := by simpa using e
          have HRJ := Lib.hid hrj
          clear e hrj
          have d3 := HO2.out.top.cell hlt
          rw [if_pos (by omega)] at d3
          go_wp2
          refine wp_region_still_tail 9 (by kernel_rfl) (by kernel_rfl) ?_
          simp only [List.take_succ_cons, List.take_zero, List.drop_succ_cons, List.drop_zero]
          repeat still_step
          refine wpStill_nil ?_
          change wpList _ _ _ _ _ wr.drew
          go_wp2_with fail
          refine (addTimes_any (G2 i) p (C2 i) (fun c => sm j fun t => M i t * M' t c) (M i j) Aj Cj (M' j) wr.drew hp (by have := HO2.out.drew.rows i (by omega); rw [if_pos rfl] at this; exact this) (by exact HRJ.out.mono fun x hx => by have := HO2.out.lo i (by omega); omega)).mono ?_
          rintro e w3 ⟨rfl, hr3, hk3⟩
          have HO3 := Lib.hid (HO2.out.drew.turn (i := i) (by omega) hk3 hr3)
          rw [sumRow_step M M' _ i j] at HO3
          have hb3 : Below w.heap.size wr w3 := (Below.refl w.heap.size wr).drew.trans (hk3.below HB2.out.size (fun x hx => by rw [hx]; exact HO2.out.lo i (by omega)))
          have HB3 := Lib.hid (HB2.out.trans hb3)
          have HR3 := Lib.hid (HR2.out.below hb3)
          clear hr3 hk3 hb3 d1 d2 d3 HO2 HB2 HR2 HRJ
          go_wp2
          go_roundw
          case rel => exact ⟨j + 1, by omega, by go_num, HO3, HB3, HR3⟩
          case measure => simp [intOf]; omega
        · have HO3 : Hid (∃ G C, OwnK wr w.heap.size w.heap.size n (i + 1) p G C (mm m M M')) := by
            have hjm : j = m := by omega
            have hh := HO2.out
            rw [hjm] at hh
            exact Lib.hid ⟨_, _, hh.congr fun r _ c _ => by
              by_cases e : r = i
              · rw [if_pos e, e]; rfl
              · rw [if_neg e]⟩
          clear HO2
          go_wp2
          go_roundw
          case rel => exact ⟨i + 1, by omega, by go_num, HO3, HB2⟩
          case measure => simp [intOf]; omega
    · obtain rfl : i = n := by omega
      go_wp2
      go_ret2
      exact ⟨_, _, rfl, HO'.out.rdAll (Nat.le_refl _), HB.out⟩
end Go.Proofs.Ytanaldojoacbeaa
