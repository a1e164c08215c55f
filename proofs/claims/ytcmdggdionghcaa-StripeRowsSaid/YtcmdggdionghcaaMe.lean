/- What Apply of package matrix answers, whatever it is given. What applied of package erasure answers: a matrix times rows, byte by byte, in new memory. What Cauchy of package matrix answers, whatever it is given. What Encode of package erasure answers, whatever it is given. What the inner function parityOf of package stripe answers: a row without bytes is told, and else Encode's answer. How long tapes are: Len of package stripe, and the document's own. What Parity of package stripe answers. The example of chapter 13 holds: 'alive' answers true. What Few of chapter 8's law answers. What Few of chapter 13's law answers. A slice of slices that is made by append: each of its rows is older than it, or a row of the call's own. No function of the program. What the document's own Row answers. -/
import Derived.Test.YtcmdggdionghcaaMd
import Derived.Test.YtcmdggdionghcaaMc
import Derived.Deep.AppendLies
import Derived.Test.YtcmdggdionghcaaMb
import Derived.Test.YtcmdggdionghcaaChecked
import Derived.OwnWalk
import Derived.Handy
import Derived.WalkSpells
import Derived.WalkLawsBesides
namespace Go.Proofs.Ytcmdggdionghcaa
open Go.RowKit Mx

set_option maxHeartbeats 2000000 in
theorem apply_own (A : Option Addr) (n C m : Nat) (M : Mat) (G : Nat → Prop) (A' : Option Addr) (C' : Nat) (v : Nat → Fe) (G' : Nat → Prop) (w : World) (hn0 : 0 < n) (hn : n ≤ 255) (hm0 : 0 < m) (hm : m ≤ 255)
    (h : RdM w A n (fun _ => m) M G) (h' : Rd w A' m v G') :
    Calls Try.prog 35 #[.slice A n C, .slice A' m C'] w (OwnV 0 n (mv m M v) w) := by
  have hR : rightB n (fun _ => m) = true := rightB_true.2 ⟨hn0, hn, hm0, hm, fun _ _ => rfl⟩
  obtain ⟨b0, off0, A0, C0, rfl, _, hc0, _⟩ := h.row hn0
  rw [Nat.add_zero] at hc0
  have H := Lib.hid h
  have H' := Lib.hid h'
  have HR := Lib.hid hR
  clear h h' hR
  have hmk := run_make_row' (P := Try.prog) 40 5 (.int .u8 0) 1 Try.underlying40 infoByte rfl .i64 .i64 n (by omega) (by omega)
  go_enter Try.func35, Try.ntmps35
  go_wp2_with fail
  refine (right_is _ n C _ M _ _ true (by unfold maxLen; omega) H.out HR.out).mono ?_
  rintro e w' ⟨rfl, rfl⟩
  go_wp2
  clear hmk HR
  go_loopw [28] (fun vi wr => ∃ i : Nat, i ≤ n ∧ vi = .int .i64 (i : Int) ∧ Hid (RowAt wr w.heap.size n (part (mv m M v) i 0)) ∧ Hid (Below w.heap.size w wr)) (fun vi _ => n - (intOf vi).toNat)
  case atStart => exact ⟨0, by omega, rfl, Lib.hid ((RowAt.made w n).congr fun j _ => by unfold part; rw [if_neg (by omega)]; split <;> rfl), Lib.hid ((Below.refl _ _).alloc (Nat.le_refl _) _)⟩
  case round =>
    obtain ⟨i, hi, rfl, HO, HB⟩ := hrel
    by_cases hlt : i < n
    · obtain ⟨b1, off1, Ai, Ci, e, _, hci, hri⟩ := (H.out.old HB.out).row hlt
      obtain ⟨rfl, rfl⟩ : b0 = b1 ∧ off0 = off1 := by simpa using e
      have HRI : Hid (Rd w Ai m (M i) (fun x => x < w.heap.size)) := by
        obtain ⟨b2, off2, Aj, Cj, e2, _, hcj, hrj⟩ := H.out.row hlt
        obtain ⟨rfl, rfl⟩ : b0 = b2 ∧ off0 = off2 := by simpa using e2
        have := (HB.out.cell (World.block_lt_of_cell? _ _ hcj)).trans hcj
        rw [hci] at this
        simp only [Option.some.injEq, Value.slice.injEq] at this
        obtain ⟨rfl, _, _⟩ := this
        intro hm'
        obtain ⟨b3, off3, e3, _, hc3⟩ := hrj hm'
        exact ⟨b3, off3, e3, World.block_lt_of_cell? _ _ (hc3 0 hm'), hc3⟩
      clear e hri
      go_wp2
      go_loopw [35] (fun vj wq => ∃ j : Nat, j ≤ m ∧ vj = .int .i64 (j : Int) ∧ Hid (RowAt wq w.heap.size n (part (mv m M v) i (sm j fun t => M i t * v t))) ∧ Hid (Below w.heap.size w wq)) (fun vj _ => m - (intOf vj).toNat)
      case atStart => exact ⟨0, by omega, rfl, HO, HB⟩
      case round =>
        obtain ⟨j, hj, rfl, HO2, HB2⟩ := hrel
        clear HO HB hci hc0
        by_cases hlt2 : j < m
        · obtain ⟨b2, off2, rfl, _, d1⟩ := (HRI.out.old HB2.out).at hlt2
          obtain ⟨b3, off3, rfl, _, d2⟩ := (H'.out.old HB2.out).at hlt2
          have d3 := HO2.out.cell hlt
          rw [part_at] at d3
          have f3 := HO2.out.frozen i
          go_wp2
          refine wp_region_still_tail 14 (by kernel_rfl) (by kernel_rfl) ?_
          simp only [List.take_succ_cons, List.take_zero, List.drop_succ_cons, List.drop_zero]
          repeat (first | still_step | still_call (mul_st _ _ _) | still_call (add_st _ _ _))
          refine wpStill_nil ?_
          change wpList _ _ _ _ _ wr.drew
          go_wp2
          go_roundw
          case rel => exact ⟨j + 1, by omega, by go_num, Lib.hid ((HO2.out.set i ((sm j fun t => M i t * v t) + M i j * v j)).congr fun x _ => part_set _ _ _ _ _), Lib.hid ((HB2.out.drew).setCell (p := ⟨w.heap.size, i, none⟩) (Nat.le_refl _) _)⟩
          case measure => simp [intOf]; omega
        · have HO3 : Hid (RowAt wr w.heap.size n (part (mv m M v) (i + 1) 0)) := by
            have hjm : j = m := by omega
            have hh := HO2.out
            rw [hjm] at hh
            exact Lib.hid (hh.congr fun x _ => part_next (mv m M v) i x)
          clear HO2
          go_wp2
          go_roundw
          case rel => exact ⟨i + 1, by omega, by go_num, HO3, HB2⟩
          case measure => simp [intOf]; omega
    · go_wp2
      go_ret2
      refine ⟨_, _, rfl, Nat.le_refl _, HO.out.congr fun x hx => ?_, HB.out⟩
      unfold part; rw [if_pos (by omega)]
theorem apply_main (A : Option Addr) (n C m : Nat) (M : Mat) (G : Nat → Prop) (A' : Option Addr) (C' : Nat) (v : Nat → Fe) (G' : Nat → Prop) (w : World) (hn0 : 0 < n) (hn : n ≤ 255) (hm0 : 0 < m) (hm : m ≤ 255)
    (h : RdM w A n (fun _ => m) M G) (h' : Rd w A' m v G') :
    Calls Try.prog 35 #[.slice A n C, .slice A' m C'] w (ResV 0 n (mv m M v) w) :=
  (apply_own A n C m M G A' C' v G' w hn0 hn hm0 hm h h').mono fun _ _ hh => hh.res
set_option maxHeartbeats 1000000 in
theorem apply_any (A : Option Addr) (n C : Nat) (L : Nat → Nat) (M : Mat) (G : Nat → Prop) (A' : Option Addr) (m C' : Nat) (v : Nat → Fe) (G' : Nat → Prop) (w : World) (hm : n ≤ maxLen) (h : RdM w A n L M G) (h' : Rd w A' m v G') :
    Calls Try.prog 35 #[.slice A n C, .slice A' m C'] w (ApplyAny n L M m v w) := by
  by_cases hr : rightB n L = true
  · obtain ⟨h1, h2, h3, h4, h5⟩ := rightB_true.1 hr
    by_cases he : L 0 = m
    · refine (apply_main A n C m M G A' C' v G' w (by omega) h2 (by omega) (by omega) (h.congr (fun i hi => by rw [h5 i hi, he]) (fun _ _ _ _ => rfl)) h').mono fun e w' hh => ?_
      unfold ApplyAny
      rw [if_pos ⟨hr, he⟩]; exact hh
    · obtain ⟨b0, off0, A0, C0, rfl, _, hc0, _⟩ := h.row (i := 0) (by omega)
      rw [Nat.add_zero] at hc0
      have hb : ((L 0 : Int) != (m : Int)) = true := by rw [bne_iff_ne]; omega
      have HN : Hid (¬ (rightB n L = true ∧ L 0 = m)) := Lib.hid (fun hh => he hh.2)
      have H := Lib.hid h
      have HR := Lib.hid hr
      clear h hr he h5 h'
      go_enter Try.func35, Try.ntmps35
      go_wp2_with fail
      refine (right_is _ n C L M _ _ true hm H.out HR.out).mono ?_
      rintro e w' ⟨rfl, rfl⟩
      go_wp2
      go_ret2
      unfold ApplyAny; rw [if_neg HN.out]; exact ResV.bad w (Below.refl _ _)
  · have hr' : rightB n L = false := by simpa using hr
    have HN : Hid (¬ (rightB n L = true ∧ L 0 = m)) := Lib.hid (fun hh => hr hh.1)
    have H := Lib.hid h
    have HR := Lib.hid hr'
    clear h hr hr' h'
    go_enter Try.func35, Try.ntmps35
    go_wp2_with fail
    refine (right_is _ n C L M _ _ false hm H.out HR.out).mono ?_
    rintro e w' ⟨rfl, rfl⟩
    go_wp2
    go_ret2
    unfold ApplyAny; rw [if_neg HN.out]; exact ResV.bad w (Below.refl _ _)
end Go.Proofs.Ytcmdggdionghcaa
namespace Go.Proofs.Ytcmdggdionghcaa
open Go.RowKit Mx

/-- the columns ahead of k are made, of column k the first i -/
def upto (X : Mat) (k i : Nat) : Mat := fun r c => if c < k then X r c else if c = k ∧ r < i then X r c else 0
theorem upto_zero (X : Mat) (r c : Nat) : upto X 0 0 r c = 0 := by
  unfold upto; rw [if_neg (by omega), if_neg (by omega)]
theorem upto_next {X : Mat} {k p r c : Nat} (hr : r < p) : upto X k p r c = upto X (k + 1) 0 r c := by
  unfold upto
  by_cases e : c < k
  · rw [if_pos e, if_pos (by omega)]
  · rw [if_neg e]
    by_cases e' : c = k
    · rw [if_pos ⟨e', hr⟩, if_pos (by omega)]
    · rw [if_neg (by omega), if_neg (by omega), if_neg (by omega)]
theorem upto_all {X : Mat} {m r c : Nat} (hc : c < m) : upto X m 0 r c = X r c := by
  unfold upto; rw [if_pos hc]
theorem upto_set {X : Mat} {k i r c : Nat} : (if r = i then (fun c => if c = k then X i k else upto X k i i c) else upto X k i r) c = upto X k (i + 1) r c := by
  unfold upto
  by_cases e : r = i
  · rw [if_pos e]
    by_cases e' : c = k
    · subst e; subst e'; simp
    · simp only [e', if_false, e]
      by_cases e2 : c < k
      · rw [if_pos e2, if_pos e2]
      · simp [e2]
  · rw [if_neg e]
    by_cases e2 : c < k
    · rw [if_pos e2, if_pos e2]
    · rw [if_neg e2, if_neg e2]
      by_cases e3 : c = k ∧ r < i
      · rw [if_pos e3, if_pos ⟨e3.1, by omega⟩]
      · rw [if_neg e3, if_neg (by omega)]

set_option maxHeartbeats 4000000 in
theorem applied_own (A : Option Addr) (p C : Nat) (Q : Mat) (G : Nat → Prop) (A' : Option Addr) (n C' m : Nat) (Y : Mat) (G' : Nat → Prop) (w : World) (hp0 : 0 < p) (hp : p ≤ 255) (hn0 : 0 < n) (hn : n ≤ 255) (hm : m ≤ 1000000)
    (h : RdM w A p (fun _ => n) Q G) (h' : RdM w A' n (fun _ => m) Y G') :
    Calls Try.prog 27 #[.slice A p C, .slice A' n C'] w (OwnM 0 p m (fun i c => mv n Q (fun j => Y j c) i) w) := by
  obtain ⟨X, hX⟩ : ∃ X : Mat, X = fun i c => mv n Q (fun j => Y j c) i := ⟨_, rfl⟩
  rw [← hX]
  have HX := Lib.hid hX
  obtain ⟨b0, off0, A0, C0, rfl, _, hc0, _⟩ := h'.row hn0
  rw [Nat.add_zero] at hc0
  have hb0 := World.block_lt_of_cell? _ _ hc0
  have HC0 := Lib.hid hc0
  have H := Lib.hid h
  have H' := Lib.hid h'
  clear h h' hX hc0
  have hmk := run_make_row' (P := Try.prog) 34 40 (.slice none 0 0) 24 Try.underlying34 infoRow rfl .i64 .i64 p (by omega) (by omega)
  have HMK := Lib.hid (run_make_row' (P := Try.prog) 40 5 (.int .u8 0) 1 Try.underlying40 infoByte rfl .i64 .i64 m (by omega) (by omega))
  have HMN := Lib.hid (run_make_row' (P := Try.prog) 40 5 (.int .u8 0) 1 Try.underlying40 infoByte rfl .i64 .i64 n (by omega) (by omega))
  go_enter Try.func27, Try.ntmps27
  go_wp2
  clear hmk
  go_loopw [21] (fun vi wr => ∃ i : Nat, i ≤ p ∧ vi = .int .i64 (i : Int) ∧ Hid (∃ G C, OwnK wr w.heap.size w.heap.size p i m G C (fun _ _ => 0)) ∧ Hid (Below w.heap.size w wr)) (fun vi _ => p - (intOf vi).toNat)
  case atStart => exact ⟨0, by omega, rfl, Lib.hid ⟨fun _ => 0, fun _ => 0, OwnK.start w _ p m _ _ _⟩, Lib.hid ((Below.refl _ _).alloc (Nat.le_refl _) _)⟩
  case round =>
    obtain ⟨i, hi, rfl, HO, HB⟩ := hrel
    obtain ⟨G1, Cp1, hO⟩ := HO.out
    have HO' := Lib.hid hO
    clear hO HO
    have d0 := (HB.out.cell hb0).trans HC0.out
    by_cases hlt : i < p
    · have hb1 : Below wr.heap.size wr (wr.alloc (.cells (madeCells #[.int .u8 0] m) 5)) := (Below.refl _ _).alloc (Nat.le_refl _) _
      have hO1 := HO'.out.old hb1
      have hct := hO1.top.cell hlt
      rw [if_neg (by omega)] at hct
      have hft := hO1.top.frozen i
      have HP := Lib.hid (HO'.out.push hb1 (Nat.le_refl _) HB.out.size (Nat.le_refl m) (RowAt.made wr m))
      have HB1 := Lib.hid ((HB.out.trans (hb1.mono HB.out.size)).setCell (p := ⟨w.heap.size, i, none⟩) (Nat.le_refl _) (.slice (some ⟨wr.heap.size, 0, none⟩) m m))
      have hmk := HMK.out
      clear hb1 hO1
      go_wp2
      go_roundw
      case rel => exact ⟨i + 1, by omega, by go_num, Lib.hid ⟨_, _, HP.out.congr (M' := fun _ _ => 0) fun r _ c _ => by by_cases e : r = i <;> simp [e]⟩, HB1⟩
      case measure => simp [intOf]; omega
    · obtain ⟨wo, rfl⟩ : ∃ x, x = wr := ⟨wr, rfl⟩
      have hip : i = p := by omega
      have hO2 := HO'.out
      rw [hip] at hO2
      have hsz : b0 < wo.heap.size := World.block_lt_of_cell? _ _ d0
      have HGL : Hid (∀ r, r < p → G1 r < wo.heap.size) := Lib.hid fun r hr => (hO2.rows r hr).lt
      have hwb : w.heap.size < wo.heap.size := hO2.top.lt
      have hal : Below wo.heap.size wo (wo.alloc (.cells (madeCells #[.int .u8 0] n) 5)) := (Below.refl _ _).alloc (Nat.le_refl _) _
      have HO3 := Lib.hid ((hO2.old hal).congr (M' := upto X 0 0) fun r _ c _ => (upto_zero X r c).symm)
      have HB3 := Lib.hid (HB.out.trans (hal.mono HB.out.size))
      have HCol := Lib.hid (RowAt.made wo n)
      have d1 := (hal.cell hsz).trans d0
      clear hO2 HO' HB hal hip
      have hmk := HMN.out
      go_wp2
      clear hmk d0 d1
      generalize wo.alloc (.cells (madeCells #[.int .u8 0] n) 5) = ws at HO3 HB3 HCol ⊢
      obtain ⟨gc, hgc⟩ : ∃ g, g = wo.heap.size := ⟨_, rfl⟩
      rw [← hgc] at HCol HGL hwb ⊢
      clear hgc hsz
      go_loopw [40] (fun vk wr => ∃ k : Nat, k ≤ m ∧ vk = .int .i64 (k : Int) ∧ Hid (∃ f, RowAt wr gc n f) ∧ Hid (OwnK wr w.heap.size w.heap.size p p m G1 Cp1 (upto X k 0)) ∧ Hid (Below w.heap.size w wr)) (fun vk _ => m - (intOf vk).toNat)
      case atStart => exact ⟨0, by omega, rfl, Lib.hid ⟨_, HCol.out⟩, HO3, HB3⟩
      case round =>
        obtain ⟨k, hk, rfl, HF, HO4, HB4⟩ := hrel
        clear HO3 HB3 HCol
        obtain ⟨f, hf⟩ := HF.out
        have HF' := Lib.hid hf
        clear hf HF
        by_cases hlt2 : k < m
        · go_wp2
          go_loopw [45] (fun vj wq => ∃ j : Nat, j ≤ n ∧ vj = .int .i64 (j : Int) ∧ Hid (RowAt wq gc n (fun x => if x < j then Y x k else f x)) ∧ Hid (OwnK wq w.heap.size w.heap.size p p m G1 Cp1 (upto X k 0)) ∧ Hid (Below w.heap.size w wq)) (fun vj _ => n - (intOf vj).toNat)
          case atStart => exact ⟨0, by omega, rfl, Lib.hid (HF'.out.congr fun x _ => by rw [if_neg (by omega)]), HO4, HB4⟩
          case round =>
            obtain ⟨j, hj, rfl, HC5, HO5, HB5⟩ := hrel
            clear HF' HO4 HB4
            by_cases hlt3 : j < n
            · obtain ⟨b1, off1, Aj, Cj, e, _, d1, hrj⟩ := (H'.out.old HB5.out).row hlt3
              obtain ⟨rfl, rfl⟩ : b0 = b1 ∧ off0 = off1 := by simpa using e
              obtain ⟨b2, off2, rfl, _, d2⟩ := hrj.at hlt2
              have d3 := HC5.out.cell hlt3
              have f3 := HC5.out.frozen j
              have HC6 := Lib.hid ((HC5.out.set j (Y j k)).congr (f' := fun x => if x < j + 1 then Y x k else f x) fun x _ => upTo_step (h := fun x => Y x k))
              have HO6 := Lib.hid (HO5.out.kp (Kp.store wr gc j (.int .u8 (fi (Y j k)))) (by omega) (fun r hr => by have := HGL.out r hr; omega))
              have HB6 := Lib.hid (HB5.out.setCell (p := ⟨gc, j, none⟩) (Nat.le_of_lt hwb) (.int .u8 (fi (Y j k))))
              clear e hrj HC5 HO5 HB5
              go_wp2
              go_roundw
              case rel => exact ⟨j + 1, by omega, by go_num, HC6, HO6, HB6⟩
              case measure => simp [intOf]; omega
            · have HC7 := Lib.hid (HC5.out.congr (f' := fun x => Y x k) fun x hx => by rw [if_pos (by omega)])
              clear HC5
              go_wp2_with fail
              refine (apply_own _ p C n Q _ _ n (fun x => Y x k) (fun _ => True) _ hp0 hp hn0 hn (H.out.old HB5.out) (HC7.out.rd _ trivial)).mono ?_
              rintro e w1 ⟨gm, cm, rfl, hgm, hrm, hbm⟩
              have hgm2 : gc < gm := by have := HC7.out.lt; omega
              have HGM : Hid (∀ r, r < p → G1 r ≠ gm) := Lib.hid fun r hr => by have := HGL.out r hr; omega
              have hwm : w.heap.size ≠ gm := by omega
              have HM8 : Hid (RowAt w1 gm p (fun r => X r k)) := by rw [HX.out]; exact Lib.hid hrm
              have HC8 := Lib.hid (HC7.out.old hbm)
              have HO8 := Lib.hid (HO5.out.old hbm)
              have HB8 := Lib.hid (HB5.out.trans (hbm.mono HB5.out.size))
              clear hrm hbm HC7 HO5 HB5
              go_wp2
              go_loopw [69] (fun vi wq => ∃ i : Nat, i ≤ p ∧ vi = .int .i64 (i : Int) ∧ Hid (RowAt wq gm p (fun r => X r k)) ∧ Hid (RowAt wq gc n (fun x => Y x k)) ∧ Hid (OwnK wq w.heap.size w.heap.size p p m G1 Cp1 (upto X k i)) ∧ Hid (Below w.heap.size w wq)) (fun vi _ => p - (intOf vi).toNat)
              case atStart => exact ⟨0, by omega, rfl, HM8, HC8, HO8, HB8⟩
              case round =>
                obtain ⟨i2, hi2, rfl, HM9, HC9, HO9, HB9⟩ := hrel
                clear HM8 HC8 HO8 HB8
                by_cases hlt4 : i2 < p
                · have d1 := HM9.out.cell hlt4
                  have d2 := HO9.out.top.cell hlt4
                  rw [if_pos hlt4] at d2
                  have hrow := HO9.out.rows i2 hlt4
                  have d3 := hrow.cell hlt2
                  have f3 := hrow.frozen k
                  have hne1 := HGM.out i2 hlt4
                  have hne2 := HGL.out i2 hlt4
                  have hkp := Kp.store wr (G1 i2) k (.int .u8 (fi (X i2 k)))
                  have HO10 := Lib.hid ((HO9.out.turn (i := i2) hlt4 hkp (hrow.set k (X i2 k))).congr (M' := upto X k (i2 + 1)) fun r _ c _ => upto_set)
                  have HM10 := Lib.hid (HM9.out.kp hkp (fun e => hne1 e.symm))
                  have HC10 := Lib.hid (HC9.out.kp hkp (by omega))
                  have HB10 := Lib.hid (HB9.out.setCell (p := ⟨G1 i2, k, none⟩) (HO9.out.lo i2 hlt4) (.int .u8 (fi (X i2 k))))
                  clear hkp hrow HM9 HC9 HO9 HB9
                  go_wp2
                  go_roundw
                  case rel => exact ⟨i2 + 1, by omega, by go_num, HM10, HC10, HO10, HB10⟩
                  case measure => simp [intOf]; omega
                · have HO11 := Lib.hid (HO9.out.congr (M' := upto X (k + 1) 0) fun r hr c _ => by
                    rw [show i2 = p by omega]; exact upto_next hr)
                  clear HO9
                  go_wp2
                  go_roundw
                  case rel => exact ⟨k + 1, by omega, by go_num, Lib.hid ⟨_, HC9.out⟩, HO11, HB9⟩
                  case measure => simp [intOf]; omega
        · have HO5 := Lib.hid (HO4.out.congr (M' := X) fun r _ c hc => by rw [show k = m by omega]; exact upto_all hc)
          clear HO4
          go_wp2
          go_ret2
          exact ⟨_, _, _, rfl, Nat.le_refl _, HO5.out, HB4.out⟩
end Go.Proofs.Ytcmdggdionghcaa
namespace Go.Proofs.Ytcmdggdionghcaa
open Go.RowKit Mx

set_option maxHeartbeats 1000000 in
theorem cauchy_bad (d p : Int) (w : World) (_hd : -9223372036854775808 ≤ d) (_hd' : d ≤ 9223372036854775807) (_hp : -9223372036854775808 ≤ p) (_hp' : p ≤ 9223372036854775807) (h : d < 1 ∨ p < 1 ∨ 255 < p ∨ 255 - p < d) :
    Calls Try.prog 26 #[.int .i64 d, .int .i64 p] w (ResM 1 0 0 one w) := by
  by_cases h1 : d < 1
  · clear h
    go_enter Try.func26, Try.ntmps26
    go_wp2
    go_ret2
    exact ResM.bad w (Below.refl _ _)
  · by_cases h2 : p < 1
    · clear h
      go_enter Try.func26, Try.ntmps26
      go_wp2
      go_ret2
      exact ResM.bad w (Below.refl _ _)
    · by_cases h3 : 255 < p
      · clear h
        go_enter Try.func26, Try.ntmps26
        go_wp2
        go_ret2
        exact ResM.bad w (Below.refl _ _)
      · have h4 : 255 - p < d := by omega
        clear h
        go_enter Try.func26, Try.ntmps26
        go_wp2
        go_ret2
        exact ResM.bad w (Below.refl _ _)
set_option maxHeartbeats 2000000 in
theorem cauchy_main (d p : Nat) (w : World) (hd0 : 0 < d) (hp0 : 0 < p) (hdp : d + p ≤ 255) :
    Calls Try.prog 26 #[.int .i64 (d : Int), .int .i64 (p : Int)] w (ResM 0 p d (cau p) w) := by
  have hmk := run_make_row' (P := Try.prog) 34 40 (.slice none 0 0) 24 Try.underlying34 infoRow rfl .i64 .i64 p (by omega) (by omega)
  have HMK := Lib.hid (run_make_row' (P := Try.prog) 40 5 (.int .u8 0) 1 Try.underlying40 infoByte rfl .i64 .i64 d (by omega) (by omega))
  go_enter Try.func26, Try.ntmps26
  go_wp2
  clear hmk
  go_loopw [29] (fun vi wr => ∃ i : Nat, i ≤ p ∧ vi = .int .i64 (i : Int) ∧ Hid (∃ G C, OwnK wr w.heap.size w.heap.size p i d G C (cau p)) ∧ Hid (Below w.heap.size w wr)) (fun vi _ => p - (intOf vi).toNat)
  case atStart => exact ⟨0, by omega, rfl, Lib.hid ⟨fun _ => 0, fun _ => 0, OwnK.start w _ p d _ _ _⟩, Lib.hid ((Below.refl _ _).alloc (Nat.le_refl _) _)⟩
  case round =>
    obtain ⟨i, hi, rfl, HO, HB⟩ := hrel
    obtain ⟨G1, Cp1, hO⟩ := HO.out
    have HO' := Lib.hid hO
    clear hO HO
    by_cases hlt : i < p
    · have hb1 : Below wr.heap.size wr (wr.alloc (.cells (madeCells #[.int .u8 0] d) 5)) := (Below.refl _ _).alloc (Nat.le_refl _) _
      have hO1 := HO'.out.old hb1
      have hct := hO1.top.cell hlt
      rw [if_neg (by omega)] at hct
      have hft := hO1.top.frozen i
      have hP := HO'.out.push hb1 (Nat.le_refl _) HB.out.size (Nat.le_refl d) (RowAt.made wr d)
      have hct2 := hP.top.cell hlt
      simp only [if_true, show i < i + 1 by omega] at hct2
      have HP := Lib.hid hP
      have HB1 := Lib.hid ((HB.out.trans (hb1.mono HB.out.size)).setCell (p := ⟨w.heap.size, i, none⟩) (Nat.le_refl _) (.slice (some ⟨wr.heap.size, 0, none⟩) d d))
      have hmk := HMK.out
      clear hb1 hO1 hP
      go_wp2
      clear hmk hct hft hct2
      generalize (wr.alloc (.cells (madeCells #[.int .u8 0] d) 5)).setCell ⟨w.heap.size, i, none⟩ (.slice (some ⟨wr.heap.size, 0, none⟩) d d) = ws at HP HB1 ⊢
      obtain ⟨G2, hG2⟩ : ∃ g, g = (fun r => if r = i then wr.heap.size else G1 r) := ⟨_, rfl⟩
      obtain ⟨C2, hC2⟩ : ∃ g, g = (fun r => if r = i then d else Cp1 r) := ⟨_, rfl⟩
      rw [← hG2, ← hC2] at HP
      clear hG2 hC2 HO' HB
      go_loopw [42] (fun vj wq => ∃ j : Nat, j ≤ d ∧ vj = .int .i64 (j : Int) ∧ Hid (OwnK wq w.heap.size w.heap.size p (i + 1) d G2 C2 (fun r => if r = i then (fun c => if c < j then cau p i c else 0) else cau p r)) ∧ Hid (Below w.heap.size w wq)) (fun vj _ => d - (intOf vj).toNat)
      case atStart => exact ⟨0, by omega, rfl, HP, HB1⟩
      case round =>
        obtain ⟨j, hj, rfl, HO2, HB2⟩ := hrel
        clear HP HB1
        by_cases hlt2 : j < d
        · have d1 := HO2.out.top.cell hlt
          rw [if_pos (by omega)] at d1
          have hrow := HO2.out.rows i (by omega)
          rw [if_pos rfl] at hrow
          have d2 := hrow.cell hlt2
          have f2 := hrow.frozen j
          have HRW := Lib.hid hrow
          have HCI := Lib.hid (cau_int (p := p) (i := i) (j := j) (by omega) (by omega))
          clear hrow
          have s1 : (0 : Int) ≤ (p : Int) + (j : Int) := by omega
          have s2 : (p : Int) + (j : Int) < 256 := by omega
          have s3 : IntKind.i64.wrap ((p : Int) + (j : Int)) = (p : Int) + (j : Int) := IntWalk.i64_in _ (by omega)
          have s4 : IntKind.u8.wrap ((p : Int) + (j : Int)) = (p : Int) + (j : Int) := IntWalk.u8_in _ (by omega)
          have s5 : IntKind.u8.wrap (i : Int) = (i : Int) := IntWalk.u8_in _ (by omega)
          go_wp2
          refine wp_region_still_tail 14 (by kernel_rfl) (by kernel_rfl) ?_
          simp only [List.take_succ_cons, List.take_zero, List.drop_succ_cons, List.drop_zero]
          repeat still_step
          still_call (add_ist (i : Int) ((p : Int) + (j : Int)) _ (by omega) (by omega) (by omega) (by omega))
          still_call (inv_ist _ _ (gadd_rng _ _ (by omega) (by omega) (by omega) (by omega)).1 (gadd_rng _ _ (by omega) (by omega) (by omega) (by omega)).2)
          repeat still_step
          refine wpStill_nil ?_
          rw [HCI.out]
          change wpList _ _ _ _ _ wr.drew
          clear s3 s4 s5
          go_wp2
          go_roundw
          case rel =>
            refine ⟨j + 1, by omega, by go_num, Lib.hid ((HO2.out.drew.turn (i := i) (by omega) (Kp.store wr.drew (G2 i) j (.int .u8 (fi (cau p i j)))) (HRW.out.set j (cau p i j))).congr fun r _ c _ => ?_), Lib.hid ((HB2.out.drew).setCell (p := ⟨G2 i, j, none⟩) (HO2.out.lo i (by omega)) _)⟩
            by_cases e : r = i
            · rw [if_pos e, if_pos e]
              exact upTo_step (f := fun _ => 0) (h := fun c => cau p i c)
            · rw [if_neg e, if_neg e, if_neg e]
          case measure => simp [intOf]; omega
        · have HO3 : Hid (∃ G C, OwnK wr w.heap.size w.heap.size p (i + 1) d G C (cau p)) := Lib.hid ⟨_, _, HO2.out.congr fun r _ c hc => by
            by_cases e : r = i
            · rw [if_pos e, if_pos (by omega), e]
            · rw [if_neg e]⟩
          clear HO2
          go_wp2
          go_roundw
          case rel => exact ⟨i + 1, by omega, by go_num, HO3, HB2⟩
          case measure => simp [intOf]; omega
    · obtain rfl : i = p := by omega
      go_wp2
      go_ret2
      exact ⟨_, _, rfl, HO'.out.rdAll (Nat.le_refl _), HB.out⟩
end Go.Proofs.Ytcmdggdionghcaa
namespace Go.Proofs.Ytcmdggdionghcaa
open Go.RowKit Mx

set_option maxHeartbeats 2000000 in
theorem encode_main (A : Option Addr) (n C : Nat) (L : Nat → Nat) (D : Mat) (G : Nat → Prop) (p : Nat) (w : World) (hn0 : 0 < n) (hp0 : 0 < p) (hnp : n + p ≤ 255) (ha : ∀ i, i < n → L i = L 0) (hL : L 0 ≤ 1000000) (h : RdM w A n L D G) :
    Calls Try.prog 17 #[.slice A n C, .int .i64 (p : Int)] w (OwnM 0 p (L 0) (par n p D) w) := by
  have HA := Lib.hid (alikeB_true.2 ha)
  have H := Lib.hid h
  have H2 := Lib.hid (h.congr (L' := fun _ => L 0) (M' := D) ha (fun _ _ _ _ => rfl))
  have q1 : decide ((p : Int) < 0) = false := decide_eq_false (by omega)
  have q2 : decide ((255 : Int) - (n : Int) < (p : Int)) = false := decide_eq_false (by omega)
  have q3 : ((p : Int) == 0) = false := beq_eq_false_iff_ne.2 (by omega)
  clear h ha
  go_enter Try.func17, Try.ntmps17
  go_wp2_with fail
  refine (alike_is _ n C L D _ _ true (by unfold maxLen; omega) H.out HA.out).mono ?_
  rintro e w' ⟨rfl, rfl⟩
  go_wp2_with fail
  refine (cauchy_main n p _ hn0 hp0 hnp).mono ?_
  rintro e w1 ⟨A1, C1, rfl, hr1, hB1⟩
  have HR1 := Lib.hid hr1
  have HB1 := Lib.hid hB1
  clear hr1 hB1
  go_wp2_with fail
  refine (applied_own _ p C1 (cau p) _ _ n C (L 0) D _ _ hp0 (by omega) hn0 (by omega) hL HR1.out (H2.out.old HB1.out)).mono ?_
  rintro e w2 ⟨b, G2, C2, rfl, hb, hO, hB2⟩
  have HO := Lib.hid hO
  have HB2 := Lib.hid hB2
  clear hO hB2
  go_wp2
  go_ret2
  exact ⟨b, G2, C2, rfl, Nat.le_trans HB1.out.size hb, HO.out.down HB1.out.size, HB1.out.trans (HB2.out.mono HB1.out.size)⟩
set_option maxHeartbeats 2000000 in
theorem encode_new (A : Option Addr) (n C : Nat) (L : Nat → Nat) (D : Mat) (G : Nat → Prop) (p : Int) (w : World) (hn : n ≤ maxLen) (hL : 0 < n → L 0 ≤ 1000000) (hp : -9223372036854775808 ≤ p) (hp' : p ≤ 9223372036854775807) (h : RdM w A n L D G) :
    Calls Try.prog 17 #[.slice A n C, .int .i64 p] w (EncNew n L D p w) := by
  have HN := Lib.hid hn
  unfold maxLen at hn
  have H := Lib.hid h
  clear h
  by_cases h1 : n < 1
  · have HE : Hid (¬ EncOk n L p) := Lib.hid fun hh => by have := hh.1; omega
    go_enter Try.func17, Try.ntmps17
    go_wp2
    go_ret2
    exact EncNew.bad HE.out w (Below.refl _ _)
  · cases ha : alikeB n L with
    | false =>
      have HE : Hid (¬ EncOk n L p) := Lib.hid fun hh => by
        rw [alikeB_true.2 hh.2.1] at ha; cases ha
      have HA := Lib.hid ha
      clear ha
      go_enter Try.func17, Try.ntmps17
      go_wp2_with fail
      refine (alike_is _ n C L D _ _ false HN.out H.out HA.out).mono ?_
      rintro e w' ⟨rfl, rfl⟩
      go_wp2
      go_ret2
      exact EncNew.bad HE.out w (Below.refl _ _)
    | true =>
      have HA := Lib.hid ha
      clear ha
      by_cases h2 : p < 0
      · have HE : Hid (¬ EncOk n L p) := Lib.hid fun hh => by have := hh.2.2.1; omega
        go_enter Try.func17, Try.ntmps17
        go_wp2_with fail
        refine (alike_is _ n C L D _ _ true HN.out H.out HA.out).mono ?_
        rintro e w' ⟨rfl, rfl⟩
        go_wp2
        go_ret2
        exact EncNew.bad HE.out w (Below.refl _ _)
      · by_cases h3 : 255 - (n : Int) < p
        · have HE : Hid (¬ EncOk n L p) := Lib.hid fun hh => by have := hh.2.2.2; omega
          go_enter Try.func17, Try.ntmps17
          go_wp2_with fail
          refine (alike_is _ n C L D _ _ true HN.out H.out HA.out).mono ?_
          rintro e w' ⟨rfl, rfl⟩
          go_wp2
          go_ret2
          exact EncNew.bad HE.out w (Below.refl _ _)
        · obtain ⟨k, rfl⟩ : ∃ k : Nat, p = (k : Int) := ⟨p.toNat, by omega⟩
          have hok : EncOk n L (k : Int) := ⟨by omega, alikeB_true.1 HA.out, by omega, by omega⟩
          by_cases h4 : k = 0
          · have HE := Lib.hid hok
            subst h4
            clear hok
            go_enter Try.func17, Try.ntmps17
            go_wp2_with fail
            refine (alike_is _ n C L D _ _ true HN.out H.out HA.out).mono ?_
            rintro e w' ⟨rfl, rfl⟩
            go_wp2
            go_ret2
            exact EncNew.none HE.out w (Below.refl _ _)
          · exact (encode_main A n C L D G k w (by omega) (by omega) (by omega) (alikeB_true.1 HA.out) (hL (by omega)) H.out).mono fun e w' hh => EncNew.some hok (by omega) hh.new
theorem encode_any (A : Option Addr) (n C : Nat) (L : Nat → Nat) (D : Mat) (G : Nat → Prop) (p : Int) (w : World) (hn : n ≤ maxLen) (hL : 0 < n → L 0 ≤ 1000000) (hp : -9223372036854775808 ≤ p) (hp' : p ≤ 9223372036854775807) (h : RdM w A n L D G) :
    Calls Try.prog 17 #[.slice A n C, .int .i64 p] w (EncAny n L D p w) :=
  (encode_new A n C L D G p w hn hL hp hp' h).mono fun _ _ hh => hh.any
set_option maxHeartbeats 1000000 in
/-- rows all as long: parity, or nil where none is asked for -/
theorem encode_ok (A : Option Addr) (n C : Nat) (L : Nat → Nat) (D : Mat) (G : Nat → Prop) (p : Nat) (w : World) (hn0 : 0 < n) (hnp : n + p ≤ 255) (ha : ∀ i, i < n → L i = L 0) (hL : L 0 ≤ 1000000) (h : RdM w A n L D G) :
    Calls Try.prog 17 #[.slice A n C, .int .i64 (p : Int)] w fun e w' => ∃ A' C', e = .returned (.tuple #[.slice A' p C', .int .i64 0]) ∧ (A' = none → p = 0 ∧ C' = 0) ∧ RdM w' A' p (fun _ => L 0) (par n p D) (· < w'.heap.size) ∧ Below w.heap.size w w' := by
  by_cases hp : p = 0
  · subst hp
    have HA := Lib.hid (alikeB_true.2 ha)
    have H := Lib.hid h
    clear h ha
    have q2 : decide ((255 : Int) - (n : Int) < 0) = false := decide_eq_false (by omega)
    go_enter Try.func17, Try.ntmps17
    go_wp2_with fail
    refine (alike_is _ n C L D _ _ true (by unfold maxLen; omega) H.out HA.out).mono ?_
    rintro e w' ⟨rfl, rfl⟩
    go_wp2
    go_ret2
    exact ⟨none, 0, rfl, (fun _ => by simp), RdM.empty _ _ _ _ _, Below.refl _ _⟩
  · refine (encode_main A n C L D G p w hn0 (by omega) hnp ha hL h).mono ?_
    rintro e w' ⟨b, G', C', rfl, _, hO, hB⟩
    exact ⟨_, p, rfl, (fun hh => by cases hh), hO.rdAll (Nat.le_refl _), hB⟩
end Go.Proofs.Ytcmdggdionghcaa
namespace Go.Proofs.Ytcmdggdionghcaa
open Go.RowKit Mx
open Pt (Tx)

/-- has one of the rows no bytes? -/
def emptyB (n : Nat) (L : Nat → Nat) : Bool := decide (∃ i, i < n ∧ L i = 0)
theorem emptyB_true {n : Nat} {L : Nat → Nat} : emptyB n L = true ↔ ∃ i, i < n ∧ L i = 0 := decide_eq_true_iff
theorem emptyB_false {n : Nat} {L : Nat → Nat} : emptyB n L = false ↔ ∀ i, i < n → L i ≠ 0 := by
  unfold emptyB
  rw [decide_eq_false_iff_not]
  exact ⟨fun h i hi e => h ⟨i, hi, e⟩, fun h ⟨i, hi, e⟩ => h i hi e⟩
set_option maxHeartbeats 1000000 in
theorem index_empty (A : Option Addr) (n C : Nat) (L : Nat → Nat) (M : Mat) (G : Nat → Prop) (w : World) (hm : n ≤ 1000000) (h : RdM w A n L M G) :
    Calls Try.prog 36 #[.slice A n C, .func (.func 29) #[] #[]] w fun e w' => ∃ z : Int, e = .returned (.int .i64 z) ∧ decide (0 ≤ z) = emptyB n L ∧ w = w' := by
  have H := Lib.hid h
  clear h
  go_enter Try.func36, Try.ntmps36
  go_wp2
  go_loop [8] (fun vi => ∃ k : Nat, k ≤ n ∧ vi = .int .i64 (k : Int) ∧ Hid (∀ i, i < k → L i ≠ 0)) (fun vi => n - (intOf vi).toNat)
  case atStart => exact ⟨0, by omega, rfl, Lib.hid (fun i hi => absurd hi (by omega))⟩
  case round =>
    obtain ⟨k, hk, rfl, HL⟩ := hrel
    by_cases hlt : k < n
    · obtain ⟨b, off, Ak, Ck, rfl, _, hck, _⟩ := H.out.row hlt
      have e0 : decide (k < n) = true := decide_eq_true hlt
      by_cases he : L k = 0
      · have hb : ((L k : Int) == 0) = true := by rw [he]; rfl
        have HF := Lib.hid (emptyB_true.2 ⟨k, hlt, he⟩ : emptyB n L = true)
        clear he
        go_wp2
        go_ret
        exact ⟨(k : Int), rfl, by rw [HF.out]; exact decide_eq_true (by omega), rfl⟩
      · have hb : ((L k : Int) == 0) = false := beq_eq_false_iff_ne.2 (by omega)
        have HE := Lib.hid he
        clear he
        go_wp2
        go_round
        case rel => exact ⟨k + 1, by omega, by go_num, Lib.hid (fun i hi => by
          by_cases e : i = k
          · rw [e]; exact HE.out
          · exact HL.out i (by omega))⟩
        case measure => simp [intOf]; omega
    · have e0 : decide (k < n) = false := decide_eq_false hlt
      have HF := Lib.hid (emptyB_false.2 fun i hi => HL.out i (by omega) : emptyB n L = false)
      go_wp2
      go_ret
      exact ⟨-1, rfl, by rw [HF.out]; rfl, rfl⟩
theorem contains_empty (A : Option Addr) (n C : Nat) (L : Nat → Nat) (M : Mat) (G : Nat → Prop) (w : World) (hm : n ≤ 1000000) (h : RdM w A n L M G) :
    Calls Try.prog 28 #[.slice A n C, .func (.func 29) #[] #[]] w fun e w' => e = .returned (.bool (emptyB n L)) ∧ w = w' := by
  have H := Lib.hid h
  clear h
  go_enter Try.func28, Try.ntmps28
  go_wp2_with fail
  refine (index_empty A n C L M _ w hm H.out).mono ?_
  rintro e w' ⟨z, rfl, hz, rfl⟩
  have HZ := Lib.hid hz
  go_wp2
  go_ret
  exact ⟨rfl, rfl⟩
set_option maxHeartbeats 1000000 in
theorem parityOf_bad (A : Option Addr) (n C : Nat) (L : Nat → Nat) (D : Mat) (G : Nat → Prop) (p : Int) (w : World) (hn : n ≤ 1000000) (h : RdM w A n L D G) (he : emptyB n L = true) :
    Calls Try.prog 18 #[.slice A n C, .int .i64 p] w fun e w' => e = .returned (.tuple #[.slice none 0 0, .int .i64 1]) ∧ Below w.heap.size w w' := by
  have HC := Lib.hid (contains_empty A n C L D G w hn h)
  rw [he] at HC
  clear h he
  go_enter Try.func18, Try.ntmps18
  go_wp2_with fail
  refine HC.out.mono ?_
  rintro e w' ⟨rfl, rfl⟩
  go_wp2
  go_ret2
  exact ⟨rfl, Below.refl _ _⟩
set_option maxHeartbeats 1000000 in
theorem parityOf_ok (A : Option Addr) (n C : Nat) (L : Nat → Nat) (D : Mat) (G : Nat → Prop) (p : Int) (w : World) (hn : n ≤ 1000000) (hL : 0 < n → L 0 ≤ 1000000) (hp : -9223372036854775808 ≤ p) (hp' : p ≤ 9223372036854775807) (h : RdM w A n L D G) (he : emptyB n L = false) :
    Calls Try.prog 18 #[.slice A n C, .int .i64 p] w (EncNew n L D p w) := by
  have HC := Lib.hid (contains_empty A n C L D G w hn h)
  rw [he] at HC
  have HE := Lib.hid (encode_new A n C L D G p w (by unfold maxLen; omega) hL hp hp' h)
  clear h he
  have HQ : Hid (∀ e w', EncNew n L D p w e w' → ∃ A' k C' c, e = .returned (.tuple #[.slice A' k C', .int .i64 c])) := Lib.hid fun e w' hh => by
    unfold EncNew at hh
    split at hh
    · rcases hh with ⟨_, rfl, _⟩ | ⟨_, b, q, G', C', rfl, _⟩
      · exact ⟨_, _, _, _, rfl⟩
      · exact ⟨_, _, _, _, rfl⟩
    · obtain ⟨rfl, _⟩ := hh
      exact ⟨_, _, _, _, rfl⟩
  go_enter Try.func18, Try.ntmps18
  go_wp2_with fail
  refine HC.out.mono ?_
  rintro e w' ⟨rfl, rfl⟩
  go_wp2_with fail
  refine HE.out.mono ?_
  intro e w' hh
  obtain ⟨A', k, C', c, rfl⟩ := HQ.out e w' hh
  have HH := Lib.hid hh
  clear hh
  go_wp2
  go_ret2
  exact HH.out
end Go.Proofs.Ytcmdggdionghcaa
namespace Go.Proofs.Ytcmdggdionghcaa
open Go.RowKit Mx
open Pt (Tx)

set_option maxHeartbeats 2000000 in
theorem len_any (A : Option Addr) (ts : List St.T) (C : Nat) (G : Nat → Prop) (w : World) (hn : ts.length ≤ maxLen) (hr : RdT w A ts G) :
    Calls Try.prog 10 #[.slice A ts.length C] w fun e w' => e = .returned (.int .i64 (St.len ts : Int)) ∧ Below w.heap.size w w' := by
  unfold maxLen at hn
  have HR := Lib.hid hr
  clear hr
  go_enter Try.func10, Try.ntmps10
  go_wp2
  go_loopw [8, 3] (fun vi vm wr => ∃ i m : Nat, i ≤ ts.length ∧ vi = .int .i64 (i : Int) ∧ vm = .int .i64 (m : Int) ∧ Hid (m = St.len (ts.take i)) ∧ Hid (Below w.heap.size w wr)) (fun vi _ _ => ts.length - (intOf vi).toNat)
  case atStart => exact ⟨0, 0, Nat.zero_le _, rfl, rfl, Lib.hid rfl, Lib.hid (Below.refl _ _)⟩
  case round =>
    obtain ⟨i, m, hi, rfl, rfl, HM, HB⟩ := hrel
    by_cases hlt : i < ts.length
    · obtain ⟨b, off, A', C', rfl, -, c0, c1, c2, c3, hb⟩ := (HR.out.old HB.out).at_ hlt
      obtain ⟨⟨lab, cap, bs, lost⟩, ht⟩ : ∃ t, t = ts[i] := ⟨_, rfl⟩
      have HT := Lib.hid ht
      rw [← ht] at c0 c1 c2 c3
      dsimp only at c0 c1 c2 c3
      clear ht hb
      have e0 : decide (i < ts.length) = true := decide_eq_true hlt
      have HB1 := Lib.hid (HB.out.alloc HB.out.size (tapeObj lab cap A' bs.length C' lost))
      unfold tapeObj at HB1
      cases lost with
      | true =>
        have HM1 : Hid (m = St.len (ts.take (i + 1))) := Lib.hid (by rw [St.len_take hlt, ← HM.out, ← HT.out]; simp [St.one])
        have hmx : max (m : Int) 0 = (m : Int) := by omega
        go_wp2_with fail
        refine (blocks_lost lab cap A' bs.length C' _).mono ?_
        rintro e w1 ⟨rfl, hb1⟩
        have HB2 := Lib.hid (HB1.out.trans (hb1.mono HB1.out.size))
        clear hb1 c0 c1 c2 c3
        go_wp2
        go_roundw
        case rel => exact ⟨i + 1, m, by omega, by go_num, rfl, HM1, HB2⟩
        case measure => simp [intOf]; omega
      | false =>
        obtain ⟨k, hk⟩ : ∃ k, k = bs.length := ⟨_, rfl⟩
        have HM1 : Hid (max m k = St.len (ts.take (i + 1))) := Lib.hid (by rw [St.len_take hlt, ← HM.out, ← HT.out, hk]; simp [St.one])
        rw [← hk] at c2 HB1
        clear hk
        go_wp2_with fail
        refine (blocks_live lab cap A' k C' _).mono ?_
        rintro e w1 ⟨rfl, hb1⟩
        have HB2 := Lib.hid (HB1.out.trans (hb1.mono HB1.out.size))
        clear hb1 c0 c1 c2 c3
        go_wp2
        go_roundw
        case rel => exact ⟨i + 1, max m k, by omega, by go_num, by congr 1; split <;> omega, HM1, HB2⟩
        case measure => simp [intOf]; omega
    · have e0 : decide (i < ts.length) = false := decide_eq_false hlt
      have HE : Hid (m = St.len ts) := Lib.hid (by rw [HM.out, St.len_all (by omega)])
      go_wp2
      go_ret
      exact ⟨by rw [HE.out]; rfl, HB.out⟩
set_option maxHeartbeats 2000000 in
theorem refLen_any (A : Option Addr) (ts : List St.T) (C : Nat) (G : Nat → Prop) (w : World) (hn : ts.length ≤ maxLen) (hr : RdT w A ts G) :
    Calls Try.prog 11 #[.slice A ts.length C] w fun e w' => e = .returned (.int .i64 (St.len ts : Int)) ∧ w = w' := by
  unfold maxLen at hn
  have HR := Lib.hid hr
  clear hr
  go_enter Try.func11, Try.ntmps11
  go_wp2
  go_loop [4, 3] (fun vi vm => ∃ i m : Nat, i ≤ ts.length ∧ vi = .int .i64 (i : Int) ∧ vm = .int .i64 (m : Int) ∧ Hid (m = St.len (ts.take i))) (fun vi _ => ts.length - (intOf vi).toNat)
  case atStart => exact ⟨0, 0, Nat.zero_le _, rfl, rfl, Lib.hid rfl⟩
  case round =>
    obtain ⟨i, m, hi, rfl, rfl, HM⟩ := hrel
    by_cases hlt : i < ts.length
    · obtain ⟨b, off, A', C', rfl, -, c0, c1, c2, c3, hb⟩ := HR.out.at_ hlt
      obtain ⟨⟨lab, cap, bs, lost⟩, ht⟩ : ∃ t, t = ts[i] := ⟨_, rfl⟩
      have HT := Lib.hid ht
      rw [← ht] at c0 c1 c2 c3
      dsimp only at c0 c1 c2 c3
      clear ht hb
      have e0 : decide (i < ts.length) = true := decide_eq_true hlt
      cases lost with
      | true =>
        have HM1 : Hid (m = St.len (ts.take (i + 1))) := Lib.hid (by rw [St.len_take hlt, ← HM.out, ← HT.out]; simp [St.one])
        go_wp2
        go_round
        case rel => exact ⟨i + 1, m, by omega, by go_num, rfl, HM1⟩
        case measure => simp [intOf]; omega
      | false =>
        obtain ⟨k, hk⟩ : ∃ k, k = bs.length := ⟨_, rfl⟩
        have HM1 : Hid (max m k = St.len (ts.take (i + 1))) := Lib.hid (by rw [St.len_take hlt, ← HM.out, ← HT.out, hk]; simp [St.one])
        rw [← hk] at c2
        clear hk
        by_cases hmk : m < k
        · have e1 : decide ((m : Int) < (k : Int)) = true := decide_eq_true (by omega)
          have e2 : decide (m < k) = true := decide_eq_true hmk
          have HM2 : Hid (k = St.len (ts.take (i + 1))) := Lib.hid (by rw [← HM1.out]; omega)
          clear hmk HM1
          go_wp2
          go_round
          case rel => exact ⟨i + 1, k, by omega, by go_num, rfl, HM2⟩
          case measure => simp [intOf]; omega
        · have e1 : decide ((m : Int) < (k : Int)) = false := decide_eq_false (by omega)
          have e2 : decide (m < k) = false := decide_eq_false hmk
          have HM2 : Hid (m = St.len (ts.take (i + 1))) := Lib.hid (by rw [← HM1.out]; omega)
          clear hmk HM1
          go_wp2
          go_round
          case rel => exact ⟨i + 1, m, by omega, by go_num, rfl, HM2⟩
          case measure => simp [intOf]; omega
    · have e0 : decide (i < ts.length) = false := decide_eq_false hlt
      have HE : Hid (m = St.len ts) := Lib.hid (by rw [HM.out, St.len_all (by omega)])
      go_wp2
      go_ret
      exact ⟨by rw [HE.out]; rfl, rfl⟩
end Go.Proofs.Ytcmdggdionghcaa
namespace Go.Proofs.Ytcmdggdionghcaa
open Go.RowKit Mx
open Pt (Tx)

theorem infoMat : (Try.prog.info? 34).map (fun i => (i.zero, i.size, i.bytes)) = some (some (.slice none 0 0), 1, 24) := by kernel_rfl
theorem St.none_of {ts : List St.T} {n : Int} (h : emptyB ts.length (St.lens (St.row ts n)) = true) : ∃ t ∈ ts, St.blk n t = [] := by
  obtain ⟨i, hi, e⟩ := emptyB_true.1 h
  rw [(St.row_at hi).1] at e
  exact ⟨_, List.getElem_mem hi, List.length_eq_zero_iff.1 e⟩
theorem St.all_of {ts : List St.T} {n : Int} (h : emptyB ts.length (St.lens (St.row ts n)) = false) : (∀ i, i < ts.length → St.lens (St.row ts n) i = 79) ∧ ∀ t ∈ ts, St.blk n t ≠ [] := by
  have h1 := emptyB_false.1 h
  refine ⟨fun i hi => ?_, fun t ht e => ?_⟩
  · have h2 := h1 i hi
    rw [(St.row_at hi).1] at h2 ⊢
    rcases St.blk_len n ts[i] with h3 | h3
    · exact h3
    · rw [h3] at h2; exact absurd rfl h2
  · obtain ⟨i, hi, rfl⟩ := List.mem_iff_getElem.1 ht
    have h2 := h1 i hi
    rw [(St.row_at hi).1, e] at h2
    exact h2 rfl
theorem Inn.below {w w2 wq : World} {b p n j : Nat} {V0 : Nat → Value} {X : Nat → Mat} {N : Nat → Nat} (h : Inn w w2 wq b p n j V0 X) (hO : OutP w2 w.heap.size b p 79 V0 N X) (hB : Below w.heap.size w w2) : Below w.heap.size w wq :=
  hB.trans (h.kp.below hB.size fun k hk => by
    rcases hk with rfl | ⟨i, hi, e⟩
    · exact hO.lo
    · exact ((hO.rows i hi).lt e).1)
set_option maxRecDepth 100000 in
set_option maxHeartbeats 8000000 in
theorem parity_main (A : Option Addr) (ts : List St.T) (C : Nat) (G : Nat → Prop) (p : Nat) (w : World) (hn0 : 0 < ts.length) (hnp : ts.length + p ≤ 255) (hl : St.len ts ≤ 1000000) (hr : RdT w A ts G) :
    Calls Try.prog 7 #[.slice A ts.length C, .int .i64 (p : Int)] w (ParA ts (p : Int) w) := by
  have HR := Lib.hid hr
  have hmk := run_make_row' (P := Try.prog) 34 40 (.slice none 0 0) 24 Try.underlying34 infoRow rfl .i64 .i64 ts.length (by omega) (by omega)
  have HMK2 := Lib.hid (run_make_row' (P := Try.prog) 25 34 (.slice none 0 0) 24 Try.underlying25 infoMat rfl .i64 .i64 p (by omega) (by omega))
  have HB0 := Lib.hid ((Below.refl w.heap.size w).alloc (Nat.le_refl _) (.cells (madeCells #[.slice none 0 0] ts.length) 40))
  have HENC := Lib.hid (encode_ok (some ⟨w.heap.size, 0, none⟩) ts.length ts.length (fun _ => 0) one _ p _ hn0 hnp (fun _ _ => rfl) (Nat.zero_le _) (TopR.start w ts.length one).rdM)
  obtain ⟨i0, hi0, hz0, hz1, hz2⟩ := info_parts infoRow
  obtain ⟨K, hK⟩ : ∃ K, K = St.len ts := ⟨_, rfl⟩
  rw [← hK] at hl
  have HK := Lib.hid hK
  clear hr hK
  go_enter Try.func7, Try.ntmps7
  go_wp2_with fail
  refine HENC.out.mono ?_
  rintro e w1 ⟨A1, C1, rfl, -, -, hb1⟩
  have HB1 := Lib.hid (HB0.out.trans (hb1.mono HB0.out.size))
  have hmk2 := HMK2.out
  have hlo1 := HB1.out.size
  have HO1 : Hid (OutP (w1.alloc (.cells (madeCells #[.slice none 0 0] p) 34)) w.heap.size w1.heap.size p 79 (fun _ => .slice none 0 0) (fun _ => 0) (St.X ts p)) := Lib.hid (OutP.start _ _ _ _ _ _ hlo1 fun _ => RowV.made w1 _ _ p)
  have HB1' := Lib.hid (HB1.out.alloc HB1.out.size (.cells (madeCells #[.slice none 0 0] p) 34))
  clear hmk hb1 HENC HB0 HMK2
  go_wp2_with fail
  obtain ⟨b, hb⟩ : ∃ b, b = w1.heap.size := ⟨_, rfl⟩
  rw [← hb] at HO1 ⊢
  refine (len_any A ts C _ _ (by unfold maxLen; omega) (HR.out.old (HB1'.out.mono (Nat.le_refl _)))).mono ?_
  rintro e w2 ⟨rfl, hb2⟩
  rw [← HK.out]
  have HO2 := Lib.hid (HO1.out.old hb2)
  have HB2 := Lib.hid (HB1'.out.trans (hb2.mono HB1'.out.size))
  clear hb2 hb hmk2 HO1 HB1 HB1' hlo1
  go_wp2
  go_loopw [29] (fun vi wr => ∃ n : Nat, n ≤ K ∧ vi = .int .i64 (n : Int) ∧ Hid (∃ V, OutP wr w.heap.size b p 79 V (fun _ => n) (St.X ts p)) ∧ Hid (∀ m : Nat, m < n → ∀ t ∈ ts, St.blk (m : Int) t ≠ []) ∧ Hid (Below w.heap.size w wr)) (fun vi _ => K - (intOf vi).toNat)
  case atStart => exact ⟨0, Nat.zero_le _, rfl, Lib.hid ⟨_, HO2.out⟩, Lib.hid (fun m hm => absurd hm (by omega)), HB2⟩
  case round =>
    obtain ⟨n, hn, rfl, HO, HW, HB⟩ := hrel
    obtain ⟨wo, rfl⟩ : ∃ x, x = wr := ⟨wr, rfl⟩
    by_cases hlt : n < K
    · have e0 : decide (n < K) = true := decide_eq_true hlt
      go_wp2_with fail
      refine (row_any A ts C _ (n : Int) wo (by omega) (HR.out.old HB.out)).mono ?_
      rintro e w3 ⟨A3, C3, rfl, -, -, hr3, hb3⟩
      have HR3 := Lib.hid hr3
      have HB3 := Lib.hid (HB.out.trans (hb3.mono HB.out.size))
      have HBr := Lib.hid hb3
      clear hr3 hb3
      cases he : emptyB ts.length (St.lens (St.row ts (n : Int))) with
      | true =>
        have HN : Hid (¬ St.Ok ts (p : Int)) := Lib.hid fun h => by
          obtain ⟨t, ht, e⟩ := St.none_of he
          exact h.2 n (by rw [← HK.out]; exact hlt) t ht e
        go_wp2_with fail
        refine (parityOf_bad A3 ts.length C3 _ _ _ (p : Int) w3 (by omega) HR3.out he).mono ?_
        rintro e w4 ⟨rfl, hb4⟩
        have HB4 := Lib.hid (HB3.out.trans (hb4.mono HB3.out.size))
        clear hb4 he
        go_wp2
        go_ret2
        exact ParA.no HN.out HB4.out
      | false =>
        obtain ⟨h79, hne⟩ := St.all_of he
        have HW2 : Hid (∀ m : Nat, m < n + 1 → ∀ t ∈ ts, St.blk (m : Int) t ≠ []) := Lib.hid fun m hm => by
          by_cases e : m = n
          · subst e; exact hne
          · exact HW.out m (by omega)
        have hok : EncOk ts.length (St.lens (St.row ts (n : Int))) (p : Int) := ⟨hn0, fun i hi => by rw [h79 i hi, h79 0 hn0], by omega, by omega⟩
        have HOK := Lib.hid hok
        have H79 := Lib.hid h79
        clear hok h79 hne HW
        go_wp2_with fail
        refine (parityOf_ok A3 ts.length C3 _ _ _ (p : Int) w3 (by omega) (fun h => by rw [H79.out 0 h]; omega) (by omega) (by omega) HR3.out he).mono ?_
        intro e w4 hh
        obtain ⟨A4, C4, rfl, hM4, hb4⟩ := hh.made HOK.out (H79.out 0 hn0)
        obtain ⟨V0, hO⟩ := HO.out
        have HM4 := Lib.hid hM4
        have HB4 := Lib.hid (HB3.out.trans (hb4.mono HB3.out.size))
        have HO4 := Lib.hid ((hO.old HBr.out).old hb4)
        have HS3 := Lib.hid HB3.out.size
        have HLT : Hid (0 < p → ∀ x, (x = b ∨ ∃ i, i < p ∧ (V0 i).ownBlock = some x) → x < w3.heap.size) := Lib.hid fun hp x hx => by
          rcases hx with rfl | ⟨i, hi, e⟩
          · exact (((hO.old HBr.out).top hp).lt)
          · exact (((hO.old HBr.out).rows i hi).lt e).2
        clear hh hM4 hb4 hO he HO HB3 HB HR3 HBr HOK H79
        go_wp2
        go_loopw [45] (fun vj wq => ∃ j : Nat, j ≤ p ∧ vj = .int .i64 (j : Int) ∧ Hid (Inn w w4 wq b p n j V0 (St.X ts p))) (fun vj _ => p - (intOf vj).toNat)
        case atStart => exact ⟨0, Nat.zero_le _, rfl, Lib.hid (Inn.start HO4.out)⟩
        case round =>
          obtain ⟨j, hj, rfl, HI⟩ := hrel
          by_cases hltj : j < p
          · have e1 : decide (j < p) = true := decide_eq_true hltj
            obtain ⟨b2, r, c, rfl, -, hc, hC, hrr, hR⟩ := (HM4.out.kp HI.out.kp (HLT.out (by omega))) j hltj
            obtain ⟨Av, Cv, us, hcv, hfv, -, hown, hnext⟩ := HI.out.next hltj
            have HNX := Lib.hid hnext
            have HRR := Lib.hid hR
            have HBQ := Lib.hid (HI.out.below HO4.out HB4.out)
            have hlow : w.heap.size ≤ wr.heap.size := HBQ.out.size
            have hrlow : w.heap.size ≤ r := Nat.le_trans HS3.out hrr
            have HHC := Lib.hid hC
            clear hnext hR hC hrr
            go_wp2_with (at_builtin; refine wpList_append_lies _ rfl _ _ 34 rfl w.heap.size 40 i0 (.slice none 0 0) 1 24 Try.underlying34 hi0 hz0 hz1 hz2 rfl (by decide) (.slice Av n Cv) n us rfl (hown.alloc _) ⟨wr.heap.size, 0, none⟩ 1 1 [.slice (some ⟨r, 0, none⟩) 79 c] rfl rfl (oneCell _ _ _) (oneSlice _ _ _) (by decide) (by unfold maxLen; omega) (by omega) (by simp; omega) (wr.heap.size + 1) (by simp) ?_)
            intro g cap w5 hown5 hg5 hat5 hlt5
            obtain ⟨c5, f5, hI5⟩ := HNX.out _ w5 g cap r c _ ((Below.refl _ _).alloc (Nat.le_refl _) _) hg5 hown5 (hat5.imp id fun e => by omega) HHC.out hrlow HRR.out (fun x _ => rfl)
            have HI5 := Lib.hid hI5
            clear hown5 hg5 hat5 hI5 hown hcv hfv hc
            go_wp2
            go_roundw
            case rel => exact ⟨j + 1, by omega, by go_num, HI5⟩
            case measure => simp [intOf]; omega
          · have e1 : decide (j < p) = false := decide_eq_false hltj
            obtain rfl : j = p := by omega
            have HO5 := Lib.hid HI.out.done
            have HB5 := Lib.hid (HI.out.below HO4.out HB4.out)
            clear HI
            go_wp2
            go_roundw
            case rel => exact ⟨n + 1, by omega, by go_num, HO5, HW2, HB5⟩
            case measure => simp [intOf]; omega
    · have e0 : decide (n < K) = false := decide_eq_false hlt
      obtain rfl : n = K := by omega
      obtain ⟨V, hO⟩ := HO.out
      have HF := Lib.hid (hO.rdP (n := n) fun _ _ => rfl)
      have HOK : Hid (St.Ok ts (p : Int)) := Lib.hid ⟨⟨hn0, by omega, by omega⟩, fun m hm => HW.out m (by rw [HK.out]; exact hm)⟩
      rw [HK.out] at HF
      clear hO HO HW
      go_wp2
      go_ret2
      exact ParA.yes HOK.out (Nat.le_refl _) (fun h => by cases h) HF.out HB.out
set_option maxHeartbeats 2000000 in
theorem parity_any (A : Option Addr) (ts : List St.T) (C : Nat) (G : Nat → Prop) (p : Int) (w : World) (hn : ts.length ≤ 1000000) (hp : -9223372036854775808 ≤ p) (hp' : p ≤ 9223372036854775807) (hl : St.len ts ≤ 1000000) (hr : RdT w A ts G) :
    Calls Try.prog 7 #[.slice A ts.length C, .int .i64 p] w (ParA ts p w) := by
  by_cases ha : St.Arg ts p
  · obtain ⟨k, rfl⟩ : ∃ k : Nat, p = (k : Int) := ⟨p.toNat, by have := ha.2.1; omega⟩
    exact parity_main A ts C G k w (by have := ha.1; omega) (by have := ha.2.2; omega) hl hr
  · have HN : Hid (¬ St.Ok ts p) := Lib.hid fun h => ha h.1
    have HE : Hid (¬ EncOk ts.length (fun _ => 0) p) := Lib.hid fun h => ha ((St.enc_arg (fun _ _ => rfl)).1 h)
    have hmk := run_make_row' (P := Try.prog) 34 40 (.slice none 0 0) 24 Try.underlying34 infoRow rfl .i64 .i64 ts.length (by omega) (by omega)
    have HB0 := Lib.hid ((Below.refl w.heap.size w).alloc (Nat.le_refl _) (.cells (madeCells #[.slice none 0 0] ts.length) 40))
    have HENC := Lib.hid (encode_new (some ⟨w.heap.size, 0, none⟩) ts.length ts.length (fun _ => 0) one _ p _ (by unfold maxLen; omega) (fun _ => Nat.zero_le _) hp hp' (TopR.start w ts.length one).rdM)
    clear hr ha
    go_enter Try.func7, Try.ntmps7
    go_wp2_with fail
    refine HENC.out.mono ?_
    intro e w1 hh
    unfold EncNew at hh
    rw [if_neg HE.out] at hh
    obtain ⟨rfl, hb1⟩ := hh
    have HB1 := Lib.hid (HB0.out.trans (hb1.mono HB0.out.size))
    clear hb1 hmk
    go_wp2
    go_ret2
    exact ParA.no HN.out HB1.out
end Go.Proofs.Ytcmdggdionghcaa
namespace Go.Proofs.Ytcmdggdionghcaa
open Go.RowKit Mx
open Pt (Tx)

theorem num13 (n : Int) (w : World) : Calls Try.prog 9 #[.int .i64 n] w fun e w' => e = .returned (.int .i64 n) ∧ w = w' := by
  go_enter Try.func9, Try.ntmps9
  go_wp2
  go_ret
  exact ⟨rfl, rfl⟩
/-- one tape of one block -/
def exT : List St.T := [⟨1, 1, [St.zeros], false⟩]
theorem exT_len : St.len exT = 1 := rfl
theorem exT_ok : St.Ok exT ((1 : Nat) : Int) := by
  refine ⟨⟨by decide, by decide, by decide⟩, fun n hn t ht => ?_⟩
  rw [exT_len] at hn
  obtain rfl : n = 0 := by omega
  simp only [exT, List.mem_singleton] at ht
  subst ht
  rw [St.blk_some (n := 0) (t := ⟨1, 1, [St.zeros], false⟩) rfl (by decide) (by show St.zeros.length = 79; exact St.zeros_len)]
  show St.zeros ≠ []
  intro h
  have := St.zeros_len
  rw [h] at this
  cases this
theorem len_none (w : World) : Calls Try.prog 10 #[.slice none 0 0] w fun e w' => e = .returned (.int .i64 0) ∧ Below w.heap.size w w' :=
  len_any none [] 0 (fun _ => True) w (Nat.zero_le _) (RdT.empty _ _ _)
theorem exT_rd (w : World) : RdT (((w.alloc (.cells (madeCells #[.int .u8 0] 79) 5)).alloc (.cells #[.slice (some ⟨w.heap.size, 0, none⟩) 79 79] 40)).alloc (.cells #[.int .i64 1, .int .i64 1, .slice (some ⟨w.heap.size + 1, 0, none⟩) 1 1, .bool false] 39)) (some ⟨w.heap.size + 2, 0, none⟩) exT (fun _ => True) := by
  have hr := (RowAt.made w 79).rd (fun _ => True) trivial
  have hz : RdL (w.alloc (.cells (madeCells #[.int .u8 0] 79) 5)) (some ⟨w.heap.size, 0, none⟩) St.zeros (fun _ => True) := fun _ => by
    obtain ⟨b, off, e, hg, hc⟩ := hr (by omega)
    refine ⟨b, off, e, hg, fun j hj => ?_⟩
    rw [hc j (by rw [St.zeros_len] at hj; exact hj), (show ∀ h : j < St.zeros.length, St.zeros[j] = 0 from fun h => List.getElem_replicate h) hj]
    rfl
  have h1 := Go.Deep.blk_alloc_new (w.alloc (.cells (madeCells #[.int .u8 0] 79) 5)) (.cells #[.slice (some ⟨w.heap.size, 0, none⟩) 79 79] 40)
  rw [show (w.alloc (.cells (madeCells #[.int .u8 0] 79) 5)).heap.size = w.heap.size + 1 by simp] at h1
  have b1 : Below (w.alloc (.cells (madeCells #[.int .u8 0] 79) 5)).heap.size (w.alloc (.cells (madeCells #[.int .u8 0] 79) 5)) ((w.alloc (.cells (madeCells #[.int .u8 0] 79) 5)).alloc (.cells #[.slice (some ⟨w.heap.size, 0, none⟩) 79 79] 40)) := (Below.refl _ _).alloc (Nat.le_refl _) _
  have hb : RdB ((w.alloc (.cells (madeCells #[.int .u8 0] 79) 5)).alloc (.cells #[.slice (some ⟨w.heap.size, 0, none⟩) 79 79] 40)) (some ⟨w.heap.size + 1, 0, none⟩) [St.zeros] (fun _ => True) := fun _ => by
    refine ⟨w.heap.size + 1, 0, rfl, trivial, fun i hi => ?_⟩
    have hi0 : i = 0 := by simp at hi; omega
    subst hi0
    refine ⟨some ⟨w.heap.size, 0, none⟩, 79, ?_, ?_, (fun h => by cases h), hz.old b1⟩
    · rw [heap_cell h1]; show _ = some (Value.slice _ St.zeros.length 79); rw [St.zeros_len]; rfl
    · show St.zeros.length ≤ 79; rw [St.zeros_len]; exact Nat.le_refl _
  obtain ⟨w2, hw2⟩ : ∃ w2, w2 = (w.alloc (.cells (madeCells #[.int .u8 0] 79) 5)).alloc (.cells #[.slice (some ⟨w.heap.size, 0, none⟩) 79 79] 40) := ⟨_, rfl⟩
  have hs : w2.heap.size = w.heap.size + 2 := by rw [hw2]; simp
  rw [← hw2] at hb ⊢
  have h3 := Go.Deep.blk_alloc_new w2 (.cells #[.int .i64 1, .int .i64 1, .slice (some ⟨w.heap.size + 1, 0, none⟩) 1 1, .bool false] 39)
  rw [hs] at h3
  have b3 : Below w2.heap.size w2 (w2.alloc (.cells #[.int .i64 1, .int .i64 1, .slice (some ⟨w.heap.size + 1, 0, none⟩) 1 1, .bool false] 39)) := (Below.refl _ _).alloc (Nat.le_refl _) _
  refine fun _ => ⟨w.heap.size + 2, 0, rfl, trivial, fun i hi => ?_⟩
  have hi0 : i = 0 := by simp [exT] at hi; omega
  subst hi0
  exact ⟨some ⟨w.heap.size + 1, 0, none⟩, 1, heap_cell h3, heap_cell h3, heap_cell h3, heap_cell h3, hb.old b3⟩
set_option maxRecDepth 100000 in
set_option maxHeartbeats 2000000 in
theorem alive13_true (w : World) : Calls Try.prog 5 #[] w (AnsB true w) := by
  have hmk := make79
  obtain ⟨wa, hwa⟩ : ∃ wa, wa = (((w.alloc (.cells (madeCells #[.int .u8 0] 79) 5)).alloc (.cells #[.slice (some ⟨w.heap.size, 0, none⟩) 79 79] 40)).alloc (.cells #[.int .i64 1, .int .i64 1, .slice (some ⟨w.heap.size + 1, 0, none⟩) 1 1, .bool false] 39)) := ⟨_, rfl⟩
  have hr := exT_rd w
  rw [← hwa] at hr
  have hB : Below w.heap.size w wa := by
    rw [hwa]
    have h1 := (Below.refl w.heap.size w).alloc (Nat.le_refl _) (.cells (madeCells #[.int .u8 0] 79) 5)
    have h2 := h1.alloc h1.size (.cells #[.slice (some ⟨w.heap.size, 0, none⟩) 79 79] 40)
    exact h2.alloc h2.size _
  have HR := Lib.hid hr
  have HB := Lib.hid hB
  have HW := Lib.hid hwa
  have HP := Lib.hid (parity_main (some ⟨w.heap.size + 2, 0, none⟩) exT 1 _ 1 wa (by decide) (by decide) (by rw [exT_len]; omega) hr)
  clear hr hB hwa
  go_enter Try.func5, Try.ntmps5
  go_wp2_with fail
  rw [← HW.out]
  refine HP.out.mono ?_
  intro e w1 hh
  unfold ParA at hh
  rw [if_pos exT_ok] at hh
  obtain ⟨A1, C1, rfl, -, -, -, hb1⟩ := hh
  have HR1 := Lib.hid (HR.out.old (hb1.mono (Nat.le_refl _)))
  have HB1 := Lib.hid (HB.out.trans (hb1.mono HB.out.size))
  clear hb1 hmk HP
  go_wp2_with fail
  refine (len_none w1).mono ?_
  rintro e w2 ⟨rfl, hb2⟩
  have HR2 := Lib.hid (HR1.out.old hb2)
  have HB2 := Lib.hid (HB1.out.trans (hb2.mono HB1.out.size))
  clear hb2
  go_wp2_with fail
  refine (len_any (some ⟨w.heap.size + 2, 0, none⟩) exT 1 _ w2 (by decide) HR2.out).mono ?_
  rintro e w3 ⟨rfl, hb3⟩
  rw [exT_len]
  have HR3 := Lib.hid (HR2.out.old hb3)
  have HB3 := Lib.hid (HB2.out.trans (hb3.mono HB2.out.size))
  clear hb3
  go_wp2_with fail
  refine (row_any (some ⟨w.heap.size + 2, 0, none⟩) exT 1 _ 0 w3 (by decide) HR3.out).mono ?_
  rintro e w4 ⟨A4, C4, rfl, -, -, -, hb4⟩
  have HB4 := Lib.hid (HB3.out.trans (hb4.mono HB3.out.size))
  clear hb4
  go_wp2_with (first
    | (go_at_call 9; refine (num13 _ _).mono ?_; rintro e w' ⟨rfl, rfl⟩))
  go_ret
  exact ⟨rfl, HB4.out⟩
end Go.Proofs.Ytcmdggdionghcaa
namespace Go.Proofs.Ytcmdggdionghcaa
open Go.RowKit
open Pt (Tx)

/-- few blocks, none long -/
def Tp.few (bs : List Tx) : Bool := decide (bs.length ≤ 90) && bs.all fun s => decide (s.length ≤ 300)
theorem Tp.few_of {bs : List Tx} (h : Tp.few bs = true) : bs.length ≤ 90 ∧ ∀ s ∈ bs, s.length ≤ 300 := by
  simpa only [Tp.few, Bool.and_eq_true, decide_eq_true_eq, List.all_eq_true] using h
theorem few_yes (lab cap : Int) (A : Option Addr) (bs : List Tx) (C : Nat) (lost : Bool) (G : Nat → Prop) (w : World) (hr : RdB w A bs G) (hT : Tp.few bs = true) :
    Calls Try.prog 16 #[.agg #[.int .i64 lab, .int .i64 cap, .slice A bs.length C, .bool lost]] w (AnsB true w) := by
  have hB : Below w.heap.size w (w.alloc (.cells #[.int .i64 lab, .int .i64 cap, .slice A bs.length C, .bool lost] 39)) := (Below.refl _ _).alloc (Nat.le_refl _) _
  have hr' := hr.old hB
  have HB := Lib.hid hB
  obtain ⟨h1, h5⟩ := Tp.few_of hT
  have d1 : decide ((bs.length : Int) ≤ 90) = true := decide_eq_true (by omega)
  have H5 := Lib.hid h5
  clear h5 hr hB
  go_enter Try.func16, Try.ntmps16
  go_wp2
  go_loop [3] (fun i => ∃ k : Nat, k ≤ bs.length ∧ i = .int .i64 (k : Int)) (fun i => bs.length - (intOf i).toNat)
  case atStart => exact ⟨0, Nat.zero_le _, rfl⟩
  case round =>
    obtain ⟨k, hk, rfl⟩ := hrel
    by_cases hlt : k < bs.length
    · obtain ⟨b, off, A', C', rfl, _, hc, _⟩ := hr'.at_ hlt
      have hs := H5.out bs[k] (List.getElem_mem hlt)
      have e0 : decide (k < bs.length) = true := decide_eq_true hlt
      have e1 : decide (300 < (bs[k].length : Int)) = false := decide_eq_false (by omega)
      have e2 : decide ((k : Int) < 100) = true := decide_eq_true (by omega)
      go_wp2
      go_round
      case rel => exact ⟨k + 1, by omega, by go_num⟩
      case measure => simp [intOf]; omega
    · have e0 : decide (k < bs.length) = false := decide_eq_false hlt
      go_wp2
      go_ret
      exact ⟨rfl, HB.out⟩
theorem few_no (lab cap : Int) (A : Option Addr) (bs : List Tx) (C : Nat) (lost : Bool) (G : Nat → Prop) (w : World) (hr : RdB w A bs G) (hT : Tp.few bs = false) :
    Calls Try.prog 16 #[.agg #[.int .i64 lab, .int .i64 cap, .slice A bs.length C, .bool lost]] w (AnsB false w) := by
  have hB : Below w.heap.size w (w.alloc (.cells #[.int .i64 lab, .int .i64 cap, .slice A bs.length C, .bool lost] 39)) := (Below.refl _ _).alloc (Nat.le_refl _) _
  have hr' := hr.old hB
  have HB := Lib.hid hB
  have HT := Lib.hid hT
  clear hr hB hT
  go_enter Try.func16, Try.ntmps16
  go_wp2
  go_loop [3] (fun i => ∃ k : Nat, k ≤ bs.length ∧ k ≤ 100 ∧ i = .int .i64 (k : Int) ∧ Hid (∀ j (hj : j < bs.length), j < k → bs[j].length ≤ 300)) (fun i => bs.length - (intOf i).toNat)
  case atStart => exact ⟨0, Nat.zero_le _, by omega, rfl, Lib.hid (fun j _ h => absurd h (by omega))⟩
  case round =>
    obtain ⟨k, hk, hk1, rfl, HJ⟩ := hrel
    by_cases hlt : k < bs.length
    · have e0 : decide (k < bs.length) = true := decide_eq_true hlt
      by_cases hk2 : k < 100
      · have e2 : decide ((k : Int) < 100) = true := decide_eq_true (by omega)
        obtain ⟨b, off, A', C', rfl, _, hc, _⟩ := hr'.at_ hlt
        by_cases hs : 300 < bs[k].length
        · have e1 : decide (300 < (bs[k].length : Int)) = true := decide_eq_true (by omega)
          go_wp2
          go_ret
          exact ⟨rfl, HB.out⟩
        · have e1 : decide (300 < (bs[k].length : Int)) = false := decide_eq_false (by omega)
          have HJ2 : Hid (∀ j (hj : j < bs.length), j < k + 1 → bs[j].length ≤ 300) := Lib.hid fun j hj hjk => by
            by_cases e : j = k
            · subst e; omega
            · exact HJ.out j hj (by omega)
          go_wp2
          go_round
          case rel => exact ⟨k + 1, by omega, by omega, by go_num, HJ2⟩
          case measure => simp [intOf]; omega
      · have e2 : decide ((k : Int) < 100) = false := decide_eq_false (by omega)
        have d1 : decide ((bs.length : Int) ≤ 90) = false := decide_eq_false (by omega)
        go_wp2
        go_ret
        exact ⟨rfl, HB.out⟩
    · have e0 : decide (k < bs.length) = false := decide_eq_false hlt
      have d1 : decide ((bs.length : Int) ≤ 90) = false := decide_eq_false fun h => by
        have : Tp.few bs = true := by
          simp only [Tp.few, Bool.and_eq_true, decide_eq_true_eq, List.all_eq_true]
          refine ⟨by omega, fun s hs => ?_⟩
          obtain ⟨j, hj, rfl⟩ := List.mem_iff_getElem.1 hs
          exact HJ.out j hj (by omega)
        rw [HT.out] at this; cases this
      go_wp2
      go_ret
      exact ⟨rfl, HB.out⟩
end Go.Proofs.Ytcmdggdionghcaa
namespace Go.Proofs.Ytcmdggdionghcaa
open Go.RowKit
open Pt (Tx)

def St.sum : List St.T → Nat
  | [] => 0
  | t :: ts => t.blocks.length + St.sum ts
theorem St.sum_snoc : ∀ (l : List St.T) (t : St.T), St.sum (l ++ [t]) = St.sum l + t.blocks.length
  | [], t => by show t.blocks.length + 0 = 0 + t.blocks.length; omega
  | a :: l, t => by rw [List.cons_append, St.sum, St.sum, St.sum_snoc l t]; omega
theorem St.sum_take {l : List St.T} {i : Nat} (h : i < l.length) : St.sum (l.take (i + 1)) = St.sum (l.take i) + l[i].blocks.length := by
  rw [List.take_succ_eq_append_getElem h, St.sum_snoc]
/-- few tapes, and small -/
def St.few (ts : List St.T) : Bool := decide (ts.length ≤ 14) && ts.all (fun t => Tp.few t.blocks) && decide (St.sum ts ≤ 300)
theorem St.few_of {ts : List St.T} (h : St.few ts = true) : ts.length ≤ 14 ∧ (∀ t ∈ ts, Tp.few t.blocks = true) ∧ St.sum ts ≤ 300 := by
  simp only [St.few, Bool.and_eq_true, decide_eq_true_eq, List.all_eq_true] at h
  exact ⟨h.1.1, h.1.2, h.2⟩
theorem St.few_is {ts : List St.T} (h1 : ts.length ≤ 14) (h2 : ∀ t ∈ ts, Tp.few t.blocks = true) (h3 : St.sum ts ≤ 300) : St.few ts = true := by
  simp only [St.few, Bool.and_eq_true, decide_eq_true_eq, List.all_eq_true]
  exact ⟨⟨h1, h2⟩, h3⟩
theorem St.few_len {ts : List St.T} (h : St.few ts = true) : St.len ts ≤ 90 := St.len_le fun t ht => (Tp.few_of ((St.few_of h).2.1 t ht)).1
theorem St.sum_le {ts : List St.T} {m : Nat} (h : ∀ t ∈ ts, t.blocks.length ≤ m) : St.sum ts ≤ ts.length * m := by
  induction ts with
  | nil => exact Nat.zero_le _
  | cons t ts ih =>
    have h1 := ih fun t ht => h t (List.mem_cons_of_mem _ ht)
    have h2 := h t List.mem_cons_self
    rw [St.sum, List.length_cons, Nat.succ_mul]
    omega
set_option maxHeartbeats 2000000 in
theorem few13_any (A : Option Addr) (ts : List St.T) (C : Nat) (G : Nat → Prop) (w : World) (hn : ts.length ≤ maxLen) (hr : RdT w A ts G) :
    Calls Try.prog 6 #[.slice A ts.length C] w (AnsB (St.few ts) w) := by
  unfold maxLen at hn
  have HR := Lib.hid hr
  clear hr
  go_enter Try.func6, Try.ntmps6
  go_wp2
  go_loopw [4, 3] (fun vi vn wr => ∃ i n : Nat, i ≤ ts.length ∧ i ≤ 20 ∧ n ≤ i * 90 ∧ vi = .int .i64 (i : Int) ∧ vn = .int .i64 (n : Int) ∧ Hid (n = St.sum (ts.take i)) ∧ Hid (∀ j (hj : j < ts.length), j < i → Tp.few ts[j].blocks = true) ∧ Hid (Below w.heap.size w wr)) (fun vi _ _ => ts.length - (intOf vi).toNat)
  case atStart => exact ⟨0, 0, Nat.zero_le _, by omega, by omega, rfl, rfl, Lib.hid rfl, Lib.hid (fun j _ h => absurd h (by omega)), Lib.hid (Below.refl _ _)⟩
  case round =>
    obtain ⟨i, n, hi, hi2, hn2, rfl, rfl, HN, HJ, HB⟩ := hrel
    have hcase : (i < ts.length ∧ i < 20) ∨ (i = ts.length ∧ ts.length ≤ 20) ∨ (i = 20 ∧ 20 < ts.length) := by omega
    rcases hcase with ⟨hlt, hlt2⟩ | ⟨he, hle⟩ | ⟨he, hle⟩
    · have e0 : decide (i < ts.length) = true := decide_eq_true hlt
      have e2 : decide ((i : Int) < 20) = true := decide_eq_true (by omega)
      obtain ⟨b, off, A', C', rfl, -, c0, c1, c2, c3, hb⟩ := (HR.out.old HB.out).at_ hlt
      obtain ⟨⟨lab, cap, bs, lost⟩, ht⟩ : ∃ t, t = ts[i] := ⟨_, rfl⟩
      have HT := Lib.hid ht
      rw [← ht] at c0 c1 c2 c3 hb
      dsimp only at c0 c1 c2 c3 hb
      have HBB := Lib.hid hb
      clear ht hb
      cases hf : Tp.few bs with
      | false =>
        have HF : Hid (St.few ts = false) := Lib.hid (by
          cases h : St.few ts with
          | false => rfl
          | true =>
            have := (St.few_of h).2.1 ts[i] (List.getElem_mem hlt)
            rw [← HT.out] at this
            exact (hf.symm.trans this).symm)
        go_wp2_with fail
        refine (few_no lab cap A' bs C' lost _ _ HBB.out hf).mono ?_
        rintro e w1 ⟨rfl, hb1⟩
        have HB1 := Lib.hid (HB.out.trans (hb1.mono HB.out.size))
        clear hb1 hf
        go_wp2
        go_ret
        exact ⟨by rw [HF.out]; rfl, HB1.out⟩
      | true =>
        obtain ⟨k, hk⟩ : ∃ k, k = bs.length := ⟨_, rfl⟩
        have hk90 : k ≤ 90 := by rw [hk]; exact (Tp.few_of hf).1
        have HN1 : Hid (n + k = St.sum (ts.take (i + 1))) := Lib.hid (by rw [St.sum_take hlt, ← HN.out, ← HT.out, hk])
        have HJ1 : Hid (∀ j (hj : j < ts.length), j < i + 1 → Tp.few ts[j].blocks = true) := Lib.hid fun j hj hji => by
          by_cases e : j = i
          · subst e; rw [← HT.out]; exact hf
          · exact HJ.out j hj (by omega)
        have HFW := Lib.hid (few_yes lab cap A' bs C' lost _ wr HBB.out hf)
        rw [← hk] at c2 HFW
        clear hf hk
        go_wp2_with fail
        refine HFW.out.mono ?_
        rintro e w1 ⟨rfl, hb1⟩
        have HB1 := Lib.hid (HB.out.trans (hb1.mono HB.out.size))
        have d2 := (hb1.cell (World.block_lt_of_cell? _ _ c2)).trans c2
        clear hb1 c0 c1 c2 c3
        go_wp2
        go_roundw
        case rel => exact ⟨i + 1, n + k, by omega, by omega, by omega, by go_num, by go_num, HN1, HJ1, HB1⟩
        case measure => simp [intOf]; omega
    · have HS : Hid (n = St.sum ts) := Lib.hid (by rw [HN.out, List.take_of_length_le (by omega)])
      have HALL : Hid (∀ t ∈ ts, Tp.few t.blocks = true) := Lib.hid fun t ht => by
        obtain ⟨j, hj, rfl⟩ := List.mem_iff_getElem.1 ht
        exact HJ.out j hj (by omega)
      have e0 : decide (i < ts.length) = false := decide_eq_false (by omega)
      by_cases a : ts.length ≤ 14
      · have d1 : decide ((ts.length : Int) ≤ 14) = true := decide_eq_true (by omega)
        by_cases a2 : n ≤ 300
        · have d2 : decide ((n : Int) ≤ 300) = true := decide_eq_true (by omega)
          have HF := Lib.hid (St.few_is a HALL.out (by rw [← HS.out]; exact a2))
          clear a a2 he
          go_wp2
          go_ret
          exact ⟨by rw [HF.out]; rfl, HB.out⟩
        · have d2 : decide ((n : Int) ≤ 300) = false := decide_eq_false (by omega)
          have HF : Hid (St.few ts = false) := Lib.hid (by
            cases h : St.few ts with
            | false => rfl
            | true => exact absurd (St.few_of h).2.2 (by rw [← HS.out]; exact a2))
          clear a a2 he
          go_wp2
          go_ret
          exact ⟨by rw [HF.out]; rfl, HB.out⟩
      · have d1 : decide ((ts.length : Int) ≤ 14) = false := decide_eq_false (by omega)
        have HF : Hid (St.few ts = false) := Lib.hid (by
          cases h : St.few ts with
          | false => rfl
          | true => exact absurd (St.few_of h).1 a)
        clear a he
        go_wp2
        go_ret
        exact ⟨by rw [HF.out]; rfl, HB.out⟩
    · have e0 : decide (i < ts.length) = true := decide_eq_true (by omega)
      have e2 : decide ((i : Int) < 20) = false := decide_eq_false (by omega)
      have d1 : decide ((ts.length : Int) ≤ 14) = false := decide_eq_false (by omega)
      have HF : Hid (St.few ts = false) := Lib.hid (by
        cases h : St.few ts with
        | false => rfl
        | true => have := (St.few_of h).1; omega)
      clear he
      go_wp2
      go_ret
      exact ⟨by rw [HF.out]; rfl, HB.out⟩
end Go.Proofs.Ytcmdggdionghcaa
namespace Go.Proofs.Ytcmdggdionghcaa
open Go.RowKit Mx

def topsOf (k : Nat) (A : Nat → Option Addr) (L C : Nat → Nat) : List Value := (List.range k).map fun i => .slice (A i) (L i) (C i)
theorem topsOf_len (k : Nat) (A : Nat → Option Addr) (L C : Nat → Nat) : (topsOf k A L C).length = k := by simp [topsOf]
theorem topsOf_get {k : Nat} {A : Nat → Option Addr} {L C : Nat → Nat} {j : Nat} (hj : j < k) : (topsOf k A L C)[j]? = some (.slice (A j) (L j) (C j)) := by simp [topsOf, hj]
theorem topsOf_one {k : Nat} {A : Nat → Option Addr} {L C : Nat → Nat} : ∀ u ∈ topsOf k A L C, u.oneCell' = true := by
  intro u hu
  simp only [topsOf, List.mem_map] at hu
  obtain ⟨j, _, rfl⟩ := hu
  rfl
/-- rows behind rows -/
structure TopA (w : World) (B : Nat) (v : Value) (k : Nat) (A : Nat → Option Addr) (L C : Nat → Nat) (M : Mat) : Prop where
  top : w.ownsRow B 40 1 v k (topsOf k A L C)
  rows : ∀ i, i < k → Rd w (A i) (L i) (M i) (· < B) ∨ ∃ g, A i = some ⟨g, 0, none⟩ ∧ RowAt w g (L i) (M i)
namespace TopA
variable {w w' : World} {B k : Nat} {v v' : Value} {A : Nat → Option Addr} {L L' C : Nat → Nat} {M M' : Mat}
theorem start (w : World) (B : Nat) (A : Nat → Option Addr) (L C : Nat → Nat) (M : Mat) : TopA w B (.slice none 0 0) 0 A L C M := ⟨World.ownsRow_nil _ _ _ _, fun i hi => absurd hi (by omega)⟩
theorem old (h : TopA w B v k A L C M) (hb : Below w.heap.size w w') : TopA w' B v k A L C M :=
  ⟨own_old h.top hb, fun i hi => (h.rows i hi).imp (fun hr => hr.old hb) fun ⟨g, e, hr⟩ => ⟨g, e, hr.old hb⟩⟩
theorem drew (h : TopA w B v k A L C M) : TopA w.drew B v k A L C M := ⟨h.top.drew, h.rows⟩
theorem congr (h : TopA w B v k A L C M) (he : ∀ i, i < k → ∀ j, j < L i → M i j = M' i j) : TopA w B v k A L C M' :=
  ⟨h.top, fun i hi => (h.rows i hi).imp (fun hr => hr.congr (he i hi)) fun ⟨g, e, hr⟩ => ⟨g, e, hr.congr (he i hi)⟩⟩
theorem lens (h : TopA w B v k A L C M) (he : ∀ i, i < k → L i = L' i) : TopA w B v k A L' C M := by
  refine ⟨?_, fun i hi => by rw [← he i hi]; exact h.rows i hi⟩
  rw [show topsOf k A L' C = topsOf k A L C from List.map_congr_left fun i hi => by rw [he i (List.mem_range.1 hi)]]
  exact h.top
/-- a row is appended -/
theorem push (h : TopA w B v k A L C M) {o : Obj} (hg : (w.alloc o).grownBy w' v.ownBlock) {a : Option Addr} {l c : Nat} {f : Nat → Fe} (hown : w'.ownsRow B 40 1 v' (k + 1) (topsOf k A L C ++ [.slice a l c]))
    (hr : Rd w a l f (· < B) ∨ ∃ g, a = some ⟨g, 0, none⟩ ∧ RowAt w g l f) : TopA w' B v' (k + 1) (fun i => if i = k then a else A i) (fun i => if i = k then l else L i) (fun i => if i = k then c else C i) (fun i => if i = k then f else M i) := by
  have keep1 : ∀ {g' l' : Nat} {f' : Nat → Fe}, RowAt w g' l' f' → RowAt w' g' l' f' := fun {g' l' f'} h' =>
    h'.of_block ((hg.block g' (by have := h'.lt; simp; omega) (owns_ne h.top h' (by decide))).trans (Below.heap_alloc _ _ _ h'.lt))
  have keep2 : ∀ {a' : Option Addr} {l' : Nat} {f' : Nat → Fe}, Rd w a' l' f' (· < B) → Rd w' a' l' f' (· < B) := fun {a' l' f'} h' =>
    h'.keep fun p u hp hc => by
      have hlt := World.block_lt_of_cell? _ _ hc
      have hne : some p.block ≠ v.ownBlock := fun e => by have := (h.top.lt p.block e.symm).1; omega
      exact (World.cell?_of_block ((hg.block p.block (by simp; omega) hne).trans (Below.heap_alloc _ _ _ hlt))).trans hc
  have ht : topsOf k A L C ++ [.slice a l c] = topsOf (k + 1) (fun i => if i = k then a else A i) (fun i => if i = k then l else L i) (fun i => if i = k then c else C i) := by
    unfold topsOf
    rw [List.range_succ, List.map_append]
    congr 1
    · exact List.map_congr_left fun i hi => by
        have := List.mem_range.1 hi
        simp only [show ¬ i = k by omega, if_false]
    · simp
  rw [ht] at hown
  refine ⟨hown, fun i hi => ?_⟩
  by_cases e : i = k
  · simp only [e, if_true]
    exact hr.imp keep2 fun ⟨g, e, hr⟩ => ⟨g, e, keep1 hr⟩
  · simp only [e, if_false]
    exact (h.rows i (by omega)).imp keep2 fun ⟨g, e, hr⟩ => ⟨g, e, keep1 hr⟩
/-- as what reads -/
theorem rdM (h : TopA w B v k A L C M) (hk : 0 < k) : ∃ b cp, v = .slice (some ⟨b, 0, none⟩) k cp ∧ B ≤ b ∧ k ≤ cp ∧ RdM w (some ⟨b, 0, none⟩) k L M (· < w.heap.size) := by
  obtain ⟨b, cp, h1, h2, h3, h4⟩ := RowV.of_owns h.top hk
  refine ⟨b, cp, h1, h2, h3, RdM.in_ (G := fun _ => True) fun _ => ⟨b, 0, rfl, trivial, fun i hi => ⟨A i, C i, ?_, ?_⟩⟩⟩
  · rw [Nat.zero_add, h4.cell hi, List.getD_eq_getElem?_getD, topsOf_get hi]; rfl
  · rcases h.rows i hi with hr | ⟨g, e, hr⟩
    · exact hr.mono fun _ _ => trivial
    · rw [e]; exact hr.rd _ trivial
end TopA
end Go.Proofs.Ytcmdggdionghcaa
namespace Go.Proofs.Ytcmdggdionghcaa
open Go.RowKit Mx
open Pt (Tx)

theorem TopA.val {w : World} {B k : Nat} {v : Value} {A : Nat → Option Addr} {L C : Nat → Nat} {M : Mat} (h : TopA w B v k A L C M) : ∃ a c, v = .slice a k c ∧ k ≤ c ∧ (a = none → k = 0 ∧ c = 0) ∧ RdM w a k L M (· < w.heap.size) := by
  rcases Nat.eq_zero_or_pos k with h0 | h0
  · subst h0
    rcases h.top.2 with ⟨e, _⟩ | ⟨g, cap, cur, e, hb, hg, hnc, hcm, hs, ht⟩
    · exact ⟨none, 0, e, Nat.le_refl _, fun _ => ⟨rfl, rfl⟩, RdM.empty _ _ _ _ _⟩
    · exact ⟨_, cap, e, hnc, (fun h => by cases h), RdM.empty _ _ _ _ _⟩
  · obtain ⟨b, cp, e, _, hc, hr⟩ := h.rdM h0
    exact ⟨_, cp, e, hc, (fun h => by cases h), hr⟩
set_option maxRecDepth 100000 in
set_option maxHeartbeats 8000000 in
theorem refRow_any (A : Option Addr) (ts : List St.T) (C : Nat) (G : Nat → Prop) (n : Int) (w : World) (hn : ts.length ≤ 1000000) (hr : RdT w A ts G) :
    Calls Try.prog 14 #[.slice A ts.length C, .int .i64 n] w (RowA ts n w) := by
  have HR := Lib.hid hr
  clear hr
  obtain ⟨i0, hi0, hz0, hz1, hz2⟩ := info_parts infoRow
  obtain ⟨j0, hj0, hy0, hy1, hy2⟩ := info_parts infoByte
  have HMK := Lib.hid make79
  go_enter Try.func14, Try.ntmps14
  go_wp2
  go_loopw [6, 5] (fun vi vo wr => ∃ i : Nat, i ≤ ts.length ∧ vi = .int .i64 (i : Int) ∧ Hid (∃ A C, TopA wr w.heap.size vo i A (St.lens (St.row ts n)) C (St.mat (St.row ts n))) ∧ Hid (Below w.heap.size w wr)) (fun vi _ _ => ts.length - (intOf vi).toNat)
  case atStart => exact ⟨0, Nat.zero_le _, rfl, Lib.hid ⟨fun _ => none, fun _ => 0, TopA.start _ _ _ _ _ _⟩, Lib.hid (Below.refl _ _)⟩
  case round =>
    obtain ⟨i, hi, rfl, HO, HB⟩ := hrel
    obtain ⟨Ax, Cx, hO⟩ := HO.out
    have HO' := Lib.hid hO
    clear hO HO
    by_cases hlt : i < ts.length
    · obtain ⟨b, off, A', C', rfl, -, c0, c1, c2, c3, hb⟩ := (HR.out.old HB.out).at_ hlt
      obtain ⟨h1, h2⟩ := St.row_at (n := n) hlt
      obtain ⟨⟨lab, cap, bs, lost⟩, ht⟩ : ∃ t, t = ts[i] := ⟨_, rfl⟩
      rw [← ht] at c0 c1 c2 c3 hb h1 h2
      dsimp only at c0 c1 c2 c3 hb
      have H1 := Lib.hid h1
      have H2 := Lib.hid h2
      have e0 : decide (i < ts.length) = true := decide_eq_true hlt
      have hlow : w.heap.size ≤ wr.heap.size := HB.out.size
      have hq : lost = true ∨ (lost = false ∧ decide (n < 0) = true ∧ n < 0) ∨ (lost = false ∧ decide (n < 0) = false ∧ decide ((bs.length : Int) ≤ n) = true ∧ (bs.length : Int) ≤ n) ∨ (lost = false ∧ ∃ k : Nat, n = (k : Int) ∧ k < bs.length) := by
        cases lost with
        | true => exact .inl rfl
        | false =>
          refine .inr ?_
          by_cases a : n < 0
          · exact .inl ⟨rfl, decide_eq_true a, a⟩
          · refine .inr ?_
            by_cases a2 : (bs.length : Int) ≤ n
            · exact .inl ⟨rfl, decide_eq_false a, decide_eq_true a2, a2⟩
            · exact .inr ⟨rfl, n.toNat, by omega, by omega⟩
      clear ht h1 h2
      rcases hq with hl | ⟨hl, q1, g1⟩ | ⟨hl, q1, q2, g2⟩ | ⟨hl, k, hk, hkl⟩
      · have HZ : Hid (St.lens (St.row ts n) i = 79 ∧ St.mat (St.row ts n) i = fun _ => 0) := Lib.hid (by
          rw [H1.out, H2.out, St.blk_none (t := ⟨lab, cap, bs, lost⟩) (.inl hl), St.zeros_len, rowL_zeros]; exact ⟨rfl, rfl⟩)
        have hal : Below wr.heap.size wr (wr.alloc (.cells (madeCells #[.int .u8 0] 79) 5)) := (Below.refl _ _).alloc (Nat.le_refl _) _
        have HU : Hid (RowAt (wr.alloc (.cells (madeCells #[.int .u8 0] 79) 5)) wr.heap.size 79 (St.mat (St.row ts n) i)) := Lib.hid (by rw [HZ.out.2]; exact RowAt.made wr 79)
        have HAX := Lib.hid (HO'.out.old hal)
        have hown := HAX.out.top
        have HBX := Lib.hid (HB.out.trans (hal.mono HB.out.size))
        have hmk := HMK.out
        rw [hl] at c3
        clear hal hl hb
        go_wp2_with (at_builtin; refine wpList_append_own _ rfl _ _ 34 rfl w.heap.size 40 i0 (.slice none 0 0) 1 24 Try.underlying34 hi0 hz0 hz1 hz2 rfl (by decide) _ _ _ rfl (hown.alloc _) ⟨wr.heap.size + 1, 0, none⟩ 1 1 [.slice (some ⟨wr.heap.size, 0, none⟩) 79 79] rfl rfl (oneCellAt _ _ _ _ (by simp)) (oneSlice _ _ _) (by unfold maxLen; omega) (by omega) (by simp; omega) ?_)
        intro v' w3 hown' hgrow _
        have HP := Lib.hid (HAX.out.push hgrow hown' (.inr ⟨wr.heap.size, rfl, HU.out⟩))
        have HB3 := Lib.hid ((HBX.out.alloc HBX.out.size _).grown hgrow (by simp; omega) (fun x hx => (HAX.out.top.lt x hx).1))
        clear hown' hgrow hown hmk c0 c1 c2 c3
        go_wp2
        go_roundw
        case rel => exact ⟨i + 1, by omega, by go_num, Lib.hid ⟨_, _, (HP.out.congr (M' := St.mat (St.row ts n)) fun r _ c _ => by by_cases e : r = i <;> simp [e]).lens fun r _ => by by_cases e : r = i <;> simp [e, HZ.out.1]⟩, HB3⟩
        case measure => simp [intOf]; omega
      · have HZ : Hid (St.lens (St.row ts n) i = 79 ∧ St.mat (St.row ts n) i = fun _ => 0) := Lib.hid (by
          rw [H1.out, H2.out, St.blk_none (t := ⟨lab, cap, bs, lost⟩) (.inr (.inl g1)), St.zeros_len, rowL_zeros]; exact ⟨rfl, rfl⟩)
        have hal : Below wr.heap.size wr (wr.alloc (.cells (madeCells #[.int .u8 0] 79) 5)) := (Below.refl _ _).alloc (Nat.le_refl _) _
        have HU : Hid (RowAt (wr.alloc (.cells (madeCells #[.int .u8 0] 79) 5)) wr.heap.size 79 (St.mat (St.row ts n) i)) := Lib.hid (by rw [HZ.out.2]; exact RowAt.made wr 79)
        have HAX := Lib.hid (HO'.out.old hal)
        have hown := HAX.out.top
        have HBX := Lib.hid (HB.out.trans (hal.mono HB.out.size))
        have hmk := HMK.out
        rw [hl] at c3
        clear hal hl hb
        go_wp2_with (at_builtin; refine wpList_append_own _ rfl _ _ 34 rfl w.heap.size 40 i0 (.slice none 0 0) 1 24 Try.underlying34 hi0 hz0 hz1 hz2 rfl (by decide) _ _ _ rfl (hown.alloc _) ⟨wr.heap.size + 1, 0, none⟩ 1 1 [.slice (some ⟨wr.heap.size, 0, none⟩) 79 79] rfl rfl (oneCellAt _ _ _ _ (by simp)) (oneSlice _ _ _) (by unfold maxLen; omega) (by omega) (by simp; omega) ?_)
        intro v' w3 hown' hgrow _
        have HP := Lib.hid (HAX.out.push hgrow hown' (.inr ⟨wr.heap.size, rfl, HU.out⟩))
        have HB3 := Lib.hid ((HBX.out.alloc HBX.out.size _).grown hgrow (by simp; omega) (fun x hx => (HAX.out.top.lt x hx).1))
        clear hown' hgrow hown hmk c0 c1 c2 c3
        go_wp2
        go_roundw
        case rel => exact ⟨i + 1, by omega, by go_num, Lib.hid ⟨_, _, (HP.out.congr (M' := St.mat (St.row ts n)) fun r _ c _ => by by_cases e : r = i <;> simp [e]).lens fun r _ => by by_cases e : r = i <;> simp [e, HZ.out.1]⟩, HB3⟩
        case measure => simp [intOf]; omega
      · have HZ : Hid (St.lens (St.row ts n) i = 79 ∧ St.mat (St.row ts n) i = fun _ => 0) := Lib.hid (by
          rw [H1.out, H2.out, St.blk_none (t := ⟨lab, cap, bs, lost⟩) (.inr (.inr g2)), St.zeros_len, rowL_zeros]; exact ⟨rfl, rfl⟩)
        have hal : Below wr.heap.size wr (wr.alloc (.cells (madeCells #[.int .u8 0] 79) 5)) := (Below.refl _ _).alloc (Nat.le_refl _) _
        have HU : Hid (RowAt (wr.alloc (.cells (madeCells #[.int .u8 0] 79) 5)) wr.heap.size 79 (St.mat (St.row ts n) i)) := Lib.hid (by rw [HZ.out.2]; exact RowAt.made wr 79)
        have HAX := Lib.hid (HO'.out.old hal)
        have hown := HAX.out.top
        have HBX := Lib.hid (HB.out.trans (hal.mono HB.out.size))
        have hmk := HMK.out
        rw [hl] at c3
        clear hal hl hb
        go_wp2_with (at_builtin; refine wpList_append_own _ rfl _ _ 34 rfl w.heap.size 40 i0 (.slice none 0 0) 1 24 Try.underlying34 hi0 hz0 hz1 hz2 rfl (by decide) _ _ _ rfl (hown.alloc _) ⟨wr.heap.size + 1, 0, none⟩ 1 1 [.slice (some ⟨wr.heap.size, 0, none⟩) 79 79] rfl rfl (oneCellAt _ _ _ _ (by simp)) (oneSlice _ _ _) (by unfold maxLen; omega) (by omega) (by simp; omega) ?_)
        intro v' w3 hown' hgrow _
        have HP := Lib.hid (HAX.out.push hgrow hown' (.inr ⟨wr.heap.size, rfl, HU.out⟩))
        have HB3 := Lib.hid ((HBX.out.alloc HBX.out.size _).grown hgrow (by simp; omega) (fun x hx => (HAX.out.top.lt x hx).1))
        clear hown' hgrow hown hmk c0 c1 c2 c3
        go_wp2
        go_roundw
        case rel => exact ⟨i + 1, by omega, by go_num, Lib.hid ⟨_, _, (HP.out.congr (M' := St.mat (St.row ts n)) fun r _ c _ => by by_cases e : r = i <;> simp [e]).lens fun r _ => by by_cases e : r = i <;> simp [e, HZ.out.1]⟩, HB3⟩
        case measure => simp [intOf]; omega
      · obtain ⟨b2, off2, A2, C2, rfl, -, d1, -, -, hrr⟩ := hb.at_ hkl
        have hr2 := hrr.rd
        subst hk
        have f1 : decide ((k : Int) < 0) = false := decide_eq_false (by omega)
        have f2 : decide ((bs.length : Int) ≤ (k : Int)) = false := decide_eq_false (by omega)
        have f3 : decide (bs.length ≤ k) = false := decide_eq_false (by omega)
        by_cases h79 : bs[k].length = 79
        · rw [St.blk_some (t := ⟨lab, cap, bs, lost⟩) hl hkl h79] at H1 H2
          obtain ⟨m, hm⟩ : ∃ m, m = bs[k].length := ⟨_, rfl⟩
          have f4 : ((m : Int) == 79) = true := by rw [hm, h79]; rfl
          have hm0 : 0 < m := by omega
          have hm1 : m ≤ 1000000 := by omega
          have H1' : Hid (St.lens (St.row ts (k : Int)) i = m) := Lib.hid (by rw [H1.out, hm])
          obtain ⟨b3, off3, rfl, -, hcr⟩ := hr2 (by omega)
          rw [← hm] at d1 hcr
          have HRR := Lib.hid hcr
          have hownN : wr.ownsRow wr.heap.size 5 1 (.slice none 0 0) 0 [] := World.ownsRow_nil _ _ _ _
          have HS := Lib.hid H2.out
          rw [hl] at c3
          clear hl hrr hr2 h79 hcr hm hb
          go_wp2_with (at_builtin; refine wpList_append_own _ rfl _ _ 40 rfl wr.heap.size 5 j0 (.int .u8 0) 1 1 Try.underlying40 hj0 hy0 hy1 hy2 rfl (by decide) _ _ _ rfl hownN ⟨b3, off3, none⟩ m C2 (cellsOf m (rowL bs[k])) rfl (by rw [cellsOf_len, Nat.mul_one]) (Rd.cells HRR.out) cellsOf_one (by unfold maxLen; omega) (by omega) (Nat.le_refl _) ?_)
          intro v1 w2 hown1 hgrow1 _
          obtain ⟨g, Cg, rfl, hg, hCg, hrg⟩ := RowAt.of_owns hown1 (by omega)
          have hb2 : Below wr.heap.size wr w2 := (Below.refl wr.heap.size wr).grown hgrow1 (Nat.le_refl _) (fun x hx => by simp [Value.ownBlock] at hx)
          have HAX := Lib.hid (HO'.out.old hb2)
          have hown := HAX.out.top
          have HBX := Lib.hid (HB.out.trans (hb2.mono HB.out.size))
          have hlow2 : w.heap.size ≤ w2.heap.size := HBX.out.size
          have HU : Hid (RowAt w2 g m (St.mat (St.row ts (k : Int)) i)) := Lib.hid (by rw [HS.out]; exact hrg)
          clear hown1 hgrow1 hrg hownN c0 c1 c2 c3 d1 hb2
          go_wp2_with (at_builtin; refine wpList_append_own _ rfl _ _ 34 rfl w.heap.size 40 i0 (.slice none 0 0) 1 24 Try.underlying34 hi0 hz0 hz1 hz2 rfl (by decide) _ _ _ rfl (hown.alloc _) ⟨w2.heap.size, 0, none⟩ 1 1 [.slice (some ⟨g, 0, none⟩) m Cg] rfl rfl (oneCell _ _ _) (oneSlice _ _ _) (by unfold maxLen; omega) (by omega) (by simp; omega) ?_)
          intro v' w3 hown' hgrow _
          have HP := Lib.hid (HAX.out.push hgrow hown' (.inr ⟨g, rfl, HU.out⟩))
          have HB3 := Lib.hid ((HBX.out.alloc HBX.out.size _).grown hgrow (by simp; omega) (fun x hx => (HAX.out.top.lt x hx).1))
          rw [← H1'.out] at HP
          clear hown' hgrow hown
          go_wp2
          go_roundw
          case rel => exact ⟨i + 1, by omega, by go_num, Lib.hid ⟨_, _, (HP.out.congr (M' := St.mat (St.row ts (k : Int))) fun r _ c _ => by by_cases e : r = i <;> simp [e]).lens fun r _ => by by_cases e : r = i <;> simp [e]⟩, HB3⟩
          case measure => simp [intOf]; omega
        · rw [St.blk_bad (t := ⟨lab, cap, bs, lost⟩) hl hkl h79] at H1 H2
          have f4 : ((bs[k].length : Int) == 79) = false := beq_eq_false_iff_ne.2 (by omega)
          have hown := HO'.out.top
          rw [hl] at c3
          clear hl hrr hr2 h79
          go_wp2_with (at_builtin; refine wpList_append_own _ rfl _ _ 34 rfl w.heap.size 40 i0 (.slice none 0 0) 1 24 Try.underlying34 hi0 hz0 hz1 hz2 rfl (by decide) _ _ _ rfl (hown.alloc _) ⟨wr.heap.size, 0, none⟩ 1 1 [.slice none 0 0] rfl rfl (oneCell _ _ _) (oneSlice _ _ _) (by unfold maxLen; omega) (by omega) (by simp; omega) ?_)
          intro v' w3 hown' hgrow _
          have HP := Lib.hid (HO'.out.push hgrow hown' (.inl (Rd.empty _ _ (St.mat (St.row ts (k : Int)) i) _)))
          have HB3 := Lib.hid ((HB.out.alloc HB.out.size _).grown hgrow (by simp; omega) (fun x hx => (HO'.out.top.lt x hx).1))
          rw [show (0 : Nat) = St.lens (St.row ts (k : Int)) i from H1.out.symm] at HP
          clear hown' hgrow hown c0 c1 c2 c3 d1

          go_wp2
          go_roundw
          case rel => exact ⟨i + 1, by omega, by go_num, Lib.hid ⟨_, _, (HP.out.congr (M' := St.mat (St.row ts (k : Int))) fun r _ c _ => by by_cases e : r = i <;> simp [e]).lens fun r _ => by by_cases e : r = i <;> simp [e]⟩, HB3⟩
          case measure => simp [intOf]; omega
    · have e0 : decide (i < ts.length) = false := decide_eq_false hlt
      obtain rfl : i = ts.length := by omega
      obtain ⟨a, c, rfl, hc, hz, hro⟩ := HO'.out.val
      have HF := Lib.hid hro
      have HZ := Lib.hid hz
      clear hro hz HO'
      go_wp2
      go_ret
      exact ⟨a, c, rfl, hc, HZ.out, HF.out, HB.out⟩
end Go.Proofs.Ytcmdggdionghcaa
