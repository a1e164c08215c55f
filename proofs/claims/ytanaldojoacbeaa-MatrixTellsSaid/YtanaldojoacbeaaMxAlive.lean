/- What the document's own Inverse answers, whatever it is given; and that the example of chapter 2 holds. -/
import Derived.Test.YtanaldojoacbeaaMxRefE
namespace Go.Proofs.Ytanaldojoacbeaa
open Go.RowKit Mx

set_option maxRecDepth 100000 in
set_option maxHeartbeats 1000000 in
theorem refInverse_any (A : Option Addr) (n C : Nat) (L : Nat → Nat) (M : Mat) (G : Nat → Prop) (w : World) (hm : n ≤ maxLen) (h : RdM w A n L M G) :
    Calls Try.prog 15 #[.slice A n C] w (InvAny n L M w) := by
  by_cases hr : rightB n L = true
  · obtain ⟨h1, h2, h3, h4, h5⟩ := rightB_true.1 hr
    by_cases he : n = L 0
    · refine (refInverse_main A n C M G w (by omega) h2 (h.congr (fun i hi => by rw [h5 i hi, he]) (fun _ _ _ _ => rfl))).mono fun e w' hh => ?_
      unfold InvAny
      rw [if_pos ⟨hr, he⟩]; exact hh
    · have hb : ((n : Int) != (L 0 : Int)) = true := by rw [bne_iff_ne]; omega
      have HN : Hid (¬ (rightB n L = true ∧ n = L 0)) := Lib.hid (fun hh => he hh.2)
      have H := Lib.hid h
      have HR := Lib.hid hr
      clear h hr he h5
      go_enter Try.func15, Try.ntmps15
      go_wp2_with fail
      refine (refRight_is _ n C L M _ _ true hm H.out HR.out).mono ?_
      rintro e w1 ⟨rfl, hB0⟩
      obtain ⟨b0, off0, A0, C0, rfl, _, hc0, _⟩ := (H.out.old hB0).row (i := 0) (by omega)
      rw [Nat.add_zero] at hc0
      have HB0 := Lib.hid hB0
      clear hB0
      go_wp2
      go_ret2
      unfold InvAny; rw [if_neg HN.out]; exact ResM.bad w HB0.out
  · have hr' : rightB n L = false := by simpa using hr
    have HN : Hid (¬ (rightB n L = true ∧ n = L 0)) := Lib.hid (fun hh => hr hh.1)
    have H := Lib.hid h
    have HR := Lib.hid hr'
    clear h hr hr'
    go_enter Try.func15, Try.ntmps15
    go_wp2_with fail
    refine (refRight_is _ n C L M _ _ false hm H.out HR.out).mono ?_
    rintro e w1 ⟨rfl, hB0⟩
    have HB0 := Lib.hid hB0
    clear hB0
    go_wp2
    go_ret2
    unfold InvAny; rw [if_neg HN.out]; exact ResM.bad w HB0.out

/-! ### The answers as functions of what was given -/
theorem InvAny.res (n : Nat) (L : Nat → Nat) (M : Mat) : ∃ (code : Int) (k q : Nat) (X : Mat), k ≤ 255 ∧ ∀ w e w', InvAny n L M w e w' → ResM code k q X w e w' := by
  by_cases h : rightB n L = true ∧ n = L 0
  · have hn := (rightB_true.1 h.1).2.1
    cases hg : gjs n M n with
    | none => exact ⟨12, 0, 0, one, by omega, fun w e w' hh => by unfold InvAny InvRes at hh; rw [if_pos h, hg] at hh; exact hh⟩
    | some s => exact ⟨0, n, n, s.2, hn, fun w e w' hh => by unfold InvAny InvRes at hh; rw [if_pos h, hg] at hh; exact hh⟩
  · exact ⟨1, 0, 0, one, by omega, fun w e w' hh => by unfold InvAny at hh; rw [if_neg h] at hh; exact hh⟩
theorem MulAny.res (n : Nat) (L : Nat → Nat) (M : Mat) (n' : Nat) (L' : Nat → Nat) (M' : Mat) : ∃ (code : Int) (k q : Nat) (X : Mat), k ≤ 255 ∧ ∀ w e w', MulAny n L M n' L' M' w e w' → ResM code k q X w e w' := by
  by_cases h : rightB n L = true ∧ rightB n' L' = true ∧ L 0 = n'
  · exact ⟨0, n, L' 0, mm n' M M', (rightB_true.1 h.1).2.1, fun w e w' hh => by unfold MulAny at hh; rw [if_pos h] at hh; exact hh⟩
  · exact ⟨1, 0, 0, one, by omega, fun w e w' hh => by unfold MulAny at hh; rw [if_neg h] at hh; exact hh⟩
theorem ApplyAny.res (n : Nat) (L : Nat → Nat) (M : Mat) (m : Nat) (v : Nat → Fe) : ∃ (code : Int) (k : Nat) (x : Nat → Fe), k ≤ 255 ∧ ∀ w e w', ApplyAny n L M m v w e w' → ResV code k x w e w' := by
  by_cases h : rightB n L = true ∧ L 0 = m
  · exact ⟨0, n, mv m M v, (rightB_true.1 h.1).2.1, fun w e w' hh => by unfold ApplyAny at hh; rw [if_pos h] at hh; exact hh⟩
  · exact ⟨1, 0, fun _ => 0, by omega, fun w e w' hh => by unfold ApplyAny at hh; rw [if_neg h] at hh; exact hh⟩

/-! ### The example -/
theorem gjs_single : ∃ R V, gjs 1 (fun _ _ => 1) 1 = some (R, V) ∧ V 0 0 = 1 := by
  obtain ⟨R, V, h⟩ := gjs_some (n := 1) (M := fun _ _ => (1 : Fe)) (fun x hx c hc => by
    have := hx 0 (by omega)
    unfold mv at this
    rw [sm_succ] at this
    rw [show c = 0 by omega]
    simpa [sm, zero_add, one_mul] using this)
  refine ⟨R, V, h, ?_⟩
  have := (gjs_ok h).1 0 (by omega) 0 (by omega)
  unfold mm at this
  rw [sm_succ, one_same] at this
  simpa [sm, zero_add, one_mul] using this
def ex2 : Nat → Fe := fun j => if j = 0 then el 2 else el 3
theorem mv_ex : mv 2 (fun _ _ => 1) ex2 0 = 1 := by decide +kernel
theorem cell_new (w : World) (c : Array Value) (t : TypeId) (s i : Nat) (hs : s = w.heap.size) : (w.alloc (.cells c t)).cell? ⟨s, i, none⟩ = c[i]? := by
  subst hs; exact cell_of_row _ _ _ _ _ (0, 0) (heap_alloc_new w _)
theorem cell_past (w : World) (o : Obj) (s i : Nat) (hs : s < w.heap.size) : (w.alloc o).cell? ⟨s, i, none⟩ = w.cell? ⟨s, i, none⟩ := World.cell?_alloc_lt w o _ hs
theorem lit_one (w : World) : RdM ((w.alloc (.cells #[.int .u8 1] 5)).alloc (.cells #[.slice (some ⟨w.heap.size, 0, none⟩) 1 1] 23)) (some ⟨w.heap.size + 1, 0, none⟩) 1 (fun _ => 1) (fun _ _ => 1) (fun _ => True) := by
  intro _
  refine ⟨w.heap.size + 1, 0, rfl, trivial, fun i hi => ⟨some ⟨w.heap.size, 0, none⟩, 1, ?_, fun _ => ⟨w.heap.size, 0, rfl, trivial, fun j hj => ?_⟩⟩⟩
  · rw [show i = 0 by omega, cell_new _ _ _ _ _ (by simp)]; rfl
  · have hj' : j < 1 := hj
    rw [show j = 0 by omega, cell_past _ _ _ _ (by simp), cell_new _ _ _ _ _ rfl]; rfl
theorem lit_two (w : World) : RdM (((w.alloc (.cells #[.int .u8 1, .int .u8 1] 5)).alloc (.cells #[.slice (some ⟨w.heap.size, 0, none⟩) 2 2] 23)).alloc (.cells #[.int .u8 2, .int .u8 3] 5)) (some ⟨w.heap.size + 1, 0, none⟩) 1 (fun _ => 2) (fun _ _ => 1) (fun _ => True) := by
  intro _
  refine ⟨w.heap.size + 1, 0, rfl, trivial, fun i hi => ⟨some ⟨w.heap.size, 0, none⟩, 2, ?_, fun _ => ⟨w.heap.size, 0, rfl, trivial, fun j hj => ?_⟩⟩⟩
  · rw [show i = 0 by omega, cell_past _ _ _ _ (by simp), cell_new _ _ _ _ _ (by simp)]; rfl
  · have hj' : j < 2 := hj
    rw [cell_past _ _ _ _ (by simp; omega), cell_past _ _ _ _ (by simp), cell_new _ _ _ _ _ rfl]
    rcases (show j = 0 ∨ j = 1 by omega) with rfl | rfl <;> rfl
theorem lit_vec (w : World) : Rd (((w.alloc (.cells #[.int .u8 1, .int .u8 1] 5)).alloc (.cells #[.slice (some ⟨w.heap.size, 0, none⟩) 2 2] 23)).alloc (.cells #[.int .u8 2, .int .u8 3] 5)) (some ⟨w.heap.size + 2, 0, none⟩) 2 ex2 (fun _ => True) := by
  intro _
  refine ⟨w.heap.size + 2, 0, rfl, trivial, fun j hj => ?_⟩
  rw [cell_new _ _ _ _ _ (by simp)]
  rcases (show j = 0 ∨ j = 1 by omega) with rfl | rfl <;> rfl

set_option maxRecDepth 100000 in
set_option maxHeartbeats 2000000 in
theorem alive_true (w : World) : Calls Try.prog 8 #[] w fun e w' => e = .returned (.bool true) ∧ Below w.heap.size w w' := by
  obtain ⟨R, V, hg, hV⟩ := gjs_single
  have HG := Lib.hid hg
  have HV := Lib.hid hV
  clear hg hV
  go_enter Try.func8, Try.ntmps8
  go_wp2_with fail
  refine (inverse_main _ 1 1 (fun _ _ => 1) _ _ (by omega) (by omega) (lit_one w)).mono ?_
  intro e w1 hres
  unfold InvRes at hres
  rw [HG.out] at hres
  obtain ⟨A, C, rfl, hrd, hB⟩ := hres
  have HR := Lib.hid hrd
  have HB : Hid (Below w.heap.size w w1) := Lib.hid ((((Below.refl w.heap.size w).alloc (Nat.le_refl _) _).alloc (by simp) _).trans (hB.mono (by simp; omega)))
  clear hrd hB
  go_wp2_with fail
  refine (apply_main _ 1 1 2 (fun _ _ => 1) _ _ 2 ex2 _ _ (by omega) (by omega) (by omega) (by omega) (lit_two w1) (lit_vec w1)).mono ?_
  rintro e w2 ⟨A2, C2, rfl, hrd2, hB2⟩
  have hB3 : Below w1.heap.size w1 w2 := ((((Below.refl w1.heap.size w1).alloc (Nat.le_refl _) _).alloc (by simp) _).alloc (by simp; omega) _).trans (hB2.mono (by simp; omega))
  have HB3 := Lib.hid (HB.out.trans (hB3.mono HB.out.size))
  have HR3 := Lib.hid (HR.out.below hB3)
  obtain ⟨b, off, A3, C3, rfl, _, d1, hr1⟩ := (HR.out.below hB3).row (i := 0) (by omega)
  obtain ⟨b2, off2, rfl, _, d2⟩ := hr1.at (j := 0) (by omega)
  obtain ⟨b4, off4, rfl, _, d3⟩ := hrd2.at (j := 0) (by omega)
  rw [HV.out, fi_one] at d2
  rw [mv_ex, fi_one] at d3
  rw [Nat.add_zero] at d1 d2 d3
  clear hrd2 hB2 hB3 hr1
  go_wp2_with (first
    | (go_at_call 19; refine (num_any _ _).mono ?_; rintro e w' ⟨rfl, rfl⟩)
    | (go_at_call 16; refine (right_is _ _ _ _ _ _ _ true (by decide) HR3.out rfl).mono ?_; rintro e w' ⟨rfl, rfl⟩))
  go_ret
  exact ⟨rfl, HB3.out⟩
end Go.Proofs.Ytanaldojoacbeaa
