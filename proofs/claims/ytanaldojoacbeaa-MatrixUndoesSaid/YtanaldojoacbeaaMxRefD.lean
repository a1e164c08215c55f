/- What the document's own MulMatrix and Cauchy answer, whatever they are given. -/
import Derived.Test.YtanaldojoacbeaaMxRefC
namespace Go.Proofs.Ytanaldojoacbeaa
open Go.RowKit Mx

set_option maxHeartbeats 1000000 in
theorem refMulM_any (A : Option Addr) (n C : Nat) (L : Nat → Nat) (M : Mat) (G : Nat → Prop) (A' : Option Addr) (n' C' : Nat) (L' : Nat → Nat) (M' : Mat) (G' : Nat → Prop) (w : World) (hm : n ≤ maxLen) (hm' : n' ≤ maxLen) (h : RdM w A n L M G) (h' : RdM w A' n' L' M' G') :
    Calls Try.prog 11 #[.slice A n C, .slice A' n' C'] w (MulAny n L M n' L' M' w) := by
  by_cases hr : rightB n L = true
  · obtain ⟨h1, h2, h3, h4, h5⟩ := rightB_true.1 hr
    by_cases hr2 : rightB n' L' = true
    · obtain ⟨k1, k2, k3, k4, k5⟩ := rightB_true.1 hr2
      by_cases he : L 0 = n'
      · refine (refMul_main A n C n' M G A' C' (L' 0) M' G' w (by omega) h2 (by omega) (by omega) (by omega) k4 (h.congr (fun i hi => by rw [h5 i hi, he]) (fun _ _ _ _ => rfl)) (h'.congr (fun i hi => k5 i hi) (fun _ _ _ _ => rfl))).mono fun e w' hh => ?_
        unfold MulAny
        rw [if_pos ⟨hr, hr2, he⟩]; exact hh
      · have hb : ((L 0 : Int) != (n' : Int)) = true := by rw [bne_iff_ne]; omega
        have HN : Hid (¬ (rightB n L = true ∧ rightB n' L' = true ∧ L 0 = n')) := Lib.hid (fun hh => he hh.2.2)
        have H := Lib.hid h
        have H' := Lib.hid h'
        have HR := Lib.hid hr
        have HR2 := Lib.hid hr2
        clear h hr he h5 h' hr2 k5
        go_enter Try.func11, Try.ntmps11
        go_wp2_with fail
        refine (refRight_is _ n C L M _ _ true hm H.out HR.out).mono ?_
        rintro e w1 ⟨rfl, hB0⟩
        have HB0 := Lib.hid hB0
        clear hB0
        go_wp2_with fail
        refine (refRight_is _ n' C' L' M' _ _ true hm' (H'.out.old HB0.out) HR2.out).mono ?_
        rintro e w2 ⟨rfl, hB1⟩
        obtain ⟨b0, off0, A0, C0, rfl, _, hc0, _⟩ := ((H.out.old HB0.out).old hB1).row (i := 0) (by omega)
        rw [Nat.add_zero] at hc0
        have HB1 := Lib.hid (HB0.out.trans (hB1.mono HB0.out.size))
        clear hB1
        go_wp2
        go_ret2
        unfold MulAny; rw [if_neg HN.out]; exact ResM.bad w HB1.out
    · have hr' : rightB n' L' = false := by simpa using hr2
      have HN : Hid (¬ (rightB n L = true ∧ rightB n' L' = true ∧ L 0 = n')) := Lib.hid (fun hh => hr2 hh.2.1)
      have H := Lib.hid h
      have H' := Lib.hid h'
      have HR := Lib.hid hr
      have HR2 := Lib.hid hr'
      clear h hr h5 h' hr2 hr'
      go_enter Try.func11, Try.ntmps11
      go_wp2_with fail
      refine (refRight_is _ n C L M _ _ true hm H.out HR.out).mono ?_
      rintro e w1 ⟨rfl, hB0⟩
      have HB0 := Lib.hid hB0
      clear hB0
      go_wp2_with fail
      refine (refRight_is _ n' C' L' M' _ _ false hm' (H'.out.old HB0.out) HR2.out).mono ?_
      rintro e w2 ⟨rfl, hB1⟩
      have HB1 := Lib.hid (HB0.out.trans (hB1.mono HB0.out.size))
      clear hB1
      go_wp2
      go_ret2
      unfold MulAny; rw [if_neg HN.out]; exact ResM.bad w HB1.out
  · have hr' : rightB n L = false := by simpa using hr
    have HN : Hid (¬ (rightB n L = true ∧ rightB n' L' = true ∧ L 0 = n')) := Lib.hid (fun hh => hr hh.1)
    have H := Lib.hid h
    have HR := Lib.hid hr'
    clear h hr hr' h'
    go_enter Try.func11, Try.ntmps11
    go_wp2_with fail
    refine (refRight_is _ n C L M _ _ false hm H.out HR.out).mono ?_
    rintro e w1 ⟨rfl, hB0⟩
    have HB0 := Lib.hid hB0
    clear hB0
    go_wp2
    go_ret2
    unfold MulAny; rw [if_neg HN.out]; exact ResM.bad w HB0.out

set_option maxHeartbeats 1000000 in
theorem refCauchy_bad (d p : Int) (w : World) (_hd : -9223372036854775808 ≤ d) (_hd' : d ≤ 9223372036854775807) (_hp : -9223372036854775808 ≤ p) (_hp' : p ≤ 9223372036854775807) (h : d < 1 ∨ p < 1 ∨ 255 < p ∨ 255 - p < d) :
    Calls Try.prog 21 #[.int .i64 d, .int .i64 p] w (ResM 1 0 0 one w) := by
  by_cases h1 : d < 1
  · clear h
    go_enter Try.func21, Try.ntmps21
    go_wp2
    go_ret2
    exact ResM.bad w (Below.refl _ _)
  · by_cases h2 : p < 1
    · clear h
      go_enter Try.func21, Try.ntmps21
      go_wp2
      go_ret2
      exact ResM.bad w (Below.refl _ _)
    · by_cases h5 : 255 < d
      · clear h
        go_enter Try.func21, Try.ntmps21
        go_wp2
        go_ret2
        exact ResM.bad w (Below.refl _ _)
      · by_cases h3 : 255 < p
        · clear h
          go_enter Try.func21, Try.ntmps21
          go_wp2
          go_ret2
          exact ResM.bad w (Below.refl _ _)
        · have h4 : 255 < d + p := by omega
          clear h
          go_enter Try.func21, Try.ntmps21
          go_wp2
          go_ret2
          exact ResM.bad w (Below.refl _ _)

theorem cellsOf_succ (n : Nat) (r : Nat → Fe) : cellsOf n r ++ [.int .u8 (fi (r n))] = cellsOf (n + 1) r := by
  unfold cellsOf; rw [List.range_succ, List.map_append]; rfl

set_option maxHeartbeats 2000000 in
theorem refCauchy_main (d p : Nat) (w : World) (hd0 : 0 < d) (hp0 : 0 < p) (hdp : d + p ≤ 255) :
    Calls Try.prog 21 #[.int .i64 (d : Int), .int .i64 (p : Int)] w (ResM 0 p d (cau p) w) := by
  go_enter Try.func21, Try.ntmps21
  go_wp2
  go_loopw [7, 6] (fun vi vo wr => ∃ i : Nat, i ≤ p ∧ vi = .int .i64 (i : Int) ∧ Hid (∃ G C, OwnA wr w.heap.size vo i d G C (cau p)) ∧ Hid (Below w.heap.size w wr)) (fun vi _ _ => p - (intOf vi).toNat)
  case atStart => exact ⟨0, by omega, rfl, Lib.hid ⟨fun _ => 0, fun _ => 0, OwnA.start _ _ _ _ _ _⟩, Lib.hid (Below.refl _ _)⟩
  case round =>
    obtain ⟨i, hi, rfl, HO, HB⟩ := hrel
    obtain ⟨G1, Cp1, hO⟩ := HO.out
    have HO' := Lib.hid hO
    clear hO HO
    obtain ⟨wo, rfl⟩ : ∃ x, x = wr := ⟨wr, rfl⟩
    by_cases hlt : i < p
    · go_wp2
      go_loopw [9, 8] (fun vj vr wq => ∃ j : Nat, j ≤ d ∧ vj = .int .i64 (j : Int) ∧ Hid (wq.ownsRow wo.heap.size 5 1 vr j (cellsOf j (cau p i))) ∧ Hid (Below wo.heap.size wo wq)) (fun vj _ _ => d - (intOf vj).toNat)
      case atStart => exact ⟨0, by omega, rfl, Lib.hid (World.ownsRow_nil _ _ _ _), Lib.hid (Below.refl _ _)⟩
      case round =>
        obtain ⟨j, hj, rfl, HO2, HB2⟩ := hrel
        by_cases hlt2 : j < d
        · have HCI : Hid (bits BinOp.xor IntKind.u8 (i : Int) ((p : Int) + (j : Int)) = fi (el i + el (p + j))) := by
            have hx := xor_fi (el i) (el (p + j))
            rw [fi_el (by omega), fi_el (by omega)] at hx
            exact Lib.hid (by rw [← hx]; congr 1)
          obtain ⟨i0, hi0, hz0, hz1, hz2⟩ := info_parts infoByte
          have hlow : wo.heap.size ≤ wr.heap.size := HB2.out.size
          have hown := HO2.out
          go_wp2_with fail
          rw [HCI.out]
          refine (refInv_fe _ _).mono ?_
          rintro e w' ⟨rfl, rfl⟩
          go_wp2_with (at_builtin; refine wpList_append_own _ rfl _ _ 23 rfl wo.heap.size 5 i0 (.int .u8 0) 1 1 Try.underlying23 hi0 hz0 hz1 hz2 rfl (by decide) _ _ _ rfl (hown.alloc _) ⟨wr.heap.size, 0, none⟩ 1 1 [.int .u8 (fi (inv (el i + el (p + j))))] rfl rfl (oneCell _ _ _) (oneByte _) (by unfold maxLen; omega) (by omega) (by simp; omega) ?_)
          intro v' w3 hown' hgrow _
          have HO3 : Hid (w3.ownsRow wo.heap.size 5 1 v' (j + 1) (cellsOf (j + 1) (cau p i))) := by
            rw [← cellsOf_succ]; exact Lib.hid hown'
          have HB3 := Lib.hid ((HB2.out.alloc hlow _).grown hgrow (by simp; omega) (fun x hx => (HO2.out.lt x hx).1))
          clear hown' hgrow hown
          go_wp2
          go_roundw
          case rel => exact ⟨j + 1, by omega, by go_num, HO3, HB3⟩
          case measure => simp [intOf]; omega
        · obtain ⟨g, c, rfl, hg, hc, hr⟩ := RowAt.of_owns (show wr.ownsRow wo.heap.size 5 1 _ d (cellsOf d (cau p i)) by
            have hjd : j = d := by omega
            have hh := HO2.out
            rw [hjd] at hh
            exact hh) hd0
          have HRW := Lib.hid hr
          have HA := Lib.hid (HO'.out.old HB2.out)
          obtain ⟨i0, hi0, hz0, hz1, hz2⟩ := info_parts infoRow
          have hown := HA.out.top
          have HX := Lib.hid (HB.out.trans (HB2.out.mono HB.out.size))
          have hlow : w.heap.size ≤ wr.heap.size := HX.out.size
          clear hr HO2
          go_wp2_with (at_builtin; refine wpList_append_own _ rfl _ _ 22 rfl w.heap.size 23 i0 (.slice none 0 0) 1 24 Try.underlying22 hi0 hz0 hz1 hz2 rfl (by decide) _ _ _ rfl (hown.alloc _) ⟨wr.heap.size, 0, none⟩ 1 1 [.slice (some ⟨g, 0, none⟩) d c] rfl rfl (oneCell _ _ _) (oneSlice _ _ _) (by unfold maxLen; omega) (by omega) (by simp; omega) ?_)
          intro v' w3 hown' hgrow _
          have HP := Lib.hid (HA.out.push hgrow hown' HRW.out (fun r hr => by have := (HO'.out.rows r hr).lt; omega) (Nat.le_trans HB.out.size hg) hc)
          have HB3 := Lib.hid ((HX.out.alloc hlow _).grown hgrow (by simp; omega) (fun x hx => (HA.out.top.lt x hx).1))
          clear hown' hgrow hown
          go_wp2
          go_roundw
          case rel => exact ⟨i + 1, by omega, by go_num, Lib.hid ⟨_, _, HP.out.congr (M' := cau p) fun r _ c _ => by by_cases e : r = i <;> simp [e]⟩, HB3⟩
          case measure => simp [intOf]; omega
    · obtain rfl : i = p := by omega
      obtain ⟨b, cp, rfl, _, _, hK⟩ := HO'.out.own hp0
      have HK := Lib.hid hK
      clear hK
      go_wp2
      go_ret2
      exact ⟨_, _, rfl, HK.out.rdAll (Nat.le_refl _), HB.out⟩
end Go.Proofs.Ytanaldojoacbeaa
