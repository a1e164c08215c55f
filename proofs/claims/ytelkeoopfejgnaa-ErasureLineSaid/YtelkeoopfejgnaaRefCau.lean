/- What the document's own Cauchy answers, whatever it is given. -/
import Derived.Test.YtelkeoopfejgnaaRefFe
namespace Go.Proofs.Ytelkeoopfejgnaa
open Go.RowKit Mx

set_option maxHeartbeats 1000000 in
theorem refCauchy_bad (d p : Int) (w : World) (_hd : -9223372036854775808 ≤ d) (_hd' : d ≤ 9223372036854775807) (_hp : -9223372036854775808 ≤ p) (_hp' : p ≤ 9223372036854775807) (h : d < 1 ∨ p < 1 ∨ 255 < p ∨ 255 - p < d) :
    Calls Try.prog 17 #[.int .i64 d, .int .i64 p] w (ResM 1 0 0 one w) := by
  by_cases h1 : d < 1
  · clear h
    go_enter Try.func17, Try.ntmps17
    go_wp2
    go_ret2
    exact ResM.bad w (Below.refl _ _)
  · by_cases h2 : p < 1
    · clear h
      go_enter Try.func17, Try.ntmps17
      go_wp2
      go_ret2
      exact ResM.bad w (Below.refl _ _)
    · by_cases h5 : 255 < d
      · clear h
        go_enter Try.func17, Try.ntmps17
        go_wp2
        go_ret2
        exact ResM.bad w (Below.refl _ _)
      · by_cases h3 : 255 < p
        · clear h
          go_enter Try.func17, Try.ntmps17
          go_wp2
          go_ret2
          exact ResM.bad w (Below.refl _ _)
        · have h4 : 255 < d + p := by omega
          clear h
          go_enter Try.func17, Try.ntmps17
          go_wp2
          go_ret2
          exact ResM.bad w (Below.refl _ _)
set_option maxHeartbeats 2000000 in
theorem refCauchy_main (d p : Nat) (w : World) (hd0 : 0 < d) (hp0 : 0 < p) (hdp : d + p ≤ 255) :
    Calls Try.prog 17 #[.int .i64 (d : Int), .int .i64 (p : Int)] w (ResM 0 p d (cau p) w) := by
  go_enter Try.func17, Try.ntmps17
  go_wp2
  go_loopw [7, 6] (fun vi vo wr => ∃ i : Nat, i ≤ p ∧ vi = .int .i64 (i : Int) ∧ Hid (∃ G C, OwnA wr w.heap.size vo i d G C (cau p)) ∧ Hid (Below w.heap.size w wr)) (fun vi _ _ => p - (intOf vi).toNat)
  case atStart => exact ⟨0, by omega, rfl, Lib.hid ⟨fun _ => 0, fun _ => 0, OwnA.start _ _ _ _ _ _⟩, Lib.hid (Below.refl _ _)⟩
  case round =>
    obtain ⟨i, hi, rfl, HO, HB⟩ := hrel
    obtain ⟨G1, Cp1, hO⟩ := HO.out
    have HO' := Lib.hid hO
    clear hO HO
    obtain ⟨wo, rfl⟩ : ∃ x, x = wr := ⟨wr, rfl⟩
    by_cases hlt : i < p
    · go_wp2
      go_loopw [9, 8] (fun vj vr wq => ∃ j : Nat, j ≤ d ∧ vj = .int .i64 (j : Int) ∧ Hid (wq.ownsRow wo.heap.size 5 1 vr j (cellsOf j (cau p i))) ∧ Hid (Below wo.heap.size wo wq)) (fun vj _ _ => d - (intOf vj).toNat)
      case atStart => exact ⟨0, by omega, rfl, Lib.hid (World.ownsRow_nil _ _ _ _), Lib.hid (Below.refl _ _)⟩
      case round =>
        obtain ⟨j, hj, rfl, HO2, HB2⟩ := hrel
        by_cases hlt2 : j < d
        · have HCI : Hid (bits BinOp.xor IntKind.u8 (i : Int) ((p : Int) + (j : Int)) = fi (el i + el (p + j))) := by
            have hx := xor_fi (el i) (el (p + j))
            rw [fi_el (by omega), fi_el (by omega)] at hx
            exact Lib.hid (by rw [← hx]; congr 1)
          obtain ⟨i0, hi0, hz0, hz1, hz2⟩ := info_parts infoByte
          have hlow : wo.heap.size ≤ wr.heap.size := HB2.out.size
          have hown := HO2.out
          go_wp2_with fail
          rw [HCI.out]
          refine (refInv_fe _ _).mono ?_
          rintro e w' ⟨rfl, rfl⟩
          go_wp2_with (at_builtin; refine wpList_append_own _ rfl _ _ 34 rfl wo.heap.size 5 i0 (.int .u8 0) 1 1 Try.underlying34 hi0 hz0 hz1 hz2 rfl (by decide) _ _ _ rfl (hown.alloc _) ⟨wr.heap.size, 0, none⟩ 1 1 [.int .u8 (fi (inv (el i + el (p + j))))] rfl rfl (oneCell _ _ _) (oneByte _) (by unfold maxLen; omega) (by omega) (by simp; omega) ?_)
          intro v' w3 hown' hgrow _
          have HO3 : Hid (w3.ownsRow wo.heap.size 5 1 v' (j + 1) (cellsOf (j + 1) (cau p i))) := by
            rw [← cellsOf_succ]; exact Lib.hid hown'
          have HB3 := Lib.hid ((HB2.out.alloc hlow _).grown hgrow (by simp; omega) (fun x hx => (HO2.out.lt x hx).1))
          clear hown' hgrow hown
          go_wp2
          go_roundw
          case rel => exact ⟨j + 1, by omega, by go_num, HO3, HB3⟩
          case measure => simp [intOf]; omega
        · obtain ⟨g, c, rfl, hg, hc, hr⟩ := RowAt.of_owns (show wr.ownsRow wo.heap.size 5 1 _ d (cellsOf d (cau p i)) by
            have hjd : j = d := by omega
            have hh := HO2.out
            rw [hjd] at hh
            exact hh) hd0
          have HRW := Lib.hid hr
          have HA := Lib.hid (HO'.out.old HB2.out)
          obtain ⟨i0, hi0, hz0, hz1, hz2⟩ := info_parts infoRow
          have hown := HA.out.top
          have HX := Lib.hid (HB.out.trans (HB2.out.mono HB.out.size))
          have hlow : w.heap.size ≤ wr.heap.size := HX.out.size
          clear hr HO2
          go_wp2_with (at_builtin; refine wpList_append_own _ rfl _ _ 22 rfl w.heap.size 34 i0 (.slice none 0 0) 1 24 Try.underlying22 hi0 hz0 hz1 hz2 rfl (by decide) _ _ _ rfl (hown.alloc _) ⟨wr.heap.size, 0, none⟩ 1 1 [.slice (some ⟨g, 0, none⟩) d c] rfl rfl (oneCell _ _ _) (oneSlice _ _ _) (by unfold maxLen; omega) (by omega) (by simp; omega) ?_)
          intro v' w3 hown' hgrow _
          have HP := Lib.hid (HA.out.push hgrow hown' HRW.out (fun r hr => by have := (HO'.out.rows r hr).lt; omega) (Nat.le_trans HB.out.size hg) hc)
          have HB3 := Lib.hid ((HX.out.alloc hlow _).grown hgrow (by simp; omega) (fun x hx => (HA.out.top.lt x hx).1))
          clear hown' hgrow hown
          go_wp2
          go_roundw
          case rel => exact ⟨i + 1, by omega, by go_num, Lib.hid ⟨_, _, HP.out.congr (M' := cau p) fun r _ c _ => by by_cases e : r = i <;> simp [e]⟩, HB3⟩
          case measure => simp [intOf]; omega
    · obtain rfl : i = p := by omega
      obtain ⟨b, cp, rfl, _, _, hK⟩ := HO'.out.own hp0
      have HK := Lib.hid hK
      clear hK
      go_wp2
      go_ret2
      exact ⟨_, _, rfl, HK.out.rdAll (Nat.le_refl _), HB.out⟩
end Go.Proofs.Ytelkeoopfejgnaa
