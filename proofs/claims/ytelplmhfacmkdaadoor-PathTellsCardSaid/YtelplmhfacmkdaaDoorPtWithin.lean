/- What package path answers: Parts, Within. -/
import Derived.Test.YtelplmhfacmkdaaDoorPtRight
namespace Go.Proofs.YtelplmhfacmkdaaDoor
open Go.RowKit
open Pt (Tx)

theorem clone_text (s : Tx) (w : World) (hl : s.length ≤ 1000000) :
    Calls Tryd.prog 16 #[.string (tx s)] w fun e w' => e = .returned (.string (tx s)) ∧ Below w.heap.size w w' := by
  have es := tx_size s
  go_enter Tryd.func16, Tryd.ntmps16
  go_wp2_with fail
  refine (Tryd.stringslite_Clone (tx s) _ (by omega)).mono ?_
  rintro e w1 ⟨rfl, hb⟩
  have HB := Lib.hid hb
  clear hb
  go_wp2
  go_ret
  exact ⟨rfl, HB.out⟩
set_option maxHeartbeats 1000000 in
theorem parts_any (s : Tx) (w : World) (hl : s.length ≤ maxLen) (hk : Kept w) :
    Calls Tryd.prog 10 #[.string (tx s)] w (TxAns (Pt.parts s) w) := by
  have HL := Lib.hid hl
  have HK := Lib.hid hk
  clear hk hl
  cases hr : Pt.right s with
  | false =>
    have H : Hid (Pt.parts s = []) := Lib.hid (Pt.parts_wrong hr)
    go_enter Tryd.func10, Tryd.ntmps10
    go_wp2_with fail
    refine (right_any s _ HL.out HK.out).mono ?_
    rintro e w1 ⟨rfl, hb⟩
    have HB := Lib.hid hb
    clear hb
    rw [hr]
    go_wp2
    go_ret
    rw [H.out]
    exact TxAns.empty HB.out
  | true =>
    have H : Hid (Pt.parts s = Pt.cut s) := Lib.hid (Pt.parts_right hr)
    have HM : Hid (s.length ≤ 24) := Lib.hid (Pt.right_iff.1 hr).2.1
    go_enter Tryd.func10, Tryd.ntmps10
    go_wp2_with fail
    refine (right_any s _ HL.out HK.out).mono ?_
    rintro e w1 ⟨rfl, hb⟩
    have HB := Lib.hid hb
    have HK1 := Lib.hid (HK.out.old hb)
    clear hb
    rw [hr]
    go_wp2_with fail
    refine (clone_text s _ (by have := HM.out; omega)).mono ?_
    rintro e w2 ⟨rfl, hb2⟩
    have HB2 := Lib.hid hb2
    have HK2 := Lib.hid (HK1.out.old hb2)
    clear hb2
    go_wp2_with fail
    refine (split_any s _ HK2.out (by have := HM.out; omega)).mono ?_
    rintro e w3 ⟨A, rfl, hx, hb3⟩
    have HB3 := Lib.hid hb3
    have HX := Lib.hid hx
    clear hb3 hx
    go_wp2
    go_ret
    rw [H.out]
    exact ⟨A, _, rfl, HX.out, (HB.out.trans (HB2.out.mono HB.out.size)).trans (HB3.out.mono (Nat.le_trans HB.out.size HB2.out.size))⟩
theorem tx_one : (⟨#[47]⟩ : ByteArray) = tx [47] := rfl
set_option maxHeartbeats 1000000 in
theorem within_any (s d : Tx) (w : World) (hl : s.length ≤ maxLen) (hd : d.length ≤ maxLen) (hk : Kept w) :
    Calls Tryd.prog 12 #[.string (tx s), .string (tx d)] w fun e w' => e = .returned (.bool (Pt.within s d)) ∧ Below w.heap.size w w' := by
  have HL := Lib.hid hl
  have HD := Lib.hid hd
  have HK := Lib.hid hk
  clear hk hl hd
  have e1 := tx_toList s
  have e2 := tx_toList d
  cases hr : Pt.right s with
  | false =>
    have H : Hid (Pt.within s d = false) := Lib.hid (by unfold Pt.within; rw [hr]; rfl)
    go_enter Tryd.func12, Tryd.ntmps12
    go_wp2_with fail
    refine (right_any s _ HL.out HK.out).mono ?_
    rintro e w1 ⟨rfl, hb⟩
    have HB := Lib.hid hb
    clear hb
    rw [hr]
    go_wp2
    go_ret
    exact ⟨retB H.out.symm, HB.out⟩
  | true =>
    cases hq : Pt.right d with
    | false =>
      have H : Hid (Pt.within s d = false) := Lib.hid (by unfold Pt.within; rw [hr, hq]; rfl)
      go_enter Tryd.func12, Tryd.ntmps12
      go_wp2_with fail
      refine (right_any s _ HL.out HK.out).mono ?_
      rintro e w1 ⟨rfl, hb⟩
      have HB := Lib.hid hb
      have HK1 := Lib.hid (HK.out.old hb)
      clear hb
      rw [hr]
      go_wp2_with fail
      refine (right_any d _ HD.out HK1.out).mono ?_
      rintro e w2 ⟨rfl, hb2⟩
      have HB2 := Lib.hid hb2
      clear hb2
      rw [hq]
      go_wp2
      go_ret
      exact ⟨retB H.out.symm, HB.out.trans (HB2.out.mono HB.out.size)⟩
    | true =>
      have H : Hid (Pt.within s d = (s == d || (d ++ [47]).isPrefixOf s)) := Lib.hid (by unfold Pt.within; rw [hr, hq]; rfl)
      have hm : d.length ≤ 24 := (Pt.right_iff.1 hq).2.1
      have es := tx_size d
      have ea : tx d ++ ⟨#[47]⟩ = tx (d ++ [47]) := by rw [tx_one, tx_append]
      by_cases he : s = d
      · have q : (s == d) = true := by rw [he]; exact beq_self_eq_true d
        clear he
        go_enter Tryd.func12, Tryd.ntmps12
        go_wp2_with fail
        refine (right_any s _ HL.out HK.out).mono ?_
        rintro e w1 ⟨rfl, hb⟩
        have HB := Lib.hid hb
        have HK1 := Lib.hid (HK.out.old hb)
        clear hb
        rw [hr]
        go_wp2_with fail
        refine (right_any d _ HD.out HK1.out).mono ?_
        rintro e w2 ⟨rfl, hb2⟩
        have HB2 := Lib.hid hb2
        clear hb2
        rw [hq]
        go_wp2
        go_ret
        exact ⟨retB (by rw [H.out, q]; rfl), HB.out.trans (HB2.out.mono HB.out.size)⟩
      · have q : (s == d) = false := by simpa using he
        clear he
        go_enter Tryd.func12, Tryd.ntmps12
        go_wp2_with fail
        refine (right_any s _ HL.out HK.out).mono ?_
        rintro e w1 ⟨rfl, hb⟩
        have HB := Lib.hid hb
        have HK1 := Lib.hid (HK.out.old hb)
        clear hb
        rw [hr]
        go_wp2_with fail
        refine (right_any d _ HD.out HK1.out).mono ?_
        rintro e w2 ⟨rfl, hb2⟩
        have HB2 := Lib.hid hb2
        clear hb2
        rw [hq]
        go_wp2_with fail
        refine (hasPrefix_any s (d ++ [47]) _).mono ?_
        rintro e w3 ⟨rfl, rfl⟩
        go_wp2
        go_ret
        exact ⟨retB (by rw [H.out, q]; rfl), HB.out.trans (HB2.out.mono HB.out.size)⟩
end Go.Proofs.YtelplmhfacmkdaaDoor
