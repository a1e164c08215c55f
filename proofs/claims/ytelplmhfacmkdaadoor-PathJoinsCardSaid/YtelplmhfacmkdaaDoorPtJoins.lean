/- What the law on joined parts answers: true; nothing that was there is written. -/
import Derived.Test.YtelplmhfacmkdaaDoorPtAlive
import Derived.Test.YtelplmhfacmkdaaDoorRefPt
namespace Go.Proofs.YtelplmhfacmkdaaDoor
open Go.RowKit
open Pt (Tx)

set_option maxRecDepth 100000 in
set_option maxHeartbeats 4000000 in
theorem pathJoins_walk (s : Tx) (w : World) (hl : s.length ≤ maxLen) (hk : Kept w) :
    Calls Tryd.prog 5 #[.string (tx s)] w fun e w' => e = .returned (.bool true) ∧ Below w.heap.size w w' := by
  have HL := Lib.hid hl
  have HK := Lib.hid hk
  unfold maxLen at hl
  clear hk
  have es := tx_size s
  by_cases h1 : 24 < s.length
  · have z1 : decide (24 < s.length) = true := decide_eq_true h1
    go_enter Tryd.func5, Tryd.ntmps5
    go_wp2_with fail
    refine (alive5_true _ HK.out).mono ?_
    rintro e w1 ⟨rfl, hb⟩
    have HB := Lib.hid hb
    clear hb
    go_wp2
    go_ret
    exact ⟨rfl, HB.out⟩
  have z1 : decide (24 < s.length) = false := decide_eq_false h1
  have z2 : decide (24 < (s.length : Int)) = false := decide_eq_false (by omega)
  cases hr : Pt.right s with
  | false =>
    go_enter Tryd.func5, Tryd.ntmps5
    go_wp2_with fail
    refine (alive5_true _ HK.out).mono ?_
    rintro e w1 ⟨rfl, hb⟩
    have HB := Lib.hid hb
    clear hb
    go_wp2_with fail
    refine (refRight_any s _ HL.out).mono ?_
    rintro e w2 ⟨rfl, hb⟩
    have HB2 := Lib.hid (HB.out.trans (hb.mono HB.out.size))
    clear hb
    rw [hr]
    go_wp2
    go_ret
    exact ⟨rfl, HB2.out⟩
  | true =>
    have HR := Lib.hid hr
    have HP : Hid (Pt.parts s = Pt.cut s) := Lib.hid (Pt.parts_right hr)
    have hn : (Pt.cut s).length ≤ 25 := by have := cut_few s; omega
    have HS : Hid (∀ j (h : j < (Pt.cut s).length), ((Pt.cut s)[j]).length ≤ 24) := Lib.hid (fun j h => by have := cut_short h; omega)
    have HU : Hid (∀ k, 0 < k → k ≤ (Pt.cut s).length → (Pt.upto s k).length ≤ 24) := Lib.hid fun k h0 h => by have := Pt.upto_len h0 h; omega
    have ey := tx_toList s
    go_enter Tryd.func5, Tryd.ntmps5
    go_wp2_with fail
    refine (alive5_true _ HK.out).mono ?_
    rintro e w1 ⟨rfl, hb⟩
    have HB := Lib.hid hb
    have HK1 := Lib.hid (HK.out.old hb)
    clear hb
    go_wp2_with fail
    refine (refRight_any s _ HL.out).mono ?_
    rintro e w2 ⟨rfl, hb⟩
    have HB2 := Lib.hid (HB.out.trans (hb.mono HB.out.size))
    have HK2 := Lib.hid (HK1.out.old hb)
    clear hb
    rw [hr]
    go_wp2_with fail
    refine (parts_any s _ HL.out HK2.out).mono ?_
    rintro e w3 ⟨A, c, rfl, hx, hb⟩
    have HB3 := Lib.hid (HB2.out.trans (hb.mono HB2.out.size))
    have HK3 := Lib.hid (HK2.out.old hb)
    rw [HP.out] at hx ⊢
    have HX := Lib.hid hx
    clear hb hx
    go_wp2
    clear z1 z2
    go_loopw [6, 5] (fun vi vt wr => ∃ k : Nat, k ≤ (Pt.cut s).length ∧ vi = .int .i64 (k : Int) ∧ vt = .string (tx (Pt.upto s k)) ∧ Hid (Below w3.heap.size w3 wr)) (fun vi _ _ => (Pt.cut s).length - (intOf vi).toNat)
    case atStart => exact ⟨0, by omega, rfl, rfl, Lib.hid (Below.refl _ _)⟩
    case round =>
      obtain ⟨k, hkk, rfl, rfl, HW⟩ := hrel
      by_cases hlt : k < (Pt.cut s).length
      · have HKr := Lib.hid (HK3.out.old HW.out)
        obtain ⟨b, off, rfl, hc⟩ := (HX.out.old HW.out).at hlt
        have hsh := HS.out k hlt
        have q1 := tx_size (Pt.cut s)[k]
        have HN : Hid (Pt.upto s (k + 1) = (if 0 < k then Pt.upto s k ++ [47] else Pt.upto s k) ++ (Pt.cut s)[k]) := Lib.hid (Pt.upto_succ s k hlt)
        have R1 : Hid (Pt.right (Pt.upto s (k + 1)) = true) := Lib.hid (Pt.upto_right HR.out (by omega) (by omega))
        have R2 : Hid (Pt.within s (Pt.upto s (k + 1)) = true) := Lib.hid (Pt.upto_within HR.out (by omega) (by omega))
        have R3 : Hid (Pt.within (Pt.upto s (k + 1)) s = (Pt.upto s (k + 1) == s)) := Lib.hid (Pt.within_upto HR.out (by omega) (by omega))
        have hu1 : Hid ((Pt.upto s (k + 1)).length ≤ maxLen) := Lib.hid (by have := HU.out (k + 1) (by omega) (by omega); unfold maxLen; omega)
        have et := tx_toList (Pt.upto s (k + 1))
        by_cases h0 : 0 < k
        · have hu := HU.out k h0 (by omega)
          have q2 := tx_size (Pt.upto s k)
          have q3 := tx_size (Pt.upto s k ++ [47])
          have q4 : (Pt.upto s k ++ [47]).length = (Pt.upto s k).length + 1 := by simp
          have a1 : tx (Pt.upto s k) ++ ⟨#[47]⟩ = tx (Pt.upto s k ++ [47]) := tx_append _ [47]
          have a2 : tx (Pt.upto s k ++ [47]) ++ tx (Pt.cut s)[k] = tx (Pt.upto s (k + 1)) := by rw [tx_append, HN.out, if_pos h0]
          go_wp2_with fail
          refine (right_any (Pt.upto s (k + 1)) _ hu1.out HKr.out).mono ?_
          rintro e w4 ⟨rfl, hb⟩
          have HB4 := Lib.hid (HW.out.trans (hb.mono HW.out.size))
          have HK4 := Lib.hid (HKr.out.old hb)
          clear hb
          rw [R1.out]
          go_wp2_with fail
          refine (within_any s (Pt.upto s (k + 1)) _ HL.out hu1.out HK4.out).mono ?_
          rintro e w5 ⟨rfl, hb⟩
          have HB5 := Lib.hid (HB4.out.trans (hb.mono HB4.out.size))
          have HK5 := Lib.hid (HK4.out.old hb)
          clear hb
          rw [R2.out]
          go_wp2_with fail
          refine (within_any (Pt.upto s (k + 1)) s _ hu1.out HL.out HK5.out).mono ?_
          rintro e w6 ⟨rfl, hb⟩
          have HB6 := Lib.hid (HB5.out.trans (hb.mono HB5.out.size))
          clear hb
          rw [R3.out]
          go_wp2
          go_roundw
          case rel => exact ⟨k + 1, by omega, by go_num, rfl, HB6⟩
          case measure => simp [intOf]; omega
        · have q2 : (tx (Pt.upto s k)).size = 0 := by rw [tx_size, show k = 0 by omega]; rfl
          have a2 : tx (Pt.upto s k) ++ tx (Pt.cut s)[k] = tx (Pt.upto s (k + 1)) := by rw [tx_append, HN.out, if_neg h0]
          have z0 : decide (0 < k) = false := decide_eq_false h0
          have z9 : decide ((0 : Int) < (k : Int)) = false := decide_eq_false (by omega)
          go_wp2_with fail
          refine (right_any (Pt.upto s (k + 1)) _ hu1.out HKr.out).mono ?_
          rintro e w4 ⟨rfl, hb⟩
          have HB4 := Lib.hid (HW.out.trans (hb.mono HW.out.size))
          have HK4 := Lib.hid (HKr.out.old hb)
          clear hb
          rw [R1.out]
          go_wp2_with fail
          refine (within_any s (Pt.upto s (k + 1)) _ HL.out hu1.out HK4.out).mono ?_
          rintro e w5 ⟨rfl, hb⟩
          have HB5 := Lib.hid (HB4.out.trans (hb.mono HB4.out.size))
          have HK5 := Lib.hid (HK4.out.old hb)
          clear hb
          rw [R2.out]
          go_wp2_with fail
          refine (within_any (Pt.upto s (k + 1)) s _ hu1.out HL.out HK5.out).mono ?_
          rintro e w6 ⟨rfl, hb⟩
          have HB6 := Lib.hid (HB5.out.trans (hb.mono HB5.out.size))
          clear hb
          rw [R3.out]
          go_wp2
          go_roundw
          case rel => exact ⟨k + 1, by omega, by go_num, rfl, HB6⟩
          case measure => simp [intOf]; omega
      · have HE : Hid (Pt.upto s k = s) := Lib.hid (by rw [show k = (Pt.cut s).length by omega, Pt.upto_all])
        have et : (tx (Pt.upto s k)).toList = s := by rw [tx_toList, HE.out]
        go_wp2
        go_ret
        exact ⟨retB (by simp), HB3.out.trans (HW.out.mono HB3.out.size)⟩
end Go.Proofs.YtelplmhfacmkdaaDoor
