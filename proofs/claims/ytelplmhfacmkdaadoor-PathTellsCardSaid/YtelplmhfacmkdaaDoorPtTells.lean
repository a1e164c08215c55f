/- What the law on paths answers: true; nothing that was there is written. -/
import Derived.Test.YtelplmhfacmkdaaDoorPtAlive
import Derived.Test.YtelplmhfacmkdaaDoorRefPt
import Derived.Test.YtelplmhfacmkdaaDoorRefSameT
namespace Go.Proofs.YtelplmhfacmkdaaDoor
open Go.RowKit
open Pt (Tx)

theorem parts_few (s : Tx) : (Pt.parts s).length ≤ s.length + 1 := by
  unfold Pt.parts
  split
  · exact cut_few s
  · simp
set_option maxHeartbeats 2000000 in
theorem pathTells_walk (s d : Tx) (w : World) (hl : s.length ≤ maxLen) (hd : d.length ≤ maxLen) (hk : Kept w) :
    Calls Tryd.prog 3 #[.string (tx s), .string (tx d)] w fun e w' => e = .returned (.bool true) ∧ Below w.heap.size w w' := by
  have HL := Lib.hid hl
  have HD := Lib.hid hd
  have HK := Lib.hid hk
  unfold maxLen at hl hd
  clear hk
  have es := tx_size s
  have ed := tx_size d
  by_cases h1 : 200 < s.length
  · have z1 : decide (200 < s.length) = true := decide_eq_true h1
    go_enter Tryd.func3, Tryd.ntmps3
    go_wp2_with fail
    refine (alive5_true _ HK.out).mono ?_
    rintro e w1 ⟨rfl, hb⟩
    have HB := Lib.hid hb
    clear hb
    go_wp2
    go_ret
    exact ⟨rfl, HB.out⟩
  by_cases h2 : 200 < d.length
  · have z1 : decide (200 < s.length) = false := decide_eq_false h1
    have z2 : decide (200 < d.length) = true := decide_eq_true h2
    go_enter Tryd.func3, Tryd.ntmps3
    go_wp2_with fail
    refine (alive5_true _ HK.out).mono ?_
    rintro e w1 ⟨rfl, hb⟩
    have HB := Lib.hid hb
    clear hb
    go_wp2
    go_ret
    exact ⟨rfl, HB.out⟩
  have z1 : decide (200 < s.length) = false := decide_eq_false h1
  have z2 : decide (200 < d.length) = false := decide_eq_false h2
  have hpl : (Pt.parts s).length ≤ maxLen := by have := parts_few s; unfold maxLen; omega
  have HPL := Lib.hid hpl
  clear hpl
  go_enter Tryd.func3, Tryd.ntmps3
  go_wp2_with fail
  refine (alive5_true _ HK.out).mono ?_
  rintro e w1 ⟨rfl, hb⟩
  have HB1 := Lib.hid hb
  have HK1 := Lib.hid (HK.out.old hb)
  clear hb
  go_wp2_with fail
  refine (right_any s _ HL.out HK1.out).mono ?_
  rintro e w2 ⟨rfl, hb⟩
  have HB2 := Lib.hid (HB1.out.trans (hb.mono HB1.out.size))
  have HK2 := Lib.hid (HK1.out.old hb)
  clear hb
  go_wp2_with fail
  refine (refRight_any s _ HL.out).mono ?_
  rintro e w3 ⟨rfl, hb⟩
  have HB3 := Lib.hid (HB2.out.trans (hb.mono HB2.out.size))
  have HK3 := Lib.hid (HK2.out.old hb)
  clear hb
  go_wp2_with fail
  refine (parts_any s _ HL.out HK3.out).mono ?_
  rintro e w4 ⟨A, c, rfl, hr, hb⟩
  have HB4 := Lib.hid (HB3.out.trans (hb.mono HB3.out.size))
  have HK4 := Lib.hid (HK3.out.old hb)
  have HR := Lib.hid hr
  clear hb hr
  go_wp2_with fail
  refine (refParts_any s _ HL.out).mono ?_
  rintro e w5 ⟨A', c', rfl, hr, hb⟩
  have HB5 := Lib.hid (HB4.out.trans (hb.mono HB4.out.size))
  have HK5 := Lib.hid (HK4.out.old hb)
  have HR5 := Lib.hid (HR.out.old hb)
  have HR' := Lib.hid hr
  clear hb hr
  go_wp2_with fail
  refine (sameTexts_any A A' c c' _ _ _ HR5.out HR'.out HPL.out HPL.out).mono ?_
  rintro e w6 ⟨rfl, hb⟩
  have HB6 := Lib.hid (HB5.out.trans (hb.mono HB5.out.size))
  have HK6 := Lib.hid (HK5.out.old hb)
  clear hb
  rw [beq_self_eq_true]
  go_wp2_with fail
  refine (within_any s d _ HL.out HD.out HK6.out).mono ?_
  rintro e w7 ⟨rfl, hb⟩
  have HB7 := Lib.hid (HB6.out.trans (hb.mono HB6.out.size))
  clear hb
  go_wp2_with fail
  refine (refWithin_any s d _ HL.out HD.out).mono ?_
  rintro e w8 ⟨rfl, hb⟩
  have HB8 := Lib.hid (HB7.out.trans (hb.mono HB7.out.size))
  clear hb
  go_wp2
  go_ret
  exact ⟨rfl, HB8.out⟩
end Go.Proofs.YtelplmhfacmkdaaDoor
