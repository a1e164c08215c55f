/- The example of chapter 5 holds: 'alive' answers true. -/
import Derived.Test.YtelplmhfacmkdaaDoorPtWithin
namespace Go.Proofs.YtelplmhfacmkdaaDoor
open Go.RowKit
open Pt (Tx)

theorem ex1 : Pt.right [97, 47, 98] = true := by decide
theorem ex2 : Pt.right [97, 47, 47, 98] = false := by decide
theorem ex3 : Pt.within [97, 47, 98] [97] = true := by decide
theorem ex4 : (Pt.parts [97, 47, 98]).length = 2 := by decide
set_option maxHeartbeats 1000000 in
theorem alive5_true (w : World) (hk : Kept w) : Calls Tryd.prog 6 #[] w fun e w' => e = .returned (.bool true) ∧ Below w.heap.size w w' := by
  have HK := Lib.hid hk
  clear hk
  go_enter Tryd.func6, Tryd.ntmps6
  go_wp2_with fail
  refine (right_any [97, 47, 98] _ (by decide) HK.out).mono ?_
  rintro e w1 ⟨rfl, hb1⟩
  have HB1 := Lib.hid hb1
  have HK1 := Lib.hid (HK.out.old hb1)
  clear hb1
  rw [ex1]
  go_wp2_with fail
  refine (right_any [97, 47, 47, 98] _ (by decide) HK1.out).mono ?_
  rintro e w2 ⟨rfl, hb2⟩
  have HB2 := Lib.hid (HB1.out.trans (hb2.mono HB1.out.size))
  have HK2 := Lib.hid (HK1.out.old hb2)
  clear hb2
  rw [ex2]
  go_wp2_with fail
  refine (within_any [97, 47, 98] [97] _ (by decide) (by decide) HK2.out).mono ?_
  rintro e w3 ⟨rfl, hb3⟩
  have HB3 := Lib.hid (HB2.out.trans (hb3.mono HB2.out.size))
  have HK3 := Lib.hid (HK2.out.old hb3)
  clear hb3
  rw [ex3]
  go_wp2_with fail
  refine (parts_any [97, 47, 98] _ (by decide) HK3.out).mono ?_
  rintro e w4 ⟨A, c, rfl, _, hb4⟩
  have HB4 := Lib.hid (HB3.out.trans (hb4.mono HB3.out.size))
  clear hb4
  rw [ex4]
  go_wp2
  go_ret
  exact ⟨rfl, HB4.out⟩
end Go.Proofs.YtelplmhfacmkdaaDoor
