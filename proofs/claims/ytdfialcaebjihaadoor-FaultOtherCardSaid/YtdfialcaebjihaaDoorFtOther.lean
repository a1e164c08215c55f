/- FaultOther: the walk. -/
import Derived.Test.YtdfialcaebjihaaDoorFtAlive
namespace Go.Proofs.YtdfialcaebjihaaDoor
open Go.RowKit
open Pt (Tx)

set_option maxHeartbeats 4000000 in
set_option maxRecDepth 100000 in
theorem faultOther_walk (s : Tx) (w : World) (hl : s.length ≤ maxLen) (hg : Hg w) :
    Calls Tryd.prog 5 #[.string (tx s)] w fun e w' => e = .returned (.bool true) ∧ Below w.heap.size w w' := by
  unfold maxLen at hl
  have es := tx_size s
  have HA := alive7 w hg
  have HG := Lib.hid hg
  clear hg
  by_cases h100 : 100 < s.length
  · go_enter Tryd.func5, Tryd.ntmps5
    go_wp2_with (go_at_call 7; refine HA.mono ?_; rintro e w1 ⟨rfl, hb⟩; have HB := Lib.hid hb; clear hb)
    go_ret
    exact ⟨rfl, HB.out⟩
  have hz : decide (100 < (s.length : Int)) = false := decide_eq_false (by omega)
  go_enter Tryd.func5, Tryd.ntmps5
  go_wp2_with fail
  refine HA.mono ?_
  rintro e w1 ⟨rfl, hb⟩
  have HB := Lib.hid hb
  clear hb
  go_wp2_with (first
    | (go_at_call 15; go_in)
    | (go_at_call 12; go_in)
    | fail)
  have HB2 := Lib.hid (HB.out.alloc HB.out.size (.cells #[.string (tx s)] 54))
  have HG2 := Lib.hid (HG.out.old HB2.out)
  refine (where_any none _ _ (Or.inr ⟨_, rfl⟩) HG2.out (fun g e => by cases e)).mono ?_
  rintro e w3 ⟨rfl, hb3⟩
  have HB3 : Hid (Below w.heap.size w w3) := Lib.hid (HB2.out.trans (hb3.mono HB2.out.size))
  clear hb3
  dsimp only [fz, Option.isSome]
  go_wp2_with fail
  have HB4 := Lib.hid (HB3.out.alloc HB3.out.size (.cells #[.int .i64 0, .int .i64 0] 25))
  have HG4 := Lib.hid (HG.out.old HB4.out)
  refine (code_any none _ _ (Or.inr ⟨_, rfl⟩) (by intro h; cases h) HG4.out (fun g e => by cases e)).mono ?_
  rintro e w5 ⟨rfl, hb5⟩
  have HB5 : Hid (Below w.heap.size w w5) := Lib.hid (HB4.out.trans (hb5.mono HB4.out.size))
  have hs : w5.heap[w3.heap.size]? = some (.cells #[.int .i64 0, .int .i64 0] 25 (0, 0)) := (hb5.block _ (by simp)).trans (Go.Deep.blk_alloc_new _ _)
  have s0 : w5.cell? ⟨w3.heap.size, 0, none⟩ = some (.int .i64 0) := cell_of hs 0
  have s1 : w5.cell? ⟨w3.heap.size, 1, none⟩ = some (.int .i64 0) := cell_of hs 1
  clear hb5 hs
  dsimp only [codeOf]
  go_wp2
  go_ret
  exact ⟨rfl, HB5.out⟩
end Go.Proofs.YtdfialcaebjihaaDoor
