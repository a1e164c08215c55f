/- What the law on the sum of any bytes answers: true; nothing that was there is written. -/
import Derived.Test.YtbaeoglgagiafaaCrAlive
import Derived.Test.YtbaeoglgagiafaaRefCr
import Derived.Test.YtbaeoglgagiafaaByOpen
namespace Go.Proofs.Ytbaeoglgagiafaa
open Go.RowKit Mx

set_option maxHeartbeats 1000000 in
theorem sumTells_walk (A : Option Addr) (n C : Nat) (r : Nat → Fe) (s : Cr.W) (w : World) (hn : n ≤ maxLen) (hr : Rd w A n r (fun _ => True)) :
    Calls Try.prog 3 #[.slice A n C, .int .u32 (bi s)] w fun e w' => e = .returned (.bool true) ∧ Below w.heap.size w w' := by
  have HN := Lib.hid hn
  unfold maxLen at hn
  have HR := Lib.hid hr
  clear hr
  by_cases hbig : 2000 < n
  · clear HR HN
    go_enter Try.func3, Try.ntmps3
    go_wp2_with fail
    refine (alive4_true _).mono ?_
    rintro e w1 ⟨rfl, hB⟩
    have HB := Lib.hid hB
    clear hB
    go_wp2
    go_ret
    exact ⟨rfl, HB.out⟩
  · go_enter Try.func3, Try.ntmps3
    go_wp2_with fail
    refine (alive4_true _).mono ?_
    rintro e w1 ⟨rfl, hB⟩
    have HB := Lib.hid hB
    have HR1 := Lib.hid (HR.out.old hB)
    clear hB
    go_wp2_with fail
    refine (sum_any A n C r _ _ HN.out HR1.out).mono ?_
    rintro e w' ⟨rfl, rfl⟩
    go_wp2_with fail
    refine (refCrc_any A n C r _ _ HN.out HR1.out).mono ?_
    rintro e w' ⟨rfl, rfl⟩
    go_wp2_with fail
    refine (more_any s A n C r _ _ HN.out HR1.out).mono ?_
    rintro e w' ⟨rfl, rfl⟩
    go_wp2_with fail
    refine (refMore_any s A n C r _ _ HN.out HR1.out).mono ?_
    rintro e w' ⟨rfl, rfl⟩
    go_wp2
    go_ret
    exact ⟨rfl, HB.out⟩
end Go.Proofs.Ytbaeoglgagiafaa
