/- What the document's own SameRows answers where the rows are the same. -/
import Derived.Test.YtelkeoopfejgnaaMxWords
namespace Go.Proofs.Ytelkeoopfejgnaa
open Go.RowKit Mx

set_option maxHeartbeats 1000000 in
theorem sameRows_any (A : Option Addr) (n C : Nat) (L : Nat → Nat) (M : Mat) (G : Nat → Prop) (A' : Option Addr) (C' : Nat) (M' : Mat) (G' : Nat → Prop) (w : World) (hm : n ≤ maxLen) (h : RdM w A n L M G) (h' : RdM w A' n L M' G') (he : ∀ i, i < n → ∀ j, j < L i → M i j = M' i j) :
    Calls Try.prog 12 #[.slice A n C, .slice A' n C'] w fun e w' => e = .returned (.bool true) ∧ Below w.heap.size w w' := by
  unfold maxLen at hm
  have H := Lib.hid h
  have H' := Lib.hid h'
  have HE := Lib.hid he
  clear h h' he
  go_enter Try.func12, Try.ntmps12
  go_wp2
  go_loopw [5] (fun vi wr => ∃ i : Nat, i ≤ n ∧ vi = .int .i64 (i : Int) ∧ Hid (Below w.heap.size w wr)) (fun vi _ => n - (intOf vi).toNat)
  case atStart => exact ⟨0, by omega, rfl, Lib.hid (Below.refl _ _)⟩
  case round =>
    obtain ⟨i, hi, rfl, HB⟩ := hrel
    by_cases hlt : i < n
    · obtain ⟨b0, off0, Ai, Ci, rfl, _, d1, hr1⟩ := (H.out.old HB.out).row hlt
      obtain ⟨b1, off1, Aj, Cj, rfl, _, d2, hr2⟩ := (H'.out.old HB.out).row hlt
      have s1 := fun q => str_runD hr1 Ci q
      have s2 := fun q => str_runD hr2 Cj q
      rw [← strOf_congr (HE.out i hlt)] at s2
      clear hr1 hr2
      obtain ⟨s, hs⟩ : ∃ s, s = strOf (L i) (M i) := ⟨_, rfl⟩
      rw [← hs] at s1 s2
      clear hs
      go_wp2
      go_quiet (fail)
      clear s1 s2 d1 d2
      go_wp2
      go_roundw
      case rel => exact ⟨i + 1, by omega, by go_num, Lib.hid ⟨HB.out.os, HB.out.tape, HB.out.output, HB.out.size, HB.out.block⟩⟩
      case measure => simp [intOf]; omega
    · go_wp2
      go_ret
      exact ⟨rfl, HB.out⟩
end Go.Proofs.Ytelkeoopfejgnaa
