/- What the document's own SameRows and SameTape answer where all is the same. -/
import Derived.Test.YtflcnghjhgfkfaaTpC
namespace Go.Proofs.Ytflcnghjhgfkfaa
open Go.RowKit
open Pt (Tx)

set_option maxHeartbeats 1000000 in
theorem sameRows_yes (A : Option Addr) (C : Nat) (bs : List Tx) (G : Nat → Prop) (A' : Option Addr) (C' : Nat) (G' : Nat → Prop) (n : Nat) (w : World) (hn : bs.length = n) (hm : n ≤ 1000000) (h : RdB w A bs G) (h' : RdB w A' bs G') :
    Calls Try.prog 31 #[.slice A n C, .slice A' n C'] w (AnsB true w) := by
  have H := Lib.hid h
  have H' := Lib.hid h'
  have HN := Lib.hid hn
  clear h h' hn
  go_enter Try.func31, Try.ntmps31
  go_wp2
  go_loopw [5] (fun vi wr => ∃ i : Nat, i ≤ n ∧ vi = .int .i64 (i : Int) ∧ Hid (Below w.heap.size w wr)) (fun vi _ => n - (intOf vi).toNat)
  case atStart => exact ⟨0, by omega, rfl, Lib.hid (Below.refl _ _)⟩
  case round =>
    obtain ⟨i, hi, rfl, HB⟩ := hrel
    by_cases hlt : i < n
    · have hlt' : i < bs.length := by rw [HN.out]; exact hlt
      obtain ⟨b0, off0, Ai, Ci, rfl, _, d1, _, _, hr1⟩ := (H.out.old HB.out).at_ hlt'
      obtain ⟨b1, off1, Aj, Cj, rfl, _, d2, _, _, hr2⟩ := (H'.out.old HB.out).at_ hlt'
      have s1 := fun q => RdL.str (w := wr.drewN q) (hr1.keep fun _ _ _ h => h) Ci
      have s2 := fun q => RdL.str (w := wr.drewN q) (hr2.keep fun _ _ _ h => h) Cj
      clear hr1 hr2
      generalize bs[i] = s at *
      go_wp2
      go_quiet (fail)
      clear s1 s2 d1 d2
      go_wp2
      go_roundw
      case rel => exact ⟨i + 1, by omega, by go_num, Lib.hid ⟨HB.out.os, HB.out.tape, HB.out.output, HB.out.size, HB.out.block⟩⟩
      case measure => simp [intOf]; omega
    · go_wp2
      go_ret
      exact ⟨rfl, HB.out⟩
theorem sameTape_yes (lab cap : Int) (A : Option Addr) (C : Nat) (bs : List Tx) (G : Nat → Prop) (A' : Option Addr) (C' : Nat) (G' : Nat → Prop) (n n' : Nat) (w : World) (hn : bs.length = n) (hn' : bs.length = n') (hm : n ≤ 1000000) (h : RdB w A bs G) (h' : RdB w A' bs G') :
    Calls Try.prog 23 #[.agg #[.int .i64 lab, .int .i64 cap, .slice A n C, .bool false], .agg #[.int .i64 lab, .int .i64 cap, .slice A' n' C', .bool false]] w (AnsB true w) := by
  obtain rfl : n = n' := hn.symm.trans hn'
  have hB : Below w.heap.size w ((w.alloc (.cells #[.int .i64 lab, .int .i64 cap, .slice A n C, .bool false] 24)).alloc (.cells #[.int .i64 lab, .int .i64 cap, .slice A' n C', .bool false] 24)) := ((Below.refl _ _).alloc (Nat.le_refl _) _).alloc (by simp) _
  have H := Lib.hid (h.old hB)
  have H' := Lib.hid (h'.old hB)
  have HN := Lib.hid hn
  have HB := Lib.hid hB
  clear h h' hn hn' hB
  go_enter Try.func23, Try.ntmps23
  go_wp2_with (go_at_call 31; refine (sameRows_yes A C bs G A' C' G' n _ HN.out hm H.out H'.out).mono ?_; rintro e w1 ⟨rfl, hb⟩; have HB1 := Lib.hid hb; clear hb)
  go_ret
  exact ⟨rfl, HB.out.trans (HB1.out.mono HB.out.size)⟩
end Go.Proofs.Ytflcnghjhgfkfaa
