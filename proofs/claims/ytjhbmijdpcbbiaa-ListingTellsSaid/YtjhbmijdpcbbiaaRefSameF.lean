/- What the document's own SameFile answers of two files that are alike: true. -/
import Derived.Test.YtjhbmijdpcbbiaaCtFileO
import Derived.Test.YtjhbmijdpcbbiaaVoParE
import Derived.BigQuiet
import Derived.Deep.QuietTactic
import Derived.Deep.RegionHeld3
import Derived.Deep.DeepFit
namespace Go.Proofs.Ytjhbmijdpcbbiaa
open Go.RowKit
open Pt (Tx)

set_option maxRecDepth 100000 in
set_option maxHeartbeats 8000000 in
theorem sameFile_yes (P : Tx) (v z s r : Int) (b : Bool) (pl : List Ct.P) (m : Nat) (A : Option Addr) (C : Nat) (A' : Option Addr) (C' : Nat) (G G' : Nat → Prop) (w : World) (hm : m = pl.length) (hm2 : m ≤ 1000000) (h : encQ.Rd w A pl G) (h' : encQ.Rd w A' pl G') :
    Calls Try.prog 11 #[.agg #[.string (tx P), .int .i64 v, .int .i64 z, .int .i64 s, .int .i64 r, .bool b, .slice A m C], .agg #[.string (tx P), .int .i64 v, .int .i64 z, .int .i64 s, .int .i64 r, .bool b, .slice A' m C']] w (AnsB true w) := by
  obtain ⟨wb, hwb⟩ : ∃ wb, wb = (w.alloc (fileO P v z s r b A m C)).alloc (fileO P v z s r b A' m C') := ⟨_, rfl⟩
  obtain ⟨hB, h1, h2⟩ := two_files hwb
  have HB := Lib.hid hB
  have HK1 := Lib.hid h1
  have HK2 := Lib.hid h2
  have HR1 := Lib.hid (h.old hB)
  have HR2 := Lib.hid (h'.old hB)
  have HM := Lib.hid hm
  have HW : Hid (wb = (w.alloc (.cells #[.string (tx P), .int .i64 v, .int .i64 z, .int .i64 s, .int .i64 r, .bool b, .slice A m C] 26)).alloc (.cells #[.string (tx P), .int .i64 v, .int .i64 z, .int .i64 s, .int .i64 r, .bool b, .slice A' m C'] 26)) := Lib.hid hwb
  clear hwb hB h1 h2 h h' hm
  have eP := tx_toList P
  go_enter Try.func11, Try.ntmps11
  go_upto_region 1 with fail
  rw [← HW.out]
  obtain ⟨a0, a1, a2, a3, a4, a5, a6⟩ := file7 HK1.out
  obtain ⟨b0, b1, b2, b3, b4, b5, b6⟩ := file7 HK2.out
  go_wp2
  clear a0 a1 a2 a3 a4 a5 b0 b1 b2 b3 b4 b5
  go_loopw [5] (fun vi wr => ∃ i : Nat, i ≤ m ∧ vi = .int .i64 (i : Int) ∧ Hid (Below wb.heap.size wb wr)) (fun vi _ => m - (intOf vi).toNat)
  case atStart => exact ⟨0, Nat.zero_le _, rfl, Lib.hid (Below.refl _ _)⟩
  case round =>
    obtain ⟨i, hi, rfl, HBR⟩ := hrel
    clear a6 b6
    obtain ⟨-, -, -, -, -, -, a6⟩ := file7 (below_obj' HBR.out HK1.out)
    obtain ⟨-, -, -, -, -, -, b6⟩ := file7 (below_obj' HBR.out HK2.out)
    by_cases hlt : i < m
    · have hlt' : i < pl.length := by rw [← HM.out]; exact hlt
      have e0 : decide ((i : Int) < (m : Int)) = true := decide_eq_true (by omega)
      have e0' : decide (i < m) = true := decide_eq_true hlt
      obtain ⟨g1, o1, rfl, -, t1⟩ := ten_of (HR1.out.old HBR.out) hlt'
      obtain ⟨g2, o2, rfl, -, t2⟩ := ten_of (HR2.out.old HBR.out) hlt'
      obtain ⟨⟨⟨Q, v1, z1, f1, l1, s1, m1, g1'⟩, lab, at_⟩, hx⟩ : ∃ x, x = pl[i] := ⟨_, rfl⟩
      rw [← hx] at t1 t2
      obtain ⟨c0, c1, c2, c3, c4, c5, c6, c7, c8, c9⟩ := t1
      obtain ⟨d0, d1, d2, d3, d4, d5, d6, d7, d8, d9⟩ := t2
      dsimp only at c0 c1 c2 c3 c4 c5 c6 c7 c8 c9 d0 d1 d2 d3 d4 d5 d6 d7 d8 d9
      have hneq := fun y => parts_neq Q v1 z1 f1 l1 s1 m1 g1' lab at_ y
      clear hx hlt'
      go_wp2
      go_quiet (fail)
      clear hneq c0 c1 c2 c3 c4 c5 c6 c7 c8 c9 d0 d1 d2 d3 d4 d5 d6 d7 d8 d9
      go_wp2
      go_roundw
      case rel => exact ⟨i + 1, by omega, by go_num, Lib.hid ⟨HBR.out.os, HBR.out.tape, HBR.out.output, HBR.out.size, HBR.out.block⟩⟩
      case measure => simp [intOf]; omega
    · have e0 : decide ((i : Int) < (m : Int)) = false := decide_eq_false (by omega)
      have e0' : decide (i < m) = false := decide_eq_false hlt
      go_wp2
      go_ret
      exact ⟨rfl, HB.out.trans (HBR.out.mono HB.out.size)⟩
end Go.Proofs.Ytjhbmijdpcbbiaa
