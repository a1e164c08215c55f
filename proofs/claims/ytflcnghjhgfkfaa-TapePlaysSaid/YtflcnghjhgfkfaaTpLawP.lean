/- TapePlays, whatever it is given. -/
import Derived.Test.YtflcnghjhgfkfaaTpPlays
import Derived.Test.YtflcnghjhgfkfaaTpOpen
namespace Go.Proofs.Ytflcnghjhgfkfaa
open Go.RowKit
open Pt (Tx)

set_option maxRecDepth 100000 in
set_option maxHeartbeats 2000000 in
theorem plays_few (lab cap : Int) (A : Option Addr) (bs : List Tx) (C : Nat) (lost : Bool) (Al : Option Addr) (L Cl : Nat) (w : World) (hr : RdB w A bs (fun _ => True)) (hF : Tp.few bs = false) :
    Calls Try.prog 3 #[.agg #[.int .i64 lab, .int .i64 cap, .slice A bs.length C, .bool lost], .slice Al L Cl] w (AnsB true w) := by
  have HR : Hid (RdB w A bs (· < w.heap.size)) := Lib.hid (hr.in_.mono fun _ h => h.2)
  have HB0 : Hid (Below w.heap.size w (w.alloc (.cells #[.int .i64 lab, .int .i64 cap, .slice A bs.length C, .bool lost] 24))) := Lib.hid ((Below.refl _ _).alloc (Nat.le_refl _) _)
  have HBX : Hid ((w.alloc (.cells #[.int .i64 lab, .int .i64 cap, .slice A bs.length C, .bool lost] 24)).heap[w.heap.size]? = some (.cells #[.int .i64 lab, .int .i64 cap, .slice A bs.length C, .bool lost] 24 (0, 0))) := Lib.hid (Go.Deep.blk_alloc_new _ _)
  have HF := Lib.hid hF
  clear hr hF
  go_enter Try.func3, Try.ntmps3
  go_wp2_with (first
    | (go_at_call 7; refine (alive8_true _).mono ?_; rintro e w1 ⟨rfl, hb1⟩; have HBw1 := Lib.hid (HB0.out.trans (hb1.mono HB0.out.size)); have HXw1 := Lib.hid ((hb1.block w.heap.size (by simp)).trans HBX.out); obtain ⟨q10, q11, q12, q13⟩ := cell4 HXw1.out; clear hb1)
    | (go_at_call 8; refine (few_no lab cap A bs C lost _ w1 (HR.out.below HBw1.out) HF.out).mono ?_; rintro e w2 ⟨rfl, hb2⟩; have hz2 : w.heap.size < w1.heap.size := heap_lt HXw1.out; have HBw2 := Lib.hid (HBw1.out.trans (hb2.mono HBw1.out.size)); have HXw2 := Lib.hid ((hb2.block w.heap.size hz2).trans HXw1.out); obtain ⟨q20, q21, q22, q23⟩ := cell4 HXw2.out; clear hb2))
  go_ret
  exact ⟨rfl, HBw2.out⟩
set_option maxRecDepth 100000 in
set_option maxHeartbeats 2000000 in
theorem plays_long (lab cap : Int) (A : Option Addr) (bs : List Tx) (C : Nat) (lost : Bool) (Al : Option Addr) (L Cl : Nat) (w : World) (hr : RdB w A bs (fun _ => True)) (hF : Tp.few bs = true) (hL : 80 < L) :
    Calls Try.prog 3 #[.agg #[.int .i64 lab, .int .i64 cap, .slice A bs.length C, .bool lost], .slice Al L Cl] w (AnsB true w) := by
  have HR : Hid (RdB w A bs (· < w.heap.size)) := Lib.hid (hr.in_.mono fun _ h => h.2)
  have HB0 : Hid (Below w.heap.size w (w.alloc (.cells #[.int .i64 lab, .int .i64 cap, .slice A bs.length C, .bool lost] 24))) := Lib.hid ((Below.refl _ _).alloc (Nat.le_refl _) _)
  have HBX : Hid ((w.alloc (.cells #[.int .i64 lab, .int .i64 cap, .slice A bs.length C, .bool lost] 24)).heap[w.heap.size]? = some (.cells #[.int .i64 lab, .int .i64 cap, .slice A bs.length C, .bool lost] 24 (0, 0))) := Lib.hid (Go.Deep.blk_alloc_new _ _)
  have HF := Lib.hid hF
  have dL : decide (80 < (L : Int)) = true := decide_eq_true (by omega)
  clear hr hF
  go_enter Try.func3, Try.ntmps3
  go_wp2_with (first
    | (go_at_call 7; refine (alive8_true _).mono ?_; rintro e w1 ⟨rfl, hb1⟩; have HBw1 := Lib.hid (HB0.out.trans (hb1.mono HB0.out.size)); have HXw1 := Lib.hid ((hb1.block w.heap.size (by simp)).trans HBX.out); obtain ⟨q10, q11, q12, q13⟩ := cell4 HXw1.out; clear hb1)
    | (go_at_call 8; refine (few_yes lab cap A bs C lost _ w1 (HR.out.below HBw1.out) HF.out).mono ?_; rintro e w2 ⟨rfl, hb2⟩; have hz2 : w.heap.size < w1.heap.size := heap_lt HXw1.out; have HBw2 := Lib.hid (HBw1.out.trans (hb2.mono HBw1.out.size)); have HXw2 := Lib.hid ((hb2.block w.heap.size hz2).trans HXw1.out); obtain ⟨q20, q21, q22, q23⟩ := cell4 HXw2.out; clear hb2))
  go_ret
  exact ⟨rfl, HBw2.out⟩
set_option maxRecDepth 100000 in
set_option maxHeartbeats 2000000 in
theorem plays_arg (lab cap : Int) (A : Option Addr) (bs : List Tx) (C : Nat) (lost : Bool) (Al : Option Addr) (L Cl : Nat) (w : World) (hr : RdB w A bs (fun _ => True)) (hF : Tp.few bs = true) (hL : L ≤ 80) (hT : Tp.right lab cap bs = false) :
    Calls Try.prog 3 #[.agg #[.int .i64 lab, .int .i64 cap, .slice A bs.length C, .bool lost], .slice Al L Cl] w (AnsB true w) := by
  have HR : Hid (RdB w A bs (· < w.heap.size)) := Lib.hid (hr.in_.mono fun _ h => h.2)
  have HB0 : Hid (Below w.heap.size w (w.alloc (.cells #[.int .i64 lab, .int .i64 cap, .slice A bs.length C, .bool lost] 24))) := Lib.hid ((Below.refl _ _).alloc (Nat.le_refl _) _)
  have HBX : Hid ((w.alloc (.cells #[.int .i64 lab, .int .i64 cap, .slice A bs.length C, .bool lost] 24)).heap[w.heap.size]? = some (.cells #[.int .i64 lab, .int .i64 cap, .slice A bs.length C, .bool lost] 24 (0, 0))) := Lib.hid (Go.Deep.blk_alloc_new _ _)
  have HF := Lib.hid hF
  have HF2 := Lib.hid (Tp.few_of hF)
  have HT := Lib.hid hT
  have dL : decide (80 < (L : Int)) = false := decide_eq_false (by omega)
  clear hr hF hT
  go_enter Try.func3, Try.ntmps3
  go_wp2_with (first
    | (go_at_call 7; refine (alive8_true _).mono ?_; rintro e w1 ⟨rfl, hb1⟩; have HBw1 := Lib.hid (HB0.out.trans (hb1.mono HB0.out.size)); have HXw1 := Lib.hid ((hb1.block w.heap.size (by simp)).trans HBX.out); obtain ⟨q10, q11, q12, q13⟩ := cell4 HXw1.out; clear hb1)
    | (go_at_call 8; refine (few_yes lab cap A bs C lost _ w1 (HR.out.below HBw1.out) HF.out).mono ?_; rintro e w2 ⟨rfl, hb2⟩; have hz2 : w.heap.size < w1.heap.size := heap_lt HXw1.out; have HBw2 := Lib.hid (HBw1.out.trans (hb2.mono HBw1.out.size)); have HXw2 := Lib.hid ((hb2.block w.heap.size hz2).trans HXw1.out); obtain ⟨q20, q21, q22, q23⟩ := cell4 HXw2.out; clear hb2)
    | (go_at_call 10; refine (copyTape_any lab cap A bs bs.length C lost _ w2 rfl (HR.out.below HBw2.out) (by have := HF2.out.1; omega) (fun s hs => by have := HF2.out.2 s hs; omega)).mono ?_; rintro e w3 ⟨A3, C3, us3, rfl, ht3, hb3⟩; have hz3 : w.heap.size < w2.heap.size := heap_lt HXw2.out; have HBw3 := Lib.hid (HBw2.out.trans (hb3.mono HBw2.out.size)); have HXw3 := Lib.hid ((hb3.block w.heap.size hz3).trans HXw2.out); obtain ⟨q30, q31, q32, q33⟩ := cell4 HXw3.out; have HP3 := Lib.hid ht3; clear hb3 ht3)
    | (go_at_call 9; refine (load_arg lab cap A3 bs C3 lost _ w3 HP3.out.rdB HT.out).mono ?_; rintro e w4 ⟨rfl, hb4⟩; have hz4 : w.heap.size < w3.heap.size := heap_lt HXw3.out; have HBw4 := Lib.hid (HBw3.out.trans (hb4.mono HBw3.out.size)); have HXw4 := Lib.hid ((hb4.block w.heap.size hz4).trans HXw3.out); obtain ⟨q40, q41, q42, q43⟩ := cell4 HXw4.out; clear hb4)
    | (go_at_call 11; refine (refLoad_arg lab cap A bs C lost _ w4 (HR.out.below HBw4.out) HT.out).mono ?_; rintro e w5 ⟨rfl, hb5⟩; have hz5 : w.heap.size < w4.heap.size := heap_lt HXw4.out; have HBw5 := Lib.hid (HBw4.out.trans (hb5.mono HBw4.out.size)); have HXw5 := Lib.hid ((hb5.block w.heap.size hz5).trans HXw4.out); obtain ⟨q50, q51, q52, q53⟩ := cell4 HXw5.out; clear hb5)
    | (go_at_call 12; refine (num_any _ _).mono ?_; rintro e w' ⟨rfl, rfl⟩))
  go_ret
  exact ⟨rfl, HBw5.out⟩
set_option maxRecDepth 100000 in
set_option maxHeartbeats 2000000 in
theorem plays_lost (lab cap : Int) (A : Option Addr) (bs : List Tx) (C : Nat) (Al : Option Addr) (L Cl : Nat) (w : World) (hr : RdB w A bs (fun _ => True)) (hF : Tp.few bs = true) (hL : L ≤ 80) (hT : Tp.right lab cap bs = true) :
    Calls Try.prog 3 #[.agg #[.int .i64 lab, .int .i64 cap, .slice A bs.length C, .bool true], .slice Al L Cl] w (AnsB true w) := by
  have HR : Hid (RdB w A bs (· < w.heap.size)) := Lib.hid (hr.in_.mono fun _ h => h.2)
  have HB0 : Hid (Below w.heap.size w (w.alloc (.cells #[.int .i64 lab, .int .i64 cap, .slice A bs.length C, .bool true] 24))) := Lib.hid ((Below.refl _ _).alloc (Nat.le_refl _) _)
  have HBX : Hid ((w.alloc (.cells #[.int .i64 lab, .int .i64 cap, .slice A bs.length C, .bool true] 24)).heap[w.heap.size]? = some (.cells #[.int .i64 lab, .int .i64 cap, .slice A bs.length C, .bool true] 24 (0, 0))) := Lib.hid (Go.Deep.blk_alloc_new _ _)
  have HF := Lib.hid hF
  have HF2 := Lib.hid (Tp.few_of hF)
  have HT := Lib.hid hT
  have dL : decide (80 < (L : Int)) = false := decide_eq_false (by omega)
  clear hr hF hT
  go_enter Try.func3, Try.ntmps3
  go_wp2_with (first
    | (go_at_call 7; refine (alive8_true _).mono ?_; rintro e w1 ⟨rfl, hb1⟩; have HBw1 := Lib.hid (HB0.out.trans (hb1.mono HB0.out.size)); have HXw1 := Lib.hid ((hb1.block w.heap.size (by simp)).trans HBX.out); obtain ⟨q10, q11, q12, q13⟩ := cell4 HXw1.out; clear hb1)
    | (go_at_call 8; refine (few_yes lab cap A bs C true _ w1 (HR.out.below HBw1.out) HF.out).mono ?_; rintro e w2 ⟨rfl, hb2⟩; have hz2 : w.heap.size < w1.heap.size := heap_lt HXw1.out; have HBw2 := Lib.hid (HBw1.out.trans (hb2.mono HBw1.out.size)); have HXw2 := Lib.hid ((hb2.block w.heap.size hz2).trans HXw1.out); obtain ⟨q20, q21, q22, q23⟩ := cell4 HXw2.out; clear hb2)
    | (go_at_call 10; refine (copyTape_any lab cap A bs bs.length C true _ w2 rfl (HR.out.below HBw2.out) (by have := HF2.out.1; omega) (fun s hs => by have := HF2.out.2 s hs; omega)).mono ?_; rintro e w3 ⟨A3, C3, us3, rfl, ht3, hb3⟩; have hz3 : w.heap.size < w2.heap.size := heap_lt HXw2.out; have HBw3 := Lib.hid (HBw2.out.trans (hb3.mono HBw2.out.size)); have HXw3 := Lib.hid ((hb3.block w.heap.size hz3).trans HXw2.out); obtain ⟨q30, q31, q32, q33⟩ := cell4 HXw3.out; have HP3 := Lib.hid ht3; clear hb3 ht3)
    | (go_at_call 9; refine (load_lost lab cap A3 bs C3 _ w3 HP3.out.rdB HT.out).mono ?_; rintro e w4 ⟨rfl, hb4⟩; have hz4 : w.heap.size < w3.heap.size := heap_lt HXw3.out; have HBw4 := Lib.hid (HBw3.out.trans (hb4.mono HBw3.out.size)); have HXw4 := Lib.hid ((hb4.block w.heap.size hz4).trans HXw3.out); obtain ⟨q40, q41, q42, q43⟩ := cell4 HXw4.out; clear hb4)
    | (go_at_call 11; refine (refLoad_lost lab cap A bs C _ w4 (HR.out.below HBw4.out) HT.out).mono ?_; rintro e w5 ⟨rfl, hb5⟩; have hz5 : w.heap.size < w4.heap.size := heap_lt HXw4.out; have HBw5 := Lib.hid (HBw4.out.trans (hb5.mono HBw4.out.size)); have HXw5 := Lib.hid ((hb5.block w.heap.size hz5).trans HXw4.out); obtain ⟨q50, q51, q52, q53⟩ := cell4 HXw5.out; clear hb5)
    | (go_at_call 12; refine (num_any _ _).mono ?_; rintro e w' ⟨rfl, rfl⟩))
  go_ret
  exact ⟨rfl, HBw5.out⟩
theorem plays_any (lab cap : Int) (A : Option Addr) (bs : List Tx) (C : Nat) (lost : Bool) (Al : Option Addr) (L Cl : Nat) (way num mm : Nat → Int) (st : Nat → Tx) (w : World) (hr : RdB w A bs (fun _ => True)) (ha : ActR w Al L way num mm st w.heap.size) :
    Calls Try.prog 3 #[.agg #[.int .i64 lab, .int .i64 cap, .slice A bs.length C, .bool lost], .slice Al L Cl] w (AnsB true w) := by
  cases hF : Tp.few bs with
  | false => exact plays_few lab cap A bs C lost Al L Cl w hr hF
  | true =>
    by_cases hL : L ≤ 80
    · cases hT : Tp.right lab cap bs with
      | false => exact plays_arg lab cap A bs C lost Al L Cl w hr hF hL hT
      | true =>
        cases lost with
        | true => exact plays_lost lab cap A bs C Al L Cl w hr hF hL hT
        | false => exact plays_main lab cap A bs C Al L Cl way num mm st w hr ha hF hT hL
    · exact plays_long lab cap A bs C lost Al L Cl w hr hF (by omega)
end Go.Proofs.Ytflcnghjhgfkfaa
