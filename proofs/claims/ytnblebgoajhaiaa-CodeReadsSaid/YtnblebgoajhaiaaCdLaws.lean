/- The example of chapter 6 holds; what CodeReads and CodeLong answer. -/
import Derived.Test.YtnblebgoajhaiaaCdReads
namespace Go.Proofs.Ytnblebgoajhaiaa
open Go.RowKit
open Pt (Tx)

theorem Wr.new (w : World) : Wr (w.alloc (.cells #[.pointer none, .int .i64 0] 27)) w.heap.size [] := ⟨none, [], Go.Deep.blk_alloc_new _ _, rfl, rfl⟩
theorem lo_g {a b : World} {g : Nat} (hk : Kp (· = g) a b) {B : Nat} (hB : B ≤ a.heap.size) (hg : B ≤ g) : Below B a b := hk.below hB (fun k h => by subst h; exact hg)
theorem be4_258 : Cd.num (Cd.be4 258) = 258 := by decide
theorem be4_9 : Cd.num (Cd.be4 9) = 9 := by decide
set_option maxRecDepth 100000 in
theorem alive6_true (w : World) : Calls Try.prog 6 #[] w fun e w' => e = .returned (.bool true) ∧ Below w.heap.size w w' := by
  have H0 := Lib.hid (Wr.new w)
  have HB0 : Hid (Below w.heap.size w (w.alloc (.cells #[.pointer none, .int .i64 0] 27))) := Lib.hid ((Below.refl _ _).alloc (Nat.le_refl _) _)
  go_enter Try.func6, Try.ntmps6
  go_wp2_with fail
  refine (bytes_any _ [] _ H0.out (by simp)).mono ?_
  rintro e w1 ⟨b1, rfl, -, -, hB1⟩
  have HW1 := Lib.hid (H0.out.old hB1)
  have HB1 := Lib.hid (HB0.out.trans (hB1.mono HB0.out.size))
  clear hB1
  go_wp2_with fail
  refine (wint_any _ [] 258 w1 HW1.out (by simp)).mono ?_
  rintro e w2 ⟨rfl, hW2, hK2⟩
  have HW2 := Lib.hid hW2
  have HB2 := Lib.hid (HB1.out.trans (lo_g hK2 HB1.out.size (Nat.le_refl _)))
  clear hW2 hK2
  go_wp2_with fail
  refine (bytes_any _ (Cd.be4 258) _ HW2.out (by rw [Cd.be4_len]; omega)).mono ?_
  rintro e w3 ⟨b3, rfl, -, hr3, hB3⟩
  have HR3 := Lib.hid hr3
  have HB3 := Lib.hid (HB2.out.trans (hB3.mono HB2.out.size))
  clear hr3 hB3
  go_wp2_with fail
  refine (newReader_any _ (Cd.be4 258) 4 _ w3 (fun h => by cases h) HR3.out (by rw [Cd.be4_len]; omega)).mono ?_
  rintro e w4 ⟨g, rfl, hg, hr4, hB4⟩
  have HR4 := Lib.hid hr4
  have HG := Lib.hid hg
  have HB4 := Lib.hid (HB3.out.trans (hB4.mono HB3.out.size))
  clear hr4 hB4 hg
  have en : Cd.num (Cd.tk 4 (Cd.be4 258, false)) = 258 := by decide
  have ea : Cd.af 4 (Cd.be4 258, false) = ([], false) := by decide
  go_wp2_with fail
  refine (rint_any g (Cd.be4 258, false) _ w4 HR4.out (by show (Cd.be4 258).length ≤ _; rw [Cd.be4_len]; omega)).mono ?_
  rw [en, ea]
  rintro e w5 ⟨rfl, hr5, hK5⟩
  have HR5 := Lib.hid hr5
  have HB5 := Lib.hid (HB4.out.trans (lo_g hK5 HB4.out.size (Nat.le_trans HB3.out.size HG.out)))
  clear hr5 hK5 en ea
  go_wp2_with fail
  refine (left_any g ([], false) _ w5 HR5.out).mono ?_
  rintro e w6 ⟨rfl, rfl⟩
  go_wp2
  go_ret
  exact ⟨rfl, HB5.out⟩
theorem codeReads_main (A AI : Option Addr) (l : Tx) (c n cI : Nat) (way num : Nat → Int) (st : Nat → Tx) (G : Nat → Prop) (w : World) (hA : A = none → l.length = 0 ∧ c = 0) (hc : l.length ≤ c) (hc' : c ≤ maxLen) (hr : RdL w A l G) (hi : ItR w AI n way num st w.heap.size) (hn : n ≤ maxLen) :
    Calls Try.prog 4 #[.slice A l.length c, .slice AI n cI] w fun e w' => e = .returned (.bool true) ∧ Below w.heap.size w w' := by
  have HA := Lib.hid hA
  have HI := Lib.hid hi
  have HR := Lib.hid hr
  clear hA hi hr
  have hm := hc'
  unfold maxLen at hm hn
  by_cases h1 : 1000 < l.length
  · have q1 : decide (1000 < l.length) = true := decide_eq_true h1
    have q2 : decide (1000 < (l.length : Int)) = true := decide_eq_true (by omega)
    go_enter Try.func4, Try.ntmps4
    go_wp2_with (go_at_call 6; refine (alive6_true w).mono ?_; rintro e w1 ⟨rfl, hB⟩; have HB := Lib.hid hB; clear hB)
    go_ret
    exact ⟨rfl, HB.out⟩
  have q1 : decide (1000 < l.length) = false := decide_eq_false h1
  have q2 : decide (1000 < (l.length : Int)) = false := decide_eq_false (by omega)
  by_cases h2 : 60 < n
  · have q3 : decide (60 < n) = true := decide_eq_true h2
    have q4 : decide (60 < (n : Int)) = true := decide_eq_true (by omega)
    go_enter Try.func4, Try.ntmps4
    go_wp2_with (go_at_call 6; refine (alive6_true w).mono ?_; rintro e w1 ⟨rfl, hB⟩; have HB := Lib.hid hB; clear hB)
    go_ret
    exact ⟨rfl, HB.out⟩
  · have q3 : decide (60 < n) = false := decide_eq_false h2
    have q4 : decide (60 < (n : Int)) = false := decide_eq_false (by omega)
    go_enter Try.func4, Try.ntmps4
    go_wp2_with (first
      | (go_at_call 6; refine (alive6_true w).mono ?_; rintro e w1 ⟨rfl, hB⟩; have HB := Lib.hid hB; clear hB)
      | (go_at_call 14; refine (reads_any A AI l c n cI way num st G w1 HA.out hc hc' (HR.out.old HB.out) (by omega) (fun h0 => by obtain ⟨b, off, e, hb, hcs⟩ := HI.out.below HB.out h0; exact ⟨b, off, e, Nat.lt_of_lt_of_le hb HB.out.size, hcs⟩) (by omega)).mono ?_; rintro e w2 ⟨rfl, hB2⟩; have HB2 := Lib.hid hB2; clear hB2))
    go_ret
    exact ⟨rfl, HB.out.trans (HB2.out.mono HB.out.size)⟩
end Go.Proofs.Ytnblebgoajhaiaa
