/- The law StripeTells answers true: how long any tapes are, each row of them, and which parity they have. -/
import Derived.Test.YtcmdggdionghcaaMe
import Derived.Test.YtcmdggdionghcaaMf
import Derived.Deep.RegionHeld3
import Derived.Deep.DeepFit
namespace Go.Proofs.Ytcmdggdionghcaa
open Go.RowKit Mx
open Pt (Tx)

set_option maxRecDepth 100000 in
set_option maxHeartbeats 8000000 in
theorem stripeTells_no (A : Option Addr) (ts : List St.T) (C : Nat) (G : Nat → Prop) (n p : Int) (w : World) (hf : St.few ts = true) (hp : p ≤ 10) (hp0 : -9223372036854775808 ≤ p) (hr : RdT w A ts G) (hok : ¬ St.Ok ts p) :
    Calls Try.prog 3 #[.slice A ts.length C, .int .i64 n, .int .i64 p] w (AnsB true w) := by
  have HR := Lib.hid hr
  have HF := Lib.hid hf
  have HN := Lib.hid hok
  have h14 := (St.few_of hf).1
  have hl := St.few_len hf
  have q1 : decide (10 < p) = false := decide_eq_false (by omega)
  clear hr hf hok
  go_enter Try.func3, Try.ntmps3
  go_wp2_with fail
  refine (alive13_true _).mono ?_
  rintro e w1 ⟨rfl, hb1⟩
  have HR1 := Lib.hid (HR.out.old hb1)
  have HB1 := Lib.hid hb1
  clear hb1
  go_wp2_with fail
  refine (few13_any A ts C _ w1 (by unfold maxLen; omega) HR1.out).mono ?_
  rw [HF.out]
  rintro e w2 ⟨rfl, hb2⟩
  have HR2 := Lib.hid (HR1.out.old hb2)
  have HB2 := Lib.hid (HB1.out.trans (hb2.mono HB1.out.size))
  clear hb2
  go_wp2_with fail
  refine (parity_any A ts C _ p w2 (by omega) hp0 (by omega) (by omega) HR2.out).mono ?_
  intro e w3 hh
  unfold ParA at hh
  rw [if_neg HN.out] at hh
  obtain ⟨rfl, hb3⟩ := hh
  have HR3 := Lib.hid (HR2.out.old hb3)
  have HB3 := Lib.hid (HB2.out.trans (hb3.mono HB2.out.size))
  clear hb3
  go_wp2_with fail
  refine (refParity_any A ts C _ p w3 (by omega) hp0 (by omega) (by omega) HR3.out).mono ?_
  intro e w4 hh
  unfold ParA at hh
  rw [if_neg HN.out] at hh
  obtain ⟨rfl, hb4⟩ := hh
  have HR4 := Lib.hid (HR3.out.old hb4)
  have HB4 := Lib.hid (HB3.out.trans (hb4.mono HB3.out.size))
  clear hb4
  go_wp2_with fail
  refine (num13 _ _).mono ?_
  rintro e w' ⟨rfl, rfl⟩
  go_wp2_with fail
  refine (len_any A ts C _ w4 (by unfold maxLen; omega) HR4.out).mono ?_
  rintro e w5 ⟨rfl, hb5⟩
  have HR5 := Lib.hid (HR4.out.old hb5)
  have HB5 := Lib.hid (HB4.out.trans (hb5.mono HB4.out.size))
  obtain ⟨K, hK⟩ : ∃ K, K = St.len ts := ⟨_, rfl⟩
  rw [← hK] at hl ⊢
  have HK := Lib.hid hK
  clear hb5 hK
  go_wp2_with fail
  refine (refLen_any A ts C _ w5 (by unfold maxLen; omega) HR5.out).mono ?_
  rintro e w' ⟨rfl, rfl⟩
  rw [← HK.out]
  have q2 : ((K : Int) != (K : Int)) = false := by simp
  go_wp2_with fail
  refine (row_any A ts C _ n w5 (by omega) HR5.out).mono ?_
  rintro e w6 ⟨A6, C6, rfl, -, -, hr6, hb6⟩
  have HR6 := Lib.hid (HR5.out.old hb6)
  have HB6 := Lib.hid (HB5.out.trans (hb6.mono HB5.out.size))
  have HM6 := Lib.hid hr6
  clear hb6 hr6
  go_wp2_with fail
  refine (refRow_any A ts C _ n w6 (by omega) HR6.out).mono ?_
  rintro e w7 ⟨A7, C7, rfl, -, -, hr7, hb7⟩
  have HB7 := Lib.hid (HB6.out.trans (hb7.mono HB6.out.size))
  have HM7 := Lib.hid (HM6.out.old hb7)
  have HY7 := Lib.hid hr7
  clear hb7 hr7
  go_wp2_with fail
  refine (sameRows_any A6 ts.length C6 _ _ _ A7 C7 _ _ w7 (by unfold maxLen; omega) HM7.out HY7.out (fun _ _ _ _ => rfl)).mono ?_
  rintro e w8 ⟨rfl, hb8⟩
  have HB8 := Lib.hid (HB7.out.trans (hb8.mono HB7.out.size))
  clear hb8
  go_wp2
  go_loop [12] (fun vi => vi = .int .i64 0) (fun _ => 0)
  case atStart => rfl
  case round =>
    obtain rfl := hrel
    go_wp2
    go_ret
    exact ⟨rfl, HB8.out⟩
set_option maxRecDepth 100000 in
set_option maxHeartbeats 8000000 in
theorem stripeTells_yes (A : Option Addr) (ts : List St.T) (C : Nat) (G : Nat → Prop) (n : Int) (k : Nat) (w : World) (hf : St.few ts = true) (hp : k ≤ 10) (hr : RdT w A ts G) (hok : St.Ok ts (k : Int)) :
    Calls Try.prog 3 #[.slice A ts.length C, .int .i64 n, .int .i64 (k : Int)] w (AnsB true w) := by
  have HR := Lib.hid hr
  have HF := Lib.hid hf
  have HN := Lib.hid hok
  have h14 := (St.few_of hf).1
  have hl := St.few_len hf
  have q1 : decide (10 < (k : Int)) = false := decide_eq_false (by omega)
  clear hr hf hok
  go_enter Try.func3, Try.ntmps3
  go_wp2_with fail
  refine (alive13_true _).mono ?_
  rintro e w1 ⟨rfl, hb1⟩
  have HR1 := Lib.hid (HR.out.old hb1)
  have HB1 := Lib.hid hb1
  clear hb1
  go_wp2_with fail
  refine (few13_any A ts C _ w1 (by unfold maxLen; omega) HR1.out).mono ?_
  rw [HF.out]
  rintro e w2 ⟨rfl, hb2⟩
  have HR2 := Lib.hid (HR1.out.old hb2)
  have HB2 := Lib.hid (HB1.out.trans (hb2.mono HB1.out.size))
  clear hb2
  go_wp2_with fail
  refine (parity_any A ts C _ (k : Int) w2 (by omega) (by omega) (by omega) (by omega) HR2.out).mono ?_
  intro e w3 hh
  unfold ParA at hh
  rw [if_pos HN.out] at hh
  obtain ⟨Ax, Cx, rfl, -, -, hx3, hb3⟩ := hh
  rw [Int.toNat_natCast] at hx3 ⊢
  have HX3 := Lib.hid hx3
  have HR3 := Lib.hid (HR2.out.old hb3)
  have HB3 := Lib.hid (HB2.out.trans (hb3.mono HB2.out.size))
  clear hb3 hx3
  go_wp2_with fail
  refine (refParity_any A ts C _ (k : Int) w3 (by omega) (by omega) (by omega) (by omega) HR3.out).mono ?_
  intro e w4 hh
  unfold ParA at hh
  rw [if_pos HN.out] at hh
  obtain ⟨Ay, Cy, rfl, -, -, hy4, hb4⟩ := hh
  rw [Int.toNat_natCast] at hy4 ⊢
  have HX4 := Lib.hid (HX3.out.old hb4)
  have HY4 := Lib.hid hy4
  have HR4 := Lib.hid (HR3.out.old hb4)
  have HB4 := Lib.hid (HB3.out.trans (hb4.mono HB3.out.size))
  clear hb4 hy4 HX3
  have q3 : ((k : Int) != (k : Int)) = false := by simp
  go_wp2_with fail
  refine (num13 _ _).mono ?_
  rintro e w' ⟨rfl, rfl⟩
  go_wp2_with fail
  refine (len_any A ts C _ w4 (by unfold maxLen; omega) HR4.out).mono ?_
  rintro e w5 ⟨rfl, hb5⟩
  have HR5 := Lib.hid (HR4.out.old hb5)
  have HX5 := Lib.hid (HX4.out.old hb5)
  have HY5 := Lib.hid (HY4.out.old hb5)
  have HB5 := Lib.hid (HB4.out.trans (hb5.mono HB4.out.size))
  obtain ⟨K, hK⟩ : ∃ K, K = St.len ts := ⟨_, rfl⟩
  rw [← hK] at hl HX5 HY5 ⊢
  have HK := Lib.hid hK
  clear hb5 hK HX4 HY4
  go_wp2_with fail
  refine (refLen_any A ts C _ w5 (by unfold maxLen; omega) HR5.out).mono ?_
  rintro e w' ⟨rfl, rfl⟩
  rw [← HK.out]
  have q2 : ((K : Int) != (K : Int)) = false := by simp
  go_wp2_with fail
  refine (row_any A ts C _ n w5 (by omega) HR5.out).mono ?_
  rintro e w6 ⟨A6, C6, rfl, -, -, hr6, hb6⟩
  have HR6 := Lib.hid (HR5.out.old hb6)
  have HX6 := Lib.hid (HX5.out.old hb6)
  have HY6 := Lib.hid (HY5.out.old hb6)
  have HB6 := Lib.hid (HB5.out.trans (hb6.mono HB5.out.size))
  have HM6 := Lib.hid hr6
  clear hb6 hr6 HX5 HY5
  go_wp2_with fail
  refine (refRow_any A ts C _ n w6 (by omega) HR6.out).mono ?_
  rintro e w7 ⟨A7, C7, rfl, -, -, hr7, hb7⟩
  have HB7 := Lib.hid (HB6.out.trans (hb7.mono HB6.out.size))
  have HX7 := Lib.hid (HX6.out.old hb7)
  have HY7 := Lib.hid (HY6.out.old hb7)
  have HM7 := Lib.hid (HM6.out.old hb7)
  have HZ7 := Lib.hid hr7
  clear hb7 hr7 HX6 HY6
  go_wp2_with fail
  refine (sameRows_any A6 ts.length C6 _ _ _ A7 C7 _ _ w7 (by unfold maxLen; omega) HM7.out HZ7.out (fun _ _ _ _ => rfl)).mono ?_
  rintro e w8 ⟨rfl, hb8⟩
  have HX8 := Lib.hid (HX7.out.old hb8)
  have HY8 := Lib.hid (HY7.out.old hb8)
  have HB8 := Lib.hid (HB7.out.trans (hb8.mono HB7.out.size))
  clear hb8 HX7 HY7
  go_wp2
  go_loopw [12] (fun vi wr => ∃ i : Nat, i ≤ k ∧ vi = .int .i64 (i : Int) ∧ Hid (Below w8.heap.size w8 wr)) (fun vi _ => k - (intOf vi).toNat)
  case atStart => exact ⟨0, Nat.zero_le _, rfl, Lib.hid (Below.refl _ _)⟩
  case round =>
    obtain ⟨i, hi, rfl, HB⟩ := hrel
    by_cases hlt : i < k
    · have e0 : decide (i < k) = true := decide_eq_true hlt
      obtain ⟨bx, ox, A1, C1, rfl, -, hcx, -, -, hrx⟩ := (HX8.out.old HB.out).at_ hlt
      obtain ⟨bY, oy, A2, C2, rfl, -, hcy, -, -, hry⟩ := (HY8.out.old HB.out).at_ hlt
      have hbd : Below wr.heap.size wr wr.drew := (Below.refl _ _).drew
      have HRX := Lib.hid (hrx.old hbd)
      have HRY := Lib.hid (hry.old hbd)
      have HS : Hid (∀ y, Below wr.heap.size wr y → y.cell? ⟨bx, ox + i, none⟩ = some (.slice A1 K C1) ∧ y.cell? ⟨bY, oy + i, none⟩ = some (.slice A2 K C2) ∧ Below wr.heap.size wr y) := Lib.hid fun y hy => ⟨(hy.cell (World.block_lt_of_cell? _ _ hcx)).trans hcx, (hy.cell (World.block_lt_of_cell? _ _ hcy)).trans hcy, hy⟩
      have hx0 := HS.out _ hbd
      clear hrx hry hcx hcy
      go_wp2_with fail
      go_region_held3 (fun y => y.cell? ⟨bx, ox + i, none⟩ = some (.slice A1 K C1) ∧ y.cell? ⟨bY, oy + i, none⟩ = some (.slice A2 K C2) ∧ Below wr.heap.size wr y)
        (first
          | exact hx2
          | exact hx0)
        (first
          | (go_at_call 12; refine (sameRows_any A1 K C1 _ _ _ A2 C2 _ _ wr.drew (by unfold maxLen; omega) HRX.out HRY.out (fun _ _ _ _ => rfl)).mono ?_; rintro e w9 ⟨rfl, hb9⟩; have hx2 := HS.out w9 (hbd.trans hb9)))
      have HB9 := Lib.hid (HB.out.trans (hx2.2.2.mono HB.out.size))
      clear hx2 hx0 hb9
      go_wp2
      go_roundw
      case rel => exact ⟨i + 1, by omega, by go_num, HB9⟩
      case measure => simp [intOf]; omega
    · have e0 : decide (i < k) = false := decide_eq_false hlt
      have HB9 := Lib.hid (HB8.out.trans (HB.out.mono HB8.out.size))
      go_wp2
      go_ret
      exact ⟨rfl, HB9.out⟩
set_option maxRecDepth 100000 in
set_option maxHeartbeats 8000000 in
theorem stripeTells_walk (A : Option Addr) (ts : List St.T) (C : Nat) (G : Nat → Prop) (n p : Int) (w : World) (hn : ts.length ≤ maxLen) (hp : -9223372036854775808 ≤ p ∧ p ≤ 9223372036854775807) (hr : RdT w A ts G) :
    Calls Try.prog 3 #[.slice A ts.length C, .int .i64 n, .int .i64 p] w (AnsB true w) := by
  have HM := Lib.hid hn
  cases hf : St.few ts with
  | false =>
    have HR := Lib.hid hr
    have HF := Lib.hid hf
    clear hr hf hn
    go_enter Try.func3, Try.ntmps3
    go_wp2_with fail
    refine (alive13_true _).mono ?_
    rintro e w1 ⟨rfl, hb1⟩
    have HR1 := Lib.hid (HR.out.old hb1)
    have HB1 := Lib.hid hb1
    clear hb1
    go_wp2_with fail
    refine (few13_any A ts C _ w1 HM.out HR1.out).mono ?_
    rw [HF.out]
    rintro e w2 ⟨rfl, hb2⟩
    have HB2 := Lib.hid (HB1.out.trans (hb2.mono HB1.out.size))
    clear hb2
    go_wp2
    go_ret
    exact ⟨rfl, HB2.out⟩
  | true =>
    by_cases h10 : 10 < p
    · have HR := Lib.hid hr
      have HF := Lib.hid hf
      have q1 : decide (10 < p) = true := decide_eq_true h10
      clear hr hf hn h10
      go_enter Try.func3, Try.ntmps3
      go_wp2_with fail
      refine (alive13_true _).mono ?_
      rintro e w1 ⟨rfl, hb1⟩
      have HR1 := Lib.hid (HR.out.old hb1)
      have HB1 := Lib.hid hb1
      clear hb1
      go_wp2_with fail
      refine (few13_any A ts C _ w1 HM.out HR1.out).mono ?_
      rw [HF.out]
      rintro e w2 ⟨rfl, hb2⟩
      have HB2 := Lib.hid (HB1.out.trans (hb2.mono HB1.out.size))
      clear hb2
      go_wp2
      go_ret
      exact ⟨rfl, HB2.out⟩
    · by_cases hok : St.Ok ts p
      · obtain ⟨k, rfl⟩ : ∃ k : Nat, p = (k : Int) := ⟨p.toNat, by have := hok.1.2.1; omega⟩
        exact stripeTells_yes A ts C G n k w hf (by omega) hr hok
      · exact stripeTells_no A ts C G n p w hf (by omega) hp.1 hr hok
end Go.Proofs.Ytcmdggdionghcaa
