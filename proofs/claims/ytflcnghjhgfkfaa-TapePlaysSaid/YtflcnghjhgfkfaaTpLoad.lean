/- What Load makes. -/
import Derived.Test.YtflcnghjhgfkfaaTpC
namespace Go.Proofs.Ytflcnghjhgfkfaa
open Go.RowKit
open Pt (Tx)

theorem below_drewN {B : Nat} {a b : World} (h : Below B a b) (n : Nat) : Below B a (b.drewN n) := ⟨h.os, h.tape, h.output, h.size, h.block⟩
theorem boxed {w w1 : World} {c : Array Value} {t : TypeId} (hb : Below (w.alloc (.cells c t)).heap.size (w.alloc (.cells c t)) w1) (j : Nat) : w1.cell? ⟨w.heap.size, j, none⟩ = c[j]? :=
  (hb.cell (p := ⟨w.heap.size, j, none⟩) (by simp)).trans (World.cell?_alloc_new _ _ _ _)
def LoadNo (k : Int) (w : World) (e : Ending) (w' : World) : Prop := e = .returned (.tuple #[.pointer none, .int .i64 k]) ∧ Below w.heap.size w w'
def LoadOk (lab cap : Int) (bs : List Tx) (w : World) (e : Ending) (w' : World) : Prop := ∃ g, e = .returned (.tuple #[.pointer (some ⟨g, 0, none⟩), .int .i64 0]) ∧ w.heap.size ≤ g ∧ Dr w' g lab cap bs ∧ Below w.heap.size w w'
theorem load_arg (lab cap : Int) (A : Option Addr) (bs : List Tx) (C : Nat) (lost : Bool) (G : Nat → Prop) (w : World) (hr : RdB w A bs G) (hT : Tp.right lab cap bs = false) :
    Calls Try.prog 9 #[.agg #[.int .i64 lab, .int .i64 cap, .slice A bs.length C, .bool lost]] w (LoadNo 1 w) := by
  have hB : Below w.heap.size w (w.alloc (.cells #[.int .i64 lab, .int .i64 cap, .slice A bs.length C, .bool lost] 24)) := (Below.refl _ _).alloc (Nat.le_refl _) _
  have hr' := hr.old hB
  clear hr
  go_enter Try.func9, Try.ntmps9
  go_wp2_with (go_at_call 25; refine (right_no lab cap A bs C lost G _ hr' hT).mono ?_; rintro e w1 ⟨rfl, hb⟩; have HB := Lib.hid hb; clear hb)
  go_ret2
  exact ⟨rfl, hB.trans (HB.out.mono (by simp))⟩
theorem load_lost (lab cap : Int) (A : Option Addr) (bs : List Tx) (C : Nat) (G : Nat → Prop) (w : World) (hr : RdB w A bs G) (hT : Tp.right lab cap bs = true) :
    Calls Try.prog 9 #[.agg #[.int .i64 lab, .int .i64 cap, .slice A bs.length C, .bool true]] w (LoadNo 9 w) := by
  have hB : Below w.heap.size w (w.alloc (.cells #[.int .i64 lab, .int .i64 cap, .slice A bs.length C, .bool true] 24)) := (Below.refl _ _).alloc (Nat.le_refl _) _
  have hr' := hr.old hB
  clear hr
  go_enter Try.func9, Try.ntmps9
  go_wp2_with (go_at_call 25; refine (right_yes lab cap A bs C true G _ hr' hT).mono ?_; rintro e w1 ⟨rfl, hb⟩; have HB := Lib.hid hb; have hc3 : w1.cell? ⟨w.heap.size, 3, none⟩ = some (.bool true) := boxed hb 3; clear hb)
  go_ret2
  exact ⟨rfl, hB.trans (HB.out.mono (by simp))⟩
/-- the cells of a drive with nothing in it -/
def dz : Array Value := #[.int .i64 0, .int .i64 0, .int .i64 0] ++ Array.replicate 64 (.string ⟨#[]⟩)
theorem dz_size : dz.size = 67 := rfl
theorem dz_ne : ¬ dz = #[] := fun h => by have := congrArg Array.size h; rw [dz_size] at this; cases this
theorem zero_drive (w : World) : (zeroValue 57).run Try.prog w = .ok (.agg dz) w := by kernel_rfl
theorem load_ok (lab cap : Int) (A : Option Addr) (bs : List Tx) (C : Nat) (G : Nat → Prop) (w : World) (hr : RdB w A bs G) (hT : Tp.right lab cap bs = true) :
    Calls Try.prog 9 #[.agg #[.int .i64 lab, .int .i64 cap, .slice A bs.length C, .bool false]] w (LoadOk lab cap bs w) := by
  have hB : Below w.heap.size w (w.alloc (.cells #[.int .i64 lab, .int .i64 cap, .slice A bs.length C, .bool false] 24)) := (Below.refl _ _).alloc (Nat.le_refl _) _
  have hr' := hr.old hB
  have HR := Lib.hid (Tp.right_of hT)
  have z1 := dz_size
  have z2 := dz_ne
  have z3 := zero_drive
  go_enter Try.func9, Try.ntmps9
  go_wp2_with (go_at_call 25; refine (right_yes lab cap A bs C false G _ hr' hT).mono ?_; rintro e w1 ⟨rfl, hb⟩; have HB := Lib.hid hb; have hz : w.heap.size < w1.heap.size := (by have := hb.size; simp at this; omega); have hc0 : w1.cell? ⟨w.heap.size, 0, none⟩ = some (.int .i64 lab) := boxed hb 0; have hc1 : w1.cell? ⟨w.heap.size, 1, none⟩ = some (.int .i64 cap) := boxed hb 1; have hc2 : w1.cell? ⟨w.heap.size, 2, none⟩ = some (.slice A bs.length C) := boxed hb 2; have hc3 : w1.cell? ⟨w.heap.size, 3, none⟩ = some (.bool false) := boxed hb 3; clear hb)
  have HG : Hid (RdB w1 A bs (· < w1.heap.size)) := Lib.hid ((hr'.old HB.out).in_.mono fun _ h => h.2)
  have hD0 : DrK (w1.alloc (.cells (((dz.setIfInBounds 0 (.int .i64 lab)).setIfInBounds 1 (.int .i64 cap)).setIfInBounds 2 (.int .i64 (bs.length : Int))) 57)) w1.heap.size lab cap (bs.length : Int) (bs.take 0) := by
    refine ⟨_, Go.Deep.blk_alloc_new _ _, by simp [dz_size], ?_, ?_, ?_, fun j hj => by simp at hj⟩
    · simp [dz_size]
    · simp [dz_size]
    · simp [dz_size]
  have HD0 := Lib.hid hD0
  have hl64 : bs.length ≤ 64 := by have := HR.out; omega
  clear hD0 hc0 hc1 hc2 hc3 z1 z2 z3 hr hr' hT
  go_loopw [24] (fun i wr => ∃ k : Nat, k ≤ bs.length ∧ i = .int .i64 (k : Int) ∧ Hid (DrK wr w1.heap.size lab cap (bs.length : Int) (bs.take k)) ∧ Hid (Below w1.heap.size w1 wr)) (fun i _ => bs.length - (intOf i).toNat)
  case atStart => exact ⟨0, Nat.zero_le _, rfl, HD0, Lib.hid ((Below.refl _ _).alloc (Nat.le_refl _) _)⟩
  case round =>
    obtain ⟨k, hk, rfl, HD, HW⟩ := hrel
    by_cases hlt : k < bs.length
    · obtain ⟨b, off, A', C', rfl, _, hc, _, _, hR⟩ := (HG.out.below HW.out).at_ hlt
      have hl : (bs.take k).length = k := by simp; omega
      obtain ⟨v, cx⟩ := HD.out.cx (j := k) (by omega)
      have fx := HD.out.fr (3 + k)
      have hst := RdL.str (w := wr.drew) (hR.keep fun _ _ _ h => h) C'
      have HP : Hid (DrK (wr.setCell ⟨w1.heap.size, 3 + k, none⟩ (.string (tx bs[k]))) w1.heap.size lab cap (bs.length : Int) (bs.take (k + 1))) := Lib.hid (by
        have := HD.out.push (by omega) bs[k] hl.symm
        rw [List.take_append_getElem] at this
        exact this)
      have l4 : k < 64 := by omega
      have l5 : (k : Int) < 64 := by omega
      clear hl hR
      go_wp2
      refine wp_region_still_tail 7 (by kernel_rfl) (by kernel_rfl) ?_
      simp only [List.take_succ_cons, List.take_zero, List.drop_succ_cons, List.drop_zero]
      repeat (first | still_step)
      refine wpStill_nil ?_
      change wpList _ _ _ _ _ wr.drew
      go_wp2
      go_roundw
      case rel => exact ⟨k + 1, by omega, by go_num, Lib.hid (HP.out.of_block rfl), Lib.hid ((HW.out.setCell (Nat.le_refl _) _).drew)⟩
      case measure => simp [intOf]; omega
    · have hk' : k = bs.length := by omega
      go_wp2
      go_ret2
      have hD := HD.out
      rw [hk', List.take_length] at hD
      obtain ⟨r1, r2, r3, r4, r5⟩ := HR.out
      exact ⟨w1.heap.size, rfl, Nat.le_of_lt hz, ⟨hD, r2, r3, r4, r5⟩, (hB.trans (HB.out.mono (by simp))).trans (HW.out.mono (Nat.le_of_lt hz))⟩
end Go.Proofs.Ytflcnghjhgfkfaa
