/- The calls of package gf and of the document's own product and inverse, on elements; Right, RightMatrix, Few. -/
import Derived.Test.YtanaldojoacbeaaGfRef
import Derived.Test.YtanaldojoacbeaaMxMem
import Derived.Deep.QuietTactic
import Derived.BigQuiet
import Derived.StillTailTactics
import Derived.Handy
namespace Go.Proofs.Ytanaldojoacbeaa
open Go.RowKit Mx

theorem gmul_fi (a b : Fe) : gmul (fi a) (fi b) = fi (a * b) := by
  unfold gmul; rw [fi_nat, fi_nat]; rfl
theorem gadd_fi (a b : Fe) : gadd (fi a) (fi b) = fi (a + b) := by
  unfold gadd; rw [fi_nat, fi_nat]; rfl
theorem ginv_fi (a : Fe) : ginv (fi a) = fi (inv a) := by
  unfold ginv fi; rw [Int.toNat_natCast, nat_inv]
theorem xor_fi (a b : Fe) : bits BinOp.xor IntKind.u8 (fi a) (fi b) = fi (a + b) := by
  unfold fi; rw [bits_xor_u8 _ _ a.nat_lt b.nat_lt, nat_add]
theorem mul_fe (a b : Fe) (w : World) : Calls Try.prog 26 #[.int .u8 (fi a), .int .u8 (fi b)] w fun e w' => e = .returned (.int .u8 (fi (a * b))) ∧ w = w' := by
  rw [← gmul_fi]; exact mul_any _ _ w (fi_lo a) (fi_hi a) (fi_lo b) (fi_hi b)
theorem add_fe (a b : Fe) (w : World) : Calls Try.prog 25 #[.int .u8 (fi a), .int .u8 (fi b)] w fun e w' => e = .returned (.int .u8 (fi (a + b))) ∧ w = w' := by
  rw [← gadd_fi]; exact add_any _ _ w (fi_lo a) (fi_hi a) (fi_lo b) (fi_hi b)
theorem inv_fe (a : Fe) (w : World) : Calls Try.prog 32 #[.int .u8 (fi a)] w fun e w' => e = .returned (.int .u8 (fi (inv a))) ∧ w = w' := by
  rw [← ginv_fi]; exact inv_any _ w (fi_lo a) (fi_hi a)
theorem refMul_fe (a b : Fe) (w : World) : Calls Try.prog 23 #[.int .u8 (fi a), .int .u8 (fi b)] w fun e w' => e = .returned (.int .u8 (fi (a * b))) ∧ w = w' := by
  rw [← gmul_fi]; exact refMul_any _ _ w (fi_lo a) (fi_hi a) (fi_lo b) (fi_hi b)
theorem refInv_fe (a : Fe) (w : World) : Calls Try.prog 31 #[.int .u8 (fi a)] w fun e w' => e = .returned (.int .u8 (fi (inv a))) ∧ w = w' := by
  rw [← ginv_fi]; exact refInv_any _ w (fi_lo a) (fi_hi a)

/-- may such rows be a matrix? -/
def rightB (n : Nat) (L : Nat → Nat) : Bool := decide (1 ≤ n ∧ n ≤ 255 ∧ 1 ≤ L 0 ∧ L 0 ≤ 255 ∧ ∀ i, i < n → L i = L 0)
theorem rightB_true {n : Nat} {L : Nat → Nat} : rightB n L = true ↔ 1 ≤ n ∧ n ≤ 255 ∧ 1 ≤ L 0 ∧ L 0 ≤ 255 ∧ ∀ i, i < n → L i = L 0 := decide_eq_true_iff
theorem rightB_false {n : Nat} {L : Nat → Nat} (h : ¬ (1 ≤ n ∧ n ≤ 255 ∧ 1 ≤ L 0 ∧ L 0 ≤ 255 ∧ ∀ i, i < n → L i = L 0)) : rightB n L = false := decide_eq_false h
theorem ret_bool {a b : Bool} (h : a = b) : Ending.returned (.bool a) = .returned (.bool b) := by rw [h]

set_option maxHeartbeats 1000000 in
theorem right_any (A : Option Addr) (n C : Nat) (L : Nat → Nat) (M : Mat) (G : Nat → Prop) (w : World) (hm : n ≤ maxLen) (h : RdM w A n L M G) :
    Calls Try.prog 16 #[.slice A n C] w fun e w' => e = .returned (.bool (rightB n L)) ∧ w = w' := by
  unfold maxLen at hm
  by_cases h1 : 1 ≤ n ∧ n ≤ 255
  · obtain ⟨h1, h2⟩ := h1
    obtain ⟨b, off, A0, C0, rfl, _, hc0, _⟩ := h.row (i := 0) (by omega)
    rw [Nat.add_zero] at hc0
    have H := Lib.hid h
    clear h
    by_cases h3 : 1 ≤ L 0 ∧ L 0 ≤ 255
    · obtain ⟨h3, h4⟩ := h3
      go_enter Try.func16, Try.ntmps16
      go_wp2
      go_loop [26, 5] (fun vi _ => ∃ k : Nat, k ≤ n ∧ vi = .int .i64 (k : Int) ∧ Hid (∀ i, i < k → L i = L 0)) (fun vi _ => n - (intOf vi).toNat)
      case atStart => exact ⟨0, by omega, rfl, Lib.hid (fun i hi => absurd hi (by omega))⟩
      case round =>
        obtain ⟨k, hk, rfl, HL⟩ := hrel
        by_cases hlt : k < n
        · obtain ⟨b', off', Ak, Ck, e, _, hck, _⟩ := H.out.row hlt
          obtain ⟨rfl, rfl⟩ : b = b' ∧ off = off' := by simpa using e
          clear e
          by_cases he : L k = L 0
          · have hb : ((L k : Int) != (L 0 : Int)) = false := by rw [he]; simp
            have HE := Lib.hid he
            clear he
            go_wp2
            go_round
            case rel => exact ⟨k + 1, by omega, by go_num, Lib.hid (fun i hi => by
              by_cases e : i = k
              · rw [e]; exact HE.out
              · exact HL.out i (by omega))⟩
            case measure => simp [intOf]; omega
          · have hb : ((L k : Int) != (L 0 : Int)) = true := by rw [bne_iff_ne]; omega
            have HF := Lib.hid (rightB_false (n := n) (L := L) (fun h => he (h.2.2.2.2 k hlt)))
            clear he
            go_wp2
            go_ret
            exact ⟨ret_bool HF.out.symm, rfl⟩
        · have HF := Lib.hid (rightB_true (n := n) (L := L) |>.2 ⟨h1, h2, h3, h4, fun i hi => HL.out i (by omega)⟩)
          go_wp2
          go_ret
          exact ⟨ret_bool HF.out.symm, rfl⟩
    · have HF := Lib.hid (rightB_false (n := n) (L := L) (fun h => h3 ⟨h.2.2.1, h.2.2.2.1⟩))
      rcases (show L 0 < 1 ∨ 255 < L 0 by omega) with h5 | h5
      all_goals
        clear h3
        go_enter Try.func16, Try.ntmps16
        go_wp2
        go_ret
        exact ⟨ret_bool HF.out.symm, rfl⟩
  · have HF := Lib.hid (rightB_false (n := n) (L := L) (fun h => h1 ⟨h.1, h.2.1⟩))
    clear h
    rcases (show n < 1 ∨ 255 < n by omega) with h5 | h5
    all_goals
      clear h1
      go_enter Try.func16, Try.ntmps16
      go_wp2
      go_ret
      exact ⟨ret_bool HF.out.symm, rfl⟩

set_option maxHeartbeats 1000000 in
theorem refRight_any (A : Option Addr) (n C : Nat) (L : Nat → Nat) (M : Mat) (G : Nat → Prop) (w : World) (hm : n ≤ maxLen) (h : RdM w A n L M G) :
    Calls Try.prog 17 #[.slice A n C] w fun e w' => e = .returned (.bool (rightB n L)) ∧ Below w.heap.size w w' := by
  unfold maxLen at hm
  by_cases h1 : 1 ≤ n ∧ n ≤ 255
  · obtain ⟨h1, h2⟩ := h1
    obtain ⟨b, off, A0, C0, rfl, _, hc0, _⟩ := h.row (i := 0) (by omega)
    rw [Nat.add_zero] at hc0
    have H := Lib.hid h
    clear h
    by_cases h3 : 1 ≤ L 0 ∧ L 0 ≤ 255
    · obtain ⟨h3, h4⟩ := h3
      go_enter Try.func17, Try.ntmps17
      go_wp2
      go_loopw [3] (fun vi wr => ∃ k : Nat, 1 ≤ k ∧ k ≤ n ∧ vi = .int .i64 (k : Int) ∧ Hid (∀ i, i < k → L i = L 0) ∧ Hid (Below w.heap.size w wr)) (fun vi _ => n - (intOf vi).toNat)
      case atStart => exact ⟨1, by omega, by omega, rfl, Lib.hid (fun i hi => by rw [show i = 0 by omega]), Lib.hid (Below.refl _ _)⟩
      case round =>
        obtain ⟨k, hk0, hk, rfl, HL, HB⟩ := hrel
        by_cases hlt : k < n
        · obtain ⟨b', off', Ak, Ck, e, _, hck, _⟩ := (H.out.old HB.out).row hlt
          obtain ⟨rfl, rfl⟩ : b = b' ∧ off = off' := by simpa using e
          clear e
          have hd0 : wr.cell? ⟨b, off, none⟩ = some (.slice A0 (L 0) C0) := (HB.out.cell (World.block_lt_of_cell? _ _ hc0)).trans hc0
          clear hc0
          by_cases he : L k = L 0
          · have hb : ((L k : Int) != (L 0 : Int)) = false := by rw [he]; simp
            have HE := Lib.hid he
            clear he
            go_wp2
            go_quiet (fail)
            go_wp2
            go_roundw
            case rel => exact ⟨k + 1, by omega, by omega, by go_num, Lib.hid (fun i hi => by
              by_cases e : i = k
              · rw [e]; exact HE.out
              · exact HL.out i (by omega)), Lib.hid ⟨HB.out.os, HB.out.tape, HB.out.output, HB.out.size, HB.out.block⟩⟩
            case measure => simp [intOf]; omega
          · have hb : ((L k : Int) != (L 0 : Int)) = true := by rw [bne_iff_ne]; omega
            have HF := Lib.hid (rightB_false (n := n) (L := L) (fun h => he (h.2.2.2.2 k hlt)))
            clear he
            go_wp2
            go_quiet (fail)
            go_wp2
            go_ret
            exact ⟨ret_bool HF.out.symm, HB.out.os, HB.out.tape, HB.out.output, HB.out.size, HB.out.block⟩
        · have HF := Lib.hid (rightB_true (n := n) (L := L) |>.2 ⟨h1, h2, h3, h4, fun i hi => HL.out i (by omega)⟩)
          go_wp2
          go_ret
          exact ⟨ret_bool HF.out.symm, HB.out⟩
    · have HF := Lib.hid (rightB_false (n := n) (L := L) (fun h => h3 ⟨h.2.2.1, h.2.2.2.1⟩))
      rcases (show L 0 < 1 ∨ 255 < L 0 by omega) with h5 | h5
      all_goals
        clear h3
        go_enter Try.func17, Try.ntmps17
        go_wp2
        go_ret
        exact ⟨ret_bool HF.out.symm, Below.refl _ _⟩
  · have HF := Lib.hid (rightB_false (n := n) (L := L) (fun h => h1 ⟨h.1, h.2.1⟩))
    clear h
    rcases (show n < 1 ∨ 255 < n by omega) with h5 | h5
    all_goals
      clear h1
      go_enter Try.func17, Try.ntmps17
      go_wp2
      go_ret
      exact ⟨ret_bool HF.out.symm, Below.refl _ _⟩

def SomeBool (w : World) (e : Ending) (w' : World) : Prop := ∃ b : Bool, e = .returned (.bool b) ∧ w = w'
set_option maxHeartbeats 1000000 in
theorem few_any (A : Option Addr) (n C : Nat) (L : Nat → Nat) (M : Mat) (G : Nat → Prop) (w : World) (hm : n ≤ maxLen) (h : RdM w A n L M G) :
    Calls Try.prog 9 #[.slice A n C] w (SomeBool w) := by
  unfold maxLen at hm
  have H := Lib.hid h
  clear h
  go_enter Try.func9, Try.ntmps9
  go_wp2
  go_loop [4, 3] (fun vi vn => ∃ (k : Nat) (z : Int), k ≤ n ∧ vi = .int .i64 (k : Int) ∧ vn = .int .i64 z) (fun vi _ => n - (intOf vi).toNat)
  case atStart => exact ⟨0, 0, by omega, rfl, rfl⟩
  case round =>
    obtain ⟨k, z, hk, rfl, rfl⟩ := hrel
    by_cases hlt : k < n
    · obtain ⟨b, off, Ak, Ck, rfl, _, hck, _⟩ := H.out.row hlt
      by_cases hz : z ≤ 2000
      · go_wp2
        go_round
        case rel => exact ⟨k + 1, _, by omega, by go_num, rfl⟩
        case measure => simp [intOf]; omega
      · go_wp2
        go_ret
        exact ⟨_, rfl, rfl⟩
    · go_wp2
      go_ret
      exact ⟨_, rfl, rfl⟩
theorem num_any (z : Int) (w : World) : Calls Try.prog 19 #[.int .i64 z] w fun e w' => e = .returned (.int .i64 z) ∧ w = w' := by
  go_enter Try.func19, Try.ntmps19
  go_wp2
  go_ret
  exact ⟨rfl, rfl⟩
end Go.Proofs.Ytanaldojoacbeaa
