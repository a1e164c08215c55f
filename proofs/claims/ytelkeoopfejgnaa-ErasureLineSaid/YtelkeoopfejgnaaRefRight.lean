/- What the document's own RightMatrix answers. -/
import Derived.Test.YtelkeoopfejgnaaMxWords
namespace Go.Proofs.Ytelkeoopfejgnaa
open Go.RowKit Mx

set_option maxHeartbeats 1000000 in
theorem refRight_any (A : Option Addr) (n C : Nat) (L : Nat → Nat) (M : Mat) (G : Nat → Prop) (w : World) (hm : n ≤ maxLen) (h : RdM w A n L M G) :
    Calls Try.prog 29 #[.slice A n C] w fun e w' => e = .returned (.bool (rightB n L)) ∧ Below w.heap.size w w' := by
  unfold maxLen at hm
  by_cases h1 : 1 ≤ n ∧ n ≤ 255
  · obtain ⟨h1, h2⟩ := h1
    obtain ⟨b, off, A0, C0, rfl, _, hc0, _⟩ := h.row (i := 0) (by omega)
    rw [Nat.add_zero] at hc0
    have H := Lib.hid h
    clear h
    by_cases h3 : 1 ≤ L 0 ∧ L 0 ≤ 255
    · obtain ⟨h3, h4⟩ := h3
      go_enter Try.func29, Try.ntmps29
      go_wp2
      go_loopw [3] (fun vi wr => ∃ k : Nat, 1 ≤ k ∧ k ≤ n ∧ vi = .int .i64 (k : Int) ∧ Hid (∀ i, i < k → L i = L 0) ∧ Hid (Below w.heap.size w wr)) (fun vi _ => n - (intOf vi).toNat)
      case atStart => exact ⟨1, by omega, by omega, rfl, Lib.hid (fun i hi => by rw [show i = 0 by omega]), Lib.hid (Below.refl _ _)⟩
      case round =>
        obtain ⟨k, hk0, hk, rfl, HL, HB⟩ := hrel
        by_cases hlt : k < n
        · obtain ⟨b', off', Ak, Ck, e, _, hck, _⟩ := (H.out.old HB.out).row hlt
          obtain ⟨rfl, rfl⟩ : b = b' ∧ off = off' := by simpa using e
          clear e
          have hd0 : wr.cell? ⟨b, off, none⟩ = some (.slice A0 (L 0) C0) := (HB.out.cell (World.block_lt_of_cell? _ _ hc0)).trans hc0
          clear hc0
          by_cases he : L k = L 0
          · have hb : ((L k : Int) != (L 0 : Int)) = false := by rw [he]; simp
            have HE := Lib.hid he
            clear he
            go_wp2
            go_quiet (fail)
            go_wp2
            go_roundw
            case rel => exact ⟨k + 1, by omega, by omega, by go_num, Lib.hid (fun i hi => by
              by_cases e : i = k
              · rw [e]; exact HE.out
              · exact HL.out i (by omega)), Lib.hid ⟨HB.out.os, HB.out.tape, HB.out.output, HB.out.size, HB.out.block⟩⟩
            case measure => simp [intOf]; omega
          · have hb : ((L k : Int) != (L 0 : Int)) = true := by rw [bne_iff_ne]; omega
            have HF := Lib.hid (rightB_false (n := n) (L := L) (fun h => he (h.2.2.2.2 k hlt)))
            clear he
            go_wp2
            go_quiet (fail)
            go_wp2
            go_ret
            exact ⟨ret_bool HF.out.symm, HB.out.os, HB.out.tape, HB.out.output, HB.out.size, HB.out.block⟩
        · have HF := Lib.hid (rightB_true (n := n) (L := L) |>.2 ⟨h1, h2, h3, h4, fun i hi => HL.out i (by omega)⟩)
          go_wp2
          go_ret
          exact ⟨ret_bool HF.out.symm, HB.out⟩
    · have HF := Lib.hid (rightB_false (n := n) (L := L) (fun h => h3 ⟨h.2.2.1, h.2.2.2.1⟩))
      rcases (show L 0 < 1 ∨ 255 < L 0 by omega) with h5 | h5
      all_goals
        clear h3
        go_enter Try.func29, Try.ntmps29
        go_wp2
        go_ret
        exact ⟨ret_bool HF.out.symm, Below.refl _ _⟩
  · have HF := Lib.hid (rightB_false (n := n) (L := L) (fun h => h1 ⟨h.1, h.2.1⟩))
    clear h
    rcases (show n < 1 ∨ 255 < n by omega) with h5 | h5
    all_goals
      clear h1
      go_enter Try.func29, Try.ntmps29
      go_wp2
      go_ret
      exact ⟨ret_bool HF.out.symm, Below.refl _ _⟩

theorem refRight_is (A : Option Addr) (n C : Nat) (L : Nat → Nat) (M : Mat) (G : Nat → Prop) (w : World) (r : Bool) (hm : n ≤ maxLen) (h : RdM w A n L M G) (hr : rightB n L = r) :
    Calls Try.prog 29 #[.slice A n C] w fun e w' => e = .returned (.bool r) ∧ Below w.heap.size w w' := hr ▸ refRight_any A n C L M G w hm h
end Go.Proofs.Ytelkeoopfejgnaa
