/- What Right of package matrix answers. -/
import Derived.Test.YtelkeoopfejgnaaMxWords
namespace Go.Proofs.Ytelkeoopfejgnaa
open Go.RowKit Mx

set_option maxHeartbeats 1000000 in
theorem right_any (A : Option Addr) (n C : Nat) (L : Nat → Nat) (M : Mat) (G : Nat → Prop) (w : World) (hm : n ≤ maxLen) (h : RdM w A n L M G) :
    Calls Try.prog 31 #[.slice A n C] w fun e w' => e = .returned (.bool (rightB n L)) ∧ w = w' := by
  unfold maxLen at hm
  by_cases h1 : 1 ≤ n ∧ n ≤ 255
  · obtain ⟨h1, h2⟩ := h1
    obtain ⟨b, off, A0, C0, rfl, _, hc0, _⟩ := h.row (i := 0) (by omega)
    rw [Nat.add_zero] at hc0
    have H := Lib.hid h
    clear h
    by_cases h3 : 1 ≤ L 0 ∧ L 0 ≤ 255
    · obtain ⟨h3, h4⟩ := h3
      go_enter Try.func31, Try.ntmps31
      go_wp2
      go_loop [26, 5] (fun vi _ => ∃ k : Nat, k ≤ n ∧ vi = .int .i64 (k : Int) ∧ Hid (∀ i, i < k → L i = L 0)) (fun vi _ => n - (intOf vi).toNat)
      case atStart => exact ⟨0, by omega, rfl, Lib.hid (fun i hi => absurd hi (by omega))⟩
      case round =>
        obtain ⟨k, hk, rfl, HL⟩ := hrel
        by_cases hlt : k < n
        · obtain ⟨b', off', Ak, Ck, e, _, hck, _⟩ := H.out.row hlt
          obtain ⟨rfl, rfl⟩ : b = b' ∧ off = off' := by simpa using e
          clear e
          by_cases he : L k = L 0
          · have hb : ((L k : Int) != (L 0 : Int)) = false := by rw [he]; simp
            have HE := Lib.hid he
            clear he
            go_wp2
            go_round
            case rel => exact ⟨k + 1, by omega, by go_num, Lib.hid (fun i hi => by
              by_cases e : i = k
              · rw [e]; exact HE.out
              · exact HL.out i (by omega))⟩
            case measure => simp [intOf]; omega
          · have hb : ((L k : Int) != (L 0 : Int)) = true := by rw [bne_iff_ne]; omega
            have HF := Lib.hid (rightB_false (n := n) (L := L) (fun h => he (h.2.2.2.2 k hlt)))
            clear he
            go_wp2
            go_ret
            exact ⟨ret_bool HF.out.symm, rfl⟩
        · have HF := Lib.hid (rightB_true (n := n) (L := L) |>.2 ⟨h1, h2, h3, h4, fun i hi => HL.out i (by omega)⟩)
          go_wp2
          go_ret
          exact ⟨ret_bool HF.out.symm, rfl⟩
    · have HF := Lib.hid (rightB_false (n := n) (L := L) (fun h => h3 ⟨h.2.2.1, h.2.2.2.1⟩))
      rcases (show L 0 < 1 ∨ 255 < L 0 by omega) with h5 | h5
      all_goals
        clear h3
        go_enter Try.func31, Try.ntmps31
        go_wp2
        go_ret
        exact ⟨ret_bool HF.out.symm, rfl⟩
  · have HF := Lib.hid (rightB_false (n := n) (L := L) (fun h => h1 ⟨h.1, h.2.1⟩))
    clear h
    rcases (show n < 1 ∨ 255 < n by omega) with h5 | h5
    all_goals
      clear h1
      go_enter Try.func31, Try.ntmps31
      go_wp2
      go_ret
      exact ⟨ret_bool HF.out.symm, rfl⟩
theorem right_is (A : Option Addr) (n C : Nat) (L : Nat → Nat) (M : Mat) (G : Nat → Prop) (w : World) (r : Bool) (hm : n ≤ maxLen) (h : RdM w A n L M G) (hr : rightB n L = r) :
    Calls Try.prog 31 #[.slice A n C] w fun e w' => e = .returned (.bool r) ∧ w = w' := hr ▸ right_any A n C L M G w hm h
end Go.Proofs.Ytelkeoopfejgnaa
