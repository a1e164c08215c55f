/- Which tapes are right, and what Load makes. -/
import Derived.Test.YtflcnghjhgfkfaaTpB
namespace Go.Proofs.Ytflcnghjhgfkfaa
open Go.RowKit
open Pt (Tx)

theorem Tp.right_of {lab cap : Int} {bs : List Tx} (h : Tp.right lab cap bs = true) : 1 ≤ lab ∧ 0 ≤ cap ∧ cap ≤ 64 ∧ (bs.length : Int) ≤ cap ∧ ∀ s ∈ bs, 1 ≤ s.length ∧ s.length ≤ 94 := by
  simp only [Tp.right, Tp.okB, Bool.and_eq_true, decide_eq_true_eq, List.all_eq_true] at h
  exact ⟨h.1.1.1.1, h.1.1.1.2, h.1.1.2, h.1.2, h.2⟩
theorem Tp.right_not {lab cap : Int} {bs : List Tx} (h : Tp.right lab cap bs = false) : lab < 1 ∨ cap < 0 ∨ 64 < cap ∨ cap < (bs.length : Int) ∨ ∃ i, ∃ hi : i < bs.length, bs[i].length < 1 ∨ 94 < bs[i].length := by
  by_cases h1 : lab < 1
  · exact .inl h1
  · by_cases h2 : cap < 0
    · exact .inr (.inl h2)
    · by_cases h3 : 64 < cap
      · exact .inr (.inr (.inl h3))
      · by_cases h4 : cap < (bs.length : Int)
        · exact .inr (.inr (.inr (.inl h4)))
        · refine .inr (.inr (.inr (.inr ?_)))
          have : ¬ (∀ s ∈ bs, 1 ≤ s.length ∧ s.length ≤ 94) := fun h5 => by
            have : Tp.right lab cap bs = true := by
              simp only [Tp.right, Tp.okB, Bool.and_eq_true, decide_eq_true_eq, List.all_eq_true]
              exact ⟨⟨⟨⟨by omega, by omega⟩, by omega⟩, by omega⟩, h5⟩
            rw [h] at this; cases this
          rw [Classical.not_forall] at this
          obtain ⟨s, hs⟩ := this
          rw [Classical.not_imp] at hs
          obtain ⟨i, hi, rfl⟩ := List.mem_iff_getElem.1 hs.1
          exact ⟨i, hi, by have := hs.2; omega⟩
def AnsB (b : Bool) (w : World) (e : Ending) (w' : World) : Prop := e = .returned (.bool b) ∧ Below w.heap.size w w'
theorem right_yes (lab cap : Int) (A : Option Addr) (bs : List Tx) (C : Nat) (lost : Bool) (G : Nat → Prop) (w : World) (hr : RdB w A bs G) (hT : Tp.right lab cap bs = true) :
    Calls Try.prog 25 #[.agg #[.int .i64 lab, .int .i64 cap, .slice A bs.length C, .bool lost]] w (AnsB true w) := by
  obtain ⟨h1, h2, h3, h4, h5⟩ := Tp.right_of hT
  have d1 : decide (lab < 1) = false := decide_eq_false (by omega)
  have d2 : decide (cap < 0) = false := decide_eq_false (by omega)
  have d3 : decide (64 < cap) = false := decide_eq_false (by omega)
  have d4 : decide (cap < (bs.length : Int)) = false := decide_eq_false (by omega)
  have hB : Below w.heap.size w (w.alloc (.cells #[.int .i64 lab, .int .i64 cap, .slice A bs.length C, .bool lost] 24)) := (Below.refl _ _).alloc (Nat.le_refl _) _
  have hr' := hr.old hB
  have H5 := Lib.hid h5
  clear h5 hr
  go_enter Try.func25, Try.ntmps25
  go_wp2
  go_loop [29] (fun i => ∃ k : Nat, k ≤ bs.length ∧ i = .int .i64 (k : Int)) (fun i => bs.length - (intOf i).toNat)
  case atStart => exact ⟨0, Nat.zero_le _, rfl⟩
  case round =>
    obtain ⟨k, hk, rfl⟩ := hrel
    by_cases hlt : k < bs.length
    · obtain ⟨b, off, A', C', rfl, _, hc, _⟩ := hr'.at_ hlt
      have hs := H5.out bs[k] (List.getElem_mem hlt)
      go_wp2_with (go_at_call 26; refine (rightBlock_yes _ _ _ _ hs.1 hs.2).mono ?_; rintro e w' ⟨rfl, rfl⟩)
      go_round
      case rel => exact ⟨k + 1, by omega, by go_num⟩
      case measure => simp [intOf]; omega
    · go_wp2
      go_ret
      exact ⟨rfl, hB⟩
theorem right_no (lab cap : Int) (A : Option Addr) (bs : List Tx) (C : Nat) (lost : Bool) (G : Nat → Prop) (w : World) (hr : RdB w A bs G) (hT : Tp.right lab cap bs = false) :
    Calls Try.prog 25 #[.agg #[.int .i64 lab, .int .i64 cap, .slice A bs.length C, .bool lost]] w (AnsB false w) := by
  have hB : Below w.heap.size w (w.alloc (.cells #[.int .i64 lab, .int .i64 cap, .slice A bs.length C, .bool lost] 24)) := (Below.refl _ _).alloc (Nat.le_refl _) _
  have hr' := hr.old hB
  have HN := Lib.hid (Tp.right_not hT)
  clear hr hT
  by_cases h1 : lab < 1
  · have d1 : decide (lab < 1) = true := decide_eq_true h1
    go_enter Try.func25, Try.ntmps25
    go_wp2
    go_ret
    exact ⟨rfl, hB⟩
  have d1 : decide (lab < 1) = false := decide_eq_false (by omega)
  by_cases h2 : cap < 0
  · have d2 : decide (cap < 0) = true := decide_eq_true h2
    go_enter Try.func25, Try.ntmps25
    go_wp2
    go_ret
    exact ⟨rfl, hB⟩
  have d2 : decide (cap < 0) = false := decide_eq_false (by omega)
  by_cases h3 : 64 < cap
  · have d3 : decide (64 < cap) = true := decide_eq_true h3
    go_enter Try.func25, Try.ntmps25
    go_wp2
    go_ret
    exact ⟨rfl, hB⟩
  have d3 : decide (64 < cap) = false := decide_eq_false (by omega)
  by_cases h4 : cap < (bs.length : Int)
  · have d4 : decide (cap < (bs.length : Int)) = true := decide_eq_true h4
    go_enter Try.func25, Try.ntmps25
    go_wp2
    go_ret
    exact ⟨rfl, hB⟩
  have d4 : decide (cap < (bs.length : Int)) = false := decide_eq_false (by omega)
  obtain ⟨i0, hi0, hbad⟩ : ∃ i, ∃ hi : i < bs.length, bs[i].length < 1 ∨ 94 < bs[i].length := by
    rcases HN.out with h | h | h | h | h
    · omega
    · omega
    · omega
    · omega
    · exact h
  have HX := Lib.hid hbad
  clear HN hbad
  go_enter Try.func25, Try.ntmps25
  go_wp2
  go_loop [29] (fun i => ∃ k : Nat, k ≤ i0 ∧ i = .int .i64 (k : Int)) (fun i => bs.length - (intOf i).toNat)
  case atStart => exact ⟨0, Nat.zero_le _, rfl⟩
  case round =>
    obtain ⟨k, hk, rfl⟩ := hrel
    have hlt : k < bs.length := by omega
    obtain ⟨b, off, A', C', rfl, _, hc, _⟩ := hr'.at_ hlt
    by_cases hs : bs[k].length < 1 ∨ 94 < bs[k].length
    · go_wp2_with (go_at_call 26; refine (rightBlock_no _ _ _ _ hs).mono ?_; rintro e w' ⟨rfl, rfl⟩)
      go_ret
      exact ⟨rfl, hB⟩
    · have hne : k ≠ i0 := by rintro rfl; exact hs HX.out
      go_wp2_with (go_at_call 26; refine (rightBlock_yes _ _ _ _ (by omega) (by omega)).mono ?_; rintro e w' ⟨rfl, rfl⟩)
      go_round
      case rel => exact ⟨k + 1, by omega, by go_num⟩
      case measure => simp [intOf]; omega
end Go.Proofs.Ytflcnghjhgfkfaa
