/- What slices.Index, slices.Contains, rightLabels and RightSeal of package record answer. -/
import Derived.Test.YtdllkbjbklhigaaDoorScWords
namespace Go.Proofs.YtdllkbjbklhigaaDoor
open Go.RowKit
open Pt (Tx)

theorem mem_take_step {l : List Int} {k : Nat} (h : k < l.length) (x : Int) : x ∈ l.take (k + 1) ↔ x ∈ l.take k ∨ x = l[k] := by
  rw [List.take_succ_eq_append_getElem h, List.mem_append, List.mem_singleton]
/-- a place is told, or that there is none -/
def Found (b : Bool) (w : World) (e : Ending) (w' : World) : Prop := (∃ k : Int, e = .returned (.int .i64 k) ∧ decide (0 ≤ k) = b) ∧ w = w'
theorem index_any (A : Option Addr) (l : List Int) (n C : Nat) (x : Int) (G : Nat → Prop) (w : World) (hn : n = l.length) (hl : n ≤ maxLen) (hr : RdZ w A l G) :
    Calls Tryd.prog 55 #[.slice A n C, .int .i64 x] w (Found (decide (x ∈ l)) w) := by
  unfold maxLen at hl
  have HR := Lib.hid hr
  have HN := Lib.hid hn
  clear hr hn
  go_enter Tryd.func55, Tryd.ntmps55
  go_wp2
  go_loop [5, 8] (fun vs vi => ∃ k : Nat, k ≤ n ∧ vi = .int .i64 (k : Int) ∧ Hid (x ∉ l.take k)) (fun vs vi => n - (intOf vi).toNat)
  case atStart => exact ⟨0, Nat.zero_le _, rfl, Lib.hid (by simp)⟩
  case round =>
    obtain ⟨k, hk, rfl, HM⟩ := hrel
    by_cases hlt : k < n
    · have hlt' : k < l.length := by rw [← HN.out]; exact hlt
      obtain ⟨b, off, rfl, -, hc⟩ := HR.out.at_ hlt'
      have HS := Lib.hid (mem_take_step hlt' x)
      obtain ⟨y, hy⟩ : ∃ y, y = l[k] := ⟨_, rfl⟩
      rw [← hy] at hc HS
      have HY := Lib.hid (hy ▸ List.getElem_mem hlt')
      clear hy
      by_cases e : x = y
      · have q : (x == y) = true := beq_iff_eq.2 e
        have HX : Hid (x ∈ l) := Lib.hid (by rw [e]; exact HY.out)
        clear e
        go_wp2
        go_ret
        exact ⟨⟨(k : Int), rfl, by rw [decide_eq_true HX.out]; simp⟩, rfl⟩
      · have q : (x == y) = false := beq_eq_false_iff_ne.2 e
        have HX : Hid (x ∉ l.take (k + 1)) := Lib.hid fun h => (HS.out.1 h).elim HM.out e
        clear e
        go_wp2
        go_round
        case rel => exact ⟨k + 1, by omega, by go_num, HX⟩
        case measure => simp [intOf]; omega
    · have HX : Hid (x ∉ l) := Lib.hid (by have := HM.out; rwa [List.take_of_length_le (by rw [← HN.out]; omega)] at this)
      go_wp2
      go_ret
      exact ⟨⟨-1, rfl, by rw [decide_eq_false HX.out]; rfl⟩, rfl⟩
theorem contains_any (A : Option Addr) (l : List Int) (n C : Nat) (x : Int) (G : Nat → Prop) (w : World) (hn : n = l.length) (hl : n ≤ maxLen) (hr : RdZ w A l G) :
    Calls Tryd.prog 52 #[.slice A n C, .int .i64 x] w fun e w' => e = .returned (.bool (decide (x ∈ l))) ∧ w = w' := by
  have h := index_any A l n C x G w hn hl hr
  obtain ⟨d, hd⟩ : ∃ d, d = decide (x ∈ l) := ⟨_, rfl⟩
  rw [← hd] at h ⊢
  have H := Lib.hid h
  clear h hd hr hn hl
  go_enter Tryd.func52, Tryd.ntmps52
  go_wp2_with fail
  refine H.out.mono ?_
  rintro e w' ⟨⟨k, rfl, hk⟩, hw'⟩
  subst hw'
  go_wp2
  go_ret
  first | exact ⟨rfl, rfl⟩ | exact ⟨by rw [← hk]; rfl, rfl⟩
set_option maxHeartbeats 1000000 in
theorem labels_any (A : Option Addr) (l : List Int) (n C : Nat) (G : Nat → Prop) (w : World) (hn : n = l.length) (hl : n ≤ maxLen) (hC : n ≤ C) (hr : RdZ w A l G) :
    Calls Tryd.prog 44 #[.slice A n C] w fun e w' => e = .returned (.bool (decide (Rc.Labs l))) ∧ w = w' := by
  have HM := Lib.hid hl
  unfold maxLen at hl
  have HR := Lib.hid hr
  have HN := Lib.hid hn
  clear hr hn
  go_enter Tryd.func44, Tryd.ntmps44
  go_wp2
  go_loop [3, 4, 7] (fun va vb vi => ∃ k : Nat, k ≤ n ∧ vi = .int .i64 (k : Int) ∧ Hid (Rc.Labs (l.take k))) (fun va vb vi => n - (intOf vi).toNat)
  case atStart => exact ⟨0, Nat.zero_le _, rfl, Lib.hid Rc.Labs.nil⟩
  case round =>
    obtain ⟨k, hk, rfl, HK⟩ := hrel
    by_cases hlt : k < n
    · have hlt' : k < l.length := by rw [← HN.out]; exact hlt
      obtain ⟨b, off, rfl, -, hc⟩ := HR.out.at_ hlt'
      have HY := Lib.hid (Rc.labs_take hlt')
      have HZ : Hid (¬ ((1 ≤ l[k] ∧ l[k] ≤ 2147483647) ∧ l[k] ∉ l.take k) → decide (Rc.Labs l) = false) := Lib.hid fun h => decide_eq_false (Rc.labs_step_no hlt' h)
      have hlen : k = (l.take k).length := by rw [List.length_take]; omega
      have HT := Lib.hid (HR.out.take k)
      have HL := Lib.hid hlen
      obtain ⟨y, hy⟩ : ∃ y, y = l[k] := ⟨_, rfl⟩
      rw [← hy] at hc HY HZ
      clear hy hlen
      have hkc : (k : Int) ≤ (C : Int) := by omega
      cases q1 : btw y 1 2147483647 with
      | false =>
        have HF := Lib.hid (HZ.out fun h => by have := btw_no q1; omega)
        go_wp2_with (go_at_call 38; refine (between_any _ _ _ _).mono ?_; rintro e w' ⟨rfl, hw'⟩; subst hw')
        go_ret
        exact ⟨by rw [HF.out]; rfl, rfl⟩
      | true =>
        cases q2 : decide (y ∈ l.take k) with
        | true =>
          have HF := Lib.hid (HZ.out fun h => h.2 (of_decide_eq_true q2))
          have hcall := contains_any (some ⟨b, off, none⟩) (l.take k) k C y G w HL.out (by have := HM.out; omega) HT.out
          rw [q2] at hcall
          have HC := Lib.hid hcall
          clear hcall
          go_wp2_with (first
            | (go_at_call 38; refine (between_any _ _ _ _).mono ?_; rintro e w' ⟨rfl, hw'⟩; subst hw')
            | (go_at_call 52; refine HC.out.mono ?_; rintro e w' ⟨rfl, hw'⟩; subst hw'))
          go_ret
          exact ⟨by rw [HF.out]; rfl, rfl⟩
        | false =>
          have HX := Lib.hid (HY.out.2 ⟨HK.out, btw_yes q1, of_decide_eq_false q2⟩)
          have hcall := contains_any (some ⟨b, off, none⟩) (l.take k) k C y G w HL.out (by have := HM.out; omega) HT.out
          rw [q2] at hcall
          have HC := Lib.hid hcall
          clear hcall
          go_wp2_with (first
            | (go_at_call 38; refine (between_any _ _ _ _).mono ?_; rintro e w' ⟨rfl, hw'⟩; subst hw')
            | (go_at_call 52; refine HC.out.mono ?_; rintro e w' ⟨rfl, hw'⟩; subst hw'))
          go_round
          case rel => exact ⟨k + 1, by omega, by go_num, HX⟩
          case measure => simp [intOf]; omega
    · have HX : Hid (decide (Rc.Labs l) = true) := Lib.hid (decide_eq_true (by have := HK.out; rwa [List.take_of_length_le (by rw [← HN.out]; omega)] at this))
      go_wp2
      go_ret
      exact ⟨by rw [HX.out]; rfl, rfl⟩
/-- which seals are right, as RightSeal asks -/
def sealB (n x d p : Int) (m : Nat) (lb : Bool) : Bool :=
  btw n 1 1073741824 && (btw d 1 14 && (btw p 1 (14 - d) && (btw x 0 (d + p - 1) && (((m : Int) == d + p) && lb))))
theorem sealB_ok (n x d p : Int) (l : List Int) : sealB n x d p l.length (decide (Rc.Labs l)) = decide (Rc.SOk ⟨n, x, d, p, l⟩) := by
  rw [Bool.eq_iff_iff, decide_eq_true_eq]
  unfold sealB btw Rc.SOk Rc.SNums
  simp only [Bool.and_eq_true, decide_eq_true_eq, beq_iff_eq]
  constructor
  · rintro ⟨⟨h1, h2⟩, ⟨h3, h4⟩, ⟨h5, h6⟩, ⟨h7, h8⟩, h9, h10⟩
    exact ⟨⟨⟨h1, h2⟩, h3, h5, by omega, h9, h7, by omega⟩, h10⟩
  · rintro ⟨⟨⟨h1, h2⟩, h3, h5, h4, h9, h7, h8⟩, h10⟩
    exact ⟨⟨h1, h2⟩, ⟨h3, by omega⟩, ⟨h5, by omega⟩, ⟨h7, by omega⟩, h9, h10⟩
set_option maxHeartbeats 4000000 in
theorem rightSeal_way (n x d p : Int) (A : Option Addr) (l : List Int) (m C : Nat) (G : Nat → Prop) (w : World) (hm : m = l.length) (hC : m ≤ C) (hCm : C ≤ maxLen) (hr : RdZ w A l G) :
    Calls Tryd.prog 19 #[.agg #[.int .i64 n, .int .i64 x, .int .i64 d, .int .i64 p, .slice A m C]] w (AnsB (sealB n x d p m (decide (Rc.Labs l))) w) := by
  have HB0 : Hid (Below w.heap.size w (w.alloc (sealObj n x d p A m C))) := Lib.hid ((Below.refl _ _).alloc (Nat.le_refl _) _)
  have HU0 : Hid ((w.alloc (sealObj n x d p A m C)).heap[w.heap.size]? = some (sealObj n x d p A m C)) := Lib.hid (Go.Deep.blk_alloc_new _ _)
  have HL := Lib.hid (labels_any A l m C G (w.alloc (sealObj n x d p A m C)) hm (by omega) hC (hr.old HB0.out))
  clear hm hC hCm hr
  obtain ⟨a0, a1, a2, a3, a4⟩ := seal5 HU0.out
  unfold sealObj at a0 a1 a2 a3 a4 HL HB0
  cases q1 : btw n 1 1073741824 with
  | false =>
    have H : Hid (sealB n x d p m (decide (Rc.Labs l)) = false) := Lib.hid (by unfold sealB; rw [q1]; rfl)
    go_enter Tryd.func19, Tryd.ntmps19
    go_wp2_with (first
      | (go_at_call 38; refine (between_any _ _ _ _).mono ?_; rintro e w' ⟨rfl, hw'⟩; subst hw')
      | (go_at_call 44; refine HL.out.mono ?_; rintro e w' ⟨rfl, hw'⟩; subst hw'))
    go_ret
    rw [H.out]
    exact ⟨rfl, HB0.out⟩
  | true =>
    cases q2 : btw d 1 14 with
    | false =>
      have H : Hid (sealB n x d p m (decide (Rc.Labs l)) = false) := Lib.hid (by unfold sealB; rw [q1, q2]; rfl)
      go_enter Tryd.func19, Tryd.ntmps19
      go_wp2_with (first
        | (go_at_call 38; refine (between_any _ _ _ _).mono ?_; rintro e w' ⟨rfl, hw'⟩; subst hw')
        | (go_at_call 44; refine HL.out.mono ?_; rintro e w' ⟨rfl, hw'⟩; subst hw'))
      go_ret
      rw [H.out]
      exact ⟨rfl, HB0.out⟩
    | true =>
      have hd0 : 1 ≤ d := (btw_yes q2).1
      have hd1 : d ≤ 14 := (btw_yes q2).2
      cases q3 : btw p 1 (14 - d) with
      | false =>
        have H : Hid (sealB n x d p m (decide (Rc.Labs l)) = false) := Lib.hid (by unfold sealB; rw [q1, q2, q3]; rfl)
        go_enter Tryd.func19, Tryd.ntmps19
        go_wp2_with (first
          | (go_at_call 38; refine (between_any _ _ _ _).mono ?_; rintro e w' ⟨rfl, hw'⟩; subst hw')
          | (go_at_call 44; refine HL.out.mono ?_; rintro e w' ⟨rfl, hw'⟩; subst hw'))
        go_ret
        rw [H.out]
        exact ⟨rfl, HB0.out⟩
      | true =>
        have hp0 : 1 ≤ p := (btw_yes q3).1
        have hp1 : p ≤ 14 - d := (btw_yes q3).2
        cases q4 : btw x 0 (d + p - 1) with
        | false =>
          have H : Hid (sealB n x d p m (decide (Rc.Labs l)) = false) := Lib.hid (by unfold sealB; rw [q1, q2, q3, q4]; rfl)
          go_enter Tryd.func19, Tryd.ntmps19
          go_wp2_with (first
            | (go_at_call 38; refine (between_any _ _ _ _).mono ?_; rintro e w' ⟨rfl, hw'⟩; subst hw')
            | (go_at_call 44; refine HL.out.mono ?_; rintro e w' ⟨rfl, hw'⟩; subst hw'))
          go_ret
          rw [H.out]
          exact ⟨rfl, HB0.out⟩
        | true =>
          cases q5 : ((m : Int) == d + p) with
          | false =>
            have H : Hid (sealB n x d p m (decide (Rc.Labs l)) = false) := Lib.hid (by unfold sealB; rw [q1, q2, q3, q4, q5]; rfl)
            go_enter Tryd.func19, Tryd.ntmps19
            go_wp2_with (first
              | (go_at_call 38; refine (between_any _ _ _ _).mono ?_; rintro e w' ⟨rfl, hw'⟩; subst hw')
              | (go_at_call 44; refine HL.out.mono ?_; rintro e w' ⟨rfl, hw'⟩; subst hw'))
            go_ret
            rw [H.out]
            exact ⟨rfl, HB0.out⟩
          | true =>
            have H : Hid (sealB n x d p m (decide (Rc.Labs l)) = decide (Rc.Labs l)) := Lib.hid (by unfold sealB; rw [q1, q2, q3, q4, q5]; rfl)
            go_enter Tryd.func19, Tryd.ntmps19
            go_wp2_with (first
              | (go_at_call 38; refine (between_any _ _ _ _).mono ?_; rintro e w' ⟨rfl, hw'⟩; subst hw')
              | (go_at_call 44; refine HL.out.mono ?_; rintro e w' ⟨rfl, hw'⟩; subst hw'))
            go_ret
            rw [H.out]
            exact ⟨rfl, HB0.out⟩
theorem rightSeal_any (n x d p : Int) (A : Option Addr) (l : List Int) (m C : Nat) (G : Nat → Prop) (w : World) (hm : m = l.length) (hC : m ≤ C) (hCm : C ≤ maxLen) (hr : RdZ w A l G) :
    Calls Tryd.prog 19 #[.agg #[.int .i64 n, .int .i64 x, .int .i64 d, .int .i64 p, .slice A m C]] w (AnsB (decide (Rc.SOk ⟨n, x, d, p, l⟩)) w) := by
  have h := rightSeal_way n x d p A l m C G w hm hC hCm hr
  rw [hm, sealB_ok, ← hm] at h
  exact h
end Go.Proofs.YtdllkbjbklhigaaDoor
