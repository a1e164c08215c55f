/- What the document's own RightSeal answers, of numbers that may be: it looks through the labels. -/
import Derived.Test.YtdllkbjbklhigaaDoorScWords
namespace Go.Proofs.YtdllkbjbklhigaaDoor
open Go.RowKit
open Pt (Tx)

/-- what lies where the call laid it, and all that was there is as it was -/
def Sits (w : World) (o : Obj) (x : World) : Prop := x.heap[w.heap.size]? = some o ∧ Below w.heap.size w x
theorem mem_take_iff {l : List Int} {k : Nat} (h : k < l.length) (x : Int) : x ∈ l.take (k + 1) ↔ x ∈ l.take k ∨ x = l[k] := by
  rw [List.take_succ_eq_append_getElem h, List.mem_append, List.mem_singleton]
theorem dup_bad {l : List Int} {i k : Nat} (hi : i < l.length) (hk : k < i) (h : l[k]'(by omega) = l[i]) : ¬ Rc.Labs l :=
  Rc.labs_step_no hi fun h' => h'.2 (by
    rw [← h]
    have hk' : k < (l.take i).length := by rw [List.length_take]; omega
    have := List.getElem_mem hk'
    rwa [List.getElem_take] at this)
theorem labs_row {l : List Int} {i : Nat} (hi : i < l.length) (hl : Rc.Labs (l.take i)) (h1 : 1 ≤ l[i]) (h2 : l[i] ≤ 2147483647) (h : l[i] ∉ l.take i) : Rc.Labs (l.take (i + 1)) := (Rc.labs_take hi).2 ⟨hl, ⟨h1, h2⟩, h⟩
set_option maxRecDepth 100000 in
set_option maxHeartbeats 8000000 in
theorem refSeal_yes (n x d p : Int) (A : Option Addr) (l : List Int) (m C : Nat) (G : Nat → Prop) (w : World) (hm : m = l.length) (hCm : m ≤ maxLen) (hr : RdZ w A l G) (hs : Rc.SNums ⟨n, x, d, p, l⟩) :
    Calls Tryd.prog 15 #[.agg #[.int .i64 n, .int .i64 x, .int .i64 d, .int .i64 p, .slice A m C]] w (AnsB (decide (Rc.SOk ⟨n, x, d, p, l⟩)) w) := by
  have HB0 : Hid (Below w.heap.size w (w.alloc (sealObj n x d p A m C))) := Lib.hid ((Below.refl _ _).alloc (Nat.le_refl _) _)
  have HU0 : Hid ((w.alloc (sealObj n x d p A m C)).heap[w.heap.size]? = some (sealObj n x d p A m C)) := Lib.hid (Go.Deep.blk_alloc_new _ _)
  have hmb : m ≤ 9223372036854775807 := by unfold maxLen at hCm; omega
  have HM := Lib.hid hm
  have HD : Hid (decide (Rc.SOk ⟨n, x, d, p, l⟩) = decide (Rc.Labs l)) := Lib.hid (by
    rw [Bool.eq_iff_iff, decide_eq_true_eq, decide_eq_true_eq]
    exact ⟨fun h => h.2, fun h => ⟨hs, h⟩⟩)
  obtain ⟨⟨k1, k2⟩, k3, k4, k5, k6, k7, k8⟩ := hs
  simp only at k1 k2 k3 k4 k5 k6 k7 k8
  rw [← hm] at k6 k8
  have q1 : decide (n < 1) = false := decide_eq_false (by omega)
  have q2 : decide (1073741824 < n) = false := decide_eq_false (by omega)
  have q3 : decide (d < 1) = false := decide_eq_false (by omega)
  have q4 : decide (p < 1) = false := decide_eq_false (by omega)
  have q5 : decide (14 < d) = false := decide_eq_false (by omega)
  have q6 : decide (14 < p) = false := decide_eq_false (by omega)
  have q7 : decide (14 < d + p) = false := decide_eq_false (by omega)
  have q8 : ((m : Int) == d + p) = true := beq_iff_eq.2 k6
  have q8b : ((m : Int) != d + p) = false := by rw [bne, q8]; rfl
  have q9 : decide (x < 0) = false := decide_eq_false (by omega)
  have q10 : decide ((m : Int) ≤ x) = false := decide_eq_false (by omega)
  have hd0 : 1 ≤ d := k3
  have hd1 : d ≤ 14 := by omega
  have hp0 : 1 ≤ p := k4
  have hp1 : p ≤ 14 := by omega
  have hm14 : m ≤ 14 := by omega
  have HR := Lib.hid hr
  have HS0 : Hid (Sits w (sealObj n x d p A m C) (w.alloc (sealObj n x d p A m C))) := Lib.hid ⟨HU0.out, HB0.out⟩
  clear k1 k2 k3 k4 k5 k6 k7 k8 hm hr hCm
  obtain ⟨a0, a1, a2, a3, a4⟩ := seal5 HU0.out
  unfold sealObj at a0 a1 a2 a3 a4
  go_enter Tryd.func15, Tryd.ntmps15
  go_wp2
  clear q1 q2 q3 q4 q5 q6 q7 q8 q8b q9 q10 hd0 hd1 hp0 hp1 a0 a1 a2 a3 a4
  go_loopw [3] (fun vi wr => ∃ k : Nat, k ≤ m ∧ vi = .int .i64 (k : Int) ∧ Hid (Rc.Labs (l.take k)) ∧ Hid (Sits w (sealObj n x d p A m C) wr)) (fun vi _ => m - (intOf vi).toNat)
  case atStart => exact ⟨0, Nat.zero_le _, rfl, Lib.hid Rc.Labs.nil, HS0⟩
  case round =>
    obtain ⟨k, hk, rfl, HK, HSI⟩ := hrel
    obtain ⟨wo, rfl⟩ : ∃ x, x = wr := ⟨wr, rfl⟩
    obtain ⟨a0, a1, a2, a3, a4⟩ := seal5 HSI.out.1
    by_cases hlt : k < m
    · have hlt' : k < l.length := by rw [← HM.out]; exact hlt
      obtain ⟨b, off, rfl, -, hc⟩ := (HR.out.old HSI.out.2).at_ hlt'
      have HZ : Hid (¬ ((1 ≤ l[k] ∧ l[k] ≤ 2147483647) ∧ l[k] ∉ l.take k) → decide (Rc.SOk ⟨n, x, d, p, l⟩) = false) := Lib.hid fun h => by rw [HD.out]; exact decide_eq_false (Rc.labs_step_no hlt' h)
      have HRW := Lib.hid (fun h1 h2 h => labs_row hlt' HK.out h1 h2 h)
      obtain ⟨y, hy⟩ : ∃ y, y = l[k] := ⟨_, rfl⟩
      rw [← hy] at hc HZ HRW
      have HY := Lib.hid hy
      clear hy
      by_cases c1 : y < 1
      · have q1 : decide (y < 1) = true := decide_eq_true c1
        have HF := Lib.hid (HZ.out fun h => by omega)
        clear c1
        go_wp2
        all_goals go_ret
        all_goals rw [HF.out]
        all_goals exact ⟨rfl, HSI.out.2⟩
      have q1 : decide (y < 1) = false := decide_eq_false c1
      by_cases c2 : 2147483647 < y
      · have q2 : decide (2147483647 < y) = true := decide_eq_true c2
        have HF := Lib.hid (HZ.out fun h => by omega)
        clear c1 c2
        go_wp2
        all_goals go_ret
        all_goals rw [HF.out]
        all_goals exact ⟨rfl, HSI.out.2⟩
      have q2 : decide (2147483647 < y) = false := decide_eq_false c2
      have HRW2 : Hid (y ∉ l.take k → Rc.Labs (l.take (k + 1))) := Lib.hid (HRW.out (by omega) (by omega))
      clear c1 c2
      go_wp2
      clear q1 q2 a0 a1 a2 a3 a4 hc
      go_loopw [4] (fun vj wr => ∃ j : Nat, j ≤ k ∧ vj = .int .i64 (j : Int) ∧ Hid (y ∉ l.take j) ∧ Hid (Sits w (sealObj n x d p (some ⟨b, off, none⟩) m C) wr)) (fun vj _ => k - (intOf vj).toNat)
      case atStart => exact ⟨0, Nat.zero_le _, rfl, Lib.hid (by simp), HSI⟩
      case round =>
        obtain ⟨j, hj, rfl, HJ, HSJ⟩ := hrel
        obtain ⟨a0, a1, a2, a3, a4⟩ := seal5 HSJ.out.1
        by_cases hjk : j < k
        · have hjl : j < l.length := by omega
          have hrr := HR.out.old HSJ.out.2
          obtain ⟨b1, off1, e', -, hcj⟩ := hrr.at_ hjl
          obtain ⟨b2, off2, e'', -, hck⟩ := hrr.at_ hlt'
          injection e' with e'
          injection e' with e1 e2
          subst e1 e2
          injection e'' with e''
          injection e'' with e1 e2
          subst e1 e2
          have HS := Lib.hid (mem_take_iff hjl y)
          have HDU : Hid (l[j] = y → decide (Rc.SOk ⟨n, x, d, p, l⟩) = false) := Lib.hid fun h => by rw [HD.out]; exact decide_eq_false (dup_bad hlt' hjk (by rw [h, HY.out]))
          rw [← HY.out] at hck
          obtain ⟨z, hz⟩ : ∃ z, z = l[j] := ⟨_, rfl⟩
          rw [← hz] at hcj HS HDU
          clear hz hrr
          have hjm : j < m := by omega
          have HSD : Hid (Sits w (sealObj n x d p (some ⟨b, off, none⟩) m C) wr.drew) := Lib.hid ⟨HSJ.out.1, HSJ.out.2.drew⟩
          by_cases e : z = y
          · have q : (z == y) = true := beq_iff_eq.2 e
            have HF := Lib.hid (HDU.out e)
            clear e
            go_wp2_with fail
            go_region
            go_wp2
            go_ret
            rw [HF.out]
            exact ⟨rfl, HSD.out.2⟩
          · have q : (z == y) = false := beq_eq_false_iff_ne.2 e
            have HX : Hid (y ∉ l.take (j + 1)) := Lib.hid fun h => (HS.out.1 h).elim HJ.out (fun h => e h.symm)
            clear e
            go_wp2_with fail
            go_region
            go_wp2
            go_roundw
            case rel => exact ⟨j + 1, by omega, by go_num, HX, HSD⟩
            case measure => simp [intOf]; omega
        · have HX : Hid (Rc.Labs (l.take (k + 1))) := Lib.hid (HRW2.out (by have := HJ.out; rwa [show j = k by omega] at this))
          go_wp2
          go_roundw
          case rel => exact ⟨k + 1, by omega, by go_num, HX, HSJ⟩
          case measure => simp [intOf]; omega
    · have HF : Hid (decide (Rc.SOk ⟨n, x, d, p, l⟩) = true) := Lib.hid (by rw [HD.out]; exact decide_eq_true (by have := HK.out; rwa [List.take_of_length_le (by rw [← HM.out]; omega)] at this))
      go_wp2
      go_ret
      rw [HF.out]
      exact ⟨rfl, HSI.out.2⟩
end Go.Proofs.YtdllkbjbklhigaaDoor
