/- What package path answers: Right, Parts, Within. -/
import Derived.Test.YtdllkbjbklhigaaDoorPtPath
namespace Go.Proofs.YtdllkbjbklhigaaDoor
open Go.RowKit
open Pt (Tx)

theorem cutW_short : ∀ (l p : Tx), ∀ x ∈ Pt.cutW p l, x.length ≤ p.length + l.length
  | [], p, x, h => by simp only [Pt.cutW, List.mem_singleton] at h; rw [h]; simp
  | c :: l, p, x, h => by
    unfold Pt.cutW at h
    by_cases e : c = 47
    · rw [if_pos e, List.mem_cons] at h
      rcases h with rfl | h
      · simp
      · have := cutW_short l [] x h
        simp at this ⊢; omega
    · rw [if_neg e] at h
      have := cutW_short l _ x h
      simp at this ⊢; omega
theorem cut_short {s : Tx} {j : Nat} (h : j < (Pt.cut s).length) : ((Pt.cut s)[j]).length ≤ s.length := by
  have := cutW_short s [] _ (List.getElem_mem h)
  simpa using this
theorem cutW_few : ∀ (l p : Tx), (Pt.cutW p l).length ≤ l.length + 1
  | [], p => by simp [Pt.cutW]
  | c :: l, p => by
    unfold Pt.cutW
    split
    · have := cutW_few l []; simp; omega
    · have := cutW_few l (p ++ [c]); simp; omega
theorem cut_few (s : Tx) : (Pt.cut s).length ≤ s.length + 1 := cutW_few s []
set_option maxHeartbeats 1000000 in
theorem right_any (s : Tx) (w : World) (hl : s.length ≤ maxLen) (hk : Kept w) :
    Calls Tryd.prog 37 #[.string (tx s)] w fun e w' => e = .returned (.bool (Pt.right s)) ∧ Below w.heap.size w w' := by
  unfold maxLen at hl
  have HK := Lib.hid hk
  clear hk
  have es := tx_size s
  by_cases h1 : s.length < 1
  · have H : Hid (Pt.right s = false) := Lib.hid (by unfold Pt.right; simp [show ¬ 1 ≤ s.length by omega])
    go_enter Tryd.func37, Tryd.ntmps37
    go_wp2
    go_ret
    exact ⟨retB H.out.symm, Below.refl _ _⟩
  by_cases h2 : 24 < s.length
  · have H : Hid (Pt.right s = false) := Lib.hid (by unfold Pt.right; simp [show ¬ s.length ≤ 24 by omega])
    have q1 : decide (s.length < 1) = false := decide_eq_false h1
    go_enter Tryd.func37, Tryd.ntmps37
    go_wp2
    go_ret
    exact ⟨retB H.out.symm, Below.refl _ _⟩
  have HR : Hid (Pt.right s = (Pt.cut s).all Pt.part) := Lib.hid (by unfold Pt.right; simp [show 1 ≤ s.length by omega, show s.length ≤ 24 by omega])
  have HS : Hid (∀ j (h : j < (Pt.cut s).length), ((Pt.cut s)[j]).length ≤ 24) := Lib.hid (fun j h => by have := cut_short h; omega)
  have hn : (Pt.cut s).length ≤ 25 := by have := cut_few s; omega
  go_enter Tryd.func37, Tryd.ntmps37
  go_wp2_with fail
  refine (split_any s _ HK.out (by omega)).mono ?_
  rintro e w1 ⟨A, rfl, hr, hb⟩
  have HX := Lib.hid hr
  have HB := Lib.hid hb
  clear hr hb es
  go_wp2
  go_loop [16] (fun vi => ∃ k : Nat, k ≤ (Pt.cut s).length ∧ vi = .int .i64 (k : Int) ∧ Hid (((Pt.cut s).take k).all Pt.part = true)) (fun vi => (Pt.cut s).length - (intOf vi).toNat)
  case atStart => exact ⟨0, by omega, rfl, Lib.hid rfl⟩
  case round =>
    obtain ⟨k, hk, rfl, HKK⟩ := hrel
    by_cases hlt : k < (Pt.cut s).length
    · obtain ⟨b, off, rfl, hc⟩ := HX.out.at hlt
      have HN : Hid (((Pt.cut s).take (k + 1)).all Pt.part = Pt.part (Pt.cut s)[k]) := Lib.hid (by rw [List.take_succ_eq_append_getElem hlt, List.all_append, HKK.out]; simp)
      have hsh := HS.out k hlt
      go_wp2_with fail
      refine (rightPart_any _ _ (by omega)).mono ?_
      rintro e w' ⟨rfl, rfl⟩
      cases hok : Pt.part (Pt.cut s)[k] with
      | true =>
        go_wp2
        go_round
        case rel => exact ⟨k + 1, by omega, by go_num, Lib.hid (by rw [HN.out, hok])⟩
        case measure => simp [intOf]; omega
      | false =>
        have H : Hid (Pt.right s = false) := Lib.hid (by
          rw [HR.out, ← List.take_append_drop (k + 1) (Pt.cut s), List.all_append, HN.out, hok]; rfl)
        go_wp2
        go_ret
        exact ⟨retB H.out.symm, HB.out⟩
    · have H : Hid (Pt.right s = true) := Lib.hid (by rw [HR.out]; have := HKK.out; rwa [List.take_of_length_le (by omega)] at this)
      go_wp2
      go_ret
      exact ⟨retB H.out.symm, HB.out⟩
end Go.Proofs.YtdllkbjbklhigaaDoor
