/- What package path answers. -/
import Derived.Test.YtdllkbjbklhigaaDoorPtWords
namespace Go.Proofs.YtdllkbjbklhigaaDoor
open Go.RowKit
open Pt (Tx)

def okI (x : Int) : Bool := (decide (97 ≤ x) && decide (x ≤ 122)) || (decide (48 ≤ x) && decide (x ≤ 57)) || (x == 46 || x == 45 || x == 95)
theorem okI_ok (c : UInt8) : okI (c.toNat : Int) = Pt.ok c := by
  rw [Bool.eq_iff_iff]
  simp only [okI, Pt.ok, Bool.or_eq_true, Bool.and_eq_true, decide_eq_true_eq, beq_iff_eq]
  omega
theorem retB {a b : Bool} (h : a = b) : Ending.returned (Value.bool a) = Ending.returned (Value.bool b) := by rw [h]
theorem okI_yes {x : Int} (h : (97 ≤ x ∧ x ≤ 122) ∨ (48 ≤ x ∧ x ≤ 57) ∨ x = 46 ∨ x = 45 ∨ x = 95) : true = okI x := by
  symm
  simp only [okI, Bool.or_eq_true, Bool.and_eq_true, decide_eq_true_eq, beq_iff_eq]
  omega
theorem okI_three {x : Int} (h : ¬ (97 ≤ x ∧ x ≤ 122) ∧ ¬ (48 ≤ x ∧ x ≤ 57)) : (x == 46 || x == 45 || x == 95) = okI x := by
  rw [Bool.eq_iff_iff]
  simp only [okI, Bool.or_eq_true, Bool.and_eq_true, decide_eq_true_eq, beq_iff_eq]
  omega
theorem rightByte_in (x : Int) (w : World) :
    Calls Tryd.prog 54 #[.int .u8 x] w fun e w' => e = .returned (.bool (okI x)) ∧ w = w' := by
  by_cases a1 : 97 ≤ x <;> by_cases a2 : x ≤ 122 <;> by_cases a3 : 48 ≤ x <;> by_cases a4 : x ≤ 57 <;> (first | (exfalso; omega) | skip)
  all_goals
    go_enter Tryd.func54, Tryd.ntmps54
    go_wp2
    all_goals go_ret
    all_goals first | exact ⟨retB (okI_yes (by omega)), rfl⟩ | exact ⟨retB (okI_three (by omega)), rfl⟩
theorem rightByte_any (c : UInt8) (w : World) :
    Calls Tryd.prog 54 #[.int .u8 (c.toNat : Int)] w fun e w' => e = .returned (.bool (Pt.ok c)) ∧ w = w' := by
  rw [← okI_ok]; exact rightByte_in _ w
theorem part_false {p : Tx} (h : p = [] ∨ p = [46] ∨ p = [46, 46] ∨ p.all Pt.ok = false) : Pt.part p = false := by
  unfold Pt.part
  rcases h with rfl | rfl | rfl | h
  · decide
  · decide
  · decide
  · rw [h]; simp
theorem part_true {p : Tx} (h1 : p ≠ []) (h2 : p ≠ [46]) (h3 : p ≠ [46, 46]) (h : p.all Pt.ok = true) : Pt.part p = true := by
  unfold Pt.part
  rw [h]
  simp [h1, h2, h3]
theorem rightPart_any (p : Tx) (w : World) (hl : p.length ≤ 1000000) :
    Calls Tryd.prog 51 #[.string (tx p)] w fun e w' => e = .returned (.bool (Pt.part p)) ∧ w = w' := by
  have el := tx_toList p
  have es := tx_size p
  by_cases h1 : p = []
  · have H : Hid (Pt.part p = false) := Lib.hid (part_false (.inl h1))
    have q1 : p.isEmpty = true := by rw [h1]; rfl
    clear h1
    go_enter Tryd.func51, Tryd.ntmps51
    go_wp2
    go_ret
    exact ⟨retB H.out.symm, rfl⟩
  have q1 : p.isEmpty = false := by simpa using h1
  by_cases h2 : p = [46]
  · have H : Hid (Pt.part p = false) := Lib.hid (part_false (.inr (.inl h2)))
    have q2 : (p == [46]) = true := by rw [h2]; rfl
    clear h1 h2
    go_enter Tryd.func51, Tryd.ntmps51
    go_wp2
    go_ret
    exact ⟨retB H.out.symm, rfl⟩
  have q2 : (p == [46]) = false := by simpa using h2
  by_cases h3 : p = [46, 46]
  · have H : Hid (Pt.part p = false) := Lib.hid (part_false (.inr (.inr (.inl h3))))
    have q3 : (p == [46, 46]) = true := by rw [h3]; rfl
    clear h1 h2 h3
    go_enter Tryd.func51, Tryd.ntmps51
    go_wp2
    go_ret
    exact ⟨retB H.out.symm, rfl⟩
  have q3 : (p == [46, 46]) = false := by simpa using h3
  have HT : Hid (p.all Pt.ok = true → Pt.part p = true) := Lib.hid (part_true h1 h2 h3)
  clear h1 h2 h3
  go_enter Tryd.func51, Tryd.ntmps51
  go_wp2
  clear q1 q2 q3
  go_loop [16] (fun vi => ∃ k : Nat, k ≤ p.length ∧ vi = .int .i64 (k : Int) ∧ Hid ((p.take k).all Pt.ok = true)) (fun vi => p.length - (intOf vi).toNat)
  case atStart => exact ⟨0, by omega, rfl, Lib.hid rfl⟩
  case round =>
    obtain ⟨k, hk, rfl, HK⟩ := hrel
    by_cases hlt : k < p.length
    · have hg : ∀ h : k < (tx p).size, (tx p)[k]'h = p[k] := fun h => tx_get p k h hlt
      have HN : Hid ((p.take (k + 1)).all Pt.ok = Pt.ok p[k]) := Lib.hid (by rw [List.take_succ_eq_append_getElem hlt, List.all_append, HK.out]; simp)
      go_wp2_with fail
      refine (rightByte_any _ _).mono ?_
      rintro e w' ⟨rfl, rfl⟩
      cases hok : Pt.ok p[k] with
      | true =>
        go_wp2
        go_round
        case rel => exact ⟨k + 1, by omega, by go_num, Lib.hid (by rw [HN.out, hok])⟩
        case measure => simp [intOf]; omega
      | false =>
        have H : Hid (Pt.part p = false) := Lib.hid (part_false (.inr (.inr (.inr (by
          rw [← List.take_append_drop (k + 1) p, List.all_append, HN.out, hok]; rfl)))))
        go_wp2
        go_ret
        exact ⟨retB H.out.symm, rfl⟩
    · have H : Hid (Pt.part p = true) := Lib.hid (HT.out (by have := HK.out; rwa [List.take_of_length_le (by omega)] at this))
      go_wp2
      go_ret
      exact ⟨retB H.out.symm, rfl⟩
end Go.Proofs.YtdllkbjbklhigaaDoor
