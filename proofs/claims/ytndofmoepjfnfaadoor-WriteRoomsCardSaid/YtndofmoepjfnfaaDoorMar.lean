/- A slice of strings that reads as texts. No function of the program. Paths in memory: which bytes may stand, and how many parts a text has (parted from PtWords, PtPath, PtRight: no function of package path). Texts in memory: a string is a list of bytes; a slice of strings that reads as a list of texts. No function of the program. What package path answers. What package path answers: Right, Parts, Within. -/
import Derived.Test.YtndofmoepjfnfaaDoorMac
import Derived.Deep.AppendLies
import Derived.Below
import Derived.Test.YtndofmoepjfnfaaDoorChecked
import Derived.Laws.OwnMore
import Derived.Laws.Concat
import Derived.Laws.Strings2
import Derived.Laws.NewBlocks
import Derived.WalkKit
import Derived.WalkSpells
import Derived.WalkLawsBesides
import Derived.Lib.Hide
import Derived.Test.YtndofmoepjfnfaaDoorShelf
namespace Go.Proofs.YtndofmoepjfnfaaDoor
open Go.RowKit
open Pt (Tx)

theorem retB {a b : Bool} (h : a = b) : Ending.returned (Value.bool a) = Ending.returned (Value.bool b) := by rw [h]
/-- the cells of texts -/
def cellsT (ps : List Tx) : List Value := ps.map fun p => .string (tx p)
theorem cellsT_len (ps : List Tx) : (cellsT ps).length = ps.length := by simp [cellsT]
theorem cellsT_get {ps : List Tx} {j : Nat} {p : Tx} (h : ps[j]? = some p) : (cellsT ps)[j]? = some (.string (tx p)) := by simp [cellsT, h]
/-- a slice of strings that reads as texts -/
def TxR (w : World) (A : Option Addr) (ps : List Tx) : Prop := 0 < ps.length → ∃ b off, A = some ⟨b, off, none⟩ ∧ ∀ j p, ps[j]? = some p → w.cell? ⟨b, off + j, none⟩ = some (.string (tx p))
theorem TxR.empty (w : World) (A : Option Addr) : TxR w A [] := fun h => absurd h (by simp)
theorem TxR.old {w w' : World} {A : Option Addr} {ps : List Tx} (h : TxR w A ps) (hb : Below w.heap.size w w') : TxR w' A ps := fun h0 => by
  obtain ⟨b, off, e, hc⟩ := h h0
  refine ⟨b, off, e, fun j p hp => ?_⟩
  have := hc j p hp
  rw [hb.cell (World.block_lt_of_cell? _ _ this)]; exact this
theorem TxR.at {w : World} {A : Option Addr} {ps : List Tx} (h : TxR w A ps) {j : Nat} (hj : j < ps.length) : ∃ b off, A = some ⟨b, off, none⟩ ∧ w.cell? ⟨b, off + j, none⟩ = some (.string (tx ps[j])) := by
  obtain ⟨b, off, e, hc⟩ := h (by omega)
  exact ⟨b, off, e, hc j _ (List.getElem?_eq_getElem hj)⟩
/-- texts made by append -/
theorem TxR.of_owns {w : World} {B : Nat} {v : Value} {n : Nat} {ps : List Tx} (h : w.ownsRow B 9 1 v n (cellsT ps)) : ∃ A c, v = .slice A ps.length c ∧ TxR w A ps := by
  have hn : n = ps.length := by have := h.1; rw [cellsT_len] at this; omega
  subst hn
  rcases Nat.eq_zero_or_pos ps.length with h0 | h0
  · rcases h.2 with ⟨rfl, _⟩ | ⟨g, cap, cur, rfl, _⟩
    · exact ⟨none, 0, by rw [h0], fun h => absurd h (by omega)⟩
    · exact ⟨_, cap, rfl, fun h => absurd h (by omega)⟩
  · obtain ⟨g, cap, hv, _, _⟩ := h.form h0
    refine ⟨some ⟨g, 0, none⟩, cap, hv, fun _ => ⟨g, 0, rfl, fun j p hp => ?_⟩⟩
    have := h.cells (g := g) (by rw [hv]; rfl) j _ (cellsT_get hp)
    have e : (⟨g, 0, none⟩ : Addr).add j = ⟨g, j, none⟩ := by unfold Addr.add; split <;> simp_all
    rw [e] at this
    rw [Nat.zero_add]; exact this
end Go.Proofs.YtndofmoepjfnfaaDoor
namespace Go.Proofs.YtndofmoepjfnfaaDoor
open Go.RowKit
open Pt (Tx)

/-- texts, in new memory or where they were -/
def TxAns (ps : List Tx) (w : World) (e : Ending) (w' : World) : Prop := ∃ A c, e = .returned (.slice A ps.length c) ∧ TxR w' A ps ∧ Below w.heap.size w w'
theorem TxAns.empty {w w' : World} (h : Below w.heap.size w w') : TxAns [] w (.returned (.slice none 0 0)) w' := ⟨none, 0, rfl, TxR.empty _ _, h⟩
def okI (x : Int) : Bool := (decide (97 ≤ x) && decide (x ≤ 122)) || (decide (48 ≤ x) && decide (x ≤ 57)) || (x == 46 || x == 45 || x == 95)
theorem okI_ok (c : UInt8) : okI (c.toNat : Int) = Pt.ok c := by
  rw [Bool.eq_iff_iff]
  simp only [okI, Pt.ok, Bool.or_eq_true, Bool.and_eq_true, decide_eq_true_eq, beq_iff_eq]
  omega
theorem okI_yes {x : Int} (h : (97 ≤ x ∧ x ≤ 122) ∨ (48 ≤ x ∧ x ≤ 57) ∨ x = 46 ∨ x = 45 ∨ x = 95) : true = okI x := by
  symm
  simp only [okI, Bool.or_eq_true, Bool.and_eq_true, decide_eq_true_eq, beq_iff_eq]
  omega
theorem okI_three {x : Int} (h : ¬ (97 ≤ x ∧ x ≤ 122) ∧ ¬ (48 ≤ x ∧ x ≤ 57)) : (x == 46 || x == 45 || x == 95) = okI x := by
  rw [Bool.eq_iff_iff]
  simp only [okI, Bool.or_eq_true, Bool.and_eq_true, decide_eq_true_eq, beq_iff_eq]
  omega
theorem part_false {p : Tx} (h : p = [] ∨ p = [46] ∨ p = [46, 46] ∨ p.all Pt.ok = false) : Pt.part p = false := by
  unfold Pt.part
  rcases h with rfl | rfl | rfl | h
  · decide
  · decide
  · decide
  · rw [h]; simp
theorem part_true {p : Tx} (h1 : p ≠ []) (h2 : p ≠ [46]) (h3 : p ≠ [46, 46]) (h : p.all Pt.ok = true) : Pt.part p = true := by
  unfold Pt.part
  rw [h]
  simp [h1, h2, h3]
theorem cutW_short : ∀ (l p : Tx), ∀ x ∈ Pt.cutW p l, x.length ≤ p.length + l.length
  | [], p, x, h => by simp only [Pt.cutW, List.mem_singleton] at h; rw [h]; simp
  | c :: l, p, x, h => by
    unfold Pt.cutW at h
    by_cases e : c = 47
    · rw [if_pos e, List.mem_cons] at h
      rcases h with rfl | h
      · simp
      · have := cutW_short l [] x h
        simp at this ⊢; omega
    · rw [if_neg e] at h
      have := cutW_short l _ x h
      simp at this ⊢; omega
theorem cut_short {s : Tx} {j : Nat} (h : j < (Pt.cut s).length) : ((Pt.cut s)[j]).length ≤ s.length := by
  have := cutW_short s [] _ (List.getElem_mem h)
  simpa using this
theorem cutW_few : ∀ (l p : Tx), (Pt.cutW p l).length ≤ l.length + 1
  | [], p => by simp [Pt.cutW]
  | c :: l, p => by
    unfold Pt.cutW
    split
    · have := cutW_few l []; simp; omega
    · have := cutW_few l (p ++ [c]); simp; omega
theorem cut_few (s : Tx) : (Pt.cut s).length ≤ s.length + 1 := cutW_few s []
end Go.Proofs.YtndofmoepjfnfaaDoor
namespace Go.Proofs.YtndofmoepjfnfaaDoor
open Go.RowKit
open Pt (Tx)

/-- what strings.Split lays -/
theorem split_pieces (s : Tx) : (Lib.splitB ⟨#[47]⟩ 0 (Lib.countB (tx s) ⟨#[47]⟩) (tx s)).map Value.string = cellsT (Pt.cut s) := by
  have h := Lib.splitB_data ⟨#[47]⟩ 0 (Lib.countB (tx s) ⟨#[47]⟩) (tx s)
  have e : Lib.countB (tx s) ⟨#[47]⟩ = Lib.count s [47] := by unfold Lib.countB; rw [tx_data]
  rw [e] at h ⊢
  rw [tx_data, Pt.split_cut] at h
  unfold cellsT
  rw [← h, List.map_map]
  exact List.map_congr_left fun x _ => by show Value.string x = Value.string (tx x.data.toList); rw [tx_eta]
theorem split_number (s : Tx) : Lib.countB (tx s) ⟨#[47]⟩ + 1 = (Pt.cut s).length := by
  have h := congrArg List.length (split_pieces s)
  rw [List.length_map, cellsT_len] at h
  rw [← h, Lib.splitB_all ⟨#[47]⟩ (by decide) 0 _ _ rfl]
/-- the variable that the library's search reads, whatever it holds -/
def Kept (w : World) : Prop := ∃ m : Int, w.cell? ⟨0, 0, none⟩ = some (.int .i64 m)
theorem kept_of {w : World} (h : w.ShapedOpen Tryd.prog) : Kept w := Tryd.laysM146.s1_3 w h
theorem Kept.old {w w' : World} (h : Kept w) (hb : Below w.heap.size w w') : Kept w' := by
  obtain ⟨m, hm⟩ := h
  exact ⟨m, by rw [hb.cell (World.block_lt_of_cell? _ _ hm)]; exact hm⟩
theorem split_any (s : Tx) (w : World) (hk : Kept w) (hs : s.length ≤ 1000000) :
    Calls Tryd.prog 75 #[.string (tx s), .string ⟨#[47]⟩] w fun e w' => ∃ A, e = .returned (.slice A (Pt.cut s).length (Pt.cut s).length) ∧ TxR w' A (Pt.cut s) ∧ Below w.heap.size w w' := by
  obtain ⟨m, hm⟩ := hk
  refine (Tryd.strings_Split (tx s) ⟨#[47]⟩ m w (by rw [tx_size]; omega) hm (by decide)).mono ?_
  rintro e w' ⟨rfl, rfl⟩
  rw [split_number, split_pieces]
  refine ⟨_, rfl, fun _ => ⟨_, 0, rfl, fun j p hp => ?_⟩, (Below.refl _ _).alloc (Nat.le_refl _) _⟩
  rw [Nat.zero_add, cell_of_row _ _ _ _ _ _ (heap_alloc_new w _)]
  simpa using cellsT_get hp
end Go.Proofs.YtndofmoepjfnfaaDoor
namespace Go.Proofs.YtndofmoepjfnfaaDoor
open Go.RowKit
open Pt (Tx)

theorem rightByte_in (x : Int) (w : World) :
    Calls Tryd.prog 82 #[.int .u8 x] w fun e w' => e = .returned (.bool (okI x)) ∧ w = w' := by
  by_cases a1 : 97 ≤ x <;> by_cases a2 : x ≤ 122 <;> by_cases a3 : 48 ≤ x <;> by_cases a4 : x ≤ 57 <;> (first | (exfalso; omega) | skip)
  all_goals
    go_enter Tryd.func82, Tryd.ntmps82
    go_wp2
    all_goals go_ret
    all_goals first | exact ⟨retB (okI_yes (by omega)), rfl⟩ | exact ⟨retB (okI_three (by omega)), rfl⟩
theorem rightByte_any (c : UInt8) (w : World) :
    Calls Tryd.prog 82 #[.int .u8 (c.toNat : Int)] w fun e w' => e = .returned (.bool (Pt.ok c)) ∧ w = w' := by
  rw [← okI_ok]; exact rightByte_in _ w
theorem rightPart_any (p : Tx) (w : World) (hl : p.length ≤ 1000000) :
    Calls Tryd.prog 76 #[.string (tx p)] w fun e w' => e = .returned (.bool (Pt.part p)) ∧ w = w' := by
  have el := tx_toList p
  have es := tx_size p
  by_cases h1 : p = []
  · have H : Hid (Pt.part p = false) := Lib.hid (part_false (.inl h1))
    have q1 : p.isEmpty = true := by rw [h1]; rfl
    clear h1
    go_enter Tryd.func76, Tryd.ntmps76
    go_wp2
    go_ret
    exact ⟨retB H.out.symm, rfl⟩
  have q1 : p.isEmpty = false := by simpa using h1
  by_cases h2 : p = [46]
  · have H : Hid (Pt.part p = false) := Lib.hid (part_false (.inr (.inl h2)))
    have q2 : (p == [46]) = true := by rw [h2]; rfl
    clear h1 h2
    go_enter Tryd.func76, Tryd.ntmps76
    go_wp2
    go_ret
    exact ⟨retB H.out.symm, rfl⟩
  have q2 : (p == [46]) = false := by simpa using h2
  by_cases h3 : p = [46, 46]
  · have H : Hid (Pt.part p = false) := Lib.hid (part_false (.inr (.inr (.inl h3))))
    have q3 : (p == [46, 46]) = true := by rw [h3]; rfl
    clear h1 h2 h3
    go_enter Tryd.func76, Tryd.ntmps76
    go_wp2
    go_ret
    exact ⟨retB H.out.symm, rfl⟩
  have q3 : (p == [46, 46]) = false := by simpa using h3
  have HT : Hid (p.all Pt.ok = true → Pt.part p = true) := Lib.hid (part_true h1 h2 h3)
  clear h1 h2 h3
  go_enter Tryd.func76, Tryd.ntmps76
  go_wp2
  clear q1 q2 q3
  go_loop [16] (fun vi => ∃ k : Nat, k ≤ p.length ∧ vi = .int .i64 (k : Int) ∧ Hid ((p.take k).all Pt.ok = true)) (fun vi => p.length - (intOf vi).toNat)
  case atStart => exact ⟨0, by omega, rfl, Lib.hid rfl⟩
  case round =>
    obtain ⟨k, hk, rfl, HK⟩ := hrel
    by_cases hlt : k < p.length
    · have hg : ∀ h : k < (tx p).size, (tx p)[k]'h = p[k] := fun h => tx_get p k h hlt
      have HN : Hid ((p.take (k + 1)).all Pt.ok = Pt.ok p[k]) := Lib.hid (by rw [List.take_succ_eq_append_getElem hlt, List.all_append, HK.out]; simp)
      go_wp2_with fail
      refine (rightByte_any _ _).mono ?_
      rintro e w' ⟨rfl, rfl⟩
      cases hok : Pt.ok p[k] with
      | true =>
        go_wp2
        go_round
        case rel => exact ⟨k + 1, by omega, by go_num, Lib.hid (by rw [HN.out, hok])⟩
        case measure => simp [intOf]; omega
      | false =>
        have H : Hid (Pt.part p = false) := Lib.hid (part_false (.inr (.inr (.inr (by
          rw [← List.take_append_drop (k + 1) p, List.all_append, HN.out, hok]; rfl)))))
        go_wp2
        go_ret
        exact ⟨retB H.out.symm, rfl⟩
    · have H : Hid (Pt.part p = true) := Lib.hid (HT.out (by have := HK.out; rwa [List.take_of_length_le (by omega)] at this))
      go_wp2
      go_ret
      exact ⟨retB H.out.symm, rfl⟩
end Go.Proofs.YtndofmoepjfnfaaDoor
namespace Go.Proofs.YtndofmoepjfnfaaDoor
open Go.RowKit
open Pt (Tx)

set_option maxHeartbeats 1000000 in
theorem right_any (s : Tx) (w : World) (hl : s.length ≤ maxLen) (hk : Kept w) :
    Calls Tryd.prog 65 #[.string (tx s)] w fun e w' => e = .returned (.bool (Pt.right s)) ∧ Below w.heap.size w w' := by
  unfold maxLen at hl
  have HK := Lib.hid hk
  clear hk
  have es := tx_size s
  by_cases h1 : s.length < 1
  · have H : Hid (Pt.right s = false) := Lib.hid (by unfold Pt.right; simp [show ¬ 1 ≤ s.length by omega])
    go_enter Tryd.func65, Tryd.ntmps65
    go_wp2
    go_ret
    exact ⟨retB H.out.symm, Below.refl _ _⟩
  by_cases h2 : 24 < s.length
  · have H : Hid (Pt.right s = false) := Lib.hid (by unfold Pt.right; simp [show ¬ s.length ≤ 24 by omega])
    have q1 : decide (s.length < 1) = false := decide_eq_false h1
    go_enter Tryd.func65, Tryd.ntmps65
    go_wp2
    go_ret
    exact ⟨retB H.out.symm, Below.refl _ _⟩
  have HR : Hid (Pt.right s = (Pt.cut s).all Pt.part) := Lib.hid (by unfold Pt.right; simp [show 1 ≤ s.length by omega, show s.length ≤ 24 by omega])
  have HS : Hid (∀ j (h : j < (Pt.cut s).length), ((Pt.cut s)[j]).length ≤ 24) := Lib.hid (fun j h => by have := cut_short h; omega)
  have hn : (Pt.cut s).length ≤ 25 := by have := cut_few s; omega
  go_enter Tryd.func65, Tryd.ntmps65
  go_wp2_with fail
  refine (split_any s _ HK.out (by omega)).mono ?_
  rintro e w1 ⟨A, rfl, hr, hb⟩
  have HX := Lib.hid hr
  have HB := Lib.hid hb
  clear hr hb es
  go_wp2
  go_loop [16] (fun vi => ∃ k : Nat, k ≤ (Pt.cut s).length ∧ vi = .int .i64 (k : Int) ∧ Hid (((Pt.cut s).take k).all Pt.part = true)) (fun vi => (Pt.cut s).length - (intOf vi).toNat)
  case atStart => exact ⟨0, by omega, rfl, Lib.hid rfl⟩
  case round =>
    obtain ⟨k, hk, rfl, HKK⟩ := hrel
    by_cases hlt : k < (Pt.cut s).length
    · obtain ⟨b, off, rfl, hc⟩ := HX.out.at hlt
      have HN : Hid (((Pt.cut s).take (k + 1)).all Pt.part = Pt.part (Pt.cut s)[k]) := Lib.hid (by rw [List.take_succ_eq_append_getElem hlt, List.all_append, HKK.out]; simp)
      have hsh := HS.out k hlt
      go_wp2_with fail
      refine (rightPart_any _ _ (by omega)).mono ?_
      rintro e w' ⟨rfl, rfl⟩
      cases hok : Pt.part (Pt.cut s)[k] with
      | true =>
        go_wp2
        go_round
        case rel => exact ⟨k + 1, by omega, by go_num, Lib.hid (by rw [HN.out, hok])⟩
        case measure => simp [intOf]; omega
      | false =>
        have H : Hid (Pt.right s = false) := Lib.hid (by
          rw [HR.out, ← List.take_append_drop (k + 1) (Pt.cut s), List.all_append, HN.out, hok]; rfl)
        go_wp2
        go_ret
        exact ⟨retB H.out.symm, HB.out⟩
    · have H : Hid (Pt.right s = true) := Lib.hid (by rw [HR.out]; have := HKK.out; rwa [List.take_of_length_le (by omega)] at this)
      go_wp2
      go_ret
      exact ⟨retB H.out.symm, HB.out⟩
end Go.Proofs.YtndofmoepjfnfaaDoor
