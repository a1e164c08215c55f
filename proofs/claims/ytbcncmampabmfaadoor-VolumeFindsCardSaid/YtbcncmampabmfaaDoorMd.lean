/- Texts in memory: a string is a list of bytes; a slice of strings that reads as a list of texts. No function of the program. What package path answers. What package path answers: Right, Parts, Within. What the document's own PathParts, RightPath answer. -/
import Derived.Test.YtbcncmampabmfaaDoorShelf
import Derived.Test.YtbcncmampabmfaaDoorMb
import Derived.Test.YtbcncmampabmfaaDoorChecked
import Derived.Laws.OwnMore
import Derived.Laws.Concat
import Derived.Laws.Strings2
import Derived.Laws.NewBlocks
import Derived.Deep.AppendLies
import Derived.WalkKit
import Derived.WalkSpells
import Derived.WalkLawsBesides
import Derived.Below
import Derived.Lib.Hide
import Derived.OwnWalk
import Derived.Maps.AppendAt
import Derived.Laws.AppendOwn
namespace Go.Proofs.YtbcncmampabmfaaDoor
open Go.RowKit
open Pt (Tx)

/-- what strings.Split lays -/
theorem split_pieces (s : Tx) : (Lib.splitB ⟨#[47]⟩ 0 (Lib.countB (tx s) ⟨#[47]⟩) (tx s)).map Value.string = cellsT (Pt.cut s) := by
  have h := Lib.splitB_data ⟨#[47]⟩ 0 (Lib.countB (tx s) ⟨#[47]⟩) (tx s)
  have e : Lib.countB (tx s) ⟨#[47]⟩ = Lib.count s [47] := by unfold Lib.countB; rw [tx_data]
  rw [e] at h ⊢
  rw [tx_data, Pt.split_cut] at h
  unfold cellsT
  rw [← h, List.map_map]
  exact List.map_congr_left fun x _ => by show Value.string x = Value.string (tx x.data.toList); rw [tx_eta]
theorem split_number (s : Tx) : Lib.countB (tx s) ⟨#[47]⟩ + 1 = (Pt.cut s).length := by
  have h := congrArg List.length (split_pieces s)
  rw [List.length_map, cellsT_len] at h
  rw [← h, Lib.splitB_all ⟨#[47]⟩ (by decide) 0 _ _ rfl]
/-- texts, in new memory or where they were -/
def TxAns (ps : List Tx) (w : World) (e : Ending) (w' : World) : Prop := ∃ A c, e = .returned (.slice A ps.length c) ∧ TxR w' A ps ∧ Below w.heap.size w w'
theorem TxAns.empty {w w' : World} (h : Below w.heap.size w w') : TxAns [] w (.returned (.slice none 0 0)) w' := ⟨none, 0, rfl, TxR.empty _ _, h⟩
/-- the variable that the library's search reads, whatever it holds -/
def Kept (w : World) : Prop := ∃ m : Int, w.cell? ⟨0, 0, none⟩ = some (.int .i64 m)
theorem kept_of {w : World} (h : w.ShapedOpen Tryd.prog) : Kept w := Tryd.laysM146.s1_3 w h
theorem Kept.old {w w' : World} (h : Kept w) (hb : Below w.heap.size w w') : Kept w' := by
  obtain ⟨m, hm⟩ := h
  exact ⟨m, by rw [hb.cell (World.block_lt_of_cell? _ _ hm)]; exact hm⟩
theorem split_any (s : Tx) (w : World) (hk : Kept w) (hs : s.length ≤ 1000000) :
    Calls Tryd.prog 50 #[.string (tx s), .string ⟨#[47]⟩] w fun e w' => ∃ A, e = .returned (.slice A (Pt.cut s).length (Pt.cut s).length) ∧ TxR w' A (Pt.cut s) ∧ Below w.heap.size w w' := by
  obtain ⟨m, hm⟩ := hk
  refine (Tryd.strings_Split (tx s) ⟨#[47]⟩ m w (by rw [tx_size]; omega) hm (by decide)).mono ?_
  rintro e w' ⟨rfl, rfl⟩
  rw [split_number, split_pieces]
  refine ⟨_, rfl, fun _ => ⟨_, 0, rfl, fun j p hp => ?_⟩, (Below.refl _ _).alloc (Nat.le_refl _) _⟩
  rw [Nat.zero_add, cell_of_row _ _ _ _ _ _ (heap_alloc_new w _)]
  simpa using cellsT_get hp
end Go.Proofs.YtbcncmampabmfaaDoor
namespace Go.Proofs.YtbcncmampabmfaaDoor
open Go.RowKit
open Pt (Tx)

def okI (x : Int) : Bool := (decide (97 ≤ x) && decide (x ≤ 122)) || (decide (48 ≤ x) && decide (x ≤ 57)) || (x == 46 || x == 45 || x == 95)
theorem okI_ok (c : UInt8) : okI (c.toNat : Int) = Pt.ok c := by
  rw [Bool.eq_iff_iff]
  simp only [okI, Pt.ok, Bool.or_eq_true, Bool.and_eq_true, decide_eq_true_eq, beq_iff_eq]
  omega
theorem retB {a b : Bool} (h : a = b) : Ending.returned (Value.bool a) = Ending.returned (Value.bool b) := by rw [h]
theorem okI_yes {x : Int} (h : (97 ≤ x ∧ x ≤ 122) ∨ (48 ≤ x ∧ x ≤ 57) ∨ x = 46 ∨ x = 45 ∨ x = 95) : true = okI x := by
  symm
  simp only [okI, Bool.or_eq_true, Bool.and_eq_true, decide_eq_true_eq, beq_iff_eq]
  omega
theorem okI_three {x : Int} (h : ¬ (97 ≤ x ∧ x ≤ 122) ∧ ¬ (48 ≤ x ∧ x ≤ 57)) : (x == 46 || x == 45 || x == 95) = okI x := by
  rw [Bool.eq_iff_iff]
  simp only [okI, Bool.or_eq_true, Bool.and_eq_true, decide_eq_true_eq, beq_iff_eq]
  omega
theorem rightByte_in (x : Int) (w : World) :
    Calls Tryd.prog 67 #[.int .u8 x] w fun e w' => e = .returned (.bool (okI x)) ∧ w = w' := by
  by_cases a1 : 97 ≤ x <;> by_cases a2 : x ≤ 122 <;> by_cases a3 : 48 ≤ x <;> by_cases a4 : x ≤ 57 <;> (first | (exfalso; omega) | skip)
  all_goals
    go_enter Tryd.func67, Tryd.ntmps67
    go_wp2
    all_goals go_ret
    all_goals first | exact ⟨retB (okI_yes (by omega)), rfl⟩ | exact ⟨retB (okI_three (by omega)), rfl⟩
theorem rightByte_any (c : UInt8) (w : World) :
    Calls Tryd.prog 67 #[.int .u8 (c.toNat : Int)] w fun e w' => e = .returned (.bool (Pt.ok c)) ∧ w = w' := by
  rw [← okI_ok]; exact rightByte_in _ w
theorem part_false {p : Tx} (h : p = [] ∨ p = [46] ∨ p = [46, 46] ∨ p.all Pt.ok = false) : Pt.part p = false := by
  unfold Pt.part
  rcases h with rfl | rfl | rfl | h
  · decide
  · decide
  · decide
  · rw [h]; simp
theorem part_true {p : Tx} (h1 : p ≠ []) (h2 : p ≠ [46]) (h3 : p ≠ [46, 46]) (h : p.all Pt.ok = true) : Pt.part p = true := by
  unfold Pt.part
  rw [h]
  simp [h1, h2, h3]
theorem rightPart_any (p : Tx) (w : World) (hl : p.length ≤ 1000000) :
    Calls Tryd.prog 51 #[.string (tx p)] w fun e w' => e = .returned (.bool (Pt.part p)) ∧ w = w' := by
  have el := tx_toList p
  have es := tx_size p
  by_cases h1 : p = []
  · have H : Hid (Pt.part p = false) := Lib.hid (part_false (.inl h1))
    have q1 : p.isEmpty = true := by rw [h1]; rfl
    clear h1
    go_enter Tryd.func51, Tryd.ntmps51
    go_wp2
    go_ret
    exact ⟨retB H.out.symm, rfl⟩
  have q1 : p.isEmpty = false := by simpa using h1
  by_cases h2 : p = [46]
  · have H : Hid (Pt.part p = false) := Lib.hid (part_false (.inr (.inl h2)))
    have q2 : (p == [46]) = true := by rw [h2]; rfl
    clear h1 h2
    go_enter Tryd.func51, Tryd.ntmps51
    go_wp2
    go_ret
    exact ⟨retB H.out.symm, rfl⟩
  have q2 : (p == [46]) = false := by simpa using h2
  by_cases h3 : p = [46, 46]
  · have H : Hid (Pt.part p = false) := Lib.hid (part_false (.inr (.inr (.inl h3))))
    have q3 : (p == [46, 46]) = true := by rw [h3]; rfl
    clear h1 h2 h3
    go_enter Tryd.func51, Tryd.ntmps51
    go_wp2
    go_ret
    exact ⟨retB H.out.symm, rfl⟩
  have q3 : (p == [46, 46]) = false := by simpa using h3
  have HT : Hid (p.all Pt.ok = true → Pt.part p = true) := Lib.hid (part_true h1 h2 h3)
  clear h1 h2 h3
  go_enter Tryd.func51, Tryd.ntmps51
  go_wp2
  clear q1 q2 q3
  go_loop [16] (fun vi => ∃ k : Nat, k ≤ p.length ∧ vi = .int .i64 (k : Int) ∧ Hid ((p.take k).all Pt.ok = true)) (fun vi => p.length - (intOf vi).toNat)
  case atStart => exact ⟨0, by omega, rfl, Lib.hid rfl⟩
  case round =>
    obtain ⟨k, hk, rfl, HK⟩ := hrel
    by_cases hlt : k < p.length
    · have hg : ∀ h : k < (tx p).size, (tx p)[k]'h = p[k] := fun h => tx_get p k h hlt
      have HN : Hid ((p.take (k + 1)).all Pt.ok = Pt.ok p[k]) := Lib.hid (by rw [List.take_succ_eq_append_getElem hlt, List.all_append, HK.out]; simp)
      go_wp2_with fail
      refine (rightByte_any _ _).mono ?_
      rintro e w' ⟨rfl, rfl⟩
      cases hok : Pt.ok p[k] with
      | true =>
        go_wp2
        go_round
        case rel => exact ⟨k + 1, by omega, by go_num, Lib.hid (by rw [HN.out, hok])⟩
        case measure => simp [intOf]; omega
      | false =>
        have H : Hid (Pt.part p = false) := Lib.hid (part_false (.inr (.inr (.inr (by
          rw [← List.take_append_drop (k + 1) p, List.all_append, HN.out, hok]; rfl)))))
        go_wp2
        go_ret
        exact ⟨retB H.out.symm, rfl⟩
    · have H : Hid (Pt.part p = true) := Lib.hid (HT.out (by have := HK.out; rwa [List.take_of_length_le (by omega)] at this))
      go_wp2
      go_ret
      exact ⟨retB H.out.symm, rfl⟩
end Go.Proofs.YtbcncmampabmfaaDoor
namespace Go.Proofs.YtbcncmampabmfaaDoor
open Go.RowKit
open Pt (Tx)

theorem cutW_short : ∀ (l p : Tx), ∀ x ∈ Pt.cutW p l, x.length ≤ p.length + l.length
  | [], p, x, h => by simp only [Pt.cutW, List.mem_singleton] at h; rw [h]; simp
  | c :: l, p, x, h => by
    unfold Pt.cutW at h
    by_cases e : c = 47
    · rw [if_pos e, List.mem_cons] at h
      rcases h with rfl | h
      · simp
      · have := cutW_short l [] x h
        simp at this ⊢; omega
    · rw [if_neg e] at h
      have := cutW_short l _ x h
      simp at this ⊢; omega
theorem cut_short {s : Tx} {j : Nat} (h : j < (Pt.cut s).length) : ((Pt.cut s)[j]).length ≤ s.length := by
  have := cutW_short s [] _ (List.getElem_mem h)
  simpa using this
theorem cutW_few : ∀ (l p : Tx), (Pt.cutW p l).length ≤ l.length + 1
  | [], p => by simp [Pt.cutW]
  | c :: l, p => by
    unfold Pt.cutW
    split
    · have := cutW_few l []; simp; omega
    · have := cutW_few l (p ++ [c]); simp; omega
theorem cut_few (s : Tx) : (Pt.cut s).length ≤ s.length + 1 := cutW_few s []
set_option maxHeartbeats 1000000 in
theorem right_any (s : Tx) (w : World) (hl : s.length ≤ maxLen) (hk : Kept w) :
    Calls Tryd.prog 37 #[.string (tx s)] w fun e w' => e = .returned (.bool (Pt.right s)) ∧ Below w.heap.size w w' := by
  unfold maxLen at hl
  have HK := Lib.hid hk
  clear hk
  have es := tx_size s
  by_cases h1 : s.length < 1
  · have H : Hid (Pt.right s = false) := Lib.hid (by unfold Pt.right; simp [show ¬ 1 ≤ s.length by omega])
    go_enter Tryd.func37, Tryd.ntmps37
    go_wp2
    go_ret
    exact ⟨retB H.out.symm, Below.refl _ _⟩
  by_cases h2 : 24 < s.length
  · have H : Hid (Pt.right s = false) := Lib.hid (by unfold Pt.right; simp [show ¬ s.length ≤ 24 by omega])
    have q1 : decide (s.length < 1) = false := decide_eq_false h1
    go_enter Tryd.func37, Tryd.ntmps37
    go_wp2
    go_ret
    exact ⟨retB H.out.symm, Below.refl _ _⟩
  have HR : Hid (Pt.right s = (Pt.cut s).all Pt.part) := Lib.hid (by unfold Pt.right; simp [show 1 ≤ s.length by omega, show s.length ≤ 24 by omega])
  have HS : Hid (∀ j (h : j < (Pt.cut s).length), ((Pt.cut s)[j]).length ≤ 24) := Lib.hid (fun j h => by have := cut_short h; omega)
  have hn : (Pt.cut s).length ≤ 25 := by have := cut_few s; omega
  go_enter Tryd.func37, Tryd.ntmps37
  go_wp2_with fail
  refine (split_any s _ HK.out (by omega)).mono ?_
  rintro e w1 ⟨A, rfl, hr, hb⟩
  have HX := Lib.hid hr
  have HB := Lib.hid hb
  clear hr hb es
  go_wp2
  go_loop [16] (fun vi => ∃ k : Nat, k ≤ (Pt.cut s).length ∧ vi = .int .i64 (k : Int) ∧ Hid (((Pt.cut s).take k).all Pt.part = true)) (fun vi => (Pt.cut s).length - (intOf vi).toNat)
  case atStart => exact ⟨0, by omega, rfl, Lib.hid rfl⟩
  case round =>
    obtain ⟨k, hk, rfl, HKK⟩ := hrel
    by_cases hlt : k < (Pt.cut s).length
    · obtain ⟨b, off, rfl, hc⟩ := HX.out.at hlt
      have HN : Hid (((Pt.cut s).take (k + 1)).all Pt.part = Pt.part (Pt.cut s)[k]) := Lib.hid (by rw [List.take_succ_eq_append_getElem hlt, List.all_append, HKK.out]; simp)
      have hsh := HS.out k hlt
      go_wp2_with fail
      refine (rightPart_any _ _ (by omega)).mono ?_
      rintro e w' ⟨rfl, rfl⟩
      cases hok : Pt.part (Pt.cut s)[k] with
      | true =>
        go_wp2
        go_round
        case rel => exact ⟨k + 1, by omega, by go_num, Lib.hid (by rw [HN.out, hok])⟩
        case measure => simp [intOf]; omega
      | false =>
        have H : Hid (Pt.right s = false) := Lib.hid (by
          rw [HR.out, ← List.take_append_drop (k + 1) (Pt.cut s), List.all_append, HN.out, hok]; rfl)
        go_wp2
        go_ret
        exact ⟨retB H.out.symm, HB.out⟩
    · have H : Hid (Pt.right s = true) := Lib.hid (by rw [HR.out]; have := HKK.out; rwa [List.take_of_length_le (by omega)] at this)
      go_wp2
      go_ret
      exact ⟨retB H.out.symm, HB.out⟩
end Go.Proofs.YtbcncmampabmfaaDoor
namespace Go.Proofs.YtbcncmampabmfaaDoor
open Go.RowKit
open Pt (Tx)

theorem infoText : (Tryd.prog.info? 9).map (fun i => (i.zero, i.size, i.bytes)) = some (some (.string ByteArray.empty), 1, 16) := by kernel_rfl
theorem oneText (x : ByteArray) : ∀ u ∈ [Value.string x], u.oneCell' = true := by
  intro u hu; simp at hu; subst hu; rfl
theorem cellsT_snoc (ps : List Tx) (p : Tx) : cellsT ps ++ [.string (tx p)] = cellsT (ps ++ [p]) := by simp [cellsT]
/-- how far the loop is -/
def Far (s : Tx) (i : Nat) (p : Tx) (done : List Tx) : Prop :=
  done.length ≤ i ∧ p.length ≤ i ∧ p.all Pt.ok = true ∧ done.all Pt.part = true ∧ (i ≤ s.length → Pt.cut s = done ++ Pt.cutW p (s.drop i)) ∧ (s.length < i → Pt.cut s = done)
theorem Far.start (s : Tx) : Far s 0 [] [] := ⟨Nat.le_refl _, Nat.le_refl _, rfl, rfl, fun _ => rfl, fun h => absurd h (by omega)⟩
theorem Far.step {s : Tx} {i : Nat} {p : Tx} {done : List Tx} (h : Far s i p done) (hi : i < s.length) (hc : Pt.ok s[i] = true) : Far s (i + 1) (p ++ [s[i]]) done := by
  obtain ⟨h1, h2, h3, h4, h5, h6⟩ := h
  refine ⟨by omega, by simp; omega, by rw [List.all_append, h3]; simp [hc], h4, fun _ => ?_, fun h => absurd h (by omega)⟩
  rw [h5 (by omega), List.drop_eq_getElem_cons hi, Pt.cutW, if_neg]
  intro e; rw [e, Pt.ok_sep] at hc; cases hc
theorem Far.cut {s : Tx} {i : Nat} {p : Tx} {done : List Tx} (h : Far s i p done) (hi : i < s.length) (hc : s[i] = 47) (hp : Pt.part p = true) : Far s (i + 1) [] (done ++ [p]) := by
  obtain ⟨h1, h2, h3, h4, h5, h6⟩ := h
  refine ⟨by simp; omega, by simp, rfl, by rw [List.all_append, h4]; simp [hp], fun _ => ?_, fun h => absurd h (by omega)⟩
  rw [h5 (by omega), List.drop_eq_getElem_cons hi, Pt.cutW, if_pos hc]; simp
theorem Far.last {s : Tx} {i : Nat} {p : Tx} {done : List Tx} (h : Far s i p done) (hi : i = s.length) (hp : Pt.part p = true) : Far s (i + 1) [] (done ++ [p]) := by
  obtain ⟨h1, h2, h3, h4, h5, h6⟩ := h
  refine ⟨by simp; omega, by simp, rfl, by rw [List.all_append, h4]; simp [hp], fun h => absurd h (by omega), fun _ => ?_⟩
  rw [h5 (by omega), List.drop_of_length_le (by omega)]; rfl
theorem Far.badByte {s : Tx} {i : Nat} {p : Tx} {done : List Tx} (h : Far s i p done) (hi : i < s.length) (hc : Pt.ok s[i] = false) (hn : s[i] ≠ 47) : Pt.parts s = [] := by
  obtain ⟨h1, h2, h3, h4, h5, h6⟩ := h
  refine Pt.parts_wrong (Pt.right_false_of ?_)
  rw [h5 (by omega), List.drop_eq_getElem_cons hi, Pt.cutW, if_neg hn]
  exact Pt.all_append_bad (Pt.all_bad _ _ (by rw [List.all_append]; simp [hc]))
theorem Far.badPart {s : Tx} {i : Nat} {p : Tx} {done : List Tx} (h : Far s i p done) (hi : i ≤ s.length) (hc : ∀ h : i < s.length, s[i] = 47) (hp : Pt.part p = false) : Pt.parts s = [] := by
  obtain ⟨h1, h2, h3, h4, h5, h6⟩ := h
  refine Pt.parts_wrong (Pt.right_false_of ?_)
  rw [h5 (by omega)]
  refine Pt.all_append_bad ?_
  by_cases hlt : i < s.length
  · rw [List.drop_eq_getElem_cons hlt, Pt.cutW, if_pos (hc hlt), List.all_cons, hp]; rfl
  · rw [List.drop_of_length_le (by omega)]
    simp [Pt.cutW, hp]
theorem Far.done {s : Tx} {i : Nat} {p : Tx} {done : List Tx} (h : Far s i p done) (hi : s.length < i) (h0 : 1 ≤ s.length) (h1 : s.length ≤ 24) : Pt.parts s = done := by
  have e := h.2.2.2.2.2 hi
  rw [Pt.parts_right (Pt.right_iff.2 ⟨h0, h1, by rw [e]; exact h.2.2.2.1⟩), e]
theorem part_of {p : Tx} (h : p.all Pt.ok = true) : Pt.part p = (!p.isEmpty && !(p == [46]) && !(p == [46, 46])) := by
  unfold Pt.part
  rw [h]
  cases p <;> simp
theorem ok_cases {c : UInt8} {x : Int} (hx : x = (c.toNat : Int)) (h : Pt.ok c = true) : (97 ≤ x ∧ x ≤ 122) ∨ (48 ≤ x ∧ x ≤ 57) ∨ x = 46 ∨ x = 45 ∨ x = 95 := by
  rw [← okI_ok, ← hx] at h
  simp only [okI, Bool.or_eq_true, Bool.and_eq_true, decide_eq_true_eq, beq_iff_eq] at h
  omega
theorem bad_cases {c : UInt8} {x : Int} (hx : x = (c.toNat : Int)) (h : Pt.ok c = false) : ((x < 48 ∧ x ≠ 46 ∧ x ≠ 45) ∨ (57 < x ∧ x < 97 ∧ x ≠ 95) ∨ 122 < x) := by
  rw [← okI_ok, ← hx] at h
  have h' : ¬ okI x = true := by rw [h]; simp
  simp only [okI, Bool.or_eq_true, Bool.and_eq_true, decide_eq_true_eq, beq_iff_eq] at h'
  omega
theorem bad_facts {c : UInt8} {x : Int} (hx : x = (c.toNat : Int)) (h : Pt.ok c = false) : (decide (97 ≤ x) = false ∧ decide (48 ≤ x) = false) ∨ (decide (97 ≤ x) = false ∧ decide (48 ≤ x) = true ∧ decide (x ≤ 57) = false) ∨ (decide (97 ≤ x) = true ∧ decide (x ≤ 122) = false ∧ decide (48 ≤ x) = true ∧ decide (x ≤ 57) = false) := by
  have := bad_cases hx h
  simp only [decide_eq_true_eq, decide_eq_false_iff_not]
  omega
theorem bad_three {c : UInt8} {x : Int} (hx : x = (c.toNat : Int)) (h : Pt.ok c = false) : (x == 46) = false ∧ (x == 45) = false ∧ (x == 95) = false := by
  have := bad_cases hx h
  refine ⟨beq_eq_false_iff_ne.2 (by omega), beq_eq_false_iff_ne.2 (by omega), beq_eq_false_iff_ne.2 (by omega)⟩
theorem sep_iff {c : UInt8} : (c.toNat : Int) = 47 ↔ c = 47 := by
  constructor
  · intro h; exact UInt8.toNat.inj (by have : c.toNat = 47 := by omega
                                       rw [this]; rfl)
  · rintro rfl; rfl
set_option maxRecDepth 100000 in
set_option maxHeartbeats 8000000 in
theorem refParts_any (s : Tx) (w : World) (hl : s.length ≤ maxLen) :
    Calls Tryd.prog 59 #[.string (tx s)] w (TxAns (Pt.parts s) w) := by
  unfold maxLen at hl
  have es := tx_size s
  by_cases h1 : s.length < 1
  · have H : Hid (Pt.parts s = []) := Lib.hid (Pt.parts_wrong (by unfold Pt.right; simp [show ¬ 1 ≤ s.length by omega]))
    go_enter Tryd.func59, Tryd.ntmps59
    go_wp2
    go_ret
    rw [H.out]
    exact TxAns.empty (Below.refl _ _)
  by_cases h2 : 24 < s.length
  · have H : Hid (Pt.parts s = []) := Lib.hid (Pt.parts_wrong (by unfold Pt.right; simp [show ¬ s.length ≤ 24 by omega]))
    have q1 : decide (s.length < 1) = false := decide_eq_false h1
    go_enter Tryd.func59, Tryd.ntmps59
    go_wp2
    go_ret
    rw [H.out]
    exact TxAns.empty (Below.refl _ _)
  have z1 : decide (s.length < 1) = false := decide_eq_false h1
  have z2 : decide ((s.length : Int) < 1) = false := decide_eq_false (by omega)
  have z3 : decide (24 < s.length) = false := decide_eq_false h2
  have z4 : decide (24 < (s.length : Int)) = false := decide_eq_false (by omega)
  go_enter Tryd.func59, Tryd.ntmps59
  go_wp2
  clear z1 z2 z3 z4
  go_loopw [5, 4, 3] (fun vi vw vl wr => ∃ (i : Nat) (p : Tx) (done : List Tx), i ≤ s.length + 1 ∧ vi = .int .i64 (i : Int) ∧ vw = .string (tx p) ∧ Hid (wr.ownsRow w.heap.size 9 1 vl done.length (cellsT done)) ∧ Hid (Far s i p done) ∧ Hid (Below w.heap.size w wr)) (fun vi _ _ _ => s.length + 1 - (intOf vi).toNat)
  case atStart => exact ⟨0, [], [], by omega, rfl, rfl, Lib.hid (World.ownsRow_nil _ _ _ _), Lib.hid (Far.start s), Lib.hid (Below.refl _ _)⟩
  case round =>
    obtain ⟨i, p, done, hi, rfl, rfl, HO, HF, HB⟩ := hrel
    by_cases hlt : i ≤ s.length
    · by_cases hlast : i = s.length
      · have q1 : ((i : Int) == (s.length : Int)) = true := by rw [hlast]; exact beq_self_eq_true _
        have HC : Hid (∀ h : i < s.length, s[i] = 47) := Lib.hid (fun h => absurd h (by omega))
        have HL : Hid (Pt.part p = true → Far s (i + 1) [] (done ++ [p])) := Lib.hid (HF.out.last hlast)
        have el := tx_toList p
        have HP : Hid (Pt.part p = (!p.isEmpty && !(p == [46]) && !(p == [46, 46]))) := Lib.hid (part_of HF.out.2.2.1)
        have hd : done.length ≤ i := HF.out.1
        clear hlast
        cases t1 : p.isEmpty <;> cases t2 : (p == [46]) <;> cases t3 : (p == [46, 46])
        · have HG := Lib.hid (HL.out (by rw [HP.out, t1, t2, t3]; rfl))
          obtain ⟨i0, hi0, hz0, hz1, hz2⟩ := info_parts infoText
          have hlow : w.heap.size ≤ wr.heap.size := HB.out.size
          have hown := HO.out
          go_wp2_with (at_builtin; refine wpList_append_own _ rfl _ _ 96 rfl w.heap.size 9 i0 (.string ByteArray.empty) 1 16 Tryd.underlying96 hi0 hz0 hz1 hz2 rfl (by decide) _ _ _ rfl (hown.alloc _) ⟨wr.heap.size, 0, none⟩ 1 1 [.string (tx p)] rfl rfl (cell_one_new _ _ _) (oneText _) (by unfold maxLen; omega) (by omega) (by simp; omega) ?_)
          intro v' w3 hown' hgrow _
          have HO3 : Hid (w3.ownsRow w.heap.size 9 1 v' (done ++ [p]).length (cellsT (done ++ [p]))) := by
            rw [← cellsT_snoc, List.length_append]
            exact Lib.hid hown'
          have HB3 := Lib.hid ((HB.out.alloc hlow _).grown hgrow (by simp; omega) (fun x hx => (HO.out.lt x hx).1))
          clear hown' hgrow hown
          go_wp2
          go_roundw
          case rel => exact ⟨i + 1, [], done ++ [p], by omega, by go_num, rfl, HO3, HG, HB3⟩
          case measure => simp [intOf]; omega
        all_goals
          have H : Hid (Pt.parts s = []) := Lib.hid (HF.out.badPart hlt HC.out (by rw [HP.out, t1, t2, t3]; rfl))
          go_wp2
          go_ret
          rw [H.out]
          exact TxAns.empty HB.out
      · have hlt' : i < s.length := by omega
        have q1 : ((i : Int) == (s.length : Int)) = false := beq_eq_false_iff_ne.2 (by omega)
        obtain ⟨x, hx⟩ : ∃ x : Int, x = (s[i].toNat : Int) := ⟨_, rfl⟩
        have hg : ∀ h : i < (tx s).size, (((tx s)[i]'h).toNat : Int) = x := fun h => by rw [tx_get s i h hlt', hx]
        by_cases hsep : s[i] = 47
        · have q2 : (x == 47) = true := beq_iff_eq.2 (by rw [hx]; exact sep_iff.2 hsep)
          have HC : Hid (∀ h : i < s.length, s[i] = 47) := Lib.hid (fun h => hsep)
          have HL : Hid (Pt.part p = true → Far s (i + 1) [] (done ++ [p])) := Lib.hid (HF.out.cut hlt' hsep)
          have el := tx_toList p
          have HP : Hid (Pt.part p = (!p.isEmpty && !(p == [46]) && !(p == [46, 46]))) := Lib.hid (part_of HF.out.2.2.1)
          have hd : done.length ≤ i := HF.out.1
          clear hsep hx hlast
          cases t1 : p.isEmpty <;> cases t2 : (p == [46]) <;> cases t3 : (p == [46, 46])
          · have HG := Lib.hid (HL.out (by rw [HP.out, t1, t2, t3]; rfl))
            obtain ⟨i0, hi0, hz0, hz1, hz2⟩ := info_parts infoText
            have hlow : w.heap.size ≤ wr.heap.size := HB.out.size
            have hown := HO.out
            go_wp2_with (at_builtin; refine wpList_append_own _ rfl _ _ 96 rfl w.heap.size 9 i0 (.string ByteArray.empty) 1 16 Tryd.underlying96 hi0 hz0 hz1 hz2 rfl (by decide) _ _ _ rfl (hown.alloc _) ⟨wr.heap.size, 0, none⟩ 1 1 [.string (tx p)] rfl rfl (cell_one_new _ _ _) (oneText _) (by unfold maxLen; omega) (by omega) (by simp; omega) ?_)
            intro v' w3 hown' hgrow _
            have HO3 : Hid (w3.ownsRow w.heap.size 9 1 v' (done ++ [p]).length (cellsT (done ++ [p]))) := by
              rw [← cellsT_snoc, List.length_append]
              exact Lib.hid hown'
            have HB3 := Lib.hid ((HB.out.alloc hlow _).grown hgrow (by simp; omega) (fun x hx => (HO.out.lt x hx).1))
            clear hown' hgrow hown
            go_wp2
            go_roundw
            case rel => exact ⟨i + 1, [], done ++ [p], by omega, by go_num, rfl, HO3, HG, HB3⟩
            case measure => simp [intOf]; omega
          all_goals
            have H : Hid (Pt.parts s = []) := Lib.hid (HF.out.badPart hlt HC.out (by rw [HP.out, t1, t2, t3]; rfl))
            go_wp2
            go_ret
            rw [H.out]
            exact TxAns.empty HB.out
        · have q2 : (x == 47) = false := beq_eq_false_iff_ne.2 (fun e => hsep (sep_iff.1 (by rw [← hx]; exact e)))
          cases hok : Pt.ok s[i] with
          | false =>
            have H : Hid (Pt.parts s = []) := Lib.hid (HF.out.badByte hlt' hok hsep)
            obtain ⟨q46, q45, q95⟩ := bad_three hx hok
            rcases bad_facts hx hok with ⟨d97, d48⟩ | ⟨d97, d48, d57⟩ | ⟨d97, d122, d48, d57⟩
            all_goals
              clear hx hok hsep hlast
              go_wp2
              go_ret
              rw [H.out]
              exact TxAns.empty HB.out
          | true =>
            have HG := Lib.hid (HF.out.step hlt' hok)
            have hpl : p.length ≤ i := HF.out.2.1
            have ep := tx_size p
            have ee : (tx s).extract i (i + 1) = tx [s[i]] := by
              rw [tx_extract, List.drop_eq_getElem_cons hlt', show i + 1 - i = 1 by omega]; rfl
            have e1 : (tx [s[i]]).size = 1 := tx_size _
            have ea : tx p ++ tx [s[i]] = tx (p ++ [s[i]]) := tx_append _ _
            rcases ok_cases hx hok with ⟨b1, b2⟩ | ⟨b1, b2⟩ | b1 | b1 | b1
            all_goals
              clear hx hok hsep hlast
              go_wp2
              go_roundw
              case rel => exact ⟨i + 1, p ++ [s[i]], done, by omega, by go_num, rfl, HO, HG, HB⟩
              case measure => simp [intOf]; omega
    · have H : Hid (Pt.parts s = done) := Lib.hid (HF.out.done (by omega) (by omega) (by omega))
      obtain ⟨A, c, rfl, hr⟩ := TxR.of_owns HO.out
      have HR := Lib.hid hr
      clear hr
      go_wp2
      go_ret
      rw [H.out]
      exact ⟨A, c, rfl, HR.out, HB.out⟩
theorem refRight_any (s : Tx) (w : World) (hl : s.length ≤ maxLen) :
    Calls Tryd.prog 45 #[.string (tx s)] w fun e w' => e = .returned (.bool (Pt.right s)) ∧ Below w.heap.size w w' := by
  have hn : (Pt.parts s).length ≤ s.length + 1 := by
    unfold Pt.parts
    split
    · exact cut_few s
    · simp
  have HL := Lib.hid hl
  have H : Hid (decide (0 < (Pt.parts s).length) = Pt.right s) := Lib.hid (by rw [Bool.eq_iff_iff, decide_eq_true_eq]; exact Pt.parts_len)
  clear hl hn
  go_enter Tryd.func45, Tryd.ntmps45
  go_wp2_with fail
  refine (refParts_any s _ HL.out).mono ?_
  rintro e w1 ⟨A, c, rfl, _, hb⟩
  have HB := Lib.hid hb
  clear hb
  go_wp2
  go_ret
  exact ⟨retB (by rw [← H.out]), HB.out⟩
end Go.Proofs.YtbcncmampabmfaaDoor
