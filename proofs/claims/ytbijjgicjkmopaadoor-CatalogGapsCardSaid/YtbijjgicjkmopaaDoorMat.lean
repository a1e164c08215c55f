/- How package catalog compares two files: by path, version, and the greatest serial first. What slices' insertion sort makes of a row of files, and the stable sort of at most nineteen. -/
import Derived.Test.YtbijjgicjkmopaaDoorMas
import Derived.Deep.RegionHeld3
import Derived.Deep.DeepFit
import Derived.IntWalk
import Derived.BigQuiet
import Derived.Deep.QuietTactic
namespace Go.Proofs.YtbijjgicjkmopaaDoor
open Go.RowKit
open Pt (Tx)

theorem lessB_is : ∀ (x y : List UInt8), Op.bytesLess x y = decide (x < y)
  | [], [] => by simp [Op.bytesLess]
  | _ :: _, [] => by simp [Op.bytesLess]
  | [], _ :: _ => by simp [Op.bytesLess]
  | a :: x, b :: y => by
    rw [Op.bytesLess, lessB_is x y]
    simp only [List.cons_lt_cons_iff]
    by_cases h : a < b <;> by_cases h' : a = b <;> simp [h, h']
theorem nanS_any (a : Tx) (w : World) : Calls Tryd.prog 42 #[.string (tx a)] w fun e w' => e = .returned (.bool false) ∧ w = w' := by
  have e1 : (!((tx a).toList == (tx a).toList)) = false := by simp
  go_enter Tryd.func42, Tryd.ntmps42
  go_wp2
  go_ret
  exact ⟨rfl, rfl⟩
theorem nanZ_any (a : Int) (w : World) : Calls Tryd.prog 43 #[.int .i64 a] w fun e w' => e = .returned (.bool false) ∧ w = w' := by
  have e1 : (a != a) = false := by simp
  go_enter Tryd.func43, Tryd.ntmps43
  go_wp2
  go_ret
  exact ⟨rfl, rfl⟩
theorem compareZ_any (a b : Int) (w : World) : Calls Tryd.prog 33 #[.int .i64 a, .int .i64 b] w fun e w' => e = .returned (.int .i64 (Ct.cmpZ a b)) ∧ w = w' := by
  have hcase : (decide (a < b) = true ∧ True ∧ Ct.cmpZ a b = -1) ∨ (decide (a < b) = false ∧ decide (b < a) = true ∧ Ct.cmpZ a b = 1) ∨ (decide (a < b) = false ∧ decide (b < a) = false ∧ Ct.cmpZ a b = 0) := by
    unfold Ct.cmpZ
    by_cases h1 : a < b
    · exact .inl ⟨decide_eq_true h1, trivial, if_pos h1⟩
    · by_cases h2 : b < a
      · exact .inr (.inl ⟨decide_eq_false h1, decide_eq_true h2, by rw [if_neg h1, if_pos h2]⟩)
      · exact .inr (.inr ⟨decide_eq_false h1, decide_eq_false h2, by rw [if_neg h1, if_neg h2]⟩)
  rcases hcase with ⟨q1, q2, h⟩ | ⟨q1, q2, h⟩ | ⟨q1, q2, h⟩
  all_goals
    have H := Lib.hid h
    clear h
    go_enter Tryd.func33, Tryd.ntmps33
    go_wp2_with (go_at_call 43; refine (nanZ_any _ _).mono ?_; rintro e w' ⟨rfl, hw'⟩; subst hw')
    go_ret
    exact ⟨by rw [H.out]; rfl, rfl⟩
theorem compareS_any (a b : Tx) (w : World) : Calls Tryd.prog 32 #[.string (tx a), .string (tx b)] w fun e w' => e = .returned (.int .i64 (Ct.cmpS a b)) ∧ w = w' := by
  have hcase : (Op.bytesLess (tx a).toList (tx b).toList = true ∧ True ∧ Ct.cmpS a b = -1) ∨ (Op.bytesLess (tx a).toList (tx b).toList = false ∧ ((tx a).toList == (tx b).toList) = false ∧ Ct.cmpS a b = 1) ∨ (Op.bytesLess (tx a).toList (tx b).toList = false ∧ ((tx a).toList == (tx b).toList) = true ∧ Ct.cmpS a b = 0) := by
    rw [lessB_is, tx_toList, tx_toList]
    unfold Ct.cmpS
    by_cases h1 : a < b
    · exact .inl ⟨decide_eq_true h1, trivial, if_pos h1⟩
    · by_cases h2 : b < a
      · have h3 : a ≠ b := fun e => by subst e; exact h1 h2
        exact .inr (.inl ⟨decide_eq_false h1, by simp [h3], by rw [if_neg h1, if_pos h2]⟩)
      · have h3 : a = b := List.le_antisymm (List.not_lt.1 h2) (List.not_lt.1 h1)
        exact .inr (.inr ⟨decide_eq_false h1, by simp [h3], by rw [if_neg h1, if_neg h2]⟩)
  rcases hcase with ⟨q1, q2, h⟩ | ⟨q1, q2, h⟩ | ⟨q1, q2, h⟩
  all_goals
    have H := Lib.hid h
    clear h
    go_enter Tryd.func32, Tryd.ntmps32
    go_wp2_with (go_at_call 42; refine (nanS_any _ _).mono ?_; rintro e w' ⟨rfl, hw'⟩; subst hw')
    go_ret
    exact ⟨by rw [H.out]; rfl, rfl⟩
/-- the first of three that is not 0 -/
def or3 (x y z : Int) : Int := if x ≠ 0 then x else if y ≠ 0 then y else z
set_option maxRecDepth 100000 in
theorem or_any (g : Nat) (V : Nat → Int) (w : World) (h : ∀ j, j < 3 → w.cell? ⟨g, j, none⟩ = some (.int .i64 (V j))) :
    Calls Tryd.prog 31 #[.slice (some ⟨g, 0, none⟩) 3 3] w fun e w' => e = .returned (.int .i64 (or3 (V 0) (V 1) (V 2))) ∧ w = w' := by
  have HC := Lib.hid h
  clear h
  go_enter Tryd.func31, Tryd.ntmps31
  go_wp2
  go_loopw [8] (fun vi wr => ∃ i : Nat, i ≤ 3 ∧ vi = .int .i64 (i : Int) ∧ Hid (∀ j, j < i → V j = 0) ∧ Hid (wr = w)) (fun vi _ => 3 - (intOf vi).toNat)
  case atStart => exact ⟨0, by omega, rfl, Lib.hid (fun j h => absurd h (by omega)), Lib.hid rfl⟩
  case round =>
    obtain ⟨i, hi, rfl, HZ, HW⟩ := hrel
    by_cases hlt : i < 3
    · have e0 : decide (i < 3) = true := decide_eq_true hlt
      have e0' : decide ((i : Int) < 3) = true := decide_eq_true (by omega)
      have c0 : wr.cell? ⟨g, i, none⟩ = some (.int .i64 (V i)) := by rw [HW.out]; exact HC.out i hlt
      obtain ⟨x, hx⟩ : ∃ x, x = V i := ⟨_, rfl⟩
      rw [← hx] at c0
      by_cases hz : x = 0
      · have HZ2 : Hid (∀ j, j < i + 1 → V j = 0) := Lib.hid fun j h => by
          by_cases e : j = i
          · subst e; rw [← hx]; exact hz
          · exact HZ.out j (by omega)
        have q1 : (x != 0) = false := by simp [hz]
        clear hx hz
        go_wp2
        go_roundw
        case rel => exact ⟨i + 1, by omega, by go_num, HZ2, HW⟩
        case measure => simp [intOf]; omega
      · have q1 : (x != 0) = true := by simp [hz]
        have HE : Hid (or3 (V 0) (V 1) (V 2) = x) := Lib.hid (by
          have h := HZ.out
          unfold or3
          have hi3 : i = 0 ∨ i = 1 ∨ i = 2 := by omega
          rcases hi3 with rfl | rfl | rfl
          · rw [if_pos (by rw [← hx]; exact hz), hx]
          · rw [if_neg (by rw [h 0 (by omega)]; simp), if_pos (by rw [← hx]; exact hz), hx]
          · rw [if_neg (by rw [h 0 (by omega)]; simp), if_neg (by rw [h 1 (by omega)]; simp), hx])
        clear hx hz
        go_wp2
        go_ret
        exact ⟨by rw [HE.out]; rfl, HW.out.symm⟩
    · have e0 : decide (i < 3) = false := decide_eq_false hlt
      have e0' : decide ((i : Int) < 3) = false := decide_eq_false (by omega)
      have HE : Hid (or3 (V 0) (V 1) (V 2) = 0) := Lib.hid (by
        have h := HZ.out
        unfold or3
        rw [if_neg (by rw [h 0 (by omega)]; simp), if_neg (by rw [h 1 (by omega)]; simp), h 2 (by omega)])
      go_wp2
      go_ret
      exact ⟨by rw [HE.out]; rfl, HW.out.symm⟩
/-- two files compared -/
def cmp3 (P : Tx) (v r : Int) (P' : Tx) (v' r' : Int) : Int := or3 (Ct.cmpS P P') (Ct.cmpZ v v') (Ct.cmpZ r' r)
theorem cmp_is (a b : Ct.F) : Ct.cmp a b = cmp3 a.path a.version a.serial b.path b.version b.serial := rfl
/-- two files, each in a block of its own -/
theorem two_files {w wb : World} {o1 o2 : Obj} (h : wb = (w.alloc o1).alloc o2) : Below w.heap.size w wb ∧ wb.heap[w.heap.size]? = some o1 ∧ wb.heap[w.heap.size + 1]? = some o2 := by
  have hb1 : Below w.heap.size w (w.alloc o1) := (Below.refl _ _).alloc (Nat.le_refl _) _
  have h1 : (w.alloc o1).heap[w.heap.size]? = some o1 := Go.Deep.blk_alloc_new _ _
  have h2 := Go.Deep.blk_alloc_new (w.alloc o1) o2
  rw [show (w.alloc o1).heap.size = w.heap.size + 1 by simp] at h2
  subst h
  exact ⟨hb1.alloc hb1.size _, (Below.heap_alloc _ _ _ (heap_lt h1)).trans h1, h2⟩
theorem three_cells (w : World) (x y z : Int) : ∀ j, j < 3 → (w.alloc (.cells #[.int .i64 x, .int .i64 y, .int .i64 z] 3)).cell? ⟨w.heap.size, j, none⟩ = some (.int .i64 ([x, y, z].getD j 0)) := by
  intro j hj
  rw [heap_cell (Go.Deep.blk_alloc_new _ _)]
  match j, hj with
  | 0, _ => rfl
  | 1, _ => rfl
  | 2, _ => rfl
set_option maxRecDepth 100000 in
set_option maxHeartbeats 4000000 in
theorem compare_any (P : Tx) (v z s r : Int) (b : Bool) (A : Option Addr) (m C : Nat) (P' : Tx) (v' z' s' r' : Int) (b' : Bool) (A' : Option Addr) (m' C' : Nat) (w : World) :
    Calls Tryd.prog 18 #[.agg #[.string (tx P), .int .i64 v, .int .i64 z, .int .i64 s, .int .i64 r, .bool b, .slice A m C], .agg #[.string (tx P'), .int .i64 v', .int .i64 z', .int .i64 s', .int .i64 r', .bool b', .slice A' m' C']] w fun e w' => e = .returned (.int .i64 (cmp3 P v r P' v' r')) ∧ Below w.heap.size w w' := by
  obtain ⟨wb, hwb⟩ : ∃ wb, wb = (w.alloc (fileO P v z s r b A m C)).alloc (fileO P' v' z' s' r' b' A' m' C') := ⟨_, rfl⟩
  obtain ⟨hB, h1, h2⟩ := two_files hwb
  obtain ⟨a0, a1, -, -, a4, -, -⟩ := file7 h1
  obtain ⟨b0, b1, -, -, b4, -, -⟩ := file7 h2
  have HB := Lib.hid hB
  have HW : Hid (wb = (w.alloc (.cells #[.string (tx P), .int .i64 v, .int .i64 z, .int .i64 s, .int .i64 r, .bool b, .slice A m C] 46)).alloc (.cells #[.string (tx P'), .int .i64 v', .int .i64 z', .int .i64 s', .int .i64 r', .bool b', .slice A' m' C'] 46)) := Lib.hid hwb
  have hx0 : (wb.drew.cell? ⟨w.heap.size, 0, none⟩ = some (.string (tx P)) ∧ wb.drew.cell? ⟨w.heap.size, 1, none⟩ = some (.int .i64 v) ∧ wb.drew.cell? ⟨w.heap.size, 4, none⟩ = some (.int .i64 r)) ∧ (wb.drew.cell? ⟨w.heap.size + 1, 0, none⟩ = some (.string (tx P')) ∧ wb.drew.cell? ⟨w.heap.size + 1, 1, none⟩ = some (.int .i64 v') ∧ wb.drew.cell? ⟨w.heap.size + 1, 4, none⟩ = some (.int .i64 r')) := ⟨⟨a0, a1, a4⟩, b0, b1, b4⟩
  obtain ⟨x1, hx1⟩ : ∃ x, x = Ct.cmpS P P' := ⟨_, rfl⟩
  obtain ⟨x2, hx2⟩ : ∃ x, x = Ct.cmpZ v v' := ⟨_, rfl⟩
  obtain ⟨x3, hx3⟩ : ∃ x, x = Ct.cmpZ r' r := ⟨_, rfl⟩
  have HE : Hid (cmp3 P v r P' v' r' = or3 x1 x2 x3) := Lib.hid (by rw [hx1, hx2, hx3]; rfl)
  have hc1 := compareS_any P P'
  have hc2 := compareZ_any v v'
  have hc3 := compareZ_any r' r
  rw [← hx1] at hc1
  rw [← hx2] at hc2
  rw [← hx3] at hc3
  have HC1 := Lib.hid hc1
  have HC2 := Lib.hid hc2
  have HC3 := Lib.hid hc3
  have hor : Calls Tryd.prog 31 #[.slice (some ⟨wb.heap.size, 0, none⟩) 3 3] ((wb.alloc (.cells #[.int .i64 x1, .int .i64 x2, .int .i64 x3] 3)).drew) fun e w' => e = .returned (.int .i64 (or3 x1 x2 x3)) ∧ ((wb.alloc (.cells #[.int .i64 x1, .int .i64 x2, .int .i64 x3] 3)).drew) = w' := or_any wb.heap.size (fun j => [x1, x2, x3].getD j 0) _ (three_cells wb x1 x2 x3)
  have HOR := Lib.hid hor
  have hx9 : (((wb.alloc (.cells #[.int .i64 x1, .int .i64 x2, .int .i64 x3] 3)).drew).cell? ⟨w.heap.size, 0, none⟩ = some (.string (tx P)) ∧ ((wb.alloc (.cells #[.int .i64 x1, .int .i64 x2, .int .i64 x3] 3)).drew).cell? ⟨w.heap.size, 1, none⟩ = some (.int .i64 v) ∧ ((wb.alloc (.cells #[.int .i64 x1, .int .i64 x2, .int .i64 x3] 3)).drew).cell? ⟨w.heap.size, 4, none⟩ = some (.int .i64 r)) ∧ (((wb.alloc (.cells #[.int .i64 x1, .int .i64 x2, .int .i64 x3] 3)).drew).cell? ⟨w.heap.size + 1, 0, none⟩ = some (.string (tx P')) ∧ ((wb.alloc (.cells #[.int .i64 x1, .int .i64 x2, .int .i64 x3] 3)).drew).cell? ⟨w.heap.size + 1, 1, none⟩ = some (.int .i64 v') ∧ ((wb.alloc (.cells #[.int .i64 x1, .int .i64 x2, .int .i64 x3] 3)).drew).cell? ⟨w.heap.size + 1, 4, none⟩ = some (.int .i64 r')) := by
    have hb : Below wb.heap.size wb ((wb.alloc (.cells #[.int .i64 x1, .int .i64 x2, .int .i64 x3] 3)).drew) := ((Below.refl _ _).alloc (Nat.le_refl _) _).drew
    obtain ⟨a0, a1, -, -, a4, -, -⟩ := file7 (below_obj' hb h1)
    obtain ⟨b0, b1, -, -, b4, -, -⟩ := file7 (below_obj' hb h2)
    exact ⟨⟨a0, a1, a4⟩, b0, b1, b4⟩
  clear hwb hB h1 h2 a0 a1 a4 b0 b1 b4 hx1 hx2 hx3 hc1 hc2 hc3 hor
  go_enter Tryd.func18, Tryd.ntmps18
  go_upto_region 1 with fail
  rw [← HW.out]
  go_region_held3 (fun y => (y.cell? ⟨w.heap.size, 0, none⟩ = some (.string (tx P)) ∧ y.cell? ⟨w.heap.size, 1, none⟩ = some (.int .i64 v) ∧ y.cell? ⟨w.heap.size, 4, none⟩ = some (.int .i64 r)) ∧ (y.cell? ⟨w.heap.size + 1, 0, none⟩ = some (.string (tx P')) ∧ y.cell? ⟨w.heap.size + 1, 1, none⟩ = some (.int .i64 v') ∧ y.cell? ⟨w.heap.size + 1, 4, none⟩ = some (.int .i64 r')))
    (first
      | (with_reducible exact hx0)
      | (with_reducible exact hx9))
    (first
      | (go_at_call 32; with_reducible refine (HC1.out wb.drew).mono ?_; rintro e w9 ⟨rfl, hw9⟩; subst hw9)
      | (go_at_call 33; with_reducible refine (HC2.out wb.drew).mono ?_; rintro e w9 ⟨rfl, hw9⟩; subst hw9)
      | (go_at_call 33; with_reducible refine (HC3.out wb.drew).mono ?_; rintro e w9 ⟨rfl, hw9⟩; subst hw9)
      | (go_at_call 31; with_reducible refine HOR.out.mono ?_; rintro e w9 ⟨rfl, hw9⟩; subst hw9))
  all_goals
    clear hx0 hx9
    go_wp2
    go_ret
    rw [HE.out]
    exact ⟨rfl, HB.out.trans (((Below.refl _ _).alloc (Nat.le_refl _) _).drew.mono HB.out.size)⟩
set_option maxRecDepth 100000 in
theorem same_any (P : Tx) (v z s r : Int) (b : Bool) (A : Option Addr) (m C : Nat) (P' : Tx) (v' z' s' r' : Int) (b' : Bool) (A' : Option Addr) (m' C' : Nat) (w : World) :
    Calls Tryd.prog 20 #[.agg #[.string (tx P), .int .i64 v, .int .i64 z, .int .i64 s, .int .i64 r, .bool b, .slice A m C], .agg #[.string (tx P'), .int .i64 v', .int .i64 z', .int .i64 s', .int .i64 r', .bool b', .slice A' m' C']] w fun e w' => e = .returned (.bool (P == P' && v == v')) ∧ Below w.heap.size w w' := by
  obtain ⟨wb, hwb⟩ : ∃ wb, wb = (w.alloc (fileO P v z s r b A m C)).alloc (fileO P' v' z' s' r' b' A' m' C') := ⟨_, rfl⟩
  obtain ⟨hB, h1, h2⟩ := two_files hwb
  obtain ⟨a0, a1, -, -, -, -, -⟩ := file7 h1
  obtain ⟨b0, b1, -, -, -, -, -⟩ := file7 h2
  have HB := Lib.hid hB
  have HW : Hid (wb = (w.alloc (.cells #[.string (tx P), .int .i64 v, .int .i64 z, .int .i64 s, .int .i64 r, .bool b, .slice A m C] 46)).alloc (.cells #[.string (tx P'), .int .i64 v', .int .i64 z', .int .i64 s', .int .i64 r', .bool b', .slice A' m' C'] 46)) := Lib.hid hwb
  rw [HW.out] at a0 a1 b0 b1
  have eP := tx_toList P
  have eP' := tx_toList P'
  have hcase : ((P == P') = true ∧ (P == P' && v == v') = (v == v')) ∨ ((P == P') = false ∧ (P == P' && v == v') = false) := by
    cases (P == P') <;> simp
  clear hwb hB h1 h2
  rcases hcase with ⟨q1, h⟩ | ⟨q1, h⟩
  all_goals
    have H := Lib.hid h
    clear h
    go_enter Tryd.func20, Tryd.ntmps20
    go_wp2
    go_ret
    rw [← HW.out, H.out]
    exact ⟨rfl, HB.out⟩
end Go.Proofs.YtbijjgicjkmopaaDoor
namespace Go.Proofs.YtbijjgicjkmopaaDoor
open Go.RowKit
open Pt (Tx)

def lessX (a b : Fx) : Bool := Ct.less a.f b.f
def sameX (a b : Fx) : Bool := Ct.same a.f b.f
/-- the row while x goes to its place among those that are sorted already -/
def going (a : List Fx) (x : Fx) (j : Nat) (rest : List Fx) : List Fx := a.take j ++ x :: (a.drop j ++ rest)
theorem going_len {a : List Fx} {x : Fx} {j : Nat} {rest : List Fx} (h : j ≤ a.length) : (going a x j rest).length = a.length + 1 + rest.length := by
  unfold going; simp; omega
theorem going_at {a : List Fx} {x : Fx} {j : Nat} {rest : List Fx} (h : j ≤ a.length) (hj : j < (going a x j rest).length) : (going a x j rest)[j] = x := by
  simp only [going]
  rw [List.getElem_append_right (by rw [List.length_take]; omega)]
  simp [Nat.min_eq_left h]
theorem going_before {a : List Fx} {x : Fx} {j : Nat} {rest : List Fx} (h : j + 1 ≤ a.length) (hj : j < (going a x (j + 1) rest).length) : (going a x (j + 1) rest)[j] = a[j] := by
  simp only [going]
  rw [List.getElem_append_left (by rw [List.length_take]; omega), List.getElem_take]
theorem going_start {a : List Fx} {x : Fx} {rest : List Fx} : a ++ x :: rest = going a x a.length rest := by
  unfold going; simp
/-- the two are exchanged -/
theorem going_swap {a : List Fx} {x : Fx} {j : Nat} {rest : List Fx} (h : j + 1 ≤ a.length) : ((going a x (j + 1) rest).set (j + 1) a[j]).set j x = going a x j rest := by
  unfold going
  have e1 : (a.take (j + 1)).length = j + 1 := by rw [List.length_take]; omega
  rw [List.set_append_right _ _ (by omega), e1, Nat.sub_self, List.set_cons_zero, List.take_succ_eq_append_getElem h]
  have e2 : (a.take j).length = j := by rw [List.length_take]; omega
  rw [List.append_assoc, List.set_append_right _ _ (by omega), e2, Nat.sub_self]
  have e3 : a.drop j = a[j] :: a.drop (j + 1) := List.drop_eq_getElem_cons h
  rw [e3]; rfl
/-- what the sort keeps: where the row lies, and what else is as it was -/
structure Sorts (w : World) (g off : Nat) (l : List Fx) (x : World) : Prop where
  sits : SitsF x g off l
  kp : Kp (· = g) w x
theorem Sorts.old {w x y : World} {g off : Nat} {l : List Fx} (h : Sorts w g off l x) (hb : Below x.heap.size x y) : Sorts w g off l y :=
  ⟨h.sits.old hb, h.kp.trans (Kp.of_below hb)⟩
theorem Sorts.drew {w x : World} {g off : Nat} {l : List Fx} (h : Sorts w g off l x) : Sorts w g off l x.drew := ⟨h.sits, h.kp.drew⟩
theorem Sorts.drewN {w x : World} {g off : Nat} {l : List Fx} (h : Sorts w g off l x) (n : Nat) : Sorts w g off l (x.drewN n) := ⟨h.sits, h.kp.drewN n⟩
theorem Sorts.set {w x : World} {g off : Nat} {l : List Fx} (h : Sorts w g off l x) {i : Nat} (hi : i < l.length) (s : Fx) :
    Sorts w g off (l.set i s) (((((((x.setCell ⟨g, off + i * 7, none⟩ (.string (tx s.f.path))).setCell ⟨g, off + i * 7 + 1, none⟩ (.int .i64 s.f.version)).setCell ⟨g, off + i * 7 + 2, none⟩ (.int .i64 s.f.size)).setCell ⟨g, off + i * 7 + 3, none⟩ (.int .i64 s.f.sum)).setCell ⟨g, off + i * 7 + 4, none⟩ (.int .i64 s.f.serial)).setCell ⟨g, off + i * 7 + 5, none⟩ (.bool s.f.gone)).setCell ⟨g, off + i * 7 + 6, none⟩ (.slice s.A s.f.parts.length s.C)) :=
  ⟨h.sits.set hi s, h.kp.trans (SitsF.kp_set ..)⟩
set_option maxRecDepth 100000 in
set_option maxHeartbeats 8000000 in
theorem insertion_any (g off : Nat) (l : List Fx) (n C : Nat) (w : World) (hn : n = l.length) (hm : n ≤ 1000) (h : SitsF w g off l) :
    Calls Tryd.prog 40 #[.slice (some ⟨g, off, none⟩) n C, .int .i64 0, .int .i64 (n : Int), .func (.func 18) #[] #[]] w fun e w' => e = .returned (.tuple #[]) ∧ Sorts w g off (Sr.isort lessX l) w' := by
  have HN := Lib.hid hn
  have H0 : Hid (Sorts w g off (Sr.isort lessX (l.take 1) ++ l.drop 1) w) := Lib.hid ⟨by
    rw [show Sr.isort lessX (l.take 1) = l.take 1 by cases l <;> rfl, List.take_append_drop]; exact h, Kp.refl _ _⟩
  clear h hn
  go_enter Tryd.func40, Tryd.ntmps40
  go_wp2
  go_loopw [8, 9] (fun vi vj wr => ∃ I : Nat, vi = .int .i64 (I : Int) ∧ 1 ≤ I ∧ I ≤ n + 1 ∧ Hid (Sorts w g off (Sr.isort lessX (l.take I) ++ l.drop I) wr)) (fun vi _ _ => n + 1 - (intOf vi).toNat)
  case atStart => exact ⟨1, rfl, Nat.le_refl _, by omega, H0⟩
  case round =>
    obtain ⟨I, rfl, hI1, hI, HS⟩ := hrel
    by_cases hlt : I < n
    · have e0 : decide ((I : Int) < (n : Int)) = true := decide_eq_true (by omega)
      have hltl : I < l.length := by rw [← HN.out]; exact hlt
      obtain ⟨x, hx⟩ : ∃ x, x = l[I] := ⟨_, rfl⟩
      obtain ⟨a, ha⟩ : ∃ a, a = Sr.isort lessX (l.take I) := ⟨_, rfl⟩
      have hal : a.length = I := by rw [ha, Sr.isort_len, List.length_take]; omega
      have HA := Lib.hid ha
      have HAL := Lib.hid hal
      have HX := Lib.hid hx
      obtain ⟨rest, hrest⟩ : ∃ r, r = l.drop (I + 1) := ⟨_, rfl⟩
      have HREST := Lib.hid hrest
      have HS1 : Hid (Sorts w g off (going a x I rest) wr) := Lib.hid (by
        have h1 := HS.out
        rw [← ha, List.drop_eq_getElem_cons hltl, ← hx, ← hrest, going_start, hal] at h1
        exact h1)
      have HT0 : Hid (∀ b ∈ a.drop I, lessX x b = true) := Lib.hid (by rw [List.drop_eq_nil_of_le (by omega)]; intro b hb; cases hb)
      have HEND : Hid (∀ j, (∀ b, (a.take j).getLast? = some b → lessX x b = false) → (∀ b ∈ a.drop j, lessX x b = true) → going a x j rest = Sr.isort lessX (l.take (I + 1)) ++ l.drop (I + 1)) := Lib.hid fun j h1 h2 => by
        have h3 := Sr.insR_at (lt := lessX) (x := x) h2 h1
        rw [List.take_append_drop] at h3
        rw [List.take_succ_eq_append_getElem hltl, Sr.isort_snoc, ← ha, ← hx, h3, ← hrest]
        unfold going; simp
      clear ha hal hx hrest HS
      obtain ⟨wo, rfl⟩ : ∃ x, x = wr := ⟨wr, rfl⟩
      go_wp2
      go_loopw [9] (fun vj wr => ∃ J : Nat, vj = .int .i64 (J : Int) ∧ J ≤ I ∧ Hid (Sorts w g off (going a x J rest) wr) ∧ Hid (∀ b ∈ a.drop J, lessX x b = true)) (fun vj _ => (intOf vj).toNat)
      case atStart => exact ⟨I, rfl, Nat.le_refl _, HS1, HT0⟩
      case round =>
        obtain ⟨J, rfl, hJ, HJ, HT⟩ := hrel
        by_cases h0 : J = 0
        · have e1 : decide ((0 : Int) < (J : Int)) = false := decide_eq_false (by omega)
          have e2 : decide (0 < J) = false := decide_eq_false (by omega)
          have HE : Hid (Sorts w g off (Sr.isort lessX (l.take (I + 1)) ++ l.drop (I + 1)) wr) := Lib.hid (by
            have h1 := HEND.out J (by rw [h0]; intro b hb; cases hb) HT.out
            rw [← h1]; exact HJ.out)
          clear h0
          go_wp2
          go_quiet (fail)
          go_wp2
          go_roundw
          case rel => exact ⟨I + 1, by go_num, by omega, by omega, Lib.hid (HE.out.drewN _)⟩
          case measure => simp [intOf]; omega
        · obtain ⟨K, hK⟩ : ∃ K, K = J - 1 := ⟨_, rfl⟩
          have e1 : decide ((0 : Int) < (J : Int)) = true := decide_eq_true (by omega)
          have e2 : decide (0 < J) = true := decide_eq_true (by omega)
          have hJK : J = K + 1 := by omega
          have HJK := Lib.hid hJK
          have hKa : K < a.length := by rw [HAL.out]; omega
          obtain ⟨y, hy⟩ : ∃ y, y = a[K] := ⟨_, rfl⟩
          have HY := Lib.hid hy
          have hgl : (going a x J rest).length = a.length + 1 + rest.length := going_len (by rw [HAL.out]; exact hJ)
          have fJ := HJ.out.sits.seven (i := J) (x := x) (by rw [hgl, HAL.out]; omega) (going_at (by rw [HAL.out]; exact hJ) _)
          have fK : Seven wr g (off + K * 7) y.f.path y.f.version y.f.size y.f.sum y.f.serial y.f.gone y.A y.f.parts.length y.C := HJ.out.sits.seven (i := K) (x := y) (by rw [hgl, HAL.out]; omega) (by
            rw [hy]
            have : ∀ (q : List Fx) (_ : q = going a x (K + 1) rest) (h : K < q.length), q[K] = a[K] := by
              rintro q rfl h; exact going_before (by omega) h
            exact this _ (by rw [hJK]) _)
          have s1 : IntKind.i64.wrap ((J : Int) - 1) = (K : Int) := by rw [IntWalk.i64_in _ (by omega)]; omega
          have HSW : Hid (((going a x J rest).set J y).set K x = going a x K rest) := Lib.hid (by rw [hJK, hy]; exact going_swap (by omega))
          have HLJ : Hid (J < (going a x J rest).length) := Lib.hid (by rw [hgl, HAL.out]; omega)
          have HLK : Hid (K < ((going a x J rest).set J y).length) := Lib.hid (by rw [List.length_set, hgl, HAL.out]; omega)
          have HKY : Hid (∀ h, ((going a x J rest).set J y)[K]'h = y) := Lib.hid fun h => by
            have : ∀ (q : List Fx) (_ : q = going a x (K + 1) rest) (h : K < q.length), q[K] = a[K] := by
              rintro q rfl h; exact going_before (by omega) h
            exact ((List.getElem_set_ne (by omega) _).trans (this _ (by rw [hJK]) _)).trans hy.symm
          have HSTOP : Hid (lessX x y = false → going a x J rest = Sr.isort lessX (l.take (I + 1)) ++ l.drop (I + 1)) := Lib.hid fun h1 => by
            refine HEND.out J (fun b hb => ?_) HT.out
            rw [hJK, List.take_succ_eq_append_getElem hKa, List.getLast?_concat] at hb
            cases hb
            rw [← hy]; exact h1
          have HMORE : Hid (lessX x y = true → ∀ b ∈ a.drop K, lessX x b = true) := Lib.hid fun h1 b hb => by
            rw [List.drop_eq_getElem_cons hKa, ← hy] at hb
            rcases List.mem_cons.1 hb with rfl | hb
            · exact h1
            · rw [← hJK] at hb; exact HT.out b hb
          have hJn : J < n := by omega
          have hKn : K < n := by omega
          have hJ1 : 0 < J := by omega
          have hKJ : K < J := by omega
          clear hy hgl HY hKa HEND hJK
          obtain ⟨⟨xP, xv, xz, xs, xr, xb, xl⟩, xA, xC⟩ := x
          obtain ⟨⟨yP, yv, yz, ys, yr, yb, yl⟩, yA, yC⟩ := y
          obtain ⟨xm, hxm⟩ : ∃ m, m = xl.length := ⟨_, rfl⟩
          obtain ⟨ym, hym⟩ : ∃ m, m = yl.length := ⟨_, rfl⟩
          dsimp only at fJ fK
          rw [← hxm] at fJ
          rw [← hym] at fK
          have HXM := Lib.hid hxm
          have HYM := Lib.hid hym
          have FJ := Lib.hid fJ
          have FK := Lib.hid fK
          clear hxm hym fJ fK hK
          have hbd : Below wr.heap.size wr wr.drew := (Below.refl _ _).drew
          have HF : Hid (∀ z, Below wr.heap.size wr z → Seven z g (off + J * 7) xP xv xz xs xr xb xA xm xC ∧ Seven z g (off + K * 7) yP yv yz ys yr yb yA ym yC ∧ Below wr.heap.size wr z) := Lib.hid fun z hz => ⟨FJ.out.old hz, FK.out.old hz, hz⟩
          have hx0 := HF.out _ hbd
          unfold Seven at hx0
          have hcall := compare_any xP xv xz xs xr xb xA xm xC yP yv yz ys yr yb yA ym yC wr.drew
          obtain ⟨cc, hcc⟩ : ∃ c, c = cmp3 xP xv xr yP yv yr := ⟨_, rfl⟩
          have hcm : decide (cc < 0) = lessX ⟨⟨xP, xv, xz, xs, xr, xb, xl⟩, xA, xC⟩ ⟨⟨yP, yv, yz, ys, yr, yb, yl⟩, yA, yC⟩ := by rw [hcc]; rfl
          rw [← hcc] at hcall
          have HCALL := Lib.hid hcall
          have HCM := Lib.hid hcm
          clear hcall hcm hcc
          go_wp2
          go_region_held3 (fun z => (z.cell? ⟨g, off + J * 7, none⟩ = some (.string (tx xP)) ∧ z.cell? ⟨g, off + J * 7 + 1, none⟩ = some (.int .i64 xv) ∧ z.cell? ⟨g, off + J * 7 + 2, none⟩ = some (.int .i64 xz) ∧ z.cell? ⟨g, off + J * 7 + 3, none⟩ = some (.int .i64 xs) ∧ z.cell? ⟨g, off + J * 7 + 4, none⟩ = some (.int .i64 xr) ∧ z.cell? ⟨g, off + J * 7 + 5, none⟩ = some (.bool xb) ∧ z.cell? ⟨g, off + J * 7 + 6, none⟩ = some (.slice xA xm xC)) ∧ (z.cell? ⟨g, off + K * 7, none⟩ = some (.string (tx yP)) ∧ z.cell? ⟨g, off + K * 7 + 1, none⟩ = some (.int .i64 yv) ∧ z.cell? ⟨g, off + K * 7 + 2, none⟩ = some (.int .i64 yz) ∧ z.cell? ⟨g, off + K * 7 + 3, none⟩ = some (.int .i64 ys) ∧ z.cell? ⟨g, off + K * 7 + 4, none⟩ = some (.int .i64 yr) ∧ z.cell? ⟨g, off + K * 7 + 5, none⟩ = some (.bool yb) ∧ z.cell? ⟨g, off + K * 7 + 6, none⟩ = some (.slice yA ym yC)) ∧ Below wr.heap.size wr z)
            (first
              | exact hx2
              | exact hx0)
            (first
              | (go_at_call 18; refine HCALL.out.mono ?_; rintro e w9 ⟨rfl, hb9⟩; have hx2 := HF.out w9 (hbd.trans hb9); unfold Seven at hx2))
          have HJ9 := Lib.hid (HJ.out.old hx2.2.2)
          have FJ9 := Lib.hid (FJ.out.old hx2.2.2)
          have FK9 := Lib.hid (FK.out.old hx2.2.2)
          clear HCALL hx2 hx0 hb9 hbd HF
          cases hlx : lessX ⟨⟨xP, xv, xz, xs, xr, xb, xl⟩, xA, xC⟩ ⟨⟨yP, yv, yz, ys, yr, yb, yl⟩, yA, yC⟩ with
          | true =>
            have q1 : decide (cc < 0) = true := by rw [HCM.out]; exact hlx
            have q2 : cc < 0 := of_decide_eq_true q1
            have HM9 := Lib.hid (HMORE.out hlx)
            have fr : ∀ k, w9.frozen? ⟨g, k, none⟩ = false := HJ9.out.sits.free
            have hset := (HJ9.out.set HLJ.out ⟨⟨yP, yv, yz, ys, yr, yb, yl⟩, yA, yC⟩).set HLK.out ⟨⟨xP, xv, xz, xs, xr, xb, xl⟩, xA, xC⟩
            rw [HSW.out] at hset
            dsimp only at hset
            rw [← HXM.out, ← HYM.out] at hset
            have HSET := Lib.hid hset
            have FR := Lib.hid fr
            clear hset hlx fr
            go_upto_region 6 with fail
            have fr := FR.out
            have f0 := fr (off + J * 7)
            have f1 := fr (off + J * 7 + 1)
            have f2 := fr (off + J * 7 + 2)
            have f3 := fr (off + J * 7 + 3)
            have f4 := fr (off + J * 7 + 4)
            have f5 := fr (off + J * 7 + 5)
            have f6 := fr (off + J * 7 + 6)
            have f7 := fr (off + K * 7)
            have f8 := fr (off + K * 7 + 1)
            have f9 := fr (off + K * 7 + 2)
            have f10 := fr (off + K * 7 + 3)
            have f11 := fr (off + K * 7 + 4)
            have f12 := fr (off + K * 7 + 5)
            have f13 := fr (off + K * 7 + 6)
            have hx := FJ9.out
            have hy := FK9.out
            unfold Seven at hx hy
            obtain ⟨x0, x1, x2, x3, x4, x5, x6⟩ := hx
            obtain ⟨y0, y1, y2, y3, y4, y5, y6⟩ := hy
            have hz : ∀ h, ((going a ⟨⟨xP, xv, xz, xs, xr, xb, xl⟩, xA, xC⟩ J rest).set J ⟨⟨yP, yv, yz, ys, yr, yb, yl⟩, yA, yC⟩)[K]'h = ⟨⟨yP, yv, yz, ys, yr, yb, yl⟩, yA, yC⟩ := HKY.out
            have z := (HJ9.out.set HLJ.out ⟨⟨yP, yv, yz, ys, yr, yb, yl⟩, yA, yC⟩).sits.seven HLK.out (hz _)
            dsimp only at z
            rw [← HYM.out] at z
            unfold Seven at z
            obtain ⟨z0, z1, z2, z3, z4, z5, z6⟩ := z
            clear fr hz
            go_region
            generalize ((((((((((((((w9.setCell ⟨g, off + J * 7, none⟩ (.string (tx yP))).setCell ⟨g, off + J * 7 + 1, none⟩ (.int .i64 yv)).setCell ⟨g, off + J * 7 + 2, none⟩ (.int .i64 yz)).setCell ⟨g, off + J * 7 + 3, none⟩ (.int .i64 ys)).setCell ⟨g, off + J * 7 + 4, none⟩ (.int .i64 yr)).setCell ⟨g, off + J * 7 + 5, none⟩ (.bool yb)).setCell ⟨g, off + J * 7 + 6, none⟩ (.slice yA ym yC)).setCell ⟨g, off + K * 7, none⟩ (.string (tx xP))).setCell ⟨g, off + K * 7 + 1, none⟩ (.int .i64 xv)).setCell ⟨g, off + K * 7 + 2, none⟩ (.int .i64 xz)).setCell ⟨g, off + K * 7 + 3, none⟩ (.int .i64 xs)).setCell ⟨g, off + K * 7 + 4, none⟩ (.int .i64 xr)).setCell ⟨g, off + K * 7 + 5, none⟩ (.bool xb)).setCell ⟨g, off + K * 7 + 6, none⟩ (.slice xA xm xC)) = ws at HSET ⊢
            clear x0 x1 x2 x3 x4 x5 x6 y0 y1 y2 y3 y4 y5 y6 z0 z1 z2 z3 z4 z5 z6 f0 f1 f2 f3 f4 f5 f6 f7 f8 f9 f10 f11 f12 f13
            go_wp2
            go_roundw
            case rel => exact ⟨K, by go_num, by omega, Lib.hid HSET.out.drew, HM9⟩
            case measure => simp [intOf]; omega
          | false =>
            have q1 : decide (cc < 0) = false := by rw [HCM.out]; exact hlx
            have q2 : ¬ cc < 0 := of_decide_eq_false q1
            have HS9 : Hid (Sorts w g off (Sr.isort lessX (l.take (I + 1)) ++ l.drop (I + 1)) w9) := Lib.hid (by
              rw [← HSTOP.out hlx]; exact HJ9.out)
            clear hlx
            go_wp2
            go_roundw
            case rel => exact ⟨I + 1, by go_num, by omega, by omega, HS9⟩
            case measure => simp [intOf]; omega
    · have e0 : decide ((I : Int) < (n : Int)) = false := decide_eq_false (by omega)
      have HE : Hid (Sorts w g off (Sr.isort lessX l) wr) := Lib.hid (by
        have h1 := HS.out
        rwa [List.take_of_length_le (by rw [← HN.out]; omega), List.drop_eq_nil_of_le (by rw [← HN.out]; omega), List.append_nil] at h1)
      go_wp2
      go_end0
      exact ⟨rfl, HE.out⟩
set_option maxHeartbeats 1000000 in
theorem stable_any (g off : Nat) (l : List Fx) (n C : Nat) (w : World) (hn : n = l.length) (hm : n < 20) (h : SitsF w g off l) :
    Calls Tryd.prog 30 #[.slice (some ⟨g, off, none⟩) n C, .int .i64 (n : Int), .func (.func 18) #[] #[]] w fun e w' => e = .returned (.tuple #[]) ∧ Sorts w g off (Sr.isort lessX l) w' := by
  have HC := Lib.hid (insertion_any g off l n C w hn (by omega) h)
  have e0 : decide ((20 : Int) ≤ (n : Int)) = false := decide_eq_false (by omega)
  have e1 : decide ((20 : Int) < (n : Int)) = false := decide_eq_false (by omega)
  have e2 : decide (20 ≤ n) = false := decide_eq_false (by omega)
  have e3 : decide (20 < n) = false := decide_eq_false (by omega)
  clear h hn
  go_enter Tryd.func30, Tryd.ntmps30
  go_wp2
  go_loopw [7, 8] (fun va vb wr => va = .int .i64 0 ∧ vb = .int .i64 20 ∧ Hid (wr = w)) (fun _ _ _ => 0)
  case atStart => exact ⟨rfl, rfl, Lib.hid rfl⟩
  case round =>
    obtain ⟨rfl, rfl, HW⟩ := hrel
    go_wp2_with fail
    rw [HW.out]
    refine HC.out.mono ?_
    rintro e w1 ⟨rfl, hs⟩
    have HS := Lib.hid hs
    clear hs
    go_wp2
    go_loopw [6, 7, 8, 9] (fun vz va vb vm wr => vz = .int .i64 20 ∧ Hid (wr = w1)) (fun _ _ _ _ _ => 0)
    case atStart => exact ⟨rfl, Lib.hid rfl⟩
    case round =>
      obtain ⟨rfl, HW1⟩ := hrel
      go_wp2
      go_end0
      rw [HW1.out]
      exact ⟨rfl, HS.out⟩
theorem sort_any (g off : Nat) (l : List Fx) (n C : Nat) (w : World) (hn : n = l.length) (hm : n < 20) (h : SitsF w g off l) :
    Calls Tryd.prog 17 #[.slice (some ⟨g, off, none⟩) n C, .func (.func 18) #[] #[]] w fun e w' => e = .returned (.tuple #[]) ∧ Sorts w g off (Sr.isort lessX l) w' := by
  have HC := Lib.hid (stable_any g off l n C w hn hm h)
  clear h hn
  go_enter Tryd.func17, Tryd.ntmps17
  go_wp2_with fail
  refine HC.out.mono ?_
  rintro e w1 ⟨rfl, hs⟩
  have HS := Lib.hid hs
  clear hs
  go_wp2
  go_end0
  exact ⟨rfl, HS.out⟩
end Go.Proofs.YtbijjgicjkmopaaDoor
