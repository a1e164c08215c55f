/- What the document's own SameFile and SameFiles answer of files that are alike: true. What the document's own PathParts, RightPath answer. What the document's own RightHead answers. What the document's own RightHead answers. -/
import Derived.Test.YtbijjgicjkmopaaDoorMat
import Derived.Test.YtbijjgicjkmopaaDoorMaq
import Derived.Test.YtbijjgicjkmopaaDoorMay
import Derived.BigQuiet
import Derived.Deep.QuietTactic
import Derived.Deep.RegionHeld3
import Derived.Deep.DeepFit
import Derived.Test.YtbijjgicjkmopaaDoorMak
import Derived.OwnWalk
import Derived.Maps.AppendAt
import Derived.Laws.AppendOwn
namespace Go.Proofs.YtbijjgicjkmopaaDoor
open Go.RowKit
open Pt (Tx)

set_option maxRecDepth 100000 in
set_option maxHeartbeats 8000000 in
theorem sameFile_yes (P : Tx) (v z s r : Int) (b : Bool) (pl : List Ct.P) (m : Nat) (A : Option Addr) (C : Nat) (A' : Option Addr) (C' : Nat) (G G' : Nat → Prop) (w : World) (hm : m = pl.length) (hm2 : m ≤ 1000000) (h : encQ.Rd w A pl G) (h' : encQ.Rd w A' pl G') :
    Calls Tryd.prog 21 #[.agg #[.string (tx P), .int .i64 v, .int .i64 z, .int .i64 s, .int .i64 r, .bool b, .slice A m C], .agg #[.string (tx P), .int .i64 v, .int .i64 z, .int .i64 s, .int .i64 r, .bool b, .slice A' m C']] w (AnsB true w) := by
  obtain ⟨wb, hwb⟩ : ∃ wb, wb = (w.alloc (fileO P v z s r b A m C)).alloc (fileO P v z s r b A' m C') := ⟨_, rfl⟩
  obtain ⟨hB, h1, h2⟩ := two_files hwb
  have HB := Lib.hid hB
  have HK1 := Lib.hid h1
  have HK2 := Lib.hid h2
  have HR1 := Lib.hid (h.old hB)
  have HR2 := Lib.hid (h'.old hB)
  have HM := Lib.hid hm
  have HW : Hid (wb = (w.alloc (.cells #[.string (tx P), .int .i64 v, .int .i64 z, .int .i64 s, .int .i64 r, .bool b, .slice A m C] 46)).alloc (.cells #[.string (tx P), .int .i64 v, .int .i64 z, .int .i64 s, .int .i64 r, .bool b, .slice A' m C'] 46)) := Lib.hid hwb
  clear hwb hB h1 h2 h h' hm
  have eP := tx_toList P
  go_enter Tryd.func21, Tryd.ntmps21
  go_upto_region 1 with fail
  rw [← HW.out]
  obtain ⟨a0, a1, a2, a3, a4, a5, a6⟩ := file7 HK1.out
  obtain ⟨b0, b1, b2, b3, b4, b5, b6⟩ := file7 HK2.out
  go_wp2
  clear a0 a1 a2 a3 a4 a5 b0 b1 b2 b3 b4 b5
  go_loopw [5] (fun vi wr => ∃ i : Nat, i ≤ m ∧ vi = .int .i64 (i : Int) ∧ Hid (Below wb.heap.size wb wr)) (fun vi _ => m - (intOf vi).toNat)
  case atStart => exact ⟨0, Nat.zero_le _, rfl, Lib.hid (Below.refl _ _)⟩
  case round =>
    obtain ⟨i, hi, rfl, HBR⟩ := hrel
    clear a6 b6
    obtain ⟨-, -, -, -, -, -, a6⟩ := file7 (below_obj' HBR.out HK1.out)
    obtain ⟨-, -, -, -, -, -, b6⟩ := file7 (below_obj' HBR.out HK2.out)
    by_cases hlt : i < m
    · have hlt' : i < pl.length := by rw [← HM.out]; exact hlt
      have e0 : decide ((i : Int) < (m : Int)) = true := decide_eq_true (by omega)
      have e0' : decide (i < m) = true := decide_eq_true hlt
      obtain ⟨g1, o1, rfl, -, t1⟩ := ten_of (HR1.out.old HBR.out) hlt'
      obtain ⟨g2, o2, rfl, -, t2⟩ := ten_of (HR2.out.old HBR.out) hlt'
      obtain ⟨⟨⟨Q, v1, z1, f1, l1, s1, m1, g1'⟩, lab, at_⟩, hx⟩ : ∃ x, x = pl[i] := ⟨_, rfl⟩
      rw [← hx] at t1 t2
      obtain ⟨c0, c1, c2, c3, c4, c5, c6, c7, c8, c9⟩ := t1
      obtain ⟨d0, d1, d2, d3, d4, d5, d6, d7, d8, d9⟩ := t2
      dsimp only at c0 c1 c2 c3 c4 c5 c6 c7 c8 c9 d0 d1 d2 d3 d4 d5 d6 d7 d8 d9
      have hneq := fun y => parts_neq Q v1 z1 f1 l1 s1 m1 g1' lab at_ y
      clear hx hlt'
      go_wp2
      go_quiet (fail)
      clear hneq c0 c1 c2 c3 c4 c5 c6 c7 c8 c9 d0 d1 d2 d3 d4 d5 d6 d7 d8 d9
      go_wp2
      go_roundw
      case rel => exact ⟨i + 1, by omega, by go_num, Lib.hid ⟨HBR.out.os, HBR.out.tape, HBR.out.output, HBR.out.size, HBR.out.block⟩⟩
      case measure => simp [intOf]; omega
    · have e0 : decide ((i : Int) < (m : Int)) = false := decide_eq_false (by omega)
      have e0' : decide (i < m) = false := decide_eq_false hlt
      go_wp2
      go_ret
      exact ⟨rfl, HB.out.trans (HBR.out.mono HB.out.size)⟩
set_option maxRecDepth 100000 in
set_option maxHeartbeats 8000000 in
theorem sameFiles_yes (fs : List Ct.F) (n : Nat) (xs ys : List Fx) (A : Option Addr) (C : Nat) (A' : Option Addr) (C' : Nat) (G G' : Nat → Prop) (w : World) (hn : n = fs.length) (hm : n ≤ 1000000) (hx : xs.map (fun x => x.f) = fs) (hy : ys.map (fun x => x.f) = fs)
    (h : encF.Rd w A xs G) (h' : encF.Rd w A' ys G') (ho : ∀ x ∈ xs, x.Ok w (fun _ => True)) (ho' : ∀ x ∈ ys, x.Ok w (fun _ => True)) (hl : ∀ f ∈ fs, f.parts.length ≤ 1000000) :
    Calls Tryd.prog 9 #[.slice A n C, .slice A' n C'] w (AnsB true w) := by
  have HN := Lib.hid hn
  have HX := Lib.hid hx
  have HY := Lib.hid hy
  have HR := Lib.hid h
  have HR' := Lib.hid h'
  have HO := Lib.hid ho
  have HO' := Lib.hid ho'
  have HL := Lib.hid hl
  clear hn hx hy h h' ho ho' hl
  go_enter Tryd.func9, Tryd.ntmps9
  go_wp2
  go_loopw [5] (fun vi wr => ∃ i : Nat, i ≤ n ∧ vi = .int .i64 (i : Int) ∧ Hid (Below w.heap.size w wr)) (fun vi _ => n - (intOf vi).toNat)
  case atStart => exact ⟨0, Nat.zero_le _, rfl, Lib.hid (Below.refl _ _)⟩
  case round =>
    obtain ⟨i, hi, rfl, HB⟩ := hrel
    by_cases hlt : i < n
    · have e0 : decide ((i : Int) < (n : Int)) = true := decide_eq_true (by omega)
      have e0' : decide (i < n) = true := decide_eq_true hlt
      have hxl : xs.length = n := by rw [HN.out, ← HX.out, List.length_map]
      have hyl : ys.length = n := by rw [HN.out, ← HY.out, List.length_map]
      have hix : i < xs.length := by omega
      have hiy : i < ys.length := by omega
      obtain ⟨b1, o1, rfl, -, c1⟩ := (HR.out.old HB.out).at_ hix
      obtain ⟨b2, o2, rfl, -, c2⟩ := (HR'.out.old HB.out).at_ hiy
      have okx := (HO.out xs[i] (List.getElem_mem hix)).old HB.out
      have oky := (HO'.out ys[i] (List.getElem_mem hiy)).old HB.out
      have hff : xs[i].f = ys[i].f := by
        have h1 := congrArg (fun l => l[i]?) (HX.out.trans HY.out.symm)
        simp only [List.getElem?_map, List.getElem?_eq_getElem hix, List.getElem?_eq_getElem hiy, Option.map_some] at h1
        exact Option.some.inj h1
      have hpl : xs[i].f.parts.length ≤ 1000000 := HL.out _ (by rw [← HX.out]; exact List.mem_map.2 ⟨xs[i], List.getElem_mem hix, rfl⟩)
      obtain ⟨⟨f1, A1, C1⟩, hq1⟩ : ∃ x, x = xs[i] := ⟨_, rfl⟩
      obtain ⟨⟨f2, A2, C2⟩, hq2⟩ : ∃ x, x = ys[i] := ⟨_, rfl⟩
      rw [← hq1] at c1 okx hff hpl
      rw [← hq2] at c2 oky hff
      dsimp only at hff
      subst hff
      obtain ⟨P, v, z, s, r, b, pl⟩ := f1
      obtain ⟨M, hM⟩ : ∃ M, M = pl.length := ⟨_, rfl⟩
      have rdx : encQ.Rd wr A1 pl (fun _ => True) := okx.rd
      have rdy : encQ.Rd wr A2 pl (fun _ => True) := oky.rd
      have hpl' : M ≤ 1000000 := by rw [hM]; exact hpl
      have HRX := Lib.hid rdx
      have HRY := Lib.hid rdy
      have HM := Lib.hid hM
      have s1 : Seven wr b1 (o1 + i * 7) P v z s r b A1 M C1 := by rw [hM]; exact ⟨c1 0 _ rfl, c1 1 _ rfl, c1 2 _ rfl, c1 3 _ rfl, c1 4 _ rfl, c1 5 _ rfl, c1 6 _ rfl⟩
      have s2 : Seven wr b2 (o2 + i * 7) P v z s r b A2 M C2 := by rw [hM]; exact ⟨c2 0 _ rfl, c2 1 _ rfl, c2 2 _ rfl, c2 3 _ rfl, c2 4 _ rfl, c2 5 _ rfl, c2 6 _ rfl⟩
      have hbd : Below wr.heap.size wr wr.drew := (Below.refl _ _).drew
      have S1 := Lib.hid s1
      have S2 := Lib.hid s2
      have HF : Hid (∀ y, Below wr.heap.size wr y → (y.cell? ⟨b1, o1 + i * 7, none⟩ = some (.string (tx P)) ∧ y.cell? ⟨b1, o1 + i * 7 + 1, none⟩ = some (.int .i64 v) ∧ y.cell? ⟨b1, o1 + i * 7 + 2, none⟩ = some (.int .i64 z) ∧ y.cell? ⟨b1, o1 + i * 7 + 3, none⟩ = some (.int .i64 s) ∧ y.cell? ⟨b1, o1 + i * 7 + 4, none⟩ = some (.int .i64 r) ∧ y.cell? ⟨b1, o1 + i * 7 + 5, none⟩ = some (.bool b) ∧ y.cell? ⟨b1, o1 + i * 7 + 6, none⟩ = some (.slice A1 M C1)) ∧ (y.cell? ⟨b2, o2 + i * 7, none⟩ = some (.string (tx P)) ∧ y.cell? ⟨b2, o2 + i * 7 + 1, none⟩ = some (.int .i64 v) ∧ y.cell? ⟨b2, o2 + i * 7 + 2, none⟩ = some (.int .i64 z) ∧ y.cell? ⟨b2, o2 + i * 7 + 3, none⟩ = some (.int .i64 s) ∧ y.cell? ⟨b2, o2 + i * 7 + 4, none⟩ = some (.int .i64 r) ∧ y.cell? ⟨b2, o2 + i * 7 + 5, none⟩ = some (.bool b) ∧ y.cell? ⟨b2, o2 + i * 7 + 6, none⟩ = some (.slice A2 M C2)) ∧ Below wr.heap.size wr y) := Lib.hid fun y hy => ⟨S1.out.old hy, S2.out.old hy, hy⟩
      have hx0 := HF.out _ hbd
      have HC := Lib.hid (sameFile_yes P v z s r b pl M A1 C1 A2 C2 _ _ wr.drew hM hpl' (HRX.out.old hbd) (HRY.out.old hbd))
      clear c1 c2 okx oky hpl hq1 hq2 hM rdx rdy s1 s2 hxl hyl hix hiy
      go_wp2
      go_region_held3 (fun y => (y.cell? ⟨b1, o1 + i * 7, none⟩ = some (.string (tx P)) ∧ y.cell? ⟨b1, o1 + i * 7 + 1, none⟩ = some (.int .i64 v) ∧ y.cell? ⟨b1, o1 + i * 7 + 2, none⟩ = some (.int .i64 z) ∧ y.cell? ⟨b1, o1 + i * 7 + 3, none⟩ = some (.int .i64 s) ∧ y.cell? ⟨b1, o1 + i * 7 + 4, none⟩ = some (.int .i64 r) ∧ y.cell? ⟨b1, o1 + i * 7 + 5, none⟩ = some (.bool b) ∧ y.cell? ⟨b1, o1 + i * 7 + 6, none⟩ = some (.slice A1 M C1)) ∧ (y.cell? ⟨b2, o2 + i * 7, none⟩ = some (.string (tx P)) ∧ y.cell? ⟨b2, o2 + i * 7 + 1, none⟩ = some (.int .i64 v) ∧ y.cell? ⟨b2, o2 + i * 7 + 2, none⟩ = some (.int .i64 z) ∧ y.cell? ⟨b2, o2 + i * 7 + 3, none⟩ = some (.int .i64 s) ∧ y.cell? ⟨b2, o2 + i * 7 + 4, none⟩ = some (.int .i64 r) ∧ y.cell? ⟨b2, o2 + i * 7 + 5, none⟩ = some (.bool b) ∧ y.cell? ⟨b2, o2 + i * 7 + 6, none⟩ = some (.slice A2 M C2)) ∧ Below wr.heap.size wr y)
        (first
          | (with_reducible exact hx2)
          | (with_reducible exact hx0))
        (first
          | (go_at_call 21; refine HC.out.mono ?_; rintro e w9 ⟨rfl, hb9⟩; have hx2 := HF.out w9 (hbd.trans hb9)))
      have HB9 := Lib.hid (HB.out.trans (hx2.2.2.mono HB.out.size))
      clear hx0 hx2 hb9 hbd HF HC
      go_wp2
      go_roundw
      case rel => exact ⟨i + 1, by omega, by go_num, HB9⟩
      case measure => simp [intOf]; omega
    · have e0 : decide ((i : Int) < (n : Int)) = false := decide_eq_false (by omega)
      have e0' : decide (i < n) = false := decide_eq_false hlt
      go_wp2
      go_ret
      exact ⟨rfl, HB.out⟩
end Go.Proofs.YtbijjgicjkmopaaDoor
namespace Go.Proofs.YtbijjgicjkmopaaDoor
open Go.RowKit
open Pt (Tx)

theorem infoText : (Tryd.prog.info? 9).map (fun i => (i.zero, i.size, i.bytes)) = some (some (.string ByteArray.empty), 1, 16) := by kernel_rfl
theorem oneText (x : ByteArray) : ∀ u ∈ [Value.string x], u.oneCell' = true := by
  intro u hu; simp at hu; subst hu; rfl
theorem cellsT_snoc (ps : List Tx) (p : Tx) : cellsT ps ++ [.string (tx p)] = cellsT (ps ++ [p]) := by simp [cellsT]
/-- how far the loop is -/
def Far (s : Tx) (i : Nat) (p : Tx) (done : List Tx) : Prop :=
  done.length ≤ i ∧ p.length ≤ i ∧ p.all Pt.ok = true ∧ done.all Pt.part = true ∧ (i ≤ s.length → Pt.cut s = done ++ Pt.cutW p (s.drop i)) ∧ (s.length < i → Pt.cut s = done)
theorem Far.start (s : Tx) : Far s 0 [] [] := ⟨Nat.le_refl _, Nat.le_refl _, rfl, rfl, fun _ => rfl, fun h => absurd h (by omega)⟩
theorem Far.step {s : Tx} {i : Nat} {p : Tx} {done : List Tx} (h : Far s i p done) (hi : i < s.length) (hc : Pt.ok s[i] = true) : Far s (i + 1) (p ++ [s[i]]) done := by
  obtain ⟨h1, h2, h3, h4, h5, h6⟩ := h
  refine ⟨by omega, by simp; omega, by rw [List.all_append, h3]; simp [hc], h4, fun _ => ?_, fun h => absurd h (by omega)⟩
  rw [h5 (by omega), List.drop_eq_getElem_cons hi, Pt.cutW, if_neg]
  intro e; rw [e, Pt.ok_sep] at hc; cases hc
theorem Far.cut {s : Tx} {i : Nat} {p : Tx} {done : List Tx} (h : Far s i p done) (hi : i < s.length) (hc : s[i] = 47) (hp : Pt.part p = true) : Far s (i + 1) [] (done ++ [p]) := by
  obtain ⟨h1, h2, h3, h4, h5, h6⟩ := h
  refine ⟨by simp; omega, by simp, rfl, by rw [List.all_append, h4]; simp [hp], fun _ => ?_, fun h => absurd h (by omega)⟩
  rw [h5 (by omega), List.drop_eq_getElem_cons hi, Pt.cutW, if_pos hc]; simp
theorem Far.last {s : Tx} {i : Nat} {p : Tx} {done : List Tx} (h : Far s i p done) (hi : i = s.length) (hp : Pt.part p = true) : Far s (i + 1) [] (done ++ [p]) := by
  obtain ⟨h1, h2, h3, h4, h5, h6⟩ := h
  refine ⟨by simp; omega, by simp, rfl, by rw [List.all_append, h4]; simp [hp], fun h => absurd h (by omega), fun _ => ?_⟩
  rw [h5 (by omega), List.drop_of_length_le (by omega)]; rfl
theorem Far.badByte {s : Tx} {i : Nat} {p : Tx} {done : List Tx} (h : Far s i p done) (hi : i < s.length) (hc : Pt.ok s[i] = false) (hn : s[i] ≠ 47) : Pt.parts s = [] := by
  obtain ⟨h1, h2, h3, h4, h5, h6⟩ := h
  refine Pt.parts_wrong (Pt.right_false_of ?_)
  rw [h5 (by omega), List.drop_eq_getElem_cons hi, Pt.cutW, if_neg hn]
  exact Pt.all_append_bad (Pt.all_bad _ _ (by rw [List.all_append]; simp [hc]))
theorem Far.badPart {s : Tx} {i : Nat} {p : Tx} {done : List Tx} (h : Far s i p done) (hi : i ≤ s.length) (hc : ∀ h : i < s.length, s[i] = 47) (hp : Pt.part p = false) : Pt.parts s = [] := by
  obtain ⟨h1, h2, h3, h4, h5, h6⟩ := h
  refine Pt.parts_wrong (Pt.right_false_of ?_)
  rw [h5 (by omega)]
  refine Pt.all_append_bad ?_
  by_cases hlt : i < s.length
  · rw [List.drop_eq_getElem_cons hlt, Pt.cutW, if_pos (hc hlt), List.all_cons, hp]; rfl
  · rw [List.drop_of_length_le (by omega)]
    simp [Pt.cutW, hp]
theorem Far.done {s : Tx} {i : Nat} {p : Tx} {done : List Tx} (h : Far s i p done) (hi : s.length < i) (h0 : 1 ≤ s.length) (h1 : s.length ≤ 24) : Pt.parts s = done := by
  have e := h.2.2.2.2.2 hi
  rw [Pt.parts_right (Pt.right_iff.2 ⟨h0, h1, by rw [e]; exact h.2.2.2.1⟩), e]
theorem part_of {p : Tx} (h : p.all Pt.ok = true) : Pt.part p = (!p.isEmpty && !(p == [46]) && !(p == [46, 46])) := by
  unfold Pt.part
  rw [h]
  cases p <;> simp
theorem ok_cases {c : UInt8} {x : Int} (hx : x = (c.toNat : Int)) (h : Pt.ok c = true) : (97 ≤ x ∧ x ≤ 122) ∨ (48 ≤ x ∧ x ≤ 57) ∨ x = 46 ∨ x = 45 ∨ x = 95 := by
  rw [← okI_ok, ← hx] at h
  simp only [okI, Bool.or_eq_true, Bool.and_eq_true, decide_eq_true_eq, beq_iff_eq] at h
  omega
theorem bad_cases {c : UInt8} {x : Int} (hx : x = (c.toNat : Int)) (h : Pt.ok c = false) : ((x < 48 ∧ x ≠ 46 ∧ x ≠ 45) ∨ (57 < x ∧ x < 97 ∧ x ≠ 95) ∨ 122 < x) := by
  rw [← okI_ok, ← hx] at h
  have h' : ¬ okI x = true := by rw [h]; simp
  simp only [okI, Bool.or_eq_true, Bool.and_eq_true, decide_eq_true_eq, beq_iff_eq] at h'
  omega
theorem bad_facts {c : UInt8} {x : Int} (hx : x = (c.toNat : Int)) (h : Pt.ok c = false) : (decide (97 ≤ x) = false ∧ decide (48 ≤ x) = false) ∨ (decide (97 ≤ x) = false ∧ decide (48 ≤ x) = true ∧ decide (x ≤ 57) = false) ∨ (decide (97 ≤ x) = true ∧ decide (x ≤ 122) = false ∧ decide (48 ≤ x) = true ∧ decide (x ≤ 57) = false) := by
  have := bad_cases hx h
  simp only [decide_eq_true_eq, decide_eq_false_iff_not]
  omega
theorem bad_three {c : UInt8} {x : Int} (hx : x = (c.toNat : Int)) (h : Pt.ok c = false) : (x == 46) = false ∧ (x == 45) = false ∧ (x == 95) = false := by
  have := bad_cases hx h
  refine ⟨beq_eq_false_iff_ne.2 (by omega), beq_eq_false_iff_ne.2 (by omega), beq_eq_false_iff_ne.2 (by omega)⟩
theorem sep_iff {c : UInt8} : (c.toNat : Int) = 47 ↔ c = 47 := by
  constructor
  · intro h; exact UInt8.toNat.inj (by have : c.toNat = 47 := by omega
                                       rw [this]; rfl)
  · rintro rfl; rfl
set_option maxRecDepth 100000 in
set_option maxHeartbeats 8000000 in
theorem refParts_any (s : Tx) (w : World) (hl : s.length ≤ maxLen) :
    Calls Tryd.prog 37 #[.string (tx s)] w (TxAns (Pt.parts s) w) := by
  unfold maxLen at hl
  have es := tx_size s
  by_cases h1 : s.length < 1
  · have H : Hid (Pt.parts s = []) := Lib.hid (Pt.parts_wrong (by unfold Pt.right; simp [show ¬ 1 ≤ s.length by omega]))
    go_enter Tryd.func37, Tryd.ntmps37
    go_wp2
    go_ret
    rw [H.out]
    exact TxAns.empty (Below.refl _ _)
  by_cases h2 : 24 < s.length
  · have H : Hid (Pt.parts s = []) := Lib.hid (Pt.parts_wrong (by unfold Pt.right; simp [show ¬ s.length ≤ 24 by omega]))
    have q1 : decide (s.length < 1) = false := decide_eq_false h1
    go_enter Tryd.func37, Tryd.ntmps37
    go_wp2
    go_ret
    rw [H.out]
    exact TxAns.empty (Below.refl _ _)
  have z1 : decide (s.length < 1) = false := decide_eq_false h1
  have z2 : decide ((s.length : Int) < 1) = false := decide_eq_false (by omega)
  have z3 : decide (24 < s.length) = false := decide_eq_false h2
  have z4 : decide (24 < (s.length : Int)) = false := decide_eq_false (by omega)
  go_enter Tryd.func37, Tryd.ntmps37
  go_wp2
  clear z1 z2 z3 z4
  go_loopw [5, 4, 3] (fun vi vw vl wr => ∃ (i : Nat) (p : Tx) (done : List Tx), i ≤ s.length + 1 ∧ vi = .int .i64 (i : Int) ∧ vw = .string (tx p) ∧ Hid (wr.ownsRow w.heap.size 9 1 vl done.length (cellsT done)) ∧ Hid (Far s i p done) ∧ Hid (Below w.heap.size w wr)) (fun vi _ _ _ => s.length + 1 - (intOf vi).toNat)
  case atStart => exact ⟨0, [], [], by omega, rfl, rfl, Lib.hid (World.ownsRow_nil _ _ _ _), Lib.hid (Far.start s), Lib.hid (Below.refl _ _)⟩
  case round =>
    obtain ⟨i, p, done, hi, rfl, rfl, HO, HF, HB⟩ := hrel
    by_cases hlt : i ≤ s.length
    · by_cases hlast : i = s.length
      · have q1 : ((i : Int) == (s.length : Int)) = true := by rw [hlast]; exact beq_self_eq_true _
        have HC : Hid (∀ h : i < s.length, s[i] = 47) := Lib.hid (fun h => absurd h (by omega))
        have HL : Hid (Pt.part p = true → Far s (i + 1) [] (done ++ [p])) := Lib.hid (HF.out.last hlast)
        have el := tx_toList p
        have HP : Hid (Pt.part p = (!p.isEmpty && !(p == [46]) && !(p == [46, 46]))) := Lib.hid (part_of HF.out.2.2.1)
        have hd : done.length ≤ i := HF.out.1
        clear hlast
        cases t1 : p.isEmpty <;> cases t2 : (p == [46]) <;> cases t3 : (p == [46, 46])
        · have HG := Lib.hid (HL.out (by rw [HP.out, t1, t2, t3]; rfl))
          obtain ⟨i0, hi0, hz0, hz1, hz2⟩ := info_parts infoText
          have hlow : w.heap.size ≤ wr.heap.size := HB.out.size
          have hown := HO.out
          go_wp2_with (at_builtin; refine wpList_append_own _ rfl _ _ 86 rfl w.heap.size 9 i0 (.string ByteArray.empty) 1 16 Tryd.underlying86 hi0 hz0 hz1 hz2 rfl (by decide) _ _ _ rfl (hown.alloc _) ⟨wr.heap.size, 0, none⟩ 1 1 [.string (tx p)] rfl rfl (cell_one_new _ _ _) (oneText _) (by unfold maxLen; omega) (by omega) (by simp; omega) ?_)
          intro v' w3 hown' hgrow _
          have HO3 : Hid (w3.ownsRow w.heap.size 9 1 v' (done ++ [p]).length (cellsT (done ++ [p]))) := by
            rw [← cellsT_snoc, List.length_append]
            exact Lib.hid hown'
          have HB3 := Lib.hid ((HB.out.alloc hlow _).grown hgrow (by simp; omega) (fun x hx => (HO.out.lt x hx).1))
          clear hown' hgrow hown
          go_wp2
          go_roundw
          case rel => exact ⟨i + 1, [], done ++ [p], by omega, by go_num, rfl, HO3, HG, HB3⟩
          case measure => simp [intOf]; omega
        all_goals
          have H : Hid (Pt.parts s = []) := Lib.hid (HF.out.badPart hlt HC.out (by rw [HP.out, t1, t2, t3]; rfl))
          go_wp2
          go_ret
          rw [H.out]
          exact TxAns.empty HB.out
      · have hlt' : i < s.length := by omega
        have q1 : ((i : Int) == (s.length : Int)) = false := beq_eq_false_iff_ne.2 (by omega)
        obtain ⟨x, hx⟩ : ∃ x : Int, x = (s[i].toNat : Int) := ⟨_, rfl⟩
        have hg : ∀ h : i < (tx s).size, (((tx s)[i]'h).toNat : Int) = x := fun h => by rw [tx_get s i h hlt', hx]
        by_cases hsep : s[i] = 47
        · have q2 : (x == 47) = true := beq_iff_eq.2 (by rw [hx]; exact sep_iff.2 hsep)
          have HC : Hid (∀ h : i < s.length, s[i] = 47) := Lib.hid (fun h => hsep)
          have HL : Hid (Pt.part p = true → Far s (i + 1) [] (done ++ [p])) := Lib.hid (HF.out.cut hlt' hsep)
          have el := tx_toList p
          have HP : Hid (Pt.part p = (!p.isEmpty && !(p == [46]) && !(p == [46, 46]))) := Lib.hid (part_of HF.out.2.2.1)
          have hd : done.length ≤ i := HF.out.1
          clear hsep hx hlast
          cases t1 : p.isEmpty <;> cases t2 : (p == [46]) <;> cases t3 : (p == [46, 46])
          · have HG := Lib.hid (HL.out (by rw [HP.out, t1, t2, t3]; rfl))
            obtain ⟨i0, hi0, hz0, hz1, hz2⟩ := info_parts infoText
            have hlow : w.heap.size ≤ wr.heap.size := HB.out.size
            have hown := HO.out
            go_wp2_with (at_builtin; refine wpList_append_own _ rfl _ _ 86 rfl w.heap.size 9 i0 (.string ByteArray.empty) 1 16 Tryd.underlying86 hi0 hz0 hz1 hz2 rfl (by decide) _ _ _ rfl (hown.alloc _) ⟨wr.heap.size, 0, none⟩ 1 1 [.string (tx p)] rfl rfl (cell_one_new _ _ _) (oneText _) (by unfold maxLen; omega) (by omega) (by simp; omega) ?_)
            intro v' w3 hown' hgrow _
            have HO3 : Hid (w3.ownsRow w.heap.size 9 1 v' (done ++ [p]).length (cellsT (done ++ [p]))) := by
              rw [← cellsT_snoc, List.length_append]
              exact Lib.hid hown'
            have HB3 := Lib.hid ((HB.out.alloc hlow _).grown hgrow (by simp; omega) (fun x hx => (HO.out.lt x hx).1))
            clear hown' hgrow hown
            go_wp2
            go_roundw
            case rel => exact ⟨i + 1, [], done ++ [p], by omega, by go_num, rfl, HO3, HG, HB3⟩
            case measure => simp [intOf]; omega
          all_goals
            have H : Hid (Pt.parts s = []) := Lib.hid (HF.out.badPart hlt HC.out (by rw [HP.out, t1, t2, t3]; rfl))
            go_wp2
            go_ret
            rw [H.out]
            exact TxAns.empty HB.out
        · have q2 : (x == 47) = false := beq_eq_false_iff_ne.2 (fun e => hsep (sep_iff.1 (by rw [← hx]; exact e)))
          cases hok : Pt.ok s[i] with
          | false =>
            have H : Hid (Pt.parts s = []) := Lib.hid (HF.out.badByte hlt' hok hsep)
            obtain ⟨q46, q45, q95⟩ := bad_three hx hok
            rcases bad_facts hx hok with ⟨d97, d48⟩ | ⟨d97, d48, d57⟩ | ⟨d97, d122, d48, d57⟩
            all_goals
              clear hx hok hsep hlast
              go_wp2
              go_ret
              rw [H.out]
              exact TxAns.empty HB.out
          | true =>
            have HG := Lib.hid (HF.out.step hlt' hok)
            have hpl : p.length ≤ i := HF.out.2.1
            have ep := tx_size p
            have ee : (tx s).extract i (i + 1) = tx [s[i]] := by
              rw [tx_extract, List.drop_eq_getElem_cons hlt', show i + 1 - i = 1 by omega]; rfl
            have e1 : (tx [s[i]]).size = 1 := tx_size _
            have ea : tx p ++ tx [s[i]] = tx (p ++ [s[i]]) := tx_append _ _
            rcases ok_cases hx hok with ⟨b1, b2⟩ | ⟨b1, b2⟩ | b1 | b1 | b1
            all_goals
              clear hx hok hsep hlast
              go_wp2
              go_roundw
              case rel => exact ⟨i + 1, p ++ [s[i]], done, by omega, by go_num, rfl, HO, HG, HB⟩
              case measure => simp [intOf]; omega
    · have H : Hid (Pt.parts s = done) := Lib.hid (HF.out.done (by omega) (by omega) (by omega))
      obtain ⟨A, c, rfl, hr⟩ := TxR.of_owns HO.out
      have HR := Lib.hid hr
      clear hr
      go_wp2
      go_ret
      rw [H.out]
      exact ⟨A, c, rfl, HR.out, HB.out⟩
theorem refRight_any (s : Tx) (w : World) (hl : s.length ≤ maxLen) :
    Calls Tryd.prog 26 #[.string (tx s)] w fun e w' => e = .returned (.bool (Pt.right s)) ∧ Below w.heap.size w w' := by
  have hn : (Pt.parts s).length ≤ s.length + 1 := by
    unfold Pt.parts
    split
    · exact cut_few s
    · simp
  have HL := Lib.hid hl
  have H : Hid (decide (0 < (Pt.parts s).length) = Pt.right s) := Lib.hid (by rw [Bool.eq_iff_iff, decide_eq_true_eq]; exact Pt.parts_len)
  clear hl hn
  go_enter Tryd.func26, Tryd.ntmps26
  go_wp2_with fail
  refine (refParts_any s _ HL.out).mono ?_
  rintro e w1 ⟨A, c, rfl, _, hb⟩
  have HB := Lib.hid hb
  clear hb
  go_wp2
  go_ret
  exact ⟨retB (by rw [← H.out]), HB.out⟩
end Go.Proofs.YtbijjgicjkmopaaDoor
namespace Go.Proofs.YtbijjgicjkmopaaDoor
open Go.RowKit
open Pt (Tx)

set_option maxHeartbeats 8000000 in
theorem refRight_A (p : Tx) (v z f l s m : Int) (g : Bool) (w : World) (hl : p.length ≤ maxLen) (h : Pt.right p = false ∨ v < 1 ∨ 1073741824 < v ∨ s < 1 ∨ 1073741824 < s ∨ z < 0) :
    Calls Tryd.prog 14 #[.agg #[.string (tx p), .int .i64 v, .int .i64 z, .int .i64 f, .int .i64 l, .int .i64 s, .int .i64 m, .bool g]] w (AnsB (decide (Rc.Ok ⟨p, v, z, f, l, s, m, g⟩)) w) := by
  have HB0 : Hid (Below w.heap.size w (w.alloc (headObj p v z f l s m g))) := Lib.hid ((Below.refl _ _).alloc (Nat.le_refl _) _)
  have HU0 : Hid ((w.alloc (headObj p v z f l s m g)).heap[w.heap.size]? = some (headObj p v z f l s m g)) := Lib.hid (Go.Deep.blk_alloc_new _ _)
  have hcall := refRight_any p (w.alloc (headObj p v z f l s m g)) hl
  obtain ⟨r, hr⟩ : ∃ r, r = Pt.right p := ⟨_, rfl⟩
  rw [← hr] at hcall
  have HC := Lib.hid hcall
  have HR := Lib.hid hr
  clear hl hcall
  obtain ⟨a0, a1, a2, a3, a4, a5, a6, a7⟩ := head8 HU0.out
  unfold headObj at a0 a1 a2 a3 a4 a5 a6 a7 HC
  clear hr
  cases r with
  | false =>
    have HF : Hid (decide (Rc.Ok ⟨p, v, z, f, l, s, m, g⟩) = false) := Lib.hid (decide_eq_false fun hk => by
      exact absurd hk.1 (by rw [show Pt.right _ = false from HR.out.symm]; decide))
    go_enter Tryd.func14, Tryd.ntmps14
    dsimp only [List.append]
    go_wp2_with fail
    refine HC.out.mono ?_
    rintro e w1 ⟨rfl, hb⟩
    have HU1 := Lib.hid (below_head hb HU0.out)
    have HB1 := Lib.hid (HB0.out.trans (hb.mono HB0.out.size))
    clear hb a0 a1 a2 a3 a4 a5 a6 a7
    obtain ⟨a0, a1, a2, a3, a4, a5, a6, a7⟩ := head8 HU1.out
    go_wp2
    all_goals go_ret
    all_goals rw [HF.out]
    all_goals exact ⟨rfl, HB1.out⟩
  | true =>
    by_cases c1 : v < 1
    · have q1 : decide (v < 1) = true := decide_eq_true c1
      have HF : Hid (decide (Rc.Ok ⟨p, v, z, f, l, s, m, g⟩) = false) := Lib.hid (decide_eq_false fun hk => by
        obtain ⟨k1, ⟨k2, k3⟩, ⟨k4, k5⟩, ⟨k6, k7⟩, k8, k9, k10, k11, ⟨k12, k13⟩, k14⟩ := hk
        simp only at *
        omega)
      clear c1
      go_enter Tryd.func14, Tryd.ntmps14
      dsimp only [List.append]
      go_wp2_with fail
      refine HC.out.mono ?_
      rintro e w1 ⟨rfl, hb⟩
      have HU1 := Lib.hid (below_head hb HU0.out)
      have HB1 := Lib.hid (HB0.out.trans (hb.mono HB0.out.size))
      clear hb a0 a1 a2 a3 a4 a5 a6 a7
      obtain ⟨a0, a1, a2, a3, a4, a5, a6, a7⟩ := head8 HU1.out
      go_wp2
      all_goals go_ret
      all_goals rw [HF.out]
      all_goals exact ⟨rfl, HB1.out⟩
    have q1 : decide (v < 1) = false := decide_eq_false c1
    by_cases c2 : 1073741824 < v
    · have q2 : decide (1073741824 < v) = true := decide_eq_true c2
      have HF : Hid (decide (Rc.Ok ⟨p, v, z, f, l, s, m, g⟩) = false) := Lib.hid (decide_eq_false fun hk => by
        obtain ⟨k1, ⟨k2, k3⟩, ⟨k4, k5⟩, ⟨k6, k7⟩, k8, k9, k10, k11, ⟨k12, k13⟩, k14⟩ := hk
        simp only at *
        omega)
      clear c1 c2
      go_enter Tryd.func14, Tryd.ntmps14
      dsimp only [List.append]
      go_wp2_with fail
      refine HC.out.mono ?_
      rintro e w1 ⟨rfl, hb⟩
      have HU1 := Lib.hid (below_head hb HU0.out)
      have HB1 := Lib.hid (HB0.out.trans (hb.mono HB0.out.size))
      clear hb a0 a1 a2 a3 a4 a5 a6 a7
      obtain ⟨a0, a1, a2, a3, a4, a5, a6, a7⟩ := head8 HU1.out
      go_wp2
      all_goals go_ret
      all_goals rw [HF.out]
      all_goals exact ⟨rfl, HB1.out⟩
    have q2 : decide (1073741824 < v) = false := decide_eq_false c2
    by_cases c3 : s < 1
    · have q3 : decide (s < 1) = true := decide_eq_true c3
      have HF : Hid (decide (Rc.Ok ⟨p, v, z, f, l, s, m, g⟩) = false) := Lib.hid (decide_eq_false fun hk => by
        obtain ⟨k1, ⟨k2, k3⟩, ⟨k4, k5⟩, ⟨k6, k7⟩, k8, k9, k10, k11, ⟨k12, k13⟩, k14⟩ := hk
        simp only at *
        omega)
      clear c1 c2 c3
      go_enter Tryd.func14, Tryd.ntmps14
      dsimp only [List.append]
      go_wp2_with fail
      refine HC.out.mono ?_
      rintro e w1 ⟨rfl, hb⟩
      have HU1 := Lib.hid (below_head hb HU0.out)
      have HB1 := Lib.hid (HB0.out.trans (hb.mono HB0.out.size))
      clear hb a0 a1 a2 a3 a4 a5 a6 a7
      obtain ⟨a0, a1, a2, a3, a4, a5, a6, a7⟩ := head8 HU1.out
      go_wp2
      all_goals go_ret
      all_goals rw [HF.out]
      all_goals exact ⟨rfl, HB1.out⟩
    have q3 : decide (s < 1) = false := decide_eq_false c3
    by_cases c4 : 1073741824 < s
    · have q4 : decide (1073741824 < s) = true := decide_eq_true c4
      have HF : Hid (decide (Rc.Ok ⟨p, v, z, f, l, s, m, g⟩) = false) := Lib.hid (decide_eq_false fun hk => by
        obtain ⟨k1, ⟨k2, k3⟩, ⟨k4, k5⟩, ⟨k6, k7⟩, k8, k9, k10, k11, ⟨k12, k13⟩, k14⟩ := hk
        simp only at *
        omega)
      clear c1 c2 c3 c4
      go_enter Tryd.func14, Tryd.ntmps14
      dsimp only [List.append]
      go_wp2_with fail
      refine HC.out.mono ?_
      rintro e w1 ⟨rfl, hb⟩
      have HU1 := Lib.hid (below_head hb HU0.out)
      have HB1 := Lib.hid (HB0.out.trans (hb.mono HB0.out.size))
      clear hb a0 a1 a2 a3 a4 a5 a6 a7
      obtain ⟨a0, a1, a2, a3, a4, a5, a6, a7⟩ := head8 HU1.out
      go_wp2
      all_goals go_ret
      all_goals rw [HF.out]
      all_goals exact ⟨rfl, HB1.out⟩
    have q4 : decide (1073741824 < s) = false := decide_eq_false c4
    have c5 : z < 0 := by rcases h with h | h | h | h | h | h; exact absurd h (by rw [← HR.out]; decide); all_goals first | assumption | contradiction
    clear h
    have q5 : decide (z < 0) = true := decide_eq_true c5
    have HF : Hid (decide (Rc.Ok ⟨p, v, z, f, l, s, m, g⟩) = false) := Lib.hid (decide_eq_false fun hk => by
      obtain ⟨k1, ⟨k2, k3⟩, ⟨k4, k5⟩, ⟨k6, k7⟩, k8, k9, k10, k11, ⟨k12, k13⟩, k14⟩ := hk
      simp only at *
      omega)
    clear c1 c2 c3 c4 c5
    go_enter Tryd.func14, Tryd.ntmps14
    dsimp only [List.append]
    go_wp2_with fail
    refine HC.out.mono ?_
    rintro e w1 ⟨rfl, hb⟩
    have HU1 := Lib.hid (below_head hb HU0.out)
    have HB1 := Lib.hid (HB0.out.trans (hb.mono HB0.out.size))
    clear hb a0 a1 a2 a3 a4 a5 a6 a7
    obtain ⟨a0, a1, a2, a3, a4, a5, a6, a7⟩ := head8 HU1.out
    go_wp2
    all_goals go_ret
    all_goals rw [HF.out]
    all_goals exact ⟨rfl, HB1.out⟩
end Go.Proofs.YtbijjgicjkmopaaDoor
namespace Go.Proofs.YtbijjgicjkmopaaDoor
open Go.RowKit
open Pt (Tx)

set_option maxHeartbeats 8000000 in
theorem refRight_B (p : Tx) (v z f l s m : Int) (g : Bool) (w : World) (hl : p.length ≤ maxLen) (hp : Pt.right p = true) (c1 : ¬ v < 1) (c2 : ¬ 1073741824 < v) (c3 : ¬ s < 1) (c4 : ¬ 1073741824 < s) (c5 : ¬ z < 0) (h : 4000 < z ∨ f < 0 ∨ l < 0 ∨ z < f ∨ z - f < l ∨ l = 0 ∧ 0 < z) :
    Calls Tryd.prog 14 #[.agg #[.string (tx p), .int .i64 v, .int .i64 z, .int .i64 f, .int .i64 l, .int .i64 s, .int .i64 m, .bool g]] w (AnsB (decide (Rc.Ok ⟨p, v, z, f, l, s, m, g⟩)) w) := by
  have HB0 : Hid (Below w.heap.size w (w.alloc (headObj p v z f l s m g))) := Lib.hid ((Below.refl _ _).alloc (Nat.le_refl _) _)
  have HU0 : Hid ((w.alloc (headObj p v z f l s m g)).heap[w.heap.size]? = some (headObj p v z f l s m g)) := Lib.hid (Go.Deep.blk_alloc_new _ _)
  have hcall := refRight_any p (w.alloc (headObj p v z f l s m g)) hl
  obtain ⟨r, hr⟩ : ∃ r, r = Pt.right p := ⟨_, rfl⟩
  rw [← hr] at hcall
  have HC := Lib.hid hcall
  have HR := Lib.hid hr
  clear hl hcall
  obtain ⟨a0, a1, a2, a3, a4, a5, a6, a7⟩ := head8 HU0.out
  unfold headObj at a0 a1 a2 a3 a4 a5 a6 a7 HC
  have hrt : r = true := hr.trans hp
  subst hrt
  clear hr hp
  have q1 : decide (v < 1) = false := decide_eq_false c1
  have q2 : decide (1073741824 < v) = false := decide_eq_false c2
  have q3 : decide (s < 1) = false := decide_eq_false c3
  have q4 : decide (1073741824 < s) = false := decide_eq_false c4
  have q5 : decide (z < 0) = false := decide_eq_false c5
  by_cases c6 : 4000 < z
  · have q6 : decide (4000 < z) = true := decide_eq_true c6
    have HF : Hid (decide (Rc.Ok ⟨p, v, z, f, l, s, m, g⟩) = false) := Lib.hid (decide_eq_false fun hk => by
      obtain ⟨k1, ⟨k2, k3⟩, ⟨k4, k5⟩, ⟨k6, k7⟩, k8, k9, k10, k11, ⟨k12, k13⟩, k14⟩ := hk
      simp only at *
      omega)
    clear c1 c2 c3 c4 c6
    go_enter Tryd.func14, Tryd.ntmps14
    dsimp only [List.append]
    go_wp2_with fail
    refine HC.out.mono ?_
    rintro e w1 ⟨rfl, hb⟩
    have HU1 := Lib.hid (below_head hb HU0.out)
    have HB1 := Lib.hid (HB0.out.trans (hb.mono HB0.out.size))
    clear hb a0 a1 a2 a3 a4 a5 a6 a7
    obtain ⟨a0, a1, a2, a3, a4, a5, a6, a7⟩ := head8 HU1.out
    go_wp2
    all_goals go_ret
    all_goals rw [HF.out]
    all_goals exact ⟨rfl, HB1.out⟩
  have q6 : decide (4000 < z) = false := decide_eq_false c6
  by_cases c7 : f < 0
  · have q7 : decide (f < 0) = true := decide_eq_true c7
    have HF : Hid (decide (Rc.Ok ⟨p, v, z, f, l, s, m, g⟩) = false) := Lib.hid (decide_eq_false fun hk => by
      obtain ⟨k1, ⟨k2, k3⟩, ⟨k4, k5⟩, ⟨k6, k7⟩, k8, k9, k10, k11, ⟨k12, k13⟩, k14⟩ := hk
      simp only at *
      omega)
    clear c1 c2 c3 c4 c7
    go_enter Tryd.func14, Tryd.ntmps14
    dsimp only [List.append]
    go_wp2_with fail
    refine HC.out.mono ?_
    rintro e w1 ⟨rfl, hb⟩
    have HU1 := Lib.hid (below_head hb HU0.out)
    have HB1 := Lib.hid (HB0.out.trans (hb.mono HB0.out.size))
    clear hb a0 a1 a2 a3 a4 a5 a6 a7
    obtain ⟨a0, a1, a2, a3, a4, a5, a6, a7⟩ := head8 HU1.out
    go_wp2
    all_goals go_ret
    all_goals rw [HF.out]
    all_goals exact ⟨rfl, HB1.out⟩
  have q7 : decide (f < 0) = false := decide_eq_false c7
  by_cases c8 : l < 0
  · have q8 : decide (l < 0) = true := decide_eq_true c8
    have HF : Hid (decide (Rc.Ok ⟨p, v, z, f, l, s, m, g⟩) = false) := Lib.hid (decide_eq_false fun hk => by
      obtain ⟨k1, ⟨k2, k3⟩, ⟨k4, k5⟩, ⟨k6, k7⟩, k8, k9, k10, k11, ⟨k12, k13⟩, k14⟩ := hk
      simp only at *
      omega)
    clear c1 c2 c3 c4 c8
    go_enter Tryd.func14, Tryd.ntmps14
    dsimp only [List.append]
    go_wp2_with fail
    refine HC.out.mono ?_
    rintro e w1 ⟨rfl, hb⟩
    have HU1 := Lib.hid (below_head hb HU0.out)
    have HB1 := Lib.hid (HB0.out.trans (hb.mono HB0.out.size))
    clear hb a0 a1 a2 a3 a4 a5 a6 a7
    obtain ⟨a0, a1, a2, a3, a4, a5, a6, a7⟩ := head8 HU1.out
    go_wp2
    all_goals go_ret
    all_goals rw [HF.out]
    all_goals exact ⟨rfl, HB1.out⟩
  have q8 : decide (l < 0) = false := decide_eq_false c8
  by_cases c9 : z < f
  · have q9 : decide (z < f) = true := decide_eq_true c9
    have HF : Hid (decide (Rc.Ok ⟨p, v, z, f, l, s, m, g⟩) = false) := Lib.hid (decide_eq_false fun hk => by
      obtain ⟨k1, ⟨k2, k3⟩, ⟨k4, k5⟩, ⟨k6, k7⟩, k8, k9, k10, k11, ⟨k12, k13⟩, k14⟩ := hk
      simp only at *
      omega)
    clear c1 c2 c3 c4 c9
    go_enter Tryd.func14, Tryd.ntmps14
    dsimp only [List.append]
    go_wp2_with fail
    refine HC.out.mono ?_
    rintro e w1 ⟨rfl, hb⟩
    have HU1 := Lib.hid (below_head hb HU0.out)
    have HB1 := Lib.hid (HB0.out.trans (hb.mono HB0.out.size))
    clear hb a0 a1 a2 a3 a4 a5 a6 a7
    obtain ⟨a0, a1, a2, a3, a4, a5, a6, a7⟩ := head8 HU1.out
    go_wp2
    all_goals go_ret
    all_goals rw [HF.out]
    all_goals exact ⟨rfl, HB1.out⟩
  have q9 : decide (z < f) = false := decide_eq_false c9
  by_cases c10 : z - f < l
  · have q10 : decide (z - f < l) = true := decide_eq_true c10
    have HF : Hid (decide (Rc.Ok ⟨p, v, z, f, l, s, m, g⟩) = false) := Lib.hid (decide_eq_false fun hk => by
      obtain ⟨k1, ⟨k2, k3⟩, ⟨k4, k5⟩, ⟨k6, k7⟩, k8, k9, k10, k11, ⟨k12, k13⟩, k14⟩ := hk
      simp only at *
      omega)
    clear c1 c2 c3 c4 c10
    go_enter Tryd.func14, Tryd.ntmps14
    dsimp only [List.append]
    go_wp2_with fail
    refine HC.out.mono ?_
    rintro e w1 ⟨rfl, hb⟩
    have HU1 := Lib.hid (below_head hb HU0.out)
    have HB1 := Lib.hid (HB0.out.trans (hb.mono HB0.out.size))
    clear hb a0 a1 a2 a3 a4 a5 a6 a7
    obtain ⟨a0, a1, a2, a3, a4, a5, a6, a7⟩ := head8 HU1.out
    go_wp2
    all_goals go_ret
    all_goals rw [HF.out]
    all_goals exact ⟨rfl, HB1.out⟩
  have q10 : decide (z - f < l) = false := decide_eq_false c10
  have q11 : (l == 0) = true := beq_iff_eq.2 (by omega)
  have q12 : decide (0 < z) = true := decide_eq_true (by omega)
  have HF : Hid (decide (Rc.Ok ⟨p, v, z, f, l, s, m, g⟩) = false) := Lib.hid (decide_eq_false fun hk => by
    obtain ⟨k1, ⟨k2, k3⟩, ⟨k4, k5⟩, ⟨k6, k7⟩, k8, k9, k10, k11, ⟨k12, k13⟩, k14⟩ := hk
    simp only at *
    omega)
  clear c1 c2 c3 c4 h
  go_enter Tryd.func14, Tryd.ntmps14
  dsimp only [List.append]
  go_wp2_with fail
  refine HC.out.mono ?_
  rintro e w1 ⟨rfl, hb⟩
  have HU1 := Lib.hid (below_head hb HU0.out)
  have HB1 := Lib.hid (HB0.out.trans (hb.mono HB0.out.size))
  clear hb a0 a1 a2 a3 a4 a5 a6 a7
  obtain ⟨a0, a1, a2, a3, a4, a5, a6, a7⟩ := head8 HU1.out
  go_wp2
  all_goals go_ret
  all_goals rw [HF.out]
  all_goals exact ⟨rfl, HB1.out⟩
end Go.Proofs.YtbijjgicjkmopaaDoor
