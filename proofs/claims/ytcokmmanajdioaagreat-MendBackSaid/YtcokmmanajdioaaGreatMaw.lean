/- What dataRow and parityRow of package mend answer. What the small function alike of package erasure answers. What slices.Clone makes of a row. Matrices that package matrix makes: copies and units. What the small functions of package erasure answer: places, picked, asTheyAre. -/
import Derived.Test.YtcokmmanajdioaaGreatMae
import Derived.Test.YtcokmmanajdioaaGreatMas
import Derived.Test.YtcokmmanajdioaaGreatMao
import Derived.Deep.DeepFit
import Derived.IntWalk
import Derived.Test.YtcokmmanajdioaaGreatMaj
import Derived.Test.YtcokmmanajdioaaGreatMai
namespace Go.Proofs.YtcokmmanajdioaaGreat
open Go.RowKit
open Pt (Tx)

/-- a row of bytes is answered; no bytes: it is missing -/
def RowR (G : Nat → Prop) (s : Tx) (w : World) (e : Ending) (w' : World) : Prop :=
  ∃ A C, e = .returned (.slice A s.length C) ∧ s.length ≤ C ∧ (A = none → s.length = 0 ∧ C = 0) ∧ RdL w' A s (fun b => G b ∨ w.heap.size ≤ b) ∧ Below w.heap.size w w'
theorem RowR.nil {G : Nat → Prop} {w w' : World} (h : Below w.heap.size w w') : RowR G [] w (.returned (.slice none 0 0)) w' := ⟨none, 0, rfl, Nat.le_refl _, fun _ => ⟨rfl, rfl⟩, RdL.empty _ _ _, h⟩
section
variable (lab cap : Int) (A : Option Addr) (bs : List Tx) (L C : Nat) (G : Nat → Prop) (n : Nat) (w : World)
set_option maxRecDepth 100000 in
theorem dataRow_past (hL : L = bs.length) (hn : L ≤ n) :
    Calls Tryz.prog 36 #[.agg #[.int .i64 lab, .int .i64 cap, .slice A L C, .bool false], .int .i64 (n : Int)] w (RowR G St.zeros w) := by
  obtain ⟨hB, hT⟩ := tape_new w lab cap A L C false
  have hmk := fun w => make79 w
  have e1 : decide ((L : Int) ≤ (n : Int)) = true := decide_eq_true (by omega)
  have e1' : decide (L ≤ n) = true := decide_eq_true hn
  obtain ⟨x0, x1, x2, x3⟩ := tape4 hT
  have HB := Lib.hid hB
  have hz := zeros_new (w0 := w) hB
  rw [show (w.alloc (tapeObj lab cap A L C false)).heap.size = w.heap.size + 1 by simp] at hz
  have HZ := Lib.hid hz
  unfold tapeObj at x0 x1 x2 x3 HB HZ
  clear hB hT hL hz
  go_enter Tryz.func36, Tryz.ntmps36
  go_wp2
  go_ret
  obtain ⟨A', C', h1, h2, h3, h4, h5⟩ := HZ.out
  injection h1 with h1
  injection h1 with q1 q2 q3
  subst q1 q3
  exact ⟨_, _, by rw [St.zeros_len]; rfl, h2, h3, (h4.rdL).mono fun _ hb => .inr hb, h5⟩
set_option maxRecDepth 100000 in
theorem dataRow_bad (lost : Bool) (hL : L = bs.length) (hl : ∀ s ∈ bs, s.length ≤ 1000000) (hr : RdB w A bs G) (hg : Vo.good ⟨lab, bs, lost⟩ n = none) (hn : lost = true ∨ n < L) :
    Calls Tryz.prog 36 #[.agg #[.int .i64 lab, .int .i64 cap, .slice A L C, .bool lost], .int .i64 (n : Int)] w (RowR G [] w) := by
  obtain ⟨hB, hT⟩ := tape_new w lab cap A L C lost
  have hgz : Vo.goodZ ⟨lab, bs, lost⟩ (n : Int) = none := by
    unfold Vo.goodZ
    rw [if_neg (by omega), Int.toNat_natCast]; exact hg
  have hcall := good_any lab cap bs A L C G lost (n : Int) (w.alloc (tapeObj lab cap A L C lost)) hL (hr.old hB) hl
  rw [hgz] at hcall
  have HC := Lib.hid hcall
  obtain ⟨x0, x1, x2, x3⟩ := tape4 hT
  have HB := Lib.hid hB
  unfold tapeObj at x0 x1 x2 x3 HB HC
  clear hB hT hL hcall hgz hg hr hl
  cases lost with
  | true =>
    clear hn
    go_enter Tryz.func36, Tryz.ntmps36
    go_wp2_with fail
    refine HC.out.mono ?_
    rintro e w1 ⟨A5, m5, C5, rfl, -, -, -, -, hb5⟩
    have HB1 := Lib.hid (HB.out.trans (hb5.mono HB.out.size))
    clear hb5 x0 x1 x2 x3
    go_wp2
    go_ret
    exact RowR.nil (HB1.out.alloc HB1.out.size _)
  | false =>
    have hn' : n < L := hn.resolve_left (by simp)
    have e1 : decide ((L : Int) ≤ (n : Int)) = false := decide_eq_false (by omega)
    have e1' : decide (L ≤ n) = false := decide_eq_false (by omega)
    clear hn
    go_enter Tryz.func36, Tryz.ntmps36
    go_wp2_with fail
    refine HC.out.mono ?_
    rintro e w1 ⟨A5, m5, C5, rfl, -, -, -, -, hb5⟩
    have HB1 := Lib.hid (HB.out.trans (hb5.mono HB.out.size))
    clear hb5 x0 x1 x2 x3
    go_wp2
    go_ret
    exact RowR.nil (HB1.out.alloc HB1.out.size _)
set_option maxRecDepth 100000 in
theorem dataRow_there (hL : L = bs.length) (hl : ∀ s ∈ bs, s.length ≤ 1000000) (hr : RdB w A bs G) (hg : (Vo.good ⟨lab, bs, false⟩ n).isSome = true) (hn : n < L) :
    Calls Tryz.prog 36 #[.agg #[.int .i64 lab, .int .i64 cap, .slice A L C, .bool false], .int .i64 (n : Int)] w (RowR G (if (bs.getD n []).length = 79 then bs.getD n [] else []) w) := by
  obtain ⟨hB, hT⟩ := tape_new w lab cap A L C false
  obtain ⟨o, ho⟩ : ∃ o, o = Vo.good ⟨lab, bs, false⟩ n := ⟨_, rfl⟩
  have hgz : Vo.goodZ ⟨lab, bs, false⟩ (n : Int) = o := by
    unfold Vo.goodZ
    rw [if_neg (by omega), Int.toNat_natCast]; exact ho.symm
  have hcall := good_any lab cap bs A L C G false (n : Int) (w.alloc (tapeObj lab cap A L C false)) hL (hr.old hB) hl
  rw [hgz] at hcall
  rw [← ho] at hg
  have HC := Lib.hid hcall
  obtain ⟨x0, x1, x2, x3⟩ := tape4 hT
  have hnb : n < bs.length := by omega
  have hbn : bs.getD n [] = bs[n] := by rw [List.getD_eq_getElem?_getD, List.getElem?_eq_getElem hnb]; rfl
  rw [hbn]
  obtain ⟨b, off, rfl, -, hrow⟩ := hr (by omega)
  obtain ⟨A', C', hc, hC', hA', hrd⟩ := hrow n hnb
  obtain ⟨s, hs⟩ : ∃ s, s = bs[n] := ⟨_, rfl⟩
  obtain ⟨m, hm⟩ : ∃ m, m = s.length := ⟨_, rfl⟩
  rw [← hs] at hc hC' hA' hrd ⊢
  rw [← hm] at hc hC' hA' ⊢
  have HB := Lib.hid hB
  have HT := Lib.hid hT
  have HG := Lib.hid hg
  have HM := Lib.hid hm
  have HCL : Hid (∀ y, Below w.heap.size w y → y.cell? ⟨b, off + n, none⟩ = some (.slice A' m C')) := Lib.hid fun y hy => (hy.cell (World.block_lt_of_cell? _ _ hc)).trans hc
  have HRD := Lib.hid hrd
  have HX := Lib.hid (And.intro hC' hA')
  unfold tapeObj at x0 x1 x2 x3 HC
  have e1 : decide ((L : Int) ≤ (n : Int)) = false := decide_eq_false (by omega)
  have e1' : decide (L ≤ n) = false := decide_eq_false (by omega)
  have i0 : (0 : Int) ≤ (n : Int) := by omega
  have i1 : (n : Int) < (L : Int) := by omega
  clear hB hT hL hcall hgz hg hl hr hrow hc hC' hA' hrd hbn hs hm ho
  by_cases h79 : m = 79
  · rw [if_pos h79]
    have e2 : ((m : Int) != 79) = false := by rw [h79]; rfl
    clear h79
    go_enter Tryz.func36, Tryz.ntmps36
    go_wp2_with fail
    refine HC.out.mono ?_
    rintro e w1 ⟨A5, m5, C5, rfl, -, -, -, -, hb5⟩
    rw [HG.out]
    obtain ⟨w2, hw2⟩ : ∃ x, x = w1.alloc (unitObj (unitOf o).kind (unitOf o).label (unitOf o).number A5 m5 C5) := ⟨_, rfl⟩
    have hb5' : Below (w.alloc (tapeObj lab cap (some ⟨b, off, none⟩) L C false)).heap.size (w.alloc (tapeObj lab cap (some ⟨b, off, none⟩) L C false)) w2 := by rw [hw2]; exact hb5.alloc hb5.size _
    have HB2 := Lib.hid (HB.out.trans (hb5'.mono HB.out.size))
    obtain ⟨y0, y1, y2, y3⟩ := tape4 (below_tape hb5' HT.out)
    have c2 := HCL.out _ HB2.out
    have HW2 := Lib.hid hw2
    unfold unitObj at HW2
    rw [HW2.out] at y0 y1 y2 y3 c2
    clear hb5 hb5' x0 x1 x2 x3 hw2
    go_wp2
    rw [← HW2.out]
    go_ret
    exact ⟨A', C', by rw [← HM.out]; rfl, by rw [← HM.out]; exact HX.out.1, by rw [← HM.out]; exact HX.out.2, (HRD.out.old HB2.out).mono fun _ hb => .inl hb, HB2.out⟩
  · rw [if_neg h79]
    have e2 : ((m : Int) != 79) = true := by rw [bne_iff_ne]; omega
    clear h79
    go_enter Tryz.func36, Tryz.ntmps36
    go_wp2_with fail
    refine HC.out.mono ?_
    rintro e w1 ⟨A5, m5, C5, rfl, -, -, -, -, hb5⟩
    rw [HG.out]
    obtain ⟨w2, hw2⟩ : ∃ x, x = w1.alloc (unitObj (unitOf o).kind (unitOf o).label (unitOf o).number A5 m5 C5) := ⟨_, rfl⟩
    have hb5' : Below (w.alloc (tapeObj lab cap (some ⟨b, off, none⟩) L C false)).heap.size (w.alloc (tapeObj lab cap (some ⟨b, off, none⟩) L C false)) w2 := by rw [hw2]; exact hb5.alloc hb5.size _
    have HB2 := Lib.hid (HB.out.trans (hb5'.mono HB.out.size))
    obtain ⟨y0, y1, y2, y3⟩ := tape4 (below_tape hb5' HT.out)
    have c2 := HCL.out _ HB2.out
    have HW2 := Lib.hid hw2
    unfold unitObj at HW2
    rw [HW2.out] at y0 y1 y2 y3 c2
    clear hb5 hb5' x0 x1 x2 x3 hw2
    go_wp2
    rw [← HW2.out]
    go_ret
    exact RowR.nil HB2.out
/-- dataRow -/
theorem dataRow_any (lost : Bool) (hL : L = bs.length) (hl : ∀ s ∈ bs, s.length ≤ 1000000) (hr : RdB w A bs G) :
    Calls Tryz.prog 36 #[.agg #[.int .i64 lab, .int .i64 cap, .slice A L C, .bool lost], .int .i64 (n : Int)] w (RowR G (Me.dataRow ⟨lab, cap, bs, lost⟩ n) w) := by
  by_cases h : lost = false ∧ L ≤ n
  · obtain ⟨rfl, h⟩ := h
    have e : Me.dataRow ⟨lab, cap, bs, false⟩ n = St.zeros := by
      unfold Me.dataRow
      exact if_pos ⟨rfl, by show bs.length ≤ n; omega⟩
    rw [e]
    exact dataRow_past lab cap A bs L C G n w hL h
  · have h' : lost = true ∨ n < L := by
      cases lost with
      | true => exact .inl rfl
      | false => exact .inr (by have : ¬ L ≤ n := fun hh => h ⟨rfl, hh⟩; omega)
    have e : Me.dataRow ⟨lab, cap, bs, lost⟩ n = if (Vo.good ⟨lab, bs, lost⟩ n).isSome = true ∧ (bs.getD n []).length = 79 then bs.getD n [] else [] := by
      unfold Me.dataRow
      exact if_neg (by rw [← hL]; exact h)
    rw [e]
    by_cases hg : (Vo.good ⟨lab, bs, lost⟩ n).isSome = true
    · have hlost : lost = false := by
        cases lost with
        | false => rfl
        | true => simp [Vo.good] at hg
      subst hlost
      have h2 := dataRow_there lab cap A bs L C G n w hL hl hr hg (h'.resolve_left (by simp))
      by_cases h79 : (bs.getD n []).length = 79
      · rw [if_pos h79] at h2; rw [if_pos ⟨hg, h79⟩]; exact h2
      · rw [if_neg h79] at h2; rw [if_neg (fun hh => h79 hh.2)]; exact h2
    · rw [if_neg (fun hh => hg hh.1)]
      exact dataRow_bad lab cap A bs L C G n w lost hL hl hr (by simpa using hg) h'
set_option maxRecDepth 100000 in
/-- parityRow -/
theorem parityRow_any (lost : Bool) (hL : L = bs.length) (hl : ∀ s ∈ bs, s.length ≤ 1000000) (hr : RdB w A bs G) (hn : n ≤ 1000000) :
    Calls Tryz.prog 37 #[.agg #[.int .i64 lab, .int .i64 cap, .slice A L C, .bool lost], .int .i64 (n : Int)] w (RowR G (Me.parityRow ⟨lab, cap, bs, lost⟩ n) w) := by
  obtain ⟨hB, hT⟩ := tape_new w lab cap A L C lost
  obtain ⟨o, ho⟩ : ∃ o, o = Vo.good ⟨lab, bs, lost⟩ (n + 1) := ⟨_, rfl⟩
  have hgz : Vo.goodZ ⟨lab, bs, lost⟩ ((n : Int) + 1) = o := by
    unfold Vo.goodZ
    rw [if_neg (by omega), show ((n : Int) + 1).toNat = n + 1 by omega]; exact ho.symm
  have hcall := good_any lab cap bs A L C G lost ((n : Int) + 1) (w.alloc (tapeObj lab cap A L C lost)) hL (hr.old hB) hl
  rw [hgz] at hcall
  have e : Me.parityRow ⟨lab, cap, bs, lost⟩ n = Me.load6 o := by rw [ho]; rfl
  rw [e]
  have s1 : IntKind.i64.wrap ((n : Int) + 1) = (n : Int) + 1 := IntWalk.i64_in _ (by omega)
  have HC := Lib.hid hcall
  have HB := Lib.hid hB
  obtain ⟨x0, x1, x2, x3⟩ := tape4 hT
  unfold tapeObj at x0 x1 x2 x3 HC HB
  clear e hB hT hL hcall hgz ho hl hr
  cases o with
  | none =>
    go_enter Tryz.func37, Tryz.ntmps37
    go_wp2_with fail
    refine HC.out.mono ?_
    rintro e w1 ⟨A5, m5, C5, rfl, -, -, -, -, hb5⟩
    have HB1 := Lib.hid (HB.out.trans (hb5.mono HB.out.size))
    clear hb5 x0 x1 x2 x3
    go_wp2
    go_ret
    exact RowR.nil (HB1.out.alloc HB1.out.size _)
  | some u =>
    obtain ⟨uk, ul, un, us⟩ := u
    unfold Me.load6
    dsimp only
    by_cases h6 : uk = 6
    · by_cases h79 : us.length = 79
      · rw [if_pos ⟨h6, h79⟩]
        have e1 : (uk != 6) = false := by rw [h6]; rfl
        have H79 := Lib.hid h79
        clear h6 h79
        go_enter Tryz.func37, Tryz.ntmps37
        go_wp2_with fail
        refine HC.out.mono ?_
        rintro e w1 ⟨A5, m5, C5, rfl, hm5, hC5, hA5, hr5, hb5⟩
        simp only [unitOf, Option.getD_some]
        have hm5' : m5 = 79 := by rw [hm5]; exact H79.out
        subst hm5'
        have HB1 := Lib.hid (HB.out.trans (hb5.mono HB.out.size))
        obtain ⟨w2, hw2⟩ : ∃ x, x = w1.alloc (unitObj uk ul un A5 79 C5) := ⟨_, rfl⟩
        have hB2 : Below w1.heap.size w1 w2 := by rw [hw2]; exact (Below.refl _ _).alloc (Nat.le_refl _) _
        have hU : w2.heap[w1.heap.size]? = some (unitObj uk ul un A5 79 C5) := by rw [hw2]; exact Go.Deep.blk_alloc_new _ _
        obtain ⟨y0, y1, y2, y3⟩ := unit4 hU
        have HRD := Lib.hid hr5
        have HB2 := Lib.hid (HB1.out.trans (hB2.mono HB1.out.size))
        have HX := Lib.hid (And.intro hC5 hA5)
        have HW2 := Lib.hid hw2
        unfold unitObj at HW2
        rw [HW2.out] at y0 y1 y2 y3
        clear hb5 x0 x1 x2 x3 hm5 hC5 hA5 hr5 hw2 hB2 hU
        go_wp2
        go_ret
        exact ⟨A5, C5, by rw [H79.out]; rfl, by rw [H79.out]; exact HX.out.1, by rw [H79.out]; exact HX.out.2, (HRD.out.old ((Below.refl _ _).alloc (Nat.le_refl _) _)).mono fun _ hb => .inr (Nat.le_trans HB.out.size hb), HB1.out.alloc HB1.out.size _⟩
      · rw [if_neg (fun hh => h79 hh.2)]
        have e1 : (uk != 6) = false := by rw [h6]; rfl
        have H79 := Lib.hid h79
        clear h6 h79
        go_enter Tryz.func37, Tryz.ntmps37
        go_wp2_with fail
        refine HC.out.mono ?_
        rintro e w1 ⟨A5, m5, C5, rfl, hm5, -, -, -, hb5⟩
        simp only [unitOf, Option.getD_some]
        have e2 : ((m5 : Int) != 79) = true := by
          rw [bne_iff_ne]
          intro hh
          have h3 : m5 = us.length := hm5
          exact H79.out (by omega)
        have HB1 := Lib.hid (HB.out.trans (hb5.mono HB.out.size))
        obtain ⟨w2, hw2⟩ : ∃ x, x = w1.alloc (unitObj uk ul un A5 m5 C5) := ⟨_, rfl⟩
        have hB2 : Below w1.heap.size w1 w2 := by rw [hw2]; exact (Below.refl _ _).alloc (Nat.le_refl _) _
        have hU : w2.heap[w1.heap.size]? = some (unitObj uk ul un A5 m5 C5) := by rw [hw2]; exact Go.Deep.blk_alloc_new _ _
        obtain ⟨y0, y1, y2, y3⟩ := unit4 hU
        have HB2 := Lib.hid (HB1.out.trans (hB2.mono HB1.out.size))
        have HW2 := Lib.hid hw2
        unfold unitObj at HW2
        rw [HW2.out] at y0 y1 y2 y3
        clear hb5 x0 x1 x2 x3 hm5 hw2 hB2 hU
        go_wp2
        go_ret
        exact RowR.nil (HB1.out.alloc HB1.out.size _)
    · rw [if_neg (fun hh => h6 hh.1)]
      have e1 : (uk != 6) = true := by rw [bne_iff_ne]; exact h6
      clear h6
      go_enter Tryz.func37, Tryz.ntmps37
      go_wp2_with fail
      refine HC.out.mono ?_
      rintro e w1 ⟨A5, m5, C5, rfl, -, -, -, -, hb5⟩
      simp only [unitOf, Option.getD_some]
      have HB1 := Lib.hid (HB.out.trans (hb5.mono HB.out.size))
      obtain ⟨w2, hw2⟩ : ∃ x, x = w1.alloc (unitObj uk ul un A5 m5 C5) := ⟨_, rfl⟩
      have hB2 : Below w1.heap.size w1 w2 := by rw [hw2]; exact (Below.refl _ _).alloc (Nat.le_refl _) _
      have hU : w2.heap[w1.heap.size]? = some (unitObj uk ul un A5 m5 C5) := by rw [hw2]; exact Go.Deep.blk_alloc_new _ _
      obtain ⟨y0, y1, y2, y3⟩ := unit4 hU
      have HB2 := Lib.hid (HB1.out.trans (hB2.mono HB1.out.size))
      have HW2 := Lib.hid hw2
      unfold unitObj at HW2
      rw [HW2.out] at y0 y1 y2 y3
      clear hb5 x0 x1 x2 x3 hw2 hB2 hU
      go_wp2
      go_ret
      exact RowR.nil (HB1.out.alloc HB1.out.size _)
end
end Go.Proofs.YtcokmmanajdioaaGreat
namespace Go.Proofs.YtcokmmanajdioaaGreat
open Go.RowKit Mx

def alikeB (n : Nat) (L : Nat → Nat) : Bool := decide (∀ i, i < n → L i = L 0)
theorem alikeB_true {n : Nat} {L : Nat → Nat} : alikeB n L = true ↔ ∀ i, i < n → L i = L 0 := decide_eq_true_iff
theorem alikeB_false {n : Nat} {L : Nat → Nat} {k : Nat} (hk : k < n) (h : L k ≠ L 0) : alikeB n L = false := decide_eq_false fun hh => h (hh k hk)
set_option maxHeartbeats 1000000 in
theorem alike_any (A : Option Addr) (n C : Nat) (L : Nat → Nat) (M : Mat) (G : Nat → Prop) (w : World) (hm : n ≤ maxLen) (h : RdM w A n L M G) :
    Calls Tryz.prog 54 #[.slice A n C] w fun e w' => e = .returned (.bool (alikeB n L)) ∧ w = w' := by
  unfold maxLen at hm
  have H := Lib.hid h
  clear h
  go_enter Tryz.func54, Tryz.ntmps54
  go_wp2
  go_loop [7, 4] (fun vi _ => ∃ k : Nat, k ≤ n ∧ vi = .int .i64 (k : Int) ∧ Hid (∀ i, i < k → L i = L 0)) (fun vi _ => n - (intOf vi).toNat)
  case atStart => exact ⟨0, by omega, rfl, Lib.hid (fun i hi => absurd hi (by omega))⟩
  case round =>
    obtain ⟨k, hk, rfl, HL⟩ := hrel
    by_cases hlt : k < n
    · obtain ⟨b, off, A0, C0, rfl, _, hc0, _⟩ := H.out.row (i := 0) (by omega)
      rw [Nat.add_zero] at hc0
      obtain ⟨b', off', Ak, Ck, e, _, hck, _⟩ := H.out.row hlt
      obtain ⟨rfl, rfl⟩ : b = b' ∧ off = off' := by simpa using e
      clear e
      by_cases he : L k = L 0
      · have hb : ((L k : Int) != (L 0 : Int)) = false := by rw [he]; simp
        have HE := Lib.hid he
        clear he
        go_wp2
        go_round
        case rel => exact ⟨k + 1, by omega, by go_num, Lib.hid (fun i hi => by
          by_cases e : i = k
          · rw [e]; exact HE.out
          · exact HL.out i (by omega))⟩
        case measure => simp [intOf]; omega
      · have hb : ((L k : Int) != (L 0 : Int)) = true := by rw [bne_iff_ne]; omega
        have HF := Lib.hid (alikeB_false (n := n) (L := L) hlt he)
        clear he
        go_wp2
        go_ret
        exact ⟨ret_bool HF.out.symm, rfl⟩
    · have HF := Lib.hid (alikeB_true (n := n) (L := L) |>.2 fun i hi => HL.out i (by omega))
      go_wp2
      go_ret
      exact ⟨ret_bool HF.out.symm, rfl⟩
theorem alike_is (A : Option Addr) (n C : Nat) (L : Nat → Nat) (M : Mat) (G : Nat → Prop) (w : World) (r : Bool) (hm : n ≤ maxLen) (h : RdM w A n L M G) (hr : alikeB n L = r) :
    Calls Tryz.prog 54 #[.slice A n C] w fun e w' => e = .returned (.bool r) ∧ w = w' := hr ▸ alike_any A n C L M G w hm h

end Go.Proofs.YtcokmmanajdioaaGreat
namespace Go.Proofs.YtcokmmanajdioaaGreat
open Go.RowKit Mx

set_option maxHeartbeats 1000000 in
theorem cloneRow_any (A : Option Addr) (n C : Nat) (r : Nat → Fe) (G : Nat → Prop) (w : World) (hn0 : 0 < n) (hn : n ≤ 1000000) (h : Rd w A n r G) :
    Calls Tryz.prog 71 #[.slice A n C] w (FreshRow n r w) := by
  obtain ⟨b, off, rfl, _, hc⟩ := h hn0
  obtain ⟨i0, hi, hz0, hz1, hz2⟩ := info_parts infoByte
  have hown : (w.alloc (.cells #[] 5)).ownsRow w.heap.size 5 1 (.slice (some ⟨w.heap.size, 0, none⟩) 0 0) 0 [] := World.ownsRow_made w #[] 0 (Nat.le_refl _) (by decide) rfl
  have hc' : ∀ j, j < n → (w.alloc (.cells #[] 5)).cell? ⟨b, off + j, none⟩ = some (.int .u8 (fi (r j))) := fun j hj => by
    rw [World.cell?_alloc_lt w _ _ (World.block_lt_of_cell? _ _ (hc j hj))]; exact hc j hj
  have HC := Lib.hid hc'
  clear hc hc' h
  have hnil : ∀ (w : World) (a : Option Addr) (n c n' c' : Nat), (binOp .eql 34 (.slice a n c) (.slice none n' c')).run Tryz.prog w = .ok (.bool a.isNone) w := fun w a n c n' c' => Lib.run_eql_slice_nil w _ _ a n c n' c' Tryz.underlying34
  go_enter Tryz.func71, Tryz.ntmps71
  go_wp2_with (at_builtin; refine wpList_append_own _ rfl _ _ 34 rfl w.heap.size 5 i0 (.int .u8 0) 1 1 Tryz.underlying34 hi hz0 hz1 hz2 rfl (by decide) _ _ _ rfl hown ⟨b, off, none⟩ n C (cellsOf n r) rfl (by rw [cellsOf_len, Nat.mul_one]) (Rd.cells HC.out) cellsOf_one (by unfold maxLen; omega) (by omega) (by simp) ?_)
  intro v' w' hown' hgrow _
  obtain ⟨g, C', rfl, hg, hC, hr⟩ := RowAt.of_owns hown' hn0
  have HB := Lib.hid (((Below.refl w.heap.size w).alloc (Nat.le_refl _) _).grown hgrow (by simp) (fun k hk => by simp [Value.ownBlock] at hk; omega))
  clear hown' hgrow hown HC hnil
  go_wp2
  go_ret
  exact ⟨g, C', rfl, hg, hC, hr, HB.out⟩
end Go.Proofs.YtcokmmanajdioaaGreat
namespace Go.Proofs.YtcokmmanajdioaaGreat
open Go.RowKit Mx

set_option maxHeartbeats 1000000 in
theorem copied_any (A : Option Addr) (n C m : Nat) (M : Mat) (w : World) (hn0 : 0 < n) (hn : n ≤ 255) (hm0 : 0 < m) (hm : m ≤ 255) (G0 : Nat → Prop) (h : RdM w A n (fun _ => m) M G0) :
    Calls Tryz.prog 86 #[.slice A n C] w (FreshMat n m M w) := by
  have H := Lib.hid h
  clear h
  have hmk := run_make_row' (P := Tryz.prog) 29 34 (.slice none 0 0) 24 Tryz.underlying29 infoRow rfl .i64 .i64 n (by omega) (by omega)
  go_enter Tryz.func86, Tryz.ntmps86
  go_wp2
  clear hmk
  go_loopw [11] (fun vi wr => ∃ k : Nat, k ≤ n ∧ vi = .int .i64 (k : Int) ∧ Hid (∃ G C, OwnK wr w.heap.size w.heap.size n k m G C M) ∧ Hid (Below w.heap.size w wr)) (fun vi _ => n - (intOf vi).toNat)
  case atStart => exact ⟨0, by omega, rfl, Lib.hid ⟨fun _ => 0, fun _ => 0, OwnK.start w _ n m _ _ M⟩, Lib.hid ((Below.refl _ _).alloc (Nat.le_refl _) _)⟩
  case round =>
    obtain ⟨k, hk, rfl, HO, HB⟩ := hrel
    obtain ⟨G, Cp, hO⟩ := HO.out
    have HO' := Lib.hid hO
    clear hO HO
    by_cases hlt : k < n
    · obtain ⟨b, off, A', C', rfl, _, hck, hrk⟩ := (H.out.old HB.out).row hlt
      have HR := Lib.hid hrk
      clear hrk
      go_wp2_with fail
      refine (cloneRow_any A' m C' (M k) _ _ hm0 (by omega) HR.out).mono ?_
      rintro e w1 ⟨g, c, rfl, hg, hc, hr, hb⟩
      have hct := (HO'.out.old hb).top.cell hlt
      rw [if_neg (by omega)] at hct
      have hft := (HO'.out.old hb).top.frozen k
      have HP := Lib.hid (HO'.out.push hb hg HB.out.size hc hr)
      have HB2 := Lib.hid ((HB.out.trans (hb.mono HB.out.size)).setCell (p := ⟨w.heap.size, k, none⟩) (Nat.le_refl _) (.slice (some ⟨g, 0, none⟩) m c))
      clear hr hb hg hc HR
      go_wp2
      go_roundw
      case rel => exact ⟨k + 1, by omega, by go_num, Lib.hid ⟨_, _, HP.out.congr (M' := M) fun i _ j _ => by by_cases e : i = k <;> simp [e]⟩, HB2⟩
      case measure => simp [intOf]; omega
    · obtain rfl : k = n := by omega
      go_wp2
      go_ret
      exact ⟨w.heap.size, G, Cp, rfl, Nat.le_refl _, HO'.out, HB.out⟩
set_option maxHeartbeats 1000000 in
theorem unit_any (n : Nat) (w : World) (hn0 : 0 < n) (hn : n ≤ 255) : Calls Tryz.prog 87 #[.int .i64 (n : Int)] w (FreshMat n n one w) := by
  have hmk := run_make_row' (P := Tryz.prog) 29 34 (.slice none 0 0) 24 Tryz.underlying29 infoRow rfl .i64 .i64 n (by omega) (by omega)
  have HK := Lib.hid (run_make_row' (P := Tryz.prog) 34 5 (.int .u8 0) 1 Tryz.underlying34 infoByte rfl .i64 .i64 n (by omega) (by omega))
  go_enter Tryz.func87, Tryz.ntmps87
  go_wp2
  clear hmk
  go_loopw [9] (fun vi wr => ∃ k : Nat, k ≤ n ∧ vi = .int .i64 (k : Int) ∧ Hid (∃ G C, OwnK wr w.heap.size w.heap.size n k n G C one) ∧ Hid (Below w.heap.size w wr)) (fun vi _ => n - (intOf vi).toNat)
  case atStart => exact ⟨0, by omega, rfl, Lib.hid ⟨fun _ => 0, fun _ => 0, OwnK.start w _ n n _ _ one⟩, Lib.hid ((Below.refl _ _).alloc (Nat.le_refl _) _)⟩
  case round =>
    obtain ⟨k, hk, rfl, HO, HB⟩ := hrel
    obtain ⟨G, Cp, hO⟩ := HO.out
    have HO' := Lib.hid hO
    clear hO HO
    by_cases hlt : k < n
    · have hb1 : Below wr.heap.size wr (wr.alloc (.cells (madeCells #[.int .u8 0] n) 5)) := (Below.refl _ _).alloc (Nat.le_refl _) _
      have hO1 := HO'.out.old hb1
      have hct := hO1.top.cell hlt
      rw [if_neg (by omega)] at hct
      have hft := hO1.top.frozen k
      have hP := HO'.out.push hb1 (Nat.le_refl _) HB.out.size (Nat.le_refl n) (RowAt.made wr n)
      have hct2 := hP.top.cell hlt
      have hrk := hP.rows k (by omega)
      simp only [if_true, show k < k + 1 by omega] at hct2 hrk
      have hc3 := hrk.cell hlt
      have hf3 := hrk.frozen k
      have HT := Lib.hid (hP.turn (i := k) (by omega) ((Kp.refl _ _).setCell (p := ⟨wr.heap.size, k, none⟩) (by simp) (.int .u8 (fi 1))) (by simpa using hrk.set k 1))
      have HB2 := Lib.hid (((HB.out.trans (hb1.mono HB.out.size)).setCell (p := ⟨w.heap.size, k, none⟩) (Nat.le_refl _) (.slice (some ⟨wr.heap.size, 0, none⟩) n n)).setCell (p := ⟨wr.heap.size, k, none⟩) HB.out.size (.int .u8 (fi 1)))
      have hmk := HK.out
      clear hb1 hO1 hP hrk
      go_wp2
      go_roundw
      case rel => exact ⟨k + 1, by omega, by go_num, Lib.hid ⟨_, _, HT.out.congr (M' := one) fun i hi j hj => by
        by_cases e : i = k
        · simp only [e, if_true]; unfold one
          by_cases e' : j = k
          · rw [if_pos e', if_pos e'.symm]
          · rw [if_neg e', if_neg (fun h => e' h.symm)]
        · simp [e]⟩, HB2⟩
      case measure => simp [intOf]; omega
    · obtain rfl : k = n := by omega
      go_wp2
      go_ret
      exact ⟨w.heap.size, G, Cp, rfl, Nat.le_refl _, HO'.out, HB.out⟩
end Go.Proofs.YtcokmmanajdioaaGreat
namespace Go.Proofs.YtcokmmanajdioaaGreat
open Go.RowKit Mx

/-- a row of places -/
def ResP (P : Nat → Bool) (n : Nat) (w : World) (e : Ending) (w' : World) : Prop :=
  ∃ A C, e = .returned (.slice A (plsN P n) C) ∧ plsN P n ≤ C ∧ (∀ a, A = some a → w.heap.size ≤ a.block) ∧ RdI w' A (plsN P n) (fun j => (plsAt P n j : Int)) ∧ Below w.heap.size w w'
set_option maxHeartbeats 1000000 in
theorem places_any (A : Option Addr) (n C : Nat) (L : Nat → Nat) (M : Mat) (G : Nat → Prop) (t : Bool) (w : World) (hn : n ≤ 255) (h : RdM w A n L M G) :
    Calls Tryz.prog 52 #[.slice A n C, .bool t] w (ResP (fun x => decide (0 < L x) == t) n w) := by
  have H := Lib.hid h
  clear h
  obtain ⟨P, hP⟩ : ∃ P : Nat → Bool, P = fun x => decide (0 < L x) == t := ⟨_, rfl⟩
  rw [← hP]
  have HP := Lib.hid hP
  clear hP
  go_enter Tryz.func52, Tryz.ntmps52
  go_wp2
  go_loopw [10, 5] (fun vi vo wr => ∃ i : Nat, i ≤ n ∧ vi = .int .i64 (i : Int) ∧ Hid (wr.ownsRow w.heap.size 3 1 vo (pls P i).length (intsOf (pls P i))) ∧ Hid (Below w.heap.size w wr)) (fun vi _ _ => n - (intOf vi).toNat)
  case atStart => exact ⟨0, by omega, rfl, Lib.hid (World.ownsRow_nil _ _ _ _), Lib.hid (Below.refl _ _)⟩
  case round =>
    obtain ⟨i, hi, rfl, HO, HB⟩ := hrel
    by_cases hlt : i < n
    · obtain ⟨b, off, Ai, Ci, rfl, _, hc, _⟩ := (H.out.old HB.out).row hlt
      have hPi : (decide (0 < L i) == t) = P i := by rw [HP.out]
      have hPj : (decide ((0 : Int) < (L i : Int)) == t) = P i := by rw [← hPi, show decide ((0 : Int) < (L i : Int)) = decide (0 < L i) from by simp]
      cases hh : P i with
      | true =>
        have HN : Hid (pls P (i + 1) = pls P i ++ [i]) := Lib.hid (pls_yes hh)
        have hlen : (pls P i).length ≤ i := plsN_le P i
        rw [hh] at hPi hPj
        obtain ⟨i0, hi0, hz0, hz1, hz2⟩ := info_parts infoInt
        have hown := HO.out
        have hlow : w.heap.size ≤ wr.heap.size := HB.out.size
        go_wp2_with (at_builtin; refine wpList_append_own _ rfl _ _ 22 rfl w.heap.size 3 i0 (.int .i64 0) 1 8 Tryz.underlying22 hi0 hz0 hz1 hz2 rfl (by decide) _ _ _ rfl (hown.alloc _) ⟨wr.heap.size, 0, none⟩ 1 1 [.int .i64 (i : Int)] rfl rfl (oneCell _ _ _) (oneInt _) (by unfold maxLen; omega) (by omega) (by simp; omega) ?_)
        intro v' w3 hown' hgrow _
        have HO3 : Hid (w3.ownsRow w.heap.size 3 1 v' (pls P (i + 1)).length (intsOf (pls P (i + 1)))) := by
          rw [HN.out, List.length_append]
          unfold intsOf
          rw [List.map_append]
          exact Lib.hid hown'
        have HB3 := Lib.hid ((HB.out.alloc hlow _).grown hgrow (by simp; omega) (fun x hx => (HO.out.lt x hx).1))
        clear hown' hgrow hown
        go_wp2
        go_roundw
        case rel => exact ⟨i + 1, by omega, by go_num, HO3, HB3⟩
        case measure => simp [intOf]; omega
      | false =>
        have HO3 := HO
        rw [← pls_no hh] at HO3
        rw [hh] at hPi hPj
        clear HO hh
        go_wp2
        go_roundw
        case rel => exact ⟨i + 1, by omega, by go_num, HO3, HB⟩
        case measure => simp [intOf]; omega
    · have hin : i = n := by omega
      have hO := HO.out
      rw [hin] at hO
      obtain ⟨Ao, Co, rfl, hC, hlo, hr⟩ := RdI.of_owns hO
      have HLo := Lib.hid hlo
      have HR := Lib.hid hr
      have HC := Lib.hid hC
      clear hr hO HO hC hlo
      go_wp2
      go_ret
      exact ⟨Ao, Co, rfl, HC.out, HLo.out, HR.out, HB.out⟩

/-- new memory that holds those rows -/
def ResT (n : Nat) (L : Nat → Nat) (M : Mat) (w : World) (e : Ending) (w' : World) : Prop :=
  ∃ b, e = .returned (.slice (some ⟨b, 0, none⟩) n n) ∧ w.heap.size ≤ b ∧ (∃ A C, TopR w' b n A L C M) ∧ Below w.heap.size w w'
set_option maxHeartbeats 1000000 in
theorem picked_any (A : Option Addr) (n C : Nat) (L : Nat → Nat) (M : Mat) (G : Nat → Prop) (A' : Option Addr) (k C' : Nat) (at_ : Nat → Nat) (w : World) (hk : k ≤ 255) (h : RdM w A n L M G) (h' : RdI w A' k (fun j => (at_ j : Int))) (hat : ∀ j, j < k → at_ j < n) :
    Calls Tryz.prog 53 #[.slice A n C, .slice A' k C'] w (ResT k (fun j => L (at_ j)) (fun j => M (at_ j)) w) := by
  have H := Lib.hid h
  have H' := Lib.hid h'
  have HA := Lib.hid hat
  clear h h' hat
  have hmk := run_make_row' (P := Tryz.prog) 29 34 (.slice none 0 0) 24 Tryz.underlying29 infoRow rfl .i64 .i64 k (by omega) (by omega)
  go_enter Tryz.func53, Tryz.ntmps53
  go_wp2
  clear hmk
  go_loopw [13] (fun vi wr => ∃ i : Nat, i ≤ k ∧ vi = .int .i64 (i : Int) ∧ Hid (∃ A C, TopR wr w.heap.size k A (fun j => if j < i then L (at_ j) else 0) C (fun j => M (at_ j))) ∧ Hid (Below w.heap.size w wr)) (fun vi _ => k - (intOf vi).toNat)
  case atStart => exact ⟨0, by omega, rfl, Lib.hid ⟨_, _, (TopR.start w k _).congr (fun i _ => by rw [if_neg (by omega)]) (fun _ _ _ _ => rfl)⟩, Lib.hid ((Below.refl _ _).alloc (Nat.le_refl _) _)⟩
  case round =>
    obtain ⟨i, hi, rfl, HO, HB⟩ := hrel
    obtain ⟨Ax, Cx, hO⟩ := HO.out
    have HO' := Lib.hid hO
    clear hO HO
    by_cases hlt : i < k
    · obtain ⟨b1, off1, rfl, d1⟩ := (H'.out.old HB.out).at hlt
      have hp := HA.out i hlt
      obtain ⟨b2, off2, A2, C2, rfl, _, d2, hr2⟩ := (H.out.old HB.out).row hp
      have HR2 : Hid (Rd wr A2 (L (at_ i)) (M (at_ i)) (· ≠ w.heap.size)) := by
        obtain ⟨b3, off3, A3, C3, e3, _, d3, hr3⟩ := H.out.row hp
        obtain ⟨rfl, rfl⟩ : b2 = b3 ∧ off2 = off3 := by simpa using e3
        have := (HB.out.cell (World.block_lt_of_cell? _ _ d3)).trans d3
        rw [d2] at this
        simp only [Option.some.injEq, Value.slice.injEq] at this
        obtain ⟨rfl, _, _⟩ := this
        exact Lib.hid ((hr3.ne (Nat.le_refl _)).old HB.out)
      obtain ⟨p, hpe⟩ : ∃ p, p = at_ i := ⟨_, rfl⟩
      rw [← hpe] at d1 d2 hp
      have hct := HO'.out.top.cell hlt
      have hft := HO'.out.top.frozen i
      have HP := Lib.hid (HO'.out.lay i (c := C2) HR2.out)
      have HB2 := Lib.hid (HB.out.setCell (p := ⟨w.heap.size, i, none⟩) (Nat.le_refl _) (.slice A2 (L (at_ i)) C2))
      rw [← hpe] at HP HB2
      have HE := Lib.hid hpe
      clear hr2 HR2 hpe
      go_wp2
      go_roundw
      case rel => exact ⟨i + 1, by omega, by go_num, Lib.hid ⟨_, _, HP.out.congr (fun j _ => by
        by_cases e : j = i
        · rw [if_pos e, if_pos (by omega), e, HE.out]
        · by_cases e' : j < i
          · rw [if_neg e, if_pos e', if_pos (by omega)]
          · rw [if_neg e, if_neg e', if_neg (by omega)]) (fun _ _ _ _ => rfl)⟩, HB2⟩
      case measure => simp [intOf]; omega
    · have HF : Hid (∃ A C, TopR wr w.heap.size k A (fun j => L (at_ j)) C (fun j => M (at_ j))) := Lib.hid ⟨Ax, Cx, HO'.out.congr (fun j hj => by rw [if_pos (by omega)]) (fun _ _ _ _ => rfl)⟩
      clear HO'
      go_wp2
      go_ret
      exact ⟨_, rfl, Nat.le_refl _, HF.out, HB.out⟩
end Go.Proofs.YtcokmmanajdioaaGreat
