/- How much room each tape has: what begin, goesOn and Rooms of package write answer. Units in a row: what a unit's cells are; one struct in a block of its own. No function of the program. Pieces of bytes as slices, and units as they lie in a row. No function of the program. A slice of slices of bytes: what its element is. No function of the program. Rows of bytes laid one by one into a slice that has room for all; which unit lies where. -/
import Derived.Test.YtndofmoepjfnfaaDoorMah
import Derived.Test.YtndofmoepjfnfaaDoorMal
import Derived.Test.YtndofmoepjfnfaaDoorMao
import Derived.Test.YtndofmoepjfnfaaDoorOwnZ
import Derived.Test.YtndofmoepjfnfaaDoorStRow
import Derived.Test.YtndofmoepjfnfaaDoorMae
import Derived.Test.YtndofmoepjfnfaaDoorMac
import Derived.Test.YtndofmoepjfnfaaDoorChecked
namespace Go.Proofs.YtndofmoepjfnfaaDoor
open Go.RowKit
open Pt (Tx)

theorem below_tapeW {w w' : World} {g : Nat} {lab cap : Int} {A : Option Addr} {n C : Nat} {lost : Bool} (hb : Below w.heap.size w w') (h : w.heap[g]? = some (tapeObj lab cap A n C lost)) : w'.heap[g]? = some (tapeObj lab cap A n C lost) := (hb.block g (heap_lt h)).trans h
set_option maxRecDepth 100000 in
theorem begin_any (lab cap : Int) (A : Option Addr) (n C : Nat) (lost : Bool) (w : World) (a : Int) (ha : a = if n = 0 then 1 else (n : Int)) :
    Calls Tryd.prog 28 #[.agg #[.int .i64 lab, .int .i64 cap, .slice A n C, .bool lost]] w fun e w' => e = .returned (.int .i64 a) ∧ Below w.heap.size w w' := by
  have hB : Below w.heap.size w (w.alloc (.cells #[.int .i64 lab, .int .i64 cap, .slice A n C, .bool lost] 35)) := (Below.refl _ _).alloc (Nat.le_refl _) _
  obtain ⟨x0, x1, x2, x3⟩ := tape4 (Go.Deep.blk_alloc_new w (tapeObj lab cap A n C lost))
  unfold tapeObj at x0 x1 x2 x3
  have hif : (if (n : Int) < 1 then (1 : Int) else (n : Int)) = a := by rw [ha]; split <;> split <;> omega
  have HB := Lib.hid hB
  clear hB ha
  go_enter Tryd.func28, Tryd.ntmps28
  go_wp2
  go_ret
  exact ⟨rfl, HB.out⟩
/-- may something be laid behind what a tape has? -/
def Wk.goes (t : St.T) : Bool := if t.blocks.length = 0 then !t.lost else (Vo.goodZ ⟨t.label, t.blocks, t.lost⟩ ((t.blocks.length : Int) - 1)).isSome
set_option maxRecDepth 100000 in
set_option maxHeartbeats 2000000 in
theorem goesOn_any (lab cap : Int) (A : Option Addr) (bs : List Tx) (n C : Nat) (lost : Bool) (G : Nat → Prop) (w : World) (hn : n = bs.length) (hm : n ≤ 1000000) (hr : RdB w A bs G) (hl : ∀ s ∈ bs, s.length ≤ 1000000) :
    Calls Tryd.prog 27 #[.agg #[.int .i64 lab, .int .i64 cap, .slice A n C, .bool lost]] w (AnsB (Wk.goes ⟨lab, cap, bs, lost⟩) w) := by
  obtain ⟨w1, hw1⟩ : ∃ x, x = w.alloc (tapeObj lab cap A n C lost) := ⟨_, rfl⟩
  have hb1 : Below w.heap.size w w1 := by rw [hw1]; exact (Below.refl _ _).alloc (Nat.le_refl _) _
  have hk1 : w1.heap[w.heap.size]? = some (tapeObj lab cap A n C lost) := by rw [hw1]; exact Go.Deep.blk_alloc_new _ _
  obtain ⟨x0, x1, x2, x3⟩ := tape4 hk1
  have HW1 : Hid (w1 = w.alloc (.cells #[.int .i64 lab, .int .i64 cap, .slice A n C, .bool lost] 35)) := Lib.hid hw1
  have HB1 := Lib.hid hb1
  by_cases h0 : n = 0
  · have hg : Wk.goes ⟨lab, cap, bs, lost⟩ = !lost := by unfold Wk.goes; rw [if_pos (show bs.length = 0 by omega)]
    rw [hg]
    subst h0
    clear hw1 hb1 hk1 hn hr hl hg
    go_enter Tryd.func27, Tryd.ntmps27
    go_upto_region 1 with fail
    rw [← HW1.out]
    go_wp2
    go_ret
    exact ⟨rfl, HB1.out⟩
  · have hg : Wk.goes ⟨lab, cap, bs, lost⟩ = (Vo.goodZ ⟨lab, bs, lost⟩ ((n : Int) - 1)).isSome := by unfold Wk.goes; rw [if_neg (show ¬ bs.length = 0 by omega), hn]
    rw [hg]
    have HC := Lib.hid (good_any lab cap bs A n C _ lost ((n : Int) - 1) w1 hn (hr.old hb1) hl)
    have z0 : ((n : Int) == 0) = false := beq_eq_false_iff_ne.2 (by omega)
    have z1 : (n == 0) = false := beq_eq_false_iff_ne.2 h0
    have hw : IntKind.i64.wrap ((n : Int) - 1) = (n : Int) - 1 := IntWalk.i64_in _ (by omega)
    obtain ⟨o, ho⟩ : ∃ o, o = Vo.goodZ ⟨lab, bs, lost⟩ ((n : Int) - 1) := ⟨_, rfl⟩
    rw [← ho] at HC ⊢
    clear hw1 hb1 hk1 hn hr hl hg ho h0
    go_enter Tryd.func27, Tryd.ntmps27
    go_upto_region 1 with fail
    rw [← HW1.out]
    go_wp2_with (go_at_call 39; refine HC.out.mono ?_; rintro e w2 ⟨A2, m2, C2, rfl, -, -, -, -, hb2⟩; have HB2 := Lib.hid (HB1.out.trans (hb2.mono HB1.out.size)); clear hb2)
    go_ret
    exact ⟨rfl, HB2.out.alloc HB2.out.size _⟩
/-- the room, as the program reckons it -/
theorem Wk.room_is (ss : List Rc.S) (t : St.T) : Wr.room (Gr.of ss t.label).isSome t = if Wk.cnt (Wk.flat ss) t.label = 0 ∧ Wk.goes t = true then (if t.cap < Wr.at_ t then Wr.at_ t else t.cap) - Wr.at_ t else 0 := by
  have hin : (Gr.of ss t.label).isSome = false ↔ Wk.cnt (Wk.flat ss) t.label = 0 := by
    unfold Wk.cnt Wk.flat Gr.of
    rw [Option.isSome_eq_false_iff, Option.isNone_iff_eq_none, List.find?_eq_none]
    constructor
    · intro h
      have : List.count t.label (ss.flatMap Rc.S.labels) = 0 := List.count_eq_zero.2 fun hm => by
        obtain ⟨s, hs, hm⟩ := List.mem_flatMap.1 hm
        exact h s hs (decide_eq_true hm)
      omega
    · intro h s hs hd
      have h0 : List.count t.label (ss.flatMap Rc.S.labels) = 0 := by omega
      exact List.count_eq_zero.1 h0 (List.mem_flatMap.2 ⟨s, hs, of_decide_eq_true hd⟩)
  obtain ⟨lab, cap, bs, lost⟩ := t
  unfold Wr.room Wk.goes Wr.at_
  dsimp only at hin ⊢
  by_cases hc : Wk.cnt (Wk.flat ss) lab = 0
  · rw [hin.2 hc]
    by_cases h0 : bs.length = 0
    · rw [if_pos h0, if_pos h0, if_pos h0]
      cases lost with
      | true => simp
      | false => simp [hc]; split <;> omega
    · rw [if_neg h0, if_neg h0, if_neg h0]
      have hz : Vo.goodZ ⟨lab, bs, lost⟩ ((bs.length : Int) - 1) = Vo.good ⟨lab, bs, lost⟩ (bs.length - 1) := by
        unfold Vo.goodZ
        rw [if_neg (by omega)]
        congr 1
        omega
      rw [hz]
      cases lost with
      | true => rw [Vo.good_lost rfl]; simp
      | false =>
        cases hg : Vo.good ⟨lab, bs, false⟩ (bs.length - 1) with
        | none => simp
        | some u => simp [hc]; split <;> omega
  · have : (Gr.of ss lab).isSome = true := by
      cases h : (Gr.of ss lab).isSome with
      | true => rfl
      | false => exact absurd (hin.1 h) hc
    rw [this, if_pos (.inr rfl), if_neg (fun h => hc h.1)]
/-- a cell of a row is no map's -/
theorem MpZ.cellZ {w : World} {b n : Nat} {f : Int → Int} (h : MpZ w b n f) {g j m : Nat} {t : TypeId} {V : Nat → Value} {v : Value} (hr : RowV w t g m V) : MpZ (w.setCell ⟨g, j, none⟩ v) b n f := by
  obtain ⟨D, ho, hd⟩ := h
  refine ⟨D, ho.setCell (a := ⟨g, j, none⟩) (fun e => ?_) v, hd⟩
  obtain ⟨es, clock, hb, _⟩ := ho
  obtain ⟨c, hc, -⟩ := hr
  have e' : b = g := e
  rw [e', hc] at hb
  cases hb
/-- numbers are answered -/
def RoomA (l : List Int) (w : World) (e : Ending) (w' : World) : Prop := ∃ A C, e = .returned (.slice A l.length C) ∧ RdZ w' A l (w.heap.size ≤ ·) ∧ Below w.heap.size w w'
set_option maxRecDepth 100000 in
set_option maxHeartbeats 8000000 in
theorem rooms_any (ts : List St.T) (xs : List Sx) (A1 : Option Addr) (n1 C1 : Nat) (A2 : Option Addr) (n2 C2 : Nat) (G1 G2 : Nat → Prop) (w : World) (h1 : n1 = ts.length) (hr1 : RdT w A1 ts G1) (hm1 : n1 ≤ 1000000) (h2 : n2 = xs.length) (hm2 : n2 ≤ 1000) (hr2 : encX.Rd w A2 xs G2) (hok : ∀ x ∈ xs, x.Ok w (fun _ => True)) (hwx : ∀ x ∈ xs, ∀ l ∈ x.s.labels, wfZ l) (hfl : (Wk.flat (xs.map Sx.s)).length ≤ 1000000)
    (hb1 : ∀ t ∈ ts, t.blocks.length ≤ 1000000 ∧ (∀ s ∈ t.blocks, s.length ≤ 1000000) ∧ wfZ t.label ∧ -1000000000000 ≤ t.cap ∧ t.cap ≤ 1000000000000) :
    Calls Tryd.prog 11 #[.slice A1 n1 C1, .slice A2 n2 C2] w (RoomA (Wr.rooms ts (xs.map Sx.s)) w) := by
  have hmk := run_make_row' (P := Tryd.prog) 41 3 (.int .i64 0) 8 Tryd.underlying41 infoI rfl .i64 .i64 n1 (by omega) (by omega)
  have HC := Lib.hid (membersOf_any A2 xs n2 C2 G2 w h2 hm2 hr2 hok hwx hfl)
  obtain ⟨ss, hss⟩ : ∃ ss, ss = xs.map Sx.s := ⟨_, rfl⟩
  rw [← hss] at HC ⊢
  obtain ⟨R, hR⟩ : ∃ R, R = Wr.rooms ts ss := ⟨_, rfl⟩
  have hRl : R.length = n1 := by rw [hR, Wr.rooms_len, h1]
  have hRk : ∀ k (hk : k < ts.length), R[k]? = some (Wr.room (Gr.of ss ts[k].label).isSome ts[k]) := fun k hk => by rw [hR]; unfold Wr.rooms; rw [List.getElem?_map, List.getElem?_eq_getElem hk]; rfl
  rw [← hR]
  have HRL := Lib.hid hRl
  have HRK := Lib.hid hRk
  have HR1 := Lib.hid hr1
  have HL1 := Lib.hid h1
  have HB1 := Lib.hid hb1
  clear hr1 h1 hr2 h2 hb1 hok hwx hfl hss hR hRl hRk
  go_enter Tryd.func11, Tryd.ntmps11
  go_wp2_with (go_at_call 26; refine HC.out.mono ?_; rintro e w1 ⟨b, q, rfl, hmp, hb1'⟩; have HMP := Lib.hid hmp; have HBA := Lib.hid hb1'; clear hmp hb1')
  obtain ⟨w2, hw2⟩ : ∃ x, x = w1.alloc (.cells (madeCells #[.int .i64 0] n1) 3) := ⟨_, rfl⟩
  have hb2 : Below w1.heap.size w1 w2 := by rw [hw2]; exact (Below.refl _ _).alloc (Nat.le_refl _) _
  have hrow : RowV w2 3 w1.heap.size n1 (fun i => .int .i64 (if i < 0 then R.getD i 0 else 0)) := by rw [hw2]; exact (RowV.made w1 (.int .i64 0) 3 n1).congr fun j _ => by simp
  have HROW := Lib.hid hrow
  have HMP2 := Lib.hid (HMP.out.old hb2)
  have HB2 := Lib.hid (HBA.out.trans (hb2.mono HBA.out.size))
  have HW2 := Lib.hid hw2
  rw [← HW2.out]
  clear hw2 hb2 hrow hmk
  obtain ⟨g, hg⟩ : ∃ g, g = w1.heap.size := ⟨_, rfl⟩
  rw [← hg] at HROW ⊢
  have HG : Hid (w.heap.size ≤ g) := Lib.hid (by rw [hg]; exact HBA.out.size)
  clear hg
  go_loopw [16] (fun vi wr => ∃ (k : Nat), k ≤ n1 ∧ vi = .int .i64 (k : Int) ∧ Hid (RowV wr 3 g n1 (fun i => .int .i64 (if i < k then R.getD i 0 else 0))) ∧ Hid (MpZ wr b q (Wk.cnt (Wk.flat ss))) ∧ Hid (Below w.heap.size w wr)) (fun vi _ => n1 - (intOf vi).toNat)
  case atStart => exact ⟨0, Nat.zero_le _, rfl, HROW, HMP2, HB2⟩
  case round =>
    obtain ⟨k, hk, rfl, HRV, HMK, HB⟩ := hrel
    by_cases hlt : k < n1
    · have e1 : decide (k < n1) = true := decide_eq_true hlt
      have hltT : k < ts.length := by rw [← HL1.out]; exact hlt
      obtain ⟨b1, off, A', C', rfl, -, c0, c1, c2, c3, hrB⟩ := (HR1.out.old HB.out).at_ hltT
      have hbl := HB1.out ts[k] (List.getElem_mem hltT)
      have hRk := HRK.out k hltT
      rw [Wk.room_is] at hRk
      obtain ⟨lab, cap, bs, lost, ht⟩ : ∃ lab cap bs lost, ts[k] = ⟨lab, cap, bs, lost⟩ := ⟨_, _, _, _, rfl⟩
      rw [ht] at c0 c1 c2 c3 hrB hbl hRk
      dsimp only at c0 c1 c2 c3 hrB hbl hRk
      obtain ⟨N, hN⟩ : ∃ N, N = bs.length := ⟨_, rfl⟩
      rw [← hN] at c2 hbl
      obtain ⟨w5, hw5⟩ : ∃ x, x = wr.alloc (.cells #[.int .i64 lab, .int .i64 cap, .slice A' N C', .bool lost] 35) := ⟨_, rfl⟩
      have hb5 : Below wr.heap.size wr w5 := by rw [hw5]; exact (Below.refl _ _).alloc (Nat.le_refl _) _
      have hk5 : w5.heap[wr.heap.size]? = some (tapeObj lab cap A' N C' lost) := by rw [hw5]; exact Go.Deep.blk_alloc_new _ _
      obtain ⟨a, ha⟩ : ∃ a, a = Wr.at_ ⟨lab, cap, bs, lost⟩ := ⟨_, rfl⟩
      have ha' : a = if N = 0 then 1 else (N : Int) := by rw [ha, hN]; rfl
      obtain ⟨M, hM⟩ : ∃ M, M = if cap < a then a else cap := ⟨_, rfl⟩
      rw [← ha, ← hM] at hRk
      obtain ⟨gs, hgs⟩ : ∃ gs, gs = Wk.goes ⟨lab, cap, bs, lost⟩ := ⟨_, rfl⟩
      rw [← hgs] at hRk
      obtain ⟨c, hc⟩ : ∃ c, c = Wk.cnt (Wk.flat ss) lab := ⟨_, rfl⟩
      rw [← hc] at hRk
      have hlk : (Instr.lookup 71 (.map (some b)) (.int .i64 lab) false).run Tryd.prog w5 = .ok (.int .i64 c) w5 := by rw [hc]; exact (HMK.out.old hb5).look hbl.2.2.1
      have hgo := goesOn_any lab cap A' bs N C' lost _ w5 hN hbl.1 (hrB.old hb5) hbl.2.1
      rw [← hgs] at hgo
      have HGO := Lib.hid hgo
      have HY : Hid (∀ y, Below w5.heap.size w5 y → y.cell? ⟨wr.heap.size, 0, none⟩ = some (.int .i64 lab) ∧ y.cell? ⟨wr.heap.size, 1, none⟩ = some (.int .i64 cap) ∧ y.cell? ⟨wr.heap.size, 2, none⟩ = some (.slice A' N C') ∧ y.cell? ⟨wr.heap.size, 3, none⟩ = some (.bool lost)) := Lib.hid fun y hy => tape4 (below_tapeW hy hk5)
      have HBG : Hid (∀ y, Below w5.heap.size w5 y → Calls Tryd.prog 28 #[.agg #[.int .i64 lab, .int .i64 cap, .slice A' N C', .bool lost]] y fun e w' => e = .returned (.int .i64 a) ∧ Below w5.heap.size w5 w') := Lib.hid fun y hy => (begin_any lab cap A' N C' lost y a ha').mono fun e w' h => ⟨h.1, hy.trans (h.2.mono hy.size)⟩
      obtain ⟨x0, x1, x2, x3⟩ := HY.out w5 (Below.refl _ _)
      have HRV5 := Lib.hid (HRV.out.old hb5)
      have HMK5 := Lib.hid (HMK.out.old hb5)
      have HB5 := Lib.hid (HB.out.trans (hb5.mono HB.out.size))
      have HW5 := Lib.hid hw5
      have hgl : g < wr.heap.size := HRV.out.lt
      have h1a : 1 ≤ a := by rw [ha']; split <;> omega
      have hcap := hbl.2.2.2
      have hN1 := hbl.1
      have haN : a ≤ 1000000 := by rw [ha']; split <;> omega
      have hMb : a ≤ M ∧ M ≤ 1000000000000 := by rw [hM]; split <;> omega
      have HRKK := Lib.hid hRk
      have HM := Lib.hid hM.symm
      have hnext : ∀ v : Int, R[k]? = some v → ∀ j, j < n1 → (if j = k then Value.int .i64 v else .int .i64 (if j < k then R.getD j 0 else 0)) = .int .i64 (if j < k + 1 then R.getD j 0 else 0) := fun v hv j _ => by
        by_cases e : j = k
        · subst e; rw [if_pos rfl, if_pos (by omega), List.getD_eq_getElem?_getD, hv]; rfl
        · rw [if_neg e]
          by_cases h : j < k
          · rw [if_pos h, if_pos (by omega)]
          · rw [if_neg h, if_neg (by omega)]
      have HNX := Lib.hid hnext
      clear hw5 hb5 hk5 hN hRk ht hbl hrB ha ha' hM hgs hc hgo hnext
      go_upto_region 6 with fail
      rw [← HW5.out]
      clear c0 c1 c2 c3
      have hskip : R[k]? = some 0 → Hid (RowV w5 3 g n1 (fun i => .int .i64 (if i < k + 1 then R.getD i 0 else 0))) := fun h0 => Lib.hid (HRV5.out.congr fun j hj => by
        have := HNX.out 0 h0 j hj
        rw [← this]
        by_cases e : j = k
        · subst e; rw [if_pos rfl, if_neg (by omega)]
        · rw [if_neg e])
      by_cases hc0 : c = 0
      · have z0 : (c == 0) = true := beq_iff_eq.2 hc0
        cases gs with
        | false =>
          have HSK := hskip (by have := HRKK.out; rw [if_neg (by simp)] at this; exact this)
          clear hskip
          go_wp2_with (go_at_call 27; refine HGO.out.mono ?_; rintro e w6 ⟨rfl, hb6⟩; have HR6 := Lib.hid (HSK.out.old hb6); have HM6 := Lib.hid (HMK5.out.old hb6); have HB6 := Lib.hid (HB5.out.trans (hb6.mono HB5.out.size)); clear hb6)
          go_roundw
          case rel => exact ⟨k + 1, by omega, by go_num, HR6, HM6, HB6⟩
          case measure => simp [intOf]; omega
        | true =>
          have hv : R[k]? = some (M - a) := by have := HRKK.out; rw [if_pos ⟨hc0, rfl⟩] at this; exact this
          clear hskip
          go_upto_region 7 with (go_at_call 27; refine HGO.out.mono ?_; rintro e w6 ⟨rfl, hb6⟩; have HB6 := Lib.hid hb6; clear hb6)
          have hd6 : Below w5.heap.size w5 w6.drew := HB6.out.drew
          have s6 := HY.out w6.drew hd6
          have hws : IntKind.i64.wrap (M - a) = M - a := IntWalk.i64_in _ (by omega)
          have HSS : Hid (∀ y, Below w5.heap.size w5 y → y.cell? ⟨wr.heap.size, 0, none⟩ = some (.int .i64 lab) ∧ y.cell? ⟨wr.heap.size, 1, none⟩ = some (.int .i64 cap) ∧ y.cell? ⟨wr.heap.size, 2, none⟩ = some (.slice A' N C') ∧ y.cell? ⟨wr.heap.size, 3, none⟩ = some (.bool lost)) := HY
          have HST : Hid (∀ y, Below w5.heap.size w5 y → ∀ v : Value, (y.setCell ⟨g, k, none⟩ v).cell? ⟨wr.heap.size, 0, none⟩ = some (.int .i64 lab) ∧ (y.setCell ⟨g, k, none⟩ v).cell? ⟨wr.heap.size, 1, none⟩ = some (.int .i64 cap) ∧ (y.setCell ⟨g, k, none⟩ v).cell? ⟨wr.heap.size, 2, none⟩ = some (.slice A' N C') ∧ (y.setCell ⟨g, k, none⟩ v).cell? ⟨wr.heap.size, 3, none⟩ = some (.bool lost)) := Lib.hid fun y hy v => by
            obtain ⟨q0, q1, q2, q3⟩ := HY.out y hy
            have hk := Kp.store y g k v
            exact ⟨hk.cell q0 (by show ¬ _ = _; simp; omega), hk.cell q1 (by show ¬ _ = _; simp; omega), hk.cell q2 (by show ¬ _ = _; simp; omega), hk.cell q3 (by show ¬ _ = _; simp; omega)⟩
          have HCL : Hid (∀ y, Below w5.heap.size w5 y → y.frozen? ⟨g, k, none⟩ = false ∧ ∃ v, y.cell? ⟨g, k, none⟩ = some v) := Lib.hid fun y hy => ⟨(HRV5.out.old hy).frozen k, _, (HRV5.out.old hy).cell hlt⟩
          have hM' := HM.out
          go_region_held3 (fun y => y.cell? ⟨wr.heap.size, 0, none⟩ = some (.int .i64 lab) ∧ y.cell? ⟨wr.heap.size, 1, none⟩ = some (.int .i64 cap) ∧ y.cell? ⟨wr.heap.size, 2, none⟩ = some (.slice A' N C') ∧ y.cell? ⟨wr.heap.size, 3, none⟩ = some (.bool lost))
            (first
              | exact s6
              | exact s7
              | exact s8
              | exact s9)
            (first
              | (go_at_call 28; with_reducible refine (HBG.out w6.drew hd6).mono ?_; rintro e w7 ⟨rfl, hd7⟩; have s7 := HSS.out w7 hd7)
              | (go_at_call 28; with_reducible refine (HBG.out w7 hd7).mono ?_; rintro e w8 ⟨rfl, hd8⟩; have s8 := HSS.out w8 hd8; have s9 := HST.out w8 hd8 (.int .i64 (M - a)); obtain ⟨f8, v8, c8⟩ := HCL.out w8 hd8; have HD8 := Lib.hid hd8))
          all_goals
            have hset := (HRV5.out.old HD8.out).set k (.int .i64 (M - a))
            have HSET : Hid (RowV (w8.setCell ⟨g, k, none⟩ (.int .i64 (M - a))) 3 g n1 (fun i => .int .i64 (if i < k + 1 then R.getD i 0 else 0))) := Lib.hid (hset.congr fun j hj => by
              have := HNX.out (M - a) hv j hj
              rw [← this])
            have hkp := Kp.store w8 g k (.int .i64 (M - a))
            have HB9 := Lib.hid ((HB5.out.trans (HD8.out.mono HB5.out.size)).trans (hkp.below (by have := HB5.out.size; have := HD8.out.size; omega) fun j hj => by rw [hj]; exact HG.out))
            have HM9 := Lib.hid ((HMK5.out.old HD8.out).cellZ (g := g) (j := k) (v := .int .i64 (M - a)) (HRV5.out.old HD8.out))
            clear hset hkp s6 s7 s8 s9 f8 c8 hM'
            go_wp2
            go_roundw
            case rel => exact ⟨k + 1, by omega, by go_num, HSET, HM9, HB9⟩
            case measure => simp [intOf]; omega
      · have z0 : (c == 0) = false := beq_eq_false_iff_ne.2 hc0
        have HSK := hskip (by have := HRKK.out; rw [if_neg (fun h => hc0 h.1)] at this; exact this)
        clear hskip
        go_wp2
        go_roundw
        case rel => exact ⟨k + 1, by omega, by go_num, HSK, HMK5, HB5⟩
        case measure => simp [intOf]; omega
    · have e1 : decide (k < n1) = false := decide_eq_false hlt
      have hkn : k = n1 := by omega
      have hfin : RdZ wr (some ⟨g, 0, none⟩) R (w.heap.size ≤ ·) := fun _ => ⟨g, 0, rfl, HG.out, fun j hj => by
        rw [Nat.zero_add, HRV.out.cell (by rw [← HRL.out]; exact hj), if_pos (by have := HRL.out; omega), List.getD_eq_getElem?_getD, List.getElem?_eq_getElem hj]; rfl⟩
      have HFIN := Lib.hid hfin
      clear hfin hkn
      go_wp2
      go_ret
      exact ⟨some ⟨g, 0, none⟩, n1, by rw [HRL.out]; rfl, HFIN.out, HB.out⟩
end Go.Proofs.YtndofmoepjfnfaaDoor
namespace Go.Proofs.YtndofmoepjfnfaaDoor
open Go.RowKit

theorem infoUnit : (Tryd.prog.info? 39).map (fun i => (i.zero, i.size, i.bytes)) = some (some (.agg #[.int .i64 0, .int .i64 0, .int .i64 0, .slice none 0 0]), 4, 48) := by kernel_rfl
/-- one struct in a block of its own -/
theorem Enc.Own.one {α : Type} {E : Enc α} {w : World} {base g : Nat} {t : TypeId} {x : α} (h : w.heap[g]? = some (.cells (E.enc x).toArray t)) (hb : base ≤ g) : E.Own w base t (.slice (some ⟨g, 0, none⟩) 1 1) [x] := by
  refine ⟨E.cells_len [x], .inr ⟨g, 1, _, rfl, hb, h, Nat.le_refl _, by decide, ?_, ?_⟩⟩
  · rw [List.size_toArray, E.len]; omega
  · rw [E.cells_one, List.length_singleton, Nat.one_mul]
    show (E.enc x).take E.k = E.enc x
    exact List.take_of_length_le (by rw [E.len]; exact Nat.le_refl _)
theorem own_lower {w : World} {B B' : Nat} {t : TypeId} {k n : Nat} {v : Value} {xs : List Value} (h : w.ownsRow B t k v n xs) (hb : B' ≤ B) : w.ownsRow B' t k v n xs := by
  refine ⟨h.1, ?_⟩
  rcases h.2 with h0 | ⟨g, cap, cur, e, hg, r⟩
  · exact .inl h0
  · exact .inr ⟨g, cap, cur, e, Nat.le_trans hb hg, r⟩
end Go.Proofs.YtndofmoepjfnfaaDoor
namespace Go.Proofs.YtndofmoepjfnfaaDoor
open Go.RowKit
open Pt (Tx)

/-- a piece, as a slice -/
structure Pc where
  A : Option Addr
  n : Nat
  C : Nat
/-- the piece k of L bytes -/
def pcAt (b off L k : Nat) : Pc := ⟨some ⟨b, off + 64 * k, none⟩, min 64 (L - 64 * k), min 64 (L - 64 * k)⟩
/-- what has come when k rounds are over -/
def pcs (b off L k : Nat) : List Pc := (List.range k).map (pcAt b off L)
theorem pcs_succ (b off L k : Nat) : pcs b off L (k + 1) = pcs b off L k ++ [pcAt b off L k] := by simp [pcs, List.range_succ]
theorem pcs_len (b off L k : Nat) : (pcs b off L k).length = k := by simp [pcs]
/-- a unit as it lies in a row: its kind, and its load -/
structure Uv where
  kind : Int
  A : Option Addr
  n : Nat
  C : Nat
def cells4 (u : Uv) : List Value := [.int .i64 u.kind, .int .i64 0, .int .i64 0, .slice u.A u.n u.C]
def encU : Enc Uv where
  k := 4
  pos := by decide
  enc u := cells4 u
  len _ := rfl
  one q u hu := by
    simp only [cells4, List.mem_cons, List.not_mem_nil, or_false] at hu
    rcases hu with rfl | rfl | rfl | rfl <;> rfl
/-- a piece's unit -/
def pu (p : Pc) : Uv := ⟨3, p.A, p.n, p.C⟩
def uvs (Ah : Option Addr) (nh Ch : Nat) (ps : List Pc) : List Uv := ⟨2, Ah, nh, Ch⟩ :: ps.map pu
theorem uvs_snoc (Ah : Option Addr) (nh Ch : Nat) (ps : List Pc) (p : Pc) : uvs Ah nh Ch (ps ++ [p]) = uvs Ah nh Ch ps ++ [pu p] := by simp [uvs]
end Go.Proofs.YtndofmoepjfnfaaDoor
namespace Go.Proofs.YtndofmoepjfnfaaDoor
open Go.RowKit

theorem infoRowT : (Tryd.prog.info? 26).map (fun i => (i.zero, i.size, i.bytes)) = some (some (.slice none 0 0), 1, 24) := by kernel_rfl
end Go.Proofs.YtndofmoepjfnfaaDoor
namespace Go.Proofs.YtndofmoepjfnfaaDoor
open Go.RowKit
open Pt (Tx)

/-- v is a slice of the call's own, in block M with room for K, whose rows us read as bs and lie behind M -/
structure TopR (w : World) (B M K : Nat) (us : List Value) (bs : List Tx) : Prop where
  top : w.ownsRow B 26 1 (.slice (some ⟨M, 0, none⟩) us.length K) us.length us
  len : us.length = bs.length
  rows : ∀ i (h : i < us.length) (h' : i < bs.length), ∃ A C, us[i] = .slice A bs[i].length C ∧ bs[i].length ≤ C ∧ (A = none → bs[i].length = 0 ∧ C = 0) ∧ RdL w A bs[i] (M < ·)
namespace TopR
variable {w w' : World} {B M K : Nat} {us : List Value} {bs : List Tx}
theorem block (h : TopR w B M K us bs) : ∃ c, w.heap[M]? = some (.cells c 26 (0, 0)) := by
  rcases h.top.2 with ⟨e, _⟩ | ⟨g, cap, cur, e, _, hg, _⟩
  · cases e
  · cases e; exact ⟨cur, hg⟩
theorem lt (h : TopR w B M K us bs) : M < w.heap.size := by obtain ⟨c, hc⟩ := h.block; exact heap_lt hc
theorem lo (h : TopR w B M K us bs) : B ≤ M := (World.ownsRow.lt h.top M rfl).1
theorem old (h : TopR w B M K us bs) (hb : Below w.heap.size w w') : TopR w' B M K us bs := by
  refine ⟨⟨h.top.1, ?_⟩, h.len, fun i hi hi' => ?_⟩
  · rcases h.top.2 with ⟨e, _⟩ | ⟨g, cap, cur, e, hB, hg, hr⟩
    · cases e
    · exact .inr ⟨g, cap, cur, e, hB, (hb.block g (heap_lt hg)).trans hg, hr⟩
  · obtain ⟨A, C, h1, h2, h3, h4⟩ := h.rows i hi hi'
    exact ⟨A, C, h1, h2, h3, h4.old hb⟩
/-- a row more -/
theorem push (h : TopR w B M K us bs) {w1 : World} (hw : Below w.heap.size w w1) {A : Option Addr} {C : Nat} {s : Tx} (h2 : s.length ≤ C) (h3 : A = none → s.length = 0 ∧ C = 0) (h4 : RdL w1 A s (M < ·))
    (ho : w'.ownsRow B 26 1 (.slice (some ⟨M, 0, none⟩) (us.length + 1) K) (us.length + 1) (us ++ [.slice A s.length C])) (hg : w1.grownBy w' (some M)) : TopR w' B M K (us ++ [.slice A s.length C]) (bs ++ [s]) := by
  have keep : ∀ {A' : Option Addr} {l : Tx}, RdL w1 A' l (M < ·) → RdL w' A' l (M < ·) := fun {A' l} hx => hx.keep fun p u hp hc =>
    (World.cell?_of_block (hg.block _ (World.block_lt_of_cell? _ _ hc) (fun e => by cases e; omega))).trans hc
  refine ⟨by rw [List.length_append]; exact ho, by simp [h.len], fun i hi hi' => ?_⟩
  rcases Nat.lt_or_ge i us.length with hl | hl
  · have hl' : i < bs.length := by rw [← h.len]; exact hl
    obtain ⟨A', C', g1, g2, g3, g4⟩ := h.rows i hl hl'
    rw [List.getElem_append_left hl, List.getElem_append_left hl']
    exact ⟨A', C', g1, g2, g3, keep (g4.old hw)⟩
  · have : i = us.length := by simp at hi; omega
    subst this
    have e2 : (bs ++ [s])[us.length] = s := by simp [h.len]
    rw [e2]
    simp only [List.getElem_concat_length]
    exact ⟨A, C, rfl, h2, h3, keep h4⟩
/-- as what reads -/
theorem rdB (h : TopR w B M K us bs) : RdB w (some ⟨M, 0, none⟩) bs (B ≤ ·) := by
  intro hn
  rcases h.top.2 with ⟨e, _⟩ | ⟨g, cap, cur, e, hB, hg, hnc, _, hs, ht⟩
  · cases e
  · cases e
    refine ⟨M, 0, rfl, hB, fun i hi => ?_⟩
    have hi' : i < us.length := by rw [h.len]; exact hi
    obtain ⟨A', C', hv, h1, h2, h3⟩ := h.rows i hi' hi
    refine ⟨A', C', ?_, h1, h2, h3.mono fun x hx => by omega⟩
    have hx : us[i]? = some (.slice A' bs[i].length C') := by rw [List.getElem?_eq_getElem hi', hv]
    rw [← ht, List.getElem?_take, if_pos (by omega), Array.getElem?_toList] at hx
    rw [Nat.zero_add, heap_cell hg, hx]
end TopR
theorem chunk_of {b : Tx} {k : Nat} : (Vo.chunk b k).length = min 64 (b.length - 64 * k) := by
  unfold Vo.chunk; rw [List.length_take, List.length_drop]
/-- the unit i, as it lies in the row -/
theorem uv_is {h : Rc.H} {b : Tx} {lab at_ : Int} {A Ah : Option Addr} {nh Ch bb off L : Nat} (hOk : Rc.Ok h) (hL : L = b.length) (hnh : nh = (Rc.put h).length) (hch : nh ≤ Ch) (hz : Ah = none → nh = 0 ∧ Ch = 0) (hA : 0 < L → A = some ⟨bb, off, none⟩) {i : Nat} (hi : i < Vo.data L + 2) :
    ∃ u uv, (Vo.units lab at_ h b)[i]? = some u ∧ (uvs Ah nh Ch (pcs bb off L (Vo.data L)) ++ [⟨4, none, 0, 0⟩])[i]? = some uv ∧ uv.kind = u.kind ∧ uv.n = u.load.length ∧ (uv.A = none → uv.n = 0 ∧ uv.C = 0) ∧ uv.n ≤ uv.C
      ∧ ∀ (W : World) (G : Nat → Prop), RdL W Ah (Rc.put h) G → RdL W A b G → RdL W uv.A u.load G := by
  subst hL
  by_cases h0 : i = 0
  · subst h0
    refine ⟨_, _, Vo.units_zero lab at_ h b, rfl, rfl, ?_, hz, hch, fun W G h1 _ => ?_⟩
    · show nh = (Rc.blk h).length
      rw [hnh, Rc.put_ok hOk]
    · show RdL W Ah (Rc.blk h) G
      rw [← Rc.put_ok hOk]; exact h1
  · obtain ⟨k, rfl⟩ : ∃ k, i = k + 1 := ⟨i - 1, by omega⟩
    by_cases hk : k < Vo.data b.length
    · have hlt : 64 * k < b.length := by unfold Vo.data at hk; omega
      refine ⟨_, pu (pcAt bb off b.length k), Vo.units_data hk, ?_, rfl, ?_, (fun h => by cases h), Nat.le_refl _, fun W G _ h2 => ?_⟩
      · rw [List.getElem?_append_left (by simp [uvs, pcs]; omega)]
        unfold uvs
        rw [List.getElem?_cons_succ, List.getElem?_map, pcs, List.getElem?_map, List.getElem?_range hk]
        rfl
      · show min 64 (b.length - 64 * k) = (Vo.chunk b k).length
        rw [chunk_of]
      · rw [hA (by omega)] at h2
        exact (h2.drop (64 * k)).take 64
    · obtain rfl : k = Vo.data b.length := by omega
      refine ⟨_, ⟨4, none, 0, 0⟩, Vo.units_mark lab at_ h b, ?_, rfl, rfl, fun _ => ⟨rfl, rfl⟩, Nat.le_refl _, fun W G _ _ => RdL.empty _ _ _⟩
      simp [uvs, pcs]
end Go.Proofs.YtndofmoepjfnfaaDoor
