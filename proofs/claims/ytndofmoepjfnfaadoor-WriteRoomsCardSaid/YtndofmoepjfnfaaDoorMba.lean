/- The examples of chapter 20. What Few of chapter 8's law answers. What Few of chapter 13's law answers. What the document's own Append does to a tape that lies anywhere in a row of tapes. What the document's own CopyTape makes (parted from TpRefE: no function of package tape). -/
import Derived.Test.YtndofmoepjfnfaaDoorMaw
import Derived.Test.YtndofmoepjfnfaaDoorWkDo
import Derived.Test.YtndofmoepjfnfaaDoorMal
import Derived.Test.YtndofmoepjfnfaaDoorChecked
import Derived.OwnWalk
import Derived.Handy
import Derived.WalkSpells
import Derived.WalkLawsBesides
import Derived.Test.YtndofmoepjfnfaaDoorMah
import Derived.Test.YtndofmoepjfnfaaDoorMao
import Derived.Test.YtndofmoepjfnfaaDoorMau
import Derived.Test.YtndofmoepjfnfaaDoorMay
import Derived.Deep.RegionLaw
import Derived.Deep.AppendLies
namespace Go.Proofs.YtndofmoepjfnfaaDoor
open Go.RowKit
open Pt (Tx)

namespace Wk
theorem more_all {cap : Int} : ∀ (xs bs : List Tx), (∀ x ∈ xs, 1 ≤ x.length ∧ x.length ≤ 94) → ((bs.length + xs.length : Nat) : Int) ≤ cap → xs.foldl (more cap) bs = bs ++ xs
  | [], bs, _, _ => by simp
  | x :: xs, bs, h, hc => by
    rw [List.length_cons] at hc
    have hx := h x List.mem_cons_self
    have e : more cap bs x = bs ++ [x] := by
      unfold more
      rw [if_neg (by omega), if_neg (by omega)]
    rw [List.foldl_cons, e, more_all xs _ (fun y hy => h y (List.mem_cons_of_mem _ hy)) (by rw [List.length_append, List.length_singleton]; omega), List.append_assoc]
    rfl
theorem blk_in {u : Fm.U} (h : Fm.Ok u) : 1 ≤ (Fm.blk u).length ∧ (Fm.blk u).length ≤ 94 := by
  have h1 := Fm.blk_len h
  have h2 := Fm.room_le u.kind
  omega
theorem four_in : ∀ x ∈ four, 1 ≤ x.length ∧ x.length ≤ 94 := fun x hx => by
  unfold four at hx
  rcases List.mem_cons.1 hx with rfl | hx
  · exact blk_in (Vo.first_ok (by decide) (by decide))
  · rw [Vo.put_yes right1] at hx
    obtain ⟨u, hu, rfl⟩ := List.mem_map.1 hx
    obtain ⟨j, hj, e⟩ := List.mem_iff_getElem.1 hu
    have hR := right1
    exact blk_in (Vo.units_ok hR.1.1 hR.2 (by rw [List.getElem?_eq_getElem hj, e]))
theorem load0 : Tp.loadE 1 9 [] false = 0 := by decide
theorem mine4 : mine fourS 0 = four := by
  unfold mine fourS
  rw [List.filter_eq_self.2 (fun x hx => by obtain ⟨b, -, rfl⟩ := List.mem_map.1 hx; rfl), List.map_map]
  simp [Function.comp_def]
theorem do4 : Wr.go (-1) 0 0 [⟨1, 9, [], false⟩] fourS = ([⟨1, 9, four, false⟩], false) := by
  rw [go_far fourS 0 _ (.inl (by decide)), fold_is]
  show ([ap _ (mine fourS 0)], false) = _
  rw [mine4, ap_ok load0, more_all _ _ four_in (by rw [four_len]; decide), List.nil_append]
end Wk
theorem num20 (n : Int) (w : World) : Calls Tryd.prog 13 #[.int .i64 n] w fun e w' => e = .returned (.int .i64 n) ∧ w = w' := by
  go_enter Tryd.func13, Tryd.ntmps13
  go_wp2
  go_ret
  exact ⟨rfl, rfl⟩
theorem do1_any (A1 : Option Addr) (C1 : Nat) (A2 : Option Addr) (C2 : Nat) (G1 G2 : Nat → Prop) (w : World) (hr1 : RdT w A1 [⟨1, 9, [], false⟩] G1) (hr2 : StpR w A2 fourS G2) (hc : fourS.length ≤ C2) :
    Calls Tryd.prog 7 #[.slice A1 1 C1, .slice A2 4 C2, .int .i64 (-1), .int .i64 0] w fun e w' => ∃ b off C A' C', e = .returned (.tuple #[.slice (some ⟨b, off, none⟩) 1 C, .bool false]) ∧ w'.cell? ⟨b, off + 2, none⟩ = some (.slice A' 4 C') ∧ Below w.heap.size w w' := by
  have h4 : fourS.length = 4 := by unfold fourS; rw [List.length_map, Wk.four_len]
  have := do_any [⟨1, 9, [], false⟩] fourS (-1) 0 A1 1 C1 A2 4 C2 G1 G2 w rfl hr1 h4.symm hr2 (by rw [← h4]; exact hc) (by decide) (by decide) (fun t ht => by
    rw [List.mem_singleton] at ht
    subst ht
    exact ⟨by simp, by simp⟩) (fun x hx => by
    unfold fourS at hx
    obtain ⟨b, hb, rfl⟩ := List.mem_map.1 hx
    have := (Wk.four_in b hb).2
    dsimp only
    omega)
  rw [Wk.do4] at this
  refine this.mono ?_
  rintro e w' ⟨A, C, rfl, hr, hb⟩
  obtain ⟨b, off, A', C', rfl, -, -, -, hc2, -, -⟩ := hr.at_ (i := 0) (by simp)
  refine ⟨b, off, C, A', C', rfl, ?_, hb⟩
  have : (Wk.four).length = 4 := Wk.four_len
  rw [← this]
  simpa using hc2
set_option maxRecDepth 100000 in
set_option maxHeartbeats 8000000 in
theorem alive20_true (w : World) (hk : Kept w) : Calls Tryd.prog 5 #[] w fun e w' => e = .returned (.bool true) ∧ Below w.heap.size w w' := by
  have h4 : fourS.length = 4 := by unfold fourS; rw [List.length_map, Wk.four_len]
  obtain ⟨wt, hwt⟩ : ∃ x, x = w.alloc (.cells #[.int .i64 1, .int .i64 9, .slice none 0 0, .bool false] 35) := ⟨_, rfl⟩
  obtain ⟨wb, hwb⟩ : ∃ x, x = wt.alloc (.cells #[.int .u8 120] 5 (1, 2)) := ⟨_, rfl⟩
  have bt : Below w.heap.size w wt := by rw [hwt]; exact (Below.refl _ _).alloc (Nat.le_refl _) _
  have bb : Below wt.heap.size wt wb := by rw [hwb]; exact (Below.refl _ _).alloc (Nat.le_refl _) _
  have hT : wt.heap[w.heap.size]? = some (tapeObj 1 9 none 0 0 false) := by rw [hwt]; exact Go.Deep.blk_alloc_new _ _
  have hD : wb.heap[wt.heap.size]? = some (.cells #[.int .u8 120] 5 (1, 2)) := by rw [hwb]; exact Go.Deep.blk_alloc_new _ _
  have rt : RdT wt (some ⟨w.heap.size, 0, none⟩) [⟨1, 9, [], false⟩] (fun _ => True) := fun _ => ⟨w.heap.size, 0, rfl, trivial, fun i hi => by
    have h0 : i = 0 := by simpa using hi
    subst h0
    obtain ⟨x0, x1, x2, x3⟩ := tape4 hT
    exact ⟨none, 0, x0, x1, x2, x3, RdB.empty _ _ _⟩⟩
  have rb : RdL wb (some ⟨wt.heap.size, 0, none⟩) [120] (fun _ => True) := fun _ => ⟨wt.heap.size, 0, rfl, trivial, fun j hj => by
    have h0 : j = 0 := by simpa using hj
    subst h0
    rw [heap_cell hD]; rfl⟩
  have HF := Lib.hid (file1_any (some ⟨w.heap.size, 0, none⟩) 1 wt.heap.size _ _ wb (hk.old (bt.trans (bb.mono bt.size))) (rt.old bb) rb)
  have HRT := Lib.hid rt
  have HBB := Lib.hid (bt.trans (bb.mono bt.size))
  have HB2 := Lib.hid bb
  have HWT := Lib.hid hwt
  have HWB := Lib.hid hwb
  have hR0 : ∀ y, Calls Tryd.prog 11 #[.slice none 0 0, .slice none 0 0] y (RoomA [] y) := fun y => rooms_any [] [] none 0 0 none 0 0 (fun _ => True) (fun _ => True) y rfl (RdT.empty _ _ _) (by decide) rfl (by decide) (Enc.Rd.nil _ _ _) (by simp) (by simp) (by simp [Wk.flat]) (by simp)
  have HR0 := Lib.hid hR0
  have kc := Go.Joins.run_convert_bytes_const_at (P := Tryd.prog) wt 26 5 #[.int .u8 120] 1 1 wt.heap.size rfl Tryd.underlying26 Tryd.underlying5
  have H4 := Lib.hid h4
  clear hk hwt hwb bt bb hT hD rt rb hR0 h4
  go_enter Tryd.func5, Tryd.ntmps5
  go_upto_region 2 with fail
  rw [← HWT.out]
  go_upto_region 3 with (go_at_call 12; rw [← HWB.out]; refine HF.out.mono ?_; rintro e w3 ⟨A3, C3, rfl, hc3, hr3, hb3⟩; rw [H4.out]; have HC3 := Lib.hid hc3; have HR3 := Lib.hid hr3; have HB3 := Lib.hid hb3; clear hc3 hr3 hb3)
  have HD := Lib.hid (do1_any (some ⟨w.heap.size, 0, none⟩) 1 A3 C3 _ _ w3 (HRT.out.old (HB2.out.trans (HB3.out.mono HB2.out.size))) HR3.out HC3.out)
  have HB30 := Lib.hid (HBB.out.trans (HB3.out.mono HBB.out.size))
  clear HF HRT HBB HB2 HC3 HR3 HB3 kc
  go_upto_region 4 with (go_at_call 7; refine HD.out.mono ?_; rintro e w4 ⟨b4, o4, C4, A4, D4, rfl, hc4, hb4⟩; have HC4 := Lib.hid hc4; have HB4 := Lib.hid (HB30.out.trans (hb4.mono HB30.out.size)); clear hc4 hb4)
  have hc4 := HC4.out
  go_wp2_with (first
    | (go_at_call 11; refine (HR0.out w4).mono ?_; rintro e w5 ⟨A5, C5, rfl, -, hb5⟩; have HB5 := Lib.hid (HB4.out.trans (hb5.mono HB4.out.size)); have hc5 := (hb5.cell (World.block_lt_of_cell? _ _ hc4)).trans hc4; clear hb5)
    | (go_at_call 13; refine (num20 _ _).mono ?_; rintro e w6 ⟨rfl, hw6⟩; subst hw6))
  go_ret
  exact ⟨rfl, HB5.out⟩
end Go.Proofs.YtndofmoepjfnfaaDoor
namespace Go.Proofs.YtndofmoepjfnfaaDoor
open Go.RowKit
open Pt (Tx)

/-- few blocks, none long -/
def Tp.few (bs : List Tx) : Bool := decide (bs.length ≤ 90) && bs.all fun s => decide (s.length ≤ 300)
theorem Tp.few_of {bs : List Tx} (h : Tp.few bs = true) : bs.length ≤ 90 ∧ ∀ s ∈ bs, s.length ≤ 300 := by
  simpa only [Tp.few, Bool.and_eq_true, decide_eq_true_eq, List.all_eq_true] using h
theorem few_yes (lab cap : Int) (A : Option Addr) (bs : List Tx) (C : Nat) (lost : Bool) (G : Nat → Prop) (w : World) (hr : RdB w A bs G) (hT : Tp.few bs = true) :
    Calls Tryd.prog 14 #[.agg #[.int .i64 lab, .int .i64 cap, .slice A bs.length C, .bool lost]] w (AnsB true w) := by
  have hB : Below w.heap.size w (w.alloc (.cells #[.int .i64 lab, .int .i64 cap, .slice A bs.length C, .bool lost] 35)) := (Below.refl _ _).alloc (Nat.le_refl _) _
  have hr' := hr.old hB
  have HB := Lib.hid hB
  obtain ⟨h1, h5⟩ := Tp.few_of hT
  have d1 : decide ((bs.length : Int) ≤ 90) = true := decide_eq_true (by omega)
  have H5 := Lib.hid h5
  clear h5 hr hB
  go_enter Tryd.func14, Tryd.ntmps14
  go_wp2
  go_loop [3] (fun i => ∃ k : Nat, k ≤ bs.length ∧ i = .int .i64 (k : Int)) (fun i => bs.length - (intOf i).toNat)
  case atStart => exact ⟨0, Nat.zero_le _, rfl⟩
  case round =>
    obtain ⟨k, hk, rfl⟩ := hrel
    by_cases hlt : k < bs.length
    · obtain ⟨b, off, A', C', rfl, _, hc, _⟩ := hr'.at_ hlt
      have hs := H5.out bs[k] (List.getElem_mem hlt)
      have e0 : decide (k < bs.length) = true := decide_eq_true hlt
      have e1 : decide (300 < (bs[k].length : Int)) = false := decide_eq_false (by omega)
      have e2 : decide ((k : Int) < 100) = true := decide_eq_true (by omega)
      go_wp2
      go_round
      case rel => exact ⟨k + 1, by omega, by go_num⟩
      case measure => simp [intOf]; omega
    · have e0 : decide (k < bs.length) = false := decide_eq_false hlt
      go_wp2
      go_ret
      exact ⟨rfl, HB.out⟩
theorem few_no (lab cap : Int) (A : Option Addr) (bs : List Tx) (C : Nat) (lost : Bool) (G : Nat → Prop) (w : World) (hr : RdB w A bs G) (hT : Tp.few bs = false) :
    Calls Tryd.prog 14 #[.agg #[.int .i64 lab, .int .i64 cap, .slice A bs.length C, .bool lost]] w (AnsB false w) := by
  have hB : Below w.heap.size w (w.alloc (.cells #[.int .i64 lab, .int .i64 cap, .slice A bs.length C, .bool lost] 35)) := (Below.refl _ _).alloc (Nat.le_refl _) _
  have hr' := hr.old hB
  have HB := Lib.hid hB
  have HT := Lib.hid hT
  clear hr hB hT
  go_enter Tryd.func14, Tryd.ntmps14
  go_wp2
  go_loop [3] (fun i => ∃ k : Nat, k ≤ bs.length ∧ k ≤ 100 ∧ i = .int .i64 (k : Int) ∧ Hid (∀ j (hj : j < bs.length), j < k → bs[j].length ≤ 300)) (fun i => bs.length - (intOf i).toNat)
  case atStart => exact ⟨0, Nat.zero_le _, by omega, rfl, Lib.hid (fun j _ h => absurd h (by omega))⟩
  case round =>
    obtain ⟨k, hk, hk1, rfl, HJ⟩ := hrel
    by_cases hlt : k < bs.length
    · have e0 : decide (k < bs.length) = true := decide_eq_true hlt
      by_cases hk2 : k < 100
      · have e2 : decide ((k : Int) < 100) = true := decide_eq_true (by omega)
        obtain ⟨b, off, A', C', rfl, _, hc, _⟩ := hr'.at_ hlt
        by_cases hs : 300 < bs[k].length
        · have e1 : decide (300 < (bs[k].length : Int)) = true := decide_eq_true (by omega)
          go_wp2
          go_ret
          exact ⟨rfl, HB.out⟩
        · have e1 : decide (300 < (bs[k].length : Int)) = false := decide_eq_false (by omega)
          have HJ2 : Hid (∀ j (hj : j < bs.length), j < k + 1 → bs[j].length ≤ 300) := Lib.hid fun j hj hjk => by
            by_cases e : j = k
            · subst e; omega
            · exact HJ.out j hj (by omega)
          go_wp2
          go_round
          case rel => exact ⟨k + 1, by omega, by omega, by go_num, HJ2⟩
          case measure => simp [intOf]; omega
      · have e2 : decide ((k : Int) < 100) = false := decide_eq_false (by omega)
        have d1 : decide ((bs.length : Int) ≤ 90) = false := decide_eq_false (by omega)
        go_wp2
        go_ret
        exact ⟨rfl, HB.out⟩
    · have e0 : decide (k < bs.length) = false := decide_eq_false hlt
      have d1 : decide ((bs.length : Int) ≤ 90) = false := decide_eq_false fun h => by
        have : Tp.few bs = true := by
          simp only [Tp.few, Bool.and_eq_true, decide_eq_true_eq, List.all_eq_true]
          refine ⟨by omega, fun s hs => ?_⟩
          obtain ⟨j, hj, rfl⟩ := List.mem_iff_getElem.1 hs
          exact HJ.out j hj (by omega)
        rw [HT.out] at this; cases this
      go_wp2
      go_ret
      exact ⟨rfl, HB.out⟩
end Go.Proofs.YtndofmoepjfnfaaDoor
namespace Go.Proofs.YtndofmoepjfnfaaDoor
open Go.RowKit
open Pt (Tx)

def St.sum : List St.T → Nat
  | [] => 0
  | t :: ts => t.blocks.length + St.sum ts
theorem St.sum_snoc : ∀ (l : List St.T) (t : St.T), St.sum (l ++ [t]) = St.sum l + t.blocks.length
  | [], t => by show t.blocks.length + 0 = 0 + t.blocks.length; omega
  | a :: l, t => by rw [List.cons_append, St.sum, St.sum, St.sum_snoc l t]; omega
theorem St.sum_take {l : List St.T} {i : Nat} (h : i < l.length) : St.sum (l.take (i + 1)) = St.sum (l.take i) + l[i].blocks.length := by
  rw [List.take_succ_eq_append_getElem h, St.sum_snoc]
/-- few tapes, and small -/
def St.few (ts : List St.T) : Bool := decide (ts.length ≤ 14) && ts.all (fun t => Tp.few t.blocks) && decide (St.sum ts ≤ 300)
theorem St.few_of {ts : List St.T} (h : St.few ts = true) : ts.length ≤ 14 ∧ (∀ t ∈ ts, Tp.few t.blocks = true) ∧ St.sum ts ≤ 300 := by
  simp only [St.few, Bool.and_eq_true, decide_eq_true_eq, List.all_eq_true] at h
  exact ⟨h.1.1, h.1.2, h.2⟩
theorem St.few_is {ts : List St.T} (h1 : ts.length ≤ 14) (h2 : ∀ t ∈ ts, Tp.few t.blocks = true) (h3 : St.sum ts ≤ 300) : St.few ts = true := by
  simp only [St.few, Bool.and_eq_true, decide_eq_true_eq, List.all_eq_true]
  exact ⟨⟨h1, h2⟩, h3⟩
theorem St.few_len {ts : List St.T} (h : St.few ts = true) : St.len ts ≤ 90 := St.len_le fun t ht => (Tp.few_of ((St.few_of h).2.1 t ht)).1
theorem St.sum_le {ts : List St.T} {m : Nat} (h : ∀ t ∈ ts, t.blocks.length ≤ m) : St.sum ts ≤ ts.length * m := by
  induction ts with
  | nil => exact Nat.zero_le _
  | cons t ts ih =>
    have h1 := ih fun t ht => h t (List.mem_cons_of_mem _ ht)
    have h2 := h t List.mem_cons_self
    rw [St.sum, List.length_cons, Nat.succ_mul]
    omega
set_option maxHeartbeats 2000000 in
theorem few13_any (A : Option Addr) (ts : List St.T) (C : Nat) (G : Nat → Prop) (w : World) (hn : ts.length ≤ maxLen) (hr : RdT w A ts G) :
    Calls Tryd.prog 6 #[.slice A ts.length C] w (AnsB (St.few ts) w) := by
  unfold maxLen at hn
  have HR := Lib.hid hr
  clear hr
  go_enter Tryd.func6, Tryd.ntmps6
  go_wp2
  go_loopw [4, 3] (fun vi vn wr => ∃ i n : Nat, i ≤ ts.length ∧ i ≤ 20 ∧ n ≤ i * 90 ∧ vi = .int .i64 (i : Int) ∧ vn = .int .i64 (n : Int) ∧ Hid (n = St.sum (ts.take i)) ∧ Hid (∀ j (hj : j < ts.length), j < i → Tp.few ts[j].blocks = true) ∧ Hid (Below w.heap.size w wr)) (fun vi _ _ => ts.length - (intOf vi).toNat)
  case atStart => exact ⟨0, 0, Nat.zero_le _, by omega, by omega, rfl, rfl, Lib.hid rfl, Lib.hid (fun j _ h => absurd h (by omega)), Lib.hid (Below.refl _ _)⟩
  case round =>
    obtain ⟨i, n, hi, hi2, hn2, rfl, rfl, HN, HJ, HB⟩ := hrel
    have hcase : (i < ts.length ∧ i < 20) ∨ (i = ts.length ∧ ts.length ≤ 20) ∨ (i = 20 ∧ 20 < ts.length) := by omega
    rcases hcase with ⟨hlt, hlt2⟩ | ⟨he, hle⟩ | ⟨he, hle⟩
    · have e0 : decide (i < ts.length) = true := decide_eq_true hlt
      have e2 : decide ((i : Int) < 20) = true := decide_eq_true (by omega)
      obtain ⟨b, off, A', C', rfl, -, c0, c1, c2, c3, hb⟩ := (HR.out.old HB.out).at_ hlt
      obtain ⟨⟨lab, cap, bs, lost⟩, ht⟩ : ∃ t, t = ts[i] := ⟨_, rfl⟩
      have HT := Lib.hid ht
      rw [← ht] at c0 c1 c2 c3 hb
      dsimp only at c0 c1 c2 c3 hb
      have HBB := Lib.hid hb
      clear ht hb
      cases hf : Tp.few bs with
      | false =>
        have HF : Hid (St.few ts = false) := Lib.hid (by
          cases h : St.few ts with
          | false => rfl
          | true =>
            have := (St.few_of h).2.1 ts[i] (List.getElem_mem hlt)
            rw [← HT.out] at this
            exact (hf.symm.trans this).symm)
        go_wp2_with fail
        refine (few_no lab cap A' bs C' lost _ _ HBB.out hf).mono ?_
        rintro e w1 ⟨rfl, hb1⟩
        have HB1 := Lib.hid (HB.out.trans (hb1.mono HB.out.size))
        clear hb1 hf
        go_wp2
        go_ret
        exact ⟨by rw [HF.out]; rfl, HB1.out⟩
      | true =>
        obtain ⟨k, hk⟩ : ∃ k, k = bs.length := ⟨_, rfl⟩
        have hk90 : k ≤ 90 := by rw [hk]; exact (Tp.few_of hf).1
        have HN1 : Hid (n + k = St.sum (ts.take (i + 1))) := Lib.hid (by rw [St.sum_take hlt, ← HN.out, ← HT.out, hk])
        have HJ1 : Hid (∀ j (hj : j < ts.length), j < i + 1 → Tp.few ts[j].blocks = true) := Lib.hid fun j hj hji => by
          by_cases e : j = i
          · subst e; rw [← HT.out]; exact hf
          · exact HJ.out j hj (by omega)
        have HFW := Lib.hid (few_yes lab cap A' bs C' lost _ wr HBB.out hf)
        rw [← hk] at c2 HFW
        clear hf hk
        go_wp2_with fail
        refine HFW.out.mono ?_
        rintro e w1 ⟨rfl, hb1⟩
        have HB1 := Lib.hid (HB.out.trans (hb1.mono HB.out.size))
        have d2 := (hb1.cell (World.block_lt_of_cell? _ _ c2)).trans c2
        clear hb1 c0 c1 c2 c3
        go_wp2
        go_roundw
        case rel => exact ⟨i + 1, n + k, by omega, by omega, by omega, by go_num, by go_num, HN1, HJ1, HB1⟩
        case measure => simp [intOf]; omega
    · have HS : Hid (n = St.sum ts) := Lib.hid (by rw [HN.out, List.take_of_length_le (by omega)])
      have HALL : Hid (∀ t ∈ ts, Tp.few t.blocks = true) := Lib.hid fun t ht => by
        obtain ⟨j, hj, rfl⟩ := List.mem_iff_getElem.1 ht
        exact HJ.out j hj (by omega)
      have e0 : decide (i < ts.length) = false := decide_eq_false (by omega)
      by_cases a : ts.length ≤ 14
      · have d1 : decide ((ts.length : Int) ≤ 14) = true := decide_eq_true (by omega)
        by_cases a2 : n ≤ 300
        · have d2 : decide ((n : Int) ≤ 300) = true := decide_eq_true (by omega)
          have HF := Lib.hid (St.few_is a HALL.out (by rw [← HS.out]; exact a2))
          clear a a2 he
          go_wp2
          go_ret
          exact ⟨by rw [HF.out]; rfl, HB.out⟩
        · have d2 : decide ((n : Int) ≤ 300) = false := decide_eq_false (by omega)
          have HF : Hid (St.few ts = false) := Lib.hid (by
            cases h : St.few ts with
            | false => rfl
            | true => exact absurd (St.few_of h).2.2 (by rw [← HS.out]; exact a2))
          clear a a2 he
          go_wp2
          go_ret
          exact ⟨by rw [HF.out]; rfl, HB.out⟩
      · have d1 : decide ((ts.length : Int) ≤ 14) = false := decide_eq_false (by omega)
        have HF : Hid (St.few ts = false) := Lib.hid (by
          cases h : St.few ts with
          | false => rfl
          | true => exact absurd (St.few_of h).1 a)
        clear a he
        go_wp2
        go_ret
        exact ⟨by rw [HF.out]; rfl, HB.out⟩
    · have e0 : decide (i < ts.length) = true := decide_eq_true (by omega)
      have e2 : decide ((i : Int) < 20) = false := decide_eq_false (by omega)
      have d1 : decide ((ts.length : Int) ≤ 14) = false := decide_eq_false (by omega)
      have HF : Hid (St.few ts = false) := Lib.hid (by
        cases h : St.few ts with
        | false => rfl
        | true => have := (St.few_of h).1; omega)
      clear he
      go_wp2
      go_ret
      exact ⟨by rw [HF.out]; rfl, HB.out⟩
end Go.Proofs.YtndofmoepjfnfaaDoor
namespace Go.Proofs.YtndofmoepjfnfaaDoor
open Go.RowKit
open Pt (Tx)

theorem refApp_bad (g o : Nat) (A : Option Addr) (n c : Nat) (w : World) (h : n < 1 ∨ 94 < n) :
    Calls Tryd.prog 21 #[.pointer (some ⟨g, o, none⟩), .slice A n c] w fun e w' => e = .returned (.int .i64 1) ∧ w = w' := by
  by_cases h1 : n < 1
  · have d1 : decide ((n : Int) < 1) = true := decide_eq_true (by omega)
    go_enter Tryd.func21, Tryd.ntmps21
    go_wp2
    go_ret
    exact ⟨rfl, rfl⟩
  · have d1 : decide ((n : Int) < 1) = false := decide_eq_false (by omega)
    have d2 : decide (94 < (n : Int)) = true := decide_eq_true (by omega)
    go_enter Tryd.func21, Tryd.ntmps21
    go_wp2
    go_ret
    exact ⟨rfl, rfl⟩
theorem refApp_full (g o : Nat) (cap : Int) (Av : Option Addr) (N Cv : Nat) (A : Option Addr) (n c : Nat) (w : World) (c1 : w.cell? ⟨g, o + 1, none⟩ = some (.int .i64 cap)) (c2 : w.cell? ⟨g, o + 2, none⟩ = some (.slice Av N Cv)) (h1 : 1 ≤ n) (h2 : n ≤ 94) (hf : cap ≤ (N : Int)) :
    Calls Tryd.prog 21 #[.pointer (some ⟨g, o, none⟩), .slice A n c] w fun e w' => e = .returned (.int .i64 6) ∧ Below w.heap.size w w' := by
  have d1 : decide ((n : Int) < 1) = false := decide_eq_false (by omega)
  have d2 : decide (94 < (n : Int)) = false := decide_eq_false (by omega)
  have d3 : decide (cap ≤ (N : Int)) = true := decide_eq_true hf
  go_enter Tryd.func21, Tryd.ntmps21
  go_wp2
  go_quiet (fail)
  go_wp2
  go_ret
  exact ⟨rfl, ⟨rfl, rfl, rfl, Nat.le_refl _, fun _ _ => rfl⟩⟩
/-- a row is appended to the rows of the tape whose cells lie in block g -/
theorem top_pushed {w wA wB : World} {B g j : Nat} {G : Nat → Prop} {cur : Array Value} {bs : List Tx} {v : Value} {us : List Value} {s : Tx} {u v' : Value} {o : Obj} (hM : w.heap[g]? = some (.cells cur 35 (0, 0))) (hT : TopB w B G v us bs)
    (hA : Below w.heap.size w wA) (hu : OwnL wA B u s) (hun : ∀ k, u.ownBlock = some k → w.heap.size ≤ k) (hG : ∀ k, w.heap.size ≤ k → G k) (hB : wB.ownsRow B 26 1 v' (us.length + 1) (us ++ [u])) (hg : (wA.alloc o).grownBy wB v.ownBlock) :
    wB.heap[g]? = w.heap[g]? ∧ (wB.setCell ⟨g, j, none⟩ v').heap[g]? = some (.cells (cur.setIfInBounds j v') 35 (0, 0)) ∧ TopB (wB.setCell ⟨g, j, none⟩ v') B G v' (us ++ [u]) (bs ++ [s]) ∧ Kp (fun k => k = g ∨ v.ownBlock = some k) w (wB.setCell ⟨g, j, none⟩ v') := by
  have hlt := heap_lt hM
  have hA' : Below w.heap.size w (wA.alloc o) := hA.alloc hA.size _
  have hne : some g ≠ v.ownBlock := fun e => by
    obtain ⟨x, hx⟩ := own_blk hT.top g e.symm
    rw [hM] at hx
    injection hx with hx
    injection hx with _ e2
    exact absurd e2 (by decide)
  have e : wB.heap[g]? = w.heap[g]? := (hg.block g (Nat.lt_of_lt_of_le hlt hA'.size) hne).trans (hA'.block g hlt)
  have hp := hT.push hA' (hu.alloc o) hun (fun k hk => hG k (hun k hk)) hB hg
  refine ⟨e, heap_set (e.trans hM) v', hp.kpT (Kp.store _ g j _) (fun x c hx hc => ?_) (fun x c hx hc => ?_), ?_⟩
  · rw [hx, e, hM] at hc
    injection hc with hc
    injection hc with _ e2
    exact absurd e2 (by decide)
  · rw [hx, e, hM] at hc
    injection hc with hc
    injection hc with _ e2
    exact absurd e2 (by decide)
  · exact (((Kp.of_below hA').grown hg fun k hk => .inr hk).trans ((Kp.store wB g j v').mono fun k hk => .inl hk))
/-- what Append of one block left: the tape's rows have one more -/
def AppA (B g o : Nat) (G : Nat → Prop) (v : Value) (cur : Array Value) (bs : List Tx) (w : World) (e : Ending) (w' : World) : Prop :=
  e = .returned (.int .i64 0) ∧ ∃ v' us', w'.heap[g]? = some (.cells (cur.setIfInBounds (o + 2) v') 35 (0, 0)) ∧ TopB w' B G v' us' bs ∧ Kp (fun k => k = g ∨ v.ownBlock = some k) w w' ∧ ∀ k, v'.ownBlock = some k → v.ownBlock = some k ∨ w.heap.size ≤ k
set_option maxRecDepth 100000 in
set_option maxHeartbeats 2000000 in
theorem refApp_ok (B g o : Nat) (G : Nat → Prop) (cap : Int) (cur : Array Value) (Av : Option Addr) (Cv : Nat) (us : List Value) (bs : List Tx) (A : Option Addr) (s : Tx) (N n c : Nat) (G' : Nat → Prop) (w : World) (hM : w.heap[g]? = some (.cells cur 35 (0, 0)))
    (c1 : w.cell? ⟨g, o + 1, none⟩ = some (.int .i64 cap)) (c2 : w.cell? ⟨g, o + 2, none⟩ = some (.slice Av N Cv)) (hN : N = bs.length) (ht : TopB w B G (.slice Av N Cv) us bs) (hn : s.length = n) (h1 : 1 ≤ n) (h2 : n ≤ 94) (hf : (N : Int) < cap) (hcap : cap ≤ 64) (hr : RdL w A s G') (hG : ∀ k, w.heap.size ≤ k → G k) (hBw : B ≤ w.heap.size) :
    Calls Tryd.prog 21 #[.pointer (some ⟨g, o, none⟩), .slice A n c] w (AppA B g o G (.slice Av N Cv) cur (bs ++ [s]) w) := by
  have d1 : decide ((n : Int) < 1) = false := decide_eq_false (by omega)
  have d2 : decide (94 < (n : Int)) = false := decide_eq_false (by omega)
  have d3 : decide (cap ≤ (N : Int)) = false := decide_eq_false (by omega)
  have hgr : g < w.heap.size := heap_lt hM
  obtain ⟨b, off, rfl, _, hcs⟩ := hr (by omega)
  have HN := Lib.hid hN
  have HM := Lib.hid hM
  have HT := Lib.hid ht
  have HCS := Lib.hid hcs
  have HSN := Lib.hid hn
  have HG := Lib.hid hG
  have hN64 : N ≤ 64 := by omega
  clear hN hM ht hcs hr hn hG
  go_enter Tryd.func21, Tryd.ntmps21
  go_wp2
  go_quiet (fail)
  go_wp2
  have hbd : Below w.heap.size w (w.drewN nq) := ⟨rfl, rfl, rfl, Nat.le_refl _, fun _ _ => rfl⟩
  generalize w.drewN nq = wr at hbd ⊢
  have hzr := hbd.size
  have hBr : B ≤ wr.heap.size := Nat.le_trans hBw hzr
  have a2 : wr.cell? ⟨g, o + 2, none⟩ = some (.slice Av N Cv) := (hbd.cell (p := ⟨g, o + 2, none⟩) hgr).trans c2
  have HBD := Lib.hid hbd
  clear c1 c2 hbd
  obtain ⟨i0, hi0, hz0, hz1, hz2⟩ := info_parts infoB
  obtain ⟨j0, hj0, hy0, hy1, hy2⟩ := info_parts infoRowT
  have hownN : wr.drew.ownsRow wr.heap.size 5 1 (.slice none 0 0) 0 [] := World.ownsRow_nil _ _ _ _
  have hnewsN : ∀ j u, (cellsL s)[j]? = some u → wr.drew.cell? ((⟨b, off, none⟩ : Addr).add j) = some u := fun j u hu => by
    obtain ⟨hj, rfl⟩ := cellsL_some hu
    rw [addr_add]
    exact (HBD.out.cell (p := ⟨b, off + j, none⟩) (World.block_lt_of_cell? _ _ (HCS.out j hj))).trans (HCS.out j hj)
  have HOWN := Lib.hid hownN
  have HNEW := Lib.hid hnewsN
  have hUL : us.length = N := by rw [HT.out.len, HN.out]
  have HUL := Lib.hid hUL
  clear hownN hnewsN hUL
  go_region_law (first
    | (refine step_append_lies _ (by rfl) _ _ _ (by rfl) wr.heap.size 5 i0 _ 1 1 Tryd.underlying26 hi0 hz0 hz1 hz2 rfl (by omega) (.slice none 0 0) 0 [] (by rfl) HOWN.out ⟨b, off, none⟩ n c (cellsL s) (by rfl) (by rw [cellsL_len, HSN.out, Nat.mul_one]) HNEW.out cellsL_one (by omega) (by unfold maxLen; omega) (by omega) (by exact Nat.le_refl _) wr.heap.size (by rfl) ?_; intro ga capA wA hownA hgA hatA hltA; rw [Nat.zero_add] at hownA; have hbA : Below wr.heap.size wr wA := (⟨hgA.os, hgA.tape, hgA.output, hgA.size, fun k hk => hgA.block k hk (fun e => by cases e)⟩); have HOA := Lib.hid hownA; have HBA := Lib.hid hbA; have a2A : wA.cell? ⟨g, o + 2, none⟩ = some (.slice Av N Cv) := (hbA.cell (p := ⟨g, o + 2, none⟩) (Nat.lt_of_lt_of_le hgr hzr)).trans a2; have hgA' : g < wA.heap.size := (Nat.lt_of_lt_of_le (Nat.lt_of_lt_of_le hgr hzr) hbA.size); clear hownA hgA hbA hatA)
    | (refine step_append_lies _ (by rfl) _ _ _ (by rfl) B 26 j0 _ 1 24 Tryd.underlying33 hj0 hy0 hy1 hy2 rfl (by omega) (.slice Av N Cv) N us (by rfl) (by have := (HT.out.old ((HBD.out.trans (HBA.out.mono HBD.out.size)).alloc (by have := HBD.out.size; have := HBA.out.size; omega) (.cells #[.slice (some ⟨ga, 0, none⟩) n capA] 26))).top; rw [HUL.out] at this; exact this) ⟨wA.heap.size, 0, none⟩ 1 1 [.slice (some ⟨ga, 0, none⟩) n capA] (by rfl) (by rfl) (oneCellT wA _ _) (oneTop _ _ _) (by omega) (by unfold maxLen; omega) (by omega) (by have := HBD.out.size; have := HBA.out.size; simp; omega) (wA.heap.size + 1) (by simp) ?_; intro g2 cap2 wB hownB hgB hatB hltB; have hall := top_pushed (j := o + 2) HM.out HT.out (HBD.out.trans (HBA.out.mono HBD.out.size)) (own_row HOA.out HSN.out hBr) (fun k hk => by cases hk; exact Nat.le_trans hzr (own_base HOA.out)) HG.out (by rw [HUL.out]; exact hownB) hgB; have cB : wB.cell? ⟨g, o + 2, none⟩ = some (.slice Av N Cv) := (World.cell?_of_block (hall.1.trans (HBD.out.block g hgr).symm)).trans a2; have fB : wB.frozen? ⟨g, o + 2, none⟩ = false := heap_frozen (hall.1.trans HM.out); have HALL := Lib.hid hall.2; have HAT : Hid (∀ k, (Value.slice (some ⟨g2, 0, none⟩) (N + 1) cap2).ownBlock = some k → (Value.slice Av N Cv).ownBlock = some k ∨ w.heap.size ≤ k) := Lib.hid (fun k e => by have e' : some g2 = some k := e; cases e'; exact hatB.elim .inl (fun e => .inr (by have h9 : g2 = wA.heap.size + 1 := e; have := HBD.out.size; have := HBA.out.size; omega))); clear hall hownB hgB hatB hltB))
  all_goals
    go_wp2
    go_ret
    exact ⟨rfl, _, _, HALL.out.1, HALL.out.2.1, HALL.out.2.2, HAT.out⟩
end Go.Proofs.YtndofmoepjfnfaaDoor
namespace Go.Proofs.YtndofmoepjfnfaaDoor
open Go.RowKit
open Pt (Tx)

theorem alloc_at2C (w : World) (o1 o2 : Obj) : ((w.alloc o1).alloc o2).drew.heap[w.heap.size + 1]? = some o2 := by
  have h := Go.Deep.blk_alloc_new (w.alloc o1) o2
  have hz : (w.alloc o1).heap.size = w.heap.size + 1 := by simp
  rw [hz] at h
  exact h
set_option maxRecDepth 100000 in
set_option maxHeartbeats 2000000 in
/-- what CopyTape answers: all in new memory -/
def CopyAns (lab cap : Int) (lost : Bool) (bs : List Tx) (w : World) (e : Ending) (w' : World) : Prop :=
  ∃ A C us, e = .returned (.agg #[.int .i64 lab, .int .i64 cap, .slice A bs.length C, .bool lost]) ∧ TopB w' w.heap.size (fun k => w.heap.size ≤ k) (.slice A bs.length C) us bs ∧ Below w.heap.size w w'
set_option maxRecDepth 100000 in
set_option maxHeartbeats 2000000 in
theorem copyTape_any (lab cap : Int) (A : Option Addr) (bs : List Tx) (n C : Nat) (lost : Bool) (G : Nat → Prop) (w : World) (hn : bs.length = n) (hr : RdB w A bs G) (hl : n ≤ 1000) (hs : ∀ s ∈ bs, s.length ≤ 1000) :
    Calls Tryd.prog 18 #[.agg #[.int .i64 lab, .int .i64 cap, .slice A n C, .bool lost]] w (CopyAns lab cap lost bs w) := by
  have HN := Lib.hid hn
  have HR := Lib.hid hr
  have HSL := Lib.hid hs
  clear hn hr hs
  go_enter Tryd.func18, Tryd.ntmps18
  go_wp2
  have hb2 : Below w.heap.size w ((w.alloc (.cells #[.int .i64 lab, .int .i64 cap, .slice A n C, .bool lost] 35)).alloc (.cells #[.int .i64 0, .int .i64 0, .slice none 0 0, .bool false] 35)) := ((Below.refl _ _).alloc (Nat.le_refl _) _).alloc (by simp) _
  have hx1 : ((w.alloc (.cells #[.int .i64 lab, .int .i64 cap, .slice A n C, .bool lost] 35)).alloc (.cells #[.int .i64 0, .int .i64 0, .slice none 0 0, .bool false] 35)).heap[w.heap.size]? = some (.cells #[.int .i64 lab, .int .i64 cap, .slice A n C, .bool lost] 35 (0, 0)) := (Below.heap_alloc _ _ _ (by simp)).trans (Go.Deep.blk_alloc_new _ _)
  have hx2 : ((w.alloc (.cells #[.int .i64 lab, .int .i64 cap, .slice A n C, .bool lost] 35)).alloc (.cells #[.int .i64 0, .int .i64 0, .slice none 0 0, .bool false] 35)).heap[w.heap.size + 1]? = some (.cells #[.int .i64 0, .int .i64 0, .slice none 0 0, .bool false] 35 (0, 0)) := alloc_at2C _ _ _
  generalize (w.alloc (.cells #[.int .i64 lab, .int .i64 cap, .slice A n C, .bool lost] 35)).alloc (.cells #[.int .i64 0, .int .i64 0, .slice none 0 0, .bool false] 35) = w2 at hb2 hx1 hx2 ⊢
  have HB2 := Lib.hid hb2
  have HX1 := Lib.hid hx1
  have HX2 := Lib.hid hx2
  clear hb2 hx1 hx2
  go_loopw [3, 4] (fun vl vi wr => ∃ (k : Nat) (us : List Value), k ≤ n ∧ vi = .int .i64 (k : Int) ∧ Hid (TopB wr w.heap.size (fun q => w.heap.size ≤ q) vl us (bs.take k)) ∧ Hid (wr.heap[w.heap.size]? = some (.cells #[.int .i64 lab, .int .i64 cap, .slice A n C, .bool lost] 35 (0, 0))) ∧ Hid (wr.heap[w.heap.size + 1]? = some (.cells #[.int .i64 0, .int .i64 0, .slice none 0 0, .bool false] 35 (0, 0))) ∧ Hid (Below w.heap.size w wr)) (fun _ vi _ => n - (intOf vi).toNat)
  case atStart => exact ⟨0, [], by omega, rfl, Lib.hid (by rw [List.take_zero]; exact TopB.nil _ _ _), HX1, HX2, HB2⟩
  case round =>
    clear HB2 HX1 HX2
    obtain ⟨k, us, hk, rfl, HP, HX1, HX2, HB2⟩ := hrel
    have hkl : (bs.take k).length = k := by rw [List.length_take, HN.out]; omega
    obtain ⟨Av, Cv, hv, _⟩ := HP.out.val
    rw [hkl] at hv
    subst hv
    have c2 : wr.cell? ⟨w.heap.size, 2, none⟩ = some (.slice A n C) := heap_cell HX1.out
    have hz0 : w.heap.size < wr.heap.size := heap_lt HX1.out
    have hz1 : w.heap.size + 1 < wr.heap.size := heap_lt HX2.out
    by_cases hlt : k < n
    · have kb : k < bs.length := by rw [HN.out]; exact hlt
      obtain ⟨b, off, A', C', rfl, _, hc, _, hA', hR'⟩ := (HR.out.old HB2.out).at_ kb
      have hs' := HSL.out bs[k] (List.getElem_mem kb)
      have htk : bs.take k ++ [bs[k]] = bs.take (k + 1) := List.take_append_getElem kb
      obtain ⟨s, hs⟩ : ∃ s, s = bs[k] := ⟨_, rfl⟩
      rw [← hs] at hc hA' hR' hs' htk
      obtain ⟨S, hS⟩ : ∃ S, S = s.length := ⟨_, rfl⟩
      rw [← hS] at hc hA' hs'
      have HA' := Lib.hid hA'
      have HR' := Lib.hid hR'
      have HS := Lib.hid hS
      have HTK := Lib.hid htk
      have HUL : Hid (us.length = k) := Lib.hid (by rw [HP.out.len, hkl])
      have HNE0 : Hid (∀ x, x = w.heap.size ∨ x = w.heap.size + 1 → some x ≠ (Value.slice Av k Cv).ownBlock) := Lib.hid fun x hx e => by
        obtain ⟨c, hc⟩ := own_blk HP.out.top x e.symm
        rcases hx with rfl | rfl
        · rw [HX1.out] at hc
          injection hc with hc
          injection hc with _ e2
          exact absurd e2 (by decide)
        · rw [HX2.out] at hc
          injection hc with hc
          injection hc with _ e2
          exact absurd e2 (by decide)
      clear hA' hR' hs hS htk hkl
      go_wp2_with (first
        | (at_builtin; refine wpList_append_bl _ rfl _ _ rfl wr.heap.size _ [] rfl (OwnL.nil wr _) A' S C' s _ rfl HS.out.symm HA'.out HR'.out (by simp; omega) (Nat.le_refl _) ?_; intro u wA hu hg; rw [List.nil_append] at hu; have hbA : Below wr.heap.size wr wA := ⟨hg.os, hg.tape, hg.output, hg.size, fun q hq => hg.block q hq (fun e => by cases e)⟩; obtain ⟨Au, Cu, rfl, _⟩ := hu.rd; have HU := Lib.hid hu; have HBA := Lib.hid hbA; have hzA := hbA.size; clear hu hg hbA)
        | (at_builtin; refine wpList_append_tp _ rfl _ _ rfl w.heap.size _ us rfl (HP.out.old (HBA.out.alloc HBA.out.size (.cells #[.slice Au s.length Cu] 26))).top (by rw [HUL.out]; omega) wA.heap.size 0 1 Au s.length Cu rfl (by simp) (by simp; omega) ?_; intro v' wB hv hg; have HV := Lib.hid hv; have HG := Lib.hid hg; clear hv hg))
      go_roundw
      case rel =>
        have hb' : Below wr.heap.size wr (wA.alloc (.cells #[.slice Au s.length Cu] 26)) := HBA.out.alloc HBA.out.size _
        have hp := HP.out.push hb' (OwnL.alloc (own_down HU.out (Nat.le_of_lt hz0)) _) HU.out.lo (fun q e => Nat.le_trans (Nat.le_of_lt hz0) (HU.out.lo q e)) HV.out HG.out
        rw [HTK.out] at hp
        refine ⟨k + 1, us ++ [.slice Au s.length Cu], by omega, by go_num, Lib.hid hp, Lib.hid ?_, Lib.hid ?_, Lib.hid ?_⟩
        · exact ((HG.out.block _ (Nat.lt_of_lt_of_le hz0 hb'.size) (HNE0.out _ (.inl rfl))).trans (hb'.block _ hz0)).trans HX1.out
        · exact ((HG.out.block _ (Nat.lt_of_lt_of_le hz1 hb'.size) (HNE0.out _ (.inr rfl))).trans (hb'.block _ hz1)).trans HX2.out
        · exact (HB2.out.trans (hb'.mono HB2.out.size)).grown HG.out (Nat.le_trans (Nat.le_of_lt hz0) hb'.size) (fun x hx => (HP.out.top.lt x hx).1)
      case measure => simp [intOf]; omega
    · obtain rfl : n = k := by omega
      have HTK : Hid (bs.take n = bs) := Lib.hid (List.take_of_length_le (by rw [HN.out]; exact Nat.le_refl _))
      have u0 : wr.cell? ⟨w.heap.size, 0, none⟩ = some (.int .i64 lab) := heap_cell HX1.out
      have u1 : wr.cell? ⟨w.heap.size, 1, none⟩ = some (.int .i64 cap) := heap_cell HX1.out
      have u3 : wr.cell? ⟨w.heap.size, 3, none⟩ = some (.bool lost) := heap_cell HX1.out
      have x2 : wr.frozen? ⟨w.heap.size, 2, none⟩ = false := heap_frozen HX1.out
      have v0 : wr.cell? ⟨w.heap.size + 1, 0, none⟩ = some (.int .i64 0) := heap_cell HX2.out
      have v1 : wr.cell? ⟨w.heap.size + 1, 1, none⟩ = some (.int .i64 0) := heap_cell HX2.out
      have v2 : wr.cell? ⟨w.heap.size + 1, 2, none⟩ = some (.slice none 0 0) := heap_cell HX2.out
      have v3 : wr.cell? ⟨w.heap.size + 1, 3, none⟩ = some (.bool false) := heap_cell HX2.out
      have y0 : wr.frozen? ⟨w.heap.size + 1, 0, none⟩ = false := heap_frozen HX2.out
      have y1 : wr.frozen? ⟨w.heap.size + 1, 1, none⟩ = false := heap_frozen HX2.out
      have y2 : wr.frozen? ⟨w.heap.size + 1, 2, none⟩ = false := heap_frozen HX2.out
      have y3 : wr.frozen? ⟨w.heap.size + 1, 3, none⟩ = false := heap_frozen HX2.out
      clear hkl
      go_wp2
      refine bodyPost_ret (v := .agg #[.int .i64 lab, .int .i64 cap, .slice Av n Cv, .bool lost]) (by simp [results, Tryd.results18, go_sem, v0, v1, v2, v3]) rfl ⟨Av, Cv, us, by rw [HN.out], ?_, ?_⟩
      · have hK : Kp (fun q => q = w.heap.size ∨ q = w.heap.size + 1) wr (((((wr.setCell ⟨w.heap.size, 2, none⟩ (.slice Av n Cv)).setCell ⟨w.heap.size + 1, 0, none⟩ (.int .i64 lab)).setCell ⟨w.heap.size + 1, 1, none⟩ (.int .i64 cap)).setCell ⟨w.heap.size + 1, 2, none⟩ (.slice Av n Cv)).setCell ⟨w.heap.size + 1, 3, none⟩ (.bool lost)) :=
          (((((Kp.refl _ wr).setCell (p := ⟨w.heap.size, 2, none⟩) (.inl rfl) _).setCell (p := ⟨w.heap.size + 1, 0, none⟩) (.inr rfl) _).setCell (p := ⟨w.heap.size + 1, 1, none⟩) (.inr rfl) _).setCell (p := ⟨w.heap.size + 1, 2, none⟩) (.inr rfl) _).setCell (p := ⟨w.heap.size + 1, 3, none⟩) (.inr rfl) _
        have hp := HP.out
        rw [HTK.out] at hp
        rw [HN.out]
        refine hp.kpT hK (fun q c hq hc => ?_) (fun q c hq hc => ?_)
        · rcases hq with rfl | rfl
          · rw [HX1.out] at hc; injection hc with hc; injection hc with _ e2; exact absurd e2 (by decide)
          · rw [HX2.out] at hc; injection hc with hc; injection hc with _ e2; exact absurd e2 (by decide)
        · rcases hq with rfl | rfl
          · rw [HX1.out] at hc; injection hc with hc; injection hc with _ e2; exact absurd e2 (by decide)
          · rw [HX2.out] at hc; injection hc with hc; injection hc with _ e2; exact absurd e2 (by decide)
      · exact ((((HB2.out.setCell (Nat.le_refl _) _).setCell (Nat.le_succ _) _).setCell (Nat.le_succ _) _).setCell (Nat.le_succ _) _).setCell (Nat.le_succ _) _
end Go.Proofs.YtndofmoepjfnfaaDoor
