/- How many members are gone: Lost of package verify. What the document's own Writer writes. Bytes that a call answers, in new memory. A Writer of the document's own at work. -/
import Derived.Test.YtnbfkihgloipiaaMk
import Derived.Test.YtnbfkihgloipiaaMg
import Derived.Test.YtnbfkihgloipiaaChecked
import Derived.OwnWalk
import Derived.Handy
import Derived.WalkSpells
import Derived.WalkLawsBesides
import Derived.StillTailTactics
import Derived.Laws.BitsAllLaws
import Derived.Laws.BitsLemmas
import Derived.Test.YtnbfkihgloipiaaMh
namespace Go.Proofs.Ytnbfkihgloipiaa
open Go.RowKit Vf
open Pt (Tx)

theorem wfZ_nat {n : Nat} (h : n ≤ 1000000) : wfZ (n : Int) := by unfold wfZ; exact WalkArith.wf_i64 (by omega)
theorem Vf.count_take {labs : List Int} {i : Nat} (h : i < labs.length) (l : Int) : (if l = labs[i] then (((labs.take i).count labs[i] : Nat) : Int) + 1 else (((labs.take i).count l : Nat) : Int)) = (((labs.take (i + 1)).count l : Nat) : Int) := by
  rw [List.take_add_one, List.getElem?_eq_getElem h, List.count_append]
  by_cases e : l = labs[i]
  · rw [if_pos e, e]; simp
  · rw [if_neg e]
    have : List.count l (Option.toList (some labs[i])) = 0 := by simp [Ne.symm e]
    rw [this]; rfl
set_option maxRecDepth 100000 in
set_option maxHeartbeats 4000000 in
theorem lost_any (A : Option Addr) (ts : List St.T) (n C : Nat) (num idx d p : Int) (sA : Option Addr) (m sC : Nat) (labs : List Int) (G G2 : Nat → Prop) (w : World) (hnl : n = ts.length) (hn : n ≤ 1000) (hr : RdT w A ts G) (hl : ∀ t ∈ ts, t.blocks.length ≤ 1000 ∧ ∀ s ∈ t.blocks, s.length ≤ 1000000)
    (hm : m = labs.length) (hm2 : m ≤ 1000) (hz : RdZ w sA labs G2) (hwt : ∀ t ∈ ts, wfZ t.label) (hwl : ∀ l ∈ labs, wfZ l) :
    Calls Try.prog 11 #[.slice A n C, .agg #[.int .i64 num, .int .i64 idx, .int .i64 d, .int .i64 p, .slice sA m sC]] w fun e w' => e = .returned (.int .i64 ((lost ts labs : Nat) : Int)) ∧ Below w.heap.size w w' := by
  have hmm := @run_makeMap Try.prog
  obtain ⟨w0, hw0⟩ : ∃ x, x = w.alloc (sealObj num idx d p sA m sC) := ⟨_, rfl⟩
  obtain ⟨w1, hw1⟩ : ∃ x, x = w0.alloc (.map #[] 0) := ⟨_, rfl⟩
  have hs0 : w0.heap.size = w.heap.size + 1 := by rw [hw0]; simp
  have b0 : Below w.heap.size w w0 := by rw [hw0]; exact (Below.refl _ _).alloc (Nat.le_refl _) _
  have b1 : Below w.heap.size w w1 := by rw [hw1]; exact b0.alloc b0.size _
  have b01 : Below w0.heap.size w0 w1 := by rw [hw1]; exact (Below.refl _ _).alloc (Nat.le_refl _) _
  have k1 : w1.heap[w.heap.size]? = some (sealObj num idx d p sA m sC) := below_objS b01 (by rw [hw0]; exact Go.Deep.blk_alloc_new _ _)
  have HM0 : Hid (MpZ w1 (w.heap.size + 1) 0 (fun l => (((labs.take 0).count l : Nat) : Int))) := Lib.hid (by rw [hw1, ← hs0]; exact (MpZ.made w0).congr fun k _ => by simp)
  have HR := Lib.hid hr
  have HL := Lib.hid hl
  have HNL := Lib.hid hnl
  have HML := Lib.hid hm
  have HZ := Lib.hid hz
  have HWT := Lib.hid hwt
  have HWL := Lib.hid hwl
  have HB1 := Lib.hid b1
  have HK1 := Lib.hid k1
  have HW1 : Hid (w1 = (w.alloc (.cells #[.int .i64 num, .int .i64 idx, .int .i64 d, .int .i64 p, .slice sA m sC] 25)).alloc (.map #[] 0)) := Lib.hid (by rw [hw1, hw0]; rfl)
  obtain ⟨x0, x1, x2, x3, x4⟩ := seal5 k1
  rw [HW1.out] at x0 x1 x2 x3 x4
  clear hw0 hw1 hs0 b0 b01 b1 k1 hnl hr hl hm hz hwt hwl
  go_enter Try.func11, Try.ntmps11
  go_wp2_with fail
  rw [← HW1.out]
  clear x0 x1 x2 x3 x4
  go_loopw [15] (fun vi wr => ∃ i : Nat, i ≤ m ∧ vi = .int .i64 (i : Int) ∧ Hid (MpZ wr (w.heap.size + 1) i (fun l => (((labs.take i).count l : Nat) : Int))) ∧ Hid (Below w.heap.size w wr) ∧ Hid (wr.heap[w.heap.size]? = some (sealObj num idx d p sA m sC))) (fun vi _ => m - (intOf vi).toNat)
  case atStart => exact ⟨0, Nat.zero_le _, rfl, HM0, HB1, HK1⟩
  case round =>
    obtain ⟨i, hi, rfl, HMP, HB, HK⟩ := hrel
    by_cases hlt : i < m
    · have e0 : decide (i < m) = true := decide_eq_true hlt
      have hlt' : i < labs.length := by rw [← HML.out]; exact hlt
      obtain ⟨b, off, rfl, -, c0⟩ := (HZ.out.old HB.out).at_ hlt'
      obtain ⟨x, hx⟩ : ∃ x, x = labs[i] := ⟨_, rfl⟩
      have HWX : Hid (wfZ x) := Lib.hid (by rw [hx]; exact HWL.out _ (List.getElem_mem hlt'))
      obtain ⟨c, hc⟩ : ∃ c : Nat, c = (labs.take i).count x := ⟨_, rfl⟩
      have hcl : c ≤ 1000 := by rw [hc]; exact Nat.le_trans List.count_le_length (by rw [List.length_take]; omega)
      have HNX : Hid (∀ l, (if l = x then (c : Int) + 1 else (((labs.take i).count l : Nat) : Int)) = (((labs.take (i + 1)).count l : Nat) : Int)) := Lib.hid fun l => by rw [hc, hx]; exact count_take hlt' l
      have hwr : IntKind.i64.wrap ((c : Int) + 1) = (c : Int) + 1 := IntWalk.i64_in _ (by omega)
      have HWC : Hid (wfZ ((c : Int) + 1)) := Lib.hid (wfZ_nat (n := c + 1) (by omega))
      have HBL : Hid (∀ k, some (w.heap.size + 1) = some k → w.heap.size ≤ k) := Lib.hid fun k hk => by injection hk with hk; omega
      have hlm : i < maxLen := by unfold maxLen; omega
      rw [← hx] at c0
      have hlk : (Instr.lookup 50 (.map (some (w.heap.size + 1))) (.int .i64 x) false).run Try.prog wr = .ok (.int .i64 (c : Int)) wr := by rw [hc]; exact HMP.out.look HWX.out
      obtain ⟨w2, hup, hm2, hg2⟩ := HMP.out.put hlm HWX.out HWC.out
      have HM2 := Lib.hid (hm2.congr fun k _ => HNX.out k)
      have HB2 := Lib.hid (HB.out.grown hg2 HB.out.size HBL.out)
      have HK2 : Hid (w2.heap[w.heap.size]? = some (sealObj num idx d p (some ⟨b, off, none⟩) m sC)) := Lib.hid ((hg2.block _ (heap_lt HK.out) (fun e => by injection e with e; omega)).trans HK.out)
      clear hx hc hcl hm2 hg2
      go_wp2
      go_roundw
      case rel => exact ⟨i + 1, by omega, by go_num, HM2, HB2, HK2⟩
      case measure => simp [intOf]; omega
    · have e0 : decide (i < m) = false := decide_eq_false hlt
      have him : i = m := by omega
      have HMQ : Hid (MpZ wr (w.heap.size + 1) m (fun l => ((left ts labs 0 l : Nat) : Int))) := Lib.hid (by
        rw [him] at HMP
        exact HMP.out.congr fun k _ => by rw [left_zero, HML.out, List.take_length])
      obtain ⟨wo, rfl⟩ : ∃ x, x = wr := ⟨wr, rfl⟩
      obtain ⟨x0, x1, x2, x3, x4⟩ := seal5 HK.out
      have HL0 : Hid (lost (ts.take 0) labs = m) := Lib.hid (by rw [lost_zero, HML.out])
      clear HMP him
      go_wp2
      clear x0 x1 x2 x3 x4
      go_loopw [29, 8] (fun vi vl wr => ∃ i q : Nat, i ≤ n ∧ q ≤ 1000 ∧ vi = .int .i64 (i : Int) ∧ vl = .int .i64 (q : Int) ∧ Hid (q = lost (ts.take i) labs) ∧ Hid (MpZ wr (w.heap.size + 1) m (fun l => ((left ts labs i l : Nat) : Int))) ∧ Hid (Below w.heap.size w wr)) (fun vi _ _ => n - (intOf vi).toNat)
      case atStart => exact ⟨0, m, Nat.zero_le _, hm2, rfl, rfl, Lib.hid HL0.out.symm, HMQ, HB⟩
      case round =>
        obtain ⟨i, q, hi, hq, rfl, rfl, HQ, HMP, HB⟩ := hrel
        by_cases hln : i < n
        · have e1 : decide (i < n) = true := decide_eq_true hln
          have hlt' : i < ts.length := by rw [← HNL.out]; exact hln
          obtain ⟨b, off, A', C', rfl, -, c0, c1, c2, c3, hb⟩ := (HR.out.old HB.out).at_ hlt'
          obtain ⟨⟨lab, cap, bs, lo⟩, ht⟩ : ∃ t, t = ts[i] := ⟨_, rfl⟩
          have hln2 := HL.out ts[i] (List.getElem_mem hlt')
          have hwf := HWT.out ts[i] (List.getElem_mem hlt')
          have hstep := lost_take (labs := labs) hlt'
          have hleft := left_succ (labs := labs) hlt'
          rw [← ht] at c0 c1 c2 c3 hb hln2 hwf hstep hleft
          dsimp only at c0 c1 c2 c3 hb hln2 hwf hstep hleft
          obtain ⟨K, hK⟩ : ∃ K, K = bs.length := ⟨_, rfl⟩
          rw [← hK] at c2
          obtain ⟨w1', hw1'⟩ : ∃ x, x = wr.alloc (tapeObj lab cap A' K C' lo) := ⟨_, rfl⟩
          have hb1 : Below wr.heap.size wr w1' := by rw [hw1']; exact (Below.refl _ _).alloc (Nat.le_refl _) _
          have hT1 : w1'.heap[wr.heap.size]? = some (tapeObj lab cap A' K C' lo) := by rw [hw1']; exact Go.Deep.blk_alloc_new _ _
          have HC := Lib.hid (spotsOf_any lab cap bs A' K C' G lo w1' hK (hb.old hb1) (by rw [hK]; have := hln2.1; omega) hln2.2)
          have HB2 := Lib.hid (HB.out.trans (hb1.mono HB.out.size))
          have HM2 := Lib.hid (HMP.out.old hb1)
          have HT2 := Lib.hid hT1
          have HWF := Lib.hid hwf
          have HHURT : Hid ((spotsT ⟨lab, cap, bs, lo⟩).length = 0 ↔ hurt ⟨lab, cap, bs, lo⟩ = false) := Lib.hid (spotsT_zero _)
          obtain ⟨f, hf⟩ : ∃ f : Nat, f = left ts labs i lab := ⟨_, rfl⟩
          have hf1000 : f ≤ 1000 := by rw [hf]; exact Nat.le_trans (left_le _ _ _ _) (by rw [← HML.out]; exact hm2)
          have hlk : (Instr.lookup 50 (.map (some (w.heap.size + 1))) (.int .i64 lab) false).run Try.prog w1' = .ok (.int .i64 (f : Int)) w1' := by rw [hf]; exact HM2.out.look hwf
          have HFF : Hid (f = left ts labs i lab) := Lib.hid hf
          have HSTEP : Hid (lost (ts.take (i + 1)) labs + (if hurt ⟨lab, cap, bs, lo⟩ then 0 else f) = q) := Lib.hid (by rw [hf, HQ.out]; exact hstep)
          have HLEFT : Hid (∀ l, (if l = lab then (0 : Int) else ((left ts labs i l : Nat) : Int)) = ((left ts labs (i + 1) l : Nat) : Int)) := Lib.hid fun l => by
            rw [hleft l]; split <;> rfl
          have HW1' := Lib.hid hw1'
          unfold tapeObj at HW1'
          have HBL : Hid (∀ k, some (w.heap.size + 1) = some k → w.heap.size ≤ k) := Lib.hid fun k hk => by injection hk with hk; omega
          have HNE : Hid (w.heap.size + 1 < wr.heap.size) := Lib.hid HMP.out.lt
          obtain ⟨y0, y1, y2, y3⟩ := tape4 hT1
          rw [HW1'.out] at y0 y1 y2 y3 hlk
          clear ht hb hln2 hK hw1' hb1 hT1 hwf hstep hleft hf
          have HEND : ∀ (w5 : World) (q' : Nat), q' = lost (ts.take (i + 1)) labs → MpZ w5 (w.heap.size + 1) m (fun l => ((left ts labs i l : Nat) : Int)) → True := fun _ _ _ _ => trivial
          clear HEND
          by_cases hf0 : 0 < f
          · have e2 : decide (0 < f) = true := decide_eq_true hf0
            have e2' : decide ((0 : Int) < (f : Int)) = true := decide_eq_true (by omega)
            cases hh : hurt ⟨lab, cap, bs, lo⟩ with
            | true =>
              have hn0 : ¬ (spotsT ⟨lab, cap, bs, lo⟩).length = 0 := fun e => by rw [HHURT.out.1 e] at hh; cases hh
              have HQ2 : Hid (q = lost (ts.take (i + 1)) labs) := Lib.hid (by have := HSTEP.out; rw [hh] at this; simpa using this.symm)
              obtain ⟨M, hM⟩ : ∃ M, M = (spotsT ⟨lab, cap, bs, lo⟩).length := ⟨_, rfl⟩
              rw [← hM] at hn0
              have e3 : ((M : Int) == 0) = false := by simpa using hn0
              have e3' : decide (M = 0) = false := decide_eq_false hn0
              have HMM := Lib.hid hM
              clear hM hh
              go_wp2_with fail
              rw [← HW1'.out]
              refine HC.out.mono ?_
              rintro e w3 ⟨A2, C2, rfl, -, -, hb3⟩
              rw [← HMM.out]
              have HB3 := Lib.hid (HB2.out.trans (hb3.mono HB2.out.size))
              have HM3 := Lib.hid (HM2.out.old hb3)
              have HT3 := Lib.hid (below_objS hb3 HT2.out)
              clear hb3 y0 y1 y2 y3 c0 c1 c2 c3 hlk
              obtain ⟨y0, y1, y2, y3⟩ := tape4 HT3.out
              obtain ⟨w4, hdl, hm4, hg4⟩ := HM3.out.del HWF.out
              have HM4 := Lib.hid (hm4.congr fun k _ => HLEFT.out k)
              have HB4 := Lib.hid (HB3.out.grown hg4 HB3.out.size HBL.out)
              clear hm4 hg4
              go_wp2
              go_roundw
              case rel => exact ⟨i + 1, q, by omega, by omega, by go_num, rfl, HQ2, HM4, HB4⟩
              case measure => simp [intOf]; omega
            | false =>
              have hn0 : (spotsT ⟨lab, cap, bs, lo⟩).length = 0 := HHURT.out.2 hh
              have hqf : lost (ts.take (i + 1)) labs + f = q := by have := HSTEP.out; rw [hh] at this; simpa using this
              obtain ⟨r, hr⟩ : ∃ r, r = lost (ts.take (i + 1)) labs := ⟨_, rfl⟩
              rw [← hr] at hqf
              have HQ2 := Lib.hid hr
              have hsub : IntKind.i64.wrap ((q : Int) - (f : Int)) = (r : Int) := by rw [IntWalk.i64_in _ (by omega)]; omega
              have hr1000 : r ≤ 1000 := by omega
              have HMM := Lib.hid hn0
              clear hn0 hh hr hqf
              go_wp2_with fail
              rw [← HW1'.out]
              refine HC.out.mono ?_
              rintro e w3 ⟨A2, C2, rfl, -, -, hb3⟩
              rw [HMM.out]
              have HB3 := Lib.hid (HB2.out.trans (hb3.mono HB2.out.size))
              have HM3 := Lib.hid (HM2.out.old hb3)
              have HT3 := Lib.hid (below_objS hb3 HT2.out)
              clear hb3 y0 y1 y2 y3 c0 c1 c2 c3 hlk
              obtain ⟨y0, y1, y2, y3⟩ := tape4 HT3.out
              have hlk : (Instr.lookup 50 (.map (some (w.heap.size + 1))) (.int .i64 lab) false).run Try.prog w3 = .ok (.int .i64 (f : Int)) w3 := by rw [HFF.out]; exact HM3.out.look HWF.out
              obtain ⟨w4, hdl, hm4, hg4⟩ := HM3.out.del HWF.out
              have HM4 := Lib.hid (hm4.congr fun k _ => HLEFT.out k)
              have HB4 := Lib.hid (HB3.out.grown hg4 HB3.out.size HBL.out)
              clear hm4 hg4
              go_wp2
              go_roundw
              case rel => exact ⟨i + 1, r, by omega, by omega, by go_num, by go_num, HQ2, HM4, HB4⟩
              case measure => simp [intOf]; omega
          · have hf00 : f = 0 := by omega
            subst hf00
            have HQ2 : Hid (q = lost (ts.take (i + 1)) labs) := Lib.hid (by have := HSTEP.out; split at this <;> simpa using this.symm)
            obtain ⟨w4, hdl, hm4, hg4⟩ := HM2.out.del HWF.out
            have HM4 := Lib.hid (hm4.congr fun k _ => HLEFT.out k)
            have HB4 := Lib.hid (HB2.out.grown hg4 HB2.out.size HBL.out)
            rw [HW1'.out] at hdl
            clear hm4 hg4
            go_wp2
            go_roundw
            case rel => exact ⟨i + 1, q, by omega, by omega, by go_num, rfl, HQ2, HM4, HB4⟩
            case measure => simp [intOf]; omega
        · have e1 : decide (i < n) = false := decide_eq_false hln
          have HE : Hid (q = lost ts labs) := Lib.hid (by rw [HQ.out, lost_all (by rw [← HNL.out]; omega)])
          go_wp2
          go_ret
          exact ⟨by rw [HE.out]; rfl, HB.out⟩
end Go.Proofs.Ytnbfkihgloipiaa
namespace Go.Proofs.Ytnbfkihgloipiaa
open Go.RowKit
open Pt (Tx)

theorem lit_rd (w : World) (l : Tx) {c : Array Value} (hc : c = (cellsL l).toArray) : RdL (w.alloc (.cells c 5)) (some ⟨w.heap.size, 0, none⟩) l (· = w.heap.size) := by
  subst hc
  exact RdL.of_cells (Go.Deep.blk_alloc_new _ _) fun j hj => by rw [Nat.zero_add]; simpa using cellsL_get hj
theorem Turned.refl (g base : Nat) (w : World) : Turned g base w w := Kp.refl _ w
theorem vbyte_any (g base : Nat) (v : Value) (l : Tx) (c : UInt8) (w : World) (h : Rw w g base v l) (hbase : base ≤ w.heap.size) (hl : l.length ≤ 999999990) :
    Calls Try.prog 18 #[.pointer (some ⟨g, 0, none⟩), .int .u8 (c.toNat : Int)] w (RefWrote g base (l ++ [c]) w) := by
  have hlt := h.lt
  obtain ⟨A, C, hv, -, -, -, -⟩ := h.2.rd
  have c0 : w.cell? ⟨g, 0, none⟩ = some v := heap_cell h.1
  have f0 : w.frozen? ⟨g, 0, none⟩ = false := heap_frozen h.1
  have H := Lib.hid h
  clear h
  subst hv
  go_enter Try.func18, Try.ntmps18
  go_wp2_with (at_builtin; refine wpList_append_bl _ rfl _ _ rfl base _ l rfl (H.out.2.alloc _) (some ⟨w.heap.size, 0, none⟩) 1 1 [c] (· = w.heap.size) rfl rfl (fun h => by cases h) (lit_rd w [c] rfl) (by omega) (by simp; omega) ?_; intro v' w' hv hg; obtain ⟨hA, hB, hC⟩ := H.out.stored ((Turned.refl g base w).alloc _) (Below.heap_alloc _ _ _ hlt) (H.out.2.alloc _) hg hv; obtain ⟨A', C', rfl, -, -, -, -⟩ := hv.rd; have d0 : w'.cell? ⟨g, 0, none⟩ = some (.slice A l.length C) := heap_cell (hA.trans H.out.1); have d1 : w'.frozen? ⟨g, 0, none⟩ = false := heap_frozen (hA.trans H.out.1); have HB := Lib.hid hB; have HC := Lib.hid hC; clear hA hB hC hv hg)
  go_end0
  have hb := HB.out
  have hc := HC.out
  rw [List.length_append] at hb hc
  exact ⟨rfl, ⟨_, hb⟩, hc⟩
theorem mask_u64 (y : Int) (h0 : 0 ≤ y) (h1 : y < 18446744073709551616) : bits BinOp.and IntKind.u64 y 255 = y % 256 := by
  have h : bits BinOp.and IntKind.u64 y (2 ^ 8 - 1) = y % 2 ^ 8 := bits_mask .u64 64 (by decide) (fun m h0 h1 => by rw [IntKind.wrap_u64]; omega) 8 (by decide) y h0 h1
  simpa using h
theorem vint_any (g base : Nat) (v : Value) (l : Tx) (n : Int) (w : World) (h : Rw w g base v l) (hbase : base ≤ w.heap.size) (hl : l.length ≤ 999999990) :
    Calls Try.prog 19 #[.pointer (some ⟨g, 0, none⟩), .int .i64 n] w (RefWrote g base (l ++ Cd.be4 n) w) := by
  have hlt := h.lt
  obtain ⟨A, C, hv, -, -, -, -⟩ := h.2.rd
  have c0 : w.cell? ⟨g, 0, none⟩ = some v := heap_cell h.1
  have f0 : w.frozen? ⟨g, 0, none⟩ = false := heap_frozen h.1
  have H := Lib.hid h
  clear h
  subst hv
  have hw := IntKind.wrap_u64 n
  have m0 : bits BinOp.and IntKind.u64 (IntKind.u64.wrap n / 16777216) 255 = n / 16777216 % 256 := by rw [mask_u64 _ (by omega) (by omega), hw]; omega
  have m1 : bits BinOp.and IntKind.u64 (IntKind.u64.wrap n / 65536) 255 = n / 65536 % 256 := by rw [mask_u64 _ (by omega) (by omega), hw]; omega
  have m2 : bits BinOp.and IntKind.u64 (IntKind.u64.wrap n / 256) 255 = n / 256 % 256 := by rw [mask_u64 _ (by omega) (by omega), hw]; omega
  have m3 : bits BinOp.and IntKind.u64 (IntKind.u64.wrap n) 255 = n % 256 := by rw [mask_u64 _ (by omega) (by omega), hw]; omega
  clear hw
  go_enter Try.func19, Try.ntmps19
  go_wp2_with (at_builtin; refine wpList_append_bl _ rfl _ _ rfl base _ l rfl (H.out.2.alloc _) (some ⟨w.heap.size, 0, none⟩) 4 4 (Cd.be4 n) (· = w.heap.size) rfl rfl (fun h => by cases h) (lit_rd w (Cd.be4 n) (by simp [cellsL, Cd.be4, Cd.b8_nat])) (by omega) (by simp; omega) ?_; intro v' w' hv hg; obtain ⟨hA, hB, hC⟩ := H.out.stored ((Turned.refl g base w).alloc _) (Below.heap_alloc _ _ _ hlt) (H.out.2.alloc _) hg hv; obtain ⟨A', C', rfl, -, -, -, -⟩ := hv.rd; have d0 : w'.cell? ⟨g, 0, none⟩ = some (.slice A l.length C) := heap_cell (hA.trans H.out.1); have d1 : w'.frozen? ⟨g, 0, none⟩ = false := heap_frozen (hA.trans H.out.1); have HB := Lib.hid hB; have HC := Lib.hid hC; clear hA hB hC hv hg)
  go_end0
  have hb := HB.out
  have hc := HC.out
  rw [List.length_append] at hb hc
  exact ⟨rfl, ⟨_, hb⟩, hc⟩
end Go.Proofs.Ytnbfkihgloipiaa
namespace Go.Proofs.Ytnbfkihgloipiaa
open Go.RowKit
open Pt (Tx)

/-- bytes are answered, in new memory; or nothing -/
def AnsT (l : Tx) (w : World) (e : Ending) (w' : World) : Prop :=
  ∃ A n C, e = .returned (.slice A n C) ∧ n = l.length ∧ n ≤ C ∧ C ≤ maxLen ∧ (A = none → n = 0 ∧ C = 0) ∧ RdL w' A l (w.heap.size ≤ ·) ∧ Below w.heap.size w w'
theorem AnsT.nil {w w' : World} (h : Below w.heap.size w w') : AnsT [] w (.returned (.slice none 0 0)) w' :=
  ⟨none, 0, 0, rfl, rfl, Nat.le_refl _, by decide, fun _ => ⟨rfl, rfl⟩, RdL.empty _ _ _, h⟩
theorem AnsT.after {l : Tx} {w w1 w2 : World} {e : Ending} (hb : Below w.heap.size w w1) (h : AnsT l w1 e w2) : AnsT l w e w2 := by
  obtain ⟨A, n, C, h1, h2, h3, h4, h5, h6, h7⟩ := h
  exact ⟨A, n, C, h1, h2, h3, h4, h5, h6.mono fun x hx => Nat.le_trans hb.size hx, hb.trans (h7.mono hb.size)⟩
theorem AnsT.of_new {l : Tx} {w w' : World} {e : Ending} (hl : l.length ≤ maxLen) (h : NewC l w e w') : AnsT l w e w' := by
  obtain ⟨b, h1, h2, h3, h4⟩ := h
  exact ⟨some ⟨b, 0, Option.none⟩, l.length, l.length, h1, rfl, Nat.le_refl _, hl, (fun h => by cases h), (rd_of_cells h3).mono (fun x hx => by omega), h4⟩
end Go.Proofs.Ytnbfkihgloipiaa
namespace Go.Proofs.Ytnbfkihgloipiaa
open Go.RowKit
open Pt (Tx)

theorem Turned.other {g base B : Nat} {a b : World} {cs : Array Value} {t : TypeId} (h : Turned g base a b) (hB : B ≠ g) (ht : t ≠ 5) (hu : a.heap[B]? = some (.cells cs t (0, 0))) : b.heap[B]? = some (.cells cs t (0, 0)) := by
  refine (h.block B (heap_lt hu) ?_).trans hu
  rintro (h' | ⟨_, c, h'⟩)
  · exact hB h'
  · rw [hu] at h'
    injection h' with h'
    injection h' with _ e
    exact ht e
/-- a Writer of the document's own at work: what it holds, and what lies beside it -/
structure RefAt (w : World) (gr : Nat) (o : Obj) (l : Tx) (x : World) : Prop where
  rw_ : ∃ v, Rw x gr gr v l
  hd : x.heap[w.heap.size]? = some o
  bel : Below w.heap.size w x
  lo : w.heap.size < gr
theorem RefAt.wrote {w : World} {gr : Nat} {l l' : Tx} {x y : World} {e : Ending} {cs : Array Value} {t : TypeId} (ht : t ≠ 5) (h : RefAt w gr (.cells cs t (0, 0)) l x) (hw : RefWrote gr gr l' x e y) : RefAt w gr (.cells cs t (0, 0)) l' y := by
  obtain ⟨_, h2, h3⟩ := hw
  have := h.lo
  exact ⟨h2, h3.other (by omega) ht h.hd, h.bel.trans (Turned.below h3 h.bel.size (by omega) (by omega)), h.lo⟩
theorem RefAt.base {w : World} {gr : Nat} {o : Obj} {l : Tx} {x : World} (h : RefAt w gr o l x) : gr ≤ x.heap.size := by
  obtain ⟨v, hv⟩ := h.rw_
  exact Nat.le_of_lt hv.lt
theorem RefAt.done {w : World} {gr : Nat} {o : Obj} {l l' : Tx} {x : World} (h : RefAt w gr o l x) (hl : l = l') : ∃ A C, x.cell? ⟨gr, 0, none⟩ = some (.slice A l.length C) ∧ AnsT l' w (.returned (.slice A l.length C)) x := by
  subst hl
  obtain ⟨v, hv⟩ := h.rw_
  obtain ⟨A, C, rfl, g1, g2, g3, g4⟩ := hv.2.rd
  have := h.lo
  exact ⟨A, C, heap_cell hv.1, A, l.length, C, rfl, rfl, g1, g2, g3, g4.mono (fun x hx => by omega), h.bel⟩
theorem vbyte_int (g base : Nat) (v : Value) (l : Tx) (n : Int) (w : World) (h : Rw w g base v l) (hbase : base ≤ w.heap.size) (hl : l.length ≤ 999999990) :
    Calls Try.prog 18 #[.pointer (some ⟨g, 0, none⟩), .int .u8 (n % 256)] w (RefWrote g base (l ++ [Cd.b8 n]) w) := by
  rw [← Cd.b8_nat]; exact vbyte_any g base v l (Cd.b8 n) w h hbase hl
end Go.Proofs.Ytnbfkihgloipiaa
