/- What the document's own BadBlocks, Spots and LostMembers answer. -/
import Derived.Test.YtnbfkihgloipiaaMk
import Derived.Test.YtnbfkihgloipiaaMn
namespace Go.Proofs.Ytnbfkihgloipiaa
open Go.RowKit Vf
open Pt (Tx)

theorem infoInt : (Try.prog.info? 3).map (fun i => (i.zero, i.size, i.bytes)) = some (some (.int .i64 0), 1, 8) := by kernel_rfl
/-- numbers answered, in new memory -/
def NumsA (l : List Nat) (w : World) (e : Ending) (w' : World) : Prop :=
  ∃ A C base, e = .returned (.slice A l.length C) ∧ encN.Own w' base 3 (.slice A l.length C) l ∧ Below w.heap.size w w'
theorem encN_at {w : World} {A : Option Addr} {l : List Nat} {G : Nat → Prop} (h : encN.Rd w A l G) {i : Nat} (hi : i < l.length) : ∃ b off, A = some ⟨b, off, none⟩ ∧ w.cell? ⟨b, off + i, none⟩ = some (.int .i64 (l[i] : Int)) := by
  obtain ⟨b, off, e, _, hc⟩ := h.at_ hi
  refine ⟨b, off, e, ?_⟩
  have := hc 0 (.int .i64 (l[i] : Int)) rfl
  rw [show encN.k = 1 from rfl, Nat.mul_one, Nat.add_zero] at this
  exact this
set_option maxRecDepth 100000 in
set_option maxHeartbeats 4000000 in
theorem refBadBlocks_any (lab cap : Int) (bs : List Tx) (A : Option Addr) (L C : Nat) (G : Nat → Prop) (lost : Bool) (w : World) (hL : L = bs.length) (hr : RdB w A bs G) (hs : L ≤ 1000000) (hl : ∀ s ∈ bs, s.length ≤ 1000) :
    Calls Try.prog 16 #[.agg #[.int .i64 lab, .int .i64 cap, .slice A L C, .bool lost]] w (NumsA (bad ⟨lab, cap, bs, lost⟩) w) := by
  obtain ⟨wb, hwb⟩ : ∃ wb, wb = w.alloc (tapeObj lab cap A L C lost) := ⟨_, rfl⟩
  have hB : Below w.heap.size w wb := by rw [hwb]; exact (Below.refl _ _).alloc (Nat.le_refl _) _
  have hT : wb.heap[w.heap.size]? = some (tapeObj lab cap A L C lost) := by rw [hwb]; exact Go.Deep.blk_alloc_new _ _
  obtain ⟨T, hTd⟩ : ∃ T : St.T, T = ⟨lab, cap, bs, lost⟩ := ⟨_, rfl⟩
  have HT0 := Lib.hid hT
  have HB0 := Lib.hid hB
  have HW := Lib.hid hwb
  unfold tapeObj at HW
  have HG := Lib.hid (fun (n : Nat) (y : World) (hn : n < bs.length) (hy : Below w.heap.size w y) => refGood_in lab cap bs A L C G n y hL (hr.old hy) hn hl)
  have HOK : Hid (lost = false → ∀ n, (Vo.good ⟨lab, bs, false⟩ n).isSome = ok T n) := Lib.hid fun e n => by rw [hTd, e]; rfl
  have HBAD : Hid (bad T = if lost then [] else upto T L) := Lib.hid (by rw [hTd, hL]; rfl)
  have HL := Lib.hid hL
  rw [← hTd]
  clear hB hT hwb hr hl hTd hL
  obtain ⟨t0, t1, t2, t3⟩ := tape4 HT0.out
  rw [HW.out] at t0 t1 t2 t3
  go_enter Try.func16, Try.ntmps16
  go_wp2_with fail
  rw [← HW.out]
  clear t0 t1 t2 t3
  cases lost with
  | true =>
    refine wp_loop_rounds 1 ?_
    rw [rounds_succ]
    obtain ⟨t0, t1, t2, t3⟩ := tape4 HT0.out
    by_cases h0 : 0 < L
    · have e0 : decide (0 < L) = true := decide_eq_true h0
      have e0' : decide ((0 : Int) < (L : Int)) = true := decide_eq_true (by omega)
      clear h0
      go_wp2
      go_ret
      rw [HBAD.out]
      exact ⟨none, 0, 0, rfl, Enc.Own.nil _ _ _, HB0.out⟩
    · have e0 : decide (0 < L) = false := decide_eq_false h0
      have e0' : decide ((0 : Int) < (L : Int)) = false := decide_eq_false (by omega)
      clear h0
      go_wp2
      go_ret
      rw [HBAD.out]
      exact ⟨none, 0, 0, rfl, Enc.Own.nil _ _ _, HB0.out⟩
  | false =>
    go_loopw [4, 3] (fun vn vl wr => ∃ n : Nat, n ≤ L ∧ vn = .int .i64 (n : Int) ∧ Hid (encN.Own wr (w.heap.size + 1) 3 vl (upto T n)) ∧ Hid (Below w.heap.size w wr) ∧ Hid (wr.heap[w.heap.size]? = some (tapeObj lab cap A L C false))) (fun vn _ _ => L - (intOf vn).toNat)
    case atStart => exact ⟨0, Nat.zero_le _, rfl, Lib.hid (Enc.Own.nil _ _ _), HB0, HT0⟩
    case round =>
      obtain ⟨n, hn, rfl, HO, HB, HT⟩ := hrel
      obtain ⟨t0, t1, t2, t3⟩ := tape4 HT.out
      by_cases hlt : n < L
      · have e0 : decide (n < L) = true := decide_eq_true hlt
        have HC := Lib.hid (HG.out n wr (by rw [← HL.out]; exact hlt) HB.out)
        cases hok : ok T n with
        | true =>
          have HO2 : Hid (encN.Own wr (w.heap.size + 1) 3 u3 (upto T (n + 1))) := Lib.hid (by rw [upto_succ, hok]; exact HO.out)
          have HF := Lib.hid ((HOK.out rfl n).trans hok)
          clear hok
          go_wp2_with fail
          refine HC.out.mono ?_
          intro e w1 hg
          obtain ⟨⟨k, lb, nb, A1, m1, C1, rfl⟩, hb1⟩ := hg.flag HF.out
          have hb2 : Below wr.heap.size wr (w1.alloc (.cells #[.int .i64 k, .int .i64 lb, .int .i64 nb, .slice A1 m1 C1] 40)) := hb1.alloc hb1.size _
          have HB2 := Lib.hid (HB.out.trans (hb2.mono HB.out.size))
          have HT2 := Lib.hid (below_objS hb2 HT.out)
          have HO3 := Lib.hid (HO2.out.old hb2)
          clear t0 t1 t2 t3 hg hb1 hb2
          go_wp2
          go_roundw
          case rel => exact ⟨n + 1, by omega, by go_num, HO3, HB2, HT2⟩
          case measure => simp [intOf]; omega
        | false =>
          have HSN : Hid (upto T (n + 1) = upto T n ++ [n]) := Lib.hid (by rw [upto_succ, hok]; rfl)
          have HF := Lib.hid ((HOK.out rfl n).trans hok)
          have HLEN : Hid ((upto T n).length ≤ n) := Lib.hid (upto_len _ _)
          clear hok
          go_wp2_with fail
          refine HC.out.mono ?_
          intro e w1 hg
          obtain ⟨⟨k, lb, nb, A1, m1, C1, rfl⟩, hb1⟩ := hg.flag HF.out
          obtain ⟨w2, hw2⟩ : ∃ w2, w2 = w1.alloc (.cells #[.int .i64 k, .int .i64 lb, .int .i64 nb, .slice A1 m1 C1] 40) := ⟨_, rfl⟩
          have hb2 : Below wr.heap.size wr w2 := by rw [hw2]; exact hb1.alloc hb1.size _
          obtain ⟨w3, hw3⟩ : ∃ w3, w3 = w2.alloc (.cells #[.int .i64 (n : Int)] 3) := ⟨_, rfl⟩
          have hb3 : Below wr.heap.size wr w3 := by rw [hw3]; exact hb2.alloc hb2.size _
          have HB3 := Lib.hid (HB.out.trans (hb3.mono HB.out.size))
          have HT3 := Lib.hid (below_objS hb3 HT.out)
          have HO3 := Lib.hid (HO.out.old hb3)
          have HNEW : Hid (∀ j u, (encN.cells [n])[j]? = some u → w3.cell? ((⟨w1.heap.size + 1, 0, none⟩ : Addr).add j) = some u) := Lib.hid (by rw [hw3]; exact newCellsAt w2 [.int .i64 (n : Int)] _ _ (by rw [hw2]; simp))
          have hbz : w.heap.size + 1 ≤ wr.heap.size := heap_lt HT.out
          have HSZ : Hid (w.heap.size + 1 ≤ w3.heap.size) := Lib.hid (by have := hb3.size; omega)
          have HLO : Hid (∀ k, u3.ownBlock = some k → w.heap.size + 1 ≤ k) := Lib.hid fun k hk => (HO.out.lt k hk).1
          have HW2 := Lib.hid hw2
          have HW3 := Lib.hid hw3
          clear t0 t1 t2 t3 hg hb1 hb2 hb3 hw2 hw3 hbz
          go_wp2_with (at_builtin; rw [← HW2.out, ← HW3.out]; refine wpList_append_st' encN _ rfl _ _ _ rfl (w.heap.size + 1) 3 _ 8 Try.underlying23 infoInt rfl _ _ rfl HO3.out ⟨w1.heap.size + 1, 0, none⟩ 1 1 [n] rfl rfl HNEW.out (by have := HLEN.out; unfold maxLen; omega) (by have := HLEN.out; omega) HSZ.out ?_; intro v' w4 ho4 hg4; rw [← HSN.out] at ho4; have HO4 := Lib.hid ho4; have HB4 := Lib.hid (HB3.out.grown hg4 HB3.out.size (fun k hk => by have := HLO.out k hk; omega)); have HT4 : Hid (w4.heap[w.heap.size]? = some (tapeObj lab cap A L C false)) := Lib.hid ((hg4.block _ (heap_lt HT3.out) (fun e => by have := HLO.out _ e.symm; omega)).trans HT3.out); clear ho4 hg4)
          go_roundw
          case rel => exact ⟨n + 1, by omega, by go_num, HO4, HB4, HT4⟩
          case measure => simp [intOf]; omega
      · have hnL : n = L := by omega
        have e0 : decide (n < L) = false := decide_eq_false hlt
        have hbad : upto T n = bad T := by rw [HBAD.out, hnL]; rfl
        rw [hbad] at HO
        obtain ⟨A', C', hv, -⟩ := HO.out.rd
        clear hnL hbad
        subst hv
        go_wp2
        go_ret
        exact ⟨A', C', _, rfl, HO.out, HB.out⟩
/-- what stands there behind k of a tape's blocks -/
def Vf.acc (P : List (Int × Int)) (t : St.T) (k : Nat) : List (Int × Int) := P ++ (if t.lost then [(t.label, -1)] else sp t.label ((bad t).take k))
theorem Vf.acc_zero (P : List (Int × Int)) {t : St.T} (h : t.lost = false) : Vf.acc P t 0 = P := by unfold Vf.acc; rw [h]; simp [sp]
theorem Vf.acc_lost (P : List (Int × Int)) {t : St.T} (h : t.lost = true) (k : Nat) : Vf.acc P t k = P ++ [(t.label, -1)] := by unfold Vf.acc; rw [h]; rfl
theorem Vf.acc_all (P : List (Int × Int)) (t : St.T) {k : Nat} (h : (bad t).length ≤ k) : Vf.acc P t k = P ++ spotsT t := by
  unfold Vf.acc spotsT
  rw [List.take_of_length_le h]
theorem Vf.acc_succ (P : List (Int × Int)) {t : St.T} {k : Nat} (h : k < (bad t).length) : Vf.acc P t (k + 1) = Vf.acc P t k ++ [(t.label, ((bad t)[k] : Int))] := by
  have hl : t.lost = false := by
    cases e : t.lost with
    | false => rfl
    | true => unfold bad at h; rw [e] at h; simp at h
  unfold Vf.acc
  rw [hl, List.take_add_one, List.getElem?_eq_getElem h]
  show P ++ sp t.label ((bad t).take k ++ [(bad t)[k]]) = _
  rw [sp_snoc, List.append_assoc]; rfl
theorem Vf.acc_len (P : List (Int × Int)) (t : St.T) (k : Nat) : (Vf.acc P t k).length ≤ P.length + t.blocks.length + 1 := by
  unfold Vf.acc
  rw [List.length_append]
  have := bad_len t
  split
  · simp
  · rw [sp_len, List.length_take]; omega
theorem Vf.bad_lost {t : St.T} (h : t.lost = true) : bad t = [] := by unfold bad; rw [if_pos h]
set_option maxRecDepth 100000 in
set_option maxHeartbeats 8000000 in
theorem refSpots_any (A : Option Addr) (ts : List St.T) (n C : Nat) (G : Nat → Prop) (w : World) (hnl : n = ts.length) (hn : n ≤ 1000) (hr : RdT w A ts G) (hl : ∀ t ∈ ts, t.blocks.length ≤ 1000 ∧ ∀ s ∈ t.blocks, s.length ≤ 1000) :
    Calls Try.prog 10 #[.slice A n C] w (SpotsA (spots ts) w) := by
  have HR := Lib.hid hr
  have HL := Lib.hid hl
  have HNL := Lib.hid hnl
  have HLEN : Hid (∀ i, (spots (ts.take i)).length ≤ 1002000) := Lib.hid fun i => by
    have h := spots_len (ts := ts.take i) (m := 1000) fun t ht => (hl t (List.mem_of_mem_take ht)).1
    have h2 : (ts.take i).length ≤ 1000 := by rw [List.length_take]; omega
    have h3 : (ts.take i).length * 1001 ≤ 1000 * 1001 := Nat.mul_le_mul_right _ h2
    omega
  clear hr hl hnl
  go_enter Try.func10, Try.ntmps10
  go_wp2
  go_loopw [4, 3] (fun vi vl wr => ∃ i : Nat, i ≤ n ∧ vi = .int .i64 (i : Int) ∧ Hid (encS.Own wr w.heap.size 44 vl (spots (ts.take i))) ∧ Hid (Below w.heap.size w wr)) (fun vi _ _ => n - (intOf vi).toNat)
  case atStart => exact ⟨0, Nat.zero_le _, rfl, Lib.hid (Enc.Own.nil _ _ _), Lib.hid (Below.refl _ _)⟩
  case round =>
    obtain ⟨i, hi, rfl, HO, HB⟩ := hrel
    by_cases hlt : i < n
    · have e0 : decide (i < n) = true := decide_eq_true hlt
      have e0' : decide ((i : Int) < (n : Int)) = true := decide_eq_true (by omega)
      have hlt' : i < ts.length := by rw [← HNL.out]; exact hlt
      obtain ⟨b, off, A', C', rfl, -, c0, c1, c2, c3, hb⟩ := HR.out.at_ hlt'
      obtain ⟨⟨lab, cap, bs, lost⟩, ht⟩ : ∃ t, t = ts[i] := ⟨_, rfl⟩
      obtain ⟨T, hT⟩ : ∃ T : St.T, T = ⟨lab, cap, bs, lost⟩ := ⟨_, rfl⟩
      have hln := HL.out ts[i] (List.getElem_mem hlt')
      have HTK : Hid (spots (ts.take (i + 1)) = spots (ts.take i) ++ spotsT T) := Lib.hid (by rw [hT, ht]; exact spots_take hlt')
      rw [← ht] at c0 c1 c2 c3 hb hln
      dsimp only at c0 c1 c2 c3 hb hln
      obtain ⟨K, hK⟩ : ∃ K, K = bs.length := ⟨_, rfl⟩
      rw [← hK] at c2
      have hK1000 : K ≤ 1000 := by rw [hK]; exact hln.1
      have HCALL : Hid (∀ y, Below w.heap.size w y → Calls Try.prog 16 #[.agg #[.int .i64 lab, .int .i64 cap, .slice A' K C', .bool lost]] y (NumsA (bad T) y)) := Lib.hid fun y hy => by
        rw [hT]; exact refBadBlocks_any lab cap bs A' K C' G lost y hK (hb.old hy) (by omega) hln.2
      have HACL : Hid (∀ k, (acc (spots (ts.take i)) T k).length ≤ 1003001) := Lib.hid fun k => by
        have h1 := acc_len (spots (ts.take i)) T k
        have h2 := HLEN.out i
        rw [hT] at h1
        rw [hT]
        dsimp only at h1 ⊢
        have := hln.1
        omega
      have HTL : Hid (T.label = lab ∧ T.lost = lost) := Lib.hid (by rw [hT]; exact ⟨rfl, rfl⟩)
      have HBL : Hid ((bad T).length ≤ 1000) := Lib.hid (by
        have h := bad_len T
        rw [hT] at h ⊢
        exact Nat.le_trans h hln.1)
      have i0 : (0 : Int) ≤ (i : Int) := by omega
      have i1 : (i : Int) < (n : Int) := by omega
      have HAT : Hid (∀ y, Below w.heap.size w y → y.cell? ⟨b, off + i * 4, none⟩ = some (.int .i64 lab) ∧ y.cell? ⟨b, off + i * 4 + 1, none⟩ = some (.int .i64 cap) ∧ y.cell? ⟨b, off + i * 4 + 2, none⟩ = some (.slice A' K C') ∧ y.cell? ⟨b, off + i * 4 + 3, none⟩ = some (.bool lost)) := Lib.hid fun y hy =>
        ⟨(hy.cell (World.block_lt_of_cell? _ _ c0)).trans c0, (hy.cell (World.block_lt_of_cell? _ _ c1)).trans c1, (hy.cell (World.block_lt_of_cell? _ _ c2)).trans c2, (hy.cell (World.block_lt_of_cell? _ _ c3)).trans c3⟩
      clear ht hb hln hK hT c0 c1 c2 c3 hlt'
      obtain ⟨c0, c1, c2, c3⟩ := HAT.out wr HB.out
      cases lost with
      | true =>
        obtain ⟨w1, hw1⟩ : ∃ w1, w1 = wr.alloc (.cells #[.int .i64 lab, .int .i64 (-1)] 44) := ⟨_, rfl⟩
        have hb1 : Below wr.heap.size wr w1 := by rw [hw1]; exact (Below.refl _ _).alloc (Nat.le_refl _) _
        have HB1 := Lib.hid (HB.out.trans (hb1.mono HB.out.size))
        have HO1 := Lib.hid (HO.out.old hb1)
        have HLO : Hid (∀ k, u3.ownBlock = some k → w.heap.size ≤ k) := Lib.hid fun k hk => (HO.out.lt k hk).1
        have HNEW : Hid (∀ j u, (encS.cells [(lab, (-1 : Int))])[j]? = some u → w1.cell? ((⟨wr.heap.size, 0, none⟩ : Addr).add j) = some u) := Lib.hid (by rw [hw1]; exact newCells wr [.int .i64 lab, .int .i64 (-1)] _)
        have HW1 := Lib.hid hw1
        have HAC : Hid (spots (ts.take i) ++ [(lab, (-1 : Int))] = acc (spots (ts.take i)) T 0) := Lib.hid (by rw [acc_lost _ HTL.out.2, HTL.out.1])
        clear hw1 hb1
        go_wp2_with (at_builtin; rw [← HW1.out]; refine wpList_append_st' encS _ rfl _ _ _ rfl w.heap.size 44 _ 16 Try.underlying29 infoSpot rfl _ _ rfl HO1.out ⟨wr.heap.size, 0, none⟩ 1 1 [(lab, (-1 : Int))] rfl rfl HNEW.out (by have := HLEN.out i; unfold maxLen; omega) (by have := HLEN.out i; omega) HB1.out.size ?_; intro v2 w2 ho2 hg2; rw [HAC.out] at ho2; have HO2 := Lib.hid ho2; have HB2 := Lib.hid (HB1.out.grown hg2 HB1.out.size HLO.out); clear ho2 hg2; clear c0 c1 c2 c3; obtain ⟨c0, c1, c2, c3⟩ := HAT.out w2 HB2.out)
        refine (HCALL.out w2 HB2.out).mono ?_
        rintro e w3 ⟨A3, C3, base3, rfl, ho3, hb3⟩
        obtain ⟨M, hM⟩ : ∃ M, M = (bad T).length := ⟨_, rfl⟩
        rw [← hM] at ho3 ⊢
        have HB3 := Lib.hid (HB2.out.trans (hb3.mono HB2.out.size))
        have HO3 := Lib.hid (HO2.out.old hb3)
        have HN3 := Lib.hid ho3
        have HM := Lib.hid hM
        have hM1000 : M ≤ 1000 := by rw [hM]; exact HBL.out
        clear hb3 ho3 hM c0 c1 c2 c3
        have HEND : Hid (acc (spots (ts.take i)) T M = spots (ts.take (i + 1))) := Lib.hid (by rw [HTK.out, acc_all _ _ (by rw [HM.out]; exact Nat.le_refl _)])
        go_wp2
        go_loopw [6, 3] (fun vk vl wr => ∃ k : Nat, k ≤ M ∧ vk = .int .i64 (k : Int) ∧ Hid (encS.Own wr w.heap.size 44 vl (acc (spots (ts.take i)) T k)) ∧ Hid (encN.Own wr base3 3 (.slice A3 M C3) (bad T)) ∧ Hid (Below w.heap.size w wr)) (fun vk _ _ => M - (intOf vk).toNat)
        case atStart => exact ⟨0, Nat.zero_le _, rfl, HO3, HN3, HB3⟩
        case round =>
          obtain ⟨k, hk, rfl, HO4, HN4, HB4⟩ := hrel
          by_cases hlk : k < M
          · have f0 : decide (k < M) = true := decide_eq_true hlk
            have f0' : decide ((k : Int) < (M : Int)) = true := decide_eq_true (by omega)
            have hkl : k < (bad T).length := by rw [← HM.out]; exact hlk
            obtain ⟨wo, rfl⟩ : ∃ x, x = wr := ⟨wr, rfl⟩
            obtain ⟨A9, C9, hv9, -, -, -, hrd⟩ := HN4.out.rd
            have hA9 : A3 = A9 := by injection hv9
            clear hv9
            obtain ⟨b3, o3, hA3, c5⟩ := encN_at hrd hkl
            obtain ⟨bk, hbk⟩ : ∃ bk, bk = (bad T)[k] := ⟨_, rfl⟩
            rw [← hbk] at c5
            have hA3' := hA9.trans hA3
            subst hA3'
            have HB4D := Lib.hid HB4.out.drew
            obtain ⟨w5, hw5⟩ : ∃ w5, w5 = (wo.alloc (.cells #[.int .i64 lab, .int .i64 (bk : Int)] 44)).drew := ⟨_, rfl⟩
            have hb5 : Below wo.heap.size wo w5 := by rw [hw5]; exact ((Below.refl _ _).alloc (Nat.le_refl _) _).drew
            have HB5 : Hid (Below wo.heap.size wo w5) := Lib.hid hb5
            have hnews : ∀ j u, (encS.cells [(lab, (bk : Int))])[j]? = some u → w5.cell? ((⟨wo.heap.size, 0, none⟩ : Addr).add j) = some u := by rw [hw5]; exact newCells wo [.int .i64 lab, .int .i64 (bk : Int)] _
            have hacl := HACL.out k
            obtain ⟨v6, w6, hrun, ho6, hg6⟩ := apE_run encS w5 29 w.heap.size 44 _ 16 Try.underlying29 infoSpot rfl u3 (acc (spots (ts.take i)) T k) (HO4.out.old hb5) ⟨wo.heap.size, 0, none⟩ 1 1 [(lab, (bk : Int))] rfl hnews (by unfold maxLen; omega) (by omega) (Nat.le_trans HB4.out.size hb5.size)
            have HN6 := Lib.hid ((HO4.out.old hb5).beside (HN4.out.old hb5) (by decide) hg6)
            rw [show acc (spots (ts.take i)) T k ++ [(lab, (bk : Int))] = acc (spots (ts.take i)) T (k + 1) by rw [acc_succ _ hkl, HTL.out.1, hbk]] at ho6
            have HO6 := Lib.hid ho6
            have HB6 : Hid (Below w.heap.size w w6) := Lib.hid ((HB4.out.trans (hb5.mono HB4.out.size)).grown hg6 (Nat.le_trans HB4.out.size hb5.size) (fun j hj => (HO4.out.lt j hj).1))
            have HW5 := Lib.hid hw5
            have HC5 : Hid (∀ y, Below wo.heap.size wo y → y.cell? ⟨b3, o3 + k, none⟩ = some (.int .i64 (bk : Int))) := Lib.hid fun y hy => (hy.cell (World.block_lt_of_cell? _ _ c5)).trans c5
            have HC6 : Hid (w6.cell? ⟨b3, o3 + k, none⟩ = some (.int .i64 (bk : Int))) := Lib.hid (by
              obtain ⟨A9, C9, hv9, -, -, -, hrd⟩ := HN6.out.rd
              injection hv9 with hA9 _ _
              obtain ⟨b4, o4, hA4, c6⟩ := encN_at hrd hkl
              have e := hA9.trans hA4
              injection e with e
              injection e with e1 e2 _
              rw [e1, e2, hbk]; exact c6)
            have HAD := Lib.hid (fun (y : World) (hy : Below w.heap.size w y) => (HAT.out y hy).1)
            have k0 : (0 : Int) ≤ (k : Int) := by omega
            have k1 : (k : Int) < (M : Int) := by omega
            have HHL := Lib.hid hacl
            clear hrd c5 hw5 hb5 hnews hacl ho6 hg6 hkl hA3 hbk hA9
            go_wp2_with fail
            refine wp_region_X (fun y => y.cell? ⟨b, off + i * 4, none⟩ = some (.int .i64 lab) ∧ y.cell? ⟨b3, o3 + k, none⟩ = some (.int .i64 (bk : Int))) 13 (by kernel_rfl) ⟨HAD.out _ HB4D.out, HC5.out _ (Below.refl _ _).drew⟩ (fun hHeld => ?_)
            refine wpAnyX_slot (i := 0) (v := ?va0) rfl rfl (by kernel_rfl) (by kernel_rfl) (by kernel_rfl) (by kernel_rfl) (fun _ _ _ h => h) (by rfl) (fun y hSw => ?hya0) hHeld ?resta0
            case hya0 => go_simp; with_reducible rfl
            simp only [Act.put, List.setIfInBounds_toArray, List.set_cons_zero, List.set_cons_succ]
            refine wpAnyX_slot (i := 1) (v := ?va1) rfl rfl (by kernel_rfl) (by kernel_rfl) (by kernel_rfl) (by kernel_rfl) (fun _ _ _ h => h) (by rfl) (fun y hSw => ?hya1) hHeld ?resta1
            case hya1 => go_simp; with_reducible rfl
            simp only [Act.put, List.setIfInBounds_toArray, List.set_cons_zero, List.set_cons_succ]
            refine wpAnyX_slot (i := 2) (v := ?va2) rfl rfl (by kernel_rfl) (by kernel_rfl) (by kernel_rfl) (by kernel_rfl) (fun _ _ _ h => h) (by rfl) (fun y hSw => ?hya2) hHeld ?resta2
            case hya2 => go_simp; with_reducible rfl
            simp only [Act.put, List.setIfInBounds_toArray, List.set_cons_zero, List.set_cons_succ]
            refine wpAnyX_slot (i := 3) (v := ?va3) rfl rfl (by kernel_rfl) (by kernel_rfl) (by kernel_rfl) (by kernel_rfl) (fun _ _ _ h => h) (by rfl) (fun y hSw => ?hya3) hHeld ?resta3
            case hya3 => go_simp; with_reducible rfl
            simp only [Act.put, List.setIfInBounds_toArray, List.set_cons_zero, List.set_cons_succ]
            refine wpAnyX_slot (i := 4) (v := ?va4) rfl rfl (by kernel_rfl) (by kernel_rfl) (by kernel_rfl) (by kernel_rfl) (fun _ _ _ h => h) (by rfl) (fun y hSw => ?hya4) hHeld ?resta4
            case hya4 => go_simp; with_reducible rfl
            simp only [Act.put, List.setIfInBounds_toArray, List.set_cons_zero, List.set_cons_succ]
            refine wpAnyX_slot (i := 5) (v := ?va5) rfl rfl (by kernel_rfl) (by kernel_rfl) (by kernel_rfl) (by kernel_rfl) (fun _ _ _ h => h) (by rfl) (fun y hSw => ?hya5) hHeld ?resta5
            case hya5 => (obtain ⟨q1, q2⟩ := hSw); go_simp; with_reducible rfl
            simp only [Act.put, List.setIfInBounds_toArray, List.set_cons_zero, List.set_cons_succ]
            refine wpAnyX_slot (i := 6) (v := ?va6) rfl rfl (by kernel_rfl) (by kernel_rfl) (by kernel_rfl) (by kernel_rfl) (fun _ _ _ h => h) (by rfl) (fun y hSw => ?hya6) hHeld ?resta6
            case hya6 => go_simp; with_reducible rfl
            simp only [Act.put, List.setIfInBounds_toArray, List.set_cons_zero, List.set_cons_succ]
            refine wpAnyX_slot (i := 7) (v := ?va7) rfl rfl (by kernel_rfl) (by kernel_rfl) (by kernel_rfl) (by kernel_rfl) (fun _ _ _ h => h) (by rfl) (fun y hSw => ?hya7) hHeld ?resta7
            case hya7 => go_simp; with_reducible rfl
            simp only [Act.put, List.setIfInBounds_toArray, List.set_cons_zero, List.set_cons_succ]
            refine wpAnyX_slot (i := 8) (v := ?va8) rfl rfl (by kernel_rfl) (by kernel_rfl) (by kernel_rfl) (by kernel_rfl) (fun _ _ _ h => h) (by rfl) (fun y hSw => ?hya8) hHeld ?resta8
            case hya8 => go_simp; with_reducible rfl
            simp only [Act.put, List.setIfInBounds_toArray, List.set_cons_zero, List.set_cons_succ]
            refine wpAnyX_slot (i := 9) (v := ?va9) rfl rfl (by kernel_rfl) (by kernel_rfl) (by kernel_rfl) (by kernel_rfl) (fun _ _ _ h => h) (by rfl) (fun y hSw => ?hya9) hHeld ?resta9
            case hya9 => (obtain ⟨q1, q2⟩ := hSw); go_simp; with_reducible rfl
            simp only [Act.put, List.setIfInBounds_toArray, List.set_cons_zero, List.set_cons_succ]
            refine wpAnyX_slot (i := 10) (v := ?va10) rfl rfl (by kernel_rfl) (by kernel_rfl) (by kernel_rfl) (by kernel_rfl) (fun _ _ _ h => h) (by rfl) (fun y hSw => ?hya10) hHeld ?resta10
            case hya10 => go_simp; with_reducible rfl
            simp only [Act.put, List.setIfInBounds_toArray, List.set_cons_zero, List.set_cons_succ]
            refine wpAnyX_next (i := 11) (by kernel_rfl) rfl (fun KK hKK => ?_)
            go_simp
            rw [← HW5.out]
            refine hKK.out _ _ ⟨HAD.out _ (HB4.out.trans (HB5.out.mono HB4.out.size)), HC5.out _ HB5.out⟩ (fun hHeld => ?_)
            clear hKK KK
            refine wpAnyX_next (i := 12) (by kernel_rfl) rfl (fun KK hKK => ?_)
            refine step_append_eq (by rfl) _ _ _ _ (by rfl) _ _ _ _ hrun (by rfl) (by rfl) ?_
            refine hKK.out _ _ ⟨HAD.out _ HB6.out, HC6.out⟩ (fun hHeld => ?_)
            clear hKK KK
            refine wpAnyX_last (by kernel_rfl) rfl (by kernel_rfl) (fun KK hKK => ?_)
            go_simp
            refine hKK.out _ _ ?_
            clear hKK KK
            go_wp2
            go_roundw
            case rel => exact ⟨k + 1, by omega, by go_num, HO6, HN6, HB6⟩
            case measure => simp [intOf]; omega
          · have f0 : decide (k < M) = false := decide_eq_false hlk
            have f0' : decide ((k : Int) < (M : Int)) = false := decide_eq_false (by omega)
            have hkM : k = M := by omega
            have HO7 : Hid (encS.Own wr w.heap.size 44 u3 (spots (ts.take (i + 1)))) := Lib.hid (by rw [← HEND.out, ← hkM]; exact HO4.out)
            clear hkM
            go_wp2
            go_roundw
            case rel => exact ⟨i + 1, by omega, by go_num, HO7, HB4⟩
            case measure => simp [intOf]; omega
      | false =>
        have HO2 : Hid (encS.Own wr w.heap.size 44 u3 (acc (spots (ts.take i)) T 0)) := Lib.hid (by rw [acc_zero _ HTL.out.2]; exact HO.out)
        have HB2 := HB
        go_wp2_with fail
        refine (HCALL.out wr HB2.out).mono ?_
        rintro e w3 ⟨A3, C3, base3, rfl, ho3, hb3⟩
        obtain ⟨M, hM⟩ : ∃ M, M = (bad T).length := ⟨_, rfl⟩
        rw [← hM] at ho3 ⊢
        have HB3 := Lib.hid (HB2.out.trans (hb3.mono HB2.out.size))
        have HO3 := Lib.hid (HO2.out.old hb3)
        have HN3 := Lib.hid ho3
        have HM := Lib.hid hM
        have hM1000 : M ≤ 1000 := by rw [hM]; exact HBL.out
        clear hb3 ho3 hM c0 c1 c2 c3
        have HEND : Hid (acc (spots (ts.take i)) T M = spots (ts.take (i + 1))) := Lib.hid (by rw [HTK.out, acc_all _ _ (by rw [HM.out]; exact Nat.le_refl _)])
        go_wp2
        go_loopw [6, 3] (fun vk vl wr => ∃ k : Nat, k ≤ M ∧ vk = .int .i64 (k : Int) ∧ Hid (encS.Own wr w.heap.size 44 vl (acc (spots (ts.take i)) T k)) ∧ Hid (encN.Own wr base3 3 (.slice A3 M C3) (bad T)) ∧ Hid (Below w.heap.size w wr)) (fun vk _ _ => M - (intOf vk).toNat)
        case atStart => exact ⟨0, Nat.zero_le _, rfl, HO3, HN3, HB3⟩
        case round =>
          obtain ⟨k, hk, rfl, HO4, HN4, HB4⟩ := hrel
          by_cases hlk : k < M
          · have f0 : decide (k < M) = true := decide_eq_true hlk
            have f0' : decide ((k : Int) < (M : Int)) = true := decide_eq_true (by omega)
            have hkl : k < (bad T).length := by rw [← HM.out]; exact hlk
            obtain ⟨wo, rfl⟩ : ∃ x, x = wr := ⟨wr, rfl⟩
            obtain ⟨A9, C9, hv9, -, -, -, hrd⟩ := HN4.out.rd
            have hA9 : A3 = A9 := by injection hv9
            clear hv9
            obtain ⟨b3, o3, hA3, c5⟩ := encN_at hrd hkl
            obtain ⟨bk, hbk⟩ : ∃ bk, bk = (bad T)[k] := ⟨_, rfl⟩
            rw [← hbk] at c5
            have hA3' := hA9.trans hA3
            subst hA3'
            have HB4D := Lib.hid HB4.out.drew
            obtain ⟨w5, hw5⟩ : ∃ w5, w5 = (wo.alloc (.cells #[.int .i64 lab, .int .i64 (bk : Int)] 44)).drew := ⟨_, rfl⟩
            have hb5 : Below wo.heap.size wo w5 := by rw [hw5]; exact ((Below.refl _ _).alloc (Nat.le_refl _) _).drew
            have HB5 : Hid (Below wo.heap.size wo w5) := Lib.hid hb5
            have hnews : ∀ j u, (encS.cells [(lab, (bk : Int))])[j]? = some u → w5.cell? ((⟨wo.heap.size, 0, none⟩ : Addr).add j) = some u := by rw [hw5]; exact newCells wo [.int .i64 lab, .int .i64 (bk : Int)] _
            have hacl := HACL.out k
            obtain ⟨v6, w6, hrun, ho6, hg6⟩ := apE_run encS w5 29 w.heap.size 44 _ 16 Try.underlying29 infoSpot rfl u3 (acc (spots (ts.take i)) T k) (HO4.out.old hb5) ⟨wo.heap.size, 0, none⟩ 1 1 [(lab, (bk : Int))] rfl hnews (by unfold maxLen; omega) (by omega) (Nat.le_trans HB4.out.size hb5.size)
            have HN6 := Lib.hid ((HO4.out.old hb5).beside (HN4.out.old hb5) (by decide) hg6)
            rw [show acc (spots (ts.take i)) T k ++ [(lab, (bk : Int))] = acc (spots (ts.take i)) T (k + 1) by rw [acc_succ _ hkl, HTL.out.1, hbk]] at ho6
            have HO6 := Lib.hid ho6
            have HB6 : Hid (Below w.heap.size w w6) := Lib.hid ((HB4.out.trans (hb5.mono HB4.out.size)).grown hg6 (Nat.le_trans HB4.out.size hb5.size) (fun j hj => (HO4.out.lt j hj).1))
            have HW5 := Lib.hid hw5
            have HC5 : Hid (∀ y, Below wo.heap.size wo y → y.cell? ⟨b3, o3 + k, none⟩ = some (.int .i64 (bk : Int))) := Lib.hid fun y hy => (hy.cell (World.block_lt_of_cell? _ _ c5)).trans c5
            have HC6 : Hid (w6.cell? ⟨b3, o3 + k, none⟩ = some (.int .i64 (bk : Int))) := Lib.hid (by
              obtain ⟨A9, C9, hv9, -, -, -, hrd⟩ := HN6.out.rd
              injection hv9 with hA9 _ _
              obtain ⟨b4, o4, hA4, c6⟩ := encN_at hrd hkl
              have e := hA9.trans hA4
              injection e with e
              injection e with e1 e2 _
              rw [e1, e2, hbk]; exact c6)
            have HAD := Lib.hid (fun (y : World) (hy : Below w.heap.size w y) => (HAT.out y hy).1)
            have k0 : (0 : Int) ≤ (k : Int) := by omega
            have k1 : (k : Int) < (M : Int) := by omega
            have HHL := Lib.hid hacl
            clear hrd c5 hw5 hb5 hnews hacl ho6 hg6 hkl hA3 hbk hA9
            go_wp2_with fail
            refine wp_region_X (fun y => y.cell? ⟨b, off + i * 4, none⟩ = some (.int .i64 lab) ∧ y.cell? ⟨b3, o3 + k, none⟩ = some (.int .i64 (bk : Int))) 13 (by kernel_rfl) ⟨HAD.out _ HB4D.out, HC5.out _ (Below.refl _ _).drew⟩ (fun hHeld => ?_)
            refine wpAnyX_slot (i := 0) (v := ?vb0) rfl rfl (by kernel_rfl) (by kernel_rfl) (by kernel_rfl) (by kernel_rfl) (fun _ _ _ h => h) (by rfl) (fun y hSw => ?hyb0) hHeld ?restb0
            case hyb0 => go_simp; with_reducible rfl
            simp only [Act.put, List.setIfInBounds_toArray, List.set_cons_zero, List.set_cons_succ]
            refine wpAnyX_slot (i := 1) (v := ?vb1) rfl rfl (by kernel_rfl) (by kernel_rfl) (by kernel_rfl) (by kernel_rfl) (fun _ _ _ h => h) (by rfl) (fun y hSw => ?hyb1) hHeld ?restb1
            case hyb1 => go_simp; with_reducible rfl
            simp only [Act.put, List.setIfInBounds_toArray, List.set_cons_zero, List.set_cons_succ]
            refine wpAnyX_slot (i := 2) (v := ?vb2) rfl rfl (by kernel_rfl) (by kernel_rfl) (by kernel_rfl) (by kernel_rfl) (fun _ _ _ h => h) (by rfl) (fun y hSw => ?hyb2) hHeld ?restb2
            case hyb2 => go_simp; with_reducible rfl
            simp only [Act.put, List.setIfInBounds_toArray, List.set_cons_zero, List.set_cons_succ]
            refine wpAnyX_slot (i := 3) (v := ?vb3) rfl rfl (by kernel_rfl) (by kernel_rfl) (by kernel_rfl) (by kernel_rfl) (fun _ _ _ h => h) (by rfl) (fun y hSw => ?hyb3) hHeld ?restb3
            case hyb3 => go_simp; with_reducible rfl
            simp only [Act.put, List.setIfInBounds_toArray, List.set_cons_zero, List.set_cons_succ]
            refine wpAnyX_slot (i := 4) (v := ?vb4) rfl rfl (by kernel_rfl) (by kernel_rfl) (by kernel_rfl) (by kernel_rfl) (fun _ _ _ h => h) (by rfl) (fun y hSw => ?hyb4) hHeld ?restb4
            case hyb4 => go_simp; with_reducible rfl
            simp only [Act.put, List.setIfInBounds_toArray, List.set_cons_zero, List.set_cons_succ]
            refine wpAnyX_slot (i := 5) (v := ?vb5) rfl rfl (by kernel_rfl) (by kernel_rfl) (by kernel_rfl) (by kernel_rfl) (fun _ _ _ h => h) (by rfl) (fun y hSw => ?hyb5) hHeld ?restb5
            case hyb5 => (obtain ⟨q1, q2⟩ := hSw); go_simp; with_reducible rfl
            simp only [Act.put, List.setIfInBounds_toArray, List.set_cons_zero, List.set_cons_succ]
            refine wpAnyX_slot (i := 6) (v := ?vb6) rfl rfl (by kernel_rfl) (by kernel_rfl) (by kernel_rfl) (by kernel_rfl) (fun _ _ _ h => h) (by rfl) (fun y hSw => ?hyb6) hHeld ?restb6
            case hyb6 => go_simp; with_reducible rfl
            simp only [Act.put, List.setIfInBounds_toArray, List.set_cons_zero, List.set_cons_succ]
            refine wpAnyX_slot (i := 7) (v := ?vb7) rfl rfl (by kernel_rfl) (by kernel_rfl) (by kernel_rfl) (by kernel_rfl) (fun _ _ _ h => h) (by rfl) (fun y hSw => ?hyb7) hHeld ?restb7
            case hyb7 => go_simp; with_reducible rfl
            simp only [Act.put, List.setIfInBounds_toArray, List.set_cons_zero, List.set_cons_succ]
            refine wpAnyX_slot (i := 8) (v := ?vb8) rfl rfl (by kernel_rfl) (by kernel_rfl) (by kernel_rfl) (by kernel_rfl) (fun _ _ _ h => h) (by rfl) (fun y hSw => ?hyb8) hHeld ?restb8
            case hyb8 => go_simp; with_reducible rfl
            simp only [Act.put, List.setIfInBounds_toArray, List.set_cons_zero, List.set_cons_succ]
            refine wpAnyX_slot (i := 9) (v := ?vb9) rfl rfl (by kernel_rfl) (by kernel_rfl) (by kernel_rfl) (by kernel_rfl) (fun _ _ _ h => h) (by rfl) (fun y hSw => ?hyb9) hHeld ?restb9
            case hyb9 => (obtain ⟨q1, q2⟩ := hSw); go_simp; with_reducible rfl
            simp only [Act.put, List.setIfInBounds_toArray, List.set_cons_zero, List.set_cons_succ]
            refine wpAnyX_slot (i := 10) (v := ?vb10) rfl rfl (by kernel_rfl) (by kernel_rfl) (by kernel_rfl) (by kernel_rfl) (fun _ _ _ h => h) (by rfl) (fun y hSw => ?hyb10) hHeld ?restb10
            case hyb10 => go_simp; with_reducible rfl
            simp only [Act.put, List.setIfInBounds_toArray, List.set_cons_zero, List.set_cons_succ]
            refine wpAnyX_next (i := 11) (by kernel_rfl) rfl (fun KK hKK => ?_)
            go_simp
            rw [← HW5.out]
            refine hKK.out _ _ ⟨HAD.out _ (HB4.out.trans (HB5.out.mono HB4.out.size)), HC5.out _ HB5.out⟩ (fun hHeld => ?_)
            clear hKK KK
            refine wpAnyX_next (i := 12) (by kernel_rfl) rfl (fun KK hKK => ?_)
            refine step_append_eq (by rfl) _ _ _ _ (by rfl) _ _ _ _ hrun (by rfl) (by rfl) ?_
            refine hKK.out _ _ ⟨HAD.out _ HB6.out, HC6.out⟩ (fun hHeld => ?_)
            clear hKK KK
            refine wpAnyX_last (by kernel_rfl) rfl (by kernel_rfl) (fun KK hKK => ?_)
            go_simp
            refine hKK.out _ _ ?_
            clear hKK KK
            go_wp2
            go_roundw
            case rel => exact ⟨k + 1, by omega, by go_num, HO6, HN6, HB6⟩
            case measure => simp [intOf]; omega
          · have f0 : decide (k < M) = false := decide_eq_false hlk
            have f0' : decide ((k : Int) < (M : Int)) = false := decide_eq_false (by omega)
            have hkM : k = M := by omega
            have HO7 : Hid (encS.Own wr w.heap.size 44 u3 (spots (ts.take (i + 1)))) := Lib.hid (by rw [← HEND.out, ← hkM]; exact HO4.out)
            clear hkM
            go_wp2
            go_roundw
            case rel => exact ⟨i + 1, by omega, by go_num, HO7, HB4⟩
            case measure => simp [intOf]; omega
    · have hnL : i = n := by omega
      have e0 : decide (i < n) = false := decide_eq_false hlt
      have e0' : decide ((i : Int) < (n : Int)) = false := decide_eq_false (by omega)
      have hall : spots (ts.take i) = spots ts := spots_all (by rw [← HNL.out]; omega)
      rw [hall] at HO
      obtain ⟨A', C', hv, h1, h2, h3, h4⟩ := HO.out.rd
      have HR4 := Lib.hid h4
      have H3 := Lib.hid h3
      clear h3 h4 hnL h1 h2 hall
      subst hv
      go_wp2
      go_ret
      exact ⟨A', C', rfl, H3.out, HR4.out.mono fun x hx => trivial, HB.out⟩
end Go.Proofs.Ytnbfkihgloipiaa
