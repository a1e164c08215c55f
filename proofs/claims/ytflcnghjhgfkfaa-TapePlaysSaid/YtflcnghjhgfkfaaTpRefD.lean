/- What the document's own CutTape does, where of the next block a beginning stays. -/
import Derived.Test.YtflcnghjhgfkfaaTpRefC
namespace Go.Proofs.Ytflcnghjhgfkfaa
open Go.RowKit
open Pt (Tx)

set_option maxRecDepth 100000 in
set_option maxHeartbeats 2000000 in
theorem refCut_more (B gr : Nat) (G : Nat → Prop) (lab cap : Int) (bs : List Tx) (w : World) (h : Rt w B gr G lab cap bs) (n : Int) (m K : Nat) (hK : n.toNat = K) (hn : K < bs.length) (hl64 : bs.length ≤ 64) (h94 : ∀ s ∈ bs, 1 ≤ s.length ∧ s.length ≤ 94) (hG : ∀ k, w.heap.size ≤ k → G k) (hBw : B ≤ w.heap.size) (hm : 0 < m) :
    Calls Try.prog 17 #[.pointer (some ⟨gr, 0, none⟩), .int .i64 n, .int .i64 (m : Int)] w (RefDid (.tuple #[]) B gr G lab cap (bs.take K ++ [bs[K].take m]) w) := by
  have hs94 := h94 bs[K] (List.getElem_mem hn)
  obtain ⟨⟨v, us, hb, ht⟩, hlo⟩ := h
  have hnu : K < us.length := by rw [ht.len]; exact hn
  obtain ⟨s, hs⟩ : ∃ s, bs[K] = s := ⟨_, rfl⟩
  obtain ⟨Au, Cu, hu, hCu, -, hAu, hRu⟩ := (ht.rows K hnu hn).rd
  rw [hs] at hs94 hu hCu hAu hRu ⊢
  obtain ⟨gu, off, hAu', hgu, hcu⟩ := hRu (by omega)
  obtain ⟨Av, Cv, rfl, hCv, _⟩ := ht.val
  obtain ⟨S, hS⟩ : ∃ S, S = s.length := ⟨_, rfl⟩
  rw [← hS] at hs94 hu hCu
  obtain ⟨N, hN⟩ : ∃ N, N = bs.length := ⟨_, rfl⟩
  rw [← hN] at hn hl64 hCv
  have HM : Hid (w.heap[gr]? = some (.cells #[.int .i64 lab, .int .i64 cap, .slice Av N Cv, .bool false] 24 (0, 0))) := Lib.hid (by rw [hN]; exact hb)
  have HT : Hid (TopB w B G (.slice Av N Cv) us bs) := Lib.hid (by rw [hN]; exact ht)
  obtain ⟨bb, cur, rfl, hbb, htk⟩ : ∃ bb cur, Av = some ⟨bb, 0, none⟩ ∧ w.heap[bb]? = some (.cells cur 35 (0, 0)) ∧ cur.toList.take us.length = us := by
    rcases ht.top.2 with ⟨_, h0⟩ | ⟨g', c', cur, e, _, hg, _, _, _, htk⟩
    · omega
    · injection e with e1
      rw [Nat.mul_one] at htk
      exact ⟨_, cur, e1, hg, htk⟩
  have hcell : ∀ j u, us[j]? = some u → w.cell? ⟨bb, j, none⟩ = some u := fun j u hju => by
    have hj : j < us.length := (List.getElem?_eq_some_iff.1 hju).1
    rw [← htk, List.getElem?_take, if_pos hj, Array.getElem?_toList] at hju
    rw [heap_cell hbb, hju]
  subst hAu'
  have hcn : w.cell? ⟨bb, K, none⟩ = some (.slice (some ⟨gu, off, none⟩) S Cu) := hcell K _ (by rw [List.getElem?_eq_getElem hnu, hu])
  have c2 : w.cell? ⟨gr, 2, none⟩ = some (.slice (some ⟨bb, 0, none⟩) N Cv) := heap_cell HM.out
  have f2 : w.frozen? ⟨gr, 2, none⟩ = false := heap_frozen HM.out
  have hgr : gr < w.heap.size := heap_lt HM.out
  have hgul : gu < w.heap.size := World.block_lt_of_cell? _ _ (hcu 0 (by omega))
  have hif : (if n < 0 then (0 : Int) else if (N : Int) < n then (N : Int) else n) = (K : Int) := by split <;> (try split) <;> omega
  have e1 : (K == N) = false := by simp; omega
  have e2 : ((K : Int) == (N : Int)) = false := by simp; omega
  have HIF := Lib.hid hif
  obtain ⟨M, hM⟩ : ∃ M, M = min m S := ⟨_, rfl⟩
  have HIM : Hid ((if (m : Int) < 0 then (0 : Int) else if (S : Int) < (m : Int) then (S : Int) else (m : Int)) = (M : Int)) := Lib.hid (by split <;> (try split) <;> omega)
  have HX : Hid ((s.take m).length = M) := Lib.hid (by rw [hM, hS]; exact List.length_take)
  have m1 : M ≤ S := by omega
  have m2 : 1 ≤ M := by omega
  have m3 : M ≤ Cu := by omega
  have dM : decide (0 < (M : Int)) = true := decide_eq_true (by omega)
  clear hM
  have HUL : Hid (us.length = N) := Lib.hid (by rw [HT.out.len, hN])
  have hnews : ∀ ad, some (⟨bb, 0, none⟩ : Addr) = some ad → ∀ j u, (us.take K)[j]? = some u → w.cell? (ad.add j) = some u := fun ad had j u hju => by
    cases had
    rw [addr_add, Nat.zero_add]
    rw [List.getElem?_take] at hju
    split at hju
    · exact hcell j u hju
    · cases hju
  have hone : ∀ u ∈ us.take K, u.oneCell' = true := fun u hu' => by
    obtain ⟨i, hi, rfl⟩ := List.mem_iff_getElem.1 (List.mem_of_mem_take hu')
    obtain ⟨A', C', hv, _⟩ := (HT.out.rows i hi (by rw [← HT.out.len]; exact hi)).rd
    rw [hv]; rfl
  have HNEWS := Lib.hid hnews
  have HONE := Lib.hid hone
  have HSS := Lib.hid hS
  have HCU := Lib.hid hcu
  have HG := Lib.hid hG
  obtain ⟨i0, hi0, hz0, hz1, hz2⟩ := info_parts infoRow
  clear hb ht hif hbb htk hcell hnews hone hRu hgu hS hN hs hu hAu hG hcu h94 hK
  go_enter Try.func17, Try.ntmps17
  go_wp2_with (first
    | (go_at_call_of 30 (Value.int .i64 n); ((with_reducible refine (rcut_as n 0 (N : Int) (K : Int) w HIF.out).mono ?_)); rintro e w' ⟨rfl, rfl⟩)
    | (go_at_call_of 30 (Value.int .i64 (m : Int)); ((with_reducible refine (rcut_as (m : Int) 0 (S : Int) (M : Int) _ HIM.out).mono ?_)); rintro e w' ⟨rfl, rfl⟩)
    | (at_builtin; refine wpList_append_opt _ rfl _ _ 22 rfl B 35 i0 (.slice none 0 0) 24 Try.underlying22 hi0 hz0 hz1 hz2 rfl _ _ _ rfl (World.ownsRow_nil w B 35 1) (some ⟨bb, 0, none⟩) K Cv (us.take K) rfl (fun h => by cases h) (by rw [List.length_take, HUL.out]; omega) HNEWS.out HONE.out (by unfold maxLen; omega) (by omega) hBw ?_; intro v' w1 hv hg; rw [Nat.zero_add] at hv; obtain ⟨A1, C1, rfl⟩ := own_val hv; have HV := Lib.hid hv; have hb1 : Below w.heap.size w w1 := ⟨hg.os, hg.tape, hg.output, hg.size, fun k hk => hg.block k hk (fun e => by cases e)⟩; have HB1 := Lib.hid hb1; have g2 : w1.cell? ⟨gr, 2, none⟩ = some (.slice (some ⟨bb, 0, none⟩) N Cv) := (hb1.cell (p := ⟨gr, 2, none⟩) hgr).trans c2; have gf : w1.frozen? ⟨gr, 2, none⟩ = false := (hb1.frozen (p := ⟨gr, 2, none⟩) hgr).trans f2; clear hv hg hb1))
  have hall := Rt.took HM.out HT.out hlo (Nat.le_of_lt hnu) HV.out HB1.out
  have HR0 : Hid (RdL (w1.setCell ⟨gr, 2, none⟩ (.slice A1 K C1)) (some ⟨gu, off, none⟩) (s.take m) (fun _ => True)) := Lib.hid ?hr0
  case hr0 =>
    refine RdL.take (l := s) (fun _ => ⟨gu, off, rfl, trivial, fun j hj => ?_⟩) m
    have hgg : gu ≠ gr := fun e => by
      have h1 := HCU.out 0 (by rw [← HSS.out]; omega)
      rw [e, heap_cell HM.out] at h1
      have h2 : (#[Value.int .i64 lab, .int .i64 cap, .slice (some ⟨bb, 0, none⟩) N Cv, .bool false])[off + 0]? = some (.int .u8 (s[0].toNat : Int)) := h1
      match off, h2 with
      | 0, h2 => simp at h2
      | 1, h2 => simp at h2
      | 2, h2 => simp at h2
      | 3, h2 => simp at h2
      | _ + 4, h2 => simp at h2
    exact (World.cell?_of_block (Below.heap_setCell w1 ⟨gr, 2, none⟩ _ gu hgg)).trans ((HB1.out.cell (p := ⟨gu, off + j, none⟩) hgul).trans (HCU.out j hj))
  have hzw : w.heap.size ≤ (w1.setCell ⟨gr, 2, none⟩ (.slice A1 K C1)).heap.size := by simp [World.setCell]; exact HB1.out.size
  have HG1 : Hid (∀ k, (w1.setCell ⟨gr, 2, none⟩ (.slice A1 K C1)).heap.size ≤ k → G k) := Lib.hid fun k hk => HG.out k (Nat.le_trans hzw hk)
  have hBr : B ≤ (w1.setCell ⟨gr, 2, none⟩ (.slice A1 K C1)).heap.size := Nat.le_trans hBw hzw
  have hgrr : gr < (w1.setCell ⟨gr, 2, none⟩ (.slice A1 K C1)).heap.size := Nat.lt_of_lt_of_le hgr hzw
  generalize w1.setCell ⟨gr, 2, none⟩ (.slice A1 K C1) = wr at hall HR0 HG1 hBr hgrr hzw ⊢
  have HM1 := Lib.hid hall.1
  have HT1 := Lib.hid hall.2.1
  have HF1 := Lib.hid hall.2.2
  have a2 : wr.cell? ⟨gr, 2, none⟩ = some (.slice A1 K C1) := heap_cell hall.1
  have hUL : (us.take K).length = K := by rw [List.length_take, HUL.out]; omega
  have HUK := Lib.hid hUL
  clear hall hUL g2 gf c2 f2 HM HT HB1 HV hcn HCU
  obtain ⟨j1, hj1, hy0, hy1, hy2⟩ := info_parts infoB
  have HOWN : Hid (wr.drew.ownsRow wr.heap.size 5 1 (.slice none 0 0) 0 []) := Lib.hid (World.ownsRow_nil _ _ _ _)
  have HNEW : Hid (∀ j u, (cellsL (s.take m))[j]? = some u → wr.drew.cell? ((⟨gu, off, none⟩ : Addr).add j) = some u) := Lib.hid fun j u hu => by
    obtain ⟨hj, rfl⟩ := cellsL_some hu
    rw [addr_add]
    obtain ⟨b', o', e, _, hc⟩ := HR0.out.at_ hj
    cases e
    exact hc
  have HNE : Hid (some gr ≠ (Value.slice A1 K C1).ownBlock) := Lib.hid fun e => by
    obtain ⟨x, hx⟩ := own_blk HT1.out.top gr e.symm
    rw [HM1.out] at hx
    injection hx with hx
    injection hx with _ e2
    exact absurd e2 (by decide)
  have m5 : (M : Int) ≤ (Cu : Int) := by omega
  have m6 : (0 : Int) ≤ (M : Int) := by omega
  go_region_law (first
    | (refine step_append_lies (o := ⟨some 53, _, _, _, _, _⟩) wr.drew (by rfl) _ _ _ (by rfl) wr.heap.size 5 j1 _ 1 1 Try.underlying35 hj1 hy0 hy1 hy2 rfl (by omega) (.slice none 0 0) 0 [] (by simp [Act.eval]) HOWN.out ⟨gu, off, none⟩ M Cu (cellsL (s.take m)) (by simp [Act.eval, Act.put]) (by rw [cellsL_len, HX.out, Nat.mul_one]) HNEW.out cellsL_one (by omega) (by unfold maxLen; omega) (by omega) (by exact Nat.le_refl _) wr.heap.size (by rfl) ?_; intro ga capA wA hownA hgA hatA hltA; rw [Nat.zero_add] at hownA; have hbA : Below wr.heap.size wr wA := (⟨hgA.os, hgA.tape, hgA.output, hgA.size, fun k hk => hgA.block k hk (fun e => by cases e)⟩); have HOA := Lib.hid hownA; have HBA := Lib.hid hbA; have a2A : wA.cell? ⟨gr, 2, none⟩ = some (.slice A1 K C1) := (hbA.cell (p := ⟨gr, 2, none⟩) hgrr).trans a2; have hgA' : gr < wA.heap.size := (Nat.lt_of_lt_of_le hgrr hbA.size); clear hownA hgA hbA hatA)
    | (refine step_append_lies (o := ⟨some 55, _, _, _, _, _⟩) _ (by rfl) _ _ _ (by rfl) B 35 i0 _ 1 24 Try.underlying22 hi0 hz0 hz1 hz2 rfl (by omega) (.slice A1 K C1) K (us.take K) (by rfl) (by have := (HT1.out.old (HBA.out.alloc HBA.out.size (.cells #[.slice (some ⟨ga, 0, none⟩) M capA] 35))).top; rw [HUK.out] at this; exact this) ⟨wA.heap.size, 0, none⟩ 1 1 [.slice (some ⟨ga, 0, none⟩) M capA] (by rfl) (by rfl) (oneCellT wA _ _) (oneTop _ _ _) (by omega) (by unfold maxLen; omega) (by omega) (by have := HBA.out.size; simp; omega) (wA.heap.size + 1) (by simp) ?_; intro g2 cap2 wB hownB hgB hatB hltB; have hall := Rt.pushed HM1.out HT1.out hlo HBA.out (own_row HOA.out HX.out hBr) (fun k hk => by cases hk; exact own_base HOA.out) HG1.out (by rw [HUK.out]; exact hownB) hgB; have cB : wB.cell? ⟨gr, 2, none⟩ = some (.slice A1 K C1) := (World.cell?_of_block hall.1).trans a2; have fB : wB.frozen? ⟨gr, 2, none⟩ = false := heap_frozen (hall.1.trans HM1.out); have HALL := Lib.hid hall.2; clear hall hownB hgB hatB hltB))
  all_goals
    go_wp2
    go_end0
    exact ⟨rfl, HALL.out.1, HF1.out.trans HALL.out.2⟩
theorem refCut_any (B gr : Nat) (G : Nat → Prop) (lab cap : Int) (bs : List Tx) (w : World) (h : Rt w B gr G lab cap bs) (n m : Int) (hl64 : bs.length ≤ 64) (h94 : ∀ s ∈ bs, 1 ≤ s.length ∧ s.length ≤ 94) (hG : ∀ k, w.heap.size ≤ k → G k) (hBw : B ≤ w.heap.size) :
    Calls Try.prog 17 #[.pointer (some ⟨gr, 0, none⟩), .int .i64 n, .int .i64 m] w (RefDid (.tuple #[]) B gr G lab cap (Tp.cut bs n m) w) := by
  unfold Tp.cut
  rcases Nat.lt_or_ge n.toNat bs.length with hn | hn
  · rw [List.getElem?_eq_getElem hn]
    by_cases hm : 0 < m
    · obtain ⟨M, rfl⟩ := Int.eq_ofNat_of_zero_le (Int.le_of_lt hm)
      simp only [if_pos hm, Int.toNat_natCast]
      exact refCut_more B gr G lab cap bs w h n M n.toNat rfl hn hl64 h94 hG hBw (by omega)
    · simp only [if_neg hm, List.append_nil]
      exact refCut_gone B gr G lab cap bs w h n m n.toNat rfl hn hl64 h94 hG hBw (by omega)
  · rw [List.getElem?_eq_none hn]
    exact refCut_none B gr G lab cap bs w h n m hn
end Go.Proofs.Ytflcnghjhgfkfaa
