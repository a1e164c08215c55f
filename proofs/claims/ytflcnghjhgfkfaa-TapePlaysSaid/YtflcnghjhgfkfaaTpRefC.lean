/- What the document's own CutTape does. -/
import Derived.Test.YtflcnghjhgfkfaaTpRefA
import Derived.Test.YtflcnghjhgfkfaaTpRots
namespace Go.Proofs.Ytflcnghjhgfkfaa
open Go.RowKit
open Pt (Tx)

theorem rcut_as (n lo hi r : Int) (w : World) (h : (if n < lo then lo else if hi < n then hi else n) = r) :
    Calls Try.prog 30 #[.int .i64 n, .int .i64 lo, .int .i64 hi] w fun e w' => e = .returned (.int .i64 r) ∧ w = w' := by
  by_cases h1 : n < lo
  · rw [if_pos h1] at h
    subst h
    have d1 : decide (n < lo) = true := decide_eq_true h1
    go_enter Try.func30, Try.ntmps30
    go_wp2
    go_ret
    exact ⟨rfl, rfl⟩
  · rw [if_neg h1] at h
    have d1 : decide (n < lo) = false := decide_eq_false h1
    by_cases h2 : hi < n
    · rw [if_pos h2] at h
      subst h
      have d2 : decide (hi < n) = true := decide_eq_true h2
      go_enter Try.func30, Try.ntmps30
      go_wp2
      go_ret
      exact ⟨rfl, rfl⟩
    · rw [if_neg h2] at h
      subst h
      have d2 : decide (hi < n) = false := decide_eq_false h2
      go_enter Try.func30, Try.ntmps30
      go_wp2
      go_ret
      exact ⟨rfl, rfl⟩
/-- the first rows alone, in a new slice -/
theorem TopB.took {w w' : World} {B : Nat} {G : Nat → Prop} {v v' : Value} {us : List Value} {bs : List Tx} (h : TopB w B G v us bs) {K : Nat} (hK : K ≤ us.length) (ho : w'.ownsRow B 35 1 v' K (us.take K)) (hw : Below w.heap.size w w') : TopB w' B G v' (us.take K) (bs.take K) := by
  have hl : (us.take K).length = K := by simp; omega
  refine ⟨by rw [hl]; exact ho, by simp [h.len], fun i hi hi' => ?_, fun i hi k e => ?_, fun i j hi hj k e e' => ?_⟩
  · rw [hl] at hi
    rw [List.getElem_take, List.getElem_take]
    have hr := h.rows i (by omega) (by rw [← h.len]; omega)
    exact hr.of_block fun k e => hw.block k (hr.lt k e)
  · rw [hl] at hi
    rw [List.getElem_take] at e
    exact h.gs i (by omega) k e
  · rw [hl] at hi hj
    rw [List.getElem_take] at e e'
    exact h.inj i j (by omega) (by omega) k e e'
theorem Rt.took {w w1 : World} {B gr : Nat} {G : Nat → Prop} {lab cap : Int} {bs : List Tx} {v v' : Value} {us : List Value} {K : Nat} (hM : w.heap[gr]? = some (.cells #[.int .i64 lab, .int .i64 cap, v, .bool false] 24 (0, 0))) (hT : TopB w B G v us bs) (hlo : B ≤ gr) (hK : K ≤ us.length) (ho : w1.ownsRow B 35 1 v' K (us.take K)) (hw : Below w.heap.size w w1) :
    (w1.setCell ⟨gr, 2, none⟩ v').heap[gr]? = some (.cells #[.int .i64 lab, .int .i64 cap, v', .bool false] 24 (0, 0)) ∧ TopB (w1.setCell ⟨gr, 2, none⟩ v') B G v' (us.take K) (bs.take K) ∧ RefT B G w (w1.setCell ⟨gr, 2, none⟩ v') := by
  have e := (hw.block gr (heap_lt hM)).trans hM
  refine ⟨by rw [heap_set e]; rfl, (hT.took hK ho hw).kpT (Kp.store _ gr 2 _) (fun x c hx hc => ?_) (fun x c hx hc => ?_), ?_⟩
  · rw [hx, e] at hc
    injection hc with hc
    injection hc with _ e2
    exact absurd e2 (by decide)
  · rw [hx, e] at hc
    injection hc with hc
    injection hc with _ e2
    exact absurd e2 (by decide)
  · refine (RefT.of_below hw).trans ((Kp.store w1 gr 2 v').mono fun k hk => ?_)
    rw [hk]
    exact ⟨hlo, .inr (.inl ⟨_, e⟩)⟩
theorem refCut_none (B gr : Nat) (G : Nat → Prop) (lab cap : Int) (bs : List Tx) (w : World) (h : Rt w B gr G lab cap bs) (n m : Int) (hn : bs.length ≤ n.toNat) :
    Calls Try.prog 17 #[.pointer (some ⟨gr, 0, none⟩), .int .i64 n, .int .i64 m] w (RefDid (.tuple #[]) B gr G lab cap bs w) := by
  have HH := Lib.hid h
  obtain ⟨⟨v, us, hb, ht⟩, hlo⟩ := h
  obtain ⟨Av, Cv, rfl, _⟩ := ht.val
  have c2 : w.cell? ⟨gr, 2, none⟩ = some (.slice Av bs.length Cv) := heap_cell hb
  have hif : (if n < 0 then (0 : Int) else if (bs.length : Int) < n then (bs.length : Int) else n) = (bs.length : Int) := by split <;> (try split) <;> omega
  have HIF := Lib.hid hif
  clear hb ht hif hn
  go_enter Try.func17, Try.ntmps17
  go_wp2_with (go_at_call 30; refine (rcut_as n 0 _ _ w HIF.out).mono ?_; rintro e w' ⟨rfl, rfl⟩)
  go_end0
  exact ⟨rfl, HH.out, RefT.refl _ _ _⟩
set_option maxRecDepth 100000 in
set_option maxHeartbeats 400000 in
theorem refCut_gone (B gr : Nat) (G : Nat → Prop) (lab cap : Int) (bs : List Tx) (w : World) (h : Rt w B gr G lab cap bs) (n m : Int) (K : Nat) (hK : n.toNat = K) (hn : K < bs.length) (hl64 : bs.length ≤ 64) (h94 : ∀ s ∈ bs, 1 ≤ s.length ∧ s.length ≤ 94) (hG : ∀ k, w.heap.size ≤ k → G k) (hBw : B ≤ w.heap.size) (hm : m ≤ 0) :
    Calls Try.prog 17 #[.pointer (some ⟨gr, 0, none⟩), .int .i64 n, .int .i64 m] w (RefDid (.tuple #[]) B gr G lab cap (bs.take K) w) := by
  have hs94 := h94 bs[K] (List.getElem_mem hn)
  obtain ⟨⟨v, us, hb, ht⟩, hlo⟩ := h
  have hnu : K < us.length := by rw [ht.len]; exact hn
  obtain ⟨s, hs⟩ : ∃ s, bs[K] = s := ⟨_, rfl⟩
  obtain ⟨Au, Cu, hu, hCu, -, hAu, hRu⟩ := (ht.rows K hnu hn).rd
  rw [hs] at hs94 hu hCu hAu hRu
  obtain ⟨gu, off, hAu', hgu, hcu⟩ := hRu (by omega)
  obtain ⟨Av, Cv, rfl, hCv, _⟩ := ht.val
  obtain ⟨S, hS⟩ : ∃ S, S = s.length := ⟨_, rfl⟩
  rw [← hS] at hs94 hu hCu
  obtain ⟨N, hN⟩ : ∃ N, N = bs.length := ⟨_, rfl⟩
  rw [← hN] at hn hl64 hCv
  have HM : Hid (w.heap[gr]? = some (.cells #[.int .i64 lab, .int .i64 cap, .slice Av N Cv, .bool false] 24 (0, 0))) := Lib.hid (by rw [hN]; exact hb)
  have HT : Hid (TopB w B G (.slice Av N Cv) us bs) := Lib.hid (by rw [hN]; exact ht)
  obtain ⟨bb, cur, rfl, hbb, htk⟩ : ∃ bb cur, Av = some ⟨bb, 0, none⟩ ∧ w.heap[bb]? = some (.cells cur 35 (0, 0)) ∧ cur.toList.take us.length = us := by
    rcases ht.top.2 with ⟨_, h0⟩ | ⟨g', c', cur, e, _, hg, _, _, _, htk⟩
    · omega
    · injection e with e1
      rw [Nat.mul_one] at htk
      exact ⟨_, cur, e1, hg, htk⟩
  have hcell : ∀ j u, us[j]? = some u → w.cell? ⟨bb, j, none⟩ = some u := fun j u hju => by
    have hj : j < us.length := (List.getElem?_eq_some_iff.1 hju).1
    rw [← htk, List.getElem?_take, if_pos hj, Array.getElem?_toList] at hju
    rw [heap_cell hbb, hju]
  subst hAu'
  have hcn : w.cell? ⟨bb, K, none⟩ = some (.slice (some ⟨gu, off, none⟩) S Cu) := hcell K _ (by rw [List.getElem?_eq_getElem hnu, hu])
  have c2 : w.cell? ⟨gr, 2, none⟩ = some (.slice (some ⟨bb, 0, none⟩) N Cv) := heap_cell HM.out
  have f2 : w.frozen? ⟨gr, 2, none⟩ = false := heap_frozen HM.out
  have hgr : gr < w.heap.size := heap_lt HM.out
  have hgul : gu < w.heap.size := World.block_lt_of_cell? _ _ (hcu 0 (by omega))
  have hif : (if n < 0 then (0 : Int) else if (N : Int) < n then (N : Int) else n) = (K : Int) := by split <;> (try split) <;> omega
  have e1 : (K == N) = false := by simp; omega
  have e2 : ((K : Int) == (N : Int)) = false := by simp; omega
  have HIF := Lib.hid hif
  have HIM : Hid ((if m < 0 then (0 : Int) else if (S : Int) < m then (S : Int) else m) = 0) := Lib.hid (by split <;> (try split) <;> omega)
  have HUL : Hid (us.length = N) := Lib.hid (by rw [HT.out.len, hN])
  have hnews : ∀ ad, some (⟨bb, 0, none⟩ : Addr) = some ad → ∀ j u, (us.take K)[j]? = some u → w.cell? (ad.add j) = some u := fun ad had j u hju => by
    cases had
    rw [addr_add, Nat.zero_add]
    rw [List.getElem?_take] at hju
    split at hju
    · exact hcell j u hju
    · cases hju
  have hone : ∀ u ∈ us.take K, u.oneCell' = true := fun u hu' => by
    obtain ⟨i, hi, rfl⟩ := List.mem_iff_getElem.1 (List.mem_of_mem_take hu')
    obtain ⟨A', C', hv, _⟩ := (HT.out.rows i hi (by rw [← HT.out.len]; exact hi)).rd
    rw [hv]; rfl
  have HNEWS := Lib.hid hnews
  have HONE := Lib.hid hone
  have HSS := Lib.hid hS
  have HCU := Lib.hid hcu
  have HG := Lib.hid hG
  obtain ⟨i0, hi0, hz0, hz1, hz2⟩ := info_parts infoRow
  clear hb ht hif hbb htk hcell hnews hone hRu hgu hS hN hs hu hAu hG hcu h94 hK
  go_enter Try.func17, Try.ntmps17
  go_wp2_with (first
    | (go_at_call_of 30 (Value.int .i64 n); ((with_reducible refine (rcut_as n 0 (N : Int) (K : Int) w HIF.out).mono ?_)); rintro e w' ⟨rfl, rfl⟩)
    | (go_at_call_of 30 (Value.int .i64 m); ((with_reducible refine (rcut_as m 0 (S : Int) 0 _ HIM.out).mono ?_)); rintro e w' ⟨rfl, rfl⟩)
    | (at_builtin; refine wpList_append_opt _ rfl _ _ 22 rfl B 35 i0 (.slice none 0 0) 24 Try.underlying22 hi0 hz0 hz1 hz2 rfl _ _ _ rfl (World.ownsRow_nil w B 35 1) (some ⟨bb, 0, none⟩) K Cv (us.take K) rfl (fun h => by cases h) (by rw [List.length_take, HUL.out]; omega) HNEWS.out HONE.out (by unfold maxLen; omega) (by omega) hBw ?_; intro v' w1 hv hg; rw [Nat.zero_add] at hv; obtain ⟨A1, C1, rfl⟩ := own_val hv; have HV := Lib.hid hv; have hb1 : Below w.heap.size w w1 := ⟨hg.os, hg.tape, hg.output, hg.size, fun k hk => hg.block k hk (fun e => by cases e)⟩; have HB1 := Lib.hid hb1; have g2 : w1.cell? ⟨gr, 2, none⟩ = some (.slice (some ⟨bb, 0, none⟩) N Cv) := (hb1.cell (p := ⟨gr, 2, none⟩) hgr).trans c2; have gf : w1.frozen? ⟨gr, 2, none⟩ = false := (hb1.frozen (p := ⟨gr, 2, none⟩) hgr).trans f2; clear hv hg hb1))
  go_end0
  have hall := Rt.took HM.out HT.out hlo (Nat.le_of_lt hnu) HV.out HB1.out
  exact ⟨rfl, ⟨⟨_, _, hall.1, hall.2.1⟩, hlo⟩, hall.2.2⟩
end Go.Proofs.Ytflcnghjhgfkfaa
