/- What the document's own Rot does. -/
import Derived.Test.YtflcnghjhgfkfaaTpRefA
import Derived.Test.YtflcnghjhgfkfaaTpRot
namespace Go.Proofs.Ytflcnghjhgfkfaa
open Go.RowKit
open Pt (Tx)

/-- a byte of an own row is turned -/
theorem OwnL.set {w : World} {B g L C k : Nat} {s : Tx} (h : OwnL w B (.slice (some ⟨g, 0, none⟩) L C) s) (hk : k < s.length) (x : UInt8) : OwnL (w.setCell ⟨g, k, none⟩ (.int .u8 (x.toNat : Int))) B (.slice (some ⟨g, 0, none⟩) L C) (s.set k x) := by
  refine ⟨by simp [cellsL_len], ?_⟩
  rcases h.2 with ⟨e, _⟩ | ⟨g', cap, cur, e, hb, hg, hnc, hcm, hs, ht⟩
  · cases e
  · cases e
    refine .inr ⟨g, C, cur.setIfInBounds k (.int .u8 (x.toNat : Int)), by simp, hb, heap_set hg _, by simpa using hnc, hcm, by simpa using hs, ?_⟩
    rw [Nat.mul_one] at ht ⊢
    rw [List.length_set]
    apply List.ext_getElem?
    intro j
    have hj := congrArg (·[j]?) ht
    simp only [List.getElem?_take, Array.getElem?_toList] at hj
    simp only [List.getElem?_take, Array.getElem?_toList, Array.getElem?_setIfInBounds]
    by_cases hjl : j < s.length
    · rw [if_pos hjl] at hj ⊢
      rw [cellsL_get (by simpa using hjl)]
      rw [cellsL_get hjl] at hj
      by_cases e : k = j
      · subst e
        rw [if_pos rfl, if_pos (by omega)]
        simp
      · rw [if_neg e, hj]
        simp [List.getElem_set_ne e]
    · rw [if_neg hjl, List.getElem?_eq_none (by rw [cellsL_len, List.length_set]; omega)]
/-- a byte of a row is turned -/
theorem TopB.turned {w : World} {B : Nat} {G : Nat → Prop} {v : Value} {us : List Value} {bs : List Tx} (h : TopB w B G v us bs) {n : Nat} (hn : n < us.length) (hn' : n < bs.length) {g L C k : Nat} (hu : us[n] = .slice (some ⟨g, 0, none⟩) L C) {s : Tx} (hs : bs[n] = s) (hk : k < s.length) (x : UInt8) :
    TopB (w.setCell ⟨g, k, none⟩ (.int .u8 (x.toNat : Int))) B G v us (bs.set n (s.set k x)) := by
  subst hs
  have hK := Kp.store w g k (.int .u8 (x.toNat : Int))
  have hr := h.rows n hn hn'
  have hown : us[n].ownBlock = some g := by rw [hu]; rfl
  refine ⟨own_of h.top fun q e => hK.block q (h.top.lt q e).2 fun hq => ?_, by rw [List.length_set, h.len], fun i hi hi' => ?_, h.gs, h.inj⟩
  · obtain ⟨c, hc⟩ := own_blk h.top q e
    obtain ⟨c', hc'⟩ := hr.block g hown
    rw [hq, hc'] at hc
    injection hc with hc
    injection hc with _ e2
    exact absurd e2 (by decide)
  · by_cases e : n = i
    · subst e
      rw [List.getElem_set_self, hu]
      rw [hu] at hr
      exact hr.set hk x
    · rw [List.getElem_set_ne e]
      rw [List.length_set] at hi'
      exact (h.rows i hi hi').kp hK fun q hq hq' => e (h.inj n i hn hi g hown (by rw [← hq']; exact hq))
theorem refRot_no (B gr : Nat) (G : Nat → Prop) (lab cap : Int) (bs : List Tx) (w : World) (h : Rt w B gr G lab cap bs) (n : Int) (hn : n < 0 ∨ (bs.length : Int) ≤ n) (A : Option Addr) (L C : Nat) :
    Calls Try.prog 19 #[.pointer (some ⟨gr, 0, none⟩), .int .i64 n, .slice A L C] w fun e w' => e = .returned (.int .i64 5) ∧ w = w' := by
  obtain ⟨⟨v, us, hb, ht⟩, hlo⟩ := h
  obtain ⟨Av, Cv, rfl, _⟩ := ht.val
  have c2 : w.cell? ⟨gr, 2, none⟩ = some (.slice Av bs.length Cv) := heap_cell hb
  clear hb ht
  by_cases h0 : n < 0
  · have d0 : decide (n < 0) = true := decide_eq_true h0
    go_enter Try.func19, Try.ntmps19
    go_wp2
    go_ret
    exact ⟨rfl, rfl⟩
  · have d0 : decide (n < 0) = false := decide_eq_false h0
    have d1 : decide ((bs.length : Int) ≤ n) = true := decide_eq_true (by omega)
    go_enter Try.func19, Try.ntmps19
    go_wp2
    go_ret
    exact ⟨rfl, rfl⟩
set_option maxRecDepth 100000 in
set_option maxHeartbeats 2000000 in
theorem refRot_yes (B gr : Nat) (G : Nat → Prop) (lab cap : Int) (bs : List Tx) (w : World) (h : Rt w B gr G lab cap bs) (n : Nat) (hn : n < bs.length) (A : Option Addr) (t : Tx) (L C : Nat) (hL : t.length = L) (hl : L ≤ 1000000) (hl64 : bs.length ≤ 64) (hr : RdL w A t (· < B)) (hBw : B ≤ w.heap.size) (h94 : ∀ s ∈ bs, 1 ≤ s.length ∧ s.length ≤ 94) :
    Calls Try.prog 19 #[.pointer (some ⟨gr, 0, none⟩), .int .i64 (n : Int), .slice A L C] w (RefDid (.int .i64 0) B gr G lab cap (bs.set n (Tp.rot bs[n] t)) w) := by
  have hs94 := h94 bs[n] (List.getElem_mem hn)
  obtain ⟨⟨v, us, hb, ht⟩, hlo⟩ := h
  have hnu : n < us.length := by rw [ht.len]; exact hn
  obtain ⟨s, hs⟩ : ∃ s, bs[n] = s := ⟨_, rfl⟩
  obtain ⟨Au, Cu, hu, hCu, -, hAu, hRu⟩ := (ht.rows n hnu hn).rd
  rw [hs] at hs94 hu hCu hAu hRu ⊢
  obtain ⟨gu, off, hAu', hgu, hcu⟩ := hRu (by omega)
  obtain ⟨Av, Cv, rfl, _⟩ := ht.val
  have hgb : us[n].ownBlock = some gu := hgu.2
  have ho0 : off = 0 := by
    rcases (ht.rows n hnu hn).2 with ⟨e, _⟩ | ⟨g', c', cur, e, _⟩
    · rw [e] at hgb; cases hgb
    · have e1 := e.symm.trans hu
      injection e1 with e1
      rw [hAu'] at e1
      injection e1 with e1
      injection e1 with _ e2
      exact e2.symm
  subst hAu'; subst ho0
  obtain ⟨S, hS⟩ : ∃ S, S = s.length := ⟨_, rfl⟩
  rw [← hS] at hs94 hu
  have HU := Lib.hid hu
  have HSL := Lib.hid hS
  have HTL := Lib.hid hL
  have HS := Lib.hid hs
  obtain ⟨N, hN⟩ : ∃ N, N = bs.length := ⟨_, rfl⟩
  have hnN : n < N := by omega
  have hN64 : N ≤ 64 := by omega
  have HN := Lib.hid hN
  have HR := Lib.hid hr
  have HM : Hid (w.heap[gr]? = some (.cells #[.int .i64 lab, .int .i64 cap, .slice Av N Cv, .bool false] 24 (0, 0))) := Lib.hid (by rw [hN]; exact hb)
  have HT : Hid (TopB w B G (.slice Av N Cv) us bs) := Lib.hid (by rw [hN]; exact ht)
  have HTP : Hid (∃ bb, Av = some ⟨bb, 0, none⟩ ∧ ∀ w', TopB w' B G (.slice Av N Cv) us (bs.set n []) ∨ True) := Lib.hid (by
    rcases ht.top.2 with ⟨_, h0⟩ | ⟨g', c', cur, e, _⟩
    · omega
    · injection e with e1
      exact ⟨_, e1, fun _ => .inr trivial⟩)
  obtain ⟨bb, rfl, _⟩ := HTP.out
  have c2 : w.cell? ⟨gr, 2, none⟩ = some (.slice (some ⟨bb, 0, none⟩) N Cv) := heap_cell HM.out
  clear hb ht hcu hRu hgu hS hL hs hN hr hu HTP hCu hAu
  have dn0 : decide ((n : Int) < 0) = false := decide_eq_false (by omega)
  have dn1 : decide (N ≤ n) = false := decide_eq_false (by omega)
  go_enter Try.func19, Try.ntmps19
  go_wp2
  go_loopw [7] (fun i wr => ∃ k : Nat, k ≤ S ∧ k ≤ L ∧ i = .int .i64 (k : Int) ∧ Hid (TopB wr B G (.slice (some ⟨bb, 0, none⟩) N Cv) us (bs.set n (Tp.rot s (t.take k)))) ∧ Hid (wr.heap[gr]? = some (.cells #[.int .i64 lab, .int .i64 cap, .slice (some ⟨bb, 0, none⟩) N Cv, .bool false] 24 (0, 0))) ∧ Hid (RefT B G w wr)) (fun i _ => S - (intOf i).toNat)
  case atStart => exact ⟨0, by omega, by omega, rfl, Lib.hid (by rw [List.take_zero, Tp.rot_nil, ← HS.out, List.set_getElem_self]; exact HT.out), HM, Lib.hid (RefT.refl _ _ _)⟩
  case round =>
    clear HT HM
    obtain ⟨k, hk, hkL, rfl, HT, HM, HF⟩ := hrel
    have q2 : wr.cell? ⟨gr, 2, none⟩ = some (.slice (some ⟨bb, 0, none⟩) N Cv) := heap_cell HM.out
    have hcn : wr.cell? ⟨bb, n, none⟩ = some (.slice (some ⟨gu, 0, none⟩) S Cu) := by
      rcases HT.out.top.2 with ⟨e, _⟩ | ⟨g', c', cur, e, _, hg, _, _, _, htk⟩
      · cases e
      · cases e
        have hx : us[n]? = some (.slice (some ⟨gu, 0, none⟩) S Cu) := by rw [List.getElem?_eq_getElem hnu, HU.out]
        rw [← htk, List.getElem?_take, if_pos (by omega), Array.getElem?_toList] at hx
        rw [heap_cell hg, hx]
    by_cases hkL' : k < L
    · have d0 : decide (k < L) = true := decide_eq_true hkL'
      by_cases hkS : k < S
      · have d1 : decide (k < S) = true := decide_eq_true hkS
        have ks : k < s.length := by rw [← HSL.out]; exact hkS
        have kt : k < t.length := by rw [HTL.out]; exact hkL'
        have hset : n < (bs.set n (Tp.rot s (t.take k))).length := by rw [List.length_set]; exact hn
        obtain ⟨b, off, rfl, hbl, ct⟩ := (HR.out.below (HF.out.below hBw)).at_ kt
        have hrow := HT.out.rows n hnu hset
        rw [List.getElem_set_self, HU.out] at hrow
        have cb : wr.cell? ⟨gu, k, none⟩ = some (.int .u8 (s[k].toNat : Int)) := by
          obtain ⟨A', C', e, _, _, _, hrd⟩ := hrow.rd
          cases e
          obtain ⟨b', o', e, _, hc⟩ := hrd.at_ (j := k) (by rw [Tp.rot_len]; exact ks)
          cases e
          rw [Nat.zero_add, Tp.rot_keep s t k ks] at hc
          exact hc
        obtain ⟨cg, hcg⟩ := hrow.block gu rfl
        have fb : wr.frozen? ⟨gu, k, none⟩ = false := heap_frozen hcg
        have hx := xor_b s[k] t[k]
        have hnew := HT.out.turned hnu hset HU.out (List.getElem_set_self _) (k := k) (by rw [Tp.rot_len]; exact ks) (s[k] ^^^ t[k])
        rw [List.set_set, Tp.rot_step s t k ks kt] at hnew
        have HNEW := Lib.hid hnew
        have hgg : gu ≠ gr := fun e => by
          rw [e, HM.out] at hcg
          injection hcg with hcg
          injection hcg with _ e2
          exact absurd e2 (by decide)
        have HGG : Hid (G gu) := Lib.hid (HT.out.gs n hnu gu (by rw [HU.out]; rfl))
        have HGB : Hid (B ≤ gu) := Lib.hid (hrow.lo gu rfl)
        clear hnew hrow hcg
        generalize s[k] = x at *
        generalize t[k] = y at *
        go_wp2
        refine wp_region_still_tail 24 (by kernel_rfl) (by kernel_rfl) ?_
        simp only [List.take_succ_cons, List.take_zero, List.drop_succ_cons, List.drop_zero]
        repeat (first | still_step)
        refine wpStill_nil ?_
        change wpList _ _ _ _ _ wr.drew
        go_wp2
        go_roundw
        case rel =>
          refine ⟨k + 1, by omega, by omega, by go_num, Lib.hid (HNEW.out.old ⟨rfl, rfl, rfl, Nat.le_refl _, fun _ _ => rfl⟩), Lib.hid ?_, Lib.hid ?_⟩
          · exact (Below.heap_setCell wr ⟨gu, k, none⟩ _ gr (show gr ≠ gu from fun e => hgg e.symm)).trans HM.out
          · exact HF.out.trans ((Kp.store wr gu k _).drew.mono fun q hq => by rw [hq]; exact ⟨HGB.out, .inr (.inr HGG.out)⟩)
        case measure => simp [intOf]; omega
      · have d1 : decide (k < S) = false := decide_eq_false hkS
        have HQ : Hid (Tp.rot s (t.take k) = Tp.rot s t) := Lib.hid (Tp.rot_full s t k (.inl (by rw [← HSL.out]; omega)))
        go_wp2
        go_ret
        refine ⟨rfl, ⟨⟨_, us, HM.out, ?_⟩, hlo⟩, HF.out⟩
        have := HT.out; rw [HQ.out] at this; exact this
    · have d0 : decide (k < L) = false := decide_eq_false hkL'
      have HQ : Hid (Tp.rot s (t.take k) = Tp.rot s t) := Lib.hid (Tp.rot_full s t k (.inr (by rw [HTL.out]; omega)))
      go_wp2
      go_ret
      refine ⟨rfl, ⟨⟨_, us, HM.out, ?_⟩, hlo⟩, HF.out⟩
      have := HT.out; rw [HQ.out] at this; exact this
end Go.Proofs.Ytflcnghjhgfkfaa
