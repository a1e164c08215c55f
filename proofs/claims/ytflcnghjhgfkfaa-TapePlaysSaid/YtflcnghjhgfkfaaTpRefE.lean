/- What the document's own CopyTape makes. -/
import Derived.Test.YtflcnghjhgfkfaaTpRefA
import Derived.Test.YtflcnghjhgfkfaaTpRots
namespace Go.Proofs.Ytflcnghjhgfkfaa
open Go.RowKit
open Pt (Tx)

/-- what CopyTape answers: all in new memory -/
def CopyAns (lab cap : Int) (lost : Bool) (bs : List Tx) (w : World) (e : Ending) (w' : World) : Prop :=
  ∃ A C us, e = .returned (.agg #[.int .i64 lab, .int .i64 cap, .slice A bs.length C, .bool lost]) ∧ TopB w' w.heap.size (fun k => w.heap.size ≤ k) (.slice A bs.length C) us bs ∧ Below w.heap.size w w'
set_option maxRecDepth 100000 in
set_option maxHeartbeats 2000000 in
theorem copyTape_any (lab cap : Int) (A : Option Addr) (bs : List Tx) (n C : Nat) (lost : Bool) (G : Nat → Prop) (w : World) (hn : bs.length = n) (hr : RdB w A bs G) (hl : n ≤ 1000) (hs : ∀ s ∈ bs, s.length ≤ 1000) :
    Calls Try.prog 10 #[.agg #[.int .i64 lab, .int .i64 cap, .slice A n C, .bool lost]] w (CopyAns lab cap lost bs w) := by
  have HN := Lib.hid hn
  have HR := Lib.hid hr
  have HSL := Lib.hid hs
  clear hn hr hs
  go_enter Try.func10, Try.ntmps10
  go_wp2
  have hb2 : Below w.heap.size w ((w.alloc (.cells #[.int .i64 lab, .int .i64 cap, .slice A n C, .bool lost] 24)).alloc (.cells #[.int .i64 0, .int .i64 0, .slice none 0 0, .bool false] 24)) := ((Below.refl _ _).alloc (Nat.le_refl _) _).alloc (by simp) _
  have hx1 : ((w.alloc (.cells #[.int .i64 lab, .int .i64 cap, .slice A n C, .bool lost] 24)).alloc (.cells #[.int .i64 0, .int .i64 0, .slice none 0 0, .bool false] 24)).heap[w.heap.size]? = some (.cells #[.int .i64 lab, .int .i64 cap, .slice A n C, .bool lost] 24 (0, 0)) := (Below.heap_alloc _ _ _ (by simp)).trans (Go.Deep.blk_alloc_new _ _)
  have hx2 : ((w.alloc (.cells #[.int .i64 lab, .int .i64 cap, .slice A n C, .bool lost] 24)).alloc (.cells #[.int .i64 0, .int .i64 0, .slice none 0 0, .bool false] 24)).heap[w.heap.size + 1]? = some (.cells #[.int .i64 0, .int .i64 0, .slice none 0 0, .bool false] 24 (0, 0)) := alloc_at2 _ _ _
  generalize (w.alloc (.cells #[.int .i64 lab, .int .i64 cap, .slice A n C, .bool lost] 24)).alloc (.cells #[.int .i64 0, .int .i64 0, .slice none 0 0, .bool false] 24) = w2 at hb2 hx1 hx2 ⊢
  have HB2 := Lib.hid hb2
  have HX1 := Lib.hid hx1
  have HX2 := Lib.hid hx2
  clear hb2 hx1 hx2
  go_loopw [3, 4] (fun vl vi wr => ∃ (k : Nat) (us : List Value), k ≤ n ∧ vi = .int .i64 (k : Int) ∧ Hid (TopB wr w.heap.size (fun q => w.heap.size ≤ q) vl us (bs.take k)) ∧ Hid (wr.heap[w.heap.size]? = some (.cells #[.int .i64 lab, .int .i64 cap, .slice A n C, .bool lost] 24 (0, 0))) ∧ Hid (wr.heap[w.heap.size + 1]? = some (.cells #[.int .i64 0, .int .i64 0, .slice none 0 0, .bool false] 24 (0, 0))) ∧ Hid (Below w.heap.size w wr)) (fun _ vi _ => n - (intOf vi).toNat)
  case atStart => exact ⟨0, [], by omega, rfl, Lib.hid (by rw [List.take_zero]; exact TopB.nil _ _ _), HX1, HX2, HB2⟩
  case round =>
    clear HB2 HX1 HX2
    obtain ⟨k, us, hk, rfl, HP, HX1, HX2, HB2⟩ := hrel
    have hkl : (bs.take k).length = k := by rw [List.length_take, HN.out]; omega
    obtain ⟨Av, Cv, hv, _⟩ := HP.out.val
    rw [hkl] at hv
    subst hv
    have c2 : wr.cell? ⟨w.heap.size, 2, none⟩ = some (.slice A n C) := heap_cell HX1.out
    have hz0 : w.heap.size < wr.heap.size := heap_lt HX1.out
    have hz1 : w.heap.size + 1 < wr.heap.size := heap_lt HX2.out
    by_cases hlt : k < n
    · have kb : k < bs.length := by rw [HN.out]; exact hlt
      obtain ⟨b, off, A', C', rfl, _, hc, _, hA', hR'⟩ := (HR.out.old HB2.out).at_ kb
      have hs' := HSL.out bs[k] (List.getElem_mem kb)
      have htk : bs.take k ++ [bs[k]] = bs.take (k + 1) := List.take_append_getElem kb
      obtain ⟨s, hs⟩ : ∃ s, s = bs[k] := ⟨_, rfl⟩
      rw [← hs] at hc hA' hR' hs' htk
      obtain ⟨S, hS⟩ : ∃ S, S = s.length := ⟨_, rfl⟩
      rw [← hS] at hc hA' hs'
      have HA' := Lib.hid hA'
      have HR' := Lib.hid hR'
      have HS := Lib.hid hS
      have HTK := Lib.hid htk
      have HUL : Hid (us.length = k) := Lib.hid (by rw [HP.out.len, hkl])
      have HNE0 : Hid (∀ x, x = w.heap.size ∨ x = w.heap.size + 1 → some x ≠ (Value.slice Av k Cv).ownBlock) := Lib.hid fun x hx e => by
        obtain ⟨c, hc⟩ := own_blk HP.out.top x e.symm
        rcases hx with rfl | rfl
        · rw [HX1.out] at hc
          injection hc with hc
          injection hc with _ e2
          exact absurd e2 (by decide)
        · rw [HX2.out] at hc
          injection hc with hc
          injection hc with _ e2
          exact absurd e2 (by decide)
      clear hA' hR' hs hS htk hkl
      go_wp2_with (first
        | (at_builtin; refine wpList_append_bl _ rfl _ _ rfl wr.heap.size _ [] rfl (OwnL.nil wr _) A' S C' s _ rfl HS.out.symm HA'.out HR'.out (by simp; omega) (Nat.le_refl _) ?_; intro u wA hu hg; rw [List.nil_append] at hu; have hbA : Below wr.heap.size wr wA := ⟨hg.os, hg.tape, hg.output, hg.size, fun q hq => hg.block q hq (fun e => by cases e)⟩; obtain ⟨Au, Cu, rfl, _⟩ := hu.rd; have HU := Lib.hid hu; have HBA := Lib.hid hbA; have hzA := hbA.size; clear hu hg hbA)
        | (at_builtin; refine wpList_append_tp _ rfl _ _ rfl w.heap.size _ us rfl (HP.out.old (HBA.out.alloc HBA.out.size (.cells #[.slice Au s.length Cu] 35))).top (by rw [HUL.out]; omega) wA.heap.size 0 1 Au s.length Cu rfl (by simp) (by simp; omega) ?_; intro v' wB hv hg; have HV := Lib.hid hv; have HG := Lib.hid hg; clear hv hg))
      go_roundw
      case rel =>
        have hb' : Below wr.heap.size wr (wA.alloc (.cells #[.slice Au s.length Cu] 35)) := HBA.out.alloc HBA.out.size _
        have hp := HP.out.push hb' (OwnL.alloc (own_down HU.out (Nat.le_of_lt hz0)) _) HU.out.lo (fun q e => Nat.le_trans (Nat.le_of_lt hz0) (HU.out.lo q e)) HV.out HG.out
        rw [HTK.out] at hp
        refine ⟨k + 1, us ++ [.slice Au s.length Cu], by omega, by go_num, Lib.hid hp, Lib.hid ?_, Lib.hid ?_, Lib.hid ?_⟩
        · exact ((HG.out.block _ (Nat.lt_of_lt_of_le hz0 hb'.size) (HNE0.out _ (.inl rfl))).trans (hb'.block _ hz0)).trans HX1.out
        · exact ((HG.out.block _ (Nat.lt_of_lt_of_le hz1 hb'.size) (HNE0.out _ (.inr rfl))).trans (hb'.block _ hz1)).trans HX2.out
        · exact (HB2.out.trans (hb'.mono HB2.out.size)).grown HG.out (Nat.le_trans (Nat.le_of_lt hz0) hb'.size) (fun x hx => (HP.out.top.lt x hx).1)
      case measure => simp [intOf]; omega
    · obtain rfl : n = k := by omega
      have HTK : Hid (bs.take n = bs) := Lib.hid (List.take_of_length_le (by rw [HN.out]; exact Nat.le_refl _))
      have u0 : wr.cell? ⟨w.heap.size, 0, none⟩ = some (.int .i64 lab) := heap_cell HX1.out
      have u1 : wr.cell? ⟨w.heap.size, 1, none⟩ = some (.int .i64 cap) := heap_cell HX1.out
      have u3 : wr.cell? ⟨w.heap.size, 3, none⟩ = some (.bool lost) := heap_cell HX1.out
      have x2 : wr.frozen? ⟨w.heap.size, 2, none⟩ = false := heap_frozen HX1.out
      have v0 : wr.cell? ⟨w.heap.size + 1, 0, none⟩ = some (.int .i64 0) := heap_cell HX2.out
      have v1 : wr.cell? ⟨w.heap.size + 1, 1, none⟩ = some (.int .i64 0) := heap_cell HX2.out
      have v2 : wr.cell? ⟨w.heap.size + 1, 2, none⟩ = some (.slice none 0 0) := heap_cell HX2.out
      have v3 : wr.cell? ⟨w.heap.size + 1, 3, none⟩ = some (.bool false) := heap_cell HX2.out
      have y0 : wr.frozen? ⟨w.heap.size + 1, 0, none⟩ = false := heap_frozen HX2.out
      have y1 : wr.frozen? ⟨w.heap.size + 1, 1, none⟩ = false := heap_frozen HX2.out
      have y2 : wr.frozen? ⟨w.heap.size + 1, 2, none⟩ = false := heap_frozen HX2.out
      have y3 : wr.frozen? ⟨w.heap.size + 1, 3, none⟩ = false := heap_frozen HX2.out
      clear hkl
      go_wp2
      refine bodyPost_ret (v := .agg #[.int .i64 lab, .int .i64 cap, .slice Av n Cv, .bool lost]) (by simp [results, Try.results10, go_sem, v0, v1, v2, v3]) rfl ⟨Av, Cv, us, by rw [HN.out], ?_, ?_⟩
      · have hK : Kp (fun q => q = w.heap.size ∨ q = w.heap.size + 1) wr (((((wr.setCell ⟨w.heap.size, 2, none⟩ (.slice Av n Cv)).setCell ⟨w.heap.size + 1, 0, none⟩ (.int .i64 lab)).setCell ⟨w.heap.size + 1, 1, none⟩ (.int .i64 cap)).setCell ⟨w.heap.size + 1, 2, none⟩ (.slice Av n Cv)).setCell ⟨w.heap.size + 1, 3, none⟩ (.bool lost)) :=
          (((((Kp.refl _ wr).setCell (p := ⟨w.heap.size, 2, none⟩) (.inl rfl) _).setCell (p := ⟨w.heap.size + 1, 0, none⟩) (.inr rfl) _).setCell (p := ⟨w.heap.size + 1, 1, none⟩) (.inr rfl) _).setCell (p := ⟨w.heap.size + 1, 2, none⟩) (.inr rfl) _).setCell (p := ⟨w.heap.size + 1, 3, none⟩) (.inr rfl) _
        have hp := HP.out
        rw [HTK.out] at hp
        rw [HN.out]
        refine hp.kpT hK (fun q c hq hc => ?_) (fun q c hq hc => ?_)
        · rcases hq with rfl | rfl
          · rw [HX1.out] at hc; injection hc with hc; injection hc with _ e2; exact absurd e2 (by decide)
          · rw [HX2.out] at hc; injection hc with hc; injection hc with _ e2; exact absurd e2 (by decide)
        · rcases hq with rfl | rfl
          · rw [HX1.out] at hc; injection hc with hc; injection hc with _ e2; exact absurd e2 (by decide)
          · rw [HX2.out] at hc; injection hc with hc; injection hc with _ e2; exact absurd e2 (by decide)
      · exact ((((HB2.out.setCell (Nat.le_refl _) _).setCell (Nat.le_succ _) _).setCell (Nat.le_succ _) _).setCell (Nat.le_succ _) _).setCell (Nat.le_succ _) _
end Go.Proofs.Ytflcnghjhgfkfaa
