/- What the document's own LoadTape says of any tape (parted from TpRefF: no function of package tape). What the document's own Append does to a tape that lies anywhere in a row of tapes. What the document's own CopyTape makes (parted from TpRefE: no function of package tape). -/
import Derived.Test.YtndofmoepjfnfaaGreatMag
import Derived.Test.YtndofmoepjfnfaaGreatMak
import Derived.Test.YtndofmoepjfnfaaGreatChecked
import Derived.OwnWalk
import Derived.Handy
import Derived.WalkSpells
import Derived.WalkLawsBesides
import Derived.BigQuiet
import Derived.Deep.QuietTactic
import Derived.Test.YtndofmoepjfnfaaGreatMam
import Derived.Deep.RegionLaw
import Derived.Deep.AppendLies
namespace Go.Proofs.YtndofmoepjfnfaaGreat
open Go.RowKit
open Pt (Tx)

def AnsLoad (n : Int) (w : World) (e : Ending) (w' : World) : Prop := e = .returned (.int .i64 n) ∧ Below w.heap.size w w'
theorem Tp.right_of {lab cap : Int} {bs : List Tx} (h : Tp.right lab cap bs = true) : 1 ≤ lab ∧ 0 ≤ cap ∧ cap ≤ 64 ∧ (bs.length : Int) ≤ cap ∧ ∀ s ∈ bs, 1 ≤ s.length ∧ s.length ≤ 94 := by
  simp only [Tp.right, Tp.okB, Bool.and_eq_true, decide_eq_true_eq, List.all_eq_true] at h
  exact ⟨h.1.1.1.1, h.1.1.1.2, h.1.1.2, h.1.2, h.2⟩
theorem Tp.right_not {lab cap : Int} {bs : List Tx} (h : Tp.right lab cap bs = false) : lab < 1 ∨ cap < 0 ∨ 64 < cap ∨ cap < (bs.length : Int) ∨ ∃ i, ∃ hi : i < bs.length, bs[i].length < 1 ∨ 94 < bs[i].length := by
  by_cases h1 : lab < 1
  · exact .inl h1
  · by_cases h2 : cap < 0
    · exact .inr (.inl h2)
    · by_cases h3 : 64 < cap
      · exact .inr (.inr (.inl h3))
      · by_cases h4 : cap < (bs.length : Int)
        · exact .inr (.inr (.inr (.inl h4)))
        · refine .inr (.inr (.inr (.inr ?_)))
          have : ¬ (∀ s ∈ bs, 1 ≤ s.length ∧ s.length ≤ 94) := fun h5 => by
            have : Tp.right lab cap bs = true := by
              simp only [Tp.right, Tp.okB, Bool.and_eq_true, decide_eq_true_eq, List.all_eq_true]
              exact ⟨⟨⟨⟨by omega, by omega⟩, by omega⟩, by omega⟩, h5⟩
            rw [h] at this; cases this
          rw [Classical.not_forall] at this
          obtain ⟨s, hs⟩ := this
          rw [Classical.not_imp] at hs
          obtain ⟨i, hi, rfl⟩ := List.mem_iff_getElem.1 hs.1
          exact ⟨i, hi, by have := hs.2; omega⟩
theorem refLoad_ok (lab cap : Int) (A : Option Addr) (bs : List Tx) (C : Nat) (G : Nat → Prop) (w : World) (hr : RdB w A bs G) (hT : Tp.right lab cap bs = true) :
    Calls Tryz.prog 18 #[.agg #[.int .i64 lab, .int .i64 cap, .slice A bs.length C, .bool false]] w (AnsLoad 0 w) := by
  have hB : Below w.heap.size w (w.alloc (.cells #[.int .i64 lab, .int .i64 cap, .slice A bs.length C, .bool false] 28)) := (Below.refl _ _).alloc (Nat.le_refl _) _
  have hr' := hr.old hB
  have HB := Lib.hid hB
  obtain ⟨h1, h2, h3, h4, h5⟩ := Tp.right_of hT
  have d1 : decide (lab < 1) = false := decide_eq_false (by omega)
  have d2 : decide (cap < 0) = false := decide_eq_false (by omega)
  have d3 : decide (64 < cap) = false := decide_eq_false (by omega)
  have d4 : decide (cap < (bs.length : Int)) = false := decide_eq_false (by omega)
  have H5 := Lib.hid h5
  clear h5 hr hB
  go_enter Tryz.func18, Tryz.ntmps18
  go_wp2
  go_loop [3] (fun i => ∃ k : Nat, k ≤ bs.length ∧ i = .int .i64 (k : Int)) (fun i => bs.length - (intOf i).toNat)
  case atStart => exact ⟨0, Nat.zero_le _, rfl⟩
  case round =>
    obtain ⟨k, hk, rfl⟩ := hrel
    by_cases hlt : k < bs.length
    · obtain ⟨b, off, A', C', rfl, _, hc, _⟩ := hr'.at_ hlt
      have hs := H5.out bs[k] (List.getElem_mem hlt)
      have e1 : decide ((bs[k].length : Int) < 1) = false := decide_eq_false (by omega)
      have e2 : decide (94 < (bs[k].length : Int)) = false := decide_eq_false (by omega)
      go_wp2
      go_round
      case rel => exact ⟨k + 1, by omega, by go_num⟩
      case measure => simp [intOf]; omega
    · go_wp2
      go_ret
      exact ⟨rfl, HB.out⟩
theorem refLoad_lost (lab cap : Int) (A : Option Addr) (bs : List Tx) (C : Nat) (G : Nat → Prop) (w : World) (hr : RdB w A bs G) (hT : Tp.right lab cap bs = true) :
    Calls Tryz.prog 18 #[.agg #[.int .i64 lab, .int .i64 cap, .slice A bs.length C, .bool true]] w (AnsLoad 9 w) := by
  have hB : Below w.heap.size w (w.alloc (.cells #[.int .i64 lab, .int .i64 cap, .slice A bs.length C, .bool true] 28)) := (Below.refl _ _).alloc (Nat.le_refl _) _
  have hr' := hr.old hB
  have HB := Lib.hid hB
  obtain ⟨h1, h2, h3, h4, h5⟩ := Tp.right_of hT
  have d1 : decide (lab < 1) = false := decide_eq_false (by omega)
  have d2 : decide (cap < 0) = false := decide_eq_false (by omega)
  have d3 : decide (64 < cap) = false := decide_eq_false (by omega)
  have d4 : decide (cap < (bs.length : Int)) = false := decide_eq_false (by omega)
  have H5 := Lib.hid h5
  clear h5 hr hB
  go_enter Tryz.func18, Tryz.ntmps18
  go_wp2
  go_loop [3] (fun i => ∃ k : Nat, k ≤ bs.length ∧ i = .int .i64 (k : Int)) (fun i => bs.length - (intOf i).toNat)
  case atStart => exact ⟨0, Nat.zero_le _, rfl⟩
  case round =>
    obtain ⟨k, hk, rfl⟩ := hrel
    by_cases hlt : k < bs.length
    · obtain ⟨b, off, A', C', rfl, _, hc, _⟩ := hr'.at_ hlt
      have hs := H5.out bs[k] (List.getElem_mem hlt)
      have e1 : decide ((bs[k].length : Int) < 1) = false := decide_eq_false (by omega)
      have e2 : decide (94 < (bs[k].length : Int)) = false := decide_eq_false (by omega)
      go_wp2
      go_round
      case rel => exact ⟨k + 1, by omega, by go_num⟩
      case measure => simp [intOf]; omega
    · go_wp2
      go_ret
      exact ⟨rfl, HB.out⟩
theorem refLoad_arg (lab cap : Int) (A : Option Addr) (bs : List Tx) (C : Nat) (lost : Bool) (G : Nat → Prop) (w : World) (hr : RdB w A bs G) (hT : Tp.right lab cap bs = false) :
    Calls Tryz.prog 18 #[.agg #[.int .i64 lab, .int .i64 cap, .slice A bs.length C, .bool lost]] w (AnsLoad 1 w) := by
  have hB : Below w.heap.size w (w.alloc (.cells #[.int .i64 lab, .int .i64 cap, .slice A bs.length C, .bool lost] 28)) := (Below.refl _ _).alloc (Nat.le_refl _) _
  have hr' := hr.old hB
  have HB := Lib.hid hB
  have HN := Lib.hid (Tp.right_not hT)
  clear hr hT hB
  by_cases h1 : lab < 1
  · have d1 : decide (lab < 1) = true := decide_eq_true h1
    go_enter Tryz.func18, Tryz.ntmps18
    go_wp2
    go_ret
    exact ⟨rfl, HB.out⟩
  have d1 : decide (lab < 1) = false := decide_eq_false (by omega)
  by_cases h2 : cap < 0
  · have d2 : decide (cap < 0) = true := decide_eq_true h2
    go_enter Tryz.func18, Tryz.ntmps18
    go_wp2
    go_ret
    exact ⟨rfl, HB.out⟩
  have d2 : decide (cap < 0) = false := decide_eq_false (by omega)
  by_cases h3 : 64 < cap
  · have d3 : decide (64 < cap) = true := decide_eq_true h3
    go_enter Tryz.func18, Tryz.ntmps18
    go_wp2
    go_ret
    exact ⟨rfl, HB.out⟩
  have d3 : decide (64 < cap) = false := decide_eq_false (by omega)
  by_cases h4 : cap < (bs.length : Int)
  · have d4 : decide (cap < (bs.length : Int)) = true := decide_eq_true h4
    go_enter Tryz.func18, Tryz.ntmps18
    go_wp2
    go_ret
    exact ⟨rfl, HB.out⟩
  have d4 : decide (cap < (bs.length : Int)) = false := decide_eq_false (by omega)
  obtain ⟨i0, hi0, hbad⟩ : ∃ i, ∃ hi : i < bs.length, bs[i].length < 1 ∨ 94 < bs[i].length := by
    rcases HN.out with h | h | h | h | h
    · omega
    · omega
    · omega
    · omega
    · exact h
  have HX := Lib.hid hbad
  clear HN hbad
  go_enter Tryz.func18, Tryz.ntmps18
  go_wp2
  go_loop [3] (fun i => ∃ k : Nat, k ≤ i0 ∧ i = .int .i64 (k : Int)) (fun i => bs.length - (intOf i).toNat)
  case atStart => exact ⟨0, Nat.zero_le _, rfl⟩
  case round =>
    obtain ⟨k, hk, rfl⟩ := hrel
    have hlt : k < bs.length := by omega
    obtain ⟨b, off, A', C', rfl, _, hc, _⟩ := hr'.at_ hlt
    by_cases hs1 : bs[k].length < 1
    · have e1 : decide ((bs[k].length : Int) < 1) = true := decide_eq_true (by omega)
      go_wp2
      go_ret
      exact ⟨rfl, HB.out⟩
    · have e1 : decide ((bs[k].length : Int) < 1) = false := decide_eq_false (by omega)
      by_cases hs2 : 94 < bs[k].length
      · have e2 : decide (94 < (bs[k].length : Int)) = true := decide_eq_true (by omega)
        go_wp2
        go_ret
        exact ⟨rfl, HB.out⟩
      · have e2 : decide (94 < (bs[k].length : Int)) = false := decide_eq_false (by omega)
        have hne : k ≠ i0 := by rintro rfl; have := HX.out; omega
        go_wp2
        go_round
        case rel => exact ⟨k + 1, by omega, by go_num⟩
        case measure => simp [intOf]; omega
theorem refLoad_any (lab cap : Int) (A : Option Addr) (bs : List Tx) (n C : Nat) (lost : Bool) (G : Nat → Prop) (w : World) (hn : n = bs.length) (hr : RdB w A bs G) :
    Calls Tryz.prog 18 #[.agg #[.int .i64 lab, .int .i64 cap, .slice A n C, .bool lost]] w (AnsLoad (Tp.loadE lab cap bs lost) w) := by
  subst hn
  unfold Tp.loadE
  cases h : Tp.right lab cap bs with
  | false => exact refLoad_arg lab cap A bs C lost G w hr h
  | true =>
    cases lost with
    | false => exact refLoad_ok lab cap A bs C G w hr h
    | true => exact refLoad_lost lab cap A bs C G w hr h
end Go.Proofs.YtndofmoepjfnfaaGreat
namespace Go.Proofs.YtndofmoepjfnfaaGreat
open Go.RowKit
open Pt (Tx)

theorem refApp_bad (g o : Nat) (A : Option Addr) (n c : Nat) (w : World) (h : n < 1 ∨ 94 < n) :
    Calls Tryz.prog 19 #[.pointer (some ⟨g, o, none⟩), .slice A n c] w fun e w' => e = .returned (.int .i64 1) ∧ w = w' := by
  by_cases h1 : n < 1
  · have d1 : decide ((n : Int) < 1) = true := decide_eq_true (by omega)
    go_enter Tryz.func19, Tryz.ntmps19
    go_wp2
    go_ret
    exact ⟨rfl, rfl⟩
  · have d1 : decide ((n : Int) < 1) = false := decide_eq_false (by omega)
    have d2 : decide (94 < (n : Int)) = true := decide_eq_true (by omega)
    go_enter Tryz.func19, Tryz.ntmps19
    go_wp2
    go_ret
    exact ⟨rfl, rfl⟩
theorem refApp_full (g o : Nat) (cap : Int) (Av : Option Addr) (N Cv : Nat) (A : Option Addr) (n c : Nat) (w : World) (c1 : w.cell? ⟨g, o + 1, none⟩ = some (.int .i64 cap)) (c2 : w.cell? ⟨g, o + 2, none⟩ = some (.slice Av N Cv)) (h1 : 1 ≤ n) (h2 : n ≤ 94) (hf : cap ≤ (N : Int)) :
    Calls Tryz.prog 19 #[.pointer (some ⟨g, o, none⟩), .slice A n c] w fun e w' => e = .returned (.int .i64 6) ∧ Below w.heap.size w w' := by
  have d1 : decide ((n : Int) < 1) = false := decide_eq_false (by omega)
  have d2 : decide (94 < (n : Int)) = false := decide_eq_false (by omega)
  have d3 : decide (cap ≤ (N : Int)) = true := decide_eq_true hf
  go_enter Tryz.func19, Tryz.ntmps19
  go_wp2
  go_quiet (fail)
  go_wp2
  go_ret
  exact ⟨rfl, ⟨rfl, rfl, rfl, Nat.le_refl _, fun _ _ => rfl⟩⟩
/-- a row is appended to the rows of the tape whose cells lie in block g -/
theorem top_pushed {w wA wB : World} {B g j : Nat} {G : Nat → Prop} {cur : Array Value} {bs : List Tx} {v : Value} {us : List Value} {s : Tx} {u v' : Value} {o : Obj} (hM : w.heap[g]? = some (.cells cur 28 (0, 0))) (hT : TopB w B G v us bs)
    (hA : Below w.heap.size w wA) (hu : OwnL wA B u s) (hun : ∀ k, u.ownBlock = some k → w.heap.size ≤ k) (hG : ∀ k, w.heap.size ≤ k → G k) (hB : wB.ownsRow B 22 1 v' (us.length + 1) (us ++ [u])) (hg : (wA.alloc o).grownBy wB v.ownBlock) :
    wB.heap[g]? = w.heap[g]? ∧ (wB.setCell ⟨g, j, none⟩ v').heap[g]? = some (.cells (cur.setIfInBounds j v') 28 (0, 0)) ∧ TopB (wB.setCell ⟨g, j, none⟩ v') B G v' (us ++ [u]) (bs ++ [s]) ∧ Kp (fun k => k = g ∨ v.ownBlock = some k) w (wB.setCell ⟨g, j, none⟩ v') := by
  have hlt := heap_lt hM
  have hA' : Below w.heap.size w (wA.alloc o) := hA.alloc hA.size _
  have hne : some g ≠ v.ownBlock := fun e => by
    obtain ⟨x, hx⟩ := own_blk hT.top g e.symm
    rw [hM] at hx
    injection hx with hx
    injection hx with _ e2
    exact absurd e2 (by decide)
  have e : wB.heap[g]? = w.heap[g]? := (hg.block g (Nat.lt_of_lt_of_le hlt hA'.size) hne).trans (hA'.block g hlt)
  have hp := hT.push hA' (hu.alloc o) hun (fun k hk => hG k (hun k hk)) hB hg
  refine ⟨e, heap_set (e.trans hM) v', hp.kpT (Kp.store _ g j _) (fun x c hx hc => ?_) (fun x c hx hc => ?_), ?_⟩
  · rw [hx, e, hM] at hc
    injection hc with hc
    injection hc with _ e2
    exact absurd e2 (by decide)
  · rw [hx, e, hM] at hc
    injection hc with hc
    injection hc with _ e2
    exact absurd e2 (by decide)
  · exact (((Kp.of_below hA').grown hg fun k hk => .inr hk).trans ((Kp.store wB g j v').mono fun k hk => .inl hk))
/-- what Append of one block left: the tape's rows have one more -/
def AppA (B g o : Nat) (G : Nat → Prop) (v : Value) (cur : Array Value) (bs : List Tx) (w : World) (e : Ending) (w' : World) : Prop :=
  e = .returned (.int .i64 0) ∧ ∃ v' us', w'.heap[g]? = some (.cells (cur.setIfInBounds (o + 2) v') 28 (0, 0)) ∧ TopB w' B G v' us' bs ∧ Kp (fun k => k = g ∨ v.ownBlock = some k) w w' ∧ ∀ k, v'.ownBlock = some k → v.ownBlock = some k ∨ w.heap.size ≤ k
set_option maxRecDepth 100000 in
set_option maxHeartbeats 2000000 in
theorem refApp_ok (B g o : Nat) (G : Nat → Prop) (cap : Int) (cur : Array Value) (Av : Option Addr) (Cv : Nat) (us : List Value) (bs : List Tx) (A : Option Addr) (s : Tx) (N n c : Nat) (G' : Nat → Prop) (w : World) (hM : w.heap[g]? = some (.cells cur 28 (0, 0)))
    (c1 : w.cell? ⟨g, o + 1, none⟩ = some (.int .i64 cap)) (c2 : w.cell? ⟨g, o + 2, none⟩ = some (.slice Av N Cv)) (hN : N = bs.length) (ht : TopB w B G (.slice Av N Cv) us bs) (hn : s.length = n) (h1 : 1 ≤ n) (h2 : n ≤ 94) (hf : (N : Int) < cap) (hcap : cap ≤ 64) (hr : RdL w A s G') (hG : ∀ k, w.heap.size ≤ k → G k) (hBw : B ≤ w.heap.size) :
    Calls Tryz.prog 19 #[.pointer (some ⟨g, o, none⟩), .slice A n c] w (AppA B g o G (.slice Av N Cv) cur (bs ++ [s]) w) := by
  have d1 : decide ((n : Int) < 1) = false := decide_eq_false (by omega)
  have d2 : decide (94 < (n : Int)) = false := decide_eq_false (by omega)
  have d3 : decide (cap ≤ (N : Int)) = false := decide_eq_false (by omega)
  have hgr : g < w.heap.size := heap_lt hM
  obtain ⟨b, off, rfl, _, hcs⟩ := hr (by omega)
  have HN := Lib.hid hN
  have HM := Lib.hid hM
  have HT := Lib.hid ht
  have HCS := Lib.hid hcs
  have HSN := Lib.hid hn
  have HG := Lib.hid hG
  have hN64 : N ≤ 64 := by omega
  clear hN hM ht hcs hr hn hG
  go_enter Tryz.func19, Tryz.ntmps19
  go_wp2
  go_quiet (fail)
  go_wp2
  have hbd : Below w.heap.size w (w.drewN nq) := ⟨rfl, rfl, rfl, Nat.le_refl _, fun _ _ => rfl⟩
  generalize w.drewN nq = wr at hbd ⊢
  have hzr := hbd.size
  have hBr : B ≤ wr.heap.size := Nat.le_trans hBw hzr
  have a2 : wr.cell? ⟨g, o + 2, none⟩ = some (.slice Av N Cv) := (hbd.cell (p := ⟨g, o + 2, none⟩) hgr).trans c2
  have HBD := Lib.hid hbd
  clear c1 c2 hbd
  obtain ⟨i0, hi0, hz0, hz1, hz2⟩ := info_parts infoB
  obtain ⟨j0, hj0, hy0, hy1, hy2⟩ := info_parts infoRowT
  have hownN : wr.drew.ownsRow wr.heap.size 5 1 (.slice none 0 0) 0 [] := World.ownsRow_nil _ _ _ _
  have hnewsN : ∀ j u, (cellsL s)[j]? = some u → wr.drew.cell? ((⟨b, off, none⟩ : Addr).add j) = some u := fun j u hu => by
    obtain ⟨hj, rfl⟩ := cellsL_some hu
    rw [addr_add]
    exact (HBD.out.cell (p := ⟨b, off + j, none⟩) (World.block_lt_of_cell? _ _ (HCS.out j hj))).trans (HCS.out j hj)
  have HOWN := Lib.hid hownN
  have HNEW := Lib.hid hnewsN
  have hUL : us.length = N := by rw [HT.out.len, HN.out]
  have HUL := Lib.hid hUL
  clear hownN hnewsN hUL
  go_region_law (first
    | (refine step_append_lies _ (by rfl) _ _ _ (by rfl) wr.heap.size 5 i0 _ 1 1 Tryz.underlying22 hi0 hz0 hz1 hz2 rfl (by omega) (.slice none 0 0) 0 [] (by rfl) HOWN.out ⟨b, off, none⟩ n c (cellsL s) (by rfl) (by rw [cellsL_len, HSN.out, Nat.mul_one]) HNEW.out cellsL_one (by omega) (by unfold maxLen; omega) (by omega) (by exact Nat.le_refl _) wr.heap.size (by rfl) ?_; intro ga capA wA hownA hgA hatA hltA; rw [Nat.zero_add] at hownA; have hbA : Below wr.heap.size wr wA := (⟨hgA.os, hgA.tape, hgA.output, hgA.size, fun k hk => hgA.block k hk (fun e => by cases e)⟩); have HOA := Lib.hid hownA; have HBA := Lib.hid hbA; have a2A : wA.cell? ⟨g, o + 2, none⟩ = some (.slice Av N Cv) := (hbA.cell (p := ⟨g, o + 2, none⟩) (Nat.lt_of_lt_of_le hgr hzr)).trans a2; have hgA' : g < wA.heap.size := (Nat.lt_of_lt_of_le (Nat.lt_of_lt_of_le hgr hzr) hbA.size); clear hownA hgA hbA hatA)
    | (refine step_append_lies _ (by rfl) _ _ _ (by rfl) B 22 j0 _ 1 24 Tryz.underlying26 hj0 hy0 hy1 hy2 rfl (by omega) (.slice Av N Cv) N us (by rfl) (by have := (HT.out.old ((HBD.out.trans (HBA.out.mono HBD.out.size)).alloc (by have := HBD.out.size; have := HBA.out.size; omega) (.cells #[.slice (some ⟨ga, 0, none⟩) n capA] 22))).top; rw [HUL.out] at this; exact this) ⟨wA.heap.size, 0, none⟩ 1 1 [.slice (some ⟨ga, 0, none⟩) n capA] (by rfl) (by rfl) (oneCellT wA _ _) (oneTop _ _ _) (by omega) (by unfold maxLen; omega) (by omega) (by have := HBD.out.size; have := HBA.out.size; simp; omega) (wA.heap.size + 1) (by simp) ?_; intro g2 cap2 wB hownB hgB hatB hltB; have hall := top_pushed (j := o + 2) HM.out HT.out (HBD.out.trans (HBA.out.mono HBD.out.size)) (own_row HOA.out HSN.out hBr) (fun k hk => by cases hk; exact Nat.le_trans hzr (own_base HOA.out)) HG.out (by rw [HUL.out]; exact hownB) hgB; have cB : wB.cell? ⟨g, o + 2, none⟩ = some (.slice Av N Cv) := (World.cell?_of_block (hall.1.trans (HBD.out.block g hgr).symm)).trans a2; have fB : wB.frozen? ⟨g, o + 2, none⟩ = false := heap_frozen (hall.1.trans HM.out); have HALL := Lib.hid hall.2; have HAT : Hid (∀ k, (Value.slice (some ⟨g2, 0, none⟩) (N + 1) cap2).ownBlock = some k → (Value.slice Av N Cv).ownBlock = some k ∨ w.heap.size ≤ k) := Lib.hid (fun k e => by have e' : some g2 = some k := e; cases e'; exact hatB.elim .inl (fun e => .inr (by have h9 : g2 = wA.heap.size + 1 := e; have := HBD.out.size; have := HBA.out.size; omega))); clear hall hownB hgB hatB hltB))
  all_goals
    go_wp2
    go_ret
    exact ⟨rfl, _, _, HALL.out.1, HALL.out.2.1, HALL.out.2.2, HAT.out⟩
end Go.Proofs.YtndofmoepjfnfaaGreat
namespace Go.Proofs.YtndofmoepjfnfaaGreat
open Go.RowKit
open Pt (Tx)

theorem alloc_at2C (w : World) (o1 o2 : Obj) : ((w.alloc o1).alloc o2).drew.heap[w.heap.size + 1]? = some o2 := by
  have h := Go.Deep.blk_alloc_new (w.alloc o1) o2
  have hz : (w.alloc o1).heap.size = w.heap.size + 1 := by simp
  rw [hz] at h
  exact h
set_option maxRecDepth 100000 in
set_option maxHeartbeats 2000000 in
/-- what CopyTape answers: all in new memory -/
def CopyAns (lab cap : Int) (lost : Bool) (bs : List Tx) (w : World) (e : Ending) (w' : World) : Prop :=
  ∃ A C us, e = .returned (.agg #[.int .i64 lab, .int .i64 cap, .slice A bs.length C, .bool lost]) ∧ TopB w' w.heap.size (fun k => w.heap.size ≤ k) (.slice A bs.length C) us bs ∧ Below w.heap.size w w'
set_option maxRecDepth 100000 in
set_option maxHeartbeats 2000000 in
theorem copyTape_any (lab cap : Int) (A : Option Addr) (bs : List Tx) (n C : Nat) (lost : Bool) (G : Nat → Prop) (w : World) (hn : bs.length = n) (hr : RdB w A bs G) (hl : n ≤ 1000) (hs : ∀ s ∈ bs, s.length ≤ 1000) :
    Calls Tryz.prog 16 #[.agg #[.int .i64 lab, .int .i64 cap, .slice A n C, .bool lost]] w (CopyAns lab cap lost bs w) := by
  have HN := Lib.hid hn
  have HR := Lib.hid hr
  have HSL := Lib.hid hs
  clear hn hr hs
  go_enter Tryz.func16, Tryz.ntmps16
  go_wp2
  have hb2 : Below w.heap.size w ((w.alloc (.cells #[.int .i64 lab, .int .i64 cap, .slice A n C, .bool lost] 28)).alloc (.cells #[.int .i64 0, .int .i64 0, .slice none 0 0, .bool false] 28)) := ((Below.refl _ _).alloc (Nat.le_refl _) _).alloc (by simp) _
  have hx1 : ((w.alloc (.cells #[.int .i64 lab, .int .i64 cap, .slice A n C, .bool lost] 28)).alloc (.cells #[.int .i64 0, .int .i64 0, .slice none 0 0, .bool false] 28)).heap[w.heap.size]? = some (.cells #[.int .i64 lab, .int .i64 cap, .slice A n C, .bool lost] 28 (0, 0)) := (Below.heap_alloc _ _ _ (by simp)).trans (Go.Deep.blk_alloc_new _ _)
  have hx2 : ((w.alloc (.cells #[.int .i64 lab, .int .i64 cap, .slice A n C, .bool lost] 28)).alloc (.cells #[.int .i64 0, .int .i64 0, .slice none 0 0, .bool false] 28)).heap[w.heap.size + 1]? = some (.cells #[.int .i64 0, .int .i64 0, .slice none 0 0, .bool false] 28 (0, 0)) := alloc_at2C _ _ _
  generalize (w.alloc (.cells #[.int .i64 lab, .int .i64 cap, .slice A n C, .bool lost] 28)).alloc (.cells #[.int .i64 0, .int .i64 0, .slice none 0 0, .bool false] 28) = w2 at hb2 hx1 hx2 ⊢
  have HB2 := Lib.hid hb2
  have HX1 := Lib.hid hx1
  have HX2 := Lib.hid hx2
  clear hb2 hx1 hx2
  go_loopw [3, 4] (fun vl vi wr => ∃ (k : Nat) (us : List Value), k ≤ n ∧ vi = .int .i64 (k : Int) ∧ Hid (TopB wr w.heap.size (fun q => w.heap.size ≤ q) vl us (bs.take k)) ∧ Hid (wr.heap[w.heap.size]? = some (.cells #[.int .i64 lab, .int .i64 cap, .slice A n C, .bool lost] 28 (0, 0))) ∧ Hid (wr.heap[w.heap.size + 1]? = some (.cells #[.int .i64 0, .int .i64 0, .slice none 0 0, .bool false] 28 (0, 0))) ∧ Hid (Below w.heap.size w wr)) (fun _ vi _ => n - (intOf vi).toNat)
  case atStart => exact ⟨0, [], by omega, rfl, Lib.hid (by rw [List.take_zero]; exact TopB.nil _ _ _), HX1, HX2, HB2⟩
  case round =>
    clear HB2 HX1 HX2
    obtain ⟨k, us, hk, rfl, HP, HX1, HX2, HB2⟩ := hrel
    have hkl : (bs.take k).length = k := by rw [List.length_take, HN.out]; omega
    obtain ⟨Av, Cv, hv, _⟩ := HP.out.val
    rw [hkl] at hv
    subst hv
    have c2 : wr.cell? ⟨w.heap.size, 2, none⟩ = some (.slice A n C) := heap_cell HX1.out
    have hz0 : w.heap.size < wr.heap.size := heap_lt HX1.out
    have hz1 : w.heap.size + 1 < wr.heap.size := heap_lt HX2.out
    by_cases hlt : k < n
    · have kb : k < bs.length := by rw [HN.out]; exact hlt
      obtain ⟨b, off, A', C', rfl, _, hc, _, hA', hR'⟩ := (HR.out.old HB2.out).at_ kb
      have hs' := HSL.out bs[k] (List.getElem_mem kb)
      have htk : bs.take k ++ [bs[k]] = bs.take (k + 1) := List.take_append_getElem kb
      obtain ⟨s, hs⟩ : ∃ s, s = bs[k] := ⟨_, rfl⟩
      rw [← hs] at hc hA' hR' hs' htk
      obtain ⟨S, hS⟩ : ∃ S, S = s.length := ⟨_, rfl⟩
      rw [← hS] at hc hA' hs'
      have HA' := Lib.hid hA'
      have HR' := Lib.hid hR'
      have HS := Lib.hid hS
      have HTK := Lib.hid htk
      have HUL : Hid (us.length = k) := Lib.hid (by rw [HP.out.len, hkl])
      have HNE0 : Hid (∀ x, x = w.heap.size ∨ x = w.heap.size + 1 → some x ≠ (Value.slice Av k Cv).ownBlock) := Lib.hid fun x hx e => by
        obtain ⟨c, hc⟩ := own_blk HP.out.top x e.symm
        rcases hx with rfl | rfl
        · rw [HX1.out] at hc
          injection hc with hc
          injection hc with _ e2
          exact absurd e2 (by decide)
        · rw [HX2.out] at hc
          injection hc with hc
          injection hc with _ e2
          exact absurd e2 (by decide)
      clear hA' hR' hs hS htk hkl
      go_wp2_with (first
        | (at_builtin; refine wpList_append_bl _ rfl _ _ rfl wr.heap.size _ [] rfl (OwnL.nil wr _) A' S C' s _ rfl HS.out.symm HA'.out HR'.out (by simp; omega) (Nat.le_refl _) ?_; intro u wA hu hg; rw [List.nil_append] at hu; have hbA : Below wr.heap.size wr wA := ⟨hg.os, hg.tape, hg.output, hg.size, fun q hq => hg.block q hq (fun e => by cases e)⟩; obtain ⟨Au, Cu, rfl, _⟩ := hu.rd; have HU := Lib.hid hu; have HBA := Lib.hid hbA; have hzA := hbA.size; clear hu hg hbA)
        | (at_builtin; refine wpList_append_tp _ rfl _ _ rfl w.heap.size _ us rfl (HP.out.old (HBA.out.alloc HBA.out.size (.cells #[.slice Au s.length Cu] 22))).top (by rw [HUL.out]; omega) wA.heap.size 0 1 Au s.length Cu rfl (by simp) (by simp; omega) ?_; intro v' wB hv hg; have HV := Lib.hid hv; have HG := Lib.hid hg; clear hv hg))
      go_roundw
      case rel =>
        have hb' : Below wr.heap.size wr (wA.alloc (.cells #[.slice Au s.length Cu] 22)) := HBA.out.alloc HBA.out.size _
        have hp := HP.out.push hb' (OwnL.alloc (own_down HU.out (Nat.le_of_lt hz0)) _) HU.out.lo (fun q e => Nat.le_trans (Nat.le_of_lt hz0) (HU.out.lo q e)) HV.out HG.out
        rw [HTK.out] at hp
        refine ⟨k + 1, us ++ [.slice Au s.length Cu], by omega, by go_num, Lib.hid hp, Lib.hid ?_, Lib.hid ?_, Lib.hid ?_⟩
        · exact ((HG.out.block _ (Nat.lt_of_lt_of_le hz0 hb'.size) (HNE0.out _ (.inl rfl))).trans (hb'.block _ hz0)).trans HX1.out
        · exact ((HG.out.block _ (Nat.lt_of_lt_of_le hz1 hb'.size) (HNE0.out _ (.inr rfl))).trans (hb'.block _ hz1)).trans HX2.out
        · exact (HB2.out.trans (hb'.mono HB2.out.size)).grown HG.out (Nat.le_trans (Nat.le_of_lt hz0) hb'.size) (fun x hx => (HP.out.top.lt x hx).1)
      case measure => simp [intOf]; omega
    · obtain rfl : n = k := by omega
      have HTK : Hid (bs.take n = bs) := Lib.hid (List.take_of_length_le (by rw [HN.out]; exact Nat.le_refl _))
      have u0 : wr.cell? ⟨w.heap.size, 0, none⟩ = some (.int .i64 lab) := heap_cell HX1.out
      have u1 : wr.cell? ⟨w.heap.size, 1, none⟩ = some (.int .i64 cap) := heap_cell HX1.out
      have u3 : wr.cell? ⟨w.heap.size, 3, none⟩ = some (.bool lost) := heap_cell HX1.out
      have x2 : wr.frozen? ⟨w.heap.size, 2, none⟩ = false := heap_frozen HX1.out
      have v0 : wr.cell? ⟨w.heap.size + 1, 0, none⟩ = some (.int .i64 0) := heap_cell HX2.out
      have v1 : wr.cell? ⟨w.heap.size + 1, 1, none⟩ = some (.int .i64 0) := heap_cell HX2.out
      have v2 : wr.cell? ⟨w.heap.size + 1, 2, none⟩ = some (.slice none 0 0) := heap_cell HX2.out
      have v3 : wr.cell? ⟨w.heap.size + 1, 3, none⟩ = some (.bool false) := heap_cell HX2.out
      have y0 : wr.frozen? ⟨w.heap.size + 1, 0, none⟩ = false := heap_frozen HX2.out
      have y1 : wr.frozen? ⟨w.heap.size + 1, 1, none⟩ = false := heap_frozen HX2.out
      have y2 : wr.frozen? ⟨w.heap.size + 1, 2, none⟩ = false := heap_frozen HX2.out
      have y3 : wr.frozen? ⟨w.heap.size + 1, 3, none⟩ = false := heap_frozen HX2.out
      clear hkl
      go_wp2
      refine bodyPost_ret (v := .agg #[.int .i64 lab, .int .i64 cap, .slice Av n Cv, .bool lost]) (by simp [results, Tryz.results16, go_sem, v0, v1, v2, v3]) rfl ⟨Av, Cv, us, by rw [HN.out], ?_, ?_⟩
      · have hK : Kp (fun q => q = w.heap.size ∨ q = w.heap.size + 1) wr (((((wr.setCell ⟨w.heap.size, 2, none⟩ (.slice Av n Cv)).setCell ⟨w.heap.size + 1, 0, none⟩ (.int .i64 lab)).setCell ⟨w.heap.size + 1, 1, none⟩ (.int .i64 cap)).setCell ⟨w.heap.size + 1, 2, none⟩ (.slice Av n Cv)).setCell ⟨w.heap.size + 1, 3, none⟩ (.bool lost)) :=
          (((((Kp.refl _ wr).setCell (p := ⟨w.heap.size, 2, none⟩) (.inl rfl) _).setCell (p := ⟨w.heap.size + 1, 0, none⟩) (.inr rfl) _).setCell (p := ⟨w.heap.size + 1, 1, none⟩) (.inr rfl) _).setCell (p := ⟨w.heap.size + 1, 2, none⟩) (.inr rfl) _).setCell (p := ⟨w.heap.size + 1, 3, none⟩) (.inr rfl) _
        have hp := HP.out
        rw [HTK.out] at hp
        rw [HN.out]
        refine hp.kpT hK (fun q c hq hc => ?_) (fun q c hq hc => ?_)
        · rcases hq with rfl | rfl
          · rw [HX1.out] at hc; injection hc with hc; injection hc with _ e2; exact absurd e2 (by decide)
          · rw [HX2.out] at hc; injection hc with hc; injection hc with _ e2; exact absurd e2 (by decide)
        · rcases hq with rfl | rfl
          · rw [HX1.out] at hc; injection hc with hc; injection hc with _ e2; exact absurd e2 (by decide)
          · rw [HX2.out] at hc; injection hc with hc; injection hc with _ e2; exact absurd e2 (by decide)
      · exact ((((HB2.out.setCell (Nat.le_refl _) _).setCell (Nat.le_succ _) _).setCell (Nat.le_succ _) _).setCell (Nat.le_succ _) _).setCell (Nat.le_succ _) _
end Go.Proofs.YtndofmoepjfnfaaGreat
