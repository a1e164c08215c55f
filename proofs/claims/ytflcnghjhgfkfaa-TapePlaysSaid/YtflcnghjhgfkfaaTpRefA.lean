/- The document's own tape in memory, and what its Append does. -/
import Derived.Test.YtflcnghjhgfkfaaTpTop
import Derived.Deep.RegionLaw
import Derived.Deep.AppendLies
namespace Go.Proofs.Ytflcnghjhgfkfaa
open Go.RowKit
open Pt (Tx)

/-- the tape at block gr -/
structure Rt (w : World) (B gr : Nat) (G : Nat → Prop) (lab cap : Int) (bs : List Tx) : Prop where
  ex : ∃ v us, w.heap[gr]? = some (.cells #[.int .i64 lab, .int .i64 cap, v, .bool false] 24 (0, 0)) ∧ TopB w B G v us bs
  lo : B ≤ gr
/-- what a call on such a tape may turn -/
def RefS (B : Nat) (G : Nat → Prop) (w : World) (k : Nat) : Prop := B ≤ k ∧ ((∃ c, w.heap[k]? = some (.cells c 35 (0, 0))) ∨ (∃ c, w.heap[k]? = some (.cells c 24 (0, 0))) ∨ G k)
def RefT (B : Nat) (G : Nat → Prop) (w w' : World) : Prop := Kp (RefS B G w) w w'
theorem RefT.refl (B : Nat) (G : Nat → Prop) (w : World) : RefT B G w w := Kp.refl _ _
theorem RefT.trans {B : Nat} {G : Nat → Prop} {a b c : World} (h : RefT B G a b) (k : RefT B G b c) : RefT B G a c := by
  refine ⟨k.os.trans h.os, k.tape.trans h.tape, k.output.trans h.output, Nat.le_trans h.size k.size, fun i hi hs => ?_⟩
  have e := h.block i hi hs
  rw [← e]
  refine k.block i (Nat.lt_of_lt_of_le hi h.size) fun h' => hs ?_
  obtain ⟨h1, h2⟩ := h'
  rw [e] at h2
  exact ⟨h1, h2⟩
theorem RefT.below {B : Nat} {G : Nat → Prop} {a b : World} (h : RefT B G a b) (hB : B ≤ a.heap.size) : Below B a b := Kp.below h hB fun _ hk => hk.1
theorem RefT.of_below {B : Nat} {G : Nat → Prop} {a b : World} (h : Below a.heap.size a b) : RefT B G a b := Kp.of_below h
/-- a block of another kind is kept -/
theorem RefT.kept {B : Nat} {G : Nat → Prop} {a b : World} (h : RefT B G a b) {k : Nat} {c : Array Value} {t : TypeId} {fr : Nat × Nat} (hk : a.heap[k]? = some (.cells c t fr)) (h1 : t ≠ 35) (h2 : t ≠ 24) (h3 : ¬ G k) : b.heap[k]? = some (.cells c t fr) := by
  refine (h.block k (heap_lt hk) fun hs => ?_).trans hk
  rcases hs.2 with ⟨c', e⟩ | ⟨c', e⟩ | e
  · rw [hk] at e; injection e with e; injection e with _ e; exact h1 e
  · rw [hk] at e; injection e with e; injection e with _ e; exact h2 e
  · exact h3 e
namespace Rt
variable {w w' : World} {B gr : Nat} {G G' : Nat → Prop} {lab cap : Int} {bs : List Tx}
theorem lt (h : Rt w B gr G lab cap bs) : gr < w.heap.size := by obtain ⟨v, us, h1, _⟩ := h.ex; exact heap_lt h1
theorem kp {S : Nat → Prop} (h : Rt w B gr G lab cap bs) (hk : Kp S w w') (h0 : ¬ S gr) (h1 : ∀ k c, S k → w.heap[k]? ≠ some (.cells c 35 (0, 0))) (h2 : ∀ k, S k → ¬ G k) : Rt w' B gr G lab cap bs := by
  obtain ⟨⟨v, us, hb, ht⟩, hlo⟩ := h
  exact ⟨⟨v, us, (hk.block gr (heap_lt hb) h0).trans hb, ht.kp hk h1 h2⟩, hlo⟩
theorem old (h : Rt w B gr G lab cap bs) (hb : Below w.heap.size w w') : Rt w' B gr G lab cap bs :=
  h.kp (S := fun _ => False) (Kp.of_below hb) (fun h => h) (fun _ _ h => h.elim) (fun _ h => h.elim)
theorem mono (h : Rt w B gr G lab cap bs) (hg : ∀ k, G k → G' k) : Rt w B gr G' lab cap bs := by
  obtain ⟨⟨v, us, hb, ht⟩, hlo⟩ := h
  exact ⟨⟨v, us, hb, ht.mono hg⟩, hlo⟩
theorem there (h : Rt w B gr G lab cap bs) : Rt w B gr (fun k => G k ∧ k < w.heap.size) lab cap bs := by
  obtain ⟨⟨v, us, hb, ht⟩, hlo⟩ := h
  exact ⟨⟨v, us, hb, ht.there⟩, hlo⟩
end Rt
theorem own_down {w : World} {B B' : Nat} {t : TypeId} {v : Value} {n : Nat} {xs : List Value} (h : w.ownsRow B t 1 v n xs) (hB : B' ≤ B) : w.ownsRow B' t 1 v n xs := by
  refine ⟨h.1, ?_⟩
  rcases h.2 with h0 | ⟨g, c, cur, e, hb, hr⟩
  · exact .inl h0
  · exact .inr ⟨g, c, cur, e, Nat.le_trans hB hb, hr⟩
/-- what a call on such a tape answered, and left -/
def RefDid (r : Value) (B gr : Nat) (G : Nat → Prop) (lab cap : Int) (bs : List Tx) (w : World) (e : Ending) (w' : World) : Prop := e = .returned r ∧ Rt w' B gr G lab cap bs ∧ RefT B G w w'
theorem oneCellT (w : World) (u : Value) (t : TypeId) : ∀ j u', [u][j]? = some u' → (w.alloc (.cells #[u] t)).cell? ((⟨w.heap.size, 0, none⟩ : Addr).add j) = some u' := fun j u' hu => by
  have hj : j = 0 := by
    rcases Nat.eq_zero_or_pos j with h0 | h0
    · exact h0
    · rw [List.getElem?_eq_none (by simp; omega)] at hu; cases hu
  subst hj
  cases hu
  rw [addr_add]; simp
theorem oneTop (A : Option Addr) (L C : Nat) : ∀ u ∈ [Value.slice A L C], u.oneCell' = true := fun u hu => by rw [List.mem_singleton.1 hu]; rfl
/-- a row is appended to the tape at gr -/
theorem Rt.pushed {w wA wB : World} {B gr : Nat} {G : Nat → Prop} {lab cap : Int} {bs : List Tx} {v : Value} {us : List Value} {s : Tx} {u v' : Value} {o : Obj} (hM : w.heap[gr]? = some (.cells #[.int .i64 lab, .int .i64 cap, v, .bool false] 24 (0, 0))) (hT : TopB w B G v us bs) (hlo : B ≤ gr)
    (hA : Below w.heap.size w wA) (hu : OwnL wA B u s) (hun : ∀ k, u.ownBlock = some k → w.heap.size ≤ k) (hG : ∀ k, w.heap.size ≤ k → G k) (hB : wB.ownsRow B 35 1 v' (us.length + 1) (us ++ [u])) (hg : (wA.alloc o).grownBy wB v.ownBlock) :
    wB.heap[gr]? = w.heap[gr]? ∧ Rt (wB.setCell ⟨gr, 2, none⟩ v') B gr G lab cap (bs ++ [s]) ∧ RefT B G w (wB.setCell ⟨gr, 2, none⟩ v') := by
  have hlt := heap_lt hM
  have hA' : Below w.heap.size w (wA.alloc o) := hA.alloc hA.size _
  have hne : some gr ≠ v.ownBlock := fun e => by
    obtain ⟨x, hx⟩ := own_blk hT.top gr e.symm
    rw [hM] at hx
    injection hx with hx
    injection hx with _ e2
    exact absurd e2 (by decide)
  have e : wB.heap[gr]? = w.heap[gr]? := (hg.block gr (Nat.lt_of_lt_of_le hlt hA'.size) hne).trans (hA'.block gr hlt)
  have hp := hT.push hA' (hu.alloc o) hun (fun k hk => hG k (hun k hk)) hB hg
  refine ⟨e, ⟨⟨v', us ++ [u], by rw [heap_set (e.trans hM)]; rfl, hp.kpT (Kp.store _ gr 2 _) (fun x c hx hc => ?_) (fun x c hx hc => ?_)⟩, hlo⟩, ?_⟩
  · rw [hx, e, hM] at hc
    injection hc with hc
    injection hc with _ e2
    exact absurd e2 (by decide)
  · rw [hx, e, hM] at hc
    injection hc with hc
    injection hc with _ e2
    exact absurd e2 (by decide)
  · refine (RefT.of_below hA').trans (RefT.trans (Kp.grown (Kp.refl _ _) hg fun k hk => ?_) ((Kp.store wB gr 2 v').mono fun k hk => ?_))
    · obtain ⟨x, hx⟩ := own_blk hT.top k hk
      exact ⟨(hT.top.lt k hk).1, .inl ⟨x, (hA'.block k (heap_lt hx)).trans hx⟩⟩
    · rw [hk]
      exact ⟨hlo, .inr (.inl ⟨_, e.trans hM⟩)⟩
theorem own_row {w : World} {B B' : Nat} {v : Value} {n : Nat} {s : Tx} (h : w.ownsRow B' 5 1 v n ([] ++ cellsL s)) (hn : s.length = n) (hB : B ≤ B') : OwnL w B v s := by
  subst hn; exact own_down h hB
theorem own_base {w : World} {B g n c : Nat} {t : TypeId} {xs : List Value} (h : w.ownsRow B t 1 (.slice (some ⟨g, 0, none⟩) n c) n xs) : B ≤ g := by
  rcases h.2 with ⟨e, _⟩ | ⟨g', c', cur, e, hb, _⟩
  · cases e
  · cases e; exact hb
theorem refAppend_bad (gr : Nat) (A : Option Addr) (n c : Nat) (w : World) (h : n < 1 ∨ 94 < n) :
    Calls Try.prog 14 #[.pointer (some ⟨gr, 0, none⟩), .slice A n c] w fun e w' => e = .returned (.int .i64 1) ∧ w = w' := by
  by_cases h1 : n < 1
  · have d1 : decide ((n : Int) < 1) = true := decide_eq_true (by omega)
    go_enter Try.func14, Try.ntmps14
    go_wp2
    go_ret
    exact ⟨rfl, rfl⟩
  · have d1 : decide ((n : Int) < 1) = false := decide_eq_false (by omega)
    have d2 : decide (94 < (n : Int)) = true := decide_eq_true (by omega)
    go_enter Try.func14, Try.ntmps14
    go_wp2
    go_ret
    exact ⟨rfl, rfl⟩
theorem refAppend_full (B gr : Nat) (G : Nat → Prop) (lab cap : Int) (bs : List Tx) (A : Option Addr) (n c : Nat) (w : World) (h : Rt w B gr G lab cap bs) (h1 : 1 ≤ n) (h2 : n ≤ 94) (hf : cap ≤ (bs.length : Int)) :
    Calls Try.prog 14 #[.pointer (some ⟨gr, 0, none⟩), .slice A n c] w fun e w' => e = .returned (.int .i64 6) ∧ ∃ n, w' = w.drewN n := by
  have d1 : decide ((n : Int) < 1) = false := decide_eq_false (by omega)
  have d2 : decide (94 < (n : Int)) = false := decide_eq_false (by omega)
  obtain ⟨⟨v, us, hb, ht⟩, hlo⟩ := h
  obtain ⟨Av, Cv, rfl, _⟩ := ht.val
  have c1 : w.cell? ⟨gr, 1, none⟩ = some (.int .i64 cap) := heap_cell hb
  have c2 : w.cell? ⟨gr, 2, none⟩ = some (.slice Av bs.length Cv) := heap_cell hb
  have d3 : decide (cap ≤ (bs.length : Int)) = true := decide_eq_true hf
  clear hb ht
  go_enter Try.func14, Try.ntmps14
  go_wp2
  go_quiet (fail)
  go_wp2
  go_ret
  exact ⟨rfl, _, rfl⟩
set_option maxHeartbeats 2000000 in
theorem refAppend_ok (B gr : Nat) (G : Nat → Prop) (lab cap : Int) (bs : List Tx) (A : Option Addr) (s : Tx) (n c : Nat) (G' : Nat → Prop) (w : World) (h : Rt w B gr G lab cap bs) (hn : s.length = n) (h1 : 1 ≤ n) (h2 : n ≤ 94) (hf : (bs.length : Int) < cap) (hcap : cap ≤ 64) (hr : RdL w A s G') (hG : ∀ k, w.heap.size ≤ k → G k) (hBw : B ≤ w.heap.size) :
    Calls Try.prog 14 #[.pointer (some ⟨gr, 0, none⟩), .slice A n c] w (RefDid (.int .i64 0) B gr G lab cap (bs ++ [s]) w) := by
  have d1 : decide ((n : Int) < 1) = false := decide_eq_false (by omega)
  have d2 : decide (94 < (n : Int)) = false := decide_eq_false (by omega)
  obtain ⟨⟨v, us, hb, ht⟩, hlo⟩ := h
  obtain ⟨Av, Cv, rfl, _⟩ := ht.val
  have c1 : w.cell? ⟨gr, 1, none⟩ = some (.int .i64 cap) := heap_cell hb
  have c2 : w.cell? ⟨gr, 2, none⟩ = some (.slice Av bs.length Cv) := heap_cell hb
  have d3 : decide (cap ≤ (bs.length : Int)) = false := decide_eq_false (by omega)
  have hgr : gr < w.heap.size := heap_lt hb
  obtain ⟨b, off, rfl, _, hcs⟩ := hr (by omega)
  obtain ⟨N, hN⟩ : ∃ N, N = bs.length := ⟨_, rfl⟩
  rw [← hN] at c2 d3 hf
  have HN := Lib.hid hN
  have HM := Lib.hid hb
  have HT := Lib.hid ht
  have HCS := Lib.hid hcs
  have HSN := Lib.hid hn
  have HG := Lib.hid hG
  have hN64 : N ≤ 64 := by omega
  clear hN hb ht hcs hr hn hG
  go_enter Try.func14, Try.ntmps14
  go_wp2
  go_quiet (fail)
  go_wp2
  have hbd : Below w.heap.size w (w.drewN nq) := ⟨rfl, rfl, rfl, Nat.le_refl _, fun _ _ => rfl⟩
  generalize w.drewN nq = wr at hbd ⊢
  have hzr := hbd.size
  have hBr : B ≤ wr.heap.size := Nat.le_trans hBw hzr
  have a2 : wr.cell? ⟨gr, 2, none⟩ = some (.slice Av N Cv) := (hbd.cell (p := ⟨gr, 2, none⟩) hgr).trans c2
  have HBD := Lib.hid hbd
  clear c1 c2 hbd
  obtain ⟨i0, hi0, hz0, hz1, hz2⟩ := info_parts infoB
  obtain ⟨j0, hj0, hy0, hy1, hy2⟩ := info_parts infoRow
  have hownN : wr.drew.ownsRow wr.heap.size 5 1 (.slice none 0 0) 0 [] := World.ownsRow_nil _ _ _ _
  have hnewsN : ∀ j u, (cellsL s)[j]? = some u → wr.drew.cell? ((⟨b, off, none⟩ : Addr).add j) = some u := fun j u hu => by
    obtain ⟨hj, rfl⟩ := cellsL_some hu
    rw [addr_add]
    exact (HBD.out.cell (p := ⟨b, off + j, none⟩) (World.block_lt_of_cell? _ _ (HCS.out j hj))).trans (HCS.out j hj)
  have HOWN := Lib.hid hownN
  have HNEW := Lib.hid hnewsN
  have hne : some gr ≠ (Value.slice Av N Cv).ownBlock := fun e => by
    have ht := HT.out.top
    rw [← HN.out] at ht
    obtain ⟨x, hx⟩ := own_blk ht gr e.symm
    rw [HM.out] at hx
    injection hx with hx
    injection hx with _ e2
    exact absurd e2 (by decide)
  have HNE := Lib.hid hne
  have hUL : us.length = N := by rw [HT.out.len, HN.out]
  have HUL := Lib.hid hUL
  clear hownN hnewsN hne hUL
  go_region_law (first
    | (refine step_append_lies _ (by rfl) _ _ _ (by rfl) wr.heap.size 5 i0 _ 1 1 Try.underlying35 hi0 hz0 hz1 hz2 rfl (by omega) (.slice none 0 0) 0 [] (by rfl) HOWN.out ⟨b, off, none⟩ n c (cellsL s) (by rfl) (by rw [cellsL_len, HSN.out, Nat.mul_one]) HNEW.out cellsL_one (by omega) (by unfold maxLen; omega) (by omega) (by exact Nat.le_refl _) wr.heap.size (by rfl) ?_; intro ga capA wA hownA hgA hatA hltA; rw [Nat.zero_add] at hownA; have hbA : Below wr.heap.size wr wA := (⟨hgA.os, hgA.tape, hgA.output, hgA.size, fun k hk => hgA.block k hk (fun e => by cases e)⟩); have HOA := Lib.hid hownA; have HBA := Lib.hid hbA; have a2A : wA.cell? ⟨gr, 2, none⟩ = some (.slice Av N Cv) := (hbA.cell (p := ⟨gr, 2, none⟩) (Nat.lt_of_lt_of_le hgr hzr)).trans a2; have hgA' : gr < wA.heap.size := (Nat.lt_of_lt_of_le (Nat.lt_of_lt_of_le hgr hzr) hbA.size); clear hownA hgA hbA hatA)
    | (refine step_append_lies _ (by rfl) _ _ _ (by rfl) B 35 j0 _ 1 24 Try.underlying22 hj0 hy0 hy1 hy2 rfl (by omega) (.slice Av N Cv) N us (by rfl) (by have := (HT.out.old ((HBD.out.trans (HBA.out.mono HBD.out.size)).alloc (by have := HBD.out.size; have := HBA.out.size; omega) (.cells #[.slice (some ⟨ga, 0, none⟩) n capA] 35))).top; rw [HUL.out, ← HN.out] at this; exact this) ⟨wA.heap.size, 0, none⟩ 1 1 [.slice (some ⟨ga, 0, none⟩) n capA] (by rfl) (by rfl) (oneCellT wA _ _) (oneTop _ _ _) (by omega) (by unfold maxLen; omega) (by omega) (by have := HBD.out.size; have := HBA.out.size; simp; omega) (wA.heap.size + 1) (by simp) ?_; intro g2 cap2 wB hownB hgB hatB hltB; have hall := Rt.pushed HM.out HT.out hlo (HBD.out.trans (HBA.out.mono HBD.out.size)) (own_row HOA.out HSN.out hBr) (fun k hk => by cases hk; exact Nat.le_trans hzr (own_base HOA.out)) HG.out (by rw [HUL.out]; exact hownB) (by rw [HN.out] at hgB; exact hgB); have cB : wB.cell? ⟨gr, 2, none⟩ = some (.slice Av N Cv) := (World.cell?_of_block (hall.1.trans (HBD.out.block gr hgr).symm)).trans a2; have fB : wB.frozen? ⟨gr, 2, none⟩ = false := heap_frozen (hall.1.trans HM.out); have HALL := Lib.hid hall.2; clear hall hownB hgB hatB hltB))
  all_goals
    go_wp2
    go_ret
    exact ⟨rfl, HALL.out.1, HALL.out.2⟩
end Go.Proofs.Ytflcnghjhgfkfaa
