/- Append and Rot of a drive and of the document's own tape, whatever they are given. -/
import Derived.Test.YtflcnghjhgfkfaaTpActs
import Derived.Test.YtflcnghjhgfkfaaTpRefD
import Derived.Test.YtflcnghjhgfkfaaTpRefR
namespace Go.Proofs.Ytflcnghjhgfkfaa
open Go.RowKit
open Pt (Tx)

namespace Tp
/-- what Append says, and leaves -/
def apE (cap : Int) (cs : List Tx) (s : Tx) : Int := if s.length < 1 ∨ 94 < s.length then 1 else if cap ≤ (cs.length : Int) then 6 else 0
def apL (cap : Int) (cs : List Tx) (s : Tx) : List Tx := if s.length < 1 ∨ 94 < s.length then cs else if cap ≤ (cs.length : Int) then cs else cs ++ [s]
/-- what Rot says, and leaves -/
def roE (cs : List Tx) (n : Int) : Int := if n < 0 ∨ (cs.length : Int) ≤ n then 5 else 0
def roL (cs : List Tx) (n : Int) (t : Tx) : List Tx := if n < 0 ∨ (cs.length : Int) ≤ n then cs else cs.set n.toNat (rot (cs.getD n.toNat []) t)
end Tp
theorem kp_drewN {S : Nat → Prop} (w : World) (n : Nat) : Kp S w (w.drewN n) := (Kp.refl _ _).drewN _
theorem append_any (g : Nat) (lab most : Int) (cs : List Tx) (A : Option Addr) (s : Tx) (n c : Nat) (G : Nat → Prop) (w : World) (h : Dr w g lab most cs) (hn : s.length = n) (hr : RdL w A s G) :
    Calls Try.prog 13 #[.pointer (some ⟨g, 0, none⟩), .slice A n c] w (Turned (.int .i64 (Tp.apE most cs s)) g lab most (Tp.apL most cs s) w) := by
  unfold Tp.apE Tp.apL
  by_cases h1 : s.length < 1 ∨ 94 < s.length
  · rw [if_pos h1, if_pos h1]
    exact (append_bad g A n c w (by rw [← hn]; exact h1)).mono fun e w' ⟨he, hw⟩ => hw ▸ ⟨he, h, Kp.refl _ _⟩
  · rw [if_neg h1, if_neg h1]
    by_cases h2 : most ≤ (cs.length : Int)
    · rw [if_pos h2, if_pos h2]
      exact (append_full g lab most cs A n c w h (by omega) (by omega) h2).mono fun e w' ⟨he, q, hw⟩ => by
        subst hw
        exact ⟨he, h.of_block rfl, kp_drewN w q⟩
    · rw [if_neg h2, if_neg h2]
      exact append_ok g lab most cs A s n c G w h hn (by omega) (by omega) (by omega) hr
theorem refAppend_any (B gr : Nat) (G : Nat → Prop) (lab cap : Int) (cs : List Tx) (A : Option Addr) (s : Tx) (n c : Nat) (G' : Nat → Prop) (w : World) (h : Rt w B gr G lab cap cs) (hn : s.length = n) (hcap : cap ≤ 64) (hr : RdL w A s G') (hG : ∀ k, w.heap.size ≤ k → G k) (hBw : B ≤ w.heap.size) :
    Calls Try.prog 14 #[.pointer (some ⟨gr, 0, none⟩), .slice A n c] w (RefDid (.int .i64 (Tp.apE cap cs s)) B gr G lab cap (Tp.apL cap cs s) w) := by
  unfold Tp.apE Tp.apL
  by_cases h1 : s.length < 1 ∨ 94 < s.length
  · rw [if_pos h1, if_pos h1]
    exact (refAppend_bad gr A n c w (by rw [← hn]; exact h1)).mono fun e w' ⟨he, hw⟩ => hw ▸ ⟨he, h, RefT.refl _ _ _⟩
  · rw [if_neg h1, if_neg h1]
    by_cases h2 : cap ≤ (cs.length : Int)
    · rw [if_pos h2, if_pos h2]
      exact (refAppend_full B gr G lab cap cs A n c w h (by omega) (by omega) h2).mono fun e w' ⟨he, q, hw⟩ => by
        subst hw
        exact ⟨he, h.old ⟨rfl, rfl, rfl, Nat.le_refl _, fun _ _ => rfl⟩, kp_drewN w q⟩
    · rw [if_neg h2, if_neg h2]
      exact refAppend_ok B gr G lab cap cs A s n c G' w h hn (by omega) (by omega) (by omega) hcap hr hG hBw
theorem rot_any (g : Nat) (lab most : Int) (cs : List Tx) (w : World) (h : Dr w g lab most cs) (n : Int) (A : Option Addr) (t : Tx) (L C : Nat) (G : Nat → Prop) (hL : t.length = L) (hl : L ≤ 1000000) (hr : RdL w A t G) :
    Calls Try.prog 18 #[.pointer (some ⟨g, 0, none⟩), .int .i64 n, .slice A L C] w (Turned (.int .i64 (Tp.roE cs n)) g lab most (Tp.roL cs n t) w) := by
  unfold Tp.roE Tp.roL
  by_cases h1 : n < 0 ∨ (cs.length : Int) ≤ n
  · rw [if_pos h1, if_pos h1]
    exact (rot_no g lab most cs w h n h1 A L C).mono fun e w' ⟨he, hw⟩ => hw ▸ ⟨he, h, Kp.refl _ _⟩
  · rw [if_neg h1, if_neg h1]
    obtain ⟨N, rfl⟩ := Int.eq_ofNat_of_zero_le (by omega : 0 ≤ n)
    have hN : N < cs.length := by omega
    rw [Int.toNat_natCast, show cs.getD N [] = cs[N] from by rw [List.getD_eq_getElem?_getD, List.getElem?_eq_getElem hN]; rfl]
    exact rot_yes g lab most cs w h N hN A t L C G hL hl hr
theorem refRot_any (B gr : Nat) (G : Nat → Prop) (lab cap : Int) (cs : List Tx) (w : World) (h : Rt w B gr G lab cap cs) (n : Int) (A : Option Addr) (t : Tx) (L C : Nat) (hL : t.length = L) (hl : L ≤ 1000000) (hl64 : cs.length ≤ 64) (hr : RdL w A t (· < B)) (hBw : B ≤ w.heap.size) (h94 : ∀ s ∈ cs, 1 ≤ s.length ∧ s.length ≤ 94) :
    Calls Try.prog 19 #[.pointer (some ⟨gr, 0, none⟩), .int .i64 n, .slice A L C] w (RefDid (.int .i64 (Tp.roE cs n)) B gr G lab cap (Tp.roL cs n t) w) := by
  unfold Tp.roE Tp.roL
  by_cases h1 : n < 0 ∨ (cs.length : Int) ≤ n
  · rw [if_pos h1, if_pos h1]
    exact (refRot_no B gr G lab cap cs w h n h1 A L C).mono fun e w' ⟨he, hw⟩ => hw ▸ ⟨he, h, RefT.refl _ _ _⟩
  · rw [if_neg h1, if_neg h1]
    obtain ⟨N, rfl⟩ := Int.eq_ofNat_of_zero_le (by omega : 0 ≤ n)
    have hN : N < cs.length := by omega
    rw [Int.toNat_natCast, show cs.getD N [] = cs[N] from by rw [List.getD_eq_getElem?_getD, List.getElem?_eq_getElem hN]; rfl]
    exact refRot_yes B gr G lab cap cs w h N hN A t L C hL hl hl64 hr hBw h94
/-- both have been turned alike -/
theorem Both.step {W w w1 w2 : World} {g B gr : Nat} {G : Nat → Prop} {lab cap : Int} {cs ds : List Tx} (h : Both W w g B gr G lab cap cs) (hd : Dr w1 g lab cap ds) (hk : Kp (· = g) w w1) (hr : Rt w2 B gr G lab cap ds) (hf : RefT B G w1 w2) : Both W w2 g B gr G lab cap ds := by
  have hs : B ≤ w1.heap.size := Nat.le_trans h.le hk.size
  have hb := hf.below hs
  have h1 : Below W.heap.size W w1 := h.bel.trans (hk.below h.bel.size fun k hk' => by rw [hk']; exact h.lo)
  exact ⟨hd.of_block (hb.block g h.hi), hr, h.lo, h.hi, Nat.le_trans hs hf.size, h1.trans (hb.mono (Nat.le_trans h.lo (Nat.le_of_lt h.hi)))⟩
theorem Both.old {W w w' : World} {g B gr : Nat} {G : Nat → Prop} {lab cap : Int} {cs : List Tx} (h : Both W w g B gr G lab cap cs) (hb : Below w.heap.size w w') : Both W w' g B gr G lab cap cs :=
  ⟨h.d.old hb, h.r.old hb, h.lo, h.hi, Nat.le_trans h.le hb.size, h.bel.trans (hb.mono h.bel.size)⟩
theorem Both.mono {W w : World} {g B gr : Nat} {G G' : Nat → Prop} {lab cap : Int} {cs : List Tx} (h : Both W w g B gr G lab cap cs) (hg : ∀ k, G k → G' k) : Both W w g B gr G' lab cap cs := ⟨h.d, h.r.mono hg, h.lo, h.hi, h.le, h.bel⟩
theorem kept_drive {w w' : World} {g q : Nat} {l m : Int} {ds : List Tx} {c : Array Value} {t : TypeId} {fr : Nat × Nat} (hd : Dr w g l m ds) (hk : Kp (· = g) w w') (hc : w.heap[q]? = some (.cells c t fr)) (ht : t ≠ 57) : w'.heap[q]? = some (.cells c t fr) := by
  refine (hk.block q (heap_lt hc) fun e => ?_).trans hc
  obtain ⟨x, hx, _⟩ := hd.mem
  rw [e, hx] at hc
  injection hc with hc
  injection hc with _ e2
  exact ht e2.symm
theorem OwnL.drive {w w' : World} {g base : Nat} {l m : Int} {ds : List Tx} {u : Value} {s : Tx} (h : OwnL w base u s) (hd : Dr w g l m ds) (hk : Kp (· = g) w w') : OwnL w' base u s := h.of_block fun q e => by
  obtain ⟨c, hc⟩ := h.block q e
  rw [hc]
  exact kept_drive hd hk hc (by decide)
theorem OwnL.refT {w w' : World} {B base : Nat} {G : Nat → Prop} {u : Value} {s : Tx} (h : OwnL w base u s) (hf : RefT B G w w') (hn : ∀ q, u.ownBlock = some q → ¬ G q) : OwnL w' base u s := h.of_block fun q e => by
  obtain ⟨c, hc⟩ := h.block q e
  rw [hc]
  exact hf.kept hc (by decide) (by decide) (hn q e)
/-- what is new is neither -/
theorem newG {w w1 : World} {B base ga : Nat} {u : Value} {s : Tx} (hu : OwnL w base u s) (hB : B ≤ w.heap.size) (hga : ga < w.heap.size) (hw : w.heap.size ≤ w1.heap.size) : ∀ k, w1.heap.size ≤ k → B ≤ k ∧ u.ownBlock ≠ some k ∧ k ≠ ga := fun k hk => ⟨by omega, fun e => by have := hu.lt k e; omega, by omega⟩
/-- the blocks of the tape are gone -/
theorem Rt.erased {w : World} {B gr : Nat} {G : Nat → Prop} {lab cap : Int} {cs : List Tx} (h : Rt w B gr G lab cap cs) : Rt (w.setCell ⟨gr, 2, none⟩ (.slice none 0 0)) B gr G lab cap [] ∧ RefT B G w (w.setCell ⟨gr, 2, none⟩ (.slice none 0 0)) := by
  obtain ⟨⟨v, us, hb, _⟩, hlo⟩ := h
  refine ⟨⟨⟨.slice none 0 0, [], by rw [heap_set hb]; rfl, TopB.nil _ _ _⟩, hlo⟩, (Kp.store w gr 2 _).mono fun k hk => ?_⟩
  rw [hk]
  exact ⟨hlo, .inr (.inl ⟨_, hb⟩)⟩
theorem Rt.rd {w : World} {B gr : Nat} {G : Nat → Prop} {lab cap : Int} {cs : List Tx} (h : Rt w B gr G lab cap cs) : ∃ Av Cv, w.heap[gr]? = some (.cells #[.int .i64 lab, .int .i64 cap, .slice Av cs.length Cv, .bool false] 24 (0, 0)) ∧ cs.length ≤ Cv ∧ RdB w Av cs (fun k => B ≤ k) := by
  obtain ⟨⟨v, us, hb, ht⟩, hlo⟩ := h
  obtain ⟨Av, Cv, rfl, hC, _⟩ := ht.val
  exact ⟨Av, Cv, hb, hC, ht.rdB⟩
/-- a row that is none of theirs is turned -/
theorem Both.row {W w : World} {g B gr base gu j S C : Nat} {G : Nat → Prop} {lab cap : Int} {ds : List Tx} {s : Tx} (h : Both W w g B gr G lab cap ds) (hu : OwnL w base (.slice (some ⟨gu, 0, none⟩) S C) s) (hG : ¬ G gu) (hlo : W.heap.size ≤ gu) (v : Value) : Both W (w.setCell ⟨gu, j, none⟩ v) g B gr G lab cap ds := by
  obtain ⟨c, hc⟩ := hu.block gu rfl
  have hK := Kp.store w gu j v
  have ne : ∀ (q : Nat) (c' : Array Value) (t : TypeId), t ≠ 5 → q = gu → w.heap[q]? ≠ some (.cells c' t (0, 0)) := fun q c' t ht hq e => by
    rw [hq, hc] at e; injection e with e; injection e with _ e2; exact ht e2.symm
  obtain ⟨x, hx, hxr⟩ := h.d.mem
  obtain ⟨v', us, hb, _⟩ := h.r.ex
  refine ⟨h.d.kp hK (fun e => ne g x _ (by decide) e hx), h.r.kp hK (fun e => ne gr _ _ (by decide) e hb) (fun q c' hq => ne q c' _ (by decide) hq) (fun q hq => by rw [hq]; exact hG), h.lo, h.hi, ?_, h.bel.setCell hlo _⟩
  have := h.le
  simpa [World.setCell] using this
theorem own_some {w : World} {base S C : Nat} {A : Option Addr} {s : Tx} (h : OwnL w base (.slice A S C) s) (h0 : 0 < s.length) : ∃ gu, A = some ⟨gu, 0, none⟩ ∧ base ≤ gu := by
  rcases h.2 with ⟨_, h1⟩ | ⟨g, cap, cur, e, hb, _⟩
  · omega
  · injection e with e1
    exact ⟨g, e1, hb⟩
theorem room_as (g : Nat) (lab most : Int) (bs : List Tx) (w : World) (h : Dr w g lab most bs) (n : Nat) (hn : bs.length = n) :
    Calls Try.prog 22 #[.pointer (some ⟨g, 0, none⟩)] w fun e w' => e = .returned (.int .i64 (most - (n : Int))) ∧ Below w.heap.size w w' := by
  subst hn
  exact (room_any g lab most bs w h).mono fun e w' ⟨he, q, hw⟩ => by subst hw; exact ⟨he, ⟨rfl, rfl, rfl, Nat.le_refl _, fun _ _ => rfl⟩⟩
theorem numQ (n : Int) (w : World) : Calls Try.prog 12 #[.int .i64 n] w fun e w' => e = .returned (.int .i64 n) ∧ w' = w := (num_any n w).mono fun _ _ ⟨he, hw⟩ => ⟨he, hw.symm⟩
end Go.Proofs.Ytflcnghjhgfkfaa
