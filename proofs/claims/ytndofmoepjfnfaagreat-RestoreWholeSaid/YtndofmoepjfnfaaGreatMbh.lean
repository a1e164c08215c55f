/- Rows of bytes laid one by one into a slice that has room for all; which unit lies where. The document's own row of units: what lies in it, and what stores into one of them leave. What the document's own Blocks answers. -/
import Derived.Test.YtndofmoepjfnfaaGreatMbg
import Derived.Test.YtndofmoepjfnfaaGreatMad
import Derived.Test.YtndofmoepjfnfaaGreatMak
import Derived.Test.YtndofmoepjfnfaaGreatMam
import Derived.Test.YtndofmoepjfnfaaGreatMbc
import Derived.Test.YtndofmoepjfnfaaGreatMay
namespace Go.Proofs.YtndofmoepjfnfaaGreat
open Go.RowKit
open Pt (Tx)

/-- v is a slice of the call's own, in block M with room for K, whose rows us read as bs and lie behind M -/
structure TopR (w : World) (B M K : Nat) (us : List Value) (bs : List Tx) : Prop where
  top : w.ownsRow B 22 1 (.slice (some ⟨M, 0, none⟩) us.length K) us.length us
  len : us.length = bs.length
  rows : ∀ i (h : i < us.length) (h' : i < bs.length), ∃ A C, us[i] = .slice A bs[i].length C ∧ bs[i].length ≤ C ∧ (A = none → bs[i].length = 0 ∧ C = 0) ∧ RdL w A bs[i] (M < ·)
namespace TopR
variable {w w' : World} {B M K : Nat} {us : List Value} {bs : List Tx}
theorem block (h : TopR w B M K us bs) : ∃ c, w.heap[M]? = some (.cells c 22 (0, 0)) := by
  rcases h.top.2 with ⟨e, _⟩ | ⟨g, cap, cur, e, _, hg, _⟩
  · cases e
  · cases e; exact ⟨cur, hg⟩
theorem lt (h : TopR w B M K us bs) : M < w.heap.size := by obtain ⟨c, hc⟩ := h.block; exact heap_lt hc
theorem lo (h : TopR w B M K us bs) : B ≤ M := (World.ownsRow.lt h.top M rfl).1
theorem old (h : TopR w B M K us bs) (hb : Below w.heap.size w w') : TopR w' B M K us bs := by
  refine ⟨⟨h.top.1, ?_⟩, h.len, fun i hi hi' => ?_⟩
  · rcases h.top.2 with ⟨e, _⟩ | ⟨g, cap, cur, e, hB, hg, hr⟩
    · cases e
    · exact .inr ⟨g, cap, cur, e, hB, (hb.block g (heap_lt hg)).trans hg, hr⟩
  · obtain ⟨A, C, h1, h2, h3, h4⟩ := h.rows i hi hi'
    exact ⟨A, C, h1, h2, h3, h4.old hb⟩
/-- a row more -/
theorem push (h : TopR w B M K us bs) {w1 : World} (hw : Below w.heap.size w w1) {A : Option Addr} {C : Nat} {s : Tx} (h2 : s.length ≤ C) (h3 : A = none → s.length = 0 ∧ C = 0) (h4 : RdL w1 A s (M < ·))
    (ho : w'.ownsRow B 22 1 (.slice (some ⟨M, 0, none⟩) (us.length + 1) K) (us.length + 1) (us ++ [.slice A s.length C])) (hg : w1.grownBy w' (some M)) : TopR w' B M K (us ++ [.slice A s.length C]) (bs ++ [s]) := by
  have keep : ∀ {A' : Option Addr} {l : Tx}, RdL w1 A' l (M < ·) → RdL w' A' l (M < ·) := fun {A' l} hx => hx.keep fun p u hp hc =>
    (World.cell?_of_block (hg.block _ (World.block_lt_of_cell? _ _ hc) (fun e => by cases e; omega))).trans hc
  refine ⟨by rw [List.length_append]; exact ho, by simp [h.len], fun i hi hi' => ?_⟩
  rcases Nat.lt_or_ge i us.length with hl | hl
  · have hl' : i < bs.length := by rw [← h.len]; exact hl
    obtain ⟨A', C', g1, g2, g3, g4⟩ := h.rows i hl hl'
    rw [List.getElem_append_left hl, List.getElem_append_left hl']
    exact ⟨A', C', g1, g2, g3, keep (g4.old hw)⟩
  · have : i = us.length := by simp at hi; omega
    subst this
    have e2 : (bs ++ [s])[us.length] = s := by simp [h.len]
    rw [e2]
    simp only [List.getElem_concat_length]
    exact ⟨A, C, rfl, h2, h3, keep h4⟩
/-- as what reads -/
theorem rdB (h : TopR w B M K us bs) : RdB w (some ⟨M, 0, none⟩) bs (B ≤ ·) := by
  intro hn
  rcases h.top.2 with ⟨e, _⟩ | ⟨g, cap, cur, e, hB, hg, hnc, _, hs, ht⟩
  · cases e
  · cases e
    refine ⟨M, 0, rfl, hB, fun i hi => ?_⟩
    have hi' : i < us.length := by rw [h.len]; exact hi
    obtain ⟨A', C', hv, h1, h2, h3⟩ := h.rows i hi' hi
    refine ⟨A', C', ?_, h1, h2, h3.mono fun x hx => by omega⟩
    have hx : us[i]? = some (.slice A' bs[i].length C') := by rw [List.getElem?_eq_getElem hi', hv]
    rw [← ht, List.getElem?_take, if_pos (by omega), Array.getElem?_toList] at hx
    rw [Nat.zero_add, heap_cell hg, hx]
end TopR
theorem chunk_of {b : Tx} {k : Nat} : (Vo.chunk b k).length = min 64 (b.length - 64 * k) := by
  unfold Vo.chunk; rw [List.length_take, List.length_drop]
/-- the unit i, as it lies in the row -/
theorem uv_is {h : Rc.H} {b : Tx} {lab at_ : Int} {A Ah : Option Addr} {nh Ch bb off L : Nat} (hOk : Rc.Ok h) (hL : L = b.length) (hnh : nh = (Rc.put h).length) (hch : nh ≤ Ch) (hz : Ah = none → nh = 0 ∧ Ch = 0) (hA : 0 < L → A = some ⟨bb, off, none⟩) {i : Nat} (hi : i < Vo.data L + 2) :
    ∃ u uv, (Vo.units lab at_ h b)[i]? = some u ∧ (uvs Ah nh Ch (pcs bb off L (Vo.data L)) ++ [⟨4, none, 0, 0⟩])[i]? = some uv ∧ uv.kind = u.kind ∧ uv.n = u.load.length ∧ (uv.A = none → uv.n = 0 ∧ uv.C = 0) ∧ uv.n ≤ uv.C
      ∧ ∀ (W : World) (G : Nat → Prop), RdL W Ah (Rc.put h) G → RdL W A b G → RdL W uv.A u.load G := by
  subst hL
  by_cases h0 : i = 0
  · subst h0
    refine ⟨_, _, Vo.units_zero lab at_ h b, rfl, rfl, ?_, hz, hch, fun W G h1 _ => ?_⟩
    · show nh = (Rc.blk h).length
      rw [hnh, Rc.put_ok hOk]
    · show RdL W Ah (Rc.blk h) G
      rw [← Rc.put_ok hOk]; exact h1
  · obtain ⟨k, rfl⟩ : ∃ k, i = k + 1 := ⟨i - 1, by omega⟩
    by_cases hk : k < Vo.data b.length
    · have hlt : 64 * k < b.length := by unfold Vo.data at hk; omega
      refine ⟨_, pu (pcAt bb off b.length k), Vo.units_data hk, ?_, rfl, ?_, (fun h => by cases h), Nat.le_refl _, fun W G _ h2 => ?_⟩
      · rw [List.getElem?_append_left (by simp [uvs, pcs]; omega)]
        unfold uvs
        rw [List.getElem?_cons_succ, List.getElem?_map, pcs, List.getElem?_map, List.getElem?_range hk]
        rfl
      · show min 64 (b.length - 64 * k) = (Vo.chunk b k).length
        rw [chunk_of]
      · rw [hA (by omega)] at h2
        exact (h2.drop (64 * k)).take 64
    · obtain rfl : k = Vo.data b.length := by omega
      refine ⟨_, ⟨4, none, 0, 0⟩, Vo.units_mark lab at_ h b, ?_, rfl, rfl, fun _ => ⟨rfl, rfl⟩, Nat.le_refl _, fun W G _ _ => RdL.empty _ _ _⟩
      simp [uvs, pcs]
end Go.Proofs.YtndofmoepjfnfaaGreat
namespace Go.Proofs.YtndofmoepjfnfaaGreat
open Go.RowKit
open Pt (Tx)

/-- the document's own piece k: a piece of the bytes, with all that is behind as room -/
def pcR (b off L C k : Nat) : Pc := ⟨some ⟨b, off + 64 * k, none⟩, min 64 (L - 64 * k), C - 64 * k⟩
def pcsR (b off L C k : Nat) : List Pc := (List.range k).map (pcR b off L C)
theorem pcsR_succ (b off L C k : Nat) : pcsR b off L C (k + 1) = pcsR b off L C k ++ [pcR b off L C k] := by simp [pcsR, List.range_succ]
/-- the unit i, as it lies in the document's own row -/
theorem uvR_is {h : Rc.H} {b : Tx} {lab at_ : Int} {A Ah : Option Addr} {nh Ch bb off L C : Nat} (hOk : Rc.Ok h) (hL : L = b.length) (hC : L ≤ C) (hnh : nh = (Rc.put h).length) (hz : Ah = none → nh = 0 ∧ Ch = 0) (hA : 0 < L → A = some ⟨bb, off, none⟩) {i : Nat} (hi : i < Vo.data L + 2) :
    ∃ u uv, (Vo.units lab at_ h b)[i]? = some u ∧ (uvs Ah nh Ch (pcsR bb off L C (Vo.data L)) ++ [⟨4, none, 0, 0⟩])[i]? = some uv ∧ uv.kind = u.kind ∧ uv.n = u.load.length ∧ (uv.A = none → uv.n = 0 ∧ uv.C = 0)
      ∧ ∀ (W : World) (G : Nat → Prop), RdL W Ah (Rc.put h) G → RdL W A b G → RdL W uv.A u.load G := by
  subst hL
  by_cases h0 : i = 0
  · subst h0
    refine ⟨_, _, Vo.units_zero lab at_ h b, rfl, rfl, ?_, hz, fun W G h1 _ => ?_⟩
    · show nh = (Rc.blk h).length
      rw [hnh, Rc.put_ok hOk]
    · show RdL W Ah (Rc.blk h) G
      rw [← Rc.put_ok hOk]; exact h1
  · obtain ⟨k, rfl⟩ : ∃ k, i = k + 1 := ⟨i - 1, by omega⟩
    by_cases hk : k < Vo.data b.length
    · have hlt : 64 * k < b.length := by unfold Vo.data at hk; omega
      refine ⟨_, pu (pcR bb off b.length C k), Vo.units_data hk, ?_, rfl, ?_, (fun h => by cases h), fun W G _ h2 => ?_⟩
      · rw [List.getElem?_append_left (by simp [uvs, pcsR]; omega)]
        unfold uvs
        rw [List.getElem?_cons_succ, List.getElem?_map, pcsR, List.getElem?_map, List.getElem?_range hk]
        rfl
      · show min 64 (b.length - 64 * k) = (Vo.chunk b k).length
        rw [chunk_of]
      · rw [hA (by omega)] at h2
        exact (h2.drop (64 * k)).take 64
    · obtain rfl : k = Vo.data b.length := by omega
      refine ⟨_, ⟨4, none, 0, 0⟩, Vo.units_mark lab at_ h b, ?_, rfl, rfl, fun _ => ⟨rfl, rfl⟩, fun W G _ _ => RdL.empty _ _ _⟩
      simp [uvs, pcsR]
/-- the units from i on lie as they were laid -/
def Lay (w : World) (g N i : Nat) (us : List Uv) : Prop :=
  ∃ c, w.heap[g]? = some (.cells c 48 (0, 0)) ∧ N * 4 ≤ c.size ∧ ∀ j uv, i ≤ j → us[j]? = some uv → c[j * 4]? = some (.int .i64 uv.kind) ∧ c[j * 4 + 3]? = some (.slice uv.A uv.n uv.C)
theorem Lay.of_own {w : World} {B : Nat} {v : Value} {us : List Uv} (h : encU.Own w B 48 v us) (hp : 0 < us.length) : ∃ g cap, v = .slice (some ⟨g, 0, none⟩) us.length cap ∧ us.length ≤ cap ∧ B ≤ g ∧ Lay w g us.length 0 us := by
  rcases h.2 with ⟨_, h0⟩ | ⟨g, cap, cur, e, hB, hg, hnc, hcm, hs, ht⟩
  · omega
  · refine ⟨g, cap, e, hnc, hB, cur, hg, ?_, fun j uv _ hu => ?_⟩
    · have : cur.size = cap * 4 := hs
      omega
    · obtain ⟨hj, he⟩ := List.getElem?_eq_some_iff.1 hu
      have hx : ∀ r, r < 4 → cur[j * 4 + r]? = (cells4 uv)[r]? := fun r hr => by
        have h1 := encU.cells_get us j r hr hj
        rw [he] at h1
        have h2 : (encU.cells us)[j * 4 + r]? = cur[j * 4 + r]? := by
          rw [← ht, List.getElem?_take, if_pos (by show j * 4 + r < us.length * 4; omega), Array.getElem?_toList]
        exact h2.symm.trans h1
      exact ⟨hx 0 (by decide), hx 3 (by decide)⟩
theorem Lay.kp {S : Nat → Prop} {w w' : World} {g N i : Nat} {us : List Uv} (h : Lay w g N i us) (hk : Kp S w w') (hs : ¬ S g) : Lay w' g N i us := by
  obtain ⟨c, hc, hr⟩ := h
  exact ⟨c, (hk.block g (heap_lt hc) hs).trans hc, hr⟩
theorem Lay.lt {w : World} {g N i : Nat} {us : List Uv} (h : Lay w g N i us) : g < w.heap.size := by obtain ⟨c, hc, _⟩ := h; exact heap_lt hc
theorem Lay.old {w w' : World} {g N i : Nat} {us : List Uv} (h : Lay w g N i us) (hb : Below w.heap.size w w') : Lay w' g N i us := h.kp (S := fun _ => False) (Kp.of_below hb) (fun h => h)
/-- what a store into another of a unit's cells leaves -/
theorem Lay.set {w : World} {g N i r : Nat} {us : List Uv} (h : Lay w g N i us) (hr : r = 1 ∨ r = 2) (v : Value) : Lay (w.setCell ⟨g, i * 4 + r, none⟩ v) g N i us := by
  obtain ⟨c, hc, hs, hl⟩ := h
  refine ⟨_, heap_set hc v, by simpa using hs, fun j uv hj hu => ?_⟩
  obtain ⟨h1, h2⟩ := hl j uv hj hu
  rw [Array.getElem?_setIfInBounds, if_neg (by omega), Array.getElem?_setIfInBounds, if_neg (by omega)]
  exact ⟨h1, h2⟩
theorem Lay.next {w : World} {g N i : Nat} {us : List Uv} (h : Lay w g N i us) : Lay w g N (i + 1) us := by
  obtain ⟨c, hc, hs, hl⟩ := h
  exact ⟨c, hc, hs, fun j uv hj hu => hl j uv (by omega) hu⟩
/-- the cells of unit i -/
theorem Lay.cells {w : World} {g N i : Nat} {us : List Uv} {uv : Uv} (h : Lay w g N i us) (hi : i < N) (hu : us[i]? = some uv) : w.cell? ⟨g, i * 4, none⟩ = some (.int .i64 uv.kind) ∧ (∃ v, w.cell? ⟨g, i * 4 + 1, none⟩ = some v) ∧ (∃ v, w.cell? ⟨g, i * 4 + 2, none⟩ = some v) ∧ w.cell? ⟨g, i * 4 + 3, none⟩ = some (.slice uv.A uv.n uv.C)
    ∧ (∀ r, w.frozen? ⟨g, i * 4 + r, none⟩ = false) := by
  obtain ⟨c, hc, hs, hl⟩ := h
  obtain ⟨h1, h2⟩ := hl i uv (Nat.le_refl _) hu
  exact ⟨by rw [heap_cell hc]; exact h1, ⟨_, by rw [heap_cell hc]; exact Array.getElem?_eq_getElem (by omega)⟩, ⟨_, by rw [heap_cell hc]; exact Array.getElem?_eq_getElem (by omega)⟩, by rw [heap_cell hc]; exact h2, fun r => heap_frozen hc⟩
/-- a cell that was just stored -/
theorem Lay.got {w : World} {g N i r : Nat} {us : List Uv} (h : Lay w g N i us) (hi : i < N) (hr : r = 1 ∨ r = 2) (v : Value) : (w.setCell ⟨g, i * 4 + r, none⟩ v).cell? ⟨g, i * 4 + r, none⟩ = some v := by
  obtain ⟨c, hc, hs, hl⟩ := h
  rw [heap_cell (heap_set hc v), Array.getElem?_setIfInBounds, if_pos rfl, if_pos (by omega)]
theorem Lay.othr {w : World} {g N i r r' : Nat} {us : List Uv} {x : Value} (h : Lay w g N i us) (hr : r ≠ r') (hx : w.cell? ⟨g, i * 4 + r', none⟩ = some x) (v : Value) : (w.setCell ⟨g, i * 4 + r, none⟩ v).cell? ⟨g, i * 4 + r', none⟩ = some x := by
  obtain ⟨c, hc, hs, hl⟩ := h
  rw [heap_cell hc] at hx
  rw [heap_cell (heap_set hc v), Array.getElem?_setIfInBounds, if_neg (by omega)]
  exact hx
/-- what is of another kind stays when a row grows -/
theorem blk_kept {w w' : World} {B : Nat} {t t' : TypeId} {v : Value} {n : Nat} {xs : List Value} (h : w.ownsRow B t 1 v n xs) (hg : w.grownBy w' v.ownBlock) {k : Nat} {c : Array Value} (hk : w.heap[k]? = some (.cells c t' (0, 0))) (ht : t' ≠ t) : w'.heap[k]? = w.heap[k]? :=
  hg.block k (heap_lt hk) fun e => by
    obtain ⟨c', hc'⟩ := own_blk h k e.symm
    rw [hk] at hc'
    injection hc' with hc'
    injection hc' with _ e2
    exact ht e2
/-- the state while blocks are made of units -/
structure Bs2 (w : World) (gU N i : Nat) (us : List Uv) (hv : Value) (ht : Tx) (vo : Value) (rs : List Value) (bs : List Tx) (x : World) : Prop where
  top : TopB x w.heap.size (w.heap.size ≤ ·) vo rs bs
  lay : Lay x gU N i us
  hd : OwnL x w.heap.size hv ht
  bel : Below w.heap.size w x
  lo : w.heap.size ≤ gU
namespace Bs2
variable {w x y z : World} {gU N i : Nat} {us : List Uv} {hv vo : Value} {ht : Tx} {rs : List Value} {bs : List Tx}
theorem old (h : Bs2 w gU N i us hv ht vo rs bs x) (hb : Below x.heap.size x y) : Bs2 w gU N i us hv ht vo rs bs y :=
  ⟨h.top.old hb, h.lay.old hb, h.hd.of_block fun k e => hb.block k (h.hd.lt k e), h.bel.trans (hb.mono h.bel.size), h.lo⟩
theorem next (h : Bs2 w gU N i us hv ht vo rs bs x) : Bs2 w gU N (i + 1) us hv ht vo rs bs x := ⟨h.top, h.lay.next, h.hd, h.bel, h.lo⟩
theorem set (h : Bs2 w gU N i us hv ht vo rs bs x) {r : Nat} (hr : r = 1 ∨ r = 2) (v : Value) : Bs2 w gU N i us hv ht vo rs bs (x.setCell ⟨gU, i * 4 + r, none⟩ v) := by
  have hk : Kp (· = gU) x (x.setCell ⟨gU, i * 4 + r, none⟩ v) := Kp.store _ _ _ _
  obtain ⟨c, hc, _⟩ := h.lay
  have hne : ∀ {k : Nat} {c' : Array Value} {t : TypeId}, t ≠ 48 → x.heap[k]? = some (.cells c' t (0, 0)) → k ≠ gU := fun {k c' t} ht hk' e => by
    subst e
    rw [hc] at hk'
    injection hk' with hk'
    injection hk' with _ e2
    exact ht e2.symm
  refine ⟨h.top.kpT hk (fun k c' e hk' => hne (by decide) hk' e) (fun k c' e hk' => hne (by decide) hk' e), h.lay.set hr v, h.hd.kp hk fun k e => ?_, h.bel.trans (hk.below h.bel.size fun k e => by have := h.lo; omega), h.lo⟩
  obtain ⟨c', hc'⟩ := h.hd.block k e
  exact hne (by decide) hc'
theorem push (h : Bs2 w gU N i us hv ht vo rs bs x) (hw : Below x.heap.size x y) {u : Value} {s : Tx} (hu : OwnL y x.heap.size u s) {vo' : Value} (ho : z.ownsRow w.heap.size 22 1 vo' (rs.length + 1) (rs ++ [u])) (hg : y.grownBy z vo.ownBlock) : Bs2 w gU N i us hv ht vo' (rs ++ [u]) (bs ++ [s]) z := by
  have h1 := h.old hw
  have hlo := h.bel.size
  refine ⟨h.top.push hw (hu.lower hlo) (fun k e => hu.lo k e) (fun k e => Nat.le_trans hlo (hu.lo k e)) ho hg, ?_, h1.hd.of_block fun k e => ?_, h1.bel.grown hg h1.bel.size fun k e => (World.ownsRow.lt h1.top.top k e).1, h.lo⟩
  · obtain ⟨c, hc, hr⟩ := h1.lay
    exact ⟨c, (blk_kept h1.top.top hg hc (by decide)).trans hc, hr⟩
  · obtain ⟨c, hc⟩ := h1.hd.block k e
    exact blk_kept h1.top.top hg hc (by decide)
end Bs2
end Go.Proofs.YtndofmoepjfnfaaGreat
namespace Go.Proofs.YtndofmoepjfnfaaGreat
open Go.RowKit
open Pt (Tx)

/-- what the document's own Blocks answers: rows of its own, no two in one block -/
def RefBl (lab at_ : Int) (h : Rc.H) (b : Tx) (w : World) (e : Ending) (w' : World) : Prop :=
  ∃ v us, e = .returned (.tuple #[v, .int .i64 (Vo.err lab at_ h b)]) ∧ TopB w' w.heap.size (w.heap.size ≤ ·) v us (Vo.put lab at_ h b) ∧ Below w.heap.size w w'
theorem RefBl.no {lab at_ : Int} {h : Rc.H} {b : Tx} {w w' : World} (hn : ¬ Vo.Right lab at_ h b) (hb : Below w.heap.size w w') : RefBl lab at_ h b w (.returned (.tuple #[.slice none 0 0, .int .i64 1])) w' :=
  ⟨_, [], by rw [Vo.err_no hn], by rw [Vo.put_no hn]; exact TopB.nil _ _ _, hb⟩
set_option maxRecDepth 100000 in
set_option maxHeartbeats 2000000 in
theorem refBlocks_no (lab at_ : Int) (p : Tx) (v z f l s m : Int) (g : Bool) (A : Option Addr) (b : Tx) (L C : Nat) (w : World) (hp : p.length ≤ maxLen) (hL : L = b.length) (hn : ¬ (Rc.Ok ⟨p, v, z, f, l, s, m, g⟩ ∧ (b.length : Int) = l)) :
    Calls Tryz.prog 15 #[.int .i64 lab, .int .i64 at_, .agg #[.string (tx p), .int .i64 v, .int .i64 z, .int .i64 f, .int .i64 l, .int .i64 s, .int .i64 m, .bool g], .slice A L C] w (RefBl lab at_ ⟨p, v, z, f, l, s, m, g⟩ b w) := by
  have HN : Hid (¬ Vo.Right lab at_ ⟨p, v, z, f, l, s, m, g⟩ b) := Lib.hid fun h => hn h.1
  obtain ⟨wa, hwa⟩ : ∃ wa, wa = w.alloc (headObj p v z f l s m g) := ⟨_, rfl⟩
  have hB : Below w.heap.size w wa := by rw [hwa]; exact (Below.refl _ _).alloc (Nat.le_refl _) _
  have hH : wa.heap[w.heap.size]? = some (headObj p v z f l s m g) := by rw [hwa]; exact Go.Deep.blk_alloc_new _ _
  have hcall := refRightHead_any p v z f l s m g wa hp
  have HB := Lib.hid hB
  have HH := Lib.hid hH
  have HW := Lib.hid hwa
  unfold headObj at HW
  have hcase : decide (Rc.Ok ⟨p, v, z, f, l, s, m, g⟩) = false ∨ (decide (Rc.Ok ⟨p, v, z, f, l, s, m, g⟩) = true ∧ ((L : Int) != l) = true) := by
    by_cases h : Rc.Ok ⟨p, v, z, f, l, s, m, g⟩
    · refine .inr ⟨decide_eq_true h, bne_iff_ne.2 fun e => hn ⟨h, by rw [← hL]; exact e⟩⟩
    · exact .inl (decide_eq_false h)
  clear hB hH hwa hn hL
  rcases hcase with q1 | ⟨q1, q2⟩
  all_goals
    rw [q1] at hcall
    have HC := Lib.hid hcall
    clear hcall q1
    go_enter Tryz.func15, Tryz.ntmps15
    go_wp2_with fail
    rw [← HW.out]
    refine HC.out.mono ?_
    rintro e w1 ⟨rfl, hb1⟩
    obtain ⟨a0, a1, a2, a3, a4, a5, a6, a7⟩ := head8 (below_head hb1 HH.out)
    have HB1 := Lib.hid (HB.out.trans (hb1.mono HB.out.size))
    clear hb1
    go_wp2
    go_ret2
    exact RefBl.no HN.out HB1.out
/-- a row of bytes stays as it was when a list of structs grows -/
theorem own_kept {α : Type} {E : Enc α} {w w' : World} {B B' : Nat} {t : TypeId} {v x : Value} {us : List α} {l : Tx} (hU : E.Own w B t v us) (ht : t ≠ 5) (hO : OwnL w B' x l) (hg : w.grownBy w' v.ownBlock) : OwnL w' B' x l :=
  hO.of_block fun k e => hg.block k (hO.lt k e) fun e' => by
    obtain ⟨c, hc⟩ := hU.block k e'.symm
    obtain ⟨c', hc'⟩ := hO.block k e
    rw [hc] at hc'
    injection hc' with hc'
    injection hc' with _ e2
    exact ht e2
theorem own_grown {α : Type} {E : Enc α} {w0 w w' : World} {t : TypeId} {v : Value} {us : List α} (hU : E.Own w w0.heap.size t v us) (hb : Below w0.heap.size w0 w) (hg : w.grownBy w' v.ownBlock) : Below w0.heap.size w0 w' :=
  hb.grown hg hb.size fun x hx => (hU.lt x hx).1
set_option maxRecDepth 100000 in
set_option maxHeartbeats 8000000 in
theorem refBlocks_main (lab at_ : Int) (p : Tx) (v z f l s m : Int) (g : Bool) (A : Option Addr) (b : Tx) (L C bb off : Nat) (G : Nat → Prop) (w : World) (hp : p.length ≤ maxLen) (hL : L = b.length) (hC : L ≤ C) (hCm : C ≤ maxLen) (hA : 0 < L → A = some ⟨bb, off, none⟩) (hr : RdL w A b G) (hOk : Rc.Ok ⟨p, v, z, f, l, s, m, g⟩) (hl : (b.length : Int) = l)
    (hat : -9223372036854775808 ≤ at_ ∧ at_ ≤ 9223372036854775807) :
    Calls Tryz.prog 15 #[.int .i64 lab, .int .i64 at_, .agg #[.string (tx p), .int .i64 v, .int .i64 z, .int .i64 f, .int .i64 l, .int .i64 s, .int .i64 m, .bool g], .slice A L C] w (RefBl lab at_ ⟨p, v, z, f, l, s, m, g⟩ b w) := by
  have hL4 : L ≤ 4000 := by obtain ⟨-, -, -, ⟨_, a⟩, b', c, d, _⟩ := hOk; rw [hL]; simp only at a b' c d; omega
  obtain ⟨D, hD⟩ : ∃ D, D = Vo.data L := ⟨_, rfl⟩
  obtain ⟨N, hN⟩ : ∃ N, N = D + 2 := ⟨_, rfl⟩
  have hD63 : D ≤ 63 := by rw [hD]; unfold Vo.data; omega
  have hDL : 64 * D < L + 64 ∧ L ≤ 64 * D := by rw [hD]; unfold Vo.data; omega
  obtain ⟨wa, hwa⟩ : ∃ wa, wa = w.alloc (headObj p v z f l s m g) := ⟨_, rfl⟩
  have hB : Below w.heap.size w wa := by rw [hwa]; exact (Below.refl _ _).alloc (Nat.le_refl _) _
  have hH : wa.heap[w.heap.size]? = some (headObj p v z f l s m g) := by rw [hwa]; exact Go.Deep.blk_alloc_new _ _
  have hcall := refRightHead_any p v z f l s m g wa hp
  rw [decide_eq_true hOk] at hcall
  have HC := Lib.hid hcall
  have HB := Lib.hid hB
  have HH := Lib.hid hH
  have HW := Lib.hid hwa
  unfold headObj at HW
  have q1 : ((L : Int) != l) = false := by rw [hL, hl]; simp
  have HR := Lib.hid (hr.in_.mono (fun x hx => hx.2) : RdL w A b (· < w.heap.size))
  have HP := Lib.hid hp
  have HL := Lib.hid hL
  have HOK := Lib.hid hOk
  have HLL := Lib.hid hl
  have HA := Lib.hid hA
  have HD := Lib.hid hD
  have HAT := Lib.hid hat
  have HN := Lib.hid hN
  have HDL := Lib.hid hDL
  have HCM := Lib.hid hCm
  have hN65 : N ≤ 65 ∧ 2 ≤ N := by omega
  clear hcall hB hH hwa hL hr hOk hl hA hD hat hN hDL hp hCm
  go_enter Tryz.func15, Tryz.ntmps15
  go_wp2_with fail
  rw [← HW.out]
  refine HC.out.mono ?_
  clear HC
  rintro e w1 ⟨rfl, hb1⟩
  have HH1 := Lib.hid (below_head hb1 HH.out)
  have HB1 := Lib.hid (HB.out.trans (hb1.mono HB.out.size))
  obtain ⟨a0, a1, a2, a3, a4, a5, a6, a7⟩ := head8 HH1.out
  clear hb1
  go_wp2_with fail
  refine (refHeadBytes_own p v z f l s m g w1 HP.out).mono ?_
  rintro e w2 ⟨Ah, nh, Ch, rfl, hO2, hb2⟩
  obtain ⟨A', C', e', -, -, hz, -⟩ := hO2.rd
  injection e' with x1 hnh x3
  subst x1 x3
  obtain ⟨w3, hw3⟩ : ∃ w3, w3 = w2.alloc (.cells #[.int .i64 2, .int .i64 0, .int .i64 0, .slice Ah nh Ch] 48) := ⟨_, rfl⟩
  have hb3 : Below w2.heap.size w2 w3 := by rw [hw3]; exact (Below.refl _ _).alloc (Nat.le_refl _) _
  have hk3 : w3.heap[w2.heap.size]? = some (.cells #[.int .i64 2, .int .i64 0, .int .i64 0, .slice Ah nh Ch] 48) := by rw [hw3]; exact Go.Deep.blk_alloc_new _ _
  have hB2 := HB1.out.trans (hb2.mono HB1.out.size)
  have HB3 := Lib.hid (hB2.trans (hb3.mono hB2.size))
  have HO3 := Lib.hid ((hO2.lower HB1.out.size).of_block (fun k e => hb3.block k (hO2.lt k e)))
  have HU3 : Hid (encU.Own w3 w.heap.size 48 (.slice (some ⟨w2.heap.size, 0, none⟩) 1 1) (uvs Ah nh Ch (pcsR bb off L C 0))) := Lib.hid (Enc.Own.one (E := encU) (x := ⟨2, Ah, nh, Ch⟩) hk3 hB2.size)
  have HNH := Lib.hid hnh
  have HZ : Hid (Ah = none → nh = 0 ∧ Ch = 0) := Lib.hid (fun h => by rw [hnh]; exact hz h)
  have HW3 := Lib.hid hw3
  clear hO2 hb2 hz hw3 hb3 hk3 hB2 hnh HH HH1 HB HB1 a0 a1 a2 a3 a4 a5 a6 a7 q1
  go_wp2_with fail
  rw [← HW3.out]
  clear HW3
  go_loopw [11, 10] (fun vi vl wr => ∃ k x : Nat, k ≤ D ∧ Hid (x = 64 * k) ∧ vi = .int .i64 (x : Int) ∧ Hid (encU.Own wr w.heap.size 48 vl (uvs Ah nh Ch (pcsR bb off L C k))) ∧ Hid (OwnL wr w.heap.size (.slice Ah nh Ch) (Rc.put ⟨p, v, z, f, l, s, m, g⟩)) ∧ Hid (Below w.heap.size w wr)) (fun vi _ _ => L + 64 - (intOf vi).toNat)
  case atStart => exact ⟨0, 0, Nat.zero_le _, Lib.hid rfl, rfl, HU3, HO3, HB3⟩
  case round =>
    obtain ⟨k, x, hk, HX, rfl, HU, HO, HB⟩ := hrel
    by_cases hlt : x < L
    · obtain ⟨e, he⟩ : ∃ e, e = min 64 (L - x) := ⟨_, rfl⟩
      have hpc : pcR bb off L C k = ⟨some ⟨bb, off + x, none⟩, e, C - x⟩ := by unfold pcR; rw [← HX.out, ← he]
      have HPN : Hid (uvs Ah nh Ch (pcsR bb off L C (k + 1)) = uvs Ah nh Ch (pcsR bb off L C k) ++ [⟨3, some ⟨bb, off + x, none⟩, e, C - x⟩]) := Lib.hid (by rw [pcsR_succ, uvs_snoc, hpc]; rfl)
      obtain rfl : A = some ⟨bb, off, none⟩ := HA.out (by omega)
      have HUL : Hid ((uvs Ah nh Ch (pcsR bb off L C k)).length = k + 1) := Lib.hid (by simp [uvs, pcsR])
      have hxC : x < C := by omega
      have HU4 := Lib.hid (HU.out.old (w' := wr.alloc (.cells (cells4 ⟨3, some ⟨bb, off + x, none⟩, e, C - x⟩).toArray 48)) ((Below.refl _ _).alloc (Nat.le_refl _) _))
      have hB4 := HB.out.alloc HB.out.size (.cells (cells4 ⟨3, some ⟨bb, off + x, none⟩, e, C - x⟩).toArray 48)
      have HB4 := Lib.hid hB4
      have hsz := HB.out.size
      clear hpc hB4
      by_cases hgt : L < x + 64
      · have hex : e = L - x := by omega
        subst hex
        clear he
        go_wp2_with (at_builtin; refine wpList_append_st' encU _ rfl _ _ _ rfl w.heap.size 48 _ 48 Tryz.underlying104 infoUnit rfl _ _ rfl HU4.out ⟨wr.heap.size, 0, none⟩ 1 1 [⟨3, some ⟨bb, off + x, none⟩, L - x, C - x⟩] rfl rfl (newCells wr (cells4 ⟨3, some ⟨bb, off + x, none⟩, L - x, C - x⟩) _) (by rw [HUL.out]; unfold maxLen; omega) (by rw [HUL.out]; omega) (by simp; omega) ?_; intro v' w4 hO4 hg4)
        rw [← HPN.out] at hO4
        have HO5 := Lib.hid (own_kept HU4.out (by decide) (HO.out.of_block fun k e => Below.heap_alloc _ _ _ (HO.out.lt k e)) hg4)
        have HB5 := Lib.hid (own_grown HU4.out HB4.out hg4)
        have HU5 := Lib.hid hO4
        clear hg4 hO4
        go_roundw
        case rel => exact ⟨k + 1, x + 64, by have := HDL.out; have := HX.out; omega, Lib.hid (by have := HX.out; omega), by go_num, HU5, HO5, HB5⟩
        case measure => simp [intOf]; omega
      · have hex : e = 64 := by omega
        subst hex
        clear he
        go_wp2_with (at_builtin; refine wpList_append_st' encU _ rfl _ _ _ rfl w.heap.size 48 _ 48 Tryz.underlying104 infoUnit rfl _ _ rfl HU4.out ⟨wr.heap.size, 0, none⟩ 1 1 [⟨3, some ⟨bb, off + x, none⟩, 64, C - x⟩] rfl rfl (newCells wr (cells4 ⟨3, some ⟨bb, off + x, none⟩, 64, C - x⟩) _) (by rw [HUL.out]; unfold maxLen; omega) (by rw [HUL.out]; omega) (by simp; omega) ?_; intro v' w4 hO4 hg4)
        rw [← HPN.out] at hO4
        have HO5 := Lib.hid (own_kept HU4.out (by decide) (HO.out.of_block fun k e => Below.heap_alloc _ _ _ (HO.out.lt k e)) hg4)
        have HB5 := Lib.hid (own_grown HU4.out HB4.out hg4)
        have HU5 := Lib.hid hO4
        clear hg4 hO4
        go_roundw
        case rel => exact ⟨k + 1, x + 64, by have := HDL.out; have := HX.out; omega, Lib.hid (by have := HX.out; omega), by go_num, HU5, HO5, HB5⟩
        case measure => simp [intOf]; omega
    · obtain rfl : k = D := by have := HX.out; have := HDL.out; omega
      obtain ⟨us, hus⟩ : ∃ us, us = uvs Ah nh Ch (pcsR bb off L C k) ++ [⟨4, none, 0, 0⟩] := ⟨_, rfl⟩
      have husl : us.length = N := by rw [hus, HN.out]; simp [uvs, pcsR]
      have HUL : Hid ((uvs Ah nh Ch (pcsR bb off L C k)).length = k + 1) := Lib.hid (by simp [uvs, pcsR])
      have HUV : Hid (∀ i, i < N → ∃ u uv, (Vo.units lab at_ ⟨p, v, z, f, l, s, m, g⟩ b)[i]? = some u ∧ us[i]? = some uv ∧ uv.kind = u.kind ∧ uv.n = u.load.length ∧ (uv.A = none → uv.n = 0 ∧ uv.C = 0)
          ∧ ∀ (W : World) (G : Nat → Prop), RdL W Ah (Rc.put ⟨p, v, z, f, l, s, m, g⟩) G → RdL W A b G → RdL W uv.A u.load G) := Lib.hid fun i hi => by
        rw [hus, HD.out]; exact uvR_is HOK.out HL.out hC HNH.out HZ.out HA.out (by rw [← HD.out, ← HN.out]; exact hi)
      have HUS := Lib.hid hus
      have HUSL := Lib.hid husl
      have HU4 := Lib.hid (HU.out.old (w' := wr.alloc (.cells (cells4 ⟨4, none, 0, 0⟩).toArray 48)) ((Below.refl _ _).alloc (Nat.le_refl _) _))
      have HB4 := Lib.hid (HB.out.alloc HB.out.size (.cells (cells4 ⟨4, none, 0, 0⟩).toArray 48))
      have hsz := HB.out.size
      clear hus husl HU3 HO3 HB3
      go_wp2_with (at_builtin; refine wpList_append_st' encU _ rfl _ _ _ rfl w.heap.size 48 _ 48 Tryz.underlying104 infoUnit rfl _ _ rfl HU4.out ⟨wr.heap.size, 0, none⟩ 1 1 [⟨4, none, 0, 0⟩] rfl rfl (newCells wr (cells4 ⟨4, none, 0, 0⟩) _) (by rw [HUL.out]; unfold maxLen; omega) (by rw [HUL.out]; omega) (by simp; omega) ?_; intro v' w4 hO4 hg4; rw [← HUS.out] at hO4; have HO5 := Lib.hid (own_kept HU4.out (by decide) (HO.out.of_block fun k e => Below.heap_alloc _ _ _ (HO.out.lt k e)) hg4); have HB5 := Lib.hid (own_grown HU4.out HB4.out hg4); obtain ⟨gU, cap, rfl, hcap, hgU, hLay⟩ := Lay.of_own hO4 (by rw [HUSL.out]; omega); rw [HUSL.out] at hLay hcap ⊢; have HLAY := Lib.hid hLay; have HGU := Lib.hid hgU; clear hg4 hO4 hLay hgU)
      have HS4 : Hid (Bs2 w gU N 0 us (.slice Ah nh Ch) (Rc.put ⟨p, v, z, f, l, s, m, g⟩) (.slice none 0 0) [] [] w4) := Lib.hid ⟨TopB.nil _ _ _, HLAY.out, HO5.out, HB5.out, HGU.out⟩
      clear HLAY HO5 HB5 HGU HU4 HB4 HU HO HB hsz HUL HX hlt hk
      go_loopw [14, 13] (fun vi vo wx => ∃ (i : Nat) (rs : List Value), i ≤ N ∧ rs.length = i ∧ vi = .int .i64 (i : Int) ∧ Hid (Bs2 w gU N i us (.slice Ah nh Ch) (Rc.put ⟨p, v, z, f, l, s, m, g⟩) vo rs (((Vo.units lab at_ ⟨p, v, z, f, l, s, m, g⟩ b).take i).map Fm.blk) wx) ∧ Hid (∀ j, j < i → Vo.Fits lab (at_ + (j : Int)) 0)) (fun vi _ _ => N - (intOf vi).toNat)
      case atStart => exact ⟨0, [], Nat.zero_le _, rfl, rfl, by rw [List.take_zero]; exact HS4, Lib.hid (fun j hj => absurd hj (by omega))⟩
      case round =>
        obtain ⟨i, rs, hi, hrs, rfl, HS, HF⟩ := hrel
        by_cases hlt : i < N
        · obtain ⟨⟨ku, lu, nu, ld⟩, ⟨kv, Av, nv, Cv⟩, hu, huv, e1, e2, e3, e5⟩ := HUV.out i hlt
          have e1' : kv = ku := e1
          have e2' : nv = ld.length := e2
          obtain ⟨hlu, hnu, -, -⟩ := Vo.units_at hu
          have hlu' : lu = lab := hlu
          have hnu' : nu = at_ + (i : Int) := hnu
          have herr := Vo.unit_err HOK.out hu
          subst e1' hlu'
          have HU := Lib.hid hu
          have HERR := Lib.hid herr
          have HNU := Lib.hid hnu'
          have HUVI := Lib.hid huv
          have HE2 := Lib.hid e2'
          have HE3 : Hid (Av = none → nv = 0 ∧ Cv = 0) := Lib.hid e3
          have HE5 : Hid (∀ (W : World) (G : Nat → Prop), RdL W Ah (Rc.put ⟨p, v, z, f, l, s, m, g⟩) G → RdL W A b G → RdL W Av ld G) := Lib.hid e5
          clear hu huv e1 e2 e3 e5 hlu hnu herr hnu' e2'
          obtain ⟨q, hq⟩ : ∃ q, q = wrap64 (at_ + (i : Int)) := ⟨_, rfl⟩
          have hq' : wrap64 (at_ + (i : Int)) = q := hq.symm
          have HQ := Lib.hid hq
          clear hq
          obtain ⟨x1, hx1⟩ : ∃ x1, x1 = wr.setCell ⟨gU, i * 4 + 1, none⟩ (.int .i64 lu) := ⟨_, rfl⟩
          obtain ⟨x2, hx2⟩ : ∃ x2, x2 = x1.setCell ⟨gU, i * 4 + 2, none⟩ (.int .i64 q) := ⟨_, rfl⟩
          have hS1 := HS.out.set (.inl rfl) (.int .i64 lu)
          rw [← hx1] at hS1
          have hS2 := hS1.set (.inr rfl) (.int .i64 q)
          rw [← hx2] at hS2
          have HS1 := Lib.hid hS1
          have HS2 := Lib.hid hS2
          obtain ⟨c0, ⟨v1, c1⟩, ⟨v2, c2⟩, c3, cf⟩ := HS.out.lay.cells hlt HUVI.out
          have f1 := cf 1
          obtain ⟨d0, ⟨w1', d1⟩, ⟨w2', d2⟩, d3, df⟩ := HS1.out.lay.cells hlt HUVI.out
          have f2 := df 2
          obtain ⟨g0, ⟨w3', g1'⟩, ⟨w4', g2'⟩, g3, gf⟩ := HS2.out.lay.cells hlt HUVI.out
          have f3 := gf 2
          have g2 : x2.cell? ⟨gU, i * 4 + 2, none⟩ = some (.int .i64 q) := by rw [hx2]; exact HS1.out.lay.got hlt (.inr rfl) _
          have g1 : x2.cell? ⟨gU, i * 4 + 1, none⟩ = some (.int .i64 lu) := by
            rw [hx2]
            exact HS1.out.lay.othr (by decide) (by rw [hx1]; exact HS.out.lay.got hlt (.inl rfl) _) _
          clear hS1 hS2 cf df gf g1' g2' w3' w4'
          have HX1 := Lib.hid hx1
          have HX2 := Lib.hid hx2
          rw [hx2] at g0 g1 g2 g3 f3
          rw [hx1] at d0 d1 d2 d3 f2 g0 g1 g2 g3 f3
          clear hx1 hx2
          by_cases hbig : 2147483648 < at_
          · obtain ⟨x3, hx3⟩ : ∃ x3, x3 = x2.setCell ⟨gU, i * 4 + 2, none⟩ (.int .i64 2147483648) := ⟨_, rfl⟩
            have hS3 := HS2.out.set (.inr rfl) (.int .i64 2147483648)
            rw [← hx3] at hS3
            have HS3 := Lib.hid hS3
            obtain ⟨k0, -, -, k3, -⟩ := HS3.out.lay.cells hlt HUVI.out
            have k2 : x3.cell? ⟨gU, i * 4 + 2, none⟩ = some (.int .i64 2147483648) := by rw [hx3]; exact HS2.out.lay.got hlt (.inr rfl) _
            have k1 : x3.cell? ⟨gU, i * 4 + 1, none⟩ = some (.int .i64 lu) := by
              rw [hx3]
              exact HS2.out.lay.othr (by decide) (by rw [HX2.out, HX1.out]; exact g1) _
            have HX3 := Lib.hid hx3
            rw [hx3, HX2.out, HX1.out] at k0 k1 k2 k3
            have hgd : decide (2147483648 < at_) = true := decide_eq_true hbig
            have hnf : ¬ Vo.Fits lu (at_ + (i : Int)) 0 := fun h => by have := h.2.2; omega
            clear hS3 hx3
            have hcall := refPut_own kv lu 2147483648 Av ld nv Cv _ x3 HE2.out HE3.out (HE5.out x3 (fun _ => True) (by
              obtain ⟨A', C', e', -, -, -, hh⟩ := HS3.out.hd.rd
              injection e' with y1 y2 y3
              subst y1
              exact hh.mono fun _ _ => trivial) ((HR.out.below HS3.out.bel).mono fun _ _ => trivial))
            have HCP := Lib.hid hcall
            clear hcall
            go_wp2_with fail
            rw [← HX1.out, ← HX2.out, ← HX3.out]
            refine HCP.out.mono ?_
            rintro e w5 ⟨A5, n5, C5, rfl, hO5, hb5⟩
            clear HCP c0 c1 c2 c3 d0 d1 d2 d3 g0 g1 g2 g3 f1 f2 f3 hq' k0 k1 k2 k3 hgd
            have her : Fm.err ⟨kv, lu, 2147483648, ld⟩ = 1 := Fm.err_arg fun h => by have := h.2.2.2.2.2; simp only at this; omega
            rw [her]
            have HNR : Hid (¬ Vo.Right lu at_ ⟨p, v, z, f, l, s, m, g⟩ b) := Lib.hid fun h => hnf (by
              obtain ⟨h1, h2, h3⟩ := h.2
              rw [← HL.out, ← HD.out] at h3
              have := HN.out
              exact ⟨h1, by omega, by omega⟩)
            have HB6 := Lib.hid ((HS3.out.bel).trans (hb5.mono HS3.out.bel.size))
            clear hb5 hO5
            go_wp2
            go_ret2
            exact RefBl.no HNR.out HB6.out
          · have hgd : decide (2147483648 < at_) = false := decide_eq_false hbig
            have hqn : q = nu := by
              rw [HQ.out, HNU.out]
              have h1 := HAT.out
              unfold wrap64
              omega
            subst hqn
            have hcall := refPut_own kv lu q Av ld nv Cv _ x2 HE2.out HE3.out (HE5.out x2 (fun _ => True) (by
              obtain ⟨A', C', e', -, -, -, hh⟩ := HS2.out.hd.rd
              injection e' with y1 y2 y3
              subst y1
              exact hh.mono fun _ _ => trivial) ((HR.out.below HS2.out.bel).mono fun _ _ => trivial))
            have HCP := Lib.hid hcall
            clear hcall
            go_wp2_with fail
            rw [← HX1.out, ← HX2.out]
            refine HCP.out.mono ?_
            rintro e w5 ⟨A5, n5, C5, rfl, hO5, hb5⟩
            clear HCP c0 c1 c2 c3 d0 d1 d2 d3 g0 g1 g2 g3 f1 f2 f3 hq' hgd
            by_cases hf : Vo.Fits lu (at_ + (i : Int)) 0
            · have her : Fm.err ⟨kv, lu, q, ld⟩ = 0 := by rw [HERR.out, if_pos hf]
              have hput : Fm.put ⟨kv, lu, q, ld⟩ = Fm.blk ⟨kv, lu, q, ld⟩ := Fm.put_ok (Vo.unit_ok HOK.out HU.out hf)
              rw [her]
              rw [hput] at hO5
              have hbx : Below w5.heap.size w5 (w5.alloc (.cells [Value.slice A5 n5 C5].toArray 22)) := (Below.refl _ _).alloc (Nat.le_refl _) _
              have hb6 : Below x2.heap.size x2 (w5.alloc (.cells [Value.slice A5 n5 C5].toArray 22)) := hb5.trans (hbx.mono hb5.size)
              have hO6 : OwnL (w5.alloc (.cells [Value.slice A5 n5 C5].toArray 22)) x2.heap.size (.slice A5 n5 C5) (Fm.blk ⟨kv, lu, q, ld⟩) := hO5.of_block fun k e => hbx.block k (hO5.lt k e)
              have HO6 := Lib.hid hO6
              have HB6 := Lib.hid hb6
              have HT6 := Lib.hid (HS2.out.old hb6).top.top
              have hsz6 : w.heap.size ≤ w5.heap.size := Nat.le_trans HS2.out.bel.size hb5.size
              have hrl : rs.length ≤ 1000000 := by omega
              clear hO5 hO6 hb5 hb6 hbx her hput
              go_wp2_with (at_builtin; refine wpList_append_tp _ rfl _ _ rfl w.heap.size _ rs rfl HT6.out hrl w5.heap.size 0 1 A5 n5 C5 rfl (by simp) (by simp; omega) ?_; intro v' w6 hv hg6)
              have hS6 := HS2.out.push HB6.out HO6.out hv hg6
              have htake : (Vo.units lu at_ ⟨p, v, z, f, l, s, m, g⟩ b).take (i + 1) = (Vo.units lu at_ ⟨p, v, z, f, l, s, m, g⟩ b).take i ++ [⟨kv, lu, q, ld⟩] := by
                rw [List.take_add_one, HU.out]; rfl
              have HS7 : Hid (Bs2 w gU N (i + 1) us (.slice Ah nh Ch) (Rc.put ⟨p, v, z, f, l, s, m, g⟩) v' (rs ++ [.slice A5 n5 C5]) (((Vo.units lu at_ ⟨p, v, z, f, l, s, m, g⟩ b).take (i + 1)).map Fm.blk) w6) := Lib.hid (by
                rw [htake, List.map_append]; exact hS6.next)
              have hF6 : Hid (∀ j, j < i + 1 → Vo.Fits lu (at_ + (j : Int)) 0) := Lib.hid fun j hj => by
                rcases Nat.lt_or_ge j i with h | h
                · exact HF.out j h
                · obtain rfl : j = i := by omega
                  exact hf
              clear hS6 htake hv hg6
              go_roundw
              case rel => exact ⟨i + 1, rs ++ [.slice A5 n5 C5], by omega, by simp [hrs], by go_num, HS7, hF6⟩
              case measure => simp [intOf]; omega
            · -- the first that does not fit
              have her : Fm.err ⟨kv, lu, q, ld⟩ = 1 := by rw [HERR.out, if_neg hf]
              rw [her]
              have HNR : Hid (¬ Vo.Right lu at_ ⟨p, v, z, f, l, s, m, g⟩ b) := Lib.hid fun h => hf (by
                obtain ⟨h1, h2, h3⟩ := h.2
                rw [← HL.out, ← HD.out] at h3
                have := HN.out
                exact ⟨h1, by omega, by omega⟩)
              have HB6 := Lib.hid ((HS2.out.bel).trans (hb5.mono HS2.out.bel.size))
              clear hb5 hO5
              go_wp2
              go_ret2
              exact RefBl.no HNR.out HB6.out
        · obtain rfl : i = N := by omega
          have hR : Vo.Right lab at_ ⟨p, v, z, f, l, s, m, g⟩ b := by
            have h0 := HF.out 0 (by omega)
            have h1 := HF.out (i - 1) (by omega)
            obtain ⟨x1, x2, x3⟩ := h0
            obtain ⟨-, -, y3⟩ := h1
            refine ⟨⟨HOK.out, HLL.out⟩, x1, by omega, ?_⟩
            rw [← HL.out, ← HD.out]
            have := HN.out
            omega
          have hput : Vo.put lab at_ ⟨p, v, z, f, l, s, m, g⟩ b = (Vo.units lab at_ ⟨p, v, z, f, l, s, m, g⟩ b).map Fm.blk := Vo.put_yes hR
          have hlen : (Vo.units lab at_ ⟨p, v, z, f, l, s, m, g⟩ b).length = i := by rw [Vo.units_len, HN.out, HD.out, HL.out]
          have hT8 := HS.out.top
          rw [List.take_of_length_le (by rw [hlen]; exact Nat.le_refl _), ← hput] at hT8
          have HT8 := Lib.hid hT8
          have HE := Lib.hid (Vo.err_yes hR)
          clear hR hput hlen hT8
          go_wp2
          go_ret2
          exact ⟨_, rs, by rw [HE.out]; rfl, HT8.out, HS.out.bel⟩
theorem refBlocks_any (lab at_ : Int) (p : Tx) (v z f l s m : Int) (g : Bool) (A : Option Addr) (b : Tx) (L C : Nat) (G : Nat → Prop) (w : World) (hp : p.length ≤ maxLen) (hL : L = b.length) (hC : L ≤ C) (hCm : C ≤ maxLen) (hr : RdL w A b G)
    (hat : -9223372036854775808 ≤ at_ ∧ at_ ≤ 9223372036854775807) :
    Calls Tryz.prog 15 #[.int .i64 lab, .int .i64 at_, .agg #[.string (tx p), .int .i64 v, .int .i64 z, .int .i64 f, .int .i64 l, .int .i64 s, .int .i64 m, .bool g], .slice A L C] w (RefBl lab at_ ⟨p, v, z, f, l, s, m, g⟩ b w) := by
  by_cases h : Rc.Ok ⟨p, v, z, f, l, s, m, g⟩ ∧ (b.length : Int) = l
  · rcases Nat.eq_zero_or_pos L with h0 | h0
    · exact refBlocks_main lab at_ p v z f l s m g A b L C 0 0 G w hp hL hC hCm (fun h' => by omega) hr h.1 h.2 hat
    · obtain ⟨bb, off, e, -, -⟩ := hr (by omega)
      exact refBlocks_main lab at_ p v z f l s m g A b L C bb off G w hp hL hC hCm (fun _ => e) hr h.1 h.2 hat
  · exact refBlocks_no lab at_ p v z f l s m g A b L C w hp hL h
end Go.Proofs.YtndofmoepjfnfaaGreat
