/- A slice of slices of the law's own, made by append, each row its own. No function of the program. The document's own row of units: what lies in it, and what stores into one of them leave. What the document's own Blocks answers. A tape of the law's own, in a block, to which rows of blocks are appended. No function of the program but the document's own in its words. What an append to a tape's blocks leaves; zeros that were made; the low bits of a number. No function of the program. What the walk is told of a head that came in as an argument. What the document's own SameRows answers of two tapes' blocks that are the same. The example of chapter 11 holds: 'alive' answers true. -/
import Derived.Test.YtbcncmampabmfaaDoorMb
import Derived.Test.YtbcncmampabmfaaDoorMn
import Derived.Test.YtbcncmampabmfaaDoorMc
import Derived.Test.YtbcncmampabmfaaDoorMl
import Derived.Test.YtbcncmampabmfaaDoorMh
import Derived.Test.YtbcncmampabmfaaDoorMm
import Derived.Laws.OwnMore
import Derived.Test.YtbcncmampabmfaaDoorMj
import Derived.Lib.SmallJoins
import Derived.BigQuiet
namespace Go.Proofs.YtbcncmampabmfaaDoor
open Go.RowKit
open Pt (Tx)

/-- v is a slice of the call's own whose rows us are the call's own, hold bs, and lie in blocks of G, no two in one -/
structure TopB (w : World) (B : Nat) (G : Nat → Prop) (v : Value) (us : List Value) (bs : List Tx) : Prop where
  top : w.ownsRow B 24 1 v us.length us
  len : us.length = bs.length
  rows : ∀ i (h : i < us.length) (h' : i < bs.length), OwnL w B us[i] bs[i]
  gs : ∀ i (h : i < us.length) k, us[i].ownBlock = some k → G k
  inj : ∀ i j (hi : i < us.length) (hj : j < us.length) k, us[i].ownBlock = some k → us[j].ownBlock = some k → i = j
theorem own_blk {w : World} {B : Nat} {t : TypeId} {v : Value} {n : Nat} {xs : List Value} (h : w.ownsRow B t 1 v n xs) : ∀ k, v.ownBlock = some k → ∃ c, w.heap[k]? = some (.cells c t (0, 0)) := by
  intro k hk
  rcases h.2 with ⟨rfl, _⟩ | ⟨g, cap, cur, rfl, _, hg, _⟩
  · cases hk
  · cases hk; exact ⟨cur, hg⟩
theorem own_of {w w' : World} {B : Nat} {t : TypeId} {v : Value} {n : Nat} {xs : List Value} (h : w.ownsRow B t 1 v n xs) (hb : ∀ k, v.ownBlock = some k → w'.heap[k]? = w.heap[k]?) : w'.ownsRow B t 1 v n xs := by
  refine ⟨h.1, ?_⟩
  rcases h.2 with h0 | ⟨g, cap, cur, rfl, hb', hg, hr⟩
  · exact .inl h0
  · exact .inr ⟨g, cap, cur, rfl, hb', (hb g rfl).trans hg, hr⟩
namespace TopB
variable {w w' : World} {B : Nat} {G G' : Nat → Prop} {v : Value} {us : List Value} {bs : List Tx}
theorem nil (w : World) (B : Nat) (G : Nat → Prop) : TopB w B G (.slice none 0 0) [] [] :=
  ⟨World.ownsRow_nil _ _ _ _, rfl, fun i h => absurd h (by simp), fun i h => absurd h (by simp), fun i j h => absurd h (by simp)⟩
/-- what is not touched is as it was -/
theorem kp {S : Nat → Prop} (h : TopB w B G v us bs) (hk : Kp S w w') (h1 : ∀ k c, S k → w.heap[k]? ≠ some (.cells c 24 (0, 0))) (h2 : ∀ k, S k → ¬ G k) : TopB w' B G v us bs := by
  refine ⟨own_of h.top fun k e => ?_, h.len, fun i hi hi' => (h.rows i hi hi').kp hk fun k e hs => h2 k hs (h.gs i hi k e), h.gs, h.inj⟩
  obtain ⟨c, hc⟩ := own_blk h.top k e
  exact hk.block k (heap_lt hc) fun hs => h1 k c hs hc
/-- the same, told by what lies there -/
theorem kpT {S : Nat → Prop} (h : TopB w B G v us bs) (hk : Kp S w w') (h1 : ∀ k c, S k → w.heap[k]? ≠ some (.cells c 24 (0, 0))) (h2 : ∀ k c, S k → w.heap[k]? ≠ some (.cells c 5 (0, 0))) : TopB w' B G v us bs := by
  refine ⟨own_of h.top fun k e => ?_, h.len, fun i hi hi' => (h.rows i hi hi').kp hk fun k e hs => ?_, h.gs, h.inj⟩
  · obtain ⟨c, hc⟩ := own_blk h.top k e
    exact hk.block k (heap_lt hc) fun hs => h1 k c hs hc
  · obtain ⟨c, hc⟩ := (h.rows i hi hi').block k e
    exact h2 k c hs hc
theorem old (h : TopB w B G v us bs) (hb : Below w.heap.size w w') : TopB w' B G v us bs :=
  h.kp (S := fun _ => False) (Kp.of_below hb) (fun _ _ h => h.elim) (fun _ h => h.elim)
theorem mono (h : TopB w B G v us bs) (hg : ∀ k, G k → G' k) : TopB w B G' v us bs := ⟨h.top, h.len, h.rows, fun i hi k e => hg k (h.gs i hi k e), h.inj⟩
/-- all its rows are there -/
theorem there (h : TopB w B G v us bs) : TopB w B (fun k => G k ∧ k < w.heap.size) v us bs :=
  ⟨h.top, h.len, h.rows, fun i hi k e => ⟨h.gs i hi k e, (h.rows i hi (by rw [← h.len]; exact hi)).lt k e⟩, h.inj⟩
/-- as a value -/
theorem val (h : TopB w B G v us bs) : ∃ A C, v = .slice A bs.length C ∧ bs.length ≤ C ∧ C ≤ maxLen ∧ (A = none → bs.length = 0 ∧ C = 0) := by
  rcases h.top.2 with ⟨rfl, h0⟩ | ⟨g, cap, cur, rfl, _, _, hnc, hcm, _⟩
  · have : bs.length = 0 := by rw [← h.len, h0]
    exact ⟨none, 0, by rw [this], by omega, by decide, fun _ => ⟨this, rfl⟩⟩
  · exact ⟨_, cap, by rw [← h.len], by rw [← h.len]; exact hnc, hcm, fun h => by cases h⟩
/-- as what reads -/
theorem rdB {A : Option Addr} {n C : Nat} (h : TopB w B G (.slice A n C) us bs) : RdB w A bs (fun k => B ≤ k) := by
  intro hn
  rcases h.top.2 with ⟨e, h0⟩ | ⟨g, cap, cur, e, hb, hg, hnc, _, hs, ht⟩
  · have := h.len; omega
  · injection e with e1 e2 e3
    subst e1
    refine ⟨g, 0, rfl, hb, fun i hi => ?_⟩
    have hi' : i < us.length := by rw [h.len]; exact hi
    obtain ⟨A', C', hv, h1, -, h2, h3⟩ := (h.rows i hi' hi).rd
    refine ⟨A', C', ?_, h1, h2, h3.mono fun _ h => h.1⟩
    have hx : us[i]? = some (.slice A' bs[i].length C') := by rw [List.getElem?_eq_getElem hi', hv]
    rw [← ht, List.getElem?_take, if_pos (by omega), Array.getElem?_toList] at hx
    rw [Nat.zero_add, heap_cell hg, hx]
/-- a row is appended -/
theorem push (h : TopB w B G v us bs) {w1 : World} (hw : Below w.heap.size w w1) {u : Value} {s : Tx} (hu : OwnL w1 B u s) (hun : ∀ k, u.ownBlock = some k → w.heap.size ≤ k) (hG : ∀ k, u.ownBlock = some k → G k) {v' : Value} (ho : w'.ownsRow B 24 1 v' (us.length + 1) (us ++ [u])) (hg : w1.grownBy w' v.ownBlock) :
    TopB w' B G v' (us ++ [u]) (bs ++ [s]) := by
  have keep : ∀ {x : Value} {l : Tx}, OwnL w1 B x l → OwnL w' B x l := fun {x l} hx => hx.of_block fun k e => by
    refine hg.block k (hx.lt k e) fun e' => ?_
    obtain ⟨c, hc⟩ := own_blk h.top k e'.symm
    obtain ⟨c', hc'⟩ := hx.block k e
    rw [hw.block k (heap_lt hc), hc] at hc'
    injection hc' with hc'
    injection hc' with _ e2
    exact absurd e2 (by decide)
  have oldlt : ∀ i (hi : i < us.length) k, us[i].ownBlock = some k → k < w.heap.size := fun i hi k e => (h.rows i hi (by rw [← h.len]; exact hi)).lt k e
  refine ⟨by simpa using ho, by simp [h.len], fun i hi hi' => ?_, fun i hi k e => ?_, fun i j hi hj k e e' => ?_⟩
  · rcases Nat.lt_or_ge i us.length with hl | hl
    · rw [List.getElem_append_left hl, List.getElem_append_left (by rw [← h.len]; exact hl)]
      exact keep ((h.rows i hl (by rw [← h.len]; exact hl)).of_block fun k e => hw.block k (oldlt i hl k e))
    · have : i = us.length := by simp at hi; omega
      subst this
      have e2 : (bs ++ [s])[us.length] = s := by simp [h.len]
      rw [e2]
      simp only [List.getElem_concat_length]
      exact keep hu
  · rcases Nat.lt_or_ge i us.length with hl | hl
    · rw [List.getElem_append_left hl] at e
      exact h.gs i hl k e
    · have : i = us.length := by simp at hi; omega
      subst this
      simp only [List.getElem_concat_length] at e
      exact hG k e
  · rcases Nat.lt_or_ge i us.length with hl | hl <;> rcases Nat.lt_or_ge j us.length with hm | hm
    · rw [List.getElem_append_left hl] at e
      rw [List.getElem_append_left hm] at e'
      exact h.inj i j hl hm k e e'
    · have : j = us.length := by simp at hj; omega
      subst this
      rw [List.getElem_append_left hl] at e
      simp only [List.getElem_concat_length] at e'
      have := oldlt i hl k e
      have := hun k e'
      omega
    · have : i = us.length := by simp at hi; omega
      subst this
      rw [List.getElem_append_left hm] at e'
      simp only [List.getElem_concat_length] at e
      have := oldlt j hm k e'
      have := hun k e
      omega
    · simp at hi hj; omega
end TopB
/-- append of one row -/
theorem wpList_append_tp (w : World) {ops : Array Oper} {rest : List Oper} {o : Oper} {a : Act} {Q : Exit → Act → World → Prop} (hgd : o.guard = none) (s x : Operand)
    (ho : o.op = .call { callee := .builtin .append, args := #[s, x], argTypes := #[26, 26] })
    (base : Nat) (v : Value) (us : List Value) (hs : a.eval s = v) (hown : w.ownsRow base 24 1 v us.length us) (hl : us.length ≤ 1000000)
    (b off c : Nat) (A : Option Addr) (L C : Nat) (hx : a.eval x = .slice (some ⟨b, off, none⟩) 1 c) (hc : w.cell? ⟨b, off, none⟩ = some (.slice A L C)) (hbase : base ≤ w.heap.size)
    (h : ∀ v' w', w'.ownsRow base 24 1 v' (us.length + 1) (us ++ [.slice A L C]) → w.grownBy w' v.ownBlock → wpList Tryd.prog ops Q rest (a.put o.dst v') w') : wpList Tryd.prog ops Q (o :: rest) a w := by
  obtain ⟨i0, hi, hz0, hz1, hz2⟩ := info_parts infoRow
  refine wpList_append_opt w hgd s x 26 ho base 24 i0 (.slice none 0 0) 24 Tryd.underlying26 hi hz0 hz1 hz2 rfl v us.length us hs hown (some ⟨b, off, none⟩) 1 c [.slice A L C] hx (fun h => by cases h) rfl (fun ad had j u hu => ?_) (fun u hu => by rw [List.mem_singleton.1 hu]; rfl) (by unfold maxLen; omega) (by omega) hbase h
  cases had
  have hj : j = 0 := by
    rcases Nat.eq_zero_or_pos j with h0 | h0
    · exact h0
    · rw [List.getElem?_eq_none (by simp; omega)] at hu; cases hu
  subst hj
  cases hu
  exact hc
end Go.Proofs.YtbcncmampabmfaaDoor
namespace Go.Proofs.YtbcncmampabmfaaDoor
open Go.RowKit
open Pt (Tx)

/-- the document's own piece k: a piece of the bytes, with all that is behind as room -/
def pcR (b off L C k : Nat) : Pc := ⟨some ⟨b, off + 64 * k, none⟩, min 64 (L - 64 * k), C - 64 * k⟩
def pcsR (b off L C k : Nat) : List Pc := (List.range k).map (pcR b off L C)
theorem pcsR_succ (b off L C k : Nat) : pcsR b off L C (k + 1) = pcsR b off L C k ++ [pcR b off L C k] := by simp [pcsR, List.range_succ]
/-- the unit i, as it lies in the document's own row -/
theorem uvR_is {h : Rc.H} {b : Tx} {lab at_ : Int} {A Ah : Option Addr} {nh Ch bb off L C : Nat} (hOk : Rc.Ok h) (hL : L = b.length) (hC : L ≤ C) (hnh : nh = (Rc.put h).length) (hz : Ah = none → nh = 0 ∧ Ch = 0) (hA : 0 < L → A = some ⟨bb, off, none⟩) {i : Nat} (hi : i < Vo.data L + 2) :
    ∃ u uv, (Vo.units lab at_ h b)[i]? = some u ∧ (uvs Ah nh Ch (pcsR bb off L C (Vo.data L)) ++ [⟨4, none, 0, 0⟩])[i]? = some uv ∧ uv.kind = u.kind ∧ uv.n = u.load.length ∧ (uv.A = none → uv.n = 0 ∧ uv.C = 0)
      ∧ ∀ (W : World) (G : Nat → Prop), RdL W Ah (Rc.put h) G → RdL W A b G → RdL W uv.A u.load G := by
  subst hL
  by_cases h0 : i = 0
  · subst h0
    refine ⟨_, _, Vo.units_zero lab at_ h b, rfl, rfl, ?_, hz, fun W G h1 _ => ?_⟩
    · show nh = (Rc.blk h).length
      rw [hnh, Rc.put_ok hOk]
    · show RdL W Ah (Rc.blk h) G
      rw [← Rc.put_ok hOk]; exact h1
  · obtain ⟨k, rfl⟩ : ∃ k, i = k + 1 := ⟨i - 1, by omega⟩
    by_cases hk : k < Vo.data b.length
    · have hlt : 64 * k < b.length := by unfold Vo.data at hk; omega
      refine ⟨_, pu (pcR bb off b.length C k), Vo.units_data hk, ?_, rfl, ?_, (fun h => by cases h), fun W G _ h2 => ?_⟩
      · rw [List.getElem?_append_left (by simp [uvs, pcsR]; omega)]
        unfold uvs
        rw [List.getElem?_cons_succ, List.getElem?_map, pcsR, List.getElem?_map, List.getElem?_range hk]
        rfl
      · show min 64 (b.length - 64 * k) = (Vo.chunk b k).length
        rw [chunk_of]
      · rw [hA (by omega)] at h2
        exact (h2.drop (64 * k)).take 64
    · obtain rfl : k = Vo.data b.length := by omega
      refine ⟨_, ⟨4, none, 0, 0⟩, Vo.units_mark lab at_ h b, ?_, rfl, rfl, fun _ => ⟨rfl, rfl⟩, fun W G _ _ => RdL.empty _ _ _⟩
      simp [uvs, pcsR]
/-- the units from i on lie as they were laid -/
def Lay (w : World) (g N i : Nat) (us : List Uv) : Prop :=
  ∃ c, w.heap[g]? = some (.cells c 42 (0, 0)) ∧ N * 4 ≤ c.size ∧ ∀ j uv, i ≤ j → us[j]? = some uv → c[j * 4]? = some (.int .i64 uv.kind) ∧ c[j * 4 + 3]? = some (.slice uv.A uv.n uv.C)
theorem Lay.of_own {w : World} {B : Nat} {v : Value} {us : List Uv} (h : encU.Own w B 42 v us) (hp : 0 < us.length) : ∃ g cap, v = .slice (some ⟨g, 0, none⟩) us.length cap ∧ us.length ≤ cap ∧ B ≤ g ∧ Lay w g us.length 0 us := by
  rcases h.2 with ⟨_, h0⟩ | ⟨g, cap, cur, e, hB, hg, hnc, hcm, hs, ht⟩
  · omega
  · refine ⟨g, cap, e, hnc, hB, cur, hg, ?_, fun j uv _ hu => ?_⟩
    · have : cur.size = cap * 4 := hs
      omega
    · obtain ⟨hj, he⟩ := List.getElem?_eq_some_iff.1 hu
      have hx : ∀ r, r < 4 → cur[j * 4 + r]? = (cells4 uv)[r]? := fun r hr => by
        have h1 := encU.cells_get us j r hr hj
        rw [he] at h1
        have h2 : (encU.cells us)[j * 4 + r]? = cur[j * 4 + r]? := by
          rw [← ht, List.getElem?_take, if_pos (by show j * 4 + r < us.length * 4; omega), Array.getElem?_toList]
        exact h2.symm.trans h1
      exact ⟨hx 0 (by decide), hx 3 (by decide)⟩
theorem Lay.kp {S : Nat → Prop} {w w' : World} {g N i : Nat} {us : List Uv} (h : Lay w g N i us) (hk : Kp S w w') (hs : ¬ S g) : Lay w' g N i us := by
  obtain ⟨c, hc, hr⟩ := h
  exact ⟨c, (hk.block g (heap_lt hc) hs).trans hc, hr⟩
theorem Lay.lt {w : World} {g N i : Nat} {us : List Uv} (h : Lay w g N i us) : g < w.heap.size := by obtain ⟨c, hc, _⟩ := h; exact heap_lt hc
theorem Lay.old {w w' : World} {g N i : Nat} {us : List Uv} (h : Lay w g N i us) (hb : Below w.heap.size w w') : Lay w' g N i us := h.kp (S := fun _ => False) (Kp.of_below hb) (fun h => h)
/-- what a store into another of a unit's cells leaves -/
theorem Lay.set {w : World} {g N i r : Nat} {us : List Uv} (h : Lay w g N i us) (hr : r = 1 ∨ r = 2) (v : Value) : Lay (w.setCell ⟨g, i * 4 + r, none⟩ v) g N i us := by
  obtain ⟨c, hc, hs, hl⟩ := h
  refine ⟨_, heap_set hc v, by simpa using hs, fun j uv hj hu => ?_⟩
  obtain ⟨h1, h2⟩ := hl j uv hj hu
  rw [Array.getElem?_setIfInBounds, if_neg (by omega), Array.getElem?_setIfInBounds, if_neg (by omega)]
  exact ⟨h1, h2⟩
theorem Lay.next {w : World} {g N i : Nat} {us : List Uv} (h : Lay w g N i us) : Lay w g N (i + 1) us := by
  obtain ⟨c, hc, hs, hl⟩ := h
  exact ⟨c, hc, hs, fun j uv hj hu => hl j uv (by omega) hu⟩
/-- the cells of unit i -/
theorem Lay.cells {w : World} {g N i : Nat} {us : List Uv} {uv : Uv} (h : Lay w g N i us) (hi : i < N) (hu : us[i]? = some uv) : w.cell? ⟨g, i * 4, none⟩ = some (.int .i64 uv.kind) ∧ (∃ v, w.cell? ⟨g, i * 4 + 1, none⟩ = some v) ∧ (∃ v, w.cell? ⟨g, i * 4 + 2, none⟩ = some v) ∧ w.cell? ⟨g, i * 4 + 3, none⟩ = some (.slice uv.A uv.n uv.C)
    ∧ (∀ r, w.frozen? ⟨g, i * 4 + r, none⟩ = false) := by
  obtain ⟨c, hc, hs, hl⟩ := h
  obtain ⟨h1, h2⟩ := hl i uv (Nat.le_refl _) hu
  exact ⟨by rw [heap_cell hc]; exact h1, ⟨_, by rw [heap_cell hc]; exact Array.getElem?_eq_getElem (by omega)⟩, ⟨_, by rw [heap_cell hc]; exact Array.getElem?_eq_getElem (by omega)⟩, by rw [heap_cell hc]; exact h2, fun r => heap_frozen hc⟩
/-- a cell that was just stored -/
theorem Lay.got {w : World} {g N i r : Nat} {us : List Uv} (h : Lay w g N i us) (hi : i < N) (hr : r = 1 ∨ r = 2) (v : Value) : (w.setCell ⟨g, i * 4 + r, none⟩ v).cell? ⟨g, i * 4 + r, none⟩ = some v := by
  obtain ⟨c, hc, hs, hl⟩ := h
  rw [heap_cell (heap_set hc v), Array.getElem?_setIfInBounds, if_pos rfl, if_pos (by omega)]
theorem Lay.othr {w : World} {g N i r r' : Nat} {us : List Uv} {x : Value} (h : Lay w g N i us) (hr : r ≠ r') (hx : w.cell? ⟨g, i * 4 + r', none⟩ = some x) (v : Value) : (w.setCell ⟨g, i * 4 + r, none⟩ v).cell? ⟨g, i * 4 + r', none⟩ = some x := by
  obtain ⟨c, hc, hs, hl⟩ := h
  rw [heap_cell hc] at hx
  rw [heap_cell (heap_set hc v), Array.getElem?_setIfInBounds, if_neg (by omega)]
  exact hx
/-- what is of another kind stays when a row grows -/
theorem blk_kept {w w' : World} {B : Nat} {t t' : TypeId} {v : Value} {n : Nat} {xs : List Value} (h : w.ownsRow B t 1 v n xs) (hg : w.grownBy w' v.ownBlock) {k : Nat} {c : Array Value} (hk : w.heap[k]? = some (.cells c t' (0, 0))) (ht : t' ≠ t) : w'.heap[k]? = w.heap[k]? :=
  hg.block k (heap_lt hk) fun e => by
    obtain ⟨c', hc'⟩ := own_blk h k e.symm
    rw [hk] at hc'
    injection hc' with hc'
    injection hc' with _ e2
    exact ht e2
/-- the state while blocks are made of units -/
structure Bs2 (w : World) (gU N i : Nat) (us : List Uv) (hv : Value) (ht : Tx) (vo : Value) (rs : List Value) (bs : List Tx) (x : World) : Prop where
  top : TopB x w.heap.size (w.heap.size ≤ ·) vo rs bs
  lay : Lay x gU N i us
  hd : OwnL x w.heap.size hv ht
  bel : Below w.heap.size w x
  lo : w.heap.size ≤ gU
namespace Bs2
variable {w x y z : World} {gU N i : Nat} {us : List Uv} {hv vo : Value} {ht : Tx} {rs : List Value} {bs : List Tx}
theorem old (h : Bs2 w gU N i us hv ht vo rs bs x) (hb : Below x.heap.size x y) : Bs2 w gU N i us hv ht vo rs bs y :=
  ⟨h.top.old hb, h.lay.old hb, h.hd.of_block fun k e => hb.block k (h.hd.lt k e), h.bel.trans (hb.mono h.bel.size), h.lo⟩
theorem next (h : Bs2 w gU N i us hv ht vo rs bs x) : Bs2 w gU N (i + 1) us hv ht vo rs bs x := ⟨h.top, h.lay.next, h.hd, h.bel, h.lo⟩
theorem set (h : Bs2 w gU N i us hv ht vo rs bs x) {r : Nat} (hr : r = 1 ∨ r = 2) (v : Value) : Bs2 w gU N i us hv ht vo rs bs (x.setCell ⟨gU, i * 4 + r, none⟩ v) := by
  have hk : Kp (· = gU) x (x.setCell ⟨gU, i * 4 + r, none⟩ v) := Kp.store _ _ _ _
  obtain ⟨c, hc, _⟩ := h.lay
  have hne : ∀ {k : Nat} {c' : Array Value} {t : TypeId}, t ≠ 42 → x.heap[k]? = some (.cells c' t (0, 0)) → k ≠ gU := fun {k c' t} ht hk' e => by
    subst e
    rw [hc] at hk'
    injection hk' with hk'
    injection hk' with _ e2
    exact ht e2.symm
  refine ⟨h.top.kpT hk (fun k c' e hk' => hne (by decide) hk' e) (fun k c' e hk' => hne (by decide) hk' e), h.lay.set hr v, h.hd.kp hk fun k e => ?_, h.bel.trans (hk.below h.bel.size fun k e => by have := h.lo; omega), h.lo⟩
  obtain ⟨c', hc'⟩ := h.hd.block k e
  exact hne (by decide) hc'
theorem push (h : Bs2 w gU N i us hv ht vo rs bs x) (hw : Below x.heap.size x y) {u : Value} {s : Tx} (hu : OwnL y x.heap.size u s) {vo' : Value} (ho : z.ownsRow w.heap.size 24 1 vo' (rs.length + 1) (rs ++ [u])) (hg : y.grownBy z vo.ownBlock) : Bs2 w gU N i us hv ht vo' (rs ++ [u]) (bs ++ [s]) z := by
  have h1 := h.old hw
  have hlo := h.bel.size
  refine ⟨h.top.push hw (hu.lower hlo) (fun k e => hu.lo k e) (fun k e => Nat.le_trans hlo (hu.lo k e)) ho hg, ?_, h1.hd.of_block fun k e => ?_, h1.bel.grown hg h1.bel.size fun k e => (World.ownsRow.lt h1.top.top k e).1, h.lo⟩
  · obtain ⟨c, hc, hr⟩ := h1.lay
    exact ⟨c, (blk_kept h1.top.top hg hc (by decide)).trans hc, hr⟩
  · obtain ⟨c, hc⟩ := h1.hd.block k e
    exact blk_kept h1.top.top hg hc (by decide)
end Bs2
end Go.Proofs.YtbcncmampabmfaaDoor
namespace Go.Proofs.YtbcncmampabmfaaDoor
open Go.RowKit
open Pt (Tx)

/-- what the document's own Blocks answers: rows of its own, no two in one block -/
def RefBl (lab at_ : Int) (h : Rc.H) (b : Tx) (w : World) (e : Ending) (w' : World) : Prop :=
  ∃ v us, e = .returned (.tuple #[v, .int .i64 (Vo.err lab at_ h b)]) ∧ TopB w' w.heap.size (w.heap.size ≤ ·) v us (Vo.put lab at_ h b) ∧ Below w.heap.size w w'
theorem RefBl.no {lab at_ : Int} {h : Rc.H} {b : Tx} {w w' : World} (hn : ¬ Vo.Right lab at_ h b) (hb : Below w.heap.size w w') : RefBl lab at_ h b w (.returned (.tuple #[.slice none 0 0, .int .i64 1])) w' :=
  ⟨_, [], by rw [Vo.err_no hn], by rw [Vo.put_no hn]; exact TopB.nil _ _ _, hb⟩
set_option maxRecDepth 100000 in
set_option maxHeartbeats 2000000 in
theorem refBlocks_no (lab at_ : Int) (p : Tx) (v z f l s m : Int) (g : Bool) (A : Option Addr) (b : Tx) (L C : Nat) (w : World) (hp : p.length ≤ maxLen) (hL : L = b.length) (hn : ¬ (Rc.Ok ⟨p, v, z, f, l, s, m, g⟩ ∧ (b.length : Int) = l)) :
    Calls Tryd.prog 8 #[.int .i64 lab, .int .i64 at_, .agg #[.string (tx p), .int .i64 v, .int .i64 z, .int .i64 f, .int .i64 l, .int .i64 s, .int .i64 m, .bool g], .slice A L C] w (RefBl lab at_ ⟨p, v, z, f, l, s, m, g⟩ b w) := by
  have HN : Hid (¬ Vo.Right lab at_ ⟨p, v, z, f, l, s, m, g⟩ b) := Lib.hid fun h => hn h.1
  obtain ⟨wa, hwa⟩ : ∃ wa, wa = w.alloc (headObj p v z f l s m g) := ⟨_, rfl⟩
  have hB : Below w.heap.size w wa := by rw [hwa]; exact (Below.refl _ _).alloc (Nat.le_refl _) _
  have hH : wa.heap[w.heap.size]? = some (headObj p v z f l s m g) := by rw [hwa]; exact Go.Deep.blk_alloc_new _ _
  have hcall := refRightHead_any p v z f l s m g wa hp
  have HB := Lib.hid hB
  have HH := Lib.hid hH
  have HW := Lib.hid hwa
  unfold headObj at HW
  have hcase : decide (Rc.Ok ⟨p, v, z, f, l, s, m, g⟩) = false ∨ (decide (Rc.Ok ⟨p, v, z, f, l, s, m, g⟩) = true ∧ ((L : Int) != l) = true) := by
    by_cases h : Rc.Ok ⟨p, v, z, f, l, s, m, g⟩
    · refine .inr ⟨decide_eq_true h, bne_iff_ne.2 fun e => hn ⟨h, by rw [← hL]; exact e⟩⟩
    · exact .inl (decide_eq_false h)
  clear hB hH hwa hn hL
  rcases hcase with q1 | ⟨q1, q2⟩
  all_goals
    rw [q1] at hcall
    have HC := Lib.hid hcall
    clear hcall q1
    go_enter Tryd.func8, Tryd.ntmps8
    go_wp2_with fail
    rw [← HW.out]
    refine HC.out.mono ?_
    rintro e w1 ⟨rfl, hb1⟩
    obtain ⟨a0, a1, a2, a3, a4, a5, a6, a7⟩ := head8 (below_head hb1 HH.out)
    have HB1 := Lib.hid (HB.out.trans (hb1.mono HB.out.size))
    clear hb1
    go_wp2
    go_ret2
    exact RefBl.no HN.out HB1.out
/-- a row of bytes stays as it was when a list of structs grows -/
theorem own_kept {α : Type} {E : Enc α} {w w' : World} {B B' : Nat} {t : TypeId} {v x : Value} {us : List α} {l : Tx} (hU : E.Own w B t v us) (ht : t ≠ 5) (hO : OwnL w B' x l) (hg : w.grownBy w' v.ownBlock) : OwnL w' B' x l :=
  hO.of_block fun k e => hg.block k (hO.lt k e) fun e' => by
    obtain ⟨c, hc⟩ := hU.block k e'.symm
    obtain ⟨c', hc'⟩ := hO.block k e
    rw [hc] at hc'
    injection hc' with hc'
    injection hc' with _ e2
    exact ht e2
theorem own_grown {α : Type} {E : Enc α} {w0 w w' : World} {t : TypeId} {v : Value} {us : List α} (hU : E.Own w w0.heap.size t v us) (hb : Below w0.heap.size w0 w) (hg : w.grownBy w' v.ownBlock) : Below w0.heap.size w0 w' :=
  hb.grown hg hb.size fun x hx => (hU.lt x hx).1
set_option maxRecDepth 100000 in
set_option maxHeartbeats 8000000 in
theorem refBlocks_main (lab at_ : Int) (p : Tx) (v z f l s m : Int) (g : Bool) (A : Option Addr) (b : Tx) (L C bb off : Nat) (G : Nat → Prop) (w : World) (hp : p.length ≤ maxLen) (hL : L = b.length) (hC : L ≤ C) (hCm : C ≤ maxLen) (hA : 0 < L → A = some ⟨bb, off, none⟩) (hr : RdL w A b G) (hOk : Rc.Ok ⟨p, v, z, f, l, s, m, g⟩) (hl : (b.length : Int) = l)
    (hat : -9223372036854775808 ≤ at_ ∧ at_ ≤ 9223372036854775807) :
    Calls Tryd.prog 8 #[.int .i64 lab, .int .i64 at_, .agg #[.string (tx p), .int .i64 v, .int .i64 z, .int .i64 f, .int .i64 l, .int .i64 s, .int .i64 m, .bool g], .slice A L C] w (RefBl lab at_ ⟨p, v, z, f, l, s, m, g⟩ b w) := by
  have hL4 : L ≤ 4000 := by obtain ⟨-, -, -, ⟨_, a⟩, b', c, d, _⟩ := hOk; rw [hL]; simp only at a b' c d; omega
  obtain ⟨D, hD⟩ : ∃ D, D = Vo.data L := ⟨_, rfl⟩
  obtain ⟨N, hN⟩ : ∃ N, N = D + 2 := ⟨_, rfl⟩
  have hD63 : D ≤ 63 := by rw [hD]; unfold Vo.data; omega
  have hDL : 64 * D < L + 64 ∧ L ≤ 64 * D := by rw [hD]; unfold Vo.data; omega
  obtain ⟨wa, hwa⟩ : ∃ wa, wa = w.alloc (headObj p v z f l s m g) := ⟨_, rfl⟩
  have hB : Below w.heap.size w wa := by rw [hwa]; exact (Below.refl _ _).alloc (Nat.le_refl _) _
  have hH : wa.heap[w.heap.size]? = some (headObj p v z f l s m g) := by rw [hwa]; exact Go.Deep.blk_alloc_new _ _
  have hcall := refRightHead_any p v z f l s m g wa hp
  rw [decide_eq_true hOk] at hcall
  have HC := Lib.hid hcall
  have HB := Lib.hid hB
  have HH := Lib.hid hH
  have HW := Lib.hid hwa
  unfold headObj at HW
  have q1 : ((L : Int) != l) = false := by rw [hL, hl]; simp
  have HR := Lib.hid (hr.in_.mono (fun x hx => hx.2) : RdL w A b (· < w.heap.size))
  have HP := Lib.hid hp
  have HL := Lib.hid hL
  have HOK := Lib.hid hOk
  have HLL := Lib.hid hl
  have HA := Lib.hid hA
  have HD := Lib.hid hD
  have HAT := Lib.hid hat
  have HN := Lib.hid hN
  have HDL := Lib.hid hDL
  have HCM := Lib.hid hCm
  have hN65 : N ≤ 65 ∧ 2 ≤ N := by omega
  clear hcall hB hH hwa hL hr hOk hl hA hD hat hN hDL hp hCm
  go_enter Tryd.func8, Tryd.ntmps8
  go_wp2_with fail
  rw [← HW.out]
  refine HC.out.mono ?_
  clear HC
  rintro e w1 ⟨rfl, hb1⟩
  have HH1 := Lib.hid (below_head hb1 HH.out)
  have HB1 := Lib.hid (HB.out.trans (hb1.mono HB.out.size))
  obtain ⟨a0, a1, a2, a3, a4, a5, a6, a7⟩ := head8 HH1.out
  clear hb1
  go_wp2_with fail
  refine (refHeadBytes_own p v z f l s m g w1 HP.out).mono ?_
  rintro e w2 ⟨Ah, nh, Ch, rfl, hO2, hb2⟩
  obtain ⟨A', C', e', -, -, hz, -⟩ := hO2.rd
  injection e' with x1 hnh x3
  subst x1 x3
  obtain ⟨w3, hw3⟩ : ∃ w3, w3 = w2.alloc (.cells #[.int .i64 2, .int .i64 0, .int .i64 0, .slice Ah nh Ch] 42) := ⟨_, rfl⟩
  have hb3 : Below w2.heap.size w2 w3 := by rw [hw3]; exact (Below.refl _ _).alloc (Nat.le_refl _) _
  have hk3 : w3.heap[w2.heap.size]? = some (.cells #[.int .i64 2, .int .i64 0, .int .i64 0, .slice Ah nh Ch] 42) := by rw [hw3]; exact Go.Deep.blk_alloc_new _ _
  have hB2 := HB1.out.trans (hb2.mono HB1.out.size)
  have HB3 := Lib.hid (hB2.trans (hb3.mono hB2.size))
  have HO3 := Lib.hid ((hO2.lower HB1.out.size).of_block (fun k e => hb3.block k (hO2.lt k e)))
  have HU3 : Hid (encU.Own w3 w.heap.size 42 (.slice (some ⟨w2.heap.size, 0, none⟩) 1 1) (uvs Ah nh Ch (pcsR bb off L C 0))) := Lib.hid (Enc.Own.one (E := encU) (x := ⟨2, Ah, nh, Ch⟩) hk3 hB2.size)
  have HNH := Lib.hid hnh
  have HZ : Hid (Ah = none → nh = 0 ∧ Ch = 0) := Lib.hid (fun h => by rw [hnh]; exact hz h)
  have HW3 := Lib.hid hw3
  clear hO2 hb2 hz hw3 hb3 hk3 hB2 hnh HH HH1 HB HB1 a0 a1 a2 a3 a4 a5 a6 a7 q1
  go_wp2_with fail
  rw [← HW3.out]
  clear HW3
  go_loopw [11, 10] (fun vi vl wr => ∃ k x : Nat, k ≤ D ∧ Hid (x = 64 * k) ∧ vi = .int .i64 (x : Int) ∧ Hid (encU.Own wr w.heap.size 42 vl (uvs Ah nh Ch (pcsR bb off L C k))) ∧ Hid (OwnL wr w.heap.size (.slice Ah nh Ch) (Rc.put ⟨p, v, z, f, l, s, m, g⟩)) ∧ Hid (Below w.heap.size w wr)) (fun vi _ _ => L + 64 - (intOf vi).toNat)
  case atStart => exact ⟨0, 0, Nat.zero_le _, Lib.hid rfl, rfl, HU3, HO3, HB3⟩
  case round =>
    obtain ⟨k, x, hk, HX, rfl, HU, HO, HB⟩ := hrel
    by_cases hlt : x < L
    · obtain ⟨e, he⟩ : ∃ e, e = min 64 (L - x) := ⟨_, rfl⟩
      have hpc : pcR bb off L C k = ⟨some ⟨bb, off + x, none⟩, e, C - x⟩ := by unfold pcR; rw [← HX.out, ← he]
      have HPN : Hid (uvs Ah nh Ch (pcsR bb off L C (k + 1)) = uvs Ah nh Ch (pcsR bb off L C k) ++ [⟨3, some ⟨bb, off + x, none⟩, e, C - x⟩]) := Lib.hid (by rw [pcsR_succ, uvs_snoc, hpc]; rfl)
      obtain rfl : A = some ⟨bb, off, none⟩ := HA.out (by omega)
      have HUL : Hid ((uvs Ah nh Ch (pcsR bb off L C k)).length = k + 1) := Lib.hid (by simp [uvs, pcsR])
      have hxC : x < C := by omega
      have HU4 := Lib.hid (HU.out.old (w' := wr.alloc (.cells (cells4 ⟨3, some ⟨bb, off + x, none⟩, e, C - x⟩).toArray 42)) ((Below.refl _ _).alloc (Nat.le_refl _) _))
      have hB4 := HB.out.alloc HB.out.size (.cells (cells4 ⟨3, some ⟨bb, off + x, none⟩, e, C - x⟩).toArray 42)
      have HB4 := Lib.hid hB4
      have hsz := HB.out.size
      clear hpc hB4
      by_cases hgt : L < x + 64
      · have hex : e = L - x := by omega
        subst hex
        clear he
        go_wp2_with (at_builtin; refine wpList_append_st' encU _ rfl _ _ _ rfl w.heap.size 42 _ 48 Tryd.underlying54 infoUnit rfl _ _ rfl HU4.out ⟨wr.heap.size, 0, none⟩ 1 1 [⟨3, some ⟨bb, off + x, none⟩, L - x, C - x⟩] rfl rfl (newCells wr (cells4 ⟨3, some ⟨bb, off + x, none⟩, L - x, C - x⟩) _) (by rw [HUL.out]; unfold maxLen; omega) (by rw [HUL.out]; omega) (by simp; omega) ?_; intro v' w4 hO4 hg4)
        rw [← HPN.out] at hO4
        have HO5 := Lib.hid (own_kept HU4.out (by decide) (HO.out.of_block fun k e => Below.heap_alloc _ _ _ (HO.out.lt k e)) hg4)
        have HB5 := Lib.hid (own_grown HU4.out HB4.out hg4)
        have HU5 := Lib.hid hO4
        clear hg4 hO4
        go_roundw
        case rel => exact ⟨k + 1, x + 64, by have := HDL.out; have := HX.out; omega, Lib.hid (by have := HX.out; omega), by go_num, HU5, HO5, HB5⟩
        case measure => simp [intOf]; omega
      · have hex : e = 64 := by omega
        subst hex
        clear he
        go_wp2_with (at_builtin; refine wpList_append_st' encU _ rfl _ _ _ rfl w.heap.size 42 _ 48 Tryd.underlying54 infoUnit rfl _ _ rfl HU4.out ⟨wr.heap.size, 0, none⟩ 1 1 [⟨3, some ⟨bb, off + x, none⟩, 64, C - x⟩] rfl rfl (newCells wr (cells4 ⟨3, some ⟨bb, off + x, none⟩, 64, C - x⟩) _) (by rw [HUL.out]; unfold maxLen; omega) (by rw [HUL.out]; omega) (by simp; omega) ?_; intro v' w4 hO4 hg4)
        rw [← HPN.out] at hO4
        have HO5 := Lib.hid (own_kept HU4.out (by decide) (HO.out.of_block fun k e => Below.heap_alloc _ _ _ (HO.out.lt k e)) hg4)
        have HB5 := Lib.hid (own_grown HU4.out HB4.out hg4)
        have HU5 := Lib.hid hO4
        clear hg4 hO4
        go_roundw
        case rel => exact ⟨k + 1, x + 64, by have := HDL.out; have := HX.out; omega, Lib.hid (by have := HX.out; omega), by go_num, HU5, HO5, HB5⟩
        case measure => simp [intOf]; omega
    · obtain rfl : k = D := by have := HX.out; have := HDL.out; omega
      obtain ⟨us, hus⟩ : ∃ us, us = uvs Ah nh Ch (pcsR bb off L C k) ++ [⟨4, none, 0, 0⟩] := ⟨_, rfl⟩
      have husl : us.length = N := by rw [hus, HN.out]; simp [uvs, pcsR]
      have HUL : Hid ((uvs Ah nh Ch (pcsR bb off L C k)).length = k + 1) := Lib.hid (by simp [uvs, pcsR])
      have HUV : Hid (∀ i, i < N → ∃ u uv, (Vo.units lab at_ ⟨p, v, z, f, l, s, m, g⟩ b)[i]? = some u ∧ us[i]? = some uv ∧ uv.kind = u.kind ∧ uv.n = u.load.length ∧ (uv.A = none → uv.n = 0 ∧ uv.C = 0)
          ∧ ∀ (W : World) (G : Nat → Prop), RdL W Ah (Rc.put ⟨p, v, z, f, l, s, m, g⟩) G → RdL W A b G → RdL W uv.A u.load G) := Lib.hid fun i hi => by
        rw [hus, HD.out]; exact uvR_is HOK.out HL.out hC HNH.out HZ.out HA.out (by rw [← HD.out, ← HN.out]; exact hi)
      have HUS := Lib.hid hus
      have HUSL := Lib.hid husl
      have HU4 := Lib.hid (HU.out.old (w' := wr.alloc (.cells (cells4 ⟨4, none, 0, 0⟩).toArray 42)) ((Below.refl _ _).alloc (Nat.le_refl _) _))
      have HB4 := Lib.hid (HB.out.alloc HB.out.size (.cells (cells4 ⟨4, none, 0, 0⟩).toArray 42))
      have hsz := HB.out.size
      clear hus husl HU3 HO3 HB3
      go_wp2_with (at_builtin; refine wpList_append_st' encU _ rfl _ _ _ rfl w.heap.size 42 _ 48 Tryd.underlying54 infoUnit rfl _ _ rfl HU4.out ⟨wr.heap.size, 0, none⟩ 1 1 [⟨4, none, 0, 0⟩] rfl rfl (newCells wr (cells4 ⟨4, none, 0, 0⟩) _) (by rw [HUL.out]; unfold maxLen; omega) (by rw [HUL.out]; omega) (by simp; omega) ?_; intro v' w4 hO4 hg4; rw [← HUS.out] at hO4; have HO5 := Lib.hid (own_kept HU4.out (by decide) (HO.out.of_block fun k e => Below.heap_alloc _ _ _ (HO.out.lt k e)) hg4); have HB5 := Lib.hid (own_grown HU4.out HB4.out hg4); obtain ⟨gU, cap, rfl, hcap, hgU, hLay⟩ := Lay.of_own hO4 (by rw [HUSL.out]; omega); rw [HUSL.out] at hLay hcap ⊢; have HLAY := Lib.hid hLay; have HGU := Lib.hid hgU; clear hg4 hO4 hLay hgU)
      have HS4 : Hid (Bs2 w gU N 0 us (.slice Ah nh Ch) (Rc.put ⟨p, v, z, f, l, s, m, g⟩) (.slice none 0 0) [] [] w4) := Lib.hid ⟨TopB.nil _ _ _, HLAY.out, HO5.out, HB5.out, HGU.out⟩
      clear HLAY HO5 HB5 HGU HU4 HB4 HU HO HB hsz HUL HX hlt hk
      go_loopw [14, 13] (fun vi vo wx => ∃ (i : Nat) (rs : List Value), i ≤ N ∧ rs.length = i ∧ vi = .int .i64 (i : Int) ∧ Hid (Bs2 w gU N i us (.slice Ah nh Ch) (Rc.put ⟨p, v, z, f, l, s, m, g⟩) vo rs (((Vo.units lab at_ ⟨p, v, z, f, l, s, m, g⟩ b).take i).map Fm.blk) wx) ∧ Hid (∀ j, j < i → Vo.Fits lab (at_ + (j : Int)) 0)) (fun vi _ _ => N - (intOf vi).toNat)
      case atStart => exact ⟨0, [], Nat.zero_le _, rfl, rfl, by rw [List.take_zero]; exact HS4, Lib.hid (fun j hj => absurd hj (by omega))⟩
      case round =>
        obtain ⟨i, rs, hi, hrs, rfl, HS, HF⟩ := hrel
        by_cases hlt : i < N
        · obtain ⟨⟨ku, lu, nu, ld⟩, ⟨kv, Av, nv, Cv⟩, hu, huv, e1, e2, e3, e5⟩ := HUV.out i hlt
          have e1' : kv = ku := e1
          have e2' : nv = ld.length := e2
          obtain ⟨hlu, hnu, -, -⟩ := Vo.units_at hu
          have hlu' : lu = lab := hlu
          have hnu' : nu = at_ + (i : Int) := hnu
          have herr := Vo.unit_err HOK.out hu
          subst e1' hlu'
          have HU := Lib.hid hu
          have HERR := Lib.hid herr
          have HNU := Lib.hid hnu'
          have HUVI := Lib.hid huv
          have HE2 := Lib.hid e2'
          have HE3 : Hid (Av = none → nv = 0 ∧ Cv = 0) := Lib.hid e3
          have HE5 : Hid (∀ (W : World) (G : Nat → Prop), RdL W Ah (Rc.put ⟨p, v, z, f, l, s, m, g⟩) G → RdL W A b G → RdL W Av ld G) := Lib.hid e5
          clear hu huv e1 e2 e3 e5 hlu hnu herr hnu' e2'
          obtain ⟨q, hq⟩ : ∃ q, q = wrap64 (at_ + (i : Int)) := ⟨_, rfl⟩
          have hq' : wrap64 (at_ + (i : Int)) = q := hq.symm
          have HQ := Lib.hid hq
          clear hq
          obtain ⟨x1, hx1⟩ : ∃ x1, x1 = wr.setCell ⟨gU, i * 4 + 1, none⟩ (.int .i64 lu) := ⟨_, rfl⟩
          obtain ⟨x2, hx2⟩ : ∃ x2, x2 = x1.setCell ⟨gU, i * 4 + 2, none⟩ (.int .i64 q) := ⟨_, rfl⟩
          have hS1 := HS.out.set (.inl rfl) (.int .i64 lu)
          rw [← hx1] at hS1
          have hS2 := hS1.set (.inr rfl) (.int .i64 q)
          rw [← hx2] at hS2
          have HS1 := Lib.hid hS1
          have HS2 := Lib.hid hS2
          obtain ⟨c0, ⟨v1, c1⟩, ⟨v2, c2⟩, c3, cf⟩ := HS.out.lay.cells hlt HUVI.out
          have f1 := cf 1
          obtain ⟨d0, ⟨w1', d1⟩, ⟨w2', d2⟩, d3, df⟩ := HS1.out.lay.cells hlt HUVI.out
          have f2 := df 2
          obtain ⟨g0, ⟨w3', g1'⟩, ⟨w4', g2'⟩, g3, gf⟩ := HS2.out.lay.cells hlt HUVI.out
          have f3 := gf 2
          have g2 : x2.cell? ⟨gU, i * 4 + 2, none⟩ = some (.int .i64 q) := by rw [hx2]; exact HS1.out.lay.got hlt (.inr rfl) _
          have g1 : x2.cell? ⟨gU, i * 4 + 1, none⟩ = some (.int .i64 lu) := by
            rw [hx2]
            exact HS1.out.lay.othr (by decide) (by rw [hx1]; exact HS.out.lay.got hlt (.inl rfl) _) _
          clear hS1 hS2 cf df gf g1' g2' w3' w4'
          have HX1 := Lib.hid hx1
          have HX2 := Lib.hid hx2
          rw [hx2] at g0 g1 g2 g3 f3
          rw [hx1] at d0 d1 d2 d3 f2 g0 g1 g2 g3 f3
          clear hx1 hx2
          by_cases hbig : 2147483648 < at_
          · obtain ⟨x3, hx3⟩ : ∃ x3, x3 = x2.setCell ⟨gU, i * 4 + 2, none⟩ (.int .i64 2147483648) := ⟨_, rfl⟩
            have hS3 := HS2.out.set (.inr rfl) (.int .i64 2147483648)
            rw [← hx3] at hS3
            have HS3 := Lib.hid hS3
            obtain ⟨k0, -, -, k3, -⟩ := HS3.out.lay.cells hlt HUVI.out
            have k2 : x3.cell? ⟨gU, i * 4 + 2, none⟩ = some (.int .i64 2147483648) := by rw [hx3]; exact HS2.out.lay.got hlt (.inr rfl) _
            have k1 : x3.cell? ⟨gU, i * 4 + 1, none⟩ = some (.int .i64 lu) := by
              rw [hx3]
              exact HS2.out.lay.othr (by decide) (by rw [HX2.out, HX1.out]; exact g1) _
            have HX3 := Lib.hid hx3
            rw [hx3, HX2.out, HX1.out] at k0 k1 k2 k3
            have hgd : decide (2147483648 < at_) = true := decide_eq_true hbig
            have hnf : ¬ Vo.Fits lu (at_ + (i : Int)) 0 := fun h => by have := h.2.2; omega
            clear hS3 hx3
            have hcall := refPut_own kv lu 2147483648 Av ld nv Cv _ x3 HE2.out HE3.out (HE5.out x3 (fun _ => True) (by
              obtain ⟨A', C', e', -, -, -, hh⟩ := HS3.out.hd.rd
              injection e' with y1 y2 y3
              subst y1
              exact hh.mono fun _ _ => trivial) ((HR.out.below HS3.out.bel).mono fun _ _ => trivial))
            have HCP := Lib.hid hcall
            clear hcall
            go_wp2_with fail
            rw [← HX1.out, ← HX2.out, ← HX3.out]
            refine HCP.out.mono ?_
            rintro e w5 ⟨A5, n5, C5, rfl, hO5, hb5⟩
            clear HCP c0 c1 c2 c3 d0 d1 d2 d3 g0 g1 g2 g3 f1 f2 f3 hq' k0 k1 k2 k3 hgd
            have her : Fm.err ⟨kv, lu, 2147483648, ld⟩ = 1 := Fm.err_arg fun h => by have := h.2.2.2.2.2; simp only at this; omega
            rw [her]
            have HNR : Hid (¬ Vo.Right lu at_ ⟨p, v, z, f, l, s, m, g⟩ b) := Lib.hid fun h => hnf (by
              obtain ⟨h1, h2, h3⟩ := h.2
              rw [← HL.out, ← HD.out] at h3
              have := HN.out
              exact ⟨h1, by omega, by omega⟩)
            have HB6 := Lib.hid ((HS3.out.bel).trans (hb5.mono HS3.out.bel.size))
            clear hb5 hO5
            go_wp2
            go_ret2
            exact RefBl.no HNR.out HB6.out
          · have hgd : decide (2147483648 < at_) = false := decide_eq_false hbig
            have hqn : q = nu := by
              rw [HQ.out, HNU.out]
              have h1 := HAT.out
              unfold wrap64
              omega
            subst hqn
            have hcall := refPut_own kv lu q Av ld nv Cv _ x2 HE2.out HE3.out (HE5.out x2 (fun _ => True) (by
              obtain ⟨A', C', e', -, -, -, hh⟩ := HS2.out.hd.rd
              injection e' with y1 y2 y3
              subst y1
              exact hh.mono fun _ _ => trivial) ((HR.out.below HS2.out.bel).mono fun _ _ => trivial))
            have HCP := Lib.hid hcall
            clear hcall
            go_wp2_with fail
            rw [← HX1.out, ← HX2.out]
            refine HCP.out.mono ?_
            rintro e w5 ⟨A5, n5, C5, rfl, hO5, hb5⟩
            clear HCP c0 c1 c2 c3 d0 d1 d2 d3 g0 g1 g2 g3 f1 f2 f3 hq' hgd
            by_cases hf : Vo.Fits lu (at_ + (i : Int)) 0
            · have her : Fm.err ⟨kv, lu, q, ld⟩ = 0 := by rw [HERR.out, if_pos hf]
              have hput : Fm.put ⟨kv, lu, q, ld⟩ = Fm.blk ⟨kv, lu, q, ld⟩ := Fm.put_ok (Vo.unit_ok HOK.out HU.out hf)
              rw [her]
              rw [hput] at hO5
              have hbx : Below w5.heap.size w5 (w5.alloc (.cells [Value.slice A5 n5 C5].toArray 24)) := (Below.refl _ _).alloc (Nat.le_refl _) _
              have hb6 : Below x2.heap.size x2 (w5.alloc (.cells [Value.slice A5 n5 C5].toArray 24)) := hb5.trans (hbx.mono hb5.size)
              have hO6 : OwnL (w5.alloc (.cells [Value.slice A5 n5 C5].toArray 24)) x2.heap.size (.slice A5 n5 C5) (Fm.blk ⟨kv, lu, q, ld⟩) := hO5.of_block fun k e => hbx.block k (hO5.lt k e)
              have HO6 := Lib.hid hO6
              have HB6 := Lib.hid hb6
              have HT6 := Lib.hid (HS2.out.old hb6).top.top
              have hsz6 : w.heap.size ≤ w5.heap.size := Nat.le_trans HS2.out.bel.size hb5.size
              have hrl : rs.length ≤ 1000000 := by omega
              clear hO5 hO6 hb5 hb6 hbx her hput
              go_wp2_with (at_builtin; refine wpList_append_tp _ rfl _ _ rfl w.heap.size _ rs rfl HT6.out hrl w5.heap.size 0 1 A5 n5 C5 rfl (by simp) (by simp; omega) ?_; intro v' w6 hv hg6)
              have hS6 := HS2.out.push HB6.out HO6.out hv hg6
              have htake : (Vo.units lu at_ ⟨p, v, z, f, l, s, m, g⟩ b).take (i + 1) = (Vo.units lu at_ ⟨p, v, z, f, l, s, m, g⟩ b).take i ++ [⟨kv, lu, q, ld⟩] := by
                rw [List.take_add_one, HU.out]; rfl
              have HS7 : Hid (Bs2 w gU N (i + 1) us (.slice Ah nh Ch) (Rc.put ⟨p, v, z, f, l, s, m, g⟩) v' (rs ++ [.slice A5 n5 C5]) (((Vo.units lu at_ ⟨p, v, z, f, l, s, m, g⟩ b).take (i + 1)).map Fm.blk) w6) := Lib.hid (by
                rw [htake, List.map_append]; exact hS6.next)
              have hF6 : Hid (∀ j, j < i + 1 → Vo.Fits lu (at_ + (j : Int)) 0) := Lib.hid fun j hj => by
                rcases Nat.lt_or_ge j i with h | h
                · exact HF.out j h
                · obtain rfl : j = i := by omega
                  exact hf
              clear hS6 htake hv hg6
              go_roundw
              case rel => exact ⟨i + 1, rs ++ [.slice A5 n5 C5], by omega, by simp [hrs], by go_num, HS7, hF6⟩
              case measure => simp [intOf]; omega
            · -- the first that does not fit
              have her : Fm.err ⟨kv, lu, q, ld⟩ = 1 := by rw [HERR.out, if_neg hf]
              rw [her]
              have HNR : Hid (¬ Vo.Right lu at_ ⟨p, v, z, f, l, s, m, g⟩ b) := Lib.hid fun h => hf (by
                obtain ⟨h1, h2, h3⟩ := h.2
                rw [← HL.out, ← HD.out] at h3
                have := HN.out
                exact ⟨h1, by omega, by omega⟩)
              have HB6 := Lib.hid ((HS2.out.bel).trans (hb5.mono HS2.out.bel.size))
              clear hb5 hO5
              go_wp2
              go_ret2
              exact RefBl.no HNR.out HB6.out
        · obtain rfl : i = N := by omega
          have hR : Vo.Right lab at_ ⟨p, v, z, f, l, s, m, g⟩ b := by
            have h0 := HF.out 0 (by omega)
            have h1 := HF.out (i - 1) (by omega)
            obtain ⟨x1, x2, x3⟩ := h0
            obtain ⟨-, -, y3⟩ := h1
            refine ⟨⟨HOK.out, HLL.out⟩, x1, by omega, ?_⟩
            rw [← HL.out, ← HD.out]
            have := HN.out
            omega
          have hput : Vo.put lab at_ ⟨p, v, z, f, l, s, m, g⟩ b = (Vo.units lab at_ ⟨p, v, z, f, l, s, m, g⟩ b).map Fm.blk := Vo.put_yes hR
          have hlen : (Vo.units lab at_ ⟨p, v, z, f, l, s, m, g⟩ b).length = i := by rw [Vo.units_len, HN.out, HD.out, HL.out]
          have hT8 := HS.out.top
          rw [List.take_of_length_le (by rw [hlen]; exact Nat.le_refl _), ← hput] at hT8
          have HT8 := Lib.hid hT8
          have HE := Lib.hid (Vo.err_yes hR)
          clear hR hput hlen hT8
          go_wp2
          go_ret2
          exact ⟨_, rs, by rw [HE.out]; rfl, HT8.out, HS.out.bel⟩
theorem refBlocks_any (lab at_ : Int) (p : Tx) (v z f l s m : Int) (g : Bool) (A : Option Addr) (b : Tx) (L C : Nat) (G : Nat → Prop) (w : World) (hp : p.length ≤ maxLen) (hL : L = b.length) (hC : L ≤ C) (hCm : C ≤ maxLen) (hr : RdL w A b G)
    (hat : -9223372036854775808 ≤ at_ ∧ at_ ≤ 9223372036854775807) :
    Calls Tryd.prog 8 #[.int .i64 lab, .int .i64 at_, .agg #[.string (tx p), .int .i64 v, .int .i64 z, .int .i64 f, .int .i64 l, .int .i64 s, .int .i64 m, .bool g], .slice A L C] w (RefBl lab at_ ⟨p, v, z, f, l, s, m, g⟩ b w) := by
  by_cases h : Rc.Ok ⟨p, v, z, f, l, s, m, g⟩ ∧ (b.length : Int) = l
  · rcases Nat.eq_zero_or_pos L with h0 | h0
    · exact refBlocks_main lab at_ p v z f l s m g A b L C 0 0 G w hp hL hC hCm (fun h' => by omega) hr h.1 h.2 hat
    · obtain ⟨bb, off, e, -, -⟩ := hr (by omega)
      exact refBlocks_main lab at_ p v z f l s m g A b L C bb off G w hp hL hC hCm (fun _ => e) hr h.1 h.2 hat
  · exact refBlocks_no lab at_ p v z f l s m g A b L C w hp hL h
end Go.Proofs.YtbcncmampabmfaaDoor
namespace Go.Proofs.YtbcncmampabmfaaDoor
open Go.RowKit
open Pt (Tx)

/-- its rows' cells -/
theorem TopB.cells {w : World} {B : Nat} {G : Nat → Prop} {v : Value} {us : List Value} {bs : List Tx} (h : TopB w B G v us bs) (hp : 0 < us.length) : ∃ g cap, v = .slice (some ⟨g, 0, none⟩) us.length cap ∧ us.length ≤ cap ∧ B ≤ g ∧ ∀ j u, us[j]? = some u → w.cell? ⟨g, j, none⟩ = some u := by
  rcases h.top.2 with ⟨_, h0⟩ | ⟨g, cap, cur, e, hB, hg, hnc, _, hs, ht⟩
  · omega
  · refine ⟨g, cap, e, hnc, hB, fun j u hu => ?_⟩
    have hj : j < us.length := (List.getElem?_eq_some_iff.1 hu).1
    rw [← ht, List.getElem?_take, if_pos (by omega), Array.getElem?_toList] at hu
    rw [heap_cell hg, hu]
/-- rows behind rows -/
theorem TopB.concat {w w' : World} {B B2 : Nat} {G G2 : Nat → Prop} {v v2 v' : Value} {us us2 : List Value} {bs bs2 : List Tx} (h : TopB w B G v us bs) (h2 : TopB w B2 G2 v2 us2 bs2) (hd : ∀ k, G k → G2 k → False) (hBB : B ≤ B2) (m : Nat) (hm : m ≤ us2.length)
    (ho : w'.ownsRow B 24 1 v' (us.length + m) (us ++ us2.take m)) (hg : w.grownBy w' v.ownBlock) : TopB w' B (fun k => G k ∨ G2 k) v' (us ++ us2.take m) (bs ++ bs2.take m) := by
  have keep : ∀ {B' : Nat} {x : Value} {l : Tx}, OwnL w B' x l → OwnL w' B' x l := fun {B' x l} hx => hx.of_block fun k e => by
    obtain ⟨c, hc⟩ := hx.block k e
    exact blk_kept h.top hg hc (by decide)
  have hl2 := h2.len
  have h1 := h.len
  refine ⟨by rw [List.length_append, List.length_take, Nat.min_eq_left hm]; exact ho, by simp [h1, hl2], fun i hi hi' => ?_, fun i hi k e => ?_, fun i j hi hj k e e' => ?_⟩
  · rcases Nat.lt_or_ge i us.length with hl | hl
    · rw [List.getElem_append_left hl, List.getElem_append_left (by omega)]
      exact keep (h.rows i hl (by omega))
    · rw [List.getElem_append_right hl, List.getElem_append_right (by omega)]
      simp only [List.getElem_take]
      have := keep ((h2.rows (i - us.length) (by simp at hi; omega) (by simp at hi; omega)).lower hBB)
      have e : i - bs.length = i - us.length := by omega
      simp only [e]
      exact this
  · rcases Nat.lt_or_ge i us.length with hl | hl
    · rw [List.getElem_append_left hl] at e
      exact .inl (h.gs i hl k e)
    · rw [List.getElem_append_right hl, List.getElem_take] at e
      exact .inr (h2.gs _ _ k e)
  · rcases Nat.lt_or_ge i us.length with hl | hl <;> rcases Nat.lt_or_ge j us.length with hm' | hm'
    · rw [List.getElem_append_left hl] at e
      rw [List.getElem_append_left hm'] at e'
      exact h.inj i j hl hm' k e e'
    · rw [List.getElem_append_left hl] at e
      rw [List.getElem_append_right hm', List.getElem_take] at e'
      exact (hd k (h.gs i hl k e) (h2.gs _ _ k e')).elim
    · rw [List.getElem_append_left hm'] at e'
      rw [List.getElem_append_right hl, List.getElem_take] at e
      exact (hd k (h.gs j hm' k e') (h2.gs _ _ k e)).elim
    · rw [List.getElem_append_right hl, List.getElem_take] at e
      rw [List.getElem_append_right hm', List.getElem_take] at e'
      have := h2.inj (i - us.length) (j - us.length) (by simp at hi; omega) (by simp at hj; omega) k e e'
      omega
/-- a piece of a row behind rows, as what reads -/
theorem TopB.more {w w' : World} {B B2 : Nat} {G : Nat → Prop} {v v' x : Value} {us : List Value} {bs : List Tx} {s : Tx} {A : Option Addr} {n C : Nat} (h : TopB w B G v us bs) (hs : OwnL w B2 x s) (hx : ∃ m D, x = .slice A m D) (hn : n ≤ s.length) (hC : n ≤ C) (hA : A = none → n = 0 ∧ C = 0)
    (ho : w'.ownsRow B 24 1 v' (us.length + 1) (us ++ [.slice A n C])) (hg : w.grownBy w' v.ownBlock) : ∃ g D, v' = .slice (some ⟨g, 0, none⟩) (bs.length + 1) D ∧ bs.length + 1 ≤ D ∧ RdB w' (some ⟨g, 0, none⟩) (bs ++ [s.take n]) (fun k => ∃ c t, (t = 5 ∨ t = 24) ∧ w'.heap[k]? = some (.cells c t (0, 0))) := by
  have keep : ∀ {B' : Nat} {x : Value} {l : Tx}, OwnL w B' x l → OwnL w' B' x l := fun {B' x l} hx => hx.of_block fun k e => by
    obtain ⟨c, hc⟩ := hx.block k e
    exact blk_kept h.top hg hc (by decide)
  rcases ho.2 with ⟨_, h0⟩ | ⟨g, cap, cur, e, hB, hgb, hnc, _, hsz, ht⟩
  · omega
  · refine ⟨g, cap, by rw [e, h.len], by rw [← h.len]; exact hnc, fun _ => ⟨g, 0, rfl, ⟨_, _, .inr rfl, hgb⟩, fun i hi => ?_⟩⟩
    have hcell : ∀ j u, (us ++ [Value.slice A n C])[j]? = some u → w'.cell? ⟨g, j, none⟩ = some u := fun j u hu => by
      have hj : j < us.length + 1 := by have := (List.getElem?_eq_some_iff.1 hu).1; simpa using this
      rw [← ht, List.getElem?_take, if_pos (by omega), Array.getElem?_toList] at hu
      rw [heap_cell hgb, hu]
    rw [Nat.zero_add]
    rcases Nat.lt_or_ge i us.length with hl | hl
    · have hl' : i < bs.length := by rw [← h.len]; exact hl
      obtain ⟨A', C', e1, h1, -, h3, h4⟩ := (keep (h.rows i hl hl')).rd
      rw [List.getElem_append_left hl']
      refine ⟨A', C', hcell i _ ?_, h1, h3, h4.mono fun k hk => ?_⟩
      rotate_left
      · obtain ⟨c, hc⟩ := (keep (h.rows i hl hl')).block k hk.2
        exact ⟨c, _, .inl rfl, hc⟩
      rw [List.getElem?_append_left hl, List.getElem?_eq_getElem hl, e1]
    · have : i = us.length := by simp at hi; have := h.len; omega
      subst this
      have e2 : (bs ++ [s.take n])[us.length] = s.take n := by simp [h.len]
      rw [e2]
      have hlen : (s.take n).length = n := by rw [List.length_take]; omega
      rw [hlen]
      refine ⟨A, C, hcell us.length _ (by simp), hC, hA, ?_⟩
      obtain ⟨m, D, rfl⟩ := hx
      obtain ⟨A', C', e1, -, -, -, h4⟩ := (keep hs).rd
      injection e1 with y1 y2 y3
      subst y1
      refine (h4.take n).mono fun k hk => ?_
      obtain ⟨c, hc⟩ := (keep hs).block k hk.2
      exact ⟨c, _, .inl rfl, hc⟩
/-- append of rows, as an equation -/
theorem apR_run (w : World) (base : Nat) (v : Value) (us : List Value) (hown : w.ownsRow base 24 1 v us.length us) (hl : us.length ≤ 1000000) (ad : Addr) (m c : Nat) (news : List Value) (hn : news.length = m) (hm : m ≤ 1000000) (hc : ∀ j u, news[j]? = some u → w.cell? (ad.add j) = some u) (h1 : ∀ u ∈ news, u.oneCell' = true) (hbase : base ≤ w.heap.size) :
    ∃ v' w', (∀ ty, (Builtin.append_ #[26, 26] ty #[v, .slice (some ad) m c]).run Tryd.prog w = .ok v' w') ∧ w'.ownsRow base 24 1 v' (us.length + m) (us ++ news) ∧ w.grownBy w' v.ownBlock := by
  obtain ⟨i0, hi, hz0, hz1, hz2⟩ := info_parts infoRow
  obtain ⟨v', w', h1, h2, h3, _⟩ := run_append_own (P := Tryd.prog) w base 26 3 24 i0 (.slice none 0 0) 1 24 Tryd.underlying26 hi hz0 hz1 hz2 rfl (by decide) v us.length us hown ad m c news (by rw [hn, Nat.mul_one]) hc h1 (by unfold maxLen; omega) (by omega) hbase
  exact ⟨v', w', fun ty => h1, h2, h3⟩
/-- a tape of label 7 in block TB, whose blocks are its own -/
structure Tp (w : World) (TB : Nat) (A : Option Addr) (n C : Nat) (us : List Value) (bs : List Tx) (x : World) : Prop where
  blk : x.heap[TB]? = some (tapeObj 7 64 A n C false)
  top : TopB x (TB + 1) (TB < ·) (.slice A n C) us bs
  bel : Below w.heap.size w x
  lo : w.heap.size ≤ TB
namespace Tp
variable {w x y z : World} {TB n C : Nat} {A : Option Addr} {us : List Value} {bs : List Tx}
theorem len (h : Tp w TB A n C us bs x) : n = bs.length := by
  obtain ⟨A', C', e, _⟩ := h.top.val
  injection e
theorem old (h : Tp w TB A n C us bs x) (hb : Below x.heap.size x y) : Tp w TB A n C us bs y := ⟨(hb.block TB (heap_lt h.blk)).trans h.blk, h.top.old hb, h.bel.trans (hb.mono h.bel.size), h.lo⟩
/-- its blocks have grown, and are stored -/
theorem stored (h : Tp w TB A n C us bs x) {A' : Option Addr} {n' C' : Nat} {us' : List Value} {bs' : List Tx} {G : Nat → Prop} (hg : x.grownBy y (Value.slice A n C).ownBlock) (ht : TopB y (TB + 1) G (.slice A' n' C') us' bs') (hG : ∀ k, G k → TB < k) : Tp w TB A' n' C' us' bs' (y.setCell ⟨TB, 2, none⟩ (.slice A' n' C')) := by
  have hne : some TB ≠ (Value.slice A n C).ownBlock := fun e => by have := (World.ownsRow.lt h.top.top TB e.symm).1; omega
  have hTB : y.heap[TB]? = some (tapeObj 7 64 A n C false) := (hg.block TB (heap_lt h.blk) hne).trans h.blk
  have hk : Kp (· = TB) y (y.setCell ⟨TB, 2, none⟩ (.slice A' n' C')) := Kp.store _ _ _ _
  have hno : ∀ {k : Nat} {c : Array Value} {t : TypeId}, t ≠ 38 → k = TB → y.heap[k]? ≠ some (.cells c t (0, 0)) := fun {k c t} hty e hk' => by
    subst e
    rw [hTB] at hk'
    injection hk' with hk'
    injection hk' with _ e2
    exact hty e2.symm
  have hb : Below w.heap.size w y := h.bel.grown hg h.bel.size fun k e => by have := (World.ownsRow.lt h.top.top k e).1; have := h.lo; omega
  refine ⟨?_, ((ht.mono hG).kpT hk (fun k c e => hno (by decide) e) (fun k c e => hno (by decide) e)), hb.trans (hk.below hb.size fun k e => by have := h.lo; omega), h.lo⟩
  exact heap_set hTB _
end Tp
end Go.Proofs.YtbcncmampabmfaaDoor
namespace Go.Proofs.YtbcncmampabmfaaDoor
open Go.RowKit
open Pt (Tx)

theorem rd_zeros (w : World) (n : Nat) : RdL (w.alloc (.cells (madeCells #[.int .u8 0] n) 5)) (some ⟨w.heap.size, 0, none⟩) (List.replicate n 0) (w.heap.size ≤ ·) := by
  refine (RdL.of_cells (n := 0) (l := List.replicate n 0) (Go.Deep.blk_alloc_new _ _) fun j hj => ?_).mono fun x hx => by rw [hx]; exact Nat.le_refl _
  rw [List.length_replicate] at hj
  have h := toList_madeCells_one (.int .u8 0) n
  rw [← Array.getElem?_toList, h, Nat.zero_add, List.getElem?_replicate, if_pos hj]
  simp
theorem and_127 (x : Int) : ∃ y : Nat, bits BinOp.and IntKind.i64 x 127 = (y : Int) ∧ y ≤ 127 := by
  have hx : (BitVec.ofInt 64 x &&& BitVec.ofInt 64 127).toNat ≤ 127 := by
    rw [BitVec.toNat_and]; exact Nat.and_le_right
  refine ⟨(BitVec.ofInt 64 x &&& BitVec.ofInt 64 127).toNat, ?_, hx⟩
  show IntKind.i64.wrap ((BitVec.ofInt 64 x &&& BitVec.ofInt 64 127).toNat : Int) = _
  rw [IntKind.wrap_i64]; omega
def low7 (z : Nat → Int) (j : Nat) : Nat := (bits BinOp.and IntKind.i64 (z j) 127).toNat
theorem low7_eq (z : Nat → Int) (j : Nat) : bits BinOp.and IntKind.i64 (z j) 127 = (low7 z j : Int) ∧ low7 z j ≤ 127 := by
  obtain ⟨y, h1, h2⟩ := and_127 (z j)
  unfold low7
  rw [h1]; simp; exact h2
/-- the sizes of the parts -/
def sizes (z : Nat → Int) (i : Nat) : List Nat := (List.range i).map (low7 z)
theorem sizes_succ (z : Nat → Int) (i : Nat) : sizes z (i + 1) = sizes z i ++ [low7 z i] := by simp [sizes, List.range_succ]
theorem sizes_len (z : Nat → Int) (i : Nat) : (sizes z i).length = i := by simp [sizes]
theorem sizes_le (z : Nat → Int) (i : Nat) : ∀ n ∈ sizes z i, n ≤ 127 := by
  intro n hn
  obtain ⟨j, -, rfl⟩ := List.mem_map.1 hn
  exact (low7_eq z j).2
theorem a_right : Pt.right [97] = true := by decide
theorem b_right : Pt.right [98] = true := by decide
/-- the label's block -/
def b0 : Tx := Fm.blk (Vo.first 7 [68])
theorem b0_ok : Fm.Ok (Vo.first 7 [68]) := Vo.first_ok (by decide) (by decide)
theorem b0_le : ∀ x ∈ [b0], x.length ≤ 94 := by
  intro x hx
  rw [List.mem_singleton.1 hx, b0, ← Fm.put_ok b0_ok]
  exact Fm.put_le _
/-- the blocks of the parts that were laid -/
def laid (z : Nat → Int) (i : Nat) : List Tx := Vo.lay [97] 7 [b0] 0 (sizes z i)
theorem laid_room (z : Nat → Int) (i : Nat) : Vo.room (sizes z i) ≤ 4 * i := by
  have := Vo.room_le (sizes z i) (sizes_le z i)
  rwa [sizes_len] at this
theorem laid_len (z : Nat → Int) {i : Nat} (hi : i ≤ 8) : (laid z i).length = 1 + Vo.room (sizes z i) := by
  have h := laid_room z i
  exact Vo.lay_len a_right (by decide) (sizes z i) [b0] 0 (fun n hn => by have := sizes_le z i n hn; omega) (by rw [sizes_len]; omega) (by simp; omega)
theorem laid_succ (z : Nat → Int) (i : Nat) : laid z (i + 1) = laid z i ++ Vo.put 7 ((laid z i).length : Int) (Vo.hd [97] i (low7 z i)) (List.replicate (low7 z i) 0) := by
  unfold laid
  rw [sizes_succ, Vo.lay_snoc, sizes_len, Nat.zero_add]
theorem laid_le (z : Nat → Int) (i : Nat) : ∀ x ∈ laid z i, x.length ≤ 94 := fun _ hx => Vo.lay_le _ _ _ b0_le hx
theorem laid_right (z : Nat → Int) {i : Nat} (hi : i ≤ 8) : Vo.Right 7 ((laid z i).length : Int) (Vo.hd [97] i (low7 z i)) (List.replicate (low7 z i) 0) := by
  have h := laid_room z i
  exact Vo.right_hd a_right (by decide) (by omega) (by have := (low7_eq z i).2; omega) (by rw [laid_len z hi]; omega)
/-- what an append of rows leaves -/
theorem Tp.grow {w x : World} {TB n C B2 : Nat} {A : Option Addr} {us us2 : List Value} {bs bs2 : List Tx} {G2 : Nat → Prop} {v2 : Value} (h : Tp w TB A n C us bs x) (h2 : TopB x B2 G2 v2 us2 bs2) (hd : ∀ i (hi : i < us.length) k, us[i].ownBlock = some k → ¬ G2 k) (hB2 : TB + 1 ≤ B2) (hG2 : ∀ k, G2 k → TB < k) (m : Nat) (hm : m ≤ us2.length) (h0 : 0 < us2.length) (h1 : us.length ≤ 900000) (h3 : us2.length ≤ 90000) :
    ∃ g2 c2 A' C' y, v2 = .slice (some ⟨g2, 0, none⟩) us2.length c2 ∧ us2.length ≤ c2 ∧ (∀ j u, us2[j]? = some u → x.cell? ⟨g2, j, none⟩ = some u) ∧ (∀ ty, (Builtin.append_ #[26, 26] ty #[.slice A n C, .slice (some ⟨g2, 0, none⟩) m c2]).run Tryd.prog x = .ok (.slice A' (n + m) C') y)
      ∧ y.cell? ⟨TB, 2, none⟩ = some (.slice A n C) ∧ y.frozen? ⟨TB, 2, none⟩ = false ∧ Tp w TB A' (n + m) C' (us ++ us2.take m) (bs ++ bs2.take m) (y.setCell ⟨TB, 2, none⟩ (.slice A' (n + m) C'))
      ∧ (∀ k o, k ≠ TB → (Value.slice A n C).ownBlock ≠ some k → x.heap[k]? = some o → (y.setCell ⟨TB, 2, none⟩ (.slice A' (n + m) C')).heap[k]? = some o) := by
  obtain ⟨g2, c2, e2, hc2, hg2, hcell⟩ := h2.cells h0
  have hn : n = us.length := by rw [h.len, h.top.len]
  have hsz : TB + 1 ≤ x.heap.size := heap_lt h.blk
  obtain ⟨v', y, hr, ho, hg⟩ := apR_run x (TB + 1) (.slice A n C) us h.top.top (by omega) ⟨g2, 0, none⟩ m c2 (us2.take m) (by rw [List.length_take]; omega) (by omega) (fun j u hu => by
    rw [addr_add, Nat.zero_add]
    rw [List.getElem?_take] at hu
    split at hu
    · exact hcell j u hu
    · cases hu) (fun u hu => by
      obtain ⟨j, hj⟩ := List.getElem?_of_mem hu
      rw [List.getElem?_take] at hj
      split at hj
      · obtain ⟨hlt, rfl⟩ := List.getElem?_eq_some_iff.1 hj
        obtain ⟨A', C', e, -⟩ := (h2.rows j hlt (by rw [← h2.len]; exact hlt)).rd
        rw [e]; rfl
      · cases hj) hsz
  have hT1 : TopB x (TB + 1) (fun k => TB < k ∧ ¬ G2 k) (.slice A n C) us bs := ⟨h.top.top, h.top.len, h.top.rows, fun i hi k e => ⟨h.top.gs i hi k e, hd i hi k e⟩, h.top.inj⟩
  have hT2 := hT1.concat h2 (fun k hk hk' => hk.2 hk') hB2 m hm ho hg
  obtain ⟨A', C', rfl, -, -, -⟩ := hT2.val
  have hlen : (bs ++ bs2.take m).length = n + m := by
    have h4 := h2.len
    rw [List.length_append, List.length_take, h.len]; omega
  rw [hlen] at hT2 hr ho
  have hne : some TB ≠ (Value.slice A n C).ownBlock := fun e => by have := (World.ownsRow.lt h.top.top TB e.symm).1; omega
  have hTB : y.heap[TB]? = some (tapeObj 7 64 A n C false) := (hg.block TB (heap_lt h.blk) hne).trans h.blk
  refine ⟨g2, c2, A', C', y, e2, hc2, hcell, hr, heap_cell hTB, heap_frozen hTB, h.stored hg hT2 (fun k hk => hk.elim (fun h => h.1) (hG2 k)), fun k o hk hk' ho => ?_⟩
  have h5 : y.heap[k]? = some o := (hg.block k (heap_lt ho) (fun e => hk' e.symm)).trans ho
  exact ((Kp.store y TB 2 _ : Kp (· = TB) y _).block k (heap_lt h5) hk).trans h5
end Go.Proofs.YtbcncmampabmfaaDoor
namespace Go.Proofs.YtbcncmampabmfaaDoor
open Go.RowKit Mx Go.ChangeShapes Go.WideShapes Go.Joins
open Pt (Tx)

theorem array8 {α : Type} {cs : Array α} (h : cs.size = 8) : ∃ c0 c1 c2 c3 c4 c5 c6 c7, cs = #[c0, c1, c2, c3, c4, c5, c6, c7] := by
  obtain ⟨l⟩ := cs
  match l, h with
  | [c0, c1, c2, c3, c4, c5, c6, c7], _ => exact ⟨c0, c1, c2, c3, c4, c5, c6, c7, rfl⟩
theorem cellsHead : Tryd.prog.cellsOf 23 = 8 := by kernel_rfl
theorem cellsI : Tryd.prog.cellsOf 3 = 1 := by kernel_rfl
theorem cellsS : Tryd.prog.cellsOf 9 = 1 := by kernel_rfl
theorem cellsB : Tryd.prog.cellsOf 4 = 1 := by kernel_rfl
section
variable {H : Type} {enc : TypeId × Value → H} {w : World} {base fuel : Nat} {held : Bool}
/-- the cells of a head -/
theorem head_cells {spare : Nat → Bool} {n : Nat} {v0 v1 v2 v3 v4 v5 v6 v7 : Value} {y : DataW H × List MemPlace} (h : DataW.trod enc Tryd.prog w base spare held n 23 [v0, v1, v2, v3, v4, v5, v6, v7] = some y) :
    ∃ (p : Tx) (v z f l s m : Int) (g : Bool), [v0, v1, v2, v3, v4, v5, v6, v7] = [.string (tx p), .int .i64 v, .int .i64 z, .int .i64 f, .int .i64 l, .int .i64 s, .int .i64 m, .bool g] ∧ p.length ≤ maxLen := by
  obtain ⟨xs, m, _, _, h3, hxl, hf⟩ := DataW.trod_struct Tryd.underlying23 h
  have h0 := hf 0 _ rfl
  have h1 := hf 1 _ rfl
  have h2 := hf 2 _ rfl
  have h3 := hf 3 _ rfl
  have h4 := hf 4 _ rfl
  have h5 := hf 5 _ rfl
  have h6 := hf 6 _ rfl
  have h7 := hf 7 _ rfl
  clear hf
  match xs, hxl with
  | [x0, x1, x2, x3, x4, x5, x6, x7], _ =>
    have g0 : DataW.trod enc Tryd.prog w base spare held m 9 (([v0, v1, v2, v3, v4, v5, v6, v7].drop 0).take (Tryd.prog.cellsOf 9)) = some x0 := h0
    have g1 : DataW.trod enc Tryd.prog w base spare held m 3 (([v0, v1, v2, v3, v4, v5, v6, v7].drop 1).take (Tryd.prog.cellsOf 3)) = some x1 := h1
    have g2 : DataW.trod enc Tryd.prog w base spare held m 3 (([v0, v1, v2, v3, v4, v5, v6, v7].drop 2).take (Tryd.prog.cellsOf 3)) = some x2 := h2
    have g3 : DataW.trod enc Tryd.prog w base spare held m 3 (([v0, v1, v2, v3, v4, v5, v6, v7].drop 3).take (Tryd.prog.cellsOf 3)) = some x3 := h3
    have g4 : DataW.trod enc Tryd.prog w base spare held m 3 (([v0, v1, v2, v3, v4, v5, v6, v7].drop 4).take (Tryd.prog.cellsOf 3)) = some x4 := h4
    have g5 : DataW.trod enc Tryd.prog w base spare held m 3 (([v0, v1, v2, v3, v4, v5, v6, v7].drop 5).take (Tryd.prog.cellsOf 3)) = some x5 := h5
    have g6 : DataW.trod enc Tryd.prog w base spare held m 3 (([v0, v1, v2, v3, v4, v5, v6, v7].drop 6).take (Tryd.prog.cellsOf 3)) = some x6 := h6
    have g7 : DataW.trod enc Tryd.prog w base spare held m 4 (([v0, v1, v2, v3, v4, v5, v6, v7].drop 7).take (Tryd.prog.cellsOf 4)) = some x7 := h7
    rw [cellsI] at g1 g2 g3 g4 g5 g6
    rw [cellsS] at g0
    rw [cellsB] at g7
    obtain ⟨p, e0, -, hp⟩ := DataW.trod_string (cs := [v0]) Tryd.underlying9 g0
    obtain ⟨n1, e1, -, -⟩ := DataW.trod_int (cs := [v1]) Tryd.underlying3 g1
    obtain ⟨n2, e2, -, -⟩ := DataW.trod_int (cs := [v2]) Tryd.underlying3 g2
    obtain ⟨n3, e3, -, -⟩ := DataW.trod_int (cs := [v3]) Tryd.underlying3 g3
    obtain ⟨n4, e4, -, -⟩ := DataW.trod_int (cs := [v4]) Tryd.underlying3 g4
    obtain ⟨n5, e5, -, -⟩ := DataW.trod_int (cs := [v5]) Tryd.underlying3 g5
    obtain ⟨n6, e6, -, -⟩ := DataW.trod_int (cs := [v6]) Tryd.underlying3 g6
    obtain ⟨b, e7, -⟩ := DataW.trod_bool (cs := [v7]) Tryd.underlying4 g7
    simp only [List.cons.injEq, and_true] at e0 e1 e2 e3 e4 e5 e6 e7
    refine ⟨p.data.toList, n1, n2, n3, n4, n5, n6, b, ?_, by rw [← tx_size, tx_eta]; exact hp⟩
    rw [tx_eta, e0, e1, e2, e3, e4, e5, e6, e7]
set_option maxRecDepth 4000 in
theorem open_head {r : Reach} {b0 : Nat} {x : Value} {d : DataW H} {q : List MemPlace} (hv : Value.okWide Tryd.prog w r b0 23 x) (h : DataW.Trod enc Tryd.prog w base (fun _ => true) held 23 x d q) :
    ∃ (p : Tx) (v z f l s m : Int) (g : Bool), x = .agg #[.string (tx p), .int .i64 v, .int .i64 z, .int .i64 f, .int .i64 l, .int .i64 s, .int .i64 m, .bool g] ∧ p.length ≤ maxLen := by
  obtain ⟨cs, rfl, hsz⟩ := okWide_struct Tryd.underlying23 hv
  obtain ⟨c0, c1, c2, c3, c4, c5, c6, c7, rfl⟩ := array8 (hsz.trans cellsHead)
  obtain ⟨fuel, hf⟩ := h
  have hf' : DataW.trod enc Tryd.prog w base (fun _ => true) held fuel 23 [c0, c1, c2, c3, c4, c5, c6, c7] = some (d, q) := by simpa [Value.cells] using hf
  obtain ⟨p, v, z, f, l, s, m, g, e, hp⟩ := head_cells hf'
  simp only [List.cons.injEq, and_true] at e
  obtain ⟨e0, e1, e2, e3, e4, e5, e6, e7⟩ := e
  exact ⟨p, v, z, f, l, s, m, g, by rw [e0, e1, e2, e3, e4, e5, e6, e7], hp⟩
end
end Go.Proofs.YtbcncmampabmfaaDoor
namespace Go.Proofs.YtbcncmampabmfaaDoor
open Go.RowKit
open Pt (Tx)

set_option maxHeartbeats 1000000 in
theorem sameRows_yes (A : Option Addr) (C : Nat) (bs : List Tx) (G : Nat → Prop) (A' : Option Addr) (C' : Nat) (G' : Nat → Prop) (n : Nat) (w : World) (hn : bs.length = n) (hm : n ≤ 1000000) (h : RdB w A bs G) (h' : RdB w A' bs G') :
    Calls Tryd.prog 9 #[.slice A n C, .slice A' n C'] w (AnsB true w) := by
  have H := Lib.hid h
  have H' := Lib.hid h'
  have HN := Lib.hid hn
  clear h h' hn
  go_enter Tryd.func9, Tryd.ntmps9
  go_wp2
  go_loopw [5] (fun vi wr => ∃ i : Nat, i ≤ n ∧ vi = .int .i64 (i : Int) ∧ Hid (Below w.heap.size w wr)) (fun vi _ => n - (intOf vi).toNat)
  case atStart => exact ⟨0, by omega, rfl, Lib.hid (Below.refl _ _)⟩
  case round =>
    obtain ⟨i, hi, rfl, HB⟩ := hrel
    by_cases hlt : i < n
    · have hlt' : i < bs.length := by rw [HN.out]; exact hlt
      obtain ⟨b0, off0, Ai, Ci, rfl, _, d1, _, _, hr1⟩ := (H.out.old HB.out).at_ hlt'
      obtain ⟨b1, off1, Aj, Cj, rfl, _, d2, _, _, hr2⟩ := (H'.out.old HB.out).at_ hlt'
      have s1 := fun q => RdL.str (w := wr.drewN q) (hr1.keep fun _ _ _ h => h) Ci
      have s2 := fun q => RdL.str (w := wr.drewN q) (hr2.keep fun _ _ _ h => h) Cj
      clear hr1 hr2
      generalize bs[i] = s at *
      go_wp2
      go_quiet (fail)
      clear s1 s2 d1 d2
      go_wp2
      go_roundw
      case rel => exact ⟨i + 1, by omega, by go_num, Lib.hid ⟨HB.out.os, HB.out.tape, HB.out.output, HB.out.size, HB.out.block⟩⟩
      case measure => simp [intOf]; omega
    · go_wp2
      go_ret
      exact ⟨rfl, HB.out⟩
end Go.Proofs.YtbcncmampabmfaaDoor
namespace Go.Proofs.YtbcncmampabmfaaDoor
open Go.RowKit
open Pt (Tx)

theorem num11 (n : Int) (w : World) : Calls Tryd.prog 10 #[.int .i64 n] w fun e w' => e = .returned (.int .i64 n) ∧ w = w' := by
  go_enter Tryd.func10, Tryd.ntmps10
  go_wp2
  go_ret
  exact ⟨rfl, rfl⟩
theorem one_right : Vo.Right 1 1 ⟨[97], 1, 0, 0, 0, 1, 0, false⟩ [] := by decide
set_option maxHeartbeats 2000000 in
theorem alive11_true (w : World) (hk : Kept w) : Calls Tryd.prog 6 #[] w (AnsB true w) := by
  have h1 : Calls Tryd.prog 7 #[.int .i64 1, .int .i64 1, .agg #[.string (tx [97]), .int .i64 1, .int .i64 0, .int .i64 0, .int .i64 0, .int .i64 1, .int .i64 0, .bool false], .slice none 0 0] w fun e w' => ∃ A C, e = .returned (.tuple #[.slice A 2 C, .int .i64 0]) ∧ Below w.heap.size w w' := by
    refine (blocks_any 1 1 [97] 1 0 0 0 1 0 false none [] 0 0 (fun _ => True) w (by decide) hk rfl (Nat.le_refl _) (RdL.empty _ _ _) (by decide)).mono ?_
    rintro e w' ⟨A, n, C, rfl, hn, -, -, -, hb⟩
    rw [Vo.err_yes one_right]
    rw [Vo.put_len one_right] at hn
    subst hn
    exact ⟨A, C, rfl, hb⟩
  have h2 := need_any 0
  have hn2 : Vo.need 0 = 2 := rfl
  rw [hn2] at h2
  have HK := Lib.hid hk
  have e1 := tx_toList [97]
  clear hk
  go_enter Tryd.func6, Tryd.ntmps6
  go_wp2_with fail
  refine h1.mono ?_
  clear h1
  rintro e w1 ⟨A1, C1, rfl, hb1⟩
  have HB1 := Lib.hid hb1
  have h3 : Calls Tryd.prog 14 #[.agg #[.int .i64 0, .int .i64 0, .slice none 0 0, .bool false]] w1 fun e w' => e = .returned (.int .i64 0) ∧ Below w1.heap.size w1 w' :=
    keep_any 0 0 [] none 0 0 (fun _ => True) false w1 rfl (RdB.empty _ _ _) (by decide) (fun s hs => by cases hs) (HK.out.old hb1)
  have H3 := Lib.hid h3
  clear hb1 h3
  go_wp2_with (first
    | (go_at_call 11; refine (h2 _).mono ?_; rintro e w' ⟨rfl, hw'⟩; subst hw')
    | (go_at_call 10; refine (num11 _ _).mono ?_; rintro e w' ⟨rfl, hw'⟩; subst hw')
    | (go_at_call 14; refine H3.out.mono ?_; rintro e w5 ⟨rfl, hb5⟩; have HB5 := Lib.hid (HB1.out.trans (hb5.mono HB1.out.size)); clear hb5))
  go_ret
  exact ⟨rfl, HB5.out⟩
end Go.Proofs.YtbcncmampabmfaaDoor
