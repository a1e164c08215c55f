/- A slice of slices of the law's own, made by append, each row its own. No function of the program. Parity as it is made: an own slice of slices of rows, each made longer by append, row by row. No function of the program. Words for Parity: what it answers, the rows that Encode made, and how the tapes of parity grow by one row, one tape behind the other. No function of the program. A tape that lies in a block, or in a row of them. No function of the program. What slices.Clone makes of a row. What the inner functions blocks and block of package stripe answer. What Row of package stripe answers. What the small function alike of package erasure answers. What Add and Mul of package gf answer, for every two elements; nothing is written. What Pow and Inv of package gf answer, for every element and every power; nothing is written. The calls of package gf, on elements. What Right of package matrix answers. -/
import Derived.Test.YtcmdggdionghcaaMb
import Derived.Test.YtcmdggdionghcaaTpInfo
import Derived.Test.YtcmdggdionghcaaMc
import Derived.Test.YtcmdggdionghcaaChecked
import Derived.OwnWalk
import Derived.Handy
import Derived.WalkSpells
import Derived.WalkLawsBesides
namespace Go.Proofs.Ytcmdggdionghcaa
open Go.RowKit
open Pt (Tx)

/-- v is a slice of the call's own whose rows us are the call's own, hold bs, and lie in blocks of G, no two in one -/
structure TopB (w : World) (B : Nat) (G : Nat → Prop) (v : Value) (us : List Value) (bs : List Tx) : Prop where
  top : w.ownsRow B 40 1 v us.length us
  len : us.length = bs.length
  rows : ∀ i (h : i < us.length) (h' : i < bs.length), OwnL w B us[i] bs[i]
  gs : ∀ i (h : i < us.length) k, us[i].ownBlock = some k → G k
  inj : ∀ i j (hi : i < us.length) (hj : j < us.length) k, us[i].ownBlock = some k → us[j].ownBlock = some k → i = j
theorem own_blk {w : World} {B : Nat} {t : TypeId} {v : Value} {n : Nat} {xs : List Value} (h : w.ownsRow B t 1 v n xs) : ∀ k, v.ownBlock = some k → ∃ c, w.heap[k]? = some (.cells c t (0, 0)) := by
  intro k hk
  rcases h.2 with ⟨rfl, _⟩ | ⟨g, cap, cur, rfl, _, hg, _⟩
  · cases hk
  · cases hk; exact ⟨cur, hg⟩
theorem own_of {w w' : World} {B : Nat} {t : TypeId} {v : Value} {n : Nat} {xs : List Value} (h : w.ownsRow B t 1 v n xs) (hb : ∀ k, v.ownBlock = some k → w'.heap[k]? = w.heap[k]?) : w'.ownsRow B t 1 v n xs := by
  refine ⟨h.1, ?_⟩
  rcases h.2 with h0 | ⟨g, cap, cur, rfl, hb', hg, hr⟩
  · exact .inl h0
  · exact .inr ⟨g, cap, cur, rfl, hb', (hb g rfl).trans hg, hr⟩
namespace TopB
variable {w w' : World} {B : Nat} {G G' : Nat → Prop} {v : Value} {us : List Value} {bs : List Tx}
theorem nil (w : World) (B : Nat) (G : Nat → Prop) : TopB w B G (.slice none 0 0) [] [] :=
  ⟨World.ownsRow_nil _ _ _ _, rfl, fun i h => absurd h (by simp), fun i h => absurd h (by simp), fun i j h => absurd h (by simp)⟩
/-- what is not touched is as it was -/
theorem kp {S : Nat → Prop} (h : TopB w B G v us bs) (hk : Kp S w w') (h1 : ∀ k c, S k → w.heap[k]? ≠ some (.cells c 40 (0, 0))) (h2 : ∀ k, S k → ¬ G k) : TopB w' B G v us bs := by
  refine ⟨own_of h.top fun k e => ?_, h.len, fun i hi hi' => (h.rows i hi hi').kp hk fun k e hs => h2 k hs (h.gs i hi k e), h.gs, h.inj⟩
  obtain ⟨c, hc⟩ := own_blk h.top k e
  exact hk.block k (heap_lt hc) fun hs => h1 k c hs hc
/-- the same, told by what lies there -/
theorem kpT {S : Nat → Prop} (h : TopB w B G v us bs) (hk : Kp S w w') (h1 : ∀ k c, S k → w.heap[k]? ≠ some (.cells c 40 (0, 0))) (h2 : ∀ k c, S k → w.heap[k]? ≠ some (.cells c 5 (0, 0))) : TopB w' B G v us bs := by
  refine ⟨own_of h.top fun k e => ?_, h.len, fun i hi hi' => (h.rows i hi hi').kp hk fun k e hs => ?_, h.gs, h.inj⟩
  · obtain ⟨c, hc⟩ := own_blk h.top k e
    exact hk.block k (heap_lt hc) fun hs => h1 k c hs hc
  · obtain ⟨c, hc⟩ := (h.rows i hi hi').block k e
    exact h2 k c hs hc
theorem old (h : TopB w B G v us bs) (hb : Below w.heap.size w w') : TopB w' B G v us bs :=
  h.kp (S := fun _ => False) (Kp.of_below hb) (fun _ _ h => h.elim) (fun _ h => h.elim)
theorem mono (h : TopB w B G v us bs) (hg : ∀ k, G k → G' k) : TopB w B G' v us bs := ⟨h.top, h.len, h.rows, fun i hi k e => hg k (h.gs i hi k e), h.inj⟩
/-- all its rows are there -/
theorem there (h : TopB w B G v us bs) : TopB w B (fun k => G k ∧ k < w.heap.size) v us bs :=
  ⟨h.top, h.len, h.rows, fun i hi k e => ⟨h.gs i hi k e, (h.rows i hi (by rw [← h.len]; exact hi)).lt k e⟩, h.inj⟩
/-- as a value -/
theorem val (h : TopB w B G v us bs) : ∃ A C, v = .slice A bs.length C ∧ bs.length ≤ C ∧ C ≤ maxLen ∧ (A = none → bs.length = 0 ∧ C = 0) := by
  rcases h.top.2 with ⟨rfl, h0⟩ | ⟨g, cap, cur, rfl, _, _, hnc, hcm, _⟩
  · have : bs.length = 0 := by rw [← h.len, h0]
    exact ⟨none, 0, by rw [this], by omega, by decide, fun _ => ⟨this, rfl⟩⟩
  · exact ⟨_, cap, by rw [← h.len], by rw [← h.len]; exact hnc, hcm, fun h => by cases h⟩
/-- as what reads -/
theorem rdB {A : Option Addr} {n C : Nat} (h : TopB w B G (.slice A n C) us bs) : RdB w A bs (fun k => B ≤ k) := by
  intro hn
  rcases h.top.2 with ⟨e, h0⟩ | ⟨g, cap, cur, e, hb, hg, hnc, _, hs, ht⟩
  · have := h.len; omega
  · injection e with e1 e2 e3
    subst e1
    refine ⟨g, 0, rfl, hb, fun i hi => ?_⟩
    have hi' : i < us.length := by rw [h.len]; exact hi
    obtain ⟨A', C', hv, h1, -, h2, h3⟩ := (h.rows i hi' hi).rd
    refine ⟨A', C', ?_, h1, h2, h3.mono fun _ h => h.1⟩
    have hx : us[i]? = some (.slice A' bs[i].length C') := by rw [List.getElem?_eq_getElem hi', hv]
    rw [← ht, List.getElem?_take, if_pos (by omega), Array.getElem?_toList] at hx
    rw [Nat.zero_add, heap_cell hg, hx]
/-- a row is appended -/
theorem push (h : TopB w B G v us bs) {w1 : World} (hw : Below w.heap.size w w1) {u : Value} {s : Tx} (hu : OwnL w1 B u s) (hun : ∀ k, u.ownBlock = some k → w.heap.size ≤ k) (hG : ∀ k, u.ownBlock = some k → G k) {v' : Value} (ho : w'.ownsRow B 40 1 v' (us.length + 1) (us ++ [u])) (hg : w1.grownBy w' v.ownBlock) :
    TopB w' B G v' (us ++ [u]) (bs ++ [s]) := by
  have keep : ∀ {x : Value} {l : Tx}, OwnL w1 B x l → OwnL w' B x l := fun {x l} hx => hx.of_block fun k e => by
    refine hg.block k (hx.lt k e) fun e' => ?_
    obtain ⟨c, hc⟩ := own_blk h.top k e'.symm
    obtain ⟨c', hc'⟩ := hx.block k e
    rw [hw.block k (heap_lt hc), hc] at hc'
    injection hc' with hc'
    injection hc' with _ e2
    exact absurd e2 (by decide)
  have oldlt : ∀ i (hi : i < us.length) k, us[i].ownBlock = some k → k < w.heap.size := fun i hi k e => (h.rows i hi (by rw [← h.len]; exact hi)).lt k e
  refine ⟨by simpa using ho, by simp [h.len], fun i hi hi' => ?_, fun i hi k e => ?_, fun i j hi hj k e e' => ?_⟩
  · rcases Nat.lt_or_ge i us.length with hl | hl
    · rw [List.getElem_append_left hl, List.getElem_append_left (by rw [← h.len]; exact hl)]
      exact keep ((h.rows i hl (by rw [← h.len]; exact hl)).of_block fun k e => hw.block k (oldlt i hl k e))
    · have : i = us.length := by simp at hi; omega
      subst this
      have e2 : (bs ++ [s])[us.length] = s := by simp [h.len]
      rw [e2]
      simp only [List.getElem_concat_length]
      exact keep hu
  · rcases Nat.lt_or_ge i us.length with hl | hl
    · rw [List.getElem_append_left hl] at e
      exact h.gs i hl k e
    · have : i = us.length := by simp at hi; omega
      subst this
      simp only [List.getElem_concat_length] at e
      exact hG k e
  · rcases Nat.lt_or_ge i us.length with hl | hl <;> rcases Nat.lt_or_ge j us.length with hm | hm
    · rw [List.getElem_append_left hl] at e
      rw [List.getElem_append_left hm] at e'
      exact h.inj i j hl hm k e e'
    · have : j = us.length := by simp at hj; omega
      subst this
      rw [List.getElem_append_left hl] at e
      simp only [List.getElem_concat_length] at e'
      have := oldlt i hl k e
      have := hun k e'
      omega
    · have : i = us.length := by simp at hi; omega
      subst this
      rw [List.getElem_append_left hm] at e'
      simp only [List.getElem_concat_length] at e
      have := oldlt j hm k e'
      have := hun k e
      omega
    · simp at hi hj; omega
end TopB
/-- append of one row -/
theorem wpList_append_tp (w : World) {ops : Array Oper} {rest : List Oper} {o : Oper} {a : Act} {Q : Exit → Act → World → Prop} (hgd : o.guard = none) (s x : Operand)
    (ho : o.op = .call { callee := .builtin .append, args := #[s, x], argTypes := #[34, 34] })
    (base : Nat) (v : Value) (us : List Value) (hs : a.eval s = v) (hown : w.ownsRow base 40 1 v us.length us) (hl : us.length ≤ 1000000)
    (b off c : Nat) (A : Option Addr) (L C : Nat) (hx : a.eval x = .slice (some ⟨b, off, none⟩) 1 c) (hc : w.cell? ⟨b, off, none⟩ = some (.slice A L C)) (hbase : base ≤ w.heap.size)
    (h : ∀ v' w', w'.ownsRow base 40 1 v' (us.length + 1) (us ++ [.slice A L C]) → w.grownBy w' v.ownBlock → wpList Try.prog ops Q rest (a.put o.dst v') w') : wpList Try.prog ops Q (o :: rest) a w := by
  obtain ⟨i0, hi, hz0, hz1, hz2⟩ := info_parts infoRow
  refine wpList_append_opt w hgd s x 34 ho base 40 i0 (.slice none 0 0) 24 Try.underlying34 hi hz0 hz1 hz2 rfl v us.length us hs hown (some ⟨b, off, none⟩) 1 c [.slice A L C] hx (fun h => by cases h) rfl (fun ad had j u hu => ?_) (fun u hu => by rw [List.mem_singleton.1 hu]; rfl) (by unfold maxLen; omega) (by omega) hbase h
  cases had
  have hj : j = 0 := by
    rcases Nat.eq_zero_or_pos j with h0 | h0
    · exact h0
    · rw [List.getElem?_eq_none (by simp; omega)] at hu; cases hu
  subst hj
  cases hu
  exact hc
end Go.Proofs.Ytcmdggdionghcaa
namespace Go.Proofs.Ytcmdggdionghcaa
open Go.RowKit Mx
open Pt (Tx)

/-- a block whose cells are of type t -/
def Typed (w : World) (g : Nat) (t : TypeId) : Prop := ∃ c, w.heap[g]? = some (.cells c t (0, 0))
theorem Typed.ne {w : World} {g g' : Nat} {t t' : TypeId} (h : Typed w g t) (h' : Typed w g' t') (ht : t ≠ t') : g ≠ g' := by
  rintro rfl
  obtain ⟨c, e⟩ := h
  obtain ⟨c', e'⟩ := h'
  rw [e] at e'
  injection e' with e'
  injection e' with _ e2
  exact ht e2
theorem RowV.typed {w : World} {t : TypeId} {g n : Nat} {V : Nat → Value} (h : RowV w t g n V) : Typed w g t := by
  obtain ⟨c, hb, _⟩ := h
  exact ⟨c, hb⟩
/-- v is an own slice of n slices, each an own row of m elements, row i as X has it -/
def OneP (w : World) (B m : Nat) (v : Value) (n : Nat) (X : Mat) : Prop :=
  ∃ us, w.ownsRow B 40 1 v n us ∧ ∀ i, i < n → ∃ g c, us[i]? = some (.slice (some ⟨g, 0, none⟩) m c) ∧ m ≤ c ∧ B ≤ g ∧ RowAt w g m (X i)
namespace OneP
variable {w w' : World} {B m n : Nat} {v : Value} {X Y : Mat}
theorem keep (h : OneP w B m v n X) (h1 : ∀ k, v.ownBlock = some k → w'.heap[k]? = w.heap[k]?) (h2 : ∀ g, Typed w g 5 → w'.heap[g]? = w.heap[g]?) : OneP w' B m v n X := by
  obtain ⟨us, ho, hr⟩ := h
  refine ⟨us, own_of ho h1, fun i hi => ?_⟩
  obtain ⟨g, c, e, hc, hg, hrow⟩ := hr i hi
  exact ⟨g, c, e, hc, hg, hrow.of_block (h2 g (RowV.typed hrow))⟩
theorem typed (h : OneP w B m v n X) {k : Nat} (e : v.ownBlock = some k) : Typed w k 40 := by
  obtain ⟨us, ho, _⟩ := h
  exact own_blk ho k e
theorem lt (h : OneP w B m v n X) {k : Nat} (e : v.ownBlock = some k) : B ≤ k ∧ k < w.heap.size := by
  obtain ⟨us, ho, _⟩ := h
  exact ho.lt k e
theorem nil (w : World) (B m : Nat) (X : Mat) : OneP w B m (.slice none 0 0) 0 X := ⟨[], World.ownsRow_nil _ _ _ _, fun i hi => absurd hi (by omega)⟩
theorem congr (h : OneP w B m v n X) (he : ∀ i, i < n → ∀ c, c < m → X i c = Y i c) : OneP w B m v n Y := by
  obtain ⟨us, ho, hr⟩ := h
  refine ⟨us, ho, fun i hi => ?_⟩
  obtain ⟨g, c, e, hc, hg, hrow⟩ := hr i hi
  exact ⟨g, c, e, hc, hg, hrow.congr (he i hi)⟩
/-- as a value that reads -/
theorem val (h : OneP w B m v n X) : ∃ A C, v = .slice A n C ∧ n ≤ C ∧ (A = none → n = 0 ∧ C = 0) ∧ RdM w A n (fun _ => m) X (B ≤ ·) := by
  obtain ⟨us, ho, hr⟩ := h
  rcases ho.2 with ⟨e, h0⟩ | ⟨g, cap, cur, e, hb, hg, hnc, hcm, hs, ht⟩
  · exact ⟨none, 0, by rw [e, h0], by omega, fun _ => ⟨h0, rfl⟩, fun hn => by omega⟩
  · refine ⟨_, cap, e, hnc, (fun h => by cases h), fun hn => ⟨g, 0, rfl, hb, fun i hi => ?_⟩⟩
    obtain ⟨r, c, e', hc, hg', hrow⟩ := hr i hi
    refine ⟨_, c, ?_, hrow.rd _ hg'⟩
    rw [Nat.zero_add, heap_cell hg]
    rw [← ht, List.getElem?_take] at e'
    split at e'
    · rw [Array.getElem?_toList] at e'; exact e'
    · cases e'
end OneP
/-- block b holds p such slices, no two in one block, of N j rows each -/
structure OutP (w : World) (B b p m : Nat) (V : Nat → Value) (N : Nat → Nat) (X : Nat → Mat) : Prop where
  lo : B ≤ b
  top : 0 < p → RowV w 34 b p V
  rows : ∀ j, j < p → OneP w B m (V j) (N j) (X j)
  inj : ∀ i j, i < p → j < p → ∀ k, (V i).ownBlock = some k → (V j).ownBlock = some k → i = j
namespace OutP
variable {w w1 w2 : World} {B b p m : Nat} {V : Nat → Value} {N N' : Nat → Nat} {X Y : Nat → Mat}
theorem old (h : OutP w B b p m V N X) (hb : Below w.heap.size w w2) : OutP w2 B b p m V N X :=
  ⟨h.lo, fun hp => (h.top hp).old hb, fun j hj => (h.rows j hj).keep (fun k e => hb.block k ((h.rows j hj).lt e).2) (fun g hg => hb.block g (by obtain ⟨c, e⟩ := hg; exact heap_lt e)), h.inj⟩
theorem congr (h : OutP w B b p m V N X) (he : ∀ j, j < p → ∀ i, i < N j → ∀ c, c < m → X j i c = Y j i c) : OutP w B b p m V N Y :=
  ⟨h.lo, h.top, fun j hj => (h.rows j hj).congr (he j hj), h.inj⟩
theorem counts (h : OutP w B b p m V N X) (he : ∀ j, j < p → N j = N' j) : OutP w B b p m V N' X :=
  ⟨h.lo, h.top, fun j hj => by rw [← he j hj]; exact h.rows j hj, h.inj⟩
/-- all of them are empty -/
theorem start (w : World) (B b p m : Nat) (X : Nat → Mat) (hb : B ≤ b) (h : 0 < p → RowV w 34 b p (fun _ => .slice none 0 0)) : OutP w B b p m (fun _ => .slice none 0 0) (fun _ => 0) X :=
  ⟨hb, h, fun j _ => OneP.nil _ _ _ _, fun i j _ _ k e => by cases e⟩
/-- a row is appended to one of them, and that is stored -/
theorem push (h : OutP w B b p m V N X) {j : Nat} (hj : j < p) {us : List Value} (hus : w.ownsRow B 40 1 (V j) (N j) us)
    (hrows : ∀ i, i < N j → ∃ g c, us[i]? = some (.slice (some ⟨g, 0, none⟩) m c) ∧ m ≤ c ∧ B ≤ g ∧ RowAt w g m (X j i)) (hb : Below w.heap.size w w1) (hg : w1.grownBy w2 (V j).ownBlock) {g cap : Nat} {r c : Nat} {f : Nat → Fe}
    (hown : w2.ownsRow B 40 1 (.slice (some ⟨g, 0, none⟩) (N j + 1) cap) (N j + 1) (us ++ [.slice (some ⟨r, 0, none⟩) m c])) (hat : (V j).ownBlock = some g ∨ w.heap.size ≤ g) (hc : m ≤ c) (hr : B ≤ r) (hrow : RowAt w r m f) :
    OutP (w2.setCell ⟨b, j, none⟩ (.slice (some ⟨g, 0, none⟩) (N j + 1) cap)) B b p m (fun i => if i = j then .slice (some ⟨g, 0, none⟩) (N j + 1) cap else V i) (fun i => if i = j then N j + 1 else N i) (fun i => if i = j then (fun t => if t = N j then f else X j t) else X i) := by
  have hjo := h.rows j hj
  have htop := h.top (by omega)
  have htb := htop.typed
  -- blocks of another type, or of another row, are as they were
  have k2 : ∀ k, k < w.heap.size → (V j).ownBlock ≠ some k → w2.heap[k]? = w.heap[k]? := fun k hk hne =>
    (hg.block k (Nat.lt_of_lt_of_le hk hb.size) (fun e => hne e.symm)).trans (hb.block k hk)
  have kT : ∀ k t, Typed w k t → t ≠ 40 → w2.heap[k]? = w.heap[k]? := fun k t hk ht => by
    obtain ⟨c, e⟩ := hk
    exact k2 k (heap_lt e) fun e' => Typed.ne ⟨c, e⟩ (hjo.typed e') ht rfl
  have kS : ∀ k, k ≠ b → ∀ v, (w2.setCell ⟨b, j, none⟩ v).heap[k]? = w2.heap[k]? := fun k hk v => Below.heap_setCell _ _ _ _ (fun e => hk e)
  have t2 : RowV w2 34 b p V := htop.of_block (kT b _ htb (by decide))
  have k8 : ∀ k, Typed w k 5 → ∀ v, (w2.setCell ⟨b, j, none⟩ v).heap[k]? = w.heap[k]? := fun k hk v => (kS k (Typed.ne hk htb (by decide)) v).trans (kT k _ hk (by decide))
  have hgb : g ≠ b := by
    have h1 : Typed w2 g 40 := own_blk hown g rfl
    exact Typed.ne h1 t2.typed (by decide)
  refine ⟨h.lo, fun _ => t2.set j _, fun i hi => ?_, fun i i' hi hi' k e e' => ?_⟩
  · by_cases e : i = j
    · subst e
      simp only [if_true]
      refine ⟨_, own_of hown (fun k e => ?_), fun t ht => ?_⟩
      · cases e; exact kS g hgb _
      · have hlen : us.length = N i := by have := hus.1; omega
        by_cases et : t = N i
        · refine ⟨r, c, by rw [et, List.getElem?_append_right (by omega), hlen]; simp, hc, hr, ?_⟩
          simp only [et, if_true]
          exact hrow.of_block (k8 r (RowV.typed hrow) _)
        · obtain ⟨g', c', e1, e2, e3, e4⟩ := hrows t (by omega)
          refine ⟨g', c', by rw [List.getElem?_append_left (by omega)]; exact e1, e2, e3, ?_⟩
          simp only [et, if_false]
          exact e4.of_block (k8 g' (RowV.typed e4) _)
    · simp only [e, if_false]
      refine (h.rows i hi).keep (fun k ek => ?_) (fun x hx => k8 x hx _)
      have hk := (h.rows i hi).lt ek
      exact (kS k (Typed.ne ((h.rows i hi).typed ek) htb (by decide)) _).trans (k2 k hk.2 fun ej => e (h.inj i j hi hj k ek ej))
  · have key : ∀ i, i < p → i ≠ j → ∀ k, (V i).ownBlock = some k → k ≠ g := fun i hi hne k ek hkg => by
      subst hkg
      rcases hat with hat | hat
      · exact hne (h.inj i j hi hj k ek hat)
      · have := ((h.rows i hi).lt ek).2; omega
    by_cases ei : i = j <;> by_cases ei' : i' = j
    · omega
    · simp only [ei, if_true] at e
      simp only [ei', if_false] at e'
      cases e
      exact absurd rfl (key i' hi' ei' _ e')
    · simp only [ei', if_true] at e'
      simp only [ei, if_false] at e
      cases e'
      exact absurd rfl (key i hi ei _ e)
    · simp only [ei, if_false] at e
      simp only [ei', if_false] at e'
      exact h.inj i i' hi hi' k e e'
/-- as what reads -/
theorem rdP (h : OutP w B b p m V N X) {n : Nat} (hn : ∀ j, j < p → N j = n) : RdP w (some ⟨b, 0, none⟩) p n m X (B ≤ ·) := fun hp => by
  refine ⟨b, 0, rfl, h.lo, fun j hj => ?_⟩
  have h1 := h.rows j hj
  rw [hn j hj] at h1
  obtain ⟨A, C, e, hc, ha, hr⟩ := h1.val
  refine ⟨A, C, ?_, hc, ha, hr⟩
  rw [Nat.zero_add, (h.top hp).cell hj, e]
end OutP
end Go.Proofs.Ytcmdggdionghcaa
namespace Go.Proofs.Ytcmdggdionghcaa
open Go.RowKit Mx
open Pt (Tx)

/-- the parity of tapes: of each tape of parity each row -/
def St.X (ts : List St.T) (p : Nat) : Nat → Mat := fun j n => par ts.length p (St.mat (St.row ts (n : Int))) j
open Classical in
/-- what Parity answers -/
def ParA (ts : List St.T) (p : Int) (w : World) (e : Ending) (w' : World) : Prop :=
  if St.Ok ts p then ∃ A C, e = .returned (.tuple #[.slice A p.toNat C, .int .i64 0]) ∧ p.toNat ≤ C ∧ (A = none → p.toNat = 0 ∧ C = 0) ∧ RdP w' A p.toNat (St.len ts) 79 (St.X ts p.toNat) (w.heap.size ≤ ·) ∧ Below w.heap.size w w'
  else e = .returned (.tuple #[.slice none 0 0, .int .i64 1]) ∧ Below w.heap.size w w'
theorem ParA.no {ts : List St.T} {p : Int} {w w' : World} (h : ¬ St.Ok ts p) (hb : Below w.heap.size w w') : ParA ts p w (.returned (.tuple #[.slice none 0 0, .int .i64 1])) w' := by
  unfold ParA; rw [if_neg h]; exact ⟨rfl, hb⟩
theorem ParA.yes {ts : List St.T} {p C : Nat} {w w' : World} {A : Option Addr} (h : St.Ok ts (p : Int)) (hC : p ≤ C) (hA : A = none → p = 0 ∧ C = 0) (hr : RdP w' A p (St.len ts) 79 (St.X ts p) (w.heap.size ≤ ·)) (hb : Below w.heap.size w w') :
    ParA ts (p : Int) w (.returned (.tuple #[.slice A p C, .int .i64 0])) w' := by
  unfold ParA; rw [if_pos h]; exact ⟨A, C, rfl, hC, hA, hr, hb⟩
theorem St.enc_arg {ts : List St.T} {p : Int} {L : Nat → Nat} (hl : ∀ i, i < ts.length → L i = L 0) : EncOk ts.length L p ↔ St.Arg ts p :=
  ⟨fun h => ⟨h.1, h.2.2.1, by have := h.2.2.2; omega⟩, fun h => ⟨h.1, hl, h.2.1, by have := h.2.2; omega⟩⟩
/-- rows that were made: new memory -/
def Made (w : World) (A : Option Addr) (p B : Nat) (Y : Mat) : Prop :=
  ∀ j, j < p → ∃ b r c, A = some ⟨b, 0, none⟩ ∧ B ≤ b ∧ w.cell? ⟨b, j, none⟩ = some (.slice (some ⟨r, 0, none⟩) 79 c) ∧ 79 ≤ c ∧ B ≤ r ∧ RowAt w r 79 (Y j)
theorem Made.kp {w w' : World} {A : Option Addr} {p B : Nat} {Y : Mat} {S : Nat → Prop} (h : Made w A p B Y) (hk : Kp S w w') (hs : ∀ x, S x → x < B) : Made w' A p B Y := fun j hj => by
  obtain ⟨b, r, c, e, hb, hc, hC, hr, hR⟩ := h j hj
  exact ⟨b, r, c, e, hb, hk.cell hc (fun h => by have : b < B := hs _ h; omega), hC, hr, hR.kp hk (fun h => by have : r < B := hs _ h; omega)⟩
theorem EncNew.made {n p : Nat} {L : Nat → Nat} {D : Mat} {w w' : World} {e : Ending} (h : EncNew n L D (p : Int) w e w') (hok : EncOk n L (p : Int)) (hL : L 0 = 79) :
    ∃ A C, e = .returned (.tuple #[.slice A p C, .int .i64 0]) ∧ Made w' A p w.heap.size (par n p D) ∧ Below w.heap.size w w' := by
  unfold EncNew at h
  rw [if_pos hok] at h
  rcases h with ⟨h0, rfl, hb⟩ | ⟨h0, b, q, G, C, rfl, _, hb, hO, hB⟩
  · obtain rfl : p = 0 := by omega
    exact ⟨Option.none, 0, rfl, fun j hj => absurd hj (by omega), hb⟩
  · simp only [Int.toNat_natCast, hL] at hO ⊢
    refine ⟨_, q, rfl, fun j hj => ⟨b, G j, C j, rfl, hb, ?_, hO.cap j hj, hO.lo j hj, hO.rows j hj⟩, hB⟩
    rw [hO.top.cell hj, if_pos hj]
/-- the first j tapes of parity have row n already -/
structure Inn (w w2 wq : World) (b p n j : Nat) (V0 : Nat → Value) (X : Nat → Mat) : Prop where
  out : ∃ V, OutP wq w.heap.size b p 79 V (fun i => if i < j then n + 1 else n) X ∧ ∀ i, j ≤ i → i < p → V i = V0 i
  kp : Kp (fun x => x = b ∨ ∃ i, i < p ∧ (V0 i).ownBlock = some x) w2 wq
namespace Inn
variable {w w2 wq : World} {b p n j : Nat} {V0 : Nat → Value} {X : Nat → Mat}
theorem start (h : OutP w2 w.heap.size b p 79 V0 (fun _ => n) X) : Inn w w2 w2 b p n 0 V0 X :=
  ⟨⟨V0, h.counts fun i _ => by rw [if_neg (by omega)], fun _ _ _ => rfl⟩, Kp.refl _ _⟩
theorem done (h : Inn w w2 wq b p n p V0 X) : ∃ V, OutP wq w.heap.size b p 79 V (fun _ => n + 1) X := by
  obtain ⟨V, h1, _⟩ := h.out
  exact ⟨V, h1.counts fun i hi => by rw [if_pos hi]⟩
/-- the next tape's row -/
theorem next (h : Inn w w2 wq b p n j V0 X) (hj : j < p) : ∃ A C us, wq.cell? ⟨b, j, none⟩ = some (.slice A n C) ∧ wq.frozen? ⟨b, j, none⟩ = false ∧ b < wq.heap.size ∧ wq.ownsRow w.heap.size 40 1 (.slice A n C) n us
    ∧ ∀ (w1 w3 : World) (g cap r c : Nat) (f : Nat → Fe), Below wq.heap.size wq w1 → w1.grownBy w3 (Value.slice A n C).ownBlock → w3.ownsRow w.heap.size 40 1 (.slice (some ⟨g, 0, none⟩) (n + 1) cap) (n + 1) (us ++ [.slice (some ⟨r, 0, none⟩) 79 c])
      → ((Value.slice A n C).ownBlock = some g ∨ wq.heap.size ≤ g) → 79 ≤ c → w.heap.size ≤ r → RowAt wq r 79 f → (∀ x, x < 79 → f x = X j n x)
      → w3.cell? ⟨b, j, none⟩ = some (.slice A n C) ∧ w3.frozen? ⟨b, j, none⟩ = false ∧ Inn w w2 (w3.setCell ⟨b, j, none⟩ (.slice (some ⟨g, 0, none⟩) (n + 1) cap)) b p n (j + 1) V0 X := by
  obtain ⟨V, hO, hV⟩ := h.out
  have hjo := hO.rows j hj
  rw [if_neg (by omega)] at hjo
  have htop := hO.top (by omega)
  obtain ⟨A, C, hv, -, -, -⟩ := hjo.val
  obtain ⟨us, hown, hrows⟩ := hjo
  have hc := htop.cell hj
  have hf := htop.frozen j
  rw [hv] at hc
  refine ⟨A, C, us, hc, hf, htop.lt, by rw [← hv]; exact hown, fun w1 w3 g cap r c f hb hg ho hat hC hr hR hX => ?_⟩
  rw [← hv] at hg hat
  have hne : some b ≠ (V j).ownBlock := fun e => by
    obtain ⟨x, hx⟩ := own_blk hown b e.symm
    obtain ⟨y, hy⟩ := htop.typed
    rw [hx] at hy
    injection hy with hy
    injection hy with _ e2
    exact absurd e2 (by decide)
  have hblk : w3.heap[b]? = wq.heap[b]? := (hg.block b (Nat.lt_of_lt_of_le htop.lt hb.size) hne).trans (hb.block b htop.lt)
  refine ⟨(World.cell?_of_block hblk).trans hc, (htop.of_block hblk).frozen j, ⟨?_, ?_⟩⟩
  · have hcnt : (if j < j then n + 1 else n) = n := if_neg (by omega)
    have := hO.push hj (us := us) (by simp only [hcnt]; exact hown) (by simp only [hcnt]; exact hrows) hb hg (g := g) (cap := cap) (r := r) (c := c) (f := f) (by simp only [hcnt]; exact ho) hat hC hr hR
    rw [hcnt] at this
    refine ⟨_, (this.counts (N' := fun i => if i < j + 1 then n + 1 else n) fun i hi => ?_).congr (Y := X) fun i hi t ht x hx => ?_, fun i hi hip => ?_⟩
    · by_cases e : i = j
      · simp [e]
      · by_cases e' : i < j
        · simp [e, e', show i < j + 1 by omega]
        · simp [e, e', show ¬ i < j + 1 by omega]
    · by_cases e : i = j
      · subst e
        simp only [if_true]
        by_cases e' : t = n
        · simp only [e', if_true]; exact hX x hx
        · simp only [e', if_false]
      · simp only [e, if_false]
    · simp only [show ¬ i = j by omega, if_false]
      exact hV i (by omega) hip
  · refine (((h.kp.trans (Kp.of_below hb)).grown hg fun k e => ?_)).setCell (p := ⟨b, j, none⟩) (.inl rfl) _
    exact .inr ⟨j, hj, by rw [← hV j (Nat.le_refl _) hj]; exact e⟩
end Inn
end Go.Proofs.Ytcmdggdionghcaa
namespace Go.Proofs.Ytcmdggdionghcaa
open Go.RowKit
open Pt (Tx)

/-- a tape in a block -/
def tapeObj (lab cap : Int) (A : Option Addr) (n C : Nat) (lost : Bool) : Obj := .cells #[.int .i64 lab, .int .i64 cap, .slice A n C, .bool lost] 39
theorem tape4 {w : World} {g : Nat} {lab cap : Int} {A : Option Addr} {n C : Nat} {lost : Bool} (h : w.heap[g]? = some (tapeObj lab cap A n C lost)) :
    w.cell? ⟨g, 0, none⟩ = some (.int .i64 lab) ∧ w.cell? ⟨g, 1, none⟩ = some (.int .i64 cap) ∧ w.cell? ⟨g, 2, none⟩ = some (.slice A n C) ∧ w.cell? ⟨g, 3, none⟩ = some (.bool lost) := ⟨heap_cell h, heap_cell h, heap_cell h, heap_cell h⟩
theorem below_tape {lab cap : Int} {A : Option Addr} {n C : Nat} {lost : Bool} {B : Nat} {x y : World} (hb : Below x.heap.size x y) (h : x.heap[B]? = some (tapeObj lab cap A n C lost)) : y.heap[B]? = some (tapeObj lab cap A n C lost) :=
  (hb.block B (heap_lt h)).trans h
theorem tape_new (w : World) (lab cap : Int) (A : Option Addr) (n C : Nat) (lost : Bool) : Below w.heap.size w (w.alloc (tapeObj lab cap A n C lost)) ∧ (w.alloc (tapeObj lab cap A n C lost)).heap[w.heap.size]? = some (tapeObj lab cap A n C lost) :=
  ⟨(Below.refl _ _).alloc (Nat.le_refl _) _, Go.Deep.blk_alloc_new _ _⟩
end Go.Proofs.Ytcmdggdionghcaa
namespace Go.Proofs.Ytcmdggdionghcaa
open Go.RowKit Mx

set_option maxHeartbeats 1000000 in
theorem clone_any (A : Option Addr) (n C : Nat) (r : Nat → Fe) (G : Nat → Prop) (w : World) (hn0 : 0 < n) (hn : n ≤ 1000000) (h : Rd w A n r G) :
    Calls Try.prog 30 #[.slice A n C] w (FreshRow n r w) := by
  obtain ⟨b, off, rfl, _, hc⟩ := h hn0
  obtain ⟨i0, hi, hz0, hz1, hz2⟩ := info_parts infoByte
  have hown : (w.alloc (.cells #[] 5)).ownsRow w.heap.size 5 1 (.slice (some ⟨w.heap.size, 0, none⟩) 0 0) 0 [] := World.ownsRow_made w #[] 0 (Nat.le_refl _) (by decide) rfl
  have hc' : ∀ j, j < n → (w.alloc (.cells #[] 5)).cell? ⟨b, off + j, none⟩ = some (.int .u8 (fi (r j))) := fun j hj => by
    rw [World.cell?_alloc_lt w _ _ (World.block_lt_of_cell? _ _ (hc j hj))]; exact hc j hj
  have HC := Lib.hid hc'
  clear hc hc' h
  have hnil : ∀ (w : World) (a : Option Addr) (n c n' c' : Nat), (binOp .eql 40 (.slice a n c) (.slice none n' c')).run Try.prog w = .ok (.bool a.isNone) w := fun w a n c n' c' => Lib.run_eql_slice_nil w _ _ a n c n' c' Try.underlying40
  go_enter Try.func30, Try.ntmps30
  go_wp2_with (at_builtin; refine wpList_append_own _ rfl _ _ 40 rfl w.heap.size 5 i0 (.int .u8 0) 1 1 Try.underlying40 hi hz0 hz1 hz2 rfl (by decide) _ _ _ rfl hown ⟨b, off, none⟩ n C (cellsOf n r) rfl (by rw [cellsOf_len, Nat.mul_one]) (Rd.cells HC.out) cellsOf_one (by unfold maxLen; omega) (by omega) (by simp) ?_)
  intro v' w' hown' hgrow _
  obtain ⟨g, C', rfl, hg, hC, hr⟩ := RowAt.of_owns hown' hn0
  have HB := Lib.hid (((Below.refl w.heap.size w).alloc (Nat.le_refl _) _).grown hgrow (by simp) (fun k hk => by simp [Value.ownBlock] at hk; omega))
  clear hown' hgrow hown HC hnil
  go_wp2
  go_ret
  exact ⟨g, C', rfl, hg, hC, hr, HB.out⟩
end Go.Proofs.Ytcmdggdionghcaa
namespace Go.Proofs.Ytcmdggdionghcaa
open Go.RowKit Mx
open Pt (Tx)

theorem blocks_lost (lab cap : Int) (A : Option Addr) (n C : Nat) (w : World) :
    Calls Try.prog 20 #[.agg #[.int .i64 lab, .int .i64 cap, .slice A n C, .bool true]] w fun e w' => e = .returned (.slice none 0 0) ∧ Below w.heap.size w w' := by
  have HB := Lib.hid (tape_new w lab cap A n C true).1
  unfold tapeObj at HB
  go_enter Try.func20, Try.ntmps20
  go_wp2
  go_ret
  exact ⟨rfl, HB.out⟩
theorem blocks_live (lab cap : Int) (A : Option Addr) (n C : Nat) (w : World) :
    Calls Try.prog 20 #[.agg #[.int .i64 lab, .int .i64 cap, .slice A n C, .bool false]] w fun e w' => e = .returned (.slice A n C) ∧ Below w.heap.size w w' := by
  have HB := Lib.hid (tape_new w lab cap A n C false).1
  unfold tapeObj at HB
  go_enter Try.func20, Try.ntmps20
  go_wp2
  go_ret
  exact ⟨rfl, HB.out⟩
/-- a block of a row: new memory, or no bytes -/
def BlkA (s : Tx) (w : World) (e : Ending) (w' : World) : Prop :=
  ∃ A C, e = .returned (.slice A s.length C) ∧ s.length ≤ C ∧ (A = none → s.length = 0 ∧ C = 0) ∧ Rd w' A s.length (rowL s) (w.heap.size ≤ ·) ∧ Below w.heap.size w w'
theorem BlkA.nil {w w' : World} (h : Below w.heap.size w w') : BlkA [] w (.returned (.slice none 0 0)) w' := ⟨none, 0, rfl, Nat.le_refl _, fun _ => ⟨rfl, rfl⟩, Rd.empty _ _ _ _, h⟩
theorem BlkA.of {s : Tx} {w w' : World} {g n C : Nat} (hn : n = s.length) (hC : n ≤ C) (hg : w.heap.size ≤ g) (hr : RowAt w' g n (rowL s)) (h : Below w.heap.size w w') : BlkA s w (.returned (.slice (some ⟨g, 0, none⟩) n C)) w' :=
  ⟨_, C, by rw [hn], by rw [← hn]; exact hC, fun h => (by cases h), by rw [← hn]; exact hr.rd _ hg, h⟩
theorem rowL_zeros : rowL St.zeros = fun _ => 0 := by
  funext i
  unfold rowL St.zeros
  rw [List.getD_eq_getElem?_getD, List.getElem?_replicate]
  split <;> rfl
theorem zeros_row {w : World} {g : Nat} (h : RowAt w g 79 (fun _ => 0)) : RowAt w g 79 (rowL St.zeros) := by rw [rowL_zeros]; exact h
theorem make79 : ∀ wx : World, (Instr.makeSlice 40 (.int .i64 79) (.int .i64 79)).run Try.prog wx = .ok (.slice (some ⟨wx.heap.size, 0, none⟩) 79 79) (wx.alloc (.cells (madeCells #[.int .u8 0] 79) 5)) := fun wx =>
  run_make_row' (P := Try.prog) 40 5 (.int .u8 0) 1 Try.underlying40 infoByte rfl .i64 .i64 79 (by decide) (by decide) wx
theorem zeros_new {w0 w : World} (h : Below w0.heap.size w0 w) : BlkA St.zeros w0 (.returned (.slice (some ⟨w.heap.size, 0, none⟩) 79 79)) (w.alloc (.cells (madeCells #[.int .u8 0] 79) 5)) :=
  BlkA.of (by rw [St.zeros_len]) (Nat.le_refl _) h.size (zeros_row (RowAt.made w 79)) (h.alloc h.size _)
set_option maxHeartbeats 1000000 in
theorem block_none (lab cap : Int) (A : Option Addr) (bs : List Tx) (C : Nat) (lost : Bool) (n : Int) (w : World) (h : lost = true ∨ n < 0 ∨ (bs.length : Int) ≤ n) :
    Calls Try.prog 21 #[.agg #[.int .i64 lab, .int .i64 cap, .slice A bs.length C, .bool lost], .int .i64 n] w (BlkA St.zeros w) := by
  obtain ⟨wa, hwa⟩ : ∃ wa, wa = w.alloc (tapeObj lab cap A bs.length C lost) := ⟨_, rfl⟩
  obtain ⟨hB, hT⟩ := tape_new w lab cap A bs.length C lost
  rw [← hwa] at hB hT
  have HB := Lib.hid hB
  have HW := Lib.hid hwa
  unfold tapeObj at HW
  have hmk := make79
  clear hB hT hwa
  cases lost with
  | true =>
    clear h
    by_cases h0 : n < 0
    · have q1 : decide (n < 0) = true := decide_eq_true h0
      go_enter Try.func21, Try.ntmps21
      go_wp2_with fail
      rw [← HW.out]
      refine (blocks_lost lab cap A bs.length C wa).mono ?_
      rintro e w1 ⟨rfl, hb1⟩
      have HB1 := Lib.hid (HB.out.trans (hb1.mono HB.out.size))
      clear hb1
      go_wp2
      go_ret
      exact zeros_new HB1.out
    · have q1 : decide (n < 0) = false := decide_eq_false h0
      have q2 : decide (0 ≤ n) = true := decide_eq_true (by omega)
      go_enter Try.func21, Try.ntmps21
      go_wp2_with fail
      rw [← HW.out]
      refine (blocks_lost lab cap A bs.length C wa).mono ?_
      rintro e w1 ⟨rfl, hb1⟩
      have HB1 := Lib.hid (HB.out.trans (hb1.mono HB.out.size))
      clear hb1
      go_wp2
      go_ret
      exact zeros_new HB1.out
  | false =>
    by_cases h0 : n < 0
    · have q1 : decide (n < 0) = true := decide_eq_true h0
      clear h
      go_enter Try.func21, Try.ntmps21
      go_wp2_with fail
      rw [← HW.out]
      refine (blocks_live lab cap A bs.length C wa).mono ?_
      rintro e w1 ⟨rfl, hb1⟩
      have HB1 := Lib.hid (HB.out.trans (hb1.mono HB.out.size))
      clear hb1
      go_wp2
      go_ret
      exact zeros_new HB1.out
    · have q1 : decide (n < 0) = false := decide_eq_false h0
      have h1 : (bs.length : Int) ≤ n := by
        rcases h with h | h | h
        · cases h
        · exact absurd h h0
        · exact h
      have q2 : decide ((bs.length : Int) ≤ n) = true := decide_eq_true h1
      clear h
      go_enter Try.func21, Try.ntmps21
      go_wp2_with fail
      rw [← HW.out]
      refine (blocks_live lab cap A bs.length C wa).mono ?_
      rintro e w1 ⟨rfl, hb1⟩
      have HB1 := Lib.hid (HB.out.trans (hb1.mono HB.out.size))
      clear hb1
      go_wp2
      go_ret
      exact zeros_new HB1.out
set_option maxHeartbeats 1000000 in
theorem block_some (lab cap : Int) (A : Option Addr) (bs : List Tx) (C : Nat) (G : Nat → Prop) (n : Nat) (w : World) (hn : n < bs.length) (hr : RdB w A bs G) :
    Calls Try.prog 21 #[.agg #[.int .i64 lab, .int .i64 cap, .slice A bs.length C, .bool false], .int .i64 (n : Int)] w (BlkA (if bs[n].length = 79 then bs[n] else []) w) := by
  obtain ⟨wa, hwa⟩ : ∃ wa, wa = w.alloc (tapeObj lab cap A bs.length C false) := ⟨_, rfl⟩
  obtain ⟨hB, hT⟩ := tape_new w lab cap A bs.length C false
  rw [← hwa] at hB hT
  have HB := Lib.hid hB
  have HW := Lib.hid hwa
  have HR := Lib.hid (hr.old hB)
  unfold tapeObj at HW
  have q1 : decide ((n : Int) < 0) = false := decide_eq_false (by omega)
  have q2 : decide ((bs.length : Int) ≤ (n : Int)) = false := decide_eq_false (by omega)
  have q3 : decide (bs.length ≤ n) = false := decide_eq_false (by omega)
  clear hB hT hwa hr
  obtain ⟨s, hs⟩ : ∃ s, s = bs[n] := ⟨_, rfl⟩
  rw [← hs]
  obtain ⟨m, hm⟩ : ∃ m, m = s.length := ⟨_, rfl⟩
  rw [← hm]
  have HS := Lib.hid hs
  have HM := Lib.hid hm
  clear hs hm
  by_cases hm79 : m = 79
  · have q4 : ((m : Int) == 79) = true := by rw [hm79]; rfl
    rw [if_pos hm79]
    have hm0 : 0 < m := by omega
    have hm1 : m ≤ 1000000 := by omega
    clear hm79
    go_enter Try.func21, Try.ntmps21
    go_wp2_with fail
    rw [← HW.out]
    refine (blocks_live lab cap A bs.length C wa).mono ?_
    rintro e w1 ⟨rfl, hb1⟩
    have HB1 := Lib.hid (HB.out.trans (hb1.mono HB.out.size))
    obtain ⟨b, off, A1, C1, rfl, -, hc1, -, -, hr1⟩ := (HR.out.old hb1).at_ hn
    have HR1 := Lib.hid hr1.rd
    rw [← HS.out] at hc1 HR1
    rw [← HM.out] at hc1 HR1
    clear hb1 hr1 HR
    go_wp2_with fail
    refine (clone_any A1 m C1 (rowL s) _ w1 hm0 hm1 HR1.out).mono ?_
    rintro e w2 ⟨g, C2, rfl, hg, hC2, hr2, hb2⟩
    have HF := Lib.hid (BlkA.of (s := s) HM.out hC2 (Nat.le_trans HB1.out.size hg) hr2 (HB1.out.trans (hb2.mono HB1.out.size)))
    clear hr2 hb2
    go_wp2
    go_ret
    exact HF.out
  · have q4 : ((m : Int) == 79) = false := beq_eq_false_iff_ne.2 (by omega)
    rw [if_neg hm79]
    clear hm79
    go_enter Try.func21, Try.ntmps21
    go_wp2_with fail
    rw [← HW.out]
    refine (blocks_live lab cap A bs.length C wa).mono ?_
    rintro e w1 ⟨rfl, hb1⟩
    have HB1 := Lib.hid (HB.out.trans (hb1.mono HB.out.size))
    obtain ⟨b, off, A1, C1, rfl, -, hc1, -, -, hr1⟩ := (HR.out.old hb1).at_ hn
    have HR1 := Lib.hid hr1.rd
    rw [← HS.out] at hc1 HR1
    rw [← HM.out] at hc1 HR1
    clear hb1 hr1 HR
    go_wp2
    go_ret
    exact BlkA.nil HB1.out
theorem block_any (lab cap : Int) (A : Option Addr) (bs : List Tx) (C : Nat) (lost : Bool) (G : Nat → Prop) (n : Int) (w : World) (hr : RdB w A bs G) :
    Calls Try.prog 21 #[.agg #[.int .i64 lab, .int .i64 cap, .slice A bs.length C, .bool lost], .int .i64 n] w (BlkA (St.blk n ⟨lab, cap, bs, lost⟩) w) := by
  by_cases h : lost = true ∨ n < 0 ∨ (bs.length : Int) ≤ n
  · rw [St.blk_none h]
    exact block_none lab cap A bs C lost n w h
  · have h1 : lost = false := by cases lost with
      | true => exact absurd (.inl rfl) h
      | false => rfl
    subst h1
    have h2 : 0 ≤ n ∧ n < (bs.length : Int) := by
      constructor
      · exact Int.not_lt.1 fun h' => h (.inr (.inl h'))
      · exact Int.not_le.1 fun h' => h (.inr (.inr h'))
    obtain ⟨k, rfl⟩ : ∃ k : Nat, n = (k : Int) := ⟨n.toNat, by omega⟩
    have hk : k < bs.length := by omega
    have := block_some lab cap A bs C G k w hk hr
    by_cases h79 : bs[k].length = 79
    · rw [if_pos h79] at this
      rw [St.blk_some (t := ⟨lab, cap, bs, false⟩) rfl hk h79]; exact this
    · rw [if_neg h79] at this
      rw [St.blk_bad (t := ⟨lab, cap, bs, false⟩) rfl hk h79]; exact this
end Go.Proofs.Ytcmdggdionghcaa
namespace Go.Proofs.Ytcmdggdionghcaa
open Go.RowKit Mx
open Pt (Tx)

theorem St.row_at {ts : List St.T} {n : Int} {i : Nat} (hi : i < ts.length) : St.lens (St.row ts n) i = (St.blk n ts[i]).length ∧ St.mat (St.row ts n) i = rowL (St.blk n ts[i]) := by
  have h : i < (St.row ts n).length := by rw [St.row_len]; exact hi
  have e : (St.row ts n)[i] = St.blk n ts[i] := by simp [St.row]
  exact ⟨by rw [St.lens_at h, e], by rw [St.mat_at h, e]⟩
/-- a row of tapes, as it is answered -/
def RowA (ts : List St.T) (n : Int) (w : World) (e : Ending) (w' : World) : Prop :=
  ∃ A C, e = .returned (.slice A ts.length C) ∧ ts.length ≤ C ∧ (A = none → ts.length = 0 ∧ C = 0) ∧ RdM w' A ts.length (St.lens (St.row ts n)) (St.mat (St.row ts n)) (· < w'.heap.size) ∧ Below w.heap.size w w'
set_option maxHeartbeats 2000000 in
theorem row_any (A : Option Addr) (ts : List St.T) (C : Nat) (G : Nat → Prop) (n : Int) (w : World) (hn : ts.length ≤ 1000000) (hr : RdT w A ts G) :
    Calls Try.prog 13 #[.slice A ts.length C, .int .i64 n] w (RowA ts n w) := by
  have HR := Lib.hid hr
  clear hr
  have hmk := run_make_row' (P := Try.prog) 34 40 (.slice none 0 0) 24 Try.underlying34 infoRow rfl .i64 .i64 ts.length (by omega) (by omega)
  go_enter Try.func13, Try.ntmps13
  go_wp2
  clear hmk
  go_loopw [13] (fun vi wr => ∃ i : Nat, i ≤ ts.length ∧ vi = .int .i64 (i : Int) ∧ Hid (∃ A C, TopR wr w.heap.size ts.length A (fun j => if j < i then St.lens (St.row ts n) j else 0) C (St.mat (St.row ts n))) ∧ Hid (Below w.heap.size w wr)) (fun vi _ => ts.length - (intOf vi).toNat)
  case atStart => exact ⟨0, Nat.zero_le _, rfl, Lib.hid ⟨_, _, (TopR.start w ts.length _).congr (fun i _ => by rw [if_neg (by omega)]) (fun _ _ _ _ => rfl)⟩, Lib.hid ((Below.refl _ _).alloc (Nat.le_refl _) _)⟩
  case round =>
    obtain ⟨i, hi, rfl, HO, HB⟩ := hrel
    obtain ⟨Ax, Cx, hO⟩ := HO.out
    have HO' := Lib.hid hO
    clear hO HO
    by_cases hlt : i < ts.length
    · obtain ⟨b, off, A', C', rfl, -, c0, c1, c2, c3, hb⟩ := (HR.out.old HB.out).at_ hlt
      obtain ⟨h1, h2⟩ := St.row_at (n := n) hlt
      obtain ⟨⟨lab, cap, bs, lost⟩, ht⟩ : ∃ t, t = ts[i] := ⟨_, rfl⟩
      rw [← ht] at c0 c1 c2 c3 hb h1 h2
      dsimp only at c0 c1 c2 c3 hb
      obtain ⟨s, hs⟩ : ∃ s, s = St.blk n ⟨lab, cap, bs, lost⟩ := ⟨_, rfl⟩
      rw [← hs] at h1 h2
      have hbt : Below wr.heap.size wr (wr.alloc (tapeObj lab cap A' bs.length C' lost)) := (tape_new wr lab cap A' bs.length C' lost).1
      have HC := Lib.hid (block_any lab cap A' bs C' lost _ n _ (hb.old hbt))
      rw [← hs] at HC
      have HBT := Lib.hid hbt
      have H1 := Lib.hid h1
      have H2 := Lib.hid h2
      have e0 : decide (i < ts.length) = true := decide_eq_true hlt
      unfold tapeObj at HC HBT
      clear hb hbt hs ht h1 h2
      go_wp2_with fail
      refine HC.out.mono ?_
      rintro e w1 ⟨A1, C1, rfl, -, -, hr1, hb1⟩
      have hbb : Below wr.heap.size wr w1 := HBT.out.trans (hb1.mono HBT.out.size)
      have HO1 := HO'.out.old hbb
      have hne : w.heap.size < wr.heap.size := HO'.out.top.lt
      have hR1 : Rd w1 A1 s.length (St.mat (St.row ts n) i) (· ≠ w.heap.size) := by
        rw [H2.out]
        exact hr1.mono fun x hx => by have := HBT.out.size; omega
      have hct := HO1.top.cell hlt
      have hft := HO1.top.frozen i
      have HP := Lib.hid (HO1.lay i (c := C1) hR1)
      have HB2 := Lib.hid ((HB.out.trans (hbb.mono HB.out.size)).setCell (p := ⟨w.heap.size, i, none⟩) (Nat.le_refl _) (.slice A1 s.length C1))
      obtain ⟨m, hm⟩ : ∃ m, m = s.length := ⟨_, rfl⟩
      have d0 := (hbb.cell (World.block_lt_of_cell? _ _ c0)).trans c0
      rw [← hm] at HP HB2 H1 ⊢
      clear hr1 hb1 hbb HO1 hR1 hm c0 c1 c2 c3 d0
      go_wp2
      go_roundw
      case rel => exact ⟨i + 1, by omega, by go_num, Lib.hid ⟨_, _, HP.out.congr (fun j _ => by
        by_cases e : j = i
        · rw [if_pos e, if_pos (by omega), e, H1.out]
        · by_cases e' : j < i
          · rw [if_neg e, if_pos e', if_pos (by omega)]
          · rw [if_neg e, if_neg e', if_neg (by omega)]) (fun _ _ _ _ => rfl)⟩, HB2⟩
      case measure => simp [intOf]; omega
    · have HF : Hid (RdM wr (some ⟨w.heap.size, 0, none⟩) ts.length (St.lens (St.row ts n)) (St.mat (St.row ts n)) (· < wr.heap.size)) := Lib.hid ((HO'.out.congr (L' := St.lens (St.row ts n)) (M' := St.mat (St.row ts n)) (fun j hj => by rw [if_pos (by omega)]) (fun _ _ _ _ => rfl)).rdM)
      have e0 : decide (i < ts.length) = false := decide_eq_false hlt
      clear HO'
      go_wp2
      go_ret
      exact ⟨_, _, rfl, Nat.le_refl _, (fun h => by cases h), HF.out, HB.out⟩
end Go.Proofs.Ytcmdggdionghcaa
namespace Go.Proofs.Ytcmdggdionghcaa
open Go.RowKit Mx

def alikeB (n : Nat) (L : Nat → Nat) : Bool := decide (∀ i, i < n → L i = L 0)
theorem alikeB_true {n : Nat} {L : Nat → Nat} : alikeB n L = true ↔ ∀ i, i < n → L i = L 0 := decide_eq_true_iff
theorem alikeB_false {n : Nat} {L : Nat → Nat} {k : Nat} (hk : k < n) (h : L k ≠ L 0) : alikeB n L = false := decide_eq_false fun hh => h (hh k hk)
set_option maxHeartbeats 1000000 in
theorem alike_any (A : Option Addr) (n C : Nat) (L : Nat → Nat) (M : Mat) (G : Nat → Prop) (w : World) (hm : n ≤ maxLen) (h : RdM w A n L M G) :
    Calls Try.prog 25 #[.slice A n C] w fun e w' => e = .returned (.bool (alikeB n L)) ∧ w = w' := by
  unfold maxLen at hm
  have H := Lib.hid h
  clear h
  go_enter Try.func25, Try.ntmps25
  go_wp2
  go_loop [7, 4] (fun vi _ => ∃ k : Nat, k ≤ n ∧ vi = .int .i64 (k : Int) ∧ Hid (∀ i, i < k → L i = L 0)) (fun vi _ => n - (intOf vi).toNat)
  case atStart => exact ⟨0, by omega, rfl, Lib.hid (fun i hi => absurd hi (by omega))⟩
  case round =>
    obtain ⟨k, hk, rfl, HL⟩ := hrel
    by_cases hlt : k < n
    · obtain ⟨b, off, A0, C0, rfl, _, hc0, _⟩ := H.out.row (i := 0) (by omega)
      rw [Nat.add_zero] at hc0
      obtain ⟨b', off', Ak, Ck, e, _, hck, _⟩ := H.out.row hlt
      obtain ⟨rfl, rfl⟩ : b = b' ∧ off = off' := by simpa using e
      clear e
      by_cases he : L k = L 0
      · have hb : ((L k : Int) != (L 0 : Int)) = false := by rw [he]; simp
        have HE := Lib.hid he
        clear he
        go_wp2
        go_round
        case rel => exact ⟨k + 1, by omega, by go_num, Lib.hid (fun i hi => by
          by_cases e : i = k
          · rw [e]; exact HE.out
          · exact HL.out i (by omega))⟩
        case measure => simp [intOf]; omega
      · have hb : ((L k : Int) != (L 0 : Int)) = true := by rw [bne_iff_ne]; omega
        have HF := Lib.hid (alikeB_false (n := n) (L := L) hlt he)
        clear he
        go_wp2
        go_ret
        exact ⟨ret_bool HF.out.symm, rfl⟩
    · have HF := Lib.hid (alikeB_true (n := n) (L := L) |>.2 fun i hi => HL.out i (by omega))
      go_wp2
      go_ret
      exact ⟨ret_bool HF.out.symm, rfl⟩
theorem alike_is (A : Option Addr) (n C : Nat) (L : Nat → Nat) (M : Mat) (G : Nat → Prop) (w : World) (r : Bool) (hm : n ≤ maxLen) (h : RdM w A n L M G) (hr : alikeB n L = r) :
    Calls Try.prog 25 #[.slice A n C] w fun e w' => e = .returned (.bool r) ∧ w = w' := hr ▸ alike_any A n C L M G w hm h

end Go.Proofs.Ytcmdggdionghcaa
namespace Go.Proofs.Ytcmdggdionghcaa
open Go.RowKit

set_option maxHeartbeats 400000 in
theorem add_nat (a b : Nat) (w : World) (ha : a < 256) (hb : b < 256) :
    Calls Try.prog 34 #[.int .u8 (a : Int), .int .u8 (b : Int)] w fun e w' => e = .returned (.int .u8 ((a ^^^ b : Nat) : Int)) ∧ w = w' := by
  go_enter Try.func34, Try.ntmps34
  go_wp2
  go_ret
  exact ⟨ret_u8 (bits_xor_u8 a b ha hb), rfl⟩
set_option maxHeartbeats 400000 in
theorem timesX_nat (a : Nat) (w : World) (ha : a < 256) :
    Calls Try.prog 42 #[.int .u8 (a : Int)] w fun e w' => e = .returned (.int .u8 ((Gf.tx a : Nat) : Int)) ∧ w = w' := by
  have ht := and_top_u8 a ha
  by_cases h : a < 128
  · have ht' : (bits BinOp.and IntKind.u8 (a : Int) 128 == 0) = true := by rw [ht]; simpa using h
    clear ht
    go_enter Try.func42, Try.ntmps42
    go_wp2
    go_ret
    refine ⟨ret_u8 ?_, rfl⟩
    unfold Gf.tx; rw [if_pos h]; omega
  · have ht' : (bits BinOp.and IntKind.u8 (a : Int) 128 == 0) = false := by rw [ht]; simpa using h
    clear ht
    go_enter Try.func42, Try.ntmps42
    go_wp2
    go_ret
    refine ⟨ret_u8 ?_, rfl⟩
    unfold Gf.tx; rw [if_neg h]
    rw [show (a : Int) * 2 % 256 = ((2 * a - 256 : Nat) : Int) by omega]
    exact bits_xor_u8 _ 29 (by omega) (by decide)
set_option maxHeartbeats 400000 in
theorem mul_nat (a b : Nat) (w : World) (ha : a < 256) (hb : b < 256) :
    Calls Try.prog 39 #[.int .u8 (a : Int), .int .u8 (b : Int)] w fun e w' => e = .returned (.int .u8 ((Gf.mul a b : Nat) : Int)) ∧ w = w' := by
  have HR := Lib.hid (show Gf.mulr 8 a b 0 = Gf.mul a b from rfl)
  go_enter Try.func39, Try.ntmps39
  go_wp2
  go_loop [0, 1, 5, 6] (fun va vb vp vi => ∃ k a' b' p : Nat, k ≤ 8 ∧ a' < 256 ∧ b' < 256 ∧ p < 256 ∧ vi = .int .i64 (k : Int) ∧ va = .int .u8 (a' : Int) ∧ vb = .int .u8 (b' : Int) ∧ vp = .int .u8 (p : Int) ∧ Hid (Gf.mulr (8 - k) a' b' p = Gf.mul a b)) (fun _ _ _ vi => 8 - (intOf vi).toNat)
  case atStart => exact ⟨0, a, b, 0, by omega, ha, hb, by omega, rfl, rfl, rfl, rfl, HR⟩
  case round =>
    obtain ⟨k, a', b', p, hk, ha', hb', hp, rfl, rfl, rfl, rfl, HR'⟩ := hrel
    have hand := and_one_u8 b' hb'
    by_cases hlt : k < 8
    · have hstep : Gf.mulr (8 - k) a' b' p = Gf.mulr (8 - (k + 1)) (Gf.tx a') (b' / 2) (if b' % 2 = 1 then p ^^^ a' else p) := by
        rw [show 8 - k = (8 - (k + 1)) + 1 by omega]; rfl
      by_cases hbit : b' % 2 = 1
      · have hb1 : (bits BinOp.and IntKind.u8 (b' : Int) 1 == 1) = true := by rw [hand, hbit]; rfl
        rw [if_pos hbit] at hstep
        have HR2 := Lib.hid (hstep.symm.trans HR'.out)
        clear hstep hand hbit HR' HR
        go_wp2_with (first | (go_at_call 34; refine (add_nat _ _ _ (by omega) (by omega)).mono ?_; rintro e w' ⟨rfl, rfl⟩) | (go_at_call 42; refine (timesX_nat _ _ (by omega)).mono ?_; rintro e w' ⟨rfl, rfl⟩))
        go_round
        case rel => exact ⟨k + 1, Gf.tx a', b' / 2, p ^^^ a', by omega, Gf.tx_lt ha', by omega, Gf.xor_lt hp ha', by go_num, rfl, by go_num, rfl, HR2⟩
        case measure => simp [intOf]; omega
      · have hb1 : (bits BinOp.and IntKind.u8 (b' : Int) 1 == 1) = false := by rw [hand]; simp; omega
        rw [if_neg hbit] at hstep
        have HR2 := Lib.hid (hstep.symm.trans HR'.out)
        clear hstep hand hbit HR' HR
        go_wp2_with (first | (go_at_call 42; refine (timesX_nat _ _ (by omega)).mono ?_; rintro e w' ⟨rfl, rfl⟩))
        go_round
        case rel => exact ⟨k + 1, Gf.tx a', b' / 2, p, by omega, Gf.tx_lt ha', by omega, hp, by go_num, rfl, by go_num, rfl, HR2⟩
        case measure => simp [intOf]; omega
    · clear hand
      have HR2 : Hid (p = Gf.mul a b) := by
        have h := HR'.out
        rw [show 8 - k = 0 by omega] at h
        exact Lib.hid h
      clear HR' HR
      go_wp2
      go_ret
      exact ⟨ret_u8 (congrArg (fun n : Nat => (n : Int)) HR2.out), rfl⟩
theorem mul_any (a b : Int) (w : World) (ha : 0 ≤ a) (ha' : a < 256) (hb : 0 ≤ b) (hb' : b < 256) :
    Calls Try.prog 39 #[.int .u8 a, .int .u8 b] w fun e w' => e = .returned (.int .u8 (gmul a b)) ∧ w = w' := by
  obtain ⟨a, rfl⟩ := Int.eq_ofNat_of_zero_le ha
  obtain ⟨b, rfl⟩ := Int.eq_ofNat_of_zero_le hb
  exact mul_nat a b w (by omega) (by omega)
theorem add_any (a b : Int) (w : World) (ha : 0 ≤ a) (ha' : a < 256) (hb : 0 ≤ b) (hb' : b < 256) :
    Calls Try.prog 34 #[.int .u8 a, .int .u8 b] w fun e w' => e = .returned (.int .u8 (gadd a b)) ∧ w = w' := by
  obtain ⟨a, rfl⟩ := Int.eq_ofNat_of_zero_le ha
  obtain ⟨b, rfl⟩ := Int.eq_ofNat_of_zero_le hb
  exact add_nat a b w (by omega) (by omega)
end Go.Proofs.Ytcmdggdionghcaa
namespace Go.Proofs.Ytcmdggdionghcaa
open Go.RowKit

set_option maxHeartbeats 400000 in
theorem raise_nat (a n : Nat) (w : World) (ha : a < 256) (hn : n < 256) :
    Calls Try.prog 40 #[.int .u8 (a : Int), .int .i64 (n : Int)] w fun e w' => e = .returned (.int .u8 ((Gf.pw a n : Nat) : Int)) ∧ w = w' := by
  have HR := Lib.hid (Gf.one_mul (Gf.pw_lt ha n))
  go_enter Try.func40, Try.ntmps40
  go_wp2
  go_loop [0, 1, 5] (fun va vn vp => ∃ a' n' p : Nat, n' < 256 ∧ a' < 256 ∧ p < 256 ∧ vn = .int .i64 (n' : Int) ∧ va = .int .u8 (a' : Int) ∧ vp = .int .u8 (p : Int) ∧ Hid (Gf.mul p (Gf.pw a' n') = Gf.pw a n)) (fun _ vn _ => (intOf vn).toNat)
  case atStart => exact ⟨a, n, 1, hn, ha, by omega, rfl, rfl, rfl, HR⟩
  case round =>
    obtain ⟨a', n', p, hn', ha', hp, rfl, rfl, rfl, HR'⟩ := hrel
    have hand := and_one_i64 n' hn'
    by_cases hlt : 0 < n'
    · have hstep := Gf.raise_pw ha' hp n'
      by_cases hbit : n' % 2 = 1
      · have hb1 : (bits BinOp.and IntKind.i64 (n' : Int) 1 == 1) = true := by rw [hand, hbit]; rfl
        rw [if_pos hbit] at hstep
        have HR2 := Lib.hid (hstep.trans HR'.out)
        clear hstep hand hbit HR' HR
        go_wp2_with (first | (go_at_call 39; refine (mul_nat _ _ _ (by omega) (by omega)).mono ?_; rintro e w' ⟨rfl, rfl⟩))
        go_round
        case rel => exact ⟨Gf.mul a' a', n' / 2, Gf.mul p a', by omega, Gf.mul_lt ha', Gf.mul_lt hp, by go_num, rfl, rfl, HR2⟩
        case measure => simp [intOf]; omega
      · have hb1 : (bits BinOp.and IntKind.i64 (n' : Int) 1 == 1) = false := by rw [hand]; simp; omega
        rw [if_neg hbit] at hstep
        have HR2 := Lib.hid (hstep.trans HR'.out)
        clear hstep hand hbit HR' HR
        go_wp2_with (first | (go_at_call 39; refine (mul_nat _ _ _ (by omega) (by omega)).mono ?_; rintro e w' ⟨rfl, rfl⟩))
        go_round
        case rel => exact ⟨Gf.mul a' a', n' / 2, p, by omega, Gf.mul_lt ha', hp, by go_num, rfl, rfl, HR2⟩
        case measure => simp [intOf]; omega
    · clear hand
      have HR2 : Hid (p = Gf.pw a n) := by
        have h := HR'.out
        rw [show n' = 0 by omega] at h
        have h1 : Gf.mul p 1 = Gf.pw a n := h
        rw [Gf.mul_one hp] at h1
        exact Lib.hid h1
      clear HR' HR
      go_wp2
      go_ret
      exact ⟨ret_u8 (congrArg (fun n : Nat => (n : Int)) HR2.out), rfl⟩
set_option maxHeartbeats 400000 in
theorem exponent_any (n : Int) (w : World) (_h0 : -9223372036854775808 ≤ n) (_h1 : n ≤ 9223372036854775807) :
    Calls Try.prog 41 #[.int .i64 n] w fun e w' => e = .returned (.int .i64 (n % 255)) ∧ w = w' := by
  obtain ⟨hp, hm, hlo, hhi⟩ := tmod255 n
  have HP := Lib.hid hp
  have HM := Lib.hid hm
  clear hp hm
  by_cases hneg : n.tmod 255 < 0
  · go_enter Try.func41, Try.ntmps41
    go_wp2
    go_ret
    exact ⟨ret_i64 (HM.out hneg).symm, rfl⟩
  · go_enter Try.func41, Try.ntmps41
    go_wp2
    go_ret
    exact ⟨ret_i64 (HP.out (by omega)).symm, rfl⟩
set_option maxHeartbeats 400000 in
theorem pow_any (a n : Int) (w : World) (ha : 0 ≤ a) (ha' : a < 256) (h0 : -9223372036854775808 ≤ n) (h1 : n ≤ 9223372036854775807) :
    Calls Try.prog 37 #[.int .u8 a, .int .i64 n] w fun e w' => e = .returned (.int .u8 (gpow a n)) ∧ w = w' := by
  by_cases hn : n = 0
  · subst hn
    go_enter Try.func37, Try.ntmps37
    go_wp2
    go_ret
    exact ⟨rfl, rfl⟩
  · have hb : (n == 0) = false := by simpa using hn
    by_cases hz : a = 0
    · subst hz
      have HG := Lib.hid (show gpow 0 n = 0 by unfold gpow; rw [if_neg hn, if_pos rfl])
      clear hn
      go_enter Try.func37, Try.ntmps37
      go_wp2
      go_ret
      exact ⟨ret_u8 HG.out.symm, rfl⟩
    · have hc : (a == 0) = false := by simpa using hz
      have HG := Lib.hid (show gpow a n = _ by unfold gpow; rw [if_neg hn, if_neg hz])
      clear hn hz
      have hr0 : 0 ≤ n % 255 := by omega
      have hr1 : n % 255 < 255 := by omega
      obtain ⟨a, rfl⟩ := Int.eq_ofNat_of_zero_le ha
      have hraise := raise_nat a (n % 255).toNat w (by omega) (by omega)
      rw [Int.toNat_of_nonneg hr0] at hraise
      have HR := Lib.hid hraise
      clear hraise
      go_enter Try.func37, Try.ntmps37
      go_wp2_with fail
      refine (exponent_any n _ h0 h1).mono ?_
      rintro e w' ⟨rfl, rfl⟩
      go_wp2_with fail
      refine HR.out.mono ?_
      rintro e w' ⟨rfl, rfl⟩
      go_wp2
      go_ret
      exact ⟨ret_u8 HG.out.symm, rfl⟩
set_option maxHeartbeats 400000 in
theorem inv_any (a : Int) (w : World) (ha : 0 ≤ a) (ha' : a < 256) :
    Calls Try.prog 33 #[.int .u8 a] w fun e w' => e = .returned (.int .u8 (ginv a)) ∧ w = w' := by
  have HG := Lib.hid (gpow_inv a ha)
  go_enter Try.func33, Try.ntmps33
  go_wp2_with fail
  refine (pow_any a 254 _ ha ha' (by decide) (by decide)).mono ?_
  rintro e w' ⟨rfl, rfl⟩
  go_wp2
  go_ret
  exact ⟨ret_u8 HG.out, rfl⟩
end Go.Proofs.Ytcmdggdionghcaa
namespace Go.Proofs.Ytcmdggdionghcaa
open Go.RowKit Mx

theorem mul_fe (a b : Fe) (w : World) : Calls Try.prog 39 #[.int .u8 (fi a), .int .u8 (fi b)] w fun e w' => e = .returned (.int .u8 (fi (a * b))) ∧ w = w' := by
  rw [← gmul_fi]; exact mul_any _ _ w (fi_lo a) (fi_hi a) (fi_lo b) (fi_hi b)
theorem add_fe (a b : Fe) (w : World) : Calls Try.prog 34 #[.int .u8 (fi a), .int .u8 (fi b)] w fun e w' => e = .returned (.int .u8 (fi (a + b))) ∧ w = w' := by
  rw [← gadd_fi]; exact add_any _ _ w (fi_lo a) (fi_hi a) (fi_lo b) (fi_hi b)
theorem inv_fe (a : Fe) (w : World) : Calls Try.prog 33 #[.int .u8 (fi a)] w fun e w' => e = .returned (.int .u8 (fi (inv a))) ∧ w = w' := by
  rw [← ginv_fi]; exact inv_any _ w (fi_lo a) (fi_hi a)

theorem mul_st (a b : Fe) (w : World) : Calls Try.prog 39 #[.int .u8 (fi a), .int .u8 (fi b)] w fun e w' => e = .returned (.int .u8 (fi (a * b))) ∧ w' = w := (mul_fe a b w).mono fun _ _ h => ⟨h.1, h.2.symm⟩
theorem add_st (a b : Fe) (w : World) : Calls Try.prog 34 #[.int .u8 (fi a), .int .u8 (fi b)] w fun e w' => e = .returned (.int .u8 (fi (a + b))) ∧ w' = w := (add_fe a b w).mono fun _ _ h => ⟨h.1, h.2.symm⟩
theorem add_ist (a b : Int) (w : World) (ha : 0 ≤ a) (ha' : a < 256) (hb : 0 ≤ b) (hb' : b < 256) : Calls Try.prog 34 #[.int .u8 a, .int .u8 b] w fun e w' => e = .returned (.int .u8 (gadd a b)) ∧ w' = w := (add_any a b w ha ha' hb hb').mono fun _ _ h => ⟨h.1, h.2.symm⟩
theorem inv_ist (a : Int) (w : World) (ha : 0 ≤ a) (ha' : a < 256) : Calls Try.prog 33 #[.int .u8 a] w fun e w' => e = .returned (.int .u8 (ginv a)) ∧ w' = w := (inv_any a w ha ha').mono fun _ _ h => ⟨h.1, h.2.symm⟩
end Go.Proofs.Ytcmdggdionghcaa
namespace Go.Proofs.Ytcmdggdionghcaa
open Go.RowKit Mx

set_option maxHeartbeats 1000000 in
theorem right_any (A : Option Addr) (n C : Nat) (L : Nat → Nat) (M : Mat) (G : Nat → Prop) (w : World) (hm : n ≤ maxLen) (h : RdM w A n L M G) :
    Calls Try.prog 38 #[.slice A n C] w fun e w' => e = .returned (.bool (rightB n L)) ∧ w = w' := by
  unfold maxLen at hm
  by_cases h1 : 1 ≤ n ∧ n ≤ 255
  · obtain ⟨h1, h2⟩ := h1
    obtain ⟨b, off, A0, C0, rfl, _, hc0, _⟩ := h.row (i := 0) (by omega)
    rw [Nat.add_zero] at hc0
    have H := Lib.hid h
    clear h
    by_cases h3 : 1 ≤ L 0 ∧ L 0 ≤ 255
    · obtain ⟨h3, h4⟩ := h3
      go_enter Try.func38, Try.ntmps38
      go_wp2
      go_loop [26, 5] (fun vi _ => ∃ k : Nat, k ≤ n ∧ vi = .int .i64 (k : Int) ∧ Hid (∀ i, i < k → L i = L 0)) (fun vi _ => n - (intOf vi).toNat)
      case atStart => exact ⟨0, by omega, rfl, Lib.hid (fun i hi => absurd hi (by omega))⟩
      case round =>
        obtain ⟨k, hk, rfl, HL⟩ := hrel
        by_cases hlt : k < n
        · obtain ⟨b', off', Ak, Ck, e, _, hck, _⟩ := H.out.row hlt
          obtain ⟨rfl, rfl⟩ : b = b' ∧ off = off' := by simpa using e
          clear e
          by_cases he : L k = L 0
          · have hb : ((L k : Int) != (L 0 : Int)) = false := by rw [he]; simp
            have HE := Lib.hid he
            clear he
            go_wp2
            go_round
            case rel => exact ⟨k + 1, by omega, by go_num, Lib.hid (fun i hi => by
              by_cases e : i = k
              · rw [e]; exact HE.out
              · exact HL.out i (by omega))⟩
            case measure => simp [intOf]; omega
          · have hb : ((L k : Int) != (L 0 : Int)) = true := by rw [bne_iff_ne]; omega
            have HF := Lib.hid (rightB_false (n := n) (L := L) (fun h => he (h.2.2.2.2 k hlt)))
            clear he
            go_wp2
            go_ret
            exact ⟨ret_bool HF.out.symm, rfl⟩
        · have HF := Lib.hid (rightB_true (n := n) (L := L) |>.2 ⟨h1, h2, h3, h4, fun i hi => HL.out i (by omega)⟩)
          go_wp2
          go_ret
          exact ⟨ret_bool HF.out.symm, rfl⟩
    · have HF := Lib.hid (rightB_false (n := n) (L := L) (fun h => h3 ⟨h.2.2.1, h.2.2.2.1⟩))
      rcases (show L 0 < 1 ∨ 255 < L 0 by omega) with h5 | h5
      all_goals
        clear h3
        go_enter Try.func38, Try.ntmps38
        go_wp2
        go_ret
        exact ⟨ret_bool HF.out.symm, rfl⟩
  · have HF := Lib.hid (rightB_false (n := n) (L := L) (fun h => h1 ⟨h.1, h.2.1⟩))
    clear h
    rcases (show n < 1 ∨ 255 < n by omega) with h5 | h5
    all_goals
      clear h1
      go_enter Try.func38, Try.ntmps38
      go_wp2
      go_ret
      exact ⟨ret_bool HF.out.symm, rfl⟩
theorem right_is (A : Option Addr) (n C : Nat) (L : Nat → Nat) (M : Mat) (G : Nat → Prop) (w : World) (r : Bool) (hm : n ≤ maxLen) (h : RdM w A n L M G) (hr : rightB n L = r) :
    Calls Try.prog 38 #[.slice A n C] w fun e w' => e = .returned (.bool r) ∧ w = w' := hr ▸ right_any A n C L M G w hm h
end Go.Proofs.Ytcmdggdionghcaa
