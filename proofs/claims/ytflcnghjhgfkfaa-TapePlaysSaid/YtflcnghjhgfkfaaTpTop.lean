/- A slice of slices of the law's own, made by append, each row its own. No function of the program. -/
import Derived.Test.YtflcnghjhgfkfaaTpTape
namespace Go.Proofs.Ytflcnghjhgfkfaa
open Go.RowKit
open Pt (Tx)

/-- v is a slice of the call's own whose rows us are the call's own, hold bs, and lie in blocks of G, no two in one -/
structure TopB (w : World) (B : Nat) (G : Nat → Prop) (v : Value) (us : List Value) (bs : List Tx) : Prop where
  top : w.ownsRow B 35 1 v us.length us
  len : us.length = bs.length
  rows : ∀ i (h : i < us.length) (h' : i < bs.length), OwnL w B us[i] bs[i]
  gs : ∀ i (h : i < us.length) k, us[i].ownBlock = some k → G k
  inj : ∀ i j (hi : i < us.length) (hj : j < us.length) k, us[i].ownBlock = some k → us[j].ownBlock = some k → i = j
theorem own_blk {w : World} {B : Nat} {t : TypeId} {v : Value} {n : Nat} {xs : List Value} (h : w.ownsRow B t 1 v n xs) : ∀ k, v.ownBlock = some k → ∃ c, w.heap[k]? = some (.cells c t (0, 0)) := by
  intro k hk
  rcases h.2 with ⟨rfl, _⟩ | ⟨g, cap, cur, rfl, _, hg, _⟩
  · cases hk
  · cases hk; exact ⟨cur, hg⟩
theorem own_of {w w' : World} {B : Nat} {t : TypeId} {v : Value} {n : Nat} {xs : List Value} (h : w.ownsRow B t 1 v n xs) (hb : ∀ k, v.ownBlock = some k → w'.heap[k]? = w.heap[k]?) : w'.ownsRow B t 1 v n xs := by
  refine ⟨h.1, ?_⟩
  rcases h.2 with h0 | ⟨g, cap, cur, rfl, hb', hg, hr⟩
  · exact .inl h0
  · exact .inr ⟨g, cap, cur, rfl, hb', (hb g rfl).trans hg, hr⟩
namespace TopB
variable {w w' : World} {B : Nat} {G G' : Nat → Prop} {v : Value} {us : List Value} {bs : List Tx}
theorem nil (w : World) (B : Nat) (G : Nat → Prop) : TopB w B G (.slice none 0 0) [] [] :=
  ⟨World.ownsRow_nil _ _ _ _, rfl, fun i h => absurd h (by simp), fun i h => absurd h (by simp), fun i j h => absurd h (by simp)⟩
/-- what is not touched is as it was -/
theorem kp {S : Nat → Prop} (h : TopB w B G v us bs) (hk : Kp S w w') (h1 : ∀ k c, S k → w.heap[k]? ≠ some (.cells c 35 (0, 0))) (h2 : ∀ k, S k → ¬ G k) : TopB w' B G v us bs := by
  refine ⟨own_of h.top fun k e => ?_, h.len, fun i hi hi' => (h.rows i hi hi').kp hk fun k e hs => h2 k hs (h.gs i hi k e), h.gs, h.inj⟩
  obtain ⟨c, hc⟩ := own_blk h.top k e
  exact hk.block k (heap_lt hc) fun hs => h1 k c hs hc
/-- the same, told by what lies there -/
theorem kpT {S : Nat → Prop} (h : TopB w B G v us bs) (hk : Kp S w w') (h1 : ∀ k c, S k → w.heap[k]? ≠ some (.cells c 35 (0, 0))) (h2 : ∀ k c, S k → w.heap[k]? ≠ some (.cells c 5 (0, 0))) : TopB w' B G v us bs := by
  refine ⟨own_of h.top fun k e => ?_, h.len, fun i hi hi' => (h.rows i hi hi').kp hk fun k e hs => ?_, h.gs, h.inj⟩
  · obtain ⟨c, hc⟩ := own_blk h.top k e
    exact hk.block k (heap_lt hc) fun hs => h1 k c hs hc
  · obtain ⟨c, hc⟩ := (h.rows i hi hi').block k e
    exact h2 k c hs hc
theorem old (h : TopB w B G v us bs) (hb : Below w.heap.size w w') : TopB w' B G v us bs :=
  h.kp (S := fun _ => False) (Kp.of_below hb) (fun _ _ h => h.elim) (fun _ h => h.elim)
theorem mono (h : TopB w B G v us bs) (hg : ∀ k, G k → G' k) : TopB w B G' v us bs := ⟨h.top, h.len, h.rows, fun i hi k e => hg k (h.gs i hi k e), h.inj⟩
/-- all its rows are there -/
theorem there (h : TopB w B G v us bs) : TopB w B (fun k => G k ∧ k < w.heap.size) v us bs :=
  ⟨h.top, h.len, h.rows, fun i hi k e => ⟨h.gs i hi k e, (h.rows i hi (by rw [← h.len]; exact hi)).lt k e⟩, h.inj⟩
/-- as a value -/
theorem val (h : TopB w B G v us bs) : ∃ A C, v = .slice A bs.length C ∧ bs.length ≤ C ∧ C ≤ maxLen ∧ (A = none → bs.length = 0 ∧ C = 0) := by
  rcases h.top.2 with ⟨rfl, h0⟩ | ⟨g, cap, cur, rfl, _, _, hnc, hcm, _⟩
  · have : bs.length = 0 := by rw [← h.len, h0]
    exact ⟨none, 0, by rw [this], by omega, by decide, fun _ => ⟨this, rfl⟩⟩
  · exact ⟨_, cap, by rw [← h.len], by rw [← h.len]; exact hnc, hcm, fun h => by cases h⟩
/-- as what reads -/
theorem rdB {A : Option Addr} {n C : Nat} (h : TopB w B G (.slice A n C) us bs) : RdB w A bs (fun k => B ≤ k) := by
  intro hn
  rcases h.top.2 with ⟨e, h0⟩ | ⟨g, cap, cur, e, hb, hg, hnc, _, hs, ht⟩
  · have := h.len; omega
  · injection e with e1 e2 e3
    subst e1
    refine ⟨g, 0, rfl, hb, fun i hi => ?_⟩
    have hi' : i < us.length := by rw [h.len]; exact hi
    obtain ⟨A', C', hv, h1, -, h2, h3⟩ := (h.rows i hi' hi).rd
    refine ⟨A', C', ?_, h1, h2, h3.mono fun _ h => h.1⟩
    have hx : us[i]? = some (.slice A' bs[i].length C') := by rw [List.getElem?_eq_getElem hi', hv]
    rw [← ht, List.getElem?_take, if_pos (by omega), Array.getElem?_toList] at hx
    rw [Nat.zero_add, heap_cell hg, hx]
/-- a row is appended -/
theorem push (h : TopB w B G v us bs) {w1 : World} (hw : Below w.heap.size w w1) {u : Value} {s : Tx} (hu : OwnL w1 B u s) (hun : ∀ k, u.ownBlock = some k → w.heap.size ≤ k) (hG : ∀ k, u.ownBlock = some k → G k) {v' : Value} (ho : w'.ownsRow B 35 1 v' (us.length + 1) (us ++ [u])) (hg : w1.grownBy w' v.ownBlock) :
    TopB w' B G v' (us ++ [u]) (bs ++ [s]) := by
  have keep : ∀ {x : Value} {l : Tx}, OwnL w1 B x l → OwnL w' B x l := fun {x l} hx => hx.of_block fun k e => by
    refine hg.block k (hx.lt k e) fun e' => ?_
    obtain ⟨c, hc⟩ := own_blk h.top k e'.symm
    obtain ⟨c', hc'⟩ := hx.block k e
    rw [hw.block k (heap_lt hc), hc] at hc'
    injection hc' with hc'
    injection hc' with _ e2
    exact absurd e2 (by decide)
  have oldlt : ∀ i (hi : i < us.length) k, us[i].ownBlock = some k → k < w.heap.size := fun i hi k e => (h.rows i hi (by rw [← h.len]; exact hi)).lt k e
  refine ⟨by simpa using ho, by simp [h.len], fun i hi hi' => ?_, fun i hi k e => ?_, fun i j hi hj k e e' => ?_⟩
  · rcases Nat.lt_or_ge i us.length with hl | hl
    · rw [List.getElem_append_left hl, List.getElem_append_left (by rw [← h.len]; exact hl)]
      exact keep ((h.rows i hl (by rw [← h.len]; exact hl)).of_block fun k e => hw.block k (oldlt i hl k e))
    · have : i = us.length := by simp at hi; omega
      subst this
      have e2 : (bs ++ [s])[us.length] = s := by simp [h.len]
      rw [e2]
      simp only [List.getElem_concat_length]
      exact keep hu
  · rcases Nat.lt_or_ge i us.length with hl | hl
    · rw [List.getElem_append_left hl] at e
      exact h.gs i hl k e
    · have : i = us.length := by simp at hi; omega
      subst this
      simp only [List.getElem_concat_length] at e
      exact hG k e
  · rcases Nat.lt_or_ge i us.length with hl | hl <;> rcases Nat.lt_or_ge j us.length with hm | hm
    · rw [List.getElem_append_left hl] at e
      rw [List.getElem_append_left hm] at e'
      exact h.inj i j hl hm k e e'
    · have : j = us.length := by simp at hj; omega
      subst this
      rw [List.getElem_append_left hl] at e
      simp only [List.getElem_concat_length] at e'
      have := oldlt i hl k e
      have := hun k e'
      omega
    · have : i = us.length := by simp at hi; omega
      subst this
      rw [List.getElem_append_left hm] at e'
      simp only [List.getElem_concat_length] at e
      have := oldlt j hm k e'
      have := hun k e
      omega
    · simp at hi hj; omega
end TopB
/-- append of one row -/
theorem wpList_append_tp (w : World) {ops : Array Oper} {rest : List Oper} {o : Oper} {a : Act} {Q : Exit → Act → World → Prop} (hgd : o.guard = none) (s x : Operand)
    (ho : o.op = .call { callee := .builtin .append, args := #[s, x], argTypes := #[22, 22] })
    (base : Nat) (v : Value) (us : List Value) (hs : a.eval s = v) (hown : w.ownsRow base 35 1 v us.length us) (hl : us.length ≤ 1000000)
    (b off c : Nat) (A : Option Addr) (L C : Nat) (hx : a.eval x = .slice (some ⟨b, off, none⟩) 1 c) (hc : w.cell? ⟨b, off, none⟩ = some (.slice A L C)) (hbase : base ≤ w.heap.size)
    (h : ∀ v' w', w'.ownsRow base 35 1 v' (us.length + 1) (us ++ [.slice A L C]) → w.grownBy w' v.ownBlock → wpList Try.prog ops Q rest (a.put o.dst v') w') : wpList Try.prog ops Q (o :: rest) a w := by
  obtain ⟨i0, hi, hz0, hz1, hz2⟩ := info_parts infoRow
  refine wpList_append_opt w hgd s x 22 ho base 35 i0 (.slice none 0 0) 24 Try.underlying22 hi hz0 hz1 hz2 rfl v us.length us hs hown (some ⟨b, off, none⟩) 1 c [.slice A L C] hx (fun h => by cases h) rfl (fun ad had j u hu => ?_) (fun u hu => by rw [List.mem_singleton.1 hu]; rfl) (by unfold maxLen; omega) (by omega) hbase h
  cases had
  have hj : j = 0 := by
    rcases Nat.eq_zero_or_pos j with h0 | h0
    · exact h0
    · rw [List.getElem?_eq_none (by simp; omega)] at hu; cases hu
  subst hj
  cases hu
  exact hc
end Go.Proofs.Ytflcnghjhgfkfaa
