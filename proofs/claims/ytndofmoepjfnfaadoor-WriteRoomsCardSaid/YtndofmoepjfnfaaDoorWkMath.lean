/- Chapter 20's steps, tape by tape. No program. -/
import Derived.Test.YtndofmoepjfnfaaDoorWrMath
namespace Go.Proofs.YtndofmoepjfnfaaDoor.Wk
open Pt (Tx)

/-- the steps of which step k is cut behind so many bytes -/
def cutOff (l : List (Int × Tx)) (k : Nat) (bytes : Int) : List (Int × Tx) := l.take k ++ (match l[k]? with | some x => [(x.1, x.2.take (min (max bytes 0) (x.2.length : Int)).toNat)] | none => [])
theorem cutOff_len {l : List (Int × Tx)} {k : Nat} (h : k < l.length) (bytes : Int) : (cutOff l k bytes).length = k + 1 := by
  unfold cutOff
  rw [List.getElem?_eq_getElem h, List.length_append, List.length_take]
  show min k l.length + 1 = k + 1
  omega
theorem go_at {stop bytes : Int} : ∀ (l : List (Int × Tx)) (i : Nat) (ts : List St.T) (k : Nat) (_ : k < l.length), ((i + k : Nat) : Int) = stop → Wr.go stop bytes i ts l = ((cutOff l k bytes).foldl (fun ts x => Wr.step ts x.1 x.2) ts, true)
  | [], _, _, k, hk, _ => absurd hk (by simp)
  | (q, x) :: l, i, ts, 0, _, h => by rw [Wr.go, if_pos (by omega)]; rfl
  | (q, x) :: l, i, ts, k + 1, hk, h => by
    have hk' : k < l.length := by simpa using hk
    rw [Wr.go, if_neg (by omega), go_at l (i + 1) _ k hk' (by omega)]
    rfl
theorem go_far {stop bytes : Int} : ∀ (l : List (Int × Tx)) (i : Nat) (ts : List St.T), (stop < (i : Int) ∨ ((i + l.length : Nat) : Int) ≤ stop) → Wr.go stop bytes i ts l = (l.foldl (fun ts x => Wr.step ts x.1 x.2) ts, false)
  | [], _, _, _ => rfl
  | (q, x) :: l, i, ts, h => by
    rw [List.length_cons] at h
    rw [Wr.go, if_neg (by omega), go_far l (i + 1) _ (by omega)]
    rfl
/-- one block comes behind a tape's -/
def one (t : St.T) (b : Tx) : St.T := if Tp.loadE t.label t.cap t.blocks t.lost = 0 ∧ (t.blocks.length : Int) < t.cap ∧ Tp.okB b = true then ⟨t.label, t.cap, t.blocks ++ [b], t.lost⟩ else t
theorem step_at (ts : List St.T) (k : Int) (b : Tx) (i : Nat) : (Wr.step ts k b)[i]? = (ts[i]?).map fun t => if k = (i : Int) then one t b else t := by
  have same : ¬ k = (i : Int) → ts[i]? = (ts[i]?).map fun t => if k = (i : Int) then one t b else t := fun e => by
    cases ts[i]? with
    | none => rfl
    | some t => simp [e]
  unfold Wr.step
  by_cases hk : k < 0
  · rw [if_pos hk]
    exact same (by omega)
  · rw [if_neg hk]
    by_cases e : k = (i : Int)
    · subst e
      rw [Int.toNat_natCast]
      cases h : ts[i]? with
      | none => exact h
      | some t =>
        simp only [Option.map_some, if_true]
        unfold one
        split
        · rw [List.getElem?_set_self (List.getElem?_eq_some_iff.1 h).1]
        · exact h
    · have hne : k.toNat ≠ i := by omega
      rw [← same e]
      split
      · rfl
      · split
        · rw [List.getElem?_set_ne hne]
        · rfl
/-- the blocks for one tape -/
def mine (l : List (Int × Tx)) (i : Nat) : List Tx := (l.filter fun x => x.1 == (i : Int)).map (·.2)
theorem mine_snoc (l : List (Int × Tx)) (x : Int × Tx) (i : Nat) : mine (l ++ [x]) i = if x.1 = (i : Int) then mine l i ++ [x.2] else mine l i := by
  unfold mine
  rw [List.filter_append, List.map_append]
  by_cases h : x.1 = (i : Int)
  · rw [if_pos h, List.filter_cons_of_pos (by simpa using h)]; rfl
  · rw [if_neg h, List.filter_cons_of_neg (by simpa using h)]; simp
theorem mine_mem {l : List (Int × Tx)} {i : Nat} {s : Tx} (h : s ∈ mine l i) : ∃ x ∈ l, x.2 = s := by
  unfold mine at h
  obtain ⟨x, hx, rfl⟩ := List.mem_map.1 h
  exact ⟨x, (List.mem_filter.1 hx).1, rfl⟩
theorem mine_len (l : List (Int × Tx)) (i : Nat) : (mine l i).length ≤ l.length := by
  unfold mine; rw [List.length_map]; exact List.length_filter_le _ _
def ap (t : St.T) (xs : List Tx) : St.T := xs.foldl one t
theorem fold_at : ∀ (l : List (Int × Tx)) (ts : List St.T) (i : Nat), (l.foldl (fun ts x => Wr.step ts x.1 x.2) ts)[i]? = (ts[i]?).map fun t => ap t (mine l i)
  | [], ts, i => by cases h : ts[i]? <;> simp [h, mine, ap]
  | x :: l, ts, i => by
    rw [List.foldl_cons, fold_at l, step_at]
    cases ts[i]? with
    | none => rfl
    | some t =>
      simp only [Option.map_some]
      unfold mine ap
      by_cases h : x.1 = (i : Int)
      · rw [if_pos h, List.filter_cons_of_pos (by simpa using h)]; rfl
      · rw [if_neg h, List.filter_cons_of_neg (by simpa using h)]
/-- all tapes behind all steps -/
theorem fold_is (l : List (Int × Tx)) (ts : List St.T) : l.foldl (fun ts x => Wr.step ts x.1 x.2) ts = ts.mapIdx fun i t => ap t (mine l i) := by
  apply List.ext_getElem?
  intro i
  rw [fold_at, List.getElem?_mapIdx]
theorem one_no {t : St.T} (h : Tp.loadE t.label t.cap t.blocks t.lost ≠ 0) (b : Tx) : one t b = t := if_neg fun hh => h hh.1
theorem ap_no {t : St.T} (h : Tp.loadE t.label t.cap t.blocks t.lost ≠ 0) : ∀ xs : List Tx, ap t xs = t
  | [] => rfl
  | b :: xs => by
    unfold ap
    rw [List.foldl_cons, one_no h]
    exact ap_no h xs
/-- one block behind others, if it can be -/
def more (cap : Int) (cs : List Tx) (s : Tx) : List Tx := if s.length < 1 ∨ 94 < s.length then cs else if cap ≤ (cs.length : Int) then cs else cs ++ [s]
theorem load_one {lab cap : Int} {bs : List Tx} {b : Tx} (h : Tp.loadE lab cap bs false = 0) : Tp.loadE lab cap (more cap bs b) false = 0 := by
  unfold more
  split
  · exact h
  · split
    · exact h
    · rename_i h1 h2
      have hr := (Wr.load_ok (t := ⟨lab, cap, bs, false⟩) h).1
      have hr' : Tp.right lab cap bs = true := hr
      unfold Tp.loadE
      have : Tp.right lab cap (bs ++ [b]) = true := by
        unfold Tp.right at hr' ⊢
        simp only [Bool.and_eq_true, decide_eq_true_eq, List.all_append, List.all_cons, List.all_nil, Bool.and_true, List.length_append, List.length_singleton] at hr' ⊢
        obtain ⟨⟨⟨⟨a1, a2⟩, a3⟩, a4⟩, a5⟩ := hr'
        refine ⟨⟨⟨⟨a1, a2⟩, a3⟩, by omega⟩, a5, ?_⟩
        unfold Tp.okB
        simp only [Bool.and_eq_true, decide_eq_true_eq]
        omega
      rw [this]; rfl
theorem one_ok {lab cap : Int} {bs : List Tx} {b : Tx} (h : Tp.loadE lab cap bs false = 0) : one ⟨lab, cap, bs, false⟩ b = ⟨lab, cap, more cap bs b, false⟩ := by
  unfold one more
  dsimp only
  by_cases h1 : b.length < 1 ∨ 94 < b.length
  · rw [if_pos h1, if_neg]
    intro hh
    have := hh.2.2
    unfold Tp.okB at this
    simp only [Bool.and_eq_true, decide_eq_true_eq] at this
    omega
  · rw [if_neg h1]
    by_cases h2 : cap ≤ (bs.length : Int)
    · rw [if_pos h2, if_neg]
      intro hh
      have := hh.2.1
      omega
    · rw [if_neg h2, if_pos]
      refine ⟨h, by omega, ?_⟩
      unfold Tp.okB
      simp only [Bool.and_eq_true, decide_eq_true_eq]
      omega
theorem ap_ok {lab cap : Int} : ∀ {xs : List Tx} {bs : List Tx}, Tp.loadE lab cap bs false = 0 → ap ⟨lab, cap, bs, false⟩ xs = ⟨lab, cap, xs.foldl (more cap) bs, false⟩
  | [], _, _ => rfl
  | b :: xs, bs, h => by
    unfold ap
    rw [List.foldl_cons, one_ok h, List.foldl_cons]
    exact ap_ok (xs := xs) (load_one h)
theorem ap_label (t : St.T) : ∀ xs : List Tx, (ap t xs).label = t.label ∧ (ap t xs).cap = t.cap ∧ (ap t xs).lost = t.lost := by
  have h1 : ∀ (t : St.T) (b : Tx), (one t b).label = t.label ∧ (one t b).cap = t.cap ∧ (one t b).lost = t.lost := fun t b => by
    unfold one; split <;> exact ⟨rfl, rfl, rfl⟩
  intro xs
  induction xs generalizing t with
  | nil => exact ⟨rfl, rfl, rfl⟩
  | cons b xs ih =>
    obtain ⟨a, b', c⟩ := ih (one t b)
    obtain ⟨d, e, f⟩ := h1 t b
    exact ⟨a.trans d, b'.trans e, c.trans f⟩
end Go.Proofs.YtndofmoepjfnfaaDoor.Wk
