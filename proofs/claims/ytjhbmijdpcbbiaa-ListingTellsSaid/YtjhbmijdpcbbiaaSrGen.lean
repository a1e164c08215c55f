/- A list sorted by an order that is told by a question, stably, as insertion from behind makes it; and the first of each run of those that are alike. No program. -/
import Derived.Test.YtjhbmijdpcbbiaaPtMath
namespace Go.Proofs.Ytjhbmijdpcbbiaa.Sr
variable {α β : Type}

/-- from behind, ahead of all that it is less than -/
def insL (lt : α → α → Bool) (x : α) : List α → List α
  | [] => [x]
  | b :: r => if lt x b = true then b :: insL lt x r else x :: b :: r
def insR (lt : α → α → Bool) (x : α) (a : List α) : List α := (insL lt x a.reverse).reverse
def isort (lt : α → α → Bool) (l : List α) : List α := l.foldl (fun acc x => insR lt x acc) []
theorem isort_snoc (lt : α → α → Bool) (l : List α) (x : α) : isort lt (l ++ [x]) = insR lt x (isort lt l) := by unfold isort; rw [List.foldl_append]; rfl
theorem insL_perm (lt : α → α → Bool) (x : α) : ∀ l : List α, (insL lt x l).Perm (x :: l)
  | [] => List.Perm.refl _
  | b :: r => by
    rw [insL]
    split
    · exact ((insL_perm lt x r).cons b).trans (List.Perm.swap x b r)
    · exact List.Perm.refl _
theorem insR_perm (lt : α → α → Bool) (x : α) (l : List α) : (insR lt x l).Perm (x :: l) := by
  unfold insR
  exact (List.reverse_perm _).trans ((insL_perm lt x l.reverse).trans ((List.reverse_perm l).cons x))
theorem isort_perm (lt : α → α → Bool) (l : List α) : (isort lt l).Perm l := by
  have key : ∀ n (l : List α), l.length = n → (isort lt l).Perm l := by
    intro n
    induction n with
    | zero => intro l hl; rw [List.length_eq_zero_iff.1 hl]; exact List.Perm.refl _
    | succ n ih =>
      intro l hl
      obtain ⟨l', x, rfl⟩ : ∃ l' x, l = l' ++ [x] := ⟨l.dropLast, l.getLast (by intro e; rw [e] at hl; cases hl), (List.dropLast_concat_getLast _).symm⟩
      rw [isort_snoc]
      exact (insR_perm lt x _).trans (((ih l' (by simpa using hl)).cons x).trans (List.perm_append_comm (l₁ := [x]) (l₂ := l')))
  exact key l.length l rfl
theorem isort_len (lt : α → α → Bool) (l : List α) : (isort lt l).length = l.length := (isort_perm lt l).length_eq
theorem mem_isort {lt : α → α → Bool} {l : List α} {y : α} : y ∈ isort lt l ↔ y ∈ l := (isort_perm lt l).mem_iff
/-- the place is told by what stands ahead of it and behind -/
theorem insR_at {lt : α → α → Bool} {x : α} {u v : List α} (hv : ∀ b ∈ v, lt x b = true) (hu : ∀ b, u.getLast? = some b → lt x b = false) : insR lt x (u ++ v) = u ++ x :: v := by
  have key : ∀ r : List α, (∀ b ∈ r, lt x b = true) → ∀ s, insL lt x (r ++ s) = r ++ insL lt x s := by
    intro r
    induction r with
    | nil => intro _ s; rfl
    | cons b r ih =>
      intro h s
      rw [List.cons_append, insL, if_pos (h b List.mem_cons_self), ih (fun c hc => h c (List.mem_cons_of_mem _ hc))]; rfl
  unfold insR
  rw [List.reverse_append, key v.reverse (fun b hb => hv b (List.mem_reverse.1 hb))]
  have e : insL lt x u.reverse = x :: u.reverse := by
    cases h : u.reverse with
    | nil => rfl
    | cons b r =>
      have hb : u.getLast? = some b := by rw [← List.head?_reverse, h]; rfl
      rw [insL, if_neg (by rw [hu b hb]; decide)]
  rw [e]; simp
/-- nothing behind is less than what is ahead -/
def Asc (lt : α → α → Bool) (l : List α) : Prop := l.Pairwise fun a b => lt b a = false
/-- an order on these -/
structure Ord (lt : α → α → Bool) (S : α → Prop) : Prop where
  asym : ∀ a b, S a → S b → lt a b = true → lt b a = false
  tr : ∀ a b c, S a → S b → S c → lt a b = false → lt b c = false → lt a c = false
theorem insR_asc {lt : α → α → Bool} {S : α → Prop} (O : Ord lt S) {x : α} (hx : S x) {l : List α} (hS : ∀ a ∈ l, S a) (h : Asc lt l) : Asc lt (insR lt x l) := by
  have key : ∀ r : List α, (∀ a ∈ r, S a) → r.Pairwise (fun a b => lt a b = false) → (insL lt x r).Pairwise (fun a b => lt a b = false) := by
    intro r
    induction r with
    | nil => intro _ _; exact List.pairwise_singleton _ _
    | cons b r ih =>
      intro hS h
      obtain ⟨h1, h2⟩ := List.pairwise_cons.1 h
      rw [insL]
      split
      · rename_i hlt
        refine List.pairwise_cons.2 ⟨fun c hc => ?_, ih (fun a ha => hS a (List.mem_cons_of_mem _ ha)) h2⟩
        rcases List.mem_cons.1 ((insL_perm lt x r).mem_iff.1 hc) with rfl | hc
        · exact O.asym _ _ hx (hS b List.mem_cons_self) hlt
        · exact h1 c hc
      · rename_i hlt
        have hlt' : lt x b = false := by simpa using hlt
        refine List.pairwise_cons.2 ⟨fun c hc => ?_, h⟩
        rcases List.mem_cons.1 hc with rfl | hc
        · exact hlt'
        · exact O.tr x b c hx (hS b List.mem_cons_self) (hS c (List.mem_cons_of_mem _ hc)) hlt' (h1 c hc)
  unfold Asc insR
  rw [List.pairwise_reverse]
  exact key _ (fun a ha => hS a (List.mem_reverse.1 ha)) (List.pairwise_reverse.2 h)
theorem isort_asc {lt : α → α → Bool} {S : α → Prop} (O : Ord lt S) {l : List α} (hS : ∀ a ∈ l, S a) : Asc lt (isort lt l) := by
  have key : ∀ n (l : List α), l.length = n → (∀ a ∈ l, S a) → Asc lt (isort lt l) := by
    intro n
    induction n with
    | zero => intro l hl _; rw [List.length_eq_zero_iff.1 hl]; exact List.Pairwise.nil
    | succ n ih =>
      intro l hl hS
      obtain ⟨l', x, rfl⟩ : ∃ l' x, l = l' ++ [x] := ⟨l.dropLast, l.getLast (by intro e; rw [e] at hl; cases hl), (List.dropLast_concat_getLast _).symm⟩
      rw [isort_snoc]
      exact insR_asc O (hS x (by simp)) (fun a ha => hS a (List.mem_append_left _ (mem_isort.1 ha))) (ih l' (by simpa using hl) fun a ha => hS a (List.mem_append_left _ ha))
  exact key l.length l rfl hS
/-- in whichever order they come -/
theorem isort_of_perm {lt : α → α → Bool} {S : α → Prop} (O : Ord lt S) {l l' : List α} (hp : l.Perm l') (hS : ∀ a ∈ l, S a) (hanti : ∀ a ∈ l, ∀ b ∈ l, lt a b = false → lt b a = false → a = b) : isort lt l = isort lt l' := by
  refine List.Perm.eq_of_pairwise (le := fun a b => lt b a = false) (fun a b ha hb h1 h2 => hanti a (mem_isort.1 ha) b (hp.mem_iff.2 (mem_isort.1 hb)) h2 h1) (isort_asc O hS) (isort_asc O fun a ha => hS a (hp.mem_iff.2 ha)) ((isort_perm lt l).trans (hp.trans (isort_perm lt l').symm))
/-- each that is not like the one ahead of it -/
def comp (e : α → α → Bool) : α → List α → List α
  | _, [] => []
  | p, a :: l => if e a p = true then comp e a l else a :: comp e a l
def compact (e : α → α → Bool) : List α → List α
  | [] => []
  | a :: l => a :: comp e a l
/-- the last -/
def lk : α → List α → α
  | p, [] => p
  | _, a :: l => lk a l
theorem comp_snoc {e : α → α → Bool} {x : α} : ∀ {l : List α} {p : α}, comp e p (l ++ [x]) = comp e p l ++ (if e x (lk p l) = true then [] else [x])
  | [], p => by
    rw [List.nil_append, comp, comp, comp, lk]
    split <;> rfl
  | a :: l, p => by
    rw [List.cons_append, comp, comp, lk]
    split
    · rw [comp_snoc]
    · rw [comp_snoc]; rfl
theorem lk_last : ∀ {l : List α} {p : α} {j : Nat} (_ : j + 1 = l.length) (hj : j < l.length), lk p l = l[j]
  | [], _, j, h, _ => by cases h
  | [a], _, j, h, _ => by
    have e : j = 0 := by simpa using h
    subst e; rfl
  | a :: b :: l, _, j, h, hj => by
    obtain ⟨j, rfl⟩ : ∃ i, j = i + 1 := ⟨j - 1, by simp at h; omega⟩
    rw [lk]
    exact lk_last (by simpa using h) (by simpa using hj)
theorem compact_take {e : α → α → Bool} {l : List α} {k : Nat} (hk : k + 1 < l.length) : compact e (l.take (k + 1 + 1)) = compact e (l.take (k + 1)) ++ (if e l[k + 1] l[k] = true then [] else [l[k + 1]]) := by
  rw [List.take_succ_eq_append_getElem hk]
  cases l with
  | nil => simp at hk
  | cons a m =>
    rw [List.take_succ_cons, List.cons_append, compact, compact, comp_snoc, List.cons_append]
    have e : lk a (m.take k) = ((a :: m)[k]'(by omega)) := by
      cases k with
      | zero => rfl
      | succ k =>
        have hk' : k < m.length := by simpa using (show k + 1 < (a :: m).length by omega)
        have h1 : k + 1 = (m.take (k + 1)).length := by rw [List.length_take]; omega
        rw [lk_last (p := a) h1 (by omega), List.getElem_take]; rfl
    rw [e]
theorem compact_one {e : α → α → Bool} {l : List α} (h : 0 < l.length) : compact e (l.take 1) = l.take 1 := by
  cases l with
  | nil => simp at h
  | cons a m => rfl
theorem compact_all {e : α → α → Bool} {l : List α} {k : Nat} (h : l.length ≤ k) : compact e (l.take k) = compact e l := by rw [List.take_of_length_le h]
theorem compact_le (e : α → α → Bool) (l : List α) : (compact e l).length ≤ l.length := by
  have key : ∀ (l : List α) p, (comp e p l).length ≤ l.length := by
    intro l
    induction l with
    | nil => intro p; exact Nat.le_refl _
    | cons a l ih =>
      intro p
      rw [comp]
      have := ih a
      split
      · rw [List.length_cons]; omega
      · rw [List.length_cons, List.length_cons]; omega
  cases l with
  | nil => exact Nat.le_refl _
  | cons a l => rw [compact, List.length_cons, List.length_cons]; have := key l a; omega
theorem mem_compact {e : α → α → Bool} {l : List α} {x : α} (h : x ∈ compact e l) : x ∈ l := by
  have key : ∀ (l : List α) p, x ∈ comp e p l → x ∈ l := by
    intro l
    induction l with
    | nil => intro p h; exact h
    | cons a l ih =>
      intro p h
      rw [comp] at h
      split at h
      · exact List.mem_cons_of_mem _ (ih _ h)
      · rcases List.mem_cons.1 h with rfl | h
        · exact List.mem_cons_self
        · exact List.mem_cons_of_mem _ (ih _ h)
  cases l with
  | nil => exact h
  | cons a l =>
    rw [compact] at h
    rcases List.mem_cons.1 h with rfl | h
    · exact List.mem_cons_self
    · exact List.mem_cons_of_mem _ (key _ _ h)
/-- what sorting and compaction make of values is what they make of what the values stand for -/
theorem insL_map {lt : α → α → Bool} {lt' : β → β → Bool} {g : α → β} (h : ∀ a b, lt' (g a) (g b) = lt a b) (x : α) : ∀ l : List α, (insL lt x l).map g = insL lt' (g x) (l.map g)
  | [] => rfl
  | b :: r => by
    rw [insL, List.map_cons, insL, h]
    split
    · rw [List.map_cons, insL_map h]
    · rfl
theorem insR_map {lt : α → α → Bool} {lt' : β → β → Bool} {g : α → β} (h : ∀ a b, lt' (g a) (g b) = lt a b) (x : α) (l : List α) : (insR lt x l).map g = insR lt' (g x) (l.map g) := by
  unfold insR
  rw [List.map_reverse, insL_map h, List.map_reverse]
theorem isort_map {lt : α → α → Bool} {lt' : β → β → Bool} {g : α → β} (h : ∀ a b, lt' (g a) (g b) = lt a b) (l : List α) : (isort lt l).map g = isort lt' (l.map g) := by
  have key : ∀ (l acc : List α), (l.foldl (fun acc x => insR lt x acc) acc).map g = (l.map g).foldl (fun acc x => insR lt' x acc) (acc.map g) := by
    intro l
    induction l with
    | nil => intro acc; rfl
    | cons x l ih => intro acc; rw [List.foldl_cons, List.map_cons, List.foldl_cons, ih, insR_map h]
  exact key l []
theorem comp_map {e : α → α → Bool} {e' : β → β → Bool} {g : α → β} (h : ∀ a b, e' (g a) (g b) = e a b) : ∀ (l : List α) (p : α), (comp e p l).map g = comp e' (g p) (l.map g)
  | [], _ => rfl
  | a :: l, p => by
    rw [comp, List.map_cons, comp, h]
    split
    · exact comp_map h l a
    · rw [List.map_cons, comp_map h l a]
theorem compact_map {e : α → α → Bool} {e' : β → β → Bool} {g : α → β} (h : ∀ a b, e' (g a) (g b) = e a b) (l : List α) : (compact e l).map g = compact e' (l.map g) := by
  cases l with
  | nil => rfl
  | cons a l => rw [compact, List.map_cons, comp_map h, List.map_cons, compact]
end Go.Proofs.Ytjhbmijdpcbbiaa.Sr
