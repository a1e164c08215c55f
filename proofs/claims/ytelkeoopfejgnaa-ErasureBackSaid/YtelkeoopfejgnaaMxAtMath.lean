/- Plain mathematics: places below n, all unlike, each the first that is free from a number on. -/
import Derived.Test.YtelkeoopfejgnaaMxMath
namespace Go.Proofs.Ytelkeoopfejgnaa.Mx

/-- the first free place from k on, going round, f places looked at -/
def nf (had : Nat → Bool) (n : Nat) : Nat → Nat → Nat
  | 0, k => k
  | f + 1, k => if had k = true then nf had n f ((k + 1) % n) else k
/-- what is taken, and the last one, behind j numbers -/
def plc (q : Nat → Nat) (n : Nat) : Nat → (Nat → Bool) × Nat
  | 0 => (fun _ => false, 0)
  | j + 1 => (fun x => if x = nf (plc q n j).1 n n (q j % n) then true else (plc q n j).1 x, nf (plc q n j).1 n n (q j % n))
def place (q : Nat → Nat) (n j : Nat) : Nat := (plc q n (j + 1)).2
def cnt (had : Nat → Bool) : Nat → Nat
  | 0 => 0
  | n + 1 => cnt had n + if had n = true then 1 else 0
theorem cnt_le (had : Nat → Bool) (n : Nat) : cnt had n ≤ n := by
  induction n with
  | zero => exact Nat.le_refl _
  | succ n ih => simp only [cnt]; split <;> omega
theorem cnt_free {had : Nat → Bool} {n : Nat} (h : cnt had n < n) : ∃ x, x < n ∧ had x = false := by
  induction n with
  | zero => omega
  | succ n ih =>
    by_cases e : had n = true
    · simp only [cnt, if_pos e] at h
      obtain ⟨x, hx, hf⟩ := ih (by omega)
      exact ⟨x, by omega, hf⟩
    · exact ⟨n, by omega, by simpa using e⟩
theorem cnt_congr {had had' : Nat → Bool} {n : Nat} (h : ∀ x, x < n → had x = had' x) : cnt had n = cnt had' n := by
  induction n with
  | zero => rfl
  | succ n ih => simp only [cnt, ih (fun x hx => h x (by omega)), h n (by omega)]
theorem cnt_set {had : Nat → Bool} {n k : Nat} (hk : k < n) (hf : had k = false) : cnt (fun x => if x = k then true else had x) n = cnt had n + 1 := by
  induction n with
  | zero => omega
  | succ n ih =>
    simp only [cnt]
    by_cases e : n = k
    · subst e
      rw [cnt_congr (had' := had) (fun x hx => if_neg (by omega))]
      simp [hf]
    · rw [ih (by omega)]
      simp only [if_neg e]
      omega
/-- a place that is free lies ahead -/
def reach (had : Nat → Bool) (n f k : Nat) : Prop := ∃ s, s < f ∧ had ((k + s) % n) = false
theorem reach_start {had : Nat → Bool} {n k : Nat} (hn : 0 < n) (hk : k < n) (h : cnt had n < n) : reach had n n k := by
  obtain ⟨x, hx, hf⟩ := cnt_free h
  refine ⟨(x + n - k) % n, Nat.mod_lt _ hn, ?_⟩
  rw [Nat.add_mod_mod, show k + (x + n - k) = x + n by omega, Nat.add_mod_right, Nat.mod_eq_of_lt hx]
  exact hf
theorem reach_pos {had : Nat → Bool} {n f k : Nat} (h : reach had n f k) : 0 < f := by
  obtain ⟨s, hs, _⟩ := h; omega
theorem reach_next {had : Nat → Bool} {n f k : Nat} (hk : k < n) (h : reach had n (f + 1) k) (ht : had k = true) : reach had n f ((k + 1) % n) := by
  obtain ⟨s, hs, hf⟩ := h
  cases s with
  | zero => rw [Nat.add_zero, Nat.mod_eq_of_lt hk, ht] at hf; cases hf
  | succ s => exact ⟨s, by omega, by rw [Nat.mod_add_mod, show k + 1 + s = k + (s + 1) by omega]; exact hf⟩
theorem nf_free {had : Nat → Bool} {n : Nat} (hn : 0 < n) : ∀ f k, k < n → reach had n f k → nf had n f k < n ∧ had (nf had n f k) = false := by
  intro f
  induction f with
  | zero => intro k _ h; have := reach_pos h; omega
  | succ f ih =>
    intro k hk h
    simp only [nf]
    by_cases e : had k = true
    · rw [if_pos e]; exact ih _ (Nat.mod_lt _ hn) (reach_next hk h e)
    · rw [if_neg e]; exact ⟨hk, by simpa using e⟩
theorem plc_cnt {q : Nat → Nat} {n : Nat} (hn : 0 < n) : ∀ j, j ≤ n → cnt (plc q n j).1 n = j := by
  intro j
  induction j with
  | zero =>
    intro _
    have : ∀ m, cnt (fun _ => false) m = 0 := by
      intro m
      induction m with
      | zero => rfl
      | succ m ih => simp [cnt, ih]
    exact this n
  | succ j ih =>
    intro hj
    have h := ih (by omega)
    have hr := nf_free hn n (q j % n) (Nat.mod_lt _ hn) (reach_start hn (Nat.mod_lt _ hn) (by omega : cnt (plc q n j).1 n < n))
    show cnt (fun x => if x = nf (plc q n j).1 n n (q j % n) then true else (plc q n j).1 x) n = j + 1
    rw [cnt_set hr.1 hr.2, h]
theorem plc_reach {q : Nat → Nat} {n j : Nat} (hj : j < n) : reach (plc q n j).1 n n (q j % n) :=
  reach_start (by omega) (Nat.mod_lt _ (by omega)) (by rw [plc_cnt (by omega) j (by omega)]; exact hj)
theorem place_lt {q : Nat → Nat} {n j : Nat} (hj : j < n) : place q n j < n ∧ (plc q n j).1 (place q n j) = false :=
  nf_free (by omega) n _ (Nat.mod_lt _ (by omega)) (plc_reach hj)
theorem plc_had {q : Nat → Nat} {n : Nat} (i : Nat) : ∀ j, i < j → (plc q n j).1 (place q n i) = true := by
  intro j
  induction j with
  | zero => intro h; omega
  | succ j ih =>
    intro h
    show (if place q n i = nf (plc q n j).1 n n (q j % n) then true else (plc q n j).1 (place q n i)) = true
    by_cases e : i = j
    · subst e; exact if_pos rfl
    · split
      · rfl
      · exact ih (by omega)
theorem place_ne {q : Nat → Nat} {n i j : Nat} (hj : j < n) (h : i < j) : place q n i ≠ place q n j := by
  intro e
  have h1 := plc_had (q := q) (n := n) i j h
  have h2 := (place_lt (q := q) hj).2
  rw [← e, h1] at h2
  cases h2
theorem place_apart {q : Nat → Nat} {n i j : Nat} (hi : i < n) (hj : j < n) (h : i ≠ j) : place q n i ≠ place q n j := by
  rcases Nat.lt_or_gt_of_ne h with h' | h'
  · exact place_ne hj h'
  · exact fun e => place_ne hi h' e.symm
end Go.Proofs.Ytelkeoopfejgnaa.Mx
