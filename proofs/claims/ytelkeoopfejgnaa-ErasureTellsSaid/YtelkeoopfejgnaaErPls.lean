/- Plain mathematics of chapter 3, no program: the places of a choice in their order, and what a decoding comes to. -/
import Derived.Test.YtelkeoopfejgnaaErMath
namespace Go.Proofs.Ytelkeoopfejgnaa.Mx

/-- the places below n that are chosen, in their order -/
def pls (P : Nat → Bool) (n : Nat) : List Nat := (List.range n).filter P
def plsN (P : Nat → Bool) (n : Nat) : Nat := (pls P n).length
def plsAt (P : Nat → Bool) (n j : Nat) : Nat := (pls P n).getD j 0
theorem pls_yes {P : Nat → Bool} {n : Nat} (h : P n = true) : pls P (n + 1) = pls P n ++ [n] := by
  unfold pls; rw [List.range_succ, List.filter_append]; simp [h]
theorem pls_no {P : Nat → Bool} {n : Nat} (h : P n = false) : pls P (n + 1) = pls P n := by
  unfold pls; rw [List.range_succ, List.filter_append]; simp [h]
theorem pls_congr {P P' : Nat → Bool} {n : Nat} (h : ∀ x, x < n → P x = P' x) : pls P n = pls P' n := by
  unfold pls
  exact List.filter_congr fun x hx => by rw [h x (List.mem_range.1 hx)]
theorem plsAt_get {P : Nat → Bool} {n j : Nat} (hj : j < plsN P n) : (pls P n)[j]? = some (plsAt P n j) := by
  unfold plsN at hj
  unfold plsAt
  rw [List.getD_eq_getElem?_getD, List.getElem?_eq_getElem hj]; rfl
theorem plsAt_eq {P : Nat → Bool} {n j : Nat} (hj : j < (pls P n).length) : plsAt P n j = (pls P n)[j] := by
  unfold plsAt
  rw [List.getD_eq_getElem?_getD, List.getElem?_eq_getElem hj]; rfl
theorem plsAt_in {P : Nat → Bool} {n j : Nat} (hj : j < plsN P n) : plsAt P n j < n ∧ P (plsAt P n j) = true := by
  have h := List.mem_of_getElem? (plsAt_get hj)
  unfold pls at h
  rw [List.mem_filter, List.mem_range] at h
  exact h
theorem plsAt_up {P : Nat → Bool} {n s t : Nat} (hst : s < t) (ht : t < plsN P n) : plsAt P n s < plsAt P n t := by
  have h : (pls P n).Pairwise (· < ·) := List.Pairwise.filter _ List.pairwise_lt_range
  have hs : s < (pls P n).length := Nat.lt_trans hst ht
  rw [plsAt_eq hs, plsAt_eq ht]
  exact List.pairwise_iff_getElem.1 h s t hs ht hst
theorem pls_all {P : Nat → Bool} {n x : Nat} (hx : x < n) (h : P x = true) : ∃ j, j < plsN P n ∧ plsAt P n j = x := by
  have hm : x ∈ pls P n := by unfold pls; rw [List.mem_filter, List.mem_range]; exact ⟨hx, h⟩
  obtain ⟨j, hj, e⟩ := List.getElem_of_mem hm
  exact ⟨j, hj, by rw [plsAt_eq hj, e]⟩
theorem plsN_cnt (P : Nat → Bool) (n : Nat) : plsN P n = cnt P n := by
  induction n with
  | zero => rfl
  | succ n ih =>
    unfold plsN at ih ⊢
    cases h : P n with
    | true => rw [pls_yes h, List.length_append, ih]; simp [cnt, h]
    | false => rw [pls_no h, ih]; simp [cnt, h]
theorem plsN_le (P : Nat → Bool) (n : Nat) : plsN P n ≤ n := by rw [plsN_cnt]; exact cnt_le P n
theorem plsN_zero {P : Nat → Bool} {n : Nat} (h : plsN P n = 0) : ∀ x, x < n → P x = false := by
  rw [plsN_cnt] at h; exact cnt_zero n h
/-- rising places are at least their number -/
theorem up_ge {at_ : Nat → Nat} {n : Nat} (hup : ∀ s t, s < t → t < n → at_ s < at_ t) : ∀ t, t < n → t ≤ at_ t := by
  intro t
  induction t with
  | zero => intro _; exact Nat.zero_le _
  | succ t ih =>
    intro ht
    have h1 := ih (by omega)
    have h2 := hup t (t + 1) (by omega) ht
    omega
theorem up_le {at_ : Nat → Nat} {n p : Nat} (hup : ∀ s t, s < t → t < n → at_ s < at_ t) (hlt : ∀ t, t < n → at_ t < n + p) : ∀ k t, t + k + 1 = n → at_ t ≤ t + p := by
  intro k
  induction k with
  | zero =>
    intro t ht
    have := hlt t (by omega)
    omega
  | succ k ih =>
    intro t ht
    have h1 := ih (t + 1) (by omega)
    have h2 := hup t (t + 1) (by omega) (by omega)
    omega
/-- without parity each is there -/
theorem up_none {at_ : Nat → Nat} {n : Nat} (hup : ∀ s t, s < t → t < n → at_ s < at_ t) (hlt : ∀ t, t < n → at_ t < n) {t : Nat} (ht : t < n) : at_ t = t := by
  have h1 := up_ge hup t ht
  have h2 := up_le (p := 0) hup hlt (n - t - 1) t (by omega)
  omega
/-- the inverse -/
def invOf (n : Nat) (E : Mat) : Mat := match gjs n E n with
  | some (_, V) => V
  | none => one
theorem invOf_some {n : Nat} {E R V : Mat} (h : gjs n E n = some (R, V)) : invOf n E = V := by unfold invOf; rw [h]
theorem mv_inv_left {n : Nat} {E R V : Mat} (h : gjs n E n = some (R, V)) (v : Nat → Fe) {x : Nat} (hx : x < n) : mv n (invOf n E) (mv n E v) x = v x := by
  rw [invOf_some h, mv_mv]
  rw [mv_congr (B := one) (u := v) (fun k hk => (gjs_ok h).2 x hx k hk) (fun _ _ => rfl)]
  exact mv_one hx v
theorem mv_inv_right {n : Nat} {E R V : Mat} (h : gjs n E n = some (R, V)) (v : Nat → Fe) {x : Nat} (hx : x < n) : mv n E (mv n (invOf n E) v) x = v x := by
  rw [invOf_some h, mv_mv]
  rw [mv_congr (B := one) (u := v) (fun k hk => (gjs_ok h).1 x hx k hk) (fun _ _ => rfl)]
  exact mv_one hx v
end Go.Proofs.Ytelkeoopfejgnaa.Mx
