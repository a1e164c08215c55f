/- Plain mathematics of chapter 3, no program: of the unit with a Cauchy below it any rows, as many as there are columns, have an inverse. -/
import Derived.Test.YtelkeoopfejgnaaMxMath
import Derived.Test.YtelkeoopfejgnaaMxAtMath
namespace Go.Proofs.Ytelkeoopfejgnaa.Mx

/-- is it not 0? -/
def nz (a : Fe) : Bool := if a = 0 then false else true
theorem nz_false {a : Fe} (h : nz a = false) : a = 0 := by
  unfold nz at h
  by_cases e : a = 0
  · exact e
  · rw [if_neg e] at h; cases h
theorem nz_true {a : Fe} (h : a ≠ 0) : nz a = true := if_neg h
theorem nz_zero : nz (0 : Fe) = false := if_pos rfl

/-- a place that is taken is given back -/
theorem cnt_unset {had : Nat → Bool} {n k : Nat} (hk : k < n) (ht : had k = true) : cnt (fun x => if x = k then false else had x) n + 1 = cnt had n := by
  have h := cnt_set (had := fun x => if x = k then false else had x) hk (if_pos rfl)
  rw [← h]
  exact cnt_congr fun x _ => by
    by_cases e : x = k
    · simp only [if_pos e]; rw [e, ht]
    · simp only [if_neg e]
theorem cnt_mono {had had' : Nat → Bool} (h : ∀ x, had x = true → had' x = true) : ∀ n, cnt had n ≤ cnt had' n := by
  intro n
  induction n with
  | zero => exact Nat.le_refl _
  | succ n ih =>
    simp only [cnt]
    by_cases e : had n = true
    · rw [if_pos e, if_pos (h n e)]; omega
    · rw [if_neg e]; omega
theorem cnt_zero {had : Nat → Bool} : ∀ n, cnt had n = 0 → ∀ x, x < n → had x = false := by
  intro n
  induction n with
  | zero => intro _ x hx; omega
  | succ n ih =>
    intro h x hx
    simp only [cnt] at h
    by_cases e : had n = true
    · rw [if_pos e] at h; omega
    · rw [if_neg e] at h
      by_cases ex : x = n
      · rw [ex]; simpa using e
      · exact ih (by omega) x (by omega)
/-- unlike places that are taken: no more than there are taken -/
theorem cnt_inj {P : Nat → Bool} {n : Nat} (f : Nat → Nat) : ∀ m, (∀ t, t < m → f t < n ∧ P (f t) = true) → (∀ s t, s < m → t < m → f s = f t → s = t) → m ≤ cnt P n := by
  intro m
  induction m generalizing P with
  | zero => intro _ _; exact Nat.zero_le _
  | succ m ih =>
    intro h hinj
    have hm := h m (by omega)
    have h2 := cnt_unset hm.1 hm.2
    have h3 := ih (P := fun x => if x = f m then false else P x)
      (fun t ht => ⟨(h t (by omega)).1, by
        show (if f t = f m then false else P (f t)) = true
        rw [if_neg (fun e => by have := hinj t m (by omega) (by omega) e; omega)]
        exact (h t (by omega)).2⟩)
      (fun s t hs ht => hinj s t (by omega) (by omega))
    omega
theorem cnt_not (had : Nat → Bool) (n : Nat) : cnt had n + cnt (fun x => !had x) n = n := by
  induction n with
  | zero => rfl
  | succ n ih => cases h : had n <;> simp [cnt, h] <;> omega

/-- Cauchy's kernel, by how many of a column are not 0 -/
theorem gker : ∀ (k : Nat) (x y a : Nat → Fe) (n : Nat), (∀ i j, i < k → j < k → i ≠ j → x i ≠ x j) → (∀ i j, i < n → j < n → i ≠ j → y i ≠ y j) → (∀ i j, i < k → j < n → x i ≠ y j) →
    cnt (fun j => nz (a j)) n ≤ k → (∀ i, i < k → sm n (fun j => inv (x i + y j) * a j) = 0) → ∀ j, j < n → a j = 0 := by
  intro k
  induction k with
  | zero =>
    intro x y a n _ _ _ hc _ j hj
    exact nz_false (cnt_zero (had := fun j => nz (a j)) n (by omega) j hj)
  | succ k ih =>
    intro x y a n hx hy hxy hc h j hj
    by_cases hz : a j = 0
    · exact hz
    · exfalso
      have u1 : ∀ i l, i < k + 1 → l < n → (x i + y l) * inv (x i + y l) = 1 := fun i l hi hl => mul_inv (add_ne (hxy i l hi hl))
      have hb := ih x y (fun l => a l * ((y j + y l) * inv (x k + y l))) n (fun i i' hi hi' => hx i i' (by omega) (by omega)) hy (fun i l hi hl => hxy i l (by omega) hl) ?hcnt ?hsum
      case hcnt =>
        have h1 : cnt (fun l => nz (a l * ((y j + y l) * inv (x k + y l)))) n ≤ cnt (fun l => if l = j then false else nz (a l)) n := cnt_mono (fun l hl => by
          by_cases e : l = j
          · rw [e, add_self, zero_mul, mul_zero, nz_zero] at hl; cases hl
          · rw [if_neg e]
            by_cases e2 : a l = 0
            · rw [e2, zero_mul, nz_zero] at hl; cases hl
            · exact nz_true e2) n
        have h2 := cnt_unset (had := fun l => nz (a l)) hj (nz_true hz)
        omega
      case hsum =>
        intro i hi
        have hterm : ∀ l, l < n → (x i + y j) * (inv (x i + y l) * a l) + (x k + y j) * (inv (x k + y l) * a l) = (x i + x k) * (inv (x i + y l) * (a l * ((y j + y l) * inv (x k + y l)))) := by
          intro l hl
          have e1 := u1 i l (by omega) hl
          have e2 := u1 k l (by omega) hl
          generalize inv (x i + y l) = p at e1 ⊢
          generalize inv (x k + y l) = q at e2 ⊢
          have f1 : (x i + y j) * p = 1 + (y j + y l) * p := by
            rw [← e1, ← add_mul]; congr 1
            rw [add_assoc, add_comm (y j), add_self_left]
          have f2 : (x k + y j) * q = 1 + (y j + y l) * q := by
            rw [← e2, ← add_mul]; congr 1
            rw [add_assoc, add_comm (y j), add_self_left]
          have f3 : p + q = (x i + x k) * (p * q) := by
            have g1 : (x i + y l) * (p * q) = q := by rw [← mul_assoc, e1, one_mul]
            have g2 : (x k + y l) * (p * q) = p := by rw [mul_comm p q, ← mul_assoc, e2, one_mul]
            have g3 : (x i + y l) * (p * q) + (x k + y l) * (p * q) = (x i + x k) * (p * q) := by
              rw [← add_mul]; congr 1
              rw [add_assoc, add_left_comm (y l), add_self, add_zero]
            rw [g1, g2, add_comm] at g3
            exact g3
          rw [← mul_assoc, ← mul_assoc, ← add_mul, f1, f2]
          rw [show (1 : Fe) + (y j + y l) * p + (1 + (y j + y l) * q) = (y j + y l) * (p + q) by rw [mul_add, add_assoc, add_left_comm _ 1, add_self_left], f3]
          simp only [mul_comm, mul_left_comm]
        have hs : (x i + x k) * sm n (fun l => inv (x i + y l) * (a l * ((y j + y l) * inv (x k + y l)))) = 0 := by
          rw [← sm_mul, ← sm_congr hterm, sm_add, sm_mul, sm_mul, h i (by omega), h k (by omega), mul_zero, mul_zero, add_zero]
        exact eq_zero_of_mul (add_ne (hx i k (by omega) (by omega) (by omega))) hs
      have h0 : ∀ l, l < n → l ≠ j → a l = 0 := by
        intro l hl e
        have hbl := hb l hl
        have hne : (y j + y l) * inv (x k + y l) ≠ 0 := mul_ne (add_ne (hy j l hj hl (fun e' => e e'.symm))) (inv_ne (add_ne (hxy k l (by omega) hl)))
        rw [mul_comm] at hbl
        exact eq_zero_of_mul hne hbl
      have hk := h k (by omega)
      rw [sm_one hj (fun l hl e => by rw [h0 l hl e, mul_zero])] at hk
      exact hz (eq_zero_of_mul (inv_ne (add_ne (hxy k j (by omega) hj))) hk)

/-- the rows of the data, and below them those of parity -/
def enc (n : Nat) (Q : Mat) : Mat := fun r c => if r < n then one r c else Q (r - n) c
/-- any n rows of it, rising, make no column 0 but that of zeros -/
theorem enc_ker {n p : Nat} {Q : Mat} {x y : Nat → Fe} (hQ : ∀ i j, i < p → j < n → Q i j = inv (x i + y j))
    (hx : ∀ i j, i < p → j < p → i ≠ j → x i ≠ x j) (hy : ∀ i j, i < n → j < n → i ≠ j → y i ≠ y j) (hxy : ∀ i j, i < p → j < n → x i ≠ y j)
    {at_ : Nat → Nat} (hup : ∀ s t, s < t → t < n → at_ s < at_ t) (hlt : ∀ t, t < n → at_ t < n + p) (v : Nat → Fe) (h : ∀ t, t < n → mv n (fun t => enc n Q (at_ t)) v t = 0) : ∀ c, c < n → v c = 0 := by
  obtain ⟨m, hmn, hm1, hm2⟩ : ∃ m, m ≤ n ∧ (∀ t, t < m → at_ t < n) ∧ ∀ t, m ≤ t → t < n → n ≤ at_ t := by
    have key : ∀ d, d ≤ n → ∃ m, m ≤ d ∧ (∀ t, t < m → at_ t < n) ∧ ∀ t, m ≤ t → t < d → n ≤ at_ t := by
      intro d
      induction d with
      | zero => intro _; exact ⟨0, Nat.le_refl _, fun t ht => by omega, fun t _ ht => by omega⟩
      | succ d ih =>
        intro hd
        obtain ⟨m, h1, h2, h3⟩ := ih (by omega)
        by_cases e : at_ d < n
        · refine ⟨d + 1, Nat.le_refl _, fun t ht => ?_, fun t _ ht => by omega⟩
          by_cases et : t = d
          · rw [et]; exact e
          · have := hup t d (by omega) (by omega); omega
        · refine ⟨m, by omega, h2, fun t ht htd => ?_⟩
          by_cases et : t = d
          · rw [et]; omega
          · exact h3 t ht (by omega)
    exact key n (Nat.le_refl n)
  have hinj : ∀ s t, s < n → t < n → at_ s = at_ t → s = t := by
    intro s t hs ht e
    rcases Nat.lt_trichotomy s t with h1 | h1 | h1
    · have := hup s t h1 ht; omega
    · exact h1
    · have := hup t s h1 hs; omega
  have hzero : ∀ t, t < m → v (at_ t) = 0 := by
    intro t ht
    have h1 := h t (by omega)
    have h2 := hm1 t ht
    rw [show mv n (fun t => enc n Q (at_ t)) v t = mv n one v (at_ t) from sm_congr fun c _ => by
      show (if at_ t < n then one (at_ t) c else Q (at_ t - n) c) * v c = one (at_ t) c * v c
      rw [if_pos h2], mv_one h2] at h1
    exact h1
  have hcnt : cnt (fun c => nz (v c)) n ≤ n - m := by
    have h1 : m ≤ cnt (fun c => !nz (v c)) n := cnt_inj at_ m (fun t ht => ⟨hm1 t ht, by
      show (!nz (v (at_ t))) = true
      rw [hzero t ht, nz_zero]; rfl⟩) (fun s t hs ht => hinj s t (by omega) (by omega))
    have h2 := cnt_not (fun c => nz (v c)) n
    omega
  exact gker (n - m) (fun i => x (at_ (m + i) - n)) y v n
    (fun i j hi hj hne e => by
      have a1 := hm2 (m + i) (by omega) (by omega)
      have a2 := hm2 (m + j) (by omega) (by omega)
      have b1 := hlt (m + i) (by omega)
      have b2 := hlt (m + j) (by omega)
      exact hx (at_ (m + i) - n) (at_ (m + j) - n) (by omega) (by omega) (fun e' => hne (by have := hinj (m + i) (m + j) (by omega) (by omega) (by omega); omega)) e)
    hy
    (fun i j hi hj => by
      have a1 := hm2 (m + i) (by omega) (by omega)
      have b1 := hlt (m + i) (by omega)
      exact hxy (at_ (m + i) - n) j (by omega) hj)
    hcnt
    (fun i hi => by
      have a1 := hm2 (m + i) (by omega) (by omega)
      have b1 := hlt (m + i) (by omega)
      have h1 := h (m + i) (by omega)
      rw [← h1]
      exact sm_congr fun j hj => by
        show _ = (if at_ (m + i) < n then one (at_ (m + i)) j else Q (at_ (m + i) - n) j) * v j
        rw [if_neg (by omega), hQ (at_ (m + i) - n) j (by omega) hj])
/-- so each such choice has an inverse -/
theorem enc_some {n p : Nat} {Q : Mat} {x y : Nat → Fe} (hQ : ∀ i j, i < p → j < n → Q i j = inv (x i + y j))
    (hx : ∀ i j, i < p → j < p → i ≠ j → x i ≠ x j) (hy : ∀ i j, i < n → j < n → i ≠ j → y i ≠ y j) (hxy : ∀ i j, i < p → j < n → x i ≠ y j)
    {at_ : Nat → Nat} (hup : ∀ s t, s < t → t < n → at_ s < at_ t) (hlt : ∀ t, t < n → at_ t < n + p) : ∃ R V, gjs n (fun t => enc n Q (at_ t)) n = some (R, V) :=
  gjs_some fun v h => enc_ker hQ hx hy hxy hup hlt v h
end Go.Proofs.Ytelkeoopfejgnaa.Mx
