/- Plain mathematics of chapter 3, no program: of the unit with a Cauchy below it any rows, as many as there are columns, have an inverse. Plain mathematics of chapter 3, no program: the places of a choice in their order, and what a decoding comes to. Words for chapter 3: a slice of slices that a call owns and of which each reads as a row, rows of places, and what Encode and Decode answer. No function of the program. A slice of slices of the law's own, made by append, each row its own. No function of the program. Parity as it is made: an own slice of slices of rows, each made longer by append, row by row. No function of the program. Words for Parity: what it answers, the rows that Encode made, and how the tapes of parity grow by one row, one tape behind the other. No function of the program. Which parity tapes a group has, or why none; and how they are laid in a row. No function of the program. Groups of one tape of one block: they are made, and each of their tapes tells of the group. No program. How package group compares two seals: by their numbers. -/
import Derived.Test.YtfkoomldncfdnaaGreatMa
import Derived.Test.YtfkoomldncfdnaaGreatMg
import Derived.Test.YtfkoomldncfdnaaGreatMe
import Derived.Test.YtfkoomldncfdnaaGreatMf
import Derived.Laws.MakeOwn
import Derived.Test.YtfkoomldncfdnaaGreatMc
import Derived.Handy
import Derived.WalkSpells
import Derived.WalkLawsBesides
namespace Go.Proofs.YtfkoomldncfdnaaGreat.Mx

/-- is it not 0? -/
def nz (a : Fe) : Bool := if a = 0 then false else true
theorem nz_false {a : Fe} (h : nz a = false) : a = 0 := by
  unfold nz at h
  by_cases e : a = 0
  · exact e
  · rw [if_neg e] at h; cases h
theorem nz_true {a : Fe} (h : a ≠ 0) : nz a = true := if_neg h
theorem nz_zero : nz (0 : Fe) = false := if_pos rfl

/-- a place that is taken is given back -/
theorem cnt_unset {had : Nat → Bool} {n k : Nat} (hk : k < n) (ht : had k = true) : cnt (fun x => if x = k then false else had x) n + 1 = cnt had n := by
  have h := cnt_set (had := fun x => if x = k then false else had x) hk (if_pos rfl)
  rw [← h]
  exact cnt_congr fun x _ => by
    by_cases e : x = k
    · simp only [if_pos e]; rw [e, ht]
    · simp only [if_neg e]
theorem cnt_mono {had had' : Nat → Bool} (h : ∀ x, had x = true → had' x = true) : ∀ n, cnt had n ≤ cnt had' n := by
  intro n
  induction n with
  | zero => exact Nat.le_refl _
  | succ n ih =>
    simp only [cnt]
    by_cases e : had n = true
    · rw [if_pos e, if_pos (h n e)]; omega
    · rw [if_neg e]; omega
theorem cnt_zero {had : Nat → Bool} : ∀ n, cnt had n = 0 → ∀ x, x < n → had x = false := by
  intro n
  induction n with
  | zero => intro _ x hx; omega
  | succ n ih =>
    intro h x hx
    simp only [cnt] at h
    by_cases e : had n = true
    · rw [if_pos e] at h; omega
    · rw [if_neg e] at h
      by_cases ex : x = n
      · rw [ex]; simpa using e
      · exact ih (by omega) x (by omega)
/-- unlike places that are taken: no more than there are taken -/
theorem cnt_inj {P : Nat → Bool} {n : Nat} (f : Nat → Nat) : ∀ m, (∀ t, t < m → f t < n ∧ P (f t) = true) → (∀ s t, s < m → t < m → f s = f t → s = t) → m ≤ cnt P n := by
  intro m
  induction m generalizing P with
  | zero => intro _ _; exact Nat.zero_le _
  | succ m ih =>
    intro h hinj
    have hm := h m (by omega)
    have h2 := cnt_unset hm.1 hm.2
    have h3 := ih (P := fun x => if x = f m then false else P x)
      (fun t ht => ⟨(h t (by omega)).1, by
        show (if f t = f m then false else P (f t)) = true
        rw [if_neg (fun e => by have := hinj t m (by omega) (by omega) e; omega)]
        exact (h t (by omega)).2⟩)
      (fun s t hs ht => hinj s t (by omega) (by omega))
    omega
theorem cnt_not (had : Nat → Bool) (n : Nat) : cnt had n + cnt (fun x => !had x) n = n := by
  induction n with
  | zero => rfl
  | succ n ih => cases h : had n <;> simp [cnt, h] <;> omega

/-- Cauchy's kernel, by how many of a column are not 0 -/
theorem gker : ∀ (k : Nat) (x y a : Nat → Fe) (n : Nat), (∀ i j, i < k → j < k → i ≠ j → x i ≠ x j) → (∀ i j, i < n → j < n → i ≠ j → y i ≠ y j) → (∀ i j, i < k → j < n → x i ≠ y j) →
    cnt (fun j => nz (a j)) n ≤ k → (∀ i, i < k → sm n (fun j => inv (x i + y j) * a j) = 0) → ∀ j, j < n → a j = 0 := by
  intro k
  induction k with
  | zero =>
    intro x y a n _ _ _ hc _ j hj
    exact nz_false (cnt_zero (had := fun j => nz (a j)) n (by omega) j hj)
  | succ k ih =>
    intro x y a n hx hy hxy hc h j hj
    by_cases hz : a j = 0
    · exact hz
    · exfalso
      have u1 : ∀ i l, i < k + 1 → l < n → (x i + y l) * inv (x i + y l) = 1 := fun i l hi hl => mul_inv (add_ne (hxy i l hi hl))
      have hb := ih x y (fun l => a l * ((y j + y l) * inv (x k + y l))) n (fun i i' hi hi' => hx i i' (by omega) (by omega)) hy (fun i l hi hl => hxy i l (by omega) hl) ?hcnt ?hsum
      case hcnt =>
        have h1 : cnt (fun l => nz (a l * ((y j + y l) * inv (x k + y l)))) n ≤ cnt (fun l => if l = j then false else nz (a l)) n := cnt_mono (fun l hl => by
          by_cases e : l = j
          · rw [e, add_self, zero_mul, mul_zero, nz_zero] at hl; cases hl
          · rw [if_neg e]
            by_cases e2 : a l = 0
            · rw [e2, zero_mul, nz_zero] at hl; cases hl
            · exact nz_true e2) n
        have h2 := cnt_unset (had := fun l => nz (a l)) hj (nz_true hz)
        omega
      case hsum =>
        intro i hi
        have hterm : ∀ l, l < n → (x i + y j) * (inv (x i + y l) * a l) + (x k + y j) * (inv (x k + y l) * a l) = (x i + x k) * (inv (x i + y l) * (a l * ((y j + y l) * inv (x k + y l)))) := by
          intro l hl
          have e1 := u1 i l (by omega) hl
          have e2 := u1 k l (by omega) hl
          generalize inv (x i + y l) = p at e1 ⊢
          generalize inv (x k + y l) = q at e2 ⊢
          have f1 : (x i + y j) * p = 1 + (y j + y l) * p := by
            rw [← e1, ← add_mul]; congr 1
            rw [add_assoc, add_comm (y j), add_self_left]
          have f2 : (x k + y j) * q = 1 + (y j + y l) * q := by
            rw [← e2, ← add_mul]; congr 1
            rw [add_assoc, add_comm (y j), add_self_left]
          have f3 : p + q = (x i + x k) * (p * q) := by
            have g1 : (x i + y l) * (p * q) = q := by rw [← mul_assoc, e1, one_mul]
            have g2 : (x k + y l) * (p * q) = p := by rw [mul_comm p q, ← mul_assoc, e2, one_mul]
            have g3 : (x i + y l) * (p * q) + (x k + y l) * (p * q) = (x i + x k) * (p * q) := by
              rw [← add_mul]; congr 1
              rw [add_assoc, add_left_comm (y l), add_self, add_zero]
            rw [g1, g2, add_comm] at g3
            exact g3
          rw [← mul_assoc, ← mul_assoc, ← add_mul, f1, f2]
          rw [show (1 : Fe) + (y j + y l) * p + (1 + (y j + y l) * q) = (y j + y l) * (p + q) by rw [mul_add, add_assoc, add_left_comm _ 1, add_self_left], f3]
          simp only [mul_comm, mul_left_comm]
        have hs : (x i + x k) * sm n (fun l => inv (x i + y l) * (a l * ((y j + y l) * inv (x k + y l)))) = 0 := by
          rw [← sm_mul, ← sm_congr hterm, sm_add, sm_mul, sm_mul, h i (by omega), h k (by omega), mul_zero, mul_zero, add_zero]
        exact eq_zero_of_mul (add_ne (hx i k (by omega) (by omega) (by omega))) hs
      have h0 : ∀ l, l < n → l ≠ j → a l = 0 := by
        intro l hl e
        have hbl := hb l hl
        have hne : (y j + y l) * inv (x k + y l) ≠ 0 := mul_ne (add_ne (hy j l hj hl (fun e' => e e'.symm))) (inv_ne (add_ne (hxy k l (by omega) hl)))
        rw [mul_comm] at hbl
        exact eq_zero_of_mul hne hbl
      have hk := h k (by omega)
      rw [sm_one hj (fun l hl e => by rw [h0 l hl e, mul_zero])] at hk
      exact hz (eq_zero_of_mul (inv_ne (add_ne (hxy k j (by omega) hj))) hk)

/-- the rows of the data, and below them those of parity -/
def enc (n : Nat) (Q : Mat) : Mat := fun r c => if r < n then one r c else Q (r - n) c
/-- any n rows of it, rising, make no column 0 but that of zeros -/
theorem enc_ker {n p : Nat} {Q : Mat} {x y : Nat → Fe} (hQ : ∀ i j, i < p → j < n → Q i j = inv (x i + y j))
    (hx : ∀ i j, i < p → j < p → i ≠ j → x i ≠ x j) (hy : ∀ i j, i < n → j < n → i ≠ j → y i ≠ y j) (hxy : ∀ i j, i < p → j < n → x i ≠ y j)
    {at_ : Nat → Nat} (hup : ∀ s t, s < t → t < n → at_ s < at_ t) (hlt : ∀ t, t < n → at_ t < n + p) (v : Nat → Fe) (h : ∀ t, t < n → mv n (fun t => enc n Q (at_ t)) v t = 0) : ∀ c, c < n → v c = 0 := by
  obtain ⟨m, hmn, hm1, hm2⟩ : ∃ m, m ≤ n ∧ (∀ t, t < m → at_ t < n) ∧ ∀ t, m ≤ t → t < n → n ≤ at_ t := by
    have key : ∀ d, d ≤ n → ∃ m, m ≤ d ∧ (∀ t, t < m → at_ t < n) ∧ ∀ t, m ≤ t → t < d → n ≤ at_ t := by
      intro d
      induction d with
      | zero => intro _; exact ⟨0, Nat.le_refl _, fun t ht => by omega, fun t _ ht => by omega⟩
      | succ d ih =>
        intro hd
        obtain ⟨m, h1, h2, h3⟩ := ih (by omega)
        by_cases e : at_ d < n
        · refine ⟨d + 1, Nat.le_refl _, fun t ht => ?_, fun t _ ht => by omega⟩
          by_cases et : t = d
          · rw [et]; exact e
          · have := hup t d (by omega) (by omega); omega
        · refine ⟨m, by omega, h2, fun t ht htd => ?_⟩
          by_cases et : t = d
          · rw [et]; omega
          · exact h3 t ht (by omega)
    exact key n (Nat.le_refl n)
  have hinj : ∀ s t, s < n → t < n → at_ s = at_ t → s = t := by
    intro s t hs ht e
    rcases Nat.lt_trichotomy s t with h1 | h1 | h1
    · have := hup s t h1 ht; omega
    · exact h1
    · have := hup t s h1 hs; omega
  have hzero : ∀ t, t < m → v (at_ t) = 0 := by
    intro t ht
    have h1 := h t (by omega)
    have h2 := hm1 t ht
    rw [show mv n (fun t => enc n Q (at_ t)) v t = mv n one v (at_ t) from sm_congr fun c _ => by
      show (if at_ t < n then one (at_ t) c else Q (at_ t - n) c) * v c = one (at_ t) c * v c
      rw [if_pos h2], mv_one h2] at h1
    exact h1
  have hcnt : cnt (fun c => nz (v c)) n ≤ n - m := by
    have h1 : m ≤ cnt (fun c => !nz (v c)) n := cnt_inj at_ m (fun t ht => ⟨hm1 t ht, by
      show (!nz (v (at_ t))) = true
      rw [hzero t ht, nz_zero]; rfl⟩) (fun s t hs ht => hinj s t (by omega) (by omega))
    have h2 := cnt_not (fun c => nz (v c)) n
    omega
  exact gker (n - m) (fun i => x (at_ (m + i) - n)) y v n
    (fun i j hi hj hne e => by
      have a1 := hm2 (m + i) (by omega) (by omega)
      have a2 := hm2 (m + j) (by omega) (by omega)
      have b1 := hlt (m + i) (by omega)
      have b2 := hlt (m + j) (by omega)
      exact hx (at_ (m + i) - n) (at_ (m + j) - n) (by omega) (by omega) (fun e' => hne (by have := hinj (m + i) (m + j) (by omega) (by omega) (by omega); omega)) e)
    hy
    (fun i j hi hj => by
      have a1 := hm2 (m + i) (by omega) (by omega)
      have b1 := hlt (m + i) (by omega)
      exact hxy (at_ (m + i) - n) j (by omega) hj)
    hcnt
    (fun i hi => by
      have a1 := hm2 (m + i) (by omega) (by omega)
      have b1 := hlt (m + i) (by omega)
      have h1 := h (m + i) (by omega)
      rw [← h1]
      exact sm_congr fun j hj => by
        show _ = (if at_ (m + i) < n then one (at_ (m + i)) j else Q (at_ (m + i) - n) j) * v j
        rw [if_neg (by omega), hQ (at_ (m + i) - n) j (by omega) hj])
/-- so each such choice has an inverse -/
theorem enc_some {n p : Nat} {Q : Mat} {x y : Nat → Fe} (hQ : ∀ i j, i < p → j < n → Q i j = inv (x i + y j))
    (hx : ∀ i j, i < p → j < p → i ≠ j → x i ≠ x j) (hy : ∀ i j, i < n → j < n → i ≠ j → y i ≠ y j) (hxy : ∀ i j, i < p → j < n → x i ≠ y j)
    {at_ : Nat → Nat} (hup : ∀ s t, s < t → t < n → at_ s < at_ t) (hlt : ∀ t, t < n → at_ t < n + p) : ∃ R V, gjs n (fun t => enc n Q (at_ t)) n = some (R, V) :=
  gjs_some fun v h => enc_ker hQ hx hy hxy hup hlt v h
end Go.Proofs.YtfkoomldncfdnaaGreat.Mx
namespace Go.Proofs.YtfkoomldncfdnaaGreat.Mx

/-- the places below n that are chosen, in their order -/
def pls (P : Nat → Bool) (n : Nat) : List Nat := (List.range n).filter P
def plsN (P : Nat → Bool) (n : Nat) : Nat := (pls P n).length
def plsAt (P : Nat → Bool) (n j : Nat) : Nat := (pls P n).getD j 0
theorem pls_yes {P : Nat → Bool} {n : Nat} (h : P n = true) : pls P (n + 1) = pls P n ++ [n] := by
  unfold pls; rw [List.range_succ, List.filter_append]; simp [h]
theorem pls_no {P : Nat → Bool} {n : Nat} (h : P n = false) : pls P (n + 1) = pls P n := by
  unfold pls; rw [List.range_succ, List.filter_append]; simp [h]
theorem pls_congr {P P' : Nat → Bool} {n : Nat} (h : ∀ x, x < n → P x = P' x) : pls P n = pls P' n := by
  unfold pls
  exact List.filter_congr fun x hx => by rw [h x (List.mem_range.1 hx)]
theorem plsAt_get {P : Nat → Bool} {n j : Nat} (hj : j < plsN P n) : (pls P n)[j]? = some (plsAt P n j) := by
  unfold plsN at hj
  unfold plsAt
  rw [List.getD_eq_getElem?_getD, List.getElem?_eq_getElem hj]; rfl
theorem plsAt_eq {P : Nat → Bool} {n j : Nat} (hj : j < (pls P n).length) : plsAt P n j = (pls P n)[j] := by
  unfold plsAt
  rw [List.getD_eq_getElem?_getD, List.getElem?_eq_getElem hj]; rfl
theorem plsAt_in {P : Nat → Bool} {n j : Nat} (hj : j < plsN P n) : plsAt P n j < n ∧ P (plsAt P n j) = true := by
  have h := List.mem_of_getElem? (plsAt_get hj)
  unfold pls at h
  rw [List.mem_filter, List.mem_range] at h
  exact h
theorem plsAt_up {P : Nat → Bool} {n s t : Nat} (hst : s < t) (ht : t < plsN P n) : plsAt P n s < plsAt P n t := by
  have h : (pls P n).Pairwise (· < ·) := List.Pairwise.filter _ List.pairwise_lt_range
  have hs : s < (pls P n).length := Nat.lt_trans hst ht
  rw [plsAt_eq hs, plsAt_eq ht]
  exact List.pairwise_iff_getElem.1 h s t hs ht hst
theorem pls_all {P : Nat → Bool} {n x : Nat} (hx : x < n) (h : P x = true) : ∃ j, j < plsN P n ∧ plsAt P n j = x := by
  have hm : x ∈ pls P n := by unfold pls; rw [List.mem_filter, List.mem_range]; exact ⟨hx, h⟩
  obtain ⟨j, hj, e⟩ := List.getElem_of_mem hm
  exact ⟨j, hj, by rw [plsAt_eq hj, e]⟩
theorem plsN_cnt (P : Nat → Bool) (n : Nat) : plsN P n = cnt P n := by
  induction n with
  | zero => rfl
  | succ n ih =>
    unfold plsN at ih ⊢
    cases h : P n with
    | true => rw [pls_yes h, List.length_append, ih]; simp [cnt, h]
    | false => rw [pls_no h, ih]; simp [cnt, h]
theorem plsN_le (P : Nat → Bool) (n : Nat) : plsN P n ≤ n := by rw [plsN_cnt]; exact cnt_le P n
theorem plsN_zero {P : Nat → Bool} {n : Nat} (h : plsN P n = 0) : ∀ x, x < n → P x = false := by
  rw [plsN_cnt] at h; exact cnt_zero n h
/-- rising places are at least their number -/
theorem up_ge {at_ : Nat → Nat} {n : Nat} (hup : ∀ s t, s < t → t < n → at_ s < at_ t) : ∀ t, t < n → t ≤ at_ t := by
  intro t
  induction t with
  | zero => intro _; exact Nat.zero_le _
  | succ t ih =>
    intro ht
    have h1 := ih (by omega)
    have h2 := hup t (t + 1) (by omega) ht
    omega
theorem up_le {at_ : Nat → Nat} {n p : Nat} (hup : ∀ s t, s < t → t < n → at_ s < at_ t) (hlt : ∀ t, t < n → at_ t < n + p) : ∀ k t, t + k + 1 = n → at_ t ≤ t + p := by
  intro k
  induction k with
  | zero =>
    intro t ht
    have := hlt t (by omega)
    omega
  | succ k ih =>
    intro t ht
    have h1 := ih (t + 1) (by omega)
    have h2 := hup t (t + 1) (by omega) (by omega)
    omega
/-- without parity each is there -/
theorem up_none {at_ : Nat → Nat} {n : Nat} (hup : ∀ s t, s < t → t < n → at_ s < at_ t) (hlt : ∀ t, t < n → at_ t < n) {t : Nat} (ht : t < n) : at_ t = t := by
  have h1 := up_ge hup t ht
  have h2 := up_le (p := 0) hup hlt (n - t - 1) t (by omega)
  omega
/-- the inverse -/
def invOf (n : Nat) (E : Mat) : Mat := match gjs n E n with
  | some (_, V) => V
  | none => one
theorem invOf_some {n : Nat} {E R V : Mat} (h : gjs n E n = some (R, V)) : invOf n E = V := by unfold invOf; rw [h]
theorem mv_inv_left {n : Nat} {E R V : Mat} (h : gjs n E n = some (R, V)) (v : Nat → Fe) {x : Nat} (hx : x < n) : mv n (invOf n E) (mv n E v) x = v x := by
  rw [invOf_some h, mv_mv]
  rw [mv_congr (B := one) (u := v) (fun k hk => (gjs_ok h).2 x hx k hk) (fun _ _ => rfl)]
  exact mv_one hx v
theorem mv_inv_right {n : Nat} {E R V : Mat} (h : gjs n E n = some (R, V)) (v : Nat → Fe) {x : Nat} (hx : x < n) : mv n E (mv n (invOf n E) v) x = v x := by
  rw [invOf_some h, mv_mv]
  rw [mv_congr (B := one) (u := v) (fun k hk => (gjs_ok h).1 x hx k hk) (fun _ _ => rfl)]
  exact mv_one hx v
end Go.Proofs.YtfkoomldncfdnaaGreat.Mx
namespace Go.Proofs.YtfkoomldncfdnaaGreat
open Go.RowKit Mx

/-- block b is an own slice of n slices, each of which reads as a row -/
structure TopR (w : World) (b n : Nat) (A : Nat → Option Addr) (L C : Nat → Nat) (M : Mat) : Prop where
  top : RowV w 42 b n (fun i => .slice (A i) (L i) (C i))
  rows : ∀ i, i < n → Rd w (A i) (L i) (M i) (· ≠ b)
namespace TopR
variable {w w' : World} {b n : Nat} {A : Nat → Option Addr} {L L' C : Nat → Nat} {M M' : Mat}
theorem rdM (h : TopR w b n A L C M) : RdM w (some ⟨b, 0, none⟩) n L M (· < w.heap.size) :=
  RdM.in_ (G := fun _ => True) fun _ => ⟨b, 0, rfl, trivial, fun i hi => ⟨A i, C i, by rw [Nat.zero_add]; exact h.top.cell hi, (h.rows i hi).mono fun _ _ => trivial⟩⟩
theorem old (h : TopR w b n A L C M) (hb : Below w.heap.size w w') : TopR w' b n A L C M := ⟨h.top.old hb, fun i hi => (h.rows i hi).old hb⟩
theorem congr (h : TopR w b n A L C M) (hl : ∀ i, i < n → L i = L' i) (he : ∀ i, i < n → ∀ j, j < L i → M i j = M' i j) : TopR w b n A L' C M' :=
  ⟨h.top.congr fun i hi => by rw [hl i hi], fun i hi => by rw [← hl i hi]; exact (h.rows i hi).congr (he i hi)⟩
theorem start (w : World) (n : Nat) (M : Mat) : TopR (w.alloc (.cells (madeCells #[.slice none 0 0] n) 42)) w.heap.size n (fun _ => none) (fun _ => 0) (fun _ => 0) M :=
  ⟨RowV.made w _ _ n, fun _ _ => Rd.empty _ _ _ _⟩
/-- a row is laid -/
theorem set (h : TopR w b n A L C M) (k : Nat) {a : Option Addr} {l c : Nat} {r : Nat → Fe} (hr : Rd w a l r (· ≠ b)) :
    TopR (w.setCell ⟨b, k, none⟩ (.slice a l c)) b n (fun i => if i = k then a else A i) (fun i => if i = k then l else L i) (fun i => if i = k then c else C i) (fun i => if i = k then r else M i) := by
  refine ⟨(h.top.set k _).congr fun i _ => ?_, fun i hi => ?_⟩
  · by_cases e : i = k <;> simp [e]
  · by_cases e : i = k
    · simp only [e, if_true]; exact hr.kp (Kp.store w b k _) (fun _ hx => hx)
    · simp only [e, if_false]; exact (h.rows i hi).kp (Kp.store w b k _) (fun _ hx => hx)
/-- a row is laid as the matrix has it -/
theorem lay (h : TopR w b n A L C M) (k : Nat) {a : Option Addr} {l c : Nat} (hr : Rd w a l (M k) (· ≠ b)) :
    TopR (w.setCell ⟨b, k, none⟩ (.slice a l c)) b n (fun i => if i = k then a else A i) (fun i => if i = k then l else L i) (fun i => if i = k then c else C i) M :=
  (h.set k hr).congr (fun _ _ => rfl) fun i _ j _ => by by_cases e : i = k <;> simp [e]
end TopR
theorem Rd.ne {w : World} {A : Option Addr} {n : Nat} {r : Nat → Fe} {G : Nat → Prop} {b : Nat} (h : Rd w A n r G) (hb : w.heap.size ≤ b) : Rd w A n r (· ≠ b) :=
  h.in_.mono fun x hx => by omega
/-- the first of what reads -/
theorem RdM.first {w : World} {A : Option Addr} {n k : Nat} {L : Nat → Nat} {M : Mat} {G : Nat → Prop} (h : RdM w A n L M G) (hk : k ≤ n) : RdM w A k L M G := by
  intro h0
  obtain ⟨b, off, e, hg, hc⟩ := h (by omega)
  exact ⟨b, off, e, hg, fun i hi => hc i (by omega)⟩
theorem RdI.first {w : World} {A : Option Addr} {n k : Nat} {z : Nat → Int} (h : RdI w A n z) (hk : k ≤ n) : RdI w A k z := by
  intro h0
  obtain ⟨b, off, e, hc⟩ := h (by omega)
  exact ⟨b, off, e, fun i hi => hc i (by omega)⟩
theorem RdI.kp {w w' : World} {A : Option Addr} {n : Nat} {z : Nat → Int} {S : Nat → Prop} (h : RdI w A n z) (hk : Kp S w w') (hs : ∀ a, A = some a → ¬ S a.block) : RdI w' A n z := by
  intro h0
  obtain ⟨b, off, e, hc⟩ := h h0
  exact ⟨b, off, e, fun j hj => hk.cell (hc j hj) (hs ⟨b, off, none⟩ e)⟩
theorem RdI.congr {w : World} {A : Option Addr} {n : Nat} {z z' : Nat → Int} (h : RdI w A n z) (he : ∀ j, j < n → z j = z' j) : RdI w A n z' := by
  intro h0
  obtain ⟨b, off, e, hc⟩ := h h0
  exact ⟨b, off, e, fun j hj => by rw [hc j hj, he j hj]⟩
theorem infoInt : (Tryz.prog.info? 3).map (fun i => (i.zero, i.size, i.bytes)) = some (some (.int .i64 0), 1, 8) := by kernel_rfl
/-- numbers as cells -/
def intsOf (l : List Nat) : List Value := l.map fun (x : Nat) => .int .i64 (x : Int)
theorem intsOf_one {l : List Nat} : ∀ u ∈ intsOf l, u.oneCell' = true := by
  intro u hu
  simp only [intsOf, List.mem_map] at hu
  obtain ⟨j, _, rfl⟩ := hu
  rfl
theorem oneInt (x : Int) : ∀ u ∈ [Value.int .i64 x], u.oneCell' = true := by
  intro u hu; simp at hu; subst hu; rfl
/-- an own row of numbers reads -/
theorem RdI.of_owns {w : World} {base : Nat} {l : List Nat} {v : Value} (h : w.ownsRow base 3 1 v l.length (intsOf l)) :
    ∃ A C, v = .slice A l.length C ∧ l.length ≤ C ∧ (∀ a, A = some a → base ≤ a.block) ∧ RdI w A l.length (fun j => (l.getD j 0 : Int)) := by
  rcases Nat.eq_zero_or_pos l.length with h0 | h0
  · rcases h.2 with ⟨e, _⟩ | ⟨g, cap, cur, e, hb, _, hc, _⟩
    · exact ⟨none, 0, by rw [h0]; exact e, by omega, fun a ha => by (cases ha), fun hh => by omega⟩
    · exact ⟨_, cap, e, hc, fun a ha => by (cases ha; exact hb), fun hh => by omega⟩
  · obtain ⟨g, C, h1, h2, h3, h4⟩ := RowV.of_owns h h0
    refine ⟨_, C, h1, h3, fun a ha => by (cases ha; exact h2), fun _ => ⟨g, 0, rfl, fun j hj => ?_⟩⟩
    rw [Nat.zero_add, h4.cell hj]
    congr 1
    unfold intsOf
    simp only [List.getD_eq_getElem?_getD, List.getElem?_map, List.getElem?_eq_getElem hj, Option.map_some, Option.getD_some]

/-! ### What is answered -/
/-- parity: byte by byte Cauchy's product -/
def par (n p : Nat) (D : Mat) : Mat := fun i c => mv n (cau p) (fun j => D j c) i
def EncOk (n : Nat) (L : Nat → Nat) (p : Int) : Prop := 1 ≤ n ∧ (∀ i, i < n → L i = L 0) ∧ 0 ≤ p ∧ p ≤ 255 - n
open Classical in
def EncAny (n : Nat) (L : Nat → Nat) (D : Mat) (p : Int) (w : World) (e : Ending) (w' : World) : Prop :=
  if EncOk n L p then ResM 0 p.toNat (L 0) (par n p.toNat D) w e w' else ResM 1 0 0 one w e w'
/-- a new matrix, and an error's number -/
def OwnM (code : Int) (n m : Nat) (M : Mat) (w : World) (e : Ending) (w' : World) : Prop :=
  ∃ b G C, e = .returned (.tuple #[.slice (some ⟨b, 0, none⟩) n n, .int .i64 code]) ∧ w.heap.size ≤ b ∧ OwnK w' w.heap.size b n n m G C M ∧ Below w.heap.size w w'
theorem OwnM.res {code : Int} {n m : Nat} {M : Mat} {w : World} {e : Ending} {w' : World} (h : OwnM code n m M w e w') : ResM code n m M w e w' := by
  obtain ⟨b, G, C, he, _, hr, hb⟩ := h
  exact ⟨_, n, he, hr.rdAll (Nat.le_refl _), hb⟩
/-- the same, with whatever room behind it -/
def NewM (code : Int) (n m : Nat) (M : Mat) (w : World) (e : Ending) (w' : World) : Prop :=
  ∃ b q G C, e = .returned (.tuple #[.slice (some ⟨b, 0, none⟩) n q, .int .i64 code]) ∧ n ≤ q ∧ w.heap.size ≤ b ∧ OwnK w' w.heap.size b n n m G C M ∧ Below w.heap.size w w'
theorem OwnM.new {code : Int} {n m : Nat} {M : Mat} {w : World} {e : Ending} {w' : World} (h : OwnM code n m M w e w') : NewM code n m M w e w' := by
  obtain ⟨b, G, C, he, hb, hr, h'⟩ := h
  exact ⟨b, n, G, C, he, Nat.le_refl _, hb, hr, h'⟩
theorem NewM.res {code : Int} {n m : Nat} {M : Mat} {w : World} {e : Ending} {w' : World} (h : NewM code n m M w e w') : ResM code n m M w e w' := by
  obtain ⟨b, q, G, C, he, _, _, hr, hb⟩ := h
  exact ⟨_, q, he, hr.rdAll (Nat.le_refl _), hb⟩
open Classical in
/-- what Encode answers, all of it new memory -/
def EncNew (n : Nat) (L : Nat → Nat) (D : Mat) (p : Int) (w : World) (e : Ending) (w' : World) : Prop :=
  if EncOk n L p then (p = 0 ∧ e = .returned (.tuple #[.slice none 0 0, .int .i64 0]) ∧ Below w.heap.size w w') ∨ (0 < p ∧ NewM 0 p.toNat (L 0) (par n p.toNat D) w e w') else e = .returned (.tuple #[.slice none 0 0, .int .i64 1]) ∧ Below w.heap.size w w'
theorem EncNew.any {n : Nat} {L : Nat → Nat} {D : Mat} {p : Int} {w : World} {e : Ending} {w' : World} (h : EncNew n L D p w e w') : EncAny n L D p w e w' := by
  unfold EncNew at h
  unfold EncAny
  split
  · rename_i hok
    rw [if_pos hok] at h
    rcases h with ⟨rfl, rfl, hb⟩ | ⟨_, h⟩
    · exact ⟨none, 0, rfl, RdM.empty _ _ _ _ _, hb⟩
    · exact h.res
  · rename_i hok
    rw [if_neg hok] at h
    obtain ⟨rfl, hb⟩ := h
    exact ⟨none, 0, rfl, RdM.empty _ _ _ _ _, hb⟩
theorem EncNew.bad {n : Nat} {L : Nat → Nat} {D : Mat} {p : Int} (hn : ¬ EncOk n L p) (w : World) {w' : World} (h : Below w.heap.size w w') : EncNew n L D p w (.returned (.tuple #[.slice none 0 0, .int .i64 1])) w' := by
  unfold EncNew; rw [if_neg hn]; exact ⟨rfl, h⟩
theorem EncNew.none {n : Nat} {L : Nat → Nat} {D : Mat} (hn : EncOk n L 0) (w : World) {w' : World} (h : Below w.heap.size w w') : EncNew n L D 0 w (.returned (.tuple #[.slice none 0 0, .int .i64 0])) w' := by
  unfold EncNew; rw [if_pos hn]; exact .inl ⟨rfl, rfl, h⟩
theorem EncNew.some {n : Nat} {L : Nat → Nat} {D : Mat} {p : Nat} (hn : EncOk n L (p : Int)) (hp : 0 < p) {w : World} {e : Ending} {w' : World} (h : NewM 0 p (L 0) (par n p D) w e w') : EncNew n L D (p : Int) w e w' := by
  unfold EncNew; rw [if_pos hn]; exact .inr ⟨by omega, h⟩
/-- the rows of what was made of the data -/
def encM (d p : Nat) (at_ : Nat → Nat) : Mat := fun t => enc d (cau p) (at_ t)
theorem encM_some {d p : Nat} {at_ : Nat → Nat} (hdp : d + p ≤ 255) (hup : ∀ s t, s < t → t < d → at_ s < at_ t) (hlt : ∀ t, t < d → at_ t < d + p) : ∃ R V, gjs d (encM d p at_) d = some (R, V) :=
  enc_some (x := fun i => el i) (y := fun j => el (p + j)) (fun i j _ _ => rfl)
    (fun i j hi hj h => el_ne (by omega) (by omega) h) (fun i j hi hj h => el_ne (by omega) (by omega) (by omega)) (fun i j hi hj => el_ne (by omega) (by omega) (by omega)) hup hlt
/-- the data that rows tell -/
def dec (d p : Nat) (at_ : Nat → Nat) (Y : Mat) : Mat := fun x c => mv d (invOf d (encM d p at_)) (fun t => Y t c) x
/-- those of data among them are as they are -/
theorem dec_same {d p : Nat} {at_ : Nat → Nat} (hdp : d + p ≤ 255) (hup : ∀ s t, s < t → t < d → at_ s < at_ t) (hlt : ∀ t, t < d → at_ t < d + p) (Y : Mat) {t : Nat} (ht : t < d) (h : at_ t < d) (c : Nat) : Y t c = dec d p at_ Y (at_ t) c := by
  obtain ⟨R, V, hg⟩ := encM_some hdp hup hlt
  have h1 := mv_inv_right hg (fun t => Y t c) ht
  rw [← h1]
  show mv d (encM d p at_) (fun x => dec d p at_ Y x c) t = _
  rw [show mv d (encM d p at_) (fun x => dec d p at_ Y x c) t = mv d one (fun x => dec d p at_ Y x c) (at_ t) from sm_congr fun k _ => by
    show (if at_ t < d then one (at_ t) k else cau p (at_ t - d) k) * _ = _
    rw [if_pos h], mv_one h]
/-- what was made of data tells it -/
theorem dec_back {d p : Nat} {at_ : Nat → Nat} (hdp : d + p ≤ 255) (hup : ∀ s t, s < t → t < d → at_ s < at_ t) (hlt : ∀ t, t < d → at_ t < d + p) (D Y : Mat) {c : Nat} (hY : ∀ t, t < d → Y t c = mv d (encM d p at_) (fun x => D x c) t) {x : Nat} (hx : x < d) : dec d p at_ Y x c = D x c := by
  obtain ⟨R, V, hg⟩ := encM_some hdp hup hlt
  rw [← mv_inv_left hg (fun x => D x c) hx]
  exact mv_congr (fun _ _ => rfl) hY
def there (L : Nat → Nat) (x : Nat) : Bool := decide (0 < L x)
def DecOk (n : Nat) (L : Nat → Nat) (d : Int) : Prop := 1 ≤ d ∧ d ≤ n ∧ n ≤ 255 ∧ 0 < plsN (there L) n ∧ ∀ j, j < plsN (there L) n → L (plsAt (there L) n j) = L (plsAt (there L) n 0)
open Classical in
def DecAny (n : Nat) (L : Nat → Nat) (H : Mat) (d : Int) (w : World) (e : Ending) (w' : World) : Prop :=
  if DecOk n L d then if plsN (there L) n < d.toNat then ResM 10 0 0 one w e w' else ResM 0 d.toNat (L (plsAt (there L) n 0)) (dec d.toNat (n - d.toNat) (plsAt (there L) n) (fun t => H (plsAt (there L) n t))) w e w' else ResM 1 0 0 one w e w'
theorem EncAny.res (n : Nat) (L : Nat → Nat) (D : Mat) (p : Int) : ∃ (code : Int) (k q : Nat) (X : Mat), k ≤ 255 ∧ ∀ w e w', EncAny n L D p w e w' → ResM code k q X w e w' := by
  by_cases h : EncOk n L p
  · have h1 := h.1
    have h2 := h.2.2.1
    have h3 := h.2.2.2
    exact ⟨0, p.toNat, L 0, par n p.toNat D, by omega, fun w e w' hh => by unfold EncAny at hh; rw [if_pos h] at hh; exact hh⟩
  · exact ⟨1, 0, 0, one, by omega, fun w e w' hh => by unfold EncAny at hh; rw [if_neg h] at hh; exact hh⟩
theorem DecAny.res (n : Nat) (L : Nat → Nat) (H : Mat) (d : Int) : ∃ (code : Int) (k q : Nat) (X : Mat), k ≤ 255 ∧ ∀ w e w', DecAny n L H d w e w' → ResM code k q X w e w' := by
  by_cases h : DecOk n L d
  · have h1 := h.1
    have h2 := h.2.1
    have h3 := h.2.2.1
    by_cases hn : plsN (there L) n < d.toNat
    · exact ⟨10, 0, 0, one, by omega, fun w e w' hh => by unfold DecAny at hh; rw [if_pos h, if_pos hn] at hh; exact hh⟩
    · exact ⟨0, d.toNat, _, _, by omega, fun w e w' hh => by unfold DecAny at hh; rw [if_pos h, if_neg hn] at hh; exact hh⟩
  · exact ⟨1, 0, 0, one, by omega, fun w e w' hh => by unfold DecAny at hh; rw [if_neg h] at hh; exact hh⟩
end Go.Proofs.YtfkoomldncfdnaaGreat
namespace Go.Proofs.YtfkoomldncfdnaaGreat
open Go.RowKit
open Pt (Tx)

/-- v is a slice of the call's own whose rows us are the call's own, hold bs, and lie in blocks of G, no two in one -/
structure TopB (w : World) (B : Nat) (G : Nat → Prop) (v : Value) (us : List Value) (bs : List Tx) : Prop where
  top : w.ownsRow B 42 1 v us.length us
  len : us.length = bs.length
  rows : ∀ i (h : i < us.length) (h' : i < bs.length), OwnL w B us[i] bs[i]
  gs : ∀ i (h : i < us.length) k, us[i].ownBlock = some k → G k
  inj : ∀ i j (hi : i < us.length) (hj : j < us.length) k, us[i].ownBlock = some k → us[j].ownBlock = some k → i = j
theorem own_blk {w : World} {B : Nat} {t : TypeId} {v : Value} {n : Nat} {xs : List Value} (h : w.ownsRow B t 1 v n xs) : ∀ k, v.ownBlock = some k → ∃ c, w.heap[k]? = some (.cells c t (0, 0)) := by
  intro k hk
  rcases h.2 with ⟨rfl, _⟩ | ⟨g, cap, cur, rfl, _, hg, _⟩
  · cases hk
  · cases hk; exact ⟨cur, hg⟩
theorem own_of {w w' : World} {B : Nat} {t : TypeId} {v : Value} {n : Nat} {xs : List Value} (h : w.ownsRow B t 1 v n xs) (hb : ∀ k, v.ownBlock = some k → w'.heap[k]? = w.heap[k]?) : w'.ownsRow B t 1 v n xs := by
  refine ⟨h.1, ?_⟩
  rcases h.2 with h0 | ⟨g, cap, cur, rfl, hb', hg, hr⟩
  · exact .inl h0
  · exact .inr ⟨g, cap, cur, rfl, hb', (hb g rfl).trans hg, hr⟩
namespace TopB
variable {w w' : World} {B : Nat} {G G' : Nat → Prop} {v : Value} {us : List Value} {bs : List Tx}
theorem nil (w : World) (B : Nat) (G : Nat → Prop) : TopB w B G (.slice none 0 0) [] [] :=
  ⟨World.ownsRow_nil _ _ _ _, rfl, fun i h => absurd h (by simp), fun i h => absurd h (by simp), fun i j h => absurd h (by simp)⟩
/-- what is not touched is as it was -/
theorem kp {S : Nat → Prop} (h : TopB w B G v us bs) (hk : Kp S w w') (h1 : ∀ k c, S k → w.heap[k]? ≠ some (.cells c 42 (0, 0))) (h2 : ∀ k, S k → ¬ G k) : TopB w' B G v us bs := by
  refine ⟨own_of h.top fun k e => ?_, h.len, fun i hi hi' => (h.rows i hi hi').kp hk fun k e hs => h2 k hs (h.gs i hi k e), h.gs, h.inj⟩
  obtain ⟨c, hc⟩ := own_blk h.top k e
  exact hk.block k (heap_lt hc) fun hs => h1 k c hs hc
/-- the same, told by what lies there -/
theorem kpT {S : Nat → Prop} (h : TopB w B G v us bs) (hk : Kp S w w') (h1 : ∀ k c, S k → w.heap[k]? ≠ some (.cells c 42 (0, 0))) (h2 : ∀ k c, S k → w.heap[k]? ≠ some (.cells c 5 (0, 0))) : TopB w' B G v us bs := by
  refine ⟨own_of h.top fun k e => ?_, h.len, fun i hi hi' => (h.rows i hi hi').kp hk fun k e hs => ?_, h.gs, h.inj⟩
  · obtain ⟨c, hc⟩ := own_blk h.top k e
    exact hk.block k (heap_lt hc) fun hs => h1 k c hs hc
  · obtain ⟨c, hc⟩ := (h.rows i hi hi').block k e
    exact h2 k c hs hc
theorem old (h : TopB w B G v us bs) (hb : Below w.heap.size w w') : TopB w' B G v us bs :=
  h.kp (S := fun _ => False) (Kp.of_below hb) (fun _ _ h => h.elim) (fun _ h => h.elim)
theorem mono (h : TopB w B G v us bs) (hg : ∀ k, G k → G' k) : TopB w B G' v us bs := ⟨h.top, h.len, h.rows, fun i hi k e => hg k (h.gs i hi k e), h.inj⟩
/-- all its rows are there -/
theorem there (h : TopB w B G v us bs) : TopB w B (fun k => G k ∧ k < w.heap.size) v us bs :=
  ⟨h.top, h.len, h.rows, fun i hi k e => ⟨h.gs i hi k e, (h.rows i hi (by rw [← h.len]; exact hi)).lt k e⟩, h.inj⟩
/-- as a value -/
theorem val (h : TopB w B G v us bs) : ∃ A C, v = .slice A bs.length C ∧ bs.length ≤ C ∧ C ≤ maxLen ∧ (A = none → bs.length = 0 ∧ C = 0) := by
  rcases h.top.2 with ⟨rfl, h0⟩ | ⟨g, cap, cur, rfl, _, _, hnc, hcm, _⟩
  · have : bs.length = 0 := by rw [← h.len, h0]
    exact ⟨none, 0, by rw [this], by omega, by decide, fun _ => ⟨this, rfl⟩⟩
  · exact ⟨_, cap, by rw [← h.len], by rw [← h.len]; exact hnc, hcm, fun h => by cases h⟩
/-- as what reads -/
theorem rdB {A : Option Addr} {n C : Nat} (h : TopB w B G (.slice A n C) us bs) : RdB w A bs (fun k => B ≤ k) := by
  intro hn
  rcases h.top.2 with ⟨e, h0⟩ | ⟨g, cap, cur, e, hb, hg, hnc, _, hs, ht⟩
  · have := h.len; omega
  · injection e with e1 e2 e3
    subst e1
    refine ⟨g, 0, rfl, hb, fun i hi => ?_⟩
    have hi' : i < us.length := by rw [h.len]; exact hi
    obtain ⟨A', C', hv, h1, -, h2, h3⟩ := (h.rows i hi' hi).rd
    refine ⟨A', C', ?_, h1, h2, h3.mono fun _ h => h.1⟩
    have hx : us[i]? = some (.slice A' bs[i].length C') := by rw [List.getElem?_eq_getElem hi', hv]
    rw [← ht, List.getElem?_take, if_pos (by omega), Array.getElem?_toList] at hx
    rw [Nat.zero_add, heap_cell hg, hx]
/-- a row is appended -/
theorem push (h : TopB w B G v us bs) {w1 : World} (hw : Below w.heap.size w w1) {u : Value} {s : Tx} (hu : OwnL w1 B u s) (hun : ∀ k, u.ownBlock = some k → w.heap.size ≤ k) (hG : ∀ k, u.ownBlock = some k → G k) {v' : Value} (ho : w'.ownsRow B 42 1 v' (us.length + 1) (us ++ [u])) (hg : w1.grownBy w' v.ownBlock) :
    TopB w' B G v' (us ++ [u]) (bs ++ [s]) := by
  have keep : ∀ {x : Value} {l : Tx}, OwnL w1 B x l → OwnL w' B x l := fun {x l} hx => hx.of_block fun k e => by
    refine hg.block k (hx.lt k e) fun e' => ?_
    obtain ⟨c, hc⟩ := own_blk h.top k e'.symm
    obtain ⟨c', hc'⟩ := hx.block k e
    rw [hw.block k (heap_lt hc), hc] at hc'
    injection hc' with hc'
    injection hc' with _ e2
    exact absurd e2 (by decide)
  have oldlt : ∀ i (hi : i < us.length) k, us[i].ownBlock = some k → k < w.heap.size := fun i hi k e => (h.rows i hi (by rw [← h.len]; exact hi)).lt k e
  refine ⟨by simpa using ho, by simp [h.len], fun i hi hi' => ?_, fun i hi k e => ?_, fun i j hi hj k e e' => ?_⟩
  · rcases Nat.lt_or_ge i us.length with hl | hl
    · rw [List.getElem_append_left hl, List.getElem_append_left (by rw [← h.len]; exact hl)]
      exact keep ((h.rows i hl (by rw [← h.len]; exact hl)).of_block fun k e => hw.block k (oldlt i hl k e))
    · have : i = us.length := by simp at hi; omega
      subst this
      have e2 : (bs ++ [s])[us.length] = s := by simp [h.len]
      rw [e2]
      simp only [List.getElem_concat_length]
      exact keep hu
  · rcases Nat.lt_or_ge i us.length with hl | hl
    · rw [List.getElem_append_left hl] at e
      exact h.gs i hl k e
    · have : i = us.length := by simp at hi; omega
      subst this
      simp only [List.getElem_concat_length] at e
      exact hG k e
  · rcases Nat.lt_or_ge i us.length with hl | hl <;> rcases Nat.lt_or_ge j us.length with hm | hm
    · rw [List.getElem_append_left hl] at e
      rw [List.getElem_append_left hm] at e'
      exact h.inj i j hl hm k e e'
    · have : j = us.length := by simp at hj; omega
      subst this
      rw [List.getElem_append_left hl] at e
      simp only [List.getElem_concat_length] at e'
      have := oldlt i hl k e
      have := hun k e'
      omega
    · have : i = us.length := by simp at hi; omega
      subst this
      rw [List.getElem_append_left hm] at e'
      simp only [List.getElem_concat_length] at e
      have := oldlt j hm k e'
      have := hun k e
      omega
    · simp at hi hj; omega
end TopB
/-- append of one row -/
theorem wpList_append_tp (w : World) {ops : Array Oper} {rest : List Oper} {o : Oper} {a : Act} {Q : Exit → Act → World → Prop} (hgd : o.guard = none) (s x : Operand)
    (ho : o.op = .call { callee := .builtin .append, args := #[s, x], argTypes := #[47, 47] })
    (base : Nat) (v : Value) (us : List Value) (hs : a.eval s = v) (hown : w.ownsRow base 42 1 v us.length us) (hl : us.length ≤ 1000000)
    (b off c : Nat) (A : Option Addr) (L C : Nat) (hx : a.eval x = .slice (some ⟨b, off, none⟩) 1 c) (hc : w.cell? ⟨b, off, none⟩ = some (.slice A L C)) (hbase : base ≤ w.heap.size)
    (h : ∀ v' w', w'.ownsRow base 42 1 v' (us.length + 1) (us ++ [.slice A L C]) → w.grownBy w' v.ownBlock → wpList Tryz.prog ops Q rest (a.put o.dst v') w') : wpList Tryz.prog ops Q (o :: rest) a w := by
  obtain ⟨i0, hi, hz0, hz1, hz2⟩ := info_parts infoRowT
  refine wpList_append_opt w hgd s x 47 ho base 42 i0 (.slice none 0 0) 24 Tryz.underlying47 hi hz0 hz1 hz2 rfl v us.length us hs hown (some ⟨b, off, none⟩) 1 c [.slice A L C] hx (fun h => by cases h) rfl (fun ad had j u hu => ?_) (fun u hu => by rw [List.mem_singleton.1 hu]; rfl) (by unfold maxLen; omega) (by omega) hbase h
  cases had
  have hj : j = 0 := by
    rcases Nat.eq_zero_or_pos j with h0 | h0
    · exact h0
    · rw [List.getElem?_eq_none (by simp; omega)] at hu; cases hu
  subst hj
  cases hu
  exact hc
end Go.Proofs.YtfkoomldncfdnaaGreat
namespace Go.Proofs.YtfkoomldncfdnaaGreat
open Go.RowKit Mx
open Pt (Tx)

/-- a block whose cells are of type t -/
def Typed (w : World) (g : Nat) (t : TypeId) : Prop := ∃ c, w.heap[g]? = some (.cells c t (0, 0))
theorem Typed.ne {w : World} {g g' : Nat} {t t' : TypeId} (h : Typed w g t) (h' : Typed w g' t') (ht : t ≠ t') : g ≠ g' := by
  rintro rfl
  obtain ⟨c, e⟩ := h
  obtain ⟨c', e'⟩ := h'
  rw [e] at e'
  injection e' with e'
  injection e' with _ e2
  exact ht e2
theorem RowV.typed {w : World} {t : TypeId} {g n : Nat} {V : Nat → Value} (h : RowV w t g n V) : Typed w g t := by
  obtain ⟨c, hb, _⟩ := h
  exact ⟨c, hb⟩
/-- v is an own slice of n slices, each an own row of m elements, row i as X has it -/
def OneP (w : World) (B m : Nat) (v : Value) (n : Nat) (X : Mat) : Prop :=
  ∃ us, w.ownsRow B 42 1 v n us ∧ ∀ i, i < n → ∃ g c, us[i]? = some (.slice (some ⟨g, 0, none⟩) m c) ∧ m ≤ c ∧ B ≤ g ∧ RowAt w g m (X i)
namespace OneP
variable {w w' : World} {B m n : Nat} {v : Value} {X Y : Mat}
theorem keep (h : OneP w B m v n X) (h1 : ∀ k, v.ownBlock = some k → w'.heap[k]? = w.heap[k]?) (h2 : ∀ g, Typed w g 5 → w'.heap[g]? = w.heap[g]?) : OneP w' B m v n X := by
  obtain ⟨us, ho, hr⟩ := h
  refine ⟨us, own_of ho h1, fun i hi => ?_⟩
  obtain ⟨g, c, e, hc, hg, hrow⟩ := hr i hi
  exact ⟨g, c, e, hc, hg, hrow.of_block (h2 g (RowV.typed hrow))⟩
theorem typed (h : OneP w B m v n X) {k : Nat} (e : v.ownBlock = some k) : Typed w k 42 := by
  obtain ⟨us, ho, _⟩ := h
  exact own_blk ho k e
theorem lt (h : OneP w B m v n X) {k : Nat} (e : v.ownBlock = some k) : B ≤ k ∧ k < w.heap.size := by
  obtain ⟨us, ho, _⟩ := h
  exact ho.lt k e
theorem nil (w : World) (B m : Nat) (X : Mat) : OneP w B m (.slice none 0 0) 0 X := ⟨[], World.ownsRow_nil _ _ _ _, fun i hi => absurd hi (by omega)⟩
theorem congr (h : OneP w B m v n X) (he : ∀ i, i < n → ∀ c, c < m → X i c = Y i c) : OneP w B m v n Y := by
  obtain ⟨us, ho, hr⟩ := h
  refine ⟨us, ho, fun i hi => ?_⟩
  obtain ⟨g, c, e, hc, hg, hrow⟩ := hr i hi
  exact ⟨g, c, e, hc, hg, hrow.congr (he i hi)⟩
/-- as a value that reads -/
theorem val (h : OneP w B m v n X) : ∃ A C, v = .slice A n C ∧ n ≤ C ∧ (A = none → n = 0 ∧ C = 0) ∧ RdM w A n (fun _ => m) X (B ≤ ·) := by
  obtain ⟨us, ho, hr⟩ := h
  rcases ho.2 with ⟨e, h0⟩ | ⟨g, cap, cur, e, hb, hg, hnc, hcm, hs, ht⟩
  · exact ⟨none, 0, by rw [e, h0], by omega, fun _ => ⟨h0, rfl⟩, fun hn => by omega⟩
  · refine ⟨_, cap, e, hnc, (fun h => by cases h), fun hn => ⟨g, 0, rfl, hb, fun i hi => ?_⟩⟩
    obtain ⟨r, c, e', hc, hg', hrow⟩ := hr i hi
    refine ⟨_, c, ?_, hrow.rd _ hg'⟩
    rw [Nat.zero_add, heap_cell hg]
    rw [← ht, List.getElem?_take] at e'
    split at e'
    · rw [Array.getElem?_toList] at e'; exact e'
    · cases e'
end OneP
/-- block b holds p such slices, no two in one block, of N j rows each -/
structure OutP (w : World) (B b p m : Nat) (V : Nat → Value) (N : Nat → Nat) (X : Nat → Mat) : Prop where
  lo : B ≤ b
  top : 0 < p → RowV w 47 b p V
  rows : ∀ j, j < p → OneP w B m (V j) (N j) (X j)
  inj : ∀ i j, i < p → j < p → ∀ k, (V i).ownBlock = some k → (V j).ownBlock = some k → i = j
namespace OutP
variable {w w1 w2 : World} {B b p m : Nat} {V : Nat → Value} {N N' : Nat → Nat} {X Y : Nat → Mat}
theorem old (h : OutP w B b p m V N X) (hb : Below w.heap.size w w2) : OutP w2 B b p m V N X :=
  ⟨h.lo, fun hp => (h.top hp).old hb, fun j hj => (h.rows j hj).keep (fun k e => hb.block k ((h.rows j hj).lt e).2) (fun g hg => hb.block g (by obtain ⟨c, e⟩ := hg; exact heap_lt e)), h.inj⟩
theorem congr (h : OutP w B b p m V N X) (he : ∀ j, j < p → ∀ i, i < N j → ∀ c, c < m → X j i c = Y j i c) : OutP w B b p m V N Y :=
  ⟨h.lo, h.top, fun j hj => (h.rows j hj).congr (he j hj), h.inj⟩
theorem counts (h : OutP w B b p m V N X) (he : ∀ j, j < p → N j = N' j) : OutP w B b p m V N' X :=
  ⟨h.lo, h.top, fun j hj => by rw [← he j hj]; exact h.rows j hj, h.inj⟩
/-- all of them are empty -/
theorem start (w : World) (B b p m : Nat) (X : Nat → Mat) (hb : B ≤ b) (h : 0 < p → RowV w 47 b p (fun _ => .slice none 0 0)) : OutP w B b p m (fun _ => .slice none 0 0) (fun _ => 0) X :=
  ⟨hb, h, fun j _ => OneP.nil _ _ _ _, fun i j _ _ k e => by cases e⟩
/-- a row is appended to one of them, and that is stored -/
theorem push (h : OutP w B b p m V N X) {j : Nat} (hj : j < p) {us : List Value} (hus : w.ownsRow B 42 1 (V j) (N j) us)
    (hrows : ∀ i, i < N j → ∃ g c, us[i]? = some (.slice (some ⟨g, 0, none⟩) m c) ∧ m ≤ c ∧ B ≤ g ∧ RowAt w g m (X j i)) (hb : Below w.heap.size w w1) (hg : w1.grownBy w2 (V j).ownBlock) {g cap : Nat} {r c : Nat} {f : Nat → Fe}
    (hown : w2.ownsRow B 42 1 (.slice (some ⟨g, 0, none⟩) (N j + 1) cap) (N j + 1) (us ++ [.slice (some ⟨r, 0, none⟩) m c])) (hat : (V j).ownBlock = some g ∨ w.heap.size ≤ g) (hc : m ≤ c) (hr : B ≤ r) (hrow : RowAt w r m f) :
    OutP (w2.setCell ⟨b, j, none⟩ (.slice (some ⟨g, 0, none⟩) (N j + 1) cap)) B b p m (fun i => if i = j then .slice (some ⟨g, 0, none⟩) (N j + 1) cap else V i) (fun i => if i = j then N j + 1 else N i) (fun i => if i = j then (fun t => if t = N j then f else X j t) else X i) := by
  have hjo := h.rows j hj
  have htop := h.top (by omega)
  have htb := htop.typed
  -- blocks of another type, or of another row, are as they were
  have k2 : ∀ k, k < w.heap.size → (V j).ownBlock ≠ some k → w2.heap[k]? = w.heap[k]? := fun k hk hne =>
    (hg.block k (Nat.lt_of_lt_of_le hk hb.size) (fun e => hne e.symm)).trans (hb.block k hk)
  have kT : ∀ k t, Typed w k t → t ≠ 42 → w2.heap[k]? = w.heap[k]? := fun k t hk ht => by
    obtain ⟨c, e⟩ := hk
    exact k2 k (heap_lt e) fun e' => Typed.ne ⟨c, e⟩ (hjo.typed e') ht rfl
  have kS : ∀ k, k ≠ b → ∀ v, (w2.setCell ⟨b, j, none⟩ v).heap[k]? = w2.heap[k]? := fun k hk v => Below.heap_setCell _ _ _ _ (fun e => hk e)
  have t2 : RowV w2 47 b p V := htop.of_block (kT b _ htb (by decide))
  have k8 : ∀ k, Typed w k 5 → ∀ v, (w2.setCell ⟨b, j, none⟩ v).heap[k]? = w.heap[k]? := fun k hk v => (kS k (Typed.ne hk htb (by decide)) v).trans (kT k _ hk (by decide))
  have hgb : g ≠ b := by
    have h1 : Typed w2 g 42 := own_blk hown g rfl
    exact Typed.ne h1 t2.typed (by decide)
  refine ⟨h.lo, fun _ => t2.set j _, fun i hi => ?_, fun i i' hi hi' k e e' => ?_⟩
  · by_cases e : i = j
    · subst e
      simp only [if_true]
      refine ⟨_, own_of hown (fun k e => ?_), fun t ht => ?_⟩
      · cases e; exact kS g hgb _
      · have hlen : us.length = N i := by have := hus.1; omega
        by_cases et : t = N i
        · refine ⟨r, c, by rw [et, List.getElem?_append_right (by omega), hlen]; simp, hc, hr, ?_⟩
          simp only [et, if_true]
          exact hrow.of_block (k8 r (RowV.typed hrow) _)
        · obtain ⟨g', c', e1, e2, e3, e4⟩ := hrows t (by omega)
          refine ⟨g', c', by rw [List.getElem?_append_left (by omega)]; exact e1, e2, e3, ?_⟩
          simp only [et, if_false]
          exact e4.of_block (k8 g' (RowV.typed e4) _)
    · simp only [e, if_false]
      refine (h.rows i hi).keep (fun k ek => ?_) (fun x hx => k8 x hx _)
      have hk := (h.rows i hi).lt ek
      exact (kS k (Typed.ne ((h.rows i hi).typed ek) htb (by decide)) _).trans (k2 k hk.2 fun ej => e (h.inj i j hi hj k ek ej))
  · have key : ∀ i, i < p → i ≠ j → ∀ k, (V i).ownBlock = some k → k ≠ g := fun i hi hne k ek hkg => by
      subst hkg
      rcases hat with hat | hat
      · exact hne (h.inj i j hi hj k ek hat)
      · have := ((h.rows i hi).lt ek).2; omega
    by_cases ei : i = j <;> by_cases ei' : i' = j
    · omega
    · simp only [ei, if_true] at e
      simp only [ei', if_false] at e'
      cases e
      exact absurd rfl (key i' hi' ei' _ e')
    · simp only [ei', if_true] at e'
      simp only [ei, if_false] at e
      cases e'
      exact absurd rfl (key i hi ei _ e)
    · simp only [ei, if_false] at e
      simp only [ei', if_false] at e'
      exact h.inj i i' hi hi' k e e'
/-- as what reads -/
theorem rdP (h : OutP w B b p m V N X) {n : Nat} (hn : ∀ j, j < p → N j = n) : RdP w (some ⟨b, 0, none⟩) p n m X (B ≤ ·) := fun hp => by
  refine ⟨b, 0, rfl, h.lo, fun j hj => ?_⟩
  have h1 := h.rows j hj
  rw [hn j hj] at h1
  obtain ⟨A, C, e, hc, ha, hr⟩ := h1.val
  refine ⟨A, C, ?_, hc, ha, hr⟩
  rw [Nat.zero_add, (h.top hp).cell hj, e]
end OutP
end Go.Proofs.YtfkoomldncfdnaaGreat
namespace Go.Proofs.YtfkoomldncfdnaaGreat
open Go.RowKit Mx
open Pt (Tx)

/-- the parity of tapes: of each tape of parity each row -/
def St.X (ts : List St.T) (p : Nat) : Nat → Mat := fun j n => par ts.length p (St.mat (St.row ts (n : Int))) j
open Classical in
/-- what Parity answers -/
def ParA (ts : List St.T) (p : Int) (w : World) (e : Ending) (w' : World) : Prop :=
  if St.Ok ts p then ∃ A C, e = .returned (.tuple #[.slice A p.toNat C, .int .i64 0]) ∧ p.toNat ≤ C ∧ (A = none → p.toNat = 0 ∧ C = 0) ∧ RdP w' A p.toNat (St.len ts) 79 (St.X ts p.toNat) (w.heap.size ≤ ·) ∧ Below w.heap.size w w'
  else e = .returned (.tuple #[.slice none 0 0, .int .i64 1]) ∧ Below w.heap.size w w'
theorem ParA.no {ts : List St.T} {p : Int} {w w' : World} (h : ¬ St.Ok ts p) (hb : Below w.heap.size w w') : ParA ts p w (.returned (.tuple #[.slice none 0 0, .int .i64 1])) w' := by
  unfold ParA; rw [if_neg h]; exact ⟨rfl, hb⟩
theorem ParA.yes {ts : List St.T} {p C : Nat} {w w' : World} {A : Option Addr} (h : St.Ok ts (p : Int)) (hC : p ≤ C) (hA : A = none → p = 0 ∧ C = 0) (hr : RdP w' A p (St.len ts) 79 (St.X ts p) (w.heap.size ≤ ·)) (hb : Below w.heap.size w w') :
    ParA ts (p : Int) w (.returned (.tuple #[.slice A p C, .int .i64 0])) w' := by
  unfold ParA; rw [if_pos h]; exact ⟨A, C, rfl, hC, hA, hr, hb⟩
theorem St.enc_arg {ts : List St.T} {p : Int} {L : Nat → Nat} (hl : ∀ i, i < ts.length → L i = L 0) : EncOk ts.length L p ↔ St.Arg ts p :=
  ⟨fun h => ⟨h.1, h.2.2.1, by have := h.2.2.2; omega⟩, fun h => ⟨h.1, hl, h.2.1, by have := h.2.2; omega⟩⟩
/-- rows that were made: new memory -/
def Made (w : World) (A : Option Addr) (p B : Nat) (Y : Mat) : Prop :=
  ∀ j, j < p → ∃ b r c, A = some ⟨b, 0, none⟩ ∧ B ≤ b ∧ w.cell? ⟨b, j, none⟩ = some (.slice (some ⟨r, 0, none⟩) 79 c) ∧ 79 ≤ c ∧ B ≤ r ∧ RowAt w r 79 (Y j)
theorem Made.kp {w w' : World} {A : Option Addr} {p B : Nat} {Y : Mat} {S : Nat → Prop} (h : Made w A p B Y) (hk : Kp S w w') (hs : ∀ x, S x → x < B) : Made w' A p B Y := fun j hj => by
  obtain ⟨b, r, c, e, hb, hc, hC, hr, hR⟩ := h j hj
  exact ⟨b, r, c, e, hb, hk.cell hc (fun h => by have : b < B := hs _ h; omega), hC, hr, hR.kp hk (fun h => by have : r < B := hs _ h; omega)⟩
theorem EncNew.made {n p : Nat} {L : Nat → Nat} {D : Mat} {w w' : World} {e : Ending} (h : EncNew n L D (p : Int) w e w') (hok : EncOk n L (p : Int)) (hL : L 0 = 79) :
    ∃ A C, e = .returned (.tuple #[.slice A p C, .int .i64 0]) ∧ Made w' A p w.heap.size (par n p D) ∧ Below w.heap.size w w' := by
  unfold EncNew at h
  rw [if_pos hok] at h
  rcases h with ⟨h0, rfl, hb⟩ | ⟨h0, b, q, G, C, rfl, _, hb, hO, hB⟩
  · obtain rfl : p = 0 := by omega
    exact ⟨Option.none, 0, rfl, fun j hj => absurd hj (by omega), hb⟩
  · simp only [Int.toNat_natCast, hL] at hO ⊢
    refine ⟨_, q, rfl, fun j hj => ⟨b, G j, C j, rfl, hb, ?_, hO.cap j hj, hO.lo j hj, hO.rows j hj⟩, hB⟩
    rw [hO.top.cell hj, if_pos hj]
/-- the first j tapes of parity have row n already -/
structure Inn (w w2 wq : World) (b p n j : Nat) (V0 : Nat → Value) (X : Nat → Mat) : Prop where
  out : ∃ V, OutP wq w.heap.size b p 79 V (fun i => if i < j then n + 1 else n) X ∧ ∀ i, j ≤ i → i < p → V i = V0 i
  kp : Kp (fun x => x = b ∨ ∃ i, i < p ∧ (V0 i).ownBlock = some x) w2 wq
namespace Inn
variable {w w2 wq : World} {b p n j : Nat} {V0 : Nat → Value} {X : Nat → Mat}
theorem start (h : OutP w2 w.heap.size b p 79 V0 (fun _ => n) X) : Inn w w2 w2 b p n 0 V0 X :=
  ⟨⟨V0, h.counts fun i _ => by rw [if_neg (by omega)], fun _ _ _ => rfl⟩, Kp.refl _ _⟩
theorem done (h : Inn w w2 wq b p n p V0 X) : ∃ V, OutP wq w.heap.size b p 79 V (fun _ => n + 1) X := by
  obtain ⟨V, h1, _⟩ := h.out
  exact ⟨V, h1.counts fun i hi => by rw [if_pos hi]⟩
/-- the next tape's row -/
theorem next (h : Inn w w2 wq b p n j V0 X) (hj : j < p) : ∃ A C us, wq.cell? ⟨b, j, none⟩ = some (.slice A n C) ∧ wq.frozen? ⟨b, j, none⟩ = false ∧ b < wq.heap.size ∧ wq.ownsRow w.heap.size 42 1 (.slice A n C) n us
    ∧ ∀ (w1 w3 : World) (g cap r c : Nat) (f : Nat → Fe), Below wq.heap.size wq w1 → w1.grownBy w3 (Value.slice A n C).ownBlock → w3.ownsRow w.heap.size 42 1 (.slice (some ⟨g, 0, none⟩) (n + 1) cap) (n + 1) (us ++ [.slice (some ⟨r, 0, none⟩) 79 c])
      → ((Value.slice A n C).ownBlock = some g ∨ wq.heap.size ≤ g) → 79 ≤ c → w.heap.size ≤ r → RowAt wq r 79 f → (∀ x, x < 79 → f x = X j n x)
      → w3.cell? ⟨b, j, none⟩ = some (.slice A n C) ∧ w3.frozen? ⟨b, j, none⟩ = false ∧ Inn w w2 (w3.setCell ⟨b, j, none⟩ (.slice (some ⟨g, 0, none⟩) (n + 1) cap)) b p n (j + 1) V0 X := by
  obtain ⟨V, hO, hV⟩ := h.out
  have hjo := hO.rows j hj
  rw [if_neg (by omega)] at hjo
  have htop := hO.top (by omega)
  obtain ⟨A, C, hv, -, -, -⟩ := hjo.val
  obtain ⟨us, hown, hrows⟩ := hjo
  have hc := htop.cell hj
  have hf := htop.frozen j
  rw [hv] at hc
  refine ⟨A, C, us, hc, hf, htop.lt, by rw [← hv]; exact hown, fun w1 w3 g cap r c f hb hg ho hat hC hr hR hX => ?_⟩
  rw [← hv] at hg hat
  have hne : some b ≠ (V j).ownBlock := fun e => by
    obtain ⟨x, hx⟩ := own_blk hown b e.symm
    obtain ⟨y, hy⟩ := htop.typed
    rw [hx] at hy
    injection hy with hy
    injection hy with _ e2
    exact absurd e2 (by decide)
  have hblk : w3.heap[b]? = wq.heap[b]? := (hg.block b (Nat.lt_of_lt_of_le htop.lt hb.size) hne).trans (hb.block b htop.lt)
  refine ⟨(World.cell?_of_block hblk).trans hc, (htop.of_block hblk).frozen j, ⟨?_, ?_⟩⟩
  · have hcnt : (if j < j then n + 1 else n) = n := if_neg (by omega)
    have := hO.push hj (us := us) (by simp only [hcnt]; exact hown) (by simp only [hcnt]; exact hrows) hb hg (g := g) (cap := cap) (r := r) (c := c) (f := f) (by simp only [hcnt]; exact ho) hat hC hr hR
    rw [hcnt] at this
    refine ⟨_, (this.counts (N' := fun i => if i < j + 1 then n + 1 else n) fun i hi => ?_).congr (Y := X) fun i hi t ht x hx => ?_, fun i hi hip => ?_⟩
    · by_cases e : i = j
      · simp [e]
      · by_cases e' : i < j
        · simp [e, e', show i < j + 1 by omega]
        · simp [e, e', show ¬ i < j + 1 by omega]
    · by_cases e : i = j
      · subst e
        simp only [if_true]
        by_cases e' : t = n
        · simp only [e', if_true]; exact hX x hx
        · simp only [e', if_false]
      · simp only [e, if_false]
    · simp only [show ¬ i = j by omega, if_false]
      exact hV i (by omega) hip
  · refine (((h.kp.trans (Kp.of_below hb)).grown hg fun k e => ?_)).setCell (p := ⟨b, j, none⟩) (.inl rfl) _
    exact .inr ⟨j, hj, by rw [← hV j (Nat.le_refl _) hj]; exact e⟩
end Inn
end Go.Proofs.YtfkoomldncfdnaaGreat
namespace Go.Proofs.YtfkoomldncfdnaaGreat
open Go.RowKit
open Pt (Tx)

/-- the parity's blocks of tape i -/
def Gr.rowsOf (data : List St.T) (p i : Nat) : List Tx := (List.range (St.len data)).map fun n => lst (St.X data p i n) 79
theorem Gr.rowsOf_len (data : List St.T) (p i : Nat) : (Gr.rowsOf data p i).length = St.len data := by simp [Gr.rowsOf]
theorem Gr.rowsOf_79 {data : List St.T} {p i : Nat} {b : Tx} (h : b ∈ Gr.rowsOf data p i) : b.length = 79 := by
  obtain ⟨n, _, rfl⟩ := List.mem_map.1 h
  exact lst_len _ _
def Gr.madeT (data blank : List St.T) (number : Int) (i : Nat) (t : St.T) : St.T := ⟨t.label, t.cap, framedL t.label (says (Gr.rowsOf data blank.length i) (Gr.sealOf data blank number (data.length + i))), false⟩
def Gr.made (data blank : List St.T) (number : Int) : List St.T := blank.mapIdx (Gr.madeT data blank number)
theorem Gr.made_len (data blank : List St.T) (number : Int) : (Gr.made data blank number).length = blank.length := List.length_mapIdx
theorem Gr.made_at {data blank : List St.T} {number : Int} {i : Nat} (h : i < blank.length) (h' : i < (Gr.made data blank number).length) : (Gr.made data blank number)[i] = Gr.madeT data blank number i blank[i] := by simp [Gr.made]
/-- why none, but for what Parity refuses -/
def Gr.chk (data blank : List St.T) (number : Int) : Int :=
  checkE (decide (Rc.SOk (Gr.sealOf data blank number 0))) (data.any lostB) (blank.any lostB) (decide (St.len data = 0)) (data.all goodB) (blank.any hasB) (blank.any (smallB (St.len data)))
noncomputable def Gr.mkE (data blank : List St.T) (number : Int) : Int := if Gr.chk data blank number ≠ 0 then Gr.chk data blank number else St.err data (blank.length : Int)
theorem checkE_zero {b1 b2 b3 b4 b5 b6 b7 : Bool} : checkE b1 b2 b3 b4 b5 b6 b7 = 0 ↔ b1 = true ∧ b2 = false ∧ b3 = false ∧ b4 = false ∧ b5 = true ∧ b6 = false ∧ b7 = false := by
  cases b1 <;> cases b2 <;> cases b3 <;> cases b4 <;> cases b5 <;> cases b6 <;> cases b7 <;> simp [checkE]
theorem Gr.chk_seal {data blank : List St.T} {number : Int} (h : Gr.chk data blank number = 0) : Rc.SOk (Gr.sealOf data blank number 0) := of_decide_eq_true (checkE_zero.1 h).1
theorem Gr.seal_labels {data blank : List St.T} {number : Int} (h : Rc.SOk (Gr.sealOf data blank number 0)) {t : St.T} (ht : t ∈ data ++ blank) : 1 ≤ t.label ∧ t.label ≤ 2147483647 := by
  have h2 := h.2
  exact h2.1 t.label (List.mem_map.2 ⟨t, ht, rfl⟩)
theorem Gr.seal_few {data blank : List St.T} {number : Int} (h : Rc.SOk (Gr.sealOf data blank number 0)) : 1 ≤ data.length ∧ 1 ≤ blank.length ∧ data.length + blank.length ≤ 14 := by
  obtain ⟨⟨_, h2, h3, h4, _⟩, _⟩ := h
  have h2' : (1 : Int) ≤ (data.length : Int) := h2
  have h3' : (1 : Int) ≤ (blank.length : Int) := h3
  have h4' : (data.length : Int) + (blank.length : Int) ≤ 14 := h4
  omega
/-- all that is said has a block -/
theorem says_ok {label : Int} {rows : List Tx} {s : Rc.S} (hlab : 1 ≤ label ∧ label ≤ 2147483647) (hr : ∀ b ∈ rows, b.length ≤ 79) (hl : rows.length ≤ 1000000) : ∀ (i : Nat) (u : Int × Tx), (says rows s)[i]? = some u → Fm.Ok ⟨u.1, label, (i : Int), u.2⟩ := by
  intro i u hu
  have hi : i < rows.length + 2 := by
    have := (List.getElem?_eq_some_iff.1 hu).1
    simpa [says] using this
  have hu' : u ∈ says rows s := List.mem_of_getElem? hu
  have key : (1 ≤ u.1 ∧ u.1 ≤ 6) ∧ u.2.length ≤ Fm.room u.1 := by
    unfold says at hu'
    rcases List.mem_append.1 hu' with h | h
    · rcases List.mem_cons.1 h with rfl | h
      · exact ⟨⟨by decide, by decide⟩, by decide⟩
      · obtain ⟨b, hb, rfl⟩ := List.mem_map.1 h
        exact ⟨⟨(by decide : (1 : Int) ≤ 6), (by decide : (6 : Int) ≤ 6)⟩, hr b hb⟩
    · rw [List.mem_singleton.1 h]
      refine ⟨⟨(by decide : (1 : Int) ≤ 5), (by decide : (5 : Int) ≤ 6)⟩, ?_⟩
      have h1 := Rc.sput_le s
      show (Rc.sput s).length ≤ 64
      omega
  exact ⟨⟨key.1.1, key.1.2, hlab.1, hlab.2, Int.natCast_nonneg _, by show (i : Int) ≤ _; omega⟩, key.2⟩
/-- tapes are laid one by one in a made row -/
structure MadeI (w0 : World) (gm n : Nat) (ts : List St.T) (wr : World) : Prop where
  row : ∃ cur : Array Value, wr.heap[gm]? = some (.cells cur 49 (0, 0)) ∧ n * 4 ≤ cur.size ∧ ∀ i (hi : i < ts.length), ∃ A' C', cur[i * 4]? = some (.int .i64 ts[i].label) ∧ cur[i * 4 + 1]? = some (.int .i64 ts[i].cap) ∧ cur[i * 4 + 2]? = some (.slice A' ts[i].blocks.length C') ∧ cur[i * 4 + 3]? = some (.bool ts[i].lost) ∧ RdB wr A' ts[i].blocks (w0.heap.size ≤ ·)
  lt : gm < w0.heap.size
namespace MadeI
variable {w0 wr w2 : World} {gm n : Nat} {ts : List St.T}
theorem start {w1 : World} {cs : Array Value} (h : w0 = w1.alloc (.cells cs 49)) (hc : n * 4 ≤ cs.size) : MadeI w0 w1.heap.size n [] w0 := by
  have h1 : w0.heap[w1.heap.size]? = some (.cells cs 49) := by rw [h]; exact Go.Deep.blk_alloc_new _ _
  exact ⟨⟨cs, h1, hc, fun i hi => absurd hi (by simp)⟩, heap_lt h1⟩
theorem kp (h : MadeI w0 gm n ts wr) {S : Nat → Prop} (hk : Kp S wr w2) (hS : ∀ k, S k → k ≠ gm ∧ (k < w0.heap.size ∨ wr.heap.size ≤ k)) : MadeI w0 gm n ts w2 := by
  obtain ⟨cur, hg, hs, hr⟩ := h.row
  refine ⟨⟨cur, (hk.block gm (heap_lt hg) fun e => (hS gm e).1 rfl).trans hg, hs, fun i hi => ?_⟩, h.lt⟩
  obtain ⟨A', C', h0, h1, h2, h3, h4⟩ := hr i hi
  exact ⟨A', C', h0, h1, h2, h3, (h4.in_.kp hk fun b hb e => by have := hS b e; omega).mono fun b hb => hb.1⟩
theorem old (h : MadeI w0 gm n ts wr) (hb : Below wr.heap.size wr w2) : MadeI w0 gm n ts w2 :=
  h.kp (S := fun _ => False) (Kp.of_below hb) (fun _ e => e.elim)
theorem four (h : MadeI w0 gm n ts wr) {k : Nat} (hk : k < n) : (∃ v0, wr.cell? ⟨gm, k * 4, none⟩ = some v0) ∧ (∃ v1, wr.cell? ⟨gm, k * 4 + 1, none⟩ = some v1) ∧ (∃ v2, wr.cell? ⟨gm, k * 4 + 2, none⟩ = some v2) ∧ (∃ v3, wr.cell? ⟨gm, k * 4 + 3, none⟩ = some v3) ∧ ∀ j, wr.frozen? ⟨gm, j, none⟩ = false := by
  obtain ⟨cur, hg, hs, _⟩ := h.row
  have hlt : k * 4 + 4 ≤ cur.size := by
    have : (k + 1) * 4 ≤ n * 4 := Nat.mul_le_mul_right _ hk
    omega
  refine ⟨⟨_, (heap_cell hg).trans (Array.getElem?_eq_getElem (by omega))⟩, ⟨_, (heap_cell hg).trans (Array.getElem?_eq_getElem (by omega))⟩, ⟨_, (heap_cell hg).trans (Array.getElem?_eq_getElem (by omega))⟩, ⟨_, (heap_cell hg).trans (Array.getElem?_eq_getElem (by omega))⟩, fun j => heap_frozen hg⟩
theorem set (h : MadeI w0 gm n ts wr) {k : Nat} (hk : k = ts.length) (hkn : k < n) {t : St.T} {A : Option Addr} {C : Nat} (hr : RdB wr A t.blocks (w0.heap.size ≤ ·)) :
    MadeI w0 gm n (ts ++ [t]) ((((wr.setCell ⟨gm, k * 4, none⟩ (.int .i64 t.label)).setCell ⟨gm, k * 4 + 1, none⟩ (.int .i64 t.cap)).setCell ⟨gm, k * 4 + 2, none⟩ (.slice A t.blocks.length C)).setCell ⟨gm, k * 4 + 3, none⟩ (.bool t.lost)) := by
  obtain ⟨cur, hg, hs, hrows⟩ := h.row
  have hkp : Kp (· = gm) wr ((((wr.setCell ⟨gm, k * 4, none⟩ (.int .i64 t.label)).setCell ⟨gm, k * 4 + 1, none⟩ (.int .i64 t.cap)).setCell ⟨gm, k * 4 + 2, none⟩ (.slice A t.blocks.length C)).setCell ⟨gm, k * 4 + 3, none⟩ (.bool t.lost)) :=
    (((Kp.store _ _ _ _).trans (Kp.store _ _ _ _)).trans (Kp.store _ _ _ _)).trans (Kp.store _ _ _ _)
  have hne : ∀ b, w0.heap.size ≤ b → ¬ b = gm := fun b hb e => by have := h.lt; omega
  have hlt : k * 4 + 4 ≤ cur.size := by
    have : (k + 1) * 4 ≤ n * 4 := Nat.mul_le_mul_right _ hkn
    omega
  refine ⟨⟨_, heap_set (heap_set (heap_set (heap_set hg _) _) _) _, by simpa using hs, fun i hi => ?_⟩, h.lt⟩
  rw [List.length_append, List.length_singleton] at hi
  simp only [Array.getElem?_setIfInBounds, Array.size_setIfInBounds]
  by_cases e : i = k
  · have e' : (ts ++ [t])[i]'(by rw [List.length_append, List.length_singleton]; exact hi) = t := by simp [e, hk]
    rw [e']
    refine ⟨A, C, ?_, ?_, ?_, ?_, hr.kp hkp hne⟩
    · rw [e]; simp (disch := omega); omega
    · rw [e]; simp (disch := omega); omega
    · rw [e]; simp (disch := omega); omega
    · rw [e]; simp (disch := omega); omega
  · have hi' : i < ts.length := by omega
    obtain ⟨A', C', h0, h1, h2, h3, h4⟩ := hrows i hi'
    rw [List.getElem_append_left hi']
    refine ⟨A', C', ?_, ?_, ?_, ?_, h4.kp hkp hne⟩
    · rw [if_neg (by omega), if_neg (by omega), if_neg (by omega), if_neg (by omega)]; exact h0
    · rw [if_neg (by omega), if_neg (by omega), if_neg (by omega), if_neg (by omega)]; exact h1
    · rw [if_neg (by omega), if_neg (by omega), if_neg (by omega), if_neg (by omega)]; exact h2
    · rw [if_neg (by omega), if_neg (by omega), if_neg (by omega), if_neg (by omega)]; exact h3
theorem rdT (h : MadeI w0 gm n ts wr) {B : Nat} (hg : B ≤ gm) : RdT wr (some ⟨gm, 0, none⟩) ts (B ≤ ·) := fun _ => by
  obtain ⟨cur, hb, hs, hr⟩ := h.row
  refine ⟨gm, 0, rfl, hg, fun i hi => ?_⟩
  obtain ⟨A', C', h0, h1, h2, h3, h4⟩ := hr i hi
  simp only [Nat.zero_add, heap_cell hb]
  exact ⟨A', C', h0, h1, h2, h3, h4.mono fun b hb => by have := h.lt; omega⟩
end MadeI
/-- parity tapes are answered, in new memory; or why none -/
def MakeA (data blank : List St.T) (number : Int) (w : World) (e : Ending) (w' : World) : Prop :=
  if Gr.mkE data blank number = 0 then ∃ A C, e = .returned (.tuple #[.slice A blank.length C, .int .i64 0]) ∧ blank.length ≤ C ∧ C ≤ maxLen ∧ (A = none → blank.length = 0 ∧ C = 0) ∧ RdT w' A (Gr.made data blank number) (w.heap.size ≤ ·) ∧ Below w.heap.size w w'
  else e = .returned (.tuple #[.slice none 0 0, .int .i64 (Gr.mkE data blank number)]) ∧ Below w.heap.size w w'
end Go.Proofs.YtfkoomldncfdnaaGreat
namespace Go.Proofs.YtfkoomldncfdnaaGreat.Ex
open Pt (Tx)

/-- the block that such a tape has -/
def b (a : Int) : Tx := Fm.blk ⟨1, a, 0, [68]⟩
def d (a cap : Int) : St.T := ⟨a, cap, [b a], false⟩
theorem ok {a : Int} (h : 1 ≤ a ∧ a ≤ 2147483647) : Fm.Ok ⟨1, a, 0, [68]⟩ :=
  ⟨⟨(by decide : (1 : Int) ≤ 1), (by decide : (1 : Int) ≤ 6), h.1, h.2, (by decide : (0 : Int) ≤ 0), (by decide : (0 : Int) ≤ 2147483647)⟩, (by decide : ([68] : Tx).length ≤ Fm.room 1)⟩
theorem b_len {a : Int} (h : 1 ≤ a ∧ a ≤ 2147483647) : (b a).length = 79 := Fm.blk_len (ok h)
theorem good_d {a cap : Int} (h : 1 ≤ a ∧ a ≤ 2147483647) : goodB (d a cap) = true := by
  refine decide_eq_true fun n hn => ?_
  have h0 : n = 0 := by have : n < 1 := hn; omega
  subst h0
  rw [Vo.good_at (t := Gr.vo (d a cap)) (n := 0) (u := ⟨1, a, 0, [68]⟩) rfl rfl (ok h) rfl rfl]; rfl
theorem whole_d {a cap : Int} (h : 1 ≤ a ∧ a ≤ 2147483647) : St.Whole [d a cap] := by
  intro n hn t ht
  have h0 : n = 0 := by
    have : n < max 1 0 := hn
    omega
  subst h0
  rw [List.mem_singleton.1 ht]
  have e : St.blk ((0 : Nat) : Int) (d a cap) = b a := St.blk_some (t := d a cap) rfl (by show 0 < 1; omega) (b_len h)
  rw [e]
  intro e'
  have := b_len h
  rw [e'] at this; cases this
/-- blank tapes with room -/
def Blank (bl : List St.T) : Prop := ∀ t ∈ bl, t.blocks = [] ∧ t.lost = false ∧ 3 ≤ t.cap
theorem chk_zero {a cap : Int} {bl : List St.T} {n : Int} (hn : 1 ≤ n ∧ n ≤ 1073741824) (h0 : 1 ≤ bl.length) (hm : bl.length ≤ 13) (hb : Blank bl) (hl : Rc.Labs (a :: bl.map St.T.label)) : Gr.chk [d a cap] bl n = 0 := by
  have ha := hl.1 a List.mem_cons_self
  unfold Gr.chk
  rw [checkE_zero]
  refine ⟨decide_eq_true ⟨⟨hn, ?_, ?_, ?_, ?_, ?_, ?_⟩, hl⟩, rfl, ?_, rfl, ?_, ?_, ?_⟩
  · show (1 : Int) ≤ ((1 : Nat) : Int); omega
  · show (1 : Int) ≤ (bl.length : Int); omega
  · show ((1 : Nat) : Int) + (bl.length : Int) ≤ 14; omega
  · show (((a :: bl.map St.T.label).length : Nat) : Int) = ((1 : Nat) : Int) + (bl.length : Int)
    rw [List.length_cons, List.length_map]; omega
  · exact Int.natCast_nonneg _
  · show ((0 : Nat) : Int) < (((a :: bl.map St.T.label).length : Nat) : Int)
    rw [List.length_cons]; omega
  · rw [List.any_eq_false]
    intro t ht
    have := (hb t ht).2.1
    simp [lostB, this]
  · rw [List.all_eq_true]
    intro t ht
    rw [List.mem_singleton.1 ht]; exact good_d ha
  · rw [List.any_eq_false]
    intro t ht
    have := (hb t ht).1
    simp [hasB, this]
  · rw [List.any_eq_false]
    intro t ht
    have h3 := (hb t ht).2.2
    have e : St.len [d a cap] = 1 := rfl
    rw [e]
    simp [smallB]
    exact h3
theorem mk_zero {a cap : Int} {bl : List St.T} {n : Int} (hn : 1 ≤ n ∧ n ≤ 1073741824) (h0 : 1 ≤ bl.length) (hm : bl.length ≤ 13) (hb : Blank bl) (hl : Rc.Labs (a :: bl.map St.T.label)) : Gr.mkE [d a cap] bl n = 0 := by
  unfold Gr.mkE
  rw [if_neg (by rw [chk_zero hn h0 hm hb hl]; simp)]
  unfold St.err
  have ha := hl.1 a List.mem_cons_self
  exact if_pos ⟨⟨by show 1 ≤ 1; omega, Int.natCast_nonneg _, by show ((1 : Nat) : Int) + _ ≤ 255; omega⟩, whole_d ha⟩
end Go.Proofs.YtfkoomldncfdnaaGreat.Ex
namespace Go.Proofs.YtfkoomldncfdnaaGreat.Gr
open Pt (Tx)
/-- what is said, with its seal at the end -/
theorem framed_end (label : Int) (rows : List Tx) (s : Rc.S) : framedL label (says rows s) = framedL label ((1, [80]) :: rows.map (fun b => ((6 : Int), b))) ++ [Fm.blk ⟨5, label, ((rows.length + 1 : Nat) : Int), Rc.sput s⟩] := by
  unfold framedL says
  rw [List.mapIdx_append]
  simp
theorem madeT_len (data blank : List St.T) (number : Int) (i : Nat) (t : St.T) : (madeT data blank number i t).blocks.length = St.len data + 2 := by
  show (framedL _ _).length = _
  rw [framedL_len]; simp [says, rowsOf_len]
/-- each made tape ends with its seal -/
theorem made_sealed {data blank : List St.T} {number : Int} (h : Rc.SOk (sealOf data blank number 0)) (hlen : St.len data ≤ 1000000) {i : Nat} (hi : i < blank.length) : sealed (madeT data blank number i blank[i]) = some (sealOf data blank number (data.length + i)) := by
  have hs : Rc.SOk (sealOf data blank number (data.length + i)) := sealOk_index h (by omega)
  have hlab := seal_labels h (List.mem_append_right data (List.getElem_mem hi))
  refine sealed_some rfl hs (pre := framedL blank[i].label ((1, [80]) :: (rowsOf data blank.length i).map (fun b => ((6 : Int), b)))) ?_ hlab ?_
  · show framedL _ _ = _
    rw [framed_end, framedL_len, Rc.sput_ok hs]
    simp [madeT]
  · rw [framedL_len, List.length_cons, List.length_map, rowsOf_len]; omega
theorem seal_label {data blank : List St.T} {number : Int} {i : Nat} (hi : i < blank.length) : (sealOf data blank number (data.length + i)).labels.getD (sealOf data blank number (data.length + i)).index.toNat 0 = blank[i].label := by
  show ((data ++ blank).map St.T.label).getD (((data.length + i : Nat) : Int)).toNat 0 = _
  rw [Int.toNat_natCast, List.getD_eq_getElem?_getD, List.getElem?_map, List.getElem?_append_right (by omega), show data.length + i - data.length = i by omega, List.getElem?_eq_getElem hi]
  rfl
theorem made_cand {data blank : List St.T} {number : Int} (h : Rc.SOk (sealOf data blank number 0)) (hlen : St.len data ≤ 1000000) {i : Nat} (hi : i < blank.length) : cand (madeT data blank number i blank[i]) = some (sealOf data blank number (data.length + i)) :=
  cand_some (made_sealed h hlen hi) (seal_label hi)
end Go.Proofs.YtfkoomldncfdnaaGreat.Gr
namespace Go.Proofs.YtfkoomldncfdnaaGreat.Ex
open Pt (Tx)
/-- the data tape tells of none -/
theorem cand_d {a cap : Int} (h : 1 ≤ a ∧ a ≤ 2147483647) : Gr.cand (d a cap) = none :=
  Gr.cand_none (Gr.sealed_kind (t := d a cap) (Vo.good_at (t := Gr.vo (d a cap)) (n := 0) (u := ⟨1, a, 0, [68]⟩) rfl rfl (ok h) rfl rfl) (by show ¬ ((1 : Int) = 5); decide))
end Go.Proofs.YtfkoomldncfdnaaGreat.Ex
namespace Go.Proofs.YtfkoomldncfdnaaGreat
open Go.RowKit
open Pt (Tx)

/-- -1, 0 or 1 -/
def cmpI (a b : Int) : Int := if a < b then -1 else if b < a then 1 else 0
theorem cmpI_lt {a b : Int} : decide (cmpI a b < 0) = decide (a < b) := by
  unfold cmpI
  by_cases h : a < b
  · rw [if_pos h, decide_eq_true h]; rfl
  · rw [if_neg h, decide_eq_false h]
    by_cases h2 : b < a
    · rw [if_pos h2]; rfl
    · rw [if_neg h2]; rfl
theorem nan_any (a : Int) (w : World) : Calls Tryz.prog 62 #[.int .i64 a] w fun e w' => e = .returned (.bool false) ∧ w = w' := by
  have e1 : (a != a) = false := by simp
  go_enter Tryz.func62, Tryz.ntmps62
  go_wp2
  go_ret
  exact ⟨rfl, rfl⟩
theorem compare_any (a b : Int) (w : World) : Calls Tryz.prog 33 #[.int .i64 a, .int .i64 b] w fun e w' => e = .returned (.int .i64 (cmpI a b)) ∧ w = w' := by
  by_cases h1 : a < b
  · have q1 : decide (a < b) = true := decide_eq_true h1
    have H : Hid (cmpI a b = -1) := Lib.hid (if_pos h1)
    clear h1
    go_enter Tryz.func33, Tryz.ntmps33
    go_wp2_with (go_at_call 62; refine (nan_any _ _).mono ?_; rintro e w' ⟨rfl, hw'⟩; subst hw')
    go_ret
    exact ⟨by rw [H.out]; rfl, rfl⟩
  · have q1 : decide (a < b) = false := decide_eq_false h1
    by_cases h2 : b < a
    · have q2 : decide (b < a) = true := decide_eq_true h2
      have H : Hid (cmpI a b = 1) := Lib.hid ((if_neg h1).trans (if_pos h2))
      clear h1 h2
      go_enter Tryz.func33, Tryz.ntmps33
      go_wp2_with (go_at_call 62; refine (nan_any _ _).mono ?_; rintro e w' ⟨rfl, hw'⟩; subst hw')
      go_ret
      exact ⟨by rw [H.out]; rfl, rfl⟩
    · have q2 : decide (b < a) = false := decide_eq_false h2
      have H : Hid (cmpI a b = 0) := Lib.hid ((if_neg h1).trans (if_neg h2))
      clear h1 h2
      go_enter Tryz.func33, Tryz.ntmps33
      go_wp2_with (go_at_call 62; refine (nan_any _ _).mono ?_; rintro e w' ⟨rfl, hw'⟩; subst hw')
      go_ret
      exact ⟨by rw [H.out]; rfl, rfl⟩
/-- two seals, each in a block of its own -/
theorem two_seals {w wb : World} {n x d p : Int} {A : Option Addr} {m C : Nat} {n' x' d' p' : Int} {A' : Option Addr} {m' C' : Nat} (h : wb = (w.alloc (sealObj n x d p A m C)).alloc (sealObj n' x' d' p' A' m' C')) :
    Below w.heap.size w wb ∧ wb.heap[w.heap.size]? = some (sealObj n x d p A m C) ∧ wb.heap[w.heap.size + 1]? = some (sealObj n' x' d' p' A' m' C') := by
  have hb1 : Below w.heap.size w (w.alloc (sealObj n x d p A m C)) := (Below.refl _ _).alloc (Nat.le_refl _) _
  have h1 : (w.alloc (sealObj n x d p A m C)).heap[w.heap.size]? = some (sealObj n x d p A m C) := Go.Deep.blk_alloc_new _ _
  have h2 := Go.Deep.blk_alloc_new (w.alloc (sealObj n x d p A m C)) (sealObj n' x' d' p' A' m' C')
  rw [show (w.alloc (sealObj n x d p A m C)).heap.size = w.heap.size + 1 by simp] at h2
  subst h
  exact ⟨hb1.alloc hb1.size _, (Below.heap_alloc _ _ _ (heap_lt h1)).trans h1, h2⟩
theorem less_any (n x d p : Int) (A : Option Addr) (m C : Nat) (n' x' d' p' : Int) (A' : Option Addr) (m' C' : Nat) (w : World) :
    Calls Tryz.prog 32 #[.agg #[.int .i64 n, .int .i64 x, .int .i64 d, .int .i64 p, .slice A m C], .agg #[.int .i64 n', .int .i64 x', .int .i64 d', .int .i64 p', .slice A' m' C']] w fun e w' => e = .returned (.int .i64 (cmpI n n')) ∧ Below w.heap.size w w' := by
  obtain ⟨wb, hwb⟩ : ∃ wb, wb = (w.alloc (sealObj n x d p A m C)).alloc (sealObj n' x' d' p' A' m' C') := ⟨_, rfl⟩
  obtain ⟨hB, h1, h2⟩ := two_seals hwb
  obtain ⟨a0, -, -, -, -⟩ := seal5 h1
  obtain ⟨b0, -, -, -, -⟩ := seal5 h2
  have HB := Lib.hid hB
  unfold sealObj at hwb
  rw [hwb] at a0 b0
  have HW := Lib.hid hwb
  clear hwb hB h1 h2
  go_enter Tryz.func32, Tryz.ntmps32
  go_wp2_with (go_at_call 33; refine (compare_any _ _ _).mono ?_; rintro e w' ⟨rfl, hw'⟩; subst hw')
  go_ret
  rw [← HW.out]
  exact ⟨rfl, HB.out⟩
theorem same_any (n x d p : Int) (A : Option Addr) (m C : Nat) (n' x' d' p' : Int) (A' : Option Addr) (m' C' : Nat) (w : World) :
    Calls Tryz.prog 35 #[.agg #[.int .i64 n, .int .i64 x, .int .i64 d, .int .i64 p, .slice A m C], .agg #[.int .i64 n', .int .i64 x', .int .i64 d', .int .i64 p', .slice A' m' C']] w fun e w' => e = .returned (.bool (n == n')) ∧ Below w.heap.size w w' := by
  obtain ⟨wb, hwb⟩ : ∃ wb, wb = (w.alloc (sealObj n x d p A m C)).alloc (sealObj n' x' d' p' A' m' C') := ⟨_, rfl⟩
  obtain ⟨hB, h1, h2⟩ := two_seals hwb
  obtain ⟨a0, -, -, -, -⟩ := seal5 h1
  obtain ⟨b0, -, -, -, -⟩ := seal5 h2
  have HB := Lib.hid hB
  unfold sealObj at hwb
  rw [hwb] at a0 b0
  have HW := Lib.hid hwb
  clear hwb hB h1 h2
  go_enter Tryz.func35, Tryz.ntmps35
  go_wp2
  go_ret
  rw [← HW.out]
  exact ⟨rfl, HB.out⟩
end Go.Proofs.YtfkoomldncfdnaaGreat
