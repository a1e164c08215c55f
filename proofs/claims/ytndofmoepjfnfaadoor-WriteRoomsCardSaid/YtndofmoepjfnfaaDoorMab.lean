/- Plain mathematics of chapter 2, no program: the field of 256 as a type, finite sums, matrices as functions, the way of Gauss and Jordan, and Cauchy's matrices. Words for memory: a slice of bytes that reads as a row of elements, a slice of such slices that reads as a matrix, and rows that a call owns. No program. -/
import Derived.Test.YtndofmoepjfnfaaDoorGfMath
import Derived.WalkKit
import Derived.ProofKit
import Derived.Lib.Hide
import Derived.Deep.OwnRows
import Derived.Deep.Draws
import Derived.Test.YtndofmoepjfnfaaDoorKp
namespace Go.Proofs.YtndofmoepjfnfaaDoor.Mx

/-- an element -/
def Fe : Type := { n : Nat // n < 256 }
instance : DecidableEq Fe := inferInstanceAs (DecidableEq { n : Nat // n < 256 })
def Fe.nat (a : Fe) : Nat := a.1
theorem Fe.nat_lt (a : Fe) : a.nat < 256 := a.2
theorem Fe.ext {a b : Fe} (h : a.nat = b.nat) : a = b := Subtype.ext h
def mk (n : Nat) (h : n < 256) : Fe := ⟨n, h⟩
theorem nat_mk (n : Nat) (h : n < 256) : (mk n h).nat = n := rfl
instance : Zero Fe := ⟨⟨0, by decide⟩⟩
instance : One Fe := ⟨⟨1, by decide⟩⟩
instance : Inhabited Fe := ⟨0⟩
instance : Add Fe := ⟨fun a b => ⟨a.1 ^^^ b.1, Gf.xor_lt a.2 b.2⟩⟩
instance : Mul Fe := ⟨fun a b => ⟨Gf.mul a.1 b.1, Gf.mul_lt a.2⟩⟩
def inv (a : Fe) : Fe := ⟨Gf.inv a.1, Gf.inv_lt a.2⟩
theorem nat_zero : (0 : Fe).nat = 0 := rfl
theorem nat_one : (1 : Fe).nat = 1 := rfl
theorem nat_add (a b : Fe) : (a + b).nat = a.nat ^^^ b.nat := rfl
theorem nat_mul (a b : Fe) : (a * b).nat = Gf.mul a.nat b.nat := rfl
theorem nat_inv (a : Fe) : (inv a).nat = Gf.inv a.nat := by dsimp only [inv, Fe.nat]
theorem eq_zero {a : Fe} : a = 0 ↔ a.nat = 0 := ⟨fun h => by rw [h]; rfl, fun h => Fe.ext h⟩

theorem add_assoc (a b c : Fe) : a + b + c = a + (b + c) := Fe.ext (Nat.xor_assoc _ _ _)
theorem add_comm (a b : Fe) : a + b = b + a := Fe.ext (Nat.xor_comm _ _)
theorem add_zero (a : Fe) : a + 0 = a := Fe.ext (Nat.xor_zero _)
theorem zero_add (a : Fe) : 0 + a = a := Fe.ext (Nat.zero_xor _)
theorem add_self (a : Fe) : a + a = 0 := Fe.ext (Nat.xor_self _)
theorem add_left_comm (a b c : Fe) : a + (b + c) = b + (a + c) := by rw [← add_assoc, add_comm a b, add_assoc]
theorem add_self_left (a b : Fe) : a + (a + b) = b := by rw [← add_assoc, add_self, zero_add]
theorem mul_assoc (a b c : Fe) : a * b * c = a * (b * c) := Fe.ext (Gf.mul_assoc a.2 b.2)
theorem mul_comm (a b : Fe) : a * b = b * a := Fe.ext (Gf.mul_comm a.2 b.2)
theorem mul_left_comm (a b c : Fe) : a * (b * c) = b * (a * c) := by rw [← mul_assoc, mul_comm a b, mul_assoc]
theorem mul_one (a : Fe) : a * 1 = a := Fe.ext (Gf.mul_one a.2)
theorem one_mul (a : Fe) : 1 * a = a := Fe.ext (Gf.one_mul a.2)
theorem mul_zero (a : Fe) : a * 0 = 0 := Fe.ext (Gf.mul_zero a.2)
theorem zero_mul (a : Fe) : 0 * a = 0 := Fe.ext (Gf.zero_mul _)
theorem mul_add (a b c : Fe) : a * (b + c) = a * b + a * c := Fe.ext (Gf.mul_xor a.2 b.2 c.2)
theorem add_mul (a b c : Fe) : (a + b) * c = a * c + b * c := by rw [mul_comm, mul_add, mul_comm c a, mul_comm c b]
theorem mul_inv {a : Fe} (h : a ≠ 0) : a * inv a = 1 := Fe.ext (Gf.mul_inv a.2 (fun h' => h (eq_zero.2 h')))
theorem inv_mul {a : Fe} (h : a ≠ 0) : inv a * a = 1 := by rw [mul_comm, mul_inv h]
theorem one_ne : (1 : Fe) ≠ 0 := by decide
theorem inv_ne {a : Fe} (h : a ≠ 0) : inv a ≠ 0 := fun h' => one_ne (by rw [← mul_inv h, h', mul_zero])
theorem eq_zero_of_mul {a b : Fe} (h : a ≠ 0) (hm : a * b = 0) : b = 0 := by
  have : inv a * (a * b) = 0 := by rw [hm, mul_zero]
  rwa [← mul_assoc, inv_mul h, one_mul] at this
theorem mul_ne {a b : Fe} (h : a ≠ 0) (h' : b ≠ 0) : a * b ≠ 0 := fun hm => h' (eq_zero_of_mul h hm)
theorem add_eq_zero {a b : Fe} (h : a + b = 0) : a = b := by
  have : a + b + b = 0 + b := by rw [h]
  rwa [add_assoc, add_self, add_zero, zero_add] at this
theorem add_ne {a b : Fe} (h : a ≠ b) : a + b ≠ 0 := fun h' => h (add_eq_zero h')

/-- the sum of the first n -/
def sm : Nat → (Nat → Fe) → Fe
  | 0, _ => 0
  | n + 1, f => sm n f + f n
theorem sm_succ (n : Nat) (f : Nat → Fe) : sm (n + 1) f = sm n f + f n := rfl
theorem sm_congr {n : Nat} {f g : Nat → Fe} (h : ∀ i, i < n → f i = g i) : sm n f = sm n g := by
  induction n with
  | zero => rfl
  | succ n ih => rw [sm_succ, sm_succ, ih (fun i hi => h i (by omega)), h n (by omega)]
theorem sm_zero {n : Nat} {f : Nat → Fe} (h : ∀ i, i < n → f i = 0) : sm n f = 0 := by
  induction n with
  | zero => rfl
  | succ n ih => rw [sm_succ, ih (fun i hi => h i (by omega)), h n (by omega), add_zero]
theorem sm_add (n : Nat) (f g : Nat → Fe) : sm n (fun i => f i + g i) = sm n f + sm n g := by
  induction n with
  | zero => exact (add_zero 0).symm
  | succ n ih =>
    simp only [sm_succ, ih]
    rw [add_assoc, add_assoc, add_left_comm (sm n g)]
theorem sm_mul (n : Nat) (a : Fe) (f : Nat → Fe) : sm n (fun i => a * f i) = a * sm n f := by
  induction n with
  | zero => exact (mul_zero a).symm
  | succ n ih => simp only [sm_succ, ih, mul_add]
theorem sm_mul_right (n : Nat) (a : Fe) (f : Nat → Fe) : sm n (fun i => f i * a) = sm n f * a := by
  rw [mul_comm, ← sm_mul]; exact sm_congr fun i _ => mul_comm _ _
theorem sm_swap (n m : Nat) (f : Nat → Nat → Fe) : sm n (fun i => sm m (fun j => f i j)) = sm m (fun j => sm n (fun i => f i j)) := by
  induction n with
  | zero => exact (sm_zero fun _ _ => rfl).symm
  | succ n ih => simp only [sm_succ, ih, sm_add]
theorem sm_one {n : Nat} {f : Nat → Fe} {k : Nat} (hk : k < n) (h : ∀ i, i < n → i ≠ k → f i = 0) : sm n f = f k := by
  induction n with
  | zero => omega
  | succ n ih =>
    rw [sm_succ]
    by_cases e : k = n
    · subst e
      rw [sm_zero (fun i hi => h i (by omega) (by omega)), zero_add]
    · rw [ih (by omega) (fun i hi => h i (by omega)), h n (by omega) (fun h' => e h'.symm), add_zero]
/-- the one more is taken out of the sum -/
theorem sm_off {n : Nat} {f : Nat → Fe} {k : Nat} (hk : k < n) : sm n f = f k + sm n (fun i => if i = k then 0 else f i) := by
  have h1 : sm n f = sm n (fun i => (if i = k then f k else 0) + (if i = k then 0 else f i)) := sm_congr fun i _ => by
    by_cases e : i = k
    · rw [if_pos e, if_pos e, add_zero, e]
    · rw [if_neg e, if_neg e, zero_add]
  rw [h1, sm_add, sm_one hk (fun i _ e => if_neg e), if_pos rfl]
/-- a sum whose last ones are 0 -/
theorem sm_part {n m : Nat} {f : Nat → Fe} (hm : m ≤ n) (h : ∀ i, m ≤ i → i < n → f i = 0) : sm n f = sm m f := by
  induction n with
  | zero => rw [show m = 0 by omega]
  | succ n ih =>
    by_cases e : m = n + 1
    · rw [e]
    · rw [sm_succ, h n (by omega) (by omega), add_zero, ih (by omega) (fun i hi hi' => h i hi (by omega))]

abbrev Mat := Nat → Nat → Fe
def one : Mat := fun i j => if i = j then 1 else 0
def mm (n : Nat) (A B : Mat) : Mat := fun i j => sm n fun k => A i k * B k j
def mv (n : Nat) (A : Mat) (v : Nat → Fe) : Nat → Fe := fun i => sm n fun k => A i k * v k

theorem one_same (i : Nat) : one i i = 1 := if_pos rfl
theorem one_other {i j : Nat} (h : i ≠ j) : one i j = 0 := if_neg h
theorem mv_one {n i : Nat} (hi : i < n) (v : Nat → Fe) : mv n one v i = v i := by
  unfold mv
  rw [sm_one hi (fun k _ e => by rw [one_other (fun h => e h.symm), zero_mul]), one_same, one_mul]
theorem mm_one_left {n i : Nat} (hi : i < n) (A : Mat) (j : Nat) : mm n one A i j = A i j := mv_one hi fun k => A k j
theorem mm_one_right {n j : Nat} (hj : j < n) (A : Mat) (i : Nat) : mm n A one i j = A i j := by
  unfold mm
  rw [sm_one hj (fun k _ e => by rw [one_other e, mul_zero]), one_same, mul_one]
/-- what two matrices do to a column, one behind the other -/
theorem mv_mv (n m : Nat) (A B : Mat) (v : Nat → Fe) (i : Nat) : mv n A (mv m B v) i = mv m (mm n A B) v i := by
  show sm n (fun k => A i k * sm m (fun l => B k l * v l)) = sm m (fun l => sm n (fun k => A i k * B k l) * v l)
  rw [sm_congr (g := fun k => sm m (fun l => A i k * (B k l * v l))) (fun k _ => (sm_mul m (A i k) _).symm), sm_swap]
  exact sm_congr fun l _ => by
    rw [← sm_mul_right]; exact sm_congr fun k _ => (mul_assoc _ _ _).symm
theorem mv_congr {n : Nat} {A B : Mat} {v u : Nat → Fe} {i : Nat} (h : ∀ k, k < n → A i k = B i k) (h' : ∀ k, k < n → v k = u k) : mv n A v i = mv n B u i :=
  sm_congr fun k hk => by rw [h k hk, h' k hk]

/-! ### Gauss and Jordan -/
def swp (A : Mat) (i p : Nat) : Mat := fun r c => if r = i then A p c else if r = p then A i c else A r c
def scl (A : Mat) (i : Nat) (s : Fe) : Mat := fun r c => if r = i then s * A i c else A r c
def elm (A : Mat) (i : Nat) (f : Nat → Fe) : Mat := fun r c => if r = i then A i c else A r c + f r * A i c
/-- the first row from k on, f rows looked at, that is not 0 in column i -/
def pvt (R : Mat) (i : Nat) : Nat → Nat → Nat
  | 0, k => k
  | f + 1, k => if R k i = 0 then pvt R i f (k + 1) else k
theorem pvt_spec (R : Mat) (i : Nat) : ∀ f k, k ≤ pvt R i f k ∧ pvt R i f k ≤ k + f ∧ (∀ j, k ≤ j → j < pvt R i f k → R j i = 0) ∧ (pvt R i f k < k + f → R (pvt R i f k) i ≠ 0) := by
  intro f
  induction f with
  | zero => intro k; exact ⟨Nat.le_refl _, Nat.le_refl _, fun j h h' => by simp [pvt] at h'; omega, fun h => by simp [pvt] at h⟩
  | succ f ih =>
    intro k
    simp only [pvt]
    by_cases e : R k i = 0
    · rw [if_pos e]
      obtain ⟨h1, h2, h3, h4⟩ := ih (k + 1)
      refine ⟨by omega, by omega, fun j hj hj' => ?_, fun h => h4 (by omega)⟩
      by_cases ej : j = k
      · rw [ej]; exact e
      · exact h3 j (by omega) hj'
    · rw [if_neg e]
      exact ⟨Nat.le_refl _, by omega, fun j h h' => by omega, fun _ => e⟩
def scaleOf (R : Mat) (i p : Nat) : Fe := inv (R p i)
def facs (R : Mat) (i p : Nat) : Nat → Fe := fun r => scl (swp R i p) i (scaleOf R i p) r i
/-- one round: what is done to A, as R tells it -/
def rnd (R A : Mat) (i p : Nat) : Mat := elm (scl (swp A i p) i (scaleOf R i p)) i (facs R i p)
def gjs (n : Nat) (M : Mat) : Nat → Option (Mat × Mat)
  | 0 => some (M, one)
  | i + 1 => match gjs n M i with
    | none => none
    | some (R, V) => if pvt R i (n - i) i < n then some (rnd R R i (pvt R i (n - i) i), rnd R V i (pvt R i (n - i) i)) else none

/-- a row of two matrices, applied to two columns -/
def rho (n : Nat) (R V : Mat) (x y : Nat → Fe) (r : Nat) : Fe := sm n (fun c => R r c * x c) + sm n (fun c => V r c * y c)
theorem rho_elm (n : Nat) (R V : Mat) (i : Nat) (f : Nat → Fe) (x y : Nat → Fe) (r : Nat) : rho n (elm R i f) (elm V i f) x y r = if r = i then rho n R V x y i else rho n R V x y r + f r * rho n R V x y i := by
  unfold rho elm
  by_cases e : r = i
  · subst e; simp only [if_true]
  · simp only [if_neg e, add_mul, sm_add, mul_assoc, sm_mul, mul_add]
    rw [add_assoc, add_assoc]; congr 1; rw [add_left_comm]
theorem rho_scl (n : Nat) (R V : Mat) (i : Nat) (s : Fe) (x y : Nat → Fe) (r : Nat) : rho n (scl R i s) (scl V i s) x y r = if r = i then s * rho n R V x y i else rho n R V x y r := by
  unfold rho scl
  by_cases e : r = i
  · subst e; simp only [if_true, mul_assoc, sm_mul, mul_add]
  · simp only [if_neg e]
theorem rho_swp (n : Nat) (R V : Mat) (i p : Nat) (x y : Nat → Fe) (r : Nat) : rho n (swp R i p) (swp V i p) x y r = if r = i then rho n R V x y p else if r = p then rho n R V x y i else rho n R V x y r := by
  unfold rho swp
  by_cases e : r = i
  · subst e; simp only [if_true]
  · simp only [if_neg e]
    by_cases e' : r = p
    · subst e'; simp only [if_true]
    · simp only [if_neg e']
/-- what one round does keeps which columns are made 0 -/
theorem rho_rnd {n : Nat} {R V : Mat} {i p : Nat} (hi : i < n) (hp : p < n) (hR : R p i ≠ 0) (x y : Nat → Fe) :
    (∀ r, r < n → rho n (rnd R R i p) (rnd R V i p) x y r = 0) ↔ ∀ r, r < n → rho n R V x y r = 0 := by
  have hs : scaleOf R i p ≠ 0 := inv_ne hR
  have hr : ∀ r, rho n (rnd R R i p) (rnd R V i p) x y r = if r = i then scaleOf R i p * rho n R V x y p else (if r = p then rho n R V x y i else rho n R V x y r) + facs R i p r * (scaleOf R i p * rho n R V x y p) := by
    intro r
    unfold rnd
    rw [rho_elm, rho_scl, rho_scl, rho_swp, rho_swp]
    by_cases e : r = i
    · simp only [e, if_true]
    · simp only [if_neg e, if_true]
  constructor
  · intro h
    have h0 : rho n R V x y p = 0 := by
      have := h i hi
      rw [hr, if_pos rfl] at this
      exact eq_zero_of_mul hs this
    have h1 : ∀ r, r < n → r ≠ i → (if r = p then rho n R V x y i else rho n R V x y r) = 0 := by
      intro r hrn e
      have := h r hrn
      rwa [hr, if_neg e, h0, mul_zero, mul_zero, add_zero] at this
    intro r hrn
    by_cases e : r = p
    · rw [e]; exact h0
    · by_cases e' : r = i
      · by_cases ep : p = i
        · rw [e', ← ep]; exact h0
        · have := h1 p hp ep
          rw [if_pos rfl] at this
          rw [e']; exact this
      · have := h1 r hrn e'
        rwa [if_neg e] at this
  · intro h r hrn
    rw [hr, h p hp, mul_zero, mul_zero, add_zero]
    by_cases e : r = i
    · rw [if_pos e]
    · rw [if_neg e]
      by_cases e' : r = p
      · rw [if_pos e']; exact h i hi
      · rw [if_neg e']; exact h r hrn
/-- one round makes column i that of the unit, and keeps those ahead of it -/
theorem rnd_unit {n : Nat} {R : Mat} {i p : Nat} (hi : i < n) (hip : i ≤ p) (hp : p < n) (hR : R p i ≠ 0) (hc : ∀ c, c < i → ∀ r, r < n → R r c = one r c) :
    ∀ c, c < i + 1 → ∀ r, r < n → rnd R R i p r c = one r c := by
  intro c hci r hr
  have hval : ∀ r', scl (swp R i p) i (scaleOf R i p) r' c = if r' = i then scaleOf R i p * R p c else if r' = p then R i c else R r' c := by
    intro r'
    unfold scl swp
    by_cases e : r' = i
    · simp only [e, if_true]
    · simp only [if_neg e]
  have hrow : rnd R R i p r c = if r = i then scaleOf R i p * R p c else (if r = p then R i c else R r c) + facs R i p r * (scaleOf R i p * R p c) := by
    show elm _ i _ r c = _
    unfold elm
    rw [hval, hval, if_pos rfl]
    by_cases e : r = i
    · rw [if_pos e, if_pos e]
    · rw [if_neg e, if_neg e, if_neg e]
  rw [hrow]
  by_cases ec : c = i
  · subst ec
    have h1 : scaleOf R c p * R p c = 1 := inv_mul hR
    by_cases e : r = c
    · rw [if_pos e, h1, e, one_same]
    · rw [if_neg e, one_other e, h1, mul_one]
      have hf : facs R c p r = if r = p then R c c else R r c := by
        unfold facs
        rw [hval, if_neg e]
      rw [hf, add_self]
  · have hlt : c < i := by omega
    have h1 : R p c = 0 := by rw [hc c hlt p hp]; exact one_other (by omega)
    rw [h1, mul_zero, mul_zero, add_zero]
    by_cases e : r = i
    · rw [if_pos e, e, one_other (by omega)]
    · rw [if_neg e]
      by_cases e' : r = p
      · rw [if_pos e', hc c hlt i hi, one_other (by omega), one_other (by omega)]
      · rw [if_neg e']; exact hc c hlt r hr
theorem rho_start {n : Nat} (M : Mat) (x y : Nat → Fe) {r : Nat} (hr : r < n) : rho n M one x y r = mv n M x r + y r := by
  unfold rho
  rw [show sm n (fun c => one r c * y c) = y r from mv_one hr y]
  rfl
theorem gjs_inv {n : Nat} {M : Mat} : ∀ i, i ≤ n → ∀ R V, gjs n M i = some (R, V) →
    (∀ c, c < i → ∀ r, r < n → R r c = one r c) ∧ ∀ x y, (∀ r, r < n → rho n R V x y r = 0) ↔ ∀ r, r < n → mv n M x r + y r = 0 := by
  intro i
  induction i with
  | zero =>
    intro _ R V h
    simp only [gjs, Option.some.injEq, Prod.mk.injEq] at h
    obtain ⟨rfl, rfl⟩ := h
    refine ⟨fun c hc => absurd hc (by omega), fun x y => ⟨fun h r hr => ?_, fun h r hr => ?_⟩⟩
    · rw [← rho_start M x y hr]; exact h r hr
    · rw [rho_start M x y hr]; exact h r hr
  | succ i ih =>
    intro hi R V h
    simp only [gjs] at h
    cases hg : gjs n M i with
    | none => rw [hg] at h; cases h
    | some s =>
      obtain ⟨R0, V0⟩ := s
      rw [hg] at h
      simp only at h
      obtain ⟨h1, h2⟩ := ih (by omega) R0 V0 hg
      obtain ⟨p1, p2, _, p4⟩ := pvt_spec R0 i (n - i) i
      by_cases hp : pvt R0 i (n - i) i < n
      · rw [if_pos hp] at h
        simp only [Option.some.injEq, Prod.mk.injEq] at h
        obtain ⟨rfl, rfl⟩ := h
        have hne := p4 (by omega)
        refine ⟨rnd_unit (by omega) p1 hp hne h1, fun x y => (rho_rnd (by omega) hp hne x y).trans (h2 x y)⟩
      · rw [if_neg hp] at h; cases h
/-- where the way comes to its end, what came out is the inverse, from both sides -/
theorem gjs_ok {n : Nat} {M R V : Mat} (h : gjs n M n = some (R, V)) :
    (∀ i, i < n → ∀ j, j < n → mm n M V i j = one i j) ∧ ∀ i, i < n → ∀ j, j < n → mm n V M i j = one i j := by
  obtain ⟨h1, h2⟩ := gjs_inv n (Nat.le_refl n) R V h
  have hrho : ∀ x y r, r < n → rho n R V x y r = x r + mv n V y r := by
    intro x y r hr
    unfold rho
    rw [show sm n (fun c => R r c * x c) = mv n one x r from sm_congr fun c hc => by rw [h1 c hc r hr], mv_one hr]
    rfl
  constructor
  · intro i hi j hj
    have := (h2 (fun k => V k j) (fun k => one k j)).1 (fun r hr => by
      rw [hrho _ _ r hr, show mv n V (fun k => one k j) r = V r j from mm_one_right hj V r, add_self]) i hi
    exact add_eq_zero this
  · intro i hi j hj
    have := (h2 (fun k => one k j) (fun k => M k j)).2 (fun r hr => by
      rw [show mv n M (fun k => one k j) r = M r j from mm_one_right hj M r, add_self]) i hi
    rw [hrho _ _ i hi] at this
    exact (add_eq_zero this).symm
/-- a column that is made 0 -/
def ker (R : Mat) (i c : Nat) : Fe := if c < i then R c i else if c = i then 1 else 0
/-- where it does not, some column but that of zeros is made 0 -/
theorem gjs_none {n : Nat} {M : Mat} : ∀ i, i ≤ n → gjs n M i = none → ∃ x : Nat → Fe, (∃ c, c < n ∧ x c ≠ 0) ∧ ∀ r, r < n → mv n M x r = 0 := by
  intro i
  induction i with
  | zero => intro _ h; cases h
  | succ i ih =>
    intro hi h
    simp only [gjs] at h
    cases hg : gjs n M i with
    | none => exact ih (by omega) hg
    | some s =>
      obtain ⟨R, V⟩ := s
      rw [hg] at h
      simp only at h
      obtain ⟨h1, h2⟩ := gjs_inv i (by omega) R V hg
      obtain ⟨p1, p2, p3, _⟩ := pvt_spec R i (n - i) i
      by_cases hp : pvt R i (n - i) i < n
      · rw [if_pos hp] at h; cases h
      · have hz : ∀ k, i ≤ k → k < n → R k i = 0 := fun k hk hk' => p3 k hk (by omega)
        refine ⟨ker R i, ⟨i, by omega, ?_⟩, ?_⟩
        · unfold ker; rw [if_neg (by omega), if_pos rfl]; exact one_ne
        · have hx := (h2 (ker R i) (fun _ => 0)).1 (fun r hr => ?_)
          · intro r hr
            have := hx r hr
            rwa [add_zero] at this
          · unfold rho ker
            rw [sm_zero (f := fun c => V r c * 0) (fun c _ => mul_zero _), add_zero]
            rw [sm_part (m := i + 1) (by omega) (fun c hc _ => by rw [if_neg (by omega), if_neg (by omega), mul_zero]), sm_succ, if_neg (by omega), if_pos rfl, mul_one]
            rw [sm_congr (g := fun c => one r c * R c i) (fun c hc => by rw [if_pos hc, h1 c hc r hr])]
            by_cases hri : r < i
            · rw [show sm i (fun c => one r c * R c i) = R r i from mv_one hri (fun c => R c i), add_self]
            · rw [sm_zero (fun c hc => by rw [one_other (by omega), zero_mul]), hz r (by omega) hr, add_zero]

/-- what is invertible makes no column but that of zeros 0: the way comes to its end -/
theorem gjs_some {n : Nat} {M : Mat} (h : ∀ x : Nat → Fe, (∀ r, r < n → mv n M x r = 0) → ∀ c, c < n → x c = 0) : ∃ R V, gjs n M n = some (R, V) := by
  cases hg : gjs n M n with
  | none =>
    obtain ⟨x, ⟨c, hc, hx⟩, h0⟩ := gjs_none n (Nat.le_refl n) hg
    exact absurd (h x h0 c hc) hx
  | some s => exact ⟨s.1, s.2, rfl⟩
/-- a matrix some of whose rows make 0 has no inverse -/
theorem gjs_even {n : Nat} {M : Mat} {z : Nat → Fe} {k : Nat} (hk : k < n) (hz : z k ≠ 0) (h : ∀ c, c < n → sm n (fun r => z r * M r c) = 0) : gjs n M n = none := by
  cases hg : gjs n M n with
  | none => rfl
  | some s =>
    obtain ⟨R, V⟩ := s
    have hr := (gjs_ok hg).1
    have h1 : sm n (fun r => z r * mm n M V r k) = 0 := by
      unfold mm
      rw [sm_congr (g := fun r => sm n (fun c => z r * M r c * V c k)) (fun r _ => by rw [← sm_mul]; exact sm_congr fun c _ => (mul_assoc _ _ _).symm), sm_swap]
      exact sm_zero fun c hc => by rw [sm_mul_right, h c hc, zero_mul]
    have h2 : sm n (fun r => z r * mm n M V r k) = z k := by
      rw [sm_one hk (fun r hr' e => by rw [hr r hr' k hk, one_other e, mul_zero]), hr k hk k hk, one_same, mul_one]
    exact absurd (h2.symm.trans h1) hz
theorem gjs_left {n : Nat} {M : Mat} (h : ∃ i, i ≤ n ∧ gjs n M i = none) : gjs n M n = none := by
  obtain ⟨i, hi, h⟩ := h
  have : ∀ d, gjs n M (i + d) = none := by
    intro d
    induction d with
    | zero => exact h
    | succ d ih => show gjs n M ((i + d) + 1) = none; simp only [gjs, ih]
  have := this (n - i)
  rwa [show i + (n - i) = n by omega] at this

/-! ### Cauchy -/
theorem cauchy_ker : ∀ (k : Nat) (x y a : Nat → Fe), (∀ i j, i < k → j < k → i ≠ j → x i ≠ x j) → (∀ i j, i < k → j < k → i ≠ j → y i ≠ y j) → (∀ i j, i < k → j < k → x i ≠ y j) →
    (∀ i, i < k → sm k (fun j => inv (x i + y j) * a j) = 0) → ∀ j, j < k → a j = 0 := by
  intro k
  induction k with
  | zero => intro x y a _ _ _ _ j hj; omega
  | succ k ih =>
    intro x y a hx hy hxy h
    have u1 : ∀ i j, i < k + 1 → j < k + 1 → (x i + y j) * inv (x i + y j) = 1 := fun i j hi hj => mul_inv (add_ne (hxy i j hi hj))
    have key : ∀ j, j < k → a j = 0 := by
      have hb := ih x y (fun j => a j * ((y k + y j) * inv (x k + y j))) (fun i j hi hj => hx i j (by omega) (by omega)) (fun i j hi hj => hy i j (by omega) (by omega)) (fun i j hi hj => hxy i j (by omega) (by omega)) (fun i hi => ?_)
      · intro j hj
        have h0 := hb j hj
        have hne : (y k + y j) * inv (x k + y j) ≠ 0 := mul_ne (add_ne (hy k j (by omega) (by omega) (by omega))) (inv_ne (add_ne (hxy k j (by omega) (by omega))))
        rw [mul_comm] at h0
        exact eq_zero_of_mul hne h0
      · have hterm : ∀ j, j < k → (x i + y k) * (inv (x i + y j) * a j) + (x k + y k) * (inv (x k + y j) * a j) = (x i + x k) * (inv (x i + y j) * (a j * ((y k + y j) * inv (x k + y j)))) := by
          intro j hj
          have e1 := u1 i j (by omega) (by omega)
          have e2 := u1 k j (by omega) (by omega)
          generalize inv (x i + y j) = p at e1 ⊢
          generalize inv (x k + y j) = q at e2 ⊢
          have f1 : (x i + y k) * p = 1 + (y k + y j) * p := by
            rw [← e1, ← add_mul]; congr 1
            rw [add_assoc, add_comm (y k), add_self_left]
          have f2 : (x k + y k) * q = 1 + (y k + y j) * q := by
            rw [← e2, ← add_mul]; congr 1
            rw [add_assoc, add_comm (y k), add_self_left]
          have f3 : p + q = (x i + x k) * (p * q) := by
            have g1 : (x i + y j) * (p * q) = q := by rw [← mul_assoc, e1, one_mul]
            have g2 : (x k + y j) * (p * q) = p := by rw [mul_comm p q, ← mul_assoc, e2, one_mul]
            have g3 : (x i + y j) * (p * q) + (x k + y j) * (p * q) = (x i + x k) * (p * q) := by
              rw [← add_mul]; congr 1
              rw [add_assoc, add_left_comm (y j), add_self, add_zero]
            rw [g1, g2, add_comm] at g3
            exact g3
          rw [← mul_assoc, ← mul_assoc, ← add_mul, f1, f2]
          rw [show (1 : Fe) + (y k + y j) * p + (1 + (y k + y j) * q) = (y k + y j) * (p + q) by rw [mul_add, add_assoc, add_left_comm _ 1, add_self_left], f3]
          simp only [mul_comm, mul_left_comm]
        have hlast : (x i + y k) * (inv (x i + y k) * a k) + (x k + y k) * (inv (x k + y k) * a k) = 0 := by
          rw [← mul_assoc, ← mul_assoc, u1 i k (by omega) (by omega), u1 k k (by omega) (by omega), add_self]
        have hsum : (x i + x k) * sm k (fun j => inv (x i + y j) * (a j * ((y k + y j) * inv (x k + y j)))) = 0 := by
          rw [← sm_mul, ← sm_congr hterm, sm_add, sm_mul, sm_mul]
          have t1 : (x i + y k) * sm k (fun j => inv (x i + y j) * a j) = (x i + y k) * (inv (x i + y k) * a k) := by
            have := h i (by omega)
            rw [sm_succ] at this
            rw [add_eq_zero this]
          have t2 : (x k + y k) * sm k (fun j => inv (x k + y j) * a j) = (x k + y k) * (inv (x k + y k) * a k) := by
            have := h k (by omega)
            rw [sm_succ] at this
            rw [add_eq_zero this]
          rw [t1, t2, hlast]
        exact eq_zero_of_mul (add_ne (hx i k (by omega) (by omega) (by omega))) hsum
    intro j hj
    by_cases e : j = k
    · subst e
      have h0 := h j (by omega)
      rw [sm_succ, sm_zero (fun i hi => by rw [key i hi, mul_zero]), zero_add] at h0
      exact eq_zero_of_mul (inv_ne (add_ne (hxy j j (by omega) (by omega)))) h0
    · exact key j (by omega)
/-- each square part of a Cauchy has an inverse -/
theorem cauchy_some (k : Nat) (x y : Nat → Fe) (M : Mat) (hM : ∀ i j, i < k → j < k → M i j = inv (x i + y j)) (hx : ∀ i j, i < k → j < k → i ≠ j → x i ≠ x j) (hy : ∀ i j, i < k → j < k → i ≠ j → y i ≠ y j) (hxy : ∀ i j, i < k → j < k → x i ≠ y j) :
    ∃ R V, gjs k M k = some (R, V) :=
  gjs_some fun a h => cauchy_ker k x y a hx hy hxy fun i hi => by
    rw [← h i hi]; exact sm_congr fun j hj => by rw [hM i j hi hj]
end Go.Proofs.YtndofmoepjfnfaaDoor.Mx
namespace Go.Proofs.YtndofmoepjfnfaaDoor
open Go.RowKit Mx

/-- an element as the number that lies in a cell -/
def fi (a : Fe) : Int := (a.nat : Int)
theorem fi_lo (a : Fe) : 0 ≤ fi a := Int.natCast_nonneg _
theorem fi_hi (a : Fe) : fi a < 256 := by have := a.nat_lt; unfold fi; omega
theorem fi_nat (a : Fe) : (fi a).toNat = a.nat := Int.toNat_natCast _
theorem fi_zero : fi 0 = 0 := rfl
theorem fi_one : fi 1 = 1 := rfl
theorem fi_eq {a b : Fe} (h : fi a = fi b) : a = b := Fe.ext (by have : (a.nat : Int) = (b.nat : Int) := h; omega)
theorem fi_eq_zero {a : Fe} : fi a = 0 ↔ a = 0 := ⟨fun h => fi_eq (h.trans fi_zero.symm), fun h => by rw [h, fi_zero]⟩

/-- the slice at A of n bytes reads as r, and lies in a block of G -/
def Rd (w : World) (A : Option Addr) (n : Nat) (r : Nat → Fe) (G : Nat → Prop) : Prop :=
  0 < n → ∃ b off, A = some ⟨b, off, none⟩ ∧ G b ∧ ∀ j, j < n → w.cell? ⟨b, off + j, none⟩ = some (.int .u8 (fi (r j)))
/-- the slice at A of n slices reads as the rows of M, row i of length L i, all in blocks of G -/
def RdM (w : World) (A : Option Addr) (n : Nat) (L : Nat → Nat) (M : Mat) (G : Nat → Prop) : Prop :=
  0 < n → ∃ b off, A = some ⟨b, off, none⟩ ∧ G b ∧ ∀ i, i < n → ∃ A' C', w.cell? ⟨b, off + i, none⟩ = some (.slice A' (L i) C') ∧ Rd w A' (L i) (M i) G
theorem Rd.empty (w : World) (A : Option Addr) (r : Nat → Fe) (G : Nat → Prop) : Rd w A 0 r G := fun h => absurd h (by omega)
theorem RdM.empty (w : World) (A : Option Addr) (L : Nat → Nat) (M : Mat) (G : Nat → Prop) : RdM w A 0 L M G := fun h => absurd h (by omega)
theorem Rd.keep {w w' : World} {A : Option Addr} {n : Nat} {r : Nat → Fe} {G : Nat → Prop} (h : Rd w A n r G) (hk : ∀ p v, G p.block → w.cell? p = some v → w'.cell? p = some v) : Rd w' A n r G := by
  intro hn
  obtain ⟨b, off, e, hg, hc⟩ := h hn
  exact ⟨b, off, e, hg, fun j hj => hk _ _ hg (hc j hj)⟩
theorem Rd.mono {w : World} {A : Option Addr} {n : Nat} {r : Nat → Fe} {G G' : Nat → Prop} (h : Rd w A n r G) (hg : ∀ b, G b → G' b) : Rd w A n r G' := by
  intro hn
  obtain ⟨b, off, e, hg', hc⟩ := h hn
  exact ⟨b, off, e, hg _ hg', hc⟩
theorem Rd.congr {w : World} {A : Option Addr} {n : Nat} {r s : Nat → Fe} {G : Nat → Prop} (h : Rd w A n r G) (he : ∀ j, j < n → r j = s j) : Rd w A n s G := by
  intro hn
  obtain ⟨b, off, e, hg', hc⟩ := h hn
  exact ⟨b, off, e, hg', fun j hj => by rw [← he j hj]; exact hc j hj⟩
theorem Rd.kp {w w' : World} {A : Option Addr} {n : Nat} {r : Nat → Fe} {G S : Nat → Prop} (h : Rd w A n r G) (hk : Kp S w w') (hs : ∀ b, G b → ¬ S b) : Rd w' A n r G :=
  h.keep fun _ _ hg hc => hk.cell hc (hs _ hg)
theorem Rd.below {w w' : World} {A : Option Addr} {n B : Nat} {r : Nat → Fe} (h : Rd w A n r (· < B)) (hb : Below B w w') : Rd w' A n r (· < B) :=
  h.keep fun _ _ hg hc => (hb.cell hg).trans hc
theorem RdM.keep {w w' : World} {A : Option Addr} {n : Nat} {L : Nat → Nat} {M : Mat} {G : Nat → Prop} (h : RdM w A n L M G) (hk : ∀ p v, G p.block → w.cell? p = some v → w'.cell? p = some v) : RdM w' A n L M G := by
  intro hn
  obtain ⟨b, off, e, hg, hc⟩ := h hn
  refine ⟨b, off, e, hg, fun i hi => ?_⟩
  obtain ⟨A', C', h1, h2⟩ := hc i hi
  exact ⟨A', C', hk _ _ hg h1, h2.keep hk⟩
theorem RdM.mono {w : World} {A : Option Addr} {n : Nat} {L : Nat → Nat} {M : Mat} {G G' : Nat → Prop} (h : RdM w A n L M G) (hg : ∀ b, G b → G' b) : RdM w A n L M G' := by
  intro hn
  obtain ⟨b, off, e, hg', hc⟩ := h hn
  refine ⟨b, off, e, hg _ hg', fun i hi => ?_⟩
  obtain ⟨A', C', h1, h2⟩ := hc i hi
  exact ⟨A', C', h1, h2.mono hg⟩
theorem RdM.congr {w : World} {A : Option Addr} {n : Nat} {L L' : Nat → Nat} {M M' : Mat} {G : Nat → Prop} (h : RdM w A n L M G) (hl : ∀ i, i < n → L i = L' i) (he : ∀ i, i < n → ∀ j, j < L i → M i j = M' i j) : RdM w A n L' M' G := by
  intro hn
  obtain ⟨b, off, e, hg', hc⟩ := h hn
  refine ⟨b, off, e, hg', fun i hi => ?_⟩
  obtain ⟨A', C', h1, h2⟩ := hc i hi
  rw [← hl i hi]
  exact ⟨A', C', h1, h2.congr (he i hi)⟩
theorem RdM.kp {w w' : World} {A : Option Addr} {n : Nat} {L : Nat → Nat} {M : Mat} {G S : Nat → Prop} (h : RdM w A n L M G) (hk : Kp S w w') (hs : ∀ b, G b → ¬ S b) : RdM w' A n L M G :=
  h.keep fun _ _ hg hc => hk.cell hc (hs _ hg)
theorem RdM.below {w w' : World} {A : Option Addr} {n B : Nat} {L : Nat → Nat} {M : Mat} (h : RdM w A n L M (· < B)) (hb : Below B w w') : RdM w' A n L M (· < B) :=
  h.keep fun _ _ hg hc => (hb.cell hg).trans hc
theorem Rd.old {w w' : World} {A : Option Addr} {n : Nat} {r : Nat → Fe} {G : Nat → Prop} (h : Rd w A n r G) (hb : Below w.heap.size w w') : Rd w' A n r G :=
  h.keep fun _ _ _ hc => (hb.cell (World.block_lt_of_cell? _ _ hc)).trans hc
theorem RdM.old {w w' : World} {A : Option Addr} {n : Nat} {L : Nat → Nat} {M : Mat} {G : Nat → Prop} (h : RdM w A n L M G) (hb : Below w.heap.size w w') : RdM w' A n L M G :=
  h.keep fun _ _ _ hc => (hb.cell (World.block_lt_of_cell? _ _ hc)).trans hc
/-- what reads lies in blocks that are there -/
theorem Rd.in_ {w : World} {A : Option Addr} {n : Nat} {r : Nat → Fe} {G : Nat → Prop} (h : Rd w A n r G) : Rd w A n r (· < w.heap.size) := by
  intro hn
  obtain ⟨b, off, e, _, hc⟩ := h hn
  exact ⟨b, off, e, World.block_lt_of_cell? _ _ (hc 0 hn), hc⟩
theorem RdM.in_ {w : World} {A : Option Addr} {n : Nat} {L : Nat → Nat} {M : Mat} {G : Nat → Prop} (h : RdM w A n L M G) : RdM w A n L M (· < w.heap.size) := by
  intro hn
  obtain ⟨b, off, e, _, hc⟩ := h hn
  refine ⟨b, off, e, ?_, fun i hi => ?_⟩
  · obtain ⟨_, _, h1, _⟩ := hc 0 hn
    exact World.block_lt_of_cell? _ _ h1
  · obtain ⟨A', C', h1, h2⟩ := hc i hi
    exact ⟨A', C', h1, h2.in_⟩
/-- a row of what reads as a matrix -/
theorem RdM.row {w : World} {A : Option Addr} {n : Nat} {L : Nat → Nat} {M : Mat} {G : Nat → Prop} (h : RdM w A n L M G) {i : Nat} (hi : i < n) :
    ∃ b off A' C', A = some ⟨b, off, none⟩ ∧ G b ∧ w.cell? ⟨b, off + i, none⟩ = some (.slice A' (L i) C') ∧ Rd w A' (L i) (M i) G := by
  obtain ⟨b, off, e, hg, hc⟩ := h (by omega)
  obtain ⟨A', C', h1, h2⟩ := hc i hi
  exact ⟨b, off, A', C', e, hg, h1, h2⟩
theorem Rd.at {w : World} {A : Option Addr} {n : Nat} {r : Nat → Fe} {G : Nat → Prop} (h : Rd w A n r G) {j : Nat} (hj : j < n) :
    ∃ b off, A = some ⟨b, off, none⟩ ∧ G b ∧ w.cell? ⟨b, off + j, none⟩ = some (.int .u8 (fi (r j))) := by
  obtain ⟨b, off, e, hg, hc⟩ := h (by omega)
  exact ⟨b, off, e, hg, hc j hj⟩


/-- block g is an own row of bytes whose first m are f -/
def RowAt (w : World) (g m : Nat) (f : Nat → Fe) : Prop := RowV w 5 g m (fun j => .int .u8 (fi (f j)))
namespace RowAt
variable {w w' : World} {g m : Nat} {f f' : Nat → Fe}
theorem cell (h : RowAt w g m f) {j : Nat} (hj : j < m) : w.cell? ⟨g, j, none⟩ = some (.int .u8 (fi (f j))) := RowV.cell h hj
theorem frozen (h : RowAt w g m f) (j : Nat) : w.frozen? ⟨g, j, none⟩ = false := RowV.frozen h j
theorem lt (h : RowAt w g m f) : g < w.heap.size := RowV.lt h
theorem congr (h : RowAt w g m f) (e : ∀ j, j < m → f j = f' j) : RowAt w g m f' := RowV.congr h fun j hj => by rw [e j hj]
theorem of_block (h : RowAt w g m f) (e : w'.heap[g]? = w.heap[g]?) : RowAt w' g m f := RowV.of_block h e
theorem kp {S : Nat → Prop} (h : RowAt w g m f) (hk : Kp S w w') (hs : ¬ S g) : RowAt w' g m f := RowV.kp h hk hs
theorem old (h : RowAt w g m f) (hb : Below w.heap.size w w') : RowAt w' g m f := RowV.old h hb
theorem set (h : RowAt w g m f) (j : Nat) (a : Fe) : RowAt (w.setCell ⟨g, j, none⟩ (.int .u8 (fi a))) g m (fun k => if k = j then a else f k) :=
  RowV.congr (RowV.set h j _) fun k _ => by by_cases e : k = j <;> simp [e]
theorem rd (h : RowAt w g m f) (G : Nat → Prop) (hg : G g) : Rd w (some ⟨g, 0, none⟩) m f G := fun _ => ⟨g, 0, rfl, hg, fun j hj => by rw [Nat.zero_add]; exact h.cell hj⟩
theorem made (w : World) (n : Nat) : RowAt (w.alloc (.cells (madeCells #[.int .u8 0] n) 5)) w.heap.size n (fun _ => 0) := RowV.made w _ _ n
end RowAt

/-- the matrix at block b, of n rows the first k laid: own rows of m elements, row i in block G i from B on, no two in one -/
structure OwnK (w : World) (B b n k m : Nat) (G C : Nat → Nat) (M : Mat) : Prop where
  top : RowV w 26 b n (fun i => if i < k then .slice (some ⟨G i, 0, none⟩) m (C i) else .slice none 0 0)
  cap : ∀ i, i < k → m ≤ C i
  rows : ∀ i, i < k → RowAt w (G i) m (M i)
  inj : ∀ i j, i < k → j < k → G i = G j → i = j
  lo : ∀ i, i < k → B ≤ G i
namespace OwnK
variable {w w' : World} {B b n k m : Nat} {G C : Nat → Nat} {M M' : Mat}
theorem ne (h : OwnK w B b n k m G C M) {i : Nat} (hi : i < k) : G i ≠ b := RowV.ne (h.rows i hi) h.top (by decide)
theorem rd (h : OwnK w B b n k m G C M) (hk : n ≤ k) : RdM w (some ⟨b, 0, none⟩) n (fun _ => m) M (fun x => x = b ∨ ∃ i, i < n ∧ x = G i) := by
  intro _
  refine ⟨b, 0, rfl, .inl rfl, fun i hi => ⟨some ⟨G i, 0, none⟩, C i, ?_, (h.rows i (by omega)).rd _ (.inr ⟨i, hi, rfl⟩)⟩⟩
  rw [Nat.zero_add, h.top.cell hi, if_pos (by omega)]
theorem rdAll (h : OwnK w B b n k m G C M) (hk : n ≤ k) : RdM w (some ⟨b, 0, none⟩) n (fun _ => m) M (· < w.heap.size) :=
  (h.rd hk).mono fun x hx => by
    rcases hx with rfl | ⟨i, hi, rfl⟩
    · exact h.top.lt
    · exact (h.rows i (by omega)).lt
theorem congr (h : OwnK w B b n k m G C M) (e : ∀ i, i < k → ∀ j, j < m → M i j = M' i j) : OwnK w B b n k m G C M' :=
  ⟨h.top, h.cap, fun i hi => (h.rows i hi).congr (e i hi), h.inj, h.lo⟩
theorem kp {S : Nat → Prop} (h : OwnK w B b n k m G C M) (hk : Kp S w w') (hb : ¬ S b) (hs : ∀ i, i < k → ¬ S (G i)) : OwnK w' B b n k m G C M :=
  ⟨h.top.kp hk hb, h.cap, fun i hi => (h.rows i hi).kp hk (hs i hi), h.inj, h.lo⟩
theorem down (h : OwnK w B b n k m G C M) {B' : Nat} (hB : B' ≤ B) : OwnK w B' b n k m G C M := ⟨h.top, h.cap, h.rows, h.inj, fun i hi => Nat.le_trans hB (h.lo i hi)⟩
theorem drew (h : OwnK w B b n k m G C M) : OwnK w.drew B b n k m G C M := ⟨h.top, h.cap, h.rows, h.inj, h.lo⟩
theorem old (h : OwnK w B b n k m G C M) (hb : Below w.heap.size w w') : OwnK w' B b n k m G C M :=
  ⟨h.top.old hb, h.cap, fun i hi => (h.rows i hi).old hb, h.inj, h.lo⟩
theorem start (w : World) (B n m : Nat) (G C : Nat → Nat) (M : Mat) : OwnK (w.alloc (.cells (madeCells #[.slice none 0 0] n) 26)) B w.heap.size n 0 m G C M :=
  ⟨(RowV.made w _ _ n).congr fun j _ => by rw [if_neg (by omega)], fun i hi => absurd hi (by omega), fun i hi => absurd hi (by omega), fun i j hi => absurd hi (by omega), fun i hi => absurd hi (by omega)⟩
/-- a new row is laid -/
theorem push (h : OwnK w B b n k m G C M) (hb : Below w.heap.size w w') {g c : Nat} {f : Nat → Fe} (hg : w.heap.size ≤ g) (hB : B ≤ w.heap.size) (hc : m ≤ c) (hr : RowAt w' g m f) :
    OwnK (w'.setCell ⟨b, k, none⟩ (.slice (some ⟨g, 0, none⟩) m c)) B b n (k + 1) m (fun i => if i = k then g else G i) (fun i => if i = k then c else C i) (fun i => if i = k then f else M i) := by
  have h' := h.old hb
  have hs : ∀ (x : Nat), x ≠ b → (w'.setCell ⟨b, k, none⟩ (.slice (some ⟨g, 0, none⟩) m c)).heap[x]? = w'.heap[x]? := fun x hx => Below.heap_setCell _ _ _ _ hx
  refine ⟨(h'.top.set k _).congr fun i _ => ?_, fun i hi => ?_, fun i hi => ?_, fun i j hi hj e => ?_, fun i hi => ?_⟩
  · by_cases e : i = k
    · simp [e]
    · by_cases e' : i < k
      · simp [e, e', show i < k + 1 by omega]
      · simp [e, e', show ¬ i < k + 1 by omega]
  · by_cases e : i = k
    · simp only [e, if_true]; exact hc
    · simp only [e, if_false]; exact h.cap i (by omega)
  · by_cases e : i = k
    · simp only [e, if_true]; exact hr.of_block (hs _ (by have := h.top.lt; omega))
    · simp only [e, if_false]; exact (h'.rows i (by omega)).of_block (hs _ (h'.ne (by omega)))
  · by_cases e1 : i = k <;> by_cases e2 : j = k
    · omega
    · simp only [e1, e2, if_true, if_false] at e
      have := (h.rows j (by omega)).lt
      omega
    · simp only [e1, e2, if_true, if_false] at e
      have := (h.rows i (by omega)).lt
      omega
    · simp only [e1, e2, if_false] at e
      exact h.inj i j (by omega) (by omega) e
  · by_cases e : i = k
    · simp only [e, if_true]; omega
    · simp only [e, if_false]; exact h.lo i (by omega)
/-- a row is turned -/
theorem turn (h : OwnK w B b n k m G C M) {i : Nat} (hi : i < k) {f : Nat → Fe} (hk : Kp (· = G i) w w') (hr : RowAt w' (G i) m f) : OwnK w' B b n k m G C (fun r => if r = i then f else M r) := by
  refine ⟨h.top.kp hk (fun e => h.ne hi e.symm), h.cap, fun r hr' => ?_, h.inj, h.lo⟩
  by_cases e : r = i
  · simp only [e, if_true]; exact hr
  · simp only [e, if_false]; exact (h.rows r hr').kp hk (fun e' => e (h.inj r i hr' hi e'))
/-- two rows are exchanged -/
theorem swap (h : OwnK w B b n n m G C M) {i p : Nat} (hi : i < n) (hp : p < n) (hr : ∀ r, r < n → RowAt w' (G r) m (M' r))
    (ht : RowV w' 26 b n (fun r => if r = i then .slice (some ⟨G p, 0, none⟩) m (C p) else if r = p then .slice (some ⟨G i, 0, none⟩) m (C i) else .slice (some ⟨G r, 0, none⟩) m (C r))) :
    OwnK w' B b n n m (fun r => if r = i then G p else if r = p then G i else G r) (fun r => if r = i then C p else if r = p then C i else C r) (swp M' i p) := by
  refine ⟨ht.congr fun r hr' => ?_, fun r hr' => ?_, fun r hr' => ?_, fun r s hr' hs e => ?_, fun r hr' => ?_⟩
  · rw [if_pos hr']
    by_cases e : r = i
    · simp only [if_pos e]
    · by_cases e' : r = p
      · simp only [if_neg e, if_pos e']
      · simp only [if_neg e, if_neg e']
  · by_cases e : r = i
    · simp only [e, if_true]; exact h.cap p hp
    · by_cases e' : r = p
      · simp only [if_neg e, if_pos e']; exact h.cap i hi
      · simp only [if_neg e, if_neg e']; exact h.cap r hr'
  · unfold swp
    by_cases e : r = i
    · simp only [e, if_true]; exact hr p hp
    · by_cases e' : r = p
      · simp only [if_neg e, if_pos e']; exact hr i hi
      · simp only [if_neg e, if_neg e']; exact hr r hr'
  · by_cases e1 : r = i <;> by_cases e2 : s = i
    · omega
    · rw [if_pos e1, if_neg e2] at e
      by_cases e3 : s = p
      · rw [if_pos e3] at e
        have := h.inj p i hp hi e; omega
      · rw [if_neg e3] at e
        have := h.inj p s hp hs e; omega
    · rw [if_neg e1, if_pos e2] at e
      by_cases e3 : r = p
      · rw [if_pos e3] at e
        have := h.inj i p hi hp e; omega
      · rw [if_neg e3] at e
        have := h.inj r p hr' hp e; omega
    · rw [if_neg e1, if_neg e2] at e
      by_cases e3 : r = p <;> by_cases e4 : s = p
      · omega
      · rw [if_pos e3, if_neg e4] at e
        have := h.inj i s hi hs e; omega
      · rw [if_neg e3, if_pos e4] at e
        have := h.inj r i hr' hi e; omega
      · rw [if_neg e3, if_neg e4] at e
        exact h.inj r s hr' hs e
  · by_cases e : r = i
    · simp only [e, if_true]; exact h.lo p hp
    · by_cases e' : r = p
      · simp only [if_neg e, if_pos e']; exact h.lo i hi
      · simp only [if_neg e, if_neg e']; exact h.lo r hr'
end OwnK
end Go.Proofs.YtndofmoepjfnfaaDoor
