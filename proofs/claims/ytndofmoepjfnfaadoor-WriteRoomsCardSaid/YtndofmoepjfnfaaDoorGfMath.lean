/- The field of 256 elements as a function on numbers: product, powers and inverse, and the laws of a field, for numbers below 256. -/
import Derived.Laws.Entries
namespace Go.Proofs.YtndofmoepjfnfaaDoor.Gf

def tx (a : Nat) : Nat := if a < 128 then 2 * a else (2 * a - 256) ^^^ 29
def txn : Nat → Nat → Nat
  | 0, a => a
  | n + 1, a => tx (txn n a)
def mulr : Nat → Nat → Nat → Nat → Nat
  | 0, _, _, p => p
  | n + 1, a, b, p => mulr n (tx a) (b / 2) (if b % 2 = 1 then p ^^^ a else p)
def mul (a b : Nat) : Nat := mulr 8 a b 0
def pw (a : Nat) : Nat → Nat
  | 0 => 1
  | n + 1 => mul (pw a n) a
def inv (a : Nat) : Nat := pw a 254

theorem xor_lt {a b : Nat} (ha : a < 256) (hb : b < 256) : a ^^^ b < 256 := Nat.xor_lt_two_pow (n := 8) ha hb

theorem tx_lt {a : Nat} (h : a < 256) : tx a < 256 := by
  unfold tx; split
  · omega
  · exact xor_lt (by omega) (by decide)
theorem txn_lt (n : Nat) {a : Nat} (h : a < 256) : txn n a < 256 := by
  induction n with
  | zero => exact h
  | succ n ih => exact tx_lt ih

theorem tx_xor_all : (List.range 256).all (fun a => (List.range 256).all fun b => tx (a ^^^ b) == tx a ^^^ tx b) = true := by decide +kernel
theorem tx_xor {a b : Nat} (ha : a < 256) (hb : b < 256) : tx (a ^^^ b) = tx a ^^^ tx b := by
  have h := tx_xor_all
  rw [List.all_eq_true] at h
  have h1 := h a (List.mem_range.2 ha)
  rw [List.all_eq_true] at h1
  exact beq_iff_eq.1 (h1 b (List.mem_range.2 hb))
theorem txn_xor (n : Nat) {a b : Nat} (ha : a < 256) (hb : b < 256) : txn n (a ^^^ b) = txn n a ^^^ txn n b := by
  induction n with
  | zero => rfl
  | succ n ih => simp only [txn]; rw [ih, tx_xor (txn_lt n ha) (txn_lt n hb)]
theorem txn_add (m n a : Nat) : txn (m + n) a = txn m (txn n a) := by
  induction m with
  | zero => rw [Nat.zero_add]; rfl
  | succ m ih => rw [Nat.succ_add]; simp only [txn]; rw [ih]
theorem txn_comm (m n a : Nat) : txn m (txn n a) = txn n (txn m a) := by rw [← txn_add, ← txn_add, Nat.add_comm]
theorem txn_zero (n : Nat) : txn n 0 = 0 := by
  induction n with
  | zero => rfl
  | succ n ih => simp only [txn]; rw [ih]; rfl

theorem mulr_lt (n : Nat) {a b p : Nat} (ha : a < 256) (hp : p < 256) : mulr n a b p < 256 := by
  induction n generalizing a b p with
  | zero => exact hp
  | succ n ih =>
    simp only [mulr]
    apply ih (tx_lt ha)
    split
    · exact xor_lt hp ha
    · exact hp
theorem mul_lt {a b : Nat} (ha : a < 256) : mul a b < 256 := mulr_lt 8 ha (by decide)

theorem mulr_tx (n : Nat) {a b p : Nat} (ha : a < 256) (hp : p < 256) : mulr n (tx a) b (tx p) = tx (mulr n a b p) := by
  induction n generalizing a b p with
  | zero => rfl
  | succ n ih =>
    simp only [mulr]
    by_cases hb : b % 2 = 1
    · rw [if_pos hb, if_pos hb, ← tx_xor hp ha]; exact ih (tx_lt ha) (xor_lt hp ha)
    · rw [if_neg hb, if_neg hb]; exact ih (tx_lt ha) hp
theorem tx_zero : tx 0 = 0 := rfl
theorem mul_tx {a b : Nat} (ha : a < 256) : mul (tx a) b = tx (mul a b) := by
  have h := mulr_tx 8 (a := a) (b := b) (p := 0) ha (by decide)
  rw [tx_zero] at h
  exact h
theorem mul_txn (n : Nat) {a b : Nat} (ha : a < 256) : mul (txn n a) b = txn n (mul a b) := by
  induction n with
  | zero => rfl
  | succ n ih => simp only [txn]; rw [mul_tx (txn_lt n ha), ih]

theorem one_mul_all : (List.range 256).all (fun b => mul 1 b == b) = true := by decide +kernel
theorem one_mul {b : Nat} (hb : b < 256) : mul 1 b = b := by
  have h := one_mul_all
  rw [List.all_eq_true] at h
  exact beq_iff_eq.1 (h b (List.mem_range.2 hb))
theorem zero_mulr (n b p : Nat) : mulr n 0 b p = p := by
  induction n generalizing b p with
  | zero => rfl
  | succ n ih =>
    simp only [mulr]
    have : tx 0 = 0 := rfl
    rw [this, ih]
    simp
theorem zero_mul (b : Nat) : mul 0 b = 0 := zero_mulr 8 b 0

def logs (a : Nat) : Nat := ((List.range 255).find? fun i => txn i 1 == a).getD 0
/-- the powers of 2, in their order -/
def exps : Nat → Nat → List Nat
  | 0, _ => []
  | n + 1, a => a :: exps n (tx a)
theorem exps_get (n : Nat) : ∀ (i a : Nat), i < n → (exps n a)[i]? = some (txn i a) := by
  induction n with
  | zero => intro i a h; omega
  | succ n ih =>
    intro i a h
    cases i with
    | zero => rfl
    | succ i =>
      simp only [exps, List.getElem?_cons_succ]
      rw [ih i (tx a) (by omega)]
      rw [show txn i (tx a) = txn i (txn 1 a) from rfl, ← txn_add]
theorem gen_all : (List.range 256).all (fun a => a == 0 || (exps 255 1).contains a) = true := by decide +kernel
theorem exps_length (n a : Nat) : (exps n a).length = n := by
  induction n generalizing a with
  | zero => rfl
  | succ n ih => simp [exps, ih]
theorem gen {a : Nat} (ha : a < 256) (h0 : a ≠ 0) : ∃ i, i < 255 ∧ a = txn i 1 := by
  have h := gen_all
  rw [List.all_eq_true] at h
  have h1 := h a (List.mem_range.2 ha)
  simp only [Bool.or_eq_true, beq_iff_eq, h0, false_or, List.contains_iff_mem] at h1
  obtain ⟨i, hi, he⟩ := List.getElem_of_mem h1
  have hl := exps_length 255 1
  refine ⟨i, by omega, ?_⟩
  have := exps_get 255 i 1 (by omega)
  rw [List.getElem?_eq_getElem hi] at this
  rw [← he]; exact Option.some.inj this
theorem ord : txn 255 1 = 1 := by decide +kernel

theorem gen_mul (i : Nat) {b : Nat} (hb : b < 256) : mul (txn i 1) b = txn i b := by rw [mul_txn i (by decide), one_mul hb]
theorem txn_ne (i : Nat) : txn i 1 ≠ 0 := by
  intro h
  have h1 : txn (255 * i) 1 = 1 := by
    induction i with
    | zero => rfl
    | succ i ih =>
      have e : ∀ k, txn (255 * k) 1 = 1 := by
        intro k
        induction k with
        | zero => rfl
        | succ k ihk => rw [Nat.mul_succ, txn_add, ord, ihk]
      exact e _
  have h2 : txn (255 * i) 1 = txn (254 * i) (txn i 1) := by rw [← txn_add]; congr 1; omega
  rw [h2, h, txn_zero] at h1
  exact absurd h1 (by decide)
theorem ord_mul (k : Nat) : txn (255 * k) 1 = 1 := by
  induction k with
  | zero => rfl
  | succ k ihk => rw [Nat.mul_succ, txn_add, ord, ihk]
theorem txn_mod (i : Nat) : txn (i % 255) 1 = txn i 1 := by
  have h : txn (i % 255 + 255 * (i / 255)) 1 = txn i 1 := by rw [Nat.mod_add_div]
  rw [txn_add, ord_mul] at h
  exact h

theorem mul_zero {a : Nat} (ha : a < 256) : mul a 0 = 0 := by
  by_cases h : a = 0
  · subst h; exact zero_mul 0
  · obtain ⟨i, _, rfl⟩ := gen ha h
    rw [gen_mul i (by decide), txn_zero]
theorem mul_comm {a b : Nat} (ha : a < 256) (hb : b < 256) : mul a b = mul b a := by
  by_cases h : a = 0
  · subst h; rw [zero_mul, mul_zero hb]
  · by_cases h' : b = 0
    · subst h'; rw [zero_mul, mul_zero ha]
    · obtain ⟨i, _, rfl⟩ := gen ha h
      obtain ⟨j, _, rfl⟩ := gen hb h'
      rw [gen_mul i hb, gen_mul j ha, txn_comm]
theorem mul_assoc {a b c : Nat} (ha : a < 256) (hb : b < 256) : mul (mul a b) c = mul a (mul b c) := by
  by_cases h : a = 0
  · subst h; rw [zero_mul, zero_mul, zero_mul]
  · obtain ⟨i, _, rfl⟩ := gen ha h
    rw [gen_mul i hb, mul_txn i hb, gen_mul i (mul_lt hb)]
theorem mul_xor {a b c : Nat} (ha : a < 256) (hb : b < 256) (hc : c < 256) : mul a (b ^^^ c) = mul a b ^^^ mul a c := by
  by_cases h : a = 0
  · subst h; rw [zero_mul, zero_mul, zero_mul]; rfl
  · obtain ⟨i, _, rfl⟩ := gen ha h
    rw [gen_mul i (xor_lt hb hc), gen_mul i hb, gen_mul i hc, txn_xor i hb hc]
theorem mul_one {a : Nat} (ha : a < 256) : mul a 1 = a := by rw [mul_comm ha (by decide), one_mul ha]

theorem pw_lt {a : Nat} (_ha : a < 256) (n : Nat) : pw a n < 256 := by
  induction n with
  | zero => show 1 < 256; decide
  | succ n ih => exact mul_lt ih
theorem inv_lt {a : Nat} (ha : a < 256) : inv a < 256 := pw_lt ha 254
theorem pw_gen (i n : Nat) : pw (txn i 1) n = txn (i * n) 1 := by
  induction n with
  | zero => rfl
  | succ n ih =>
    simp only [pw]
    rw [ih, gen_mul _ (txn_lt i (by decide)), ← txn_add]
    congr 1
theorem pw_add {a : Nat} (ha : a < 256) (m n : Nat) : pw a (m + n) = mul (pw a m) (pw a n) := by
  induction n with
  | zero => rw [show pw a 0 = 1 from rfl, mul_one (pw_lt ha m)]; rfl
  | succ n ih => rw [← Nat.add_assoc]; simp only [pw]; rw [ih, mul_assoc (pw_lt ha m) (pw_lt ha n)]
theorem pw_zero (n : Nat) (h : 0 < n) : pw 0 n = 0 := by
  cases n with
  | zero => omega
  | succ n => exact mul_zero (pw_lt (by decide) n)
theorem inv_zero : inv 0 = 0 := pw_zero 254 (by decide)
theorem pw_ord {a : Nat} (ha : a < 256) (h : a ≠ 0) : pw a 255 = 1 := by
  obtain ⟨i, _, rfl⟩ := gen ha h
  rw [pw_gen, Nat.mul_comm, ord_mul]
theorem pw_mod {a : Nat} (ha : a < 256) (h : a ≠ 0) (n : Nat) : pw a (n % 255) = pw a n := by
  obtain ⟨i, _, rfl⟩ := gen ha h
  rw [pw_gen, pw_gen, ← txn_mod, ← txn_mod (i * n), Nat.mul_mod, Nat.mod_mod, ← Nat.mul_mod]
theorem mul_inv {a : Nat} (ha : a < 256) (h : a ≠ 0) : mul a (inv a) = 1 := by
  rw [mul_comm ha (inv_lt ha)]
  exact pw_ord ha h
theorem mul_ne {a b : Nat} (ha : a < 256) (hb : b < 256) (h : a ≠ 0) (h' : b ≠ 0) : mul a b ≠ 0 := by
  obtain ⟨i, _, rfl⟩ := gen ha h
  obtain ⟨j, _, rfl⟩ := gen hb h'
  rw [gen_mul i hb, ← txn_add]; exact txn_ne _
theorem pw_ne {a : Nat} (ha : a < 256) (h : a ≠ 0) (n : Nat) : pw a n ≠ 0 := by
  obtain ⟨i, _, rfl⟩ := gen ha h
  rw [pw_gen]; exact txn_ne _
theorem inv_ne {a : Nat} (ha : a < 256) (h : a ≠ 0) : inv a ≠ 0 := pw_ne ha h 254
/-- a power of the inverse is the power that is missing to a whole turn -/
theorem pw_inv {a : Nat} (ha : a < 256) (h : a ≠ 0) (k m : Nat) (hk : (k + m) % 255 = 0) : pw (inv a) k = pw a m := by
  obtain ⟨i, _, rfl⟩ := gen ha h
  have hi : inv (txn i 1) = txn (i * 254) 1 := pw_gen i 254
  rw [hi, pw_gen, pw_gen, ← txn_mod, ← txn_mod (i * m)]
  congr 1
  have hk' : ((i * 254 * k) + (i * 254 * m)) % 255 = 0 := by
    rw [← Nat.mul_add, Nat.mul_mod, hk]; simp
  have hm : (i * 254 * m + i * m) % 255 = 0 := by
    rw [show i * 254 * m + i * m = (i * m) * 255 by
      rw [Nat.mul_right_comm, ← Nat.mul_succ]]
    simp
  omega

/-- the power by squaring -/
def raise : Nat → Nat → Nat → Nat → Nat
  | 0, _, _, p => p
  | f + 1, a, n, p => if n = 0 then p else raise f (mul a a) (n / 2) (if n % 2 = 1 then mul p a else p)
theorem pw_sq {a : Nat} (ha : a < 256) (n : Nat) : pw (mul a a) n = pw a (2 * n) := by
  induction n with
  | zero => rfl
  | succ n ih =>
    rw [Nat.mul_succ, pw_add ha]
    simp only [pw]
    rw [ih, one_mul ha]
theorem raise_pw {a p : Nat} (ha : a < 256) (hp : p < 256) (n : Nat) :
    mul (if n % 2 = 1 then mul p a else p) (pw (mul a a) (n / 2)) = mul p (pw a n) := by
  rw [pw_sq ha]
  by_cases h : n % 2 = 1
  · rw [if_pos h, mul_assoc hp ha]
    congr 1
    have : mul a (pw a (2 * (n / 2))) = pw a (2 * (n / 2) + 1) := by
      simp only [pw]; exact mul_comm ha (pw_lt ha _)
    rw [this]; congr 1; omega
  · rw [if_neg h]; congr 2; omega

theorem xor_self_zero (a : Nat) : a ^^^ a = 0 := Nat.xor_self a

/-! ### the document's own product -/
def refUp : Nat → Nat → Nat → Nat → Nat
  | 0, _, _, x => x
  | n + 1, a, b, x => refUp n a b (if b / 2 ^ (7 - n) % 2 = 1 then x ^^^ (a * 2 ^ (7 - n)) else x)
def refDown : Nat → Nat → Nat
  | 0, x => x
  | n + 1, x => refDown n (if x / 2 ^ (n + 8) % 2 = 1 then x ^^^ (285 * 2 ^ n) else x)
def refMul (a b : Nat) : Nat := refDown 7 (refUp 8 a b 0) % 256
theorem bit_xor (x y k : Nat) : (x ^^^ y) / 2 ^ k % 2 = (x / 2 ^ k % 2 + y / 2 ^ k % 2) % 2 := by
  have h := Nat.testBit_xor x y k
  simp only [Nat.testBit_eq_decide_div_mod_eq] at h
  have h1 := Nat.mod_lt ((x ^^^ y) / 2 ^ k) (by decide : 2 > 0)
  have h2 := Nat.mod_lt (x / 2 ^ k) (by decide : 2 > 0)
  have h3 := Nat.mod_lt (y / 2 ^ k) (by decide : 2 > 0)
  generalize (x ^^^ y) / 2 ^ k % 2 = c at *
  generalize x / 2 ^ k % 2 = d at *
  generalize y / 2 ^ k % 2 = e at *
  have : c = 0 ∨ c = 1 := by omega
  have : d = 0 ∨ d = 1 := by omega
  have : e = 0 ∨ e = 1 := by omega
  rcases ‹c = 0 ∨ c = 1› with rfl | rfl <;> rcases ‹d = 0 ∨ d = 1› with rfl | rfl <;> rcases ‹e = 0 ∨ e = 1› with rfl | rfl <;> simp_all
theorem refDown_xor (n : Nat) : ∀ x y : Nat, refDown n (x ^^^ y) = refDown n x ^^^ refDown n y := by
  induction n with
  | zero => intro x y; rfl
  | succ n ih =>
    intro x y
    simp only [refDown]
    rw [← ih]
    congr 1
    have h := bit_xor x y (n + 8)
    have h2 := Nat.mod_lt (x / 2 ^ (n + 8)) (by decide : 2 > 0)
    have h3 := Nat.mod_lt (y / 2 ^ (n + 8)) (by decide : 2 > 0)
    by_cases hx : x / 2 ^ (n + 8) % 2 = 1 <;> by_cases hy : y / 2 ^ (n + 8) % 2 = 1
    · rw [if_pos hx, if_pos hy, if_neg (by rw [h, hx, hy]; decide)]
      rw [show x ^^^ 285 * 2 ^ n ^^^ (y ^^^ 285 * 2 ^ n) = x ^^^ y ^^^ (285 * 2 ^ n ^^^ 285 * 2 ^ n) by ac_rfl, Nat.xor_self, Nat.xor_zero]
    · rw [if_pos hx, if_neg hy, if_pos (by rw [h, hx]; omega)]; ac_rfl
    · rw [if_neg hx, if_pos hy, if_pos (by rw [h, hy]; omega)]; ac_rfl
    · rw [if_neg hx, if_neg hy, if_neg (by rw [h]; omega)]
theorem refDown_base_all : (List.range 8).all (fun k => (List.range 256).all fun a => refDown 7 (a * 2 ^ k) % 256 == txn k a) = true := by decide +kernel
theorem refDown_base {a k : Nat} (ha : a < 256) (hk : k < 8) : refDown 7 (a * 2 ^ k) % 256 = txn k a := by
  have h := refDown_base_all
  rw [List.all_eq_true] at h
  have h1 := h k (List.mem_range.2 hk)
  rw [List.all_eq_true] at h1
  exact beq_iff_eq.1 (h1 a (List.mem_range.2 ha))
theorem xor_mod (x y : Nat) : (x ^^^ y) % 256 = x % 256 ^^^ y % 256 := Nat.xor_mod_two_pow (n := 8)
theorem refUp_eq {a b : Nat} (ha : a < 256) (n : Nat) : ∀ x : Nat, n ≤ 8 →
    refDown 7 (refUp n a b x) % 256 = mulr n (txn (8 - n) a) (b / 2 ^ (8 - n)) (refDown 7 x % 256) := by
  induction n with
  | zero => intro x _; rfl
  | succ n ih =>
    intro x hn
    simp only [refUp, mulr]
    rw [ih _ (by omega)]
    have e : 8 - n = (7 - n) + 1 := by omega
    have e' : 8 - (n + 1) = 7 - n := by omega
    rw [e', e, Nat.pow_succ, ← Nat.div_div_eq_div_mul]
    simp only [txn]
    congr 1
    by_cases hb : b / 2 ^ (7 - n) % 2 = 1
    · rw [if_pos hb, if_pos hb, refDown_xor, xor_mod, refDown_base ha (by omega)]
    · rw [if_neg hb, if_neg hb]
theorem refDown_zero (n : Nat) : refDown n 0 = 0 := by
  induction n with
  | zero => rfl
  | succ n ih => simp [refDown, ih]
theorem refMul_eq {a b : Nat} (ha : a < 256) : refMul a b = mul a b := by
  have h := refUp_eq (b := b) ha 8 0 (by decide)
  rw [refDown_zero] at h
  simpa [refMul, mul, txn] using h
end Go.Proofs.YtndofmoepjfnfaaDoor.Gf
