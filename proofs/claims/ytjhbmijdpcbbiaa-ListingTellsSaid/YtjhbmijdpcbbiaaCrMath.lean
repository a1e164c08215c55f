/- Plain mathematics of chapter 4, no program: the sum of CRC-32C, bit by bit. -/
namespace Go.Proofs.Ytjhbmijdpcbbiaa.Cr

abbrev W := BitVec 32
def poly : W := 0x82F63B78#32
/-- one bit is taken -/
def step (x : W) : W := if x.getLsbD 0 = true then (x >>> 1) ^^^ poly else x >>> 1
def steps : Nat → W → W
  | 0, x => x
  | n + 1, x => steps n (step x)
theorem steps_succ (n : Nat) (x : W) : steps (n + 1) x = steps n (step x) := rfl
theorem steps_out (n : Nat) (x : W) : steps (n + 1) x = step (steps n x) := by
  induction n generalizing x with
  | zero => rfl
  | succ n ih => rw [steps_succ, ih, ← steps_succ]
theorem steps_add (n m : Nat) (x : W) : steps (n + m) x = steps m (steps n x) := by
  induction n generalizing x with
  | zero => rw [Nat.zero_add]; rfl
  | succ n ih => rw [show n + 1 + m = (n + m) + 1 by omega, steps_succ, ih]; rfl
theorem step_zero : step 0#32 = 0#32 := by decide
theorem step_xor (x y : W) : step (x ^^^ y) = step x ^^^ step y := by
  unfold step
  rw [BitVec.getLsbD_xor, BitVec.ushiftRight_xor_distrib]
  generalize x >>> 1 = a
  generalize y >>> 1 = b
  cases x.getLsbD 0 <;> cases y.getLsbD 0
  · simp
  · simp [BitVec.xor_assoc]
  · simp only [Bool.xor_false, if_true, Bool.false_eq_true, if_false]
    rw [BitVec.xor_assoc, BitVec.xor_comm b, ← BitVec.xor_assoc]
  · simp only [Bool.xor_self, Bool.false_eq_true, if_false, if_true]
    rw [BitVec.xor_assoc, BitVec.xor_comm poly, BitVec.xor_assoc, BitVec.xor_self, BitVec.xor_zero]
theorem steps_xor (n : Nat) (x y : W) : steps n (x ^^^ y) = steps n x ^^^ steps n y := by
  induction n generalizing x y with
  | zero => rfl
  | succ n ih => rw [steps_succ, step_xor, ih]; rfl
theorem xor_eq_zero {x y : W} (h : x ^^^ y = 0#32) : x = y := by
  have h1 : x ^^^ y ^^^ y = 0#32 ^^^ y := by rw [h]
  rw [BitVec.xor_assoc, BitVec.xor_self, BitVec.xor_zero, BitVec.zero_xor] at h1
  exact h1
theorem step_ker {x : W} (h : step x = 0#32) : x = 0#32 := by
  unfold step at h
  by_cases e : x.getLsbD 0 = true
  · rw [if_pos e] at h
    have h1 := xor_eq_zero h
    have h2 : (x >>> 1).getLsbD 31 = poly.getLsbD 31 := by rw [h1]
    rw [BitVec.getLsbD_ushiftRight] at h2
    rw [BitVec.getLsbD_of_ge x (1 + 31) (by omega)] at h2
    exact absurd h2 (by decide)
  · rw [if_neg e] at h
    apply BitVec.eq_of_getLsbD_eq
    intro i hi
    rw [BitVec.getLsbD_zero]
    by_cases h0 : i = 0
    · rw [h0]; simpa using e
    · have h1 : (x >>> 1).getLsbD (i - 1) = (0#32).getLsbD (i - 1) := by rw [h]
      rw [BitVec.getLsbD_ushiftRight, BitVec.getLsbD_zero, show 1 + (i - 1) = i by omega] at h1
      exact h1
theorem steps_inj (n : Nat) {x y : W} (h : steps n x = steps n y) : x = y := by
  induction n generalizing x y with
  | zero => exact h
  | succ n ih =>
    have h1 := ih (x := step x) (y := step y) h
    apply xor_eq_zero
    apply step_ker
    rw [step_xor, h1, BitVec.xor_self]
/-- a byte is taken -/
def up (s : W) (b : Nat) : W := steps 8 (s ^^^ BitVec.ofNat 32 b)
def ups (s : W) (r : Nat → Nat) : Nat → W
  | 0 => s
  | n + 1 => up (ups s r n) (r n)
theorem ups_succ (s : W) (r : Nat → Nat) (n : Nat) : ups s r (n + 1) = up (ups s r n) (r n) := rfl
theorem ups_congr {s : W} {r r' : Nat → Nat} : ∀ n, (∀ i, i < n → r i = r' i) → ups s r n = ups s r' n
  | 0, _ => rfl
  | n + 1, h => by rw [ups_succ, ups_succ, ups_congr n (fun i hi => h i (by omega)), h n (by omega)]
theorem ups_join (s : W) (r : Nat → Nat) (n : Nat) : ∀ m, ups s r (n + m) = ups (ups s r n) (fun i => r (n + i)) m
  | 0 => rfl
  | m + 1 => by rw [← Nat.add_assoc, ups_succ, ups_succ, ups_join s r n m]
theorem up_inj {s s' : W} {b : Nat} (h : up s b = up s' b) : s = s' := by
  have h1 := steps_inj 8 h
  have h2 : s ^^^ BitVec.ofNat 32 b ^^^ BitVec.ofNat 32 b = s' ^^^ BitVec.ofNat 32 b ^^^ BitVec.ofNat 32 b := by rw [h1]
  rw [BitVec.xor_assoc, BitVec.xor_assoc, BitVec.xor_self, BitVec.xor_zero, BitVec.xor_zero] at h2
  exact h2
theorem up_inj_byte {s : W} {b b' : Nat} (hb : b < 256) (hb' : b' < 256) (h : up s b = up s b') : b = b' := by
  have h1 := steps_inj 8 h
  have h2 : s ^^^ (s ^^^ BitVec.ofNat 32 b) = s ^^^ (s ^^^ BitVec.ofNat 32 b') := by rw [h1]
  rw [← BitVec.xor_assoc, ← BitVec.xor_assoc, BitVec.xor_self, BitVec.zero_xor, BitVec.zero_xor] at h2
  have h3 := congrArg BitVec.toNat h2
  simp only [BitVec.toNat_ofNat] at h3
  omega
theorem ups_inj {s s' : W} {r : Nat → Nat} : ∀ n, ups s r n = ups s' r n → s = s'
  | 0, h => h
  | n + 1, h => ups_inj n (up_inj h)
/-- one byte that is another makes another sum -/
theorem ups_one {s : W} {r r' : Nat → Nat} {n k : Nat} (hk : k < n) (hb : r k < 256) (hb' : r' k < 256) (hne : r k ≠ r' k) (he : ∀ i, i < n → i ≠ k → r i = r' i) : ups s r n ≠ ups s r' n := by
  intro h
  obtain ⟨m, rfl⟩ : ∃ m, n = k + 1 + m := ⟨n - (k + 1), by omega⟩
  rw [ups_join s r (k + 1) m, ups_join s r' (k + 1) m, ups_congr (r := fun i => r (k + 1 + i)) (r' := fun i => r' (k + 1 + i)) m (fun i hi => he _ (by omega) (by omega))] at h
  have h1 := ups_inj m h
  rw [ups_succ, ups_succ, ups_congr (r := r) (r' := r') k (fun i hi => he i (by omega) (by omega))] at h1
  exact hne (up_inj_byte hb hb' h1)
/-! ### Bytes with their sum behind -/
theorem slide8 : ∀ b : Fin 256, steps 8 (BitVec.ofNat 32 b.val <<< 8) = BitVec.ofNat 32 b.val := by decide +kernel
theorem slide16 : ∀ b : Fin 256, steps 16 (BitVec.ofNat 32 b.val <<< 16) = BitVec.ofNat 32 b.val := by decide +kernel
theorem slide24 : ∀ b : Fin 256, steps 24 (BitVec.ofNat 32 b.val <<< 24) = BitVec.ofNat 32 b.val := by decide +kernel
theorem slide (n : Nat) (x y : W) (b : Nat) (h : steps n y = BitVec.ofNat 32 b) : up (steps n x) b = steps (n + 8) (x ^^^ y) := by
  rw [steps_add, steps_xor n x y, h]; rfl
theorem four (s : W) {b0 b1 b2 b3 : Nat} (h1 : b1 < 256) (h2 : b2 < 256) (h3 : b3 < 256) :
    up (up (up (up s b0) b1) b2) b3 = steps 32 (s ^^^ BitVec.ofNat 32 b0 ^^^ BitVec.ofNat 32 b1 <<< 8 ^^^ BitVec.ofNat 32 b2 <<< 16 ^^^ BitVec.ofNat 32 b3 <<< 24) := by
  have e1 : up (up s b0) b1 = steps 16 (s ^^^ BitVec.ofNat 32 b0 ^^^ BitVec.ofNat 32 b1 <<< 8) := slide 8 _ _ b1 (slide8 ⟨b1, h1⟩)
  have e2 : up (up (up s b0) b1) b2 = steps 24 (s ^^^ BitVec.ofNat 32 b0 ^^^ BitVec.ofNat 32 b1 <<< 8 ^^^ BitVec.ofNat 32 b2 <<< 16) := by
    rw [e1]; exact slide 16 _ _ b2 (slide16 ⟨b2, h2⟩)
  rw [e2]; exact slide 24 _ _ b3 (slide24 ⟨b3, h3⟩)
theorem bytes_of (v : W) : BitVec.ofNat 32 (v.toNat % 256) ^^^ BitVec.ofNat 32 (v.toNat / 256 % 256) <<< 8 ^^^ BitVec.ofNat 32 (v.toNat / 65536 % 256) <<< 16 ^^^ BitVec.ofNat 32 (v.toNat / 16777216 % 256) <<< 24 = v := by
  apply BitVec.eq_of_getLsbD_eq
  intro i hi
  have g : ∀ k j, (BitVec.ofNat 32 (v.toNat / 2 ^ k % 2 ^ 8)).getLsbD j = (decide (j < 8) && v.getLsbD (k + j)) := fun k j => by
    rw [BitVec.getLsbD_ofNat, Nat.testBit_mod_two_pow, Nat.testBit_div_two_pow]
    unfold BitVec.getLsbD
    by_cases h8 : j < 8
    · simp [h8, show j < 32 by omega, Nat.add_comm]
    · simp [h8]
  have g0 := g 0
  have g8 := g 8
  have g16 := g 16
  have g24 := g 24
  simp only [Nat.pow_zero, Nat.div_one, show (2 : Nat) ^ 8 = 256 from rfl, show (2 : Nat) ^ 16 = 65536 from rfl, show (2 : Nat) ^ 24 = 16777216 from rfl, Nat.zero_add] at g0 g8 g16 g24
  simp only [BitVec.getLsbD_xor, BitVec.getLsbD_shiftLeft, g0, g8, g16, g24]
  rcases (show i < 8 ∨ (8 ≤ i ∧ i < 16) ∨ (16 ≤ i ∧ i < 24) ∨ 24 ≤ i by omega) with h | h | h | h
  · simp [h, hi, show i < 16 by omega, show i < 24 by omega]
  · have e : 8 + (i - 8) = i := by omega
    simp [hi, show ¬ i < 8 by omega, show i - 8 < 8 by omega, show i < 16 by omega, show i < 24 by omega, e]
  · have e : 16 + (i - 16) = i := by omega
    simp [hi, show ¬ i < 8 by omega, show ¬ i - 8 < 8 by omega, show ¬ i < 16 by omega, show i - 16 < 8 by omega, show i < 24 by omega, e]
  · have e : 24 + (i - 24) = i := by omega
    simp [hi, show ¬ i < 8 by omega, show ¬ i - 8 < 8 by omega, show ¬ i < 16 by omega, show ¬ i - 16 < 8 by omega, show ¬ i < 24 by omega, show i - 24 < 8 by omega, e]
/-- with its own sum behind, the lowest byte first, whatever was summed comes to one sum -/
theorem at_end (s : W) : up (up (up (up s ((~~~s).toNat % 256)) ((~~~s).toNat / 256 % 256)) ((~~~s).toNat / 65536 % 256)) ((~~~s).toNat / 16777216 % 256) = 0xB798B438#32 := by
  rw [four s (Nat.mod_lt _ (by decide)) (Nat.mod_lt _ (by decide)) (Nat.mod_lt _ (by decide))]
  have h := bytes_of (~~~s)
  rw [BitVec.xor_assoc, BitVec.xor_assoc, BitVec.xor_assoc, ← BitVec.xor_assoc (BitVec.ofNat 32 ((~~~s).toNat % 256)), ← BitVec.xor_assoc (BitVec.ofNat 32 ((~~~s).toNat % 256) ^^^ _)]
  rw [h]
  rw [show s ^^^ ~~~s = BitVec.allOnes 32 by
    apply BitVec.eq_of_getLsbD_eq
    intro i hi
    simp only [BitVec.getLsbD_xor, BitVec.getLsbD_not, BitVec.getLsbD_allOnes, hi, decide_true, Bool.true_and]
    cases s.getLsbD i <;> rfl]
  decide +kernel
end Go.Proofs.Ytjhbmijdpcbbiaa.Cr
