/- Chapter 13's tapes taken block by block: how long they are, each row of them, and which parity they have. No program. Plain mathematics of chapter 4, no program: the sum of CRC-32C, bit by bit. Words of 32 bits as the numbers of a uint32: bits, halves, what is turned round. No function of the program. Numbers and texts as bytes, and what is read of bytes. No program. Chapter 9's blocks as lists of bytes: which block a unit is, which unit bytes are. No function of the program. -/
import Derived.Test.YtndofmoepjfnfaaDoorMac
import Derived.Test.YtndofmoepjfnfaaDoorMab
import Derived.Test.YtndofmoepjfnfaaDoorRows
import Derived.WalkKit
import Derived.ProofKit
import Derived.Lib.Hide
import Derived.Laws.BitsLemmas
import Derived.IntWalk
namespace Go.Proofs.YtndofmoepjfnfaaDoor.St
open Pt (Tx)

/-- a tape: its label, how many blocks fit, its blocks, whether it is lost -/
structure T where
  label : Int
  cap : Int
  blocks : List Tx
  lost : Bool
def one (t : T) : Nat := if t.lost = true then 0 else t.blocks.length
/-- the most blocks that one of them has -/
def len : List T → Nat
  | [] => 0
  | t :: ts => max (one t) (len ts)
theorem len_snoc : ∀ (l : List T) (t : T), len (l ++ [t]) = max (len l) (one t)
  | [], t => by show max (one t) 0 = max 0 (one t); omega
  | a :: l, t => by rw [List.cons_append, len, len, len_snoc l t]; omega
theorem len_take {l : List T} {i : Nat} (h : i < l.length) : len (l.take (i + 1)) = max (len (l.take i)) (one l[i]) := by
  rw [List.take_succ_eq_append_getElem h, len_snoc]
theorem len_all {l : List T} {n : Nat} (h : l.length ≤ n) : len (l.take n) = len l := by rw [List.take_of_length_le h]
theorem len_le {l : List T} {m : Nat} (h : ∀ t ∈ l, t.blocks.length ≤ m) : len l ≤ m := by
  induction l with
  | nil => exact Nat.zero_le _
  | cons t ts ih =>
    rw [len]
    have h1 := ih fun t ht => h t (List.mem_cons_of_mem _ ht)
    have h2 := h t List.mem_cons_self
    unfold one
    split <;> omega
theorem one_le_len {l : List T} {t : T} (h : t ∈ l) : one t ≤ len l := by
  induction l with
  | nil => cases h
  | cons a ts ih =>
    rw [len]
    rcases List.mem_cons.1 h with rfl | h
    · omega
    · have := ih h; omega
def zeros : Tx := List.replicate 79 0
theorem zeros_len : zeros.length = 79 := List.length_replicate ..
/-- block n of a tape, as its row has it -/
def blk (n : Int) (t : T) : Tx :=
  if t.lost = true ∨ n < 0 ∨ (t.blocks.length : Int) ≤ n then zeros else if (t.blocks.getD n.toNat []).length = 79 then t.blocks.getD n.toNat [] else []
def row (l : List T) (n : Int) : List Tx := l.map (blk n)
theorem row_len (l : List T) (n : Int) : (row l n).length = l.length := by simp [row]
theorem blk_none {n : Int} {t : T} (h : t.lost = true ∨ n < 0 ∨ (t.blocks.length : Int) ≤ n) : blk n t = zeros := if_pos h
theorem blk_some {n : Nat} {t : T} (hl : t.lost = false) (hn : n < t.blocks.length) (h : t.blocks[n].length = 79) : blk (n : Int) t = t.blocks[n] := by
  unfold blk
  rw [if_neg (by rw [hl]; simp; omega), show ((n : Int)).toNat = n by omega, List.getD_eq_getElem?_getD, List.getElem?_eq_getElem hn]
  exact if_pos h
theorem blk_bad {n : Nat} {t : T} (hl : t.lost = false) (hn : n < t.blocks.length) (h : t.blocks[n].length ≠ 79) : blk (n : Int) t = [] := by
  unfold blk
  rw [if_neg (by rw [hl]; simp; omega), show ((n : Int)).toNat = n by omega, List.getD_eq_getElem?_getD, List.getElem?_eq_getElem hn]
  exact if_neg h
theorem blk_len (n : Int) (t : T) : (blk n t).length = 79 ∨ (blk n t) = [] := by
  unfold blk
  split
  · exact .inl zeros_len
  · split
    · exact .inl (by assumption)
    · exact .inr rfl
/-- a row as a matrix -/
def mat (l : List Tx) : Mx.Mat := fun i => rowL (l.getD i [])
def lens (l : List Tx) : Nat → Nat := fun i => (l.getD i []).length
theorem lens_at {l : List Tx} {i : Nat} (h : i < l.length) : lens l i = l[i].length := by
  unfold lens; rw [List.getD_eq_getElem?_getD, List.getElem?_eq_getElem h]; rfl
theorem mat_at {l : List Tx} {i : Nat} (h : i < l.length) : mat l i = rowL l[i] := by
  unfold mat; rw [List.getD_eq_getElem?_getD, List.getElem?_eq_getElem h]; rfl
/-- every row is whole -/
def Whole (l : List T) : Prop := ∀ n : Nat, n < len l → ∀ t ∈ l, blk (n : Int) t ≠ []
/-- there may be so much parity -/
def Arg (l : List T) (p : Int) : Prop := 1 ≤ l.length ∧ 0 ≤ p ∧ (l.length : Int) + p ≤ 255
def Ok (l : List T) (p : Int) : Prop := Arg l p ∧ Whole l
open Classical in
noncomputable def err (l : List T) (p : Int) : Int := if Ok l p then 0 else 1
theorem whole_len {l : List T} (h : Whole l) {n : Nat} (hn : n < len l) {t : T} (ht : t ∈ l) : (blk (n : Int) t).length = 79 := by
  rcases blk_len n t with h' | h'
  · exact h'
  · exact absurd h' (h n hn t ht)
theorem whole_lens {l : List T} {n : Nat} (h : ∀ t ∈ l, blk (n : Int) t ≠ []) {i : Nat} (hi : i < l.length) : lens (row l n) i = 79 := by
  rw [lens_at (by rw [row_len]; exact hi)]
  simp only [row, List.getElem_map]
  rcases blk_len n l[i] with h' | h'
  · exact h'
  · exact absurd h' (h _ (List.getElem_mem hi))
end Go.Proofs.YtndofmoepjfnfaaDoor.St
namespace Go.Proofs.YtndofmoepjfnfaaDoor.Cr

abbrev W := BitVec 32
def poly : W := 0x82F63B78#32
/-- one bit is taken -/
def step (x : W) : W := if x.getLsbD 0 = true then (x >>> 1) ^^^ poly else x >>> 1
def steps : Nat → W → W
  | 0, x => x
  | n + 1, x => steps n (step x)
theorem steps_succ (n : Nat) (x : W) : steps (n + 1) x = steps n (step x) := rfl
theorem steps_out (n : Nat) (x : W) : steps (n + 1) x = step (steps n x) := by
  induction n generalizing x with
  | zero => rfl
  | succ n ih => rw [steps_succ, ih, ← steps_succ]
theorem steps_add (n m : Nat) (x : W) : steps (n + m) x = steps m (steps n x) := by
  induction n generalizing x with
  | zero => rw [Nat.zero_add]; rfl
  | succ n ih => rw [show n + 1 + m = (n + m) + 1 by omega, steps_succ, ih]; rfl
theorem step_zero : step 0#32 = 0#32 := by decide
theorem step_xor (x y : W) : step (x ^^^ y) = step x ^^^ step y := by
  unfold step
  rw [BitVec.getLsbD_xor, BitVec.ushiftRight_xor_distrib]
  generalize x >>> 1 = a
  generalize y >>> 1 = b
  cases x.getLsbD 0 <;> cases y.getLsbD 0
  · simp
  · simp [BitVec.xor_assoc]
  · simp only [Bool.xor_false, if_true, Bool.false_eq_true, if_false]
    rw [BitVec.xor_assoc, BitVec.xor_comm b, ← BitVec.xor_assoc]
  · simp only [Bool.xor_self, Bool.false_eq_true, if_false, if_true]
    rw [BitVec.xor_assoc, BitVec.xor_comm poly, BitVec.xor_assoc, BitVec.xor_self, BitVec.xor_zero]
theorem steps_xor (n : Nat) (x y : W) : steps n (x ^^^ y) = steps n x ^^^ steps n y := by
  induction n generalizing x y with
  | zero => rfl
  | succ n ih => rw [steps_succ, step_xor, ih]; rfl
theorem xor_eq_zero {x y : W} (h : x ^^^ y = 0#32) : x = y := by
  have h1 : x ^^^ y ^^^ y = 0#32 ^^^ y := by rw [h]
  rw [BitVec.xor_assoc, BitVec.xor_self, BitVec.xor_zero, BitVec.zero_xor] at h1
  exact h1
theorem step_ker {x : W} (h : step x = 0#32) : x = 0#32 := by
  unfold step at h
  by_cases e : x.getLsbD 0 = true
  · rw [if_pos e] at h
    have h1 := xor_eq_zero h
    have h2 : (x >>> 1).getLsbD 31 = poly.getLsbD 31 := by rw [h1]
    rw [BitVec.getLsbD_ushiftRight] at h2
    rw [BitVec.getLsbD_of_ge x (1 + 31) (by omega)] at h2
    exact absurd h2 (by decide)
  · rw [if_neg e] at h
    apply BitVec.eq_of_getLsbD_eq
    intro i hi
    rw [BitVec.getLsbD_zero]
    by_cases h0 : i = 0
    · rw [h0]; simpa using e
    · have h1 : (x >>> 1).getLsbD (i - 1) = (0#32).getLsbD (i - 1) := by rw [h]
      rw [BitVec.getLsbD_ushiftRight, BitVec.getLsbD_zero, show 1 + (i - 1) = i by omega] at h1
      exact h1
theorem steps_inj (n : Nat) {x y : W} (h : steps n x = steps n y) : x = y := by
  induction n generalizing x y with
  | zero => exact h
  | succ n ih =>
    have h1 := ih (x := step x) (y := step y) h
    apply xor_eq_zero
    apply step_ker
    rw [step_xor, h1, BitVec.xor_self]
/-- a byte is taken -/
def up (s : W) (b : Nat) : W := steps 8 (s ^^^ BitVec.ofNat 32 b)
def ups (s : W) (r : Nat → Nat) : Nat → W
  | 0 => s
  | n + 1 => up (ups s r n) (r n)
theorem ups_succ (s : W) (r : Nat → Nat) (n : Nat) : ups s r (n + 1) = up (ups s r n) (r n) := rfl
theorem ups_congr {s : W} {r r' : Nat → Nat} : ∀ n, (∀ i, i < n → r i = r' i) → ups s r n = ups s r' n
  | 0, _ => rfl
  | n + 1, h => by rw [ups_succ, ups_succ, ups_congr n (fun i hi => h i (by omega)), h n (by omega)]
theorem ups_join (s : W) (r : Nat → Nat) (n : Nat) : ∀ m, ups s r (n + m) = ups (ups s r n) (fun i => r (n + i)) m
  | 0 => rfl
  | m + 1 => by rw [← Nat.add_assoc, ups_succ, ups_succ, ups_join s r n m]
theorem up_inj {s s' : W} {b : Nat} (h : up s b = up s' b) : s = s' := by
  have h1 := steps_inj 8 h
  have h2 : s ^^^ BitVec.ofNat 32 b ^^^ BitVec.ofNat 32 b = s' ^^^ BitVec.ofNat 32 b ^^^ BitVec.ofNat 32 b := by rw [h1]
  rw [BitVec.xor_assoc, BitVec.xor_assoc, BitVec.xor_self, BitVec.xor_zero, BitVec.xor_zero] at h2
  exact h2
theorem up_inj_byte {s : W} {b b' : Nat} (hb : b < 256) (hb' : b' < 256) (h : up s b = up s b') : b = b' := by
  have h1 := steps_inj 8 h
  have h2 : s ^^^ (s ^^^ BitVec.ofNat 32 b) = s ^^^ (s ^^^ BitVec.ofNat 32 b') := by rw [h1]
  rw [← BitVec.xor_assoc, ← BitVec.xor_assoc, BitVec.xor_self, BitVec.zero_xor, BitVec.zero_xor] at h2
  have h3 := congrArg BitVec.toNat h2
  simp only [BitVec.toNat_ofNat] at h3
  omega
theorem ups_inj {s s' : W} {r : Nat → Nat} : ∀ n, ups s r n = ups s' r n → s = s'
  | 0, h => h
  | n + 1, h => ups_inj n (up_inj h)
/-- one byte that is another makes another sum -/
theorem ups_one {s : W} {r r' : Nat → Nat} {n k : Nat} (hk : k < n) (hb : r k < 256) (hb' : r' k < 256) (hne : r k ≠ r' k) (he : ∀ i, i < n → i ≠ k → r i = r' i) : ups s r n ≠ ups s r' n := by
  intro h
  obtain ⟨m, rfl⟩ : ∃ m, n = k + 1 + m := ⟨n - (k + 1), by omega⟩
  rw [ups_join s r (k + 1) m, ups_join s r' (k + 1) m, ups_congr (r := fun i => r (k + 1 + i)) (r' := fun i => r' (k + 1 + i)) m (fun i hi => he _ (by omega) (by omega))] at h
  have h1 := ups_inj m h
  rw [ups_succ, ups_succ, ups_congr (r := r) (r' := r') k (fun i hi => he i (by omega) (by omega))] at h1
  exact hne (up_inj_byte hb hb' h1)
/-! ### Bytes with their sum behind -/
theorem slide8 : ∀ b : Fin 256, steps 8 (BitVec.ofNat 32 b.val <<< 8) = BitVec.ofNat 32 b.val := by decide +kernel
theorem slide16 : ∀ b : Fin 256, steps 16 (BitVec.ofNat 32 b.val <<< 16) = BitVec.ofNat 32 b.val := by decide +kernel
theorem slide24 : ∀ b : Fin 256, steps 24 (BitVec.ofNat 32 b.val <<< 24) = BitVec.ofNat 32 b.val := by decide +kernel
theorem slide (n : Nat) (x y : W) (b : Nat) (h : steps n y = BitVec.ofNat 32 b) : up (steps n x) b = steps (n + 8) (x ^^^ y) := by
  rw [steps_add, steps_xor n x y, h]; rfl
theorem four (s : W) {b0 b1 b2 b3 : Nat} (h1 : b1 < 256) (h2 : b2 < 256) (h3 : b3 < 256) :
    up (up (up (up s b0) b1) b2) b3 = steps 32 (s ^^^ BitVec.ofNat 32 b0 ^^^ BitVec.ofNat 32 b1 <<< 8 ^^^ BitVec.ofNat 32 b2 <<< 16 ^^^ BitVec.ofNat 32 b3 <<< 24) := by
  have e1 : up (up s b0) b1 = steps 16 (s ^^^ BitVec.ofNat 32 b0 ^^^ BitVec.ofNat 32 b1 <<< 8) := slide 8 _ _ b1 (slide8 ⟨b1, h1⟩)
  have e2 : up (up (up s b0) b1) b2 = steps 24 (s ^^^ BitVec.ofNat 32 b0 ^^^ BitVec.ofNat 32 b1 <<< 8 ^^^ BitVec.ofNat 32 b2 <<< 16) := by
    rw [e1]; exact slide 16 _ _ b2 (slide16 ⟨b2, h2⟩)
  rw [e2]; exact slide 24 _ _ b3 (slide24 ⟨b3, h3⟩)
theorem bytes_of (v : W) : BitVec.ofNat 32 (v.toNat % 256) ^^^ BitVec.ofNat 32 (v.toNat / 256 % 256) <<< 8 ^^^ BitVec.ofNat 32 (v.toNat / 65536 % 256) <<< 16 ^^^ BitVec.ofNat 32 (v.toNat / 16777216 % 256) <<< 24 = v := by
  apply BitVec.eq_of_getLsbD_eq
  intro i hi
  have g : ∀ k j, (BitVec.ofNat 32 (v.toNat / 2 ^ k % 2 ^ 8)).getLsbD j = (decide (j < 8) && v.getLsbD (k + j)) := fun k j => by
    rw [BitVec.getLsbD_ofNat, Nat.testBit_mod_two_pow, Nat.testBit_div_two_pow]
    unfold BitVec.getLsbD
    by_cases h8 : j < 8
    · simp [h8, show j < 32 by omega, Nat.add_comm]
    · simp [h8]
  have g0 := g 0
  have g8 := g 8
  have g16 := g 16
  have g24 := g 24
  simp only [Nat.pow_zero, Nat.div_one, show (2 : Nat) ^ 8 = 256 from rfl, show (2 : Nat) ^ 16 = 65536 from rfl, show (2 : Nat) ^ 24 = 16777216 from rfl, Nat.zero_add] at g0 g8 g16 g24
  simp only [BitVec.getLsbD_xor, BitVec.getLsbD_shiftLeft, g0, g8, g16, g24]
  rcases (show i < 8 ∨ (8 ≤ i ∧ i < 16) ∨ (16 ≤ i ∧ i < 24) ∨ 24 ≤ i by omega) with h | h | h | h
  · simp [h, hi, show i < 16 by omega, show i < 24 by omega]
  · have e : 8 + (i - 8) = i := by omega
    simp [hi, show ¬ i < 8 by omega, show i - 8 < 8 by omega, show i < 16 by omega, show i < 24 by omega, e]
  · have e : 16 + (i - 16) = i := by omega
    simp [hi, show ¬ i < 8 by omega, show ¬ i - 8 < 8 by omega, show ¬ i < 16 by omega, show i - 16 < 8 by omega, show i < 24 by omega, e]
  · have e : 24 + (i - 24) = i := by omega
    simp [hi, show ¬ i < 8 by omega, show ¬ i - 8 < 8 by omega, show ¬ i < 16 by omega, show ¬ i - 16 < 8 by omega, show ¬ i < 24 by omega, show i - 24 < 8 by omega, e]
/-- with its own sum behind, the lowest byte first, whatever was summed comes to one sum -/
theorem at_end (s : W) : up (up (up (up s ((~~~s).toNat % 256)) ((~~~s).toNat / 256 % 256)) ((~~~s).toNat / 65536 % 256)) ((~~~s).toNat / 16777216 % 256) = 0xB798B438#32 := by
  rw [four s (Nat.mod_lt _ (by decide)) (Nat.mod_lt _ (by decide)) (Nat.mod_lt _ (by decide))]
  have h := bytes_of (~~~s)
  rw [BitVec.xor_assoc, BitVec.xor_assoc, BitVec.xor_assoc, ← BitVec.xor_assoc (BitVec.ofNat 32 ((~~~s).toNat % 256)), ← BitVec.xor_assoc (BitVec.ofNat 32 ((~~~s).toNat % 256) ^^^ _)]
  rw [h]
  rw [show s ^^^ ~~~s = BitVec.allOnes 32 by
    apply BitVec.eq_of_getLsbD_eq
    intro i hi
    simp only [BitVec.getLsbD_xor, BitVec.getLsbD_not, BitVec.getLsbD_allOnes, hi, decide_true, Bool.true_and]
    cases s.getLsbD i <;> rfl]
  decide +kernel
end Go.Proofs.YtndofmoepjfnfaaDoor.Cr
namespace Go.Proofs.YtndofmoepjfnfaaDoor
open Go.RowKit Mx

/-- a word as the number that a uint32 is -/
def bi (x : Cr.W) : Int := (x.toNat : Int)
theorem bi_lo (x : Cr.W) : 0 ≤ bi x := Int.natCast_nonneg _
theorem bi_hi (x : Cr.W) : bi x < 4294967296 := by have := x.isLt; unfold bi; omega
theorem ofInt_bi (x : Cr.W) : BitVec.ofInt 32 (bi x) = x := by
  unfold bi; rw [BitVec.ofInt_natCast]
  apply BitVec.eq_of_toNat_eq; rw [BitVec.toNat_ofNat]; exact Nat.mod_eq_of_lt x.isLt
theorem bi_inj {x y : Cr.W} (h : bi x = bi y) : x = y := by rw [← ofInt_bi x, h, ofInt_bi]
theorem bi_toNat (x : Cr.W) : (bi x).toNat = x.toNat := Int.toNat_natCast _
theorem wrap_bi (x : Cr.W) : IntKind.u32.wrap (x.toNat : Int) = bi x := by
  rw [IntKind.wrap_u32]; have := x.isLt; unfold bi; omega
theorem of_bi (n : Int) (h0 : 0 ≤ n) (h1 : n < 4294967296) : bi (BitVec.ofInt 32 n) = n := by
  obtain ⟨k, rfl⟩ := Int.eq_ofNat_of_zero_le h0
  unfold bi
  rw [BitVec.ofInt_natCast, BitVec.toNat_ofNat]
  omega
theorem xor_bi (x y : Cr.W) : bits BinOp.xor IntKind.u32 (bi x) (bi y) = bi (x ^^^ y) := by
  show IntKind.u32.wrap ((BitVec.ofInt 32 (bi x) ^^^ BitVec.ofInt 32 (bi y)).toNat : Int) = _
  rw [ofInt_bi, ofInt_bi, wrap_bi]
theorem and_bi (x y : Cr.W) : bits BinOp.and IntKind.u32 (bi x) (bi y) = bi (x &&& y) := by
  show IntKind.u32.wrap ((BitVec.ofInt 32 (bi x) &&& BitVec.ofInt 32 (bi y)).toNat : Int) = _
  rw [ofInt_bi, ofInt_bi, wrap_bi]
theorem bit_of (x : Cr.W) : bits BinOp.and IntKind.u32 (bi x) 1 = if x.getLsbD 0 = true then 1 else 0 := by
  have h : bits BinOp.and IntKind.u32 (bi x) (2 ^ 1 - 1) = bi x % 2 ^ 1 := bits_mask .u32 32 (by decide) (fun m h0 h1 => by rw [IntKind.wrap_u32]; omega) 1 (by decide) (bi x) (bi_lo x) (bi_hi x)
  have h2 : bits BinOp.and IntKind.u32 (bi x) 1 = bi x % (2 : Int) := h
  rw [h2]
  have : x.getLsbD 0 = decide (x.toNat % 2 = 1) := by
    unfold BitVec.getLsbD; rw [Nat.testBit_zero]
  rw [this]
  unfold bi
  by_cases e : x.toNat % 2 = 1
  · rw [if_pos (by simpa using e)]; omega
  · rw [if_neg (by simpa using e)]; omega
theorem half_bi (x : Cr.W) : bi x / (2 : Int) = bi (x >>> (1 : Nat)) := by
  unfold bi; rw [BitVec.toNat_ushiftRight, Nat.shiftRight_eq_div_pow]; omega
theorem poly_bi : (2197175160 : Int) = bi Cr.poly := by decide
theorem ones_bi : (4294967295 : Int) = bi (BitVec.allOnes 32) := by decide
theorem not_bi (x : Cr.W) : bits BinOp.xor IntKind.u32 (bi x) 4294967295 = bi (~~~x) := by
  rw [ones_bi, xor_bi, BitVec.xor_allOnes]
theorem not_bi' (x : Cr.W) : bits BinOp.xor IntKind.u32 4294967295 (bi x) = bi (~~~x) := by
  rw [ones_bi, xor_bi, BitVec.allOnes_xor]
theorem not_max (x : Cr.W) : bits BinOp.xor IntKind.u32 IntKind.u32.max (bi x) = bi (~~~x) := by
  rw [show IntKind.u32.max = 4294967295 by decide]; exact not_bi' x
theorem byte_bi (x : Cr.W) (a : Fe) : bits BinOp.xor IntKind.u32 (bi x) (fi a) = bi (x ^^^ BitVec.ofNat 32 a.nat) := by
  have h : fi a = bi (BitVec.ofNat 32 a.nat) := by
    have := a.nat_lt
    unfold fi bi; rw [BitVec.toNat_ofNat]; omega
  rw [h, xor_bi]
theorem step_even {x : Cr.W} (h : x.getLsbD 0 = false) : bi x / (2 : Int) = bi (Cr.step x) := by
  unfold Cr.step; rw [if_neg (by rw [h]; decide)]; exact half_bi x
theorem step_odd {x : Cr.W} (h : x.getLsbD 0 = true) : bits BinOp.xor IntKind.u32 (bi x / (2 : Int)) 2197175160 = bi (Cr.step x) := by
  unfold Cr.step; rw [if_pos h, half_bi, poly_bi, xor_bi]
theorem ret_u32 {a b : Int} (h : a = b) : Ending.returned (.int .u32 a) = .returned (.int .u32 b) := by rw [h]
theorem val_u32 {a b : Int} (h : a = b) : Value.int .u32 a = .int .u32 b := by rw [h]
/-- the sum s of what is ahead, gone on with the n bytes of r -/
def crc (s : Cr.W) (r : Nat → Fe) (n : Nat) : Cr.W := ~~~(Cr.ups (~~~s) (fun i => (r i).nat) n)
end Go.Proofs.YtndofmoepjfnfaaDoor
namespace Cd
open Pt (Tx)

/-- the lowest byte of a number -/
def b8 (n : Int) : UInt8 := UInt8.ofNat (n % 256).toNat
theorem b8_nat (n : Int) : ((b8 n).toNat : Int) = n % 256 := by
  unfold b8
  rw [UInt8.toNat_ofNat']
  have h : (n % 256).toNat < 256 := by omega
  rw [Nat.mod_eq_of_lt (by simpa using h)]
  omega
theorem b8_of {n : Int} {c : UInt8} (h : (c.toNat : Int) = n % 256) : c = b8 n := by
  apply UInt8.toNat.inj
  have := b8_nat n
  omega
theorem b8_self (c : UInt8) : b8 (c.toNat : Int) = c := (b8_of (by have := c.toNat_lt; omega)).symm
/-- a number's low four bytes, the highest first -/
def be4 (n : Int) : Tx := [b8 (n / 16777216), b8 (n / 65536), b8 (n / 256), b8 n]
/-- the number that bytes are -/
def num (l : Tx) : Int := l.foldl (fun n c => n * 256 + (c.toNat : Int)) 0
theorem num_snoc (l : Tx) (c : UInt8) : num (l ++ [c]) = num l * 256 + (c.toNat : Int) := by simp [num]
theorem num_lo (l : Tx) : 0 ≤ num l := by
  unfold num
  suffices h : ∀ (l : Tx) (n : Int), 0 ≤ n → 0 ≤ l.foldl (fun n c => n * 256 + (c.toNat : Int)) n from h l 0 (by omega)
  intro l
  induction l with
  | nil => intro n h; exact h
  | cons c l ih => intro n h; exact ih _ (by show 0 ≤ n * 256 + (c.toNat : Int); omega)
theorem num_hi (l : Tx) : num l < 256 ^ l.length := by
  suffices h : ∀ k, k ≤ l.length → num (l.take k) < 256 ^ k by
    have := h l.length (Nat.le_refl _)
    rwa [List.take_of_length_le (Nat.le_refl _)] at this
  intro k
  induction k with
  | zero => intro _; simp [num]
  | succ k ih =>
    intro hk
    have h1 := ih (by omega)
    rw [List.take_succ_eq_append_getElem (by omega), num_snoc]
    have hc := (l[k]).toNat_lt
    have e : (256 : Int) ^ (k + 1) = 256 ^ k * 256 := by rw [Int.pow_succ]
    rw [e]; omega
theorem num_be4 (n : Int) : num (be4 n) = n % 4294967296 := by
  unfold num be4
  simp only [List.foldl_cons, List.foldl_nil, b8_nat]
  omega
theorem be4_len (n : Int) : (be4 n).length = 4 := rfl
/-- a text's bytes: its length, and its beginning -/
def tb (s : Tx) : Tx := b8 ((s.take 255).length : Int) :: s.take 255
theorem tb_len (s : Tx) : (tb s).length = 1 + min 255 s.length := by simp [tb]; omega
/-- what is left to read, and whether bytes were missing -/
abbrev St := Tx × Bool
/-- the next n bytes, and what is left behind them -/
def tk (n : Nat) (s : St) : Tx := if s.1.length < n then [] else s.1.take n
def af (n : Nat) (s : St) : St := if s.1.length < n then ([], true) else (s.1.drop n, s.2)
theorem tk_no {n : Nat} {s : St} (h : s.1.length < n) : tk n s = [] := if_pos h
theorem af_no {n : Nat} {s : St} (h : s.1.length < n) : af n s = ([], true) := if_pos h
theorem tk_yes {n : Nat} {s : St} (h : ¬ s.1.length < n) : tk n s = s.1.take n := if_neg h
theorem af_yes {n : Nat} {s : St} (h : ¬ s.1.length < n) : af n s = (s.1.drop n, s.2) := if_neg h
theorem tk_le (n : Nat) (s : St) : (tk n s).length ≤ n := by
  unfold tk; split
  · simp
  · simp; omega
theorem tk_len_le (n : Nat) (s : St) : (tk n s).length ≤ s.1.length := by
  unfold tk; split
  · simp
  · simp; omega
theorem af_le (n : Nat) (s : St) : (af n s).1.length ≤ s.1.length := by
  unfold af; split
  · simp
  · simp
/-- one that is bad has nothing left -/
def Ok (s : St) : Prop := s.2 = true → s.1 = []
theorem Ok.af {s : St} (h : Ok s) (n : Nat) : Ok (af n s) := by
  unfold Cd.af Ok; split
  · intro _; rfl
  · intro h'; rw [h h']; simp
def byt (s : St) : UInt8 := (tk 1 s).headD 0
def txt (s : St) : Tx := tk (byt s).toNat (af 1 s)
def afT (s : St) : St := af (byt s).toNat (af 1 s)
theorem tk_app (n : Nat) (a b : Tx) (bad : Bool) (h : a.length = n) : tk n (a ++ b, bad) = a := by
  unfold tk; rw [if_neg (by simp; omega)]; simp [← h]
theorem af_app (n : Nat) (a b : Tx) (bad : Bool) (h : a.length = n) : af n (a ++ b, bad) = (b, bad) := by
  unfold af; rw [if_neg (by simp; omega)]; simp [← h]
theorem byt_cons (c : UInt8) (b : Tx) (bad : Bool) : byt (c :: b, bad) = c := by
  unfold byt
  rw [show c :: b = [c] ++ b from rfl, tk_app 1 [c] b bad rfl]; rfl
theorem txt_tb (s b : Tx) (bad : Bool) : txt (tb s ++ b, bad) = s.take 255 := by
  have hl : (s.take 255).length ≤ 255 := by simp; omega
  have hb : (b8 ((s.take 255).length : Int)).toNat = (s.take 255).length := by have := b8_nat ((s.take 255).length : Int); omega
  unfold txt tb
  rw [List.cons_append, byt_cons, hb, show b8 ((s.take 255).length : Int) :: (s.take 255 ++ b) = [b8 ((s.take 255).length : Int)] ++ (s.take 255 ++ b) from rfl, af_app 1 _ _ bad rfl, tk_app _ _ _ bad rfl]
theorem afT_tb (s b : Tx) (bad : Bool) : afT (tb s ++ b, bad) = (b, bad) := by
  have hl : (s.take 255).length ≤ 255 := by simp; omega
  have hb : (b8 ((s.take 255).length : Int)).toNat = (s.take 255).length := by have := b8_nat ((s.take 255).length : Int); omega
  unfold afT tb
  rw [List.cons_append, byt_cons, hb, show b8 ((s.take 255).length : Int) :: (s.take 255 ++ b) = [b8 ((s.take 255).length : Int)] ++ (s.take 255 ++ b) from rfl, af_app 1 _ _ bad rfl, af_app _ _ _ bad rfl]
end Cd
namespace Go.Proofs.YtndofmoepjfnfaaDoor
open Go.RowKit
open Pt (Tx)

/-- the sum of bytes -/
def sumL (l : Tx) : Int := bi (crc 0#32 (rowL l) l.length)
theorem sumL_lo (l : Tx) : 0 ≤ sumL l := bi_lo _
theorem sumL_hi (l : Tx) : sumL l < 4294967296 := bi_hi _
theorem sumL_one {l l' : Tx} (hl : l.length = l'.length) {p : Nat} (hp : p < l.length) (hne : l.getD p 0 ≠ l'.getD p 0) (he : ∀ i, i < l.length → i ≠ p → l.getD i 0 = l'.getD i 0) : sumL l ≠ sumL l' := by
  intro h
  have h1 := bi_inj h
  unfold crc at h1
  rw [← hl] at h1
  have h' : Cr.ups (~~~0#32) (fun i => (rowL l i).nat) l.length = Cr.ups (~~~0#32) (fun i => (rowL l' i).nat) l.length := by
    have := congrArg (fun x => ~~~x) h1
    simpa using this
  refine Cr.ups_one hp (rowL l p).nat_lt (rowL l' p).nat_lt ?_ (fun i hi hi' => ?_) h'
  · show (l.getD p 0).toNat ≠ (l'.getD p 0).toNat
    exact fun e => hne (UInt8.toNat.inj e)
  · show (l.getD i 0).toNat = (l'.getD i 0).toNat
    rw [he i hi hi']

namespace Fm
open Cd
/-- a unit -/
structure U where
  kind : Int
  label : Int
  number : Int
  load : Tx
theorem U.eta (u : U) : (⟨u.kind, u.label, u.number, u.load⟩ : U) = u := rfl
def zero : U := ⟨0, 0, 0, []⟩
def room (k : Int) : Nat := if k = 6 then 79 else 64
theorem room_le (k : Int) : room k ≤ 79 := by unfold room; split <;> omega
theorem room_ge (k : Int) : 64 ≤ room k := by unfold room; split <;> omega
def argOk (u : U) : Prop := 1 ≤ u.kind ∧ u.kind ≤ 6 ∧ 1 ≤ u.label ∧ u.label ≤ 2147483647 ∧ 0 ≤ u.number ∧ u.number ≤ 2147483647
instance (u : U) : Decidable (argOk u) := by unfold argOk; exact inferInstance
def err (u : U) : Int := if argOk u then (if room u.kind < u.load.length then 4 else 0) else 1
/-- it has a block -/
def Ok (u : U) : Prop := argOk u ∧ u.load.length ≤ room u.kind
instance (u : U) : Decidable (Ok u) := by unfold Ok; exact inferInstance
theorem err_ok {u : U} (h : Ok u) : err u = 0 := by unfold err; rw [if_pos h.1, if_neg (by have := h.2; omega)]
theorem err_arg {u : U} (h : ¬ argOk u) : err u = 1 := by unfold err; rw [if_neg h]
theorem err_long {u : U} (h : argOk u) (h' : room u.kind < u.load.length) : err u = 4 := by unfold err; rw [if_pos h, if_pos h']
theorem err_zero {u : U} : err u = 0 ↔ Ok u := by
  unfold err Ok
  by_cases h : argOk u
  · rw [if_pos h]
    by_cases h' : room u.kind < u.load.length
    · rw [if_pos h']; exact ⟨fun e => absurd e (by decide), fun e => absurd e.2 (by omega)⟩
    · rw [if_neg h']; exact ⟨fun _ => ⟨h, by omega⟩, fun _ => rfl⟩
  · rw [if_neg h]; exact ⟨fun e => absurd e (by decide), fun e => absurd e.1 h⟩
def head (u : U) : Tx := [b8 u.kind] ++ be4 u.label ++ be4 u.number ++ [b8 ((u.load.length : Int) / 256)] ++ [b8 (u.load.length : Int)]
theorem head_len (u : U) : (head u).length = 11 := rfl
def pad (u : U) : Tx := List.replicate (room u.kind - u.load.length) 0
def body (u : U) : Tx := head u ++ u.load ++ pad u
def blk (u : U) : Tx := body u ++ be4 (sumL (body u))
/-- what Put answers -/
def put (u : U) : Tx := if Ok u then blk u else []
theorem put_ok {u : U} (h : Ok u) : put u = blk u := if_pos h
theorem put_no {u : U} (h : ¬ Ok u) : put u = [] := if_neg h
theorem pad_len (u : U) : (pad u).length = room u.kind - u.load.length := List.length_replicate
theorem body_len {u : U} (h : Ok u) : (body u).length = 11 + room u.kind := by
  have := h.2
  unfold body; rw [List.length_append, List.length_append, head_len, pad_len]; omega
theorem blk_len {u : U} (h : Ok u) : (blk u).length = 15 + room u.kind := by
  unfold blk; rw [List.length_append, body_len h, be4_len]; omega
theorem put_le (u : U) : (put u).length ≤ 94 := by
  by_cases h : Ok u
  · rw [put_ok h, blk_len h]; have := room_le u.kind; omega
  · rw [put_no h]; simp
/-- what bytes say: the state of one who reads them, behind each item -/
def s1 (b : Tx) : St := af 1 (b, false)
def s2 (b : Tx) : St := af 4 (s1 b)
def s3 (b : Tx) : St := af 4 (s2 b)
def s4 (b : Tx) : St := af 1 (s3 b)
def s5 (b : Tx) : St := af 1 (s4 b)
theorem s_len (b : Tx) : (s1 b).1.length ≤ b.length ∧ (s2 b).1.length ≤ b.length ∧ (s3 b).1.length ≤ b.length ∧ (s4 b).1.length ≤ b.length ∧ (s5 b).1.length ≤ b.length := by
  have h1 : (s1 b).1.length ≤ b.length := af_le 1 (b, false)
  have h2 : (s2 b).1.length ≤ (s1 b).1.length := af_le 4 _
  have h3 : (s3 b).1.length ≤ (s2 b).1.length := af_le 4 _
  have h4 : (s4 b).1.length ≤ (s3 b).1.length := af_le 1 _
  have h5 : (s5 b).1.length ≤ (s4 b).1.length := af_le 1 _
  omega
def kindOf (b : Tx) : Int := ((byt (b, false)).toNat : Int)
def labelOf (b : Tx) : Int := num (tk 4 (s1 b))
def numberOf (b : Tx) : Int := num (tk 4 (s2 b))
def sizeOf (b : Tx) : Nat := 256 * (byt (s3 b)).toNat + (byt (s4 b)).toNat
theorem sizeOf_lt (b : Tx) : sizeOf b < 65536 := by
  unfold sizeOf; have := (byt (s3 b)).toNat_lt; have := (byt (s4 b)).toNat_lt; omega
/-- what bytes say where they say it -/
def parse (b : Tx) : U := ⟨kindOf (b.take 11), labelOf (b.take 11), numberOf (b.take 11), (b.drop 11).take (sizeOf (b.take 11))⟩
/-- what Get answers: unit and error -/
def Good (b : Tx) : Prop := Ok (parse b) ∧ blk (parse b) = b
instance (b : Tx) : Decidable (Good b) := by unfold Good; exact inferInstance
def got (b : Tx) : U := if Good b then parse b else zero
def gotE (b : Tx) : Int := if Good b then 0 else 2
theorem got_yes {b : Tx} (h : Good b) : got b = parse b := if_pos h
theorem got_no {b : Tx} (h : ¬ Good b) : got b = zero := if_neg h
theorem gotE_yes {b : Tx} (h : Good b) : gotE b = 0 := if_pos h
theorem gotE_no {b : Tx} (h : ¬ Good b) : gotE b = 2 := if_neg h
/-- eleven bytes and more, as they are read -/
theorem split11 {b : Tx} (h : 11 ≤ b.length) : ∃ (k x y : UInt8) (L N rest : Tx), L.length = 4 ∧ N.length = 4 ∧ b = [k] ++ (L ++ (N ++ ([x] ++ ([y] ++ rest)))) := by
  match b, h with
  | k :: a1 :: a2 :: a3 :: a4 :: b1 :: b2 :: b3 :: b4 :: x :: y :: rest, _ => exact ⟨k, x, y, [a1, a2, a3, a4], [b1, b2, b3, b4], rest, rfl, rfl, rfl⟩
theorem reads (k x y : UInt8) (L N rest : Tx) (hL : L.length = 4) (hN : N.length = 4) :
    kindOf ([k] ++ (L ++ (N ++ ([x] ++ ([y] ++ rest))))) = (k.toNat : Int) ∧ labelOf ([k] ++ (L ++ (N ++ ([x] ++ ([y] ++ rest))))) = num L ∧ numberOf ([k] ++ (L ++ (N ++ ([x] ++ ([y] ++ rest))))) = num N
      ∧ sizeOf ([k] ++ (L ++ (N ++ ([x] ++ ([y] ++ rest))))) = 256 * x.toNat + y.toNat ∧ s5 ([k] ++ (L ++ (N ++ ([x] ++ ([y] ++ rest))))) = (rest, false) := by
  have e1 : s1 ([k] ++ (L ++ (N ++ ([x] ++ ([y] ++ rest))))) = (L ++ (N ++ ([x] ++ ([y] ++ rest))), false) := af_app 1 _ _ _ rfl
  have e2 : s2 ([k] ++ (L ++ (N ++ ([x] ++ ([y] ++ rest))))) = (N ++ ([x] ++ ([y] ++ rest)), false) := by unfold s2; rw [e1]; exact af_app 4 _ _ _ hL
  have e3 : s3 ([k] ++ (L ++ (N ++ ([x] ++ ([y] ++ rest))))) = ([x] ++ ([y] ++ rest), false) := by unfold s3; rw [e2]; exact af_app 4 _ _ _ hN
  have e4 : s4 ([k] ++ (L ++ (N ++ ([x] ++ ([y] ++ rest))))) = ([y] ++ rest, false) := by unfold s4; rw [e3]; exact af_app 1 _ _ _ rfl
  have e5 : s5 ([k] ++ (L ++ (N ++ ([x] ++ ([y] ++ rest))))) = (rest, false) := by unfold s5; rw [e4]; exact af_app 1 _ _ _ rfl
  refine ⟨?_, ?_, ?_, ?_, e5⟩
  · unfold kindOf; rw [show byt ([k] ++ (L ++ (N ++ ([x] ++ ([y] ++ rest)))), false) = k from byt_cons k _ _]
  · unfold labelOf; rw [e1, tk_app 4 _ _ _ hL]
  · unfold numberOf; rw [e2, tk_app 4 _ _ _ hN]
  · unfold sizeOf; rw [e3, e4, show byt ([x] ++ ([y] ++ rest), false) = x from byt_cons x _ _, show byt ([y] ++ rest, false) = y from byt_cons y _ _]
theorem take11 (k x y : UInt8) (L N rest : Tx) (hL : L.length = 4) (hN : N.length = 4) :
    ([k] ++ (L ++ (N ++ ([x] ++ ([y] ++ rest))))).take 11 = [k] ++ (L ++ (N ++ ([x] ++ ([y] ++ [])))) ∧ ([k] ++ (L ++ (N ++ ([x] ++ ([y] ++ rest))))).drop 11 = rest := by
  have e : [k] ++ (L ++ (N ++ ([x] ++ ([y] ++ rest)))) = ([k] ++ (L ++ (N ++ ([x] ++ ([y] ++ []))))) ++ rest := by simp
  have hl : ([k] ++ (L ++ (N ++ ([x] ++ ([y] ++ []))))).length = 11 := by simp; omega
  rw [e]
  exact ⟨List.take_left' hl, List.drop_left' hl⟩
/-- of eleven bytes and more the first eleven alone are read -/
theorem reads11 {b : Tx} (h : 11 ≤ b.length) : kindOf (b.take 11) = kindOf b ∧ labelOf (b.take 11) = labelOf b ∧ numberOf (b.take 11) = numberOf b ∧ sizeOf (b.take 11) = sizeOf b ∧ s5 b = (b.drop 11, false) := by
  obtain ⟨k, x, y, L, N, rest, hL, hN, rfl⟩ := split11 h
  obtain ⟨h1, h2⟩ := take11 k x y L N rest hL hN
  obtain ⟨a1, a2, a3, a4, a5⟩ := reads k x y L N rest hL hN
  obtain ⟨b1, b2, b3, b4, b5⟩ := reads k x y L N [] hL hN
  rw [h1, h2]
  exact ⟨b1.trans a1.symm, b2.trans a2.symm, b3.trans a3.symm, b4.trans a4.symm, a5⟩
theorem be4_num {L : Tx} (h : L.length = 4) : be4 (num L) = L := by
  match L, h with
  | [a, b, c, d], _ =>
    have ha := a.toNat_lt; have hb := b.toNat_lt; have hc := c.toNat_lt; have hd := d.toNat_lt
    unfold be4 num
    simp only [List.foldl_cons, List.foldl_nil]
    rw [← b8_of (c := a) (by omega), ← b8_of (c := b) (by omega), ← b8_of (c := c) (by omega), ← b8_of (c := d) (by omega)]
theorem parse_blk {u : U} (h : Ok u) : parse (blk u) = u := by
  have hu := h
  obtain ⟨⟨h1, h2, h3, h4, h5, h6⟩, h7⟩ := h
  have hr := room_le u.kind
  have e : blk u = [b8 u.kind] ++ (be4 u.label ++ (be4 u.number ++ ([b8 ((u.load.length : Int) / 256)] ++ ([b8 (u.load.length : Int)] ++ (u.load ++ (pad u ++ be4 (sumL (body u)))))))) := by
    conv => lhs; unfold blk; rw [show body u = head u ++ u.load ++ pad u from rfl]; unfold head
    simp only [List.append_assoc, List.cons_append, List.nil_append]
    rfl
  obtain ⟨e1, e2⟩ := take11 (b8 u.kind) (b8 ((u.load.length : Int) / 256)) (b8 (u.load.length : Int)) (be4 u.label) (be4 u.number) (u.load ++ (pad u ++ be4 (sumL (body u)))) rfl rfl
  obtain ⟨b1, b2, b3, b4, b5⟩ := reads (b8 u.kind) (b8 ((u.load.length : Int) / 256)) (b8 (u.load.length : Int)) (be4 u.label) (be4 u.number) [] rfl rfl
  unfold parse
  rw [e, e1, e2, b1, b2, b3, b4, num_be4, num_be4, b8_nat]
  have g1 := b8_nat ((u.load.length : Int) / 256)
  have g2 := b8_nat (u.load.length : Int)
  have g3 : 256 * (b8 ((u.load.length : Int) / 256)).toNat + (b8 (u.load.length : Int)).toNat = u.load.length := by omega
  rw [g3, List.take_left' rfl, show u.kind % 256 = u.kind by omega, show u.label % 4294967296 = u.label by omega, show u.number % 4294967296 = u.number by omega]
theorem good_blk {u : U} (h : Ok u) : Good (blk u) := by unfold Good; rw [parse_blk h]; exact ⟨h, rfl⟩
theorem blk_inj {u v : U} (h : Ok u) (h' : Ok v) (e : blk u = blk v) : u = v := by rw [← parse_blk h, e, parse_blk h']
/-- of bytes that are a block there are many -/
theorem good_len {b : Tx} (h : Good b) : b.length = 15 + room (parse b).kind := by rw [← blk_len h.1, h.2]
theorem good_ge {b : Tx} (h : Good b) : 79 ≤ b.length := by have := good_len h; have := room_ge (parse b).kind; omega
theorem good_le {b : Tx} (h : Good b) : b.length ≤ 94 := by have := good_len h; have := room_le (parse b).kind; omega
/-- one who reads all of the bytes finds them bad where they are too few -/
theorem af_bad {n : Nat} {s : St} (h : (af n s).2 = false) : s.2 = false ∧ n ≤ s.1.length ∧ (af n s).1.length + n = s.1.length := by
  unfold af at h ⊢
  by_cases e : s.1.length < n
  · rw [if_pos e] at h; cases h
  · rw [if_neg e] at h ⊢; exact ⟨h, by omega, by simp; omega⟩
theorem s5_bad {b : Tx} (h : (s5 b).2 = false) : 11 ≤ b.length := by
  obtain ⟨h4, h4', h4''⟩ := af_bad h
  obtain ⟨h3, h3', h3''⟩ := af_bad h4
  obtain ⟨h2, h2', h2''⟩ := af_bad h3
  obtain ⟨h1, h1', h1''⟩ := af_bad h2
  obtain ⟨h0, h0', h0''⟩ := af_bad h1
  simp only at h0' h0''
  have e1 : (af 1 (b, false)).1.length = (s1 b).1.length := rfl
  have e2 : (af 4 (s1 b)).1.length = (s2 b).1.length := rfl
  have e3 : (af 4 (s2 b)).1.length = (s3 b).1.length := rfl
  have e4 : (af 1 (s3 b)).1.length = (s4 b).1.length := rfl
  omega
/-- the document's own way: bad, or too few bytes left -/
theorem good_not_bad {b : Tx} (h : Good b) : (s5 b).2 = false ∧ sizeOf b ≤ (s5 b).1.length := by
  have hg := good_ge h
  have hl := good_len h
  obtain ⟨r1, r2, r3, r4, r5⟩ := reads11 (b := b) (by omega)
  have h2 : (parse b).load.length ≤ room (parse b).kind := h.1.2
  have h3 : (parse b).load.length = min (sizeOf b) (b.length - 11) := by
    rw [← r4]; unfold parse; rw [List.length_take, List.length_drop]
  rw [r5]
  refine ⟨rfl, ?_⟩
  rw [h3] at h2
  have h4 : (b.drop 11, false).1.length = b.length - 11 := List.length_drop
  rw [h4]
  generalize room (parse b).kind = m at hl h2
  generalize sizeOf b = z at h2 ⊢
  omega
theorem parse_full {b : Tx} (h : (s5 b).2 = false) (h' : sizeOf b ≤ (s5 b).1.length) : parse b = ⟨kindOf b, labelOf b, numberOf b, tk (sizeOf b) (s5 b)⟩ := by
  obtain ⟨r1, r2, r3, r4, r5⟩ := reads11 (b := b) (s5_bad h)
  unfold parse
  rw [r1, r2, r3, r4, tk_yes (by omega), r5]
/-- the first byte of a block is its kind -/
theorem blk_head (u : U) : ∃ t, blk u = b8 u.kind :: t := by
  unfold blk body head
  simp only [List.cons_append, List.nil_append]
  exact ⟨_, rfl⟩
theorem kind_head {b : Tx} (h : Good b) : ∃ t, b = b8 (parse b).kind :: t := by
  obtain ⟨t, ht⟩ := blk_head (parse b)
  exact ⟨t, h.2.symm.trans ht⟩
theorem parse_kind {b c : Tx} (hb : Good b) (hc : Good c) (h : b.head? = c.head?) : (parse b).kind = (parse c).kind := by
  obtain ⟨t, ht⟩ := kind_head hb
  obtain ⟨t', ht'⟩ := kind_head hc
  have e1 : b.head? = some (b8 (parse b).kind) := (congrArg List.head? ht).trans rfl
  have e2 : c.head? = some (b8 (parse c).kind) := (congrArg List.head? ht').trans rfl
  rw [e1, e2] at h
  have h' := Option.some.inj h
  have g1 := b8_nat (parse b).kind
  have g2 := b8_nat (parse c).kind
  rw [h'] at g1
  obtain ⟨k1, k2, -⟩ := hb.1.1
  obtain ⟨k3, k4, -⟩ := hc.1.1
  omega
/-- of two that begin alike and are not as long one is no block -/
theorem not_both {b c : Tx} (hb : Good b) (h : b.head? = c.head?) (hl : b.length ≠ c.length) : ¬ Good c := fun hc => by
  have h1 := good_len hb
  have h2 := good_len hc
  rw [parse_kind hb hc h] at h1
  omega
theorem cut_no {b : Tx} (hb : Good b) {n : Nat} (hn : n < b.length) : ¬ Good (b.take n) := by
  by_cases h0 : n = 0
  · subst h0; intro h; have := good_ge h; simp at this
  · refine not_both hb ?_ (by simp; omega)
    cases b with
    | nil => simp at hn
    | cons c l =>
      obtain ⟨m, rfl⟩ : ∃ m, n = m + 1 := ⟨n - 1, by omega⟩
      rfl
theorem more_no {b : Tx} (hb : Good b) (c : UInt8) : ¬ Good (b ++ [c]) := by
  refine not_both hb ?_ (by simp)
  cases b with
  | nil => have := good_ge hb; simp at this
  | cons d l => rfl
theorem be4_inj {m n : Int} (h0 : 0 ≤ m) (h1 : m < 4294967296) (h2 : 0 ≤ n) (h3 : n < 4294967296) (h : be4 m = be4 n) : m = n := by
  have := congrArg num h
  rw [num_be4, num_be4] at this
  omega
theorem getD_set (l : Tx) (p i : Nat) (x : UInt8) (hp : p < l.length) : (l.set p x).getD i 0 = if i = p then x else l.getD i 0 := by
  rw [List.getD_eq_getElem?_getD, List.getElem?_set, List.getD_eq_getElem?_getD]
  by_cases e : p = i
  · subst e; rw [if_pos rfl, if_pos rfl, if_pos hp]; rfl
  · rw [if_neg e, if_neg (fun h => e h.symm)]
theorem getD_take (l : Tx) {n i : Nat} (hi : i < n) : (l.take n).getD i 0 = l.getD i 0 := by
  rw [List.getD_eq_getElem?_getD, List.getElem?_take, if_pos hi, List.getD_eq_getElem?_getD]
/-- a block of which one byte is another is none -/
theorem turn_no {b : Tx} (hb : Good b) {p : Nat} (hp : p < b.length) {x : UInt8} (hx : x ≠ b[p]) : ¬ Good (b.set p x) := by
  intro hc
  have hl1 := good_len hb
  have hl2 := good_len hc
  rw [List.length_set] at hl2
  have hr : room (parse (b.set p x)).kind = room (parse b).kind := by omega
  have e1 := hb.2
  have e2 := hc.2
  have n1 := body_len hb.1
  have n2 := body_len hc.1
  rw [hr] at n2
  have t1 : body (parse b) = b.take (11 + room (parse b).kind) := by
    have : (blk (parse b)).take (11 + room (parse b).kind) = body (parse b) := List.take_left' n1
    rw [← this, e1]
  have t2 : body (parse (b.set p x)) = (b.set p x).take (11 + room (parse b).kind) := by
    have : (blk (parse (b.set p x))).take (11 + room (parse b).kind) = body (parse (b.set p x)) := List.take_left' n2
    rw [← this, e2]
  have d1 : be4 (sumL (body (parse b))) = b.drop (11 + room (parse b).kind) := by
    have : (blk (parse b)).drop (11 + room (parse b).kind) = be4 (sumL (body (parse b))) := List.drop_left' n1
    rw [← this, e1]
  have d2 : be4 (sumL (body (parse (b.set p x)))) = (b.set p x).drop (11 + room (parse b).kind) := by
    have : (blk (parse (b.set p x))).drop (11 + room (parse b).kind) = be4 (sumL (body (parse (b.set p x)))) := List.drop_left' n2
    rw [← this, e2]
  by_cases hpn : p < 11 + room (parse b).kind
  · have hd : (b.set p x).drop (11 + room (parse b).kind) = b.drop (11 + room (parse b).kind) := List.drop_set_of_lt hpn
    rw [hd, ← d1] at d2
    have hs := be4_inj (sumL_lo _) (sumL_hi _) (sumL_lo _) (sumL_hi _) d2
    refine sumL_one (l := body (parse (b.set p x))) (l' := body (parse b)) (n2.trans n1.symm) (p := p) (by omega) ?_ (fun i hi hip => ?_) hs
    · rw [t1, t2, getD_take _ hpn, getD_take _ hpn, getD_set _ _ _ _ hp, if_pos rfl, List.getD_eq_getElem?_getD, List.getElem?_eq_getElem hp]
      exact hx
    · rw [n2] at hi
      rw [t1, t2, getD_take _ hi, getD_take _ hi, getD_set _ _ _ _ hp, if_neg hip]
  · have ht : (b.set p x).take (11 + room (parse b).kind) = b.take (11 + room (parse b).kind) := List.take_set_of_le (by omega)
    rw [ht, ← t1] at t2
    have : blk (parse (b.set p x)) = blk (parse b) := by unfold blk; rw [t2]
    rw [e1, e2] at this
    have h3 : (b.set p x)[p]'(by simpa using hp) = b[p] := by simp only [this]
    rw [List.getElem_set_self] at h3
    exact hx h3
end Fm
end Go.Proofs.YtndofmoepjfnfaaDoor
