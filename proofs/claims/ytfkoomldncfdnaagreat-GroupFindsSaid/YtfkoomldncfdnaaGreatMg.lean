/- Numbers of a byte and of an int: bits, and the field of 256 on whole numbers (gmul, gadd, ginv, gpow). No function of the program. Plain mathematics: two matrices side by side, and the way of Gauss and Jordan on them. Words for matrices in memory and for what calls answer, and the answers as functions of what was given. No function of the program. What slices.Clone makes of a row. What the inner functions blocks and block of package stripe answer. How long tapes are: Len of package stripe. What check of package group answers: why no group is made. What the walk is told of a row of numbers, and the low bits of a number. No function of the program. What the walk is told of a row of bytes that came in as an argument. What the walk is told of a row of bytes, a row of numbers and a slice of rows of bytes that came in as arguments. What the walk is told of a row of numbers (InOpen), beside what it is told of rows of bytes. No function of the program. Plain mathematics: places below n, all unlike, each the first that is free from a number on. -/
import Derived.Test.YtfkoomldncfdnaaGreatRows
import Derived.Test.YtfkoomldncfdnaaGreatMa
import Derived.WalkKit
import Derived.ProofKit
import Derived.Lib.Hide
import Derived.Laws.BitsLemmas
import Derived.IntWalk
import Derived.Test.YtfkoomldncfdnaaGreatMxZeros
import Derived.Deep.QuietTactic
import Derived.BigQuiet
import Derived.StillTailTactics
import Derived.Handy
import Derived.OwnWalk
import Derived.Lib.SliceRun
import Derived.Laws.BytesString
import Derived.Laws.Cells
import Derived.Test.YtfkoomldncfdnaaGreatMe
import Derived.Test.YtfkoomldncfdnaaGreatMf
import Derived.Test.YtfkoomldncfdnaaGreatMc
import Derived.Deep.RegionWith
import Derived.OpenShut
import Derived.Deep.Matrix
namespace Go.Proofs.YtfkoomldncfdnaaGreat
open Go.RowKit


theorem bits_and_u8 (a b : Nat) (ha : a < 256) (hb : b < 256) : bits BinOp.and IntKind.u8 (a : Int) (b : Int) = ((a &&& b : Nat) : Int) := by
  have h1 : (BitVec.ofInt 8 (a : Int)).toNat = a := by
    rw [BitVec.ofInt_natCast, BitVec.toNat_ofNat]; exact Nat.mod_eq_of_lt ha
  have h2 : (BitVec.ofInt 8 (b : Int)).toNat = b := by
    rw [BitVec.ofInt_natCast, BitVec.toNat_ofNat]; exact Nat.mod_eq_of_lt hb
  have hx : a &&& b < 2 ^ 8 := Nat.and_lt_two_pow _ hb
  show IntKind.u8.wrap ((BitVec.ofInt 8 (a : Int) &&& BitVec.ofInt 8 (b : Int)).toNat : Int) = _
  rw [BitVec.toNat_and, h1, h2]
  simp [IntKind.wrap, IntKind.bits, IntKind.signed]; omega
theorem bits_xor_u8 (a b : Nat) (ha : a < 256) (hb : b < 256) : bits BinOp.xor IntKind.u8 (a : Int) (b : Int) = ((a ^^^ b : Nat) : Int) := by
  have h1 : (BitVec.ofInt 8 (a : Int)).toNat = a := by
    rw [BitVec.ofInt_natCast, BitVec.toNat_ofNat]; exact Nat.mod_eq_of_lt ha
  have h2 : (BitVec.ofInt 8 (b : Int)).toNat = b := by
    rw [BitVec.ofInt_natCast, BitVec.toNat_ofNat]; exact Nat.mod_eq_of_lt hb
  have hx : a ^^^ b < 2 ^ 8 := Nat.xor_lt_two_pow ha hb
  show IntKind.u8.wrap ((BitVec.ofInt 8 (a : Int) ^^^ BitVec.ofInt 8 (b : Int)).toNat : Int) = _
  rw [BitVec.toNat_xor, h1, h2]
  simp [IntKind.wrap, IntKind.bits, IntKind.signed]; omega
theorem and_one_u8 (a : Nat) (ha : a < 256) : bits BinOp.and IntKind.u8 (a : Int) 1 = ((a % 2 : Nat) : Int) := by
  rw [show (1 : Int) = ((1 : Nat) : Int) from rfl, bits_and_u8 a 1 ha (by decide), Nat.and_one_is_mod]
theorem and_top_u8 (a : Nat) (ha : a < 256) : (bits BinOp.and IntKind.u8 (a : Int) 128 == 0) = decide (a < 128) := by
  have h : ∀ n : Fin 256, (bits BinOp.and IntKind.u8 (n.val : Int) 128 == 0) = decide (n.val < 128) := by decide +kernel
  exact h ⟨a, ha⟩
theorem ret_u8 {a b : Int} (h : a = b) : Ending.returned (.int .u8 a) = .returned (.int .u8 b) := by rw [h]
theorem val_u8 {a b : Int} (h : a = b) : Value.int .u8 a = .int .u8 b := by rw [h]

def gmul (a b : Int) : Int := ((Gf.mul a.toNat b.toNat : Nat) : Int)
def gadd (a b : Int) : Int := ((a.toNat ^^^ b.toNat : Nat) : Int)
def ginv (a : Int) : Int := ((Gf.inv a.toNat : Nat) : Int)
def gpow (a n : Int) : Int := if n = 0 then 1 else if a = 0 then 0 else ((Gf.pw a.toNat (n % 255).toNat : Nat) : Int)
theorem gmul_rng (a b : Int) (_h0 : 0 ≤ a) (h1 : a < 256) : 0 ≤ gmul a b ∧ gmul a b < 256 := by
  have := Gf.mul_lt (a := a.toNat) (b := b.toNat) (by omega)
  unfold gmul; omega
theorem gadd_rng (a b : Int) (_h0 : 0 ≤ a) (h1 : a < 256) (_h2 : 0 ≤ b) (h3 : b < 256) : 0 ≤ gadd a b ∧ gadd a b < 256 := by
  have := Gf.xor_lt (a := a.toNat) (b := b.toNat) (by omega) (by omega)
  unfold gadd; omega
theorem ginv_rng (a : Int) (_h0 : 0 ≤ a) (h1 : a < 256) : 0 ≤ ginv a ∧ ginv a < 256 := by
  have := Gf.inv_lt (a := a.toNat) (by omega)
  unfold ginv; omega
theorem gpow_rng (a n : Int) (_h0 : 0 ≤ a) (h1 : a < 256) : 0 ≤ gpow a n ∧ gpow a n < 256 := by
  have := Gf.pw_lt (a := a.toNat) (by omega) (n % 255).toNat
  unfold gpow; split
  · omega
  · split <;> omega
theorem and_one_i64 (n : Nat) (hn : n < 256) : bits BinOp.and IntKind.i64 (n : Int) 1 = ((n % 2 : Nat) : Int) := by
  have h := bits_mask .i64 8 (by decide) (fun m h0 h1 => by rw [IntKind.wrap_i64]; omega) 1 (by decide) (n : Int) (by omega) (by omega)
  simpa using h
theorem tmod255 (n : Int) : (0 ≤ n.tmod 255 → n % 255 = n.tmod 255) ∧ (n.tmod 255 < 0 → n % 255 = n.tmod 255 + 255) ∧ -255 < n.tmod 255 ∧ n.tmod 255 < 255 := by
  have h := Int.tmod_eq_emod (a := n) (b := 255)
  split at h <;> omega
theorem ret_i64 {a b : Int} (h : a = b) : Ending.returned (.int .i64 a) = .returned (.int .i64 b) := by rw [h]
theorem gpow_inv (a : Int) (_h : 0 ≤ a) : gpow a 254 = ginv a := by
  unfold gpow ginv Gf.inv
  rw [if_neg (by decide)]
  by_cases hz : a = 0
  · subst hz; rw [if_pos rfl]; exact congrArg (fun n : Nat => (n : Int)) (Gf.inv_zero).symm
  · rw [if_neg hz]; rfl

theorem xor_i64_nat (a b : Nat) (ha : a < 32768) (hb : b < 32768) : bits BinOp.xor IntKind.i64 (a : Int) (b : Int) = ((a ^^^ b : Nat) : Int) := by
  have h1 : (BitVec.ofInt 64 (a : Int)).toNat = a := by
    rw [BitVec.ofInt_natCast, BitVec.toNat_ofNat]; exact Nat.mod_eq_of_lt (by omega)
  have h2 : (BitVec.ofInt 64 (b : Int)).toNat = b := by
    rw [BitVec.ofInt_natCast, BitVec.toNat_ofNat]; exact Nat.mod_eq_of_lt (by omega)
  have hx : a ^^^ b < 2 ^ 15 := Nat.xor_lt_two_pow ha hb
  show IntKind.i64.wrap ((BitVec.ofInt 64 (a : Int) ^^^ BitVec.ofInt 64 (b : Int)).toNat : Int) = _
  rw [BitVec.toNat_xor, h1, h2, IntKind.wrap_i64]
  omega
theorem and_one_i64' (n : Nat) (hn : n < 32768) : bits BinOp.and IntKind.i64 (n : Int) 1 = ((n % 2 : Nat) : Int) := by
  have h := bits_mask .i64 15 (by decide) (fun m h0 h1 => by rw [IntKind.wrap_i64]; omega) 1 (by decide) (n : Int) (by omega) (by omega)
  simpa using h
theorem up_bit (b k : Nat) (hb : b < 256) : bits BinOp.and IntKind.u8 ((b : Int) / 2 ^ k) 1 = ((b / 2 ^ k % 2 : Nat) : Int) := by
  have h := and_one_u8 (b / 2 ^ k) (by have := Nat.div_le_self b (2 ^ k); omega)
  rw [← h]; congr 1
theorem up_lt (a k : Nat) (ha : a < 256) (hk : k < 8) : a * 2 ^ k < 32768 := by
  have h : 2 ^ k ≤ 2 ^ 7 := Nat.pow_le_pow_right (by decide) (by omega)
  have : a * 2 ^ k ≤ 255 * 2 ^ 7 := Nat.mul_le_mul (by omega) h
  omega
theorem wrap64_small (n : Nat) (h : n < 32768) : wrap64 (n : Int) = (n : Int) := by
  unfold wrap64; omega
theorem up_xor (a k x : Nat) (ha : a < 256) (hk : k < 8) (hx : x < 32768) :
    bits BinOp.xor IntKind.i64 (x : Int) (wrap64 ((a : Int) * 2 ^ k)) = ((x ^^^ a * 2 ^ k : Nat) : Int) := by
  have hl := up_lt a k ha hk
  rw [show (a : Int) * 2 ^ k = ((a * 2 ^ k : Nat) : Int) by simp, wrap64_small _ hl, xor_i64_nat x _ hx hl]
theorem xor_lt15 {a b : Nat} (ha : a < 32768) (hb : b < 32768) : a ^^^ b < 32768 := Nat.xor_lt_two_pow (n := 15) ha hb
theorem down_bit (y k : Nat) (hy : y < 32768) : bits BinOp.and IntKind.i64 ((y : Int) / 2 ^ k) 1 = ((y / 2 ^ k % 2 : Nat) : Int) := by
  have h := and_one_i64' (y / 2 ^ k) (by have := Nat.div_le_self y (2 ^ k); omega)
  rw [← h]; congr 1
theorem down_lt (m : Nat) (hm : m < 7) : 285 * 2 ^ m < 32768 := by
  have h : 2 ^ m ≤ 2 ^ 6 := Nat.pow_le_pow_right (by decide) (by omega)
  omega
theorem down_xor (m y : Nat) (hm : m < 7) (hy : y < 32768) :
    bits BinOp.xor IntKind.i64 (y : Int) (wrap64 (285 * 2 ^ m)) = ((y ^^^ 285 * 2 ^ m : Nat) : Int) := by
  have hl := down_lt m hm
  rw [show (285 : Int) * 2 ^ m = ((285 * 2 ^ m : Nat) : Int) by simp, wrap64_small _ hl, xor_i64_nat y _ hy hl]
theorem val_i64 {a b : Int} (h : a = b) : Value.int .i64 a = .int .i64 b := by rw [h]
theorem ret_bool {a b : Bool} (h : a = b) : Ending.returned (.bool a) = .returned (.bool b) := by rw [h]
end Go.Proofs.YtfkoomldncfdnaaGreat
namespace Go.Proofs.YtfkoomldncfdnaaGreat.Mx

/-- R and V side by side -/
def aug (n : Nat) (R V : Mat) : Mat := fun r c => if c < n then R r c else V r (c - n)
theorem aug_lo {n : Nat} {R V : Mat} {r c : Nat} (h : c < n) : aug n R V r c = R r c := if_pos h
theorem pvt_congr {R R' : Mat} {i : Nat} (h : ∀ r, R r i = R' r i) : ∀ f k, pvt R i f k = pvt R' i f k := by
  intro f
  induction f with
  | zero => intro k; rfl
  | succ f ih => intro k; simp only [pvt, h k, ih]
theorem rnd_eq (R A : Mat) (i p r c : Nat) : rnd R A i p r c = if r = i then inv (R p i) * A p c else (if r = p then A i c else A r c) + (if r = p then R i i else R r i) * (inv (R p i) * A p c) := by
  unfold rnd elm facs scaleOf scl swp
  by_cases e : r = i
  · simp only [e, if_true]
  · simp only [if_neg e, if_true]
/-- one round on both is one round on each -/
theorem aug_rnd {n : Nat} {R V : Mat} {i p : Nat} (hi : i < n) : rnd (aug n R V) (aug n R V) i p = aug n (rnd R R i p) (rnd R V i p) := by
  funext r c
  by_cases h : c < n
  · simp only [rnd_eq, aug, if_pos h, if_pos hi]
  · simp only [rnd_eq, aug, if_neg h, if_pos hi]
/-- a row is scaled ahead of being exchanged -/
theorem swp_scl {A : Mat} {i p : Nat} {s : Fe} : swp (fun r => if r = p then (fun c => s * A p c) else A r) i p = scl (swp A i p) i s := by
  funext r c
  unfold swp scl
  by_cases e : r = i
  · simp only [if_pos e, if_true]
  · simp only [if_neg e]
    by_cases e' : r = p
    · have : ¬ i = p := fun h => e (by rw [e', ← h])
      simp only [if_pos e', if_neg this]
    · simp only [if_neg e']
end Go.Proofs.YtfkoomldncfdnaaGreat.Mx
namespace Go.Proofs.YtfkoomldncfdnaaGreat
open Go.RowKit Mx


theorem gmul_fi (a b : Fe) : gmul (fi a) (fi b) = fi (a * b) := by
  unfold gmul; rw [fi_nat, fi_nat]; rfl
theorem gadd_fi (a b : Fe) : gadd (fi a) (fi b) = fi (a + b) := by
  unfold gadd; rw [fi_nat, fi_nat]; rfl
theorem ginv_fi (a : Fe) : ginv (fi a) = fi (inv a) := by
  unfold ginv fi; rw [Int.toNat_natCast, nat_inv]
theorem xor_fi (a b : Fe) : bits BinOp.xor IntKind.u8 (fi a) (fi b) = fi (a + b) := by
  unfold fi; rw [bits_xor_u8 _ _ a.nat_lt b.nat_lt, nat_add]
/-- may such rows be a matrix? -/
def rightB (n : Nat) (L : Nat → Nat) : Bool := decide (1 ≤ n ∧ n ≤ 255 ∧ 1 ≤ L 0 ∧ L 0 ≤ 255 ∧ ∀ i, i < n → L i = L 0)
theorem rightB_true {n : Nat} {L : Nat → Nat} : rightB n L = true ↔ 1 ≤ n ∧ n ≤ 255 ∧ 1 ≤ L 0 ∧ L 0 ≤ 255 ∧ ∀ i, i < n → L i = L 0 := decide_eq_true_iff
theorem rightB_false {n : Nat} {L : Nat → Nat} (h : ¬ (1 ≤ n ∧ n ≤ 255 ∧ 1 ≤ L 0 ∧ L 0 ≤ 255 ∧ ∀ i, i < n → L i = L 0)) : rightB n L = false := decide_eq_false h
def SomeBool (w : World) (e : Ending) (w' : World) : Prop := ∃ b : Bool, e = .returned (.bool b) ∧ w = w'
theorem upTo_step {f h : Nat → Fe} {k j : Nat} : (if j = k then h k else if j < k then h j else f j) = if j < k + 1 then h j else f j := by
  by_cases e : j = k
  · subst e; rw [if_pos rfl, if_pos (by omega)]
  · rw [if_neg e]
    by_cases e' : j < k
    · rw [if_pos e', if_pos (by omega)]
    · rw [if_neg e', if_neg (by omega)]
def pivI (n : Nat) (M : Mat) (i : Nat) : Int := if pvt M i (n - i) i < n then ((pvt M i (n - i) i : Nat) : Int) else -1
theorem pivI_at {n : Nat} {M : Mat} {i k : Nat} (hk : k < n) (h : pvt M i (n - i) i = k) : pivI n M i = (k : Int) := by
  unfold pivI; rw [h, if_pos hk]
theorem pivI_none {n : Nat} {M : Mat} {i : Nat} (h : ¬ pvt M i (n - i) i < n) : pivI n M i = -1 := by
  unfold pivI; rw [if_neg h]
theorem pvt_here {R : Mat} {i f k : Nat} (h : R k i ≠ 0) : pvt R i (f + 1) k = k := by simp only [pvt, if_neg h]
theorem pvt_next {R : Mat} {i f k : Nat} (h : R k i = 0) : pvt R i (f + 1) k = pvt R i f (k + 1) := by simp only [pvt, if_pos h]

theorem infoByte : (Tryz.prog.info? 5).map (fun i => (i.zero, i.size, i.bytes)) = some (some (.int .u8 0), 1, 1) := by kernel_rfl
theorem infoRow : (Tryz.prog.info? 42).map (fun i => (i.zero, i.size, i.bytes)) = some (some (.slice none 0 0), 1, 24) := by kernel_rfl
/-- a new row of n elements r -/
def FreshRow (n : Nat) (r : Nat → Fe) (w : World) (e : Ending) (w' : World) : Prop :=
  ∃ g C, e = .returned (.slice (some ⟨g, 0, none⟩) n C) ∧ w.heap.size ≤ g ∧ n ≤ C ∧ RowAt w' g n r ∧ Below w.heap.size w w'
def cellsOf (n : Nat) (r : Nat → Fe) : List Value := (List.range n).map fun j => .int .u8 (fi (r j))
theorem cellsOf_len (n : Nat) (r : Nat → Fe) : (cellsOf n r).length = n := by simp [cellsOf]
theorem cellsOf_get {n : Nat} {r : Nat → Fe} {j : Nat} (hj : j < n) : (cellsOf n r)[j]? = some (.int .u8 (fi (r j))) := by simp [cellsOf, hj]
theorem cellsOf_some {n : Nat} {r : Nat → Fe} {j : Nat} {u : Value} (h : (cellsOf n r)[j]? = some u) : j < n ∧ u = .int .u8 (fi (r j)) := by
  have hj : j < n := by
    rcases Nat.lt_or_ge j n with h' | h'
    · exact h'
    · rw [List.getElem?_eq_none (by rw [cellsOf_len]; exact h')] at h; cases h
  rw [cellsOf_get hj] at h
  exact ⟨hj, (Option.some.inj h).symm⟩
theorem add_at (b off j : Nat) : (⟨b, off, none⟩ : Addr).add j = ⟨b, off + j, none⟩ := by
  unfold Addr.add
  by_cases h : j = 0 <;> simp [h]
theorem cellsOf_one {n : Nat} {r : Nat → Fe} : ∀ u ∈ cellsOf n r, u.oneCell' = true := by
  intro u hu
  simp only [cellsOf, List.mem_map] at hu
  obtain ⟨j, _, rfl⟩ := hu
  rfl
theorem Rd.cells {w : World} {n : Nat} {r : Nat → Fe} {b off : Nat} (hc : ∀ j, j < n → w.cell? ⟨b, off + j, none⟩ = some (.int .u8 (fi (r j)))) : ∀ j u, (cellsOf n r)[j]? = some u → w.cell? ((⟨b, off, none⟩ : Addr).add j) = some u := by
  intro j u hu
  obtain ⟨hj, rfl⟩ := cellsOf_some hu
  rw [add_at]; exact hc j hj
theorem RowAt.of_owns {w : World} {base n : Nat} {r : Nat → Fe} {v : Value} (h : w.ownsRow base 5 1 v n (cellsOf n r)) (hn : 0 < n) :
    ∃ g C, v = .slice (some ⟨g, 0, none⟩) n C ∧ base ≤ g ∧ n ≤ C ∧ RowAt w g n r := by
  obtain ⟨g, C, h1, h2, h3, h4⟩ := RowV.of_owns h hn
  exact ⟨g, C, h1, h2, h3, RowV.congr h4 fun j hj => by rw [List.getD_eq_getElem?_getD, cellsOf_get hj]; rfl⟩
/-- a new matrix of n rows of m elements -/
def FreshMat (n m : Nat) (M : Mat) (w : World) (e : Ending) (w' : World) : Prop :=
  ∃ b G C, e = .returned (.slice (some ⟨b, 0, none⟩) n n) ∧ w.heap.size ≤ b ∧ OwnK w' w.heap.size b n n m G C M ∧ Below w.heap.size w w'

/-- the rows ahead of k are cleared -/
def elmK (k : Nat) (A : Mat) (i : Nat) (f : Nat → Fe) : Mat := fun r c => if r < k ∧ r ≠ i then A r c + f r * A i c else A r c
/-- what clearColumn does to A, as R tells it -/
def clr (R A : Mat) (i : Nat) : Mat := elm (scl A i (inv (R i i))) i (fun r => scl R i (inv (R i i)) r i)
theorem clr_swp (R A : Mat) (i p : Nat) : clr (swp R i p) (swp A i p) i = rnd R A i p := by
  have : swp R i p i i = R p i := if_pos rfl
  unfold clr rnd facs scaleOf
  rw [this]
theorem elmK_zero (A : Mat) (i : Nat) (f : Nat → Fe) : elmK 0 A i f = A := by
  funext r c
  exact if_neg (fun h => absurd h.1 (by omega))
theorem elmK_self (k : Nat) (A : Mat) (i : Nat) (f : Nat → Fe) : elmK k A i f i = A i := by
  funext c
  exact if_neg (fun h => h.2 rfl)
theorem elmK_here (k : Nat) (A : Mat) (i : Nat) (f : Nat → Fe) : elmK k A i f k = A k := by
  funext c
  exact if_neg (fun h => absurd h.1 (by omega))
theorem elmK_skip (A : Mat) (i : Nat) (f : Nat → Fe) : elmK (i + 1) A i f = elmK i A i f := by
  funext r c
  unfold elmK
  by_cases e : r < i
  · rw [if_pos ⟨by omega, by omega⟩, if_pos ⟨e, by omega⟩]
  · rw [if_neg (by omega), if_neg (by omega)]
theorem elmK_step {k : Nat} (A : Mat) {i : Nat} (hk : k ≠ i) (f : Nat → Fe) {a : Fe} (ha : f k = a) : (fun r => if r = k then (fun c => A k c + a * A i c) else elmK k A i f r) = elmK (k + 1) A i f := by
  subst ha
  funext r c
  unfold elmK
  by_cases e : r = k
  · subst e
    rw [if_pos rfl, if_pos ⟨by omega, hk⟩]
  · rw [if_neg e]
    by_cases e' : r < k ∧ r ≠ i
    · rw [if_pos e', if_pos ⟨by omega, e'.2⟩]
    · rw [if_neg e', if_neg (by omega)]
theorem elmK_all {n : Nat} (A : Mat) (i : Nat) (f : Nat → Fe) {r : Nat} (hr : r < n) (c : Nat) : elmK n A i f r c = elm A i f r c := by
  unfold elmK elm
  by_cases e : r = i
  · rw [if_neg (fun h => h.2 e), if_pos e, e]
  · rw [if_pos ⟨hr, e⟩, if_neg e]
/-- two matrices of a call's own, apart -/
structure Two (w : World) (B b b' n : Nat) (G C G' C' : Nat → Nat) (R V : Mat) : Prop where
  r : OwnK w B b n n n G C R
  v : OwnK w B b' n n n G' C' V
  bb : b ≠ b'
  gg : ∀ i j, i < n → j < n → G i ≠ G' j
namespace Two
variable {w w' : World} {B b b' n : Nat} {G C G' C' : Nat → Nat} {R V : Mat}
theorem flip (h : Two w B b b' n G C G' C' R V) : Two w B b' b n G' C' G C V R := ⟨h.v, h.r, fun e => h.bb e.symm, fun i j hi hj e => h.gg j i hj hi e.symm⟩
theorem turnR (h : Two w B b b' n G C G' C' R V) {i : Nat} (hi : i < n) {f : Nat → Fe} (hk : Kp (· = G i) w w') (hr : RowAt w' (G i) n f) : Two w' B b b' n G C G' C' (fun r => if r = i then f else R r) V :=
  ⟨h.r.turn hi hk hr, h.v.kp hk (fun e => RowV.ne (h.r.rows i hi) h.v.top (by decide) e.symm) (fun j hj e => h.gg i j hi hj e.symm), h.bb, h.gg⟩
theorem turnV (h : Two w B b b' n G C G' C' R V) {i : Nat} (hi : i < n) {f : Nat → Fe} (hk : Kp (· = G' i) w w') (hr : RowAt w' (G' i) n f) : Two w' B b b' n G C G' C' R (fun r => if r = i then f else V r) :=
  (h.flip.turnR hi hk hr).flip
theorem drew (h : Two w B b b' n G C G' C' R V) : Two w.drew B b b' n G C G' C' R V := ⟨h.r.drew, h.v.drew, h.bb, h.gg⟩
theorem congrs {R' V' : Mat} (h : Two w B b b' n G C G' C' R V) (hR : ∀ i, i < n → ∀ j, j < n → R i j = R' i j) (hV : ∀ i, i < n → ∀ j, j < n → V i j = V' i j) : Two w B b b' n G C G' C' R' V' :=
  ⟨h.r.congr hR, h.v.congr hV, h.bb, h.gg⟩
theorem cellR (h : Two w B b b' n G C G' C' R V) {i : Nat} (hi : i < n) : w.cell? ⟨b, i, none⟩ = some (.slice (some ⟨G i, 0, none⟩) n (C i)) := by
  rw [h.r.top.cell hi, if_pos hi]
theorem cellV (h : Two w B b b' n G C G' C' R V) {i : Nat} (hi : i < n) : w.cell? ⟨b', i, none⟩ = some (.slice (some ⟨G' i, 0, none⟩) n (C' i)) := by
  rw [h.v.top.cell hi, if_pos hi]
/-- two rows of the first are exchanged -/
theorem swapR (h : Two w B b b' n G C G' C' R V) {i p : Nat} (hi : i < n) (hp : p < n) :
    Two ((w.setCell ⟨b, i, none⟩ (.slice (some ⟨G p, 0, none⟩) n (C p))).setCell ⟨b, p, none⟩ (.slice (some ⟨G i, 0, none⟩) n (C i))).drew B b b' n
      (fun r => if r = i then G p else if r = p then G i else G r) (fun r => if r = i then C p else if r = p then C i else C r) G' C' (swp R i p) V := by
  have hk : Kp (· = b) w ((w.setCell ⟨b, i, none⟩ (.slice (some ⟨G p, 0, none⟩) n (C p))).setCell ⟨b, p, none⟩ (.slice (some ⟨G i, 0, none⟩) n (C i))).drew :=
    (((Kp.refl (· = b) w).setCell (p := ⟨b, i, none⟩) rfl _).setCell (p := ⟨b, p, none⟩) rfl _).drew
  have hv : ∀ j, j < n → G' j ≠ b := fun j hj => RowV.ne (h.v.rows j hj) h.r.top (by decide)
  refine ⟨h.r.swap hi hp (fun r hr => (h.r.rows r hr).kp hk (h.r.ne hr)) ?_, h.v.kp hk (fun e => h.bb e.symm) hv, h.bb, fun r j hr hj => ?_⟩
  · refine RowV.congr (((h.r.top.set i _).set p _)) fun r hr => ?_
    by_cases e1 : r = i <;> by_cases e2 : r = p
    · subst e1; subst e2; simp
    · simp only [if_pos e1, if_neg e2]
    · simp only [if_neg e1, if_pos e2]
    · simp only [if_neg e1, if_neg e2, if_pos hr]
  · by_cases e1 : r = i
    · simp only [if_pos e1]; exact h.gg p j hp hj
    · by_cases e2 : r = p
      · simp only [if_neg e1, if_pos e2]; exact h.gg i j hi hj
      · simp only [if_neg e1, if_neg e2]; exact h.gg r j hr hj
theorem swapV (h : Two w B b b' n G C G' C' R V) {i p : Nat} (hi : i < n) (hp : p < n) :
    Two ((w.setCell ⟨b', i, none⟩ (.slice (some ⟨G' p, 0, none⟩) n (C' p))).setCell ⟨b', p, none⟩ (.slice (some ⟨G' i, 0, none⟩) n (C' i))).drew B b b' n
      G C (fun r => if r = i then G' p else if r = p then G' i else G' r) (fun r => if r = i then C' p else if r = p then C' i else C' r) R (swp V i p) :=
  (h.flip.swapR hi hp).flip
end Two
/-- the blocks of the rows of both -/
def Both (n : Nat) (G G' : Nat → Nat) : Nat → Prop := fun x => (∃ i, i < n ∧ x = G i) ∨ ∃ i, i < n ∧ x = G' i
theorem scl_row (A : Mat) (i : Nat) (s : Fe) : (fun r => if r = i then (fun c => s * A i c) else A r) = scl A i s := by
  funext r c
  unfold scl
  by_cases e : r = i
  · rw [if_pos e, if_pos e]
  · rw [if_neg e, if_neg e]
/-- a matrix, and an error's number -/
def ResM (code : Int) (n m : Nat) (M : Mat) (w : World) (e : Ending) (w' : World) : Prop :=
  ∃ A C, e = .returned (.tuple #[.slice A n C, .int .i64 code]) ∧ RdM w' A n (fun _ => m) M (· < w'.heap.size) ∧ Below w.heap.size w w'
/-- what the way of Gauss and Jordan comes to -/
def InvRes (n : Nat) (M : Mat) (w : World) (e : Ending) (w' : World) : Prop :=
  match gjs n M n with
  | none => ResM 12 0 0 one w e w'
  | some (_, V) => ResM 0 n n V w e w'
theorem InvRes.even {n : Nat} {M : Mat} {w : World} {e : Ending} {w' : World} (h : gjs n M n = none) (hr : ResM 12 0 0 one w e w') : InvRes n M w e w' := by
  unfold InvRes; rw [h]; exact hr
theorem InvRes.ok {n : Nat} {M R V : Mat} {w : World} {e : Ending} {w' : World} (h : gjs n M n = some (R, V)) (hr : ResM 0 n n V w e w') : InvRes n M w e w' := by
  unfold InvRes; rw [h]; exact hr

def InvAny (n : Nat) (L : Nat → Nat) (M : Mat) (w : World) (e : Ending) (w' : World) : Prop :=
  if rightB n L = true ∧ n = L 0 then InvRes n M w e w' else ResM 1 0 0 one w e w'
theorem ResM.bad (w : World) {w' : World} (h : Below w.heap.size w w') : ResM 1 0 0 one w (.returned (.tuple #[.slice none 0 0, .int .i64 1])) w' := ⟨none, 0, rfl, RdM.empty _ _ _ _ _, h⟩
/-- a row, and an error's number -/
def ResV (code : Int) (n : Nat) (v : Nat → Fe) (w : World) (e : Ending) (w' : World) : Prop :=
  ∃ A C, e = .returned (.tuple #[.slice A n C, .int .i64 code]) ∧ Rd w' A n v (· < w'.heap.size) ∧ Below w.heap.size w w'
/-- a new row, and an error's number -/
def OwnV (code : Int) (n : Nat) (v : Nat → Fe) (w : World) (e : Ending) (w' : World) : Prop :=
  ∃ g C, e = .returned (.tuple #[.slice (some ⟨g, 0, none⟩) n C, .int .i64 code]) ∧ w.heap.size ≤ g ∧ RowAt w' g n v ∧ Below w.heap.size w w'
theorem OwnV.res {code : Int} {n : Nat} {v : Nat → Fe} {w : World} {e : Ending} {w' : World} (h : OwnV code n v w e w') : ResV code n v w e w' := by
  obtain ⟨g, C, he, _, hr, hb⟩ := h
  exact ⟨_, C, he, hr.rd _ hr.lt, hb⟩
theorem ResV.bad (w : World) {w' : World} (h : Below w.heap.size w w') : ResV 1 0 (fun _ => 0) w (.returned (.tuple #[.slice none 0 0, .int .i64 1])) w' := ⟨none, 0, rfl, Rd.empty _ _ _ _, h⟩
/-- the first rows are reckoned, of row i the first j terms -/
def part (f : Nat → Fe) (i : Nat) (s : Fe) : Nat → Fe := fun x => if x < i then f x else if x = i then s else 0
theorem part_set (f : Nat → Fe) (i : Nat) (s s' : Fe) (x : Nat) : (if x = i then s' else part f i s x) = part f i s' x := by
  unfold part
  by_cases e : x = i
  · rw [if_pos e, if_neg (by omega), if_pos e]
  · rw [if_neg e, if_neg e, if_neg e]
theorem part_next (f : Nat → Fe) (i : Nat) (x : Nat) : part f i (f i) x = part f (i + 1) 0 x := by
  unfold part
  by_cases e : x = i
  · rw [if_neg (by omega), if_pos e, if_pos (by omega), e]
  · by_cases e' : x < i
    · rw [if_pos e', if_pos (by omega)]
    · rw [if_neg e', if_neg e, if_neg (by omega)]
      by_cases e2 : x = i + 1
      · rw [if_pos e2]
      · rw [if_neg e2]
theorem part_at (f : Nat → Fe) (i : Nat) (s : Fe) : part f i s i = s := by unfold part; rw [if_neg (by omega), if_pos rfl]

def ApplyAny (n : Nat) (L : Nat → Nat) (M : Mat) (m : Nat) (v : Nat → Fe) (w : World) (e : Ending) (w' : World) : Prop :=
  if rightB n L = true ∧ L 0 = m then ResV 0 n (mv m M v) w e w' else ResV 1 0 (fun _ => 0) w e w'
/-- of row k the first terms are summed -/
theorem sumRow_step (MA MB : Mat) (X : Mat) (k j : Nat) : (fun r => if r = k then (fun c => (sm j fun t => MA k t * MB t c) + MA k j * MB j c) else (fun r => if r = k then (fun c => sm j fun t => MA k t * MB t c) else X r) r) = fun r => if r = k then (fun c => sm (j + 1) fun t => MA k t * MB t c) else X r := by
  funext r
  by_cases e : r = k
  · rw [if_pos e, if_pos e]; rfl
  · rw [if_neg e, if_neg e]; exact if_neg e

def MulAny (n : Nat) (L : Nat → Nat) (M : Mat) (n' : Nat) (L' : Nat → Nat) (M' : Mat) (w : World) (e : Ending) (w' : World) : Prop :=
  if rightB n L = true ∧ rightB n' L' = true ∧ L 0 = n' then ResM 0 n (L' 0) (mm n' M M') w e w' else ResM 1 0 0 one w e w'
/-- the element of that number -/
def el (n : Nat) : Fe := mk (n % 256) (Nat.mod_lt _ (by decide))
theorem fi_el {n : Nat} (h : n < 256) : fi (el n) = (n : Int) := by
  unfold fi el; rw [nat_mk, Nat.mod_eq_of_lt h]
theorem el_ne {i j : Nat} (hi : i < 256) (hj : j < 256) (h : i ≠ j) : el i ≠ el j := fun e => h (by
  have := congrArg fi e
  rw [fi_el hi, fi_el hj] at this; omega)
def cau (p : Nat) : Mat := fun i j => inv (el i + el (p + j))
theorem cau_int {p i j : Nat} (h : i < 256) (h' : p + j < 256) : ginv (gadd (i : Int) ((p : Int) + (j : Int))) = fi (cau p i j) := by
  unfold cau
  rw [← ginv_fi, ← gadd_fi, fi_el h, fi_el h']; congr 2

/-- the text of n bytes -/
def strOf (n : Nat) (r : Nat → Fe) : ByteArray := ((List.range n).map fun j => fi (r j)).foldl (fun s n => s.push (UInt8.ofNat n.toNat)) ByteArray.empty
theorem strOf_congr {n : Nat} {r s : Nat → Fe} (h : ∀ j, j < n → r j = s j) : strOf n r = strOf n s := by
  unfold strOf
  rw [List.map_congr_left (g := fun j => fi (s j)) (fun j hj => by rw [h j (List.mem_range.1 hj)])]
theorem str_run {w : World} {A : Option Addr} {n : Nat} {r : Nat → Fe} {G : Nat → Prop} (h : Rd w A n r G) (C : Nat) : (convert 42 9 (.slice A n C)).run Tryz.prog w = .ok (.string (strOf n r)) w := by
  rw [run_convert_bytes_string w 42 9 5 A n C Tryz.underlying42 Tryz.underlying5 Tryz.underlying9]
  cases A with
  | none =>
    have hn : n = 0 := by
      rcases Nat.eq_zero_or_pos n with h0 | h0
      · exact h0
      · obtain ⟨b, off, e, _⟩ := h h0; cases e
    subst hn
    rfl
  | some a =>
    refine run_bytesToString w a n C _ ?_
    rw [List.map_map]
    refine (run_loadCells w a n (fun j => .int .u8 (fi (r j))) fun j hj => ?_).trans ?_
    · obtain ⟨b, off, e, _, hc⟩ := h (by omega)
      cases e
      rw [add_at]; exact hc j hj
    · congr 1
theorem str_runD {w : World} {A : Option Addr} {n : Nat} {r : Nat → Fe} {G : Nat → Prop} (h : Rd w A n r G) (C q : Nat) : (convert 42 9 (.slice A n C)).run Tryz.prog (w.drewN q) = .ok (.string (strOf n r)) (w.drewN q) := str_run (w := w.drewN q) h C

/-- the rows as the cells of what holds them -/
def tops (k m : Nat) (G C : Nat → Nat) : List Value := (List.range k).map fun i => .slice (some ⟨G i, 0, none⟩) m (C i)
theorem tops_len (k m : Nat) (G C : Nat → Nat) : (tops k m G C).length = k := by simp [tops]
theorem tops_get {k m : Nat} {G C : Nat → Nat} {j : Nat} (hj : j < k) : (tops k m G C)[j]? = some (.slice (some ⟨G j, 0, none⟩) m (C j)) := by simp [tops, hj]
/-- a matrix that is made by append, row behind row -/
structure OwnA (w : World) (B : Nat) (v : Value) (k m : Nat) (G C : Nat → Nat) (M : Mat) : Prop where
  top : w.ownsRow B 42 1 v k (tops k m G C)
  cap : ∀ i, i < k → m ≤ C i
  rows : ∀ i, i < k → RowAt w (G i) m (M i)
  inj : ∀ i j, i < k → j < k → G i = G j → i = j
  lo : ∀ i, i < k → B ≤ G i
theorem owns_ne {w : World} {B : Nat} {t t' : TypeId} {v : Value} {k g n : Nat} {xs : List Value} {V : Nat → Value} (h : w.ownsRow B t 1 v k xs) (h' : RowV w t' g n V) (ht : t ≠ t') : some g ≠ v.ownBlock := by
  rcases h.2 with ⟨rfl, _⟩ | ⟨g', cap, cur, rfl, _, hh, _⟩
  · simp [Value.ownBlock]
  · intro e
    simp only [Value.ownBlock, Option.some.injEq] at e
    subst e
    obtain ⟨c, hb, _, _⟩ := h'
    rw [hh] at hb
    injection hb with hb
    injection hb with _ e
    exact ht e
namespace OwnA
variable {w w' : World} {B k m : Nat} {v v' : Value} {G C : Nat → Nat} {M M' : Mat}
theorem start (w : World) (B m : Nat) (G C : Nat → Nat) (M : Mat) : OwnA w B (.slice none 0 0) 0 m G C M :=
  ⟨World.ownsRow_nil _ _ _ _, fun i hi => absurd hi (by omega), fun i hi => absurd hi (by omega), fun i j hi => absurd hi (by omega), fun i hi => absurd hi (by omega)⟩
theorem old (h : OwnA w B v k m G C M) (hb : Below w.heap.size w w') : OwnA w' B v k m G C M :=
  ⟨h.top.kept (row := none) ⟨hb.os, hb.tape, hb.output, hb.size, fun i hi _ => hb.block i hi⟩ (by cases hv : v.ownBlock <;> simp), h.cap, fun i hi => (h.rows i hi).old hb, h.inj, h.lo⟩
theorem congr (h : OwnA w B v k m G C M) (e : ∀ i, i < k → ∀ j, j < m → M i j = M' i j) : OwnA w B v k m G C M' :=
  ⟨h.top, h.cap, fun i hi => (h.rows i hi).congr (e i hi), h.inj, h.lo⟩
/-- a row is appended -/
theorem push (h : OwnA w B v k m G C M) {o : Obj} (hg : (w.alloc o).grownBy w' v.ownBlock) {g c : Nat} {f : Nat → Fe} (hown : w'.ownsRow B 42 1 v' (k + 1) (tops k m G C ++ [.slice (some ⟨g, 0, none⟩) m c]))
    (hr : RowAt w g m f) (hne : ∀ i, i < k → G i ≠ g) (hB : B ≤ g) (hc : m ≤ c) : OwnA w' B v' (k + 1) m (fun i => if i = k then g else G i) (fun i => if i = k then c else C i) (fun i => if i = k then f else M i) := by
  have keep : ∀ {g' : Nat} {f' : Nat → Fe}, RowAt w g' m f' → RowAt w' g' m f' := fun {g' f'} h' =>
    h'.of_block ((hg.block g' (by have := h'.lt; simp; omega) (owns_ne h.top h' (by decide))).trans (Below.heap_alloc _ _ _ h'.lt))
  have ht : tops k m G C ++ [.slice (some ⟨g, 0, none⟩) m c] = tops (k + 1) m (fun i => if i = k then g else G i) (fun i => if i = k then c else C i) := by
    unfold tops
    rw [List.range_succ, List.map_append]
    congr 1
    · exact List.map_congr_left fun i hi => by
        have := List.mem_range.1 hi
        simp only [show ¬ i = k by omega, if_false]
    · simp
  rw [ht] at hown
  refine ⟨hown, fun i hi => ?_, fun i hi => ?_, fun i j hi hj e => ?_, fun i hi => ?_⟩
  · by_cases e : i = k
    · simp only [e, if_true]; exact hc
    · simp only [e, if_false]; exact h.cap i (by omega)
  · by_cases e : i = k
    · simp only [e, if_true]; exact keep hr
    · simp only [e, if_false]; exact keep (h.rows i (by omega))
  · by_cases e1 : i = k <;> by_cases e2 : j = k
    · omega
    · simp only [e1, e2, if_true, if_false] at e
      exact absurd e.symm (hne j (by omega))
    · simp only [e1, e2, if_true, if_false] at e
      exact absurd e (hne i (by omega))
    · simp only [e1, e2, if_false] at e
      exact h.inj i j (by omega) (by omega) e
  · by_cases e : i = k
    · simp only [e, if_true]; exact hB
    · simp only [e, if_false]; exact h.lo i (by omega)
/-- as a matrix with its rows laid -/
theorem own (h : OwnA w B v k m G C M) (hk : 0 < k) : ∃ b cp, v = .slice (some ⟨b, 0, none⟩) k cp ∧ B ≤ b ∧ k ≤ cp ∧ OwnK w B b k k m G C M := by
  obtain ⟨b, cp, h1, h2, h3, h4⟩ := RowV.of_owns h.top hk
  exact ⟨b, cp, h1, h2, h3, h4.congr fun j hj => by rw [if_pos hj, List.getD_eq_getElem?_getD, tops_get hj]; rfl, h.cap, h.rows, h.inj, h.lo⟩
end OwnA
theorem oneCell (w : World) (x : Value) (t : TypeId) : ∀ j u, [x][j]? = some u → (w.alloc (.cells #[x] t)).cell? ((⟨w.heap.size, 0, none⟩ : Addr).add j) = some u := by
  intro j u hj
  match j, hj with
  | 0, hj => simp at hj; subst hj; simp [Addr.add]
theorem oneSlice (a : Option Addr) (n c : Nat) : ∀ u ∈ [Value.slice a n c], u.oneCell' = true := by
  intro u hu; simp at hu; subst hu; rfl
theorem oneByte (x : Int) : ∀ u ∈ [Value.int .u8 x], u.oneCell' = true := by
  intro u hu; simp at hu; subst hu; rfl
theorem oneCellAt (w : World) (x : Value) (t : TypeId) (s : Nat) (hs : s = w.heap.size) : ∀ j u, [x][j]? = some u → (w.alloc (.cells #[x] t)).cell? ((⟨s, 0, none⟩ : Addr).add j) = some u := by
  subst hs; exact oneCell w x t
theorem own_old {w w' : World} {base : Nat} {t : TypeId} {v : Value} {k : Nat} {xs : List Value} (h : w.ownsRow base t 1 v k xs) (hb : Below w.heap.size w w') : w'.ownsRow base t 1 v k xs :=
  h.kept (row := none) ⟨hb.os, hb.tape, hb.output, hb.size, fun i hi _ => hb.block i hi⟩ (by cases hv : v.ownBlock <;> simp)
theorem cellsOf_succ (n : Nat) (r : Nat → Fe) : cellsOf n r ++ [.int .u8 (fi (r n))] = cellsOf (n + 1) r := by
  unfold cellsOf; rw [List.range_succ, List.map_append]; rfl
/-- a row with zeros behind it -/
theorem cellsOf_zeros (n m : Nat) (hm : n + n = m) (r : Nat → Fe) : cellsOf n r ++ List.replicate n (.int .u8 0) = cellsOf m (fun c => if c < n then r c else 0) := by
  subst hm
  unfold cellsOf
  apply List.ext_getElem?
  intro j
  rw [List.getElem?_append]
  simp only [List.length_map, List.length_range]
  by_cases h : j < n
  · rw [if_pos h]
    simp [h, show j < n + n by omega]
  · rw [if_neg h]
    by_cases h' : j < n + n
    · simp [h, h', show j - n < n by omega, fi_zero]
    · simp [h', show ¬ j - n < n by omega]
theorem aug_row {n m : Nat} (M : Mat) {i : Nat} : ∀ c, c < m → (if c = n + i then (1 : Fe) else if c < n then M i c else 0) = aug n M one i c := by
  intro c _
  unfold aug one
  by_cases h : c < n
  · simp only [if_neg (show ¬ c = n + i by omega), if_pos h]
  · simp only [if_neg h]
    by_cases h' : c = n + i
    · simp only [if_pos h', if_pos (show i = c - n by omega)]
    · simp only [if_neg h', if_neg (show ¬ i = c - n by omega)]
/-! ### The answers as functions of what was given -/
theorem InvAny.res (n : Nat) (L : Nat → Nat) (M : Mat) : ∃ (code : Int) (k q : Nat) (X : Mat), k ≤ 255 ∧ ∀ w e w', InvAny n L M w e w' → ResM code k q X w e w' := by
  by_cases h : rightB n L = true ∧ n = L 0
  · have hn := (rightB_true.1 h.1).2.1
    cases hg : gjs n M n with
    | none => exact ⟨12, 0, 0, one, by omega, fun w e w' hh => by unfold InvAny InvRes at hh; rw [if_pos h, hg] at hh; exact hh⟩
    | some s => exact ⟨0, n, n, s.2, hn, fun w e w' hh => by unfold InvAny InvRes at hh; rw [if_pos h, hg] at hh; exact hh⟩
  · exact ⟨1, 0, 0, one, by omega, fun w e w' hh => by unfold InvAny at hh; rw [if_neg h] at hh; exact hh⟩
theorem MulAny.res (n : Nat) (L : Nat → Nat) (M : Mat) (n' : Nat) (L' : Nat → Nat) (M' : Mat) : ∃ (code : Int) (k q : Nat) (X : Mat), k ≤ 255 ∧ ∀ w e w', MulAny n L M n' L' M' w e w' → ResM code k q X w e w' := by
  by_cases h : rightB n L = true ∧ rightB n' L' = true ∧ L 0 = n'
  · exact ⟨0, n, L' 0, mm n' M M', (rightB_true.1 h.1).2.1, fun w e w' hh => by unfold MulAny at hh; rw [if_pos h] at hh; exact hh⟩
  · exact ⟨1, 0, 0, one, by omega, fun w e w' hh => by unfold MulAny at hh; rw [if_neg h] at hh; exact hh⟩
theorem ApplyAny.res (n : Nat) (L : Nat → Nat) (M : Mat) (m : Nat) (v : Nat → Fe) : ∃ (code : Int) (k : Nat) (x : Nat → Fe), k ≤ 255 ∧ ∀ w e w', ApplyAny n L M m v w e w' → ResV code k x w e w' := by
  by_cases h : rightB n L = true ∧ L 0 = m
  · exact ⟨0, n, mv m M v, (rightB_true.1 h.1).2.1, fun w e w' hh => by unfold ApplyAny at hh; rw [if_pos h] at hh; exact hh⟩
  · exact ⟨1, 0, fun _ => 0, by omega, fun w e w' hh => by unfold ApplyAny at hh; rw [if_neg h] at hh; exact hh⟩
theorem cell_new (w : World) (c : Array Value) (t : TypeId) (s i : Nat) (hs : s = w.heap.size) : (w.alloc (.cells c t)).cell? ⟨s, i, none⟩ = c[i]? := by
  subst hs; exact cell_of_row _ _ _ _ _ (0, 0) (heap_alloc_new w _)
theorem cell_past (w : World) (o : Obj) (s i : Nat) (hs : s < w.heap.size) : (w.alloc o).cell? ⟨s, i, none⟩ = w.cell? ⟨s, i, none⟩ := World.cell?_alloc_lt w o _ hs
end Go.Proofs.YtfkoomldncfdnaaGreat
namespace Go.Proofs.YtfkoomldncfdnaaGreat
open Go.RowKit Mx

set_option maxHeartbeats 1000000 in
theorem cloneRow_any (A : Option Addr) (n C : Nat) (r : Nat → Fe) (G : Nat → Prop) (w : World) (hn0 : 0 < n) (hn : n ≤ 1000000) (h : Rd w A n r G) :
    Calls Tryz.prog 102 #[.slice A n C] w (FreshRow n r w) := by
  obtain ⟨b, off, rfl, _, hc⟩ := h hn0
  obtain ⟨i0, hi, hz0, hz1, hz2⟩ := info_parts infoByte
  have hown : (w.alloc (.cells #[] 5)).ownsRow w.heap.size 5 1 (.slice (some ⟨w.heap.size, 0, none⟩) 0 0) 0 [] := World.ownsRow_made w #[] 0 (Nat.le_refl _) (by decide) rfl
  have hc' : ∀ j, j < n → (w.alloc (.cells #[] 5)).cell? ⟨b, off + j, none⟩ = some (.int .u8 (fi (r j))) := fun j hj => by
    rw [World.cell?_alloc_lt w _ _ (World.block_lt_of_cell? _ _ (hc j hj))]; exact hc j hj
  have HC := Lib.hid hc'
  clear hc hc' h
  have hnil : ∀ (w : World) (a : Option Addr) (n c n' c' : Nat), (binOp .eql 42 (.slice a n c) (.slice none n' c')).run Tryz.prog w = .ok (.bool a.isNone) w := fun w a n c n' c' => Lib.run_eql_slice_nil w _ _ a n c n' c' Tryz.underlying42
  go_enter Tryz.func102, Tryz.ntmps102
  go_wp2_with (at_builtin; refine wpList_append_own _ rfl _ _ 42 rfl w.heap.size 5 i0 (.int .u8 0) 1 1 Tryz.underlying42 hi hz0 hz1 hz2 rfl (by decide) _ _ _ rfl hown ⟨b, off, none⟩ n C (cellsOf n r) rfl (by rw [cellsOf_len, Nat.mul_one]) (Rd.cells HC.out) cellsOf_one (by unfold maxLen; omega) (by omega) (by simp) ?_)
  intro v' w' hown' hgrow _
  obtain ⟨g, C', rfl, hg, hC, hr⟩ := RowAt.of_owns hown' hn0
  have HB := Lib.hid (((Below.refl w.heap.size w).alloc (Nat.le_refl _) _).grown hgrow (by simp) (fun k hk => by simp [Value.ownBlock] at hk; omega))
  clear hown' hgrow hown HC hnil
  go_wp2
  go_ret
  exact ⟨g, C', rfl, hg, hC, hr, HB.out⟩
end Go.Proofs.YtfkoomldncfdnaaGreat
namespace Go.Proofs.YtfkoomldncfdnaaGreat
open Go.RowKit Mx
open Pt (Tx)

theorem blocks_lost (lab cap : Int) (A : Option Addr) (n C : Nat) (w : World) :
    Calls Tryz.prog 67 #[.agg #[.int .i64 lab, .int .i64 cap, .slice A n C, .bool true]] w fun e w' => e = .returned (.slice none 0 0) ∧ Below w.heap.size w w' := by
  have HB := Lib.hid (tape_new w lab cap A n C true).1
  unfold tapeObj at HB
  go_enter Tryz.func67, Tryz.ntmps67
  go_wp2
  go_ret
  exact ⟨rfl, HB.out⟩
theorem blocks_live (lab cap : Int) (A : Option Addr) (n C : Nat) (w : World) :
    Calls Tryz.prog 67 #[.agg #[.int .i64 lab, .int .i64 cap, .slice A n C, .bool false]] w fun e w' => e = .returned (.slice A n C) ∧ Below w.heap.size w w' := by
  have HB := Lib.hid (tape_new w lab cap A n C false).1
  unfold tapeObj at HB
  go_enter Tryz.func67, Tryz.ntmps67
  go_wp2
  go_ret
  exact ⟨rfl, HB.out⟩
/-- a block of a row: new memory, or no bytes -/
def BlkA (s : Tx) (w : World) (e : Ending) (w' : World) : Prop :=
  ∃ A C, e = .returned (.slice A s.length C) ∧ s.length ≤ C ∧ (A = none → s.length = 0 ∧ C = 0) ∧ Rd w' A s.length (rowL s) (w.heap.size ≤ ·) ∧ Below w.heap.size w w'
theorem BlkA.nil {w w' : World} (h : Below w.heap.size w w') : BlkA [] w (.returned (.slice none 0 0)) w' := ⟨none, 0, rfl, Nat.le_refl _, fun _ => ⟨rfl, rfl⟩, Rd.empty _ _ _ _, h⟩
theorem BlkA.of {s : Tx} {w w' : World} {g n C : Nat} (hn : n = s.length) (hC : n ≤ C) (hg : w.heap.size ≤ g) (hr : RowAt w' g n (rowL s)) (h : Below w.heap.size w w') : BlkA s w (.returned (.slice (some ⟨g, 0, none⟩) n C)) w' :=
  ⟨_, C, by rw [hn], by rw [← hn]; exact hC, fun h => (by cases h), by rw [← hn]; exact hr.rd _ hg, h⟩
theorem rowL_zeros : rowL St.zeros = fun _ => 0 := by
  funext i
  unfold rowL St.zeros
  rw [List.getD_eq_getElem?_getD, List.getElem?_replicate]
  split <;> rfl
theorem zeros_row {w : World} {g : Nat} (h : RowAt w g 79 (fun _ => 0)) : RowAt w g 79 (rowL St.zeros) := by rw [rowL_zeros]; exact h
theorem make79 : ∀ wx : World, (Instr.makeSlice 42 (.int .i64 79) (.int .i64 79)).run Tryz.prog wx = .ok (.slice (some ⟨wx.heap.size, 0, none⟩) 79 79) (wx.alloc (.cells (madeCells #[.int .u8 0] 79) 5)) := fun wx =>
  run_make_row' (P := Tryz.prog) 42 5 (.int .u8 0) 1 Tryz.underlying42 infoByte rfl .i64 .i64 79 (by decide) (by decide) wx
theorem zeros_new {w0 w : World} (h : Below w0.heap.size w0 w) : BlkA St.zeros w0 (.returned (.slice (some ⟨w.heap.size, 0, none⟩) 79 79)) (w.alloc (.cells (madeCells #[.int .u8 0] 79) 5)) :=
  BlkA.of (by rw [St.zeros_len]) (Nat.le_refl _) h.size (zeros_row (RowAt.made w 79)) (h.alloc h.size _)
set_option maxHeartbeats 1000000 in
theorem block_none (lab cap : Int) (A : Option Addr) (bs : List Tx) (C : Nat) (lost : Bool) (n : Int) (w : World) (h : lost = true ∨ n < 0 ∨ (bs.length : Int) ≤ n) :
    Calls Tryz.prog 76 #[.agg #[.int .i64 lab, .int .i64 cap, .slice A bs.length C, .bool lost], .int .i64 n] w (BlkA St.zeros w) := by
  obtain ⟨wa, hwa⟩ : ∃ wa, wa = w.alloc (tapeObj lab cap A bs.length C lost) := ⟨_, rfl⟩
  obtain ⟨hB, hT⟩ := tape_new w lab cap A bs.length C lost
  rw [← hwa] at hB hT
  have HB := Lib.hid hB
  have HW := Lib.hid hwa
  unfold tapeObj at HW
  have hmk := make79
  clear hB hT hwa
  cases lost with
  | true =>
    clear h
    by_cases h0 : n < 0
    · have q1 : decide (n < 0) = true := decide_eq_true h0
      go_enter Tryz.func76, Tryz.ntmps76
      go_wp2_with fail
      rw [← HW.out]
      refine (blocks_lost lab cap A bs.length C wa).mono ?_
      rintro e w1 ⟨rfl, hb1⟩
      have HB1 := Lib.hid (HB.out.trans (hb1.mono HB.out.size))
      clear hb1
      go_wp2
      go_ret
      exact zeros_new HB1.out
    · have q1 : decide (n < 0) = false := decide_eq_false h0
      have q2 : decide (0 ≤ n) = true := decide_eq_true (by omega)
      go_enter Tryz.func76, Tryz.ntmps76
      go_wp2_with fail
      rw [← HW.out]
      refine (blocks_lost lab cap A bs.length C wa).mono ?_
      rintro e w1 ⟨rfl, hb1⟩
      have HB1 := Lib.hid (HB.out.trans (hb1.mono HB.out.size))
      clear hb1
      go_wp2
      go_ret
      exact zeros_new HB1.out
  | false =>
    by_cases h0 : n < 0
    · have q1 : decide (n < 0) = true := decide_eq_true h0
      clear h
      go_enter Tryz.func76, Tryz.ntmps76
      go_wp2_with fail
      rw [← HW.out]
      refine (blocks_live lab cap A bs.length C wa).mono ?_
      rintro e w1 ⟨rfl, hb1⟩
      have HB1 := Lib.hid (HB.out.trans (hb1.mono HB.out.size))
      clear hb1
      go_wp2
      go_ret
      exact zeros_new HB1.out
    · have q1 : decide (n < 0) = false := decide_eq_false h0
      have h1 : (bs.length : Int) ≤ n := by
        rcases h with h | h | h
        · cases h
        · exact absurd h h0
        · exact h
      have q2 : decide ((bs.length : Int) ≤ n) = true := decide_eq_true h1
      clear h
      go_enter Tryz.func76, Tryz.ntmps76
      go_wp2_with fail
      rw [← HW.out]
      refine (blocks_live lab cap A bs.length C wa).mono ?_
      rintro e w1 ⟨rfl, hb1⟩
      have HB1 := Lib.hid (HB.out.trans (hb1.mono HB.out.size))
      clear hb1
      go_wp2
      go_ret
      exact zeros_new HB1.out
set_option maxHeartbeats 1000000 in
theorem block_some (lab cap : Int) (A : Option Addr) (bs : List Tx) (C : Nat) (G : Nat → Prop) (n : Nat) (w : World) (hn : n < bs.length) (hr : RdB w A bs G) :
    Calls Tryz.prog 76 #[.agg #[.int .i64 lab, .int .i64 cap, .slice A bs.length C, .bool false], .int .i64 (n : Int)] w (BlkA (if bs[n].length = 79 then bs[n] else []) w) := by
  obtain ⟨wa, hwa⟩ : ∃ wa, wa = w.alloc (tapeObj lab cap A bs.length C false) := ⟨_, rfl⟩
  obtain ⟨hB, hT⟩ := tape_new w lab cap A bs.length C false
  rw [← hwa] at hB hT
  have HB := Lib.hid hB
  have HW := Lib.hid hwa
  have HR := Lib.hid (hr.old hB)
  unfold tapeObj at HW
  have q1 : decide ((n : Int) < 0) = false := decide_eq_false (by omega)
  have q2 : decide ((bs.length : Int) ≤ (n : Int)) = false := decide_eq_false (by omega)
  have q3 : decide (bs.length ≤ n) = false := decide_eq_false (by omega)
  clear hB hT hwa hr
  obtain ⟨s, hs⟩ : ∃ s, s = bs[n] := ⟨_, rfl⟩
  rw [← hs]
  obtain ⟨m, hm⟩ : ∃ m, m = s.length := ⟨_, rfl⟩
  rw [← hm]
  have HS := Lib.hid hs
  have HM := Lib.hid hm
  clear hs hm
  by_cases hm79 : m = 79
  · have q4 : ((m : Int) == 79) = true := by rw [hm79]; rfl
    rw [if_pos hm79]
    have hm0 : 0 < m := by omega
    have hm1 : m ≤ 1000000 := by omega
    clear hm79
    go_enter Tryz.func76, Tryz.ntmps76
    go_wp2_with fail
    rw [← HW.out]
    refine (blocks_live lab cap A bs.length C wa).mono ?_
    rintro e w1 ⟨rfl, hb1⟩
    have HB1 := Lib.hid (HB.out.trans (hb1.mono HB.out.size))
    obtain ⟨b, off, A1, C1, rfl, -, hc1, -, -, hr1⟩ := (HR.out.old hb1).at_ hn
    have HR1 := Lib.hid hr1.rd
    rw [← HS.out] at hc1 HR1
    rw [← HM.out] at hc1 HR1
    clear hb1 hr1 HR
    go_wp2_with fail
    refine (cloneRow_any A1 m C1 (rowL s) _ w1 hm0 hm1 HR1.out).mono ?_
    rintro e w2 ⟨g, C2, rfl, hg, hC2, hr2, hb2⟩
    have HF := Lib.hid (BlkA.of (s := s) HM.out hC2 (Nat.le_trans HB1.out.size hg) hr2 (HB1.out.trans (hb2.mono HB1.out.size)))
    clear hr2 hb2
    go_wp2
    go_ret
    exact HF.out
  · have q4 : ((m : Int) == 79) = false := beq_eq_false_iff_ne.2 (by omega)
    rw [if_neg hm79]
    clear hm79
    go_enter Tryz.func76, Tryz.ntmps76
    go_wp2_with fail
    rw [← HW.out]
    refine (blocks_live lab cap A bs.length C wa).mono ?_
    rintro e w1 ⟨rfl, hb1⟩
    have HB1 := Lib.hid (HB.out.trans (hb1.mono HB.out.size))
    obtain ⟨b, off, A1, C1, rfl, -, hc1, -, -, hr1⟩ := (HR.out.old hb1).at_ hn
    have HR1 := Lib.hid hr1.rd
    rw [← HS.out] at hc1 HR1
    rw [← HM.out] at hc1 HR1
    clear hb1 hr1 HR
    go_wp2
    go_ret
    exact BlkA.nil HB1.out
theorem block_any (lab cap : Int) (A : Option Addr) (bs : List Tx) (C : Nat) (lost : Bool) (G : Nat → Prop) (n : Int) (w : World) (hr : RdB w A bs G) :
    Calls Tryz.prog 76 #[.agg #[.int .i64 lab, .int .i64 cap, .slice A bs.length C, .bool lost], .int .i64 n] w (BlkA (St.blk n ⟨lab, cap, bs, lost⟩) w) := by
  by_cases h : lost = true ∨ n < 0 ∨ (bs.length : Int) ≤ n
  · rw [St.blk_none h]
    exact block_none lab cap A bs C lost n w h
  · have h1 : lost = false := by cases lost with
      | true => exact absurd (.inl rfl) h
      | false => rfl
    subst h1
    have h2 : 0 ≤ n ∧ n < (bs.length : Int) := by
      constructor
      · exact Int.not_lt.1 fun h' => h (.inr (.inl h'))
      · exact Int.not_le.1 fun h' => h (.inr (.inr h'))
    obtain ⟨k, rfl⟩ : ∃ k : Nat, n = (k : Int) := ⟨n.toNat, by omega⟩
    have hk : k < bs.length := by omega
    have := block_some lab cap A bs C G k w hk hr
    by_cases h79 : bs[k].length = 79
    · rw [if_pos h79] at this
      rw [St.blk_some (t := ⟨lab, cap, bs, false⟩) rfl hk h79]; exact this
    · rw [if_neg h79] at this
      rw [St.blk_bad (t := ⟨lab, cap, bs, false⟩) rfl hk h79]; exact this
end Go.Proofs.YtfkoomldncfdnaaGreat
namespace Go.Proofs.YtfkoomldncfdnaaGreat
open Go.RowKit Mx
open Pt (Tx)

set_option maxHeartbeats 2000000 in
theorem len_any (A : Option Addr) (ts : List St.T) (C : Nat) (G : Nat → Prop) (w : World) (hn : ts.length ≤ maxLen) (hr : RdT w A ts G) :
    Calls Tryz.prog 43 #[.slice A ts.length C] w fun e w' => e = .returned (.int .i64 (St.len ts : Int)) ∧ Below w.heap.size w w' := by
  unfold maxLen at hn
  have HR := Lib.hid hr
  clear hr
  go_enter Tryz.func43, Tryz.ntmps43
  go_wp2
  go_loopw [8, 3] (fun vi vm wr => ∃ i m : Nat, i ≤ ts.length ∧ vi = .int .i64 (i : Int) ∧ vm = .int .i64 (m : Int) ∧ Hid (m = St.len (ts.take i)) ∧ Hid (Below w.heap.size w wr)) (fun vi _ _ => ts.length - (intOf vi).toNat)
  case atStart => exact ⟨0, 0, Nat.zero_le _, rfl, rfl, Lib.hid rfl, Lib.hid (Below.refl _ _)⟩
  case round =>
    obtain ⟨i, m, hi, rfl, rfl, HM, HB⟩ := hrel
    by_cases hlt : i < ts.length
    · obtain ⟨b, off, A', C', rfl, -, c0, c1, c2, c3, hb⟩ := (HR.out.old HB.out).at_ hlt
      obtain ⟨⟨lab, cap, bs, lost⟩, ht⟩ : ∃ t, t = ts[i] := ⟨_, rfl⟩
      have HT := Lib.hid ht
      rw [← ht] at c0 c1 c2 c3
      dsimp only at c0 c1 c2 c3
      clear ht hb
      have e0 : decide (i < ts.length) = true := decide_eq_true hlt
      have HB1 := Lib.hid (HB.out.alloc HB.out.size (tapeObj lab cap A' bs.length C' lost))
      unfold tapeObj at HB1
      cases lost with
      | true =>
        have HM1 : Hid (m = St.len (ts.take (i + 1))) := Lib.hid (by rw [St.len_take hlt, ← HM.out, ← HT.out]; simp [St.one])
        have hmx : max (m : Int) 0 = (m : Int) := by omega
        go_wp2_with fail
        refine (blocks_lost lab cap A' bs.length C' _).mono ?_
        rintro e w1 ⟨rfl, hb1⟩
        have HB2 := Lib.hid (HB1.out.trans (hb1.mono HB1.out.size))
        clear hb1 c0 c1 c2 c3
        go_wp2
        go_roundw
        case rel => exact ⟨i + 1, m, by omega, by go_num, rfl, HM1, HB2⟩
        case measure => simp [intOf]; omega
      | false =>
        obtain ⟨k, hk⟩ : ∃ k, k = bs.length := ⟨_, rfl⟩
        have HM1 : Hid (max m k = St.len (ts.take (i + 1))) := Lib.hid (by rw [St.len_take hlt, ← HM.out, ← HT.out, hk]; simp [St.one])
        rw [← hk] at c2 HB1
        clear hk
        go_wp2_with fail
        refine (blocks_live lab cap A' k C' _).mono ?_
        rintro e w1 ⟨rfl, hb1⟩
        have HB2 := Lib.hid (HB1.out.trans (hb1.mono HB1.out.size))
        clear hb1 c0 c1 c2 c3
        go_wp2
        go_roundw
        case rel => exact ⟨i + 1, max m k, by omega, by go_num, by congr 1; split <;> omega, HM1, HB2⟩
        case measure => simp [intOf]; omega
    · have e0 : decide (i < ts.length) = false := decide_eq_false hlt
      have HE : Hid (m = St.len ts) := Lib.hid (by rw [HM.out, St.len_all (by omega)])
      go_wp2
      go_ret
      exact ⟨by rw [HE.out]; rfl, HB.out⟩
end Go.Proofs.YtfkoomldncfdnaaGreat
namespace Go.Proofs.YtfkoomldncfdnaaGreat
open Go.RowKit
open Pt (Tx)

/-- a number is answered; what was there is as it was -/
def AnsI (n : Int) (w : World) (e : Ending) (w' : World) : Prop := e = .returned (.int .i64 n) ∧ Below w.heap.size w w'
def checkE (b1 b2 b3 b4 b5 b6 b7 : Bool) : Int := if (!b1 || b2 || b3) = true then 1 else if (b4 || !b5) = true then 1 else if b6 = true then 11 else if b7 = true then 6 else 0
/-- what a call has kept -/
theorem on_below {wb x y : World} (h : Below wb.heap.size wb x) (hb : Below x.heap.size x y) : Below wb.heap.size wb y := h.trans (hb.mono h.size)
set_option maxRecDepth 100000 in
set_option maxHeartbeats 8000000 in
theorem check_any (A1 : Option Addr) (data : List St.T) (C1 : Nat) (A2 : Option Addr) (blank : List St.T) (C2 : Nat) (G : Nat → Prop) (x : Sx) (w : World) (hn1 : data.length ≤ 1000) (hn2 : blank.length ≤ 1000) (hl : ∀ t ∈ data, t.blocks.length ≤ 1000000 ∧ ∀ s ∈ t.blocks, s.length ≤ 1000000)
    (hr1 : RdT w A1 data G) (hr2 : RdT w A2 blank G) (hx : x.Ok w (fun _ => True)) :
    Calls Tryz.prog 19 #[.slice A1 data.length C1, .slice A2 blank.length C2, .agg #[.int .i64 x.s.number, .int .i64 x.s.index, .int .i64 x.s.data, .int .i64 x.s.parity, .slice x.A x.s.labels.length x.C]] w
      (AnsI (checkE (decide (Rc.SOk x.s)) (data.any lostB) (blank.any lostB) (decide (St.len data = 0)) (data.all goodB) (blank.any hasB) (blank.any (smallB (St.len data)))) w) := by
  obtain ⟨⟨sn, si, sd, sp, sl⟩, sA, sC⟩ := x
  dsimp only
  obtain ⟨m, hm⟩ : ∃ m, m = sl.length := ⟨_, rfl⟩
  obtain ⟨n1, hn1'⟩ : ∃ n, n = data.length := ⟨_, rfl⟩
  obtain ⟨n2, hn2'⟩ : ∃ n, n = blank.length := ⟨_, rfl⟩
  rw [← hm, ← hn1', ← hn2']
  obtain ⟨wa, hwa⟩ : ∃ wa, wa = w.alloc (sealObj sn si sd sp sA m sC) := ⟨_, rfl⟩
  have hba : Below w.heap.size w wa := by rw [hwa]; exact (Below.refl _ _).alloc (Nat.le_refl _) _
  have hSa : wa.heap[w.heap.size]? = some (sealObj sn si sd sp sA m sC) := by rw [hwa]; exact Go.Deep.blk_alloc_new _ _
  have hlenle : St.len data ≤ 1000000 := St.len_le fun t ht => (hl t ht).1
  have hLEN := len_any A1 data C1 G wa (by unfold maxLen; omega) (hr1.old hba)
  rw [← hn1'] at hLEN
  obtain ⟨N, hN⟩ : ∃ N, N = St.len data := ⟨_, rfl⟩
  rw [← hN] at hLEN hlenle
  have HLEN := Lib.hid hLEN
  have HBA := Lib.hid hba
  have HSA := Lib.hid hSa
  have HWA := Lib.hid hwa
  unfold sealObj at HWA
  have H1 : Hid (∀ y, Below wa.heap.size wa y → Calls Tryz.prog 44 #[.agg #[.int .i64 sn, .int .i64 si, .int .i64 sd, .int .i64 sp, .slice sA m sC]] y (AnsB (decide (Rc.SOk ⟨sn, si, sd, sp, sl⟩)) y)) := Lib.hid fun y hy =>
    rightSeal_any sn si sd sp sA sl m sC (fun _ => True) y hm (by rw [hm]; exact hx.le) hx.max ((hx.rd.old hba).old hy)
  have H2 : Hid (∀ y, Below wa.heap.size wa y → Calls Tryz.prog 45 #[.slice A1 n1 C1, .func (.func 46) #[] #[]] y (AnsB (data.any lostB) y)) := Lib.hid fun y hy => by
    have h := lost_contains A1 data C1 G y (by omega) ((hr1.old hba).old hy)
    rwa [← hn1'] at h
  have H3 : Hid (∀ y, Below wa.heap.size wa y → Calls Tryz.prog 45 #[.slice A2 n2 C2, .func (.func 46) #[] #[]] y (AnsB (blank.any lostB) y)) := Lib.hid fun y hy => by
    have h := lost_contains A2 blank C2 G y (by omega) ((hr2.old hba).old hy)
    rwa [← hn2'] at h
  have H5 : Hid (∀ y, Below wa.heap.size wa y → Calls Tryz.prog 47 #[.slice A1 n1 C1] y (AnsB (data.all goodB) y)) := Lib.hid fun y hy => by
    have h := allGood_any A1 data C1 G y (by omega) hl ((hr1.old hba).old hy)
    rwa [← hn1'] at h
  have H6 : Hid (∀ y, Below wa.heap.size wa y → Calls Tryz.prog 45 #[.slice A2 n2 C2, .func (.func 48) #[] #[]] y (AnsB (blank.any hasB) y)) := Lib.hid fun y hy => by
    have h := has_contains A2 blank C2 G y (by omega) ((hr2.old hba).old hy)
    rwa [← hn2'] at h
  have H7 : Hid (∀ y gb, Below wa.heap.size wa y → y.cell? ⟨gb, 0, none⟩ = some (.int .i64 (N : Int)) → Calls Tryz.prog 45 #[.slice A2 n2 C2, .func (.func 49) #[] #[.pointer (some ⟨gb, 0, none⟩)]] y (AnsB (blank.any (smallB N)) y)) := Lib.hid fun y gb hy hg => by
    have h := small_contains gb N hlenle A2 blank C2 G y (by omega) ((hr2.old hba).old hy) hg
    rwa [← hn2'] at h
  obtain ⟨b1, hb1⟩ : ∃ b, b = decide (Rc.SOk ⟨sn, si, sd, sp, sl⟩) := ⟨_, rfl⟩
  obtain ⟨b2, hb2⟩ : ∃ b, b = data.any lostB := ⟨_, rfl⟩
  obtain ⟨b3, hb3⟩ : ∃ b, b = blank.any lostB := ⟨_, rfl⟩
  obtain ⟨b4, hb4⟩ : ∃ b, b = decide (N = 0) := ⟨_, rfl⟩
  obtain ⟨b5, hb5⟩ : ∃ b, b = data.all goodB := ⟨_, rfl⟩
  obtain ⟨b6, hb6⟩ : ∃ b, b = blank.any hasB := ⟨_, rfl⟩
  obtain ⟨b7, hb7⟩ : ∃ b, b = blank.any (smallB N) := ⟨_, rfl⟩
  rw [← hb1] at H1
  rw [← hb2] at H2
  rw [← hb3] at H3
  rw [← hb5] at H5
  rw [← hb6] at H6
  rw [← hb7] at H7
  rw [← hN, ← hb1, ← hb2, ← hb3, ← hb4, ← hb5, ← hb6, ← hb7]
  have h4 : (((N : Nat) : Int) == 0) = b4 := by
    rw [hb4, Bool.eq_iff_iff, beq_iff_eq, decide_eq_true_eq]; omega
  have HCASE : (b1 = false ∧ checkE b1 b2 b3 b4 b5 b6 b7 = 1) ∨ (b1 = true ∧ b2 = true ∧ checkE b1 b2 b3 b4 b5 b6 b7 = 1) ∨ (b1 = true ∧ b2 = false ∧ b3 = true ∧ checkE b1 b2 b3 b4 b5 b6 b7 = 1) ∨ (b1 = true ∧ b2 = false ∧ b3 = false ∧ b4 = true ∧ checkE b1 b2 b3 b4 b5 b6 b7 = 1)
      ∨ (b1 = true ∧ b2 = false ∧ b3 = false ∧ b4 = false ∧ b5 = false ∧ checkE b1 b2 b3 b4 b5 b6 b7 = 1) ∨ (b1 = true ∧ b2 = false ∧ b3 = false ∧ b4 = false ∧ b5 = true ∧ b6 = true ∧ checkE b1 b2 b3 b4 b5 b6 b7 = 11)
      ∨ (b1 = true ∧ b2 = false ∧ b3 = false ∧ b4 = false ∧ b5 = true ∧ b6 = false ∧ b7 = true ∧ checkE b1 b2 b3 b4 b5 b6 b7 = 6) ∨ (b1 = true ∧ b2 = false ∧ b3 = false ∧ b4 = false ∧ b5 = true ∧ b6 = false ∧ b7 = false ∧ checkE b1 b2 b3 b4 b5 b6 b7 = 0) := by
    cases b1 <;> cases b2 <;> cases b3 <;> cases b4 <;> cases b5 <;> cases b6 <;> cases b7 <;> simp [checkE]
  clear hr1 hr2 hx hl hwa hba hSa hLEN hb1 hb2 hb3 hb4 hb5 hb6 hb7 hN hm hn1' hn2' hn1 hn2
  rcases HCASE with ⟨rfl, HE⟩ | ⟨rfl, rfl, HE⟩ | ⟨rfl, rfl, rfl, HE⟩ | ⟨rfl, rfl, rfl, h4', HE⟩ | ⟨rfl, rfl, rfl, h4', rfl, HE⟩ | ⟨rfl, rfl, rfl, h4', rfl, rfl, HE⟩ | ⟨rfl, rfl, rfl, h4', rfl, rfl, rfl, HE⟩ | ⟨rfl, rfl, rfl, h4', rfl, rfl, rfl, HE⟩
  · have HEE := Lib.hid HE
    clear HE
    go_enter Tryz.func19, Tryz.ntmps19
    go_wp2_with fail
    rw [← HWA.out]
    refine HLEN.out.mono ?_
    rintro e w1 ⟨rfl, hb1⟩
    obtain ⟨wb, hwb⟩ : ∃ wb, wb = w1.alloc (.cells #[.int .i64 (N : Int)] 3) := ⟨_, rfl⟩
    have hby : Below wa.heap.size wa wb := by rw [hwb]; exact hb1.alloc hb1.size _
    have g0 : wb.cell? ⟨w1.heap.size, 0, none⟩ = some (.int .i64 (N : Int)) := by rw [hwb]; exact heap_cell (Go.Deep.blk_alloc_new _ _)
    obtain ⟨x0, x1, x2, x3, x4⟩ := seal5 (below_obj hby HSA.out)
    have HWB := Lib.hid hwb
    rw [HWB.out] at x0 x1 x2 x3 x4
    obtain ⟨gb, hgb⟩ : ∃ gb, gb = w1.heap.size := ⟨_, rfl⟩
    clear hb1 hwb
    rw [← hgb] at g0
    have HGB := Lib.hid hgb
    clear hgb
    go_wp2_with fail
    rw [← HWB.out, ← HGB.out]
    clear x0 x1 x2 x3 x4
    refine (H1.out _ hby).mono ?_
    rintro e y1 ⟨rfl, hb⟩
    have hb' := on_below hby hb
    have g1 := (hb.cell (World.block_lt_of_cell? _ _ g0)).trans g0
    clear hby hb g0
    have hby := hb'
    have g0 := g1
    clear hb' g1
    go_wp2
    go_ret
    exact ⟨by rw [HEE.out]; rfl, HBA.out.trans (hby.mono HBA.out.size)⟩
  · have HEE := Lib.hid HE
    clear HE
    go_enter Tryz.func19, Tryz.ntmps19
    go_wp2_with fail
    rw [← HWA.out]
    refine HLEN.out.mono ?_
    rintro e w1 ⟨rfl, hb1⟩
    obtain ⟨wb, hwb⟩ : ∃ wb, wb = w1.alloc (.cells #[.int .i64 (N : Int)] 3) := ⟨_, rfl⟩
    have hby : Below wa.heap.size wa wb := by rw [hwb]; exact hb1.alloc hb1.size _
    have g0 : wb.cell? ⟨w1.heap.size, 0, none⟩ = some (.int .i64 (N : Int)) := by rw [hwb]; exact heap_cell (Go.Deep.blk_alloc_new _ _)
    obtain ⟨x0, x1, x2, x3, x4⟩ := seal5 (below_obj hby HSA.out)
    have HWB := Lib.hid hwb
    rw [HWB.out] at x0 x1 x2 x3 x4
    obtain ⟨gb, hgb⟩ : ∃ gb, gb = w1.heap.size := ⟨_, rfl⟩
    clear hb1 hwb
    rw [← hgb] at g0
    have HGB := Lib.hid hgb
    clear hgb
    go_wp2_with fail
    rw [← HWB.out, ← HGB.out]
    clear x0 x1 x2 x3 x4
    refine (H1.out _ hby).mono ?_
    rintro e y1 ⟨rfl, hb⟩
    have hb' := on_below hby hb
    have g1 := (hb.cell (World.block_lt_of_cell? _ _ g0)).trans g0
    clear hby hb g0
    have hby := hb'
    have g0 := g1
    clear hb' g1
    go_wp2_with fail
    refine (H2.out _ hby).mono ?_
    rintro e y ⟨rfl, hb⟩
    have hb' := on_below hby hb
    have g1 := (hb.cell (World.block_lt_of_cell? _ _ g0)).trans g0
    clear hby hb g0
    have hby := hb'
    have g0 := g1
    clear hb' g1
    go_wp2
    go_ret
    exact ⟨by rw [HEE.out]; rfl, HBA.out.trans (hby.mono HBA.out.size)⟩
  · have HEE := Lib.hid HE
    clear HE
    go_enter Tryz.func19, Tryz.ntmps19
    go_wp2_with fail
    rw [← HWA.out]
    refine HLEN.out.mono ?_
    rintro e w1 ⟨rfl, hb1⟩
    obtain ⟨wb, hwb⟩ : ∃ wb, wb = w1.alloc (.cells #[.int .i64 (N : Int)] 3) := ⟨_, rfl⟩
    have hby : Below wa.heap.size wa wb := by rw [hwb]; exact hb1.alloc hb1.size _
    have g0 : wb.cell? ⟨w1.heap.size, 0, none⟩ = some (.int .i64 (N : Int)) := by rw [hwb]; exact heap_cell (Go.Deep.blk_alloc_new _ _)
    obtain ⟨x0, x1, x2, x3, x4⟩ := seal5 (below_obj hby HSA.out)
    have HWB := Lib.hid hwb
    rw [HWB.out] at x0 x1 x2 x3 x4
    obtain ⟨gb, hgb⟩ : ∃ gb, gb = w1.heap.size := ⟨_, rfl⟩
    clear hb1 hwb
    rw [← hgb] at g0
    have HGB := Lib.hid hgb
    clear hgb
    go_wp2_with fail
    rw [← HWB.out, ← HGB.out]
    clear x0 x1 x2 x3 x4
    refine (H1.out _ hby).mono ?_
    rintro e y1 ⟨rfl, hb⟩
    have hb' := on_below hby hb
    have g1 := (hb.cell (World.block_lt_of_cell? _ _ g0)).trans g0
    clear hby hb g0
    have hby := hb'
    have g0 := g1
    clear hb' g1
    go_wp2_with fail
    refine (H2.out _ hby).mono ?_
    rintro e y ⟨rfl, hb⟩
    have hb' := on_below hby hb
    have g1 := (hb.cell (World.block_lt_of_cell? _ _ g0)).trans g0
    clear hby hb g0
    have hby := hb'
    have g0 := g1
    clear hb' g1
    go_wp2_with fail
    refine (H3.out _ hby).mono ?_
    rintro e y ⟨rfl, hb⟩
    have hb' := on_below hby hb
    have g1 := (hb.cell (World.block_lt_of_cell? _ _ g0)).trans g0
    clear hby hb g0
    have hby := hb'
    have g0 := g1
    clear hb' g1
    go_wp2
    go_ret
    exact ⟨by rw [HEE.out]; rfl, HBA.out.trans (hby.mono HBA.out.size)⟩
  · rw [h4'] at h4
    have HEE := Lib.hid HE
    clear HE
    go_enter Tryz.func19, Tryz.ntmps19
    go_wp2_with fail
    rw [← HWA.out]
    refine HLEN.out.mono ?_
    rintro e w1 ⟨rfl, hb1⟩
    obtain ⟨wb, hwb⟩ : ∃ wb, wb = w1.alloc (.cells #[.int .i64 (N : Int)] 3) := ⟨_, rfl⟩
    have hby : Below wa.heap.size wa wb := by rw [hwb]; exact hb1.alloc hb1.size _
    have g0 : wb.cell? ⟨w1.heap.size, 0, none⟩ = some (.int .i64 (N : Int)) := by rw [hwb]; exact heap_cell (Go.Deep.blk_alloc_new _ _)
    obtain ⟨x0, x1, x2, x3, x4⟩ := seal5 (below_obj hby HSA.out)
    have HWB := Lib.hid hwb
    rw [HWB.out] at x0 x1 x2 x3 x4
    obtain ⟨gb, hgb⟩ : ∃ gb, gb = w1.heap.size := ⟨_, rfl⟩
    clear hb1 hwb
    rw [← hgb] at g0
    have HGB := Lib.hid hgb
    clear hgb
    go_wp2_with fail
    rw [← HWB.out, ← HGB.out]
    clear x0 x1 x2 x3 x4
    refine (H1.out _ hby).mono ?_
    rintro e y1 ⟨rfl, hb⟩
    have hb' := on_below hby hb
    have g1 := (hb.cell (World.block_lt_of_cell? _ _ g0)).trans g0
    clear hby hb g0
    have hby := hb'
    have g0 := g1
    clear hb' g1
    go_wp2_with fail
    refine (H2.out _ hby).mono ?_
    rintro e y ⟨rfl, hb⟩
    have hb' := on_below hby hb
    have g1 := (hb.cell (World.block_lt_of_cell? _ _ g0)).trans g0
    clear hby hb g0
    have hby := hb'
    have g0 := g1
    clear hb' g1
    go_wp2_with fail
    refine (H3.out _ hby).mono ?_
    rintro e y ⟨rfl, hb⟩
    have hb' := on_below hby hb
    have g1 := (hb.cell (World.block_lt_of_cell? _ _ g0)).trans g0
    clear hby hb g0
    have hby := hb'
    have g0 := g1
    clear hb' g1
    go_wp2
    go_ret
    exact ⟨by rw [HEE.out]; rfl, HBA.out.trans (hby.mono HBA.out.size)⟩
  · rw [h4'] at h4
    have HEE := Lib.hid HE
    clear HE
    go_enter Tryz.func19, Tryz.ntmps19
    go_wp2_with fail
    rw [← HWA.out]
    refine HLEN.out.mono ?_
    rintro e w1 ⟨rfl, hb1⟩
    obtain ⟨wb, hwb⟩ : ∃ wb, wb = w1.alloc (.cells #[.int .i64 (N : Int)] 3) := ⟨_, rfl⟩
    have hby : Below wa.heap.size wa wb := by rw [hwb]; exact hb1.alloc hb1.size _
    have g0 : wb.cell? ⟨w1.heap.size, 0, none⟩ = some (.int .i64 (N : Int)) := by rw [hwb]; exact heap_cell (Go.Deep.blk_alloc_new _ _)
    obtain ⟨x0, x1, x2, x3, x4⟩ := seal5 (below_obj hby HSA.out)
    have HWB := Lib.hid hwb
    rw [HWB.out] at x0 x1 x2 x3 x4
    obtain ⟨gb, hgb⟩ : ∃ gb, gb = w1.heap.size := ⟨_, rfl⟩
    clear hb1 hwb
    rw [← hgb] at g0
    have HGB := Lib.hid hgb
    clear hgb
    go_wp2_with fail
    rw [← HWB.out, ← HGB.out]
    clear x0 x1 x2 x3 x4
    refine (H1.out _ hby).mono ?_
    rintro e y1 ⟨rfl, hb⟩
    have hb' := on_below hby hb
    have g1 := (hb.cell (World.block_lt_of_cell? _ _ g0)).trans g0
    clear hby hb g0
    have hby := hb'
    have g0 := g1
    clear hb' g1
    go_wp2_with fail
    refine (H2.out _ hby).mono ?_
    rintro e y ⟨rfl, hb⟩
    have hb' := on_below hby hb
    have g1 := (hb.cell (World.block_lt_of_cell? _ _ g0)).trans g0
    clear hby hb g0
    have hby := hb'
    have g0 := g1
    clear hb' g1
    go_wp2_with fail
    refine (H3.out _ hby).mono ?_
    rintro e y ⟨rfl, hb⟩
    have hb' := on_below hby hb
    have g1 := (hb.cell (World.block_lt_of_cell? _ _ g0)).trans g0
    clear hby hb g0
    have hby := hb'
    have g0 := g1
    clear hb' g1
    go_wp2_with fail
    refine (H5.out _ hby).mono ?_
    rintro e y ⟨rfl, hb⟩
    have hb' := on_below hby hb
    have g1 := (hb.cell (World.block_lt_of_cell? _ _ g0)).trans g0
    clear hby hb g0
    have hby := hb'
    have g0 := g1
    clear hb' g1
    go_wp2
    go_ret
    exact ⟨by rw [HEE.out]; rfl, HBA.out.trans (hby.mono HBA.out.size)⟩
  · rw [h4'] at h4
    have HEE := Lib.hid HE
    clear HE
    go_enter Tryz.func19, Tryz.ntmps19
    go_wp2_with fail
    rw [← HWA.out]
    refine HLEN.out.mono ?_
    rintro e w1 ⟨rfl, hb1⟩
    obtain ⟨wb, hwb⟩ : ∃ wb, wb = w1.alloc (.cells #[.int .i64 (N : Int)] 3) := ⟨_, rfl⟩
    have hby : Below wa.heap.size wa wb := by rw [hwb]; exact hb1.alloc hb1.size _
    have g0 : wb.cell? ⟨w1.heap.size, 0, none⟩ = some (.int .i64 (N : Int)) := by rw [hwb]; exact heap_cell (Go.Deep.blk_alloc_new _ _)
    obtain ⟨x0, x1, x2, x3, x4⟩ := seal5 (below_obj hby HSA.out)
    have HWB := Lib.hid hwb
    rw [HWB.out] at x0 x1 x2 x3 x4
    obtain ⟨gb, hgb⟩ : ∃ gb, gb = w1.heap.size := ⟨_, rfl⟩
    clear hb1 hwb
    rw [← hgb] at g0
    have HGB := Lib.hid hgb
    clear hgb
    go_wp2_with fail
    rw [← HWB.out, ← HGB.out]
    clear x0 x1 x2 x3 x4
    refine (H1.out _ hby).mono ?_
    rintro e y1 ⟨rfl, hb⟩
    have hb' := on_below hby hb
    have g1 := (hb.cell (World.block_lt_of_cell? _ _ g0)).trans g0
    clear hby hb g0
    have hby := hb'
    have g0 := g1
    clear hb' g1
    go_wp2_with fail
    refine (H2.out _ hby).mono ?_
    rintro e y ⟨rfl, hb⟩
    have hb' := on_below hby hb
    have g1 := (hb.cell (World.block_lt_of_cell? _ _ g0)).trans g0
    clear hby hb g0
    have hby := hb'
    have g0 := g1
    clear hb' g1
    go_wp2_with fail
    refine (H3.out _ hby).mono ?_
    rintro e y ⟨rfl, hb⟩
    have hb' := on_below hby hb
    have g1 := (hb.cell (World.block_lt_of_cell? _ _ g0)).trans g0
    clear hby hb g0
    have hby := hb'
    have g0 := g1
    clear hb' g1
    go_wp2_with fail
    refine (H5.out _ hby).mono ?_
    rintro e y ⟨rfl, hb⟩
    have hb' := on_below hby hb
    have g1 := (hb.cell (World.block_lt_of_cell? _ _ g0)).trans g0
    clear hby hb g0
    have hby := hb'
    have g0 := g1
    clear hb' g1
    go_wp2_with fail
    refine (H6.out _ hby).mono ?_
    rintro e y ⟨rfl, hb⟩
    have hb' := on_below hby hb
    have g1 := (hb.cell (World.block_lt_of_cell? _ _ g0)).trans g0
    clear hby hb g0
    have hby := hb'
    have g0 := g1
    clear hb' g1
    go_wp2
    go_ret
    exact ⟨by rw [HEE.out]; rfl, HBA.out.trans (hby.mono HBA.out.size)⟩
  · rw [h4'] at h4
    have HEE := Lib.hid HE
    clear HE
    go_enter Tryz.func19, Tryz.ntmps19
    go_wp2_with fail
    rw [← HWA.out]
    refine HLEN.out.mono ?_
    rintro e w1 ⟨rfl, hb1⟩
    obtain ⟨wb, hwb⟩ : ∃ wb, wb = w1.alloc (.cells #[.int .i64 (N : Int)] 3) := ⟨_, rfl⟩
    have hby : Below wa.heap.size wa wb := by rw [hwb]; exact hb1.alloc hb1.size _
    have g0 : wb.cell? ⟨w1.heap.size, 0, none⟩ = some (.int .i64 (N : Int)) := by rw [hwb]; exact heap_cell (Go.Deep.blk_alloc_new _ _)
    obtain ⟨x0, x1, x2, x3, x4⟩ := seal5 (below_obj hby HSA.out)
    have HWB := Lib.hid hwb
    rw [HWB.out] at x0 x1 x2 x3 x4
    obtain ⟨gb, hgb⟩ : ∃ gb, gb = w1.heap.size := ⟨_, rfl⟩
    clear hb1 hwb
    rw [← hgb] at g0
    have HGB := Lib.hid hgb
    clear hgb
    go_wp2_with fail
    rw [← HWB.out, ← HGB.out]
    clear x0 x1 x2 x3 x4
    refine (H1.out _ hby).mono ?_
    rintro e y1 ⟨rfl, hb⟩
    have hb' := on_below hby hb
    have g1 := (hb.cell (World.block_lt_of_cell? _ _ g0)).trans g0
    clear hby hb g0
    have hby := hb'
    have g0 := g1
    clear hb' g1
    go_wp2_with fail
    refine (H2.out _ hby).mono ?_
    rintro e y ⟨rfl, hb⟩
    have hb' := on_below hby hb
    have g1 := (hb.cell (World.block_lt_of_cell? _ _ g0)).trans g0
    clear hby hb g0
    have hby := hb'
    have g0 := g1
    clear hb' g1
    go_wp2_with fail
    refine (H3.out _ hby).mono ?_
    rintro e y ⟨rfl, hb⟩
    have hb' := on_below hby hb
    have g1 := (hb.cell (World.block_lt_of_cell? _ _ g0)).trans g0
    clear hby hb g0
    have hby := hb'
    have g0 := g1
    clear hb' g1
    go_wp2_with fail
    refine (H5.out _ hby).mono ?_
    rintro e y ⟨rfl, hb⟩
    have hb' := on_below hby hb
    have g1 := (hb.cell (World.block_lt_of_cell? _ _ g0)).trans g0
    clear hby hb g0
    have hby := hb'
    have g0 := g1
    clear hb' g1
    go_wp2_with fail
    refine (H6.out _ hby).mono ?_
    rintro e y ⟨rfl, hb⟩
    have hb' := on_below hby hb
    have g1 := (hb.cell (World.block_lt_of_cell? _ _ g0)).trans g0
    clear hby hb g0
    have hby := hb'
    have g0 := g1
    clear hb' g1
    go_wp2_with fail
    refine (H7.out _ gb hby g0).mono ?_
    rintro e y ⟨rfl, hb⟩
    have hb' := on_below hby hb
    have g1 := (hb.cell (World.block_lt_of_cell? _ _ g0)).trans g0
    clear hby hb g0
    have hby := hb'
    have g0 := g1
    clear hb' g1
    go_wp2
    go_ret
    exact ⟨by rw [HEE.out]; rfl, HBA.out.trans (hby.mono HBA.out.size)⟩
  · rw [h4'] at h4
    have HEE := Lib.hid HE
    clear HE
    go_enter Tryz.func19, Tryz.ntmps19
    go_wp2_with fail
    rw [← HWA.out]
    refine HLEN.out.mono ?_
    rintro e w1 ⟨rfl, hb1⟩
    obtain ⟨wb, hwb⟩ : ∃ wb, wb = w1.alloc (.cells #[.int .i64 (N : Int)] 3) := ⟨_, rfl⟩
    have hby : Below wa.heap.size wa wb := by rw [hwb]; exact hb1.alloc hb1.size _
    have g0 : wb.cell? ⟨w1.heap.size, 0, none⟩ = some (.int .i64 (N : Int)) := by rw [hwb]; exact heap_cell (Go.Deep.blk_alloc_new _ _)
    obtain ⟨x0, x1, x2, x3, x4⟩ := seal5 (below_obj hby HSA.out)
    have HWB := Lib.hid hwb
    rw [HWB.out] at x0 x1 x2 x3 x4
    obtain ⟨gb, hgb⟩ : ∃ gb, gb = w1.heap.size := ⟨_, rfl⟩
    clear hb1 hwb
    rw [← hgb] at g0
    have HGB := Lib.hid hgb
    clear hgb
    go_wp2_with fail
    rw [← HWB.out, ← HGB.out]
    clear x0 x1 x2 x3 x4
    refine (H1.out _ hby).mono ?_
    rintro e y1 ⟨rfl, hb⟩
    have hb' := on_below hby hb
    have g1 := (hb.cell (World.block_lt_of_cell? _ _ g0)).trans g0
    clear hby hb g0
    have hby := hb'
    have g0 := g1
    clear hb' g1
    go_wp2_with fail
    refine (H2.out _ hby).mono ?_
    rintro e y ⟨rfl, hb⟩
    have hb' := on_below hby hb
    have g1 := (hb.cell (World.block_lt_of_cell? _ _ g0)).trans g0
    clear hby hb g0
    have hby := hb'
    have g0 := g1
    clear hb' g1
    go_wp2_with fail
    refine (H3.out _ hby).mono ?_
    rintro e y ⟨rfl, hb⟩
    have hb' := on_below hby hb
    have g1 := (hb.cell (World.block_lt_of_cell? _ _ g0)).trans g0
    clear hby hb g0
    have hby := hb'
    have g0 := g1
    clear hb' g1
    go_wp2_with fail
    refine (H5.out _ hby).mono ?_
    rintro e y ⟨rfl, hb⟩
    have hb' := on_below hby hb
    have g1 := (hb.cell (World.block_lt_of_cell? _ _ g0)).trans g0
    clear hby hb g0
    have hby := hb'
    have g0 := g1
    clear hb' g1
    go_wp2_with fail
    refine (H6.out _ hby).mono ?_
    rintro e y ⟨rfl, hb⟩
    have hb' := on_below hby hb
    have g1 := (hb.cell (World.block_lt_of_cell? _ _ g0)).trans g0
    clear hby hb g0
    have hby := hb'
    have g0 := g1
    clear hb' g1
    go_wp2_with fail
    refine (H7.out _ gb hby g0).mono ?_
    rintro e y ⟨rfl, hb⟩
    have hb' := on_below hby hb
    have g1 := (hb.cell (World.block_lt_of_cell? _ _ g0)).trans g0
    clear hby hb g0
    have hby := hb'
    have g0 := g1
    clear hb' g1
    go_wp2
    go_ret
    exact ⟨by rw [HEE.out]; rfl, HBA.out.trans (hby.mono HBA.out.size)⟩
end Go.Proofs.YtfkoomldncfdnaaGreat
namespace Go.Proofs.YtfkoomldncfdnaaGreat
open Go.RowKit Go.ChangeShapes Go.WideShapes

/-- the slice at A of n numbers reads as z -/
def RdI (w : World) (A : Option Addr) (n : Nat) (z : Nat → Int) : Prop :=
  0 < n → ∃ b off, A = some ⟨b, off, none⟩ ∧ ∀ j, j < n → w.cell? ⟨b, off + j, none⟩ = some (.int .i64 (z j))
theorem RdI.old {w w' : World} {A : Option Addr} {n : Nat} {z : Nat → Int} (h : RdI w A n z) (hb : Below w.heap.size w w') : RdI w' A n z := by
  intro hn
  obtain ⟨b, off, e, hc⟩ := h hn
  exact ⟨b, off, e, fun j hj => (hb.cell (World.block_lt_of_cell? _ _ (hc j hj))).trans (hc j hj)⟩
theorem RdI.at {w : World} {A : Option Addr} {n : Nat} {z : Nat → Int} (h : RdI w A n z) {j : Nat} (hj : j < n) : ∃ b off, A = some ⟨b, off, none⟩ ∧ w.cell? ⟨b, off + j, none⟩ = some (.int .i64 (z j)) := by
  obtain ⟨b, off, e, hc⟩ := h (by omega)
  exact ⟨b, off, e, hc j hj⟩
theorem open_rdI {H : Type} {enc : TypeId × Value → H} {w : World} {base fuel : Nat} {held : Bool} {a : Option Addr} {len cap : Nat} {x : DataW H × List MemPlace}
    (h : DataW.trod enc Tryz.prog w base (fun _ => true) held fuel 36 (Value.slice a len cap).cells.toList = some x) : len ≤ maxLen ∧ ∃ z, RdI w a len z := by
  rcases open_ints Tryz.underlying36 Tryz.underlying3 (by kernel_rfl) h with ⟨hcs, _⟩ | ⟨y, l, c, zs, hcs, _, hl, hm, hz, _, hcell, hwz⟩
  · simp [Value.cells] at hcs
    obtain ⟨rfl, rfl, rfl⟩ := hcs
    exact ⟨by decide, fun _ => 0, fun h => absurd h (by omega)⟩
  · simp [Value.cells] at hcs
    obtain ⟨rfl, rfl, rfl⟩ := hcs
    have hz' : zs.length = cap := by simpa using hz
    refine ⟨by omega, fun j => zs.getD j 0, fun h0 => ?_⟩
    obtain ⟨b, off, spot⟩ := y
    have hs : spot = none := by simpa [Addr.add] using World.cell?_spot (hcell 0 (by omega))
    subst hs
    refine ⟨b, off, rfl, fun j hj => ?_⟩
    have := hcell j (by omega)
    by_cases e : j = 0
    · subst e; simpa [Addr.add] using this
    · simpa [Addr.add, e] using this

theorem and_1023 (x : Int) : ∃ y : Nat, bits BinOp.and IntKind.i64 x 1023 = (y : Int) ∧ y ≤ 1023 := by
  have hx : (BitVec.ofInt 64 x &&& BitVec.ofInt 64 1023).toNat ≤ 1023 := by
    rw [BitVec.toNat_and]; exact Nat.and_le_right
  refine ⟨(BitVec.ofInt 64 x &&& BitVec.ofInt 64 1023).toNat, ?_, hx⟩
  show IntKind.i64.wrap ((BitVec.ofInt 64 x &&& BitVec.ofInt 64 1023).toNat : Int) = _
  rw [IntKind.wrap_i64]; omega
def low (z : Nat → Int) (j : Nat) : Nat := (bits BinOp.and IntKind.i64 (z j) 1023).toNat
theorem low_eq (z : Nat → Int) (j : Nat) : bits BinOp.and IntKind.i64 (z j) 1023 = (low z j : Int) ∧ low z j ≤ 1023 := by
  obtain ⟨y, h1, h2⟩ := and_1023 (z j)
  unfold low
  rw [h1]; simp; exact h2
end Go.Proofs.YtfkoomldncfdnaaGreat
namespace Go.Proofs.YtfkoomldncfdnaaGreat
open Go.RowKit Mx Go.ChangeShapes Go.WideShapes

/-- the element of a number that lies in a cell -/
def feOf (x : Int) : Fe := mk (x.toNat % 256) (Nat.mod_lt _ (by decide))
theorem fi_feOf {x : Int} (h : (Lit.int .u8 x).wf = true) : fi (feOf x) = x := by
  have h' := range_u8 (zs := [x]) (by simpa using h) 0
  simp at h'
  unfold fi feOf
  rw [nat_mk, Nat.mod_eq_of_lt (by omega)]; omega
theorem getD_wf {k : IntKind} {zs : List Int} (h : ∀ n ∈ zs, (Lit.int k n).wf = true) {c : Nat} (hc : c < zs.length) : (Lit.int k (zs.getD c 0)).wf = true := by
  rw [List.getD_eq_getElem?_getD, List.getElem?_eq_getElem hc]
  exact h _ (List.getElem_mem hc)
theorem rd_cells {w : World} {a : Addr} {n : Nat} {zs : List Int} (hn : n ≤ zs.length) (hw : ∀ x ∈ zs, (Lit.int .u8 x).wf = true) (hc : ∀ c, c < n → w.cell? (a.add c) = some (.int .u8 (zs.getD c 0))) :
    Rd w (some a) n (fun c => feOf (zs.getD c 0)) (fun _ => True) := by
  intro h0
  obtain ⟨b, off, spot⟩ := a
  have hs : spot = none := by simpa [Addr.add] using World.cell?_spot (hc 0 h0)
  subst hs
  refine ⟨b, off, rfl, trivial, fun j hj => ?_⟩
  have := hc j hj
  rw [fi_feOf (getD_wf hw (by omega))]
  by_cases e : j = 0
  · subst e; simpa [Addr.add] using this
  · simpa [Addr.add, e] using this
section
variable {H : Type} {enc : TypeId × Value → H} {w : World} {base fuel : Nat} {held : Bool} {a : Option Addr} {len cap : Nat} {x : DataW H × List MemPlace}
/-- a row of bytes -/
theorem open_rd (h : DataW.trod enc Tryz.prog w base (fun _ => true) held fuel 42 (Value.slice a len cap).cells.toList = some x) :
    len ≤ maxLen ∧ ∃ r, Rd w a len r (fun _ => True) := by
  rcases open_ints Tryz.underlying42 Tryz.underlying5 (by kernel_rfl) h with ⟨hcs, _⟩ | ⟨y, l, c, zs, hcs, _, hl, hm, hz, _, hcell, hwz⟩
  · simp [Value.cells] at hcs
    obtain ⟨rfl, rfl, rfl⟩ := hcs
    exact ⟨by decide, fun _ => 0, Rd.empty _ _ _ _⟩
  · simp [Value.cells] at hcs
    obtain ⟨rfl, rfl, rfl⟩ := hcs
    have hz' : zs.length = cap := by simpa using hz
    exact ⟨by omega, _, rd_cells (by omega) hwz (fun c hc => hcell c (by omega))⟩
/-- a row of bytes, which is empty if it is nil -/
theorem open_rdN (h : DataW.trod enc Tryz.prog w base (fun _ => true) held fuel 42 (Value.slice a len cap).cells.toList = some x) :
    len ≤ maxLen ∧ (a = none → len = 0 ∧ cap = 0) ∧ ∃ r, Rd w a len r (fun _ => True) := by
  rcases open_ints Tryz.underlying42 Tryz.underlying5 (by kernel_rfl) h with ⟨hcs, _⟩ | ⟨y, l, c, zs, hcs, _, hl, hm, hz, _, hcell, hwz⟩
  · simp [Value.cells] at hcs
    obtain ⟨rfl, rfl, rfl⟩ := hcs
    exact ⟨by decide, fun _ => ⟨rfl, rfl⟩, fun _ => 0, Rd.empty _ _ _ _⟩
  · simp [Value.cells] at hcs
    obtain ⟨rfl, rfl, rfl⟩ := hcs
    have hz' : zs.length = cap := by simpa using hz
    exact ⟨by omega, (fun h => by cases h), _, rd_cells (by omega) hwz (fun c hc => hcell c (by omega))⟩
end
end Go.Proofs.YtfkoomldncfdnaaGreat
namespace Go.Proofs.YtfkoomldncfdnaaGreat
open Go.RowKit Mx Go.ChangeShapes Go.WideShapes

section
variable {H : Type} {enc : TypeId × Value → H} {w : World} {base fuel : Nat} {held : Bool} {a : Option Addr} {len cap : Nat} {x : DataW H × List MemPlace}
/-- rows of bytes -/
theorem open_rdM (h : DataW.trod enc Tryz.prog w base (fun _ => true) held fuel 47 (Value.slice a len cap).cells.toList = some x) :
    len ≤ maxLen ∧ ∃ L M, RdM w a len L M (fun _ => True) := by
  rcases Go.Deep.open_int_rows Tryz.underlying47 Tryz.underlying42 Tryz.underlying5 (by kernel_rfl) (by kernel_rfl) h with ⟨hcs, _⟩ | ⟨y, l, c, A, L, C, Z, hcs, _, hl, hm, _, hrow⟩
  · simp [Value.cells] at hcs
    obtain ⟨rfl, rfl, rfl⟩ := hcs
    exact ⟨by decide, fun _ => 0, fun _ _ => 0, RdM.empty _ _ _ _ _⟩
  · simp [Value.cells] at hcs
    obtain ⟨rfl, rfl, rfl⟩ := hcs
    refine ⟨by omega, L, fun r c => feOf ((Z r).getD c 0), fun h0 => ?_⟩
    obtain ⟨b, off, spot⟩ := y
    have hs : spot = none := by simpa [Addr.add] using World.cell?_spot (hrow 0 (by omega)).1
    subst hs
    refine ⟨b, off, rfl, trivial, fun i hi => ⟨A i, C i, ?_, ?_⟩⟩
    · have := (hrow i (by omega)).1
      by_cases e : i = 0
      · subst e; simpa [Addr.add] using this
      · simpa [Addr.add, e] using this
    · obtain ⟨_, r1, r2, r3, r4, r5, r6⟩ := hrow i (by omega)
      cases hA : A i with
      | none =>
        have := r5 hA
        intro h1; omega
      | some a' => exact rd_cells (by omega) r4 (fun c hc => (r6 a' hA).2 c (by omega))
end
end Go.Proofs.YtfkoomldncfdnaaGreat

namespace Go.Proofs.YtfkoomldncfdnaaGreat.Mx

/-- the first free place from k on, going round, f places looked at -/
def nf (had : Nat → Bool) (n : Nat) : Nat → Nat → Nat
  | 0, k => k
  | f + 1, k => if had k = true then nf had n f ((k + 1) % n) else k
/-- what is taken, and the last one, behind j numbers -/
def plc (q : Nat → Nat) (n : Nat) : Nat → (Nat → Bool) × Nat
  | 0 => (fun _ => false, 0)
  | j + 1 => (fun x => if x = nf (plc q n j).1 n n (q j % n) then true else (plc q n j).1 x, nf (plc q n j).1 n n (q j % n))
def place (q : Nat → Nat) (n j : Nat) : Nat := (plc q n (j + 1)).2
def cnt (had : Nat → Bool) : Nat → Nat
  | 0 => 0
  | n + 1 => cnt had n + if had n = true then 1 else 0
theorem cnt_le (had : Nat → Bool) (n : Nat) : cnt had n ≤ n := by
  induction n with
  | zero => exact Nat.le_refl _
  | succ n ih => simp only [cnt]; split <;> omega
theorem cnt_free {had : Nat → Bool} {n : Nat} (h : cnt had n < n) : ∃ x, x < n ∧ had x = false := by
  induction n with
  | zero => omega
  | succ n ih =>
    by_cases e : had n = true
    · simp only [cnt, if_pos e] at h
      obtain ⟨x, hx, hf⟩ := ih (by omega)
      exact ⟨x, by omega, hf⟩
    · exact ⟨n, by omega, by simpa using e⟩
theorem cnt_congr {had had' : Nat → Bool} {n : Nat} (h : ∀ x, x < n → had x = had' x) : cnt had n = cnt had' n := by
  induction n with
  | zero => rfl
  | succ n ih => simp only [cnt, ih (fun x hx => h x (by omega)), h n (by omega)]
theorem cnt_set {had : Nat → Bool} {n k : Nat} (hk : k < n) (hf : had k = false) : cnt (fun x => if x = k then true else had x) n = cnt had n + 1 := by
  induction n with
  | zero => omega
  | succ n ih =>
    simp only [cnt]
    by_cases e : n = k
    · subst e
      rw [cnt_congr (had' := had) (fun x hx => if_neg (by omega))]
      simp [hf]
    · rw [ih (by omega)]
      simp only [if_neg e]
      omega
/-- a place that is free lies ahead -/
def reach (had : Nat → Bool) (n f k : Nat) : Prop := ∃ s, s < f ∧ had ((k + s) % n) = false
theorem reach_start {had : Nat → Bool} {n k : Nat} (hn : 0 < n) (hk : k < n) (h : cnt had n < n) : reach had n n k := by
  obtain ⟨x, hx, hf⟩ := cnt_free h
  refine ⟨(x + n - k) % n, Nat.mod_lt _ hn, ?_⟩
  rw [Nat.add_mod_mod, show k + (x + n - k) = x + n by omega, Nat.add_mod_right, Nat.mod_eq_of_lt hx]
  exact hf
theorem reach_pos {had : Nat → Bool} {n f k : Nat} (h : reach had n f k) : 0 < f := by
  obtain ⟨s, hs, _⟩ := h; omega
theorem reach_next {had : Nat → Bool} {n f k : Nat} (hk : k < n) (h : reach had n (f + 1) k) (ht : had k = true) : reach had n f ((k + 1) % n) := by
  obtain ⟨s, hs, hf⟩ := h
  cases s with
  | zero => rw [Nat.add_zero, Nat.mod_eq_of_lt hk, ht] at hf; cases hf
  | succ s => exact ⟨s, by omega, by rw [Nat.mod_add_mod, show k + 1 + s = k + (s + 1) by omega]; exact hf⟩
theorem nf_free {had : Nat → Bool} {n : Nat} (hn : 0 < n) : ∀ f k, k < n → reach had n f k → nf had n f k < n ∧ had (nf had n f k) = false := by
  intro f
  induction f with
  | zero => intro k _ h; have := reach_pos h; omega
  | succ f ih =>
    intro k hk h
    simp only [nf]
    by_cases e : had k = true
    · rw [if_pos e]; exact ih _ (Nat.mod_lt _ hn) (reach_next hk h e)
    · rw [if_neg e]; exact ⟨hk, by simpa using e⟩
theorem plc_cnt {q : Nat → Nat} {n : Nat} (hn : 0 < n) : ∀ j, j ≤ n → cnt (plc q n j).1 n = j := by
  intro j
  induction j with
  | zero =>
    intro _
    have : ∀ m, cnt (fun _ => false) m = 0 := by
      intro m
      induction m with
      | zero => rfl
      | succ m ih => simp [cnt, ih]
    exact this n
  | succ j ih =>
    intro hj
    have h := ih (by omega)
    have hr := nf_free hn n (q j % n) (Nat.mod_lt _ hn) (reach_start hn (Nat.mod_lt _ hn) (by omega : cnt (plc q n j).1 n < n))
    show cnt (fun x => if x = nf (plc q n j).1 n n (q j % n) then true else (plc q n j).1 x) n = j + 1
    rw [cnt_set hr.1 hr.2, h]
theorem plc_reach {q : Nat → Nat} {n j : Nat} (hj : j < n) : reach (plc q n j).1 n n (q j % n) :=
  reach_start (by omega) (Nat.mod_lt _ (by omega)) (by rw [plc_cnt (by omega) j (by omega)]; exact hj)
theorem place_lt {q : Nat → Nat} {n j : Nat} (hj : j < n) : place q n j < n ∧ (plc q n j).1 (place q n j) = false :=
  nf_free (by omega) n _ (Nat.mod_lt _ (by omega)) (plc_reach hj)
theorem plc_had {q : Nat → Nat} {n : Nat} (i : Nat) : ∀ j, i < j → (plc q n j).1 (place q n i) = true := by
  intro j
  induction j with
  | zero => intro h; omega
  | succ j ih =>
    intro h
    show (if place q n i = nf (plc q n j).1 n n (q j % n) then true else (plc q n j).1 (place q n i)) = true
    by_cases e : i = j
    · subst e; exact if_pos rfl
    · split
      · rfl
      · exact ih (by omega)
theorem place_ne {q : Nat → Nat} {n i j : Nat} (hj : j < n) (h : i < j) : place q n i ≠ place q n j := by
  intro e
  have h1 := plc_had (q := q) (n := n) i j h
  have h2 := (place_lt (q := q) hj).2
  rw [← e, h1] at h2
  cases h2
theorem place_apart {q : Nat → Nat} {n i j : Nat} (hi : i < n) (hj : j < n) (h : i ≠ j) : place q n i ≠ place q n j := by
  rcases Nat.lt_or_gt_of_ne h with h' | h'
  · exact place_ne hj h'
  · exact fun e => place_ne hi h' e.symm
end Go.Proofs.YtfkoomldncfdnaaGreat.Mx
