/- Chapter 13's tapes taken block by block: how long they are, each row of them, and which parity they have. No program. -/
import Derived.Test.YtjhbmijdpcbbiaaFeBy
import Derived.Test.YtjhbmijdpcbbiaaMxMath
namespace Go.Proofs.Ytjhbmijdpcbbiaa.St
open Pt (Tx)

/-- a tape: its label, how many blocks fit, its blocks, whether it is lost -/
structure T where
  label : Int
  cap : Int
  blocks : List Tx
  lost : Bool
def one (t : T) : Nat := if t.lost = true then 0 else t.blocks.length
/-- the most blocks that one of them has -/
def len : List T → Nat
  | [] => 0
  | t :: ts => max (one t) (len ts)
theorem len_snoc : ∀ (l : List T) (t : T), len (l ++ [t]) = max (len l) (one t)
  | [], t => by show max (one t) 0 = max 0 (one t); omega
  | a :: l, t => by rw [List.cons_append, len, len, len_snoc l t]; omega
theorem len_take {l : List T} {i : Nat} (h : i < l.length) : len (l.take (i + 1)) = max (len (l.take i)) (one l[i]) := by
  rw [List.take_succ_eq_append_getElem h, len_snoc]
theorem len_all {l : List T} {n : Nat} (h : l.length ≤ n) : len (l.take n) = len l := by rw [List.take_of_length_le h]
theorem len_le {l : List T} {m : Nat} (h : ∀ t ∈ l, t.blocks.length ≤ m) : len l ≤ m := by
  induction l with
  | nil => exact Nat.zero_le _
  | cons t ts ih =>
    rw [len]
    have h1 := ih fun t ht => h t (List.mem_cons_of_mem _ ht)
    have h2 := h t List.mem_cons_self
    unfold one
    split <;> omega
theorem one_le_len {l : List T} {t : T} (h : t ∈ l) : one t ≤ len l := by
  induction l with
  | nil => cases h
  | cons a ts ih =>
    rw [len]
    rcases List.mem_cons.1 h with rfl | h
    · omega
    · have := ih h; omega
def zeros : Tx := List.replicate 79 0
theorem zeros_len : zeros.length = 79 := List.length_replicate ..
/-- block n of a tape, as its row has it -/
def blk (n : Int) (t : T) : Tx :=
  if t.lost = true ∨ n < 0 ∨ (t.blocks.length : Int) ≤ n then zeros else if (t.blocks.getD n.toNat []).length = 79 then t.blocks.getD n.toNat [] else []
def row (l : List T) (n : Int) : List Tx := l.map (blk n)
theorem row_len (l : List T) (n : Int) : (row l n).length = l.length := by simp [row]
theorem blk_none {n : Int} {t : T} (h : t.lost = true ∨ n < 0 ∨ (t.blocks.length : Int) ≤ n) : blk n t = zeros := if_pos h
theorem blk_some {n : Nat} {t : T} (hl : t.lost = false) (hn : n < t.blocks.length) (h : t.blocks[n].length = 79) : blk (n : Int) t = t.blocks[n] := by
  unfold blk
  rw [if_neg (by rw [hl]; simp; omega), show ((n : Int)).toNat = n by omega, List.getD_eq_getElem?_getD, List.getElem?_eq_getElem hn]
  exact if_pos h
theorem blk_bad {n : Nat} {t : T} (hl : t.lost = false) (hn : n < t.blocks.length) (h : t.blocks[n].length ≠ 79) : blk (n : Int) t = [] := by
  unfold blk
  rw [if_neg (by rw [hl]; simp; omega), show ((n : Int)).toNat = n by omega, List.getD_eq_getElem?_getD, List.getElem?_eq_getElem hn]
  exact if_neg h
theorem blk_len (n : Int) (t : T) : (blk n t).length = 79 ∨ (blk n t) = [] := by
  unfold blk
  split
  · exact .inl zeros_len
  · split
    · exact .inl (by assumption)
    · exact .inr rfl
/-- a row as a matrix -/
def mat (l : List Tx) : Mx.Mat := fun i => rowL (l.getD i [])
def lens (l : List Tx) : Nat → Nat := fun i => (l.getD i []).length
theorem lens_at {l : List Tx} {i : Nat} (h : i < l.length) : lens l i = l[i].length := by
  unfold lens; rw [List.getD_eq_getElem?_getD, List.getElem?_eq_getElem h]; rfl
theorem mat_at {l : List Tx} {i : Nat} (h : i < l.length) : mat l i = rowL l[i] := by
  unfold mat; rw [List.getD_eq_getElem?_getD, List.getElem?_eq_getElem h]; rfl
/-- every row is whole -/
def Whole (l : List T) : Prop := ∀ n : Nat, n < len l → ∀ t ∈ l, blk (n : Int) t ≠ []
/-- there may be so much parity -/
def Arg (l : List T) (p : Int) : Prop := 1 ≤ l.length ∧ 0 ≤ p ∧ (l.length : Int) + p ≤ 255
def Ok (l : List T) (p : Int) : Prop := Arg l p ∧ Whole l
open Classical in
noncomputable def err (l : List T) (p : Int) : Int := if Ok l p then 0 else 1
theorem whole_len {l : List T} (h : Whole l) {n : Nat} (hn : n < len l) {t : T} (ht : t ∈ l) : (blk (n : Int) t).length = 79 := by
  rcases blk_len n t with h' | h'
  · exact h'
  · exact absurd h' (h n hn t ht)
theorem whole_lens {l : List T} {n : Nat} (h : ∀ t ∈ l, blk (n : Int) t ≠ []) {i : Nat} (hi : i < l.length) : lens (row l n) i = 79 := by
  rw [lens_at (by rw [row_len]; exact hi)]
  simp only [row, List.getElem_map]
  rcases blk_len n l[i] with h' | h'
  · exact h'
  · exact absurd h' (h _ (List.getElem_mem hi))
end Go.Proofs.Ytjhbmijdpcbbiaa.St
