/- Chapter 13's tapes taken block by block: how long they are, each row of them, and which parity they have. No program. Tapes that read: a slice of slices of bytes as a list of texts. No function of the program. Tapes in memory: a slice of tapes that reads as a list, and parity as it is made, a slice of slices of rows. No function of the program. What the walk is told of a row of numbers, and the low bits of a number. No function of the program. What the walk is told of a row of bytes that came in as an argument. What the walk is told of a row of bytes, a row of numbers and a slice of rows of bytes that came in as arguments. Numbers of a byte and of an int: bits, and the field of 256 on whole numbers (gmul, gadd, ginv, gpow). No function of the program. Plain mathematics: two matrices side by side, and the way of Gauss and Jordan on them. -/
import Derived.Test.YtcmdggdionghcaaMa
import Derived.Test.YtcmdggdionghcaaRows
import Derived.OpenShut
import Derived.Deep.Matrix
import Derived.WalkKit
import Derived.ProofKit
import Derived.Lib.Hide
import Derived.Laws.BitsLemmas
import Derived.IntWalk
namespace Go.Proofs.Ytcmdggdionghcaa.St
open Pt (Tx)

/-- a tape: its label, how many blocks fit, its blocks, whether it is lost -/
structure T where
  label : Int
  cap : Int
  blocks : List Tx
  lost : Bool
def one (t : T) : Nat := if t.lost = true then 0 else t.blocks.length
/-- the most blocks that one of them has -/
def len : List T → Nat
  | [] => 0
  | t :: ts => max (one t) (len ts)
theorem len_snoc : ∀ (l : List T) (t : T), len (l ++ [t]) = max (len l) (one t)
  | [], t => by show max (one t) 0 = max 0 (one t); omega
  | a :: l, t => by rw [List.cons_append, len, len, len_snoc l t]; omega
theorem len_take {l : List T} {i : Nat} (h : i < l.length) : len (l.take (i + 1)) = max (len (l.take i)) (one l[i]) := by
  rw [List.take_succ_eq_append_getElem h, len_snoc]
theorem len_all {l : List T} {n : Nat} (h : l.length ≤ n) : len (l.take n) = len l := by rw [List.take_of_length_le h]
theorem len_le {l : List T} {m : Nat} (h : ∀ t ∈ l, t.blocks.length ≤ m) : len l ≤ m := by
  induction l with
  | nil => exact Nat.zero_le _
  | cons t ts ih =>
    rw [len]
    have h1 := ih fun t ht => h t (List.mem_cons_of_mem _ ht)
    have h2 := h t List.mem_cons_self
    unfold one
    split <;> omega
theorem one_le_len {l : List T} {t : T} (h : t ∈ l) : one t ≤ len l := by
  induction l with
  | nil => cases h
  | cons a ts ih =>
    rw [len]
    rcases List.mem_cons.1 h with rfl | h
    · omega
    · have := ih h; omega
def zeros : Tx := List.replicate 79 0
theorem zeros_len : zeros.length = 79 := List.length_replicate ..
/-- block n of a tape, as its row has it -/
def blk (n : Int) (t : T) : Tx :=
  if t.lost = true ∨ n < 0 ∨ (t.blocks.length : Int) ≤ n then zeros else if (t.blocks.getD n.toNat []).length = 79 then t.blocks.getD n.toNat [] else []
def row (l : List T) (n : Int) : List Tx := l.map (blk n)
theorem row_len (l : List T) (n : Int) : (row l n).length = l.length := by simp [row]
theorem blk_none {n : Int} {t : T} (h : t.lost = true ∨ n < 0 ∨ (t.blocks.length : Int) ≤ n) : blk n t = zeros := if_pos h
theorem blk_some {n : Nat} {t : T} (hl : t.lost = false) (hn : n < t.blocks.length) (h : t.blocks[n].length = 79) : blk (n : Int) t = t.blocks[n] := by
  unfold blk
  rw [if_neg (by rw [hl]; simp; omega), show ((n : Int)).toNat = n by omega, List.getD_eq_getElem?_getD, List.getElem?_eq_getElem hn]
  exact if_pos h
theorem blk_bad {n : Nat} {t : T} (hl : t.lost = false) (hn : n < t.blocks.length) (h : t.blocks[n].length ≠ 79) : blk (n : Int) t = [] := by
  unfold blk
  rw [if_neg (by rw [hl]; simp; omega), show ((n : Int)).toNat = n by omega, List.getD_eq_getElem?_getD, List.getElem?_eq_getElem hn]
  exact if_neg h
theorem blk_len (n : Int) (t : T) : (blk n t).length = 79 ∨ (blk n t) = [] := by
  unfold blk
  split
  · exact .inl zeros_len
  · split
    · exact .inl (by assumption)
    · exact .inr rfl
/-- a row as a matrix -/
def mat (l : List Tx) : Mx.Mat := fun i => rowL (l.getD i [])
def lens (l : List Tx) : Nat → Nat := fun i => (l.getD i []).length
theorem lens_at {l : List Tx} {i : Nat} (h : i < l.length) : lens l i = l[i].length := by
  unfold lens; rw [List.getD_eq_getElem?_getD, List.getElem?_eq_getElem h]; rfl
theorem mat_at {l : List Tx} {i : Nat} (h : i < l.length) : mat l i = rowL l[i] := by
  unfold mat; rw [List.getD_eq_getElem?_getD, List.getElem?_eq_getElem h]; rfl
/-- every row is whole -/
def Whole (l : List T) : Prop := ∀ n : Nat, n < len l → ∀ t ∈ l, blk (n : Int) t ≠ []
/-- there may be so much parity -/
def Arg (l : List T) (p : Int) : Prop := 1 ≤ l.length ∧ 0 ≤ p ∧ (l.length : Int) + p ≤ 255
def Ok (l : List T) (p : Int) : Prop := Arg l p ∧ Whole l
open Classical in
noncomputable def err (l : List T) (p : Int) : Int := if Ok l p then 0 else 1
theorem whole_len {l : List T} (h : Whole l) {n : Nat} (hn : n < len l) {t : T} (ht : t ∈ l) : (blk (n : Int) t).length = 79 := by
  rcases blk_len n t with h' | h'
  · exact h'
  · exact absurd h' (h n hn t ht)
theorem whole_lens {l : List T} {n : Nat} (h : ∀ t ∈ l, blk (n : Int) t ≠ []) {i : Nat} (hi : i < l.length) : lens (row l n) i = 79 := by
  rw [lens_at (by rw [row_len]; exact hi)]
  simp only [row, List.getElem_map]
  rcases blk_len n l[i] with h' | h'
  · exact h'
  · exact absurd h' (h _ (List.getElem_mem hi))
end Go.Proofs.Ytcmdggdionghcaa.St
namespace Go.Proofs.Ytcmdggdionghcaa
open Go.RowKit
open Pt (Tx)

/-- the slice at A of slices reads as these texts, all in blocks of G -/
def RdB (w : World) (A : Option Addr) (bs : List Tx) (G : Nat → Prop) : Prop :=
  0 < bs.length → ∃ b off, A = some ⟨b, off, none⟩ ∧ G b ∧ ∀ i (hi : i < bs.length), ∃ A' C', w.cell? ⟨b, off + i, none⟩ = some (.slice A' bs[i].length C') ∧ bs[i].length ≤ C' ∧ (A' = none → bs[i].length = 0 ∧ C' = 0) ∧ RdL w A' bs[i] G
namespace RdB
variable {w w' : World} {A : Option Addr} {bs : List Tx} {G G' S : Nat → Prop}
theorem empty (w : World) (A : Option Addr) (G : Nat → Prop) : RdB w A [] G := fun h => absurd h (by simp)
theorem keep (h : RdB w A bs G) (hk : ∀ p v, G p.block → w.cell? p = some v → w'.cell? p = some v) : RdB w' A bs G := by
  intro hn
  obtain ⟨b, off, e, hg, hc⟩ := h hn
  refine ⟨b, off, e, hg, fun i hi => ?_⟩
  obtain ⟨A', C', h1, h2, h3, h4⟩ := hc i hi
  exact ⟨A', C', hk _ _ hg h1, h2, h3, h4.keep hk⟩
theorem mono (h : RdB w A bs G) (hg : ∀ b, G b → G' b) : RdB w A bs G' := by
  intro hn
  obtain ⟨b, off, e, hg', hc⟩ := h hn
  refine ⟨b, off, e, hg _ hg', fun i hi => ?_⟩
  obtain ⟨A', C', h1, h2, h3, h4⟩ := hc i hi
  exact ⟨A', C', h1, h2, h3, h4.mono hg⟩
theorem kp (h : RdB w A bs G) (hk : Kp S w w') (hs : ∀ b, G b → ¬ S b) : RdB w' A bs G := h.keep fun _ _ hg hc => hk.cell hc (hs _ hg)
theorem old (h : RdB w A bs G) (hb : Below w.heap.size w w') : RdB w' A bs G := h.keep fun _ _ _ hc => (hb.cell (World.block_lt_of_cell? _ _ hc)).trans hc
theorem below {B : Nat} (h : RdB w A bs (· < B)) (hb : Below B w w') : RdB w' A bs (· < B) := h.keep fun _ _ hg hc => (hb.cell hg).trans hc
theorem in_ (h : RdB w A bs G) : RdB w A bs (fun b => G b ∧ b < w.heap.size) := by
  intro hn
  obtain ⟨b, off, e, hg, hc⟩ := h hn
  refine ⟨b, off, e, ⟨hg, ?_⟩, fun i hi => ?_⟩
  · obtain ⟨_, _, h1, _⟩ := hc 0 hn
    exact World.block_lt_of_cell? _ _ h1
  · obtain ⟨A', C', h1, h2, h3, h4⟩ := hc i hi
    exact ⟨A', C', h1, h2, h3, h4.in_⟩
theorem at_ (h : RdB w A bs G) {i : Nat} (hi : i < bs.length) : ∃ b off A' C', A = some ⟨b, off, none⟩ ∧ G b ∧ w.cell? ⟨b, off + i, none⟩ = some (.slice A' bs[i].length C') ∧ bs[i].length ≤ C' ∧ (A' = none → bs[i].length = 0 ∧ C' = 0) ∧ RdL w A' bs[i] G := by
  obtain ⟨b, off, e, hg, hc⟩ := h (by omega)
  obtain ⟨A', C', h1, h2, h3, h4⟩ := hc i hi
  exact ⟨b, off, A', C', e, hg, h1, h2, h3, h4⟩
end RdB
/-- a tape as the value that is handed on -/
def tape (lab cap : Int) (A : Option Addr) (n C : Nat) (lost : Bool) : Value := .agg #[.int .i64 lab, .int .i64 cap, .slice A n C, .bool lost]
end Go.Proofs.Ytcmdggdionghcaa
namespace Go.Proofs.Ytcmdggdionghcaa
open Go.RowKit
open Pt (Tx)

/-- the slice at A reads as these tapes; all lies in blocks of G -/
def RdT (w : World) (A : Option Addr) (ts : List St.T) (G : Nat → Prop) : Prop :=
  0 < ts.length → ∃ b off, A = some ⟨b, off, none⟩ ∧ G b ∧ ∀ i (hi : i < ts.length), ∃ A' C', w.cell? ⟨b, off + i * 4, none⟩ = some (.int .i64 ts[i].label) ∧ w.cell? ⟨b, off + i * 4 + 1, none⟩ = some (.int .i64 ts[i].cap) ∧ w.cell? ⟨b, off + i * 4 + 2, none⟩ = some (.slice A' ts[i].blocks.length C') ∧ w.cell? ⟨b, off + i * 4 + 3, none⟩ = some (.bool ts[i].lost) ∧ RdB w A' ts[i].blocks G
namespace RdT
variable {w w' : World} {A : Option Addr} {ts : List St.T} {G G' S : Nat → Prop}
theorem empty (w : World) (A : Option Addr) (G : Nat → Prop) : RdT w A [] G := fun h => absurd h (by simp)
theorem keep (h : RdT w A ts G) (hk : ∀ p v, G p.block → w.cell? p = some v → w'.cell? p = some v) : RdT w' A ts G := by
  intro hn
  obtain ⟨b, off, e, hg, hc⟩ := h hn
  refine ⟨b, off, e, hg, fun i hi => ?_⟩
  obtain ⟨A', C', h0, h1, h2, h3, h4⟩ := hc i hi
  exact ⟨A', C', hk _ _ hg h0, hk _ _ hg h1, hk _ _ hg h2, hk _ _ hg h3, h4.keep hk⟩
theorem mono (h : RdT w A ts G) (hg : ∀ b, G b → G' b) : RdT w A ts G' := by
  intro hn
  obtain ⟨b, off, e, hg', hc⟩ := h hn
  refine ⟨b, off, e, hg _ hg', fun i hi => ?_⟩
  obtain ⟨A', C', h0, h1, h2, h3, h4⟩ := hc i hi
  exact ⟨A', C', h0, h1, h2, h3, h4.mono hg⟩
theorem kp (h : RdT w A ts G) (hk : Kp S w w') (hs : ∀ b, G b → ¬ S b) : RdT w' A ts G := h.keep fun _ _ hg hc => hk.cell hc (hs _ hg)
theorem old (h : RdT w A ts G) (hb : Below w.heap.size w w') : RdT w' A ts G := h.keep fun _ _ _ hc => (hb.cell (World.block_lt_of_cell? _ _ hc)).trans hc
theorem in_ (h : RdT w A ts G) : RdT w A ts (fun b => G b ∧ b < w.heap.size) := by
  intro hn
  obtain ⟨b, off, e, hg, hc⟩ := h hn
  refine ⟨b, off, e, ⟨hg, ?_⟩, fun i hi => ?_⟩
  · obtain ⟨_, _, h0, _⟩ := hc 0 hn
    exact World.block_lt_of_cell? _ _ h0
  · obtain ⟨A', C', h0, h1, h2, h3, h4⟩ := hc i hi
    exact ⟨A', C', h0, h1, h2, h3, h4.in_⟩
theorem at_ (h : RdT w A ts G) {i : Nat} (hi : i < ts.length) : ∃ b off A' C', A = some ⟨b, off, none⟩ ∧ G b ∧ w.cell? ⟨b, off + i * 4, none⟩ = some (.int .i64 ts[i].label) ∧ w.cell? ⟨b, off + i * 4 + 1, none⟩ = some (.int .i64 ts[i].cap) ∧ w.cell? ⟨b, off + i * 4 + 2, none⟩ = some (.slice A' ts[i].blocks.length C') ∧ w.cell? ⟨b, off + i * 4 + 3, none⟩ = some (.bool ts[i].lost) ∧ RdB w A' ts[i].blocks G := by
  obtain ⟨b, off, e, hg, hc⟩ := h (by omega)
  obtain ⟨A', C', h0, h1, h2, h3, h4⟩ := hc i hi
  exact ⟨b, off, A', C', e, hg, h0, h1, h2, h3, h4⟩
end RdT
/-- a row of blocks as a matrix -/
theorem RdB.rdM {w : World} {A : Option Addr} {bs : List Tx} {G : Nat → Prop} (h : RdB w A bs G) : RdM w A bs.length (St.lens bs) (St.mat bs) G := fun hn => by
  obtain ⟨b, off, e, hg, hc⟩ := h hn
  refine ⟨b, off, e, hg, fun i hi => ?_⟩
  obtain ⟨A', C', h1, _, _, h4⟩ := hc i hi
  refine ⟨A', C', by rw [St.lens_at hi]; exact h1, ?_⟩
  rw [St.lens_at hi, St.mat_at hi]
  exact h4.rd
/-- the slice at A reads as p matrices, each of n rows of m elements -/
def RdP (w : World) (A : Option Addr) (p n m : Nat) (X : Nat → Mx.Mat) (G : Nat → Prop) : Prop :=
  0 < p → ∃ b off, A = some ⟨b, off, none⟩ ∧ G b ∧ ∀ j, j < p → ∃ A' C', w.cell? ⟨b, off + j, none⟩ = some (.slice A' n C') ∧ n ≤ C' ∧ (A' = none → n = 0 ∧ C' = 0) ∧ RdM w A' n (fun _ => m) (X j) G
namespace RdP
variable {w w' : World} {A : Option Addr} {p n m : Nat} {X Y : Nat → Mx.Mat} {G G' S : Nat → Prop}
theorem empty (w : World) (A : Option Addr) (n m : Nat) (X : Nat → Mx.Mat) (G : Nat → Prop) : RdP w A 0 n m X G := fun h => absurd h (by omega)
theorem keep (h : RdP w A p n m X G) (hk : ∀ p v, G p.block → w.cell? p = some v → w'.cell? p = some v) : RdP w' A p n m X G := by
  intro hn
  obtain ⟨b, off, e, hg, hc⟩ := h hn
  refine ⟨b, off, e, hg, fun j hj => ?_⟩
  obtain ⟨A', C', h1, h2, h3, h4⟩ := hc j hj
  exact ⟨A', C', hk _ _ hg h1, h2, h3, h4.keep hk⟩
theorem mono (h : RdP w A p n m X G) (hg : ∀ b, G b → G' b) : RdP w A p n m X G' := by
  intro hn
  obtain ⟨b, off, e, hg', hc⟩ := h hn
  refine ⟨b, off, e, hg _ hg', fun j hj => ?_⟩
  obtain ⟨A', C', h1, h2, h3, h4⟩ := hc j hj
  exact ⟨A', C', h1, h2, h3, h4.mono hg⟩
theorem congr (h : RdP w A p n m X G) (he : ∀ j, j < p → ∀ i, i < n → ∀ c, c < m → X j i c = Y j i c) : RdP w A p n m Y G := by
  intro hn
  obtain ⟨b, off, e, hg', hc⟩ := h hn
  refine ⟨b, off, e, hg', fun j hj => ?_⟩
  obtain ⟨A', C', h1, h2, h3, h4⟩ := hc j hj
  exact ⟨A', C', h1, h2, h3, h4.congr (fun _ _ => rfl) (he j hj)⟩
theorem old (h : RdP w A p n m X G) (hb : Below w.heap.size w w') : RdP w' A p n m X G := h.keep fun _ _ _ hc => (hb.cell (World.block_lt_of_cell? _ _ hc)).trans hc
theorem at_ (h : RdP w A p n m X G) {j : Nat} (hj : j < p) : ∃ b off A' C', A = some ⟨b, off, none⟩ ∧ G b ∧ w.cell? ⟨b, off + j, none⟩ = some (.slice A' n C') ∧ n ≤ C' ∧ (A' = none → n = 0 ∧ C' = 0) ∧ RdM w A' n (fun _ => m) (X j) G := by
  obtain ⟨b, off, e, hg, hc⟩ := h (by omega)
  obtain ⟨A', C', h1, h2, h3, h4⟩ := hc j hj
  exact ⟨b, off, A', C', e, hg, h1, h2, h3, h4⟩
end RdP
end Go.Proofs.Ytcmdggdionghcaa
namespace Go.Proofs.Ytcmdggdionghcaa
open Go.RowKit Go.ChangeShapes Go.WideShapes

/-- the slice at A of n numbers reads as z -/
def RdI (w : World) (A : Option Addr) (n : Nat) (z : Nat → Int) : Prop :=
  0 < n → ∃ b off, A = some ⟨b, off, none⟩ ∧ ∀ j, j < n → w.cell? ⟨b, off + j, none⟩ = some (.int .i64 (z j))
theorem RdI.old {w w' : World} {A : Option Addr} {n : Nat} {z : Nat → Int} (h : RdI w A n z) (hb : Below w.heap.size w w') : RdI w' A n z := by
  intro hn
  obtain ⟨b, off, e, hc⟩ := h hn
  exact ⟨b, off, e, fun j hj => (hb.cell (World.block_lt_of_cell? _ _ (hc j hj))).trans (hc j hj)⟩
theorem RdI.at {w : World} {A : Option Addr} {n : Nat} {z : Nat → Int} (h : RdI w A n z) {j : Nat} (hj : j < n) : ∃ b off, A = some ⟨b, off, none⟩ ∧ w.cell? ⟨b, off + j, none⟩ = some (.int .i64 (z j)) := by
  obtain ⟨b, off, e, hc⟩ := h (by omega)
  exact ⟨b, off, e, hc j hj⟩
theorem open_rdI {H : Type} {enc : TypeId × Value → H} {w : World} {base fuel : Nat} {held : Bool} {a : Option Addr} {len cap : Nat} {x : DataW H × List MemPlace}
    (h : DataW.trod enc Try.prog w base (fun _ => true) held fuel 37 (Value.slice a len cap).cells.toList = some x) : len ≤ maxLen ∧ ∃ z, RdI w a len z := by
  rcases open_ints Try.underlying37 Try.underlying3 (by kernel_rfl) h with ⟨hcs, _⟩ | ⟨y, l, c, zs, hcs, _, hl, hm, hz, _, hcell, hwz⟩
  · simp [Value.cells] at hcs
    obtain ⟨rfl, rfl, rfl⟩ := hcs
    exact ⟨by decide, fun _ => 0, fun h => absurd h (by omega)⟩
  · simp [Value.cells] at hcs
    obtain ⟨rfl, rfl, rfl⟩ := hcs
    have hz' : zs.length = cap := by simpa using hz
    refine ⟨by omega, fun j => zs.getD j 0, fun h0 => ?_⟩
    obtain ⟨b, off, spot⟩ := y
    have hs : spot = none := by simpa [Addr.add] using World.cell?_spot (hcell 0 (by omega))
    subst hs
    refine ⟨b, off, rfl, fun j hj => ?_⟩
    have := hcell j (by omega)
    by_cases e : j = 0
    · subst e; simpa [Addr.add] using this
    · simpa [Addr.add, e] using this

theorem and_1023 (x : Int) : ∃ y : Nat, bits BinOp.and IntKind.i64 x 1023 = (y : Int) ∧ y ≤ 1023 := by
  have hx : (BitVec.ofInt 64 x &&& BitVec.ofInt 64 1023).toNat ≤ 1023 := by
    rw [BitVec.toNat_and]; exact Nat.and_le_right
  refine ⟨(BitVec.ofInt 64 x &&& BitVec.ofInt 64 1023).toNat, ?_, hx⟩
  show IntKind.i64.wrap ((BitVec.ofInt 64 x &&& BitVec.ofInt 64 1023).toNat : Int) = _
  rw [IntKind.wrap_i64]; omega
def low (z : Nat → Int) (j : Nat) : Nat := (bits BinOp.and IntKind.i64 (z j) 1023).toNat
theorem low_eq (z : Nat → Int) (j : Nat) : bits BinOp.and IntKind.i64 (z j) 1023 = (low z j : Int) ∧ low z j ≤ 1023 := by
  obtain ⟨y, h1, h2⟩ := and_1023 (z j)
  unfold low
  rw [h1]; simp; exact h2
end Go.Proofs.Ytcmdggdionghcaa
namespace Go.Proofs.Ytcmdggdionghcaa
open Go.RowKit Mx Go.ChangeShapes Go.WideShapes

/-- the element of a number that lies in a cell -/
def feOf (x : Int) : Fe := mk (x.toNat % 256) (Nat.mod_lt _ (by decide))
theorem fi_feOf {x : Int} (h : (Lit.int .u8 x).wf = true) : fi (feOf x) = x := by
  have h' := range_u8 (zs := [x]) (by simpa using h) 0
  simp at h'
  unfold fi feOf
  rw [nat_mk, Nat.mod_eq_of_lt (by omega)]; omega
theorem getD_wf {k : IntKind} {zs : List Int} (h : ∀ n ∈ zs, (Lit.int k n).wf = true) {c : Nat} (hc : c < zs.length) : (Lit.int k (zs.getD c 0)).wf = true := by
  rw [List.getD_eq_getElem?_getD, List.getElem?_eq_getElem hc]
  exact h _ (List.getElem_mem hc)
theorem rd_cells {w : World} {a : Addr} {n : Nat} {zs : List Int} (hn : n ≤ zs.length) (hw : ∀ x ∈ zs, (Lit.int .u8 x).wf = true) (hc : ∀ c, c < n → w.cell? (a.add c) = some (.int .u8 (zs.getD c 0))) :
    Rd w (some a) n (fun c => feOf (zs.getD c 0)) (fun _ => True) := by
  intro h0
  obtain ⟨b, off, spot⟩ := a
  have hs : spot = none := by simpa [Addr.add] using World.cell?_spot (hc 0 h0)
  subst hs
  refine ⟨b, off, rfl, trivial, fun j hj => ?_⟩
  have := hc j hj
  rw [fi_feOf (getD_wf hw (by omega))]
  by_cases e : j = 0
  · subst e; simpa [Addr.add] using this
  · simpa [Addr.add, e] using this
section
variable {H : Type} {enc : TypeId × Value → H} {w : World} {base fuel : Nat} {held : Bool} {a : Option Addr} {len cap : Nat} {x : DataW H × List MemPlace}
/-- a row of bytes -/
theorem open_rd (h : DataW.trod enc Try.prog w base (fun _ => true) held fuel 40 (Value.slice a len cap).cells.toList = some x) :
    len ≤ maxLen ∧ ∃ r, Rd w a len r (fun _ => True) := by
  rcases open_ints Try.underlying40 Try.underlying5 (by kernel_rfl) h with ⟨hcs, _⟩ | ⟨y, l, c, zs, hcs, _, hl, hm, hz, _, hcell, hwz⟩
  · simp [Value.cells] at hcs
    obtain ⟨rfl, rfl, rfl⟩ := hcs
    exact ⟨by decide, fun _ => 0, Rd.empty _ _ _ _⟩
  · simp [Value.cells] at hcs
    obtain ⟨rfl, rfl, rfl⟩ := hcs
    have hz' : zs.length = cap := by simpa using hz
    exact ⟨by omega, _, rd_cells (by omega) hwz (fun c hc => hcell c (by omega))⟩
/-- a row of bytes, which is empty if it is nil -/
theorem open_rdN (h : DataW.trod enc Try.prog w base (fun _ => true) held fuel 40 (Value.slice a len cap).cells.toList = some x) :
    len ≤ maxLen ∧ (a = none → len = 0 ∧ cap = 0) ∧ ∃ r, Rd w a len r (fun _ => True) := by
  rcases open_ints Try.underlying40 Try.underlying5 (by kernel_rfl) h with ⟨hcs, _⟩ | ⟨y, l, c, zs, hcs, _, hl, hm, hz, _, hcell, hwz⟩
  · simp [Value.cells] at hcs
    obtain ⟨rfl, rfl, rfl⟩ := hcs
    exact ⟨by decide, fun _ => ⟨rfl, rfl⟩, fun _ => 0, Rd.empty _ _ _ _⟩
  · simp [Value.cells] at hcs
    obtain ⟨rfl, rfl, rfl⟩ := hcs
    have hz' : zs.length = cap := by simpa using hz
    exact ⟨by omega, (fun h => by cases h), _, rd_cells (by omega) hwz (fun c hc => hcell c (by omega))⟩
end
end Go.Proofs.Ytcmdggdionghcaa
namespace Go.Proofs.Ytcmdggdionghcaa
open Go.RowKit Mx Go.ChangeShapes Go.WideShapes

section
variable {H : Type} {enc : TypeId × Value → H} {w : World} {base fuel : Nat} {held : Bool} {a : Option Addr} {len cap : Nat} {x : DataW H × List MemPlace}
/-- rows of bytes -/
theorem open_rdM (h : DataW.trod enc Try.prog w base (fun _ => true) held fuel 34 (Value.slice a len cap).cells.toList = some x) :
    len ≤ maxLen ∧ ∃ L M, RdM w a len L M (fun _ => True) := by
  rcases Go.Deep.open_int_rows Try.underlying34 Try.underlying40 Try.underlying5 (by kernel_rfl) (by kernel_rfl) h with ⟨hcs, _⟩ | ⟨y, l, c, A, L, C, Z, hcs, _, hl, hm, _, hrow⟩
  · simp [Value.cells] at hcs
    obtain ⟨rfl, rfl, rfl⟩ := hcs
    exact ⟨by decide, fun _ => 0, fun _ _ => 0, RdM.empty _ _ _ _ _⟩
  · simp [Value.cells] at hcs
    obtain ⟨rfl, rfl, rfl⟩ := hcs
    refine ⟨by omega, L, fun r c => feOf ((Z r).getD c 0), fun h0 => ?_⟩
    obtain ⟨b, off, spot⟩ := y
    have hs : spot = none := by simpa [Addr.add] using World.cell?_spot (hrow 0 (by omega)).1
    subst hs
    refine ⟨b, off, rfl, trivial, fun i hi => ⟨A i, C i, ?_, ?_⟩⟩
    · have := (hrow i (by omega)).1
      by_cases e : i = 0
      · subst e; simpa [Addr.add] using this
      · simpa [Addr.add, e] using this
    · obtain ⟨_, r1, r2, r3, r4, r5, r6⟩ := hrow i (by omega)
      cases hA : A i with
      | none =>
        have := r5 hA
        intro h1; omega
      | some a' => exact rd_cells (by omega) r4 (fun c hc => (r6 a' hA).2 c (by omega))
end
end Go.Proofs.Ytcmdggdionghcaa
namespace Go.Proofs.Ytcmdggdionghcaa
open Go.RowKit


theorem bits_and_u8 (a b : Nat) (ha : a < 256) (hb : b < 256) : bits BinOp.and IntKind.u8 (a : Int) (b : Int) = ((a &&& b : Nat) : Int) := by
  have h1 : (BitVec.ofInt 8 (a : Int)).toNat = a := by
    rw [BitVec.ofInt_natCast, BitVec.toNat_ofNat]; exact Nat.mod_eq_of_lt ha
  have h2 : (BitVec.ofInt 8 (b : Int)).toNat = b := by
    rw [BitVec.ofInt_natCast, BitVec.toNat_ofNat]; exact Nat.mod_eq_of_lt hb
  have hx : a &&& b < 2 ^ 8 := Nat.and_lt_two_pow _ hb
  show IntKind.u8.wrap ((BitVec.ofInt 8 (a : Int) &&& BitVec.ofInt 8 (b : Int)).toNat : Int) = _
  rw [BitVec.toNat_and, h1, h2]
  simp [IntKind.wrap, IntKind.bits, IntKind.signed]; omega
theorem bits_xor_u8 (a b : Nat) (ha : a < 256) (hb : b < 256) : bits BinOp.xor IntKind.u8 (a : Int) (b : Int) = ((a ^^^ b : Nat) : Int) := by
  have h1 : (BitVec.ofInt 8 (a : Int)).toNat = a := by
    rw [BitVec.ofInt_natCast, BitVec.toNat_ofNat]; exact Nat.mod_eq_of_lt ha
  have h2 : (BitVec.ofInt 8 (b : Int)).toNat = b := by
    rw [BitVec.ofInt_natCast, BitVec.toNat_ofNat]; exact Nat.mod_eq_of_lt hb
  have hx : a ^^^ b < 2 ^ 8 := Nat.xor_lt_two_pow ha hb
  show IntKind.u8.wrap ((BitVec.ofInt 8 (a : Int) ^^^ BitVec.ofInt 8 (b : Int)).toNat : Int) = _
  rw [BitVec.toNat_xor, h1, h2]
  simp [IntKind.wrap, IntKind.bits, IntKind.signed]; omega
theorem and_one_u8 (a : Nat) (ha : a < 256) : bits BinOp.and IntKind.u8 (a : Int) 1 = ((a % 2 : Nat) : Int) := by
  rw [show (1 : Int) = ((1 : Nat) : Int) from rfl, bits_and_u8 a 1 ha (by decide), Nat.and_one_is_mod]
theorem and_top_u8 (a : Nat) (ha : a < 256) : (bits BinOp.and IntKind.u8 (a : Int) 128 == 0) = decide (a < 128) := by
  have h : ∀ n : Fin 256, (bits BinOp.and IntKind.u8 (n.val : Int) 128 == 0) = decide (n.val < 128) := by decide +kernel
  exact h ⟨a, ha⟩
theorem ret_u8 {a b : Int} (h : a = b) : Ending.returned (.int .u8 a) = .returned (.int .u8 b) := by rw [h]
theorem val_u8 {a b : Int} (h : a = b) : Value.int .u8 a = .int .u8 b := by rw [h]

def gmul (a b : Int) : Int := ((Gf.mul a.toNat b.toNat : Nat) : Int)
def gadd (a b : Int) : Int := ((a.toNat ^^^ b.toNat : Nat) : Int)
def ginv (a : Int) : Int := ((Gf.inv a.toNat : Nat) : Int)
def gpow (a n : Int) : Int := if n = 0 then 1 else if a = 0 then 0 else ((Gf.pw a.toNat (n % 255).toNat : Nat) : Int)
theorem gmul_rng (a b : Int) (_h0 : 0 ≤ a) (h1 : a < 256) : 0 ≤ gmul a b ∧ gmul a b < 256 := by
  have := Gf.mul_lt (a := a.toNat) (b := b.toNat) (by omega)
  unfold gmul; omega
theorem gadd_rng (a b : Int) (_h0 : 0 ≤ a) (h1 : a < 256) (_h2 : 0 ≤ b) (h3 : b < 256) : 0 ≤ gadd a b ∧ gadd a b < 256 := by
  have := Gf.xor_lt (a := a.toNat) (b := b.toNat) (by omega) (by omega)
  unfold gadd; omega
theorem ginv_rng (a : Int) (_h0 : 0 ≤ a) (h1 : a < 256) : 0 ≤ ginv a ∧ ginv a < 256 := by
  have := Gf.inv_lt (a := a.toNat) (by omega)
  unfold ginv; omega
theorem gpow_rng (a n : Int) (_h0 : 0 ≤ a) (h1 : a < 256) : 0 ≤ gpow a n ∧ gpow a n < 256 := by
  have := Gf.pw_lt (a := a.toNat) (by omega) (n % 255).toNat
  unfold gpow; split
  · omega
  · split <;> omega
theorem and_one_i64 (n : Nat) (hn : n < 256) : bits BinOp.and IntKind.i64 (n : Int) 1 = ((n % 2 : Nat) : Int) := by
  have h := bits_mask .i64 8 (by decide) (fun m h0 h1 => by rw [IntKind.wrap_i64]; omega) 1 (by decide) (n : Int) (by omega) (by omega)
  simpa using h
theorem tmod255 (n : Int) : (0 ≤ n.tmod 255 → n % 255 = n.tmod 255) ∧ (n.tmod 255 < 0 → n % 255 = n.tmod 255 + 255) ∧ -255 < n.tmod 255 ∧ n.tmod 255 < 255 := by
  have h := Int.tmod_eq_emod (a := n) (b := 255)
  split at h <;> omega
theorem ret_i64 {a b : Int} (h : a = b) : Ending.returned (.int .i64 a) = .returned (.int .i64 b) := by rw [h]
theorem gpow_inv (a : Int) (_h : 0 ≤ a) : gpow a 254 = ginv a := by
  unfold gpow ginv Gf.inv
  rw [if_neg (by decide)]
  by_cases hz : a = 0
  · subst hz; rw [if_pos rfl]; exact congrArg (fun n : Nat => (n : Int)) (Gf.inv_zero).symm
  · rw [if_neg hz]; rfl

theorem xor_i64_nat (a b : Nat) (ha : a < 32768) (hb : b < 32768) : bits BinOp.xor IntKind.i64 (a : Int) (b : Int) = ((a ^^^ b : Nat) : Int) := by
  have h1 : (BitVec.ofInt 64 (a : Int)).toNat = a := by
    rw [BitVec.ofInt_natCast, BitVec.toNat_ofNat]; exact Nat.mod_eq_of_lt (by omega)
  have h2 : (BitVec.ofInt 64 (b : Int)).toNat = b := by
    rw [BitVec.ofInt_natCast, BitVec.toNat_ofNat]; exact Nat.mod_eq_of_lt (by omega)
  have hx : a ^^^ b < 2 ^ 15 := Nat.xor_lt_two_pow ha hb
  show IntKind.i64.wrap ((BitVec.ofInt 64 (a : Int) ^^^ BitVec.ofInt 64 (b : Int)).toNat : Int) = _
  rw [BitVec.toNat_xor, h1, h2, IntKind.wrap_i64]
  omega
theorem and_one_i64' (n : Nat) (hn : n < 32768) : bits BinOp.and IntKind.i64 (n : Int) 1 = ((n % 2 : Nat) : Int) := by
  have h := bits_mask .i64 15 (by decide) (fun m h0 h1 => by rw [IntKind.wrap_i64]; omega) 1 (by decide) (n : Int) (by omega) (by omega)
  simpa using h
theorem up_bit (b k : Nat) (hb : b < 256) : bits BinOp.and IntKind.u8 ((b : Int) / 2 ^ k) 1 = ((b / 2 ^ k % 2 : Nat) : Int) := by
  have h := and_one_u8 (b / 2 ^ k) (by have := Nat.div_le_self b (2 ^ k); omega)
  rw [← h]; congr 1
theorem up_lt (a k : Nat) (ha : a < 256) (hk : k < 8) : a * 2 ^ k < 32768 := by
  have h : 2 ^ k ≤ 2 ^ 7 := Nat.pow_le_pow_right (by decide) (by omega)
  have : a * 2 ^ k ≤ 255 * 2 ^ 7 := Nat.mul_le_mul (by omega) h
  omega
theorem wrap64_small (n : Nat) (h : n < 32768) : wrap64 (n : Int) = (n : Int) := by
  unfold wrap64; omega
theorem up_xor (a k x : Nat) (ha : a < 256) (hk : k < 8) (hx : x < 32768) :
    bits BinOp.xor IntKind.i64 (x : Int) (wrap64 ((a : Int) * 2 ^ k)) = ((x ^^^ a * 2 ^ k : Nat) : Int) := by
  have hl := up_lt a k ha hk
  rw [show (a : Int) * 2 ^ k = ((a * 2 ^ k : Nat) : Int) by simp, wrap64_small _ hl, xor_i64_nat x _ hx hl]
theorem xor_lt15 {a b : Nat} (ha : a < 32768) (hb : b < 32768) : a ^^^ b < 32768 := Nat.xor_lt_two_pow (n := 15) ha hb
theorem down_bit (y k : Nat) (hy : y < 32768) : bits BinOp.and IntKind.i64 ((y : Int) / 2 ^ k) 1 = ((y / 2 ^ k % 2 : Nat) : Int) := by
  have h := and_one_i64' (y / 2 ^ k) (by have := Nat.div_le_self y (2 ^ k); omega)
  rw [← h]; congr 1
theorem down_lt (m : Nat) (hm : m < 7) : 285 * 2 ^ m < 32768 := by
  have h : 2 ^ m ≤ 2 ^ 6 := Nat.pow_le_pow_right (by decide) (by omega)
  omega
theorem down_xor (m y : Nat) (hm : m < 7) (hy : y < 32768) :
    bits BinOp.xor IntKind.i64 (y : Int) (wrap64 (285 * 2 ^ m)) = ((y ^^^ 285 * 2 ^ m : Nat) : Int) := by
  have hl := down_lt m hm
  rw [show (285 : Int) * 2 ^ m = ((285 * 2 ^ m : Nat) : Int) by simp, wrap64_small _ hl, xor_i64_nat y _ hy hl]
theorem val_i64 {a b : Int} (h : a = b) : Value.int .i64 a = .int .i64 b := by rw [h]
theorem ret_bool {a b : Bool} (h : a = b) : Ending.returned (.bool a) = .returned (.bool b) := by rw [h]
end Go.Proofs.Ytcmdggdionghcaa
namespace Go.Proofs.Ytcmdggdionghcaa.Mx

/-- R and V side by side -/
def aug (n : Nat) (R V : Mat) : Mat := fun r c => if c < n then R r c else V r (c - n)
theorem aug_lo {n : Nat} {R V : Mat} {r c : Nat} (h : c < n) : aug n R V r c = R r c := if_pos h
theorem pvt_congr {R R' : Mat} {i : Nat} (h : ∀ r, R r i = R' r i) : ∀ f k, pvt R i f k = pvt R' i f k := by
  intro f
  induction f with
  | zero => intro k; rfl
  | succ f ih => intro k; simp only [pvt, h k, ih]
theorem rnd_eq (R A : Mat) (i p r c : Nat) : rnd R A i p r c = if r = i then inv (R p i) * A p c else (if r = p then A i c else A r c) + (if r = p then R i i else R r i) * (inv (R p i) * A p c) := by
  unfold rnd elm facs scaleOf scl swp
  by_cases e : r = i
  · simp only [e, if_true]
  · simp only [if_neg e, if_true]
/-- one round on both is one round on each -/
theorem aug_rnd {n : Nat} {R V : Mat} {i p : Nat} (hi : i < n) : rnd (aug n R V) (aug n R V) i p = aug n (rnd R R i p) (rnd R V i p) := by
  funext r c
  by_cases h : c < n
  · simp only [rnd_eq, aug, if_pos h, if_pos hi]
  · simp only [rnd_eq, aug, if_neg h, if_pos hi]
/-- a row is scaled ahead of being exchanged -/
theorem swp_scl {A : Mat} {i p : Nat} {s : Fe} : swp (fun r => if r = p then (fun c => s * A p c) else A r) i p = scl (swp A i p) i s := by
  funext r c
  unfold swp scl
  by_cases e : r = i
  · simp only [if_pos e, if_true]
  · simp only [if_neg e]
    by_cases e' : r = p
    · have : ¬ i = p := fun h => e (by rw [e', ← h])
      simp only [if_pos e', if_neg this]
    · simp only [if_neg e']
end Go.Proofs.Ytcmdggdionghcaa.Mx
