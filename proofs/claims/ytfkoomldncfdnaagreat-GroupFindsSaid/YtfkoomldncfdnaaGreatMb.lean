/- A []byte that reads as a list of bytes, and one that a call owns and makes longer by append. No function of the program. Bytes as elements and elements as bytes: a list of bytes as a row, a row as a list. No function of the program. Chapter 13's tapes taken block by block: how long they are, each row of them, and which parity they have. No program. Plain mathematics of chapter 4, no program: the sum of CRC-32C, bit by bit. Words of 32 bits as the numbers of a uint32: bits, halves, what is turned round. No function of the program. Numbers and texts as bytes, and what is read of bytes. No program. Chapter 9's blocks as lists of bytes: which block a unit is, which unit bytes are. No function of the program. Chapter 10's heads and seals as lists of bytes: which may be, which bytes each is, which one any bytes are. No program. Chapter 11's tapes as lists of blocks: which block is good, which parts lie there, how much is kept; which blocks a part is. No program. Chapter 10's seals as what the two readers make of bytes; labels, one behind the other. No program. -/
import Derived.Test.YtfkoomldncfdnaaGreatMa
import Derived.Lib.AppendStr
import Derived.Lib.BufferWrite
import Derived.Laws.IdiomStrings
import Derived.Laws.BytesArg
import Derived.Test.YtfkoomldncfdnaaGreatRows
import Derived.WalkKit
import Derived.ProofKit
import Derived.Lib.Hide
import Derived.Laws.BitsLemmas
import Derived.IntWalk
namespace Go.Proofs.YtfkoomldncfdnaaGreat
open Go.RowKit
open Pt (Tx)

/-- the slice at A reads as the bytes l, and lies in a block of G -/
def RdL (w : World) (A : Option Addr) (l : Tx) (G : Nat → Prop) : Prop :=
  0 < l.length → ∃ b off, A = some ⟨b, off, none⟩ ∧ G b ∧ ∀ j (hj : j < l.length), w.cell? ⟨b, off + j, none⟩ = some (.int .u8 (l[j].toNat : Int))
namespace RdL
variable {w w' : World} {A : Option Addr} {l : Tx} {G G' S : Nat → Prop}
theorem empty (w : World) (A : Option Addr) (G : Nat → Prop) : RdL w A [] G := fun h => absurd h (by simp)
theorem keep (h : RdL w A l G) (hk : ∀ p v, G p.block → w.cell? p = some v → w'.cell? p = some v) : RdL w' A l G := by
  intro hn
  obtain ⟨b, off, e, hg, hc⟩ := h hn
  exact ⟨b, off, e, hg, fun j hj => hk _ _ hg (hc j hj)⟩
theorem mono (h : RdL w A l G) (hg : ∀ b, G b → G' b) : RdL w A l G' := by
  intro hn
  obtain ⟨b, off, e, hg', hc⟩ := h hn
  exact ⟨b, off, e, hg _ hg', hc⟩
theorem kp (h : RdL w A l G) (hk : Kp S w w') (hs : ∀ b, G b → ¬ S b) : RdL w' A l G := h.keep fun _ _ hg hc => hk.cell hc (hs _ hg)
theorem old (h : RdL w A l G) (hb : Below w.heap.size w w') : RdL w' A l G := h.keep fun _ _ _ hc => (hb.cell (World.block_lt_of_cell? _ _ hc)).trans hc
theorem below {B : Nat} (h : RdL w A l (· < B)) (hb : Below B w w') : RdL w' A l (· < B) := h.keep fun _ _ hg hc => (hb.cell hg).trans hc
theorem in_ (h : RdL w A l G) : RdL w A l (fun b => G b ∧ b < w.heap.size) := by
  intro hn
  obtain ⟨b, off, e, hg, hc⟩ := h hn
  exact ⟨b, off, e, ⟨hg, World.block_lt_of_cell? _ _ (hc 0 hn)⟩, hc⟩
/-- a block with something else in it is none of it -/
theorem apart {g : Nat} (h : RdL w A l G) (hg : ∀ off j x, w.cell? ⟨g, off + j, none⟩ ≠ some (.int .u8 x)) : RdL w A l (fun b => G b ∧ b ≠ g) := by
  intro hn
  obtain ⟨b, off, e, hb, hc⟩ := h hn
  refine ⟨b, off, e, ⟨hb, fun e => ?_⟩, hc⟩
  subst e
  exact hg _ _ _ (hc 0 hn)
theorem at_ (h : RdL w A l G) {j : Nat} (hj : j < l.length) : ∃ b off, A = some ⟨b, off, none⟩ ∧ G b ∧ w.cell? ⟨b, off + j, none⟩ = some (.int .u8 (l[j].toNat : Int)) := by
  obtain ⟨b, off, e, hg, hc⟩ := h (by omega)
  exact ⟨b, off, e, hg, hc j hj⟩
theorem take (h : RdL w A l G) (n : Nat) : RdL w A (l.take n) G := by
  intro hn
  obtain ⟨b, off, e, hg, hc⟩ := h (by simp at hn; omega)
  refine ⟨b, off, e, hg, fun j hj => ?_⟩
  rw [List.getElem_take]; exact hc j (by simp at hj; omega)
theorem drop {b off : Nat} (h : RdL w (some ⟨b, off, none⟩) l G) (n : Nat) : RdL w (some ⟨b, off + n, none⟩) (l.drop n) G := by
  intro hn
  obtain ⟨b', off', e, hg, hc⟩ := h (by simp at hn; omega)
  cases e
  refine ⟨b, off + n, rfl, hg, fun j hj => ?_⟩
  rw [List.getElem_drop, Nat.add_assoc]; exact hc (n + j) (by simp at hj; omega)
end RdL
/-- the cells of bytes -/
def cellsL (l : Tx) : List Value := l.map fun c => .int .u8 (c.toNat : Int)
theorem cellsL_len (l : Tx) : (cellsL l).length = l.length := by simp [cellsL]
theorem cellsL_append (a b : Tx) : cellsL a ++ cellsL b = cellsL (a ++ b) := by simp [cellsL]
theorem cellsL_str (l : Tx) : Lib.strCells (tx l) = cellsL l := by simp [Lib.strCells, cellsL, tx]
theorem cellsL_one {l : Tx} : ∀ u ∈ cellsL l, u.oneCell' = true := by
  intro u hu
  simp only [cellsL, List.mem_map] at hu
  obtain ⟨j, _, rfl⟩ := hu
  rfl
theorem cellsL_get {l : Tx} {j : Nat} (hj : j < l.length) : (cellsL l)[j]? = some (.int .u8 (l[j].toNat : Int)) := by simp [cellsL, hj]
theorem cellsL_some {l : Tx} {j : Nat} {u : Value} (h : (cellsL l)[j]? = some u) : ∃ hj : j < l.length, u = .int .u8 (l[j].toNat : Int) := by
  have hj : j < l.length := by
    rcases Nat.lt_or_ge j l.length with h' | h'
    · exact h'
    · rw [List.getElem?_eq_none (by rw [cellsL_len]; exact h')] at h; cases h
  rw [cellsL_get hj] at h
  exact ⟨hj, (Option.some.inj h).symm⟩
theorem RdL.of_cells {w : World} {g n : Nat} {l : Tx} {c : Array Value} {t : TypeId} {fr : Nat × Nat} (h : w.heap[g]? = some (.cells c t fr)) (hc : ∀ j (hj : j < l.length), c[n + j]? = some (.int .u8 (l[j].toNat : Int))) : RdL w (some ⟨g, n, none⟩) l (· = g) :=
  fun _ => ⟨g, n, rfl, rfl, fun j hj => by simp [World.cell?, h, hc j hj]⟩
/-- string(b) -/
theorem RdL.str {w : World} {A : Option Addr} {l : Tx} {G : Nat → Prop} (h : RdL w A l G) (c : Nat) : (convert 42 9 (.slice A l.length c)).run Tryz.prog w = .ok (.string (tx l)) w := by
  cases A with
  | none =>
    have h0 : l = [] := by
      rcases Nat.eq_zero_or_pos l.length with h0 | h0
      · exact List.length_eq_zero_iff.1 h0
      · obtain ⟨b, off, e, _⟩ := h h0; cases e
    subst h0
    exact run_convert_bytes_nil w 42 5 Tryz.underlying42 Tryz.underlying5 _ c 9 Tryz.underlying9
  | some a =>
    refine run_convert_bytes_back w 42 9 5 a c l Tryz.underlying42 Tryz.underlying5 Tryz.underlying9 fun j hj => ?_
    obtain ⟨b, off, e, _, hc⟩ := h (by omega)
    cases e
    rw [addr_add]; exact hc j hj
theorem infoB : (Tryz.prog.info? 5).map (fun i => (i.zero, i.size, i.bytes)) = some (some (.int .u8 0), 1, 1) := by kernel_rfl
/-- v is a slice of the call's own that holds the bytes l -/
def OwnL (w : World) (base : Nat) (v : Value) (l : Tx) : Prop := w.ownsRow base 5 1 v l.length (cellsL l)
namespace OwnL
variable {w w' : World} {base : Nat} {v : Value} {l : Tx}
theorem nil (w : World) (base : Nat) : OwnL w base (.slice none 0 0) [] := World.ownsRow_nil _ _ _ _
theorem alloc (h : OwnL w base v l) (o : Obj) : OwnL (w.alloc o) base v l := World.ownsRow.alloc h o
/-- as what reads -/
theorem rd (h : OwnL w base v l) : ∃ A C, v = .slice A l.length C ∧ l.length ≤ C ∧ C ≤ maxLen ∧ (A = none → l.length = 0 ∧ C = 0) ∧ RdL w A l (fun b => base ≤ b ∧ v.ownBlock = some b) := by
  rcases h.2 with ⟨rfl, h0⟩ | ⟨g, cap, cur, rfl, hb, hg, hnc, hcm, hs, ht⟩
  · have : l = [] := List.length_eq_zero_iff.1 h0
    subst this
    exact ⟨none, 0, rfl, Nat.le_refl _, by decide, fun _ => ⟨rfl, rfl⟩, RdL.empty _ _ _⟩
  · refine ⟨_, cap, rfl, hnc, hcm, (fun h => by cases h), fun _ => ⟨g, 0, rfl, ⟨hb, rfl⟩, fun j hj => ?_⟩⟩
    have hx := cellsL_get hj
    rw [← ht, List.getElem?_take, if_pos (by omega), Array.getElem?_toList] at hx
    simp [World.cell?, hg, hx]
theorem lo (h : OwnL w base v l) : ∀ k, v.ownBlock = some k → base ≤ k := fun k hk => (World.ownsRow.lt h k hk).1
theorem lt (h : OwnL w base v l) : ∀ k, v.ownBlock = some k → k < w.heap.size := fun k hk => (World.ownsRow.lt h k hk).2
/-- its block, if it has one -/
theorem block (h : OwnL w base v l) : ∀ k, v.ownBlock = some k → ∃ c, w.heap[k]? = some (.cells c 5 (0, 0)) := by
  intro k hk
  rcases h.2 with ⟨rfl, h0⟩ | ⟨g, cap, cur, rfl, hb, hg, hnc, _, hs, ht⟩
  · cases hk
  · cases hk; exact ⟨cur, hg⟩
theorem of_block (h : OwnL w base v l) (hb : ∀ k, v.ownBlock = some k → w'.heap[k]? = w.heap[k]?) : OwnL w' base v l := by
  refine ⟨h.1, ?_⟩
  rcases h.2 with h0 | ⟨g, cap, cur, rfl, hb', hg, hr⟩
  · exact .inl h0
  · exact .inr ⟨g, cap, cur, rfl, hb', (hb g rfl).trans hg, hr⟩
theorem kp {S : Nat → Prop} (h : OwnL w base v l) (hk : Kp S w w') (hs : ∀ k, v.ownBlock = some k → ¬ S k) : OwnL w' base v l :=
  h.of_block fun k e => hk.block k (h.lt k e) (hs k e)
end OwnL
/-- append of bytes -/
theorem wpList_append_bl (w : World) {ops : Array Oper} {rest : List Oper} {o : Oper} {a : Act} {Q : Exit → Act → World → Prop} (hgd : o.guard = none) (s x : Operand)
    (ho : o.op = .call { callee := .builtin .append, args := #[s, x], argTypes := #[42, 42] })
    (base : Nat) (v : Value) (l : Tx) (hs : a.eval s = v) (hown : OwnL w base v l)
    (A : Option Addr) (m c : Nat) (l' : Tx) (G : Nat → Prop) (hx : a.eval x = .slice A m c) (hm : l'.length = m) (hA : A = none → m = 0 ∧ c = 0) (hr : RdL w A l' G) (hb : l.length + m ≤ 140737488355328) (hbase : base ≤ w.heap.size)
    (h : ∀ v' w', OwnL w' base v' (l ++ l') → w.grownBy w' v.ownBlock → wpList Tryz.prog ops Q rest (a.put o.dst v') w') : wpList Tryz.prog ops Q (o :: rest) a w := by
  obtain ⟨i0, hi, hz0, hz1, hz2⟩ := info_parts infoB
  subst hm
  refine wpList_append_opt w hgd s x 42 ho base 5 i0 (.int .u8 0) 1 Tryz.underlying42 hi hz0 hz1 hz2 rfl v l.length (cellsL l) hs hown A l'.length c (cellsL l') hx hA (cellsL_len _) (fun ad had j u hu => ?_) cellsL_one (by unfold maxLen; omega) (by omega) hbase (fun v' w' h1 h2 => h v' w' (by rw [cellsL_append] at h1; unfold OwnL; rw [List.length_append]; exact h1) h2)
  obtain ⟨hj, rfl⟩ := cellsL_some hu
  obtain ⟨b, off, e, _, hc⟩ := hr (by omega)
  rw [had] at e
  cases e
  rw [addr_add]; exact hc j hj
/-- append of a text -/
theorem wpList_append_st (w : World) {ops : Array Oper} {rest : List Oper} {o : Oper} {a : Act} {Q : Exit → Act → World → Prop} (hgd : o.guard = none) (s x : Operand)
    (ho : o.op = .call { callee := .builtin .append, args := #[s, x], argTypes := #[42, 9] })
    (base : Nat) (v : Value) (l : Tx) (hs : a.eval s = v) (hown : OwnL w base v l) (l' : Tx) (hx : a.eval x = .string (tx l')) (hb : l.length + l'.length ≤ 140737488355328) (hbase : base ≤ w.heap.size)
    (h : ∀ v' w', OwnL w' base v' (l ++ l') → w.grownBy w' v.ownBlock → wpList Tryz.prog ops Q rest (a.put o.dst v') w') : wpList Tryz.prog ops Q (o :: rest) a w := by
  obtain ⟨i0, hi, hz0, hz1, hz2⟩ := info_parts infoB
  refine Lib.wpList_append_own_string w hgd s x 42 9 ho base 5 i0 Tryz.underlying42 Tryz.underlying9 hi hz0 hz1 hz2 v l.length (cellsL l) hs hown (tx l') hx (by rw [tx_size]; unfold maxLen; omega) (by rw [tx_size]; omega) hbase (fun v' w' h1 h2 _ => h v' w' ?_ h2)
  rw [cellsL_str, cellsL_append, tx_size] at h1
  unfold OwnL; rw [List.length_append]; exact h1
end Go.Proofs.YtfkoomldncfdnaaGreat
namespace Go.Proofs.YtfkoomldncfdnaaGreat
open Go.RowKit
open Pt (Tx)

/-- a byte as an element -/
def feB (c : UInt8) : Mx.Fe := Mx.mk c.toNat c.toNat_lt
/-- bytes as a row -/
def rowL (l : Tx) : Nat → Mx.Fe := fun i => feB (l.getD i 0)
theorem rowL_at {l : Tx} {i : Nat} (h : i < l.length) : fi (rowL l i) = (l[i].toNat : Int) := by
  unfold rowL fi feB
  rw [Mx.nat_mk, List.getD_eq_getElem?_getD, List.getElem?_eq_getElem h]; rfl
/-- bytes that read as a list read as a row -/
theorem RdL.rd {w : World} {A : Option Addr} {l : Tx} {G : Nat → Prop} (h : RdL w A l G) : Rd w A l.length (rowL l) G := fun hn => by
  obtain ⟨b, off, e, hg, hc⟩ := h hn
  exact ⟨b, off, e, hg, fun j hj => by rw [rowL_at hj]; exact hc j hj⟩
/-- an element as a byte -/
def byF (a : Mx.Fe) : UInt8 := UInt8.ofNat a.nat
theorem byF_nat (a : Mx.Fe) : (byF a).toNat = a.nat := by
  unfold byF
  rw [UInt8.toNat_ofNat', Nat.mod_eq_of_lt a.nat_lt]
theorem feB_byF (a : Mx.Fe) : feB (byF a) = a := by
  refine Mx.Fe.ext ?_
  unfold feB
  rw [Mx.nat_mk, byF_nat]
/-- a row as a list of bytes -/
def lst (r : Nat → Mx.Fe) (n : Nat) : Tx := (List.range n).map fun i => byF (r i)
theorem lst_len (r : Nat → Mx.Fe) (n : Nat) : (lst r n).length = n := by simp [lst]
theorem lst_at {r : Nat → Mx.Fe} {n i : Nat} (h : i < (lst r n).length) : ((lst r n)[i].toNat : Int) = fi (r i) := by
  simp only [lst, List.getElem_map, List.getElem_range]
  rw [byF_nat]; rfl
theorem rowL_lst {r : Nat → Mx.Fe} {n i : Nat} (h : i < n) : rowL (lst r n) i = r i := by
  refine fi_eq ?_
  rw [rowL_at (by rw [lst_len]; exact h), lst_at]
theorem lst_rowL (l : Tx) : lst (rowL l) l.length = l := by
  refine List.ext_getElem (lst_len _ _) fun i h h' => ?_
  refine UInt8.toNat.inj ?_
  have h1 := lst_at h
  rw [rowL_at h'] at h1
  omega
theorem lst_congr {r s : Nat → Mx.Fe} {n : Nat} (h : ∀ i, i < n → r i = s i) : lst r n = lst s n :=
  List.map_congr_left fun i hi => by rw [h i (List.mem_range.1 hi)]
/-- a row reads as a list -/
theorem Rd.rdL {w : World} {A : Option Addr} {n : Nat} {r : Nat → Mx.Fe} {G : Nat → Prop} (h : Rd w A n r G) : RdL w A (lst r n) G := fun hn => by
  rw [lst_len] at hn
  obtain ⟨b, off, e, hg, hc⟩ := h hn
  refine ⟨b, off, e, hg, fun j hj => ?_⟩
  rw [lst_at hj]
  rw [lst_len] at hj
  exact hc j hj
end Go.Proofs.YtfkoomldncfdnaaGreat
namespace Go.Proofs.YtfkoomldncfdnaaGreat.St
open Pt (Tx)

/-- a tape: its label, how many blocks fit, its blocks, whether it is lost -/
structure T where
  label : Int
  cap : Int
  blocks : List Tx
  lost : Bool
def one (t : T) : Nat := if t.lost = true then 0 else t.blocks.length
/-- the most blocks that one of them has -/
def len : List T → Nat
  | [] => 0
  | t :: ts => max (one t) (len ts)
theorem len_snoc : ∀ (l : List T) (t : T), len (l ++ [t]) = max (len l) (one t)
  | [], t => by show max (one t) 0 = max 0 (one t); omega
  | a :: l, t => by rw [List.cons_append, len, len, len_snoc l t]; omega
theorem len_take {l : List T} {i : Nat} (h : i < l.length) : len (l.take (i + 1)) = max (len (l.take i)) (one l[i]) := by
  rw [List.take_succ_eq_append_getElem h, len_snoc]
theorem len_all {l : List T} {n : Nat} (h : l.length ≤ n) : len (l.take n) = len l := by rw [List.take_of_length_le h]
theorem len_le {l : List T} {m : Nat} (h : ∀ t ∈ l, t.blocks.length ≤ m) : len l ≤ m := by
  induction l with
  | nil => exact Nat.zero_le _
  | cons t ts ih =>
    rw [len]
    have h1 := ih fun t ht => h t (List.mem_cons_of_mem _ ht)
    have h2 := h t List.mem_cons_self
    unfold one
    split <;> omega
theorem one_le_len {l : List T} {t : T} (h : t ∈ l) : one t ≤ len l := by
  induction l with
  | nil => cases h
  | cons a ts ih =>
    rw [len]
    rcases List.mem_cons.1 h with rfl | h
    · omega
    · have := ih h; omega
def zeros : Tx := List.replicate 79 0
theorem zeros_len : zeros.length = 79 := List.length_replicate ..
/-- block n of a tape, as its row has it -/
def blk (n : Int) (t : T) : Tx :=
  if t.lost = true ∨ n < 0 ∨ (t.blocks.length : Int) ≤ n then zeros else if (t.blocks.getD n.toNat []).length = 79 then t.blocks.getD n.toNat [] else []
def row (l : List T) (n : Int) : List Tx := l.map (blk n)
theorem row_len (l : List T) (n : Int) : (row l n).length = l.length := by simp [row]
theorem blk_none {n : Int} {t : T} (h : t.lost = true ∨ n < 0 ∨ (t.blocks.length : Int) ≤ n) : blk n t = zeros := if_pos h
theorem blk_some {n : Nat} {t : T} (hl : t.lost = false) (hn : n < t.blocks.length) (h : t.blocks[n].length = 79) : blk (n : Int) t = t.blocks[n] := by
  unfold blk
  rw [if_neg (by rw [hl]; simp; omega), show ((n : Int)).toNat = n by omega, List.getD_eq_getElem?_getD, List.getElem?_eq_getElem hn]
  exact if_pos h
theorem blk_bad {n : Nat} {t : T} (hl : t.lost = false) (hn : n < t.blocks.length) (h : t.blocks[n].length ≠ 79) : blk (n : Int) t = [] := by
  unfold blk
  rw [if_neg (by rw [hl]; simp; omega), show ((n : Int)).toNat = n by omega, List.getD_eq_getElem?_getD, List.getElem?_eq_getElem hn]
  exact if_neg h
theorem blk_len (n : Int) (t : T) : (blk n t).length = 79 ∨ (blk n t) = [] := by
  unfold blk
  split
  · exact .inl zeros_len
  · split
    · exact .inl (by assumption)
    · exact .inr rfl
/-- a row as a matrix -/
def mat (l : List Tx) : Mx.Mat := fun i => rowL (l.getD i [])
def lens (l : List Tx) : Nat → Nat := fun i => (l.getD i []).length
theorem lens_at {l : List Tx} {i : Nat} (h : i < l.length) : lens l i = l[i].length := by
  unfold lens; rw [List.getD_eq_getElem?_getD, List.getElem?_eq_getElem h]; rfl
theorem mat_at {l : List Tx} {i : Nat} (h : i < l.length) : mat l i = rowL l[i] := by
  unfold mat; rw [List.getD_eq_getElem?_getD, List.getElem?_eq_getElem h]; rfl
/-- every row is whole -/
def Whole (l : List T) : Prop := ∀ n : Nat, n < len l → ∀ t ∈ l, blk (n : Int) t ≠ []
/-- there may be so much parity -/
def Arg (l : List T) (p : Int) : Prop := 1 ≤ l.length ∧ 0 ≤ p ∧ (l.length : Int) + p ≤ 255
def Ok (l : List T) (p : Int) : Prop := Arg l p ∧ Whole l
open Classical in
noncomputable def err (l : List T) (p : Int) : Int := if Ok l p then 0 else 1
theorem whole_len {l : List T} (h : Whole l) {n : Nat} (hn : n < len l) {t : T} (ht : t ∈ l) : (blk (n : Int) t).length = 79 := by
  rcases blk_len n t with h' | h'
  · exact h'
  · exact absurd h' (h n hn t ht)
theorem whole_lens {l : List T} {n : Nat} (h : ∀ t ∈ l, blk (n : Int) t ≠ []) {i : Nat} (hi : i < l.length) : lens (row l n) i = 79 := by
  rw [lens_at (by rw [row_len]; exact hi)]
  simp only [row, List.getElem_map]
  rcases blk_len n l[i] with h' | h'
  · exact h'
  · exact absurd h' (h _ (List.getElem_mem hi))
end Go.Proofs.YtfkoomldncfdnaaGreat.St
namespace Go.Proofs.YtfkoomldncfdnaaGreat.Cr

abbrev W := BitVec 32
def poly : W := 0x82F63B78#32
/-- one bit is taken -/
def step (x : W) : W := if x.getLsbD 0 = true then (x >>> 1) ^^^ poly else x >>> 1
def steps : Nat → W → W
  | 0, x => x
  | n + 1, x => steps n (step x)
theorem steps_succ (n : Nat) (x : W) : steps (n + 1) x = steps n (step x) := rfl
theorem steps_out (n : Nat) (x : W) : steps (n + 1) x = step (steps n x) := by
  induction n generalizing x with
  | zero => rfl
  | succ n ih => rw [steps_succ, ih, ← steps_succ]
theorem steps_add (n m : Nat) (x : W) : steps (n + m) x = steps m (steps n x) := by
  induction n generalizing x with
  | zero => rw [Nat.zero_add]; rfl
  | succ n ih => rw [show n + 1 + m = (n + m) + 1 by omega, steps_succ, ih]; rfl
theorem step_zero : step 0#32 = 0#32 := by decide
theorem step_xor (x y : W) : step (x ^^^ y) = step x ^^^ step y := by
  unfold step
  rw [BitVec.getLsbD_xor, BitVec.ushiftRight_xor_distrib]
  generalize x >>> 1 = a
  generalize y >>> 1 = b
  cases x.getLsbD 0 <;> cases y.getLsbD 0
  · simp
  · simp [BitVec.xor_assoc]
  · simp only [Bool.xor_false, if_true, Bool.false_eq_true, if_false]
    rw [BitVec.xor_assoc, BitVec.xor_comm b, ← BitVec.xor_assoc]
  · simp only [Bool.xor_self, Bool.false_eq_true, if_false, if_true]
    rw [BitVec.xor_assoc, BitVec.xor_comm poly, BitVec.xor_assoc, BitVec.xor_self, BitVec.xor_zero]
theorem steps_xor (n : Nat) (x y : W) : steps n (x ^^^ y) = steps n x ^^^ steps n y := by
  induction n generalizing x y with
  | zero => rfl
  | succ n ih => rw [steps_succ, step_xor, ih]; rfl
theorem xor_eq_zero {x y : W} (h : x ^^^ y = 0#32) : x = y := by
  have h1 : x ^^^ y ^^^ y = 0#32 ^^^ y := by rw [h]
  rw [BitVec.xor_assoc, BitVec.xor_self, BitVec.xor_zero, BitVec.zero_xor] at h1
  exact h1
theorem step_ker {x : W} (h : step x = 0#32) : x = 0#32 := by
  unfold step at h
  by_cases e : x.getLsbD 0 = true
  · rw [if_pos e] at h
    have h1 := xor_eq_zero h
    have h2 : (x >>> 1).getLsbD 31 = poly.getLsbD 31 := by rw [h1]
    rw [BitVec.getLsbD_ushiftRight] at h2
    rw [BitVec.getLsbD_of_ge x (1 + 31) (by omega)] at h2
    exact absurd h2 (by decide)
  · rw [if_neg e] at h
    apply BitVec.eq_of_getLsbD_eq
    intro i hi
    rw [BitVec.getLsbD_zero]
    by_cases h0 : i = 0
    · rw [h0]; simpa using e
    · have h1 : (x >>> 1).getLsbD (i - 1) = (0#32).getLsbD (i - 1) := by rw [h]
      rw [BitVec.getLsbD_ushiftRight, BitVec.getLsbD_zero, show 1 + (i - 1) = i by omega] at h1
      exact h1
theorem steps_inj (n : Nat) {x y : W} (h : steps n x = steps n y) : x = y := by
  induction n generalizing x y with
  | zero => exact h
  | succ n ih =>
    have h1 := ih (x := step x) (y := step y) h
    apply xor_eq_zero
    apply step_ker
    rw [step_xor, h1, BitVec.xor_self]
/-- a byte is taken -/
def up (s : W) (b : Nat) : W := steps 8 (s ^^^ BitVec.ofNat 32 b)
def ups (s : W) (r : Nat → Nat) : Nat → W
  | 0 => s
  | n + 1 => up (ups s r n) (r n)
theorem ups_succ (s : W) (r : Nat → Nat) (n : Nat) : ups s r (n + 1) = up (ups s r n) (r n) := rfl
theorem ups_congr {s : W} {r r' : Nat → Nat} : ∀ n, (∀ i, i < n → r i = r' i) → ups s r n = ups s r' n
  | 0, _ => rfl
  | n + 1, h => by rw [ups_succ, ups_succ, ups_congr n (fun i hi => h i (by omega)), h n (by omega)]
theorem ups_join (s : W) (r : Nat → Nat) (n : Nat) : ∀ m, ups s r (n + m) = ups (ups s r n) (fun i => r (n + i)) m
  | 0 => rfl
  | m + 1 => by rw [← Nat.add_assoc, ups_succ, ups_succ, ups_join s r n m]
theorem up_inj {s s' : W} {b : Nat} (h : up s b = up s' b) : s = s' := by
  have h1 := steps_inj 8 h
  have h2 : s ^^^ BitVec.ofNat 32 b ^^^ BitVec.ofNat 32 b = s' ^^^ BitVec.ofNat 32 b ^^^ BitVec.ofNat 32 b := by rw [h1]
  rw [BitVec.xor_assoc, BitVec.xor_assoc, BitVec.xor_self, BitVec.xor_zero, BitVec.xor_zero] at h2
  exact h2
theorem up_inj_byte {s : W} {b b' : Nat} (hb : b < 256) (hb' : b' < 256) (h : up s b = up s b') : b = b' := by
  have h1 := steps_inj 8 h
  have h2 : s ^^^ (s ^^^ BitVec.ofNat 32 b) = s ^^^ (s ^^^ BitVec.ofNat 32 b') := by rw [h1]
  rw [← BitVec.xor_assoc, ← BitVec.xor_assoc, BitVec.xor_self, BitVec.zero_xor, BitVec.zero_xor] at h2
  have h3 := congrArg BitVec.toNat h2
  simp only [BitVec.toNat_ofNat] at h3
  omega
theorem ups_inj {s s' : W} {r : Nat → Nat} : ∀ n, ups s r n = ups s' r n → s = s'
  | 0, h => h
  | n + 1, h => ups_inj n (up_inj h)
/-- one byte that is another makes another sum -/
theorem ups_one {s : W} {r r' : Nat → Nat} {n k : Nat} (hk : k < n) (hb : r k < 256) (hb' : r' k < 256) (hne : r k ≠ r' k) (he : ∀ i, i < n → i ≠ k → r i = r' i) : ups s r n ≠ ups s r' n := by
  intro h
  obtain ⟨m, rfl⟩ : ∃ m, n = k + 1 + m := ⟨n - (k + 1), by omega⟩
  rw [ups_join s r (k + 1) m, ups_join s r' (k + 1) m, ups_congr (r := fun i => r (k + 1 + i)) (r' := fun i => r' (k + 1 + i)) m (fun i hi => he _ (by omega) (by omega))] at h
  have h1 := ups_inj m h
  rw [ups_succ, ups_succ, ups_congr (r := r) (r' := r') k (fun i hi => he i (by omega) (by omega))] at h1
  exact hne (up_inj_byte hb hb' h1)
/-! ### Bytes with their sum behind -/
theorem slide8 : ∀ b : Fin 256, steps 8 (BitVec.ofNat 32 b.val <<< 8) = BitVec.ofNat 32 b.val := by decide +kernel
theorem slide16 : ∀ b : Fin 256, steps 16 (BitVec.ofNat 32 b.val <<< 16) = BitVec.ofNat 32 b.val := by decide +kernel
theorem slide24 : ∀ b : Fin 256, steps 24 (BitVec.ofNat 32 b.val <<< 24) = BitVec.ofNat 32 b.val := by decide +kernel
theorem slide (n : Nat) (x y : W) (b : Nat) (h : steps n y = BitVec.ofNat 32 b) : up (steps n x) b = steps (n + 8) (x ^^^ y) := by
  rw [steps_add, steps_xor n x y, h]; rfl
theorem four (s : W) {b0 b1 b2 b3 : Nat} (h1 : b1 < 256) (h2 : b2 < 256) (h3 : b3 < 256) :
    up (up (up (up s b0) b1) b2) b3 = steps 32 (s ^^^ BitVec.ofNat 32 b0 ^^^ BitVec.ofNat 32 b1 <<< 8 ^^^ BitVec.ofNat 32 b2 <<< 16 ^^^ BitVec.ofNat 32 b3 <<< 24) := by
  have e1 : up (up s b0) b1 = steps 16 (s ^^^ BitVec.ofNat 32 b0 ^^^ BitVec.ofNat 32 b1 <<< 8) := slide 8 _ _ b1 (slide8 ⟨b1, h1⟩)
  have e2 : up (up (up s b0) b1) b2 = steps 24 (s ^^^ BitVec.ofNat 32 b0 ^^^ BitVec.ofNat 32 b1 <<< 8 ^^^ BitVec.ofNat 32 b2 <<< 16) := by
    rw [e1]; exact slide 16 _ _ b2 (slide16 ⟨b2, h2⟩)
  rw [e2]; exact slide 24 _ _ b3 (slide24 ⟨b3, h3⟩)
theorem bytes_of (v : W) : BitVec.ofNat 32 (v.toNat % 256) ^^^ BitVec.ofNat 32 (v.toNat / 256 % 256) <<< 8 ^^^ BitVec.ofNat 32 (v.toNat / 65536 % 256) <<< 16 ^^^ BitVec.ofNat 32 (v.toNat / 16777216 % 256) <<< 24 = v := by
  apply BitVec.eq_of_getLsbD_eq
  intro i hi
  have g : ∀ k j, (BitVec.ofNat 32 (v.toNat / 2 ^ k % 2 ^ 8)).getLsbD j = (decide (j < 8) && v.getLsbD (k + j)) := fun k j => by
    rw [BitVec.getLsbD_ofNat, Nat.testBit_mod_two_pow, Nat.testBit_div_two_pow]
    unfold BitVec.getLsbD
    by_cases h8 : j < 8
    · simp [h8, show j < 32 by omega, Nat.add_comm]
    · simp [h8]
  have g0 := g 0
  have g8 := g 8
  have g16 := g 16
  have g24 := g 24
  simp only [Nat.pow_zero, Nat.div_one, show (2 : Nat) ^ 8 = 256 from rfl, show (2 : Nat) ^ 16 = 65536 from rfl, show (2 : Nat) ^ 24 = 16777216 from rfl, Nat.zero_add] at g0 g8 g16 g24
  simp only [BitVec.getLsbD_xor, BitVec.getLsbD_shiftLeft, g0, g8, g16, g24]
  rcases (show i < 8 ∨ (8 ≤ i ∧ i < 16) ∨ (16 ≤ i ∧ i < 24) ∨ 24 ≤ i by omega) with h | h | h | h
  · simp [h, hi, show i < 16 by omega, show i < 24 by omega]
  · have e : 8 + (i - 8) = i := by omega
    simp [hi, show ¬ i < 8 by omega, show i - 8 < 8 by omega, show i < 16 by omega, show i < 24 by omega, e]
  · have e : 16 + (i - 16) = i := by omega
    simp [hi, show ¬ i < 8 by omega, show ¬ i - 8 < 8 by omega, show ¬ i < 16 by omega, show i - 16 < 8 by omega, show i < 24 by omega, e]
  · have e : 24 + (i - 24) = i := by omega
    simp [hi, show ¬ i < 8 by omega, show ¬ i - 8 < 8 by omega, show ¬ i < 16 by omega, show ¬ i - 16 < 8 by omega, show ¬ i < 24 by omega, show i - 24 < 8 by omega, e]
/-- with its own sum behind, the lowest byte first, whatever was summed comes to one sum -/
theorem at_end (s : W) : up (up (up (up s ((~~~s).toNat % 256)) ((~~~s).toNat / 256 % 256)) ((~~~s).toNat / 65536 % 256)) ((~~~s).toNat / 16777216 % 256) = 0xB798B438#32 := by
  rw [four s (Nat.mod_lt _ (by decide)) (Nat.mod_lt _ (by decide)) (Nat.mod_lt _ (by decide))]
  have h := bytes_of (~~~s)
  rw [BitVec.xor_assoc, BitVec.xor_assoc, BitVec.xor_assoc, ← BitVec.xor_assoc (BitVec.ofNat 32 ((~~~s).toNat % 256)), ← BitVec.xor_assoc (BitVec.ofNat 32 ((~~~s).toNat % 256) ^^^ _)]
  rw [h]
  rw [show s ^^^ ~~~s = BitVec.allOnes 32 by
    apply BitVec.eq_of_getLsbD_eq
    intro i hi
    simp only [BitVec.getLsbD_xor, BitVec.getLsbD_not, BitVec.getLsbD_allOnes, hi, decide_true, Bool.true_and]
    cases s.getLsbD i <;> rfl]
  decide +kernel
end Go.Proofs.YtfkoomldncfdnaaGreat.Cr
namespace Go.Proofs.YtfkoomldncfdnaaGreat
open Go.RowKit Mx

/-- a word as the number that a uint32 is -/
def bi (x : Cr.W) : Int := (x.toNat : Int)
theorem bi_lo (x : Cr.W) : 0 ≤ bi x := Int.natCast_nonneg _
theorem bi_hi (x : Cr.W) : bi x < 4294967296 := by have := x.isLt; unfold bi; omega
theorem ofInt_bi (x : Cr.W) : BitVec.ofInt 32 (bi x) = x := by
  unfold bi; rw [BitVec.ofInt_natCast]
  apply BitVec.eq_of_toNat_eq; rw [BitVec.toNat_ofNat]; exact Nat.mod_eq_of_lt x.isLt
theorem bi_inj {x y : Cr.W} (h : bi x = bi y) : x = y := by rw [← ofInt_bi x, h, ofInt_bi]
theorem bi_toNat (x : Cr.W) : (bi x).toNat = x.toNat := Int.toNat_natCast _
theorem wrap_bi (x : Cr.W) : IntKind.u32.wrap (x.toNat : Int) = bi x := by
  rw [IntKind.wrap_u32]; have := x.isLt; unfold bi; omega
theorem of_bi (n : Int) (h0 : 0 ≤ n) (h1 : n < 4294967296) : bi (BitVec.ofInt 32 n) = n := by
  obtain ⟨k, rfl⟩ := Int.eq_ofNat_of_zero_le h0
  unfold bi
  rw [BitVec.ofInt_natCast, BitVec.toNat_ofNat]
  omega
theorem xor_bi (x y : Cr.W) : bits BinOp.xor IntKind.u32 (bi x) (bi y) = bi (x ^^^ y) := by
  show IntKind.u32.wrap ((BitVec.ofInt 32 (bi x) ^^^ BitVec.ofInt 32 (bi y)).toNat : Int) = _
  rw [ofInt_bi, ofInt_bi, wrap_bi]
theorem and_bi (x y : Cr.W) : bits BinOp.and IntKind.u32 (bi x) (bi y) = bi (x &&& y) := by
  show IntKind.u32.wrap ((BitVec.ofInt 32 (bi x) &&& BitVec.ofInt 32 (bi y)).toNat : Int) = _
  rw [ofInt_bi, ofInt_bi, wrap_bi]
theorem bit_of (x : Cr.W) : bits BinOp.and IntKind.u32 (bi x) 1 = if x.getLsbD 0 = true then 1 else 0 := by
  have h : bits BinOp.and IntKind.u32 (bi x) (2 ^ 1 - 1) = bi x % 2 ^ 1 := bits_mask .u32 32 (by decide) (fun m h0 h1 => by rw [IntKind.wrap_u32]; omega) 1 (by decide) (bi x) (bi_lo x) (bi_hi x)
  have h2 : bits BinOp.and IntKind.u32 (bi x) 1 = bi x % (2 : Int) := h
  rw [h2]
  have : x.getLsbD 0 = decide (x.toNat % 2 = 1) := by
    unfold BitVec.getLsbD; rw [Nat.testBit_zero]
  rw [this]
  unfold bi
  by_cases e : x.toNat % 2 = 1
  · rw [if_pos (by simpa using e)]; omega
  · rw [if_neg (by simpa using e)]; omega
theorem half_bi (x : Cr.W) : bi x / (2 : Int) = bi (x >>> (1 : Nat)) := by
  unfold bi; rw [BitVec.toNat_ushiftRight, Nat.shiftRight_eq_div_pow]; omega
theorem poly_bi : (2197175160 : Int) = bi Cr.poly := by decide
theorem ones_bi : (4294967295 : Int) = bi (BitVec.allOnes 32) := by decide
theorem not_bi (x : Cr.W) : bits BinOp.xor IntKind.u32 (bi x) 4294967295 = bi (~~~x) := by
  rw [ones_bi, xor_bi, BitVec.xor_allOnes]
theorem not_bi' (x : Cr.W) : bits BinOp.xor IntKind.u32 4294967295 (bi x) = bi (~~~x) := by
  rw [ones_bi, xor_bi, BitVec.allOnes_xor]
theorem not_max (x : Cr.W) : bits BinOp.xor IntKind.u32 IntKind.u32.max (bi x) = bi (~~~x) := by
  rw [show IntKind.u32.max = 4294967295 by decide]; exact not_bi' x
theorem byte_bi (x : Cr.W) (a : Fe) : bits BinOp.xor IntKind.u32 (bi x) (fi a) = bi (x ^^^ BitVec.ofNat 32 a.nat) := by
  have h : fi a = bi (BitVec.ofNat 32 a.nat) := by
    have := a.nat_lt
    unfold fi bi; rw [BitVec.toNat_ofNat]; omega
  rw [h, xor_bi]
theorem step_even {x : Cr.W} (h : x.getLsbD 0 = false) : bi x / (2 : Int) = bi (Cr.step x) := by
  unfold Cr.step; rw [if_neg (by rw [h]; decide)]; exact half_bi x
theorem step_odd {x : Cr.W} (h : x.getLsbD 0 = true) : bits BinOp.xor IntKind.u32 (bi x / (2 : Int)) 2197175160 = bi (Cr.step x) := by
  unfold Cr.step; rw [if_pos h, half_bi, poly_bi, xor_bi]
theorem ret_u32 {a b : Int} (h : a = b) : Ending.returned (.int .u32 a) = .returned (.int .u32 b) := by rw [h]
theorem val_u32 {a b : Int} (h : a = b) : Value.int .u32 a = .int .u32 b := by rw [h]
/-- the sum s of what is ahead, gone on with the n bytes of r -/
def crc (s : Cr.W) (r : Nat → Fe) (n : Nat) : Cr.W := ~~~(Cr.ups (~~~s) (fun i => (r i).nat) n)
end Go.Proofs.YtfkoomldncfdnaaGreat
namespace Cd
open Pt (Tx)

/-- the lowest byte of a number -/
def b8 (n : Int) : UInt8 := UInt8.ofNat (n % 256).toNat
theorem b8_nat (n : Int) : ((b8 n).toNat : Int) = n % 256 := by
  unfold b8
  rw [UInt8.toNat_ofNat']
  have h : (n % 256).toNat < 256 := by omega
  rw [Nat.mod_eq_of_lt (by simpa using h)]
  omega
theorem b8_of {n : Int} {c : UInt8} (h : (c.toNat : Int) = n % 256) : c = b8 n := by
  apply UInt8.toNat.inj
  have := b8_nat n
  omega
theorem b8_self (c : UInt8) : b8 (c.toNat : Int) = c := (b8_of (by have := c.toNat_lt; omega)).symm
/-- a number's low four bytes, the highest first -/
def be4 (n : Int) : Tx := [b8 (n / 16777216), b8 (n / 65536), b8 (n / 256), b8 n]
/-- the number that bytes are -/
def num (l : Tx) : Int := l.foldl (fun n c => n * 256 + (c.toNat : Int)) 0
theorem num_snoc (l : Tx) (c : UInt8) : num (l ++ [c]) = num l * 256 + (c.toNat : Int) := by simp [num]
theorem num_lo (l : Tx) : 0 ≤ num l := by
  unfold num
  suffices h : ∀ (l : Tx) (n : Int), 0 ≤ n → 0 ≤ l.foldl (fun n c => n * 256 + (c.toNat : Int)) n from h l 0 (by omega)
  intro l
  induction l with
  | nil => intro n h; exact h
  | cons c l ih => intro n h; exact ih _ (by show 0 ≤ n * 256 + (c.toNat : Int); omega)
theorem num_hi (l : Tx) : num l < 256 ^ l.length := by
  suffices h : ∀ k, k ≤ l.length → num (l.take k) < 256 ^ k by
    have := h l.length (Nat.le_refl _)
    rwa [List.take_of_length_le (Nat.le_refl _)] at this
  intro k
  induction k with
  | zero => intro _; simp [num]
  | succ k ih =>
    intro hk
    have h1 := ih (by omega)
    rw [List.take_succ_eq_append_getElem (by omega), num_snoc]
    have hc := (l[k]).toNat_lt
    have e : (256 : Int) ^ (k + 1) = 256 ^ k * 256 := by rw [Int.pow_succ]
    rw [e]; omega
theorem num_be4 (n : Int) : num (be4 n) = n % 4294967296 := by
  unfold num be4
  simp only [List.foldl_cons, List.foldl_nil, b8_nat]
  omega
theorem be4_len (n : Int) : (be4 n).length = 4 := rfl
/-- a text's bytes: its length, and its beginning -/
def tb (s : Tx) : Tx := b8 ((s.take 255).length : Int) :: s.take 255
theorem tb_len (s : Tx) : (tb s).length = 1 + min 255 s.length := by simp [tb]; omega
/-- what is left to read, and whether bytes were missing -/
abbrev St := Tx × Bool
/-- the next n bytes, and what is left behind them -/
def tk (n : Nat) (s : St) : Tx := if s.1.length < n then [] else s.1.take n
def af (n : Nat) (s : St) : St := if s.1.length < n then ([], true) else (s.1.drop n, s.2)
theorem tk_no {n : Nat} {s : St} (h : s.1.length < n) : tk n s = [] := if_pos h
theorem af_no {n : Nat} {s : St} (h : s.1.length < n) : af n s = ([], true) := if_pos h
theorem tk_yes {n : Nat} {s : St} (h : ¬ s.1.length < n) : tk n s = s.1.take n := if_neg h
theorem af_yes {n : Nat} {s : St} (h : ¬ s.1.length < n) : af n s = (s.1.drop n, s.2) := if_neg h
theorem tk_le (n : Nat) (s : St) : (tk n s).length ≤ n := by
  unfold tk; split
  · simp
  · simp; omega
theorem tk_len_le (n : Nat) (s : St) : (tk n s).length ≤ s.1.length := by
  unfold tk; split
  · simp
  · simp; omega
theorem af_le (n : Nat) (s : St) : (af n s).1.length ≤ s.1.length := by
  unfold af; split
  · simp
  · simp
/-- one that is bad has nothing left -/
def Ok (s : St) : Prop := s.2 = true → s.1 = []
theorem Ok.af {s : St} (h : Ok s) (n : Nat) : Ok (af n s) := by
  unfold Cd.af Ok; split
  · intro _; rfl
  · intro h'; rw [h h']; simp
def byt (s : St) : UInt8 := (tk 1 s).headD 0
def txt (s : St) : Tx := tk (byt s).toNat (af 1 s)
def afT (s : St) : St := af (byt s).toNat (af 1 s)
theorem tk_app (n : Nat) (a b : Tx) (bad : Bool) (h : a.length = n) : tk n (a ++ b, bad) = a := by
  unfold tk; rw [if_neg (by simp; omega)]; simp [← h]
theorem af_app (n : Nat) (a b : Tx) (bad : Bool) (h : a.length = n) : af n (a ++ b, bad) = (b, bad) := by
  unfold af; rw [if_neg (by simp; omega)]; simp [← h]
theorem byt_cons (c : UInt8) (b : Tx) (bad : Bool) : byt (c :: b, bad) = c := by
  unfold byt
  rw [show c :: b = [c] ++ b from rfl, tk_app 1 [c] b bad rfl]; rfl
theorem txt_tb (s b : Tx) (bad : Bool) : txt (tb s ++ b, bad) = s.take 255 := by
  have hl : (s.take 255).length ≤ 255 := by simp; omega
  have hb : (b8 ((s.take 255).length : Int)).toNat = (s.take 255).length := by have := b8_nat ((s.take 255).length : Int); omega
  unfold txt tb
  rw [List.cons_append, byt_cons, hb, show b8 ((s.take 255).length : Int) :: (s.take 255 ++ b) = [b8 ((s.take 255).length : Int)] ++ (s.take 255 ++ b) from rfl, af_app 1 _ _ bad rfl, tk_app _ _ _ bad rfl]
theorem afT_tb (s b : Tx) (bad : Bool) : afT (tb s ++ b, bad) = (b, bad) := by
  have hl : (s.take 255).length ≤ 255 := by simp; omega
  have hb : (b8 ((s.take 255).length : Int)).toNat = (s.take 255).length := by have := b8_nat ((s.take 255).length : Int); omega
  unfold afT tb
  rw [List.cons_append, byt_cons, hb, show b8 ((s.take 255).length : Int) :: (s.take 255 ++ b) = [b8 ((s.take 255).length : Int)] ++ (s.take 255 ++ b) from rfl, af_app 1 _ _ bad rfl, af_app _ _ _ bad rfl]
end Cd
namespace Go.Proofs.YtfkoomldncfdnaaGreat
open Go.RowKit
open Pt (Tx)

/-- the sum of bytes -/
def sumL (l : Tx) : Int := bi (crc 0#32 (rowL l) l.length)
theorem sumL_lo (l : Tx) : 0 ≤ sumL l := bi_lo _
theorem sumL_hi (l : Tx) : sumL l < 4294967296 := bi_hi _
theorem sumL_one {l l' : Tx} (hl : l.length = l'.length) {p : Nat} (hp : p < l.length) (hne : l.getD p 0 ≠ l'.getD p 0) (he : ∀ i, i < l.length → i ≠ p → l.getD i 0 = l'.getD i 0) : sumL l ≠ sumL l' := by
  intro h
  have h1 := bi_inj h
  unfold crc at h1
  rw [← hl] at h1
  have h' : Cr.ups (~~~0#32) (fun i => (rowL l i).nat) l.length = Cr.ups (~~~0#32) (fun i => (rowL l' i).nat) l.length := by
    have := congrArg (fun x => ~~~x) h1
    simpa using this
  refine Cr.ups_one hp (rowL l p).nat_lt (rowL l' p).nat_lt ?_ (fun i hi hi' => ?_) h'
  · show (l.getD p 0).toNat ≠ (l'.getD p 0).toNat
    exact fun e => hne (UInt8.toNat.inj e)
  · show (l.getD i 0).toNat = (l'.getD i 0).toNat
    rw [he i hi hi']

namespace Fm
open Cd
/-- a unit -/
structure U where
  kind : Int
  label : Int
  number : Int
  load : Tx
theorem U.eta (u : U) : (⟨u.kind, u.label, u.number, u.load⟩ : U) = u := rfl
def zero : U := ⟨0, 0, 0, []⟩
def room (k : Int) : Nat := if k = 6 then 79 else 64
theorem room_le (k : Int) : room k ≤ 79 := by unfold room; split <;> omega
theorem room_ge (k : Int) : 64 ≤ room k := by unfold room; split <;> omega
def argOk (u : U) : Prop := 1 ≤ u.kind ∧ u.kind ≤ 6 ∧ 1 ≤ u.label ∧ u.label ≤ 2147483647 ∧ 0 ≤ u.number ∧ u.number ≤ 2147483647
instance (u : U) : Decidable (argOk u) := by unfold argOk; exact inferInstance
def err (u : U) : Int := if argOk u then (if room u.kind < u.load.length then 4 else 0) else 1
/-- it has a block -/
def Ok (u : U) : Prop := argOk u ∧ u.load.length ≤ room u.kind
instance (u : U) : Decidable (Ok u) := by unfold Ok; exact inferInstance
theorem err_ok {u : U} (h : Ok u) : err u = 0 := by unfold err; rw [if_pos h.1, if_neg (by have := h.2; omega)]
theorem err_arg {u : U} (h : ¬ argOk u) : err u = 1 := by unfold err; rw [if_neg h]
theorem err_long {u : U} (h : argOk u) (h' : room u.kind < u.load.length) : err u = 4 := by unfold err; rw [if_pos h, if_pos h']
theorem err_zero {u : U} : err u = 0 ↔ Ok u := by
  unfold err Ok
  by_cases h : argOk u
  · rw [if_pos h]
    by_cases h' : room u.kind < u.load.length
    · rw [if_pos h']; exact ⟨fun e => absurd e (by decide), fun e => absurd e.2 (by omega)⟩
    · rw [if_neg h']; exact ⟨fun _ => ⟨h, by omega⟩, fun _ => rfl⟩
  · rw [if_neg h]; exact ⟨fun e => absurd e (by decide), fun e => absurd e.1 h⟩
def head (u : U) : Tx := [b8 u.kind] ++ be4 u.label ++ be4 u.number ++ [b8 ((u.load.length : Int) / 256)] ++ [b8 (u.load.length : Int)]
theorem head_len (u : U) : (head u).length = 11 := rfl
def pad (u : U) : Tx := List.replicate (room u.kind - u.load.length) 0
def body (u : U) : Tx := head u ++ u.load ++ pad u
def blk (u : U) : Tx := body u ++ be4 (sumL (body u))
/-- what Put answers -/
def put (u : U) : Tx := if Ok u then blk u else []
theorem put_ok {u : U} (h : Ok u) : put u = blk u := if_pos h
theorem put_no {u : U} (h : ¬ Ok u) : put u = [] := if_neg h
theorem pad_len (u : U) : (pad u).length = room u.kind - u.load.length := List.length_replicate
theorem body_len {u : U} (h : Ok u) : (body u).length = 11 + room u.kind := by
  have := h.2
  unfold body; rw [List.length_append, List.length_append, head_len, pad_len]; omega
theorem blk_len {u : U} (h : Ok u) : (blk u).length = 15 + room u.kind := by
  unfold blk; rw [List.length_append, body_len h, be4_len]; omega
theorem put_le (u : U) : (put u).length ≤ 94 := by
  by_cases h : Ok u
  · rw [put_ok h, blk_len h]; have := room_le u.kind; omega
  · rw [put_no h]; simp
/-- what bytes say: the state of one who reads them, behind each item -/
def s1 (b : Tx) : St := af 1 (b, false)
def s2 (b : Tx) : St := af 4 (s1 b)
def s3 (b : Tx) : St := af 4 (s2 b)
def s4 (b : Tx) : St := af 1 (s3 b)
def s5 (b : Tx) : St := af 1 (s4 b)
theorem s_len (b : Tx) : (s1 b).1.length ≤ b.length ∧ (s2 b).1.length ≤ b.length ∧ (s3 b).1.length ≤ b.length ∧ (s4 b).1.length ≤ b.length ∧ (s5 b).1.length ≤ b.length := by
  have h1 : (s1 b).1.length ≤ b.length := af_le 1 (b, false)
  have h2 : (s2 b).1.length ≤ (s1 b).1.length := af_le 4 _
  have h3 : (s3 b).1.length ≤ (s2 b).1.length := af_le 4 _
  have h4 : (s4 b).1.length ≤ (s3 b).1.length := af_le 1 _
  have h5 : (s5 b).1.length ≤ (s4 b).1.length := af_le 1 _
  omega
def kindOf (b : Tx) : Int := ((byt (b, false)).toNat : Int)
def labelOf (b : Tx) : Int := num (tk 4 (s1 b))
def numberOf (b : Tx) : Int := num (tk 4 (s2 b))
def sizeOf (b : Tx) : Nat := 256 * (byt (s3 b)).toNat + (byt (s4 b)).toNat
theorem sizeOf_lt (b : Tx) : sizeOf b < 65536 := by
  unfold sizeOf; have := (byt (s3 b)).toNat_lt; have := (byt (s4 b)).toNat_lt; omega
/-- what bytes say where they say it -/
def parse (b : Tx) : U := ⟨kindOf (b.take 11), labelOf (b.take 11), numberOf (b.take 11), (b.drop 11).take (sizeOf (b.take 11))⟩
/-- what Get answers: unit and error -/
def Good (b : Tx) : Prop := Ok (parse b) ∧ blk (parse b) = b
instance (b : Tx) : Decidable (Good b) := by unfold Good; exact inferInstance
def got (b : Tx) : U := if Good b then parse b else zero
def gotE (b : Tx) : Int := if Good b then 0 else 2
theorem got_yes {b : Tx} (h : Good b) : got b = parse b := if_pos h
theorem got_no {b : Tx} (h : ¬ Good b) : got b = zero := if_neg h
theorem gotE_yes {b : Tx} (h : Good b) : gotE b = 0 := if_pos h
theorem gotE_no {b : Tx} (h : ¬ Good b) : gotE b = 2 := if_neg h
/-- eleven bytes and more, as they are read -/
theorem split11 {b : Tx} (h : 11 ≤ b.length) : ∃ (k x y : UInt8) (L N rest : Tx), L.length = 4 ∧ N.length = 4 ∧ b = [k] ++ (L ++ (N ++ ([x] ++ ([y] ++ rest)))) := by
  match b, h with
  | k :: a1 :: a2 :: a3 :: a4 :: b1 :: b2 :: b3 :: b4 :: x :: y :: rest, _ => exact ⟨k, x, y, [a1, a2, a3, a4], [b1, b2, b3, b4], rest, rfl, rfl, rfl⟩
theorem reads (k x y : UInt8) (L N rest : Tx) (hL : L.length = 4) (hN : N.length = 4) :
    kindOf ([k] ++ (L ++ (N ++ ([x] ++ ([y] ++ rest))))) = (k.toNat : Int) ∧ labelOf ([k] ++ (L ++ (N ++ ([x] ++ ([y] ++ rest))))) = num L ∧ numberOf ([k] ++ (L ++ (N ++ ([x] ++ ([y] ++ rest))))) = num N
      ∧ sizeOf ([k] ++ (L ++ (N ++ ([x] ++ ([y] ++ rest))))) = 256 * x.toNat + y.toNat ∧ s5 ([k] ++ (L ++ (N ++ ([x] ++ ([y] ++ rest))))) = (rest, false) := by
  have e1 : s1 ([k] ++ (L ++ (N ++ ([x] ++ ([y] ++ rest))))) = (L ++ (N ++ ([x] ++ ([y] ++ rest))), false) := af_app 1 _ _ _ rfl
  have e2 : s2 ([k] ++ (L ++ (N ++ ([x] ++ ([y] ++ rest))))) = (N ++ ([x] ++ ([y] ++ rest)), false) := by unfold s2; rw [e1]; exact af_app 4 _ _ _ hL
  have e3 : s3 ([k] ++ (L ++ (N ++ ([x] ++ ([y] ++ rest))))) = ([x] ++ ([y] ++ rest), false) := by unfold s3; rw [e2]; exact af_app 4 _ _ _ hN
  have e4 : s4 ([k] ++ (L ++ (N ++ ([x] ++ ([y] ++ rest))))) = ([y] ++ rest, false) := by unfold s4; rw [e3]; exact af_app 1 _ _ _ rfl
  have e5 : s5 ([k] ++ (L ++ (N ++ ([x] ++ ([y] ++ rest))))) = (rest, false) := by unfold s5; rw [e4]; exact af_app 1 _ _ _ rfl
  refine ⟨?_, ?_, ?_, ?_, e5⟩
  · unfold kindOf; rw [show byt ([k] ++ (L ++ (N ++ ([x] ++ ([y] ++ rest)))), false) = k from byt_cons k _ _]
  · unfold labelOf; rw [e1, tk_app 4 _ _ _ hL]
  · unfold numberOf; rw [e2, tk_app 4 _ _ _ hN]
  · unfold sizeOf; rw [e3, e4, show byt ([x] ++ ([y] ++ rest), false) = x from byt_cons x _ _, show byt ([y] ++ rest, false) = y from byt_cons y _ _]
theorem take11 (k x y : UInt8) (L N rest : Tx) (hL : L.length = 4) (hN : N.length = 4) :
    ([k] ++ (L ++ (N ++ ([x] ++ ([y] ++ rest))))).take 11 = [k] ++ (L ++ (N ++ ([x] ++ ([y] ++ [])))) ∧ ([k] ++ (L ++ (N ++ ([x] ++ ([y] ++ rest))))).drop 11 = rest := by
  have e : [k] ++ (L ++ (N ++ ([x] ++ ([y] ++ rest)))) = ([k] ++ (L ++ (N ++ ([x] ++ ([y] ++ []))))) ++ rest := by simp
  have hl : ([k] ++ (L ++ (N ++ ([x] ++ ([y] ++ []))))).length = 11 := by simp; omega
  rw [e]
  exact ⟨List.take_left' hl, List.drop_left' hl⟩
/-- of eleven bytes and more the first eleven alone are read -/
theorem reads11 {b : Tx} (h : 11 ≤ b.length) : kindOf (b.take 11) = kindOf b ∧ labelOf (b.take 11) = labelOf b ∧ numberOf (b.take 11) = numberOf b ∧ sizeOf (b.take 11) = sizeOf b ∧ s5 b = (b.drop 11, false) := by
  obtain ⟨k, x, y, L, N, rest, hL, hN, rfl⟩ := split11 h
  obtain ⟨h1, h2⟩ := take11 k x y L N rest hL hN
  obtain ⟨a1, a2, a3, a4, a5⟩ := reads k x y L N rest hL hN
  obtain ⟨b1, b2, b3, b4, b5⟩ := reads k x y L N [] hL hN
  rw [h1, h2]
  exact ⟨b1.trans a1.symm, b2.trans a2.symm, b3.trans a3.symm, b4.trans a4.symm, a5⟩
theorem be4_num {L : Tx} (h : L.length = 4) : be4 (num L) = L := by
  match L, h with
  | [a, b, c, d], _ =>
    have ha := a.toNat_lt; have hb := b.toNat_lt; have hc := c.toNat_lt; have hd := d.toNat_lt
    unfold be4 num
    simp only [List.foldl_cons, List.foldl_nil]
    rw [← b8_of (c := a) (by omega), ← b8_of (c := b) (by omega), ← b8_of (c := c) (by omega), ← b8_of (c := d) (by omega)]
theorem parse_blk {u : U} (h : Ok u) : parse (blk u) = u := by
  have hu := h
  obtain ⟨⟨h1, h2, h3, h4, h5, h6⟩, h7⟩ := h
  have hr := room_le u.kind
  have e : blk u = [b8 u.kind] ++ (be4 u.label ++ (be4 u.number ++ ([b8 ((u.load.length : Int) / 256)] ++ ([b8 (u.load.length : Int)] ++ (u.load ++ (pad u ++ be4 (sumL (body u)))))))) := by
    conv => lhs; unfold blk; rw [show body u = head u ++ u.load ++ pad u from rfl]; unfold head
    simp only [List.append_assoc, List.cons_append, List.nil_append]
    rfl
  obtain ⟨e1, e2⟩ := take11 (b8 u.kind) (b8 ((u.load.length : Int) / 256)) (b8 (u.load.length : Int)) (be4 u.label) (be4 u.number) (u.load ++ (pad u ++ be4 (sumL (body u)))) rfl rfl
  obtain ⟨b1, b2, b3, b4, b5⟩ := reads (b8 u.kind) (b8 ((u.load.length : Int) / 256)) (b8 (u.load.length : Int)) (be4 u.label) (be4 u.number) [] rfl rfl
  unfold parse
  rw [e, e1, e2, b1, b2, b3, b4, num_be4, num_be4, b8_nat]
  have g1 := b8_nat ((u.load.length : Int) / 256)
  have g2 := b8_nat (u.load.length : Int)
  have g3 : 256 * (b8 ((u.load.length : Int) / 256)).toNat + (b8 (u.load.length : Int)).toNat = u.load.length := by omega
  rw [g3, List.take_left' rfl, show u.kind % 256 = u.kind by omega, show u.label % 4294967296 = u.label by omega, show u.number % 4294967296 = u.number by omega]
theorem good_blk {u : U} (h : Ok u) : Good (blk u) := by unfold Good; rw [parse_blk h]; exact ⟨h, rfl⟩
theorem blk_inj {u v : U} (h : Ok u) (h' : Ok v) (e : blk u = blk v) : u = v := by rw [← parse_blk h, e, parse_blk h']
/-- of bytes that are a block there are many -/
theorem good_len {b : Tx} (h : Good b) : b.length = 15 + room (parse b).kind := by rw [← blk_len h.1, h.2]
theorem good_ge {b : Tx} (h : Good b) : 79 ≤ b.length := by have := good_len h; have := room_ge (parse b).kind; omega
theorem good_le {b : Tx} (h : Good b) : b.length ≤ 94 := by have := good_len h; have := room_le (parse b).kind; omega
/-- one who reads all of the bytes finds them bad where they are too few -/
theorem af_bad {n : Nat} {s : St} (h : (af n s).2 = false) : s.2 = false ∧ n ≤ s.1.length ∧ (af n s).1.length + n = s.1.length := by
  unfold af at h ⊢
  by_cases e : s.1.length < n
  · rw [if_pos e] at h; cases h
  · rw [if_neg e] at h ⊢; exact ⟨h, by omega, by simp; omega⟩
theorem s5_bad {b : Tx} (h : (s5 b).2 = false) : 11 ≤ b.length := by
  obtain ⟨h4, h4', h4''⟩ := af_bad h
  obtain ⟨h3, h3', h3''⟩ := af_bad h4
  obtain ⟨h2, h2', h2''⟩ := af_bad h3
  obtain ⟨h1, h1', h1''⟩ := af_bad h2
  obtain ⟨h0, h0', h0''⟩ := af_bad h1
  simp only at h0' h0''
  have e1 : (af 1 (b, false)).1.length = (s1 b).1.length := rfl
  have e2 : (af 4 (s1 b)).1.length = (s2 b).1.length := rfl
  have e3 : (af 4 (s2 b)).1.length = (s3 b).1.length := rfl
  have e4 : (af 1 (s3 b)).1.length = (s4 b).1.length := rfl
  omega
/-- the document's own way: bad, or too few bytes left -/
theorem good_not_bad {b : Tx} (h : Good b) : (s5 b).2 = false ∧ sizeOf b ≤ (s5 b).1.length := by
  have hg := good_ge h
  have hl := good_len h
  obtain ⟨r1, r2, r3, r4, r5⟩ := reads11 (b := b) (by omega)
  have h2 : (parse b).load.length ≤ room (parse b).kind := h.1.2
  have h3 : (parse b).load.length = min (sizeOf b) (b.length - 11) := by
    rw [← r4]; unfold parse; rw [List.length_take, List.length_drop]
  rw [r5]
  refine ⟨rfl, ?_⟩
  rw [h3] at h2
  have h4 : (b.drop 11, false).1.length = b.length - 11 := List.length_drop
  rw [h4]
  generalize room (parse b).kind = m at hl h2
  generalize sizeOf b = z at h2 ⊢
  omega
theorem parse_full {b : Tx} (h : (s5 b).2 = false) (h' : sizeOf b ≤ (s5 b).1.length) : parse b = ⟨kindOf b, labelOf b, numberOf b, tk (sizeOf b) (s5 b)⟩ := by
  obtain ⟨r1, r2, r3, r4, r5⟩ := reads11 (b := b) (s5_bad h)
  unfold parse
  rw [r1, r2, r3, r4, tk_yes (by omega), r5]
/-- the first byte of a block is its kind -/
theorem blk_head (u : U) : ∃ t, blk u = b8 u.kind :: t := by
  unfold blk body head
  simp only [List.cons_append, List.nil_append]
  exact ⟨_, rfl⟩
theorem kind_head {b : Tx} (h : Good b) : ∃ t, b = b8 (parse b).kind :: t := by
  obtain ⟨t, ht⟩ := blk_head (parse b)
  exact ⟨t, h.2.symm.trans ht⟩
theorem parse_kind {b c : Tx} (hb : Good b) (hc : Good c) (h : b.head? = c.head?) : (parse b).kind = (parse c).kind := by
  obtain ⟨t, ht⟩ := kind_head hb
  obtain ⟨t', ht'⟩ := kind_head hc
  have e1 : b.head? = some (b8 (parse b).kind) := (congrArg List.head? ht).trans rfl
  have e2 : c.head? = some (b8 (parse c).kind) := (congrArg List.head? ht').trans rfl
  rw [e1, e2] at h
  have h' := Option.some.inj h
  have g1 := b8_nat (parse b).kind
  have g2 := b8_nat (parse c).kind
  rw [h'] at g1
  obtain ⟨k1, k2, -⟩ := hb.1.1
  obtain ⟨k3, k4, -⟩ := hc.1.1
  omega
/-- of two that begin alike and are not as long one is no block -/
theorem not_both {b c : Tx} (hb : Good b) (h : b.head? = c.head?) (hl : b.length ≠ c.length) : ¬ Good c := fun hc => by
  have h1 := good_len hb
  have h2 := good_len hc
  rw [parse_kind hb hc h] at h1
  omega
theorem cut_no {b : Tx} (hb : Good b) {n : Nat} (hn : n < b.length) : ¬ Good (b.take n) := by
  by_cases h0 : n = 0
  · subst h0; intro h; have := good_ge h; simp at this
  · refine not_both hb ?_ (by simp; omega)
    cases b with
    | nil => simp at hn
    | cons c l =>
      obtain ⟨m, rfl⟩ : ∃ m, n = m + 1 := ⟨n - 1, by omega⟩
      rfl
theorem more_no {b : Tx} (hb : Good b) (c : UInt8) : ¬ Good (b ++ [c]) := by
  refine not_both hb ?_ (by simp)
  cases b with
  | nil => have := good_ge hb; simp at this
  | cons d l => rfl
theorem be4_inj {m n : Int} (h0 : 0 ≤ m) (h1 : m < 4294967296) (h2 : 0 ≤ n) (h3 : n < 4294967296) (h : be4 m = be4 n) : m = n := by
  have := congrArg num h
  rw [num_be4, num_be4] at this
  omega
theorem getD_set (l : Tx) (p i : Nat) (x : UInt8) (hp : p < l.length) : (l.set p x).getD i 0 = if i = p then x else l.getD i 0 := by
  rw [List.getD_eq_getElem?_getD, List.getElem?_set, List.getD_eq_getElem?_getD]
  by_cases e : p = i
  · subst e; rw [if_pos rfl, if_pos rfl, if_pos hp]; rfl
  · rw [if_neg e, if_neg (fun h => e h.symm)]
theorem getD_take (l : Tx) {n i : Nat} (hi : i < n) : (l.take n).getD i 0 = l.getD i 0 := by
  rw [List.getD_eq_getElem?_getD, List.getElem?_take, if_pos hi, List.getD_eq_getElem?_getD]
/-- a block of which one byte is another is none -/
theorem turn_no {b : Tx} (hb : Good b) {p : Nat} (hp : p < b.length) {x : UInt8} (hx : x ≠ b[p]) : ¬ Good (b.set p x) := by
  intro hc
  have hl1 := good_len hb
  have hl2 := good_len hc
  rw [List.length_set] at hl2
  have hr : room (parse (b.set p x)).kind = room (parse b).kind := by omega
  have e1 := hb.2
  have e2 := hc.2
  have n1 := body_len hb.1
  have n2 := body_len hc.1
  rw [hr] at n2
  have t1 : body (parse b) = b.take (11 + room (parse b).kind) := by
    have : (blk (parse b)).take (11 + room (parse b).kind) = body (parse b) := List.take_left' n1
    rw [← this, e1]
  have t2 : body (parse (b.set p x)) = (b.set p x).take (11 + room (parse b).kind) := by
    have : (blk (parse (b.set p x))).take (11 + room (parse b).kind) = body (parse (b.set p x)) := List.take_left' n2
    rw [← this, e2]
  have d1 : be4 (sumL (body (parse b))) = b.drop (11 + room (parse b).kind) := by
    have : (blk (parse b)).drop (11 + room (parse b).kind) = be4 (sumL (body (parse b))) := List.drop_left' n1
    rw [← this, e1]
  have d2 : be4 (sumL (body (parse (b.set p x)))) = (b.set p x).drop (11 + room (parse b).kind) := by
    have : (blk (parse (b.set p x))).drop (11 + room (parse b).kind) = be4 (sumL (body (parse (b.set p x)))) := List.drop_left' n2
    rw [← this, e2]
  by_cases hpn : p < 11 + room (parse b).kind
  · have hd : (b.set p x).drop (11 + room (parse b).kind) = b.drop (11 + room (parse b).kind) := List.drop_set_of_lt hpn
    rw [hd, ← d1] at d2
    have hs := be4_inj (sumL_lo _) (sumL_hi _) (sumL_lo _) (sumL_hi _) d2
    refine sumL_one (l := body (parse (b.set p x))) (l' := body (parse b)) (n2.trans n1.symm) (p := p) (by omega) ?_ (fun i hi hip => ?_) hs
    · rw [t1, t2, getD_take _ hpn, getD_take _ hpn, getD_set _ _ _ _ hp, if_pos rfl, List.getD_eq_getElem?_getD, List.getElem?_eq_getElem hp]
      exact hx
    · rw [n2] at hi
      rw [t1, t2, getD_take _ hi, getD_take _ hi, getD_set _ _ _ _ hp, if_neg hip]
  · have ht : (b.set p x).take (11 + room (parse b).kind) = b.take (11 + room (parse b).kind) := List.take_set_of_le (by omega)
    rw [ht, ← t1] at t2
    have : blk (parse (b.set p x)) = blk (parse b) := by unfold blk; rw [t2]
    rw [e1, e2] at this
    have h3 : (b.set p x)[p]'(by simpa using hp) = b[p] := by simp only [this]
    rw [List.getElem_set_self] at h3
    exact hx h3
end Fm
end Go.Proofs.YtfkoomldncfdnaaGreat
namespace Go.Proofs.YtfkoomldncfdnaaGreat.Rc
open Pt (Tx)
open Cd

/-- a head -/
structure H where
  path : Tx
  version : Int
  size : Int
  from_ : Int
  len : Int
  serial : Int
  sum : Int
  gone : Bool
def H.zero : H := ⟨[], 0, 0, 0, 0, 0, 0, false⟩
/-- the numbers of a head that may be -/
def Nums (h : H) : Prop := (1 ≤ h.version ∧ h.version ≤ 1073741824) ∧ (1 ≤ h.serial ∧ h.serial ≤ 1073741824) ∧ (0 ≤ h.size ∧ h.size ≤ 4000) ∧ 0 ≤ h.from_ ∧ 0 ≤ h.len ∧ h.from_ + h.len ≤ h.size ∧ (0 < h.len ∨ h.size = 0) ∧ (0 ≤ h.sum ∧ h.sum ≤ 4294967295)
  ∧ (h.gone = true → h.size = 0 ∧ h.from_ = 0 ∧ h.len = 0 ∧ h.sum = 0)
instance (h : H) : Decidable (Nums h) := by unfold Nums; exact inferInstance
def Ok (h : H) : Prop := Pt.right h.path = true ∧ Nums h
instance (h : H) : Decidable (Ok h) := by unfold Ok; exact inferInstance
def goneB (g : Bool) : UInt8 := if g then 1 else 0
/-- the bytes of a head -/
def blk (h : H) : Tx := tb h.path ++ (be4 h.version ++ (be4 h.size ++ (be4 h.from_ ++ (be4 h.len ++ (be4 h.serial ++ (be4 h.sum ++ [goneB h.gone]))))))
/-- what HeadBytes answers -/
def put (h : H) : Tx := if Ok h then blk h else []
theorem put_ok {h : H} (k : Ok h) : put h = blk h := if_pos k
theorem put_no {h : H} (k : ¬ Ok h) : put h = [] := if_neg k
theorem Ok.short {h : H} (k : Ok h) : h.path.length ≤ 24 := (Pt.right_iff.1 k.1).2.1
theorem Ok.long {h : H} (k : Ok h) : 1 ≤ h.path.length := (Pt.right_iff.1 k.1).1
theorem blk_len {h : H} (k : Ok h) : (blk h).length = 26 + h.path.length := by
  have := k.short
  unfold blk
  simp only [List.length_append, tb_len, be4_len, List.length_cons, List.length_nil]
  omega
theorem put_le (h : H) : (put h).length ≤ 50 := by
  by_cases k : Ok h
  · rw [put_ok k, blk_len k]; have := k.short; omega
  · rw [put_no k]; simp
/-- the states of one who reads a head, behind each item -/
def t1 (b : Tx) : St := afT (b, false)
def t2 (b : Tx) : St := af 4 (t1 b)
def t3 (b : Tx) : St := af 4 (t2 b)
def t4 (b : Tx) : St := af 4 (t3 b)
def t5 (b : Tx) : St := af 4 (t4 b)
def t6 (b : Tx) : St := af 4 (t5 b)
def t7 (b : Tx) : St := af 4 (t6 b)
def t8 (b : Tx) : St := af 1 (t7 b)
/-- what bytes say -/
def parse (b : Tx) : H := ⟨txt (b, false), num (tk 4 (t1 b)), num (tk 4 (t2 b)), num (tk 4 (t3 b)), num (tk 4 (t4 b)), num (tk 4 (t5 b)), num (tk 4 (t6 b)), byt (t7 b) == 1⟩
def Good (b : Tx) : Prop := Ok (parse b) ∧ blk (parse b) = b
instance (b : Tx) : Decidable (Good b) := by unfold Good; exact inferInstance
def got (b : Tx) : H := if Good b then parse b else H.zero
def gotE (b : Tx) : Int := if Good b then 0 else 2
theorem got_yes {b : Tx} (h : Good b) : got b = parse b := if_pos h
theorem got_no {b : Tx} (h : ¬ Good b) : got b = H.zero := if_neg h
theorem gotE_yes {b : Tx} (h : Good b) : gotE b = 0 := if_pos h
theorem gotE_no {b : Tx} (h : ¬ Good b) : gotE b = 2 := if_neg h
theorem num4 {n : Int} (h0 : 0 ≤ n) (h1 : n < 4294967296) : num (be4 n) = n := by rw [num_be4]; omega
theorem parse_blk {h : H} (k : Ok h) : parse (blk h) = h := by
  obtain ⟨k1, ⟨v0, v1⟩, ⟨s0, s1⟩, ⟨z0, z1⟩, f0, l0, fl, -, ⟨m0, m1⟩, -⟩ := k
  have hs := (Pt.right_iff.1 k1).2.1
  have e0 : txt (blk h, false) = h.path := by unfold blk; rw [txt_tb, List.take_of_length_le (by omega)]
  have e1 : t1 (blk h) = (be4 h.version ++ (be4 h.size ++ (be4 h.from_ ++ (be4 h.len ++ (be4 h.serial ++ (be4 h.sum ++ [goneB h.gone]))))), false) := afT_tb _ _ _
  have e2 : t2 (blk h) = (be4 h.size ++ (be4 h.from_ ++ (be4 h.len ++ (be4 h.serial ++ (be4 h.sum ++ [goneB h.gone])))), false) := by unfold t2; rw [e1]; exact af_app 4 _ _ _ rfl
  have e3 : t3 (blk h) = (be4 h.from_ ++ (be4 h.len ++ (be4 h.serial ++ (be4 h.sum ++ [goneB h.gone]))), false) := by unfold t3; rw [e2]; exact af_app 4 _ _ _ rfl
  have e4 : t4 (blk h) = (be4 h.len ++ (be4 h.serial ++ (be4 h.sum ++ [goneB h.gone])), false) := by unfold t4; rw [e3]; exact af_app 4 _ _ _ rfl
  have e5 : t5 (blk h) = (be4 h.serial ++ (be4 h.sum ++ [goneB h.gone]), false) := by unfold t5; rw [e4]; exact af_app 4 _ _ _ rfl
  have e6 : t6 (blk h) = (be4 h.sum ++ [goneB h.gone], false) := by unfold t6; rw [e5]; exact af_app 4 _ _ _ rfl
  have e7 : t7 (blk h) = ([goneB h.gone] ++ [], false) := by unfold t7; rw [e6]; exact af_app 4 _ _ _ rfl
  have eg : (goneB h.gone == 1) = h.gone := by cases h.gone <;> rfl
  unfold parse
  rw [e0, e1, e2, e3, e4, e5, e6, e7, tk_app 4 _ _ _ rfl, tk_app 4 _ _ _ rfl, tk_app 4 _ _ _ rfl, tk_app 4 _ _ _ rfl, tk_app 4 _ _ _ rfl, tk_app 4 _ _ _ rfl,
    show byt ([goneB h.gone] ++ [], false) = goneB h.gone from byt_cons _ _ _, eg, num4 (by omega) (by omega), num4 (by omega) (by omega), num4 (by omega) (by omega), num4 (by omega) (by omega), num4 (by omega) (by omega), num4 (by omega) (by omega)]
theorem good_blk {h : H} (k : Ok h) : Good (blk h) := by unfold Good; rw [parse_blk k]; exact ⟨k, rfl⟩
theorem good_len {b : Tx} (h : Good b) : b.length = 26 + (parse b).path.length := by rw [← blk_len h.1, h.2]
theorem good_head {b : Tx} (h : Good b) : ∃ t, b = b8 ((parse b).path.length : Int) :: t := by
  have hs := h.1.short
  have e : ∃ t, blk (parse b) = b8 ((parse b).path.length : Int) :: t := by
    unfold blk tb
    rw [List.take_of_length_le (by omega), List.cons_append]
    exact ⟨_, rfl⟩
  obtain ⟨t, ht⟩ := e
  exact ⟨t, h.2.symm.trans ht⟩
theorem good_ge {b : Tx} (h : Good b) : 27 ≤ b.length := by have := good_len h; have := h.1.long; omega
/-- of two that begin alike and are not as long one is no head -/
theorem not_both {b c : Tx} (hb : Good b) (h : b.head? = c.head?) (hl : b.length ≠ c.length) : ¬ Good c := fun hc => by
  obtain ⟨t, ht⟩ := good_head hb
  obtain ⟨t', ht'⟩ := good_head hc
  have e1 : b.head? = some (b8 ((parse b).path.length : Int)) := (congrArg List.head? ht).trans rfl
  have e2 : c.head? = some (b8 ((parse c).path.length : Int)) := (congrArg List.head? ht').trans rfl
  rw [e1, e2] at h
  have h' := Option.some.inj h
  have g1 := b8_nat ((parse b).path.length : Int)
  have g2 := b8_nat ((parse c).path.length : Int)
  rw [h'] at g1
  have := hb.1.short
  have := hc.1.short
  have := good_len hb
  have := good_len hc
  omega
theorem head_take {b : Tx} {n : Nat} (h0 : 0 < n) : b.head? = (b.take n).head? := by
  obtain ⟨m, rfl⟩ : ∃ m, n = m + 1 := ⟨n - 1, by omega⟩
  cases b <;> rfl
theorem head_more {b : Tx} (h : b ≠ []) (c : UInt8) : b.head? = (b ++ [c]).head? := by
  cases b with
  | nil => exact absurd rfl h
  | cons d l => rfl
theorem cut_no {b : Tx} (hb : Good b) {n : Nat} (hn : n < b.length) : ¬ Good (b.take n) := by
  by_cases h0 : n = 0
  · subst h0; intro h; have := good_ge h; simp at this
  · exact not_both hb (head_take (by omega)) (by simp; omega)
theorem more_no {b : Tx} (hb : Good b) (c : UInt8) : ¬ Good (b ++ [c]) :=
  not_both hb (head_more (fun e => by have := good_ge hb; rw [e] at this; simp at this) c) (by simp)

/-- a seal -/
structure S where
  number : Int
  index : Int
  data : Int
  parity : Int
  labels : List Int
def S.zero : S := ⟨0, 0, 0, 0, []⟩
def SNums (s : S) : Prop := (1 ≤ s.number ∧ s.number ≤ 1073741824) ∧ 1 ≤ s.data ∧ 1 ≤ s.parity ∧ s.data + s.parity ≤ 14 ∧ (s.labels.length : Int) = s.data + s.parity ∧ 0 ≤ s.index ∧ s.index < (s.labels.length : Int)
instance (s : S) : Decidable (SNums s) := by unfold SNums; exact inferInstance
/-- all can be labels, none is there twice -/
def Labs (l : List Int) : Prop := (∀ x ∈ l, 1 ≤ x ∧ x ≤ 2147483647) ∧ l.Nodup
instance (l : List Int) : Decidable (Labs l) := by unfold Labs; exact inferInstance
def SOk (s : S) : Prop := SNums s ∧ Labs s.labels
instance (s : S) : Decidable (SOk s) := by unfold SOk; exact inferInstance
def labB : List Int → Tx
  | [] => []
  | x :: l => be4 x ++ labB l
theorem labB_len : ∀ l : List Int, (labB l).length = 4 * l.length
  | [] => rfl
  | x :: l => by rw [labB, List.length_append, be4_len, labB_len l, List.length_cons]; omega
theorem labB_append : ∀ a b : List Int, labB (a ++ b) = labB a ++ labB b
  | [], b => rfl
  | x :: a, b => by rw [List.cons_append, labB, labB, labB_append a b, List.append_assoc]
def sblk (s : S) : Tx := be4 s.number ++ ([b8 s.index] ++ ([b8 s.data] ++ ([b8 s.parity] ++ labB s.labels)))
def sput (s : S) : Tx := if SOk s then sblk s else []
theorem sput_ok {s : S} (k : SOk s) : sput s = sblk s := if_pos k
theorem sput_no {s : S} (k : ¬ SOk s) : sput s = [] := if_neg k
theorem sblk_len (s : S) : (sblk s).length = 7 + 4 * s.labels.length := by
  unfold sblk; simp only [List.length_append, be4_len, labB_len, List.length_cons, List.length_nil]; omega
theorem SOk.few {s : S} (k : SOk s) : s.labels.length ≤ 14 := by obtain ⟨⟨_, _, _, h1, h2, _⟩, _⟩ := k; omega
theorem sput_le (s : S) : (sput s).length ≤ 63 := by
  by_cases k : SOk s
  · rw [sput_ok k, sblk_len]; have := k.few; omega
  · rw [sput_no k]; simp
/-- the states of one who reads a seal -/
def r1 (b : Tx) : St := af 4 (b, false)
def r2 (b : Tx) : St := af 1 (r1 b)
def r3 (b : Tx) : St := af 1 (r2 b)
def r4 (b : Tx) : St := af 1 (r3 b)
/-- the numbers that bytes are, four by four, what is over is left -/
def labs : Nat → Tx → List Int
  | 0, _ => []
  | n + 1, b => if b.length < 4 then [] else num (b.take 4) :: labs n (b.drop 4)
theorem labs_labB : ∀ (l : List Int) (n : Nat), l.length ≤ n → (∀ x ∈ l, 0 ≤ x ∧ x < 4294967296) → labs n (labB l) = l
  | [], 0, _, _ => rfl
  | [], n + 1, _, _ => rfl
  | x :: l, 0, h, _ => by simp at h
  | x :: l, n + 1, h, hx => by
    have h1 := hx x (List.mem_cons_self ..)
    rw [labs, labB, if_neg (by rw [List.length_append, be4_len]; omega), List.take_left' (be4_len x), List.drop_left' (be4_len x), num4 h1.1 h1.2, labs_labB l n (by simp at h; omega) (fun y hy => hx y (List.mem_cons_of_mem _ hy))]
def sparse (b : Tx) : S := ⟨num (tk 4 (b, false)), ((byt (r1 b)).toNat : Int), ((byt (r2 b)).toNat : Int), ((byt (r3 b)).toNat : Int), labs 14 (r4 b).1⟩
def SGood (b : Tx) : Prop := SOk (sparse b) ∧ sblk (sparse b) = b
instance (b : Tx) : Decidable (SGood b) := by unfold SGood; exact inferInstance
def sgot (b : Tx) : S := if SGood b then sparse b else S.zero
def sgotE (b : Tx) : Int := if SGood b then 0 else 2
theorem sgot_yes {b : Tx} (h : SGood b) : sgot b = sparse b := if_pos h
theorem sgot_no {b : Tx} (h : ¬ SGood b) : sgot b = S.zero := if_neg h
theorem sgotE_yes {b : Tx} (h : SGood b) : sgotE b = 0 := if_pos h
theorem sgotE_no {b : Tx} (h : ¬ SGood b) : sgotE b = 2 := if_neg h
theorem sparse_sblk {s : S} (k : SOk s) : sparse (sblk s) = s := by
  have hf := k.few
  obtain ⟨⟨⟨n0, n1⟩, d0, p0, dp, hl, i0, i1⟩, hx, -⟩ := k
  have e1 : r1 (sblk s) = ([b8 s.index] ++ ([b8 s.data] ++ ([b8 s.parity] ++ labB s.labels)), false) := af_app 4 _ _ _ rfl
  have e2 : r2 (sblk s) = ([b8 s.data] ++ ([b8 s.parity] ++ labB s.labels), false) := by unfold r2; rw [e1]; exact af_app 1 _ _ _ rfl
  have e3 : r3 (sblk s) = ([b8 s.parity] ++ labB s.labels, false) := by unfold r3; rw [e2]; exact af_app 1 _ _ _ rfl
  have e4 : r4 (sblk s) = (labB s.labels, false) := by unfold r4; rw [e3]; exact af_app 1 _ _ _ rfl
  have e0 : tk 4 (sblk s, false) = be4 s.number := tk_app 4 _ _ _ rfl
  have g1 := b8_nat s.index
  have g2 := b8_nat s.data
  have g3 := b8_nat s.parity
  unfold sparse
  rw [e0, e1, e2, e3, e4, show byt ([b8 s.index] ++ ([b8 s.data] ++ ([b8 s.parity] ++ labB s.labels)), false) = b8 s.index from byt_cons _ _ _,
    show byt ([b8 s.data] ++ ([b8 s.parity] ++ labB s.labels), false) = b8 s.data from byt_cons _ _ _, show byt ([b8 s.parity] ++ labB s.labels, false) = b8 s.parity from byt_cons _ _ _,
    g1, g2, g3, num4 (by omega) (by omega), labs_labB s.labels 14 hf (fun x h => by have := hx x h; omega), show s.index % 256 = s.index by omega, show s.data % 256 = s.data by omega, show s.parity % 256 = s.parity by omega]
theorem sgood_blk {s : S} (k : SOk s) : SGood (sblk s) := by unfold SGood; rw [sparse_sblk k]; exact ⟨k, rfl⟩
theorem sgood_len {b : Tx} (h : SGood b) : (b.length : Int) = 7 + 4 * ((sparse b).data + (sparse b).parity) := by
  have h1 : b.length = 7 + 4 * (sparse b).labels.length := by rw [← sblk_len, h.2]
  have h2 := h.1.1.2.2.2.2.1
  omega
theorem sgood_ge {b : Tx} (h : SGood b) : 15 ≤ b.length := by have := sgood_len h; have := h.1.1.2.1; have := h.1.1.2.2.1; omega
/-- what stands at 5 and 6 -/
theorem sgood_at {b : Tx} (h : SGood b) : b[5]? = some (b8 (sparse b).data) ∧ b[6]? = some (b8 (sparse b).parity) := by
  have e : b = sblk (sparse b) := h.2.symm
  constructor <;> conv => lhs; rw [e]
  all_goals rfl
theorem snot_both {b c : Tx} (hb : SGood b) (h5 : b[5]? = c[5]?) (h6 : b[6]? = c[6]?) (hl : b.length ≠ c.length) : ¬ SGood c := fun hc => by
  obtain ⟨a5, a6⟩ := sgood_at hb
  obtain ⟨c5, c6⟩ := sgood_at hc
  rw [a5, c5] at h5
  rw [a6, c6] at h6
  have h5' := Option.some.inj h5
  have h6' := Option.some.inj h6
  have g1 := b8_nat (sparse b).data
  have g2 := b8_nat (sparse c).data
  have g3 := b8_nat (sparse b).parity
  have g4 := b8_nat (sparse c).parity
  rw [h5'] at g1
  rw [h6'] at g3
  have l1 := sgood_len hb
  have l2 := sgood_len hc
  obtain ⟨_, b1, b2, b3, _⟩ := hb.1.1
  obtain ⟨_, c1, c2, c3, _⟩ := hc.1.1
  omega
theorem scut_no {b : Tx} (hb : SGood b) {n : Nat} (hn : n < b.length) : ¬ SGood (b.take n) := by
  by_cases h0 : n < 7
  · intro h; have := sgood_ge h; simp at this; omega
  · exact snot_both hb (by rw [List.getElem?_take, if_pos (by omega)]) (by rw [List.getElem?_take, if_pos (by omega)]) (by simp; omega)
theorem smore_no {b : Tx} (hb : SGood b) (c : UInt8) : ¬ SGood (b ++ [c]) := by
  have := sgood_ge hb
  exact snot_both hb (by rw [List.getElem?_append, if_pos (by omega)]) (by rw [List.getElem?_append, if_pos (by omega)]) (by simp)
end Go.Proofs.YtfkoomldncfdnaaGreat.Rc
namespace Go.Proofs.YtfkoomldncfdnaaGreat.Vo
open Pt (Tx)

/-- a tape -/
structure T where
  label : Int
  blocks : List Tx
  lost : Bool
/-- block n, if it is good -/
def good (t : T) (n : Nat) : Option Fm.U :=
  if t.lost = true then none else match t.blocks[n]? with
    | none => none
    | some b => if Fm.Good b ∧ (Fm.parse b).label = t.label ∧ (Fm.parse b).number = (n : Int) then some (Fm.parse b) else none
/-- how many blocks so many bytes take -/
def data (n : Nat) : Nat := (n + 63) / 64
theorem data_zero : data 0 = 0 := rfl
theorem data_int (n : Nat) : (((n : Int) - 1) / 64 + 1) = (data n : Int) := by unfold data; omega
/-- the part at block n -/
def part (t : T) (n : Nat) : Option Rc.H :=
  match good t n with
  | none => none
  | some u => if u.kind = 2 ∧ Rc.Good u.load ∧ n + data (Rc.parse u.load).len.toNat + 1 < t.blocks.length then some (Rc.parse u.load) else none
/-- the parts from block n on, f blocks looked at -/
def scan (t : T) : Nat → Nat → List (Rc.H × Nat)
  | 0, _ => []
  | f + 1, n => if n < t.blocks.length then
      match part t n with
      | some h => (h, n) :: scan t f (n + data h.len.toNat + 2)
      | none => scan t f (n + 1)
    else []
def parts (t : T) : List (Rc.H × Nat) := scan t t.blocks.length 1
def keep (t : T) : Nat :=
  match (parts t).getLast? with
  | some (h, n) => n + data h.len.toNat + 2
  | none => if (good t 0).isSome then 1 else 0
theorem good_lost {t : T} (h : t.lost = true) (n : Nat) : good t n = none := if_pos h
theorem good_end {t : T} {n : Nat} (h : t.blocks.length ≤ n) : good t n = none := by
  unfold good
  split
  · rfl
  · rw [List.getElem?_eq_none h]
theorem good_at {t : T} {n : Nat} {u : Fm.U} (hl : t.lost = false) (hb : t.blocks[n]? = some (Fm.blk u)) (hu : Fm.Ok u) (h1 : u.label = t.label) (h2 : u.number = (n : Int)) : good t n = some u := by
  unfold good
  rw [if_neg (by rw [hl]; decide), hb]
  show (if Fm.Good (Fm.blk u) ∧ (Fm.parse (Fm.blk u)).label = t.label ∧ (Fm.parse (Fm.blk u)).number = (n : Int) then some (Fm.parse (Fm.blk u)) else none) = some u
  rw [Fm.parse_blk hu, if_pos ⟨Fm.good_blk hu, h1, h2⟩]
theorem good_none {t : T} {n : Nat} {b : Tx} (hb : t.blocks[n]? = some b) (h : ¬ Fm.Good b) : good t n = none := by
  unfold good
  split
  · rfl
  · rw [hb]
    show (if Fm.Good b ∧ (Fm.parse b).label = t.label ∧ (Fm.parse b).number = (n : Int) then some (Fm.parse b) else none) = none
    rw [if_neg fun h' => h h'.1]
theorem good_some {t : T} {n : Nat} {u : Fm.U} (h : good t n = some u) : ∃ b, t.blocks[n]? = some b ∧ Fm.Good b ∧ u = Fm.parse b := by
  unfold good at h
  split at h
  · cases h
  · split at h
    · cases h
    · rename_i b hb
      split at h
      · rename_i h'
        exact ⟨b, hb, h'.1, (Option.some.inj h).symm⟩
      · cases h
theorem part_lt {t : T} {n : Nat} {h : Rc.H} (e : part t n = some h) : n < t.blocks.length := by
  unfold part at e
  split at e
  · cases e
  · rename_i u hu
    obtain ⟨b, hb, _⟩ := good_some hu
    exact (List.getElem?_eq_some_iff.1 hb).1
theorem part_in {t : T} {n : Nat} {h : Rc.H} (e : part t n = some h) : n + data h.len.toNat + 1 < t.blocks.length ∧ Rc.Ok h := by
  unfold part at e
  split at e
  · cases e
  · rename_i u hu
    split at e
    · rename_i h'
      cases e
      exact ⟨h'.2.2, h'.2.1.1⟩
    · cases e
/-- a head's frame -/
def headU (label at_ : Int) (h : Rc.H) : Fm.U := ⟨2, label, at_, Rc.blk h⟩
theorem head_long {h : Rc.H} (k : Rc.Ok h) : (Rc.blk h).length ≤ 64 := by have := Rc.put_le h; rw [Rc.put_ok k] at this; omega
/-- a label and numbers that frames can have -/
def Fits (label at_ : Int) (d : Nat) : Prop := (1 ≤ label ∧ label ≤ 2147483647) ∧ 0 ≤ at_ ∧ at_ + (d : Int) ≤ 2147483647
instance (label at_ : Int) (d : Nat) : Decidable (Fits label at_ d) := by unfold Fits; exact inferInstance
theorem headU_ok {label at_ : Int} {h : Rc.H} (k : Rc.Ok h) (hf : Fits label at_ 0) : Fm.Ok (headU label at_ h) := by
  obtain ⟨⟨a, b⟩, c, d⟩ := hf
  refine ⟨⟨(by show (1 : Int) ≤ 2; decide), (by show (2 : Int) ≤ 6; decide), a, b, c, ?_⟩, ?_⟩
  · show at_ ≤ 2147483647; omega
  · show (Rc.blk h).length ≤ Fm.room 2
    exact Nat.le_trans (head_long k) (by decide)
/-- where a head lies whose part is whole, a part lies -/
theorem part_at {t : T} {n : Nat} {h : Rc.H} (hl : t.lost = false) (hf : Fits t.label (n : Int) 0) (k : Rc.Ok h) (hb : t.blocks[n]? = some (Fm.blk (headU t.label (n : Int) h))) (hn : n + data h.len.toNat + 1 < t.blocks.length) : part t n = some h := by
  unfold part
  rw [good_at hl hb (headU_ok k hf) rfl rfl]
  show (if (2 : Int) = 2 ∧ Rc.Good (Rc.blk h) ∧ n + data (Rc.parse (Rc.blk h)).len.toNat + 1 < t.blocks.length then some (Rc.parse (Rc.blk h)) else none) = some h
  rw [Rc.parse_blk k, if_pos ⟨rfl, Rc.good_blk k, hn⟩]
/-- and where its part is not whole, none lies -/
theorem part_short {t : T} {n : Nat} {h : Rc.H} (hl : t.lost = false) (hf : Fits t.label (n : Int) 0) (k : Rc.Ok h) (hb : t.blocks[n]? = some (Fm.blk (headU t.label (n : Int) h))) (hn : t.blocks.length ≤ n + data h.len.toNat + 1) : part t n = none := by
  unfold part
  rw [good_at hl hb (headU_ok k hf) rfl rfl]
  show (if (2 : Int) = 2 ∧ Rc.Good (Rc.blk h) ∧ n + data (Rc.parse (Rc.blk h)).len.toNat + 1 < t.blocks.length then some (Rc.parse (Rc.blk h)) else none) = none
  rw [Rc.parse_blk k, if_neg fun h' => by have := h'.2.2; omega]
theorem part_kind {t : T} {n : Nat} {b : Tx} (hb : t.blocks[n]? = some b) (h : Fm.Good b → (Fm.parse b).kind ≠ 2) : part t n = none := by
  unfold part
  split
  · rfl
  · rename_i u hu
    obtain ⟨b', hb', hg, rfl⟩ := good_some hu
    rw [hb] at hb'
    cases hb'
    rw [if_neg fun h' => h hg h'.1]
theorem part_end {t : T} {n : Nat} (h : t.blocks.length ≤ n) : part t n = none := by
  unfold part; rw [good_end h]
/-- parts one behind the other, from block n on -/
def Laid (t : T) : Nat → List Rc.H → Prop
  | _, [] => True
  | n, h :: hs => part t n = some h ∧ Laid t (n + data h.len.toNat + 2) hs
def places : Nat → List Rc.H → List (Rc.H × Nat)
  | _, [] => []
  | n, h :: hs => (h, n) :: places (n + data h.len.toNat + 2) hs
def ending : Nat → List Rc.H → Nat
  | n, [] => n
  | n, h :: hs => ending (n + data h.len.toNat + 2) hs
theorem places_len : ∀ (n : Nat) (hs : List Rc.H), (places n hs).length = hs.length
  | _, [] => rfl
  | n, h :: hs => by rw [places, List.length_cons, places_len, List.length_cons]
theorem ending_ge : ∀ (n : Nat) (hs : List Rc.H), n + 2 * hs.length ≤ ending n hs
  | n, [] => by simp [ending]
  | n, h :: hs => by
    have := ending_ge (n + data h.len.toNat + 2) hs
    rw [ending, List.length_cons]; omega
theorem places_snoc : ∀ (n : Nat) (hs : List Rc.H) (h : Rc.H), places n (hs ++ [h]) = places n hs ++ [(h, ending n hs)]
  | _, [], _ => rfl
  | n, a :: hs, h => by rw [List.cons_append, places, places, places_snoc _ hs h, ending]; rfl
theorem ending_snoc : ∀ (n : Nat) (hs : List Rc.H) (h : Rc.H), ending n (hs ++ [h]) = ending n hs + data h.len.toNat + 2
  | _, [], _ => rfl
  | n, a :: hs, h => by rw [List.cons_append, ending, ending, ending_snoc _ hs h]
theorem scan_laid {t : T} : ∀ (hs : List Rc.H) (n f : Nat), Laid t n hs → scan t (hs.length + f) n = places n hs ++ scan t f (ending n hs)
  | [], n, f, _ => by rw [List.length_nil, Nat.zero_add]; rfl
  | h :: hs, n, f, hl => by
    have e : (h :: hs).length + f = (hs.length + f) + 1 := by rw [List.length_cons]; omega
    rw [e, scan, if_pos (part_lt hl.1), hl.1]
    show (h, n) :: scan t (hs.length + f) (n + data h.len.toNat + 2) = _
    rw [scan_laid hs _ f hl.2]; rfl
theorem scan_none {t : T} : ∀ (f n : Nat), (∀ m, n ≤ m → part t m = none) → scan t f n = []
  | 0, _, _ => rfl
  | f + 1, n, h => by
    rw [scan]
    split
    · rw [h n (Nat.le_refl _)]
      exact scan_none f (n + 1) fun m hm => h m (by omega)
    · rfl
/-- parts that lie one behind the other, and none behind them, are all that is found -/
theorem parts_laid {t : T} {hs : List Rc.H} (hl : Laid t 1 hs) (hn : ∀ m, ending 1 hs ≤ m → part t m = none) (hlen : hs.length ≤ t.blocks.length) : parts t = places 1 hs := by
  unfold parts
  obtain ⟨f, hf⟩ : ∃ f, t.blocks.length = hs.length + f := ⟨t.blocks.length - hs.length, by omega⟩
  rw [hf, scan_laid hs 1 f hl, scan_none f _ hn, List.append_nil]
theorem keep_laid {t : T} {hs : List Rc.H} (hp : parts t = places 1 hs) (h0 : hs = [] → (good t 0).isSome = true) : keep t = ending 1 hs := by
  unfold keep
  rw [hp]
  rcases List.eq_nil_or_concat hs with rfl | ⟨l, h, rfl⟩
  · show (if (good t 0).isSome then 1 else 0) = 1
    rw [if_pos (h0 rfl)]
  · rw [List.concat_eq_append, places_snoc, ending_snoc, List.getLast?_append]
    rfl
/-- data's frames -/
def chunk (b : Tx) (i : Nat) : Tx := (b.drop (64 * i)).take 64
theorem chunk_len (b : Tx) (i : Nat) : (chunk b i).length ≤ 64 := by unfold chunk; rw [List.length_take]; omega
def dataU (label at_ : Int) (b : Tx) (i : Nat) : Fm.U := ⟨3, label, at_ + 1 + (i : Int), chunk b i⟩
def markU (label at_ : Int) (d : Nat) : Fm.U := ⟨4, label, at_ + 1 + (d : Int), []⟩
def units (label at_ : Int) (h : Rc.H) (b : Tx) : List Fm.U := headU label at_ h :: ((List.range (data b.length)).map (dataU label at_ b) ++ [markU label at_ (data b.length)])
theorem units_len (label at_ : Int) (h : Rc.H) (b : Tx) : (units label at_ h b).length = data b.length + 2 := by
  unfold units; simp
theorem units_zero (label at_ : Int) (h : Rc.H) (b : Tx) : (units label at_ h b)[0]? = some (headU label at_ h) := rfl
theorem units_data {label at_ : Int} {h : Rc.H} {b : Tx} {i : Nat} (hi : i < data b.length) : (units label at_ h b)[i + 1]? = some (dataU label at_ b i) := by
  unfold units
  rw [List.getElem?_cons_succ, List.getElem?_append_left (by simpa using hi)]
  simp [hi]
theorem units_mark (label at_ : Int) (h : Rc.H) (b : Tx) : (units label at_ h b)[data b.length + 1]? = some (markU label at_ (data b.length)) := by
  unfold units
  rw [List.getElem?_cons_succ, List.getElem?_append_right (by simp)]
  simp
/-- each unit's number and label -/
theorem units_at {label at_ : Int} {h : Rc.H} {b : Tx} {j : Nat} {u : Fm.U} (hu : (units label at_ h b)[j]? = some u) : u.label = label ∧ u.number = at_ + (j : Int) ∧ (j = 0 ∨ u.kind ≠ 2) ∧ (u.kind = 2 ∨ u.kind = 3 ∨ u.kind = 4) := by
  have hj : j < data b.length + 2 := by rw [← units_len label at_ h b]; exact (List.getElem?_eq_some_iff.1 hu).1
  by_cases h0 : j = 0
  · subst h0
    cases hu
    exact ⟨rfl, by show at_ = at_ + 0; omega, .inl rfl, .inl rfl⟩
  · obtain ⟨i, rfl⟩ : ∃ i, j = i + 1 := ⟨j - 1, by omega⟩
    by_cases hi : i < data b.length
    · rw [units_data hi] at hu
      cases hu
      exact ⟨rfl, by show at_ + 1 + (i : Int) = _; omega, .inr (by show (3 : Int) ≠ 2; decide), .inr (.inl rfl)⟩
    · obtain rfl : i = data b.length := by omega
      rw [units_mark] at hu
      cases hu
      exact ⟨rfl, by show at_ + 1 + (data b.length : Int) = _; omega, .inr (by show (4 : Int) ≠ 2; decide), .inr (.inr rfl)⟩
theorem units_load {label at_ : Int} {h : Rc.H} {b : Tx} (k : Rc.Ok h) {j : Nat} {u : Fm.U} (hu : (units label at_ h b)[j]? = some u) : u.load.length ≤ 64 := by
  have hj : j < data b.length + 2 := by rw [← units_len label at_ h b]; exact (List.getElem?_eq_some_iff.1 hu).1
  by_cases h0 : j = 0
  · subst h0; cases hu; exact head_long k
  · obtain ⟨i, rfl⟩ : ∃ i, j = i + 1 := ⟨j - 1, by omega⟩
    by_cases hi : i < data b.length
    · rw [units_data hi] at hu; cases hu; exact chunk_len b i
    · obtain rfl : i = data b.length := by omega
      rw [units_mark] at hu; cases hu; exact Nat.zero_le _
theorem unit_ok {label at_ : Int} {h : Rc.H} {b : Tx} (k : Rc.Ok h) {j : Nat} {u : Fm.U} (hu : (units label at_ h b)[j]? = some u) (hf : Fits label (at_ + (j : Int)) 0) : Fm.Ok u := by
  obtain ⟨h1, h2, -, h3⟩ := units_at hu
  have h4 := units_load k hu
  obtain ⟨⟨a, b'⟩, c, d⟩ := hf
  refine ⟨⟨by omega, by omega, by omega, by omega, by omega, by omega⟩, Nat.le_trans h4 (Fm.room_ge _)⟩
theorem units_ok {label at_ : Int} {h : Rc.H} {b : Tx} (k : Rc.Ok h) (hf : Fits label at_ (data b.length + 1)) {j : Nat} {u : Fm.U} (hu : (units label at_ h b)[j]? = some u) : Fm.Ok u := by
  have hj : j < data b.length + 2 := by rw [← units_len label at_ h b]; exact (List.getElem?_eq_some_iff.1 hu).1
  obtain ⟨a, c, d⟩ := hf
  exact unit_ok k hu ⟨a, by omega, by omega⟩
theorem unit_err {label at_ : Int} {h : Rc.H} {b : Tx} (k : Rc.Ok h) {j : Nat} {u : Fm.U} (hu : (units label at_ h b)[j]? = some u) : Fm.err u = if Fits label (at_ + (j : Int)) 0 then 0 else 1 := by
  by_cases hf : Fits label (at_ + (j : Int)) 0
  · rw [if_pos hf]; exact Fm.err_ok (unit_ok k hu hf)
  · rw [if_neg hf]
    refine Fm.err_arg fun ha => hf ?_
    obtain ⟨h1, h2, -, -⟩ := units_at hu
    obtain ⟨-, -, a, b', c, d⟩ := ha
    exact ⟨⟨by omega, by omega⟩, by omega, by omega⟩
/-- which blocks a part is, and why none -/
def Right (label at_ : Int) (h : Rc.H) (b : Tx) : Prop := (Rc.Ok h ∧ (b.length : Int) = h.len) ∧ Fits label at_ (data b.length + 1)
instance (label at_ : Int) (h : Rc.H) (b : Tx) : Decidable (Right label at_ h b) := by unfold Right; exact inferInstance
def put (label at_ : Int) (h : Rc.H) (b : Tx) : List Tx := if Right label at_ h b then (units label at_ h b).map Fm.blk else []
def err (label at_ : Int) (h : Rc.H) (b : Tx) : Int := if Right label at_ h b then 0 else 1
theorem put_yes {label at_ : Int} {h : Rc.H} {b : Tx} (k : Right label at_ h b) : put label at_ h b = (units label at_ h b).map Fm.blk := if_pos k
theorem put_no {label at_ : Int} {h : Rc.H} {b : Tx} (k : ¬ Right label at_ h b) : put label at_ h b = [] := if_neg k
theorem err_yes {label at_ : Int} {h : Rc.H} {b : Tx} (k : Right label at_ h b) : err label at_ h b = 0 := if_pos k
theorem err_no {label at_ : Int} {h : Rc.H} {b : Tx} (k : ¬ Right label at_ h b) : err label at_ h b = 1 := if_neg k
theorem put_len {label at_ : Int} {h : Rc.H} {b : Tx} (k : Right label at_ h b) : (put label at_ h b).length = data b.length + 2 := by rw [put_yes k, List.length_map, units_len]
/-- how many blocks a part of so many bytes takes -/
def need (n : Int) : Nat := data (min (max n 0) 4000).toNat + 2
theorem need_of {b : Tx} {h : Rc.H} (k : Rc.Ok h) (e : (b.length : Int) = h.len) : need (b.length : Int) = data b.length + 2 := by
  have h1 : h.len ≤ 4000 := by obtain ⟨-, -, -, ⟨_, a⟩, b', c, d, _⟩ := k; omega
  unfold need
  rw [show (min (max (b.length : Int) 0) 4000).toNat = b.length by omega]
/-- a tape on which blocks were laid behind others -/
theorem laid_at {pre : List Tx} {label : Int} {h : Rc.H} {b : Tx} (post : List Tx) (k : Right label (pre.length : Int) h b) {j : Nat} (hj : j < data b.length + 2) :
    ∃ u, (units label (pre.length : Int) h b)[j]? = some u ∧ (pre ++ (put label (pre.length : Int) h b ++ post))[pre.length + j]? = some (Fm.blk u) := by
  have hj' : j < (units label (pre.length : Int) h b).length := by rw [units_len]; exact hj
  refine ⟨_, List.getElem?_eq_getElem hj', ?_⟩
  rw [List.getElem?_append_right (by omega), show pre.length + j - pre.length = j by omega, List.getElem?_append_left (by rw [put_len k]; exact hj), put_yes k, List.getElem?_map, List.getElem?_eq_getElem hj']
  rfl
end Go.Proofs.YtfkoomldncfdnaaGreat.Vo
namespace Go.Proofs.YtfkoomldncfdnaaGreat.Rc
open Pt (Tx)
open Cd

/-- n numbers, read one behind the other -/
def labsP : Nat → St → List Int
  | 0, _ => []
  | n + 1, s => num (tk 4 s) :: labsP n (af 4 s)
theorem labsP_len : ∀ (n : Nat) (s : St), (labsP n s).length = n
  | 0, _ => rfl
  | n + 1, s => by rw [labsP, List.length_cons, labsP_len n]
theorem labsP_labB : ∀ (l : List Int) (bad : Bool), (∀ x ∈ l, 0 ≤ x ∧ x < 4294967296) → labsP l.length (labB l, bad) = l
  | [], _, _ => rfl
  | x :: l, bad, hx => by
    have h1 := hx x (List.mem_cons_self ..)
    rw [List.length_cons, labsP, labB, tk_app 4 _ _ _ (be4_len x), af_app 4 _ _ _ (be4_len x), num4 h1.1 h1.2, labsP_labB l bad (fun y hy => hx y (List.mem_cons_of_mem _ hy))]
/-- what the program reads -/
def pparse (b : Tx) : S := ⟨num (tk 4 (b, false)), ((byt (r1 b)).toNat : Int), ((byt (r2 b)).toNat : Int), ((byt (r3 b)).toNat : Int), labsP ((byt (r2 b)).toNat + (byt (r3 b)).toNat) (r4 b)⟩
theorem pparse_sblk {s : S} (k : SOk s) : pparse (sblk s) = s := by
  have hf := k.few
  obtain ⟨⟨⟨n0, n1⟩, d0, p0, dp, hl, i0, i1⟩, hx, -⟩ := k
  have e1 : r1 (sblk s) = ([b8 s.index] ++ ([b8 s.data] ++ ([b8 s.parity] ++ labB s.labels)), false) := af_app 4 _ _ _ rfl
  have e2 : r2 (sblk s) = ([b8 s.data] ++ ([b8 s.parity] ++ labB s.labels), false) := by unfold r2; rw [e1]; exact af_app 1 _ _ _ rfl
  have e3 : r3 (sblk s) = ([b8 s.parity] ++ labB s.labels, false) := by unfold r3; rw [e2]; exact af_app 1 _ _ _ rfl
  have e4 : r4 (sblk s) = (labB s.labels, false) := by unfold r4; rw [e3]; exact af_app 1 _ _ _ rfl
  have e0 : tk 4 (sblk s, false) = be4 s.number := tk_app 4 _ _ _ rfl
  have g1 := b8_nat s.index
  have g2 := b8_nat s.data
  have g3 := b8_nat s.parity
  have hn : (b8 s.data).toNat + (b8 s.parity).toNat = s.labels.length := by omega
  unfold pparse
  rw [e0, e1, e2, e3, e4, show byt ([b8 s.index] ++ ([b8 s.data] ++ ([b8 s.parity] ++ labB s.labels)), false) = b8 s.index from byt_cons _ _ _,
    show byt ([b8 s.data] ++ ([b8 s.parity] ++ labB s.labels), false) = b8 s.data from byt_cons _ _ _, show byt ([b8 s.parity] ++ labB s.labels, false) = b8 s.parity from byt_cons _ _ _,
    hn, g1, g2, g3, num4 (by omega) (by omega), labsP_labB s.labels false (fun x h => by have := hx x h; omega), show s.index % 256 = s.index by omega, show s.data % 256 = s.data by omega, show s.parity % 256 = s.parity by omega]
/-- what the program takes is a seal's bytes -/
theorem pgood_iff {b : Tx} : (SOk (pparse b) ∧ sblk (pparse b) = b) ↔ SGood b := by
  constructor
  · rintro ⟨h1, h2⟩
    have e : sparse b = pparse b := by conv => lhs; rw [← h2]
                                       exact sparse_sblk h1
    unfold SGood; rw [e]; exact ⟨h1, h2⟩
  · rintro ⟨h1, h2⟩
    have e : pparse b = sparse b := by conv => lhs; rw [← h2]
                                       exact pparse_sblk h1
    rw [e]; exact ⟨h1, h2⟩
theorem pparse_good {b : Tx} (h : SGood b) : pparse b = sparse b := by
  conv => lhs; rw [← h.2]
  exact pparse_sblk h.1
/-- labels, one more -/
theorem Labs.nil : Labs [] := ⟨(fun _ h => by cases h), List.nodup_nil⟩
theorem labs_snoc {l : List Int} {x : Int} : Labs (l ++ [x]) ↔ Labs l ∧ (1 ≤ x ∧ x ≤ 2147483647) ∧ x ∉ l := by
  unfold Labs
  rw [List.nodup_append]
  constructor
  · rintro ⟨h1, h2, -, h4⟩
    exact ⟨⟨fun y hy => h1 y (List.mem_append_left _ hy), h2⟩, h1 x (List.mem_append_right _ (List.mem_singleton.2 rfl)), fun hm => h4 x hm x (List.mem_singleton.2 rfl) rfl⟩
  · rintro ⟨⟨h1, h2⟩, h3, h4⟩
    refine ⟨fun y hy => ?_, h2, by simp, fun a ha b hb => ?_⟩
    · rcases List.mem_append.1 hy with hy | hy
      · exact h1 y hy
      · rw [List.mem_singleton.1 hy]; exact h3
    · rw [List.mem_singleton.1 hb]; rintro rfl; exact h4 ha
theorem labs_take {l : List Int} {k : Nat} (h : k < l.length) : Labs (l.take (k + 1)) ↔ Labs (l.take k) ∧ (1 ≤ l[k] ∧ l[k] ≤ 2147483647) ∧ l[k] ∉ l.take k := by
  rw [List.take_succ_eq_append_getElem h, labs_snoc]
theorem Labs.prefix {l m : List Int} (h : Labs (l ++ m)) : Labs l :=
  ⟨fun y hy => h.1 y (List.mem_append_left _ hy), (List.nodup_append.1 h.2).1⟩
theorem labs_bad {l : List Int} {k : Nat} (h : ¬ Labs (l.take k)) : ¬ Labs l := fun hl => h (Labs.prefix (m := l.drop k) (by rw [List.take_append_drop]; exact hl))
theorem labs_step_no {l : List Int} {k : Nat} (hk : k < l.length) (h : ¬ ((1 ≤ l[k] ∧ l[k] ≤ 2147483647) ∧ l[k] ∉ l.take k)) : ¬ Labs l :=
  labs_bad (k := k + 1) fun h' => h ((labs_take hk).1 h').2
/-- what the document's own reads, round by round -/
theorem labs_more {n : Nat} {b : Tx} (h : ¬ b.length < 4) : labs (n + 1) b = num (b.take 4) :: labs n (b.drop 4) := by rw [labs, if_neg h]
theorem labs_end {n : Nat} {b : Tx} (h : n = 0 ∨ b.length < 4) : labs n b = [] := by
  cases n with
  | zero => rfl
  | succ n => rw [labs, if_pos (by omega)]
end Go.Proofs.YtfkoomldncfdnaaGreat.Rc
