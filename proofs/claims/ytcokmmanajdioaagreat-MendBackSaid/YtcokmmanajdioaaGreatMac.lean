/- A []byte that reads as a list of bytes, and one that a call owns and makes longer by append. No function of the program. Bytes as elements and elements as bytes: a list of bytes as a row, a row as a list. No function of the program. Chapter 13's tapes taken block by block: how long they are, each row of them, and which parity they have. No program. Plain mathematics of chapter 4, no program: the sum of CRC-32C, bit by bit. Words of 32 bits as the numbers of a uint32: bits, halves, what is turned round. No function of the program. -/
import Derived.Test.YtcokmmanajdioaaGreatMab
import Derived.Lib.AppendStr
import Derived.Lib.BufferWrite
import Derived.Laws.IdiomStrings
import Derived.Laws.BytesArg
import Derived.Test.YtcokmmanajdioaaGreatMaa
import Derived.Test.YtcokmmanajdioaaGreatRows
import Derived.WalkKit
import Derived.ProofKit
import Derived.Lib.Hide
import Derived.Laws.BitsLemmas
import Derived.IntWalk
namespace Go.Proofs.YtcokmmanajdioaaGreat
open Go.RowKit
open Pt (Tx)

/-- the slice at A reads as the bytes l, and lies in a block of G -/
def RdL (w : World) (A : Option Addr) (l : Tx) (G : Nat → Prop) : Prop :=
  0 < l.length → ∃ b off, A = some ⟨b, off, none⟩ ∧ G b ∧ ∀ j (hj : j < l.length), w.cell? ⟨b, off + j, none⟩ = some (.int .u8 (l[j].toNat : Int))
namespace RdL
variable {w w' : World} {A : Option Addr} {l : Tx} {G G' S : Nat → Prop}
theorem empty (w : World) (A : Option Addr) (G : Nat → Prop) : RdL w A [] G := fun h => absurd h (by simp)
theorem keep (h : RdL w A l G) (hk : ∀ p v, G p.block → w.cell? p = some v → w'.cell? p = some v) : RdL w' A l G := by
  intro hn
  obtain ⟨b, off, e, hg, hc⟩ := h hn
  exact ⟨b, off, e, hg, fun j hj => hk _ _ hg (hc j hj)⟩
theorem mono (h : RdL w A l G) (hg : ∀ b, G b → G' b) : RdL w A l G' := by
  intro hn
  obtain ⟨b, off, e, hg', hc⟩ := h hn
  exact ⟨b, off, e, hg _ hg', hc⟩
theorem kp (h : RdL w A l G) (hk : Kp S w w') (hs : ∀ b, G b → ¬ S b) : RdL w' A l G := h.keep fun _ _ hg hc => hk.cell hc (hs _ hg)
theorem old (h : RdL w A l G) (hb : Below w.heap.size w w') : RdL w' A l G := h.keep fun _ _ _ hc => (hb.cell (World.block_lt_of_cell? _ _ hc)).trans hc
theorem below {B : Nat} (h : RdL w A l (· < B)) (hb : Below B w w') : RdL w' A l (· < B) := h.keep fun _ _ hg hc => (hb.cell hg).trans hc
theorem in_ (h : RdL w A l G) : RdL w A l (fun b => G b ∧ b < w.heap.size) := by
  intro hn
  obtain ⟨b, off, e, hg, hc⟩ := h hn
  exact ⟨b, off, e, ⟨hg, World.block_lt_of_cell? _ _ (hc 0 hn)⟩, hc⟩
/-- a block with something else in it is none of it -/
theorem apart {g : Nat} (h : RdL w A l G) (hg : ∀ off j x, w.cell? ⟨g, off + j, none⟩ ≠ some (.int .u8 x)) : RdL w A l (fun b => G b ∧ b ≠ g) := by
  intro hn
  obtain ⟨b, off, e, hb, hc⟩ := h hn
  refine ⟨b, off, e, ⟨hb, fun e => ?_⟩, hc⟩
  subst e
  exact hg _ _ _ (hc 0 hn)
theorem at_ (h : RdL w A l G) {j : Nat} (hj : j < l.length) : ∃ b off, A = some ⟨b, off, none⟩ ∧ G b ∧ w.cell? ⟨b, off + j, none⟩ = some (.int .u8 (l[j].toNat : Int)) := by
  obtain ⟨b, off, e, hg, hc⟩ := h (by omega)
  exact ⟨b, off, e, hg, hc j hj⟩
theorem take (h : RdL w A l G) (n : Nat) : RdL w A (l.take n) G := by
  intro hn
  obtain ⟨b, off, e, hg, hc⟩ := h (by simp at hn; omega)
  refine ⟨b, off, e, hg, fun j hj => ?_⟩
  rw [List.getElem_take]; exact hc j (by simp at hj; omega)
theorem drop {b off : Nat} (h : RdL w (some ⟨b, off, none⟩) l G) (n : Nat) : RdL w (some ⟨b, off + n, none⟩) (l.drop n) G := by
  intro hn
  obtain ⟨b', off', e, hg, hc⟩ := h (by simp at hn; omega)
  cases e
  refine ⟨b, off + n, rfl, hg, fun j hj => ?_⟩
  rw [List.getElem_drop, Nat.add_assoc]; exact hc (n + j) (by simp at hj; omega)
end RdL
/-- the cells of bytes -/
def cellsL (l : Tx) : List Value := l.map fun c => .int .u8 (c.toNat : Int)
theorem cellsL_len (l : Tx) : (cellsL l).length = l.length := by simp [cellsL]
theorem cellsL_append (a b : Tx) : cellsL a ++ cellsL b = cellsL (a ++ b) := by simp [cellsL]
theorem cellsL_str (l : Tx) : Lib.strCells (tx l) = cellsL l := by simp [Lib.strCells, cellsL, tx]
theorem cellsL_one {l : Tx} : ∀ u ∈ cellsL l, u.oneCell' = true := by
  intro u hu
  simp only [cellsL, List.mem_map] at hu
  obtain ⟨j, _, rfl⟩ := hu
  rfl
theorem cellsL_get {l : Tx} {j : Nat} (hj : j < l.length) : (cellsL l)[j]? = some (.int .u8 (l[j].toNat : Int)) := by simp [cellsL, hj]
theorem cellsL_some {l : Tx} {j : Nat} {u : Value} (h : (cellsL l)[j]? = some u) : ∃ hj : j < l.length, u = .int .u8 (l[j].toNat : Int) := by
  have hj : j < l.length := by
    rcases Nat.lt_or_ge j l.length with h' | h'
    · exact h'
    · rw [List.getElem?_eq_none (by rw [cellsL_len]; exact h')] at h; cases h
  rw [cellsL_get hj] at h
  exact ⟨hj, (Option.some.inj h).symm⟩
theorem RdL.of_cells {w : World} {g n : Nat} {l : Tx} {c : Array Value} {t : TypeId} {fr : Nat × Nat} (h : w.heap[g]? = some (.cells c t fr)) (hc : ∀ j (hj : j < l.length), c[n + j]? = some (.int .u8 (l[j].toNat : Int))) : RdL w (some ⟨g, n, none⟩) l (· = g) :=
  fun _ => ⟨g, n, rfl, rfl, fun j hj => by simp [World.cell?, h, hc j hj]⟩
/-- string(b) -/
theorem RdL.str {w : World} {A : Option Addr} {l : Tx} {G : Nat → Prop} (h : RdL w A l G) (c : Nat) : (convert 34 9 (.slice A l.length c)).run Tryz.prog w = .ok (.string (tx l)) w := by
  cases A with
  | none =>
    have h0 : l = [] := by
      rcases Nat.eq_zero_or_pos l.length with h0 | h0
      · exact List.length_eq_zero_iff.1 h0
      · obtain ⟨b, off, e, _⟩ := h h0; cases e
    subst h0
    exact run_convert_bytes_nil w 34 5 Tryz.underlying34 Tryz.underlying5 _ c 9 Tryz.underlying9
  | some a =>
    refine run_convert_bytes_back w 34 9 5 a c l Tryz.underlying34 Tryz.underlying5 Tryz.underlying9 fun j hj => ?_
    obtain ⟨b, off, e, _, hc⟩ := h (by omega)
    cases e
    rw [addr_add]; exact hc j hj
theorem infoB : (Tryz.prog.info? 5).map (fun i => (i.zero, i.size, i.bytes)) = some (some (.int .u8 0), 1, 1) := by kernel_rfl
/-- v is a slice of the call's own that holds the bytes l -/
def OwnL (w : World) (base : Nat) (v : Value) (l : Tx) : Prop := w.ownsRow base 5 1 v l.length (cellsL l)
namespace OwnL
variable {w w' : World} {base : Nat} {v : Value} {l : Tx}
theorem nil (w : World) (base : Nat) : OwnL w base (.slice none 0 0) [] := World.ownsRow_nil _ _ _ _
theorem alloc (h : OwnL w base v l) (o : Obj) : OwnL (w.alloc o) base v l := World.ownsRow.alloc h o
/-- as what reads -/
theorem rd (h : OwnL w base v l) : ∃ A C, v = .slice A l.length C ∧ l.length ≤ C ∧ C ≤ maxLen ∧ (A = none → l.length = 0 ∧ C = 0) ∧ RdL w A l (fun b => base ≤ b ∧ v.ownBlock = some b) := by
  rcases h.2 with ⟨rfl, h0⟩ | ⟨g, cap, cur, rfl, hb, hg, hnc, hcm, hs, ht⟩
  · have : l = [] := List.length_eq_zero_iff.1 h0
    subst this
    exact ⟨none, 0, rfl, Nat.le_refl _, by decide, fun _ => ⟨rfl, rfl⟩, RdL.empty _ _ _⟩
  · refine ⟨_, cap, rfl, hnc, hcm, (fun h => by cases h), fun _ => ⟨g, 0, rfl, ⟨hb, rfl⟩, fun j hj => ?_⟩⟩
    have hx := cellsL_get hj
    rw [← ht, List.getElem?_take, if_pos (by omega), Array.getElem?_toList] at hx
    simp [World.cell?, hg, hx]
theorem lo (h : OwnL w base v l) : ∀ k, v.ownBlock = some k → base ≤ k := fun k hk => (World.ownsRow.lt h k hk).1
theorem lt (h : OwnL w base v l) : ∀ k, v.ownBlock = some k → k < w.heap.size := fun k hk => (World.ownsRow.lt h k hk).2
/-- its block, if it has one -/
theorem block (h : OwnL w base v l) : ∀ k, v.ownBlock = some k → ∃ c, w.heap[k]? = some (.cells c 5 (0, 0)) := by
  intro k hk
  rcases h.2 with ⟨rfl, h0⟩ | ⟨g, cap, cur, rfl, hb, hg, hnc, _, hs, ht⟩
  · cases hk
  · cases hk; exact ⟨cur, hg⟩
theorem of_block (h : OwnL w base v l) (hb : ∀ k, v.ownBlock = some k → w'.heap[k]? = w.heap[k]?) : OwnL w' base v l := by
  refine ⟨h.1, ?_⟩
  rcases h.2 with h0 | ⟨g, cap, cur, rfl, hb', hg, hr⟩
  · exact .inl h0
  · exact .inr ⟨g, cap, cur, rfl, hb', (hb g rfl).trans hg, hr⟩
theorem kp {S : Nat → Prop} (h : OwnL w base v l) (hk : Kp S w w') (hs : ∀ k, v.ownBlock = some k → ¬ S k) : OwnL w' base v l :=
  h.of_block fun k e => hk.block k (h.lt k e) (hs k e)
end OwnL
/-- append of bytes -/
theorem wpList_append_bl (w : World) {ops : Array Oper} {rest : List Oper} {o : Oper} {a : Act} {Q : Exit → Act → World → Prop} (hgd : o.guard = none) (s x : Operand)
    (ho : o.op = .call { callee := .builtin .append, args := #[s, x], argTypes := #[34, 34] })
    (base : Nat) (v : Value) (l : Tx) (hs : a.eval s = v) (hown : OwnL w base v l)
    (A : Option Addr) (m c : Nat) (l' : Tx) (G : Nat → Prop) (hx : a.eval x = .slice A m c) (hm : l'.length = m) (hA : A = none → m = 0 ∧ c = 0) (hr : RdL w A l' G) (hb : l.length + m ≤ 140737488355328) (hbase : base ≤ w.heap.size)
    (h : ∀ v' w', OwnL w' base v' (l ++ l') → w.grownBy w' v.ownBlock → wpList Tryz.prog ops Q rest (a.put o.dst v') w') : wpList Tryz.prog ops Q (o :: rest) a w := by
  obtain ⟨i0, hi, hz0, hz1, hz2⟩ := info_parts infoB
  subst hm
  refine wpList_append_opt w hgd s x 34 ho base 5 i0 (.int .u8 0) 1 Tryz.underlying34 hi hz0 hz1 hz2 rfl v l.length (cellsL l) hs hown A l'.length c (cellsL l') hx hA (cellsL_len _) (fun ad had j u hu => ?_) cellsL_one (by unfold maxLen; omega) (by omega) hbase (fun v' w' h1 h2 => h v' w' (by rw [cellsL_append] at h1; unfold OwnL; rw [List.length_append]; exact h1) h2)
  obtain ⟨hj, rfl⟩ := cellsL_some hu
  obtain ⟨b, off, e, _, hc⟩ := hr (by omega)
  rw [had] at e
  cases e
  rw [addr_add]; exact hc j hj
/-- append of a text -/
theorem wpList_append_st (w : World) {ops : Array Oper} {rest : List Oper} {o : Oper} {a : Act} {Q : Exit → Act → World → Prop} (hgd : o.guard = none) (s x : Operand)
    (ho : o.op = .call { callee := .builtin .append, args := #[s, x], argTypes := #[34, 9] })
    (base : Nat) (v : Value) (l : Tx) (hs : a.eval s = v) (hown : OwnL w base v l) (l' : Tx) (hx : a.eval x = .string (tx l')) (hb : l.length + l'.length ≤ 140737488355328) (hbase : base ≤ w.heap.size)
    (h : ∀ v' w', OwnL w' base v' (l ++ l') → w.grownBy w' v.ownBlock → wpList Tryz.prog ops Q rest (a.put o.dst v') w') : wpList Tryz.prog ops Q (o :: rest) a w := by
  obtain ⟨i0, hi, hz0, hz1, hz2⟩ := info_parts infoB
  refine Lib.wpList_append_own_string w hgd s x 34 9 ho base 5 i0 Tryz.underlying34 Tryz.underlying9 hi hz0 hz1 hz2 v l.length (cellsL l) hs hown (tx l') hx (by rw [tx_size]; unfold maxLen; omega) (by rw [tx_size]; omega) hbase (fun v' w' h1 h2 _ => h v' w' ?_ h2)
  rw [cellsL_str, cellsL_append, tx_size] at h1
  unfold OwnL; rw [List.length_append]; exact h1
end Go.Proofs.YtcokmmanajdioaaGreat
namespace Go.Proofs.YtcokmmanajdioaaGreat
open Go.RowKit
open Pt (Tx)

/-- a byte as an element -/
def feB (c : UInt8) : Mx.Fe := Mx.mk c.toNat c.toNat_lt
/-- bytes as a row -/
def rowL (l : Tx) : Nat → Mx.Fe := fun i => feB (l.getD i 0)
theorem rowL_at {l : Tx} {i : Nat} (h : i < l.length) : fi (rowL l i) = (l[i].toNat : Int) := by
  unfold rowL fi feB
  rw [Mx.nat_mk, List.getD_eq_getElem?_getD, List.getElem?_eq_getElem h]; rfl
/-- bytes that read as a list read as a row -/
theorem RdL.rd {w : World} {A : Option Addr} {l : Tx} {G : Nat → Prop} (h : RdL w A l G) : Rd w A l.length (rowL l) G := fun hn => by
  obtain ⟨b, off, e, hg, hc⟩ := h hn
  exact ⟨b, off, e, hg, fun j hj => by rw [rowL_at hj]; exact hc j hj⟩
/-- an element as a byte -/
def byF (a : Mx.Fe) : UInt8 := UInt8.ofNat a.nat
theorem byF_nat (a : Mx.Fe) : (byF a).toNat = a.nat := by
  unfold byF
  rw [UInt8.toNat_ofNat', Nat.mod_eq_of_lt a.nat_lt]
theorem feB_byF (a : Mx.Fe) : feB (byF a) = a := by
  refine Mx.Fe.ext ?_
  unfold feB
  rw [Mx.nat_mk, byF_nat]
/-- a row as a list of bytes -/
def lst (r : Nat → Mx.Fe) (n : Nat) : Tx := (List.range n).map fun i => byF (r i)
theorem lst_len (r : Nat → Mx.Fe) (n : Nat) : (lst r n).length = n := by simp [lst]
theorem lst_at {r : Nat → Mx.Fe} {n i : Nat} (h : i < (lst r n).length) : ((lst r n)[i].toNat : Int) = fi (r i) := by
  simp only [lst, List.getElem_map, List.getElem_range]
  rw [byF_nat]; rfl
theorem rowL_lst {r : Nat → Mx.Fe} {n i : Nat} (h : i < n) : rowL (lst r n) i = r i := by
  refine fi_eq ?_
  rw [rowL_at (by rw [lst_len]; exact h), lst_at]
theorem lst_rowL (l : Tx) : lst (rowL l) l.length = l := by
  refine List.ext_getElem (lst_len _ _) fun i h h' => ?_
  refine UInt8.toNat.inj ?_
  have h1 := lst_at h
  rw [rowL_at h'] at h1
  omega
theorem lst_congr {r s : Nat → Mx.Fe} {n : Nat} (h : ∀ i, i < n → r i = s i) : lst r n = lst s n :=
  List.map_congr_left fun i hi => by rw [h i (List.mem_range.1 hi)]
/-- a row reads as a list -/
theorem Rd.rdL {w : World} {A : Option Addr} {n : Nat} {r : Nat → Mx.Fe} {G : Nat → Prop} (h : Rd w A n r G) : RdL w A (lst r n) G := fun hn => by
  rw [lst_len] at hn
  obtain ⟨b, off, e, hg, hc⟩ := h hn
  refine ⟨b, off, e, hg, fun j hj => ?_⟩
  rw [lst_at hj]
  rw [lst_len] at hj
  exact hc j hj
end Go.Proofs.YtcokmmanajdioaaGreat
namespace Go.Proofs.YtcokmmanajdioaaGreat.St
open Pt (Tx)

/-- a tape: its label, how many blocks fit, its blocks, whether it is lost -/
structure T where
  label : Int
  cap : Int
  blocks : List Tx
  lost : Bool
def one (t : T) : Nat := if t.lost = true then 0 else t.blocks.length
/-- the most blocks that one of them has -/
def len : List T → Nat
  | [] => 0
  | t :: ts => max (one t) (len ts)
theorem len_snoc : ∀ (l : List T) (t : T), len (l ++ [t]) = max (len l) (one t)
  | [], t => by show max (one t) 0 = max 0 (one t); omega
  | a :: l, t => by rw [List.cons_append, len, len, len_snoc l t]; omega
theorem len_take {l : List T} {i : Nat} (h : i < l.length) : len (l.take (i + 1)) = max (len (l.take i)) (one l[i]) := by
  rw [List.take_succ_eq_append_getElem h, len_snoc]
theorem len_all {l : List T} {n : Nat} (h : l.length ≤ n) : len (l.take n) = len l := by rw [List.take_of_length_le h]
theorem len_le {l : List T} {m : Nat} (h : ∀ t ∈ l, t.blocks.length ≤ m) : len l ≤ m := by
  induction l with
  | nil => exact Nat.zero_le _
  | cons t ts ih =>
    rw [len]
    have h1 := ih fun t ht => h t (List.mem_cons_of_mem _ ht)
    have h2 := h t List.mem_cons_self
    unfold one
    split <;> omega
theorem one_le_len {l : List T} {t : T} (h : t ∈ l) : one t ≤ len l := by
  induction l with
  | nil => cases h
  | cons a ts ih =>
    rw [len]
    rcases List.mem_cons.1 h with rfl | h
    · omega
    · have := ih h; omega
def zeros : Tx := List.replicate 79 0
theorem zeros_len : zeros.length = 79 := List.length_replicate ..
/-- block n of a tape, as its row has it -/
def blk (n : Int) (t : T) : Tx :=
  if t.lost = true ∨ n < 0 ∨ (t.blocks.length : Int) ≤ n then zeros else if (t.blocks.getD n.toNat []).length = 79 then t.blocks.getD n.toNat [] else []
def row (l : List T) (n : Int) : List Tx := l.map (blk n)
theorem row_len (l : List T) (n : Int) : (row l n).length = l.length := by simp [row]
theorem blk_none {n : Int} {t : T} (h : t.lost = true ∨ n < 0 ∨ (t.blocks.length : Int) ≤ n) : blk n t = zeros := if_pos h
theorem blk_some {n : Nat} {t : T} (hl : t.lost = false) (hn : n < t.blocks.length) (h : t.blocks[n].length = 79) : blk (n : Int) t = t.blocks[n] := by
  unfold blk
  rw [if_neg (by rw [hl]; simp; omega), show ((n : Int)).toNat = n by omega, List.getD_eq_getElem?_getD, List.getElem?_eq_getElem hn]
  exact if_pos h
theorem blk_bad {n : Nat} {t : T} (hl : t.lost = false) (hn : n < t.blocks.length) (h : t.blocks[n].length ≠ 79) : blk (n : Int) t = [] := by
  unfold blk
  rw [if_neg (by rw [hl]; simp; omega), show ((n : Int)).toNat = n by omega, List.getD_eq_getElem?_getD, List.getElem?_eq_getElem hn]
  exact if_neg h
theorem blk_len (n : Int) (t : T) : (blk n t).length = 79 ∨ (blk n t) = [] := by
  unfold blk
  split
  · exact .inl zeros_len
  · split
    · exact .inl (by assumption)
    · exact .inr rfl
/-- a row as a matrix -/
def mat (l : List Tx) : Mx.Mat := fun i => rowL (l.getD i [])
def lens (l : List Tx) : Nat → Nat := fun i => (l.getD i []).length
theorem lens_at {l : List Tx} {i : Nat} (h : i < l.length) : lens l i = l[i].length := by
  unfold lens; rw [List.getD_eq_getElem?_getD, List.getElem?_eq_getElem h]; rfl
theorem mat_at {l : List Tx} {i : Nat} (h : i < l.length) : mat l i = rowL l[i] := by
  unfold mat; rw [List.getD_eq_getElem?_getD, List.getElem?_eq_getElem h]; rfl
/-- every row is whole -/
def Whole (l : List T) : Prop := ∀ n : Nat, n < len l → ∀ t ∈ l, blk (n : Int) t ≠ []
/-- there may be so much parity -/
def Arg (l : List T) (p : Int) : Prop := 1 ≤ l.length ∧ 0 ≤ p ∧ (l.length : Int) + p ≤ 255
def Ok (l : List T) (p : Int) : Prop := Arg l p ∧ Whole l
open Classical in
noncomputable def err (l : List T) (p : Int) : Int := if Ok l p then 0 else 1
theorem whole_len {l : List T} (h : Whole l) {n : Nat} (hn : n < len l) {t : T} (ht : t ∈ l) : (blk (n : Int) t).length = 79 := by
  rcases blk_len n t with h' | h'
  · exact h'
  · exact absurd h' (h n hn t ht)
theorem whole_lens {l : List T} {n : Nat} (h : ∀ t ∈ l, blk (n : Int) t ≠ []) {i : Nat} (hi : i < l.length) : lens (row l n) i = 79 := by
  rw [lens_at (by rw [row_len]; exact hi)]
  simp only [row, List.getElem_map]
  rcases blk_len n l[i] with h' | h'
  · exact h'
  · exact absurd h' (h _ (List.getElem_mem hi))
end Go.Proofs.YtcokmmanajdioaaGreat.St
namespace Go.Proofs.YtcokmmanajdioaaGreat.Cr

abbrev W := BitVec 32
def poly : W := 0x82F63B78#32
/-- one bit is taken -/
def step (x : W) : W := if x.getLsbD 0 = true then (x >>> 1) ^^^ poly else x >>> 1
def steps : Nat → W → W
  | 0, x => x
  | n + 1, x => steps n (step x)
theorem steps_succ (n : Nat) (x : W) : steps (n + 1) x = steps n (step x) := rfl
theorem steps_out (n : Nat) (x : W) : steps (n + 1) x = step (steps n x) := by
  induction n generalizing x with
  | zero => rfl
  | succ n ih => rw [steps_succ, ih, ← steps_succ]
theorem steps_add (n m : Nat) (x : W) : steps (n + m) x = steps m (steps n x) := by
  induction n generalizing x with
  | zero => rw [Nat.zero_add]; rfl
  | succ n ih => rw [show n + 1 + m = (n + m) + 1 by omega, steps_succ, ih]; rfl
theorem step_zero : step 0#32 = 0#32 := by decide
theorem step_xor (x y : W) : step (x ^^^ y) = step x ^^^ step y := by
  unfold step
  rw [BitVec.getLsbD_xor, BitVec.ushiftRight_xor_distrib]
  generalize x >>> 1 = a
  generalize y >>> 1 = b
  cases x.getLsbD 0 <;> cases y.getLsbD 0
  · simp
  · simp [BitVec.xor_assoc]
  · simp only [Bool.xor_false, if_true, Bool.false_eq_true, if_false]
    rw [BitVec.xor_assoc, BitVec.xor_comm b, ← BitVec.xor_assoc]
  · simp only [Bool.xor_self, Bool.false_eq_true, if_false, if_true]
    rw [BitVec.xor_assoc, BitVec.xor_comm poly, BitVec.xor_assoc, BitVec.xor_self, BitVec.xor_zero]
theorem steps_xor (n : Nat) (x y : W) : steps n (x ^^^ y) = steps n x ^^^ steps n y := by
  induction n generalizing x y with
  | zero => rfl
  | succ n ih => rw [steps_succ, step_xor, ih]; rfl
theorem xor_eq_zero {x y : W} (h : x ^^^ y = 0#32) : x = y := by
  have h1 : x ^^^ y ^^^ y = 0#32 ^^^ y := by rw [h]
  rw [BitVec.xor_assoc, BitVec.xor_self, BitVec.xor_zero, BitVec.zero_xor] at h1
  exact h1
theorem step_ker {x : W} (h : step x = 0#32) : x = 0#32 := by
  unfold step at h
  by_cases e : x.getLsbD 0 = true
  · rw [if_pos e] at h
    have h1 := xor_eq_zero h
    have h2 : (x >>> 1).getLsbD 31 = poly.getLsbD 31 := by rw [h1]
    rw [BitVec.getLsbD_ushiftRight] at h2
    rw [BitVec.getLsbD_of_ge x (1 + 31) (by omega)] at h2
    exact absurd h2 (by decide)
  · rw [if_neg e] at h
    apply BitVec.eq_of_getLsbD_eq
    intro i hi
    rw [BitVec.getLsbD_zero]
    by_cases h0 : i = 0
    · rw [h0]; simpa using e
    · have h1 : (x >>> 1).getLsbD (i - 1) = (0#32).getLsbD (i - 1) := by rw [h]
      rw [BitVec.getLsbD_ushiftRight, BitVec.getLsbD_zero, show 1 + (i - 1) = i by omega] at h1
      exact h1
theorem steps_inj (n : Nat) {x y : W} (h : steps n x = steps n y) : x = y := by
  induction n generalizing x y with
  | zero => exact h
  | succ n ih =>
    have h1 := ih (x := step x) (y := step y) h
    apply xor_eq_zero
    apply step_ker
    rw [step_xor, h1, BitVec.xor_self]
/-- a byte is taken -/
def up (s : W) (b : Nat) : W := steps 8 (s ^^^ BitVec.ofNat 32 b)
def ups (s : W) (r : Nat → Nat) : Nat → W
  | 0 => s
  | n + 1 => up (ups s r n) (r n)
theorem ups_succ (s : W) (r : Nat → Nat) (n : Nat) : ups s r (n + 1) = up (ups s r n) (r n) := rfl
theorem ups_congr {s : W} {r r' : Nat → Nat} : ∀ n, (∀ i, i < n → r i = r' i) → ups s r n = ups s r' n
  | 0, _ => rfl
  | n + 1, h => by rw [ups_succ, ups_succ, ups_congr n (fun i hi => h i (by omega)), h n (by omega)]
theorem ups_join (s : W) (r : Nat → Nat) (n : Nat) : ∀ m, ups s r (n + m) = ups (ups s r n) (fun i => r (n + i)) m
  | 0 => rfl
  | m + 1 => by rw [← Nat.add_assoc, ups_succ, ups_succ, ups_join s r n m]
theorem up_inj {s s' : W} {b : Nat} (h : up s b = up s' b) : s = s' := by
  have h1 := steps_inj 8 h
  have h2 : s ^^^ BitVec.ofNat 32 b ^^^ BitVec.ofNat 32 b = s' ^^^ BitVec.ofNat 32 b ^^^ BitVec.ofNat 32 b := by rw [h1]
  rw [BitVec.xor_assoc, BitVec.xor_assoc, BitVec.xor_self, BitVec.xor_zero, BitVec.xor_zero] at h2
  exact h2
theorem up_inj_byte {s : W} {b b' : Nat} (hb : b < 256) (hb' : b' < 256) (h : up s b = up s b') : b = b' := by
  have h1 := steps_inj 8 h
  have h2 : s ^^^ (s ^^^ BitVec.ofNat 32 b) = s ^^^ (s ^^^ BitVec.ofNat 32 b') := by rw [h1]
  rw [← BitVec.xor_assoc, ← BitVec.xor_assoc, BitVec.xor_self, BitVec.zero_xor, BitVec.zero_xor] at h2
  have h3 := congrArg BitVec.toNat h2
  simp only [BitVec.toNat_ofNat] at h3
  omega
theorem ups_inj {s s' : W} {r : Nat → Nat} : ∀ n, ups s r n = ups s' r n → s = s'
  | 0, h => h
  | n + 1, h => ups_inj n (up_inj h)
/-- one byte that is another makes another sum -/
theorem ups_one {s : W} {r r' : Nat → Nat} {n k : Nat} (hk : k < n) (hb : r k < 256) (hb' : r' k < 256) (hne : r k ≠ r' k) (he : ∀ i, i < n → i ≠ k → r i = r' i) : ups s r n ≠ ups s r' n := by
  intro h
  obtain ⟨m, rfl⟩ : ∃ m, n = k + 1 + m := ⟨n - (k + 1), by omega⟩
  rw [ups_join s r (k + 1) m, ups_join s r' (k + 1) m, ups_congr (r := fun i => r (k + 1 + i)) (r' := fun i => r' (k + 1 + i)) m (fun i hi => he _ (by omega) (by omega))] at h
  have h1 := ups_inj m h
  rw [ups_succ, ups_succ, ups_congr (r := r) (r' := r') k (fun i hi => he i (by omega) (by omega))] at h1
  exact hne (up_inj_byte hb hb' h1)
/-! ### Bytes with their sum behind -/
theorem slide8 : ∀ b : Fin 256, steps 8 (BitVec.ofNat 32 b.val <<< 8) = BitVec.ofNat 32 b.val := by decide +kernel
theorem slide16 : ∀ b : Fin 256, steps 16 (BitVec.ofNat 32 b.val <<< 16) = BitVec.ofNat 32 b.val := by decide +kernel
theorem slide24 : ∀ b : Fin 256, steps 24 (BitVec.ofNat 32 b.val <<< 24) = BitVec.ofNat 32 b.val := by decide +kernel
theorem slide (n : Nat) (x y : W) (b : Nat) (h : steps n y = BitVec.ofNat 32 b) : up (steps n x) b = steps (n + 8) (x ^^^ y) := by
  rw [steps_add, steps_xor n x y, h]; rfl
theorem four (s : W) {b0 b1 b2 b3 : Nat} (h1 : b1 < 256) (h2 : b2 < 256) (h3 : b3 < 256) :
    up (up (up (up s b0) b1) b2) b3 = steps 32 (s ^^^ BitVec.ofNat 32 b0 ^^^ BitVec.ofNat 32 b1 <<< 8 ^^^ BitVec.ofNat 32 b2 <<< 16 ^^^ BitVec.ofNat 32 b3 <<< 24) := by
  have e1 : up (up s b0) b1 = steps 16 (s ^^^ BitVec.ofNat 32 b0 ^^^ BitVec.ofNat 32 b1 <<< 8) := slide 8 _ _ b1 (slide8 ⟨b1, h1⟩)
  have e2 : up (up (up s b0) b1) b2 = steps 24 (s ^^^ BitVec.ofNat 32 b0 ^^^ BitVec.ofNat 32 b1 <<< 8 ^^^ BitVec.ofNat 32 b2 <<< 16) := by
    rw [e1]; exact slide 16 _ _ b2 (slide16 ⟨b2, h2⟩)
  rw [e2]; exact slide 24 _ _ b3 (slide24 ⟨b3, h3⟩)
theorem bytes_of (v : W) : BitVec.ofNat 32 (v.toNat % 256) ^^^ BitVec.ofNat 32 (v.toNat / 256 % 256) <<< 8 ^^^ BitVec.ofNat 32 (v.toNat / 65536 % 256) <<< 16 ^^^ BitVec.ofNat 32 (v.toNat / 16777216 % 256) <<< 24 = v := by
  apply BitVec.eq_of_getLsbD_eq
  intro i hi
  have g : ∀ k j, (BitVec.ofNat 32 (v.toNat / 2 ^ k % 2 ^ 8)).getLsbD j = (decide (j < 8) && v.getLsbD (k + j)) := fun k j => by
    rw [BitVec.getLsbD_ofNat, Nat.testBit_mod_two_pow, Nat.testBit_div_two_pow]
    unfold BitVec.getLsbD
    by_cases h8 : j < 8
    · simp [h8, show j < 32 by omega, Nat.add_comm]
    · simp [h8]
  have g0 := g 0
  have g8 := g 8
  have g16 := g 16
  have g24 := g 24
  simp only [Nat.pow_zero, Nat.div_one, show (2 : Nat) ^ 8 = 256 from rfl, show (2 : Nat) ^ 16 = 65536 from rfl, show (2 : Nat) ^ 24 = 16777216 from rfl, Nat.zero_add] at g0 g8 g16 g24
  simp only [BitVec.getLsbD_xor, BitVec.getLsbD_shiftLeft, g0, g8, g16, g24]
  rcases (show i < 8 ∨ (8 ≤ i ∧ i < 16) ∨ (16 ≤ i ∧ i < 24) ∨ 24 ≤ i by omega) with h | h | h | h
  · simp [h, hi, show i < 16 by omega, show i < 24 by omega]
  · have e : 8 + (i - 8) = i := by omega
    simp [hi, show ¬ i < 8 by omega, show i - 8 < 8 by omega, show i < 16 by omega, show i < 24 by omega, e]
  · have e : 16 + (i - 16) = i := by omega
    simp [hi, show ¬ i < 8 by omega, show ¬ i - 8 < 8 by omega, show ¬ i < 16 by omega, show i - 16 < 8 by omega, show i < 24 by omega, e]
  · have e : 24 + (i - 24) = i := by omega
    simp [hi, show ¬ i < 8 by omega, show ¬ i - 8 < 8 by omega, show ¬ i < 16 by omega, show ¬ i - 16 < 8 by omega, show ¬ i < 24 by omega, show i - 24 < 8 by omega, e]
/-- with its own sum behind, the lowest byte first, whatever was summed comes to one sum -/
theorem at_end (s : W) : up (up (up (up s ((~~~s).toNat % 256)) ((~~~s).toNat / 256 % 256)) ((~~~s).toNat / 65536 % 256)) ((~~~s).toNat / 16777216 % 256) = 0xB798B438#32 := by
  rw [four s (Nat.mod_lt _ (by decide)) (Nat.mod_lt _ (by decide)) (Nat.mod_lt _ (by decide))]
  have h := bytes_of (~~~s)
  rw [BitVec.xor_assoc, BitVec.xor_assoc, BitVec.xor_assoc, ← BitVec.xor_assoc (BitVec.ofNat 32 ((~~~s).toNat % 256)), ← BitVec.xor_assoc (BitVec.ofNat 32 ((~~~s).toNat % 256) ^^^ _)]
  rw [h]
  rw [show s ^^^ ~~~s = BitVec.allOnes 32 by
    apply BitVec.eq_of_getLsbD_eq
    intro i hi
    simp only [BitVec.getLsbD_xor, BitVec.getLsbD_not, BitVec.getLsbD_allOnes, hi, decide_true, Bool.true_and]
    cases s.getLsbD i <;> rfl]
  decide +kernel
end Go.Proofs.YtcokmmanajdioaaGreat.Cr
namespace Go.Proofs.YtcokmmanajdioaaGreat
open Go.RowKit Mx

/-- a word as the number that a uint32 is -/
def bi (x : Cr.W) : Int := (x.toNat : Int)
theorem bi_lo (x : Cr.W) : 0 ≤ bi x := Int.natCast_nonneg _
theorem bi_hi (x : Cr.W) : bi x < 4294967296 := by have := x.isLt; unfold bi; omega
theorem ofInt_bi (x : Cr.W) : BitVec.ofInt 32 (bi x) = x := by
  unfold bi; rw [BitVec.ofInt_natCast]
  apply BitVec.eq_of_toNat_eq; rw [BitVec.toNat_ofNat]; exact Nat.mod_eq_of_lt x.isLt
theorem bi_inj {x y : Cr.W} (h : bi x = bi y) : x = y := by rw [← ofInt_bi x, h, ofInt_bi]
theorem bi_toNat (x : Cr.W) : (bi x).toNat = x.toNat := Int.toNat_natCast _
theorem wrap_bi (x : Cr.W) : IntKind.u32.wrap (x.toNat : Int) = bi x := by
  rw [IntKind.wrap_u32]; have := x.isLt; unfold bi; omega
theorem of_bi (n : Int) (h0 : 0 ≤ n) (h1 : n < 4294967296) : bi (BitVec.ofInt 32 n) = n := by
  obtain ⟨k, rfl⟩ := Int.eq_ofNat_of_zero_le h0
  unfold bi
  rw [BitVec.ofInt_natCast, BitVec.toNat_ofNat]
  omega
theorem xor_bi (x y : Cr.W) : bits BinOp.xor IntKind.u32 (bi x) (bi y) = bi (x ^^^ y) := by
  show IntKind.u32.wrap ((BitVec.ofInt 32 (bi x) ^^^ BitVec.ofInt 32 (bi y)).toNat : Int) = _
  rw [ofInt_bi, ofInt_bi, wrap_bi]
theorem and_bi (x y : Cr.W) : bits BinOp.and IntKind.u32 (bi x) (bi y) = bi (x &&& y) := by
  show IntKind.u32.wrap ((BitVec.ofInt 32 (bi x) &&& BitVec.ofInt 32 (bi y)).toNat : Int) = _
  rw [ofInt_bi, ofInt_bi, wrap_bi]
theorem bit_of (x : Cr.W) : bits BinOp.and IntKind.u32 (bi x) 1 = if x.getLsbD 0 = true then 1 else 0 := by
  have h : bits BinOp.and IntKind.u32 (bi x) (2 ^ 1 - 1) = bi x % 2 ^ 1 := bits_mask .u32 32 (by decide) (fun m h0 h1 => by rw [IntKind.wrap_u32]; omega) 1 (by decide) (bi x) (bi_lo x) (bi_hi x)
  have h2 : bits BinOp.and IntKind.u32 (bi x) 1 = bi x % (2 : Int) := h
  rw [h2]
  have : x.getLsbD 0 = decide (x.toNat % 2 = 1) := by
    unfold BitVec.getLsbD; rw [Nat.testBit_zero]
  rw [this]
  unfold bi
  by_cases e : x.toNat % 2 = 1
  · rw [if_pos (by simpa using e)]; omega
  · rw [if_neg (by simpa using e)]; omega
theorem half_bi (x : Cr.W) : bi x / (2 : Int) = bi (x >>> (1 : Nat)) := by
  unfold bi; rw [BitVec.toNat_ushiftRight, Nat.shiftRight_eq_div_pow]; omega
theorem poly_bi : (2197175160 : Int) = bi Cr.poly := by decide
theorem ones_bi : (4294967295 : Int) = bi (BitVec.allOnes 32) := by decide
theorem not_bi (x : Cr.W) : bits BinOp.xor IntKind.u32 (bi x) 4294967295 = bi (~~~x) := by
  rw [ones_bi, xor_bi, BitVec.xor_allOnes]
theorem not_bi' (x : Cr.W) : bits BinOp.xor IntKind.u32 4294967295 (bi x) = bi (~~~x) := by
  rw [ones_bi, xor_bi, BitVec.allOnes_xor]
theorem not_max (x : Cr.W) : bits BinOp.xor IntKind.u32 IntKind.u32.max (bi x) = bi (~~~x) := by
  rw [show IntKind.u32.max = 4294967295 by decide]; exact not_bi' x
theorem byte_bi (x : Cr.W) (a : Fe) : bits BinOp.xor IntKind.u32 (bi x) (fi a) = bi (x ^^^ BitVec.ofNat 32 a.nat) := by
  have h : fi a = bi (BitVec.ofNat 32 a.nat) := by
    have := a.nat_lt
    unfold fi bi; rw [BitVec.toNat_ofNat]; omega
  rw [h, xor_bi]
theorem step_even {x : Cr.W} (h : x.getLsbD 0 = false) : bi x / (2 : Int) = bi (Cr.step x) := by
  unfold Cr.step; rw [if_neg (by rw [h]; decide)]; exact half_bi x
theorem step_odd {x : Cr.W} (h : x.getLsbD 0 = true) : bits BinOp.xor IntKind.u32 (bi x / (2 : Int)) 2197175160 = bi (Cr.step x) := by
  unfold Cr.step; rw [if_pos h, half_bi, poly_bi, xor_bi]
theorem ret_u32 {a b : Int} (h : a = b) : Ending.returned (.int .u32 a) = .returned (.int .u32 b) := by rw [h]
theorem val_u32 {a b : Int} (h : a = b) : Value.int .u32 a = .int .u32 b := by rw [h]
/-- the sum s of what is ahead, gone on with the n bytes of r -/
def crc (s : Cr.W) (r : Nat → Fe) (n : Nat) : Cr.W := ~~~(Cr.ups (~~~s) (fun i => (r i).nat) n)
end Go.Proofs.YtcokmmanajdioaaGreat
