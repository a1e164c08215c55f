/- Texts in memory: a string is a list of bytes. No function of the program. A slice of strings that reads as texts. No function of the program. append of a source that may be nil, onto a row of the call's own. No function of the program. A []byte that reads as a list of bytes, and one that a call owns and makes longer by append. No function of the program. Words of 32 bits as the numbers of a uint32: bits, halves, what is turned round. No function of the program. Numbers of a byte and of an int: bits, and the field of 256 on whole numbers (gmul, gadd, ginv, gpow). No function of the program. What the walk is told of a row of bytes that came in as an argument. What the walk is told of bytes that came in as an argument, as a list. What the walk is told of a row of numbers, and the low bits of a number. No function of the program. Chapter 9's blocks as lists of bytes: which block a unit is, which unit bytes are. No function of the program. Tapes that read: a slice of slices of bytes as a list of texts. No function of the program. A slice of slices of bytes: what its element is. No function of the program. A slice of structs that reads as a list of plain data, and one that a call owns and makes longer by append: each struct is some cells, as many for each. No function of the program. Chapter 11's tapes as lists of blocks: which block is good, which parts lie there, how much is kept; which blocks a part is. No program. Parts that were laid one behind the other, what was cut behind them, and what rotted among them: what is found, and how much is kept. No program. Parts laid one behind the other, one more at a time; how long their blocks are. No program. -/
import Derived.Test.YtbcncmampabmfaaDoorMa
import Derived.Test.YtbcncmampabmfaaDoorRows
import Derived.Laws.OwnMore
import Derived.Laws.Concat
import Derived.Laws.Strings2
import Derived.Laws.NewBlocks
import Derived.WalkKit
import Derived.Lib.Hide
import Derived.Deep.AppendLies
import Derived.Below
import Derived.Laws.AppendOwn
import Derived.Laws.AppendOwnNone
import Derived.Lib.AppendStr
import Derived.Lib.BufferWrite
import Derived.Laws.IdiomStrings
import Derived.Laws.BytesArg
import Derived.ProofKit
import Derived.Laws.BitsLemmas
import Derived.IntWalk
import Derived.OpenShut
import Derived.Deep.Slices
import Derived.Deep.Fields
import Derived.Deep.Matrix
import Derived.Test.YtbcncmampabmfaaDoorChecked
namespace Go.Proofs.YtbcncmampabmfaaDoor
open Go.RowKit
open Pt (Tx)

/-- a text as a string -/
def tx (l : Tx) : ByteArray := ⟨l.toArray⟩
theorem tx_toList (l : Tx) : (tx l).toList = l := ByteArray.toList_mk l
theorem tx_data (l : Tx) : (tx l).data.toList = l := by simp [tx]
theorem tx_size (l : Tx) : (tx l).size = l.length := by simp [tx, ByteArray.size]
theorem tx_eta (s : ByteArray) : tx s.data.toList = s := by apply ByteArray.ext; simp [tx]
theorem tx_of {s : ByteArray} {l : Tx} (h : s.data.toList = l) : s = tx l := by rw [← h, tx_eta]
theorem tx_append (a b : Tx) : tx a ++ tx b = tx (a ++ b) := ByteArray.mk_append_mk a b
theorem tx_extract (l : Tx) (i j : Nat) : (tx l).extract i j = tx ((l.drop i).take (j - i)) := ByteArray.extract_mk l i j
theorem tx_get (l : Tx) (k : Nat) (h : k < (tx l).size) (h' : k < l.length) : (tx l)[k]'h = l[k] := by
  show (tx l).data[k]'_ = _
  simp [tx]
theorem tx_inj {a b : Tx} (h : tx a = tx b) : a = b := by rw [← tx_toList a, h, tx_toList]
end Go.Proofs.YtbcncmampabmfaaDoor
namespace Go.Proofs.YtbcncmampabmfaaDoor
open Go.RowKit
open Pt (Tx)

/-- the cells of texts -/
def cellsT (ps : List Tx) : List Value := ps.map fun p => .string (tx p)
theorem cellsT_len (ps : List Tx) : (cellsT ps).length = ps.length := by simp [cellsT]
theorem cellsT_get {ps : List Tx} {j : Nat} {p : Tx} (h : ps[j]? = some p) : (cellsT ps)[j]? = some (.string (tx p)) := by simp [cellsT, h]
/-- a slice of strings that reads as texts -/
def TxR (w : World) (A : Option Addr) (ps : List Tx) : Prop := 0 < ps.length → ∃ b off, A = some ⟨b, off, none⟩ ∧ ∀ j p, ps[j]? = some p → w.cell? ⟨b, off + j, none⟩ = some (.string (tx p))
theorem TxR.empty (w : World) (A : Option Addr) : TxR w A [] := fun h => absurd h (by simp)
theorem TxR.old {w w' : World} {A : Option Addr} {ps : List Tx} (h : TxR w A ps) (hb : Below w.heap.size w w') : TxR w' A ps := fun h0 => by
  obtain ⟨b, off, e, hc⟩ := h h0
  refine ⟨b, off, e, fun j p hp => ?_⟩
  have := hc j p hp
  rw [hb.cell (World.block_lt_of_cell? _ _ this)]; exact this
theorem TxR.at {w : World} {A : Option Addr} {ps : List Tx} (h : TxR w A ps) {j : Nat} (hj : j < ps.length) : ∃ b off, A = some ⟨b, off, none⟩ ∧ w.cell? ⟨b, off + j, none⟩ = some (.string (tx ps[j])) := by
  obtain ⟨b, off, e, hc⟩ := h (by omega)
  exact ⟨b, off, e, hc j _ (List.getElem?_eq_getElem hj)⟩
/-- texts made by append -/
theorem TxR.of_owns {w : World} {B : Nat} {v : Value} {n : Nat} {ps : List Tx} (h : w.ownsRow B 9 1 v n (cellsT ps)) : ∃ A c, v = .slice A ps.length c ∧ TxR w A ps := by
  have hn : n = ps.length := by have := h.1; rw [cellsT_len] at this; omega
  subst hn
  rcases Nat.eq_zero_or_pos ps.length with h0 | h0
  · rcases h.2 with ⟨rfl, _⟩ | ⟨g, cap, cur, rfl, _⟩
    · exact ⟨none, 0, by rw [h0], fun h => absurd h (by omega)⟩
    · exact ⟨_, cap, rfl, fun h => absurd h (by omega)⟩
  · obtain ⟨g, cap, hv, _, _⟩ := h.form h0
    refine ⟨some ⟨g, 0, none⟩, cap, hv, fun _ => ⟨g, 0, rfl, fun j p hp => ?_⟩⟩
    have := h.cells (g := g) (by rw [hv]; rfl) j _ (cellsT_get hp)
    have e : (⟨g, 0, none⟩ : Addr).add j = ⟨g, j, none⟩ := by unfold Addr.add; split <;> simp_all
    rw [e] at this
    rw [Nat.zero_add]; exact this
end Go.Proofs.YtbcncmampabmfaaDoor
namespace Go.Proofs.YtbcncmampabmfaaDoor

theorem grown_refl (w : World) (o : Option Nat) : w.grownBy w o := ⟨rfl, rfl, rfl, Nat.le_refl _, fun _ _ _ => rfl⟩
/-- append of what may be nil -/
theorem wpList_append_opt {P : Program} (w : World) {ops : Array Oper} {rest : List Oper} {o : Oper} {a : Act} {Q : Exit → Act → World → Prop} (hgd : o.guard = none) (s x : Operand) (t : TypeId)
    (ho : o.op = .call { callee := .builtin .append, args := #[s, x], argTypes := #[t, t] })
    (base : Nat) (e : TypeId) (i : TypeInfo) (z : Value) (bytes : Nat) (ht : P.underlying t = some (.slice e)) (hi : P.info? e = some i) (hz : i.zero = some z)
    (hsize : i.size = 1) (hby : i.bytes = bytes) (hzs : z.cells.size = 1)
    (v : Value) (n : Nat) (xs : List Value) (hs : a.eval s = v) (hown : w.ownsRow base e 1 v n xs)
    (A : Option Addr) (m c : Nat) (news : List Value) (hx : a.eval x = .slice A m c) (hA : A = none → m = 0 ∧ c = 0) (hl : news.length = m) (hnews : ∀ ad, A = some ad → ∀ j u, news[j]? = some u → w.cell? (ad.add j) = some u) (h1 : ∀ u ∈ news, u.oneCell' = true)
    (h63 : n + m ≤ maxLen) (hbytes : (n + m) * bytes ≤ 140737488355328) (hbase : base ≤ w.heap.size)
    (h : ∀ v' w', w'.ownsRow base e 1 v' (n + m) (xs ++ news) → w.grownBy w' v.ownBlock → wpList P ops Q rest (a.put o.dst v') w') : wpList P ops Q (o :: rest) a w := by
  cases A with
  | none =>
    obtain ⟨rfl, rfl⟩ := hA rfl
    have hn : news = [] := List.length_eq_zero_iff.1 hl
    subst hn
    refine wpList_append_own_none hgd s x t ho base e i 1 ht hi v n xs hs hown hx (h v w ?_ (grown_refl w _))
    rw [List.append_nil]; exact hown
  | some ad =>
    exact wpList_append_own w hgd s x t ho base e i z 1 bytes ht hi hz hsize hby hzs (by decide) v n xs hs hown ad m c news hx (by rw [hl, Nat.mul_one]) (hnews ad rfl) h1 h63 hbytes hbase (fun v' w' h2 h3 _ => h v' w' h2 h3)
end Go.Proofs.YtbcncmampabmfaaDoor
namespace Go.Proofs.YtbcncmampabmfaaDoor
open Go.RowKit
open Pt (Tx)

/-- the slice at A reads as the bytes l, and lies in a block of G -/
def RdL (w : World) (A : Option Addr) (l : Tx) (G : Nat → Prop) : Prop :=
  0 < l.length → ∃ b off, A = some ⟨b, off, none⟩ ∧ G b ∧ ∀ j (hj : j < l.length), w.cell? ⟨b, off + j, none⟩ = some (.int .u8 (l[j].toNat : Int))
namespace RdL
variable {w w' : World} {A : Option Addr} {l : Tx} {G G' S : Nat → Prop}
theorem empty (w : World) (A : Option Addr) (G : Nat → Prop) : RdL w A [] G := fun h => absurd h (by simp)
theorem keep (h : RdL w A l G) (hk : ∀ p v, G p.block → w.cell? p = some v → w'.cell? p = some v) : RdL w' A l G := by
  intro hn
  obtain ⟨b, off, e, hg, hc⟩ := h hn
  exact ⟨b, off, e, hg, fun j hj => hk _ _ hg (hc j hj)⟩
theorem mono (h : RdL w A l G) (hg : ∀ b, G b → G' b) : RdL w A l G' := by
  intro hn
  obtain ⟨b, off, e, hg', hc⟩ := h hn
  exact ⟨b, off, e, hg _ hg', hc⟩
theorem kp (h : RdL w A l G) (hk : Kp S w w') (hs : ∀ b, G b → ¬ S b) : RdL w' A l G := h.keep fun _ _ hg hc => hk.cell hc (hs _ hg)
theorem old (h : RdL w A l G) (hb : Below w.heap.size w w') : RdL w' A l G := h.keep fun _ _ _ hc => (hb.cell (World.block_lt_of_cell? _ _ hc)).trans hc
theorem below {B : Nat} (h : RdL w A l (· < B)) (hb : Below B w w') : RdL w' A l (· < B) := h.keep fun _ _ hg hc => (hb.cell hg).trans hc
theorem in_ (h : RdL w A l G) : RdL w A l (fun b => G b ∧ b < w.heap.size) := by
  intro hn
  obtain ⟨b, off, e, hg, hc⟩ := h hn
  exact ⟨b, off, e, ⟨hg, World.block_lt_of_cell? _ _ (hc 0 hn)⟩, hc⟩
/-- a block with something else in it is none of it -/
theorem apart {g : Nat} (h : RdL w A l G) (hg : ∀ off j x, w.cell? ⟨g, off + j, none⟩ ≠ some (.int .u8 x)) : RdL w A l (fun b => G b ∧ b ≠ g) := by
  intro hn
  obtain ⟨b, off, e, hb, hc⟩ := h hn
  refine ⟨b, off, e, ⟨hb, fun e => ?_⟩, hc⟩
  subst e
  exact hg _ _ _ (hc 0 hn)
theorem at_ (h : RdL w A l G) {j : Nat} (hj : j < l.length) : ∃ b off, A = some ⟨b, off, none⟩ ∧ G b ∧ w.cell? ⟨b, off + j, none⟩ = some (.int .u8 (l[j].toNat : Int)) := by
  obtain ⟨b, off, e, hg, hc⟩ := h (by omega)
  exact ⟨b, off, e, hg, hc j hj⟩
theorem take (h : RdL w A l G) (n : Nat) : RdL w A (l.take n) G := by
  intro hn
  obtain ⟨b, off, e, hg, hc⟩ := h (by simp at hn; omega)
  refine ⟨b, off, e, hg, fun j hj => ?_⟩
  rw [List.getElem_take]; exact hc j (by simp at hj; omega)
theorem drop {b off : Nat} (h : RdL w (some ⟨b, off, none⟩) l G) (n : Nat) : RdL w (some ⟨b, off + n, none⟩) (l.drop n) G := by
  intro hn
  obtain ⟨b', off', e, hg, hc⟩ := h (by simp at hn; omega)
  cases e
  refine ⟨b, off + n, rfl, hg, fun j hj => ?_⟩
  rw [List.getElem_drop, Nat.add_assoc]; exact hc (n + j) (by simp at hj; omega)
end RdL
/-- the cells of bytes -/
def cellsL (l : Tx) : List Value := l.map fun c => .int .u8 (c.toNat : Int)
theorem cellsL_len (l : Tx) : (cellsL l).length = l.length := by simp [cellsL]
theorem cellsL_append (a b : Tx) : cellsL a ++ cellsL b = cellsL (a ++ b) := by simp [cellsL]
theorem cellsL_str (l : Tx) : Lib.strCells (tx l) = cellsL l := by simp [Lib.strCells, cellsL, tx]
theorem cellsL_one {l : Tx} : ∀ u ∈ cellsL l, u.oneCell' = true := by
  intro u hu
  simp only [cellsL, List.mem_map] at hu
  obtain ⟨j, _, rfl⟩ := hu
  rfl
theorem cellsL_get {l : Tx} {j : Nat} (hj : j < l.length) : (cellsL l)[j]? = some (.int .u8 (l[j].toNat : Int)) := by simp [cellsL, hj]
theorem cellsL_some {l : Tx} {j : Nat} {u : Value} (h : (cellsL l)[j]? = some u) : ∃ hj : j < l.length, u = .int .u8 (l[j].toNat : Int) := by
  have hj : j < l.length := by
    rcases Nat.lt_or_ge j l.length with h' | h'
    · exact h'
    · rw [List.getElem?_eq_none (by rw [cellsL_len]; exact h')] at h; cases h
  rw [cellsL_get hj] at h
  exact ⟨hj, (Option.some.inj h).symm⟩
theorem addr_add (b off j : Nat) : (⟨b, off, none⟩ : Addr).add j = ⟨b, off + j, none⟩ := by
  unfold Addr.add
  by_cases h : j = 0 <;> simp [h]
theorem RdL.of_cells {w : World} {g n : Nat} {l : Tx} {c : Array Value} {t : TypeId} {fr : Nat × Nat} (h : w.heap[g]? = some (.cells c t fr)) (hc : ∀ j (hj : j < l.length), c[n + j]? = some (.int .u8 (l[j].toNat : Int))) : RdL w (some ⟨g, n, none⟩) l (· = g) :=
  fun _ => ⟨g, n, rfl, rfl, fun j hj => by simp [World.cell?, h, hc j hj]⟩
/-- string(b) -/
theorem RdL.str {w : World} {A : Option Addr} {l : Tx} {G : Nat → Prop} (h : RdL w A l G) (c : Nat) : (convert 24 9 (.slice A l.length c)).run Tryd.prog w = .ok (.string (tx l)) w := by
  cases A with
  | none =>
    have h0 : l = [] := by
      rcases Nat.eq_zero_or_pos l.length with h0 | h0
      · exact List.length_eq_zero_iff.1 h0
      · obtain ⟨b, off, e, _⟩ := h h0; cases e
    subst h0
    exact run_convert_bytes_nil w 24 5 Tryd.underlying24 Tryd.underlying5 _ c 9 Tryd.underlying9
  | some a =>
    refine run_convert_bytes_back w 24 9 5 a c l Tryd.underlying24 Tryd.underlying5 Tryd.underlying9 fun j hj => ?_
    obtain ⟨b, off, e, _, hc⟩ := h (by omega)
    cases e
    rw [addr_add]; exact hc j hj
theorem infoB : (Tryd.prog.info? 5).map (fun i => (i.zero, i.size, i.bytes)) = some (some (.int .u8 0), 1, 1) := by kernel_rfl
/-- v is a slice of the call's own that holds the bytes l -/
def OwnL (w : World) (base : Nat) (v : Value) (l : Tx) : Prop := w.ownsRow base 5 1 v l.length (cellsL l)
namespace OwnL
variable {w w' : World} {base : Nat} {v : Value} {l : Tx}
theorem nil (w : World) (base : Nat) : OwnL w base (.slice none 0 0) [] := World.ownsRow_nil _ _ _ _
theorem alloc (h : OwnL w base v l) (o : Obj) : OwnL (w.alloc o) base v l := World.ownsRow.alloc h o
/-- as what reads -/
theorem rd (h : OwnL w base v l) : ∃ A C, v = .slice A l.length C ∧ l.length ≤ C ∧ C ≤ maxLen ∧ (A = none → l.length = 0 ∧ C = 0) ∧ RdL w A l (fun b => base ≤ b ∧ v.ownBlock = some b) := by
  rcases h.2 with ⟨rfl, h0⟩ | ⟨g, cap, cur, rfl, hb, hg, hnc, hcm, hs, ht⟩
  · have : l = [] := List.length_eq_zero_iff.1 h0
    subst this
    exact ⟨none, 0, rfl, Nat.le_refl _, by decide, fun _ => ⟨rfl, rfl⟩, RdL.empty _ _ _⟩
  · refine ⟨_, cap, rfl, hnc, hcm, (fun h => by cases h), fun _ => ⟨g, 0, rfl, ⟨hb, rfl⟩, fun j hj => ?_⟩⟩
    have hx := cellsL_get hj
    rw [← ht, List.getElem?_take, if_pos (by omega), Array.getElem?_toList] at hx
    simp [World.cell?, hg, hx]
theorem lo (h : OwnL w base v l) : ∀ k, v.ownBlock = some k → base ≤ k := fun k hk => (World.ownsRow.lt h k hk).1
theorem lt (h : OwnL w base v l) : ∀ k, v.ownBlock = some k → k < w.heap.size := fun k hk => (World.ownsRow.lt h k hk).2
/-- its block, if it has one -/
theorem block (h : OwnL w base v l) : ∀ k, v.ownBlock = some k → ∃ c, w.heap[k]? = some (.cells c 5 (0, 0)) := by
  intro k hk
  rcases h.2 with ⟨rfl, h0⟩ | ⟨g, cap, cur, rfl, hb, hg, hnc, _, hs, ht⟩
  · cases hk
  · cases hk; exact ⟨cur, hg⟩
theorem of_block (h : OwnL w base v l) (hb : ∀ k, v.ownBlock = some k → w'.heap[k]? = w.heap[k]?) : OwnL w' base v l := by
  refine ⟨h.1, ?_⟩
  rcases h.2 with h0 | ⟨g, cap, cur, rfl, hb', hg, hr⟩
  · exact .inl h0
  · exact .inr ⟨g, cap, cur, rfl, hb', (hb g rfl).trans hg, hr⟩
theorem kp {S : Nat → Prop} (h : OwnL w base v l) (hk : Kp S w w') (hs : ∀ k, v.ownBlock = some k → ¬ S k) : OwnL w' base v l :=
  h.of_block fun k e => hk.block k (h.lt k e) (hs k e)
end OwnL
/-- append of bytes -/
theorem wpList_append_bl (w : World) {ops : Array Oper} {rest : List Oper} {o : Oper} {a : Act} {Q : Exit → Act → World → Prop} (hgd : o.guard = none) (s x : Operand)
    (ho : o.op = .call { callee := .builtin .append, args := #[s, x], argTypes := #[24, 24] })
    (base : Nat) (v : Value) (l : Tx) (hs : a.eval s = v) (hown : OwnL w base v l)
    (A : Option Addr) (m c : Nat) (l' : Tx) (G : Nat → Prop) (hx : a.eval x = .slice A m c) (hm : l'.length = m) (hA : A = none → m = 0 ∧ c = 0) (hr : RdL w A l' G) (hb : l.length + m ≤ 140737488355328) (hbase : base ≤ w.heap.size)
    (h : ∀ v' w', OwnL w' base v' (l ++ l') → w.grownBy w' v.ownBlock → wpList Tryd.prog ops Q rest (a.put o.dst v') w') : wpList Tryd.prog ops Q (o :: rest) a w := by
  obtain ⟨i0, hi, hz0, hz1, hz2⟩ := info_parts infoB
  subst hm
  refine wpList_append_opt w hgd s x 24 ho base 5 i0 (.int .u8 0) 1 Tryd.underlying24 hi hz0 hz1 hz2 rfl v l.length (cellsL l) hs hown A l'.length c (cellsL l') hx hA (cellsL_len _) (fun ad had j u hu => ?_) cellsL_one (by unfold maxLen; omega) (by omega) hbase (fun v' w' h1 h2 => h v' w' (by rw [cellsL_append] at h1; unfold OwnL; rw [List.length_append]; exact h1) h2)
  obtain ⟨hj, rfl⟩ := cellsL_some hu
  obtain ⟨b, off, e, _, hc⟩ := hr (by omega)
  rw [had] at e
  cases e
  rw [addr_add]; exact hc j hj
/-- append of a text -/
theorem wpList_append_st (w : World) {ops : Array Oper} {rest : List Oper} {o : Oper} {a : Act} {Q : Exit → Act → World → Prop} (hgd : o.guard = none) (s x : Operand)
    (ho : o.op = .call { callee := .builtin .append, args := #[s, x], argTypes := #[24, 9] })
    (base : Nat) (v : Value) (l : Tx) (hs : a.eval s = v) (hown : OwnL w base v l) (l' : Tx) (hx : a.eval x = .string (tx l')) (hb : l.length + l'.length ≤ 140737488355328) (hbase : base ≤ w.heap.size)
    (h : ∀ v' w', OwnL w' base v' (l ++ l') → w.grownBy w' v.ownBlock → wpList Tryd.prog ops Q rest (a.put o.dst v') w') : wpList Tryd.prog ops Q (o :: rest) a w := by
  obtain ⟨i0, hi, hz0, hz1, hz2⟩ := info_parts infoB
  refine Lib.wpList_append_own_string w hgd s x 24 9 ho base 5 i0 Tryd.underlying24 Tryd.underlying9 hi hz0 hz1 hz2 v l.length (cellsL l) hs hown (tx l') hx (by rw [tx_size]; unfold maxLen; omega) (by rw [tx_size]; omega) hbase (fun v' w' h1 h2 _ => h v' w' ?_ h2)
  rw [cellsL_str, cellsL_append, tx_size] at h1
  unfold OwnL; rw [List.length_append]; exact h1
/-- what a block holds behind a store -/
theorem heap_set {w : World} {g j : Nat} {c : Array Value} {t : TypeId} {fr : Nat × Nat} (h : w.heap[g]? = some (.cells c t fr)) (v : Value) : (w.setCell ⟨g, j, none⟩ v).heap[g]? = some (.cells (c.setIfInBounds j v) t fr) := by
  simp [World.setCell, Array.getElem?_modify, h]
theorem heap_cell {w : World} {g j : Nat} {c : Array Value} {t : TypeId} {fr : Nat × Nat} (h : w.heap[g]? = some (.cells c t fr)) : w.cell? ⟨g, j, none⟩ = c[j]? := by simp [World.cell?, h]
theorem heap_frozen {w : World} {g j : Nat} {c : Array Value} {t : TypeId} (h : w.heap[g]? = some (.cells c t (0, 0))) : w.frozen? ⟨g, j, none⟩ = false := by simp [World.frozen?, h]
theorem heap_lt {w : World} {g : Nat} {o : Obj} (h : w.heap[g]? = some o) : g < w.heap.size := (Array.getElem?_eq_some_iff.1 h).1
end Go.Proofs.YtbcncmampabmfaaDoor
namespace Go.Proofs.YtbcncmampabmfaaDoor
open Go.RowKit Mx

/-- a word as the number that a uint32 is -/
def bi (x : Cr.W) : Int := (x.toNat : Int)
theorem bi_lo (x : Cr.W) : 0 ≤ bi x := Int.natCast_nonneg _
theorem bi_hi (x : Cr.W) : bi x < 4294967296 := by have := x.isLt; unfold bi; omega
theorem ofInt_bi (x : Cr.W) : BitVec.ofInt 32 (bi x) = x := by
  unfold bi; rw [BitVec.ofInt_natCast]
  apply BitVec.eq_of_toNat_eq; rw [BitVec.toNat_ofNat]; exact Nat.mod_eq_of_lt x.isLt
theorem bi_inj {x y : Cr.W} (h : bi x = bi y) : x = y := by rw [← ofInt_bi x, h, ofInt_bi]
theorem bi_toNat (x : Cr.W) : (bi x).toNat = x.toNat := Int.toNat_natCast _
theorem wrap_bi (x : Cr.W) : IntKind.u32.wrap (x.toNat : Int) = bi x := by
  rw [IntKind.wrap_u32]; have := x.isLt; unfold bi; omega
theorem of_bi (n : Int) (h0 : 0 ≤ n) (h1 : n < 4294967296) : bi (BitVec.ofInt 32 n) = n := by
  obtain ⟨k, rfl⟩ := Int.eq_ofNat_of_zero_le h0
  unfold bi
  rw [BitVec.ofInt_natCast, BitVec.toNat_ofNat]
  omega
theorem xor_bi (x y : Cr.W) : bits BinOp.xor IntKind.u32 (bi x) (bi y) = bi (x ^^^ y) := by
  show IntKind.u32.wrap ((BitVec.ofInt 32 (bi x) ^^^ BitVec.ofInt 32 (bi y)).toNat : Int) = _
  rw [ofInt_bi, ofInt_bi, wrap_bi]
theorem and_bi (x y : Cr.W) : bits BinOp.and IntKind.u32 (bi x) (bi y) = bi (x &&& y) := by
  show IntKind.u32.wrap ((BitVec.ofInt 32 (bi x) &&& BitVec.ofInt 32 (bi y)).toNat : Int) = _
  rw [ofInt_bi, ofInt_bi, wrap_bi]
theorem bit_of (x : Cr.W) : bits BinOp.and IntKind.u32 (bi x) 1 = if x.getLsbD 0 = true then 1 else 0 := by
  have h : bits BinOp.and IntKind.u32 (bi x) (2 ^ 1 - 1) = bi x % 2 ^ 1 := bits_mask .u32 32 (by decide) (fun m h0 h1 => by rw [IntKind.wrap_u32]; omega) 1 (by decide) (bi x) (bi_lo x) (bi_hi x)
  have h2 : bits BinOp.and IntKind.u32 (bi x) 1 = bi x % (2 : Int) := h
  rw [h2]
  have : x.getLsbD 0 = decide (x.toNat % 2 = 1) := by
    unfold BitVec.getLsbD; rw [Nat.testBit_zero]
  rw [this]
  unfold bi
  by_cases e : x.toNat % 2 = 1
  · rw [if_pos (by simpa using e)]; omega
  · rw [if_neg (by simpa using e)]; omega
theorem half_bi (x : Cr.W) : bi x / (2 : Int) = bi (x >>> (1 : Nat)) := by
  unfold bi; rw [BitVec.toNat_ushiftRight, Nat.shiftRight_eq_div_pow]; omega
theorem poly_bi : (2197175160 : Int) = bi Cr.poly := by decide
theorem ones_bi : (4294967295 : Int) = bi (BitVec.allOnes 32) := by decide
theorem not_bi (x : Cr.W) : bits BinOp.xor IntKind.u32 (bi x) 4294967295 = bi (~~~x) := by
  rw [ones_bi, xor_bi, BitVec.xor_allOnes]
theorem not_bi' (x : Cr.W) : bits BinOp.xor IntKind.u32 4294967295 (bi x) = bi (~~~x) := by
  rw [ones_bi, xor_bi, BitVec.allOnes_xor]
theorem not_max (x : Cr.W) : bits BinOp.xor IntKind.u32 IntKind.u32.max (bi x) = bi (~~~x) := by
  rw [show IntKind.u32.max = 4294967295 by decide]; exact not_bi' x
theorem byte_bi (x : Cr.W) (a : Fe) : bits BinOp.xor IntKind.u32 (bi x) (fi a) = bi (x ^^^ BitVec.ofNat 32 a.nat) := by
  have h : fi a = bi (BitVec.ofNat 32 a.nat) := by
    have := a.nat_lt
    unfold fi bi; rw [BitVec.toNat_ofNat]; omega
  rw [h, xor_bi]
theorem step_even {x : Cr.W} (h : x.getLsbD 0 = false) : bi x / (2 : Int) = bi (Cr.step x) := by
  unfold Cr.step; rw [if_neg (by rw [h]; decide)]; exact half_bi x
theorem step_odd {x : Cr.W} (h : x.getLsbD 0 = true) : bits BinOp.xor IntKind.u32 (bi x / (2 : Int)) 2197175160 = bi (Cr.step x) := by
  unfold Cr.step; rw [if_pos h, half_bi, poly_bi, xor_bi]
theorem ret_u32 {a b : Int} (h : a = b) : Ending.returned (.int .u32 a) = .returned (.int .u32 b) := by rw [h]
theorem val_u32 {a b : Int} (h : a = b) : Value.int .u32 a = .int .u32 b := by rw [h]
/-- the sum s of what is ahead, gone on with the n bytes of r -/
def crc (s : Cr.W) (r : Nat → Fe) (n : Nat) : Cr.W := ~~~(Cr.ups (~~~s) (fun i => (r i).nat) n)
end Go.Proofs.YtbcncmampabmfaaDoor
namespace Go.Proofs.YtbcncmampabmfaaDoor
open Go.RowKit


theorem bits_and_u8 (a b : Nat) (ha : a < 256) (hb : b < 256) : bits BinOp.and IntKind.u8 (a : Int) (b : Int) = ((a &&& b : Nat) : Int) := by
  have h1 : (BitVec.ofInt 8 (a : Int)).toNat = a := by
    rw [BitVec.ofInt_natCast, BitVec.toNat_ofNat]; exact Nat.mod_eq_of_lt ha
  have h2 : (BitVec.ofInt 8 (b : Int)).toNat = b := by
    rw [BitVec.ofInt_natCast, BitVec.toNat_ofNat]; exact Nat.mod_eq_of_lt hb
  have hx : a &&& b < 2 ^ 8 := Nat.and_lt_two_pow _ hb
  show IntKind.u8.wrap ((BitVec.ofInt 8 (a : Int) &&& BitVec.ofInt 8 (b : Int)).toNat : Int) = _
  rw [BitVec.toNat_and, h1, h2]
  simp [IntKind.wrap, IntKind.bits, IntKind.signed]; omega
theorem bits_xor_u8 (a b : Nat) (ha : a < 256) (hb : b < 256) : bits BinOp.xor IntKind.u8 (a : Int) (b : Int) = ((a ^^^ b : Nat) : Int) := by
  have h1 : (BitVec.ofInt 8 (a : Int)).toNat = a := by
    rw [BitVec.ofInt_natCast, BitVec.toNat_ofNat]; exact Nat.mod_eq_of_lt ha
  have h2 : (BitVec.ofInt 8 (b : Int)).toNat = b := by
    rw [BitVec.ofInt_natCast, BitVec.toNat_ofNat]; exact Nat.mod_eq_of_lt hb
  have hx : a ^^^ b < 2 ^ 8 := Nat.xor_lt_two_pow ha hb
  show IntKind.u8.wrap ((BitVec.ofInt 8 (a : Int) ^^^ BitVec.ofInt 8 (b : Int)).toNat : Int) = _
  rw [BitVec.toNat_xor, h1, h2]
  simp [IntKind.wrap, IntKind.bits, IntKind.signed]; omega
theorem and_one_u8 (a : Nat) (ha : a < 256) : bits BinOp.and IntKind.u8 (a : Int) 1 = ((a % 2 : Nat) : Int) := by
  rw [show (1 : Int) = ((1 : Nat) : Int) from rfl, bits_and_u8 a 1 ha (by decide), Nat.and_one_is_mod]
theorem and_top_u8 (a : Nat) (ha : a < 256) : (bits BinOp.and IntKind.u8 (a : Int) 128 == 0) = decide (a < 128) := by
  have h : ∀ n : Fin 256, (bits BinOp.and IntKind.u8 (n.val : Int) 128 == 0) = decide (n.val < 128) := by decide +kernel
  exact h ⟨a, ha⟩
theorem ret_u8 {a b : Int} (h : a = b) : Ending.returned (.int .u8 a) = .returned (.int .u8 b) := by rw [h]
theorem val_u8 {a b : Int} (h : a = b) : Value.int .u8 a = .int .u8 b := by rw [h]

def gmul (a b : Int) : Int := ((Gf.mul a.toNat b.toNat : Nat) : Int)
def gadd (a b : Int) : Int := ((a.toNat ^^^ b.toNat : Nat) : Int)
def ginv (a : Int) : Int := ((Gf.inv a.toNat : Nat) : Int)
def gpow (a n : Int) : Int := if n = 0 then 1 else if a = 0 then 0 else ((Gf.pw a.toNat (n % 255).toNat : Nat) : Int)
theorem gmul_rng (a b : Int) (_h0 : 0 ≤ a) (h1 : a < 256) : 0 ≤ gmul a b ∧ gmul a b < 256 := by
  have := Gf.mul_lt (a := a.toNat) (b := b.toNat) (by omega)
  unfold gmul; omega
theorem gadd_rng (a b : Int) (_h0 : 0 ≤ a) (h1 : a < 256) (_h2 : 0 ≤ b) (h3 : b < 256) : 0 ≤ gadd a b ∧ gadd a b < 256 := by
  have := Gf.xor_lt (a := a.toNat) (b := b.toNat) (by omega) (by omega)
  unfold gadd; omega
theorem ginv_rng (a : Int) (_h0 : 0 ≤ a) (h1 : a < 256) : 0 ≤ ginv a ∧ ginv a < 256 := by
  have := Gf.inv_lt (a := a.toNat) (by omega)
  unfold ginv; omega
theorem gpow_rng (a n : Int) (_h0 : 0 ≤ a) (h1 : a < 256) : 0 ≤ gpow a n ∧ gpow a n < 256 := by
  have := Gf.pw_lt (a := a.toNat) (by omega) (n % 255).toNat
  unfold gpow; split
  · omega
  · split <;> omega
theorem and_one_i64 (n : Nat) (hn : n < 256) : bits BinOp.and IntKind.i64 (n : Int) 1 = ((n % 2 : Nat) : Int) := by
  have h := bits_mask .i64 8 (by decide) (fun m h0 h1 => by rw [IntKind.wrap_i64]; omega) 1 (by decide) (n : Int) (by omega) (by omega)
  simpa using h
theorem tmod255 (n : Int) : (0 ≤ n.tmod 255 → n % 255 = n.tmod 255) ∧ (n.tmod 255 < 0 → n % 255 = n.tmod 255 + 255) ∧ -255 < n.tmod 255 ∧ n.tmod 255 < 255 := by
  have h := Int.tmod_eq_emod (a := n) (b := 255)
  split at h <;> omega
theorem ret_i64 {a b : Int} (h : a = b) : Ending.returned (.int .i64 a) = .returned (.int .i64 b) := by rw [h]
theorem gpow_inv (a : Int) (_h : 0 ≤ a) : gpow a 254 = ginv a := by
  unfold gpow ginv Gf.inv
  rw [if_neg (by decide)]
  by_cases hz : a = 0
  · subst hz; rw [if_pos rfl]; exact congrArg (fun n : Nat => (n : Int)) (Gf.inv_zero).symm
  · rw [if_neg hz]; rfl

theorem xor_i64_nat (a b : Nat) (ha : a < 32768) (hb : b < 32768) : bits BinOp.xor IntKind.i64 (a : Int) (b : Int) = ((a ^^^ b : Nat) : Int) := by
  have h1 : (BitVec.ofInt 64 (a : Int)).toNat = a := by
    rw [BitVec.ofInt_natCast, BitVec.toNat_ofNat]; exact Nat.mod_eq_of_lt (by omega)
  have h2 : (BitVec.ofInt 64 (b : Int)).toNat = b := by
    rw [BitVec.ofInt_natCast, BitVec.toNat_ofNat]; exact Nat.mod_eq_of_lt (by omega)
  have hx : a ^^^ b < 2 ^ 15 := Nat.xor_lt_two_pow ha hb
  show IntKind.i64.wrap ((BitVec.ofInt 64 (a : Int) ^^^ BitVec.ofInt 64 (b : Int)).toNat : Int) = _
  rw [BitVec.toNat_xor, h1, h2, IntKind.wrap_i64]
  omega
theorem and_one_i64' (n : Nat) (hn : n < 32768) : bits BinOp.and IntKind.i64 (n : Int) 1 = ((n % 2 : Nat) : Int) := by
  have h := bits_mask .i64 15 (by decide) (fun m h0 h1 => by rw [IntKind.wrap_i64]; omega) 1 (by decide) (n : Int) (by omega) (by omega)
  simpa using h
theorem up_bit (b k : Nat) (hb : b < 256) : bits BinOp.and IntKind.u8 ((b : Int) / 2 ^ k) 1 = ((b / 2 ^ k % 2 : Nat) : Int) := by
  have h := and_one_u8 (b / 2 ^ k) (by have := Nat.div_le_self b (2 ^ k); omega)
  rw [← h]; congr 1
theorem up_lt (a k : Nat) (ha : a < 256) (hk : k < 8) : a * 2 ^ k < 32768 := by
  have h : 2 ^ k ≤ 2 ^ 7 := Nat.pow_le_pow_right (by decide) (by omega)
  have : a * 2 ^ k ≤ 255 * 2 ^ 7 := Nat.mul_le_mul (by omega) h
  omega
theorem wrap64_small (n : Nat) (h : n < 32768) : wrap64 (n : Int) = (n : Int) := by
  unfold wrap64; omega
theorem up_xor (a k x : Nat) (ha : a < 256) (hk : k < 8) (hx : x < 32768) :
    bits BinOp.xor IntKind.i64 (x : Int) (wrap64 ((a : Int) * 2 ^ k)) = ((x ^^^ a * 2 ^ k : Nat) : Int) := by
  have hl := up_lt a k ha hk
  rw [show (a : Int) * 2 ^ k = ((a * 2 ^ k : Nat) : Int) by simp, wrap64_small _ hl, xor_i64_nat x _ hx hl]
theorem xor_lt15 {a b : Nat} (ha : a < 32768) (hb : b < 32768) : a ^^^ b < 32768 := Nat.xor_lt_two_pow (n := 15) ha hb
theorem down_bit (y k : Nat) (hy : y < 32768) : bits BinOp.and IntKind.i64 ((y : Int) / 2 ^ k) 1 = ((y / 2 ^ k % 2 : Nat) : Int) := by
  have h := and_one_i64' (y / 2 ^ k) (by have := Nat.div_le_self y (2 ^ k); omega)
  rw [← h]; congr 1
theorem down_lt (m : Nat) (hm : m < 7) : 285 * 2 ^ m < 32768 := by
  have h : 2 ^ m ≤ 2 ^ 6 := Nat.pow_le_pow_right (by decide) (by omega)
  omega
theorem down_xor (m y : Nat) (hm : m < 7) (hy : y < 32768) :
    bits BinOp.xor IntKind.i64 (y : Int) (wrap64 (285 * 2 ^ m)) = ((y ^^^ 285 * 2 ^ m : Nat) : Int) := by
  have hl := down_lt m hm
  rw [show (285 : Int) * 2 ^ m = ((285 * 2 ^ m : Nat) : Int) by simp, wrap64_small _ hl, xor_i64_nat y _ hy hl]
theorem val_i64 {a b : Int} (h : a = b) : Value.int .i64 a = .int .i64 b := by rw [h]
theorem ret_bool {a b : Bool} (h : a = b) : Ending.returned (.bool a) = .returned (.bool b) := by rw [h]
end Go.Proofs.YtbcncmampabmfaaDoor
namespace Go.Proofs.YtbcncmampabmfaaDoor
open Go.RowKit Mx Go.ChangeShapes Go.WideShapes

/-- the element of a number that lies in a cell -/
def feOf (x : Int) : Fe := mk (x.toNat % 256) (Nat.mod_lt _ (by decide))
theorem fi_feOf {x : Int} (h : (Lit.int .u8 x).wf = true) : fi (feOf x) = x := by
  have h' := range_u8 (zs := [x]) (by simpa using h) 0
  simp at h'
  unfold fi feOf
  rw [nat_mk, Nat.mod_eq_of_lt (by omega)]; omega
theorem getD_wf {k : IntKind} {zs : List Int} (h : ∀ n ∈ zs, (Lit.int k n).wf = true) {c : Nat} (hc : c < zs.length) : (Lit.int k (zs.getD c 0)).wf = true := by
  rw [List.getD_eq_getElem?_getD, List.getElem?_eq_getElem hc]
  exact h _ (List.getElem_mem hc)
theorem rd_cells {w : World} {a : Addr} {n : Nat} {zs : List Int} (hn : n ≤ zs.length) (hw : ∀ x ∈ zs, (Lit.int .u8 x).wf = true) (hc : ∀ c, c < n → w.cell? (a.add c) = some (.int .u8 (zs.getD c 0))) :
    Rd w (some a) n (fun c => feOf (zs.getD c 0)) (fun _ => True) := by
  intro h0
  obtain ⟨b, off, spot⟩ := a
  have hs : spot = none := by simpa [Addr.add] using World.cell?_spot (hc 0 h0)
  subst hs
  refine ⟨b, off, rfl, trivial, fun j hj => ?_⟩
  have := hc j hj
  rw [fi_feOf (getD_wf hw (by omega))]
  by_cases e : j = 0
  · subst e; simpa [Addr.add] using this
  · simpa [Addr.add, e] using this
section
variable {H : Type} {enc : TypeId × Value → H} {w : World} {base fuel : Nat} {held : Bool} {a : Option Addr} {len cap : Nat} {x : DataW H × List MemPlace}
/-- a row of bytes -/
theorem open_rd (h : DataW.trod enc Tryd.prog w base (fun _ => true) held fuel 24 (Value.slice a len cap).cells.toList = some x) :
    len ≤ maxLen ∧ ∃ r, Rd w a len r (fun _ => True) := by
  rcases open_ints Tryd.underlying24 Tryd.underlying5 (by kernel_rfl) h with ⟨hcs, _⟩ | ⟨y, l, c, zs, hcs, _, hl, hm, hz, _, hcell, hwz⟩
  · simp [Value.cells] at hcs
    obtain ⟨rfl, rfl, rfl⟩ := hcs
    exact ⟨by decide, fun _ => 0, Rd.empty _ _ _ _⟩
  · simp [Value.cells] at hcs
    obtain ⟨rfl, rfl, rfl⟩ := hcs
    have hz' : zs.length = cap := by simpa using hz
    exact ⟨by omega, _, rd_cells (by omega) hwz (fun c hc => hcell c (by omega))⟩
/-- a row of bytes, which is empty if it is nil -/
theorem open_rdN (h : DataW.trod enc Tryd.prog w base (fun _ => true) held fuel 24 (Value.slice a len cap).cells.toList = some x) :
    len ≤ maxLen ∧ (a = none → len = 0 ∧ cap = 0) ∧ ∃ r, Rd w a len r (fun _ => True) := by
  rcases open_ints Tryd.underlying24 Tryd.underlying5 (by kernel_rfl) h with ⟨hcs, _⟩ | ⟨y, l, c, zs, hcs, _, hl, hm, hz, _, hcell, hwz⟩
  · simp [Value.cells] at hcs
    obtain ⟨rfl, rfl, rfl⟩ := hcs
    exact ⟨by decide, fun _ => ⟨rfl, rfl⟩, fun _ => 0, Rd.empty _ _ _ _⟩
  · simp [Value.cells] at hcs
    obtain ⟨rfl, rfl, rfl⟩ := hcs
    have hz' : zs.length = cap := by simpa using hz
    exact ⟨by omega, (fun h => by cases h), _, rd_cells (by omega) hwz (fun c hc => hcell c (by omega))⟩
end
end Go.Proofs.YtbcncmampabmfaaDoor
namespace Go.Proofs.YtbcncmampabmfaaDoor
open Go.RowKit Mx Go.ChangeShapes Go.WideShapes
open Pt (Tx)

section
variable {H : Type} {enc : TypeId × Value → H} {w : World} {base fuel : Nat} {held : Bool} {a : Option Addr} {len cap : Nat} {x : DataW H × List MemPlace}
/-- bytes, as a list -/
theorem open_rdL (h : DataW.trod enc Tryd.prog w base (fun _ => true) held fuel 24 (Value.slice a len cap).cells.toList = some x) :
    cap ≤ maxLen ∧ len ≤ cap ∧ (a = none → len = 0 ∧ cap = 0) ∧ ∃ l : Tx, l.length = len ∧ RdL w a l (fun _ => True) := by
  rcases open_ints Tryd.underlying24 Tryd.underlying5 (by kernel_rfl) h with ⟨hcs, _⟩ | ⟨y, l, c, zs, hcs, _, hl, hm, hz, _, hcell, hwz⟩
  · simp [Value.cells] at hcs
    obtain ⟨rfl, rfl, rfl⟩ := hcs
    exact ⟨by decide, Nat.le_refl _, fun _ => ⟨rfl, rfl⟩, [], rfl, RdL.empty _ _ _⟩
  · simp [Value.cells] at hcs
    obtain ⟨rfl, rfl, rfl⟩ := hcs
    have hz' : zs.length = cap := by simpa using hz
    refine ⟨hm, hl, (fun h => by cases h), (List.range len).map fun i => UInt8.ofNat (zs.getD i 0).toNat, by simp, fun h0 => ?_⟩
    simp at h0
    obtain ⟨b, off, spot⟩ := y
    have hs : spot = none := by simpa [Addr.add] using World.cell?_spot (hcell 0 (by omega))
    subst hs
    refine ⟨b, off, rfl, trivial, fun j hj => ?_⟩
    have hj' : j < len := by simpa using hj
    have hc := hcell j (by omega)
    rw [addr_add] at hc
    have hw := fi_feOf (getD_wf hwz (c := j) (by omega))
    rw [hc]
    have hr : 0 ≤ zs.getD j 0 ∧ zs.getD j 0 < 256 := by have h1 := fi_lo (feOf (zs.getD j 0)); have h2 := fi_hi (feOf (zs.getD j 0)); rw [hw] at h1 h2; exact ⟨h1, h2⟩
    simp only [List.getElem_map, List.getElem_range, UInt8.toNat_ofNat']
    rw [Nat.mod_eq_of_lt (show (zs.getD j 0).toNat < 2 ^ 8 by have := hr.2; have := hr.1; omega)]
    congr 2
    have := hr.1
    omega
end
end Go.Proofs.YtbcncmampabmfaaDoor
namespace Go.Proofs.YtbcncmampabmfaaDoor
open Go.RowKit Mx Go.ChangeShapes Go.WideShapes

/-- the slice at A of n numbers reads as z -/
def RdI (w : World) (A : Option Addr) (n : Nat) (z : Nat → Int) : Prop :=
  0 < n → ∃ b off, A = some ⟨b, off, none⟩ ∧ ∀ j, j < n → w.cell? ⟨b, off + j, none⟩ = some (.int .i64 (z j))
theorem RdI.old {w w' : World} {A : Option Addr} {n : Nat} {z : Nat → Int} (h : RdI w A n z) (hb : Below w.heap.size w w') : RdI w' A n z := by
  intro hn
  obtain ⟨b, off, e, hc⟩ := h hn
  exact ⟨b, off, e, fun j hj => (hb.cell (World.block_lt_of_cell? _ _ (hc j hj))).trans (hc j hj)⟩
theorem RdI.at {w : World} {A : Option Addr} {n : Nat} {z : Nat → Int} (h : RdI w A n z) {j : Nat} (hj : j < n) : ∃ b off, A = some ⟨b, off, none⟩ ∧ w.cell? ⟨b, off + j, none⟩ = some (.int .i64 (z j)) := by
  obtain ⟨b, off, e, hc⟩ := h (by omega)
  exact ⟨b, off, e, hc j hj⟩
theorem open_rdI {H : Type} {enc : TypeId × Value → H} {w : World} {base fuel : Nat} {held : Bool} {a : Option Addr} {len cap : Nat} {x : DataW H × List MemPlace}
    (h : DataW.trod enc Tryd.prog w base (fun _ => true) held fuel 36 (Value.slice a len cap).cells.toList = some x) : len ≤ maxLen ∧ ∃ z, RdI w a len z := by
  rcases open_ints Tryd.underlying36 Tryd.underlying3 (by kernel_rfl) h with ⟨hcs, _⟩ | ⟨y, l, c, zs, hcs, _, hl, hm, hz, _, hcell, hwz⟩
  · simp [Value.cells] at hcs
    obtain ⟨rfl, rfl, rfl⟩ := hcs
    exact ⟨by decide, fun _ => 0, fun h => absurd h (by omega)⟩
  · simp [Value.cells] at hcs
    obtain ⟨rfl, rfl, rfl⟩ := hcs
    have hz' : zs.length = cap := by simpa using hz
    refine ⟨by omega, fun j => zs.getD j 0, fun h0 => ?_⟩
    obtain ⟨b, off, spot⟩ := y
    have hs : spot = none := by simpa [Addr.add] using World.cell?_spot (hcell 0 (by omega))
    subst hs
    refine ⟨b, off, rfl, fun j hj => ?_⟩
    have := hcell j (by omega)
    by_cases e : j = 0
    · subst e; simpa [Addr.add] using this
    · simpa [Addr.add, e] using this

theorem and_1023 (x : Int) : ∃ y : Nat, bits BinOp.and IntKind.i64 x 1023 = (y : Int) ∧ y ≤ 1023 := by
  have hx : (BitVec.ofInt 64 x &&& BitVec.ofInt 64 1023).toNat ≤ 1023 := by
    rw [BitVec.toNat_and]; exact Nat.and_le_right
  refine ⟨(BitVec.ofInt 64 x &&& BitVec.ofInt 64 1023).toNat, ?_, hx⟩
  show IntKind.i64.wrap ((BitVec.ofInt 64 x &&& BitVec.ofInt 64 1023).toNat : Int) = _
  rw [IntKind.wrap_i64]; omega
def low (z : Nat → Int) (j : Nat) : Nat := (bits BinOp.and IntKind.i64 (z j) 1023).toNat
theorem low_eq (z : Nat → Int) (j : Nat) : bits BinOp.and IntKind.i64 (z j) 1023 = (low z j : Int) ∧ low z j ≤ 1023 := by
  obtain ⟨y, h1, h2⟩ := and_1023 (z j)
  unfold low
  rw [h1]; simp; exact h2
end Go.Proofs.YtbcncmampabmfaaDoor
namespace Go.Proofs.YtbcncmampabmfaaDoor
open Go.RowKit
open Pt (Tx)

/-- a byte as an element -/
def feB (c : UInt8) : Mx.Fe := Mx.mk c.toNat c.toNat_lt
/-- bytes as a row -/
def rowL (l : Tx) : Nat → Mx.Fe := fun i => feB (l.getD i 0)
theorem rowL_at {l : Tx} {i : Nat} (h : i < l.length) : fi (rowL l i) = (l[i].toNat : Int) := by
  unfold rowL fi feB
  rw [Mx.nat_mk, List.getD_eq_getElem?_getD, List.getElem?_eq_getElem h]; rfl
/-- the sum of bytes -/
def sumL (l : Tx) : Int := bi (crc 0#32 (rowL l) l.length)
theorem sumL_lo (l : Tx) : 0 ≤ sumL l := bi_lo _
theorem sumL_hi (l : Tx) : sumL l < 4294967296 := bi_hi _
theorem sumL_one {l l' : Tx} (hl : l.length = l'.length) {p : Nat} (hp : p < l.length) (hne : l.getD p 0 ≠ l'.getD p 0) (he : ∀ i, i < l.length → i ≠ p → l.getD i 0 = l'.getD i 0) : sumL l ≠ sumL l' := by
  intro h
  have h1 := bi_inj h
  unfold crc at h1
  rw [← hl] at h1
  have h' : Cr.ups (~~~0#32) (fun i => (rowL l i).nat) l.length = Cr.ups (~~~0#32) (fun i => (rowL l' i).nat) l.length := by
    have := congrArg (fun x => ~~~x) h1
    simpa using this
  refine Cr.ups_one hp (rowL l p).nat_lt (rowL l' p).nat_lt ?_ (fun i hi hi' => ?_) h'
  · show (l.getD p 0).toNat ≠ (l'.getD p 0).toNat
    exact fun e => hne (UInt8.toNat.inj e)
  · show (l.getD i 0).toNat = (l'.getD i 0).toNat
    rw [he i hi hi']

namespace Fm
open Cd
/-- a unit -/
structure U where
  kind : Int
  label : Int
  number : Int
  load : Tx
theorem U.eta (u : U) : (⟨u.kind, u.label, u.number, u.load⟩ : U) = u := rfl
def zero : U := ⟨0, 0, 0, []⟩
def room (k : Int) : Nat := if k = 6 then 79 else 64
theorem room_le (k : Int) : room k ≤ 79 := by unfold room; split <;> omega
theorem room_ge (k : Int) : 64 ≤ room k := by unfold room; split <;> omega
def argOk (u : U) : Prop := 1 ≤ u.kind ∧ u.kind ≤ 6 ∧ 1 ≤ u.label ∧ u.label ≤ 2147483647 ∧ 0 ≤ u.number ∧ u.number ≤ 2147483647
instance (u : U) : Decidable (argOk u) := by unfold argOk; exact inferInstance
def err (u : U) : Int := if argOk u then (if room u.kind < u.load.length then 4 else 0) else 1
/-- it has a block -/
def Ok (u : U) : Prop := argOk u ∧ u.load.length ≤ room u.kind
instance (u : U) : Decidable (Ok u) := by unfold Ok; exact inferInstance
theorem err_ok {u : U} (h : Ok u) : err u = 0 := by unfold err; rw [if_pos h.1, if_neg (by have := h.2; omega)]
theorem err_arg {u : U} (h : ¬ argOk u) : err u = 1 := by unfold err; rw [if_neg h]
theorem err_long {u : U} (h : argOk u) (h' : room u.kind < u.load.length) : err u = 4 := by unfold err; rw [if_pos h, if_pos h']
theorem err_zero {u : U} : err u = 0 ↔ Ok u := by
  unfold err Ok
  by_cases h : argOk u
  · rw [if_pos h]
    by_cases h' : room u.kind < u.load.length
    · rw [if_pos h']; exact ⟨fun e => absurd e (by decide), fun e => absurd e.2 (by omega)⟩
    · rw [if_neg h']; exact ⟨fun _ => ⟨h, by omega⟩, fun _ => rfl⟩
  · rw [if_neg h]; exact ⟨fun e => absurd e (by decide), fun e => absurd e.1 h⟩
def head (u : U) : Tx := [b8 u.kind] ++ be4 u.label ++ be4 u.number ++ [b8 ((u.load.length : Int) / 256)] ++ [b8 (u.load.length : Int)]
theorem head_len (u : U) : (head u).length = 11 := rfl
def pad (u : U) : Tx := List.replicate (room u.kind - u.load.length) 0
def body (u : U) : Tx := head u ++ u.load ++ pad u
def blk (u : U) : Tx := body u ++ be4 (sumL (body u))
/-- what Put answers -/
def put (u : U) : Tx := if Ok u then blk u else []
theorem put_ok {u : U} (h : Ok u) : put u = blk u := if_pos h
theorem put_no {u : U} (h : ¬ Ok u) : put u = [] := if_neg h
theorem pad_len (u : U) : (pad u).length = room u.kind - u.load.length := List.length_replicate
theorem body_len {u : U} (h : Ok u) : (body u).length = 11 + room u.kind := by
  have := h.2
  unfold body; rw [List.length_append, List.length_append, head_len, pad_len]; omega
theorem blk_len {u : U} (h : Ok u) : (blk u).length = 15 + room u.kind := by
  unfold blk; rw [List.length_append, body_len h, be4_len]; omega
theorem put_le (u : U) : (put u).length ≤ 94 := by
  by_cases h : Ok u
  · rw [put_ok h, blk_len h]; have := room_le u.kind; omega
  · rw [put_no h]; simp
/-- what bytes say: the state of one who reads them, behind each item -/
def s1 (b : Tx) : St := af 1 (b, false)
def s2 (b : Tx) : St := af 4 (s1 b)
def s3 (b : Tx) : St := af 4 (s2 b)
def s4 (b : Tx) : St := af 1 (s3 b)
def s5 (b : Tx) : St := af 1 (s4 b)
theorem s_len (b : Tx) : (s1 b).1.length ≤ b.length ∧ (s2 b).1.length ≤ b.length ∧ (s3 b).1.length ≤ b.length ∧ (s4 b).1.length ≤ b.length ∧ (s5 b).1.length ≤ b.length := by
  have h1 : (s1 b).1.length ≤ b.length := af_le 1 (b, false)
  have h2 : (s2 b).1.length ≤ (s1 b).1.length := af_le 4 _
  have h3 : (s3 b).1.length ≤ (s2 b).1.length := af_le 4 _
  have h4 : (s4 b).1.length ≤ (s3 b).1.length := af_le 1 _
  have h5 : (s5 b).1.length ≤ (s4 b).1.length := af_le 1 _
  omega
def kindOf (b : Tx) : Int := ((byt (b, false)).toNat : Int)
def labelOf (b : Tx) : Int := num (tk 4 (s1 b))
def numberOf (b : Tx) : Int := num (tk 4 (s2 b))
def sizeOf (b : Tx) : Nat := 256 * (byt (s3 b)).toNat + (byt (s4 b)).toNat
theorem sizeOf_lt (b : Tx) : sizeOf b < 65536 := by
  unfold sizeOf; have := (byt (s3 b)).toNat_lt; have := (byt (s4 b)).toNat_lt; omega
/-- what bytes say where they say it -/
def parse (b : Tx) : U := ⟨kindOf (b.take 11), labelOf (b.take 11), numberOf (b.take 11), (b.drop 11).take (sizeOf (b.take 11))⟩
/-- what Get answers: unit and error -/
def Good (b : Tx) : Prop := Ok (parse b) ∧ blk (parse b) = b
instance (b : Tx) : Decidable (Good b) := by unfold Good; exact inferInstance
def got (b : Tx) : U := if Good b then parse b else zero
def gotE (b : Tx) : Int := if Good b then 0 else 2
theorem got_yes {b : Tx} (h : Good b) : got b = parse b := if_pos h
theorem got_no {b : Tx} (h : ¬ Good b) : got b = zero := if_neg h
theorem gotE_yes {b : Tx} (h : Good b) : gotE b = 0 := if_pos h
theorem gotE_no {b : Tx} (h : ¬ Good b) : gotE b = 2 := if_neg h
/-- eleven bytes and more, as they are read -/
theorem split11 {b : Tx} (h : 11 ≤ b.length) : ∃ (k x y : UInt8) (L N rest : Tx), L.length = 4 ∧ N.length = 4 ∧ b = [k] ++ (L ++ (N ++ ([x] ++ ([y] ++ rest)))) := by
  match b, h with
  | k :: a1 :: a2 :: a3 :: a4 :: b1 :: b2 :: b3 :: b4 :: x :: y :: rest, _ => exact ⟨k, x, y, [a1, a2, a3, a4], [b1, b2, b3, b4], rest, rfl, rfl, rfl⟩
theorem reads (k x y : UInt8) (L N rest : Tx) (hL : L.length = 4) (hN : N.length = 4) :
    kindOf ([k] ++ (L ++ (N ++ ([x] ++ ([y] ++ rest))))) = (k.toNat : Int) ∧ labelOf ([k] ++ (L ++ (N ++ ([x] ++ ([y] ++ rest))))) = num L ∧ numberOf ([k] ++ (L ++ (N ++ ([x] ++ ([y] ++ rest))))) = num N
      ∧ sizeOf ([k] ++ (L ++ (N ++ ([x] ++ ([y] ++ rest))))) = 256 * x.toNat + y.toNat ∧ s5 ([k] ++ (L ++ (N ++ ([x] ++ ([y] ++ rest))))) = (rest, false) := by
  have e1 : s1 ([k] ++ (L ++ (N ++ ([x] ++ ([y] ++ rest))))) = (L ++ (N ++ ([x] ++ ([y] ++ rest))), false) := af_app 1 _ _ _ rfl
  have e2 : s2 ([k] ++ (L ++ (N ++ ([x] ++ ([y] ++ rest))))) = (N ++ ([x] ++ ([y] ++ rest)), false) := by unfold s2; rw [e1]; exact af_app 4 _ _ _ hL
  have e3 : s3 ([k] ++ (L ++ (N ++ ([x] ++ ([y] ++ rest))))) = ([x] ++ ([y] ++ rest), false) := by unfold s3; rw [e2]; exact af_app 4 _ _ _ hN
  have e4 : s4 ([k] ++ (L ++ (N ++ ([x] ++ ([y] ++ rest))))) = ([y] ++ rest, false) := by unfold s4; rw [e3]; exact af_app 1 _ _ _ rfl
  have e5 : s5 ([k] ++ (L ++ (N ++ ([x] ++ ([y] ++ rest))))) = (rest, false) := by unfold s5; rw [e4]; exact af_app 1 _ _ _ rfl
  refine ⟨?_, ?_, ?_, ?_, e5⟩
  · unfold kindOf; rw [show byt ([k] ++ (L ++ (N ++ ([x] ++ ([y] ++ rest)))), false) = k from byt_cons k _ _]
  · unfold labelOf; rw [e1, tk_app 4 _ _ _ hL]
  · unfold numberOf; rw [e2, tk_app 4 _ _ _ hN]
  · unfold sizeOf; rw [e3, e4, show byt ([x] ++ ([y] ++ rest), false) = x from byt_cons x _ _, show byt ([y] ++ rest, false) = y from byt_cons y _ _]
theorem take11 (k x y : UInt8) (L N rest : Tx) (hL : L.length = 4) (hN : N.length = 4) :
    ([k] ++ (L ++ (N ++ ([x] ++ ([y] ++ rest))))).take 11 = [k] ++ (L ++ (N ++ ([x] ++ ([y] ++ [])))) ∧ ([k] ++ (L ++ (N ++ ([x] ++ ([y] ++ rest))))).drop 11 = rest := by
  have e : [k] ++ (L ++ (N ++ ([x] ++ ([y] ++ rest)))) = ([k] ++ (L ++ (N ++ ([x] ++ ([y] ++ []))))) ++ rest := by simp
  have hl : ([k] ++ (L ++ (N ++ ([x] ++ ([y] ++ []))))).length = 11 := by simp; omega
  rw [e]
  exact ⟨List.take_left' hl, List.drop_left' hl⟩
/-- of eleven bytes and more the first eleven alone are read -/
theorem reads11 {b : Tx} (h : 11 ≤ b.length) : kindOf (b.take 11) = kindOf b ∧ labelOf (b.take 11) = labelOf b ∧ numberOf (b.take 11) = numberOf b ∧ sizeOf (b.take 11) = sizeOf b ∧ s5 b = (b.drop 11, false) := by
  obtain ⟨k, x, y, L, N, rest, hL, hN, rfl⟩ := split11 h
  obtain ⟨h1, h2⟩ := take11 k x y L N rest hL hN
  obtain ⟨a1, a2, a3, a4, a5⟩ := reads k x y L N rest hL hN
  obtain ⟨b1, b2, b3, b4, b5⟩ := reads k x y L N [] hL hN
  rw [h1, h2]
  exact ⟨b1.trans a1.symm, b2.trans a2.symm, b3.trans a3.symm, b4.trans a4.symm, a5⟩
theorem be4_num {L : Tx} (h : L.length = 4) : be4 (num L) = L := by
  match L, h with
  | [a, b, c, d], _ =>
    have ha := a.toNat_lt; have hb := b.toNat_lt; have hc := c.toNat_lt; have hd := d.toNat_lt
    unfold be4 num
    simp only [List.foldl_cons, List.foldl_nil]
    rw [← b8_of (c := a) (by omega), ← b8_of (c := b) (by omega), ← b8_of (c := c) (by omega), ← b8_of (c := d) (by omega)]
theorem parse_blk {u : U} (h : Ok u) : parse (blk u) = u := by
  have hu := h
  obtain ⟨⟨h1, h2, h3, h4, h5, h6⟩, h7⟩ := h
  have hr := room_le u.kind
  have e : blk u = [b8 u.kind] ++ (be4 u.label ++ (be4 u.number ++ ([b8 ((u.load.length : Int) / 256)] ++ ([b8 (u.load.length : Int)] ++ (u.load ++ (pad u ++ be4 (sumL (body u)))))))) := by
    conv => lhs; unfold blk; rw [show body u = head u ++ u.load ++ pad u from rfl]; unfold head
    simp only [List.append_assoc, List.cons_append, List.nil_append]
    rfl
  obtain ⟨e1, e2⟩ := take11 (b8 u.kind) (b8 ((u.load.length : Int) / 256)) (b8 (u.load.length : Int)) (be4 u.label) (be4 u.number) (u.load ++ (pad u ++ be4 (sumL (body u)))) rfl rfl
  obtain ⟨b1, b2, b3, b4, b5⟩ := reads (b8 u.kind) (b8 ((u.load.length : Int) / 256)) (b8 (u.load.length : Int)) (be4 u.label) (be4 u.number) [] rfl rfl
  unfold parse
  rw [e, e1, e2, b1, b2, b3, b4, num_be4, num_be4, b8_nat]
  have g1 := b8_nat ((u.load.length : Int) / 256)
  have g2 := b8_nat (u.load.length : Int)
  have g3 : 256 * (b8 ((u.load.length : Int) / 256)).toNat + (b8 (u.load.length : Int)).toNat = u.load.length := by omega
  rw [g3, List.take_left' rfl, show u.kind % 256 = u.kind by omega, show u.label % 4294967296 = u.label by omega, show u.number % 4294967296 = u.number by omega]
theorem good_blk {u : U} (h : Ok u) : Good (blk u) := by unfold Good; rw [parse_blk h]; exact ⟨h, rfl⟩
theorem blk_inj {u v : U} (h : Ok u) (h' : Ok v) (e : blk u = blk v) : u = v := by rw [← parse_blk h, e, parse_blk h']
/-- of bytes that are a block there are many -/
theorem good_len {b : Tx} (h : Good b) : b.length = 15 + room (parse b).kind := by rw [← blk_len h.1, h.2]
theorem good_ge {b : Tx} (h : Good b) : 79 ≤ b.length := by have := good_len h; have := room_ge (parse b).kind; omega
theorem good_le {b : Tx} (h : Good b) : b.length ≤ 94 := by have := good_len h; have := room_le (parse b).kind; omega
/-- one who reads all of the bytes finds them bad where they are too few -/
theorem af_bad {n : Nat} {s : St} (h : (af n s).2 = false) : s.2 = false ∧ n ≤ s.1.length ∧ (af n s).1.length + n = s.1.length := by
  unfold af at h ⊢
  by_cases e : s.1.length < n
  · rw [if_pos e] at h; cases h
  · rw [if_neg e] at h ⊢; exact ⟨h, by omega, by simp; omega⟩
theorem s5_bad {b : Tx} (h : (s5 b).2 = false) : 11 ≤ b.length := by
  obtain ⟨h4, h4', h4''⟩ := af_bad h
  obtain ⟨h3, h3', h3''⟩ := af_bad h4
  obtain ⟨h2, h2', h2''⟩ := af_bad h3
  obtain ⟨h1, h1', h1''⟩ := af_bad h2
  obtain ⟨h0, h0', h0''⟩ := af_bad h1
  simp only at h0' h0''
  have e1 : (af 1 (b, false)).1.length = (s1 b).1.length := rfl
  have e2 : (af 4 (s1 b)).1.length = (s2 b).1.length := rfl
  have e3 : (af 4 (s2 b)).1.length = (s3 b).1.length := rfl
  have e4 : (af 1 (s3 b)).1.length = (s4 b).1.length := rfl
  omega
/-- the document's own way: bad, or too few bytes left -/
theorem good_not_bad {b : Tx} (h : Good b) : (s5 b).2 = false ∧ sizeOf b ≤ (s5 b).1.length := by
  have hg := good_ge h
  have hl := good_len h
  obtain ⟨r1, r2, r3, r4, r5⟩ := reads11 (b := b) (by omega)
  have h2 : (parse b).load.length ≤ room (parse b).kind := h.1.2
  have h3 : (parse b).load.length = min (sizeOf b) (b.length - 11) := by
    rw [← r4]; unfold parse; rw [List.length_take, List.length_drop]
  rw [r5]
  refine ⟨rfl, ?_⟩
  rw [h3] at h2
  have h4 : (b.drop 11, false).1.length = b.length - 11 := List.length_drop
  rw [h4]
  generalize room (parse b).kind = m at hl h2
  generalize sizeOf b = z at h2 ⊢
  omega
theorem parse_full {b : Tx} (h : (s5 b).2 = false) (h' : sizeOf b ≤ (s5 b).1.length) : parse b = ⟨kindOf b, labelOf b, numberOf b, tk (sizeOf b) (s5 b)⟩ := by
  obtain ⟨r1, r2, r3, r4, r5⟩ := reads11 (b := b) (s5_bad h)
  unfold parse
  rw [r1, r2, r3, r4, tk_yes (by omega), r5]
/-- the first byte of a block is its kind -/
theorem blk_head (u : U) : ∃ t, blk u = b8 u.kind :: t := by
  unfold blk body head
  simp only [List.cons_append, List.nil_append]
  exact ⟨_, rfl⟩
theorem kind_head {b : Tx} (h : Good b) : ∃ t, b = b8 (parse b).kind :: t := by
  obtain ⟨t, ht⟩ := blk_head (parse b)
  exact ⟨t, h.2.symm.trans ht⟩
theorem parse_kind {b c : Tx} (hb : Good b) (hc : Good c) (h : b.head? = c.head?) : (parse b).kind = (parse c).kind := by
  obtain ⟨t, ht⟩ := kind_head hb
  obtain ⟨t', ht'⟩ := kind_head hc
  have e1 : b.head? = some (b8 (parse b).kind) := (congrArg List.head? ht).trans rfl
  have e2 : c.head? = some (b8 (parse c).kind) := (congrArg List.head? ht').trans rfl
  rw [e1, e2] at h
  have h' := Option.some.inj h
  have g1 := b8_nat (parse b).kind
  have g2 := b8_nat (parse c).kind
  rw [h'] at g1
  obtain ⟨k1, k2, -⟩ := hb.1.1
  obtain ⟨k3, k4, -⟩ := hc.1.1
  omega
/-- of two that begin alike and are not as long one is no block -/
theorem not_both {b c : Tx} (hb : Good b) (h : b.head? = c.head?) (hl : b.length ≠ c.length) : ¬ Good c := fun hc => by
  have h1 := good_len hb
  have h2 := good_len hc
  rw [parse_kind hb hc h] at h1
  omega
theorem cut_no {b : Tx} (hb : Good b) {n : Nat} (hn : n < b.length) : ¬ Good (b.take n) := by
  by_cases h0 : n = 0
  · subst h0; intro h; have := good_ge h; simp at this
  · refine not_both hb ?_ (by simp; omega)
    cases b with
    | nil => simp at hn
    | cons c l =>
      obtain ⟨m, rfl⟩ : ∃ m, n = m + 1 := ⟨n - 1, by omega⟩
      rfl
theorem more_no {b : Tx} (hb : Good b) (c : UInt8) : ¬ Good (b ++ [c]) := by
  refine not_both hb ?_ (by simp)
  cases b with
  | nil => have := good_ge hb; simp at this
  | cons d l => rfl
theorem be4_inj {m n : Int} (h0 : 0 ≤ m) (h1 : m < 4294967296) (h2 : 0 ≤ n) (h3 : n < 4294967296) (h : be4 m = be4 n) : m = n := by
  have := congrArg num h
  rw [num_be4, num_be4] at this
  omega
theorem getD_set (l : Tx) (p i : Nat) (x : UInt8) (hp : p < l.length) : (l.set p x).getD i 0 = if i = p then x else l.getD i 0 := by
  rw [List.getD_eq_getElem?_getD, List.getElem?_set, List.getD_eq_getElem?_getD]
  by_cases e : p = i
  · subst e; rw [if_pos rfl, if_pos rfl, if_pos hp]; rfl
  · rw [if_neg e, if_neg (fun h => e h.symm)]
theorem getD_take (l : Tx) {n i : Nat} (hi : i < n) : (l.take n).getD i 0 = l.getD i 0 := by
  rw [List.getD_eq_getElem?_getD, List.getElem?_take, if_pos hi, List.getD_eq_getElem?_getD]
/-- a block of which one byte is another is none -/
theorem turn_no {b : Tx} (hb : Good b) {p : Nat} (hp : p < b.length) {x : UInt8} (hx : x ≠ b[p]) : ¬ Good (b.set p x) := by
  intro hc
  have hl1 := good_len hb
  have hl2 := good_len hc
  rw [List.length_set] at hl2
  have hr : room (parse (b.set p x)).kind = room (parse b).kind := by omega
  have e1 := hb.2
  have e2 := hc.2
  have n1 := body_len hb.1
  have n2 := body_len hc.1
  rw [hr] at n2
  have t1 : body (parse b) = b.take (11 + room (parse b).kind) := by
    have : (blk (parse b)).take (11 + room (parse b).kind) = body (parse b) := List.take_left' n1
    rw [← this, e1]
  have t2 : body (parse (b.set p x)) = (b.set p x).take (11 + room (parse b).kind) := by
    have : (blk (parse (b.set p x))).take (11 + room (parse b).kind) = body (parse (b.set p x)) := List.take_left' n2
    rw [← this, e2]
  have d1 : be4 (sumL (body (parse b))) = b.drop (11 + room (parse b).kind) := by
    have : (blk (parse b)).drop (11 + room (parse b).kind) = be4 (sumL (body (parse b))) := List.drop_left' n1
    rw [← this, e1]
  have d2 : be4 (sumL (body (parse (b.set p x)))) = (b.set p x).drop (11 + room (parse b).kind) := by
    have : (blk (parse (b.set p x))).drop (11 + room (parse b).kind) = be4 (sumL (body (parse (b.set p x)))) := List.drop_left' n2
    rw [← this, e2]
  by_cases hpn : p < 11 + room (parse b).kind
  · have hd : (b.set p x).drop (11 + room (parse b).kind) = b.drop (11 + room (parse b).kind) := List.drop_set_of_lt hpn
    rw [hd, ← d1] at d2
    have hs := be4_inj (sumL_lo _) (sumL_hi _) (sumL_lo _) (sumL_hi _) d2
    refine sumL_one (l := body (parse (b.set p x))) (l' := body (parse b)) (n2.trans n1.symm) (p := p) (by omega) ?_ (fun i hi hip => ?_) hs
    · rw [t1, t2, getD_take _ hpn, getD_take _ hpn, getD_set _ _ _ _ hp, if_pos rfl, List.getD_eq_getElem?_getD, List.getElem?_eq_getElem hp]
      exact hx
    · rw [n2] at hi
      rw [t1, t2, getD_take _ hi, getD_take _ hi, getD_set _ _ _ _ hp, if_neg hip]
  · have ht : (b.set p x).take (11 + room (parse b).kind) = b.take (11 + room (parse b).kind) := List.take_set_of_le (by omega)
    rw [ht, ← t1] at t2
    have : blk (parse (b.set p x)) = blk (parse b) := by unfold blk; rw [t2]
    rw [e1, e2] at this
    have h3 : (b.set p x)[p]'(by simpa using hp) = b[p] := by simp only [this]
    rw [List.getElem_set_self] at h3
    exact hx h3
end Fm
end Go.Proofs.YtbcncmampabmfaaDoor
namespace Go.Proofs.YtbcncmampabmfaaDoor
open Go.RowKit
open Pt (Tx)

/-- the slice at A of slices reads as these texts, all in blocks of G -/
def RdB (w : World) (A : Option Addr) (bs : List Tx) (G : Nat → Prop) : Prop :=
  0 < bs.length → ∃ b off, A = some ⟨b, off, none⟩ ∧ G b ∧ ∀ i (hi : i < bs.length), ∃ A' C', w.cell? ⟨b, off + i, none⟩ = some (.slice A' bs[i].length C') ∧ bs[i].length ≤ C' ∧ (A' = none → bs[i].length = 0 ∧ C' = 0) ∧ RdL w A' bs[i] G
namespace RdB
variable {w w' : World} {A : Option Addr} {bs : List Tx} {G G' S : Nat → Prop}
theorem empty (w : World) (A : Option Addr) (G : Nat → Prop) : RdB w A [] G := fun h => absurd h (by simp)
theorem keep (h : RdB w A bs G) (hk : ∀ p v, G p.block → w.cell? p = some v → w'.cell? p = some v) : RdB w' A bs G := by
  intro hn
  obtain ⟨b, off, e, hg, hc⟩ := h hn
  refine ⟨b, off, e, hg, fun i hi => ?_⟩
  obtain ⟨A', C', h1, h2, h3, h4⟩ := hc i hi
  exact ⟨A', C', hk _ _ hg h1, h2, h3, h4.keep hk⟩
theorem mono (h : RdB w A bs G) (hg : ∀ b, G b → G' b) : RdB w A bs G' := by
  intro hn
  obtain ⟨b, off, e, hg', hc⟩ := h hn
  refine ⟨b, off, e, hg _ hg', fun i hi => ?_⟩
  obtain ⟨A', C', h1, h2, h3, h4⟩ := hc i hi
  exact ⟨A', C', h1, h2, h3, h4.mono hg⟩
theorem kp (h : RdB w A bs G) (hk : Kp S w w') (hs : ∀ b, G b → ¬ S b) : RdB w' A bs G := h.keep fun _ _ hg hc => hk.cell hc (hs _ hg)
theorem old (h : RdB w A bs G) (hb : Below w.heap.size w w') : RdB w' A bs G := h.keep fun _ _ _ hc => (hb.cell (World.block_lt_of_cell? _ _ hc)).trans hc
theorem below {B : Nat} (h : RdB w A bs (· < B)) (hb : Below B w w') : RdB w' A bs (· < B) := h.keep fun _ _ hg hc => (hb.cell hg).trans hc
theorem in_ (h : RdB w A bs G) : RdB w A bs (fun b => G b ∧ b < w.heap.size) := by
  intro hn
  obtain ⟨b, off, e, hg, hc⟩ := h hn
  refine ⟨b, off, e, ⟨hg, ?_⟩, fun i hi => ?_⟩
  · obtain ⟨_, _, h1, _⟩ := hc 0 hn
    exact World.block_lt_of_cell? _ _ h1
  · obtain ⟨A', C', h1, h2, h3, h4⟩ := hc i hi
    exact ⟨A', C', h1, h2, h3, h4.in_⟩
theorem at_ (h : RdB w A bs G) {i : Nat} (hi : i < bs.length) : ∃ b off A' C', A = some ⟨b, off, none⟩ ∧ G b ∧ w.cell? ⟨b, off + i, none⟩ = some (.slice A' bs[i].length C') ∧ bs[i].length ≤ C' ∧ (A' = none → bs[i].length = 0 ∧ C' = 0) ∧ RdL w A' bs[i] G := by
  obtain ⟨b, off, e, hg, hc⟩ := h (by omega)
  obtain ⟨A', C', h1, h2, h3, h4⟩ := hc i hi
  exact ⟨b, off, A', C', e, hg, h1, h2, h3, h4⟩
end RdB
/-- a tape as the value that is handed on -/
def tape (lab cap : Int) (A : Option Addr) (n C : Nat) (lost : Bool) : Value := .agg #[.int .i64 lab, .int .i64 cap, .slice A n C, .bool lost]
end Go.Proofs.YtbcncmampabmfaaDoor
namespace Go.Proofs.YtbcncmampabmfaaDoor
open Go.RowKit

theorem infoRow : (Tryd.prog.info? 24).map (fun i => (i.zero, i.size, i.bytes)) = some (some (.slice none 0 0), 1, 24) := by kernel_rfl
end Go.Proofs.YtbcncmampabmfaaDoor
namespace Go.Proofs.YtbcncmampabmfaaDoor
open Go.RowKit

/-- each in so many cells -/
structure Enc (α : Type) where
  k : Nat
  pos : 0 < k
  enc : α → List Value
  len : ∀ x, (enc x).length = k
  one : ∀ x, ∀ u ∈ enc x, u.oneCell' = true
namespace Enc
variable {α : Type} (E : Enc α)
def cells (l : List α) : List Value := l.flatMap E.enc
theorem cells_nil : E.cells [] = [] := rfl
theorem cells_cons (x : α) (l : List α) : E.cells (x :: l) = E.enc x ++ E.cells l := rfl
theorem cells_append (l l' : List α) : E.cells (l ++ l') = E.cells l ++ E.cells l' := by unfold cells; exact List.flatMap_append
theorem cells_one (x : α) : E.cells [x] = E.enc x := by rw [cells_cons, cells_nil, List.append_nil]
theorem cells_len : ∀ l : List α, (E.cells l).length = l.length * E.k
  | [] => by rw [cells_nil]; simp
  | x :: l => by rw [cells_cons, List.length_append, E.len, cells_len l, List.length_cons, Nat.succ_mul]; omega
theorem cells_get : ∀ (l : List α) (i j : Nat) (_ : j < E.k) (hi : i < l.length), (E.cells l)[i * E.k + j]? = (E.enc l[i])[j]?
  | [], i, j, _, hi => absurd hi (by simp)
  | x :: l, 0, j, hj, hi => by
    rw [cells_cons, Nat.zero_mul, Nat.zero_add, List.getElem?_append_left (by rw [E.len]; exact hj)]; rfl
  | x :: l, i + 1, j, hj, hi => by
    rw [cells_cons, List.getElem?_append_right (by rw [E.len, Nat.succ_mul]; omega), E.len, show (i + 1) * E.k + j - E.k = i * E.k + j by rw [Nat.succ_mul]; omega]
    exact cells_get l i j hj (by simpa using hi)
theorem cells_all (l : List α) : ∀ u ∈ E.cells l, u.oneCell' = true := by
  intro u hu
  unfold cells at hu
  obtain ⟨x, _, hx⟩ := List.mem_flatMap.1 hu
  exact E.one x u hx
/-- the slice at A of these structs reads as the list l, and lies in a block of G -/
def Rd (w : World) (A : Option Addr) (l : List α) (G : Nat → Prop) : Prop :=
  0 < l.length → ∃ b off, A = some ⟨b, off, none⟩ ∧ G b ∧ ∀ i (hi : i < l.length) j u, (E.enc l[i])[j]? = some u → w.cell? ⟨b, off + i * E.k + j, none⟩ = some u
/-- v is a slice of the call's own that holds the list l -/
def Own (w : World) (base : Nat) (t : TypeId) (v : Value) (l : List α) : Prop := w.ownsRow base t E.k v l.length (E.cells l)
variable {E}
theorem Rd.nil (w : World) (A : Option Addr) (G : Nat → Prop) : E.Rd w A [] G := fun h => absurd h (by simp)
theorem Rd.keep {w w' : World} {A : Option Addr} {l : List α} {G : Nat → Prop} (h : E.Rd w A l G) (hk : ∀ p v, G p.block → w.cell? p = some v → w'.cell? p = some v) : E.Rd w' A l G := fun hn => by
  obtain ⟨b, off, e, hg, hc⟩ := h hn
  exact ⟨b, off, e, hg, fun i hi j u hu => hk _ _ hg (hc i hi j u hu)⟩
theorem Rd.mono {w : World} {A : Option Addr} {l : List α} {G G' : Nat → Prop} (h : E.Rd w A l G) (hg : ∀ b, G b → G' b) : E.Rd w A l G' := fun hn => by
  obtain ⟨b, off, e, hb, hc⟩ := h hn
  exact ⟨b, off, e, hg _ hb, hc⟩
theorem Rd.old {w w' : World} {A : Option Addr} {l : List α} {G : Nat → Prop} (h : E.Rd w A l G) (hb : Below w.heap.size w w') : E.Rd w' A l G := h.keep fun _ _ _ hc => (hb.cell (World.block_lt_of_cell? _ _ hc)).trans hc
theorem Rd.kp {w w' : World} {A : Option Addr} {l : List α} {G S : Nat → Prop} (h : E.Rd w A l G) (hk : Kp S w w') (hs : ∀ b, G b → ¬ S b) : E.Rd w' A l G := h.keep fun _ _ hg hc => hk.cell hc (hs _ hg)
theorem Rd.at_ {w : World} {A : Option Addr} {l : List α} {G : Nat → Prop} (h : E.Rd w A l G) {i : Nat} (hi : i < l.length) : ∃ b off, A = some ⟨b, off, none⟩ ∧ G b ∧ ∀ j u, (E.enc l[i])[j]? = some u → w.cell? ⟨b, off + i * E.k + j, none⟩ = some u := by
  obtain ⟨b, off, e, hg, hc⟩ := h (by omega)
  exact ⟨b, off, e, hg, hc i hi⟩
theorem Own.nil (w : World) (base : Nat) (t : TypeId) : E.Own w base t (.slice none 0 0) [] := World.ownsRow_nil _ _ _ _
theorem Own.of_block {w w' : World} {base : Nat} {t : TypeId} {v : Value} {l : List α} (h : E.Own w base t v l) (hb : ∀ k, v.ownBlock = some k → w'.heap[k]? = w.heap[k]?) : E.Own w' base t v l := by
  refine ⟨h.1, ?_⟩
  rcases h.2 with h0 | ⟨g, cap, cur, rfl, hb', hg, hr⟩
  · exact .inl h0
  · exact .inr ⟨g, cap, cur, rfl, hb', (hb g rfl).trans hg, hr⟩
theorem Own.lt {w : World} {base : Nat} {t : TypeId} {v : Value} {l : List α} (h : E.Own w base t v l) : ∀ k, v.ownBlock = some k → base ≤ k ∧ k < w.heap.size := fun k hk => World.ownsRow.lt h k hk
theorem Own.old {w w' : World} {base : Nat} {t : TypeId} {v : Value} {l : List α} (h : E.Own w base t v l) (hb : Below w.heap.size w w') : E.Own w' base t v l := h.of_block fun k e => hb.block k (h.lt k e).2
/-- its block, if it has one -/
theorem Own.block {w : World} {base : Nat} {t : TypeId} {v : Value} {l : List α} (h : E.Own w base t v l) : ∀ k, v.ownBlock = some k → ∃ c, w.heap[k]? = some (.cells c t (0, 0)) := by
  intro k hk
  rcases h.2 with ⟨rfl, h0⟩ | ⟨g, cap, cur, rfl, hb, hg, hnc, _, hs, ht⟩
  · cases hk
  · cases hk; exact ⟨cur, hg⟩
/-- as a value that reads -/
theorem Own.rd {w : World} {base : Nat} {t : TypeId} {v : Value} {l : List α} (h : E.Own w base t v l) : ∃ A C, v = .slice A l.length C ∧ l.length ≤ C ∧ C ≤ maxLen ∧ (A = none → l.length = 0 ∧ C = 0) ∧ E.Rd w A l (fun b => base ≤ b ∧ v.ownBlock = some b) := by
  rcases h.2 with ⟨rfl, h0⟩ | ⟨g, cap, cur, rfl, hb, hg, hnc, hcm, hs, ht⟩
  · have : l = [] := List.length_eq_zero_iff.1 h0
    subst this
    exact ⟨none, 0, rfl, Nat.le_refl _, by decide, fun _ => ⟨rfl, rfl⟩, Rd.nil _ _ _⟩
  · refine ⟨_, cap, rfl, hnc, hcm, (fun h => by cases h), fun _ => ⟨g, 0, rfl, ⟨hb, rfl⟩, fun i hi j u hu => ?_⟩⟩
    have hj : j < E.k := by rw [← E.len l[i]]; exact (List.getElem?_eq_some_iff.1 hu).1
    have hx := E.cells_get l i j hj hi
    have hlt : i * E.k + j < l.length * E.k := by
      have h1 : (i + 1) * E.k ≤ l.length * E.k := Nat.mul_le_mul_right _ hi
      rw [Nat.succ_mul] at h1
      omega
    rw [hu, ← ht, List.getElem?_take, if_pos hlt, Array.getElem?_toList] at hx
    rw [show 0 + i * E.k + j = i * E.k + j by omega, heap_cell hg, hx]
end Enc
/-- a new block's cells -/
theorem newCells (w : World) (c : List Value) (t : TypeId) : ∀ j u, c[j]? = some u → (w.alloc (.cells c.toArray t)).cell? ((⟨w.heap.size, 0, none⟩ : Addr).add j) = some u := by
  intro j u hu
  rw [addr_add, heap_cell (Go.Deep.blk_alloc_new _ _), Nat.zero_add]
  simpa using hu
theorem newCellsAt (w : World) (c : List Value) (t : TypeId) (s : Nat) (hs : s = w.heap.size) : ∀ j u, c[j]? = some u → (w.alloc (.cells c.toArray t)).cell? ((⟨s, 0, none⟩ : Addr).add j) = some u := by
  subst hs; exact newCells w c t
/-- append of some structs -/
theorem wpList_append_st' {P : Program} {α : Type} (E : Enc α) (w : World) {ops : Array Oper} {rest : List Oper} {o : Oper} {a : Act} {Q : Exit → Act → World → Prop} (hgd : o.guard = none) (s x : Operand) (t : TypeId)
    (ho : o.op = .call { callee := .builtin .append, args := #[s, x], argTypes := #[t, t] })
    (base : Nat) (e : TypeId) (z : Value) (bytes : Nat) (ht : P.underlying t = some (.slice e)) (hi : (P.info? e).map (fun i => (i.zero, i.size, i.bytes)) = some (some z, E.k, bytes)) (hzs : z.cells.size = E.k)
    (v : Value) (l : List α) (hs : a.eval s = v) (hown : E.Own w base e v l)
    (ad : Addr) (m c : Nat) (l' : List α) (hx : a.eval x = .slice (some ad) m c) (hm : m = l'.length) (hnews : ∀ j u, (E.cells l')[j]? = some u → w.cell? (ad.add j) = some u)
    (h63 : l.length + m ≤ maxLen) (hbytes : (l.length + m) * bytes ≤ 140737488355328) (hbase : base ≤ w.heap.size)
    (h : ∀ v' w', E.Own w' base e v' (l ++ l') → w.grownBy w' v.ownBlock → wpList P ops Q rest (a.put o.dst v') w') : wpList P ops Q (o :: rest) a w := by
  obtain ⟨i0, hi, hz0, hz1, hz2⟩ := info_parts hi
  subst hm
  exact wpList_append_own w hgd s x t ho base e i0 z E.k bytes ht hi hz0 hz1 hz2 hzs E.pos v l.length (E.cells l) hs hown ad l'.length c (E.cells l') hx (E.cells_len l') hnews (E.cells_all l') h63 hbytes hbase (fun v' w' h2 h3 _ => h v' w' (by unfold Enc.Own; rw [E.cells_append, List.length_append]; exact h2) h3)
end Go.Proofs.YtbcncmampabmfaaDoor
namespace Go.Proofs.YtbcncmampabmfaaDoor.Vo
open Pt (Tx)

/-- a tape -/
structure T where
  label : Int
  blocks : List Tx
  lost : Bool
/-- block n, if it is good -/
def good (t : T) (n : Nat) : Option Fm.U :=
  if t.lost = true then none else match t.blocks[n]? with
    | none => none
    | some b => if Fm.Good b ∧ (Fm.parse b).label = t.label ∧ (Fm.parse b).number = (n : Int) then some (Fm.parse b) else none
/-- how many blocks so many bytes take -/
def data (n : Nat) : Nat := (n + 63) / 64
theorem data_zero : data 0 = 0 := rfl
theorem data_int (n : Nat) : (((n : Int) - 1) / 64 + 1) = (data n : Int) := by unfold data; omega
/-- the part at block n -/
def part (t : T) (n : Nat) : Option Rc.H :=
  match good t n with
  | none => none
  | some u => if u.kind = 2 ∧ Rc.Good u.load ∧ n + data (Rc.parse u.load).len.toNat + 1 < t.blocks.length then some (Rc.parse u.load) else none
/-- the parts from block n on, f blocks looked at -/
def scan (t : T) : Nat → Nat → List (Rc.H × Nat)
  | 0, _ => []
  | f + 1, n => if n < t.blocks.length then
      match part t n with
      | some h => (h, n) :: scan t f (n + data h.len.toNat + 2)
      | none => scan t f (n + 1)
    else []
def parts (t : T) : List (Rc.H × Nat) := scan t t.blocks.length 1
def keep (t : T) : Nat :=
  match (parts t).getLast? with
  | some (h, n) => n + data h.len.toNat + 2
  | none => if (good t 0).isSome then 1 else 0
theorem good_lost {t : T} (h : t.lost = true) (n : Nat) : good t n = none := if_pos h
theorem good_end {t : T} {n : Nat} (h : t.blocks.length ≤ n) : good t n = none := by
  unfold good
  split
  · rfl
  · rw [List.getElem?_eq_none h]
theorem good_at {t : T} {n : Nat} {u : Fm.U} (hl : t.lost = false) (hb : t.blocks[n]? = some (Fm.blk u)) (hu : Fm.Ok u) (h1 : u.label = t.label) (h2 : u.number = (n : Int)) : good t n = some u := by
  unfold good
  rw [if_neg (by rw [hl]; decide), hb]
  show (if Fm.Good (Fm.blk u) ∧ (Fm.parse (Fm.blk u)).label = t.label ∧ (Fm.parse (Fm.blk u)).number = (n : Int) then some (Fm.parse (Fm.blk u)) else none) = some u
  rw [Fm.parse_blk hu, if_pos ⟨Fm.good_blk hu, h1, h2⟩]
theorem good_none {t : T} {n : Nat} {b : Tx} (hb : t.blocks[n]? = some b) (h : ¬ Fm.Good b) : good t n = none := by
  unfold good
  split
  · rfl
  · rw [hb]
    show (if Fm.Good b ∧ (Fm.parse b).label = t.label ∧ (Fm.parse b).number = (n : Int) then some (Fm.parse b) else none) = none
    rw [if_neg fun h' => h h'.1]
theorem good_some {t : T} {n : Nat} {u : Fm.U} (h : good t n = some u) : ∃ b, t.blocks[n]? = some b ∧ Fm.Good b ∧ u = Fm.parse b := by
  unfold good at h
  split at h
  · cases h
  · split at h
    · cases h
    · rename_i b hb
      split at h
      · rename_i h'
        exact ⟨b, hb, h'.1, (Option.some.inj h).symm⟩
      · cases h
theorem part_lt {t : T} {n : Nat} {h : Rc.H} (e : part t n = some h) : n < t.blocks.length := by
  unfold part at e
  split at e
  · cases e
  · rename_i u hu
    obtain ⟨b, hb, _⟩ := good_some hu
    exact (List.getElem?_eq_some_iff.1 hb).1
theorem part_in {t : T} {n : Nat} {h : Rc.H} (e : part t n = some h) : n + data h.len.toNat + 1 < t.blocks.length ∧ Rc.Ok h := by
  unfold part at e
  split at e
  · cases e
  · rename_i u hu
    split at e
    · rename_i h'
      cases e
      exact ⟨h'.2.2, h'.2.1.1⟩
    · cases e
/-- a head's frame -/
def headU (label at_ : Int) (h : Rc.H) : Fm.U := ⟨2, label, at_, Rc.blk h⟩
theorem head_long {h : Rc.H} (k : Rc.Ok h) : (Rc.blk h).length ≤ 64 := by have := Rc.put_le h; rw [Rc.put_ok k] at this; omega
/-- a label and numbers that frames can have -/
def Fits (label at_ : Int) (d : Nat) : Prop := (1 ≤ label ∧ label ≤ 2147483647) ∧ 0 ≤ at_ ∧ at_ + (d : Int) ≤ 2147483647
instance (label at_ : Int) (d : Nat) : Decidable (Fits label at_ d) := by unfold Fits; exact inferInstance
theorem headU_ok {label at_ : Int} {h : Rc.H} (k : Rc.Ok h) (hf : Fits label at_ 0) : Fm.Ok (headU label at_ h) := by
  obtain ⟨⟨a, b⟩, c, d⟩ := hf
  refine ⟨⟨(by show (1 : Int) ≤ 2; decide), (by show (2 : Int) ≤ 6; decide), a, b, c, ?_⟩, ?_⟩
  · show at_ ≤ 2147483647; omega
  · show (Rc.blk h).length ≤ Fm.room 2
    exact Nat.le_trans (head_long k) (by decide)
/-- where a head lies whose part is whole, a part lies -/
theorem part_at {t : T} {n : Nat} {h : Rc.H} (hl : t.lost = false) (hf : Fits t.label (n : Int) 0) (k : Rc.Ok h) (hb : t.blocks[n]? = some (Fm.blk (headU t.label (n : Int) h))) (hn : n + data h.len.toNat + 1 < t.blocks.length) : part t n = some h := by
  unfold part
  rw [good_at hl hb (headU_ok k hf) rfl rfl]
  show (if (2 : Int) = 2 ∧ Rc.Good (Rc.blk h) ∧ n + data (Rc.parse (Rc.blk h)).len.toNat + 1 < t.blocks.length then some (Rc.parse (Rc.blk h)) else none) = some h
  rw [Rc.parse_blk k, if_pos ⟨rfl, Rc.good_blk k, hn⟩]
/-- and where its part is not whole, none lies -/
theorem part_short {t : T} {n : Nat} {h : Rc.H} (hl : t.lost = false) (hf : Fits t.label (n : Int) 0) (k : Rc.Ok h) (hb : t.blocks[n]? = some (Fm.blk (headU t.label (n : Int) h))) (hn : t.blocks.length ≤ n + data h.len.toNat + 1) : part t n = none := by
  unfold part
  rw [good_at hl hb (headU_ok k hf) rfl rfl]
  show (if (2 : Int) = 2 ∧ Rc.Good (Rc.blk h) ∧ n + data (Rc.parse (Rc.blk h)).len.toNat + 1 < t.blocks.length then some (Rc.parse (Rc.blk h)) else none) = none
  rw [Rc.parse_blk k, if_neg fun h' => by have := h'.2.2; omega]
theorem part_kind {t : T} {n : Nat} {b : Tx} (hb : t.blocks[n]? = some b) (h : Fm.Good b → (Fm.parse b).kind ≠ 2) : part t n = none := by
  unfold part
  split
  · rfl
  · rename_i u hu
    obtain ⟨b', hb', hg, rfl⟩ := good_some hu
    rw [hb] at hb'
    cases hb'
    rw [if_neg fun h' => h hg h'.1]
theorem part_end {t : T} {n : Nat} (h : t.blocks.length ≤ n) : part t n = none := by
  unfold part; rw [good_end h]
/-- parts one behind the other, from block n on -/
def Laid (t : T) : Nat → List Rc.H → Prop
  | _, [] => True
  | n, h :: hs => part t n = some h ∧ Laid t (n + data h.len.toNat + 2) hs
def places : Nat → List Rc.H → List (Rc.H × Nat)
  | _, [] => []
  | n, h :: hs => (h, n) :: places (n + data h.len.toNat + 2) hs
def ending : Nat → List Rc.H → Nat
  | n, [] => n
  | n, h :: hs => ending (n + data h.len.toNat + 2) hs
theorem places_len : ∀ (n : Nat) (hs : List Rc.H), (places n hs).length = hs.length
  | _, [] => rfl
  | n, h :: hs => by rw [places, List.length_cons, places_len, List.length_cons]
theorem ending_ge : ∀ (n : Nat) (hs : List Rc.H), n + 2 * hs.length ≤ ending n hs
  | n, [] => by simp [ending]
  | n, h :: hs => by
    have := ending_ge (n + data h.len.toNat + 2) hs
    rw [ending, List.length_cons]; omega
theorem places_snoc : ∀ (n : Nat) (hs : List Rc.H) (h : Rc.H), places n (hs ++ [h]) = places n hs ++ [(h, ending n hs)]
  | _, [], _ => rfl
  | n, a :: hs, h => by rw [List.cons_append, places, places, places_snoc _ hs h, ending]; rfl
theorem ending_snoc : ∀ (n : Nat) (hs : List Rc.H) (h : Rc.H), ending n (hs ++ [h]) = ending n hs + data h.len.toNat + 2
  | _, [], _ => rfl
  | n, a :: hs, h => by rw [List.cons_append, ending, ending, ending_snoc _ hs h]
theorem scan_laid {t : T} : ∀ (hs : List Rc.H) (n f : Nat), Laid t n hs → scan t (hs.length + f) n = places n hs ++ scan t f (ending n hs)
  | [], n, f, _ => by rw [List.length_nil, Nat.zero_add]; rfl
  | h :: hs, n, f, hl => by
    have e : (h :: hs).length + f = (hs.length + f) + 1 := by rw [List.length_cons]; omega
    rw [e, scan, if_pos (part_lt hl.1), hl.1]
    show (h, n) :: scan t (hs.length + f) (n + data h.len.toNat + 2) = _
    rw [scan_laid hs _ f hl.2]; rfl
theorem scan_none {t : T} : ∀ (f n : Nat), (∀ m, n ≤ m → part t m = none) → scan t f n = []
  | 0, _, _ => rfl
  | f + 1, n, h => by
    rw [scan]
    split
    · rw [h n (Nat.le_refl _)]
      exact scan_none f (n + 1) fun m hm => h m (by omega)
    · rfl
/-- parts that lie one behind the other, and none behind them, are all that is found -/
theorem parts_laid {t : T} {hs : List Rc.H} (hl : Laid t 1 hs) (hn : ∀ m, ending 1 hs ≤ m → part t m = none) (hlen : hs.length ≤ t.blocks.length) : parts t = places 1 hs := by
  unfold parts
  obtain ⟨f, hf⟩ : ∃ f, t.blocks.length = hs.length + f := ⟨t.blocks.length - hs.length, by omega⟩
  rw [hf, scan_laid hs 1 f hl, scan_none f _ hn, List.append_nil]
theorem keep_laid {t : T} {hs : List Rc.H} (hp : parts t = places 1 hs) (h0 : hs = [] → (good t 0).isSome = true) : keep t = ending 1 hs := by
  unfold keep
  rw [hp]
  rcases List.eq_nil_or_concat hs with rfl | ⟨l, h, rfl⟩
  · show (if (good t 0).isSome then 1 else 0) = 1
    rw [if_pos (h0 rfl)]
  · rw [List.concat_eq_append, places_snoc, ending_snoc, List.getLast?_append]
    rfl
/-- data's frames -/
def chunk (b : Tx) (i : Nat) : Tx := (b.drop (64 * i)).take 64
theorem chunk_len (b : Tx) (i : Nat) : (chunk b i).length ≤ 64 := by unfold chunk; rw [List.length_take]; omega
def dataU (label at_ : Int) (b : Tx) (i : Nat) : Fm.U := ⟨3, label, at_ + 1 + (i : Int), chunk b i⟩
def markU (label at_ : Int) (d : Nat) : Fm.U := ⟨4, label, at_ + 1 + (d : Int), []⟩
def units (label at_ : Int) (h : Rc.H) (b : Tx) : List Fm.U := headU label at_ h :: ((List.range (data b.length)).map (dataU label at_ b) ++ [markU label at_ (data b.length)])
theorem units_len (label at_ : Int) (h : Rc.H) (b : Tx) : (units label at_ h b).length = data b.length + 2 := by
  unfold units; simp
theorem units_zero (label at_ : Int) (h : Rc.H) (b : Tx) : (units label at_ h b)[0]? = some (headU label at_ h) := rfl
theorem units_data {label at_ : Int} {h : Rc.H} {b : Tx} {i : Nat} (hi : i < data b.length) : (units label at_ h b)[i + 1]? = some (dataU label at_ b i) := by
  unfold units
  rw [List.getElem?_cons_succ, List.getElem?_append_left (by simpa using hi)]
  simp [hi]
theorem units_mark (label at_ : Int) (h : Rc.H) (b : Tx) : (units label at_ h b)[data b.length + 1]? = some (markU label at_ (data b.length)) := by
  unfold units
  rw [List.getElem?_cons_succ, List.getElem?_append_right (by simp)]
  simp
/-- each unit's number and label -/
theorem units_at {label at_ : Int} {h : Rc.H} {b : Tx} {j : Nat} {u : Fm.U} (hu : (units label at_ h b)[j]? = some u) : u.label = label ∧ u.number = at_ + (j : Int) ∧ (j = 0 ∨ u.kind ≠ 2) ∧ (u.kind = 2 ∨ u.kind = 3 ∨ u.kind = 4) := by
  have hj : j < data b.length + 2 := by rw [← units_len label at_ h b]; exact (List.getElem?_eq_some_iff.1 hu).1
  by_cases h0 : j = 0
  · subst h0
    cases hu
    exact ⟨rfl, by show at_ = at_ + 0; omega, .inl rfl, .inl rfl⟩
  · obtain ⟨i, rfl⟩ : ∃ i, j = i + 1 := ⟨j - 1, by omega⟩
    by_cases hi : i < data b.length
    · rw [units_data hi] at hu
      cases hu
      exact ⟨rfl, by show at_ + 1 + (i : Int) = _; omega, .inr (by show (3 : Int) ≠ 2; decide), .inr (.inl rfl)⟩
    · obtain rfl : i = data b.length := by omega
      rw [units_mark] at hu
      cases hu
      exact ⟨rfl, by show at_ + 1 + (data b.length : Int) = _; omega, .inr (by show (4 : Int) ≠ 2; decide), .inr (.inr rfl)⟩
theorem units_load {label at_ : Int} {h : Rc.H} {b : Tx} (k : Rc.Ok h) {j : Nat} {u : Fm.U} (hu : (units label at_ h b)[j]? = some u) : u.load.length ≤ 64 := by
  have hj : j < data b.length + 2 := by rw [← units_len label at_ h b]; exact (List.getElem?_eq_some_iff.1 hu).1
  by_cases h0 : j = 0
  · subst h0; cases hu; exact head_long k
  · obtain ⟨i, rfl⟩ : ∃ i, j = i + 1 := ⟨j - 1, by omega⟩
    by_cases hi : i < data b.length
    · rw [units_data hi] at hu; cases hu; exact chunk_len b i
    · obtain rfl : i = data b.length := by omega
      rw [units_mark] at hu; cases hu; exact Nat.zero_le _
theorem unit_ok {label at_ : Int} {h : Rc.H} {b : Tx} (k : Rc.Ok h) {j : Nat} {u : Fm.U} (hu : (units label at_ h b)[j]? = some u) (hf : Fits label (at_ + (j : Int)) 0) : Fm.Ok u := by
  obtain ⟨h1, h2, -, h3⟩ := units_at hu
  have h4 := units_load k hu
  obtain ⟨⟨a, b'⟩, c, d⟩ := hf
  refine ⟨⟨by omega, by omega, by omega, by omega, by omega, by omega⟩, Nat.le_trans h4 (Fm.room_ge _)⟩
theorem units_ok {label at_ : Int} {h : Rc.H} {b : Tx} (k : Rc.Ok h) (hf : Fits label at_ (data b.length + 1)) {j : Nat} {u : Fm.U} (hu : (units label at_ h b)[j]? = some u) : Fm.Ok u := by
  have hj : j < data b.length + 2 := by rw [← units_len label at_ h b]; exact (List.getElem?_eq_some_iff.1 hu).1
  obtain ⟨a, c, d⟩ := hf
  exact unit_ok k hu ⟨a, by omega, by omega⟩
theorem unit_err {label at_ : Int} {h : Rc.H} {b : Tx} (k : Rc.Ok h) {j : Nat} {u : Fm.U} (hu : (units label at_ h b)[j]? = some u) : Fm.err u = if Fits label (at_ + (j : Int)) 0 then 0 else 1 := by
  by_cases hf : Fits label (at_ + (j : Int)) 0
  · rw [if_pos hf]; exact Fm.err_ok (unit_ok k hu hf)
  · rw [if_neg hf]
    refine Fm.err_arg fun ha => hf ?_
    obtain ⟨h1, h2, -, -⟩ := units_at hu
    obtain ⟨-, -, a, b', c, d⟩ := ha
    exact ⟨⟨by omega, by omega⟩, by omega, by omega⟩
/-- which blocks a part is, and why none -/
def Right (label at_ : Int) (h : Rc.H) (b : Tx) : Prop := (Rc.Ok h ∧ (b.length : Int) = h.len) ∧ Fits label at_ (data b.length + 1)
instance (label at_ : Int) (h : Rc.H) (b : Tx) : Decidable (Right label at_ h b) := by unfold Right; exact inferInstance
def put (label at_ : Int) (h : Rc.H) (b : Tx) : List Tx := if Right label at_ h b then (units label at_ h b).map Fm.blk else []
def err (label at_ : Int) (h : Rc.H) (b : Tx) : Int := if Right label at_ h b then 0 else 1
theorem put_yes {label at_ : Int} {h : Rc.H} {b : Tx} (k : Right label at_ h b) : put label at_ h b = (units label at_ h b).map Fm.blk := if_pos k
theorem put_no {label at_ : Int} {h : Rc.H} {b : Tx} (k : ¬ Right label at_ h b) : put label at_ h b = [] := if_neg k
theorem err_yes {label at_ : Int} {h : Rc.H} {b : Tx} (k : Right label at_ h b) : err label at_ h b = 0 := if_pos k
theorem err_no {label at_ : Int} {h : Rc.H} {b : Tx} (k : ¬ Right label at_ h b) : err label at_ h b = 1 := if_neg k
theorem put_len {label at_ : Int} {h : Rc.H} {b : Tx} (k : Right label at_ h b) : (put label at_ h b).length = data b.length + 2 := by rw [put_yes k, List.length_map, units_len]
/-- how many blocks a part of so many bytes takes -/
def need (n : Int) : Nat := data (min (max n 0) 4000).toNat + 2
theorem need_of {b : Tx} {h : Rc.H} (k : Rc.Ok h) (e : (b.length : Int) = h.len) : need (b.length : Int) = data b.length + 2 := by
  have h1 : h.len ≤ 4000 := by obtain ⟨-, -, -, ⟨_, a⟩, b', c, d, _⟩ := k; omega
  unfold need
  rw [show (min (max (b.length : Int) 0) 4000).toNat = b.length by omega]
/-- a tape on which blocks were laid behind others -/
theorem laid_at {pre : List Tx} {label : Int} {h : Rc.H} {b : Tx} (post : List Tx) (k : Right label (pre.length : Int) h b) {j : Nat} (hj : j < data b.length + 2) :
    ∃ u, (units label (pre.length : Int) h b)[j]? = some u ∧ (pre ++ (put label (pre.length : Int) h b ++ post))[pre.length + j]? = some (Fm.blk u) := by
  have hj' : j < (units label (pre.length : Int) h b).length := by rw [units_len]; exact hj
  refine ⟨_, List.getElem?_eq_getElem hj', ?_⟩
  rw [List.getElem?_append_right (by omega), show pre.length + j - pre.length = j by omega, List.getElem?_append_left (by rw [put_len k]; exact hj), put_yes k, List.getElem?_map, List.getElem?_eq_getElem hj']
  rfl
end Go.Proofs.YtbcncmampabmfaaDoor.Vo
namespace Go.Proofs.YtbcncmampabmfaaDoor.Vo
open Pt (Tx)

/-- the head of a part of n bytes, version i + 1 -/
def hd (p : Tx) (i n : Nat) : Rc.H := ⟨p, (i : Int) + 1, (n : Int), 0, (n : Int), 1, 0, false⟩
theorem hd_ok {p : Tx} {i n : Nat} (hp : Pt.right p = true) (hi : i ≤ 1000) (hn : n ≤ 4000) : Rc.Ok (hd p i n) := by
  refine ⟨hp, ⟨?_, ?_⟩, ⟨?_, ?_⟩, ⟨?_, ?_⟩, ?_, ?_, ?_, ?_, ⟨?_, ?_⟩, fun h => by cases h⟩ <;> (unfold hd; simp only; omega)
theorem hd_len (p : Tx) (i n : Nat) : (hd p i n).len.toNat = n := by unfold hd; simp
def heads (p : Tx) : Nat → List Nat → List Rc.H
  | _, [] => []
  | i, n :: ns => hd p i n :: heads p (i + 1) ns
theorem heads_len (p : Tx) : ∀ (i : Nat) (ns : List Nat), (heads p i ns).length = ns.length
  | _, [] => rfl
  | i, n :: ns => by rw [heads, List.length_cons, heads_len p, List.length_cons]
/-- parts of these sizes, laid behind what is there -/
def lay (p : Tx) (lab : Int) : List Tx → Nat → List Nat → List Tx
  | pre, _, [] => pre
  | pre, i, n :: ns => lay p lab (pre ++ put lab (pre.length : Int) (hd p i n) (List.replicate n 0)) (i + 1) ns
theorem lay_more (p : Tx) (lab : Int) : ∀ (ns : List Nat) (pre : List Tx) (i : Nat), ∃ rest, lay p lab pre i ns = pre ++ rest
  | [], pre, _ => ⟨[], by rw [lay, List.append_nil]⟩
  | n :: ns, pre, i => by
    obtain ⟨rest, h⟩ := lay_more p lab ns (pre ++ put lab (pre.length : Int) (hd p i n) (List.replicate n 0)) (i + 1)
    exact ⟨_, by rw [lay, h, List.append_assoc]⟩
/-- how long it may grow -/
def room : List Nat → Nat
  | [] => 0
  | n :: ns => data n + 2 + room ns
theorem ending_room (p : Tx) : ∀ (ns : List Nat) (i at_ : Nat), ending at_ (heads p i ns) = at_ + room ns
  | [], _, _ => rfl
  | n :: ns, i, at_ => by rw [heads, ending, ending_room p ns, hd_len, room]; omega
theorem right_hd {p : Tx} {lab : Int} {at_ i n : Nat} (hp : Pt.right p = true) (hlab : 1 ≤ lab ∧ lab ≤ 2147483647) (hi : i ≤ 1000) (hn : n ≤ 4000) (hat : at_ ≤ 1000000) : Right lab (at_ : Int) (hd p i n) (List.replicate n 0) := by
  refine ⟨⟨hd_ok hp hi hn, by rw [List.length_replicate]; rfl⟩, hlab, by omega, ?_⟩
  rw [List.length_replicate]
  unfold data
  omega
theorem lay_len {p : Tx} {lab : Int} (hp : Pt.right p = true) (hlab : 1 ≤ lab ∧ lab ≤ 2147483647) : ∀ (ns : List Nat) (pre : List Tx) (i : Nat), (∀ n ∈ ns, n ≤ 4000) → i + ns.length ≤ 1000 → pre.length + room ns ≤ 1000000 → (lay p lab pre i ns).length = pre.length + room ns
  | [], pre, _, _, _, _ => by rw [lay, room]; rfl
  | n :: ns, pre, i, hn, hi, hr => by
    rw [List.length_cons] at hi
    rw [room] at hr
    have hR := right_hd (at_ := pre.length) hp hlab (show i ≤ 1000 by omega) (hn n (List.mem_cons_self ..)) (by omega)
    have hl : (pre ++ put lab (pre.length : Int) (hd p i n) (List.replicate n 0)).length = pre.length + (data n + 2) := by rw [List.length_append, put_len hR, List.length_replicate]
    rw [lay, lay_len hp hlab ns _ (i + 1) (fun m hm => hn m (List.mem_cons_of_mem _ hm)) (by omega) (by rw [hl]; omega), hl, room]
    omega
/-- a tape that has the heads' blocks where they were laid, and is as long, has the parts -/
theorem laid_of {p : Tx} {lab : Int} (hp : Pt.right p = true) (hlab : 1 ≤ lab ∧ lab ≤ 2147483647) {bs : List Tx} : ∀ (ns : List Nat) (pre : List Tx) (i : Nat), (∀ n ∈ ns, n ≤ 4000) → i + ns.length ≤ 1000 → pre.length + room ns ≤ 1000000 → pre.length + room ns ≤ bs.length →
    (∀ (k : Nat) (b : Tx), (lay p lab pre i ns)[k]? = some b → Fm.Good b → (Fm.parse b).kind = 2 → bs[k]? = some b) → Laid ⟨lab, bs, false⟩ pre.length (heads p i ns)
  | [], _, _, _, _, _, _, _ => trivial
  | n :: ns, pre, i, hn, hi, hr, hlen, hb => by
    rw [List.length_cons] at hi
    rw [room] at hr hlen
    have hn0 := hn n (List.mem_cons_self ..)
    have hR := right_hd (at_ := pre.length) hp hlab (show i ≤ 1000 by omega) hn0 (by omega)
    have hl : (pre ++ put lab (pre.length : Int) (hd p i n) (List.replicate n 0)).length = pre.length + (data n + 2) := by rw [List.length_append, put_len hR, List.length_replicate]
    have hok := hd_ok (p := p) hp (show i ≤ 1000 by omega) hn0
    have hf0 : Fits lab (pre.length : Int) 0 := ⟨hlab, by omega, by omega⟩
    refine ⟨part_at rfl hf0 hok (hb _ _ ?_ (Fm.good_blk (headU_ok hok hf0)) (by rw [Fm.parse_blk (headU_ok hok hf0)]; rfl)) (by rw [hd_len]; show pre.length + data n + 1 < bs.length; omega), ?_⟩
    · obtain ⟨rest, hrest⟩ := lay_more p lab ns (pre ++ put lab (pre.length : Int) (hd p i n) (List.replicate n 0)) (i + 1)
      rw [lay, hrest, List.append_assoc]
      obtain ⟨u, hu, hx⟩ := laid_at (pre := pre) rest hR (j := 0) (by omega)
      cases hu
      exact hx
    · rw [hd_len, show pre.length + data n + 2 = (pre ++ put lab (pre.length : Int) (hd p i n) (List.replicate n 0)).length by rw [hl]; omega]
      exact laid_of hp hlab ns _ (i + 1) (fun m hm => hn m (List.mem_cons_of_mem _ hm)) (by omega) (by rw [hl]; omega) (by rw [hl]; omega) (by rw [lay] at hb; exact hb)
/-- the tape's own label's frame -/
def first (lab : Int) (l : Tx) : Fm.U := ⟨1, lab, 0, l⟩
theorem first_ok {lab : Int} {l : Tx} (hlab : 1 ≤ lab ∧ lab ≤ 2147483647) (hl : l.length ≤ 64) : Fm.Ok (first lab l) :=
  ⟨⟨(by show (1 : Int) ≤ 1; decide), (by show (1 : Int) ≤ 6; decide), hlab.1, hlab.2, (by show (0 : Int) ≤ 0; decide), (by show (0 : Int) ≤ 2147483647; decide)⟩, Nat.le_trans hl (Fm.room_ge _)⟩
theorem lay_first (p : Tx) (lab : Int) (b : Tx) (i : Nat) (ns : List Nat) : ∃ rest, lay p lab [b] i ns = b :: rest := by
  obtain ⟨rest, h⟩ := lay_more p lab ns [b] i
  exact ⟨rest, h⟩
/-- what is found on a tape that was laid, whatever rotted but heads -/
theorem finds {p : Tx} {lab : Int} (hp : Pt.right p = true) (hlab : 1 ≤ lab ∧ lab ≤ 2147483647) {bs : List Tx} {ns : List Nat} {b0 : Tx} (hn : ∀ n ∈ ns, n ≤ 4000) (hc : ns.length ≤ 1000) (hr : 1 + room ns ≤ 1000000) (hlen : bs.length = 1 + room ns)
    (hb : ∀ (k : Nat) (b : Tx), (lay p lab [b0] 0 ns)[k]? = some b → Fm.Good b → (Fm.parse b).kind = 2 → bs[k]? = some b) : parts ⟨lab, bs, false⟩ = places 1 (heads p 0 ns) := by
  have hl := laid_of hp hlab ns [b0] 0 hn (by omega) (by simpa using hr) (by rw [hlen]; simp) hb
  refine parts_laid hl (fun m hm => part_end ?_) ?_
  · rw [ending_room] at hm
    show bs.length ≤ m
    omega
  · rw [heads_len]
    show ns.length ≤ bs.length
    rw [hlen]
    have : ∀ l : List Nat, l.length ≤ room l := fun l => by
      induction l with
      | nil => exact Nat.le_refl _
      | cons a l ih => rw [List.length_cons, room]; omega
    have := this ns
    omega
/-- what is behind whole parts when the laying of one more was cut -/
def tail (lab : Int) (at_ : Nat) (h : Rc.H) (b : Tx) (k n : Nat) : List Tx :=
  (put lab (at_ : Int) h b).take k ++ (if 0 < n ∧ k + 1 < data b.length + 2 then match (put lab (at_ : Int) h b)[k]? with | some x => [x.take n] | none => [] else [])
theorem tail_none {lab : Int} {pre : List Tx} {h : Rc.H} {b : Tx} {k n : Nat} (hR : Right lab (pre.length : Int) h b) (hk : k < data b.length + 2) (hn : ∀ x, (put lab (pre.length : Int) h b)[k]? = some x → n < x.length) :
    ∀ m, pre.length ≤ m → part ⟨lab, pre ++ tail lab pre.length h b k n, false⟩ m = none := by
  intro m hm
  have hlen := put_len hR
  obtain ⟨j, rfl⟩ : ∃ j, m = pre.length + j := ⟨m - pre.length, by omega⟩
  obtain ⟨x, hx⟩ : ∃ x, (put lab (pre.length : Int) h b)[k]? = some x := ⟨_, List.getElem?_eq_getElem (by rw [hlen]; exact hk)⟩
  have htl : (tail lab pre.length h b k n).length ≤ data b.length + 1 := by
    unfold tail
    rw [List.length_append, List.length_take, hlen, hx]
    split
    · show min k (data b.length + 2) + 1 ≤ _; omega
    · show min k (data b.length + 2) + 0 ≤ _; omega
  have hget : (pre ++ tail lab pre.length h b k n)[pre.length + j]? = (tail lab pre.length h b k n)[j]? := by
    rw [List.getElem?_append_right (by omega), show pre.length + j - pre.length = j by omega]
  by_cases hj : j < k
  · have hjj : j < (units lab (pre.length : Int) h b).length := by rw [units_len]; omega
    obtain ⟨u, hu⟩ : ∃ u, (units lab (pre.length : Int) h b)[j]? = some u := ⟨_, List.getElem?_eq_getElem hjj⟩
    have hbj : (pre ++ tail lab pre.length h b k n)[pre.length + j]? = some (Fm.blk u) := by
      rw [hget]
      unfold tail
      rw [List.getElem?_append_left (by rw [List.length_take, hlen]; omega), List.getElem?_take, if_pos hj, put_yes hR, List.getElem?_map, hu]
      rfl
    obtain ⟨hRa, hRb⟩ := hR
    have huo := units_ok hRa.1 hRb hu
    by_cases h0 : j = 0
    · subst h0
      cases hu
      have hf0 : Fits lab (pre.length : Int) 0 := by obtain ⟨a, c, d⟩ := hRb; exact ⟨a, c, by omega⟩
      refine part_short (t := ⟨lab, pre ++ tail lab pre.length h b k n, false⟩) rfl hf0 hRa.1 hbj ?_
      show (pre ++ tail lab pre.length h b k n).length ≤ pre.length + 0 + data h.len.toNat + 1
      have e : h.len.toNat = b.length := by have := hRa.2; omega
      rw [List.length_append, e]
      omega
    · refine part_kind (t := ⟨lab, pre ++ tail lab pre.length h b k n, false⟩) hbj fun _ => ?_
      rw [Fm.parse_blk huo]
      exact (units_at hu).2.2.1.resolve_left h0
  · rcases Nat.lt_or_ge j (tail lab pre.length h b k n).length with hjl | hjl
    · have hcond : 0 < n ∧ k + 1 < data b.length + 2 := by
        rcases Decidable.em (0 < n ∧ k + 1 < data b.length + 2) with hc | hc
        · exact hc
        · exfalso
          unfold tail at hjl
          rw [if_neg hc, List.append_nil, List.length_take] at hjl
          omega
      have hjk : j = k := by
        unfold tail at hjl
        rw [if_pos hcond, hx, List.length_append, List.length_take, hlen] at hjl
        have hjl' : j < min k (data b.length + 2) + 1 := hjl
        omega
      subst hjk
      have hbj : (pre ++ tail lab pre.length h b j n)[pre.length + j]? = some (x.take n) := by
        rw [hget]
        unfold tail
        rw [if_pos hcond, hx, List.getElem?_append_right (by rw [List.length_take]; omega), List.length_take, hlen, show j - min j (data b.length + 2) = 0 by omega]
        rfl
      refine part_kind (t := ⟨lab, pre ++ tail lab pre.length h b j n, false⟩) hbj fun hg => ?_
      have hxg : Fm.Good x := by
        rw [put_yes hR, List.getElem?_map] at hx
        obtain ⟨u, hu⟩ : ∃ u, (units lab (pre.length : Int) h b)[j]? = some u := ⟨_, List.getElem?_eq_getElem (by rw [units_len]; exact hk)⟩
        rw [hu] at hx
        cases hx
        exact Fm.good_blk (units_ok hR.1.1 hR.2 hu)
      exact absurd hg (Fm.cut_no hxg (hn x hx))
    · refine part_end (t := ⟨lab, pre ++ tail lab pre.length h b k n, false⟩) ?_
      show (pre ++ tail lab pre.length h b k n).length ≤ pre.length + j
      rw [List.length_append]; omega
/-- what is kept, and found, of whole parts and a cut one behind them -/
theorem keeps {p q : Tx} {lab : Int} (hp : Pt.right p = true) (hlab : 1 ≤ lab ∧ lab ≤ 2147483647) {ns : List Nat} {l0 : Tx} (hl0 : l0.length ≤ 64) (hn : ∀ n ∈ ns, n ≤ 4000) (hc : ns.length ≤ 1000) (hr : 1 + room ns ≤ 900000) {last k n : Nat} (hq : Pt.right q = true) (hlast : last ≤ 4000) (hk : k < data last + 2)
    (hcut : ∀ x, (put lab ((1 + room ns : Nat) : Int) (hd q 0 last) (List.replicate last 0))[k]? = some x → n < x.length) :
    parts ⟨lab, lay p lab [Fm.blk (first lab l0)] 0 ns ++ tail lab (1 + room ns) (hd q 0 last) (List.replicate last 0) k n, false⟩ = places 1 (heads p 0 ns)
      ∧ keep ⟨lab, lay p lab [Fm.blk (first lab l0)] 0 ns ++ tail lab (1 + room ns) (hd q 0 last) (List.replicate last 0) k n, false⟩ = 1 + room ns := by
  have hlen : (lay p lab [Fm.blk (first lab l0)] 0 ns).length = 1 + room ns := lay_len hp hlab ns _ 0 hn (by omega) (by simp; omega)
  obtain ⟨L, hL⟩ : ∃ L, L = lay p lab [Fm.blk (first lab l0)] 0 ns := ⟨_, rfl⟩
  have hR := right_hd (at_ := L.length) (i := 0) hq hlab (by omega) hlast (by rw [hL, hlen]; omega)
  rw [← hlen, ← hL] at hcut ⊢
  have hno := tail_none (pre := L) (k := k) (n := n) hR (by rw [List.length_replicate]; exact hk) hcut
  have hlaid := laid_of (bs := L ++ tail lab L.length (hd q 0 last) (List.replicate last 0) k n) hp hlab ns [Fm.blk (first lab l0)] 0 hn (by omega) (by simp; omega) (by rw [List.length_append, hL, hlen]; exact Nat.le_add_right _ _)
    (fun j b hb _ _ => by rw [← hL] at hb; rw [List.getElem?_append_left (List.getElem?_eq_some_iff.1 hb).1]; exact hb)
  have hend : ending 1 (heads p 0 ns) = L.length := by rw [ending_room, hL, hlen]
  have hp' : parts ⟨lab, L ++ tail lab L.length (hd q 0 last) (List.replicate last 0) k n, false⟩ = places 1 (heads p 0 ns) := by
    refine parts_laid hlaid (fun m hm => hno m (by rw [hend] at hm; exact hm)) ?_
    have := ending_ge 1 (heads p 0 ns)
    rw [hend] at this
    show _ ≤ (L ++ _).length
    rw [List.length_append]; omega
  refine ⟨hp', ?_⟩
  rw [keep_laid hp' fun hnil => ?_, hend]
  obtain ⟨rest, hrest⟩ := lay_first p lab (Fm.blk (first lab l0)) 0 ns
  rw [good_at (u := first lab l0) rfl (by show (L ++ _)[0]? = _; rw [hL, hrest]; rfl) (first_ok hlab hl0) rfl rfl]
  rfl
/-- the heads lie where they were laid -/
def Heads (orig bs : List Tx) : Prop := bs.length = orig.length ∧ ∀ (k : Nat) (b : Tx), orig[k]? = some b → Fm.Good b → (Fm.parse b).kind = 2 → bs[k]? = some b
theorem Heads.refl (l : List Tx) : Heads l l := ⟨rfl, fun _ _ h _ _ => h⟩
/-- a block that is no head's is turned into whatever -/
theorem Heads.turn {orig bs : List Tx} (h : Heads orig bs) {k : Nat} {b : Tx} (hb : bs[k]? = some b) (hk : (Fm.parse b).kind ≠ 2) (x : Tx) : Heads orig (bs.set k x) := by
  refine ⟨by rw [List.length_set]; exact h.1, fun j c hc hg hkd => ?_⟩
  have hj := h.2 j c hc hg hkd
  rw [List.getElem?_set]
  by_cases e : k = j
  · subst e
    rw [hb] at hj
    cases hj
    exact absurd hkd hk
  · rw [if_neg e]; exact hj
theorem finds_turned {p : Tx} {lab : Int} (hp : Pt.right p = true) (hlab : 1 ≤ lab ∧ lab ≤ 2147483647) {bs : List Tx} {ns : List Nat} {b0 : Tx} (hn : ∀ n ∈ ns, n ≤ 4000) (hc : ns.length ≤ 1000) (hr : 1 + room ns ≤ 1000000) (h : Heads (lay p lab [b0] 0 ns) bs) : parts ⟨lab, bs, false⟩ = places 1 (heads p 0 ns) :=
  finds hp hlab hn hc hr (by rw [h.1]; exact lay_len hp hlab ns _ 0 hn (by omega) (by simpa using hr)) h.2
end Go.Proofs.YtbcncmampabmfaaDoor.Vo
namespace Go.Proofs.YtbcncmampabmfaaDoor.Vo
open Pt (Tx)

theorem lay_snoc (p : Tx) (lab : Int) (n : Nat) : ∀ (ns : List Nat) (pre : List Tx) (i : Nat), lay p lab pre i (ns ++ [n]) = lay p lab pre i ns ++ put lab ((lay p lab pre i ns).length : Int) (hd p (i + ns.length) n) (List.replicate n 0)
  | [], pre, i => rfl
  | m :: ns, pre, i => by
    rw [List.cons_append, lay, lay, lay_snoc p lab n ns, List.length_cons, show i + 1 + ns.length = i + (ns.length + 1) by omega]
theorem put_le {lab at_ : Int} {h : Rc.H} {b : Tx} {s : Tx} (hs : s ∈ put lab at_ h b) : s.length ≤ 94 := by
  by_cases k : Right lab at_ h b
  · rw [put_yes k] at hs
    obtain ⟨u, hu, rfl⟩ := List.mem_map.1 hs
    obtain ⟨j, hj⟩ := List.getElem?_of_mem hu
    have := units_ok k.1.1 k.2 hj
    rw [← Fm.put_ok this]
    exact Fm.put_le u
  · rw [put_no k] at hs; cases hs
theorem put_pos {lab at_ : Int} {h : Rc.H} {b : Tx} {s : Tx} (hs : s ∈ put lab at_ h b) : 15 ≤ s.length := by
  by_cases k : Right lab at_ h b
  · rw [put_yes k] at hs
    obtain ⟨u, hu, rfl⟩ := List.mem_map.1 hs
    obtain ⟨j, hj⟩ := List.getElem?_of_mem hu
    have := units_ok k.1.1 k.2 hj
    rw [Fm.blk_len this]; omega
  · rw [put_no k] at hs; cases hs
theorem lay_le {p : Tx} {lab : Int} {s : Tx} : ∀ (ns : List Nat) (pre : List Tx) (i : Nat), (∀ x ∈ pre, x.length ≤ 94) → s ∈ lay p lab pre i ns → s.length ≤ 94
  | [], pre, _, hp, hs => hp s hs
  | m :: ns, pre, i, hp, hs => lay_le ns _ (i + 1) (fun x hx => by
      rcases List.mem_append.1 hx with h | h
      · exact hp x h
      · exact put_le h) hs
theorem room_snoc (n : Nat) : ∀ ns : List Nat, room (ns ++ [n]) = room ns + (data n + 2)
  | [] => by simp [room]
  | m :: ns => by rw [List.cons_append, room, room, room_snoc n ns]; omega
theorem room_le : ∀ ns : List Nat, (∀ n ∈ ns, n ≤ 127) → room ns ≤ 4 * ns.length
  | [], _ => Nat.le_refl _
  | m :: ns, h => by
    have h1 := room_le ns fun n hn => h n (List.mem_cons_of_mem _ hn)
    have h2 := h m (List.mem_cons_self ..)
    rw [room, List.length_cons]
    unfold data
    omega
end Go.Proofs.YtbcncmampabmfaaDoor.Vo
