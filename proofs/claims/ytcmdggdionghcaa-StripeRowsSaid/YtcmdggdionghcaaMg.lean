/- A slice of structs that reads as a list of plain data, and one that a call owns and makes longer by append: each struct is some cells, as many for each. No function of the program. Tapes in a row that a call makes longer by append: each in four cells. No function of the program. Tapes that a law builds: one that grows by blocks of 79 bytes, and a row of them that grows by append. No function of the program. What the document's own RightMatrix answers. What the document's own Inverse answers, whatever it is given. What the document's own Decode answers, whatever it is given. What Decode answers of rows that one Encode made, some of them missing. No function of the program. Rows of slices as lists. No function of the program. -/
import Derived.Test.YtcmdggdionghcaaMa
import Derived.Test.YtcmdggdionghcaaRows
import Derived.Laws.AppendOwn
import Derived.OwnWalk
import Derived.Test.YtcmdggdionghcaaMb
import Derived.Test.YtcmdggdionghcaaMd
import Derived.Test.YtcmdggdionghcaaMxZeros
import Derived.Laws.OwnMore
import Derived.Deep.AppendLies
import Derived.Test.YtcmdggdionghcaaMc
import Derived.Test.YtcmdggdionghcaaMf
import Derived.Test.YtcmdggdionghcaaMe
namespace Go.Proofs.Ytcmdggdionghcaa
open Go.RowKit

/-- each in so many cells -/
structure Enc (α : Type) where
  k : Nat
  pos : 0 < k
  enc : α → List Value
  len : ∀ x, (enc x).length = k
  one : ∀ x, ∀ u ∈ enc x, u.oneCell' = true
namespace Enc
variable {α : Type} (E : Enc α)
def cells (l : List α) : List Value := l.flatMap E.enc
theorem cells_nil : E.cells [] = [] := rfl
theorem cells_cons (x : α) (l : List α) : E.cells (x :: l) = E.enc x ++ E.cells l := rfl
theorem cells_append (l l' : List α) : E.cells (l ++ l') = E.cells l ++ E.cells l' := by unfold cells; exact List.flatMap_append
theorem cells_one (x : α) : E.cells [x] = E.enc x := by rw [cells_cons, cells_nil, List.append_nil]
theorem cells_len : ∀ l : List α, (E.cells l).length = l.length * E.k
  | [] => by rw [cells_nil]; simp
  | x :: l => by rw [cells_cons, List.length_append, E.len, cells_len l, List.length_cons, Nat.succ_mul]; omega
theorem cells_get : ∀ (l : List α) (i j : Nat) (_ : j < E.k) (hi : i < l.length), (E.cells l)[i * E.k + j]? = (E.enc l[i])[j]?
  | [], i, j, _, hi => absurd hi (by simp)
  | x :: l, 0, j, hj, hi => by
    rw [cells_cons, Nat.zero_mul, Nat.zero_add, List.getElem?_append_left (by rw [E.len]; exact hj)]; rfl
  | x :: l, i + 1, j, hj, hi => by
    rw [cells_cons, List.getElem?_append_right (by rw [E.len, Nat.succ_mul]; omega), E.len, show (i + 1) * E.k + j - E.k = i * E.k + j by rw [Nat.succ_mul]; omega]
    exact cells_get l i j hj (by simpa using hi)
theorem cells_all (l : List α) : ∀ u ∈ E.cells l, u.oneCell' = true := by
  intro u hu
  unfold cells at hu
  obtain ⟨x, _, hx⟩ := List.mem_flatMap.1 hu
  exact E.one x u hx
/-- the slice at A of these structs reads as the list l, and lies in a block of G -/
def Rd (w : World) (A : Option Addr) (l : List α) (G : Nat → Prop) : Prop :=
  0 < l.length → ∃ b off, A = some ⟨b, off, none⟩ ∧ G b ∧ ∀ i (hi : i < l.length) j u, (E.enc l[i])[j]? = some u → w.cell? ⟨b, off + i * E.k + j, none⟩ = some u
/-- v is a slice of the call's own that holds the list l -/
def Own (w : World) (base : Nat) (t : TypeId) (v : Value) (l : List α) : Prop := w.ownsRow base t E.k v l.length (E.cells l)
variable {E}
theorem Rd.nil (w : World) (A : Option Addr) (G : Nat → Prop) : E.Rd w A [] G := fun h => absurd h (by simp)
theorem Rd.keep {w w' : World} {A : Option Addr} {l : List α} {G : Nat → Prop} (h : E.Rd w A l G) (hk : ∀ p v, G p.block → w.cell? p = some v → w'.cell? p = some v) : E.Rd w' A l G := fun hn => by
  obtain ⟨b, off, e, hg, hc⟩ := h hn
  exact ⟨b, off, e, hg, fun i hi j u hu => hk _ _ hg (hc i hi j u hu)⟩
theorem Rd.mono {w : World} {A : Option Addr} {l : List α} {G G' : Nat → Prop} (h : E.Rd w A l G) (hg : ∀ b, G b → G' b) : E.Rd w A l G' := fun hn => by
  obtain ⟨b, off, e, hb, hc⟩ := h hn
  exact ⟨b, off, e, hg _ hb, hc⟩
theorem Rd.old {w w' : World} {A : Option Addr} {l : List α} {G : Nat → Prop} (h : E.Rd w A l G) (hb : Below w.heap.size w w') : E.Rd w' A l G := h.keep fun _ _ _ hc => (hb.cell (World.block_lt_of_cell? _ _ hc)).trans hc
theorem Rd.kp {w w' : World} {A : Option Addr} {l : List α} {G S : Nat → Prop} (h : E.Rd w A l G) (hk : Kp S w w') (hs : ∀ b, G b → ¬ S b) : E.Rd w' A l G := h.keep fun _ _ hg hc => hk.cell hc (hs _ hg)
theorem Rd.at_ {w : World} {A : Option Addr} {l : List α} {G : Nat → Prop} (h : E.Rd w A l G) {i : Nat} (hi : i < l.length) : ∃ b off, A = some ⟨b, off, none⟩ ∧ G b ∧ ∀ j u, (E.enc l[i])[j]? = some u → w.cell? ⟨b, off + i * E.k + j, none⟩ = some u := by
  obtain ⟨b, off, e, hg, hc⟩ := h (by omega)
  exact ⟨b, off, e, hg, hc i hi⟩
theorem Own.nil (w : World) (base : Nat) (t : TypeId) : E.Own w base t (.slice none 0 0) [] := World.ownsRow_nil _ _ _ _
theorem Own.of_block {w w' : World} {base : Nat} {t : TypeId} {v : Value} {l : List α} (h : E.Own w base t v l) (hb : ∀ k, v.ownBlock = some k → w'.heap[k]? = w.heap[k]?) : E.Own w' base t v l := by
  refine ⟨h.1, ?_⟩
  rcases h.2 with h0 | ⟨g, cap, cur, rfl, hb', hg, hr⟩
  · exact .inl h0
  · exact .inr ⟨g, cap, cur, rfl, hb', (hb g rfl).trans hg, hr⟩
theorem Own.lt {w : World} {base : Nat} {t : TypeId} {v : Value} {l : List α} (h : E.Own w base t v l) : ∀ k, v.ownBlock = some k → base ≤ k ∧ k < w.heap.size := fun k hk => World.ownsRow.lt h k hk
theorem Own.old {w w' : World} {base : Nat} {t : TypeId} {v : Value} {l : List α} (h : E.Own w base t v l) (hb : Below w.heap.size w w') : E.Own w' base t v l := h.of_block fun k e => hb.block k (h.lt k e).2
/-- its block, if it has one -/
theorem Own.block {w : World} {base : Nat} {t : TypeId} {v : Value} {l : List α} (h : E.Own w base t v l) : ∀ k, v.ownBlock = some k → ∃ c, w.heap[k]? = some (.cells c t (0, 0)) := by
  intro k hk
  rcases h.2 with ⟨rfl, h0⟩ | ⟨g, cap, cur, rfl, hb, hg, hnc, _, hs, ht⟩
  · cases hk
  · cases hk; exact ⟨cur, hg⟩
/-- as a value that reads -/
theorem Own.rd {w : World} {base : Nat} {t : TypeId} {v : Value} {l : List α} (h : E.Own w base t v l) : ∃ A C, v = .slice A l.length C ∧ l.length ≤ C ∧ C ≤ maxLen ∧ (A = none → l.length = 0 ∧ C = 0) ∧ E.Rd w A l (fun b => base ≤ b ∧ v.ownBlock = some b) := by
  rcases h.2 with ⟨rfl, h0⟩ | ⟨g, cap, cur, rfl, hb, hg, hnc, hcm, hs, ht⟩
  · have : l = [] := List.length_eq_zero_iff.1 h0
    subst this
    exact ⟨none, 0, rfl, Nat.le_refl _, by decide, fun _ => ⟨rfl, rfl⟩, Rd.nil _ _ _⟩
  · refine ⟨_, cap, rfl, hnc, hcm, (fun h => by cases h), fun _ => ⟨g, 0, rfl, ⟨hb, rfl⟩, fun i hi j u hu => ?_⟩⟩
    have hj : j < E.k := by rw [← E.len l[i]]; exact (List.getElem?_eq_some_iff.1 hu).1
    have hx := E.cells_get l i j hj hi
    have hlt : i * E.k + j < l.length * E.k := by
      have h1 : (i + 1) * E.k ≤ l.length * E.k := Nat.mul_le_mul_right _ hi
      rw [Nat.succ_mul] at h1
      omega
    rw [hu, ← ht, List.getElem?_take, if_pos hlt, Array.getElem?_toList] at hx
    rw [show 0 + i * E.k + j = i * E.k + j by omega, heap_cell hg, hx]
end Enc
/-- a new block's cells -/
theorem newCells (w : World) (c : List Value) (t : TypeId) : ∀ j u, c[j]? = some u → (w.alloc (.cells c.toArray t)).cell? ((⟨w.heap.size, 0, none⟩ : Addr).add j) = some u := by
  intro j u hu
  rw [addr_add, heap_cell (Go.Deep.blk_alloc_new _ _), Nat.zero_add]
  simpa using hu
theorem newCellsAt (w : World) (c : List Value) (t : TypeId) (s : Nat) (hs : s = w.heap.size) : ∀ j u, c[j]? = some u → (w.alloc (.cells c.toArray t)).cell? ((⟨s, 0, none⟩ : Addr).add j) = some u := by
  subst hs; exact newCells w c t
/-- append of some structs -/
theorem wpList_append_st' {P : Program} {α : Type} (E : Enc α) (w : World) {ops : Array Oper} {rest : List Oper} {o : Oper} {a : Act} {Q : Exit → Act → World → Prop} (hgd : o.guard = none) (s x : Operand) (t : TypeId)
    (ho : o.op = .call { callee := .builtin .append, args := #[s, x], argTypes := #[t, t] })
    (base : Nat) (e : TypeId) (z : Value) (bytes : Nat) (ht : P.underlying t = some (.slice e)) (hi : (P.info? e).map (fun i => (i.zero, i.size, i.bytes)) = some (some z, E.k, bytes)) (hzs : z.cells.size = E.k)
    (v : Value) (l : List α) (hs : a.eval s = v) (hown : E.Own w base e v l)
    (ad : Addr) (m c : Nat) (l' : List α) (hx : a.eval x = .slice (some ad) m c) (hm : m = l'.length) (hnews : ∀ j u, (E.cells l')[j]? = some u → w.cell? (ad.add j) = some u)
    (h63 : l.length + m ≤ maxLen) (hbytes : (l.length + m) * bytes ≤ 140737488355328) (hbase : base ≤ w.heap.size)
    (h : ∀ v' w', E.Own w' base e v' (l ++ l') → w.grownBy w' v.ownBlock → wpList P ops Q rest (a.put o.dst v') w') : wpList P ops Q (o :: rest) a w := by
  obtain ⟨i0, hi, hz0, hz1, hz2⟩ := info_parts hi
  subst hm
  exact wpList_append_own w hgd s x t ho base e i0 z E.k bytes ht hi hz0 hz1 hz2 hzs E.pos v l.length (E.cells l) hs hown ad l'.length c (E.cells l') hx (E.cells_len l') hnews (E.cells_all l') h63 hbytes hbase (fun v' w' h2 h3 _ => h v' w' (by unfold Enc.Own; rw [E.cells_append, List.length_append]; exact h2) h3)
end Go.Proofs.Ytcmdggdionghcaa
namespace Go.Proofs.Ytcmdggdionghcaa
open Go.RowKit
open Pt (Tx)

/-- a tape's four cells -/
structure Tv where
  label : Int
  cap : Int
  A : Option Addr
  n : Nat
  C : Nat
  lost : Bool
def encT : Enc Tv where
  k := 4
  pos := by decide
  enc t := [.int .i64 t.label, .int .i64 t.cap, .slice t.A t.n t.C, .bool t.lost]
  len _ := rfl
  one t u hu := by
    simp only [List.mem_cons, List.not_mem_nil, or_false] at hu
    rcases hu with rfl | rfl | rfl | rfl <;> rfl
theorem infoTape : (Try.prog.info? 39).map (fun i => (i.zero, i.size, i.bytes)) = some (some (.agg #[.int .i64 0, .int .i64 0, .slice none 0 0, .bool false]), 4, 48) := by kernel_rfl
/-- the value that is handed on -/
def Tv.val (t : Tv) : Value := .agg #[.int .i64 t.label, .int .i64 t.cap, .slice t.A t.n t.C, .bool t.lost]
/-- a row of such cells and what they point to read as tapes -/
theorem RdT.of_rows {w : World} {A : Option Addr} {tvs : List Tv} {ts : List St.T} {G : Nat → Prop} (h : encT.Rd w A tvs G) (hl : tvs.length = ts.length)
    (hb : ∀ i (hi : i < tvs.length) (hi' : i < ts.length), tvs[i].label = ts[i].label ∧ tvs[i].cap = ts[i].cap ∧ tvs[i].n = ts[i].blocks.length ∧ tvs[i].lost = ts[i].lost ∧ RdB w tvs[i].A ts[i].blocks G) : RdT w A ts G := by
  intro hn
  obtain ⟨b, off, e, hg, hc⟩ := h (by omega)
  refine ⟨b, off, e, hg, fun i hi => ?_⟩
  have hi' : i < tvs.length := by omega
  obtain ⟨h1, h2, h3, h4, h5⟩ := hb i hi' hi
  refine ⟨tvs[i].A, tvs[i].C, ?_, ?_, ?_, ?_, h5⟩
  · rw [← h1]; exact hc i hi' 0 _ rfl
  · rw [← h2]; exact hc i hi' 1 _ rfl
  · rw [← h3]; exact hc i hi' 2 _ rfl
  · rw [← h4]; exact hc i hi' 3 _ rfl
/-- and the other way round -/
theorem RdT.rows {w : World} {A : Option Addr} {ts : List St.T} {G : Nat → Prop} (h : RdT w A ts G) : ∃ tvs : List Tv, tvs.length = ts.length ∧ encT.Rd w A tvs G
    ∧ ∀ i (hi : i < tvs.length) (hi' : i < ts.length), tvs[i].label = ts[i].label ∧ tvs[i].cap = ts[i].cap ∧ tvs[i].n = ts[i].blocks.length ∧ tvs[i].lost = ts[i].lost ∧ RdB w tvs[i].A ts[i].blocks G := by
  rcases Nat.eq_zero_or_pos ts.length with h0 | h0
  · exact ⟨[], by rw [h0]; rfl, Enc.Rd.nil _ _ _, fun i hi => absurd hi (by simp)⟩
  · obtain ⟨b, off, e, hg, hc⟩ := h h0
    have key : ∀ i, ∃ q : Option Addr × Nat, ∀ hi : i < ts.length, w.cell? ⟨b, off + i * 4 + 2, none⟩ = some (.slice q.1 ts[i].blocks.length q.2) ∧ RdB w q.1 ts[i].blocks G := fun i => by
      by_cases hi : i < ts.length
      · obtain ⟨A', C', _, _, h2, _, h4⟩ := hc i hi
        exact ⟨(A', C'), fun _ => ⟨h2, h4⟩⟩
      · exact ⟨(none, 0), fun h => absurd h hi⟩
    refine ⟨(List.range ts.length).map fun i => ⟨(ts.getD i ⟨0, 0, [], false⟩).label, (ts.getD i ⟨0, 0, [], false⟩).cap, (key i).choose.1, (ts.getD i ⟨0, 0, [], false⟩).blocks.length, (key i).choose.2, (ts.getD i ⟨0, 0, [], false⟩).lost⟩, by simp, fun _ => ⟨b, off, e, hg, fun i hi j u hu => ?_⟩, fun i hi hi' => ?_⟩
    · have hi' : i < ts.length := by simpa using hi
      obtain ⟨k1, k2⟩ := (key i).choose_spec hi'
      obtain ⟨A', C', g0, g1, _, g3, _⟩ := hc i hi'
      have ht : ts.getD i ⟨0, 0, [], false⟩ = ts[i] := by rw [List.getD_eq_getElem?_getD, List.getElem?_eq_getElem hi']; rfl
      simp only [List.getElem_map, List.getElem_range, ht] at hu
      match j, hu with
      | 0, hu => cases hu; exact g0
      | 1, hu => cases hu; exact g1
      | 2, hu => cases hu; exact k1
      | 3, hu => cases hu; exact g3
    · obtain ⟨k1, k2⟩ := (key i).choose_spec hi'
      have ht : ts.getD i ⟨0, 0, [], false⟩ = ts[i] := by rw [List.getD_eq_getElem?_getD, List.getElem?_eq_getElem hi']; rfl
      simp only [List.getElem_map, List.getElem_range, ht]
      exact ⟨trivial, trivial, trivial, trivial, k2⟩
end Go.Proofs.Ytcmdggdionghcaa
namespace Go.Proofs.Ytcmdggdionghcaa
open Go.RowKit Mx
open Pt (Tx)

theorem and_7 (x : Int) : ∃ y : Nat, bits BinOp.and IntKind.i64 x 7 = (y : Int) ∧ y ≤ 7 := by
  have hx : (BitVec.ofInt 64 x &&& BitVec.ofInt 64 7).toNat ≤ 7 := by
    rw [BitVec.toNat_and]; exact Nat.and_le_right
  refine ⟨(BitVec.ofInt 64 x &&& BitVec.ofInt 64 7).toNat, ?_, hx⟩
  show IntKind.i64.wrap ((BitVec.ofInt 64 x &&& BitVec.ofInt 64 7).toNat : Int) = _
  rw [IntKind.wrap_i64]; omega
/-- a block of zeros of which one byte is turned -/
def blk79 (k b : Nat) : Tx := (List.replicate 79 0).set k (UInt8.ofNat b)
theorem blk79_len (k b : Nat) : (blk79 k b).length = 79 := by simp [blk79]
theorem blk79_own (x : World) {B : Nat} (hB : B ≤ x.heap.size) (k : Nat) {b : Nat} (hb : b < 256) : OwnL (x.alloc (.cells ((madeCells #[.int .u8 0] 79).setIfInBounds k (.int .u8 (b : Int))) 5)) B (.slice (some ⟨x.heap.size, 0, none⟩) 79 79) (blk79 k b) := by
  have h := World.ownsRow_lit (base := B) (e := 5) (size := 1) x ((madeCells #[.int .u8 0] 79).setIfInBounds k (.int .u8 (b : Int))) 79 hB (by decide) (by simp [madeCells])
  unfold OwnL
  rw [blk79_len]
  have e : cellsL (blk79 k b) = ((madeCells #[.int .u8 0] 79).setIfInBounds k (.int .u8 (b : Int))).toList := by
    rw [Array.toList_setIfInBounds, toList_madeCells_one]
    unfold cellsL blk79
    rw [List.map_set, List.map_replicate]
    have : (UInt8.ofNat b).toNat = b := by rw [UInt8.toNat_ofNat', Nat.mod_eq_of_lt hb]
    rw [this]
    rfl
  rw [e]
  exact h
/-- a tape in block TB that grows -/
structure Tq (w : World) (TB : Nat) (lab : Int) (A : Option Addr) (k C : Nat) (us : List Value) (bs : List Tx) (x : World) : Prop where
  blk : x.heap[TB]? = some (tapeObj lab 20 A k C false)
  top : TopB x (TB + 1) (TB < ·) (.slice A k C) us bs
  len : k = bs.length
  all : ∀ s ∈ bs, s.length = 79
  bel : Below w.heap.size w x
  lo : w.heap.size ≤ TB
namespace Tq
variable {w x y : World} {TB k C : Nat} {lab : Int} {A : Option Addr} {us : List Value} {bs : List Tx}
theorem start (w : World) (lab : Int) : Tq w w.heap.size lab none 0 0 [] [] (w.alloc (tapeObj lab 20 none 0 0 false)) :=
  ⟨Go.Deep.blk_alloc_new _ _, TopB.nil _ _ _, rfl, (fun s hs => by cases hs), (Below.refl _ _).alloc (Nat.le_refl _) _, Nat.le_refl _⟩
theorem ulen (h : Tq w TB lab A k C us bs x) : us.length = k := by rw [h.top.len, h.len]
theorem own (h : Tq w TB lab A k C us bs x) : x.ownsRow (TB + 1) 40 1 (.slice A k C) k us := by
  have := h.top.top
  rw [h.ulen] at this
  exact this
/-- one block more -/
theorem push (h : Tq w TB lab A k C us bs x) (j : Nat) {b : Nat} (hb : b < 256) {A' : Option Addr} {C' : Nat}
    (hown : y.ownsRow (TB + 1) 40 1 (.slice A' (k + 1) C') (k + 1) (us ++ [.slice (some ⟨x.heap.size, 0, none⟩) 79 79]))
    (hg : ((x.alloc (.cells ((madeCells #[.int .u8 0] 79).setIfInBounds j (.int .u8 (b : Int))) 5)).alloc (.cells #[.slice (some ⟨x.heap.size, 0, none⟩) 79 79] 40)).grownBy y (Value.slice A k C).ownBlock) :
    y.cell? ⟨TB, 2, none⟩ = some (.slice A k C) ∧ y.frozen? ⟨TB, 2, none⟩ = false ∧ Tq w TB lab A' (k + 1) C' (us ++ [.slice (some ⟨x.heap.size, 0, none⟩) 79 79]) (bs ++ [blk79 j b]) (y.setCell ⟨TB, 2, none⟩ (.slice A' (k + 1) C')) := by
  have hlt := heap_lt h.blk
  obtain ⟨x1, hx1⟩ : ∃ x1, x1 = x.alloc (.cells ((madeCells #[.int .u8 0] 79).setIfInBounds j (.int .u8 (b : Int))) 5) := ⟨_, rfl⟩
  have hrow := blk79_own x (B := TB + 1) hlt j hb
  rw [← hx1] at hg hrow
  have hb1 : Below x.heap.size x x1 := by rw [hx1]; exact (Below.refl _ _).alloc (Nat.le_refl _) _
  obtain ⟨x2, hx2⟩ : ∃ x2, x2 = x1.alloc (.cells #[.slice (some ⟨x.heap.size, 0, none⟩) 79 79] 40) := ⟨_, rfl⟩
  rw [← hx2] at hg
  have hb2 : Below x1.heap.size x1 x2 := by rw [hx2]; exact (Below.refl _ _).alloc (Nat.le_refl _) _
  have hbx := hb1.trans (hb2.mono hb1.size)
  have hrow2 : OwnL x2 (TB + 1) (.slice (some ⟨x.heap.size, 0, none⟩) 79 79) (blk79 j b) := hrow.of_block fun k e => hb2.block k (hrow.lt k e)
  have hne : some TB ≠ (Value.slice A k C).ownBlock := fun e => by have := (World.ownsRow.lt h.own TB e.symm).1; omega
  have hTB : y.heap[TB]? = some (tapeObj lab 20 A k C false) := ((hg.block TB (Nat.lt_of_lt_of_le hlt hbx.size) hne).trans (hbx.block TB hlt)).trans h.blk
  have hT := h.top.push (w' := y) hbx hrow2 (fun k e => by cases e; exact Nat.le_refl _) (fun k e => by cases e; exact hlt) (by rw [h.ulen]; exact hown) hg
  have hbl : Below w.heap.size w y := (h.bel.trans (hbx.mono h.bel.size)).grown hg (h.bel.trans (hbx.mono h.bel.size)).size fun k e => by have := (World.ownsRow.lt h.own k e).1; have := h.lo; omega
  have hk : Kp (· = TB) y (y.setCell ⟨TB, 2, none⟩ (.slice A' (k + 1) C')) := Kp.store _ _ _ _
  have hno : ∀ {k : Nat} {c : Array Value} {t : TypeId}, t ≠ 39 → k = TB → y.heap[k]? ≠ some (.cells c t (0, 0)) := fun {k c t} hty e hk' => by
    subst e
    rw [hTB] at hk'
    injection hk' with hk'
    injection hk' with _ e2
    exact hty e2.symm
  refine ⟨heap_cell hTB, heap_frozen hTB, ⟨heap_set hTB _, hT.kpT hk (fun k c e => hno (by decide) e) (fun k c e => hno (by decide) e), by rw [List.length_append, ← h.len]; rfl, fun s hs => ?_, hbl.trans (hk.below hbl.size fun k e => by have := h.lo; omega), h.lo⟩⟩
  rcases List.mem_append.1 hs with hs | hs
  · exact h.all s hs
  · rw [List.mem_singleton.1 hs]; exact blk79_len _ _
end Tq
/-- a row of such tapes -/
structure Lay (w : World) (v : Value) (tvs : List Tv) (ts : List St.T) (x : World) : Prop where
  own : encT.Own x w.heap.size 39 v tvs
  len : tvs.length = ts.length
  eq : ∀ i (hi : i < tvs.length) (hi' : i < ts.length), tvs[i].label = ts[i].label ∧ tvs[i].cap = ts[i].cap ∧ tvs[i].n = ts[i].blocks.length ∧ tvs[i].lost = ts[i].lost ∧ RdB x tvs[i].A ts[i].blocks (fun b => b < x.heap.size ∧ v.ownBlock ≠ some b)
  good : ∀ t ∈ ts, t.lost = false ∧ t.blocks.length ≤ 7 ∧ ∀ s ∈ t.blocks, s.length = 79
  bel : Below w.heap.size w x
namespace Lay
variable {w x y : World} {v : Value} {tvs : List Tv} {ts : List St.T}
theorem start (w : World) : Lay w (.slice none 0 0) [] [] w :=
  ⟨Enc.Own.nil _ _ _, rfl, fun i hi => absurd hi (by simp), (fun t ht => by cases ht), Below.refl _ _⟩
theorem old (h : Lay w v tvs ts x) (hb : Below x.heap.size x y) : Lay w v tvs ts y :=
  ⟨h.own.old hb, h.len, fun i hi hi' => by
    obtain ⟨a, b, c, d, e⟩ := h.eq i hi hi'
    exact ⟨a, b, c, d, (e.old hb).mono fun k hk => ⟨Nat.lt_of_lt_of_le hk.1 hb.size, hk.2⟩⟩, h.good, h.bel.trans (hb.mono h.bel.size)⟩
/-- a tape that was built is appended -/
theorem push (h : Lay w v tvs ts x) {TB k C : Nat} {lab : Int} {A : Option Addr} {us : List Value} {bs : List Tx} {x1 : World} (ht : Tq x TB lab A k C us bs x1) (hk : k ≤ 7) {g cap : Nat}
    (hown : y.ownsRow w.heap.size 39 4 (.slice (some ⟨g, 0, none⟩) (tvs.length + 1) cap) (tvs.length + 1) (encT.cells tvs ++ [.int .i64 lab, .int .i64 20, .slice A k C, .bool false]))
    (hg : (x1.alloc (.cells #[.int .i64 lab, .int .i64 20, .slice A k C, .bool false] 39)).grownBy y v.ownBlock) (hat : v.ownBlock = some g ∨ g = x1.heap.size + 1) :
    Lay w (.slice (some ⟨g, 0, none⟩) (tvs.length + 1) cap) (tvs ++ [⟨lab, 20, A, k, C, false⟩]) (ts ++ [⟨lab, 20, bs, false⟩]) y := by
  have h1 := h.old ht.bel
  obtain ⟨x2, hx2⟩ : ∃ x2, x2 = x1.alloc (.cells #[.int .i64 lab, .int .i64 20, .slice A k C, .bool false] 39) := ⟨_, rfl⟩
  rw [← hx2] at hg
  have hb2 : Below x1.heap.size x1 x2 := by rw [hx2]; exact (Below.refl _ _).alloc (Nat.le_refl _) _
  have hs2 : x2.heap.size = x1.heap.size + 1 := by rw [hx2]; simp
  -- what lies in other blocks than the row's is as it was
  have keep : ∀ {A' : Option Addr} {l : List Tx}, RdB x1 A' l (fun b => b < x1.heap.size ∧ v.ownBlock ≠ some b) → RdB y A' l (fun b => b < y.heap.size ∧ (Value.slice (some ⟨g, 0, none⟩) (tvs.length + 1) cap).ownBlock ≠ some b) := fun {A' l} hr => by
    refine (hr.keep fun p u hp hc => ?_).mono fun b hb => ⟨Nat.lt_of_lt_of_le hb.1 (Nat.le_trans hb2.size hg.size), fun e => ?_⟩
    · exact (World.cell?_of_block ((hg.block p.block (Nat.lt_of_lt_of_le hp.1 hb2.size) (fun e => hp.2 e.symm)).trans (hb2.block p.block hp.1))).trans hc
    · cases e
      rcases hat with e | e
      · exact hb.2 e
      · have h9 : g < x1.heap.size := hb.1
        omega
  have hblow : Below w.heap.size w y := (h1.bel.trans (hb2.mono h1.bel.size)).grown hg (h1.bel.trans (hb2.mono h1.bel.size)).size fun k e => (h1.own.lt k e).1
  refine ⟨?_, by simp [h.len], fun i hi hi' => ?_, fun t htm => ?_, hblow⟩
  · unfold Enc.Own
    rw [Enc.cells_append, Enc.cells_one, List.length_append]
    exact hown
  · rcases Nat.lt_or_ge i tvs.length with hl | hl
    · have hl' : i < ts.length := by rw [← h.len]; exact hl
      rw [List.getElem_append_left hl, List.getElem_append_left hl']
      obtain ⟨a, b, c, d, e⟩ := h1.eq i hl hl'
      exact ⟨a, b, c, d, keep e⟩
    · have hi0 : i = tvs.length := by simp at hi; omega
      subst hi0
      have e2 : (ts ++ [⟨lab, 20, bs, false⟩])[tvs.length] = (⟨lab, 20, bs, false⟩ : St.T) := by simp [h.len]
      rw [e2]
      simp only [List.getElem_concat_length]
      refine ⟨trivial, trivial, ht.len, trivial, keep ?_⟩
      have hr := ht.top.rdB
      refine hr.in_.mono fun b hb => ⟨hb.2, fun e => ?_⟩
      have h2 := (h.own.lt b e).2
      have h3 := ht.lo
      have h4 := hb.1
      omega
  · rcases List.mem_append.1 htm with hs | hs
    · exact h.good t hs
    · rw [List.mem_singleton.1 hs]
      exact ⟨rfl, by show bs.length ≤ 7; rw [← ht.len]; exact hk, ht.all⟩
/-- as what reads -/
theorem rd (h : Lay w v tvs ts x) : ∃ A C, v = .slice A ts.length C ∧ RdT x A ts (fun _ => True) := by
  obtain ⟨A, C, e, -, -, -, hr⟩ := h.own.rd
  refine ⟨A, C, by rw [e, h.len], RdT.of_rows (hr.mono fun _ _ => trivial) h.len fun i hi hi' => ?_⟩
  obtain ⟨a, b, c, d, e⟩ := h.eq i hi hi'
  exact ⟨a, b, c, d, e.mono fun _ _ => trivial⟩
end Lay
theorem St.whole_of {ts : List St.T} (h : ∀ t ∈ ts, t.lost = false ∧ t.blocks.length ≤ 7 ∧ ∀ s ∈ t.blocks, s.length = 79) : St.len ts ≤ 7 ∧ ∀ n : Nat, ∀ t ∈ ts, St.blk (n : Int) t ≠ [] := by
  refine ⟨St.len_le fun t ht => (h t ht).2.1, fun n t ht e => ?_⟩
  obtain ⟨h1, h2, h3⟩ := h t ht
  by_cases hn : n < t.blocks.length
  · have h4 := h3 _ (List.getElem_mem hn)
    rw [St.blk_some h1 hn h4] at e
    rw [e] at h4; cases h4
  · rw [St.blk_none (.inr (.inr (by omega)))] at e
    have := St.zeros_len
    rw [e] at this; cases this
end Go.Proofs.Ytcmdggdionghcaa
namespace Go.Proofs.Ytcmdggdionghcaa
open Go.RowKit Mx

set_option maxHeartbeats 1000000 in
theorem refRight_any (A : Option Addr) (n C : Nat) (L : Nat → Nat) (M : Mat) (G : Nat → Prop) (w : World) (hm : n ≤ maxLen) (h : RdM w A n L M G) :
    Calls Try.prog 32 #[.slice A n C] w fun e w' => e = .returned (.bool (rightB n L)) ∧ Below w.heap.size w w' := by
  unfold maxLen at hm
  by_cases h1 : 1 ≤ n ∧ n ≤ 255
  · obtain ⟨h1, h2⟩ := h1
    obtain ⟨b, off, A0, C0, rfl, _, hc0, _⟩ := h.row (i := 0) (by omega)
    rw [Nat.add_zero] at hc0
    have H := Lib.hid h
    clear h
    by_cases h3 : 1 ≤ L 0 ∧ L 0 ≤ 255
    · obtain ⟨h3, h4⟩ := h3
      go_enter Try.func32, Try.ntmps32
      go_wp2
      go_loopw [3] (fun vi wr => ∃ k : Nat, 1 ≤ k ∧ k ≤ n ∧ vi = .int .i64 (k : Int) ∧ Hid (∀ i, i < k → L i = L 0) ∧ Hid (Below w.heap.size w wr)) (fun vi _ => n - (intOf vi).toNat)
      case atStart => exact ⟨1, by omega, by omega, rfl, Lib.hid (fun i hi => by rw [show i = 0 by omega]), Lib.hid (Below.refl _ _)⟩
      case round =>
        obtain ⟨k, hk0, hk, rfl, HL, HB⟩ := hrel
        by_cases hlt : k < n
        · obtain ⟨b', off', Ak, Ck, e, _, hck, _⟩ := (H.out.old HB.out).row hlt
          obtain ⟨rfl, rfl⟩ : b = b' ∧ off = off' := by simpa using e
          clear e
          have hd0 : wr.cell? ⟨b, off, none⟩ = some (.slice A0 (L 0) C0) := (HB.out.cell (World.block_lt_of_cell? _ _ hc0)).trans hc0
          clear hc0
          by_cases he : L k = L 0
          · have hb : ((L k : Int) != (L 0 : Int)) = false := by rw [he]; simp
            have HE := Lib.hid he
            clear he
            go_wp2
            go_quiet (fail)
            go_wp2
            go_roundw
            case rel => exact ⟨k + 1, by omega, by omega, by go_num, Lib.hid (fun i hi => by
              by_cases e : i = k
              · rw [e]; exact HE.out
              · exact HL.out i (by omega)), Lib.hid ⟨HB.out.os, HB.out.tape, HB.out.output, HB.out.size, HB.out.block⟩⟩
            case measure => simp [intOf]; omega
          · have hb : ((L k : Int) != (L 0 : Int)) = true := by rw [bne_iff_ne]; omega
            have HF := Lib.hid (rightB_false (n := n) (L := L) (fun h => he (h.2.2.2.2 k hlt)))
            clear he
            go_wp2
            go_quiet (fail)
            go_wp2
            go_ret
            exact ⟨ret_bool HF.out.symm, HB.out.os, HB.out.tape, HB.out.output, HB.out.size, HB.out.block⟩
        · have HF := Lib.hid (rightB_true (n := n) (L := L) |>.2 ⟨h1, h2, h3, h4, fun i hi => HL.out i (by omega)⟩)
          go_wp2
          go_ret
          exact ⟨ret_bool HF.out.symm, HB.out⟩
    · have HF := Lib.hid (rightB_false (n := n) (L := L) (fun h => h3 ⟨h.2.2.1, h.2.2.2.1⟩))
      rcases (show L 0 < 1 ∨ 255 < L 0 by omega) with h5 | h5
      all_goals
        clear h3
        go_enter Try.func32, Try.ntmps32
        go_wp2
        go_ret
        exact ⟨ret_bool HF.out.symm, Below.refl _ _⟩
  · have HF := Lib.hid (rightB_false (n := n) (L := L) (fun h => h1 ⟨h.1, h.2.1⟩))
    clear h
    rcases (show n < 1 ∨ 255 < n by omega) with h5 | h5
    all_goals
      clear h1
      go_enter Try.func32, Try.ntmps32
      go_wp2
      go_ret
      exact ⟨ret_bool HF.out.symm, Below.refl _ _⟩

theorem refRight_is (A : Option Addr) (n C : Nat) (L : Nat → Nat) (M : Mat) (G : Nat → Prop) (w : World) (r : Bool) (hm : n ≤ maxLen) (h : RdM w A n L M G) (hr : rightB n L = r) :
    Calls Try.prog 32 #[.slice A n C] w fun e w' => e = .returned (.bool r) ∧ Below w.heap.size w w' := hr ▸ refRight_any A n C L M G w hm h
end Go.Proofs.Ytcmdggdionghcaa
namespace Go.Proofs.Ytcmdggdionghcaa
open Go.RowKit Mx

set_option maxRecDepth 100000 in
set_option maxHeartbeats 8000000 in
theorem refInverse_main (A : Option Addr) (n C : Nat) (M : Mat) (G0 : Nat → Prop) (w : World) (hn0 : 0 < n) (hn : n ≤ 255) (h : RdM w A n (fun _ => n) M G0) :
    Calls Try.prog 23 #[.slice A n C] w (InvRes n M w) := by
  have hR : rightB n (fun _ => n) = true := rightB_true.2 ⟨hn0, hn, hn0, hn, fun _ _ => rfl⟩
  have H0 := Lib.hid h
  have HR := Lib.hid hR
  obtain ⟨m, hm⟩ : ∃ m, n + n = m := ⟨_, rfl⟩
  have HM := Lib.hid hm
  have hm1 : m ≤ 2 * n := by omega
  have hm2 : 2 * n ≤ m := by omega
  clear h hR hm
  go_enter Try.func23, Try.ntmps23
  go_wp2_with fail
  refine (refRight_is _ n C _ M _ _ true (by unfold maxLen; omega) H0.out HR.out).mono ?_
  rintro e w1 ⟨rfl, hB0⟩
  obtain ⟨b0, off0, A0, C0, rfl, _, hc0, _⟩ := (H0.out.old hB0).row hn0
  rw [Nat.add_zero] at hc0
  have H := Lib.hid (H0.out.old hB0).in_
  have HB0 := Lib.hid hB0
  clear hB0 H0
  go_wp2
  clear hc0 HR
  go_loopw [6, 5] (fun vi va wr => ∃ i : Nat, i ≤ n ∧ vi = .int .i64 (i : Int) ∧ Hid (∃ G C, OwnA wr w1.heap.size va i m G C (aug n M one)) ∧ Hid (Below w1.heap.size w1 wr)) (fun vi _ _ => n - (intOf vi).toNat)
  case atStart => exact ⟨0, by omega, rfl, Lib.hid ⟨fun _ => 0, fun _ => 0, OwnA.start _ _ _ _ _ _⟩, Lib.hid (Below.refl _ _)⟩
  case round =>
    obtain ⟨i, hi, rfl, HO, HB⟩ := hrel
    obtain ⟨G1, Cp1, hO⟩ := HO.out
    have HO' := Lib.hid hO
    clear hO HO
    obtain ⟨wo, rfl⟩ : ∃ x, x = wr := ⟨wr, rfl⟩
    by_cases hlt : i < n
    · obtain ⟨b2, off2, Ai, Ci, e, _, d0, hri⟩ := (H.out.below HB.out).row hlt
      obtain ⟨rfl, rfl⟩ : b0 = b2 ∧ off0 = off2 := by simpa using e
      obtain ⟨b3, off3, rfl, _, hcell⟩ := hri hn0
      have HC := Lib.hid hcell
      clear e hri hcell
      obtain ⟨i0, hi0, hz0, hz1, hz2⟩ := info_parts infoByte
      have hnil := World.ownsRow_nil wo wo.heap.size 5 1
      go_wp2_with (at_builtin; refine wpList_append_own _ rfl _ _ 40 rfl wo.heap.size 5 i0 (.int .u8 0) 1 1 Try.underlying40 hi0 hz0 hz1 hz2 rfl (by decide) _ _ _ rfl hnil ⟨b3, off3, none⟩ n Ci (cellsOf n (M i)) rfl (by rw [cellsOf_len, Nat.mul_one]) (Rd.cells HC.out) cellsOf_one (by unfold maxLen; omega) (by omega) (Nat.le_refl _) ?_)
      intro v1 wa hown1 hgrow1 _
      have HB1 := Lib.hid ((Below.refl wo.heap.size wo).grown hgrow1 (Nat.le_refl _) (fun x hx => by simp [Value.ownBlock] at hx))
      have HW1 := Lib.hid hown1
      have hlow1 : wo.heap.size ≤ wa.heap.size := HB1.out.size
      clear hown1 hgrow1 hnil HC
      have hown2 := HW1.out
      go_wp2_with (at_builtin; refine wpList_append_zeros _ rfl _ _ 40 3 rfl wo.heap.size 5 i0 (.int .u8 0) .i64 .i64 Try.underlying40 Try.underlying3 hi0 hz0 hz1 rfl rfl _ n (cellsOf n (M i)) rfl hown2 hn0 n rfl hn0 (by unfold maxLen; omega) (by rw [hz2]; omega) hlow1 ?_)
      intro v2 wb hown3 hgrow2
      have hB2 := HB1.out.grown hgrow2 hlow1 (fun x hx => (HW1.out.lt x hx).1)
      rw [cellsOf_zeros n m HM.out, HM.out] at hown3
      obtain ⟨g, c, rfl, hg, hc, hr⟩ := RowAt.of_owns hown3 (by omega)
      have HB2 := Lib.hid hB2
      have HRW := Lib.hid hr
      clear hown3 hgrow2 hB2 hown2 HW1 hr HB1
      have d1 := HRW.out.cell (show n + i < m by omega)
      have f1 := HRW.out.frozen (n + i)
      have s1 : ((n : Int) + (i : Int)).toNat = n + i := by omega
      have s2 : (n : Int) + (i : Int) < (m : Int) := by omega
      have s3 : (0 : Int) ≤ (n : Int) + (i : Int) := by omega
      have HRW2 : Hid (RowAt (wb.setCell ⟨g, n + i, none⟩ (.int .u8 1)) g m (aug n M one i)) := Lib.hid ((HRW.out.set (n + i) 1).congr (aug_row M))
      have HB3 := Lib.hid (HB2.out.setCell (p := ⟨g, n + i, none⟩) hg (.int .u8 1))
      have HA := Lib.hid (HO'.out.old HB3.out)
      have HX := Lib.hid (HB.out.trans (HB3.out.mono HB.out.size))
      obtain ⟨i1, hj0, hy0, hy1, hy2⟩ := info_parts infoRow
      have hown := HA.out.top
      have hlow : w1.heap.size ≤ wb.heap.size := by have := HX.out.size; simpa using this
      go_wp2_with (at_builtin; refine wpList_append_own _ rfl _ _ 34 rfl w1.heap.size 40 i1 (.slice none 0 0) 1 24 Try.underlying34 hj0 hy0 hy1 hy2 rfl (by decide) _ _ _ rfl (hown.alloc _) ⟨wb.heap.size, 0, none⟩ 1 1 [.slice (some ⟨g, 0, none⟩) m c] rfl rfl (oneCellAt _ _ _ _ (by simp)) (oneSlice _ _ _) (by unfold maxLen; omega) (by omega) (by simp; omega) ?_)
      intro v' w3 hown' hgrow _
      have HP := Lib.hid (HA.out.push hgrow hown' HRW2.out (fun r hr => by have := (HO'.out.rows r hr).lt; omega) (Nat.le_trans HB.out.size hg) hc)
      have HB5 := Lib.hid ((HX.out.alloc (by simpa using hlow) _).grown hgrow (by simp; omega) (fun x hx => (HA.out.top.lt x hx).1))
      clear hown' hgrow hown d1 f1 s1 s2 s3
      go_wp2
      go_roundw
      case rel => exact ⟨i + 1, by omega, by go_num, Lib.hid ⟨_, _, HP.out.congr (M' := aug n M one) fun r _ c _ => by by_cases e : r = i <;> simp [e]⟩, HB5⟩
      case measure => simp [intOf]; omega
    · obtain rfl : i = n := by omega
      obtain ⟨b, cp, rfl, hb, _, hK⟩ := HO'.out.own hn0
      have HK := Lib.hid hK
      have HLb := Lib.hid hb
      clear hK hb HO'
      go_wp2
      go_loopw [8] (fun vc wr => ∃ c : Nat, c ≤ i ∧ vc = .int .i64 (c : Int) ∧ Hid (∃ G C R V, OwnK wr w1.heap.size b i i m G C (aug i R V) ∧ gjs i M c = some (R, V)) ∧ Hid (Below w1.heap.size w1 wr)) (fun vc _ => i - (intOf vc).toNat)
      case atStart => exact ⟨0, by omega, rfl, Lib.hid ⟨_, _, _, _, HK.out, rfl⟩, HB⟩
      case round =>
        obtain ⟨c, hc, rfl, HX, HB2⟩ := hrel
        clear HK HB
        obtain ⟨G2, C2, R, V, hO, hgj⟩ := HX.out
        have HO := Lib.hid hO
        have HG := Lib.hid hgj
        clear hO hgj HX
        obtain ⟨wc, rfl⟩ : ∃ x, x = wr := ⟨wr, rfl⟩
        by_cases hlt : c < i
        · go_wp2
          go_loop [9] (fun vp => ∃ p : Nat, c ≤ p ∧ p ≤ i ∧ vp = .int .i64 (p : Int) ∧ Hid (pvt R c (i - c) c = pvt R c (i - p) p)) (fun vp => i - (intOf vp).toNat)
          case atStart => exact ⟨c, by omega, by omega, rfl, Lib.hid rfl⟩
          case round =>
            obtain ⟨p, hcp, hpi, rfl, HP⟩ := hrel
            by_cases hpn : p < i
            · have d1 := HO.out.top.cell hpn
              rw [if_pos hpn] at d1
              have d2 := (HO.out.rows p hpn).cell (show c < m by omega)
              rw [aug_lo hlt] at d2
              by_cases he : R p c = 0
              · have hb : (fi (R p c) == 0) = true := by rw [he]; rfl
                have HN : Hid (pvt R c (i - c) c = pvt R c (i - (p + 1)) (p + 1)) := Lib.hid (HP.out.trans (by rw [show i - p = (i - (p + 1)) + 1 by omega]; exact pvt_next he))
                clear he HP
                go_wp2
                go_round
                case rel => exact ⟨p + 1, by omega, by omega, by go_num, HN⟩
                case measure => simp [intOf]; omega
              · have hb : (fi (R p c) == 0) = false := beq_eq_false_iff_ne.2 fun h => he (fi_eq_zero.1 h)
                have HN : Hid (pvt R c (i - c) c = p) := Lib.hid (HP.out.trans (by rw [show i - p = (i - (p + 1)) + 1 by omega]; exact pvt_here he))
                clear he HP
                have hpe : ((p : Int) == (i : Int)) = false := beq_eq_false_iff_ne.2 (by omega)
                have d3 := HO.out.top.cell hlt
                rw [if_pos hlt] at d3
                have f1 := HO.out.top.frozen p
                have HKs := Lib.hid (Kp.store wc b p (.slice (some ⟨G2 c, 0, none⟩) m (C2 c)))
                have HT1 := Lib.hid (HO.out.top.set p (.slice (some ⟨G2 c, 0, none⟩) m (C2 c)))
                have HR1 : Hid (∀ r, r < i → RowAt (wc.setCell ⟨b, p, none⟩ (.slice (some ⟨G2 c, 0, none⟩) m (C2 c))) (G2 r) m (aug i R V r)) := Lib.hid fun r hr => (HO.out.rows r hr).kp HKs.out (HO.out.ne hr)
                have HB3 := Lib.hid (HB2.out.setCell (p := ⟨b, p, none⟩) HLb.out (.slice (some ⟨G2 c, 0, none⟩) m (C2 c)))
                have d4 := (HR1.out p hpn).cell (show c < m by omega)
                rw [aug_lo hlt] at d4
                go_wp2_with fail
                refine (refInv_fe _ _).mono ?_
                rintro e w' ⟨rfl, rfl⟩
                go_wp2
                generalize wc.setCell ⟨b, p, none⟩ (.slice (some ⟨G2 c, 0, none⟩) m (C2 c)) = wd at HKs HT1 HR1 HB3 d4 ⊢
                clear d1 d2 d3 d4 f1
                go_loopw [12] (fun vk wq => ∃ k : Nat, k ≤ m ∧ vk = .int .i64 (k : Int) ∧ Hid (RowAt wq (G2 p) m (fun x => if x < k then aug i R V p x * inv (R p c) else aug i R V p x)) ∧ Hid (Kp (· = G2 p) wd wq)) (fun vk _ => m - (intOf vk).toNat)
                case atStart => exact ⟨0, by omega, rfl, Lib.hid ((HR1.out p hpn).congr fun x _ => (if_neg (by omega)).symm), Lib.hid (Kp.refl _ _)⟩
                case round =>
                  obtain ⟨k, hk, rfl, H1, HK⟩ := hrel
                  by_cases hkm : k < m
                  · have d1 := H1.out.cell hkm
                    rw [if_neg (by omega)] at d1
                    have f1 := H1.out.frozen k
                    have s1 : (k : Int) < 2 * (i : Int) := by omega
                    go_wp2_with (go_at_call 24; refine (refMul_fe _ _ _).mono ?_; rintro e w' ⟨rfl, rfl⟩)
                    go_roundw
                    case rel => exact ⟨k + 1, by omega, by go_num, Lib.hid ((H1.out.set k (aug i R V p k * inv (R p c))).congr fun j _ => upTo_step (h := fun j => aug i R V p j * inv (R p c))), Lib.hid ((HK.out).setCell (p := ⟨G2 p, k, none⟩) rfl _)⟩
                    case measure => simp [intOf]; omega
                  · have s1 : ¬ (k : Int) < 2 * (i : Int) := by omega
                    have hT2 := HT1.out.kp HK.out (fun e => HO.out.ne hpn e.symm)
                    have d1 := hT2.cell hlt
                    have f1 := hT2.frozen c
                    have HT2 := Lib.hid (hT2.set c (.slice (some ⟨G2 p, 0, none⟩) m (C2 p)))
                    have HKs2 := Lib.hid (Kp.store wr b c (.slice (some ⟨G2 p, 0, none⟩) m (C2 p)))
                    have HRs : Hid (∀ r, r < i → RowAt (wr.setCell ⟨b, c, none⟩ (.slice (some ⟨G2 p, 0, none⟩) m (C2 p))) (G2 r) m ((fun r => if r = p then (fun x => inv (R p c) * aug i R V p x) else aug i R V r) r)) := Lib.hid fun r hr => by
                      by_cases e : r = p
                      · rw [e]
                        simp only [if_true]
                        exact (H1.out.congr fun x hx => by rw [if_pos (by omega), mul_comm]).kp HKs2.out (HO.out.ne hpn)
                      · simp only [if_neg e]
                        exact ((HR1.out r hr).kp HK.out (fun e' => e (HO.out.inj r p hr hpn e'))).kp HKs2.out (HO.out.ne hr)
                    have hSW := HO.out.swap hlt hpn HRs.out (HT2.out.congr fun r hr => by
                      by_cases e1 : r = c <;> by_cases e2 : r = p
                      · simp only [if_pos e1]
                      · simp only [if_pos e1]
                      · simp only [if_neg e1, if_pos e2]
                      · simp only [if_neg e1, if_neg e2, if_pos hr])
                    rw [swp_scl] at hSW
                    have hB4 : Below w1.heap.size w1 (wr.setCell ⟨b, c, none⟩ (.slice (some ⟨G2 p, 0, none⟩) m (C2 p))) := (HB3.out.trans (HK.out.below HB3.out.size (fun x hx => by rw [hx]; exact HO.out.lo p hpn))).setCell (p := ⟨b, c, none⟩) HLb.out _
                    obtain ⟨A2, hA2⟩ : ∃ a, a = scl (swp (aug i R V) c p) c (inv (R p c)) := ⟨_, rfl⟩
                    have HE : Hid (aug i (rnd R R c p) (rnd R V c p) = elm A2 c (fun r => A2 r c)) := by
                      rw [← aug_rnd hlt]
                      unfold rnd facs scaleOf
                      rw [aug_lo hlt, ← hA2]
                      exact Lib.hid rfl
                    have HG4 : Hid (gjs i M (c + 1) = some (rnd R R c p, rnd R V c p)) := by
                      have hg := HG.out
                      have hp := HN.out
                      simp only [gjs, hg]
                      rw [hp, if_pos hpn]
                      exact Lib.hid rfl
                    rw [← hA2] at hSW
                    obtain ⟨G3, hG3⟩ : ∃ g, g = (fun r => if r = c then G2 p else if r = p then G2 c else G2 r) := ⟨_, rfl⟩
                    obtain ⟨C3, hC3⟩ : ∃ g, g = (fun r => if r = c then C2 p else if r = p then C2 c else C2 r) := ⟨_, rfl⟩
                    rw [← hG3, ← hC3] at hSW
                    have HGc : Hid (G3 c = G2 p) := by rw [hG3]; exact Lib.hid (if_pos rfl)
                    have HSW := Lib.hid hSW
                    have HB4 := Lib.hid hB4
                    clear hA2 hG3 hC3 hSW hB4 hT2 HT2 HKs2 HRs H1 HK HT1 HR1 HKs HB3 HO HG HN
                    go_wp2
                    generalize wr.setCell ⟨b, c, none⟩ (.slice (some ⟨G2 p, 0, none⟩) m (C2 p)) = wf at HSW HB4 ⊢
                    clear d1 f1 s1
                    go_loopw [13] (fun vr wq => ∃ r : Nat, r ≤ i ∧ vr = .int .i64 (r : Int) ∧ Hid (OwnK wq w1.heap.size b i i m G3 C3 (elmK r A2 c (fun r => A2 r c))) ∧ Hid (Below w1.heap.size w1 wq)) (fun vr _ => i - (intOf vr).toNat)
                    case atStart => exact ⟨0, by omega, rfl, Lib.hid (by rw [elmK_zero]; exact HSW.out), HB4⟩
                    case round =>
                      obtain ⟨r, hr, rfl, HO2, HB5⟩ := hrel
                      clear HSW HB4
                      by_cases hri : r < i
                      · have d1 := HO2.out.top.cell hri
                        rw [if_pos hri] at d1
                        have d2 := (HO2.out.rows r hri).cell (show c < m by omega)
                        rw [elmK_here] at d2
                        by_cases hact : r ≠ c ∧ A2 r c ≠ 0
                        · obtain ⟨hrc, hne⟩ := hact
                          have b1 : ((r : Int) != (c : Int)) = true := by rw [bne_iff_ne]; omega
                          have b2 : (fi (A2 r c) != 0) = true := by rw [bne_iff_ne]; exact fun h => hne (fi_eq_zero.1 h)
                          clear hrc hne
                          have hrc : r ≠ c := by rw [bne_iff_ne] at b1; omega
                          go_wp2
                          clear d1 d2
                          go_loopw [15] (fun vk wq => ∃ k : Nat, k ≤ m ∧ vk = .int .i64 (k : Int) ∧ Hid (OwnK wq w1.heap.size b i i m G3 C3 (fun x => if x = r then (fun y => if y < k then A2 r y + A2 r c * A2 c y else A2 r y) else elmK r A2 c (fun r => A2 r c) x)) ∧ Hid (Below w1.heap.size w1 wq)) (fun vk _ => m - (intOf vk).toNat)
                          case atStart => exact ⟨0, by omega, rfl, Lib.hid (HO2.out.congr fun x _ y _ => by
                            by_cases e : x = r
                            · rw [if_pos e, if_neg (by omega), e, elmK_here]
                            · rw [if_neg e]), HB5⟩
                          case round =>
                            obtain ⟨k2, hk2, rfl, HO4, HB6⟩ := hrel
                            clear HO2 HB5
                            by_cases hkm2 : k2 < m
                            · have s1 : (k2 : Int) < 2 * (i : Int) := by omega
                              have d1 := HO4.out.top.cell hri
                              rw [if_pos hri] at d1
                              have hrow := HO4.out.rows r hri
                              rw [if_pos rfl] at hrow
                              have d2 := hrow.cell hkm2
                              rw [if_neg (by omega)] at d2
                              have f2 := hrow.frozen k2
                              have hrow2 := HO4.out.rows c hlt
                              rw [if_neg (fun e => hrc e.symm), elmK_self, HGc.out] at hrow2
                              have d3 := hrow2.cell hkm2
                              have HRW := Lib.hid hrow
                              have HXO := Lib.hid (xor_fi (A2 r k2) (A2 r c * A2 c k2))
                              clear hrow hrow2
                              go_wp2
                              refine wp_region_still_tail 20 (by kernel_rfl) (by kernel_rfl) ?_
                              simp only [List.take_succ_cons, List.take_zero, List.drop_succ_cons, List.drop_zero]
                              repeat (first | still_step | still_call (refMul_st _ _ _))
                              refine wpStill_nil ?_
                              rw [HXO.out]
                              change wpList _ _ _ _ _ wr.drew
                              go_wp2
                              go_roundw
                              case rel =>
                                refine ⟨k2 + 1, by omega, by go_num, Lib.hid ((HO4.out.drew.turn (i := r) hri (Kp.store wr.drew (G3 r) k2 (.int .u8 (fi (A2 r k2 + A2 r c * A2 c k2)))) (HRW.out.set k2 (A2 r k2 + A2 r c * A2 c k2))).congr fun x _ y _ => ?_), Lib.hid ((HB6.out.drew).setCell (p := ⟨G3 r, k2, none⟩) (HO4.out.lo r hri) _)⟩
                                by_cases e : x = r
                                · rw [if_pos e, if_pos e]
                                  exact upTo_step (f := A2 r) (h := fun y => A2 r y + A2 r c * A2 c y)
                                · rw [if_neg e, if_neg e, if_neg e]
                              case measure => simp [intOf]; omega
                            · have s1 : ¬ (k2 : Int) < 2 * (i : Int) := by omega
                              have HO5 : Hid (OwnK wr w1.heap.size b i i m G3 C3 (elmK (r + 1) A2 c (fun r => A2 r c))) := Lib.hid (HO4.out.congr fun x _ y hy => by
                                rw [← elmK_step A2 hrc (fun r => A2 r c) rfl]
                                by_cases e : x = r
                                · simp only [if_pos e, if_pos (show y < k2 by omega)]
                                · simp only [if_neg e])
                              clear HO4
                              go_wp2
                              go_roundw
                              case rel => exact ⟨r + 1, by omega, by go_num, HO5, HB6⟩
                              case measure => simp [intOf]; omega
                        · have HO3 : Hid (OwnK wr w1.heap.size b i i m G3 C3 (elmK (r + 1) A2 c (fun r => A2 r c))) := Lib.hid (HO2.out.congr fun x _ y _ => by
                            unfold elmK
                            by_cases e : x = r
                            · rw [if_neg (by omega)]
                              by_cases e2 : x = c
                              · rw [if_neg (by omega)]
                              · have hz : A2 r c = 0 := by
                                  by_cases hz : A2 r c = 0
                                  · exact hz
                                  · exact absurd ⟨by omega, hz⟩ hact
                                rw [if_pos ⟨by omega, e2⟩]
                                simp only
                                rw [e, hz, zero_mul, add_zero]
                            · by_cases e3 : x < r ∧ x ≠ c
                              · rw [if_pos e3, if_pos ⟨by omega, e3.2⟩]
                              · rw [if_neg e3, if_neg (by omega)])
                          rcases (show ((r : Int) != (c : Int)) = false ∨ (((r : Int) != (c : Int)) = true ∧ (fi (A2 r c) != 0) = false) by
                            by_cases e : r = c
                            · left; rw [e]; simp
                            · right
                              refine ⟨by rw [bne_iff_ne]; omega, ?_⟩
                              have hz : A2 r c = 0 := by
                                by_cases hz : A2 r c = 0
                                · exact hz
                                · exact absurd ⟨e, hz⟩ hact
                              rw [hz]; rfl) with b1 | ⟨b1, b2⟩
                          all_goals
                            clear hact
                            have s0 : (0 : Int) < 2 * (i : Int) := by omega
                            go_wp2
                            clear d1 d2
                            go_loop [15] (fun vk => vk = .int .i64 0) (fun _ => 0)
                            case atStart => rfl
                            case round =>
                              subst hrel
                              go_wp2
                              go_roundw
                              case rel => exact ⟨r + 1, by omega, by go_num, HO3, HB5⟩
                              case measure => simp [intOf]; omega
                      · have HO3 : Hid (OwnK wr w1.heap.size b i i m G3 C3 (aug i (rnd R R c p) (rnd R V c p))) := by
                          rw [HE.out]
                          have hrn : r = i := by omega
                          exact Lib.hid (HO2.out.congr fun x hx y _ => by rw [hrn]; exact elmK_all _ _ _ hx y)
                        clear HO2 HE
                        go_wp2
                        go_roundw
                        case rel => exact ⟨c + 1, by omega, by go_num, Lib.hid ⟨_, _, _, _, HO3.out, HG4.out⟩, HB5⟩
                        case measure => simp [intOf]; omega
            · have HN : Hid (gjs i M i = none) := Lib.hid (gjs_left ⟨c + 1, by omega, by
                have hg := HG.out
                have hz : pvt R c (i - c) c = p := by rw [HP.out, show i - p = 0 by omega]; rfl
                simp only [gjs, hg]
                rw [hz, if_neg hpn]⟩)
              clear HP
              have hpe : ((p : Int) == (i : Int)) = true := by rw [beq_iff_eq]; omega
              go_wp2
              go_ret2
              exact InvRes.even HN.out ⟨none, 0, rfl, RdM.empty _ _ _ _ _, HB0.out.trans (HB2.out.mono HB0.out.size)⟩
        · have HG' : Hid (gjs i M i = some (R, V)) := by
            have hcn : c = i := by omega
            have hg := HG.out
            rw [hcn] at hg
            exact Lib.hid hg
          clear HG
          go_wp2
          go_loopw [17, 16] (fun vr vo wr => ∃ r : Nat, r ≤ i ∧ vr = .int .i64 (r : Int) ∧ Hid (∃ G C, OwnA wr wc.heap.size vo r i G C V) ∧ Hid (Below wc.heap.size wc wr)) (fun vr _ _ => i - (intOf vr).toNat)
          case atStart => exact ⟨0, by omega, rfl, Lib.hid ⟨fun _ => 0, fun _ => 0, OwnA.start _ _ _ _ _ _⟩, Lib.hid (Below.refl _ _)⟩
          case round =>
            obtain ⟨r, hr, rfl, HOX, HB3⟩ := hrel
            obtain ⟨G4, C4, hO4⟩ := HOX.out
            have HO4 := Lib.hid hO4
            clear hO4 HOX
            obtain ⟨wg, rfl⟩ : ∃ x, x = wr := ⟨wr, rfl⟩
            by_cases hri : r < i
            · have hK := HO.out.old HB3.out
              have d1 := hK.top.cell hri
              rw [if_pos hri] at d1
              have hrow := hK.rows r hri
              have hcell : ∀ j, j < i → wg.cell? ⟨G2 r, i + j, none⟩ = some (.int .u8 (fi (V r j))) := fun j hj => by
                rw [hrow.cell (show i + j < m by omega)]
                unfold aug
                rw [if_neg (by omega), show i + j - i = j by omega]
              have HC := Lib.hid hcell
              have hcap := HO.out.cap r hri
              have c1 : ¬ C2 r = i := by omega
              have c2 : (i : Int) ≤ (m : Int) := by omega
              have c3 : m - i = i := by omega
              clear hK hrow hcell
              obtain ⟨i0, hi0, hz0, hz1, hz2⟩ := info_parts infoByte
              have hnil := World.ownsRow_nil wg wg.heap.size 5 1
              go_wp2_with (at_builtin; refine wpList_append_own _ rfl _ _ 40 rfl wg.heap.size 5 i0 (.int .u8 0) 1 1 Try.underlying40 hi0 hz0 hz1 hz2 rfl (by decide) _ _ _ rfl hnil ⟨G2 r, i, none⟩ i _ (cellsOf i (V r)) rfl (by rw [cellsOf_len, Nat.mul_one]) (Rd.cells HC.out) cellsOf_one (by unfold maxLen; omega) (by omega) (Nat.le_refl _) ?_)
              intro v1 wa hown1 hgrow1 _
              have HB4 := Lib.hid ((Below.refl wg.heap.size wg).grown hgrow1 (Nat.le_refl _) (fun x hx => by simp [Value.ownBlock] at hx))
              obtain ⟨g, c', rfl, hg, hc', hr'⟩ := RowAt.of_owns (show wa.ownsRow wg.heap.size 5 1 v1 i (cellsOf i (V r)) by simpa using hown1) hn0
              have HRW := Lib.hid hr'
              clear hown1 hgrow1 hnil HC hr' d1 c1 c2 c3
              have HA := Lib.hid (HO4.out.old HB4.out)
              have HX := Lib.hid (HB3.out.trans (HB4.out.mono HB3.out.size))
              obtain ⟨i1, hj0, hy0, hy1, hy2⟩ := info_parts infoRow
              have hown := HA.out.top
              have hlow : wc.heap.size ≤ wa.heap.size := HX.out.size
              go_wp2_with (at_builtin; refine wpList_append_own _ rfl _ _ 34 rfl wc.heap.size 40 i1 (.slice none 0 0) 1 24 Try.underlying34 hj0 hy0 hy1 hy2 rfl (by decide) _ _ _ rfl (hown.alloc _) ⟨wa.heap.size, 0, none⟩ 1 1 [.slice (some ⟨g, 0, none⟩) i c'] rfl rfl (oneCell _ _ _) (oneSlice _ _ _) (by unfold maxLen; omega) (by omega) (by simp; omega) ?_)
              intro v' w3 hown' hgrow _
              have HP := Lib.hid (HA.out.push hgrow hown' HRW.out (fun x hx => by have := (HO4.out.rows x hx).lt; omega) (Nat.le_trans HB3.out.size hg) hc')
              have HB5 := Lib.hid ((HX.out.alloc hlow _).grown hgrow (by simp; omega) (fun x hx => (HA.out.top.lt x hx).1))
              clear hown' hgrow hown
              go_wp2
              go_roundw
              case rel => exact ⟨r + 1, by omega, by go_num, Lib.hid ⟨_, _, HP.out.congr (M' := V) fun x _ y _ => by by_cases e : x = r <;> simp [e]⟩, HB5⟩
              case measure => simp [intOf]; omega
            · obtain rfl : r = i := by omega
              obtain ⟨b5, cp5, rfl, _, _, hK⟩ := HO4.out.own hn0
              have HK5 := Lib.hid hK
              clear hK
              go_wp2
              go_ret2
              exact InvRes.ok HG'.out ⟨_, _, rfl, HK5.out.rdAll (Nat.le_refl _), HB0.out.trans ((HB2.out.trans (HB3.out.mono HB2.out.size)).mono HB0.out.size)⟩

set_option maxRecDepth 100000 in
set_option maxHeartbeats 1000000 in
theorem refInverse_any (A : Option Addr) (n C : Nat) (L : Nat → Nat) (M : Mat) (G : Nat → Prop) (w : World) (hm : n ≤ maxLen) (h : RdM w A n L M G) :
    Calls Try.prog 23 #[.slice A n C] w (InvAny n L M w) := by
  by_cases hr : rightB n L = true
  · obtain ⟨h1, h2, h3, h4, h5⟩ := rightB_true.1 hr
    by_cases he : n = L 0
    · refine (refInverse_main A n C M G w (by omega) h2 (h.congr (fun i hi => by rw [h5 i hi, he]) (fun _ _ _ _ => rfl))).mono fun e w' hh => ?_
      unfold InvAny
      rw [if_pos ⟨hr, he⟩]; exact hh
    · have hb : ((n : Int) != (L 0 : Int)) = true := by rw [bne_iff_ne]; omega
      have HN : Hid (¬ (rightB n L = true ∧ n = L 0)) := Lib.hid (fun hh => he hh.2)
      have H := Lib.hid h
      have HR := Lib.hid hr
      clear h hr he h5
      go_enter Try.func23, Try.ntmps23
      go_wp2_with fail
      refine (refRight_is _ n C L M _ _ true hm H.out HR.out).mono ?_
      rintro e w1 ⟨rfl, hB0⟩
      obtain ⟨b0, off0, A0, C0, rfl, _, hc0, _⟩ := (H.out.old hB0).row (i := 0) (by omega)
      rw [Nat.add_zero] at hc0
      have HB0 := Lib.hid hB0
      clear hB0
      go_wp2
      go_ret2
      unfold InvAny; rw [if_neg HN.out]; exact ResM.bad w HB0.out
  · have hr' : rightB n L = false := by simpa using hr
    have HN : Hid (¬ (rightB n L = true ∧ n = L 0)) := Lib.hid (fun hh => hr hh.1)
    have H := Lib.hid h
    have HR := Lib.hid hr'
    clear h hr hr'
    go_enter Try.func23, Try.ntmps23
    go_wp2_with fail
    refine (refRight_is _ n C L M _ _ false hm H.out HR.out).mono ?_
    rintro e w1 ⟨rfl, hB0⟩
    have HB0 := Lib.hid hB0
    clear hB0
    go_wp2
    go_ret2
    unfold InvAny; rw [if_neg HN.out]; exact ResM.bad w HB0.out
end Go.Proofs.Ytcmdggdionghcaa
namespace Go.Proofs.Ytcmdggdionghcaa
open Go.RowKit Mx

/-- a Cauchy, or none where there is no parity -/
theorem refCauchy_some (d p : Nat) (w : World) (hd0 : 0 < d) (hdp : d + p ≤ 255) :
    Calls Try.prog 22 #[.int .i64 (d : Int), .int .i64 (p : Int)] w fun e w' => ∃ (A : Option Addr) (C : Nat) (code : Int), e = .returned (.tuple #[.slice A p C, .int .i64 code]) ∧ RdM w' A p (fun _ => d) (cau p) (· < w'.heap.size) ∧ Below w.heap.size w w' := by
  rcases Nat.eq_zero_or_pos p with h0 | h0
  · subst h0
    refine (refCauchy_bad (d : Int) ((0 : Nat) : Int) w (by omega) (by omega) (by omega) (by omega) (.inr (.inl (by omega)))).mono ?_
    rintro e w' ⟨A, C, rfl, _, hb⟩
    exact ⟨A, C, 1, rfl, RdM.empty _ _ _ _ _, hb⟩
  · refine (refCauchy_main d p w hd0 h0 hdp).mono ?_
    rintro e w' ⟨A, C, rfl, hr, hb⟩
    exact ⟨A, C, 0, rfl, hr, hb⟩
theorem DecAny.refuse {n : Nat} {L : Nat → Nat} {H : Mat} {d : Int} (hn : ¬ DecOk n L d) (w : World) {w' : World} (h : Below w.heap.size w w') : DecAny n L H d w (.returned (.tuple #[.slice none 0 0, .int .i64 1])) w' := by
  unfold DecAny; rw [if_neg hn]; exact ResM.bad w h
theorem there_true {L : Nat → Nat} {x : Nat} : there L x = true ↔ 0 < L x := decide_eq_true_iff
/-- two that are there of unlike lengths -/
theorem DecOk.alike {n : Nat} {L : Nat → Nat} {d : Int} (h : DecOk n L d) {x y : Nat} (hx : x < n) (hy : y < n) (h1 : 0 < L x) (h2 : 0 < L y) : L x = L y := by
  obtain ⟨i, hi, e⟩ := pls_all hx (there_true.2 h1)
  obtain ⟨j, hj, e'⟩ := pls_all hy (there_true.2 h2)
  have a1 := h.2.2.2.2 i hi
  have a2 := h.2.2.2.2 j hj
  rw [e] at a1
  rw [e'] at a2
  rw [a1, a2]
set_option maxRecDepth 100000 in
set_option maxHeartbeats 16000000 in
theorem refDecode_in (A : Option Addr) (n C : Nat) (L : Nat → Nat) (H0 : Mat) (G : Nat → Prop) (d : Nat) (w : World) (hd0 : 0 < d) (hdn : d ≤ n) (hn : n ≤ 255) (hL : ∀ i, i < n → L i ≤ 1000000) (h : RdM w A n L H0 G) :
    Calls Try.prog 15 #[.slice A n C, .int .i64 (d : Int)] w (DecAny n L H0 (d : Int) w) := by
  obtain ⟨b0, off0, A0, C0, rfl, _, _, _⟩ := h.row (i := 0) (by omega)
  have H := Lib.hid h
  have HL := Lib.hid hL
  clear h hL
  have q1 : decide ((d : Int) < 1) = false := decide_eq_false (by omega)
  have q2 : decide ((n : Int) < (d : Int)) = false := decide_eq_false (by omega)
  have q2' : decide (n < d) = false := decide_eq_false (by omega)
  have q3 : decide ((255 : Int) < (n : Int)) = false := decide_eq_false (by omega)
  go_enter Try.func15, Try.ntmps15
  go_wp2
  clear q1 q2 q2' q3
  go_loopw [8, 7, 6] (fun vi vs vo wr => ∃ i s : Nat, i ≤ n ∧ s ≤ 1000000 ∧ vi = .int .i64 (i : Int) ∧ vs = .int .i64 (s : Int) ∧ Hid (wr.ownsRow w.heap.size 3 1 vo (pls (there L) i).length (intsOf (pls (there L) i))) ∧ Hid (∀ x, x < i → 0 < L x → L x = s) ∧ Hid (0 < s → ∃ x, x < i ∧ L x = s) ∧ Hid (Below w.heap.size w wr)) (fun vi _ _ _ => n - (intOf vi).toNat)
  case atStart => exact ⟨0, 0, by omega, by omega, rfl, rfl, Lib.hid (World.ownsRow_nil _ _ _ _), Lib.hid (fun x hx => absurd hx (by omega)), Lib.hid (fun h => absurd h (by omega)), Lib.hid (Below.refl _ _)⟩
  case round =>
    obtain ⟨i, s, hi, hs, rfl, rfl, HO, HA, HS, HB⟩ := hrel
    by_cases hlt : i < n
    · obtain ⟨b', off', Ai, Ci, e, _, hck, _⟩ := (H.out.old HB.out).row hlt
      obtain ⟨rfl, rfl⟩ : b0 = b' ∧ off0 = off' := by simpa using e
      clear e
      have hLi := HL.out i hlt
      by_cases hz : L i = 0
      · have z1 : ((L i : Int) == 0) = true := by rw [hz]; rfl
        have HO3 := HO
        rw [← pls_no (P := there L) (n := i) (by unfold there; rw [hz]; rfl)] at HO3
        have HA3 : Hid (∀ x, x < i + 1 → 0 < L x → L x = s) := Lib.hid fun x hx h0 => HA.out x (by
          by_cases e : x = i
          · rw [e, hz] at h0; omega
          · omega) h0
        have HS3 : Hid (0 < s → ∃ x, x < i + 1 ∧ L x = s) := Lib.hid fun h => by
          obtain ⟨x, hx, e⟩ := HS.out h
          exact ⟨x, by omega, e⟩
        clear hz HO HA HS
        go_wp2
        go_roundw
        case rel => exact ⟨i + 1, s, by omega, hs, by go_num, rfl, HO3, HA3, HS3, HB⟩
        case measure => simp [intOf]; omega
      · have z1 : ((L i : Int) == 0) = false := beq_eq_false_iff_ne.2 (by omega)
        have HN : Hid (pls (there L) (i + 1) = pls (there L) i ++ [i]) := Lib.hid (pls_yes (there_true.2 (by omega)))
        have hlen : (pls (there L) i).length ≤ i := plsN_le (there L) i
        obtain ⟨i0, hi0, hz0, hz1, hz2⟩ := info_parts infoInt
        have hlow : w.heap.size ≤ wr.heap.size := HB.out.size
        have HS3 : Hid (0 < L i → ∃ x, x < i + 1 ∧ L x = L i) := Lib.hid fun _ => ⟨i, by omega, rfl⟩
        by_cases hs0 : s = 0
        · have y1 : decide ((0 : Int) < (s : Int)) = false := decide_eq_false (by omega)
          have y2 : decide (0 < s) = false := decide_eq_false (by omega)
          have HA3 : Hid (∀ x, x < i + 1 → 0 < L x → L x = L i) := Lib.hid fun x hx h0 => by
            by_cases e : x = i
            · rw [e]
            · have := HA.out x (by omega) h0; omega
          clear HA HS
          have hown := HO.out
          go_wp2_with (at_builtin; refine wpList_append_own _ rfl _ _ 37 rfl w.heap.size 3 i0 (.int .i64 0) 1 8 Try.underlying37 hi0 hz0 hz1 hz2 rfl (by decide) _ _ _ rfl (hown.alloc _) ⟨wr.heap.size, 0, none⟩ 1 1 [.int .i64 (i : Int)] rfl rfl (oneCell _ _ _) (oneInt _) (by unfold maxLen; omega) (by omega) (by simp; omega) ?_)
          intro v' w3 hown' hgrow _
          have HO3 : Hid (w3.ownsRow w.heap.size 3 1 v' (pls (there L) (i + 1)).length (intsOf (pls (there L) (i + 1)))) := by
            rw [HN.out, List.length_append]
            unfold intsOf
            rw [List.map_append]
            exact Lib.hid hown'
          have HB3 := Lib.hid ((HB.out.alloc hlow _).grown hgrow (by simp; omega) (fun x hx => (HO.out.lt x hx).1))
          clear hown' hgrow hown
          go_wp2
          go_roundw
          case rel => exact ⟨i + 1, L i, by omega, hLi, by go_num, rfl, HO3, HA3, HS3, HB3⟩
          case measure => simp [intOf]; omega
        · have y1 : decide ((0 : Int) < (s : Int)) = true := decide_eq_true (by omega)
          have y2 : decide (0 < s) = true := decide_eq_true (by omega)
          by_cases he : L i = s
          · have y3 : ((L i : Int) != (s : Int)) = false := by rw [he]; simp
            have HA3 : Hid (∀ x, x < i + 1 → 0 < L x → L x = L i) := Lib.hid fun x hx h0 => by
              by_cases e : x = i
              · rw [e]
              · rw [he]; exact HA.out x (by omega) h0
            clear HA HS he
            have hown := HO.out
            go_wp2_with (at_builtin; refine wpList_append_own _ rfl _ _ 37 rfl w.heap.size 3 i0 (.int .i64 0) 1 8 Try.underlying37 hi0 hz0 hz1 hz2 rfl (by decide) _ _ _ rfl (hown.alloc _) ⟨wr.heap.size, 0, none⟩ 1 1 [.int .i64 (i : Int)] rfl rfl (oneCell _ _ _) (oneInt _) (by unfold maxLen; omega) (by omega) (by simp; omega) ?_)
            intro v' w3 hown' hgrow _
            have HO3 : Hid (w3.ownsRow w.heap.size 3 1 v' (pls (there L) (i + 1)).length (intsOf (pls (there L) (i + 1)))) := by
              rw [HN.out, List.length_append]
              unfold intsOf
              rw [List.map_append]
              exact Lib.hid hown'
            have HB3 := Lib.hid ((HB.out.alloc hlow _).grown hgrow (by simp; omega) (fun x hx => (HO.out.lt x hx).1))
            clear hown' hgrow hown
            go_wp2
            go_roundw
            case rel => exact ⟨i + 1, L i, by omega, hLi, by go_num, rfl, HO3, HA3, HS3, HB3⟩
            case measure => simp [intOf]; omega
          · have y3 : ((L i : Int) != (s : Int)) = true := by rw [bne_iff_ne]; omega
            have HF : Hid (¬ DecOk n L (d : Int)) := Lib.hid fun hh => by
              obtain ⟨x, hx, e⟩ := HS.out (by omega)
              have := hh.alike hlt (y := x) (by omega) (by omega) (by omega)
              omega
            clear he
            go_wp2
            go_ret2
            exact DecAny.refuse HF.out w HB.out
    · have hin : i = n := by omega
      have hO := HO.out
      rw [hin] at hO
      obtain ⟨Ao, Co, rfl, hCo, hlo, hro⟩ := RdI.of_owns hO
      have HAL : Hid (∀ x, x < n → 0 < L x → L x = s) := Lib.hid fun x hx h0 => HA.out x (by omega) h0
      have HI1 := Lib.hid hro
      have HKD : Hid (plsN (there L) n = (pls (there L) n).length) := Lib.hid rfl
      have HIN : Hid (∀ j, j < (pls (there L) n).length → plsAt (there L) n j < n ∧ there L (plsAt (there L) n j) = true) := Lib.hid fun j hj => plsAt_in hj
      have HUP : Hid (∀ a t, a < t → t < (pls (there L) n).length → plsAt (there L) n a < plsAt (there L) n t) := Lib.hid fun a t h h' => plsAt_up h h'
      obtain ⟨w1, rfl⟩ : ∃ x, x = wr := ⟨wr, rfl⟩
      have HDA : Hid (∀ e w', 0 < (pls (there L) n).length → (if (pls (there L) n).length < d then ResM 10 0 0 one w e w' else ResM 0 d s (dec d (n - d) (plsAt (there L) n) (fun t => H0 (plsAt (there L) n t))) w e w') → DecAny n L H0 (d : Int) w e w') := Lib.hid fun e w' h0 hh => by
        have h1 : ∀ j, j < plsN (there L) n → L (plsAt (there L) n j) = s := fun j hj => HAL.out _ (HIN.out j hj).1 (there_true.1 (HIN.out j hj).2)
        unfold DecAny
        rw [if_pos ⟨by omega, by omega, hn, h0, fun j hj => by rw [h1 j hj, h1 0 h0]⟩, h1 0 h0]
        exact hh
      have HD0 : Hid ((pls (there L) n).length = 0 → ¬ DecOk n L (d : Int)) := Lib.hid fun h hh => by
        have := hh.2.2.2.1
        unfold plsN at this; omega
      have HS0 : Hid (0 < (pls (there L) n).length → 0 < s) := Lib.hid fun h => by
        have h1 := HIN.out 0 h
        have h2 := there_true.1 h1.2
        have h3 := HAL.out _ h1.1 h2
        omega
      have HAT : Hid (∀ j, j < (pls (there L) n).length → L (plsAt (there L) n j) = s) := Lib.hid fun j hj => HAL.out _ (HIN.out j hj).1 (there_true.1 (HIN.out j hj).2)
      have hlenn : (pls (there L) n).length ≤ n := plsN_le (there L) n
      obtain ⟨k, hk⟩ : ∃ k, k = (pls (there L) n).length := ⟨_, rfl⟩
      obtain ⟨at_, hat⟩ : ∃ f, f = plsAt (there L) n := ⟨_, rfl⟩
      have HI2 : Hid (RdI w1 Ao k (fun j => (at_ j : Int))) := by rw [hk, hat]; exact HI1
      rw [← hk] at HIN HUP HDA HD0 HS0 HAT hlenn hCo ⊢
      rw [← hat] at HIN HUP HDA HAT
      clear hk hat HI1 hro hO HO HA HS HKD hlo hin HAL
      by_cases hk0 : k = 0
      · have HF := Lib.hid (HD0.out hk0)
        have q1 : ((k : Int) == 0) = true := by rw [hk0]; rfl
        go_wp2
        go_ret2
        exact DecAny.refuse HF.out w HB.out
      · have q1 : ((k : Int) == 0) = false := beq_eq_false_iff_ne.2 (by omega)
        by_cases hkd : k < d
        · have HF : Hid (∀ e w', ResM 10 0 0 one w e w' → DecAny n L H0 (d : Int) w e w') := Lib.hid fun e w' hh => HDA.out e w' (by omega) (by rw [if_pos hkd]; exact hh)
          go_wp2
          go_ret2
          exact HF.out _ _ ⟨none, 0, rfl, RdM.empty _ _ _ _ _, HB.out⟩
        · have HF : Hid (∀ e w', ResM 0 d s (dec d (n - d) at_ (fun t => H0 (at_ t))) w e w' → DecAny n L H0 (d : Int) w e w') := Lib.hid fun e w' hh => HDA.out e w' (by omega) (by rw [if_neg hkd]; exact hh)
          have hs1 : 0 < s := HS0.out (by omega)
          have q2 : decide (k < d) = false := decide_eq_false hkd
          have q3 : decide ((k : Int) < (d : Int)) = false := decide_eq_false (by omega)
          have hsub : (n : Int) - (d : Int) = ((n - d : Nat) : Int) := by omega
          have hltp : ∀ t, t < d → at_ t < d + (n - d) := fun t ht => by have := (HIN.out t (by omega)).1; omega
          obtain ⟨R, V, hg⟩ := encM_some (d := d) (p := n - d) (at_ := at_) (by omega) (fun a t h h' => HUP.out a t h (by omega)) hltp
          have HG := Lib.hid hg
          have HPP : Hid (∀ e w', ResM 0 d s (fun x c => sm d fun t => V x t * H0 (at_ t) c) w e w' → DecAny n L H0 (d : Int) w e w') := Lib.hid fun e w' hh => HF.out e w' (by
            have : dec d (n - d) at_ (fun t => H0 (at_ t)) = fun x c => sm d fun t => V x t * H0 (at_ t) c := by
              unfold dec; rw [invOf_some hg]; rfl
            rw [this]; exact hh)
          have HLP := Lib.hid hltp
          clear HF HDA HD0 HS0 hg hltp HUP
          obtain ⟨p, hp⟩ : ∃ p, p = n - d := ⟨_, rfl⟩
          have hdp : d + p ≤ 255 := by omega
          rw [← hp] at hsub HG HLP
          clear hp
          have hwp : IntKind.i64.wrap (p : Int) = (p : Int) := IntWalk.i64_in _ (by omega)
          go_wp2_with fail
          refine (refCauchy_some d p _ hd0 hdp).mono ?_
          rintro e w2 ⟨Ac, Cc, code, rfl, hrc, hB2⟩
          have HRC := Lib.hid hrc
          have HB2 := Lib.hid (HB.out.trans (hB2.mono HB.out.size))
          have HI3 := Lib.hid (HI2.out.old hB2)
          have H2 := Lib.hid ((H.out.old HB2.out).in_)
          clear hrc hB2 HB HI2 H
          have HMD := Lib.hid (run_make_row' (P := Try.prog) 40 5 (.int .u8 0) 1 Try.underlying40 infoByte rfl .i64 .i64 d (by omega) (by omega))
          have HMS := Lib.hid (run_make_row' (P := Try.prog) 40 5 (.int .u8 0) 1 Try.underlying40 infoByte rfl .i64 .i64 s (by omega) (by omega))
          obtain ⟨bo, offo, rfl, _⟩ := HI3.out.at (j := 0) (by omega)
          go_wp2
          clear hsub hwp q1 q2 q3
          go_loopw [12, 9] (fun vi vm wr => ∃ i : Nat, i ≤ d ∧ vi = .int .i64 (i : Int) ∧ Hid (∃ A C, TopA wr w2.heap.size vm i A (fun _ => d) C (encM d p at_)) ∧ Hid (Below w2.heap.size w2 wr)) (fun vi _ _ => d - (intOf vi).toNat)
          case atStart => exact ⟨0, by omega, rfl, Lib.hid ⟨fun _ => none, fun _ => 0, TopA.start _ _ _ _ _ _⟩, Lib.hid (Below.refl _ _)⟩
          case round =>
            obtain ⟨i, hi, rfl, HO, HB⟩ := hrel
            obtain ⟨Ax, Cx, hO⟩ := HO.out
            have HO' := Lib.hid hO
            clear hO HO
            by_cases hlti : i < d
            · obtain ⟨b3, off3, e, d1⟩ := (HI3.out.old HB.out).at (j := i) (by omega)
              obtain ⟨rfl, rfl⟩ : bo = b3 ∧ offo = off3 := by simpa using e
              have hq2 := HLP.out i hlti
              have HEI : Hid (encM d p at_ i = enc d (cau p) (at_ i)) := Lib.hid rfl
              obtain ⟨q, hq⟩ : ∃ q, q = at_ i := ⟨_, rfl⟩
              rw [← hq] at d1 hq2 HEI
              clear hq e
              obtain ⟨i0, hi0, hz0, hz1, hz2⟩ := info_parts infoRow
              have hlow : w2.heap.size ≤ wr.heap.size := HB.out.size
              by_cases hp : q < d
              · have hal : Below wr.heap.size wr (wr.alloc (.cells (madeCells #[.int .u8 0] d) 5)) := (Below.refl _ _).alloc (Nat.le_refl _) _
                have hzr := RowAt.made wr d
                have hc3 := hzr.cell hp
                have hf3 := hzr.frozen q
                have d2 := (hal.cell (World.block_lt_of_cell? _ _ d1)).trans d1
                have hU := hzr.set q 1
                rw [World.setCell_alloc_at _ _ _ _ _ rfl] at hU
                have HU : Hid (RowAt (wr.alloc (.cells ((madeCells #[.int .u8 0] d).setIfInBounds q (.int .u8 1)) 5)) wr.heap.size d (encM d p at_ i)) := Lib.hid (hU.congr fun c hc => by
                  rw [HEI.out]
                  show _ = (if q < d then one q c else cau p (q - d) c)
                  rw [if_pos hp]
                  unfold one
                  by_cases e2 : c = q
                  · rw [if_pos e2, if_pos e2.symm]
                  · rw [if_neg e2, if_neg (fun h => e2 h.symm)])
                have hal2 : Below wr.heap.size wr (wr.alloc (.cells ((madeCells #[.int .u8 0] d).setIfInBounds q (.int .u8 1)) 5)) := (Below.refl _ _).alloc (Nat.le_refl _) _
                have HAX := Lib.hid (HO'.out.old hal2)
                have hown := HAX.out.top
                have HBX := Lib.hid (HB.out.trans (hal2.mono HB.out.size))
                have hmk := HMD.out
                clear hal hzr hU hal2
                go_wp2_with (at_builtin; refine wpList_append_own _ rfl _ _ 34 rfl w2.heap.size 40 i0 (.slice none 0 0) 1 24 Try.underlying34 hi0 hz0 hz1 hz2 rfl (by decide) _ _ _ rfl (hown.alloc _) ⟨wr.heap.size + 1, 0, none⟩ 1 1 [.slice (some ⟨wr.heap.size, 0, none⟩) d d] rfl rfl (oneCellAt _ _ _ _ (by simp)) (oneSlice _ _ _) (by unfold maxLen; omega) (by omega) (by simp; omega) ?_)
                intro v' w3 hown' hgrow _
                have HP := Lib.hid (HAX.out.push hgrow hown' (.inr ⟨wr.heap.size, rfl, HU.out⟩))
                have HB3 := Lib.hid ((HBX.out.alloc HBX.out.size _).grown hgrow (by simp; omega) (fun x hx => (HAX.out.top.lt x hx).1))
                clear hown' hgrow hown hmk hc3 hf3 d2
                go_wp2
                go_roundw
                case rel => exact ⟨i + 1, by omega, by go_num, Lib.hid ⟨_, _, (HP.out.congr (M' := encM d p at_) fun r _ c _ => by by_cases e : r = i <;> simp [e]).lens fun r _ => by by_cases e : r = i <;> simp [e]⟩, HB3⟩
                case measure => simp [intOf]; omega
              · obtain ⟨b4, off4, A4, C4, rfl, _, d3, hr3⟩ := HRC.out.row (i := q - d) (by omega)
                have d4 := (HB.out.cell (World.block_lt_of_cell? _ _ d3)).trans d3
                have HRR : Hid (Rd wr A4 d (encM d p at_ i) (· < w2.heap.size)) := Lib.hid ((hr3.below HB.out).congr fun c hc => by
                  rw [HEI.out]
                  show _ = (if q < d then one q c else cau p (q - d) c)
                  rw [if_neg hp])
                have hsub2 : (q : Int) - (d : Int) = ((q - d : Nat) : Int) := by omega
                have hw2 : IntKind.i64.wrap ((q - d : Nat) : Int) = ((q - d : Nat) : Int) := IntWalk.i64_in _ (by omega)
                have y1 : decide (q < d) = false := decide_eq_false hp
                have y2 : decide ((q : Int) < (d : Int)) = false := decide_eq_false (by omega)
                have hown := HO'.out.top
                clear hr3 d3
                go_wp2_with (at_builtin; refine wpList_append_own _ rfl _ _ 34 rfl w2.heap.size 40 i0 (.slice none 0 0) 1 24 Try.underlying34 hi0 hz0 hz1 hz2 rfl (by decide) _ _ _ rfl (hown.alloc _) ⟨wr.heap.size, 0, none⟩ 1 1 [.slice A4 d C4] rfl rfl (oneCell _ _ _) (oneSlice _ _ _) (by unfold maxLen; omega) (by omega) (by simp; omega) ?_)
                intro v' w3 hown' hgrow _
                have HP := Lib.hid (HO'.out.push hgrow hown' (.inl HRR.out))
                have HB3 := Lib.hid ((HB.out.alloc HB.out.size _).grown hgrow (by simp; omega) (fun x hx => (HO'.out.top.lt x hx).1))
                clear hown' hgrow hown hsub2 hw2 y1 y2 d4
                go_wp2
                go_roundw
                case rel => exact ⟨i + 1, by omega, by go_num, Lib.hid ⟨_, _, (HP.out.congr (M' := encM d p at_) fun r _ c _ => by by_cases e : r = i <;> simp [e]).lens fun r _ => by by_cases e : r = i <;> simp [e]⟩, HB3⟩
                case measure => simp [intOf]; omega
            · have hid : i = d := by omega
              obtain ⟨bm, cm, rfl, _, _, hM⟩ := HO'.out.rdM (by omega)
              rw [hid] at hM
              have HM := Lib.hid hM
              obtain ⟨w4, rfl⟩ : ∃ x, x = wr := ⟨wr, rfl⟩
              have HB4 := Lib.hid (HB2.out.trans (HB.out.mono HB2.out.size))
              have HI4 := Lib.hid (HI3.out.old HB.out)
              have H4 := Lib.hid (H2.out.old HB.out)
              clear hM HO' HB HB2 HI3 H2 HRC
              subst hid
              go_wp2_with fail
              refine (refInverse_main _ i cm (encM i p at_) _ _ hd0 (by omega) HM.out).mono ?_
              intro e w5 hres
              unfold InvRes at hres
              rw [HG.out] at hres
              obtain ⟨Av, Cv, rfl, hrv, hB5⟩ := hres
              obtain ⟨bv, offv, _, _, rfl, _, _, _⟩ := hrv.row (i := 0) (by omega)
              have HRV := Lib.hid hrv
              have HB5 := Lib.hid (HB4.out.trans (hB5.mono HB4.out.size))
              have HI5 := Lib.hid (HI4.out.old hB5)
              have H5 := Lib.hid ((H4.out.old hB5).in_)
              clear hrv hB5 HB4 HI4 H4 HM
              obtain ⟨X, hX⟩ : ∃ X : Mat, X = fun x c => sm i fun t => V x t * H0 (at_ t) c := ⟨_, rfl⟩
              have HX := Lib.hid hX
              rw [← hX] at HPP
              clear hX
              go_wp2
              go_loopw [17, 16] (fun vj vo wr => ∃ j : Nat, j ≤ i ∧ vj = .int .i64 (j : Int) ∧ Hid (∃ G C, OwnA wr w5.heap.size vo j s G C X) ∧ Hid (Below w5.heap.size w5 wr)) (fun vj _ _ => i - (intOf vj).toNat)
              case atStart => exact ⟨0, by omega, rfl, Lib.hid ⟨fun _ => 0, fun _ => 0, OwnA.start _ _ _ _ _ _⟩, Lib.hid (Below.refl _ _)⟩
              case round =>
                obtain ⟨j, hj, rfl, HO, HB⟩ := hrel
                obtain ⟨G1, Cp1, hO⟩ := HO.out
                have HO' := Lib.hid hO
                clear hO HO
                obtain ⟨wo, rfl⟩ : ∃ x, x = wr := ⟨wr, rfl⟩
                by_cases hltj : j < i
                · have hmk := HMS.out
                  go_wp2
                  clear hmk
                  go_loopw [19] (fun vc wq => ∃ c : Nat, c ≤ s ∧ vc = .int .i64 (c : Int) ∧ Hid (RowAt wq wo.heap.size s (part (X j) c 0)) ∧ Hid (Below wo.heap.size wo wq)) (fun vc _ => s - (intOf vc).toNat)
                  case atStart => exact ⟨0, by omega, rfl, Lib.hid ((RowAt.made wo s).congr fun j _ => by unfold part; rw [if_neg (by omega)]; split <;> rfl), Lib.hid ((Below.refl _ _).alloc (Nat.le_refl _) _)⟩
                  case round =>
                    obtain ⟨c, hc, rfl, HO2, HB2⟩ := hrel
                    by_cases hltc : c < s
                    · go_wp2
                      go_loopw [20] (fun vt wq => ∃ t : Nat, t ≤ i ∧ vt = .int .i64 (t : Int) ∧ Hid (RowAt wq wo.heap.size s (part (X j) c (sm t fun t => V j t * H0 (at_ t) c))) ∧ Hid (Below wo.heap.size wo wq)) (fun vt _ => i - (intOf vt).toNat)
                      case atStart => exact ⟨0, by omega, rfl, HO2, HB2⟩
                      case round =>
                        obtain ⟨t, ht, rfl, HO3, HB3⟩ := hrel
                        clear HO2 HB2
                        have HB6 := Lib.hid (HB.out.trans (HB3.out.mono HB.out.size))
                        by_cases hltt : t < i
                        · obtain ⟨b6, off6, Aj, Cj, e, _, d0, hrj⟩ := (HRV.out.below HB6.out).row hltj
                          obtain ⟨rfl, rfl⟩ : bv = b6 ∧ offv = off6 := by simpa using e
                          obtain ⟨b7, off7, rfl, _, d1⟩ := hrj.at hltt
                          obtain ⟨b8, off8, e8, d2⟩ := (HI5.out.old HB6.out).at (j := t) (by omega)
                          obtain ⟨rfl, rfl⟩ : bo = b8 ∧ offo = off8 := by simpa using e8
                          have hq := (HIN.out t (by omega)).1
                          have hls := HAT.out t (by omega)
                          obtain ⟨b9, off9, Ak, Ck, e9, _, d3, hrk⟩ := (H5.out.below HB6.out).row hq
                          obtain ⟨rfl, rfl⟩ : b0 = b9 ∧ off0 = off9 := by simpa using e9
                          rw [hls] at d3 hrk
                          obtain ⟨b10, off10, rfl, _, d4⟩ := hrk.at hltc
                          have d5 := HO3.out.cell hltc
                          rw [part_at] at d5
                          have f5 := HO3.out.frozen c
                          have htk : t < k := by omega
                          have HXR := Lib.hid (xor_fi (sm t fun t => V j t * H0 (at_ t) c) (V j t * H0 (at_ t) c))
                          have HST : Hid (RowAt (wr.setCell ⟨wo.heap.size, c, none⟩ (.int .u8 (fi ((sm t fun t => V j t * H0 (at_ t) c) + V j t * H0 (at_ t) c)))) wo.heap.size s (part (X j) c (sm (t + 1) fun t => V j t * H0 (at_ t) c))) := Lib.hid ((HO3.out.set c ((sm t fun t => V j t * H0 (at_ t) c) + V j t * H0 (at_ t) c)).congr fun x _ => part_set _ _ _ _ _)
                          obtain ⟨q, hqe⟩ : ∃ q, q = at_ t := ⟨_, rfl⟩
                          rw [← hqe] at d2 d3 d4 hq HXR HST
                          clear e e8 e9 hrj hrk hls hqe HO3
                          go_wp2
                          refine wp_region_still_tail 26 (by kernel_rfl) (by kernel_rfl) ?_
                          simp only [List.take_succ_cons, List.take_zero, List.drop_succ_cons, List.drop_zero]
                          repeat (first | still_step | still_call (refMul_st _ _ _))
                          refine wpStill_nil ?_
                          rw [HXR.out]
                          change wpList _ _ _ _ _ wr.drew
                          go_wp2
                          go_roundw
                          case rel => exact ⟨t + 1, by omega, by go_num, HST, Lib.hid ((HB3.out.drew).setCell (p := ⟨wo.heap.size, c, none⟩) (Nat.le_refl _) _)⟩
                          case measure => simp [intOf]; omega
                        · have HO5 : Hid (RowAt wr wo.heap.size s (part (X j) (c + 1) 0)) := by
                            have hti : t = i := by omega
                            have hh := HO3.out
                            rw [hti, show (sm i fun t => V j t * H0 (at_ t) c) = X j c by rw [HX.out]] at hh
                            exact Lib.hid (hh.congr fun x _ => part_next (X j) c x)
                          clear HO3
                          go_wp2
                          go_roundw
                          case rel => exact ⟨c + 1, by omega, by go_num, HO5, HB3⟩
                          case measure => simp [intOf]; omega
                    · have HO5 : Hid (RowAt wr wo.heap.size s (X j)) := Lib.hid (HO2.out.congr fun x hx => by unfold part; rw [if_pos (by omega)])
                      have HAA := Lib.hid (HO'.out.old HB2.out)
                      obtain ⟨i0, hi0, hz0, hz1, hz2⟩ := info_parts infoRow
                      have hown := HAA.out.top
                      have HXX := Lib.hid (HB.out.trans (HB2.out.mono HB.out.size))
                      have hlow : w5.heap.size ≤ wr.heap.size := HXX.out.size
                      go_wp2_with (at_builtin; refine wpList_append_own _ rfl _ _ 34 rfl w5.heap.size 40 i0 (.slice none 0 0) 1 24 Try.underlying34 hi0 hz0 hz1 hz2 rfl (by decide) _ _ _ rfl (hown.alloc _) ⟨wr.heap.size, 0, none⟩ 1 1 [.slice (some ⟨wo.heap.size, 0, none⟩) s s] rfl rfl (oneCell _ _ _) (oneSlice _ _ _) (by unfold maxLen; omega) (by omega) (by simp; omega) ?_)
                      intro v' w3 hown' hgrow _
                      have HP := Lib.hid (HAA.out.push hgrow hown' HO5.out (fun r hr => by have := (HO'.out.rows r hr).lt; omega) HB.out.size (Nat.le_refl s))
                      have HB3 := Lib.hid ((HXX.out.alloc hlow _).grown hgrow (by simp; omega) (fun x hx => (HAA.out.top.lt x hx).1))
                      clear hown' hgrow hown
                      go_wp2
                      go_roundw
                      case rel => exact ⟨j + 1, by omega, by go_num, Lib.hid ⟨_, _, HP.out.congr (M' := X) fun r _ c _ => by by_cases e : r = j <;> simp [e]⟩, HB3⟩
                      case measure => simp [intOf]; omega
                · have hji : j = i := by omega
                  obtain ⟨b, cp, rfl, _, _, hK⟩ := HO'.out.own (by omega)
                  rw [hji] at hK
                  have HK := Lib.hid hK
                  have HBF := Lib.hid (HB5.out.trans (HB.out.mono HB5.out.size))
                  clear hK HO'
                  subst hji
                  go_wp2
                  go_ret2
                  exact HPP.out _ _ ⟨_, _, rfl, HK.out.rdAll (Nat.le_refl _), HBF.out⟩
set_option maxRecDepth 100000 in
set_option maxHeartbeats 1000000 in
theorem refDecode_any (A : Option Addr) (n C : Nat) (L : Nat → Nat) (H0 : Mat) (G : Nat → Prop) (d : Int) (w : World) (hn : n ≤ 1000000) (hL : ∀ i, i < n → L i ≤ 1000000) (hd : -9223372036854775808 ≤ d) (hd' : d ≤ 9223372036854775807) (h : RdM w A n L H0 G) :
    Calls Try.prog 15 #[.slice A n C, .int .i64 d] w (DecAny n L H0 d w) := by
  by_cases h1 : d < 1
  · have HE : Hid (¬ DecOk n L d) := Lib.hid fun hh => by have := hh.1; omega
    clear h hL
    go_enter Try.func15, Try.ntmps15
    go_wp2
    go_ret2
    exact DecAny.refuse HE.out w (Below.refl _ _)
  · by_cases h2 : (n : Int) < d
    · have HE : Hid (¬ DecOk n L d) := Lib.hid fun hh => by have := hh.2.1; omega
      clear h hL
      go_enter Try.func15, Try.ntmps15
      go_wp2
      go_ret2
      exact DecAny.refuse HE.out w (Below.refl _ _)
    · by_cases h3 : 255 < n
      · have HE : Hid (¬ DecOk n L d) := Lib.hid fun hh => by have := hh.2.2.1; omega
        clear h hL
        go_enter Try.func15, Try.ntmps15
        go_wp2
        go_ret2
        exact DecAny.refuse HE.out w (Below.refl _ _)
      · obtain ⟨k, rfl⟩ : ∃ k : Nat, d = (k : Int) := ⟨d.toNat, by omega⟩
        exact refDecode_in A n C L H0 G k w (by omega) (by omega) (by omega) hL h
end Go.Proofs.Ytcmdggdionghcaa
namespace Go.Proofs.Ytcmdggdionghcaa
open Go.RowKit Mx

/-- the data, and below it its parity -/
def encD (d p : Nat) (D : Mat) : Mat := fun x c => if x < d then D x c else par d p D (x - d) c
theorem mv_encM (d p : Nat) (at_ : Nat → Nat) (D : Mat) (c t : Nat) : mv d (encM d p at_) (fun x => D x c) t = encD d p D (at_ t) c := by
  unfold encD
  by_cases h : at_ t < d
  · rw [if_pos h, ← mv_one h (fun x => D x c)]
    exact sm_congr fun k _ => by
      show (if at_ t < d then one (at_ t) k else cau p (at_ t - d) k) * _ = _
      rw [if_pos h]
  · rw [if_neg h]
    exact sm_congr fun k _ => by
      show (if at_ t < d then one (at_ t) k else cau p (at_ t - d) k) * _ = _
      rw [if_neg h]
theorem ResM.congr {code : Int} {n m : Nat} {M M' : Mat} {w : World} {e : Ending} {w' : World} (h : ResM code n m M w e w') (he : ∀ i, i < n → ∀ j, j < m → M i j = M' i j) : ResM code n m M' w e w' := by
  obtain ⟨A, C, h1, h2, h3⟩ := h
  exact ⟨A, C, h1, h2.congr (fun _ _ => rfl) he, h3⟩
/-- what is there is of one Encode: too few, or the data -/
theorem DecAny.tells {d p m : Nat} {L : Nat → Nat} {D H : Mat} (hd0 : 0 < d) (hdp : d + p ≤ 255) (hL : ∀ x, x < d + p → L x = 0 ∨ L x = m) (hH : ∀ x, x < d + p → 0 < L x → ∀ c, c < m → H x c = encD d p D x c)
    {w : World} {e : Ending} {w' : World} (h : DecAny (d + p) L H (d : Int) w e w') :
    if plsN (there L) (d + p) = 0 then ResM 1 0 0 one w e w' else if plsN (there L) (d + p) < d then ResM 10 0 0 one w e w' else ResM 0 d m D w e w' := by
  have hin : ∀ j, j < plsN (there L) (d + p) → plsAt (there L) (d + p) j < d + p ∧ L (plsAt (there L) (d + p) j) = m := fun j hj => by
    obtain ⟨h1, h2⟩ := plsAt_in hj
    refine ⟨h1, ?_⟩
    have := there_true.1 h2
    rcases hL _ h1 with h3 | h3
    · omega
    · exact h3
  unfold DecAny at h
  by_cases h0 : plsN (there L) (d + p) = 0
  · rw [if_pos h0]
    rw [if_neg (fun hh => by have := hh.2.2.2.1; omega)] at h
    exact h
  · rw [if_neg h0]
    rw [if_pos ⟨by omega, by omega, hdp, by omega, fun j hj => by rw [(hin j hj).2, (hin 0 (by omega)).2]⟩, Int.toNat_natCast] at h
    by_cases h1 : plsN (there L) (d + p) < d
    · rw [if_pos h1] at h ⊢; exact h
    · rw [if_neg h1] at h ⊢
      rw [(hin 0 (by omega)).2, Nat.add_sub_cancel_left] at h
      refine h.congr fun x hx c hc => ?_
      refine dec_back hdp (fun s t hs ht => plsAt_up hs (by omega)) (fun t ht => (hin t (by omega)).1) D _ (fun t ht => ?_) hx
      have ht' := hin t (by omega)
      rw [mv_encM]
      exact hH _ ht'.1 (there_true.1 (plsAt_in (show t < plsN (there L) (d + p) by omega)).2) c hc
end Go.Proofs.Ytcmdggdionghcaa
namespace Go.Proofs.Ytcmdggdionghcaa
open Go.RowKit Mx

/-- the slices that a slice of slices holds -/
theorem RdM.tops {w : World} {A : Option Addr} {n : Nat} {L : Nat → Nat} {M : Mat} {G : Nat → Prop} (h : RdM w A n L M G) :
    ∃ (As : Nat → Option Addr) (Cs : Nat → Nat), (∀ a, 0 < n → A = some a → ∀ j u, (topsOf n As L Cs)[j]? = some u → w.cell? (a.add j) = some u) ∧ ∀ i, i < n → Rd w (As i) (L i) (M i) G := by
  have hx : ∀ i, ∃ ac : Option Addr × Nat, i < n → (∀ a, A = some a → w.cell? (a.add i) = some (.slice ac.1 (L i) ac.2)) ∧ Rd w ac.1 (L i) (M i) G := fun i => by
    by_cases hi : i < n
    · obtain ⟨b, off, A', C', e, _, hc, hr⟩ := h.row hi
      refine ⟨(A', C'), fun _ => ⟨fun a ha => ?_, hr⟩⟩
      rw [e] at ha
      cases ha
      rw [add_at]; exact hc
    · exact ⟨(none, 0), fun hh => absurd hh hi⟩
  obtain ⟨f, hf⟩ := Classical.axiomOfChoice hx
  refine ⟨fun i => (f i).1, fun i => (f i).2, fun a h0 ha j u hu => ?_, fun i hi => (hf i hi).2⟩
  have hj : j < n := by
    rcases Nat.lt_or_ge j n with h' | h'
    · exact h'
    · rw [List.getElem?_eq_none (by rw [topsOf_len]; exact h')] at hu; cases hu
  rw [topsOf_get hj] at hu
  cases hu
  exact (hf j hj).1 a ha
theorem topsOf_append (n p : Nat) (A A' : Nat → Option Addr) (L L' C C' : Nat → Nat) : topsOf n A L C ++ topsOf p A' L' C' = topsOf (n + p) (fun i => if i < n then A i else A' (i - n)) (fun i => if i < n then L i else L' (i - n)) (fun i => if i < n then C i else C' (i - n)) := by
  apply List.ext_getElem?
  intro j
  rw [List.getElem?_append, topsOf_len]
  by_cases h : j < n
  · rw [if_pos h, topsOf_get h, topsOf_get (by omega)]
    simp only [h, if_true]
  · rw [if_neg h]
    by_cases h' : j < n + p
    · rw [topsOf_get (by omega), topsOf_get h']
      simp only [h, if_false]
    · rw [List.getElem?_eq_none (by rw [topsOf_len]; omega), List.getElem?_eq_none (by rw [topsOf_len]; omega)]
theorem topsOf_congr {n : Nat} {A : Nat → Option Addr} {L L' C : Nat → Nat} (h : ∀ i, i < n → L i = L' i) : topsOf n A L C = topsOf n A L' C :=
  List.map_congr_left fun i hi => by rw [h i (List.mem_range.1 hi)]
end Go.Proofs.Ytcmdggdionghcaa
