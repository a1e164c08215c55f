/- What is kept, own rows of any values, and what a block holds. No function of the program, no type. A slice of structs that reads as a list of plain data, and one that a call owns and makes longer by append: each struct is some cells, as many for each. No function of the program. Units in a row: what a unit's cells are; one struct in a block of its own. No function of the program. The field of 256 elements as a function on numbers: product, powers and inverse, and the laws of a field, for numbers below 256. Plain mathematics of chapter 2, no program: the field of 256 as a type, finite sums, matrices as functions, the way of Gauss and Jordan, and Cauchy's matrices. Words for memory: a slice of bytes that reads as a row of elements, a slice of such slices that reads as a matrix, and rows that a call owns. No program. Texts as lists of bytes: their parts, which are paths, and which lie within which. No program. Texts in memory: a string is a list of bytes. No function of the program. append of a source that may be nil, onto a row of the call's own. No function of the program. -/
import Derived.WalkKit
import Derived.ProofKit
import Derived.Lib.Hide
import Derived.Deep.OwnRows
import Derived.Deep.Draws
import Derived.Test.YtfkoomldncfdnaaGreatRows
import Derived.Laws.AppendOwn
import Derived.OwnWalk
import Derived.Laws.Entries
import Derived.Lib.SplitLaws
import Derived.Laws.OwnMore
import Derived.Laws.Concat
import Derived.Laws.Strings2
import Derived.Laws.NewBlocks
import Derived.Laws.AppendOwnNone
namespace Go.Proofs.YtfkoomldncfdnaaGreat
open Go.RowKit

/-- what is kept: all blocks but those of S are as they were -/
structure Kp (S : Nat → Prop) (w w' : World) : Prop where
  os : w'.os = w.os
  tape : w'.tape = w.tape
  output : w'.output = w.output
  size : w.heap.size ≤ w'.heap.size
  block : ∀ k, k < w.heap.size → ¬ S k → w'.heap[k]? = w.heap[k]?
theorem Kp.refl (S : Nat → Prop) (w : World) : Kp S w w := ⟨rfl, rfl, rfl, Nat.le_refl _, fun _ _ _ => rfl⟩
theorem Kp.trans {S : Nat → Prop} {a b c : World} (h : Kp S a b) (k : Kp S b c) : Kp S a c :=
  ⟨k.os.trans h.os, k.tape.trans h.tape, k.output.trans h.output, Nat.le_trans h.size k.size, fun i hi hs => (k.block i (Nat.lt_of_lt_of_le hi h.size) hs).trans (h.block i hi hs)⟩
theorem Kp.mono {S T : Nat → Prop} {a b : World} (h : Kp S a b) (hs : ∀ k, S k → T k) : Kp T a b := ⟨h.os, h.tape, h.output, h.size, fun i hi ht => h.block i hi fun hk => ht (hs i hk)⟩
theorem Kp.drew {S : Nat → Prop} {a b : World} (h : Kp S a b) : Kp S a b.drew := ⟨h.os, h.tape, h.output, h.size, h.block⟩
theorem Kp.drewN {S : Nat → Prop} {a b : World} (h : Kp S a b) (n : Nat) : Kp S a (b.drewN n) := ⟨h.os, h.tape, h.output, h.size, h.block⟩
theorem Kp.setCell {S : Nat → Prop} {a b : World} (h : Kp S a b) {p : Addr} (hp : S p.block) (u : Value) : Kp S a (b.setCell p u) :=
  h.trans ⟨rfl, rfl, rfl, by simp [World.setCell], fun k _ hs => Below.heap_setCell _ _ _ _ (fun e => hs (e ▸ hp))⟩
theorem Kp.alloc {S : Nat → Prop} {a b : World} (h : Kp S a b) (o : Obj) : Kp S a (b.alloc o) :=
  h.trans ⟨rfl, rfl, rfl, by simp, fun k hk _ => Below.heap_alloc _ _ _ hk⟩
theorem Kp.of_below {S : Nat → Prop} {a b : World} (h : Below a.heap.size a b) : Kp S a b := ⟨h.os, h.tape, h.output, h.size, fun k hk _ => h.block k hk⟩
theorem Kp.below {S : Nat → Prop} {a b : World} {B : Nat} (h : Kp S a b) (hB : B ≤ a.heap.size) (hs : ∀ k, S k → B ≤ k) : Below B a b :=
  ⟨h.os, h.tape, h.output, h.size, fun k hk => h.block k (by omega) (fun hk' => by have := hs k hk'; omega)⟩
theorem Below.kp {B : Nat} {a b : World} (h : Below B a b) : Kp (fun k => B ≤ k) a b := ⟨h.os, h.tape, h.output, h.size, fun k _ hs => h.block k (by omega)⟩
theorem Kp.cell {S : Nat → Prop} {a b : World} (h : Kp S a b) {p : Addr} {v : Value} (hc : a.cell? p = some v) (hs : ¬ S p.block) : b.cell? p = some v :=
  (World.cell?_of_block (h.block _ (World.block_lt_of_cell? a p hc) hs)).trans hc
theorem Kp.grown {S : Nat → Prop} {a b c : World} {row : Option Nat} (h : Kp S a b) (hg : b.grownBy c row) (hr : ∀ k, row = some k → S k) : Kp S a c :=
  h.trans ⟨hg.os, hg.tape, hg.output, hg.size, fun k hk hs => hg.block k hk (fun e => hs (hr k e.symm))⟩

/-- block g is an own row of elements of type t whose first n are V -/
def RowV (w : World) (t : TypeId) (g n : Nat) (V : Nat → Value) : Prop :=
  ∃ c : Array Value, w.heap[g]? = some (.cells c t (0, 0)) ∧ n ≤ c.size ∧ ∀ j, j < n → c[j]? = some (V j)
namespace RowV
variable {w w' : World} {t t' : TypeId} {g g' n n' : Nat} {V V' : Nat → Value}
theorem cell (h : RowV w t g n V) {j : Nat} (hj : j < n) : w.cell? ⟨g, j, none⟩ = some (V j) := by
  obtain ⟨c, hb, _, hc⟩ := h
  simp [World.cell?, hb, hc j hj]
theorem frozen (h : RowV w t g n V) (j : Nat) : w.frozen? ⟨g, j, none⟩ = false := by
  obtain ⟨c, hb, _, _⟩ := h
  simp [World.frozen?, hb]
theorem lt (h : RowV w t g n V) : g < w.heap.size := by
  obtain ⟨c, hb, _, _⟩ := h
  exact (Array.getElem?_eq_some_iff.1 hb).1
theorem congr (h : RowV w t g n V) (e : ∀ j, j < n → V j = V' j) : RowV w t g n V' := by
  obtain ⟨c, hb, hn, hc⟩ := h
  exact ⟨c, hb, hn, fun i hi => by rw [hc i hi, e i hi]⟩
theorem of_block (h : RowV w t g n V) (e : w'.heap[g]? = w.heap[g]?) : RowV w' t g n V := by
  obtain ⟨c, hb, hn, hc⟩ := h
  exact ⟨c, e.trans hb, hn, hc⟩
theorem kp {S : Nat → Prop} (h : RowV w t g n V) (hk : Kp S w w') (hs : ¬ S g) : RowV w' t g n V := h.of_block (hk.block g h.lt hs)
theorem old (h : RowV w t g n V) (hb : Below w.heap.size w w') : RowV w' t g n V := h.of_block (hb.block g h.lt)
theorem set (h : RowV w t g n V) (j : Nat) (a : Value) : RowV (w.setCell ⟨g, j, none⟩ a) t g n (fun k => if k = j then a else V k) := by
  obtain ⟨c, hb, hn, hc⟩ := h
  refine ⟨c.setIfInBounds j a, ?_, by simpa using hn, fun k hk => ?_⟩
  · simp [World.setCell, Array.getElem?_modify, hb]
  · rw [Array.getElem?_setIfInBounds]
    by_cases e : j = k
    · subst e
      rw [if_pos rfl, if_pos (by omega)]
      show _ = some (if j = j then a else V j)
      rw [if_pos rfl]
    · rw [if_neg e]
      show c[k]? = some (if k = j then a else V k)
      rw [if_neg (fun h => e h.symm)]
      exact hc k hk
theorem ne (h : RowV w t g n V) (h' : RowV w t' g' n' V') (ht : t ≠ t') : g ≠ g' := by
  rintro rfl
  obtain ⟨c, hb, _, _⟩ := h
  obtain ⟨c', hb', _, _⟩ := h'
  rw [hb] at hb'
  injection hb' with hb'
  injection hb' with _ e
  exact ht e
theorem made (w : World) (z : Value) (t : TypeId) (n : Nat) : RowV (w.alloc (.cells (madeCells #[z] n) t)) t w.heap.size n (fun _ => z) :=
  ⟨_, Go.Deep.blk_alloc_new _ _, by rw [size_madeCells]; exact Nat.le_refl _, fun i hi => by simp [madeCells, hi, Nat.mod_one]⟩
/-- a row that was made by append -/
theorem of_owns {base : Nat} {v : Value} {xs : List Value} (h : w.ownsRow base t 1 v n xs) (hn : 0 < n) :
    ∃ g C, v = .slice (some ⟨g, 0, none⟩) n C ∧ base ≤ g ∧ n ≤ C ∧ RowV w t g n (fun j => xs.getD j undef) := by
  rcases h.2 with ⟨_, h0⟩ | ⟨g, cap, cur, rfl, hb, hg, hnc, _, hs, ht⟩
  · omega
  · refine ⟨g, cap, rfl, hb, hnc, cur, hg, by omega, fun j hj => ?_⟩
    have hx : xs[j]? = some (xs.getD j undef) := by
      have : j < xs.length := by have := h.1; omega
      rw [List.getD_eq_getElem?_getD, List.getElem?_eq_getElem this]; rfl
    rw [← ht, List.getElem?_take, if_pos (by omega), Array.getElem?_toList] at hx
    rw [hx, ht]
end RowV
theorem Kp.store (w : World) (g j : Nat) (v : Value) : Kp (· = g) w (w.setCell ⟨g, j, none⟩ v) := (Kp.refl (· = g) w).setCell (p := ⟨g, j, none⟩) rfl v
theorem addr_add (b off j : Nat) : (⟨b, off, none⟩ : Addr).add j = ⟨b, off + j, none⟩ := by
  unfold Addr.add
  by_cases h : j = 0 <;> simp [h]
/-- what a block holds behind a store -/
theorem heap_set {w : World} {g j : Nat} {c : Array Value} {t : TypeId} {fr : Nat × Nat} (h : w.heap[g]? = some (.cells c t fr)) (v : Value) : (w.setCell ⟨g, j, none⟩ v).heap[g]? = some (.cells (c.setIfInBounds j v) t fr) := by
  simp [World.setCell, Array.getElem?_modify, h]
theorem heap_cell {w : World} {g j : Nat} {c : Array Value} {t : TypeId} {fr : Nat × Nat} (h : w.heap[g]? = some (.cells c t fr)) : w.cell? ⟨g, j, none⟩ = c[j]? := by simp [World.cell?, h]
theorem heap_frozen {w : World} {g j : Nat} {c : Array Value} {t : TypeId} (h : w.heap[g]? = some (.cells c t (0, 0))) : w.frozen? ⟨g, j, none⟩ = false := by simp [World.frozen?, h]
theorem heap_lt {w : World} {g : Nat} {o : Obj} (h : w.heap[g]? = some o) : g < w.heap.size := (Array.getElem?_eq_some_iff.1 h).1
/-- a truth is answered; what was there is as it was -/
def AnsB (b : Bool) (w : World) (e : Ending) (w' : World) : Prop := e = .returned (.bool b) ∧ Below w.heap.size w w'
end Go.Proofs.YtfkoomldncfdnaaGreat
namespace Go.Proofs.YtfkoomldncfdnaaGreat
open Go.RowKit

/-- each in so many cells -/
structure Enc (α : Type) where
  k : Nat
  pos : 0 < k
  enc : α → List Value
  len : ∀ x, (enc x).length = k
  one : ∀ x, ∀ u ∈ enc x, u.oneCell' = true
namespace Enc
variable {α : Type} (E : Enc α)
def cells (l : List α) : List Value := l.flatMap E.enc
theorem cells_nil : E.cells [] = [] := rfl
theorem cells_cons (x : α) (l : List α) : E.cells (x :: l) = E.enc x ++ E.cells l := rfl
theorem cells_append (l l' : List α) : E.cells (l ++ l') = E.cells l ++ E.cells l' := by unfold cells; exact List.flatMap_append
theorem cells_one (x : α) : E.cells [x] = E.enc x := by rw [cells_cons, cells_nil, List.append_nil]
theorem cells_len : ∀ l : List α, (E.cells l).length = l.length * E.k
  | [] => by rw [cells_nil]; simp
  | x :: l => by rw [cells_cons, List.length_append, E.len, cells_len l, List.length_cons, Nat.succ_mul]; omega
theorem cells_get : ∀ (l : List α) (i j : Nat) (_ : j < E.k) (hi : i < l.length), (E.cells l)[i * E.k + j]? = (E.enc l[i])[j]?
  | [], i, j, _, hi => absurd hi (by simp)
  | x :: l, 0, j, hj, hi => by
    rw [cells_cons, Nat.zero_mul, Nat.zero_add, List.getElem?_append_left (by rw [E.len]; exact hj)]; rfl
  | x :: l, i + 1, j, hj, hi => by
    rw [cells_cons, List.getElem?_append_right (by rw [E.len, Nat.succ_mul]; omega), E.len, show (i + 1) * E.k + j - E.k = i * E.k + j by rw [Nat.succ_mul]; omega]
    exact cells_get l i j hj (by simpa using hi)
theorem cells_all (l : List α) : ∀ u ∈ E.cells l, u.oneCell' = true := by
  intro u hu
  unfold cells at hu
  obtain ⟨x, _, hx⟩ := List.mem_flatMap.1 hu
  exact E.one x u hx
/-- the slice at A of these structs reads as the list l, and lies in a block of G -/
def Rd (w : World) (A : Option Addr) (l : List α) (G : Nat → Prop) : Prop :=
  0 < l.length → ∃ b off, A = some ⟨b, off, none⟩ ∧ G b ∧ ∀ i (hi : i < l.length) j u, (E.enc l[i])[j]? = some u → w.cell? ⟨b, off + i * E.k + j, none⟩ = some u
/-- v is a slice of the call's own that holds the list l -/
def Own (w : World) (base : Nat) (t : TypeId) (v : Value) (l : List α) : Prop := w.ownsRow base t E.k v l.length (E.cells l)
variable {E}
theorem Rd.nil (w : World) (A : Option Addr) (G : Nat → Prop) : E.Rd w A [] G := fun h => absurd h (by simp)
theorem Rd.keep {w w' : World} {A : Option Addr} {l : List α} {G : Nat → Prop} (h : E.Rd w A l G) (hk : ∀ p v, G p.block → w.cell? p = some v → w'.cell? p = some v) : E.Rd w' A l G := fun hn => by
  obtain ⟨b, off, e, hg, hc⟩ := h hn
  exact ⟨b, off, e, hg, fun i hi j u hu => hk _ _ hg (hc i hi j u hu)⟩
theorem Rd.mono {w : World} {A : Option Addr} {l : List α} {G G' : Nat → Prop} (h : E.Rd w A l G) (hg : ∀ b, G b → G' b) : E.Rd w A l G' := fun hn => by
  obtain ⟨b, off, e, hb, hc⟩ := h hn
  exact ⟨b, off, e, hg _ hb, hc⟩
theorem Rd.old {w w' : World} {A : Option Addr} {l : List α} {G : Nat → Prop} (h : E.Rd w A l G) (hb : Below w.heap.size w w') : E.Rd w' A l G := h.keep fun _ _ _ hc => (hb.cell (World.block_lt_of_cell? _ _ hc)).trans hc
theorem Rd.kp {w w' : World} {A : Option Addr} {l : List α} {G S : Nat → Prop} (h : E.Rd w A l G) (hk : Kp S w w') (hs : ∀ b, G b → ¬ S b) : E.Rd w' A l G := h.keep fun _ _ hg hc => hk.cell hc (hs _ hg)
theorem Rd.at_ {w : World} {A : Option Addr} {l : List α} {G : Nat → Prop} (h : E.Rd w A l G) {i : Nat} (hi : i < l.length) : ∃ b off, A = some ⟨b, off, none⟩ ∧ G b ∧ ∀ j u, (E.enc l[i])[j]? = some u → w.cell? ⟨b, off + i * E.k + j, none⟩ = some u := by
  obtain ⟨b, off, e, hg, hc⟩ := h (by omega)
  exact ⟨b, off, e, hg, hc i hi⟩
theorem Own.nil (w : World) (base : Nat) (t : TypeId) : E.Own w base t (.slice none 0 0) [] := World.ownsRow_nil _ _ _ _
theorem Own.of_block {w w' : World} {base : Nat} {t : TypeId} {v : Value} {l : List α} (h : E.Own w base t v l) (hb : ∀ k, v.ownBlock = some k → w'.heap[k]? = w.heap[k]?) : E.Own w' base t v l := by
  refine ⟨h.1, ?_⟩
  rcases h.2 with h0 | ⟨g, cap, cur, rfl, hb', hg, hr⟩
  · exact .inl h0
  · exact .inr ⟨g, cap, cur, rfl, hb', (hb g rfl).trans hg, hr⟩
theorem Own.lt {w : World} {base : Nat} {t : TypeId} {v : Value} {l : List α} (h : E.Own w base t v l) : ∀ k, v.ownBlock = some k → base ≤ k ∧ k < w.heap.size := fun k hk => World.ownsRow.lt h k hk
theorem Own.old {w w' : World} {base : Nat} {t : TypeId} {v : Value} {l : List α} (h : E.Own w base t v l) (hb : Below w.heap.size w w') : E.Own w' base t v l := h.of_block fun k e => hb.block k (h.lt k e).2
/-- its block, if it has one -/
theorem Own.block {w : World} {base : Nat} {t : TypeId} {v : Value} {l : List α} (h : E.Own w base t v l) : ∀ k, v.ownBlock = some k → ∃ c, w.heap[k]? = some (.cells c t (0, 0)) := by
  intro k hk
  rcases h.2 with ⟨rfl, h0⟩ | ⟨g, cap, cur, rfl, hb, hg, hnc, _, hs, ht⟩
  · cases hk
  · cases hk; exact ⟨cur, hg⟩
/-- as a value that reads -/
theorem Own.rd {w : World} {base : Nat} {t : TypeId} {v : Value} {l : List α} (h : E.Own w base t v l) : ∃ A C, v = .slice A l.length C ∧ l.length ≤ C ∧ C ≤ maxLen ∧ (A = none → l.length = 0 ∧ C = 0) ∧ E.Rd w A l (fun b => base ≤ b ∧ v.ownBlock = some b) := by
  rcases h.2 with ⟨rfl, h0⟩ | ⟨g, cap, cur, rfl, hb, hg, hnc, hcm, hs, ht⟩
  · have : l = [] := List.length_eq_zero_iff.1 h0
    subst this
    exact ⟨none, 0, rfl, Nat.le_refl _, by decide, fun _ => ⟨rfl, rfl⟩, Rd.nil _ _ _⟩
  · refine ⟨_, cap, rfl, hnc, hcm, (fun h => by cases h), fun _ => ⟨g, 0, rfl, ⟨hb, rfl⟩, fun i hi j u hu => ?_⟩⟩
    have hj : j < E.k := by rw [← E.len l[i]]; exact (List.getElem?_eq_some_iff.1 hu).1
    have hx := E.cells_get l i j hj hi
    have hlt : i * E.k + j < l.length * E.k := by
      have h1 : (i + 1) * E.k ≤ l.length * E.k := Nat.mul_le_mul_right _ hi
      rw [Nat.succ_mul] at h1
      omega
    rw [hu, ← ht, List.getElem?_take, if_pos hlt, Array.getElem?_toList] at hx
    rw [show 0 + i * E.k + j = i * E.k + j by omega, heap_cell hg, hx]
end Enc
/-- a new block's cells -/
theorem newCells (w : World) (c : List Value) (t : TypeId) : ∀ j u, c[j]? = some u → (w.alloc (.cells c.toArray t)).cell? ((⟨w.heap.size, 0, none⟩ : Addr).add j) = some u := by
  intro j u hu
  rw [addr_add, heap_cell (Go.Deep.blk_alloc_new _ _), Nat.zero_add]
  simpa using hu
theorem newCellsAt (w : World) (c : List Value) (t : TypeId) (s : Nat) (hs : s = w.heap.size) : ∀ j u, c[j]? = some u → (w.alloc (.cells c.toArray t)).cell? ((⟨s, 0, none⟩ : Addr).add j) = some u := by
  subst hs; exact newCells w c t
/-- append of some structs -/
theorem wpList_append_st' {P : Program} {α : Type} (E : Enc α) (w : World) {ops : Array Oper} {rest : List Oper} {o : Oper} {a : Act} {Q : Exit → Act → World → Prop} (hgd : o.guard = none) (s x : Operand) (t : TypeId)
    (ho : o.op = .call { callee := .builtin .append, args := #[s, x], argTypes := #[t, t] })
    (base : Nat) (e : TypeId) (z : Value) (bytes : Nat) (ht : P.underlying t = some (.slice e)) (hi : (P.info? e).map (fun i => (i.zero, i.size, i.bytes)) = some (some z, E.k, bytes)) (hzs : z.cells.size = E.k)
    (v : Value) (l : List α) (hs : a.eval s = v) (hown : E.Own w base e v l)
    (ad : Addr) (m c : Nat) (l' : List α) (hx : a.eval x = .slice (some ad) m c) (hm : m = l'.length) (hnews : ∀ j u, (E.cells l')[j]? = some u → w.cell? (ad.add j) = some u)
    (h63 : l.length + m ≤ maxLen) (hbytes : (l.length + m) * bytes ≤ 140737488355328) (hbase : base ≤ w.heap.size)
    (h : ∀ v' w', E.Own w' base e v' (l ++ l') → w.grownBy w' v.ownBlock → wpList P ops Q rest (a.put o.dst v') w') : wpList P ops Q (o :: rest) a w := by
  obtain ⟨i0, hi, hz0, hz1, hz2⟩ := info_parts hi
  subst hm
  exact wpList_append_own w hgd s x t ho base e i0 z E.k bytes ht hi hz0 hz1 hz2 hzs E.pos v l.length (E.cells l) hs hown ad l'.length c (E.cells l') hx (E.cells_len l') hnews (E.cells_all l') h63 hbytes hbase (fun v' w' h2 h3 _ => h v' w' (by unfold Enc.Own; rw [E.cells_append, List.length_append]; exact h2) h3)
end Go.Proofs.YtfkoomldncfdnaaGreat
namespace Go.Proofs.YtfkoomldncfdnaaGreat
open Go.RowKit

theorem infoUnit : (Tryz.prog.info? 46).map (fun i => (i.zero, i.size, i.bytes)) = some (some (.agg #[.int .i64 0, .int .i64 0, .int .i64 0, .slice none 0 0]), 4, 48) := by kernel_rfl
/-- one struct in a block of its own -/
theorem Enc.Own.one {α : Type} {E : Enc α} {w : World} {base g : Nat} {t : TypeId} {x : α} (h : w.heap[g]? = some (.cells (E.enc x).toArray t)) (hb : base ≤ g) : E.Own w base t (.slice (some ⟨g, 0, none⟩) 1 1) [x] := by
  refine ⟨E.cells_len [x], .inr ⟨g, 1, _, rfl, hb, h, Nat.le_refl _, by decide, ?_, ?_⟩⟩
  · rw [List.size_toArray, E.len]; omega
  · rw [E.cells_one, List.length_singleton, Nat.one_mul]
    show (E.enc x).take E.k = E.enc x
    exact List.take_of_length_le (by rw [E.len]; exact Nat.le_refl _)
theorem own_lower {w : World} {B B' : Nat} {t : TypeId} {k n : Nat} {v : Value} {xs : List Value} (h : w.ownsRow B t k v n xs) (hb : B' ≤ B) : w.ownsRow B' t k v n xs := by
  refine ⟨h.1, ?_⟩
  rcases h.2 with h0 | ⟨g, cap, cur, e, hg, r⟩
  · exact .inl h0
  · exact .inr ⟨g, cap, cur, e, Nat.le_trans hb hg, r⟩
end Go.Proofs.YtfkoomldncfdnaaGreat
namespace Go.Proofs.YtfkoomldncfdnaaGreat.Gf

def tx (a : Nat) : Nat := if a < 128 then 2 * a else (2 * a - 256) ^^^ 29
def txn : Nat → Nat → Nat
  | 0, a => a
  | n + 1, a => tx (txn n a)
def mulr : Nat → Nat → Nat → Nat → Nat
  | 0, _, _, p => p
  | n + 1, a, b, p => mulr n (tx a) (b / 2) (if b % 2 = 1 then p ^^^ a else p)
def mul (a b : Nat) : Nat := mulr 8 a b 0
def pw (a : Nat) : Nat → Nat
  | 0 => 1
  | n + 1 => mul (pw a n) a
def inv (a : Nat) : Nat := pw a 254

theorem xor_lt {a b : Nat} (ha : a < 256) (hb : b < 256) : a ^^^ b < 256 := Nat.xor_lt_two_pow (n := 8) ha hb

theorem tx_lt {a : Nat} (h : a < 256) : tx a < 256 := by
  unfold tx; split
  · omega
  · exact xor_lt (by omega) (by decide)
theorem txn_lt (n : Nat) {a : Nat} (h : a < 256) : txn n a < 256 := by
  induction n with
  | zero => exact h
  | succ n ih => exact tx_lt ih

theorem tx_xor_all : (List.range 256).all (fun a => (List.range 256).all fun b => tx (a ^^^ b) == tx a ^^^ tx b) = true := by decide +kernel
theorem tx_xor {a b : Nat} (ha : a < 256) (hb : b < 256) : tx (a ^^^ b) = tx a ^^^ tx b := by
  have h := tx_xor_all
  rw [List.all_eq_true] at h
  have h1 := h a (List.mem_range.2 ha)
  rw [List.all_eq_true] at h1
  exact beq_iff_eq.1 (h1 b (List.mem_range.2 hb))
theorem txn_xor (n : Nat) {a b : Nat} (ha : a < 256) (hb : b < 256) : txn n (a ^^^ b) = txn n a ^^^ txn n b := by
  induction n with
  | zero => rfl
  | succ n ih => simp only [txn]; rw [ih, tx_xor (txn_lt n ha) (txn_lt n hb)]
theorem txn_add (m n a : Nat) : txn (m + n) a = txn m (txn n a) := by
  induction m with
  | zero => rw [Nat.zero_add]; rfl
  | succ m ih => rw [Nat.succ_add]; simp only [txn]; rw [ih]
theorem txn_comm (m n a : Nat) : txn m (txn n a) = txn n (txn m a) := by rw [← txn_add, ← txn_add, Nat.add_comm]
theorem txn_zero (n : Nat) : txn n 0 = 0 := by
  induction n with
  | zero => rfl
  | succ n ih => simp only [txn]; rw [ih]; rfl

theorem mulr_lt (n : Nat) {a b p : Nat} (ha : a < 256) (hp : p < 256) : mulr n a b p < 256 := by
  induction n generalizing a b p with
  | zero => exact hp
  | succ n ih =>
    simp only [mulr]
    apply ih (tx_lt ha)
    split
    · exact xor_lt hp ha
    · exact hp
theorem mul_lt {a b : Nat} (ha : a < 256) : mul a b < 256 := mulr_lt 8 ha (by decide)

theorem mulr_tx (n : Nat) {a b p : Nat} (ha : a < 256) (hp : p < 256) : mulr n (tx a) b (tx p) = tx (mulr n a b p) := by
  induction n generalizing a b p with
  | zero => rfl
  | succ n ih =>
    simp only [mulr]
    by_cases hb : b % 2 = 1
    · rw [if_pos hb, if_pos hb, ← tx_xor hp ha]; exact ih (tx_lt ha) (xor_lt hp ha)
    · rw [if_neg hb, if_neg hb]; exact ih (tx_lt ha) hp
theorem tx_zero : tx 0 = 0 := rfl
theorem mul_tx {a b : Nat} (ha : a < 256) : mul (tx a) b = tx (mul a b) := by
  have h := mulr_tx 8 (a := a) (b := b) (p := 0) ha (by decide)
  rw [tx_zero] at h
  exact h
theorem mul_txn (n : Nat) {a b : Nat} (ha : a < 256) : mul (txn n a) b = txn n (mul a b) := by
  induction n with
  | zero => rfl
  | succ n ih => simp only [txn]; rw [mul_tx (txn_lt n ha), ih]

theorem one_mul_all : (List.range 256).all (fun b => mul 1 b == b) = true := by decide +kernel
theorem one_mul {b : Nat} (hb : b < 256) : mul 1 b = b := by
  have h := one_mul_all
  rw [List.all_eq_true] at h
  exact beq_iff_eq.1 (h b (List.mem_range.2 hb))
theorem zero_mulr (n b p : Nat) : mulr n 0 b p = p := by
  induction n generalizing b p with
  | zero => rfl
  | succ n ih =>
    simp only [mulr]
    have : tx 0 = 0 := rfl
    rw [this, ih]
    simp
theorem zero_mul (b : Nat) : mul 0 b = 0 := zero_mulr 8 b 0

def logs (a : Nat) : Nat := ((List.range 255).find? fun i => txn i 1 == a).getD 0
/-- the powers of 2, in their order -/
def exps : Nat → Nat → List Nat
  | 0, _ => []
  | n + 1, a => a :: exps n (tx a)
theorem exps_get (n : Nat) : ∀ (i a : Nat), i < n → (exps n a)[i]? = some (txn i a) := by
  induction n with
  | zero => intro i a h; omega
  | succ n ih =>
    intro i a h
    cases i with
    | zero => rfl
    | succ i =>
      simp only [exps, List.getElem?_cons_succ]
      rw [ih i (tx a) (by omega)]
      rw [show txn i (tx a) = txn i (txn 1 a) from rfl, ← txn_add]
theorem gen_all : (List.range 256).all (fun a => a == 0 || (exps 255 1).contains a) = true := by decide +kernel
theorem exps_length (n a : Nat) : (exps n a).length = n := by
  induction n generalizing a with
  | zero => rfl
  | succ n ih => simp [exps, ih]
theorem gen {a : Nat} (ha : a < 256) (h0 : a ≠ 0) : ∃ i, i < 255 ∧ a = txn i 1 := by
  have h := gen_all
  rw [List.all_eq_true] at h
  have h1 := h a (List.mem_range.2 ha)
  simp only [Bool.or_eq_true, beq_iff_eq, h0, false_or, List.contains_iff_mem] at h1
  obtain ⟨i, hi, he⟩ := List.getElem_of_mem h1
  have hl := exps_length 255 1
  refine ⟨i, by omega, ?_⟩
  have := exps_get 255 i 1 (by omega)
  rw [List.getElem?_eq_getElem hi] at this
  rw [← he]; exact Option.some.inj this
theorem ord : txn 255 1 = 1 := by decide +kernel

theorem gen_mul (i : Nat) {b : Nat} (hb : b < 256) : mul (txn i 1) b = txn i b := by rw [mul_txn i (by decide), one_mul hb]
theorem txn_ne (i : Nat) : txn i 1 ≠ 0 := by
  intro h
  have h1 : txn (255 * i) 1 = 1 := by
    induction i with
    | zero => rfl
    | succ i ih =>
      have e : ∀ k, txn (255 * k) 1 = 1 := by
        intro k
        induction k with
        | zero => rfl
        | succ k ihk => rw [Nat.mul_succ, txn_add, ord, ihk]
      exact e _
  have h2 : txn (255 * i) 1 = txn (254 * i) (txn i 1) := by rw [← txn_add]; congr 1; omega
  rw [h2, h, txn_zero] at h1
  exact absurd h1 (by decide)
theorem ord_mul (k : Nat) : txn (255 * k) 1 = 1 := by
  induction k with
  | zero => rfl
  | succ k ihk => rw [Nat.mul_succ, txn_add, ord, ihk]
theorem txn_mod (i : Nat) : txn (i % 255) 1 = txn i 1 := by
  have h : txn (i % 255 + 255 * (i / 255)) 1 = txn i 1 := by rw [Nat.mod_add_div]
  rw [txn_add, ord_mul] at h
  exact h

theorem mul_zero {a : Nat} (ha : a < 256) : mul a 0 = 0 := by
  by_cases h : a = 0
  · subst h; exact zero_mul 0
  · obtain ⟨i, _, rfl⟩ := gen ha h
    rw [gen_mul i (by decide), txn_zero]
theorem mul_comm {a b : Nat} (ha : a < 256) (hb : b < 256) : mul a b = mul b a := by
  by_cases h : a = 0
  · subst h; rw [zero_mul, mul_zero hb]
  · by_cases h' : b = 0
    · subst h'; rw [zero_mul, mul_zero ha]
    · obtain ⟨i, _, rfl⟩ := gen ha h
      obtain ⟨j, _, rfl⟩ := gen hb h'
      rw [gen_mul i hb, gen_mul j ha, txn_comm]
theorem mul_assoc {a b c : Nat} (ha : a < 256) (hb : b < 256) : mul (mul a b) c = mul a (mul b c) := by
  by_cases h : a = 0
  · subst h; rw [zero_mul, zero_mul, zero_mul]
  · obtain ⟨i, _, rfl⟩ := gen ha h
    rw [gen_mul i hb, mul_txn i hb, gen_mul i (mul_lt hb)]
theorem mul_xor {a b c : Nat} (ha : a < 256) (hb : b < 256) (hc : c < 256) : mul a (b ^^^ c) = mul a b ^^^ mul a c := by
  by_cases h : a = 0
  · subst h; rw [zero_mul, zero_mul, zero_mul]; rfl
  · obtain ⟨i, _, rfl⟩ := gen ha h
    rw [gen_mul i (xor_lt hb hc), gen_mul i hb, gen_mul i hc, txn_xor i hb hc]
theorem mul_one {a : Nat} (ha : a < 256) : mul a 1 = a := by rw [mul_comm ha (by decide), one_mul ha]

theorem pw_lt {a : Nat} (_ha : a < 256) (n : Nat) : pw a n < 256 := by
  induction n with
  | zero => show 1 < 256; decide
  | succ n ih => exact mul_lt ih
theorem inv_lt {a : Nat} (ha : a < 256) : inv a < 256 := pw_lt ha 254
theorem pw_gen (i n : Nat) : pw (txn i 1) n = txn (i * n) 1 := by
  induction n with
  | zero => rfl
  | succ n ih =>
    simp only [pw]
    rw [ih, gen_mul _ (txn_lt i (by decide)), ← txn_add]
    congr 1
theorem pw_add {a : Nat} (ha : a < 256) (m n : Nat) : pw a (m + n) = mul (pw a m) (pw a n) := by
  induction n with
  | zero => rw [show pw a 0 = 1 from rfl, mul_one (pw_lt ha m)]; rfl
  | succ n ih => rw [← Nat.add_assoc]; simp only [pw]; rw [ih, mul_assoc (pw_lt ha m) (pw_lt ha n)]
theorem pw_zero (n : Nat) (h : 0 < n) : pw 0 n = 0 := by
  cases n with
  | zero => omega
  | succ n => exact mul_zero (pw_lt (by decide) n)
theorem inv_zero : inv 0 = 0 := pw_zero 254 (by decide)
theorem pw_ord {a : Nat} (ha : a < 256) (h : a ≠ 0) : pw a 255 = 1 := by
  obtain ⟨i, _, rfl⟩ := gen ha h
  rw [pw_gen, Nat.mul_comm, ord_mul]
theorem pw_mod {a : Nat} (ha : a < 256) (h : a ≠ 0) (n : Nat) : pw a (n % 255) = pw a n := by
  obtain ⟨i, _, rfl⟩ := gen ha h
  rw [pw_gen, pw_gen, ← txn_mod, ← txn_mod (i * n), Nat.mul_mod, Nat.mod_mod, ← Nat.mul_mod]
theorem mul_inv {a : Nat} (ha : a < 256) (h : a ≠ 0) : mul a (inv a) = 1 := by
  rw [mul_comm ha (inv_lt ha)]
  exact pw_ord ha h
theorem mul_ne {a b : Nat} (ha : a < 256) (hb : b < 256) (h : a ≠ 0) (h' : b ≠ 0) : mul a b ≠ 0 := by
  obtain ⟨i, _, rfl⟩ := gen ha h
  obtain ⟨j, _, rfl⟩ := gen hb h'
  rw [gen_mul i hb, ← txn_add]; exact txn_ne _
theorem pw_ne {a : Nat} (ha : a < 256) (h : a ≠ 0) (n : Nat) : pw a n ≠ 0 := by
  obtain ⟨i, _, rfl⟩ := gen ha h
  rw [pw_gen]; exact txn_ne _
theorem inv_ne {a : Nat} (ha : a < 256) (h : a ≠ 0) : inv a ≠ 0 := pw_ne ha h 254
/-- a power of the inverse is the power that is missing to a whole turn -/
theorem pw_inv {a : Nat} (ha : a < 256) (h : a ≠ 0) (k m : Nat) (hk : (k + m) % 255 = 0) : pw (inv a) k = pw a m := by
  obtain ⟨i, _, rfl⟩ := gen ha h
  have hi : inv (txn i 1) = txn (i * 254) 1 := pw_gen i 254
  rw [hi, pw_gen, pw_gen, ← txn_mod, ← txn_mod (i * m)]
  congr 1
  have hk' : ((i * 254 * k) + (i * 254 * m)) % 255 = 0 := by
    rw [← Nat.mul_add, Nat.mul_mod, hk]; simp
  have hm : (i * 254 * m + i * m) % 255 = 0 := by
    rw [show i * 254 * m + i * m = (i * m) * 255 by
      rw [Nat.mul_right_comm, ← Nat.mul_succ]]
    simp
  omega

/-- the power by squaring -/
def raise : Nat → Nat → Nat → Nat → Nat
  | 0, _, _, p => p
  | f + 1, a, n, p => if n = 0 then p else raise f (mul a a) (n / 2) (if n % 2 = 1 then mul p a else p)
theorem pw_sq {a : Nat} (ha : a < 256) (n : Nat) : pw (mul a a) n = pw a (2 * n) := by
  induction n with
  | zero => rfl
  | succ n ih =>
    rw [Nat.mul_succ, pw_add ha]
    simp only [pw]
    rw [ih, one_mul ha]
theorem raise_pw {a p : Nat} (ha : a < 256) (hp : p < 256) (n : Nat) :
    mul (if n % 2 = 1 then mul p a else p) (pw (mul a a) (n / 2)) = mul p (pw a n) := by
  rw [pw_sq ha]
  by_cases h : n % 2 = 1
  · rw [if_pos h, mul_assoc hp ha]
    congr 1
    have : mul a (pw a (2 * (n / 2))) = pw a (2 * (n / 2) + 1) := by
      simp only [pw]; exact mul_comm ha (pw_lt ha _)
    rw [this]; congr 1; omega
  · rw [if_neg h]; congr 2; omega

theorem xor_self_zero (a : Nat) : a ^^^ a = 0 := Nat.xor_self a

/-! ### the document's own product -/
def refUp : Nat → Nat → Nat → Nat → Nat
  | 0, _, _, x => x
  | n + 1, a, b, x => refUp n a b (if b / 2 ^ (7 - n) % 2 = 1 then x ^^^ (a * 2 ^ (7 - n)) else x)
def refDown : Nat → Nat → Nat
  | 0, x => x
  | n + 1, x => refDown n (if x / 2 ^ (n + 8) % 2 = 1 then x ^^^ (285 * 2 ^ n) else x)
def refMul (a b : Nat) : Nat := refDown 7 (refUp 8 a b 0) % 256
theorem bit_xor (x y k : Nat) : (x ^^^ y) / 2 ^ k % 2 = (x / 2 ^ k % 2 + y / 2 ^ k % 2) % 2 := by
  have h := Nat.testBit_xor x y k
  simp only [Nat.testBit_eq_decide_div_mod_eq] at h
  have h1 := Nat.mod_lt ((x ^^^ y) / 2 ^ k) (by decide : 2 > 0)
  have h2 := Nat.mod_lt (x / 2 ^ k) (by decide : 2 > 0)
  have h3 := Nat.mod_lt (y / 2 ^ k) (by decide : 2 > 0)
  generalize (x ^^^ y) / 2 ^ k % 2 = c at *
  generalize x / 2 ^ k % 2 = d at *
  generalize y / 2 ^ k % 2 = e at *
  have : c = 0 ∨ c = 1 := by omega
  have : d = 0 ∨ d = 1 := by omega
  have : e = 0 ∨ e = 1 := by omega
  rcases ‹c = 0 ∨ c = 1› with rfl | rfl <;> rcases ‹d = 0 ∨ d = 1› with rfl | rfl <;> rcases ‹e = 0 ∨ e = 1› with rfl | rfl <;> simp_all
theorem refDown_xor (n : Nat) : ∀ x y : Nat, refDown n (x ^^^ y) = refDown n x ^^^ refDown n y := by
  induction n with
  | zero => intro x y; rfl
  | succ n ih =>
    intro x y
    simp only [refDown]
    rw [← ih]
    congr 1
    have h := bit_xor x y (n + 8)
    have h2 := Nat.mod_lt (x / 2 ^ (n + 8)) (by decide : 2 > 0)
    have h3 := Nat.mod_lt (y / 2 ^ (n + 8)) (by decide : 2 > 0)
    by_cases hx : x / 2 ^ (n + 8) % 2 = 1 <;> by_cases hy : y / 2 ^ (n + 8) % 2 = 1
    · rw [if_pos hx, if_pos hy, if_neg (by rw [h, hx, hy]; decide)]
      rw [show x ^^^ 285 * 2 ^ n ^^^ (y ^^^ 285 * 2 ^ n) = x ^^^ y ^^^ (285 * 2 ^ n ^^^ 285 * 2 ^ n) by ac_rfl, Nat.xor_self, Nat.xor_zero]
    · rw [if_pos hx, if_neg hy, if_pos (by rw [h, hx]; omega)]; ac_rfl
    · rw [if_neg hx, if_pos hy, if_pos (by rw [h, hy]; omega)]; ac_rfl
    · rw [if_neg hx, if_neg hy, if_neg (by rw [h]; omega)]
theorem refDown_base_all : (List.range 8).all (fun k => (List.range 256).all fun a => refDown 7 (a * 2 ^ k) % 256 == txn k a) = true := by decide +kernel
theorem refDown_base {a k : Nat} (ha : a < 256) (hk : k < 8) : refDown 7 (a * 2 ^ k) % 256 = txn k a := by
  have h := refDown_base_all
  rw [List.all_eq_true] at h
  have h1 := h k (List.mem_range.2 hk)
  rw [List.all_eq_true] at h1
  exact beq_iff_eq.1 (h1 a (List.mem_range.2 ha))
theorem xor_mod (x y : Nat) : (x ^^^ y) % 256 = x % 256 ^^^ y % 256 := Nat.xor_mod_two_pow (n := 8)
theorem refUp_eq {a b : Nat} (ha : a < 256) (n : Nat) : ∀ x : Nat, n ≤ 8 →
    refDown 7 (refUp n a b x) % 256 = mulr n (txn (8 - n) a) (b / 2 ^ (8 - n)) (refDown 7 x % 256) := by
  induction n with
  | zero => intro x _; rfl
  | succ n ih =>
    intro x hn
    simp only [refUp, mulr]
    rw [ih _ (by omega)]
    have e : 8 - n = (7 - n) + 1 := by omega
    have e' : 8 - (n + 1) = 7 - n := by omega
    rw [e', e, Nat.pow_succ, ← Nat.div_div_eq_div_mul]
    simp only [txn]
    congr 1
    by_cases hb : b / 2 ^ (7 - n) % 2 = 1
    · rw [if_pos hb, if_pos hb, refDown_xor, xor_mod, refDown_base ha (by omega)]
    · rw [if_neg hb, if_neg hb]
theorem refDown_zero (n : Nat) : refDown n 0 = 0 := by
  induction n with
  | zero => rfl
  | succ n ih => simp [refDown, ih]
theorem refMul_eq {a b : Nat} (ha : a < 256) : refMul a b = mul a b := by
  have h := refUp_eq (b := b) ha 8 0 (by decide)
  rw [refDown_zero] at h
  simpa [refMul, mul, txn] using h
end Go.Proofs.YtfkoomldncfdnaaGreat.Gf
namespace Go.Proofs.YtfkoomldncfdnaaGreat.Mx

/-- an element -/
def Fe : Type := { n : Nat // n < 256 }
instance : DecidableEq Fe := inferInstanceAs (DecidableEq { n : Nat // n < 256 })
def Fe.nat (a : Fe) : Nat := a.1
theorem Fe.nat_lt (a : Fe) : a.nat < 256 := a.2
theorem Fe.ext {a b : Fe} (h : a.nat = b.nat) : a = b := Subtype.ext h
def mk (n : Nat) (h : n < 256) : Fe := ⟨n, h⟩
theorem nat_mk (n : Nat) (h : n < 256) : (mk n h).nat = n := rfl
instance : Zero Fe := ⟨⟨0, by decide⟩⟩
instance : One Fe := ⟨⟨1, by decide⟩⟩
instance : Inhabited Fe := ⟨0⟩
instance : Add Fe := ⟨fun a b => ⟨a.1 ^^^ b.1, Gf.xor_lt a.2 b.2⟩⟩
instance : Mul Fe := ⟨fun a b => ⟨Gf.mul a.1 b.1, Gf.mul_lt a.2⟩⟩
def inv (a : Fe) : Fe := ⟨Gf.inv a.1, Gf.inv_lt a.2⟩
theorem nat_zero : (0 : Fe).nat = 0 := rfl
theorem nat_one : (1 : Fe).nat = 1 := rfl
theorem nat_add (a b : Fe) : (a + b).nat = a.nat ^^^ b.nat := rfl
theorem nat_mul (a b : Fe) : (a * b).nat = Gf.mul a.nat b.nat := rfl
theorem nat_inv (a : Fe) : (inv a).nat = Gf.inv a.nat := by dsimp only [inv, Fe.nat]
theorem eq_zero {a : Fe} : a = 0 ↔ a.nat = 0 := ⟨fun h => by rw [h]; rfl, fun h => Fe.ext h⟩

theorem add_assoc (a b c : Fe) : a + b + c = a + (b + c) := Fe.ext (Nat.xor_assoc _ _ _)
theorem add_comm (a b : Fe) : a + b = b + a := Fe.ext (Nat.xor_comm _ _)
theorem add_zero (a : Fe) : a + 0 = a := Fe.ext (Nat.xor_zero _)
theorem zero_add (a : Fe) : 0 + a = a := Fe.ext (Nat.zero_xor _)
theorem add_self (a : Fe) : a + a = 0 := Fe.ext (Nat.xor_self _)
theorem add_left_comm (a b c : Fe) : a + (b + c) = b + (a + c) := by rw [← add_assoc, add_comm a b, add_assoc]
theorem add_self_left (a b : Fe) : a + (a + b) = b := by rw [← add_assoc, add_self, zero_add]
theorem mul_assoc (a b c : Fe) : a * b * c = a * (b * c) := Fe.ext (Gf.mul_assoc a.2 b.2)
theorem mul_comm (a b : Fe) : a * b = b * a := Fe.ext (Gf.mul_comm a.2 b.2)
theorem mul_left_comm (a b c : Fe) : a * (b * c) = b * (a * c) := by rw [← mul_assoc, mul_comm a b, mul_assoc]
theorem mul_one (a : Fe) : a * 1 = a := Fe.ext (Gf.mul_one a.2)
theorem one_mul (a : Fe) : 1 * a = a := Fe.ext (Gf.one_mul a.2)
theorem mul_zero (a : Fe) : a * 0 = 0 := Fe.ext (Gf.mul_zero a.2)
theorem zero_mul (a : Fe) : 0 * a = 0 := Fe.ext (Gf.zero_mul _)
theorem mul_add (a b c : Fe) : a * (b + c) = a * b + a * c := Fe.ext (Gf.mul_xor a.2 b.2 c.2)
theorem add_mul (a b c : Fe) : (a + b) * c = a * c + b * c := by rw [mul_comm, mul_add, mul_comm c a, mul_comm c b]
theorem mul_inv {a : Fe} (h : a ≠ 0) : a * inv a = 1 := Fe.ext (Gf.mul_inv a.2 (fun h' => h (eq_zero.2 h')))
theorem inv_mul {a : Fe} (h : a ≠ 0) : inv a * a = 1 := by rw [mul_comm, mul_inv h]
theorem one_ne : (1 : Fe) ≠ 0 := by decide
theorem inv_ne {a : Fe} (h : a ≠ 0) : inv a ≠ 0 := fun h' => one_ne (by rw [← mul_inv h, h', mul_zero])
theorem eq_zero_of_mul {a b : Fe} (h : a ≠ 0) (hm : a * b = 0) : b = 0 := by
  have : inv a * (a * b) = 0 := by rw [hm, mul_zero]
  rwa [← mul_assoc, inv_mul h, one_mul] at this
theorem mul_ne {a b : Fe} (h : a ≠ 0) (h' : b ≠ 0) : a * b ≠ 0 := fun hm => h' (eq_zero_of_mul h hm)
theorem add_eq_zero {a b : Fe} (h : a + b = 0) : a = b := by
  have : a + b + b = 0 + b := by rw [h]
  rwa [add_assoc, add_self, add_zero, zero_add] at this
theorem add_ne {a b : Fe} (h : a ≠ b) : a + b ≠ 0 := fun h' => h (add_eq_zero h')

/-- the sum of the first n -/
def sm : Nat → (Nat → Fe) → Fe
  | 0, _ => 0
  | n + 1, f => sm n f + f n
theorem sm_succ (n : Nat) (f : Nat → Fe) : sm (n + 1) f = sm n f + f n := rfl
theorem sm_congr {n : Nat} {f g : Nat → Fe} (h : ∀ i, i < n → f i = g i) : sm n f = sm n g := by
  induction n with
  | zero => rfl
  | succ n ih => rw [sm_succ, sm_succ, ih (fun i hi => h i (by omega)), h n (by omega)]
theorem sm_zero {n : Nat} {f : Nat → Fe} (h : ∀ i, i < n → f i = 0) : sm n f = 0 := by
  induction n with
  | zero => rfl
  | succ n ih => rw [sm_succ, ih (fun i hi => h i (by omega)), h n (by omega), add_zero]
theorem sm_add (n : Nat) (f g : Nat → Fe) : sm n (fun i => f i + g i) = sm n f + sm n g := by
  induction n with
  | zero => exact (add_zero 0).symm
  | succ n ih =>
    simp only [sm_succ, ih]
    rw [add_assoc, add_assoc, add_left_comm (sm n g)]
theorem sm_mul (n : Nat) (a : Fe) (f : Nat → Fe) : sm n (fun i => a * f i) = a * sm n f := by
  induction n with
  | zero => exact (mul_zero a).symm
  | succ n ih => simp only [sm_succ, ih, mul_add]
theorem sm_mul_right (n : Nat) (a : Fe) (f : Nat → Fe) : sm n (fun i => f i * a) = sm n f * a := by
  rw [mul_comm, ← sm_mul]; exact sm_congr fun i _ => mul_comm _ _
theorem sm_swap (n m : Nat) (f : Nat → Nat → Fe) : sm n (fun i => sm m (fun j => f i j)) = sm m (fun j => sm n (fun i => f i j)) := by
  induction n with
  | zero => exact (sm_zero fun _ _ => rfl).symm
  | succ n ih => simp only [sm_succ, ih, sm_add]
theorem sm_one {n : Nat} {f : Nat → Fe} {k : Nat} (hk : k < n) (h : ∀ i, i < n → i ≠ k → f i = 0) : sm n f = f k := by
  induction n with
  | zero => omega
  | succ n ih =>
    rw [sm_succ]
    by_cases e : k = n
    · subst e
      rw [sm_zero (fun i hi => h i (by omega) (by omega)), zero_add]
    · rw [ih (by omega) (fun i hi => h i (by omega)), h n (by omega) (fun h' => e h'.symm), add_zero]
/-- the one more is taken out of the sum -/
theorem sm_off {n : Nat} {f : Nat → Fe} {k : Nat} (hk : k < n) : sm n f = f k + sm n (fun i => if i = k then 0 else f i) := by
  have h1 : sm n f = sm n (fun i => (if i = k then f k else 0) + (if i = k then 0 else f i)) := sm_congr fun i _ => by
    by_cases e : i = k
    · rw [if_pos e, if_pos e, add_zero, e]
    · rw [if_neg e, if_neg e, zero_add]
  rw [h1, sm_add, sm_one hk (fun i _ e => if_neg e), if_pos rfl]
/-- a sum whose last ones are 0 -/
theorem sm_part {n m : Nat} {f : Nat → Fe} (hm : m ≤ n) (h : ∀ i, m ≤ i → i < n → f i = 0) : sm n f = sm m f := by
  induction n with
  | zero => rw [show m = 0 by omega]
  | succ n ih =>
    by_cases e : m = n + 1
    · rw [e]
    · rw [sm_succ, h n (by omega) (by omega), add_zero, ih (by omega) (fun i hi hi' => h i hi (by omega))]

abbrev Mat := Nat → Nat → Fe
def one : Mat := fun i j => if i = j then 1 else 0
def mm (n : Nat) (A B : Mat) : Mat := fun i j => sm n fun k => A i k * B k j
def mv (n : Nat) (A : Mat) (v : Nat → Fe) : Nat → Fe := fun i => sm n fun k => A i k * v k

theorem one_same (i : Nat) : one i i = 1 := if_pos rfl
theorem one_other {i j : Nat} (h : i ≠ j) : one i j = 0 := if_neg h
theorem mv_one {n i : Nat} (hi : i < n) (v : Nat → Fe) : mv n one v i = v i := by
  unfold mv
  rw [sm_one hi (fun k _ e => by rw [one_other (fun h => e h.symm), zero_mul]), one_same, one_mul]
theorem mm_one_left {n i : Nat} (hi : i < n) (A : Mat) (j : Nat) : mm n one A i j = A i j := mv_one hi fun k => A k j
theorem mm_one_right {n j : Nat} (hj : j < n) (A : Mat) (i : Nat) : mm n A one i j = A i j := by
  unfold mm
  rw [sm_one hj (fun k _ e => by rw [one_other e, mul_zero]), one_same, mul_one]
/-- what two matrices do to a column, one behind the other -/
theorem mv_mv (n m : Nat) (A B : Mat) (v : Nat → Fe) (i : Nat) : mv n A (mv m B v) i = mv m (mm n A B) v i := by
  show sm n (fun k => A i k * sm m (fun l => B k l * v l)) = sm m (fun l => sm n (fun k => A i k * B k l) * v l)
  rw [sm_congr (g := fun k => sm m (fun l => A i k * (B k l * v l))) (fun k _ => (sm_mul m (A i k) _).symm), sm_swap]
  exact sm_congr fun l _ => by
    rw [← sm_mul_right]; exact sm_congr fun k _ => (mul_assoc _ _ _).symm
theorem mv_congr {n : Nat} {A B : Mat} {v u : Nat → Fe} {i : Nat} (h : ∀ k, k < n → A i k = B i k) (h' : ∀ k, k < n → v k = u k) : mv n A v i = mv n B u i :=
  sm_congr fun k hk => by rw [h k hk, h' k hk]

/-! ### Gauss and Jordan -/
def swp (A : Mat) (i p : Nat) : Mat := fun r c => if r = i then A p c else if r = p then A i c else A r c
def scl (A : Mat) (i : Nat) (s : Fe) : Mat := fun r c => if r = i then s * A i c else A r c
def elm (A : Mat) (i : Nat) (f : Nat → Fe) : Mat := fun r c => if r = i then A i c else A r c + f r * A i c
/-- the first row from k on, f rows looked at, that is not 0 in column i -/
def pvt (R : Mat) (i : Nat) : Nat → Nat → Nat
  | 0, k => k
  | f + 1, k => if R k i = 0 then pvt R i f (k + 1) else k
theorem pvt_spec (R : Mat) (i : Nat) : ∀ f k, k ≤ pvt R i f k ∧ pvt R i f k ≤ k + f ∧ (∀ j, k ≤ j → j < pvt R i f k → R j i = 0) ∧ (pvt R i f k < k + f → R (pvt R i f k) i ≠ 0) := by
  intro f
  induction f with
  | zero => intro k; exact ⟨Nat.le_refl _, Nat.le_refl _, fun j h h' => by simp [pvt] at h'; omega, fun h => by simp [pvt] at h⟩
  | succ f ih =>
    intro k
    simp only [pvt]
    by_cases e : R k i = 0
    · rw [if_pos e]
      obtain ⟨h1, h2, h3, h4⟩ := ih (k + 1)
      refine ⟨by omega, by omega, fun j hj hj' => ?_, fun h => h4 (by omega)⟩
      by_cases ej : j = k
      · rw [ej]; exact e
      · exact h3 j (by omega) hj'
    · rw [if_neg e]
      exact ⟨Nat.le_refl _, by omega, fun j h h' => by omega, fun _ => e⟩
def scaleOf (R : Mat) (i p : Nat) : Fe := inv (R p i)
def facs (R : Mat) (i p : Nat) : Nat → Fe := fun r => scl (swp R i p) i (scaleOf R i p) r i
/-- one round: what is done to A, as R tells it -/
def rnd (R A : Mat) (i p : Nat) : Mat := elm (scl (swp A i p) i (scaleOf R i p)) i (facs R i p)
def gjs (n : Nat) (M : Mat) : Nat → Option (Mat × Mat)
  | 0 => some (M, one)
  | i + 1 => match gjs n M i with
    | none => none
    | some (R, V) => if pvt R i (n - i) i < n then some (rnd R R i (pvt R i (n - i) i), rnd R V i (pvt R i (n - i) i)) else none

/-- a row of two matrices, applied to two columns -/
def rho (n : Nat) (R V : Mat) (x y : Nat → Fe) (r : Nat) : Fe := sm n (fun c => R r c * x c) + sm n (fun c => V r c * y c)
theorem rho_elm (n : Nat) (R V : Mat) (i : Nat) (f : Nat → Fe) (x y : Nat → Fe) (r : Nat) : rho n (elm R i f) (elm V i f) x y r = if r = i then rho n R V x y i else rho n R V x y r + f r * rho n R V x y i := by
  unfold rho elm
  by_cases e : r = i
  · subst e; simp only [if_true]
  · simp only [if_neg e, add_mul, sm_add, mul_assoc, sm_mul, mul_add]
    rw [add_assoc, add_assoc]; congr 1; rw [add_left_comm]
theorem rho_scl (n : Nat) (R V : Mat) (i : Nat) (s : Fe) (x y : Nat → Fe) (r : Nat) : rho n (scl R i s) (scl V i s) x y r = if r = i then s * rho n R V x y i else rho n R V x y r := by
  unfold rho scl
  by_cases e : r = i
  · subst e; simp only [if_true, mul_assoc, sm_mul, mul_add]
  · simp only [if_neg e]
theorem rho_swp (n : Nat) (R V : Mat) (i p : Nat) (x y : Nat → Fe) (r : Nat) : rho n (swp R i p) (swp V i p) x y r = if r = i then rho n R V x y p else if r = p then rho n R V x y i else rho n R V x y r := by
  unfold rho swp
  by_cases e : r = i
  · subst e; simp only [if_true]
  · simp only [if_neg e]
    by_cases e' : r = p
    · subst e'; simp only [if_true]
    · simp only [if_neg e']
/-- what one round does keeps which columns are made 0 -/
theorem rho_rnd {n : Nat} {R V : Mat} {i p : Nat} (hi : i < n) (hp : p < n) (hR : R p i ≠ 0) (x y : Nat → Fe) :
    (∀ r, r < n → rho n (rnd R R i p) (rnd R V i p) x y r = 0) ↔ ∀ r, r < n → rho n R V x y r = 0 := by
  have hs : scaleOf R i p ≠ 0 := inv_ne hR
  have hr : ∀ r, rho n (rnd R R i p) (rnd R V i p) x y r = if r = i then scaleOf R i p * rho n R V x y p else (if r = p then rho n R V x y i else rho n R V x y r) + facs R i p r * (scaleOf R i p * rho n R V x y p) := by
    intro r
    unfold rnd
    rw [rho_elm, rho_scl, rho_scl, rho_swp, rho_swp]
    by_cases e : r = i
    · simp only [e, if_true]
    · simp only [if_neg e, if_true]
  constructor
  · intro h
    have h0 : rho n R V x y p = 0 := by
      have := h i hi
      rw [hr, if_pos rfl] at this
      exact eq_zero_of_mul hs this
    have h1 : ∀ r, r < n → r ≠ i → (if r = p then rho n R V x y i else rho n R V x y r) = 0 := by
      intro r hrn e
      have := h r hrn
      rwa [hr, if_neg e, h0, mul_zero, mul_zero, add_zero] at this
    intro r hrn
    by_cases e : r = p
    · rw [e]; exact h0
    · by_cases e' : r = i
      · by_cases ep : p = i
        · rw [e', ← ep]; exact h0
        · have := h1 p hp ep
          rw [if_pos rfl] at this
          rw [e']; exact this
      · have := h1 r hrn e'
        rwa [if_neg e] at this
  · intro h r hrn
    rw [hr, h p hp, mul_zero, mul_zero, add_zero]
    by_cases e : r = i
    · rw [if_pos e]
    · rw [if_neg e]
      by_cases e' : r = p
      · rw [if_pos e']; exact h i hi
      · rw [if_neg e']; exact h r hrn
/-- one round makes column i that of the unit, and keeps those ahead of it -/
theorem rnd_unit {n : Nat} {R : Mat} {i p : Nat} (hi : i < n) (hip : i ≤ p) (hp : p < n) (hR : R p i ≠ 0) (hc : ∀ c, c < i → ∀ r, r < n → R r c = one r c) :
    ∀ c, c < i + 1 → ∀ r, r < n → rnd R R i p r c = one r c := by
  intro c hci r hr
  have hval : ∀ r', scl (swp R i p) i (scaleOf R i p) r' c = if r' = i then scaleOf R i p * R p c else if r' = p then R i c else R r' c := by
    intro r'
    unfold scl swp
    by_cases e : r' = i
    · simp only [e, if_true]
    · simp only [if_neg e]
  have hrow : rnd R R i p r c = if r = i then scaleOf R i p * R p c else (if r = p then R i c else R r c) + facs R i p r * (scaleOf R i p * R p c) := by
    show elm _ i _ r c = _
    unfold elm
    rw [hval, hval, if_pos rfl]
    by_cases e : r = i
    · rw [if_pos e, if_pos e]
    · rw [if_neg e, if_neg e, if_neg e]
  rw [hrow]
  by_cases ec : c = i
  · subst ec
    have h1 : scaleOf R c p * R p c = 1 := inv_mul hR
    by_cases e : r = c
    · rw [if_pos e, h1, e, one_same]
    · rw [if_neg e, one_other e, h1, mul_one]
      have hf : facs R c p r = if r = p then R c c else R r c := by
        unfold facs
        rw [hval, if_neg e]
      rw [hf, add_self]
  · have hlt : c < i := by omega
    have h1 : R p c = 0 := by rw [hc c hlt p hp]; exact one_other (by omega)
    rw [h1, mul_zero, mul_zero, add_zero]
    by_cases e : r = i
    · rw [if_pos e, e, one_other (by omega)]
    · rw [if_neg e]
      by_cases e' : r = p
      · rw [if_pos e', hc c hlt i hi, one_other (by omega), one_other (by omega)]
      · rw [if_neg e']; exact hc c hlt r hr
theorem rho_start {n : Nat} (M : Mat) (x y : Nat → Fe) {r : Nat} (hr : r < n) : rho n M one x y r = mv n M x r + y r := by
  unfold rho
  rw [show sm n (fun c => one r c * y c) = y r from mv_one hr y]
  rfl
theorem gjs_inv {n : Nat} {M : Mat} : ∀ i, i ≤ n → ∀ R V, gjs n M i = some (R, V) →
    (∀ c, c < i → ∀ r, r < n → R r c = one r c) ∧ ∀ x y, (∀ r, r < n → rho n R V x y r = 0) ↔ ∀ r, r < n → mv n M x r + y r = 0 := by
  intro i
  induction i with
  | zero =>
    intro _ R V h
    simp only [gjs, Option.some.injEq, Prod.mk.injEq] at h
    obtain ⟨rfl, rfl⟩ := h
    refine ⟨fun c hc => absurd hc (by omega), fun x y => ⟨fun h r hr => ?_, fun h r hr => ?_⟩⟩
    · rw [← rho_start M x y hr]; exact h r hr
    · rw [rho_start M x y hr]; exact h r hr
  | succ i ih =>
    intro hi R V h
    simp only [gjs] at h
    cases hg : gjs n M i with
    | none => rw [hg] at h; cases h
    | some s =>
      obtain ⟨R0, V0⟩ := s
      rw [hg] at h
      simp only at h
      obtain ⟨h1, h2⟩ := ih (by omega) R0 V0 hg
      obtain ⟨p1, p2, _, p4⟩ := pvt_spec R0 i (n - i) i
      by_cases hp : pvt R0 i (n - i) i < n
      · rw [if_pos hp] at h
        simp only [Option.some.injEq, Prod.mk.injEq] at h
        obtain ⟨rfl, rfl⟩ := h
        have hne := p4 (by omega)
        refine ⟨rnd_unit (by omega) p1 hp hne h1, fun x y => (rho_rnd (by omega) hp hne x y).trans (h2 x y)⟩
      · rw [if_neg hp] at h; cases h
/-- where the way comes to its end, what came out is the inverse, from both sides -/
theorem gjs_ok {n : Nat} {M R V : Mat} (h : gjs n M n = some (R, V)) :
    (∀ i, i < n → ∀ j, j < n → mm n M V i j = one i j) ∧ ∀ i, i < n → ∀ j, j < n → mm n V M i j = one i j := by
  obtain ⟨h1, h2⟩ := gjs_inv n (Nat.le_refl n) R V h
  have hrho : ∀ x y r, r < n → rho n R V x y r = x r + mv n V y r := by
    intro x y r hr
    unfold rho
    rw [show sm n (fun c => R r c * x c) = mv n one x r from sm_congr fun c hc => by rw [h1 c hc r hr], mv_one hr]
    rfl
  constructor
  · intro i hi j hj
    have := (h2 (fun k => V k j) (fun k => one k j)).1 (fun r hr => by
      rw [hrho _ _ r hr, show mv n V (fun k => one k j) r = V r j from mm_one_right hj V r, add_self]) i hi
    exact add_eq_zero this
  · intro i hi j hj
    have := (h2 (fun k => one k j) (fun k => M k j)).2 (fun r hr => by
      rw [show mv n M (fun k => one k j) r = M r j from mm_one_right hj M r, add_self]) i hi
    rw [hrho _ _ i hi] at this
    exact (add_eq_zero this).symm
/-- a column that is made 0 -/
def ker (R : Mat) (i c : Nat) : Fe := if c < i then R c i else if c = i then 1 else 0
/-- where it does not, some column but that of zeros is made 0 -/
theorem gjs_none {n : Nat} {M : Mat} : ∀ i, i ≤ n → gjs n M i = none → ∃ x : Nat → Fe, (∃ c, c < n ∧ x c ≠ 0) ∧ ∀ r, r < n → mv n M x r = 0 := by
  intro i
  induction i with
  | zero => intro _ h; cases h
  | succ i ih =>
    intro hi h
    simp only [gjs] at h
    cases hg : gjs n M i with
    | none => exact ih (by omega) hg
    | some s =>
      obtain ⟨R, V⟩ := s
      rw [hg] at h
      simp only at h
      obtain ⟨h1, h2⟩ := gjs_inv i (by omega) R V hg
      obtain ⟨p1, p2, p3, _⟩ := pvt_spec R i (n - i) i
      by_cases hp : pvt R i (n - i) i < n
      · rw [if_pos hp] at h; cases h
      · have hz : ∀ k, i ≤ k → k < n → R k i = 0 := fun k hk hk' => p3 k hk (by omega)
        refine ⟨ker R i, ⟨i, by omega, ?_⟩, ?_⟩
        · unfold ker; rw [if_neg (by omega), if_pos rfl]; exact one_ne
        · have hx := (h2 (ker R i) (fun _ => 0)).1 (fun r hr => ?_)
          · intro r hr
            have := hx r hr
            rwa [add_zero] at this
          · unfold rho ker
            rw [sm_zero (f := fun c => V r c * 0) (fun c _ => mul_zero _), add_zero]
            rw [sm_part (m := i + 1) (by omega) (fun c hc _ => by rw [if_neg (by omega), if_neg (by omega), mul_zero]), sm_succ, if_neg (by omega), if_pos rfl, mul_one]
            rw [sm_congr (g := fun c => one r c * R c i) (fun c hc => by rw [if_pos hc, h1 c hc r hr])]
            by_cases hri : r < i
            · rw [show sm i (fun c => one r c * R c i) = R r i from mv_one hri (fun c => R c i), add_self]
            · rw [sm_zero (fun c hc => by rw [one_other (by omega), zero_mul]), hz r (by omega) hr, add_zero]

/-- what is invertible makes no column but that of zeros 0: the way comes to its end -/
theorem gjs_some {n : Nat} {M : Mat} (h : ∀ x : Nat → Fe, (∀ r, r < n → mv n M x r = 0) → ∀ c, c < n → x c = 0) : ∃ R V, gjs n M n = some (R, V) := by
  cases hg : gjs n M n with
  | none =>
    obtain ⟨x, ⟨c, hc, hx⟩, h0⟩ := gjs_none n (Nat.le_refl n) hg
    exact absurd (h x h0 c hc) hx
  | some s => exact ⟨s.1, s.2, rfl⟩
/-- a matrix some of whose rows make 0 has no inverse -/
theorem gjs_even {n : Nat} {M : Mat} {z : Nat → Fe} {k : Nat} (hk : k < n) (hz : z k ≠ 0) (h : ∀ c, c < n → sm n (fun r => z r * M r c) = 0) : gjs n M n = none := by
  cases hg : gjs n M n with
  | none => rfl
  | some s =>
    obtain ⟨R, V⟩ := s
    have hr := (gjs_ok hg).1
    have h1 : sm n (fun r => z r * mm n M V r k) = 0 := by
      unfold mm
      rw [sm_congr (g := fun r => sm n (fun c => z r * M r c * V c k)) (fun r _ => by rw [← sm_mul]; exact sm_congr fun c _ => (mul_assoc _ _ _).symm), sm_swap]
      exact sm_zero fun c hc => by rw [sm_mul_right, h c hc, zero_mul]
    have h2 : sm n (fun r => z r * mm n M V r k) = z k := by
      rw [sm_one hk (fun r hr' e => by rw [hr r hr' k hk, one_other e, mul_zero]), hr k hk k hk, one_same, mul_one]
    exact absurd (h2.symm.trans h1) hz
theorem gjs_left {n : Nat} {M : Mat} (h : ∃ i, i ≤ n ∧ gjs n M i = none) : gjs n M n = none := by
  obtain ⟨i, hi, h⟩ := h
  have : ∀ d, gjs n M (i + d) = none := by
    intro d
    induction d with
    | zero => exact h
    | succ d ih => show gjs n M ((i + d) + 1) = none; simp only [gjs, ih]
  have := this (n - i)
  rwa [show i + (n - i) = n by omega] at this

/-! ### Cauchy -/
theorem cauchy_ker : ∀ (k : Nat) (x y a : Nat → Fe), (∀ i j, i < k → j < k → i ≠ j → x i ≠ x j) → (∀ i j, i < k → j < k → i ≠ j → y i ≠ y j) → (∀ i j, i < k → j < k → x i ≠ y j) →
    (∀ i, i < k → sm k (fun j => inv (x i + y j) * a j) = 0) → ∀ j, j < k → a j = 0 := by
  intro k
  induction k with
  | zero => intro x y a _ _ _ _ j hj; omega
  | succ k ih =>
    intro x y a hx hy hxy h
    have u1 : ∀ i j, i < k + 1 → j < k + 1 → (x i + y j) * inv (x i + y j) = 1 := fun i j hi hj => mul_inv (add_ne (hxy i j hi hj))
    have key : ∀ j, j < k → a j = 0 := by
      have hb := ih x y (fun j => a j * ((y k + y j) * inv (x k + y j))) (fun i j hi hj => hx i j (by omega) (by omega)) (fun i j hi hj => hy i j (by omega) (by omega)) (fun i j hi hj => hxy i j (by omega) (by omega)) (fun i hi => ?_)
      · intro j hj
        have h0 := hb j hj
        have hne : (y k + y j) * inv (x k + y j) ≠ 0 := mul_ne (add_ne (hy k j (by omega) (by omega) (by omega))) (inv_ne (add_ne (hxy k j (by omega) (by omega))))
        rw [mul_comm] at h0
        exact eq_zero_of_mul hne h0
      · have hterm : ∀ j, j < k → (x i + y k) * (inv (x i + y j) * a j) + (x k + y k) * (inv (x k + y j) * a j) = (x i + x k) * (inv (x i + y j) * (a j * ((y k + y j) * inv (x k + y j)))) := by
          intro j hj
          have e1 := u1 i j (by omega) (by omega)
          have e2 := u1 k j (by omega) (by omega)
          generalize inv (x i + y j) = p at e1 ⊢
          generalize inv (x k + y j) = q at e2 ⊢
          have f1 : (x i + y k) * p = 1 + (y k + y j) * p := by
            rw [← e1, ← add_mul]; congr 1
            rw [add_assoc, add_comm (y k), add_self_left]
          have f2 : (x k + y k) * q = 1 + (y k + y j) * q := by
            rw [← e2, ← add_mul]; congr 1
            rw [add_assoc, add_comm (y k), add_self_left]
          have f3 : p + q = (x i + x k) * (p * q) := by
            have g1 : (x i + y j) * (p * q) = q := by rw [← mul_assoc, e1, one_mul]
            have g2 : (x k + y j) * (p * q) = p := by rw [mul_comm p q, ← mul_assoc, e2, one_mul]
            have g3 : (x i + y j) * (p * q) + (x k + y j) * (p * q) = (x i + x k) * (p * q) := by
              rw [← add_mul]; congr 1
              rw [add_assoc, add_left_comm (y j), add_self, add_zero]
            rw [g1, g2, add_comm] at g3
            exact g3
          rw [← mul_assoc, ← mul_assoc, ← add_mul, f1, f2]
          rw [show (1 : Fe) + (y k + y j) * p + (1 + (y k + y j) * q) = (y k + y j) * (p + q) by rw [mul_add, add_assoc, add_left_comm _ 1, add_self_left], f3]
          simp only [mul_comm, mul_left_comm]
        have hlast : (x i + y k) * (inv (x i + y k) * a k) + (x k + y k) * (inv (x k + y k) * a k) = 0 := by
          rw [← mul_assoc, ← mul_assoc, u1 i k (by omega) (by omega), u1 k k (by omega) (by omega), add_self]
        have hsum : (x i + x k) * sm k (fun j => inv (x i + y j) * (a j * ((y k + y j) * inv (x k + y j)))) = 0 := by
          rw [← sm_mul, ← sm_congr hterm, sm_add, sm_mul, sm_mul]
          have t1 : (x i + y k) * sm k (fun j => inv (x i + y j) * a j) = (x i + y k) * (inv (x i + y k) * a k) := by
            have := h i (by omega)
            rw [sm_succ] at this
            rw [add_eq_zero this]
          have t2 : (x k + y k) * sm k (fun j => inv (x k + y j) * a j) = (x k + y k) * (inv (x k + y k) * a k) := by
            have := h k (by omega)
            rw [sm_succ] at this
            rw [add_eq_zero this]
          rw [t1, t2, hlast]
        exact eq_zero_of_mul (add_ne (hx i k (by omega) (by omega) (by omega))) hsum
    intro j hj
    by_cases e : j = k
    · subst e
      have h0 := h j (by omega)
      rw [sm_succ, sm_zero (fun i hi => by rw [key i hi, mul_zero]), zero_add] at h0
      exact eq_zero_of_mul (inv_ne (add_ne (hxy j j (by omega) (by omega)))) h0
    · exact key j (by omega)
/-- each square part of a Cauchy has an inverse -/
theorem cauchy_some (k : Nat) (x y : Nat → Fe) (M : Mat) (hM : ∀ i j, i < k → j < k → M i j = inv (x i + y j)) (hx : ∀ i j, i < k → j < k → i ≠ j → x i ≠ x j) (hy : ∀ i j, i < k → j < k → i ≠ j → y i ≠ y j) (hxy : ∀ i j, i < k → j < k → x i ≠ y j) :
    ∃ R V, gjs k M k = some (R, V) :=
  gjs_some fun a h => cauchy_ker k x y a hx hy hxy fun i hi => by
    rw [← h i hi]; exact sm_congr fun j hj => by rw [hM i j hi hj]
end Go.Proofs.YtfkoomldncfdnaaGreat.Mx
namespace Go.Proofs.YtfkoomldncfdnaaGreat
open Go.RowKit Mx

/-- an element as the number that lies in a cell -/
def fi (a : Fe) : Int := (a.nat : Int)
theorem fi_lo (a : Fe) : 0 ≤ fi a := Int.natCast_nonneg _
theorem fi_hi (a : Fe) : fi a < 256 := by have := a.nat_lt; unfold fi; omega
theorem fi_nat (a : Fe) : (fi a).toNat = a.nat := Int.toNat_natCast _
theorem fi_zero : fi 0 = 0 := rfl
theorem fi_one : fi 1 = 1 := rfl
theorem fi_eq {a b : Fe} (h : fi a = fi b) : a = b := Fe.ext (by have : (a.nat : Int) = (b.nat : Int) := h; omega)
theorem fi_eq_zero {a : Fe} : fi a = 0 ↔ a = 0 := ⟨fun h => fi_eq (h.trans fi_zero.symm), fun h => by rw [h, fi_zero]⟩

/-- the slice at A of n bytes reads as r, and lies in a block of G -/
def Rd (w : World) (A : Option Addr) (n : Nat) (r : Nat → Fe) (G : Nat → Prop) : Prop :=
  0 < n → ∃ b off, A = some ⟨b, off, none⟩ ∧ G b ∧ ∀ j, j < n → w.cell? ⟨b, off + j, none⟩ = some (.int .u8 (fi (r j)))
/-- the slice at A of n slices reads as the rows of M, row i of length L i, all in blocks of G -/
def RdM (w : World) (A : Option Addr) (n : Nat) (L : Nat → Nat) (M : Mat) (G : Nat → Prop) : Prop :=
  0 < n → ∃ b off, A = some ⟨b, off, none⟩ ∧ G b ∧ ∀ i, i < n → ∃ A' C', w.cell? ⟨b, off + i, none⟩ = some (.slice A' (L i) C') ∧ Rd w A' (L i) (M i) G
theorem Rd.empty (w : World) (A : Option Addr) (r : Nat → Fe) (G : Nat → Prop) : Rd w A 0 r G := fun h => absurd h (by omega)
theorem RdM.empty (w : World) (A : Option Addr) (L : Nat → Nat) (M : Mat) (G : Nat → Prop) : RdM w A 0 L M G := fun h => absurd h (by omega)
theorem Rd.keep {w w' : World} {A : Option Addr} {n : Nat} {r : Nat → Fe} {G : Nat → Prop} (h : Rd w A n r G) (hk : ∀ p v, G p.block → w.cell? p = some v → w'.cell? p = some v) : Rd w' A n r G := by
  intro hn
  obtain ⟨b, off, e, hg, hc⟩ := h hn
  exact ⟨b, off, e, hg, fun j hj => hk _ _ hg (hc j hj)⟩
theorem Rd.mono {w : World} {A : Option Addr} {n : Nat} {r : Nat → Fe} {G G' : Nat → Prop} (h : Rd w A n r G) (hg : ∀ b, G b → G' b) : Rd w A n r G' := by
  intro hn
  obtain ⟨b, off, e, hg', hc⟩ := h hn
  exact ⟨b, off, e, hg _ hg', hc⟩
theorem Rd.congr {w : World} {A : Option Addr} {n : Nat} {r s : Nat → Fe} {G : Nat → Prop} (h : Rd w A n r G) (he : ∀ j, j < n → r j = s j) : Rd w A n s G := by
  intro hn
  obtain ⟨b, off, e, hg', hc⟩ := h hn
  exact ⟨b, off, e, hg', fun j hj => by rw [← he j hj]; exact hc j hj⟩
theorem Rd.kp {w w' : World} {A : Option Addr} {n : Nat} {r : Nat → Fe} {G S : Nat → Prop} (h : Rd w A n r G) (hk : Kp S w w') (hs : ∀ b, G b → ¬ S b) : Rd w' A n r G :=
  h.keep fun _ _ hg hc => hk.cell hc (hs _ hg)
theorem Rd.below {w w' : World} {A : Option Addr} {n B : Nat} {r : Nat → Fe} (h : Rd w A n r (· < B)) (hb : Below B w w') : Rd w' A n r (· < B) :=
  h.keep fun _ _ hg hc => (hb.cell hg).trans hc
theorem RdM.keep {w w' : World} {A : Option Addr} {n : Nat} {L : Nat → Nat} {M : Mat} {G : Nat → Prop} (h : RdM w A n L M G) (hk : ∀ p v, G p.block → w.cell? p = some v → w'.cell? p = some v) : RdM w' A n L M G := by
  intro hn
  obtain ⟨b, off, e, hg, hc⟩ := h hn
  refine ⟨b, off, e, hg, fun i hi => ?_⟩
  obtain ⟨A', C', h1, h2⟩ := hc i hi
  exact ⟨A', C', hk _ _ hg h1, h2.keep hk⟩
theorem RdM.mono {w : World} {A : Option Addr} {n : Nat} {L : Nat → Nat} {M : Mat} {G G' : Nat → Prop} (h : RdM w A n L M G) (hg : ∀ b, G b → G' b) : RdM w A n L M G' := by
  intro hn
  obtain ⟨b, off, e, hg', hc⟩ := h hn
  refine ⟨b, off, e, hg _ hg', fun i hi => ?_⟩
  obtain ⟨A', C', h1, h2⟩ := hc i hi
  exact ⟨A', C', h1, h2.mono hg⟩
theorem RdM.congr {w : World} {A : Option Addr} {n : Nat} {L L' : Nat → Nat} {M M' : Mat} {G : Nat → Prop} (h : RdM w A n L M G) (hl : ∀ i, i < n → L i = L' i) (he : ∀ i, i < n → ∀ j, j < L i → M i j = M' i j) : RdM w A n L' M' G := by
  intro hn
  obtain ⟨b, off, e, hg', hc⟩ := h hn
  refine ⟨b, off, e, hg', fun i hi => ?_⟩
  obtain ⟨A', C', h1, h2⟩ := hc i hi
  rw [← hl i hi]
  exact ⟨A', C', h1, h2.congr (he i hi)⟩
theorem RdM.kp {w w' : World} {A : Option Addr} {n : Nat} {L : Nat → Nat} {M : Mat} {G S : Nat → Prop} (h : RdM w A n L M G) (hk : Kp S w w') (hs : ∀ b, G b → ¬ S b) : RdM w' A n L M G :=
  h.keep fun _ _ hg hc => hk.cell hc (hs _ hg)
theorem RdM.below {w w' : World} {A : Option Addr} {n B : Nat} {L : Nat → Nat} {M : Mat} (h : RdM w A n L M (· < B)) (hb : Below B w w') : RdM w' A n L M (· < B) :=
  h.keep fun _ _ hg hc => (hb.cell hg).trans hc
theorem Rd.old {w w' : World} {A : Option Addr} {n : Nat} {r : Nat → Fe} {G : Nat → Prop} (h : Rd w A n r G) (hb : Below w.heap.size w w') : Rd w' A n r G :=
  h.keep fun _ _ _ hc => (hb.cell (World.block_lt_of_cell? _ _ hc)).trans hc
theorem RdM.old {w w' : World} {A : Option Addr} {n : Nat} {L : Nat → Nat} {M : Mat} {G : Nat → Prop} (h : RdM w A n L M G) (hb : Below w.heap.size w w') : RdM w' A n L M G :=
  h.keep fun _ _ _ hc => (hb.cell (World.block_lt_of_cell? _ _ hc)).trans hc
/-- what reads lies in blocks that are there -/
theorem Rd.in_ {w : World} {A : Option Addr} {n : Nat} {r : Nat → Fe} {G : Nat → Prop} (h : Rd w A n r G) : Rd w A n r (· < w.heap.size) := by
  intro hn
  obtain ⟨b, off, e, _, hc⟩ := h hn
  exact ⟨b, off, e, World.block_lt_of_cell? _ _ (hc 0 hn), hc⟩
theorem RdM.in_ {w : World} {A : Option Addr} {n : Nat} {L : Nat → Nat} {M : Mat} {G : Nat → Prop} (h : RdM w A n L M G) : RdM w A n L M (· < w.heap.size) := by
  intro hn
  obtain ⟨b, off, e, _, hc⟩ := h hn
  refine ⟨b, off, e, ?_, fun i hi => ?_⟩
  · obtain ⟨_, _, h1, _⟩ := hc 0 hn
    exact World.block_lt_of_cell? _ _ h1
  · obtain ⟨A', C', h1, h2⟩ := hc i hi
    exact ⟨A', C', h1, h2.in_⟩
/-- a row of what reads as a matrix -/
theorem RdM.row {w : World} {A : Option Addr} {n : Nat} {L : Nat → Nat} {M : Mat} {G : Nat → Prop} (h : RdM w A n L M G) {i : Nat} (hi : i < n) :
    ∃ b off A' C', A = some ⟨b, off, none⟩ ∧ G b ∧ w.cell? ⟨b, off + i, none⟩ = some (.slice A' (L i) C') ∧ Rd w A' (L i) (M i) G := by
  obtain ⟨b, off, e, hg, hc⟩ := h (by omega)
  obtain ⟨A', C', h1, h2⟩ := hc i hi
  exact ⟨b, off, A', C', e, hg, h1, h2⟩
theorem Rd.at {w : World} {A : Option Addr} {n : Nat} {r : Nat → Fe} {G : Nat → Prop} (h : Rd w A n r G) {j : Nat} (hj : j < n) :
    ∃ b off, A = some ⟨b, off, none⟩ ∧ G b ∧ w.cell? ⟨b, off + j, none⟩ = some (.int .u8 (fi (r j))) := by
  obtain ⟨b, off, e, hg, hc⟩ := h (by omega)
  exact ⟨b, off, e, hg, hc j hj⟩


/-- block g is an own row of bytes whose first m are f -/
def RowAt (w : World) (g m : Nat) (f : Nat → Fe) : Prop := RowV w 5 g m (fun j => .int .u8 (fi (f j)))
namespace RowAt
variable {w w' : World} {g m : Nat} {f f' : Nat → Fe}
theorem cell (h : RowAt w g m f) {j : Nat} (hj : j < m) : w.cell? ⟨g, j, none⟩ = some (.int .u8 (fi (f j))) := RowV.cell h hj
theorem frozen (h : RowAt w g m f) (j : Nat) : w.frozen? ⟨g, j, none⟩ = false := RowV.frozen h j
theorem lt (h : RowAt w g m f) : g < w.heap.size := RowV.lt h
theorem congr (h : RowAt w g m f) (e : ∀ j, j < m → f j = f' j) : RowAt w g m f' := RowV.congr h fun j hj => by rw [e j hj]
theorem of_block (h : RowAt w g m f) (e : w'.heap[g]? = w.heap[g]?) : RowAt w' g m f := RowV.of_block h e
theorem kp {S : Nat → Prop} (h : RowAt w g m f) (hk : Kp S w w') (hs : ¬ S g) : RowAt w' g m f := RowV.kp h hk hs
theorem old (h : RowAt w g m f) (hb : Below w.heap.size w w') : RowAt w' g m f := RowV.old h hb
theorem set (h : RowAt w g m f) (j : Nat) (a : Fe) : RowAt (w.setCell ⟨g, j, none⟩ (.int .u8 (fi a))) g m (fun k => if k = j then a else f k) :=
  RowV.congr (RowV.set h j _) fun k _ => by by_cases e : k = j <;> simp [e]
theorem rd (h : RowAt w g m f) (G : Nat → Prop) (hg : G g) : Rd w (some ⟨g, 0, none⟩) m f G := fun _ => ⟨g, 0, rfl, hg, fun j hj => by rw [Nat.zero_add]; exact h.cell hj⟩
theorem made (w : World) (n : Nat) : RowAt (w.alloc (.cells (madeCells #[.int .u8 0] n) 5)) w.heap.size n (fun _ => 0) := RowV.made w _ _ n
end RowAt

/-- the matrix at block b, of n rows the first k laid: own rows of m elements, row i in block G i from B on, no two in one -/
structure OwnK (w : World) (B b n k m : Nat) (G C : Nat → Nat) (M : Mat) : Prop where
  top : RowV w 42 b n (fun i => if i < k then .slice (some ⟨G i, 0, none⟩) m (C i) else .slice none 0 0)
  cap : ∀ i, i < k → m ≤ C i
  rows : ∀ i, i < k → RowAt w (G i) m (M i)
  inj : ∀ i j, i < k → j < k → G i = G j → i = j
  lo : ∀ i, i < k → B ≤ G i
namespace OwnK
variable {w w' : World} {B b n k m : Nat} {G C : Nat → Nat} {M M' : Mat}
theorem ne (h : OwnK w B b n k m G C M) {i : Nat} (hi : i < k) : G i ≠ b := RowV.ne (h.rows i hi) h.top (by decide)
theorem rd (h : OwnK w B b n k m G C M) (hk : n ≤ k) : RdM w (some ⟨b, 0, none⟩) n (fun _ => m) M (fun x => x = b ∨ ∃ i, i < n ∧ x = G i) := by
  intro _
  refine ⟨b, 0, rfl, .inl rfl, fun i hi => ⟨some ⟨G i, 0, none⟩, C i, ?_, (h.rows i (by omega)).rd _ (.inr ⟨i, hi, rfl⟩)⟩⟩
  rw [Nat.zero_add, h.top.cell hi, if_pos (by omega)]
theorem rdAll (h : OwnK w B b n k m G C M) (hk : n ≤ k) : RdM w (some ⟨b, 0, none⟩) n (fun _ => m) M (· < w.heap.size) :=
  (h.rd hk).mono fun x hx => by
    rcases hx with rfl | ⟨i, hi, rfl⟩
    · exact h.top.lt
    · exact (h.rows i (by omega)).lt
theorem congr (h : OwnK w B b n k m G C M) (e : ∀ i, i < k → ∀ j, j < m → M i j = M' i j) : OwnK w B b n k m G C M' :=
  ⟨h.top, h.cap, fun i hi => (h.rows i hi).congr (e i hi), h.inj, h.lo⟩
theorem kp {S : Nat → Prop} (h : OwnK w B b n k m G C M) (hk : Kp S w w') (hb : ¬ S b) (hs : ∀ i, i < k → ¬ S (G i)) : OwnK w' B b n k m G C M :=
  ⟨h.top.kp hk hb, h.cap, fun i hi => (h.rows i hi).kp hk (hs i hi), h.inj, h.lo⟩
theorem down (h : OwnK w B b n k m G C M) {B' : Nat} (hB : B' ≤ B) : OwnK w B' b n k m G C M := ⟨h.top, h.cap, h.rows, h.inj, fun i hi => Nat.le_trans hB (h.lo i hi)⟩
theorem drew (h : OwnK w B b n k m G C M) : OwnK w.drew B b n k m G C M := ⟨h.top, h.cap, h.rows, h.inj, h.lo⟩
theorem old (h : OwnK w B b n k m G C M) (hb : Below w.heap.size w w') : OwnK w' B b n k m G C M :=
  ⟨h.top.old hb, h.cap, fun i hi => (h.rows i hi).old hb, h.inj, h.lo⟩
theorem start (w : World) (B n m : Nat) (G C : Nat → Nat) (M : Mat) : OwnK (w.alloc (.cells (madeCells #[.slice none 0 0] n) 42)) B w.heap.size n 0 m G C M :=
  ⟨(RowV.made w _ _ n).congr fun j _ => by rw [if_neg (by omega)], fun i hi => absurd hi (by omega), fun i hi => absurd hi (by omega), fun i j hi => absurd hi (by omega), fun i hi => absurd hi (by omega)⟩
/-- a new row is laid -/
theorem push (h : OwnK w B b n k m G C M) (hb : Below w.heap.size w w') {g c : Nat} {f : Nat → Fe} (hg : w.heap.size ≤ g) (hB : B ≤ w.heap.size) (hc : m ≤ c) (hr : RowAt w' g m f) :
    OwnK (w'.setCell ⟨b, k, none⟩ (.slice (some ⟨g, 0, none⟩) m c)) B b n (k + 1) m (fun i => if i = k then g else G i) (fun i => if i = k then c else C i) (fun i => if i = k then f else M i) := by
  have h' := h.old hb
  have hs : ∀ (x : Nat), x ≠ b → (w'.setCell ⟨b, k, none⟩ (.slice (some ⟨g, 0, none⟩) m c)).heap[x]? = w'.heap[x]? := fun x hx => Below.heap_setCell _ _ _ _ hx
  refine ⟨(h'.top.set k _).congr fun i _ => ?_, fun i hi => ?_, fun i hi => ?_, fun i j hi hj e => ?_, fun i hi => ?_⟩
  · by_cases e : i = k
    · simp [e]
    · by_cases e' : i < k
      · simp [e, e', show i < k + 1 by omega]
      · simp [e, e', show ¬ i < k + 1 by omega]
  · by_cases e : i = k
    · simp only [e, if_true]; exact hc
    · simp only [e, if_false]; exact h.cap i (by omega)
  · by_cases e : i = k
    · simp only [e, if_true]; exact hr.of_block (hs _ (by have := h.top.lt; omega))
    · simp only [e, if_false]; exact (h'.rows i (by omega)).of_block (hs _ (h'.ne (by omega)))
  · by_cases e1 : i = k <;> by_cases e2 : j = k
    · omega
    · simp only [e1, e2, if_true, if_false] at e
      have := (h.rows j (by omega)).lt
      omega
    · simp only [e1, e2, if_true, if_false] at e
      have := (h.rows i (by omega)).lt
      omega
    · simp only [e1, e2, if_false] at e
      exact h.inj i j (by omega) (by omega) e
  · by_cases e : i = k
    · simp only [e, if_true]; omega
    · simp only [e, if_false]; exact h.lo i (by omega)
/-- a row is turned -/
theorem turn (h : OwnK w B b n k m G C M) {i : Nat} (hi : i < k) {f : Nat → Fe} (hk : Kp (· = G i) w w') (hr : RowAt w' (G i) m f) : OwnK w' B b n k m G C (fun r => if r = i then f else M r) := by
  refine ⟨h.top.kp hk (fun e => h.ne hi e.symm), h.cap, fun r hr' => ?_, h.inj, h.lo⟩
  by_cases e : r = i
  · simp only [e, if_true]; exact hr
  · simp only [e, if_false]; exact (h.rows r hr').kp hk (fun e' => e (h.inj r i hr' hi e'))
/-- two rows are exchanged -/
theorem swap (h : OwnK w B b n n m G C M) {i p : Nat} (hi : i < n) (hp : p < n) (hr : ∀ r, r < n → RowAt w' (G r) m (M' r))
    (ht : RowV w' 42 b n (fun r => if r = i then .slice (some ⟨G p, 0, none⟩) m (C p) else if r = p then .slice (some ⟨G i, 0, none⟩) m (C i) else .slice (some ⟨G r, 0, none⟩) m (C r))) :
    OwnK w' B b n n m (fun r => if r = i then G p else if r = p then G i else G r) (fun r => if r = i then C p else if r = p then C i else C r) (swp M' i p) := by
  refine ⟨ht.congr fun r hr' => ?_, fun r hr' => ?_, fun r hr' => ?_, fun r s hr' hs e => ?_, fun r hr' => ?_⟩
  · rw [if_pos hr']
    by_cases e : r = i
    · simp only [if_pos e]
    · by_cases e' : r = p
      · simp only [if_neg e, if_pos e']
      · simp only [if_neg e, if_neg e']
  · by_cases e : r = i
    · simp only [e, if_true]; exact h.cap p hp
    · by_cases e' : r = p
      · simp only [if_neg e, if_pos e']; exact h.cap i hi
      · simp only [if_neg e, if_neg e']; exact h.cap r hr'
  · unfold swp
    by_cases e : r = i
    · simp only [e, if_true]; exact hr p hp
    · by_cases e' : r = p
      · simp only [if_neg e, if_pos e']; exact hr i hi
      · simp only [if_neg e, if_neg e']; exact hr r hr'
  · by_cases e1 : r = i <;> by_cases e2 : s = i
    · omega
    · rw [if_pos e1, if_neg e2] at e
      by_cases e3 : s = p
      · rw [if_pos e3] at e
        have := h.inj p i hp hi e; omega
      · rw [if_neg e3] at e
        have := h.inj p s hp hs e; omega
    · rw [if_neg e1, if_pos e2] at e
      by_cases e3 : r = p
      · rw [if_pos e3] at e
        have := h.inj i p hi hp e; omega
      · rw [if_neg e3] at e
        have := h.inj r p hr' hp e; omega
    · rw [if_neg e1, if_neg e2] at e
      by_cases e3 : r = p <;> by_cases e4 : s = p
      · omega
      · rw [if_pos e3, if_neg e4] at e
        have := h.inj i s hi hs e; omega
      · rw [if_neg e3, if_pos e4] at e
        have := h.inj r i hr' hi e; omega
      · rw [if_neg e3, if_neg e4] at e
        exact h.inj r s hr' hs e
  · by_cases e : r = i
    · simp only [e, if_true]; exact h.lo p hp
    · by_cases e' : r = p
      · simp only [if_neg e, if_pos e']; exact h.lo i hi
      · simp only [if_neg e, if_neg e']; exact h.lo r hr'
end OwnK
end Go.Proofs.YtfkoomldncfdnaaGreat
namespace Pt

abbrev Tx := List UInt8
/-- which bytes may stand in a part -/
def ok (c : UInt8) : Bool := (decide (97 ≤ c.toNat) && decide (c.toNat ≤ 122)) || (decide (48 ≤ c.toNat) && decide (c.toNat ≤ 57)) || decide (c.toNat = 46) || decide (c.toNat = 45) || decide (c.toNat = 95)
/-- which texts are parts -/
def part (p : Tx) : Bool := !(p == []) && !(p == [46]) && !(p == [46, 46]) && p.all ok
/-- what is behind p, cut at each sign -/
def cutW (p : Tx) : Tx → List Tx
  | [] => [p]
  | c :: l => if c = 47 then p :: cutW [] l else cutW (p ++ [c]) l
def cut (s : Tx) : List Tx := cutW [] s
def right (s : Tx) : Bool := decide (1 ≤ s.length) && decide (s.length ≤ 24) && (cut s).all part
def parts (s : Tx) : List Tx := if right s = true then cut s else []
def within (s d : Tx) : Bool := right s && right d && (s == d || (d ++ [47]).isPrefixOf s)
/-- parts with a sign between -/
def join : List Tx → Tx
  | [] => []
  | [p] => p
  | p :: q :: r => p ++ 47 :: join (q :: r)

theorem ok_sep : ok 47 = false := by decide
/-- a head with more ahead of it -/
def pre (v : Tx) : List Tx → List Tx
  | [] => [v]
  | p :: r => (v ++ p) :: r
theorem cutW_pre (v : Tx) : ∀ (l p : Tx), cutW (v ++ p) l = pre v (cutW p l)
  | [], p => rfl
  | c :: l, p => by
    unfold cutW
    by_cases h : c = 47
    · rw [if_pos h, if_pos h]; rfl
    · rw [if_neg h, if_neg h, List.append_assoc, cutW_pre v l]
theorem cutW_ne : ∀ (l p : Tx), cutW p l ≠ []
  | [], p => by simp [cutW]
  | c :: l, p => by
    unfold cutW
    split
    · simp
    · exact cutW_ne l _
theorem cut_ne (s : Tx) : cut s ≠ [] := cutW_ne s []
theorem cut_len (s : Tx) : 0 < (cut s).length := List.length_pos_iff.2 (cut_ne s)
theorem right_iff {s : Tx} : right s = true ↔ 1 ≤ s.length ∧ s.length ≤ 24 ∧ (cut s).all part = true := by
  unfold right
  simp only [Bool.and_eq_true, decide_eq_true_eq, and_assoc]
theorem right_false_of {s : Tx} (h : (cut s).all part = false) : right s = false := by
  cases e : right s with
  | false => rfl
  | true => rw [right_iff] at e; rw [e.2.2] at h; cases h
theorem parts_right {s : Tx} (h : right s = true) : parts s = cut s := if_pos h
theorem parts_wrong {s : Tx} (h : right s = false) : parts s = [] := if_neg (by rw [h]; simp)
theorem parts_len {s : Tx} : (0 < (parts s).length) ↔ right s = true := by
  unfold parts
  by_cases h : right s = true
  · rw [if_pos h]; exact ⟨fun _ => h, fun _ => cut_len s⟩
  · rw [if_neg h]; simp [h]
/-- a byte that may not be -/
theorem all_bad : ∀ (l p : Tx), p.all ok = false → (cutW p l).all part = false
  | [], p, h => by
    simp only [cutW, List.all_cons, List.all_nil, Bool.and_true]
    unfold part; rw [h]; simp
  | c :: l, p, h => by
    unfold cutW
    by_cases e : c = 47
    · rw [if_pos e, List.all_cons]
      have : part p = false := by unfold part; rw [h]; simp
      rw [this]; rfl
    · rw [if_neg e]
      exact all_bad l _ (by rw [List.all_append, h]; rfl)
theorem all_append_bad {a b : List Tx} (h : b.all part = false) : (a ++ b).all part = false := by rw [List.all_append, h]; simp

/- what strings.Split makes -/
open Go.Lib in
theorem index_cons (b : UInt8) (l : Tx) (h : b ≠ 47) : index (b :: l) [47] = if index l [47] == -1 then -1 else index l [47] + 1 := by
  have hp : ([47] : List UInt8).isPrefixOf (b :: l) = false := by simp [List.isPrefixOf, Ne.symm h]
  rw [index, hp]; simp
open Go.Lib in
theorem splitK_cons (b : UInt8) (l : Tx) (h : b ≠ 47) : ∀ k, splitK [47] 0 k (b :: l) = pre [b] (splitK [47] 0 k l)
  | 0 => rfl
  | k + 1 => by
    have hi := index_cons b l h
    unfold splitK
    by_cases e : (index l [47] == -1) = true
    · rw [hi, if_pos e, if_pos (by rfl), if_pos e]
      rfl
    · have hge := index_ge l [47]
      have hne : ¬ index l [47] = -1 := fun x => e (beq_iff_eq.2 x)
      obtain ⟨j, hj⟩ : ∃ j : Nat, index l [47] = j := ⟨(index l [47]).toNat, by omega⟩
      have e2 : ¬ ((((j : Int) + 1) == -1) = true) := fun x => by have := beq_iff_eq.1 x; omega
      have e3 : (((j : Int) + 1)).toNat = j + 1 := by omega
      rw [hi, if_neg e, if_neg (by rw [hj]; exact e2), if_neg e, hj, e3, Int.toNat_natCast]
      simp [pre]
open Go.Lib in
theorem split_cut : ∀ s : Tx, splitK [47] 0 (count s [47]) s = cut s
  | [] => by
    rw [count_miss (by simp [index])]; rfl
  | b :: l => by
    by_cases h : b = 47
    · subst h
      have hix : index (47 :: l) [47] = ((0 : Nat) : Int) := by rw [index]; simp [List.isPrefixOf]
      rw [count_cons_eq, Nat.add_comm 1, splitK, if_neg (by rw [hix]; decide), hix]
      show [] :: splitK [47] 0 (count l [47]) l = _
      rw [split_cut l]
      unfold cut
      rw [cutW, if_pos rfl]
    · rw [count_cons_ne b 47 l h, splitK_cons b l h, split_cut l]
      unfold cut
      rw [cutW, if_neg h, show ([] : Tx) ++ [b] = [b] ++ [] from rfl, cutW_pre]

/- parts joined again -/
theorem join_cons (p : Tx) {r : List Tx} (h : r ≠ []) : join (p :: r) = p ++ 47 :: join r := by
  cases r with
  | nil => exact absurd rfl h
  | cons q r => rfl
theorem join_cutW : ∀ (l p : Tx), join (cutW p l) = p ++ l
  | [], p => by simp [cutW, join]
  | c :: l, p => by
    unfold cutW
    by_cases e : c = 47
    · rw [if_pos e, join_cons _ (cutW_ne l []), join_cutW l [], e]; rfl
    · rw [if_neg e, join_cutW l]; simp
theorem join_cut (s : Tx) : join (cut s) = s := by unfold cut; rw [join_cutW]; rfl
theorem cutW_skip : ∀ (q p : Tx) (l : Tx), (∀ c ∈ q, c ≠ 47) → cutW p (q ++ l) = cutW (p ++ q) l
  | [], p, l, _ => by simp
  | c :: q, p, l, h => by
    rw [List.cons_append, cutW, if_neg (h c (List.mem_cons_self ..)), cutW_skip q _ l (fun x hx => h x (List.mem_cons_of_mem _ hx))]
    simp
theorem cut_join : ∀ (ps : List Tx), ps ≠ [] → (∀ p ∈ ps, ∀ c ∈ p, c ≠ 47) → cut (join ps) = ps
  | [], h, _ => absurd rfl h
  | [p], _, h => by
    show cutW [] p = [p]
    have := cutW_skip p [] [] (h p (List.mem_cons_self ..))
    rw [List.append_nil] at this
    rw [this]; rfl
  | p :: q :: r, _, h => by
    rw [join_cons p (by simp)]
    show cutW [] (p ++ 47 :: join (q :: r)) = _
    rw [cutW_skip p [] _ (h p (List.mem_cons_self ..)), cutW, if_pos rfl, List.nil_append]
    show p :: cut (join (q :: r)) = _
    rw [cut_join (q :: r) (by simp) (fun x hx => h x (List.mem_cons_of_mem _ hx))]
theorem part_clean {p : Tx} (h : part p = true) : ∀ c ∈ p, c ≠ 47 := by
  unfold part at h
  simp only [Bool.and_eq_true, List.all_eq_true] at h
  intro c hc e
  have := h.2 c hc
  rw [e, ok_sep] at this
  cases this
/-- one more part behind -/
theorem join_snoc : ∀ (ps : List Tx) (p : Tx), ps ≠ [] → join (ps ++ [p]) = join ps ++ 47 :: p
  | [], _, h => absurd rfl h
  | [q], p, _ => rfl
  | q :: r :: t, p, _ => by
    rw [List.cons_append, join_cons q (by simp), join_snoc (r :: t) p (by simp), join_cons q (by simp)]
    simp
theorem join_append : ∀ (a b : List Tx), a ≠ [] → b ≠ [] → join (a ++ b) = join a ++ 47 :: join b
  | [], _, h, _ => absurd rfl h
  | [p], b, _, h => by rw [List.singleton_append, join_cons p h]; rfl
  | p :: q :: r, b, _, h => by
    rw [List.cons_append, join_cons p (by simp), join_append (q :: r) b (by simp) h, join_cons p (by simp)]
    simp
theorem take_ne {l : List Tx} {k : Nat} (h0 : 0 < k) (h : 0 < l.length) : l.take k ≠ [] := List.length_pos_iff.1 (by rw [List.length_take]; omega)
theorem drop_ne {l : List Tx} {k : Nat} (h : k < l.length) : l.drop k ≠ [] := List.length_pos_iff.1 (by rw [List.length_drop]; omega)
/-- of a path its first parts, joined -/
def upto (s : Tx) (k : Nat) : Tx := join ((cut s).take k)
theorem upto_zero (s : Tx) : upto s 0 = [] := rfl
theorem upto_all (s : Tx) : upto s (cut s).length = s := by unfold upto; rw [List.take_length, join_cut]
theorem upto_succ (s : Tx) (k : Nat) (h : k < (cut s).length) : upto s (k + 1) = (if 0 < k then upto s k ++ [47] else upto s k) ++ (cut s)[k] := by
  unfold upto
  rw [List.take_succ_eq_append_getElem h]
  by_cases e : 0 < k
  · rw [if_pos e, join_snoc _ _ (take_ne e (by omega))]
    simp
  · obtain rfl : k = 0 := by omega
    rw [if_neg e]; rfl
theorem upto_cut {s : Tx} (hs : right s = true) {k : Nat} (h0 : 0 < k) (h : k ≤ (cut s).length) : cut (upto s k) = (cut s).take k := by
  refine cut_join _ (take_ne h0 (by omega)) fun p hp => ?_
  · have := (right_iff.1 hs).2.2
    rw [List.all_eq_true] at this
    exact part_clean (this p (List.mem_of_mem_take hp))
theorem upto_rest {s : Tx} {k : Nat} (h0 : 0 < k) (h : k < (cut s).length) : ∃ t, s = upto s k ++ 47 :: t := by
  have e : join ((cut s).take k ++ (cut s).drop k) = s := by rw [List.take_append_drop, join_cut]
  rw [join_append _ _ (take_ne h0 (by omega)) (drop_ne h)] at e
  exact ⟨_, e.symm⟩
theorem upto_len {s : Tx} {k : Nat} (h0 : 0 < k) (h : k ≤ (cut s).length) : (upto s k).length ≤ s.length := by
  by_cases e : k = (cut s).length
  · rw [e, upto_all]; exact Nat.le_refl _
  · obtain ⟨t, ht⟩ := upto_rest h0 (by omega : k < (cut s).length)
    have := congrArg List.length ht
    rw [List.length_append] at this
    omega
theorem upto_right {s : Tx} (hs : right s = true) {k : Nat} (h0 : 0 < k) (h : k ≤ (cut s).length) : right (upto s k) = true := by
  have hc := upto_cut hs h0 h
  have hr := right_iff.1 hs
  have hl := upto_len h0 h
  rw [right_iff]
  have ha : (cut (upto s k)).all part = true := by
    rw [hc, List.all_eq_true]
    intro p hp
    exact List.all_eq_true.1 hr.2.2 p (List.mem_of_mem_take hp)
  refine ⟨?_, by omega, ha⟩
  rcases Nat.eq_zero_or_pos (upto s k).length with e | e
  · rw [List.length_eq_zero_iff.1 e] at ha
    exact absurd ha (by decide)
  · exact e
theorem upto_within {s : Tx} (hs : right s = true) {k : Nat} (h0 : 0 < k) (h : k ≤ (cut s).length) : within s (upto s k) = true := by
  unfold within
  rw [hs, upto_right hs h0 h]
  by_cases e : k = (cut s).length
  · rw [e, upto_all]; simp
  · obtain ⟨t, ht⟩ := upto_rest h0 (by omega : k < (cut s).length)
    have : (upto s k ++ [47]).isPrefixOf s = true := by
      rw [List.isPrefixOf_iff_prefix]
      exact ⟨t, by rw [List.append_assoc]; exact ht.symm⟩
    rw [this]; simp
theorem within_upto {s : Tx} (hs : right s = true) {k : Nat} (h0 : 0 < k) (h : k ≤ (cut s).length) : within (upto s k) s = (upto s k == s) := by
  unfold within
  rw [hs, upto_right hs h0 h]
  have hl := upto_len h0 h
  have : (s ++ [47]).isPrefixOf (upto s k) = false := by
    cases e : (s ++ [47]).isPrefixOf (upto s k) with
    | false => rfl
    | true =>
      have := (List.isPrefixOf_iff_prefix.1 e).length_le
      rw [List.length_append] at this
      simp at this; omega
  rw [this]; simp
end Pt
namespace Go.Proofs.YtfkoomldncfdnaaGreat
open Go.RowKit
open Pt (Tx)

/-- a text as a string -/
def tx (l : Tx) : ByteArray := ⟨l.toArray⟩
theorem tx_toList (l : Tx) : (tx l).toList = l := ByteArray.toList_mk l
theorem tx_data (l : Tx) : (tx l).data.toList = l := by simp [tx]
theorem tx_size (l : Tx) : (tx l).size = l.length := by simp [tx, ByteArray.size]
theorem tx_eta (s : ByteArray) : tx s.data.toList = s := by apply ByteArray.ext; simp [tx]
theorem tx_of {s : ByteArray} {l : Tx} (h : s.data.toList = l) : s = tx l := by rw [← h, tx_eta]
theorem tx_append (a b : Tx) : tx a ++ tx b = tx (a ++ b) := ByteArray.mk_append_mk a b
theorem tx_extract (l : Tx) (i j : Nat) : (tx l).extract i j = tx ((l.drop i).take (j - i)) := ByteArray.extract_mk l i j
theorem tx_get (l : Tx) (k : Nat) (h : k < (tx l).size) (h' : k < l.length) : (tx l)[k]'h = l[k] := by
  show (tx l).data[k]'_ = _
  simp [tx]
theorem tx_inj {a b : Tx} (h : tx a = tx b) : a = b := by rw [← tx_toList a, h, tx_toList]
end Go.Proofs.YtfkoomldncfdnaaGreat
namespace Go.Proofs.YtfkoomldncfdnaaGreat

theorem grown_refl (w : World) (o : Option Nat) : w.grownBy w o := ⟨rfl, rfl, rfl, Nat.le_refl _, fun _ _ _ => rfl⟩
/-- append of what may be nil -/
theorem wpList_append_opt {P : Program} (w : World) {ops : Array Oper} {rest : List Oper} {o : Oper} {a : Act} {Q : Exit → Act → World → Prop} (hgd : o.guard = none) (s x : Operand) (t : TypeId)
    (ho : o.op = .call { callee := .builtin .append, args := #[s, x], argTypes := #[t, t] })
    (base : Nat) (e : TypeId) (i : TypeInfo) (z : Value) (bytes : Nat) (ht : P.underlying t = some (.slice e)) (hi : P.info? e = some i) (hz : i.zero = some z)
    (hsize : i.size = 1) (hby : i.bytes = bytes) (hzs : z.cells.size = 1)
    (v : Value) (n : Nat) (xs : List Value) (hs : a.eval s = v) (hown : w.ownsRow base e 1 v n xs)
    (A : Option Addr) (m c : Nat) (news : List Value) (hx : a.eval x = .slice A m c) (hA : A = none → m = 0 ∧ c = 0) (hl : news.length = m) (hnews : ∀ ad, A = some ad → ∀ j u, news[j]? = some u → w.cell? (ad.add j) = some u) (h1 : ∀ u ∈ news, u.oneCell' = true)
    (h63 : n + m ≤ maxLen) (hbytes : (n + m) * bytes ≤ 140737488355328) (hbase : base ≤ w.heap.size)
    (h : ∀ v' w', w'.ownsRow base e 1 v' (n + m) (xs ++ news) → w.grownBy w' v.ownBlock → wpList P ops Q rest (a.put o.dst v') w') : wpList P ops Q (o :: rest) a w := by
  cases A with
  | none =>
    obtain ⟨rfl, rfl⟩ := hA rfl
    have hn : news = [] := List.length_eq_zero_iff.1 hl
    subst hn
    refine wpList_append_own_none hgd s x t ho base e i 1 ht hi v n xs hs hown hx (h v w ?_ (grown_refl w _))
    rw [List.append_nil]; exact hown
  | some ad =>
    exact wpList_append_own w hgd s x t ho base e i z 1 bytes ht hi hz hsize hby hzs (by decide) v n xs hs hown ad m c news hx (by rw [hl, Nat.mul_one]) (hnews ad rfl) h1 h63 hbytes hbase (fun v' w' h2 h3 _ => h v' w' h2 h3)
end Go.Proofs.YtfkoomldncfdnaaGreat
