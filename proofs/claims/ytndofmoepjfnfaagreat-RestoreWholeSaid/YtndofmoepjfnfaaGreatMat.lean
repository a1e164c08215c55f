/- A seal in its block. No function of the program. A row of numbers in memory as a list, and a seal in its block. No function of the program. Seals in a row: each in five cells, its labels in a row of their own. No function of the program. A row of structs made longer by append: where it lies then; and a row of seals with their labels. No function of the program. How package group compares two seals: by their numbers. -/
import Derived.Test.YtndofmoepjfnfaaGreatMab
import Derived.Test.YtndofmoepjfnfaaGreatMac
import Derived.Test.YtndofmoepjfnfaaGreatRows
import Derived.Test.YtndofmoepjfnfaaGreatMah
import Derived.Test.YtndofmoepjfnfaaGreatMas
import Derived.Test.YtndofmoepjfnfaaGreatMak
import Derived.Deep.AppendLies
import Derived.Handy
import Derived.WalkSpells
import Derived.WalkLawsBesides
namespace Go.Proofs.YtndofmoepjfnfaaGreat
open Go.RowKit
open Pt (Tx)

/-- the seal in a block -/
def sealObj (n x d p : Int) (A : Option Addr) (m C : Nat) : Obj := .cells #[.int .i64 n, .int .i64 x, .int .i64 d, .int .i64 p, .slice A m C] 90
theorem seal5 {w : World} {B : Nat} {n x d p : Int} {A : Option Addr} {m C : Nat} (h : w.heap[B]? = some (sealObj n x d p A m C)) :
    w.cell? ⟨B, 0, none⟩ = some (.int .i64 n) ∧ w.cell? ⟨B, 1, none⟩ = some (.int .i64 x) ∧ w.cell? ⟨B, 2, none⟩ = some (.int .i64 d) ∧ w.cell? ⟨B, 3, none⟩ = some (.int .i64 p) ∧ w.cell? ⟨B, 4, none⟩ = some (.slice A m C) :=
  ⟨heap_cell h, heap_cell h, heap_cell h, heap_cell h, heap_cell h⟩
theorem seal_free {w : World} {B : Nat} {n x d p : Int} {A : Option Addr} {m C : Nat} (h : w.heap[B]? = some (sealObj n x d p A m C)) :
    w.frozen? ⟨B, 0, none⟩ = false ∧ w.frozen? ⟨B, 1, none⟩ = false ∧ w.frozen? ⟨B, 2, none⟩ = false ∧ w.frozen? ⟨B, 3, none⟩ = false ∧ w.frozen? ⟨B, 4, none⟩ = false :=
  ⟨heap_frozen h, heap_frozen h, heap_frozen h, heap_frozen h, heap_frozen h⟩
theorem below_obj {o : Obj} {B : Nat} {x y : World} (hb : Below x.heap.size x y) (h : x.heap[B]? = some o) : y.heap[B]? = some o :=
  (hb.block B (by obtain ⟨hlt, _⟩ := Array.getElem?_eq_some_iff.1 h; exact hlt)).trans h
end Go.Proofs.YtndofmoepjfnfaaGreat

namespace Go.Proofs.YtndofmoepjfnfaaGreat
open Go.RowKit
open Pt (Tx)

/-- a seal as a value: where its labels lie, and how much room there is -/
structure Sx where
  s : Rc.S
  A : Option Addr
  C : Nat
def Sx.num (x : Sx) : Int := x.s.number
def Sx.enc (x : Sx) : List Value := [.int .i64 x.s.number, .int .i64 x.s.index, .int .i64 x.s.data, .int .i64 x.s.parity, .slice x.A x.s.labels.length x.C]
def Sx.val (x : Sx) : Value := .agg #[.int .i64 x.s.number, .int .i64 x.s.index, .int .i64 x.s.data, .int .i64 x.s.parity, .slice x.A x.s.labels.length x.C]
def encX : Enc Sx where
  k := 5
  pos := by decide
  enc := Sx.enc
  len _ := rfl
  one x u hu := by
    simp only [Sx.enc, List.mem_cons, List.not_mem_nil, or_false] at hu
    rcases hu with rfl | rfl | rfl | rfl | rfl <;> rfl
theorem infoSeal : (Tryz.prog.info? 90).map (fun i => (i.zero, i.size, i.bytes)) = some (some (.agg #[.int .i64 0, .int .i64 0, .int .i64 0, .int .i64 0, .slice none 0 0]), 5, 56) := by kernel_rfl
/-- its labels read, in a block of G -/
structure Sx.Ok (x : Sx) (w : World) (G : Nat → Prop) : Prop where
  le : x.s.labels.length ≤ x.C
  max : x.C ≤ maxLen
  nil : x.A = none → x.s.labels.length = 0 ∧ x.C = 0
  rd : RdZ w x.A x.s.labels G
theorem Sx.Ok.mono {x : Sx} {w : World} {G G' : Nat → Prop} (h : x.Ok w G) (hg : ∀ b, G b → G' b) : x.Ok w G' := ⟨h.le, h.max, h.nil, h.rd.mono hg⟩
theorem Sx.Ok.old {x : Sx} {w w' : World} {G : Nat → Prop} (h : x.Ok w G) (hb : Below w.heap.size w w') : x.Ok w' G := ⟨h.le, h.max, h.nil, h.rd.old hb⟩
theorem Sx.Ok.kp {x : Sx} {w w' : World} {G S : Nat → Prop} (h : x.Ok w G) (hk : Kp S w w') (hs : ∀ b, G b → ¬ S b) : x.Ok w' G := ⟨h.le, h.max, h.nil, h.rd.kp hk hs⟩
theorem Sx.Ok.in_ {x : Sx} {w : World} {G : Nat → Prop} (h : x.Ok w G) : x.Ok w (fun b => G b ∧ b < w.heap.size) := ⟨h.le, h.max, h.nil, h.rd.in_⟩
/-- in block g, from off on, lies this list of seals; it is no frozen one -/
def SitsX (w : World) (g off : Nat) (l : List Sx) : Prop :=
  ∃ cur : Array Value, w.heap[g]? = some (.cells cur 90 (0, 0)) ∧ off + l.length * 5 ≤ cur.size ∧ ∀ i (hi : i < l.length) j u, (l[i].enc)[j]? = some u → cur[off + i * 5 + j]? = some u
namespace SitsX
variable {w w' : World} {g off : Nat} {l : List Sx}
theorem at_ (h : SitsX w g off l) {i : Nat} (hi : i < l.length) : w.cell? ⟨g, off + i * 5, none⟩ = some (.int .i64 l[i].s.number) ∧ w.cell? ⟨g, off + i * 5 + 1, none⟩ = some (.int .i64 l[i].s.index) ∧ w.cell? ⟨g, off + i * 5 + 2, none⟩ = some (.int .i64 l[i].s.data)
    ∧ w.cell? ⟨g, off + i * 5 + 3, none⟩ = some (.int .i64 l[i].s.parity) ∧ w.cell? ⟨g, off + i * 5 + 4, none⟩ = some (.slice l[i].A l[i].s.labels.length l[i].C) := by
  obtain ⟨cur, hg, _, hc⟩ := h
  rw [heap_cell hg, heap_cell hg, heap_cell hg, heap_cell hg, heap_cell hg]
  exact ⟨hc i hi 0 _ rfl, hc i hi 1 _ rfl, hc i hi 2 _ rfl, hc i hi 3 _ rfl, hc i hi 4 _ rfl⟩
theorem free (h : SitsX w g off l) (k : Nat) : w.frozen? ⟨g, k, none⟩ = false := by
  obtain ⟨cur, hg, _⟩ := h
  exact heap_frozen hg
theorem lt (h : SitsX w g off l) : g < w.heap.size := by
  obtain ⟨cur, hg, _⟩ := h
  exact heap_lt hg
theorem block (h : SitsX w g off l) (e : w'.heap[g]? = w.heap[g]?) : SitsX w' g off l := by
  obtain ⟨cur, hg, hc⟩ := h
  exact ⟨cur, e.trans hg, hc⟩
theorem old (h : SitsX w g off l) (hb : Below w.heap.size w w') : SitsX w' g off l := h.block (hb.block g h.lt)
theorem drew (h : SitsX w g off l) : SitsX w.drew g off l := h
/-- one of them is stored into -/
theorem set (h : SitsX w g off l) {i : Nat} (hi : i < l.length) (x : Sx) :
    SitsX (((((w.setCell ⟨g, off + i * 5, none⟩ (.int .i64 x.s.number)).setCell ⟨g, off + i * 5 + 1, none⟩ (.int .i64 x.s.index)).setCell ⟨g, off + i * 5 + 2, none⟩ (.int .i64 x.s.data)).setCell ⟨g, off + i * 5 + 3, none⟩ (.int .i64 x.s.parity)).setCell ⟨g, off + i * 5 + 4, none⟩ (.slice x.A x.s.labels.length x.C)) g off (l.set i x) := by
  obtain ⟨cur, hg, hs, hc⟩ := h
  refine ⟨_, heap_set (heap_set (heap_set (heap_set (heap_set hg _) _) _) _) _, by simpa using hs, fun k hk j u hu => ?_⟩
  rw [List.length_set] at hk
  have hin : off + i * 5 + 5 ≤ cur.size := by
    have : (i + 1) * 5 ≤ l.length * 5 := Nat.mul_le_mul_right _ hi
    omega
  have hj : j < 5 := by
    have := (List.getElem?_eq_some_iff.1 hu).1
    simpa [Sx.enc] using this
  simp only [Array.getElem?_setIfInBounds, Array.size_setIfInBounds]
  by_cases e : k = i
  · subst e
    rw [List.getElem_set_self] at hu
    match j, hu, hj with
    | 0, hu, _ => cases hu; simp (disch := omega); omega
    | 1, hu, _ => cases hu; simp (disch := omega); omega
    | 2, hu, _ => cases hu; simp (disch := omega); omega
    | 3, hu, _ => cases hu; simp (disch := omega); omega
    | 4, hu, _ => cases hu; simp (disch := omega); omega
    | j + 5, _, hj => omega
  · rw [List.getElem_set_ne (fun h => e h.symm)] at hu
    rw [if_neg (by omega), if_neg (by omega), if_neg (by omega), if_neg (by omega), if_neg (by omega)]
    exact hc k hk j u hu
theorem kp_set (w : World) (g a b c d e : Nat) (u0 u1 u2 u3 u4 : Value) : Kp (· = g) w (((((w.setCell ⟨g, a, none⟩ u0).setCell ⟨g, b, none⟩ u1).setCell ⟨g, c, none⟩ u2).setCell ⟨g, d, none⟩ u3).setCell ⟨g, e, none⟩ u4) :=
  ((((Kp.store _ _ _ _).trans (Kp.store _ _ _ _)).trans (Kp.store _ _ _ _)).trans (Kp.store _ _ _ _)).trans (Kp.store _ _ _ _)
/-- as a row that reads -/
theorem rd (h : SitsX w g off l) {G : Nat → Prop} (hg : G g) : encX.Rd w (some ⟨g, off, none⟩) l G := fun hn => by
  obtain ⟨cur, hb, _, hc⟩ := h
  refine ⟨g, off, rfl, hg, fun i hi j u hu => ?_⟩
  rw [heap_cell hb]; exact hc i hi j u hu
theorem take (h : SitsX w g off l) (k : Nat) : SitsX w g off (l.take k) := by
  obtain ⟨cur, hb, hs, hc⟩ := h
  refine ⟨cur, hb, ?_, fun i hi j u hu => ?_⟩
  · rw [List.length_take]
    have : min k l.length * 5 ≤ l.length * 5 := Nat.mul_le_mul_right _ (Nat.min_le_right _ _)
    omega
  · rw [List.length_take] at hi
    rw [List.getElem_take] at hu
    exact hc i (by omega) j u hu
end SitsX
/-- a row that a call owns, as one that sits in a block -/
theorem sits_own {w : World} {base : Nat} {v : Value} {l : List Sx} (h : encX.Own w base 90 v l) : (v = .slice none 0 0 ∧ l = []) ∨ ∃ g C, v = .slice (some ⟨g, 0, none⟩) l.length C ∧ l.length ≤ C ∧ C ≤ maxLen ∧ base ≤ g ∧ SitsX w g 0 l := by
  rcases h.2 with ⟨rfl, h0⟩ | ⟨g, cap, cur, rfl, hb, hg, hnc, hcm, hs, ht⟩
  · exact .inl ⟨rfl, List.length_eq_zero_iff.1 h0⟩
  · refine .inr ⟨g, cap, rfl, hnc, hcm, hb, cur, hg, ?_, fun i hi j u hu => ?_⟩
    · rw [hs, Nat.zero_add]; exact Nat.mul_le_mul_right _ hnc
    · have hj : j < 5 := by
        have := (List.getElem?_eq_some_iff.1 hu).1
        simpa [Sx.enc] using this
      have hx := encX.cells_get l i j hj hi
      have hlt : i * 5 + j < l.length * 5 := by
        have h1 : (i + 1) * 5 ≤ l.length * 5 := Nat.mul_le_mul_right _ hi
        omega
      rw [← ht, List.getElem?_take] at hx
      have e5 : encX.k = 5 := rfl
      rw [e5, if_pos hlt, Array.getElem?_toList] at hx
      rw [Nat.zero_add, hx]; exact hu
end Go.Proofs.YtndofmoepjfnfaaGreat
namespace Go.Proofs.YtndofmoepjfnfaaGreat
open Go.RowKit
open Pt (Tx)

/-- append of some structs, and where the row lies then -/
theorem run_append_st {P : Program} {α : Type} (E : Enc α) (w : World) (t : TypeId) (base : Nat) (e : TypeId) (z : Value) (bytes : Nat) (ht : P.underlying t = some (.slice e)) (hi : (P.info? e).map (fun i => (i.zero, i.size, i.bytes)) = some (some z, E.k, bytes)) (hzs : z.cells.size = E.k)
    (v : Value) (l : List α) (hown : E.Own w base e v l) (ad : Addr) (m c : Nat) (l' : List α) (hm : m = l'.length) (hm0 : 0 < m) (hnews : ∀ j u, (E.cells l')[j]? = some u → w.cell? (ad.add j) = some u)
    (h63 : l.length + m ≤ maxLen) (hbytes : (l.length + m) * bytes ≤ 140737488355328) (hbase : base ≤ w.heap.size) (H : Nat) (hH : w.heap.size = H) :
    ∃ g cap w', (∀ ty, (Builtin.append_ #[t, t] ty #[v, .slice (some ad) m c]).run P w = .ok (.slice (some ⟨g, 0, none⟩) (l.length + m) cap) w') ∧ E.Own w' base e (.slice (some ⟨g, 0, none⟩) (l.length + m) cap) (l ++ l') ∧ w.grownBy w' v.ownBlock ∧ (v.ownBlock = some g ∨ g = H) ∧ g < w'.heap.size := by
  obtain ⟨i0, hi, hz0, hz1, hz2⟩ := info_parts hi
  subst hm
  obtain ⟨g, cap, w', h1, h2, h3, h4, h5⟩ := run_append_lies (P := P) w t t base e i0 z E.k bytes ht hi hz0 hz1 hz2 hzs E.pos v l.length (E.cells l) hown ad l'.length c (E.cells l') (E.cells_len l') hnews (E.cells_all l') hm0 h63 hbytes hbase H hH
  exact ⟨g, cap, w', fun ty => h1, by unfold Enc.Own; rw [E.cells_append, List.length_append]; exact h2, h3, h4, h5⟩
/-- the same at a plain region's list -/
theorem wpList_append_stL {P : Program} {α : Type} (E : Enc α) (w : World) {ops : Array Oper} {rest : List Oper} {o : Oper} {a : Act} {Q : Exit → Act → World → Prop} (hgd : o.guard = none) (s x : Operand) (t : TypeId)
    (ho : o.op = .call { callee := .builtin .append, args := #[s, x], argTypes := #[t, t] })
    (base : Nat) (e : TypeId) (z : Value) (bytes : Nat) (ht : P.underlying t = some (.slice e)) (hi : (P.info? e).map (fun i => (i.zero, i.size, i.bytes)) = some (some z, E.k, bytes)) (hzs : z.cells.size = E.k)
    (v : Value) (l : List α) (hs : a.eval s = v) (hown : E.Own w base e v l)
    (ad : Addr) (m c : Nat) (l' : List α) (hx : a.eval x = .slice (some ad) m c) (hm : m = l'.length) (hm0 : 0 < m) (hnews : ∀ j u, (E.cells l')[j]? = some u → w.cell? (ad.add j) = some u)
    (h63 : l.length + m ≤ maxLen) (hbytes : (l.length + m) * bytes ≤ 140737488355328) (hbase : base ≤ w.heap.size) (H : Nat) (hH : w.heap.size = H)
    (h : ∀ g cap w', E.Own w' base e (.slice (some ⟨g, 0, none⟩) (l.length + m) cap) (l ++ l') → w.grownBy w' v.ownBlock → (v.ownBlock = some g ∨ g = H) → g < w'.heap.size → wpList P ops Q rest (a.put o.dst (.slice (some ⟨g, 0, none⟩) (l.length + m) cap)) w') : wpList P ops Q (o :: rest) a w := by
  obtain ⟨i0, hi, hz0, hz1, hz2⟩ := info_parts hi
  subst hm
  exact wpList_append_lies w hgd s x t ho base e i0 z E.k bytes ht hi hz0 hz1 hz2 hzs E.pos v l.length (E.cells l) hs hown ad l'.length c (E.cells l') hx (E.cells_len l') hnews (E.cells_all l') hm0 h63 hbytes hbase H hH (fun g cap w' h2 h3 h4 h5 => h g cap w' (by unfold Enc.Own; rw [E.cells_append, List.length_append]; exact h2) h3 h4 h5)
/-- a row that reads, as the cells that are to be appended -/
theorem Enc.Rd.news {α : Type} {E : Enc α} {w : World} {ad : Addr} {l : List α} {G : Nat → Prop} (h : E.Rd w (some ad) l G) : ∀ j u, (E.cells l)[j]? = some u → w.cell? (ad.add j) = some u := by
  intro j u hu
  have hj := (List.getElem?_eq_some_iff.1 hu).1
  rw [E.cells_len] at hj
  have hi : j / E.k < l.length := Nat.div_lt_of_lt_mul (by rw [Nat.mul_comm]; exact hj)
  have hr : j % E.k < E.k := Nat.mod_lt _ E.pos
  have hjj : j / E.k * E.k + j % E.k = j := by rw [Nat.mul_comm]; exact Nat.div_add_mod j E.k
  obtain ⟨b, off, e, -, hc⟩ := h.at_ hi
  cases e
  have h1 := E.cells_get l (j / E.k) (j % E.k) hr hi
  rw [hjj, hu] at h1
  have h2 := hc (j % E.k) u h1.symm
  rw [addr_add, ← h2]
  congr 2; omega
/-- append of what may be nil -/
theorem wpList_append_optS {P : Program} {α : Type} (E : Enc α) (w : World) {ops : Array Oper} {rest : List Oper} {o : Oper} {a : Act} {Q : Exit → Act → World → Prop} (hgd : o.guard = none) (s x : Operand) (t : TypeId)
    (ho : o.op = .call { callee := .builtin .append, args := #[s, x], argTypes := #[t, t] })
    (base : Nat) (e : TypeId) (z : Value) (bytes : Nat) (ht : P.underlying t = some (.slice e)) (hi : (P.info? e).map (fun i => (i.zero, i.size, i.bytes)) = some (some z, E.k, bytes)) (hzs : z.cells.size = E.k)
    (v : Value) (l : List α) (hs : a.eval s = v) (hown : E.Own w base e v l)
    (A : Option Addr) (m c : Nat) (l' : List α) (hx : a.eval x = .slice A m c) (hA : A = none → m = 0 ∧ c = 0) (hm : m = l'.length) (hnews : ∀ ad, A = some ad → ∀ j u, (E.cells l')[j]? = some u → w.cell? (ad.add j) = some u)
    (h63 : l.length + m ≤ maxLen) (hbytes : (l.length + m) * bytes ≤ 140737488355328) (hbase : base ≤ w.heap.size)
    (h : ∀ v' w', E.Own w' base e v' (l ++ l') → w.grownBy w' v.ownBlock → wpList P ops Q rest (a.put o.dst v') w') : wpList P ops Q (o :: rest) a w := by
  obtain ⟨i0, hi, hz0, hz1, hz2⟩ := info_parts hi
  cases A with
  | none =>
    obtain ⟨rfl, rfl⟩ := hA rfl
    have hn : l' = [] := List.length_eq_zero_iff.1 hm.symm
    subst hn
    refine wpList_append_own_none hgd s x t ho base e i0 E.k ht hi v l.length (E.cells l) hs hown hx (h v w ?_ (grown_refl w _))
    rw [List.append_nil]; exact hown
  | some ad =>
    subst hm
    exact wpList_append_own w hgd s x t ho base e i0 z E.k bytes ht hi hz0 hz1 hz2 hzs E.pos v l.length (E.cells l) hs hown ad l'.length c (E.cells l') hx (E.cells_len l') (hnews ad rfl) (E.cells_all l') h63 hbytes hbase (fun v' w' h2 h3 _ => h v' w' (by unfold Enc.Own; rw [E.cells_append, List.length_append]; exact h2) h3)
/-- seals that are gathered in an own row, each with labels of its own somewhere else -/
structure FindI (w : World) (v : Value) (xs : List Sx) (wr : World) : Prop where
  own : encX.Own wr w.heap.size 90 v xs
  ok : ∀ x ∈ xs, x.Ok wr (fun b => w.heap.size ≤ b ∧ v.ownBlock ≠ some b)
  bel : Below w.heap.size w wr
namespace FindI
variable {w wr w2 w3 : World} {v : Value} {xs : List Sx}
theorem start (w : World) : FindI w (.slice none 0 0) [] w := ⟨Enc.Own.nil _ _ _, (fun x hx => by cases hx), Below.refl _ _⟩
theorem old (h : FindI w v xs wr) (hb : Below wr.heap.size wr w2) : FindI w v xs w2 :=
  ⟨h.own.old hb, fun x hx => (h.ok x hx).old hb, h.bel.trans (hb.mono h.bel.size)⟩
/-- one more, whose labels are new -/
theorem push (h : FindI w v xs wr) {x : Sx} (hb : Below wr.heap.size wr w2) (hx : x.Ok w2 (wr.heap.size ≤ ·)) {o : Obj} {g n cap : Nat} (hown : encX.Own w3 w.heap.size 90 (.slice (some ⟨g, 0, none⟩) n cap) (xs ++ [x])) (hg : (w2.alloc o).grownBy w3 v.ownBlock) (hat : v.ownBlock = some g ∨ g = w2.heap.size + 1) : FindI w (.slice (some ⟨g, 0, none⟩) n cap) (xs ++ [x]) w3 := by
  have h2 := h.old hb
  have key : ∀ y : Sx, y.Ok w2 (fun b => w.heap.size ≤ b ∧ v.ownBlock ≠ some b) → y.Ok w3 (fun b => w.heap.size ≤ b ∧ (.slice (some ⟨g, 0, none⟩) n cap : Value).ownBlock ≠ some b) := fun y hy => by
    have hk : Kp (fun k => v.ownBlock = some k) w2 w3 := ((Kp.refl _ w2).alloc o).grown hg (fun k e => e)
    have h3 := hy.in_.kp hk (fun b hb => hb.1.2)
    refine h3.mono fun b hb => ⟨hb.1.1, fun e => ?_⟩
    have e' : g = b := by simpa [Value.ownBlock] using e
    rcases hat with hat | hat
    · exact hb.1.2 (by rw [hat, e'])
    · omega
  refine ⟨hown, fun y hy => ?_, ?_⟩
  · rcases List.mem_append.1 hy with hy | hy
    · exact key y (h2.ok y hy)
    · rw [List.mem_singleton.1 hy]
      exact key x (hx.mono fun b hb => ⟨by have := h.bel.size; omega, fun e => by have := (h.own.lt b e).2; omega⟩)
  · exact (h2.bel.alloc h2.bel.size _).grown hg (by have := h2.bel.size; simp; omega) (fun k hk => (h.own.lt k hk).1)
end FindI
/-- groups are answered: seals in a row, in new memory -/
def FindA (ss : List Rc.S) (w : World) (e : Ending) (w' : World) : Prop :=
  ∃ A C l, e = .returned (.slice A l.length C) ∧ l.map Sx.s = ss ∧ l.length ≤ C ∧ C ≤ maxLen ∧ (A = none → l.length = 0 ∧ C = 0) ∧ encX.Rd w' A l (w.heap.size ≤ ·) ∧ (∀ x ∈ l, x.Ok w' (w.heap.size ≤ ·)) ∧ Below w.heap.size w w'
theorem FindI.rd {w wr : World} {v : Value} {xs : List Sx} (h : FindI w v xs wr) : ∃ A C, v = .slice A xs.length C ∧ xs.length ≤ C ∧ C ≤ maxLen ∧ (A = none → xs.length = 0 ∧ C = 0) ∧ encX.Rd wr A xs (w.heap.size ≤ ·) ∧ (∀ x ∈ xs, x.Ok wr (w.heap.size ≤ ·)) ∧ Below w.heap.size w wr := by
  obtain ⟨A, C, h1, h2, h3, h4, h5⟩ := h.own.rd
  exact ⟨A, C, h1, h2, h3, h4, h5.mono (fun b hb => hb.1), fun x hx => (h.ok x hx).mono fun b hb => hb.1, h.bel⟩
end Go.Proofs.YtndofmoepjfnfaaGreat
namespace Go.Proofs.YtndofmoepjfnfaaGreat
open Go.RowKit
open Pt (Tx)

/-- -1, 0 or 1 -/
def cmpI (a b : Int) : Int := if a < b then -1 else if b < a then 1 else 0
theorem cmpI_lt {a b : Int} : decide (cmpI a b < 0) = decide (a < b) := by
  unfold cmpI
  by_cases h : a < b
  · rw [if_pos h, decide_eq_true h]; rfl
  · rw [if_neg h, decide_eq_false h]
    by_cases h2 : b < a
    · rw [if_pos h2]; rfl
    · rw [if_neg h2]; rfl
theorem nan_any (a : Int) (w : World) : Calls Tryz.prog 60 #[.int .i64 a] w fun e w' => e = .returned (.bool false) ∧ w = w' := by
  have e1 : (a != a) = false := by simp
  go_enter Tryz.func60, Tryz.ntmps60
  go_wp2
  go_ret
  exact ⟨rfl, rfl⟩
theorem compare_any (a b : Int) (w : World) : Calls Tryz.prog 47 #[.int .i64 a, .int .i64 b] w fun e w' => e = .returned (.int .i64 (cmpI a b)) ∧ w = w' := by
  by_cases h1 : a < b
  · have q1 : decide (a < b) = true := decide_eq_true h1
    have H : Hid (cmpI a b = -1) := Lib.hid (if_pos h1)
    clear h1
    go_enter Tryz.func47, Tryz.ntmps47
    go_wp2_with (go_at_call 60; refine (nan_any _ _).mono ?_; rintro e w' ⟨rfl, hw'⟩; subst hw')
    go_ret
    exact ⟨by rw [H.out]; rfl, rfl⟩
  · have q1 : decide (a < b) = false := decide_eq_false h1
    by_cases h2 : b < a
    · have q2 : decide (b < a) = true := decide_eq_true h2
      have H : Hid (cmpI a b = 1) := Lib.hid ((if_neg h1).trans (if_pos h2))
      clear h1 h2
      go_enter Tryz.func47, Tryz.ntmps47
      go_wp2_with (go_at_call 60; refine (nan_any _ _).mono ?_; rintro e w' ⟨rfl, hw'⟩; subst hw')
      go_ret
      exact ⟨by rw [H.out]; rfl, rfl⟩
    · have q2 : decide (b < a) = false := decide_eq_false h2
      have H : Hid (cmpI a b = 0) := Lib.hid ((if_neg h1).trans (if_neg h2))
      clear h1 h2
      go_enter Tryz.func47, Tryz.ntmps47
      go_wp2_with (go_at_call 60; refine (nan_any _ _).mono ?_; rintro e w' ⟨rfl, hw'⟩; subst hw')
      go_ret
      exact ⟨by rw [H.out]; rfl, rfl⟩
/-- two seals, each in a block of its own -/
theorem two_seals {w wb : World} {n x d p : Int} {A : Option Addr} {m C : Nat} {n' x' d' p' : Int} {A' : Option Addr} {m' C' : Nat} (h : wb = (w.alloc (sealObj n x d p A m C)).alloc (sealObj n' x' d' p' A' m' C')) :
    Below w.heap.size w wb ∧ wb.heap[w.heap.size]? = some (sealObj n x d p A m C) ∧ wb.heap[w.heap.size + 1]? = some (sealObj n' x' d' p' A' m' C') := by
  have hb1 : Below w.heap.size w (w.alloc (sealObj n x d p A m C)) := (Below.refl _ _).alloc (Nat.le_refl _) _
  have h1 : (w.alloc (sealObj n x d p A m C)).heap[w.heap.size]? = some (sealObj n x d p A m C) := Go.Deep.blk_alloc_new _ _
  have h2 := Go.Deep.blk_alloc_new (w.alloc (sealObj n x d p A m C)) (sealObj n' x' d' p' A' m' C')
  rw [show (w.alloc (sealObj n x d p A m C)).heap.size = w.heap.size + 1 by simp] at h2
  subst h
  exact ⟨hb1.alloc hb1.size _, (Below.heap_alloc _ _ _ (heap_lt h1)).trans h1, h2⟩
theorem less_any (n x d p : Int) (A : Option Addr) (m C : Nat) (n' x' d' p' : Int) (A' : Option Addr) (m' C' : Nat) (w : World) :
    Calls Tryz.prog 46 #[.agg #[.int .i64 n, .int .i64 x, .int .i64 d, .int .i64 p, .slice A m C], .agg #[.int .i64 n', .int .i64 x', .int .i64 d', .int .i64 p', .slice A' m' C']] w fun e w' => e = .returned (.int .i64 (cmpI n n')) ∧ Below w.heap.size w w' := by
  obtain ⟨wb, hwb⟩ : ∃ wb, wb = (w.alloc (sealObj n x d p A m C)).alloc (sealObj n' x' d' p' A' m' C') := ⟨_, rfl⟩
  obtain ⟨hB, h1, h2⟩ := two_seals hwb
  obtain ⟨a0, -, -, -, -⟩ := seal5 h1
  obtain ⟨b0, -, -, -, -⟩ := seal5 h2
  have HB := Lib.hid hB
  unfold sealObj at hwb
  rw [hwb] at a0 b0
  have HW := Lib.hid hwb
  clear hwb hB h1 h2
  go_enter Tryz.func46, Tryz.ntmps46
  go_wp2_with (go_at_call 47; refine (compare_any _ _ _).mono ?_; rintro e w' ⟨rfl, hw'⟩; subst hw')
  go_ret
  rw [← HW.out]
  exact ⟨rfl, HB.out⟩
theorem same_any (n x d p : Int) (A : Option Addr) (m C : Nat) (n' x' d' p' : Int) (A' : Option Addr) (m' C' : Nat) (w : World) :
    Calls Tryz.prog 49 #[.agg #[.int .i64 n, .int .i64 x, .int .i64 d, .int .i64 p, .slice A m C], .agg #[.int .i64 n', .int .i64 x', .int .i64 d', .int .i64 p', .slice A' m' C']] w fun e w' => e = .returned (.bool (n == n')) ∧ Below w.heap.size w w' := by
  obtain ⟨wb, hwb⟩ : ∃ wb, wb = (w.alloc (sealObj n x d p A m C)).alloc (sealObj n' x' d' p' A' m' C') := ⟨_, rfl⟩
  obtain ⟨hB, h1, h2⟩ := two_seals hwb
  obtain ⟨a0, -, -, -, -⟩ := seal5 h1
  obtain ⟨b0, -, -, -, -⟩ := seal5 h2
  have HB := Lib.hid hB
  unfold sealObj at hwb
  rw [hwb] at a0 b0
  have HW := Lib.hid hwb
  clear hwb hB h1 h2
  go_enter Tryz.func49, Tryz.ntmps49
  go_wp2
  go_ret
  rw [← HW.out]
  exact ⟨rfl, HB.out⟩
end Go.Proofs.YtndofmoepjfnfaaGreat
