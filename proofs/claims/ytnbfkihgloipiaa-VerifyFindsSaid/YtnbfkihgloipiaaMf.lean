/- A slice of structs that reads as a list of plain data, and one that a call owns and makes longer by append: each struct is some cells, as many for each. No function of the program. Verifying (chapter 16): which blocks of tapes are not good, and which members are gone. No function of the program. A tape that lies in a block, or in a row of them. No function of the program. -/
import Derived.Test.YtnbfkihgloipiaaMb
import Derived.Test.YtnbfkihgloipiaaRows
import Derived.Laws.AppendOwn
import Derived.OwnWalk
import Derived.Test.YtnbfkihgloipiaaMe
import Derived.Test.YtnbfkihgloipiaaChecked
import Derived.Handy
import Derived.WalkSpells
import Derived.WalkLawsBesides
namespace Go.Proofs.Ytnbfkihgloipiaa
open Go.RowKit

/-- each in so many cells -/
structure Enc (α : Type) where
  k : Nat
  pos : 0 < k
  enc : α → List Value
  len : ∀ x, (enc x).length = k
  one : ∀ x, ∀ u ∈ enc x, u.oneCell' = true
namespace Enc
variable {α : Type} (E : Enc α)
def cells (l : List α) : List Value := l.flatMap E.enc
theorem cells_nil : E.cells [] = [] := rfl
theorem cells_cons (x : α) (l : List α) : E.cells (x :: l) = E.enc x ++ E.cells l := rfl
theorem cells_append (l l' : List α) : E.cells (l ++ l') = E.cells l ++ E.cells l' := by unfold cells; exact List.flatMap_append
theorem cells_one (x : α) : E.cells [x] = E.enc x := by rw [cells_cons, cells_nil, List.append_nil]
theorem cells_len : ∀ l : List α, (E.cells l).length = l.length * E.k
  | [] => by rw [cells_nil]; simp
  | x :: l => by rw [cells_cons, List.length_append, E.len, cells_len l, List.length_cons, Nat.succ_mul]; omega
theorem cells_get : ∀ (l : List α) (i j : Nat) (_ : j < E.k) (hi : i < l.length), (E.cells l)[i * E.k + j]? = (E.enc l[i])[j]?
  | [], i, j, _, hi => absurd hi (by simp)
  | x :: l, 0, j, hj, hi => by
    rw [cells_cons, Nat.zero_mul, Nat.zero_add, List.getElem?_append_left (by rw [E.len]; exact hj)]; rfl
  | x :: l, i + 1, j, hj, hi => by
    rw [cells_cons, List.getElem?_append_right (by rw [E.len, Nat.succ_mul]; omega), E.len, show (i + 1) * E.k + j - E.k = i * E.k + j by rw [Nat.succ_mul]; omega]
    exact cells_get l i j hj (by simpa using hi)
theorem cells_all (l : List α) : ∀ u ∈ E.cells l, u.oneCell' = true := by
  intro u hu
  unfold cells at hu
  obtain ⟨x, _, hx⟩ := List.mem_flatMap.1 hu
  exact E.one x u hx
/-- the slice at A of these structs reads as the list l, and lies in a block of G -/
def Rd (w : World) (A : Option Addr) (l : List α) (G : Nat → Prop) : Prop :=
  0 < l.length → ∃ b off, A = some ⟨b, off, none⟩ ∧ G b ∧ ∀ i (hi : i < l.length) j u, (E.enc l[i])[j]? = some u → w.cell? ⟨b, off + i * E.k + j, none⟩ = some u
/-- v is a slice of the call's own that holds the list l -/
def Own (w : World) (base : Nat) (t : TypeId) (v : Value) (l : List α) : Prop := w.ownsRow base t E.k v l.length (E.cells l)
variable {E}
theorem Rd.nil (w : World) (A : Option Addr) (G : Nat → Prop) : E.Rd w A [] G := fun h => absurd h (by simp)
theorem Rd.keep {w w' : World} {A : Option Addr} {l : List α} {G : Nat → Prop} (h : E.Rd w A l G) (hk : ∀ p v, G p.block → w.cell? p = some v → w'.cell? p = some v) : E.Rd w' A l G := fun hn => by
  obtain ⟨b, off, e, hg, hc⟩ := h hn
  exact ⟨b, off, e, hg, fun i hi j u hu => hk _ _ hg (hc i hi j u hu)⟩
theorem Rd.mono {w : World} {A : Option Addr} {l : List α} {G G' : Nat → Prop} (h : E.Rd w A l G) (hg : ∀ b, G b → G' b) : E.Rd w A l G' := fun hn => by
  obtain ⟨b, off, e, hb, hc⟩ := h hn
  exact ⟨b, off, e, hg _ hb, hc⟩
theorem Rd.old {w w' : World} {A : Option Addr} {l : List α} {G : Nat → Prop} (h : E.Rd w A l G) (hb : Below w.heap.size w w') : E.Rd w' A l G := h.keep fun _ _ _ hc => (hb.cell (World.block_lt_of_cell? _ _ hc)).trans hc
theorem Rd.kp {w w' : World} {A : Option Addr} {l : List α} {G S : Nat → Prop} (h : E.Rd w A l G) (hk : Kp S w w') (hs : ∀ b, G b → ¬ S b) : E.Rd w' A l G := h.keep fun _ _ hg hc => hk.cell hc (hs _ hg)
theorem Rd.at_ {w : World} {A : Option Addr} {l : List α} {G : Nat → Prop} (h : E.Rd w A l G) {i : Nat} (hi : i < l.length) : ∃ b off, A = some ⟨b, off, none⟩ ∧ G b ∧ ∀ j u, (E.enc l[i])[j]? = some u → w.cell? ⟨b, off + i * E.k + j, none⟩ = some u := by
  obtain ⟨b, off, e, hg, hc⟩ := h (by omega)
  exact ⟨b, off, e, hg, hc i hi⟩
theorem Own.nil (w : World) (base : Nat) (t : TypeId) : E.Own w base t (.slice none 0 0) [] := World.ownsRow_nil _ _ _ _
theorem Own.of_block {w w' : World} {base : Nat} {t : TypeId} {v : Value} {l : List α} (h : E.Own w base t v l) (hb : ∀ k, v.ownBlock = some k → w'.heap[k]? = w.heap[k]?) : E.Own w' base t v l := by
  refine ⟨h.1, ?_⟩
  rcases h.2 with h0 | ⟨g, cap, cur, rfl, hb', hg, hr⟩
  · exact .inl h0
  · exact .inr ⟨g, cap, cur, rfl, hb', (hb g rfl).trans hg, hr⟩
theorem Own.lt {w : World} {base : Nat} {t : TypeId} {v : Value} {l : List α} (h : E.Own w base t v l) : ∀ k, v.ownBlock = some k → base ≤ k ∧ k < w.heap.size := fun k hk => World.ownsRow.lt h k hk
theorem Own.old {w w' : World} {base : Nat} {t : TypeId} {v : Value} {l : List α} (h : E.Own w base t v l) (hb : Below w.heap.size w w') : E.Own w' base t v l := h.of_block fun k e => hb.block k (h.lt k e).2
/-- its block, if it has one -/
theorem Own.block {w : World} {base : Nat} {t : TypeId} {v : Value} {l : List α} (h : E.Own w base t v l) : ∀ k, v.ownBlock = some k → ∃ c, w.heap[k]? = some (.cells c t (0, 0)) := by
  intro k hk
  rcases h.2 with ⟨rfl, h0⟩ | ⟨g, cap, cur, rfl, hb, hg, hnc, _, hs, ht⟩
  · cases hk
  · cases hk; exact ⟨cur, hg⟩
/-- as a value that reads -/
theorem Own.rd {w : World} {base : Nat} {t : TypeId} {v : Value} {l : List α} (h : E.Own w base t v l) : ∃ A C, v = .slice A l.length C ∧ l.length ≤ C ∧ C ≤ maxLen ∧ (A = none → l.length = 0 ∧ C = 0) ∧ E.Rd w A l (fun b => base ≤ b ∧ v.ownBlock = some b) := by
  rcases h.2 with ⟨rfl, h0⟩ | ⟨g, cap, cur, rfl, hb, hg, hnc, hcm, hs, ht⟩
  · have : l = [] := List.length_eq_zero_iff.1 h0
    subst this
    exact ⟨none, 0, rfl, Nat.le_refl _, by decide, fun _ => ⟨rfl, rfl⟩, Rd.nil _ _ _⟩
  · refine ⟨_, cap, rfl, hnc, hcm, (fun h => by cases h), fun _ => ⟨g, 0, rfl, ⟨hb, rfl⟩, fun i hi j u hu => ?_⟩⟩
    have hj : j < E.k := by rw [← E.len l[i]]; exact (List.getElem?_eq_some_iff.1 hu).1
    have hx := E.cells_get l i j hj hi
    have hlt : i * E.k + j < l.length * E.k := by
      have h1 : (i + 1) * E.k ≤ l.length * E.k := Nat.mul_le_mul_right _ hi
      rw [Nat.succ_mul] at h1
      omega
    rw [hu, ← ht, List.getElem?_take, if_pos hlt, Array.getElem?_toList] at hx
    rw [show 0 + i * E.k + j = i * E.k + j by omega, heap_cell hg, hx]
end Enc
/-- a new block's cells -/
theorem newCells (w : World) (c : List Value) (t : TypeId) : ∀ j u, c[j]? = some u → (w.alloc (.cells c.toArray t)).cell? ((⟨w.heap.size, 0, none⟩ : Addr).add j) = some u := by
  intro j u hu
  rw [addr_add, heap_cell (Go.Deep.blk_alloc_new _ _), Nat.zero_add]
  simpa using hu
theorem newCellsAt (w : World) (c : List Value) (t : TypeId) (s : Nat) (hs : s = w.heap.size) : ∀ j u, c[j]? = some u → (w.alloc (.cells c.toArray t)).cell? ((⟨s, 0, none⟩ : Addr).add j) = some u := by
  subst hs; exact newCells w c t
/-- append of some structs -/
theorem wpList_append_st' {P : Program} {α : Type} (E : Enc α) (w : World) {ops : Array Oper} {rest : List Oper} {o : Oper} {a : Act} {Q : Exit → Act → World → Prop} (hgd : o.guard = none) (s x : Operand) (t : TypeId)
    (ho : o.op = .call { callee := .builtin .append, args := #[s, x], argTypes := #[t, t] })
    (base : Nat) (e : TypeId) (z : Value) (bytes : Nat) (ht : P.underlying t = some (.slice e)) (hi : (P.info? e).map (fun i => (i.zero, i.size, i.bytes)) = some (some z, E.k, bytes)) (hzs : z.cells.size = E.k)
    (v : Value) (l : List α) (hs : a.eval s = v) (hown : E.Own w base e v l)
    (ad : Addr) (m c : Nat) (l' : List α) (hx : a.eval x = .slice (some ad) m c) (hm : m = l'.length) (hnews : ∀ j u, (E.cells l')[j]? = some u → w.cell? (ad.add j) = some u)
    (h63 : l.length + m ≤ maxLen) (hbytes : (l.length + m) * bytes ≤ 140737488355328) (hbase : base ≤ w.heap.size)
    (h : ∀ v' w', E.Own w' base e v' (l ++ l') → w.grownBy w' v.ownBlock → wpList P ops Q rest (a.put o.dst v') w') : wpList P ops Q (o :: rest) a w := by
  obtain ⟨i0, hi, hz0, hz1, hz2⟩ := info_parts hi
  subst hm
  exact wpList_append_own w hgd s x t ho base e i0 z E.k bytes ht hi hz0 hz1 hz2 hzs E.pos v l.length (E.cells l) hs hown ad l'.length c (E.cells l') hx (E.cells_len l') hnews (E.cells_all l') h63 hbytes hbase (fun v' w' h2 h3 _ => h v' w' (by unfold Enc.Own; rw [E.cells_append, List.length_append]; exact h2) h3)
end Go.Proofs.Ytnbfkihgloipiaa
namespace Go.Proofs.Ytnbfkihgloipiaa.Vf
open Go.RowKit Go.Proofs.Ytnbfkihgloipiaa
open Pt (Tx)

/-- is block n good? -/
def ok (t : St.T) (n : Nat) : Bool := (Vo.good (Gr.vo t) n).isSome
/-- the first n of a tape's blocks: those that are not good -/
def upto (t : St.T) (n : Nat) : List Nat := (List.range n).filter fun k => !ok t k
def bad (t : St.T) : List Nat := if t.lost then [] else upto t t.blocks.length
def sp (lab : Int) (l : List Nat) : List (Int × Int) := l.map fun (n : Nat) => (lab, (n : Int))
def spotsT (t : St.T) : List (Int × Int) := if t.lost then [(t.label, -1)] else sp t.label (bad t)
def spots (ts : List St.T) : List (Int × Int) := ts.flatMap spotsT
def hurt (t : St.T) : Bool := t.lost || !(bad t).isEmpty
def gone (ts : List St.T) (l : Int) : Bool := hurt (Me.first ts l)
def lost (ts : List St.T) (labs : List Int) : Nat := labs.countP (gone ts)
theorem upto_zero (t : St.T) : upto t 0 = [] := rfl
theorem upto_succ (t : St.T) (n : Nat) : upto t (n + 1) = if ok t n then upto t n else upto t n ++ [n] := by
  unfold upto
  rw [List.range_succ, List.filter_append]
  cases h : ok t n <;> simp [h]
theorem upto_len (t : St.T) (n : Nat) : (upto t n).length ≤ n := by
  have := List.length_filter_le (fun k => !ok t k) (List.range n)
  rw [List.length_range] at this
  exact this
theorem sp_snoc (lab : Int) (l : List Nat) (n : Nat) : sp lab (l ++ [n]) = sp lab l ++ [(lab, (n : Int))] := by unfold sp; rw [List.map_append]; rfl
theorem sp_len (lab : Int) (l : List Nat) : (sp lab l).length = l.length := by unfold sp; rw [List.length_map]
theorem spots_take {ts : List St.T} {i : Nat} (h : i < ts.length) : spots (ts.take (i + 1)) = spots (ts.take i) ++ spotsT ts[i] := by
  unfold spots
  rw [List.take_add_one, List.getElem?_eq_getElem h, List.flatMap_append]
  simp
theorem spots_all {ts : List St.T} {i : Nat} (h : ts.length ≤ i) : spots (ts.take i) = spots ts := by rw [List.take_of_length_le h]
theorem bad_len (t : St.T) : (bad t).length ≤ t.blocks.length := by
  unfold bad
  split
  · exact Nat.zero_le _
  · exact upto_len _ _
theorem spotsT_len (t : St.T) : (spotsT t).length ≤ t.blocks.length + 1 := by
  unfold spotsT
  split
  · simp
  · rw [sp_len]; have := bad_len t; omega
theorem spots_len {ts : List St.T} {m : Nat} (h : ∀ t ∈ ts, t.blocks.length ≤ m) : (spots ts).length ≤ ts.length * (m + 1) := by
  induction ts with
  | nil => exact Nat.zero_le _
  | cons t ts ih =>
    have h1 := ih fun t ht => h t (List.mem_cons_of_mem _ ht)
    have h2 := h t List.mem_cons_self
    have h3 := spotsT_len t
    have e : spots (t :: ts) = spotsT t ++ spots ts := by unfold spots; rw [List.flatMap_cons]
    rw [e, List.length_append, List.length_cons, Nat.succ_mul]
    omega
theorem spotsT_zero (t : St.T) : (spotsT t).length = 0 ↔ hurt t = false := by
  unfold spotsT hurt
  cases t.lost with
  | true => simp
  | false => simp [sp_len, List.isEmpty_iff]
theorem hurt_bad {t : St.T} (h : t.lost = false) : hurt t = decide (0 < (bad t).length) := by
  unfold hurt
  rw [h, Bool.false_or]
  cases bad t <;> simp
/-- the first of that label, behind one more tape -/
theorem first_take {ts : List St.T} {i : Nat} (h : i < ts.length) (l : Int) : Me.first (ts.take (i + 1)) l = if l ∈ (ts.take i).map St.T.label then Me.first (ts.take i) l else if ts[i].label = l then ts[i] else Me.first (ts.take i) l := by
  unfold Me.first
  rw [List.take_add_one, List.getElem?_eq_getElem h]
  show (List.find? _ (ts.take i ++ [ts[i]])).getD _ = _
  rw [List.find?_append]
  by_cases hm : l ∈ (ts.take i).map St.T.label
  · rw [if_pos hm]
    obtain ⟨t, ht, e⟩ := List.mem_map.1 hm
    cases hf : (ts.take i).find? fun t => decide (t.label = l) with
    | none => exact absurd (decide_eq_true e) (List.find?_eq_none.1 hf t ht)
    | some u => rfl
  · rw [if_neg hm]
    have hf : (ts.take i).find? (fun t => decide (t.label = l)) = none := List.find?_eq_none.2 fun t ht e => hm (List.mem_map.2 ⟨t, ht, of_decide_eq_true e⟩)
    rw [hf]
    by_cases e : ts[i].label = l
    · rw [if_pos e]; simp [e]
    · rw [if_neg e]; simp [e]
theorem first_none {ts : List St.T} {l : Int} (h : l ∉ ts.map St.T.label) : Me.first ts l = ⟨l, 0, [], true⟩ := by
  unfold Me.first
  rw [List.find?_eq_none.2 fun t ht e => h (List.mem_map.2 ⟨t, ht, of_decide_eq_true e⟩)]; rfl
/-- how often a label stands there still -/
def left (ts : List St.T) (labs : List Int) (i : Nat) (l : Int) : Nat := if l ∈ (ts.take i).map St.T.label then 0 else labs.count l
theorem countP_one {p q : Int → Bool} {a : Int} {labs : List Int} (hp : p a = true) (hq : q a = false) (h : ∀ l, l ≠ a → q l = p l) : labs.countP q + labs.count a = labs.countP p := by
  induction labs with
  | nil => rfl
  | cons x l ih =>
    by_cases e : x = a
    · subst e
      rw [List.countP_cons_of_neg (by rw [hq]; decide), List.countP_cons_of_pos hp, List.count_cons_self]; omega
    · have hx := h x e
      rw [List.count_cons_of_ne (by simpa using e)]
      cases hpx : p x with
      | true =>
        rw [List.countP_cons_of_pos (by rw [hx]; exact hpx), List.countP_cons_of_pos hpx]; omega
      | false =>
        rw [List.countP_cons_of_neg (by rw [hx, hpx]; decide), List.countP_cons_of_neg (by rw [hpx]; decide)]; exact ih
theorem lost_zero (ts : List St.T) (labs : List Int) : lost (ts.take 0) labs = labs.length := by
  unfold lost
  rw [List.countP_eq_length]
  intro l _
  rfl
theorem lost_all {ts : List St.T} {labs : List Int} {i : Nat} (h : ts.length ≤ i) : lost (ts.take i) labs = lost ts labs := by rw [List.take_of_length_le h]
/-- one more tape -/
theorem lost_take {ts : List St.T} {labs : List Int} {i : Nat} (h : i < ts.length) : lost (ts.take (i + 1)) labs + (if hurt ts[i] then 0 else left ts labs i ts[i].label) = lost (ts.take i) labs := by
  unfold lost left
  by_cases hm : ts[i].label ∈ (ts.take i).map St.T.label
  · rw [if_pos hm]
    have : gone (ts.take (i + 1)) = gone (ts.take i) := by
      funext l
      unfold gone
      rw [first_take h l]
      by_cases hl : l ∈ (ts.take i).map St.T.label
      · rw [if_pos hl]
      · rw [if_neg hl, if_neg]
        rintro rfl; exact hl hm
    rw [this]; split <;> rfl
  · rw [if_neg hm]
    have hne : ∀ l, l ≠ ts[i].label → gone (ts.take (i + 1)) l = gone (ts.take i) l := fun l hl => by
      unfold gone
      rw [first_take h l]
      by_cases hl2 : l ∈ (ts.take i).map St.T.label
      · rw [if_pos hl2]
      · rw [if_neg hl2, if_neg (fun e => hl e.symm)]
    have h1 : gone (ts.take i) ts[i].label = true := by
      unfold gone
      rw [first_none hm]; rfl
    have h2 : gone (ts.take (i + 1)) ts[i].label = hurt ts[i] := by
      unfold gone
      rw [first_take h, if_neg hm, if_pos rfl]
    cases hh : hurt ts[i] with
    | true =>
      rw [if_pos rfl]
      have : gone (ts.take (i + 1)) = gone (ts.take i) := by
        funext l
        by_cases e : l = ts[i].label
        · rw [e, h1, h2, hh]
        · exact hne l e
      rw [this]; rfl
    | false =>
      rw [if_neg (by decide)]
      exact countP_one h1 (by rw [h2, hh]) hne
theorem left_zero (ts : List St.T) (labs : List Int) (l : Int) : left ts labs 0 l = labs.count l := by
  unfold left
  rw [if_neg (by simp)]
theorem left_succ {ts : List St.T} {labs : List Int} {i : Nat} (h : i < ts.length) (l : Int) : left ts labs (i + 1) l = if l = ts[i].label then 0 else left ts labs i l := by
  unfold left
  rw [List.take_add_one, List.getElem?_eq_getElem h, List.map_append]
  by_cases e : l = ts[i].label
  · rw [if_pos e, if_pos (by simp [e])]
  · rw [if_neg e]
    have : (l ∈ (ts.take i).map St.T.label ++ (Option.toList (some ts[i])).map St.T.label) ↔ l ∈ (ts.take i).map St.T.label := by simp [e]
    simp only [this]
theorem left_le (ts : List St.T) (labs : List Int) (i : Nat) (l : Int) : left ts labs i l ≤ labs.length := by
  unfold left
  split
  · exact Nat.zero_le _
  · exact List.count_le_length
/-- a spot's two cells -/
def encS : Enc (Int × Int) where
  k := 2
  pos := by decide
  enc q := [.int .i64 q.1, .int .i64 q.2]
  len _ := rfl
  one q u hu := by
    simp only [List.mem_cons, List.not_mem_nil, or_false] at hu
    rcases hu with rfl | rfl <;> rfl
/-- a number's cell -/
def encN : Enc Nat where
  k := 1
  pos := by decide
  enc n := [.int .i64 (n : Int)]
  len _ := rfl
  one n u hu := by
    simp only [List.mem_cons, List.not_mem_nil, or_false] at hu
    rcases hu with rfl; rfl
end Go.Proofs.Ytnbfkihgloipiaa.Vf
namespace Go.Proofs.Ytnbfkihgloipiaa
open Go.RowKit

/-- a tape in a block -/
def tapeObj (lab cap : Int) (A : Option Addr) (n C : Nat) (lost : Bool) : Obj := .cells #[.int .i64 lab, .int .i64 cap, .slice A n C, .bool lost] 35
theorem tape4 {w : World} {g : Nat} {lab cap : Int} {A : Option Addr} {n C : Nat} {lost : Bool} (h : w.heap[g]? = some (tapeObj lab cap A n C lost)) :
    w.cell? ⟨g, 0, none⟩ = some (.int .i64 lab) ∧ w.cell? ⟨g, 1, none⟩ = some (.int .i64 cap) ∧ w.cell? ⟨g, 2, none⟩ = some (.slice A n C) ∧ w.cell? ⟨g, 3, none⟩ = some (.bool lost) := ⟨heap_cell h, heap_cell h, heap_cell h, heap_cell h⟩
theorem below_tape {lab cap : Int} {A : Option Addr} {n C : Nat} {lost : Bool} {B : Nat} {x y : World} (hb : Below x.heap.size x y) (h : x.heap[B]? = some (tapeObj lab cap A n C lost)) : y.heap[B]? = some (tapeObj lab cap A n C lost) :=
  (hb.block B (heap_lt h)).trans h
theorem tape_new (w : World) (lab cap : Int) (A : Option Addr) (n C : Nat) (lost : Bool) : Below w.heap.size w (w.alloc (tapeObj lab cap A n C lost)) ∧ (w.alloc (tapeObj lab cap A n C lost)).heap[w.heap.size]? = some (tapeObj lab cap A n C lost) :=
  ⟨(Below.refl _ _).alloc (Nat.le_refl _) _, Go.Deep.blk_alloc_new _ _⟩
end Go.Proofs.Ytnbfkihgloipiaa
