/- A list sorted by a number, stably; and the first of each number alone: what a stable sort and a compaction make is what is put in one by one. No program. Seals in a row: each in five cells, its labels in a row of their own. No function of the program. What Sealed of package volume answers: the seal that a tape ends with. What first and rowsOf of package mend answer: the first tape of a label, and how many rows the parity members tell of. -/
import Derived.Test.YtcokmmanajdioaaGreatMae
import Derived.Test.YtcokmmanajdioaaGreatMaf
import Derived.Test.YtcokmmanajdioaaGreatMan
import Derived.Test.YtcokmmanajdioaaGreatMas
import Derived.Test.YtcokmmanajdioaaGreatMat
import Derived.Deep.DeepFit
import Derived.IntWalk
namespace Go.Proofs.YtcokmmanajdioaaGreat.So
variable {α β : Type}
/-- behind all that are not greater -/
def insR (f : α → Int) (x : α) : List α → List α
  | [] => [x]
  | a :: l => if f a ≤ f x then a :: insR f x l else x :: a :: l
def isort (f : α → Int) (l : List α) : List α := l.foldl (fun acc x => insR f x acc) []
def Asc (f : α → Int) (l : List α) : Prop := l.Pairwise fun a b => f a ≤ f b
theorem isort_snoc (f : α → Int) (l : List α) (x : α) : isort f (l ++ [x]) = insR f x (isort f l) := by unfold isort; rw [List.foldl_append]; rfl
theorem mem_insR {f : α → Int} {x y : α} : ∀ {l : List α}, y ∈ insR f x l ↔ y = x ∨ y ∈ l
  | [] => by simp [insR]
  | a :: l => by
    rw [insR]
    split
    · rw [List.mem_cons, mem_insR, List.mem_cons]
      constructor
      · rintro (h | h | h)
        · exact .inr (.inl h)
        · exact .inl h
        · exact .inr (.inr h)
      · rintro (h | h | h)
        · exact .inr (.inl h)
        · exact .inl h
        · exact .inr (.inr h)
    · rw [List.mem_cons]
theorem insR_len {f : α → Int} {x : α} : ∀ {l : List α}, (insR f x l).length = l.length + 1
  | [] => rfl
  | a :: l => by
    rw [insR]
    split
    · rw [List.length_cons, insR_len, List.length_cons]
    · rfl
theorem isort_len (f : α → Int) (l : List α) : (isort f l).length = l.length := by
  have key : ∀ (l acc : List α), (l.foldl (fun acc x => insR f x acc) acc).length = acc.length + l.length := by
    intro l
    induction l with
    | nil => intro acc; rfl
    | cons x l ih => intro acc; rw [List.foldl_cons, ih, insR_len, List.length_cons]; omega
  rw [isort, key]; simp
theorem mem_isort {f : α → Int} {l : List α} {y : α} : y ∈ isort f l ↔ y ∈ l := by
  have key : ∀ (l acc : List α), y ∈ l.foldl (fun acc x => insR f x acc) acc ↔ y ∈ acc ∨ y ∈ l := by
    intro l
    induction l with
    | nil => intro acc; simp
    | cons x l ih =>
      intro acc
      rw [List.foldl_cons, ih, mem_insR, List.mem_cons]
      constructor
      · rintro ((h | h) | h)
        · exact .inr (.inl h)
        · exact .inl h
        · exact .inr (.inr h)
      · rintro (h | h | h)
        · exact .inl (.inr h)
        · exact .inl (.inl h)
        · exact .inr h
  rw [isort, key]; simp
theorem insR_asc {f : α → Int} {x : α} : ∀ {l : List α}, Asc f l → Asc f (insR f x l)
  | [], _ => List.pairwise_singleton _ _
  | a :: l, h => by
    obtain ⟨h1, h2⟩ := List.pairwise_cons.1 h
    rw [insR]
    split
    · refine List.pairwise_cons.2 ⟨fun b hb => ?_, insR_asc h2⟩
      rcases mem_insR.1 hb with rfl | hb
      · assumption
      · exact h1 b hb
    · refine List.pairwise_cons.2 ⟨fun b hb => ?_, h⟩
      rcases List.mem_cons.1 hb with rfl | hb
      · omega
      · have := h1 b hb; omega
theorem isort_asc (f : α → Int) (l : List α) : Asc f (isort f l) := by
  have key : ∀ (l acc : List α), Asc f acc → Asc f (l.foldl (fun acc x => insR f x acc) acc) := by
    intro l
    induction l with
    | nil => intro acc h; exact h
    | cons x l ih => intro acc h; exact ih _ (insR_asc h)
  exact key l [] List.Pairwise.nil
/-- the place is told by what stands ahead of it and behind -/
theorem insR_at {f : α → Int} {x : α} : ∀ {l : List α} {j : Nat}, (∀ a ∈ l.take j, f a ≤ f x) → (∀ a ∈ l.drop j, f x < f a) → insR f x l = l.take j ++ x :: l.drop j
  | [], j, _, _ => by simp [insR]
  | a :: l, 0, _, h2 => by
    have := h2 a (by simp)
    rw [insR, if_neg (by omega)]; rfl
  | a :: l, j + 1, h1, h2 => by
    have := h1 a (by simp)
    rw [insR, if_pos this, insR_at (j := j) (fun b hb => h1 b (by rw [List.take_succ_cons]; exact List.mem_cons_of_mem _ hb)) (fun b hb => h2 b (by simpa using hb))]
    rfl
/-- in what rises all ahead of one that is not greater are not -/
theorem asc_take {f : α → Int} {l : List α} (h : Asc f l) {j : Nat} (hj : j < l.length) {x : α} (hx : f l[j] ≤ f x) : ∀ a ∈ l.take (j + 1), f a ≤ f x := by
  intro a ha
  obtain ⟨i, hi, rfl⟩ := List.mem_iff_getElem.1 ha
  rw [List.length_take] at hi
  rw [List.getElem_take]
  rcases Nat.lt_or_ge i j with h' | h'
  · have := List.pairwise_iff_getElem.1 h i j (by omega) hj h'; omega
  · have e : i = j := by omega
    subst e; exact hx
/-- each whose number is not that of the one ahead of it -/
def comp (f : α → Int) : Int → List α → List α
  | _, [] => []
  | p, a :: l => if f a = p then comp f (f a) l else a :: comp f (f a) l
def compact (f : α → Int) : List α → List α
  | [] => []
  | a :: l => a :: comp f (f a) l
/-- one is put in, if none has its number -/
def insU (f : α → Int) (x : α) : List α → List α
  | [] => [x]
  | a :: l => if f a < f x then a :: insU f x l else if f a = f x then a :: l else x :: a :: l
theorem comp_insR_same {f : α → Int} {x : α} : ∀ {l : List α}, (∀ a ∈ l, f x ≤ f a) → comp f (f x) (insR f x l) = comp f (f x) l
  | [], _ => by simp [insR, comp]
  | a :: l, h => by
    have h1 := h a List.mem_cons_self
    have h2 : ∀ b ∈ l, f x ≤ f b := fun b hb => h b (List.mem_cons_of_mem _ hb)
    rw [insR]
    split
    · have e : f a = f x := by omega
      rw [comp, if_pos e, comp, if_pos e, e, comp_insR_same h2]
    · rw [comp, if_pos rfl]
theorem comp_insR_more {f : α → Int} {x : α} : ∀ {l : List α} {p : Int}, p < f x → Asc f l → (∀ a ∈ l, p ≤ f a) → comp f p (insR f x l) = insU f x (comp f p l)
  | [], p, hp, _, _ => by simp [insR, comp, insU, show ¬ f x = p by omega]
  | a :: l, p, hp, hA, h => by
    obtain ⟨hA1, hA2⟩ := List.pairwise_cons.1 hA
    have h1 := h a List.mem_cons_self
    rw [insR]
    split
    · rename_i hle
      by_cases e : f a = p
      · rw [comp, if_pos e, comp, if_pos e, e]
        exact comp_insR_more hp hA2 fun b hb => h b (List.mem_cons_of_mem _ hb)
      · rw [comp, if_neg e, comp, if_neg e, insU]
        by_cases e2 : f a < f x
        · rw [if_pos e2, comp_insR_more e2 hA2 hA1]
        · have e3 : f a = f x := by omega
          rw [if_neg e2, if_pos e3, e3, comp_insR_same fun b hb => by have := hA1 b hb; omega]
    · have e : ¬ f a = p := by omega
      rw [comp, if_neg (by omega), comp, if_neg (by omega), comp, if_neg e, insU, if_neg (by omega), if_neg (by omega)]
theorem compact_insR {f : α → Int} {x : α} {l : List α} (hA : Asc f l) : compact f (insR f x l) = insU f x (compact f l) := by
  cases l with
  | nil => rfl
  | cons a l =>
    obtain ⟨hA1, hA2⟩ := List.pairwise_cons.1 hA
    rw [insR, compact, insU]
    split
    · rw [compact]
      by_cases e : f a < f x
      · rw [if_pos e, comp_insR_more e hA2 hA1]
      · have e3 : f a = f x := by omega
        rw [if_neg e, if_pos e3, e3, comp_insR_same fun b hb => by have := hA1 b hb; omega]
    · rw [if_neg (by omega), if_neg (by omega), compact, comp, if_neg (by omega)]
theorem insU_map {f : α → Int} {g : α → β} {f' : β → Int} (h : ∀ a, f' (g a) = f a) (x : α) : ∀ l : List α, (insU f x l).map g = insU f' (g x) (l.map g)
  | [] => rfl
  | a :: l => by
    rw [List.map_cons, insU, insU, h, h]
    split
    · rw [List.map_cons, insU_map h]
    · split <;> rfl
theorem insU_is (s : Rc.S) : ∀ l : List Rc.S, insU Rc.S.number s l = Gr.ins s l
  | [] => rfl
  | a :: l => by rw [insU, Gr.ins, insU_is s l]
/-- what a stable sort and a compaction make of the seals of these -/
theorem all_is {f : α → Int} {g : α → Rc.S} (h : ∀ a, (g a).number = f a) (l : List α) : (compact f (isort f l)).map g = Gr.all (l.map g) := by
  have key : ∀ n (l : List α), l.length = n → (compact f (isort f l)).map g = Gr.all (l.map g) := by
    intro n
    induction n with
    | zero => intro l hl; rw [List.length_eq_zero_iff.1 hl]; rfl
    | succ n ih =>
      intro l hl
      obtain ⟨l', x, rfl⟩ : ∃ l' x, l = l' ++ [x] := ⟨l.dropLast, l.getLast (by intro e; rw [e] at hl; cases hl), (List.dropLast_concat_getLast _).symm⟩
      rw [isort_snoc, compact_insR (isort_asc f l'), insU_map h, ih l' (by simpa using hl), insU_is, List.map_append]
      exact (Gr.all_snoc _ _).symm
  exact key l.length l rfl
/-- the last number -/
def lk (f : α → Int) : Int → List α → Int
  | p, [] => p
  | _, a :: l => lk f (f a) l
theorem comp_snoc {f : α → Int} {x : α} : ∀ {l : List α} {p : Int}, comp f p (l ++ [x]) = comp f p l ++ (if f x = lk f p l then [] else [x])
  | [], p => by
    rw [List.nil_append, comp, comp, comp, lk]
    split <;> rfl
  | a :: l, p => by
    rw [List.cons_append, comp, comp, lk]
    split
    · rw [comp_snoc]
    · rw [comp_snoc]; rfl
theorem lk_last {f : α → Int} : ∀ {l : List α} {p : Int} {j : Nat} (_ : j + 1 = l.length) (hj : j < l.length), lk f p l = f l[j]
  | [], _, j, h, _ => by cases h
  | [a], _, j, h, _ => by
    have e : j = 0 := by simpa using h
    subst e; rfl
  | a :: b :: l, _, j, h, hj => by
    obtain ⟨j, rfl⟩ : ∃ i, j = i + 1 := ⟨j - 1, by simp at h; omega⟩
    rw [lk]
    exact lk_last (by simpa using h) (by simpa using hj)
/-- one more is looked at -/
theorem compact_take {f : α → Int} {l : List α} {k : Nat} (hk : k + 1 < l.length) : compact f (l.take (k + 1 + 1)) = compact f (l.take (k + 1)) ++ (if f l[k + 1] = f l[k] then [] else [l[k + 1]]) := by
  rw [List.take_succ_eq_append_getElem hk]
  cases l with
  | nil => simp at hk
  | cons a m =>
    rw [List.take_succ_cons, List.cons_append, compact, compact, comp_snoc, List.cons_append]
    have e : lk f (f a) (m.take k) = f ((a :: m)[k]'(by omega)) := by
      cases k with
      | zero => rfl
      | succ k =>
        have hk' : k < m.length := by simpa using (show k + 1 < (a :: m).length by omega)
        have h1 : k + 1 = (m.take (k + 1)).length := by rw [List.length_take]; omega
        rw [lk_last (p := f a) h1 (by omega), List.getElem_take]; rfl
    rw [e]
theorem compact_one {f : α → Int} {l : List α} (h : 0 < l.length) : compact f (l.take 1) = l.take 1 := by
  cases l with
  | nil => simp at h
  | cons a m => rfl
theorem compact_all {f : α → Int} {l : List α} {k : Nat} (h : l.length ≤ k) : compact f (l.take k) = compact f l := by rw [List.take_of_length_le h]
theorem compact_le (f : α → Int) (l : List α) : (compact f l).length ≤ l.length := by
  have key : ∀ (l : List α) p, (comp f p l).length ≤ l.length := by
    intro l
    induction l with
    | nil => intro p; exact Nat.le_refl _
    | cons a l ih =>
      intro p
      rw [comp]
      have := ih (f a)
      split
      · rw [List.length_cons]; omega
      · rw [List.length_cons, List.length_cons]; omega
  cases l with
  | nil => exact Nat.le_refl _
  | cons a l => rw [compact, List.length_cons, List.length_cons]; have := key l (f a); omega
theorem mem_compact {f : α → Int} {l : List α} {x : α} (h : x ∈ compact f l) : x ∈ l := by
  have key : ∀ (l : List α) p, x ∈ comp f p l → x ∈ l := by
    intro l
    induction l with
    | nil => intro p h; exact h
    | cons a l ih =>
      intro p h
      rw [comp] at h
      split at h
      · exact List.mem_cons_of_mem _ (ih _ h)
      · rcases List.mem_cons.1 h with rfl | h
        · exact List.mem_cons_self
        · exact List.mem_cons_of_mem _ (ih _ h)
  cases l with
  | nil => exact h
  | cons a l =>
    rw [compact] at h
    rcases List.mem_cons.1 h with rfl | h
    · exact List.mem_cons_self
    · exact List.mem_cons_of_mem _ (key _ _ h)
end Go.Proofs.YtcokmmanajdioaaGreat.So
namespace Go.Proofs.YtcokmmanajdioaaGreat
open Go.RowKit
open Pt (Tx)

/-- a seal as a value: where its labels lie, and how much room there is -/
structure Sx where
  s : Rc.S
  A : Option Addr
  C : Nat
def Sx.num (x : Sx) : Int := x.s.number
def Sx.enc (x : Sx) : List Value := [.int .i64 x.s.number, .int .i64 x.s.index, .int .i64 x.s.data, .int .i64 x.s.parity, .slice x.A x.s.labels.length x.C]
def Sx.val (x : Sx) : Value := .agg #[.int .i64 x.s.number, .int .i64 x.s.index, .int .i64 x.s.data, .int .i64 x.s.parity, .slice x.A x.s.labels.length x.C]
def encX : Enc Sx where
  k := 5
  pos := by decide
  enc := Sx.enc
  len _ := rfl
  one x u hu := by
    simp only [Sx.enc, List.mem_cons, List.not_mem_nil, or_false] at hu
    rcases hu with rfl | rfl | rfl | rfl | rfl <;> rfl
theorem infoSeal : (Tryz.prog.info? 26).map (fun i => (i.zero, i.size, i.bytes)) = some (some (.agg #[.int .i64 0, .int .i64 0, .int .i64 0, .int .i64 0, .slice none 0 0]), 5, 56) := by kernel_rfl
/-- its labels read, in a block of G -/
structure Sx.Ok (x : Sx) (w : World) (G : Nat → Prop) : Prop where
  le : x.s.labels.length ≤ x.C
  max : x.C ≤ maxLen
  nil : x.A = none → x.s.labels.length = 0 ∧ x.C = 0
  rd : RdZ w x.A x.s.labels G
theorem Sx.Ok.mono {x : Sx} {w : World} {G G' : Nat → Prop} (h : x.Ok w G) (hg : ∀ b, G b → G' b) : x.Ok w G' := ⟨h.le, h.max, h.nil, h.rd.mono hg⟩
theorem Sx.Ok.old {x : Sx} {w w' : World} {G : Nat → Prop} (h : x.Ok w G) (hb : Below w.heap.size w w') : x.Ok w' G := ⟨h.le, h.max, h.nil, h.rd.old hb⟩
theorem Sx.Ok.kp {x : Sx} {w w' : World} {G S : Nat → Prop} (h : x.Ok w G) (hk : Kp S w w') (hs : ∀ b, G b → ¬ S b) : x.Ok w' G := ⟨h.le, h.max, h.nil, h.rd.kp hk hs⟩
theorem Sx.Ok.in_ {x : Sx} {w : World} {G : Nat → Prop} (h : x.Ok w G) : x.Ok w (fun b => G b ∧ b < w.heap.size) := ⟨h.le, h.max, h.nil, h.rd.in_⟩
/-- in block g, from off on, lies this list of seals; it is no frozen one -/
def SitsX (w : World) (g off : Nat) (l : List Sx) : Prop :=
  ∃ cur : Array Value, w.heap[g]? = some (.cells cur 26 (0, 0)) ∧ off + l.length * 5 ≤ cur.size ∧ ∀ i (hi : i < l.length) j u, (l[i].enc)[j]? = some u → cur[off + i * 5 + j]? = some u
namespace SitsX
variable {w w' : World} {g off : Nat} {l : List Sx}
theorem at_ (h : SitsX w g off l) {i : Nat} (hi : i < l.length) : w.cell? ⟨g, off + i * 5, none⟩ = some (.int .i64 l[i].s.number) ∧ w.cell? ⟨g, off + i * 5 + 1, none⟩ = some (.int .i64 l[i].s.index) ∧ w.cell? ⟨g, off + i * 5 + 2, none⟩ = some (.int .i64 l[i].s.data)
    ∧ w.cell? ⟨g, off + i * 5 + 3, none⟩ = some (.int .i64 l[i].s.parity) ∧ w.cell? ⟨g, off + i * 5 + 4, none⟩ = some (.slice l[i].A l[i].s.labels.length l[i].C) := by
  obtain ⟨cur, hg, _, hc⟩ := h
  rw [heap_cell hg, heap_cell hg, heap_cell hg, heap_cell hg, heap_cell hg]
  exact ⟨hc i hi 0 _ rfl, hc i hi 1 _ rfl, hc i hi 2 _ rfl, hc i hi 3 _ rfl, hc i hi 4 _ rfl⟩
theorem free (h : SitsX w g off l) (k : Nat) : w.frozen? ⟨g, k, none⟩ = false := by
  obtain ⟨cur, hg, _⟩ := h
  exact heap_frozen hg
theorem lt (h : SitsX w g off l) : g < w.heap.size := by
  obtain ⟨cur, hg, _⟩ := h
  exact heap_lt hg
theorem block (h : SitsX w g off l) (e : w'.heap[g]? = w.heap[g]?) : SitsX w' g off l := by
  obtain ⟨cur, hg, hc⟩ := h
  exact ⟨cur, e.trans hg, hc⟩
theorem old (h : SitsX w g off l) (hb : Below w.heap.size w w') : SitsX w' g off l := h.block (hb.block g h.lt)
theorem drew (h : SitsX w g off l) : SitsX w.drew g off l := h
/-- one of them is stored into -/
theorem set (h : SitsX w g off l) {i : Nat} (hi : i < l.length) (x : Sx) :
    SitsX (((((w.setCell ⟨g, off + i * 5, none⟩ (.int .i64 x.s.number)).setCell ⟨g, off + i * 5 + 1, none⟩ (.int .i64 x.s.index)).setCell ⟨g, off + i * 5 + 2, none⟩ (.int .i64 x.s.data)).setCell ⟨g, off + i * 5 + 3, none⟩ (.int .i64 x.s.parity)).setCell ⟨g, off + i * 5 + 4, none⟩ (.slice x.A x.s.labels.length x.C)) g off (l.set i x) := by
  obtain ⟨cur, hg, hs, hc⟩ := h
  refine ⟨_, heap_set (heap_set (heap_set (heap_set (heap_set hg _) _) _) _) _, by simpa using hs, fun k hk j u hu => ?_⟩
  rw [List.length_set] at hk
  have hin : off + i * 5 + 5 ≤ cur.size := by
    have : (i + 1) * 5 ≤ l.length * 5 := Nat.mul_le_mul_right _ hi
    omega
  have hj : j < 5 := by
    have := (List.getElem?_eq_some_iff.1 hu).1
    simpa [Sx.enc] using this
  simp only [Array.getElem?_setIfInBounds, Array.size_setIfInBounds]
  by_cases e : k = i
  · subst e
    rw [List.getElem_set_self] at hu
    match j, hu, hj with
    | 0, hu, _ => cases hu; simp (disch := omega); omega
    | 1, hu, _ => cases hu; simp (disch := omega); omega
    | 2, hu, _ => cases hu; simp (disch := omega); omega
    | 3, hu, _ => cases hu; simp (disch := omega); omega
    | 4, hu, _ => cases hu; simp (disch := omega); omega
    | j + 5, _, hj => omega
  · rw [List.getElem_set_ne (fun h => e h.symm)] at hu
    rw [if_neg (by omega), if_neg (by omega), if_neg (by omega), if_neg (by omega), if_neg (by omega)]
    exact hc k hk j u hu
theorem kp_set (w : World) (g a b c d e : Nat) (u0 u1 u2 u3 u4 : Value) : Kp (· = g) w (((((w.setCell ⟨g, a, none⟩ u0).setCell ⟨g, b, none⟩ u1).setCell ⟨g, c, none⟩ u2).setCell ⟨g, d, none⟩ u3).setCell ⟨g, e, none⟩ u4) :=
  ((((Kp.store _ _ _ _).trans (Kp.store _ _ _ _)).trans (Kp.store _ _ _ _)).trans (Kp.store _ _ _ _)).trans (Kp.store _ _ _ _)
/-- as a row that reads -/
theorem rd (h : SitsX w g off l) {G : Nat → Prop} (hg : G g) : encX.Rd w (some ⟨g, off, none⟩) l G := fun hn => by
  obtain ⟨cur, hb, _, hc⟩ := h
  refine ⟨g, off, rfl, hg, fun i hi j u hu => ?_⟩
  rw [heap_cell hb]; exact hc i hi j u hu
theorem take (h : SitsX w g off l) (k : Nat) : SitsX w g off (l.take k) := by
  obtain ⟨cur, hb, hs, hc⟩ := h
  refine ⟨cur, hb, ?_, fun i hi j u hu => ?_⟩
  · rw [List.length_take]
    have : min k l.length * 5 ≤ l.length * 5 := Nat.mul_le_mul_right _ (Nat.min_le_right _ _)
    omega
  · rw [List.length_take] at hi
    rw [List.getElem_take] at hu
    exact hc i (by omega) j u hu
end SitsX
/-- a row that a call owns, as one that sits in a block -/
theorem sits_own {w : World} {base : Nat} {v : Value} {l : List Sx} (h : encX.Own w base 26 v l) : (v = .slice none 0 0 ∧ l = []) ∨ ∃ g C, v = .slice (some ⟨g, 0, none⟩) l.length C ∧ l.length ≤ C ∧ C ≤ maxLen ∧ base ≤ g ∧ SitsX w g 0 l := by
  rcases h.2 with ⟨rfl, h0⟩ | ⟨g, cap, cur, rfl, hb, hg, hnc, hcm, hs, ht⟩
  · exact .inl ⟨rfl, List.length_eq_zero_iff.1 h0⟩
  · refine .inr ⟨g, cap, rfl, hnc, hcm, hb, cur, hg, ?_, fun i hi j u hu => ?_⟩
    · rw [hs, Nat.zero_add]; exact Nat.mul_le_mul_right _ hnc
    · have hj : j < 5 := by
        have := (List.getElem?_eq_some_iff.1 hu).1
        simpa [Sx.enc] using this
      have hx := encX.cells_get l i j hj hi
      have hlt : i * 5 + j < l.length * 5 := by
        have h1 : (i + 1) * 5 ≤ l.length * 5 := Nat.mul_le_mul_right _ hi
        omega
      rw [← ht, List.getElem?_take] at hx
      have e5 : encX.k = 5 := rfl
      rw [e5, if_pos hlt, Array.getElem?_toList] at hx
      rw [Nat.zero_add, hx]; exact hu
end Go.Proofs.YtcokmmanajdioaaGreat
namespace Go.Proofs.YtcokmmanajdioaaGreat
open Go.RowKit
open Pt (Tx)

/-- what is answered for it -/
def sealIs (o : Option Rc.S) : Rc.S := o.getD Rc.S.zero
def SealA (o : Option Rc.S) (w : World) (e : Ending) (w' : World) : Prop :=
  ∃ x : Sx, e = .returned (.tuple #[.agg #[.int .i64 x.s.number, .int .i64 x.s.index, .int .i64 x.s.data, .int .i64 x.s.parity, .slice x.A x.s.labels.length x.C], .bool o.isSome]) ∧ x.s = sealIs o ∧ x.Ok w' (w.heap.size ≤ ·) ∧ Below w.heap.size w w'
theorem SealA.stored {w w7 : World} {B : Nat} {a0 a1 a2 a3 a4 : Value} {o : Option Rc.S} {n i d p : Int} {m : Nat} {l : List Int} {A : Option Addr} {C : Nat} {b : Bool} (hu : (⟨n, i, d, p, l⟩ : Rc.S) = sealIs o) (hb : o.isSome = b) (hB : w.heap.size ≤ B) (hm : m = l.length) (hok : Sx.Ok ⟨⟨n, i, d, p, l⟩, A, C⟩ w7 (fun x => w.heap.size ≤ x ∧ x ≠ B)) (hbl : Below w.heap.size w w7) :
    SealA o w (.returned (.tuple #[.agg #[.int .i64 n, .int .i64 i, .int .i64 d, .int .i64 p, .slice A m C], .bool b])) (((((w7.setCell ⟨B, 0, none⟩ a0).setCell ⟨B, 1, none⟩ a1).setCell ⟨B, 2, none⟩ a2).setCell ⟨B, 3, none⟩ a3).setCell ⟨B, 4, none⟩ a4) := by
  have hk := SitsX.kp_set w7 B 0 1 2 3 4 a0 a1 a2 a3 a4
  subst hm
  exact ⟨⟨⟨n, i, d, p, l⟩, A, C⟩, by rw [hb], hu, (hok.kp hk (fun x hx hx' => hx.2 hx')).mono (fun x hx => hx.1), hbl.trans (hk.below hbl.size (fun x hx => by omega))⟩
theorem nil_ok (w : World) (G : Nat → Prop) (n i d p : Int) : Sx.Ok ⟨⟨n, i, d, p, []⟩, none, 0⟩ w G := ⟨Nat.le_refl _, Nat.zero_le _, fun _ => ⟨rfl, rfl⟩, RdZ.empty _ _ _⟩
/-- a tape's block, and a seal's behind it -/
theorem tape_seal {w wb : World} {o1 o2 : Obj} (h : wb = (w.alloc o1).alloc o2) : Below w.heap.size w wb ∧ wb.heap[w.heap.size]? = some o1 ∧ wb.heap[w.heap.size + 1]? = some o2 := two_blocks h
set_option maxRecDepth 100000 in
set_option maxHeartbeats 4000000 in
theorem sealed_any (lab cap : Int) (bs : List Tx) (A : Option Addr) (L C : Nat) (G : Nat → Prop) (lost : Bool) (w : World) (hL : L = bs.length) (hLm : L ≤ 1000000) (hr : RdB w A bs G) (hl : ∀ s ∈ bs, s.length ≤ 1000000) :
    Calls Tryz.prog 61 #[.agg #[.int .i64 lab, .int .i64 cap, .slice A L C, .bool lost]] w (SealA (Gr.sealed ⟨lab, cap, bs, lost⟩) w) := by
  obtain ⟨wb, hwb⟩ : ∃ wb, wb = (w.alloc (tapeObj lab cap A L C lost)).alloc (sealObj 0 0 0 0 none 0 0) := ⟨_, rfl⟩
  obtain ⟨hB, hT, hU⟩ := tape_seal hwb
  obtain ⟨N, hN⟩ : ∃ N : Int, N = (L : Int) - 1 := ⟨_, rfl⟩
  have hcall := good_any lab cap bs A L C G lost N wb hL (hr.old hB) hl
  have hgz : Vo.goodZ ⟨lab, bs, lost⟩ N = Vo.good ⟨lab, bs, lost⟩ (bs.length - 1) := by
    unfold Vo.goodZ
    split
    · have h0 : bs.length = 0 := by omega
      rw [Vo.good_end (t := ⟨lab, bs, lost⟩) (by show bs.length ≤ _; omega)]
    · rw [show N.toNat = bs.length - 1 by omega]
  rw [hgz] at hcall
  have s1 : IntKind.i64.wrap ((L : Int) - 1) = N := by rw [hN]; exact IntWalk.i64_in _ (by omega)
  have hload : (unitOf (Vo.good ⟨lab, bs, lost⟩ (bs.length - 1))).load.length ≤ 1000 := by
    cases h : Vo.good ⟨lab, bs, lost⟩ (bs.length - 1) with
    | none => exact Nat.zero_le _
    | some u =>
      obtain ⟨b, -, hg, rfl⟩ := Vo.good_some h
      have h1 := hg.1.2
      have h2 := Fm.room_le (Fm.parse b).kind
      show (Fm.parse b).load.length ≤ 1000
      omega
  have HB := Lib.hid hB
  have HU := Lib.hid hU
  have HW : Hid (wb = (w.alloc (.cells #[.int .i64 lab, .int .i64 cap, .slice A L C, .bool lost] 31)).alloc (.cells #[.int .i64 0, .int .i64 0, .int .i64 0, .int .i64 0, .slice none 0 0] 26)) := Lib.hid hwb
  obtain ⟨t0, t1, t2, t3⟩ := tape4 hT
  rw [HW.out] at t0 t1 t2 t3
  obtain ⟨ok, hok⟩ : ∃ ok, ok = (Vo.good ⟨lab, bs, lost⟩ (bs.length - 1)).isSome := ⟨_, rfl⟩
  obtain ⟨k, lb, nb, ld, hu⟩ : ∃ k lb nb ld, unitOf (Vo.good ⟨lab, bs, lost⟩ (bs.length - 1)) = ⟨k, lb, nb, ld⟩ := ⟨_, _, _, _, rfl⟩
  unfold GoodA at hcall
  rw [hu, ← hok] at hcall
  rw [hu] at hload
  have hload' : ld.length ≤ 1000 := hload
  have hcase : (Gr.sealed ⟨lab, cap, bs, lost⟩ = none ∧ (ok = false ∨ (ok = true ∧ (k != 5) = true))) ∨ (ok = true ∧ k = 5 ∧ Gr.sealed ⟨lab, cap, bs, lost⟩ = if Rc.SGood ld then some (Rc.sparse ld) else none) := by
    cases h : Vo.good ⟨lab, bs, lost⟩ (bs.length - 1) with
    | none =>
      rw [h] at hok
      exact .inl ⟨Gr.sealed_bad (t := ⟨lab, cap, bs, lost⟩) h, .inl hok⟩
    | some u =>
      rw [h] at hok hu
      have hok' : ok = true := hok
      have hu' : u = ⟨k, lb, nb, ld⟩ := hu
      subst hu'
      by_cases h1 : k = 5
      · refine .inr ⟨hok', h1, ?_⟩
        unfold Gr.sealed
        rw [show Vo.good (Gr.vo ⟨lab, cap, bs, lost⟩) ((⟨lab, cap, bs, lost⟩ : St.T).blocks.length - 1) = some ⟨k, lb, nb, ld⟩ from h]
        show (if k = 5 ∧ Rc.SGood ld then some (Rc.sparse ld) else none) = _
        by_cases h2 : Rc.SGood ld
        · rw [if_pos ⟨h1, h2⟩, if_pos h2]
        · rw [if_neg fun h => h2 h.2, if_neg h2]
      · exact .inl ⟨Gr.sealed_kind (t := ⟨lab, cap, bs, lost⟩) h h1, .inr ⟨hok', by simpa using h1⟩⟩
  have HC := Lib.hid hcall
  have HLD := Lib.hid hload'
  clear hcall hload hload' hB hT hU hwb hr hL hl hu hok hgz hN
  rcases hcase with ⟨hres, hq⟩ | ⟨rfl, rfl, hres⟩
  · have HRES := Lib.hid hres
    clear hres
    rcases hq with rfl | ⟨rfl, p1⟩
    all_goals
      go_enter Tryz.func61, Tryz.ntmps61
      go_wp2_with fail
      rw [← HW.out]
      refine HC.out.mono ?_
      rintro e w1 ⟨A1, m1, C1, rfl, hm1, hc1, hn1, hr1, hb1⟩
      obtain ⟨wc, hwc⟩ : ∃ wc, wc = w1.alloc (unitObj k lb nb A1 m1 C1) := ⟨_, rfl⟩
      have hbc : Below wb.heap.size wb wc := by rw [hwc]; exact hb1.alloc hb1.size _
      have HZ := Lib.hid (below_obj hbc HU.out)
      have HBC := Lib.hid (HB.out.trans (hbc.mono HB.out.size))
      have hX : wc.heap[w1.heap.size]? = some (unitObj k lb nb A1 m1 C1) := by rw [hwc]; exact Go.Deep.blk_alloc_new _ _
      obtain ⟨x0, x1, x2, x3⟩ := unit4 hX
      have HWC := Lib.hid hwc
      unfold unitObj at HWC
      obtain ⟨z0, z1, z2, z3, z4⟩ := seal5 HZ.out
      obtain ⟨y0, y1, y2, y3, y4⟩ := seal_free HZ.out
      rw [HWC.out] at z0 z1 z2 z3 z4 y0 y1 y2 y3 y4 x0 x1 x2 x3
      clear hwc hbc hb1 hr1 hn1 hc1 hm1 t0 t1 t2 t3 hX
      go_wp2
      rw [← HWC.out]
      clear z0 z1 z2 z3 z4
      obtain ⟨z0, z1, z2, z3, z4⟩ := seal5 HZ.out
      refine bodyPost_ret (v := .tuple #[.agg #[.int .i64 0, .int .i64 0, .int .i64 0, .int .i64 0, .slice none 0 0], .bool false]) (by simp [results, Tryz.results61, go_sem, z0, z1, z2, z3, z4]) rfl ?_
      rw [HRES.out]
      exact SealA.stored (l := []) rfl rfl (by omega) rfl (nil_ok _ _ _ _ _ _) HBC.out
  · have HRES := Lib.hid hres
    clear hres
    go_enter Tryz.func61, Tryz.ntmps61
    go_wp2_with fail
    rw [← HW.out]
    refine HC.out.mono ?_
    rintro e w1 ⟨A1, m1, C1, rfl, hm1, hc1, hn1, hr1, hb1⟩
    obtain ⟨wc, hwc⟩ : ∃ wc, wc = w1.alloc (unitObj 5 lb nb A1 m1 C1) := ⟨_, rfl⟩
    have hb1' : Below w1.heap.size w1 wc := by rw [hwc]; exact (Below.refl _ _).alloc (Nat.le_refl _) _
    have hbc : Below wb.heap.size wb wc := hb1.trans (hb1'.mono hb1.size)
    have hcall := readSeal_any A1 ld m1 C1 _ wc hm1 (by have h1 : m1 = ld.length := hm1; have := HLD.out; omega) hn1 (hr1.old hb1')
    have HC2 := Lib.hid hcall
    have HZ := Lib.hid (below_obj hbc HU.out)
    have HBC := Lib.hid (HB.out.trans (hbc.mono HB.out.size))
    have hX : wc.heap[w1.heap.size]? = some (unitObj 5 lb nb A1 m1 C1) := by rw [hwc]; exact Go.Deep.blk_alloc_new _ _
    obtain ⟨x0, x1, x2, x3⟩ := unit4 hX
    have HWC := Lib.hid hwc
    unfold unitObj at HWC
    rw [HWC.out] at x0 x1 x2 x3
    clear hwc hbc hb1 hb1' hr1 hn1 hc1 hm1 t0 t1 t2 t3 hcall HU HB hX
    go_wp2_with fail
    rw [← HWC.out]
    clear x0 x1 x2 x3
    refine HC2.out.mono ?_
    rintro e w2 ⟨A2, m2, C2, rfl, hm2, hc2, hcm2, hn2, hr2, hb2⟩
    obtain ⟨⟨sn, si, sd, sp, sl⟩, hs⟩ : ∃ s, s = Rc.sgot ld := ⟨_, rfl⟩
    obtain ⟨ge, hge⟩ : ∃ ge, ge = Rc.sgotE ld := ⟨_, rfl⟩
    rw [← hs] at hm2 hr2 ⊢
    rw [← hge]
    dsimp only at hm2 hr2 ⊢
    obtain ⟨wd, hwd⟩ : ∃ wd, wd = w2.alloc (sealObj sn si sd sp A2 m2 C2) := ⟨_, rfl⟩
    have hb2' : Below w2.heap.size w2 wd := by rw [hwd]; exact (Below.refl _ _).alloc (Nat.le_refl _) _
    have hbd : Below wc.heap.size wc wd := hb2.trans (hb2'.mono hb2.size)
    have HZD := Lib.hid (below_obj hbd HZ.out)
    have HBD := Lib.hid (HBC.out.trans (hbd.mono HBC.out.size))
    have hY : wd.heap[w2.heap.size]? = some (sealObj sn si sd sp A2 m2 C2) := by rw [hwd]; exact Go.Deep.blk_alloc_new _ _
    have HOK : Hid (Sx.Ok ⟨⟨sn, si, sd, sp, sl⟩, A2, C2⟩ wd (fun x => w.heap.size ≤ x ∧ x ≠ w.heap.size + 1)) := Lib.hid (by
      have h1 := heap_lt HZ.out
      have h2 := HBC.out.size
      refine ⟨by rw [← hm2]; exact hc2, hcm2, fun h => ?_, (hr2.old hb2').mono (fun x hx => ?_)⟩
      · have := hn2 h; rw [← hm2]; exact this
      · have hx' : wc.heap.size ≤ x := hx
        omega)
    have HM2 := Lib.hid hm2
    have HFIN : Hid ((⟨sn, si, sd, sp, sl⟩ : Rc.S) = sealIs (Gr.sealed ⟨lab, cap, bs, lost⟩) ∧ (Gr.sealed ⟨lab, cap, bs, lost⟩).isSome = (ge == 0)) := Lib.hid (by
      rw [HRES.out, hs, hge]
      by_cases hg : Rc.SGood ld
      · rw [if_pos hg, Rc.sgot_yes hg, Rc.sgotE_yes hg]
        exact ⟨rfl, rfl⟩
      · rw [if_neg hg, Rc.sgot_no hg, Rc.sgotE_no hg]
        exact ⟨rfl, rfl⟩)
    obtain ⟨x0, x1, x2, x3, x4⟩ := seal5 hY
    obtain ⟨z0, z1, z2, z3, z4⟩ := seal5 HZD.out
    obtain ⟨y0, y1, y2, y3, y4⟩ := seal_free HZD.out
    have HWD := Lib.hid hwd
    unfold sealObj at HWD
    rw [HWD.out] at x0 x1 x2 x3 x4 z0 z1 z2 z3 z4 y0 y1 y2 y3 y4
    clear hwd hb2 hb2' hbd hY hr2 hm2 hs hge hc2 hcm2 hn2
    go_wp2
    rw [← HWD.out]
    clear z0 z1 z2 z3 z4
    obtain ⟨z0, z1, z2, z3, z4⟩ := seal5 HZD.out
    exact bodyPost_ret (v := .tuple #[.agg #[.int .i64 sn, .int .i64 si, .int .i64 sd, .int .i64 sp, .slice A2 m2 C2], .bool (ge == 0)]) (by simp [results, Tryz.results61, go_sem, z0, z1, z2, z3, z4]) rfl (SealA.stored (l := sl) HFIN.out.1 HFIN.out.2 (by omega) HM2.out HOK.out HBD.out)
end Go.Proofs.YtcokmmanajdioaaGreat
namespace Go.Proofs.YtcokmmanajdioaaGreat
open Go.RowKit
open Pt (Tx)

/-- where the first of a row of tapes is of which it holds; -1: of none -/
def IdxA (p : St.T → Bool) (ts : List St.T) (w : World) (e : Ending) (w' : World) : Prop :=
  ∃ z : Int, e = .returned (.int .i64 z) ∧ ((z = -1 ∧ ∀ t ∈ ts, p t = false) ∨ ∃ k, ∃ hk : k < ts.length, z = (k : Int) ∧ p ts[k] = true ∧ ∀ j (hj : j < k), p (ts[j]'(Nat.lt_trans hj hk)) = false) ∧ Below w.heap.size w w'
theorem none_take {p : St.T → Bool} {ts : List St.T} {k : Nat} (hk : k < ts.length) (h : ∀ j (hj : j < k), p (ts[j]'(Nat.lt_trans hj hk)) = false) (hp : p ts[k] = false) : ∀ j (_ : j < k + 1) (hl : j < ts.length), p (ts[j]'hl) = false := fun j hj hl => by
  by_cases e : j = k
  · subst e; exact hp
  · exact h j (by omega)
set_option maxRecDepth 100000 in
theorem isLabel_any (gb : Nat) (l0 : Int) (lab cap : Int) (A : Option Addr) (n C : Nat) (lost : Bool) (w : World) (hgb : w.cell? ⟨gb, 0, none⟩ = some (.int .i64 l0)) :
    Calls Tryz.prog 35 #[.agg #[.int .i64 lab, .int .i64 cap, .slice A n C, .bool lost], .pointer (some ⟨gb, 0, none⟩)] w (AnsB (decide (lab = l0)) w) := by
  obtain ⟨hb, ht⟩ := tape_new w lab cap A n C lost
  obtain ⟨t0, t1, t2, t3⟩ := tape4 ht
  have g0 := (hb.cell (World.block_lt_of_cell? _ _ hgb)).trans hgb
  have HB := Lib.hid hb
  obtain ⟨d, hd⟩ : ∃ d, d = (lab == l0) := ⟨_, rfl⟩
  have he : decide (lab = l0) = d := by rw [hd]; rfl
  rw [he]
  have HD := Lib.hid hd
  unfold tapeObj at t0 t1 t2 t3 HB g0
  clear hb ht hgb hd he
  go_enter Tryz.func35, Tryz.ntmps35
  go_wp2
  go_ret
  exact ⟨by rw [HD.out]; rfl, HB.out⟩
set_option maxRecDepth 100000 in
theorem isSealed_any (lab cap : Int) (bs : List Tx) (A : Option Addr) (L C : Nat) (G : Nat → Prop) (lost : Bool) (w : World) (hL : L = bs.length) (hLm : L ≤ 1000000) (hr : RdB w A bs G) (hl : ∀ s ∈ bs, s.length ≤ 1000000) :
    Calls Tryz.prog 49 #[.agg #[.int .i64 lab, .int .i64 cap, .slice A L C, .bool lost]] w (AnsB (Gr.sealed ⟨lab, cap, bs, lost⟩).isSome w) := by
  obtain ⟨hb, ht⟩ := tape_new w lab cap A L C lost
  obtain ⟨t0, t1, t2, t3⟩ := tape4 ht
  have HC := Lib.hid (sealed_any lab cap bs A L C G lost (w.alloc (tapeObj lab cap A L C lost)) hL hLm (hr.old hb) hl)
  have HB := Lib.hid hb
  unfold tapeObj at t0 t1 t2 t3 HB HC
  obtain ⟨o, ho⟩ : ∃ o, o = Gr.sealed ⟨lab, cap, bs, lost⟩ := ⟨_, rfl⟩
  rw [← ho] at HC ⊢
  clear hb ht hL hr hl ho
  go_enter Tryz.func49, Tryz.ntmps49
  go_wp2_with fail
  refine HC.out.mono ?_
  rintro e w1 ⟨⟨⟨sn, si, sd, sp, sl⟩, sA, sC⟩, rfl, -, -, hb1⟩
  have HB1 := Lib.hid (HB.out.trans (hb1.mono HB.out.size))
  clear hb1 t0 t1 t2 t3
  go_wp2
  go_ret
  exact ⟨rfl, HB1.out.alloc HB1.out.size _⟩
set_option maxRecDepth 100000 in
set_option maxHeartbeats 2000000 in
theorem label_index (gb : Nat) (l0 : Int) (A : Option Addr) (ts : List St.T) (n C : Nat) (G : Nat → Prop) (w : World) (hnl : n = ts.length) (hn : n ≤ 1000000) (hr : RdT w A ts G) (hgb : w.cell? ⟨gb, 0, none⟩ = some (.int .i64 l0)) :
    Calls Tryz.prog 34 #[.slice A n C, .func (.func 35) #[] #[.pointer (some ⟨gb, 0, none⟩)]] w (IdxA (fun t => decide (t.label = l0)) ts w) := by
  have HR := Lib.hid hr
  have HNL := Lib.hid hnl
  have HGB := Lib.hid hgb
  clear hgb
  clear hr hnl
  go_enter Tryz.func34, Tryz.ntmps34
  go_wp2
  go_loopw [8] (fun vi wr => ∃ k : Nat, k ≤ n ∧ vi = .int .i64 (k : Int) ∧ Hid (∀ j (_ : j < k) (hl : j < ts.length), (fun t => decide (t.label = l0)) (ts[j]'hl) = false) ∧ Hid (Below w.heap.size w wr)) (fun vi _ => n - (intOf vi).toNat)
  case atStart => exact ⟨0, Nat.zero_le _, rfl, Lib.hid (fun j hj => absurd hj (by omega)), Lib.hid (Below.refl _ _)⟩
  case round =>
    obtain ⟨k, hk, rfl, HN, HB⟩ := hrel
    by_cases hlt : k < n
    · have e0 : decide (k < n) = true := decide_eq_true hlt
      have hlt' : k < ts.length := by rw [← HNL.out]; exact hlt
      obtain ⟨b, off, A', C', rfl, -, c0, c1, c2, c3, hb⟩ := (HR.out.old HB.out).at_ hlt'
      obtain ⟨d, hd⟩ : ∃ d, d = (fun t => decide (t.label = l0)) ts[k] := ⟨_, rfl⟩
      have HD := Lib.hid hd
      have hcall := isLabel_any gb l0 ts[k].label ts[k].cap A' ts[k].blocks.length C' ts[k].lost wr ((HB.out.cell (World.block_lt_of_cell? _ _ HGB.out)).trans HGB.out)
      have hd2 : decide (ts[k].label = l0) = d := hd.symm
      rw [hd2] at hcall
      clear hd2
      clear hd
      obtain ⟨⟨lab, cap, bs, lost⟩, ht⟩ : ∃ t, t = ts[k] := ⟨_, rfl⟩
      rw [← ht] at c0 c1 c2 c3 hcall
      dsimp only at c0 c1 c2 c3 hcall
      obtain ⟨m, hm⟩ : ∃ m, m = bs.length := ⟨_, rfl⟩
      rw [← hm] at c2 hcall
      have HC := Lib.hid hcall
      clear ht hb hcall hm
      cases d with
      | true =>
        have HFIN : Hid (∃ k', ∃ hk : k' < ts.length, (k : Int) = (k' : Int) ∧ (fun t => decide (t.label = l0)) ts[k'] = true ∧ ∀ j (hj : j < k'), (fun t => decide (t.label = l0)) (ts[j]'(Nat.lt_trans hj hk)) = false) := Lib.hid ⟨k, hlt', rfl, HD.out.symm, fun j hj => HN.out j hj (by omega)⟩
        go_wp2_with (go_at_call 35; refine HC.out.mono ?_; rintro e w1 ⟨rfl, hb1⟩; have HB1 := Lib.hid (HB.out.trans (hb1.mono HB.out.size)); clear hb1)
        go_ret
        exact ⟨(k : Int), rfl, .inr HFIN.out, HB1.out⟩
      | false =>
        have HF : Hid (∀ j (_ : j < k + 1) (hl : j < ts.length), (fun t => decide (t.label = l0)) (ts[j]'hl) = false) := Lib.hid (none_take (p := fun t => decide (t.label = l0)) hlt' (fun j hj => HN.out j hj (by omega)) HD.out.symm)
        go_wp2_with (go_at_call 35; refine HC.out.mono ?_; rintro e w1 ⟨rfl, hb1⟩; have HB1 := Lib.hid (HB.out.trans (hb1.mono HB.out.size)); clear hb1)
        go_roundw
        case rel => exact ⟨k + 1, by omega, by go_num, HF, HB1⟩
        case measure => simp [intOf]; omega
    · have e0 : decide (k < n) = false := decide_eq_false hlt
      have HF : Hid (∀ t ∈ ts, (fun t => decide (t.label = l0)) t = false) := Lib.hid fun t ht => by
        obtain ⟨j, hj, rfl⟩ := List.mem_iff_getElem.1 ht
        exact HN.out j (by have := HNL.out; omega) hj
      go_wp2
      go_ret
      exact ⟨-1, rfl, .inl ⟨rfl, HF.out⟩, HB.out⟩
set_option maxRecDepth 100000 in
set_option maxHeartbeats 2000000 in
theorem sealed_index (A : Option Addr) (ts : List St.T) (n C : Nat) (G : Nat → Prop) (w : World) (hnl : n = ts.length) (hn : n ≤ 1000000) (hr : RdT w A ts G) (hl : ∀ t ∈ ts, t.blocks.length ≤ 1000000 ∧ ∀ s ∈ t.blocks, s.length ≤ 1000000) :
    Calls Tryz.prog 34 #[.slice A n C, .func (.func 49) #[] #[]] w (IdxA (fun t => (Gr.sealed t).isSome) ts w) := by
  have HR := Lib.hid hr
  have HNL := Lib.hid hnl
  have HL := Lib.hid hl
  clear hl
  clear hr hnl
  go_enter Tryz.func34, Tryz.ntmps34
  go_wp2
  go_loopw [8] (fun vi wr => ∃ k : Nat, k ≤ n ∧ vi = .int .i64 (k : Int) ∧ Hid (∀ j (_ : j < k) (hl : j < ts.length), (fun t => (Gr.sealed t).isSome) (ts[j]'hl) = false) ∧ Hid (Below w.heap.size w wr)) (fun vi _ => n - (intOf vi).toNat)
  case atStart => exact ⟨0, Nat.zero_le _, rfl, Lib.hid (fun j hj => absurd hj (by omega)), Lib.hid (Below.refl _ _)⟩
  case round =>
    obtain ⟨k, hk, rfl, HN, HB⟩ := hrel
    by_cases hlt : k < n
    · have e0 : decide (k < n) = true := decide_eq_true hlt
      have hlt' : k < ts.length := by rw [← HNL.out]; exact hlt
      obtain ⟨b, off, A', C', rfl, -, c0, c1, c2, c3, hb⟩ := (HR.out.old HB.out).at_ hlt'
      obtain ⟨d, hd⟩ : ∃ d, d = (fun t => (Gr.sealed t).isSome) ts[k] := ⟨_, rfl⟩
      have HD := Lib.hid hd
      have hcall := isSealed_any ts[k].label ts[k].cap ts[k].blocks A' ts[k].blocks.length C' _ ts[k].lost wr rfl (HL.out _ (List.getElem_mem hlt')).1 hb (HL.out _ (List.getElem_mem hlt')).2
      have hd2 : (Gr.sealed ⟨ts[k].label, ts[k].cap, ts[k].blocks, ts[k].lost⟩).isSome = d := hd.symm
      rw [hd2] at hcall
      clear hd2
      clear hd
      obtain ⟨⟨lab, cap, bs, lost⟩, ht⟩ : ∃ t, t = ts[k] := ⟨_, rfl⟩
      rw [← ht] at c0 c1 c2 c3 hcall
      dsimp only at c0 c1 c2 c3 hcall
      obtain ⟨m, hm⟩ : ∃ m, m = bs.length := ⟨_, rfl⟩
      rw [← hm] at c2 hcall
      have HC := Lib.hid hcall
      clear ht hb hcall hm
      cases d with
      | true =>
        have HFIN : Hid (∃ k', ∃ hk : k' < ts.length, (k : Int) = (k' : Int) ∧ (fun t => (Gr.sealed t).isSome) ts[k'] = true ∧ ∀ j (hj : j < k'), (fun t => (Gr.sealed t).isSome) (ts[j]'(Nat.lt_trans hj hk)) = false) := Lib.hid ⟨k, hlt', rfl, HD.out.symm, fun j hj => HN.out j hj (by omega)⟩
        go_wp2_with (go_at_call 49; refine HC.out.mono ?_; rintro e w1 ⟨rfl, hb1⟩; have HB1 := Lib.hid (HB.out.trans (hb1.mono HB.out.size)); clear hb1)
        go_ret
        exact ⟨(k : Int), rfl, .inr HFIN.out, HB1.out⟩
      | false =>
        have HF : Hid (∀ j (_ : j < k + 1) (hl : j < ts.length), (fun t => (Gr.sealed t).isSome) (ts[j]'hl) = false) := Lib.hid (none_take (p := fun t => (Gr.sealed t).isSome) hlt' (fun j hj => HN.out j hj (by omega)) HD.out.symm)
        go_wp2_with (go_at_call 49; refine HC.out.mono ?_; rintro e w1 ⟨rfl, hb1⟩; have HB1 := Lib.hid (HB.out.trans (hb1.mono HB.out.size)); clear hb1)
        go_roundw
        case rel => exact ⟨k + 1, by omega, by go_num, HF, HB1⟩
        case measure => simp [intOf]; omega
    · have e0 : decide (k < n) = false := decide_eq_false hlt
      have HF : Hid (∀ t ∈ ts, (fun t => (Gr.sealed t).isSome) t = false) := Lib.hid fun t ht => by
        obtain ⟨j, hj, rfl⟩ := List.mem_iff_getElem.1 ht
        exact HN.out j (by have := HNL.out; omega) hj
      go_wp2
      go_ret
      exact ⟨-1, rfl, .inl ⟨rfl, HF.out⟩, HB.out⟩
end Go.Proofs.YtcokmmanajdioaaGreat
