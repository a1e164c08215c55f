/- Chapter 14's groups as lists: which seal a tape ends with, which groups tapes tell of, which has a label, which parity tapes are made. No program. A list sorted by a number, stably; and the first of each number alone: what a stable sort and a compaction make is what is put in one by one. No program. What between of package record answers. A row of numbers in memory as a list. No function of the program. A row of numbers in memory as a list, and a seal in its block. No function of the program. Seals in a row: each in five cells, its labels in a row of their own. No function of the program. A row of structs made longer by append: where it lies then; and a row of seals with their labels. No function of the program. What slices.Index, slices.Contains, rightLabels and RightSeal of package record answer. A Writer and a Reader of package code in memory, and those of the document's own. No function of the program. What a Writer of package code writes. Bytes that a call answers, in new memory. A byte of a number, written; bytes in new memory, their block known. -/
import Derived.Test.YtfkoomldncfdnaaGreatMb
import Derived.Test.YtfkoomldncfdnaaGreatChecked
import Derived.OwnWalk
import Derived.Handy
import Derived.WalkSpells
import Derived.WalkLawsBesides
import Derived.Test.YtfkoomldncfdnaaGreatMa
import Derived.Test.YtfkoomldncfdnaaGreatRows
import Derived.Deep.AppendLies
import Derived.Laws.CopyOwn
import Derived.StillTailTactics
namespace Go.Proofs.YtfkoomldncfdnaaGreat.Gr
open Pt (Tx)

/-- a tape, without how many blocks fit -/
def vo (t : St.T) : Vo.T := ⟨t.label, t.blocks, t.lost⟩
/-- the seal that a tape ends with -/
def sealed (t : St.T) : Option Rc.S :=
  match Vo.good (vo t) (t.blocks.length - 1) with
  | none => none
  | some u => if u.kind = 5 ∧ Rc.SGood u.load then some (Rc.sparse u.load) else none
/-- .. if the tape has the label that stands at its index -/
def cand (t : St.T) : Option Rc.S :=
  match sealed t with
  | none => none
  | some s => if s.labels.getD s.index.toNat 0 = t.label then some s else none
/-- a seal among those that rise by number, if none has its number -/
def ins (s : Rc.S) : List Rc.S → List Rc.S
  | [] => [s]
  | a :: l => if a.number < s.number then a :: ins s l else if a.number = s.number then a :: l else s :: a :: l
def all (cs : List Rc.S) : List Rc.S := cs.foldl (fun out s => ins s out) []
def cands (l : List St.T) : List Rc.S := l.filterMap cand
def find (l : List St.T) : List Rc.S := all (cands l)
theorem all_snoc (cs : List Rc.S) (s : Rc.S) : all (cs ++ [s]) = ins s (all cs) := by unfold all; rw [List.foldl_append]; rfl
theorem cands_snoc (l : List St.T) (t : St.T) : cands (l ++ [t]) = cands l ++ (match cand t with | none => [] | some s => [s]) := by
  unfold cands
  rw [List.filterMap_append]
  congr 1
  cases h : cand t <;> simp [h]
theorem find_none {l : List St.T} {t : St.T} (h : cand t = none) : find (l ++ [t]) = find l := by
  unfold find; rw [cands_snoc, h, List.append_nil]
theorem find_some {l : List St.T} {t : St.T} {s : Rc.S} (h : cand t = some s) : find (l ++ [t]) = ins s (find l) := by
  unfold find; rw [cands_snoc, h, all_snoc]
/-- they rise, each number once -/
def Up (l : List Rc.S) : Prop := l.Pairwise fun a b => a.number < b.number
theorem mem_ins {s x : Rc.S} : ∀ {l : List Rc.S}, x ∈ ins s l → x = s ∨ x ∈ l
  | [], h => by rw [ins] at h; exact .inl (List.mem_singleton.1 h)
  | a :: l, h => by
    rw [ins] at h
    split at h
    · rcases List.mem_cons.1 h with rfl | h
      · exact .inr List.mem_cons_self
      · exact (mem_ins h).imp id (List.mem_cons_of_mem _)
    · split at h
      · exact .inr h
      · rcases List.mem_cons.1 h with rfl | h
        · exact .inl rfl
        · exact .inr h
theorem ins_old {s x : Rc.S} : ∀ {l : List Rc.S}, x ∈ l → x ∈ ins s l
  | [], h => by cases h
  | a :: l, h => by
    rw [ins]
    split
    · rcases List.mem_cons.1 h with rfl | h
      · exact List.mem_cons_self
      · exact List.mem_cons_of_mem _ (ins_old h)
    · split
      · exact h
      · exact List.mem_cons_of_mem _ h
theorem ins_new {s : Rc.S} : ∀ {l : List Rc.S}, (∀ a ∈ l, a.number ≠ s.number) → s ∈ ins s l
  | [], _ => List.mem_singleton.2 rfl
  | a :: l, h => by
    rw [ins]
    split
    · exact List.mem_cons_of_mem _ (ins_new fun b hb => h b (List.mem_cons_of_mem _ hb))
    · rw [if_neg (h a List.mem_cons_self)]; exact List.mem_cons_self
theorem ins_up {s : Rc.S} : ∀ {l : List Rc.S}, Up l → Up (ins s l)
  | [], _ => List.pairwise_singleton _ _
  | a :: l, h => by
    obtain ⟨h1, h2⟩ := List.pairwise_cons.1 h
    rw [ins]
    split
    · refine List.pairwise_cons.2 ⟨fun b hb => ?_, ins_up h2⟩
      rcases mem_ins hb with rfl | hb
      · assumption
      · exact h1 b hb
    · split
      · exact h
      · refine List.pairwise_cons.2 ⟨fun b hb => ?_, h⟩
        rcases List.mem_cons.1 hb with rfl | hb
        · omega
        · have := h1 b hb; omega
/-- one with that number is there: nothing is turned -/
theorem ins_same {s : Rc.S} : ∀ {l : List Rc.S}, Up l → (∃ a ∈ l, a.number = s.number) → ins s l = l
  | [], _, h => by obtain ⟨a, ha, _⟩ := h; cases ha
  | a :: l, hu, h => by
    obtain ⟨h1, h2⟩ := List.pairwise_cons.1 hu
    rw [ins]
    split
    · rename_i hlt
      obtain ⟨b, hb, e⟩ := h
      rcases List.mem_cons.1 hb with rfl | hb
      · omega
      · rw [ins_same h2 ⟨b, hb, e⟩]
    · split
      · rfl
      · obtain ⟨b, hb, e⟩ := h
        rcases List.mem_cons.1 hb with rfl | hb
        · omega
        · have := h1 b hb; omega
theorem all_up (cs : List Rc.S) : Up (all cs) := by
  have key : ∀ (cs out : List Rc.S), Up out → Up (cs.foldl (fun out s => ins s out) out) := by
    intro cs
    induction cs with
    | nil => intro out h; exact h
    | cons s cs ih => intro out h; exact ih _ (ins_up h)
  exact key cs [] List.Pairwise.nil
theorem up_inj {l : List Rc.S} (h : Up l) {a b : Rc.S} (ha : a ∈ l) (hb : b ∈ l) (e : a.number = b.number) : a = b := by
  induction l with
  | nil => cases ha
  | cons c l ih =>
    obtain ⟨h1, h2⟩ := List.pairwise_cons.1 h
    rcases List.mem_cons.1 ha with rfl | ha' <;> rcases List.mem_cons.1 hb with rfl | hb'
    · rfl
    · have := h1 b hb'; omega
    · have := h1 a ha'; omega
    · exact ih h2 ha' hb'
/-- just the first of each number is among them -/
def First (cs : List Rc.S) (x : Rc.S) : Prop := ∃ i, ∃ h : i < cs.length, cs[i] = x ∧ ∀ k (hk : k < i), cs[k].number ≠ x.number
theorem first_snoc {cs : List Rc.S} {s x : Rc.S} : First (cs ++ [s]) x ↔ First cs x ∨ (x = s ∧ ∀ a ∈ cs, a.number ≠ s.number) := by
  constructor
  · rintro ⟨i, hi, e, hk⟩
    rcases Nat.lt_or_ge i cs.length with h | h
    · rw [List.getElem_append_left h] at e
      refine .inl ⟨i, h, e, fun k hki => ?_⟩
      have := hk k hki
      rwa [List.getElem_append_left (by omega)] at this
    · have hi' : i = cs.length := by simp at hi; omega
      subst hi'
      rw [List.getElem_concat_length rfl] at e
      refine .inr ⟨e.symm, fun a ha => ?_⟩
      obtain ⟨k, hk', rfl⟩ := List.mem_iff_getElem.1 ha
      have := hk k hk'
      rw [List.getElem_append_left hk', ← e] at this
      exact this
  · rintro (⟨i, h, e, hk⟩ | ⟨rfl, h⟩)
    · refine ⟨i, by simp; omega, by rw [List.getElem_append_left h]; exact e, fun k hki => ?_⟩
      rw [List.getElem_append_left (by omega)]
      exact hk k hki
    · refine ⟨cs.length, by simp, by rw [List.getElem_concat_length rfl], fun k hki => ?_⟩
      rw [List.getElem_append_left hki]
      exact h _ (List.getElem_mem hki)
theorem first_of {cs : List Rc.S} {a : Rc.S} (h : a ∈ cs) : ∃ x, First cs x ∧ x.number = a.number := by
  have key : ∀ n, ∀ i (hi : i < cs.length), i < n → ∃ x, First cs x ∧ x.number = cs[i].number := by
    intro n
    induction n with
    | zero => intro i _ h; omega
    | succ n ih =>
      intro i hi hin
      by_cases hx : ∀ k (hk : k < i), cs[k].number ≠ cs[i].number
      · exact ⟨cs[i], ⟨i, hi, rfl, hx⟩, rfl⟩
      · rw [Classical.not_forall] at hx
        obtain ⟨k, hk⟩ := hx
        rw [Classical.not_forall] at hk
        obtain ⟨hki, he⟩ := hk
        obtain ⟨x, h1, h2⟩ := ih k (by omega) (by omega)
        exact ⟨x, h1, h2.trans (Classical.not_not.1 he)⟩
  obtain ⟨i, hi, rfl⟩ := List.mem_iff_getElem.1 h
  exact key (i + 1) i hi (Nat.lt_succ_self i)
theorem First.mem {cs : List Rc.S} {x : Rc.S} (h : First cs x) : x ∈ cs := by
  obtain ⟨i, hi, rfl, _⟩ := h
  exact List.getElem_mem hi
theorem mem_all (cs : List Rc.S) (x : Rc.S) : x ∈ all cs ↔ First cs x := by
  have key : ∀ n (cs : List Rc.S), cs.length = n → ∀ x, x ∈ all cs ↔ First cs x := by
    intro n
    induction n with
    | zero =>
      intro cs h x
      rw [List.length_eq_zero_iff.1 h]
      exact ⟨(fun h => by cases h), fun ⟨i, hi, _⟩ => absurd hi (by simp)⟩
    | succ n ih =>
      intro cs h x
      obtain ⟨cs', s, rfl⟩ : ∃ cs' s, cs = cs' ++ [s] := by
        refine ⟨cs.dropLast, cs.getLast (by intro e; rw [e] at h; cases h), (List.dropLast_concat_getLast _).symm⟩
      have ih' := ih cs' (by simpa using h)
      rw [all_snoc, first_snoc]
      by_cases hs : ∃ a ∈ all cs', a.number = s.number
      · rw [ins_same (all_up cs') hs, ih' x]
        refine ⟨.inl, fun h => h.elim id fun ⟨_, h⟩ => ?_⟩
        obtain ⟨a, ha, e⟩ := hs
        exact absurd e (h a ((ih' a).1 ha).mem)
      · have hno : ∀ a ∈ cs', a.number ≠ s.number := fun a ha e => by
          obtain ⟨y, h1, h2⟩ := first_of ha
          exact hs ⟨y, (ih' y).2 h1, h2.trans e⟩
        constructor
        · intro h
          rcases mem_ins h with rfl | h
          · exact .inr ⟨rfl, hno⟩
          · exact .inl ((ih' x).1 h)
        · rintro (h | ⟨rfl, _⟩)
          · exact ins_old ((ih' x).2 h)
          · exact ins_new fun a ha => hno a ((ih' a).1 ha).mem
  exact key cs.length cs rfl x
/-- what rises and has the same ones is the same -/
theorem up_ext : ∀ {l m : List Rc.S}, Up l → Up m → (∀ x, x ∈ l ↔ x ∈ m) → l = m
  | [], [], _, _, _ => rfl
  | [], b :: m, _, _, h => by have := (h b).2 List.mem_cons_self; cases this
  | a :: l, [], _, _, h => by have := (h a).1 List.mem_cons_self; cases this
  | a :: l, b :: m, hl, hm, h => by
    obtain ⟨h1, h2⟩ := List.pairwise_cons.1 hl
    obtain ⟨h3, h4⟩ := List.pairwise_cons.1 hm
    have e : a = b := by
      have ha := (h a).1 List.mem_cons_self
      have hb := (h b).2 List.mem_cons_self
      rcases List.mem_cons.1 ha with rfl | ha'
      · rfl
      · rcases List.mem_cons.1 hb with rfl | hb'
        · rfl
        · have := h1 b hb'; have := h3 a ha'; omega
    subst e
    congr 1
    refine up_ext h2 h4 fun x => ⟨fun hx => ?_, fun hx => ?_⟩
    · rcases List.mem_cons.1 ((h x).1 (List.mem_cons_of_mem _ hx)) with rfl | h'
      · have := h1 x hx; omega
      · exact h'
    · rcases List.mem_cons.1 ((h x).2 (List.mem_cons_of_mem _ hx)) with rfl | h'
      · have := h3 x hx; omega
      · exact h'
/-- where all have one number, the first alone is told -/
theorem all_one {cs : List Rc.S} {n : Int} (h : ∀ s ∈ cs, s.number = n) : all cs = cs.take 1 := by
  cases cs with
  | nil => rfl
  | cons a cs =>
    refine up_ext (all_up _) (List.pairwise_singleton _ _) fun x => ?_
    rw [mem_all]
    show _ ↔ x ∈ [a]
    rw [List.mem_singleton]
    constructor
    · rintro ⟨i, hi, e, hk⟩
      rcases Nat.eq_zero_or_pos i with h0 | h0
      · subst h0; exact e.symm
      · have h1 := hk 0 h0
        have h2 := h a List.mem_cons_self
        have h3 : x.number = n := by rw [← e]; exact h _ (List.getElem_mem hi)
        exact absurd (h2.trans h3.symm) h1
    · rintro rfl
      exact ⟨0, by simp, rfl, fun k hk => absurd hk (by omega)⟩
/-- the first that has the label -/
def of (l : List Rc.S) (label : Int) : Option Rc.S := l.find? fun s => decide (label ∈ s.labels)
/-- what a tape needs to end with a seal -/
theorem sealed_some {t : St.T} {s : Rc.S} (hl : t.lost = false) (hs : Rc.SOk s) {pre : List Tx} (hb : t.blocks = pre ++ [Fm.blk ⟨5, t.label, (pre.length : Int), Rc.sblk s⟩]) (h1 : 1 ≤ t.label ∧ t.label ≤ 2147483647) (h2 : (pre.length : Int) ≤ 2147483647) : sealed t = some s := by
  have hok : Fm.Ok ⟨5, t.label, (pre.length : Int), Rc.sblk s⟩ := by
    refine ⟨⟨(by decide : (1 : Int) ≤ 5), (by decide : (5 : Int) ≤ 6), h1.1, h1.2, Int.natCast_nonneg _, h2⟩, ?_⟩
    show (Rc.sblk s).length ≤ Fm.room 5
    rw [Rc.sblk_len]
    have := hs.few
    show _ ≤ 64
    omega
  have hlen : t.blocks.length - 1 = pre.length := by rw [hb]; simp
  have hg : Vo.good (vo t) pre.length = some ⟨5, t.label, (pre.length : Int), Rc.sblk s⟩ :=
    Vo.good_at (t := vo t) (n := pre.length) hl (by show t.blocks[pre.length]? = _; rw [hb, List.getElem?_append_right (Nat.le_refl _), Nat.sub_self]; rfl) hok rfl rfl
  unfold sealed
  rw [hlen, hg]
  show (if (5 : Int) = 5 ∧ Rc.SGood (Rc.sblk s) then some (Rc.sparse (Rc.sblk s)) else none) = some s
  rw [if_pos ⟨rfl, Rc.sgood_blk hs⟩, Rc.sparse_sblk hs]
theorem sealed_lost {t : St.T} (h : t.lost = true) : sealed t = none := by
  unfold sealed; rw [Vo.good_lost (t := vo t) h]
theorem sealed_bad {t : St.T} (h : Vo.good (vo t) (t.blocks.length - 1) = none) : sealed t = none := by
  unfold sealed; rw [h]
theorem sealed_kind {t : St.T} {u : Fm.U} (h : Vo.good (vo t) (t.blocks.length - 1) = some u) (hk : u.kind ≠ 5) : sealed t = none := by
  unfold sealed; rw [h]; exact if_neg fun h => hk h.1
theorem sealed_ok {t : St.T} {s : Rc.S} (h : sealed t = some s) : Rc.SOk s := by
  unfold sealed at h
  split at h
  · cases h
  · split at h
    · rename_i u _ hu
      cases h
      exact hu.2.1
    · cases h
theorem cand_some {t : St.T} {s : Rc.S} (h : sealed t = some s) (hl : s.labels.getD s.index.toNat 0 = t.label) : cand t = some s := by
  unfold cand; rw [h]; exact if_pos hl
theorem cand_none {t : St.T} (h : sealed t = none) : cand t = none := by unfold cand; rw [h]
theorem cand_ok {t : St.T} {s : Rc.S} (h : cand t = some s) : Rc.SOk s := by
  unfold cand at h
  split at h
  · cases h
  · rename_i s' hs
    split at h
    · cases h; exact sealed_ok hs
    · cases h
/-- the seal of a group, of its member number i -/
def sealOf (data blank : List St.T) (number : Int) (i : Nat) : Rc.S := ⟨number, (i : Int), (data.length : Int), (blank.length : Int), (data ++ blank).map St.T.label⟩
/-- block n of a tape is not good -/
def Bad (data : List St.T) : Prop := St.len data = 0 ∨ ∃ t ∈ data, ∃ n, n < t.blocks.length ∧ Vo.good (vo t) n = none
def Lost (l : List St.T) : Prop := ∃ t ∈ l, t.lost = true
open Classical in
/-- why no parity tapes are made, or 0 -/
noncomputable def err (data blank : List St.T) (number : Int) : Int :=
  if ¬ Rc.SOk (sealOf data blank number 0) ∨ Lost (data ++ blank) ∨ Bad data then 1
  else if ∃ t ∈ blank, t.blocks ≠ [] then 11
  else if ∃ t ∈ blank, t.cap < (St.len data : Int) + 2 then 6
  else St.err data (blank.length : Int)
theorem sealOk_index {data blank : List St.T} {number : Int} {i : Nat} (h : Rc.SOk (sealOf data blank number 0)) (hi : i < data.length + blank.length) : Rc.SOk (sealOf data blank number i) := by
  obtain ⟨⟨h1, h2, h3, h4, h5, _, _⟩, h8⟩ := h
  refine ⟨⟨h1, h2, h3, h4, h5, Int.natCast_nonneg _, ?_⟩, h8⟩
  show (i : Int) < (((data ++ blank).map St.T.label).length : Int)
  rw [List.length_map, List.length_append]; omega
end Go.Proofs.YtfkoomldncfdnaaGreat.Gr
namespace Go.Proofs.YtfkoomldncfdnaaGreat.So
variable {α β : Type}
/-- behind all that are not greater -/
def insR (f : α → Int) (x : α) : List α → List α
  | [] => [x]
  | a :: l => if f a ≤ f x then a :: insR f x l else x :: a :: l
def isort (f : α → Int) (l : List α) : List α := l.foldl (fun acc x => insR f x acc) []
def Asc (f : α → Int) (l : List α) : Prop := l.Pairwise fun a b => f a ≤ f b
theorem isort_snoc (f : α → Int) (l : List α) (x : α) : isort f (l ++ [x]) = insR f x (isort f l) := by unfold isort; rw [List.foldl_append]; rfl
theorem mem_insR {f : α → Int} {x y : α} : ∀ {l : List α}, y ∈ insR f x l ↔ y = x ∨ y ∈ l
  | [] => by simp [insR]
  | a :: l => by
    rw [insR]
    split
    · rw [List.mem_cons, mem_insR, List.mem_cons]
      constructor
      · rintro (h | h | h)
        · exact .inr (.inl h)
        · exact .inl h
        · exact .inr (.inr h)
      · rintro (h | h | h)
        · exact .inr (.inl h)
        · exact .inl h
        · exact .inr (.inr h)
    · rw [List.mem_cons]
theorem insR_len {f : α → Int} {x : α} : ∀ {l : List α}, (insR f x l).length = l.length + 1
  | [] => rfl
  | a :: l => by
    rw [insR]
    split
    · rw [List.length_cons, insR_len, List.length_cons]
    · rfl
theorem isort_len (f : α → Int) (l : List α) : (isort f l).length = l.length := by
  have key : ∀ (l acc : List α), (l.foldl (fun acc x => insR f x acc) acc).length = acc.length + l.length := by
    intro l
    induction l with
    | nil => intro acc; rfl
    | cons x l ih => intro acc; rw [List.foldl_cons, ih, insR_len, List.length_cons]; omega
  rw [isort, key]; simp
theorem mem_isort {f : α → Int} {l : List α} {y : α} : y ∈ isort f l ↔ y ∈ l := by
  have key : ∀ (l acc : List α), y ∈ l.foldl (fun acc x => insR f x acc) acc ↔ y ∈ acc ∨ y ∈ l := by
    intro l
    induction l with
    | nil => intro acc; simp
    | cons x l ih =>
      intro acc
      rw [List.foldl_cons, ih, mem_insR, List.mem_cons]
      constructor
      · rintro ((h | h) | h)
        · exact .inr (.inl h)
        · exact .inl h
        · exact .inr (.inr h)
      · rintro (h | h | h)
        · exact .inl (.inr h)
        · exact .inl (.inl h)
        · exact .inr h
  rw [isort, key]; simp
theorem insR_asc {f : α → Int} {x : α} : ∀ {l : List α}, Asc f l → Asc f (insR f x l)
  | [], _ => List.pairwise_singleton _ _
  | a :: l, h => by
    obtain ⟨h1, h2⟩ := List.pairwise_cons.1 h
    rw [insR]
    split
    · refine List.pairwise_cons.2 ⟨fun b hb => ?_, insR_asc h2⟩
      rcases mem_insR.1 hb with rfl | hb
      · assumption
      · exact h1 b hb
    · refine List.pairwise_cons.2 ⟨fun b hb => ?_, h⟩
      rcases List.mem_cons.1 hb with rfl | hb
      · omega
      · have := h1 b hb; omega
theorem isort_asc (f : α → Int) (l : List α) : Asc f (isort f l) := by
  have key : ∀ (l acc : List α), Asc f acc → Asc f (l.foldl (fun acc x => insR f x acc) acc) := by
    intro l
    induction l with
    | nil => intro acc h; exact h
    | cons x l ih => intro acc h; exact ih _ (insR_asc h)
  exact key l [] List.Pairwise.nil
/-- the place is told by what stands ahead of it and behind -/
theorem insR_at {f : α → Int} {x : α} : ∀ {l : List α} {j : Nat}, (∀ a ∈ l.take j, f a ≤ f x) → (∀ a ∈ l.drop j, f x < f a) → insR f x l = l.take j ++ x :: l.drop j
  | [], j, _, _ => by simp [insR]
  | a :: l, 0, _, h2 => by
    have := h2 a (by simp)
    rw [insR, if_neg (by omega)]; rfl
  | a :: l, j + 1, h1, h2 => by
    have := h1 a (by simp)
    rw [insR, if_pos this, insR_at (j := j) (fun b hb => h1 b (by rw [List.take_succ_cons]; exact List.mem_cons_of_mem _ hb)) (fun b hb => h2 b (by simpa using hb))]
    rfl
/-- in what rises all ahead of one that is not greater are not -/
theorem asc_take {f : α → Int} {l : List α} (h : Asc f l) {j : Nat} (hj : j < l.length) {x : α} (hx : f l[j] ≤ f x) : ∀ a ∈ l.take (j + 1), f a ≤ f x := by
  intro a ha
  obtain ⟨i, hi, rfl⟩ := List.mem_iff_getElem.1 ha
  rw [List.length_take] at hi
  rw [List.getElem_take]
  rcases Nat.lt_or_ge i j with h' | h'
  · have := List.pairwise_iff_getElem.1 h i j (by omega) hj h'; omega
  · have e : i = j := by omega
    subst e; exact hx
/-- each whose number is not that of the one ahead of it -/
def comp (f : α → Int) : Int → List α → List α
  | _, [] => []
  | p, a :: l => if f a = p then comp f (f a) l else a :: comp f (f a) l
def compact (f : α → Int) : List α → List α
  | [] => []
  | a :: l => a :: comp f (f a) l
/-- one is put in, if none has its number -/
def insU (f : α → Int) (x : α) : List α → List α
  | [] => [x]
  | a :: l => if f a < f x then a :: insU f x l else if f a = f x then a :: l else x :: a :: l
theorem comp_insR_same {f : α → Int} {x : α} : ∀ {l : List α}, (∀ a ∈ l, f x ≤ f a) → comp f (f x) (insR f x l) = comp f (f x) l
  | [], _ => by simp [insR, comp]
  | a :: l, h => by
    have h1 := h a List.mem_cons_self
    have h2 : ∀ b ∈ l, f x ≤ f b := fun b hb => h b (List.mem_cons_of_mem _ hb)
    rw [insR]
    split
    · have e : f a = f x := by omega
      rw [comp, if_pos e, comp, if_pos e, e, comp_insR_same h2]
    · rw [comp, if_pos rfl]
theorem comp_insR_more {f : α → Int} {x : α} : ∀ {l : List α} {p : Int}, p < f x → Asc f l → (∀ a ∈ l, p ≤ f a) → comp f p (insR f x l) = insU f x (comp f p l)
  | [], p, hp, _, _ => by simp [insR, comp, insU, show ¬ f x = p by omega]
  | a :: l, p, hp, hA, h => by
    obtain ⟨hA1, hA2⟩ := List.pairwise_cons.1 hA
    have h1 := h a List.mem_cons_self
    rw [insR]
    split
    · rename_i hle
      by_cases e : f a = p
      · rw [comp, if_pos e, comp, if_pos e, e]
        exact comp_insR_more hp hA2 fun b hb => h b (List.mem_cons_of_mem _ hb)
      · rw [comp, if_neg e, comp, if_neg e, insU]
        by_cases e2 : f a < f x
        · rw [if_pos e2, comp_insR_more e2 hA2 hA1]
        · have e3 : f a = f x := by omega
          rw [if_neg e2, if_pos e3, e3, comp_insR_same fun b hb => by have := hA1 b hb; omega]
    · have e : ¬ f a = p := by omega
      rw [comp, if_neg (by omega), comp, if_neg (by omega), comp, if_neg e, insU, if_neg (by omega), if_neg (by omega)]
theorem compact_insR {f : α → Int} {x : α} {l : List α} (hA : Asc f l) : compact f (insR f x l) = insU f x (compact f l) := by
  cases l with
  | nil => rfl
  | cons a l =>
    obtain ⟨hA1, hA2⟩ := List.pairwise_cons.1 hA
    rw [insR, compact, insU]
    split
    · rw [compact]
      by_cases e : f a < f x
      · rw [if_pos e, comp_insR_more e hA2 hA1]
      · have e3 : f a = f x := by omega
        rw [if_neg e, if_pos e3, e3, comp_insR_same fun b hb => by have := hA1 b hb; omega]
    · rw [if_neg (by omega), if_neg (by omega), compact, comp, if_neg (by omega)]
theorem insU_map {f : α → Int} {g : α → β} {f' : β → Int} (h : ∀ a, f' (g a) = f a) (x : α) : ∀ l : List α, (insU f x l).map g = insU f' (g x) (l.map g)
  | [] => rfl
  | a :: l => by
    rw [List.map_cons, insU, insU, h, h]
    split
    · rw [List.map_cons, insU_map h]
    · split <;> rfl
theorem insU_is (s : Rc.S) : ∀ l : List Rc.S, insU Rc.S.number s l = Gr.ins s l
  | [] => rfl
  | a :: l => by rw [insU, Gr.ins, insU_is s l]
/-- what a stable sort and a compaction make of the seals of these -/
theorem all_is {f : α → Int} {g : α → Rc.S} (h : ∀ a, (g a).number = f a) (l : List α) : (compact f (isort f l)).map g = Gr.all (l.map g) := by
  have key : ∀ n (l : List α), l.length = n → (compact f (isort f l)).map g = Gr.all (l.map g) := by
    intro n
    induction n with
    | zero => intro l hl; rw [List.length_eq_zero_iff.1 hl]; rfl
    | succ n ih =>
      intro l hl
      obtain ⟨l', x, rfl⟩ : ∃ l' x, l = l' ++ [x] := ⟨l.dropLast, l.getLast (by intro e; rw [e] at hl; cases hl), (List.dropLast_concat_getLast _).symm⟩
      rw [isort_snoc, compact_insR (isort_asc f l'), insU_map h, ih l' (by simpa using hl), insU_is, List.map_append]
      exact (Gr.all_snoc _ _).symm
  exact key l.length l rfl
/-- the last number -/
def lk (f : α → Int) : Int → List α → Int
  | p, [] => p
  | _, a :: l => lk f (f a) l
theorem comp_snoc {f : α → Int} {x : α} : ∀ {l : List α} {p : Int}, comp f p (l ++ [x]) = comp f p l ++ (if f x = lk f p l then [] else [x])
  | [], p => by
    rw [List.nil_append, comp, comp, comp, lk]
    split <;> rfl
  | a :: l, p => by
    rw [List.cons_append, comp, comp, lk]
    split
    · rw [comp_snoc]
    · rw [comp_snoc]; rfl
theorem lk_last {f : α → Int} : ∀ {l : List α} {p : Int} {j : Nat} (_ : j + 1 = l.length) (hj : j < l.length), lk f p l = f l[j]
  | [], _, j, h, _ => by cases h
  | [a], _, j, h, _ => by
    have e : j = 0 := by simpa using h
    subst e; rfl
  | a :: b :: l, _, j, h, hj => by
    obtain ⟨j, rfl⟩ : ∃ i, j = i + 1 := ⟨j - 1, by simp at h; omega⟩
    rw [lk]
    exact lk_last (by simpa using h) (by simpa using hj)
/-- one more is looked at -/
theorem compact_take {f : α → Int} {l : List α} {k : Nat} (hk : k + 1 < l.length) : compact f (l.take (k + 1 + 1)) = compact f (l.take (k + 1)) ++ (if f l[k + 1] = f l[k] then [] else [l[k + 1]]) := by
  rw [List.take_succ_eq_append_getElem hk]
  cases l with
  | nil => simp at hk
  | cons a m =>
    rw [List.take_succ_cons, List.cons_append, compact, compact, comp_snoc, List.cons_append]
    have e : lk f (f a) (m.take k) = f ((a :: m)[k]'(by omega)) := by
      cases k with
      | zero => rfl
      | succ k =>
        have hk' : k < m.length := by simpa using (show k + 1 < (a :: m).length by omega)
        have h1 : k + 1 = (m.take (k + 1)).length := by rw [List.length_take]; omega
        rw [lk_last (p := f a) h1 (by omega), List.getElem_take]; rfl
    rw [e]
theorem compact_one {f : α → Int} {l : List α} (h : 0 < l.length) : compact f (l.take 1) = l.take 1 := by
  cases l with
  | nil => simp at h
  | cons a m => rfl
theorem compact_all {f : α → Int} {l : List α} {k : Nat} (h : l.length ≤ k) : compact f (l.take k) = compact f l := by rw [List.take_of_length_le h]
theorem compact_le (f : α → Int) (l : List α) : (compact f l).length ≤ l.length := by
  have key : ∀ (l : List α) p, (comp f p l).length ≤ l.length := by
    intro l
    induction l with
    | nil => intro p; exact Nat.le_refl _
    | cons a l ih =>
      intro p
      rw [comp]
      have := ih (f a)
      split
      · rw [List.length_cons]; omega
      · rw [List.length_cons, List.length_cons]; omega
  cases l with
  | nil => exact Nat.le_refl _
  | cons a l => rw [compact, List.length_cons, List.length_cons]; have := key l (f a); omega
theorem mem_compact {f : α → Int} {l : List α} {x : α} (h : x ∈ compact f l) : x ∈ l := by
  have key : ∀ (l : List α) p, x ∈ comp f p l → x ∈ l := by
    intro l
    induction l with
    | nil => intro p h; exact h
    | cons a l ih =>
      intro p h
      rw [comp] at h
      split at h
      · exact List.mem_cons_of_mem _ (ih _ h)
      · rcases List.mem_cons.1 h with rfl | h
        · exact List.mem_cons_self
        · exact List.mem_cons_of_mem _ (ih _ h)
  cases l with
  | nil => exact h
  | cons a l =>
    rw [compact] at h
    rcases List.mem_cons.1 h with rfl | h
    · exact List.mem_cons_self
    · exact List.mem_cons_of_mem _ (key _ _ h)
end Go.Proofs.YtfkoomldncfdnaaGreat.So
namespace Go.Proofs.YtfkoomldncfdnaaGreat
open Go.RowKit

/-- a number from a to b -/
def btw (n a b : Int) : Bool := decide (a ≤ n) && decide (n ≤ b)
theorem btw_yes {n a b : Int} (h : btw n a b = true) : a ≤ n ∧ n ≤ b := by simpa [btw] using h
theorem btw_no {n a b : Int} (h : btw n a b = false) : n < a ∨ b < n := by
  have : ¬ (a ≤ n ∧ n ≤ b) := fun h' => by simp [btw, h'.1, h'.2] at h
  omega
theorem btw_of {n a b : Int} (h : a ≤ n ∧ n ≤ b) : btw n a b = true := by simp [btw, h.1, h.2]
theorem between_any (n a b : Int) (w : World) : Calls Tryz.prog 68 #[.int .i64 n, .int .i64 a, .int .i64 b] w fun e w' => e = .returned (.bool (btw n a b)) ∧ w = w' := by
  cases q1 : decide (a ≤ n) with
  | true =>
    have H : Hid (btw n a b = decide (n ≤ b)) := Lib.hid (by unfold btw; rw [q1]; rfl)
    go_enter Tryz.func68, Tryz.ntmps68
    go_wp2
    go_ret
    exact ⟨by rw [H.out]; rfl, rfl⟩
  | false =>
    have H : Hid (btw n a b = false) := Lib.hid (by unfold btw; rw [q1]; rfl)
    go_enter Tryz.func68, Tryz.ntmps68
    go_wp2
    go_ret
    exact ⟨by rw [H.out]; rfl, rfl⟩
end Go.Proofs.YtfkoomldncfdnaaGreat
namespace Go.Proofs.YtfkoomldncfdnaaGreat
open Go.RowKit

def cellsZ (l : List Int) : List Value := l.map fun x => .int .i64 x
theorem cellsZ_len (l : List Int) : (cellsZ l).length = l.length := by simp [cellsZ]
theorem cellsZ_get {l : List Int} {j : Nat} (h : j < l.length) : (cellsZ l)[j]? = some (.int .i64 l[j]) := by simp [cellsZ, h]
theorem cellsZ_append (a b : List Int) : cellsZ (a ++ b) = cellsZ a ++ cellsZ b := by simp [cellsZ]
/-- the slice at A reads as the numbers l, and lies in a block of G -/
def RdZ (w : World) (A : Option Addr) (l : List Int) (G : Nat → Prop) : Prop :=
  0 < l.length → ∃ b off, A = some ⟨b, off, none⟩ ∧ G b ∧ ∀ j (hj : j < l.length), w.cell? ⟨b, off + j, none⟩ = some (.int .i64 l[j])
namespace RdZ
variable {w w' : World} {A : Option Addr} {l : List Int} {G G' S : Nat → Prop}
theorem empty (w : World) (A : Option Addr) (G : Nat → Prop) : RdZ w A [] G := fun h => absurd h (by simp)
theorem keep (h : RdZ w A l G) (hk : ∀ p v, G p.block → w.cell? p = some v → w'.cell? p = some v) : RdZ w' A l G := by
  intro hn
  obtain ⟨b, off, e, hg, hc⟩ := h hn
  exact ⟨b, off, e, hg, fun j hj => hk _ _ hg (hc j hj)⟩
theorem mono (h : RdZ w A l G) (hg : ∀ b, G b → G' b) : RdZ w A l G' := by
  intro hn
  obtain ⟨b, off, e, hg', hc⟩ := h hn
  exact ⟨b, off, e, hg _ hg', hc⟩
theorem kp (h : RdZ w A l G) (hk : Kp S w w') (hs : ∀ b, G b → ¬ S b) : RdZ w' A l G := h.keep fun _ _ hg hc => hk.cell hc (hs _ hg)
theorem old (h : RdZ w A l G) (hb : Below w.heap.size w w') : RdZ w' A l G := h.keep fun _ _ _ hc => (hb.cell (World.block_lt_of_cell? _ _ hc)).trans hc
theorem in_ (h : RdZ w A l G) : RdZ w A l (fun b => G b ∧ b < w.heap.size) := by
  intro hn
  obtain ⟨b, off, e, hg, hc⟩ := h hn
  exact ⟨b, off, e, ⟨hg, World.block_lt_of_cell? _ _ (hc 0 hn)⟩, hc⟩
theorem at_ (h : RdZ w A l G) {j : Nat} (hj : j < l.length) : ∃ b off, A = some ⟨b, off, none⟩ ∧ G b ∧ w.cell? ⟨b, off + j, none⟩ = some (.int .i64 l[j]) := by
  obtain ⟨b, off, e, hg, hc⟩ := h (by omega)
  exact ⟨b, off, e, hg, hc j hj⟩
theorem take (h : RdZ w A l G) (k : Nat) : RdZ w A (l.take k) G := by
  intro hn
  rw [List.length_take] at hn
  obtain ⟨b, off, e, hg, hc⟩ := h (by omega)
  refine ⟨b, off, e, hg, fun j hj => ?_⟩
  rw [List.length_take] at hj
  rw [hc j (by omega), List.getElem_take]
theorem of_cells {b : Nat} {fr : Nat × Nat} {m : List Int} (h : w.heap[b]? = some (.cells (cellsZ (l ++ m)).toArray 3 fr)) : RdZ w (some ⟨b, 0, none⟩) l (· = b) := by
  intro hn
  refine ⟨b, 0, rfl, rfl, fun j hj => ?_⟩
  rw [Nat.zero_add, heap_cell h]
  rw [List.getElem?_toArray, cellsZ_append, List.getElem?_append_left (by rw [cellsZ_len]; exact hj)]
  exact cellsZ_get hj
end RdZ
end Go.Proofs.YtfkoomldncfdnaaGreat
namespace Go.Proofs.YtfkoomldncfdnaaGreat
open Go.RowKit
open Pt (Tx)

/-- the seal in a block -/
def sealObj (n x d p : Int) (A : Option Addr) (m C : Nat) : Obj := .cells #[.int .i64 n, .int .i64 x, .int .i64 d, .int .i64 p, .slice A m C] 38
theorem seal5 {w : World} {B : Nat} {n x d p : Int} {A : Option Addr} {m C : Nat} (h : w.heap[B]? = some (sealObj n x d p A m C)) :
    w.cell? ⟨B, 0, none⟩ = some (.int .i64 n) ∧ w.cell? ⟨B, 1, none⟩ = some (.int .i64 x) ∧ w.cell? ⟨B, 2, none⟩ = some (.int .i64 d) ∧ w.cell? ⟨B, 3, none⟩ = some (.int .i64 p) ∧ w.cell? ⟨B, 4, none⟩ = some (.slice A m C) :=
  ⟨heap_cell h, heap_cell h, heap_cell h, heap_cell h, heap_cell h⟩
theorem seal_free {w : World} {B : Nat} {n x d p : Int} {A : Option Addr} {m C : Nat} (h : w.heap[B]? = some (sealObj n x d p A m C)) :
    w.frozen? ⟨B, 0, none⟩ = false ∧ w.frozen? ⟨B, 1, none⟩ = false ∧ w.frozen? ⟨B, 2, none⟩ = false ∧ w.frozen? ⟨B, 3, none⟩ = false ∧ w.frozen? ⟨B, 4, none⟩ = false :=
  ⟨heap_frozen h, heap_frozen h, heap_frozen h, heap_frozen h, heap_frozen h⟩
theorem below_obj {o : Obj} {B : Nat} {x y : World} (hb : Below x.heap.size x y) (h : x.heap[B]? = some o) : y.heap[B]? = some o :=
  (hb.block B (by obtain ⟨hlt, _⟩ := Array.getElem?_eq_some_iff.1 h; exact hlt)).trans h
end Go.Proofs.YtfkoomldncfdnaaGreat
namespace Go.Proofs.YtfkoomldncfdnaaGreat
open Go.RowKit
open Pt (Tx)

/-- a seal as a value: where its labels lie, and how much room there is -/
structure Sx where
  s : Rc.S
  A : Option Addr
  C : Nat
def Sx.num (x : Sx) : Int := x.s.number
def Sx.enc (x : Sx) : List Value := [.int .i64 x.s.number, .int .i64 x.s.index, .int .i64 x.s.data, .int .i64 x.s.parity, .slice x.A x.s.labels.length x.C]
def Sx.val (x : Sx) : Value := .agg #[.int .i64 x.s.number, .int .i64 x.s.index, .int .i64 x.s.data, .int .i64 x.s.parity, .slice x.A x.s.labels.length x.C]
def encX : Enc Sx where
  k := 5
  pos := by decide
  enc := Sx.enc
  len _ := rfl
  one x u hu := by
    simp only [Sx.enc, List.mem_cons, List.not_mem_nil, or_false] at hu
    rcases hu with rfl | rfl | rfl | rfl | rfl <;> rfl
theorem infoSeal : (Tryz.prog.info? 38).map (fun i => (i.zero, i.size, i.bytes)) = some (some (.agg #[.int .i64 0, .int .i64 0, .int .i64 0, .int .i64 0, .slice none 0 0]), 5, 56) := by kernel_rfl
/-- its labels read, in a block of G -/
structure Sx.Ok (x : Sx) (w : World) (G : Nat → Prop) : Prop where
  le : x.s.labels.length ≤ x.C
  max : x.C ≤ maxLen
  nil : x.A = none → x.s.labels.length = 0 ∧ x.C = 0
  rd : RdZ w x.A x.s.labels G
theorem Sx.Ok.mono {x : Sx} {w : World} {G G' : Nat → Prop} (h : x.Ok w G) (hg : ∀ b, G b → G' b) : x.Ok w G' := ⟨h.le, h.max, h.nil, h.rd.mono hg⟩
theorem Sx.Ok.old {x : Sx} {w w' : World} {G : Nat → Prop} (h : x.Ok w G) (hb : Below w.heap.size w w') : x.Ok w' G := ⟨h.le, h.max, h.nil, h.rd.old hb⟩
theorem Sx.Ok.kp {x : Sx} {w w' : World} {G S : Nat → Prop} (h : x.Ok w G) (hk : Kp S w w') (hs : ∀ b, G b → ¬ S b) : x.Ok w' G := ⟨h.le, h.max, h.nil, h.rd.kp hk hs⟩
theorem Sx.Ok.in_ {x : Sx} {w : World} {G : Nat → Prop} (h : x.Ok w G) : x.Ok w (fun b => G b ∧ b < w.heap.size) := ⟨h.le, h.max, h.nil, h.rd.in_⟩
/-- in block g, from off on, lies this list of seals; it is no frozen one -/
def SitsX (w : World) (g off : Nat) (l : List Sx) : Prop :=
  ∃ cur : Array Value, w.heap[g]? = some (.cells cur 38 (0, 0)) ∧ off + l.length * 5 ≤ cur.size ∧ ∀ i (hi : i < l.length) j u, (l[i].enc)[j]? = some u → cur[off + i * 5 + j]? = some u
namespace SitsX
variable {w w' : World} {g off : Nat} {l : List Sx}
theorem at_ (h : SitsX w g off l) {i : Nat} (hi : i < l.length) : w.cell? ⟨g, off + i * 5, none⟩ = some (.int .i64 l[i].s.number) ∧ w.cell? ⟨g, off + i * 5 + 1, none⟩ = some (.int .i64 l[i].s.index) ∧ w.cell? ⟨g, off + i * 5 + 2, none⟩ = some (.int .i64 l[i].s.data)
    ∧ w.cell? ⟨g, off + i * 5 + 3, none⟩ = some (.int .i64 l[i].s.parity) ∧ w.cell? ⟨g, off + i * 5 + 4, none⟩ = some (.slice l[i].A l[i].s.labels.length l[i].C) := by
  obtain ⟨cur, hg, _, hc⟩ := h
  rw [heap_cell hg, heap_cell hg, heap_cell hg, heap_cell hg, heap_cell hg]
  exact ⟨hc i hi 0 _ rfl, hc i hi 1 _ rfl, hc i hi 2 _ rfl, hc i hi 3 _ rfl, hc i hi 4 _ rfl⟩
theorem free (h : SitsX w g off l) (k : Nat) : w.frozen? ⟨g, k, none⟩ = false := by
  obtain ⟨cur, hg, _⟩ := h
  exact heap_frozen hg
theorem lt (h : SitsX w g off l) : g < w.heap.size := by
  obtain ⟨cur, hg, _⟩ := h
  exact heap_lt hg
theorem block (h : SitsX w g off l) (e : w'.heap[g]? = w.heap[g]?) : SitsX w' g off l := by
  obtain ⟨cur, hg, hc⟩ := h
  exact ⟨cur, e.trans hg, hc⟩
theorem old (h : SitsX w g off l) (hb : Below w.heap.size w w') : SitsX w' g off l := h.block (hb.block g h.lt)
theorem drew (h : SitsX w g off l) : SitsX w.drew g off l := h
/-- one of them is stored into -/
theorem set (h : SitsX w g off l) {i : Nat} (hi : i < l.length) (x : Sx) :
    SitsX (((((w.setCell ⟨g, off + i * 5, none⟩ (.int .i64 x.s.number)).setCell ⟨g, off + i * 5 + 1, none⟩ (.int .i64 x.s.index)).setCell ⟨g, off + i * 5 + 2, none⟩ (.int .i64 x.s.data)).setCell ⟨g, off + i * 5 + 3, none⟩ (.int .i64 x.s.parity)).setCell ⟨g, off + i * 5 + 4, none⟩ (.slice x.A x.s.labels.length x.C)) g off (l.set i x) := by
  obtain ⟨cur, hg, hs, hc⟩ := h
  refine ⟨_, heap_set (heap_set (heap_set (heap_set (heap_set hg _) _) _) _) _, by simpa using hs, fun k hk j u hu => ?_⟩
  rw [List.length_set] at hk
  have hin : off + i * 5 + 5 ≤ cur.size := by
    have : (i + 1) * 5 ≤ l.length * 5 := Nat.mul_le_mul_right _ hi
    omega
  have hj : j < 5 := by
    have := (List.getElem?_eq_some_iff.1 hu).1
    simpa [Sx.enc] using this
  simp only [Array.getElem?_setIfInBounds, Array.size_setIfInBounds]
  by_cases e : k = i
  · subst e
    rw [List.getElem_set_self] at hu
    match j, hu, hj with
    | 0, hu, _ => cases hu; simp (disch := omega); omega
    | 1, hu, _ => cases hu; simp (disch := omega); omega
    | 2, hu, _ => cases hu; simp (disch := omega); omega
    | 3, hu, _ => cases hu; simp (disch := omega); omega
    | 4, hu, _ => cases hu; simp (disch := omega); omega
    | j + 5, _, hj => omega
  · rw [List.getElem_set_ne (fun h => e h.symm)] at hu
    rw [if_neg (by omega), if_neg (by omega), if_neg (by omega), if_neg (by omega), if_neg (by omega)]
    exact hc k hk j u hu
theorem kp_set (w : World) (g a b c d e : Nat) (u0 u1 u2 u3 u4 : Value) : Kp (· = g) w (((((w.setCell ⟨g, a, none⟩ u0).setCell ⟨g, b, none⟩ u1).setCell ⟨g, c, none⟩ u2).setCell ⟨g, d, none⟩ u3).setCell ⟨g, e, none⟩ u4) :=
  ((((Kp.store _ _ _ _).trans (Kp.store _ _ _ _)).trans (Kp.store _ _ _ _)).trans (Kp.store _ _ _ _)).trans (Kp.store _ _ _ _)
/-- as a row that reads -/
theorem rd (h : SitsX w g off l) {G : Nat → Prop} (hg : G g) : encX.Rd w (some ⟨g, off, none⟩) l G := fun hn => by
  obtain ⟨cur, hb, _, hc⟩ := h
  refine ⟨g, off, rfl, hg, fun i hi j u hu => ?_⟩
  rw [heap_cell hb]; exact hc i hi j u hu
theorem take (h : SitsX w g off l) (k : Nat) : SitsX w g off (l.take k) := by
  obtain ⟨cur, hb, hs, hc⟩ := h
  refine ⟨cur, hb, ?_, fun i hi j u hu => ?_⟩
  · rw [List.length_take]
    have : min k l.length * 5 ≤ l.length * 5 := Nat.mul_le_mul_right _ (Nat.min_le_right _ _)
    omega
  · rw [List.length_take] at hi
    rw [List.getElem_take] at hu
    exact hc i (by omega) j u hu
end SitsX
/-- a row that a call owns, as one that sits in a block -/
theorem sits_own {w : World} {base : Nat} {v : Value} {l : List Sx} (h : encX.Own w base 38 v l) : (v = .slice none 0 0 ∧ l = []) ∨ ∃ g C, v = .slice (some ⟨g, 0, none⟩) l.length C ∧ l.length ≤ C ∧ C ≤ maxLen ∧ base ≤ g ∧ SitsX w g 0 l := by
  rcases h.2 with ⟨rfl, h0⟩ | ⟨g, cap, cur, rfl, hb, hg, hnc, hcm, hs, ht⟩
  · exact .inl ⟨rfl, List.length_eq_zero_iff.1 h0⟩
  · refine .inr ⟨g, cap, rfl, hnc, hcm, hb, cur, hg, ?_, fun i hi j u hu => ?_⟩
    · rw [hs, Nat.zero_add]; exact Nat.mul_le_mul_right _ hnc
    · have hj : j < 5 := by
        have := (List.getElem?_eq_some_iff.1 hu).1
        simpa [Sx.enc] using this
      have hx := encX.cells_get l i j hj hi
      have hlt : i * 5 + j < l.length * 5 := by
        have h1 : (i + 1) * 5 ≤ l.length * 5 := Nat.mul_le_mul_right _ hi
        omega
      rw [← ht, List.getElem?_take] at hx
      have e5 : encX.k = 5 := rfl
      rw [e5, if_pos hlt, Array.getElem?_toList] at hx
      rw [Nat.zero_add, hx]; exact hu
end Go.Proofs.YtfkoomldncfdnaaGreat
namespace Go.Proofs.YtfkoomldncfdnaaGreat
open Go.RowKit
open Pt (Tx)

/-- append of some structs, and where the row lies then -/
theorem run_append_st {P : Program} {α : Type} (E : Enc α) (w : World) (t : TypeId) (base : Nat) (e : TypeId) (z : Value) (bytes : Nat) (ht : P.underlying t = some (.slice e)) (hi : (P.info? e).map (fun i => (i.zero, i.size, i.bytes)) = some (some z, E.k, bytes)) (hzs : z.cells.size = E.k)
    (v : Value) (l : List α) (hown : E.Own w base e v l) (ad : Addr) (m c : Nat) (l' : List α) (hm : m = l'.length) (hm0 : 0 < m) (hnews : ∀ j u, (E.cells l')[j]? = some u → w.cell? (ad.add j) = some u)
    (h63 : l.length + m ≤ maxLen) (hbytes : (l.length + m) * bytes ≤ 140737488355328) (hbase : base ≤ w.heap.size) (H : Nat) (hH : w.heap.size = H) :
    ∃ g cap w', (∀ ty, (Builtin.append_ #[t, t] ty #[v, .slice (some ad) m c]).run P w = .ok (.slice (some ⟨g, 0, none⟩) (l.length + m) cap) w') ∧ E.Own w' base e (.slice (some ⟨g, 0, none⟩) (l.length + m) cap) (l ++ l') ∧ w.grownBy w' v.ownBlock ∧ (v.ownBlock = some g ∨ g = H) ∧ g < w'.heap.size := by
  obtain ⟨i0, hi, hz0, hz1, hz2⟩ := info_parts hi
  subst hm
  obtain ⟨g, cap, w', h1, h2, h3, h4, h5⟩ := run_append_lies (P := P) w t t base e i0 z E.k bytes ht hi hz0 hz1 hz2 hzs E.pos v l.length (E.cells l) hown ad l'.length c (E.cells l') (E.cells_len l') hnews (E.cells_all l') hm0 h63 hbytes hbase H hH
  exact ⟨g, cap, w', fun ty => h1, by unfold Enc.Own; rw [E.cells_append, List.length_append]; exact h2, h3, h4, h5⟩
/-- the same at a plain region's list -/
theorem wpList_append_stL {P : Program} {α : Type} (E : Enc α) (w : World) {ops : Array Oper} {rest : List Oper} {o : Oper} {a : Act} {Q : Exit → Act → World → Prop} (hgd : o.guard = none) (s x : Operand) (t : TypeId)
    (ho : o.op = .call { callee := .builtin .append, args := #[s, x], argTypes := #[t, t] })
    (base : Nat) (e : TypeId) (z : Value) (bytes : Nat) (ht : P.underlying t = some (.slice e)) (hi : (P.info? e).map (fun i => (i.zero, i.size, i.bytes)) = some (some z, E.k, bytes)) (hzs : z.cells.size = E.k)
    (v : Value) (l : List α) (hs : a.eval s = v) (hown : E.Own w base e v l)
    (ad : Addr) (m c : Nat) (l' : List α) (hx : a.eval x = .slice (some ad) m c) (hm : m = l'.length) (hm0 : 0 < m) (hnews : ∀ j u, (E.cells l')[j]? = some u → w.cell? (ad.add j) = some u)
    (h63 : l.length + m ≤ maxLen) (hbytes : (l.length + m) * bytes ≤ 140737488355328) (hbase : base ≤ w.heap.size) (H : Nat) (hH : w.heap.size = H)
    (h : ∀ g cap w', E.Own w' base e (.slice (some ⟨g, 0, none⟩) (l.length + m) cap) (l ++ l') → w.grownBy w' v.ownBlock → (v.ownBlock = some g ∨ g = H) → g < w'.heap.size → wpList P ops Q rest (a.put o.dst (.slice (some ⟨g, 0, none⟩) (l.length + m) cap)) w') : wpList P ops Q (o :: rest) a w := by
  obtain ⟨i0, hi, hz0, hz1, hz2⟩ := info_parts hi
  subst hm
  exact wpList_append_lies w hgd s x t ho base e i0 z E.k bytes ht hi hz0 hz1 hz2 hzs E.pos v l.length (E.cells l) hs hown ad l'.length c (E.cells l') hx (E.cells_len l') hnews (E.cells_all l') hm0 h63 hbytes hbase H hH (fun g cap w' h2 h3 h4 h5 => h g cap w' (by unfold Enc.Own; rw [E.cells_append, List.length_append]; exact h2) h3 h4 h5)
/-- a row that reads, as the cells that are to be appended -/
theorem Enc.Rd.news {α : Type} {E : Enc α} {w : World} {ad : Addr} {l : List α} {G : Nat → Prop} (h : E.Rd w (some ad) l G) : ∀ j u, (E.cells l)[j]? = some u → w.cell? (ad.add j) = some u := by
  intro j u hu
  have hj := (List.getElem?_eq_some_iff.1 hu).1
  rw [E.cells_len] at hj
  have hi : j / E.k < l.length := Nat.div_lt_of_lt_mul (by rw [Nat.mul_comm]; exact hj)
  have hr : j % E.k < E.k := Nat.mod_lt _ E.pos
  have hjj : j / E.k * E.k + j % E.k = j := by rw [Nat.mul_comm]; exact Nat.div_add_mod j E.k
  obtain ⟨b, off, e, -, hc⟩ := h.at_ hi
  cases e
  have h1 := E.cells_get l (j / E.k) (j % E.k) hr hi
  rw [hjj, hu] at h1
  have h2 := hc (j % E.k) u h1.symm
  rw [addr_add, ← h2]
  congr 2; omega
/-- append of what may be nil -/
theorem wpList_append_optS {P : Program} {α : Type} (E : Enc α) (w : World) {ops : Array Oper} {rest : List Oper} {o : Oper} {a : Act} {Q : Exit → Act → World → Prop} (hgd : o.guard = none) (s x : Operand) (t : TypeId)
    (ho : o.op = .call { callee := .builtin .append, args := #[s, x], argTypes := #[t, t] })
    (base : Nat) (e : TypeId) (z : Value) (bytes : Nat) (ht : P.underlying t = some (.slice e)) (hi : (P.info? e).map (fun i => (i.zero, i.size, i.bytes)) = some (some z, E.k, bytes)) (hzs : z.cells.size = E.k)
    (v : Value) (l : List α) (hs : a.eval s = v) (hown : E.Own w base e v l)
    (A : Option Addr) (m c : Nat) (l' : List α) (hx : a.eval x = .slice A m c) (hA : A = none → m = 0 ∧ c = 0) (hm : m = l'.length) (hnews : ∀ ad, A = some ad → ∀ j u, (E.cells l')[j]? = some u → w.cell? (ad.add j) = some u)
    (h63 : l.length + m ≤ maxLen) (hbytes : (l.length + m) * bytes ≤ 140737488355328) (hbase : base ≤ w.heap.size)
    (h : ∀ v' w', E.Own w' base e v' (l ++ l') → w.grownBy w' v.ownBlock → wpList P ops Q rest (a.put o.dst v') w') : wpList P ops Q (o :: rest) a w := by
  obtain ⟨i0, hi, hz0, hz1, hz2⟩ := info_parts hi
  cases A with
  | none =>
    obtain ⟨rfl, rfl⟩ := hA rfl
    have hn : l' = [] := List.length_eq_zero_iff.1 hm.symm
    subst hn
    refine wpList_append_own_none hgd s x t ho base e i0 E.k ht hi v l.length (E.cells l) hs hown hx (h v w ?_ (grown_refl w _))
    rw [List.append_nil]; exact hown
  | some ad =>
    subst hm
    exact wpList_append_own w hgd s x t ho base e i0 z E.k bytes ht hi hz0 hz1 hz2 hzs E.pos v l.length (E.cells l) hs hown ad l'.length c (E.cells l') hx (E.cells_len l') (hnews ad rfl) (E.cells_all l') h63 hbytes hbase (fun v' w' h2 h3 _ => h v' w' (by unfold Enc.Own; rw [E.cells_append, List.length_append]; exact h2) h3)
/-- seals that are gathered in an own row, each with labels of its own somewhere else -/
structure FindI (w : World) (v : Value) (xs : List Sx) (wr : World) : Prop where
  own : encX.Own wr w.heap.size 38 v xs
  ok : ∀ x ∈ xs, x.Ok wr (fun b => w.heap.size ≤ b ∧ v.ownBlock ≠ some b)
  bel : Below w.heap.size w wr
namespace FindI
variable {w wr w2 w3 : World} {v : Value} {xs : List Sx}
theorem start (w : World) : FindI w (.slice none 0 0) [] w := ⟨Enc.Own.nil _ _ _, (fun x hx => by cases hx), Below.refl _ _⟩
theorem old (h : FindI w v xs wr) (hb : Below wr.heap.size wr w2) : FindI w v xs w2 :=
  ⟨h.own.old hb, fun x hx => (h.ok x hx).old hb, h.bel.trans (hb.mono h.bel.size)⟩
/-- one more, whose labels are new -/
theorem push (h : FindI w v xs wr) {x : Sx} (hb : Below wr.heap.size wr w2) (hx : x.Ok w2 (wr.heap.size ≤ ·)) {o : Obj} {g n cap : Nat} (hown : encX.Own w3 w.heap.size 38 (.slice (some ⟨g, 0, none⟩) n cap) (xs ++ [x])) (hg : (w2.alloc o).grownBy w3 v.ownBlock) (hat : v.ownBlock = some g ∨ g = w2.heap.size + 1) : FindI w (.slice (some ⟨g, 0, none⟩) n cap) (xs ++ [x]) w3 := by
  have h2 := h.old hb
  have key : ∀ y : Sx, y.Ok w2 (fun b => w.heap.size ≤ b ∧ v.ownBlock ≠ some b) → y.Ok w3 (fun b => w.heap.size ≤ b ∧ (.slice (some ⟨g, 0, none⟩) n cap : Value).ownBlock ≠ some b) := fun y hy => by
    have hk : Kp (fun k => v.ownBlock = some k) w2 w3 := ((Kp.refl _ w2).alloc o).grown hg (fun k e => e)
    have h3 := hy.in_.kp hk (fun b hb => hb.1.2)
    refine h3.mono fun b hb => ⟨hb.1.1, fun e => ?_⟩
    have e' : g = b := by simpa [Value.ownBlock] using e
    rcases hat with hat | hat
    · exact hb.1.2 (by rw [hat, e'])
    · omega
  refine ⟨hown, fun y hy => ?_, ?_⟩
  · rcases List.mem_append.1 hy with hy | hy
    · exact key y (h2.ok y hy)
    · rw [List.mem_singleton.1 hy]
      exact key x (hx.mono fun b hb => ⟨by have := h.bel.size; omega, fun e => by have := (h.own.lt b e).2; omega⟩)
  · exact (h2.bel.alloc h2.bel.size _).grown hg (by have := h2.bel.size; simp; omega) (fun k hk => (h.own.lt k hk).1)
end FindI
/-- groups are answered: seals in a row, in new memory -/
def FindA (ss : List Rc.S) (w : World) (e : Ending) (w' : World) : Prop :=
  ∃ A C l, e = .returned (.slice A l.length C) ∧ l.map Sx.s = ss ∧ l.length ≤ C ∧ C ≤ maxLen ∧ (A = none → l.length = 0 ∧ C = 0) ∧ encX.Rd w' A l (w.heap.size ≤ ·) ∧ (∀ x ∈ l, x.Ok w' (w.heap.size ≤ ·)) ∧ Below w.heap.size w w'
theorem FindI.rd {w wr : World} {v : Value} {xs : List Sx} (h : FindI w v xs wr) : ∃ A C, v = .slice A xs.length C ∧ xs.length ≤ C ∧ C ≤ maxLen ∧ (A = none → xs.length = 0 ∧ C = 0) ∧ encX.Rd wr A xs (w.heap.size ≤ ·) ∧ (∀ x ∈ xs, x.Ok wr (w.heap.size ≤ ·)) ∧ Below w.heap.size w wr := by
  obtain ⟨A, C, h1, h2, h3, h4, h5⟩ := h.own.rd
  exact ⟨A, C, h1, h2, h3, h4, h5.mono (fun b hb => hb.1), fun x hx => (h.ok x hx).mono fun b hb => hb.1, h.bel⟩
end Go.Proofs.YtfkoomldncfdnaaGreat
namespace Go.Proofs.YtfkoomldncfdnaaGreat
open Go.RowKit
open Pt (Tx)

theorem mem_take_step {l : List Int} {k : Nat} (h : k < l.length) (x : Int) : x ∈ l.take (k + 1) ↔ x ∈ l.take k ∨ x = l[k] := by
  rw [List.take_succ_eq_append_getElem h, List.mem_append, List.mem_singleton]
/-- a place is told, or that there is none -/
def Found (b : Bool) (w : World) (e : Ending) (w' : World) : Prop := (∃ k : Int, e = .returned (.int .i64 k) ∧ decide (0 ≤ k) = b) ∧ w = w'
theorem index_any (A : Option Addr) (l : List Int) (n C : Nat) (x : Int) (G : Nat → Prop) (w : World) (hn : n = l.length) (hl : n ≤ maxLen) (hr : RdZ w A l G) :
    Calls Tryz.prog 64 #[.slice A n C, .int .i64 x] w (Found (decide (x ∈ l)) w) := by
  unfold maxLen at hl
  have HR := Lib.hid hr
  have HN := Lib.hid hn
  clear hr hn
  go_enter Tryz.func64, Tryz.ntmps64
  go_wp2
  go_loop [5, 8] (fun vs vi => ∃ k : Nat, k ≤ n ∧ vi = .int .i64 (k : Int) ∧ Hid (x ∉ l.take k)) (fun vs vi => n - (intOf vi).toNat)
  case atStart => exact ⟨0, Nat.zero_le _, rfl, Lib.hid (by simp)⟩
  case round =>
    obtain ⟨k, hk, rfl, HM⟩ := hrel
    by_cases hlt : k < n
    · have hlt' : k < l.length := by rw [← HN.out]; exact hlt
      obtain ⟨b, off, rfl, -, hc⟩ := HR.out.at_ hlt'
      have HS := Lib.hid (mem_take_step hlt' x)
      obtain ⟨y, hy⟩ : ∃ y, y = l[k] := ⟨_, rfl⟩
      rw [← hy] at hc HS
      have HY := Lib.hid (hy ▸ List.getElem_mem hlt')
      clear hy
      by_cases e : x = y
      · have q : (x == y) = true := beq_iff_eq.2 e
        have HX : Hid (x ∈ l) := Lib.hid (by rw [e]; exact HY.out)
        clear e
        go_wp2
        go_ret
        exact ⟨⟨(k : Int), rfl, by rw [decide_eq_true HX.out]; simp⟩, rfl⟩
      · have q : (x == y) = false := beq_eq_false_iff_ne.2 e
        have HX : Hid (x ∉ l.take (k + 1)) := Lib.hid fun h => (HS.out.1 h).elim HM.out e
        clear e
        go_wp2
        go_round
        case rel => exact ⟨k + 1, by omega, by go_num, HX⟩
        case measure => simp [intOf]; omega
    · have HX : Hid (x ∉ l) := Lib.hid (by have := HM.out; rwa [List.take_of_length_le (by rw [← HN.out]; omega)] at this)
      go_wp2
      go_ret
      exact ⟨⟨-1, rfl, by rw [decide_eq_false HX.out]; rfl⟩, rfl⟩
theorem contains_any (A : Option Addr) (l : List Int) (n C : Nat) (x : Int) (G : Nat → Prop) (w : World) (hn : n = l.length) (hl : n ≤ maxLen) (hr : RdZ w A l G) :
    Calls Tryz.prog 37 #[.slice A n C, .int .i64 x] w fun e w' => e = .returned (.bool (decide (x ∈ l))) ∧ w = w' := by
  have h := index_any A l n C x G w hn hl hr
  obtain ⟨d, hd⟩ : ∃ d, d = decide (x ∈ l) := ⟨_, rfl⟩
  rw [← hd] at h ⊢
  have H := Lib.hid h
  clear h hd hr hn hl
  go_enter Tryz.func37, Tryz.ntmps37
  go_wp2_with fail
  refine H.out.mono ?_
  rintro e w' ⟨⟨k, rfl, hk⟩, hw'⟩
  subst hw'
  go_wp2
  go_ret
  first | exact ⟨rfl, rfl⟩ | exact ⟨by rw [← hk]; rfl, rfl⟩
set_option maxHeartbeats 1000000 in
theorem labels_any (A : Option Addr) (l : List Int) (n C : Nat) (G : Nat → Prop) (w : World) (hn : n = l.length) (hl : n ≤ maxLen) (hC : n ≤ C) (hr : RdZ w A l G) :
    Calls Tryz.prog 69 #[.slice A n C] w fun e w' => e = .returned (.bool (decide (Rc.Labs l))) ∧ w = w' := by
  have HM := Lib.hid hl
  unfold maxLen at hl
  have HR := Lib.hid hr
  have HN := Lib.hid hn
  clear hr hn
  go_enter Tryz.func69, Tryz.ntmps69
  go_wp2
  go_loop [3, 4, 7] (fun va vb vi => ∃ k : Nat, k ≤ n ∧ vi = .int .i64 (k : Int) ∧ Hid (Rc.Labs (l.take k))) (fun va vb vi => n - (intOf vi).toNat)
  case atStart => exact ⟨0, Nat.zero_le _, rfl, Lib.hid Rc.Labs.nil⟩
  case round =>
    obtain ⟨k, hk, rfl, HK⟩ := hrel
    by_cases hlt : k < n
    · have hlt' : k < l.length := by rw [← HN.out]; exact hlt
      obtain ⟨b, off, rfl, -, hc⟩ := HR.out.at_ hlt'
      have HY := Lib.hid (Rc.labs_take hlt')
      have HZ : Hid (¬ ((1 ≤ l[k] ∧ l[k] ≤ 2147483647) ∧ l[k] ∉ l.take k) → decide (Rc.Labs l) = false) := Lib.hid fun h => decide_eq_false (Rc.labs_step_no hlt' h)
      have hlen : k = (l.take k).length := by rw [List.length_take]; omega
      have HT := Lib.hid (HR.out.take k)
      have HL := Lib.hid hlen
      obtain ⟨y, hy⟩ : ∃ y, y = l[k] := ⟨_, rfl⟩
      rw [← hy] at hc HY HZ
      clear hy hlen
      have hkc : (k : Int) ≤ (C : Int) := by omega
      cases q1 : btw y 1 2147483647 with
      | false =>
        have HF := Lib.hid (HZ.out fun h => by have := btw_no q1; omega)
        go_wp2_with (go_at_call 68; refine (between_any _ _ _ _).mono ?_; rintro e w' ⟨rfl, hw'⟩; subst hw')
        go_ret
        exact ⟨by rw [HF.out]; rfl, rfl⟩
      | true =>
        cases q2 : decide (y ∈ l.take k) with
        | true =>
          have HF := Lib.hid (HZ.out fun h => h.2 (of_decide_eq_true q2))
          have hcall := contains_any (some ⟨b, off, none⟩) (l.take k) k C y G w HL.out (by have := HM.out; omega) HT.out
          rw [q2] at hcall
          have HC := Lib.hid hcall
          clear hcall
          go_wp2_with (first
            | (go_at_call 68; refine (between_any _ _ _ _).mono ?_; rintro e w' ⟨rfl, hw'⟩; subst hw')
            | (go_at_call 37; refine HC.out.mono ?_; rintro e w' ⟨rfl, hw'⟩; subst hw'))
          go_ret
          exact ⟨by rw [HF.out]; rfl, rfl⟩
        | false =>
          have HX := Lib.hid (HY.out.2 ⟨HK.out, btw_yes q1, of_decide_eq_false q2⟩)
          have hcall := contains_any (some ⟨b, off, none⟩) (l.take k) k C y G w HL.out (by have := HM.out; omega) HT.out
          rw [q2] at hcall
          have HC := Lib.hid hcall
          clear hcall
          go_wp2_with (first
            | (go_at_call 68; refine (between_any _ _ _ _).mono ?_; rintro e w' ⟨rfl, hw'⟩; subst hw')
            | (go_at_call 37; refine HC.out.mono ?_; rintro e w' ⟨rfl, hw'⟩; subst hw'))
          go_round
          case rel => exact ⟨k + 1, by omega, by go_num, HX⟩
          case measure => simp [intOf]; omega
    · have HX : Hid (decide (Rc.Labs l) = true) := Lib.hid (decide_eq_true (by have := HK.out; rwa [List.take_of_length_le (by rw [← HN.out]; omega)] at this))
      go_wp2
      go_ret
      exact ⟨by rw [HX.out]; rfl, rfl⟩
/-- which seals are right, as RightSeal asks -/
def sealB (n x d p : Int) (m : Nat) (lb : Bool) : Bool :=
  btw n 1 1073741824 && (btw d 1 14 && (btw p 1 (14 - d) && (btw x 0 (d + p - 1) && (((m : Int) == d + p) && lb))))
theorem sealB_ok (n x d p : Int) (l : List Int) : sealB n x d p l.length (decide (Rc.Labs l)) = decide (Rc.SOk ⟨n, x, d, p, l⟩) := by
  rw [Bool.eq_iff_iff, decide_eq_true_eq]
  unfold sealB btw Rc.SOk Rc.SNums
  simp only [Bool.and_eq_true, decide_eq_true_eq, beq_iff_eq]
  constructor
  · rintro ⟨⟨h1, h2⟩, ⟨h3, h4⟩, ⟨h5, h6⟩, ⟨h7, h8⟩, h9, h10⟩
    exact ⟨⟨⟨h1, h2⟩, h3, h5, by omega, h9, h7, by omega⟩, h10⟩
  · rintro ⟨⟨⟨h1, h2⟩, h3, h5, h4, h9, h7, h8⟩, h10⟩
    exact ⟨⟨h1, h2⟩, ⟨h3, by omega⟩, ⟨h5, by omega⟩, ⟨h7, by omega⟩, h9, h10⟩
set_option maxHeartbeats 4000000 in
theorem rightSeal_way (n x d p : Int) (A : Option Addr) (l : List Int) (m C : Nat) (G : Nat → Prop) (w : World) (hm : m = l.length) (hC : m ≤ C) (hCm : C ≤ maxLen) (hr : RdZ w A l G) :
    Calls Tryz.prog 44 #[.agg #[.int .i64 n, .int .i64 x, .int .i64 d, .int .i64 p, .slice A m C]] w (AnsB (sealB n x d p m (decide (Rc.Labs l))) w) := by
  have HB0 : Hid (Below w.heap.size w (w.alloc (sealObj n x d p A m C))) := Lib.hid ((Below.refl _ _).alloc (Nat.le_refl _) _)
  have HU0 : Hid ((w.alloc (sealObj n x d p A m C)).heap[w.heap.size]? = some (sealObj n x d p A m C)) := Lib.hid (Go.Deep.blk_alloc_new _ _)
  have HL := Lib.hid (labels_any A l m C G (w.alloc (sealObj n x d p A m C)) hm (by omega) hC (hr.old HB0.out))
  clear hm hC hCm hr
  obtain ⟨a0, a1, a2, a3, a4⟩ := seal5 HU0.out
  unfold sealObj at a0 a1 a2 a3 a4 HL HB0
  cases q1 : btw n 1 1073741824 with
  | false =>
    have H : Hid (sealB n x d p m (decide (Rc.Labs l)) = false) := Lib.hid (by unfold sealB; rw [q1]; rfl)
    go_enter Tryz.func44, Tryz.ntmps44
    go_wp2_with (first
      | (go_at_call 68; refine (between_any _ _ _ _).mono ?_; rintro e w' ⟨rfl, hw'⟩; subst hw')
      | (go_at_call 69; refine HL.out.mono ?_; rintro e w' ⟨rfl, hw'⟩; subst hw'))
    go_ret
    rw [H.out]
    exact ⟨rfl, HB0.out⟩
  | true =>
    cases q2 : btw d 1 14 with
    | false =>
      have H : Hid (sealB n x d p m (decide (Rc.Labs l)) = false) := Lib.hid (by unfold sealB; rw [q1, q2]; rfl)
      go_enter Tryz.func44, Tryz.ntmps44
      go_wp2_with (first
        | (go_at_call 68; refine (between_any _ _ _ _).mono ?_; rintro e w' ⟨rfl, hw'⟩; subst hw')
        | (go_at_call 69; refine HL.out.mono ?_; rintro e w' ⟨rfl, hw'⟩; subst hw'))
      go_ret
      rw [H.out]
      exact ⟨rfl, HB0.out⟩
    | true =>
      have hd0 : 1 ≤ d := (btw_yes q2).1
      have hd1 : d ≤ 14 := (btw_yes q2).2
      cases q3 : btw p 1 (14 - d) with
      | false =>
        have H : Hid (sealB n x d p m (decide (Rc.Labs l)) = false) := Lib.hid (by unfold sealB; rw [q1, q2, q3]; rfl)
        go_enter Tryz.func44, Tryz.ntmps44
        go_wp2_with (first
          | (go_at_call 68; refine (between_any _ _ _ _).mono ?_; rintro e w' ⟨rfl, hw'⟩; subst hw')
          | (go_at_call 69; refine HL.out.mono ?_; rintro e w' ⟨rfl, hw'⟩; subst hw'))
        go_ret
        rw [H.out]
        exact ⟨rfl, HB0.out⟩
      | true =>
        have hp0 : 1 ≤ p := (btw_yes q3).1
        have hp1 : p ≤ 14 - d := (btw_yes q3).2
        cases q4 : btw x 0 (d + p - 1) with
        | false =>
          have H : Hid (sealB n x d p m (decide (Rc.Labs l)) = false) := Lib.hid (by unfold sealB; rw [q1, q2, q3, q4]; rfl)
          go_enter Tryz.func44, Tryz.ntmps44
          go_wp2_with (first
            | (go_at_call 68; refine (between_any _ _ _ _).mono ?_; rintro e w' ⟨rfl, hw'⟩; subst hw')
            | (go_at_call 69; refine HL.out.mono ?_; rintro e w' ⟨rfl, hw'⟩; subst hw'))
          go_ret
          rw [H.out]
          exact ⟨rfl, HB0.out⟩
        | true =>
          cases q5 : ((m : Int) == d + p) with
          | false =>
            have H : Hid (sealB n x d p m (decide (Rc.Labs l)) = false) := Lib.hid (by unfold sealB; rw [q1, q2, q3, q4, q5]; rfl)
            go_enter Tryz.func44, Tryz.ntmps44
            go_wp2_with (first
              | (go_at_call 68; refine (between_any _ _ _ _).mono ?_; rintro e w' ⟨rfl, hw'⟩; subst hw')
              | (go_at_call 69; refine HL.out.mono ?_; rintro e w' ⟨rfl, hw'⟩; subst hw'))
            go_ret
            rw [H.out]
            exact ⟨rfl, HB0.out⟩
          | true =>
            have H : Hid (sealB n x d p m (decide (Rc.Labs l)) = decide (Rc.Labs l)) := Lib.hid (by unfold sealB; rw [q1, q2, q3, q4, q5]; rfl)
            go_enter Tryz.func44, Tryz.ntmps44
            go_wp2_with (first
              | (go_at_call 68; refine (between_any _ _ _ _).mono ?_; rintro e w' ⟨rfl, hw'⟩; subst hw')
              | (go_at_call 69; refine HL.out.mono ?_; rintro e w' ⟨rfl, hw'⟩; subst hw'))
            go_ret
            rw [H.out]
            exact ⟨rfl, HB0.out⟩
theorem rightSeal_any (n x d p : Int) (A : Option Addr) (l : List Int) (m C : Nat) (G : Nat → Prop) (w : World) (hm : m = l.length) (hC : m ≤ C) (hCm : C ≤ maxLen) (hr : RdZ w A l G) :
    Calls Tryz.prog 44 #[.agg #[.int .i64 n, .int .i64 x, .int .i64 d, .int .i64 p, .slice A m C]] w (AnsB (decide (Rc.SOk ⟨n, x, d, p, l⟩)) w) := by
  have h := rightSeal_way n x d p A l m C G w hm hC hCm hr
  rw [hm, sealB_ok, ← hm] at h
  exact h
end Go.Proofs.YtfkoomldncfdnaaGreat
namespace Go.Proofs.YtfkoomldncfdnaaGreat
open Go.RowKit
open Pt (Tx)

/-- pieces, each behind the next one -/
def Chain (w : World) : Option Addr → List Tx → Prop
  | P, [] => P = none
  | P, s :: ss => ∃ p P', P = some ⟨p, 0, none⟩ ∧ w.heap[p]? = some (.cells #[.pointer P', .string (tx s)] 144 (0, 0)) ∧ 0 < s.length ∧ Chain w P' ss
/-- all that pieces hold -/
def flat : List Tx → Tx
  | [] => []
  | s :: ss => flat ss ++ s
theorem Chain.keep {w w' : World} (hk : ∀ (k : Nat) (c : Array Value), w.heap[k]? = some (.cells c 144 (0, 0)) → w'.heap[k]? = w.heap[k]?) : ∀ (ss : List Tx) (P : Option Addr), Chain w P ss → Chain w' P ss
  | [], _, h => h
  | _ :: ss, _, ⟨p, P', h1, h2, h3, h4⟩ => ⟨p, P', h1, (hk p _ h2).trans h2, h3, Chain.keep hk ss P' h4⟩
/-- a Writer at block g that holds l -/
def Wr (w : World) (g : Nat) (l : Tx) : Prop :=
  ∃ P ss, w.heap[g]? = some (.cells #[.pointer P, .int .i64 (l.length : Int)] 122 (0, 0)) ∧ Chain w P ss ∧ l = flat ss
theorem Chain.kp {w w' : World} {S : Nat → Prop} {P : Option Addr} {ss : List Tx} (h : Chain w P ss) (hk : Kp S w w') (hs : ∀ (k : Nat) (c : Array Value), S k → w.heap[k]? ≠ some (.cells c 144 (0, 0))) : Chain w' P ss :=
  Chain.keep (fun k c hc => hk.block k (heap_lt hc) fun h => hs k c h hc) ss P h
theorem Wr.kp {w w' : World} {S : Nat → Prop} {g : Nat} {l : Tx} (h : Wr w g l) (hk : Kp S w w') (hg : ¬ S g) (hs : ∀ (k : Nat) (c : Array Value), S k → w.heap[k]? ≠ some (.cells c 144 (0, 0))) : Wr w' g l := by
  obtain ⟨P, ss, h1, h2, h3⟩ := h
  exact ⟨P, ss, (hk.block g (heap_lt h1) hg).trans h1, h2.kp hk hs, h3⟩
theorem Wr.old {w w' : World} {g : Nat} {l : Tx} (h : Wr w g l) (hb : Below w.heap.size w w') : Wr w' g l :=
  h.kp (S := fun _ => False) (Kp.of_below hb) (fun h => h) (fun _ _ h => h.elim)
theorem Wr.lt {w : World} {g : Nat} {l : Tx} (h : Wr w g l) : g < w.heap.size := by
  obtain ⟨P, ss, h1, _⟩ := h; exact heap_lt h1
/-- a call has written: the Writer at g holds l now, and of what was there g alone has turned -/
def Wrote (g : Nat) (l : Tx) (w : World) (e : Ending) (w' : World) : Prop := e = .returned (.tuple #[]) ∧ Wr w' g l ∧ Kp (· = g) w w'
/-- a Reader at block g with s left; its bytes lie in blocks of G -/
structure Rr (w : World) (g : Nat) (s : Cd.St) (G : Nat → Prop) : Prop where
  ex : ∃ A c, w.heap[g]? = some (.cells #[.slice A s.1.length c, .bool s.2] 149 (0, 0)) ∧ s.1.length ≤ c ∧ (A = none → s.1.length = 0 ∧ c = 0) ∧ RdL w A s.1 G
  ng : ¬ G g
theorem Rr.lt {w : World} {g : Nat} {s : Cd.St} {G : Nat → Prop} (h : Rr w g s G) : g < w.heap.size := by
  obtain ⟨A, c, h1, _⟩ := h.ex; exact heap_lt h1
theorem Rr.kp {w w' : World} {g : Nat} {s : Cd.St} {G S : Nat → Prop} (h : Rr w g s G) (hk : Kp S w w') (hg : ¬ S g) (hs : ∀ b, G b → ¬ S b) : Rr w' g s G := by
  obtain ⟨⟨A, c, h1, h2, h3, h5⟩, hn⟩ := h
  exact ⟨⟨A, c, (hk.block g (heap_lt h1) hg).trans h1, h2, h3, h5.kp hk hs⟩, hn⟩
/-- the document's own Writer: its slice is v -/
def Rw (w : World) (g base : Nat) (v : Value) (l : Tx) : Prop := w.heap[g]? = some (.cells #[v] 78 (0, 0)) ∧ OwnL w base v l
theorem Rw.lt {w : World} {g base : Nat} {v : Value} {l : Tx} (h : Rw w g base v l) : g < w.heap.size := heap_lt h.1
theorem Rw.ne {w : World} {g base : Nat} {v : Value} {l : Tx} (h : Rw w g base v l) : ∀ k, v.ownBlock = some k → k ≠ g := by
  rintro k hk rfl
  obtain ⟨c, hc⟩ := h.2.block k hk
  have := h.1
  rw [hc] at this
  injection this with this
  injection this with _ e
  exact absurd e (by decide)
theorem Rw.kp {w w' : World} {g base : Nat} {v : Value} {l : Tx} {S : Nat → Prop} (h : Rw w g base v l) (hk : Kp S w w') (hg : ¬ S g) (hs : ∀ k, v.ownBlock = some k → ¬ S k) : Rw w' g base v l :=
  ⟨(hk.block g h.lt hg).trans h.1, h.2.kp hk hs⟩
/-- g alone has turned, and rows of bytes from base on -/
def Turned (g base : Nat) (w w' : World) : Prop := Kp (fun k => k = g ∨ base ≤ k ∧ ∃ c, w.heap[k]? = some (.cells c 5 (0, 0))) w w'
theorem Turned.trans {g base : Nat} {a b c : World} (h : Turned g base a b) (k : Turned g base b c) : Turned g base a c := by
  refine ⟨k.os.trans h.os, k.tape.trans h.tape, k.output.trans h.output, Nat.le_trans h.size k.size, fun i hi hs => ?_⟩
  have e := h.block i hi hs
  rw [← e]
  refine k.block i (Nat.lt_of_lt_of_le hi h.size) fun h' => hs ?_
  rcases h' with h' | ⟨h1, x, h2⟩
  · exact .inl h'
  · exact .inr ⟨h1, x, e ▸ h2⟩
theorem Turned.alloc {g base : Nat} {a b : World} (h : Turned g base a b) (o : Obj) : Turned g base a (b.alloc o) := Kp.alloc h o
theorem Turned.below {g base B : Nat} {a b : World} (h : Turned g base a b) (hB : B ≤ a.heap.size) (hg : B ≤ g) (hb : B ≤ base) : Below B a b :=
  Kp.below h hB fun k hk => by rcases hk with rfl | hk; exact hg; omega
/-- what a call of the document's own Writer has turned -/
def RefWrote (g base : Nat) (l : Tx) (w : World) (e : Ending) (w' : World) : Prop := e = .returned (.tuple #[]) ∧ (∃ v', Rw w' g base v' l) ∧ Turned g base w w'
theorem Rw.stored {w w1 w' : World} {g base : Nat} {v v' : Value} {l l' : Tx} (h : Rw w g base v l) (hK : Turned g base w w1) (h1 : w1.heap[g]? = w.heap[g]?) (hv1 : OwnL w1 base v l) (hg : w1.grownBy w' v.ownBlock) (hv : OwnL w' base v' l') :
    w'.heap[g]? = w.heap[g]? ∧ Rw (w'.setCell ⟨g, 0, none⟩ v') g base v' l' ∧ Turned g base w (w'.setCell ⟨g, 0, none⟩ v') := by
  have hlt : g < w1.heap.size := heap_lt (h1.trans h.1)
  have e : w'.heap[g]? = w.heap[g]? := (hg.block g hlt fun e => h.ne g e.symm rfl).trans h1
  have hr : Rw w' g base v' l' ∨ True := .inr trivial
  have hb := e.trans h.1
  refine ⟨e, ⟨by rw [heap_set hb]; simp, hv.kp (Kp.store w' g 0 _) fun k hk hkg => ?_⟩, ?_⟩
  · subst hkg
    obtain ⟨c, hc⟩ := hv.block k hk
    rw [hb] at hc
    injection hc with hc
    injection hc with _ hc
    exact absurd hc (by decide)
  · refine hK.trans (Kp.setCell (Kp.grown (Kp.refl _ w1) hg fun k hk => .inr ⟨hv1.lo k hk, hv1.block k hk⟩) (.inl rfl) _)
/-- what a read answered, and left -/
def Red (v : Value) (g : Nat) (s : Cd.St) (G : Nat → Prop) (w : World) (e : Ending) (w' : World) : Prop := e = .returned v ∧ Rr w' g s G ∧ Kp (· = g) w w'
end Go.Proofs.YtfkoomldncfdnaaGreat
namespace Go.Proofs.YtfkoomldncfdnaaGreat
open Go.RowKit
open Pt (Tx)

theorem not_piece {w : World} {g : Nat} {c : Array Value} {t : TypeId} {fr : Nat × Nat} (h : w.heap[g]? = some (.cells c t fr)) (ht : t ≠ 144) : ∀ (k : Nat) (c' : Array Value), k = g → w.heap[k]? ≠ some (.cells c' 144 (0, 0)) := by
  rintro k c' rfl h'
  rw [h] at h'
  injection h' with h'
  injection h' with _ e
  exact ht e
theorem conv_lit (w : World) (l : Tx) {c : Array Value} {n : Nat} (hn : n = l.length) (hc : c = (cellsL l).toArray) :
    (convert 42 9 (.slice (some ⟨w.heap.size, 0, none⟩) n n)).run Tryz.prog (w.alloc (.cells c 5)) = .ok (.string (tx l)) (w.alloc (.cells c 5)) := by
  subst hn; subst hc
  refine RdL.str (RdL.of_cells (Go.Deep.blk_alloc_new _ _) fun j hj => ?_) _
  rw [Nat.zero_add]
  simpa using cellsL_get hj
theorem put_any (g : Nat) (l s : Tx) (w : World) (h : Wr w g l) (h0 : 0 < s.length) (hl : l.length + s.length ≤ 1000000000) :
    Calls Tryz.prog 104 #[.pointer (some ⟨g, 0, none⟩), .string (tx s)] w (Wrote g (l ++ s) w) := by
  obtain ⟨P, ss, h1, h2, h3⟩ := h
  have hlt := heap_lt h1
  have c0 : w.cell? ⟨g, 0, none⟩ = some (.pointer P) := heap_cell h1
  have c1 : w.cell? ⟨g, 1, none⟩ = some (.int .i64 (l.length : Int)) := heap_cell h1
  have f0 : w.frozen? ⟨g, 0, none⟩ = false := heap_frozen h1
  have f1 : w.frozen? ⟨g, 1, none⟩ = false := heap_frozen h1
  have es := tx_size s
  have et := tx_toList s
  have H1 := Lib.hid h1
  have H3 := Lib.hid h3
  clear h1 h3
  go_enter Tryz.func104, Tryz.ntmps104
  go_wp2
  go_end0
  have hk : Kp (· = g) w (((w.setCell ⟨g, 0, none⟩ (.pointer (some ⟨w.heap.size, 0, none⟩))).setCell ⟨g, 1, none⟩ (.int .i64 ((l.length : Int) + (s.length : Int)))).alloc (.cells #[.pointer P, .string (tx s)] 144)) :=
    (((Kp.refl (· = g) w).setCell (p := ⟨g, 0, none⟩) rfl _).setCell (p := ⟨g, 1, none⟩) rfl _).alloc _
  refine ⟨rfl, ⟨some ⟨w.heap.size, 0, none⟩, s :: ss, ?_, ⟨w.heap.size, P, rfl, ?_, h0, h2.kp hk (not_piece H1.out (by decide))⟩, by rw [H3.out]; rfl⟩, hk⟩
  · rw [Below.heap_alloc _ _ _ (by simpa [World.setCell] using hlt), heap_set (heap_set H1.out _)]
    simp
  · have := Go.Deep.blk_alloc_new ((w.setCell ⟨g, 0, none⟩ (.pointer (some ⟨w.heap.size, 0, none⟩))).setCell ⟨g, 1, none⟩ (.int .i64 ((l.length : Int) + (s.length : Int)))) (.cells #[.pointer P, .string (tx s)] 144)
    simpa [World.setCell] using this
theorem Wrote.after {g : Nat} {l : Tx} {w w1 w' : World} {e : Ending} (hk : Kp (· = g) w w1) (h : Wrote g l w1 e w') : Wrote g l w e w' := ⟨h.1, h.2.1, hk.trans h.2.2⟩
theorem wint_any (g : Nat) (l : Tx) (n : Int) (w : World) (h : Wr w g l) (hl : l.length ≤ 999999990) :
    Calls Tryz.prog 80 #[.pointer (some ⟨g, 0, none⟩), .int .i64 n] w (Wrote g (l ++ Cd.be4 n) w) := by
  have hc := conv_lit w (Cd.be4 n) (n := 4) rfl (c := #[.int .u8 (n / 16777216 % 256), .int .u8 (n / 65536 % 256), .int .u8 (n / 256 % 256), .int .u8 (n % 256)]) (by simp [cellsL, Cd.be4, Cd.b8_nat])
  go_enter Tryz.func80, Tryz.ntmps80
  go_wp2_with (go_at_call 104; (refine (put_any g l (Cd.be4 n) _ (h.old ((Below.refl _ _).alloc (Nat.le_refl _) _)) (Nat.succ_pos _) (by rw [Cd.be4_len]; omega)).mono ?_); rintro e w' hq; have HQ := Lib.hid hq; obtain ⟨rfl, _, _⟩ := hq)
  go_end0
  exact HQ.out.after ((Kp.refl _ w).alloc _)
theorem wbyte_any (g : Nat) (l : Tx) (c : UInt8) (w : World) (h : Wr w g l) (hl : l.length ≤ 999999990) :
    Calls Tryz.prog 81 #[.pointer (some ⟨g, 0, none⟩), .int .u8 (c.toNat : Int)] w (Wrote g (l ++ [c]) w) := by
  have hc := conv_lit w [c] (n := 1) rfl (c := #[.int .u8 (c.toNat : Int)]) (by simp [cellsL])
  go_enter Tryz.func81, Tryz.ntmps81
  go_wp2_with (go_at_call 104; (refine (put_any g l [c] _ (h.old ((Below.refl _ _).alloc (Nat.le_refl _) _)) (Nat.succ_pos _) (by simp; omega)).mono ?_); rintro e w' hq; have HQ := Lib.hid hq; obtain ⟨rfl, _, _⟩ := hq)
  go_end0
  exact HQ.out.after ((Kp.refl _ w).alloc _)
/-- bytes in new memory -/
def NewL (l : Tx) (w : World) (e : Ending) (w' : World) : Prop := ∃ b, e = .returned (.slice (some ⟨b, 0, none⟩) l.length l.length) ∧ w.heap.size ≤ b ∧ RdL w' (some ⟨b, 0, none⟩) l (· = b) ∧ Below w.heap.size w w'
theorem splice_text (E n : Nat) (s r : Tx) (hn : s.length = n) :
    ((cellsL (List.replicate (E + n) 0 ++ r)).toArray.toList.take E ++ Lib.byteCells (tx s).data.toList ++ (cellsL (List.replicate (E + n) 0 ++ r)).toArray.toList.drop (E + (tx s).size)).toArray = (cellsL (List.replicate E 0 ++ (s ++ r))).toArray := by
  have hb : Lib.byteCells (tx s).data.toList = cellsL s := by rw [tx_data]; rfl
  rw [hb, tx_size, hn]
  congr 1
  have e1 : cellsL (List.replicate (E + n) 0 ++ r) = cellsL (List.replicate E 0) ++ (cellsL (List.replicate n 0) ++ cellsL r) := by simp [cellsL, ← List.append_assoc, List.replicate_append_replicate]
  have e2 : (cellsL (List.replicate E (0 : UInt8))).length = E := by simp [cellsL_len]
  have e3 : (cellsL (List.replicate n (0 : UInt8))).length = n := by simp [cellsL_len]
  rw [List.toList_toArray, e1, List.take_left' e2, ← List.drop_drop, List.drop_left' e2, List.drop_left' e3, cellsL_append, cellsL_append, List.append_assoc]
/-- the same, and what the new block holds -/
def NewC (l : Tx) (w : World) (e : Ending) (w' : World) : Prop := ∃ b, e = .returned (.slice (some ⟨b, 0, none⟩) l.length l.length) ∧ w.heap.size ≤ b ∧ w'.heap[b]? = some (.cells (cellsL l).toArray 5 (0, 0)) ∧ Below w.heap.size w w'
theorem rd_of_cells {w : World} {b : Nat} {l : Tx} {fr : Nat × Nat} (h : w.heap[b]? = some (.cells (cellsL l).toArray 5 fr)) : RdL w (some ⟨b, 0, none⟩) l (· = b) :=
  RdL.of_cells h (fun j hj => by rw [Nat.zero_add]; simpa using cellsL_get hj)
theorem own_of_cells {w : World} {b B n : Nat} {l : Tx} (h : w.heap[b]? = some (.cells (cellsL l).toArray 5 (0, 0))) (hB : B ≤ b) (hn : n = l.length) (hl : l.length ≤ maxLen) : OwnL w B (.slice (some ⟨b, 0, none⟩) n n) l := by
  subst hn
  refine ⟨by rw [cellsL_len, Nat.mul_one], .inr ⟨b, l.length, (cellsL l).toArray, rfl, hB, h, Nat.le_refl _, hl, by simp [cellsL_len], ?_⟩⟩
  rw [List.toList_toArray, List.take_of_length_le (by rw [cellsL_len]; omega)]
set_option maxRecDepth 100000 in
theorem bytes_own (g : Nat) (l : Tx) (w : World) (h : Wr w g l) (hl : l.length ≤ 1000000000) :
    Calls Tryz.prog 82 #[.pointer (some ⟨g, 0, none⟩)] w (NewC l w) := by
  obtain ⟨P, ss, h1, h2, h3⟩ := h
  have hlt := heap_lt h1
  have c0 : w.cell? ⟨g, 0, none⟩ = some (.pointer P) := heap_cell h1
  have c1 : w.cell? ⟨g, 1, none⟩ = some (.int .i64 (l.length : Int)) := heap_cell h1
  have H1 := Lib.hid h1
  have H2 := Lib.hid h2
  have H3 := Lib.hid h3
  clear h1 h2 h3
  obtain ⟨L, hL⟩ : ∃ L, L = l.length := ⟨_, rfl⟩
  rw [← hL] at hl c1
  have HL := Lib.hid hL
  clear hL
  have hmk := run_make_row' (P := Tryz.prog) 42 5 (.int .u8 0) 1 Tryz.underlying42 infoB rfl .i64 .i64 L (by omega) (by omega)
  go_enter Tryz.func82, Tryz.ntmps82
  go_wp2
  go_loopw [4, 5] (fun ve vp wr => ∃ (ss : List Tx) (P : Option Addr) (r : Tx) (k : Nat), k ≤ L ∧ ve = .int .i64 (k : Int) ∧ vp = .pointer P ∧ Hid (k = (flat ss).length) ∧ Hid (l = flat ss ++ r) ∧ Hid (Chain wr P ss) ∧ Hid (wr.heap[w.heap.size]? = some (.cells (cellsL (List.replicate k 0 ++ r)).toArray 5 (0, 0))) ∧ Hid (Below w.heap.size w wr)) (fun ve _ _ => (intOf ve).toNat)
  case atStart =>
    refine ⟨ss, P, [], L, Nat.le_refl _, rfl, rfl, Lib.hid (by rw [HL.out, H3.out]), Lib.hid (by rw [H3.out, List.append_nil]), Lib.hid (H2.out.kp (Kp.of_below (S := fun _ => False) ((Below.refl _ _).alloc (Nat.le_refl _) _)) (fun _ _ h => h.elim)), Lib.hid ?_, Lib.hid ((Below.refl _ _).alloc (Nat.le_refl _) _)⟩
    rw [Go.Deep.blk_alloc_new]
    congr 2
    apply Array.ext
    · simp [size_madeCells, cellsL_len]
    · intro i h1 h2
      simp [madeCells, cellsL, Nat.mod_one]
  case round =>
    obtain ⟨ss, P, r, k, hk, rfl, rfl, HK, HF, HC, HW, HB⟩ := hrel
    cases ss with
    | nil =>
      have hP : P = none := HC.out
      subst hP
      go_wp2
      go_ret
      have hk0 : k = 0 := HK.out
      have hr : l = r := HF.out
      have hx := HW.out
      rw [hk0, ← hr] at hx
      exact ⟨w.heap.size, by rw [HL.out]; rfl, Nat.le_refl _, hx, HB.out⟩
    | cons s ss =>
      obtain ⟨p, P', rfl, hp, hs0, hch⟩ := HC.out
      have p0 : wr.cell? ⟨p, 0, none⟩ = some (.pointer P') := heap_cell hp
      have p1 : wr.cell? ⟨p, 1, none⟩ = some (.string (tx s)) := heap_cell hp
      obtain ⟨E, hE⟩ : ∃ E, E = (flat ss).length := ⟨_, rfl⟩
      obtain ⟨n, hn⟩ : ∃ n, n = s.length := ⟨_, rfl⟩
      have hkE : k = E + n := by rw [HK.out, hE, hn]; simp [flat]
      subst hkE
      have es : (tx s).size = n := by rw [tx_size, hn]
      rw [← hn] at hs0
      have HE := Lib.hid hE
      have HN := Lib.hid hn
      have HP := Lib.hid hp
      have HCH := Lib.hid hch
      have hcp : ∃ ws : World, (Builtin.copy_ #[42, 9] 3 #[.slice (some ⟨w.heap.size, E, none⟩) (L - E) (L - E), .string (tx s)]).run Tryz.prog wr.drew = .ok (goInt n) ws ∧ ws.cell? ⟨p, 0, none⟩ = some (.pointer P') ∧
          Hid (ws.heap[w.heap.size]? = some (.cells (cellsL (List.replicate E 0 ++ (s ++ r))).toArray 5 (0, 0))) ∧ Hid (Chain ws P' ss) ∧ Hid (Below w.heap.size w ws) := by
        have hsz : (cellsL (List.replicate (E + n) 0 ++ r)).toArray.size = L := by
          have := congrArg List.length HF.out
          rw [List.length_append, ← HL.out, ← HK.out] at this
          simp [cellsL_len]; omega
        have hr := Lib.run_copy_row_string (P := Tryz.prog) wr.drew 42 9 3 5 w.heap.size E (L - E) (L - E) (tx s) _ 5 Tryz.underlying42 (by kernel_rfl) (show wr.drew.heap[w.heap.size]? = _ from HW.out) (by rw [es]; omega) (by rw [es, hsz]; omega)
        rw [splice_text E n s r hn.symm, es] at hr
        have hpb : p ≠ w.heap.size := by
          rintro rfl
          have h' := HW.out
          rw [hp] at h'
          injection h' with h'
          injection h' with _ e
          exact absurd e (by decide)
        refine ⟨_, hr, ?_, Lib.hid (setRow_heap _ _ _ _ _ _ (show wr.drew.heap[w.heap.size]? = _ from HW.out)), Lib.hid (Chain.keep (fun k c hc => ?_) ss P' hch), Lib.hid (below_setRow (w := wr.drew) ⟨HB.out.os, HB.out.tape, HB.out.output, HB.out.size, HB.out.block⟩ (Nat.le_refl _) _)⟩
        · rw [World.cell?_of_block (setRow_other _ _ _ _ hpb)]; exact p0
        · refine setRow_other _ _ _ _ ?_
          rintro rfl
          have h' := HW.out
          rw [hc] at h'
          injection h' with h'
          injection h' with _ e
          exact absurd e (by decide)
      obtain ⟨ws, hcp, q0, HX, HY, HZ⟩ := hcp
      have HR : Hid (l = flat ss ++ (s ++ r)) := Lib.hid (by rw [HF.out]; simp [flat])
      clear hE hn hp hch
      go_wp2
      have hEL : E ≤ L := by omega
      have hne : ¬ L = E := by omega
      have hne' : ¬ E = L := by omega
      refine wp_region_still_tail 7 (by kernel_rfl) (by kernel_rfl) ?_
      simp only [List.take_succ_cons, List.take_zero, List.drop_succ_cons, List.drop_zero]
      repeat (first | still_step)
      refine wpStill_nil ?_
      change wpList _ _ _ _ _ wr.drew
      go_wp2
      go_roundw
      case rel => exact ⟨ss, P', s ++ r, E, hEL, rfl, rfl, Lib.hid HE.out, HR, HY, HX, HZ⟩
      case measure => simp [intOf]; omega
theorem bytes_any (g : Nat) (l : Tx) (w : World) (h : Wr w g l) (hl : l.length ≤ 1000000000) :
    Calls Tryz.prog 82 #[.pointer (some ⟨g, 0, none⟩)] w (NewL l w) :=
  (bytes_own g l w h hl).mono fun _ _ ⟨b, h1, h2, h3, h4⟩ => ⟨b, h1, h2, rd_of_cells h3, h4⟩
end Go.Proofs.YtfkoomldncfdnaaGreat
namespace Go.Proofs.YtfkoomldncfdnaaGreat
open Go.RowKit
open Pt (Tx)

/-- bytes are answered, in new memory; or nothing -/
def AnsT (l : Tx) (w : World) (e : Ending) (w' : World) : Prop :=
  ∃ A n C, e = .returned (.slice A n C) ∧ n = l.length ∧ n ≤ C ∧ C ≤ maxLen ∧ (A = none → n = 0 ∧ C = 0) ∧ RdL w' A l (w.heap.size ≤ ·) ∧ Below w.heap.size w w'
theorem AnsT.nil {w w' : World} (h : Below w.heap.size w w') : AnsT [] w (.returned (.slice none 0 0)) w' :=
  ⟨none, 0, 0, rfl, rfl, Nat.le_refl _, by decide, fun _ => ⟨rfl, rfl⟩, RdL.empty _ _ _, h⟩
theorem AnsT.after {l : Tx} {w w1 w2 : World} {e : Ending} (hb : Below w.heap.size w w1) (h : AnsT l w1 e w2) : AnsT l w e w2 := by
  obtain ⟨A, n, C, h1, h2, h3, h4, h5, h6, h7⟩ := h
  exact ⟨A, n, C, h1, h2, h3, h4, h5, h6.mono fun x hx => Nat.le_trans hb.size hx, hb.trans (h7.mono hb.size)⟩
theorem AnsT.of_new {l : Tx} {w w' : World} {e : Ending} (hl : l.length ≤ maxLen) (h : NewC l w e w') : AnsT l w e w' := by
  obtain ⟨b, h1, h2, h3, h4⟩ := h
  exact ⟨some ⟨b, 0, Option.none⟩, l.length, l.length, h1, rfl, Nat.le_refl _, hl, (fun h => by cases h), (rd_of_cells h3).mono (fun x hx => by omega), h4⟩
end Go.Proofs.YtfkoomldncfdnaaGreat
namespace Go.Proofs.YtfkoomldncfdnaaGreat
open Go.RowKit
open Pt (Tx)

/-- bytes in new memory -/
def NewS (l : Tx) (w : World) (e : Ending) (w' : World) : Prop := ∃ b n, e = .returned (.slice (some ⟨b, 0, none⟩) n n) ∧ n = l.length ∧ w.heap.size ≤ b ∧ w'.heap[b]? = some (.cells (cellsL l).toArray 5 (0, 0)) ∧ Below w.heap.size w w'
theorem wbyte_int (g : Nat) (l : Tx) (n : Int) (w : World) (h : Wr w g l) (hl : l.length ≤ 999999990) :
    Calls Tryz.prog 81 #[.pointer (some ⟨g, 0, none⟩), .int .u8 (n % 256)] w (Wrote g (l ++ [Cd.b8 n]) w) := by
  rw [← Cd.b8_nat]; exact wbyte_any g l (Cd.b8 n) w h hl
end Go.Proofs.YtfkoomldncfdnaaGreat
