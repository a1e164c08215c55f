/- Chapter 14's groups as lists: which seal a tape ends with, which groups tapes tell of, which has a label, which parity tapes are made. No program. A list sorted by a number, stably; and the first of each number alone: what a stable sort and a compaction make is what is put in one by one. No program. -/
import Derived.Test.YtndofmoepjfnfaaDoorMad
import Derived.Test.YtndofmoepjfnfaaDoorMae
namespace Go.Proofs.YtndofmoepjfnfaaDoor.Gr
open Pt (Tx)

/-- a tape, without how many blocks fit -/
def vo (t : St.T) : Vo.T := ⟨t.label, t.blocks, t.lost⟩
/-- the seal that a tape ends with -/
def sealed (t : St.T) : Option Rc.S :=
  match Vo.good (vo t) (t.blocks.length - 1) with
  | none => none
  | some u => if u.kind = 5 ∧ Rc.SGood u.load then some (Rc.sparse u.load) else none
/-- .. if the tape has the label that stands at its index -/
def cand (t : St.T) : Option Rc.S :=
  match sealed t with
  | none => none
  | some s => if s.labels.getD s.index.toNat 0 = t.label then some s else none
/-- a seal among those that rise by number, if none has its number -/
def ins (s : Rc.S) : List Rc.S → List Rc.S
  | [] => [s]
  | a :: l => if a.number < s.number then a :: ins s l else if a.number = s.number then a :: l else s :: a :: l
def all (cs : List Rc.S) : List Rc.S := cs.foldl (fun out s => ins s out) []
def cands (l : List St.T) : List Rc.S := l.filterMap cand
def find (l : List St.T) : List Rc.S := all (cands l)
theorem all_snoc (cs : List Rc.S) (s : Rc.S) : all (cs ++ [s]) = ins s (all cs) := by unfold all; rw [List.foldl_append]; rfl
theorem cands_snoc (l : List St.T) (t : St.T) : cands (l ++ [t]) = cands l ++ (match cand t with | none => [] | some s => [s]) := by
  unfold cands
  rw [List.filterMap_append]
  congr 1
  cases h : cand t <;> simp [h]
theorem find_none {l : List St.T} {t : St.T} (h : cand t = none) : find (l ++ [t]) = find l := by
  unfold find; rw [cands_snoc, h, List.append_nil]
theorem find_some {l : List St.T} {t : St.T} {s : Rc.S} (h : cand t = some s) : find (l ++ [t]) = ins s (find l) := by
  unfold find; rw [cands_snoc, h, all_snoc]
/-- they rise, each number once -/
def Up (l : List Rc.S) : Prop := l.Pairwise fun a b => a.number < b.number
theorem mem_ins {s x : Rc.S} : ∀ {l : List Rc.S}, x ∈ ins s l → x = s ∨ x ∈ l
  | [], h => by rw [ins] at h; exact .inl (List.mem_singleton.1 h)
  | a :: l, h => by
    rw [ins] at h
    split at h
    · rcases List.mem_cons.1 h with rfl | h
      · exact .inr List.mem_cons_self
      · exact (mem_ins h).imp id (List.mem_cons_of_mem _)
    · split at h
      · exact .inr h
      · rcases List.mem_cons.1 h with rfl | h
        · exact .inl rfl
        · exact .inr h
theorem ins_old {s x : Rc.S} : ∀ {l : List Rc.S}, x ∈ l → x ∈ ins s l
  | [], h => by cases h
  | a :: l, h => by
    rw [ins]
    split
    · rcases List.mem_cons.1 h with rfl | h
      · exact List.mem_cons_self
      · exact List.mem_cons_of_mem _ (ins_old h)
    · split
      · exact h
      · exact List.mem_cons_of_mem _ h
theorem ins_new {s : Rc.S} : ∀ {l : List Rc.S}, (∀ a ∈ l, a.number ≠ s.number) → s ∈ ins s l
  | [], _ => List.mem_singleton.2 rfl
  | a :: l, h => by
    rw [ins]
    split
    · exact List.mem_cons_of_mem _ (ins_new fun b hb => h b (List.mem_cons_of_mem _ hb))
    · rw [if_neg (h a List.mem_cons_self)]; exact List.mem_cons_self
theorem ins_up {s : Rc.S} : ∀ {l : List Rc.S}, Up l → Up (ins s l)
  | [], _ => List.pairwise_singleton _ _
  | a :: l, h => by
    obtain ⟨h1, h2⟩ := List.pairwise_cons.1 h
    rw [ins]
    split
    · refine List.pairwise_cons.2 ⟨fun b hb => ?_, ins_up h2⟩
      rcases mem_ins hb with rfl | hb
      · assumption
      · exact h1 b hb
    · split
      · exact h
      · refine List.pairwise_cons.2 ⟨fun b hb => ?_, h⟩
        rcases List.mem_cons.1 hb with rfl | hb
        · omega
        · have := h1 b hb; omega
/-- one with that number is there: nothing is turned -/
theorem ins_same {s : Rc.S} : ∀ {l : List Rc.S}, Up l → (∃ a ∈ l, a.number = s.number) → ins s l = l
  | [], _, h => by obtain ⟨a, ha, _⟩ := h; cases ha
  | a :: l, hu, h => by
    obtain ⟨h1, h2⟩ := List.pairwise_cons.1 hu
    rw [ins]
    split
    · rename_i hlt
      obtain ⟨b, hb, e⟩ := h
      rcases List.mem_cons.1 hb with rfl | hb
      · omega
      · rw [ins_same h2 ⟨b, hb, e⟩]
    · split
      · rfl
      · obtain ⟨b, hb, e⟩ := h
        rcases List.mem_cons.1 hb with rfl | hb
        · omega
        · have := h1 b hb; omega
theorem all_up (cs : List Rc.S) : Up (all cs) := by
  have key : ∀ (cs out : List Rc.S), Up out → Up (cs.foldl (fun out s => ins s out) out) := by
    intro cs
    induction cs with
    | nil => intro out h; exact h
    | cons s cs ih => intro out h; exact ih _ (ins_up h)
  exact key cs [] List.Pairwise.nil
theorem up_inj {l : List Rc.S} (h : Up l) {a b : Rc.S} (ha : a ∈ l) (hb : b ∈ l) (e : a.number = b.number) : a = b := by
  induction l with
  | nil => cases ha
  | cons c l ih =>
    obtain ⟨h1, h2⟩ := List.pairwise_cons.1 h
    rcases List.mem_cons.1 ha with rfl | ha' <;> rcases List.mem_cons.1 hb with rfl | hb'
    · rfl
    · have := h1 b hb'; omega
    · have := h1 a ha'; omega
    · exact ih h2 ha' hb'
/-- just the first of each number is among them -/
def First (cs : List Rc.S) (x : Rc.S) : Prop := ∃ i, ∃ h : i < cs.length, cs[i] = x ∧ ∀ k (hk : k < i), cs[k].number ≠ x.number
theorem first_snoc {cs : List Rc.S} {s x : Rc.S} : First (cs ++ [s]) x ↔ First cs x ∨ (x = s ∧ ∀ a ∈ cs, a.number ≠ s.number) := by
  constructor
  · rintro ⟨i, hi, e, hk⟩
    rcases Nat.lt_or_ge i cs.length with h | h
    · rw [List.getElem_append_left h] at e
      refine .inl ⟨i, h, e, fun k hki => ?_⟩
      have := hk k hki
      rwa [List.getElem_append_left (by omega)] at this
    · have hi' : i = cs.length := by simp at hi; omega
      subst hi'
      rw [List.getElem_concat_length rfl] at e
      refine .inr ⟨e.symm, fun a ha => ?_⟩
      obtain ⟨k, hk', rfl⟩ := List.mem_iff_getElem.1 ha
      have := hk k hk'
      rw [List.getElem_append_left hk', ← e] at this
      exact this
  · rintro (⟨i, h, e, hk⟩ | ⟨rfl, h⟩)
    · refine ⟨i, by simp; omega, by rw [List.getElem_append_left h]; exact e, fun k hki => ?_⟩
      rw [List.getElem_append_left (by omega)]
      exact hk k hki
    · refine ⟨cs.length, by simp, by rw [List.getElem_concat_length rfl], fun k hki => ?_⟩
      rw [List.getElem_append_left hki]
      exact h _ (List.getElem_mem hki)
theorem first_of {cs : List Rc.S} {a : Rc.S} (h : a ∈ cs) : ∃ x, First cs x ∧ x.number = a.number := by
  have key : ∀ n, ∀ i (hi : i < cs.length), i < n → ∃ x, First cs x ∧ x.number = cs[i].number := by
    intro n
    induction n with
    | zero => intro i _ h; omega
    | succ n ih =>
      intro i hi hin
      by_cases hx : ∀ k (hk : k < i), cs[k].number ≠ cs[i].number
      · exact ⟨cs[i], ⟨i, hi, rfl, hx⟩, rfl⟩
      · rw [Classical.not_forall] at hx
        obtain ⟨k, hk⟩ := hx
        rw [Classical.not_forall] at hk
        obtain ⟨hki, he⟩ := hk
        obtain ⟨x, h1, h2⟩ := ih k (by omega) (by omega)
        exact ⟨x, h1, h2.trans (Classical.not_not.1 he)⟩
  obtain ⟨i, hi, rfl⟩ := List.mem_iff_getElem.1 h
  exact key (i + 1) i hi (Nat.lt_succ_self i)
theorem First.mem {cs : List Rc.S} {x : Rc.S} (h : First cs x) : x ∈ cs := by
  obtain ⟨i, hi, rfl, _⟩ := h
  exact List.getElem_mem hi
theorem mem_all (cs : List Rc.S) (x : Rc.S) : x ∈ all cs ↔ First cs x := by
  have key : ∀ n (cs : List Rc.S), cs.length = n → ∀ x, x ∈ all cs ↔ First cs x := by
    intro n
    induction n with
    | zero =>
      intro cs h x
      rw [List.length_eq_zero_iff.1 h]
      exact ⟨(fun h => by cases h), fun ⟨i, hi, _⟩ => absurd hi (by simp)⟩
    | succ n ih =>
      intro cs h x
      obtain ⟨cs', s, rfl⟩ : ∃ cs' s, cs = cs' ++ [s] := by
        refine ⟨cs.dropLast, cs.getLast (by intro e; rw [e] at h; cases h), (List.dropLast_concat_getLast _).symm⟩
      have ih' := ih cs' (by simpa using h)
      rw [all_snoc, first_snoc]
      by_cases hs : ∃ a ∈ all cs', a.number = s.number
      · rw [ins_same (all_up cs') hs, ih' x]
        refine ⟨.inl, fun h => h.elim id fun ⟨_, h⟩ => ?_⟩
        obtain ⟨a, ha, e⟩ := hs
        exact absurd e (h a ((ih' a).1 ha).mem)
      · have hno : ∀ a ∈ cs', a.number ≠ s.number := fun a ha e => by
          obtain ⟨y, h1, h2⟩ := first_of ha
          exact hs ⟨y, (ih' y).2 h1, h2.trans e⟩
        constructor
        · intro h
          rcases mem_ins h with rfl | h
          · exact .inr ⟨rfl, hno⟩
          · exact .inl ((ih' x).1 h)
        · rintro (h | ⟨rfl, _⟩)
          · exact ins_old ((ih' x).2 h)
          · exact ins_new fun a ha => hno a ((ih' a).1 ha).mem
  exact key cs.length cs rfl x
/-- what rises and has the same ones is the same -/
theorem up_ext : ∀ {l m : List Rc.S}, Up l → Up m → (∀ x, x ∈ l ↔ x ∈ m) → l = m
  | [], [], _, _, _ => rfl
  | [], b :: m, _, _, h => by have := (h b).2 List.mem_cons_self; cases this
  | a :: l, [], _, _, h => by have := (h a).1 List.mem_cons_self; cases this
  | a :: l, b :: m, hl, hm, h => by
    obtain ⟨h1, h2⟩ := List.pairwise_cons.1 hl
    obtain ⟨h3, h4⟩ := List.pairwise_cons.1 hm
    have e : a = b := by
      have ha := (h a).1 List.mem_cons_self
      have hb := (h b).2 List.mem_cons_self
      rcases List.mem_cons.1 ha with rfl | ha'
      · rfl
      · rcases List.mem_cons.1 hb with rfl | hb'
        · rfl
        · have := h1 b hb'; have := h3 a ha'; omega
    subst e
    congr 1
    refine up_ext h2 h4 fun x => ⟨fun hx => ?_, fun hx => ?_⟩
    · rcases List.mem_cons.1 ((h x).1 (List.mem_cons_of_mem _ hx)) with rfl | h'
      · have := h1 x hx; omega
      · exact h'
    · rcases List.mem_cons.1 ((h x).2 (List.mem_cons_of_mem _ hx)) with rfl | h'
      · have := h3 x hx; omega
      · exact h'
/-- where all have one number, the first alone is told -/
theorem all_one {cs : List Rc.S} {n : Int} (h : ∀ s ∈ cs, s.number = n) : all cs = cs.take 1 := by
  cases cs with
  | nil => rfl
  | cons a cs =>
    refine up_ext (all_up _) (List.pairwise_singleton _ _) fun x => ?_
    rw [mem_all]
    show _ ↔ x ∈ [a]
    rw [List.mem_singleton]
    constructor
    · rintro ⟨i, hi, e, hk⟩
      rcases Nat.eq_zero_or_pos i with h0 | h0
      · subst h0; exact e.symm
      · have h1 := hk 0 h0
        have h2 := h a List.mem_cons_self
        have h3 : x.number = n := by rw [← e]; exact h _ (List.getElem_mem hi)
        exact absurd (h2.trans h3.symm) h1
    · rintro rfl
      exact ⟨0, by simp, rfl, fun k hk => absurd hk (by omega)⟩
/-- the first that has the label -/
def of (l : List Rc.S) (label : Int) : Option Rc.S := l.find? fun s => decide (label ∈ s.labels)
/-- what a tape needs to end with a seal -/
theorem sealed_some {t : St.T} {s : Rc.S} (hl : t.lost = false) (hs : Rc.SOk s) {pre : List Tx} (hb : t.blocks = pre ++ [Fm.blk ⟨5, t.label, (pre.length : Int), Rc.sblk s⟩]) (h1 : 1 ≤ t.label ∧ t.label ≤ 2147483647) (h2 : (pre.length : Int) ≤ 2147483647) : sealed t = some s := by
  have hok : Fm.Ok ⟨5, t.label, (pre.length : Int), Rc.sblk s⟩ := by
    refine ⟨⟨(by decide : (1 : Int) ≤ 5), (by decide : (5 : Int) ≤ 6), h1.1, h1.2, Int.natCast_nonneg _, h2⟩, ?_⟩
    show (Rc.sblk s).length ≤ Fm.room 5
    rw [Rc.sblk_len]
    have := hs.few
    show _ ≤ 64
    omega
  have hlen : t.blocks.length - 1 = pre.length := by rw [hb]; simp
  have hg : Vo.good (vo t) pre.length = some ⟨5, t.label, (pre.length : Int), Rc.sblk s⟩ :=
    Vo.good_at (t := vo t) (n := pre.length) hl (by show t.blocks[pre.length]? = _; rw [hb, List.getElem?_append_right (Nat.le_refl _), Nat.sub_self]; rfl) hok rfl rfl
  unfold sealed
  rw [hlen, hg]
  show (if (5 : Int) = 5 ∧ Rc.SGood (Rc.sblk s) then some (Rc.sparse (Rc.sblk s)) else none) = some s
  rw [if_pos ⟨rfl, Rc.sgood_blk hs⟩, Rc.sparse_sblk hs]
theorem sealed_lost {t : St.T} (h : t.lost = true) : sealed t = none := by
  unfold sealed; rw [Vo.good_lost (t := vo t) h]
theorem sealed_bad {t : St.T} (h : Vo.good (vo t) (t.blocks.length - 1) = none) : sealed t = none := by
  unfold sealed; rw [h]
theorem sealed_kind {t : St.T} {u : Fm.U} (h : Vo.good (vo t) (t.blocks.length - 1) = some u) (hk : u.kind ≠ 5) : sealed t = none := by
  unfold sealed; rw [h]; exact if_neg fun h => hk h.1
theorem sealed_ok {t : St.T} {s : Rc.S} (h : sealed t = some s) : Rc.SOk s := by
  unfold sealed at h
  split at h
  · cases h
  · split at h
    · rename_i u _ hu
      cases h
      exact hu.2.1
    · cases h
theorem cand_some {t : St.T} {s : Rc.S} (h : sealed t = some s) (hl : s.labels.getD s.index.toNat 0 = t.label) : cand t = some s := by
  unfold cand; rw [h]; exact if_pos hl
theorem cand_none {t : St.T} (h : sealed t = none) : cand t = none := by unfold cand; rw [h]
theorem cand_ok {t : St.T} {s : Rc.S} (h : cand t = some s) : Rc.SOk s := by
  unfold cand at h
  split at h
  · cases h
  · rename_i s' hs
    split at h
    · cases h; exact sealed_ok hs
    · cases h
/-- the seal of a group, of its member number i -/
def sealOf (data blank : List St.T) (number : Int) (i : Nat) : Rc.S := ⟨number, (i : Int), (data.length : Int), (blank.length : Int), (data ++ blank).map St.T.label⟩
/-- block n of a tape is not good -/
def Bad (data : List St.T) : Prop := St.len data = 0 ∨ ∃ t ∈ data, ∃ n, n < t.blocks.length ∧ Vo.good (vo t) n = none
def Lost (l : List St.T) : Prop := ∃ t ∈ l, t.lost = true
open Classical in
/-- why no parity tapes are made, or 0 -/
noncomputable def err (data blank : List St.T) (number : Int) : Int :=
  if ¬ Rc.SOk (sealOf data blank number 0) ∨ Lost (data ++ blank) ∨ Bad data then 1
  else if ∃ t ∈ blank, t.blocks ≠ [] then 11
  else if ∃ t ∈ blank, t.cap < (St.len data : Int) + 2 then 6
  else St.err data (blank.length : Int)
theorem sealOk_index {data blank : List St.T} {number : Int} {i : Nat} (h : Rc.SOk (sealOf data blank number 0)) (hi : i < data.length + blank.length) : Rc.SOk (sealOf data blank number i) := by
  obtain ⟨⟨h1, h2, h3, h4, h5, _, _⟩, h8⟩ := h
  refine ⟨⟨h1, h2, h3, h4, h5, Int.natCast_nonneg _, ?_⟩, h8⟩
  show (i : Int) < (((data ++ blank).map St.T.label).length : Int)
  rw [List.length_map, List.length_append]; omega
end Go.Proofs.YtndofmoepjfnfaaDoor.Gr
namespace Go.Proofs.YtndofmoepjfnfaaDoor.So
variable {α β : Type}
/-- behind all that are not greater -/
def insR (f : α → Int) (x : α) : List α → List α
  | [] => [x]
  | a :: l => if f a ≤ f x then a :: insR f x l else x :: a :: l
def isort (f : α → Int) (l : List α) : List α := l.foldl (fun acc x => insR f x acc) []
def Asc (f : α → Int) (l : List α) : Prop := l.Pairwise fun a b => f a ≤ f b
theorem isort_snoc (f : α → Int) (l : List α) (x : α) : isort f (l ++ [x]) = insR f x (isort f l) := by unfold isort; rw [List.foldl_append]; rfl
theorem mem_insR {f : α → Int} {x y : α} : ∀ {l : List α}, y ∈ insR f x l ↔ y = x ∨ y ∈ l
  | [] => by simp [insR]
  | a :: l => by
    rw [insR]
    split
    · rw [List.mem_cons, mem_insR, List.mem_cons]
      constructor
      · rintro (h | h | h)
        · exact .inr (.inl h)
        · exact .inl h
        · exact .inr (.inr h)
      · rintro (h | h | h)
        · exact .inr (.inl h)
        · exact .inl h
        · exact .inr (.inr h)
    · rw [List.mem_cons]
theorem insR_len {f : α → Int} {x : α} : ∀ {l : List α}, (insR f x l).length = l.length + 1
  | [] => rfl
  | a :: l => by
    rw [insR]
    split
    · rw [List.length_cons, insR_len, List.length_cons]
    · rfl
theorem isort_len (f : α → Int) (l : List α) : (isort f l).length = l.length := by
  have key : ∀ (l acc : List α), (l.foldl (fun acc x => insR f x acc) acc).length = acc.length + l.length := by
    intro l
    induction l with
    | nil => intro acc; rfl
    | cons x l ih => intro acc; rw [List.foldl_cons, ih, insR_len, List.length_cons]; omega
  rw [isort, key]; simp
theorem mem_isort {f : α → Int} {l : List α} {y : α} : y ∈ isort f l ↔ y ∈ l := by
  have key : ∀ (l acc : List α), y ∈ l.foldl (fun acc x => insR f x acc) acc ↔ y ∈ acc ∨ y ∈ l := by
    intro l
    induction l with
    | nil => intro acc; simp
    | cons x l ih =>
      intro acc
      rw [List.foldl_cons, ih, mem_insR, List.mem_cons]
      constructor
      · rintro ((h | h) | h)
        · exact .inr (.inl h)
        · exact .inl h
        · exact .inr (.inr h)
      · rintro (h | h | h)
        · exact .inl (.inr h)
        · exact .inl (.inl h)
        · exact .inr h
  rw [isort, key]; simp
theorem insR_asc {f : α → Int} {x : α} : ∀ {l : List α}, Asc f l → Asc f (insR f x l)
  | [], _ => List.pairwise_singleton _ _
  | a :: l, h => by
    obtain ⟨h1, h2⟩ := List.pairwise_cons.1 h
    rw [insR]
    split
    · refine List.pairwise_cons.2 ⟨fun b hb => ?_, insR_asc h2⟩
      rcases mem_insR.1 hb with rfl | hb
      · assumption
      · exact h1 b hb
    · refine List.pairwise_cons.2 ⟨fun b hb => ?_, h⟩
      rcases List.mem_cons.1 hb with rfl | hb
      · omega
      · have := h1 b hb; omega
theorem isort_asc (f : α → Int) (l : List α) : Asc f (isort f l) := by
  have key : ∀ (l acc : List α), Asc f acc → Asc f (l.foldl (fun acc x => insR f x acc) acc) := by
    intro l
    induction l with
    | nil => intro acc h; exact h
    | cons x l ih => intro acc h; exact ih _ (insR_asc h)
  exact key l [] List.Pairwise.nil
/-- the place is told by what stands ahead of it and behind -/
theorem insR_at {f : α → Int} {x : α} : ∀ {l : List α} {j : Nat}, (∀ a ∈ l.take j, f a ≤ f x) → (∀ a ∈ l.drop j, f x < f a) → insR f x l = l.take j ++ x :: l.drop j
  | [], j, _, _ => by simp [insR]
  | a :: l, 0, _, h2 => by
    have := h2 a (by simp)
    rw [insR, if_neg (by omega)]; rfl
  | a :: l, j + 1, h1, h2 => by
    have := h1 a (by simp)
    rw [insR, if_pos this, insR_at (j := j) (fun b hb => h1 b (by rw [List.take_succ_cons]; exact List.mem_cons_of_mem _ hb)) (fun b hb => h2 b (by simpa using hb))]
    rfl
/-- in what rises all ahead of one that is not greater are not -/
theorem asc_take {f : α → Int} {l : List α} (h : Asc f l) {j : Nat} (hj : j < l.length) {x : α} (hx : f l[j] ≤ f x) : ∀ a ∈ l.take (j + 1), f a ≤ f x := by
  intro a ha
  obtain ⟨i, hi, rfl⟩ := List.mem_iff_getElem.1 ha
  rw [List.length_take] at hi
  rw [List.getElem_take]
  rcases Nat.lt_or_ge i j with h' | h'
  · have := List.pairwise_iff_getElem.1 h i j (by omega) hj h'; omega
  · have e : i = j := by omega
    subst e; exact hx
/-- each whose number is not that of the one ahead of it -/
def comp (f : α → Int) : Int → List α → List α
  | _, [] => []
  | p, a :: l => if f a = p then comp f (f a) l else a :: comp f (f a) l
def compact (f : α → Int) : List α → List α
  | [] => []
  | a :: l => a :: comp f (f a) l
/-- one is put in, if none has its number -/
def insU (f : α → Int) (x : α) : List α → List α
  | [] => [x]
  | a :: l => if f a < f x then a :: insU f x l else if f a = f x then a :: l else x :: a :: l
theorem comp_insR_same {f : α → Int} {x : α} : ∀ {l : List α}, (∀ a ∈ l, f x ≤ f a) → comp f (f x) (insR f x l) = comp f (f x) l
  | [], _ => by simp [insR, comp]
  | a :: l, h => by
    have h1 := h a List.mem_cons_self
    have h2 : ∀ b ∈ l, f x ≤ f b := fun b hb => h b (List.mem_cons_of_mem _ hb)
    rw [insR]
    split
    · have e : f a = f x := by omega
      rw [comp, if_pos e, comp, if_pos e, e, comp_insR_same h2]
    · rw [comp, if_pos rfl]
theorem comp_insR_more {f : α → Int} {x : α} : ∀ {l : List α} {p : Int}, p < f x → Asc f l → (∀ a ∈ l, p ≤ f a) → comp f p (insR f x l) = insU f x (comp f p l)
  | [], p, hp, _, _ => by simp [insR, comp, insU, show ¬ f x = p by omega]
  | a :: l, p, hp, hA, h => by
    obtain ⟨hA1, hA2⟩ := List.pairwise_cons.1 hA
    have h1 := h a List.mem_cons_self
    rw [insR]
    split
    · rename_i hle
      by_cases e : f a = p
      · rw [comp, if_pos e, comp, if_pos e, e]
        exact comp_insR_more hp hA2 fun b hb => h b (List.mem_cons_of_mem _ hb)
      · rw [comp, if_neg e, comp, if_neg e, insU]
        by_cases e2 : f a < f x
        · rw [if_pos e2, comp_insR_more e2 hA2 hA1]
        · have e3 : f a = f x := by omega
          rw [if_neg e2, if_pos e3, e3, comp_insR_same fun b hb => by have := hA1 b hb; omega]
    · have e : ¬ f a = p := by omega
      rw [comp, if_neg (by omega), comp, if_neg (by omega), comp, if_neg e, insU, if_neg (by omega), if_neg (by omega)]
theorem compact_insR {f : α → Int} {x : α} {l : List α} (hA : Asc f l) : compact f (insR f x l) = insU f x (compact f l) := by
  cases l with
  | nil => rfl
  | cons a l =>
    obtain ⟨hA1, hA2⟩ := List.pairwise_cons.1 hA
    rw [insR, compact, insU]
    split
    · rw [compact]
      by_cases e : f a < f x
      · rw [if_pos e, comp_insR_more e hA2 hA1]
      · have e3 : f a = f x := by omega
        rw [if_neg e, if_pos e3, e3, comp_insR_same fun b hb => by have := hA1 b hb; omega]
    · rw [if_neg (by omega), if_neg (by omega), compact, comp, if_neg (by omega)]
theorem insU_map {f : α → Int} {g : α → β} {f' : β → Int} (h : ∀ a, f' (g a) = f a) (x : α) : ∀ l : List α, (insU f x l).map g = insU f' (g x) (l.map g)
  | [] => rfl
  | a :: l => by
    rw [List.map_cons, insU, insU, h, h]
    split
    · rw [List.map_cons, insU_map h]
    · split <;> rfl
theorem insU_is (s : Rc.S) : ∀ l : List Rc.S, insU Rc.S.number s l = Gr.ins s l
  | [] => rfl
  | a :: l => by rw [insU, Gr.ins, insU_is s l]
/-- what a stable sort and a compaction make of the seals of these -/
theorem all_is {f : α → Int} {g : α → Rc.S} (h : ∀ a, (g a).number = f a) (l : List α) : (compact f (isort f l)).map g = Gr.all (l.map g) := by
  have key : ∀ n (l : List α), l.length = n → (compact f (isort f l)).map g = Gr.all (l.map g) := by
    intro n
    induction n with
    | zero => intro l hl; rw [List.length_eq_zero_iff.1 hl]; rfl
    | succ n ih =>
      intro l hl
      obtain ⟨l', x, rfl⟩ : ∃ l' x, l = l' ++ [x] := ⟨l.dropLast, l.getLast (by intro e; rw [e] at hl; cases hl), (List.dropLast_concat_getLast _).symm⟩
      rw [isort_snoc, compact_insR (isort_asc f l'), insU_map h, ih l' (by simpa using hl), insU_is, List.map_append]
      exact (Gr.all_snoc _ _).symm
  exact key l.length l rfl
/-- the last number -/
def lk (f : α → Int) : Int → List α → Int
  | p, [] => p
  | _, a :: l => lk f (f a) l
theorem comp_snoc {f : α → Int} {x : α} : ∀ {l : List α} {p : Int}, comp f p (l ++ [x]) = comp f p l ++ (if f x = lk f p l then [] else [x])
  | [], p => by
    rw [List.nil_append, comp, comp, comp, lk]
    split <;> rfl
  | a :: l, p => by
    rw [List.cons_append, comp, comp, lk]
    split
    · rw [comp_snoc]
    · rw [comp_snoc]; rfl
theorem lk_last {f : α → Int} : ∀ {l : List α} {p : Int} {j : Nat} (_ : j + 1 = l.length) (hj : j < l.length), lk f p l = f l[j]
  | [], _, j, h, _ => by cases h
  | [a], _, j, h, _ => by
    have e : j = 0 := by simpa using h
    subst e; rfl
  | a :: b :: l, _, j, h, hj => by
    obtain ⟨j, rfl⟩ : ∃ i, j = i + 1 := ⟨j - 1, by simp at h; omega⟩
    rw [lk]
    exact lk_last (by simpa using h) (by simpa using hj)
/-- one more is looked at -/
theorem compact_take {f : α → Int} {l : List α} {k : Nat} (hk : k + 1 < l.length) : compact f (l.take (k + 1 + 1)) = compact f (l.take (k + 1)) ++ (if f l[k + 1] = f l[k] then [] else [l[k + 1]]) := by
  rw [List.take_succ_eq_append_getElem hk]
  cases l with
  | nil => simp at hk
  | cons a m =>
    rw [List.take_succ_cons, List.cons_append, compact, compact, comp_snoc, List.cons_append]
    have e : lk f (f a) (m.take k) = f ((a :: m)[k]'(by omega)) := by
      cases k with
      | zero => rfl
      | succ k =>
        have hk' : k < m.length := by simpa using (show k + 1 < (a :: m).length by omega)
        have h1 : k + 1 = (m.take (k + 1)).length := by rw [List.length_take]; omega
        rw [lk_last (p := f a) h1 (by omega), List.getElem_take]; rfl
    rw [e]
theorem compact_one {f : α → Int} {l : List α} (h : 0 < l.length) : compact f (l.take 1) = l.take 1 := by
  cases l with
  | nil => simp at h
  | cons a m => rfl
theorem compact_all {f : α → Int} {l : List α} {k : Nat} (h : l.length ≤ k) : compact f (l.take k) = compact f l := by rw [List.take_of_length_le h]
theorem compact_le (f : α → Int) (l : List α) : (compact f l).length ≤ l.length := by
  have key : ∀ (l : List α) p, (comp f p l).length ≤ l.length := by
    intro l
    induction l with
    | nil => intro p; exact Nat.le_refl _
    | cons a l ih =>
      intro p
      rw [comp]
      have := ih (f a)
      split
      · rw [List.length_cons]; omega
      · rw [List.length_cons, List.length_cons]; omega
  cases l with
  | nil => exact Nat.le_refl _
  | cons a l => rw [compact, List.length_cons, List.length_cons]; have := key l (f a); omega
theorem mem_compact {f : α → Int} {l : List α} {x : α} (h : x ∈ compact f l) : x ∈ l := by
  have key : ∀ (l : List α) p, x ∈ comp f p l → x ∈ l := by
    intro l
    induction l with
    | nil => intro p h; exact h
    | cons a l ih =>
      intro p h
      rw [comp] at h
      split at h
      · exact List.mem_cons_of_mem _ (ih _ h)
      · rcases List.mem_cons.1 h with rfl | h
        · exact List.mem_cons_self
        · exact List.mem_cons_of_mem _ (ih _ h)
  cases l with
  | nil => exact h
  | cons a l =>
    rw [compact] at h
    rcases List.mem_cons.1 h with rfl | h
    · exact List.mem_cons_self
    · exact List.mem_cons_of_mem _ (key _ _ h)
end Go.Proofs.YtndofmoepjfnfaaDoor.So
