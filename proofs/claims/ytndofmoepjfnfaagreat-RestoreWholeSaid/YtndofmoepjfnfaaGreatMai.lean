/- Chapter 14's groups as lists: which seal a tape ends with, which groups tapes tell of, which has a label, which parity tapes are made. No program. Chapter 20's rooms: how many blocks a tape has left. No program. -/
import Derived.Test.YtndofmoepjfnfaaGreatMaf
import Derived.Test.YtndofmoepjfnfaaGreatMae
import Derived.Test.YtndofmoepjfnfaaGreatMah
namespace Go.Proofs.YtndofmoepjfnfaaGreat.Gr
open Pt (Tx)

/-- a tape, without how many blocks fit -/
def vo (t : St.T) : Vo.T := ⟨t.label, t.blocks, t.lost⟩
/-- the seal that a tape ends with -/
def sealed (t : St.T) : Option Rc.S :=
  match Vo.good (vo t) (t.blocks.length - 1) with
  | none => none
  | some u => if u.kind = 5 ∧ Rc.SGood u.load then some (Rc.sparse u.load) else none
/-- .. if the tape has the label that stands at its index -/
def cand (t : St.T) : Option Rc.S :=
  match sealed t with
  | none => none
  | some s => if s.labels.getD s.index.toNat 0 = t.label then some s else none
/-- a seal among those that rise by number, if none has its number -/
def ins (s : Rc.S) : List Rc.S → List Rc.S
  | [] => [s]
  | a :: l => if a.number < s.number then a :: ins s l else if a.number = s.number then a :: l else s :: a :: l
def all (cs : List Rc.S) : List Rc.S := cs.foldl (fun out s => ins s out) []
def cands (l : List St.T) : List Rc.S := l.filterMap cand
def find (l : List St.T) : List Rc.S := all (cands l)
theorem all_snoc (cs : List Rc.S) (s : Rc.S) : all (cs ++ [s]) = ins s (all cs) := by unfold all; rw [List.foldl_append]; rfl
theorem cands_snoc (l : List St.T) (t : St.T) : cands (l ++ [t]) = cands l ++ (match cand t with | none => [] | some s => [s]) := by
  unfold cands
  rw [List.filterMap_append]
  congr 1
  cases h : cand t <;> simp [h]
theorem find_none {l : List St.T} {t : St.T} (h : cand t = none) : find (l ++ [t]) = find l := by
  unfold find; rw [cands_snoc, h, List.append_nil]
theorem find_some {l : List St.T} {t : St.T} {s : Rc.S} (h : cand t = some s) : find (l ++ [t]) = ins s (find l) := by
  unfold find; rw [cands_snoc, h, all_snoc]
/-- they rise, each number once -/
def Up (l : List Rc.S) : Prop := l.Pairwise fun a b => a.number < b.number
theorem mem_ins {s x : Rc.S} : ∀ {l : List Rc.S}, x ∈ ins s l → x = s ∨ x ∈ l
  | [], h => by rw [ins] at h; exact .inl (List.mem_singleton.1 h)
  | a :: l, h => by
    rw [ins] at h
    split at h
    · rcases List.mem_cons.1 h with rfl | h
      · exact .inr List.mem_cons_self
      · exact (mem_ins h).imp id (List.mem_cons_of_mem _)
    · split at h
      · exact .inr h
      · rcases List.mem_cons.1 h with rfl | h
        · exact .inl rfl
        · exact .inr h
theorem ins_old {s x : Rc.S} : ∀ {l : List Rc.S}, x ∈ l → x ∈ ins s l
  | [], h => by cases h
  | a :: l, h => by
    rw [ins]
    split
    · rcases List.mem_cons.1 h with rfl | h
      · exact List.mem_cons_self
      · exact List.mem_cons_of_mem _ (ins_old h)
    · split
      · exact h
      · exact List.mem_cons_of_mem _ h
theorem ins_new {s : Rc.S} : ∀ {l : List Rc.S}, (∀ a ∈ l, a.number ≠ s.number) → s ∈ ins s l
  | [], _ => List.mem_singleton.2 rfl
  | a :: l, h => by
    rw [ins]
    split
    · exact List.mem_cons_of_mem _ (ins_new fun b hb => h b (List.mem_cons_of_mem _ hb))
    · rw [if_neg (h a List.mem_cons_self)]; exact List.mem_cons_self
theorem ins_up {s : Rc.S} : ∀ {l : List Rc.S}, Up l → Up (ins s l)
  | [], _ => List.pairwise_singleton _ _
  | a :: l, h => by
    obtain ⟨h1, h2⟩ := List.pairwise_cons.1 h
    rw [ins]
    split
    · refine List.pairwise_cons.2 ⟨fun b hb => ?_, ins_up h2⟩
      rcases mem_ins hb with rfl | hb
      · assumption
      · exact h1 b hb
    · split
      · exact h
      · refine List.pairwise_cons.2 ⟨fun b hb => ?_, h⟩
        rcases List.mem_cons.1 hb with rfl | hb
        · omega
        · have := h1 b hb; omega
/-- one with that number is there: nothing is turned -/
theorem ins_same {s : Rc.S} : ∀ {l : List Rc.S}, Up l → (∃ a ∈ l, a.number = s.number) → ins s l = l
  | [], _, h => by obtain ⟨a, ha, _⟩ := h; cases ha
  | a :: l, hu, h => by
    obtain ⟨h1, h2⟩ := List.pairwise_cons.1 hu
    rw [ins]
    split
    · rename_i hlt
      obtain ⟨b, hb, e⟩ := h
      rcases List.mem_cons.1 hb with rfl | hb
      · omega
      · rw [ins_same h2 ⟨b, hb, e⟩]
    · split
      · rfl
      · obtain ⟨b, hb, e⟩ := h
        rcases List.mem_cons.1 hb with rfl | hb
        · omega
        · have := h1 b hb; omega
theorem all_up (cs : List Rc.S) : Up (all cs) := by
  have key : ∀ (cs out : List Rc.S), Up out → Up (cs.foldl (fun out s => ins s out) out) := by
    intro cs
    induction cs with
    | nil => intro out h; exact h
    | cons s cs ih => intro out h; exact ih _ (ins_up h)
  exact key cs [] List.Pairwise.nil
theorem up_inj {l : List Rc.S} (h : Up l) {a b : Rc.S} (ha : a ∈ l) (hb : b ∈ l) (e : a.number = b.number) : a = b := by
  induction l with
  | nil => cases ha
  | cons c l ih =>
    obtain ⟨h1, h2⟩ := List.pairwise_cons.1 h
    rcases List.mem_cons.1 ha with rfl | ha' <;> rcases List.mem_cons.1 hb with rfl | hb'
    · rfl
    · have := h1 b hb'; omega
    · have := h1 a ha'; omega
    · exact ih h2 ha' hb'
/-- just the first of each number is among them -/
def First (cs : List Rc.S) (x : Rc.S) : Prop := ∃ i, ∃ h : i < cs.length, cs[i] = x ∧ ∀ k (hk : k < i), cs[k].number ≠ x.number
theorem first_snoc {cs : List Rc.S} {s x : Rc.S} : First (cs ++ [s]) x ↔ First cs x ∨ (x = s ∧ ∀ a ∈ cs, a.number ≠ s.number) := by
  constructor
  · rintro ⟨i, hi, e, hk⟩
    rcases Nat.lt_or_ge i cs.length with h | h
    · rw [List.getElem_append_left h] at e
      refine .inl ⟨i, h, e, fun k hki => ?_⟩
      have := hk k hki
      rwa [List.getElem_append_left (by omega)] at this
    · have hi' : i = cs.length := by simp at hi; omega
      subst hi'
      rw [List.getElem_concat_length rfl] at e
      refine .inr ⟨e.symm, fun a ha => ?_⟩
      obtain ⟨k, hk', rfl⟩ := List.mem_iff_getElem.1 ha
      have := hk k hk'
      rw [List.getElem_append_left hk', ← e] at this
      exact this
  · rintro (⟨i, h, e, hk⟩ | ⟨rfl, h⟩)
    · refine ⟨i, by simp; omega, by rw [List.getElem_append_left h]; exact e, fun k hki => ?_⟩
      rw [List.getElem_append_left (by omega)]
      exact hk k hki
    · refine ⟨cs.length, by simp, by rw [List.getElem_concat_length rfl], fun k hki => ?_⟩
      rw [List.getElem_append_left hki]
      exact h _ (List.getElem_mem hki)
theorem first_of {cs : List Rc.S} {a : Rc.S} (h : a ∈ cs) : ∃ x, First cs x ∧ x.number = a.number := by
  have key : ∀ n, ∀ i (hi : i < cs.length), i < n → ∃ x, First cs x ∧ x.number = cs[i].number := by
    intro n
    induction n with
    | zero => intro i _ h; omega
    | succ n ih =>
      intro i hi hin
      by_cases hx : ∀ k (hk : k < i), cs[k].number ≠ cs[i].number
      · exact ⟨cs[i], ⟨i, hi, rfl, hx⟩, rfl⟩
      · rw [Classical.not_forall] at hx
        obtain ⟨k, hk⟩ := hx
        rw [Classical.not_forall] at hk
        obtain ⟨hki, he⟩ := hk
        obtain ⟨x, h1, h2⟩ := ih k (by omega) (by omega)
        exact ⟨x, h1, h2.trans (Classical.not_not.1 he)⟩
  obtain ⟨i, hi, rfl⟩ := List.mem_iff_getElem.1 h
  exact key (i + 1) i hi (Nat.lt_succ_self i)
theorem First.mem {cs : List Rc.S} {x : Rc.S} (h : First cs x) : x ∈ cs := by
  obtain ⟨i, hi, rfl, _⟩ := h
  exact List.getElem_mem hi
theorem mem_all (cs : List Rc.S) (x : Rc.S) : x ∈ all cs ↔ First cs x := by
  have key : ∀ n (cs : List Rc.S), cs.length = n → ∀ x, x ∈ all cs ↔ First cs x := by
    intro n
    induction n with
    | zero =>
      intro cs h x
      rw [List.length_eq_zero_iff.1 h]
      exact ⟨(fun h => by cases h), fun ⟨i, hi, _⟩ => absurd hi (by simp)⟩
    | succ n ih =>
      intro cs h x
      obtain ⟨cs', s, rfl⟩ : ∃ cs' s, cs = cs' ++ [s] := by
        refine ⟨cs.dropLast, cs.getLast (by intro e; rw [e] at h; cases h), (List.dropLast_concat_getLast _).symm⟩
      have ih' := ih cs' (by simpa using h)
      rw [all_snoc, first_snoc]
      by_cases hs : ∃ a ∈ all cs', a.number = s.number
      · rw [ins_same (all_up cs') hs, ih' x]
        refine ⟨.inl, fun h => h.elim id fun ⟨_, h⟩ => ?_⟩
        obtain ⟨a, ha, e⟩ := hs
        exact absurd e (h a ((ih' a).1 ha).mem)
      · have hno : ∀ a ∈ cs', a.number ≠ s.number := fun a ha e => by
          obtain ⟨y, h1, h2⟩ := first_of ha
          exact hs ⟨y, (ih' y).2 h1, h2.trans e⟩
        constructor
        · intro h
          rcases mem_ins h with rfl | h
          · exact .inr ⟨rfl, hno⟩
          · exact .inl ((ih' x).1 h)
        · rintro (h | ⟨rfl, _⟩)
          · exact ins_old ((ih' x).2 h)
          · exact ins_new fun a ha => hno a ((ih' a).1 ha).mem
  exact key cs.length cs rfl x
/-- what rises and has the same ones is the same -/
theorem up_ext : ∀ {l m : List Rc.S}, Up l → Up m → (∀ x, x ∈ l ↔ x ∈ m) → l = m
  | [], [], _, _, _ => rfl
  | [], b :: m, _, _, h => by have := (h b).2 List.mem_cons_self; cases this
  | a :: l, [], _, _, h => by have := (h a).1 List.mem_cons_self; cases this
  | a :: l, b :: m, hl, hm, h => by
    obtain ⟨h1, h2⟩ := List.pairwise_cons.1 hl
    obtain ⟨h3, h4⟩ := List.pairwise_cons.1 hm
    have e : a = b := by
      have ha := (h a).1 List.mem_cons_self
      have hb := (h b).2 List.mem_cons_self
      rcases List.mem_cons.1 ha with rfl | ha'
      · rfl
      · rcases List.mem_cons.1 hb with rfl | hb'
        · rfl
        · have := h1 b hb'; have := h3 a ha'; omega
    subst e
    congr 1
    refine up_ext h2 h4 fun x => ⟨fun hx => ?_, fun hx => ?_⟩
    · rcases List.mem_cons.1 ((h x).1 (List.mem_cons_of_mem _ hx)) with rfl | h'
      · have := h1 x hx; omega
      · exact h'
    · rcases List.mem_cons.1 ((h x).2 (List.mem_cons_of_mem _ hx)) with rfl | h'
      · have := h3 x hx; omega
      · exact h'
/-- where all have one number, the first alone is told -/
theorem all_one {cs : List Rc.S} {n : Int} (h : ∀ s ∈ cs, s.number = n) : all cs = cs.take 1 := by
  cases cs with
  | nil => rfl
  | cons a cs =>
    refine up_ext (all_up _) (List.pairwise_singleton _ _) fun x => ?_
    rw [mem_all]
    show _ ↔ x ∈ [a]
    rw [List.mem_singleton]
    constructor
    · rintro ⟨i, hi, e, hk⟩
      rcases Nat.eq_zero_or_pos i with h0 | h0
      · subst h0; exact e.symm
      · have h1 := hk 0 h0
        have h2 := h a List.mem_cons_self
        have h3 : x.number = n := by rw [← e]; exact h _ (List.getElem_mem hi)
        exact absurd (h2.trans h3.symm) h1
    · rintro rfl
      exact ⟨0, by simp, rfl, fun k hk => absurd hk (by omega)⟩
/-- the first that has the label -/
def of (l : List Rc.S) (label : Int) : Option Rc.S := l.find? fun s => decide (label ∈ s.labels)
/-- what a tape needs to end with a seal -/
theorem sealed_some {t : St.T} {s : Rc.S} (hl : t.lost = false) (hs : Rc.SOk s) {pre : List Tx} (hb : t.blocks = pre ++ [Fm.blk ⟨5, t.label, (pre.length : Int), Rc.sblk s⟩]) (h1 : 1 ≤ t.label ∧ t.label ≤ 2147483647) (h2 : (pre.length : Int) ≤ 2147483647) : sealed t = some s := by
  have hok : Fm.Ok ⟨5, t.label, (pre.length : Int), Rc.sblk s⟩ := by
    refine ⟨⟨(by decide : (1 : Int) ≤ 5), (by decide : (5 : Int) ≤ 6), h1.1, h1.2, Int.natCast_nonneg _, h2⟩, ?_⟩
    show (Rc.sblk s).length ≤ Fm.room 5
    rw [Rc.sblk_len]
    have := hs.few
    show _ ≤ 64
    omega
  have hlen : t.blocks.length - 1 = pre.length := by rw [hb]; simp
  have hg : Vo.good (vo t) pre.length = some ⟨5, t.label, (pre.length : Int), Rc.sblk s⟩ :=
    Vo.good_at (t := vo t) (n := pre.length) hl (by show t.blocks[pre.length]? = _; rw [hb, List.getElem?_append_right (Nat.le_refl _), Nat.sub_self]; rfl) hok rfl rfl
  unfold sealed
  rw [hlen, hg]
  show (if (5 : Int) = 5 ∧ Rc.SGood (Rc.sblk s) then some (Rc.sparse (Rc.sblk s)) else none) = some s
  rw [if_pos ⟨rfl, Rc.sgood_blk hs⟩, Rc.sparse_sblk hs]
theorem sealed_lost {t : St.T} (h : t.lost = true) : sealed t = none := by
  unfold sealed; rw [Vo.good_lost (t := vo t) h]
theorem sealed_bad {t : St.T} (h : Vo.good (vo t) (t.blocks.length - 1) = none) : sealed t = none := by
  unfold sealed; rw [h]
theorem sealed_kind {t : St.T} {u : Fm.U} (h : Vo.good (vo t) (t.blocks.length - 1) = some u) (hk : u.kind ≠ 5) : sealed t = none := by
  unfold sealed; rw [h]; exact if_neg fun h => hk h.1
theorem sealed_ok {t : St.T} {s : Rc.S} (h : sealed t = some s) : Rc.SOk s := by
  unfold sealed at h
  split at h
  · cases h
  · split at h
    · rename_i u _ hu
      cases h
      exact hu.2.1
    · cases h
theorem cand_some {t : St.T} {s : Rc.S} (h : sealed t = some s) (hl : s.labels.getD s.index.toNat 0 = t.label) : cand t = some s := by
  unfold cand; rw [h]; exact if_pos hl
theorem cand_none {t : St.T} (h : sealed t = none) : cand t = none := by unfold cand; rw [h]
theorem cand_ok {t : St.T} {s : Rc.S} (h : cand t = some s) : Rc.SOk s := by
  unfold cand at h
  split at h
  · cases h
  · rename_i s' hs
    split at h
    · cases h; exact sealed_ok hs
    · cases h
/-- the seal of a group, of its member number i -/
def sealOf (data blank : List St.T) (number : Int) (i : Nat) : Rc.S := ⟨number, (i : Int), (data.length : Int), (blank.length : Int), (data ++ blank).map St.T.label⟩
/-- block n of a tape is not good -/
def Bad (data : List St.T) : Prop := St.len data = 0 ∨ ∃ t ∈ data, ∃ n, n < t.blocks.length ∧ Vo.good (vo t) n = none
def Lost (l : List St.T) : Prop := ∃ t ∈ l, t.lost = true
open Classical in
/-- why no parity tapes are made, or 0 -/
noncomputable def err (data blank : List St.T) (number : Int) : Int :=
  if ¬ Rc.SOk (sealOf data blank number 0) ∨ Lost (data ++ blank) ∨ Bad data then 1
  else if ∃ t ∈ blank, t.blocks ≠ [] then 11
  else if ∃ t ∈ blank, t.cap < (St.len data : Int) + 2 then 6
  else St.err data (blank.length : Int)
theorem sealOk_index {data blank : List St.T} {number : Int} {i : Nat} (h : Rc.SOk (sealOf data blank number 0)) (hi : i < data.length + blank.length) : Rc.SOk (sealOf data blank number i) := by
  obtain ⟨⟨h1, h2, h3, h4, h5, _, _⟩, h8⟩ := h
  refine ⟨⟨h1, h2, h3, h4, h5, Int.natCast_nonneg _, ?_⟩, h8⟩
  show (i : Int) < (((data ++ blank).map St.T.label).length : Int)
  rw [List.length_map, List.length_append]; omega
end Go.Proofs.YtndofmoepjfnfaaGreat.Gr
namespace Go.Proofs.YtndofmoepjfnfaaGreat.Wr
open Pt (Tx)

/-- how many blocks a tape has left; in_: it is a group's -/
def room (in_ : Bool) (t : St.T) : Int := if t.lost = true ∨ in_ = true then 0 else if t.blocks.length = 0 then max 0 (t.cap - 1) else
  if (Vo.good ⟨t.label, t.blocks, t.lost⟩ (t.blocks.length - 1)).isSome = true then max 0 (t.cap - (t.blocks.length : Int)) else 0
def rooms (ts : List St.T) (ss : List Rc.S) : List Int := ts.map fun t => room (Gr.of ss t.label).isSome t
theorem rooms_len (ts : List St.T) (ss : List Rc.S) : (rooms ts ss).length = ts.length := by unfold rooms; simp
theorem rooms_take {ts : List St.T} {ss : List Rc.S} {k : Nat} (h : k < ts.length) : rooms (ts.take (k + 1)) ss = rooms (ts.take k) ss ++ [room (Gr.of ss ts[k].label).isSome ts[k]] := by
  unfold rooms
  rw [List.take_succ_eq_append_getElem h, List.map_append]; rfl
/-- of blank tapes all but one block -/
theorem rooms_blank (ts : List St.T) (h : ∀ t ∈ ts, t.lost = false ∧ t.blocks = [] ∧ 1 ≤ t.cap) : rooms ts [] = ts.map fun t => t.cap - 1 := by
  unfold rooms
  refine List.map_congr_left fun t ht => ?_
  obtain ⟨h1, h2, h3⟩ := h t ht
  unfold room
  have : (Gr.of [] t.label).isSome = false := rfl
  rw [this, h1, h2, if_neg (by simp), if_pos (show ([] : List Tx).length = 0 from rfl)]
  omega
end Go.Proofs.YtndofmoepjfnfaaGreat.Wr
