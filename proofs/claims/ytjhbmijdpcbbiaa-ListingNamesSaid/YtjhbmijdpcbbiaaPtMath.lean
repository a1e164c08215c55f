/- Texts as lists of bytes: their parts, which are paths, and which lie within which. No program. -/
import Derived.Lib.SplitLaws
namespace Pt

abbrev Tx := List UInt8
/-- which bytes may stand in a part -/
def ok (c : UInt8) : Bool := (decide (97 ≤ c.toNat) && decide (c.toNat ≤ 122)) || (decide (48 ≤ c.toNat) && decide (c.toNat ≤ 57)) || decide (c.toNat = 46) || decide (c.toNat = 45) || decide (c.toNat = 95)
/-- which texts are parts -/
def part (p : Tx) : Bool := !(p == []) && !(p == [46]) && !(p == [46, 46]) && p.all ok
/-- what is behind p, cut at each sign -/
def cutW (p : Tx) : Tx → List Tx
  | [] => [p]
  | c :: l => if c = 47 then p :: cutW [] l else cutW (p ++ [c]) l
def cut (s : Tx) : List Tx := cutW [] s
def right (s : Tx) : Bool := decide (1 ≤ s.length) && decide (s.length ≤ 24) && (cut s).all part
def parts (s : Tx) : List Tx := if right s = true then cut s else []
def within (s d : Tx) : Bool := right s && right d && (s == d || (d ++ [47]).isPrefixOf s)
/-- parts with a sign between -/
def join : List Tx → Tx
  | [] => []
  | [p] => p
  | p :: q :: r => p ++ 47 :: join (q :: r)

theorem ok_sep : ok 47 = false := by decide
/-- a head with more ahead of it -/
def pre (v : Tx) : List Tx → List Tx
  | [] => [v]
  | p :: r => (v ++ p) :: r
theorem cutW_pre (v : Tx) : ∀ (l p : Tx), cutW (v ++ p) l = pre v (cutW p l)
  | [], p => rfl
  | c :: l, p => by
    unfold cutW
    by_cases h : c = 47
    · rw [if_pos h, if_pos h]; rfl
    · rw [if_neg h, if_neg h, List.append_assoc, cutW_pre v l]
theorem cutW_ne : ∀ (l p : Tx), cutW p l ≠ []
  | [], p => by simp [cutW]
  | c :: l, p => by
    unfold cutW
    split
    · simp
    · exact cutW_ne l _
theorem cut_ne (s : Tx) : cut s ≠ [] := cutW_ne s []
theorem cut_len (s : Tx) : 0 < (cut s).length := List.length_pos_iff.2 (cut_ne s)
theorem right_iff {s : Tx} : right s = true ↔ 1 ≤ s.length ∧ s.length ≤ 24 ∧ (cut s).all part = true := by
  unfold right
  simp only [Bool.and_eq_true, decide_eq_true_eq, and_assoc]
theorem right_false_of {s : Tx} (h : (cut s).all part = false) : right s = false := by
  cases e : right s with
  | false => rfl
  | true => rw [right_iff] at e; rw [e.2.2] at h; cases h
theorem parts_right {s : Tx} (h : right s = true) : parts s = cut s := if_pos h
theorem parts_wrong {s : Tx} (h : right s = false) : parts s = [] := if_neg (by rw [h]; simp)
theorem parts_len {s : Tx} : (0 < (parts s).length) ↔ right s = true := by
  unfold parts
  by_cases h : right s = true
  · rw [if_pos h]; exact ⟨fun _ => h, fun _ => cut_len s⟩
  · rw [if_neg h]; simp [h]
/-- a byte that may not be -/
theorem all_bad : ∀ (l p : Tx), p.all ok = false → (cutW p l).all part = false
  | [], p, h => by
    simp only [cutW, List.all_cons, List.all_nil, Bool.and_true]
    unfold part; rw [h]; simp
  | c :: l, p, h => by
    unfold cutW
    by_cases e : c = 47
    · rw [if_pos e, List.all_cons]
      have : part p = false := by unfold part; rw [h]; simp
      rw [this]; rfl
    · rw [if_neg e]
      exact all_bad l _ (by rw [List.all_append, h]; rfl)
theorem all_append_bad {a b : List Tx} (h : b.all part = false) : (a ++ b).all part = false := by rw [List.all_append, h]; simp

/- what strings.Split makes -/
open Go.Lib in
theorem index_cons (b : UInt8) (l : Tx) (h : b ≠ 47) : index (b :: l) [47] = if index l [47] == -1 then -1 else index l [47] + 1 := by
  have hp : ([47] : List UInt8).isPrefixOf (b :: l) = false := by simp [List.isPrefixOf, Ne.symm h]
  rw [index, hp]; simp
open Go.Lib in
theorem splitK_cons (b : UInt8) (l : Tx) (h : b ≠ 47) : ∀ k, splitK [47] 0 k (b :: l) = pre [b] (splitK [47] 0 k l)
  | 0 => rfl
  | k + 1 => by
    have hi := index_cons b l h
    unfold splitK
    by_cases e : (index l [47] == -1) = true
    · rw [hi, if_pos e, if_pos (by rfl), if_pos e]
      rfl
    · have hge := index_ge l [47]
      have hne : ¬ index l [47] = -1 := fun x => e (beq_iff_eq.2 x)
      obtain ⟨j, hj⟩ : ∃ j : Nat, index l [47] = j := ⟨(index l [47]).toNat, by omega⟩
      have e2 : ¬ ((((j : Int) + 1) == -1) = true) := fun x => by have := beq_iff_eq.1 x; omega
      have e3 : (((j : Int) + 1)).toNat = j + 1 := by omega
      rw [hi, if_neg e, if_neg (by rw [hj]; exact e2), if_neg e, hj, e3, Int.toNat_natCast]
      simp [pre]
open Go.Lib in
theorem split_cut : ∀ s : Tx, splitK [47] 0 (count s [47]) s = cut s
  | [] => by
    rw [count_miss (by simp [index])]; rfl
  | b :: l => by
    by_cases h : b = 47
    · subst h
      have hix : index (47 :: l) [47] = ((0 : Nat) : Int) := by rw [index]; simp [List.isPrefixOf]
      rw [count_cons_eq, Nat.add_comm 1, splitK, if_neg (by rw [hix]; decide), hix]
      show [] :: splitK [47] 0 (count l [47]) l = _
      rw [split_cut l]
      unfold cut
      rw [cutW, if_pos rfl]
    · rw [count_cons_ne b 47 l h, splitK_cons b l h, split_cut l]
      unfold cut
      rw [cutW, if_neg h, show ([] : Tx) ++ [b] = [b] ++ [] from rfl, cutW_pre]

/- parts joined again -/
theorem join_cons (p : Tx) {r : List Tx} (h : r ≠ []) : join (p :: r) = p ++ 47 :: join r := by
  cases r with
  | nil => exact absurd rfl h
  | cons q r => rfl
theorem join_cutW : ∀ (l p : Tx), join (cutW p l) = p ++ l
  | [], p => by simp [cutW, join]
  | c :: l, p => by
    unfold cutW
    by_cases e : c = 47
    · rw [if_pos e, join_cons _ (cutW_ne l []), join_cutW l [], e]; rfl
    · rw [if_neg e, join_cutW l]; simp
theorem join_cut (s : Tx) : join (cut s) = s := by unfold cut; rw [join_cutW]; rfl
theorem cutW_skip : ∀ (q p : Tx) (l : Tx), (∀ c ∈ q, c ≠ 47) → cutW p (q ++ l) = cutW (p ++ q) l
  | [], p, l, _ => by simp
  | c :: q, p, l, h => by
    rw [List.cons_append, cutW, if_neg (h c (List.mem_cons_self ..)), cutW_skip q _ l (fun x hx => h x (List.mem_cons_of_mem _ hx))]
    simp
theorem cut_join : ∀ (ps : List Tx), ps ≠ [] → (∀ p ∈ ps, ∀ c ∈ p, c ≠ 47) → cut (join ps) = ps
  | [], h, _ => absurd rfl h
  | [p], _, h => by
    show cutW [] p = [p]
    have := cutW_skip p [] [] (h p (List.mem_cons_self ..))
    rw [List.append_nil] at this
    rw [this]; rfl
  | p :: q :: r, _, h => by
    rw [join_cons p (by simp)]
    show cutW [] (p ++ 47 :: join (q :: r)) = _
    rw [cutW_skip p [] _ (h p (List.mem_cons_self ..)), cutW, if_pos rfl, List.nil_append]
    show p :: cut (join (q :: r)) = _
    rw [cut_join (q :: r) (by simp) (fun x hx => h x (List.mem_cons_of_mem _ hx))]
theorem part_clean {p : Tx} (h : part p = true) : ∀ c ∈ p, c ≠ 47 := by
  unfold part at h
  simp only [Bool.and_eq_true, List.all_eq_true] at h
  intro c hc e
  have := h.2 c hc
  rw [e, ok_sep] at this
  cases this
/-- one more part behind -/
theorem join_snoc : ∀ (ps : List Tx) (p : Tx), ps ≠ [] → join (ps ++ [p]) = join ps ++ 47 :: p
  | [], _, h => absurd rfl h
  | [q], p, _ => rfl
  | q :: r :: t, p, _ => by
    rw [List.cons_append, join_cons q (by simp), join_snoc (r :: t) p (by simp), join_cons q (by simp)]
    simp
theorem join_append : ∀ (a b : List Tx), a ≠ [] → b ≠ [] → join (a ++ b) = join a ++ 47 :: join b
  | [], _, h, _ => absurd rfl h
  | [p], b, _, h => by rw [List.singleton_append, join_cons p h]; rfl
  | p :: q :: r, b, _, h => by
    rw [List.cons_append, join_cons p (by simp), join_append (q :: r) b (by simp) h, join_cons p (by simp)]
    simp
theorem take_ne {l : List Tx} {k : Nat} (h0 : 0 < k) (h : 0 < l.length) : l.take k ≠ [] := List.length_pos_iff.1 (by rw [List.length_take]; omega)
theorem drop_ne {l : List Tx} {k : Nat} (h : k < l.length) : l.drop k ≠ [] := List.length_pos_iff.1 (by rw [List.length_drop]; omega)
/-- of a path its first parts, joined -/
def upto (s : Tx) (k : Nat) : Tx := join ((cut s).take k)
theorem upto_zero (s : Tx) : upto s 0 = [] := rfl
theorem upto_all (s : Tx) : upto s (cut s).length = s := by unfold upto; rw [List.take_length, join_cut]
theorem upto_succ (s : Tx) (k : Nat) (h : k < (cut s).length) : upto s (k + 1) = (if 0 < k then upto s k ++ [47] else upto s k) ++ (cut s)[k] := by
  unfold upto
  rw [List.take_succ_eq_append_getElem h]
  by_cases e : 0 < k
  · rw [if_pos e, join_snoc _ _ (take_ne e (by omega))]
    simp
  · obtain rfl : k = 0 := by omega
    rw [if_neg e]; rfl
theorem upto_cut {s : Tx} (hs : right s = true) {k : Nat} (h0 : 0 < k) (h : k ≤ (cut s).length) : cut (upto s k) = (cut s).take k := by
  refine cut_join _ (take_ne h0 (by omega)) fun p hp => ?_
  · have := (right_iff.1 hs).2.2
    rw [List.all_eq_true] at this
    exact part_clean (this p (List.mem_of_mem_take hp))
theorem upto_rest {s : Tx} {k : Nat} (h0 : 0 < k) (h : k < (cut s).length) : ∃ t, s = upto s k ++ 47 :: t := by
  have e : join ((cut s).take k ++ (cut s).drop k) = s := by rw [List.take_append_drop, join_cut]
  rw [join_append _ _ (take_ne h0 (by omega)) (drop_ne h)] at e
  exact ⟨_, e.symm⟩
theorem upto_len {s : Tx} {k : Nat} (h0 : 0 < k) (h : k ≤ (cut s).length) : (upto s k).length ≤ s.length := by
  by_cases e : k = (cut s).length
  · rw [e, upto_all]; exact Nat.le_refl _
  · obtain ⟨t, ht⟩ := upto_rest h0 (by omega : k < (cut s).length)
    have := congrArg List.length ht
    rw [List.length_append] at this
    omega
theorem upto_right {s : Tx} (hs : right s = true) {k : Nat} (h0 : 0 < k) (h : k ≤ (cut s).length) : right (upto s k) = true := by
  have hc := upto_cut hs h0 h
  have hr := right_iff.1 hs
  have hl := upto_len h0 h
  rw [right_iff]
  have ha : (cut (upto s k)).all part = true := by
    rw [hc, List.all_eq_true]
    intro p hp
    exact List.all_eq_true.1 hr.2.2 p (List.mem_of_mem_take hp)
  refine ⟨?_, by omega, ha⟩
  rcases Nat.eq_zero_or_pos (upto s k).length with e | e
  · rw [List.length_eq_zero_iff.1 e] at ha
    exact absurd ha (by decide)
  · exact e
theorem upto_within {s : Tx} (hs : right s = true) {k : Nat} (h0 : 0 < k) (h : k ≤ (cut s).length) : within s (upto s k) = true := by
  unfold within
  rw [hs, upto_right hs h0 h]
  by_cases e : k = (cut s).length
  · rw [e, upto_all]; simp
  · obtain ⟨t, ht⟩ := upto_rest h0 (by omega : k < (cut s).length)
    have : (upto s k ++ [47]).isPrefixOf s = true := by
      rw [List.isPrefixOf_iff_prefix]
      exact ⟨t, by rw [List.append_assoc]; exact ht.symm⟩
    rw [this]; simp
theorem within_upto {s : Tx} (hs : right s = true) {k : Nat} (h0 : 0 < k) (h : k ≤ (cut s).length) : within (upto s k) s = (upto s k == s) := by
  unfold within
  rw [hs, upto_right hs h0 h]
  have hl := upto_len h0 h
  have : (s ++ [47]).isPrefixOf (upto s k) = false := by
    cases e : (s ++ [47]).isPrefixOf (upto s k) with
    | false => rfl
    | true =>
      have := (List.isPrefixOf_iff_prefix.1 e).length_le
      rw [List.length_append] at this
      simp at this; omega
  rw [this]; simp
end Pt
