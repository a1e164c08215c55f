/- Texts as lists of bytes: their parts, which are paths, and which lie within which. No program. Texts in memory: a string is a list of bytes. No function of the program. append of a source that may be nil, onto a row of the call's own. No function of the program. A []byte that reads as a list of bytes, and one that a call owns and makes longer by append. No function of the program. Bytes as elements and elements as bytes: a list of bytes as a row, a row as a list. No function of the program. -/
import Derived.Lib.SplitLaws
import Derived.Test.YtndofmoepjfnfaaDoorRows
import Derived.Laws.OwnMore
import Derived.Laws.Concat
import Derived.Laws.Strings2
import Derived.Laws.NewBlocks
import Derived.WalkKit
import Derived.Lib.Hide
import Derived.Laws.AppendOwn
import Derived.Laws.AppendOwnNone
import Derived.Test.YtndofmoepjfnfaaDoorMab
import Derived.Lib.AppendStr
import Derived.Lib.BufferWrite
import Derived.Laws.IdiomStrings
import Derived.Laws.BytesArg
namespace Pt

abbrev Tx := List UInt8
/-- which bytes may stand in a part -/
def ok (c : UInt8) : Bool := (decide (97 ≤ c.toNat) && decide (c.toNat ≤ 122)) || (decide (48 ≤ c.toNat) && decide (c.toNat ≤ 57)) || decide (c.toNat = 46) || decide (c.toNat = 45) || decide (c.toNat = 95)
/-- which texts are parts -/
def part (p : Tx) : Bool := !(p == []) && !(p == [46]) && !(p == [46, 46]) && p.all ok
/-- what is behind p, cut at each sign -/
def cutW (p : Tx) : Tx → List Tx
  | [] => [p]
  | c :: l => if c = 47 then p :: cutW [] l else cutW (p ++ [c]) l
def cut (s : Tx) : List Tx := cutW [] s
def right (s : Tx) : Bool := decide (1 ≤ s.length) && decide (s.length ≤ 24) && (cut s).all part
def parts (s : Tx) : List Tx := if right s = true then cut s else []
def within (s d : Tx) : Bool := right s && right d && (s == d || (d ++ [47]).isPrefixOf s)
/-- parts with a sign between -/
def join : List Tx → Tx
  | [] => []
  | [p] => p
  | p :: q :: r => p ++ 47 :: join (q :: r)

theorem ok_sep : ok 47 = false := by decide
/-- a head with more ahead of it -/
def pre (v : Tx) : List Tx → List Tx
  | [] => [v]
  | p :: r => (v ++ p) :: r
theorem cutW_pre (v : Tx) : ∀ (l p : Tx), cutW (v ++ p) l = pre v (cutW p l)
  | [], p => rfl
  | c :: l, p => by
    unfold cutW
    by_cases h : c = 47
    · rw [if_pos h, if_pos h]; rfl
    · rw [if_neg h, if_neg h, List.append_assoc, cutW_pre v l]
theorem cutW_ne : ∀ (l p : Tx), cutW p l ≠ []
  | [], p => by simp [cutW]
  | c :: l, p => by
    unfold cutW
    split
    · simp
    · exact cutW_ne l _
theorem cut_ne (s : Tx) : cut s ≠ [] := cutW_ne s []
theorem cut_len (s : Tx) : 0 < (cut s).length := List.length_pos_iff.2 (cut_ne s)
theorem right_iff {s : Tx} : right s = true ↔ 1 ≤ s.length ∧ s.length ≤ 24 ∧ (cut s).all part = true := by
  unfold right
  simp only [Bool.and_eq_true, decide_eq_true_eq, and_assoc]
theorem right_false_of {s : Tx} (h : (cut s).all part = false) : right s = false := by
  cases e : right s with
  | false => rfl
  | true => rw [right_iff] at e; rw [e.2.2] at h; cases h
theorem parts_right {s : Tx} (h : right s = true) : parts s = cut s := if_pos h
theorem parts_wrong {s : Tx} (h : right s = false) : parts s = [] := if_neg (by rw [h]; simp)
theorem parts_len {s : Tx} : (0 < (parts s).length) ↔ right s = true := by
  unfold parts
  by_cases h : right s = true
  · rw [if_pos h]; exact ⟨fun _ => h, fun _ => cut_len s⟩
  · rw [if_neg h]; simp [h]
/-- a byte that may not be -/
theorem all_bad : ∀ (l p : Tx), p.all ok = false → (cutW p l).all part = false
  | [], p, h => by
    simp only [cutW, List.all_cons, List.all_nil, Bool.and_true]
    unfold part; rw [h]; simp
  | c :: l, p, h => by
    unfold cutW
    by_cases e : c = 47
    · rw [if_pos e, List.all_cons]
      have : part p = false := by unfold part; rw [h]; simp
      rw [this]; rfl
    · rw [if_neg e]
      exact all_bad l _ (by rw [List.all_append, h]; rfl)
theorem all_append_bad {a b : List Tx} (h : b.all part = false) : (a ++ b).all part = false := by rw [List.all_append, h]; simp

/- what strings.Split makes -/
open Go.Lib in
theorem index_cons (b : UInt8) (l : Tx) (h : b ≠ 47) : index (b :: l) [47] = if index l [47] == -1 then -1 else index l [47] + 1 := by
  have hp : ([47] : List UInt8).isPrefixOf (b :: l) = false := by simp [List.isPrefixOf, Ne.symm h]
  rw [index, hp]; simp
open Go.Lib in
theorem splitK_cons (b : UInt8) (l : Tx) (h : b ≠ 47) : ∀ k, splitK [47] 0 k (b :: l) = pre [b] (splitK [47] 0 k l)
  | 0 => rfl
  | k + 1 => by
    have hi := index_cons b l h
    unfold splitK
    by_cases e : (index l [47] == -1) = true
    · rw [hi, if_pos e, if_pos (by rfl), if_pos e]
      rfl
    · have hge := index_ge l [47]
      have hne : ¬ index l [47] = -1 := fun x => e (beq_iff_eq.2 x)
      obtain ⟨j, hj⟩ : ∃ j : Nat, index l [47] = j := ⟨(index l [47]).toNat, by omega⟩
      have e2 : ¬ ((((j : Int) + 1) == -1) = true) := fun x => by have := beq_iff_eq.1 x; omega
      have e3 : (((j : Int) + 1)).toNat = j + 1 := by omega
      rw [hi, if_neg e, if_neg (by rw [hj]; exact e2), if_neg e, hj, e3, Int.toNat_natCast]
      simp [pre]
open Go.Lib in
theorem split_cut : ∀ s : Tx, splitK [47] 0 (count s [47]) s = cut s
  | [] => by
    rw [count_miss (by simp [index])]; rfl
  | b :: l => by
    by_cases h : b = 47
    · subst h
      have hix : index (47 :: l) [47] = ((0 : Nat) : Int) := by rw [index]; simp [List.isPrefixOf]
      rw [count_cons_eq, Nat.add_comm 1, splitK, if_neg (by rw [hix]; decide), hix]
      show [] :: splitK [47] 0 (count l [47]) l = _
      rw [split_cut l]
      unfold cut
      rw [cutW, if_pos rfl]
    · rw [count_cons_ne b 47 l h, splitK_cons b l h, split_cut l]
      unfold cut
      rw [cutW, if_neg h, show ([] : Tx) ++ [b] = [b] ++ [] from rfl, cutW_pre]

/- parts joined again -/
theorem join_cons (p : Tx) {r : List Tx} (h : r ≠ []) : join (p :: r) = p ++ 47 :: join r := by
  cases r with
  | nil => exact absurd rfl h
  | cons q r => rfl
theorem join_cutW : ∀ (l p : Tx), join (cutW p l) = p ++ l
  | [], p => by simp [cutW, join]
  | c :: l, p => by
    unfold cutW
    by_cases e : c = 47
    · rw [if_pos e, join_cons _ (cutW_ne l []), join_cutW l [], e]; rfl
    · rw [if_neg e, join_cutW l]; simp
theorem join_cut (s : Tx) : join (cut s) = s := by unfold cut; rw [join_cutW]; rfl
theorem cutW_skip : ∀ (q p : Tx) (l : Tx), (∀ c ∈ q, c ≠ 47) → cutW p (q ++ l) = cutW (p ++ q) l
  | [], p, l, _ => by simp
  | c :: q, p, l, h => by
    rw [List.cons_append, cutW, if_neg (h c (List.mem_cons_self ..)), cutW_skip q _ l (fun x hx => h x (List.mem_cons_of_mem _ hx))]
    simp
theorem cut_join : ∀ (ps : List Tx), ps ≠ [] → (∀ p ∈ ps, ∀ c ∈ p, c ≠ 47) → cut (join ps) = ps
  | [], h, _ => absurd rfl h
  | [p], _, h => by
    show cutW [] p = [p]
    have := cutW_skip p [] [] (h p (List.mem_cons_self ..))
    rw [List.append_nil] at this
    rw [this]; rfl
  | p :: q :: r, _, h => by
    rw [join_cons p (by simp)]
    show cutW [] (p ++ 47 :: join (q :: r)) = _
    rw [cutW_skip p [] _ (h p (List.mem_cons_self ..)), cutW, if_pos rfl, List.nil_append]
    show p :: cut (join (q :: r)) = _
    rw [cut_join (q :: r) (by simp) (fun x hx => h x (List.mem_cons_of_mem _ hx))]
theorem part_clean {p : Tx} (h : part p = true) : ∀ c ∈ p, c ≠ 47 := by
  unfold part at h
  simp only [Bool.and_eq_true, List.all_eq_true] at h
  intro c hc e
  have := h.2 c hc
  rw [e, ok_sep] at this
  cases this
/-- one more part behind -/
theorem join_snoc : ∀ (ps : List Tx) (p : Tx), ps ≠ [] → join (ps ++ [p]) = join ps ++ 47 :: p
  | [], _, h => absurd rfl h
  | [q], p, _ => rfl
  | q :: r :: t, p, _ => by
    rw [List.cons_append, join_cons q (by simp), join_snoc (r :: t) p (by simp), join_cons q (by simp)]
    simp
theorem join_append : ∀ (a b : List Tx), a ≠ [] → b ≠ [] → join (a ++ b) = join a ++ 47 :: join b
  | [], _, h, _ => absurd rfl h
  | [p], b, _, h => by rw [List.singleton_append, join_cons p h]; rfl
  | p :: q :: r, b, _, h => by
    rw [List.cons_append, join_cons p (by simp), join_append (q :: r) b (by simp) h, join_cons p (by simp)]
    simp
theorem take_ne {l : List Tx} {k : Nat} (h0 : 0 < k) (h : 0 < l.length) : l.take k ≠ [] := List.length_pos_iff.1 (by rw [List.length_take]; omega)
theorem drop_ne {l : List Tx} {k : Nat} (h : k < l.length) : l.drop k ≠ [] := List.length_pos_iff.1 (by rw [List.length_drop]; omega)
/-- of a path its first parts, joined -/
def upto (s : Tx) (k : Nat) : Tx := join ((cut s).take k)
theorem upto_zero (s : Tx) : upto s 0 = [] := rfl
theorem upto_all (s : Tx) : upto s (cut s).length = s := by unfold upto; rw [List.take_length, join_cut]
theorem upto_succ (s : Tx) (k : Nat) (h : k < (cut s).length) : upto s (k + 1) = (if 0 < k then upto s k ++ [47] else upto s k) ++ (cut s)[k] := by
  unfold upto
  rw [List.take_succ_eq_append_getElem h]
  by_cases e : 0 < k
  · rw [if_pos e, join_snoc _ _ (take_ne e (by omega))]
    simp
  · obtain rfl : k = 0 := by omega
    rw [if_neg e]; rfl
theorem upto_cut {s : Tx} (hs : right s = true) {k : Nat} (h0 : 0 < k) (h : k ≤ (cut s).length) : cut (upto s k) = (cut s).take k := by
  refine cut_join _ (take_ne h0 (by omega)) fun p hp => ?_
  · have := (right_iff.1 hs).2.2
    rw [List.all_eq_true] at this
    exact part_clean (this p (List.mem_of_mem_take hp))
theorem upto_rest {s : Tx} {k : Nat} (h0 : 0 < k) (h : k < (cut s).length) : ∃ t, s = upto s k ++ 47 :: t := by
  have e : join ((cut s).take k ++ (cut s).drop k) = s := by rw [List.take_append_drop, join_cut]
  rw [join_append _ _ (take_ne h0 (by omega)) (drop_ne h)] at e
  exact ⟨_, e.symm⟩
theorem upto_len {s : Tx} {k : Nat} (h0 : 0 < k) (h : k ≤ (cut s).length) : (upto s k).length ≤ s.length := by
  by_cases e : k = (cut s).length
  · rw [e, upto_all]; exact Nat.le_refl _
  · obtain ⟨t, ht⟩ := upto_rest h0 (by omega : k < (cut s).length)
    have := congrArg List.length ht
    rw [List.length_append] at this
    omega
theorem upto_right {s : Tx} (hs : right s = true) {k : Nat} (h0 : 0 < k) (h : k ≤ (cut s).length) : right (upto s k) = true := by
  have hc := upto_cut hs h0 h
  have hr := right_iff.1 hs
  have hl := upto_len h0 h
  rw [right_iff]
  have ha : (cut (upto s k)).all part = true := by
    rw [hc, List.all_eq_true]
    intro p hp
    exact List.all_eq_true.1 hr.2.2 p (List.mem_of_mem_take hp)
  refine ⟨?_, by omega, ha⟩
  rcases Nat.eq_zero_or_pos (upto s k).length with e | e
  · rw [List.length_eq_zero_iff.1 e] at ha
    exact absurd ha (by decide)
  · exact e
theorem upto_within {s : Tx} (hs : right s = true) {k : Nat} (h0 : 0 < k) (h : k ≤ (cut s).length) : within s (upto s k) = true := by
  unfold within
  rw [hs, upto_right hs h0 h]
  by_cases e : k = (cut s).length
  · rw [e, upto_all]; simp
  · obtain ⟨t, ht⟩ := upto_rest h0 (by omega : k < (cut s).length)
    have : (upto s k ++ [47]).isPrefixOf s = true := by
      rw [List.isPrefixOf_iff_prefix]
      exact ⟨t, by rw [List.append_assoc]; exact ht.symm⟩
    rw [this]; simp
theorem within_upto {s : Tx} (hs : right s = true) {k : Nat} (h0 : 0 < k) (h : k ≤ (cut s).length) : within (upto s k) s = (upto s k == s) := by
  unfold within
  rw [hs, upto_right hs h0 h]
  have hl := upto_len h0 h
  have : (s ++ [47]).isPrefixOf (upto s k) = false := by
    cases e : (s ++ [47]).isPrefixOf (upto s k) with
    | false => rfl
    | true =>
      have := (List.isPrefixOf_iff_prefix.1 e).length_le
      rw [List.length_append] at this
      simp at this; omega
  rw [this]; simp
end Pt
namespace Go.Proofs.YtndofmoepjfnfaaDoor
open Go.RowKit
open Pt (Tx)

/-- a text as a string -/
def tx (l : Tx) : ByteArray := ⟨l.toArray⟩
theorem tx_toList (l : Tx) : (tx l).toList = l := ByteArray.toList_mk l
theorem tx_data (l : Tx) : (tx l).data.toList = l := by simp [tx]
theorem tx_size (l : Tx) : (tx l).size = l.length := by simp [tx, ByteArray.size]
theorem tx_eta (s : ByteArray) : tx s.data.toList = s := by apply ByteArray.ext; simp [tx]
theorem tx_of {s : ByteArray} {l : Tx} (h : s.data.toList = l) : s = tx l := by rw [← h, tx_eta]
theorem tx_append (a b : Tx) : tx a ++ tx b = tx (a ++ b) := ByteArray.mk_append_mk a b
theorem tx_extract (l : Tx) (i j : Nat) : (tx l).extract i j = tx ((l.drop i).take (j - i)) := ByteArray.extract_mk l i j
theorem tx_get (l : Tx) (k : Nat) (h : k < (tx l).size) (h' : k < l.length) : (tx l)[k]'h = l[k] := by
  show (tx l).data[k]'_ = _
  simp [tx]
theorem tx_inj {a b : Tx} (h : tx a = tx b) : a = b := by rw [← tx_toList a, h, tx_toList]
end Go.Proofs.YtndofmoepjfnfaaDoor
namespace Go.Proofs.YtndofmoepjfnfaaDoor

theorem grown_refl (w : World) (o : Option Nat) : w.grownBy w o := ⟨rfl, rfl, rfl, Nat.le_refl _, fun _ _ _ => rfl⟩
/-- append of what may be nil -/
theorem wpList_append_opt {P : Program} (w : World) {ops : Array Oper} {rest : List Oper} {o : Oper} {a : Act} {Q : Exit → Act → World → Prop} (hgd : o.guard = none) (s x : Operand) (t : TypeId)
    (ho : o.op = .call { callee := .builtin .append, args := #[s, x], argTypes := #[t, t] })
    (base : Nat) (e : TypeId) (i : TypeInfo) (z : Value) (bytes : Nat) (ht : P.underlying t = some (.slice e)) (hi : P.info? e = some i) (hz : i.zero = some z)
    (hsize : i.size = 1) (hby : i.bytes = bytes) (hzs : z.cells.size = 1)
    (v : Value) (n : Nat) (xs : List Value) (hs : a.eval s = v) (hown : w.ownsRow base e 1 v n xs)
    (A : Option Addr) (m c : Nat) (news : List Value) (hx : a.eval x = .slice A m c) (hA : A = none → m = 0 ∧ c = 0) (hl : news.length = m) (hnews : ∀ ad, A = some ad → ∀ j u, news[j]? = some u → w.cell? (ad.add j) = some u) (h1 : ∀ u ∈ news, u.oneCell' = true)
    (h63 : n + m ≤ maxLen) (hbytes : (n + m) * bytes ≤ 140737488355328) (hbase : base ≤ w.heap.size)
    (h : ∀ v' w', w'.ownsRow base e 1 v' (n + m) (xs ++ news) → w.grownBy w' v.ownBlock → wpList P ops Q rest (a.put o.dst v') w') : wpList P ops Q (o :: rest) a w := by
  cases A with
  | none =>
    obtain ⟨rfl, rfl⟩ := hA rfl
    have hn : news = [] := List.length_eq_zero_iff.1 hl
    subst hn
    refine wpList_append_own_none hgd s x t ho base e i 1 ht hi v n xs hs hown hx (h v w ?_ (grown_refl w _))
    rw [List.append_nil]; exact hown
  | some ad =>
    exact wpList_append_own w hgd s x t ho base e i z 1 bytes ht hi hz hsize hby hzs (by decide) v n xs hs hown ad m c news hx (by rw [hl, Nat.mul_one]) (hnews ad rfl) h1 h63 hbytes hbase (fun v' w' h2 h3 _ => h v' w' h2 h3)
end Go.Proofs.YtndofmoepjfnfaaDoor
namespace Go.Proofs.YtndofmoepjfnfaaDoor
open Go.RowKit
open Pt (Tx)

/-- the slice at A reads as the bytes l, and lies in a block of G -/
def RdL (w : World) (A : Option Addr) (l : Tx) (G : Nat → Prop) : Prop :=
  0 < l.length → ∃ b off, A = some ⟨b, off, none⟩ ∧ G b ∧ ∀ j (hj : j < l.length), w.cell? ⟨b, off + j, none⟩ = some (.int .u8 (l[j].toNat : Int))
namespace RdL
variable {w w' : World} {A : Option Addr} {l : Tx} {G G' S : Nat → Prop}
theorem empty (w : World) (A : Option Addr) (G : Nat → Prop) : RdL w A [] G := fun h => absurd h (by simp)
theorem keep (h : RdL w A l G) (hk : ∀ p v, G p.block → w.cell? p = some v → w'.cell? p = some v) : RdL w' A l G := by
  intro hn
  obtain ⟨b, off, e, hg, hc⟩ := h hn
  exact ⟨b, off, e, hg, fun j hj => hk _ _ hg (hc j hj)⟩
theorem mono (h : RdL w A l G) (hg : ∀ b, G b → G' b) : RdL w A l G' := by
  intro hn
  obtain ⟨b, off, e, hg', hc⟩ := h hn
  exact ⟨b, off, e, hg _ hg', hc⟩
theorem kp (h : RdL w A l G) (hk : Kp S w w') (hs : ∀ b, G b → ¬ S b) : RdL w' A l G := h.keep fun _ _ hg hc => hk.cell hc (hs _ hg)
theorem old (h : RdL w A l G) (hb : Below w.heap.size w w') : RdL w' A l G := h.keep fun _ _ _ hc => (hb.cell (World.block_lt_of_cell? _ _ hc)).trans hc
theorem below {B : Nat} (h : RdL w A l (· < B)) (hb : Below B w w') : RdL w' A l (· < B) := h.keep fun _ _ hg hc => (hb.cell hg).trans hc
theorem in_ (h : RdL w A l G) : RdL w A l (fun b => G b ∧ b < w.heap.size) := by
  intro hn
  obtain ⟨b, off, e, hg, hc⟩ := h hn
  exact ⟨b, off, e, ⟨hg, World.block_lt_of_cell? _ _ (hc 0 hn)⟩, hc⟩
/-- a block with something else in it is none of it -/
theorem apart {g : Nat} (h : RdL w A l G) (hg : ∀ off j x, w.cell? ⟨g, off + j, none⟩ ≠ some (.int .u8 x)) : RdL w A l (fun b => G b ∧ b ≠ g) := by
  intro hn
  obtain ⟨b, off, e, hb, hc⟩ := h hn
  refine ⟨b, off, e, ⟨hb, fun e => ?_⟩, hc⟩
  subst e
  exact hg _ _ _ (hc 0 hn)
theorem at_ (h : RdL w A l G) {j : Nat} (hj : j < l.length) : ∃ b off, A = some ⟨b, off, none⟩ ∧ G b ∧ w.cell? ⟨b, off + j, none⟩ = some (.int .u8 (l[j].toNat : Int)) := by
  obtain ⟨b, off, e, hg, hc⟩ := h (by omega)
  exact ⟨b, off, e, hg, hc j hj⟩
theorem take (h : RdL w A l G) (n : Nat) : RdL w A (l.take n) G := by
  intro hn
  obtain ⟨b, off, e, hg, hc⟩ := h (by simp at hn; omega)
  refine ⟨b, off, e, hg, fun j hj => ?_⟩
  rw [List.getElem_take]; exact hc j (by simp at hj; omega)
theorem drop {b off : Nat} (h : RdL w (some ⟨b, off, none⟩) l G) (n : Nat) : RdL w (some ⟨b, off + n, none⟩) (l.drop n) G := by
  intro hn
  obtain ⟨b', off', e, hg, hc⟩ := h (by simp at hn; omega)
  cases e
  refine ⟨b, off + n, rfl, hg, fun j hj => ?_⟩
  rw [List.getElem_drop, Nat.add_assoc]; exact hc (n + j) (by simp at hj; omega)
end RdL
/-- the cells of bytes -/
def cellsL (l : Tx) : List Value := l.map fun c => .int .u8 (c.toNat : Int)
theorem cellsL_len (l : Tx) : (cellsL l).length = l.length := by simp [cellsL]
theorem cellsL_append (a b : Tx) : cellsL a ++ cellsL b = cellsL (a ++ b) := by simp [cellsL]
theorem cellsL_str (l : Tx) : Lib.strCells (tx l) = cellsL l := by simp [Lib.strCells, cellsL, tx]
theorem cellsL_one {l : Tx} : ∀ u ∈ cellsL l, u.oneCell' = true := by
  intro u hu
  simp only [cellsL, List.mem_map] at hu
  obtain ⟨j, _, rfl⟩ := hu
  rfl
theorem cellsL_get {l : Tx} {j : Nat} (hj : j < l.length) : (cellsL l)[j]? = some (.int .u8 (l[j].toNat : Int)) := by simp [cellsL, hj]
theorem cellsL_some {l : Tx} {j : Nat} {u : Value} (h : (cellsL l)[j]? = some u) : ∃ hj : j < l.length, u = .int .u8 (l[j].toNat : Int) := by
  have hj : j < l.length := by
    rcases Nat.lt_or_ge j l.length with h' | h'
    · exact h'
    · rw [List.getElem?_eq_none (by rw [cellsL_len]; exact h')] at h; cases h
  rw [cellsL_get hj] at h
  exact ⟨hj, (Option.some.inj h).symm⟩
theorem RdL.of_cells {w : World} {g n : Nat} {l : Tx} {c : Array Value} {t : TypeId} {fr : Nat × Nat} (h : w.heap[g]? = some (.cells c t fr)) (hc : ∀ j (hj : j < l.length), c[n + j]? = some (.int .u8 (l[j].toNat : Int))) : RdL w (some ⟨g, n, none⟩) l (· = g) :=
  fun _ => ⟨g, n, rfl, rfl, fun j hj => by simp [World.cell?, h, hc j hj]⟩
/-- string(b) -/
theorem RdL.str {w : World} {A : Option Addr} {l : Tx} {G : Nat → Prop} (h : RdL w A l G) (c : Nat) : (convert 26 9 (.slice A l.length c)).run Tryd.prog w = .ok (.string (tx l)) w := by
  cases A with
  | none =>
    have h0 : l = [] := by
      rcases Nat.eq_zero_or_pos l.length with h0 | h0
      · exact List.length_eq_zero_iff.1 h0
      · obtain ⟨b, off, e, _⟩ := h h0; cases e
    subst h0
    exact run_convert_bytes_nil w 26 5 Tryd.underlying26 Tryd.underlying5 _ c 9 Tryd.underlying9
  | some a =>
    refine run_convert_bytes_back w 26 9 5 a c l Tryd.underlying26 Tryd.underlying5 Tryd.underlying9 fun j hj => ?_
    obtain ⟨b, off, e, _, hc⟩ := h (by omega)
    cases e
    rw [addr_add]; exact hc j hj
theorem infoB : (Tryd.prog.info? 5).map (fun i => (i.zero, i.size, i.bytes)) = some (some (.int .u8 0), 1, 1) := by kernel_rfl
/-- v is a slice of the call's own that holds the bytes l -/
def OwnL (w : World) (base : Nat) (v : Value) (l : Tx) : Prop := w.ownsRow base 5 1 v l.length (cellsL l)
namespace OwnL
variable {w w' : World} {base : Nat} {v : Value} {l : Tx}
theorem nil (w : World) (base : Nat) : OwnL w base (.slice none 0 0) [] := World.ownsRow_nil _ _ _ _
theorem alloc (h : OwnL w base v l) (o : Obj) : OwnL (w.alloc o) base v l := World.ownsRow.alloc h o
/-- as what reads -/
theorem rd (h : OwnL w base v l) : ∃ A C, v = .slice A l.length C ∧ l.length ≤ C ∧ C ≤ maxLen ∧ (A = none → l.length = 0 ∧ C = 0) ∧ RdL w A l (fun b => base ≤ b ∧ v.ownBlock = some b) := by
  rcases h.2 with ⟨rfl, h0⟩ | ⟨g, cap, cur, rfl, hb, hg, hnc, hcm, hs, ht⟩
  · have : l = [] := List.length_eq_zero_iff.1 h0
    subst this
    exact ⟨none, 0, rfl, Nat.le_refl _, by decide, fun _ => ⟨rfl, rfl⟩, RdL.empty _ _ _⟩
  · refine ⟨_, cap, rfl, hnc, hcm, (fun h => by cases h), fun _ => ⟨g, 0, rfl, ⟨hb, rfl⟩, fun j hj => ?_⟩⟩
    have hx := cellsL_get hj
    rw [← ht, List.getElem?_take, if_pos (by omega), Array.getElem?_toList] at hx
    simp [World.cell?, hg, hx]
theorem lo (h : OwnL w base v l) : ∀ k, v.ownBlock = some k → base ≤ k := fun k hk => (World.ownsRow.lt h k hk).1
theorem lt (h : OwnL w base v l) : ∀ k, v.ownBlock = some k → k < w.heap.size := fun k hk => (World.ownsRow.lt h k hk).2
/-- its block, if it has one -/
theorem block (h : OwnL w base v l) : ∀ k, v.ownBlock = some k → ∃ c, w.heap[k]? = some (.cells c 5 (0, 0)) := by
  intro k hk
  rcases h.2 with ⟨rfl, h0⟩ | ⟨g, cap, cur, rfl, hb, hg, hnc, _, hs, ht⟩
  · cases hk
  · cases hk; exact ⟨cur, hg⟩
theorem of_block (h : OwnL w base v l) (hb : ∀ k, v.ownBlock = some k → w'.heap[k]? = w.heap[k]?) : OwnL w' base v l := by
  refine ⟨h.1, ?_⟩
  rcases h.2 with h0 | ⟨g, cap, cur, rfl, hb', hg, hr⟩
  · exact .inl h0
  · exact .inr ⟨g, cap, cur, rfl, hb', (hb g rfl).trans hg, hr⟩
theorem kp {S : Nat → Prop} (h : OwnL w base v l) (hk : Kp S w w') (hs : ∀ k, v.ownBlock = some k → ¬ S k) : OwnL w' base v l :=
  h.of_block fun k e => hk.block k (h.lt k e) (hs k e)
end OwnL
/-- append of bytes -/
theorem wpList_append_bl (w : World) {ops : Array Oper} {rest : List Oper} {o : Oper} {a : Act} {Q : Exit → Act → World → Prop} (hgd : o.guard = none) (s x : Operand)
    (ho : o.op = .call { callee := .builtin .append, args := #[s, x], argTypes := #[26, 26] })
    (base : Nat) (v : Value) (l : Tx) (hs : a.eval s = v) (hown : OwnL w base v l)
    (A : Option Addr) (m c : Nat) (l' : Tx) (G : Nat → Prop) (hx : a.eval x = .slice A m c) (hm : l'.length = m) (hA : A = none → m = 0 ∧ c = 0) (hr : RdL w A l' G) (hb : l.length + m ≤ 140737488355328) (hbase : base ≤ w.heap.size)
    (h : ∀ v' w', OwnL w' base v' (l ++ l') → w.grownBy w' v.ownBlock → wpList Tryd.prog ops Q rest (a.put o.dst v') w') : wpList Tryd.prog ops Q (o :: rest) a w := by
  obtain ⟨i0, hi, hz0, hz1, hz2⟩ := info_parts infoB
  subst hm
  refine wpList_append_opt w hgd s x 26 ho base 5 i0 (.int .u8 0) 1 Tryd.underlying26 hi hz0 hz1 hz2 rfl v l.length (cellsL l) hs hown A l'.length c (cellsL l') hx hA (cellsL_len _) (fun ad had j u hu => ?_) cellsL_one (by unfold maxLen; omega) (by omega) hbase (fun v' w' h1 h2 => h v' w' (by rw [cellsL_append] at h1; unfold OwnL; rw [List.length_append]; exact h1) h2)
  obtain ⟨hj, rfl⟩ := cellsL_some hu
  obtain ⟨b, off, e, _, hc⟩ := hr (by omega)
  rw [had] at e
  cases e
  rw [addr_add]; exact hc j hj
/-- append of a text -/
theorem wpList_append_st (w : World) {ops : Array Oper} {rest : List Oper} {o : Oper} {a : Act} {Q : Exit → Act → World → Prop} (hgd : o.guard = none) (s x : Operand)
    (ho : o.op = .call { callee := .builtin .append, args := #[s, x], argTypes := #[26, 9] })
    (base : Nat) (v : Value) (l : Tx) (hs : a.eval s = v) (hown : OwnL w base v l) (l' : Tx) (hx : a.eval x = .string (tx l')) (hb : l.length + l'.length ≤ 140737488355328) (hbase : base ≤ w.heap.size)
    (h : ∀ v' w', OwnL w' base v' (l ++ l') → w.grownBy w' v.ownBlock → wpList Tryd.prog ops Q rest (a.put o.dst v') w') : wpList Tryd.prog ops Q (o :: rest) a w := by
  obtain ⟨i0, hi, hz0, hz1, hz2⟩ := info_parts infoB
  refine Lib.wpList_append_own_string w hgd s x 26 9 ho base 5 i0 Tryd.underlying26 Tryd.underlying9 hi hz0 hz1 hz2 v l.length (cellsL l) hs hown (tx l') hx (by rw [tx_size]; unfold maxLen; omega) (by rw [tx_size]; omega) hbase (fun v' w' h1 h2 _ => h v' w' ?_ h2)
  rw [cellsL_str, cellsL_append, tx_size] at h1
  unfold OwnL; rw [List.length_append]; exact h1
end Go.Proofs.YtndofmoepjfnfaaDoor
namespace Go.Proofs.YtndofmoepjfnfaaDoor
open Go.RowKit
open Pt (Tx)

/-- a byte as an element -/
def feB (c : UInt8) : Mx.Fe := Mx.mk c.toNat c.toNat_lt
/-- bytes as a row -/
def rowL (l : Tx) : Nat → Mx.Fe := fun i => feB (l.getD i 0)
theorem rowL_at {l : Tx} {i : Nat} (h : i < l.length) : fi (rowL l i) = (l[i].toNat : Int) := by
  unfold rowL fi feB
  rw [Mx.nat_mk, List.getD_eq_getElem?_getD, List.getElem?_eq_getElem h]; rfl
/-- bytes that read as a list read as a row -/
theorem RdL.rd {w : World} {A : Option Addr} {l : Tx} {G : Nat → Prop} (h : RdL w A l G) : Rd w A l.length (rowL l) G := fun hn => by
  obtain ⟨b, off, e, hg, hc⟩ := h hn
  exact ⟨b, off, e, hg, fun j hj => by rw [rowL_at hj]; exact hc j hj⟩
/-- an element as a byte -/
def byF (a : Mx.Fe) : UInt8 := UInt8.ofNat a.nat
theorem byF_nat (a : Mx.Fe) : (byF a).toNat = a.nat := by
  unfold byF
  rw [UInt8.toNat_ofNat', Nat.mod_eq_of_lt a.nat_lt]
theorem feB_byF (a : Mx.Fe) : feB (byF a) = a := by
  refine Mx.Fe.ext ?_
  unfold feB
  rw [Mx.nat_mk, byF_nat]
/-- a row as a list of bytes -/
def lst (r : Nat → Mx.Fe) (n : Nat) : Tx := (List.range n).map fun i => byF (r i)
theorem lst_len (r : Nat → Mx.Fe) (n : Nat) : (lst r n).length = n := by simp [lst]
theorem lst_at {r : Nat → Mx.Fe} {n i : Nat} (h : i < (lst r n).length) : ((lst r n)[i].toNat : Int) = fi (r i) := by
  simp only [lst, List.getElem_map, List.getElem_range]
  rw [byF_nat]; rfl
theorem rowL_lst {r : Nat → Mx.Fe} {n i : Nat} (h : i < n) : rowL (lst r n) i = r i := by
  refine fi_eq ?_
  rw [rowL_at (by rw [lst_len]; exact h), lst_at]
theorem lst_rowL (l : Tx) : lst (rowL l) l.length = l := by
  refine List.ext_getElem (lst_len _ _) fun i h h' => ?_
  refine UInt8.toNat.inj ?_
  have h1 := lst_at h
  rw [rowL_at h'] at h1
  omega
theorem lst_congr {r s : Nat → Mx.Fe} {n : Nat} (h : ∀ i, i < n → r i = s i) : lst r n = lst s n :=
  List.map_congr_left fun i hi => by rw [h i (List.mem_range.1 hi)]
/-- a row reads as a list -/
theorem Rd.rdL {w : World} {A : Option Addr} {n : Nat} {r : Nat → Mx.Fe} {G : Nat → Prop} (h : Rd w A n r G) : RdL w A (lst r n) G := fun hn => by
  rw [lst_len] at hn
  obtain ⟨b, off, e, hg, hc⟩ := h hn
  refine ⟨b, off, e, hg, fun j hj => ?_⟩
  rw [lst_at hj]
  rw [lst_len] at hj
  exact hc j hj
end Go.Proofs.YtndofmoepjfnfaaDoor
