/- Chapter 9's blocks as lists of bytes: which block a unit is, which unit bytes are. No function of the program. -/
import Derived.Test.YtjhbmijdpcbbiaaCrInts
import Derived.Test.YtjhbmijdpcbbiaaFeBy
import Derived.Test.YtjhbmijdpcbbiaaCdMath
namespace Go.Proofs.Ytjhbmijdpcbbiaa
open Go.RowKit
open Pt (Tx)

/-- the sum of bytes -/
def sumL (l : Tx) : Int := bi (crc 0#32 (rowL l) l.length)
theorem sumL_lo (l : Tx) : 0 ≤ sumL l := bi_lo _
theorem sumL_hi (l : Tx) : sumL l < 4294967296 := bi_hi _
theorem sumL_one {l l' : Tx} (hl : l.length = l'.length) {p : Nat} (hp : p < l.length) (hne : l.getD p 0 ≠ l'.getD p 0) (he : ∀ i, i < l.length → i ≠ p → l.getD i 0 = l'.getD i 0) : sumL l ≠ sumL l' := by
  intro h
  have h1 := bi_inj h
  unfold crc at h1
  rw [← hl] at h1
  have h' : Cr.ups (~~~0#32) (fun i => (rowL l i).nat) l.length = Cr.ups (~~~0#32) (fun i => (rowL l' i).nat) l.length := by
    have := congrArg (fun x => ~~~x) h1
    simpa using this
  refine Cr.ups_one hp (rowL l p).nat_lt (rowL l' p).nat_lt ?_ (fun i hi hi' => ?_) h'
  · show (l.getD p 0).toNat ≠ (l'.getD p 0).toNat
    exact fun e => hne (UInt8.toNat.inj e)
  · show (l.getD i 0).toNat = (l'.getD i 0).toNat
    rw [he i hi hi']

namespace Fm
open Cd
/-- a unit -/
structure U where
  kind : Int
  label : Int
  number : Int
  load : Tx
theorem U.eta (u : U) : (⟨u.kind, u.label, u.number, u.load⟩ : U) = u := rfl
def zero : U := ⟨0, 0, 0, []⟩
def room (k : Int) : Nat := if k = 6 then 79 else 64
theorem room_le (k : Int) : room k ≤ 79 := by unfold room; split <;> omega
theorem room_ge (k : Int) : 64 ≤ room k := by unfold room; split <;> omega
def argOk (u : U) : Prop := 1 ≤ u.kind ∧ u.kind ≤ 6 ∧ 1 ≤ u.label ∧ u.label ≤ 2147483647 ∧ 0 ≤ u.number ∧ u.number ≤ 2147483647
instance (u : U) : Decidable (argOk u) := by unfold argOk; exact inferInstance
def err (u : U) : Int := if argOk u then (if room u.kind < u.load.length then 4 else 0) else 1
/-- it has a block -/
def Ok (u : U) : Prop := argOk u ∧ u.load.length ≤ room u.kind
instance (u : U) : Decidable (Ok u) := by unfold Ok; exact inferInstance
theorem err_ok {u : U} (h : Ok u) : err u = 0 := by unfold err; rw [if_pos h.1, if_neg (by have := h.2; omega)]
theorem err_arg {u : U} (h : ¬ argOk u) : err u = 1 := by unfold err; rw [if_neg h]
theorem err_long {u : U} (h : argOk u) (h' : room u.kind < u.load.length) : err u = 4 := by unfold err; rw [if_pos h, if_pos h']
theorem err_zero {u : U} : err u = 0 ↔ Ok u := by
  unfold err Ok
  by_cases h : argOk u
  · rw [if_pos h]
    by_cases h' : room u.kind < u.load.length
    · rw [if_pos h']; exact ⟨fun e => absurd e (by decide), fun e => absurd e.2 (by omega)⟩
    · rw [if_neg h']; exact ⟨fun _ => ⟨h, by omega⟩, fun _ => rfl⟩
  · rw [if_neg h]; exact ⟨fun e => absurd e (by decide), fun e => absurd e.1 h⟩
def head (u : U) : Tx := [b8 u.kind] ++ be4 u.label ++ be4 u.number ++ [b8 ((u.load.length : Int) / 256)] ++ [b8 (u.load.length : Int)]
theorem head_len (u : U) : (head u).length = 11 := rfl
def pad (u : U) : Tx := List.replicate (room u.kind - u.load.length) 0
def body (u : U) : Tx := head u ++ u.load ++ pad u
def blk (u : U) : Tx := body u ++ be4 (sumL (body u))
/-- what Put answers -/
def put (u : U) : Tx := if Ok u then blk u else []
theorem put_ok {u : U} (h : Ok u) : put u = blk u := if_pos h
theorem put_no {u : U} (h : ¬ Ok u) : put u = [] := if_neg h
theorem pad_len (u : U) : (pad u).length = room u.kind - u.load.length := List.length_replicate
theorem body_len {u : U} (h : Ok u) : (body u).length = 11 + room u.kind := by
  have := h.2
  unfold body; rw [List.length_append, List.length_append, head_len, pad_len]; omega
theorem blk_len {u : U} (h : Ok u) : (blk u).length = 15 + room u.kind := by
  unfold blk; rw [List.length_append, body_len h, be4_len]; omega
theorem put_le (u : U) : (put u).length ≤ 94 := by
  by_cases h : Ok u
  · rw [put_ok h, blk_len h]; have := room_le u.kind; omega
  · rw [put_no h]; simp
/-- what bytes say: the state of one who reads them, behind each item -/
def s1 (b : Tx) : St := af 1 (b, false)
def s2 (b : Tx) : St := af 4 (s1 b)
def s3 (b : Tx) : St := af 4 (s2 b)
def s4 (b : Tx) : St := af 1 (s3 b)
def s5 (b : Tx) : St := af 1 (s4 b)
theorem s_len (b : Tx) : (s1 b).1.length ≤ b.length ∧ (s2 b).1.length ≤ b.length ∧ (s3 b).1.length ≤ b.length ∧ (s4 b).1.length ≤ b.length ∧ (s5 b).1.length ≤ b.length := by
  have h1 : (s1 b).1.length ≤ b.length := af_le 1 (b, false)
  have h2 : (s2 b).1.length ≤ (s1 b).1.length := af_le 4 _
  have h3 : (s3 b).1.length ≤ (s2 b).1.length := af_le 4 _
  have h4 : (s4 b).1.length ≤ (s3 b).1.length := af_le 1 _
  have h5 : (s5 b).1.length ≤ (s4 b).1.length := af_le 1 _
  omega
def kindOf (b : Tx) : Int := ((byt (b, false)).toNat : Int)
def labelOf (b : Tx) : Int := num (tk 4 (s1 b))
def numberOf (b : Tx) : Int := num (tk 4 (s2 b))
def sizeOf (b : Tx) : Nat := 256 * (byt (s3 b)).toNat + (byt (s4 b)).toNat
theorem sizeOf_lt (b : Tx) : sizeOf b < 65536 := by
  unfold sizeOf; have := (byt (s3 b)).toNat_lt; have := (byt (s4 b)).toNat_lt; omega
/-- what bytes say where they say it -/
def parse (b : Tx) : U := ⟨kindOf (b.take 11), labelOf (b.take 11), numberOf (b.take 11), (b.drop 11).take (sizeOf (b.take 11))⟩
/-- what Get answers: unit and error -/
def Good (b : Tx) : Prop := Ok (parse b) ∧ blk (parse b) = b
instance (b : Tx) : Decidable (Good b) := by unfold Good; exact inferInstance
def got (b : Tx) : U := if Good b then parse b else zero
def gotE (b : Tx) : Int := if Good b then 0 else 2
theorem got_yes {b : Tx} (h : Good b) : got b = parse b := if_pos h
theorem got_no {b : Tx} (h : ¬ Good b) : got b = zero := if_neg h
theorem gotE_yes {b : Tx} (h : Good b) : gotE b = 0 := if_pos h
theorem gotE_no {b : Tx} (h : ¬ Good b) : gotE b = 2 := if_neg h
/-- eleven bytes and more, as they are read -/
theorem split11 {b : Tx} (h : 11 ≤ b.length) : ∃ (k x y : UInt8) (L N rest : Tx), L.length = 4 ∧ N.length = 4 ∧ b = [k] ++ (L ++ (N ++ ([x] ++ ([y] ++ rest)))) := by
  match b, h with
  | k :: a1 :: a2 :: a3 :: a4 :: b1 :: b2 :: b3 :: b4 :: x :: y :: rest, _ => exact ⟨k, x, y, [a1, a2, a3, a4], [b1, b2, b3, b4], rest, rfl, rfl, rfl⟩
theorem reads (k x y : UInt8) (L N rest : Tx) (hL : L.length = 4) (hN : N.length = 4) :
    kindOf ([k] ++ (L ++ (N ++ ([x] ++ ([y] ++ rest))))) = (k.toNat : Int) ∧ labelOf ([k] ++ (L ++ (N ++ ([x] ++ ([y] ++ rest))))) = num L ∧ numberOf ([k] ++ (L ++ (N ++ ([x] ++ ([y] ++ rest))))) = num N
      ∧ sizeOf ([k] ++ (L ++ (N ++ ([x] ++ ([y] ++ rest))))) = 256 * x.toNat + y.toNat ∧ s5 ([k] ++ (L ++ (N ++ ([x] ++ ([y] ++ rest))))) = (rest, false) := by
  have e1 : s1 ([k] ++ (L ++ (N ++ ([x] ++ ([y] ++ rest))))) = (L ++ (N ++ ([x] ++ ([y] ++ rest))), false) := af_app 1 _ _ _ rfl
  have e2 : s2 ([k] ++ (L ++ (N ++ ([x] ++ ([y] ++ rest))))) = (N ++ ([x] ++ ([y] ++ rest)), false) := by unfold s2; rw [e1]; exact af_app 4 _ _ _ hL
  have e3 : s3 ([k] ++ (L ++ (N ++ ([x] ++ ([y] ++ rest))))) = ([x] ++ ([y] ++ rest), false) := by unfold s3; rw [e2]; exact af_app 4 _ _ _ hN
  have e4 : s4 ([k] ++ (L ++ (N ++ ([x] ++ ([y] ++ rest))))) = ([y] ++ rest, false) := by unfold s4; rw [e3]; exact af_app 1 _ _ _ rfl
  have e5 : s5 ([k] ++ (L ++ (N ++ ([x] ++ ([y] ++ rest))))) = (rest, false) := by unfold s5; rw [e4]; exact af_app 1 _ _ _ rfl
  refine ⟨?_, ?_, ?_, ?_, e5⟩
  · unfold kindOf; rw [show byt ([k] ++ (L ++ (N ++ ([x] ++ ([y] ++ rest)))), false) = k from byt_cons k _ _]
  · unfold labelOf; rw [e1, tk_app 4 _ _ _ hL]
  · unfold numberOf; rw [e2, tk_app 4 _ _ _ hN]
  · unfold sizeOf; rw [e3, e4, show byt ([x] ++ ([y] ++ rest), false) = x from byt_cons x _ _, show byt ([y] ++ rest, false) = y from byt_cons y _ _]
theorem take11 (k x y : UInt8) (L N rest : Tx) (hL : L.length = 4) (hN : N.length = 4) :
    ([k] ++ (L ++ (N ++ ([x] ++ ([y] ++ rest))))).take 11 = [k] ++ (L ++ (N ++ ([x] ++ ([y] ++ [])))) ∧ ([k] ++ (L ++ (N ++ ([x] ++ ([y] ++ rest))))).drop 11 = rest := by
  have e : [k] ++ (L ++ (N ++ ([x] ++ ([y] ++ rest)))) = ([k] ++ (L ++ (N ++ ([x] ++ ([y] ++ []))))) ++ rest := by simp
  have hl : ([k] ++ (L ++ (N ++ ([x] ++ ([y] ++ []))))).length = 11 := by simp; omega
  rw [e]
  exact ⟨List.take_left' hl, List.drop_left' hl⟩
/-- of eleven bytes and more the first eleven alone are read -/
theorem reads11 {b : Tx} (h : 11 ≤ b.length) : kindOf (b.take 11) = kindOf b ∧ labelOf (b.take 11) = labelOf b ∧ numberOf (b.take 11) = numberOf b ∧ sizeOf (b.take 11) = sizeOf b ∧ s5 b = (b.drop 11, false) := by
  obtain ⟨k, x, y, L, N, rest, hL, hN, rfl⟩ := split11 h
  obtain ⟨h1, h2⟩ := take11 k x y L N rest hL hN
  obtain ⟨a1, a2, a3, a4, a5⟩ := reads k x y L N rest hL hN
  obtain ⟨b1, b2, b3, b4, b5⟩ := reads k x y L N [] hL hN
  rw [h1, h2]
  exact ⟨b1.trans a1.symm, b2.trans a2.symm, b3.trans a3.symm, b4.trans a4.symm, a5⟩
theorem be4_num {L : Tx} (h : L.length = 4) : be4 (num L) = L := by
  match L, h with
  | [a, b, c, d], _ =>
    have ha := a.toNat_lt; have hb := b.toNat_lt; have hc := c.toNat_lt; have hd := d.toNat_lt
    unfold be4 num
    simp only [List.foldl_cons, List.foldl_nil]
    rw [← b8_of (c := a) (by omega), ← b8_of (c := b) (by omega), ← b8_of (c := c) (by omega), ← b8_of (c := d) (by omega)]
theorem parse_blk {u : U} (h : Ok u) : parse (blk u) = u := by
  have hu := h
  obtain ⟨⟨h1, h2, h3, h4, h5, h6⟩, h7⟩ := h
  have hr := room_le u.kind
  have e : blk u = [b8 u.kind] ++ (be4 u.label ++ (be4 u.number ++ ([b8 ((u.load.length : Int) / 256)] ++ ([b8 (u.load.length : Int)] ++ (u.load ++ (pad u ++ be4 (sumL (body u)))))))) := by
    conv => lhs; unfold blk; rw [show body u = head u ++ u.load ++ pad u from rfl]; unfold head
    simp only [List.append_assoc, List.cons_append, List.nil_append]
    rfl
  obtain ⟨e1, e2⟩ := take11 (b8 u.kind) (b8 ((u.load.length : Int) / 256)) (b8 (u.load.length : Int)) (be4 u.label) (be4 u.number) (u.load ++ (pad u ++ be4 (sumL (body u)))) rfl rfl
  obtain ⟨b1, b2, b3, b4, b5⟩ := reads (b8 u.kind) (b8 ((u.load.length : Int) / 256)) (b8 (u.load.length : Int)) (be4 u.label) (be4 u.number) [] rfl rfl
  unfold parse
  rw [e, e1, e2, b1, b2, b3, b4, num_be4, num_be4, b8_nat]
  have g1 := b8_nat ((u.load.length : Int) / 256)
  have g2 := b8_nat (u.load.length : Int)
  have g3 : 256 * (b8 ((u.load.length : Int) / 256)).toNat + (b8 (u.load.length : Int)).toNat = u.load.length := by omega
  rw [g3, List.take_left' rfl, show u.kind % 256 = u.kind by omega, show u.label % 4294967296 = u.label by omega, show u.number % 4294967296 = u.number by omega]
theorem good_blk {u : U} (h : Ok u) : Good (blk u) := by unfold Good; rw [parse_blk h]; exact ⟨h, rfl⟩
theorem blk_inj {u v : U} (h : Ok u) (h' : Ok v) (e : blk u = blk v) : u = v := by rw [← parse_blk h, e, parse_blk h']
/-- of bytes that are a block there are many -/
theorem good_len {b : Tx} (h : Good b) : b.length = 15 + room (parse b).kind := by rw [← blk_len h.1, h.2]
theorem good_ge {b : Tx} (h : Good b) : 79 ≤ b.length := by have := good_len h; have := room_ge (parse b).kind; omega
theorem good_le {b : Tx} (h : Good b) : b.length ≤ 94 := by have := good_len h; have := room_le (parse b).kind; omega
/-- one who reads all of the bytes finds them bad where they are too few -/
theorem af_bad {n : Nat} {s : St} (h : (af n s).2 = false) : s.2 = false ∧ n ≤ s.1.length ∧ (af n s).1.length + n = s.1.length := by
  unfold af at h ⊢
  by_cases e : s.1.length < n
  · rw [if_pos e] at h; cases h
  · rw [if_neg e] at h ⊢; exact ⟨h, by omega, by simp; omega⟩
theorem s5_bad {b : Tx} (h : (s5 b).2 = false) : 11 ≤ b.length := by
  obtain ⟨h4, h4', h4''⟩ := af_bad h
  obtain ⟨h3, h3', h3''⟩ := af_bad h4
  obtain ⟨h2, h2', h2''⟩ := af_bad h3
  obtain ⟨h1, h1', h1''⟩ := af_bad h2
  obtain ⟨h0, h0', h0''⟩ := af_bad h1
  simp only at h0' h0''
  have e1 : (af 1 (b, false)).1.length = (s1 b).1.length := rfl
  have e2 : (af 4 (s1 b)).1.length = (s2 b).1.length := rfl
  have e3 : (af 4 (s2 b)).1.length = (s3 b).1.length := rfl
  have e4 : (af 1 (s3 b)).1.length = (s4 b).1.length := rfl
  omega
/-- the document's own way: bad, or too few bytes left -/
theorem good_not_bad {b : Tx} (h : Good b) : (s5 b).2 = false ∧ sizeOf b ≤ (s5 b).1.length := by
  have hg := good_ge h
  have hl := good_len h
  obtain ⟨r1, r2, r3, r4, r5⟩ := reads11 (b := b) (by omega)
  have h2 : (parse b).load.length ≤ room (parse b).kind := h.1.2
  have h3 : (parse b).load.length = min (sizeOf b) (b.length - 11) := by
    rw [← r4]; unfold parse; rw [List.length_take, List.length_drop]
  rw [r5]
  refine ⟨rfl, ?_⟩
  rw [h3] at h2
  have h4 : (b.drop 11, false).1.length = b.length - 11 := List.length_drop
  rw [h4]
  generalize room (parse b).kind = m at hl h2
  generalize sizeOf b = z at h2 ⊢
  omega
theorem parse_full {b : Tx} (h : (s5 b).2 = false) (h' : sizeOf b ≤ (s5 b).1.length) : parse b = ⟨kindOf b, labelOf b, numberOf b, tk (sizeOf b) (s5 b)⟩ := by
  obtain ⟨r1, r2, r3, r4, r5⟩ := reads11 (b := b) (s5_bad h)
  unfold parse
  rw [r1, r2, r3, r4, tk_yes (by omega), r5]
/-- the first byte of a block is its kind -/
theorem blk_head (u : U) : ∃ t, blk u = b8 u.kind :: t := by
  unfold blk body head
  simp only [List.cons_append, List.nil_append]
  exact ⟨_, rfl⟩
theorem kind_head {b : Tx} (h : Good b) : ∃ t, b = b8 (parse b).kind :: t := by
  obtain ⟨t, ht⟩ := blk_head (parse b)
  exact ⟨t, h.2.symm.trans ht⟩
theorem parse_kind {b c : Tx} (hb : Good b) (hc : Good c) (h : b.head? = c.head?) : (parse b).kind = (parse c).kind := by
  obtain ⟨t, ht⟩ := kind_head hb
  obtain ⟨t', ht'⟩ := kind_head hc
  have e1 : b.head? = some (b8 (parse b).kind) := (congrArg List.head? ht).trans rfl
  have e2 : c.head? = some (b8 (parse c).kind) := (congrArg List.head? ht').trans rfl
  rw [e1, e2] at h
  have h' := Option.some.inj h
  have g1 := b8_nat (parse b).kind
  have g2 := b8_nat (parse c).kind
  rw [h'] at g1
  obtain ⟨k1, k2, -⟩ := hb.1.1
  obtain ⟨k3, k4, -⟩ := hc.1.1
  omega
/-- of two that begin alike and are not as long one is no block -/
theorem not_both {b c : Tx} (hb : Good b) (h : b.head? = c.head?) (hl : b.length ≠ c.length) : ¬ Good c := fun hc => by
  have h1 := good_len hb
  have h2 := good_len hc
  rw [parse_kind hb hc h] at h1
  omega
theorem cut_no {b : Tx} (hb : Good b) {n : Nat} (hn : n < b.length) : ¬ Good (b.take n) := by
  by_cases h0 : n = 0
  · subst h0; intro h; have := good_ge h; simp at this
  · refine not_both hb ?_ (by simp; omega)
    cases b with
    | nil => simp at hn
    | cons c l =>
      obtain ⟨m, rfl⟩ : ∃ m, n = m + 1 := ⟨n - 1, by omega⟩
      rfl
theorem more_no {b : Tx} (hb : Good b) (c : UInt8) : ¬ Good (b ++ [c]) := by
  refine not_both hb ?_ (by simp)
  cases b with
  | nil => have := good_ge hb; simp at this
  | cons d l => rfl
theorem be4_inj {m n : Int} (h0 : 0 ≤ m) (h1 : m < 4294967296) (h2 : 0 ≤ n) (h3 : n < 4294967296) (h : be4 m = be4 n) : m = n := by
  have := congrArg num h
  rw [num_be4, num_be4] at this
  omega
theorem getD_set (l : Tx) (p i : Nat) (x : UInt8) (hp : p < l.length) : (l.set p x).getD i 0 = if i = p then x else l.getD i 0 := by
  rw [List.getD_eq_getElem?_getD, List.getElem?_set, List.getD_eq_getElem?_getD]
  by_cases e : p = i
  · subst e; rw [if_pos rfl, if_pos rfl, if_pos hp]; rfl
  · rw [if_neg e, if_neg (fun h => e h.symm)]
theorem getD_take (l : Tx) {n i : Nat} (hi : i < n) : (l.take n).getD i 0 = l.getD i 0 := by
  rw [List.getD_eq_getElem?_getD, List.getElem?_take, if_pos hi, List.getD_eq_getElem?_getD]
/-- a block of which one byte is another is none -/
theorem turn_no {b : Tx} (hb : Good b) {p : Nat} (hp : p < b.length) {x : UInt8} (hx : x ≠ b[p]) : ¬ Good (b.set p x) := by
  intro hc
  have hl1 := good_len hb
  have hl2 := good_len hc
  rw [List.length_set] at hl2
  have hr : room (parse (b.set p x)).kind = room (parse b).kind := by omega
  have e1 := hb.2
  have e2 := hc.2
  have n1 := body_len hb.1
  have n2 := body_len hc.1
  rw [hr] at n2
  have t1 : body (parse b) = b.take (11 + room (parse b).kind) := by
    have : (blk (parse b)).take (11 + room (parse b).kind) = body (parse b) := List.take_left' n1
    rw [← this, e1]
  have t2 : body (parse (b.set p x)) = (b.set p x).take (11 + room (parse b).kind) := by
    have : (blk (parse (b.set p x))).take (11 + room (parse b).kind) = body (parse (b.set p x)) := List.take_left' n2
    rw [← this, e2]
  have d1 : be4 (sumL (body (parse b))) = b.drop (11 + room (parse b).kind) := by
    have : (blk (parse b)).drop (11 + room (parse b).kind) = be4 (sumL (body (parse b))) := List.drop_left' n1
    rw [← this, e1]
  have d2 : be4 (sumL (body (parse (b.set p x)))) = (b.set p x).drop (11 + room (parse b).kind) := by
    have : (blk (parse (b.set p x))).drop (11 + room (parse b).kind) = be4 (sumL (body (parse (b.set p x)))) := List.drop_left' n2
    rw [← this, e2]
  by_cases hpn : p < 11 + room (parse b).kind
  · have hd : (b.set p x).drop (11 + room (parse b).kind) = b.drop (11 + room (parse b).kind) := List.drop_set_of_lt hpn
    rw [hd, ← d1] at d2
    have hs := be4_inj (sumL_lo _) (sumL_hi _) (sumL_lo _) (sumL_hi _) d2
    refine sumL_one (l := body (parse (b.set p x))) (l' := body (parse b)) (n2.trans n1.symm) (p := p) (by omega) ?_ (fun i hi hip => ?_) hs
    · rw [t1, t2, getD_take _ hpn, getD_take _ hpn, getD_set _ _ _ _ hp, if_pos rfl, List.getD_eq_getElem?_getD, List.getElem?_eq_getElem hp]
      exact hx
    · rw [n2] at hi
      rw [t1, t2, getD_take _ hi, getD_take _ hi, getD_set _ _ _ _ hp, if_neg hip]
  · have ht : (b.set p x).take (11 + room (parse b).kind) = b.take (11 + room (parse b).kind) := List.take_set_of_le (by omega)
    rw [ht, ← t1] at t2
    have : blk (parse (b.set p x)) = blk (parse b) := by unfold blk; rw [t2]
    rw [e1, e2] at this
    have h3 : (b.set p x)[p]'(by simpa using hp) = b[p] := by simp only [this]
    rw [List.getElem_set_self] at h3
    exact hx h3
end Fm
end Go.Proofs.Ytjhbmijdpcbbiaa
