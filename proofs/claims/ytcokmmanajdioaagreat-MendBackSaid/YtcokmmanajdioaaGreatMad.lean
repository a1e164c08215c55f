/- Numbers and texts as bytes, and what is read of bytes. No program. Chapter 9's blocks as lists of bytes: which block a unit is, which unit bytes are. No function of the program. Chapter 10's heads and seals as lists of bytes: which may be, which bytes each is, which one any bytes are. No program. -/
import Derived.Test.YtcokmmanajdioaaGreatMab
import Derived.Test.YtcokmmanajdioaaGreatMac
namespace Cd
open Pt (Tx)

/-- the lowest byte of a number -/
def b8 (n : Int) : UInt8 := UInt8.ofNat (n % 256).toNat
theorem b8_nat (n : Int) : ((b8 n).toNat : Int) = n % 256 := by
  unfold b8
  rw [UInt8.toNat_ofNat']
  have h : (n % 256).toNat < 256 := by omega
  rw [Nat.mod_eq_of_lt (by simpa using h)]
  omega
theorem b8_of {n : Int} {c : UInt8} (h : (c.toNat : Int) = n % 256) : c = b8 n := by
  apply UInt8.toNat.inj
  have := b8_nat n
  omega
theorem b8_self (c : UInt8) : b8 (c.toNat : Int) = c := (b8_of (by have := c.toNat_lt; omega)).symm
/-- a number's low four bytes, the highest first -/
def be4 (n : Int) : Tx := [b8 (n / 16777216), b8 (n / 65536), b8 (n / 256), b8 n]
/-- the number that bytes are -/
def num (l : Tx) : Int := l.foldl (fun n c => n * 256 + (c.toNat : Int)) 0
theorem num_snoc (l : Tx) (c : UInt8) : num (l ++ [c]) = num l * 256 + (c.toNat : Int) := by simp [num]
theorem num_lo (l : Tx) : 0 ≤ num l := by
  unfold num
  suffices h : ∀ (l : Tx) (n : Int), 0 ≤ n → 0 ≤ l.foldl (fun n c => n * 256 + (c.toNat : Int)) n from h l 0 (by omega)
  intro l
  induction l with
  | nil => intro n h; exact h
  | cons c l ih => intro n h; exact ih _ (by show 0 ≤ n * 256 + (c.toNat : Int); omega)
theorem num_hi (l : Tx) : num l < 256 ^ l.length := by
  suffices h : ∀ k, k ≤ l.length → num (l.take k) < 256 ^ k by
    have := h l.length (Nat.le_refl _)
    rwa [List.take_of_length_le (Nat.le_refl _)] at this
  intro k
  induction k with
  | zero => intro _; simp [num]
  | succ k ih =>
    intro hk
    have h1 := ih (by omega)
    rw [List.take_succ_eq_append_getElem (by omega), num_snoc]
    have hc := (l[k]).toNat_lt
    have e : (256 : Int) ^ (k + 1) = 256 ^ k * 256 := by rw [Int.pow_succ]
    rw [e]; omega
theorem num_be4 (n : Int) : num (be4 n) = n % 4294967296 := by
  unfold num be4
  simp only [List.foldl_cons, List.foldl_nil, b8_nat]
  omega
theorem be4_len (n : Int) : (be4 n).length = 4 := rfl
/-- a text's bytes: its length, and its beginning -/
def tb (s : Tx) : Tx := b8 ((s.take 255).length : Int) :: s.take 255
theorem tb_len (s : Tx) : (tb s).length = 1 + min 255 s.length := by simp [tb]; omega
/-- what is left to read, and whether bytes were missing -/
abbrev St := Tx × Bool
/-- the next n bytes, and what is left behind them -/
def tk (n : Nat) (s : St) : Tx := if s.1.length < n then [] else s.1.take n
def af (n : Nat) (s : St) : St := if s.1.length < n then ([], true) else (s.1.drop n, s.2)
theorem tk_no {n : Nat} {s : St} (h : s.1.length < n) : tk n s = [] := if_pos h
theorem af_no {n : Nat} {s : St} (h : s.1.length < n) : af n s = ([], true) := if_pos h
theorem tk_yes {n : Nat} {s : St} (h : ¬ s.1.length < n) : tk n s = s.1.take n := if_neg h
theorem af_yes {n : Nat} {s : St} (h : ¬ s.1.length < n) : af n s = (s.1.drop n, s.2) := if_neg h
theorem tk_le (n : Nat) (s : St) : (tk n s).length ≤ n := by
  unfold tk; split
  · simp
  · simp; omega
theorem tk_len_le (n : Nat) (s : St) : (tk n s).length ≤ s.1.length := by
  unfold tk; split
  · simp
  · simp; omega
theorem af_le (n : Nat) (s : St) : (af n s).1.length ≤ s.1.length := by
  unfold af; split
  · simp
  · simp
/-- one that is bad has nothing left -/
def Ok (s : St) : Prop := s.2 = true → s.1 = []
theorem Ok.af {s : St} (h : Ok s) (n : Nat) : Ok (af n s) := by
  unfold Cd.af Ok; split
  · intro _; rfl
  · intro h'; rw [h h']; simp
def byt (s : St) : UInt8 := (tk 1 s).headD 0
def txt (s : St) : Tx := tk (byt s).toNat (af 1 s)
def afT (s : St) : St := af (byt s).toNat (af 1 s)
theorem tk_app (n : Nat) (a b : Tx) (bad : Bool) (h : a.length = n) : tk n (a ++ b, bad) = a := by
  unfold tk; rw [if_neg (by simp; omega)]; simp [← h]
theorem af_app (n : Nat) (a b : Tx) (bad : Bool) (h : a.length = n) : af n (a ++ b, bad) = (b, bad) := by
  unfold af; rw [if_neg (by simp; omega)]; simp [← h]
theorem byt_cons (c : UInt8) (b : Tx) (bad : Bool) : byt (c :: b, bad) = c := by
  unfold byt
  rw [show c :: b = [c] ++ b from rfl, tk_app 1 [c] b bad rfl]; rfl
theorem txt_tb (s b : Tx) (bad : Bool) : txt (tb s ++ b, bad) = s.take 255 := by
  have hl : (s.take 255).length ≤ 255 := by simp; omega
  have hb : (b8 ((s.take 255).length : Int)).toNat = (s.take 255).length := by have := b8_nat ((s.take 255).length : Int); omega
  unfold txt tb
  rw [List.cons_append, byt_cons, hb, show b8 ((s.take 255).length : Int) :: (s.take 255 ++ b) = [b8 ((s.take 255).length : Int)] ++ (s.take 255 ++ b) from rfl, af_app 1 _ _ bad rfl, tk_app _ _ _ bad rfl]
theorem afT_tb (s b : Tx) (bad : Bool) : afT (tb s ++ b, bad) = (b, bad) := by
  have hl : (s.take 255).length ≤ 255 := by simp; omega
  have hb : (b8 ((s.take 255).length : Int)).toNat = (s.take 255).length := by have := b8_nat ((s.take 255).length : Int); omega
  unfold afT tb
  rw [List.cons_append, byt_cons, hb, show b8 ((s.take 255).length : Int) :: (s.take 255 ++ b) = [b8 ((s.take 255).length : Int)] ++ (s.take 255 ++ b) from rfl, af_app 1 _ _ bad rfl, af_app _ _ _ bad rfl]
end Cd
namespace Go.Proofs.YtcokmmanajdioaaGreat
open Go.RowKit
open Pt (Tx)

/-- the sum of bytes -/
def sumL (l : Tx) : Int := bi (crc 0#32 (rowL l) l.length)
theorem sumL_lo (l : Tx) : 0 ≤ sumL l := bi_lo _
theorem sumL_hi (l : Tx) : sumL l < 4294967296 := bi_hi _
theorem sumL_one {l l' : Tx} (hl : l.length = l'.length) {p : Nat} (hp : p < l.length) (hne : l.getD p 0 ≠ l'.getD p 0) (he : ∀ i, i < l.length → i ≠ p → l.getD i 0 = l'.getD i 0) : sumL l ≠ sumL l' := by
  intro h
  have h1 := bi_inj h
  unfold crc at h1
  rw [← hl] at h1
  have h' : Cr.ups (~~~0#32) (fun i => (rowL l i).nat) l.length = Cr.ups (~~~0#32) (fun i => (rowL l' i).nat) l.length := by
    have := congrArg (fun x => ~~~x) h1
    simpa using this
  refine Cr.ups_one hp (rowL l p).nat_lt (rowL l' p).nat_lt ?_ (fun i hi hi' => ?_) h'
  · show (l.getD p 0).toNat ≠ (l'.getD p 0).toNat
    exact fun e => hne (UInt8.toNat.inj e)
  · show (l.getD i 0).toNat = (l'.getD i 0).toNat
    rw [he i hi hi']

namespace Fm
open Cd
/-- a unit -/
structure U where
  kind : Int
  label : Int
  number : Int
  load : Tx
theorem U.eta (u : U) : (⟨u.kind, u.label, u.number, u.load⟩ : U) = u := rfl
def zero : U := ⟨0, 0, 0, []⟩
def room (k : Int) : Nat := if k = 6 then 79 else 64
theorem room_le (k : Int) : room k ≤ 79 := by unfold room; split <;> omega
theorem room_ge (k : Int) : 64 ≤ room k := by unfold room; split <;> omega
def argOk (u : U) : Prop := 1 ≤ u.kind ∧ u.kind ≤ 6 ∧ 1 ≤ u.label ∧ u.label ≤ 2147483647 ∧ 0 ≤ u.number ∧ u.number ≤ 2147483647
instance (u : U) : Decidable (argOk u) := by unfold argOk; exact inferInstance
def err (u : U) : Int := if argOk u then (if room u.kind < u.load.length then 4 else 0) else 1
/-- it has a block -/
def Ok (u : U) : Prop := argOk u ∧ u.load.length ≤ room u.kind
instance (u : U) : Decidable (Ok u) := by unfold Ok; exact inferInstance
theorem err_ok {u : U} (h : Ok u) : err u = 0 := by unfold err; rw [if_pos h.1, if_neg (by have := h.2; omega)]
theorem err_arg {u : U} (h : ¬ argOk u) : err u = 1 := by unfold err; rw [if_neg h]
theorem err_long {u : U} (h : argOk u) (h' : room u.kind < u.load.length) : err u = 4 := by unfold err; rw [if_pos h, if_pos h']
theorem err_zero {u : U} : err u = 0 ↔ Ok u := by
  unfold err Ok
  by_cases h : argOk u
  · rw [if_pos h]
    by_cases h' : room u.kind < u.load.length
    · rw [if_pos h']; exact ⟨fun e => absurd e (by decide), fun e => absurd e.2 (by omega)⟩
    · rw [if_neg h']; exact ⟨fun _ => ⟨h, by omega⟩, fun _ => rfl⟩
  · rw [if_neg h]; exact ⟨fun e => absurd e (by decide), fun e => absurd e.1 h⟩
def head (u : U) : Tx := [b8 u.kind] ++ be4 u.label ++ be4 u.number ++ [b8 ((u.load.length : Int) / 256)] ++ [b8 (u.load.length : Int)]
theorem head_len (u : U) : (head u).length = 11 := rfl
def pad (u : U) : Tx := List.replicate (room u.kind - u.load.length) 0
def body (u : U) : Tx := head u ++ u.load ++ pad u
def blk (u : U) : Tx := body u ++ be4 (sumL (body u))
/-- what Put answers -/
def put (u : U) : Tx := if Ok u then blk u else []
theorem put_ok {u : U} (h : Ok u) : put u = blk u := if_pos h
theorem put_no {u : U} (h : ¬ Ok u) : put u = [] := if_neg h
theorem pad_len (u : U) : (pad u).length = room u.kind - u.load.length := List.length_replicate
theorem body_len {u : U} (h : Ok u) : (body u).length = 11 + room u.kind := by
  have := h.2
  unfold body; rw [List.length_append, List.length_append, head_len, pad_len]; omega
theorem blk_len {u : U} (h : Ok u) : (blk u).length = 15 + room u.kind := by
  unfold blk; rw [List.length_append, body_len h, be4_len]; omega
theorem put_le (u : U) : (put u).length ≤ 94 := by
  by_cases h : Ok u
  · rw [put_ok h, blk_len h]; have := room_le u.kind; omega
  · rw [put_no h]; simp
/-- what bytes say: the state of one who reads them, behind each item -/
def s1 (b : Tx) : St := af 1 (b, false)
def s2 (b : Tx) : St := af 4 (s1 b)
def s3 (b : Tx) : St := af 4 (s2 b)
def s4 (b : Tx) : St := af 1 (s3 b)
def s5 (b : Tx) : St := af 1 (s4 b)
theorem s_len (b : Tx) : (s1 b).1.length ≤ b.length ∧ (s2 b).1.length ≤ b.length ∧ (s3 b).1.length ≤ b.length ∧ (s4 b).1.length ≤ b.length ∧ (s5 b).1.length ≤ b.length := by
  have h1 : (s1 b).1.length ≤ b.length := af_le 1 (b, false)
  have h2 : (s2 b).1.length ≤ (s1 b).1.length := af_le 4 _
  have h3 : (s3 b).1.length ≤ (s2 b).1.length := af_le 4 _
  have h4 : (s4 b).1.length ≤ (s3 b).1.length := af_le 1 _
  have h5 : (s5 b).1.length ≤ (s4 b).1.length := af_le 1 _
  omega
def kindOf (b : Tx) : Int := ((byt (b, false)).toNat : Int)
def labelOf (b : Tx) : Int := num (tk 4 (s1 b))
def numberOf (b : Tx) : Int := num (tk 4 (s2 b))
def sizeOf (b : Tx) : Nat := 256 * (byt (s3 b)).toNat + (byt (s4 b)).toNat
theorem sizeOf_lt (b : Tx) : sizeOf b < 65536 := by
  unfold sizeOf; have := (byt (s3 b)).toNat_lt; have := (byt (s4 b)).toNat_lt; omega
/-- what bytes say where they say it -/
def parse (b : Tx) : U := ⟨kindOf (b.take 11), labelOf (b.take 11), numberOf (b.take 11), (b.drop 11).take (sizeOf (b.take 11))⟩
/-- what Get answers: unit and error -/
def Good (b : Tx) : Prop := Ok (parse b) ∧ blk (parse b) = b
instance (b : Tx) : Decidable (Good b) := by unfold Good; exact inferInstance
def got (b : Tx) : U := if Good b then parse b else zero
def gotE (b : Tx) : Int := if Good b then 0 else 2
theorem got_yes {b : Tx} (h : Good b) : got b = parse b := if_pos h
theorem got_no {b : Tx} (h : ¬ Good b) : got b = zero := if_neg h
theorem gotE_yes {b : Tx} (h : Good b) : gotE b = 0 := if_pos h
theorem gotE_no {b : Tx} (h : ¬ Good b) : gotE b = 2 := if_neg h
/-- eleven bytes and more, as they are read -/
theorem split11 {b : Tx} (h : 11 ≤ b.length) : ∃ (k x y : UInt8) (L N rest : Tx), L.length = 4 ∧ N.length = 4 ∧ b = [k] ++ (L ++ (N ++ ([x] ++ ([y] ++ rest)))) := by
  match b, h with
  | k :: a1 :: a2 :: a3 :: a4 :: b1 :: b2 :: b3 :: b4 :: x :: y :: rest, _ => exact ⟨k, x, y, [a1, a2, a3, a4], [b1, b2, b3, b4], rest, rfl, rfl, rfl⟩
theorem reads (k x y : UInt8) (L N rest : Tx) (hL : L.length = 4) (hN : N.length = 4) :
    kindOf ([k] ++ (L ++ (N ++ ([x] ++ ([y] ++ rest))))) = (k.toNat : Int) ∧ labelOf ([k] ++ (L ++ (N ++ ([x] ++ ([y] ++ rest))))) = num L ∧ numberOf ([k] ++ (L ++ (N ++ ([x] ++ ([y] ++ rest))))) = num N
      ∧ sizeOf ([k] ++ (L ++ (N ++ ([x] ++ ([y] ++ rest))))) = 256 * x.toNat + y.toNat ∧ s5 ([k] ++ (L ++ (N ++ ([x] ++ ([y] ++ rest))))) = (rest, false) := by
  have e1 : s1 ([k] ++ (L ++ (N ++ ([x] ++ ([y] ++ rest))))) = (L ++ (N ++ ([x] ++ ([y] ++ rest))), false) := af_app 1 _ _ _ rfl
  have e2 : s2 ([k] ++ (L ++ (N ++ ([x] ++ ([y] ++ rest))))) = (N ++ ([x] ++ ([y] ++ rest)), false) := by unfold s2; rw [e1]; exact af_app 4 _ _ _ hL
  have e3 : s3 ([k] ++ (L ++ (N ++ ([x] ++ ([y] ++ rest))))) = ([x] ++ ([y] ++ rest), false) := by unfold s3; rw [e2]; exact af_app 4 _ _ _ hN
  have e4 : s4 ([k] ++ (L ++ (N ++ ([x] ++ ([y] ++ rest))))) = ([y] ++ rest, false) := by unfold s4; rw [e3]; exact af_app 1 _ _ _ rfl
  have e5 : s5 ([k] ++ (L ++ (N ++ ([x] ++ ([y] ++ rest))))) = (rest, false) := by unfold s5; rw [e4]; exact af_app 1 _ _ _ rfl
  refine ⟨?_, ?_, ?_, ?_, e5⟩
  · unfold kindOf; rw [show byt ([k] ++ (L ++ (N ++ ([x] ++ ([y] ++ rest)))), false) = k from byt_cons k _ _]
  · unfold labelOf; rw [e1, tk_app 4 _ _ _ hL]
  · unfold numberOf; rw [e2, tk_app 4 _ _ _ hN]
  · unfold sizeOf; rw [e3, e4, show byt ([x] ++ ([y] ++ rest), false) = x from byt_cons x _ _, show byt ([y] ++ rest, false) = y from byt_cons y _ _]
theorem take11 (k x y : UInt8) (L N rest : Tx) (hL : L.length = 4) (hN : N.length = 4) :
    ([k] ++ (L ++ (N ++ ([x] ++ ([y] ++ rest))))).take 11 = [k] ++ (L ++ (N ++ ([x] ++ ([y] ++ [])))) ∧ ([k] ++ (L ++ (N ++ ([x] ++ ([y] ++ rest))))).drop 11 = rest := by
  have e : [k] ++ (L ++ (N ++ ([x] ++ ([y] ++ rest)))) = ([k] ++ (L ++ (N ++ ([x] ++ ([y] ++ []))))) ++ rest := by simp
  have hl : ([k] ++ (L ++ (N ++ ([x] ++ ([y] ++ []))))).length = 11 := by simp; omega
  rw [e]
  exact ⟨List.take_left' hl, List.drop_left' hl⟩
/-- of eleven bytes and more the first eleven alone are read -/
theorem reads11 {b : Tx} (h : 11 ≤ b.length) : kindOf (b.take 11) = kindOf b ∧ labelOf (b.take 11) = labelOf b ∧ numberOf (b.take 11) = numberOf b ∧ sizeOf (b.take 11) = sizeOf b ∧ s5 b = (b.drop 11, false) := by
  obtain ⟨k, x, y, L, N, rest, hL, hN, rfl⟩ := split11 h
  obtain ⟨h1, h2⟩ := take11 k x y L N rest hL hN
  obtain ⟨a1, a2, a3, a4, a5⟩ := reads k x y L N rest hL hN
  obtain ⟨b1, b2, b3, b4, b5⟩ := reads k x y L N [] hL hN
  rw [h1, h2]
  exact ⟨b1.trans a1.symm, b2.trans a2.symm, b3.trans a3.symm, b4.trans a4.symm, a5⟩
theorem be4_num {L : Tx} (h : L.length = 4) : be4 (num L) = L := by
  match L, h with
  | [a, b, c, d], _ =>
    have ha := a.toNat_lt; have hb := b.toNat_lt; have hc := c.toNat_lt; have hd := d.toNat_lt
    unfold be4 num
    simp only [List.foldl_cons, List.foldl_nil]
    rw [← b8_of (c := a) (by omega), ← b8_of (c := b) (by omega), ← b8_of (c := c) (by omega), ← b8_of (c := d) (by omega)]
theorem parse_blk {u : U} (h : Ok u) : parse (blk u) = u := by
  have hu := h
  obtain ⟨⟨h1, h2, h3, h4, h5, h6⟩, h7⟩ := h
  have hr := room_le u.kind
  have e : blk u = [b8 u.kind] ++ (be4 u.label ++ (be4 u.number ++ ([b8 ((u.load.length : Int) / 256)] ++ ([b8 (u.load.length : Int)] ++ (u.load ++ (pad u ++ be4 (sumL (body u)))))))) := by
    conv => lhs; unfold blk; rw [show body u = head u ++ u.load ++ pad u from rfl]; unfold head
    simp only [List.append_assoc, List.cons_append, List.nil_append]
    rfl
  obtain ⟨e1, e2⟩ := take11 (b8 u.kind) (b8 ((u.load.length : Int) / 256)) (b8 (u.load.length : Int)) (be4 u.label) (be4 u.number) (u.load ++ (pad u ++ be4 (sumL (body u)))) rfl rfl
  obtain ⟨b1, b2, b3, b4, b5⟩ := reads (b8 u.kind) (b8 ((u.load.length : Int) / 256)) (b8 (u.load.length : Int)) (be4 u.label) (be4 u.number) [] rfl rfl
  unfold parse
  rw [e, e1, e2, b1, b2, b3, b4, num_be4, num_be4, b8_nat]
  have g1 := b8_nat ((u.load.length : Int) / 256)
  have g2 := b8_nat (u.load.length : Int)
  have g3 : 256 * (b8 ((u.load.length : Int) / 256)).toNat + (b8 (u.load.length : Int)).toNat = u.load.length := by omega
  rw [g3, List.take_left' rfl, show u.kind % 256 = u.kind by omega, show u.label % 4294967296 = u.label by omega, show u.number % 4294967296 = u.number by omega]
theorem good_blk {u : U} (h : Ok u) : Good (blk u) := by unfold Good; rw [parse_blk h]; exact ⟨h, rfl⟩
theorem blk_inj {u v : U} (h : Ok u) (h' : Ok v) (e : blk u = blk v) : u = v := by rw [← parse_blk h, e, parse_blk h']
/-- of bytes that are a block there are many -/
theorem good_len {b : Tx} (h : Good b) : b.length = 15 + room (parse b).kind := by rw [← blk_len h.1, h.2]
theorem good_ge {b : Tx} (h : Good b) : 79 ≤ b.length := by have := good_len h; have := room_ge (parse b).kind; omega
theorem good_le {b : Tx} (h : Good b) : b.length ≤ 94 := by have := good_len h; have := room_le (parse b).kind; omega
/-- one who reads all of the bytes finds them bad where they are too few -/
theorem af_bad {n : Nat} {s : St} (h : (af n s).2 = false) : s.2 = false ∧ n ≤ s.1.length ∧ (af n s).1.length + n = s.1.length := by
  unfold af at h ⊢
  by_cases e : s.1.length < n
  · rw [if_pos e] at h; cases h
  · rw [if_neg e] at h ⊢; exact ⟨h, by omega, by simp; omega⟩
theorem s5_bad {b : Tx} (h : (s5 b).2 = false) : 11 ≤ b.length := by
  obtain ⟨h4, h4', h4''⟩ := af_bad h
  obtain ⟨h3, h3', h3''⟩ := af_bad h4
  obtain ⟨h2, h2', h2''⟩ := af_bad h3
  obtain ⟨h1, h1', h1''⟩ := af_bad h2
  obtain ⟨h0, h0', h0''⟩ := af_bad h1
  simp only at h0' h0''
  have e1 : (af 1 (b, false)).1.length = (s1 b).1.length := rfl
  have e2 : (af 4 (s1 b)).1.length = (s2 b).1.length := rfl
  have e3 : (af 4 (s2 b)).1.length = (s3 b).1.length := rfl
  have e4 : (af 1 (s3 b)).1.length = (s4 b).1.length := rfl
  omega
/-- the document's own way: bad, or too few bytes left -/
theorem good_not_bad {b : Tx} (h : Good b) : (s5 b).2 = false ∧ sizeOf b ≤ (s5 b).1.length := by
  have hg := good_ge h
  have hl := good_len h
  obtain ⟨r1, r2, r3, r4, r5⟩ := reads11 (b := b) (by omega)
  have h2 : (parse b).load.length ≤ room (parse b).kind := h.1.2
  have h3 : (parse b).load.length = min (sizeOf b) (b.length - 11) := by
    rw [← r4]; unfold parse; rw [List.length_take, List.length_drop]
  rw [r5]
  refine ⟨rfl, ?_⟩
  rw [h3] at h2
  have h4 : (b.drop 11, false).1.length = b.length - 11 := List.length_drop
  rw [h4]
  generalize room (parse b).kind = m at hl h2
  generalize sizeOf b = z at h2 ⊢
  omega
theorem parse_full {b : Tx} (h : (s5 b).2 = false) (h' : sizeOf b ≤ (s5 b).1.length) : parse b = ⟨kindOf b, labelOf b, numberOf b, tk (sizeOf b) (s5 b)⟩ := by
  obtain ⟨r1, r2, r3, r4, r5⟩ := reads11 (b := b) (s5_bad h)
  unfold parse
  rw [r1, r2, r3, r4, tk_yes (by omega), r5]
/-- the first byte of a block is its kind -/
theorem blk_head (u : U) : ∃ t, blk u = b8 u.kind :: t := by
  unfold blk body head
  simp only [List.cons_append, List.nil_append]
  exact ⟨_, rfl⟩
theorem kind_head {b : Tx} (h : Good b) : ∃ t, b = b8 (parse b).kind :: t := by
  obtain ⟨t, ht⟩ := blk_head (parse b)
  exact ⟨t, h.2.symm.trans ht⟩
theorem parse_kind {b c : Tx} (hb : Good b) (hc : Good c) (h : b.head? = c.head?) : (parse b).kind = (parse c).kind := by
  obtain ⟨t, ht⟩ := kind_head hb
  obtain ⟨t', ht'⟩ := kind_head hc
  have e1 : b.head? = some (b8 (parse b).kind) := (congrArg List.head? ht).trans rfl
  have e2 : c.head? = some (b8 (parse c).kind) := (congrArg List.head? ht').trans rfl
  rw [e1, e2] at h
  have h' := Option.some.inj h
  have g1 := b8_nat (parse b).kind
  have g2 := b8_nat (parse c).kind
  rw [h'] at g1
  obtain ⟨k1, k2, -⟩ := hb.1.1
  obtain ⟨k3, k4, -⟩ := hc.1.1
  omega
/-- of two that begin alike and are not as long one is no block -/
theorem not_both {b c : Tx} (hb : Good b) (h : b.head? = c.head?) (hl : b.length ≠ c.length) : ¬ Good c := fun hc => by
  have h1 := good_len hb
  have h2 := good_len hc
  rw [parse_kind hb hc h] at h1
  omega
theorem cut_no {b : Tx} (hb : Good b) {n : Nat} (hn : n < b.length) : ¬ Good (b.take n) := by
  by_cases h0 : n = 0
  · subst h0; intro h; have := good_ge h; simp at this
  · refine not_both hb ?_ (by simp; omega)
    cases b with
    | nil => simp at hn
    | cons c l =>
      obtain ⟨m, rfl⟩ : ∃ m, n = m + 1 := ⟨n - 1, by omega⟩
      rfl
theorem more_no {b : Tx} (hb : Good b) (c : UInt8) : ¬ Good (b ++ [c]) := by
  refine not_both hb ?_ (by simp)
  cases b with
  | nil => have := good_ge hb; simp at this
  | cons d l => rfl
theorem be4_inj {m n : Int} (h0 : 0 ≤ m) (h1 : m < 4294967296) (h2 : 0 ≤ n) (h3 : n < 4294967296) (h : be4 m = be4 n) : m = n := by
  have := congrArg num h
  rw [num_be4, num_be4] at this
  omega
theorem getD_set (l : Tx) (p i : Nat) (x : UInt8) (hp : p < l.length) : (l.set p x).getD i 0 = if i = p then x else l.getD i 0 := by
  rw [List.getD_eq_getElem?_getD, List.getElem?_set, List.getD_eq_getElem?_getD]
  by_cases e : p = i
  · subst e; rw [if_pos rfl, if_pos rfl, if_pos hp]; rfl
  · rw [if_neg e, if_neg (fun h => e h.symm)]
theorem getD_take (l : Tx) {n i : Nat} (hi : i < n) : (l.take n).getD i 0 = l.getD i 0 := by
  rw [List.getD_eq_getElem?_getD, List.getElem?_take, if_pos hi, List.getD_eq_getElem?_getD]
/-- a block of which one byte is another is none -/
theorem turn_no {b : Tx} (hb : Good b) {p : Nat} (hp : p < b.length) {x : UInt8} (hx : x ≠ b[p]) : ¬ Good (b.set p x) := by
  intro hc
  have hl1 := good_len hb
  have hl2 := good_len hc
  rw [List.length_set] at hl2
  have hr : room (parse (b.set p x)).kind = room (parse b).kind := by omega
  have e1 := hb.2
  have e2 := hc.2
  have n1 := body_len hb.1
  have n2 := body_len hc.1
  rw [hr] at n2
  have t1 : body (parse b) = b.take (11 + room (parse b).kind) := by
    have : (blk (parse b)).take (11 + room (parse b).kind) = body (parse b) := List.take_left' n1
    rw [← this, e1]
  have t2 : body (parse (b.set p x)) = (b.set p x).take (11 + room (parse b).kind) := by
    have : (blk (parse (b.set p x))).take (11 + room (parse b).kind) = body (parse (b.set p x)) := List.take_left' n2
    rw [← this, e2]
  have d1 : be4 (sumL (body (parse b))) = b.drop (11 + room (parse b).kind) := by
    have : (blk (parse b)).drop (11 + room (parse b).kind) = be4 (sumL (body (parse b))) := List.drop_left' n1
    rw [← this, e1]
  have d2 : be4 (sumL (body (parse (b.set p x)))) = (b.set p x).drop (11 + room (parse b).kind) := by
    have : (blk (parse (b.set p x))).drop (11 + room (parse b).kind) = be4 (sumL (body (parse (b.set p x)))) := List.drop_left' n2
    rw [← this, e2]
  by_cases hpn : p < 11 + room (parse b).kind
  · have hd : (b.set p x).drop (11 + room (parse b).kind) = b.drop (11 + room (parse b).kind) := List.drop_set_of_lt hpn
    rw [hd, ← d1] at d2
    have hs := be4_inj (sumL_lo _) (sumL_hi _) (sumL_lo _) (sumL_hi _) d2
    refine sumL_one (l := body (parse (b.set p x))) (l' := body (parse b)) (n2.trans n1.symm) (p := p) (by omega) ?_ (fun i hi hip => ?_) hs
    · rw [t1, t2, getD_take _ hpn, getD_take _ hpn, getD_set _ _ _ _ hp, if_pos rfl, List.getD_eq_getElem?_getD, List.getElem?_eq_getElem hp]
      exact hx
    · rw [n2] at hi
      rw [t1, t2, getD_take _ hi, getD_take _ hi, getD_set _ _ _ _ hp, if_neg hip]
  · have ht : (b.set p x).take (11 + room (parse b).kind) = b.take (11 + room (parse b).kind) := List.take_set_of_le (by omega)
    rw [ht, ← t1] at t2
    have : blk (parse (b.set p x)) = blk (parse b) := by unfold blk; rw [t2]
    rw [e1, e2] at this
    have h3 : (b.set p x)[p]'(by simpa using hp) = b[p] := by simp only [this]
    rw [List.getElem_set_self] at h3
    exact hx h3
end Fm
end Go.Proofs.YtcokmmanajdioaaGreat
namespace Go.Proofs.YtcokmmanajdioaaGreat.Rc
open Pt (Tx)
open Cd

/-- a head -/
structure H where
  path : Tx
  version : Int
  size : Int
  from_ : Int
  len : Int
  serial : Int
  sum : Int
  gone : Bool
def H.zero : H := ⟨[], 0, 0, 0, 0, 0, 0, false⟩
/-- the numbers of a head that may be -/
def Nums (h : H) : Prop := (1 ≤ h.version ∧ h.version ≤ 1073741824) ∧ (1 ≤ h.serial ∧ h.serial ≤ 1073741824) ∧ (0 ≤ h.size ∧ h.size ≤ 4000) ∧ 0 ≤ h.from_ ∧ 0 ≤ h.len ∧ h.from_ + h.len ≤ h.size ∧ (0 < h.len ∨ h.size = 0) ∧ (0 ≤ h.sum ∧ h.sum ≤ 4294967295)
  ∧ (h.gone = true → h.size = 0 ∧ h.from_ = 0 ∧ h.len = 0 ∧ h.sum = 0)
instance (h : H) : Decidable (Nums h) := by unfold Nums; exact inferInstance
def Ok (h : H) : Prop := Pt.right h.path = true ∧ Nums h
instance (h : H) : Decidable (Ok h) := by unfold Ok; exact inferInstance
def goneB (g : Bool) : UInt8 := if g then 1 else 0
/-- the bytes of a head -/
def blk (h : H) : Tx := tb h.path ++ (be4 h.version ++ (be4 h.size ++ (be4 h.from_ ++ (be4 h.len ++ (be4 h.serial ++ (be4 h.sum ++ [goneB h.gone]))))))
/-- what HeadBytes answers -/
def put (h : H) : Tx := if Ok h then blk h else []
theorem put_ok {h : H} (k : Ok h) : put h = blk h := if_pos k
theorem put_no {h : H} (k : ¬ Ok h) : put h = [] := if_neg k
theorem Ok.short {h : H} (k : Ok h) : h.path.length ≤ 24 := (Pt.right_iff.1 k.1).2.1
theorem Ok.long {h : H} (k : Ok h) : 1 ≤ h.path.length := (Pt.right_iff.1 k.1).1
theorem blk_len {h : H} (k : Ok h) : (blk h).length = 26 + h.path.length := by
  have := k.short
  unfold blk
  simp only [List.length_append, tb_len, be4_len, List.length_cons, List.length_nil]
  omega
theorem put_le (h : H) : (put h).length ≤ 50 := by
  by_cases k : Ok h
  · rw [put_ok k, blk_len k]; have := k.short; omega
  · rw [put_no k]; simp
/-- the states of one who reads a head, behind each item -/
def t1 (b : Tx) : St := afT (b, false)
def t2 (b : Tx) : St := af 4 (t1 b)
def t3 (b : Tx) : St := af 4 (t2 b)
def t4 (b : Tx) : St := af 4 (t3 b)
def t5 (b : Tx) : St := af 4 (t4 b)
def t6 (b : Tx) : St := af 4 (t5 b)
def t7 (b : Tx) : St := af 4 (t6 b)
def t8 (b : Tx) : St := af 1 (t7 b)
/-- what bytes say -/
def parse (b : Tx) : H := ⟨txt (b, false), num (tk 4 (t1 b)), num (tk 4 (t2 b)), num (tk 4 (t3 b)), num (tk 4 (t4 b)), num (tk 4 (t5 b)), num (tk 4 (t6 b)), byt (t7 b) == 1⟩
def Good (b : Tx) : Prop := Ok (parse b) ∧ blk (parse b) = b
instance (b : Tx) : Decidable (Good b) := by unfold Good; exact inferInstance
def got (b : Tx) : H := if Good b then parse b else H.zero
def gotE (b : Tx) : Int := if Good b then 0 else 2
theorem got_yes {b : Tx} (h : Good b) : got b = parse b := if_pos h
theorem got_no {b : Tx} (h : ¬ Good b) : got b = H.zero := if_neg h
theorem gotE_yes {b : Tx} (h : Good b) : gotE b = 0 := if_pos h
theorem gotE_no {b : Tx} (h : ¬ Good b) : gotE b = 2 := if_neg h
theorem num4 {n : Int} (h0 : 0 ≤ n) (h1 : n < 4294967296) : num (be4 n) = n := by rw [num_be4]; omega
theorem parse_blk {h : H} (k : Ok h) : parse (blk h) = h := by
  obtain ⟨k1, ⟨v0, v1⟩, ⟨s0, s1⟩, ⟨z0, z1⟩, f0, l0, fl, -, ⟨m0, m1⟩, -⟩ := k
  have hs := (Pt.right_iff.1 k1).2.1
  have e0 : txt (blk h, false) = h.path := by unfold blk; rw [txt_tb, List.take_of_length_le (by omega)]
  have e1 : t1 (blk h) = (be4 h.version ++ (be4 h.size ++ (be4 h.from_ ++ (be4 h.len ++ (be4 h.serial ++ (be4 h.sum ++ [goneB h.gone]))))), false) := afT_tb _ _ _
  have e2 : t2 (blk h) = (be4 h.size ++ (be4 h.from_ ++ (be4 h.len ++ (be4 h.serial ++ (be4 h.sum ++ [goneB h.gone])))), false) := by unfold t2; rw [e1]; exact af_app 4 _ _ _ rfl
  have e3 : t3 (blk h) = (be4 h.from_ ++ (be4 h.len ++ (be4 h.serial ++ (be4 h.sum ++ [goneB h.gone]))), false) := by unfold t3; rw [e2]; exact af_app 4 _ _ _ rfl
  have e4 : t4 (blk h) = (be4 h.len ++ (be4 h.serial ++ (be4 h.sum ++ [goneB h.gone])), false) := by unfold t4; rw [e3]; exact af_app 4 _ _ _ rfl
  have e5 : t5 (blk h) = (be4 h.serial ++ (be4 h.sum ++ [goneB h.gone]), false) := by unfold t5; rw [e4]; exact af_app 4 _ _ _ rfl
  have e6 : t6 (blk h) = (be4 h.sum ++ [goneB h.gone], false) := by unfold t6; rw [e5]; exact af_app 4 _ _ _ rfl
  have e7 : t7 (blk h) = ([goneB h.gone] ++ [], false) := by unfold t7; rw [e6]; exact af_app 4 _ _ _ rfl
  have eg : (goneB h.gone == 1) = h.gone := by cases h.gone <;> rfl
  unfold parse
  rw [e0, e1, e2, e3, e4, e5, e6, e7, tk_app 4 _ _ _ rfl, tk_app 4 _ _ _ rfl, tk_app 4 _ _ _ rfl, tk_app 4 _ _ _ rfl, tk_app 4 _ _ _ rfl, tk_app 4 _ _ _ rfl,
    show byt ([goneB h.gone] ++ [], false) = goneB h.gone from byt_cons _ _ _, eg, num4 (by omega) (by omega), num4 (by omega) (by omega), num4 (by omega) (by omega), num4 (by omega) (by omega), num4 (by omega) (by omega), num4 (by omega) (by omega)]
theorem good_blk {h : H} (k : Ok h) : Good (blk h) := by unfold Good; rw [parse_blk k]; exact ⟨k, rfl⟩
theorem good_len {b : Tx} (h : Good b) : b.length = 26 + (parse b).path.length := by rw [← blk_len h.1, h.2]
theorem good_head {b : Tx} (h : Good b) : ∃ t, b = b8 ((parse b).path.length : Int) :: t := by
  have hs := h.1.short
  have e : ∃ t, blk (parse b) = b8 ((parse b).path.length : Int) :: t := by
    unfold blk tb
    rw [List.take_of_length_le (by omega), List.cons_append]
    exact ⟨_, rfl⟩
  obtain ⟨t, ht⟩ := e
  exact ⟨t, h.2.symm.trans ht⟩
theorem good_ge {b : Tx} (h : Good b) : 27 ≤ b.length := by have := good_len h; have := h.1.long; omega
/-- of two that begin alike and are not as long one is no head -/
theorem not_both {b c : Tx} (hb : Good b) (h : b.head? = c.head?) (hl : b.length ≠ c.length) : ¬ Good c := fun hc => by
  obtain ⟨t, ht⟩ := good_head hb
  obtain ⟨t', ht'⟩ := good_head hc
  have e1 : b.head? = some (b8 ((parse b).path.length : Int)) := (congrArg List.head? ht).trans rfl
  have e2 : c.head? = some (b8 ((parse c).path.length : Int)) := (congrArg List.head? ht').trans rfl
  rw [e1, e2] at h
  have h' := Option.some.inj h
  have g1 := b8_nat ((parse b).path.length : Int)
  have g2 := b8_nat ((parse c).path.length : Int)
  rw [h'] at g1
  have := hb.1.short
  have := hc.1.short
  have := good_len hb
  have := good_len hc
  omega
theorem head_take {b : Tx} {n : Nat} (h0 : 0 < n) : b.head? = (b.take n).head? := by
  obtain ⟨m, rfl⟩ : ∃ m, n = m + 1 := ⟨n - 1, by omega⟩
  cases b <;> rfl
theorem head_more {b : Tx} (h : b ≠ []) (c : UInt8) : b.head? = (b ++ [c]).head? := by
  cases b with
  | nil => exact absurd rfl h
  | cons d l => rfl
theorem cut_no {b : Tx} (hb : Good b) {n : Nat} (hn : n < b.length) : ¬ Good (b.take n) := by
  by_cases h0 : n = 0
  · subst h0; intro h; have := good_ge h; simp at this
  · exact not_both hb (head_take (by omega)) (by simp; omega)
theorem more_no {b : Tx} (hb : Good b) (c : UInt8) : ¬ Good (b ++ [c]) :=
  not_both hb (head_more (fun e => by have := good_ge hb; rw [e] at this; simp at this) c) (by simp)

/-- a seal -/
structure S where
  number : Int
  index : Int
  data : Int
  parity : Int
  labels : List Int
def S.zero : S := ⟨0, 0, 0, 0, []⟩
def SNums (s : S) : Prop := (1 ≤ s.number ∧ s.number ≤ 1073741824) ∧ 1 ≤ s.data ∧ 1 ≤ s.parity ∧ s.data + s.parity ≤ 14 ∧ (s.labels.length : Int) = s.data + s.parity ∧ 0 ≤ s.index ∧ s.index < (s.labels.length : Int)
instance (s : S) : Decidable (SNums s) := by unfold SNums; exact inferInstance
/-- all can be labels, none is there twice -/
def Labs (l : List Int) : Prop := (∀ x ∈ l, 1 ≤ x ∧ x ≤ 2147483647) ∧ l.Nodup
instance (l : List Int) : Decidable (Labs l) := by unfold Labs; exact inferInstance
def SOk (s : S) : Prop := SNums s ∧ Labs s.labels
instance (s : S) : Decidable (SOk s) := by unfold SOk; exact inferInstance
def labB : List Int → Tx
  | [] => []
  | x :: l => be4 x ++ labB l
theorem labB_len : ∀ l : List Int, (labB l).length = 4 * l.length
  | [] => rfl
  | x :: l => by rw [labB, List.length_append, be4_len, labB_len l, List.length_cons]; omega
theorem labB_append : ∀ a b : List Int, labB (a ++ b) = labB a ++ labB b
  | [], b => rfl
  | x :: a, b => by rw [List.cons_append, labB, labB, labB_append a b, List.append_assoc]
def sblk (s : S) : Tx := be4 s.number ++ ([b8 s.index] ++ ([b8 s.data] ++ ([b8 s.parity] ++ labB s.labels)))
def sput (s : S) : Tx := if SOk s then sblk s else []
theorem sput_ok {s : S} (k : SOk s) : sput s = sblk s := if_pos k
theorem sput_no {s : S} (k : ¬ SOk s) : sput s = [] := if_neg k
theorem sblk_len (s : S) : (sblk s).length = 7 + 4 * s.labels.length := by
  unfold sblk; simp only [List.length_append, be4_len, labB_len, List.length_cons, List.length_nil]; omega
theorem SOk.few {s : S} (k : SOk s) : s.labels.length ≤ 14 := by obtain ⟨⟨_, _, _, h1, h2, _⟩, _⟩ := k; omega
theorem sput_le (s : S) : (sput s).length ≤ 63 := by
  by_cases k : SOk s
  · rw [sput_ok k, sblk_len]; have := k.few; omega
  · rw [sput_no k]; simp
/-- the states of one who reads a seal -/
def r1 (b : Tx) : St := af 4 (b, false)
def r2 (b : Tx) : St := af 1 (r1 b)
def r3 (b : Tx) : St := af 1 (r2 b)
def r4 (b : Tx) : St := af 1 (r3 b)
/-- the numbers that bytes are, four by four, what is over is left -/
def labs : Nat → Tx → List Int
  | 0, _ => []
  | n + 1, b => if b.length < 4 then [] else num (b.take 4) :: labs n (b.drop 4)
theorem labs_labB : ∀ (l : List Int) (n : Nat), l.length ≤ n → (∀ x ∈ l, 0 ≤ x ∧ x < 4294967296) → labs n (labB l) = l
  | [], 0, _, _ => rfl
  | [], n + 1, _, _ => rfl
  | x :: l, 0, h, _ => by simp at h
  | x :: l, n + 1, h, hx => by
    have h1 := hx x (List.mem_cons_self ..)
    rw [labs, labB, if_neg (by rw [List.length_append, be4_len]; omega), List.take_left' (be4_len x), List.drop_left' (be4_len x), num4 h1.1 h1.2, labs_labB l n (by simp at h; omega) (fun y hy => hx y (List.mem_cons_of_mem _ hy))]
def sparse (b : Tx) : S := ⟨num (tk 4 (b, false)), ((byt (r1 b)).toNat : Int), ((byt (r2 b)).toNat : Int), ((byt (r3 b)).toNat : Int), labs 14 (r4 b).1⟩
def SGood (b : Tx) : Prop := SOk (sparse b) ∧ sblk (sparse b) = b
instance (b : Tx) : Decidable (SGood b) := by unfold SGood; exact inferInstance
def sgot (b : Tx) : S := if SGood b then sparse b else S.zero
def sgotE (b : Tx) : Int := if SGood b then 0 else 2
theorem sgot_yes {b : Tx} (h : SGood b) : sgot b = sparse b := if_pos h
theorem sgot_no {b : Tx} (h : ¬ SGood b) : sgot b = S.zero := if_neg h
theorem sgotE_yes {b : Tx} (h : SGood b) : sgotE b = 0 := if_pos h
theorem sgotE_no {b : Tx} (h : ¬ SGood b) : sgotE b = 2 := if_neg h
theorem sparse_sblk {s : S} (k : SOk s) : sparse (sblk s) = s := by
  have hf := k.few
  obtain ⟨⟨⟨n0, n1⟩, d0, p0, dp, hl, i0, i1⟩, hx, -⟩ := k
  have e1 : r1 (sblk s) = ([b8 s.index] ++ ([b8 s.data] ++ ([b8 s.parity] ++ labB s.labels)), false) := af_app 4 _ _ _ rfl
  have e2 : r2 (sblk s) = ([b8 s.data] ++ ([b8 s.parity] ++ labB s.labels), false) := by unfold r2; rw [e1]; exact af_app 1 _ _ _ rfl
  have e3 : r3 (sblk s) = ([b8 s.parity] ++ labB s.labels, false) := by unfold r3; rw [e2]; exact af_app 1 _ _ _ rfl
  have e4 : r4 (sblk s) = (labB s.labels, false) := by unfold r4; rw [e3]; exact af_app 1 _ _ _ rfl
  have e0 : tk 4 (sblk s, false) = be4 s.number := tk_app 4 _ _ _ rfl
  have g1 := b8_nat s.index
  have g2 := b8_nat s.data
  have g3 := b8_nat s.parity
  unfold sparse
  rw [e0, e1, e2, e3, e4, show byt ([b8 s.index] ++ ([b8 s.data] ++ ([b8 s.parity] ++ labB s.labels)), false) = b8 s.index from byt_cons _ _ _,
    show byt ([b8 s.data] ++ ([b8 s.parity] ++ labB s.labels), false) = b8 s.data from byt_cons _ _ _, show byt ([b8 s.parity] ++ labB s.labels, false) = b8 s.parity from byt_cons _ _ _,
    g1, g2, g3, num4 (by omega) (by omega), labs_labB s.labels 14 hf (fun x h => by have := hx x h; omega), show s.index % 256 = s.index by omega, show s.data % 256 = s.data by omega, show s.parity % 256 = s.parity by omega]
theorem sgood_blk {s : S} (k : SOk s) : SGood (sblk s) := by unfold SGood; rw [sparse_sblk k]; exact ⟨k, rfl⟩
theorem sgood_len {b : Tx} (h : SGood b) : (b.length : Int) = 7 + 4 * ((sparse b).data + (sparse b).parity) := by
  have h1 : b.length = 7 + 4 * (sparse b).labels.length := by rw [← sblk_len, h.2]
  have h2 := h.1.1.2.2.2.2.1
  omega
theorem sgood_ge {b : Tx} (h : SGood b) : 15 ≤ b.length := by have := sgood_len h; have := h.1.1.2.1; have := h.1.1.2.2.1; omega
/-- what stands at 5 and 6 -/
theorem sgood_at {b : Tx} (h : SGood b) : b[5]? = some (b8 (sparse b).data) ∧ b[6]? = some (b8 (sparse b).parity) := by
  have e : b = sblk (sparse b) := h.2.symm
  constructor <;> conv => lhs; rw [e]
  all_goals rfl
theorem snot_both {b c : Tx} (hb : SGood b) (h5 : b[5]? = c[5]?) (h6 : b[6]? = c[6]?) (hl : b.length ≠ c.length) : ¬ SGood c := fun hc => by
  obtain ⟨a5, a6⟩ := sgood_at hb
  obtain ⟨c5, c6⟩ := sgood_at hc
  rw [a5, c5] at h5
  rw [a6, c6] at h6
  have h5' := Option.some.inj h5
  have h6' := Option.some.inj h6
  have g1 := b8_nat (sparse b).data
  have g2 := b8_nat (sparse c).data
  have g3 := b8_nat (sparse b).parity
  have g4 := b8_nat (sparse c).parity
  rw [h5'] at g1
  rw [h6'] at g3
  have l1 := sgood_len hb
  have l2 := sgood_len hc
  obtain ⟨_, b1, b2, b3, _⟩ := hb.1.1
  obtain ⟨_, c1, c2, c3, _⟩ := hc.1.1
  omega
theorem scut_no {b : Tx} (hb : SGood b) {n : Nat} (hn : n < b.length) : ¬ SGood (b.take n) := by
  by_cases h0 : n < 7
  · intro h; have := sgood_ge h; simp at this; omega
  · exact snot_both hb (by rw [List.getElem?_take, if_pos (by omega)]) (by rw [List.getElem?_take, if_pos (by omega)]) (by simp; omega)
theorem smore_no {b : Tx} (hb : SGood b) (c : UInt8) : ¬ SGood (b ++ [c]) := by
  have := sgood_ge hb
  exact snot_both hb (by rw [List.getElem?_append, if_pos (by omega)]) (by rw [List.getElem?_append, if_pos (by omega)]) (by simp)
end Go.Proofs.YtcokmmanajdioaaGreat.Rc
