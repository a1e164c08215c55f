/- Chapter 10's heads and seals as lists of bytes: which may be, which bytes each is, which one any bytes are. No program. Chapter 11's tapes as lists of blocks: which block is good, which parts lie there, how much is kept; which blocks a part is. No program. A list sorted by an order that is told by a question, stably, as insertion from behind makes it; and the first of each run of those that are alike. No program. -/
import Derived.Test.YtndofmoepjfnfaaGreatMad
import Derived.Test.YtndofmoepjfnfaaGreatMac
namespace Go.Proofs.YtndofmoepjfnfaaGreat.Rc
open Pt (Tx)
open Cd

/-- a head -/
structure H where
  path : Tx
  version : Int
  size : Int
  from_ : Int
  len : Int
  serial : Int
  sum : Int
  gone : Bool
def H.zero : H := ⟨[], 0, 0, 0, 0, 0, 0, false⟩
/-- the numbers of a head that may be -/
def Nums (h : H) : Prop := (1 ≤ h.version ∧ h.version ≤ 1073741824) ∧ (1 ≤ h.serial ∧ h.serial ≤ 1073741824) ∧ (0 ≤ h.size ∧ h.size ≤ 4000) ∧ 0 ≤ h.from_ ∧ 0 ≤ h.len ∧ h.from_ + h.len ≤ h.size ∧ (0 < h.len ∨ h.size = 0) ∧ (0 ≤ h.sum ∧ h.sum ≤ 4294967295)
  ∧ (h.gone = true → h.size = 0 ∧ h.from_ = 0 ∧ h.len = 0 ∧ h.sum = 0)
instance (h : H) : Decidable (Nums h) := by unfold Nums; exact inferInstance
def Ok (h : H) : Prop := Pt.right h.path = true ∧ Nums h
instance (h : H) : Decidable (Ok h) := by unfold Ok; exact inferInstance
def goneB (g : Bool) : UInt8 := if g then 1 else 0
/-- the bytes of a head -/
def blk (h : H) : Tx := tb h.path ++ (be4 h.version ++ (be4 h.size ++ (be4 h.from_ ++ (be4 h.len ++ (be4 h.serial ++ (be4 h.sum ++ [goneB h.gone]))))))
/-- what HeadBytes answers -/
def put (h : H) : Tx := if Ok h then blk h else []
theorem put_ok {h : H} (k : Ok h) : put h = blk h := if_pos k
theorem put_no {h : H} (k : ¬ Ok h) : put h = [] := if_neg k
theorem Ok.short {h : H} (k : Ok h) : h.path.length ≤ 24 := (Pt.right_iff.1 k.1).2.1
theorem Ok.long {h : H} (k : Ok h) : 1 ≤ h.path.length := (Pt.right_iff.1 k.1).1
theorem blk_len {h : H} (k : Ok h) : (blk h).length = 26 + h.path.length := by
  have := k.short
  unfold blk
  simp only [List.length_append, tb_len, be4_len, List.length_cons, List.length_nil]
  omega
theorem put_le (h : H) : (put h).length ≤ 50 := by
  by_cases k : Ok h
  · rw [put_ok k, blk_len k]; have := k.short; omega
  · rw [put_no k]; simp
/-- the states of one who reads a head, behind each item -/
def t1 (b : Tx) : St := afT (b, false)
def t2 (b : Tx) : St := af 4 (t1 b)
def t3 (b : Tx) : St := af 4 (t2 b)
def t4 (b : Tx) : St := af 4 (t3 b)
def t5 (b : Tx) : St := af 4 (t4 b)
def t6 (b : Tx) : St := af 4 (t5 b)
def t7 (b : Tx) : St := af 4 (t6 b)
def t8 (b : Tx) : St := af 1 (t7 b)
/-- what bytes say -/
def parse (b : Tx) : H := ⟨txt (b, false), num (tk 4 (t1 b)), num (tk 4 (t2 b)), num (tk 4 (t3 b)), num (tk 4 (t4 b)), num (tk 4 (t5 b)), num (tk 4 (t6 b)), byt (t7 b) == 1⟩
def Good (b : Tx) : Prop := Ok (parse b) ∧ blk (parse b) = b
instance (b : Tx) : Decidable (Good b) := by unfold Good; exact inferInstance
def got (b : Tx) : H := if Good b then parse b else H.zero
def gotE (b : Tx) : Int := if Good b then 0 else 2
theorem got_yes {b : Tx} (h : Good b) : got b = parse b := if_pos h
theorem got_no {b : Tx} (h : ¬ Good b) : got b = H.zero := if_neg h
theorem gotE_yes {b : Tx} (h : Good b) : gotE b = 0 := if_pos h
theorem gotE_no {b : Tx} (h : ¬ Good b) : gotE b = 2 := if_neg h
theorem num4 {n : Int} (h0 : 0 ≤ n) (h1 : n < 4294967296) : num (be4 n) = n := by rw [num_be4]; omega
theorem parse_blk {h : H} (k : Ok h) : parse (blk h) = h := by
  obtain ⟨k1, ⟨v0, v1⟩, ⟨s0, s1⟩, ⟨z0, z1⟩, f0, l0, fl, -, ⟨m0, m1⟩, -⟩ := k
  have hs := (Pt.right_iff.1 k1).2.1
  have e0 : txt (blk h, false) = h.path := by unfold blk; rw [txt_tb, List.take_of_length_le (by omega)]
  have e1 : t1 (blk h) = (be4 h.version ++ (be4 h.size ++ (be4 h.from_ ++ (be4 h.len ++ (be4 h.serial ++ (be4 h.sum ++ [goneB h.gone]))))), false) := afT_tb _ _ _
  have e2 : t2 (blk h) = (be4 h.size ++ (be4 h.from_ ++ (be4 h.len ++ (be4 h.serial ++ (be4 h.sum ++ [goneB h.gone])))), false) := by unfold t2; rw [e1]; exact af_app 4 _ _ _ rfl
  have e3 : t3 (blk h) = (be4 h.from_ ++ (be4 h.len ++ (be4 h.serial ++ (be4 h.sum ++ [goneB h.gone]))), false) := by unfold t3; rw [e2]; exact af_app 4 _ _ _ rfl
  have e4 : t4 (blk h) = (be4 h.len ++ (be4 h.serial ++ (be4 h.sum ++ [goneB h.gone])), false) := by unfold t4; rw [e3]; exact af_app 4 _ _ _ rfl
  have e5 : t5 (blk h) = (be4 h.serial ++ (be4 h.sum ++ [goneB h.gone]), false) := by unfold t5; rw [e4]; exact af_app 4 _ _ _ rfl
  have e6 : t6 (blk h) = (be4 h.sum ++ [goneB h.gone], false) := by unfold t6; rw [e5]; exact af_app 4 _ _ _ rfl
  have e7 : t7 (blk h) = ([goneB h.gone] ++ [], false) := by unfold t7; rw [e6]; exact af_app 4 _ _ _ rfl
  have eg : (goneB h.gone == 1) = h.gone := by cases h.gone <;> rfl
  unfold parse
  rw [e0, e1, e2, e3, e4, e5, e6, e7, tk_app 4 _ _ _ rfl, tk_app 4 _ _ _ rfl, tk_app 4 _ _ _ rfl, tk_app 4 _ _ _ rfl, tk_app 4 _ _ _ rfl, tk_app 4 _ _ _ rfl,
    show byt ([goneB h.gone] ++ [], false) = goneB h.gone from byt_cons _ _ _, eg, num4 (by omega) (by omega), num4 (by omega) (by omega), num4 (by omega) (by omega), num4 (by omega) (by omega), num4 (by omega) (by omega), num4 (by omega) (by omega)]
theorem good_blk {h : H} (k : Ok h) : Good (blk h) := by unfold Good; rw [parse_blk k]; exact ⟨k, rfl⟩
theorem good_len {b : Tx} (h : Good b) : b.length = 26 + (parse b).path.length := by rw [← blk_len h.1, h.2]
theorem good_head {b : Tx} (h : Good b) : ∃ t, b = b8 ((parse b).path.length : Int) :: t := by
  have hs := h.1.short
  have e : ∃ t, blk (parse b) = b8 ((parse b).path.length : Int) :: t := by
    unfold blk tb
    rw [List.take_of_length_le (by omega), List.cons_append]
    exact ⟨_, rfl⟩
  obtain ⟨t, ht⟩ := e
  exact ⟨t, h.2.symm.trans ht⟩
theorem good_ge {b : Tx} (h : Good b) : 27 ≤ b.length := by have := good_len h; have := h.1.long; omega
/-- of two that begin alike and are not as long one is no head -/
theorem not_both {b c : Tx} (hb : Good b) (h : b.head? = c.head?) (hl : b.length ≠ c.length) : ¬ Good c := fun hc => by
  obtain ⟨t, ht⟩ := good_head hb
  obtain ⟨t', ht'⟩ := good_head hc
  have e1 : b.head? = some (b8 ((parse b).path.length : Int)) := (congrArg List.head? ht).trans rfl
  have e2 : c.head? = some (b8 ((parse c).path.length : Int)) := (congrArg List.head? ht').trans rfl
  rw [e1, e2] at h
  have h' := Option.some.inj h
  have g1 := b8_nat ((parse b).path.length : Int)
  have g2 := b8_nat ((parse c).path.length : Int)
  rw [h'] at g1
  have := hb.1.short
  have := hc.1.short
  have := good_len hb
  have := good_len hc
  omega
theorem head_take {b : Tx} {n : Nat} (h0 : 0 < n) : b.head? = (b.take n).head? := by
  obtain ⟨m, rfl⟩ : ∃ m, n = m + 1 := ⟨n - 1, by omega⟩
  cases b <;> rfl
theorem head_more {b : Tx} (h : b ≠ []) (c : UInt8) : b.head? = (b ++ [c]).head? := by
  cases b with
  | nil => exact absurd rfl h
  | cons d l => rfl
theorem cut_no {b : Tx} (hb : Good b) {n : Nat} (hn : n < b.length) : ¬ Good (b.take n) := by
  by_cases h0 : n = 0
  · subst h0; intro h; have := good_ge h; simp at this
  · exact not_both hb (head_take (by omega)) (by simp; omega)
theorem more_no {b : Tx} (hb : Good b) (c : UInt8) : ¬ Good (b ++ [c]) :=
  not_both hb (head_more (fun e => by have := good_ge hb; rw [e] at this; simp at this) c) (by simp)

/-- a seal -/
structure S where
  number : Int
  index : Int
  data : Int
  parity : Int
  labels : List Int
def S.zero : S := ⟨0, 0, 0, 0, []⟩
def SNums (s : S) : Prop := (1 ≤ s.number ∧ s.number ≤ 1073741824) ∧ 1 ≤ s.data ∧ 1 ≤ s.parity ∧ s.data + s.parity ≤ 14 ∧ (s.labels.length : Int) = s.data + s.parity ∧ 0 ≤ s.index ∧ s.index < (s.labels.length : Int)
instance (s : S) : Decidable (SNums s) := by unfold SNums; exact inferInstance
/-- all can be labels, none is there twice -/
def Labs (l : List Int) : Prop := (∀ x ∈ l, 1 ≤ x ∧ x ≤ 2147483647) ∧ l.Nodup
instance (l : List Int) : Decidable (Labs l) := by unfold Labs; exact inferInstance
def SOk (s : S) : Prop := SNums s ∧ Labs s.labels
instance (s : S) : Decidable (SOk s) := by unfold SOk; exact inferInstance
def labB : List Int → Tx
  | [] => []
  | x :: l => be4 x ++ labB l
theorem labB_len : ∀ l : List Int, (labB l).length = 4 * l.length
  | [] => rfl
  | x :: l => by rw [labB, List.length_append, be4_len, labB_len l, List.length_cons]; omega
theorem labB_append : ∀ a b : List Int, labB (a ++ b) = labB a ++ labB b
  | [], b => rfl
  | x :: a, b => by rw [List.cons_append, labB, labB, labB_append a b, List.append_assoc]
def sblk (s : S) : Tx := be4 s.number ++ ([b8 s.index] ++ ([b8 s.data] ++ ([b8 s.parity] ++ labB s.labels)))
def sput (s : S) : Tx := if SOk s then sblk s else []
theorem sput_ok {s : S} (k : SOk s) : sput s = sblk s := if_pos k
theorem sput_no {s : S} (k : ¬ SOk s) : sput s = [] := if_neg k
theorem sblk_len (s : S) : (sblk s).length = 7 + 4 * s.labels.length := by
  unfold sblk; simp only [List.length_append, be4_len, labB_len, List.length_cons, List.length_nil]; omega
theorem SOk.few {s : S} (k : SOk s) : s.labels.length ≤ 14 := by obtain ⟨⟨_, _, _, h1, h2, _⟩, _⟩ := k; omega
theorem sput_le (s : S) : (sput s).length ≤ 63 := by
  by_cases k : SOk s
  · rw [sput_ok k, sblk_len]; have := k.few; omega
  · rw [sput_no k]; simp
/-- the states of one who reads a seal -/
def r1 (b : Tx) : St := af 4 (b, false)
def r2 (b : Tx) : St := af 1 (r1 b)
def r3 (b : Tx) : St := af 1 (r2 b)
def r4 (b : Tx) : St := af 1 (r3 b)
/-- the numbers that bytes are, four by four, what is over is left -/
def labs : Nat → Tx → List Int
  | 0, _ => []
  | n + 1, b => if b.length < 4 then [] else num (b.take 4) :: labs n (b.drop 4)
theorem labs_labB : ∀ (l : List Int) (n : Nat), l.length ≤ n → (∀ x ∈ l, 0 ≤ x ∧ x < 4294967296) → labs n (labB l) = l
  | [], 0, _, _ => rfl
  | [], n + 1, _, _ => rfl
  | x :: l, 0, h, _ => by simp at h
  | x :: l, n + 1, h, hx => by
    have h1 := hx x (List.mem_cons_self ..)
    rw [labs, labB, if_neg (by rw [List.length_append, be4_len]; omega), List.take_left' (be4_len x), List.drop_left' (be4_len x), num4 h1.1 h1.2, labs_labB l n (by simp at h; omega) (fun y hy => hx y (List.mem_cons_of_mem _ hy))]
def sparse (b : Tx) : S := ⟨num (tk 4 (b, false)), ((byt (r1 b)).toNat : Int), ((byt (r2 b)).toNat : Int), ((byt (r3 b)).toNat : Int), labs 14 (r4 b).1⟩
def SGood (b : Tx) : Prop := SOk (sparse b) ∧ sblk (sparse b) = b
instance (b : Tx) : Decidable (SGood b) := by unfold SGood; exact inferInstance
def sgot (b : Tx) : S := if SGood b then sparse b else S.zero
def sgotE (b : Tx) : Int := if SGood b then 0 else 2
theorem sgot_yes {b : Tx} (h : SGood b) : sgot b = sparse b := if_pos h
theorem sgot_no {b : Tx} (h : ¬ SGood b) : sgot b = S.zero := if_neg h
theorem sgotE_yes {b : Tx} (h : SGood b) : sgotE b = 0 := if_pos h
theorem sgotE_no {b : Tx} (h : ¬ SGood b) : sgotE b = 2 := if_neg h
theorem sparse_sblk {s : S} (k : SOk s) : sparse (sblk s) = s := by
  have hf := k.few
  obtain ⟨⟨⟨n0, n1⟩, d0, p0, dp, hl, i0, i1⟩, hx, -⟩ := k
  have e1 : r1 (sblk s) = ([b8 s.index] ++ ([b8 s.data] ++ ([b8 s.parity] ++ labB s.labels)), false) := af_app 4 _ _ _ rfl
  have e2 : r2 (sblk s) = ([b8 s.data] ++ ([b8 s.parity] ++ labB s.labels), false) := by unfold r2; rw [e1]; exact af_app 1 _ _ _ rfl
  have e3 : r3 (sblk s) = ([b8 s.parity] ++ labB s.labels, false) := by unfold r3; rw [e2]; exact af_app 1 _ _ _ rfl
  have e4 : r4 (sblk s) = (labB s.labels, false) := by unfold r4; rw [e3]; exact af_app 1 _ _ _ rfl
  have e0 : tk 4 (sblk s, false) = be4 s.number := tk_app 4 _ _ _ rfl
  have g1 := b8_nat s.index
  have g2 := b8_nat s.data
  have g3 := b8_nat s.parity
  unfold sparse
  rw [e0, e1, e2, e3, e4, show byt ([b8 s.index] ++ ([b8 s.data] ++ ([b8 s.parity] ++ labB s.labels)), false) = b8 s.index from byt_cons _ _ _,
    show byt ([b8 s.data] ++ ([b8 s.parity] ++ labB s.labels), false) = b8 s.data from byt_cons _ _ _, show byt ([b8 s.parity] ++ labB s.labels, false) = b8 s.parity from byt_cons _ _ _,
    g1, g2, g3, num4 (by omega) (by omega), labs_labB s.labels 14 hf (fun x h => by have := hx x h; omega), show s.index % 256 = s.index by omega, show s.data % 256 = s.data by omega, show s.parity % 256 = s.parity by omega]
theorem sgood_blk {s : S} (k : SOk s) : SGood (sblk s) := by unfold SGood; rw [sparse_sblk k]; exact ⟨k, rfl⟩
theorem sgood_len {b : Tx} (h : SGood b) : (b.length : Int) = 7 + 4 * ((sparse b).data + (sparse b).parity) := by
  have h1 : b.length = 7 + 4 * (sparse b).labels.length := by rw [← sblk_len, h.2]
  have h2 := h.1.1.2.2.2.2.1
  omega
theorem sgood_ge {b : Tx} (h : SGood b) : 15 ≤ b.length := by have := sgood_len h; have := h.1.1.2.1; have := h.1.1.2.2.1; omega
/-- what stands at 5 and 6 -/
theorem sgood_at {b : Tx} (h : SGood b) : b[5]? = some (b8 (sparse b).data) ∧ b[6]? = some (b8 (sparse b).parity) := by
  have e : b = sblk (sparse b) := h.2.symm
  constructor <;> conv => lhs; rw [e]
  all_goals rfl
theorem snot_both {b c : Tx} (hb : SGood b) (h5 : b[5]? = c[5]?) (h6 : b[6]? = c[6]?) (hl : b.length ≠ c.length) : ¬ SGood c := fun hc => by
  obtain ⟨a5, a6⟩ := sgood_at hb
  obtain ⟨c5, c6⟩ := sgood_at hc
  rw [a5, c5] at h5
  rw [a6, c6] at h6
  have h5' := Option.some.inj h5
  have h6' := Option.some.inj h6
  have g1 := b8_nat (sparse b).data
  have g2 := b8_nat (sparse c).data
  have g3 := b8_nat (sparse b).parity
  have g4 := b8_nat (sparse c).parity
  rw [h5'] at g1
  rw [h6'] at g3
  have l1 := sgood_len hb
  have l2 := sgood_len hc
  obtain ⟨_, b1, b2, b3, _⟩ := hb.1.1
  obtain ⟨_, c1, c2, c3, _⟩ := hc.1.1
  omega
theorem scut_no {b : Tx} (hb : SGood b) {n : Nat} (hn : n < b.length) : ¬ SGood (b.take n) := by
  by_cases h0 : n < 7
  · intro h; have := sgood_ge h; simp at this; omega
  · exact snot_both hb (by rw [List.getElem?_take, if_pos (by omega)]) (by rw [List.getElem?_take, if_pos (by omega)]) (by simp; omega)
theorem smore_no {b : Tx} (hb : SGood b) (c : UInt8) : ¬ SGood (b ++ [c]) := by
  have := sgood_ge hb
  exact snot_both hb (by rw [List.getElem?_append, if_pos (by omega)]) (by rw [List.getElem?_append, if_pos (by omega)]) (by simp)
end Go.Proofs.YtndofmoepjfnfaaGreat.Rc
namespace Go.Proofs.YtndofmoepjfnfaaGreat.Vo
open Pt (Tx)

/-- a tape -/
structure T where
  label : Int
  blocks : List Tx
  lost : Bool
/-- block n, if it is good -/
def good (t : T) (n : Nat) : Option Fm.U :=
  if t.lost = true then none else match t.blocks[n]? with
    | none => none
    | some b => if Fm.Good b ∧ (Fm.parse b).label = t.label ∧ (Fm.parse b).number = (n : Int) then some (Fm.parse b) else none
/-- how many blocks so many bytes take -/
def data (n : Nat) : Nat := (n + 63) / 64
theorem data_zero : data 0 = 0 := rfl
theorem data_int (n : Nat) : (((n : Int) - 1) / 64 + 1) = (data n : Int) := by unfold data; omega
/-- the part at block n -/
def part (t : T) (n : Nat) : Option Rc.H :=
  match good t n with
  | none => none
  | some u => if u.kind = 2 ∧ Rc.Good u.load ∧ n + data (Rc.parse u.load).len.toNat + 1 < t.blocks.length then some (Rc.parse u.load) else none
/-- the parts from block n on, f blocks looked at -/
def scan (t : T) : Nat → Nat → List (Rc.H × Nat)
  | 0, _ => []
  | f + 1, n => if n < t.blocks.length then
      match part t n with
      | some h => (h, n) :: scan t f (n + data h.len.toNat + 2)
      | none => scan t f (n + 1)
    else []
def parts (t : T) : List (Rc.H × Nat) := scan t t.blocks.length 1
def keep (t : T) : Nat :=
  match (parts t).getLast? with
  | some (h, n) => n + data h.len.toNat + 2
  | none => if (good t 0).isSome then 1 else 0
theorem good_lost {t : T} (h : t.lost = true) (n : Nat) : good t n = none := if_pos h
theorem good_end {t : T} {n : Nat} (h : t.blocks.length ≤ n) : good t n = none := by
  unfold good
  split
  · rfl
  · rw [List.getElem?_eq_none h]
theorem good_at {t : T} {n : Nat} {u : Fm.U} (hl : t.lost = false) (hb : t.blocks[n]? = some (Fm.blk u)) (hu : Fm.Ok u) (h1 : u.label = t.label) (h2 : u.number = (n : Int)) : good t n = some u := by
  unfold good
  rw [if_neg (by rw [hl]; decide), hb]
  show (if Fm.Good (Fm.blk u) ∧ (Fm.parse (Fm.blk u)).label = t.label ∧ (Fm.parse (Fm.blk u)).number = (n : Int) then some (Fm.parse (Fm.blk u)) else none) = some u
  rw [Fm.parse_blk hu, if_pos ⟨Fm.good_blk hu, h1, h2⟩]
theorem good_none {t : T} {n : Nat} {b : Tx} (hb : t.blocks[n]? = some b) (h : ¬ Fm.Good b) : good t n = none := by
  unfold good
  split
  · rfl
  · rw [hb]
    show (if Fm.Good b ∧ (Fm.parse b).label = t.label ∧ (Fm.parse b).number = (n : Int) then some (Fm.parse b) else none) = none
    rw [if_neg fun h' => h h'.1]
theorem good_some {t : T} {n : Nat} {u : Fm.U} (h : good t n = some u) : ∃ b, t.blocks[n]? = some b ∧ Fm.Good b ∧ u = Fm.parse b := by
  unfold good at h
  split at h
  · cases h
  · split at h
    · cases h
    · rename_i b hb
      split at h
      · rename_i h'
        exact ⟨b, hb, h'.1, (Option.some.inj h).symm⟩
      · cases h
theorem part_lt {t : T} {n : Nat} {h : Rc.H} (e : part t n = some h) : n < t.blocks.length := by
  unfold part at e
  split at e
  · cases e
  · rename_i u hu
    obtain ⟨b, hb, _⟩ := good_some hu
    exact (List.getElem?_eq_some_iff.1 hb).1
theorem part_in {t : T} {n : Nat} {h : Rc.H} (e : part t n = some h) : n + data h.len.toNat + 1 < t.blocks.length ∧ Rc.Ok h := by
  unfold part at e
  split at e
  · cases e
  · rename_i u hu
    split at e
    · rename_i h'
      cases e
      exact ⟨h'.2.2, h'.2.1.1⟩
    · cases e
/-- a head's frame -/
def headU (label at_ : Int) (h : Rc.H) : Fm.U := ⟨2, label, at_, Rc.blk h⟩
theorem head_long {h : Rc.H} (k : Rc.Ok h) : (Rc.blk h).length ≤ 64 := by have := Rc.put_le h; rw [Rc.put_ok k] at this; omega
/-- a label and numbers that frames can have -/
def Fits (label at_ : Int) (d : Nat) : Prop := (1 ≤ label ∧ label ≤ 2147483647) ∧ 0 ≤ at_ ∧ at_ + (d : Int) ≤ 2147483647
instance (label at_ : Int) (d : Nat) : Decidable (Fits label at_ d) := by unfold Fits; exact inferInstance
theorem headU_ok {label at_ : Int} {h : Rc.H} (k : Rc.Ok h) (hf : Fits label at_ 0) : Fm.Ok (headU label at_ h) := by
  obtain ⟨⟨a, b⟩, c, d⟩ := hf
  refine ⟨⟨(by show (1 : Int) ≤ 2; decide), (by show (2 : Int) ≤ 6; decide), a, b, c, ?_⟩, ?_⟩
  · show at_ ≤ 2147483647; omega
  · show (Rc.blk h).length ≤ Fm.room 2
    exact Nat.le_trans (head_long k) (by decide)
/-- where a head lies whose part is whole, a part lies -/
theorem part_at {t : T} {n : Nat} {h : Rc.H} (hl : t.lost = false) (hf : Fits t.label (n : Int) 0) (k : Rc.Ok h) (hb : t.blocks[n]? = some (Fm.blk (headU t.label (n : Int) h))) (hn : n + data h.len.toNat + 1 < t.blocks.length) : part t n = some h := by
  unfold part
  rw [good_at hl hb (headU_ok k hf) rfl rfl]
  show (if (2 : Int) = 2 ∧ Rc.Good (Rc.blk h) ∧ n + data (Rc.parse (Rc.blk h)).len.toNat + 1 < t.blocks.length then some (Rc.parse (Rc.blk h)) else none) = some h
  rw [Rc.parse_blk k, if_pos ⟨rfl, Rc.good_blk k, hn⟩]
/-- and where its part is not whole, none lies -/
theorem part_short {t : T} {n : Nat} {h : Rc.H} (hl : t.lost = false) (hf : Fits t.label (n : Int) 0) (k : Rc.Ok h) (hb : t.blocks[n]? = some (Fm.blk (headU t.label (n : Int) h))) (hn : t.blocks.length ≤ n + data h.len.toNat + 1) : part t n = none := by
  unfold part
  rw [good_at hl hb (headU_ok k hf) rfl rfl]
  show (if (2 : Int) = 2 ∧ Rc.Good (Rc.blk h) ∧ n + data (Rc.parse (Rc.blk h)).len.toNat + 1 < t.blocks.length then some (Rc.parse (Rc.blk h)) else none) = none
  rw [Rc.parse_blk k, if_neg fun h' => by have := h'.2.2; omega]
theorem part_kind {t : T} {n : Nat} {b : Tx} (hb : t.blocks[n]? = some b) (h : Fm.Good b → (Fm.parse b).kind ≠ 2) : part t n = none := by
  unfold part
  split
  · rfl
  · rename_i u hu
    obtain ⟨b', hb', hg, rfl⟩ := good_some hu
    rw [hb] at hb'
    cases hb'
    rw [if_neg fun h' => h hg h'.1]
theorem part_end {t : T} {n : Nat} (h : t.blocks.length ≤ n) : part t n = none := by
  unfold part; rw [good_end h]
/-- parts one behind the other, from block n on -/
def Laid (t : T) : Nat → List Rc.H → Prop
  | _, [] => True
  | n, h :: hs => part t n = some h ∧ Laid t (n + data h.len.toNat + 2) hs
def places : Nat → List Rc.H → List (Rc.H × Nat)
  | _, [] => []
  | n, h :: hs => (h, n) :: places (n + data h.len.toNat + 2) hs
def ending : Nat → List Rc.H → Nat
  | n, [] => n
  | n, h :: hs => ending (n + data h.len.toNat + 2) hs
theorem places_len : ∀ (n : Nat) (hs : List Rc.H), (places n hs).length = hs.length
  | _, [] => rfl
  | n, h :: hs => by rw [places, List.length_cons, places_len, List.length_cons]
theorem ending_ge : ∀ (n : Nat) (hs : List Rc.H), n + 2 * hs.length ≤ ending n hs
  | n, [] => by simp [ending]
  | n, h :: hs => by
    have := ending_ge (n + data h.len.toNat + 2) hs
    rw [ending, List.length_cons]; omega
theorem places_snoc : ∀ (n : Nat) (hs : List Rc.H) (h : Rc.H), places n (hs ++ [h]) = places n hs ++ [(h, ending n hs)]
  | _, [], _ => rfl
  | n, a :: hs, h => by rw [List.cons_append, places, places, places_snoc _ hs h, ending]; rfl
theorem ending_snoc : ∀ (n : Nat) (hs : List Rc.H) (h : Rc.H), ending n (hs ++ [h]) = ending n hs + data h.len.toNat + 2
  | _, [], _ => rfl
  | n, a :: hs, h => by rw [List.cons_append, ending, ending, ending_snoc _ hs h]
theorem scan_laid {t : T} : ∀ (hs : List Rc.H) (n f : Nat), Laid t n hs → scan t (hs.length + f) n = places n hs ++ scan t f (ending n hs)
  | [], n, f, _ => by rw [List.length_nil, Nat.zero_add]; rfl
  | h :: hs, n, f, hl => by
    have e : (h :: hs).length + f = (hs.length + f) + 1 := by rw [List.length_cons]; omega
    rw [e, scan, if_pos (part_lt hl.1), hl.1]
    show (h, n) :: scan t (hs.length + f) (n + data h.len.toNat + 2) = _
    rw [scan_laid hs _ f hl.2]; rfl
theorem scan_none {t : T} : ∀ (f n : Nat), (∀ m, n ≤ m → part t m = none) → scan t f n = []
  | 0, _, _ => rfl
  | f + 1, n, h => by
    rw [scan]
    split
    · rw [h n (Nat.le_refl _)]
      exact scan_none f (n + 1) fun m hm => h m (by omega)
    · rfl
/-- parts that lie one behind the other, and none behind them, are all that is found -/
theorem parts_laid {t : T} {hs : List Rc.H} (hl : Laid t 1 hs) (hn : ∀ m, ending 1 hs ≤ m → part t m = none) (hlen : hs.length ≤ t.blocks.length) : parts t = places 1 hs := by
  unfold parts
  obtain ⟨f, hf⟩ : ∃ f, t.blocks.length = hs.length + f := ⟨t.blocks.length - hs.length, by omega⟩
  rw [hf, scan_laid hs 1 f hl, scan_none f _ hn, List.append_nil]
theorem keep_laid {t : T} {hs : List Rc.H} (hp : parts t = places 1 hs) (h0 : hs = [] → (good t 0).isSome = true) : keep t = ending 1 hs := by
  unfold keep
  rw [hp]
  rcases List.eq_nil_or_concat hs with rfl | ⟨l, h, rfl⟩
  · show (if (good t 0).isSome then 1 else 0) = 1
    rw [if_pos (h0 rfl)]
  · rw [List.concat_eq_append, places_snoc, ending_snoc, List.getLast?_append]
    rfl
/-- data's frames -/
def chunk (b : Tx) (i : Nat) : Tx := (b.drop (64 * i)).take 64
theorem chunk_len (b : Tx) (i : Nat) : (chunk b i).length ≤ 64 := by unfold chunk; rw [List.length_take]; omega
def dataU (label at_ : Int) (b : Tx) (i : Nat) : Fm.U := ⟨3, label, at_ + 1 + (i : Int), chunk b i⟩
def markU (label at_ : Int) (d : Nat) : Fm.U := ⟨4, label, at_ + 1 + (d : Int), []⟩
def units (label at_ : Int) (h : Rc.H) (b : Tx) : List Fm.U := headU label at_ h :: ((List.range (data b.length)).map (dataU label at_ b) ++ [markU label at_ (data b.length)])
theorem units_len (label at_ : Int) (h : Rc.H) (b : Tx) : (units label at_ h b).length = data b.length + 2 := by
  unfold units; simp
theorem units_zero (label at_ : Int) (h : Rc.H) (b : Tx) : (units label at_ h b)[0]? = some (headU label at_ h) := rfl
theorem units_data {label at_ : Int} {h : Rc.H} {b : Tx} {i : Nat} (hi : i < data b.length) : (units label at_ h b)[i + 1]? = some (dataU label at_ b i) := by
  unfold units
  rw [List.getElem?_cons_succ, List.getElem?_append_left (by simpa using hi)]
  simp [hi]
theorem units_mark (label at_ : Int) (h : Rc.H) (b : Tx) : (units label at_ h b)[data b.length + 1]? = some (markU label at_ (data b.length)) := by
  unfold units
  rw [List.getElem?_cons_succ, List.getElem?_append_right (by simp)]
  simp
/-- each unit's number and label -/
theorem units_at {label at_ : Int} {h : Rc.H} {b : Tx} {j : Nat} {u : Fm.U} (hu : (units label at_ h b)[j]? = some u) : u.label = label ∧ u.number = at_ + (j : Int) ∧ (j = 0 ∨ u.kind ≠ 2) ∧ (u.kind = 2 ∨ u.kind = 3 ∨ u.kind = 4) := by
  have hj : j < data b.length + 2 := by rw [← units_len label at_ h b]; exact (List.getElem?_eq_some_iff.1 hu).1
  by_cases h0 : j = 0
  · subst h0
    cases hu
    exact ⟨rfl, by show at_ = at_ + 0; omega, .inl rfl, .inl rfl⟩
  · obtain ⟨i, rfl⟩ : ∃ i, j = i + 1 := ⟨j - 1, by omega⟩
    by_cases hi : i < data b.length
    · rw [units_data hi] at hu
      cases hu
      exact ⟨rfl, by show at_ + 1 + (i : Int) = _; omega, .inr (by show (3 : Int) ≠ 2; decide), .inr (.inl rfl)⟩
    · obtain rfl : i = data b.length := by omega
      rw [units_mark] at hu
      cases hu
      exact ⟨rfl, by show at_ + 1 + (data b.length : Int) = _; omega, .inr (by show (4 : Int) ≠ 2; decide), .inr (.inr rfl)⟩
theorem units_load {label at_ : Int} {h : Rc.H} {b : Tx} (k : Rc.Ok h) {j : Nat} {u : Fm.U} (hu : (units label at_ h b)[j]? = some u) : u.load.length ≤ 64 := by
  have hj : j < data b.length + 2 := by rw [← units_len label at_ h b]; exact (List.getElem?_eq_some_iff.1 hu).1
  by_cases h0 : j = 0
  · subst h0; cases hu; exact head_long k
  · obtain ⟨i, rfl⟩ : ∃ i, j = i + 1 := ⟨j - 1, by omega⟩
    by_cases hi : i < data b.length
    · rw [units_data hi] at hu; cases hu; exact chunk_len b i
    · obtain rfl : i = data b.length := by omega
      rw [units_mark] at hu; cases hu; exact Nat.zero_le _
theorem unit_ok {label at_ : Int} {h : Rc.H} {b : Tx} (k : Rc.Ok h) {j : Nat} {u : Fm.U} (hu : (units label at_ h b)[j]? = some u) (hf : Fits label (at_ + (j : Int)) 0) : Fm.Ok u := by
  obtain ⟨h1, h2, -, h3⟩ := units_at hu
  have h4 := units_load k hu
  obtain ⟨⟨a, b'⟩, c, d⟩ := hf
  refine ⟨⟨by omega, by omega, by omega, by omega, by omega, by omega⟩, Nat.le_trans h4 (Fm.room_ge _)⟩
theorem units_ok {label at_ : Int} {h : Rc.H} {b : Tx} (k : Rc.Ok h) (hf : Fits label at_ (data b.length + 1)) {j : Nat} {u : Fm.U} (hu : (units label at_ h b)[j]? = some u) : Fm.Ok u := by
  have hj : j < data b.length + 2 := by rw [← units_len label at_ h b]; exact (List.getElem?_eq_some_iff.1 hu).1
  obtain ⟨a, c, d⟩ := hf
  exact unit_ok k hu ⟨a, by omega, by omega⟩
theorem unit_err {label at_ : Int} {h : Rc.H} {b : Tx} (k : Rc.Ok h) {j : Nat} {u : Fm.U} (hu : (units label at_ h b)[j]? = some u) : Fm.err u = if Fits label (at_ + (j : Int)) 0 then 0 else 1 := by
  by_cases hf : Fits label (at_ + (j : Int)) 0
  · rw [if_pos hf]; exact Fm.err_ok (unit_ok k hu hf)
  · rw [if_neg hf]
    refine Fm.err_arg fun ha => hf ?_
    obtain ⟨h1, h2, -, -⟩ := units_at hu
    obtain ⟨-, -, a, b', c, d⟩ := ha
    exact ⟨⟨by omega, by omega⟩, by omega, by omega⟩
/-- which blocks a part is, and why none -/
def Right (label at_ : Int) (h : Rc.H) (b : Tx) : Prop := (Rc.Ok h ∧ (b.length : Int) = h.len) ∧ Fits label at_ (data b.length + 1)
instance (label at_ : Int) (h : Rc.H) (b : Tx) : Decidable (Right label at_ h b) := by unfold Right; exact inferInstance
def put (label at_ : Int) (h : Rc.H) (b : Tx) : List Tx := if Right label at_ h b then (units label at_ h b).map Fm.blk else []
def err (label at_ : Int) (h : Rc.H) (b : Tx) : Int := if Right label at_ h b then 0 else 1
theorem put_yes {label at_ : Int} {h : Rc.H} {b : Tx} (k : Right label at_ h b) : put label at_ h b = (units label at_ h b).map Fm.blk := if_pos k
theorem put_no {label at_ : Int} {h : Rc.H} {b : Tx} (k : ¬ Right label at_ h b) : put label at_ h b = [] := if_neg k
theorem err_yes {label at_ : Int} {h : Rc.H} {b : Tx} (k : Right label at_ h b) : err label at_ h b = 0 := if_pos k
theorem err_no {label at_ : Int} {h : Rc.H} {b : Tx} (k : ¬ Right label at_ h b) : err label at_ h b = 1 := if_neg k
theorem put_len {label at_ : Int} {h : Rc.H} {b : Tx} (k : Right label at_ h b) : (put label at_ h b).length = data b.length + 2 := by rw [put_yes k, List.length_map, units_len]
/-- how many blocks a part of so many bytes takes -/
def need (n : Int) : Nat := data (min (max n 0) 4000).toNat + 2
theorem need_of {b : Tx} {h : Rc.H} (k : Rc.Ok h) (e : (b.length : Int) = h.len) : need (b.length : Int) = data b.length + 2 := by
  have h1 : h.len ≤ 4000 := by obtain ⟨-, -, -, ⟨_, a⟩, b', c, d, _⟩ := k; omega
  unfold need
  rw [show (min (max (b.length : Int) 0) 4000).toNat = b.length by omega]
/-- a tape on which blocks were laid behind others -/
theorem laid_at {pre : List Tx} {label : Int} {h : Rc.H} {b : Tx} (post : List Tx) (k : Right label (pre.length : Int) h b) {j : Nat} (hj : j < data b.length + 2) :
    ∃ u, (units label (pre.length : Int) h b)[j]? = some u ∧ (pre ++ (put label (pre.length : Int) h b ++ post))[pre.length + j]? = some (Fm.blk u) := by
  have hj' : j < (units label (pre.length : Int) h b).length := by rw [units_len]; exact hj
  refine ⟨_, List.getElem?_eq_getElem hj', ?_⟩
  rw [List.getElem?_append_right (by omega), show pre.length + j - pre.length = j by omega, List.getElem?_append_left (by rw [put_len k]; exact hj), put_yes k, List.getElem?_map, List.getElem?_eq_getElem hj']
  rfl
end Go.Proofs.YtndofmoepjfnfaaGreat.Vo
namespace Go.Proofs.YtndofmoepjfnfaaGreat.Sr
variable {α β : Type}

/-- from behind, ahead of all that it is less than -/
def insL (lt : α → α → Bool) (x : α) : List α → List α
  | [] => [x]
  | b :: r => if lt x b = true then b :: insL lt x r else x :: b :: r
def insR (lt : α → α → Bool) (x : α) (a : List α) : List α := (insL lt x a.reverse).reverse
def isort (lt : α → α → Bool) (l : List α) : List α := l.foldl (fun acc x => insR lt x acc) []
theorem isort_snoc (lt : α → α → Bool) (l : List α) (x : α) : isort lt (l ++ [x]) = insR lt x (isort lt l) := by unfold isort; rw [List.foldl_append]; rfl
theorem insL_perm (lt : α → α → Bool) (x : α) : ∀ l : List α, (insL lt x l).Perm (x :: l)
  | [] => List.Perm.refl _
  | b :: r => by
    rw [insL]
    split
    · exact ((insL_perm lt x r).cons b).trans (List.Perm.swap x b r)
    · exact List.Perm.refl _
theorem insR_perm (lt : α → α → Bool) (x : α) (l : List α) : (insR lt x l).Perm (x :: l) := by
  unfold insR
  exact (List.reverse_perm _).trans ((insL_perm lt x l.reverse).trans ((List.reverse_perm l).cons x))
theorem isort_perm (lt : α → α → Bool) (l : List α) : (isort lt l).Perm l := by
  have key : ∀ n (l : List α), l.length = n → (isort lt l).Perm l := by
    intro n
    induction n with
    | zero => intro l hl; rw [List.length_eq_zero_iff.1 hl]; exact List.Perm.refl _
    | succ n ih =>
      intro l hl
      obtain ⟨l', x, rfl⟩ : ∃ l' x, l = l' ++ [x] := ⟨l.dropLast, l.getLast (by intro e; rw [e] at hl; cases hl), (List.dropLast_concat_getLast _).symm⟩
      rw [isort_snoc]
      exact (insR_perm lt x _).trans (((ih l' (by simpa using hl)).cons x).trans (List.perm_append_comm (l₁ := [x]) (l₂ := l')))
  exact key l.length l rfl
theorem isort_len (lt : α → α → Bool) (l : List α) : (isort lt l).length = l.length := (isort_perm lt l).length_eq
theorem mem_isort {lt : α → α → Bool} {l : List α} {y : α} : y ∈ isort lt l ↔ y ∈ l := (isort_perm lt l).mem_iff
/-- the place is told by what stands ahead of it and behind -/
theorem insR_at {lt : α → α → Bool} {x : α} {u v : List α} (hv : ∀ b ∈ v, lt x b = true) (hu : ∀ b, u.getLast? = some b → lt x b = false) : insR lt x (u ++ v) = u ++ x :: v := by
  have key : ∀ r : List α, (∀ b ∈ r, lt x b = true) → ∀ s, insL lt x (r ++ s) = r ++ insL lt x s := by
    intro r
    induction r with
    | nil => intro _ s; rfl
    | cons b r ih =>
      intro h s
      rw [List.cons_append, insL, if_pos (h b List.mem_cons_self), ih (fun c hc => h c (List.mem_cons_of_mem _ hc))]; rfl
  unfold insR
  rw [List.reverse_append, key v.reverse (fun b hb => hv b (List.mem_reverse.1 hb))]
  have e : insL lt x u.reverse = x :: u.reverse := by
    cases h : u.reverse with
    | nil => rfl
    | cons b r =>
      have hb : u.getLast? = some b := by rw [← List.head?_reverse, h]; rfl
      rw [insL, if_neg (by rw [hu b hb]; decide)]
  rw [e]; simp
/-- nothing behind is less than what is ahead -/
def Asc (lt : α → α → Bool) (l : List α) : Prop := l.Pairwise fun a b => lt b a = false
/-- an order on these -/
structure Ord (lt : α → α → Bool) (S : α → Prop) : Prop where
  asym : ∀ a b, S a → S b → lt a b = true → lt b a = false
  tr : ∀ a b c, S a → S b → S c → lt a b = false → lt b c = false → lt a c = false
theorem insR_asc {lt : α → α → Bool} {S : α → Prop} (O : Ord lt S) {x : α} (hx : S x) {l : List α} (hS : ∀ a ∈ l, S a) (h : Asc lt l) : Asc lt (insR lt x l) := by
  have key : ∀ r : List α, (∀ a ∈ r, S a) → r.Pairwise (fun a b => lt a b = false) → (insL lt x r).Pairwise (fun a b => lt a b = false) := by
    intro r
    induction r with
    | nil => intro _ _; exact List.pairwise_singleton _ _
    | cons b r ih =>
      intro hS h
      obtain ⟨h1, h2⟩ := List.pairwise_cons.1 h
      rw [insL]
      split
      · rename_i hlt
        refine List.pairwise_cons.2 ⟨fun c hc => ?_, ih (fun a ha => hS a (List.mem_cons_of_mem _ ha)) h2⟩
        rcases List.mem_cons.1 ((insL_perm lt x r).mem_iff.1 hc) with rfl | hc
        · exact O.asym _ _ hx (hS b List.mem_cons_self) hlt
        · exact h1 c hc
      · rename_i hlt
        have hlt' : lt x b = false := by simpa using hlt
        refine List.pairwise_cons.2 ⟨fun c hc => ?_, h⟩
        rcases List.mem_cons.1 hc with rfl | hc
        · exact hlt'
        · exact O.tr x b c hx (hS b List.mem_cons_self) (hS c (List.mem_cons_of_mem _ hc)) hlt' (h1 c hc)
  unfold Asc insR
  rw [List.pairwise_reverse]
  exact key _ (fun a ha => hS a (List.mem_reverse.1 ha)) (List.pairwise_reverse.2 h)
theorem isort_asc {lt : α → α → Bool} {S : α → Prop} (O : Ord lt S) {l : List α} (hS : ∀ a ∈ l, S a) : Asc lt (isort lt l) := by
  have key : ∀ n (l : List α), l.length = n → (∀ a ∈ l, S a) → Asc lt (isort lt l) := by
    intro n
    induction n with
    | zero => intro l hl _; rw [List.length_eq_zero_iff.1 hl]; exact List.Pairwise.nil
    | succ n ih =>
      intro l hl hS
      obtain ⟨l', x, rfl⟩ : ∃ l' x, l = l' ++ [x] := ⟨l.dropLast, l.getLast (by intro e; rw [e] at hl; cases hl), (List.dropLast_concat_getLast _).symm⟩
      rw [isort_snoc]
      exact insR_asc O (hS x (by simp)) (fun a ha => hS a (List.mem_append_left _ (mem_isort.1 ha))) (ih l' (by simpa using hl) fun a ha => hS a (List.mem_append_left _ ha))
  exact key l.length l rfl hS
/-- in whichever order they come -/
theorem isort_of_perm {lt : α → α → Bool} {S : α → Prop} (O : Ord lt S) {l l' : List α} (hp : l.Perm l') (hS : ∀ a ∈ l, S a) (hanti : ∀ a ∈ l, ∀ b ∈ l, lt a b = false → lt b a = false → a = b) : isort lt l = isort lt l' := by
  refine List.Perm.eq_of_pairwise (le := fun a b => lt b a = false) (fun a b ha hb h1 h2 => hanti a (mem_isort.1 ha) b (hp.mem_iff.2 (mem_isort.1 hb)) h2 h1) (isort_asc O hS) (isort_asc O fun a ha => hS a (hp.mem_iff.2 ha)) ((isort_perm lt l).trans (hp.trans (isort_perm lt l').symm))
/-- each that is not like the one ahead of it -/
def comp (e : α → α → Bool) : α → List α → List α
  | _, [] => []
  | p, a :: l => if e a p = true then comp e a l else a :: comp e a l
def compact (e : α → α → Bool) : List α → List α
  | [] => []
  | a :: l => a :: comp e a l
/-- the last -/
def lk : α → List α → α
  | p, [] => p
  | _, a :: l => lk a l
theorem comp_snoc {e : α → α → Bool} {x : α} : ∀ {l : List α} {p : α}, comp e p (l ++ [x]) = comp e p l ++ (if e x (lk p l) = true then [] else [x])
  | [], p => by
    rw [List.nil_append, comp, comp, comp, lk]
    split <;> rfl
  | a :: l, p => by
    rw [List.cons_append, comp, comp, lk]
    split
    · rw [comp_snoc]
    · rw [comp_snoc]; rfl
theorem lk_last : ∀ {l : List α} {p : α} {j : Nat} (_ : j + 1 = l.length) (hj : j < l.length), lk p l = l[j]
  | [], _, j, h, _ => by cases h
  | [a], _, j, h, _ => by
    have e : j = 0 := by simpa using h
    subst e; rfl
  | a :: b :: l, _, j, h, hj => by
    obtain ⟨j, rfl⟩ : ∃ i, j = i + 1 := ⟨j - 1, by simp at h; omega⟩
    rw [lk]
    exact lk_last (by simpa using h) (by simpa using hj)
theorem compact_take {e : α → α → Bool} {l : List α} {k : Nat} (hk : k + 1 < l.length) : compact e (l.take (k + 1 + 1)) = compact e (l.take (k + 1)) ++ (if e l[k + 1] l[k] = true then [] else [l[k + 1]]) := by
  rw [List.take_succ_eq_append_getElem hk]
  cases l with
  | nil => simp at hk
  | cons a m =>
    rw [List.take_succ_cons, List.cons_append, compact, compact, comp_snoc, List.cons_append]
    have e : lk a (m.take k) = ((a :: m)[k]'(by omega)) := by
      cases k with
      | zero => rfl
      | succ k =>
        have hk' : k < m.length := by simpa using (show k + 1 < (a :: m).length by omega)
        have h1 : k + 1 = (m.take (k + 1)).length := by rw [List.length_take]; omega
        rw [lk_last (p := a) h1 (by omega), List.getElem_take]; rfl
    rw [e]
theorem compact_one {e : α → α → Bool} {l : List α} (h : 0 < l.length) : compact e (l.take 1) = l.take 1 := by
  cases l with
  | nil => simp at h
  | cons a m => rfl
theorem compact_all {e : α → α → Bool} {l : List α} {k : Nat} (h : l.length ≤ k) : compact e (l.take k) = compact e l := by rw [List.take_of_length_le h]
theorem compact_le (e : α → α → Bool) (l : List α) : (compact e l).length ≤ l.length := by
  have key : ∀ (l : List α) p, (comp e p l).length ≤ l.length := by
    intro l
    induction l with
    | nil => intro p; exact Nat.le_refl _
    | cons a l ih =>
      intro p
      rw [comp]
      have := ih a
      split
      · rw [List.length_cons]; omega
      · rw [List.length_cons, List.length_cons]; omega
  cases l with
  | nil => exact Nat.le_refl _
  | cons a l => rw [compact, List.length_cons, List.length_cons]; have := key l a; omega
theorem mem_compact {e : α → α → Bool} {l : List α} {x : α} (h : x ∈ compact e l) : x ∈ l := by
  have key : ∀ (l : List α) p, x ∈ comp e p l → x ∈ l := by
    intro l
    induction l with
    | nil => intro p h; exact h
    | cons a l ih =>
      intro p h
      rw [comp] at h
      split at h
      · exact List.mem_cons_of_mem _ (ih _ h)
      · rcases List.mem_cons.1 h with rfl | h
        · exact List.mem_cons_self
        · exact List.mem_cons_of_mem _ (ih _ h)
  cases l with
  | nil => exact h
  | cons a l =>
    rw [compact] at h
    rcases List.mem_cons.1 h with rfl | h
    · exact List.mem_cons_self
    · exact List.mem_cons_of_mem _ (key _ _ h)
/-- what sorting and compaction make of values is what they make of what the values stand for -/
theorem insL_map {lt : α → α → Bool} {lt' : β → β → Bool} {g : α → β} (h : ∀ a b, lt' (g a) (g b) = lt a b) (x : α) : ∀ l : List α, (insL lt x l).map g = insL lt' (g x) (l.map g)
  | [] => rfl
  | b :: r => by
    rw [insL, List.map_cons, insL, h]
    split
    · rw [List.map_cons, insL_map h]
    · rfl
theorem insR_map {lt : α → α → Bool} {lt' : β → β → Bool} {g : α → β} (h : ∀ a b, lt' (g a) (g b) = lt a b) (x : α) (l : List α) : (insR lt x l).map g = insR lt' (g x) (l.map g) := by
  unfold insR
  rw [List.map_reverse, insL_map h, List.map_reverse]
theorem isort_map {lt : α → α → Bool} {lt' : β → β → Bool} {g : α → β} (h : ∀ a b, lt' (g a) (g b) = lt a b) (l : List α) : (isort lt l).map g = isort lt' (l.map g) := by
  have key : ∀ (l acc : List α), (l.foldl (fun acc x => insR lt x acc) acc).map g = (l.map g).foldl (fun acc x => insR lt' x acc) (acc.map g) := by
    intro l
    induction l with
    | nil => intro acc; rfl
    | cons x l ih => intro acc; rw [List.foldl_cons, List.map_cons, List.foldl_cons, ih, insR_map h]
  exact key l []
theorem comp_map {e : α → α → Bool} {e' : β → β → Bool} {g : α → β} (h : ∀ a b, e' (g a) (g b) = e a b) : ∀ (l : List α) (p : α), (comp e p l).map g = comp e' (g p) (l.map g)
  | [], _ => rfl
  | a :: l, p => by
    rw [comp, List.map_cons, comp, h]
    split
    · exact comp_map h l a
    · rw [List.map_cons, comp_map h l a]
theorem compact_map {e : α → α → Bool} {e' : β → β → Bool} {g : α → β} (h : ∀ a b, e' (g a) (g b) = e a b) (l : List α) : (compact e l).map g = compact e' (l.map g) := by
  cases l with
  | nil => rfl
  | cons a l => rw [compact, List.map_cons, comp_map h, List.map_cons, compact]
end Go.Proofs.YtndofmoepjfnfaaGreat.Sr
