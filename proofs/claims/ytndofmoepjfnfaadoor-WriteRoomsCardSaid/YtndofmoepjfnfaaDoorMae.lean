/- Chapter 10's heads and seals as lists of bytes: which may be, which bytes each is, which one any bytes are. No program. Chapter 11's tapes as lists of blocks: which block is good, which parts lie there, how much is kept; which blocks a part is. No program. Chapter 10's seals as what the two readers make of bytes; labels, one behind the other. No program. -/
import Derived.Test.YtndofmoepjfnfaaDoorMad
namespace Go.Proofs.YtndofmoepjfnfaaDoor.Rc
open Pt (Tx)
open Cd

/-- a head -/
structure H where
  path : Tx
  version : Int
  size : Int
  from_ : Int
  len : Int
  serial : Int
  sum : Int
  gone : Bool
def H.zero : H := ⟨[], 0, 0, 0, 0, 0, 0, false⟩
/-- the numbers of a head that may be -/
def Nums (h : H) : Prop := (1 ≤ h.version ∧ h.version ≤ 1073741824) ∧ (1 ≤ h.serial ∧ h.serial ≤ 1073741824) ∧ (0 ≤ h.size ∧ h.size ≤ 4000) ∧ 0 ≤ h.from_ ∧ 0 ≤ h.len ∧ h.from_ + h.len ≤ h.size ∧ (0 < h.len ∨ h.size = 0) ∧ (0 ≤ h.sum ∧ h.sum ≤ 4294967295)
  ∧ (h.gone = true → h.size = 0 ∧ h.from_ = 0 ∧ h.len = 0 ∧ h.sum = 0)
instance (h : H) : Decidable (Nums h) := by unfold Nums; exact inferInstance
def Ok (h : H) : Prop := Pt.right h.path = true ∧ Nums h
instance (h : H) : Decidable (Ok h) := by unfold Ok; exact inferInstance
def goneB (g : Bool) : UInt8 := if g then 1 else 0
/-- the bytes of a head -/
def blk (h : H) : Tx := tb h.path ++ (be4 h.version ++ (be4 h.size ++ (be4 h.from_ ++ (be4 h.len ++ (be4 h.serial ++ (be4 h.sum ++ [goneB h.gone]))))))
/-- what HeadBytes answers -/
def put (h : H) : Tx := if Ok h then blk h else []
theorem put_ok {h : H} (k : Ok h) : put h = blk h := if_pos k
theorem put_no {h : H} (k : ¬ Ok h) : put h = [] := if_neg k
theorem Ok.short {h : H} (k : Ok h) : h.path.length ≤ 24 := (Pt.right_iff.1 k.1).2.1
theorem Ok.long {h : H} (k : Ok h) : 1 ≤ h.path.length := (Pt.right_iff.1 k.1).1
theorem blk_len {h : H} (k : Ok h) : (blk h).length = 26 + h.path.length := by
  have := k.short
  unfold blk
  simp only [List.length_append, tb_len, be4_len, List.length_cons, List.length_nil]
  omega
theorem put_le (h : H) : (put h).length ≤ 50 := by
  by_cases k : Ok h
  · rw [put_ok k, blk_len k]; have := k.short; omega
  · rw [put_no k]; simp
/-- the states of one who reads a head, behind each item -/
def t1 (b : Tx) : St := afT (b, false)
def t2 (b : Tx) : St := af 4 (t1 b)
def t3 (b : Tx) : St := af 4 (t2 b)
def t4 (b : Tx) : St := af 4 (t3 b)
def t5 (b : Tx) : St := af 4 (t4 b)
def t6 (b : Tx) : St := af 4 (t5 b)
def t7 (b : Tx) : St := af 4 (t6 b)
def t8 (b : Tx) : St := af 1 (t7 b)
/-- what bytes say -/
def parse (b : Tx) : H := ⟨txt (b, false), num (tk 4 (t1 b)), num (tk 4 (t2 b)), num (tk 4 (t3 b)), num (tk 4 (t4 b)), num (tk 4 (t5 b)), num (tk 4 (t6 b)), byt (t7 b) == 1⟩
def Good (b : Tx) : Prop := Ok (parse b) ∧ blk (parse b) = b
instance (b : Tx) : Decidable (Good b) := by unfold Good; exact inferInstance
def got (b : Tx) : H := if Good b then parse b else H.zero
def gotE (b : Tx) : Int := if Good b then 0 else 2
theorem got_yes {b : Tx} (h : Good b) : got b = parse b := if_pos h
theorem got_no {b : Tx} (h : ¬ Good b) : got b = H.zero := if_neg h
theorem gotE_yes {b : Tx} (h : Good b) : gotE b = 0 := if_pos h
theorem gotE_no {b : Tx} (h : ¬ Good b) : gotE b = 2 := if_neg h
theorem num4 {n : Int} (h0 : 0 ≤ n) (h1 : n < 4294967296) : num (be4 n) = n := by rw [num_be4]; omega
theorem parse_blk {h : H} (k : Ok h) : parse (blk h) = h := by
  obtain ⟨k1, ⟨v0, v1⟩, ⟨s0, s1⟩, ⟨z0, z1⟩, f0, l0, fl, -, ⟨m0, m1⟩, -⟩ := k
  have hs := (Pt.right_iff.1 k1).2.1
  have e0 : txt (blk h, false) = h.path := by unfold blk; rw [txt_tb, List.take_of_length_le (by omega)]
  have e1 : t1 (blk h) = (be4 h.version ++ (be4 h.size ++ (be4 h.from_ ++ (be4 h.len ++ (be4 h.serial ++ (be4 h.sum ++ [goneB h.gone]))))), false) := afT_tb _ _ _
  have e2 : t2 (blk h) = (be4 h.size ++ (be4 h.from_ ++ (be4 h.len ++ (be4 h.serial ++ (be4 h.sum ++ [goneB h.gone])))), false) := by unfold t2; rw [e1]; exact af_app 4 _ _ _ rfl
  have e3 : t3 (blk h) = (be4 h.from_ ++ (be4 h.len ++ (be4 h.serial ++ (be4 h.sum ++ [goneB h.gone]))), false) := by unfold t3; rw [e2]; exact af_app 4 _ _ _ rfl
  have e4 : t4 (blk h) = (be4 h.len ++ (be4 h.serial ++ (be4 h.sum ++ [goneB h.gone])), false) := by unfold t4; rw [e3]; exact af_app 4 _ _ _ rfl
  have e5 : t5 (blk h) = (be4 h.serial ++ (be4 h.sum ++ [goneB h.gone]), false) := by unfold t5; rw [e4]; exact af_app 4 _ _ _ rfl
  have e6 : t6 (blk h) = (be4 h.sum ++ [goneB h.gone], false) := by unfold t6; rw [e5]; exact af_app 4 _ _ _ rfl
  have e7 : t7 (blk h) = ([goneB h.gone] ++ [], false) := by unfold t7; rw [e6]; exact af_app 4 _ _ _ rfl
  have eg : (goneB h.gone == 1) = h.gone := by cases h.gone <;> rfl
  unfold parse
  rw [e0, e1, e2, e3, e4, e5, e6, e7, tk_app 4 _ _ _ rfl, tk_app 4 _ _ _ rfl, tk_app 4 _ _ _ rfl, tk_app 4 _ _ _ rfl, tk_app 4 _ _ _ rfl, tk_app 4 _ _ _ rfl,
    show byt ([goneB h.gone] ++ [], false) = goneB h.gone from byt_cons _ _ _, eg, num4 (by omega) (by omega), num4 (by omega) (by omega), num4 (by omega) (by omega), num4 (by omega) (by omega), num4 (by omega) (by omega), num4 (by omega) (by omega)]
theorem good_blk {h : H} (k : Ok h) : Good (blk h) := by unfold Good; rw [parse_blk k]; exact ⟨k, rfl⟩
theorem good_len {b : Tx} (h : Good b) : b.length = 26 + (parse b).path.length := by rw [← blk_len h.1, h.2]
theorem good_head {b : Tx} (h : Good b) : ∃ t, b = b8 ((parse b).path.length : Int) :: t := by
  have hs := h.1.short
  have e : ∃ t, blk (parse b) = b8 ((parse b).path.length : Int) :: t := by
    unfold blk tb
    rw [List.take_of_length_le (by omega), List.cons_append]
    exact ⟨_, rfl⟩
  obtain ⟨t, ht⟩ := e
  exact ⟨t, h.2.symm.trans ht⟩
theorem good_ge {b : Tx} (h : Good b) : 27 ≤ b.length := by have := good_len h; have := h.1.long; omega
/-- of two that begin alike and are not as long one is no head -/
theorem not_both {b c : Tx} (hb : Good b) (h : b.head? = c.head?) (hl : b.length ≠ c.length) : ¬ Good c := fun hc => by
  obtain ⟨t, ht⟩ := good_head hb
  obtain ⟨t', ht'⟩ := good_head hc
  have e1 : b.head? = some (b8 ((parse b).path.length : Int)) := (congrArg List.head? ht).trans rfl
  have e2 : c.head? = some (b8 ((parse c).path.length : Int)) := (congrArg List.head? ht').trans rfl
  rw [e1, e2] at h
  have h' := Option.some.inj h
  have g1 := b8_nat ((parse b).path.length : Int)
  have g2 := b8_nat ((parse c).path.length : Int)
  rw [h'] at g1
  have := hb.1.short
  have := hc.1.short
  have := good_len hb
  have := good_len hc
  omega
theorem head_take {b : Tx} {n : Nat} (h0 : 0 < n) : b.head? = (b.take n).head? := by
  obtain ⟨m, rfl⟩ : ∃ m, n = m + 1 := ⟨n - 1, by omega⟩
  cases b <;> rfl
theorem head_more {b : Tx} (h : b ≠ []) (c : UInt8) : b.head? = (b ++ [c]).head? := by
  cases b with
  | nil => exact absurd rfl h
  | cons d l => rfl
theorem cut_no {b : Tx} (hb : Good b) {n : Nat} (hn : n < b.length) : ¬ Good (b.take n) := by
  by_cases h0 : n = 0
  · subst h0; intro h; have := good_ge h; simp at this
  · exact not_both hb (head_take (by omega)) (by simp; omega)
theorem more_no {b : Tx} (hb : Good b) (c : UInt8) : ¬ Good (b ++ [c]) :=
  not_both hb (head_more (fun e => by have := good_ge hb; rw [e] at this; simp at this) c) (by simp)

/-- a seal -/
structure S where
  number : Int
  index : Int
  data : Int
  parity : Int
  labels : List Int
def S.zero : S := ⟨0, 0, 0, 0, []⟩
def SNums (s : S) : Prop := (1 ≤ s.number ∧ s.number ≤ 1073741824) ∧ 1 ≤ s.data ∧ 1 ≤ s.parity ∧ s.data + s.parity ≤ 14 ∧ (s.labels.length : Int) = s.data + s.parity ∧ 0 ≤ s.index ∧ s.index < (s.labels.length : Int)
instance (s : S) : Decidable (SNums s) := by unfold SNums; exact inferInstance
/-- all can be labels, none is there twice -/
def Labs (l : List Int) : Prop := (∀ x ∈ l, 1 ≤ x ∧ x ≤ 2147483647) ∧ l.Nodup
instance (l : List Int) : Decidable (Labs l) := by unfold Labs; exact inferInstance
def SOk (s : S) : Prop := SNums s ∧ Labs s.labels
instance (s : S) : Decidable (SOk s) := by unfold SOk; exact inferInstance
def labB : List Int → Tx
  | [] => []
  | x :: l => be4 x ++ labB l
theorem labB_len : ∀ l : List Int, (labB l).length = 4 * l.length
  | [] => rfl
  | x :: l => by rw [labB, List.length_append, be4_len, labB_len l, List.length_cons]; omega
theorem labB_append : ∀ a b : List Int, labB (a ++ b) = labB a ++ labB b
  | [], b => rfl
  | x :: a, b => by rw [List.cons_append, labB, labB, labB_append a b, List.append_assoc]
def sblk (s : S) : Tx := be4 s.number ++ ([b8 s.index] ++ ([b8 s.data] ++ ([b8 s.parity] ++ labB s.labels)))
def sput (s : S) : Tx := if SOk s then sblk s else []
theorem sput_ok {s : S} (k : SOk s) : sput s = sblk s := if_pos k
theorem sput_no {s : S} (k : ¬ SOk s) : sput s = [] := if_neg k
theorem sblk_len (s : S) : (sblk s).length = 7 + 4 * s.labels.length := by
  unfold sblk; simp only [List.length_append, be4_len, labB_len, List.length_cons, List.length_nil]; omega
theorem SOk.few {s : S} (k : SOk s) : s.labels.length ≤ 14 := by obtain ⟨⟨_, _, _, h1, h2, _⟩, _⟩ := k; omega
theorem sput_le (s : S) : (sput s).length ≤ 63 := by
  by_cases k : SOk s
  · rw [sput_ok k, sblk_len]; have := k.few; omega
  · rw [sput_no k]; simp
/-- the states of one who reads a seal -/
def r1 (b : Tx) : St := af 4 (b, false)
def r2 (b : Tx) : St := af 1 (r1 b)
def r3 (b : Tx) : St := af 1 (r2 b)
def r4 (b : Tx) : St := af 1 (r3 b)
/-- the numbers that bytes are, four by four, what is over is left -/
def labs : Nat → Tx → List Int
  | 0, _ => []
  | n + 1, b => if b.length < 4 then [] else num (b.take 4) :: labs n (b.drop 4)
theorem labs_labB : ∀ (l : List Int) (n : Nat), l.length ≤ n → (∀ x ∈ l, 0 ≤ x ∧ x < 4294967296) → labs n (labB l) = l
  | [], 0, _, _ => rfl
  | [], n + 1, _, _ => rfl
  | x :: l, 0, h, _ => by simp at h
  | x :: l, n + 1, h, hx => by
    have h1 := hx x (List.mem_cons_self ..)
    rw [labs, labB, if_neg (by rw [List.length_append, be4_len]; omega), List.take_left' (be4_len x), List.drop_left' (be4_len x), num4 h1.1 h1.2, labs_labB l n (by simp at h; omega) (fun y hy => hx y (List.mem_cons_of_mem _ hy))]
def sparse (b : Tx) : S := ⟨num (tk 4 (b, false)), ((byt (r1 b)).toNat : Int), ((byt (r2 b)).toNat : Int), ((byt (r3 b)).toNat : Int), labs 14 (r4 b).1⟩
def SGood (b : Tx) : Prop := SOk (sparse b) ∧ sblk (sparse b) = b
instance (b : Tx) : Decidable (SGood b) := by unfold SGood; exact inferInstance
def sgot (b : Tx) : S := if SGood b then sparse b else S.zero
def sgotE (b : Tx) : Int := if SGood b then 0 else 2
theorem sgot_yes {b : Tx} (h : SGood b) : sgot b = sparse b := if_pos h
theorem sgot_no {b : Tx} (h : ¬ SGood b) : sgot b = S.zero := if_neg h
theorem sgotE_yes {b : Tx} (h : SGood b) : sgotE b = 0 := if_pos h
theorem sgotE_no {b : Tx} (h : ¬ SGood b) : sgotE b = 2 := if_neg h
theorem sparse_sblk {s : S} (k : SOk s) : sparse (sblk s) = s := by
  have hf := k.few
  obtain ⟨⟨⟨n0, n1⟩, d0, p0, dp, hl, i0, i1⟩, hx, -⟩ := k
  have e1 : r1 (sblk s) = ([b8 s.index] ++ ([b8 s.data] ++ ([b8 s.parity] ++ labB s.labels)), false) := af_app 4 _ _ _ rfl
  have e2 : r2 (sblk s) = ([b8 s.data] ++ ([b8 s.parity] ++ labB s.labels), false) := by unfold r2; rw [e1]; exact af_app 1 _ _ _ rfl
  have e3 : r3 (sblk s) = ([b8 s.parity] ++ labB s.labels, false) := by unfold r3; rw [e2]; exact af_app 1 _ _ _ rfl
  have e4 : r4 (sblk s) = (labB s.labels, false) := by unfold r4; rw [e3]; exact af_app 1 _ _ _ rfl
  have e0 : tk 4 (sblk s, false) = be4 s.number := tk_app 4 _ _ _ rfl
  have g1 := b8_nat s.index
  have g2 := b8_nat s.data
  have g3 := b8_nat s.parity
  unfold sparse
  rw [e0, e1, e2, e3, e4, show byt ([b8 s.index] ++ ([b8 s.data] ++ ([b8 s.parity] ++ labB s.labels)), false) = b8 s.index from byt_cons _ _ _,
    show byt ([b8 s.data] ++ ([b8 s.parity] ++ labB s.labels), false) = b8 s.data from byt_cons _ _ _, show byt ([b8 s.parity] ++ labB s.labels, false) = b8 s.parity from byt_cons _ _ _,
    g1, g2, g3, num4 (by omega) (by omega), labs_labB s.labels 14 hf (fun x h => by have := hx x h; omega), show s.index % 256 = s.index by omega, show s.data % 256 = s.data by omega, show s.parity % 256 = s.parity by omega]
theorem sgood_blk {s : S} (k : SOk s) : SGood (sblk s) := by unfold SGood; rw [sparse_sblk k]; exact ⟨k, rfl⟩
theorem sgood_len {b : Tx} (h : SGood b) : (b.length : Int) = 7 + 4 * ((sparse b).data + (sparse b).parity) := by
  have h1 : b.length = 7 + 4 * (sparse b).labels.length := by rw [← sblk_len, h.2]
  have h2 := h.1.1.2.2.2.2.1
  omega
theorem sgood_ge {b : Tx} (h : SGood b) : 15 ≤ b.length := by have := sgood_len h; have := h.1.1.2.1; have := h.1.1.2.2.1; omega
/-- what stands at 5 and 6 -/
theorem sgood_at {b : Tx} (h : SGood b) : b[5]? = some (b8 (sparse b).data) ∧ b[6]? = some (b8 (sparse b).parity) := by
  have e : b = sblk (sparse b) := h.2.symm
  constructor <;> conv => lhs; rw [e]
  all_goals rfl
theorem snot_both {b c : Tx} (hb : SGood b) (h5 : b[5]? = c[5]?) (h6 : b[6]? = c[6]?) (hl : b.length ≠ c.length) : ¬ SGood c := fun hc => by
  obtain ⟨a5, a6⟩ := sgood_at hb
  obtain ⟨c5, c6⟩ := sgood_at hc
  rw [a5, c5] at h5
  rw [a6, c6] at h6
  have h5' := Option.some.inj h5
  have h6' := Option.some.inj h6
  have g1 := b8_nat (sparse b).data
  have g2 := b8_nat (sparse c).data
  have g3 := b8_nat (sparse b).parity
  have g4 := b8_nat (sparse c).parity
  rw [h5'] at g1
  rw [h6'] at g3
  have l1 := sgood_len hb
  have l2 := sgood_len hc
  obtain ⟨_, b1, b2, b3, _⟩ := hb.1.1
  obtain ⟨_, c1, c2, c3, _⟩ := hc.1.1
  omega
theorem scut_no {b : Tx} (hb : SGood b) {n : Nat} (hn : n < b.length) : ¬ SGood (b.take n) := by
  by_cases h0 : n < 7
  · intro h; have := sgood_ge h; simp at this; omega
  · exact snot_both hb (by rw [List.getElem?_take, if_pos (by omega)]) (by rw [List.getElem?_take, if_pos (by omega)]) (by simp; omega)
theorem smore_no {b : Tx} (hb : SGood b) (c : UInt8) : ¬ SGood (b ++ [c]) := by
  have := sgood_ge hb
  exact snot_both hb (by rw [List.getElem?_append, if_pos (by omega)]) (by rw [List.getElem?_append, if_pos (by omega)]) (by simp)
end Go.Proofs.YtndofmoepjfnfaaDoor.Rc
namespace Go.Proofs.YtndofmoepjfnfaaDoor.Vo
open Pt (Tx)

/-- a tape -/
structure T where
  label : Int
  blocks : List Tx
  lost : Bool
/-- block n, if it is good -/
def good (t : T) (n : Nat) : Option Fm.U :=
  if t.lost = true then none else match t.blocks[n]? with
    | none => none
    | some b => if Fm.Good b ∧ (Fm.parse b).label = t.label ∧ (Fm.parse b).number = (n : Int) then some (Fm.parse b) else none
/-- how many blocks so many bytes take -/
def data (n : Nat) : Nat := (n + 63) / 64
theorem data_zero : data 0 = 0 := rfl
theorem data_int (n : Nat) : (((n : Int) - 1) / 64 + 1) = (data n : Int) := by unfold data; omega
/-- the part at block n -/
def part (t : T) (n : Nat) : Option Rc.H :=
  match good t n with
  | none => none
  | some u => if u.kind = 2 ∧ Rc.Good u.load ∧ n + data (Rc.parse u.load).len.toNat + 1 < t.blocks.length then some (Rc.parse u.load) else none
/-- the parts from block n on, f blocks looked at -/
def scan (t : T) : Nat → Nat → List (Rc.H × Nat)
  | 0, _ => []
  | f + 1, n => if n < t.blocks.length then
      match part t n with
      | some h => (h, n) :: scan t f (n + data h.len.toNat + 2)
      | none => scan t f (n + 1)
    else []
def parts (t : T) : List (Rc.H × Nat) := scan t t.blocks.length 1
def keep (t : T) : Nat :=
  match (parts t).getLast? with
  | some (h, n) => n + data h.len.toNat + 2
  | none => if (good t 0).isSome then 1 else 0
theorem good_lost {t : T} (h : t.lost = true) (n : Nat) : good t n = none := if_pos h
theorem good_end {t : T} {n : Nat} (h : t.blocks.length ≤ n) : good t n = none := by
  unfold good
  split
  · rfl
  · rw [List.getElem?_eq_none h]
theorem good_at {t : T} {n : Nat} {u : Fm.U} (hl : t.lost = false) (hb : t.blocks[n]? = some (Fm.blk u)) (hu : Fm.Ok u) (h1 : u.label = t.label) (h2 : u.number = (n : Int)) : good t n = some u := by
  unfold good
  rw [if_neg (by rw [hl]; decide), hb]
  show (if Fm.Good (Fm.blk u) ∧ (Fm.parse (Fm.blk u)).label = t.label ∧ (Fm.parse (Fm.blk u)).number = (n : Int) then some (Fm.parse (Fm.blk u)) else none) = some u
  rw [Fm.parse_blk hu, if_pos ⟨Fm.good_blk hu, h1, h2⟩]
theorem good_none {t : T} {n : Nat} {b : Tx} (hb : t.blocks[n]? = some b) (h : ¬ Fm.Good b) : good t n = none := by
  unfold good
  split
  · rfl
  · rw [hb]
    show (if Fm.Good b ∧ (Fm.parse b).label = t.label ∧ (Fm.parse b).number = (n : Int) then some (Fm.parse b) else none) = none
    rw [if_neg fun h' => h h'.1]
theorem good_some {t : T} {n : Nat} {u : Fm.U} (h : good t n = some u) : ∃ b, t.blocks[n]? = some b ∧ Fm.Good b ∧ u = Fm.parse b := by
  unfold good at h
  split at h
  · cases h
  · split at h
    · cases h
    · rename_i b hb
      split at h
      · rename_i h'
        exact ⟨b, hb, h'.1, (Option.some.inj h).symm⟩
      · cases h
theorem part_lt {t : T} {n : Nat} {h : Rc.H} (e : part t n = some h) : n < t.blocks.length := by
  unfold part at e
  split at e
  · cases e
  · rename_i u hu
    obtain ⟨b, hb, _⟩ := good_some hu
    exact (List.getElem?_eq_some_iff.1 hb).1
theorem part_in {t : T} {n : Nat} {h : Rc.H} (e : part t n = some h) : n + data h.len.toNat + 1 < t.blocks.length ∧ Rc.Ok h := by
  unfold part at e
  split at e
  · cases e
  · rename_i u hu
    split at e
    · rename_i h'
      cases e
      exact ⟨h'.2.2, h'.2.1.1⟩
    · cases e
/-- a head's frame -/
def headU (label at_ : Int) (h : Rc.H) : Fm.U := ⟨2, label, at_, Rc.blk h⟩
theorem head_long {h : Rc.H} (k : Rc.Ok h) : (Rc.blk h).length ≤ 64 := by have := Rc.put_le h; rw [Rc.put_ok k] at this; omega
/-- a label and numbers that frames can have -/
def Fits (label at_ : Int) (d : Nat) : Prop := (1 ≤ label ∧ label ≤ 2147483647) ∧ 0 ≤ at_ ∧ at_ + (d : Int) ≤ 2147483647
instance (label at_ : Int) (d : Nat) : Decidable (Fits label at_ d) := by unfold Fits; exact inferInstance
theorem headU_ok {label at_ : Int} {h : Rc.H} (k : Rc.Ok h) (hf : Fits label at_ 0) : Fm.Ok (headU label at_ h) := by
  obtain ⟨⟨a, b⟩, c, d⟩ := hf
  refine ⟨⟨(by show (1 : Int) ≤ 2; decide), (by show (2 : Int) ≤ 6; decide), a, b, c, ?_⟩, ?_⟩
  · show at_ ≤ 2147483647; omega
  · show (Rc.blk h).length ≤ Fm.room 2
    exact Nat.le_trans (head_long k) (by decide)
/-- where a head lies whose part is whole, a part lies -/
theorem part_at {t : T} {n : Nat} {h : Rc.H} (hl : t.lost = false) (hf : Fits t.label (n : Int) 0) (k : Rc.Ok h) (hb : t.blocks[n]? = some (Fm.blk (headU t.label (n : Int) h))) (hn : n + data h.len.toNat + 1 < t.blocks.length) : part t n = some h := by
  unfold part
  rw [good_at hl hb (headU_ok k hf) rfl rfl]
  show (if (2 : Int) = 2 ∧ Rc.Good (Rc.blk h) ∧ n + data (Rc.parse (Rc.blk h)).len.toNat + 1 < t.blocks.length then some (Rc.parse (Rc.blk h)) else none) = some h
  rw [Rc.parse_blk k, if_pos ⟨rfl, Rc.good_blk k, hn⟩]
/-- and where its part is not whole, none lies -/
theorem part_short {t : T} {n : Nat} {h : Rc.H} (hl : t.lost = false) (hf : Fits t.label (n : Int) 0) (k : Rc.Ok h) (hb : t.blocks[n]? = some (Fm.blk (headU t.label (n : Int) h))) (hn : t.blocks.length ≤ n + data h.len.toNat + 1) : part t n = none := by
  unfold part
  rw [good_at hl hb (headU_ok k hf) rfl rfl]
  show (if (2 : Int) = 2 ∧ Rc.Good (Rc.blk h) ∧ n + data (Rc.parse (Rc.blk h)).len.toNat + 1 < t.blocks.length then some (Rc.parse (Rc.blk h)) else none) = none
  rw [Rc.parse_blk k, if_neg fun h' => by have := h'.2.2; omega]
theorem part_kind {t : T} {n : Nat} {b : Tx} (hb : t.blocks[n]? = some b) (h : Fm.Good b → (Fm.parse b).kind ≠ 2) : part t n = none := by
  unfold part
  split
  · rfl
  · rename_i u hu
    obtain ⟨b', hb', hg, rfl⟩ := good_some hu
    rw [hb] at hb'
    cases hb'
    rw [if_neg fun h' => h hg h'.1]
theorem part_end {t : T} {n : Nat} (h : t.blocks.length ≤ n) : part t n = none := by
  unfold part; rw [good_end h]
/-- parts one behind the other, from block n on -/
def Laid (t : T) : Nat → List Rc.H → Prop
  | _, [] => True
  | n, h :: hs => part t n = some h ∧ Laid t (n + data h.len.toNat + 2) hs
def places : Nat → List Rc.H → List (Rc.H × Nat)
  | _, [] => []
  | n, h :: hs => (h, n) :: places (n + data h.len.toNat + 2) hs
def ending : Nat → List Rc.H → Nat
  | n, [] => n
  | n, h :: hs => ending (n + data h.len.toNat + 2) hs
theorem places_len : ∀ (n : Nat) (hs : List Rc.H), (places n hs).length = hs.length
  | _, [] => rfl
  | n, h :: hs => by rw [places, List.length_cons, places_len, List.length_cons]
theorem ending_ge : ∀ (n : Nat) (hs : List Rc.H), n + 2 * hs.length ≤ ending n hs
  | n, [] => by simp [ending]
  | n, h :: hs => by
    have := ending_ge (n + data h.len.toNat + 2) hs
    rw [ending, List.length_cons]; omega
theorem places_snoc : ∀ (n : Nat) (hs : List Rc.H) (h : Rc.H), places n (hs ++ [h]) = places n hs ++ [(h, ending n hs)]
  | _, [], _ => rfl
  | n, a :: hs, h => by rw [List.cons_append, places, places, places_snoc _ hs h, ending]; rfl
theorem ending_snoc : ∀ (n : Nat) (hs : List Rc.H) (h : Rc.H), ending n (hs ++ [h]) = ending n hs + data h.len.toNat + 2
  | _, [], _ => rfl
  | n, a :: hs, h => by rw [List.cons_append, ending, ending, ending_snoc _ hs h]
theorem scan_laid {t : T} : ∀ (hs : List Rc.H) (n f : Nat), Laid t n hs → scan t (hs.length + f) n = places n hs ++ scan t f (ending n hs)
  | [], n, f, _ => by rw [List.length_nil, Nat.zero_add]; rfl
  | h :: hs, n, f, hl => by
    have e : (h :: hs).length + f = (hs.length + f) + 1 := by rw [List.length_cons]; omega
    rw [e, scan, if_pos (part_lt hl.1), hl.1]
    show (h, n) :: scan t (hs.length + f) (n + data h.len.toNat + 2) = _
    rw [scan_laid hs _ f hl.2]; rfl
theorem scan_none {t : T} : ∀ (f n : Nat), (∀ m, n ≤ m → part t m = none) → scan t f n = []
  | 0, _, _ => rfl
  | f + 1, n, h => by
    rw [scan]
    split
    · rw [h n (Nat.le_refl _)]
      exact scan_none f (n + 1) fun m hm => h m (by omega)
    · rfl
/-- parts that lie one behind the other, and none behind them, are all that is found -/
theorem parts_laid {t : T} {hs : List Rc.H} (hl : Laid t 1 hs) (hn : ∀ m, ending 1 hs ≤ m → part t m = none) (hlen : hs.length ≤ t.blocks.length) : parts t = places 1 hs := by
  unfold parts
  obtain ⟨f, hf⟩ : ∃ f, t.blocks.length = hs.length + f := ⟨t.blocks.length - hs.length, by omega⟩
  rw [hf, scan_laid hs 1 f hl, scan_none f _ hn, List.append_nil]
theorem keep_laid {t : T} {hs : List Rc.H} (hp : parts t = places 1 hs) (h0 : hs = [] → (good t 0).isSome = true) : keep t = ending 1 hs := by
  unfold keep
  rw [hp]
  rcases List.eq_nil_or_concat hs with rfl | ⟨l, h, rfl⟩
  · show (if (good t 0).isSome then 1 else 0) = 1
    rw [if_pos (h0 rfl)]
  · rw [List.concat_eq_append, places_snoc, ending_snoc, List.getLast?_append]
    rfl
/-- data's frames -/
def chunk (b : Tx) (i : Nat) : Tx := (b.drop (64 * i)).take 64
theorem chunk_len (b : Tx) (i : Nat) : (chunk b i).length ≤ 64 := by unfold chunk; rw [List.length_take]; omega
def dataU (label at_ : Int) (b : Tx) (i : Nat) : Fm.U := ⟨3, label, at_ + 1 + (i : Int), chunk b i⟩
def markU (label at_ : Int) (d : Nat) : Fm.U := ⟨4, label, at_ + 1 + (d : Int), []⟩
def units (label at_ : Int) (h : Rc.H) (b : Tx) : List Fm.U := headU label at_ h :: ((List.range (data b.length)).map (dataU label at_ b) ++ [markU label at_ (data b.length)])
theorem units_len (label at_ : Int) (h : Rc.H) (b : Tx) : (units label at_ h b).length = data b.length + 2 := by
  unfold units; simp
theorem units_zero (label at_ : Int) (h : Rc.H) (b : Tx) : (units label at_ h b)[0]? = some (headU label at_ h) := rfl
theorem units_data {label at_ : Int} {h : Rc.H} {b : Tx} {i : Nat} (hi : i < data b.length) : (units label at_ h b)[i + 1]? = some (dataU label at_ b i) := by
  unfold units
  rw [List.getElem?_cons_succ, List.getElem?_append_left (by simpa using hi)]
  simp [hi]
theorem units_mark (label at_ : Int) (h : Rc.H) (b : Tx) : (units label at_ h b)[data b.length + 1]? = some (markU label at_ (data b.length)) := by
  unfold units
  rw [List.getElem?_cons_succ, List.getElem?_append_right (by simp)]
  simp
/-- each unit's number and label -/
theorem units_at {label at_ : Int} {h : Rc.H} {b : Tx} {j : Nat} {u : Fm.U} (hu : (units label at_ h b)[j]? = some u) : u.label = label ∧ u.number = at_ + (j : Int) ∧ (j = 0 ∨ u.kind ≠ 2) ∧ (u.kind = 2 ∨ u.kind = 3 ∨ u.kind = 4) := by
  have hj : j < data b.length + 2 := by rw [← units_len label at_ h b]; exact (List.getElem?_eq_some_iff.1 hu).1
  by_cases h0 : j = 0
  · subst h0
    cases hu
    exact ⟨rfl, by show at_ = at_ + 0; omega, .inl rfl, .inl rfl⟩
  · obtain ⟨i, rfl⟩ : ∃ i, j = i + 1 := ⟨j - 1, by omega⟩
    by_cases hi : i < data b.length
    · rw [units_data hi] at hu
      cases hu
      exact ⟨rfl, by show at_ + 1 + (i : Int) = _; omega, .inr (by show (3 : Int) ≠ 2; decide), .inr (.inl rfl)⟩
    · obtain rfl : i = data b.length := by omega
      rw [units_mark] at hu
      cases hu
      exact ⟨rfl, by show at_ + 1 + (data b.length : Int) = _; omega, .inr (by show (4 : Int) ≠ 2; decide), .inr (.inr rfl)⟩
theorem units_load {label at_ : Int} {h : Rc.H} {b : Tx} (k : Rc.Ok h) {j : Nat} {u : Fm.U} (hu : (units label at_ h b)[j]? = some u) : u.load.length ≤ 64 := by
  have hj : j < data b.length + 2 := by rw [← units_len label at_ h b]; exact (List.getElem?_eq_some_iff.1 hu).1
  by_cases h0 : j = 0
  · subst h0; cases hu; exact head_long k
  · obtain ⟨i, rfl⟩ : ∃ i, j = i + 1 := ⟨j - 1, by omega⟩
    by_cases hi : i < data b.length
    · rw [units_data hi] at hu; cases hu; exact chunk_len b i
    · obtain rfl : i = data b.length := by omega
      rw [units_mark] at hu; cases hu; exact Nat.zero_le _
theorem unit_ok {label at_ : Int} {h : Rc.H} {b : Tx} (k : Rc.Ok h) {j : Nat} {u : Fm.U} (hu : (units label at_ h b)[j]? = some u) (hf : Fits label (at_ + (j : Int)) 0) : Fm.Ok u := by
  obtain ⟨h1, h2, -, h3⟩ := units_at hu
  have h4 := units_load k hu
  obtain ⟨⟨a, b'⟩, c, d⟩ := hf
  refine ⟨⟨by omega, by omega, by omega, by omega, by omega, by omega⟩, Nat.le_trans h4 (Fm.room_ge _)⟩
theorem units_ok {label at_ : Int} {h : Rc.H} {b : Tx} (k : Rc.Ok h) (hf : Fits label at_ (data b.length + 1)) {j : Nat} {u : Fm.U} (hu : (units label at_ h b)[j]? = some u) : Fm.Ok u := by
  have hj : j < data b.length + 2 := by rw [← units_len label at_ h b]; exact (List.getElem?_eq_some_iff.1 hu).1
  obtain ⟨a, c, d⟩ := hf
  exact unit_ok k hu ⟨a, by omega, by omega⟩
theorem unit_err {label at_ : Int} {h : Rc.H} {b : Tx} (k : Rc.Ok h) {j : Nat} {u : Fm.U} (hu : (units label at_ h b)[j]? = some u) : Fm.err u = if Fits label (at_ + (j : Int)) 0 then 0 else 1 := by
  by_cases hf : Fits label (at_ + (j : Int)) 0
  · rw [if_pos hf]; exact Fm.err_ok (unit_ok k hu hf)
  · rw [if_neg hf]
    refine Fm.err_arg fun ha => hf ?_
    obtain ⟨h1, h2, -, -⟩ := units_at hu
    obtain ⟨-, -, a, b', c, d⟩ := ha
    exact ⟨⟨by omega, by omega⟩, by omega, by omega⟩
/-- which blocks a part is, and why none -/
def Right (label at_ : Int) (h : Rc.H) (b : Tx) : Prop := (Rc.Ok h ∧ (b.length : Int) = h.len) ∧ Fits label at_ (data b.length + 1)
instance (label at_ : Int) (h : Rc.H) (b : Tx) : Decidable (Right label at_ h b) := by unfold Right; exact inferInstance
def put (label at_ : Int) (h : Rc.H) (b : Tx) : List Tx := if Right label at_ h b then (units label at_ h b).map Fm.blk else []
def err (label at_ : Int) (h : Rc.H) (b : Tx) : Int := if Right label at_ h b then 0 else 1
theorem put_yes {label at_ : Int} {h : Rc.H} {b : Tx} (k : Right label at_ h b) : put label at_ h b = (units label at_ h b).map Fm.blk := if_pos k
theorem put_no {label at_ : Int} {h : Rc.H} {b : Tx} (k : ¬ Right label at_ h b) : put label at_ h b = [] := if_neg k
theorem err_yes {label at_ : Int} {h : Rc.H} {b : Tx} (k : Right label at_ h b) : err label at_ h b = 0 := if_pos k
theorem err_no {label at_ : Int} {h : Rc.H} {b : Tx} (k : ¬ Right label at_ h b) : err label at_ h b = 1 := if_neg k
theorem put_len {label at_ : Int} {h : Rc.H} {b : Tx} (k : Right label at_ h b) : (put label at_ h b).length = data b.length + 2 := by rw [put_yes k, List.length_map, units_len]
/-- how many blocks a part of so many bytes takes -/
def need (n : Int) : Nat := data (min (max n 0) 4000).toNat + 2
theorem need_of {b : Tx} {h : Rc.H} (k : Rc.Ok h) (e : (b.length : Int) = h.len) : need (b.length : Int) = data b.length + 2 := by
  have h1 : h.len ≤ 4000 := by obtain ⟨-, -, -, ⟨_, a⟩, b', c, d, _⟩ := k; omega
  unfold need
  rw [show (min (max (b.length : Int) 0) 4000).toNat = b.length by omega]
/-- a tape on which blocks were laid behind others -/
theorem laid_at {pre : List Tx} {label : Int} {h : Rc.H} {b : Tx} (post : List Tx) (k : Right label (pre.length : Int) h b) {j : Nat} (hj : j < data b.length + 2) :
    ∃ u, (units label (pre.length : Int) h b)[j]? = some u ∧ (pre ++ (put label (pre.length : Int) h b ++ post))[pre.length + j]? = some (Fm.blk u) := by
  have hj' : j < (units label (pre.length : Int) h b).length := by rw [units_len]; exact hj
  refine ⟨_, List.getElem?_eq_getElem hj', ?_⟩
  rw [List.getElem?_append_right (by omega), show pre.length + j - pre.length = j by omega, List.getElem?_append_left (by rw [put_len k]; exact hj), put_yes k, List.getElem?_map, List.getElem?_eq_getElem hj']
  rfl
end Go.Proofs.YtndofmoepjfnfaaDoor.Vo
namespace Go.Proofs.YtndofmoepjfnfaaDoor.Rc
open Pt (Tx)
open Cd

/-- n numbers, read one behind the other -/
def labsP : Nat → St → List Int
  | 0, _ => []
  | n + 1, s => num (tk 4 s) :: labsP n (af 4 s)
theorem labsP_len : ∀ (n : Nat) (s : St), (labsP n s).length = n
  | 0, _ => rfl
  | n + 1, s => by rw [labsP, List.length_cons, labsP_len n]
theorem labsP_labB : ∀ (l : List Int) (bad : Bool), (∀ x ∈ l, 0 ≤ x ∧ x < 4294967296) → labsP l.length (labB l, bad) = l
  | [], _, _ => rfl
  | x :: l, bad, hx => by
    have h1 := hx x (List.mem_cons_self ..)
    rw [List.length_cons, labsP, labB, tk_app 4 _ _ _ (be4_len x), af_app 4 _ _ _ (be4_len x), num4 h1.1 h1.2, labsP_labB l bad (fun y hy => hx y (List.mem_cons_of_mem _ hy))]
/-- what the program reads -/
def pparse (b : Tx) : S := ⟨num (tk 4 (b, false)), ((byt (r1 b)).toNat : Int), ((byt (r2 b)).toNat : Int), ((byt (r3 b)).toNat : Int), labsP ((byt (r2 b)).toNat + (byt (r3 b)).toNat) (r4 b)⟩
theorem pparse_sblk {s : S} (k : SOk s) : pparse (sblk s) = s := by
  have hf := k.few
  obtain ⟨⟨⟨n0, n1⟩, d0, p0, dp, hl, i0, i1⟩, hx, -⟩ := k
  have e1 : r1 (sblk s) = ([b8 s.index] ++ ([b8 s.data] ++ ([b8 s.parity] ++ labB s.labels)), false) := af_app 4 _ _ _ rfl
  have e2 : r2 (sblk s) = ([b8 s.data] ++ ([b8 s.parity] ++ labB s.labels), false) := by unfold r2; rw [e1]; exact af_app 1 _ _ _ rfl
  have e3 : r3 (sblk s) = ([b8 s.parity] ++ labB s.labels, false) := by unfold r3; rw [e2]; exact af_app 1 _ _ _ rfl
  have e4 : r4 (sblk s) = (labB s.labels, false) := by unfold r4; rw [e3]; exact af_app 1 _ _ _ rfl
  have e0 : tk 4 (sblk s, false) = be4 s.number := tk_app 4 _ _ _ rfl
  have g1 := b8_nat s.index
  have g2 := b8_nat s.data
  have g3 := b8_nat s.parity
  have hn : (b8 s.data).toNat + (b8 s.parity).toNat = s.labels.length := by omega
  unfold pparse
  rw [e0, e1, e2, e3, e4, show byt ([b8 s.index] ++ ([b8 s.data] ++ ([b8 s.parity] ++ labB s.labels)), false) = b8 s.index from byt_cons _ _ _,
    show byt ([b8 s.data] ++ ([b8 s.parity] ++ labB s.labels), false) = b8 s.data from byt_cons _ _ _, show byt ([b8 s.parity] ++ labB s.labels, false) = b8 s.parity from byt_cons _ _ _,
    hn, g1, g2, g3, num4 (by omega) (by omega), labsP_labB s.labels false (fun x h => by have := hx x h; omega), show s.index % 256 = s.index by omega, show s.data % 256 = s.data by omega, show s.parity % 256 = s.parity by omega]
/-- what the program takes is a seal's bytes -/
theorem pgood_iff {b : Tx} : (SOk (pparse b) ∧ sblk (pparse b) = b) ↔ SGood b := by
  constructor
  · rintro ⟨h1, h2⟩
    have e : sparse b = pparse b := by conv => lhs; rw [← h2]
                                       exact sparse_sblk h1
    unfold SGood; rw [e]; exact ⟨h1, h2⟩
  · rintro ⟨h1, h2⟩
    have e : pparse b = sparse b := by conv => lhs; rw [← h2]
                                       exact pparse_sblk h1
    rw [e]; exact ⟨h1, h2⟩
theorem pparse_good {b : Tx} (h : SGood b) : pparse b = sparse b := by
  conv => lhs; rw [← h.2]
  exact pparse_sblk h.1
/-- labels, one more -/
theorem Labs.nil : Labs [] := ⟨(fun _ h => by cases h), List.nodup_nil⟩
theorem labs_snoc {l : List Int} {x : Int} : Labs (l ++ [x]) ↔ Labs l ∧ (1 ≤ x ∧ x ≤ 2147483647) ∧ x ∉ l := by
  unfold Labs
  rw [List.nodup_append]
  constructor
  · rintro ⟨h1, h2, -, h4⟩
    exact ⟨⟨fun y hy => h1 y (List.mem_append_left _ hy), h2⟩, h1 x (List.mem_append_right _ (List.mem_singleton.2 rfl)), fun hm => h4 x hm x (List.mem_singleton.2 rfl) rfl⟩
  · rintro ⟨⟨h1, h2⟩, h3, h4⟩
    refine ⟨fun y hy => ?_, h2, by simp, fun a ha b hb => ?_⟩
    · rcases List.mem_append.1 hy with hy | hy
      · exact h1 y hy
      · rw [List.mem_singleton.1 hy]; exact h3
    · rw [List.mem_singleton.1 hb]; rintro rfl; exact h4 ha
theorem labs_take {l : List Int} {k : Nat} (h : k < l.length) : Labs (l.take (k + 1)) ↔ Labs (l.take k) ∧ (1 ≤ l[k] ∧ l[k] ≤ 2147483647) ∧ l[k] ∉ l.take k := by
  rw [List.take_succ_eq_append_getElem h, labs_snoc]
theorem Labs.prefix {l m : List Int} (h : Labs (l ++ m)) : Labs l :=
  ⟨fun y hy => h.1 y (List.mem_append_left _ hy), (List.nodup_append.1 h.2).1⟩
theorem labs_bad {l : List Int} {k : Nat} (h : ¬ Labs (l.take k)) : ¬ Labs l := fun hl => h (Labs.prefix (m := l.drop k) (by rw [List.take_append_drop]; exact hl))
theorem labs_step_no {l : List Int} {k : Nat} (hk : k < l.length) (h : ¬ ((1 ≤ l[k] ∧ l[k] ≤ 2147483647) ∧ l[k] ∉ l.take k)) : ¬ Labs l :=
  labs_bad (k := k + 1) fun h' => h ((labs_take hk).1 h').2
/-- what the document's own reads, round by round -/
theorem labs_more {n : Nat} {b : Tx} (h : ¬ b.length < 4) : labs (n + 1) b = num (b.take 4) :: labs n (b.drop 4) := by rw [labs, if_neg h]
theorem labs_end {n : Nat} {b : Tx} (h : n = 0 ∨ b.length < 4) : labs n b = [] := by
  cases n with
  | zero => rfl
  | succ n => rw [labs, if_pos (by omega)]
end Go.Proofs.YtndofmoepjfnfaaDoor.Rc
