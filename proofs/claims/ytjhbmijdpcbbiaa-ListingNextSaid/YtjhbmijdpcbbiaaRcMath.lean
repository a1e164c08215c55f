/- Chapter 10's heads and seals as lists of bytes: which may be, which bytes each is, which one any bytes are. No program. -/
import Derived.Test.YtjhbmijdpcbbiaaCdMath
namespace Go.Proofs.Ytjhbmijdpcbbiaa.Rc
open Pt (Tx)
open Cd

/-- a head -/
structure H where
  path : Tx
  version : Int
  size : Int
  from_ : Int
  len : Int
  serial : Int
  sum : Int
  gone : Bool
def H.zero : H := ⟨[], 0, 0, 0, 0, 0, 0, false⟩
/-- the numbers of a head that may be -/
def Nums (h : H) : Prop := (1 ≤ h.version ∧ h.version ≤ 1073741824) ∧ (1 ≤ h.serial ∧ h.serial ≤ 1073741824) ∧ (0 ≤ h.size ∧ h.size ≤ 4000) ∧ 0 ≤ h.from_ ∧ 0 ≤ h.len ∧ h.from_ + h.len ≤ h.size ∧ (0 < h.len ∨ h.size = 0) ∧ (0 ≤ h.sum ∧ h.sum ≤ 4294967295)
  ∧ (h.gone = true → h.size = 0 ∧ h.from_ = 0 ∧ h.len = 0 ∧ h.sum = 0)
instance (h : H) : Decidable (Nums h) := by unfold Nums; exact inferInstance
def Ok (h : H) : Prop := Pt.right h.path = true ∧ Nums h
instance (h : H) : Decidable (Ok h) := by unfold Ok; exact inferInstance
def goneB (g : Bool) : UInt8 := if g then 1 else 0
/-- the bytes of a head -/
def blk (h : H) : Tx := tb h.path ++ (be4 h.version ++ (be4 h.size ++ (be4 h.from_ ++ (be4 h.len ++ (be4 h.serial ++ (be4 h.sum ++ [goneB h.gone]))))))
/-- what HeadBytes answers -/
def put (h : H) : Tx := if Ok h then blk h else []
theorem put_ok {h : H} (k : Ok h) : put h = blk h := if_pos k
theorem put_no {h : H} (k : ¬ Ok h) : put h = [] := if_neg k
theorem Ok.short {h : H} (k : Ok h) : h.path.length ≤ 24 := (Pt.right_iff.1 k.1).2.1
theorem Ok.long {h : H} (k : Ok h) : 1 ≤ h.path.length := (Pt.right_iff.1 k.1).1
theorem blk_len {h : H} (k : Ok h) : (blk h).length = 26 + h.path.length := by
  have := k.short
  unfold blk
  simp only [List.length_append, tb_len, be4_len, List.length_cons, List.length_nil]
  omega
theorem put_le (h : H) : (put h).length ≤ 50 := by
  by_cases k : Ok h
  · rw [put_ok k, blk_len k]; have := k.short; omega
  · rw [put_no k]; simp
/-- the states of one who reads a head, behind each item -/
def t1 (b : Tx) : St := afT (b, false)
def t2 (b : Tx) : St := af 4 (t1 b)
def t3 (b : Tx) : St := af 4 (t2 b)
def t4 (b : Tx) : St := af 4 (t3 b)
def t5 (b : Tx) : St := af 4 (t4 b)
def t6 (b : Tx) : St := af 4 (t5 b)
def t7 (b : Tx) : St := af 4 (t6 b)
def t8 (b : Tx) : St := af 1 (t7 b)
/-- what bytes say -/
def parse (b : Tx) : H := ⟨txt (b, false), num (tk 4 (t1 b)), num (tk 4 (t2 b)), num (tk 4 (t3 b)), num (tk 4 (t4 b)), num (tk 4 (t5 b)), num (tk 4 (t6 b)), byt (t7 b) == 1⟩
def Good (b : Tx) : Prop := Ok (parse b) ∧ blk (parse b) = b
instance (b : Tx) : Decidable (Good b) := by unfold Good; exact inferInstance
def got (b : Tx) : H := if Good b then parse b else H.zero
def gotE (b : Tx) : Int := if Good b then 0 else 2
theorem got_yes {b : Tx} (h : Good b) : got b = parse b := if_pos h
theorem got_no {b : Tx} (h : ¬ Good b) : got b = H.zero := if_neg h
theorem gotE_yes {b : Tx} (h : Good b) : gotE b = 0 := if_pos h
theorem gotE_no {b : Tx} (h : ¬ Good b) : gotE b = 2 := if_neg h
theorem num4 {n : Int} (h0 : 0 ≤ n) (h1 : n < 4294967296) : num (be4 n) = n := by rw [num_be4]; omega
theorem parse_blk {h : H} (k : Ok h) : parse (blk h) = h := by
  obtain ⟨k1, ⟨v0, v1⟩, ⟨s0, s1⟩, ⟨z0, z1⟩, f0, l0, fl, -, ⟨m0, m1⟩, -⟩ := k
  have hs := (Pt.right_iff.1 k1).2.1
  have e0 : txt (blk h, false) = h.path := by unfold blk; rw [txt_tb, List.take_of_length_le (by omega)]
  have e1 : t1 (blk h) = (be4 h.version ++ (be4 h.size ++ (be4 h.from_ ++ (be4 h.len ++ (be4 h.serial ++ (be4 h.sum ++ [goneB h.gone]))))), false) := afT_tb _ _ _
  have e2 : t2 (blk h) = (be4 h.size ++ (be4 h.from_ ++ (be4 h.len ++ (be4 h.serial ++ (be4 h.sum ++ [goneB h.gone])))), false) := by unfold t2; rw [e1]; exact af_app 4 _ _ _ rfl
  have e3 : t3 (blk h) = (be4 h.from_ ++ (be4 h.len ++ (be4 h.serial ++ (be4 h.sum ++ [goneB h.gone]))), false) := by unfold t3; rw [e2]; exact af_app 4 _ _ _ rfl
  have e4 : t4 (blk h) = (be4 h.len ++ (be4 h.serial ++ (be4 h.sum ++ [goneB h.gone])), false) := by unfold t4; rw [e3]; exact af_app 4 _ _ _ rfl
  have e5 : t5 (blk h) = (be4 h.serial ++ (be4 h.sum ++ [goneB h.gone]), false) := by unfold t5; rw [e4]; exact af_app 4 _ _ _ rfl
  have e6 : t6 (blk h) = (be4 h.sum ++ [goneB h.gone], false) := by unfold t6; rw [e5]; exact af_app 4 _ _ _ rfl
  have e7 : t7 (blk h) = ([goneB h.gone] ++ [], false) := by unfold t7; rw [e6]; exact af_app 4 _ _ _ rfl
  have eg : (goneB h.gone == 1) = h.gone := by cases h.gone <;> rfl
  unfold parse
  rw [e0, e1, e2, e3, e4, e5, e6, e7, tk_app 4 _ _ _ rfl, tk_app 4 _ _ _ rfl, tk_app 4 _ _ _ rfl, tk_app 4 _ _ _ rfl, tk_app 4 _ _ _ rfl, tk_app 4 _ _ _ rfl,
    show byt ([goneB h.gone] ++ [], false) = goneB h.gone from byt_cons _ _ _, eg, num4 (by omega) (by omega), num4 (by omega) (by omega), num4 (by omega) (by omega), num4 (by omega) (by omega), num4 (by omega) (by omega), num4 (by omega) (by omega)]
theorem good_blk {h : H} (k : Ok h) : Good (blk h) := by unfold Good; rw [parse_blk k]; exact ⟨k, rfl⟩
theorem good_len {b : Tx} (h : Good b) : b.length = 26 + (parse b).path.length := by rw [← blk_len h.1, h.2]
theorem good_head {b : Tx} (h : Good b) : ∃ t, b = b8 ((parse b).path.length : Int) :: t := by
  have hs := h.1.short
  have e : ∃ t, blk (parse b) = b8 ((parse b).path.length : Int) :: t := by
    unfold blk tb
    rw [List.take_of_length_le (by omega), List.cons_append]
    exact ⟨_, rfl⟩
  obtain ⟨t, ht⟩ := e
  exact ⟨t, h.2.symm.trans ht⟩
theorem good_ge {b : Tx} (h : Good b) : 27 ≤ b.length := by have := good_len h; have := h.1.long; omega
/-- of two that begin alike and are not as long one is no head -/
theorem not_both {b c : Tx} (hb : Good b) (h : b.head? = c.head?) (hl : b.length ≠ c.length) : ¬ Good c := fun hc => by
  obtain ⟨t, ht⟩ := good_head hb
  obtain ⟨t', ht'⟩ := good_head hc
  have e1 : b.head? = some (b8 ((parse b).path.length : Int)) := (congrArg List.head? ht).trans rfl
  have e2 : c.head? = some (b8 ((parse c).path.length : Int)) := (congrArg List.head? ht').trans rfl
  rw [e1, e2] at h
  have h' := Option.some.inj h
  have g1 := b8_nat ((parse b).path.length : Int)
  have g2 := b8_nat ((parse c).path.length : Int)
  rw [h'] at g1
  have := hb.1.short
  have := hc.1.short
  have := good_len hb
  have := good_len hc
  omega
theorem head_take {b : Tx} {n : Nat} (h0 : 0 < n) : b.head? = (b.take n).head? := by
  obtain ⟨m, rfl⟩ : ∃ m, n = m + 1 := ⟨n - 1, by omega⟩
  cases b <;> rfl
theorem head_more {b : Tx} (h : b ≠ []) (c : UInt8) : b.head? = (b ++ [c]).head? := by
  cases b with
  | nil => exact absurd rfl h
  | cons d l => rfl
theorem cut_no {b : Tx} (hb : Good b) {n : Nat} (hn : n < b.length) : ¬ Good (b.take n) := by
  by_cases h0 : n = 0
  · subst h0; intro h; have := good_ge h; simp at this
  · exact not_both hb (head_take (by omega)) (by simp; omega)
theorem more_no {b : Tx} (hb : Good b) (c : UInt8) : ¬ Good (b ++ [c]) :=
  not_both hb (head_more (fun e => by have := good_ge hb; rw [e] at this; simp at this) c) (by simp)

/-- a seal -/
structure S where
  number : Int
  index : Int
  data : Int
  parity : Int
  labels : List Int
def S.zero : S := ⟨0, 0, 0, 0, []⟩
def SNums (s : S) : Prop := (1 ≤ s.number ∧ s.number ≤ 1073741824) ∧ 1 ≤ s.data ∧ 1 ≤ s.parity ∧ s.data + s.parity ≤ 14 ∧ (s.labels.length : Int) = s.data + s.parity ∧ 0 ≤ s.index ∧ s.index < (s.labels.length : Int)
instance (s : S) : Decidable (SNums s) := by unfold SNums; exact inferInstance
/-- all can be labels, none is there twice -/
def Labs (l : List Int) : Prop := (∀ x ∈ l, 1 ≤ x ∧ x ≤ 2147483647) ∧ l.Nodup
instance (l : List Int) : Decidable (Labs l) := by unfold Labs; exact inferInstance
def SOk (s : S) : Prop := SNums s ∧ Labs s.labels
instance (s : S) : Decidable (SOk s) := by unfold SOk; exact inferInstance
def labB : List Int → Tx
  | [] => []
  | x :: l => be4 x ++ labB l
theorem labB_len : ∀ l : List Int, (labB l).length = 4 * l.length
  | [] => rfl
  | x :: l => by rw [labB, List.length_append, be4_len, labB_len l, List.length_cons]; omega
theorem labB_append : ∀ a b : List Int, labB (a ++ b) = labB a ++ labB b
  | [], b => rfl
  | x :: a, b => by rw [List.cons_append, labB, labB, labB_append a b, List.append_assoc]
def sblk (s : S) : Tx := be4 s.number ++ ([b8 s.index] ++ ([b8 s.data] ++ ([b8 s.parity] ++ labB s.labels)))
def sput (s : S) : Tx := if SOk s then sblk s else []
theorem sput_ok {s : S} (k : SOk s) : sput s = sblk s := if_pos k
theorem sput_no {s : S} (k : ¬ SOk s) : sput s = [] := if_neg k
theorem sblk_len (s : S) : (sblk s).length = 7 + 4 * s.labels.length := by
  unfold sblk; simp only [List.length_append, be4_len, labB_len, List.length_cons, List.length_nil]; omega
theorem SOk.few {s : S} (k : SOk s) : s.labels.length ≤ 14 := by obtain ⟨⟨_, _, _, h1, h2, _⟩, _⟩ := k; omega
theorem sput_le (s : S) : (sput s).length ≤ 63 := by
  by_cases k : SOk s
  · rw [sput_ok k, sblk_len]; have := k.few; omega
  · rw [sput_no k]; simp
/-- the states of one who reads a seal -/
def r1 (b : Tx) : St := af 4 (b, false)
def r2 (b : Tx) : St := af 1 (r1 b)
def r3 (b : Tx) : St := af 1 (r2 b)
def r4 (b : Tx) : St := af 1 (r3 b)
/-- the numbers that bytes are, four by four, what is over is left -/
def labs : Nat → Tx → List Int
  | 0, _ => []
  | n + 1, b => if b.length < 4 then [] else num (b.take 4) :: labs n (b.drop 4)
theorem labs_labB : ∀ (l : List Int) (n : Nat), l.length ≤ n → (∀ x ∈ l, 0 ≤ x ∧ x < 4294967296) → labs n (labB l) = l
  | [], 0, _, _ => rfl
  | [], n + 1, _, _ => rfl
  | x :: l, 0, h, _ => by simp at h
  | x :: l, n + 1, h, hx => by
    have h1 := hx x (List.mem_cons_self ..)
    rw [labs, labB, if_neg (by rw [List.length_append, be4_len]; omega), List.take_left' (be4_len x), List.drop_left' (be4_len x), num4 h1.1 h1.2, labs_labB l n (by simp at h; omega) (fun y hy => hx y (List.mem_cons_of_mem _ hy))]
def sparse (b : Tx) : S := ⟨num (tk 4 (b, false)), ((byt (r1 b)).toNat : Int), ((byt (r2 b)).toNat : Int), ((byt (r3 b)).toNat : Int), labs 14 (r4 b).1⟩
def SGood (b : Tx) : Prop := SOk (sparse b) ∧ sblk (sparse b) = b
instance (b : Tx) : Decidable (SGood b) := by unfold SGood; exact inferInstance
def sgot (b : Tx) : S := if SGood b then sparse b else S.zero
def sgotE (b : Tx) : Int := if SGood b then 0 else 2
theorem sgot_yes {b : Tx} (h : SGood b) : sgot b = sparse b := if_pos h
theorem sgot_no {b : Tx} (h : ¬ SGood b) : sgot b = S.zero := if_neg h
theorem sgotE_yes {b : Tx} (h : SGood b) : sgotE b = 0 := if_pos h
theorem sgotE_no {b : Tx} (h : ¬ SGood b) : sgotE b = 2 := if_neg h
theorem sparse_sblk {s : S} (k : SOk s) : sparse (sblk s) = s := by
  have hf := k.few
  obtain ⟨⟨⟨n0, n1⟩, d0, p0, dp, hl, i0, i1⟩, hx, -⟩ := k
  have e1 : r1 (sblk s) = ([b8 s.index] ++ ([b8 s.data] ++ ([b8 s.parity] ++ labB s.labels)), false) := af_app 4 _ _ _ rfl
  have e2 : r2 (sblk s) = ([b8 s.data] ++ ([b8 s.parity] ++ labB s.labels), false) := by unfold r2; rw [e1]; exact af_app 1 _ _ _ rfl
  have e3 : r3 (sblk s) = ([b8 s.parity] ++ labB s.labels, false) := by unfold r3; rw [e2]; exact af_app 1 _ _ _ rfl
  have e4 : r4 (sblk s) = (labB s.labels, false) := by unfold r4; rw [e3]; exact af_app 1 _ _ _ rfl
  have e0 : tk 4 (sblk s, false) = be4 s.number := tk_app 4 _ _ _ rfl
  have g1 := b8_nat s.index
  have g2 := b8_nat s.data
  have g3 := b8_nat s.parity
  unfold sparse
  rw [e0, e1, e2, e3, e4, show byt ([b8 s.index] ++ ([b8 s.data] ++ ([b8 s.parity] ++ labB s.labels)), false) = b8 s.index from byt_cons _ _ _,
    show byt ([b8 s.data] ++ ([b8 s.parity] ++ labB s.labels), false) = b8 s.data from byt_cons _ _ _, show byt ([b8 s.parity] ++ labB s.labels, false) = b8 s.parity from byt_cons _ _ _,
    g1, g2, g3, num4 (by omega) (by omega), labs_labB s.labels 14 hf (fun x h => by have := hx x h; omega), show s.index % 256 = s.index by omega, show s.data % 256 = s.data by omega, show s.parity % 256 = s.parity by omega]
theorem sgood_blk {s : S} (k : SOk s) : SGood (sblk s) := by unfold SGood; rw [sparse_sblk k]; exact ⟨k, rfl⟩
theorem sgood_len {b : Tx} (h : SGood b) : (b.length : Int) = 7 + 4 * ((sparse b).data + (sparse b).parity) := by
  have h1 : b.length = 7 + 4 * (sparse b).labels.length := by rw [← sblk_len, h.2]
  have h2 := h.1.1.2.2.2.2.1
  omega
theorem sgood_ge {b : Tx} (h : SGood b) : 15 ≤ b.length := by have := sgood_len h; have := h.1.1.2.1; have := h.1.1.2.2.1; omega
/-- what stands at 5 and 6 -/
theorem sgood_at {b : Tx} (h : SGood b) : b[5]? = some (b8 (sparse b).data) ∧ b[6]? = some (b8 (sparse b).parity) := by
  have e : b = sblk (sparse b) := h.2.symm
  constructor <;> conv => lhs; rw [e]
  all_goals rfl
theorem snot_both {b c : Tx} (hb : SGood b) (h5 : b[5]? = c[5]?) (h6 : b[6]? = c[6]?) (hl : b.length ≠ c.length) : ¬ SGood c := fun hc => by
  obtain ⟨a5, a6⟩ := sgood_at hb
  obtain ⟨c5, c6⟩ := sgood_at hc
  rw [a5, c5] at h5
  rw [a6, c6] at h6
  have h5' := Option.some.inj h5
  have h6' := Option.some.inj h6
  have g1 := b8_nat (sparse b).data
  have g2 := b8_nat (sparse c).data
  have g3 := b8_nat (sparse b).parity
  have g4 := b8_nat (sparse c).parity
  rw [h5'] at g1
  rw [h6'] at g3
  have l1 := sgood_len hb
  have l2 := sgood_len hc
  obtain ⟨_, b1, b2, b3, _⟩ := hb.1.1
  obtain ⟨_, c1, c2, c3, _⟩ := hc.1.1
  omega
theorem scut_no {b : Tx} (hb : SGood b) {n : Nat} (hn : n < b.length) : ¬ SGood (b.take n) := by
  by_cases h0 : n < 7
  · intro h; have := sgood_ge h; simp at this; omega
  · exact snot_both hb (by rw [List.getElem?_take, if_pos (by omega)]) (by rw [List.getElem?_take, if_pos (by omega)]) (by simp; omega)
theorem smore_no {b : Tx} (hb : SGood b) (c : UInt8) : ¬ SGood (b ++ [c]) := by
  have := sgood_ge hb
  exact snot_both hb (by rw [List.getElem?_append, if_pos (by omega)]) (by rw [List.getElem?_append, if_pos (by omega)]) (by simp)
end Go.Proofs.Ytjhbmijdpcbbiaa.Rc
