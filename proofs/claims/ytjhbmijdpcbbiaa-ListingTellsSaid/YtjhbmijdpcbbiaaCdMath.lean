/- Numbers and texts as bytes, and what is read of bytes. No program. -/
import Derived.Test.YtjhbmijdpcbbiaaPtMath
namespace Cd
open Pt (Tx)

/-- the lowest byte of a number -/
def b8 (n : Int) : UInt8 := UInt8.ofNat (n % 256).toNat
theorem b8_nat (n : Int) : ((b8 n).toNat : Int) = n % 256 := by
  unfold b8
  rw [UInt8.toNat_ofNat']
  have h : (n % 256).toNat < 256 := by omega
  rw [Nat.mod_eq_of_lt (by simpa using h)]
  omega
theorem b8_of {n : Int} {c : UInt8} (h : (c.toNat : Int) = n % 256) : c = b8 n := by
  apply UInt8.toNat.inj
  have := b8_nat n
  omega
theorem b8_self (c : UInt8) : b8 (c.toNat : Int) = c := (b8_of (by have := c.toNat_lt; omega)).symm
/-- a number's low four bytes, the highest first -/
def be4 (n : Int) : Tx := [b8 (n / 16777216), b8 (n / 65536), b8 (n / 256), b8 n]
/-- the number that bytes are -/
def num (l : Tx) : Int := l.foldl (fun n c => n * 256 + (c.toNat : Int)) 0
theorem num_snoc (l : Tx) (c : UInt8) : num (l ++ [c]) = num l * 256 + (c.toNat : Int) := by simp [num]
theorem num_lo (l : Tx) : 0 ≤ num l := by
  unfold num
  suffices h : ∀ (l : Tx) (n : Int), 0 ≤ n → 0 ≤ l.foldl (fun n c => n * 256 + (c.toNat : Int)) n from h l 0 (by omega)
  intro l
  induction l with
  | nil => intro n h; exact h
  | cons c l ih => intro n h; exact ih _ (by show 0 ≤ n * 256 + (c.toNat : Int); omega)
theorem num_hi (l : Tx) : num l < 256 ^ l.length := by
  suffices h : ∀ k, k ≤ l.length → num (l.take k) < 256 ^ k by
    have := h l.length (Nat.le_refl _)
    rwa [List.take_of_length_le (Nat.le_refl _)] at this
  intro k
  induction k with
  | zero => intro _; simp [num]
  | succ k ih =>
    intro hk
    have h1 := ih (by omega)
    rw [List.take_succ_eq_append_getElem (by omega), num_snoc]
    have hc := (l[k]).toNat_lt
    have e : (256 : Int) ^ (k + 1) = 256 ^ k * 256 := by rw [Int.pow_succ]
    rw [e]; omega
theorem num_be4 (n : Int) : num (be4 n) = n % 4294967296 := by
  unfold num be4
  simp only [List.foldl_cons, List.foldl_nil, b8_nat]
  omega
theorem be4_len (n : Int) : (be4 n).length = 4 := rfl
/-- a text's bytes: its length, and its beginning -/
def tb (s : Tx) : Tx := b8 ((s.take 255).length : Int) :: s.take 255
theorem tb_len (s : Tx) : (tb s).length = 1 + min 255 s.length := by simp [tb]; omega
/-- what is left to read, and whether bytes were missing -/
abbrev St := Tx × Bool
/-- the next n bytes, and what is left behind them -/
def tk (n : Nat) (s : St) : Tx := if s.1.length < n then [] else s.1.take n
def af (n : Nat) (s : St) : St := if s.1.length < n then ([], true) else (s.1.drop n, s.2)
theorem tk_no {n : Nat} {s : St} (h : s.1.length < n) : tk n s = [] := if_pos h
theorem af_no {n : Nat} {s : St} (h : s.1.length < n) : af n s = ([], true) := if_pos h
theorem tk_yes {n : Nat} {s : St} (h : ¬ s.1.length < n) : tk n s = s.1.take n := if_neg h
theorem af_yes {n : Nat} {s : St} (h : ¬ s.1.length < n) : af n s = (s.1.drop n, s.2) := if_neg h
theorem tk_le (n : Nat) (s : St) : (tk n s).length ≤ n := by
  unfold tk; split
  · simp
  · simp; omega
theorem tk_len_le (n : Nat) (s : St) : (tk n s).length ≤ s.1.length := by
  unfold tk; split
  · simp
  · simp; omega
theorem af_le (n : Nat) (s : St) : (af n s).1.length ≤ s.1.length := by
  unfold af; split
  · simp
  · simp
/-- one that is bad has nothing left -/
def Ok (s : St) : Prop := s.2 = true → s.1 = []
theorem Ok.af {s : St} (h : Ok s) (n : Nat) : Ok (af n s) := by
  unfold Cd.af Ok; split
  · intro _; rfl
  · intro h'; rw [h h']; simp
def byt (s : St) : UInt8 := (tk 1 s).headD 0
def txt (s : St) : Tx := tk (byt s).toNat (af 1 s)
def afT (s : St) : St := af (byt s).toNat (af 1 s)
theorem tk_app (n : Nat) (a b : Tx) (bad : Bool) (h : a.length = n) : tk n (a ++ b, bad) = a := by
  unfold tk; rw [if_neg (by simp; omega)]; simp [← h]
theorem af_app (n : Nat) (a b : Tx) (bad : Bool) (h : a.length = n) : af n (a ++ b, bad) = (b, bad) := by
  unfold af; rw [if_neg (by simp; omega)]; simp [← h]
theorem byt_cons (c : UInt8) (b : Tx) (bad : Bool) : byt (c :: b, bad) = c := by
  unfold byt
  rw [show c :: b = [c] ++ b from rfl, tk_app 1 [c] b bad rfl]; rfl
theorem txt_tb (s b : Tx) (bad : Bool) : txt (tb s ++ b, bad) = s.take 255 := by
  have hl : (s.take 255).length ≤ 255 := by simp; omega
  have hb : (b8 ((s.take 255).length : Int)).toNat = (s.take 255).length := by have := b8_nat ((s.take 255).length : Int); omega
  unfold txt tb
  rw [List.cons_append, byt_cons, hb, show b8 ((s.take 255).length : Int) :: (s.take 255 ++ b) = [b8 ((s.take 255).length : Int)] ++ (s.take 255 ++ b) from rfl, af_app 1 _ _ bad rfl, tk_app _ _ _ bad rfl]
theorem afT_tb (s b : Tx) (bad : Bool) : afT (tb s ++ b, bad) = (b, bad) := by
  have hl : (s.take 255).length ≤ 255 := by simp; omega
  have hb : (b8 ((s.take 255).length : Int)).toNat = (s.take 255).length := by have := b8_nat ((s.take 255).length : Int); omega
  unfold afT tb
  rw [List.cons_append, byt_cons, hb, show b8 ((s.take 255).length : Int) :: (s.take 255 ++ b) = [b8 ((s.take 255).length : Int)] ++ (s.take 255 ++ b) from rfl, af_app 1 _ _ bad rfl, af_app _ _ _ bad rfl]
end Cd
