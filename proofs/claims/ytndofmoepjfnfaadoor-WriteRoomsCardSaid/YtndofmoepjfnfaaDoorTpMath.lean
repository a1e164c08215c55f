/- Tapes as lists of blocks: which may be, and what is done to them. No program. -/
import Derived.Test.YtndofmoepjfnfaaDoorMac
namespace Go.Proofs.YtndofmoepjfnfaaDoor
open Pt (Tx)
namespace Tp
/-- may it be a block -/
def okB (s : Tx) : Bool := decide (1 ≤ s.length) && decide (s.length ≤ 94)
/-- may it be a tape -/
def right (lab cap : Int) (bs : List Tx) : Bool := decide (1 ≤ lab) && decide (0 ≤ cap) && decide (cap ≤ 64) && decide ((bs.length : Int) ≤ cap) && bs.all okB
/-- what Load says -/
def loadE (lab cap : Int) (bs : List Tx) (lost : Bool) : Int := if right lab cap bs = false then 1 else if lost then 9 else 0
/-- one text xored with another, where both are -/
def rot : Tx → Tx → Tx
  | a :: s, b :: t => (a ^^^ b) :: rot s t
  | s, _ => s
theorem rot_len : ∀ s t : Tx, (rot s t).length = s.length
  | [], _ => by simp [rot]
  | _ :: _, [] => by simp [rot]
  | _ :: s, _ :: t => by simp [rot, rot_len s t]
theorem rot_nil (s : Tx) : rot s [] = s := by cases s <;> rfl
theorem rot_at : ∀ (s t : Tx) (k : Nat) (h : k < s.length), (rot s t)[k]'(by rw [rot_len]; exact h) = if h' : k < t.length then s[k] ^^^ t[k] else s[k]
  | _ :: _, [], k, h => by simp [rot]
  | _ :: _, _ :: _, 0, h => by simp [rot]
  | _ :: s, _ :: t, k + 1, h => by
    have := rot_at s t k (by simpa using h)
    simp only [rot, List.getElem_cons_succ, List.length_cons, Nat.add_lt_add_iff_right]
    exact this
theorem rot_rot : ∀ s t : Tx, rot (rot s t) t = s
  | [], _ => by simp [rot]
  | _ :: _, [] => by simp [rot]
  | a :: s, b :: t => by simp [rot, rot_rot s t, UInt8.xor_assoc]
/-- Cut: the first n blocks, and of the next one its first m bytes -/
def cut (bs : List Tx) (n m : Int) : List Tx :=
  match bs[n.toNat]? with
  | none => bs
  | some s => bs.take n.toNat ++ (if 0 < m then [s.take m.toNat] else [])
/-- Rot of block n -/
def turn (bs : List Tx) (n : Int) (t : Tx) : List Tx := if n < 0 then bs else bs.modify n.toNat (fun s => rot s t)
end Tp
end Go.Proofs.YtndofmoepjfnfaaDoor
