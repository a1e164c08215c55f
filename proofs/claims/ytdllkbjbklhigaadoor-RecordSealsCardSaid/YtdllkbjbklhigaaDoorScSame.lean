/- Two seals that are alike, compared. -/
import Derived.Test.YtdllkbjbklhigaaDoorScWords
namespace Go.Proofs.YtdllkbjbklhigaaDoor
open Go.RowKit
open Pt (Tx)

/-- two things lie where the call laid them, and all that was there is as it was -/
def Sits2 (w : World) (o o' : Obj) (x : World) : Prop := x.heap[w.heap.size]? = some o ∧ x.heap[w.heap.size + 1]? = some o' ∧ Below w.heap.size w x
theorem Sits2.start (w : World) (o o' : Obj) : Sits2 w o o' ((w.alloc o).alloc o') := by
  refine ⟨(Below.heap_alloc _ _ _ (by simp)).trans (Go.Deep.blk_alloc_new _ _), ?_, ((Below.refl _ _).alloc (Nat.le_refl _) _).alloc (by simp) _⟩
  have := Go.Deep.blk_alloc_new (w.alloc o) o'
  simpa using this
set_option maxRecDepth 100000 in
set_option maxHeartbeats 4000000 in
theorem sameSeal_yes (n x d p : Int) (l : List Int) (A : Option Addr) (m C : Nat) (G : Nat → Prop) (A' : Option Addr) (m' C' : Nat) (G' : Nat → Prop) (w : World) (hm : m = l.length) (hm' : m' = l.length) (hl : m ≤ maxLen) (hr : RdZ w A l G) (hr' : RdZ w A' l G') :
    Calls Tryd.prog 21 #[.agg #[.int .i64 n, .int .i64 x, .int .i64 d, .int .i64 p, .slice A m C], .agg #[.int .i64 n, .int .i64 x, .int .i64 d, .int .i64 p, .slice A' m' C']] w (AnsB true w) := by
  have hmm : m' = m := by omega
  subst hmm
  unfold maxLen at hl
  have HS0 : Hid (Sits2 w (sealObj n x d p A m' C) (sealObj n x d p A' m' C') ((w.alloc (sealObj n x d p A m' C)).alloc (sealObj n x d p A' m' C'))) := Lib.hid (Sits2.start _ _ _)
  have HM := Lib.hid hm
  have HR := Lib.hid hr
  have HR' := Lib.hid hr'
  clear hm hm' hr hr'
  obtain ⟨a0, a1, a2, a3, a4⟩ := seal5 HS0.out.1
  obtain ⟨b0, b1, b2, b3, b4⟩ := seal5 HS0.out.2.1
  unfold sealObj at a0 a1 a2 a3 a4 b0 b1 b2 b3 b4
  go_enter Tryd.func21, Tryd.ntmps21
  go_wp2
  clear a0 a1 a2 a3 a4 b0 b1 b2 b3 b4
  go_loopw [5] (fun vi wr => ∃ k : Nat, k ≤ m' ∧ vi = .int .i64 (k : Int) ∧ Hid (Sits2 w (sealObj n x d p A m' C) (sealObj n x d p A' m' C') wr)) (fun vi _ => m' - (intOf vi).toNat)
  case atStart => exact ⟨0, Nat.zero_le _, rfl, HS0⟩
  case round =>
    obtain ⟨k, hk, rfl, HS⟩ := hrel
    obtain ⟨a0, a1, a2, a3, a4⟩ := seal5 HS.out.1
    obtain ⟨b0, b1, b2, b3, b4⟩ := seal5 HS.out.2.1
    by_cases hlt : k < m'
    · have hlt' : k < l.length := by rw [← HM.out]; exact hlt
      obtain ⟨b, off, rfl, -, hc⟩ := (HR.out.old HS.out.2.2).at_ hlt'
      obtain ⟨b', off', rfl, -, hc'⟩ := (HR'.out.old HS.out.2.2).at_ hlt'
      obtain ⟨y, hy⟩ : ∃ y, y = l[k] := ⟨_, rfl⟩
      rw [← hy] at hc hc'
      clear hy
      have HSD : Hid (Sits2 w (sealObj n x d p (some ⟨b, off, none⟩) m' C) (sealObj n x d p (some ⟨b', off', none⟩) m' C') wr.drew) := Lib.hid ⟨HS.out.1, HS.out.2.1, HS.out.2.2.drew⟩
      have q : (y != y) = false := bne_self_eq_false y
      go_wp2_with fail
      go_region
      go_wp2
      go_roundw
      case rel => exact ⟨k + 1, by omega, by go_num, HSD⟩
      case measure => simp [intOf]; omega
    · go_wp2
      go_ret
      exact ⟨rfl, HS.out.2.2⟩
end Go.Proofs.YtdllkbjbklhigaaDoor
