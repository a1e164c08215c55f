/- The law's own helpers: num, same, and that the example of chapter 9 holds. -/
import Derived.Test.YtmonhgefmapiaaaFmGet
namespace Go.Proofs.Ytmonhgefmapiaaa
open Go.RowKit
open Pt (Tx)

/-- a Bool is answered; nothing that was there is written -/
def AnsB9 (b : Bool) (w : World) (e : Ending) (w' : World) : Prop := e = .returned (.bool b) ∧ Below w.heap.size w w'
theorem num9 (n : Int) (w : World) : Calls Try.prog 12 #[.int .i64 n] w fun e w' => e = .returned (.int .i64 n) ∧ w = w' := by
  go_enter Try.func12, Try.ntmps12
  go_wp2
  go_ret
  exact ⟨rfl, rfl⟩
def Fm.same (u v : Fm.U) : Bool := u.kind == v.kind && u.label == v.label && u.number == v.number && u.load == v.load
theorem Fm.same_iff {u v : Fm.U} : Fm.same u v = true ↔ u = v := by
  cases u; cases v; unfold Fm.same; simp [and_assoc]
theorem Fm.same_self (u : Fm.U) : Fm.same u u = true := Fm.same_iff.2 rfl
set_option maxHeartbeats 1000000 in
theorem same9 (k l n : Int) (A : Option Addr) (s : Tx) (m C : Nat) (G : Nat → Prop) (k' l' n' : Int) (A' : Option Addr) (s' : Tx) (m' C' : Nat) (G' : Nat → Prop) (w : World) (hm : m = s.length) (hm' : m' = s'.length) (hr : RdL w A s G) (hr' : RdL w A' s' G') :
    Calls Try.prog 13 #[.agg #[.int .i64 k, .int .i64 l, .int .i64 n, .slice A m C], .agg #[.int .i64 k', .int .i64 l', .int .i64 n', .slice A' m' C']] w (AnsB9 (Fm.same ⟨k, l, n, s⟩ ⟨k', l', n', s'⟩) w) := by
  have hB : Below w.heap.size w ((w.alloc (unitObj k l n A m C)).alloc (unitObj k' l' n' A' m' C')) := ((Below.refl _ _).alloc (Nat.le_refl _) _).alloc (by simp) _
  have s1 := (hr.old hB).str C
  have s2 := (hr'.old hB).str C'
  rw [← hm] at s1
  rw [← hm'] at s2
  unfold unitObj at s1 s2
  have e1 := tx_toList s
  have e2 := tx_toList s'
  have HB := Lib.hid hB
  clear hB hr hr' hm hm'
  cases q1 : (k == k') with
  | false =>
    have H : Hid (Fm.same ⟨k, l, n, s⟩ ⟨k', l', n', s'⟩ = false) := Lib.hid (by unfold Fm.same; simp only [q1, Bool.false_and])
    go_enter Try.func13, Try.ntmps13
    go_wp2
    go_ret
    rw [H.out]
    exact ⟨rfl, HB.out⟩
  | true =>
    cases q2 : (l == l') with
    | false =>
      have H : Hid (Fm.same ⟨k, l, n, s⟩ ⟨k', l', n', s'⟩ = false) := Lib.hid (by unfold Fm.same; simp only [q2, Bool.and_false, Bool.false_and])
      go_enter Try.func13, Try.ntmps13
      go_wp2
      go_ret
      rw [H.out]
      exact ⟨rfl, HB.out⟩
    | true =>
      cases q3 : (n == n') with
      | false =>
        have H : Hid (Fm.same ⟨k, l, n, s⟩ ⟨k', l', n', s'⟩ = false) := Lib.hid (by unfold Fm.same; simp only [q3, Bool.and_false, Bool.false_and])
        go_enter Try.func13, Try.ntmps13
        go_wp2
        go_ret
        rw [H.out]
        exact ⟨rfl, HB.out⟩
      | true =>
        have H : Hid (Fm.same ⟨k, l, n, s⟩ ⟨k', l', n', s'⟩ = (s == s')) := Lib.hid (by unfold Fm.same; simp only [q1, q2, q3, Bool.true_and])
        go_enter Try.func13, Try.ntmps13
        go_wp2
        go_ret
        rw [H.out]
        exact ⟨rfl, HB.out⟩
theorem Fm.no_none : ¬ Fm.Good [] := fun h => by have := Fm.good_ge h; simp at this
def Fm.mark : Fm.U := ⟨4, 1, 0, []⟩
theorem Fm.mark_ok : Fm.Ok Fm.mark := by decide
set_option maxHeartbeats 1000000 in
theorem alive9_true (w : World) : Calls Try.prog 7 #[] w (AnsB9 true w) := by
  have h1 := frameGet_any none [] 0 0 (fun _ => True) w rfl (Nat.le_refl _) (Nat.zero_le _) (fun _ => ⟨rfl, rfl⟩) (RdL.empty _ _ _)
  unfold GotU at h1
  rw [Fm.got_no Fm.no_none, Fm.gotE_no Fm.no_none] at h1
  go_enter Try.func7, Try.ntmps7
  go_wp2_with fail
  refine h1.mono ?_
  clear h1
  rintro e w1 ⟨A1, m1, C1, rfl, -, -, -, -, hb1⟩
  have HB1 := Lib.hid hb1
  have hz1 : w.heap.size ≤ w1.heap.size := hb1.size
  clear hb1
  go_wp2_with fail
  refine (framePut_any 4 1 0 none [] 0 0 (fun _ => True) _ rfl (fun _ => ⟨rfl, rfl⟩) (RdL.empty _ _ _)).mono ?_
  rintro e w2 ⟨A2, n2, C2, rfl, hn2, hc2, hm2, ha2, hr2, hb2⟩
  have hput : Fm.put ⟨4, 1, 0, []⟩ = Fm.blk Fm.mark := Fm.put_ok Fm.mark_ok
  rw [hput] at hn2 hr2
  rw [show Fm.err ⟨4, 1, 0, []⟩ = 0 from Fm.err_ok Fm.mark_ok]
  have hl79 : (Fm.blk Fm.mark).length = 79 := Fm.blk_len Fm.mark_ok
  rw [hl79] at hn2
  subst hn2
  have HB2 : Hid (Below w.heap.size w w2) := Lib.hid ((HB1.out.alloc HB1.out.size _).trans (hb2.mono (by simp; omega)))
  have h3 := frameGet_any A2 (Fm.blk Fm.mark) 79 C2 _ w2 hl79.symm hc2 (by omega) ha2 hr2
  unfold GotU at h3
  rw [Fm.got_yes (Fm.good_blk Fm.mark_ok), Fm.gotE_yes (Fm.good_blk Fm.mark_ok), Fm.parse_blk Fm.mark_ok] at h3
  have H3 := Lib.hid h3
  clear hput hl79 hb2 hr2 h3
  have hz2 : w.heap.size ≤ w2.heap.size := HB2.out.size
  have a0 : w2.cell? ⟨w1.heap.size, 0, none⟩ = w2.cell? ⟨w1.heap.size, 0, none⟩ := rfl
  clear a0
  go_wp2_with fail
  refine H3.out.mono ?_
  rintro e w3 ⟨A3, m3, C3, rfl, -, -, -, -, hb3⟩
  have HB3 := Lib.hid (HB2.out.trans (hb3.mono HB2.out.size))
  have hz3 : w.heap.size ≤ w3.heap.size := HB3.out.size
  have HB4 : Hid (Below w.heap.size w (w3.alloc (unitObj Fm.mark.kind Fm.mark.label Fm.mark.number A3 m3 C3))) := Lib.hid (HB3.out.alloc hz3 _)
  have u0 : (w3.alloc (unitObj Fm.mark.kind Fm.mark.label Fm.mark.number A3 m3 C3)).cell? ⟨w3.heap.size, 0, none⟩ = some (.int .i64 4) := (unit4 (Go.Deep.blk_alloc_new _ _)).1
  unfold unitObj at u0
  clear hb3
  go_wp2_with (go_at_call 12; refine (num9 _ _).mono ?_; rintro e w' ⟨rfl, hw'⟩; subst hw')
  go_ret
  exact ⟨rfl, HB4.out⟩
end Go.Proofs.Ytmonhgefmapiaaa
