/- What the document's own SameTexts answers. -/
import Derived.Test.YtjhbmijdpcbbiaaTxR
import Derived.Test.YtjhbmijdpcbbiaaChecked
import Derived.OwnWalk
import Derived.Handy
import Derived.WalkSpells
import Derived.WalkLawsBesides
import Derived.Deep.QuietTactic
import Derived.BigQuiet
namespace Go.Proofs.Ytjhbmijdpcbbiaa
open Go.RowKit
open Pt (Tx)

theorem take_more {ps qs : List Tx} {k : Nat} (h : ps.take k = qs.take k) (h1 : k < ps.length) (h2 : k < qs.length) (he : ps[k] = qs[k]) : ps.take (k + 1) = qs.take (k + 1) := by
  rw [List.take_succ_eq_append_getElem h1, List.take_succ_eq_append_getElem h2, h, he]
set_option maxHeartbeats 2000000 in
theorem sameTexts_any (A B : Option Addr) (ca cb : Nat) (ps qs : List Tx) (w : World) (hp : TxR w A ps) (hq : TxR w B qs) (hl : ps.length ≤ maxLen) (hm : qs.length ≤ maxLen) :
    Calls Try.prog 16 #[.slice A ps.length ca, .slice B qs.length cb] w fun e w' => e = .returned (.bool (ps == qs)) ∧ Below w.heap.size w w' := by
  unfold maxLen at hl hm
  have HP := Lib.hid hp
  have HQ := Lib.hid hq
  clear hp hq
  by_cases hn : ps.length = qs.length
  · have z1 : ((ps.length : Int) != (qs.length : Int)) = false := by rw [hn]; simp
    have HN := Lib.hid hn
    have hle : ps.length ≤ qs.length := Nat.le_of_eq hn
    clear hn
    go_enter Try.func16, Try.ntmps16
    go_wp2
    clear z1
    go_loopw [5] (fun vi wr => ∃ k : Nat, k ≤ ps.length ∧ vi = .int .i64 (k : Int) ∧ Hid (ps.take k = qs.take k) ∧ Hid (Below w.heap.size w wr)) (fun vi _ => ps.length - (intOf vi).toNat)
    case atStart => exact ⟨0, by omega, rfl, Lib.hid rfl, Lib.hid (Below.refl _ _)⟩
    case round =>
      obtain ⟨k, hk, rfl, HT, HB⟩ := hrel
      by_cases hlt : k < ps.length
      · have hlt2 : k < qs.length := by omega
        obtain ⟨b1, o1, rfl, c1⟩ := (HP.out.old HB.out).at hlt
        obtain ⟨b2, o2, rfl, c2⟩ := (HQ.out.old HB.out).at hlt2
        have e1 := tx_toList ps[k]
        have e2 := tx_toList qs[k]
        have hbd : ∀ n, Below wr.heap.size wr (wr.drewN n) := fun n => ⟨rfl, rfl, rfl, Nat.le_refl _, fun _ _ => rfl⟩
        have HD : Hid (∀ n, Below w.heap.size w (wr.drewN n)) := Lib.hid fun n => HB.out.trans ((hbd n).mono HB.out.size)
        clear hbd
        cases hq : (ps[k] == qs[k]) with
        | true =>
          have HM := Lib.hid (take_more HT.out hlt hlt2 (beq_iff_eq.1 hq))
          go_wp2_with (go_quiet (fail))
          go_wp2
          go_roundw
          case rel => exact ⟨k + 1, by omega, by go_num, HM, Lib.hid (HD.out _)⟩
          case measure => simp [intOf]; omega
        | false =>
          have H : Hid ((ps == qs) = false) := Lib.hid (beq_eq_false_iff_ne.2 fun e => by subst e; exact absurd rfl (beq_eq_false_iff_ne.1 hq))
          go_wp2_with (go_quiet (fail))
          go_wp2
          go_ret
          exact ⟨retB H.out.symm, HD.out _⟩
      · have H : Hid ((ps == qs) = true) := Lib.hid (beq_iff_eq.2 (by
          have := HT.out
          rwa [List.take_of_length_le (by omega), List.take_of_length_le (by have := HN.out; omega)] at this))
        go_wp2
        go_ret
        exact ⟨retB H.out.symm, HB.out⟩
  · have z1 : ((ps.length : Int) != (qs.length : Int)) = true := bne_iff_ne.2 (by omega)
    have H : Hid ((ps == qs) = false) := Lib.hid (beq_eq_false_iff_ne.2 fun e => hn (by rw [e]))
    clear hn
    go_enter Try.func16, Try.ntmps16
    go_wp2
    go_ret
    exact ⟨retB H.out.symm, Below.refl _ _⟩
end Go.Proofs.Ytjhbmijdpcbbiaa
