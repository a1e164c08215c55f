/- Which place greatest of package listing answers. -/
import Derived.Test.YtjhbmijdpcbbiaaLsRow
namespace Go.Proofs.Ytjhbmijdpcbbiaa
open Go.RowKit
open Pt (Tx)

set_option maxRecDepth 100000 in
set_option maxHeartbeats 4000000 in
theorem greatest_any (xs : List Fx) (n C : Nat) (A : Option Addr) (G : Nat → Prop) (p : Tx) (w : World) (hn : n = xs.length) (hm : n ≤ 1000000) (hr : encF.Rd w A xs G) :
    Calls Try.prog 19 #[.slice A n C, .string (tx p)] w fun e w' => e = .returned (pv (Ls.told (filesOf xs) n p)) ∧ Below w.heap.size w w' := by
  have HN := Lib.hid hn
  have HR := Lib.hid hr
  have HL : Hid ((filesOf xs).length = n) := Lib.hid (by rw [filesOf_len, hn])
  have ep := tx_toList p
  clear hn hr
  go_enter Try.func19, Try.ntmps19
  go_wp2
  go_loopw [5, 10] (fun vp vi wr => ∃ i : Nat, i ≤ n ∧ vi = .int .i64 (i : Int) ∧ vp = pv (Ls.told (filesOf xs) i p) ∧ Hid (Below w.heap.size w wr)) (fun _ vi _ => n - (intOf vi).toNat)
  case atStart => exact ⟨0, Nat.zero_le _, rfl, rfl, Lib.hid (Below.refl _ _)⟩
  case round =>
    obtain ⟨i, hi, rfl, rfl, HB⟩ := hrel
    by_cases hlt : i < n
    · have e0 : decide (i < n) = true := decide_eq_true hlt
      have hix : i < xs.length := by rw [← HN.out]; exact hlt
      have hif : i < (filesOf xs).length := by rw [HL.out]; exact hlt
      obtain ⟨⟨⟨P, v, z, s, r, b, pl⟩, A1, C1⟩, hx⟩ : ∃ x, x = xs[i] := ⟨_, rfl⟩
      have HF : Hid ((filesOf xs)[i] = ⟨P, v, z, s, r, b, pl⟩) := Lib.hid (by rw [filesOf_get hix hif, ← hx])
      obtain ⟨g, o, rfl, c⟩ := seven_at (HR.out.old HB.out) hix hx
      obtain ⟨M, hM⟩ : ∃ M, M = pl.length := ⟨_, rfl⟩
      rw [← hM] at c
      obtain ⟨wp, hwp⟩ : ∃ y, y = wr.alloc (fileO P v z s r b A1 M C1) := ⟨_, rfl⟩
      have hbp : Below wr.heap.size wr wp := by rw [hwp]; exact (Below.refl _ _).alloc (Nat.le_refl _) _
      have hkp : wp.heap[wr.heap.size]? = some (fileO P v z s r b A1 M C1) := by rw [hwp]; exact Go.Deep.blk_alloc_new _ _
      have HD : Hid (∀ m, Below w.heap.size w (wp.drewN m)) := Lib.hid fun m => (HB.out.trans (hbp.mono HB.out.size)).trans ((drewN_below wp m).mono (HB.out.trans (hbp.mono HB.out.size)).size)
      have KP := Lib.hid hkp
      have HRP := Lib.hid (HR.out.old (HB.out.trans (hbp.mono HB.out.size)))
      have HW : Hid (wp = wr.alloc (.cells #[.string (tx P), .int .i64 v, .int .i64 z, .int .i64 s, .int .i64 r, .bool b, .slice A1 M C1] 26)) := Lib.hid hwp
      obtain ⟨c0, c1, c2, c3, c4, c5, c6⟩ := c
      clear hx hM hwp hbp hkp
      have eP := tx_toList P
      cases hq : (P == p) with
      | false =>
        have HT : Hid (pv (Ls.told (filesOf xs) i p) = pv (Ls.told (filesOf xs) (i + 1) p)) := Lib.hid (by rw [Ls.told_other hif (by rw [HF.out]; intro e; exact absurd e.symm (beq_eq_false_iff_ne.1 hq))])
        go_upto_region 5 with fail
        rw [← HW.out]
        clear c0 c1 c2 c3 c4 c5 c6
        obtain ⟨d0, d1, d2, d3, d4, d5, d6⟩ := file7 KP.out
        go_wp2_with (go_quiet (fail))
        go_wp2
        go_roundw
        case rel => exact ⟨i + 1, by omega, by go_num, HT.out, Lib.hid (HD.out _)⟩
        case measure => simp [intOf]; omega
      | true =>
        have hPp : P = p := beq_iff_eq.1 hq
        subst hPp
        have HP : Hid ((filesOf xs)[i].path = P) := Lib.hid (by rw [HF.out])
        have HV : Hid ((filesOf xs)[i].version = v) := Lib.hid (by rw [HF.out])
        cases ht : Ls.told (filesOf xs) i P with
        | none =>
          rw [pv_none]
          have HT : Hid (Value.int .i64 (i : Int) = pv (Ls.told (filesOf xs) (i + 1) P)) := Lib.hid (by
            have := Ls.told_new hif (by rw [HP.out]; exact ht)
            rw [HP.out] at this
            rw [this]; rfl)
          clear ht
          go_upto_region 5 with fail
          rw [← HW.out]
          clear c0 c1 c2 c3 c4 c5 c6
          obtain ⟨d0, d1, d2, d3, d4, d5, d6⟩ := file7 KP.out
          go_wp2_with (go_quiet (fail))
          go_wp2
          go_roundw
          case rel => exact ⟨i + 1, by omega, by go_num, HT.out, Lib.hid (HD.out _)⟩
          case measure => simp [intOf]; omega
        | some k =>
          rw [pv_some]
          have hkf : k < (filesOf xs).length := (Ls.pl_lt ht).2
          have hkn : k < n := by rw [← HL.out]; exact hkf
          have hkx : k < xs.length := by rw [← HN.out]; exact hkn
          obtain ⟨⟨⟨P2, v2, z2, s2, r2, b2, pl2⟩, A2, C2⟩, hx2⟩ : ∃ x, x = xs[k] := ⟨_, rfl⟩
          have HV2 : Hid ((filesOf xs)[k].version = v2) := Lib.hid (by rw [filesOf_get hkx hkf, ← hx2])
          obtain ⟨g', o', hA, c'⟩ := seven_at HRP.out hkx hx2
          cases hA
          obtain ⟨-, k1, -, -, -, -, -⟩ := c'
          have f0 : decide ((k : Int) < 0) = false := decide_eq_false (by omega)
          have f1 : decide (k < n) = true := decide_eq_true hkn
          clear hx2
          by_cases hv : v2 < v
          · have f2 : decide (v2 < v) = true := decide_eq_true hv
            have HT : Hid (Value.int .i64 (i : Int) = pv (Ls.told (filesOf xs) (i + 1) P)) := Lib.hid (by
              have := Ls.told_more hif (by rw [HP.out]; exact ht) hkf (by rw [HV.out, HV2.out]; exact hv)
              rw [HP.out] at this
              rw [this]; rfl)
            clear ht hv
            go_upto_region 5 with fail
            rw [← HW.out]
            clear c0 c1 c2 c3 c4 c5 c6
            obtain ⟨d0, d1, d2, d3, d4, d5, d6⟩ := file7 KP.out
            go_wp2_with (go_quiet (fail))
            go_wp2
            go_roundw
            case rel => exact ⟨i + 1, by omega, by go_num, HT.out, Lib.hid (HD.out _)⟩
            case measure => simp [intOf]; omega
          · have f2 : decide (v2 < v) = false := decide_eq_false hv
            have HT : Hid (Value.int .i64 (k : Int) = pv (Ls.told (filesOf xs) (i + 1) P)) := Lib.hid (by
              have := Ls.told_less hif (by rw [HP.out]; exact ht) hkf (by rw [HV.out, HV2.out]; exact hv)
              rw [HP.out] at this
              rw [this]; rfl)
            clear ht hv
            go_upto_region 5 with fail
            rw [← HW.out]
            clear c0 c1 c2 c3 c4 c5 c6
            obtain ⟨d0, d1, d2, d3, d4, d5, d6⟩ := file7 KP.out
            go_wp2_with (go_quiet (fail))
            go_wp2
            go_roundw
            case rel => exact ⟨i + 1, by omega, by go_num, HT.out, Lib.hid (HD.out _)⟩
            case measure => simp [intOf]; omega
    · have hin : i = n := by omega
      have e0 : decide (i < n) = false := decide_eq_false hlt
      rw [hin]
      go_wp2
      go_ret
      exact ⟨rfl, HB.out⟩
end Go.Proofs.Ytjhbmijdpcbbiaa
