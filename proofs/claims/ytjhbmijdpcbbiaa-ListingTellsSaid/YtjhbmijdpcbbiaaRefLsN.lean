/- What the document's own Next and Serial answer. -/
import Derived.Test.YtjhbmijdpcbbiaaRefLs
import Derived.Test.YtjhbmijdpcbbiaaLsNext
namespace Go.Proofs.Ytjhbmijdpcbbiaa
open Go.RowKit
open Pt (Tx)

set_option maxRecDepth 100000 in
set_option maxHeartbeats 8000000 in
theorem refNext_any (xs : List Fx) (n C : Nat) (A : Option Addr) (G : Nat → Prop) (p : Tx) (w : World) (hn : n = xs.length) (hm : n ≤ 1000000) (hr : encF.Rd w A xs G) (hv : ∀ x ∈ xs, Low x.f.version) :
    Calls Try.prog 13 #[.slice A n C, .string (tx p)] w fun e w' => e = .returned (.int .i64 (Ls.next (filesOf xs) p)) ∧ Below w.heap.size w w' := by
  have HN := Lib.hid hn
  have HR := Lib.hid hr
  have HVL := Lib.hid hv
  have HL : Hid ((filesOf xs).length = n) := Lib.hid (by rw [filesOf_len, hn])
  have ep := tx_toList p
  clear hn hr hv
  go_enter Try.func13, Try.ntmps13
  go_wp2
  go_loopw [5, 6] (fun vp vi wr => ∃ i : Nat, i ≤ n ∧ vi = .int .i64 (i : Int) ∧ vp = pv (Ls.told (filesOf xs) i p) ∧ Hid (Below w.heap.size w wr)) (fun _ vi _ => n - (intOf vi).toNat)
  case atStart => exact ⟨0, Nat.zero_le _, rfl, rfl, Lib.hid (Below.refl _ _)⟩
  case round =>
    obtain ⟨i, hi, rfl, rfl, HB⟩ := hrel
    by_cases hlt : i < n
    · have e0 : decide (i < n) = true := decide_eq_true hlt
      have hix : i < xs.length := by rw [← HN.out]; exact hlt
      have hif : i < (filesOf xs).length := by rw [HL.out]; exact hlt
      obtain ⟨⟨⟨P, v, z, s, r, b, pl⟩, A1, C1⟩, hx⟩ : ∃ x, x = xs[i] := ⟨_, rfl⟩
      have HF : Hid ((filesOf xs)[i] = ⟨P, v, z, s, r, b, pl⟩) := Lib.hid (by rw [filesOf_get hix hif, ← hx])
      obtain ⟨g, o, rfl, c⟩ := seven_at (HR.out.old HB.out) hix hx
      obtain ⟨c0, c1, -, -, -, -, -⟩ := c
      have HD : Hid (∀ m, Below w.heap.size w (wr.drewN m)) := Lib.hid fun m => HB.out.trans ((drewN_below wr m).mono HB.out.size)
      clear hx
      have eP := tx_toList P
      cases hq : (P == p) with
      | false =>
        have HT : Hid (pv (Ls.told (filesOf xs) i p) = pv (Ls.told (filesOf xs) (i + 1) p)) := Lib.hid (by rw [Ls.told_other hif (by rw [HF.out]; intro e; exact absurd e.symm (beq_eq_false_iff_ne.1 hq))])
        go_wp2_with (go_quiet (fail))
        go_wp2
        go_roundw
        case rel => exact ⟨i + 1, by omega, by go_num, HT.out, Lib.hid (HD.out _)⟩
        case measure => simp [intOf]; omega
      | true =>
        have hPp : P = p := beq_iff_eq.1 hq
        subst hPp
        have HP : Hid ((filesOf xs)[i].path = P) := Lib.hid (by rw [HF.out])
        have HV : Hid ((filesOf xs)[i].version = v) := Lib.hid (by rw [HF.out])
        cases ht : Ls.told (filesOf xs) i P with
        | none =>
          rw [pv_none]
          have HT : Hid (Value.int .i64 (i : Int) = pv (Ls.told (filesOf xs) (i + 1) P)) := Lib.hid (by
            have := Ls.told_new hif (by rw [HP.out]; exact ht)
            rw [HP.out] at this
            rw [this]; rfl)
          clear ht
          go_wp2_with (go_quiet (fail))
          go_wp2
          go_roundw
          case rel => exact ⟨i + 1, by omega, by go_num, HT.out, Lib.hid (HD.out _)⟩
          case measure => simp [intOf]; omega
        | some k =>
          rw [pv_some]
          have hkf : k < (filesOf xs).length := (Ls.pl_lt ht).2
          have hkn : k < n := by rw [← HL.out]; exact hkf
          have hkx : k < xs.length := by rw [← HN.out]; exact hkn
          obtain ⟨⟨⟨P2, v2, z2, s2, r2, b2, pl2⟩, A2, C2⟩, hx2⟩ : ∃ x, x = xs[k] := ⟨_, rfl⟩
          have HV2 : Hid ((filesOf xs)[k].version = v2) := Lib.hid (by rw [filesOf_get hkx hkf, ← hx2])
          obtain ⟨g', o', hA, c'⟩ := seven_at (HR.out.old HB.out) hkx hx2
          cases hA
          obtain ⟨-, k1, -, -, -, -, -⟩ := c'
          have f0 : decide ((k : Int) < 0) = false := decide_eq_false (by omega)
          have f1 : decide (k < n) = true := decide_eq_true hkn
          clear hx2
          by_cases hv : v2 < v
          · have f2 : decide (v2 < v) = true := decide_eq_true hv
            have HT : Hid (Value.int .i64 (i : Int) = pv (Ls.told (filesOf xs) (i + 1) P)) := Lib.hid (by
              have := Ls.told_more hif (by rw [HP.out]; exact ht) hkf (by rw [HV.out, HV2.out]; exact hv)
              rw [HP.out] at this
              rw [this]; rfl)
            clear ht hv
            go_wp2_with (go_quiet (fail))
            go_wp2
            go_roundw
            case rel => exact ⟨i + 1, by omega, by go_num, HT.out, Lib.hid (HD.out _)⟩
            case measure => simp [intOf]; omega
          · have f2 : decide (v2 < v) = false := decide_eq_false hv
            have HT : Hid (Value.int .i64 (k : Int) = pv (Ls.told (filesOf xs) (i + 1) P)) := Lib.hid (by
              have := Ls.told_less hif (by rw [HP.out]; exact ht) hkf (by rw [HV.out, HV2.out]; exact hv)
              rw [HP.out] at this
              rw [this]; rfl)
            clear ht hv
            go_wp2_with (go_quiet (fail))
            go_wp2
            go_roundw
            case rel => exact ⟨i + 1, by omega, by go_num, HT.out, Lib.hid (HD.out _)⟩
            case measure => simp [intOf]; omega
    · have hin : i = n := by omega
      have e0 : decide (i < n) = false := decide_eq_false hlt
      rw [hin]
      clear hin hi
      cases ht : Ls.told (filesOf xs) n p with
      | none =>
        rw [pv_none]
        have HX := Lib.hid (Ls.next_none (by rw [HL.out]; exact ht))
        clear ht
        go_wp2
        go_ret
        exact ⟨retZ HX.out.symm, HB.out⟩
      | some k =>
        rw [pv_some]
        have hkf : k < (filesOf xs).length := (Ls.pl_lt ht).2
        have hkn : k < n := by rw [← HL.out]; exact hkf
        have hkx : k < xs.length := by rw [← HN.out]; exact hkn
        have f0 : decide ((k : Int) < 0) = false := decide_eq_false (by omega)
        have f1 : decide (k < n) = true := decide_eq_true hkn
        obtain ⟨⟨⟨P, v, z, s, r, b, pl⟩, A1, C1⟩, hx⟩ : ∃ x, x = xs[k] := ⟨_, rfl⟩
        have HX : Hid (Ls.next (filesOf xs) p = v + 1) := Lib.hid (by
          rw [Ls.next_at (by rw [HL.out]; exact ht) hkf, filesOf_get hkx hkf, ← hx])
        have s1 : IntKind.i64.wrap (v + 1) = v + 1 := by
          have := HVL.out xs[k] (List.getElem_mem hkx)
          rw [← hx] at this
          exact this.wrap
        obtain ⟨g, o, rfl, c⟩ := seven_at (HR.out.old HB.out) hkx hx
        obtain ⟨-, c1, -, -, -, -, -⟩ := c
        clear ht hx hkf hkx
        go_wp2
        go_ret
        exact ⟨retZ HX.out.symm, HB.out⟩
/-- the serial's place -/
def serAt (l : List Ct.F) (i : Nat) : Option Nat := Ls.pl (fun _ => true) (fun f => f.serial) l i
theorem serial_none {l : List Ct.F} {n : Nat} (hn : n = l.length) (h : serAt l n = none) : Ls.serial l = 1 := by
  subst hn; unfold Ls.serial; rw [Ls.best_none h]; rfl
theorem serial_at {l : List Ct.F} {n k : Nat} (hn : n = l.length) (h : serAt l n = some k) (hk : k < l.length) : Ls.serial l = l[k].serial + 1 := by
  subst hn; unfold Ls.serial; rw [Ls.best_at h hk]; rfl
set_option maxRecDepth 100000 in
set_option maxHeartbeats 8000000 in
theorem refSerial_any (xs : List Fx) (n C : Nat) (A : Option Addr) (G : Nat → Prop) (w : World) (hn : n = xs.length) (hm : n ≤ 1000000) (hr : encF.Rd w A xs G) (hv : ∀ x ∈ xs, Low x.f.serial) :
    Calls Try.prog 15 #[.slice A n C] w fun e w' => e = .returned (.int .i64 (Ls.serial (filesOf xs))) ∧ Below w.heap.size w w' := by
  have HN := Lib.hid hn
  have HR := Lib.hid hr
  have HVL := Lib.hid hv
  have HL : Hid ((filesOf xs).length = n) := Lib.hid (by rw [filesOf_len, hn])
  clear hn hr hv
  go_enter Try.func15, Try.ntmps15
  go_wp2
  go_loopw [3, 4] (fun vp vi wr => ∃ i : Nat, i ≤ n ∧ vi = .int .i64 (i : Int) ∧ vp = pv (serAt (filesOf xs) i) ∧ Hid (Below w.heap.size w wr)) (fun _ vi _ => n - (intOf vi).toNat)
  case atStart => exact ⟨0, Nat.zero_le _, rfl, rfl, Lib.hid (Below.refl _ _)⟩
  case round =>
    obtain ⟨i, hi, rfl, rfl, HB⟩ := hrel
    by_cases hlt : i < n
    · have e0 : decide (i < n) = true := decide_eq_true hlt
      have hix : i < xs.length := by rw [← HN.out]; exact hlt
      have hif : i < (filesOf xs).length := by rw [HL.out]; exact hlt
      obtain ⟨⟨⟨P, v, z, s, r, b, pl⟩, A1, C1⟩, hx⟩ : ∃ x, x = xs[i] := ⟨_, rfl⟩
      have HV : Hid ((filesOf xs)[i].serial = r) := Lib.hid (by rw [filesOf_get hix hif, ← hx])
      obtain ⟨g, o, rfl, c⟩ := seven_at (HR.out.old HB.out) hix hx
      obtain ⟨-, -, -, -, c4, -, -⟩ := c
      have HD : Hid (∀ m, Below w.heap.size w (wr.drewN m)) := Lib.hid fun m => HB.out.trans ((drewN_below wr m).mono HB.out.size)
      clear hx
      cases ht : serAt (filesOf xs) i with
      | none =>
        rw [pv_none]
        have HT : Hid (Value.int .i64 (i : Int) = pv (serAt (filesOf xs) (i + 1))) := Lib.hid (by
          have : serAt (filesOf xs) (i + 1) = some i := Ls.pl_first hif rfl ht
          rw [this]; rfl)
        clear ht
        go_wp2_with (go_quiet (fail))
        go_wp2
        go_roundw
        case rel => exact ⟨i + 1, by omega, by go_num, HT.out, Lib.hid (HD.out _)⟩
        case measure => simp [intOf]; omega
      | some k =>
        rw [pv_some]
        have hkf : k < (filesOf xs).length := (Ls.pl_lt ht).2
        have hkn : k < n := by rw [← HL.out]; exact hkf
        have hkx : k < xs.length := by rw [← HN.out]; exact hkn
        obtain ⟨⟨⟨P2, v2, z2, s2, r2, b2, pl2⟩, A2, C2⟩, hx2⟩ : ∃ x, x = xs[k] := ⟨_, rfl⟩
        have HV2 : Hid ((filesOf xs)[k].serial = r2) := Lib.hid (by rw [filesOf_get hkx hkf, ← hx2])
        obtain ⟨g', o', hA, c'⟩ := seven_at (HR.out.old HB.out) hkx hx2
        cases hA
        obtain ⟨-, -, -, -, k4, -, -⟩ := c'
        have f0 : decide ((k : Int) < 0) = false := decide_eq_false (by omega)
        have f1 : decide (k < n) = true := decide_eq_true hkn
        clear hx2
        by_cases hv : r2 < r
        · have f2 : decide (r2 < r) = true := decide_eq_true hv
          have HT : Hid (Value.int .i64 (i : Int) = pv (serAt (filesOf xs) (i + 1))) := Lib.hid (by
            have : serAt (filesOf xs) (i + 1) = some i := Ls.pl_more hif rfl ht hkf (by rw [HV.out, HV2.out]; exact hv)
            rw [this]; rfl)
          clear ht hv
          go_wp2_with (go_quiet (fail))
          go_wp2
          go_roundw
          case rel => exact ⟨i + 1, by omega, by go_num, HT.out, Lib.hid (HD.out _)⟩
          case measure => simp [intOf]; omega
        · have f2 : decide (r2 < r) = false := decide_eq_false hv
          have HT : Hid (Value.int .i64 (k : Int) = pv (serAt (filesOf xs) (i + 1))) := Lib.hid (by
            have : serAt (filesOf xs) (i + 1) = some k := Ls.pl_less hif rfl ht hkf (by rw [HV.out, HV2.out]; exact hv)
            rw [this]; rfl)
          clear ht hv
          go_wp2_with (go_quiet (fail))
          go_wp2
          go_roundw
          case rel => exact ⟨i + 1, by omega, by go_num, HT.out, Lib.hid (HD.out _)⟩
          case measure => simp [intOf]; omega
    · have hin : i = n := by omega
      have e0 : decide (i < n) = false := decide_eq_false hlt
      rw [hin]
      clear hin hi
      cases ht : serAt (filesOf xs) n with
      | none =>
        rw [pv_none]
        have HX := Lib.hid (serial_none HL.out.symm ht)
        clear ht
        go_wp2
        go_ret
        exact ⟨retZ HX.out.symm, HB.out⟩
      | some k =>
        rw [pv_some]
        have hkf : k < (filesOf xs).length := (Ls.pl_lt ht).2
        have hkn : k < n := by rw [← HL.out]; exact hkf
        have hkx : k < xs.length := by rw [← HN.out]; exact hkn
        have f0 : decide ((k : Int) < 0) = false := decide_eq_false (by omega)
        have f1 : decide (k < n) = true := decide_eq_true hkn
        obtain ⟨⟨⟨P, v, z, s, r, b, pl⟩, A1, C1⟩, hx⟩ : ∃ x, x = xs[k] := ⟨_, rfl⟩
        have HX : Hid (Ls.serial (filesOf xs) = r + 1) := Lib.hid (by
          rw [serial_at HL.out.symm ht hkf, filesOf_get hkx hkf, ← hx])
        have s1 : IntKind.i64.wrap (r + 1) = r + 1 := by
          have := HVL.out xs[k] (List.getElem_mem hkx)
          rw [← hx] at this
          exact this.wrap
        obtain ⟨g, o, rfl, c⟩ := seven_at (HR.out.old HB.out) hkx hx
        obtain ⟨-, -, -, -, c4, -, -⟩ := c
        clear ht hx hkf hkx
        go_wp2
        go_ret
        exact ⟨retZ HX.out.symm, HB.out⟩
end Go.Proofs.Ytjhbmijdpcbbiaa
