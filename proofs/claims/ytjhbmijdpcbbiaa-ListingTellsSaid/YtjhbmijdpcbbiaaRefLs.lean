/- What the document's own Newest and GetFile answer. -/
import Derived.Test.YtjhbmijdpcbbiaaLsNew
import Derived.Test.YtjhbmijdpcbbiaaLsGetM
namespace Go.Proofs.Ytjhbmijdpcbbiaa
open Go.RowKit
open Pt (Tx)

set_option maxRecDepth 100000 in
set_option maxHeartbeats 8000000 in
theorem refNewest_any (xs : List Fx) (n C : Nat) (A : Option Addr) (G : Nat → Prop) (p : Tx) (w : World) (hn : n = xs.length) (hm : n ≤ 1000000) (hr : encF.Rd w A xs G) (ho : ∀ x ∈ xs, x.Fit w) :
    Calls Try.prog 8 #[.slice A n C, .string (tx p)] w (FileA (Ls.newest (filesOf xs) p) w) := by
  obtain ⟨wa, hwa⟩ : ∃ x, x = w.alloc (fileO [] 0 0 0 0 false none 0 0) := ⟨_, rfl⟩
  have hba : Below w.heap.size w wa := by rw [hwa]; exact (Below.refl _ _).alloc (Nat.le_refl _) _
  have hka : wa.heap[w.heap.size]? = some (fileO [] 0 0 0 0 false none 0 0) := by rw [hwa]; exact Go.Deep.blk_alloc_new _ _
  have HW : Hid (wa = w.alloc (.cells #[.string ⟨#[]⟩, .int .i64 0, .int .i64 0, .int .i64 0, .int .i64 0, .bool false, .slice none 0 0] 26)) := Lib.hid hwa
  have HBA := Lib.hid hba
  have HKA := Lib.hid hka
  have HN := Lib.hid hn
  have HR := Lib.hid (hr.old hba)
  have HO := Lib.hid fun x hx => (ho x hx).old hba
  have HL : Hid ((filesOf xs).length = n) := Lib.hid (by rw [filesOf_len, hn])
  have ep := tx_toList p
  clear hwa hba hka hn hr ho
  go_enter Try.func8, Try.ntmps8
  go_upto_region 1 with fail
  rw [← HW.out]
  go_wp2
  go_loopw [6, 7] (fun vp vi wr => ∃ i : Nat, i ≤ n ∧ vi = .int .i64 (i : Int) ∧ vp = pv (Ls.told (filesOf xs) i p) ∧ Hid (Below wa.heap.size wa wr)) (fun _ vi _ => n - (intOf vi).toNat)
  case atStart => exact ⟨0, Nat.zero_le _, rfl, rfl, Lib.hid (Below.refl _ _)⟩
  case round =>
    obtain ⟨i, hi, rfl, rfl, HB⟩ := hrel
    by_cases hlt : i < n
    · have e0 : decide (i < n) = true := decide_eq_true hlt
      have hix : i < xs.length := by rw [← HN.out]; exact hlt
      have hif : i < (filesOf xs).length := by rw [HL.out]; exact hlt
      obtain ⟨⟨⟨P, v, z, s, r, b, pl⟩, A1, C1⟩, hx⟩ : ∃ x, x = xs[i] := ⟨_, rfl⟩
      have HF : Hid ((filesOf xs)[i] = ⟨P, v, z, s, r, b, pl⟩) := Lib.hid (by rw [filesOf_get hix hif, ← hx])
      obtain ⟨g, o, rfl, c⟩ := seven_at (HR.out.old HB.out) hix hx
      obtain ⟨c0, c1, -, -, -, -, -⟩ := c
      have HD : Hid (∀ m, Below wa.heap.size wa (wr.drewN m)) := Lib.hid fun m => HB.out.trans ((drewN_below wr m).mono HB.out.size)
      clear hx
      have eP := tx_toList P
      cases hq : (P == p) with
      | false =>
        have HT : Hid (pv (Ls.told (filesOf xs) i p) = pv (Ls.told (filesOf xs) (i + 1) p)) := Lib.hid (by rw [Ls.told_other hif (by rw [HF.out]; intro e; exact absurd e.symm (beq_eq_false_iff_ne.1 hq))])
        go_wp2_with (go_quiet (fail))
        go_wp2
        go_roundw
        case rel => exact ⟨i + 1, by omega, by go_num, HT.out, Lib.hid (HD.out _)⟩
        case measure => simp [intOf]; omega
      | true =>
        have hPp : P = p := beq_iff_eq.1 hq
        subst hPp
        have HP : Hid ((filesOf xs)[i].path = P) := Lib.hid (by rw [HF.out])
        have HV : Hid ((filesOf xs)[i].version = v) := Lib.hid (by rw [HF.out])
        cases ht : Ls.told (filesOf xs) i P with
        | none =>
          rw [pv_none]
          have HT : Hid (Value.int .i64 (i : Int) = pv (Ls.told (filesOf xs) (i + 1) P)) := Lib.hid (by
            have := Ls.told_new hif (by rw [HP.out]; exact ht)
            rw [HP.out] at this
            rw [this]; rfl)
          clear ht
          go_wp2_with (go_quiet (fail))
          go_wp2
          go_roundw
          case rel => exact ⟨i + 1, by omega, by go_num, HT.out, Lib.hid (HD.out _)⟩
          case measure => simp [intOf]; omega
        | some k =>
          rw [pv_some]
          have hkf : k < (filesOf xs).length := (Ls.pl_lt ht).2
          have hkn : k < n := by rw [← HL.out]; exact hkf
          have hkx : k < xs.length := by rw [← HN.out]; exact hkn
          obtain ⟨⟨⟨P2, v2, z2, s2, r2, b2, pl2⟩, A2, C2⟩, hx2⟩ : ∃ x, x = xs[k] := ⟨_, rfl⟩
          have HV2 : Hid ((filesOf xs)[k].version = v2) := Lib.hid (by rw [filesOf_get hkx hkf, ← hx2])
          obtain ⟨g', o', hA, c'⟩ := seven_at (HR.out.old HB.out) hkx hx2
          cases hA
          obtain ⟨-, k1, -, -, -, -, -⟩ := c'
          have f0 : decide ((k : Int) < 0) = false := decide_eq_false (by omega)
          have f1 : decide (k < n) = true := decide_eq_true hkn
          clear hx2
          by_cases hv : v2 < v
          · have f2 : decide (v2 < v) = true := decide_eq_true hv
            have HT : Hid (Value.int .i64 (i : Int) = pv (Ls.told (filesOf xs) (i + 1) P)) := Lib.hid (by
              have := Ls.told_more hif (by rw [HP.out]; exact ht) hkf (by rw [HV.out, HV2.out]; exact hv)
              rw [HP.out] at this
              rw [this]; rfl)
            clear ht hv
            go_wp2_with (go_quiet (fail))
            go_wp2
            go_roundw
            case rel => exact ⟨i + 1, by omega, by go_num, HT.out, Lib.hid (HD.out _)⟩
            case measure => simp [intOf]; omega
          · have f2 : decide (v2 < v) = false := decide_eq_false hv
            have HT : Hid (Value.int .i64 (k : Int) = pv (Ls.told (filesOf xs) (i + 1) P)) := Lib.hid (by
              have := Ls.told_less hif (by rw [HP.out]; exact ht) hkf (by rw [HV.out, HV2.out]; exact hv)
              rw [HP.out] at this
              rw [this]; rfl)
            clear ht hv
            go_wp2_with (go_quiet (fail))
            go_wp2
            go_roundw
            case rel => exact ⟨i + 1, by omega, by go_num, HT.out, Lib.hid (HD.out _)⟩
            case measure => simp [intOf]; omega
    · have hin : i = n := by omega
      have e0 : decide (i < n) = false := decide_eq_false hlt
      have HB1 := Lib.hid (HBA.out.trans (HB.out.mono HBA.out.size))
      have HK1 := Lib.hid (below_obj' HB.out HKA.out)
      rw [hin]
      clear hin hi
      cases ht : Ls.told (filesOf xs) n p with
      | none =>
        rw [pv_none]
        have HX := Lib.hid (Ls.newest_none (by rw [HL.out]; exact ht))
        obtain ⟨y0, y1, y2, y3, y4, y5, y6⟩ := file7 HK1.out
        obtain ⟨g0, g1, g2, g3, g4, g5, g6⟩ := file_free HK1.out
        clear ht
        go_wp2
        obtain ⟨z0, z1, z2, z3, z4, z5, z6⟩ := zero7 (seven_zero HK1.out)
        exact bodyPost_ret (v := .tuple #[.agg #[.string ⟨#[]⟩, .int .i64 0, .int .i64 0, .int .i64 0, .int .i64 0, .bool false, .slice none 0 0], .bool false]) (by simp [results, Try.results8, go_sem, z0, z1, z2, z3, z4, z5, z6]) rfl (FileA.no HX.out (HB1.out.trans ((seven_kp _ _ _ _ _ _ _ _ _).below HB1.out.size fun k hk => by omega)))
      | some k =>
        rw [pv_some]
        have hkf : k < (filesOf xs).length := (Ls.pl_lt ht).2
        have hkn : k < n := by rw [← HL.out]; exact hkf
        have hkx : k < xs.length := by rw [← HN.out]; exact hkn
        have f0 : decide ((k : Int) < 0) = false := decide_eq_false (by omega)
        have f1 : decide (k < n) = true := decide_eq_true hkn
        obtain ⟨⟨⟨P, v, z, s, r, b, pl⟩, A1, C1⟩, hx⟩ : ∃ x, x = xs[k] := ⟨_, rfl⟩
        have HX : Hid (Ls.newest (filesOf xs) p = if b = true then none else some ⟨P, v, z, s, r, b, pl⟩) := Lib.hid (by
          rw [Ls.newest_at (by rw [HL.out]; exact ht) hkf, filesOf_get hkx hkf, ← hx])
        have HRD : Hid (encQ.Rd wr A1 pl (fun _ => True)) := Lib.hid (by
          have h := (HO.out xs[k] (List.getElem_mem hkx)).rd
          rw [← hx] at h
          exact h.old HB.out)
        obtain ⟨g, o, rfl, c⟩ := seven_at (HR.out.old HB.out) hkx hx
        obtain ⟨m, hm'⟩ : ∃ m, m = pl.length := ⟨_, rfl⟩
        rw [← hm'] at c
        have HM := Lib.hid hm'
        obtain ⟨c0, c1, c2, c3, c4, c5, c6⟩ := c
        obtain ⟨y0, y1, y2, y3, y4, y5, y6⟩ := file7 HK1.out
        obtain ⟨g0, g1, g2, g3, g4, g5, g6⟩ := file_free HK1.out
        clear ht hx hm' hkf hkx
        cases b with
        | true =>
          go_wp2
          obtain ⟨z0, z1, z2, z3, z4, z5, z6⟩ := zero7 (seven_zero HK1.out)
          exact bodyPost_ret (v := .tuple #[.agg #[.string ⟨#[]⟩, .int .i64 0, .int .i64 0, .int .i64 0, .int .i64 0, .bool false, .slice none 0 0], .bool false]) (by simp [results, Try.results8, go_sem, z0, z1, z2, z3, z4, z5, z6]) rfl (FileA.no HX.out (HB1.out.trans ((seven_kp _ _ _ _ _ _ _ _ _).below HB1.out.size fun k hk => by omega)))
        | false =>
          go_wp2
          obtain ⟨z0, z1, z2, z3, z4, z5, z6⟩ := file7 (seven_set HK1.out P v z s r false A1 m C1)
          have HKF := seven_kp wr w.heap.size (.string (tx P)) (.int .i64 v) (.int .i64 z) (.int .i64 s) (.int .i64 r) (.bool false) (.slice A1 m C1)
          exact bodyPost_ret (v := .tuple #[.agg #[.string (tx P), .int .i64 v, .int .i64 z, .int .i64 s, .int .i64 r, .bool false, .slice A1 m C1], .bool true]) (by simp [results, Try.results8, go_sem, z0, z1, z2, z3, z4, z5, z6]) rfl (FileA.yes HX.out HM.out (rdQ_file HRD.out HK1.out HKF) (HB1.out.trans (HKF.below HB1.out.size fun k hk => by omega)))
set_option maxRecDepth 100000 in
set_option maxHeartbeats 8000000 in
theorem refGetF_any (xs : List Fx) (n C : Nat) (A : Option Addr) (G : Nat → Prop) (p : Tx) (V : Int) (w : World) (hn : n = xs.length) (hm : n ≤ 1000000) (hr : encF.Rd w A xs G) (ho : ∀ x ∈ xs, x.Fit w) :
    Calls Try.prog 10 #[.slice A n C, .string (tx p), .int .i64 V] w (FileA (Ls.get (filesOf xs) p V) w) := by
  obtain ⟨wa, hwa⟩ : ∃ x, x = w.alloc (fileO [] 0 0 0 0 false none 0 0) := ⟨_, rfl⟩
  have hba : Below w.heap.size w wa := by rw [hwa]; exact (Below.refl _ _).alloc (Nat.le_refl _) _
  have hka : wa.heap[w.heap.size]? = some (fileO [] 0 0 0 0 false none 0 0) := by rw [hwa]; exact Go.Deep.blk_alloc_new _ _
  have HW : Hid (wa = w.alloc (.cells #[.string ⟨#[]⟩, .int .i64 0, .int .i64 0, .int .i64 0, .int .i64 0, .bool false, .slice none 0 0] 26)) := Lib.hid hwa
  have HNW := Lib.hid (refNewest_any xs n C A G p wa hn hm (hr.old hba) (fun x hx => (ho x hx).old hba))
  have HBA := Lib.hid hba
  have HKA := Lib.hid hka
  have HN := Lib.hid hn
  have HR := Lib.hid (hr.old hba)
  have HO := Lib.hid fun x hx => (ho x hx).old hba
  have HL : Hid ((filesOf xs).length = n) := Lib.hid (by rw [filesOf_len, hn])
  have ep := tx_toList p
  clear hwa hba hka hn hr ho
  by_cases hV : V = 0
  · subst hV
    have HGZ := Lib.hid (Ls.get_zero (l := filesOf xs) (p := p) (v := 0) rfl)
    go_enter Try.func10, Try.ntmps10
    go_upto_region 1 with fail
    rw [← HW.out]
    go_wp2_with fail
    refine HNW.out.mono ?_
    intro e w2 ha
    rcases ha.cases with ⟨h0, rfl, hb2⟩ | ⟨P', v', z', s', r', b', pl', A', m', C', h0, hm', rfl, hrd, hb2⟩
    · have HB2 := Lib.hid (HBA.out.trans (hb2.mono HBA.out.size))
      have HK2 := Lib.hid (below_obj' hb2 HKA.out)
      have HY := Lib.hid (HGZ.out.trans h0)
      obtain ⟨y0, y1, y2, y3, y4, y5, y6⟩ := file7 HK2.out
      obtain ⟨g0, g1, g2, g3, g4, g5, g6⟩ := file_free HK2.out
      clear h0 hb2 HNW ha
      go_wp2
      obtain ⟨z0, z1, z2, z3, z4, z5, z6⟩ := zero7 (seven_zero HK2.out)
      exact bodyPost_ret (v := .tuple #[.agg #[.string ⟨#[]⟩, .int .i64 0, .int .i64 0, .int .i64 0, .int .i64 0, .bool false, .slice none 0 0], .bool false]) (by simp [results, Try.results10, go_sem, z0, z1, z2, z3, z4, z5, z6]) rfl (FileA.no HY.out (HB2.out.trans ((seven_kp _ _ _ _ _ _ _ _ _).below HB2.out.size fun k hk => by omega)))
    · have HB2 := Lib.hid (HBA.out.trans (hb2.mono HBA.out.size))
      have HK2 := Lib.hid (below_obj' hb2 HKA.out)
      have HY := Lib.hid (HGZ.out.trans h0)
      have HM := Lib.hid hm'
      have HRD := Lib.hid hrd
      obtain ⟨y0, y1, y2, y3, y4, y5, y6⟩ := file7 HK2.out
      obtain ⟨g0, g1, g2, g3, g4, g5, g6⟩ := file_free HK2.out
      clear h0 hb2 HNW ha hm' hrd
      go_wp2
      obtain ⟨z0, z1, z2, z3, z4, z5, z6⟩ := file7 (seven_set HK2.out P' v' z' s' r' b' A' m' C')
      have HKF := seven_kp w2 w.heap.size (.string (tx P')) (.int .i64 v') (.int .i64 z') (.int .i64 s') (.int .i64 r') (.bool b') (.slice A' m' C')
      exact bodyPost_ret (v := .tuple #[.agg #[.string (tx P'), .int .i64 v', .int .i64 z', .int .i64 s', .int .i64 r', .bool b', .slice A' m' C'], .bool true]) (by simp [results, Try.results10, go_sem, z0, z1, z2, z3, z4, z5, z6]) rfl (FileA.yes HY.out HM.out (rdQ_file HRD.out HK2.out HKF) (HB2.out.trans (HKF.below HB2.out.size fun k hk => by omega)))
  · have hV' : (V == 0) = false := beq_eq_false_iff_ne.2 hV
    have HV0 := Lib.hid hV
    clear hV HNW
    go_enter Try.func10, Try.ntmps10
    go_upto_region 1 with fail
    rw [← HW.out]
    go_wp2
    clear hV'
    go_loopw [8] (fun vi wr => ∃ i : Nat, i ≤ n ∧ vi = .int .i64 (i : Int) ∧ Hid (Ls.Miss (filesOf xs) p V i) ∧ Hid (Below wa.heap.size wa wr)) (fun vi _ => n - (intOf vi).toNat)
    case atStart => exact ⟨0, Nat.zero_le _, rfl, Lib.hid (Ls.Miss.zero _ _ _), Lib.hid (Below.refl _ _)⟩
    case round =>
      obtain ⟨i, hi, rfl, HMI, HB⟩ := hrel
      have HB1 := Lib.hid (HBA.out.trans (HB.out.mono HBA.out.size))
      have HK1 := Lib.hid (below_obj' HB.out HKA.out)
      by_cases hlt : i < n
      · have e0 : decide (i < n) = true := decide_eq_true hlt
        have hix : i < xs.length := by rw [← HN.out]; exact hlt
        have hif : i < (filesOf xs).length := by rw [HL.out]; exact hlt
        obtain ⟨⟨⟨P, v, z, s, r, b, pl⟩, A1, C1⟩, hx⟩ : ∃ x, x = xs[i] := ⟨_, rfl⟩
        have HF : Hid ((filesOf xs)[i] = ⟨P, v, z, s, r, b, pl⟩) := Lib.hid (by rw [filesOf_get hix hif, ← hx])
        have HRD : Hid (encQ.Rd wr A1 pl (fun _ => True)) := Lib.hid (by
          have h := (HO.out xs[i] (List.getElem_mem hix)).rd
          rw [← hx] at h
          exact h.old HB.out)
        obtain ⟨g, o, rfl, c⟩ := seven_at (HR.out.old HB.out) hix hx
        obtain ⟨m, hm'⟩ : ∃ m, m = pl.length := ⟨_, rfl⟩
        rw [← hm'] at c
        have HM := Lib.hid hm'
        obtain ⟨c0, c1, c2, c3, c4, c5, c6⟩ := c
        have eP := tx_toList P
        clear hx hm'
        cases hq : (P == p) with
        | false =>
          have HM2 := Lib.hid (HMI.out.step hif (by rw [HF.out, Ls.hit_mk, hq]; rfl))
          clear c2 c3 c4 c5 c6
          go_wp2
          go_roundw
          case rel => exact ⟨i + 1, by omega, by go_num, HM2, HB⟩
          case measure => simp [intOf]; omega
        | true =>
          cases hq2 : (v == V) with
          | false =>
            have HM2 := Lib.hid (HMI.out.step hif (by rw [HF.out, Ls.hit_mk, hq, hq2]; rfl))
            clear c2 c3 c4 c5 c6
            go_wp2
            go_roundw
            case rel => exact ⟨i + 1, by omega, by go_num, HM2, HB⟩
            case measure => simp [intOf]; omega
          | true =>
            have HX : Hid (Ls.get (filesOf xs) p V = if b = true then none else some ⟨P, v, z, s, r, b, pl⟩) := Lib.hid (by
              rw [Ls.get_hit HV0.out hif HMI.out (by rw [HF.out, Ls.hit_mk, hq, hq2]; rfl), HF.out])
            obtain ⟨y0, y1, y2, y3, y4, y5, y6⟩ := file7 HK1.out
            obtain ⟨g0, g1, g2, g3, g4, g5, g6⟩ := file_free HK1.out
            cases b with
            | true =>
              go_wp2
              obtain ⟨z0, z1, z2, z3, z4, z5, z6⟩ := zero7 (seven_zero HK1.out)
              exact bodyPost_ret (v := .tuple #[.agg #[.string ⟨#[]⟩, .int .i64 0, .int .i64 0, .int .i64 0, .int .i64 0, .bool false, .slice none 0 0], .bool false]) (by simp [results, Try.results10, go_sem, z0, z1, z2, z3, z4, z5, z6]) rfl (FileA.no HX.out (HB1.out.trans ((seven_kp _ _ _ _ _ _ _ _ _).below HB1.out.size fun k hk => by omega)))
            | false =>
              go_wp2
              obtain ⟨z0, z1, z2, z3, z4, z5, z6⟩ := file7 (seven_set HK1.out P v z s r false A1 m C1)
              have HKF := seven_kp wr w.heap.size (.string (tx P)) (.int .i64 v) (.int .i64 z) (.int .i64 s) (.int .i64 r) (.bool false) (.slice A1 m C1)
              exact bodyPost_ret (v := .tuple #[.agg #[.string (tx P), .int .i64 v, .int .i64 z, .int .i64 s, .int .i64 r, .bool false, .slice A1 m C1], .bool true]) (by simp [results, Try.results10, go_sem, z0, z1, z2, z3, z4, z5, z6]) rfl (FileA.yes HX.out HM.out (rdQ_file HRD.out HK1.out HKF) (HB1.out.trans (HKF.below HB1.out.size fun k hk => by omega)))
      · have hin : i = n := by omega
        have e0 : decide (i < n) = false := decide_eq_false hlt
        have HX := Lib.hid (Ls.get_miss HV0.out (by rw [hin, HL.out]) HMI.out)
        obtain ⟨y0, y1, y2, y3, y4, y5, y6⟩ := file7 HK1.out
        obtain ⟨g0, g1, g2, g3, g4, g5, g6⟩ := file_free HK1.out
        clear hin
        go_wp2
        obtain ⟨z0, z1, z2, z3, z4, z5, z6⟩ := zero7 (seven_zero HK1.out)
        exact bodyPost_ret (v := .tuple #[.agg #[.string ⟨#[]⟩, .int .i64 0, .int .i64 0, .int .i64 0, .int .i64 0, .bool false, .slice none 0 0], .bool false]) (by simp [results, Try.results10, go_sem, z0, z1, z2, z3, z4, z5, z6]) rfl (FileA.no HX.out (HB1.out.trans ((seven_kp _ _ _ _ _ _ _ _ _).below HB1.out.size fun k hk => by omega)))
end Go.Proofs.Ytjhbmijdpcbbiaa
