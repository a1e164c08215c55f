/- What SpanWhole answers: true. -/
import Derived.Test.YtgdccmkpjcggkaaSpAlive
import Derived.Test.YtgdccmkpjcggkaaInOpen
import Derived.Deep.CutBlock
namespace Go.Proofs.Ytgdccmkpjcggkaa
open Go.RowKit

set_option maxRecDepth 100000 in
set_option maxHeartbeats 1000000 in
theorem spanWhole_big (size : Int) (A : Option Addr) (n C : Nat) (w : World) (h : 60 < n ∨ size < 1 ∨ 4000 < size) :
    Calls Try.prog 3 #[.slice A n C, .int .i64 size] w (AnsT12 true w) := by
  have HC := Lib.hid (alive12_true w)
  have hq : (decide (60 < (n : Int)) = true ∧ decide (60 < n) = true) ∨ ((decide (60 < (n : Int)) = false ∧ decide (60 < n) = false) ∧ decide (size < 1) = true) ∨ ((decide (60 < (n : Int)) = false ∧ decide (60 < n) = false) ∧ decide (size < 1) = false ∧ decide (4000 < size) = true) := by
    simp only [decide_eq_true_eq, decide_eq_false_iff_not]; omega
  clear h
  rcases hq with ⟨q1, q2⟩ | ⟨⟨q1, q2⟩, q3⟩ | ⟨⟨q1, q2⟩, q3, q4⟩
  all_goals
    go_enter Try.func3, Try.ntmps3
    go_wp2_with fail
    refine HC.out.mono ?_
    rintro e w1 ⟨rfl, hb1⟩
    have HB1 := Lib.hid hb1
    clear hb1
    go_wp2
    go_ret
    exact ⟨rfl, HB1.out⟩
set_option maxRecDepth 100000 in
set_option maxHeartbeats 8000000 in
theorem spanWhole_main (rooms : List Int) (size : Int) (A : Option Addr) (n C : Nat) (G : Nat → Prop) (w : World) (hn : n = rooms.length) (hm : n ≤ 60) (h1 : 1 ≤ size) (h2 : size ≤ 4000) (hr : RdZ w A rooms G) :
    Calls Try.prog 3 #[.slice A n C, .int .i64 size] w (AnsT12 true w) := by
  have p1 : decide (60 < (n : Int)) = false := decide_eq_false (by omega)
  have p2 : decide (60 < n) = false := decide_eq_false (by omega)
  have p3 : decide (size < 1) = false := decide_eq_false (by omega)
  have p4 : decide (4000 < size) = false := decide_eq_false (by omega)
  have HR := Lib.hid hr
  have HN := Lib.hid hn
  have HAL := Lib.hid (alive12_true w)
  clear hr hn
  go_enter Try.func3, Try.ntmps3
  dsimp only [List.append]
  go_wp2_with fail
  refine HAL.out.mono ?_
  rintro e w1 ⟨rfl, hb1⟩
  have HB1 := Lib.hid hb1
  have HR1 := Lib.hid (HR.out.old hb1)
  have HC := Lib.hid (plan_any rooms size A n C G w1 HN.out (by omega) h1 h2 HR1.out)
  clear hb1 HAL
  go_wp2_with fail
  refine HC.out.mono ?_
  clear HC
  rintro e w2 ⟨A2, C2, rfl, g1, g2, g3, g4, g5⟩
  obtain ⟨l, hl⟩ : ∃ l, l = Sp.plan rooms size := ⟨_, rfl⟩
  obtain ⟨er, her⟩ : ∃ er, er = Sp.err rooms size := ⟨_, rfl⟩
  rw [← hl] at g1 g3 g4
  rw [← hl, ← her]
  have hll : l.length ≤ n := by rw [hl, HN.out]; exact Sp.plan_len _ _
  obtain ⟨N, hN⟩ : ∃ N, N = l.length := ⟨_, rfl⟩
  rw [← hN] at g1 g3 hll ⊢
  have HNL := Lib.hid hN
  have HL := Lib.hid hl
  have HER := Lib.hid her
  have HP := Lib.hid g4
  have HB2 := Lib.hid (HB1.out.trans (g5.mono HB1.out.size))
  have HR2 := Lib.hid (HR1.out.old g5)
  clear g1 g2 g3 g4 g5 hl her hN p1 p2 p3 p4
  go_wp2
  go_loopw [9, 8] (fun vi vs wr => ∃ (k : Nat) (s : Int), k ≤ n ∧ 0 ≤ s ∧ s ≤ 5000 * (k : Int) ∧ vi = .int .i64 (k : Int) ∧ vs = .int .i64 s ∧ Hid (Sp.sum ((rooms.take k).map low6) = s) ∧ Hid (wr = w2)) (fun vi _ _ => n - (intOf vi).toNat)
  case atStart => exact ⟨0, 0, by omega, by omega, by omega, rfl, rfl, Lib.hid rfl, Lib.hid rfl⟩
  case round =>
    obtain ⟨k, s, hk, h3, h4, rfl, rfl, HS, HW⟩ := hrel
    obtain rfl := HW.out
    by_cases hlt : k < n
    · have hltR : k < rooms.length := by rw [← HN.out]; exact hlt
      obtain ⟨b, off, rfl, -, hc⟩ := HR2.out.at_ hltR
      obtain ⟨r, hrr⟩ : ∃ r, r = rooms[k] := ⟨_, rfl⟩
      have hnext : Sp.sum ((rooms.take (k + 1)).map low6) = s + Sp.fits (low6 r) := by
        rw [List.take_succ_eq_append_getElem hltR, List.map_append, List.map_cons, List.map_nil, Sp.sum_snoc, HS.out, hrr]
      rw [← hrr] at hc
      have hb6 : bits BinOp.and IntKind.i64 r 63 = low6 r := rfl
      have hin := low6_in r
      have hf := refFits_any (low6 r)
      have hlo := Sp.fits_lo (low6 r)
      have hhi : Sp.fits (low6 r) ≤ 5000 := by unfold Sp.fits; split; omega; split <;> omega
      obtain ⟨F, hF⟩ : ∃ F, F = Sp.fits (low6 r) := ⟨_, rfl⟩
      rw [← hF] at hnext hf hlo hhi
      have HS2 := Lib.hid hnext
      clear hF hrr hltR hnext hin
      go_wp2_with (first | (go_at_call 6; refine (hf _).mono ?_; rintro e w' ⟨rfl, hw'⟩; subst hw'))
      go_roundw
      case rel => exact ⟨k + 1, s + F, by omega, by omega, by omega, by go_num, rfl, HS2, HW⟩
      case measure => simp [intOf]; omega
    · have hsum := HS.out
      rw [List.take_of_length_le (by rw [← HN.out]; omega)] at hsum
      have HS2 := Lib.hid hsum
      have HSM := Lib.hid (small_any rooms A n C G wr HN.out (by omega) HR2.out)
      clear hsum HS
      go_wp2_with fail
      refine HSM.out.mono ?_
      clear HSM
      rintro e w3 ⟨A3, C3, rfl, g1, g2⟩
      have HB3 := Lib.hid (HB2.out.trans (g2.mono HB2.out.size))
      have HR3 := Lib.hid (HR2.out.old g2)
      have HP3 := Lib.hid (HP.out.old g2)
      have HC := Lib.hid (plan_any (rooms.map low6) size A3 n C3 _ w3 (by rw [List.length_map, HN.out]) (by omega) h1 h2 g1)
      clear g1 g2 HP HR2 HB2
      go_wp2_with fail
      refine HC.out.mono ?_
      clear HC
      rintro e w4 ⟨A4, C4, rfl, g1, g2, g3, g4, g5⟩
      have HB4 := Lib.hid (HB3.out.trans (g5.mono HB3.out.size))
      have HR4 := Lib.hid (HR3.out.old g5)
      have HP4 := Lib.hid (HP3.out.old g5)
      clear HB3 HR3 HP3 g5 g4 g3 g2 g1
      have hez := Sp.err_zero (rooms := rooms.map low6) h1
      have heo := Sp.err_or (rooms.map low6) size
      have hpe := Sp.plan_err (rooms := rooms.map low6) (size := size)
      rw [HS2.out] at hez
      obtain ⟨er4, her4⟩ : ∃ er, er = Sp.err (rooms.map low6) size := ⟨_, rfl⟩
      obtain ⟨l4, hl4⟩ : ∃ l, l = Sp.plan (rooms.map low6) size := ⟨_, rfl⟩
      rw [← her4] at hez heo hpe ⊢
      rw [← hl4] at hpe ⊢
      obtain ⟨N4, hN4⟩ : ∃ N, N = l4.length := ⟨_, rfl⟩
      rw [← hN4]
      have hcase4 : er4 = 0 ∧ decide (size ≤ s) = true ∨ er4 = 7 ∧ decide (size ≤ s) = false ∧ N4 = 0 := by
        simp only [decide_eq_true_eq, decide_eq_false_iff_not]
        rcases heo with h | h
        · exact .inl ⟨h, hez.1 h⟩
        · refine .inr ⟨h, fun hh => ?_, ?_⟩
          · have := hez.2 hh; omega
          · rw [hN4, hpe (by omega)]; rfl
      clear hez heo hpe her4 hl4 hN4 HS2
      have hcase : er = 0 ∨ er = 7 ∧ N = 0 := by
        have h5 := Sp.err_or rooms size
        have h6 := Sp.plan_err (rooms := rooms) (size := size)
        rw [← HER.out] at h5 h6
        rcases h5 with h5 | h5
        · exact .inl h5
        · refine .inr ⟨h5, ?_⟩
          rw [HNL.out, HL.out, h6 (by omega)]; rfl
      have hval := Sp.plan_valid (rooms := rooms) (size := size) h1
      rw [← HER.out, ← HL.out] at hval
      have HV := Lib.hid hval
      clear hval HER hlt
      obtain ⟨wo, rfl⟩ : ∃ x, x = wr := ⟨wr, rfl⟩
      go_upto_region 11 with fail
      go_cut [81] from 16 (fun v wx => v = .bool false ∧ Hid (wx = w4))
      case first =>
        rcases hcase4 with ⟨rfl, q⟩ | ⟨rfl, q, rfl⟩
        all_goals
          go_wp2
          go_meet
          exact ⟨rfl, Lib.hid rfl⟩
      case rest =>
      obtain ⟨rfl, HWC⟩ := hcut
      obtain rfl := HWC.out
      clear hcase4 HWC
      rcases hcase with rfl | ⟨rfl, rfl⟩
      case inr => 
        go_wp2
        go_ret
        exact ⟨rfl, HB4.out⟩
      case inl =>
          go_wp2
          go_loopw [14, 12, 13] (fun vi va vn wr => ∃ (i : Nat) (at_ : Int) (next : Nat), i ≤ N ∧ 0 ≤ at_ ∧ at_ ≤ size ∧ next ≤ n ∧ vi = .int .i64 (i : Int) ∧ va = .int .i64 at_ ∧ vn = .int .i64 (next : Int) ∧ Hid (Sp.Valid rooms size next at_ (l.drop i)) ∧ Hid (Below wc.heap.size wc wr)) (fun vi _ _ _ => N - (intOf vi).toNat)
          case atStart => exact ⟨0, 0, 0, by omega, by omega, by omega, by omega, rfl, rfl, rfl, Lib.hid (HV.out trivial), Lib.hid (Below.refl _ _)⟩
          case round =>
            obtain ⟨i, at_, next, hi, h3, h4, h5, rfl, rfl, rfl, HVI, HBI⟩ := hrel
            by_cases hlt : i < N
            · have hltL : i < l.length := by rw [← HNL.out]; exact hlt
              obtain ⟨b, off, rfl, -, hc⟩ := (HP4.out.old HBI.out).at_ hltL
              obtain ⟨v1, v2, v3, ⟨v4, v5, v6⟩, v7, v8, v9⟩ := Sp.valid_at HVI.out hltL
              obtain ⟨b', off', rfl, -, hd⟩ := (HR4.out.old HBI.out).at_ v4
              obtain ⟨r, hrr⟩ : ∃ r, r = rooms[l[i].tape] := ⟨_, rfl⟩
              rw [← hrr] at hd v5 v6
              have v4' : l[i].tape < n := by rw [HN.out]; exact v4
              have v6' : i + 1 < N → l[i].len = Sp.fits r := fun h => v6 (by rw [← HNL.out]; exact h)
              obtain ⟨⟨tp, fr, ln⟩, hp⟩ : ∃ p, p = l[i] := ⟨_, rfl⟩
              rw [← hp] at hc v1 v2 v3 v5 v6' v7 v8 v9 hd v4'
              have c0 : wr.cell? ⟨b, off + i * 3, none⟩ = some (.int .i64 (tp : Int)) := hc 0 _ rfl
              have c1 : wr.cell? ⟨b, off + i * 3 + 1, none⟩ = some (.int .i64 fr) := hc 1 _ rfl
              have c2 : wr.cell? ⟨b, off + i * 3 + 2, none⟩ = some (.int .i64 ln) := hc 2 _ rfl
              replace hd : wr.cell? ⟨b', off' + tp, none⟩ = some (.int .i64 r) := hd
              replace v1 : next ≤ tp := v1
              replace v2 : fr = at_ := v2
              replace v3 : 1 ≤ ln := v3
              replace v4' : tp < n := v4'
              replace v5 : ln ≤ Sp.fits r := v5
              replace v6' : i + 1 < N → ln = Sp.fits r := v6'
              replace v9 : at_ + ln ≤ size := v9
              have HV7 : Hid (∀ k (h : k < rooms.length), next ≤ k → k < tp → Sp.fits rooms[k] = 0) := Lib.hid v7
              have HV8 : Hid (Sp.Valid rooms size (tp + 1) (at_ + ln) (l.drop (i + 1))) := Lib.hid v8
              subst v2
              clear v7 v8 hc hp hrr v6 v4 hltL
              have hf : ∀ y, Calls Try.prog 9 #[.int .i64 r] y fun e w' => e = .returned (.int .i64 (Sp.fits r)) ∧ w' = y := fun y => (fits_any r y).mono fun e w' h => ⟨h.1, h.2.symm⟩
              have hlo := Sp.fits_lo r
              have hhi := Sp.fits_hi r
              obtain ⟨F, hF⟩ : ∃ F, F = Sp.fits r := ⟨_, rfl⟩
              rw [← hF] at hf hlo hhi v5 v6'
              clear hF
              have q1 : decide ((tp : Int) < (next : Int)) = false := decide_eq_false (by omega)
              have q1' : decide (tp < next) = false := decide_eq_false (by omega)
              have q2 : decide ((n : Int) ≤ (tp : Int)) = false := decide_eq_false (by omega)
              have q2' : decide (n ≤ tp) = false := decide_eq_false (by omega)
              have q3 : (fr != fr) = false := by simp
              have q4 : decide (ln < 1) = false := decide_eq_false (by omega)
              have q5 : decide (F < ln) = false := decide_eq_false (by omega)
              have hcase : (decide ((i : Int) < (N : Int) - 1) = true ∧ (ln != F) = false) ∨ decide ((i : Int) < (N : Int) - 1) = false := by
                rw [decide_eq_true_eq, decide_eq_false_iff_not, bne_eq_false_iff_eq]
                by_cases h : (i : Int) < (N : Int) - 1
                · exact .inl ⟨h, v6' (by omega)⟩
                · exact .inr h
              clear v5 v6'
              obtain ⟨wi, rfl⟩ : ∃ x, x = wr := ⟨wr, rfl⟩
              go_wp2
              obtain ⟨wd, rfl⟩ : ∃ x, x = wc := ⟨wc, rfl⟩
              go_cut [168] from 88 to 197 (fun v wx => v = .bool false ∧ Hid (∃ nq, wx = wi.drewN nq))
              case first =>
                rcases hcase with ⟨q6, q7⟩ | q6
                all_goals
                  go_quiet (first | (go_at_call_of 9 (Value.int .i64 r); exact Calls.quiet_of_same (hf _)))
                  go_wp2
                  go_meet
                  exact ⟨rfl, Lib.hid ⟨_, rfl⟩⟩
              case rest =>
                obtain ⟨rfl, HQ⟩ := hcut
                obtain ⟨nq, rfl⟩ := HQ.out
                have HBQ : Hid (Below wd.heap.size wd (wi.drewN nq)) := Lib.hid ⟨HBI.out.os, HBI.out.tape, HBI.out.output, HBI.out.size, HBI.out.block⟩
                have c0' : (wi.drewN nq).cell? ⟨b, off + i * 3, none⟩ = some (.int .i64 (tp : Int)) := c0
                have c2' : (wi.drewN nq).cell? ⟨b, off + i * 3 + 2, none⟩ = some (.int .i64 ln) := c2
                obtain ⟨wq, hwq⟩ : ∃ x, x = wi.drewN nq := ⟨_, rfl⟩
                rw [← hwq] at HBQ c0' c2' ⊢
                clear hwq HBI c0 c1 c2 hd hf q1 q1' q2 q2' q3 q4 q5 hcase
                go_wp2
                go_loopw [15] (fun vk wr => ∃ (k : Nat), next ≤ k ∧ k ≤ tp ∧ vk = .int .i64 (k : Int) ∧ Hid (wr = wq)) (fun vk _ => tp - (intOf vk).toNat)
                case atStart => exact ⟨next, Nat.le_refl _, v1, rfl, Lib.hid rfl⟩
                case round =>
                  obtain ⟨k, hk1, hk2, rfl, HW⟩ := hrel
                  obtain rfl := HW.out
                  by_cases hlk : k < tp
                  · have hkR : k < rooms.length := by rw [← HN.out]; omega
                    obtain ⟨b2, off2, e2, -, hk⟩ := (HR4.out.old HBQ.out).at_ hkR
                    obtain ⟨rfl, rfl⟩ : b' = b2 ∧ off' = off2 := by simpa using e2
                    have hz := HV7.out k hkR hk1 hlk
                    obtain ⟨rk, hrk⟩ : ∃ r, r = rooms[k] := ⟨_, rfl⟩
                    rw [← hrk] at hk hz
                    have hfk := fits_any rk
                    rw [hz] at hfk
                    clear hrk hkR e2 hz
                    go_wp2_with (first | (go_at_call 9; refine (hfk _).mono ?_; rintro e w' ⟨rfl, hw'⟩; subst hw'))
                    go_roundw
                    case rel => exact ⟨k + 1, by omega, by omega, by go_num, HW⟩
                    case measure => simp [intOf]; omega
                  · have hke : k = tp := by omega
                    go_wp2
                    go_roundw
                    case rel => exact ⟨i + 1, fr + ln, tp + 1, by omega, by omega, by omega, by omega, by go_num, rfl, by go_num, HV8, HBQ⟩
                    case measure => simp [intOf]; omega
            · have hV := HVI.out
              rw [List.drop_of_length_le (by rw [← HNL.out]; omega)] at hV
              have hat : at_ = size := hV
              have hb : (at_ == size) = true := by rw [beq_iff_eq]; exact hat
              clear hat hV
              go_wp2
              go_ret
              exact ⟨rfl, HB4.out.trans (HBI.out.mono HB4.out.size)⟩
theorem spanWhole_any (z : Nat → Int) (size : Int) (A : Option Addr) (n C : Nat) (w : World) (hr : RdI w A n z) :
    Calls Try.prog 3 #[.slice A n C, .int .i64 size] w (AnsT12 true w) := by
  by_cases h : 60 < n ∨ size < 1 ∨ 4000 < size
  · exact spanWhole_big size A n C w h
  · refine spanWhole_main ((List.range n).map z) size A n C (fun _ => True) w (by simp) (by omega) (by omega) (by omega) fun hn => ?_
    rw [List.length_map, List.length_range] at hn
    obtain ⟨b, off, e, hc⟩ := hr hn
    refine ⟨b, off, e, trivial, fun j hj => ?_⟩
    rw [List.length_map, List.length_range] at hj
    rw [hc j hj]; simp
end Go.Proofs.Ytgdccmkpjcggkaa
