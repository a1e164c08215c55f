/- What Decode of package erasure answers, whatever it is given. -/
import Derived.Test.YtelkeoopfejgnaaErDec
import Derived.Test.YtelkeoopfejgnaaErApplied
import Derived.Deep.RegionHeld3
import Derived.Deep.DeepFit
namespace Go.Proofs.Ytelkeoopfejgnaa
open Go.RowKit Mx

set_option maxHeartbeats 4000000 in
theorem decoded_any (A : Option Addr) (n C m : Nat) (Y : Mat) (G : Nat → Prop) (A' : Option Addr) (C' : Nat) (at_ : Nat → Nat) (p : Nat) (w : World) (hn0 : 0 < n) (hnp : n + p ≤ 255) (hm0 : 0 < m) (hm : m ≤ 1000000)
    (hup : ∀ s t, s < t → t < n → at_ s < at_ t) (hlt : ∀ t, t < n → at_ t < n + p) (h : RdM w A n (fun _ => m) Y G) (h' : RdI w A' n (fun j => (at_ j : Int))) :
    Calls Try.prog 21 #[.slice A n C, .slice A' n C', .int .i64 (p : Int)] w (ResM 0 n m (dec n p at_ Y) w) := by
  obtain ⟨R, V, hg⟩ := encM_some hnp hup hlt
  have HG := Lib.hid hg
  obtain ⟨D, hD⟩ : ∃ D, D = dec n p at_ Y := ⟨_, rfl⟩
  have HD1 : Hid (∀ t, t < n → at_ t < n → ∀ c, c < m → Y t c = D (at_ t) c) := Lib.hid fun t ht htn c _ => by rw [hD]; exact dec_same hnp hup hlt Y ht htn c
  have HD2 : Hid (∀ x c, mv n V (fun t => Y t c) x = D x c) := Lib.hid fun x c => by
    rw [hD]; unfold dec; rw [invOf_some hg]
  rw [← hD]
  have HUP := Lib.hid hup
  have HLT := Lib.hid hlt
  have H := Lib.hid h
  have H' := Lib.hid h'
  clear h h' hD hup hlt hg
  go_enter Try.func21, Try.ntmps21
  go_wp2_with fail
  refine (asTheyAre_any A n C m Y G A' C' at_ D w hn0 (by omega) hm0 hm (fun t ht => by have := HLT.out t ht; omega) H.out H'.out HD1.out).mono ?_
  rintro e w1 ⟨b, Ax, Lx, Cx, rfl, hb, hT, hL1, hL2, hB1⟩
  have HT1 := Lib.hid hT
  have HL1 := Lib.hid hL1
  have HL2 := Lib.hid hL2
  have HB1 := Lib.hid hB1
  clear hT hL1 hL2 hB1
  go_wp2_with fail
  refine (places_any _ n n Lx D _ false _ (by omega) HT1.out.rdM).mono ?_
  obtain ⟨P, hP⟩ : ∃ P : Nat → Bool, P = fun x => decide (0 < Lx x) == false := ⟨_, rfl⟩
  rw [← hP]
  have HP := Lib.hid hP
  clear hP
  rintro e w2 ⟨A2, C2, rfl, hC2, hA2, hr2, hB2⟩
  have hkn := plsN_le P n
  have HIN : Hid (∀ j, j < plsN P n → plsAt P n j < n ∧ P (plsAt P n j) = true) := Lib.hid fun j hj => plsAt_in hj
  have HALL : Hid (∀ x, x < n → P x = true → ∃ j, j < plsN P n ∧ plsAt P n j = x) := Lib.hid fun x hx h => pls_all hx h
  have HZ : Hid (plsN P n = 0 → ∀ x, x < n → P x = false) := Lib.hid plsN_zero
  obtain ⟨k, hk⟩ : ∃ k, k = plsN P n := ⟨_, rfl⟩
  obtain ⟨mis, hmis⟩ : ∃ mis, mis = plsAt P n := ⟨_, rfl⟩
  rw [← hk] at hkn hr2 hC2 ⊢
  rw [← hk, ← hmis] at HIN HALL
  rw [← hmis] at hr2
  rw [← hk] at HZ
  clear hk hmis
  have HFL : Hid (∀ x, x < n → P x = false → Lx x = m) := Lib.hid fun x hx hPx => by
    rcases HL2.out x hx with h | h
    · exact h
    · rw [HP.out] at hPx; simp [h] at hPx
  have HFZ : Hid (∀ x, P x = true → Lx x = 0) := Lib.hid fun x hPx => by
    rw [HP.out] at hPx; simpa using hPx
  have HT2 := Lib.hid (HT1.out.old hB2)
  have HX2 := Lib.hid (HB1.out.trans (hB2.mono HB1.out.size))
  have H2 := Lib.hid ((H.out.old HB1.out).old hB2)
  have H2' := Lib.hid ((H'.out.old HB1.out).old hB2)
  have HI2 := Lib.hid hr2
  have HA2 : Hid (∀ a, A2 = some a → a.block ≠ b) := Lib.hid fun a ha => by
    have h1 := hA2 a ha
    have h2 := HT1.out.top.lt
    omega
  clear hr2 hB2 HT1 hA2 H H' hC2
  by_cases hk0 : k = 0
  · have HF : Hid (TopR w2 b n Ax (fun _ => m) Cx D) := Lib.hid (HT2.out.congr (fun x hx => HFL.out x hx (HZ.out hk0 x hx)) (fun _ _ _ _ => rfl))
    clear HT2
    subst hk0
    go_wp2
    go_ret2
    exact ⟨_, _, rfl, HF.out.rdM, HX2.out⟩
  · have hp0 : 0 < p := by
      rcases Nat.eq_zero_or_pos p with h0 | h0
      · exfalso
        obtain ⟨h1, h2⟩ := HIN.out 0 (by omega)
        have h3 := up_none HUP.out (fun t ht => by have := HLT.out t ht; omega) h1
        have h4 := HL1.out (mis 0) h1 (by rw [h3]; exact h1)
        rw [h3, HFZ.out _ h2] at h4
        omega
      · exact h0
    have q1 : ((k : Int) == 0) = false := beq_eq_false_iff_ne.2 (by omega)
    go_wp2_with fail
    refine (wayBack_any A' n C' at_ p _ hn0 hp0 hnp H2'.out HLT.out).mono ?_
    intro e w3 hres
    unfold InvRes at hres
    rw [HG.out] at hres
    obtain ⟨A3, C3, rfl, hr3, hB3⟩ := hres
    have HR3 := Lib.hid hr3
    have HX3 := Lib.hid (HX2.out.trans (hB3.mono HX2.out.size))
    have HT3 := Lib.hid (HT2.out.old hB3)
    have H3 := Lib.hid (H2.out.old hB3)
    have HI3 := Lib.hid (HI2.out.old hB3)
    clear hr3 hB3 HT2 H2 H2' HI2 HX2
    go_wp2_with fail
    refine (picked_any A3 n C3 (fun _ => n) V _ A2 k C2 mis _ (by omega) HR3.out HI3.out (fun j hj => (HIN.out j hj).1)).mono ?_
    rintro e w4 ⟨b4, rfl, hb4, ⟨A4, C4, hT4⟩, hB4⟩
    have HR4 := Lib.hid hT4.rdM
    have HX4 := Lib.hid (HX3.out.trans (hB4.mono HX3.out.size))
    have HT4 := Lib.hid (HT3.out.old hB4)
    have H4 := Lib.hid (H3.out.old hB4)
    have HI4 := Lib.hid (HI3.out.old hB4)
    clear hT4 hB4 HT3 H3 HI3 HX3 HR3 hb4
    go_wp2_with fail
    refine (applied_own _ k k (fun j => V (mis j)) _ A n C m Y _ _ (by omega) (by omega) hn0 (by omega) hm HR4.out H4.out).mono ?_
    rintro e w5 ⟨b5, G5, C5, rfl, hb5, hO5, hB5⟩
    have HO5 := Lib.hid (hO5.congr (M' := fun j c => D (mis j) c) fun j _ c _ => HD2.out (mis j) c)
    have hbw : b < w4.heap.size := HT4.out.top.lt
    have HT5 := Lib.hid (HT4.out.old hB5)
    have HX5 := Lib.hid (HX4.out.trans (hB5.mono HX4.out.size))
    have HI5 := Lib.hid (HI4.out.old hB5)
    have hne5 : b ≠ b5 := by omega
    clear hO5 hB5 HT4 HX4 H4 HI4 HR4
    go_wp2
    go_loopw [46] (fun vi wr => ∃ i : Nat, i ≤ k ∧ vi = .int .i64 (i : Int) ∧ Hid (∃ A L C, TopR wr b n A L C D ∧ (∀ j, j < i → L (mis j) = m) ∧ ∀ x, x < n → P x = false → L x = m) ∧ Hid (Kp (· = b) w5 wr) ∧ Hid (Below w.heap.size w wr)) (fun vi _ => k - (intOf vi).toNat)
    case atStart => exact ⟨0, by omega, rfl, Lib.hid ⟨Ax, Lx, Cx, HT5.out, fun j hj => absurd hj (by omega), HFL.out⟩, Lib.hid (Kp.refl _ _), HX5⟩
    case round =>
      obtain ⟨i, hi, rfl, HO, HK, HB⟩ := hrel
      obtain ⟨Ay, Ly, Cy, hT, hL1, hL2⟩ := HO.out
      have HT6 := Lib.hid hT
      have HL3 := Lib.hid hL1
      have HL4 := Lib.hid hL2
      clear hT hL1 hL2 HO HT5
      by_cases hlt : i < k
      · obtain ⟨b1, off1, rfl, d1⟩ := (HI5.out.kp HK.out (HA2.out)).at hlt
        have hq := (HIN.out i hlt).1
        have hOw := HO5.out.kp HK.out (fun e => hne5 e.symm) (fun j hj e => by have := HO5.out.lo j hj; omega)
        have d2 := hOw.top.cell hlt
        rw [if_pos hlt] at d2
        have hrow := hOw.rows i hlt
        have hct := HT6.out.top.cell hq
        have hft := HT6.out.top.frozen (mis i)
        have HP6 := Lib.hid (HT6.out.lay (mis i) (a := some ⟨G5 i, 0, none⟩) (l := m) (c := C5 i) (hrow.rd (· ≠ b) (by have := HO5.out.lo i hlt; omega)))
        have HK6 := Lib.hid (HK.out.setCell (p := ⟨b, mis i, none⟩) rfl (.slice (some ⟨G5 i, 0, none⟩) m (C5 i)))
        have HB6 := Lib.hid (HB.out.setCell (p := ⟨b, mis i, none⟩) hb (.slice (some ⟨G5 i, 0, none⟩) m (C5 i)))
        obtain ⟨q, hqe⟩ : ∃ q, q = mis i := ⟨_, rfl⟩
        rw [← hqe] at d1 hq hct hft HP6 HK6 HB6
        have HQ := Lib.hid hqe
        clear hOw hrow hqe
        go_wp2
        go_roundw
        case rel =>
          refine ⟨i + 1, by omega, by go_num, Lib.hid ⟨_, _, _, HP6.out, fun j hj => ?_, fun x hx hPx => ?_⟩, HK6, HB6⟩
          · by_cases e : j = i
            · simp only [e, ← HQ.out, if_true]
            · by_cases e2 : mis j = q
              · simp only [e2, if_true]
              · simp only [e2, if_false]; exact HL3.out j (by omega)
          · by_cases e2 : x = q
            · simp only [e2, if_true]
            · simp only [e2, if_false]; exact HL4.out x hx hPx
        case measure => simp [intOf]; omega
      · have HF : Hid (TopR wr b n Ay (fun _ => m) Cy D) := Lib.hid (HT6.out.congr (fun x hx => by
          cases hPx : P x with
          | false => exact HL4.out x hx hPx
          | true =>
            obtain ⟨j, hj, e⟩ := HALL.out x hx hPx
            rw [← e]; exact HL3.out j (by omega)) (fun _ _ _ _ => rfl))
        clear HT6
        go_wp2
        go_ret2
        exact ⟨_, _, rfl, HF.out.rdM, HB.out⟩
theorem there_eq (L : Nat → Nat) : (fun x => decide (0 < L x) == true) = there L := by
  funext x; unfold there; cases decide (0 < L x) <;> rfl
theorem DecAny.bad {n : Nat} {L : Nat → Nat} {H : Mat} {d : Int} (hn : ¬ DecOk n L d) (w : World) {w' : World} (h : Below w.heap.size w w') : DecAny n L H d w (.returned (.tuple #[.slice none 0 0, .int .i64 1])) w' := by
  unfold DecAny; rw [if_neg hn]; exact ResM.bad w h
set_option maxHeartbeats 4000000 in
theorem decode_in (A : Option Addr) (n C : Nat) (L : Nat → Nat) (H0 : Mat) (G : Nat → Prop) (d : Nat) (w : World) (hd0 : 0 < d) (hdn : d ≤ n) (hn : n ≤ 255) (hL : ∀ i, i < n → L i ≤ 1000000) (h : RdM w A n L H0 G) :
    Calls Try.prog 10 #[.slice A n C, .int .i64 (d : Int)] w (DecAny n L H0 (d : Int) w) := by
  have H := Lib.hid h
  have HL := Lib.hid hL
  clear h hL
  have q1 : decide ((d : Int) < 1) = false := decide_eq_false (by omega)
  have q2 : decide ((n : Int) < (d : Int)) = false := decide_eq_false (by omega)
  have q2' : decide (n < d) = false := decide_eq_false (by omega)
  have q3 : decide ((255 : Int) < (n : Int)) = false := decide_eq_false (by omega)
  go_enter Try.func10, Try.ntmps10
  go_wp2_with fail
  refine (places_any A n C L H0 G true _ hn H.out).mono ?_
  rw [there_eq]
  rintro e w1 ⟨A1, C1, rfl, hC1, _, hr1, hB1⟩
  have hkn := plsN_le (there L) n
  have HIN : Hid (∀ j, j < plsN (there L) n → plsAt (there L) n j < n ∧ there L (plsAt (there L) n j) = true) := Lib.hid fun j hj => plsAt_in hj
  have HUP : Hid (∀ s t, s < t → t < plsN (there L) n → plsAt (there L) n s < plsAt (there L) n t) := Lib.hid fun s t h h' => plsAt_up h h'
  have HW : Hid (∀ e w', DecAny n L H0 (d : Int) w e w' ↔ DecAny n L H0 (d : Int) w e w') := Lib.hid fun _ _ => Iff.rfl
  have HDA : Hid (∀ e w', (if 0 < plsN (there L) n ∧ alikeB (plsN (there L) n) (fun j => L (plsAt (there L) n j)) = true then if plsN (there L) n < d then ResM 10 0 0 one w e w' else ResM 0 d (L (plsAt (there L) n 0)) (dec d (n - d) (plsAt (there L) n) (fun t => H0 (plsAt (there L) n t))) w e w' else ResM 1 0 0 one w e w') → DecAny n L H0 (d : Int) w e w') := Lib.hid fun e w' hh => by
    unfold DecAny
    by_cases hc : 0 < plsN (there L) n ∧ alikeB (plsN (there L) n) (fun j => L (plsAt (there L) n j)) = true
    · rw [if_pos hc] at hh
      rw [if_pos ⟨by omega, by omega, hn, hc.1, alikeB_true.1 hc.2⟩]
      exact hh
    · rw [if_neg hc] at hh
      rw [if_neg (fun hx => hc ⟨hx.2.2.2.1, alikeB_true.2 hx.2.2.2.2⟩)]
      exact hh
  obtain ⟨k, hk⟩ : ∃ k, k = plsN (there L) n := ⟨_, rfl⟩
  obtain ⟨at_, hat⟩ : ∃ f, f = plsAt (there L) n := ⟨_, rfl⟩
  rw [← hk] at hkn hr1 hC1 ⊢
  rw [← hk, ← hat] at HIN HUP HDA
  rw [← hat] at hr1
  clear hk hat HW
  have HI1 := Lib.hid hr1
  have HB1 := Lib.hid hB1
  have H1 := Lib.hid (H.out.old hB1)
  clear hr1 hB1 H
  go_wp2_with fail
  refine (picked_any A n C L H0 G A1 k C1 at_ _ (by omega) H1.out HI1.out (fun j hj => (HIN.out j hj).1)).mono ?_
  rintro e w2 ⟨b2, rfl, hb2, ⟨A2, C2, hT2⟩, hB2⟩
  have HR2 := Lib.hid hT2.rdM
  have HB2 := Lib.hid (HB1.out.trans (hB2.mono HB1.out.size))
  have HI2 := Lib.hid (HI1.out.old hB2)
  clear hT2 hB2 hb2 HB1 H1 HI1
  by_cases hk0 : k = 0
  · have HE : Hid (¬ (0 < k ∧ alikeB k (fun j => L (at_ j)) = true)) := Lib.hid (by omega)
    subst hk0
    go_wp2
    go_ret2
    exact HDA.out _ _ (by rw [if_neg HE.out]; exact ResM.bad w HB2.out)
  · have q4 : ((k : Int) == 0) = false := beq_eq_false_iff_ne.2 (by omega)
    cases ha : alikeB k (fun j => L (at_ j)) with
    | false =>
      have HE : Hid (¬ (0 < k ∧ alikeB k (fun j => L (at_ j)) = true)) := Lib.hid (fun hh => by rw [hh.2] at ha; cases ha)
      have HA := Lib.hid ha
      clear ha
      go_wp2_with fail
      refine (alike_is _ k k (fun j => L (at_ j)) (fun j => H0 (at_ j)) _ _ false (by unfold maxLen; omega) HR2.out HA.out).mono ?_
      rintro e w' ⟨rfl, rfl⟩
      go_wp2
      go_ret2
      exact HDA.out _ _ (by rw [if_neg HE.out]; exact ResM.bad w HB2.out)
    | true =>
      have HE : Hid (0 < k ∧ alikeB k (fun j => L (at_ j)) = true) := Lib.hid ⟨by omega, ha⟩
      have HA := Lib.hid ha
      clear ha
      by_cases hkd : k < d
      · go_wp2_with fail
        refine (alike_is _ k k (fun j => L (at_ j)) (fun j => H0 (at_ j)) _ _ true (by unfold maxLen; omega) HR2.out HA.out).mono ?_
        rintro e w' ⟨rfl, rfl⟩
        go_wp2
        go_ret2
        refine HDA.out _ _ ?_
        rw [if_pos HE.out, if_pos hkd]; exact ⟨none, 0, rfl, RdM.empty _ _ _ _ _, HB2.out⟩
      · have q5 : decide (k < d) = false := decide_eq_false hkd
        have q6 : decide ((k : Int) < (d : Int)) = false := decide_eq_false (by omega)
        have hal := alikeB_true.1 HA.out
        obtain ⟨m, hm⟩ : ∃ m, m = L (at_ 0) := ⟨_, rfl⟩
        have hin0 := HIN.out 0 (by omega)
        have hm0 : 0 < m := by rw [hm]; exact of_decide_eq_true hin0.2
        have hm1 : m ≤ 1000000 := by rw [hm]; exact HL.out _ hin0.1
        have HR3 := Lib.hid ((HR2.out.first (k := d) (by omega)).congr (L' := fun _ => m) (M' := fun j => H0 (at_ j)) (fun j hj => by rw [hm]; exact hal j (by omega)) (fun _ _ _ _ => rfl))
        have HI3 := Lib.hid (HI2.out.first (k := d) (by omega))
        have HMM := Lib.hid hm
        clear hal hm hin0
        go_wp2_with fail
        refine (alike_is _ k k (fun j => L (at_ j)) (fun j => H0 (at_ j)) _ _ true (by unfold maxLen; omega) HR2.out HA.out).mono ?_
        rintro e w' ⟨rfl, rfl⟩
        have hsub : (n : Int) - (d : Int) = ((n - d : Nat) : Int) := by omega
        have hwr : IntKind.i64.wrap ((n - d : Nat) : Int) = ((n - d : Nat) : Int) := IntWalk.i64_in _ (by omega)
        have hdk : d ≤ k := by omega
        have hdc : d ≤ C1 := by omega
        obtain ⟨b1, off1, rfl, _⟩ := HI2.out.at (j := 0) (by omega)
        go_wp2
        go_region_held3 (fun _ => True)
          (exact trivial)
          (first
            | (go_at_call 21; go_fit (decoded_any (some ⟨b2, 0, none⟩) d k m (fun j => H0 (at_ j)) _ _ C1 at_ (n - d) w2.drew hd0 (by omega) hm0 hm1 (fun s t hs ht => HUP.out s t hs (by omega)) (fun t ht => by have := (HIN.out t (by omega)).1; omega) HR3.out HI3.out); rintro e w4 ⟨A4, C4, rfl, hr4, hB4⟩))
        have HR4 := Lib.hid hr4
        have HB4 : Hid (Below w.heap.size w w4) := Lib.hid (HB2.out.drew.trans (hB4.mono HB2.out.size))
        clear hr4 hB4
        go_wp2
        go_ret2
        refine HDA.out _ _ ?_
        rw [if_pos HE.out, if_neg hkd, ← HMM.out]
        exact ⟨A4, C4, rfl, HR4.out, HB4.out⟩
set_option maxHeartbeats 2000000 in
theorem decode_any (A : Option Addr) (n C : Nat) (L : Nat → Nat) (H0 : Mat) (G : Nat → Prop) (d : Int) (w : World) (hn : n ≤ maxLen) (hd : -9223372036854775808 ≤ d) (hd' : d ≤ 9223372036854775807) (hL : ∀ i, i < n → L i ≤ 1000000) (h : RdM w A n L H0 G) :
    Calls Try.prog 10 #[.slice A n C, .int .i64 d] w (DecAny n L H0 d w) := by
  unfold maxLen at hn
  by_cases h1 : d < 1
  · have HE : Hid (¬ DecOk n L d) := Lib.hid fun hh => by have := hh.1; omega
    clear h hL
    go_enter Try.func10, Try.ntmps10
    go_wp2
    go_ret2
    exact DecAny.bad HE.out w (Below.refl _ _)
  · by_cases h2 : (n : Int) < d
    · have HE : Hid (¬ DecOk n L d) := Lib.hid fun hh => by have := hh.2.1; omega
      clear h hL
      go_enter Try.func10, Try.ntmps10
      go_wp2
      go_ret2
      exact DecAny.bad HE.out w (Below.refl _ _)
    · by_cases h3 : 255 < n
      · have HE : Hid (¬ DecOk n L d) := Lib.hid fun hh => by have := hh.2.2.1; omega
        clear h hL
        go_enter Try.func10, Try.ntmps10
        go_wp2
        go_ret2
        exact DecAny.bad HE.out w (Below.refl _ _)
      · obtain ⟨k, rfl⟩ : ∃ k : Nat, d = (k : Int) := ⟨d.toNat, by omega⟩
        exact decode_in A n C L H0 G k w (by omega) (by omega) (by omega) hL h
end Go.Proofs.Ytelkeoopfejgnaa
