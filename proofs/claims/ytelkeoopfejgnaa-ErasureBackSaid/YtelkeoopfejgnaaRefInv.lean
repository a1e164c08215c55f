/- What the document's own Inverse answers, whatever it is given. -/
import Derived.Test.YtelkeoopfejgnaaRefFe
import Derived.Test.YtelkeoopfejgnaaRefRight
namespace Go.Proofs.Ytelkeoopfejgnaa
open Go.RowKit Mx

set_option maxRecDepth 100000 in
set_option maxHeartbeats 8000000 in
theorem refInverse_main (A : Option Addr) (n C : Nat) (M : Mat) (G0 : Nat → Prop) (w : World) (hn0 : 0 < n) (hn : n ≤ 255) (h : RdM w A n (fun _ => n) M G0) :
    Calls Try.prog 22 #[.slice A n C] w (InvRes n M w) := by
  have hR : rightB n (fun _ => n) = true := rightB_true.2 ⟨hn0, hn, hn0, hn, fun _ _ => rfl⟩
  have H0 := Lib.hid h
  have HR := Lib.hid hR
  obtain ⟨m, hm⟩ : ∃ m, n + n = m := ⟨_, rfl⟩
  have HM := Lib.hid hm
  have hm1 : m ≤ 2 * n := by omega
  have hm2 : 2 * n ≤ m := by omega
  clear h hR hm
  go_enter Try.func22, Try.ntmps22
  go_wp2_with fail
  refine (refRight_is _ n C _ M _ _ true (by unfold maxLen; omega) H0.out HR.out).mono ?_
  rintro e w1 ⟨rfl, hB0⟩
  obtain ⟨b0, off0, A0, C0, rfl, _, hc0, _⟩ := (H0.out.old hB0).row hn0
  rw [Nat.add_zero] at hc0
  have H := Lib.hid (H0.out.old hB0).in_
  have HB0 := Lib.hid hB0
  clear hB0 H0
  go_wp2
  clear hc0 HR
  go_loopw [6, 5] (fun vi va wr => ∃ i : Nat, i ≤ n ∧ vi = .int .i64 (i : Int) ∧ Hid (∃ G C, OwnA wr w1.heap.size va i m G C (aug n M one)) ∧ Hid (Below w1.heap.size w1 wr)) (fun vi _ _ => n - (intOf vi).toNat)
  case atStart => exact ⟨0, by omega, rfl, Lib.hid ⟨fun _ => 0, fun _ => 0, OwnA.start _ _ _ _ _ _⟩, Lib.hid (Below.refl _ _)⟩
  case round =>
    obtain ⟨i, hi, rfl, HO, HB⟩ := hrel
    obtain ⟨G1, Cp1, hO⟩ := HO.out
    have HO' := Lib.hid hO
    clear hO HO
    obtain ⟨wo, rfl⟩ : ∃ x, x = wr := ⟨wr, rfl⟩
    by_cases hlt : i < n
    · obtain ⟨b2, off2, Ai, Ci, e, _, d0, hri⟩ := (H.out.below HB.out).row hlt
      obtain ⟨rfl, rfl⟩ : b0 = b2 ∧ off0 = off2 := by simpa using e
      obtain ⟨b3, off3, rfl, _, hcell⟩ := hri hn0
      have HC := Lib.hid hcell
      clear e hri hcell
      obtain ⟨i0, hi0, hz0, hz1, hz2⟩ := info_parts infoByte
      have hnil := World.ownsRow_nil wo wo.heap.size 5 1
      go_wp2_with (at_builtin; refine wpList_append_own _ rfl _ _ 34 rfl wo.heap.size 5 i0 (.int .u8 0) 1 1 Try.underlying34 hi0 hz0 hz1 hz2 rfl (by decide) _ _ _ rfl hnil ⟨b3, off3, none⟩ n Ci (cellsOf n (M i)) rfl (by rw [cellsOf_len, Nat.mul_one]) (Rd.cells HC.out) cellsOf_one (by unfold maxLen; omega) (by omega) (Nat.le_refl _) ?_)
      intro v1 wa hown1 hgrow1 _
      have HB1 := Lib.hid ((Below.refl wo.heap.size wo).grown hgrow1 (Nat.le_refl _) (fun x hx => by simp [Value.ownBlock] at hx))
      have HW1 := Lib.hid hown1
      have hlow1 : wo.heap.size ≤ wa.heap.size := HB1.out.size
      clear hown1 hgrow1 hnil HC
      have hown2 := HW1.out
      go_wp2_with (at_builtin; refine wpList_append_zeros _ rfl _ _ 34 3 rfl wo.heap.size 5 i0 (.int .u8 0) .i64 .i64 Try.underlying34 Try.underlying3 hi0 hz0 hz1 rfl rfl _ n (cellsOf n (M i)) rfl hown2 hn0 n rfl hn0 (by unfold maxLen; omega) (by rw [hz2]; omega) hlow1 ?_)
      intro v2 wb hown3 hgrow2
      have hB2 := HB1.out.grown hgrow2 hlow1 (fun x hx => (HW1.out.lt x hx).1)
      rw [cellsOf_zeros n m HM.out, HM.out] at hown3
      obtain ⟨g, c, rfl, hg, hc, hr⟩ := RowAt.of_owns hown3 (by omega)
      have HB2 := Lib.hid hB2
      have HRW := Lib.hid hr
      clear hown3 hgrow2 hB2 hown2 HW1 hr HB1
      have d1 := HRW.out.cell (show n + i < m by omega)
      have f1 := HRW.out.frozen (n + i)
      have s1 : ((n : Int) + (i : Int)).toNat = n + i := by omega
      have s2 : (n : Int) + (i : Int) < (m : Int) := by omega
      have s3 : (0 : Int) ≤ (n : Int) + (i : Int) := by omega
      have HRW2 : Hid (RowAt (wb.setCell ⟨g, n + i, none⟩ (.int .u8 1)) g m (aug n M one i)) := Lib.hid ((HRW.out.set (n + i) 1).congr (aug_row M))
      have HB3 := Lib.hid (HB2.out.setCell (p := ⟨g, n + i, none⟩) hg (.int .u8 1))
      have HA := Lib.hid (HO'.out.old HB3.out)
      have HX := Lib.hid (HB.out.trans (HB3.out.mono HB.out.size))
      obtain ⟨i1, hj0, hy0, hy1, hy2⟩ := info_parts infoRow
      have hown := HA.out.top
      have hlow : w1.heap.size ≤ wb.heap.size := by have := HX.out.size; simpa using this
      go_wp2_with (at_builtin; refine wpList_append_own _ rfl _ _ 22 rfl w1.heap.size 34 i1 (.slice none 0 0) 1 24 Try.underlying22 hj0 hy0 hy1 hy2 rfl (by decide) _ _ _ rfl (hown.alloc _) ⟨wb.heap.size, 0, none⟩ 1 1 [.slice (some ⟨g, 0, none⟩) m c] rfl rfl (oneCellAt _ _ _ _ (by simp)) (oneSlice _ _ _) (by unfold maxLen; omega) (by omega) (by simp; omega) ?_)
      intro v' w3 hown' hgrow _
      have HP := Lib.hid (HA.out.push hgrow hown' HRW2.out (fun r hr => by have := (HO'.out.rows r hr).lt; omega) (Nat.le_trans HB.out.size hg) hc)
      have HB5 := Lib.hid ((HX.out.alloc (by simpa using hlow) _).grown hgrow (by simp; omega) (fun x hx => (HA.out.top.lt x hx).1))
      clear hown' hgrow hown d1 f1 s1 s2 s3
      go_wp2
      go_roundw
      case rel => exact ⟨i + 1, by omega, by go_num, Lib.hid ⟨_, _, HP.out.congr (M' := aug n M one) fun r _ c _ => by by_cases e : r = i <;> simp [e]⟩, HB5⟩
      case measure => simp [intOf]; omega
    · obtain rfl : i = n := by omega
      obtain ⟨b, cp, rfl, hb, _, hK⟩ := HO'.out.own hn0
      have HK := Lib.hid hK
      have HLb := Lib.hid hb
      clear hK hb HO'
      go_wp2
      go_loopw [8] (fun vc wr => ∃ c : Nat, c ≤ i ∧ vc = .int .i64 (c : Int) ∧ Hid (∃ G C R V, OwnK wr w1.heap.size b i i m G C (aug i R V) ∧ gjs i M c = some (R, V)) ∧ Hid (Below w1.heap.size w1 wr)) (fun vc _ => i - (intOf vc).toNat)
      case atStart => exact ⟨0, by omega, rfl, Lib.hid ⟨_, _, _, _, HK.out, rfl⟩, HB⟩
      case round =>
        obtain ⟨c, hc, rfl, HX, HB2⟩ := hrel
        clear HK HB
        obtain ⟨G2, C2, R, V, hO, hgj⟩ := HX.out
        have HO := Lib.hid hO
        have HG := Lib.hid hgj
        clear hO hgj HX
        obtain ⟨wc, rfl⟩ : ∃ x, x = wr := ⟨wr, rfl⟩
        by_cases hlt : c < i
        · go_wp2
          go_loop [9] (fun vp => ∃ p : Nat, c ≤ p ∧ p ≤ i ∧ vp = .int .i64 (p : Int) ∧ Hid (pvt R c (i - c) c = pvt R c (i - p) p)) (fun vp => i - (intOf vp).toNat)
          case atStart => exact ⟨c, by omega, by omega, rfl, Lib.hid rfl⟩
          case round =>
            obtain ⟨p, hcp, hpi, rfl, HP⟩ := hrel
            by_cases hpn : p < i
            · have d1 := HO.out.top.cell hpn
              rw [if_pos hpn] at d1
              have d2 := (HO.out.rows p hpn).cell (show c < m by omega)
              rw [aug_lo hlt] at d2
              by_cases he : R p c = 0
              · have hb : (fi (R p c) == 0) = true := by rw [he]; rfl
                have HN : Hid (pvt R c (i - c) c = pvt R c (i - (p + 1)) (p + 1)) := Lib.hid (HP.out.trans (by rw [show i - p = (i - (p + 1)) + 1 by omega]; exact pvt_next he))
                clear he HP
                go_wp2
                go_round
                case rel => exact ⟨p + 1, by omega, by omega, by go_num, HN⟩
                case measure => simp [intOf]; omega
              · have hb : (fi (R p c) == 0) = false := beq_eq_false_iff_ne.2 fun h => he (fi_eq_zero.1 h)
                have HN : Hid (pvt R c (i - c) c = p) := Lib.hid (HP.out.trans (by rw [show i - p = (i - (p + 1)) + 1 by omega]; exact pvt_here he))
                clear he HP
                have hpe : ((p : Int) == (i : Int)) = false := beq_eq_false_iff_ne.2 (by omega)
                have d3 := HO.out.top.cell hlt
                rw [if_pos hlt] at d3
                have f1 := HO.out.top.frozen p
                have HKs := Lib.hid (Kp.store wc b p (.slice (some ⟨G2 c, 0, none⟩) m (C2 c)))
                have HT1 := Lib.hid (HO.out.top.set p (.slice (some ⟨G2 c, 0, none⟩) m (C2 c)))
                have HR1 : Hid (∀ r, r < i → RowAt (wc.setCell ⟨b, p, none⟩ (.slice (some ⟨G2 c, 0, none⟩) m (C2 c))) (G2 r) m (aug i R V r)) := Lib.hid fun r hr => (HO.out.rows r hr).kp HKs.out (HO.out.ne hr)
                have HB3 := Lib.hid (HB2.out.setCell (p := ⟨b, p, none⟩) HLb.out (.slice (some ⟨G2 c, 0, none⟩) m (C2 c)))
                have d4 := (HR1.out p hpn).cell (show c < m by omega)
                rw [aug_lo hlt] at d4
                go_wp2_with fail
                refine (refInv_fe _ _).mono ?_
                rintro e w' ⟨rfl, rfl⟩
                go_wp2
                generalize wc.setCell ⟨b, p, none⟩ (.slice (some ⟨G2 c, 0, none⟩) m (C2 c)) = wd at HKs HT1 HR1 HB3 d4 ⊢
                clear d1 d2 d3 d4 f1
                go_loopw [12] (fun vk wq => ∃ k : Nat, k ≤ m ∧ vk = .int .i64 (k : Int) ∧ Hid (RowAt wq (G2 p) m (fun x => if x < k then aug i R V p x * inv (R p c) else aug i R V p x)) ∧ Hid (Kp (· = G2 p) wd wq)) (fun vk _ => m - (intOf vk).toNat)
                case atStart => exact ⟨0, by omega, rfl, Lib.hid ((HR1.out p hpn).congr fun x _ => (if_neg (by omega)).symm), Lib.hid (Kp.refl _ _)⟩
                case round =>
                  obtain ⟨k, hk, rfl, H1, HK⟩ := hrel
                  by_cases hkm : k < m
                  · have d1 := H1.out.cell hkm
                    rw [if_neg (by omega)] at d1
                    have f1 := H1.out.frozen k
                    have s1 : (k : Int) < 2 * (i : Int) := by omega
                    go_wp2_with (go_at_call 18; refine (refMul_fe _ _ _).mono ?_; rintro e w' ⟨rfl, rfl⟩)
                    go_roundw
                    case rel => exact ⟨k + 1, by omega, by go_num, Lib.hid ((H1.out.set k (aug i R V p k * inv (R p c))).congr fun j _ => upTo_step (h := fun j => aug i R V p j * inv (R p c))), Lib.hid ((HK.out).setCell (p := ⟨G2 p, k, none⟩) rfl _)⟩
                    case measure => simp [intOf]; omega
                  · have s1 : ¬ (k : Int) < 2 * (i : Int) := by omega
                    have hT2 := HT1.out.kp HK.out (fun e => HO.out.ne hpn e.symm)
                    have d1 := hT2.cell hlt
                    have f1 := hT2.frozen c
                    have HT2 := Lib.hid (hT2.set c (.slice (some ⟨G2 p, 0, none⟩) m (C2 p)))
                    have HKs2 := Lib.hid (Kp.store wr b c (.slice (some ⟨G2 p, 0, none⟩) m (C2 p)))
                    have HRs : Hid (∀ r, r < i → RowAt (wr.setCell ⟨b, c, none⟩ (.slice (some ⟨G2 p, 0, none⟩) m (C2 p))) (G2 r) m ((fun r => if r = p then (fun x => inv (R p c) * aug i R V p x) else aug i R V r) r)) := Lib.hid fun r hr => by
                      by_cases e : r = p
                      · rw [e]
                        simp only [if_true]
                        exact (H1.out.congr fun x hx => by rw [if_pos (by omega), mul_comm]).kp HKs2.out (HO.out.ne hpn)
                      · simp only [if_neg e]
                        exact ((HR1.out r hr).kp HK.out (fun e' => e (HO.out.inj r p hr hpn e'))).kp HKs2.out (HO.out.ne hr)
                    have hSW := HO.out.swap hlt hpn HRs.out (HT2.out.congr fun r hr => by
                      by_cases e1 : r = c <;> by_cases e2 : r = p
                      · simp only [if_pos e1]
                      · simp only [if_pos e1]
                      · simp only [if_neg e1, if_pos e2]
                      · simp only [if_neg e1, if_neg e2, if_pos hr])
                    rw [swp_scl] at hSW
                    have hB4 : Below w1.heap.size w1 (wr.setCell ⟨b, c, none⟩ (.slice (some ⟨G2 p, 0, none⟩) m (C2 p))) := (HB3.out.trans (HK.out.below HB3.out.size (fun x hx => by rw [hx]; exact HO.out.lo p hpn))).setCell (p := ⟨b, c, none⟩) HLb.out _
                    obtain ⟨A2, hA2⟩ : ∃ a, a = scl (swp (aug i R V) c p) c (inv (R p c)) := ⟨_, rfl⟩
                    have HE : Hid (aug i (rnd R R c p) (rnd R V c p) = elm A2 c (fun r => A2 r c)) := by
                      rw [← aug_rnd hlt]
                      unfold rnd facs scaleOf
                      rw [aug_lo hlt, ← hA2]
                      exact Lib.hid rfl
                    have HG4 : Hid (gjs i M (c + 1) = some (rnd R R c p, rnd R V c p)) := by
                      have hg := HG.out
                      have hp := HN.out
                      simp only [gjs, hg]
                      rw [hp, if_pos hpn]
                      exact Lib.hid rfl
                    rw [← hA2] at hSW
                    obtain ⟨G3, hG3⟩ : ∃ g, g = (fun r => if r = c then G2 p else if r = p then G2 c else G2 r) := ⟨_, rfl⟩
                    obtain ⟨C3, hC3⟩ : ∃ g, g = (fun r => if r = c then C2 p else if r = p then C2 c else C2 r) := ⟨_, rfl⟩
                    rw [← hG3, ← hC3] at hSW
                    have HGc : Hid (G3 c = G2 p) := by rw [hG3]; exact Lib.hid (if_pos rfl)
                    have HSW := Lib.hid hSW
                    have HB4 := Lib.hid hB4
                    clear hA2 hG3 hC3 hSW hB4 hT2 HT2 HKs2 HRs H1 HK HT1 HR1 HKs HB3 HO HG HN
                    go_wp2
                    generalize wr.setCell ⟨b, c, none⟩ (.slice (some ⟨G2 p, 0, none⟩) m (C2 p)) = wf at HSW HB4 ⊢
                    clear d1 f1 s1
                    go_loopw [13] (fun vr wq => ∃ r : Nat, r ≤ i ∧ vr = .int .i64 (r : Int) ∧ Hid (OwnK wq w1.heap.size b i i m G3 C3 (elmK r A2 c (fun r => A2 r c))) ∧ Hid (Below w1.heap.size w1 wq)) (fun vr _ => i - (intOf vr).toNat)
                    case atStart => exact ⟨0, by omega, rfl, Lib.hid (by rw [elmK_zero]; exact HSW.out), HB4⟩
                    case round =>
                      obtain ⟨r, hr, rfl, HO2, HB5⟩ := hrel
                      clear HSW HB4
                      by_cases hri : r < i
                      · have d1 := HO2.out.top.cell hri
                        rw [if_pos hri] at d1
                        have d2 := (HO2.out.rows r hri).cell (show c < m by omega)
                        rw [elmK_here] at d2
                        by_cases hact : r ≠ c ∧ A2 r c ≠ 0
                        · obtain ⟨hrc, hne⟩ := hact
                          have b1 : ((r : Int) != (c : Int)) = true := by rw [bne_iff_ne]; omega
                          have b2 : (fi (A2 r c) != 0) = true := by rw [bne_iff_ne]; exact fun h => hne (fi_eq_zero.1 h)
                          clear hrc hne
                          have hrc : r ≠ c := by rw [bne_iff_ne] at b1; omega
                          go_wp2
                          clear d1 d2
                          go_loopw [15] (fun vk wq => ∃ k : Nat, k ≤ m ∧ vk = .int .i64 (k : Int) ∧ Hid (OwnK wq w1.heap.size b i i m G3 C3 (fun x => if x = r then (fun y => if y < k then A2 r y + A2 r c * A2 c y else A2 r y) else elmK r A2 c (fun r => A2 r c) x)) ∧ Hid (Below w1.heap.size w1 wq)) (fun vk _ => m - (intOf vk).toNat)
                          case atStart => exact ⟨0, by omega, rfl, Lib.hid (HO2.out.congr fun x _ y _ => by
                            by_cases e : x = r
                            · rw [if_pos e, if_neg (by omega), e, elmK_here]
                            · rw [if_neg e]), HB5⟩
                          case round =>
                            obtain ⟨k2, hk2, rfl, HO4, HB6⟩ := hrel
                            clear HO2 HB5
                            by_cases hkm2 : k2 < m
                            · have s1 : (k2 : Int) < 2 * (i : Int) := by omega
                              have d1 := HO4.out.top.cell hri
                              rw [if_pos hri] at d1
                              have hrow := HO4.out.rows r hri
                              rw [if_pos rfl] at hrow
                              have d2 := hrow.cell hkm2
                              rw [if_neg (by omega)] at d2
                              have f2 := hrow.frozen k2
                              have hrow2 := HO4.out.rows c hlt
                              rw [if_neg (fun e => hrc e.symm), elmK_self, HGc.out] at hrow2
                              have d3 := hrow2.cell hkm2
                              have HRW := Lib.hid hrow
                              have HXO := Lib.hid (xor_fi (A2 r k2) (A2 r c * A2 c k2))
                              clear hrow hrow2
                              go_wp2
                              refine wp_region_still_tail 20 (by kernel_rfl) (by kernel_rfl) ?_
                              simp only [List.take_succ_cons, List.take_zero, List.drop_succ_cons, List.drop_zero]
                              repeat (first | still_step | still_call (refMul_st _ _ _))
                              refine wpStill_nil ?_
                              rw [HXO.out]
                              change wpList _ _ _ _ _ wr.drew
                              go_wp2
                              go_roundw
                              case rel =>
                                refine ⟨k2 + 1, by omega, by go_num, Lib.hid ((HO4.out.drew.turn (i := r) hri (Kp.store wr.drew (G3 r) k2 (.int .u8 (fi (A2 r k2 + A2 r c * A2 c k2)))) (HRW.out.set k2 (A2 r k2 + A2 r c * A2 c k2))).congr fun x _ y _ => ?_), Lib.hid ((HB6.out.drew).setCell (p := ⟨G3 r, k2, none⟩) (HO4.out.lo r hri) _)⟩
                                by_cases e : x = r
                                · rw [if_pos e, if_pos e]
                                  exact upTo_step (f := A2 r) (h := fun y => A2 r y + A2 r c * A2 c y)
                                · rw [if_neg e, if_neg e, if_neg e]
                              case measure => simp [intOf]; omega
                            · have s1 : ¬ (k2 : Int) < 2 * (i : Int) := by omega
                              have HO5 : Hid (OwnK wr w1.heap.size b i i m G3 C3 (elmK (r + 1) A2 c (fun r => A2 r c))) := Lib.hid (HO4.out.congr fun x _ y hy => by
                                rw [← elmK_step A2 hrc (fun r => A2 r c) rfl]
                                by_cases e : x = r
                                · simp only [if_pos e, if_pos (show y < k2 by omega)]
                                · simp only [if_neg e])
                              clear HO4
                              go_wp2
                              go_roundw
                              case rel => exact ⟨r + 1, by omega, by go_num, HO5, HB6⟩
                              case measure => simp [intOf]; omega
                        · have HO3 : Hid (OwnK wr w1.heap.size b i i m G3 C3 (elmK (r + 1) A2 c (fun r => A2 r c))) := Lib.hid (HO2.out.congr fun x _ y _ => by
                            unfold elmK
                            by_cases e : x = r
                            · rw [if_neg (by omega)]
                              by_cases e2 : x = c
                              · rw [if_neg (by omega)]
                              · have hz : A2 r c = 0 := by
                                  by_cases hz : A2 r c = 0
                                  · exact hz
                                  · exact absurd ⟨by omega, hz⟩ hact
                                rw [if_pos ⟨by omega, e2⟩]
                                simp only
                                rw [e, hz, zero_mul, add_zero]
                            · by_cases e3 : x < r ∧ x ≠ c
                              · rw [if_pos e3, if_pos ⟨by omega, e3.2⟩]
                              · rw [if_neg e3, if_neg (by omega)])
                          rcases (show ((r : Int) != (c : Int)) = false ∨ (((r : Int) != (c : Int)) = true ∧ (fi (A2 r c) != 0) = false) by
                            by_cases e : r = c
                            · left; rw [e]; simp
                            · right
                              refine ⟨by rw [bne_iff_ne]; omega, ?_⟩
                              have hz : A2 r c = 0 := by
                                by_cases hz : A2 r c = 0
                                · exact hz
                                · exact absurd ⟨e, hz⟩ hact
                              rw [hz]; rfl) with b1 | ⟨b1, b2⟩
                          all_goals
                            clear hact
                            have s0 : (0 : Int) < 2 * (i : Int) := by omega
                            go_wp2
                            clear d1 d2
                            go_loop [15] (fun vk => vk = .int .i64 0) (fun _ => 0)
                            case atStart => rfl
                            case round =>
                              subst hrel
                              go_wp2
                              go_roundw
                              case rel => exact ⟨r + 1, by omega, by go_num, HO3, HB5⟩
                              case measure => simp [intOf]; omega
                      · have HO3 : Hid (OwnK wr w1.heap.size b i i m G3 C3 (aug i (rnd R R c p) (rnd R V c p))) := by
                          rw [HE.out]
                          have hrn : r = i := by omega
                          exact Lib.hid (HO2.out.congr fun x hx y _ => by rw [hrn]; exact elmK_all _ _ _ hx y)
                        clear HO2 HE
                        go_wp2
                        go_roundw
                        case rel => exact ⟨c + 1, by omega, by go_num, Lib.hid ⟨_, _, _, _, HO3.out, HG4.out⟩, HB5⟩
                        case measure => simp [intOf]; omega
            · have HN : Hid (gjs i M i = none) := Lib.hid (gjs_left ⟨c + 1, by omega, by
                have hg := HG.out
                have hz : pvt R c (i - c) c = p := by rw [HP.out, show i - p = 0 by omega]; rfl
                simp only [gjs, hg]
                rw [hz, if_neg hpn]⟩)
              clear HP
              have hpe : ((p : Int) == (i : Int)) = true := by rw [beq_iff_eq]; omega
              go_wp2
              go_ret2
              exact InvRes.even HN.out ⟨none, 0, rfl, RdM.empty _ _ _ _ _, HB0.out.trans (HB2.out.mono HB0.out.size)⟩
        · have HG' : Hid (gjs i M i = some (R, V)) := by
            have hcn : c = i := by omega
            have hg := HG.out
            rw [hcn] at hg
            exact Lib.hid hg
          clear HG
          go_wp2
          go_loopw [17, 16] (fun vr vo wr => ∃ r : Nat, r ≤ i ∧ vr = .int .i64 (r : Int) ∧ Hid (∃ G C, OwnA wr wc.heap.size vo r i G C V) ∧ Hid (Below wc.heap.size wc wr)) (fun vr _ _ => i - (intOf vr).toNat)
          case atStart => exact ⟨0, by omega, rfl, Lib.hid ⟨fun _ => 0, fun _ => 0, OwnA.start _ _ _ _ _ _⟩, Lib.hid (Below.refl _ _)⟩
          case round =>
            obtain ⟨r, hr, rfl, HOX, HB3⟩ := hrel
            obtain ⟨G4, C4, hO4⟩ := HOX.out
            have HO4 := Lib.hid hO4
            clear hO4 HOX
            obtain ⟨wg, rfl⟩ : ∃ x, x = wr := ⟨wr, rfl⟩
            by_cases hri : r < i
            · have hK := HO.out.old HB3.out
              have d1 := hK.top.cell hri
              rw [if_pos hri] at d1
              have hrow := hK.rows r hri
              have hcell : ∀ j, j < i → wg.cell? ⟨G2 r, i + j, none⟩ = some (.int .u8 (fi (V r j))) := fun j hj => by
                rw [hrow.cell (show i + j < m by omega)]
                unfold aug
                rw [if_neg (by omega), show i + j - i = j by omega]
              have HC := Lib.hid hcell
              have hcap := HO.out.cap r hri
              have c1 : ¬ C2 r = i := by omega
              have c2 : (i : Int) ≤ (m : Int) := by omega
              have c3 : m - i = i := by omega
              clear hK hrow hcell
              obtain ⟨i0, hi0, hz0, hz1, hz2⟩ := info_parts infoByte
              have hnil := World.ownsRow_nil wg wg.heap.size 5 1
              go_wp2_with (at_builtin; refine wpList_append_own _ rfl _ _ 34 rfl wg.heap.size 5 i0 (.int .u8 0) 1 1 Try.underlying34 hi0 hz0 hz1 hz2 rfl (by decide) _ _ _ rfl hnil ⟨G2 r, i, none⟩ i _ (cellsOf i (V r)) rfl (by rw [cellsOf_len, Nat.mul_one]) (Rd.cells HC.out) cellsOf_one (by unfold maxLen; omega) (by omega) (Nat.le_refl _) ?_)
              intro v1 wa hown1 hgrow1 _
              have HB4 := Lib.hid ((Below.refl wg.heap.size wg).grown hgrow1 (Nat.le_refl _) (fun x hx => by simp [Value.ownBlock] at hx))
              obtain ⟨g, c', rfl, hg, hc', hr'⟩ := RowAt.of_owns (show wa.ownsRow wg.heap.size 5 1 v1 i (cellsOf i (V r)) by simpa using hown1) hn0
              have HRW := Lib.hid hr'
              clear hown1 hgrow1 hnil HC hr' d1 c1 c2 c3
              have HA := Lib.hid (HO4.out.old HB4.out)
              have HX := Lib.hid (HB3.out.trans (HB4.out.mono HB3.out.size))
              obtain ⟨i1, hj0, hy0, hy1, hy2⟩ := info_parts infoRow
              have hown := HA.out.top
              have hlow : wc.heap.size ≤ wa.heap.size := HX.out.size
              go_wp2_with (at_builtin; refine wpList_append_own _ rfl _ _ 22 rfl wc.heap.size 34 i1 (.slice none 0 0) 1 24 Try.underlying22 hj0 hy0 hy1 hy2 rfl (by decide) _ _ _ rfl (hown.alloc _) ⟨wa.heap.size, 0, none⟩ 1 1 [.slice (some ⟨g, 0, none⟩) i c'] rfl rfl (oneCell _ _ _) (oneSlice _ _ _) (by unfold maxLen; omega) (by omega) (by simp; omega) ?_)
              intro v' w3 hown' hgrow _
              have HP := Lib.hid (HA.out.push hgrow hown' HRW.out (fun x hx => by have := (HO4.out.rows x hx).lt; omega) (Nat.le_trans HB3.out.size hg) hc')
              have HB5 := Lib.hid ((HX.out.alloc hlow _).grown hgrow (by simp; omega) (fun x hx => (HA.out.top.lt x hx).1))
              clear hown' hgrow hown
              go_wp2
              go_roundw
              case rel => exact ⟨r + 1, by omega, by go_num, Lib.hid ⟨_, _, HP.out.congr (M' := V) fun x _ y _ => by by_cases e : x = r <;> simp [e]⟩, HB5⟩
              case measure => simp [intOf]; omega
            · obtain rfl : r = i := by omega
              obtain ⟨b5, cp5, rfl, _, _, hK⟩ := HO4.out.own hn0
              have HK5 := Lib.hid hK
              clear hK
              go_wp2
              go_ret2
              exact InvRes.ok HG'.out ⟨_, _, rfl, HK5.out.rdAll (Nat.le_refl _), HB0.out.trans ((HB2.out.trans (HB3.out.mono HB2.out.size)).mono HB0.out.size)⟩

set_option maxRecDepth 100000 in
set_option maxHeartbeats 1000000 in
theorem refInverse_any (A : Option Addr) (n C : Nat) (L : Nat → Nat) (M : Mat) (G : Nat → Prop) (w : World) (hm : n ≤ maxLen) (h : RdM w A n L M G) :
    Calls Try.prog 22 #[.slice A n C] w (InvAny n L M w) := by
  by_cases hr : rightB n L = true
  · obtain ⟨h1, h2, h3, h4, h5⟩ := rightB_true.1 hr
    by_cases he : n = L 0
    · refine (refInverse_main A n C M G w (by omega) h2 (h.congr (fun i hi => by rw [h5 i hi, he]) (fun _ _ _ _ => rfl))).mono fun e w' hh => ?_
      unfold InvAny
      rw [if_pos ⟨hr, he⟩]; exact hh
    · have hb : ((n : Int) != (L 0 : Int)) = true := by rw [bne_iff_ne]; omega
      have HN : Hid (¬ (rightB n L = true ∧ n = L 0)) := Lib.hid (fun hh => he hh.2)
      have H := Lib.hid h
      have HR := Lib.hid hr
      clear h hr he h5
      go_enter Try.func22, Try.ntmps22
      go_wp2_with fail
      refine (refRight_is _ n C L M _ _ true hm H.out HR.out).mono ?_
      rintro e w1 ⟨rfl, hB0⟩
      obtain ⟨b0, off0, A0, C0, rfl, _, hc0, _⟩ := (H.out.old hB0).row (i := 0) (by omega)
      rw [Nat.add_zero] at hc0
      have HB0 := Lib.hid hB0
      clear hB0
      go_wp2
      go_ret2
      unfold InvAny; rw [if_neg HN.out]; exact ResM.bad w HB0.out
  · have hr' : rightB n L = false := by simpa using hr
    have HN : Hid (¬ (rightB n L = true ∧ n = L 0)) := Lib.hid (fun hh => hr hh.1)
    have H := Lib.hid h
    have HR := Lib.hid hr'
    clear h hr hr'
    go_enter Try.func22, Try.ntmps22
    go_wp2_with fail
    refine (refRight_is _ n C L M _ _ false hm H.out HR.out).mono ?_
    rintro e w1 ⟨rfl, hB0⟩
    have HB0 := Lib.hid hB0
    clear hB0
    go_wp2
    go_ret2
    unfold InvAny; rw [if_neg HN.out]; exact ResM.bad w HB0.out
end Go.Proofs.Ytelkeoopfejgnaa
