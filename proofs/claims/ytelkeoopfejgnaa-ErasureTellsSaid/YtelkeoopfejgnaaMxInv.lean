/- What Inverse of package matrix answers: the inverse by Gauss and Jordan, or that there is none, whatever it is given. -/
import Derived.Test.YtelkeoopfejgnaaMxOps
import Derived.Test.YtelkeoopfejgnaaMxOwn
import Derived.Test.YtelkeoopfejgnaaMxRight
import Derived.BigRegion
import Derived.RegionTactic
namespace Go.Proofs.Ytelkeoopfejgnaa
open Go.RowKit Mx

set_option maxHeartbeats 2000000 in
theorem clearColumn_any (B b b' n i : Nat) (G C G' C' : Nat → Nat) (R V : Mat) (w : World) (hn : n ≤ 255) (hi : i < n) (h : Two w B b b' n G C G' C' R V) :
    Calls Try.prog 41 #[.slice (some ⟨b, 0, none⟩) n n, .slice (some ⟨b', 0, none⟩) n n, .int .i64 (i : Int)] w
      fun e w' => e = .returned (.tuple #[]) ∧ Two w' B b b' n G C G' C' (clr R R i) (clr R V i) ∧ Kp (Both n G G') w w' := by
  have H := Lib.hid h
  have c1 := h.cellR hi
  have c2 := (h.r.rows i hi).cell hi
  clear h
  go_enter Try.func41, Try.ntmps41
  go_wp2_with fail
  refine (inv_fe _ _).mono ?_
  rintro e w' ⟨rfl, rfl⟩
  go_wp2_with fail
  refine (multiply_any (G i) n (C i) (R i) (inv (R i i)) _ hn (H.out.r.rows i hi)).mono ?_
  rintro e w1 ⟨rfl, hr1, hk1⟩
  have H1 := Lib.hid (H.out.turnR hi hk1 hr1)
  have HK1 := Lib.hid (hk1.mono (T := Both n G G') (fun k hk => .inl ⟨i, hi, hk⟩))
  have c3 := H1.out.cellV hi
  clear hr1 hk1 H c1 c2
  go_wp2_with fail
  refine (multiply_any (G' i) n (C' i) (V i) (inv (R i i)) _ hn (H1.out.v.rows i hi)).mono ?_
  rintro e w2 ⟨rfl, hr2, hk2⟩
  have H2 := Lib.hid (H1.out.turnV hi hk2 hr2)
  rw [scl_row, scl_row] at H2
  have HK2 := Lib.hid (HK1.out.trans (hk2.mono (T := Both n G G') (fun k hk => .inr ⟨i, hi, hk⟩)))
  clear hr2 hk2 H1 HK1 c3
  obtain ⟨R2, hR2⟩ : ∃ A, A = scl R i (inv (R i i)) := ⟨_, rfl⟩
  obtain ⟨V2, hV2⟩ : ∃ A, A = scl V i (inv (R i i)) := ⟨_, rfl⟩
  have HE1 : Hid (clr R R i = elm R2 i (fun r => R2 r i)) := by rw [hR2]; exact Lib.hid rfl
  have HE2 : Hid (clr R V i = elm V2 i (fun r => R2 r i)) := by rw [hR2, hV2]; exact Lib.hid rfl
  rw [← hR2, ← hV2] at H2
  clear hR2 hV2
  go_wp2
  go_loopw [31] (fun vk wr => ∃ k : Nat, k ≤ n ∧ vk = .int .i64 (k : Int) ∧ Hid (Two wr B b b' n G C G' C' (elmK k R2 i (fun r => R2 r i)) (elmK k V2 i (fun r => R2 r i))) ∧ Hid (Kp (Both n G G') w wr)) (fun vk _ => n - (intOf vk).toNat)
  case atStart => exact ⟨0, by omega, rfl, Lib.hid (by rw [elmK_zero, elmK_zero]; exact H2.out), HK2⟩
  case round =>
    obtain ⟨k, hk, rfl, HT, HK⟩ := hrel
    clear H2 HK2
    by_cases hlt : k < n
    · by_cases hki : k = i
      · have hb : ((k : Int) == (i : Int)) = true := by rw [hki]; simp
        have HT2 : Hid (Two wr B b b' n G C G' C' (elmK (k + 1) R2 i (fun r => R2 r i)) (elmK (k + 1) V2 i (fun r => R2 r i))) := by
          have hh := HT.out
          rw [hki] at hh ⊢
          rw [elmK_skip, elmK_skip]
          exact Lib.hid hh
        clear hki HT
        go_wp2
        go_roundw
        case rel => exact ⟨k + 1, by omega, by go_num, HT2, HK⟩
        case measure => simp [intOf]; omega
      · have hb : ((k : Int) == (i : Int)) = false := beq_eq_false_iff_ne.2 (by omega)
        have d1 := HT.out.cellR hlt
        have d2 := HT.out.cellR hi
        have d3 := (HT.out.r.rows k hlt).cell hi
        rw [elmK_here] at d3
        go_wp2
        refine wp_region_still_tail 9 (by kernel_rfl) (by kernel_rfl) ?_
        simp only [List.take_succ_cons, List.take_zero, List.drop_succ_cons, List.drop_zero]
        repeat still_step
        refine wpStill_nil ?_
        change wpList _ _ _ _ _ wr.drew
        go_wp2_with fail
        refine (addTimes_any (G k) n (C k) (R2 k) (R2 k i) (some ⟨G i, 0, none⟩) (C i) (R2 i) _ hn (by have := HT.out.drew.r.rows k hlt; rw [elmK_here] at this; exact this) (by have := (HT.out.drew.r.rows i hi).rd (· ≠ G k) (fun e => hki (HT.out.r.inj i k hi hlt e).symm); rw [elmK_self] at this; exact this)).mono ?_
        rintro e w3 ⟨rfl, hr3, hk3⟩
        have HT3 := Lib.hid (HT.out.drew.turnR hlt hk3 hr3)
        rw [elmK_step R2 hki (fun r => R2 r i) rfl] at HT3
        have HK3 := Lib.hid (HK.out.drew.trans (hk3.mono (T := Both n G G') (fun x hx => .inl ⟨k, hlt, hx⟩)))
        clear hr3 hk3 d1 d2 d3 HT HK
        have d1 := HT3.out.cellV hlt
        have d2 := HT3.out.cellV hi
        go_wp2
        refine wp_region_still_tail 9 (by kernel_rfl) (by kernel_rfl) ?_
        simp only [List.take_succ_cons, List.take_zero, List.drop_succ_cons, List.drop_zero]
        repeat still_step
        refine wpStill_nil ?_
        change wpList _ _ _ _ _ w3.drew
        go_wp2_with fail
        refine (addTimes_any (G' k) n (C' k) (V2 k) (R2 k i) (some ⟨G' i, 0, none⟩) (C' i) (V2 i) _ hn (by have := HT3.out.drew.v.rows k hlt; rw [elmK_here] at this; exact this) (by have := (HT3.out.drew.v.rows i hi).rd (· ≠ G' k) (fun e => hki (HT3.out.v.inj i k hi hlt e).symm); rw [elmK_self] at this; exact this)).mono ?_
        rintro e w4 ⟨rfl, hr4, hk4⟩
        have HT4 := Lib.hid (HT3.out.drew.turnV hlt hk4 hr4)
        rw [elmK_step V2 hki (fun r => R2 r i) rfl] at HT4
        have HK4 := Lib.hid (HK3.out.drew.trans (hk4.mono (T := Both n G G') (fun x hx => .inr ⟨k, hlt, hx⟩)))
        clear hr4 hk4 d1 d2 HT3 HK3
        go_wp2
        go_roundw
        case rel => exact ⟨k + 1, by omega, by go_num, HT4, HK4⟩
        case measure => simp [intOf]; omega
    · have HT5 : Hid (Two wr B b b' n G C G' C' (clr R R i) (clr R V i)) := by
        rw [HE1.out, HE2.out]
        have hkn : k = n := by omega
        refine Lib.hid (HT.out.congrs (fun r hr c _ => ?_) (fun r hr c _ => ?_))
        · exact elmK_all _ _ _ (by omega) c
        · exact elmK_all _ _ _ (by omega) c
      clear HT HE1 HE2
      go_wp2
      go_returns
      exact ⟨rfl, HT5.out, HK.out⟩
set_option maxHeartbeats 2000000 in
theorem inverse_main (A : Option Addr) (n C : Nat) (M : Mat) (G0 : Nat → Prop) (w : World) (hn0 : 0 < n) (hn : n ≤ 255) (h : RdM w A n (fun _ => n) M G0) :
    Calls Try.prog 34 #[.slice A n C] w (InvRes n M w) := by
  have hR : rightB n (fun _ => n) = true := rightB_true.2 ⟨hn0, hn, hn0, hn, fun _ _ => rfl⟩
  have H := Lib.hid h
  have HR := Lib.hid hR
  obtain ⟨b0, off0, A0, C0, rfl, _, hc0, _⟩ := h.row hn0
  rw [Nat.add_zero] at hc0
  clear h hR
  go_enter Try.func34, Try.ntmps34
  go_wp2_with fail
  refine (right_is _ n C _ M _ _ true (by unfold maxLen; omega) H.out HR.out).mono ?_
  rintro e w' ⟨rfl, rfl⟩
  go_wp2_with fail
  refine (copied_any _ n C n M _ hn0 hn hn0 hn _ H.out).mono ?_
  rintro e w1 ⟨b, G, Cp, rfl, hb, hO, hB⟩
  have HO := Lib.hid hO
  have HB := Lib.hid hB
  clear hO hB hc0
  go_wp2_with fail
  refine (unit_any n _ hn0 hn).mono ?_
  rintro e w2 ⟨b', G', Cp', rfl, hb', hO', hB'⟩
  have HT : Hid (Two w2 w.heap.size b b' n G Cp G' Cp' M one) := Lib.hid ⟨HO.out.old hB', hO'.down HB.out.size, by have := HO.out.top.lt; omega, fun i j hi hj => by have := (HO.out.rows i hi).lt; have := hO'.lo j hj; omega⟩
  have HB2 := Lib.hid (HB.out.trans (hB'.mono HB.out.size))
  have HLb : Hid (w.heap.size ≤ b ∧ w.heap.size ≤ b') := Lib.hid ⟨hb, Nat.le_trans HB.out.size hb'⟩
  clear hO' hB' HO HB hb hb' HR
  go_wp2
  go_loopw [27] (fun vk wr => ∃ k : Nat, k ≤ n ∧ vk = .int .i64 (k : Int) ∧ Hid (∃ G C G' C' R V, Two wr w.heap.size b b' n G C G' C' R V ∧ gjs n M k = some (R, V)) ∧ Hid (Below w.heap.size w wr)) (fun vk _ => n - (intOf vk).toNat)
  case atStart => exact ⟨0, by omega, rfl, Lib.hid ⟨_, _, _, _, _, _, HT.out, rfl⟩, HB2⟩
  case round =>
    obtain ⟨k, hk, rfl, HX, HB⟩ := hrel
    clear HT HB2
    obtain ⟨G1, C1, G2, C2, R, V, hT, hg⟩ := HX.out
    have HT := Lib.hid hT
    have HG := Lib.hid hg
    clear hT hg HX
    by_cases hlt : k < n
    · obtain ⟨p, hp⟩ : ∃ p, p = pvt R k (n - k) k := ⟨_, rfl⟩
      by_cases hpn : p < n
      · have hpk : k ≤ p := hp ▸ (pvt_spec R k (n - k) k).1
        have hz : pivI n R k = (p : Int) := pivI_at hpn hp.symm
        have HZ := Lib.hid hz
        have HP := Lib.hid hp
        clear hz hp
        go_wp2_with fail
        refine (pivot_is _ n n n k R _ _ _ hn hlt hlt (HT.out.r.rd (Nat.le_refl _)) HZ.out).mono ?_
        rintro e w' ⟨rfl, rfl⟩
        have d1 := HT.out.cellR hlt
        have d2 := HT.out.cellR hpn
        have f1 := HT.out.r.top.frozen k
        have f2 := HT.out.r.top.frozen p
        have HT1 := Lib.hid (HT.out.swapR hlt hpn)
        have HB1 := Lib.hid (((HB.out.setCell (p := ⟨b, k, none⟩) HLb.out.1 (.slice (some ⟨G1 p, 0, none⟩) n (C1 p))).setCell (p := ⟨b, p, none⟩) HLb.out.1 (.slice (some ⟨G1 k, 0, none⟩) n (C1 k))).drew)
        obtain ⟨G3, hG3⟩ : ∃ g, g = (fun r => if r = k then G1 p else if r = p then G1 k else G1 r) := ⟨_, rfl⟩
        obtain ⟨C3, hC3⟩ : ∃ g, g = (fun r => if r = k then C1 p else if r = p then C1 k else C1 r) := ⟨_, rfl⟩
        rw [← hG3, ← hC3] at HT1
        clear hG3 hC3
        by_cases hpe : p = k
        · obtain rfl : k = p := hpe.symm
          go_wp2
          go_region
          generalize ((wr.setCell ⟨b, k, none⟩ (.slice (some ⟨G1 k, 0, none⟩) n (C1 k))).setCell ⟨b, k, none⟩ (.slice (some ⟨G1 k, 0, none⟩) n (C1 k))).drew = ws at HT1 HB1 ⊢
          clear d1 d2 f1 f2 HT HB
          have d1 := HT1.out.cellV hlt
          have d2 := HT1.out.cellV hpn
          have f1 := HT1.out.v.top.frozen k
          have f2 := HT1.out.v.top.frozen k
          have HT2 := Lib.hid (HT1.out.swapV hlt hpn)
          have HB2 := Lib.hid (((HB1.out.setCell (p := ⟨b', k, none⟩) HLb.out.2 (.slice (some ⟨G2 k, 0, none⟩) n (C2 k))).setCell (p := ⟨b', k, none⟩) HLb.out.2 (.slice (some ⟨G2 k, 0, none⟩) n (C2 k))).drew)
          obtain ⟨G4, hG4⟩ : ∃ g, g = (fun r => if r = k then G2 k else if r = k then G2 k else G2 r) := ⟨_, rfl⟩
          obtain ⟨C4, hC4⟩ : ∃ g, g = (fun r => if r = k then C2 k else if r = k then C2 k else C2 r) := ⟨_, rfl⟩
          rw [← hG4, ← hC4] at HT2
          clear hG4 hC4
          go_wp2
          go_region
          generalize ((ws.setCell ⟨b', k, none⟩ (.slice (some ⟨G2 k, 0, none⟩) n (C2 k))).setCell ⟨b', k, none⟩ (.slice (some ⟨G2 k, 0, none⟩) n (C2 k))).drew = ws' at HT2 HB2 ⊢
          clear d1 d2 f1 f2 HT1 HB1
          go_wp2_with fail
          refine (clearColumn_any w.heap.size b b' n k G3 C3 G4 C4 (swp R k k) (swp V k k) _ hn hlt HT2.out).mono ?_
          rintro e w4 ⟨rfl, hT4, hk4⟩
          have HT4 := Lib.hid hT4
          have HB4 := Lib.hid (HB2.out.trans (hk4.below HB2.out.size (fun x hx => by
            rcases hx with ⟨r, hr, rfl⟩ | ⟨r, hr, rfl⟩
            · exact HT2.out.r.lo r hr
            · exact HT2.out.v.lo r hr)))
          have HG4 : Hid (gjs n M (k + 1) = some (clr (swp R k k) (swp R k k) k, clr (swp R k k) (swp V k k) k)) := by
            have hg := HG.out
            have hp := HP.out
            simp only [gjs, hg]
            rw [← hp, if_pos hpn, clr_swp, clr_swp]
            exact Lib.hid rfl
          clear hT4 hk4 HT2 HB2
          go_wp2
          go_roundw
          case rel => exact ⟨k + 1, by omega, by go_num, Lib.hid ⟨_, _, _, _, _, _, HT4.out, HG4.out⟩, HB4⟩
          case measure => simp [intOf]; omega
        · have hne : ¬ k = p := fun e => hpe e.symm
          go_wp2
          go_region
          generalize ((wr.setCell ⟨b, k, none⟩ (.slice (some ⟨G1 p, 0, none⟩) n (C1 p))).setCell ⟨b, p, none⟩ (.slice (some ⟨G1 k, 0, none⟩) n (C1 k))).drew = ws at HT1 HB1 ⊢
          clear d1 d2 f1 f2 HT HB
          have d1 := HT1.out.cellV hlt
          have d2 := HT1.out.cellV hpn
          have f1 := HT1.out.v.top.frozen k
          have f2 := HT1.out.v.top.frozen p
          have HT2 := Lib.hid (HT1.out.swapV hlt hpn)
          have HB2 := Lib.hid (((HB1.out.setCell (p := ⟨b', k, none⟩) HLb.out.2 (.slice (some ⟨G2 p, 0, none⟩) n (C2 p))).setCell (p := ⟨b', p, none⟩) HLb.out.2 (.slice (some ⟨G2 k, 0, none⟩) n (C2 k))).drew)
          obtain ⟨G4, hG4⟩ : ∃ g, g = (fun r => if r = k then G2 p else if r = p then G2 k else G2 r) := ⟨_, rfl⟩
          obtain ⟨C4, hC4⟩ : ∃ g, g = (fun r => if r = k then C2 p else if r = p then C2 k else C2 r) := ⟨_, rfl⟩
          rw [← hG4, ← hC4] at HT2
          clear hG4 hC4
          go_wp2
          go_region
          generalize ((ws.setCell ⟨b', k, none⟩ (.slice (some ⟨G2 p, 0, none⟩) n (C2 p))).setCell ⟨b', p, none⟩ (.slice (some ⟨G2 k, 0, none⟩) n (C2 k))).drew = ws' at HT2 HB2 ⊢
          clear d1 d2 f1 f2 HT1 HB1
          go_wp2_with fail
          refine (clearColumn_any w.heap.size b b' n k G3 C3 G4 C4 (swp R k p) (swp V k p) _ hn hlt HT2.out).mono ?_
          rintro e w4 ⟨rfl, hT4, hk4⟩
          have HT4 := Lib.hid hT4
          have HB4 := Lib.hid (HB2.out.trans (hk4.below HB2.out.size (fun x hx => by
            rcases hx with ⟨r, hr, rfl⟩ | ⟨r, hr, rfl⟩
            · exact HT2.out.r.lo r hr
            · exact HT2.out.v.lo r hr)))
          have HG4 : Hid (gjs n M (k + 1) = some (clr (swp R k p) (swp R k p) k, clr (swp R k p) (swp V k p) k)) := by
            have hg := HG.out
            have hp := HP.out
            simp only [gjs, hg]
            rw [← hp, if_pos hpn, clr_swp, clr_swp]
            exact Lib.hid rfl
          clear hT4 hk4 HT2 HB2
          go_wp2
          go_roundw
          case rel => exact ⟨k + 1, by omega, by go_num, Lib.hid ⟨_, _, _, _, _, _, HT4.out, HG4.out⟩, HB4⟩
          case measure => simp [intOf]; omega
      · have hz : pivI n R k = -1 := pivI_none (by rw [← hp]; exact hpn)
        have HZ := Lib.hid hz
        have HN : Hid (gjs n M n = none) := Lib.hid (gjs_left ⟨k + 1, by omega, by
          have hg := HG.out
          simp only [gjs, hg]
          rw [← hp, if_neg hpn]⟩)
        clear hz hp
        go_wp2_with fail
        refine (pivot_is _ n n n k R _ _ _ hn hlt hlt (HT.out.r.rd (Nat.le_refl _)) HZ.out).mono ?_
        rintro e w' ⟨rfl, rfl⟩
        go_wp2
        go_ret2
        exact InvRes.even HN.out ⟨none, 0, rfl, RdM.empty _ _ _ _ _, HB.out⟩
    · have HG' : Hid (gjs n M n = some (R, V)) := by
        have hkn : k = n := by omega
        have hg := HG.out
        rw [hkn] at hg
        exact Lib.hid hg
      go_wp2
      go_ret2
      exact InvRes.ok HG'.out ⟨_, _, rfl, HT.out.v.rdAll (Nat.le_refl _), HB.out⟩
set_option maxHeartbeats 1000000 in
theorem inverse_any (A : Option Addr) (n C : Nat) (L : Nat → Nat) (M : Mat) (G : Nat → Prop) (w : World) (hm : n ≤ maxLen) (h : RdM w A n L M G) :
    Calls Try.prog 34 #[.slice A n C] w (InvAny n L M w) := by
  by_cases hr : rightB n L = true
  · obtain ⟨h1, h2, h3, h4, h5⟩ := rightB_true.1 hr
    by_cases he : n = L 0
    · refine (inverse_main A n C M G w (by omega) h2 (h.congr (fun i hi => by rw [h5 i hi, he]) (fun _ _ _ _ => rfl))).mono fun e w' hh => ?_
      unfold InvAny
      rw [if_pos ⟨hr, he⟩]; exact hh
    · obtain ⟨b0, off0, A0, C0, rfl, _, hc0, _⟩ := h.row (i := 0) (by omega)
      rw [Nat.add_zero] at hc0
      have hb : ((n : Int) != (L 0 : Int)) = true := by rw [bne_iff_ne]; omega
      have HN : Hid (¬ (rightB n L = true ∧ n = L 0)) := Lib.hid (fun hh => he hh.2)
      have H := Lib.hid h
      have HR := Lib.hid hr
      clear h hr he h5
      go_enter Try.func34, Try.ntmps34
      go_wp2_with fail
      refine (right_is _ n C L M _ _ true hm H.out HR.out).mono ?_
      rintro e w' ⟨rfl, rfl⟩
      go_wp2
      go_ret2
      unfold InvAny; rw [if_neg HN.out]; exact ResM.bad w (Below.refl _ _)
  · have hr' : rightB n L = false := by simpa using hr
    have HN : Hid (¬ (rightB n L = true ∧ n = L 0)) := Lib.hid (fun hh => hr hh.1)
    have H := Lib.hid h
    have HR := Lib.hid hr'
    clear h hr hr'
    go_enter Try.func34, Try.ntmps34
    go_wp2_with fail
    refine (right_is _ n C L M _ _ false hm H.out HR.out).mono ?_
    rintro e w' ⟨rfl, rfl⟩
    go_wp2
    go_ret2
    unfold InvAny; rw [if_neg HN.out]; exact ResM.bad w (Below.refl _ _)
end Go.Proofs.Ytelkeoopfejgnaa
