/- What Right of package matrix answers. What Inverse of package matrix answers: the inverse by Gauss and Jordan, or that there is none, whatever it is given. What asTheyAre and wayBack of package erasure answer. What Apply of package matrix answers, whatever it is given. -/
import Derived.Test.YtcokmmanajdioaaGreatMai
import Derived.Test.YtcokmmanajdioaaGreatMax
import Derived.Test.YtcokmmanajdioaaGreatMaw
import Derived.BigRegion
import Derived.RegionTactic
namespace Go.Proofs.YtcokmmanajdioaaGreat
open Go.RowKit Mx

set_option maxHeartbeats 1000000 in
theorem right_any (A : Option Addr) (n C : Nat) (L : Nat → Nat) (M : Mat) (G : Nat → Prop) (w : World) (hm : n ≤ maxLen) (h : RdM w A n L M G) :
    Calls Tryz.prog 85 #[.slice A n C] w fun e w' => e = .returned (.bool (rightB n L)) ∧ w = w' := by
  unfold maxLen at hm
  by_cases h1 : 1 ≤ n ∧ n ≤ 255
  · obtain ⟨h1, h2⟩ := h1
    obtain ⟨b, off, A0, C0, rfl, _, hc0, _⟩ := h.row (i := 0) (by omega)
    rw [Nat.add_zero] at hc0
    have H := Lib.hid h
    clear h
    by_cases h3 : 1 ≤ L 0 ∧ L 0 ≤ 255
    · obtain ⟨h3, h4⟩ := h3
      go_enter Tryz.func85, Tryz.ntmps85
      go_wp2
      go_loop [26, 5] (fun vi _ => ∃ k : Nat, k ≤ n ∧ vi = .int .i64 (k : Int) ∧ Hid (∀ i, i < k → L i = L 0)) (fun vi _ => n - (intOf vi).toNat)
      case atStart => exact ⟨0, by omega, rfl, Lib.hid (fun i hi => absurd hi (by omega))⟩
      case round =>
        obtain ⟨k, hk, rfl, HL⟩ := hrel
        by_cases hlt : k < n
        · obtain ⟨b', off', Ak, Ck, e, _, hck, _⟩ := H.out.row hlt
          obtain ⟨rfl, rfl⟩ : b = b' ∧ off = off' := by simpa using e
          clear e
          by_cases he : L k = L 0
          · have hb : ((L k : Int) != (L 0 : Int)) = false := by rw [he]; simp
            have HE := Lib.hid he
            clear he
            go_wp2
            go_round
            case rel => exact ⟨k + 1, by omega, by go_num, Lib.hid (fun i hi => by
              by_cases e : i = k
              · rw [e]; exact HE.out
              · exact HL.out i (by omega))⟩
            case measure => simp [intOf]; omega
          · have hb : ((L k : Int) != (L 0 : Int)) = true := by rw [bne_iff_ne]; omega
            have HF := Lib.hid (rightB_false (n := n) (L := L) (fun h => he (h.2.2.2.2 k hlt)))
            clear he
            go_wp2
            go_ret
            exact ⟨ret_bool HF.out.symm, rfl⟩
        · have HF := Lib.hid (rightB_true (n := n) (L := L) |>.2 ⟨h1, h2, h3, h4, fun i hi => HL.out i (by omega)⟩)
          go_wp2
          go_ret
          exact ⟨ret_bool HF.out.symm, rfl⟩
    · have HF := Lib.hid (rightB_false (n := n) (L := L) (fun h => h3 ⟨h.2.2.1, h.2.2.2.1⟩))
      rcases (show L 0 < 1 ∨ 255 < L 0 by omega) with h5 | h5
      all_goals
        clear h3
        go_enter Tryz.func85, Tryz.ntmps85
        go_wp2
        go_ret
        exact ⟨ret_bool HF.out.symm, rfl⟩
  · have HF := Lib.hid (rightB_false (n := n) (L := L) (fun h => h1 ⟨h.1, h.2.1⟩))
    clear h
    rcases (show n < 1 ∨ 255 < n by omega) with h5 | h5
    all_goals
      clear h1
      go_enter Tryz.func85, Tryz.ntmps85
      go_wp2
      go_ret
      exact ⟨ret_bool HF.out.symm, rfl⟩
theorem right_is (A : Option Addr) (n C : Nat) (L : Nat → Nat) (M : Mat) (G : Nat → Prop) (w : World) (r : Bool) (hm : n ≤ maxLen) (h : RdM w A n L M G) (hr : rightB n L = r) :
    Calls Tryz.prog 85 #[.slice A n C] w fun e w' => e = .returned (.bool r) ∧ w = w' := hr ▸ right_any A n C L M G w hm h
end Go.Proofs.YtcokmmanajdioaaGreat
namespace Go.Proofs.YtcokmmanajdioaaGreat
open Go.RowKit Mx

set_option maxRecDepth 100000 in
set_option maxHeartbeats 2000000 in
theorem clearColumn_any (B b b' n i : Nat) (G C G' C' : Nat → Nat) (R V : Mat) (w : World) (hn : n ≤ 255) (hi : i < n) (h : Two w B b b' n G C G' C' R V) :
    Calls Tryz.prog 89 #[.slice (some ⟨b, 0, none⟩) n n, .slice (some ⟨b', 0, none⟩) n n, .int .i64 (i : Int)] w
      fun e w' => e = .returned (.tuple #[]) ∧ Two w' B b b' n G C G' C' (clr R R i) (clr R V i) ∧ Kp (Both n G G') w w' := by
  have H := Lib.hid h
  have c1 := h.cellR hi
  have c2 := (h.r.rows i hi).cell hi
  clear h
  go_enter Tryz.func89, Tryz.ntmps89
  go_wp2_with fail
  refine (inv_fe _ _).mono ?_
  rintro e w' ⟨rfl, rfl⟩
  go_wp2_with fail
  refine (multiply_any (G i) n (C i) (R i) (inv (R i i)) _ hn (H.out.r.rows i hi)).mono ?_
  rintro e w1 ⟨rfl, hr1, hk1⟩
  have H1 := Lib.hid (H.out.turnR hi hk1 hr1)
  have HK1 := Lib.hid (hk1.mono (T := Both n G G') (fun k hk => .inl ⟨i, hi, hk⟩))
  have c3 := H1.out.cellV hi
  clear hr1 hk1 H c1 c2
  go_wp2_with fail
  refine (multiply_any (G' i) n (C' i) (V i) (inv (R i i)) _ hn (H1.out.v.rows i hi)).mono ?_
  rintro e w2 ⟨rfl, hr2, hk2⟩
  have H2 := Lib.hid (H1.out.turnV hi hk2 hr2)
  rw [scl_row, scl_row] at H2
  have HK2 := Lib.hid (HK1.out.trans (hk2.mono (T := Both n G G') (fun k hk => .inr ⟨i, hi, hk⟩)))
  clear hr2 hk2 H1 HK1 c3
  obtain ⟨R2, hR2⟩ : ∃ A, A = scl R i (inv (R i i)) := ⟨_, rfl⟩
  obtain ⟨V2, hV2⟩ : ∃ A, A = scl V i (inv (R i i)) := ⟨_, rfl⟩
  have HE1 : Hid (clr R R i = elm R2 i (fun r => R2 r i)) := by rw [hR2]; exact Lib.hid rfl
  have HE2 : Hid (clr R V i = elm V2 i (fun r => R2 r i)) := by rw [hR2, hV2]; exact Lib.hid rfl
  rw [← hR2, ← hV2] at H2
  clear hR2 hV2
  go_wp2
  go_loopw [31] (fun vk wr => ∃ k : Nat, k ≤ n ∧ vk = .int .i64 (k : Int) ∧ Hid (Two wr B b b' n G C G' C' (elmK k R2 i (fun r => R2 r i)) (elmK k V2 i (fun r => R2 r i))) ∧ Hid (Kp (Both n G G') w wr)) (fun vk _ => n - (intOf vk).toNat)
  case atStart => exact ⟨0, by omega, rfl, Lib.hid (by rw [elmK_zero, elmK_zero]; exact H2.out), HK2⟩
  case round =>
    obtain ⟨k, hk, rfl, HT, HK⟩ := hrel
    clear H2 HK2
    by_cases hlt : k < n
    · by_cases hki : k = i
      · have hb : ((k : Int) == (i : Int)) = true := by rw [hki]; simp
        have HT2 : Hid (Two wr B b b' n G C G' C' (elmK (k + 1) R2 i (fun r => R2 r i)) (elmK (k + 1) V2 i (fun r => R2 r i))) := by
          have hh := HT.out
          rw [hki] at hh ⊢
          rw [elmK_skip, elmK_skip]
          exact Lib.hid hh
        clear hki HT
        go_wp2
        go_roundw
        case rel => exact ⟨k + 1, by omega, by go_num, HT2, HK⟩
        case measure => simp [intOf]; omega
      · have hb : ((k : Int) == (i : Int)) = false := beq_eq_false_iff_ne.2 (by omega)
        have d1 := HT.out.cellR hlt
        have d2 := HT.out.cellR hi
        have d3 := (HT.out.r.rows k hlt).cell hi
        rw [elmK_here] at d3
        go_wp2
        refine wp_region_still_tail 9 (by kernel_rfl) (by kernel_rfl) ?_
        simp only [List.take_succ_cons, List.take_zero, List.drop_succ_cons, List.drop_zero]
        repeat still_step
        refine wpStill_nil ?_
        change wpList _ _ _ _ _ wr.drew
        go_wp2_with fail
        refine (addTimes_any (G k) n (C k) (R2 k) (R2 k i) (some ⟨G i, 0, none⟩) (C i) (R2 i) _ hn (by have := HT.out.drew.r.rows k hlt; rw [elmK_here] at this; exact this) (by have := (HT.out.drew.r.rows i hi).rd (· ≠ G k) (fun e => hki (HT.out.r.inj i k hi hlt e).symm); rw [elmK_self] at this; exact this)).mono ?_
        rintro e w3 ⟨rfl, hr3, hk3⟩
        have HT3 := Lib.hid (HT.out.drew.turnR hlt hk3 hr3)
        rw [elmK_step R2 hki (fun r => R2 r i) rfl] at HT3
        have HK3 := Lib.hid (HK.out.drew.trans (hk3.mono (T := Both n G G') (fun x hx => .inl ⟨k, hlt, hx⟩)))
        clear hr3 hk3 d1 d2 d3 HT HK
        have d1 := HT3.out.cellV hlt
        have d2 := HT3.out.cellV hi
        go_wp2
        refine wp_region_still_tail 9 (by kernel_rfl) (by kernel_rfl) ?_
        simp only [List.take_succ_cons, List.take_zero, List.drop_succ_cons, List.drop_zero]
        repeat still_step
        refine wpStill_nil ?_
        change wpList _ _ _ _ _ w3.drew
        go_wp2_with fail
        refine (addTimes_any (G' k) n (C' k) (V2 k) (R2 k i) (some ⟨G' i, 0, none⟩) (C' i) (V2 i) _ hn (by have := HT3.out.drew.v.rows k hlt; rw [elmK_here] at this; exact this) (by have := (HT3.out.drew.v.rows i hi).rd (· ≠ G' k) (fun e => hki (HT3.out.v.inj i k hi hlt e).symm); rw [elmK_self] at this; exact this)).mono ?_
        rintro e w4 ⟨rfl, hr4, hk4⟩
        have HT4 := Lib.hid (HT3.out.drew.turnV hlt hk4 hr4)
        rw [elmK_step V2 hki (fun r => R2 r i) rfl] at HT4
        have HK4 := Lib.hid (HK3.out.drew.trans (hk4.mono (T := Both n G G') (fun x hx => .inr ⟨k, hlt, hx⟩)))
        clear hr4 hk4 d1 d2 HT3 HK3
        go_wp2
        go_roundw
        case rel => exact ⟨k + 1, by omega, by go_num, HT4, HK4⟩
        case measure => simp [intOf]; omega
    · have HT5 : Hid (Two wr B b b' n G C G' C' (clr R R i) (clr R V i)) := by
        rw [HE1.out, HE2.out]
        have hkn : k = n := by omega
        refine Lib.hid (HT.out.congrs (fun r hr c _ => ?_) (fun r hr c _ => ?_))
        · exact elmK_all _ _ _ (by omega) c
        · exact elmK_all _ _ _ (by omega) c
      clear HT HE1 HE2
      go_wp2
      go_returns
      exact ⟨rfl, HT5.out, HK.out⟩
set_option maxRecDepth 100000 in
set_option maxHeartbeats 2000000 in
theorem inverse_main (A : Option Addr) (n C : Nat) (M : Mat) (G0 : Nat → Prop) (w : World) (hn0 : 0 < n) (hn : n ≤ 255) (h : RdM w A n (fun _ => n) M G0) :
    Calls Tryz.prog 73 #[.slice A n C] w (InvRes n M w) := by
  have hR : rightB n (fun _ => n) = true := rightB_true.2 ⟨hn0, hn, hn0, hn, fun _ _ => rfl⟩
  have H := Lib.hid h
  have HR := Lib.hid hR
  obtain ⟨b0, off0, A0, C0, rfl, _, hc0, _⟩ := h.row hn0
  rw [Nat.add_zero] at hc0
  clear h hR
  go_enter Tryz.func73, Tryz.ntmps73
  go_wp2_with fail
  refine (right_is _ n C _ M _ _ true (by unfold maxLen; omega) H.out HR.out).mono ?_
  rintro e w' ⟨rfl, rfl⟩
  go_wp2_with fail
  refine (copied_any _ n C n M _ hn0 hn hn0 hn _ H.out).mono ?_
  rintro e w1 ⟨b, G, Cp, rfl, hb, hO, hB⟩
  have HO := Lib.hid hO
  have HB := Lib.hid hB
  clear hO hB hc0
  go_wp2_with fail
  refine (unit_any n _ hn0 hn).mono ?_
  rintro e w2 ⟨b', G', Cp', rfl, hb', hO', hB'⟩
  have HT : Hid (Two w2 w.heap.size b b' n G Cp G' Cp' M one) := Lib.hid ⟨HO.out.old hB', hO'.down HB.out.size, by have := HO.out.top.lt; omega, fun i j hi hj => by have := (HO.out.rows i hi).lt; have := hO'.lo j hj; omega⟩
  have HB2 := Lib.hid (HB.out.trans (hB'.mono HB.out.size))
  have HLb : Hid (w.heap.size ≤ b ∧ w.heap.size ≤ b') := Lib.hid ⟨hb, Nat.le_trans HB.out.size hb'⟩
  clear hO' hB' HO HB hb hb' HR
  go_wp2
  go_loopw [27] (fun vk wr => ∃ k : Nat, k ≤ n ∧ vk = .int .i64 (k : Int) ∧ Hid (∃ G C G' C' R V, Two wr w.heap.size b b' n G C G' C' R V ∧ gjs n M k = some (R, V)) ∧ Hid (Below w.heap.size w wr)) (fun vk _ => n - (intOf vk).toNat)
  case atStart => exact ⟨0, by omega, rfl, Lib.hid ⟨_, _, _, _, _, _, HT.out, rfl⟩, HB2⟩
  case round =>
    obtain ⟨k, hk, rfl, HX, HB⟩ := hrel
    clear HT HB2
    obtain ⟨G1, C1, G2, C2, R, V, hT, hg⟩ := HX.out
    have HT := Lib.hid hT
    have HG := Lib.hid hg
    clear hT hg HX
    by_cases hlt : k < n
    · obtain ⟨p, hp⟩ : ∃ p, p = pvt R k (n - k) k := ⟨_, rfl⟩
      by_cases hpn : p < n
      · have hpk : k ≤ p := hp ▸ (pvt_spec R k (n - k) k).1
        have hz : pivI n R k = (p : Int) := pivI_at hpn hp.symm
        have HZ := Lib.hid hz
        have HP := Lib.hid hp
        clear hz hp
        go_wp2_with fail
        refine (pivot_is _ n n n k R _ _ _ hn hlt hlt (HT.out.r.rd (Nat.le_refl _)) HZ.out).mono ?_
        rintro e w' ⟨rfl, rfl⟩
        have d1 := HT.out.cellR hlt
        have d2 := HT.out.cellR hpn
        have f1 := HT.out.r.top.frozen k
        have f2 := HT.out.r.top.frozen p
        have HT1 := Lib.hid (HT.out.swapR hlt hpn)
        have HB1 := Lib.hid (((HB.out.setCell (p := ⟨b, k, none⟩) HLb.out.1 (.slice (some ⟨G1 p, 0, none⟩) n (C1 p))).setCell (p := ⟨b, p, none⟩) HLb.out.1 (.slice (some ⟨G1 k, 0, none⟩) n (C1 k))).drew)
        obtain ⟨G3, hG3⟩ : ∃ g, g = (fun r => if r = k then G1 p else if r = p then G1 k else G1 r) := ⟨_, rfl⟩
        obtain ⟨C3, hC3⟩ : ∃ g, g = (fun r => if r = k then C1 p else if r = p then C1 k else C1 r) := ⟨_, rfl⟩
        rw [← hG3, ← hC3] at HT1
        clear hG3 hC3
        by_cases hpe : p = k
        · obtain rfl : k = p := hpe.symm
          go_wp2
          go_region
          generalize ((wr.setCell ⟨b, k, none⟩ (.slice (some ⟨G1 k, 0, none⟩) n (C1 k))).setCell ⟨b, k, none⟩ (.slice (some ⟨G1 k, 0, none⟩) n (C1 k))).drew = ws at HT1 HB1 ⊢
          clear d1 d2 f1 f2 HT HB
          have d1 := HT1.out.cellV hlt
          have d2 := HT1.out.cellV hpn
          have f1 := HT1.out.v.top.frozen k
          have f2 := HT1.out.v.top.frozen k
          have HT2 := Lib.hid (HT1.out.swapV hlt hpn)
          have HB2 := Lib.hid (((HB1.out.setCell (p := ⟨b', k, none⟩) HLb.out.2 (.slice (some ⟨G2 k, 0, none⟩) n (C2 k))).setCell (p := ⟨b', k, none⟩) HLb.out.2 (.slice (some ⟨G2 k, 0, none⟩) n (C2 k))).drew)
          obtain ⟨G4, hG4⟩ : ∃ g, g = (fun r => if r = k then G2 k else if r = k then G2 k else G2 r) := ⟨_, rfl⟩
          obtain ⟨C4, hC4⟩ : ∃ g, g = (fun r => if r = k then C2 k else if r = k then C2 k else C2 r) := ⟨_, rfl⟩
          rw [← hG4, ← hC4] at HT2
          clear hG4 hC4
          go_wp2
          go_region
          generalize ((ws.setCell ⟨b', k, none⟩ (.slice (some ⟨G2 k, 0, none⟩) n (C2 k))).setCell ⟨b', k, none⟩ (.slice (some ⟨G2 k, 0, none⟩) n (C2 k))).drew = ws' at HT2 HB2 ⊢
          clear d1 d2 f1 f2 HT1 HB1
          go_wp2_with fail
          refine (clearColumn_any w.heap.size b b' n k G3 C3 G4 C4 (swp R k k) (swp V k k) _ hn hlt HT2.out).mono ?_
          rintro e w4 ⟨rfl, hT4, hk4⟩
          have HT4 := Lib.hid hT4
          have HB4 := Lib.hid (HB2.out.trans (hk4.below HB2.out.size (fun x hx => by
            rcases hx with ⟨r, hr, rfl⟩ | ⟨r, hr, rfl⟩
            · exact HT2.out.r.lo r hr
            · exact HT2.out.v.lo r hr)))
          have HG4 : Hid (gjs n M (k + 1) = some (clr (swp R k k) (swp R k k) k, clr (swp R k k) (swp V k k) k)) := by
            have hg := HG.out
            have hp := HP.out
            simp only [gjs, hg]
            rw [← hp, if_pos hpn, clr_swp, clr_swp]
            exact Lib.hid rfl
          clear hT4 hk4 HT2 HB2
          go_wp2
          go_roundw
          case rel => exact ⟨k + 1, by omega, by go_num, Lib.hid ⟨_, _, _, _, _, _, HT4.out, HG4.out⟩, HB4⟩
          case measure => simp [intOf]; omega
        · have hne : ¬ k = p := fun e => hpe e.symm
          go_wp2
          go_region
          generalize ((wr.setCell ⟨b, k, none⟩ (.slice (some ⟨G1 p, 0, none⟩) n (C1 p))).setCell ⟨b, p, none⟩ (.slice (some ⟨G1 k, 0, none⟩) n (C1 k))).drew = ws at HT1 HB1 ⊢
          clear d1 d2 f1 f2 HT HB
          have d1 := HT1.out.cellV hlt
          have d2 := HT1.out.cellV hpn
          have f1 := HT1.out.v.top.frozen k
          have f2 := HT1.out.v.top.frozen p
          have HT2 := Lib.hid (HT1.out.swapV hlt hpn)
          have HB2 := Lib.hid (((HB1.out.setCell (p := ⟨b', k, none⟩) HLb.out.2 (.slice (some ⟨G2 p, 0, none⟩) n (C2 p))).setCell (p := ⟨b', p, none⟩) HLb.out.2 (.slice (some ⟨G2 k, 0, none⟩) n (C2 k))).drew)
          obtain ⟨G4, hG4⟩ : ∃ g, g = (fun r => if r = k then G2 p else if r = p then G2 k else G2 r) := ⟨_, rfl⟩
          obtain ⟨C4, hC4⟩ : ∃ g, g = (fun r => if r = k then C2 p else if r = p then C2 k else C2 r) := ⟨_, rfl⟩
          rw [← hG4, ← hC4] at HT2
          clear hG4 hC4
          go_wp2
          go_region
          generalize ((ws.setCell ⟨b', k, none⟩ (.slice (some ⟨G2 p, 0, none⟩) n (C2 p))).setCell ⟨b', p, none⟩ (.slice (some ⟨G2 k, 0, none⟩) n (C2 k))).drew = ws' at HT2 HB2 ⊢
          clear d1 d2 f1 f2 HT1 HB1
          go_wp2_with fail
          refine (clearColumn_any w.heap.size b b' n k G3 C3 G4 C4 (swp R k p) (swp V k p) _ hn hlt HT2.out).mono ?_
          rintro e w4 ⟨rfl, hT4, hk4⟩
          have HT4 := Lib.hid hT4
          have HB4 := Lib.hid (HB2.out.trans (hk4.below HB2.out.size (fun x hx => by
            rcases hx with ⟨r, hr, rfl⟩ | ⟨r, hr, rfl⟩
            · exact HT2.out.r.lo r hr
            · exact HT2.out.v.lo r hr)))
          have HG4 : Hid (gjs n M (k + 1) = some (clr (swp R k p) (swp R k p) k, clr (swp R k p) (swp V k p) k)) := by
            have hg := HG.out
            have hp := HP.out
            simp only [gjs, hg]
            rw [← hp, if_pos hpn, clr_swp, clr_swp]
            exact Lib.hid rfl
          clear hT4 hk4 HT2 HB2
          go_wp2
          go_roundw
          case rel => exact ⟨k + 1, by omega, by go_num, Lib.hid ⟨_, _, _, _, _, _, HT4.out, HG4.out⟩, HB4⟩
          case measure => simp [intOf]; omega
      · have hz : pivI n R k = -1 := pivI_none (by rw [← hp]; exact hpn)
        have HZ := Lib.hid hz
        have HN : Hid (gjs n M n = none) := Lib.hid (gjs_left ⟨k + 1, by omega, by
          have hg := HG.out
          simp only [gjs, hg]
          rw [← hp, if_neg hpn]⟩)
        clear hz hp
        go_wp2_with fail
        refine (pivot_is _ n n n k R _ _ _ hn hlt hlt (HT.out.r.rd (Nat.le_refl _)) HZ.out).mono ?_
        rintro e w' ⟨rfl, rfl⟩
        go_wp2
        go_ret2
        exact InvRes.even HN.out ⟨none, 0, rfl, RdM.empty _ _ _ _ _, HB.out⟩
    · have HG' : Hid (gjs n M n = some (R, V)) := by
        have hkn : k = n := by omega
        have hg := HG.out
        rw [hkn] at hg
        exact Lib.hid hg
      go_wp2
      go_ret2
      exact InvRes.ok HG'.out ⟨_, _, rfl, HT.out.v.rdAll (Nat.le_refl _), HB.out⟩
set_option maxRecDepth 100000 in
set_option maxHeartbeats 1000000 in
theorem inverse_any (A : Option Addr) (n C : Nat) (L : Nat → Nat) (M : Mat) (G : Nat → Prop) (w : World) (hm : n ≤ maxLen) (h : RdM w A n L M G) :
    Calls Tryz.prog 73 #[.slice A n C] w (InvAny n L M w) := by
  by_cases hr : rightB n L = true
  · obtain ⟨h1, h2, h3, h4, h5⟩ := rightB_true.1 hr
    by_cases he : n = L 0
    · refine (inverse_main A n C M G w (by omega) h2 (h.congr (fun i hi => by rw [h5 i hi, he]) (fun _ _ _ _ => rfl))).mono fun e w' hh => ?_
      unfold InvAny
      rw [if_pos ⟨hr, he⟩]; exact hh
    · obtain ⟨b0, off0, A0, C0, rfl, _, hc0, _⟩ := h.row (i := 0) (by omega)
      rw [Nat.add_zero] at hc0
      have hb : ((n : Int) != (L 0 : Int)) = true := by rw [bne_iff_ne]; omega
      have HN : Hid (¬ (rightB n L = true ∧ n = L 0)) := Lib.hid (fun hh => he hh.2)
      have H := Lib.hid h
      have HR := Lib.hid hr
      clear h hr he h5
      go_enter Tryz.func73, Tryz.ntmps73
      go_wp2_with fail
      refine (right_is _ n C L M _ _ true hm H.out HR.out).mono ?_
      rintro e w' ⟨rfl, rfl⟩
      go_wp2
      go_ret2
      unfold InvAny; rw [if_neg HN.out]; exact ResM.bad w (Below.refl _ _)
  · have hr' : rightB n L = false := by simpa using hr
    have HN : Hid (¬ (rightB n L = true ∧ n = L 0)) := Lib.hid (fun hh => hr hh.1)
    have H := Lib.hid h
    have HR := Lib.hid hr'
    clear h hr hr'
    go_enter Tryz.func73, Tryz.ntmps73
    go_wp2_with fail
    refine (right_is _ n C L M _ _ false hm H.out HR.out).mono ?_
    rintro e w' ⟨rfl, rfl⟩
    go_wp2
    go_ret2
    unfold InvAny; rw [if_neg HN.out]; exact ResM.bad w (Below.refl _ _)
end Go.Proofs.YtcokmmanajdioaaGreat
namespace Go.Proofs.YtcokmmanajdioaaGreat
open Go.RowKit Mx

/-- the data rows among those that are used, each in its place -/
def ResA (n m : Nat) (at_ : Nat → Nat) (D : Mat) (w : World) (e : Ending) (w' : World) : Prop :=
  ∃ b A L C, e = .returned (.slice (some ⟨b, 0, none⟩) n n) ∧ w.heap.size ≤ b ∧ TopR w' b n A L C D ∧ (∀ t, t < n → at_ t < n → L (at_ t) = m) ∧ (∀ x, x < n → L x = m ∨ L x = 0) ∧ Below w.heap.size w w'
set_option maxRecDepth 100000 in
set_option maxHeartbeats 2000000 in
theorem asTheyAre_any (A : Option Addr) (n C m : Nat) (Y : Mat) (G : Nat → Prop) (A' : Option Addr) (C' : Nat) (at_ : Nat → Nat) (D : Mat) (w : World) (hn0 : 0 < n) (hn : n ≤ 255) (hm0 : 0 < m) (hm : m ≤ 1000000) (hat : ∀ t, t < n → at_ t ≤ 255)
    (h : RdM w A n (fun _ => m) Y G) (h' : RdI w A' n (fun j => (at_ j : Int))) (hD : ∀ t, t < n → at_ t < n → ∀ c, c < m → Y t c = D (at_ t) c) :
    Calls Tryz.prog 63 #[.slice A n C, .slice A' n C'] w (ResA n m at_ D w) := by
  have H := Lib.hid h
  have H' := Lib.hid h'
  have HD := Lib.hid hD
  have HT := Lib.hid hat
  clear h h' hD hat
  have hmk := run_make_row' (P := Tryz.prog) 29 34 (.slice none 0 0) 24 Tryz.underlying29 infoRow rfl .i64 .i64 n (by omega) (by omega)
  go_enter Tryz.func63, Tryz.ntmps63
  go_wp2
  clear hmk
  go_loopw [13] (fun vi wr => ∃ i : Nat, i ≤ n ∧ vi = .int .i64 (i : Int) ∧ Hid (∃ A L C, TopR wr w.heap.size n A L C D ∧ (∀ t, t < i → at_ t < n → L (at_ t) = m) ∧ (∀ x, x < n → L x = m ∨ L x = 0)) ∧ Hid (Below w.heap.size w wr)) (fun vi _ => n - (intOf vi).toNat)
  case atStart => exact ⟨0, by omega, rfl, Lib.hid ⟨_, _, _, TopR.start w n D, fun t ht => absurd ht (by omega), fun x _ => .inr rfl⟩, Lib.hid ((Below.refl _ _).alloc (Nat.le_refl _) _)⟩
  case round =>
    obtain ⟨i, hi, rfl, HO, HB⟩ := hrel
    by_cases hlt : i < n
    · obtain ⟨b1, off1, rfl, d1⟩ := (H'.out.old HB.out).at hlt
      have h255 := HT.out i hlt
      by_cases hp : at_ i < n
      · obtain ⟨Ax, Lx, Cx, hO, hL1, hL2⟩ := HO.out
        have HO' := Lib.hid hO
        have HL1 := Lib.hid hL1
        have HL2 := Lib.hid hL2
        clear hO hL1 hL2 HO
        obtain ⟨b2, off2, A2, C2, rfl, _, d2, hr2⟩ := (H.out.old HB.out).row hlt
        have HR2 := Lib.hid hr2
        have HDI := Lib.hid (HD.out i hlt hp)
        obtain ⟨q, hq⟩ : ∃ q, q = at_ i := ⟨_, rfl⟩
        rw [← hq] at d1 hp HDI h255
        have HQ := Lib.hid hq
        clear hr2 hq
        go_wp2_with fail
        refine (cloneRow_any A2 m C2 (Y i) _ _ hm0 hm HR2.out).mono ?_
        rintro e w1 ⟨g, c, rfl, hg, hc, hr, hb⟩
        have hO1 := HO'.out.old hb
        have hct := hO1.top.cell hp
        have hft := hO1.top.frozen q
        have hgb : w.heap.size < g := by have := HO'.out.top.lt; omega
        have HP := Lib.hid (hO1.lay q (a := some ⟨g, 0, none⟩) (l := m) (c := c) ((hr.rd (· ≠ w.heap.size) (by omega)).congr HDI.out))
        have HB2 := Lib.hid ((HB.out.trans (hb.mono HB.out.size)).setCell (p := ⟨w.heap.size, q, none⟩) (Nat.le_refl _) (.slice (some ⟨g, 0, none⟩) m c))
        clear hr hb hg hc HR2 hO1
        go_wp2
        go_roundw
        case rel =>
          refine ⟨i + 1, by omega, by go_num, Lib.hid ⟨_, _, _, HP.out, fun t ht htn => ?_, fun x hx => ?_⟩, HB2⟩
          · by_cases e : t = i
            · simp only [e, ← HQ.out, if_true]
            · by_cases e2 : at_ t = q
              · simp only [e2, if_true]
              · simp only [e2, if_false]; exact HL1.out t (by omega) htn
          · by_cases e2 : x = q
            · simp only [e2, if_true]; exact .inl trivial
            · simp only [e2, if_false]; exact HL2.out x hx
        case measure => simp [intOf]; omega
      · have HP := Lib.hid hp
        have HO2 : Hid (∃ A L C, TopR wr w.heap.size n A L C D ∧ (∀ t, t < i + 1 → at_ t < n → L (at_ t) = m) ∧ (∀ x, x < n → L x = m ∨ L x = 0)) := by
          obtain ⟨Ax, Lx, Cx, hO, hL1, hL2⟩ := HO.out
          exact Lib.hid ⟨Ax, Lx, Cx, hO, fun t ht htn => hL1 t (by
            by_cases e : t = i
            · rw [e] at htn; exact absurd htn HP.out
            · omega) htn, hL2⟩
        clear HO HP
        have hdn : decide (at_ i < n) = false := decide_eq_false hp
        have hdi : decide ((at_ i : Int) < (n : Int)) = false := decide_eq_false (by omega)
        go_wp2
        go_roundw
        case rel => exact ⟨i + 1, by omega, by go_num, HO2, HB⟩
        case measure => simp [intOf]; omega
    · obtain ⟨Ax, Lx, Cx, hO, hL1, hL2⟩ := HO.out
      have hin : i = n := by omega
      rw [hin] at hL1
      have HF : Hid (∃ A L C, TopR wr w.heap.size n A L C D ∧ (∀ t, t < n → at_ t < n → L (at_ t) = m) ∧ (∀ x, x < n → L x = m ∨ L x = 0)) := Lib.hid ⟨Ax, Lx, Cx, hO, hL1, hL2⟩
      clear hO hL1 hL2 HO hin
      go_wp2
      go_ret
      obtain ⟨Ax, Lx, Cx, hO, hL1, hL2⟩ := HF.out
      exact ⟨_, Ax, Lx, Cx, rfl, Nat.le_refl _, hO, hL1, hL2, HB.out⟩
set_option maxRecDepth 100000 in
set_option maxHeartbeats 2000000 in
theorem wayBack_any (A : Option Addr) (n C : Nat) (at_ : Nat → Nat) (p : Nat) (w : World) (hn0 : 0 < n) (hp0 : 0 < p) (hnp : n + p ≤ 255) (h : RdI w A n (fun j => (at_ j : Int))) (hlt0 : ∀ t, t < n → at_ t < n + p) :
    Calls Tryz.prog 64 #[.slice A n C, .int .i64 (p : Int)] w (InvRes n (encM n p at_) w) := by
  have H := Lib.hid h
  have HL := Lib.hid hlt0
  clear h hlt0
  have hmk := run_make_row' (P := Tryz.prog) 29 34 (.slice none 0 0) 24 Tryz.underlying29 infoRow rfl .i64 .i64 n (by omega) (by omega)
  have HMK := Lib.hid (run_make_row' (P := Tryz.prog) 34 5 (.int .u8 0) 1 Tryz.underlying34 infoByte rfl .i64 .i64 n (by omega) (by omega))
  go_enter Tryz.func64, Tryz.ntmps64
  go_wp2_with fail
  refine (cauchy_main n p _ hn0 hp0 hnp).mono ?_
  rintro e w1 ⟨A1, C1, rfl, hr1, hB1⟩
  obtain ⟨b0, off0, A00, C00, rfl, _, _, _⟩ := hr1.row hp0
  have HR1 := Lib.hid hr1
  have HB1 := Lib.hid hB1
  have H1 := Lib.hid (H.out.old hB1)
  clear hr1 hB1 H
  go_wp2
  clear hmk
  go_loopw [27] (fun vi wr => ∃ i : Nat, i ≤ n ∧ vi = .int .i64 (i : Int) ∧ Hid (∃ A C, TopR wr w1.heap.size n A (fun t => if t < i then n else 0) C (encM n p at_)) ∧ Hid (Below w1.heap.size w1 wr)) (fun vi _ => n - (intOf vi).toNat)
  case atStart => exact ⟨0, by omega, rfl, Lib.hid ⟨_, _, (TopR.start w1 n (encM n p at_)).congr (fun i _ => by rw [if_neg (by omega)]) (fun _ _ _ _ => rfl)⟩, Lib.hid ((Below.refl _ _).alloc (Nat.le_refl _) _)⟩
  case round =>
    obtain ⟨i, hi, rfl, HO, HB⟩ := hrel
    obtain ⟨Ax, Cx, hO⟩ := HO.out
    have HO' := Lib.hid hO
    clear hO HO
    by_cases hlt : i < n
    · obtain ⟨b1, off1, rfl, d1⟩ := (H1.out.old HB.out).at hlt
      have hq2 := HL.out i hlt
      have HEI : Hid (encM n p at_ i = enc n (cau p) (at_ i)) := Lib.hid rfl
      obtain ⟨q, hq⟩ : ∃ q, q = at_ i := ⟨_, rfl⟩
      rw [← hq] at d1 hq2 HEI
      clear hq
      have hstep : Hid (∀ j, (if j = i then n else if j < i then n else 0) = if j < i + 1 then n else 0) := Lib.hid fun j => by
        by_cases e : j = i
        · rw [if_pos e, if_pos (by omega)]
        · by_cases e' : j < i
          · rw [if_neg e, if_pos e', if_pos (by omega)]
          · rw [if_neg e, if_neg e', if_neg (by omega)]
      by_cases hp : q < n
      · have hb1 : Below wr.heap.size wr (wr.alloc (.cells (madeCells #[.int .u8 0] n) 5)) := (Below.refl _ _).alloc (Nat.le_refl _) _
        have hO1 := HO'.out.old hb1
        have hct := hO1.top.cell hlt
        have hft := hO1.top.frozen i
        have hwr : w1.heap.size < wr.heap.size := HO'.out.top.lt
        -- the row of the unit, first of zeros
        have hz : RowAt (wr.alloc (.cells (madeCells #[.int .u8 0] n) 5)) wr.heap.size n (fun _ => 0) := RowAt.made wr n
        have hS := hO1.set i (a := some ⟨wr.heap.size, 0, none⟩) (l := n) (c := n) (hz.rd (· ≠ w1.heap.size) (by omega))
        have hz2 := hz.kp (Kp.store (wr.alloc (.cells (madeCells #[.int .u8 0] n) 5)) w1.heap.size i (.slice (some ⟨wr.heap.size, 0, none⟩) n n)) (by omega)
        have hct2 := hS.top.cell hlt
        simp only [if_true] at hct2
        have hc3 := hz2.cell hp
        have hf3 := hz2.frozen q
        have hkp := Kp.store ((wr.alloc (.cells (madeCells #[.int .u8 0] n) 5)).setCell ⟨w1.heap.size, i, none⟩ (.slice (some ⟨wr.heap.size, 0, none⟩) n n)) wr.heap.size q (.int .u8 (fi 1))
        have HFIN : Hid (∃ A C, TopR (((wr.alloc (.cells (madeCells #[.int .u8 0] n) 5)).setCell ⟨w1.heap.size, i, none⟩ (.slice (some ⟨wr.heap.size, 0, none⟩) n n)).setCell ⟨wr.heap.size, q, none⟩ (.int .u8 (fi 1))) w1.heap.size n A (fun t => if t < i + 1 then n else 0) C (encM n p at_)) := by
          refine Lib.hid ⟨fun j => if j = i then some ⟨wr.heap.size, 0, none⟩ else Ax j, fun j => if j = i then n else Cx j, ?_, fun j hj => ?_⟩
          · refine (hS.top.kp hkp (by omega)).congr fun j hj => ?_
            simp only [hstep.out j]
          · simp only [← hstep.out j]
            by_cases e : j = i
            · simp only [e, if_true]
              refine ((hz2.set q 1).rd (· ≠ w1.heap.size) (by omega)).congr fun c hc => ?_
              rw [HEI.out]
              show _ = (if q < n then one q c else cau p (q - n) c)
              rw [if_pos hp]
              unfold one
              by_cases e2 : c = q
              · rw [if_pos e2, if_pos e2.symm]
              · rw [if_neg e2, if_neg (fun h => e2 h.symm)]
            · simp only [e, if_false]
              have h1 := HO'.out.rows j hj
              have h2 : Rd wr (Ax j) (if j < i then n else 0) (encM n p at_ j) (fun b => b ≠ w1.heap.size ∧ b ≠ wr.heap.size) := by
                intro h0
                obtain ⟨b, off, e1, e2, e3⟩ := h1 h0
                exact ⟨b, off, e1, ⟨e2, by have := World.block_lt_of_cell? _ _ (e3 0 h0); simp at this; omega⟩, e3⟩
              refine Rd.mono (G := fun b => b ≠ w1.heap.size ∧ b ≠ wr.heap.size) ?_ (fun b hb => hb.1)
              exact ((h2.old hb1).kp (Kp.store _ w1.heap.size i _) (fun b hb => hb.1)).kp hkp (fun b hb => hb.2)
        have HB2 := Lib.hid (((HB.out.trans (hb1.mono HB.out.size)).setCell (p := ⟨w1.heap.size, i, none⟩) (Nat.le_refl _) (.slice (some ⟨wr.heap.size, 0, none⟩) n n)).setCell (p := ⟨wr.heap.size, q, none⟩) HB.out.size (.int .u8 (fi 1)))
        have hmk := HMK.out
        clear hb1 hO1 hz hS hz2 hkp hwr
        go_wp2
        go_roundw
        case rel => exact ⟨i + 1, by omega, by go_num, HFIN, HB2⟩
        case measure => simp [intOf]; omega
      · obtain ⟨b2, off2, A2, C2, e2, _, d2, hr2⟩ := HR1.out.row (i := q - n) (by omega)
        obtain ⟨rfl, rfl⟩ : b0 = b2 ∧ off0 = off2 := by simpa using e2
        have d3 := (HB.out.cell (World.block_lt_of_cell? _ _ d2)).trans d2
        have hct := HO'.out.top.cell hlt
        have hft := HO'.out.top.frozen i
        have hrow : Rd wr A2 n (encM n p at_ i) (· ≠ w1.heap.size) := by
          rw [HEI.out]
          refine ((hr2.ne (Nat.le_refl _)).old HB.out).congr fun c hc => ?_
          show _ = (if q < n then one q c else cau p (q - n) c)
          rw [if_neg hp]
        have HP := Lib.hid ((HO'.out.lay i (c := C2) hrow).congr (fun j _ => hstep.out j) (fun _ _ _ _ => rfl))
        have HB2 := Lib.hid (HB.out.setCell (p := ⟨w1.heap.size, i, none⟩) (Nat.le_refl _) (.slice A2 n C2))
        have hsub : (q : Int) - (n : Int) = ((q - n : Nat) : Int) := by omega
        have hdn : decide (q < n) = false := decide_eq_false hp
        have hdi : decide ((q : Int) < (n : Int)) = false := decide_eq_false (by omega)
        clear hrow hr2 d2 e2
        go_wp2
        go_roundw
        case rel => exact ⟨i + 1, by omega, by go_num, Lib.hid ⟨_, _, HP.out⟩, HB2⟩
        case measure => simp [intOf]; omega
    · have HF := Lib.hid ((HO'.out.congr (L' := fun _ => n) (M' := encM n p at_) (fun j hj => by rw [if_pos (by omega)]) (fun _ _ _ _ => rfl)).rdM)
      clear HO'
      go_wp2_with fail
      refine (inverse_main _ n n (encM n p at_) _ _ hn0 (by omega) HF.out).mono ?_
      intro e w2 hres
      have hB := HB1.out.trans (HB.out.mono HB1.out.size)
      unfold InvRes at hres
      cases hg : gjs n (encM n p at_) n with
      | none =>
        rw [hg] at hres
        have HG := Lib.hid hg
        obtain ⟨A2, C2, rfl, hr2, hB2⟩ := hres
        have HR2 := Lib.hid hr2
        have HBX := Lib.hid (hB.trans (hB2.mono hB.size))
        clear hr2 hB2 hB hg
        go_wp2
        go_ret2
        exact InvRes.even HG.out ⟨A2, C2, rfl, HR2.out, HBX.out⟩
      | some s =>
        obtain ⟨Rs, Vs⟩ := s
        rw [hg] at hres
        have HG := Lib.hid hg
        obtain ⟨A2, C2, rfl, hr2, hB2⟩ := hres
        have HR2 := Lib.hid hr2
        have HBX := Lib.hid (hB.trans (hB2.mono hB.size))
        clear hr2 hB2 hB hg
        go_wp2
        go_ret2
        exact InvRes.ok HG.out ⟨A2, C2, rfl, HR2.out, HBX.out⟩
end Go.Proofs.YtcokmmanajdioaaGreat
namespace Go.Proofs.YtcokmmanajdioaaGreat
open Go.RowKit Mx

set_option maxRecDepth 100000 in
set_option maxHeartbeats 2000000 in
theorem apply_own (A : Option Addr) (n C m : Nat) (M : Mat) (G : Nat → Prop) (A' : Option Addr) (C' : Nat) (v : Nat → Fe) (G' : Nat → Prop) (w : World) (hn0 : 0 < n) (hn : n ≤ 255) (hm0 : 0 < m) (hm : m ≤ 255)
    (h : RdM w A n (fun _ => m) M G) (h' : Rd w A' m v G') :
    Calls Tryz.prog 74 #[.slice A n C, .slice A' m C'] w (OwnV 0 n (mv m M v) w) := by
  have hR : rightB n (fun _ => m) = true := rightB_true.2 ⟨hn0, hn, hm0, hm, fun _ _ => rfl⟩
  obtain ⟨b0, off0, A0, C0, rfl, _, hc0, _⟩ := h.row hn0
  rw [Nat.add_zero] at hc0
  have H := Lib.hid h
  have H' := Lib.hid h'
  have HR := Lib.hid hR
  clear h h' hR
  have hmk := run_make_row' (P := Tryz.prog) 34 5 (.int .u8 0) 1 Tryz.underlying34 infoByte rfl .i64 .i64 n (by omega) (by omega)
  go_enter Tryz.func74, Tryz.ntmps74
  go_wp2_with fail
  refine (right_is _ n C _ M _ _ true (by unfold maxLen; omega) H.out HR.out).mono ?_
  rintro e w' ⟨rfl, rfl⟩
  go_wp2
  clear hmk HR
  go_loopw [28] (fun vi wr => ∃ i : Nat, i ≤ n ∧ vi = .int .i64 (i : Int) ∧ Hid (RowAt wr w.heap.size n (part (mv m M v) i 0)) ∧ Hid (Below w.heap.size w wr)) (fun vi _ => n - (intOf vi).toNat)
  case atStart => exact ⟨0, by omega, rfl, Lib.hid ((RowAt.made w n).congr fun j _ => by unfold part; rw [if_neg (by omega)]; split <;> rfl), Lib.hid ((Below.refl _ _).alloc (Nat.le_refl _) _)⟩
  case round =>
    obtain ⟨i, hi, rfl, HO, HB⟩ := hrel
    by_cases hlt : i < n
    · obtain ⟨b1, off1, Ai, Ci, e, _, hci, hri⟩ := (H.out.old HB.out).row hlt
      obtain ⟨rfl, rfl⟩ : b0 = b1 ∧ off0 = off1 := by simpa using e
      have HRI : Hid (Rd w Ai m (M i) (fun x => x < w.heap.size)) := by
        obtain ⟨b2, off2, Aj, Cj, e2, _, hcj, hrj⟩ := H.out.row hlt
        obtain ⟨rfl, rfl⟩ : b0 = b2 ∧ off0 = off2 := by simpa using e2
        have := (HB.out.cell (World.block_lt_of_cell? _ _ hcj)).trans hcj
        rw [hci] at this
        simp only [Option.some.injEq, Value.slice.injEq] at this
        obtain ⟨rfl, _, _⟩ := this
        intro hm'
        obtain ⟨b3, off3, e3, _, hc3⟩ := hrj hm'
        exact ⟨b3, off3, e3, World.block_lt_of_cell? _ _ (hc3 0 hm'), hc3⟩
      clear e hri
      go_wp2
      go_loopw [35] (fun vj wq => ∃ j : Nat, j ≤ m ∧ vj = .int .i64 (j : Int) ∧ Hid (RowAt wq w.heap.size n (part (mv m M v) i (sm j fun t => M i t * v t))) ∧ Hid (Below w.heap.size w wq)) (fun vj _ => m - (intOf vj).toNat)
      case atStart => exact ⟨0, by omega, rfl, HO, HB⟩
      case round =>
        obtain ⟨j, hj, rfl, HO2, HB2⟩ := hrel
        clear HO HB hci hc0
        by_cases hlt2 : j < m
        · obtain ⟨b2, off2, rfl, _, d1⟩ := (HRI.out.old HB2.out).at hlt2
          obtain ⟨b3, off3, rfl, _, d2⟩ := (H'.out.old HB2.out).at hlt2
          have d3 := HO2.out.cell hlt
          rw [part_at] at d3
          have f3 := HO2.out.frozen i
          go_wp2
          refine wp_region_still_tail 14 (by kernel_rfl) (by kernel_rfl) ?_
          simp only [List.take_succ_cons, List.take_zero, List.drop_succ_cons, List.drop_zero]
          repeat (first | still_step | still_call (mul_st _ _ _) | still_call (add_st _ _ _))
          refine wpStill_nil ?_
          change wpList _ _ _ _ _ wr.drew
          go_wp2
          go_roundw
          case rel => exact ⟨j + 1, by omega, by go_num, Lib.hid ((HO2.out.set i ((sm j fun t => M i t * v t) + M i j * v j)).congr fun x _ => part_set _ _ _ _ _), Lib.hid ((HB2.out.drew).setCell (p := ⟨w.heap.size, i, none⟩) (Nat.le_refl _) _)⟩
          case measure => simp [intOf]; omega
        · have HO3 : Hid (RowAt wr w.heap.size n (part (mv m M v) (i + 1) 0)) := by
            have hjm : j = m := by omega
            have hh := HO2.out
            rw [hjm] at hh
            exact Lib.hid (hh.congr fun x _ => part_next (mv m M v) i x)
          clear HO2
          go_wp2
          go_roundw
          case rel => exact ⟨i + 1, by omega, by go_num, HO3, HB2⟩
          case measure => simp [intOf]; omega
    · go_wp2
      go_ret2
      refine ⟨_, _, rfl, Nat.le_refl _, HO.out.congr fun x hx => ?_, HB.out⟩
      unfold part; rw [if_pos (by omega)]
theorem apply_main (A : Option Addr) (n C m : Nat) (M : Mat) (G : Nat → Prop) (A' : Option Addr) (C' : Nat) (v : Nat → Fe) (G' : Nat → Prop) (w : World) (hn0 : 0 < n) (hn : n ≤ 255) (hm0 : 0 < m) (hm : m ≤ 255)
    (h : RdM w A n (fun _ => m) M G) (h' : Rd w A' m v G') :
    Calls Tryz.prog 74 #[.slice A n C, .slice A' m C'] w (ResV 0 n (mv m M v) w) :=
  (apply_own A n C m M G A' C' v G' w hn0 hn hm0 hm h h').mono fun _ _ hh => hh.res
set_option maxHeartbeats 1000000 in
theorem apply_any (A : Option Addr) (n C : Nat) (L : Nat → Nat) (M : Mat) (G : Nat → Prop) (A' : Option Addr) (m C' : Nat) (v : Nat → Fe) (G' : Nat → Prop) (w : World) (hm : n ≤ maxLen) (h : RdM w A n L M G) (h' : Rd w A' m v G') :
    Calls Tryz.prog 74 #[.slice A n C, .slice A' m C'] w (ApplyAny n L M m v w) := by
  by_cases hr : rightB n L = true
  · obtain ⟨h1, h2, h3, h4, h5⟩ := rightB_true.1 hr
    by_cases he : L 0 = m
    · refine (apply_main A n C m M G A' C' v G' w (by omega) h2 (by omega) (by omega) (h.congr (fun i hi => by rw [h5 i hi, he]) (fun _ _ _ _ => rfl)) h').mono fun e w' hh => ?_
      unfold ApplyAny
      rw [if_pos ⟨hr, he⟩]; exact hh
    · obtain ⟨b0, off0, A0, C0, rfl, _, hc0, _⟩ := h.row (i := 0) (by omega)
      rw [Nat.add_zero] at hc0
      have hb : ((L 0 : Int) != (m : Int)) = true := by rw [bne_iff_ne]; omega
      have HN : Hid (¬ (rightB n L = true ∧ L 0 = m)) := Lib.hid (fun hh => he hh.2)
      have H := Lib.hid h
      have HR := Lib.hid hr
      clear h hr he h5 h'
      go_enter Tryz.func74, Tryz.ntmps74
      go_wp2_with fail
      refine (right_is _ n C L M _ _ true hm H.out HR.out).mono ?_
      rintro e w' ⟨rfl, rfl⟩
      go_wp2
      go_ret2
      unfold ApplyAny; rw [if_neg HN.out]; exact ResV.bad w (Below.refl _ _)
  · have hr' : rightB n L = false := by simpa using hr
    have HN : Hid (¬ (rightB n L = true ∧ L 0 = m)) := Lib.hid (fun hh => hr hh.1)
    have H := Lib.hid h
    have HR := Lib.hid hr'
    clear h hr hr' h'
    go_enter Tryz.func74, Tryz.ntmps74
    go_wp2_with fail
    refine (right_is _ n C L M _ _ false hm H.out HR.out).mono ?_
    rintro e w' ⟨rfl, rfl⟩
    go_wp2
    go_ret2
    unfold ApplyAny; rw [if_neg HN.out]; exact ResV.bad w (Below.refl _ _)
end Go.Proofs.YtcokmmanajdioaaGreat
