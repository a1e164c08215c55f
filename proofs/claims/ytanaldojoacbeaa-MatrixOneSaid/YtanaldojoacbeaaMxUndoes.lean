/- The laws MatrixUndoes and MatrixOne answer true. -/
import Derived.Test.YtanaldojoacbeaaMxAlive
import Derived.Test.YtanaldojoacbeaaMxOpen
namespace Go.Proofs.Ytanaldojoacbeaa
open Go.RowKit Mx

theorem undo {n : Nat} {M R V : Mat} (h : gjs n M n = some (R, V)) (v : Nat → Fe) {j : Nat} (hj : j < n) : mv n V (mv n M v) j = v j := by
  rw [mv_mv]
  exact (sm_congr fun k hk => by rw [(gjs_ok h).2 j hj k hk]).trans (mv_one hj v)

set_option maxRecDepth 100000 in
set_option maxHeartbeats 4000000 in
theorem matrixUndoes_walk (A : Option Addr) (n C : Nat) (L : Nat → Nat) (M : Mat) (D : Option Addr) (m Cv : Nat) (v : Nat → Fe) (G : Nat → Prop) (w : World)
    (hn : n ≤ maxLen) (hm : m ≤ maxLen) (h : RdM w A n L M G) (hv : Rd w D m v G) :
    Calls Try.prog 5 #[.slice A n C, .slice D m Cv] w fun e w' => e = .returned (.bool true) ∧ Below w.heap.size w w' := by
  have H0 := Lib.hid h
  have HV0 := Lib.hid hv
  have HN := Lib.hid hn
  clear h hv hn
  unfold maxLen at hm
  have hn : n ≤ 9223372036854775807 := HN.out
  go_enter Try.func5, Try.ntmps5
  go_wp2_with fail
  refine (alive_true _).mono ?_
  rintro e w1 ⟨rfl, hB⟩
  have H1 := Lib.hid (H0.out.old hB)
  have HV1 := Lib.hid (HV0.out.old hB)
  have HB := Lib.hid hB
  clear hB H0 HV0
  go_wp2_with fail
  refine (few_any _ _ _ _ _ _ _ HN.out H1.out).mono ?_
  rintro e w' ⟨b1, rfl, rfl⟩
  cases b1
  · go_wp2
    go_ret
    exact ⟨rfl, HB.out⟩
  cases hr : rightB n L with
  | false =>
    have HR := Lib.hid hr
    clear hr
    go_wp2_with fail
    refine (refRight_is _ _ _ _ _ _ _ false HN.out H1.out HR.out).mono ?_
    rintro e w2 ⟨rfl, hB2⟩
    have HT := Lib.hid (HB.out.trans (hB2.mono HB.out.size))
    clear hB2
    go_wp2
    go_ret
    exact ⟨rfl, HT.out⟩
  | true =>
    have HR := Lib.hid hr
    obtain ⟨h1, h2, h3, h4, h5⟩ := rightB_true.1 hr
    have H5 := Lib.hid h5
    clear hr h5
    go_wp2_with fail
    refine (refRight_is _ _ _ _ _ _ _ true HN.out H1.out HR.out).mono ?_
    rintro e w2 ⟨rfl, hB2⟩
    have HT := Lib.hid (HB.out.trans (hB2.mono HB.out.size))
    have H2 := Lib.hid (H1.out.old hB2)
    have HV2 := Lib.hid (HV1.out.old hB2)
    clear hB2 H1 HV1 HB
    obtain ⟨b0, off0, A0, C0, rfl, _, hc0, _⟩ := H2.out.row (i := 0) (by omega)
    rw [Nat.add_zero] at hc0
    by_cases e1 : n = L 0
    · by_cases e2 : m = n
      · have HE := Lib.hid e1
        have b1 : ((n : Int) != (L 0 : Int)) = false := by rw [← e1]; simp
        subst e2
        clear e1
        by_cases hbig : 20 < m
        · go_wp2
          go_ret
          exact ⟨rfl, HT.out⟩
        have HQ : Hid (RdM w2 (some ⟨b0, off0, none⟩) m (fun _ => m) M G) := Lib.hid (H2.out.congr (fun i hi => by rw [H5.out i hi]; exact HE.out.symm) (fun _ _ _ _ => rfl))
        go_wp2_with fail
        refine (inverse_main _ m C M _ _ (by omega) (by omega) HQ.out).mono ?_
        intro e w3 hres
        unfold InvRes at hres
        cases hg : gjs m M m with
        | none =>
          rw [hg] at hres
          obtain ⟨A3, C3, rfl, hr3, hB3⟩ := hres
          have HT3 := Lib.hid (HT.out.trans (hB3.mono HT.out.size))
          clear hr3 hB3 hg
          go_wp2_with (go_at_call 19; refine (num_any _ _).mono ?_; rintro e w' ⟨rfl, rfl⟩)
          go_ret
          exact ⟨rfl, HT3.out⟩
        | some s =>
          obtain ⟨R, V⟩ := s
          rw [hg] at hres
          obtain ⟨A3, C3, rfl, hr3, hB3⟩ := hres
          have HT3 := Lib.hid (HT.out.trans (hB3.mono HT.out.size))
          have HG := Lib.hid hg
          have HR3 := Lib.hid hr3
          have HQ3 := Lib.hid (HQ.out.old hB3)
          have HV3 := Lib.hid (HV2.out.old hB3)
          clear hr3 hB3 hg
          go_wp2_with fail
          refine (num_any _ _).mono ?_
          rintro e w' ⟨rfl, rfl⟩
          go_wp2_with fail
          refine (apply_main _ m C m M _ _ Cv v _ _ (by omega) (by omega) (by omega) (by omega) HQ3.out HV3.out).mono ?_
          rintro e w4 ⟨A4, C4, rfl, hr4, hB4⟩
          have HT4 := Lib.hid (HT3.out.trans (hB4.mono HT3.out.size))
          have HX4 := Lib.hid hr4
          have HR4 := Lib.hid (HR3.out.below hB4)
          have HV4 := Lib.hid (HV3.out.old hB4)
          clear hr4 hB4
          go_wp2_with fail
          refine (apply_main _ m C3 m V _ _ C4 (mv m M v) _ _ (by omega) (by omega) (by omega) (by omega) HR4.out HX4.out).mono ?_
          rintro e w5 ⟨A5, C5, rfl, hr5, hB5⟩
          have HT5 := Lib.hid (HT4.out.trans (hB5.mono HT4.out.size))
          have hs1 := str_run hr5 C5
          rw [strOf_congr (fun j hj => undo HG.out v hj)] at hs1
          have hs2 := str_run (HV4.out.old hB5) Cv
          clear hr5 hB5
          go_wp2_with (go_at_call 19; refine (num_any _ _).mono ?_; rintro e w' ⟨rfl, rfl⟩)
          go_ret
          exact ⟨rfl, HT5.out⟩
      · have b2 : ((m : Int) != (n : Int)) = true := by rw [bne_iff_ne]; omega
        have b1 : ((n : Int) != (L 0 : Int)) = false := by rw [← e1]; simp
        clear e1 e2
        go_wp2
        go_ret
        exact ⟨rfl, HT.out⟩
    · have b1 : ((n : Int) != (L 0 : Int)) = true := by rw [bne_iff_ne]; omega
      clear e1
      go_wp2
      go_ret
      exact ⟨rfl, HT.out⟩

theorem gjs_one (n : Nat) : ∃ R V, gjs n one n = some (R, V) ∧ ∀ i, i < n → ∀ j, j < n → V i j = one i j := by
  obtain ⟨R, V, h⟩ := gjs_some (n := n) (M := one) (fun x hx c hc => by rw [← mv_one hc x]; exact hx c hc)
  exact ⟨R, V, h, fun i hi j hj => by rw [← (gjs_ok h).2 i hi j hj]; exact (mm_one_right hj V i).symm⟩

set_option maxRecDepth 100000 in
set_option maxHeartbeats 4000000 in
theorem matrixOne_walk (n : Int) (D : Option Addr) (m Cv : Nat) (v : Nat → Fe) (G : Nat → Prop) (w : World) (h0 : -9223372036854775808 ≤ n) (h1 : n ≤ 9223372036854775807)
    (hm : m ≤ maxLen) (hv : Rd w D m v G) :
    Calls Try.prog 6 #[.int .i64 n, .slice D m Cv] w fun e w' => e = .returned (.bool true) ∧ Below w.heap.size w w' := by
  have HV0 := Lib.hid hv
  clear hv
  unfold maxLen at hm
  by_cases hout : n < 1 ∨ 30 < n ∨ (m : Int) ≠ n
  · rcases (show n < 1 ∨ (1 ≤ n ∧ 30 < n) ∨ (1 ≤ n ∧ n ≤ 30 ∧ (m : Int) ≠ n) by omega) with k1 | ⟨k1, k2⟩ | ⟨k1, k2, k3⟩
    · clear hout
      go_enter Try.func6, Try.ntmps6
      go_wp2_with fail
      refine (alive_true _).mono ?_
      rintro e w1 ⟨rfl, hB⟩
      have HB := Lib.hid hB
      clear hB
      go_wp2
      go_ret
      exact ⟨rfl, HB.out⟩
    · clear hout
      go_enter Try.func6, Try.ntmps6
      go_wp2_with fail
      refine (alive_true _).mono ?_
      rintro e w1 ⟨rfl, hB⟩
      have HB := Lib.hid hB
      clear hB
      go_wp2
      go_ret
      exact ⟨rfl, HB.out⟩
    · have b1 : ((m : Int) != n) = true := by rw [bne_iff_ne]; exact k3
      clear hout k3
      go_enter Try.func6, Try.ntmps6
      go_wp2_with fail
      refine (alive_true _).mono ?_
      rintro e w1 ⟨rfl, hB⟩
      have HB := Lib.hid hB
      clear hB
      go_wp2
      go_ret
      exact ⟨rfl, HB.out⟩
  · have k1 : 1 ≤ m := by omega
    have k2 : m ≤ 30 := by omega
    obtain rfl : n = (m : Int) := by omega
    clear hout h0 h1
    have HMK := Lib.hid (run_make_row' (P := Try.prog) 23 5 (.int .u8 0) 1 Try.underlying23 infoByte rfl .i64 .i64 m (by omega) (by omega))
    obtain ⟨R, V, hg, hV⟩ := gjs_one m
    have HG := Lib.hid hg
    have HVV := Lib.hid hV
    clear hg hV
    go_enter Try.func6, Try.ntmps6
    go_wp2_with fail
    refine (alive_true _).mono ?_
    rintro e w1 ⟨rfl, hB⟩
    have HV1 := Lib.hid (HV0.out.old hB)
    have HB0 := Lib.hid hB
    clear hB HV0
    go_wp2
    go_loopw [7, 6] (fun vi vo wr => ∃ i : Nat, i ≤ m ∧ vi = .int .i64 (i : Int) ∧ Hid (∃ G C, OwnA wr w1.heap.size vo i m G C one) ∧ Hid (Below w1.heap.size w1 wr)) (fun vi _ _ => m - (intOf vi).toNat)
    case atStart => exact ⟨0, by omega, rfl, Lib.hid ⟨fun _ => 0, fun _ => 0, OwnA.start _ _ _ _ _ _⟩, Lib.hid (Below.refl _ _)⟩
    case round =>
      obtain ⟨i, hi, rfl, HO, HB⟩ := hrel
      obtain ⟨G1, Cp1, hO⟩ := HO.out
      have HO' := Lib.hid hO
      clear hO HO
      obtain ⟨wo, rfl⟩ : ∃ x, x = wr := ⟨wr, rfl⟩
      by_cases hlt : i < m
      · have hmade := RowAt.made wo m
        have d1 := hmade.cell hlt
        have f1 := hmade.frozen i
        have HRW : Hid (RowAt ((wo.alloc (.cells (madeCells #[.int .u8 0] m) 5)).setCell ⟨wo.heap.size, i, none⟩ (.int .u8 1)) wo.heap.size m (one i)) := Lib.hid ((hmade.set i 1).congr fun j _ => by
          unfold one
          by_cases e : j = i
          · rw [if_pos e, if_pos e.symm]
          · rw [if_neg e, if_neg (fun h => e h.symm)])
        have HB2 : Hid (Below wo.heap.size wo ((wo.alloc (.cells (madeCells #[.int .u8 0] m) 5)).setCell ⟨wo.heap.size, i, none⟩ (.int .u8 1))) := Lib.hid (((Below.refl _ _).alloc (Nat.le_refl _) _).setCell (p := ⟨wo.heap.size, i, none⟩) (Nat.le_refl _) _)
        rw [World.setCell_alloc_at _ _ _ _ _ rfl] at HRW HB2
        have HA := Lib.hid (HO'.out.old HB2.out)
        have HX := Lib.hid (HB.out.trans (HB2.out.mono HB.out.size))
        obtain ⟨i0, hi0, hz0, hz1, hz2⟩ := info_parts infoRow
        have hown := HA.out.top
        have hlow : w1.heap.size ≤ wo.heap.size := HB.out.size
        have hmk := HMK.out
        clear hmade
        go_wp2_with (at_builtin; refine wpList_append_own _ rfl _ _ 22 rfl w1.heap.size 23 i0 (.slice none 0 0) 1 24 Try.underlying22 hi0 hz0 hz1 hz2 rfl (by decide) _ _ _ rfl (hown.alloc _) ⟨wo.heap.size + 1, 0, none⟩ 1 1 [.slice (some ⟨wo.heap.size, 0, none⟩) m m] rfl rfl (oneCellAt _ _ _ _ (by simp)) (oneSlice _ _ _) (by unfold maxLen; omega) (by omega) (by simp; omega) ?_)
        intro v' w3 hown' hgrow _
        have HP := Lib.hid (HA.out.push hgrow hown' HRW.out (fun r hr => by have := (HO'.out.rows r hr).lt; omega) HB.out.size (Nat.le_refl m))
        have HB3 := Lib.hid ((HX.out.alloc (by simp; omega) _).grown hgrow (by simp; omega) (fun x hx => (HA.out.top.lt x hx).1))
        clear hown' hgrow hown hmk d1 f1
        go_wp2
        go_roundw
        case rel => exact ⟨i + 1, by omega, by go_num, Lib.hid ⟨_, _, HP.out.congr (M' := one) fun r _ c _ => by by_cases e : r = i <;> simp [e]⟩, HB3⟩
        case measure => simp [intOf]; omega
      · obtain rfl : i = m := by omega
        obtain ⟨b, cp, rfl, _, _, hK⟩ := HO'.out.own k1
        have HK := Lib.hid (hK.rdAll (Nat.le_refl _))
        have HT := Lib.hid (HB0.out.trans (HB.out.mono HB0.out.size))
        have HV2 := Lib.hid (HV1.out.old HB.out)
        clear hK HO' HB HB0 HV1
        go_wp2_with fail
        refine (inverse_main _ i cp one _ _ k1 (by omega) HK.out).mono ?_
        intro e w3 hres
        unfold InvRes at hres
        rw [HG.out] at hres
        obtain ⟨A3, C3, rfl, hr3, hB3⟩ := hres
        have HT3 := Lib.hid (HT.out.trans (hB3.mono HT.out.size))
        have HR3 := Lib.hid hr3
        have HK3 := Lib.hid (HK.out.old hB3)
        have HV3 := Lib.hid (HV2.out.old hB3)
        clear hr3 hB3
        go_wp2_with fail
        refine (apply_main _ i cp i one _ _ Cv v _ _ (by omega) (by omega) (by omega) (by omega) HK3.out HV3.out).mono ?_
        rintro e w4 ⟨A4, C4, rfl, hr4, hB4⟩
        have HT4 := Lib.hid (HT3.out.trans (hB4.mono HT3.out.size))
        have HX4 := Lib.hid hr4
        have HR4 := Lib.hid (HR3.out.below hB4)
        have HK4 := Lib.hid (HK3.out.old hB4)
        have HV4 := Lib.hid (HV3.out.old hB4)
        clear hr4 hB4
        go_wp2_with fail
        refine (mul_main _ i cp i one _ _ cp i one _ _ (by omega) (by omega) (by omega) (by omega) (by omega) (by omega) HK4.out HK4.out).mono ?_
        rintro e w5 ⟨A5, C5, rfl, hr5, hB5⟩
        have HT5 := Lib.hid (HT4.out.trans (hB5.mono HT4.out.size))
        have HP5 := Lib.hid hr5
        have HX5 := Lib.hid (HX4.out.below hB5)
        have HR5 := Lib.hid (HR4.out.old hB5)
        have HK5 := Lib.hid (HK4.out.old hB5)
        have HV5 := Lib.hid (HV4.out.old hB5)
        clear hr5 hB5
        go_wp2_with fail
        refine (num_any _ _).mono ?_
        rintro e w' ⟨rfl, rfl⟩
        go_wp2_with fail
        refine (sameRows_any _ _ _ _ _ _ _ _ _ _ _ (by unfold maxLen; omega) HR5.out HK5.out (fun r hr c hc => HVV.out r hr c hc)).mono ?_
        rintro e w6 ⟨rfl, hB6⟩
        have HT6 := Lib.hid (HT5.out.trans (hB6.mono HT5.out.size))
        have hs1 := str_run (HX5.out.old hB6) C4
        rw [strOf_congr (fun j hj => mv_one hj v)] at hs1
        have hs2 := str_run (HV5.out.old hB6) Cv
        have HP6 := Lib.hid (HP5.out.old hB6)
        have HK6 := Lib.hid (HK5.out.old hB6)
        clear hB6
        go_wp2_with fail
        refine (num_any _ _).mono ?_
        rintro e w' ⟨rfl, rfl⟩
        go_wp2_with fail
        refine (num_any _ _).mono ?_
        rintro e w' ⟨rfl, rfl⟩
        clear hs1 hs2
        go_wp2_with fail
        refine (sameRows_any _ _ _ _ _ _ _ _ _ _ _ (by unfold maxLen; omega) HP6.out HK6.out (fun r hr c hc => mm_one_left hr one c)).mono ?_
        rintro e w7 ⟨rfl, hB7⟩
        have HT7 := Lib.hid (HT6.out.trans (hB7.mono HT6.out.size))
        clear hB7
        go_wp2
        go_ret
        exact ⟨rfl, HT7.out⟩
end Go.Proofs.Ytanaldojoacbeaa
