/- The law ErasureLine answers true: parity is shared out over sums. -/
import Derived.Test.YtelkeoopfejgnaaErAlive
import Derived.Test.YtelkeoopfejgnaaMxSized
namespace Go.Proofs.Ytelkeoopfejgnaa
open Go.RowKit Mx

theorem par_add (n p : Nat) (M M' : Mat) (i c : Nat) : par n p (fun j c => M j c + M' j c) i c = par n p M i c + par n p M' i c := by
  unfold par mv
  rw [← sm_add]
  exact sm_congr fun k _ => mul_add _ _ _
set_option maxRecDepth 100000 in
set_option maxHeartbeats 8000000 in
theorem erasureLine_main (A : Option Addr) (n C : Nat) (L : Nat → Nat) (M : Mat) (B : Option Addr) (C' : Nat) (L' : Nat → Nat) (M' : Mat) (p : Nat) (G G' : Nat → Prop) (w : World)
    (hn0 : 0 < n) (hn : n ≤ 20) (hp0 : 0 < p) (hp : p ≤ 8) (hL : ∀ i, i < n → L i ≤ 140737488351232) (h : RdM w A n L M G) (h' : RdM w B n L' M' G') :
    Calls Try.prog 5 #[.slice A n C, .slice B n C', .int .i64 (p : Int)] w fun e w' => e = .returned (.bool true) ∧ Below w.heap.size w w' := by
  have H0 := Lib.hid h
  have H0' := Lib.hid h'
  have HL := Lib.hid hL
  clear h h' hL
  have y1 : decide ((n : Int) < 1) = false := decide_eq_false (by omega)
  have y2 : decide ((20 : Int) < (n : Int)) = false := decide_eq_false (by omega)
  have y3 : decide ((p : Int) < 1) = false := decide_eq_false (by omega)
  have y4 : decide ((8 : Int) < (p : Int)) = false := decide_eq_false (by omega)
  have y5 : ((n : Int) != (n : Int)) = false := by simp
  go_enter Try.func5, Try.ntmps5
  go_wp2_with fail
  refine (alive3_true _).mono ?_
  rintro e w1 ⟨rfl, hB⟩
  have H1 := Lib.hid (H0.out.old hB)
  have H1' := Lib.hid (H0'.out.old hB)
  have HB1 := Lib.hid hB
  clear hB H0 H0'
  go_wp2_with fail
  refine (few_sized _ _ _ _ _ _ _ (by unfold maxLen; omega) HL.out H1.out).mono ?_
  rintro e w' ⟨b1, rfl, rfl, hfew⟩
  cases b1
  · clear hfew
    go_wp2
    go_ret
    exact ⟨rfl, HB1.out⟩
  obtain ⟨_, hf2⟩ := hfew rfl
  obtain ⟨m, hm⟩ : ∃ m, m = L 0 := ⟨_, rfl⟩
  have hm2 : m ≤ 2000 := by rw [hm]; exact hf2 0 hn0
  clear hfew hf2
  obtain ⟨b0, off0, A0, C0, rfl, _, hc0, _⟩ := H1.out.row hn0
  rw [Nat.add_zero, ← hm] at hc0
  obtain ⟨bb, offb, _, _, rfl, _, _, _⟩ := H1'.out.row hn0
  have hb0 := World.block_lt_of_cell? _ _ hc0
  have HC0 := Lib.hid hc0
  have HLm := Lib.hid hm
  clear hc0 hm
  have HMK := Lib.hid (run_make_row' (P := Try.prog) 34 5 (.int .u8 0) 1 Try.underlying34 infoByte rfl .i64 .i64 m (by omega) (by omega))
  go_wp2
  clear y1 y2 y3 y4 y5
  go_loopw [9, 8] (fun vi vo wr => ∃ i : Nat, i ≤ n ∧ vi = .int .i64 (i : Int) ∧ Hid (∃ G C, OwnA wr w1.heap.size vo i m G C (fun j c => M j c + M' j c)) ∧ Hid (∀ j, j < i → L j = m ∧ L' j = m) ∧ Hid (Below w1.heap.size w1 wr)) (fun vi _ _ => n - (intOf vi).toNat)
  case atStart => exact ⟨0, by omega, rfl, Lib.hid ⟨fun _ => 0, fun _ => 0, OwnA.start _ _ _ _ _ _⟩, Lib.hid (fun j hj => absurd hj (by omega)), Lib.hid (Below.refl _ _)⟩
  case round =>
    obtain ⟨i, hi, rfl, HO, HE, HB⟩ := hrel
    obtain ⟨G1, Cp1, hO⟩ := HO.out
    have HO' := Lib.hid hO
    clear hO HO
    have hd0 := (HB.out.cell hb0).trans HC0.out
    by_cases hlt : i < n
    · obtain ⟨b2, off2, Ai, Ci, e, _, d1, hri⟩ := (H1.out.old HB.out).row hlt
      obtain ⟨rfl, rfl⟩ : b0 = b2 ∧ off0 = off2 := by simpa using e
      obtain ⟨b3, off3, Bi, Di, e', _, d2, hri'⟩ := (H1'.out.old HB.out).row hlt
      obtain ⟨rfl, rfl⟩ : bb = b3 ∧ offb = off3 := by simpa using e'
      clear e e'
      have HBX := Lib.hid (HB1.out.trans (HB.out.mono HB1.out.size))
      by_cases he : L i = m
      · have x1 : ((L i : Int) != (m : Int)) = false := by rw [he]; simp
        by_cases he' : L' i = m
        · have x2 : ((L' i : Int) != (m : Int)) = false := by rw [he']; simp
          have HRI := Lib.hid hri.in_
          have HRI' := Lib.hid hri'.in_
          have HE2 : Hid (∀ j, j < i + 1 → L j = m ∧ L' j = m) := Lib.hid fun j hj => by
            by_cases e : j = i
            · rw [e]; exact ⟨he, he'⟩
            · exact HE.out j (by omega)
          have hle : L i ≤ m := by omega
          have hge : m ≤ L i := by omega
          have hle' : L' i ≤ m := by omega
          have hge' : m ≤ L' i := by omega
          clear hri hri' he he' HE
          have hmk := HMK.out
          have D1 := Lib.hid d1
          have D2 := Lib.hid d2
          go_wp2
          go_quiet (fail)
          go_wp2
          clear hmk x1 x2 d1 d2 hd0
          have hbd : Below wr.heap.size wr (wr.drewN nq) := ⟨rfl, rfl, rfl, Nat.le_refl _, fun _ _ => rfl⟩
          have HOd := Lib.hid (HO'.out.old hbd)
          have HBd := Lib.hid (HB.out.trans (hbd.mono HB.out.size))
          have HRd := Lib.hid (HRI.out.old hbd)
          have HRd' := Lib.hid (HRI'.out.old hbd)
          have D3 := Lib.hid ((hbd.cell (World.block_lt_of_cell? _ _ D1.out)).trans D1.out)
          have D4 := Lib.hid ((hbd.cell (World.block_lt_of_cell? _ _ D2.out)).trans D2.out)
          have hso : (wr.drewN nq).heap.size = wr.heap.size := rfl
          obtain ⟨wo, hwo⟩ : ∃ x, x = wr.drewN nq := ⟨_, rfl⟩
          obtain ⟨s0, hs0⟩ : ∃ x, x = wr.heap.size := ⟨_, rfl⟩
          rw [← hwo] at HOd HBd HRd HRd' D3 D4 hso ⊢
          rw [← hs0] at hso HRd HRd' ⊢
          clear hbd hwo hs0 HO' HB HRI HRI' D1 D2
          have HRow : Hid (RowAt (wo.alloc (.cells (madeCells #[.int .u8 0] m) 5)) s0 m (fun _ => 0)) := by rw [← hso]; exact Lib.hid (RowAt.made wo m)
          have HSO := Lib.hid hso
          clear hso
          go_loopw [11] (fun vc wq => ∃ c : Nat, c ≤ m ∧ vc = .int .i64 (c : Int) ∧ Hid (RowAt wq s0 m (fun x => if x < c then M i x + M' i x else 0)) ∧ Hid (Below wo.heap.size wo wq)) (fun vc _ => m - (intOf vc).toNat)
          case atStart => exact ⟨0, by omega, rfl, Lib.hid (HRow.out.congr fun x _ => by rw [if_neg (by omega)]), Lib.hid ((Below.refl _ _).alloc (Nat.le_refl _) _)⟩
          case round =>
            obtain ⟨c, hc, rfl, HO2, HB2⟩ := hrel
            clear HRow
            by_cases hltc : c < m
            · have hc1 : c < L i := by omega
              have hc2 : c < L' i := by omega
              have d1 := (HB2.out.cell (World.block_lt_of_cell? _ _ D3.out)).trans D3.out
              have d2 := (HB2.out.cell (World.block_lt_of_cell? _ _ D4.out)).trans D4.out
              obtain ⟨b5, off5, rfl, _, d3⟩ := (HRd.out.old HB2.out).at hc1
              obtain ⟨b6, off6, rfl, _, d4⟩ := (HRd'.out.old HB2.out).at hc2
              have d5 := HO2.out.cell hltc
              have f5 := HO2.out.frozen c
              have HX := Lib.hid (xor_fi (M i c) (M' i c))
              have HS := Lib.hid ((HO2.out.set c (M i c + M' i c)).congr (f' := fun x => if x < c + 1 then M i x + M' i x else 0) fun x _ => upTo_step (f := fun _ => 0) (h := fun x => M i x + M' i x))
              go_wp2
              refine wp_region_still_tail 18 (by kernel_rfl) (by kernel_rfl) ?_
              simp only [List.take_succ_cons, List.take_zero, List.drop_succ_cons, List.drop_zero]
              repeat still_step
              refine wpStill_nil ?_
              rw [HX.out]
              change wpList _ _ _ _ _ wr.drew
              go_wp2
              go_roundw
              case rel => exact ⟨c + 1, by omega, by go_num, HS, Lib.hid ((HB2.out.drew).setCell (p := ⟨s0, c, none⟩) (by rw [HSO.out]; exact Nat.le_refl _) _)⟩
              case measure => simp [intOf]; omega
            · have HO5 : Hid (RowAt wr s0 m (fun x => M i x + M' i x)) := Lib.hid (HO2.out.congr fun x hx => by rw [if_pos (by omega)])
              have HAA := Lib.hid (HOd.out.old HB2.out)
              obtain ⟨i0, hi0, hz0, hz1, hz2⟩ := info_parts infoRow
              have hown := HAA.out.top
              have HXX := Lib.hid (HBd.out.trans (HB2.out.mono HBd.out.size))
              have hlow : w1.heap.size ≤ wr.heap.size := HXX.out.size
              go_wp2_with (at_builtin; refine wpList_append_own _ rfl _ _ 22 rfl w1.heap.size 34 i0 (.slice none 0 0) 1 24 Try.underlying22 hi0 hz0 hz1 hz2 rfl (by decide) _ _ _ rfl (hown.alloc _) ⟨wr.heap.size, 0, none⟩ 1 1 [.slice (some ⟨s0, 0, none⟩) m m] rfl rfl (oneCell _ _ _) (oneSlice _ _ _) (by unfold maxLen; omega) (by omega) (by simp; omega) ?_)
              intro v' w3 hown' hgrow _
              have HP := Lib.hid (HAA.out.push hgrow hown' HO5.out (fun r hr => by have := (HOd.out.rows r hr).lt; have := HSO.out; omega) (by rw [← HSO.out]; exact HBd.out.size) (Nat.le_refl m))
              have HB3 := Lib.hid ((HXX.out.alloc hlow _).grown hgrow (by simp; omega) (fun x hx => (HAA.out.top.lt x hx).1))
              clear hown' hgrow hown
              go_wp2
              go_roundw
              case rel => exact ⟨i + 1, by omega, by go_num, Lib.hid ⟨_, _, HP.out.congr (M' := fun j c => M j c + M' j c) fun r _ c _ => by by_cases e : r = i <;> simp [e]⟩, HE2, HB3⟩
              case measure => simp [intOf]; omega
        · have x2 : ((L' i : Int) != (m : Int)) = true := by rw [bne_iff_ne]; omega
          clear hri hri'
          go_wp2
          go_quiet (fail)
          go_wp2
          go_ret
          exact ⟨rfl, HBX.out.os, HBX.out.tape, HBX.out.output, HBX.out.size, HBX.out.block⟩
      · have x1 : ((L i : Int) != (m : Int)) = true := by rw [bne_iff_ne]; omega
        clear hri hri'
        go_wp2
        go_quiet (fail)
        go_wp2
        go_ret
        exact ⟨rfl, HBX.out.os, HBX.out.tape, HBX.out.output, HBX.out.size, HBX.out.block⟩
    · have hin : i = n := by omega
      obtain ⟨bc, cc, rfl, _, _, hK⟩ := HO'.out.own (by omega)
      rw [hin] at hK
      have HKR := Lib.hid (hK.rdAll (Nat.le_refl _))
      have HEA : Hid (∀ j, j < n → L j = m) := Lib.hid fun j hj => (HE.out j (by omega)).1
      have HEB : Hid (∀ j, j < n → L' j = m) := Lib.hid fun j hj => (HE.out j (by omega)).2
      obtain ⟨w2, rfl⟩ : ∃ x, x = wr := ⟨wr, rfl⟩
      have HA2 := Lib.hid ((H1.out.old HB.out).congr (L' := fun _ => m) (M' := M) HEA.out (fun _ _ _ _ => rfl))
      have HA2' := Lib.hid ((H1'.out.old HB.out).congr (L' := fun _ => m) (M' := M') HEB.out (fun _ _ _ _ => rfl))
      have HT2 := Lib.hid (HB1.out.trans (HB.out.mono HB1.out.size))
      have HC2 := Lib.hid hd0
      clear hK HO' HB HE H1 H1' hd0 HB1
      subst hin
      go_wp2_with fail
      refine (encode_main _ i C (fun _ => m) M _ p _ hn0 hp0 (by omega) (fun _ _ => rfl) (by omega) HA2.out).mono ?_
      intro e w3 hres
      obtain ⟨Ax, Cx, rfl, hrx, hB3⟩ := hres.res
      have HX3 := Lib.hid hrx
      have HT3 := Lib.hid (HT2.out.trans (hB3.mono HT2.out.size))
      have HA3' := Lib.hid (HA2'.out.old hB3)
      have HK3 := Lib.hid (HKR.out.old hB3)
      have HC3 := Lib.hid ((hB3.cell (World.block_lt_of_cell? _ _ HC2.out)).trans HC2.out)
      clear hrx hB3 HA2 HA2' HKR HC2 HT2 hres
      go_wp2_with fail
      refine (encode_main _ i C' (fun _ => m) M' _ p _ hn0 hp0 (by omega) (fun _ _ => rfl) (by omega) HA3'.out).mono ?_
      intro e w4 hres
      obtain ⟨Ay, Cy, rfl, hry, hB4⟩ := hres.res
      have HX4 := Lib.hid (HX3.out.old hB4)
      have HY4 := Lib.hid hry
      have HT4 := Lib.hid (HT3.out.trans (hB4.mono HT3.out.size))
      have HK4 := Lib.hid (HK3.out.old hB4)
      have HC4 := Lib.hid ((hB4.cell (World.block_lt_of_cell? _ _ HC3.out)).trans HC3.out)
      clear hry hB4 HA3' HK3 HC3 HT3 HX3 hres
      go_wp2_with fail
      refine (encode_main _ i cc (fun _ => m) (fun j c => M j c + M' j c) _ p _ hn0 hp0 (by omega) (fun _ _ => rfl) (by omega) HK4.out).mono ?_
      intro e w5 hres
      obtain ⟨Az, Cz, rfl, hrz, hB5⟩ := hres.res
      have HX5 := Lib.hid (HX4.out.old hB5)
      have HY5 := Lib.hid (HY4.out.old hB5)
      have HZ5 := Lib.hid hrz
      have HT5 := Lib.hid (HT4.out.trans (hB5.mono HT4.out.size))
      have HC5 := Lib.hid ((hB5.cell (World.block_lt_of_cell? _ _ HC4.out)).trans HC4.out)
      clear hrz hB5 HK4 HC4 HT4 HX4 HY4 hres
      have y1 : ((p : Int) != (p : Int)) = false := by simp
      go_wp2_with (first
        | (go_at_call 13; refine (num3_any _ _).mono ?_; rintro e w' ⟨rfl, rfl⟩))
      go_loopw [18] (fun vr wr => ∃ r : Nat, r ≤ p ∧ vr = .int .i64 (r : Int) ∧ Hid (Below w5.heap.size w5 wr)) (fun vr _ => p - (intOf vr).toNat)
      case atStart => exact ⟨0, by omega, rfl, Lib.hid (Below.refl _ _)⟩
      case round =>
        obtain ⟨r, hr, rfl, HB⟩ := hrel
        have HBT := Lib.hid (HT5.out.trans (HB.out.mono HT5.out.size))
        by_cases hltr : r < p
        · obtain ⟨b7, off7, Xr, Cxr, rfl, _, d1, hr1⟩ := (HX5.out.old HB.out).row hltr
          obtain ⟨b8, off8, Yr, Cyr, rfl, _, d2, hr2⟩ := (HY5.out.old HB.out).row hltr
          obtain ⟨b9, off9, Zr, Czr, rfl, _, d3, hr3⟩ := (HZ5.out.old HB.out).row hltr
          have d0 := (HB.out.cell (World.block_lt_of_cell? _ _ HC5.out)).trans HC5.out
          have HR1 := Lib.hid hr1
          have HR2 := Lib.hid hr2
          have HR3 := Lib.hid hr3
          have D1 := Lib.hid d1
          have D2 := Lib.hid d2
          have D3 := Lib.hid d3
          have x1 : ((m : Int) != (m : Int)) = false := by simp
          clear hr1 hr2 hr3
          go_wp2
          go_quiet (fail)
          go_wp2
          clear d0 d1 d2 d3 x1
          have hbd : Below wr.heap.size wr (wr.drewN nq) := ⟨rfl, rfl, rfl, Nat.le_refl _, fun _ _ => rfl⟩
          have HBd := Lib.hid (HB.out.trans (hbd.mono HB.out.size))
          have HR4 := Lib.hid (HR1.out.old hbd)
          have HR5 := Lib.hid (HR2.out.old hbd)
          have HR6 := Lib.hid (HR3.out.old hbd)
          have D4 := Lib.hid ((hbd.cell (World.block_lt_of_cell? _ _ D1.out)).trans D1.out)
          have D5 := Lib.hid ((hbd.cell (World.block_lt_of_cell? _ _ D2.out)).trans D2.out)
          have D6 := Lib.hid ((hbd.cell (World.block_lt_of_cell? _ _ D3.out)).trans D3.out)
          generalize wr.drewN nq = wo at HBd HR4 HR5 HR6 D4 D5 D6 ⊢
          clear hbd HR1 HR2 HR3 D1 D2 D3 HB HBT
          go_loopw [19] (fun vc wq => ∃ c : Nat, c ≤ m ∧ vc = .int .i64 (c : Int) ∧ Hid (Below wo.heap.size wo wq)) (fun vc _ => m - (intOf vc).toNat)
          case atStart => exact ⟨0, by omega, rfl, Lib.hid (Below.refl _ _)⟩
          case round =>
            obtain ⟨c, hc, rfl, HB2⟩ := hrel
            have d1 := (HB2.out.cell (World.block_lt_of_cell? _ _ D4.out)).trans D4.out
            have d2 := (HB2.out.cell (World.block_lt_of_cell? _ _ D5.out)).trans D5.out
            have d3 := (HB2.out.cell (World.block_lt_of_cell? _ _ D6.out)).trans D6.out
            by_cases hltc : c < m
            · obtain ⟨b10, off10, rfl, _, d4⟩ := (HR4.out.old HB2.out).at hltc
              obtain ⟨b11, off11, rfl, _, d5⟩ := (HR5.out.old HB2.out).at hltc
              obtain ⟨b12, off12, rfl, _, d6⟩ := (HR6.out.old HB2.out).at hltc
              have hx := xor_fi (par i p M r c) (par i p M' r c)
              rw [← par_add] at hx
              have x2 : (fi (par i p (fun j c => M j c + M' j c) r c) != fi (par i p (fun j c => M j c + M' j c) r c)) = false := by simp
              go_wp2
              go_quiet (fail)
              go_wp2
              go_roundw
              case rel => exact ⟨c + 1, by omega, by go_num, Lib.hid ⟨HB2.out.os, HB2.out.tape, HB2.out.output, HB2.out.size, HB2.out.block⟩⟩
              case measure => simp [intOf]; omega
            · go_wp2
              go_roundw
              case rel => exact ⟨r + 1, by omega, by go_num, Lib.hid (HBd.out.trans (HB2.out.mono HBd.out.size))⟩
              case measure => simp [intOf]; omega
        · go_wp2
          go_ret
          exact ⟨rfl, HBT.out⟩
set_option maxRecDepth 100000 in
set_option maxHeartbeats 8000000 in
theorem erasureLine_walk (A : Option Addr) (n C : Nat) (L : Nat → Nat) (M : Mat) (B : Option Addr) (n' C' : Nat) (L' : Nat → Nat) (M' : Mat) (p : Int) (G G' : Nat → Prop) (w : World)
    (hn : n ≤ maxLen) (hn' : n' ≤ maxLen) (hp : -9223372036854775808 ≤ p ∧ p ≤ 9223372036854775807) (hL : ∀ i, i < n → L i ≤ 140737488351232) (h : RdM w A n L M G) (h' : RdM w B n' L' M' G') :
    Calls Try.prog 5 #[.slice A n C, .slice B n' C', .int .i64 p] w fun e w' => e = .returned (.bool true) ∧ Below w.heap.size w w' := by
  obtain ⟨hp1, hp2⟩ := hp
  have HN := Lib.hid hn
  unfold maxLen at hn hn'
  have H0 := Lib.hid h
  have H0' := Lib.hid h'
  have HL := Lib.hid hL
  clear h h' hL
  by_cases c0 : n < 1
  · have y0 : decide ((n : Int) < 1) = true := decide_eq_true (by omega)
    go_enter Try.func5, Try.ntmps5
    go_wp2_with fail
    refine (alive3_true _).mono ?_
    rintro e w1 ⟨rfl, hB⟩
    have H1 := Lib.hid (H0.out.old hB)
    have HB := Lib.hid hB
    clear hB H0
    go_wp2_with fail
    refine (few_sized _ _ _ _ _ _ _ HN.out HL.out H1.out).mono ?_
    rintro e w' ⟨b1, rfl, rfl, _⟩
    cases b1
    · go_wp2
      go_ret
      exact ⟨rfl, HB.out⟩
    go_wp2
    go_ret
    exact ⟨rfl, HB.out⟩
  have y0 : decide ((n : Int) < 1) = false := decide_eq_false (by omega)
  by_cases c1 : 20 < n
  · have y1 : decide ((20 : Int) < (n : Int)) = true := decide_eq_true (by omega)
    go_enter Try.func5, Try.ntmps5
    go_wp2_with fail
    refine (alive3_true _).mono ?_
    rintro e w1 ⟨rfl, hB⟩
    have H1 := Lib.hid (H0.out.old hB)
    have HB := Lib.hid hB
    clear hB H0
    go_wp2_with fail
    refine (few_sized _ _ _ _ _ _ _ HN.out HL.out H1.out).mono ?_
    rintro e w' ⟨b1, rfl, rfl, _⟩
    cases b1
    · go_wp2
      go_ret
      exact ⟨rfl, HB.out⟩
    go_wp2
    go_ret
    exact ⟨rfl, HB.out⟩
  have y1 : decide ((20 : Int) < (n : Int)) = false := decide_eq_false (by omega)
  by_cases c2 : n' ≠ n
  · have y2 : ((n' : Int) != (n : Int)) = true := by rw [bne_iff_ne]; omega
    go_enter Try.func5, Try.ntmps5
    go_wp2_with fail
    refine (alive3_true _).mono ?_
    rintro e w1 ⟨rfl, hB⟩
    have H1 := Lib.hid (H0.out.old hB)
    have HB := Lib.hid hB
    clear hB H0
    go_wp2_with fail
    refine (few_sized _ _ _ _ _ _ _ HN.out HL.out H1.out).mono ?_
    rintro e w' ⟨b1, rfl, rfl, _⟩
    cases b1
    · go_wp2
      go_ret
      exact ⟨rfl, HB.out⟩
    go_wp2
    go_ret
    exact ⟨rfl, HB.out⟩
  have y2 : ((n' : Int) != (n : Int)) = false := by rw [show n' = n by omega]; simp
  by_cases c3 : p < 1
  · have y3 : decide (p < 1) = true := decide_eq_true (by omega)
    go_enter Try.func5, Try.ntmps5
    go_wp2_with fail
    refine (alive3_true _).mono ?_
    rintro e w1 ⟨rfl, hB⟩
    have H1 := Lib.hid (H0.out.old hB)
    have HB := Lib.hid hB
    clear hB H0
    go_wp2_with fail
    refine (few_sized _ _ _ _ _ _ _ HN.out HL.out H1.out).mono ?_
    rintro e w' ⟨b1, rfl, rfl, _⟩
    cases b1
    · go_wp2
      go_ret
      exact ⟨rfl, HB.out⟩
    go_wp2
    go_ret
    exact ⟨rfl, HB.out⟩
  have y3 : decide (p < 1) = false := decide_eq_false (by omega)
  by_cases c4 : 8 < p
  · have y4 : decide (8 < p) = true := decide_eq_true (by omega)
    go_enter Try.func5, Try.ntmps5
    go_wp2_with fail
    refine (alive3_true _).mono ?_
    rintro e w1 ⟨rfl, hB⟩
    have H1 := Lib.hid (H0.out.old hB)
    have HB := Lib.hid hB
    clear hB H0
    go_wp2_with fail
    refine (few_sized _ _ _ _ _ _ _ HN.out HL.out H1.out).mono ?_
    rintro e w' ⟨b1, rfl, rfl, _⟩
    cases b1
    · go_wp2
      go_ret
      exact ⟨rfl, HB.out⟩
    go_wp2
    go_ret
    exact ⟨rfl, HB.out⟩
  have y4 : decide (8 < p) = false := decide_eq_false (by omega)
  obtain ⟨k, rfl⟩ : ∃ k : Nat, p = (k : Int) := ⟨p.toNat, by omega⟩
  obtain rfl : n' = n := by omega
  exact erasureLine_main A n' C L M B C' L' M' k G G' w (by omega) (by omega) (by omega) (by omega) HL.out H0.out H0'.out
end Go.Proofs.Ytelkeoopfejgnaa
