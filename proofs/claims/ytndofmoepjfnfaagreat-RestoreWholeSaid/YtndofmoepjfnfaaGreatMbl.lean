/- The law of chapter 19: a file that was laid is read as it was. What the walk is told of a row of bytes that came in as an argument. What the walk is told of bytes that came in as an argument, as a list. -/
import Derived.Test.YtndofmoepjfnfaaGreatMbf
import Derived.Test.YtndofmoepjfnfaaGreatMao
import Derived.Test.YtndofmoepjfnfaaGreatMbi
import Derived.Test.YtndofmoepjfnfaaGreatMbk
import Derived.Test.YtndofmoepjfnfaaGreatRefFmG
import Derived.Test.YtndofmoepjfnfaaGreatRows
import Derived.Test.YtndofmoepjfnfaaGreatMac
import Derived.OpenShut
import Derived.Test.YtndofmoepjfnfaaGreatMad
import Derived.Deep.Slices
import Derived.Deep.Fields
namespace Go.Proofs.YtndofmoepjfnfaaGreat
open Go.RowKit
open Pt (Tx)

set_option maxRecDepth 100000 in
set_option maxHeartbeats 16000000 in
theorem restoreWhole_main (A0 : Option Addr) (b : Tx) (L C0 : Nat) (G0 : Nat → Prop) (A1 : Option Addr) (m C1 : Nat) (z1 : Nat → Int) (A2 : Option Addr) (q C2 : Nat) (z2 : Nat → Int) (w : World) (hL : L = b.length) (hL2 : L ≤ 2000) (hC0 : L ≤ C0) (hCm : C0 ≤ maxLen) (hr0 : RdL w A0 b G0) (hm : m ≤ 10) (hr1 : RdI w A1 m z1) (hq : q ≤ 10) (hr2 : RdI w A2 q z2) :
    Calls Tryz.prog 3 #[.slice A0 L C0, .slice A1 m C1, .slice A2 q C2] w fun e w' => e = .returned (.bool true) ∧ Below w.heap.size w w' := by
  have HL := Lib.hid hL
  have HR0 := Lib.hid hr0
  have HR1 := Lib.hid hr1
  have HR2 := Lib.hid hr2
  have g0 : decide (2000 < L) = false := decide_eq_false (by omega)
  have g1 : decide (10 < m) = false := decide_eq_false (by omega)
  have g2 : decide (10 < q) = false := decide_eq_false (by omega)
  clear hL hr0 hr1 hr2
  go_enter Tryz.func3, Tryz.ntmps3
  go_wp2_with (go_at_call 4; refine (alive19_true _).mono ?_; rintro e w1 ⟨rfl, hb1⟩; have HB1 := Lib.hid hb1; clear hb1)
  clear g0 g1 g2
  go_loopw [9, 8] (fun vi vl wr => ∃ i : Nat, i ≤ m ∧ vi = .int .i64 (i : Int) ∧ Hid (encT.Own wr w1.heap.size 28 vl (Rs.tvs z1 i)) ∧ Hid (Below w1.heap.size w1 wr)) (fun vi _ _ => m - (intOf vi).toNat)
  case atStart => exact ⟨0, Nat.zero_le _, rfl, Lib.hid (Enc.Own.nil _ _ _), Lib.hid (Below.refl _ _)⟩
  case round =>
    obtain ⟨i, hi, rfl, HO, HBR⟩ := hrel
    by_cases hlt : i < m
    · have e1 : decide (i < m) = true := decide_eq_true hlt
      obtain ⟨rb, ro, rfl, c0⟩ := (HR1.out.old (HB1.out.trans (HBR.out.mono HB1.out.size))).at hlt
      obtain ⟨hand, hlo⟩ := Rs.and_31 (z1 i)
      obtain ⟨cp, hcp⟩ : ∃ cp, cp = Rs.cap z1 i := ⟨_, rfl⟩
      have hcap : 3 + (Rs.lo5 (z1 i) : Int) = cp := hcp.symm
      have hc1 : 3 ≤ cp := by omega
      have hc2 : cp ≤ 34 := by omega
      have s3 : IntKind.i64.wrap cp = cp := IntWalk.i64_in _ (by omega)
      have HNX : Hid (Rs.tvs z1 (i + 1) = Rs.tvs z1 i ++ [⟨(i : Int) + 1, cp, none, 0, 0, false⟩]) := Lib.hid (by rw [Rs.tvs_succ, hcp]; rfl)
      obtain ⟨x, hx⟩ : ∃ x, x = z1 i := ⟨_, rfl⟩
      rw [← hx] at c0 hand hcap
      clear hx hcp hlo
      have HOWN := Lib.hid (HO.out.old ((Below.refl wr.heap.size wr).alloc (Nat.le_refl _) (.cells #[.int .i64 ((i : Int) + 1), .int .i64 cp, .slice none 0 0, .bool false] 28)))
      have hml1 : (Rs.tvs z1 i).length + 1 ≤ maxLen := by rw [Rs.tvs_len]; unfold maxLen; omega
      have hml2 : ((Rs.tvs z1 i).length + 1) * 48 ≤ 140737488355328 := by rw [Rs.tvs_len]; omega
      have hsz : w1.heap.size ≤ (wr.alloc (.cells #[.int .i64 ((i : Int) + 1), .int .i64 cp, .slice none 0 0, .bool false] 28)).heap.size := by have := HBR.out.size; simp; omega
      go_wp2_with (at_builtin; refine wpList_append_st' encT _ rfl _ _ _ rfl w1.heap.size 28 _ 48 Tryz.underlying25 infoTape rfl _ (Rs.tvs z1 i) rfl HOWN.out ⟨wr.heap.size, 0, none⟩ 1 1 [⟨(i : Int) + 1, cp, none, 0, 0, false⟩] rfl rfl (newCells wr [.int .i64 ((i : Int) + 1), .int .i64 cp, .slice none 0 0, .bool false] _) hml1 hml2 hsz ?_; intro v' w5 ho5 hg5; rw [← HNX.out] at ho5; have HO5 := Lib.hid ho5; have HB5 := Lib.hid ((HBR.out.alloc HBR.out.size _).grown hg5 hsz (fun x hx => (HO.out.lt x hx).1)); clear ho5 hg5)
      go_roundw
      case rel => exact ⟨i + 1, by omega, by go_num, HO5, HB5⟩
      case measure => simp [intOf]; omega
    · have e1 : decide (i < m) = false := decide_eq_false hlt
      have him : i = m := by omega
      have HOm := HO.out
      rw [him] at HOm
      obtain ⟨At, Ct', rfl, ht1, ht2, ht3, htr⟩ := HOm.rd
      rw [Rs.tvs_len] at ht1 ht3
      have HRT : Hid (RdT wr At (Rs.tps (Rs.caps z1 m) fun _ => []) (w1.heap.size ≤ ·)) := Lib.hid (blank_rdT (htr.mono fun x hx => hx.1))
      have htl := Rs.tvs_len z1 m
      rw [htl]
      clear HOm htr ht1 ht2 ht3 HO him hlt htl
      obtain ⟨w2, rfl⟩ : ∃ x, x = wr := ⟨wr, rfl⟩
      have HB2 := Lib.hid (HB1.out.trans (HBR.out.mono HB1.out.size))
      obtain ⟨w3, hw3⟩ : ∃ x, x = w2.alloc (headObj [97] 1 L 0 0 1 0 false) := ⟨_, rfl⟩
      have h23 : Below w2.heap.size w2 w3 := by rw [hw3]; exact (Below.refl _ _).alloc (Nat.le_refl _) _
      have hk3 : w3.heap[w2.heap.size]? = some (headObj [97] 1 L 0 0 1 0 false) := by rw [hw3]; exact Go.Deep.blk_alloc_new _ _
      have HW3 : Hid (w3 = w2.alloc (.cells #[.string ⟨#[97]⟩, .int .i64 1, .int .i64 L, .int .i64 0, .int .i64 0, .int .i64 1, .int .i64 0, .bool false] 30)) := Lib.hid hw3
      have HB3 := Lib.hid (HB2.out.trans (h23.mono HB2.out.size))
      obtain ⟨caps, hcaps⟩ : ∃ caps, caps = Rs.caps z1 m := ⟨_, rfl⟩
      rw [← hcaps] at HRT
      have hcl : caps.length = m := by rw [hcaps, Rs.caps_len]
      have hcin : ∀ i, i < caps.length → 3 ≤ caps.getD i 0 ∧ caps.getD i 0 ≤ 64 := fun i hi => by
        rw [hcaps, Rs.caps_getD (by omega)]; have := Rs.cap_in z1 i; omega
      have hcat : ∀ i (h : i < caps.length), 3 ≤ caps[i] ∧ caps[i] ≤ 64 := fun i h => by
        have := hcin i h
        rw [List.getD_eq_getElem?_getD, List.getElem?_eq_getElem h] at this
        exact this
      have hb2 : b.length ≤ 2000 := by rw [← HL.out]; exact hL2
      have hd0 : (⟨[97], 1, (L : Int), 0, 0, 1, 0, false⟩ : Rc.H) = Rs.hd0 b := by rw [HL.out]; rfl
      have hrooms := Rs.rooms_tps (caps := caps) fun i hi => by have := (hcin i hi).1; omega
      have hcall := refFile_any (Rs.tps caps fun _ => []) [] At m Ct' none 0 0 _ (fun _ => True) G0 [97] 1 (L : Int) 0 0 1 0 false A0 b L C0 w3 (by rw [Rs.tps_len, hcl]) (HRT.out.old h23) (by omega) rfl (by omega) (Enc.Rd.nil _ _ _) (fun x hx => nomatch hx) (fun t ht => by
        obtain ⟨i, hi, rfl⟩ := Rs.mem_tps ht
        have := hcin i hi
        exact ⟨Nat.zero_le _, (fun s hs => nomatch hs), by show (-1000000000 : Int) ≤ caps.getD i 0; omega, by show caps.getD i 0 ≤ 1000000000; omega⟩) HL.out (by omega) hC0 hCm (HR0.out.old HB3.out) rfl (by unfold maxLen; decide) (fun he => by
        have he' : Rs.errR (caps.map fun c => c - 1) (b.length : Int) = 0 := by rw [← hrooms, ← HL.out]; exact he
        have hch := (Rs.chain_plan hcat he').1
        rw [hd0]
        have hpl : Rs.planR (Wr.rooms (Rs.tps caps fun _ => []) (List.map Sx.s [])) (L : Int) = Rs.planR (caps.map fun c => c - 1) (b.length : Int) := by rw [← hrooms, HL.out]; rfl
        rw [hpl]
        exact Rs.ok_is hb2 (by omega) (Rs.planR_nonneg (by omega) he') hch)
      rw [hd0] at hcall
      have hre : Wr.rooms (Rs.tps caps fun _ => []) (List.map Sx.s []) = caps.map fun c => c - 1 := hrooms
      rw [hre] at hcall
      obtain ⟨er, her⟩ : ∃ er, er = Rs.errR (caps.map fun c => c - 1) (L : Int) := ⟨_, rfl⟩
      rw [← her] at hcall
      obtain ⟨res, hres⟩ : ∃ res, res = if er = 0 then Wr.steps (Rs.tps caps fun _ => []) (Rs.hd0 b) b (Rs.planR (caps.map fun c => c - 1) (L : Int)) else [] := ⟨_, rfl⟩
      rw [← hres] at hcall
      have HC := Lib.hid hcall
      have HRES := Lib.hid hres
      have HER := Lib.hid her
      have HCIN := Lib.hid hcin
      have HCAT := Lib.hid hcat
      have H23 := Lib.hid h23
      obtain ⟨a0, a1, a2, a3, a4, a5, a6, a7⟩ := head8 hk3
      clear hcall hres her hcin hcat hrooms hre hd0 hw3 h23 hk3 hcaps
      go_upto_region 10 with fail
      rw [← HW3.out]
      go_upto_region 11 with (go_at_call 5; refine HC.out.mono ?_; rintro e w4 ⟨v4, rfl, hst, hb4⟩; have HST := Lib.hid hst; have HB4 := Lib.hid (HB3.out.trans (hb4.mono HB3.out.size)); have HRT4 := Lib.hid (HRT.out.old (H23.out.trans (hb4.mono H23.out.size))); clear hst a0 a1 a2 a3 a4 a5 a6 a7)
      by_cases he : er = 0
      · subst he
        have he' : Rs.errR (caps.map fun c => c - 1) (b.length : Int) = 0 := by rw [← HL.out]; exact HER.out.symm
        have hcle : ∀ i, caps.getD i 0 ≤ 64 := fun i => by
          by_cases h : i < caps.length
          · exact (HCIN.out i h).2
          · rw [List.getD_eq_getElem?_getD, List.getElem?_eq_none (by omega)]; decide
        obtain ⟨hch, hne⟩ := Rs.chain_plan HCAT.out he'
        have hnn := Rs.planR_nonneg (by omega) he'
        obtain ⟨pl, hplq⟩ : ∃ pl, pl = Rs.planR (caps.map fun c => c - 1) (b.length : Int) := ⟨_, rfl⟩
        rw [← hplq] at hch hne hnn
        have hrs : res = Rs.up (Rs.laidSteps b (pl.map Rs.toPc)) := by
          rw [HRES.out, if_pos rfl, HL.out, ← hplq]
          exact Rs.steps_is hb2 (by omega) fun p hp => ⟨(hnn p hp).1, (hnn p hp).2, (hch.in_ (Rs.toPc p) (List.mem_map_of_mem hp)).1⟩
        have hne' : pl.map Rs.toPc ≠ [] := by simpa using hne
        obtain ⟨ps, hps⟩ : ∃ ps, ps = pl.map Rs.toPc := ⟨_, rfl⟩
        rw [← hps] at hch hrs hne'
        rw [hrs] at HST
        have hdo := Rs.do_laid hb2 (by omega) hcle hch
        have HSH := Lib.hid (Rs.laid_short hb2 (by omega) hch)
        obtain ⟨As, Cs, rfl, hs1, hs2, hs3, hsr⟩ := HST.out.rd
        obtain ⟨sn, hsn⟩ : ∃ sn, sn = (Rs.up (Rs.laidSteps b ps)).length := ⟨_, rfl⟩
        rw [← hsn]
        rw [← hsn] at hs1 hs3
        have hpsl := Rs.chain_len hch (Nat.zero_le _)
        have hsnm : sn ≤ 1000000 := by
          have h := Rs.steps_len hb2 hch
          have e : sn = (Rs.laidSteps b ps).length := by rw [hsn]; unfold Rs.up; rw [List.length_map]
          omega
        have hcall := refDo_any (Rs.tps caps fun _ => []) (Rs.up (Rs.laidSteps b ps)) (-1) 0 At m Ct' As sn Cs _ _ w4 (by rw [Rs.tps_len, hcl]) HRT4.out hsn hsr (by omega) hsnm (fun t ht => by
          obtain ⟨i, hi, rfl⟩ := Rs.mem_tps ht
          exact ⟨Nat.zero_le _, (fun s hs => nomatch hs)⟩) (fun x hx => by have := HSH.out x hx; omega)
        rw [Rs.go_doAll (by decide), hdo] at hcall
        have HC2 := Lib.hid hcall
        have HCH := Lib.hid hch
        have HNE := Lib.hid hne'
        have HSR := Lib.hid (hsr.in_.mono (G' := fun k => k < w4.heap.size) fun _ h => h.2)
        have HSN := Lib.hid hsn
        clear hcall hdo hch hne hne' hnn hrs hps hplq hsr hsn hs1 hs2 hs3 HST HC HRES
        go_upto_region 14 with (go_at_call 6; refine HC2.out.mono ?_; rintro e w5 ⟨v5, rfl, hdt, hb5⟩; have HDT := Lib.hid hdt; have HB5 := Lib.hid (HB4.out.trans (hb5.mono HB4.out.size)); have HSR5 := Lib.hid (HSR.out.old hb5); have h45 : w4.heap.size ≤ w5.heap.size := hb5.size; clear hdt hb5)
        replace HDT : Hid (DoT w4.heap.size v5 (Rs.now caps b ps fun _ _ => false) w5) := HDT
        obtain ⟨An, Cn, rfl, hn1, hn2, hn3⟩ := HDT.out.val
        have hnl := Rs.now_len caps b ps (fun _ _ => false)
        rw [hcl] at hnl
        rw [hnl] at HDT
        have HRN := Lib.hid HDT.out.rdT
        rw [hnl] at hn1 hn3
        rw [hnl]
        have hall := Rs.all_now hb2 (by omega) HCH.out
        have hmem : ∀ p ∈ Ct.all (Rs.now caps b ps fun _ _ => false), ∃ x, p = Rs.partP b x := fun p hp => by
          rw [hall] at hp
          obtain ⟨x, -, rfl⟩ := List.mem_map.1 hp
          exact ⟨x, rfl⟩
        obtain ⟨p0, pr, hpe⟩ : ∃ p0 pr, ps = p0 :: pr := by
          cases hx : ps with
          | nil => exact absurd hx HNE.out
          | cons p0 pr => exact ⟨p0, pr, rfl⟩
        have hcall := refFrom_one (Rs.now caps b ps fun _ _ => false) An m Cn _ w5 hnl.symm HRN.out (by omega) (Rs.now_short hb2 (by omega) HCH.out) (Rs.partP b p0) (by rw [hall, hpe]; rfl) (fun i hi => by
          obtain ⟨x, e⟩ := hmem _ (List.getElem_mem hi)
          rw [e]; rfl) (fun p hp => by
          obtain ⟨x, rfl⟩ := hmem p hp
          exact Int.natCast_nonneg _) (fun p hp => by
          obtain ⟨x, rfl⟩ := hmem p hp
          show (b.length : Int) ≤ 1000000000
          omega)
        rw [hall, Rs.cf_from HNE.out HCH.out] at hcall
        have HC3 := Lib.hid hcall
        clear hcall hall hmem hpe hn1 hn2 hn3 hnl HC2 HSR
        go_upto_region 15 with (go_at_call 7; refine HC3.out.mono ?_; rintro e w6 ⟨v6, xs, rfl, hown, hxs, hxok, hb6⟩; have HOWN := Lib.hid hown; have HXS := Lib.hid hxs; have HXOK := Lib.hid hxok; have HB6 := Lib.hid (HB5.out.trans (hb6.mono HB5.out.size)); have HB56 := Lib.hid hb6; have HDT6 := Lib.hid (HDT.out.old hb6); have HSR6 := Lib.hid (HSR5.out.old hb6); clear hown hxs hxok hb6)
        obtain ⟨Axp, Cxp, rfl⟩ := one_file HXS.out
        have hx1 := HXOK.out ⟨Rs.file b ps, Axp, Cxp⟩ (List.mem_singleton.2 rfl)
        obtain ⟨Ax, Cx, rfl, -, -, -, hrx⟩ := HOWN.out.rd
        obtain ⟨gx, ox, rfl, ⟨hgx, -⟩, h7⟩ := seven_one hrx
        have hlen1 : ([⟨Rs.file b ps, Axp, Cxp⟩] : List Fx).length = 1 := rfl
        rw [hlen1]
        have hpr6 : encQ.Rd w6 Axp (Rs.file b ps).parts (w5.heap.size ≤ ·) := hx1.rd
        obtain ⟨pn, hpn⟩ : ∃ pn, pn = (Rs.file b ps).parts.length := ⟨_, rfl⟩
        have h7' : Seven w6 gx ox [97] 1 (b.length : Int) (sumL b) 1 false Axp pn Cxp := by rw [hpn]; exact h7
        have HC4 := Lib.hid (bytes_clean hb2 (by omega) HCH.out (C := Cn) (pC := Cxp) (n := m) hcl.symm HDT6.out.rdT hpn hpr6)
        have HPN := Lib.hid hpn
        have HPR6 := Lib.hid hpr6
        have H7 := Lib.hid h7'
        have hgx5 : w5.heap.size ≤ gx := hgx
        have HSN2 : Hid (sn = (Rs.steps b ps).length) := Lib.hid (HSN.out.trans (up_len b ps))
        have hsn0 : 0 < sn := by rw [HSN2.out]; exact steps_pos HNE.out
        have HDL5 := Lib.hid (DoL.of HDT.out)
        obtain ⟨c0, c1, c2, c3, c4, c5, c6⟩ := h7'
        clear hx1 hrx h7 hlen1 hpr6 hpn hgx HOWN HXS HXOK HC3 HNE HSN HCIN HCAT HER HDT HSR5 HRN hcle HRT4 HRT HSH he' H23 HW3 HB3 HB2
        go_upto_region 18 with (go_at_call 8; refine HC4.out.mono ?_; rintro e w7 ⟨v7, rfl, ho7, hb7⟩; obtain ⟨A7, C7, rfl, -, -, -, hr7⟩ := ho7.rd; have HR7 := Lib.hid hr7; have HB67 := Lib.hid hb7; clear hr7 ho7 hb7 c0 c1 c2 c3 c4 c5 c6)
        obtain ⟨w8, hw8⟩ : ∃ x, x = w7.alloc (.cells #[.int .i64 0, .int .i64 0] 39) := ⟨_, rfl⟩
        have h78 : Below w7.heap.size w7 w8 := by rw [hw8]; exact (Below.refl _ _).alloc (Nat.le_refl _) _
        have h68 : Below w6.heap.size w6 w8 := HB67.out.trans (h78.mono HB67.out.size)
        have HB8 := Lib.hid (HB6.out.trans (h68.mono HB6.out.size))
        have hs1 : (convert 22 9 (.slice A7 b.length C7)).run Tryz.prog w8 = .ok (.string (tx b)) w8 := (HR7.out.old h78).str C7
        have hs2 : (convert 22 9 (.slice A0 L C0)).run Tryz.prog w8 = .ok (.string (tx b)) w8 := by rw [HL.out]; exact (HR0.out.old HB8.out).str C0
        have HD8 := Lib.hid ((HDL5.out.old HB56.out).old h68)
        have HS8 := Lib.hid (HSR6.out.old h68)
        have H78 := Lib.hid (H7.out.old h68)
        have HP8 := Lib.hid (HPR6.out.old h68)
        have HW8 := Lib.hid hw8
        have h44 : w.heap.size ≤ w4.heap.size := HB4.out.size
        rw [← HW8.out]
        clear hw8 h78 h68 HB67 HC4 HDL5 HSR6 H7 HPR6 HR7 HDT6 HB56
        go_wp2_with (go_at_call 9; refine (num19 0 _).mono ?_; rintro e wn ⟨rfl, hwn⟩; subst hwn)
        clear hs1 hs2 HW8
        have HCL := Lib.hid hcl
        clear hcl hb4
        go_loopw [20, 19] (fun vi vf wr => ∃ (i : Nat) (K : List Nat) (z : Int), i ≤ q ∧ vi = .int .i64 (i : Int) ∧ vf = .int .i64 z ∧ Hid (Rs.Fst K z) ∧ Hid (∀ k ∈ K, ∃ hk : k < (Rs.steps b ps).length, Rs.isData (Rs.steps b ps)[k] = true) ∧ Hid (DoL w4.heap.size w5.heap.size (.slice An m Cn) (Rs.now caps b ps (Rs.zOf (Rs.steps b ps) K)) wr) ∧ Hid (Kp (fun k => w4.heap.size ≤ k ∧ k < w5.heap.size) w8 wr)) (fun vi _ _ => q - (intOf vi).toNat)
        case atStart => exact ⟨0, [], -1, Nat.zero_le _, rfl, rfl, Lib.hid Rs.Fst.nil, Lib.hid (fun _ h => nomatch h), HD8, Lib.hid (Kp.refl _ _)⟩
        case round =>
          obtain ⟨i, K, z, hi, rfl, rfl, HF, HK, HD, HKP⟩ := hrel
          have hbw : Below w.heap.size w wr := HB8.out.trans (HKP.out.below HB8.out.size fun k hk => by omega)
          by_cases hlt : i < q
          · have e1 : decide (i < q) = true := decide_eq_true hlt
            obtain ⟨rb, ro, rfl, c0⟩ := (HR2.out.old hbw).at hlt
            obtain ⟨hand, hlo⟩ := Rs.and_4095 (z2 i)
            obtain ⟨k, hk, hmod⟩ := tmod_of hsn0 (Rs.lo12 (z2 i))
            obtain ⟨lo, hlo'⟩ : ∃ lo, lo = Rs.lo12 (z2 i) := ⟨_, rfl⟩
            rw [← hlo'] at hand hmod hlo
            obtain ⟨zi, hzi⟩ : ∃ zi, zi = z2 i := ⟨_, rfl⟩
            rw [← hzi] at c0 hand
            have hdz : ((sn : Int) == 0) = false := beq_eq_false_iff_ne.2 (by omega)
            obtain ⟨x, hx⟩ : ∃ x, (Rs.steps b ps)[k]? = some x := ⟨_, List.getElem?_eq_getElem (by rw [← HSN2.out]; exact hk)⟩
            obtain ⟨hx1, hx2, hx3, j, hj, hon⟩ := step_is hb2 (by have := HCL.out; omega) HCH.out hx
            have hsr := HS8.out.kp HKP.out (fun a ha => by omega)
            obtain ⟨gs, os, Ab, Cb, has, d0, d1, d2, d3, d4⟩ := step_at hsr hx
            have hdt : Rs.isData x = (x.2.kind == 3) := rfl
            have hxd : ∀ (h : k < (Rs.steps b ps).length), (Rs.steps b ps)[k] = x := fun h => Option.some.inj ((List.getElem?_eq_getElem h).symm.trans hx)
            have HSA := Lib.hid hx
            obtain ⟨tp, ⟨ud, lb, nb, ld⟩⟩ := x
            dsimp only at hx1 hx2 hx3 hj hon d0 d1 d2 d3 d4 hdt
            subst hj hx3
            obtain ⟨N, hN⟩ : ∃ N, N = (Fm.blk ⟨ud, (tp : Int) + 1, (j : Int), ld⟩).length := ⟨_, rfl⟩
            have hbl := Fm.blk_len hx2
            have hrl := Fm.room_le ud
            rw [← hN] at d1 d2 d3 hbl
            have hN1 : N ≤ 1000 := by have : Fm.room (⟨ud, (tp : Int) + 1, (j : Int), ld⟩ : Fm.U).kind = Fm.room ud := rfl; omega
            have hN2 : 15 ≤ N := by omega
            have hcg := refGet_len Ab (Fm.blk ⟨ud, (tp : Int) + 1, (j : Int), ld⟩) N Cb _ wr hN d2 hN1 d3 d4
            unfold GotU at hcg
            rw [(got_blk hx2).1, (got_blk hx2).2] at hcg
            have HG := Lib.hid hcg
            have HON := Lib.hid hon
            have HXD := Lib.hid hxd
            have HN := Lib.hid hN
            have HDT := Lib.hid hdt
            have HBW := Lib.hid hbw
            have d0' := Lib.hid d0
            cases has
            clear hcg hon hxd hN hx2 hlo' hzi hlo hbl hrl d2 d3 d4 hsr hx hdt hbw d0
            go_upto_region 26 with (go_at_call 10; refine HG.out.mono ?_; rintro e w9 ⟨Al, ml, Cl, rfl, -, -, -, -, hb9⟩; have HB9 := Lib.hid hb9; clear hb9 c0 d1)
            clear hand hmod hdz
            obtain ⟨wu, hwu⟩ : ∃ y, y = w9.alloc (.cells #[.int .i64 ud, .int .i64 ((tp : Int) + 1), .int .i64 (j : Int), .slice Al ml Cl] 48) := ⟨_, rfl⟩
            have hb9u : Below wr.heap.size wr wu := by rw [hwu]; exact HB9.out.alloc HB9.out.size _
            have hku : wu.heap[w9.heap.size]? = some (unitObj ud ((tp : Int) + 1) (j : Int) Al ml Cl) := by rw [hwu]; exact Go.Deep.blk_alloc_new _ _
            have HKU := Lib.hid hku
            have HWU := Lib.hid hwu
            have HBU := Lib.hid hb9u
            have HDU := Lib.hid (HD.out.old hb9u)
            have HKPU := Lib.hid (HKP.out.trans (Kp.of_below (S := fun k => w4.heap.size ≤ k ∧ k < w5.heap.size) hb9u))
            obtain ⟨y0, y1, y2, y3⟩ := unit4 hku
            rw [← HWU.out]
            clear hwu hb9u hku HB9 HG
            by_cases hd : ud = 3
            · subst hd
              have HDAT : Hid (∀ h : k < (Rs.steps b ps).length, Rs.isData ((Rs.steps b ps)[k]'h) = true) := Lib.hid fun h => by rw [HXD.out h]; exact HDT.out
              have d0 := (HBU.out.cell (World.block_lt_of_cell? _ _ d0'.out)).trans d0'.out
              have hti : tp < (Rs.now caps b ps (Rs.zOf (Rs.steps b ps) K)).length := by rw [Rs.now_len]; exact hx1
              have hT : (Rs.now caps b ps (Rs.zOf (Rs.steps b ps) K))[tp] = ⟨(tp : Int) + 1, caps.getD tp 0, Rs.zed (Rs.zOf (Rs.steps b ps) K tp) (Rs.on b ps tp), false⟩ := Option.some.inj ((List.getElem?_eq_getElem hti).symm.trans (Rs.now_get hx1))
              obtain ⟨s, hs, hsl⟩ : ∃ s, (Rs.zed (Rs.zOf (Rs.steps b ps) K tp) (Rs.on b ps tp))[j]? = some s ∧ 3 < s.length := by
                refine ⟨_, Rs.zed_get HON.out, ?_⟩
                have := HN.out
                split
                · rw [Rs.rot_len]; omega
                · omega
              have hs' : ((Rs.now caps b ps (Rs.zOf (Rs.steps b ps) K))[tp]).blocks[j]? = some s := by rw [hT]; exact hs
              obtain ⟨g, g', C', r, Cr, cc, hA, t0, t1, t2, t3, r0, hr, rp, hBr, hrN, hset⟩ := HDU.out.turned hti hs' hsl
              rw [hT] at t0 t1 t2 t3 hset
              dsimp only at t0 t1 t2 t3 hset
              have hset2 : ∀ y, Below wu.heap.size wu y → DoL w4.heap.size w5.heap.size (.slice An m Cn) (Rs.now caps b ps (Rs.zOf (Rs.steps b ps) (k :: K))) (y.setCell ⟨r, 3, none⟩ (.int .u8 200)) := fun y hy => by
                have := hset y hy 200
                rw [now_turn K HSA.out rfl hs] at this
                exact this
              cases hA
              obtain ⟨nk, hnk⟩ : ∃ nk, nk = (Rs.zed (Rs.zOf (Rs.steps b ps) K tp) (Rs.on b ps tp)).length := ⟨_, rfl⟩
              have hjn : j < nk := by rw [hnk]; exact (List.getElem?_eq_some_iff.1 hs).1
              rw [← hnk] at t2
              obtain ⟨cap, hcap⟩ : ∃ cap, cap = caps.getD tp 0 := ⟨_, rfl⟩
              rw [← hcap] at t1
              obtain ⟨wt, hwt⟩ : ∃ y, y = wu.alloc (.cells #[.int .i64 ((tp : Int) + 1), .int .i64 cap, .slice (some ⟨g', 0, none⟩) nk C', .bool false] 28) := ⟨_, rfl⟩
              have hbt : Below wu.heap.size wu wt := by rw [hwt]; exact (Below.refl _ _).alloc (Nat.le_refl _) _
              have hkt : wt.heap[wu.heap.size]? = some (tapeObj ((tp : Int) + 1) cap (some ⟨g', 0, none⟩) nk C' false) := by rw [hwt]; exact Go.Deep.blk_alloc_new _ _
              have HWT := Lib.hid hwt
              have HDN := Lib.hid (hset2 wt hbt)
              have HKN := Lib.hid ((HKPU.out.trans (Kp.of_below (S := fun k => w4.heap.size ≤ k ∧ k < w5.heap.size) hbt)).trans ((Kp.store wt r 3 (.int .u8 200)).mono fun q hq => by rw [hq]; exact ⟨hBr, hrN⟩))
              have ku' := unit4 ((hbt.block _ (heap_lt HKU.out)).trans HKU.out)
              have kt' := tape4 hkt
              have r0' := (hbt.cell (World.block_lt_of_cell? _ _ r0)).trans r0
              have rp' := (hbt.cell (World.block_lt_of_cell? _ _ rp)).trans rp
              have hfr : wt.frozen? ⟨r, 3, none⟩ = false := heap_frozen ((hbt.block _ (heap_lt hr)).trans hr)
              have dj : decide ((j : Int) < (nk : Int)) = true := decide_eq_true (by omega)
              have dj' : decide (j < nk) = true := decide_eq_true hjn
              have b1 : ((3 : Int) == 3) = true := rfl
              have KU := Lib.hid ku'
              have KT := Lib.hid kt'
              clear hwt hbt hkt hT hs hs' hset hset2 hnk hcap r0 rp hr hBr hrN ku' kt'
              have htm : tp < m := by rw [← HCL.out]; exact hx1
              have htm' : (tp : Int) < (m : Int) := by omega
              have hjn' : (j : Int) < (nk : Int) := by omega
              go_upto_region 28 with fail
              rw [← HWT.out]
              clear y0 y1 y2 y3 d0 t0 t1 t2 t3
              obtain ⟨y0, y1, y2, y3⟩ := KU.out
              obtain ⟨x0, x1, x2, x3⟩ := KT.out
              by_cases hz0 : z < 0
              · -- none yet
                have f1 : decide (z < 0) = true := decide_eq_true hz0
                go_upto_region 30 with fail
                have HKK : Hid (∀ k' ∈ k :: K, ∃ hk : k' < (Rs.steps b ps).length, Rs.isData (Rs.steps b ps)[k'] = true) := Lib.hid fun k' hk' => by
                  rcases List.mem_cons.1 hk' with e | hk'
                  · subst e; exact ⟨by rw [← HSN2.out]; exact hk, HDAT.out _⟩
                  · exact HK.out k' hk'
                go_wp2
                go_roundw
                case rel => exact ⟨i + 1, k :: K, (k : Int), by omega, by go_num, rfl, Lib.hid (HF.out.less (.inl hz0)), HKK, HDN, HKN⟩
                case measure => simp [intOf]; omega
              · by_cases hz1 : (k : Int) < z
                · -- an earlier one
                  have f1 : decide (z < 0) = false := decide_eq_false hz0
                  have f2 : decide ((k : Int) < z) = true := decide_eq_true hz1
                  go_upto_region 30 with fail
                  have HKK : Hid (∀ k' ∈ k :: K, ∃ hk : k' < (Rs.steps b ps).length, Rs.isData (Rs.steps b ps)[k'] = true) := Lib.hid fun k' hk' => by
                    rcases List.mem_cons.1 hk' with e | hk'
                    · subst e; exact ⟨by rw [← HSN2.out]; exact hk, HDAT.out _⟩
                    · exact HK.out k' hk'
                  go_wp2
                  go_roundw
                  case rel => exact ⟨i + 1, k :: K, (k : Int), by omega, by go_num, rfl, Lib.hid (HF.out.less (.inr hz1)), HKK, HDN, HKN⟩
                  case measure => simp [intOf]; omega
                · -- a later one
                  have f1 : decide (z < 0) = false := decide_eq_false hz0
                  have f2 : decide ((k : Int) < z) = false := decide_eq_false hz1
                  go_upto_region 30 with fail
                  have HKK : Hid (∀ k' ∈ k :: K, ∃ hk : k' < (Rs.steps b ps).length, Rs.isData (Rs.steps b ps)[k'] = true) := Lib.hid fun k' hk' => by
                    rcases List.mem_cons.1 hk' with e | hk'
                    · subst e; exact ⟨by rw [← HSN2.out]; exact hk, HDAT.out _⟩
                    · exact HK.out k' hk'
                  go_wp2
                  go_roundw
                  case rel => exact ⟨i + 1, k :: K, z, by omega, by go_num, rfl, Lib.hid (HF.out.more (fun h => h.elim hz0 hz1)), HKK, HDN, HKN⟩
                  case measure => simp [intOf]; omega
            · have b1 : (ud == 3) = false := beq_eq_false_iff_ne.2 hd
              go_wp2
              go_roundw
              case rel => exact ⟨i + 1, K, z, by omega, by go_num, rfl, HF, HK, HDU, HKPU⟩
              case measure => simp [intOf]; omega
          · have e1 : decide (i < q) = false := decide_eq_false hlt
            have h7r := H78.out.kp HKP.out (show ¬ (w4.heap.size ≤ gx ∧ gx < w5.heap.size) by omega)
            have hpr := HP8.out.kp HKP.out (fun a ha => by omega)
            have hrt := HD.out.doT.rdT
            have hbytes : ∀ {a : Rs.A}, (if z < 0 then (⟨b, 0, 0, 0⟩ : Rs.A) else match (Rs.steps b ps)[z.toNat]? with | none => ⟨b, 0, 0, 0⟩ | some x => ⟨[], (x.1 : Int) + 1, x.2.number, 8⟩) = a → _ := fun {a} ha => bytes_turned hb2 (by have := HCL.out; omega) HCH.out HK.out HF.out ha (C := Cn) (pC := Cxp) (n := m) HCL.out.symm hrt HPN.out hpr
            have HBW := Lib.hid hbw
            obtain ⟨c0, c1, c2, c3, c4, c5, c6⟩ := h7r
            by_cases hz0 : z < 0
            · have f1 : decide (z < 0) = true := decide_eq_true hz0
              have HC5 := Lib.hid (hbytes (if_pos hz0))
              clear hbytes hrt hpr hbw hlt
              go_upto_region 32 with (go_at_call 8; refine HC5.out.mono ?_; rintro e w9 ⟨v9, rfl, ho9, hb9⟩; have HB9 := Lib.hid (HBW.out.trans (hb9.mono HBW.out.size)); clear ho9 hb9 c0 c1 c2 c3 c4 c5 c6)
              go_wp2_with (go_at_call 9; refine (num19 0 _).mono ?_; rintro e wn ⟨rfl, hwn⟩; subst hwn)
              go_ret
              exact ⟨rfl, HB9.out.alloc HB9.out.size _⟩
            · have f1 : decide (z < 0) = false := decide_eq_false hz0
              obtain ⟨k, hkK, rfl⟩ : ∃ k : Nat, k ∈ K ∧ z = (k : Int) := by
                rcases HF.out with ⟨-, h⟩ | ⟨k, h1, h2, -⟩
                · omega
                · exact ⟨k, h1, h2⟩
              obtain ⟨hks, -⟩ := HK.out k hkK
              obtain ⟨x, hx⟩ : ∃ x, (Rs.steps b ps)[k]? = some x := ⟨_, List.getElem?_eq_getElem hks⟩
              have hks' : k < sn := by rw [HSN2.out]; exact hks
              have hks'' : (k : Int) < (sn : Int) := by omega
              obtain ⟨hx1, hx2, hx3, j, hj, -⟩ := step_is hb2 (by have := HCL.out; omega) HCH.out hx
              have HC5 := Lib.hid (hbytes (a := ⟨[], (x.1 : Int) + 1, x.2.number, 8⟩) (by rw [if_neg hz0, Int.toNat_natCast, hx]))
              have hsr := HS8.out.kp HKP.out (fun a ha => by omega)
              obtain ⟨gs, os, Ab, Cb, has, d0, d1, d2, d3, d4⟩ := step_at hsr hx
              obtain ⟨tp, ⟨ud, lb, nb, ld⟩⟩ := x
              dsimp only at hx1 hx2 hx3 hj d0 d1 d2 d3 d4 HC5
              subst hj hx3
              obtain ⟨N, hN⟩ : ∃ N, N = (Fm.blk ⟨ud, (tp : Int) + 1, (j : Int), ld⟩).length := ⟨_, rfl⟩
              have hbl := Fm.blk_len hx2
              have hrl := Fm.room_le ud
              rw [← hN] at d1 d2 d3 hbl
              have hN1 : N ≤ 1000 := by have : Fm.room (⟨ud, (tp : Int) + 1, (j : Int), ld⟩ : Fm.U).kind = Fm.room ud := rfl; omega
              cases has
              have HD4 := Lib.hid d4
              have HD1 := Lib.hid d1
              clear hbytes hrt hpr hbw hlt hsr d0 d1 d4 hkK hks
              go_upto_region 32 with (go_at_call 8; refine HC5.out.mono ?_; rintro e w9 ⟨v9, rfl, ho9, hb9⟩; have HB9 := Lib.hid hb9; clear ho9 hb9 c0 c1 c2 c3 c4 c5 c6)
              obtain ⟨wq, hwq⟩ : ∃ y, y = w9.alloc (.cells #[.int .i64 ((tp : Int) + 1), .int .i64 (j : Int)] 39) := ⟨_, rfl⟩
              have hbq : Below wr.heap.size wr wq := by rw [hwq]; exact HB9.out.alloc HB9.out.size _
              have hkq : wq.heap[w9.heap.size]? = some (.cells #[.int .i64 ((tp : Int) + 1), .int .i64 (j : Int)] 39 (0, 0)) := by rw [hwq]; exact Go.Deep.blk_alloc_new _ _
              have hcg := refGet_len Ab (Fm.blk ⟨ud, (tp : Int) + 1, (j : Int), ld⟩) N Cb _ wq hN d2 hN1 d3 (HD4.out.old hbq)
              unfold GotU at hcg
              rw [(got_blk hx2).1, (got_blk hx2).2] at hcg
              have HG := Lib.hid hcg
              have d1 := (hbq.cell (World.block_lt_of_cell? _ _ HD1.out)).trans HD1.out
              have HKQ := Lib.hid hkq
              have HBQ := Lib.hid hbq
              have HWQ := Lib.hid hwq
              rw [← HWQ.out]
              clear hcg hkq hbq hwq d2 d3 hN hbl hrl hx2 HD4 HD1
              go_upto_region 35 with (go_at_call 10; refine HG.out.mono ?_; rintro e w10 ⟨Al, ml, Cl, rfl, -, -, -, -, hb10⟩; have HB10 := Lib.hid hb10; clear hb10 d1)
              obtain ⟨wu, hwu⟩ : ∃ y, y = w10.alloc (.cells #[.int .i64 ud, .int .i64 ((tp : Int) + 1), .int .i64 (j : Int), .slice Al ml Cl] 48) := ⟨_, rfl⟩
              have hbu : Below wq.heap.size wq wu := by rw [hwu]; exact HB10.out.alloc HB10.out.size _
              have hku : wu.heap[w10.heap.size]? = some (unitObj ud ((tp : Int) + 1) (j : Int) Al ml Cl) := by rw [hwu]; exact Go.Deep.blk_alloc_new _ _
              obtain ⟨y0, y1, y2, y3⟩ := unit4 hku
              have kq := (hbu.block _ (heap_lt HKQ.out)).trans HKQ.out
              have q0 := heap_cell (j := 0) kq
              have q1 := heap_cell (j := 1) kq
              have HBU := Lib.hid (HBW.out.trans ((HBQ.out.trans (hbu.mono HBQ.out.size)).mono HBW.out.size))
              have HWU := Lib.hid hwu
              have hseq := spotQ_eql ((tp : Int) + 1) (j : Int)
              rw [← HWU.out]
              clear hwu hbu hku kq
              go_wp2_with (go_at_call 9; refine (num19 8 _).mono ?_; rintro e wn ⟨rfl, hwn⟩; subst hwn)
              go_ret
              exact ⟨rfl, HBU.out⟩
      · have b1 : (er == 0) = false := beq_eq_false_iff_ne.2 he
        go_wp2
        go_ret
        exact ⟨rfl, HB4.out⟩
end Go.Proofs.YtndofmoepjfnfaaGreat
namespace Go.Proofs.YtndofmoepjfnfaaGreat
open Go.RowKit Mx Go.ChangeShapes Go.WideShapes

/-- the element of a number that lies in a cell -/
def feOf (x : Int) : Fe := mk (x.toNat % 256) (Nat.mod_lt _ (by decide))
theorem fi_feOf {x : Int} (h : (Lit.int .u8 x).wf = true) : fi (feOf x) = x := by
  have h' := range_u8 (zs := [x]) (by simpa using h) 0
  simp at h'
  unfold fi feOf
  rw [nat_mk, Nat.mod_eq_of_lt (by omega)]; omega
theorem getD_wf {k : IntKind} {zs : List Int} (h : ∀ n ∈ zs, (Lit.int k n).wf = true) {c : Nat} (hc : c < zs.length) : (Lit.int k (zs.getD c 0)).wf = true := by
  rw [List.getD_eq_getElem?_getD, List.getElem?_eq_getElem hc]
  exact h _ (List.getElem_mem hc)
theorem rd_cells {w : World} {a : Addr} {n : Nat} {zs : List Int} (hn : n ≤ zs.length) (hw : ∀ x ∈ zs, (Lit.int .u8 x).wf = true) (hc : ∀ c, c < n → w.cell? (a.add c) = some (.int .u8 (zs.getD c 0))) :
    Rd w (some a) n (fun c => feOf (zs.getD c 0)) (fun _ => True) := by
  intro h0
  obtain ⟨b, off, spot⟩ := a
  have hs : spot = none := by simpa [Addr.add] using World.cell?_spot (hc 0 h0)
  subst hs
  refine ⟨b, off, rfl, trivial, fun j hj => ?_⟩
  have := hc j hj
  rw [fi_feOf (getD_wf hw (by omega))]
  by_cases e : j = 0
  · subst e; simpa [Addr.add] using this
  · simpa [Addr.add, e] using this
section
variable {H : Type} {enc : TypeId × Value → H} {w : World} {base fuel : Nat} {held : Bool} {a : Option Addr} {len cap : Nat} {x : DataW H × List MemPlace}
/-- a row of bytes -/
theorem open_rd (h : DataW.trod enc Tryz.prog w base (fun _ => true) held fuel 22 (Value.slice a len cap).cells.toList = some x) :
    len ≤ maxLen ∧ ∃ r, Rd w a len r (fun _ => True) := by
  rcases open_ints Tryz.underlying22 Tryz.underlying5 (by kernel_rfl) h with ⟨hcs, _⟩ | ⟨y, l, c, zs, hcs, _, hl, hm, hz, _, hcell, hwz⟩
  · simp [Value.cells] at hcs
    obtain ⟨rfl, rfl, rfl⟩ := hcs
    exact ⟨by decide, fun _ => 0, Rd.empty _ _ _ _⟩
  · simp [Value.cells] at hcs
    obtain ⟨rfl, rfl, rfl⟩ := hcs
    have hz' : zs.length = cap := by simpa using hz
    exact ⟨by omega, _, rd_cells (by omega) hwz (fun c hc => hcell c (by omega))⟩
/-- a row of bytes, which is empty if it is nil -/
theorem open_rdN (h : DataW.trod enc Tryz.prog w base (fun _ => true) held fuel 22 (Value.slice a len cap).cells.toList = some x) :
    len ≤ maxLen ∧ (a = none → len = 0 ∧ cap = 0) ∧ ∃ r, Rd w a len r (fun _ => True) := by
  rcases open_ints Tryz.underlying22 Tryz.underlying5 (by kernel_rfl) h with ⟨hcs, _⟩ | ⟨y, l, c, zs, hcs, _, hl, hm, hz, _, hcell, hwz⟩
  · simp [Value.cells] at hcs
    obtain ⟨rfl, rfl, rfl⟩ := hcs
    exact ⟨by decide, fun _ => ⟨rfl, rfl⟩, fun _ => 0, Rd.empty _ _ _ _⟩
  · simp [Value.cells] at hcs
    obtain ⟨rfl, rfl, rfl⟩ := hcs
    have hz' : zs.length = cap := by simpa using hz
    exact ⟨by omega, (fun h => by cases h), _, rd_cells (by omega) hwz (fun c hc => hcell c (by omega))⟩
end
end Go.Proofs.YtndofmoepjfnfaaGreat
namespace Go.Proofs.YtndofmoepjfnfaaGreat
open Go.RowKit Mx Go.ChangeShapes Go.WideShapes
open Pt (Tx)

section
variable {H : Type} {enc : TypeId × Value → H} {w : World} {base fuel : Nat} {held : Bool} {a : Option Addr} {len cap : Nat} {x : DataW H × List MemPlace}
/-- bytes, as a list -/
theorem open_rdL (h : DataW.trod enc Tryz.prog w base (fun _ => true) held fuel 22 (Value.slice a len cap).cells.toList = some x) :
    cap ≤ maxLen ∧ len ≤ cap ∧ (a = none → len = 0 ∧ cap = 0) ∧ ∃ l : Tx, l.length = len ∧ RdL w a l (fun _ => True) := by
  rcases open_ints Tryz.underlying22 Tryz.underlying5 (by kernel_rfl) h with ⟨hcs, _⟩ | ⟨y, l, c, zs, hcs, _, hl, hm, hz, _, hcell, hwz⟩
  · simp [Value.cells] at hcs
    obtain ⟨rfl, rfl, rfl⟩ := hcs
    exact ⟨by decide, Nat.le_refl _, fun _ => ⟨rfl, rfl⟩, [], rfl, RdL.empty _ _ _⟩
  · simp [Value.cells] at hcs
    obtain ⟨rfl, rfl, rfl⟩ := hcs
    have hz' : zs.length = cap := by simpa using hz
    refine ⟨hm, hl, (fun h => by cases h), (List.range len).map fun i => UInt8.ofNat (zs.getD i 0).toNat, by simp, fun h0 => ?_⟩
    simp at h0
    obtain ⟨b, off, spot⟩ := y
    have hs : spot = none := by simpa [Addr.add] using World.cell?_spot (hcell 0 (by omega))
    subst hs
    refine ⟨b, off, rfl, trivial, fun j hj => ?_⟩
    have hj' : j < len := by simpa using hj
    have hc := hcell j (by omega)
    rw [addr_add] at hc
    have hw := fi_feOf (getD_wf hwz (c := j) (by omega))
    rw [hc]
    have hr : 0 ≤ zs.getD j 0 ∧ zs.getD j 0 < 256 := by have h1 := fi_lo (feOf (zs.getD j 0)); have h2 := fi_hi (feOf (zs.getD j 0)); rw [hw] at h1 h2; exact ⟨h1, h2⟩
    simp only [List.getElem_map, List.getElem_range, UInt8.toNat_ofNat']
    rw [Nat.mod_eq_of_lt (show (zs.getD j 0).toNat < 2 ^ 8 by have := hr.2; have := hr.1; omega)]
    congr 2
    have := hr.1
    omega
end
end Go.Proofs.YtndofmoepjfnfaaGreat
