/- What the document's own Do does with steps: tapes copied, and a block behind a tape's blocks for each step, cut or not. What the document's own SameRows, SameTape and SameTapes answer where all is the same, lost tapes too. What the walk is told of a row of bytes that came in as an argument. What the walk is told of bytes that came in as an argument, as a list. What the walk is told of a []byte, and of a unit, in whose place stands what lies in its cells. -/
import Derived.Test.YtndofmoepjfnfaaDoorMav
import Derived.Test.YtndofmoepjfnfaaDoorWrMath
import Derived.Test.YtndofmoepjfnfaaDoorMba
import Derived.Test.YtndofmoepjfnfaaDoorRefCut
import Derived.Deep.DeepCutAuto
import Derived.Test.YtndofmoepjfnfaaDoorMao
import Derived.Test.YtndofmoepjfnfaaDoorMai
import Derived.Deep.RegionHeld3
import Derived.BigQuiet
import Derived.Deep.DeepFit
import Derived.Test.YtndofmoepjfnfaaDoorRows
import Derived.Test.YtndofmoepjfnfaaDoorMab
import Derived.OpenShut
import Derived.Test.YtndofmoepjfnfaaDoorMac
import Derived.Deep.Slices
import Derived.Deep.Fields
import Derived.Lib.SmallJoins
namespace Go.Proofs.YtndofmoepjfnfaaDoor
open Go.RowKit
open Pt (Tx)

/-- what Do answers: tapes of its own -/
def DoA (r : List St.T × Bool) (w : World) (e : Ending) (w' : World) : Prop := ∃ v, e = .returned (.tuple #[v, .bool r.2]) ∧ DoT w.heap.size v r.1 w' ∧ Below w.heap.size w w'
namespace DoT
variable {x y : World} {B : Nat} {v : Value} {A Ab : Option Addr} {n C M Cb : Nat} {ts : List St.T} {q : Nat} {lab cap : Int} {bs : List Tx} {lost : Bool} {b : Tx} {G : Nat → Prop}
/-- the cells of one of them -/
theorem cells (h : DoT B (.slice A n C) ts x) (hi : q < ts.length) (hs : ts[q] = ⟨lab, cap, bs, lost⟩) : ∃ g off At Nt Ct, A = some ⟨g, off, none⟩ ∧ Nt = bs.length ∧ x.cell? ⟨g, off + q * 4, none⟩ = some (.int .i64 lab) ∧ x.cell? ⟨g, off + q * 4 + 1, none⟩ = some (.int .i64 cap) ∧ x.cell? ⟨g, off + q * 4 + 2, none⟩ = some (.slice At Nt Ct) ∧ x.cell? ⟨g, off + q * 4 + 3, none⟩ = some (.bool lost) ∧ RdB x At bs (B ≤ ·) := by
  obtain ⟨g, off, cur, At, Ct, f, us, e, -, -, -, t0, t1, t2, t3, hT, -⟩ := h.at_ hi
  rw [hs] at t0 t1 t2 t3 hT
  exact ⟨g, off, At, _, Ct, e, rfl, t0, t1, t2, t3, hT.rdB⟩
/-- where they lie -/
theorem addr (h : DoT B v ts x) : ∃ A C, v = .slice A ts.length C ∧ ts.length ≤ C ∧ C ≤ maxLen ∧ ((A = none ∧ ts.length = 0) ∨ ∃ g off, A = some ⟨g, off, none⟩) := by
  obtain ⟨A, C, hv, h1, h2, h3⟩ := h.val
  refine ⟨A, C, hv, h1, h2, ?_⟩
  rcases Nat.eq_zero_or_pos ts.length with h0 | h0
  · obtain ⟨tvs, f, h4, h5, -⟩ := h.ex
    rcases h4.2 with ⟨e, -⟩ | ⟨g, cap, cur, e, -⟩
    · rw [e] at hv; injection hv with hv; exact .inl ⟨hv.symm, h0⟩
    · rw [e] at hv; injection hv with hv; exact .inr ⟨g, 0, hv.symm⟩
  · subst hv
    obtain ⟨g, off, cur, At, Ct, f, us, e, -⟩ := h.at_ h0
    exact .inr ⟨g, off, e⟩
/-- what Append of a block to one of them that can be loaded does -/
theorem append (hi : q < ts.length) (hs : ts[q] = ⟨lab, cap, bs, lost⟩) (h : DoT B (.slice A n C) ts x) (hB : B ≤ x.heap.size) (hl : Tp.loadE lab cap bs lost = 0) (hr : RdL x Ab b G) (hM : M = b.length) :
    ∃ g off, A = some ⟨g, off, none⟩ ∧ Calls Tryd.prog 21 #[.pointer (some ⟨g, off + q * 4, none⟩), .slice Ab M Cb] x fun e y => ∃ r, e = .returned (.int .i64 r) ∧ DoT B (.slice A n C) (Wr.step ts (q : Int) b) y ∧ Below B x y := by
  obtain ⟨g, off, cur, At, Ct, f, us, e, hof, hG, hGB, t0, t1, t2, t3, hT, htop, tvs, hown, hlen, hone, htv⟩ := h.at_ hi
  have hl' : Tp.loadE ts[q].label ts[q].cap ts[q].blocks ts[q].lost = 0 := by rw [hs]; exact hl
  refine ⟨g, off, e, ?_⟩
  by_cases hob : M < 1 ∨ 94 < M
  · have hokf : Tp.okB b = false := by
      unfold Tp.okB
      rw [← hM]
      rcases hob with h | h
      · rw [decide_eq_false (show ¬ 1 ≤ M by omega)]; rfl
      · rw [decide_eq_false (show ¬ M ≤ 94 by omega), Bool.and_false]
    rw [Wr.step_no hi (.inr (.inr hokf))]
    refine (refApp_bad g (off + q * 4) Ab M Cb x hob).mono ?_
    rintro e' y ⟨rfl, rfl⟩
    exact ⟨_, rfl, h, Below.refl _ _⟩
  · have hokt : Tp.okB b = true := by
      unfold Tp.okB
      rw [← hM, decide_eq_true (show 1 ≤ M by omega), decide_eq_true (show M ≤ 94 by omega)]; rfl
    by_cases hfull : ts[q].cap ≤ (ts[q].blocks.length : Int)
    · rw [Wr.step_no hi (.inr (.inl hfull))]
      refine (refApp_full g (off + q * 4) ts[q].cap At ts[q].blocks.length Ct Ab M Cb x t1 t2 (by omega) (by omega) hfull).mono ?_
      rintro e' y ⟨rfl, hb⟩
      exact ⟨_, rfl, h.old hb, hb.mono hB⟩
    · rw [Wr.step_yes hi hl' (by omega) hokt]
      have h64 := (Tp.right_of (Wr.load_ok hl').1).2.2.1
      refine (refApp_ok B g (off + q * 4) (fun k => (if k < x.heap.size then f k else q) = q) ts[q].cap cur At Ct us ts[q].blocks Ab b ts[q].blocks.length M Cb G x hG t1 t2 rfl (hT.there.mono fun k hk => by rw [if_pos hk.2]; exact hk.1) hM.symm (by omega) (by omega) (by omega) h64 hr (fun k hk => if_neg (by omega)) hB).mono ?_
      rintro e' y ⟨rfl, v', us', k1, k2, k3, k4⟩
      subst hof
      rw [Nat.zero_add] at k1
      subst e
      obtain ⟨A2, C2, hv, -⟩ := hown.rd
      refine ⟨_, rfl, DoT.set hown hlen hone hi htv hG k1 k2 k3 k4, k3.below hB fun k hs' => ?_⟩
      rcases hs' with h' | h'
      · rw [h']; exact hGB
      · exact (hT.top.lt k h').1
end DoT
set_option maxRecDepth 100000 in
set_option maxHeartbeats 8000000 in
theorem refDo_any (ts : List St.T) (l : List (Int × Tx)) (stop bytes : Int) (A1 : Option Addr) (n1 C1 : Nat) (A2 : Option Addr) (n2 C2 : Nat) (G1 G2 : Nat → Prop) (w : World) (h1 : n1 = ts.length) (hr1 : RdT w A1 ts G1) (h2 : n2 = l.length) (hr2 : StpR w A2 l G2) (hm1 : n1 ≤ 1000000) (hm2 : n2 ≤ 1000000)
    (hb1 : ∀ t ∈ ts, t.blocks.length ≤ 1000 ∧ ∀ s ∈ t.blocks, s.length ≤ 1000) (hb2 : ∀ x ∈ l, x.2.length ≤ 1000000) :
    Calls Tryd.prog 8 #[.slice A1 n1 C1, .slice A2 n2 C2, .int .i64 stop, .int .i64 bytes] w (DoA (Wr.go stop bytes 0 ts l) w) := by
  have HR1 := Lib.hid hr1
  have HR2 := Lib.hid hr2
  have HL1 := Lib.hid h1
  have HL2 := Lib.hid h2
  have HB1 := Lib.hid hb1
  have HB2 := Lib.hid hb2
  clear hr1 hr2 h1 h2 hb1 hb2
  go_enter Tryd.func8, Tryd.ntmps8
  go_wp2
  go_loopw [11, 10] (fun vi vl wr => ∃ (k : Nat), k ≤ n1 ∧ vi = .int .i64 (k : Int) ∧ Hid (DoT w.heap.size vl (ts.take k) wr) ∧ Hid (Below w.heap.size w wr)) (fun vi _ _ => n1 - (intOf vi).toNat)
  case atStart => exact ⟨0, Nat.zero_le _, rfl, Lib.hid (by rw [List.take_zero]; exact DoT.start _ _), Lib.hid (Below.refl _ _)⟩
  case round =>
    obtain ⟨k, hk, rfl, HD, HB⟩ := hrel
    by_cases hlt : k < n1
    · have hltT : k < ts.length := by rw [← HL1.out]; exact hlt
      have htk : (ts.take k).length = k := by rw [List.length_take]; omega
      obtain ⟨tvs, f, hown, hlen, hone⟩ := HD.out.ex
      rw [htk] at hlen
      obtain ⟨b, off, A', C', rfl, -, c0, c1, c2, c3, hrB⟩ := (HR1.out.old HB.out).at_ hltT
      have hbl := HB1.out ts[k] (List.getElem_mem hltT)
      have htn : ts.take k ++ [ts[k]] = ts.take (k + 1) := List.take_append_getElem hltT
      obtain ⟨lab, cap, bs, lost, ht⟩ : ∃ lab cap bs lost, ts[k] = ⟨lab, cap, bs, lost⟩ := ⟨_, _, _, _, rfl⟩
      rw [ht] at c0 c1 c2 c3 hrB hbl htn
      dsimp only at c0 c1 c2 c3 hrB hbl htn
      obtain ⟨N, hN⟩ : ∃ N, N = bs.length := ⟨_, rfl⟩
      rw [← hN] at c2 hbl
      have HTN := Lib.hid htn
      have HOWN := Lib.hid hown
      have HLEN := Lib.hid hlen
      have HONE := Lib.hid hone
      have HRB := Lib.hid hrB
      have HBL := Lib.hid hbl
      have HN := Lib.hid hN
      have HTK := Lib.hid htk
      have hsz : w.heap.size ≤ wr.heap.size := HB.out.size
      clear hown hlen hone hrB hbl hN htn ht htk hltT
      go_wp2_with (first
        | (go_at_call 18; refine (copyTape_any lab cap A' bs N C' lost _ _ HN.out.symm HRB.out (by have := HBL.out.1; omega) HBL.out.2).mono ?_; rintro e w1 ⟨Ac, Cc, us, rfl, hT, hb⟩; have HT := Lib.hid hT; have HBC := Lib.hid hb; have hszc := hb.size; have HOWN1 := Lib.hid ((HOWN.out.old hb).old (w' := w1.alloc (.cells #[.int .i64 lab, .int .i64 cap, .slice Ac bs.length Cc, .bool lost] 35)) ((Below.refl _ _).alloc (Nat.le_refl _) _)); clear hT hb)
        | (at_builtin; refine wpList_append_st' encT _ rfl _ _ _ rfl w.heap.size 35 _ 48 Tryd.underlying22 infoTape rfl _ tvs rfl HOWN1.out ⟨w1.heap.size, 0, none⟩ 1 1 [⟨lab, cap, Ac, bs.length, Cc, lost⟩] rfl rfl (newCells _ (encT.enc ⟨lab, cap, Ac, bs.length, Cc, lost⟩) _) (by rw [HLEN.out]; unfold maxLen; omega) (by rw [HLEN.out]; omega) (by simp; omega) ?_; intro v' w3 hO3 hg3; have HO3 := Lib.hid hO3; have HG3 := Lib.hid hg3; clear hO3 hg3))
      go_roundw
      case rel =>
        refine ⟨k + 1, by omega, by go_num, Lib.hid ?_, Lib.hid ?_⟩
        · have := DoT.push HOWN.out (by rw [HLEN.out, HTK.out]) HONE.out hsz HBC.out rfl HT.out HG3.out HO3.out
          rw [HTN.out] at this
          exact this
        · exact ((HB.out.trans (HBC.out.mono hsz)).alloc (by omega) _).grown HG3.out (by simp; omega) (fun q hq => (HOWN.out.lt q hq).1)
      case measure => simp [intOf]; omega
    · have hk' : k = n1 := by omega
      have hD : DoT w.heap.size u10 ts wr := by
        have := HD.out
        rwa [List.take_of_length_le (by rw [← HL1.out]; omega)] at this
      obtain ⟨Ao, Co, rfl, ho1, ho2, ho3⟩ := hD.addr
      have HD2 := Lib.hid hD
      rw [← HL1.out] at ho1 ho3 HD2
      clear HD hD hk'
      rw [← HL1.out]
      obtain ⟨wo, rfl⟩ : ∃ x, x = wr := ⟨wr, rfl⟩
      have HB0 := HB
      clear HB
      rcases ho3 with ⟨rfl, h0⟩ | ⟨g, ot, rfl⟩
      · have H0 := Lib.hid h0
        clear h0
        go_wp2
        go_loopw [12] (fun vi wx => ∃ (i : Nat) (us : List St.T), i ≤ n2 ∧ vi = .int .i64 (i : Int) ∧ Hid (us.length = n1) ∧ Hid (Wr.go stop bytes 0 ts l = Wr.go stop bytes i us (l.drop i)) ∧ Hid (DoT w.heap.size (.slice none n1 Co) us wx) ∧ Hid (Below w.heap.size w wx)) (fun vi _ => n2 - (intOf vi).toNat)
        case atStart => exact ⟨0, ts, Nat.zero_le _, rfl, Lib.hid HL1.out.symm, Lib.hid (by rw [List.drop_zero]), HD2, HB0⟩
        case round =>
          clear HB0 HD2 hlt
          obtain ⟨i, us, hi, rfl, HUL, HGO, HD, HB⟩ := hrel
          have hsz : w.heap.size ≤ wr.heap.size := HB.out.size
          by_cases hlt : i < n2
          · have hltL : i < l.length := by rw [← HL2.out]; exact hlt
            obtain ⟨b, off, Ab, Cb, rfl, -, c0, c1, hCb, hAb, hrb⟩ := (HR2.out.old HB.out).at_ hltL
            have hbl := HB2.out l[i] (List.getElem_mem hltL)
            obtain ⟨kk, bb, hkb⟩ : ∃ kk bb, l[i] = (kk, bb) := ⟨_, _, rfl⟩
            have hstop : (i : Int) = stop → Wr.go stop bytes 0 ts l = (Wr.step us kk (bb.take (min (max bytes 0) (bb.length : Int)).toNat), true) := fun h => by rw [HGO.out, Wr.go_cut hltL h, hkb]
            have hon : (i : Int) ≠ stop → Wr.go stop bytes 0 ts l = Wr.go stop bytes (i + 1) (Wr.step us kk bb) (l.drop (i + 1)) := fun h => by rw [HGO.out, Wr.go_on hltL h, hkb]
            rw [hkb] at c0 c1 hCb hAb hrb hbl
            dsimp only at c0 c1 hCb hAb hrb hbl
            obtain ⟨Nb, hNb⟩ : ∃ Nb, Nb = bb.length := ⟨_, rfl⟩
            rw [← hNb] at c1 hCb hAb hbl
            have HRB := Lib.hid hrb
            have HNB := Lib.hid hNb
            have HAB := Lib.hid hAb
            clear hkb hrb hltL hNb hAb
            have hkk : kk < 0 ∨ (∃ q : Nat, kk = (q : Int) ∧ n1 ≤ q) ∨ ∃ q : Nat, kk = (q : Int) ∧ q < n1 := by
              by_cases h : kk < 0
              · exact .inl h
              · by_cases h' : kk < n1
                · exact .inr (.inr ⟨kk.toNat, by omega, by omega⟩)
                · exact .inr (.inl ⟨kk.toNat, by omega, by omega⟩)
            by_cases hcut : (i : Int) = stop
            · have p1 : decide (0 ≤ stop) = true := decide_eq_true (by omega)
              have p2 : ((i : Int) == stop) = true := beq_iff_eq.2 hcut
              obtain ⟨M, hM⟩ : ∃ M, M = (min (max bytes 0) (Nb : Int)).toNat := ⟨_, rfl⟩
              have hMN : M ≤ Nb := by omega
              have hMi : min (max bytes 0) (Nb : Int) = (M : Int) := by omega
              have HCUT : Hid (∀ x, Calls Tryd.prog 19 #[.int .i64 bytes, .int .i64 0, .int .i64 (Nb : Int)] x fun e w' => e = .returned (.int .i64 (M : Int)) ∧ x = w') := Lib.hid fun x => by rw [← hMi]; exact refCut_any bytes 0 (Nb : Int) (by omega) x
              have HST : Hid (Wr.go stop bytes 0 ts l = (Wr.step us kk (bb.take M), true)) := Lib.hid (by rw [hstop hcut, ← HNB.out, hM])
              have HRM : Hid (RdL wr Ab (bb.take M) G2) := Lib.hid (HRB.out.take M)
              have HNM : Hid (M = (bb.take M).length) := Lib.hid (by rw [List.length_take, ← HNB.out]; omega)
              have hMC : M ≤ Cb := by omega
              clear hM hMi hstop hon hcut
              go_upto_region 13 with (go_at_call 19; refine (HCUT.out _).mono ?_; rintro e w9 ⟨rfl, hw⟩; subst hw)
              rcases hkk with hk0 | ⟨q, rfl, hq⟩ | ⟨q, rfl, hq⟩
              · have d1 : decide (0 ≤ kk) = false := decide_eq_false (by omega)
                have HRES : Hid (Wr.go stop bytes 0 ts l = (us, true)) := Lib.hid (by rw [HST.out, Wr.step_low hk0])
                have HDN := HD
                have HBN := HB
                go_wp2
                go_wp2
                go_ret2
                rw [HRES.out]
                exact ⟨_, rfl, HDN.out, HBN.out⟩
              · have d1 : decide (0 ≤ (q : Int)) = true := decide_eq_true (by omega)
                have d2 : decide ((q : Int) < (n1 : Int)) = false := decide_eq_false (by omega)
                have d2' : decide (q < n1) = false := decide_eq_false (by omega)
                have HRES : Hid (Wr.go stop bytes 0 ts l = (us, true)) := Lib.hid (by rw [HST.out, Wr.step_high (by rw [HUL.out]; exact hq)])
                have HDN := HD
                have HBN := HB
                go_wp2
                go_wp2
                go_ret2
                rw [HRES.out]
                exact ⟨_, rfl, HDN.out, HBN.out⟩
              · exact absurd hq (by have := H0.out; omega)
            · have HST : Hid (Wr.go stop bytes 0 ts l = Wr.go stop bytes (i + 1) (Wr.step us kk bb) (l.drop (i + 1))) := Lib.hid (hon hcut)
              have hst2 : decide (0 ≤ stop) = false ∨ (decide (0 ≤ stop) = true ∧ ((i : Int) == stop) = false) := by
                by_cases h : 0 ≤ stop
                · exact .inr ⟨decide_eq_true h, beq_eq_false_iff_ne.2 hcut⟩
                · exact .inl (decide_eq_false h)
              clear hstop hon hcut
              rcases hst2 with p1 | ⟨p1, p2⟩
              all_goals
                go_upto_region 13 with fail
                rcases hkk with hk0 | ⟨q, rfl, hq⟩ | ⟨q, rfl, hq⟩
                · have d1 : decide (0 ≤ kk) = false := decide_eq_false (by omega)
                  have HRES : Hid (Wr.go stop bytes 0 ts l = Wr.go stop bytes (i + 1) us (l.drop (i + 1))) := Lib.hid (by rw [HST.out, Wr.step_low hk0])
                  have HDN := HD
                  have HBN := HB
                  go_wp2
                  go_roundw
                  case rel => exact ⟨i + 1, _, by omega, by go_num, HUL, HRES, HDN, HBN⟩
                  case measure => simp [intOf]; omega
                · have d1 : decide (0 ≤ (q : Int)) = true := decide_eq_true (by omega)
                  have d2 : decide ((q : Int) < (n1 : Int)) = false := decide_eq_false (by omega)
                  have d2' : decide (q < n1) = false := decide_eq_false (by omega)
                  have HRES : Hid (Wr.go stop bytes 0 ts l = Wr.go stop bytes (i + 1) us (l.drop (i + 1))) := Lib.hid (by rw [HST.out, Wr.step_high (by rw [HUL.out]; exact hq)])
                  have HDN := HD
                  have HBN := HB
                  go_wp2
                  go_roundw
                  case rel => exact ⟨i + 1, _, by omega, by go_num, HUL, HRES, HDN, HBN⟩
                  case measure => simp [intOf]; omega
                · exact absurd hq (by have := H0.out; omega)
          · have hres : Wr.go stop bytes 0 ts l = (us, false) := by rw [HGO.out, Wr.go_end (by rw [← HL2.out]; omega)]
            have HRES := Lib.hid hres
            clear hres
            go_wp2
            go_ret2
            rw [HRES.out]
            exact ⟨_, rfl, HD.out, HB.out⟩
      · go_wp2
        go_loopw [12] (fun vi wx => ∃ (i : Nat) (us : List St.T), i ≤ n2 ∧ vi = .int .i64 (i : Int) ∧ Hid (us.length = n1) ∧ Hid (Wr.go stop bytes 0 ts l = Wr.go stop bytes i us (l.drop i)) ∧ Hid (DoT w.heap.size (.slice (some ⟨g, ot, none⟩) n1 Co) us wx) ∧ Hid (Below w.heap.size w wx)) (fun vi _ => n2 - (intOf vi).toNat)
        case atStart => exact ⟨0, ts, Nat.zero_le _, rfl, Lib.hid HL1.out.symm, Lib.hid (by rw [List.drop_zero]), HD2, HB0⟩
        case round =>
          clear HB0 HD2 hlt
          obtain ⟨i, us, hi, rfl, HUL, HGO, HD, HB⟩ := hrel
          have hsz : w.heap.size ≤ wr.heap.size := HB.out.size
          by_cases hlt : i < n2
          · have hltL : i < l.length := by rw [← HL2.out]; exact hlt
            obtain ⟨b, off, Ab, Cb, rfl, -, c0, c1, hCb, hAb, hrb⟩ := (HR2.out.old HB.out).at_ hltL
            have hbl := HB2.out l[i] (List.getElem_mem hltL)
            obtain ⟨kk, bb, hkb⟩ : ∃ kk bb, l[i] = (kk, bb) := ⟨_, _, rfl⟩
            have hstop : (i : Int) = stop → Wr.go stop bytes 0 ts l = (Wr.step us kk (bb.take (min (max bytes 0) (bb.length : Int)).toNat), true) := fun h => by rw [HGO.out, Wr.go_cut hltL h, hkb]
            have hon : (i : Int) ≠ stop → Wr.go stop bytes 0 ts l = Wr.go stop bytes (i + 1) (Wr.step us kk bb) (l.drop (i + 1)) := fun h => by rw [HGO.out, Wr.go_on hltL h, hkb]
            rw [hkb] at c0 c1 hCb hAb hrb hbl
            dsimp only at c0 c1 hCb hAb hrb hbl
            obtain ⟨Nb, hNb⟩ : ∃ Nb, Nb = bb.length := ⟨_, rfl⟩
            rw [← hNb] at c1 hCb hAb hbl
            have HRB := Lib.hid hrb
            have HNB := Lib.hid hNb
            have HAB := Lib.hid hAb
            clear hkb hrb hltL hNb hAb
            have hkk : kk < 0 ∨ (∃ q : Nat, kk = (q : Int) ∧ n1 ≤ q) ∨ ∃ q : Nat, kk = (q : Int) ∧ q < n1 := by
              by_cases h : kk < 0
              · exact .inl h
              · by_cases h' : kk < n1
                · exact .inr (.inr ⟨kk.toNat, by omega, by omega⟩)
                · exact .inr (.inl ⟨kk.toNat, by omega, by omega⟩)
            by_cases hcut : (i : Int) = stop
            · have p1 : decide (0 ≤ stop) = true := decide_eq_true (by omega)
              have p2 : ((i : Int) == stop) = true := beq_iff_eq.2 hcut
              obtain ⟨M, hM⟩ : ∃ M, M = (min (max bytes 0) (Nb : Int)).toNat := ⟨_, rfl⟩
              have hMN : M ≤ Nb := by omega
              have hMi : min (max bytes 0) (Nb : Int) = (M : Int) := by omega
              have HCUT : Hid (∀ x, Calls Tryd.prog 19 #[.int .i64 bytes, .int .i64 0, .int .i64 (Nb : Int)] x fun e w' => e = .returned (.int .i64 (M : Int)) ∧ x = w') := Lib.hid fun x => by rw [← hMi]; exact refCut_any bytes 0 (Nb : Int) (by omega) x
              have HST : Hid (Wr.go stop bytes 0 ts l = (Wr.step us kk (bb.take M), true)) := Lib.hid (by rw [hstop hcut, ← HNB.out, hM])
              have HRM : Hid (RdL wr Ab (bb.take M) G2) := Lib.hid (HRB.out.take M)
              have HNM : Hid (M = (bb.take M).length) := Lib.hid (by rw [List.length_take, ← HNB.out]; omega)
              have hMC : M ≤ Cb := by omega
              clear hM hMi hstop hon hcut
              go_upto_region 13 with (go_at_call 19; refine (HCUT.out _).mono ?_; rintro e w9 ⟨rfl, hw⟩; subst hw)
              rcases hkk with hk0 | ⟨q, rfl, hq⟩ | ⟨q, rfl, hq⟩
              · have d1 : decide (0 ≤ kk) = false := decide_eq_false (by omega)
                have HRES : Hid (Wr.go stop bytes 0 ts l = (us, true)) := Lib.hid (by rw [HST.out, Wr.step_low hk0])
                have HDN := HD
                have HBN := HB
                go_wp2
                go_wp2
                go_ret2
                rw [HRES.out]
                exact ⟨_, rfl, HDN.out, HBN.out⟩
              · have d1 : decide (0 ≤ (q : Int)) = true := decide_eq_true (by omega)
                have d2 : decide ((q : Int) < (n1 : Int)) = false := decide_eq_false (by omega)
                have d2' : decide (q < n1) = false := decide_eq_false (by omega)
                have HRES : Hid (Wr.go stop bytes 0 ts l = (us, true)) := Lib.hid (by rw [HST.out, Wr.step_high (by rw [HUL.out]; exact hq)])
                have HDN := HD
                have HBN := HB
                go_wp2
                go_wp2
                go_ret2
                rw [HRES.out]
                exact ⟨_, rfl, HDN.out, HBN.out⟩
              · have d1 : decide (0 ≤ (q : Int)) = true := decide_eq_true (by omega)
                have d2 : decide ((q : Int) < (n1 : Int)) = true := decide_eq_true (by omega)
                have d2' : decide (q < n1) = true := decide_eq_true (by omega)
                have hqU : q < us.length := by rw [HUL.out]; exact hq
                obtain ⟨lab, cap, bs, lost, hu⟩ : ∃ lab cap bs lost, us[q] = ⟨lab, cap, bs, lost⟩ := ⟨_, _, _, _, rfl⟩
                obtain ⟨g2, off2, At, Nt, Ct, hao, hNt, t0, t1, t2, t3, hrT⟩ := HD.out.cells hqU hu
                obtain ⟨e1, e2⟩ : g = g2 ∧ ot = off2 := by injection hao with hao; injection hao with h1 h2; exact ⟨h1, h2⟩
                subst e1 e2
                clear hao
                have hcall := refLoad_any lab cap At bs Nt Ct lost _ wr hNt hrT
                obtain ⟨LE, hLE⟩ : ∃ LE, LE = Tp.loadE lab cap bs lost := ⟨_, rfl⟩
                rw [← hLE] at hcall
                have HLE := Lib.hid hLE
                have HC := Lib.hid hcall
                have HUQ := Lib.hid hu
                clear hcall hLE hrT hNt hu
                by_cases hle : LE = 0
                · have d3 : (LE == 0) = true := by rw [hle]; rfl
                  have HRES : Hid (Wr.go stop bytes 0 ts l = ((Wr.step us (q : Int) (bb.take M)), true)) := Lib.hid (by rw [HST.out])
                  go_upto_region 15 with (go_at_call 20; refine HC.out.mono ?_; rintro e w1 ⟨rfl, hb⟩; have HBL := Lib.hid hb; clear hb)
                  have hsz1 : w.heap.size ≤ w1.heap.size := Nat.le_trans hsz HBL.out.size
                  obtain ⟨g3, off3, he3, hA2⟩ := DoT.append (Cb := Cb) hqU HUQ.out (HD.out.old HBL.out) hsz1 (by rw [← HLE.out]; exact hle) (HRM.out.old HBL.out) HNM.out
                  obtain ⟨e1, e2⟩ : g = g3 ∧ ot = off3 := by injection he3 with hao; injection hao with h1 h2; exact ⟨h1, h2⟩
                  subst e1 e2
                  clear he3
                  have HA2 := Lib.hid hA2
                  clear hA2 t0 t1 t2 t3
                  go_wp2_with (go_at_call 21; refine HA2.out.mono ?_; rintro e w2 ⟨r, rfl, hd, hb⟩; have HDN := Lib.hid hd; have HBN := Lib.hid ((HB.out.trans (HBL.out.mono hsz)).trans hb); clear hd hb)
                  go_wp2
                  go_ret2
                  rw [HRES.out]
                  exact ⟨_, rfl, HDN.out, HBN.out⟩
                · have d3 : (LE == 0) = false := by rw [beq_eq_false_iff_ne]; exact hle
                  have HRES : Hid (Wr.go stop bytes 0 ts l = (us, true)) := Lib.hid (by rw [HST.out, Wr.step_no hqU (.inl (by rw [HUQ.out]; show Tp.loadE lab cap bs lost ≠ 0; rw [← HLE.out]; exact hle))])
                  go_wp2_with (go_at_call 20; refine HC.out.mono ?_; rintro e w1 ⟨rfl, hb⟩; have HDN := Lib.hid (HD.out.old hb); have HBN := Lib.hid (HB.out.trans (hb.mono hsz)); clear hb t0 t1 t2 t3)
                  go_wp2
                  go_ret2
                  rw [HRES.out]
                  exact ⟨_, rfl, HDN.out, HBN.out⟩
            · have HST : Hid (Wr.go stop bytes 0 ts l = Wr.go stop bytes (i + 1) (Wr.step us kk bb) (l.drop (i + 1))) := Lib.hid (hon hcut)
              have hst2 : decide (0 ≤ stop) = false ∨ (decide (0 ≤ stop) = true ∧ ((i : Int) == stop) = false) := by
                by_cases h : 0 ≤ stop
                · exact .inr ⟨decide_eq_true h, beq_eq_false_iff_ne.2 hcut⟩
                · exact .inl (decide_eq_false h)
              clear hstop hon hcut
              rcases hst2 with p1 | ⟨p1, p2⟩
              all_goals
                go_upto_region 13 with fail
                rcases hkk with hk0 | ⟨q, rfl, hq⟩ | ⟨q, rfl, hq⟩
                · have d1 : decide (0 ≤ kk) = false := decide_eq_false (by omega)
                  have HRES : Hid (Wr.go stop bytes 0 ts l = Wr.go stop bytes (i + 1) us (l.drop (i + 1))) := Lib.hid (by rw [HST.out, Wr.step_low hk0])
                  have HDN := HD
                  have HBN := HB
                  go_wp2
                  go_roundw
                  case rel => exact ⟨i + 1, _, by omega, by go_num, HUL, HRES, HDN, HBN⟩
                  case measure => simp [intOf]; omega
                · have d1 : decide (0 ≤ (q : Int)) = true := decide_eq_true (by omega)
                  have d2 : decide ((q : Int) < (n1 : Int)) = false := decide_eq_false (by omega)
                  have d2' : decide (q < n1) = false := decide_eq_false (by omega)
                  have HRES : Hid (Wr.go stop bytes 0 ts l = Wr.go stop bytes (i + 1) us (l.drop (i + 1))) := Lib.hid (by rw [HST.out, Wr.step_high (by rw [HUL.out]; exact hq)])
                  have HDN := HD
                  have HBN := HB
                  go_wp2
                  go_roundw
                  case rel => exact ⟨i + 1, _, by omega, by go_num, HUL, HRES, HDN, HBN⟩
                  case measure => simp [intOf]; omega
                · have d1 : decide (0 ≤ (q : Int)) = true := decide_eq_true (by omega)
                  have d2 : decide ((q : Int) < (n1 : Int)) = true := decide_eq_true (by omega)
                  have d2' : decide (q < n1) = true := decide_eq_true (by omega)
                  have hqU : q < us.length := by rw [HUL.out]; exact hq
                  obtain ⟨lab, cap, bs, lost, hu⟩ : ∃ lab cap bs lost, us[q] = ⟨lab, cap, bs, lost⟩ := ⟨_, _, _, _, rfl⟩
                  obtain ⟨g2, off2, At, Nt, Ct, hao, hNt, t0, t1, t2, t3, hrT⟩ := HD.out.cells hqU hu
                  obtain ⟨e1, e2⟩ : g = g2 ∧ ot = off2 := by injection hao with hao; injection hao with h1 h2; exact ⟨h1, h2⟩
                  subst e1 e2
                  clear hao
                  have hcall := refLoad_any lab cap At bs Nt Ct lost _ wr hNt hrT
                  obtain ⟨LE, hLE⟩ : ∃ LE, LE = Tp.loadE lab cap bs lost := ⟨_, rfl⟩
                  rw [← hLE] at hcall
                  have HLE := Lib.hid hLE
                  have HC := Lib.hid hcall
                  have HUQ := Lib.hid hu
                  clear hcall hLE hrT hNt hu
                  by_cases hle : LE = 0
                  · have d3 : (LE == 0) = true := by rw [hle]; rfl
                    have HRES : Hid (Wr.go stop bytes 0 ts l = Wr.go stop bytes (i + 1) (Wr.step us (q : Int) bb) (l.drop (i + 1))) := Lib.hid (by rw [HST.out])
                    go_upto_region 15 with (go_at_call 20; refine HC.out.mono ?_; rintro e w1 ⟨rfl, hb⟩; have HBL := Lib.hid hb; clear hb)
                    have hsz1 : w.heap.size ≤ w1.heap.size := Nat.le_trans hsz HBL.out.size
                    obtain ⟨g3, off3, he3, hA2⟩ := DoT.append (Cb := Cb) hqU HUQ.out (HD.out.old HBL.out) hsz1 (by rw [← HLE.out]; exact hle) (HRB.out.old HBL.out) HNB.out
                    obtain ⟨e1, e2⟩ : g = g3 ∧ ot = off3 := by injection he3 with hao; injection hao with h1 h2; exact ⟨h1, h2⟩
                    subst e1 e2
                    clear he3
                    have HA2 := Lib.hid hA2
                    clear hA2 t0 t1 t2 t3
                    go_wp2_with (go_at_call 21; refine HA2.out.mono ?_; rintro e w2 ⟨r, rfl, hd, hb⟩; have HDN := Lib.hid hd; have HBN := Lib.hid ((HB.out.trans (HBL.out.mono hsz)).trans hb); clear hd hb)
                    go_roundw
                    case rel => exact ⟨i + 1, _, by omega, by go_num, Lib.hid (by rw [Wr.step_len]; exact HUL.out), HRES, HDN, HBN⟩
                    case measure => simp [intOf]; omega
                  · have d3 : (LE == 0) = false := by rw [beq_eq_false_iff_ne]; exact hle
                    have HRES : Hid (Wr.go stop bytes 0 ts l = Wr.go stop bytes (i + 1) us (l.drop (i + 1))) := Lib.hid (by rw [HST.out, Wr.step_no hqU (.inl (by rw [HUQ.out]; show Tp.loadE lab cap bs lost ≠ 0; rw [← HLE.out]; exact hle))])
                    go_wp2_with (go_at_call 20; refine HC.out.mono ?_; rintro e w1 ⟨rfl, hb⟩; have HDN := Lib.hid (HD.out.old hb); have HBN := Lib.hid (HB.out.trans (hb.mono hsz)); clear hb t0 t1 t2 t3)
                    go_roundw
                    case rel => exact ⟨i + 1, _, by omega, by go_num, HUL, HRES, HDN, HBN⟩
                    case measure => simp [intOf]; omega
          · have hres : Wr.go stop bytes 0 ts l = (us, false) := by rw [HGO.out, Wr.go_end (by rw [← HL2.out]; omega)]
            have HRES := Lib.hid hres
            clear hres
            go_wp2
            go_ret2
            rw [HRES.out]
            exact ⟨_, rfl, HD.out, HB.out⟩
end Go.Proofs.YtndofmoepjfnfaaDoor
namespace Go.Proofs.YtndofmoepjfnfaaDoor
open Go.RowKit
open Pt (Tx)

set_option maxHeartbeats 1000000 in
theorem sameRowsL_yes (A : Option Addr) (C : Nat) (bs : List Tx) (G : Nat → Prop) (A' : Option Addr) (C' : Nat) (G' : Nat → Prop) (n : Nat) (w : World) (hn : bs.length = n) (hm : n ≤ 1000000) (h : RdB w A bs G) (h' : RdB w A' bs G') :
    Calls Tryd.prog 37 #[.slice A n C, .slice A' n C'] w (AnsB true w) := by
  have H := Lib.hid h
  have H' := Lib.hid h'
  have HN := Lib.hid hn
  clear h h' hn
  go_enter Tryd.func37, Tryd.ntmps37
  go_wp2
  go_loopw [5] (fun vi wr => ∃ i : Nat, i ≤ n ∧ vi = .int .i64 (i : Int) ∧ Hid (Below w.heap.size w wr)) (fun vi _ => n - (intOf vi).toNat)
  case atStart => exact ⟨0, by omega, rfl, Lib.hid (Below.refl _ _)⟩
  case round =>
    obtain ⟨i, hi, rfl, HB⟩ := hrel
    by_cases hlt : i < n
    · have hlt' : i < bs.length := by rw [HN.out]; exact hlt
      obtain ⟨b0, off0, Ai, Ci, rfl, _, d1, _, _, hr1⟩ := (H.out.old HB.out).at_ hlt'
      obtain ⟨b1, off1, Aj, Cj, rfl, _, d2, _, _, hr2⟩ := (H'.out.old HB.out).at_ hlt'
      have s1 := fun q => RdL.str (w := wr.drewN q) (hr1.keep fun _ _ _ h => h) Ci
      have s2 := fun q => RdL.str (w := wr.drewN q) (hr2.keep fun _ _ _ h => h) Cj
      clear hr1 hr2
      generalize bs[i] = s at *
      go_wp2
      go_quiet (fail)
      clear s1 s2 d1 d2
      go_wp2
      go_roundw
      case rel => exact ⟨i + 1, by omega, by go_num, Lib.hid ⟨HB.out.os, HB.out.tape, HB.out.output, HB.out.size, HB.out.block⟩⟩
      case measure => simp [intOf]; omega
    · go_wp2
      go_ret
      exact ⟨rfl, HB.out⟩
set_option maxHeartbeats 1000000 in
theorem sameTapeL_yes (lab cap : Int) (lost : Bool) (A : Option Addr) (C : Nat) (bs : List Tx) (G : Nat → Prop) (A' : Option Addr) (C' : Nat) (G' : Nat → Prop) (n : Nat) (w : World) (hn : bs.length = n) (hm : n ≤ 1000000) (h : RdB w A bs G) (h' : RdB w A' bs G') :
    Calls Tryd.prog 22 #[.agg #[.int .i64 lab, .int .i64 cap, .slice A n C, .bool lost], .agg #[.int .i64 lab, .int .i64 cap, .slice A' n C', .bool lost]] w (AnsB true w) := by
  have hB : Below w.heap.size w ((w.alloc (.cells #[.int .i64 lab, .int .i64 cap, .slice A n C, .bool lost] 35)).alloc (.cells #[.int .i64 lab, .int .i64 cap, .slice A' n C', .bool lost] 35)) := ((Below.refl _ _).alloc (Nat.le_refl _) _).alloc (by simp) _
  have H := Lib.hid (h.old hB)
  have H' := Lib.hid (h'.old hB)
  have HN := Lib.hid hn
  have HB := Lib.hid hB
  have q : (lost == lost) = true := by simp
  clear h h' hn hB
  go_enter Tryd.func22, Tryd.ntmps22
  go_wp2_with (go_at_call 37; refine (sameRowsL_yes A C bs G A' C' G' n _ HN.out hm H.out H'.out).mono ?_; rintro e w1 ⟨rfl, hb⟩; have HB1 := Lib.hid hb; clear hb)
  go_ret
  exact ⟨rfl, HB.out.trans (HB1.out.mono HB.out.size)⟩
set_option maxRecDepth 100000 in
set_option maxHeartbeats 4000000 in
theorem sameTapes_yes (A : Option Addr) (C : Nat) (ts : List St.T) (G : Nat → Prop) (A' : Option Addr) (C' : Nat) (G' : Nat → Prop) (n : Nat) (w : World) (hn : ts.length = n) (hm : n ≤ 1000000) (hl : ∀ t ∈ ts, t.blocks.length ≤ 1000000) (h : RdT w A ts G) (h' : RdT w A' ts G') :
    Calls Tryd.prog 9 #[.slice A n C, .slice A' n C'] w (AnsB true w) := by
  have H := Lib.hid h
  have H' := Lib.hid h'
  have HN := Lib.hid hn
  have HL := Lib.hid hl
  clear h h' hn hl
  go_enter Tryd.func9, Tryd.ntmps9
  go_wp2
  go_loopw [5] (fun vi wr => ∃ i : Nat, i ≤ n ∧ vi = .int .i64 (i : Int) ∧ Hid (Below w.heap.size w wr)) (fun vi _ => n - (intOf vi).toNat)
  case atStart => exact ⟨0, by omega, rfl, Lib.hid (Below.refl _ _)⟩
  case round =>
    obtain ⟨i, hi, rfl, HB⟩ := hrel
    by_cases hlt : i < n
    · have e0 : decide (i < n) = true := decide_eq_true hlt
      have hlt' : i < ts.length := by rw [HN.out]; exact hlt
      obtain ⟨b, off, Ai, Ci, rfl, -, c0, c1, c2, c3, hr1⟩ := (H.out.old HB.out).at_ hlt'
      obtain ⟨b', off', Aj, Cj, rfl, -, d0, d1, d2, d3, hr2⟩ := (H'.out.old HB.out).at_ hlt'
      have hlb := HL.out _ (List.getElem_mem hlt')
      generalize ts[i] = t at *
      obtain ⟨lab, cap, bs, lost⟩ := t
      dsimp only at c0 c1 c2 c3 d0 d1 d2 d3 hr1 hr2 hlb
      obtain ⟨m, hmm⟩ : ∃ m, m = bs.length := ⟨_, rfl⟩
      rw [← hmm] at c2 d2 hlb
      have HM := Lib.hid hmm.symm
      have hS8 : Hid (∀ y, Below wr.heap.size wr y → (y.cell? ⟨b, off + i * 4, none⟩ = some (.int .i64 lab) ∧ y.cell? ⟨b, off + i * 4 + 1, none⟩ = some (.int .i64 cap) ∧ y.cell? ⟨b, off + i * 4 + 2, none⟩ = some (.slice Ai m Ci) ∧ y.cell? ⟨b, off + i * 4 + 3, none⟩ = some (.bool lost) ∧ y.cell? ⟨b', off' + i * 4, none⟩ = some (.int .i64 lab) ∧ y.cell? ⟨b', off' + i * 4 + 1, none⟩ = some (.int .i64 cap) ∧ y.cell? ⟨b', off' + i * 4 + 2, none⟩ = some (.slice Aj m Cj) ∧ y.cell? ⟨b', off' + i * 4 + 3, none⟩ = some (.bool lost))) := Lib.hid fun y hy => ⟨(hy.cell (World.block_lt_of_cell? _ _ c0)).trans c0, (hy.cell (World.block_lt_of_cell? _ _ c1)).trans c1, (hy.cell (World.block_lt_of_cell? _ _ c2)).trans c2, (hy.cell (World.block_lt_of_cell? _ _ c3)).trans c3, (hy.cell (World.block_lt_of_cell? _ _ d0)).trans d0, (hy.cell (World.block_lt_of_cell? _ _ d1)).trans d1, (hy.cell (World.block_lt_of_cell? _ _ d2)).trans d2, (hy.cell (World.block_lt_of_cell? _ _ d3)).trans d3⟩
      have hbd : Below wr.heap.size wr wr.drew := (Below.refl _ _).drew
      have HRX := Lib.hid (hr1.old hbd)
      have HRY := Lib.hid (hr2.old hbd)
      have HBD := Lib.hid (HB.out.trans (hbd.mono HB.out.size))
      have HD := Lib.hid hbd
      have s0 := hS8.out _ hbd
      have i0 : (0 : Int) ≤ (i : Int) := by omega
      have i1 : (i : Int) < (n : Int) := by omega
      clear hr1 hr2 hmm hbd c0 c1 c2 c3 d0 d1 d2 d3
      go_wp2
      go_region_held3 (fun y => (y.cell? ⟨b, off + i * 4, none⟩ = some (.int .i64 lab) ∧ y.cell? ⟨b, off + i * 4 + 1, none⟩ = some (.int .i64 cap) ∧ y.cell? ⟨b, off + i * 4 + 2, none⟩ = some (.slice Ai m Ci) ∧ y.cell? ⟨b, off + i * 4 + 3, none⟩ = some (.bool lost) ∧ y.cell? ⟨b', off' + i * 4, none⟩ = some (.int .i64 lab) ∧ y.cell? ⟨b', off' + i * 4 + 1, none⟩ = some (.int .i64 cap) ∧ y.cell? ⟨b', off' + i * 4 + 2, none⟩ = some (.slice Aj m Cj) ∧ y.cell? ⟨b', off' + i * 4 + 3, none⟩ = some (.bool lost)))
        (first
          | exact s0
          | exact s1)
        (first
          | (go_at_call 22; refine (sameTapeL_yes lab cap lost Ai Ci bs _ Aj Cj _ m _ HM.out hlb HRX.out HRY.out).mono ?_; rintro e wg ⟨rfl, hbg⟩; have s1 := hS8.out _ (HD.out.trans (hbg.mono HD.out.size)); have HBG := Lib.hid (HBD.out.trans (hbg.mono HBD.out.size)); clear hbg))
      all_goals
        clear s0 s1
        go_wp2
        go_roundw
        case rel => exact ⟨i + 1, by omega, by go_num, HBG⟩
        case measure => simp [intOf]; omega
    · have e0 : decide (i < n) = false := decide_eq_false hlt
      go_wp2
      go_ret
      exact ⟨rfl, HB.out⟩
end Go.Proofs.YtndofmoepjfnfaaDoor
namespace Go.Proofs.YtndofmoepjfnfaaDoor
open Go.RowKit Mx Go.ChangeShapes Go.WideShapes

/-- the element of a number that lies in a cell -/
def feOf (x : Int) : Fe := mk (x.toNat % 256) (Nat.mod_lt _ (by decide))
theorem fi_feOf {x : Int} (h : (Lit.int .u8 x).wf = true) : fi (feOf x) = x := by
  have h' := range_u8 (zs := [x]) (by simpa using h) 0
  simp at h'
  unfold fi feOf
  rw [nat_mk, Nat.mod_eq_of_lt (by omega)]; omega
theorem getD_wf {k : IntKind} {zs : List Int} (h : ∀ n ∈ zs, (Lit.int k n).wf = true) {c : Nat} (hc : c < zs.length) : (Lit.int k (zs.getD c 0)).wf = true := by
  rw [List.getD_eq_getElem?_getD, List.getElem?_eq_getElem hc]
  exact h _ (List.getElem_mem hc)
theorem rd_cells {w : World} {a : Addr} {n : Nat} {zs : List Int} (hn : n ≤ zs.length) (hw : ∀ x ∈ zs, (Lit.int .u8 x).wf = true) (hc : ∀ c, c < n → w.cell? (a.add c) = some (.int .u8 (zs.getD c 0))) :
    Rd w (some a) n (fun c => feOf (zs.getD c 0)) (fun _ => True) := by
  intro h0
  obtain ⟨b, off, spot⟩ := a
  have hs : spot = none := by simpa [Addr.add] using World.cell?_spot (hc 0 h0)
  subst hs
  refine ⟨b, off, rfl, trivial, fun j hj => ?_⟩
  have := hc j hj
  rw [fi_feOf (getD_wf hw (by omega))]
  by_cases e : j = 0
  · subst e; simpa [Addr.add] using this
  · simpa [Addr.add, e] using this
section
variable {H : Type} {enc : TypeId × Value → H} {w : World} {base fuel : Nat} {held : Bool} {a : Option Addr} {len cap : Nat} {x : DataW H × List MemPlace}
/-- a row of bytes -/
theorem open_rd (h : DataW.trod enc Tryd.prog w base (fun _ => true) held fuel 26 (Value.slice a len cap).cells.toList = some x) :
    len ≤ maxLen ∧ ∃ r, Rd w a len r (fun _ => True) := by
  rcases open_ints Tryd.underlying26 Tryd.underlying5 (by kernel_rfl) h with ⟨hcs, _⟩ | ⟨y, l, c, zs, hcs, _, hl, hm, hz, _, hcell, hwz⟩
  · simp [Value.cells] at hcs
    obtain ⟨rfl, rfl, rfl⟩ := hcs
    exact ⟨by decide, fun _ => 0, Rd.empty _ _ _ _⟩
  · simp [Value.cells] at hcs
    obtain ⟨rfl, rfl, rfl⟩ := hcs
    have hz' : zs.length = cap := by simpa using hz
    exact ⟨by omega, _, rd_cells (by omega) hwz (fun c hc => hcell c (by omega))⟩
/-- a row of bytes, which is empty if it is nil -/
theorem open_rdN (h : DataW.trod enc Tryd.prog w base (fun _ => true) held fuel 26 (Value.slice a len cap).cells.toList = some x) :
    len ≤ maxLen ∧ (a = none → len = 0 ∧ cap = 0) ∧ ∃ r, Rd w a len r (fun _ => True) := by
  rcases open_ints Tryd.underlying26 Tryd.underlying5 (by kernel_rfl) h with ⟨hcs, _⟩ | ⟨y, l, c, zs, hcs, _, hl, hm, hz, _, hcell, hwz⟩
  · simp [Value.cells] at hcs
    obtain ⟨rfl, rfl, rfl⟩ := hcs
    exact ⟨by decide, fun _ => ⟨rfl, rfl⟩, fun _ => 0, Rd.empty _ _ _ _⟩
  · simp [Value.cells] at hcs
    obtain ⟨rfl, rfl, rfl⟩ := hcs
    have hz' : zs.length = cap := by simpa using hz
    exact ⟨by omega, (fun h => by cases h), _, rd_cells (by omega) hwz (fun c hc => hcell c (by omega))⟩
end
end Go.Proofs.YtndofmoepjfnfaaDoor
namespace Go.Proofs.YtndofmoepjfnfaaDoor
open Go.RowKit Mx Go.ChangeShapes Go.WideShapes
open Pt (Tx)

section
variable {H : Type} {enc : TypeId × Value → H} {w : World} {base fuel : Nat} {held : Bool} {a : Option Addr} {len cap : Nat} {x : DataW H × List MemPlace}
/-- bytes, as a list -/
theorem open_rdL (h : DataW.trod enc Tryd.prog w base (fun _ => true) held fuel 26 (Value.slice a len cap).cells.toList = some x) :
    cap ≤ maxLen ∧ len ≤ cap ∧ (a = none → len = 0 ∧ cap = 0) ∧ ∃ l : Tx, l.length = len ∧ RdL w a l (fun _ => True) := by
  rcases open_ints Tryd.underlying26 Tryd.underlying5 (by kernel_rfl) h with ⟨hcs, _⟩ | ⟨y, l, c, zs, hcs, _, hl, hm, hz, _, hcell, hwz⟩
  · simp [Value.cells] at hcs
    obtain ⟨rfl, rfl, rfl⟩ := hcs
    exact ⟨by decide, Nat.le_refl _, fun _ => ⟨rfl, rfl⟩, [], rfl, RdL.empty _ _ _⟩
  · simp [Value.cells] at hcs
    obtain ⟨rfl, rfl, rfl⟩ := hcs
    have hz' : zs.length = cap := by simpa using hz
    refine ⟨hm, hl, (fun h => by cases h), (List.range len).map fun i => UInt8.ofNat (zs.getD i 0).toNat, by simp, fun h0 => ?_⟩
    simp at h0
    obtain ⟨b, off, spot⟩ := y
    have hs : spot = none := by simpa [Addr.add] using World.cell?_spot (hcell 0 (by omega))
    subst hs
    refine ⟨b, off, rfl, trivial, fun j hj => ?_⟩
    have hj' : j < len := by simpa using hj
    have hc := hcell j (by omega)
    rw [addr_add] at hc
    have hw := fi_feOf (getD_wf hwz (c := j) (by omega))
    rw [hc]
    have hr : 0 ≤ zs.getD j 0 ∧ zs.getD j 0 < 256 := by have h1 := fi_lo (feOf (zs.getD j 0)); have h2 := fi_hi (feOf (zs.getD j 0)); rw [hw] at h1 h2; exact ⟨h1, h2⟩
    simp only [List.getElem_map, List.getElem_range, UInt8.toNat_ofNat']
    rw [Nat.mod_eq_of_lt (show (zs.getD j 0).toNat < 2 ^ 8 by have := hr.2; have := hr.1; omega)]
    congr 2
    have := hr.1
    omega
end
end Go.Proofs.YtndofmoepjfnfaaDoor
namespace Go.Proofs.YtndofmoepjfnfaaDoor
open Go.RowKit Mx Go.ChangeShapes Go.WideShapes Go.Joins
open Pt (Tx)

theorem cellsInt8 : Tryd.prog.cellsOf 3 = 1 := by kernel_rfl
theorem cellsRow8 : Tryd.prog.cellsOf 26 = 1 := by kernel_rfl
section
variable {H : Type} {enc : TypeId × Value → H} {w : World} {base fuel : Nat} {held : Bool} {x : DataW H × List MemPlace}
theorem open_row8 {cs : List Value} (h : DataW.trod enc Tryd.prog w base (fun _ => true) held fuel 26 cs = some x) :
    ∃ (a : Option Addr) (cap : Nat) (t : Tx), cs = [.slice a t.length cap] ∧ t.length ≤ cap ∧ (a = none → t.length = 0 ∧ cap = 0) ∧ RdL w a t (fun _ => True) := by
  have key : ∃ a len cap, cs = [Value.slice a len cap] := by
    rcases open_ints Tryd.underlying26 Tryd.underlying5 (by kernel_rfl) h with ⟨hcs, _⟩ | ⟨y, l, c, zs, hcs, _⟩
    · exact ⟨_, _, _, hcs⟩
    · exact ⟨_, _, _, hcs⟩
  obtain ⟨a, len, cap, rfl⟩ := key
  have h' : DataW.trod enc Tryd.prog w base (fun _ => true) held fuel 26 (Value.slice a len cap).cells.toList = some x := h
  obtain ⟨_, h2, h3, t, rfl, h4⟩ := open_rdL h'
  exact ⟨a, cap, t, rfl, h2, h3, h4⟩
end
end Go.Proofs.YtndofmoepjfnfaaDoor
