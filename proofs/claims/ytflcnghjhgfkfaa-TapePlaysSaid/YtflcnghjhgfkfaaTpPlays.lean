/- What any row of calls answers, and leaves. -/
import Derived.Test.YtflcnghjhgfkfaaTpAny
import Derived.Test.YtflcnghjhgfkfaaTpRefD
import Derived.Test.YtflcnghjhgfkfaaTpRefE
import Derived.Test.YtflcnghjhgfkfaaTpRefF
import Derived.Test.YtflcnghjhgfkfaaTpRots
import Derived.Deep.DeepCutAuto
import Derived.Deep.CutBlock
import Derived.IntWalk
namespace Go.Proofs.Ytflcnghjhgfkfaa
open Go.RowKit
open Pt (Tx)

set_option maxRecDepth 100000 in
set_option maxHeartbeats 40000000 in
theorem plays_main (lab cap : Int) (A : Option Addr) (bs : List Tx) (C : Nat) (Al : Option Addr) (L Cl : Nat) (way num mm : Nat → Int) (st : Nat → Tx) (w : World) (hr : RdB w A bs (fun _ => True)) (ha : ActR w Al L way num mm st w.heap.size) (hF : Tp.few bs = true) (hT : Tp.right lab cap bs = true) (hL : L ≤ 80) :
    Calls Try.prog 3 #[.agg #[.int .i64 lab, .int .i64 cap, .slice A bs.length C, .bool false], .slice Al L Cl] w (AnsB true w) := by
  have dL : decide (80 < (L : Int)) = false := decide_eq_false (by omega)
  have HR : Hid (RdB w A bs (· < w.heap.size)) := Lib.hid (hr.in_.mono fun _ h => h.2)
  have HA := Lib.hid ha
  have HF := Lib.hid hF
  have HT := Lib.hid hT
  have HF2 := Lib.hid (Tp.few_of hF)
  have HT2 := Lib.hid (Tp.right_of hT)
  have hb0 : Below w.heap.size w (w.alloc (.cells #[.int .i64 lab, .int .i64 cap, .slice A bs.length C, .bool false] 24)) := (Below.refl _ _).alloc (Nat.le_refl _) _
  have HB0 := Lib.hid hb0
  have hbx : (w.alloc (.cells #[.int .i64 lab, .int .i64 cap, .slice A bs.length C, .bool false] 24)).heap[w.heap.size]? = some (.cells #[.int .i64 lab, .int .i64 cap, .slice A bs.length C, .bool false] 24 (0, 0)) := Go.Deep.blk_alloc_new _ _
  have HBX := Lib.hid hbx
  clear hr ha hF hT hb0 hbx
  go_enter Try.func3, Try.ntmps3
  go_wp2_with (first
    | (go_at_call 7; refine (alive8_true _).mono ?_; rintro e w1 ⟨rfl, hb1⟩; have HBw1 := Lib.hid (HB0.out.trans (hb1.mono HB0.out.size)); have HXw1 := Lib.hid ((hb1.block w.heap.size (by simp)).trans HBX.out); obtain ⟨q10, q11, q12, q13⟩ := cell4 HXw1.out; clear hb1)
    | (go_at_call 8; refine (few_yes lab cap A bs C false _ w1 (HR.out.below HBw1.out) HF.out).mono ?_; rintro e w2 ⟨rfl, hb2⟩; have hz2 : w.heap.size < w1.heap.size := heap_lt HXw1.out; have HBw2 := Lib.hid (HBw1.out.trans (hb2.mono HBw1.out.size)); have HXw2 := Lib.hid ((hb2.block w.heap.size hz2).trans HXw1.out); obtain ⟨q20, q21, q22, q23⟩ := cell4 HXw2.out; clear hb2)
    | (go_at_call 10; ((with_reducible refine (copyTape_any lab cap A bs bs.length C false _ w2 rfl (HR.out.below HBw2.out) (by have := HF2.out.1; omega) (fun s hs => by have := HF2.out.2 s hs; omega)).mono ?_)); rintro e w3 ⟨A3, C3, us3, rfl, ht3, hb3⟩; have hz3 : w.heap.size < w2.heap.size := heap_lt HXw2.out; have HBw3 := Lib.hid (HBw2.out.trans (hb3.mono HBw2.out.size)); have HXw3 := Lib.hid ((hb3.block w.heap.size hz3).trans HXw2.out); obtain ⟨q30, q31, q32, q33⟩ := cell4 HXw3.out; have HP3 := Lib.hid ht3; clear hb3 ht3)
    | (go_at_call 9; refine (load_ok lab cap A3 bs C3 _ w3 HP3.out.rdB HT.out).mono ?_; rintro e w4 ⟨g, rfl, hg, hD, hb4⟩; have hz4 : w.heap.size < w3.heap.size := heap_lt HXw3.out; have HBw4 := Lib.hid (HBw3.out.trans (hb4.mono HBw3.out.size)); have HXw4 := Lib.hid ((hb4.block w.heap.size hz4).trans HXw3.out); obtain ⟨q40, q41, q42, q43⟩ := cell4 HXw4.out; have HD := Lib.hid hD; have hgl := hD.lt; clear hb4 hD)
    | (go_at_call 11; refine (refLoad_ok lab cap A bs C _ w4 (HR.out.below HBw4.out) HT.out).mono ?_; rintro e w5 ⟨rfl, hb5⟩; have hz5 : w.heap.size < w4.heap.size := heap_lt HXw4.out; have HBw5 := Lib.hid (HBw4.out.trans (hb5.mono HBw4.out.size)); have HXw5 := Lib.hid ((hb5.block w.heap.size hz5).trans HXw4.out); obtain ⟨q50, q51, q52, q53⟩ := cell4 HXw5.out; have HD5 := Lib.hid (HD.out.old hb5); have hgl5 := HD5.out.lt; clear hb5)
    | (go_at_call 12; refine (num_any _ _).mono ?_; rintro e w' ⟨rfl, rfl⟩)
    | (go_at_call 10; ((with_reducible refine (copyTape_any lab cap A bs bs.length C false _ w5 rfl (HR.out.below HBw5.out) (by have := HF2.out.1; omega) (fun s hs => by have := HF2.out.2 s hs; omega)).mono ?_)); rintro e w6 ⟨A6, C6, us6, rfl, ht6, hb6⟩; have hz6 : w.heap.size < w5.heap.size := heap_lt HXw5.out; have HBw6 := Lib.hid (HBw5.out.trans (hb6.mono HBw5.out.size)); have HXw6 := Lib.hid ((hb6.block w.heap.size hz6).trans HXw5.out); obtain ⟨q60, q61, q62, q63⟩ := cell4 HXw6.out; have HP6 := Lib.hid ht6; have HD6 := Lib.hid (HD5.out.old hb6); have hle6 := hb6.size; clear hb6 ht6))
  have hgw : w.heap.size ≤ g := Nat.le_trans HBw3.out.size hg
  have hbl : Below w6.heap.size w6 (w6.alloc (.cells #[.int .i64 lab, .int .i64 cap, .slice A6 bs.length C6, .bool false] 24)) := (Below.refl _ _).alloc (Nat.le_refl _) _
  have HBO : Hid (Both w (w6.alloc (.cells #[.int .i64 lab, .int .i64 cap, .slice A6 bs.length C6, .bool false] 24)) g w5.heap.size w6.heap.size (fun q => w5.heap.size ≤ q) lab cap bs) := Lib.hid ⟨HD6.out.old hbl, ⟨⟨_, us6, Go.Deep.blk_alloc_new _ _, HP6.out.old hbl⟩, hle6⟩, hgw, hgl5, Nat.le_trans hle6 hbl.size, HBw6.out.trans (hbl.mono HBw6.out.size)⟩
  have hcap : cap ≤ 64 := HT2.out.2.2.1
  generalize w6.alloc (.cells #[.int .i64 lab, .int .i64 cap, .slice A6 bs.length C6, .bool false] 24) = w7 at HBO ⊢
  generalize w6.heap.size = gr at HBO ⊢
  generalize w5.heap.size = B at HBO
  clear hbl HD6 HP6 HD5 HD HP3 HBw6 HBw5 HBw4 HBw3 HBw2 HBw1 HXw6 HXw5 HXw4 HXw3 HXw2 HXw1 HR HF HT HF2 HT2 HB0 HBX q10 q11 q12 q13 q20 q21 q22 q23 q30 q31 q32 q33 q40 q41 q42 q43 q50 q51 q52 q53 q60 q61 q62 q63 hz2 hz3 hz4 hz5 hz6 hgl hgl5 hle6 hg hgw
  go_loopw [10] (fun i wr => ∃ (k : Nat) (cs : List Tx), k ≤ L ∧ i = .int .i64 (k : Int) ∧ Hid (Both w wr g B gr (fun q => B ≤ q) lab cap cs)) (fun i _ => L - (intOf i).toNat)
  case atStart => exact ⟨0, bs, by omega, rfl, HBO⟩
  case round =>
    clear HBO
    obtain ⟨k, cs, hk, rfl, HBO⟩ := hrel
    by_cases hlt : k < L
    · obtain ⟨b, off, hAl, hbB, hcs⟩ := (HA.out.below HBO.out.bel) (by omega)
      subst hAl
      obtain ⟨A', C', e1, e2, e3, e4, e5, e6, e7⟩ := hcs k hlt
      obtain ⟨s, hs⟩ : ∃ s, s = st k := ⟨_, rfl⟩
      rw [← hs] at e4 e5 e6 e7
      obtain ⟨S, hS⟩ : ∃ S, S = s.length := ⟨_, rfl⟩
      rw [← hS] at e4 e5 e6
      obtain ⟨W, hW⟩ : ∃ W, W = way k := ⟨_, rfl⟩
      obtain ⟨N, hN⟩ : ∃ N, N = num k := ⟨_, rfl⟩
      obtain ⟨M, hM⟩ : ∃ M, M = mm k := ⟨_, rfl⟩
      rw [← hW] at e1
      rw [← hN] at e2
      rw [← hM] at e3
      have HS := Lib.hid hS
      have H6 := Lib.hid e6
      have H7 := Lib.hid e7
      have hbr : Below wr.heap.size wr (wr.alloc (.cells #[.int .i64 W, .int .i64 N, .int .i64 M, .slice A' S C'] 37)) := (Below.refl _ _).alloc (Nat.le_refl _) _
      have HBR := Lib.hid hbr
      clear hcs hs hS hW hN hM e6 e7 hbr
      by_cases h300 : 300 < S
      · have d3 : decide (300 < (S : Int)) = true := decide_eq_true (by omega)
        go_wp2
        go_ret
        exact ⟨rfl, HBO.out.bel.trans (HBR.out.mono HBO.out.bel.size)⟩
      · have d3 : decide (300 < (S : Int)) = false := decide_eq_false (by omega)
        go_upto_block 2 with (at_builtin; refine wpList_append_bl _ rfl _ _ rfl (wr.heap.size + 1) _ [] rfl (OwnL.nil _ _) A' S C' s _ rfl HS.out.symm H6.out (H7.out.old (HBO.out.bel.trans (HBR.out.mono HBO.out.bel.size) |> fun _ => HBR.out)) (by simp; omega) (by simp) ?_; intro u wA hu hg; rw [List.nil_append] at hu; have hbA : Below wr.heap.size wr wA := HBR.out.trans ⟨hg.os, hg.tape, hg.output, Nat.le_trans (by simp) hg.size, fun q hq => hg.block q (by simp; omega) (fun e => by cases e)⟩; obtain ⟨Au, Cu, hue, _⟩ := hu.rd; rw [← HS.out] at hue; subst hue; have HU := Lib.hid hu; have HBA := Lib.hid hbA; have HGA := Lib.hid ((hg.block wr.heap.size (by simp) (fun e => by cases e)).trans (Go.Deep.blk_alloc_new wr (.cells #[.int .i64 W, .int .i64 N, .int .i64 M, .slice A' S C'] 37))); obtain ⟨a0, a1, a2, a3⟩ := cell4 HGA.out; clear hu hg hbA)
        have hga : wr.heap.size < wA.heap.size := heap_lt HGA.out
        have HB1 : Hid (Both w wA g B gr (fun q => B ≤ q ∧ (Value.slice Au S Cu).ownBlock ≠ some q ∧ q ≠ wr.heap.size) lab cap cs) := Lib.hid ?hb1
        case hb1 =>
          have h0 := HBO.out
          have h1 : Both w wr g B gr (fun q => B ≤ q ∧ (Value.slice Au S Cu).ownBlock ≠ some q ∧ q ≠ wr.heap.size) lab cap cs := ⟨h0.d, h0.r.there.mono (fun q hq => ⟨hq.1, fun e => by have := HU.out.lo q e; omega, by omega⟩), h0.lo, h0.hi, h0.le, h0.bel⟩
          exact h1.old HBA.out
        have HAr : Hid (RdL wA A' s (· < w.heap.size)) := Lib.hid (H7.out.below (HBA.out.mono HBO.out.bel.size))
        go_cut [] (fun wx => ∃ ds : List Tx, Hid (Both w wx g B gr (fun q => B ≤ q ∧ (Value.slice Au S Cu).ownBlock ≠ some q ∧ q ≠ wr.heap.size) lab cap ds) ∧ Hid (OwnL wx (wr.heap.size + 1) (.slice Au S Cu) s))
        case first =>
          have hbdr : Below wA.heap.size wA wA.drew := (Below.refl _ _).drew
          have HBd := Lib.hid (HB1.out.old hbdr)
          have HUd : Hid (OwnL wA.drew (wr.heap.size + 1) (.slice Au S Cu) s) := Lib.hid (HU.out.of_block fun _ _ => rfl)
          have HGd : Hid (wA.drew.heap[wr.heap.size]? = some (.cells #[.int .i64 W, .int .i64 N, .int .i64 M, .slice A' S C'] 37 (0, 0))) := Lib.hid HGA.out
          have HUr : Hid (RdL wA.drew Au s (fun _ => True)) := Lib.hid (by
            obtain ⟨Ax, Cx, hx, _, _, _, hrd⟩ := HUd.out.rd
            injection hx with hx1
            rw [hx1]; exact hrd.mono fun _ _ => trivial)
          have HAe : Hid (RdL wA.drew A' s (· < w.heap.size)) := Lib.hid (HAr.out.keep fun _ _ _ h => h)
          have hgad : wr.heap.size < wA.drew.heap.size := hga
          have hc64 : cs.length ≤ 64 := HB1.out.d.len64
          have HOK := Lib.hid HB1.out.d.ok
          have hwB : w.heap.size ≤ B := Nat.le_trans HB1.out.lo (Nat.le_of_lt HB1.out.hi)
          by_cases w0 : W = 0
          · subst w0
            have S0 : wA.drew.cell? ⟨wr.heap.size, 3, none⟩ = some (.slice A' S C') ∧ wA.drew.cell? ⟨wr.heap.size, 1, none⟩ = some (.int .i64 N) := ⟨a3, a1⟩
            go_wp2_with fail
            go_region_held3 (fun w' => w'.cell? ⟨wr.heap.size, 3, none⟩ = some (.slice A' S C') ∧ w'.cell? ⟨wr.heap.size, 1, none⟩ = some (.int .i64 N))
              (first | exact S0 | exact S1 | exact S2)
              (first
                | (go_at_call 13; refine (append_any g lab cap cs Au s S Cu _ _ HBd.out.d HS.out.symm HUr.out).mono ?_; rintro e wd ⟨rfl, hd, hkd⟩; have hg1 := kept_drive HBd.out.d hkd HGd.out (by decide); have S1 : wd.cell? ⟨wr.heap.size, 3, none⟩ = some (.slice A' S C') ∧ wd.cell? ⟨wr.heap.size, 1, none⟩ = some (.int .i64 N) := ⟨heap_cell hg1, heap_cell hg1⟩; have hbd := HBd.out.drive hkd; have HRd := Lib.hid hbd.1; have hsd := hbd.2.1; have HDd := Lib.hid hd; have HKd := Lib.hid hkd; have HG1 := Lib.hid hg1; have hgw : ∀ k, wd.heap.size ≤ k → B ≤ k ∧ (Value.slice Au S Cu).ownBlock ≠ some k ∧ k ≠ wr.heap.size := newG HUd.out HBd.out.le hgad hkd.size; have HGw := Lib.hid hgw; have HAd := Lib.hid (HAe.out.below (hkd.below (B := w.heap.size) HBd.out.bel.size (fun q hq => by rw [hq]; exact HBd.out.lo))); clear hbd hg1 hd hkd hgw)
                | (go_at_call 12; refine (num_any _ _).mono ?_; rintro e w' ⟨rfl, rfl⟩)
                | (go_at_call 14; refine (refAppend_any B gr _ lab cap cs A' s S C' _ wd HRd.out HS.out.symm hcap HAd.out HGw.out hsd).mono ?_; rintro e we ⟨rfl, hr2, hf2⟩; have hg2 := hf2.kept HG1.out (by decide) (by decide) (fun h => h.2.2 rfl); have S2 : we.cell? ⟨wr.heap.size, 3, none⟩ = some (.slice A' S C') ∧ we.cell? ⟨wr.heap.size, 1, none⟩ = some (.int .i64 N) := ⟨heap_cell hg2, heap_cell hg2⟩; have HR2 := Lib.hid hr2; have HF2 := Lib.hid hf2; clear hg2 hr2 hf2))
            go_wp2
            go_meet
            exact ⟨Tp.apL cap cs s, Lib.hid (HBd.out.step HDd.out HKd.out HR2.out HF2.out), Lib.hid ((HUd.out.drive HBd.out.d HKd.out).refT HF2.out (fun q e h => h.2.1 e))⟩
          have z0 : (W == 0) = false := by simp [w0]
          by_cases w1' : W = 1
          · subst w1'
            obtain ⟨Av, Cv, hgr, _, hrd⟩ := HB1.out.r.rd
            obtain ⟨k0, k1, k2, k3⟩ := cell4 hgr
            have hgl : gr < wA.heap.size := heap_lt hgr
            obtain ⟨D, hD⟩ : ∃ D, D = cs.length := ⟨_, rfl⟩
            rw [← hD] at k2
            have HDD := Lib.hid hD
            have HRD := Lib.hid hrd
            clear hgr hrd hD
            by_cases hN : N < 0 ∨ (cs.length : Int) ≤ N
            · have HN := Lib.hid hN
              by_cases hN0 : N < 0
              · have t0 : decide (0 ≤ N) = false := decide_eq_false (by omega)
                clear hN
                go_wp2_with (first
                  | (go_at_call 15; refine (read_no g lab cap cs wA HB1.out.d N HN.out).mono ?_; rintro e w' ⟨rfl, rfl⟩))
                go_quiet ((go_at_call 12; exact Calls.quiet_of_same (numQ _ _)))
                go_wp2
                go_meet
                exact ⟨cs, Lib.hid (HB1.out.old ⟨rfl, rfl, rfl, Nat.le_refl _, fun _ _ => rfl⟩), Lib.hid (HU.out.of_block fun _ _ => rfl)⟩
              · have t0 : decide (0 ≤ N) = true := decide_eq_true (by omega)
                have t1 : decide (N < (D : Int)) = false := decide_eq_false (by rw [HDD.out]; omega)
                clear hN
                go_wp2_with (first
                  | (go_at_call 15; refine (read_no g lab cap cs wA HB1.out.d N HN.out).mono ?_; rintro e w' ⟨rfl, rfl⟩))
                go_quiet ((go_at_call 12; exact Calls.quiet_of_same (numQ _ _)))
                go_wp2
                go_meet
                exact ⟨cs, Lib.hid (HB1.out.old ⟨rfl, rfl, rfl, Nat.le_refl _, fun _ _ => rfl⟩), Lib.hid (HU.out.of_block fun _ _ => rfl)⟩
            · obtain ⟨n, rfl⟩ := Int.eq_ofNat_of_zero_le (by omega : 0 ≤ N)
              have hn : n < cs.length := by omega
              have hnD : n < D := by rw [HDD.out]; exact hn
              have t0 : decide (0 ≤ (n : Int)) = true := decide_eq_true (by omega)
              have t1 : decide (n < D) = true := decide_eq_true hnD
              obtain ⟨bb, bo, A2, C2, hAv, _, hc2, _, _, hr2⟩ := HRD.out.at_ hn
              subst hAv
              obtain ⟨s0, hs0⟩ : ∃ s0, cs[n] = s0 := ⟨_, rfl⟩
              rw [hs0] at hc2 hr2
              obtain ⟨E, hE⟩ : ∃ E, s0.length = E := ⟨_, rfl⟩
              rw [hE] at hc2
              have HE0 := Lib.hid hs0
              have HE1 := Lib.hid hE
              have HR2 := Lib.hid hr2
              have hbbl : bb < wA.heap.size := World.block_lt_of_cell? _ _ hc2
              clear hr2 hs0 hE hN
              go_wp2_with (first
                | (go_at_call 15; refine (read_as g lab cap cs wA HB1.out.d n hn s0 E HE0.out HE1.out).mono ?_; rintro e wq ⟨bx, Cx, rfl, hCx, hbx, hRx, hbw⟩; have HBQ := Lib.hid hbw; have p1 : wq.cell? ⟨wr.heap.size, 1, none⟩ = some (.int .i64 (n : Int)) := (hbw.cell (p := ⟨wr.heap.size, 1, none⟩) hga).trans a1; have p2 : wq.cell? ⟨gr, 2, none⟩ = some (.slice (some ⟨bb, bo, none⟩) D Cv) := (hbw.cell (p := ⟨gr, 2, none⟩) hgl).trans k2; have p3 : wq.cell? ⟨bb, bo + n, none⟩ = some (.slice A2 E C2) := (hbw.cell (p := ⟨bb, bo + n, none⟩) hbbl).trans hc2; have s1 : ∀ q, (convert 35 9 (.slice (some ⟨bx, 0, none⟩) E Cx)).run Try.prog (wq.drewN q) = .ok (.string (tx s0)) (wq.drewN q) := (fun q => by have h := RdL.str (w := wq.drewN q) (hRx.keep fun _ _ _ h => h) Cx; rw [HE1.out] at h; exact h); have s2 : ∀ q, (convert 35 9 (.slice A2 E C2)).run Try.prog (wq.drewN q) = .ok (.string (tx s0)) (wq.drewN q) := (fun q => by have h := RdL.str (w := wq.drewN q) ((HR2.out.old hbw).keep fun _ _ _ h => h) C2; rw [HE1.out] at h; exact h); clear hRx hbw))
              go_quiet ((go_at_call 12; exact Calls.quiet_of_same (numQ _ _)))
              clear s1 s2
              go_wp2
              go_meet
              exact ⟨cs, Lib.hid ((HB1.out.old HBQ.out).old ⟨rfl, rfl, rfl, Nat.le_refl _, fun _ _ => rfl⟩), Lib.hid ((HU.out.of_block fun q e => HBQ.out.block q (HU.out.lt q e)).of_block fun _ _ => rfl)⟩
          have z1 : (W == 1) = false := by simp [w1']
          by_cases w2' : W = 2
          · subst w2'
            go_wp2_with (first
              | (go_at_call 16; refine (cut_any g lab cap cs wA HB1.out.d N M).mono ?_; rintro e wd ⟨rfl, hd, hkd⟩; have hg1 := kept_drive HB1.out.d hkd HGA.out (by decide); obtain ⟨b0, b1, b2, b3⟩ := cell4 hg1; have hbd := HB1.out.drive hkd; have HRd := Lib.hid hbd.1; have hsd := hbd.2.1; have HDd := Lib.hid hd; have HKd := Lib.hid hkd; have HGw := Lib.hid (newG HU.out HB1.out.le hga hkd.size); clear hbd hg1 hd hkd)
              | (go_at_call 17; refine (refCut_any B gr _ lab cap cs wd HRd.out N M hc64 HOK.out HGw.out hsd).mono ?_; rintro e we ⟨rfl, hr2, hf2⟩; have HR2 := Lib.hid hr2; have HF2 := Lib.hid hf2; clear hr2 hf2))
            go_meet
            exact ⟨Tp.cut cs N M, Lib.hid (HB1.out.step HDd.out HKd.out HR2.out HF2.out), Lib.hid ((HU.out.drive HB1.out.d HKd.out).refT HF2.out (fun q e h => h.2.1 e))⟩
          have z2 : (W == 2) = false := by simp [w2']
          by_cases w3' : W = 3
          · subst w3'
            have S0 : wA.drew.cell? ⟨wr.heap.size, 3, none⟩ = some (.slice A' S C') ∧ wA.drew.cell? ⟨wr.heap.size, 1, none⟩ = some (.int .i64 N) := ⟨a3, a1⟩
            go_wp2_with fail
            go_region_held3 (fun w' => w'.cell? ⟨wr.heap.size, 3, none⟩ = some (.slice A' S C') ∧ w'.cell? ⟨wr.heap.size, 1, none⟩ = some (.int .i64 N))
              (first | exact S0 | exact S1 | exact S2)
              (first
                | (go_at_call 18; refine (rot_any g lab cap cs _ HBd.out.d N Au s S Cu _ HS.out.symm (by omega) HUr.out).mono ?_; rintro e wd ⟨rfl, hd, hkd⟩; have hg1 := kept_drive HBd.out.d hkd HGd.out (by decide); have S1 : wd.cell? ⟨wr.heap.size, 3, none⟩ = some (.slice A' S C') ∧ wd.cell? ⟨wr.heap.size, 1, none⟩ = some (.int .i64 N) := ⟨heap_cell hg1, heap_cell hg1⟩; have hbd := HBd.out.drive hkd; have HRd := Lib.hid hbd.1; have hsd := hbd.2.1; have HDd := Lib.hid hd; have HKd := Lib.hid hkd; have HG1 := Lib.hid hg1; have hgw : ∀ k, wd.heap.size ≤ k → B ≤ k ∧ (Value.slice Au S Cu).ownBlock ≠ some k ∧ k ≠ wr.heap.size := newG HUd.out HBd.out.le hgad hkd.size; have HGw := Lib.hid hgw; have HAd := Lib.hid (HAe.out.below (hkd.below (B := w.heap.size) HBd.out.bel.size (fun q hq => by rw [hq]; exact HBd.out.lo))); clear hbd hg1 hd hkd hgw)
                | (go_at_call 12; refine (num_any _ _).mono ?_; rintro e w' ⟨rfl, rfl⟩)
                | (go_at_call 19; refine (refRot_any B gr _ lab cap cs wd HRd.out N A' s S C' HS.out.symm (by omega) hc64 (HAd.out.mono (fun q (hq : q < w.heap.size) => Nat.lt_of_lt_of_le hq hwB)) hsd HOK.out).mono ?_; rintro e we ⟨rfl, hr2, hf2⟩; have hg2 := hf2.kept HG1.out (by decide) (by decide) (fun h => h.2.2 rfl); have S2 : we.cell? ⟨wr.heap.size, 3, none⟩ = some (.slice A' S C') ∧ we.cell? ⟨wr.heap.size, 1, none⟩ = some (.int .i64 N) := ⟨heap_cell hg2, heap_cell hg2⟩; have HR2 := Lib.hid hr2; have HF2 := Lib.hid hf2; clear hg2 hr2 hf2))
            go_wp2
            go_meet
            exact ⟨Tp.roL cs N s, Lib.hid (HBd.out.step HDd.out HKd.out HR2.out HF2.out), Lib.hid ((HUd.out.drive HBd.out.d HKd.out).refT HF2.out (fun q e h => h.2.1 e))⟩
          have z3 : (W == 3) = false := by simp [w3']
          by_cases w4' : W = 4
          · subst w4'
            go_wp2_with (first
              | (go_at_call 20; refine (erase_any g lab cap cs wA HB1.out.d).mono ?_; rintro e wd ⟨rfl, hd, hkd⟩; have hbd := HB1.out.drive hkd; have HRd := Lib.hid hbd.1; obtain ⟨Av, Cv, hgr, _, _⟩ := hbd.1.rd; obtain ⟨b0, b1, b2, b3⟩ := cell4 hgr; have f2 : wd.frozen? ⟨gr, 2, none⟩ = false := heap_frozen hgr; have HDd := Lib.hid hd; have HKd := Lib.hid hkd; clear hbd hgr hd hkd)
              | (go_at_call 12; refine (num_any _ _).mono ?_; rintro e w' ⟨rfl, rfl⟩))
            go_meet
            exact ⟨[], Lib.hid (HB1.out.step HDd.out HKd.out HRd.out.erased.1 HRd.out.erased.2), Lib.hid ((HU.out.drive HB1.out.d HKd.out).refT HRd.out.erased.2 (fun q e h => h.2.1 e))⟩
          have z4 : (W == 4) = false := by simp [w4']
          go_wp2
          go_meet
          exact ⟨cs, HB1, HU⟩
        case rest =>
          have hwga : w.heap.size ≤ wr.heap.size := HBO.out.bel.size
          clear HBO HBR HU HBA HGA HB1 HAr a0 a1 a2 a3 e1 e2 e3 e4
          obtain ⟨ds, HB2, HU2⟩ := hcut
          generalize wr.heap.size = ga at hwga hga HB2 HU2 ⊢
          go_wp2
          go_loopw [16] (fun vi wx => ∃ (j : Nat) (s' : Tx), j ≤ S ∧ vi = .int .i64 (j : Int) ∧ Hid (s'.length = S) ∧ Hid (Both w wx g B gr (fun q => B ≤ q ∧ (Value.slice Au S Cu).ownBlock ≠ some q ∧ q ≠ ga) lab cap ds) ∧ Hid (OwnL wx (ga + 1) (.slice Au S Cu) s')) (fun vi _ => S - (intOf vi).toNat)
          case atStart => exact ⟨0, s, by omega, rfl, Lib.hid HS.out.symm, HB2, HU2⟩
          case round =>
            clear HB2 HU2
            obtain ⟨j, s', hj, rfl, HSS, HB2, HU2⟩ := hrel
            by_cases hjS : j < S
            · have hjs : j < s'.length := by rw [HSS.out]; exact hjS
              obtain ⟨gu, rfl, hgu⟩ := own_some HU2.out (by omega)
              obtain ⟨Ax, Cx, hx, _, _, _, hrd⟩ := HU2.out.rd
              injection hx with hx1
              subst hx1
              obtain ⟨b', o', ee, _, hcj⟩ := hrd.at_ hjs
              injection ee with ee
              injection ee with ee1 ee2
              subst ee1
              subst ee2
              rw [Nat.zero_add] at hcj
              obtain ⟨cg, hcg⟩ := HU2.out.block gu rfl
              have fj : wr.frozen? ⟨gu, j, none⟩ = false := heap_frozen hcg
              clear hrd hcg
              go_wp2
              go_roundw
              case rel => exact ⟨j + 1, s'.set j 99, by omega, by go_num, Lib.hid (by rw [List.length_set]; exact HSS.out), Lib.hid (HB2.out.row HU2.out (fun h => h.2.1 rfl) (by omega) _), Lib.hid (HU2.out.set hjs 99)⟩
              case measure => simp [intOf]; omega
            · obtain ⟨Av, Cv, hgr, hCv, hrd⟩ := HB2.out.r.rd
              obtain ⟨k0, k1, k2, k3⟩ := cell4 hgr
              have hgl : gr < wr.heap.size := heap_lt hgr
              have hd64 := HB2.out.d.len64
              have hdl := HB2.out.d.lo
              have hdf := HB2.out.d.fit
              obtain ⟨D, hD⟩ : ∃ D, D = ds.length := ⟨_, rfl⟩
              have HDD := Lib.hid hD
              rw [← hD] at k2 hd64 hdf
              have hwr : IntKind.i64.wrap (cap - (D : Int)) = cap - (D : Int) := IntWalk.i64_in _ (by omega)
              have HRD := Lib.hid hrd
              have HDr : Hid (Dr wr.drew g lab cap ds) := Lib.hid (HB2.out.d.of_block rfl)
              have S0 : wr.drew.cell? ⟨gr, 0, none⟩ = some (.int .i64 lab) ∧ wr.drew.cell? ⟨gr, 1, none⟩ = some (.int .i64 cap) ∧ wr.drew.cell? ⟨gr, 2, none⟩ = some (.slice Av D Cv) ∧ wr.drew.cell? ⟨gr, 3, none⟩ = some (.bool false) := ⟨k0, k1, k2, k3⟩
              clear hgr hrd hD hCv
              go_wp2_with fail
              go_region_held3 (fun w' => w'.cell? ⟨gr, 0, none⟩ = some (.int .i64 lab) ∧ w'.cell? ⟨gr, 1, none⟩ = some (.int .i64 cap) ∧ w'.cell? ⟨gr, 2, none⟩ = some (.slice Av D Cv) ∧ w'.cell? ⟨gr, 3, none⟩ = some (.bool false))
                (first | exact S0 | exact S1 | exact S2 | exact S3)
                (first
                  | (go_at_call 21; refine (dlen_as g lab cap ds wr.drew HDr.out D HDD.out.symm).mono ?_; rintro e wl ⟨rfl, rfl⟩)
                  | (go_at_call 22; refine (room_as g lab cap ds wr.drew HDr.out D HDD.out.symm).mono ?_; rintro e wo ⟨rfl, hbo⟩; have hbr : Below wr.heap.size wr wo := (Below.refl _ wr).drew.trans hbo; have S1 : wo.cell? ⟨gr, 0, none⟩ = some (.int .i64 lab) ∧ wo.cell? ⟨gr, 1, none⟩ = some (.int .i64 cap) ∧ wo.cell? ⟨gr, 2, none⟩ = some (.slice Av D Cv) ∧ wo.cell? ⟨gr, 3, none⟩ = some (.bool false) := ⟨(hbr.cell (p := ⟨gr, 0, none⟩) hgl).trans k0, (hbr.cell (p := ⟨gr, 1, none⟩) hgl).trans k1, (hbr.cell (p := ⟨gr, 2, none⟩) hgl).trans k2, (hbr.cell (p := ⟨gr, 3, none⟩) hgl).trans k3⟩; clear hbo)
                  | (go_at_call 24; refine (tape_any g lab cap ds wo (HB2.out.d.old hbr)).mono ?_; rintro e wt ⟨A6, C6, rfl, hC6, hR6, hb6⟩; have hbt : Below wr.heap.size wr wt := hbr.trans (hb6.mono hbr.size); have S2 : wt.cell? ⟨gr, 0, none⟩ = some (.int .i64 lab) ∧ wt.cell? ⟨gr, 1, none⟩ = some (.int .i64 cap) ∧ wt.cell? ⟨gr, 2, none⟩ = some (.slice Av D Cv) ∧ wt.cell? ⟨gr, 3, none⟩ = some (.bool false) := ⟨(hbt.cell (p := ⟨gr, 0, none⟩) hgl).trans k0, (hbt.cell (p := ⟨gr, 1, none⟩) hgl).trans k1, (hbt.cell (p := ⟨gr, 2, none⟩) hgl).trans k2, (hbt.cell (p := ⟨gr, 3, none⟩) hgl).trans k3⟩; clear hb6)
                  | (go_at_call 23; refine (sameTape_yes lab cap A6 C6 ds _ Av Cv _ _ D _ rfl HDD.out.symm (by rw [← HDD.out]; omega) hR6 (HRD.out.old hbt)).mono ?_; rintro e ws ⟨rfl, hb7⟩; have hbs : Below wr.heap.size wr ws := hbt.trans (hb7.mono hbt.size); have S3 : ws.cell? ⟨gr, 0, none⟩ = some (.int .i64 lab) ∧ ws.cell? ⟨gr, 1, none⟩ = some (.int .i64 cap) ∧ ws.cell? ⟨gr, 2, none⟩ = some (.slice Av D Cv) ∧ ws.cell? ⟨gr, 3, none⟩ = some (.bool false) := ⟨(hbs.cell (p := ⟨gr, 0, none⟩) hgl).trans k0, (hbs.cell (p := ⟨gr, 1, none⟩) hgl).trans k1, (hbs.cell (p := ⟨gr, 2, none⟩) hgl).trans k2, (hbs.cell (p := ⟨gr, 3, none⟩) hgl).trans k3⟩; clear hb7))
              have HEND : Hid (Both w ws g B gr (fun q => B ≤ q) lab cap ds) := Lib.hid ((HB2.out.old hbs).mono fun q h => h.1)
              clear S0 S1 S2 S3 hwr k0 k1 k2 k3
              go_wp2
              go_roundw
              case rel => exact ⟨k + 1, ds, by omega, by go_num, HEND⟩
              case measure => simp [intOf]; omega
    · go_wp2
      go_ret
      exact ⟨rfl, HBO.out.bel⟩
end Go.Proofs.Ytflcnghjhgfkfaa
