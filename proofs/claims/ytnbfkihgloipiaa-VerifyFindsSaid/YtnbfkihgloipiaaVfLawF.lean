/- VerifyFinds: of good blocks just those are told of which one bit was turned. -/
import Derived.Test.YtnbfkihgloipiaaMs
import Derived.Test.YtnbfkihgloipiaaMp
import Derived.Test.YtnbfkihgloipiaaRefFmP
import Derived.Test.YtnbfkihgloipiaaMt
import Derived.Test.YtnbfkihgloipiaaMk
import Derived.BigQuiet
import Derived.StillTailTactics
import Derived.Deep.QuietTactic
namespace Go.Proofs.Ytnbfkihgloipiaa
open Go.RowKit Vf
open Pt (Tx)

theorem infoBoolV : (Try.prog.info? 4).map (fun i => (i.zero, i.size, i.bytes)) = some (some (.bool false), 1, 1) := by kernel_rfl
theorem setB {w : World} {g n k : Nat} {f : Nat → Bool} (h : RowV w 4 g n (fun j => .bool (f j))) : RowV (w.setCell ⟨g, k, none⟩ (.bool true)) 4 g n (fun j => .bool (if j = k then true else f j)) := by
  refine (h.set k (.bool true)).congr fun j hj => ?_
  by_cases e : j = k
  · rw [if_pos e, if_pos e]
  · rw [if_neg e, if_neg e]
set_option maxRecDepth 100000 in
set_option maxHeartbeats 2000000 in
theorem verifyFinds_no (n : Int) (A : Option Addr) (m C : Nat) (w : World) (h : n < 1 ∨ 30 < n ∨ 30 < m) :
    Calls Try.prog 4 #[.int .i64 n, .slice A m C] w fun e w' => e = .returned (.bool true) ∧ Below w.heap.size w w' := by
  have hq : decide (n < 1) = true ∨ (decide (n < 1) = false ∧ decide (30 < n) = true) ∨ (decide (n < 1) = false ∧ decide (30 < n) = false ∧ decide ((30 : Int) < (m : Int)) = true ∧ decide (30 < m) = true) := by
    by_cases h1 : n < 1
    · exact .inl (decide_eq_true h1)
    · by_cases h2 : 30 < n
      · exact .inr (.inl ⟨decide_eq_false h1, decide_eq_true h2⟩)
      · have h3 : 30 < m := by omega
        exact .inr (.inr ⟨decide_eq_false h1, decide_eq_false h2, decide_eq_true (by omega), decide_eq_true h3⟩)
  clear h
  rcases hq with q1 | ⟨q1, q2⟩ | ⟨q1, q2, q3, q4⟩
  all_goals
    go_enter Try.func4, Try.ntmps4
    go_wp2_with fail
    refine (alive16_true w).mono ?_
    rintro e w1 ⟨rfl, hb1⟩
    go_wp2
    go_ret
    exact ⟨rfl, hb1⟩
set_option maxRecDepth 100000 in
set_option maxHeartbeats 8000000 in
theorem verifyFinds_main (n : Nat) (A : Option Addr) (m C : Nat) (z : Nat → Int) (w : World) (hn1 : 1 ≤ n) (hn : n ≤ 30) (hm : m ≤ 30) (hr : RdI w A m z) :
    Calls Try.prog 4 #[.int .i64 (n : Int), .slice A m C] w fun e w' => e = .returned (.bool true) ∧ Below w.heap.size w w' := by
  have HR := Lib.hid hr
  have q1 : decide ((n : Int) < 1) = false := decide_eq_false (by omega)
  have q2 : decide ((30 : Int) < (n : Int)) = false := decide_eq_false (by omega)
  have q2' : decide (30 < n) = false := decide_eq_false (by omega)
  have q3 : decide ((30 : Int) < (m : Int)) = false := decide_eq_false (by omega)
  have q3' : decide (30 < m) = false := decide_eq_false (by omega)
  have hmk := run_make_row' (P := Try.prog) 41 4 (.bool false) 1 Try.underlying41 infoBoolV rfl .i64 .i64 n (by omega) (by omega)
  clear hr
  go_enter Try.func4, Try.ntmps4
  go_wp2_with fail
  refine (alive16_true w).mono ?_
  rintro e w1 ⟨rfl, hb1⟩
  obtain ⟨w2, hw2⟩ : ∃ x, x = w1.alloc (tapeObj 9 64 none 0 0 false) := ⟨_, rfl⟩
  have hb2 : Below w1.heap.size w1 w2 := by rw [hw2]; exact (Below.refl _ _).alloc (Nat.le_refl _) _
  have hT2 : w2.heap[w1.heap.size]? = some (tapeObj 9 64 none 0 0 false) := by rw [hw2]; exact Go.Deep.blk_alloc_new _ _
  have HB2 := Lib.hid (hb1.trans (hb2.mono hb1.size))
  have HRT2 : Hid (Rt w2 w1.heap.size w1.heap.size (fun _ => True) 9 64 ((List.range 0).map Vf.b)) := Lib.hid ⟨⟨_, [], hT2, TopB.nil _ _ _⟩, Nat.le_refl _⟩
  have HS1 : Hid (w.heap.size ≤ w1.heap.size) := Lib.hid hb1.size
  have HW2 := Lib.hid hw2
  unfold tapeObj at HW2
  clear hw2 hb1 hb2 hT2
  go_wp2
  rw [← HW2.out]
  go_loopw [7] (fun vi wr => ∃ i : Nat, i ≤ n ∧ vi = .int .i64 (i : Int) ∧ Hid (Rt wr w1.heap.size w1.heap.size (fun _ => True) 9 64 ((List.range i).map Vf.b)) ∧ Hid (Below w.heap.size w wr) ∧ Hid (w1.heap.size ≤ wr.heap.size)) (fun vi _ => n - (intOf vi).toNat)
  case atStart => exact ⟨0, Nat.zero_le _, rfl, HRT2, HB2, Lib.hid (by rw [HW2.out]; simp)⟩
  case round =>
    obtain ⟨k, hk, rfl, HRT, HB, HSW⟩ := hrel
    by_cases hlk : k < n
    · have e1 : decide ((k : Int) < (n : Int)) = true := decide_eq_true (by omega)
      have e1' : decide (k < n) = true := decide_eq_true hlk
      obtain ⟨wp, hwp⟩ : ∃ wp, wp = wr.alloc (.cells #[.int .u8 (k : Int)] 5) := ⟨_, rfl⟩
      have hbp : Below wr.heap.size wr wp := by rw [hwp]; exact (Below.refl _ _).alloc (Nat.le_refl _) _
      have hD1 : wp.heap[wr.heap.size]? = some (.cells #[.int .u8 (k : Int)] 5 (0, 0)) := by rw [hwp]; exact Go.Deep.blk_alloc_new _ _
      have hrd : RdL wp (some ⟨wr.heap.size, 0, none⟩) [UInt8.ofNat k] (fun _ => True) := fun _ => ⟨_, _, rfl, trivial, fun j hj => by
        have hk' : (UInt8.ofNat k).toNat = k := by rw [UInt8.toNat_ofNat']; omega
        rw [heap_cell hD1]
        have : j = 0 := by simp at hj; omega
        subst this
        simp [hk']⟩
      have hput := refPut_own 3 9 (k : Int) (some ⟨wr.heap.size, 0, none⟩) [UInt8.ofNat k] 1 1 _ wp rfl (fun h => by cases h) hrd
      unfold PutO at hput
      rw [show Fm.err ⟨3, 9, (k : Int), [UInt8.ofNat k]⟩ = 0 from Fm.err_ok (Vf.b_ok (by omega)), show Fm.put ⟨3, 9, (k : Int), [UInt8.ofNat k]⟩ = Vf.b k from Fm.put_ok (Vf.b_ok (by omega))] at hput
      have HP := Lib.hid hput
      obtain ⟨v3, us3, hM3', hT3⟩ := HRT.out.ex
      have hsz3 : us3.length = k := by rw [hT3.len]; simp
      have HST := Lib.hid (fun (x2 : World) (B2 : Nat) (A2 : Option Addr) (n2' C2 : Nat) (h : Below wr.heap.size wr x2) (hB2 : wr.heap.size ≤ B2) (ho : OwnL x2 B2 (.slice A2 n2' C2) (Vf.b k)) => Rt.stepV (G := fun _ => True) (lab := 9) (cap := 64) hM3' hT3 (Nat.le_refl _) HSW.out h ho hB2 (fun _ _ => trivial) (by rw [hsz3]; omega) (k + 1) (by rw [hsz3]))
      have HBP := Lib.hid hbp
      have HM3 := Lib.hid hM3'
      have HWP := Lib.hid hwp
      have HTK : Hid ((List.range (k + 1)).map Vf.b = (List.range k).map Vf.b ++ [Vf.b k]) := Lib.hid (by rw [List.range_succ, List.map_append]; rfl)
      have k0 : (0 : Int) ≤ (k : Int) := by omega
      clear hput hwp hbp hD1 hrd hM3' hT3 hsz3
      go_wp2_with fail
      rw [← HWP.out]
      refine HP.out.mono ?_
      rintro e w3 ⟨A3, n3, C3, rfl, hO3, hb3⟩
      have hb03 : Below wr.heap.size wr w3 := HBP.out.trans (hb3.mono HBP.out.size)
      obtain ⟨g4, c4, w4, hr4, hM4, hrt4, hb4, hb4'⟩ := HST.out w3 wp.heap.size A3 n3 C3 hb03 HBP.out.size hO3
      have y3 : w3.cell? ⟨w1.heap.size, 2, none⟩ = some v3 := heap_cell ((hb03.block _ (heap_lt HM3.out)).trans HM3.out)
      have y4 : w4.cell? ⟨w1.heap.size, 2, none⟩ = some v3 := heap_cell hM4
      have f4 : w4.frozen? ⟨w1.heap.size, 2, none⟩ = false := heap_frozen hM4
      rw [← HTK.out] at hrt4
      have HRT4 := Lib.hid hrt4
      have HB4 := Lib.hid (HB.out.trans (hb4'.mono HS1.out))
      have HSW4 := Lib.hid (Nat.le_trans HSW.out hb4'.size)
      clear hrt4 hb4 hb4' hO3 hb3 hb03 hM4
      go_wp2_with (at_builtin; refine Lib.wpList_append_run _ rfl _ _ _ _ rfl _ _ rfl rfl _ _ (hr4 _) ?_)
      go_roundw
      case rel => exact ⟨k + 1, by omega, by go_num, HRT4, HB4, HSW4⟩
      case measure => simp [intOf]; omega
    · have e1 : decide ((k : Int) < (n : Int)) = false := decide_eq_false (by omega)
      have e1' : decide (k < n) = false := decide_eq_false hlk
      have hkn : k = n := by omega
      rw [hkn] at HRT
      obtain ⟨wo, rfl⟩ : ∃ x, x = wr := ⟨wr, rfl⟩
      obtain ⟨wb, hwb⟩ : ∃ x, x = wo.alloc (.cells (madeCells #[.bool false] n) 4) := ⟨_, rfl⟩
      have hbb : Below wo.heap.size wo wb := by rw [hwb]; exact (Below.refl _ _).alloc (Nat.le_refl _) _
      have HRV : Hid (RowV wb 4 wo.heap.size n (fun j => .bool ((fun _ => false) j))) := Lib.hid (by rw [hwb]; exact RowV.made wo (.bool false) 4 n)
      have HRTB := Lib.hid (HRT.out.old hbb)
      have HBB := Lib.hid (HB.out.trans (hbb.mono HB.out.size))
      have HTR : Hid (Vf.Trn n (fun _ => false) ((List.range n).map Vf.b)) := Lib.hid (Vf.Trn.start n)
      have HSB : Hid (w1.heap.size ≤ wo.heap.size) := HSW
      have HWB := Lib.hid hwb
      clear hkn hwb hbb hlk
      go_wp2
      rw [← HWB.out]
      go_loopw [11] (fun vi wr => ∃ (i : Nat) (f : Nat → Bool) (bs : List Tx), i ≤ m ∧ vi = .int .i64 (i : Int) ∧ Hid (RowV wr 4 wo.heap.size n (fun j => .bool (f j))) ∧ Hid (Rt wr w1.heap.size w1.heap.size (fun _ => True) 9 64 bs) ∧ Hid (Vf.Trn n f bs) ∧ Hid (Below w.heap.size w wr)) (fun vi _ => m - (intOf vi).toNat)
      case atStart => exact ⟨0, _, _, Nat.zero_le _, rfl, HRV, HRTB, HTR, HBB⟩
      case round =>
        obtain ⟨i, f, bs, hi, rfl, HRV, HRT, HTR, HB⟩ := hrel
        by_cases hli : i < m
        · have e2 : decide ((i : Int) < (m : Int)) = true := decide_eq_true (by omega)
          have e2' : decide (i < m) = true := decide_eq_true hli
          obtain ⟨b, off, rfl, cz⟩ := (HR.out.old HB.out).at hli
          obtain ⟨hlow, -⟩ := low_eq z i
          obtain ⟨k, hk, hmod⟩ := modV (N := n) (by omega) (low z i)
          obtain ⟨p, hp63, hp⟩ := and_63V (z i)
          obtain ⟨kb, hkb, hkb7⟩ := bit7 (i : Int)
          have hnz : ((n : Int) == 0) = false := by simp; omega
          have i0 : (0 : Int) ≤ (i : Int) := by omega
          have i1 : (i : Int) < (m : Int) := by omega
          have j0 : (0 : Int) ≤ (k : Int) := by omega
          have j1 : (k : Int) < (n : Int) := by omega
          have cb := HRV.out.cell hk
          have hwk : IntKind.i64.wrap (k : Int) = (k : Int) := IntWalk.i64_in _ (by omega)
          cases hf : f k with
          | true =>
            rw [hf] at cb
            clear hf
            go_wp2
            go_roundw
            case rel => exact ⟨i + 1, f, bs, by omega, by go_num, HRV, HRT, HTR, HB⟩
            case measure => simp [intOf]; omega
          | false =>
            obtain ⟨ws, hws⟩ : ∃ x, x = wr.setCell ⟨wo.heap.size, k, none⟩ (.bool true) := ⟨_, rfl⟩
            have fb := HRV.out.frozen k
            have hkS : Kp (· = wo.heap.size) wr ws := by rw [hws]; exact Kp.store _ _ _ _
            have hRVS : RowV ws 4 wo.heap.size n (fun j => .bool (if j = k then true else f j)) := by rw [hws]; exact setB HRV.out
            have hRTS : Rt ws w1.heap.size w1.heap.size (fun _ => True) 9 64 bs := HRT.out.kpT hkS (fun q hq c t hc => by
              rw [hq] at hc
              obtain ⟨c', hc', -, -⟩ := HRV.out
              rw [hc'] at hc
              injection hc with hc
              injection hc with _ e2
              rw [← e2]
              exact ⟨by decide, by decide, by decide⟩)
            have hBS : Below w.heap.size w ws := HB.out.trans (hkS.below HB.out.size fun q hq => by have := HSB.out; have := HS1.out; omega)
            have hs := HTR.out.no k hk hf
            have hbl : (Vf.b k).length = 79 := Vf.b_len (by omega)
            obtain ⟨g', C', g, Cg, c, hTB, hgk, hg, hcp, hBg, hset⟩ := hRTS.turned hs (p := p) (by rw [hbl]; omega)
            have hne : g ≠ wo.heap.size := fun e => by
              obtain ⟨c', hc', -, -⟩ := hRVS
              rw [e, hc'] at hg
              injection hg with hg
              injection hg with _ e2
              exact absurd e2 (by decide)
            have htn := HTR.out.set hk (p := p) (x := byV (feB ((Vf.b k)[p]'(by rw [hbl]; omega)) + bitK kb)) (by rw [hbl]; omega) (byV_turns _ hkb)
            have hset' := hset (byV (feB ((Vf.b k)[p]'(by rw [hbl]; omega)) + bitK kb))
            rw [byV_nat] at hset'
            obtain ⟨fe, hfe⟩ : ∃ fe, fe = feB ((Vf.b k)[p]'(by rw [hbl]; omega)) := ⟨_, rfl⟩
            rw [← hfe] at hcp hset' htn
            have hbn : bs.length = n := HTR.out.len
            rw [hbn] at hTB
            rw [hbl] at hgk
            obtain ⟨y0, y1, y2, y3⟩ := tape4 (show ws.heap[w1.heap.size]? = some (tapeObj 9 64 (some ⟨g', 0, none⟩) n C' false) from hTB)
            have hfr : ws.frozen? ⟨g, p, none⟩ = false := heap_frozen hg
            have czs : ws.cell? ⟨b, off + i, none⟩ = some (.int .i64 (z i)) := by
              obtain ⟨b', o', e', hc'⟩ := (HR.out.old hBS).at hli
              injection e' with e'
              injection e' with q1 q2
              rw [q1, q2]; exact hc'
            have ew : IntKind.u64.wrap (kb : Int) = (kb : Int) := by simp [IntKind.wrap, IntKind.bits, IntKind.signed]; omega
            have p0 : (0 : Int) ≤ (p : Int) := by omega
            have p1 : (p : Int) < 79 := by omega
            have p1' : p < 79 := by omega
            obtain ⟨wt, hwt⟩ : ∃ x, x = (ws.setCell ⟨g, p, none⟩ (.int .u8 (fi (fe + bitK kb)))).drew := ⟨_, rfl⟩
            have HRVT : Hid (RowV wt 4 wo.heap.size n (fun j => .bool ((fun j => if j = k then true else f j) j))) := Lib.hid (by rw [hwt]; exact (hRVS.kp (Kp.store ws g p _) (fun e => hne e.symm)).of_block rfl)
            have HRTT : Hid (Rt wt w1.heap.size w1.heap.size (fun _ => True) 9 64 (bs.set k ((Vf.b k).set p (byV (fe + bitK kb))))) := Lib.hid (by rw [hwt]; exact hset'.old (Below.refl _ _).drew)
            have HBT : Hid (Below w.heap.size w wt) := Lib.hid (by rw [hwt]; exact (hBS.setCell (p := ⟨g, p, none⟩) (by have := HS1.out; show w.heap.size ≤ g; omega) _).drew)
            have HTN := Lib.hid htn
            have HWS := Lib.hid hws
            have HWT := Lib.hid hwt
            clear hws hkS hRVS hRTS hBS hs hbl hTB hg hset hset' htn hfe hbn hwt hne hBg
            rw [hf] at cb
            clear hf
            go_wp2
            rw [← HWS.out]
            refine wp_region_still_tail 28 (by kernel_rfl) (by kernel_rfl) ?_
            simp only [List.take_succ_cons, List.take_zero, List.drop_succ_cons, List.drop_zero]
            repeat still_step
            refine wpStill_nil ?_
            change wpList _ _ _ _ _ ws.drew
            go_wp2_with fail
            rw [turn_bit, ← HWT.out]
            go_roundw
            case rel => exact ⟨i + 1, _, _, by omega, by go_num, HRVT, HRTT, HTN, HBT⟩
            case measure => simp [intOf]; omega
        · have e2 : decide ((i : Int) < (m : Int)) = false := decide_eq_false (by omega)
          have e2' : decide (i < m) = false := decide_eq_false hli
          obtain ⟨wx, rfl⟩ : ∃ x, x = wr := ⟨wr, rfl⟩
          clear hli hi
          go_wp2
          go_loopw [14, 13] (fun vi vl wr => ∃ i : Nat, i ≤ n ∧ vi = .int .i64 (i : Int) ∧ Hid (encS.Own wr wx.heap.size 44 vl (sp 9 ((List.range i).filter f))) ∧ Hid (Below wx.heap.size wx wr)) (fun vi _ _ => n - (intOf vi).toNat)
          case atStart => exact ⟨0, Nat.zero_le _, rfl, Lib.hid (Enc.Own.nil _ _ _), Lib.hid (Below.refl _ _)⟩
          case round =>
            obtain ⟨j, hj, rfl, HO, HBX⟩ := hrel
            have hsl : (sp 9 ((List.range j).filter f)).length ≤ j := by
              rw [sp_len]
              have := List.length_filter_le f (List.range j)
              rw [List.length_range] at this
              exact this
            have HSL := Lib.hid hsl
            clear hsl
            by_cases hlj : j < n
            · have e3 : decide ((j : Int) < (n : Int)) = true := decide_eq_true (by omega)
              have e3' : decide (j < n) = true := decide_eq_true hlj
              have j0 : (0 : Int) ≤ (j : Int) := by omega
              have j1 : (j : Int) < (n : Int) := by omega
              have cb := (HRV.out.old HBX.out).cell hlj
              cases hf : f j with
              | false =>
                rw [hf] at cb
                have HO2 : Hid (encS.Own wr wx.heap.size 44 u13 (sp 9 ((List.range (j + 1)).filter f))) := Lib.hid (by rw [Vf.filter_succ, hf]; exact HO.out)
                clear hf
                go_wp2
                go_roundw
                case rel => exact ⟨j + 1, by omega, by go_num, HO2, HBX⟩
                case measure => simp [intOf]; omega
              | true =>
                rw [hf] at cb
                have HSN : Hid (sp 9 ((List.range j).filter f) ++ [((9 : Int), (j : Int))] = sp 9 ((List.range (j + 1)).filter f)) := Lib.hid (by rw [Vf.filter_succ, hf, ← sp_snoc]; rfl)
                obtain ⟨wq, hwq⟩ : ∃ x, x = wr.alloc (.cells #[.int .i64 9, .int .i64 (j : Int)] 44) := ⟨_, rfl⟩
                have hbq : Below wr.heap.size wr wq := by rw [hwq]; exact (Below.refl _ _).alloc (Nat.le_refl _) _
                have HOQ := Lib.hid (HO.out.old hbq)
                have HBQ := Lib.hid (HBX.out.trans (hbq.mono HBX.out.size))
                have HNEW : Hid (∀ q u, (encS.cells [((9 : Int), (j : Int))])[q]? = some u → wq.cell? ((⟨wr.heap.size, 0, none⟩ : Addr).add q) = some u) := Lib.hid (by rw [hwq]; exact newCells wr [.int .i64 9, .int .i64 (j : Int)] _)
                have HWQ := Lib.hid hwq
                clear hwq hbq hf
                go_wp2_with (at_builtin; rw [← HWQ.out]; refine wpList_append_st' encS _ rfl _ _ _ rfl wx.heap.size 44 _ 16 Try.underlying29 infoSpot rfl _ _ rfl HOQ.out ⟨wr.heap.size, 0, none⟩ 1 1 [((9 : Int), (j : Int))] rfl rfl HNEW.out (by have := HSL.out; unfold maxLen; omega) (by have := HSL.out; omega) HBQ.out.size ?_; intro v' w4 ho4 hg4; rw [HSN.out] at ho4; have HO4 := Lib.hid ho4; have HB4 := Lib.hid (HBQ.out.grown hg4 HBQ.out.size (fun q hq => (HOQ.out.lt q hq).1)); clear ho4 hg4)
                go_roundw
                case rel => exact ⟨j + 1, by omega, by go_num, HO4, HB4⟩
                case measure => simp [intOf]; omega
            · have e3 : decide ((j : Int) < (n : Int)) = false := decide_eq_false (by omega)
              have e3' : decide (j < n) = false := decide_eq_false hlj
              have hjn : j = n := by omega
              rw [hjn] at HO HSL
              have HTL := Lib.hid (HTR.out.told hn)
              obtain ⟨v9, us9, hM9, hT9⟩ := (HRT.out.old HBX.out).ex
              obtain ⟨A9, C9, rfl, hC9, -, -⟩ := hT9.val
              rw [HTR.out.len] at hM9 hT9 hC9
              obtain ⟨y0, y1, y2, y3⟩ := tape4 (show wr.heap[w1.heap.size]? = some (tapeObj 9 64 A9 n C9 false) from hM9)
              obtain ⟨w6, hw6⟩ : ∃ x, x = wr.alloc (tapeObj 9 64 A9 n C9 false) := ⟨_, rfl⟩
              have hb6 : Below wr.heap.size wr w6 := by rw [hw6]; exact (Below.refl _ _).alloc (Nat.le_refl _) _
              have hk6 : w6.heap[wr.heap.size]? = some (tapeObj 9 64 A9 n C9 false) := by rw [hw6]; exact Go.Deep.blk_alloc_new _ _
              have hrt : RdT w6 (some ⟨wr.heap.size, 0, none⟩) [⟨9, 64, bs, false⟩] (fun _ => True) := fun _ => ⟨_, 0, rfl, trivial, fun q hq => by
                have : q = 0 := by simp at hq; omega
                subst this
                obtain ⟨y0, y1, y2, y3⟩ := tape4 hk6
                refine ⟨A9, C9, y0, y1, ?_, y3, ((hT9.rdB).old hb6).mono fun _ _ => trivial⟩
                show w6.cell? _ = some (.slice A9 bs.length C9)
                rw [HTR.out.len]; exact y2⟩
              have hsz := HTR.out.sizes hn
              have HC := Lib.hid (spots_any (some ⟨wr.heap.size, 0, none⟩) [⟨9, 64, bs, false⟩] 1 1 _ w6 rfl (by omega) hrt (fun t ht => by
                rw [List.mem_singleton.1 ht]
                exact ⟨by show bs.length ≤ 1000; rw [HTR.out.len]; omega, fun s hs => by rw [hsz s hs]; omega⟩))
              rw [HTL.out] at HC
              have HB6 := Lib.hid (HB.out.trans ((HBX.out.trans (hb6.mono HBX.out.size)).mono HB.out.size))
              have HO6 := Lib.hid (HO.out.old hb6)
              have HW6 := Lib.hid hw6
              unfold tapeObj at HW6
              clear hjn hM9 hT9 hC9 hw6 hb6 hk6 hrt hsz
              obtain ⟨A7, C7, hv7, -, -, -, hr7⟩ := HO6.out.rd
              have HR7 := Lib.hid hr7
              clear hr7
              obtain ⟨M, hM⟩ : ∃ M, M = (sp 9 ((List.range n).filter f)).length := ⟨_, rfl⟩
              rw [← hM] at hv7 HSL
              subst hv7
              have HMM := Lib.hid hM
              clear hM
              go_wp2_with fail
              rw [← HW6.out]
              refine HC.out.mono ?_
              rintro e w7 ⟨A8, C8, rfl, -, hr8, hb8⟩
              rw [← HMM.out]
              have HB7 := Lib.hid (HB6.out.trans (hb8.mono HB6.out.size))
              have HCS := Lib.hid (same16_any A8 A7 (sp 9 ((List.range n).filter f)) M C8 C7 _ _ w7 HMM.out (by have := HSL.out; omega) hr8 (HR7.out.old hb8))
              clear hr8 hb8 y0 y1 y2 y3
              go_wp2_with fail
              refine HCS.out.mono ?_
              rintro e w8 ⟨rfl, hb8⟩
              have HB8 := Lib.hid (HB7.out.trans (hb8.mono HB7.out.size))
              clear hb8
              go_wp2
              go_ret
              exact ⟨rfl, HB8.out⟩
theorem verifyFinds_walk (n : Int) (A : Option Addr) (m C : Nat) (z : Nat → Int) (w : World) (hr : RdI w A m z) :
    Calls Try.prog 4 #[.int .i64 n, .slice A m C] w fun e w' => e = .returned (.bool true) ∧ Below w.heap.size w w' := by
  by_cases h : n < 1 ∨ 30 < n ∨ 30 < m
  · exact verifyFinds_no n A m C w h
  · obtain ⟨k, rfl⟩ : ∃ k : Nat, n = (k : Int) := ⟨n.toNat, by omega⟩
    exact verifyFinds_main k A m C z w (by omega) (by omega) (by omega) hr
end Go.Proofs.Ytnbfkihgloipiaa
