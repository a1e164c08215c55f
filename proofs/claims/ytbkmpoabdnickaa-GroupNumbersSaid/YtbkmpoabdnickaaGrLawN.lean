/- The law GroupNumbers answers true: groups are told by number, each once, and each of their tapes is theirs. -/
import Derived.Test.YtbkmpoabdnickaaMy
import Derived.Deep.RegionHeld3
import Derived.Deep.RegionHeld
import Derived.Deep.DeepFit
import Derived.Deep.DeepCutAuto
import Derived.BigQuiet
import Derived.IntWalk
namespace Go.Proofs.Ytbkmpoabdnickaa
open Go.RowKit
open Pt (Tx)

set_option maxRecDepth 100000 in
set_option maxHeartbeats 8000000 in
theorem groupNumbers_few (A : Option Addr) (n : Nat) (C : Nat) (z : Nat → Int) (w : World) (hn : n ≤ 8) (hr : RdI w A n z) :
    Calls Try.prog 3 #[.slice A n C] w (AnsB true w) := by
  have HR := Lib.hid hr
  clear hr
  go_enter Try.func3, Try.ntmps3
  go_wp2_with fail
  refine (alive14_true _).mono ?_
  rintro e w1 ⟨rfl, hb1⟩
  have HB1 := Lib.hid hb1
  clear hb1
  have e8 : decide (8 < n) = false := decide_eq_false (by omega)
  have e8' : decide ((8 : Int) < (n : Int)) = false := decide_eq_false (by omega)
  go_wp2
  go_loopw [5, 4] (fun vi vl wr => ∃ i : Nat, i ≤ n ∧ vi = .int .i64 (i : Int) ∧ Hid (LayT w1 vl (Nm.T z i) wr)) (fun vi _ _ => n - (intOf vi).toNat)
  case atStart => exact ⟨0, Nat.zero_le _, rfl, Lib.hid (LayT.start w1)⟩
  case round =>
    obtain ⟨i, hi, rfl, HI⟩ := hrel
    by_cases hlt : i < n
    · have e0 : decide (i < n) = true := decide_eq_true hlt
      obtain ⟨wo, rfl⟩ : ∃ x, x = wr := ⟨wr, rfl⟩
      have s1 : IntKind.i64.wrap (2 * (i : Int)) = 2 * (i : Int) := IntWalk.i64_in _ (by omega)
      have s2 : IntKind.i64.wrap (2 * (i : Int) + 1) = 2 * (i : Int) + 1 := IntWalk.i64_in _ (by omega)
      have s3 : IntKind.i64.wrap (2 * (i : Int) + 2) = 2 * (i : Int) + 2 := IntWalk.i64_in _ (by omega)
      -- the label's frame
      obtain ⟨wp, hwp⟩ : ∃ wp, wp = wo.alloc (.cells #[.int .u8 68] 5 (1, 2)) := ⟨_, rfl⟩
      have kc := Go.Joins.run_convert_bytes_const_at (P := Try.prog) wo 25 5 #[.int .u8 68] 1 1 wo.heap.size rfl Try.underlying25 Try.underlying5
      simp only [List.size_toArray, List.length_cons, List.length_nil, Nat.zero_add, Nat.reduceAdd] at kc
      have hbp : Below wo.heap.size wo wp := by rw [hwp]; exact (Below.refl _ _).alloc (Nat.le_refl _) _
      have hD1 : wp.heap[wo.heap.size]? = some (.cells #[.int .u8 68] 5 (1, 2)) := by rw [hwp]; exact Go.Deep.blk_alloc_new _ _
      have hrd : RdL wp (some ⟨wo.heap.size, 0, none⟩) [68] (fun _ => True) := fun _ => ⟨_, _, rfl, trivial, fun j hj => by
        have : j = 0 := by simp at hj; omega
        subst this
        rw [heap_cell hD1]; rfl⟩
      have hlabok : 1 ≤ 2 * (i : Int) + 1 ∧ 2 * (i : Int) + 1 ≤ 2147483647 := ⟨by omega, by omega⟩
      have hput := refPut_own 1 (2 * (i : Int) + 1) 0 (some ⟨wo.heap.size, 0, none⟩) [68] 1 1 _ wp rfl (fun h => by cases h) hrd
      unfold PutO at hput
      rw [show Fm.err ⟨1, 2 * (i : Int) + 1, 0, [68]⟩ = 0 from Fm.err_ok (Ex.ok hlabok), show Fm.put ⟨1, 2 * (i : Int) + 1, 0, [68]⟩ = Ex.b (2 * (i : Int) + 1) from Fm.put_ok (Ex.ok hlabok)] at hput
      have HP := Lib.hid hput
      have HWP := Lib.hid hwp
      have HBP := Lib.hid hbp
      clear hput hwp hbp hD1 hrd hlabok
      go_wp2_with fail
      clear kc
      rw [← HWP.out]
      refine HP.out.mono ?_
      rintro e w3 ⟨A3, n3, C3, rfl, hO3, hb3⟩
      obtain ⟨A3', C3', e3, hc3, hcm3, hn3, hr3⟩ := hO3.rd
      injection e3 with x1 x2 x3
      subst x1 x3
      have hb03 : Below wo.heap.size wo w3 := HBP.out.trans (hb3.mono HBP.out.size)
      obtain ⟨w4, hw4⟩ : ∃ w4, w4 = w3.alloc (.cells #[.slice A3 n3 C3] 25) := ⟨_, rfl⟩
      obtain ⟨w5, hw5⟩ : ∃ w5, w5 = w4.alloc (tapeObj (2 * (i : Int) + 1) 5 (some ⟨w3.heap.size, 0, none⟩) 1 1 false) := ⟨_, rfl⟩
      have b34 : Below w3.heap.size w3 w4 := by rw [hw4]; exact (Below.refl _ _).alloc (Nat.le_refl _) _
      have b45 : Below w4.heap.size w4 w5 := by rw [hw5]; exact (Below.refl _ _).alloc (Nat.le_refl _) _
      have b35 : Below w3.heap.size w3 w5 := b34.trans (b45.mono b34.size)
      have b05 : Below wo.heap.size wo w5 := hb03.trans (b35.mono hb03.size)
      have k4 : w4.heap[w3.heap.size]? = some (.cells #[.slice A3 n3 C3] 25 (0, 0)) := by rw [hw4]; exact Go.Deep.blk_alloc_new _ _
      have k5 : w5.heap[w3.heap.size]? = some (.cells #[.slice A3 n3 C3] 25 (0, 0)) := below_obj b45 k4
      have s4 : w4.heap.size = w3.heap.size + 1 := by rw [hw4]; simp
      have k6 : w5.heap[w3.heap.size + 1]? = some (tapeObj (2 * (i : Int) + 1) 5 (some ⟨w3.heap.size, 0, none⟩) 1 1 false) := by rw [hw5, ← s4]; exact Go.Deep.blk_alloc_new _ _
      have hmt := Nm.make_two z i (by omega) w3.heap.size A3 n3 C3 w5 k5 x2 (by rw [x2]; exact hc3) (by rw [x2]; exact hn3) ((hr3.old b35).mono fun _ _ => trivial)
      have hrow : RdB w5 (some ⟨w3.heap.size, 0, none⟩) [Ex.b (2 * (i : Int) + 1)] (wo.heap.size ≤ ·) := fun _ => ⟨w3.heap.size, 0, rfl, hb03.size, fun j hj => by
        have : j = 0 := by simp at hj; omega
        subst this
        exact ⟨A3, C3, by rw [heap_cell k5]; exact congrArg some (by rw [x2]; rfl), by show (Ex.b _).length ≤ C3; exact hc3, hn3, (hr3.old b35).mono fun b hb => Nat.le_trans HBP.out.size (by omega)⟩⟩
      obtain ⟨nb1, no1, hA, hz1⟩ := (HR.out.old (HB1.out.trans ((HI.out.bel.trans (b05.mono HI.out.bel.size)).mono HB1.out.size))).at hlt
      subst hA
      have HS5 : Hid (∀ y, Below w5.heap.size w5 y → (y.cell? ⟨w3.heap.size + 1, 0, none⟩ = some (.int .i64 (2 * (i : Int) + 1)) ∧ y.cell? ⟨w3.heap.size + 1, 1, none⟩ = some (.int .i64 5) ∧ y.cell? ⟨w3.heap.size + 1, 2, none⟩ = some (.slice (some ⟨w3.heap.size, 0, none⟩) 1 1) ∧ y.cell? ⟨w3.heap.size + 1, 3, none⟩ = some (.bool false) ∧ y.cell? ⟨nb1, no1 + i, none⟩ = some (.int .i64 (z i)))) := Lib.hid fun y hy => by
        obtain ⟨q0, q1, q2, q3⟩ := tape4 (below_obj hy k6)
        exact ⟨q0, q1, q2, q3, (hy.cell (World.block_lt_of_cell? _ _ hz1)).trans hz1⟩
      have HMK := Lib.hid hmt
      have l1 := Nm.lo_eq (z i)
      have l2 : IntKind.i64.wrap (1 + (Nm.lo (z i) : Int)) = 1 + (Nm.lo (z i) : Int) := IntWalk.i64_in _ (by have := Nm.lo_le (z i); omega)
      have i0 : (0 : Int) ≤ (i : Int) := by omega
      have i1 : (i : Int) < (n : Int) := by omega
      have HW5 : Hid (w5 = (w3.alloc (.cells #[.slice A3 n3 C3] 25)).alloc (.cells #[.int .i64 (2 * (i : Int) + 1), .int .i64 5, .slice (some ⟨w3.heap.size, 0, none⟩) 1 1, .bool false] 32)) := Lib.hid (by rw [hw5, hw4]; rfl)
      have HI5 := Lib.hid (HI.out.old b05)
      have HB5 := Lib.hid b05
      have HROW := Lib.hid hrow
      have s0 := HS5.out _ ((Below.refl w5.heap.size w5).drew)
      have HLW : Hid (wo.heap.size ≤ w5.heap.size) := Lib.hid b05.size
      have HW3 : Hid (wo.heap.size ≤ w3.heap.size) := Lib.hid hb03.size
      clear hO3 hb3 hc3 hcm3 hn3 hr3 x2 hb03 hw4 hw5 b34 b45 b35 b05 k4 k5 k6 s4 hmt hrow hz1
      go_wp2
      rw [← HW5.out]
      go_cut [9, 10] (fun p e wx => ∃ b off A8 C8 C7, p = .slice (some ⟨b, off, none⟩) 1 C7 ∧ e = .int .i64 0 ∧ Hid (w5.heap.size ≤ b ∧ b < wx.heap.size ∧ wx.cell? ⟨b, off, none⟩ = some (.int .i64 (2 * (i : Int) + 2)) ∧ wx.cell? ⟨b, off + 1, none⟩ = some (.int .i64 5) ∧ wx.cell? ⟨b, off + 2, none⟩ = some (.slice A8 3 C8) ∧ wx.cell? ⟨b, off + 3, none⟩ = some (.bool false)) ∧ Hid (TvIs wx (w5.heap.size ≤ ·) ⟨2 * (i : Int) + 2, 5, A8, 3, C8, false⟩ (Nm.P z i)) ∧ Hid (Below w5.heap.size w5 wx))
      case first =>
        go_region_held3 (fun y => y.cell? ⟨w3.heap.size + 1, 0, none⟩ = some (.int .i64 (2 * (i : Int) + 1)) ∧ y.cell? ⟨w3.heap.size + 1, 1, none⟩ = some (.int .i64 5) ∧ y.cell? ⟨w3.heap.size + 1, 2, none⟩ = some (.slice (some ⟨w3.heap.size, 0, none⟩) 1 1) ∧ y.cell? ⟨w3.heap.size + 1, 3, none⟩ = some (.bool false) ∧ y.cell? ⟨nb1, no1 + i, none⟩ = some (.int .i64 (z i)))
          (first
            | exact s0
            | exact HS5.out _ (((Below.refl w5.heap.size w5).alloc (Nat.le_refl _) _).drew)
            | exact HS5.out _ ((Below.alloc2 w5 _ _).drew)
            | exact s9)
          (first
          | (go_at_call 7; refine (HMK.out _ _ _ (Below.alloc2 w5 _ _).drew (by first | exact (heap_two w5 _ _).1 | exact (heap_two w5 _ _).2) (by first | exact (heap_two w5 _ _).1 | exact (heap_two w5 _ _).2)).mono ?_; rintro e w7 ⟨⟨b, off, A8, C8, C7, rfl, h0, h1, h2, h3, h4, h5, h6, h7⟩, hb7⟩; have s9 := HS5.out _ hb7; have HC7 := Lib.hid (And.intro h0 (And.intro h1 (And.intro h2 (And.intro h3 (And.intro h4 h5))))); have HT7 := Lib.hid h6; have HB7 := Lib.hid hb7; clear h0 h1 h2 h3 h4 h5 h6 h7 hb7))
        all_goals
          go_wp2
          go_meet
          exact ⟨_, _, _, _, _, rfl, rfl, HC7, HT7, HB7⟩
      case rest =>
      obtain ⟨b, off, A8, C8, C7, rfl, rfl, HC7, HT7, HB7⟩ := hcut
      obtain ⟨wq, rfl⟩ : ∃ x, x = wc := ⟨wc, rfl⟩
      clear s0 HMK
      go_wp2_with (go_at_call 8; refine (num14 _ _).mono ?_; rintro e w' ⟨rfl, hw'⟩; subst hw')
      have HBLO : Hid (wo.heap.size ≤ b) := Lib.hid (Nat.le_trans HLW.out HC7.out.1)
      have HSQ : Hid (∀ y, Below wq.heap.size wq y → (y.cell? ⟨w3.heap.size + 1, 0, none⟩ = some (.int .i64 (2 * (i : Int) + 1)) ∧ y.cell? ⟨w3.heap.size + 1, 1, none⟩ = some (.int .i64 5) ∧ y.cell? ⟨w3.heap.size + 1, 2, none⟩ = some (.slice (some ⟨w3.heap.size, 0, none⟩) 1 1) ∧ y.cell? ⟨w3.heap.size + 1, 3, none⟩ = some (.bool false) ∧ y.cell? ⟨b, off, none⟩ = some (.int .i64 (2 * (i : Int) + 2)) ∧ y.cell? ⟨b, off + 1, none⟩ = some (.int .i64 5) ∧ y.cell? ⟨b, off + 2, none⟩ = some (.slice A8 3 C8) ∧ y.cell? ⟨b, off + 3, none⟩ = some (.bool false))) := Lib.hid fun y hy => by
        obtain ⟨q0, q1, q2, q3, -⟩ := HS5.out y (HB7.out.trans (hy.mono HB7.out.size))
        obtain ⟨-, p0, p1, p2, p3, p4⟩ := HC7.out
        exact ⟨q0, q1, q2, q3, (hy.cell p0).trans p1, (hy.cell p0).trans p2, (hy.cell p0).trans p3, (hy.cell p0).trans p4⟩
      have hvb : ∀ k, u4.ownBlock = some k → k < wo.heap.size := fun k e => by
        obtain ⟨tvs, h1, -, -⟩ := HI.out.ex
        exact (h1.lt k e).2
      obtain ⟨g, cp, zz, hrun, hlay, -, hgr⟩ := (HI5.out.old HB7.out).push [⟨2 * (i : Int) + 1, 5, some ⟨w3.heap.size, 0, none⟩, 1, 1, false⟩, ⟨2 * (i : Int) + 2, 5, A8, 3, C8, false⟩] [Nm.D i, Nm.P z i] rfl (by simp) (fun j hj hj' => by
        have hj2 : j = 0 ∨ j = 1 := by simp at hj; omega
        rcases hj2 with rfl | rfl
        · refine ⟨rfl, rfl, rfl, rfl, ((HROW.out.in_.old HB7.out).mono fun b' hb' => ⟨Nat.lt_of_lt_of_le hb'.2 HB7.out.size, fun e => ?_⟩)⟩
          have := hvb b' e
          have := hb'.1
          omega
        · refine HT7.out.in_.mono fun b' hb' => ⟨hb'.2, fun e => ?_⟩
          have := hvb b' e
          have := hb'.1
          have := HLW.out
          omega) (y := (wq.alloc (.cells #[.int .i64 (2 * (i : Int) + 1), .int .i64 5, .slice (some ⟨w3.heap.size, 0, none⟩) 1 1, .bool false, .int .i64 (2 * (i : Int) + 2), .int .i64 5, .slice A8 3 C8, .bool false] 32)).drew) (((Below.refl wq.heap.size wq).alloc (Nat.le_refl _) _).drew) ⟨wq.heap.size, 0, none⟩ 2 2 (2 * (i + 1)) rfl (newCells wq [.int .i64 (2 * (i : Int) + 1), .int .i64 5, .slice (some ⟨w3.heap.size, 0, none⟩) 1 1, .bool false, .int .i64 (2 * (i : Int) + 2), .int .i64 5, .slice A8 3 C8, .bool false] _) (by rw [Nm.T_len]; simp; omega) (by rw [Nm.T_len]; simp; omega)
      have HLAY : Hid (LayT w1 (.slice (some ⟨g, 0, none⟩) (2 * (i + 1)) cp) (Nm.T z (i + 1)) zz) := Lib.hid hlay
      have hz0 : ∀ p, p.block < (wq.alloc (.cells #[.int .i64 (2 * (i : Int) + 1), .int .i64 5, .slice (some ⟨w3.heap.size, 0, none⟩) 1 1, .bool false, .int .i64 (2 * (i : Int) + 2), .int .i64 5, .slice A8 3 C8, .bool false] 32)).drew.heap.size → wo.heap.size ≤ p.block → zz.cell? p = (wq.alloc (.cells #[.int .i64 (2 * (i : Int) + 1), .int .i64 5, .slice (some ⟨w3.heap.size, 0, none⟩) 1 1, .bool false, .int .i64 (2 * (i : Int) + 2), .int .i64 5, .slice A8 3 C8, .bool false] 32)).drew.cell? p := fun p hp hlo => World.cell?_of_block (hgr.block p.block hp fun e => by have := hvb p.block e.symm; omega)
      have HZ : Hid (zz.cell? ⟨w3.heap.size + 1, 0, none⟩ = some (.int .i64 (2 * (i : Int) + 1)) ∧ zz.cell? ⟨w3.heap.size + 1, 1, none⟩ = some (.int .i64 5) ∧ zz.cell? ⟨w3.heap.size + 1, 2, none⟩ = some (.slice (some ⟨w3.heap.size, 0, none⟩) 1 1) ∧ zz.cell? ⟨w3.heap.size + 1, 3, none⟩ = some (.bool false) ∧ zz.cell? ⟨b, off, none⟩ = some (.int .i64 (2 * (i : Int) + 2)) ∧ zz.cell? ⟨b, off + 1, none⟩ = some (.int .i64 5) ∧ zz.cell? ⟨b, off + 2, none⟩ = some (.slice A8 3 C8) ∧ zz.cell? ⟨b, off + 3, none⟩ = some (.bool false)) := Lib.hid (by
        obtain ⟨q0, q1, q2, q3, q4, q5, q6, q7⟩ := HSQ.out _ (((Below.refl wq.heap.size wq).alloc (Nat.le_refl _) (.cells #[.int .i64 (2 * (i : Int) + 1), .int .i64 5, .slice (some ⟨w3.heap.size, 0, none⟩) 1 1, .bool false, .int .i64 (2 * (i : Int) + 2), .int .i64 5, .slice A8 3 C8, .bool false] 32)).drew)
        have hl1 := World.block_lt_of_cell? _ _ q0
        have hl2 := World.block_lt_of_cell? _ _ q4
        have hg1 : wo.heap.size ≤ w3.heap.size + 1 := by have := HBP.out.size; have := HW3.out; omega
        exact ⟨(hz0 ⟨w3.heap.size + 1, 0, none⟩ hl1 hg1).trans q0, (hz0 ⟨w3.heap.size + 1, 1, none⟩ hl1 hg1).trans q1, (hz0 ⟨w3.heap.size + 1, 2, none⟩ hl1 hg1).trans q2, (hz0 ⟨w3.heap.size + 1, 3, none⟩ hl1 hg1).trans q3, (hz0 ⟨b, off, none⟩ hl2 HBLO.out).trans q4, (hz0 ⟨b, off + 1, none⟩ hl2 HBLO.out).trans q5, (hz0 ⟨b, off + 2, none⟩ hl2 HBLO.out).trans q6, (hz0 ⟨b, off + 3, none⟩ hl2 HBLO.out).trans q7⟩)
      clear hlay hvb hgr hz0
      go_wp2
      refine wp_region_X (fun y => y.cell? ⟨w3.heap.size + 1, 0, none⟩ = some (.int .i64 (2 * (i : Int) + 1)) ∧ y.cell? ⟨w3.heap.size + 1, 1, none⟩ = some (.int .i64 5) ∧ y.cell? ⟨w3.heap.size + 1, 2, none⟩ = some (.slice (some ⟨w3.heap.size, 0, none⟩) 1 1) ∧ y.cell? ⟨w3.heap.size + 1, 3, none⟩ = some (.bool false) ∧ y.cell? ⟨b, off, none⟩ = some (.int .i64 (2 * (i : Int) + 2)) ∧ y.cell? ⟨b, off + 1, none⟩ = some (.int .i64 5) ∧ y.cell? ⟨b, off + 2, none⟩ = some (.slice A8 3 C8) ∧ y.cell? ⟨b, off + 3, none⟩ = some (.bool false)) 7 (by kernel_rfl) (HSQ.out _ (Below.refl _ _).drew) (fun hHeld => ?_)
      refine wpAnyX_slot (i := 0) (v := ?vd0) rfl rfl (by kernel_rfl) (by kernel_rfl) (by kernel_rfl) (by kernel_rfl) (fun _ _ _ h => h) (by rfl) (fun y hSw => ?hyd0) hHeld ?restd0
      case hyd0 => go_simp; with_reducible rfl
      simp only [Act.put, List.setIfInBounds_toArray, List.set_cons_zero, List.set_cons_succ]
      refine wpAnyX_slot (i := 1) (v := ?vd1) rfl rfl (by kernel_rfl) (by kernel_rfl) (by kernel_rfl) (by kernel_rfl) (fun _ _ _ h => h) (by rfl) (fun y hSw => ?hyd1) hHeld ?restd1
      case hyd1 => (obtain ⟨q1, q2, q3, q4, q5, q6, q7, q8⟩ := hSw); go_simp; with_reducible rfl
      simp only [Act.put, List.setIfInBounds_toArray, List.set_cons_zero, List.set_cons_succ]
      refine wpAnyX_slot (i := 2) (v := ?vd2) rfl rfl (by kernel_rfl) (by kernel_rfl) (by kernel_rfl) (by kernel_rfl) (fun _ _ _ h => h) (by rfl) (fun y hSw => ?hyd2) hHeld ?restd2
      case hyd2 => go_simp; with_reducible rfl
      simp only [Act.put, List.setIfInBounds_toArray, List.set_cons_zero, List.set_cons_succ]
      refine wpAnyX_slot (i := 3) (v := ?vd3) rfl rfl (by kernel_rfl) (by kernel_rfl) (by kernel_rfl) (by kernel_rfl) (fun _ _ _ h => h) (by rfl) (fun y hSw => ?hyd3) hHeld ?restd3
      case hyd3 => go_simp; with_reducible rfl
      simp only [Act.put, List.setIfInBounds_toArray, List.set_cons_zero, List.set_cons_succ]
      refine wpAnyX_slot (i := 4) (v := ?vd4) rfl rfl (by kernel_rfl) (by kernel_rfl) (by kernel_rfl) (by kernel_rfl) (fun _ _ _ h => h) (by rfl) (fun y hSw => ?hyd4) hHeld ?restd4
      case hyd4 => (obtain ⟨q1, q2, q3, q4, q5, q6, q7, q8⟩ := hSw); go_simp; with_reducible rfl
      simp only [Act.put, List.setIfInBounds_toArray, List.set_cons_zero, List.set_cons_succ]
      refine wpAnyX_next (i := 5) (by kernel_rfl) rfl (fun KK hKK => ?_)
      go_simp
      refine hKK.out _ _ (HSQ.out _ ((Below.refl _ _).alloc (Nat.le_refl _) _).drew) (fun hHeld => ?_)
      clear hKK KK
      refine wpAnyX_next (i := 6) (by kernel_rfl) rfl (fun KK hKK => ?_)
      refine step_append_eq (by rfl) _ _ _ _ (by rfl) _ _ _ _ hrun (by rfl) (by rfl) ?_
      refine hKK.out _ _ HZ.out (fun hHeld => ?_)
      clear hKK KK
      refine wpAnyX_last (by kernel_rfl) rfl (by kernel_rfl) (fun KK hKK => ?_)
      go_simp
      refine hKK.out _ _ ?_
      clear hKK KK
      go_wp2
      go_roundw
      case rel => exact ⟨i + 1, by omega, by go_num, HLAY⟩
      case measure => simp [intOf]; omega
    · have e0 : decide (i < n) = false := decide_eq_false hlt
      have hin : i = n := by omega
      have hI := HI.out
      rw [hin] at hI
      obtain ⟨A4, C4, hv, hrt⟩ := hI.rd
      subst hv
      have HFD := Lib.hid (find_any A4 (Nm.T z n) C4 _ wr (by rw [Nm.T_len]; omega) (Nm.T_sizes z n hn) hrt)
      have HBW := Lib.hid (HB1.out.trans (hI.bel.mono HB1.out.size))
      have hm4 : (Nm.T z n).length = 2 * n := Nm.T_len z n
      rw [hm4] at HFD ⊢
      clear hI hrt hm4
      go_wp2_with fail
      refine HFD.out.mono ?_
      intro e w3 hh
      obtain ⟨A3, C3, l3, rfl, hl3, hm3, hc3, -, -, hr3, hx3, hb3⟩ := hh.len
      have HB3 := Lib.hid (HBW.out.trans (hb3.mono HBW.out.size))
      have HX3 := Lib.hid hr3
      have HO3 := Lib.hid hx3
      have HM3 := Lib.hid hm3
      have HNM := Lib.hid (HR.out.old HB3.out)
      have hK16 : (Gr.find (Nm.T z n)).length ≤ 16 := by
        have h1 := Nm.find_len z hn
        omega
      obtain ⟨K, hKe⟩ : ∃ K, K = (Gr.find (Nm.T z n)).length := ⟨_, rfl⟩
      rw [← hKe] at hl3 hc3 hK16 ⊢
      have HLN3 := Lib.hid hl3
      clear hb3 hr3 hx3 hh hm3 hl3 hKe HFD
      go_wp2
      go_loopw [12] (fun vi wr => ∃ k : Nat, vi = .int .i64 ((k : Int) + 1) ∧ k ≤ 16 ∧ Hid (Below w3.heap.size w3 wr)) (fun vi _ => 17 - (intOf vi).toNat)
      case atStart => exact ⟨0, rfl, by omega, Lib.hid (Below.refl _ _)⟩
      case round =>
        obtain ⟨k, rfl, hk16, HBR⟩ := hrel
        by_cases hlk : k + 1 < K
        · have e1 : decide ((k : Int) + 1 < (K : Int)) = true := decide_eq_true (by omega)
          have hi3 : k + 1 < l3.length := by rw [HLN3.out]; exact hlk
          obtain ⟨x, hx⟩ : ∃ x, x = l3[k + 1] := ⟨_, rfl⟩
          obtain ⟨y, hy⟩ : ∃ y, y = l3[k]'(by omega) := ⟨_, rfl⟩
          have hup := Nm.up HM3.out hi3
          rw [← hx, ← hy] at hup
          obtain ⟨b, off, hA3, hf3⟩ := rd_five (HX3.out.old HBR.out) hi3 hx.symm
          obtain ⟨b', off', hA3', hf4⟩ := rd_five (HX3.out.old HBR.out) (i := k) (by omega) hy.symm
          subst hA3
          injection hA3' with hA3'
          injection hA3' with q1 q2
          subst q1 q2
          have c0 := hf3.1
          have c1 := hf4.1
          have e2 : decide (x.s.number ≤ y.s.number) = false := decide_eq_false (by omega)
          have s1 : IntKind.i64.wrap ((k : Int) + 1 - 1) = (k : Int) := by rw [show (k : Int) + 1 - 1 = (k : Int) by omega]; exact IntWalk.i64_in _ (by omega)
          have s2 : ((k : Int) + 1).toNat = k + 1 := by omega
          have s3 : IntKind.i64.wrap (k : Int) = (k : Int) := IntWalk.i64_in _ (by omega)
          have i0 : (0 : Int) ≤ (k : Int) + 1 := by omega
          have i1 : (k : Int) + 1 < (K : Int) := by omega
          have i2 : (0 : Int) ≤ (k : Int) := by omega
          have i3 : (k : Int) < (K : Int) := by omega
          have d0 : wr.drew.cell? ⟨b, off + (k + 1) * 5, none⟩ = some (.int .i64 x.s.number) := c0
          have d1 : wr.drew.cell? ⟨b, off + k * 5, none⟩ = some (.int .i64 y.s.number) := c1
          clear hx hy hup hf3 hf4
          go_wp2
          go_region_held (fun q => q.cell? ⟨b, off + (k + 1) * 5, none⟩ = some (.int .i64 x.s.number) ∧ q.cell? ⟨b, off + k * 5, none⟩ = some (.int .i64 y.s.number)) (exact ⟨d0, d1⟩) (fail)
          have HBD := Lib.hid (HBR.out.drew)
          go_wp2
          go_roundw
          case rel => exact ⟨k + 1, by go_num, by omega, HBD⟩
          case measure => simp [intOf]; omega
        · have e1 : decide ((k : Int) + 1 < (K : Int)) = false := decide_eq_false (by omega)
          obtain ⟨wl, hwl⟩ : ∃ x, x = wr := ⟨wr, rfl⟩
          have HB4 := Lib.hid (HB3.out.trans (HBR.out.mono HB3.out.size))
          have HX4 := Lib.hid (HX3.out.old HBR.out)
          have HO4 : Hid (∀ x ∈ l3, x.Ok wr (fun _ => True) ∧ x.s.labels.length ≤ 1000) := Lib.hid fun x hx => ⟨((HO3.out x hx).old HBR.out).mono fun _ _ => trivial, by rw [Nm.find_labs hn HM3.out x hx]; omega⟩
          have HNM4 := Lib.hid (HNM.out.old HBR.out)
          clear hwl
          clear wl
          obtain ⟨wz, rfl⟩ : ∃ x, x = wr := ⟨wr, rfl⟩
          go_wp2
          go_loopw [13] (fun vi wr => ∃ i : Nat, i ≤ n ∧ vi = .int .i64 (i : Int) ∧ Hid (Below wz.heap.size wz wr)) (fun vi _ => n - (intOf vi).toNat)
          case atStart => exact ⟨0, Nat.zero_le _, rfl, Lib.hid (Below.refl _ _)⟩
          case round =>
            obtain ⟨i, hi, rfl, HBR⟩ := hrel
            by_cases hlt : i < n
            · have e0 : decide (i < n) = true := decide_eq_true hlt
              obtain ⟨wo, rfl⟩ : ∃ x, x = wr := ⟨wr, rfl⟩
              have HX5 := Lib.hid (HX4.out.old HBR.out)
              have HO5 : Hid (∀ x ∈ l3, x.Ok wo (fun _ => True) ∧ x.s.labels.length ≤ 1000) := Lib.hid fun x hx => ⟨(HO4.out x hx).1.old HBR.out, (HO4.out x hx).2⟩
              have HN5 := Lib.hid (HNM4.out.old HBR.out)
              obtain ⟨nb1, no1, hA, hz1⟩ := HN5.out.at hlt
              subst hA
              go_wp2
              go_loopw [15, 14] (fun vk vf wr => ∃ k : Nat, k ≤ i ∧ vk = .int .i64 (k : Int) ∧ vf = .bool (decide (∀ j, j < k → Nm.lo (z j) ≠ Nm.lo (z i))) ∧ Hid (Below wo.heap.size wo wr)) (fun vk _ _ => i - (intOf vk).toNat)
              case atStart => exact ⟨0, Nat.zero_le _, rfl, by simp, Lib.hid (Below.refl _ _)⟩
              case round =>
                obtain ⟨k, hk, rfl, rfl, HBR2⟩ := hrel
                by_cases hlk : k < i
                · have e1 : decide (k < i) = true := decide_eq_true hlk
                  have e1' : decide ((k : Int) < (i : Int)) = true := decide_eq_true (by omega)
                  obtain ⟨nb2, no2, hA2, hz2⟩ := HN5.out.at (j := k) (by omega)
                  injection hA2 with hA2
                  injection hA2 with q1 q2
                  subst q1 q2
                  have HZZ : Hid (∀ q, Below wo.heap.size wo q → q.cell? ⟨nb1, no1 + k, none⟩ = some (.int .i64 (z k)) ∧ q.cell? ⟨nb1, no1 + i, none⟩ = some (.int .i64 (z i))) := Lib.hid fun q hq => ⟨(hq.cell (World.block_lt_of_cell? _ _ hz2)).trans hz2, (hq.cell (World.block_lt_of_cell? _ _ hz1)).trans hz1⟩
                  have c0 := HZZ.out _ (HBR2.out.drew)
                  have l1 := Nm.lo_eq (z i)
                  have l2 := Nm.lo_eq (z k)
                  have i0 : (0 : Int) ≤ (k : Int) := by omega
                  have i1 : (k : Int) < (n : Int) := by omega
                  have i2 : (0 : Int) ≤ (i : Int) := by omega
                  have i3 : (i : Int) < (n : Int) := by omega
                  have l3' : ((Nm.lo (z k) : Int) != (Nm.lo (z i) : Int)) = decide (Nm.lo (z k) ≠ Nm.lo (z i)) := by
                    rw [Bool.eq_iff_iff, bne_iff_ne, decide_eq_true_iff]; omega
                  have HFS := Lib.hid (Nm.fst_succ z i k)
                  obtain ⟨f, hf⟩ : ∃ f, f = decide (∀ j, j < k → Nm.lo (z j) ≠ Nm.lo (z i)) := ⟨_, rfl⟩
                  obtain ⟨f2, hf2⟩ : ∃ f2, f2 = decide (∀ j, j < k + 1 → Nm.lo (z j) ≠ Nm.lo (z i)) := ⟨_, rfl⟩
                  obtain ⟨f3, hf3⟩ : ∃ f3, f3 = decide (Nm.lo (z k) ≠ Nm.lo (z i)) := ⟨_, rfl⟩
                  rw [← hf] at HFS ⊢
                  rw [← hf2, ← hf3] at HFS
                  rw [← hf3] at l3'
                  have HF2 := Lib.hid hf2
                  have HBD := Lib.hid HBR2.out.drew
                  clear hf hf2 hf3 hz1 hz2
                  cases f with
                  | true =>
                    have hff : Hid (f2 = f3) := Lib.hid (by rw [HFS.out]; rfl)
                    go_wp2
                    go_region_held (fun q => q.cell? ⟨nb1, no1 + k, none⟩ = some (.int .i64 (z k)) ∧ q.cell? ⟨nb1, no1 + i, none⟩ = some (.int .i64 (z i))) (exact c0) (fail)
                    clear c0
                    go_wp2
                    go_roundw
                    case rel => exact ⟨k + 1, by omega, by go_num, by rw [← HF2.out, hff.out], HBD⟩
                    case measure => simp [intOf]; omega
                  | false =>
                    have hff : Hid (f2 = false) := Lib.hid (by rw [HFS.out]; rfl)
                    go_wp2
                    go_quiet (fail)
                    have HBQ : Hid (Below wo.heap.size wo (wr.drewN nq)) := Lib.hid (HBR2.out.trans ((⟨rfl, rfl, rfl, Nat.le_refl _, fun _ _ => rfl⟩ : Below wr.heap.size wr (wr.drewN nq)).mono HBR2.out.size))
                    generalize wr.drewN nq = wy at HBQ ⊢
                    clear c0
                    go_wp2
                    go_roundw
                    case rel => exact ⟨k + 1, by omega, by go_num, by rw [← HF2.out, hff.out], HBQ⟩
                    case measure => simp [intOf]; omega
                · have e1 : decide (k < i) = false := decide_eq_false hlk
                  have e1' : decide ((k : Int) < (i : Int)) = false := decide_eq_false (by omega)
                  have hki : k = i := by omega
                  have HFST : Hid (decide (∀ j, j < k → Nm.lo (z j) ≠ Nm.lo (z i)) = Nm.fst z i) := Lib.hid (by rw [hki]; rfl)
                  obtain ⟨f, hf⟩ : ∃ f, f = Nm.fst z i := ⟨_, rfl⟩
                  rw [HFST.out, ← hf]
                  have HF := Lib.hid hf
                  have HX6 := Lib.hid (HX5.out.old HBR2.out)
                  have HO6 : Hid (∀ x ∈ l3, x.Ok wr (fun _ => True) ∧ x.s.labels.length ≤ 1000) := Lib.hid fun x hx => ⟨(HO5.out x hx).1.old HBR2.out, (HO5.out x hx).2⟩
                  have HZ6 : Hid (∀ q, Below wr.heap.size wr q → q.cell? ⟨nb1, no1 + i, none⟩ = some (.int .i64 (z i))) := Lib.hid fun q hq => by
                    have h := (HBR2.out.cell (World.block_lt_of_cell? _ _ hz1)).trans hz1
                    exact (hq.cell (World.block_lt_of_cell? _ _ h)).trans h
                  have HB6 := Lib.hid (HBR.out.trans (HBR2.out.mono HBR.out.size))
                  have HOF1 : Hid (Gr.of (l3.map Sx.s) (2 * (i : Int) + 1) = if f = true then some (Nm.s z i) else none) := Lib.hid (by rw [HM3.out, hf]; exact Nm.of_T hn hlt (.inl rfl))
                  have HOF2 : Hid (Gr.of (l3.map Sx.s) (2 * (i : Int) + 2) = if f = true then some (Nm.s z i) else none) := Lib.hid (by rw [HM3.out, hf]; exact Nm.of_T hn hlt (.inr rfl))
                  have s1 : IntKind.i64.wrap (2 * (i : Int)) = 2 * (i : Int) := IntWalk.i64_in _ (by omega)
                  have s2 : IntKind.i64.wrap (2 * (i : Int) + 1) = 2 * (i : Int) + 1 := IntWalk.i64_in _ (by omega)
                  have s3 : IntKind.i64.wrap (2 * (i : Int) + 2) = 2 * (i : Int) + 2 := IntWalk.i64_in _ (by omega)
                  clear hf hz1
                  go_wp2_with fail
                  refine (of_any A3 l3 K C3 _ (2 * (i : Int) + 1) wr HLN3.out.symm (by omega) HX6.out HO6.out).mono ?_
                  rintro e w7a ⟨⟨⟨pn, pi, pd, pp, pl⟩, pA, pC⟩, rfl, hs7, -, hb7⟩
                  rw [HOF1.out] at hs7 ⊢
                  dsimp only
                  obtain ⟨w7, hw7⟩ : ∃ x, x = w7a.alloc (sealObj pn pi pd pp pA pl.length pC) := ⟨_, rfl⟩
                  have hbb7 : Below wr.heap.size wr w7 := by rw [hw7]; exact hb7.alloc hb7.size _
                  have HW7 := Lib.hid hw7
                  unfold sealObj at HW7
                  have HS7 : Hid (w7.heap[w7a.heap.size]? = some (sealObj pn pi pd pp pA pl.length pC)) := Lib.hid (by rw [hw7]; exact Go.Deep.blk_alloc_new _ _)
                  have HN7 : Hid (f = true → pn = Nm.nb z i) := Lib.hid fun hf => by
                    rw [if_pos hf] at hs7
                    exact congrArg Rc.S.number hs7
                  obtain ⟨is7, his7⟩ : ∃ b, b = (if f = true then some (Nm.s z i) else none : Option Rc.S).isSome := ⟨_, rfl⟩
                  rw [← his7]
                  have HIS7 : Hid (is7 = f) := Lib.hid (by rw [his7]; cases f <;> rfl)
                  have HBB7 := Lib.hid hbb7
                  clear hw7 hbb7 hb7 hs7 his7
                  have HX7 := Lib.hid (HX6.out.old HBB7.out)
                  have HO7 : Hid (∀ x ∈ l3, x.Ok w7 (fun _ => True) ∧ x.s.labels.length ≤ 1000) := Lib.hid fun x hx => ⟨(HO6.out x hx).1.old HBB7.out, (HO6.out x hx).2⟩
                  go_wp2_with fail
                  rw [← HW7.out]
                  refine (of_any A3 l3 K C3 _ (2 * (i : Int) + 2) w7 HLN3.out.symm (by omega) HX7.out HO7.out).mono ?_
                  rintro e w8a ⟨⟨⟨rn, ri, rd, rp, rl⟩, rA, rC⟩, rfl, hs8, -, hb8⟩
                  rw [HOF2.out] at hs8 ⊢
                  dsimp only
                  obtain ⟨w8, hw8⟩ : ∃ x, x = w8a.alloc (sealObj rn ri rd rp rA rl.length rC) := ⟨_, rfl⟩
                  have hbb8 : Below w7.heap.size w7 w8 := by rw [hw8]; exact hb8.alloc hb8.size _
                  have HW8 := Lib.hid hw8
                  unfold sealObj at HW8
                  have HS8 : Hid (w8.heap[w8a.heap.size]? = some (sealObj rn ri rd rp rA rl.length rC)) := Lib.hid (by rw [hw8]; exact Go.Deep.blk_alloc_new _ _)
                  have HN8 : Hid (f = true → rn = Nm.nb z i) := Lib.hid fun hf => by
                    rw [if_pos hf] at hs8
                    exact congrArg Rc.S.number hs8
                  obtain ⟨is8, his8⟩ : ∃ b, b = (if f = true then some (Nm.s z i) else none : Option Rc.S).isSome := ⟨_, rfl⟩
                  rw [← his8]
                  have HIS8 : Hid (is8 = f) := Lib.hid (by rw [his8]; cases f <;> rfl)
                  have HBB8 := Lib.hid hbb8
                  clear hw8 hbb8 hb8 hs8 his8
                  have HBB := Lib.hid (HBB7.out.trans (HBB8.out.mono HBB7.out.size))
                  have HC : Hid (∀ q, Below w8.heap.size w8 q → q.cell? ⟨nb1, no1 + i, none⟩ = some (.int .i64 (z i)) ∧ q.cell? ⟨w7a.heap.size, 0, none⟩ = some (.int .i64 pn) ∧ q.cell? ⟨w8a.heap.size, 0, none⟩ = some (.int .i64 rn)) := Lib.hid fun q hq => ⟨HZ6.out q (HBB.out.trans (hq.mono HBB.out.size)), (seal5 (below_obj (HBB8.out.trans (hq.mono HBB8.out.size)) HS7.out)).1, (seal5 (below_obj hq HS8.out)).1⟩
                  have HBF := Lib.hid (HBR2.out.trans (HBB.out.mono HBR2.out.size))
                  have q7 := HIS7.out
                  have q8 := HIS8.out
                  subst q7
                  have q9 : is8 = is7 := q8
                  subst q9
                  go_wp2_with fail
                  have l1 := Nm.lo_eq (z i)
                  have l2 : IntKind.i64.wrap (1 + (Nm.lo (z i) : Int)) = 1 + (Nm.lo (z i) : Int) := IntWalk.i64_in _ (by have := Nm.lo_le (z i); omega)
                  have i0 : (0 : Int) ≤ (i : Int) := by omega
                  have i1 : (i : Int) < (n : Int) := by omega
                  cases is8 with
                  | true =>
                    have r7 := HN7.out rfl
                    have r8 := HN8.out rfl
                    unfold Nm.nb at r7 r8
                    subst r7 r8
                    have c0 := HC.out _ ((Below.refl w8.heap.size w8).drew)
                    have HBD := Lib.hid HBF.out.drew
                    rw [← HW8.out]
                    go_region_held (fun q => q.cell? ⟨nb1, no1 + i, none⟩ = some (.int .i64 (z i)) ∧ q.cell? ⟨w7a.heap.size, 0, none⟩ = some (.int .i64 (1 + (Nm.lo (z i) : Int))) ∧ q.cell? ⟨w8a.heap.size, 0, none⟩ = some (.int .i64 (1 + (Nm.lo (z i) : Int)))) (exact c0) (fail)
                    clear c0
                    go_wp2
                    go_roundw
                    case rel => exact ⟨i + 1, by omega, by go_num, Lib.hid (HBR.out.trans (HBD.out.mono HBR.out.size))⟩
                    case measure => simp [intOf]; omega
                  | false =>
                    rw [← HW8.out]
                    go_quiet (fail)
                    have HBQ : Hid (Below wo.heap.size wo (w8.drewN nq)) := Lib.hid (HBF.out.trans ((⟨rfl, rfl, rfl, Nat.le_refl _, fun _ _ => rfl⟩ : Below w8.heap.size w8 (w8.drewN nq)).mono HBF.out.size))
                    generalize w8.drewN nq = wy at HBQ ⊢
                    go_wp2
                    go_roundw
                    case rel => exact ⟨i + 1, by omega, by go_num, Lib.hid (HBR.out.trans (HBQ.out.mono HBR.out.size))⟩
                    case measure => simp [intOf]; omega
            · have e0 : decide (i < n) = false := decide_eq_false hlt
              have HBF := Lib.hid (HB4.out.trans (HBR.out.mono HB4.out.size))
              go_wp2
              go_ret
              exact ⟨rfl, HBF.out⟩
set_option maxRecDepth 100000 in
theorem groupNumbers_walk (A : Option Addr) (n : Nat) (C : Nat) (z : Nat → Int) (w : World) (hr : RdI w A n z) :
    Calls Try.prog 3 #[.slice A n C] w (AnsB true w) := by
  by_cases hn : n ≤ 8
  · exact groupNumbers_few A n C z w hn hr
  · have e8 : decide (8 < n) = true := decide_eq_true (by omega)
    have e8' : decide ((8 : Int) < (n : Int)) = true := decide_eq_true (by omega)
    clear hr
    go_enter Try.func3, Try.ntmps3
    go_wp2_with fail
    refine (alive14_true _).mono ?_
    rintro e w1 ⟨rfl, hb1⟩
    have HB1 := Lib.hid hb1
    clear hb1
    go_wp2
    go_ret
    exact ⟨rfl, HB1.out⟩
end Go.Proofs.Ytbkmpoabdnickaa
