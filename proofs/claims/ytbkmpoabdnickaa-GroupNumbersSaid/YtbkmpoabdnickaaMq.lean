/- How long tapes are: Len of package stripe. What check of package group answers: why no group is made. Which parity tapes a group has, or why none; and how they are laid in a row. No function of the program. Groups of one tape of one block: they are made, and each of their tapes tells of the group. No program. How package group compares two seals: by their numbers. -/
import Derived.Test.YtbkmpoabdnickaaMp
import Derived.Test.YtbkmpoabdnickaaMi
import Derived.Test.YtbkmpoabdnickaaMk
import Derived.Test.YtbkmpoabdnickaaMj
import Derived.Deep.RegionWith
import Derived.Test.YtbkmpoabdnickaaMm
import Derived.Laws.MakeOwn
import Derived.Handy
import Derived.WalkSpells
import Derived.WalkLawsBesides
namespace Go.Proofs.Ytbkmpoabdnickaa
open Go.RowKit Mx
open Pt (Tx)

set_option maxHeartbeats 2000000 in
theorem len_any (A : Option Addr) (ts : List St.T) (C : Nat) (G : Nat → Prop) (w : World) (hn : ts.length ≤ maxLen) (hr : RdT w A ts G) :
    Calls Try.prog 29 #[.slice A ts.length C] w fun e w' => e = .returned (.int .i64 (St.len ts : Int)) ∧ Below w.heap.size w w' := by
  unfold maxLen at hn
  have HR := Lib.hid hr
  clear hr
  go_enter Try.func29, Try.ntmps29
  go_wp2
  go_loopw [8, 3] (fun vi vm wr => ∃ i m : Nat, i ≤ ts.length ∧ vi = .int .i64 (i : Int) ∧ vm = .int .i64 (m : Int) ∧ Hid (m = St.len (ts.take i)) ∧ Hid (Below w.heap.size w wr)) (fun vi _ _ => ts.length - (intOf vi).toNat)
  case atStart => exact ⟨0, 0, Nat.zero_le _, rfl, rfl, Lib.hid rfl, Lib.hid (Below.refl _ _)⟩
  case round =>
    obtain ⟨i, m, hi, rfl, rfl, HM, HB⟩ := hrel
    by_cases hlt : i < ts.length
    · obtain ⟨b, off, A', C', rfl, -, c0, c1, c2, c3, hb⟩ := (HR.out.old HB.out).at_ hlt
      obtain ⟨⟨lab, cap, bs, lost⟩, ht⟩ : ∃ t, t = ts[i] := ⟨_, rfl⟩
      have HT := Lib.hid ht
      rw [← ht] at c0 c1 c2 c3
      dsimp only at c0 c1 c2 c3
      clear ht hb
      have e0 : decide (i < ts.length) = true := decide_eq_true hlt
      have HB1 := Lib.hid (HB.out.alloc HB.out.size (tapeObj lab cap A' bs.length C' lost))
      unfold tapeObj at HB1
      cases lost with
      | true =>
        have HM1 : Hid (m = St.len (ts.take (i + 1))) := Lib.hid (by rw [St.len_take hlt, ← HM.out, ← HT.out]; simp [St.one])
        have hmx : max (m : Int) 0 = (m : Int) := by omega
        go_wp2_with fail
        refine (blocks_lost lab cap A' bs.length C' _).mono ?_
        rintro e w1 ⟨rfl, hb1⟩
        have HB2 := Lib.hid (HB1.out.trans (hb1.mono HB1.out.size))
        clear hb1 c0 c1 c2 c3
        go_wp2
        go_roundw
        case rel => exact ⟨i + 1, m, by omega, by go_num, rfl, HM1, HB2⟩
        case measure => simp [intOf]; omega
      | false =>
        obtain ⟨k, hk⟩ : ∃ k, k = bs.length := ⟨_, rfl⟩
        have HM1 : Hid (max m k = St.len (ts.take (i + 1))) := Lib.hid (by rw [St.len_take hlt, ← HM.out, ← HT.out, hk]; simp [St.one])
        rw [← hk] at c2 HB1
        clear hk
        go_wp2_with fail
        refine (blocks_live lab cap A' k C' _).mono ?_
        rintro e w1 ⟨rfl, hb1⟩
        have HB2 := Lib.hid (HB1.out.trans (hb1.mono HB1.out.size))
        clear hb1 c0 c1 c2 c3
        go_wp2
        go_roundw
        case rel => exact ⟨i + 1, max m k, by omega, by go_num, by congr 1; split <;> omega, HM1, HB2⟩
        case measure => simp [intOf]; omega
    · have e0 : decide (i < ts.length) = false := decide_eq_false hlt
      have HE : Hid (m = St.len ts) := Lib.hid (by rw [HM.out, St.len_all (by omega)])
      go_wp2
      go_ret
      exact ⟨by rw [HE.out]; rfl, HB.out⟩
end Go.Proofs.Ytbkmpoabdnickaa
namespace Go.Proofs.Ytbkmpoabdnickaa
open Go.RowKit
open Pt (Tx)

/-- a number is answered; what was there is as it was -/
def AnsI (n : Int) (w : World) (e : Ending) (w' : World) : Prop := e = .returned (.int .i64 n) ∧ Below w.heap.size w w'
/-- what a call has kept -/
theorem on_below {wb x y : World} (h : Below wb.heap.size wb x) (hb : Below x.heap.size x y) : Below wb.heap.size wb y := h.trans (hb.mono h.size)
set_option maxRecDepth 100000 in
set_option maxHeartbeats 8000000 in
theorem check_any (A1 : Option Addr) (data : List St.T) (C1 : Nat) (A2 : Option Addr) (blank : List St.T) (C2 : Nat) (G : Nat → Prop) (x : Sx) (w : World) (hn1 : data.length ≤ 1000) (hn2 : blank.length ≤ 1000) (hl : ∀ t ∈ data, t.blocks.length ≤ 1000000 ∧ ∀ s ∈ t.blocks, s.length ≤ 1000000)
    (hr1 : RdT w A1 data G) (hr2 : RdT w A2 blank G) (hx : x.Ok w (fun _ => True)) :
    Calls Try.prog 15 #[.slice A1 data.length C1, .slice A2 blank.length C2, .agg #[.int .i64 x.s.number, .int .i64 x.s.index, .int .i64 x.s.data, .int .i64 x.s.parity, .slice x.A x.s.labels.length x.C]] w
      (AnsI (checkE (decide (Rc.SOk x.s)) (data.any lostB) (blank.any lostB) (decide (St.len data = 0)) (data.all goodB) (blank.any hasB) (blank.any (smallB (St.len data)))) w) := by
  obtain ⟨⟨sn, si, sd, sp, sl⟩, sA, sC⟩ := x
  dsimp only
  obtain ⟨m, hm⟩ : ∃ m, m = sl.length := ⟨_, rfl⟩
  obtain ⟨n1, hn1'⟩ : ∃ n, n = data.length := ⟨_, rfl⟩
  obtain ⟨n2, hn2'⟩ : ∃ n, n = blank.length := ⟨_, rfl⟩
  rw [← hm, ← hn1', ← hn2']
  obtain ⟨wa, hwa⟩ : ∃ wa, wa = w.alloc (sealObj sn si sd sp sA m sC) := ⟨_, rfl⟩
  have hba : Below w.heap.size w wa := by rw [hwa]; exact (Below.refl _ _).alloc (Nat.le_refl _) _
  have hSa : wa.heap[w.heap.size]? = some (sealObj sn si sd sp sA m sC) := by rw [hwa]; exact Go.Deep.blk_alloc_new _ _
  have hlenle : St.len data ≤ 1000000 := St.len_le fun t ht => (hl t ht).1
  have hLEN := len_any A1 data C1 G wa (by unfold maxLen; omega) (hr1.old hba)
  rw [← hn1'] at hLEN
  obtain ⟨N, hN⟩ : ∃ N, N = St.len data := ⟨_, rfl⟩
  rw [← hN] at hLEN hlenle
  have HLEN := Lib.hid hLEN
  have HBA := Lib.hid hba
  have HSA := Lib.hid hSa
  have HWA := Lib.hid hwa
  unfold sealObj at HWA
  have H1 : Hid (∀ y, Below wa.heap.size wa y → Calls Try.prog 30 #[.agg #[.int .i64 sn, .int .i64 si, .int .i64 sd, .int .i64 sp, .slice sA m sC]] y (AnsB (decide (Rc.SOk ⟨sn, si, sd, sp, sl⟩)) y)) := Lib.hid fun y hy =>
    rightSeal_any sn si sd sp sA sl m sC (fun _ => True) y hm (by rw [hm]; exact hx.le) hx.max ((hx.rd.old hba).old hy)
  have H2 : Hid (∀ y, Below wa.heap.size wa y → Calls Try.prog 31 #[.slice A1 n1 C1, .func (.func 32) #[] #[]] y (AnsB (data.any lostB) y)) := Lib.hid fun y hy => by
    have h := lost_contains A1 data C1 G y (by omega) ((hr1.old hba).old hy)
    rwa [← hn1'] at h
  have H3 : Hid (∀ y, Below wa.heap.size wa y → Calls Try.prog 31 #[.slice A2 n2 C2, .func (.func 32) #[] #[]] y (AnsB (blank.any lostB) y)) := Lib.hid fun y hy => by
    have h := lost_contains A2 blank C2 G y (by omega) ((hr2.old hba).old hy)
    rwa [← hn2'] at h
  have H5 : Hid (∀ y, Below wa.heap.size wa y → Calls Try.prog 33 #[.slice A1 n1 C1] y (AnsB (data.all goodB) y)) := Lib.hid fun y hy => by
    have h := allGood_any A1 data C1 G y (by omega) hl ((hr1.old hba).old hy)
    rwa [← hn1'] at h
  have H6 : Hid (∀ y, Below wa.heap.size wa y → Calls Try.prog 31 #[.slice A2 n2 C2, .func (.func 34) #[] #[]] y (AnsB (blank.any hasB) y)) := Lib.hid fun y hy => by
    have h := has_contains A2 blank C2 G y (by omega) ((hr2.old hba).old hy)
    rwa [← hn2'] at h
  have H7 : Hid (∀ y gb, Below wa.heap.size wa y → y.cell? ⟨gb, 0, none⟩ = some (.int .i64 (N : Int)) → Calls Try.prog 31 #[.slice A2 n2 C2, .func (.func 35) #[] #[.pointer (some ⟨gb, 0, none⟩)]] y (AnsB (blank.any (smallB N)) y)) := Lib.hid fun y gb hy hg => by
    have h := small_contains gb N hlenle A2 blank C2 G y (by omega) ((hr2.old hba).old hy) hg
    rwa [← hn2'] at h
  obtain ⟨b1, hb1⟩ : ∃ b, b = decide (Rc.SOk ⟨sn, si, sd, sp, sl⟩) := ⟨_, rfl⟩
  obtain ⟨b2, hb2⟩ : ∃ b, b = data.any lostB := ⟨_, rfl⟩
  obtain ⟨b3, hb3⟩ : ∃ b, b = blank.any lostB := ⟨_, rfl⟩
  obtain ⟨b4, hb4⟩ : ∃ b, b = decide (N = 0) := ⟨_, rfl⟩
  obtain ⟨b5, hb5⟩ : ∃ b, b = data.all goodB := ⟨_, rfl⟩
  obtain ⟨b6, hb6⟩ : ∃ b, b = blank.any hasB := ⟨_, rfl⟩
  obtain ⟨b7, hb7⟩ : ∃ b, b = blank.any (smallB N) := ⟨_, rfl⟩
  rw [← hb1] at H1
  rw [← hb2] at H2
  rw [← hb3] at H3
  rw [← hb5] at H5
  rw [← hb6] at H6
  rw [← hb7] at H7
  rw [← hN, ← hb1, ← hb2, ← hb3, ← hb4, ← hb5, ← hb6, ← hb7]
  have h4 : (((N : Nat) : Int) == 0) = b4 := by
    rw [hb4, Bool.eq_iff_iff, beq_iff_eq, decide_eq_true_eq]; omega
  have HCASE : (b1 = false ∧ checkE b1 b2 b3 b4 b5 b6 b7 = 1) ∨ (b1 = true ∧ b2 = true ∧ checkE b1 b2 b3 b4 b5 b6 b7 = 1) ∨ (b1 = true ∧ b2 = false ∧ b3 = true ∧ checkE b1 b2 b3 b4 b5 b6 b7 = 1) ∨ (b1 = true ∧ b2 = false ∧ b3 = false ∧ b4 = true ∧ checkE b1 b2 b3 b4 b5 b6 b7 = 1)
      ∨ (b1 = true ∧ b2 = false ∧ b3 = false ∧ b4 = false ∧ b5 = false ∧ checkE b1 b2 b3 b4 b5 b6 b7 = 1) ∨ (b1 = true ∧ b2 = false ∧ b3 = false ∧ b4 = false ∧ b5 = true ∧ b6 = true ∧ checkE b1 b2 b3 b4 b5 b6 b7 = 11)
      ∨ (b1 = true ∧ b2 = false ∧ b3 = false ∧ b4 = false ∧ b5 = true ∧ b6 = false ∧ b7 = true ∧ checkE b1 b2 b3 b4 b5 b6 b7 = 6) ∨ (b1 = true ∧ b2 = false ∧ b3 = false ∧ b4 = false ∧ b5 = true ∧ b6 = false ∧ b7 = false ∧ checkE b1 b2 b3 b4 b5 b6 b7 = 0) := by
    cases b1 <;> cases b2 <;> cases b3 <;> cases b4 <;> cases b5 <;> cases b6 <;> cases b7 <;> simp [checkE]
  clear hr1 hr2 hx hl hwa hba hSa hLEN hb1 hb2 hb3 hb4 hb5 hb6 hb7 hN hm hn1' hn2' hn1 hn2
  rcases HCASE with ⟨rfl, HE⟩ | ⟨rfl, rfl, HE⟩ | ⟨rfl, rfl, rfl, HE⟩ | ⟨rfl, rfl, rfl, h4', HE⟩ | ⟨rfl, rfl, rfl, h4', rfl, HE⟩ | ⟨rfl, rfl, rfl, h4', rfl, rfl, HE⟩ | ⟨rfl, rfl, rfl, h4', rfl, rfl, rfl, HE⟩ | ⟨rfl, rfl, rfl, h4', rfl, rfl, rfl, HE⟩
  · have HEE := Lib.hid HE
    clear HE
    go_enter Try.func15, Try.ntmps15
    go_wp2_with fail
    rw [← HWA.out]
    refine HLEN.out.mono ?_
    rintro e w1 ⟨rfl, hb1⟩
    obtain ⟨wb, hwb⟩ : ∃ wb, wb = w1.alloc (.cells #[.int .i64 (N : Int)] 3) := ⟨_, rfl⟩
    have hby : Below wa.heap.size wa wb := by rw [hwb]; exact hb1.alloc hb1.size _
    have g0 : wb.cell? ⟨w1.heap.size, 0, none⟩ = some (.int .i64 (N : Int)) := by rw [hwb]; exact heap_cell (Go.Deep.blk_alloc_new _ _)
    obtain ⟨x0, x1, x2, x3, x4⟩ := seal5 (below_obj hby HSA.out)
    have HWB := Lib.hid hwb
    rw [HWB.out] at x0 x1 x2 x3 x4
    obtain ⟨gb, hgb⟩ : ∃ gb, gb = w1.heap.size := ⟨_, rfl⟩
    clear hb1 hwb
    rw [← hgb] at g0
    have HGB := Lib.hid hgb
    clear hgb
    go_wp2_with fail
    rw [← HWB.out, ← HGB.out]
    clear x0 x1 x2 x3 x4
    refine (H1.out _ hby).mono ?_
    rintro e y1 ⟨rfl, hb⟩
    have hb' := on_below hby hb
    have g1 := (hb.cell (World.block_lt_of_cell? _ _ g0)).trans g0
    clear hby hb g0
    have hby := hb'
    have g0 := g1
    clear hb' g1
    go_wp2
    go_ret
    exact ⟨by rw [HEE.out]; rfl, HBA.out.trans (hby.mono HBA.out.size)⟩
  · have HEE := Lib.hid HE
    clear HE
    go_enter Try.func15, Try.ntmps15
    go_wp2_with fail
    rw [← HWA.out]
    refine HLEN.out.mono ?_
    rintro e w1 ⟨rfl, hb1⟩
    obtain ⟨wb, hwb⟩ : ∃ wb, wb = w1.alloc (.cells #[.int .i64 (N : Int)] 3) := ⟨_, rfl⟩
    have hby : Below wa.heap.size wa wb := by rw [hwb]; exact hb1.alloc hb1.size _
    have g0 : wb.cell? ⟨w1.heap.size, 0, none⟩ = some (.int .i64 (N : Int)) := by rw [hwb]; exact heap_cell (Go.Deep.blk_alloc_new _ _)
    obtain ⟨x0, x1, x2, x3, x4⟩ := seal5 (below_obj hby HSA.out)
    have HWB := Lib.hid hwb
    rw [HWB.out] at x0 x1 x2 x3 x4
    obtain ⟨gb, hgb⟩ : ∃ gb, gb = w1.heap.size := ⟨_, rfl⟩
    clear hb1 hwb
    rw [← hgb] at g0
    have HGB := Lib.hid hgb
    clear hgb
    go_wp2_with fail
    rw [← HWB.out, ← HGB.out]
    clear x0 x1 x2 x3 x4
    refine (H1.out _ hby).mono ?_
    rintro e y1 ⟨rfl, hb⟩
    have hb' := on_below hby hb
    have g1 := (hb.cell (World.block_lt_of_cell? _ _ g0)).trans g0
    clear hby hb g0
    have hby := hb'
    have g0 := g1
    clear hb' g1
    go_wp2_with fail
    refine (H2.out _ hby).mono ?_
    rintro e y ⟨rfl, hb⟩
    have hb' := on_below hby hb
    have g1 := (hb.cell (World.block_lt_of_cell? _ _ g0)).trans g0
    clear hby hb g0
    have hby := hb'
    have g0 := g1
    clear hb' g1
    go_wp2
    go_ret
    exact ⟨by rw [HEE.out]; rfl, HBA.out.trans (hby.mono HBA.out.size)⟩
  · have HEE := Lib.hid HE
    clear HE
    go_enter Try.func15, Try.ntmps15
    go_wp2_with fail
    rw [← HWA.out]
    refine HLEN.out.mono ?_
    rintro e w1 ⟨rfl, hb1⟩
    obtain ⟨wb, hwb⟩ : ∃ wb, wb = w1.alloc (.cells #[.int .i64 (N : Int)] 3) := ⟨_, rfl⟩
    have hby : Below wa.heap.size wa wb := by rw [hwb]; exact hb1.alloc hb1.size _
    have g0 : wb.cell? ⟨w1.heap.size, 0, none⟩ = some (.int .i64 (N : Int)) := by rw [hwb]; exact heap_cell (Go.Deep.blk_alloc_new _ _)
    obtain ⟨x0, x1, x2, x3, x4⟩ := seal5 (below_obj hby HSA.out)
    have HWB := Lib.hid hwb
    rw [HWB.out] at x0 x1 x2 x3 x4
    obtain ⟨gb, hgb⟩ : ∃ gb, gb = w1.heap.size := ⟨_, rfl⟩
    clear hb1 hwb
    rw [← hgb] at g0
    have HGB := Lib.hid hgb
    clear hgb
    go_wp2_with fail
    rw [← HWB.out, ← HGB.out]
    clear x0 x1 x2 x3 x4
    refine (H1.out _ hby).mono ?_
    rintro e y1 ⟨rfl, hb⟩
    have hb' := on_below hby hb
    have g1 := (hb.cell (World.block_lt_of_cell? _ _ g0)).trans g0
    clear hby hb g0
    have hby := hb'
    have g0 := g1
    clear hb' g1
    go_wp2_with fail
    refine (H2.out _ hby).mono ?_
    rintro e y ⟨rfl, hb⟩
    have hb' := on_below hby hb
    have g1 := (hb.cell (World.block_lt_of_cell? _ _ g0)).trans g0
    clear hby hb g0
    have hby := hb'
    have g0 := g1
    clear hb' g1
    go_wp2_with fail
    refine (H3.out _ hby).mono ?_
    rintro e y ⟨rfl, hb⟩
    have hb' := on_below hby hb
    have g1 := (hb.cell (World.block_lt_of_cell? _ _ g0)).trans g0
    clear hby hb g0
    have hby := hb'
    have g0 := g1
    clear hb' g1
    go_wp2
    go_ret
    exact ⟨by rw [HEE.out]; rfl, HBA.out.trans (hby.mono HBA.out.size)⟩
  · rw [h4'] at h4
    have HEE := Lib.hid HE
    clear HE
    go_enter Try.func15, Try.ntmps15
    go_wp2_with fail
    rw [← HWA.out]
    refine HLEN.out.mono ?_
    rintro e w1 ⟨rfl, hb1⟩
    obtain ⟨wb, hwb⟩ : ∃ wb, wb = w1.alloc (.cells #[.int .i64 (N : Int)] 3) := ⟨_, rfl⟩
    have hby : Below wa.heap.size wa wb := by rw [hwb]; exact hb1.alloc hb1.size _
    have g0 : wb.cell? ⟨w1.heap.size, 0, none⟩ = some (.int .i64 (N : Int)) := by rw [hwb]; exact heap_cell (Go.Deep.blk_alloc_new _ _)
    obtain ⟨x0, x1, x2, x3, x4⟩ := seal5 (below_obj hby HSA.out)
    have HWB := Lib.hid hwb
    rw [HWB.out] at x0 x1 x2 x3 x4
    obtain ⟨gb, hgb⟩ : ∃ gb, gb = w1.heap.size := ⟨_, rfl⟩
    clear hb1 hwb
    rw [← hgb] at g0
    have HGB := Lib.hid hgb
    clear hgb
    go_wp2_with fail
    rw [← HWB.out, ← HGB.out]
    clear x0 x1 x2 x3 x4
    refine (H1.out _ hby).mono ?_
    rintro e y1 ⟨rfl, hb⟩
    have hb' := on_below hby hb
    have g1 := (hb.cell (World.block_lt_of_cell? _ _ g0)).trans g0
    clear hby hb g0
    have hby := hb'
    have g0 := g1
    clear hb' g1
    go_wp2_with fail
    refine (H2.out _ hby).mono ?_
    rintro e y ⟨rfl, hb⟩
    have hb' := on_below hby hb
    have g1 := (hb.cell (World.block_lt_of_cell? _ _ g0)).trans g0
    clear hby hb g0
    have hby := hb'
    have g0 := g1
    clear hb' g1
    go_wp2_with fail
    refine (H3.out _ hby).mono ?_
    rintro e y ⟨rfl, hb⟩
    have hb' := on_below hby hb
    have g1 := (hb.cell (World.block_lt_of_cell? _ _ g0)).trans g0
    clear hby hb g0
    have hby := hb'
    have g0 := g1
    clear hb' g1
    go_wp2
    go_ret
    exact ⟨by rw [HEE.out]; rfl, HBA.out.trans (hby.mono HBA.out.size)⟩
  · rw [h4'] at h4
    have HEE := Lib.hid HE
    clear HE
    go_enter Try.func15, Try.ntmps15
    go_wp2_with fail
    rw [← HWA.out]
    refine HLEN.out.mono ?_
    rintro e w1 ⟨rfl, hb1⟩
    obtain ⟨wb, hwb⟩ : ∃ wb, wb = w1.alloc (.cells #[.int .i64 (N : Int)] 3) := ⟨_, rfl⟩
    have hby : Below wa.heap.size wa wb := by rw [hwb]; exact hb1.alloc hb1.size _
    have g0 : wb.cell? ⟨w1.heap.size, 0, none⟩ = some (.int .i64 (N : Int)) := by rw [hwb]; exact heap_cell (Go.Deep.blk_alloc_new _ _)
    obtain ⟨x0, x1, x2, x3, x4⟩ := seal5 (below_obj hby HSA.out)
    have HWB := Lib.hid hwb
    rw [HWB.out] at x0 x1 x2 x3 x4
    obtain ⟨gb, hgb⟩ : ∃ gb, gb = w1.heap.size := ⟨_, rfl⟩
    clear hb1 hwb
    rw [← hgb] at g0
    have HGB := Lib.hid hgb
    clear hgb
    go_wp2_with fail
    rw [← HWB.out, ← HGB.out]
    clear x0 x1 x2 x3 x4
    refine (H1.out _ hby).mono ?_
    rintro e y1 ⟨rfl, hb⟩
    have hb' := on_below hby hb
    have g1 := (hb.cell (World.block_lt_of_cell? _ _ g0)).trans g0
    clear hby hb g0
    have hby := hb'
    have g0 := g1
    clear hb' g1
    go_wp2_with fail
    refine (H2.out _ hby).mono ?_
    rintro e y ⟨rfl, hb⟩
    have hb' := on_below hby hb
    have g1 := (hb.cell (World.block_lt_of_cell? _ _ g0)).trans g0
    clear hby hb g0
    have hby := hb'
    have g0 := g1
    clear hb' g1
    go_wp2_with fail
    refine (H3.out _ hby).mono ?_
    rintro e y ⟨rfl, hb⟩
    have hb' := on_below hby hb
    have g1 := (hb.cell (World.block_lt_of_cell? _ _ g0)).trans g0
    clear hby hb g0
    have hby := hb'
    have g0 := g1
    clear hb' g1
    go_wp2_with fail
    refine (H5.out _ hby).mono ?_
    rintro e y ⟨rfl, hb⟩
    have hb' := on_below hby hb
    have g1 := (hb.cell (World.block_lt_of_cell? _ _ g0)).trans g0
    clear hby hb g0
    have hby := hb'
    have g0 := g1
    clear hb' g1
    go_wp2
    go_ret
    exact ⟨by rw [HEE.out]; rfl, HBA.out.trans (hby.mono HBA.out.size)⟩
  · rw [h4'] at h4
    have HEE := Lib.hid HE
    clear HE
    go_enter Try.func15, Try.ntmps15
    go_wp2_with fail
    rw [← HWA.out]
    refine HLEN.out.mono ?_
    rintro e w1 ⟨rfl, hb1⟩
    obtain ⟨wb, hwb⟩ : ∃ wb, wb = w1.alloc (.cells #[.int .i64 (N : Int)] 3) := ⟨_, rfl⟩
    have hby : Below wa.heap.size wa wb := by rw [hwb]; exact hb1.alloc hb1.size _
    have g0 : wb.cell? ⟨w1.heap.size, 0, none⟩ = some (.int .i64 (N : Int)) := by rw [hwb]; exact heap_cell (Go.Deep.blk_alloc_new _ _)
    obtain ⟨x0, x1, x2, x3, x4⟩ := seal5 (below_obj hby HSA.out)
    have HWB := Lib.hid hwb
    rw [HWB.out] at x0 x1 x2 x3 x4
    obtain ⟨gb, hgb⟩ : ∃ gb, gb = w1.heap.size := ⟨_, rfl⟩
    clear hb1 hwb
    rw [← hgb] at g0
    have HGB := Lib.hid hgb
    clear hgb
    go_wp2_with fail
    rw [← HWB.out, ← HGB.out]
    clear x0 x1 x2 x3 x4
    refine (H1.out _ hby).mono ?_
    rintro e y1 ⟨rfl, hb⟩
    have hb' := on_below hby hb
    have g1 := (hb.cell (World.block_lt_of_cell? _ _ g0)).trans g0
    clear hby hb g0
    have hby := hb'
    have g0 := g1
    clear hb' g1
    go_wp2_with fail
    refine (H2.out _ hby).mono ?_
    rintro e y ⟨rfl, hb⟩
    have hb' := on_below hby hb
    have g1 := (hb.cell (World.block_lt_of_cell? _ _ g0)).trans g0
    clear hby hb g0
    have hby := hb'
    have g0 := g1
    clear hb' g1
    go_wp2_with fail
    refine (H3.out _ hby).mono ?_
    rintro e y ⟨rfl, hb⟩
    have hb' := on_below hby hb
    have g1 := (hb.cell (World.block_lt_of_cell? _ _ g0)).trans g0
    clear hby hb g0
    have hby := hb'
    have g0 := g1
    clear hb' g1
    go_wp2_with fail
    refine (H5.out _ hby).mono ?_
    rintro e y ⟨rfl, hb⟩
    have hb' := on_below hby hb
    have g1 := (hb.cell (World.block_lt_of_cell? _ _ g0)).trans g0
    clear hby hb g0
    have hby := hb'
    have g0 := g1
    clear hb' g1
    go_wp2_with fail
    refine (H6.out _ hby).mono ?_
    rintro e y ⟨rfl, hb⟩
    have hb' := on_below hby hb
    have g1 := (hb.cell (World.block_lt_of_cell? _ _ g0)).trans g0
    clear hby hb g0
    have hby := hb'
    have g0 := g1
    clear hb' g1
    go_wp2
    go_ret
    exact ⟨by rw [HEE.out]; rfl, HBA.out.trans (hby.mono HBA.out.size)⟩
  · rw [h4'] at h4
    have HEE := Lib.hid HE
    clear HE
    go_enter Try.func15, Try.ntmps15
    go_wp2_with fail
    rw [← HWA.out]
    refine HLEN.out.mono ?_
    rintro e w1 ⟨rfl, hb1⟩
    obtain ⟨wb, hwb⟩ : ∃ wb, wb = w1.alloc (.cells #[.int .i64 (N : Int)] 3) := ⟨_, rfl⟩
    have hby : Below wa.heap.size wa wb := by rw [hwb]; exact hb1.alloc hb1.size _
    have g0 : wb.cell? ⟨w1.heap.size, 0, none⟩ = some (.int .i64 (N : Int)) := by rw [hwb]; exact heap_cell (Go.Deep.blk_alloc_new _ _)
    obtain ⟨x0, x1, x2, x3, x4⟩ := seal5 (below_obj hby HSA.out)
    have HWB := Lib.hid hwb
    rw [HWB.out] at x0 x1 x2 x3 x4
    obtain ⟨gb, hgb⟩ : ∃ gb, gb = w1.heap.size := ⟨_, rfl⟩
    clear hb1 hwb
    rw [← hgb] at g0
    have HGB := Lib.hid hgb
    clear hgb
    go_wp2_with fail
    rw [← HWB.out, ← HGB.out]
    clear x0 x1 x2 x3 x4
    refine (H1.out _ hby).mono ?_
    rintro e y1 ⟨rfl, hb⟩
    have hb' := on_below hby hb
    have g1 := (hb.cell (World.block_lt_of_cell? _ _ g0)).trans g0
    clear hby hb g0
    have hby := hb'
    have g0 := g1
    clear hb' g1
    go_wp2_with fail
    refine (H2.out _ hby).mono ?_
    rintro e y ⟨rfl, hb⟩
    have hb' := on_below hby hb
    have g1 := (hb.cell (World.block_lt_of_cell? _ _ g0)).trans g0
    clear hby hb g0
    have hby := hb'
    have g0 := g1
    clear hb' g1
    go_wp2_with fail
    refine (H3.out _ hby).mono ?_
    rintro e y ⟨rfl, hb⟩
    have hb' := on_below hby hb
    have g1 := (hb.cell (World.block_lt_of_cell? _ _ g0)).trans g0
    clear hby hb g0
    have hby := hb'
    have g0 := g1
    clear hb' g1
    go_wp2_with fail
    refine (H5.out _ hby).mono ?_
    rintro e y ⟨rfl, hb⟩
    have hb' := on_below hby hb
    have g1 := (hb.cell (World.block_lt_of_cell? _ _ g0)).trans g0
    clear hby hb g0
    have hby := hb'
    have g0 := g1
    clear hb' g1
    go_wp2_with fail
    refine (H6.out _ hby).mono ?_
    rintro e y ⟨rfl, hb⟩
    have hb' := on_below hby hb
    have g1 := (hb.cell (World.block_lt_of_cell? _ _ g0)).trans g0
    clear hby hb g0
    have hby := hb'
    have g0 := g1
    clear hb' g1
    go_wp2_with fail
    refine (H7.out _ gb hby g0).mono ?_
    rintro e y ⟨rfl, hb⟩
    have hb' := on_below hby hb
    have g1 := (hb.cell (World.block_lt_of_cell? _ _ g0)).trans g0
    clear hby hb g0
    have hby := hb'
    have g0 := g1
    clear hb' g1
    go_wp2
    go_ret
    exact ⟨by rw [HEE.out]; rfl, HBA.out.trans (hby.mono HBA.out.size)⟩
  · rw [h4'] at h4
    have HEE := Lib.hid HE
    clear HE
    go_enter Try.func15, Try.ntmps15
    go_wp2_with fail
    rw [← HWA.out]
    refine HLEN.out.mono ?_
    rintro e w1 ⟨rfl, hb1⟩
    obtain ⟨wb, hwb⟩ : ∃ wb, wb = w1.alloc (.cells #[.int .i64 (N : Int)] 3) := ⟨_, rfl⟩
    have hby : Below wa.heap.size wa wb := by rw [hwb]; exact hb1.alloc hb1.size _
    have g0 : wb.cell? ⟨w1.heap.size, 0, none⟩ = some (.int .i64 (N : Int)) := by rw [hwb]; exact heap_cell (Go.Deep.blk_alloc_new _ _)
    obtain ⟨x0, x1, x2, x3, x4⟩ := seal5 (below_obj hby HSA.out)
    have HWB := Lib.hid hwb
    rw [HWB.out] at x0 x1 x2 x3 x4
    obtain ⟨gb, hgb⟩ : ∃ gb, gb = w1.heap.size := ⟨_, rfl⟩
    clear hb1 hwb
    rw [← hgb] at g0
    have HGB := Lib.hid hgb
    clear hgb
    go_wp2_with fail
    rw [← HWB.out, ← HGB.out]
    clear x0 x1 x2 x3 x4
    refine (H1.out _ hby).mono ?_
    rintro e y1 ⟨rfl, hb⟩
    have hb' := on_below hby hb
    have g1 := (hb.cell (World.block_lt_of_cell? _ _ g0)).trans g0
    clear hby hb g0
    have hby := hb'
    have g0 := g1
    clear hb' g1
    go_wp2_with fail
    refine (H2.out _ hby).mono ?_
    rintro e y ⟨rfl, hb⟩
    have hb' := on_below hby hb
    have g1 := (hb.cell (World.block_lt_of_cell? _ _ g0)).trans g0
    clear hby hb g0
    have hby := hb'
    have g0 := g1
    clear hb' g1
    go_wp2_with fail
    refine (H3.out _ hby).mono ?_
    rintro e y ⟨rfl, hb⟩
    have hb' := on_below hby hb
    have g1 := (hb.cell (World.block_lt_of_cell? _ _ g0)).trans g0
    clear hby hb g0
    have hby := hb'
    have g0 := g1
    clear hb' g1
    go_wp2_with fail
    refine (H5.out _ hby).mono ?_
    rintro e y ⟨rfl, hb⟩
    have hb' := on_below hby hb
    have g1 := (hb.cell (World.block_lt_of_cell? _ _ g0)).trans g0
    clear hby hb g0
    have hby := hb'
    have g0 := g1
    clear hb' g1
    go_wp2_with fail
    refine (H6.out _ hby).mono ?_
    rintro e y ⟨rfl, hb⟩
    have hb' := on_below hby hb
    have g1 := (hb.cell (World.block_lt_of_cell? _ _ g0)).trans g0
    clear hby hb g0
    have hby := hb'
    have g0 := g1
    clear hb' g1
    go_wp2_with fail
    refine (H7.out _ gb hby g0).mono ?_
    rintro e y ⟨rfl, hb⟩
    have hb' := on_below hby hb
    have g1 := (hb.cell (World.block_lt_of_cell? _ _ g0)).trans g0
    clear hby hb g0
    have hby := hb'
    have g0 := g1
    clear hb' g1
    go_wp2
    go_ret
    exact ⟨by rw [HEE.out]; rfl, HBA.out.trans (hby.mono HBA.out.size)⟩
end Go.Proofs.Ytbkmpoabdnickaa
namespace Go.Proofs.Ytbkmpoabdnickaa
open Go.RowKit
open Pt (Tx)

/-- tapes are laid one by one in a made row -/
structure MadeI (w0 : World) (gm n : Nat) (ts : List St.T) (wr : World) : Prop where
  row : ∃ cur : Array Value, wr.heap[gm]? = some (.cells cur 32 (0, 0)) ∧ n * 4 ≤ cur.size ∧ ∀ i (hi : i < ts.length), ∃ A' C', cur[i * 4]? = some (.int .i64 ts[i].label) ∧ cur[i * 4 + 1]? = some (.int .i64 ts[i].cap) ∧ cur[i * 4 + 2]? = some (.slice A' ts[i].blocks.length C') ∧ cur[i * 4 + 3]? = some (.bool ts[i].lost) ∧ RdB wr A' ts[i].blocks (w0.heap.size ≤ ·)
  lt : gm < w0.heap.size
namespace MadeI
variable {w0 wr w2 : World} {gm n : Nat} {ts : List St.T}
theorem start {w1 : World} {cs : Array Value} (h : w0 = w1.alloc (.cells cs 32)) (hc : n * 4 ≤ cs.size) : MadeI w0 w1.heap.size n [] w0 := by
  have h1 : w0.heap[w1.heap.size]? = some (.cells cs 32) := by rw [h]; exact Go.Deep.blk_alloc_new _ _
  exact ⟨⟨cs, h1, hc, fun i hi => absurd hi (by simp)⟩, heap_lt h1⟩
theorem kp (h : MadeI w0 gm n ts wr) {S : Nat → Prop} (hk : Kp S wr w2) (hS : ∀ k, S k → k ≠ gm ∧ (k < w0.heap.size ∨ wr.heap.size ≤ k)) : MadeI w0 gm n ts w2 := by
  obtain ⟨cur, hg, hs, hr⟩ := h.row
  refine ⟨⟨cur, (hk.block gm (heap_lt hg) fun e => (hS gm e).1 rfl).trans hg, hs, fun i hi => ?_⟩, h.lt⟩
  obtain ⟨A', C', h0, h1, h2, h3, h4⟩ := hr i hi
  exact ⟨A', C', h0, h1, h2, h3, (h4.in_.kp hk fun b hb e => by have := hS b e; omega).mono fun b hb => hb.1⟩
theorem old (h : MadeI w0 gm n ts wr) (hb : Below wr.heap.size wr w2) : MadeI w0 gm n ts w2 :=
  h.kp (S := fun _ => False) (Kp.of_below hb) (fun _ e => e.elim)
theorem four (h : MadeI w0 gm n ts wr) {k : Nat} (hk : k < n) : (∃ v0, wr.cell? ⟨gm, k * 4, none⟩ = some v0) ∧ (∃ v1, wr.cell? ⟨gm, k * 4 + 1, none⟩ = some v1) ∧ (∃ v2, wr.cell? ⟨gm, k * 4 + 2, none⟩ = some v2) ∧ (∃ v3, wr.cell? ⟨gm, k * 4 + 3, none⟩ = some v3) ∧ ∀ j, wr.frozen? ⟨gm, j, none⟩ = false := by
  obtain ⟨cur, hg, hs, _⟩ := h.row
  have hlt : k * 4 + 4 ≤ cur.size := by
    have : (k + 1) * 4 ≤ n * 4 := Nat.mul_le_mul_right _ hk
    omega
  refine ⟨⟨_, (heap_cell hg).trans (Array.getElem?_eq_getElem (by omega))⟩, ⟨_, (heap_cell hg).trans (Array.getElem?_eq_getElem (by omega))⟩, ⟨_, (heap_cell hg).trans (Array.getElem?_eq_getElem (by omega))⟩, ⟨_, (heap_cell hg).trans (Array.getElem?_eq_getElem (by omega))⟩, fun j => heap_frozen hg⟩
theorem set (h : MadeI w0 gm n ts wr) {k : Nat} (hk : k = ts.length) (hkn : k < n) {t : St.T} {A : Option Addr} {C : Nat} (hr : RdB wr A t.blocks (w0.heap.size ≤ ·)) :
    MadeI w0 gm n (ts ++ [t]) ((((wr.setCell ⟨gm, k * 4, none⟩ (.int .i64 t.label)).setCell ⟨gm, k * 4 + 1, none⟩ (.int .i64 t.cap)).setCell ⟨gm, k * 4 + 2, none⟩ (.slice A t.blocks.length C)).setCell ⟨gm, k * 4 + 3, none⟩ (.bool t.lost)) := by
  obtain ⟨cur, hg, hs, hrows⟩ := h.row
  have hkp : Kp (· = gm) wr ((((wr.setCell ⟨gm, k * 4, none⟩ (.int .i64 t.label)).setCell ⟨gm, k * 4 + 1, none⟩ (.int .i64 t.cap)).setCell ⟨gm, k * 4 + 2, none⟩ (.slice A t.blocks.length C)).setCell ⟨gm, k * 4 + 3, none⟩ (.bool t.lost)) :=
    (((Kp.store _ _ _ _).trans (Kp.store _ _ _ _)).trans (Kp.store _ _ _ _)).trans (Kp.store _ _ _ _)
  have hne : ∀ b, w0.heap.size ≤ b → ¬ b = gm := fun b hb e => by have := h.lt; omega
  have hlt : k * 4 + 4 ≤ cur.size := by
    have : (k + 1) * 4 ≤ n * 4 := Nat.mul_le_mul_right _ hkn
    omega
  refine ⟨⟨_, heap_set (heap_set (heap_set (heap_set hg _) _) _) _, by simpa using hs, fun i hi => ?_⟩, h.lt⟩
  rw [List.length_append, List.length_singleton] at hi
  simp only [Array.getElem?_setIfInBounds, Array.size_setIfInBounds]
  by_cases e : i = k
  · have e' : (ts ++ [t])[i]'(by rw [List.length_append, List.length_singleton]; exact hi) = t := by simp [e, hk]
    rw [e']
    refine ⟨A, C, ?_, ?_, ?_, ?_, hr.kp hkp hne⟩
    · rw [e]; simp (disch := omega); omega
    · rw [e]; simp (disch := omega); omega
    · rw [e]; simp (disch := omega); omega
    · rw [e]; simp (disch := omega); omega
  · have hi' : i < ts.length := by omega
    obtain ⟨A', C', h0, h1, h2, h3, h4⟩ := hrows i hi'
    rw [List.getElem_append_left hi']
    refine ⟨A', C', ?_, ?_, ?_, ?_, h4.kp hkp hne⟩
    · rw [if_neg (by omega), if_neg (by omega), if_neg (by omega), if_neg (by omega)]; exact h0
    · rw [if_neg (by omega), if_neg (by omega), if_neg (by omega), if_neg (by omega)]; exact h1
    · rw [if_neg (by omega), if_neg (by omega), if_neg (by omega), if_neg (by omega)]; exact h2
    · rw [if_neg (by omega), if_neg (by omega), if_neg (by omega), if_neg (by omega)]; exact h3
theorem rdT (h : MadeI w0 gm n ts wr) {B : Nat} (hg : B ≤ gm) : RdT wr (some ⟨gm, 0, none⟩) ts (B ≤ ·) := fun _ => by
  obtain ⟨cur, hb, hs, hr⟩ := h.row
  refine ⟨gm, 0, rfl, hg, fun i hi => ?_⟩
  obtain ⟨A', C', h0, h1, h2, h3, h4⟩ := hr i hi
  simp only [Nat.zero_add, heap_cell hb]
  exact ⟨A', C', h0, h1, h2, h3, h4.mono fun b hb => by have := h.lt; omega⟩
end MadeI
/-- parity tapes are answered, in new memory; or why none -/
def MakeA (data blank : List St.T) (number : Int) (w : World) (e : Ending) (w' : World) : Prop :=
  if Gr.mkE data blank number = 0 then ∃ A C, e = .returned (.tuple #[.slice A blank.length C, .int .i64 0]) ∧ blank.length ≤ C ∧ C ≤ maxLen ∧ (A = none → blank.length = 0 ∧ C = 0) ∧ RdT w' A (Gr.made data blank number) (w.heap.size ≤ ·) ∧ Below w.heap.size w w'
  else e = .returned (.tuple #[.slice none 0 0, .int .i64 (Gr.mkE data blank number)]) ∧ Below w.heap.size w w'
end Go.Proofs.Ytbkmpoabdnickaa
namespace Go.Proofs.Ytbkmpoabdnickaa.Ex
open Pt (Tx)

/-- the block that such a tape has -/
def b (a : Int) : Tx := Fm.blk ⟨1, a, 0, [68]⟩
def d (a cap : Int) : St.T := ⟨a, cap, [b a], false⟩
theorem ok {a : Int} (h : 1 ≤ a ∧ a ≤ 2147483647) : Fm.Ok ⟨1, a, 0, [68]⟩ :=
  ⟨⟨(by decide : (1 : Int) ≤ 1), (by decide : (1 : Int) ≤ 6), h.1, h.2, (by decide : (0 : Int) ≤ 0), (by decide : (0 : Int) ≤ 2147483647)⟩, (by decide : ([68] : Tx).length ≤ Fm.room 1)⟩
theorem b_len {a : Int} (h : 1 ≤ a ∧ a ≤ 2147483647) : (b a).length = 79 := Fm.blk_len (ok h)
theorem good_d {a cap : Int} (h : 1 ≤ a ∧ a ≤ 2147483647) : goodB (d a cap) = true := by
  refine decide_eq_true fun n hn => ?_
  have h0 : n = 0 := by have : n < 1 := hn; omega
  subst h0
  rw [Vo.good_at (t := Gr.vo (d a cap)) (n := 0) (u := ⟨1, a, 0, [68]⟩) rfl rfl (ok h) rfl rfl]; rfl
theorem whole_d {a cap : Int} (h : 1 ≤ a ∧ a ≤ 2147483647) : St.Whole [d a cap] := by
  intro n hn t ht
  have h0 : n = 0 := by
    have : n < max 1 0 := hn
    omega
  subst h0
  rw [List.mem_singleton.1 ht]
  have e : St.blk ((0 : Nat) : Int) (d a cap) = b a := St.blk_some (t := d a cap) rfl (by show 0 < 1; omega) (b_len h)
  rw [e]
  intro e'
  have := b_len h
  rw [e'] at this; cases this
/-- blank tapes with room -/
def Blank (bl : List St.T) : Prop := ∀ t ∈ bl, t.blocks = [] ∧ t.lost = false ∧ 3 ≤ t.cap
theorem chk_zero {a cap : Int} {bl : List St.T} {n : Int} (hn : 1 ≤ n ∧ n ≤ 1073741824) (h0 : 1 ≤ bl.length) (hm : bl.length ≤ 13) (hb : Blank bl) (hl : Rc.Labs (a :: bl.map St.T.label)) : Gr.chk [d a cap] bl n = 0 := by
  have ha := hl.1 a List.mem_cons_self
  unfold Gr.chk
  rw [checkE_zero]
  refine ⟨decide_eq_true ⟨⟨hn, ?_, ?_, ?_, ?_, ?_, ?_⟩, hl⟩, rfl, ?_, rfl, ?_, ?_, ?_⟩
  · show (1 : Int) ≤ ((1 : Nat) : Int); omega
  · show (1 : Int) ≤ (bl.length : Int); omega
  · show ((1 : Nat) : Int) + (bl.length : Int) ≤ 14; omega
  · show (((a :: bl.map St.T.label).length : Nat) : Int) = ((1 : Nat) : Int) + (bl.length : Int)
    rw [List.length_cons, List.length_map]; omega
  · exact Int.natCast_nonneg _
  · show ((0 : Nat) : Int) < (((a :: bl.map St.T.label).length : Nat) : Int)
    rw [List.length_cons]; omega
  · rw [List.any_eq_false]
    intro t ht
    have := (hb t ht).2.1
    simp [lostB, this]
  · rw [List.all_eq_true]
    intro t ht
    rw [List.mem_singleton.1 ht]; exact good_d ha
  · rw [List.any_eq_false]
    intro t ht
    have := (hb t ht).1
    simp [hasB, this]
  · rw [List.any_eq_false]
    intro t ht
    have h3 := (hb t ht).2.2
    have e : St.len [d a cap] = 1 := rfl
    rw [e]
    simp [smallB]
    exact h3
theorem mk_zero {a cap : Int} {bl : List St.T} {n : Int} (hn : 1 ≤ n ∧ n ≤ 1073741824) (h0 : 1 ≤ bl.length) (hm : bl.length ≤ 13) (hb : Blank bl) (hl : Rc.Labs (a :: bl.map St.T.label)) : Gr.mkE [d a cap] bl n = 0 := by
  unfold Gr.mkE
  rw [if_neg (by rw [chk_zero hn h0 hm hb hl]; simp)]
  unfold St.err
  have ha := hl.1 a List.mem_cons_self
  exact if_pos ⟨⟨by show 1 ≤ 1; omega, Int.natCast_nonneg _, by show ((1 : Nat) : Int) + _ ≤ 255; omega⟩, whole_d ha⟩
end Go.Proofs.Ytbkmpoabdnickaa.Ex
namespace Go.Proofs.Ytbkmpoabdnickaa.Gr
open Pt (Tx)
/-- what is said, with its seal at the end -/
theorem framed_end (label : Int) (rows : List Tx) (s : Rc.S) : framedL label (says rows s) = framedL label ((1, [80]) :: rows.map (fun b => ((6 : Int), b))) ++ [Fm.blk ⟨5, label, ((rows.length + 1 : Nat) : Int), Rc.sput s⟩] := by
  unfold framedL says
  rw [List.mapIdx_append]
  simp
theorem madeT_len (data blank : List St.T) (number : Int) (i : Nat) (t : St.T) : (madeT data blank number i t).blocks.length = St.len data + 2 := by
  show (framedL _ _).length = _
  rw [framedL_len]; simp [says, rowsOf_len]
/-- each made tape ends with its seal -/
theorem made_sealed {data blank : List St.T} {number : Int} (h : Rc.SOk (sealOf data blank number 0)) (hlen : St.len data ≤ 1000000) {i : Nat} (hi : i < blank.length) : sealed (madeT data blank number i blank[i]) = some (sealOf data blank number (data.length + i)) := by
  have hs : Rc.SOk (sealOf data blank number (data.length + i)) := sealOk_index h (by omega)
  have hlab := seal_labels h (List.mem_append_right data (List.getElem_mem hi))
  refine sealed_some rfl hs (pre := framedL blank[i].label ((1, [80]) :: (rowsOf data blank.length i).map (fun b => ((6 : Int), b)))) ?_ hlab ?_
  · show framedL _ _ = _
    rw [framed_end, framedL_len, Rc.sput_ok hs]
    simp [madeT]
  · rw [framedL_len, List.length_cons, List.length_map, rowsOf_len]; omega
theorem seal_label {data blank : List St.T} {number : Int} {i : Nat} (hi : i < blank.length) : (sealOf data blank number (data.length + i)).labels.getD (sealOf data blank number (data.length + i)).index.toNat 0 = blank[i].label := by
  show ((data ++ blank).map St.T.label).getD (((data.length + i : Nat) : Int)).toNat 0 = _
  rw [Int.toNat_natCast, List.getD_eq_getElem?_getD, List.getElem?_map, List.getElem?_append_right (by omega), show data.length + i - data.length = i by omega, List.getElem?_eq_getElem hi]
  rfl
theorem made_cand {data blank : List St.T} {number : Int} (h : Rc.SOk (sealOf data blank number 0)) (hlen : St.len data ≤ 1000000) {i : Nat} (hi : i < blank.length) : cand (madeT data blank number i blank[i]) = some (sealOf data blank number (data.length + i)) :=
  cand_some (made_sealed h hlen hi) (seal_label hi)
end Go.Proofs.Ytbkmpoabdnickaa.Gr
namespace Go.Proofs.Ytbkmpoabdnickaa.Ex
open Pt (Tx)
/-- the data tape tells of none -/
theorem cand_d {a cap : Int} (h : 1 ≤ a ∧ a ≤ 2147483647) : Gr.cand (d a cap) = none :=
  Gr.cand_none (Gr.sealed_kind (t := d a cap) (Vo.good_at (t := Gr.vo (d a cap)) (n := 0) (u := ⟨1, a, 0, [68]⟩) rfl rfl (ok h) rfl rfl) (by show ¬ ((1 : Int) = 5); decide))
end Go.Proofs.Ytbkmpoabdnickaa.Ex
namespace Go.Proofs.Ytbkmpoabdnickaa
open Go.RowKit
open Pt (Tx)

/-- -1, 0 or 1 -/
def cmpI (a b : Int) : Int := if a < b then -1 else if b < a then 1 else 0
theorem cmpI_lt {a b : Int} : decide (cmpI a b < 0) = decide (a < b) := by
  unfold cmpI
  by_cases h : a < b
  · rw [if_pos h, decide_eq_true h]; rfl
  · rw [if_neg h, decide_eq_false h]
    by_cases h2 : b < a
    · rw [if_pos h2]; rfl
    · rw [if_neg h2]; rfl
theorem nan_any (a : Int) (w : World) : Calls Try.prog 44 #[.int .i64 a] w fun e w' => e = .returned (.bool false) ∧ w = w' := by
  have e1 : (a != a) = false := by simp
  go_enter Try.func44, Try.ntmps44
  go_wp2
  go_ret
  exact ⟨rfl, rfl⟩
theorem compare_any (a b : Int) (w : World) : Calls Try.prog 22 #[.int .i64 a, .int .i64 b] w fun e w' => e = .returned (.int .i64 (cmpI a b)) ∧ w = w' := by
  by_cases h1 : a < b
  · have q1 : decide (a < b) = true := decide_eq_true h1
    have H : Hid (cmpI a b = -1) := Lib.hid (if_pos h1)
    clear h1
    go_enter Try.func22, Try.ntmps22
    go_wp2_with (go_at_call 44; refine (nan_any _ _).mono ?_; rintro e w' ⟨rfl, hw'⟩; subst hw')
    go_ret
    exact ⟨by rw [H.out]; rfl, rfl⟩
  · have q1 : decide (a < b) = false := decide_eq_false h1
    by_cases h2 : b < a
    · have q2 : decide (b < a) = true := decide_eq_true h2
      have H : Hid (cmpI a b = 1) := Lib.hid ((if_neg h1).trans (if_pos h2))
      clear h1 h2
      go_enter Try.func22, Try.ntmps22
      go_wp2_with (go_at_call 44; refine (nan_any _ _).mono ?_; rintro e w' ⟨rfl, hw'⟩; subst hw')
      go_ret
      exact ⟨by rw [H.out]; rfl, rfl⟩
    · have q2 : decide (b < a) = false := decide_eq_false h2
      have H : Hid (cmpI a b = 0) := Lib.hid ((if_neg h1).trans (if_neg h2))
      clear h1 h2
      go_enter Try.func22, Try.ntmps22
      go_wp2_with (go_at_call 44; refine (nan_any _ _).mono ?_; rintro e w' ⟨rfl, hw'⟩; subst hw')
      go_ret
      exact ⟨by rw [H.out]; rfl, rfl⟩
/-- two seals, each in a block of its own -/
theorem two_seals {w wb : World} {n x d p : Int} {A : Option Addr} {m C : Nat} {n' x' d' p' : Int} {A' : Option Addr} {m' C' : Nat} (h : wb = (w.alloc (sealObj n x d p A m C)).alloc (sealObj n' x' d' p' A' m' C')) :
    Below w.heap.size w wb ∧ wb.heap[w.heap.size]? = some (sealObj n x d p A m C) ∧ wb.heap[w.heap.size + 1]? = some (sealObj n' x' d' p' A' m' C') := by
  have hb1 : Below w.heap.size w (w.alloc (sealObj n x d p A m C)) := (Below.refl _ _).alloc (Nat.le_refl _) _
  have h1 : (w.alloc (sealObj n x d p A m C)).heap[w.heap.size]? = some (sealObj n x d p A m C) := Go.Deep.blk_alloc_new _ _
  have h2 := Go.Deep.blk_alloc_new (w.alloc (sealObj n x d p A m C)) (sealObj n' x' d' p' A' m' C')
  rw [show (w.alloc (sealObj n x d p A m C)).heap.size = w.heap.size + 1 by simp] at h2
  subst h
  exact ⟨hb1.alloc hb1.size _, (Below.heap_alloc _ _ _ (heap_lt h1)).trans h1, h2⟩
theorem less_any (n x d p : Int) (A : Option Addr) (m C : Nat) (n' x' d' p' : Int) (A' : Option Addr) (m' C' : Nat) (w : World) :
    Calls Try.prog 21 #[.agg #[.int .i64 n, .int .i64 x, .int .i64 d, .int .i64 p, .slice A m C], .agg #[.int .i64 n', .int .i64 x', .int .i64 d', .int .i64 p', .slice A' m' C']] w fun e w' => e = .returned (.int .i64 (cmpI n n')) ∧ Below w.heap.size w w' := by
  obtain ⟨wb, hwb⟩ : ∃ wb, wb = (w.alloc (sealObj n x d p A m C)).alloc (sealObj n' x' d' p' A' m' C') := ⟨_, rfl⟩
  obtain ⟨hB, h1, h2⟩ := two_seals hwb
  obtain ⟨a0, -, -, -, -⟩ := seal5 h1
  obtain ⟨b0, -, -, -, -⟩ := seal5 h2
  have HB := Lib.hid hB
  unfold sealObj at hwb
  rw [hwb] at a0 b0
  have HW := Lib.hid hwb
  clear hwb hB h1 h2
  go_enter Try.func21, Try.ntmps21
  go_wp2_with (go_at_call 22; refine (compare_any _ _ _).mono ?_; rintro e w' ⟨rfl, hw'⟩; subst hw')
  go_ret
  rw [← HW.out]
  exact ⟨rfl, HB.out⟩
theorem same_any (n x d p : Int) (A : Option Addr) (m C : Nat) (n' x' d' p' : Int) (A' : Option Addr) (m' C' : Nat) (w : World) :
    Calls Try.prog 24 #[.agg #[.int .i64 n, .int .i64 x, .int .i64 d, .int .i64 p, .slice A m C], .agg #[.int .i64 n', .int .i64 x', .int .i64 d', .int .i64 p', .slice A' m' C']] w fun e w' => e = .returned (.bool (n == n')) ∧ Below w.heap.size w w' := by
  obtain ⟨wb, hwb⟩ : ∃ wb, wb = (w.alloc (sealObj n x d p A m C)).alloc (sealObj n' x' d' p' A' m' C') := ⟨_, rfl⟩
  obtain ⟨hB, h1, h2⟩ := two_seals hwb
  obtain ⟨a0, -, -, -, -⟩ := seal5 h1
  obtain ⟨b0, -, -, -, -⟩ := seal5 h2
  have HB := Lib.hid hB
  unfold sealObj at hwb
  rw [hwb] at a0 b0
  have HW := Lib.hid hwb
  clear hwb hB h1 h2
  go_enter Try.func24, Try.ntmps24
  go_wp2
  go_ret
  rw [← HW.out]
  exact ⟨rfl, HB.out⟩
end Go.Proofs.Ytbkmpoabdnickaa
