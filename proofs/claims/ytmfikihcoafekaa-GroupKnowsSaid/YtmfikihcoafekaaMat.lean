/- What check of package group answers: why no group is made. Which parity tapes a group has, or why none; and how they are laid in a row. No function of the program. Tapes in a row that a call makes longer by append: each in four cells. No function of the program. What slices.Grow makes of nothing, and slices.Concat of two rows of tapes. -/
import Derived.Test.YtmfikihcoafekaaMai
import Derived.Test.YtmfikihcoafekaaMas
import Derived.Test.YtmfikihcoafekaaMap
import Derived.Test.YtmfikihcoafekaaMaj
import Derived.Deep.RegionWith
import Derived.Test.YtmfikihcoafekaaMar
import Derived.Laws.MakeOwn
import Derived.Test.YtmfikihcoafekaaMae
import Derived.Test.YtmfikihcoafekaaMak
import Derived.Lib.AppendZerosOnto
import Derived.IntWalk
namespace Go.Proofs.Ytmfikihcoafekaa
open Go.RowKit
open Pt (Tx)

/-- a number is answered; what was there is as it was -/
def AnsI (n : Int) (w : World) (e : Ending) (w' : World) : Prop := e = .returned (.int .i64 n) ∧ Below w.heap.size w w'
/-- what a call has kept -/
theorem on_below {wb x y : World} (h : Below wb.heap.size wb x) (hb : Below x.heap.size x y) : Below wb.heap.size wb y := h.trans (hb.mono h.size)
set_option maxRecDepth 100000 in
set_option maxHeartbeats 8000000 in
theorem check_any (A1 : Option Addr) (data : List St.T) (C1 : Nat) (A2 : Option Addr) (blank : List St.T) (C2 : Nat) (G : Nat → Prop) (x : Sx) (w : World) (hn1 : data.length ≤ 1000) (hn2 : blank.length ≤ 1000) (hl : ∀ t ∈ data, t.blocks.length ≤ 1000000 ∧ ∀ s ∈ t.blocks, s.length ≤ 1000000)
    (hr1 : RdT w A1 data G) (hr2 : RdT w A2 blank G) (hx : x.Ok w (fun _ => True)) :
    Calls Try.prog 13 #[.slice A1 data.length C1, .slice A2 blank.length C2, .agg #[.int .i64 x.s.number, .int .i64 x.s.index, .int .i64 x.s.data, .int .i64 x.s.parity, .slice x.A x.s.labels.length x.C]] w
      (AnsI (checkE (decide (Rc.SOk x.s)) (data.any lostB) (blank.any lostB) (decide (St.len data = 0)) (data.all goodB) (blank.any hasB) (blank.any (smallB (St.len data)))) w) := by
  obtain ⟨⟨sn, si, sd, sp, sl⟩, sA, sC⟩ := x
  dsimp only
  obtain ⟨m, hm⟩ : ∃ m, m = sl.length := ⟨_, rfl⟩
  obtain ⟨n1, hn1'⟩ : ∃ n, n = data.length := ⟨_, rfl⟩
  obtain ⟨n2, hn2'⟩ : ∃ n, n = blank.length := ⟨_, rfl⟩
  rw [← hm, ← hn1', ← hn2']
  obtain ⟨wa, hwa⟩ : ∃ wa, wa = w.alloc (sealObj sn si sd sp sA m sC) := ⟨_, rfl⟩
  have hba : Below w.heap.size w wa := by rw [hwa]; exact (Below.refl _ _).alloc (Nat.le_refl _) _
  have hSa : wa.heap[w.heap.size]? = some (sealObj sn si sd sp sA m sC) := by rw [hwa]; exact Go.Deep.blk_alloc_new _ _
  have hlenle : St.len data ≤ 1000000 := St.len_le fun t ht => (hl t ht).1
  have hLEN := len_any A1 data C1 G wa (by unfold maxLen; omega) (hr1.old hba)
  rw [← hn1'] at hLEN
  obtain ⟨N, hN⟩ : ∃ N, N = St.len data := ⟨_, rfl⟩
  rw [← hN] at hLEN hlenle
  have HLEN := Lib.hid hLEN
  have HBA := Lib.hid hba
  have HSA := Lib.hid hSa
  have HWA := Lib.hid hwa
  unfold sealObj at HWA
  have H1 : Hid (∀ y, Below wa.heap.size wa y → Calls Try.prog 26 #[.agg #[.int .i64 sn, .int .i64 si, .int .i64 sd, .int .i64 sp, .slice sA m sC]] y (AnsB (decide (Rc.SOk ⟨sn, si, sd, sp, sl⟩)) y)) := Lib.hid fun y hy =>
    rightSeal_any sn si sd sp sA sl m sC (fun _ => True) y hm (by rw [hm]; exact hx.le) hx.max ((hx.rd.old hba).old hy)
  have H2 : Hid (∀ y, Below wa.heap.size wa y → Calls Try.prog 27 #[.slice A1 n1 C1, .func (.func 28) #[] #[]] y (AnsB (data.any lostB) y)) := Lib.hid fun y hy => by
    have h := lost_contains A1 data C1 G y (by omega) ((hr1.old hba).old hy)
    rwa [← hn1'] at h
  have H3 : Hid (∀ y, Below wa.heap.size wa y → Calls Try.prog 27 #[.slice A2 n2 C2, .func (.func 28) #[] #[]] y (AnsB (blank.any lostB) y)) := Lib.hid fun y hy => by
    have h := lost_contains A2 blank C2 G y (by omega) ((hr2.old hba).old hy)
    rwa [← hn2'] at h
  have H5 : Hid (∀ y, Below wa.heap.size wa y → Calls Try.prog 29 #[.slice A1 n1 C1] y (AnsB (data.all goodB) y)) := Lib.hid fun y hy => by
    have h := allGood_any A1 data C1 G y (by omega) hl ((hr1.old hba).old hy)
    rwa [← hn1'] at h
  have H6 : Hid (∀ y, Below wa.heap.size wa y → Calls Try.prog 27 #[.slice A2 n2 C2, .func (.func 30) #[] #[]] y (AnsB (blank.any hasB) y)) := Lib.hid fun y hy => by
    have h := has_contains A2 blank C2 G y (by omega) ((hr2.old hba).old hy)
    rwa [← hn2'] at h
  have H7 : Hid (∀ y gb, Below wa.heap.size wa y → y.cell? ⟨gb, 0, none⟩ = some (.int .i64 (N : Int)) → Calls Try.prog 27 #[.slice A2 n2 C2, .func (.func 31) #[] #[.pointer (some ⟨gb, 0, none⟩)]] y (AnsB (blank.any (smallB N)) y)) := Lib.hid fun y gb hy hg => by
    have h := small_contains gb N hlenle A2 blank C2 G y (by omega) ((hr2.old hba).old hy) hg
    rwa [← hn2'] at h
  obtain ⟨b1, hb1⟩ : ∃ b, b = decide (Rc.SOk ⟨sn, si, sd, sp, sl⟩) := ⟨_, rfl⟩
  obtain ⟨b2, hb2⟩ : ∃ b, b = data.any lostB := ⟨_, rfl⟩
  obtain ⟨b3, hb3⟩ : ∃ b, b = blank.any lostB := ⟨_, rfl⟩
  obtain ⟨b4, hb4⟩ : ∃ b, b = decide (N = 0) := ⟨_, rfl⟩
  obtain ⟨b5, hb5⟩ : ∃ b, b = data.all goodB := ⟨_, rfl⟩
  obtain ⟨b6, hb6⟩ : ∃ b, b = blank.any hasB := ⟨_, rfl⟩
  obtain ⟨b7, hb7⟩ : ∃ b, b = blank.any (smallB N) := ⟨_, rfl⟩
  rw [← hb1] at H1
  rw [← hb2] at H2
  rw [← hb3] at H3
  rw [← hb5] at H5
  rw [← hb6] at H6
  rw [← hb7] at H7
  rw [← hN, ← hb1, ← hb2, ← hb3, ← hb4, ← hb5, ← hb6, ← hb7]
  have h4 : (((N : Nat) : Int) == 0) = b4 := by
    rw [hb4, Bool.eq_iff_iff, beq_iff_eq, decide_eq_true_eq]; omega
  have HCASE : (b1 = false ∧ checkE b1 b2 b3 b4 b5 b6 b7 = 1) ∨ (b1 = true ∧ b2 = true ∧ checkE b1 b2 b3 b4 b5 b6 b7 = 1) ∨ (b1 = true ∧ b2 = false ∧ b3 = true ∧ checkE b1 b2 b3 b4 b5 b6 b7 = 1) ∨ (b1 = true ∧ b2 = false ∧ b3 = false ∧ b4 = true ∧ checkE b1 b2 b3 b4 b5 b6 b7 = 1)
      ∨ (b1 = true ∧ b2 = false ∧ b3 = false ∧ b4 = false ∧ b5 = false ∧ checkE b1 b2 b3 b4 b5 b6 b7 = 1) ∨ (b1 = true ∧ b2 = false ∧ b3 = false ∧ b4 = false ∧ b5 = true ∧ b6 = true ∧ checkE b1 b2 b3 b4 b5 b6 b7 = 11)
      ∨ (b1 = true ∧ b2 = false ∧ b3 = false ∧ b4 = false ∧ b5 = true ∧ b6 = false ∧ b7 = true ∧ checkE b1 b2 b3 b4 b5 b6 b7 = 6) ∨ (b1 = true ∧ b2 = false ∧ b3 = false ∧ b4 = false ∧ b5 = true ∧ b6 = false ∧ b7 = false ∧ checkE b1 b2 b3 b4 b5 b6 b7 = 0) := by
    cases b1 <;> cases b2 <;> cases b3 <;> cases b4 <;> cases b5 <;> cases b6 <;> cases b7 <;> simp [checkE]
  clear hr1 hr2 hx hl hwa hba hSa hLEN hb1 hb2 hb3 hb4 hb5 hb6 hb7 hN hm hn1' hn2' hn1 hn2
  rcases HCASE with ⟨rfl, HE⟩ | ⟨rfl, rfl, HE⟩ | ⟨rfl, rfl, rfl, HE⟩ | ⟨rfl, rfl, rfl, h4', HE⟩ | ⟨rfl, rfl, rfl, h4', rfl, HE⟩ | ⟨rfl, rfl, rfl, h4', rfl, rfl, HE⟩ | ⟨rfl, rfl, rfl, h4', rfl, rfl, rfl, HE⟩ | ⟨rfl, rfl, rfl, h4', rfl, rfl, rfl, HE⟩
  · have HEE := Lib.hid HE
    clear HE
    go_enter Try.func13, Try.ntmps13
    go_wp2_with fail
    rw [← HWA.out]
    refine HLEN.out.mono ?_
    rintro e w1 ⟨rfl, hb1⟩
    obtain ⟨wb, hwb⟩ : ∃ wb, wb = w1.alloc (.cells #[.int .i64 (N : Int)] 3) := ⟨_, rfl⟩
    have hby : Below wa.heap.size wa wb := by rw [hwb]; exact hb1.alloc hb1.size _
    have g0 : wb.cell? ⟨w1.heap.size, 0, none⟩ = some (.int .i64 (N : Int)) := by rw [hwb]; exact heap_cell (Go.Deep.blk_alloc_new _ _)
    obtain ⟨x0, x1, x2, x3, x4⟩ := seal5 (below_obj hby HSA.out)
    have HWB := Lib.hid hwb
    rw [HWB.out] at x0 x1 x2 x3 x4
    obtain ⟨gb, hgb⟩ : ∃ gb, gb = w1.heap.size := ⟨_, rfl⟩
    clear hb1 hwb
    rw [← hgb] at g0
    have HGB := Lib.hid hgb
    clear hgb
    go_wp2_with fail
    rw [← HWB.out, ← HGB.out]
    clear x0 x1 x2 x3 x4
    refine (H1.out _ hby).mono ?_
    rintro e y1 ⟨rfl, hb⟩
    have hb' := on_below hby hb
    have g1 := (hb.cell (World.block_lt_of_cell? _ _ g0)).trans g0
    clear hby hb g0
    have hby := hb'
    have g0 := g1
    clear hb' g1
    go_wp2
    go_ret
    exact ⟨by rw [HEE.out]; rfl, HBA.out.trans (hby.mono HBA.out.size)⟩
  · have HEE := Lib.hid HE
    clear HE
    go_enter Try.func13, Try.ntmps13
    go_wp2_with fail
    rw [← HWA.out]
    refine HLEN.out.mono ?_
    rintro e w1 ⟨rfl, hb1⟩
    obtain ⟨wb, hwb⟩ : ∃ wb, wb = w1.alloc (.cells #[.int .i64 (N : Int)] 3) := ⟨_, rfl⟩
    have hby : Below wa.heap.size wa wb := by rw [hwb]; exact hb1.alloc hb1.size _
    have g0 : wb.cell? ⟨w1.heap.size, 0, none⟩ = some (.int .i64 (N : Int)) := by rw [hwb]; exact heap_cell (Go.Deep.blk_alloc_new _ _)
    obtain ⟨x0, x1, x2, x3, x4⟩ := seal5 (below_obj hby HSA.out)
    have HWB := Lib.hid hwb
    rw [HWB.out] at x0 x1 x2 x3 x4
    obtain ⟨gb, hgb⟩ : ∃ gb, gb = w1.heap.size := ⟨_, rfl⟩
    clear hb1 hwb
    rw [← hgb] at g0
    have HGB := Lib.hid hgb
    clear hgb
    go_wp2_with fail
    rw [← HWB.out, ← HGB.out]
    clear x0 x1 x2 x3 x4
    refine (H1.out _ hby).mono ?_
    rintro e y1 ⟨rfl, hb⟩
    have hb' := on_below hby hb
    have g1 := (hb.cell (World.block_lt_of_cell? _ _ g0)).trans g0
    clear hby hb g0
    have hby := hb'
    have g0 := g1
    clear hb' g1
    go_wp2_with fail
    refine (H2.out _ hby).mono ?_
    rintro e y ⟨rfl, hb⟩
    have hb' := on_below hby hb
    have g1 := (hb.cell (World.block_lt_of_cell? _ _ g0)).trans g0
    clear hby hb g0
    have hby := hb'
    have g0 := g1
    clear hb' g1
    go_wp2
    go_ret
    exact ⟨by rw [HEE.out]; rfl, HBA.out.trans (hby.mono HBA.out.size)⟩
  · have HEE := Lib.hid HE
    clear HE
    go_enter Try.func13, Try.ntmps13
    go_wp2_with fail
    rw [← HWA.out]
    refine HLEN.out.mono ?_
    rintro e w1 ⟨rfl, hb1⟩
    obtain ⟨wb, hwb⟩ : ∃ wb, wb = w1.alloc (.cells #[.int .i64 (N : Int)] 3) := ⟨_, rfl⟩
    have hby : Below wa.heap.size wa wb := by rw [hwb]; exact hb1.alloc hb1.size _
    have g0 : wb.cell? ⟨w1.heap.size, 0, none⟩ = some (.int .i64 (N : Int)) := by rw [hwb]; exact heap_cell (Go.Deep.blk_alloc_new _ _)
    obtain ⟨x0, x1, x2, x3, x4⟩ := seal5 (below_obj hby HSA.out)
    have HWB := Lib.hid hwb
    rw [HWB.out] at x0 x1 x2 x3 x4
    obtain ⟨gb, hgb⟩ : ∃ gb, gb = w1.heap.size := ⟨_, rfl⟩
    clear hb1 hwb
    rw [← hgb] at g0
    have HGB := Lib.hid hgb
    clear hgb
    go_wp2_with fail
    rw [← HWB.out, ← HGB.out]
    clear x0 x1 x2 x3 x4
    refine (H1.out _ hby).mono ?_
    rintro e y1 ⟨rfl, hb⟩
    have hb' := on_below hby hb
    have g1 := (hb.cell (World.block_lt_of_cell? _ _ g0)).trans g0
    clear hby hb g0
    have hby := hb'
    have g0 := g1
    clear hb' g1
    go_wp2_with fail
    refine (H2.out _ hby).mono ?_
    rintro e y ⟨rfl, hb⟩
    have hb' := on_below hby hb
    have g1 := (hb.cell (World.block_lt_of_cell? _ _ g0)).trans g0
    clear hby hb g0
    have hby := hb'
    have g0 := g1
    clear hb' g1
    go_wp2_with fail
    refine (H3.out _ hby).mono ?_
    rintro e y ⟨rfl, hb⟩
    have hb' := on_below hby hb
    have g1 := (hb.cell (World.block_lt_of_cell? _ _ g0)).trans g0
    clear hby hb g0
    have hby := hb'
    have g0 := g1
    clear hb' g1
    go_wp2
    go_ret
    exact ⟨by rw [HEE.out]; rfl, HBA.out.trans (hby.mono HBA.out.size)⟩
  · rw [h4'] at h4
    have HEE := Lib.hid HE
    clear HE
    go_enter Try.func13, Try.ntmps13
    go_wp2_with fail
    rw [← HWA.out]
    refine HLEN.out.mono ?_
    rintro e w1 ⟨rfl, hb1⟩
    obtain ⟨wb, hwb⟩ : ∃ wb, wb = w1.alloc (.cells #[.int .i64 (N : Int)] 3) := ⟨_, rfl⟩
    have hby : Below wa.heap.size wa wb := by rw [hwb]; exact hb1.alloc hb1.size _
    have g0 : wb.cell? ⟨w1.heap.size, 0, none⟩ = some (.int .i64 (N : Int)) := by rw [hwb]; exact heap_cell (Go.Deep.blk_alloc_new _ _)
    obtain ⟨x0, x1, x2, x3, x4⟩ := seal5 (below_obj hby HSA.out)
    have HWB := Lib.hid hwb
    rw [HWB.out] at x0 x1 x2 x3 x4
    obtain ⟨gb, hgb⟩ : ∃ gb, gb = w1.heap.size := ⟨_, rfl⟩
    clear hb1 hwb
    rw [← hgb] at g0
    have HGB := Lib.hid hgb
    clear hgb
    go_wp2_with fail
    rw [← HWB.out, ← HGB.out]
    clear x0 x1 x2 x3 x4
    refine (H1.out _ hby).mono ?_
    rintro e y1 ⟨rfl, hb⟩
    have hb' := on_below hby hb
    have g1 := (hb.cell (World.block_lt_of_cell? _ _ g0)).trans g0
    clear hby hb g0
    have hby := hb'
    have g0 := g1
    clear hb' g1
    go_wp2_with fail
    refine (H2.out _ hby).mono ?_
    rintro e y ⟨rfl, hb⟩
    have hb' := on_below hby hb
    have g1 := (hb.cell (World.block_lt_of_cell? _ _ g0)).trans g0
    clear hby hb g0
    have hby := hb'
    have g0 := g1
    clear hb' g1
    go_wp2_with fail
    refine (H3.out _ hby).mono ?_
    rintro e y ⟨rfl, hb⟩
    have hb' := on_below hby hb
    have g1 := (hb.cell (World.block_lt_of_cell? _ _ g0)).trans g0
    clear hby hb g0
    have hby := hb'
    have g0 := g1
    clear hb' g1
    go_wp2
    go_ret
    exact ⟨by rw [HEE.out]; rfl, HBA.out.trans (hby.mono HBA.out.size)⟩
  · rw [h4'] at h4
    have HEE := Lib.hid HE
    clear HE
    go_enter Try.func13, Try.ntmps13
    go_wp2_with fail
    rw [← HWA.out]
    refine HLEN.out.mono ?_
    rintro e w1 ⟨rfl, hb1⟩
    obtain ⟨wb, hwb⟩ : ∃ wb, wb = w1.alloc (.cells #[.int .i64 (N : Int)] 3) := ⟨_, rfl⟩
    have hby : Below wa.heap.size wa wb := by rw [hwb]; exact hb1.alloc hb1.size _
    have g0 : wb.cell? ⟨w1.heap.size, 0, none⟩ = some (.int .i64 (N : Int)) := by rw [hwb]; exact heap_cell (Go.Deep.blk_alloc_new _ _)
    obtain ⟨x0, x1, x2, x3, x4⟩ := seal5 (below_obj hby HSA.out)
    have HWB := Lib.hid hwb
    rw [HWB.out] at x0 x1 x2 x3 x4
    obtain ⟨gb, hgb⟩ : ∃ gb, gb = w1.heap.size := ⟨_, rfl⟩
    clear hb1 hwb
    rw [← hgb] at g0
    have HGB := Lib.hid hgb
    clear hgb
    go_wp2_with fail
    rw [← HWB.out, ← HGB.out]
    clear x0 x1 x2 x3 x4
    refine (H1.out _ hby).mono ?_
    rintro e y1 ⟨rfl, hb⟩
    have hb' := on_below hby hb
    have g1 := (hb.cell (World.block_lt_of_cell? _ _ g0)).trans g0
    clear hby hb g0
    have hby := hb'
    have g0 := g1
    clear hb' g1
    go_wp2_with fail
    refine (H2.out _ hby).mono ?_
    rintro e y ⟨rfl, hb⟩
    have hb' := on_below hby hb
    have g1 := (hb.cell (World.block_lt_of_cell? _ _ g0)).trans g0
    clear hby hb g0
    have hby := hb'
    have g0 := g1
    clear hb' g1
    go_wp2_with fail
    refine (H3.out _ hby).mono ?_
    rintro e y ⟨rfl, hb⟩
    have hb' := on_below hby hb
    have g1 := (hb.cell (World.block_lt_of_cell? _ _ g0)).trans g0
    clear hby hb g0
    have hby := hb'
    have g0 := g1
    clear hb' g1
    go_wp2_with fail
    refine (H5.out _ hby).mono ?_
    rintro e y ⟨rfl, hb⟩
    have hb' := on_below hby hb
    have g1 := (hb.cell (World.block_lt_of_cell? _ _ g0)).trans g0
    clear hby hb g0
    have hby := hb'
    have g0 := g1
    clear hb' g1
    go_wp2
    go_ret
    exact ⟨by rw [HEE.out]; rfl, HBA.out.trans (hby.mono HBA.out.size)⟩
  · rw [h4'] at h4
    have HEE := Lib.hid HE
    clear HE
    go_enter Try.func13, Try.ntmps13
    go_wp2_with fail
    rw [← HWA.out]
    refine HLEN.out.mono ?_
    rintro e w1 ⟨rfl, hb1⟩
    obtain ⟨wb, hwb⟩ : ∃ wb, wb = w1.alloc (.cells #[.int .i64 (N : Int)] 3) := ⟨_, rfl⟩
    have hby : Below wa.heap.size wa wb := by rw [hwb]; exact hb1.alloc hb1.size _
    have g0 : wb.cell? ⟨w1.heap.size, 0, none⟩ = some (.int .i64 (N : Int)) := by rw [hwb]; exact heap_cell (Go.Deep.blk_alloc_new _ _)
    obtain ⟨x0, x1, x2, x3, x4⟩ := seal5 (below_obj hby HSA.out)
    have HWB := Lib.hid hwb
    rw [HWB.out] at x0 x1 x2 x3 x4
    obtain ⟨gb, hgb⟩ : ∃ gb, gb = w1.heap.size := ⟨_, rfl⟩
    clear hb1 hwb
    rw [← hgb] at g0
    have HGB := Lib.hid hgb
    clear hgb
    go_wp2_with fail
    rw [← HWB.out, ← HGB.out]
    clear x0 x1 x2 x3 x4
    refine (H1.out _ hby).mono ?_
    rintro e y1 ⟨rfl, hb⟩
    have hb' := on_below hby hb
    have g1 := (hb.cell (World.block_lt_of_cell? _ _ g0)).trans g0
    clear hby hb g0
    have hby := hb'
    have g0 := g1
    clear hb' g1
    go_wp2_with fail
    refine (H2.out _ hby).mono ?_
    rintro e y ⟨rfl, hb⟩
    have hb' := on_below hby hb
    have g1 := (hb.cell (World.block_lt_of_cell? _ _ g0)).trans g0
    clear hby hb g0
    have hby := hb'
    have g0 := g1
    clear hb' g1
    go_wp2_with fail
    refine (H3.out _ hby).mono ?_
    rintro e y ⟨rfl, hb⟩
    have hb' := on_below hby hb
    have g1 := (hb.cell (World.block_lt_of_cell? _ _ g0)).trans g0
    clear hby hb g0
    have hby := hb'
    have g0 := g1
    clear hb' g1
    go_wp2_with fail
    refine (H5.out _ hby).mono ?_
    rintro e y ⟨rfl, hb⟩
    have hb' := on_below hby hb
    have g1 := (hb.cell (World.block_lt_of_cell? _ _ g0)).trans g0
    clear hby hb g0
    have hby := hb'
    have g0 := g1
    clear hb' g1
    go_wp2_with fail
    refine (H6.out _ hby).mono ?_
    rintro e y ⟨rfl, hb⟩
    have hb' := on_below hby hb
    have g1 := (hb.cell (World.block_lt_of_cell? _ _ g0)).trans g0
    clear hby hb g0
    have hby := hb'
    have g0 := g1
    clear hb' g1
    go_wp2
    go_ret
    exact ⟨by rw [HEE.out]; rfl, HBA.out.trans (hby.mono HBA.out.size)⟩
  · rw [h4'] at h4
    have HEE := Lib.hid HE
    clear HE
    go_enter Try.func13, Try.ntmps13
    go_wp2_with fail
    rw [← HWA.out]
    refine HLEN.out.mono ?_
    rintro e w1 ⟨rfl, hb1⟩
    obtain ⟨wb, hwb⟩ : ∃ wb, wb = w1.alloc (.cells #[.int .i64 (N : Int)] 3) := ⟨_, rfl⟩
    have hby : Below wa.heap.size wa wb := by rw [hwb]; exact hb1.alloc hb1.size _
    have g0 : wb.cell? ⟨w1.heap.size, 0, none⟩ = some (.int .i64 (N : Int)) := by rw [hwb]; exact heap_cell (Go.Deep.blk_alloc_new _ _)
    obtain ⟨x0, x1, x2, x3, x4⟩ := seal5 (below_obj hby HSA.out)
    have HWB := Lib.hid hwb
    rw [HWB.out] at x0 x1 x2 x3 x4
    obtain ⟨gb, hgb⟩ : ∃ gb, gb = w1.heap.size := ⟨_, rfl⟩
    clear hb1 hwb
    rw [← hgb] at g0
    have HGB := Lib.hid hgb
    clear hgb
    go_wp2_with fail
    rw [← HWB.out, ← HGB.out]
    clear x0 x1 x2 x3 x4
    refine (H1.out _ hby).mono ?_
    rintro e y1 ⟨rfl, hb⟩
    have hb' := on_below hby hb
    have g1 := (hb.cell (World.block_lt_of_cell? _ _ g0)).trans g0
    clear hby hb g0
    have hby := hb'
    have g0 := g1
    clear hb' g1
    go_wp2_with fail
    refine (H2.out _ hby).mono ?_
    rintro e y ⟨rfl, hb⟩
    have hb' := on_below hby hb
    have g1 := (hb.cell (World.block_lt_of_cell? _ _ g0)).trans g0
    clear hby hb g0
    have hby := hb'
    have g0 := g1
    clear hb' g1
    go_wp2_with fail
    refine (H3.out _ hby).mono ?_
    rintro e y ⟨rfl, hb⟩
    have hb' := on_below hby hb
    have g1 := (hb.cell (World.block_lt_of_cell? _ _ g0)).trans g0
    clear hby hb g0
    have hby := hb'
    have g0 := g1
    clear hb' g1
    go_wp2_with fail
    refine (H5.out _ hby).mono ?_
    rintro e y ⟨rfl, hb⟩
    have hb' := on_below hby hb
    have g1 := (hb.cell (World.block_lt_of_cell? _ _ g0)).trans g0
    clear hby hb g0
    have hby := hb'
    have g0 := g1
    clear hb' g1
    go_wp2_with fail
    refine (H6.out _ hby).mono ?_
    rintro e y ⟨rfl, hb⟩
    have hb' := on_below hby hb
    have g1 := (hb.cell (World.block_lt_of_cell? _ _ g0)).trans g0
    clear hby hb g0
    have hby := hb'
    have g0 := g1
    clear hb' g1
    go_wp2_with fail
    refine (H7.out _ gb hby g0).mono ?_
    rintro e y ⟨rfl, hb⟩
    have hb' := on_below hby hb
    have g1 := (hb.cell (World.block_lt_of_cell? _ _ g0)).trans g0
    clear hby hb g0
    have hby := hb'
    have g0 := g1
    clear hb' g1
    go_wp2
    go_ret
    exact ⟨by rw [HEE.out]; rfl, HBA.out.trans (hby.mono HBA.out.size)⟩
  · rw [h4'] at h4
    have HEE := Lib.hid HE
    clear HE
    go_enter Try.func13, Try.ntmps13
    go_wp2_with fail
    rw [← HWA.out]
    refine HLEN.out.mono ?_
    rintro e w1 ⟨rfl, hb1⟩
    obtain ⟨wb, hwb⟩ : ∃ wb, wb = w1.alloc (.cells #[.int .i64 (N : Int)] 3) := ⟨_, rfl⟩
    have hby : Below wa.heap.size wa wb := by rw [hwb]; exact hb1.alloc hb1.size _
    have g0 : wb.cell? ⟨w1.heap.size, 0, none⟩ = some (.int .i64 (N : Int)) := by rw [hwb]; exact heap_cell (Go.Deep.blk_alloc_new _ _)
    obtain ⟨x0, x1, x2, x3, x4⟩ := seal5 (below_obj hby HSA.out)
    have HWB := Lib.hid hwb
    rw [HWB.out] at x0 x1 x2 x3 x4
    obtain ⟨gb, hgb⟩ : ∃ gb, gb = w1.heap.size := ⟨_, rfl⟩
    clear hb1 hwb
    rw [← hgb] at g0
    have HGB := Lib.hid hgb
    clear hgb
    go_wp2_with fail
    rw [← HWB.out, ← HGB.out]
    clear x0 x1 x2 x3 x4
    refine (H1.out _ hby).mono ?_
    rintro e y1 ⟨rfl, hb⟩
    have hb' := on_below hby hb
    have g1 := (hb.cell (World.block_lt_of_cell? _ _ g0)).trans g0
    clear hby hb g0
    have hby := hb'
    have g0 := g1
    clear hb' g1
    go_wp2_with fail
    refine (H2.out _ hby).mono ?_
    rintro e y ⟨rfl, hb⟩
    have hb' := on_below hby hb
    have g1 := (hb.cell (World.block_lt_of_cell? _ _ g0)).trans g0
    clear hby hb g0
    have hby := hb'
    have g0 := g1
    clear hb' g1
    go_wp2_with fail
    refine (H3.out _ hby).mono ?_
    rintro e y ⟨rfl, hb⟩
    have hb' := on_below hby hb
    have g1 := (hb.cell (World.block_lt_of_cell? _ _ g0)).trans g0
    clear hby hb g0
    have hby := hb'
    have g0 := g1
    clear hb' g1
    go_wp2_with fail
    refine (H5.out _ hby).mono ?_
    rintro e y ⟨rfl, hb⟩
    have hb' := on_below hby hb
    have g1 := (hb.cell (World.block_lt_of_cell? _ _ g0)).trans g0
    clear hby hb g0
    have hby := hb'
    have g0 := g1
    clear hb' g1
    go_wp2_with fail
    refine (H6.out _ hby).mono ?_
    rintro e y ⟨rfl, hb⟩
    have hb' := on_below hby hb
    have g1 := (hb.cell (World.block_lt_of_cell? _ _ g0)).trans g0
    clear hby hb g0
    have hby := hb'
    have g0 := g1
    clear hb' g1
    go_wp2_with fail
    refine (H7.out _ gb hby g0).mono ?_
    rintro e y ⟨rfl, hb⟩
    have hb' := on_below hby hb
    have g1 := (hb.cell (World.block_lt_of_cell? _ _ g0)).trans g0
    clear hby hb g0
    have hby := hb'
    have g0 := g1
    clear hb' g1
    go_wp2
    go_ret
    exact ⟨by rw [HEE.out]; rfl, HBA.out.trans (hby.mono HBA.out.size)⟩
end Go.Proofs.Ytmfikihcoafekaa
namespace Go.Proofs.Ytmfikihcoafekaa
open Go.RowKit
open Pt (Tx)

/-- tapes are laid one by one in a made row -/
structure MadeI (w0 : World) (gm n : Nat) (ts : List St.T) (wr : World) : Prop where
  row : ∃ cur : Array Value, wr.heap[gm]? = some (.cells cur 32 (0, 0)) ∧ n * 4 ≤ cur.size ∧ ∀ i (hi : i < ts.length), ∃ A' C', cur[i * 4]? = some (.int .i64 ts[i].label) ∧ cur[i * 4 + 1]? = some (.int .i64 ts[i].cap) ∧ cur[i * 4 + 2]? = some (.slice A' ts[i].blocks.length C') ∧ cur[i * 4 + 3]? = some (.bool ts[i].lost) ∧ RdB wr A' ts[i].blocks (w0.heap.size ≤ ·)
  lt : gm < w0.heap.size
namespace MadeI
variable {w0 wr w2 : World} {gm n : Nat} {ts : List St.T}
theorem start {w1 : World} {cs : Array Value} (h : w0 = w1.alloc (.cells cs 32)) (hc : n * 4 ≤ cs.size) : MadeI w0 w1.heap.size n [] w0 := by
  have h1 : w0.heap[w1.heap.size]? = some (.cells cs 32) := by rw [h]; exact Go.Deep.blk_alloc_new _ _
  exact ⟨⟨cs, h1, hc, fun i hi => absurd hi (by simp)⟩, heap_lt h1⟩
theorem kp (h : MadeI w0 gm n ts wr) {S : Nat → Prop} (hk : Kp S wr w2) (hS : ∀ k, S k → k ≠ gm ∧ (k < w0.heap.size ∨ wr.heap.size ≤ k)) : MadeI w0 gm n ts w2 := by
  obtain ⟨cur, hg, hs, hr⟩ := h.row
  refine ⟨⟨cur, (hk.block gm (heap_lt hg) fun e => (hS gm e).1 rfl).trans hg, hs, fun i hi => ?_⟩, h.lt⟩
  obtain ⟨A', C', h0, h1, h2, h3, h4⟩ := hr i hi
  exact ⟨A', C', h0, h1, h2, h3, (h4.in_.kp hk fun b hb e => by have := hS b e; omega).mono fun b hb => hb.1⟩
theorem old (h : MadeI w0 gm n ts wr) (hb : Below wr.heap.size wr w2) : MadeI w0 gm n ts w2 :=
  h.kp (S := fun _ => False) (Kp.of_below hb) (fun _ e => e.elim)
theorem four (h : MadeI w0 gm n ts wr) {k : Nat} (hk : k < n) : (∃ v0, wr.cell? ⟨gm, k * 4, none⟩ = some v0) ∧ (∃ v1, wr.cell? ⟨gm, k * 4 + 1, none⟩ = some v1) ∧ (∃ v2, wr.cell? ⟨gm, k * 4 + 2, none⟩ = some v2) ∧ (∃ v3, wr.cell? ⟨gm, k * 4 + 3, none⟩ = some v3) ∧ ∀ j, wr.frozen? ⟨gm, j, none⟩ = false := by
  obtain ⟨cur, hg, hs, _⟩ := h.row
  have hlt : k * 4 + 4 ≤ cur.size := by
    have : (k + 1) * 4 ≤ n * 4 := Nat.mul_le_mul_right _ hk
    omega
  refine ⟨⟨_, (heap_cell hg).trans (Array.getElem?_eq_getElem (by omega))⟩, ⟨_, (heap_cell hg).trans (Array.getElem?_eq_getElem (by omega))⟩, ⟨_, (heap_cell hg).trans (Array.getElem?_eq_getElem (by omega))⟩, ⟨_, (heap_cell hg).trans (Array.getElem?_eq_getElem (by omega))⟩, fun j => heap_frozen hg⟩
theorem set (h : MadeI w0 gm n ts wr) {k : Nat} (hk : k = ts.length) (hkn : k < n) {t : St.T} {A : Option Addr} {C : Nat} (hr : RdB wr A t.blocks (w0.heap.size ≤ ·)) :
    MadeI w0 gm n (ts ++ [t]) ((((wr.setCell ⟨gm, k * 4, none⟩ (.int .i64 t.label)).setCell ⟨gm, k * 4 + 1, none⟩ (.int .i64 t.cap)).setCell ⟨gm, k * 4 + 2, none⟩ (.slice A t.blocks.length C)).setCell ⟨gm, k * 4 + 3, none⟩ (.bool t.lost)) := by
  obtain ⟨cur, hg, hs, hrows⟩ := h.row
  have hkp : Kp (· = gm) wr ((((wr.setCell ⟨gm, k * 4, none⟩ (.int .i64 t.label)).setCell ⟨gm, k * 4 + 1, none⟩ (.int .i64 t.cap)).setCell ⟨gm, k * 4 + 2, none⟩ (.slice A t.blocks.length C)).setCell ⟨gm, k * 4 + 3, none⟩ (.bool t.lost)) :=
    (((Kp.store _ _ _ _).trans (Kp.store _ _ _ _)).trans (Kp.store _ _ _ _)).trans (Kp.store _ _ _ _)
  have hne : ∀ b, w0.heap.size ≤ b → ¬ b = gm := fun b hb e => by have := h.lt; omega
  have hlt : k * 4 + 4 ≤ cur.size := by
    have : (k + 1) * 4 ≤ n * 4 := Nat.mul_le_mul_right _ hkn
    omega
  refine ⟨⟨_, heap_set (heap_set (heap_set (heap_set hg _) _) _) _, by simpa using hs, fun i hi => ?_⟩, h.lt⟩
  rw [List.length_append, List.length_singleton] at hi
  simp only [Array.getElem?_setIfInBounds, Array.size_setIfInBounds]
  by_cases e : i = k
  · have e' : (ts ++ [t])[i]'(by rw [List.length_append, List.length_singleton]; exact hi) = t := by simp [e, hk]
    rw [e']
    refine ⟨A, C, ?_, ?_, ?_, ?_, hr.kp hkp hne⟩
    · rw [e]; simp (disch := omega); omega
    · rw [e]; simp (disch := omega); omega
    · rw [e]; simp (disch := omega); omega
    · rw [e]; simp (disch := omega); omega
  · have hi' : i < ts.length := by omega
    obtain ⟨A', C', h0, h1, h2, h3, h4⟩ := hrows i hi'
    rw [List.getElem_append_left hi']
    refine ⟨A', C', ?_, ?_, ?_, ?_, h4.kp hkp hne⟩
    · rw [if_neg (by omega), if_neg (by omega), if_neg (by omega), if_neg (by omega)]; exact h0
    · rw [if_neg (by omega), if_neg (by omega), if_neg (by omega), if_neg (by omega)]; exact h1
    · rw [if_neg (by omega), if_neg (by omega), if_neg (by omega), if_neg (by omega)]; exact h2
    · rw [if_neg (by omega), if_neg (by omega), if_neg (by omega), if_neg (by omega)]; exact h3
theorem rdT (h : MadeI w0 gm n ts wr) {B : Nat} (hg : B ≤ gm) : RdT wr (some ⟨gm, 0, none⟩) ts (B ≤ ·) := fun _ => by
  obtain ⟨cur, hb, hs, hr⟩ := h.row
  refine ⟨gm, 0, rfl, hg, fun i hi => ?_⟩
  obtain ⟨A', C', h0, h1, h2, h3, h4⟩ := hr i hi
  simp only [Nat.zero_add, heap_cell hb]
  exact ⟨A', C', h0, h1, h2, h3, h4.mono fun b hb => by have := h.lt; omega⟩
end MadeI
/-- parity tapes are answered, in new memory; or why none -/
def MakeA (data blank : List St.T) (number : Int) (w : World) (e : Ending) (w' : World) : Prop :=
  if Gr.mkE data blank number = 0 then ∃ A C, e = .returned (.tuple #[.slice A blank.length C, .int .i64 0]) ∧ blank.length ≤ C ∧ C ≤ maxLen ∧ (A = none → blank.length = 0 ∧ C = 0) ∧ RdT w' A (Gr.made data blank number) (w.heap.size ≤ ·) ∧ Below w.heap.size w w'
  else e = .returned (.tuple #[.slice none 0 0, .int .i64 (Gr.mkE data blank number)]) ∧ Below w.heap.size w w'
end Go.Proofs.Ytmfikihcoafekaa
namespace Go.Proofs.Ytmfikihcoafekaa
open Go.RowKit
open Pt (Tx)

/-- a tape's four cells -/
structure Tv where
  label : Int
  cap : Int
  A : Option Addr
  n : Nat
  C : Nat
  lost : Bool
def encT : Enc Tv where
  k := 4
  pos := by decide
  enc t := [.int .i64 t.label, .int .i64 t.cap, .slice t.A t.n t.C, .bool t.lost]
  len _ := rfl
  one t u hu := by
    simp only [List.mem_cons, List.not_mem_nil, or_false] at hu
    rcases hu with rfl | rfl | rfl | rfl <;> rfl
theorem infoTape : (Try.prog.info? 32).map (fun i => (i.zero, i.size, i.bytes)) = some (some (.agg #[.int .i64 0, .int .i64 0, .slice none 0 0, .bool false]), 4, 48) := by kernel_rfl
/-- the value that is handed on -/
def Tv.val (t : Tv) : Value := .agg #[.int .i64 t.label, .int .i64 t.cap, .slice t.A t.n t.C, .bool t.lost]
/-- a row of such cells and what they point to read as tapes -/
theorem RdT.of_rows {w : World} {A : Option Addr} {tvs : List Tv} {ts : List St.T} {G : Nat → Prop} (h : encT.Rd w A tvs G) (hl : tvs.length = ts.length)
    (hb : ∀ i (hi : i < tvs.length) (hi' : i < ts.length), tvs[i].label = ts[i].label ∧ tvs[i].cap = ts[i].cap ∧ tvs[i].n = ts[i].blocks.length ∧ tvs[i].lost = ts[i].lost ∧ RdB w tvs[i].A ts[i].blocks G) : RdT w A ts G := by
  intro hn
  obtain ⟨b, off, e, hg, hc⟩ := h (by omega)
  refine ⟨b, off, e, hg, fun i hi => ?_⟩
  have hi' : i < tvs.length := by omega
  obtain ⟨h1, h2, h3, h4, h5⟩ := hb i hi' hi
  refine ⟨tvs[i].A, tvs[i].C, ?_, ?_, ?_, ?_, h5⟩
  · rw [← h1]; exact hc i hi' 0 _ rfl
  · rw [← h2]; exact hc i hi' 1 _ rfl
  · rw [← h3]; exact hc i hi' 2 _ rfl
  · rw [← h4]; exact hc i hi' 3 _ rfl
/-- and the other way round -/
theorem RdT.rows {w : World} {A : Option Addr} {ts : List St.T} {G : Nat → Prop} (h : RdT w A ts G) : ∃ tvs : List Tv, tvs.length = ts.length ∧ encT.Rd w A tvs G
    ∧ ∀ i (hi : i < tvs.length) (hi' : i < ts.length), tvs[i].label = ts[i].label ∧ tvs[i].cap = ts[i].cap ∧ tvs[i].n = ts[i].blocks.length ∧ tvs[i].lost = ts[i].lost ∧ RdB w tvs[i].A ts[i].blocks G := by
  rcases Nat.eq_zero_or_pos ts.length with h0 | h0
  · exact ⟨[], by rw [h0]; rfl, Enc.Rd.nil _ _ _, fun i hi => absurd hi (by simp)⟩
  · obtain ⟨b, off, e, hg, hc⟩ := h h0
    have key : ∀ i, ∃ q : Option Addr × Nat, ∀ hi : i < ts.length, w.cell? ⟨b, off + i * 4 + 2, none⟩ = some (.slice q.1 ts[i].blocks.length q.2) ∧ RdB w q.1 ts[i].blocks G := fun i => by
      by_cases hi : i < ts.length
      · obtain ⟨A', C', _, _, h2, _, h4⟩ := hc i hi
        exact ⟨(A', C'), fun _ => ⟨h2, h4⟩⟩
      · exact ⟨(none, 0), fun h => absurd h hi⟩
    refine ⟨(List.range ts.length).map fun i => ⟨(ts.getD i ⟨0, 0, [], false⟩).label, (ts.getD i ⟨0, 0, [], false⟩).cap, (key i).choose.1, (ts.getD i ⟨0, 0, [], false⟩).blocks.length, (key i).choose.2, (ts.getD i ⟨0, 0, [], false⟩).lost⟩, by simp, fun _ => ⟨b, off, e, hg, fun i hi j u hu => ?_⟩, fun i hi hi' => ?_⟩
    · have hi' : i < ts.length := by simpa using hi
      obtain ⟨k1, k2⟩ := (key i).choose_spec hi'
      obtain ⟨A', C', g0, g1, _, g3, _⟩ := hc i hi'
      have ht : ts.getD i ⟨0, 0, [], false⟩ = ts[i] := by rw [List.getD_eq_getElem?_getD, List.getElem?_eq_getElem hi']; rfl
      simp only [List.getElem_map, List.getElem_range, ht] at hu
      match j, hu with
      | 0, hu => cases hu; exact g0
      | 1, hu => cases hu; exact g1
      | 2, hu => cases hu; exact k1
      | 3, hu => cases hu; exact g3
    · obtain ⟨k1, k2⟩ := (key i).choose_spec hi'
      have ht : ts.getD i ⟨0, 0, [], false⟩ = ts[i] := by rw [List.getD_eq_getElem?_getD, List.getElem?_eq_getElem hi']; rfl
      simp only [List.getElem_map, List.getElem_range, ht]
      exact ⟨trivial, trivial, trivial, trivial, k2⟩
end Go.Proofs.Ytmfikihcoafekaa
namespace Go.Proofs.Ytmfikihcoafekaa
open Go.RowKit
open Pt (Tx)

/-- an empty row of the call's own, with room -/
def RowT (l : List Tv) (w : World) (e : Ending) (w' : World) : Prop := ∃ v, e = .returned v ∧ encT.Own w' w.heap.size 32 v l ∧ Below w.heap.size w w'
set_option maxHeartbeats 1000000 in
theorem grow_any (n : Nat) (hn : n ≤ 1000000) (w : World) : Calls Try.prog 41 #[.slice none 0 0, .int .i64 (n : Int)] w (RowT [] w) := by
  have s1 : IntKind.i64.wrap ((n : Int) - 0) = (n : Int) := by rw [IntWalk.i64_in _ (by omega)]; omega
  have e0 : decide ((n : Int) < 0) = false := decide_eq_false (by omega)
  by_cases h0 : n = 0
  · subst h0
    go_enter Try.func41, Try.ntmps41
    go_wp2
    go_ret
    exact ⟨_, rfl, Enc.Own.nil _ _ _, Below.refl _ _⟩
  · have e1 : decide ((0 : Int) < (n : Int)) = true := decide_eq_true (by omega)
    have e2 : decide (0 < n) = true := decide_eq_true (by omega)
    obtain ⟨i0, hi, hz0, hz1, hz2⟩ := info_parts infoTape
    have hold : (Builtin.firstCells i0.size 0 (.slice none 0 0)).run Try.prog w.drew = .ok ([] : List Value).toArray w.drew := by
      rw [hz1]; simp [Builtin.firstCells]
    have hrun : ∀ ty, ∃ cs : Array Value, (Builtin.append_ #[29, 3] ty #[.slice none 0 0, .int .i64 (n : Int)]).run Try.prog w = .ok (.slice (some ⟨w.heap.size, 0, none⟩) n (grownCap w n 0 32)) (w.drew.alloc (.cells cs 32)) ∧ cs.size = grownCap w n 0 32 * 4 := fun ty => by
      have h := Lib.run_append_grow_zeros (P := Try.prog) w 29 3 ty 32 i0 _ .i64 .i64 Try.underlying29 Try.underlying3 hi hz0 none 0 0 [] hold n (by omega) (by rw [hz1]; decide) (by omega) (by omega) (by rw [hz2]; omega) (growslice_fits (by omega) (by rw [hz2]; omega))
      rw [Nat.zero_add] at h
      refine ⟨_, h, ?_⟩
      have hge := grownCap_ge w n 0 32
      simp [Builtin.zeroCells, Value.cells]
      omega
    obtain ⟨cs, hr, hcs⟩ := hrun 29
    have hcm := grownCap_le_maxLen w n 0 32 (by unfold maxLen; omega)
    have hge := grownCap_ge w n 0 32
    obtain ⟨K, hK⟩ : ∃ K, K = grownCap w n 0 32 := ⟨_, rfl⟩
    rw [← hK] at hr hcs hcm hge
    have HO : Hid (encT.Own (w.drew.alloc (.cells cs 32)) w.heap.size 32 (.slice (some ⟨w.heap.size, 0, none⟩) 0 K) []) := Lib.hid ⟨rfl, .inr ⟨w.heap.size, K, cs, rfl, Nat.le_refl _, Go.Deep.blk_alloc_new w.drew _, Nat.zero_le _, hcm, hcs, by rw [List.length_nil, Nat.zero_mul]; rfl⟩⟩
    have HB : Hid (Below w.heap.size w (w.drew.alloc (.cells cs 32))) := Lib.hid (((Below.refl _ w).drew).alloc (Nat.le_refl _) _)
    clear hrun hold hK hcs hcm
    go_enter Try.func41, Try.ntmps41
    go_wp2_with (at_builtin; refine Lib.wpList_append_run _ rfl _ _ _ _ rfl _ _ rfl rfl _ _ hr ?_)
    go_wp2
    go_ret
    exact ⟨_, rfl, HO.out, HB.out⟩
set_option maxHeartbeats 4000000 in
theorem concat_any (b off : Nat) (A1 : Option Addr) (n1 C1 : Nat) (A2 : Option Addr) (n2 C2 : Nat) (t1 t2 : List Tv) (G : Nat → Prop) (w : World) (h1 : w.cell? ⟨b, off, none⟩ = some (.slice A1 n1 C1)) (h2 : w.cell? ⟨b, off + 1, none⟩ = some (.slice A2 n2 C2)) (hn1 : n1 = t1.length) (hn2 : n2 = t2.length) (hm1 : n1 ≤ 1000) (hm2 : n2 ≤ 1000)
    (hA1 : A1 = none → n1 = 0 ∧ C1 = 0) (hA2 : A2 = none → n2 = 0 ∧ C2 = 0) (hr1 : encT.Rd w A1 t1 G) (hr2 : encT.Rd w A2 t2 G) :
    Calls Try.prog 24 #[.slice (some ⟨b, off, none⟩) 2 2] w (RowT (t1 ++ t2) w) := by
  have HR1 := Lib.hid hr1
  have HR2 := Lib.hid hr2
  have HN1 := Lib.hid hn1
  have HN2 := Lib.hid hn2
  have HC1 := Lib.hid h1
  have HC2 := Lib.hid h2
  clear hr1 hr2 hn1 hn2
  go_enter Try.func24, Try.ntmps24
  go_wp2
  go_loopw [11, 3] (fun vi vs wr => ((vi = .int .i64 0 ∧ vs = .int .i64 0) ∨ (vi = .int .i64 1 ∧ vs = .int .i64 (n1 : Int)) ∨ (vi = .int .i64 2 ∧ vs = .int .i64 ((n1 : Int) + (n2 : Int)))) ∧ Hid (wr = w)) (fun vi _ _ => 2 - (intOf vi).toNat)
  case atStart => exact ⟨.inl ⟨rfl, rfl⟩, Lib.hid rfl⟩
  case round =>
    obtain ⟨hq, HW⟩ := hrel
    have c1 : wr.cell? ⟨b, off, none⟩ = some (.slice A1 n1 C1) := by rw [HW.out]; exact HC1.out
    have c2 : wr.cell? ⟨b, off + 1, none⟩ = some (.slice A2 n2 C2) := by rw [HW.out]; exact HC2.out
    rcases hq with ⟨rfl, rfl⟩ | ⟨rfl, rfl⟩ | ⟨rfl, rfl⟩
    · have s1 : IntKind.i64.wrap ((0 : Int) + (n1 : Int)) = (n1 : Int) := by rw [IntWalk.i64_in _ (by omega)]; omega
      have e1 : decide ((n1 : Int) < 0) = false := decide_eq_false (by omega)
      go_wp2
      go_roundw
      case rel => exact ⟨.inr (.inl ⟨rfl, rfl⟩), HW⟩
      case measure => simp [intOf]
    · have s1 : IntKind.i64.wrap ((n1 : Int) + (n2 : Int)) = (n1 : Int) + (n2 : Int) := IntWalk.i64_in _ (by omega)
      have e1 : decide ((n1 : Int) + (n2 : Int) < 0) = false := decide_eq_false (by omega)
      go_wp2
      go_roundw
      case rel => exact ⟨.inr (.inr ⟨rfl, rfl⟩), HW⟩
      case measure => simp [intOf]
    · have hg := grow_any (n1 + n2) (by omega) wr
      rw [show ((n1 + n2 : Nat) : Int) = (n1 : Int) + (n2 : Int) by omega] at hg
      have HG := Lib.hid hg
      clear hg c1 c2
      go_wp2_with fail
      refine HG.out.mono ?_
      rintro e w1 ⟨v1, rfl, ho1, hb1⟩
      have HO1 := Lib.hid (by rw [HW.out] at ho1; exact ho1 : encT.Own w1 w.heap.size 32 v1 [])
      have HB1 := Lib.hid (by rw [HW.out] at hb1; exact hb1 : Below w.heap.size w w1)
      clear ho1 hb1 HG HW
      go_wp2
      go_loopw [27, 6] (fun vi v wr => ((vi = .int .i64 0 ∧ Hid (encT.Own wr w.heap.size 32 v [])) ∨ (vi = .int .i64 1 ∧ Hid (encT.Own wr w.heap.size 32 v t1)) ∨ (vi = .int .i64 2 ∧ Hid (encT.Own wr w.heap.size 32 v (t1 ++ t2)))) ∧ Hid (Below w.heap.size w wr)) (fun vi _ _ => 2 - (intOf vi).toNat)
      case atStart => exact ⟨.inl ⟨rfl, HO1⟩, HB1⟩
      case round =>
        obtain ⟨hq, HB⟩ := hrel
        have c1 : wr.cell? ⟨b, off, none⟩ = some (.slice A1 n1 C1) := (HB.out.cell (World.block_lt_of_cell? _ _ HC1.out)).trans HC1.out
        have c2 : wr.cell? ⟨b, off + 1, none⟩ = some (.slice A2 n2 C2) := (HB.out.cell (World.block_lt_of_cell? _ _ HC2.out)).trans HC2.out
        rcases hq with ⟨rfl, HO⟩ | ⟨rfl, HO⟩ | ⟨rfl, HO⟩
        · go_wp2_with (at_builtin; refine wpList_append_optS encT _ rfl _ _ _ rfl w.heap.size 32 _ 48 Try.underlying29 infoTape rfl _ [] rfl HO.out A1 n1 C1 t1 rfl hA1 HN1.out (fun ad e => by subst e; exact (HR1.out.old HB.out).news) (by unfold maxLen; simp; omega) (by simp; omega) HB.out.size ?_; intro v' w3 hO3 hg3; have HO3 := Lib.hid hO3; have HB3 := Lib.hid (HB.out.grown hg3 HB.out.size (fun k hk => (HO.out.lt k hk).1)); clear hO3 hg3)
          go_wp2
          go_roundw
          case rel => exact ⟨.inr (.inl ⟨rfl, HO3⟩), HB3⟩
          case measure => simp [intOf]
        · go_wp2_with (at_builtin; refine wpList_append_optS encT _ rfl _ _ _ rfl w.heap.size 32 _ 48 Try.underlying29 infoTape rfl _ t1 rfl HO.out A2 n2 C2 t2 rfl hA2 HN2.out (fun ad e => by subst e; exact (HR2.out.old HB.out).news) (by have := HN1.out; unfold maxLen; omega) (by have := HN1.out; omega) HB.out.size ?_; intro v' w3 hO3 hg3; have HO3 := Lib.hid hO3; have HB3 := Lib.hid (HB.out.grown hg3 HB.out.size (fun k hk => (HO.out.lt k hk).1)); clear hO3 hg3)
          go_wp2
          go_roundw
          case rel => exact ⟨.inr (.inr ⟨rfl, HO3⟩), HB3⟩
          case measure => simp [intOf]
        · go_wp2
          go_ret
          exact ⟨_, rfl, HO.out, HB.out⟩
end Go.Proofs.Ytmfikihcoafekaa
