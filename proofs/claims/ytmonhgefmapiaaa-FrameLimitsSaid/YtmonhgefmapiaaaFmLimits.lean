/- What FrameLimits answers: true. -/
import Derived.Test.YtmonhgefmapiaaaFmAlive
import Derived.Deep.DeepCutAuto
import Derived.BigRegion
import Derived.Deep.RegionWith
namespace Go.Proofs.Ytmonhgefmapiaaa
open Go.RowKit
open Pt (Tx)

theorem limits_no (which : Int) (over : Bool) (w : World) (h : which < 0 ∨ 5 < which) :
    Calls Try.prog 5 #[.int .i64 which, .bool over] w (AnsB9 true w) := by
  have hq : (decide (which < 0) = true) ∨ (decide (which < 0) = false ∧ decide (5 < which) = true) := by
    simp only [decide_eq_true_eq, decide_eq_false_iff_not]; omega
  clear h
  rcases hq with q1 | ⟨q1, q2⟩
  all_goals
    go_enter Try.func5, Try.ntmps5
    go_wp2_with fail
    refine (alive9_true w).mono ?_
    rintro e w1 ⟨rfl, hb1⟩
    have HB1 := Lib.hid hb1
    clear hb1
    go_wp2
    go_ret
    exact ⟨rfl, HB1.out⟩
theorem zeros_rd9 (w : World) (k : Nat) : RdL (w.alloc (.cells (madeCells #[.int .u8 0] k) 5)) (some ⟨w.heap.size, 0, none⟩) (List.replicate k 0) (fun _ => True) :=
  (RdL.of_cells (Go.Deep.blk_alloc_new _ _) fun j hj => by
    rw [Nat.zero_add]
    simp at hj
    simp [madeCells, hj, Nat.mod_one]).mono fun _ _ => trivial
/-- two rows of bytes 0, and the six units behind them -/
theorem lim_world (w : World) (a b : Nat) (c : Array Value) (wx : World) (hw : wx = (((w.alloc (.cells (madeCells #[.int .u8 0] a) 5)).alloc (.cells (madeCells #[.int .u8 0] b) 5)).alloc (.cells c 24)).drew) :
    wx.heap[w.heap.size + 1 + 1]? = some (.cells c 24 (0, 0)) ∧ RdL wx (some ⟨w.heap.size, 0, none⟩) (List.replicate a 0) (fun _ => True) ∧ RdL wx (some ⟨w.heap.size + 1, 0, none⟩) (List.replicate b 0) (fun _ => True) ∧ Below w.heap.size w wx := by
  have h1 := zeros_rd9 w a
  have h2 := zeros_rd9 (w.alloc (.cells (madeCells #[.int .u8 0] a) 5)) b
  have b2 : Below (w.alloc (.cells (madeCells #[.int .u8 0] a) 5)).heap.size (w.alloc (.cells (madeCells #[.int .u8 0] a) 5)) wx := by rw [hw]; exact (((Below.refl _ _).alloc (Nat.le_refl _) _).alloc (by simp) _).drew
  have b3 : Below ((w.alloc (.cells (madeCells #[.int .u8 0] a) 5)).alloc (.cells (madeCells #[.int .u8 0] b) 5)).heap.size ((w.alloc (.cells (madeCells #[.int .u8 0] a) 5)).alloc (.cells (madeCells #[.int .u8 0] b) 5)) wx := by rw [hw]; exact ((Below.refl _ _).alloc (Nat.le_refl _) _).drew
  refine ⟨?_, h1.old b2, ?_, ?_⟩
  · have := Go.Deep.blk_alloc_new ((w.alloc (.cells (madeCells #[.int .u8 0] a) 5)).alloc (.cells (madeCells #[.int .u8 0] b) 5)) (.cells c 24)
    rw [show ((w.alloc (.cells (madeCells #[.int .u8 0] a) 5)).alloc (.cells (madeCells #[.int .u8 0] b) 5)).heap.size = w.heap.size + 1 + 1 by simp] at this
    rw [hw]; exact this
  · have := h2.old b3
    simpa using this
  · rw [hw]; exact ((((Below.refl _ _).alloc (Nat.le_refl _) _).alloc (by simp) _).alloc (by simp; omega) _).drew
set_option maxRecDepth 100000 in
set_option maxHeartbeats 8000000 in
theorem limits_false (which : Int) (w : World) (h0 : 0 ≤ which) (h5 : which ≤ 5) :
    Calls Try.prog 5 #[.int .i64 which, .bool false] w (AnsB9 true w) := by
  have q1 : decide (which < 0) = false := decide_eq_false (by omega)
  have q2 : decide (5 < which) = false := decide_eq_false (by omega)
  have hmk4 : ∀ wx : World, (Instr.makeSlice 22 (.int .i64 64) (.int .i64 64)).run Try.prog wx = .ok (.slice (some ⟨wx.heap.size, 0, none⟩) 64 64) (wx.alloc (.cells (madeCells #[.int .u8 0] 64) 5)) := fun wx => run_make_row' (P := Try.prog) 22 5 (.int .u8 0) 1 Try.underlying22 infoB rfl .i64 .i64 64 (by omega) (by omega) wx
  have hmk5 : ∀ wx : World, (Instr.makeSlice 22 (.int .i64 79) (.int .i64 79)).run Try.prog wx = .ok (.slice (some ⟨wx.heap.size, 0, none⟩) 79 79) (wx.alloc (.cells (madeCells #[.int .u8 0] 79) 5)) := fun wx => run_make_row' (P := Try.prog) 22 5 (.int .u8 0) 1 Try.underlying22 infoB rfl .i64 .i64 79 (by omega) (by omega) wx
  have hw0 : IntKind.i64.wrap 1 = 1 := by decide
  have hw1 : IntKind.i64.wrap 6 = 6 := by decide
  have hw2 : IntKind.i64.wrap 64 = 64 := by decide
  have hw3 : IntKind.i64.wrap 79 = 79 := by decide
  have hw4 : IntKind.i64.wrap 2147483647 = 2147483647 := by decide
  go_enter Try.func5, Try.ntmps5
  go_wp2_with fail
  refine (alive9_true w).mono ?_
  rintro e w1 ⟨rfl, hb1⟩
  have HB1 := Lib.hid hb1
  clear hb1
  go_wp2_with fail
  go_cut [7] (fun v wx => ∃ g g4 g5 : Nat, v = .slice (some ⟨g, 0, none⟩) 6 6 ∧ Hid (wx.heap[g]? = some (.cells #[.int .i64 6, .int .i64 1, .int .i64 0, .slice none 0 0, .int .i64 1, .int .i64 1, .int .i64 0, .slice none 0 0, .int .i64 1, .int .i64 2147483647, .int .i64 0, .slice none 0 0, .int .i64 1, .int .i64 1, .int .i64 2147483647, .slice none 0 0, .int .i64 3, .int .i64 1, .int .i64 0, .slice (some ⟨g4, 0, none⟩) 64 64, .int .i64 6, .int .i64 1, .int .i64 0, .slice (some ⟨g5, 0, none⟩) 79 79] 24 (0, 0))) ∧ Hid (RdL wx (some ⟨g4, 0, none⟩) (List.replicate 64 0) (fun _ => True)) ∧ Hid (RdL wx (some ⟨g5, 0, none⟩) (List.replicate 79 0) (fun _ => True)) ∧ Hid (Below w1.heap.size w1 wx))
  case first =>
    go_region_held3 (fun _ => True) (exact trivial) (fail)
    · go_wp2
      go_meet
      obtain ⟨f1, f2, f3, f4⟩ := lim_world w1 64 79 #[.int .i64 6, .int .i64 1, .int .i64 0, .slice none 0 0, .int .i64 1, .int .i64 1, .int .i64 0, .slice none 0 0, .int .i64 1, .int .i64 2147483647, .int .i64 0, .slice none 0 0, .int .i64 1, .int .i64 1, .int .i64 2147483647, .slice none 0 0, .int .i64 3, .int .i64 1, .int .i64 0, .slice (some ⟨w1.heap.size, 0, none⟩) 64 64, .int .i64 6, .int .i64 1, .int .i64 0, .slice (some ⟨w1.heap.size + 1, 0, none⟩) 79 79] _ rfl
      exact ⟨w1.heap.size + 1 + 1, w1.heap.size, w1.heap.size + 1, rfl, Lib.hid f1, Lib.hid f2, Lib.hid f3, Lib.hid f4⟩
    · go_wp2
      go_meet
      obtain ⟨f1, f2, f3, f4⟩ := lim_world w1 79 64 #[.int .i64 6, .int .i64 1, .int .i64 0, .slice none 0 0, .int .i64 1, .int .i64 1, .int .i64 0, .slice none 0 0, .int .i64 1, .int .i64 2147483647, .int .i64 0, .slice none 0 0, .int .i64 1, .int .i64 1, .int .i64 2147483647, .slice none 0 0, .int .i64 3, .int .i64 1, .int .i64 0, .slice (some ⟨w1.heap.size + 1, 0, none⟩) 64 64, .int .i64 6, .int .i64 1, .int .i64 0, .slice (some ⟨w1.heap.size, 0, none⟩) 79 79] _ rfl
      exact ⟨w1.heap.size + 1 + 1, w1.heap.size + 1, w1.heap.size, rfl, Lib.hid f1, Lib.hid f3, Lib.hid f2, Lib.hid f4⟩
  case rest =>
  obtain ⟨g, g4, g5, rfl, HL, H4, H5, HB⟩ := hcut
  have HB2 := Lib.hid (HB1.out.trans (HB.out.mono HB1.out.size))
  have hq : which = 0 ∨ which = 1 ∨ which = 2 ∨ which = 3 ∨ which = 4 ∨ which = 5 := by omega
  clear h0 h5 q1 q2 HB hmk4 hmk5
  rcases hq with rfl | rfl | rfl | rfl | rfl | rfl
  · have c0 : wc.cell? ⟨g, 0, none⟩ = some (.int .i64 6) := heap_cell HL.out
    have c1 : wc.cell? ⟨g, 1, none⟩ = some (.int .i64 1) := heap_cell HL.out
    have c2 : wc.cell? ⟨g, 2, none⟩ = some (.int .i64 0) := heap_cell HL.out
    have c3 : wc.cell? ⟨g, 3, none⟩ = some (.slice none 0 0) := heap_cell HL.out
    go_wp2_with fail
    refine (framePut_any 6 1 0 none [] 0 0 _ wc (by simp) (fun _ => ⟨rfl, rfl⟩) (RdL.empty _ _ (fun _ => True))).mono ?_
    rintro e w2 ⟨A2, n2, C2, rfl, hn2, -, -, -, -, hb2⟩
    have HB3 := Lib.hid (HB2.out.trans (hb2.mono HB2.out.size))
    have d0 : w2.cell? ⟨g, 0, none⟩ = some (.int .i64 6) := (hb2.cell (p := ⟨g, 0, none⟩) (heap_lt HL.out)).trans c0
    have hok : Fm.Ok ⟨6, 1, 0, []⟩ := ⟨by unfold Fm.argOk; decide, by simp [Fm.room]⟩
    rw [Fm.put_ok hok, Fm.blk_len hok, show 15 + Fm.room 6 = 94 from rfl] at hn2
    subst hn2
    rw [Fm.err_ok hok]
    clear hb2 hok c0 c1 c2 c3
    go_wp2_with (go_at_call 12; refine (num9 _ _).mono ?_; rintro e w' ⟨rfl, hw'⟩; subst hw')
    go_ret
    exact ⟨rfl, HB3.out⟩
  · have c0 : wc.cell? ⟨g, 4, none⟩ = some (.int .i64 1) := heap_cell HL.out
    have c1 : wc.cell? ⟨g, 5, none⟩ = some (.int .i64 1) := heap_cell HL.out
    have c2 : wc.cell? ⟨g, 6, none⟩ = some (.int .i64 0) := heap_cell HL.out
    have c3 : wc.cell? ⟨g, 7, none⟩ = some (.slice none 0 0) := heap_cell HL.out
    go_wp2_with fail
    refine (framePut_any 1 1 0 none [] 0 0 _ wc (by simp) (fun _ => ⟨rfl, rfl⟩) (RdL.empty _ _ (fun _ => True))).mono ?_
    rintro e w2 ⟨A2, n2, C2, rfl, hn2, -, -, -, -, hb2⟩
    have HB3 := Lib.hid (HB2.out.trans (hb2.mono HB2.out.size))
    have d0 : w2.cell? ⟨g, 4, none⟩ = some (.int .i64 1) := (hb2.cell (p := ⟨g, 4, none⟩) (heap_lt HL.out)).trans c0
    have hok : Fm.Ok ⟨1, 1, 0, []⟩ := ⟨by unfold Fm.argOk; decide, by simp [Fm.room]⟩
    rw [Fm.put_ok hok, Fm.blk_len hok, show 15 + Fm.room 1 = 79 from rfl] at hn2
    subst hn2
    rw [Fm.err_ok hok]
    clear hb2 hok c0 c1 c2 c3
    go_wp2_with (go_at_call 12; refine (num9 _ _).mono ?_; rintro e w' ⟨rfl, hw'⟩; subst hw')
    go_ret
    exact ⟨rfl, HB3.out⟩
  · have c0 : wc.cell? ⟨g, 8, none⟩ = some (.int .i64 1) := heap_cell HL.out
    have c1 : wc.cell? ⟨g, 9, none⟩ = some (.int .i64 2147483647) := heap_cell HL.out
    have c2 : wc.cell? ⟨g, 10, none⟩ = some (.int .i64 0) := heap_cell HL.out
    have c3 : wc.cell? ⟨g, 11, none⟩ = some (.slice none 0 0) := heap_cell HL.out
    go_wp2_with fail
    refine (framePut_any 1 2147483647 0 none [] 0 0 _ wc (by simp) (fun _ => ⟨rfl, rfl⟩) (RdL.empty _ _ (fun _ => True))).mono ?_
    rintro e w2 ⟨A2, n2, C2, rfl, hn2, -, -, -, -, hb2⟩
    have HB3 := Lib.hid (HB2.out.trans (hb2.mono HB2.out.size))
    have d0 : w2.cell? ⟨g, 8, none⟩ = some (.int .i64 1) := (hb2.cell (p := ⟨g, 8, none⟩) (heap_lt HL.out)).trans c0
    have hok : Fm.Ok ⟨1, 2147483647, 0, []⟩ := ⟨by unfold Fm.argOk; decide, by simp [Fm.room]⟩
    rw [Fm.put_ok hok, Fm.blk_len hok, show 15 + Fm.room 1 = 79 from rfl] at hn2
    subst hn2
    rw [Fm.err_ok hok]
    clear hb2 hok c0 c1 c2 c3
    go_wp2_with (go_at_call 12; refine (num9 _ _).mono ?_; rintro e w' ⟨rfl, hw'⟩; subst hw')
    go_ret
    exact ⟨rfl, HB3.out⟩
  · have c0 : wc.cell? ⟨g, 12, none⟩ = some (.int .i64 1) := heap_cell HL.out
    have c1 : wc.cell? ⟨g, 13, none⟩ = some (.int .i64 1) := heap_cell HL.out
    have c2 : wc.cell? ⟨g, 14, none⟩ = some (.int .i64 2147483647) := heap_cell HL.out
    have c3 : wc.cell? ⟨g, 15, none⟩ = some (.slice none 0 0) := heap_cell HL.out
    go_wp2_with fail
    refine (framePut_any 1 1 2147483647 none [] 0 0 _ wc (by simp) (fun _ => ⟨rfl, rfl⟩) (RdL.empty _ _ (fun _ => True))).mono ?_
    rintro e w2 ⟨A2, n2, C2, rfl, hn2, -, -, -, -, hb2⟩
    have HB3 := Lib.hid (HB2.out.trans (hb2.mono HB2.out.size))
    have d0 : w2.cell? ⟨g, 12, none⟩ = some (.int .i64 1) := (hb2.cell (p := ⟨g, 12, none⟩) (heap_lt HL.out)).trans c0
    have hok : Fm.Ok ⟨1, 1, 2147483647, []⟩ := ⟨by unfold Fm.argOk; decide, by simp [Fm.room]⟩
    rw [Fm.put_ok hok, Fm.blk_len hok, show 15 + Fm.room 1 = 79 from rfl] at hn2
    subst hn2
    rw [Fm.err_ok hok]
    clear hb2 hok c0 c1 c2 c3
    go_wp2_with (go_at_call 12; refine (num9 _ _).mono ?_; rintro e w' ⟨rfl, hw'⟩; subst hw')
    go_ret
    exact ⟨rfl, HB3.out⟩
  · have c0 : wc.cell? ⟨g, 16, none⟩ = some (.int .i64 3) := heap_cell HL.out
    have c1 : wc.cell? ⟨g, 17, none⟩ = some (.int .i64 1) := heap_cell HL.out
    have c2 : wc.cell? ⟨g, 18, none⟩ = some (.int .i64 0) := heap_cell HL.out
    have c3 : wc.cell? ⟨g, 19, none⟩ = some (.slice (some ⟨g4, 0, none⟩) 64 64) := heap_cell HL.out
    go_wp2_with fail
    refine (framePut_any 3 1 0 (some ⟨g4, 0, none⟩) (List.replicate 64 0) 64 64 _ wc (by simp) (fun h => by cases h) H4.out).mono ?_
    rintro e w2 ⟨A2, n2, C2, rfl, hn2, -, -, -, -, hb2⟩
    have HB3 := Lib.hid (HB2.out.trans (hb2.mono HB2.out.size))
    have d0 : w2.cell? ⟨g, 16, none⟩ = some (.int .i64 3) := (hb2.cell (p := ⟨g, 16, none⟩) (heap_lt HL.out)).trans c0
    have hok : Fm.Ok ⟨3, 1, 0, (List.replicate 64 0)⟩ := ⟨by unfold Fm.argOk; decide, by simp [Fm.room]⟩
    rw [Fm.put_ok hok, Fm.blk_len hok, show 15 + Fm.room 3 = 79 from rfl] at hn2
    subst hn2
    rw [Fm.err_ok hok]
    clear hb2 hok c0 c1 c2 c3
    go_wp2_with (go_at_call 12; refine (num9 _ _).mono ?_; rintro e w' ⟨rfl, hw'⟩; subst hw')
    go_ret
    exact ⟨rfl, HB3.out⟩
  · have c0 : wc.cell? ⟨g, 20, none⟩ = some (.int .i64 6) := heap_cell HL.out
    have c1 : wc.cell? ⟨g, 21, none⟩ = some (.int .i64 1) := heap_cell HL.out
    have c2 : wc.cell? ⟨g, 22, none⟩ = some (.int .i64 0) := heap_cell HL.out
    have c3 : wc.cell? ⟨g, 23, none⟩ = some (.slice (some ⟨g5, 0, none⟩) 79 79) := heap_cell HL.out
    go_wp2_with fail
    refine (framePut_any 6 1 0 (some ⟨g5, 0, none⟩) (List.replicate 79 0) 79 79 _ wc (by simp) (fun h => by cases h) H5.out).mono ?_
    rintro e w2 ⟨A2, n2, C2, rfl, hn2, -, -, -, -, hb2⟩
    have HB3 := Lib.hid (HB2.out.trans (hb2.mono HB2.out.size))
    have d0 : w2.cell? ⟨g, 20, none⟩ = some (.int .i64 6) := (hb2.cell (p := ⟨g, 20, none⟩) (heap_lt HL.out)).trans c0
    have hok : Fm.Ok ⟨6, 1, 0, (List.replicate 79 0)⟩ := ⟨by unfold Fm.argOk; decide, by simp [Fm.room]⟩
    rw [Fm.put_ok hok, Fm.blk_len hok, show 15 + Fm.room 6 = 94 from rfl] at hn2
    subst hn2
    rw [Fm.err_ok hok]
    clear hb2 hok c0 c1 c2 c3
    go_wp2_with (go_at_call 12; refine (num9 _ _).mono ?_; rintro e w' ⟨rfl, hw'⟩; subst hw')
    go_ret
    exact ⟨rfl, HB3.out⟩
set_option maxRecDepth 100000 in
set_option maxHeartbeats 8000000 in
theorem limits_true (which : Int) (w : World) (h0 : 0 ≤ which) (h5 : which ≤ 5) :
    Calls Try.prog 5 #[.int .i64 which, .bool true] w (AnsB9 true w) := by
  have q1 : decide (which < 0) = false := decide_eq_false (by omega)
  have q2 : decide (5 < which) = false := decide_eq_false (by omega)
  have hmk4 : ∀ wx : World, (Instr.makeSlice 22 (.int .i64 65) (.int .i64 65)).run Try.prog wx = .ok (.slice (some ⟨wx.heap.size, 0, none⟩) 65 65) (wx.alloc (.cells (madeCells #[.int .u8 0] 65) 5)) := fun wx => run_make_row' (P := Try.prog) 22 5 (.int .u8 0) 1 Try.underlying22 infoB rfl .i64 .i64 65 (by omega) (by omega) wx
  have hmk5 : ∀ wx : World, (Instr.makeSlice 22 (.int .i64 80) (.int .i64 80)).run Try.prog wx = .ok (.slice (some ⟨wx.heap.size, 0, none⟩) 80 80) (wx.alloc (.cells (madeCells #[.int .u8 0] 80) 5)) := fun wx => run_make_row' (P := Try.prog) 22 5 (.int .u8 0) 1 Try.underlying22 infoB rfl .i64 .i64 80 (by omega) (by omega) wx
  have hw0 : IntKind.i64.wrap 0 = 0 := by decide
  have hw1 : IntKind.i64.wrap 7 = 7 := by decide
  have hw2 : IntKind.i64.wrap 65 = 65 := by decide
  have hw3 : IntKind.i64.wrap 80 = 80 := by decide
  have hw4 : IntKind.i64.wrap 2147483648 = 2147483648 := by decide
  go_enter Try.func5, Try.ntmps5
  go_wp2_with fail
  refine (alive9_true w).mono ?_
  rintro e w1 ⟨rfl, hb1⟩
  have HB1 := Lib.hid hb1
  clear hb1
  go_wp2_with fail
  go_cut [7] (fun v wx => ∃ g g4 g5 : Nat, v = .slice (some ⟨g, 0, none⟩) 6 6 ∧ Hid (wx.heap[g]? = some (.cells #[.int .i64 7, .int .i64 1, .int .i64 0, .slice none 0 0, .int .i64 0, .int .i64 1, .int .i64 0, .slice none 0 0, .int .i64 1, .int .i64 2147483648, .int .i64 0, .slice none 0 0, .int .i64 1, .int .i64 1, .int .i64 2147483648, .slice none 0 0, .int .i64 3, .int .i64 1, .int .i64 0, .slice (some ⟨g4, 0, none⟩) 65 65, .int .i64 6, .int .i64 1, .int .i64 0, .slice (some ⟨g5, 0, none⟩) 80 80] 24 (0, 0))) ∧ Hid (RdL wx (some ⟨g4, 0, none⟩) (List.replicate 65 0) (fun _ => True)) ∧ Hid (RdL wx (some ⟨g5, 0, none⟩) (List.replicate 80 0) (fun _ => True)) ∧ Hid (Below w1.heap.size w1 wx))
  case first =>
    go_region_held3 (fun _ => True) (exact trivial) (fail)
    · go_wp2
      go_meet
      obtain ⟨f1, f2, f3, f4⟩ := lim_world w1 65 80 #[.int .i64 7, .int .i64 1, .int .i64 0, .slice none 0 0, .int .i64 0, .int .i64 1, .int .i64 0, .slice none 0 0, .int .i64 1, .int .i64 2147483648, .int .i64 0, .slice none 0 0, .int .i64 1, .int .i64 1, .int .i64 2147483648, .slice none 0 0, .int .i64 3, .int .i64 1, .int .i64 0, .slice (some ⟨w1.heap.size, 0, none⟩) 65 65, .int .i64 6, .int .i64 1, .int .i64 0, .slice (some ⟨w1.heap.size + 1, 0, none⟩) 80 80] _ rfl
      exact ⟨w1.heap.size + 1 + 1, w1.heap.size, w1.heap.size + 1, rfl, Lib.hid f1, Lib.hid f2, Lib.hid f3, Lib.hid f4⟩
    · go_wp2
      go_meet
      obtain ⟨f1, f2, f3, f4⟩ := lim_world w1 80 65 #[.int .i64 7, .int .i64 1, .int .i64 0, .slice none 0 0, .int .i64 0, .int .i64 1, .int .i64 0, .slice none 0 0, .int .i64 1, .int .i64 2147483648, .int .i64 0, .slice none 0 0, .int .i64 1, .int .i64 1, .int .i64 2147483648, .slice none 0 0, .int .i64 3, .int .i64 1, .int .i64 0, .slice (some ⟨w1.heap.size + 1, 0, none⟩) 65 65, .int .i64 6, .int .i64 1, .int .i64 0, .slice (some ⟨w1.heap.size, 0, none⟩) 80 80] _ rfl
      exact ⟨w1.heap.size + 1 + 1, w1.heap.size + 1, w1.heap.size, rfl, Lib.hid f1, Lib.hid f3, Lib.hid f2, Lib.hid f4⟩
  case rest =>
  obtain ⟨g, g4, g5, rfl, HL, H4, H5, HB⟩ := hcut
  have HB2 := Lib.hid (HB1.out.trans (HB.out.mono HB1.out.size))
  have hq : which = 0 ∨ which = 1 ∨ which = 2 ∨ which = 3 ∨ which = 4 ∨ which = 5 := by omega
  clear h0 h5 q1 q2 HB hmk4 hmk5
  rcases hq with rfl | rfl | rfl | rfl | rfl | rfl
  · have c0 : wc.cell? ⟨g, 0, none⟩ = some (.int .i64 7) := heap_cell HL.out
    have c1 : wc.cell? ⟨g, 1, none⟩ = some (.int .i64 1) := heap_cell HL.out
    have c2 : wc.cell? ⟨g, 2, none⟩ = some (.int .i64 0) := heap_cell HL.out
    have c3 : wc.cell? ⟨g, 3, none⟩ = some (.slice none 0 0) := heap_cell HL.out
    go_wp2_with fail
    refine (framePut_any 7 1 0 none [] 0 0 _ wc (by simp) (fun _ => ⟨rfl, rfl⟩) (RdL.empty _ _ (fun _ => True))).mono ?_
    rintro e w2 ⟨A2, n2, C2, rfl, hn2, -, -, -, -, hb2⟩
    have HB3 := Lib.hid (HB2.out.trans (hb2.mono HB2.out.size))
    have d0 : w2.cell? ⟨g, 0, none⟩ = some (.int .i64 7) := (hb2.cell (p := ⟨g, 0, none⟩) (heap_lt HL.out)).trans c0
    have hno : ¬ Fm.argOk ⟨7, 1, 0, []⟩ := by unfold Fm.argOk; decide
    rw [Fm.put_no fun h => hno h.1] at hn2
    rw [Fm.err_arg hno]
    have hn0 : n2 = 0 := hn2
    clear hn2
    subst hn0
    clear hb2 c0 c1 c2 c3 d0
    go_wp2_with fail
    go_region_with (first | (go_at_call 12; refine (num9 _ _).mono ?_; rintro e w' ⟨rfl, hw'⟩; subst hw'))
    all_goals
      go_wp2
      go_ret
      first | exact ⟨rfl, (HB3.out.alloc HB3.out.size _).drew⟩ | exact ⟨rfl, HB3.out.drew.alloc HB3.out.drew.size _⟩
  · have c0 : wc.cell? ⟨g, 4, none⟩ = some (.int .i64 0) := heap_cell HL.out
    have c1 : wc.cell? ⟨g, 5, none⟩ = some (.int .i64 1) := heap_cell HL.out
    have c2 : wc.cell? ⟨g, 6, none⟩ = some (.int .i64 0) := heap_cell HL.out
    have c3 : wc.cell? ⟨g, 7, none⟩ = some (.slice none 0 0) := heap_cell HL.out
    go_wp2_with fail
    refine (framePut_any 0 1 0 none [] 0 0 _ wc (by simp) (fun _ => ⟨rfl, rfl⟩) (RdL.empty _ _ (fun _ => True))).mono ?_
    rintro e w2 ⟨A2, n2, C2, rfl, hn2, -, -, -, -, hb2⟩
    have HB3 := Lib.hid (HB2.out.trans (hb2.mono HB2.out.size))
    have d0 : w2.cell? ⟨g, 4, none⟩ = some (.int .i64 0) := (hb2.cell (p := ⟨g, 4, none⟩) (heap_lt HL.out)).trans c0
    have hno : ¬ Fm.argOk ⟨0, 1, 0, []⟩ := by unfold Fm.argOk; decide
    rw [Fm.put_no fun h => hno h.1] at hn2
    rw [Fm.err_arg hno]
    have hn0 : n2 = 0 := hn2
    clear hn2
    subst hn0
    clear hb2 c0 c1 c2 c3 d0
    go_wp2_with fail
    go_region_with (first | (go_at_call 12; refine (num9 _ _).mono ?_; rintro e w' ⟨rfl, hw'⟩; subst hw'))
    all_goals
      go_wp2
      go_ret
      first | exact ⟨rfl, (HB3.out.alloc HB3.out.size _).drew⟩ | exact ⟨rfl, HB3.out.drew.alloc HB3.out.drew.size _⟩
  · have c0 : wc.cell? ⟨g, 8, none⟩ = some (.int .i64 1) := heap_cell HL.out
    have c1 : wc.cell? ⟨g, 9, none⟩ = some (.int .i64 2147483648) := heap_cell HL.out
    have c2 : wc.cell? ⟨g, 10, none⟩ = some (.int .i64 0) := heap_cell HL.out
    have c3 : wc.cell? ⟨g, 11, none⟩ = some (.slice none 0 0) := heap_cell HL.out
    go_wp2_with fail
    refine (framePut_any 1 2147483648 0 none [] 0 0 _ wc (by simp) (fun _ => ⟨rfl, rfl⟩) (RdL.empty _ _ (fun _ => True))).mono ?_
    rintro e w2 ⟨A2, n2, C2, rfl, hn2, -, -, -, -, hb2⟩
    have HB3 := Lib.hid (HB2.out.trans (hb2.mono HB2.out.size))
    have d0 : w2.cell? ⟨g, 8, none⟩ = some (.int .i64 1) := (hb2.cell (p := ⟨g, 8, none⟩) (heap_lt HL.out)).trans c0
    have hno : ¬ Fm.argOk ⟨1, 2147483648, 0, []⟩ := by unfold Fm.argOk; decide
    rw [Fm.put_no fun h => hno h.1] at hn2
    rw [Fm.err_arg hno]
    have hn0 : n2 = 0 := hn2
    clear hn2
    subst hn0
    clear hb2 c0 c1 c2 c3 d0
    go_wp2_with fail
    go_region_with (first | (go_at_call 12; refine (num9 _ _).mono ?_; rintro e w' ⟨rfl, hw'⟩; subst hw'))
    all_goals
      go_wp2
      go_ret
      first | exact ⟨rfl, (HB3.out.alloc HB3.out.size _).drew⟩ | exact ⟨rfl, HB3.out.drew.alloc HB3.out.drew.size _⟩
  · have c0 : wc.cell? ⟨g, 12, none⟩ = some (.int .i64 1) := heap_cell HL.out
    have c1 : wc.cell? ⟨g, 13, none⟩ = some (.int .i64 1) := heap_cell HL.out
    have c2 : wc.cell? ⟨g, 14, none⟩ = some (.int .i64 2147483648) := heap_cell HL.out
    have c3 : wc.cell? ⟨g, 15, none⟩ = some (.slice none 0 0) := heap_cell HL.out
    go_wp2_with fail
    refine (framePut_any 1 1 2147483648 none [] 0 0 _ wc (by simp) (fun _ => ⟨rfl, rfl⟩) (RdL.empty _ _ (fun _ => True))).mono ?_
    rintro e w2 ⟨A2, n2, C2, rfl, hn2, -, -, -, -, hb2⟩
    have HB3 := Lib.hid (HB2.out.trans (hb2.mono HB2.out.size))
    have d0 : w2.cell? ⟨g, 12, none⟩ = some (.int .i64 1) := (hb2.cell (p := ⟨g, 12, none⟩) (heap_lt HL.out)).trans c0
    have hno : ¬ Fm.argOk ⟨1, 1, 2147483648, []⟩ := by unfold Fm.argOk; decide
    rw [Fm.put_no fun h => hno h.1] at hn2
    rw [Fm.err_arg hno]
    have hn0 : n2 = 0 := hn2
    clear hn2
    subst hn0
    clear hb2 c0 c1 c2 c3 d0
    go_wp2_with fail
    go_region_with (first | (go_at_call 12; refine (num9 _ _).mono ?_; rintro e w' ⟨rfl, hw'⟩; subst hw'))
    all_goals
      go_wp2
      go_ret
      first | exact ⟨rfl, (HB3.out.alloc HB3.out.size _).drew⟩ | exact ⟨rfl, HB3.out.drew.alloc HB3.out.drew.size _⟩
  · have c0 : wc.cell? ⟨g, 16, none⟩ = some (.int .i64 3) := heap_cell HL.out
    have c1 : wc.cell? ⟨g, 17, none⟩ = some (.int .i64 1) := heap_cell HL.out
    have c2 : wc.cell? ⟨g, 18, none⟩ = some (.int .i64 0) := heap_cell HL.out
    have c3 : wc.cell? ⟨g, 19, none⟩ = some (.slice (some ⟨g4, 0, none⟩) 65 65) := heap_cell HL.out
    go_wp2_with fail
    refine (framePut_any 3 1 0 (some ⟨g4, 0, none⟩) (List.replicate 65 0) 65 65 _ wc (by simp) (fun h => by cases h) H4.out).mono ?_
    rintro e w2 ⟨A2, n2, C2, rfl, hn2, -, -, -, -, hb2⟩
    have HB3 := Lib.hid (HB2.out.trans (hb2.mono HB2.out.size))
    have d0 : w2.cell? ⟨g, 16, none⟩ = some (.int .i64 3) := (hb2.cell (p := ⟨g, 16, none⟩) (heap_lt HL.out)).trans c0
    have harg : Fm.argOk ⟨3, 1, 0, (List.replicate 65 0)⟩ := by unfold Fm.argOk; decide
    have hlong : Fm.room 3 < ((List.replicate 65 0) : Tx).length := by simp [Fm.room]
    rw [Fm.put_no fun h => by have := h.2; simp [Fm.room] at this] at hn2
    rw [Fm.err_long harg hlong]
    have hn0 : n2 = 0 := hn2
    clear hn2
    subst hn0
    clear hb2 c0 c1 c2 c3 d0
    go_wp2_with fail
    go_region_with (first | (go_at_call 12; refine (num9 _ _).mono ?_; rintro e w' ⟨rfl, hw'⟩; subst hw'))
    all_goals
      go_wp2
      go_ret
      first | exact ⟨rfl, (HB3.out.alloc HB3.out.size _).drew⟩ | exact ⟨rfl, HB3.out.drew.alloc HB3.out.drew.size _⟩
  · have c0 : wc.cell? ⟨g, 20, none⟩ = some (.int .i64 6) := heap_cell HL.out
    have c1 : wc.cell? ⟨g, 21, none⟩ = some (.int .i64 1) := heap_cell HL.out
    have c2 : wc.cell? ⟨g, 22, none⟩ = some (.int .i64 0) := heap_cell HL.out
    have c3 : wc.cell? ⟨g, 23, none⟩ = some (.slice (some ⟨g5, 0, none⟩) 80 80) := heap_cell HL.out
    go_wp2_with fail
    refine (framePut_any 6 1 0 (some ⟨g5, 0, none⟩) (List.replicate 80 0) 80 80 _ wc (by simp) (fun h => by cases h) H5.out).mono ?_
    rintro e w2 ⟨A2, n2, C2, rfl, hn2, -, -, -, -, hb2⟩
    have HB3 := Lib.hid (HB2.out.trans (hb2.mono HB2.out.size))
    have d0 : w2.cell? ⟨g, 20, none⟩ = some (.int .i64 6) := (hb2.cell (p := ⟨g, 20, none⟩) (heap_lt HL.out)).trans c0
    have harg : Fm.argOk ⟨6, 1, 0, (List.replicate 80 0)⟩ := by unfold Fm.argOk; decide
    have hlong : Fm.room 6 < ((List.replicate 80 0) : Tx).length := by simp [Fm.room]
    rw [Fm.put_no fun h => by have := h.2; simp [Fm.room] at this] at hn2
    rw [Fm.err_long harg hlong]
    have hn0 : n2 = 0 := hn2
    clear hn2
    subst hn0
    clear hb2 c0 c1 c2 c3 d0
    go_wp2_with fail
    go_region_with (first | (go_at_call 12; refine (num9 _ _).mono ?_; rintro e w' ⟨rfl, hw'⟩; subst hw'))
    all_goals
      go_wp2
      go_ret
      first | exact ⟨rfl, (HB3.out.alloc HB3.out.size _).drew⟩ | exact ⟨rfl, HB3.out.drew.alloc HB3.out.drew.size _⟩
theorem limits_any (which : Int) (over : Bool) (w : World) :
    Calls Try.prog 5 #[.int .i64 which, .bool over] w (AnsB9 true w) := by
  by_cases h : which < 0 ∨ 5 < which
  · exact limits_no which over w h
  · cases over with
    | false => exact limits_false which w (by omega) (by omega)
    | true => exact limits_true which w (by omega) (by omega)
end Go.Proofs.Ytmonhgefmapiaaa
