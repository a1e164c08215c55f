/- What package fault finds in an error: find, Code, Where, and what flaw.Is answers. -/
import Derived.Test.YtdfialcaebjihaaDoorFtAs
namespace Go.Proofs.YtdfialcaebjihaaDoor
open Go.RowKit Go.Extern.Stop Go.Stop Go.Extern
open Pt (Tx)

def fz : Option Fl → Fl
  | some f => f
  | none => ⟨0, 0, 0⟩
/-- the deferred function of a call that does not panic -/
theorem catch_idle (p q : Addr) (w : World) :
    CallsD Tryd.prog 22 #[.pointer (some p), .pointer (some q)] .returning w fun e u' w' => e = .returned (.tuple #[]) ∧ u' = .returning ∧ w' = w := by
  refine callsD_of_wpS Tryd.func22 rfl fun c₀ cs hu => ?_
  apply wpS_seq
  apply wpS_region
  simp [wpOpsS, go_sem, recoverD, hu, Tryd.ntmps22, Exit.thenS]
  refine wpS_cond (t := false) (by simp [Act.eval, Array.replicate]) ?_
  simp only [Bool.false_eq_true, if_false]
  refine wpS_of_wp (wp_skip ?_)
  cases c₀
  simp_all [bodyPostS, results, Tryd.results22]

theorem find_end {w w2 : World} {T : Nat} {x0 x1 x2 q : Value} (h2 : w2.heap[T]? = some (.cells #[x0, x1, x2] 44 (0, 0))) (hq2 : w2.heap[T + 1]? = some (.cells #[q] 4 (0, 0))) (hB : Below T w w2) (c l k : Int) (b : Bool) :
    ∃ W3, W3 = (((w2.setCell ⟨T, 0, none⟩ (.int .i64 c)).setCell ⟨T, 1, none⟩ (.int .i64 l)).setCell ⟨T, 2, none⟩ (.int .i64 k)).setCell ⟨T + 1, 0, none⟩ (.bool b) ∧
      W3.heap[T]? = some (.cells #[.int .i64 c, .int .i64 l, .int .i64 k] 44 (0, 0)) ∧ W3.heap[T + 1]? = some (.cells #[.bool b] 4 (0, 0)) ∧ Below T w W3 := by
  refine ⟨_, rfl, ?_, ?_, ?_⟩
  · simp [World.setCell, Array.getElem?_modify, h2]
  · simp [World.setCell, Array.getElem?_modify, hq2]
  · exact (((hB.setCell (p := ⟨T, 0, none⟩) (Nat.le_refl _) _).setCell (p := ⟨T, 1, none⟩) (Nat.le_refl _) _).setCell (p := ⟨T, 2, none⟩) (Nat.le_refl _) _).setCell (p := ⟨T + 1, 0, none⟩) (Nat.le_succ _) _

set_option maxHeartbeats 4000000 in
set_option maxRecDepth 100000 in
theorem find_any (f : Option Fl) (v : Value) (w : World) (hv : Err w f v) (hg : Hg w) (hc : ∀ g, f = some g → g.c ≠ 0) :
    Calls Tryd.prog 18 #[v] w fun e w' => e = .returned (.tuple #[flv (fz f), .bool f.isSome]) ∧ Below w.heap.size w w' := by
  have hmf : ∀ (fn : Fn) (first cap : Array Value) (w : World), (Instr.makeFunc fn first cap).run Tryd.prog w = .ok (.func fn first cap) w := fun _ _ _ _ => rfl
  obtain ⟨w1, hw1⟩ : ∃ w1, w1 = (w.alloc (.cells #[.int .i64 0, .int .i64 0, .int .i64 0] 44)).alloc (.cells #[.bool false] 4) := ⟨_, rfl⟩
  have hb1 : Below w.heap.size w w1 := by rw [hw1]; exact ((Below.refl _ _).alloc (Nat.le_refl _) _).alloc (by simp) _
  have ht1 : w1.heap[w.heap.size]? = some (.cells #[.int .i64 0, .int .i64 0, .int .i64 0] 44 (0, 0)) := by rw [hw1, Below.heap_alloc _ _ _ (by simp)]; exact Go.Deep.blk_alloc_new _ _
  have hq1 : w1.heap[w.heap.size + 1]? = some (.cells #[.bool false] 4 (0, 0)) := by
    rw [hw1]; have := Go.Deep.blk_alloc_new (w.alloc (.cells #[.int .i64 0, .int .i64 0, .int .i64 0] 44)) (.cells #[.bool false] 4); simpa using this
  have HC := asAny f v w.heap.size w1 (hv.old hb1) (hg.old hb1) ht1
  have HB1 := Lib.hid hb1
  have HQ1 := Lib.hid hq1
  have HCC := Lib.hid hc
  clear hv hg hb1 ht1 hq1 hc
  go_enter_defers Tryd.func18, Tryd.ntmps18
  go_wp2_with fail
  rw [← hw1]
  refine HC.mono ?_
  rintro e w2 ⟨rfl, h2, hk⟩
  have hq2 : w2.heap[w.heap.size + 1]? = some (.cells #[.bool false] 4 (0, 0)) := (hk.block _ (heap_lt' HQ1.out) (by omega)).trans HQ1.out
  have q0 : w2.cell? ⟨w.heap.size + 1, 0, none⟩ = some (.bool false) := cell_of hq2 0
  have fq : w2.frozen? ⟨w.heap.size + 1, 0, none⟩ = false := by simp [World.frozen?, hq2]
  have f0 : w2.frozen? ⟨w.heap.size, 0, none⟩ = false := by simp [World.frozen?, h2]
  have f1 : w2.frozen? ⟨w.heap.size, 1, none⟩ = false := by simp [World.frozen?, h2]
  have f2 : w2.frozen? ⟨w.heap.size, 2, none⟩ = false := by simp [World.frozen?, h2]
  have HB2 : Hid (Below w.heap.size w w2) := Lib.hid (HB1.out.trans (hk.below (by have := heap_lt' HQ1.out; omega) (fun k h => by omega)))
  have HQ2 := Lib.hid hq2
  have H2 := Lib.hid h2
  have hcat := catch_idle ⟨w.heap.size, 0, none⟩ ⟨w.heap.size + 1, 0, none⟩
  cases f with
  | none =>
    have c0 : w2.cell? ⟨w.heap.size, 0, none⟩ = some (.int .i64 0) := cell_of h2 0
    have c1 : w2.cell? ⟨w.heap.size, 1, none⟩ = some (.int .i64 0) := cell_of h2 1
    have c2 : w2.cell? ⟨w.heap.size, 2, none⟩ = some (.int .i64 0) := cell_of h2 2
    clear h2 hq2 hk
    go_wp2
    refine leaves_cons (f := 22) (args := #[.pointer (some ⟨w.heap.size, 0, none⟩), .pointer (some ⟨w.heap.size + 1, 0, none⟩)]) (by simp) (by simp [go_sem]) ?_
    refine (hcat _).mono ?_
    rintro e u' w'' ⟨rfl, rfl, rfl⟩
    obtain ⟨W3, hW3, hT, hQ, hB⟩ := find_end H2.out HQ2.out HB2.out 0 0 0 false
    rw [← hW3]
    have d0 := cell_of hT 0
    have d1 := cell_of hT 1
    have d2 := cell_of hT 2
    have dq := cell_of hQ 0
    simp at d0 d1 d2 dq
    simp [Leaves, settle, results, Tryd.results18, go_sem, d0, d1, d2, dq, fz]
    exact hB
  | some f =>
    have hne : ¬ f.c = 0 := HCC.out _ rfl
    have c0 : w2.cell? ⟨w.heap.size, 0, none⟩ = some (.int .i64 f.c) := cell_of h2 0
    have c1 : w2.cell? ⟨w.heap.size, 1, none⟩ = some (.int .i64 f.l) := cell_of h2 1
    have c2 : w2.cell? ⟨w.heap.size, 2, none⟩ = some (.int .i64 f.k) := cell_of h2 2
    clear h2 hq2 hk
    go_wp2
    refine leaves_cons (f := 22) (args := #[.pointer (some ⟨w.heap.size, 0, none⟩), .pointer (some ⟨w.heap.size + 1, 0, none⟩)]) (by simp) (by simp [go_sem]) ?_
    refine (hcat _).mono ?_
    rintro e u' w'' ⟨rfl, rfl, rfl⟩
    obtain ⟨W3, hW3, hT, hQ, hB⟩ := find_end H2.out HQ2.out HB2.out f.c f.l f.k true
    rw [← hW3]
    have d0 := cell_of hT 0
    have d1 := cell_of hT 1
    have d2 := cell_of hT 2
    have dq := cell_of hQ 0
    simp at d0 d1 d2 dq
    simp [Leaves, settle, results, Tryd.results18, go_sem, d0, d1, d2, dq, fz]
    exact hB

theorem code_nil (w : World) : Calls Tryd.prog 13 #[.nilIface] w fun e w' => e = .returned (.int .i64 0) ∧ w' = w := by
  go_enter Tryd.func13, Tryd.ntmps13
  go_wp2
  go_ret
  exact ⟨rfl, rfl⟩
/-- the code of an error that is there -/
def codeOf : Option Fl → Int
  | some f => f.c
  | none => 1
set_option maxHeartbeats 4000000 in
theorem code_any (f : Option Fl) (v : Value) (w : World) (hv : Err w f v) (hn : v ≠ .nilIface) (hg : Hg w) (hc : ∀ g, f = some g → g.c ≠ 0) :
    Calls Tryd.prog 13 #[v] w fun e w' => e = .returned (.int .i64 (codeOf f)) ∧ Below w.heap.size w w' := by
  have HC := find_any f v w hv hg hc
  obtain ⟨ti, xi, rfl⟩ : ∃ t x, v = .iface t x := by
    cases f with
    | none => rcases hv with h | ⟨x, h⟩; exact absurd h hn; exact ⟨_, _, h⟩
    | some f => obtain ⟨ws, h⟩ := hv; exact h.iface
  clear hv hg hc hn
  cases f with
  | none =>
    go_enter Tryd.func13, Tryd.ntmps13
    go_wp2_with (go_at_call 18; refine HC.mono ?_; rintro e w' ⟨rfl, hb⟩; have HB := Lib.hid hb; clear hb; dsimp only [fz, Option.isSome])
    go_ret
    exact ⟨rfl, HB.out.alloc (by have := HB.out.size; omega) _⟩
  | some f =>
    go_enter Tryd.func13, Tryd.ntmps13
    go_wp2_with (go_at_call 18; refine HC.mono ?_; rintro e w' ⟨rfl, hb⟩; have HB := Lib.hid hb; clear hb; dsimp only [fz, Option.isSome])
    go_ret
    exact ⟨rfl, HB.out.alloc (by have := HB.out.size; omega) _⟩

set_option maxHeartbeats 4000000 in
theorem where_any (f : Option Fl) (v : Value) (w : World) (hv : Err w f v) (hg : Hg w) (hc : ∀ g, f = some g → g.c ≠ 0) :
    Calls Tryd.prog 10 #[v] w fun e w' => e = .returned (.tuple #[.agg #[.int .i64 (fz f).l, .int .i64 (fz f).k], .bool f.isSome]) ∧ Below w.heap.size w w' := by
  have HC := find_any f v (w.alloc (.cells #[.int .i64 0, .int .i64 0] 25)) (hv.old ((Below.refl _ _).alloc (Nat.le_refl _) _)) (hg.old ((Below.refl _ _).alloc (Nat.le_refl _) _)) hc
  clear hv hg hc
  generalize fz f = g at *
  go_enter Tryd.func10, Tryd.ntmps10
  go_wp2_with fail
  refine HC.mono ?_
  rintro e w' ⟨rfl, hb⟩
  have hx : w'.heap[w.heap.size]? = some (.cells #[.int .i64 0, .int .i64 0] 25 (0, 0)) := (hb.block _ (by simp)).trans (Go.Deep.blk_alloc_new _ _)
  have c0 : w'.cell? ⟨w.heap.size, 0, none⟩ = some (.int .i64 0) := cell_of hx 0
  have c1 : w'.cell? ⟨w.heap.size, 1, none⟩ = some (.int .i64 0) := cell_of hx 1
  have f0 : w'.frozen? ⟨w.heap.size, 0, none⟩ = false := by simp [World.frozen?, hx]
  have f1 : w'.frozen? ⟨w.heap.size, 1, none⟩ = false := by simp [World.frozen?, hx]
  have hlt : w.heap.size < w'.heap.size := heap_lt' hx
  have HB : Hid (Below w.heap.size w w') := Lib.hid (((Below.refl _ _).alloc (Nat.le_refl _) _).trans ⟨hb.os, hb.tape, hb.output, hb.size, fun k hk => hb.block k (by simp; omega)⟩)
  have HX := Lib.hid hx
  clear hb hx
  go_wp2
  obtain ⟨W3, hW3⟩ : ∃ W3, W3 = ((w'.setCell ⟨w.heap.size, 0, none⟩ (.int .i64 g.l)).setCell ⟨w.heap.size, 1, none⟩ (.int .i64 g.k)).alloc (.cells #[.int .i64 g.c, .int .i64 g.l, .int .i64 g.k] 44) := ⟨_, rfl⟩
  have hT : W3.heap[w.heap.size]? = some (.cells #[.int .i64 g.l, .int .i64 g.k] 25 (0, 0)) := by
    rw [hW3, Below.heap_alloc _ _ _ (by simpa [World.setCell] using hlt)]
    simp [World.setCell, Array.getElem?_modify, HX.out]
  have hB : Below w.heap.size w W3 := by
    rw [hW3]
    exact ((HB.out.setCell (p := ⟨w.heap.size, 0, none⟩) (Nat.le_refl _) _).setCell (p := ⟨w.heap.size, 1, none⟩) (Nat.le_refl _) _).alloc (by simp [World.setCell]; omega) _
  rw [← hW3]
  have d0 := cell_of hT 0
  have d1 := cell_of hT 1
  simp at d0 d1
  simp [bodyPost, results, Tryd.results10, go_sem, d0, d1]
  exact hB

set_option maxHeartbeats 4000000 in
theorem is_any (g : Fl) (f : Option Fl) (v : Value) (w : World) (hv : Err w f v) (hg : Hg w) (hc : ∀ g, f = some g → g.c ≠ 0) :
    Calls Tryd.prog 50 #[flv g, v] w fun e w' => e = .returned (.bool (decide (f = some g))) ∧ Below w.heap.size w w' := by
  have HC := find_any f v (w.alloc (.cells #[.int .i64 g.c, .int .i64 g.l, .int .i64 g.k] 44)) (hv.old ((Below.refl _ _).alloc (Nat.le_refl _) _)) (hg.old ((Below.refl _ _).alloc (Nat.le_refl _) _)) hc
  clear hv hg hc
  go_enter Tryd.func50, Tryd.ntmps50
  go_wp2_with fail
  refine HC.mono ?_
  rintro e w' ⟨rfl, hb⟩
  have hx : w'.heap[w.heap.size]? = some (.cells #[.int .i64 g.c, .int .i64 g.l, .int .i64 g.k] 44 (0, 0)) := (hb.block _ (by simp)).trans (Go.Deep.blk_alloc_new _ _)
  have c0 : w'.cell? ⟨w.heap.size, 0, none⟩ = some (.int .i64 g.c) := cell_of hx 0
  have c1 : w'.cell? ⟨w.heap.size, 1, none⟩ = some (.int .i64 g.l) := cell_of hx 1
  have c2 : w'.cell? ⟨w.heap.size, 2, none⟩ = some (.int .i64 g.k) := cell_of hx 2
  have hlt : w.heap.size < w'.heap.size := heap_lt' hx
  have HB : Hid (Below w.heap.size w w') := Lib.hid (((Below.refl _ _).alloc (Nat.le_refl _) _).trans ⟨hb.os, hb.tape, hb.output, hb.size, fun k hk => hb.block k (by simp; omega)⟩)
  clear hb hx
  cases f with
  | none =>
    dsimp only [fz, Option.isSome]
    go_wp2
    go_ret
    exact ⟨by simp, HB.out.alloc (by omega) _⟩
  | some f =>
    dsimp only [fz, Option.isSome]
    by_cases e : f = g
    · subst e
      go_wp2
      go_ret
      exact ⟨by simp, HB.out.alloc (by omega) _⟩
    · have hd : decide (some f = some g) = false := by simp [e]
      have He := Lib.hid e
      have Hd := Lib.hid hd
      clear e hd
      go_wp2
      all_goals first
        | exact absurd (Fl.ext' ‹_› ‹_› ‹_›) He.out
        | (go_ret; exact ⟨(congrArg (fun b => Ending.returned (.bool b)) Hd.out).symm, HB.out.alloc (by omega) _⟩)
end Go.Proofs.YtdfialcaebjihaaDoor
