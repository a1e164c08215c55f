/- FaultIs: the walk. -/
import Derived.Test.YtdfialcaebjihaaDoorFtDeep
namespace Go.Proofs.YtdfialcaebjihaaDoor
open Go.RowKit
open Pt (Tx)

theorem alive_spot {w w' : World} {b : Nat} {x y : Value} (h : w.heap[b]? = some (.cells #[x, y] 25 (0, 0))) (hb : Below w.heap.size w w') : w'.cell? ⟨b, 0, none⟩ = some x ∧ w'.cell? ⟨b, 1, none⟩ = some y :=
  ⟨cell_of (same_spot h hb) 0, cell_of (same_spot h hb) 1⟩
set_option maxHeartbeats 8000000 in
set_option maxRecDepth 100000 in
theorem faultIs_main (f g : Fl) (xs ys : List Tx) (A B : Option Addr) (ca cb n m : Nat) (w : World) (hg : Hg w) (hn : n = xs.length) (hm : m = ys.length) (hnn : n ≤ 10) (hmm : m ≤ 10) (rx : TxR w A xs) (ry : TxR w B ys) (sx : ∀ s ∈ xs, s.length ≤ 281474976710656) (sy : ∀ s ∈ ys, s.length ≤ 281474976710656) (hf : f.c ≠ 0) (hgc : g.c ≠ 0) :
    Calls Tryd.prog 4 #[.int .i64 f.c, .int .i64 g.c, .agg #[.int .i64 f.l, .int .i64 f.k], .agg #[.int .i64 g.l, .int .i64 g.k], .slice A n ca, .slice B m cb] w fun e w' => e = .returned (.bool true) ∧ Below w.heap.size w w' := by
  obtain ⟨w0, hw0⟩ : ∃ w0, w0 = (w.alloc (.cells #[.int .i64 f.l, .int .i64 f.k] 25)).alloc (.cells #[.int .i64 g.l, .int .i64 g.k] 25) := ⟨_, rfl⟩
  have hb0 : Below w.heap.size w w0 := by rw [hw0]; exact ((Below.refl _ _).alloc (Nat.le_refl _) _).alloc (by simp) _
  have HS : Hid (w0.heap[w.heap.size]? = some (.cells #[.int .i64 f.l, .int .i64 f.k] 25 (0, 0))) := Lib.hid (by rw [hw0, Below.heap_alloc _ _ _ (by simp)]; exact Go.Deep.blk_alloc_new _ _)
  have HT : Hid (w0.heap[w.heap.size + 1]? = some (.cells #[.int .i64 g.l, .int .i64 g.k] 25 (0, 0))) := Lib.hid (by
    rw [hw0]; have := Go.Deep.blk_alloc_new (w.alloc (.cells #[.int .i64 f.l, .int .i64 f.k] 25)) (.cells #[.int .i64 g.l, .int .i64 g.k] 25); simpa using this)
  have HA := alive7 w0 (hg.old hb0)
  have HB0 := Lib.hid hb0
  have HG := Lib.hid hg
  have HF := Lib.hid hf
  have HGC := Lib.hid hgc
  have HRX := Lib.hid rx
  have HRY := Lib.hid ry
  have HSX := Lib.hid sx
  have HSY := Lib.hid sy
  have HN := Lib.hid hn
  have HM := Lib.hid hm
  have q1 : (f.c == 0) = false := by simpa using hf
  have q2 : (g.c == 0) = false := by simpa using hgc
  have q3 : decide (10 < (n : Int)) = false := decide_eq_false (by omega)
  have q4 : decide (10 < (m : Int)) = false := decide_eq_false (by omega)
  clear hb0 hg hf hgc rx ry sx sy hn hm
  go_enter Tryd.func4, Tryd.ntmps4
  go_wp2_with fail
  rw [← hw0]
  clear hw0
  refine HA.mono ?_
  rintro e w1 ⟨rfl, hb1⟩
  have HB1 := Lib.hid (HB0.out.trans (hb1.mono HB0.out.size))
  have HX1 := Lib.hid hb1
  obtain ⟨s0, s1⟩ := alive_spot HS.out hb1
  clear hb1 HA
  go_wp2_with fail
  have HNx := new_any f xs A ca w1 (HRX.out.old HB1.out) (by rw [← HN.out]; omega) HSX.out HF.out
  rw [← HN.out] at HNx
  refine HNx.mono ?_
  rintro e w2 ⟨v, rfl, he, hb2⟩
  have HB2 := Lib.hid (HB1.out.trans (hb2.mono HB1.out.size))
  have HX2 := Lib.hid (HX1.out.trans (hb2.mono HX1.out.size))
  have HE2 := Lib.hid he
  obtain ⟨tv, xv, rfl⟩ := he.iface
  obtain ⟨t0, t1⟩ := alive_spot HT.out HX2.out
  clear he hb2 HNx s0 s1
  go_wp2_with fail
  have HNy := new_any g ys B cb w2 (HRY.out.old HB2.out) (by rw [← HM.out]; omega) HSY.out HGC.out
  rw [← HM.out] at HNy
  refine HNy.mono ?_
  rintro e w3 ⟨u, rfl, hu, hb3⟩
  have HB3 := Lib.hid (HB2.out.trans (hb3.mono HB2.out.size))
  have HX3 := Lib.hid (HX2.out.trans (hb3.mono HX2.out.size))
  have HE3 := Lib.hid (HE2.out.old hb3)
  have HU3 := Lib.hid hu
  have HG3 := Lib.hid (HG.out.old HB3.out)
  obtain ⟨tu, xu, rfl⟩ := hu.iface
  clear hu hb3 HNy t0 t1
  go_wp2_with fail
  refine (same_any f g _ _ _ _ w3 HE3.out HU3.out HG3.out HF.out HGC.out).mono ?_
  rintro e w4 ⟨rfl, hb4⟩
  have HB4 := Lib.hid (HB3.out.trans (hb4.mono HB3.out.size))
  have HX4 := Lib.hid (HX3.out.trans (hb4.mono HX3.out.size))
  have HE4 := Lib.hid (HE3.out.old hb4)
  have HG4 := Lib.hid (HG.out.old HB4.out)
  obtain ⟨s0, s1⟩ := alive_spot HS.out HX4.out
  obtain ⟨t0, t1⟩ := alive_spot HT.out HX4.out
  have HS4 := Lib.hid (same_any f f _ _ _ _ w4 HE4.out HE4.out HG4.out HF.out HF.out)
  clear hb4
  by_cases ec : f.c = g.c
  case neg =>
    rw [decide_eq_false (fun e : f = g => ec (congrArg Fl.c e))]
    have r1 : (f.c == g.c) = false := by simpa using ec
    clear ec
    go_wp2_with fail
    refine HS4.out.mono ?_
    rintro e w5 ⟨rfl, hb5⟩
    have HB5 := Lib.hid (HB4.out.trans (hb5.mono HB4.out.size))
    clear hb5
    go_wp2
    go_ret
    exact ⟨rfl, HB5.out⟩
  by_cases el : f.l = g.l
  case neg =>
    rw [decide_eq_false (fun e : f = g => el (congrArg Fl.l e))]
    have r1 : (f.c == g.c) = true := by simpa using ec
    have r2 : (f.l == g.l) = false := by simpa using el
    clear ec el
    go_wp2_with fail
    refine HS4.out.mono ?_
    rintro e w5 ⟨rfl, hb5⟩
    have HB5 := Lib.hid (HB4.out.trans (hb5.mono HB4.out.size))
    clear hb5
    go_wp2
    go_ret
    exact ⟨rfl, HB5.out⟩
  by_cases ek : f.k = g.k
  case neg =>
    rw [decide_eq_false (fun e : f = g => ek (congrArg Fl.k e))]
    have r1 : (f.c == g.c) = true := by simpa using ec
    have r2 : (f.l == g.l) = true := by simpa using el
    have r3 : (f.k == g.k) = false := by simpa using ek
    clear ec el ek
    go_wp2_with fail
    refine HS4.out.mono ?_
    rintro e w5 ⟨rfl, hb5⟩
    have HB5 := Lib.hid (HB4.out.trans (hb5.mono HB4.out.size))
    clear hb5
    go_wp2
    go_ret
    exact ⟨rfl, HB5.out⟩
  case pos =>
    rw [decide_eq_true (Fl.ext' ec el ek)]
    have r1 : (f.c == g.c) = true := by simpa using ec
    have r2 : (f.l == g.l) = true := by simpa using el
    have r3 : (f.k == g.k) = true := by simpa using ek
    clear ec el ek
    go_wp2_with fail
    refine HS4.out.mono ?_
    rintro e w5 ⟨rfl, hb5⟩
    have HB5 := Lib.hid (HB4.out.trans (hb5.mono HB4.out.size))
    clear hb5
    go_wp2
    go_ret
    exact ⟨rfl, HB5.out⟩

set_option maxHeartbeats 4000000 in
set_option maxRecDepth 100000 in
theorem faultIs_walk (f g : Fl) (xs ys : List Tx) (A B : Option Addr) (ca cb : Nat) (w : World) (hg : Hg w) (lx : xs.length ≤ maxLen) (ly : ys.length ≤ maxLen) (rx : TxR w A xs) (ry : TxR w B ys) (sx : ∀ s ∈ xs, s.length ≤ 281474976710656) (sy : ∀ s ∈ ys, s.length ≤ 281474976710656) :
    Calls Tryd.prog 4 #[.int .i64 f.c, .int .i64 g.c, .agg #[.int .i64 f.l, .int .i64 f.k], .agg #[.int .i64 g.l, .int .i64 g.k], .slice A xs.length ca, .slice B ys.length cb] w fun e w' => e = .returned (.bool true) ∧ Below w.heap.size w w' := by
  unfold maxLen at lx ly
  have hb0 : Below w.heap.size w ((w.alloc (.cells #[.int .i64 f.l, .int .i64 f.k] 25)).alloc (.cells #[.int .i64 g.l, .int .i64 g.k] 25)) := ((Below.refl _ _).alloc (Nat.le_refl _) _).alloc (by simp) _
  have HA := alive7 _ (hg.old hb0)
  have HB0 := Lib.hid hb0
  obtain ⟨n, hn⟩ : ∃ n, n = xs.length := ⟨_, rfl⟩
  obtain ⟨m, hm⟩ : ∃ m, m = ys.length := ⟨_, rfl⟩
  by_cases h1 : 10 < n
  · have q : decide (10 < (n : Int)) = true := decide_eq_true (by omega)
    rw [← hn, ← hm]
    clear hg rx ry sx sy hn hm hb0
    go_enter Tryd.func4, Tryd.ntmps4
    go_wp2_with (go_at_call 7; refine HA.mono ?_; rintro e w1 ⟨rfl, hb⟩; have HB := Lib.hid hb; clear hb)
    go_ret
    exact ⟨rfl, HB0.out.trans (HB.out.mono HB0.out.size)⟩
  by_cases h2 : 10 < m
  · have q : decide (10 < (n : Int)) = false := decide_eq_false (by omega)
    have q' : decide (10 < (m : Int)) = true := decide_eq_true (by omega)
    rw [← hn, ← hm]
    clear hg rx ry sx sy hn hm hb0
    go_enter Tryd.func4, Tryd.ntmps4
    go_wp2_with (go_at_call 7; refine HA.mono ?_; rintro e w1 ⟨rfl, hb⟩; have HB := Lib.hid hb; clear hb)
    go_ret
    exact ⟨rfl, HB0.out.trans (HB.out.mono HB0.out.size)⟩
  by_cases h3 : f.c = 0
  · have q : decide (10 < (n : Int)) = false := decide_eq_false (by omega)
    have q' : decide (10 < (m : Int)) = false := decide_eq_false (by omega)
    have q2 : (f.c == 0) = true := by simpa using h3
    rw [← hn, ← hm]
    clear hg rx ry sx sy hn hm hb0 h3
    go_enter Tryd.func4, Tryd.ntmps4
    go_wp2_with (go_at_call 7; refine HA.mono ?_; rintro e w1 ⟨rfl, hb⟩; have HB := Lib.hid hb; clear hb)
    go_ret
    exact ⟨rfl, HB0.out.trans (HB.out.mono HB0.out.size)⟩
  by_cases h4 : g.c = 0
  · have q : decide (10 < (n : Int)) = false := decide_eq_false (by omega)
    have q' : decide (10 < (m : Int)) = false := decide_eq_false (by omega)
    have q2 : (f.c == 0) = false := by simpa using h3
    have q3 : (g.c == 0) = true := by simpa using h4
    rw [← hn, ← hm]
    clear hg rx ry sx sy hn hm hb0 h3 h4
    go_enter Tryd.func4, Tryd.ntmps4
    go_wp2_with (go_at_call 7; refine HA.mono ?_; rintro e w1 ⟨rfl, hb⟩; have HB := Lib.hid hb; clear hb)
    go_ret
    exact ⟨rfl, HB0.out.trans (HB.out.mono HB0.out.size)⟩
  rw [← hn, ← hm]
  exact faultIs_main f g xs ys A B ca cb n m w hg hn hm (by omega) (by omega) rx ry sx sy h3 h4
end Go.Proofs.YtdfialcaebjihaaDoor
