/- What the document's own ReadHead answers. -/
import Derived.Test.YtdllkbjbklhigaaDoorRefRcHead
import Derived.Test.YtdllkbjbklhigaaDoorRcRead
import Derived.Test.YtdllkbjbklhigaaDoorRefCdRT
import Derived.Test.YtdllkbjbklhigaaDoorRefWay
namespace Go.Proofs.YtdllkbjbklhigaaDoor
open Go.RowKit
open Pt (Tx)

set_option maxHeartbeats 4000000 in
theorem refReadHead_any (A : Option Addr) (b : Tx) (n C : Nat) (G : Nat → Prop) (w : World) (hn : n = b.length) (hC : n ≤ C) (hCm : C ≤ maxLen) (hA : A = none → n = 0 ∧ C = 0) (hr : RdL w A b G) :
    Calls Tryd.prog 11 #[.slice A n C] w (GotH b w) := by
  have HB0 : Hid (Below w.heap.size w (w.alloc (headObj [] 0 0 0 0 0 0 false))) := Lib.hid ((Below.refl _ _).alloc (Nat.le_refl _) _)
  have HR : Hid (RdL w A b (· < w.heap.size)) := Lib.hid (hr.in_.mono fun _ h => h.2)
  have HN := Lib.hid hn
  have hcall := refNewReader_any A b C (· < w.heap.size) (w.alloc (headObj [] 0 0 0 0 0 0 false)) (by rw [← hn]; exact hA) (by omega) hCm (HR.out.old HB0.out) (by simp)
  rw [← hn] at hcall
  obtain ⟨P, hP⟩ : ∃ P, P = Cd.txt (b, false) := ⟨_, rfl⟩
  obtain ⟨n1, hn1⟩ : ∃ k, k = Cd.num (Cd.tk 4 (Rc.t1 b)) := ⟨_, rfl⟩
  obtain ⟨n2, hn2⟩ : ∃ k, k = Cd.num (Cd.tk 4 (Rc.t2 b)) := ⟨_, rfl⟩
  obtain ⟨n3, hn3⟩ : ∃ k, k = Cd.num (Cd.tk 4 (Rc.t3 b)) := ⟨_, rfl⟩
  obtain ⟨n4, hn4⟩ : ∃ k, k = Cd.num (Cd.tk 4 (Rc.t4 b)) := ⟨_, rfl⟩
  obtain ⟨n5, hn5⟩ : ∃ k, k = Cd.num (Cd.tk 4 (Rc.t5 b)) := ⟨_, rfl⟩
  obtain ⟨n6, hn6⟩ : ∃ k, k = Cd.num (Cd.tk 4 (Rc.t6 b)) := ⟨_, rfl⟩
  obtain ⟨n7, hn7⟩ : ∃ k, k = (Cd.byt (Rc.t7 b)).toNat := ⟨_, rfl⟩
  have k7 : n7 < 256 := by rw [hn7]; exact (Cd.byt (Rc.t7 b)).toNat_lt
  obtain ⟨g7, hg7⟩ : ∃ g, g = (Cd.byt (Rc.t7 b) == 1) := ⟨_, rfl⟩
  have qg : ((n7 : Int) == 1) = g7 := by rw [hn7, hg7]; exact gone_beq _
  have hPl : P.length ≤ 1000 := by rw [hP]; have := (Cd.byt (b, false)).toNat_lt; have := Cd.tk_le (Cd.byt (b, false)).toNat (Cd.af 1 (b, false)); unfold Cd.txt; omega
  have HPA : Hid (Rc.parse b = ⟨P, n1, n2, n3, n4, n5, n6, g7⟩) := Lib.hid (by rw [hP, hn1, hn2, hn3, hn4, hn5, hn6, hg7]; rfl)
  have Hp := Lib.hid hP
  have H1 := Lib.hid hn1
  have H2 := Lib.hid hn2
  have H3 := Lib.hid hn3
  have H4 := Lib.hid hn4
  have H5 := Lib.hid hn5
  have H6 := Lib.hid hn6
  have H7 := Lib.hid hn7
  have HQ := Lib.hid qg
  have HPL := Lib.hid hPl
  have HC := Lib.hid hcall
  clear hr hcall hP hn1 hn2 hn3 hn4 hn5 hn6 hn7 hg7 qg hPl hn hA hC hCm
  unfold headObj at HC
  go_enter Tryd.func11, Tryd.ntmps11
  go_wp2_with fail
  refine HC.out.mono ?_
  clear HC
  rintro e w1 ⟨rfl, hr1, hb1⟩
  obtain ⟨gr, hgr⟩ : ∃ gr, gr = (w.alloc (headObj [] 0 0 0 0 0 0 false)).heap.size := ⟨_, rfl⟩
  have hgr' : gr = w.heap.size + 1 := by rw [hgr]; simp
  unfold headObj at hgr
  rw [← hgr] at hr1 hb1 ⊢
  have HG0 : Hid (WayG w gr (b, false) (· < w.heap.size) (headObj [] 0 0 0 0 0 0 false) w1) := Lib.hid ⟨hr1, (hb1.block _ (by omega)).trans (Go.Deep.blk_alloc_new _ _), HB0.out.trans (hb1.mono (by rw [hgr']; exact Nat.le_succ _)), by omega, fun x hx => by have : x < w.heap.size := hx; omega⟩
  clear hr1 hb1 hgr hgr'
  go_wp2_with fail
  have hcall := refText_any gr (b, false) _ w1 HG0.out.rr
  rw [← Hp.out] at hcall
  refine hcall.mono ?_
  clear hcall
  rintro e x0 ⟨rfl, hr, hk⟩
  have hr' : Rf x0 gr (Rc.t1 b) _ := hr
  have HG1 := Lib.hid (HG0.out.red hr' hk)
  clear hr hr' hk
  go_wp2_with fail
  have hcall := refInt_any gr (Rc.t1 b) _ x0 HG1.out.rr
  rw [← H1.out] at hcall
  refine hcall.mono ?_
  clear hcall
  rintro e x1 ⟨rfl, hr, hk⟩
  have hr' : Rf x1 gr (Rc.t2 b) _ := hr
  have HG2 := Lib.hid (HG1.out.red hr' hk)
  clear hr hr' hk
  go_wp2_with fail
  have hcall := refInt_any gr (Rc.t2 b) _ x1 HG2.out.rr
  rw [← H2.out] at hcall
  refine hcall.mono ?_
  clear hcall
  rintro e x2 ⟨rfl, hr, hk⟩
  have hr' : Rf x2 gr (Rc.t3 b) _ := hr
  have HG3 := Lib.hid (HG2.out.red hr' hk)
  clear hr hr' hk
  go_wp2_with fail
  have hcall := refInt_any gr (Rc.t3 b) _ x2 HG3.out.rr
  rw [← H3.out] at hcall
  refine hcall.mono ?_
  clear hcall
  rintro e x3 ⟨rfl, hr, hk⟩
  have hr' : Rf x3 gr (Rc.t4 b) _ := hr
  have HG4 := Lib.hid (HG3.out.red hr' hk)
  clear hr hr' hk
  go_wp2_with fail
  have hcall := refInt_any gr (Rc.t4 b) _ x3 HG4.out.rr
  rw [← H4.out] at hcall
  refine hcall.mono ?_
  clear hcall
  rintro e x4 ⟨rfl, hr, hk⟩
  have hr' : Rf x4 gr (Rc.t5 b) _ := hr
  have HG5 := Lib.hid (HG4.out.red hr' hk)
  clear hr hr' hk
  go_wp2_with fail
  have hcall := refInt_any gr (Rc.t5 b) _ x4 HG5.out.rr
  rw [← H5.out] at hcall
  refine hcall.mono ?_
  clear hcall
  rintro e x5 ⟨rfl, hr, hk⟩
  have hr' : Rf x5 gr (Rc.t6 b) _ := hr
  have HG6 := Lib.hid (HG5.out.red hr' hk)
  clear hr hr' hk
  go_wp2_with fail
  have hcall := refInt_any gr (Rc.t6 b) _ x5 HG6.out.rr
  rw [← H6.out] at hcall
  refine hcall.mono ?_
  clear hcall
  rintro e x6 ⟨rfl, hr, hk⟩
  have hr' : Rf x6 gr (Rc.t7 b) _ := hr
  have HG7 := Lib.hid (HG6.out.red hr' hk)
  clear hr hr' hk
  obtain ⟨hB, hhB⟩ : ∃ hB, hB = x6.heap.size := ⟨_, rfl⟩
  obtain ⟨wh, hwh⟩ : ∃ wh, wh = x6.alloc (headObj P n1 n2 n3 n4 n5 n6 false) := ⟨_, rfl⟩
  have HWAY : Hid (WayF w gr hB (Rc.t7 b) (· < w.heap.size) (headObj P n1 n2 n3 n4 n5 n6 false) (headObj [] 0 0 0 0 0 0 false) wh) := Lib.hid (by rw [hwh, hhB]; exact HG7.out.make _)
  have HHB := Lib.hid hhB
  have HWH := Lib.hid hwh
  unfold headObj at HWH
  clear hhB hwh
  go_wp2_with fail
  rw [← HWH.out, ← HHB.out]
  have hcall := refByte_any gr (Rc.t7 b) _ wh HWAY.out.rr
  rw [← H7.out] at hcall
  refine hcall.mono ?_
  clear hcall
  rintro e x7 ⟨rfl, hr, hk⟩
  have hr' : Rf x7 gr (Rc.t8 b) _ := hr
  have hw := HWAY.out.red hr' hk
  obtain ⟨c0, c1, c2, c3, c4, c5, c6, c7⟩ := head8 hw.hd
  obtain ⟨f0, f1, f2, f3, f4, f5, f6, f7⟩ := head_free hw.hd
  have hs := hw.set 7 (.bool g7) (cs' := #[.string (tx P), .int .i64 n1, .int .i64 n2, .int .i64 n3, .int .i64 n4, .int .i64 n5, .int .i64 n6, .bool g7]) rfl
  obtain ⟨y7, hy⟩ : ∃ y, y = x7.setCell ⟨hB, 7, none⟩ (.bool g7) := ⟨_, rfl⟩
  rw [← hy] at hs
  have HW7 : Hid (WayF w gr hB (Rc.t8 b) (· < w.heap.size) (headObj P n1 n2 n3 n4 n5 n6 g7) (headObj [] 0 0 0 0 0 0 false) y7) := Lib.hid hs
  have HY7 := Lib.hid hy
  obtain ⟨d0, d1, d2, d3, d4, d5, d6, d7⟩ := head8 hs.hd
  rw [hy] at d0 d1 d2 d3 d4 d5 d6 d7
  clear hr hr' hk hw hs hy
  have hqg := HQ.out
  go_wp2_with fail
  rw [← HY7.out]
  clear c0 c1 c2 c3 c4 c5 c6 c7 f0 f1 f2 f3 f4 f5 f6 f7 d0 d1 d2 d3 d4 d5 d6 d7 hqg
  have hPm : P.length ≤ maxLen := by unfold maxLen; have := HPL.out; omega
  refine (refHeadBytes_any P n1 n2 n3 n4 n5 n6 g7 y7 hPm).mono ?_
  rintro e x9 ⟨A9, m9, C9, rfl, hm9, -, -, -, hr9, hb9⟩
  have HW9 := Lib.hid (HW7.out.old hb9)
  obtain ⟨z0, z1, z2, z3, z4, z5, z6, z7⟩ := head8 HW9.out.zr
  obtain ⟨f0, f1, f2, f3, f4, f5, f6, f7⟩ := head_free HW9.out.zr
  obtain ⟨d0, d1, d2, d3, d4, d5, d6, d7⟩ := head8 HW9.out.hd
  clear hPm hb9
  by_cases hok : Rc.Ok ⟨P, n1, n2, n3, n4, n5, n6, g7⟩
  · have hput : Rc.put ⟨P, n1, n2, n3, n4, n5, n6, g7⟩ = Rc.blk (Rc.parse b) := by rw [HPA.out]; exact Rc.put_ok hok
    have hlen := Rc.blk_len hok
    rw [hput] at hm9 hr9
    rw [← HPA.out] at hlen
    obtain ⟨X, hX⟩ : ∃ X, X = Rc.blk (Rc.parse b) := ⟨_, rfl⟩
    rw [← hX] at hm9 hr9 hlen
    have q0 : ((m9 : Int) == 0) = false := beq_eq_false_iff_ne.2 (by omega)
    have q0' : ¬ m9 = 0 := by omega
    have s1 := hr9.str C9
    have s2 := (HR.out.old HW9.out.bel).str C
    rw [← hm9] at s1
    rw [← HN.out] at s2
    have e1 := tx_toList X
    have e2 := tx_toList b
    have HX := Lib.hid hX
    have HOK := Lib.hid hok
    clear hput hlen hm9 hr9 hX hok
    by_cases hg : X = b
    · have hgood : Rc.Good b := ⟨by rw [HPA.out]; exact HOK.out, by rw [← HX.out]; exact hg⟩
      have HG : Hid (Rc.got b = ⟨P, n1, n2, n3, n4, n5, n6, g7⟩) := Lib.hid ((Rc.got_yes hgood).trans HPA.out)
      have HGE := Lib.hid (Rc.gotE_yes hgood)
      have q1 : (X == b) = true := beq_iff_eq.2 hg
      have q2 : (X != b) = false := by rw [bne, q1]; rfl
      clear hgood hg
      go_wp2
      exact bodyPost_ret (v := .tuple #[.agg #[.string (tx P), .int .i64 n1, .int .i64 n2, .int .i64 n3, .int .i64 n4, .int .i64 n5, .int .i64 n6, .bool g7], .int .i64 0]) (by simp [results, Tryd.results11, go_sem, z0, z1, z2, z3, z4, z5, z6, z7]) rfl (GotH.stored (h := ⟨P, n1, n2, n3, n4, n5, n6, g7⟩) HG.out HGE.out rfl HW9.out.bel _ _ _ _ _ _ _ _)
    · have hbad : ¬ Rc.Good b := fun h => hg (by rw [HX.out]; exact h.2)
      have HG := Lib.hid (Rc.got_no hbad)
      have HGE := Lib.hid (Rc.gotE_no hbad)
      have q1 : (X == b) = false := beq_eq_false_iff_ne.2 hg
      have q2 : (X != b) = true := by rw [bne, q1]; rfl
      clear hbad hg
      go_wp2
      exact bodyPost_ret (v := .tuple #[.agg #[.string ⟨#[]⟩, .int .i64 0, .int .i64 0, .int .i64 0, .int .i64 0, .int .i64 0, .int .i64 0, .bool false], .int .i64 2]) (by simp [results, Tryd.results11, go_sem, z0, z1, z2, z3, z4, z5, z6, z7]) rfl (GotH.stored (h := Rc.H.zero) HG.out HGE.out rfl HW9.out.bel _ _ _ _ _ _ _ _)
  · have hbad : ¬ Rc.Good b := fun h => hok (by have := h.1; rwa [HPA.out] at this)
    have HG := Lib.hid (Rc.got_no hbad)
    have HGE := Lib.hid (Rc.gotE_no hbad)
    have hm0 : m9 = 0 := by rw [hm9, Rc.put_no hok]; rfl
    clear hok hbad hm9 hr9
    subst hm0
    go_wp2
    exact bodyPost_ret (v := .tuple #[.agg #[.string ⟨#[]⟩, .int .i64 0, .int .i64 0, .int .i64 0, .int .i64 0, .int .i64 0, .int .i64 0, .bool false], .int .i64 2]) (by simp [results, Tryd.results11, go_sem, z0, z1, z2, z3, z4, z5, z6, z7]) rfl (GotH.stored (h := Rc.H.zero) HG.out HGE.out rfl HW9.out.bel _ _ _ _ _ _ _ _)
end Go.Proofs.YtdllkbjbklhigaaDoor
