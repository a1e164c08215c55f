/- What Sealed of package volume answers: the seal that a tape ends with. What Find of package group answers: the groups that tapes tell of. A file in a block; a text cloned; two texts compared. -/
import Derived.Test.YtndofmoepjfnfaaGreatMaq
import Derived.Test.YtndofmoepjfnfaaGreatMav
import Derived.Test.YtndofmoepjfnfaaGreatMat
import Derived.Test.YtndofmoepjfnfaaGreatMau
import Derived.Test.YtndofmoepjfnfaaGreatMak
import Derived.Test.YtndofmoepjfnfaaGreatMas
import Derived.OwnWalk
import Derived.Handy
import Derived.WalkSpells
import Derived.WalkLawsBesides
namespace Go.Proofs.YtndofmoepjfnfaaGreat
open Go.RowKit
open Pt (Tx)

/-- what is answered for it -/
def sealIs (o : Option Rc.S) : Rc.S := o.getD Rc.S.zero
def SealA (o : Option Rc.S) (w : World) (e : Ending) (w' : World) : Prop :=
  ∃ x : Sx, e = .returned (.tuple #[.agg #[.int .i64 x.s.number, .int .i64 x.s.index, .int .i64 x.s.data, .int .i64 x.s.parity, .slice x.A x.s.labels.length x.C], .bool o.isSome]) ∧ x.s = sealIs o ∧ x.Ok w' (w.heap.size ≤ ·) ∧ Below w.heap.size w w'
theorem SealA.stored {w w7 : World} {B : Nat} {a0 a1 a2 a3 a4 : Value} {o : Option Rc.S} {n i d p : Int} {m : Nat} {l : List Int} {A : Option Addr} {C : Nat} {b : Bool} (hu : (⟨n, i, d, p, l⟩ : Rc.S) = sealIs o) (hb : o.isSome = b) (hB : w.heap.size ≤ B) (hm : m = l.length) (hok : Sx.Ok ⟨⟨n, i, d, p, l⟩, A, C⟩ w7 (fun x => w.heap.size ≤ x ∧ x ≠ B)) (hbl : Below w.heap.size w w7) :
    SealA o w (.returned (.tuple #[.agg #[.int .i64 n, .int .i64 i, .int .i64 d, .int .i64 p, .slice A m C], .bool b])) (((((w7.setCell ⟨B, 0, none⟩ a0).setCell ⟨B, 1, none⟩ a1).setCell ⟨B, 2, none⟩ a2).setCell ⟨B, 3, none⟩ a3).setCell ⟨B, 4, none⟩ a4) := by
  have hk := SitsX.kp_set w7 B 0 1 2 3 4 a0 a1 a2 a3 a4
  subst hm
  exact ⟨⟨⟨n, i, d, p, l⟩, A, C⟩, by rw [hb], hu, (hok.kp hk (fun x hx hx' => hx.2 hx')).mono (fun x hx => hx.1), hbl.trans (hk.below hbl.size (fun x hx => by omega))⟩
theorem nil_ok (w : World) (G : Nat → Prop) (n i d p : Int) : Sx.Ok ⟨⟨n, i, d, p, []⟩, none, 0⟩ w G := ⟨Nat.le_refl _, Nat.zero_le _, fun _ => ⟨rfl, rfl⟩, RdZ.empty _ _ _⟩
/-- a tape's block, and a seal's behind it -/
theorem tape_seal {w wb : World} {o1 o2 : Obj} (h : wb = (w.alloc o1).alloc o2) : Below w.heap.size w wb ∧ wb.heap[w.heap.size]? = some o1 ∧ wb.heap[w.heap.size + 1]? = some o2 := two_blocks h
set_option maxRecDepth 100000 in
set_option maxHeartbeats 4000000 in
theorem sealed_any (lab cap : Int) (bs : List Tx) (A : Option Addr) (L C : Nat) (G : Nat → Prop) (lost : Bool) (w : World) (hL : L = bs.length) (hLm : L ≤ 1000000) (hr : RdB w A bs G) (hl : ∀ s ∈ bs, s.length ≤ 1000000) :
    Calls Tryz.prog 44 #[.agg #[.int .i64 lab, .int .i64 cap, .slice A L C, .bool lost]] w (SealA (Gr.sealed ⟨lab, cap, bs, lost⟩) w) := by
  obtain ⟨wb, hwb⟩ : ∃ wb, wb = (w.alloc (tapeObj lab cap A L C lost)).alloc (sealObj 0 0 0 0 none 0 0) := ⟨_, rfl⟩
  obtain ⟨hB, hT, hU⟩ := tape_seal hwb
  obtain ⟨N, hN⟩ : ∃ N : Int, N = (L : Int) - 1 := ⟨_, rfl⟩
  have hcall := good_any lab cap bs A L C G lost N wb hL (hr.old hB) hl
  have hgz : Vo.goodZ ⟨lab, bs, lost⟩ N = Vo.good ⟨lab, bs, lost⟩ (bs.length - 1) := by
    unfold Vo.goodZ
    split
    · have h0 : bs.length = 0 := by omega
      rw [Vo.good_end (t := ⟨lab, bs, lost⟩) (by show bs.length ≤ _; omega)]
    · rw [show N.toNat = bs.length - 1 by omega]
  rw [hgz] at hcall
  have s1 : IntKind.i64.wrap ((L : Int) - 1) = N := by rw [hN]; exact IntWalk.i64_in _ (by omega)
  have hload : (unitOf (Vo.good ⟨lab, bs, lost⟩ (bs.length - 1))).load.length ≤ 1000 := by
    cases h : Vo.good ⟨lab, bs, lost⟩ (bs.length - 1) with
    | none => exact Nat.zero_le _
    | some u =>
      obtain ⟨b, -, hg, rfl⟩ := Vo.good_some h
      have h1 := hg.1.2
      have h2 := Fm.room_le (Fm.parse b).kind
      show (Fm.parse b).load.length ≤ 1000
      omega
  have HB := Lib.hid hB
  have HU := Lib.hid hU
  have HW : Hid (wb = (w.alloc (.cells #[.int .i64 lab, .int .i64 cap, .slice A L C, .bool lost] 28)).alloc (.cells #[.int .i64 0, .int .i64 0, .int .i64 0, .int .i64 0, .slice none 0 0] 90)) := Lib.hid hwb
  obtain ⟨t0, t1, t2, t3⟩ := tape4 hT
  rw [HW.out] at t0 t1 t2 t3
  obtain ⟨ok, hok⟩ : ∃ ok, ok = (Vo.good ⟨lab, bs, lost⟩ (bs.length - 1)).isSome := ⟨_, rfl⟩
  obtain ⟨k, lb, nb, ld, hu⟩ : ∃ k lb nb ld, unitOf (Vo.good ⟨lab, bs, lost⟩ (bs.length - 1)) = ⟨k, lb, nb, ld⟩ := ⟨_, _, _, _, rfl⟩
  unfold GoodA at hcall
  rw [hu, ← hok] at hcall
  rw [hu] at hload
  have hload' : ld.length ≤ 1000 := hload
  have hcase : (Gr.sealed ⟨lab, cap, bs, lost⟩ = none ∧ (ok = false ∨ (ok = true ∧ (k != 5) = true))) ∨ (ok = true ∧ k = 5 ∧ Gr.sealed ⟨lab, cap, bs, lost⟩ = if Rc.SGood ld then some (Rc.sparse ld) else none) := by
    cases h : Vo.good ⟨lab, bs, lost⟩ (bs.length - 1) with
    | none =>
      rw [h] at hok
      exact .inl ⟨Gr.sealed_bad (t := ⟨lab, cap, bs, lost⟩) h, .inl hok⟩
    | some u =>
      rw [h] at hok hu
      have hok' : ok = true := hok
      have hu' : u = ⟨k, lb, nb, ld⟩ := hu
      subst hu'
      by_cases h1 : k = 5
      · refine .inr ⟨hok', h1, ?_⟩
        unfold Gr.sealed
        rw [show Vo.good (Gr.vo ⟨lab, cap, bs, lost⟩) ((⟨lab, cap, bs, lost⟩ : St.T).blocks.length - 1) = some ⟨k, lb, nb, ld⟩ from h]
        show (if k = 5 ∧ Rc.SGood ld then some (Rc.sparse ld) else none) = _
        by_cases h2 : Rc.SGood ld
        · rw [if_pos ⟨h1, h2⟩, if_pos h2]
        · rw [if_neg fun h => h2 h.2, if_neg h2]
      · exact .inl ⟨Gr.sealed_kind (t := ⟨lab, cap, bs, lost⟩) h h1, .inr ⟨hok', by simpa using h1⟩⟩
  have HC := Lib.hid hcall
  have HLD := Lib.hid hload'
  clear hcall hload hload' hB hT hU hwb hr hL hl hu hok hgz hN
  rcases hcase with ⟨hres, hq⟩ | ⟨rfl, rfl, hres⟩
  · have HRES := Lib.hid hres
    clear hres
    rcases hq with rfl | ⟨rfl, p1⟩
    all_goals
      go_enter Tryz.func44, Tryz.ntmps44
      go_wp2_with fail
      rw [← HW.out]
      refine HC.out.mono ?_
      rintro e w1 ⟨A1, m1, C1, rfl, hm1, hc1, hn1, hr1, hb1⟩
      obtain ⟨wc, hwc⟩ : ∃ wc, wc = w1.alloc (unitObj k lb nb A1 m1 C1) := ⟨_, rfl⟩
      have hbc : Below wb.heap.size wb wc := by rw [hwc]; exact hb1.alloc hb1.size _
      have HZ := Lib.hid (below_obj hbc HU.out)
      have HBC := Lib.hid (HB.out.trans (hbc.mono HB.out.size))
      have hX : wc.heap[w1.heap.size]? = some (unitObj k lb nb A1 m1 C1) := by rw [hwc]; exact Go.Deep.blk_alloc_new _ _
      obtain ⟨x0, x1, x2, x3⟩ := unit4 hX
      have HWC := Lib.hid hwc
      unfold unitObj at HWC
      obtain ⟨z0, z1, z2, z3, z4⟩ := seal5 HZ.out
      obtain ⟨y0, y1, y2, y3, y4⟩ := seal_free HZ.out
      rw [HWC.out] at z0 z1 z2 z3 z4 y0 y1 y2 y3 y4 x0 x1 x2 x3
      clear hwc hbc hb1 hr1 hn1 hc1 hm1 t0 t1 t2 t3 hX
      go_wp2
      rw [← HWC.out]
      clear z0 z1 z2 z3 z4
      obtain ⟨z0, z1, z2, z3, z4⟩ := seal5 HZ.out
      refine bodyPost_ret (v := .tuple #[.agg #[.int .i64 0, .int .i64 0, .int .i64 0, .int .i64 0, .slice none 0 0], .bool false]) (by simp [results, Tryz.results44, go_sem, z0, z1, z2, z3, z4]) rfl ?_
      rw [HRES.out]
      exact SealA.stored (l := []) rfl rfl (by omega) rfl (nil_ok _ _ _ _ _ _) HBC.out
  · have HRES := Lib.hid hres
    clear hres
    go_enter Tryz.func44, Tryz.ntmps44
    go_wp2_with fail
    rw [← HW.out]
    refine HC.out.mono ?_
    rintro e w1 ⟨A1, m1, C1, rfl, hm1, hc1, hn1, hr1, hb1⟩
    obtain ⟨wc, hwc⟩ : ∃ wc, wc = w1.alloc (unitObj 5 lb nb A1 m1 C1) := ⟨_, rfl⟩
    have hb1' : Below w1.heap.size w1 wc := by rw [hwc]; exact (Below.refl _ _).alloc (Nat.le_refl _) _
    have hbc : Below wb.heap.size wb wc := hb1.trans (hb1'.mono hb1.size)
    have hcall := readSeal_any A1 ld m1 C1 _ wc hm1 (by have h1 : m1 = ld.length := hm1; have := HLD.out; omega) hn1 (hr1.old hb1')
    have HC2 := Lib.hid hcall
    have HZ := Lib.hid (below_obj hbc HU.out)
    have HBC := Lib.hid (HB.out.trans (hbc.mono HB.out.size))
    have hX : wc.heap[w1.heap.size]? = some (unitObj 5 lb nb A1 m1 C1) := by rw [hwc]; exact Go.Deep.blk_alloc_new _ _
    obtain ⟨x0, x1, x2, x3⟩ := unit4 hX
    have HWC := Lib.hid hwc
    unfold unitObj at HWC
    rw [HWC.out] at x0 x1 x2 x3
    clear hwc hbc hb1 hb1' hr1 hn1 hc1 hm1 t0 t1 t2 t3 hcall HU HB hX
    go_wp2_with fail
    rw [← HWC.out]
    clear x0 x1 x2 x3
    refine HC2.out.mono ?_
    rintro e w2 ⟨A2, m2, C2, rfl, hm2, hc2, hcm2, hn2, hr2, hb2⟩
    obtain ⟨⟨sn, si, sd, sp, sl⟩, hs⟩ : ∃ s, s = Rc.sgot ld := ⟨_, rfl⟩
    obtain ⟨ge, hge⟩ : ∃ ge, ge = Rc.sgotE ld := ⟨_, rfl⟩
    rw [← hs] at hm2 hr2 ⊢
    rw [← hge]
    dsimp only at hm2 hr2 ⊢
    obtain ⟨wd, hwd⟩ : ∃ wd, wd = w2.alloc (sealObj sn si sd sp A2 m2 C2) := ⟨_, rfl⟩
    have hb2' : Below w2.heap.size w2 wd := by rw [hwd]; exact (Below.refl _ _).alloc (Nat.le_refl _) _
    have hbd : Below wc.heap.size wc wd := hb2.trans (hb2'.mono hb2.size)
    have HZD := Lib.hid (below_obj hbd HZ.out)
    have HBD := Lib.hid (HBC.out.trans (hbd.mono HBC.out.size))
    have hY : wd.heap[w2.heap.size]? = some (sealObj sn si sd sp A2 m2 C2) := by rw [hwd]; exact Go.Deep.blk_alloc_new _ _
    have HOK : Hid (Sx.Ok ⟨⟨sn, si, sd, sp, sl⟩, A2, C2⟩ wd (fun x => w.heap.size ≤ x ∧ x ≠ w.heap.size + 1)) := Lib.hid (by
      have h1 := heap_lt HZ.out
      have h2 := HBC.out.size
      refine ⟨by rw [← hm2]; exact hc2, hcm2, fun h => ?_, (hr2.old hb2').mono (fun x hx => ?_)⟩
      · have := hn2 h; rw [← hm2]; exact this
      · have hx' : wc.heap.size ≤ x := hx
        omega)
    have HM2 := Lib.hid hm2
    have HFIN : Hid ((⟨sn, si, sd, sp, sl⟩ : Rc.S) = sealIs (Gr.sealed ⟨lab, cap, bs, lost⟩) ∧ (Gr.sealed ⟨lab, cap, bs, lost⟩).isSome = (ge == 0)) := Lib.hid (by
      rw [HRES.out, hs, hge]
      by_cases hg : Rc.SGood ld
      · rw [if_pos hg, Rc.sgot_yes hg, Rc.sgotE_yes hg]
        exact ⟨rfl, rfl⟩
      · rw [if_neg hg, Rc.sgot_no hg, Rc.sgotE_no hg]
        exact ⟨rfl, rfl⟩)
    obtain ⟨x0, x1, x2, x3, x4⟩ := seal5 hY
    obtain ⟨z0, z1, z2, z3, z4⟩ := seal5 HZD.out
    obtain ⟨y0, y1, y2, y3, y4⟩ := seal_free HZD.out
    have HWD := Lib.hid hwd
    unfold sealObj at HWD
    rw [HWD.out] at x0 x1 x2 x3 x4 z0 z1 z2 z3 z4 y0 y1 y2 y3 y4
    clear hwd hb2 hb2' hbd hY hr2 hm2 hs hge hc2 hcm2 hn2
    go_wp2
    rw [← HWD.out]
    clear z0 z1 z2 z3 z4
    obtain ⟨z0, z1, z2, z3, z4⟩ := seal5 HZD.out
    exact bodyPost_ret (v := .tuple #[.agg #[.int .i64 sn, .int .i64 si, .int .i64 sd, .int .i64 sp, .slice A2 m2 C2], .bool (ge == 0)]) (by simp [results, Tryz.results44, go_sem, z0, z1, z2, z3, z4]) rfl (SealA.stored (l := sl) HFIN.out.1 HFIN.out.2 (by omega) HM2.out HOK.out HBD.out)
end Go.Proofs.YtndofmoepjfnfaaGreat
namespace Go.Proofs.YtndofmoepjfnfaaGreat
open Go.RowKit
open Pt (Tx)

set_option maxHeartbeats 1000000 in
theorem sort_nil (w : World) : Calls Tryz.prog 45 #[.slice none 0 0, .func (.func 46) #[] #[]] w fun e w' => e = .returned (.tuple #[]) ∧ w = w' := by
  have HI : ∀ w : World, Calls Tryz.prog 75 #[.slice none 0 0, .int .i64 0, .int .i64 0, .func (.func 46) #[] #[]] w fun e w' => e = .returned (.tuple #[]) ∧ w = w' := fun w => by
    go_enter Tryz.func75, Tryz.ntmps75
    go_wp2
    go_loopw [8, 9] (fun vi vj wr => vi = .int .i64 1 ∧ Hid (wr = w)) (fun _ _ _ => 0)
    case atStart => exact ⟨rfl, Lib.hid rfl⟩
    case round =>
      obtain ⟨rfl, HW⟩ := hrel
      go_wp2
      go_end0
      exact ⟨rfl, HW.out.symm⟩
  have HS : ∀ w : World, Calls Tryz.prog 59 #[.slice none 0 0, .int .i64 0, .func (.func 46) #[] #[]] w fun e w' => e = .returned (.tuple #[]) ∧ w = w' := fun w => by
    go_enter Tryz.func59, Tryz.ntmps59
    go_wp2
    go_loopw [7, 8] (fun va vb wr => va = .int .i64 0 ∧ vb = .int .i64 20 ∧ Hid (wr = w)) (fun _ _ _ => 0)
    case atStart => exact ⟨rfl, rfl, Lib.hid rfl⟩
    case round =>
      obtain ⟨rfl, rfl, HW⟩ := hrel
      go_wp2_with fail
      rw [HW.out]
      refine (HI w).mono ?_
      rintro e w1 ⟨rfl, hw1⟩
      subst hw1
      go_wp2
      go_loopw [6, 7, 8, 9] (fun vz va vb vm wr => vz = .int .i64 20 ∧ Hid (wr = w)) (fun _ _ _ _ _ => 0)
      case atStart => exact ⟨rfl, Lib.hid rfl⟩
      case round =>
        obtain ⟨rfl, HW1⟩ := hrel
        go_wp2
        go_end0
        exact ⟨rfl, HW1.out.symm⟩
  have HX := Lib.hid HS
  clear HI HS
  go_enter Tryz.func45, Tryz.ntmps45
  go_wp2_with fail
  refine (HX.out _).mono ?_
  rintro e w1 ⟨rfl, hw1⟩
  subst hw1
  go_wp2
  go_end0
  exact ⟨rfl, rfl⟩
theorem compact_nil (w : World) : Calls Tryz.prog 48 #[.slice none 0 0, .func (.func 49) #[] #[]] w fun e w' => e = .returned (.slice none 0 0) ∧ w = w' := by
  go_enter Tryz.func48, Tryz.ntmps48
  go_wp2
  go_ret
  exact ⟨rfl, rfl⟩
/-- seals in a row are sorted, and of each number the first stays -/
theorem FindI.sorted {w wr w1 : World} {g C : Nat} {xs ys : List Sx} (h : FindI w (.slice (some ⟨g, 0, none⟩) xs.length C) xs wr) (hk : Kp (· = g) wr w1) (hs : SitsX w1 g 0 ys) (hm : ∀ y ∈ ys, y ∈ xs) (hl : ys.length ≤ C) (hC : C ≤ maxLen) :
    FindA (ys.map Sx.s) w (.returned (.slice (some ⟨g, 0, none⟩) ys.length C)) w1 := by
  have hlo : w.heap.size ≤ g := (h.own.lt g rfl).1
  refine ⟨_, C, ys, rfl, rfl, hl, hC, (fun e => by cases e), hs.rd hlo, fun y hy => ?_, h.bel.trans (hk.below h.bel.size fun k e => by rw [e]; exact hlo)⟩
  exact ((h.ok y (hm y hy)).kp hk (fun b hb e => hb.2 (by rw [e]; rfl))).mono fun b hb => hb.1
theorem FindI.drewN {w wr : World} {v : Value} {xs : List Sx} (h : FindI w v xs wr) (n : Nat) : FindI w v xs (wr.drewN n) := h.old ⟨rfl, rfl, rfl, Nat.le_refl _, fun _ _ => rfl⟩
theorem cands_take {ts : List St.T} {i : Nat} (h : i < ts.length) : Gr.cands (ts.take (i + 1)) = Gr.cands (ts.take i) ++ (match Gr.cand ts[i] with | none => [] | some s => [s]) := by
  rw [List.take_succ_eq_append_getElem h, Gr.cands_snoc]
  rfl
set_option maxRecDepth 100000 in
set_option maxHeartbeats 8000000 in
theorem find_any (A : Option Addr) (ts : List St.T) (C : Nat) (G : Nat → Prop) (w : World) (hn : ts.length ≤ 19) (hl : ∀ t ∈ ts, t.blocks.length ≤ 1000000 ∧ ∀ s ∈ t.blocks, s.length ≤ 1000000) (hr : RdT w A ts G) :
    Calls Tryz.prog 23 #[.slice A ts.length C] w (FindA (Gr.find ts) w) := by
  have HR := Lib.hid hr
  have HL := Lib.hid hl
  clear hr hl
  go_enter Tryz.func23, Tryz.ntmps23
  go_wp2
  go_loopw [10, 3] (fun vi v wr => ∃ (i : Nat) (xs : List Sx), i ≤ ts.length ∧ vi = .int .i64 (i : Int) ∧ Hid (FindI w v xs wr) ∧ xs.length ≤ i ∧ Hid (xs.map Sx.s = Gr.cands (ts.take i))) (fun vi _ _ => ts.length - (intOf vi).toNat)
  case atStart => exact ⟨0, [], Nat.zero_le _, rfl, Lib.hid (FindI.start w), Nat.le_refl _, Lib.hid rfl⟩
  case round =>
    obtain ⟨i, xs, hi, rfl, HI, hxi, HM⟩ := hrel
    by_cases hlt : i < ts.length
    · have e0 : decide (i < ts.length) = true := decide_eq_true hlt
      obtain ⟨b, off, A', C', rfl, -, c0, c1, c2, c3, hb⟩ := (HR.out.old HI.out.bel).at_ hlt
      have HLI := Lib.hid (HL.out _ (List.getElem_mem hlt))
      have HCT := Lib.hid (cands_take hlt)
      obtain ⟨⟨lab, cap, bs, lost⟩, ht⟩ : ∃ t, t = ts[i] := ⟨_, rfl⟩
      rw [← ht] at c0 c1 c2 c3 hb HLI HCT
      dsimp only at c0 c1 c2 c3 hb HLI
      obtain ⟨L, hL⟩ : ∃ L, L = bs.length := ⟨_, rfl⟩
      rw [← hL] at c2
      obtain ⟨wa, hwa⟩ : ∃ wa, wa = wr.alloc (tapeObj lab cap A' L C' lost) := ⟨_, rfl⟩
      have hba : Below wr.heap.size wr wa := by rw [hwa]; exact (Below.refl _ _).alloc (Nat.le_refl _) _
      have hTa : wa.heap[wr.heap.size]? = some (tapeObj lab cap A' L C' lost) := by rw [hwa]; exact Go.Deep.blk_alloc_new _ _
      have HT := Lib.hid hTa
      have HBA := Lib.hid hba
      have HCALL := Lib.hid (sealed_any lab cap bs A' L C' G lost wa hL (by rw [hL]; exact HLI.out.1) (hb.old hba) HLI.out.2)
      have HW : Hid (wa = wr.alloc (.cells #[.int .i64 lab, .int .i64 cap, .slice A' L C', .bool lost] 28)) := Lib.hid hwa
      obtain ⟨t0, t1, t2, t3⟩ := tape4 hTa
      rw [HW.out] at t0 t1 t2 t3
      have hlo : wr.heap.size < wa.heap.size := heap_lt hTa
      clear ht hL hwa hba hTa hb HLI
      have HCAND : Hid (Gr.cand ⟨lab, cap, bs, lost⟩ = match Gr.sealed ⟨lab, cap, bs, lost⟩ with | none => none | some s => if s.labels.getD s.index.toNat 0 = lab then some s else none) := Lib.hid rfl
      have HSOK : Hid (∀ s, Gr.sealed ⟨lab, cap, bs, lost⟩ = some s → Rc.SOk s) := Lib.hid fun s h => Gr.sealed_ok h
      obtain ⟨o, ho⟩ : ∃ o, o = Gr.sealed ⟨lab, cap, bs, lost⟩ := ⟨_, rfl⟩
      rw [← ho] at HCALL HCAND HSOK
      clear ho
      cases o with
      | none =>
        have HM2 : Hid (xs.map Sx.s = Gr.cands (ts.take (i + 1))) := Lib.hid (by rw [HCT.out, HCAND.out, HM.out]; exact (List.append_nil _).symm)
        clear HCAND HCT
        go_wp2_with fail
        rw [← HW.out]
        refine HCALL.out.mono ?_
        rintro e w1 ⟨⟨⟨sn, si, sd, sp, sl⟩, sA, sC⟩, rfl, -, hxo, hb1⟩
        obtain ⟨wd, hwd⟩ : ∃ wd, wd = w1.alloc (sealObj sn si sd sp sA sl.length sC) := ⟨_, rfl⟩
        have hbd : Below wa.heap.size wa wd := by rw [hwd]; exact hb1.alloc hb1.size _
        have hS : wd.heap[w1.heap.size]? = some (sealObj sn si sd sp sA sl.length sC) := by rw [hwd]; exact Go.Deep.blk_alloc_new _ _
        obtain ⟨x0, x1, x2, x3, x4⟩ := seal5 hS
        have HI2 := Lib.hid ((HI.out.old HBA.out).old hbd)
        have HWD := Lib.hid hwd
        unfold sealObj at HWD
        rw [HWD.out] at x0 x1 x2 x3 x4
        clear hwd hbd hS hxo hb1 t0 t1 t2 t3 c0 c1 c2 c3
        go_wp2
        go_quiet (fail)
        rw [← HWD.out]
        go_wp2
        go_roundw
        case rel => exact ⟨i + 1, xs, by omega, by go_num, Lib.hid (HI2.out.drewN _), by omega, HM2⟩
        case measure => simp [intOf]; omega
      | some s =>
        go_wp2_with fail
        rw [← HW.out]
        refine HCALL.out.mono ?_
        rintro e w1 ⟨⟨⟨sn, si, sd, sp, sl⟩, sA, sC⟩, rfl, hxs, hxo, hb1⟩
        have hxs' : (⟨sn, si, sd, sp, sl⟩ : Rc.S) = s := hxs
        subst hxs'
        have hok := HSOK.out _ rfl
        obtain ⟨k, rfl⟩ : ∃ k : Nat, si = (k : Int) := ⟨si.toNat, by have := hok.1.2.2.2.2.2.1; simp only at this; omega⟩
        have hkl : k < sl.length := by have := hok.1.2.2.2.2.2.2; simp only at this; omega
        obtain ⟨wd, hwd⟩ : ∃ wd, wd = w1.alloc (sealObj sn (k : Int) sd sp sA sl.length sC) := ⟨_, rfl⟩
        have hbs : Below w1.heap.size w1 wd := by rw [hwd]; exact (Below.refl _ _).alloc (Nat.le_refl _) _
        have hbd : Below wa.heap.size wa wd := hb1.trans (hbs.mono hb1.size)
        have hS : wd.heap[w1.heap.size]? = some (sealObj sn (k : Int) sd sp sA sl.length sC) := by rw [hwd]; exact Go.Deep.blk_alloc_new _ _
        obtain ⟨x0, x1, x2, x3, x4⟩ := seal5 hS
        obtain ⟨lb, lo, rfl, hlb, hlc⟩ := (hxo.rd.old hbs).at_ hkl
        have t0' := (tape4 (below_obj hbd HT.out)).1
        have HXO : Hid (Sx.Ok ⟨⟨sn, (k : Int), sd, sp, sl⟩, some ⟨lb, lo, none⟩, sC⟩ wd (wr.heap.size ≤ ·)) := Lib.hid ((hxo.old hbs).mono fun x hx => by have : wa.heap.size ≤ x := hx; omega)
        have HBD := Lib.hid (HBA.out.trans (hbd.mono HBA.out.size))
        have HS := Lib.hid hS
        have HI2 := Lib.hid ((HI.out.old HBA.out).old hbd)
        obtain ⟨m, hm⟩ : ∃ m, m = sl.length := ⟨_, rfl⟩
        obtain ⟨y, hy⟩ : ∃ y, y = sl[k] := ⟨_, rfl⟩
        have hkm : k < m := by rw [hm]; exact hkl
        have hCN : Hid (Gr.cand ⟨lab, cap, bs, lost⟩ = if y = lab then some ⟨sn, (k : Int), sd, sp, sl⟩ else none) := Lib.hid (by
          rw [HCAND.out, hy]
          show (if sl.getD ((k : Int)).toNat 0 = lab then _ else _) = _
          rw [show ((k : Int)).toNat = k by omega, List.getD_eq_getElem?_getD, List.getElem?_eq_getElem hkl]; rfl)
        rw [← hm] at x4
        rw [← hy] at hlc
        have HMM := Lib.hid hm
        have HWD := Lib.hid hwd
        unfold sealObj at HWD
        rw [← hm] at HWD ⊢
        have HW1 := Lib.hid (rfl : w1.heap.size = w1.heap.size)
        rw [HWD.out] at x0 x1 x2 x3 x4 hlc t0'
        clear hwd hbd hbs hS hxo hb1 t0 t1 t2 t3 c0 c1 c2 c3 hxs hok HSOK HCAND hlb hm hy hkl
        cases q1 : (y == lab) with
        | false =>
          have HM2 : Hid (xs.map Sx.s = Gr.cands (ts.take (i + 1))) := Lib.hid (by
            rw [HCT.out, hCN.out, if_neg (beq_eq_false_iff_ne.1 q1), HM.out]; exact (List.append_nil _).symm)
          clear HCT hCN
          go_wp2
          go_quiet (fail)
          rw [← HWD.out]
          go_wp2
          go_roundw
          case rel => exact ⟨i + 1, xs, by omega, by go_num, Lib.hid (HI2.out.drewN _), by omega, HM2⟩
          case measure => simp [intOf]; omega
        | true =>
          have HM2 : Hid ((xs ++ [(⟨⟨sn, (k : Int), sd, sp, sl⟩, some ⟨lb, lo, none⟩, sC⟩ : Sx)]).map Sx.s = Gr.cands (ts.take (i + 1))) := Lib.hid (by
            rw [HCT.out, hCN.out, if_pos (beq_iff_eq.1 q1), ← HM.out, List.map_append]; rfl)
          clear HCT hCN
          go_wp2
          go_quiet (fail)
          rw [← HWD.out]
          obtain ⟨wq, hwq⟩ : ∃ wq, wq = wd.drewN nq := ⟨_, rfl⟩
          have hbq : Below wd.heap.size wd wq := by
            rw [hwq]
            exact ⟨rfl, rfl, rfl, Nat.le_refl _, fun _ _ => rfl⟩
          rw [← hwq]
          have HBQ := Lib.hid hbq
          have HIQ := Lib.hid (HI2.out.old hbq)
          have HXQ := Lib.hid (HXO.out.old hbq)
          have hSQ := below_obj hbq HS.out
          clear x0 x1 x2 x3 x4 hlc t0'
          obtain ⟨x0, x1, x2, x3, x4⟩ := seal5 hSQ
          rw [← HMM.out] at x4
          clear hSQ hwq hbq
          have HOB := Lib.hid (HIQ.out.own.old (w' := wq.alloc (.cells (Sx.enc ⟨⟨sn, (k : Int), sd, sp, sl⟩, some ⟨lb, lo, none⟩, sC⟩).toArray 90)) ((Below.refl _ _).alloc (Nat.le_refl _) _))
          have HNEW := Lib.hid (newCellsAt wq (Sx.enc ⟨⟨sn, (k : Int), sd, sp, sl⟩, some ⟨lb, lo, none⟩, sC⟩) 90 wq.heap.size rfl)
          have hsz : w.heap.size ≤ wq.heap.size := HIQ.out.bel.size
          have HBE : Hid (Below wr.heap.size wr wq) := Lib.hid (HBD.out.trans (HBQ.out.mono HBD.out.size))
          unfold Sx.enc at HOB HNEW
          dsimp only at HOB HNEW
          rw [← HMM.out] at HOB HNEW
          go_wp2_with (at_builtin; refine wpList_append_stL encX _ rfl _ _ _ rfl w.heap.size 90 _ 56 Tryz.underlying54 infoSeal rfl _ xs rfl HOB.out ⟨wq.heap.size, 0, none⟩ 1 1 [(⟨⟨sn, (k : Int), sd, sp, sl⟩, some ⟨lb, lo, none⟩, sC⟩ : Sx)] rfl rfl (by decide) (by rw [Enc.cells_one]; show ∀ j u, (Sx.enc _)[j]? = some u → _; unfold Sx.enc; dsimp only; rw [← HMM.out]; exact HNEW.out) (by unfold maxLen; omega) (by omega) (by simp; omega) (wq.heap.size + 1) (by simp) ?_; intro g cap w3 hO3 hg3 hat3 _; have HI3 := Lib.hid (HI.out.push (x := ⟨⟨sn, (k : Int), sd, sp, sl⟩, some ⟨lb, lo, none⟩, sC⟩) HBE.out HXQ.out hO3 hg3 hat3); clear hO3 hg3 hat3)
          go_wp2
          go_roundw
          case rel => exact ⟨i + 1, _, by omega, by go_num, HI3, by simp; omega, HM2⟩
          case measure => simp [intOf]; omega
    · have e0 : decide (i < ts.length) = false := decide_eq_false hlt
      have HM2 : Hid (xs.map Sx.s = Gr.cands ts) := Lib.hid (by rw [HM.out, List.take_of_length_le (by omega)])
      have HFIN : Hid ((So.compact Sx.num (So.isort Sx.num xs)).map Sx.s = Gr.find ts) := Lib.hid (by
        rw [So.all_is (f := Sx.num) (g := Sx.s) (fun _ => rfl), HM2.out]; rfl)
      rcases sits_own HI.out.own with ⟨rfl, rfl⟩ | ⟨g, cap, rfl, hc1, hc2, hlo, hsit⟩
      · go_wp2_with fail
        refine (sort_nil wr).mono ?_
        rintro e w1 ⟨rfl, hw1⟩
        subst hw1
        go_wp2_with fail
        refine (compact_nil wr).mono ?_
        rintro e w1 ⟨rfl, hw1⟩
        subst hw1
        go_wp2
        go_ret
        refine ⟨none, 0, [], rfl, HFIN.out, Nat.le_refl _, by decide, fun _ => ⟨rfl, rfl⟩, Enc.Rd.nil _ _ _, (fun x hx => by cases hx), HI.out.bel⟩
      · have HSIT := Lib.hid hsit
        have HC1 := Lib.hid hc1
        have HC2 := Lib.hid hc2
        obtain ⟨n, hn'⟩ : ∃ n, n = xs.length := ⟨_, rfl⟩
        have hn2 : n < 20 := by omega
        have HNX := Lib.hid hn'
        rw [← hn']
        clear hsit hc1 hc2 hn' hxi
        go_wp2_with fail
        refine (sort_any g 0 xs n cap wr HNX.out hn2 HSIT.out).mono ?_
        rintro e w1 ⟨rfl, hs1⟩
        have HS1 := Lib.hid hs1
        have HNY : Hid (n = (So.isort Sx.num xs).length) := Lib.hid (by rw [So.isort_len]; exact HNX.out)
        clear hs1
        go_wp2_with fail
        refine (compact_any g 0 (So.isort Sx.num xs) n cap w1 HNY.out (by have := HC1.out; have := HNX.out; omega) (by omega) HS1.out.sits).mono ?_
        rintro e w2 ⟨rfl, hs2⟩
        have HS2 := Lib.hid hs2
        clear hs2
        go_wp2
        go_ret
        rw [← HFIN.out]
        have hfi := HI.out
        exact hfi.sorted (HS1.out.kp.trans HS2.out.kp) HS2.out.sits (fun y hy => So.mem_isort.1 (So.mem_compact hy)) (Nat.le_trans (So.compact_le _ _) (by rw [So.isort_len]; exact HC1.out)) HC2.out
end Go.Proofs.YtndofmoepjfnfaaGreat
namespace Go.Proofs.YtndofmoepjfnfaaGreat
open Go.RowKit
open Pt (Tx)

/-- a file in a block -/
def fileO (P : Tx) (v z s r : Int) (b : Bool) (A : Option Addr) (m C : Nat) : Obj := .cells #[.string (tx P), .int .i64 v, .int .i64 z, .int .i64 s, .int .i64 r, .bool b, .slice A m C] 45
theorem file7 {w : World} {B : Nat} {P : Tx} {v z s r : Int} {b : Bool} {A : Option Addr} {m C : Nat} (h : w.heap[B]? = some (fileO P v z s r b A m C)) :
    w.cell? ⟨B, 0, none⟩ = some (.string (tx P)) ∧ w.cell? ⟨B, 1, none⟩ = some (.int .i64 v) ∧ w.cell? ⟨B, 2, none⟩ = some (.int .i64 z) ∧ w.cell? ⟨B, 3, none⟩ = some (.int .i64 s) ∧ w.cell? ⟨B, 4, none⟩ = some (.int .i64 r) ∧ w.cell? ⟨B, 5, none⟩ = some (.bool b) ∧ w.cell? ⟨B, 6, none⟩ = some (.slice A m C) :=
  ⟨heap_cell h, heap_cell h, heap_cell h, heap_cell h, heap_cell h, heap_cell h, heap_cell h⟩
theorem file_free {w : World} {B : Nat} {P : Tx} {v z s r : Int} {b : Bool} {A : Option Addr} {m C : Nat} (h : w.heap[B]? = some (fileO P v z s r b A m C)) :
    w.frozen? ⟨B, 0, none⟩ = false ∧ w.frozen? ⟨B, 1, none⟩ = false ∧ w.frozen? ⟨B, 2, none⟩ = false ∧ w.frozen? ⟨B, 3, none⟩ = false ∧ w.frozen? ⟨B, 4, none⟩ = false ∧ w.frozen? ⟨B, 5, none⟩ = false ∧ w.frozen? ⟨B, 6, none⟩ = false :=
  ⟨heap_frozen h, heap_frozen h, heap_frozen h, heap_frozen h, heap_frozen h, heap_frozen h, heap_frozen h⟩
theorem seven_set {w : World} {g : Nat} {P0 : Tx} {v0 z0 s0 r0 : Int} {b0 : Bool} {A0 : Option Addr} {m0 C0 : Nat} (h : w.heap[g]? = some (fileO P0 v0 z0 s0 r0 b0 A0 m0 C0)) (P : Tx) (v z s r : Int) (b : Bool) (A : Option Addr) (m C : Nat) :
    (((((((w.setCell ⟨g, 0, none⟩ (.string (tx P))).setCell ⟨g, 1, none⟩ (.int .i64 v)).setCell ⟨g, 2, none⟩ (.int .i64 z)).setCell ⟨g, 3, none⟩ (.int .i64 s)).setCell ⟨g, 4, none⟩ (.int .i64 r)).setCell ⟨g, 5, none⟩ (.bool b)).setCell ⟨g, 6, none⟩ (.slice A m C)).heap[g]? = some (fileO P v z s r b A m C) := by
  have h0 : (w.setCell ⟨g, 0, none⟩ (.string (tx P))).heap[g]? = some (.cells #[.string (tx P), .int .i64 v0, .int .i64 z0, .int .i64 s0, .int .i64 r0, .bool b0, .slice A0 m0 C0] 45) := heap_set h _
  have h1 : ((w.setCell ⟨g, 0, none⟩ (.string (tx P))).setCell ⟨g, 1, none⟩ (.int .i64 v)).heap[g]? = some (.cells #[.string (tx P), .int .i64 v, .int .i64 z0, .int .i64 s0, .int .i64 r0, .bool b0, .slice A0 m0 C0] 45) := heap_set h0 _
  have h2 : (((w.setCell ⟨g, 0, none⟩ (.string (tx P))).setCell ⟨g, 1, none⟩ (.int .i64 v)).setCell ⟨g, 2, none⟩ (.int .i64 z)).heap[g]? = some (.cells #[.string (tx P), .int .i64 v, .int .i64 z, .int .i64 s0, .int .i64 r0, .bool b0, .slice A0 m0 C0] 45) := heap_set h1 _
  have h3 : ((((w.setCell ⟨g, 0, none⟩ (.string (tx P))).setCell ⟨g, 1, none⟩ (.int .i64 v)).setCell ⟨g, 2, none⟩ (.int .i64 z)).setCell ⟨g, 3, none⟩ (.int .i64 s)).heap[g]? = some (.cells #[.string (tx P), .int .i64 v, .int .i64 z, .int .i64 s, .int .i64 r0, .bool b0, .slice A0 m0 C0] 45) := heap_set h2 _
  have h4 : (((((w.setCell ⟨g, 0, none⟩ (.string (tx P))).setCell ⟨g, 1, none⟩ (.int .i64 v)).setCell ⟨g, 2, none⟩ (.int .i64 z)).setCell ⟨g, 3, none⟩ (.int .i64 s)).setCell ⟨g, 4, none⟩ (.int .i64 r)).heap[g]? = some (.cells #[.string (tx P), .int .i64 v, .int .i64 z, .int .i64 s, .int .i64 r, .bool b0, .slice A0 m0 C0] 45) := heap_set h3 _
  have h5 : ((((((w.setCell ⟨g, 0, none⟩ (.string (tx P))).setCell ⟨g, 1, none⟩ (.int .i64 v)).setCell ⟨g, 2, none⟩ (.int .i64 z)).setCell ⟨g, 3, none⟩ (.int .i64 s)).setCell ⟨g, 4, none⟩ (.int .i64 r)).setCell ⟨g, 5, none⟩ (.bool b)).heap[g]? = some (.cells #[.string (tx P), .int .i64 v, .int .i64 z, .int .i64 s, .int .i64 r, .bool b, .slice A0 m0 C0] 45) := heap_set h4 _
  have h6 : (((((((w.setCell ⟨g, 0, none⟩ (.string (tx P))).setCell ⟨g, 1, none⟩ (.int .i64 v)).setCell ⟨g, 2, none⟩ (.int .i64 z)).setCell ⟨g, 3, none⟩ (.int .i64 s)).setCell ⟨g, 4, none⟩ (.int .i64 r)).setCell ⟨g, 5, none⟩ (.bool b)).setCell ⟨g, 6, none⟩ (.slice A m C)).heap[g]? = some (.cells #[.string (tx P), .int .i64 v, .int .i64 z, .int .i64 s, .int .i64 r, .bool b, .slice A m C] 45) := heap_set h5 _
  exact h6
theorem seven_zero {w : World} {g : Nat} {P0 : Tx} {v0 z0 s0 r0 : Int} {b0 : Bool} {A0 : Option Addr} {m0 C0 : Nat} (h : w.heap[g]? = some (fileO P0 v0 z0 s0 r0 b0 A0 m0 C0)) :
    (((((((w.setCell ⟨g, 0, none⟩ (.string ⟨#[]⟩)).setCell ⟨g, 1, none⟩ (.int .i64 0)).setCell ⟨g, 2, none⟩ (.int .i64 0)).setCell ⟨g, 3, none⟩ (.int .i64 0)).setCell ⟨g, 4, none⟩ (.int .i64 0)).setCell ⟨g, 5, none⟩ (.bool false)).setCell ⟨g, 6, none⟩ (.slice none 0 0)).heap[g]? = some (.cells #[.string ⟨#[]⟩, .int .i64 0, .int .i64 0, .int .i64 0, .int .i64 0, .bool false, .slice none 0 0] 45) := seven_set h [] 0 0 0 0 false none 0 0
theorem zero7 {w : World} {B : Nat} (h : w.heap[B]? = some (.cells #[.string ⟨#[]⟩, .int .i64 0, .int .i64 0, .int .i64 0, .int .i64 0, .bool false, .slice none 0 0] 45)) :
    w.cell? ⟨B, 0, none⟩ = some (.string ⟨#[]⟩) ∧ w.cell? ⟨B, 1, none⟩ = some (.int .i64 0) ∧ w.cell? ⟨B, 2, none⟩ = some (.int .i64 0) ∧ w.cell? ⟨B, 3, none⟩ = some (.int .i64 0) ∧ w.cell? ⟨B, 4, none⟩ = some (.int .i64 0) ∧ w.cell? ⟨B, 5, none⟩ = some (.bool false) ∧ w.cell? ⟨B, 6, none⟩ = some (.slice none 0 0) :=
  ⟨heap_cell h, heap_cell h, heap_cell h, heap_cell h, heap_cell h, heap_cell h, heap_cell h⟩
theorem seven_kp (w : World) (g : Nat) (u0 u1 u2 u3 u4 u5 u6 : Value) : Kp (· = g) w (((((((w.setCell ⟨g, 0, none⟩ u0).setCell ⟨g, 1, none⟩ u1).setCell ⟨g, 2, none⟩ u2).setCell ⟨g, 3, none⟩ u3).setCell ⟨g, 4, none⟩ u4).setCell ⟨g, 5, none⟩ u5).setCell ⟨g, 6, none⟩ u6) :=
  (((((((Kp.store _ _ _ _).trans (Kp.store _ _ _ _)).trans (Kp.store _ _ _ _)).trans (Kp.store _ _ _ _)).trans (Kp.store _ _ _ _)).trans (Kp.store _ _ _ _)).trans (Kp.store _ _ _ _))
/-- a store of what is there turns nothing -/
theorem setCell_same {w : World} {g j : Nat} {c : Array Value} {t : TypeId} {fr : Nat × Nat} {v : Value} (h : w.heap[g]? = some (.cells c t fr)) (hv : w.cell? ⟨g, j, none⟩ = some v) : w.setCell ⟨g, j, none⟩ v = w := by
  rw [heap_cell h] at hv
  have hc : c.setIfInBounds j v = c := by
    apply Array.ext_getElem?
    intro i
    rw [Array.getElem?_setIfInBounds]
    split
    · rename_i e
      subst e
      split
      · exact hv.symm
      · rename_i hlt
        rw [Array.getElem?_eq_none (by omega)] at hv
        cases hv
    · rfl
  have hh : (w.setCell ⟨g, j, none⟩ v).heap = w.heap := by
    apply Array.ext_getElem?
    intro i
    by_cases e : i = g
    · subst e; rw [heap_set h v, hc, h]
    · exact Below.heap_setCell _ _ _ _ (fun h => e h)
  have hd : ∀ (h' : Array Obj), h' = w.heap → ({ w with heap := h' } : World) = w := by rintro h' rfl; rfl
  exact hd _ hh
/-- an own row of parts, at one of them -/
theorem ownQ_at {w : World} {base : Nat} {v : Value} {l : List Ct.P} (h : encQ.Own w base 74 v l) {i : Nat} (hi : i < l.length) : ∃ g C c, v = .slice (some ⟨g, 0, none⟩) l.length C ∧ base ≤ g ∧ w.heap[g]? = some (.cells c 74 (0, 0)) ∧ Ten w g (i * 10) l[i] := by
  obtain ⟨A, C, hv, -, -, -, hr⟩ := h.rd
  obtain ⟨b, off, e, hg, ht⟩ := ten_of hr hi
  rcases h.2 with ⟨e0, h0⟩ | ⟨g, cap, cur, e0, hb, hgg, _⟩
  · omega
  · rw [e0] at hv
    injection hv with h1 h2 h3
    rw [e] at h1
    injection h1 with h1
    injection h1 with h1 h4
    subst h1 h4
    rw [Nat.zero_add] at ht
    exact ⟨g, cap, cur, e0, hb, hgg, ht⟩
theorem two_files {w wb : World} {o1 o2 : Obj} (h : wb = (w.alloc o1).alloc o2) : Below w.heap.size w wb ∧ wb.heap[w.heap.size]? = some o1 ∧ wb.heap[w.heap.size + 1]? = some o2 := by
  have hb1 : Below w.heap.size w (w.alloc o1) := (Below.refl _ _).alloc (Nat.le_refl _) _
  have h1 : (w.alloc o1).heap[w.heap.size]? = some o1 := Go.Deep.blk_alloc_new _ _
  have h2 := Go.Deep.blk_alloc_new (w.alloc o1) o2
  rw [show (w.alloc o1).heap.size = w.heap.size + 1 by simp] at h2
  subst h
  exact ⟨hb1.alloc hb1.size _, (Below.heap_alloc _ _ _ (heap_lt h1)).trans h1, h2⟩
theorem lessB_is : ∀ (x y : List UInt8), Op.bytesLess x y = decide (x < y)
  | [], [] => by simp [Op.bytesLess]
  | _ :: _, [] => by simp [Op.bytesLess]
  | [], _ :: _ => by simp [Op.bytesLess]
  | a :: x, b :: y => by
    rw [Op.bytesLess, lessB_is x y]
    simp only [List.cons_lt_cons_iff]
    by_cases h : a < b <;> by_cases h' : a = b <;> simp [h, h']
end Go.Proofs.YtndofmoepjfnfaaGreat
