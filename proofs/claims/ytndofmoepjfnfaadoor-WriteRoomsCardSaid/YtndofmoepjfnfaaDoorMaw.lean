/- What File of package write answers of one blank tape and one byte: four steps. -/
import Derived.Test.YtndofmoepjfnfaaDoorMau
import Derived.Test.YtndofmoepjfnfaaDoorMav
import Derived.Test.YtndofmoepjfnfaaDoorSpPlan
import Derived.Test.YtndofmoepjfnfaaDoorMai
import Derived.Test.YtndofmoepjfnfaaDoorMah
import Derived.Lib.SmallJoins
import Derived.Deep.RegionHeld3
import Derived.Deep.RegionLaw
import Derived.Deep.DeepFit
import Derived.Deep.DeepCutAuto
import Derived.BigQuiet
import Derived.Deep.QuietTactic
namespace Go.Proofs.YtndofmoepjfnfaaDoor
open Go.RowKit
open Pt (Tx)

namespace Wk
/-- the head of the one part -/
def h1 (sm : Int) : Rc.H := ⟨[97], 1, 1, 0, 1, 1, sm, false⟩
/-- the four blocks of the one part, the tape's label's ahead -/
noncomputable def four : List Tx := Fm.blk (Vo.first 1 [68]) :: Vo.put 1 1 (h1 (sumL [120])) [120]
theorem right1 : Vo.Right 1 1 (h1 (sumL [120])) [120] := by
  have := sumL_lo [120]
  have := sumL_hi [120]
  refine ⟨⟨⟨by decide, ⟨?_, ?_⟩, ⟨?_, ?_⟩, ⟨?_, ?_⟩, ?_, ?_, ?_, ?_, ⟨?_, ?_⟩, fun h => by cases h⟩, by rfl⟩, by decide, by decide, by decide⟩ <;> (unfold h1; simp only; omega)
theorem four_len : four.length = 4 := by
  unfold four
  rw [List.length_cons, Vo.put_len right1]
  rfl
theorem rooms1 : Wr.rooms [⟨1, 9, [], false⟩] [] = [8] := by
  simp [Wr.rooms, Wr.room, Gr.of]; decide
theorem plan1 : Sp.plan [8] 1 = [⟨0, 0, 1⟩] := by rfl
theorem err1 : Sp.err [8] 1 = 0 := by decide
end Wk

/-- the steps -/
noncomputable def fourS : List (Int × Tx) := Wk.four.map fun b => (0, b)
theorem fourS_at (i : Nat) (h : i < Wk.four.length) (h' : i < fourS.length) : fourS[i] = (0, Wk.four[i]) := by
  have e : fourS[i]? = some (0, Wk.four[i]) := by unfold fourS; rw [List.getElem?_map, List.getElem?_eq_getElem h]; rfl
  rw [List.getElem?_eq_getElem h'] at e
  exact Option.some.inj e
def FileA (l : List (Int × Tx)) (w : World) (e : Ending) (w' : World) : Prop := ∃ A C, e = .returned (.tuple #[.slice A l.length C, .int .i64 0]) ∧ l.length ≤ C ∧ StpR w' A l (fun _ => True) ∧ Below w.heap.size w w'
def pieceO (t f l : Int) : Obj := .cells #[.int .i64 t, .int .i64 f, .int .i64 l] 77
theorem slice_one (bb : Nat) (y : World) : (Instr.sliceAt 26 (.slice (some ⟨bb, 0, none⟩) 1 1) (some (.int .i64 0)) (some (.int .i64 1)) none).run Tryd.prog y = .ok (.slice (some ⟨bb, 0, none⟩) 1 1) y := by
  rw [run_sliceAt_slice (P := Tryd.prog) y _ _ _ _ _ (by kernel_rfl), run_slice_lh (P := Tryd.prog) y _ (some ⟨bb, 0, none⟩) 1 1 (by kernel_rfl) .i64 .i64 0 1 (by omega) (by omega) (by omega)]
  have h2 : (sizeOf (Tryd.prog.elem 26)).run Tryd.prog y = .ok 1 y := by
    have : Tryd.prog.elem 26 = 5 := by kernel_rfl
    rw [this]
    simp [go_sem]
  rw [h2]
  rfl
/-- the four rows as steps' cells -/
theorem sv_rows {w : World} {A : Option Addr} {bs : List Tx} {G : Nat → Prop} (h : RdB w A bs G) (ad : Addr) (hA : A = some ad) : ∃ svs : List Sv, svs.length = bs.length ∧ ∀ i (hi : i < bs.length), ∃ A' C', svs[i]? = some ⟨0, A', bs[i].length, C'⟩ ∧ w.cell? (ad.add i) = some (.slice A' bs[i].length C') ∧ bs[i].length ≤ C' ∧ (A' = none → bs[i].length = 0 ∧ C' = 0) ∧ RdL w A' bs[i] G := by
  subst hA
  obtain ⟨us, h1, h2⟩ := rows_of h
  refine ⟨us.map fun u => match u with | .slice A n C => ⟨0, A, n, C⟩ | _ => ⟨0, none, 0, 0⟩, by rw [List.length_map, h1], fun i hi => ?_⟩
  obtain ⟨A', C', e, h3⟩ := h2 i hi
  exact ⟨A', C', by rw [List.getElem?_map, e]; rfl, h3⟩
set_option maxRecDepth 100000 in
set_option maxHeartbeats 16000000 in
theorem file1_any (A1 : Option Addr) (C1 : Nat) (bb : Nat) (G1 G3 : Nat → Prop) (w : World) (hk : Kept w) (hr1 : RdT w A1 [⟨1, 9, [], false⟩] G1) (hrb : RdL w (some ⟨bb, 0, none⟩) [120] G3) :
    Calls Tryd.prog 12 #[.slice A1 1 C1, .slice none 0 0, .agg #[.string (tx [97]), .int .i64 1, .int .i64 1, .int .i64 0, .int .i64 0, .int .i64 1, .int .i64 0, .bool false], .slice (some ⟨bb, 0, none⟩) 1 1] w (FileA fourS w) := by
  obtain ⟨wa, hwa⟩ : ∃ wa, wa = w.alloc (headObj [97] 1 1 0 0 1 0 false) := ⟨_, rfl⟩
  have hB : Below w.heap.size w wa := by rw [hwa]; exact (Below.refl _ _).alloc (Nat.le_refl _) _
  have hH : wa.heap[w.heap.size]? = some (headObj [97] 1 1 0 0 1 0 false) := by rw [hwa]; exact Go.Deep.blk_alloc_new _ _
  have hRC : Calls Tryd.prog 11 #[.slice A1 1 C1, .slice none 0 0] wa (RoomA [8] wa) := by
    have := rooms_any [⟨1, 9, [], false⟩] [] A1 1 C1 none 0 0 G1 (fun _ => True) wa rfl (hr1.old hB) (by decide) rfl (by decide) (Enc.Rd.nil _ _ _) (by simp) (by simp) (by simp [Wk.flat]) (fun t ht => by
      rw [List.mem_singleton] at ht
      subst ht
      exact ⟨by simp, by simp, by rfl, by simp, by simp⟩)
    rw [List.map_nil, Wk.rooms1] at this
    exact this
  have hPC : ∀ (y : World) (A' : Option Addr) (C' : Nat) (G : Nat → Prop), RdZ y A' [8] G → Calls Tryd.prog 29 #[.slice A' 1 C', .int .i64 1] y (PlanA [⟨0, 0, 1⟩] 0 y) := fun y A' C' G hy => by
    have := plan_any [8] 1 A' 1 C' G y rfl (by decide) (by decide) (by decide) hy
    rw [Wk.plan1, Wk.err1] at this
    exact this
  have HRC := Lib.hid hRC
  have HPC := Lib.hid hPC
  have HB := Lib.hid hB
  have HH := Lib.hid hH
  obtain ⟨tb, toff, At, Ct, rfl, -, c0, c1, c2, c3, -⟩ := hr1.at_ (i := 0) (by simp)
  have HT : Hid (w.cell? ⟨tb, toff, none⟩ = some (.int .i64 1) ∧ w.cell? ⟨tb, toff + 1, none⟩ = some (.int .i64 9) ∧ w.cell? ⟨tb, toff + 2, none⟩ = some (.slice At 0 Ct) ∧ w.cell? ⟨tb, toff + 3, none⟩ = some (.bool false)) := Lib.hid ⟨by simpa using c0, by simpa using c1, by simpa using c2, by simpa using c3⟩
  have HRB := Lib.hid hrb
  have HK := Lib.hid hk
  have HW : Hid (wa = w.alloc (.cells #[.string (tx [97]), .int .i64 1, .int .i64 1, .int .i64 0, .int .i64 0, .int .i64 1, .int .i64 0, .bool false] 50)) := Lib.hid hwa
  clear hRC hPC hB hH hr1 hrb hwa hk c0 c1 c2 c3
  go_enter Tryd.func12, Tryd.ntmps12
  go_wp2_with fail
  rw [← HW.out]
  refine HRC.out.mono ?_
  rintro e w1 ⟨Ar, Cr, rfl, hrr, hb⟩
  have HB1 := Lib.hid (HB.out.trans (hb.mono HB.out.size))
  have HH1 := Lib.hid ((hb.block _ (heap_lt HH.out)).trans HH.out)
  have HC := Lib.hid (HPC.out w1 Ar Cr _ hrr)
  clear hrr hb
  go_wp2_with fail
  refine HC.out.mono ?_
  rintro e w2 ⟨Ap, Cp, rfl, -, -, -, hrp, hb⟩
  have HB2 := Lib.hid (HB1.out.trans (hb.mono HB1.out.size))
  have HH2 := Lib.hid ((hb.block _ (heap_lt HH1.out)).trans HH1.out)
  have HRP := Lib.hid hrp
  have HS1 : Hid (w.heap.size < w1.heap.size) := Lib.hid (heap_lt HH1.out)
  clear hrp hb HC HPC HRC
  obtain ⟨a0, a1, a2, a3, a4, a5, a6, a7⟩ := head8 HH2.out
  have y6 : w2.frozen? ⟨w.heap.size, 6, none⟩ = false := heap_frozen HH2.out
  have hw4 : IntKind.i64.wrap (sumL [120]) = sumL [120] := by
    have := sumL_lo [120]
    have := sumL_hi [120]
    rw [IntKind.wrap_i64]; omega
  have hs4 : List.length ([120] : Tx) ≤ maxLen := by decide
  go_upto_region 7 with (go_at_call 30; refine (sumL_any (some ⟨bb, 0, none⟩) [120] 1 1 _ w2 rfl hs4 (HRB.out.old HB2.out)).mono ?_; rintro e w9 ⟨rfl, hw⟩; subst hw)
  obtain ⟨sm, hsm⟩ : ∃ sm, sm = sumL [120] := ⟨_, rfl⟩
  obtain ⟨w3, hw3⟩ : ∃ w3, w3 = w2.setCell ⟨w.heap.size, 6, none⟩ (.int .i64 sm) := ⟨_, rfl⟩
  rw [← hsm, ← hw3]
  have HB3 : Hid (Below w.heap.size w w3) := Lib.hid (by rw [hw3]; exact HB2.out.setCell (Nat.le_refl _) _)
  have HH3 : Hid (w3.heap[w.heap.size]? = some (headObj [97] 1 1 0 0 1 sm false)) := Lib.hid (by
    rw [hw3, hsm]; unfold headObj at HH2; rw [heap_set HH2.out]; rfl)
  obtain ⟨pb, po, rfl, hpb, hpc⟩ := HRP.out.at_ (i := 0) (by simp)
  have hS1 := HS1.out
  have hpne : ¬ (⟨pb, po, none⟩ : Addr).block = w.heap.size := by show ¬ pb = _; omega
  have q0 : w3.cell? ⟨pb, po, none⟩ = some (.int .i64 0) := by rw [hw3]; exact (Kp.store w2 w.heap.size 6 _).cell (hpc 0 _ rfl) hpne
  have q1 : w3.cell? ⟨pb, po + 1, none⟩ = some (.int .i64 0) := by rw [hw3]; exact (Kp.store w2 w.heap.size 6 _).cell (by have := hpc 1 _ rfl; simpa using this) hpne
  have q2 : w3.cell? ⟨pb, po + 2, none⟩ = some (.int .i64 1) := by rw [hw3]; exact (Kp.store w2 w.heap.size 6 _).cell (by have := hpc 2 _ rfl; simpa using this) hpne
  have HSM := Lib.hid hsm
  clear hsm hw3 a0 a1 a2 a3 a4 a5 a6 a7 y6 hw4 hs4 hpc hpne HRP HH1 HB1 HH2 HB HH
  go_wp2
  go_loopw [42, 12] (fun vi vo wr => (vi = .int .i64 0 ∧ vo = .slice none 0 0 ∧ wr = w3) ∨ (vi = .int .i64 1 ∧ Hid (∃ A C, vo = .slice A fourS.length C ∧ fourS.length ≤ C ∧ StpR wr A fourS (fun _ => True) ∧ Below w.heap.size w wr))) (fun vi _ _ => 1 - (intOf vi).toNat)
  case atStart => exact .inl ⟨rfl, rfl, rfl⟩
  case round =>
    rcases hrel with ⟨rfl, rfl, rfl⟩ | ⟨rfl, HF⟩
    · obtain ⟨wP, hwP⟩ : ∃ x, x = wr.alloc (.cells #[.int .i64 0, .int .i64 0, .int .i64 1] 77) := ⟨_, rfl⟩
      go_upto_region 11 with fail
      rw [← hwP]
      have hbP : Below wr.heap.size wr wP := by rw [hwP]; exact (Below.refl _ _).alloc (Nat.le_refl _) _
      have hPP : wP.heap[wr.heap.size]? = some (pieceO 0 0 1) := by rw [hwP]; exact Go.Deep.blk_alloc_new _ _
      have hHP : wP.heap[w.heap.size]? = some (headObj [97] 1 1 0 0 1 sm false) := (hbP.block _ (heap_lt HH3.out)).trans HH3.out
      have hwlt : w.heap.size < wr.heap.size := heap_lt HH3.out
      obtain ⟨w8, hw8⟩ : ∃ x, x = wP.setCell ⟨w.heap.size, 3, none⟩ (.int .i64 0) := ⟨_, rfl⟩
      obtain ⟨w9, hw9⟩ : ∃ x, x = w8.setCell ⟨w.heap.size, 4, none⟩ (.int .i64 1) := ⟨_, rfl⟩
      have hH8 : w8.heap[w.heap.size]? = some (headObj [97] 1 1 0 0 1 sm false) := by
        rw [hw8]; unfold headObj at hHP; rw [heap_set hHP]; rfl
      have hH9 : w9.heap[w.heap.size]? = some (headObj [97] 1 1 0 1 1 sm false) := by
        rw [hw9]; unfold headObj at hH8; rw [heap_set hH8]; rfl
      have hP8 : w8.heap[wr.heap.size]? = some (pieceO 0 0 1) := by
        rw [hw8]; exact ((Kp.store wP w.heap.size 3 _).block _ (heap_lt hPP) (by omega)).trans hPP
      have hP9 : w9.heap[wr.heap.size]? = some (pieceO 0 0 1) := by
        rw [hw9]; exact ((Kp.store w8 w.heap.size 4 _).block _ (heap_lt hP8) (by omega)).trans hP8
      have r1 : wP.cell? ⟨wr.heap.size, 1, none⟩ = some (.int .i64 0) := heap_cell hPP
      have r2 : wP.cell? ⟨wr.heap.size, 2, none⟩ = some (.int .i64 1) := heap_cell hPP
      have f3 : wP.frozen? ⟨w.heap.size, 3, none⟩ = false := heap_frozen hHP
      have f4 : wP.frozen? ⟨w.heap.size, 4, none⟩ = false := heap_frozen hHP
      have c3 : wP.cell? ⟨w.heap.size, 3, none⟩ = some (.int .i64 0) := heap_cell hHP
      have c4 : wP.cell? ⟨w.heap.size, 4, none⟩ = some (.int .i64 0) := heap_cell hHP
      have hne1 : ¬ wr.heap.size = w.heap.size := by omega
      have hb9 : Below w.heap.size w w9 := by
        rw [hw9, hw8]
        exact ((HB3.out.trans (hbP.mono HB3.out.size)).setCell (Nat.le_refl _) _).setCell (Nat.le_refl _) _
      have hs9 : w9.heap.size = wr.heap.size + 1 := by rw [hw9, hw8, hwP]; simp
      have HH9 := Lib.hid hH9
      have HP9 := Lib.hid hP9
      have HW9 : Hid (w9 = (wP.setCell ⟨w.heap.size, 3, none⟩ (.int .i64 0)).setCell ⟨w.heap.size, 4, none⟩ (.int .i64 1)) := Lib.hid (by rw [hw9, hw8])
      have HB9 := Lib.hid hb9
      have HS9 := Lib.hid hs9
      have HWL := Lib.hid hwlt
      clear hH8 hH9 hP8 hP9 hbP q0 q1 q2 hwP hw8 hw9 hPP hHP hwlt hb9 hs9
      go_region
      rw [← HW9.out]
      have HY : Hid (∀ y, Below w9.heap.size w9 y → (y.cell? ⟨tb, toff, none⟩ = some (.int .i64 1) ∧ y.cell? ⟨tb, toff + 1, none⟩ = some (.int .i64 9) ∧ y.cell? ⟨tb, toff + 2, none⟩ = some (.slice At 0 Ct) ∧ y.cell? ⟨tb, toff + 3, none⟩ = some (.bool false)) ∧ (y.cell? ⟨wr.heap.size, 0, none⟩ = some (.int .i64 0) ∧ y.cell? ⟨wr.heap.size, 1, none⟩ = some (.int .i64 0) ∧ y.cell? ⟨wr.heap.size, 2, none⟩ = some (.int .i64 1)) ∧ (y.cell? ⟨w.heap.size, 0, none⟩ = some (.string (tx [97])) ∧ y.cell? ⟨w.heap.size, 1, none⟩ = some (.int .i64 1) ∧ y.cell? ⟨w.heap.size, 2, none⟩ = some (.int .i64 1) ∧ y.cell? ⟨w.heap.size, 3, none⟩ = some (.int .i64 0) ∧ y.cell? ⟨w.heap.size, 4, none⟩ = some (.int .i64 1) ∧ y.cell? ⟨w.heap.size, 5, none⟩ = some (.int .i64 1) ∧ y.cell? ⟨w.heap.size, 6, none⟩ = some (.int .i64 sm) ∧ y.cell? ⟨w.heap.size, 7, none⟩ = some (.bool false))) := Lib.hid fun y hy => by
        have hb := HB9.out.trans (hy.mono HB9.out.size)
        obtain ⟨c0, c1, c2, c3⟩ := HT.out
        have hp := (hy.block _ (heap_lt HP9.out)).trans HP9.out
        exact ⟨⟨(hb.cell (World.block_lt_of_cell? _ _ c0)).trans c0, (hb.cell (World.block_lt_of_cell? _ _ c1)).trans c1, (hb.cell (World.block_lt_of_cell? _ _ c2)).trans c2, (hb.cell (World.block_lt_of_cell? _ _ c3)).trans c3⟩, ⟨heap_cell hp, heap_cell hp, heap_cell hp⟩, head8 ((hy.block _ (heap_lt HH9.out)).trans HH9.out)⟩
      have HLD : Hid (∀ y, Below w9.heap.size w9 y → Calls Tryd.prog 31 #[.agg #[.int .i64 1, .int .i64 9, .slice At 0 Ct, .bool false], .agg #[.string (tx [97]), .int .i64 1, .int .i64 1, .int .i64 0, .int .i64 1, .int .i64 1, .int .i64 sm, .bool false], .slice (some ⟨bb, 0, none⟩) 1 1] y fun e w' => ∃ A' C', e = .returned (.tuple #[.slice A' 4 C', .int .i64 0]) ∧ RdB w' A' Wk.four (y.heap.size ≤ ·) ∧ Below y.heap.size y w') := Lib.hid fun y hy => by
        have hb := HB9.out.trans (hy.mono HB9.out.size)
        have := laid_blank 1 9 At Ct false [97] 1 1 0 1 1 sm false (some ⟨bb, 0, none⟩) [120] 1 1 G3 y (by decide) (HK.out.old hb) rfl (by decide) (HRB.out.old hb) (by rw [HSM.out]; exact Wk.right1)
        rw [HSM.out] at this ⊢
        refine this.mono ?_
        rintro e w' ⟨A', C', rfl, h1, h2⟩
        refine ⟨A', C', ?_, h1.mono fun k hk => hk, h2⟩
        have := Wk.four_len
        unfold Wk.four at this
        rw [← this]; rfl
      have hd9 : Below w9.heap.size w9 w9.drew := (Below.refl _ _).drew
      have hd99 : Below w9.heap.size w9 w9.drew.drew := hd9.trans (Below.refl _ _).drew
      have hx9 := HY.out _ hd99
      have hsl := fun y => slice_one bb y
      have hwr : IntKind.i64.wrap (0 + 1) = 1 := by decide
      have hwr2 : IntKind.i64.wrap 1 = 1 := by decide
      clear r1 r2 f3 f4 c3 c4 hne1 hS1 hpb HW HW9
      go_upto_region 12 with fail
      go_region_held3 (fun y => (y.cell? ⟨tb, toff, none⟩ = some (.int .i64 1) ∧ y.cell? ⟨tb, toff + 1, none⟩ = some (.int .i64 9) ∧ y.cell? ⟨tb, toff + 2, none⟩ = some (.slice At 0 Ct) ∧ y.cell? ⟨tb, toff + 3, none⟩ = some (.bool false)) ∧ (y.cell? ⟨wr.heap.size, 0, none⟩ = some (.int .i64 0) ∧ y.cell? ⟨wr.heap.size, 1, none⟩ = some (.int .i64 0) ∧ y.cell? ⟨wr.heap.size, 2, none⟩ = some (.int .i64 1)) ∧ (y.cell? ⟨w.heap.size, 0, none⟩ = some (.string (tx [97])) ∧ y.cell? ⟨w.heap.size, 1, none⟩ = some (.int .i64 1) ∧ y.cell? ⟨w.heap.size, 2, none⟩ = some (.int .i64 1) ∧ y.cell? ⟨w.heap.size, 3, none⟩ = some (.int .i64 0) ∧ y.cell? ⟨w.heap.size, 4, none⟩ = some (.int .i64 1) ∧ y.cell? ⟨w.heap.size, 5, none⟩ = some (.int .i64 1) ∧ y.cell? ⟨w.heap.size, 6, none⟩ = some (.int .i64 sm) ∧ y.cell? ⟨w.heap.size, 7, none⟩ = some (.bool false)))
        (first
          | exact hx9
          | exact hx5)
        (first
          | (go_at_call 31; with_reducible refine (HLD.out _ hd99).mono ?_; rintro e w5 ⟨A5, C5, rfl, hr5, hb5⟩; have hx5 := HY.out w5 (hd99.trans (hb5.mono hd99.size)); have HR5 := Lib.hid hr5; have HB5 := Lib.hid (hd99.trans (hb5.mono hd99.size)); clear hr5 hb5))
      obtain ⟨b5, o5, hA5, -, -⟩ := HR5.out (by rw [Wk.four_len]; decide)
      subst hA5
      obtain ⟨svs, hsl4, hsv⟩ := sv_rows HR5.out ⟨b5, o5, none⟩ rfl
      rw [Wk.four_len] at hsl4
      have HSV := Lib.hid hsv
      have HSL := Lib.hid hsl4
      have hp5 : w5.cell? ⟨wr.heap.size, 0, none⟩ = some (.int .i64 0) := hx5.2.1.1
      have HP5 := Lib.hid hp5
      have hw5 : w.heap.size ≤ w5.heap.size := Nat.le_trans HB9.out.size HB5.out.size
      clear hsv hsl4 hp5 hx5 hx9 hd9 hd99 HY HLD HR5 hsl hwr hwr2 HK HRB HT HH9 HP9 HB3 HH3
      go_upto_region 15 with fail
      obtain ⟨wo, rfl⟩ : ∃ x, x = wr := ⟨wr, rfl⟩
      go_wp2
      go_loopw [76, 12] (fun vk vo wx => ∃ k : Nat, k ≤ 4 ∧ vk = .int .i64 (k : Int) ∧ Hid (encS.Own wx w5.heap.size 28 vo (svs.take k)) ∧ Hid (Below w5.heap.size w5 wx)) (fun vk _ _ => 4 - (intOf vk).toNat)
      case atStart => exact ⟨0, Nat.zero_le _, rfl, Lib.hid (Enc.Own.nil _ _ _), Lib.hid (Below.refl _ _)⟩
      case round =>
        obtain ⟨k, hk4, rfl, HO, HBX⟩ := hrel
        by_cases hlt : k < 4
        · obtain ⟨A', C', h1, h2, h3, h4, h5⟩ := HSV.out k (by rw [Wk.four_len]; exact hlt)
          obtain ⟨nk, hnk⟩ : ∃ nk, nk = (Wk.four[k]'(by rw [Wk.four_len]; exact hlt)).length := ⟨_, rfl⟩
          rw [← hnk] at h1 h2
          rw [addr_add] at h2
          have hck : wr.cell? ⟨b5, o5 + k, none⟩ = some (.slice A' nk C') := (HBX.out.cell (World.block_lt_of_cell? _ _ h2)).trans h2
          have hc0 : wr.cell? ⟨wo.heap.size, 0, none⟩ = some (.int .i64 0) := (HBX.out.cell (World.block_lt_of_cell? _ _ HP5.out)).trans HP5.out
          have hbA : Below wr.heap.size wr (wr.alloc (.cells #[.int .i64 0, .slice A' nk C'] 28)) := (Below.refl _ _).alloc (Nat.le_refl _) _
          have HO6 := Lib.hid (HO.out.old hbA)
          have hln : (svs.take k).length ≤ 4 := by rw [List.length_take]; have := HSL.out; omega
          have hwl : w5.heap.size ≤ (wr.alloc (.cells #[.int .i64 0, .slice A' nk C'] 28)).heap.size := by have := HBX.out.size; simp; omega
          have htk : svs.take (k + 1) = svs.take k ++ [⟨0, A', nk, C'⟩] := by rw [List.take_add_one, h1]; rfl
          have HTK := Lib.hid htk
          have HBA := Lib.hid (HBX.out.trans (hbA.mono HBX.out.size))
          have HLT := Lib.hid fun x hx => (HO.out.lt x hx).1
          have e1 : decide ((k : Int) < 4) = true := decide_eq_true (by omega)
          clear h1 h2 h3 h4 h5 hbA htk hnk
          go_wp2_with (at_builtin; refine wpList_append_st' encS _ rfl _ _ _ rfl w5.heap.size 28 _ 32 Tryd.underlying23 infoStep rfl _ (svs.take k) rfl HO6.out ⟨wr.heap.size, 0, none⟩ 1 1 [⟨0, A', nk, C'⟩] rfl rfl (newCells _ (encS.enc ⟨0, A', nk, C'⟩) _) (by unfold maxLen; omega) (by omega) hwl ?_; intro v7 w7 hO7 hg7; have HO7 := Lib.hid hO7; have HB7 := Lib.hid (HBA.out.grown hg7 hwl HLT.out); clear hO7 hg7)
          go_roundw
          case rel => exact ⟨k + 1, by omega, by go_num, Lib.hid (by rw [HTK.out]; exact HO7.out), HB7⟩
          case measure => simp [intOf]; omega
        · obtain rfl : k = 4 := by omega
          have e1 : decide ((4 : Int) < 4) = false := by decide
          go_wp2
          go_roundw
          case rel =>
            refine .inr ⟨by go_num, Lib.hid ?_⟩
            have hO := HO.out
            rw [List.take_of_length_le (by rw [HSL.out]; exact Nat.le_refl _)] at hO
            obtain ⟨A, C, e, h1, -, -, hr⟩ := hO.rd
            have hl4 : fourS.length = svs.length := by unfold fourS; rw [List.length_map, Wk.four_len, HSL.out]
            refine ⟨A, C, by rw [e, hl4], by rw [hl4]; exact h1, fun hn => ?_, HB9.out.trans (HB5.out.mono HB9.out.size) |>.trans (HBX.out.mono hw5)⟩
            obtain ⟨g, off, e2, -, hc⟩ := hr (by rw [← hl4]; exact hn)
            refine ⟨g, off, e2, trivial, fun i hi => ?_⟩
            have hi' : i < Wk.four.length := by unfold fourS at hi; rw [List.length_map] at hi; exact hi
            have hi2 : i < svs.length := by rw [← hl4]; exact hi
            obtain ⟨A', C', k1, -, k3, k4, k5⟩ := HSV.out i hi'
            rw [List.getElem?_eq_getElem hi2] at k1
            have k1' := Option.some.inj k1
            have e3 : ∀ h : i < fourS.length, fourS[i] = (0, Wk.four[i]) := fun h => fourS_at i hi' h
            have x0 := hc i hi2 0 _ rfl
            have x1 := hc i hi2 1 _ rfl
            rw [k1'] at x0 x1
            rw [e3 hi]
            exact ⟨A', C', x0, x1, k3, k4, (k5.old HBX.out).mono fun _ _ => trivial⟩
          case measure => simp [intOf]
    · go_wp2
      go_ret2
      obtain ⟨A, C, rfl, h1, h2, h3⟩ := HF.out
      exact ⟨A, C, rfl, h1, h2, h3⟩
end Go.Proofs.YtndofmoepjfnfaaDoor
