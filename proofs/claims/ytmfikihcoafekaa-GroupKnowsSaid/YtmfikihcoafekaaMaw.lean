/- What applied of package erasure answers: a matrix times rows, byte by byte, in new memory. What Cauchy of package matrix answers, whatever it is given. What Encode of package erasure answers, whatever it is given. What the inner function parityOf of package stripe answers: a row without bytes is told, and else Encode's answer. What Parity of package stripe answers. -/
import Derived.Test.YtmfikihcoafekaaMah
import Derived.Test.YtmfikihcoafekaaMav
import Derived.Test.YtmfikihcoafekaaMau
import Derived.Test.YtmfikihcoafekaaMai
import Derived.Test.YtmfikihcoafekaaMas
import Derived.Deep.AppendLies
namespace Go.Proofs.Ytmfikihcoafekaa
open Go.RowKit Mx

/-- the columns ahead of k are made, of column k the first i -/
def upto (X : Mat) (k i : Nat) : Mat := fun r c => if c < k then X r c else if c = k ∧ r < i then X r c else 0
theorem upto_zero (X : Mat) (r c : Nat) : upto X 0 0 r c = 0 := by
  unfold upto; rw [if_neg (by omega), if_neg (by omega)]
theorem upto_next {X : Mat} {k p r c : Nat} (hr : r < p) : upto X k p r c = upto X (k + 1) 0 r c := by
  unfold upto
  by_cases e : c < k
  · rw [if_pos e, if_pos (by omega)]
  · rw [if_neg e]
    by_cases e' : c = k
    · rw [if_pos ⟨e', hr⟩, if_pos (by omega)]
    · rw [if_neg (by omega), if_neg (by omega), if_neg (by omega)]
theorem upto_all {X : Mat} {m r c : Nat} (hc : c < m) : upto X m 0 r c = X r c := by
  unfold upto; rw [if_pos hc]
theorem upto_set {X : Mat} {k i r c : Nat} : (if r = i then (fun c => if c = k then X i k else upto X k i i c) else upto X k i r) c = upto X k (i + 1) r c := by
  unfold upto
  by_cases e : r = i
  · rw [if_pos e]
    by_cases e' : c = k
    · subst e; subst e'; simp
    · simp only [e', if_false, e]
      by_cases e2 : c < k
      · rw [if_pos e2, if_pos e2]
      · simp [e2]
  · rw [if_neg e]
    by_cases e2 : c < k
    · rw [if_pos e2, if_pos e2]
    · rw [if_neg e2, if_neg e2]
      by_cases e3 : c = k ∧ r < i
      · rw [if_pos e3, if_pos ⟨e3.1, by omega⟩]
      · rw [if_neg e3, if_neg (by omega)]

set_option maxHeartbeats 4000000 in
theorem applied_own (A : Option Addr) (p C : Nat) (Q : Mat) (G : Nat → Prop) (A' : Option Addr) (n C' m : Nat) (Y : Mat) (G' : Nat → Prop) (w : World) (hp0 : 0 < p) (hp : p ≤ 255) (hn0 : 0 < n) (hn : n ≤ 255) (hm : m ≤ 1000000)
    (h : RdM w A p (fun _ => n) Q G) (h' : RdM w A' n (fun _ => m) Y G') :
    Calls Try.prog 48 #[.slice A p C, .slice A' n C'] w (OwnM 0 p m (fun i c => mv n Q (fun j => Y j c) i) w) := by
  obtain ⟨X, hX⟩ : ∃ X : Mat, X = fun i c => mv n Q (fun j => Y j c) i := ⟨_, rfl⟩
  rw [← hX]
  have HX := Lib.hid hX
  obtain ⟨b0, off0, A0, C0, rfl, _, hc0, _⟩ := h'.row hn0
  rw [Nat.add_zero] at hc0
  have hb0 := World.block_lt_of_cell? _ _ hc0
  have HC0 := Lib.hid hc0
  have H := Lib.hid h
  have H' := Lib.hid h'
  clear h h' hX hc0
  have hmk := run_make_row' (P := Try.prog) 30 24 (.slice none 0 0) 24 Try.underlying30 infoRow rfl .i64 .i64 p (by omega) (by omega)
  have HMK := Lib.hid (run_make_row' (P := Try.prog) 24 5 (.int .u8 0) 1 Try.underlying24 infoByte rfl .i64 .i64 m (by omega) (by omega))
  have HMN := Lib.hid (run_make_row' (P := Try.prog) 24 5 (.int .u8 0) 1 Try.underlying24 infoByte rfl .i64 .i64 n (by omega) (by omega))
  go_enter Try.func48, Try.ntmps48
  go_wp2
  clear hmk
  go_loopw [21] (fun vi wr => ∃ i : Nat, i ≤ p ∧ vi = .int .i64 (i : Int) ∧ Hid (∃ G C, OwnK wr w.heap.size w.heap.size p i m G C (fun _ _ => 0)) ∧ Hid (Below w.heap.size w wr)) (fun vi _ => p - (intOf vi).toNat)
  case atStart => exact ⟨0, by omega, rfl, Lib.hid ⟨fun _ => 0, fun _ => 0, OwnK.start w _ p m _ _ _⟩, Lib.hid ((Below.refl _ _).alloc (Nat.le_refl _) _)⟩
  case round =>
    obtain ⟨i, hi, rfl, HO, HB⟩ := hrel
    obtain ⟨G1, Cp1, hO⟩ := HO.out
    have HO' := Lib.hid hO
    clear hO HO
    have d0 := (HB.out.cell hb0).trans HC0.out
    by_cases hlt : i < p
    · have hb1 : Below wr.heap.size wr (wr.alloc (.cells (madeCells #[.int .u8 0] m) 5)) := (Below.refl _ _).alloc (Nat.le_refl _) _
      have hO1 := HO'.out.old hb1
      have hct := hO1.top.cell hlt
      rw [if_neg (by omega)] at hct
      have hft := hO1.top.frozen i
      have HP := Lib.hid (HO'.out.push hb1 (Nat.le_refl _) HB.out.size (Nat.le_refl m) (RowAt.made wr m))
      have HB1 := Lib.hid ((HB.out.trans (hb1.mono HB.out.size)).setCell (p := ⟨w.heap.size, i, none⟩) (Nat.le_refl _) (.slice (some ⟨wr.heap.size, 0, none⟩) m m))
      have hmk := HMK.out
      clear hb1 hO1
      go_wp2
      go_roundw
      case rel => exact ⟨i + 1, by omega, by go_num, Lib.hid ⟨_, _, HP.out.congr (M' := fun _ _ => 0) fun r _ c _ => by by_cases e : r = i <;> simp [e]⟩, HB1⟩
      case measure => simp [intOf]; omega
    · obtain ⟨wo, rfl⟩ : ∃ x, x = wr := ⟨wr, rfl⟩
      have hip : i = p := by omega
      have hO2 := HO'.out
      rw [hip] at hO2
      have hsz : b0 < wo.heap.size := World.block_lt_of_cell? _ _ d0
      have HGL : Hid (∀ r, r < p → G1 r < wo.heap.size) := Lib.hid fun r hr => (hO2.rows r hr).lt
      have hwb : w.heap.size < wo.heap.size := hO2.top.lt
      have hal : Below wo.heap.size wo (wo.alloc (.cells (madeCells #[.int .u8 0] n) 5)) := (Below.refl _ _).alloc (Nat.le_refl _) _
      have HO3 := Lib.hid ((hO2.old hal).congr (M' := upto X 0 0) fun r _ c _ => (upto_zero X r c).symm)
      have HB3 := Lib.hid (HB.out.trans (hal.mono HB.out.size))
      have HCol := Lib.hid (RowAt.made wo n)
      have d1 := (hal.cell hsz).trans d0
      clear hO2 HO' HB hal hip
      have hmk := HMN.out
      go_wp2
      clear hmk d0 d1
      generalize wo.alloc (.cells (madeCells #[.int .u8 0] n) 5) = ws at HO3 HB3 HCol ⊢
      obtain ⟨gc, hgc⟩ : ∃ g, g = wo.heap.size := ⟨_, rfl⟩
      rw [← hgc] at HCol HGL hwb ⊢
      clear hgc hsz
      go_loopw [40] (fun vk wr => ∃ k : Nat, k ≤ m ∧ vk = .int .i64 (k : Int) ∧ Hid (∃ f, RowAt wr gc n f) ∧ Hid (OwnK wr w.heap.size w.heap.size p p m G1 Cp1 (upto X k 0)) ∧ Hid (Below w.heap.size w wr)) (fun vk _ => m - (intOf vk).toNat)
      case atStart => exact ⟨0, by omega, rfl, Lib.hid ⟨_, HCol.out⟩, HO3, HB3⟩
      case round =>
        obtain ⟨k, hk, rfl, HF, HO4, HB4⟩ := hrel
        clear HO3 HB3 HCol
        obtain ⟨f, hf⟩ := HF.out
        have HF' := Lib.hid hf
        clear hf HF
        by_cases hlt2 : k < m
        · go_wp2
          go_loopw [45] (fun vj wq => ∃ j : Nat, j ≤ n ∧ vj = .int .i64 (j : Int) ∧ Hid (RowAt wq gc n (fun x => if x < j then Y x k else f x)) ∧ Hid (OwnK wq w.heap.size w.heap.size p p m G1 Cp1 (upto X k 0)) ∧ Hid (Below w.heap.size w wq)) (fun vj _ => n - (intOf vj).toNat)
          case atStart => exact ⟨0, by omega, rfl, Lib.hid (HF'.out.congr fun x _ => by rw [if_neg (by omega)]), HO4, HB4⟩
          case round =>
            obtain ⟨j, hj, rfl, HC5, HO5, HB5⟩ := hrel
            clear HF' HO4 HB4
            by_cases hlt3 : j < n
            · obtain ⟨b1, off1, Aj, Cj, e, _, d1, hrj⟩ := (H'.out.old HB5.out).row hlt3
              obtain ⟨rfl, rfl⟩ : b0 = b1 ∧ off0 = off1 := by simpa using e
              obtain ⟨b2, off2, rfl, _, d2⟩ := hrj.at hlt2
              have d3 := HC5.out.cell hlt3
              have f3 := HC5.out.frozen j
              have HC6 := Lib.hid ((HC5.out.set j (Y j k)).congr (f' := fun x => if x < j + 1 then Y x k else f x) fun x _ => upTo_step (h := fun x => Y x k))
              have HO6 := Lib.hid (HO5.out.kp (Kp.store wr gc j (.int .u8 (fi (Y j k)))) (by omega) (fun r hr => by have := HGL.out r hr; omega))
              have HB6 := Lib.hid (HB5.out.setCell (p := ⟨gc, j, none⟩) (Nat.le_of_lt hwb) (.int .u8 (fi (Y j k))))
              clear e hrj HC5 HO5 HB5
              go_wp2
              go_roundw
              case rel => exact ⟨j + 1, by omega, by go_num, HC6, HO6, HB6⟩
              case measure => simp [intOf]; omega
            · have HC7 := Lib.hid (HC5.out.congr (f' := fun x => Y x k) fun x hx => by rw [if_pos (by omega)])
              clear HC5
              go_wp2_with fail
              refine (apply_own _ p C n Q _ _ n (fun x => Y x k) (fun _ => True) _ hp0 hp hn0 hn (H.out.old HB5.out) (HC7.out.rd _ trivial)).mono ?_
              rintro e w1 ⟨gm, cm, rfl, hgm, hrm, hbm⟩
              have hgm2 : gc < gm := by have := HC7.out.lt; omega
              have HGM : Hid (∀ r, r < p → G1 r ≠ gm) := Lib.hid fun r hr => by have := HGL.out r hr; omega
              have hwm : w.heap.size ≠ gm := by omega
              have HM8 : Hid (RowAt w1 gm p (fun r => X r k)) := by rw [HX.out]; exact Lib.hid hrm
              have HC8 := Lib.hid (HC7.out.old hbm)
              have HO8 := Lib.hid (HO5.out.old hbm)
              have HB8 := Lib.hid (HB5.out.trans (hbm.mono HB5.out.size))
              clear hrm hbm HC7 HO5 HB5
              go_wp2
              go_loopw [69] (fun vi wq => ∃ i : Nat, i ≤ p ∧ vi = .int .i64 (i : Int) ∧ Hid (RowAt wq gm p (fun r => X r k)) ∧ Hid (RowAt wq gc n (fun x => Y x k)) ∧ Hid (OwnK wq w.heap.size w.heap.size p p m G1 Cp1 (upto X k i)) ∧ Hid (Below w.heap.size w wq)) (fun vi _ => p - (intOf vi).toNat)
              case atStart => exact ⟨0, by omega, rfl, HM8, HC8, HO8, HB8⟩
              case round =>
                obtain ⟨i2, hi2, rfl, HM9, HC9, HO9, HB9⟩ := hrel
                clear HM8 HC8 HO8 HB8
                by_cases hlt4 : i2 < p
                · have d1 := HM9.out.cell hlt4
                  have d2 := HO9.out.top.cell hlt4
                  rw [if_pos hlt4] at d2
                  have hrow := HO9.out.rows i2 hlt4
                  have d3 := hrow.cell hlt2
                  have f3 := hrow.frozen k
                  have hne1 := HGM.out i2 hlt4
                  have hne2 := HGL.out i2 hlt4
                  have hkp := Kp.store wr (G1 i2) k (.int .u8 (fi (X i2 k)))
                  have HO10 := Lib.hid ((HO9.out.turn (i := i2) hlt4 hkp (hrow.set k (X i2 k))).congr (M' := upto X k (i2 + 1)) fun r _ c _ => upto_set)
                  have HM10 := Lib.hid (HM9.out.kp hkp (fun e => hne1 e.symm))
                  have HC10 := Lib.hid (HC9.out.kp hkp (by omega))
                  have HB10 := Lib.hid (HB9.out.setCell (p := ⟨G1 i2, k, none⟩) (HO9.out.lo i2 hlt4) (.int .u8 (fi (X i2 k))))
                  clear hkp hrow HM9 HC9 HO9 HB9
                  go_wp2
                  go_roundw
                  case rel => exact ⟨i2 + 1, by omega, by go_num, HM10, HC10, HO10, HB10⟩
                  case measure => simp [intOf]; omega
                · have HO11 := Lib.hid (HO9.out.congr (M' := upto X (k + 1) 0) fun r hr c _ => by
                    rw [show i2 = p by omega]; exact upto_next hr)
                  clear HO9
                  go_wp2
                  go_roundw
                  case rel => exact ⟨k + 1, by omega, by go_num, Lib.hid ⟨_, HC9.out⟩, HO11, HB9⟩
                  case measure => simp [intOf]; omega
        · have HO5 := Lib.hid (HO4.out.congr (M' := X) fun r _ c hc => by rw [show k = m by omega]; exact upto_all hc)
          clear HO4
          go_wp2
          go_ret2
          exact ⟨_, _, _, rfl, Nat.le_refl _, HO5.out, HB4.out⟩
end Go.Proofs.Ytmfikihcoafekaa
namespace Go.Proofs.Ytmfikihcoafekaa
open Go.RowKit Mx

set_option maxHeartbeats 1000000 in
theorem cauchy_bad (d p : Int) (w : World) (_hd : -9223372036854775808 ≤ d) (_hd' : d ≤ 9223372036854775807) (_hp : -9223372036854775808 ≤ p) (_hp' : p ≤ 9223372036854775807) (h : d < 1 ∨ p < 1 ∨ 255 < p ∨ 255 - p < d) :
    Calls Try.prog 47 #[.int .i64 d, .int .i64 p] w (ResM 1 0 0 one w) := by
  by_cases h1 : d < 1
  · clear h
    go_enter Try.func47, Try.ntmps47
    go_wp2
    go_ret2
    exact ResM.bad w (Below.refl _ _)
  · by_cases h2 : p < 1
    · clear h
      go_enter Try.func47, Try.ntmps47
      go_wp2
      go_ret2
      exact ResM.bad w (Below.refl _ _)
    · by_cases h3 : 255 < p
      · clear h
        go_enter Try.func47, Try.ntmps47
        go_wp2
        go_ret2
        exact ResM.bad w (Below.refl _ _)
      · have h4 : 255 - p < d := by omega
        clear h
        go_enter Try.func47, Try.ntmps47
        go_wp2
        go_ret2
        exact ResM.bad w (Below.refl _ _)
set_option maxRecDepth 100000 in
set_option maxHeartbeats 2000000 in
theorem cauchy_main (d p : Nat) (w : World) (hd0 : 0 < d) (hp0 : 0 < p) (hdp : d + p ≤ 255) :
    Calls Try.prog 47 #[.int .i64 (d : Int), .int .i64 (p : Int)] w (ResM 0 p d (cau p) w) := by
  have hmk := run_make_row' (P := Try.prog) 30 24 (.slice none 0 0) 24 Try.underlying30 infoRow rfl .i64 .i64 p (by omega) (by omega)
  have HMK := Lib.hid (run_make_row' (P := Try.prog) 24 5 (.int .u8 0) 1 Try.underlying24 infoByte rfl .i64 .i64 d (by omega) (by omega))
  go_enter Try.func47, Try.ntmps47
  go_wp2
  clear hmk
  go_loopw [29] (fun vi wr => ∃ i : Nat, i ≤ p ∧ vi = .int .i64 (i : Int) ∧ Hid (∃ G C, OwnK wr w.heap.size w.heap.size p i d G C (cau p)) ∧ Hid (Below w.heap.size w wr)) (fun vi _ => p - (intOf vi).toNat)
  case atStart => exact ⟨0, by omega, rfl, Lib.hid ⟨fun _ => 0, fun _ => 0, OwnK.start w _ p d _ _ _⟩, Lib.hid ((Below.refl _ _).alloc (Nat.le_refl _) _)⟩
  case round =>
    obtain ⟨i, hi, rfl, HO, HB⟩ := hrel
    obtain ⟨G1, Cp1, hO⟩ := HO.out
    have HO' := Lib.hid hO
    clear hO HO
    by_cases hlt : i < p
    · have hb1 : Below wr.heap.size wr (wr.alloc (.cells (madeCells #[.int .u8 0] d) 5)) := (Below.refl _ _).alloc (Nat.le_refl _) _
      have hO1 := HO'.out.old hb1
      have hct := hO1.top.cell hlt
      rw [if_neg (by omega)] at hct
      have hft := hO1.top.frozen i
      have hP := HO'.out.push hb1 (Nat.le_refl _) HB.out.size (Nat.le_refl d) (RowAt.made wr d)
      have hct2 := hP.top.cell hlt
      simp only [if_true, show i < i + 1 by omega] at hct2
      have HP := Lib.hid hP
      have HB1 := Lib.hid ((HB.out.trans (hb1.mono HB.out.size)).setCell (p := ⟨w.heap.size, i, none⟩) (Nat.le_refl _) (.slice (some ⟨wr.heap.size, 0, none⟩) d d))
      have hmk := HMK.out
      clear hb1 hO1 hP
      go_wp2
      clear hmk hct hft hct2
      generalize (wr.alloc (.cells (madeCells #[.int .u8 0] d) 5)).setCell ⟨w.heap.size, i, none⟩ (.slice (some ⟨wr.heap.size, 0, none⟩) d d) = ws at HP HB1 ⊢
      obtain ⟨G2, hG2⟩ : ∃ g, g = (fun r => if r = i then wr.heap.size else G1 r) := ⟨_, rfl⟩
      obtain ⟨C2, hC2⟩ : ∃ g, g = (fun r => if r = i then d else Cp1 r) := ⟨_, rfl⟩
      rw [← hG2, ← hC2] at HP
      clear hG2 hC2 HO' HB
      go_loopw [42] (fun vj wq => ∃ j : Nat, j ≤ d ∧ vj = .int .i64 (j : Int) ∧ Hid (OwnK wq w.heap.size w.heap.size p (i + 1) d G2 C2 (fun r => if r = i then (fun c => if c < j then cau p i c else 0) else cau p r)) ∧ Hid (Below w.heap.size w wq)) (fun vj _ => d - (intOf vj).toNat)
      case atStart => exact ⟨0, by omega, rfl, HP, HB1⟩
      case round =>
        obtain ⟨j, hj, rfl, HO2, HB2⟩ := hrel
        clear HP HB1
        by_cases hlt2 : j < d
        · have d1 := HO2.out.top.cell hlt
          rw [if_pos (by omega)] at d1
          have hrow := HO2.out.rows i (by omega)
          rw [if_pos rfl] at hrow
          have d2 := hrow.cell hlt2
          have f2 := hrow.frozen j
          have HRW := Lib.hid hrow
          have HCI := Lib.hid (cau_int (p := p) (i := i) (j := j) (by omega) (by omega))
          clear hrow
          have s1 : (0 : Int) ≤ (p : Int) + (j : Int) := by omega
          have s2 : (p : Int) + (j : Int) < 256 := by omega
          have s3 : IntKind.i64.wrap ((p : Int) + (j : Int)) = (p : Int) + (j : Int) := IntWalk.i64_in _ (by omega)
          have s4 : IntKind.u8.wrap ((p : Int) + (j : Int)) = (p : Int) + (j : Int) := IntWalk.u8_in _ (by omega)
          have s5 : IntKind.u8.wrap (i : Int) = (i : Int) := IntWalk.u8_in _ (by omega)
          go_wp2
          refine wp_region_still_tail 14 (by kernel_rfl) (by kernel_rfl) ?_
          simp only [List.take_succ_cons, List.take_zero, List.drop_succ_cons, List.drop_zero]
          repeat still_step
          still_call (add_ist (i : Int) ((p : Int) + (j : Int)) _ (by omega) (by omega) (by omega) (by omega))
          still_call (inv_ist _ _ (gadd_rng _ _ (by omega) (by omega) (by omega) (by omega)).1 (gadd_rng _ _ (by omega) (by omega) (by omega) (by omega)).2)
          repeat still_step
          refine wpStill_nil ?_
          rw [HCI.out]
          change wpList _ _ _ _ _ wr.drew
          clear s3 s4 s5
          go_wp2
          go_roundw
          case rel =>
            refine ⟨j + 1, by omega, by go_num, Lib.hid ((HO2.out.drew.turn (i := i) (by omega) (Kp.store wr.drew (G2 i) j (.int .u8 (fi (cau p i j)))) (HRW.out.set j (cau p i j))).congr fun r _ c _ => ?_), Lib.hid ((HB2.out.drew).setCell (p := ⟨G2 i, j, none⟩) (HO2.out.lo i (by omega)) _)⟩
            by_cases e : r = i
            · rw [if_pos e, if_pos e]
              exact upTo_step (f := fun _ => 0) (h := fun c => cau p i c)
            · rw [if_neg e, if_neg e, if_neg e]
          case measure => simp [intOf]; omega
        · have HO3 : Hid (∃ G C, OwnK wr w.heap.size w.heap.size p (i + 1) d G C (cau p)) := Lib.hid ⟨_, _, HO2.out.congr fun r _ c hc => by
            by_cases e : r = i
            · rw [if_pos e, if_pos (by omega), e]
            · rw [if_neg e]⟩
          clear HO2
          go_wp2
          go_roundw
          case rel => exact ⟨i + 1, by omega, by go_num, HO3, HB2⟩
          case measure => simp [intOf]; omega
    · obtain rfl : i = p := by omega
      go_wp2
      go_ret2
      exact ⟨_, _, rfl, HO'.out.rdAll (Nat.le_refl _), HB.out⟩
end Go.Proofs.Ytmfikihcoafekaa
namespace Go.Proofs.Ytmfikihcoafekaa
open Go.RowKit Mx

set_option maxHeartbeats 2000000 in
theorem encode_main (A : Option Addr) (n C : Nat) (L : Nat → Nat) (D : Mat) (G : Nat → Prop) (p : Nat) (w : World) (hn0 : 0 < n) (hp0 : 0 < p) (hnp : n + p ≤ 255) (ha : ∀ i, i < n → L i = L 0) (hL : L 0 ≤ 1000000) (h : RdM w A n L D G) :
    Calls Try.prog 32 #[.slice A n C, .int .i64 (p : Int)] w (OwnM 0 p (L 0) (par n p D) w) := by
  have HA := Lib.hid (alikeB_true.2 ha)
  have H := Lib.hid h
  have H2 := Lib.hid (h.congr (L' := fun _ => L 0) (M' := D) ha (fun _ _ _ _ => rfl))
  have q1 : decide ((p : Int) < 0) = false := decide_eq_false (by omega)
  have q2 : decide ((255 : Int) - (n : Int) < (p : Int)) = false := decide_eq_false (by omega)
  have q3 : ((p : Int) == 0) = false := beq_eq_false_iff_ne.2 (by omega)
  clear h ha
  go_enter Try.func32, Try.ntmps32
  go_wp2_with fail
  refine (alike_is _ n C L D _ _ true (by unfold maxLen; omega) H.out HA.out).mono ?_
  rintro e w' ⟨rfl, rfl⟩
  go_wp2_with fail
  refine (cauchy_main n p _ hn0 hp0 hnp).mono ?_
  rintro e w1 ⟨A1, C1, rfl, hr1, hB1⟩
  have HR1 := Lib.hid hr1
  have HB1 := Lib.hid hB1
  clear hr1 hB1
  go_wp2_with fail
  refine (applied_own _ p C1 (cau p) _ _ n C (L 0) D _ _ hp0 (by omega) hn0 (by omega) hL HR1.out (H2.out.old HB1.out)).mono ?_
  rintro e w2 ⟨b, G2, C2, rfl, hb, hO, hB2⟩
  have HO := Lib.hid hO
  have HB2 := Lib.hid hB2
  clear hO hB2
  go_wp2
  go_ret2
  exact ⟨b, G2, C2, rfl, Nat.le_trans HB1.out.size hb, HO.out.down HB1.out.size, HB1.out.trans (HB2.out.mono HB1.out.size)⟩
set_option maxHeartbeats 2000000 in
theorem encode_new (A : Option Addr) (n C : Nat) (L : Nat → Nat) (D : Mat) (G : Nat → Prop) (p : Int) (w : World) (hn : n ≤ maxLen) (hL : 0 < n → L 0 ≤ 1000000) (hp : -9223372036854775808 ≤ p) (hp' : p ≤ 9223372036854775807) (h : RdM w A n L D G) :
    Calls Try.prog 32 #[.slice A n C, .int .i64 p] w (EncNew n L D p w) := by
  have HN := Lib.hid hn
  unfold maxLen at hn
  have H := Lib.hid h
  clear h
  by_cases h1 : n < 1
  · have HE : Hid (¬ EncOk n L p) := Lib.hid fun hh => by have := hh.1; omega
    go_enter Try.func32, Try.ntmps32
    go_wp2
    go_ret2
    exact EncNew.bad HE.out w (Below.refl _ _)
  · cases ha : alikeB n L with
    | false =>
      have HE : Hid (¬ EncOk n L p) := Lib.hid fun hh => by
        rw [alikeB_true.2 hh.2.1] at ha; cases ha
      have HA := Lib.hid ha
      clear ha
      go_enter Try.func32, Try.ntmps32
      go_wp2_with fail
      refine (alike_is _ n C L D _ _ false HN.out H.out HA.out).mono ?_
      rintro e w' ⟨rfl, rfl⟩
      go_wp2
      go_ret2
      exact EncNew.bad HE.out w (Below.refl _ _)
    | true =>
      have HA := Lib.hid ha
      clear ha
      by_cases h2 : p < 0
      · have HE : Hid (¬ EncOk n L p) := Lib.hid fun hh => by have := hh.2.2.1; omega
        go_enter Try.func32, Try.ntmps32
        go_wp2_with fail
        refine (alike_is _ n C L D _ _ true HN.out H.out HA.out).mono ?_
        rintro e w' ⟨rfl, rfl⟩
        go_wp2
        go_ret2
        exact EncNew.bad HE.out w (Below.refl _ _)
      · by_cases h3 : 255 - (n : Int) < p
        · have HE : Hid (¬ EncOk n L p) := Lib.hid fun hh => by have := hh.2.2.2; omega
          go_enter Try.func32, Try.ntmps32
          go_wp2_with fail
          refine (alike_is _ n C L D _ _ true HN.out H.out HA.out).mono ?_
          rintro e w' ⟨rfl, rfl⟩
          go_wp2
          go_ret2
          exact EncNew.bad HE.out w (Below.refl _ _)
        · obtain ⟨k, rfl⟩ : ∃ k : Nat, p = (k : Int) := ⟨p.toNat, by omega⟩
          have hok : EncOk n L (k : Int) := ⟨by omega, alikeB_true.1 HA.out, by omega, by omega⟩
          by_cases h4 : k = 0
          · have HE := Lib.hid hok
            subst h4
            clear hok
            go_enter Try.func32, Try.ntmps32
            go_wp2_with fail
            refine (alike_is _ n C L D _ _ true HN.out H.out HA.out).mono ?_
            rintro e w' ⟨rfl, rfl⟩
            go_wp2
            go_ret2
            exact EncNew.none HE.out w (Below.refl _ _)
          · exact (encode_main A n C L D G k w (by omega) (by omega) (by omega) (alikeB_true.1 HA.out) (hL (by omega)) H.out).mono fun e w' hh => EncNew.some hok (by omega) hh.new
theorem encode_any (A : Option Addr) (n C : Nat) (L : Nat → Nat) (D : Mat) (G : Nat → Prop) (p : Int) (w : World) (hn : n ≤ maxLen) (hL : 0 < n → L 0 ≤ 1000000) (hp : -9223372036854775808 ≤ p) (hp' : p ≤ 9223372036854775807) (h : RdM w A n L D G) :
    Calls Try.prog 32 #[.slice A n C, .int .i64 p] w (EncAny n L D p w) :=
  (encode_new A n C L D G p w hn hL hp hp' h).mono fun _ _ hh => hh.any
set_option maxHeartbeats 1000000 in
/-- rows all as long: parity, or nil where none is asked for -/
theorem encode_ok (A : Option Addr) (n C : Nat) (L : Nat → Nat) (D : Mat) (G : Nat → Prop) (p : Nat) (w : World) (hn0 : 0 < n) (hnp : n + p ≤ 255) (ha : ∀ i, i < n → L i = L 0) (hL : L 0 ≤ 1000000) (h : RdM w A n L D G) :
    Calls Try.prog 32 #[.slice A n C, .int .i64 (p : Int)] w fun e w' => ∃ A' C', e = .returned (.tuple #[.slice A' p C', .int .i64 0]) ∧ (A' = none → p = 0 ∧ C' = 0) ∧ RdM w' A' p (fun _ => L 0) (par n p D) (· < w'.heap.size) ∧ Below w.heap.size w w' := by
  by_cases hp : p = 0
  · subst hp
    have HA := Lib.hid (alikeB_true.2 ha)
    have H := Lib.hid h
    clear h ha
    have q2 : decide ((255 : Int) - (n : Int) < 0) = false := decide_eq_false (by omega)
    go_enter Try.func32, Try.ntmps32
    go_wp2_with fail
    refine (alike_is _ n C L D _ _ true (by unfold maxLen; omega) H.out HA.out).mono ?_
    rintro e w' ⟨rfl, rfl⟩
    go_wp2
    go_ret2
    exact ⟨none, 0, rfl, (fun _ => by simp), RdM.empty _ _ _ _ _, Below.refl _ _⟩
  · refine (encode_main A n C L D G p w hn0 (by omega) hnp ha hL h).mono ?_
    rintro e w' ⟨b, G', C', rfl, _, hO, hB⟩
    exact ⟨_, p, rfl, (fun hh => by cases hh), hO.rdAll (Nat.le_refl _), hB⟩
end Go.Proofs.Ytmfikihcoafekaa
namespace Go.Proofs.Ytmfikihcoafekaa
open Go.RowKit Mx
open Pt (Tx)

set_option maxHeartbeats 1000000 in
theorem index_empty (A : Option Addr) (n C : Nat) (L : Nat → Nat) (M : Mat) (G : Nat → Prop) (w : World) (hm : n ≤ 1000000) (h : RdM w A n L M G) :
    Calls Try.prog 69 #[.slice A n C, .func (.func 50) #[] #[]] w fun e w' => ∃ z : Int, e = .returned (.int .i64 z) ∧ decide (0 ≤ z) = emptyB n L ∧ w = w' := by
  have H := Lib.hid h
  clear h
  go_enter Try.func69, Try.ntmps69
  go_wp2
  go_loop [8] (fun vi => ∃ k : Nat, k ≤ n ∧ vi = .int .i64 (k : Int) ∧ Hid (∀ i, i < k → L i ≠ 0)) (fun vi => n - (intOf vi).toNat)
  case atStart => exact ⟨0, by omega, rfl, Lib.hid (fun i hi => absurd hi (by omega))⟩
  case round =>
    obtain ⟨k, hk, rfl, HL⟩ := hrel
    by_cases hlt : k < n
    · obtain ⟨b, off, Ak, Ck, rfl, _, hck, _⟩ := H.out.row hlt
      have e0 : decide (k < n) = true := decide_eq_true hlt
      by_cases he : L k = 0
      · have hb : ((L k : Int) == 0) = true := by rw [he]; rfl
        have HF := Lib.hid (emptyB_true.2 ⟨k, hlt, he⟩ : emptyB n L = true)
        clear he
        go_wp2
        go_ret
        exact ⟨(k : Int), rfl, by rw [HF.out]; exact decide_eq_true (by omega), rfl⟩
      · have hb : ((L k : Int) == 0) = false := beq_eq_false_iff_ne.2 (by omega)
        have HE := Lib.hid he
        clear he
        go_wp2
        go_round
        case rel => exact ⟨k + 1, by omega, by go_num, Lib.hid (fun i hi => by
          by_cases e : i = k
          · rw [e]; exact HE.out
          · exact HL.out i (by omega))⟩
        case measure => simp [intOf]; omega
    · have e0 : decide (k < n) = false := decide_eq_false hlt
      have HF := Lib.hid (emptyB_false.2 fun i hi => HL.out i (by omega) : emptyB n L = false)
      go_wp2
      go_ret
      exact ⟨-1, rfl, by rw [HF.out]; rfl, rfl⟩
theorem contains_empty (A : Option Addr) (n C : Nat) (L : Nat → Nat) (M : Mat) (G : Nat → Prop) (w : World) (hm : n ≤ 1000000) (h : RdM w A n L M G) :
    Calls Try.prog 49 #[.slice A n C, .func (.func 50) #[] #[]] w fun e w' => e = .returned (.bool (emptyB n L)) ∧ w = w' := by
  have H := Lib.hid h
  clear h
  go_enter Try.func49, Try.ntmps49
  go_wp2_with fail
  refine (index_empty A n C L M _ w hm H.out).mono ?_
  rintro e w' ⟨z, rfl, hz, rfl⟩
  have HZ := Lib.hid hz
  go_wp2
  go_ret
  exact ⟨rfl, rfl⟩
set_option maxHeartbeats 1000000 in
theorem parityOf_bad (A : Option Addr) (n C : Nat) (L : Nat → Nat) (D : Mat) (G : Nat → Prop) (p : Int) (w : World) (hn : n ≤ 1000000) (h : RdM w A n L D G) (he : emptyB n L = true) :
    Calls Try.prog 33 #[.slice A n C, .int .i64 p] w fun e w' => e = .returned (.tuple #[.slice none 0 0, .int .i64 1]) ∧ Below w.heap.size w w' := by
  have HC := Lib.hid (contains_empty A n C L D G w hn h)
  rw [he] at HC
  clear h he
  go_enter Try.func33, Try.ntmps33
  go_wp2_with fail
  refine HC.out.mono ?_
  rintro e w' ⟨rfl, rfl⟩
  go_wp2
  go_ret2
  exact ⟨rfl, Below.refl _ _⟩
set_option maxHeartbeats 1000000 in
theorem parityOf_ok (A : Option Addr) (n C : Nat) (L : Nat → Nat) (D : Mat) (G : Nat → Prop) (p : Int) (w : World) (hn : n ≤ 1000000) (hL : 0 < n → L 0 ≤ 1000000) (hp : -9223372036854775808 ≤ p) (hp' : p ≤ 9223372036854775807) (h : RdM w A n L D G) (he : emptyB n L = false) :
    Calls Try.prog 33 #[.slice A n C, .int .i64 p] w (EncNew n L D p w) := by
  have HC := Lib.hid (contains_empty A n C L D G w hn h)
  rw [he] at HC
  have HE := Lib.hid (encode_new A n C L D G p w (by unfold maxLen; omega) hL hp hp' h)
  clear h he
  have HQ : Hid (∀ e w', EncNew n L D p w e w' → ∃ A' k C' c, e = .returned (.tuple #[.slice A' k C', .int .i64 c])) := Lib.hid fun e w' hh => by
    unfold EncNew at hh
    split at hh
    · rcases hh with ⟨_, rfl, _⟩ | ⟨_, b, q, G', C', rfl, _⟩
      · exact ⟨_, _, _, _, rfl⟩
      · exact ⟨_, _, _, _, rfl⟩
    · obtain ⟨rfl, _⟩ := hh
      exact ⟨_, _, _, _, rfl⟩
  go_enter Try.func33, Try.ntmps33
  go_wp2_with fail
  refine HC.out.mono ?_
  rintro e w' ⟨rfl, rfl⟩
  go_wp2_with fail
  refine HE.out.mono ?_
  intro e w' hh
  obtain ⟨A', k, C', c, rfl⟩ := HQ.out e w' hh
  have HH := Lib.hid hh
  clear hh
  go_wp2
  go_ret2
  exact HH.out
end Go.Proofs.Ytmfikihcoafekaa
namespace Go.Proofs.Ytmfikihcoafekaa
open Go.RowKit Mx
open Pt (Tx)

set_option maxRecDepth 100000 in
set_option maxHeartbeats 8000000 in
theorem parity_main (A : Option Addr) (ts : List St.T) (C : Nat) (G : Nat → Prop) (p : Nat) (w : World) (hn0 : 0 < ts.length) (hnp : ts.length + p ≤ 255) (hl : St.len ts ≤ 1000000) (hr : RdT w A ts G) :
    Calls Try.prog 14 #[.slice A ts.length C, .int .i64 (p : Int)] w (ParA ts (p : Int) w) := by
  have HR := Lib.hid hr
  have hmk := run_make_row' (P := Try.prog) 30 24 (.slice none 0 0) 24 Try.underlying30 infoRow rfl .i64 .i64 ts.length (by omega) (by omega)
  have HMK2 := Lib.hid (run_make_row' (P := Try.prog) 53 30 (.slice none 0 0) 24 Try.underlying53 infoMat rfl .i64 .i64 p (by omega) (by omega))
  have HB0 := Lib.hid ((Below.refl w.heap.size w).alloc (Nat.le_refl _) (.cells (madeCells #[.slice none 0 0] ts.length) 24))
  have HENC := Lib.hid (encode_ok (some ⟨w.heap.size, 0, none⟩) ts.length ts.length (fun _ => 0) one _ p _ hn0 hnp (fun _ _ => rfl) (Nat.zero_le _) (TopR.start w ts.length one).rdM)
  obtain ⟨i0, hi0, hz0, hz1, hz2⟩ := info_parts infoRow
  obtain ⟨K, hK⟩ : ∃ K, K = St.len ts := ⟨_, rfl⟩
  rw [← hK] at hl
  have HK := Lib.hid hK
  clear hr hK
  go_enter Try.func14, Try.ntmps14
  go_wp2_with fail
  refine HENC.out.mono ?_
  rintro e w1 ⟨A1, C1, rfl, -, -, hb1⟩
  have HB1 := Lib.hid (HB0.out.trans (hb1.mono HB0.out.size))
  have hmk2 := HMK2.out
  have hlo1 := HB1.out.size
  have HO1 : Hid (OutP (w1.alloc (.cells (madeCells #[.slice none 0 0] p) 30)) w.heap.size w1.heap.size p 79 (fun _ => .slice none 0 0) (fun _ => 0) (St.X ts p)) := Lib.hid (OutP.start _ _ _ _ _ _ hlo1 fun _ => RowV.made w1 _ _ p)
  have HB1' := Lib.hid (HB1.out.alloc HB1.out.size (.cells (madeCells #[.slice none 0 0] p) 30))
  clear hmk hb1 HENC HB0 HMK2
  go_wp2_with fail
  obtain ⟨b, hb⟩ : ∃ b, b = w1.heap.size := ⟨_, rfl⟩
  rw [← hb] at HO1 ⊢
  refine (len_any A ts C _ _ (by unfold maxLen; omega) (HR.out.old (HB1'.out.mono (Nat.le_refl _)))).mono ?_
  rintro e w2 ⟨rfl, hb2⟩
  rw [← HK.out]
  have HO2 := Lib.hid (HO1.out.old hb2)
  have HB2 := Lib.hid (HB1'.out.trans (hb2.mono HB1'.out.size))
  clear hb2 hb hmk2 HO1 HB1 HB1' hlo1
  go_wp2
  go_loopw [29] (fun vi wr => ∃ n : Nat, n ≤ K ∧ vi = .int .i64 (n : Int) ∧ Hid (∃ V, OutP wr w.heap.size b p 79 V (fun _ => n) (St.X ts p)) ∧ Hid (∀ m : Nat, m < n → ∀ t ∈ ts, St.blk (m : Int) t ≠ []) ∧ Hid (Below w.heap.size w wr)) (fun vi _ => K - (intOf vi).toNat)
  case atStart => exact ⟨0, Nat.zero_le _, rfl, Lib.hid ⟨_, HO2.out⟩, Lib.hid (fun m hm => absurd hm (by omega)), HB2⟩
  case round =>
    obtain ⟨n, hn, rfl, HO, HW, HB⟩ := hrel
    obtain ⟨wo, rfl⟩ : ∃ x, x = wr := ⟨wr, rfl⟩
    by_cases hlt : n < K
    · have e0 : decide (n < K) = true := decide_eq_true hlt
      go_wp2_with fail
      refine (row_any A ts C _ (n : Int) wo (by omega) (HR.out.old HB.out)).mono ?_
      rintro e w3 ⟨A3, C3, rfl, -, -, hr3, hb3⟩
      have HR3 := Lib.hid hr3
      have HB3 := Lib.hid (HB.out.trans (hb3.mono HB.out.size))
      have HBr := Lib.hid hb3
      clear hr3 hb3
      cases he : emptyB ts.length (St.lens (St.row ts (n : Int))) with
      | true =>
        have HN : Hid (¬ St.Ok ts (p : Int)) := Lib.hid fun h => by
          obtain ⟨t, ht, e⟩ := St.none_of he
          exact h.2 n (by rw [← HK.out]; exact hlt) t ht e
        go_wp2_with fail
        refine (parityOf_bad A3 ts.length C3 _ _ _ (p : Int) w3 (by omega) HR3.out he).mono ?_
        rintro e w4 ⟨rfl, hb4⟩
        have HB4 := Lib.hid (HB3.out.trans (hb4.mono HB3.out.size))
        clear hb4 he
        go_wp2
        go_ret2
        exact ParA.no HN.out HB4.out
      | false =>
        obtain ⟨h79, hne⟩ := St.all_of he
        have HW2 : Hid (∀ m : Nat, m < n + 1 → ∀ t ∈ ts, St.blk (m : Int) t ≠ []) := Lib.hid fun m hm => by
          by_cases e : m = n
          · subst e; exact hne
          · exact HW.out m (by omega)
        have hok : EncOk ts.length (St.lens (St.row ts (n : Int))) (p : Int) := ⟨hn0, fun i hi => by rw [h79 i hi, h79 0 hn0], by omega, by omega⟩
        have HOK := Lib.hid hok
        have H79 := Lib.hid h79
        clear hok h79 hne HW
        go_wp2_with fail
        refine (parityOf_ok A3 ts.length C3 _ _ _ (p : Int) w3 (by omega) (fun h => by rw [H79.out 0 h]; omega) (by omega) (by omega) HR3.out he).mono ?_
        intro e w4 hh
        obtain ⟨A4, C4, rfl, hM4, hb4⟩ := hh.made HOK.out (H79.out 0 hn0)
        obtain ⟨V0, hO⟩ := HO.out
        have HM4 := Lib.hid hM4
        have HB4 := Lib.hid (HB3.out.trans (hb4.mono HB3.out.size))
        have HO4 := Lib.hid ((hO.old HBr.out).old hb4)
        have HS3 := Lib.hid HB3.out.size
        have HLT : Hid (0 < p → ∀ x, (x = b ∨ ∃ i, i < p ∧ (V0 i).ownBlock = some x) → x < w3.heap.size) := Lib.hid fun hp x hx => by
          rcases hx with rfl | ⟨i, hi, e⟩
          · exact (((hO.old HBr.out).top hp).lt)
          · exact (((hO.old HBr.out).rows i hi).lt e).2
        clear hh hM4 hb4 hO he HO HB3 HB HR3 HBr HOK H79
        go_wp2
        go_loopw [45] (fun vj wq => ∃ j : Nat, j ≤ p ∧ vj = .int .i64 (j : Int) ∧ Hid (Inn w w4 wq b p n j V0 (St.X ts p))) (fun vj _ => p - (intOf vj).toNat)
        case atStart => exact ⟨0, Nat.zero_le _, rfl, Lib.hid (Inn.start HO4.out)⟩
        case round =>
          obtain ⟨j, hj, rfl, HI⟩ := hrel
          by_cases hltj : j < p
          · have e1 : decide (j < p) = true := decide_eq_true hltj
            obtain ⟨b2, r, c, rfl, -, hc, hC, hrr, hR⟩ := (HM4.out.kp HI.out.kp (HLT.out (by omega))) j hltj
            obtain ⟨Av, Cv, us, hcv, hfv, -, hown, hnext⟩ := HI.out.next hltj
            have HNX := Lib.hid hnext
            have HRR := Lib.hid hR
            have HBQ := Lib.hid (HI.out.below HO4.out HB4.out)
            have hlow : w.heap.size ≤ wr.heap.size := HBQ.out.size
            have hrlow : w.heap.size ≤ r := Nat.le_trans HS3.out hrr
            have HHC := Lib.hid hC
            clear hnext hR hC hrr
            go_wp2_with (at_builtin; refine wpList_append_lies _ rfl _ _ 30 rfl w.heap.size 24 i0 (.slice none 0 0) 1 24 Try.underlying30 hi0 hz0 hz1 hz2 rfl (by decide) (.slice Av n Cv) n us rfl (hown.alloc _) ⟨wr.heap.size, 0, none⟩ 1 1 [.slice (some ⟨r, 0, none⟩) 79 c] rfl rfl (oneCell _ _ _) (oneSlice _ _ _) (by decide) (by unfold maxLen; omega) (by omega) (by simp; omega) (wr.heap.size + 1) (by simp) ?_)
            intro g cap w5 hown5 hg5 hat5 hlt5
            obtain ⟨c5, f5, hI5⟩ := HNX.out _ w5 g cap r c _ ((Below.refl _ _).alloc (Nat.le_refl _) _) hg5 hown5 (hat5.imp id fun e => by omega) HHC.out hrlow HRR.out (fun x _ => rfl)
            have HI5 := Lib.hid hI5
            clear hown5 hg5 hat5 hI5 hown hcv hfv hc
            go_wp2
            go_roundw
            case rel => exact ⟨j + 1, by omega, by go_num, HI5⟩
            case measure => simp [intOf]; omega
          · have e1 : decide (j < p) = false := decide_eq_false hltj
            obtain rfl : j = p := by omega
            have HO5 := Lib.hid HI.out.done
            have HB5 := Lib.hid (HI.out.below HO4.out HB4.out)
            clear HI
            go_wp2
            go_roundw
            case rel => exact ⟨n + 1, by omega, by go_num, HO5, HW2, HB5⟩
            case measure => simp [intOf]; omega
    · have e0 : decide (n < K) = false := decide_eq_false hlt
      obtain rfl : n = K := by omega
      obtain ⟨V, hO⟩ := HO.out
      have HF := Lib.hid (hO.rdP (n := n) fun _ _ => rfl)
      have HOK : Hid (St.Ok ts (p : Int)) := Lib.hid ⟨⟨hn0, by omega, by omega⟩, fun m hm => HW.out m (by rw [HK.out]; exact hm)⟩
      rw [HK.out] at HF
      clear hO HO HW
      go_wp2
      go_ret2
      exact ParA.yes HOK.out (Nat.le_refl _) (fun h => by cases h) HF.out HB.out
set_option maxHeartbeats 2000000 in
theorem parity_any (A : Option Addr) (ts : List St.T) (C : Nat) (G : Nat → Prop) (p : Int) (w : World) (hn : ts.length ≤ 1000000) (hp : -9223372036854775808 ≤ p) (hp' : p ≤ 9223372036854775807) (hl : St.len ts ≤ 1000000) (hr : RdT w A ts G) :
    Calls Try.prog 14 #[.slice A ts.length C, .int .i64 p] w (ParA ts p w) := by
  by_cases ha : St.Arg ts p
  · obtain ⟨k, rfl⟩ : ∃ k : Nat, p = (k : Int) := ⟨p.toNat, by have := ha.2.1; omega⟩
    exact parity_main A ts C G k w (by have := ha.1; omega) (by have := ha.2.2; omega) hl hr
  · have HN : Hid (¬ St.Ok ts p) := Lib.hid fun h => ha h.1
    have HE : Hid (¬ EncOk ts.length (fun _ => 0) p) := Lib.hid fun h => ha ((St.enc_arg (fun _ _ => rfl)).1 h)
    have hmk := run_make_row' (P := Try.prog) 30 24 (.slice none 0 0) 24 Try.underlying30 infoRow rfl .i64 .i64 ts.length (by omega) (by omega)
    have HB0 := Lib.hid ((Below.refl w.heap.size w).alloc (Nat.le_refl _) (.cells (madeCells #[.slice none 0 0] ts.length) 24))
    have HENC := Lib.hid (encode_new (some ⟨w.heap.size, 0, none⟩) ts.length ts.length (fun _ => 0) one _ p _ (by unfold maxLen; omega) (fun _ => Nat.zero_le _) hp hp' (TopR.start w ts.length one).rdM)
    clear hr ha
    go_enter Try.func14, Try.ntmps14
    go_wp2_with fail
    refine HENC.out.mono ?_
    intro e w1 hh
    unfold EncNew at hh
    rw [if_neg HE.out] at hh
    obtain ⟨rfl, hb1⟩ := hh
    have HB1 := Lib.hid (HB0.out.trans (hb1.mono HB0.out.size))
    clear hb1 hmk
    go_wp2
    go_ret2
    exact ParA.no HN.out HB1.out
end Go.Proofs.Ytmfikihcoafekaa
