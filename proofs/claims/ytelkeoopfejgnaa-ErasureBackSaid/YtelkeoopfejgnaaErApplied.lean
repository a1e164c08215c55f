/- What applied of package erasure answers: a matrix times rows, byte by byte, in new memory. -/
import Derived.Test.YtelkeoopfejgnaaErWords
import Derived.Test.YtelkeoopfejgnaaMxApply
namespace Go.Proofs.Ytelkeoopfejgnaa
open Go.RowKit Mx

/-- a new matrix, and an error's number -/
def OwnM (code : Int) (n m : Nat) (M : Mat) (w : World) (e : Ending) (w' : World) : Prop :=
  ∃ b G C, e = .returned (.tuple #[.slice (some ⟨b, 0, none⟩) n n, .int .i64 code]) ∧ w.heap.size ≤ b ∧ OwnK w' w.heap.size b n n m G C M ∧ Below w.heap.size w w'
theorem OwnM.res {code : Int} {n m : Nat} {M : Mat} {w : World} {e : Ending} {w' : World} (h : OwnM code n m M w e w') : ResM code n m M w e w' := by
  obtain ⟨b, G, C, he, _, hr, hb⟩ := h
  exact ⟨_, n, he, hr.rdAll (Nat.le_refl _), hb⟩
/-- the columns ahead of k are made, of column k the first i -/
def upto (X : Mat) (k i : Nat) : Mat := fun r c => if c < k then X r c else if c = k ∧ r < i then X r c else 0
theorem upto_zero (X : Mat) (r c : Nat) : upto X 0 0 r c = 0 := by
  unfold upto; rw [if_neg (by omega), if_neg (by omega)]
theorem upto_next {X : Mat} {k p r c : Nat} (hr : r < p) : upto X k p r c = upto X (k + 1) 0 r c := by
  unfold upto
  by_cases e : c < k
  · rw [if_pos e, if_pos (by omega)]
  · rw [if_neg e]
    by_cases e' : c = k
    · rw [if_pos ⟨e', hr⟩, if_pos (by omega)]
    · rw [if_neg (by omega), if_neg (by omega), if_neg (by omega)]
theorem upto_all {X : Mat} {m r c : Nat} (hc : c < m) : upto X m 0 r c = X r c := by
  unfold upto; rw [if_pos hc]
theorem upto_set {X : Mat} {k i r c : Nat} : (if r = i then (fun c => if c = k then X i k else upto X k i i c) else upto X k i r) c = upto X k (i + 1) r c := by
  unfold upto
  by_cases e : r = i
  · rw [if_pos e]
    by_cases e' : c = k
    · subst e; subst e'; simp
    · simp only [e', if_false, e]
      by_cases e2 : c < k
      · rw [if_pos e2, if_pos e2]
      · simp [e2]
  · rw [if_neg e]
    by_cases e2 : c < k
    · rw [if_pos e2, if_pos e2]
    · rw [if_neg e2, if_neg e2]
      by_cases e3 : c = k ∧ r < i
      · rw [if_pos e3, if_pos ⟨e3.1, by omega⟩]
      · rw [if_neg e3, if_neg (by omega)]

set_option maxHeartbeats 4000000 in
theorem applied_own (A : Option Addr) (p C : Nat) (Q : Mat) (G : Nat → Prop) (A' : Option Addr) (n C' m : Nat) (Y : Mat) (G' : Nat → Prop) (w : World) (hp0 : 0 < p) (hp : p ≤ 255) (hn0 : 0 < n) (hn : n ≤ 255) (hm : m ≤ 1000000)
    (h : RdM w A p (fun _ => n) Q G) (h' : RdM w A' n (fun _ => m) Y G') :
    Calls Try.prog 16 #[.slice A p C, .slice A' n C'] w (OwnM 0 p m (fun i c => mv n Q (fun j => Y j c) i) w) := by
  obtain ⟨X, hX⟩ : ∃ X : Mat, X = fun i c => mv n Q (fun j => Y j c) i := ⟨_, rfl⟩
  rw [← hX]
  have HX := Lib.hid hX
  obtain ⟨b0, off0, A0, C0, rfl, _, hc0, _⟩ := h'.row hn0
  rw [Nat.add_zero] at hc0
  have hb0 := World.block_lt_of_cell? _ _ hc0
  have HC0 := Lib.hid hc0
  have H := Lib.hid h
  have H' := Lib.hid h'
  clear h h' hX hc0
  have hmk := run_make_row' (P := Try.prog) 22 34 (.slice none 0 0) 24 Try.underlying22 infoRow rfl .i64 .i64 p (by omega) (by omega)
  have HMK := Lib.hid (run_make_row' (P := Try.prog) 34 5 (.int .u8 0) 1 Try.underlying34 infoByte rfl .i64 .i64 m (by omega) (by omega))
  have HMN := Lib.hid (run_make_row' (P := Try.prog) 34 5 (.int .u8 0) 1 Try.underlying34 infoByte rfl .i64 .i64 n (by omega) (by omega))
  go_enter Try.func16, Try.ntmps16
  go_wp2
  clear hmk
  go_loopw [21] (fun vi wr => ∃ i : Nat, i ≤ p ∧ vi = .int .i64 (i : Int) ∧ Hid (∃ G C, OwnK wr w.heap.size w.heap.size p i m G C (fun _ _ => 0)) ∧ Hid (Below w.heap.size w wr)) (fun vi _ => p - (intOf vi).toNat)
  case atStart => exact ⟨0, by omega, rfl, Lib.hid ⟨fun _ => 0, fun _ => 0, OwnK.start w _ p m _ _ _⟩, Lib.hid ((Below.refl _ _).alloc (Nat.le_refl _) _)⟩
  case round =>
    obtain ⟨i, hi, rfl, HO, HB⟩ := hrel
    obtain ⟨G1, Cp1, hO⟩ := HO.out
    have HO' := Lib.hid hO
    clear hO HO
    have d0 := (HB.out.cell hb0).trans HC0.out
    by_cases hlt : i < p
    · have hb1 : Below wr.heap.size wr (wr.alloc (.cells (madeCells #[.int .u8 0] m) 5)) := (Below.refl _ _).alloc (Nat.le_refl _) _
      have hO1 := HO'.out.old hb1
      have hct := hO1.top.cell hlt
      rw [if_neg (by omega)] at hct
      have hft := hO1.top.frozen i
      have HP := Lib.hid (HO'.out.push hb1 (Nat.le_refl _) HB.out.size (Nat.le_refl m) (RowAt.made wr m))
      have HB1 := Lib.hid ((HB.out.trans (hb1.mono HB.out.size)).setCell (p := ⟨w.heap.size, i, none⟩) (Nat.le_refl _) (.slice (some ⟨wr.heap.size, 0, none⟩) m m))
      have hmk := HMK.out
      clear hb1 hO1
      go_wp2
      go_roundw
      case rel => exact ⟨i + 1, by omega, by go_num, Lib.hid ⟨_, _, HP.out.congr (M' := fun _ _ => 0) fun r _ c _ => by by_cases e : r = i <;> simp [e]⟩, HB1⟩
      case measure => simp [intOf]; omega
    · obtain ⟨wo, rfl⟩ : ∃ x, x = wr := ⟨wr, rfl⟩
      have hip : i = p := by omega
      have hO2 := HO'.out
      rw [hip] at hO2
      have hsz : b0 < wo.heap.size := World.block_lt_of_cell? _ _ d0
      have HGL : Hid (∀ r, r < p → G1 r < wo.heap.size) := Lib.hid fun r hr => (hO2.rows r hr).lt
      have hwb : w.heap.size < wo.heap.size := hO2.top.lt
      have hal : Below wo.heap.size wo (wo.alloc (.cells (madeCells #[.int .u8 0] n) 5)) := (Below.refl _ _).alloc (Nat.le_refl _) _
      have HO3 := Lib.hid ((hO2.old hal).congr (M' := upto X 0 0) fun r _ c _ => (upto_zero X r c).symm)
      have HB3 := Lib.hid (HB.out.trans (hal.mono HB.out.size))
      have HCol := Lib.hid (RowAt.made wo n)
      have d1 := (hal.cell hsz).trans d0
      clear hO2 HO' HB hal hip
      have hmk := HMN.out
      go_wp2
      clear hmk d0 d1
      generalize wo.alloc (.cells (madeCells #[.int .u8 0] n) 5) = ws at HO3 HB3 HCol ⊢
      obtain ⟨gc, hgc⟩ : ∃ g, g = wo.heap.size := ⟨_, rfl⟩
      rw [← hgc] at HCol HGL hwb ⊢
      clear hgc hsz
      go_loopw [40] (fun vk wr => ∃ k : Nat, k ≤ m ∧ vk = .int .i64 (k : Int) ∧ Hid (∃ f, RowAt wr gc n f) ∧ Hid (OwnK wr w.heap.size w.heap.size p p m G1 Cp1 (upto X k 0)) ∧ Hid (Below w.heap.size w wr)) (fun vk _ => m - (intOf vk).toNat)
      case atStart => exact ⟨0, by omega, rfl, Lib.hid ⟨_, HCol.out⟩, HO3, HB3⟩
      case round =>
        obtain ⟨k, hk, rfl, HF, HO4, HB4⟩ := hrel
        clear HO3 HB3 HCol
        obtain ⟨f, hf⟩ := HF.out
        have HF' := Lib.hid hf
        clear hf HF
        by_cases hlt2 : k < m
        · go_wp2
          go_loopw [45] (fun vj wq => ∃ j : Nat, j ≤ n ∧ vj = .int .i64 (j : Int) ∧ Hid (RowAt wq gc n (fun x => if x < j then Y x k else f x)) ∧ Hid (OwnK wq w.heap.size w.heap.size p p m G1 Cp1 (upto X k 0)) ∧ Hid (Below w.heap.size w wq)) (fun vj _ => n - (intOf vj).toNat)
          case atStart => exact ⟨0, by omega, rfl, Lib.hid (HF'.out.congr fun x _ => by rw [if_neg (by omega)]), HO4, HB4⟩
          case round =>
            obtain ⟨j, hj, rfl, HC5, HO5, HB5⟩ := hrel
            clear HF' HO4 HB4
            by_cases hlt3 : j < n
            · obtain ⟨b1, off1, Aj, Cj, e, _, d1, hrj⟩ := (H'.out.old HB5.out).row hlt3
              obtain ⟨rfl, rfl⟩ : b0 = b1 ∧ off0 = off1 := by simpa using e
              obtain ⟨b2, off2, rfl, _, d2⟩ := hrj.at hlt2
              have d3 := HC5.out.cell hlt3
              have f3 := HC5.out.frozen j
              have HC6 := Lib.hid ((HC5.out.set j (Y j k)).congr (f' := fun x => if x < j + 1 then Y x k else f x) fun x _ => upTo_step (h := fun x => Y x k))
              have HO6 := Lib.hid (HO5.out.kp (Kp.store wr gc j (.int .u8 (fi (Y j k)))) (by omega) (fun r hr => by have := HGL.out r hr; omega))
              have HB6 := Lib.hid (HB5.out.setCell (p := ⟨gc, j, none⟩) (Nat.le_of_lt hwb) (.int .u8 (fi (Y j k))))
              clear e hrj HC5 HO5 HB5
              go_wp2
              go_roundw
              case rel => exact ⟨j + 1, by omega, by go_num, HC6, HO6, HB6⟩
              case measure => simp [intOf]; omega
            · have HC7 := Lib.hid (HC5.out.congr (f' := fun x => Y x k) fun x hx => by rw [if_pos (by omega)])
              clear HC5
              go_wp2_with fail
              refine (apply_own _ p C n Q _ _ n (fun x => Y x k) (fun _ => True) _ hp0 hp hn0 hn (H.out.old HB5.out) (HC7.out.rd _ trivial)).mono ?_
              rintro e w1 ⟨gm, cm, rfl, hgm, hrm, hbm⟩
              have hgm2 : gc < gm := by have := HC7.out.lt; omega
              have HGM : Hid (∀ r, r < p → G1 r ≠ gm) := Lib.hid fun r hr => by have := HGL.out r hr; omega
              have hwm : w.heap.size ≠ gm := by omega
              have HM8 : Hid (RowAt w1 gm p (fun r => X r k)) := by rw [HX.out]; exact Lib.hid hrm
              have HC8 := Lib.hid (HC7.out.old hbm)
              have HO8 := Lib.hid (HO5.out.old hbm)
              have HB8 := Lib.hid (HB5.out.trans (hbm.mono HB5.out.size))
              clear hrm hbm HC7 HO5 HB5
              go_wp2
              go_loopw [69] (fun vi wq => ∃ i : Nat, i ≤ p ∧ vi = .int .i64 (i : Int) ∧ Hid (RowAt wq gm p (fun r => X r k)) ∧ Hid (RowAt wq gc n (fun x => Y x k)) ∧ Hid (OwnK wq w.heap.size w.heap.size p p m G1 Cp1 (upto X k i)) ∧ Hid (Below w.heap.size w wq)) (fun vi _ => p - (intOf vi).toNat)
              case atStart => exact ⟨0, by omega, rfl, HM8, HC8, HO8, HB8⟩
              case round =>
                obtain ⟨i2, hi2, rfl, HM9, HC9, HO9, HB9⟩ := hrel
                clear HM8 HC8 HO8 HB8
                by_cases hlt4 : i2 < p
                · have d1 := HM9.out.cell hlt4
                  have d2 := HO9.out.top.cell hlt4
                  rw [if_pos hlt4] at d2
                  have hrow := HO9.out.rows i2 hlt4
                  have d3 := hrow.cell hlt2
                  have f3 := hrow.frozen k
                  have hne1 := HGM.out i2 hlt4
                  have hne2 := HGL.out i2 hlt4
                  have hkp := Kp.store wr (G1 i2) k (.int .u8 (fi (X i2 k)))
                  have HO10 := Lib.hid ((HO9.out.turn (i := i2) hlt4 hkp (hrow.set k (X i2 k))).congr (M' := upto X k (i2 + 1)) fun r _ c _ => upto_set)
                  have HM10 := Lib.hid (HM9.out.kp hkp (fun e => hne1 e.symm))
                  have HC10 := Lib.hid (HC9.out.kp hkp (by omega))
                  have HB10 := Lib.hid (HB9.out.setCell (p := ⟨G1 i2, k, none⟩) (HO9.out.lo i2 hlt4) (.int .u8 (fi (X i2 k))))
                  clear hkp hrow HM9 HC9 HO9 HB9
                  go_wp2
                  go_roundw
                  case rel => exact ⟨i2 + 1, by omega, by go_num, HM10, HC10, HO10, HB10⟩
                  case measure => simp [intOf]; omega
                · have HO11 := Lib.hid (HO9.out.congr (M' := upto X (k + 1) 0) fun r hr c _ => by
                    rw [show i2 = p by omega]; exact upto_next hr)
                  clear HO9
                  go_wp2
                  go_roundw
                  case rel => exact ⟨k + 1, by omega, by go_num, Lib.hid ⟨_, HC9.out⟩, HO11, HB9⟩
                  case measure => simp [intOf]; omega
        · have HO5 := Lib.hid (HO4.out.congr (M' := X) fun r _ c hc => by rw [show k = m by omega]; exact upto_all hc)
          clear HO4
          go_wp2
          go_ret2
          exact ⟨_, _, _, rfl, Nat.le_refl _, HO5.out, HB4.out⟩
end Go.Proofs.Ytelkeoopfejgnaa
