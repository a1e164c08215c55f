/- What applied of package erasure answers: a matrix times rows, byte by byte, in new memory. What Decode of package erasure answers, whatever it is given. What row of package mend answers, where what is there is of one Encode: the row that is asked for, or that too many are gone. -/
import Derived.Test.YtcokmmanajdioaaGreatMaj
import Derived.Test.YtcokmmanajdioaaGreatMay
import Derived.Deep.RegionHeld3
import Derived.Deep.DeepFit
import Derived.Test.YtcokmmanajdioaaGreatMav
import Derived.Test.YtcokmmanajdioaaGreatMaw
import Derived.Test.YtcokmmanajdioaaGreatMaq
import Derived.Test.YtcokmmanajdioaaGreatMaf
namespace Go.Proofs.YtcokmmanajdioaaGreat
open Go.RowKit Mx

/-- the columns ahead of k are made, of column k the first i -/
def upto (X : Mat) (k i : Nat) : Mat := fun r c => if c < k then X r c else if c = k ∧ r < i then X r c else 0
theorem upto_zero (X : Mat) (r c : Nat) : upto X 0 0 r c = 0 := by
  unfold upto; rw [if_neg (by omega), if_neg (by omega)]
theorem upto_next {X : Mat} {k p r c : Nat} (hr : r < p) : upto X k p r c = upto X (k + 1) 0 r c := by
  unfold upto
  by_cases e : c < k
  · rw [if_pos e, if_pos (by omega)]
  · rw [if_neg e]
    by_cases e' : c = k
    · rw [if_pos ⟨e', hr⟩, if_pos (by omega)]
    · rw [if_neg (by omega), if_neg (by omega), if_neg (by omega)]
theorem upto_all {X : Mat} {m r c : Nat} (hc : c < m) : upto X m 0 r c = X r c := by
  unfold upto; rw [if_pos hc]
theorem upto_set {X : Mat} {k i r c : Nat} : (if r = i then (fun c => if c = k then X i k else upto X k i i c) else upto X k i r) c = upto X k (i + 1) r c := by
  unfold upto
  by_cases e : r = i
  · rw [if_pos e]
    by_cases e' : c = k
    · subst e; subst e'; simp
    · simp only [e', if_false, e]
      by_cases e2 : c < k
      · rw [if_pos e2, if_pos e2]
      · simp [e2]
  · rw [if_neg e]
    by_cases e2 : c < k
    · rw [if_pos e2, if_pos e2]
    · rw [if_neg e2, if_neg e2]
      by_cases e3 : c = k ∧ r < i
      · rw [if_pos e3, if_pos ⟨e3.1, by omega⟩]
      · rw [if_neg e3, if_neg (by omega)]

set_option maxHeartbeats 4000000 in
theorem applied_own (A : Option Addr) (p C : Nat) (Q : Mat) (G : Nat → Prop) (A' : Option Addr) (n C' m : Nat) (Y : Mat) (G' : Nat → Prop) (w : World) (hp0 : 0 < p) (hp : p ≤ 255) (hn0 : 0 < n) (hn : n ≤ 255) (hm : m ≤ 1000000)
    (h : RdM w A p (fun _ => n) Q G) (h' : RdM w A' n (fun _ => m) Y G') :
    Calls Tryz.prog 65 #[.slice A p C, .slice A' n C'] w (OwnM 0 p m (fun i c => mv n Q (fun j => Y j c) i) w) := by
  obtain ⟨X, hX⟩ : ∃ X : Mat, X = fun i c => mv n Q (fun j => Y j c) i := ⟨_, rfl⟩
  rw [← hX]
  have HX := Lib.hid hX
  obtain ⟨b0, off0, A0, C0, rfl, _, hc0, _⟩ := h'.row hn0
  rw [Nat.add_zero] at hc0
  have hb0 := World.block_lt_of_cell? _ _ hc0
  have HC0 := Lib.hid hc0
  have H := Lib.hid h
  have H' := Lib.hid h'
  clear h h' hX hc0
  have hmk := run_make_row' (P := Tryz.prog) 29 34 (.slice none 0 0) 24 Tryz.underlying29 infoRow rfl .i64 .i64 p (by omega) (by omega)
  have HMK := Lib.hid (run_make_row' (P := Tryz.prog) 34 5 (.int .u8 0) 1 Tryz.underlying34 infoByte rfl .i64 .i64 m (by omega) (by omega))
  have HMN := Lib.hid (run_make_row' (P := Tryz.prog) 34 5 (.int .u8 0) 1 Tryz.underlying34 infoByte rfl .i64 .i64 n (by omega) (by omega))
  go_enter Tryz.func65, Tryz.ntmps65
  go_wp2
  clear hmk
  go_loopw [21] (fun vi wr => ∃ i : Nat, i ≤ p ∧ vi = .int .i64 (i : Int) ∧ Hid (∃ G C, OwnK wr w.heap.size w.heap.size p i m G C (fun _ _ => 0)) ∧ Hid (Below w.heap.size w wr)) (fun vi _ => p - (intOf vi).toNat)
  case atStart => exact ⟨0, by omega, rfl, Lib.hid ⟨fun _ => 0, fun _ => 0, OwnK.start w _ p m _ _ _⟩, Lib.hid ((Below.refl _ _).alloc (Nat.le_refl _) _)⟩
  case round =>
    obtain ⟨i, hi, rfl, HO, HB⟩ := hrel
    obtain ⟨G1, Cp1, hO⟩ := HO.out
    have HO' := Lib.hid hO
    clear hO HO
    have d0 := (HB.out.cell hb0).trans HC0.out
    by_cases hlt : i < p
    · have hb1 : Below wr.heap.size wr (wr.alloc (.cells (madeCells #[.int .u8 0] m) 5)) := (Below.refl _ _).alloc (Nat.le_refl _) _
      have hO1 := HO'.out.old hb1
      have hct := hO1.top.cell hlt
      rw [if_neg (by omega)] at hct
      have hft := hO1.top.frozen i
      have HP := Lib.hid (HO'.out.push hb1 (Nat.le_refl _) HB.out.size (Nat.le_refl m) (RowAt.made wr m))
      have HB1 := Lib.hid ((HB.out.trans (hb1.mono HB.out.size)).setCell (p := ⟨w.heap.size, i, none⟩) (Nat.le_refl _) (.slice (some ⟨wr.heap.size, 0, none⟩) m m))
      have hmk := HMK.out
      clear hb1 hO1
      go_wp2
      go_roundw
      case rel => exact ⟨i + 1, by omega, by go_num, Lib.hid ⟨_, _, HP.out.congr (M' := fun _ _ => 0) fun r _ c _ => by by_cases e : r = i <;> simp [e]⟩, HB1⟩
      case measure => simp [intOf]; omega
    · obtain ⟨wo, rfl⟩ : ∃ x, x = wr := ⟨wr, rfl⟩
      have hip : i = p := by omega
      have hO2 := HO'.out
      rw [hip] at hO2
      have hsz : b0 < wo.heap.size := World.block_lt_of_cell? _ _ d0
      have HGL : Hid (∀ r, r < p → G1 r < wo.heap.size) := Lib.hid fun r hr => (hO2.rows r hr).lt
      have hwb : w.heap.size < wo.heap.size := hO2.top.lt
      have hal : Below wo.heap.size wo (wo.alloc (.cells (madeCells #[.int .u8 0] n) 5)) := (Below.refl _ _).alloc (Nat.le_refl _) _
      have HO3 := Lib.hid ((hO2.old hal).congr (M' := upto X 0 0) fun r _ c _ => (upto_zero X r c).symm)
      have HB3 := Lib.hid (HB.out.trans (hal.mono HB.out.size))
      have HCol := Lib.hid (RowAt.made wo n)
      have d1 := (hal.cell hsz).trans d0
      clear hO2 HO' HB hal hip
      have hmk := HMN.out
      go_wp2
      clear hmk d0 d1
      generalize wo.alloc (.cells (madeCells #[.int .u8 0] n) 5) = ws at HO3 HB3 HCol ⊢
      obtain ⟨gc, hgc⟩ : ∃ g, g = wo.heap.size := ⟨_, rfl⟩
      rw [← hgc] at HCol HGL hwb ⊢
      clear hgc hsz
      go_loopw [40] (fun vk wr => ∃ k : Nat, k ≤ m ∧ vk = .int .i64 (k : Int) ∧ Hid (∃ f, RowAt wr gc n f) ∧ Hid (OwnK wr w.heap.size w.heap.size p p m G1 Cp1 (upto X k 0)) ∧ Hid (Below w.heap.size w wr)) (fun vk _ => m - (intOf vk).toNat)
      case atStart => exact ⟨0, by omega, rfl, Lib.hid ⟨_, HCol.out⟩, HO3, HB3⟩
      case round =>
        obtain ⟨k, hk, rfl, HF, HO4, HB4⟩ := hrel
        clear HO3 HB3 HCol
        obtain ⟨f, hf⟩ := HF.out
        have HF' := Lib.hid hf
        clear hf HF
        by_cases hlt2 : k < m
        · go_wp2
          go_loopw [45] (fun vj wq => ∃ j : Nat, j ≤ n ∧ vj = .int .i64 (j : Int) ∧ Hid (RowAt wq gc n (fun x => if x < j then Y x k else f x)) ∧ Hid (OwnK wq w.heap.size w.heap.size p p m G1 Cp1 (upto X k 0)) ∧ Hid (Below w.heap.size w wq)) (fun vj _ => n - (intOf vj).toNat)
          case atStart => exact ⟨0, by omega, rfl, Lib.hid (HF'.out.congr fun x _ => by rw [if_neg (by omega)]), HO4, HB4⟩
          case round =>
            obtain ⟨j, hj, rfl, HC5, HO5, HB5⟩ := hrel
            clear HF' HO4 HB4
            by_cases hlt3 : j < n
            · obtain ⟨b1, off1, Aj, Cj, e, _, d1, hrj⟩ := (H'.out.old HB5.out).row hlt3
              obtain ⟨rfl, rfl⟩ : b0 = b1 ∧ off0 = off1 := by simpa using e
              obtain ⟨b2, off2, rfl, _, d2⟩ := hrj.at hlt2
              have d3 := HC5.out.cell hlt3
              have f3 := HC5.out.frozen j
              have HC6 := Lib.hid ((HC5.out.set j (Y j k)).congr (f' := fun x => if x < j + 1 then Y x k else f x) fun x _ => upTo_step (h := fun x => Y x k))
              have HO6 := Lib.hid (HO5.out.kp (Kp.store wr gc j (.int .u8 (fi (Y j k)))) (by omega) (fun r hr => by have := HGL.out r hr; omega))
              have HB6 := Lib.hid (HB5.out.setCell (p := ⟨gc, j, none⟩) (Nat.le_of_lt hwb) (.int .u8 (fi (Y j k))))
              clear e hrj HC5 HO5 HB5
              go_wp2
              go_roundw
              case rel => exact ⟨j + 1, by omega, by go_num, HC6, HO6, HB6⟩
              case measure => simp [intOf]; omega
            · have HC7 := Lib.hid (HC5.out.congr (f' := fun x => Y x k) fun x hx => by rw [if_pos (by omega)])
              clear HC5
              go_wp2_with fail
              refine (apply_own _ p C n Q _ _ n (fun x => Y x k) (fun _ => True) _ hp0 hp hn0 hn (H.out.old HB5.out) (HC7.out.rd _ trivial)).mono ?_
              rintro e w1 ⟨gm, cm, rfl, hgm, hrm, hbm⟩
              have hgm2 : gc < gm := by have := HC7.out.lt; omega
              have HGM : Hid (∀ r, r < p → G1 r ≠ gm) := Lib.hid fun r hr => by have := HGL.out r hr; omega
              have hwm : w.heap.size ≠ gm := by omega
              have HM8 : Hid (RowAt w1 gm p (fun r => X r k)) := by rw [HX.out]; exact Lib.hid hrm
              have HC8 := Lib.hid (HC7.out.old hbm)
              have HO8 := Lib.hid (HO5.out.old hbm)
              have HB8 := Lib.hid (HB5.out.trans (hbm.mono HB5.out.size))
              clear hrm hbm HC7 HO5 HB5
              go_wp2
              go_loopw [69] (fun vi wq => ∃ i : Nat, i ≤ p ∧ vi = .int .i64 (i : Int) ∧ Hid (RowAt wq gm p (fun r => X r k)) ∧ Hid (RowAt wq gc n (fun x => Y x k)) ∧ Hid (OwnK wq w.heap.size w.heap.size p p m G1 Cp1 (upto X k i)) ∧ Hid (Below w.heap.size w wq)) (fun vi _ => p - (intOf vi).toNat)
              case atStart => exact ⟨0, by omega, rfl, HM8, HC8, HO8, HB8⟩
              case round =>
                obtain ⟨i2, hi2, rfl, HM9, HC9, HO9, HB9⟩ := hrel
                clear HM8 HC8 HO8 HB8
                by_cases hlt4 : i2 < p
                · have d1 := HM9.out.cell hlt4
                  have d2 := HO9.out.top.cell hlt4
                  rw [if_pos hlt4] at d2
                  have hrow := HO9.out.rows i2 hlt4
                  have d3 := hrow.cell hlt2
                  have f3 := hrow.frozen k
                  have hne1 := HGM.out i2 hlt4
                  have hne2 := HGL.out i2 hlt4
                  have hkp := Kp.store wr (G1 i2) k (.int .u8 (fi (X i2 k)))
                  have HO10 := Lib.hid ((HO9.out.turn (i := i2) hlt4 hkp (hrow.set k (X i2 k))).congr (M' := upto X k (i2 + 1)) fun r _ c _ => upto_set)
                  have HM10 := Lib.hid (HM9.out.kp hkp (fun e => hne1 e.symm))
                  have HC10 := Lib.hid (HC9.out.kp hkp (by omega))
                  have HB10 := Lib.hid (HB9.out.setCell (p := ⟨G1 i2, k, none⟩) (HO9.out.lo i2 hlt4) (.int .u8 (fi (X i2 k))))
                  clear hkp hrow HM9 HC9 HO9 HB9
                  go_wp2
                  go_roundw
                  case rel => exact ⟨i2 + 1, by omega, by go_num, HM10, HC10, HO10, HB10⟩
                  case measure => simp [intOf]; omega
                · have HO11 := Lib.hid (HO9.out.congr (M' := upto X (k + 1) 0) fun r hr c _ => by
                    rw [show i2 = p by omega]; exact upto_next hr)
                  clear HO9
                  go_wp2
                  go_roundw
                  case rel => exact ⟨k + 1, by omega, by go_num, Lib.hid ⟨_, HC9.out⟩, HO11, HB9⟩
                  case measure => simp [intOf]; omega
        · have HO5 := Lib.hid (HO4.out.congr (M' := X) fun r _ c hc => by rw [show k = m by omega]; exact upto_all hc)
          clear HO4
          go_wp2
          go_ret2
          exact ⟨_, _, _, rfl, Nat.le_refl _, HO5.out, HB4.out⟩
end Go.Proofs.YtcokmmanajdioaaGreat
namespace Go.Proofs.YtcokmmanajdioaaGreat
open Go.RowKit Mx

set_option maxRecDepth 100000 in
set_option maxHeartbeats 4000000 in
theorem decoded_any (A : Option Addr) (n C m : Nat) (Y : Mat) (G : Nat → Prop) (A' : Option Addr) (C' : Nat) (at_ : Nat → Nat) (p : Nat) (w : World) (hn0 : 0 < n) (hnp : n + p ≤ 255) (hm0 : 0 < m) (hm : m ≤ 1000000)
    (hup : ∀ s t, s < t → t < n → at_ s < at_ t) (hlt : ∀ t, t < n → at_ t < n + p) (h : RdM w A n (fun _ => m) Y G) (h' : RdI w A' n (fun j => (at_ j : Int))) :
    Calls Tryz.prog 55 #[.slice A n C, .slice A' n C', .int .i64 (p : Int)] w (ResM 0 n m (dec n p at_ Y) w) := by
  obtain ⟨R, V, hg⟩ := encM_some hnp hup hlt
  have HG := Lib.hid hg
  obtain ⟨D, hD⟩ : ∃ D, D = dec n p at_ Y := ⟨_, rfl⟩
  have HD1 : Hid (∀ t, t < n → at_ t < n → ∀ c, c < m → Y t c = D (at_ t) c) := Lib.hid fun t ht htn c _ => by rw [hD]; exact dec_same hnp hup hlt Y ht htn c
  have HD2 : Hid (∀ x c, mv n V (fun t => Y t c) x = D x c) := Lib.hid fun x c => by
    rw [hD]; unfold dec; rw [invOf_some hg]
  rw [← hD]
  have HUP := Lib.hid hup
  have HLT := Lib.hid hlt
  have H := Lib.hid h
  have H' := Lib.hid h'
  clear h h' hD hup hlt hg
  go_enter Tryz.func55, Tryz.ntmps55
  go_wp2_with fail
  refine (asTheyAre_any A n C m Y G A' C' at_ D w hn0 (by omega) hm0 hm (fun t ht => by have := HLT.out t ht; omega) H.out H'.out HD1.out).mono ?_
  rintro e w1 ⟨b, Ax, Lx, Cx, rfl, hb, hT, hL1, hL2, hB1⟩
  have HT1 := Lib.hid hT
  have HL1 := Lib.hid hL1
  have HL2 := Lib.hid hL2
  have HB1 := Lib.hid hB1
  clear hT hL1 hL2 hB1
  go_wp2_with fail
  refine (places_any _ n n Lx D _ false _ (by omega) HT1.out.rdM).mono ?_
  obtain ⟨P, hP⟩ : ∃ P : Nat → Bool, P = fun x => decide (0 < Lx x) == false := ⟨_, rfl⟩
  rw [← hP]
  have HP := Lib.hid hP
  clear hP
  rintro e w2 ⟨A2, C2, rfl, hC2, hA2, hr2, hB2⟩
  have hkn := plsN_le P n
  have HIN : Hid (∀ j, j < plsN P n → plsAt P n j < n ∧ P (plsAt P n j) = true) := Lib.hid fun j hj => plsAt_in hj
  have HALL : Hid (∀ x, x < n → P x = true → ∃ j, j < plsN P n ∧ plsAt P n j = x) := Lib.hid fun x hx h => pls_all hx h
  have HZ : Hid (plsN P n = 0 → ∀ x, x < n → P x = false) := Lib.hid plsN_zero
  obtain ⟨k, hk⟩ : ∃ k, k = plsN P n := ⟨_, rfl⟩
  obtain ⟨mis, hmis⟩ : ∃ mis, mis = plsAt P n := ⟨_, rfl⟩
  rw [← hk] at hkn hr2 hC2 ⊢
  rw [← hk, ← hmis] at HIN HALL
  rw [← hmis] at hr2
  rw [← hk] at HZ
  clear hk hmis
  have HFL : Hid (∀ x, x < n → P x = false → Lx x = m) := Lib.hid fun x hx hPx => by
    rcases HL2.out x hx with h | h
    · exact h
    · rw [HP.out] at hPx; simp [h] at hPx
  have HFZ : Hid (∀ x, P x = true → Lx x = 0) := Lib.hid fun x hPx => by
    rw [HP.out] at hPx; simpa using hPx
  have HT2 := Lib.hid (HT1.out.old hB2)
  have HX2 := Lib.hid (HB1.out.trans (hB2.mono HB1.out.size))
  have H2 := Lib.hid ((H.out.old HB1.out).old hB2)
  have H2' := Lib.hid ((H'.out.old HB1.out).old hB2)
  have HI2 := Lib.hid hr2
  have HA2 : Hid (∀ a, A2 = some a → a.block ≠ b) := Lib.hid fun a ha => by
    have h1 := hA2 a ha
    have h2 := HT1.out.top.lt
    omega
  clear hr2 hB2 HT1 hA2 H H' hC2
  by_cases hk0 : k = 0
  · have HF : Hid (TopR w2 b n Ax (fun _ => m) Cx D) := Lib.hid (HT2.out.congr (fun x hx => HFL.out x hx (HZ.out hk0 x hx)) (fun _ _ _ _ => rfl))
    clear HT2
    subst hk0
    go_wp2
    go_ret2
    exact ⟨_, _, rfl, HF.out.rdM, HX2.out⟩
  · have hp0 : 0 < p := by
      rcases Nat.eq_zero_or_pos p with h0 | h0
      · exfalso
        obtain ⟨h1, h2⟩ := HIN.out 0 (by omega)
        have h3 := up_none HUP.out (fun t ht => by have := HLT.out t ht; omega) h1
        have h4 := HL1.out (mis 0) h1 (by rw [h3]; exact h1)
        rw [h3, HFZ.out _ h2] at h4
        omega
      · exact h0
    have q1 : ((k : Int) == 0) = false := beq_eq_false_iff_ne.2 (by omega)
    go_wp2_with fail
    refine (wayBack_any A' n C' at_ p _ hn0 hp0 hnp H2'.out HLT.out).mono ?_
    intro e w3 hres
    unfold InvRes at hres
    rw [HG.out] at hres
    obtain ⟨A3, C3, rfl, hr3, hB3⟩ := hres
    have HR3 := Lib.hid hr3
    have HX3 := Lib.hid (HX2.out.trans (hB3.mono HX2.out.size))
    have HT3 := Lib.hid (HT2.out.old hB3)
    have H3 := Lib.hid (H2.out.old hB3)
    have HI3 := Lib.hid (HI2.out.old hB3)
    clear hr3 hB3 HT2 H2 H2' HI2 HX2
    go_wp2_with fail
    refine (picked_any A3 n C3 (fun _ => n) V _ A2 k C2 mis _ (by omega) HR3.out HI3.out (fun j hj => (HIN.out j hj).1)).mono ?_
    rintro e w4 ⟨b4, rfl, hb4, ⟨A4, C4, hT4⟩, hB4⟩
    have HR4 := Lib.hid hT4.rdM
    have HX4 := Lib.hid (HX3.out.trans (hB4.mono HX3.out.size))
    have HT4 := Lib.hid (HT3.out.old hB4)
    have H4 := Lib.hid (H3.out.old hB4)
    have HI4 := Lib.hid (HI3.out.old hB4)
    clear hT4 hB4 HT3 H3 HI3 HX3 HR3 hb4
    go_wp2_with fail
    refine (applied_own _ k k (fun j => V (mis j)) _ A n C m Y _ _ (by omega) (by omega) hn0 (by omega) hm HR4.out H4.out).mono ?_
    rintro e w5 ⟨b5, G5, C5, rfl, hb5, hO5, hB5⟩
    have HO5 := Lib.hid (hO5.congr (M' := fun j c => D (mis j) c) fun j _ c _ => HD2.out (mis j) c)
    have hbw : b < w4.heap.size := HT4.out.top.lt
    have HT5 := Lib.hid (HT4.out.old hB5)
    have HX5 := Lib.hid (HX4.out.trans (hB5.mono HX4.out.size))
    have HI5 := Lib.hid (HI4.out.old hB5)
    have hne5 : b ≠ b5 := by omega
    clear hO5 hB5 HT4 HX4 H4 HI4 HR4
    go_wp2
    go_loopw [46] (fun vi wr => ∃ i : Nat, i ≤ k ∧ vi = .int .i64 (i : Int) ∧ Hid (∃ A L C, TopR wr b n A L C D ∧ (∀ j, j < i → L (mis j) = m) ∧ ∀ x, x < n → P x = false → L x = m) ∧ Hid (Kp (· = b) w5 wr) ∧ Hid (Below w.heap.size w wr)) (fun vi _ => k - (intOf vi).toNat)
    case atStart => exact ⟨0, by omega, rfl, Lib.hid ⟨Ax, Lx, Cx, HT5.out, fun j hj => absurd hj (by omega), HFL.out⟩, Lib.hid (Kp.refl _ _), HX5⟩
    case round =>
      obtain ⟨i, hi, rfl, HO, HK, HB⟩ := hrel
      obtain ⟨Ay, Ly, Cy, hT, hL1, hL2⟩ := HO.out
      have HT6 := Lib.hid hT
      have HL3 := Lib.hid hL1
      have HL4 := Lib.hid hL2
      clear hT hL1 hL2 HO HT5
      by_cases hlt : i < k
      · obtain ⟨b1, off1, rfl, d1⟩ := (HI5.out.kp HK.out (HA2.out)).at hlt
        have hq := (HIN.out i hlt).1
        have hOw := HO5.out.kp HK.out (fun e => hne5 e.symm) (fun j hj e => by have := HO5.out.lo j hj; omega)
        have d2 := hOw.top.cell hlt
        rw [if_pos hlt] at d2
        have hrow := hOw.rows i hlt
        have hct := HT6.out.top.cell hq
        have hft := HT6.out.top.frozen (mis i)
        have HP6 := Lib.hid (HT6.out.lay (mis i) (a := some ⟨G5 i, 0, none⟩) (l := m) (c := C5 i) (hrow.rd (· ≠ b) (by have := HO5.out.lo i hlt; omega)))
        have HK6 := Lib.hid (HK.out.setCell (p := ⟨b, mis i, none⟩) rfl (.slice (some ⟨G5 i, 0, none⟩) m (C5 i)))
        have HB6 := Lib.hid (HB.out.setCell (p := ⟨b, mis i, none⟩) hb (.slice (some ⟨G5 i, 0, none⟩) m (C5 i)))
        obtain ⟨q, hqe⟩ : ∃ q, q = mis i := ⟨_, rfl⟩
        rw [← hqe] at d1 hq hct hft HP6 HK6 HB6
        have HQ := Lib.hid hqe
        clear hOw hrow hqe
        go_wp2
        go_roundw
        case rel =>
          refine ⟨i + 1, by omega, by go_num, Lib.hid ⟨_, _, _, HP6.out, fun j hj => ?_, fun x hx hPx => ?_⟩, HK6, HB6⟩
          · by_cases e : j = i
            · simp only [e, ← HQ.out, if_true]
            · by_cases e2 : mis j = q
              · simp only [e2, if_true]
              · simp only [e2, if_false]; exact HL3.out j (by omega)
          · by_cases e2 : x = q
            · simp only [e2, if_true]
            · simp only [e2, if_false]; exact HL4.out x hx hPx
        case measure => simp [intOf]; omega
      · have HF : Hid (TopR wr b n Ay (fun _ => m) Cy D) := Lib.hid (HT6.out.congr (fun x hx => by
          cases hPx : P x with
          | false => exact HL4.out x hx hPx
          | true =>
            obtain ⟨j, hj, e⟩ := HALL.out x hx hPx
            rw [← e]; exact HL3.out j (by omega)) (fun _ _ _ _ => rfl))
        clear HT6
        go_wp2
        go_ret2
        exact ⟨_, _, rfl, HF.out.rdM, HB.out⟩
set_option maxRecDepth 100000 in
theorem there_eq (L : Nat → Nat) : (fun x => decide (0 < L x) == true) = there L := by
  funext x; unfold there; cases decide (0 < L x) <;> rfl
set_option maxRecDepth 100000 in
theorem DecAny.bad {n : Nat} {L : Nat → Nat} {H : Mat} {d : Int} (hn : ¬ DecOk n L d) (w : World) {w' : World} (h : Below w.heap.size w w') : DecAny n L H d w (.returned (.tuple #[.slice none 0 0, .int .i64 1])) w' := by
  unfold DecAny; rw [if_neg hn]; exact ResM.bad w h
set_option maxRecDepth 100000 in
set_option maxHeartbeats 4000000 in
theorem decode_in (A : Option Addr) (n C : Nat) (L : Nat → Nat) (H0 : Mat) (G : Nat → Prop) (d : Nat) (w : World) (hd0 : 0 < d) (hdn : d ≤ n) (hn : n ≤ 255) (hL : ∀ i, i < n → L i ≤ 1000000) (h : RdM w A n L H0 G) :
    Calls Tryz.prog 38 #[.slice A n C, .int .i64 (d : Int)] w (DecAny n L H0 (d : Int) w) := by
  have H := Lib.hid h
  have HL := Lib.hid hL
  clear h hL
  have q1 : decide ((d : Int) < 1) = false := decide_eq_false (by omega)
  have q2 : decide ((n : Int) < (d : Int)) = false := decide_eq_false (by omega)
  have q2' : decide (n < d) = false := decide_eq_false (by omega)
  have q3 : decide ((255 : Int) < (n : Int)) = false := decide_eq_false (by omega)
  go_enter Tryz.func38, Tryz.ntmps38
  go_wp2_with fail
  refine (places_any A n C L H0 G true _ hn H.out).mono ?_
  rw [there_eq]
  rintro e w1 ⟨A1, C1, rfl, hC1, _, hr1, hB1⟩
  have hkn := plsN_le (there L) n
  have HIN : Hid (∀ j, j < plsN (there L) n → plsAt (there L) n j < n ∧ there L (plsAt (there L) n j) = true) := Lib.hid fun j hj => plsAt_in hj
  have HUP : Hid (∀ s t, s < t → t < plsN (there L) n → plsAt (there L) n s < plsAt (there L) n t) := Lib.hid fun s t h h' => plsAt_up h h'
  have HW : Hid (∀ e w', DecAny n L H0 (d : Int) w e w' ↔ DecAny n L H0 (d : Int) w e w') := Lib.hid fun _ _ => Iff.rfl
  have HDA : Hid (∀ e w', (if 0 < plsN (there L) n ∧ alikeB (plsN (there L) n) (fun j => L (plsAt (there L) n j)) = true then if plsN (there L) n < d then ResM 10 0 0 one w e w' else ResM 0 d (L (plsAt (there L) n 0)) (dec d (n - d) (plsAt (there L) n) (fun t => H0 (plsAt (there L) n t))) w e w' else ResM 1 0 0 one w e w') → DecAny n L H0 (d : Int) w e w') := Lib.hid fun e w' hh => by
    unfold DecAny
    by_cases hc : 0 < plsN (there L) n ∧ alikeB (plsN (there L) n) (fun j => L (plsAt (there L) n j)) = true
    · rw [if_pos hc] at hh
      rw [if_pos ⟨by omega, by omega, hn, hc.1, alikeB_true.1 hc.2⟩]
      exact hh
    · rw [if_neg hc] at hh
      rw [if_neg (fun hx => hc ⟨hx.2.2.2.1, alikeB_true.2 hx.2.2.2.2⟩)]
      exact hh
  obtain ⟨k, hk⟩ : ∃ k, k = plsN (there L) n := ⟨_, rfl⟩
  obtain ⟨at_, hat⟩ : ∃ f, f = plsAt (there L) n := ⟨_, rfl⟩
  rw [← hk] at hkn hr1 hC1 ⊢
  rw [← hk, ← hat] at HIN HUP HDA
  rw [← hat] at hr1
  clear hk hat HW
  have HI1 := Lib.hid hr1
  have HB1 := Lib.hid hB1
  have H1 := Lib.hid (H.out.old hB1)
  clear hr1 hB1 H
  go_wp2_with fail
  refine (picked_any A n C L H0 G A1 k C1 at_ _ (by omega) H1.out HI1.out (fun j hj => (HIN.out j hj).1)).mono ?_
  rintro e w2 ⟨b2, rfl, hb2, ⟨A2, C2, hT2⟩, hB2⟩
  have HR2 := Lib.hid hT2.rdM
  have HB2 := Lib.hid (HB1.out.trans (hB2.mono HB1.out.size))
  have HI2 := Lib.hid (HI1.out.old hB2)
  clear hT2 hB2 hb2 HB1 H1 HI1
  by_cases hk0 : k = 0
  · have HE : Hid (¬ (0 < k ∧ alikeB k (fun j => L (at_ j)) = true)) := Lib.hid (by omega)
    subst hk0
    go_wp2
    go_ret2
    exact HDA.out _ _ (by rw [if_neg HE.out]; exact ResM.bad w HB2.out)
  · have q4 : ((k : Int) == 0) = false := beq_eq_false_iff_ne.2 (by omega)
    cases ha : alikeB k (fun j => L (at_ j)) with
    | false =>
      have HE : Hid (¬ (0 < k ∧ alikeB k (fun j => L (at_ j)) = true)) := Lib.hid (fun hh => by rw [hh.2] at ha; cases ha)
      have HA := Lib.hid ha
      clear ha
      go_wp2_with fail
      refine (alike_is _ k k (fun j => L (at_ j)) (fun j => H0 (at_ j)) _ _ false (by unfold maxLen; omega) HR2.out HA.out).mono ?_
      rintro e w' ⟨rfl, rfl⟩
      go_wp2
      go_ret2
      exact HDA.out _ _ (by rw [if_neg HE.out]; exact ResM.bad w HB2.out)
    | true =>
      have HE : Hid (0 < k ∧ alikeB k (fun j => L (at_ j)) = true) := Lib.hid ⟨by omega, ha⟩
      have HA := Lib.hid ha
      clear ha
      by_cases hkd : k < d
      · go_wp2_with fail
        refine (alike_is _ k k (fun j => L (at_ j)) (fun j => H0 (at_ j)) _ _ true (by unfold maxLen; omega) HR2.out HA.out).mono ?_
        rintro e w' ⟨rfl, rfl⟩
        go_wp2
        go_ret2
        refine HDA.out _ _ ?_
        rw [if_pos HE.out, if_pos hkd]; exact ⟨none, 0, rfl, RdM.empty _ _ _ _ _, HB2.out⟩
      · have q5 : decide (k < d) = false := decide_eq_false hkd
        have q6 : decide ((k : Int) < (d : Int)) = false := decide_eq_false (by omega)
        have hal := alikeB_true.1 HA.out
        obtain ⟨m, hm⟩ : ∃ m, m = L (at_ 0) := ⟨_, rfl⟩
        have hin0 := HIN.out 0 (by omega)
        have hm0 : 0 < m := by rw [hm]; exact of_decide_eq_true hin0.2
        have hm1 : m ≤ 1000000 := by rw [hm]; exact HL.out _ hin0.1
        have HR3 := Lib.hid ((HR2.out.first (k := d) (by omega)).congr (L' := fun _ => m) (M' := fun j => H0 (at_ j)) (fun j hj => by rw [hm]; exact hal j (by omega)) (fun _ _ _ _ => rfl))
        have HI3 := Lib.hid (HI2.out.first (k := d) (by omega))
        have HMM := Lib.hid hm
        clear hal hm hin0
        go_wp2_with fail
        refine (alike_is _ k k (fun j => L (at_ j)) (fun j => H0 (at_ j)) _ _ true (by unfold maxLen; omega) HR2.out HA.out).mono ?_
        rintro e w' ⟨rfl, rfl⟩
        have hsub : (n : Int) - (d : Int) = ((n - d : Nat) : Int) := by omega
        have hwr : IntKind.i64.wrap ((n - d : Nat) : Int) = ((n - d : Nat) : Int) := IntWalk.i64_in _ (by omega)
        have hdk : d ≤ k := by omega
        have hdc : d ≤ C1 := by omega
        obtain ⟨b1, off1, rfl, _⟩ := HI2.out.at (j := 0) (by omega)
        go_wp2
        go_region_held3 (fun _ => True)
          (exact trivial)
          (first
            | (go_at_call 55; go_fit (decoded_any (some ⟨b2, 0, none⟩) d k m (fun j => H0 (at_ j)) _ _ C1 at_ (n - d) w2.drew hd0 (by omega) hm0 hm1 (fun s t hs ht => HUP.out s t hs (by omega)) (fun t ht => by have := (HIN.out t (by omega)).1; omega) HR3.out HI3.out); rintro e w4 ⟨A4, C4, rfl, hr4, hB4⟩))
        have HR4 := Lib.hid hr4
        have HB4 : Hid (Below w.heap.size w w4) := Lib.hid (HB2.out.drew.trans (hB4.mono HB2.out.size))
        clear hr4 hB4
        go_wp2
        go_ret2
        refine HDA.out _ _ ?_
        rw [if_pos HE.out, if_neg hkd, ← HMM.out]
        exact ⟨A4, C4, rfl, HR4.out, HB4.out⟩
set_option maxRecDepth 100000 in
set_option maxHeartbeats 2000000 in
theorem decode_any (A : Option Addr) (n C : Nat) (L : Nat → Nat) (H0 : Mat) (G : Nat → Prop) (d : Int) (w : World) (hn : n ≤ maxLen) (hd : -9223372036854775808 ≤ d) (hd' : d ≤ 9223372036854775807) (hL : ∀ i, i < n → L i ≤ 1000000) (h : RdM w A n L H0 G) :
    Calls Tryz.prog 38 #[.slice A n C, .int .i64 d] w (DecAny n L H0 d w) := by
  unfold maxLen at hn
  by_cases h1 : d < 1
  · have HE : Hid (¬ DecOk n L d) := Lib.hid fun hh => by have := hh.1; omega
    clear h hL
    go_enter Tryz.func38, Tryz.ntmps38
    go_wp2
    go_ret2
    exact DecAny.bad HE.out w (Below.refl _ _)
  · by_cases h2 : (n : Int) < d
    · have HE : Hid (¬ DecOk n L d) := Lib.hid fun hh => by have := hh.2.1; omega
      clear h hL
      go_enter Tryz.func38, Tryz.ntmps38
      go_wp2
      go_ret2
      exact DecAny.bad HE.out w (Below.refl _ _)
    · by_cases h3 : 255 < n
      · have HE : Hid (¬ DecOk n L d) := Lib.hid fun hh => by have := hh.2.2.1; omega
        clear h hL
        go_enter Tryz.func38, Tryz.ntmps38
        go_wp2
        go_ret2
        exact DecAny.bad HE.out w (Below.refl _ _)
      · obtain ⟨k, rfl⟩ : ∃ k : Nat, d = (k : Int) := ⟨d.toNat, by omega⟩
        exact decode_in A n C L H0 G k w (by omega) (by omega) (by omega) hL h
end Go.Proofs.YtcokmmanajdioaaGreat
namespace Go.Proofs.YtcokmmanajdioaaGreat
open Go.RowKit Mx
open Pt (Tx)

/-- rows are set one by one in a made row; what they are lies elsewhere -/
structure HaveI (g n : Nat) (bs : Nat → Tx) (k : Nat) (wr : World) : Prop where
  row : ∃ V, RowV wr 34 g n V ∧ ∀ i, i < k → ∃ A C, V i = .slice A (bs i).length C ∧ RdL wr A (bs i) (fun b => b ≠ g)
  sl : ∃ cur, wr.heap[g]? = some (.cells cur 34 (0, 0)) ∧ ∀ (j : Nat) v, cur[j]? = some v → ∃ A n C, v = .slice A n C
namespace HaveI
variable {wr w2 : World} {g n k : Nat} {bs : Nat → Tx}
theorem start (w : World) (n : Nat) (bs : Nat → Tx) : HaveI w.heap.size n bs 0 (w.alloc (.cells (madeCells #[.slice none 0 0] n) 34)) :=
  ⟨⟨_, RowV.made w (.slice none 0 0) 34 n, fun i hi => absurd hi (by omega)⟩, ⟨_, Go.Deep.blk_alloc_new _ _, fun j v hv => by
    have hj : j < n := by
      have h := (Array.getElem?_eq_some_iff.1 hv).1
      rwa [size_madeCells] at h
    have hc := (RowV.made w (.slice none 0 0) 34 n).cell hj
    rw [heap_cell (Go.Deep.blk_alloc_new _ _), hv] at hc
    exact ⟨none, 0, 0, Option.some.inj hc⟩⟩⟩
theorem lt (h : HaveI g n bs k wr) : g < wr.heap.size := by obtain ⟨V, hV, _⟩ := h.row; exact hV.lt
theorem old (h : HaveI g n bs k wr) (hb : Below wr.heap.size wr w2) : HaveI g n bs k w2 := by
  obtain ⟨V, hV, hr⟩ := h.row
  obtain ⟨cur, hc, hs⟩ := h.sl
  refine ⟨⟨V, hV.old hb, fun i hi => ?_⟩, ⟨cur, (hb.block g (heap_lt hc)).trans hc, hs⟩⟩
  obtain ⟨A, C, h1, h2⟩ := hr i hi
  exact ⟨A, C, h1, h2.old hb⟩
theorem cell (h : HaveI g n bs k wr) {j : Nat} (hj : j < n) : ∃ v, wr.cell? ⟨g, j, none⟩ = some v ∧ wr.frozen? ⟨g, j, none⟩ = false := by
  obtain ⟨V, hV, _⟩ := h.row
  exact ⟨V j, hV.cell hj, hV.frozen j⟩
theorem set (h : HaveI g n bs k wr) {A : Option Addr} {C : Nat} (hr : RdL wr A (bs k) (fun b => b ≠ g)) : HaveI g n bs (k + 1) (wr.setCell ⟨g, k, none⟩ (.slice A (bs k).length C)) := by
  obtain ⟨V, hV, hrows⟩ := h.row
  have hkp : Kp (· = g) wr (wr.setCell ⟨g, k, none⟩ (.slice A (bs k).length C)) := Kp.store _ _ _ _
  obtain ⟨cur, hc, hs⟩ := h.sl
  refine ⟨⟨_, hV.set k _, fun i hi => ?_⟩, ⟨_, heap_set hc _, fun j v hv => ?_⟩⟩
  rotate_left
  · rw [Array.getElem?_setIfInBounds] at hv
    split at hv
    · split at hv
      · exact ⟨_, _, _, (Option.some.inj hv).symm⟩
      · cases hv
    · exact hs j v hv
  by_cases e : i = k
  · subst e
    exact ⟨A, C, by simp, hr.kp hkp fun b hb e => hb e⟩
  · obtain ⟨A', C', h1, h2⟩ := hrows i (by omega)
    exact ⟨A', C', by simp only [e, if_false]; exact h1, h2.kp hkp fun b hb e => hb e⟩
/-- bytes that read lie in no such row -/
theorem ne (h : HaveI g n bs k wr) {A : Option Addr} {s : Tx} {G : Nat → Prop} (hr : RdL wr A s G) : RdL wr A s (fun b => b ≠ g) := fun hn => by
  obtain ⟨b, off, e, _, hc⟩ := hr hn
  refine ⟨b, off, e, fun hb => ?_, hc⟩
  obtain ⟨cur, hcur, hs⟩ := h.sl
  have h0 := hc 0 hn
  rw [hb, heap_cell hcur] at h0
  obtain ⟨_, _, _, h1⟩ := hs _ _ h0
  cases h1
theorem rdM (h : HaveI g n bs n wr) : RdM wr (some ⟨g, 0, none⟩) n (fun i => (bs i).length) (fun i => rowL (bs i)) (fun _ => True) := fun _ => by
  obtain ⟨V, hV, hr⟩ := h.row
  refine ⟨g, 0, rfl, trivial, fun i hi => ?_⟩
  obtain ⟨A, C, h1, h2⟩ := hr i hi
  exact ⟨A, C, by rw [Nat.zero_add, hV.cell hi, h1], (h2.mono fun _ _ => trivial).rd⟩
end HaveI
/-- how many rows are there -/
def Me.there_ (ms : List St.T) (d p n : Nat) : Nat := plsN (there fun i => (Me.have_ ms d n i).length) (d + p)
/-- the row, or that too many are gone -/
def RowQ (ms : List St.T) (d p n : Nat) (r : Tx) (w : World) (e : Ending) (w' : World) : Prop :=
  Below w.heap.size w w' ∧ ((Me.there_ ms d p n < d ∧ e = .returned (.tuple #[.slice none 0 0, .int .i64 10])) ∨ (d ≤ Me.there_ ms d p n ∧ ∃ A C, e = .returned (.tuple #[.slice A 79 C, .int .i64 0]) ∧ RdL w' A r (fun _ => True)))
set_option maxRecDepth 100000 in
set_option maxHeartbeats 4000000 in
theorem row_any (Am : Option Addr) (ms : List St.T) (k Cm : Nat) (d p x n : Nat) (R : Int) (D : Mx.Mat) (G : Nat → Prop) (w : World) (hk : k = ms.length) (hkd : k = d + p) (hd : 1 ≤ d) (hx : x < d) (hk14 : k ≤ 14) (hn : n ≤ 1000000)
    (hl : ∀ t ∈ ms, t.blocks.length ≤ 1000000 ∧ ∀ s ∈ t.blocks, s.length ≤ 1000000) (hr : RdT w Am ms G) (hD : ∀ j, j < d + p → 0 < (Me.have_ ms d n j).length → ∀ c, c < 79 → rowL (Me.have_ ms d n j) c = encD d p D j c) :
    Calls Tryz.prog 18 #[.agg #[.slice Am k Cm, .int .i64 (d : Int), .int .i64 R, .int .i64 (x : Int)], .int .i64 (n : Int)] w (RowQ ms d p n (lst (D x) 79) w) := by
  obtain ⟨w1, hw1⟩ : ∃ w1, w1 = w.alloc (queryObj (.slice Am k Cm) (.int .i64 (d : Int)) (.int .i64 R) (.int .i64 (x : Int))) := ⟨_, rfl⟩
  obtain ⟨w2, hw2⟩ : ∃ w2, w2 = w1.alloc (.cells (madeCells #[.slice none 0 0] k) 34) := ⟨_, rfl⟩
  have hs1 : w1.heap.size = w.heap.size + 1 := by rw [hw1]; simp
  have b1 : Below w.heap.size w w1 := by rw [hw1]; exact (Below.refl _ _).alloc (Nat.le_refl _) _
  have k1 : w1.heap[w.heap.size]? = some (queryObj (.slice Am k Cm) (.int .i64 (d : Int)) (.int .i64 R) (.int .i64 (x : Int))) := by rw [hw1]; exact Go.Deep.blk_alloc_new _ _
  have b2 : Below w1.heap.size w1 w2 := by rw [hw2]; exact (Below.refl _ _).alloc (Nat.le_refl _) _
  obtain ⟨bs, hbs⟩ : ∃ bs : Nat → Tx, bs = Me.have_ ms d n := ⟨_, rfl⟩
  have hI0 : HaveI w1.heap.size k bs 0 w2 := by rw [hw2]; exact HaveI.start w1 k bs
  have hmk := run_make_row' (P := Tryz.prog) 29 34 (.slice none 0 0) 24 Tryz.underlying29 infoRowT rfl .i64 .i64 k (by omega) (by omega)
  have HR := Lib.hid (hr.in_.mono fun b hb => hb.2 : RdT w Am ms (· < w.heap.size))
  have HL := Lib.hid hl
  have HK := Lib.hid hk
  have HB1 := Lib.hid b1
  have HB2 := Lib.hid b2
  have HK1 := Lib.hid k1
  have HI0 := Lib.hid hI0
  have HBS := Lib.hid hbs
  have HSZ := Lib.hid hs1
  have HD := Lib.hid hD
  have HKD := Lib.hid hkd
  have HW1 := Lib.hid hw1
  have HW2 : Hid (w2 = (w.alloc (.cells #[.slice Am k Cm, .int .i64 (d : Int), .int .i64 R, .int .i64 (x : Int)] 52)).alloc (.cells (madeCells #[.slice none 0 0] k) 34)) := Lib.hid (by rw [hw2, hw1]; rfl)
  obtain ⟨x0, x1, x2, x3⟩ := query4 k1
  obtain ⟨y0, y1, y2, y3⟩ := query4 (below_obj b2 k1)
  rw [HW2.out] at y0 y1 y2 y3
  rw [hw1] at x0 x1 x2 x3
  unfold queryObj at x0 x1 x2 x3
  have hk0 : 0 < k := by omega
  have hdk : d ≤ k := by omega
  clear hr hl hk hw1 hw2 hs1 b1 b2 k1 hI0 hbs hD hkd
  go_enter Tryz.func18, Tryz.ntmps18
  go_wp2
  rw [← HW2.out]
  clear hmk x0 x1 x2 x3 y0 y1 y2 y3
  obtain ⟨g, hg⟩ : ∃ g, g = w1.heap.size := ⟨_, rfl⟩
  rw [show w.heap.size + 1 = g by rw [hg, HSZ.out]]
  rw [← hg] at HI0 HB2
  have HGS : Hid (g = w.heap.size + 1) := Lib.hid (by rw [hg, HSZ.out])
  have HG1 := Lib.hid hg
  clear hg
  go_loopw [18] (fun vi wr => ∃ i : Nat, i ≤ k ∧ vi = .int .i64 (i : Int) ∧ Hid (HaveI g k bs i wr) ∧ Hid (Below g w1 wr)) (fun vi _ => k - (intOf vi).toNat)
  case atStart => exact ⟨0, Nat.zero_le _, rfl, HI0, HB2⟩
  case round =>
    obtain ⟨i, hi, rfl, HI, HBI⟩ := hrel
    have hgw : w.heap.size ≤ g := by have := HGS.out; omega
    have HBW : Hid (Below w.heap.size w wr) := Lib.hid (HB1.out.trans (HBI.out.mono hgw))
    by_cases hlt : i < k
    · have e0 : decide (i < k) = true := decide_eq_true hlt
      have hlt' : i < ms.length := by rw [← HK.out]; exact hlt
      obtain ⟨b, off, A', C', rfl, -, c0, c1, c2, c3, hb⟩ := (HR.out.old HBW.out).at_ hlt'
      have hbi : bs i = if i < d then Me.dataRow ms[i] n else Me.parityRow ms[i] n := by
        rw [HBS.out]
        unfold Me.have_
        have e : ms.getD i ⟨0, 0, [], true⟩ = ms[i] := by rw [List.getD_eq_getElem?_getD, List.getElem?_eq_getElem hlt']; rfl
        rw [e]
      have HLI := Lib.hid (HL.out _ (List.getElem_mem hlt'))
      obtain ⟨⟨lab, cap, bk, lost⟩, ht⟩ : ∃ t, t = ms[i] := ⟨_, rfl⟩
      rw [← ht] at c0 c1 c2 c3 hb hbi HLI
      dsimp only at c0 c1 c2 c3 hb HLI
      obtain ⟨L, hL⟩ : ∃ L, L = bk.length := ⟨_, rfl⟩
      rw [← hL] at c2
      obtain ⟨w3, hw3⟩ : ∃ x, x = wr.alloc (tapeObj lab cap A' L C' lost) := ⟨_, rfl⟩
      have hb3 : Below wr.heap.size wr w3 := by rw [hw3]; exact (Below.refl _ _).alloc (Nat.le_refl _) _
      have hT3 : w3.heap[wr.heap.size]? = some (tapeObj lab cap A' L C' lost) := by rw [hw3]; exact Go.Deep.blk_alloc_new _ _
      have hq3 := below_obj hb3 ((HBI.out.block _ (by have := HGS.out; omega)).trans HK1.out)
      obtain ⟨q0, q1, q2, q3⟩ := query4 hq3
      obtain ⟨t0, t1, t2, t3⟩ := tape4 hT3
      have hgl := HI.out.lt
      have HI3 := Lib.hid (HI.out.old hb3)
      have HB3 := Lib.hid (HBI.out.trans (hb3.mono (Nat.le_of_lt hgl)))
      have HRB := Lib.hid (hb.old hb3)
      have HLB := Lib.hid hL
      have HW3 := Lib.hid hw3
      have HS3 := Lib.hid hb3.size
      unfold tapeObj at HW3
      rw [HW3.out] at q0 q1 q2 q3 t0 t1 t2 t3
      have j1 : (0 : Int) ≤ (i : Int) := by omega
      have j2 : (i : Int) < (k : Int) := by omega
      clear hb ht hL hw3 hb3 hT3 hq3
      by_cases hid : i < d
      · have e1 : decide ((i : Int) < (d : Int)) = true := decide_eq_true (by omega)
        have e1' : decide (i < d) = true := decide_eq_true hid
        rw [if_pos hid] at hbi
        have hcall := dataRow_any lab cap A' bk L C' _ n w3 lost HLB.out HLI.out.2 HRB.out
        rw [← hbi] at hcall
        obtain ⟨s, hs⟩ : ∃ s, s = bs i := ⟨_, rfl⟩
        rw [← hs] at hcall
        have HC := Lib.hid hcall
        have HSB := Lib.hid hs
        clear hcall hbi hid hs
        go_wp2_with fail
        rw [← HW3.out]
        refine HC.out.mono ?_
        rintro e w4 ⟨A4, C4, rfl, -, -, hr4, hb4⟩
        have hI4 := HI3.out.old hb4
        have hr4' : RdL w4 A4 (bs i) (fun b => b ≠ g) := by
          rw [← HSB.out]
          refine hr4.mono fun b hb e => ?_
          have h1 := HGS.out
          have h2 := HS3.out
          rcases hb with hb | hb <;> omega
        have hset := hI4.set (C := C4) hr4'
        rw [← HSB.out] at hset
        have HSET := Lib.hid hset
        have HSET2 : Hid (Below g w1 (w4.setCell ⟨g, i, none⟩ (.slice A4 s.length C4))) := Lib.hid ((HB3.out.trans (hb4.mono (by have := HS3.out; omega))).trans ((Kp.store w4 g i (.slice A4 s.length C4)).below (Nat.le_of_lt hI4.lt) fun k hk => by omega))
        obtain ⟨u, p1, p2⟩ := hI4.cell hlt
        clear hI4 hr4 hr4' hset hb4 q0 q1 q2 q3 t0 t1 t2 t3 hgl
        go_wp2
        go_roundw
        case rel => exact ⟨i + 1, by omega, by go_num, HSET, HSET2⟩
        case measure => simp [intOf]; omega
      · have e1 : decide ((i : Int) < (d : Int)) = false := decide_eq_false (by omega)
        have e1' : decide (i < d) = false := decide_eq_false hid
        rw [if_neg hid] at hbi
        have hcall := parityRow_any lab cap A' bk L C' _ n w3 lost HLB.out HLI.out.2 HRB.out hn
        rw [← hbi] at hcall
        obtain ⟨s, hs⟩ : ∃ s, s = bs i := ⟨_, rfl⟩
        rw [← hs] at hcall
        have HC := Lib.hid hcall
        have HSB := Lib.hid hs
        clear hcall hbi hid hs
        go_wp2_with fail
        rw [← HW3.out]
        refine HC.out.mono ?_
        rintro e w4 ⟨A4, C4, rfl, -, -, hr4, hb4⟩
        have hI4 := HI3.out.old hb4
        have hr4' : RdL w4 A4 (bs i) (fun b => b ≠ g) := by
          rw [← HSB.out]
          refine hr4.mono fun b hb e => ?_
          have h1 := HGS.out
          have h2 := HS3.out
          rcases hb with hb | hb <;> omega
        have hset := hI4.set (C := C4) hr4'
        rw [← HSB.out] at hset
        have HSET := Lib.hid hset
        have HSET2 : Hid (Below g w1 (w4.setCell ⟨g, i, none⟩ (.slice A4 s.length C4))) := Lib.hid ((HB3.out.trans (hb4.mono (by have := HS3.out; omega))).trans ((Kp.store w4 g i (.slice A4 s.length C4)).below (Nat.le_of_lt hI4.lt) fun k hk => by omega))
        obtain ⟨u, p1, p2⟩ := hI4.cell hlt
        clear hI4 hr4 hr4' hset hb4 q0 q1 q2 q3 t0 t1 t2 t3 hgl
        go_wp2
        go_roundw
        case rel => exact ⟨i + 1, by omega, by go_num, HSET, HSET2⟩
        case measure => simp [intOf]; omega
    · have e0 : decide (i < k) = false := decide_eq_false hlt
      have hik : i = k := by omega
      have hI := HI.out
      rw [hik] at hI
      have hdec := decode_any (some ⟨g, 0, none⟩) k k (fun i => (bs i).length) (fun i => rowL (bs i)) _ (d : Int) wr (by unfold maxLen; omega) (by omega) (by omega) (fun i hi => by
        have h1 : (bs i).length = 0 ∨ (bs i).length = 79 := by rw [HBS.out]; exact Me.have_len _ _ _ _
        show (bs i).length ≤ 1000000
        omega) hI.rdM
      have hq := (HBI.out.block _ (by have := HGS.out; omega)).trans HK1.out
      obtain ⟨q0, q1, q2, q3⟩ := query4 hq
      have HDC : Hid (∀ e w', DecAny k (fun i => (bs i).length) (fun i => rowL (bs i)) (d : Int) wr e w' → (Me.there_ ms d p n < d ∧ ∃ code q m M, code ≠ 0 ∧ ResM code q m M wr e w') ∨ (d ≤ Me.there_ ms d p n ∧ ResM 0 d 79 D wr e w')) := Lib.hid fun e w' h => by
        rw [HKD.out, HBS.out] at h
        have h2 := DecAny.tells (by omega) (by have := HKD.out; omega) (fun x hx => Me.have_len ms d n x) HD.out h
        by_cases h0 : plsN (there fun i => (Me.have_ ms d n i).length) (d + p) = 0
        · rw [if_pos h0] at h2
          exact .inl ⟨by unfold Me.there_; omega, _, _, _, _, by decide, h2⟩
        · rw [if_neg h0] at h2
          by_cases h1 : plsN (there fun i => (Me.have_ ms d n i).length) (d + p) < d
          · rw [if_pos h1] at h2
            exact .inl ⟨h1, _, _, _, _, by decide, h2⟩
          · rw [if_neg h1] at h2
            exact .inr ⟨by unfold Me.there_; omega, h2⟩
      have HC := Lib.hid hdec
      have HQ := Lib.hid hq
      clear hI hdec hq
      go_wp2_with fail
      refine HC.out.mono ?_
      intro e w5 hh
      have h2 := HDC.out e w5 hh
      clear hh
      rcases h2 with ⟨hfew, code, q, m, M, hc0, A5, C5, rfl, -, hb5⟩ | ⟨hmany, A5, C5, rfl, hr5, hb5⟩
      · have HB5 := Lib.hid (HBW.out.trans (hb5.mono HBW.out.size))
        have e1 : (code != 0) = true := by rw [bne_iff_ne]; exact hc0
        have HFW := Lib.hid hfew
        clear hfew hc0 hb5 q0 q1 q2 q3
        go_wp2
        go_ret2
        exact ⟨HB5.out, .inl ⟨HFW.out, rfl⟩⟩
      · have HB5 := Lib.hid (HBW.out.trans (hb5.mono HBW.out.size))
        obtain ⟨b6, o6, A6, C6, rfl, -, c6, hr6⟩ := hr5.row hx
        obtain ⟨z0, z1, z2, z3⟩ := query4 (below_obj hb5 HQ.out)
        have HRR := Lib.hid (hr6.rdL.mono fun _ _ => trivial : RdL w5 A6 (lst (D x) 79) (fun _ => True))
        have HMY := Lib.hid hmany
        have j1 : (0 : Int) ≤ (x : Int) := by omega
        have j2 : (x : Int) < (d : Int) := by omega
        clear hmany hb5 q0 q1 q2 q3 hr5 hr6
        go_wp2
        go_ret2
        exact ⟨HB5.out, .inr ⟨HMY.out, A6, C6, rfl, HRR.out⟩⟩
end Go.Proofs.YtcokmmanajdioaaGreat
