/- What asTheyAre and wayBack of package erasure answer. -/
import Derived.Test.YtelkeoopfejgnaaErOps
import Derived.Test.YtelkeoopfejgnaaMxCau
import Derived.Test.YtelkeoopfejgnaaMxInv
namespace Go.Proofs.Ytelkeoopfejgnaa
open Go.RowKit Mx

/-- the data rows among those that are used, each in its place -/
def ResA (n m : Nat) (at_ : Nat → Nat) (D : Mat) (w : World) (e : Ending) (w' : World) : Prop :=
  ∃ b A L C, e = .returned (.slice (some ⟨b, 0, none⟩) n n) ∧ w.heap.size ≤ b ∧ TopR w' b n A L C D ∧ (∀ t, t < n → at_ t < n → L (at_ t) = m) ∧ (∀ x, x < n → L x = m ∨ L x = 0) ∧ Below w.heap.size w w'
set_option maxHeartbeats 2000000 in
theorem asTheyAre_any (A : Option Addr) (n C m : Nat) (Y : Mat) (G : Nat → Prop) (A' : Option Addr) (C' : Nat) (at_ : Nat → Nat) (D : Mat) (w : World) (hn0 : 0 < n) (hn : n ≤ 255) (hm0 : 0 < m) (hm : m ≤ 1000000) (hat : ∀ t, t < n → at_ t ≤ 255)
    (h : RdM w A n (fun _ => m) Y G) (h' : RdI w A' n (fun j => (at_ j : Int))) (hD : ∀ t, t < n → at_ t < n → ∀ c, c < m → Y t c = D (at_ t) c) :
    Calls Try.prog 27 #[.slice A n C, .slice A' n C'] w (ResA n m at_ D w) := by
  have H := Lib.hid h
  have H' := Lib.hid h'
  have HD := Lib.hid hD
  have HT := Lib.hid hat
  clear h h' hD hat
  have hmk := run_make_row' (P := Try.prog) 22 34 (.slice none 0 0) 24 Try.underlying22 infoRow rfl .i64 .i64 n (by omega) (by omega)
  go_enter Try.func27, Try.ntmps27
  go_wp2
  clear hmk
  go_loopw [13] (fun vi wr => ∃ i : Nat, i ≤ n ∧ vi = .int .i64 (i : Int) ∧ Hid (∃ A L C, TopR wr w.heap.size n A L C D ∧ (∀ t, t < i → at_ t < n → L (at_ t) = m) ∧ (∀ x, x < n → L x = m ∨ L x = 0)) ∧ Hid (Below w.heap.size w wr)) (fun vi _ => n - (intOf vi).toNat)
  case atStart => exact ⟨0, by omega, rfl, Lib.hid ⟨_, _, _, TopR.start w n D, fun t ht => absurd ht (by omega), fun x _ => .inr rfl⟩, Lib.hid ((Below.refl _ _).alloc (Nat.le_refl _) _)⟩
  case round =>
    obtain ⟨i, hi, rfl, HO, HB⟩ := hrel
    by_cases hlt : i < n
    · obtain ⟨b1, off1, rfl, d1⟩ := (H'.out.old HB.out).at hlt
      have h255 := HT.out i hlt
      by_cases hp : at_ i < n
      · obtain ⟨Ax, Lx, Cx, hO, hL1, hL2⟩ := HO.out
        have HO' := Lib.hid hO
        have HL1 := Lib.hid hL1
        have HL2 := Lib.hid hL2
        clear hO hL1 hL2 HO
        obtain ⟨b2, off2, A2, C2, rfl, _, d2, hr2⟩ := (H.out.old HB.out).row hlt
        have HR2 := Lib.hid hr2
        have HDI := Lib.hid (HD.out i hlt hp)
        obtain ⟨q, hq⟩ : ∃ q, q = at_ i := ⟨_, rfl⟩
        rw [← hq] at d1 hp HDI h255
        have HQ := Lib.hid hq
        clear hr2 hq
        go_wp2_with fail
        refine (clone_any A2 m C2 (Y i) _ _ hm0 hm HR2.out).mono ?_
        rintro e w1 ⟨g, c, rfl, hg, hc, hr, hb⟩
        have hO1 := HO'.out.old hb
        have hct := hO1.top.cell hp
        have hft := hO1.top.frozen q
        have hgb : w.heap.size < g := by have := HO'.out.top.lt; omega
        have HP := Lib.hid (hO1.lay q (a := some ⟨g, 0, none⟩) (l := m) (c := c) ((hr.rd (· ≠ w.heap.size) (by omega)).congr HDI.out))
        have HB2 := Lib.hid ((HB.out.trans (hb.mono HB.out.size)).setCell (p := ⟨w.heap.size, q, none⟩) (Nat.le_refl _) (.slice (some ⟨g, 0, none⟩) m c))
        clear hr hb hg hc HR2 hO1
        go_wp2
        go_roundw
        case rel =>
          refine ⟨i + 1, by omega, by go_num, Lib.hid ⟨_, _, _, HP.out, fun t ht htn => ?_, fun x hx => ?_⟩, HB2⟩
          · by_cases e : t = i
            · simp only [e, ← HQ.out, if_true]
            · by_cases e2 : at_ t = q
              · simp only [e2, if_true]
              · simp only [e2, if_false]; exact HL1.out t (by omega) htn
          · by_cases e2 : x = q
            · simp only [e2, if_true]; exact .inl trivial
            · simp only [e2, if_false]; exact HL2.out x hx
        case measure => simp [intOf]; omega
      · have HP := Lib.hid hp
        have HO2 : Hid (∃ A L C, TopR wr w.heap.size n A L C D ∧ (∀ t, t < i + 1 → at_ t < n → L (at_ t) = m) ∧ (∀ x, x < n → L x = m ∨ L x = 0)) := by
          obtain ⟨Ax, Lx, Cx, hO, hL1, hL2⟩ := HO.out
          exact Lib.hid ⟨Ax, Lx, Cx, hO, fun t ht htn => hL1 t (by
            by_cases e : t = i
            · rw [e] at htn; exact absurd htn HP.out
            · omega) htn, hL2⟩
        clear HO HP
        have hdn : decide (at_ i < n) = false := decide_eq_false hp
        have hdi : decide ((at_ i : Int) < (n : Int)) = false := decide_eq_false (by omega)
        go_wp2
        go_roundw
        case rel => exact ⟨i + 1, by omega, by go_num, HO2, HB⟩
        case measure => simp [intOf]; omega
    · obtain ⟨Ax, Lx, Cx, hO, hL1, hL2⟩ := HO.out
      have hin : i = n := by omega
      rw [hin] at hL1
      have HF : Hid (∃ A L C, TopR wr w.heap.size n A L C D ∧ (∀ t, t < n → at_ t < n → L (at_ t) = m) ∧ (∀ x, x < n → L x = m ∨ L x = 0)) := Lib.hid ⟨Ax, Lx, Cx, hO, hL1, hL2⟩
      clear hO hL1 hL2 HO hin
      go_wp2
      go_ret
      obtain ⟨Ax, Lx, Cx, hO, hL1, hL2⟩ := HF.out
      exact ⟨_, Ax, Lx, Cx, rfl, Nat.le_refl _, hO, hL1, hL2, HB.out⟩
set_option maxHeartbeats 2000000 in
theorem wayBack_any (A : Option Addr) (n C : Nat) (at_ : Nat → Nat) (p : Nat) (w : World) (hn0 : 0 < n) (hp0 : 0 < p) (hnp : n + p ≤ 255) (h : RdI w A n (fun j => (at_ j : Int))) (hlt0 : ∀ t, t < n → at_ t < n + p) :
    Calls Try.prog 28 #[.slice A n C, .int .i64 (p : Int)] w (InvRes n (encM n p at_) w) := by
  have H := Lib.hid h
  have HL := Lib.hid hlt0
  clear h hlt0
  have hmk := run_make_row' (P := Try.prog) 22 34 (.slice none 0 0) 24 Try.underlying22 infoRow rfl .i64 .i64 n (by omega) (by omega)
  have HMK := Lib.hid (run_make_row' (P := Try.prog) 34 5 (.int .u8 0) 1 Try.underlying34 infoByte rfl .i64 .i64 n (by omega) (by omega))
  go_enter Try.func28, Try.ntmps28
  go_wp2_with fail
  refine (cauchy_main n p _ hn0 hp0 hnp).mono ?_
  rintro e w1 ⟨A1, C1, rfl, hr1, hB1⟩
  obtain ⟨b0, off0, A00, C00, rfl, _, _, _⟩ := hr1.row hp0
  have HR1 := Lib.hid hr1
  have HB1 := Lib.hid hB1
  have H1 := Lib.hid (H.out.old hB1)
  clear hr1 hB1 H
  go_wp2
  clear hmk
  go_loopw [27] (fun vi wr => ∃ i : Nat, i ≤ n ∧ vi = .int .i64 (i : Int) ∧ Hid (∃ A C, TopR wr w1.heap.size n A (fun t => if t < i then n else 0) C (encM n p at_)) ∧ Hid (Below w1.heap.size w1 wr)) (fun vi _ => n - (intOf vi).toNat)
  case atStart => exact ⟨0, by omega, rfl, Lib.hid ⟨_, _, (TopR.start w1 n (encM n p at_)).congr (fun i _ => by rw [if_neg (by omega)]) (fun _ _ _ _ => rfl)⟩, Lib.hid ((Below.refl _ _).alloc (Nat.le_refl _) _)⟩
  case round =>
    obtain ⟨i, hi, rfl, HO, HB⟩ := hrel
    obtain ⟨Ax, Cx, hO⟩ := HO.out
    have HO' := Lib.hid hO
    clear hO HO
    by_cases hlt : i < n
    · obtain ⟨b1, off1, rfl, d1⟩ := (H1.out.old HB.out).at hlt
      have hq2 := HL.out i hlt
      have HEI : Hid (encM n p at_ i = enc n (cau p) (at_ i)) := Lib.hid rfl
      obtain ⟨q, hq⟩ : ∃ q, q = at_ i := ⟨_, rfl⟩
      rw [← hq] at d1 hq2 HEI
      clear hq
      have hstep : Hid (∀ j, (if j = i then n else if j < i then n else 0) = if j < i + 1 then n else 0) := Lib.hid fun j => by
        by_cases e : j = i
        · rw [if_pos e, if_pos (by omega)]
        · by_cases e' : j < i
          · rw [if_neg e, if_pos e', if_pos (by omega)]
          · rw [if_neg e, if_neg e', if_neg (by omega)]
      by_cases hp : q < n
      · have hb1 : Below wr.heap.size wr (wr.alloc (.cells (madeCells #[.int .u8 0] n) 5)) := (Below.refl _ _).alloc (Nat.le_refl _) _
        have hO1 := HO'.out.old hb1
        have hct := hO1.top.cell hlt
        have hft := hO1.top.frozen i
        have hwr : w1.heap.size < wr.heap.size := HO'.out.top.lt
        -- the row of the unit, first of zeros
        have hz : RowAt (wr.alloc (.cells (madeCells #[.int .u8 0] n) 5)) wr.heap.size n (fun _ => 0) := RowAt.made wr n
        have hS := hO1.set i (a := some ⟨wr.heap.size, 0, none⟩) (l := n) (c := n) (hz.rd (· ≠ w1.heap.size) (by omega))
        have hz2 := hz.kp (Kp.store (wr.alloc (.cells (madeCells #[.int .u8 0] n) 5)) w1.heap.size i (.slice (some ⟨wr.heap.size, 0, none⟩) n n)) (by omega)
        have hct2 := hS.top.cell hlt
        simp only [if_true] at hct2
        have hc3 := hz2.cell hp
        have hf3 := hz2.frozen q
        have hkp := Kp.store ((wr.alloc (.cells (madeCells #[.int .u8 0] n) 5)).setCell ⟨w1.heap.size, i, none⟩ (.slice (some ⟨wr.heap.size, 0, none⟩) n n)) wr.heap.size q (.int .u8 (fi 1))
        have HFIN : Hid (∃ A C, TopR (((wr.alloc (.cells (madeCells #[.int .u8 0] n) 5)).setCell ⟨w1.heap.size, i, none⟩ (.slice (some ⟨wr.heap.size, 0, none⟩) n n)).setCell ⟨wr.heap.size, q, none⟩ (.int .u8 (fi 1))) w1.heap.size n A (fun t => if t < i + 1 then n else 0) C (encM n p at_)) := by
          refine Lib.hid ⟨fun j => if j = i then some ⟨wr.heap.size, 0, none⟩ else Ax j, fun j => if j = i then n else Cx j, ?_, fun j hj => ?_⟩
          · refine (hS.top.kp hkp (by omega)).congr fun j hj => ?_
            simp only [hstep.out j]
          · simp only [← hstep.out j]
            by_cases e : j = i
            · simp only [e, if_true]
              refine ((hz2.set q 1).rd (· ≠ w1.heap.size) (by omega)).congr fun c hc => ?_
              rw [HEI.out]
              show _ = (if q < n then one q c else cau p (q - n) c)
              rw [if_pos hp]
              unfold one
              by_cases e2 : c = q
              · rw [if_pos e2, if_pos e2.symm]
              · rw [if_neg e2, if_neg (fun h => e2 h.symm)]
            · simp only [e, if_false]
              have h1 := HO'.out.rows j hj
              have h2 : Rd wr (Ax j) (if j < i then n else 0) (encM n p at_ j) (fun b => b ≠ w1.heap.size ∧ b ≠ wr.heap.size) := by
                intro h0
                obtain ⟨b, off, e1, e2, e3⟩ := h1 h0
                exact ⟨b, off, e1, ⟨e2, by have := World.block_lt_of_cell? _ _ (e3 0 h0); simp at this; omega⟩, e3⟩
              refine Rd.mono (G := fun b => b ≠ w1.heap.size ∧ b ≠ wr.heap.size) ?_ (fun b hb => hb.1)
              exact ((h2.old hb1).kp (Kp.store _ w1.heap.size i _) (fun b hb => hb.1)).kp hkp (fun b hb => hb.2)
        have HB2 := Lib.hid (((HB.out.trans (hb1.mono HB.out.size)).setCell (p := ⟨w1.heap.size, i, none⟩) (Nat.le_refl _) (.slice (some ⟨wr.heap.size, 0, none⟩) n n)).setCell (p := ⟨wr.heap.size, q, none⟩) HB.out.size (.int .u8 (fi 1)))
        have hmk := HMK.out
        clear hb1 hO1 hz hS hz2 hkp hwr
        go_wp2
        go_roundw
        case rel => exact ⟨i + 1, by omega, by go_num, HFIN, HB2⟩
        case measure => simp [intOf]; omega
      · obtain ⟨b2, off2, A2, C2, e2, _, d2, hr2⟩ := HR1.out.row (i := q - n) (by omega)
        obtain ⟨rfl, rfl⟩ : b0 = b2 ∧ off0 = off2 := by simpa using e2
        have d3 := (HB.out.cell (World.block_lt_of_cell? _ _ d2)).trans d2
        have hct := HO'.out.top.cell hlt
        have hft := HO'.out.top.frozen i
        have hrow : Rd wr A2 n (encM n p at_ i) (· ≠ w1.heap.size) := by
          rw [HEI.out]
          refine ((hr2.ne (Nat.le_refl _)).old HB.out).congr fun c hc => ?_
          show _ = (if q < n then one q c else cau p (q - n) c)
          rw [if_neg hp]
        have HP := Lib.hid ((HO'.out.lay i (c := C2) hrow).congr (fun j _ => hstep.out j) (fun _ _ _ _ => rfl))
        have HB2 := Lib.hid (HB.out.setCell (p := ⟨w1.heap.size, i, none⟩) (Nat.le_refl _) (.slice A2 n C2))
        have hsub : (q : Int) - (n : Int) = ((q - n : Nat) : Int) := by omega
        have hdn : decide (q < n) = false := decide_eq_false hp
        have hdi : decide ((q : Int) < (n : Int)) = false := decide_eq_false (by omega)
        clear hrow hr2 d2 e2
        go_wp2
        go_roundw
        case rel => exact ⟨i + 1, by omega, by go_num, Lib.hid ⟨_, _, HP.out⟩, HB2⟩
        case measure => simp [intOf]; omega
    · have HF := Lib.hid ((HO'.out.congr (L' := fun _ => n) (M' := encM n p at_) (fun j hj => by rw [if_pos (by omega)]) (fun _ _ _ _ => rfl)).rdM)
      clear HO'
      go_wp2_with fail
      refine (inverse_main _ n n (encM n p at_) _ _ hn0 (by omega) HF.out).mono ?_
      intro e w2 hres
      have hB := HB1.out.trans (HB.out.mono HB1.out.size)
      unfold InvRes at hres
      cases hg : gjs n (encM n p at_) n with
      | none =>
        rw [hg] at hres
        have HG := Lib.hid hg
        obtain ⟨A2, C2, rfl, hr2, hB2⟩ := hres
        have HR2 := Lib.hid hr2
        have HBX := Lib.hid (hB.trans (hB2.mono hB.size))
        clear hr2 hB2 hB hg
        go_wp2
        go_ret2
        exact InvRes.even HG.out ⟨A2, C2, rfl, HR2.out, HBX.out⟩
      | some s =>
        obtain ⟨Rs, Vs⟩ := s
        rw [hg] at hres
        have HG := Lib.hid hg
        obtain ⟨A2, C2, rfl, hr2, hB2⟩ := hres
        have HR2 := Lib.hid hr2
        have HBX := Lib.hid (hB.trans (hB2.mono hB.size))
        clear hr2 hB2 hB hg
        go_wp2
        go_ret2
        exact InvRes.ok HG.out ⟨A2, C2, rfl, HR2.out, HBX.out⟩
end Go.Proofs.Ytelkeoopfejgnaa
