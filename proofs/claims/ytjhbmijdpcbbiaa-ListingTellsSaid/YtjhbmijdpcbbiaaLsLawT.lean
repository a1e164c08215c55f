/- What ListingTells answers: true. -/
import Derived.Test.YtjhbmijdpcbbiaaLsLawM
import Derived.Test.YtjhbmijdpcbbiaaLsGet
import Derived.Test.YtjhbmijdpcbbiaaRefLsN
import Derived.Test.YtjhbmijdpcbbiaaRefLsM
import Derived.Test.YtjhbmijdpcbbiaaRefSameF
import Derived.Test.YtjhbmijdpcbbiaaRefSameT
namespace Go.Proofs.Ytjhbmijdpcbbiaa
open Go.RowKit
open Pt (Tx)

theorem low_of {v : Int} (h : (Lit.int .i64 v).wf = true) (h2 : v ≤ 1099511627776) : Low v := by
  simp [Lit.wf, IntKind.min, IntKind.max, IntKind.signed, IntKind.bits] at h
  exact ⟨by omega, h2⟩
/-- the file, or the empty one -/
def fo : Option Ct.F → Ct.F
  | some f => f
  | none => ⟨[], 0, 0, 0, 0, false, []⟩
theorem FileA.gen {o : Option Ct.F} {w w' : World} {e : Ending} (h : FileA o w e w') : ∃ A C, e = .returned (.tuple #[.agg #[.string (tx (fo o).path), .int .i64 (fo o).version, .int .i64 (fo o).size, .int .i64 (fo o).sum, .int .i64 (fo o).serial, .bool (fo o).gone, .slice A (fo o).parts.length C], .bool o.isSome]) ∧ encQ.Rd w' A (fo o).parts (fun _ => True) ∧ Below w.heap.size w w' := by
  obtain ⟨h, hb⟩ := h
  cases o with
  | none => exact ⟨none, 0, h, Enc.Rd.nil _ _ _, hb⟩
  | some f =>
    obtain ⟨A, C, h1, h2⟩ := h
    exact ⟨A, C, h1, h2, hb⟩
theorem live_mem {l : List Ct.F} {o : Option Ct.F} (h : ∀ f, o = some f → f ∈ l) : ∀ f, Ls.live o = some f → f ∈ l := by
  intro f hf
  cases o with
  | none => cases hf
  | some g =>
    have hf' : (if g.gone = true then none else some g) = some f := hf
    split at hf'
    · cases hf'
    · cases hf'; exact h _ rfl
theorem newest_mem {l : List Ct.F} {p : Tx} : ∀ f, Ls.newest l p = some f → f ∈ l := live_mem fun _ h => (Ls.best_some rfl h).1
theorem get_mem {l : List Ct.F} {p : Tx} {v : Int} : ∀ f, Ls.get l p v = some f → f ∈ l := by
  unfold Ls.get
  split
  · exact newest_mem
  · exact live_mem fun _ h => List.mem_of_find?_eq_some h
theorem fo_few {l : List Ct.F} {o : Option Ct.F} (h : ∀ f, o = some f → f ∈ l) (hl : ∀ f ∈ l, f.parts.length ≤ 20) : (fo o).parts.length ≤ 20 := by
  cases o with
  | none => exact Nat.zero_le _
  | some f => exact hl f (h f rfl)
/-- what the law lets through -/
def Tame18 (f : Ct.F) : Prop := f.parts.length ≤ 20 ∧ f.version ≤ 1099511627776 ∧ f.serial ≤ 1099511627776
set_option maxRecDepth 100000 in
set_option maxHeartbeats 16000000 in
theorem tells_main (xs : List Fx) (n C : Nat) (A : Option Addr) (G : Nat → Prop) (p : Tx) (V : Int) (w : World) (hn : n = xs.length) (hm : n ≤ 40) (hr : encF.Rd w A xs G) (hi : ∀ x ∈ xs, x.In w) :
    Calls Try.prog 3 #[.slice A n C, .string (tx p), .int .i64 V] w fun e w' => e = .returned (.bool true) ∧ Below w.heap.size w w' := by
  have HN := Lib.hid hn
  have HR := Lib.hid hr
  have HI := Lib.hid hi
  have HO : Hid (∀ y, Below w.heap.size w y → ∀ x ∈ xs, x.Fit y) := Lib.hid fun y hy x hx => (hi x hx).fit.old hy
  have HL : Hid ((filesOf xs).length = n) := Lib.hid (by rw [filesOf_len, hn])
  have hm2 : n ≤ 1000000 := by omega
  have g1 : decide (40 < n) = false := decide_eq_false (by omega)
  have g2 : decide (40 < (n : Int)) = false := decide_eq_false (by omega)
  have HAL := Lib.hid (alive18_true w)
  clear hn hr hi
  go_enter Try.func3, Try.ntmps3
  go_wp2_with fail
  refine HAL.out.mono ?_
  rintro e w1 ⟨rfl, hb1⟩
  have HB1 := Lib.hid hb1
  clear hb1 HAL
  go_wp2
  clear g1 g2
  go_loopw [8] (fun vi wr => ∃ i : Nat, i ≤ n ∧ vi = .int .i64 (i : Int) ∧ Hid (∀ k (hk : k < xs.length), k < i → Tame18 xs[k].f) ∧ Hid (Below w.heap.size w wr)) (fun vi _ => n - (intOf vi).toNat)
  case atStart => exact ⟨0, Nat.zero_le _, rfl, Lib.hid (fun k hk h => absurd h (by omega)), HB1⟩
  case round =>
    obtain ⟨i, hi, rfl, HT, HB⟩ := hrel
    by_cases hlt : i < n
    · have e0 : decide ((i : Int) < (n : Int)) = true := decide_eq_true (by omega)
      have e0' : decide (i < n) = true := decide_eq_true hlt
      have hix : i < xs.length := by rw [← HN.out]; exact hlt
      obtain ⟨⟨⟨P, v, z, s, r, b, pl⟩, A1, C1⟩, hx⟩ : ∃ x, x = xs[i] := ⟨_, rfl⟩
      obtain ⟨g, o, rfl, c⟩ := seven_at (HR.out.old HB.out) hix hx
      have HXF : Hid (xs[i].f = ⟨P, v, z, s, r, b, pl⟩) := Lib.hid (by rw [← hx])
      obtain ⟨m, hm'⟩ : ∃ m, m = pl.length := ⟨_, rfl⟩
      rw [← hm'] at c
      have HM := Lib.hid hm'
      obtain ⟨-, c1, -, -, c4, -, c6⟩ := c
      clear hx hm'
      by_cases h1 : 20 < m
      · have q1 : decide (20 < m) = true := decide_eq_true h1
        have q1' : decide (20 < (m : Int)) = true := decide_eq_true (by omega)
        clear h1
        go_wp2
        go_ret
        exact ⟨rfl, HB.out⟩
      · have q1 : decide (20 < m) = false := decide_eq_false h1
        have q1' : decide (20 < (m : Int)) = false := decide_eq_false (by omega)
        by_cases h2 : 1099511627776 < v
        · have q2 : decide (1099511627776 < v) = true := decide_eq_true h2
          clear h1 h2
          go_wp2
          go_ret
          exact ⟨rfl, HB.out⟩
        · have q2 : decide (1099511627776 < v) = false := decide_eq_false h2
          by_cases h3 : 1099511627776 < r
          · have q3 : decide (1099511627776 < r) = true := decide_eq_true h3
            clear h1 h2 h3
            go_wp2
            go_ret
            exact ⟨rfl, HB.out⟩
          · have q3 : decide (1099511627776 < r) = false := decide_eq_false h3
            have HT2 : Hid (∀ k (hk : k < xs.length), k < i + 1 → Tame18 xs[k].f) := Lib.hid fun k hk h => by
              by_cases e : k = i
              · subst e
                rw [HXF.out]
                exact ⟨by show pl.length ≤ 20; rw [← HM.out]; omega, by show v ≤ _; omega, by show r ≤ _; omega⟩
              · exact HT.out k hk (by omega)
            clear h1 h2 h3
            go_wp2
            go_roundw
            case rel => exact ⟨i + 1, by omega, by go_num, HT2, HB⟩
            case measure => simp [intOf]; omega
    · have e0 : decide ((i : Int) < (n : Int)) = false := decide_eq_false (by omega)
      have e0' : decide (i < n) = false := decide_eq_false hlt
      have HTM : Hid (∀ x ∈ xs, Tame18 x.f) := Lib.hid fun x hx => by
        obtain ⟨k, hk, rfl⟩ := List.mem_iff_getElem.1 hx
        exact HT.out k hk (by have := HN.out; omega)
      have HF20 : Hid (∀ f ∈ filesOf xs, f.parts.length ≤ 20) := Lib.hid fun f hf => by
        obtain ⟨x, hx, rfl⟩ := List.mem_map.1 hf
        exact (HTM.out x hx).1
      have HLV : Hid (∀ x ∈ xs, Low x.f.version) := Lib.hid fun x hx => low_of (HI.out x hx).ver (HTM.out x hx).2.1
      have HLS : Hid (∀ x ∈ xs, Low x.f.serial) := Lib.hid fun x hx => low_of (HI.out x hx).ser (HTM.out x hx).2.2
      have HNF : Hid ((fo (Ls.newest (filesOf xs) p)).parts.length ≤ 20) := Lib.hid (fo_few newest_mem HF20.out)
      have HGF : Hid ((fo (Ls.get (filesOf xs) p V)).parts.length ≤ 20) := Lib.hid (fo_few get_mem HF20.out)
      have HC1 := Lib.hid (newest_any xs n C A G p wr HN.out hm2 (HR.out.old HB.out) (HO.out wr HB.out))
      clear hlt hi HT
      go_wp2_with fail
      refine HC1.out.mono ?_
      intro e w2 ha
      obtain ⟨A1, C1, rfl, hrd1, hb2⟩ := ha.gen
      obtain ⟨B1, hB1⟩ : ∃ b, b = (Ls.newest (filesOf xs) p).isSome := ⟨_, rfl⟩
      obtain ⟨⟨P1, v1, z1, s1, r1, b1, pl1⟩, hf1⟩ : ∃ f, f = fo (Ls.newest (filesOf xs) p) := ⟨_, rfl⟩
      rw [← hB1, ← hf1]
      rw [← hf1] at hrd1
      have hn1 := HNF.out
      rw [← hf1] at hn1
      dsimp only at hrd1 hn1 ⊢
      obtain ⟨m1, hm1⟩ : ∃ m, m = pl1.length := ⟨_, rfl⟩
      rw [← hm1] at hn1 ⊢
      have HB1' := Lib.hid hB1
      have HF1 := Lib.hid hf1
      have HM1 := Lib.hid hm1
      obtain ⟨w3, hw3⟩ : ∃ x, x = w2.alloc (fileO P1 v1 z1 s1 r1 b1 A1 m1 C1) := ⟨_, rfl⟩
      have hb3 : Below wr.heap.size wr w3 := by rw [hw3]; exact hb2.alloc hb2.size _
      have hb23 : Below w2.heap.size w2 w3 := by rw [hw3]; exact (Below.refl _ _).alloc (Nat.le_refl _) _
      obtain ⟨T1, hT1⟩ : ∃ t, t = w2.heap.size := ⟨_, rfl⟩
      have HK3 : Hid (w3.heap[T1]? = some (fileO P1 v1 z1 s1 r1 b1 A1 m1 C1)) := Lib.hid (by rw [hT1, hw3]; exact Go.Deep.blk_alloc_new _ _)
      have HR1 := Lib.hid (hrd1.old hb23)
      have HW3 : Hid (w3 = w2.alloc (.cells #[.string (tx P1), .int .i64 v1, .int .i64 z1, .int .i64 s1, .int .i64 r1, .bool b1, .slice A1 m1 C1] 26)) := Lib.hid hw3
      have HT1 := Lib.hid hT1
      have HB3 := Lib.hid (HB.out.trans (hb3.mono HB.out.size))
      have HC2 := Lib.hid (refNewest_any xs n C A G p w3 HN.out hm2 (HR.out.old HB3.out) (HO.out w3 HB3.out))
      clear hrd1 hb2 hB1 hf1 hm1 hw3 hb3 hb23 hT1 ha HC1
      go_upto_region 10 with fail
      rw [← HW3.out, ← HT1.out]
      go_wp2_with fail
      refine HC2.out.mono ?_
      intro e w4 ha
      obtain ⟨A2, C2, rfl, hrd2, hb4⟩ := ha.gen
      rw [← HB1'.out, ← HF1.out]
      rw [← HF1.out] at hrd2
      dsimp only at hrd2 ⊢
      rw [← HM1.out]
      obtain ⟨w5, hw5⟩ : ∃ x, x = w4.alloc (fileO P1 v1 z1 s1 r1 b1 A2 m1 C2) := ⟨_, rfl⟩
      have hb5 : Below w3.heap.size w3 w5 := by rw [hw5]; exact hb4.alloc hb4.size _
      have hb45 : Below w4.heap.size w4 w5 := by rw [hw5]; exact (Below.refl _ _).alloc (Nat.le_refl _) _
      obtain ⟨T2, hT2⟩ : ∃ t, t = w4.heap.size := ⟨_, rfl⟩
      have HK5 := Lib.hid (below_obj' hb5 HK3.out)
      have HJ5 : Hid (w5.heap[T2]? = some (fileO P1 v1 z1 s1 r1 b1 A2 m1 C2)) := Lib.hid (by rw [hT2, hw5]; exact Go.Deep.blk_alloc_new _ _)
      have HR15 := Lib.hid (HR1.out.old hb5)
      have HR25 := Lib.hid (hrd2.old hb45)
      have HW5 : Hid (w5 = w4.alloc (.cells #[.string (tx P1), .int .i64 v1, .int .i64 z1, .int .i64 s1, .int .i64 r1, .bool b1, .slice A2 m1 C2] 26)) := Lib.hid hw5
      have HT2 := Lib.hid hT2
      have HB5 := Lib.hid (HB3.out.trans (hb5.mono HB3.out.size))
      have HC3 := Lib.hid (get_any xs n C A G p V w5 HN.out hm2 (HR.out.old HB5.out) (HO.out w5 HB5.out))
      clear hrd2 hb4 hw5 hb5 hb45 hT2 ha HC2
      go_upto_region 11 with fail
      rw [← HW5.out, ← HT2.out]
      go_wp2_with fail
      refine HC3.out.mono ?_
      intro e w6 ha
      obtain ⟨A3, C3, rfl, hrd3, hb6⟩ := ha.gen
      obtain ⟨B2, hB2⟩ : ∃ b, b = (Ls.get (filesOf xs) p V).isSome := ⟨_, rfl⟩
      obtain ⟨⟨P2, v2, z2, s2, r2, b2, pl2⟩, hf2⟩ : ∃ f, f = fo (Ls.get (filesOf xs) p V) := ⟨_, rfl⟩
      rw [← hB2, ← hf2]
      rw [← hf2] at hrd3
      have hn2 := HGF.out
      rw [← hf2] at hn2
      dsimp only at hrd3 hn2 ⊢
      obtain ⟨m2, hm2'⟩ : ∃ m, m = pl2.length := ⟨_, rfl⟩
      rw [← hm2'] at hn2 ⊢
      have HB2' := Lib.hid hB2
      have HF2 := Lib.hid hf2
      have HM2 := Lib.hid hm2'
      obtain ⟨w7, hw7⟩ : ∃ x, x = w6.alloc (fileO P2 v2 z2 s2 r2 b2 A3 m2 C3) := ⟨_, rfl⟩
      have hb7 : Below w5.heap.size w5 w7 := by rw [hw7]; exact hb6.alloc hb6.size _
      have hb67 : Below w6.heap.size w6 w7 := by rw [hw7]; exact (Below.refl _ _).alloc (Nat.le_refl _) _
      obtain ⟨T3, hT3⟩ : ∃ t, t = w6.heap.size := ⟨_, rfl⟩
      have HK7 := Lib.hid (below_obj' hb7 HK5.out)
      have HJ7 := Lib.hid (below_obj' hb7 HJ5.out)
      have HL7 : Hid (w7.heap[T3]? = some (fileO P2 v2 z2 s2 r2 b2 A3 m2 C3)) := Lib.hid (by rw [hT3, hw7]; exact Go.Deep.blk_alloc_new _ _)
      have HR17 := Lib.hid (HR15.out.old hb7)
      have HR27 := Lib.hid (HR25.out.old hb7)
      have HR37 := Lib.hid (hrd3.old hb67)
      have HW7 : Hid (w7 = w6.alloc (.cells #[.string (tx P2), .int .i64 v2, .int .i64 z2, .int .i64 s2, .int .i64 r2, .bool b2, .slice A3 m2 C3] 26)) := Lib.hid hw7
      have HT3 := Lib.hid hT3
      have HB7 := Lib.hid (HB5.out.trans (hb7.mono HB5.out.size))
      have HC4 := Lib.hid (refGetF_any xs n C A G p V w7 HN.out hm2 (HR.out.old HB7.out) (HO.out w7 HB7.out))
      clear hrd3 hb6 hB2 hf2 hm2' hw7 hb7 hb67 hT3 ha HC3
      go_upto_region 12 with fail
      rw [← HW7.out, ← HT3.out]
      go_wp2_with fail
      refine HC4.out.mono ?_
      intro e w8 ha
      obtain ⟨A4, C4, rfl, hrd4, hb8⟩ := ha.gen
      rw [← HB2'.out, ← HF2.out]
      rw [← HF2.out] at hrd4
      dsimp only at hrd4 ⊢
      rw [← HM2.out]
      obtain ⟨w9, hw9⟩ : ∃ x, x = w8.alloc (fileO P2 v2 z2 s2 r2 b2 A4 m2 C4) := ⟨_, rfl⟩
      have hb9 : Below w7.heap.size w7 w9 := by rw [hw9]; exact hb8.alloc hb8.size _
      have hb89 : Below w8.heap.size w8 w9 := by rw [hw9]; exact (Below.refl _ _).alloc (Nat.le_refl _) _
      obtain ⟨T4, hT4⟩ : ∃ t, t = w8.heap.size := ⟨_, rfl⟩
      have HK9 := Lib.hid (below_obj' hb9 HK7.out)
      have HJ9 := Lib.hid (below_obj' hb9 HJ7.out)
      have HL9 := Lib.hid (below_obj' hb9 HL7.out)
      have HQ9 : Hid (w9.heap[T4]? = some (fileO P2 v2 z2 s2 r2 b2 A4 m2 C4)) := Lib.hid (by rw [hT4, hw9]; exact Go.Deep.blk_alloc_new _ _)
      have HSF1 := Lib.hid (sameFile_yes P1 v1 z1 s1 r1 b1 pl1 m1 A1 C1 A2 C2 _ _ w9 HM1.out (by omega) (HR17.out.old hb9) (HR27.out.old hb9))
      have HR39 := Lib.hid (HR37.out.old hb9)
      have HR49 := Lib.hid (hrd4.old hb89)
      have HW9 : Hid (w9 = w8.alloc (.cells #[.string (tx P2), .int .i64 v2, .int .i64 z2, .int .i64 s2, .int .i64 r2, .bool b2, .slice A4 m2 C4] 26)) := Lib.hid hw9
      have HT4 := Lib.hid hT4
      have HB9 := Lib.hid (HB7.out.trans (hb9.mono HB7.out.size))
      clear hrd4 hb8 hw9 hb9 hb89 hT4 ha HC4
      go_upto_region 13 with fail
      rw [← HW9.out, ← HT4.out]
      obtain ⟨k0, k1, k2, k3, k4, k5, k6⟩ := file7 HK9.out
      obtain ⟨j0, j1, j2, j3, j4, j5, j6⟩ := file7 HJ9.out
      go_wp2_with fail
      refine HSF1.out.mono ?_
      rintro e w10 ⟨rfl, hb10⟩
      have HB10 := Lib.hid (HB9.out.trans (hb10.mono HB9.out.size))
      have hl10 := below_obj' hb10 HL9.out
      have hq10 := below_obj' hb10 HQ9.out
      have HSF2 := Lib.hid (sameFile_yes P2 v2 z2 s2 r2 b2 pl2 m2 A3 C3 A4 C4 _ _ w10 HM2.out (by omega) (HR39.out.old hb10) (HR49.out.old hb10))
      clear k0 k1 k2 k3 k4 k5 k6 j0 j1 j2 j3 j4 j5 j6 hb10 HSF1
      obtain ⟨k0, k1, k2, k3, k4, k5, k6⟩ := file7 hl10
      obtain ⟨j0, j1, j2, j3, j4, j5, j6⟩ := file7 hq10
      clear hl10 hq10
      go_wp2_with fail
      refine HSF2.out.mono ?_
      rintro e w11 ⟨rfl, hb11⟩
      have HB11 := Lib.hid (HB10.out.trans (hb11.mono HB10.out.size))
      clear k0 k1 k2 k3 k4 k5 k6 j0 j1 j2 j3 j4 j5 j6 hb11 HSF2
      have HC5 := Lib.hid (next_any xs n C A G p w11 HN.out hm2 (HR.out.old HB11.out) HLV.out)
      go_wp2_with fail
      refine HC5.out.mono ?_
      rintro e w12 ⟨rfl, hb12⟩
      have HB12 := Lib.hid (HB11.out.trans (hb12.mono HB11.out.size))
      have HC6 := Lib.hid (refNext_any xs n C A G p w12 HN.out hm2 (HR.out.old HB12.out) HLV.out)
      clear hb12 HC5
      go_wp2_with fail
      refine HC6.out.mono ?_
      rintro e w13 ⟨rfl, hb13⟩
      have HB13 := Lib.hid (HB12.out.trans (hb13.mono HB12.out.size))
      have HC7 := Lib.hid (serial_any xs n C A G w13 HN.out hm2 (HR.out.old HB13.out) HLS.out)
      clear hb13 HC6
      go_wp2_with fail
      refine HC7.out.mono ?_
      rintro e w14 ⟨rfl, hb14⟩
      have HB14 := Lib.hid (HB13.out.trans (hb14.mono HB13.out.size))
      have HC8 := Lib.hid (refSerial_any xs n C A G w14 HN.out hm2 (HR.out.old HB14.out) HLS.out)
      clear hb14 HC7
      go_wp2_with fail
      refine HC8.out.mono ?_
      rintro e w15 ⟨rfl, hb15⟩
      have HB15 := Lib.hid (HB14.out.trans (hb15.mono HB14.out.size))
      have HC9 := Lib.hid (names_any xs n C A G w15 HN.out hm2 (HR.out.old HB15.out) (fun x hx => (HO.out w15 HB15.out x hx).path))
      clear hb15 HC8
      go_wp2_with fail
      refine HC9.out.mono ?_
      rintro e w16 ⟨A5, C5, rfl, ht5, hb16⟩
      have HB16 := Lib.hid (HB15.out.trans (hb16.mono HB15.out.size))
      have HTX5 := Lib.hid ht5
      have HC10 := Lib.hid (refNames_any xs n C A G w16 HN.out (by omega) (HR.out.old HB16.out) (HO.out w16 HB16.out))
      clear hb16 HC9 ht5
      go_wp2_with fail
      refine HC10.out.mono ?_
      rintro e w17 ⟨A6, C6, rfl, ht6, hb17⟩
      have HB17 := Lib.hid (HB16.out.trans (hb17.mono HB16.out.size))
      have hns : (Ls.names (filesOf xs)).length ≤ maxLen := by
        have := names_short (filesOf xs) (by rw [HL.out]; omega)
        unfold maxLen; omega
      have hst := sameTexts_any A5 A6 C5 C6 (Ls.names (filesOf xs)) (Ls.names (filesOf xs)) w17 (HTX5.out.old hb17) ht6 hns hns
      rw [beq_self_eq_true] at hst
      have HST := Lib.hid hst
      clear hb17 HC10 ht6 hns hst
      go_wp2_with fail
      refine HST.out.mono ?_
      rintro e w18 ⟨rfl, hb18⟩
      have HB18 := Lib.hid (HB17.out.trans (hb18.mono HB17.out.size))
      clear hb18 HST
      go_wp2
      go_ret
      exact ⟨rfl, HB18.out⟩
set_option maxRecDepth 100000 in
set_option maxHeartbeats 4000000 in
theorem tells_walk (A : Option Addr) (xs : List Fx) (C : Nat) (p : Tx) (V : Int) (w : World) (hr : encF.Rd w A xs (fun _ => True)) (hi : ∀ x ∈ xs, x.In w) :
    Calls Try.prog 3 #[.slice A xs.length C, .string (tx p), .int .i64 V] w fun e w' => e = .returned (.bool true) ∧ Below w.heap.size w w' := by
  by_cases h : xs.length ≤ 40
  · exact tells_main xs xs.length C A _ p V w rfl h hr hi
  · obtain ⟨n, hn⟩ : ∃ n, n = xs.length := ⟨_, rfl⟩
    rw [← hn] at h ⊢
    have g1 : decide (40 < n) = true := decide_eq_true (by omega)
    have g2 : decide (40 < (n : Int)) = true := decide_eq_true (by omega)
    have HAL := Lib.hid (alive18_true w)
    clear hr hi h hn
    go_enter Try.func3, Try.ntmps3
    go_wp2_with fail
    refine HAL.out.mono ?_
    rintro e w1 ⟨rfl, hb1⟩
    have HB1 := Lib.hid hb1
    clear hb1
    go_wp2
    go_ret
    exact ⟨rfl, HB1.out⟩
end Go.Proofs.Ytjhbmijdpcbbiaa
