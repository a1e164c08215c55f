/- What Whole of package catalog answers: the file that parts make up. -/
import Derived.Test.YtbijjgicjkmopaaDoorMas
import Derived.Deep.DeepCutAuto
import Derived.Deep.RegionHeld3
import Derived.Deep.DeepFit
namespace Go.Proofs.YtbijjgicjkmopaaDoor
open Go.RowKit
open Pt (Tx)

set_option maxRecDepth 100000 in
set_option maxHeartbeats 8000000 in
theorem whole_any (A : Option Addr) (ps : List Ct.P) (n C : Nat) (G : Nat → Prop) (w : World) (hn : n = ps.length) (hm : n ≤ 1000000) (hr : encQ.Rd w A ps G) (ht : ∀ p ∈ ps, Tame p) (hp : ∀ p ∈ ps, p.h.path.length ≤ 281474976710656) :
    Calls Tryd.prog 10 #[.slice A n C] w (WholeA (Ct.whole ps) w) := by
  obtain ⟨wa, hwa⟩ : ∃ x, x = w.alloc (.cells #[.string ⟨#[]⟩, .int .i64 0, .int .i64 0, .int .i64 0, .int .i64 0, .bool false, .slice none 0 0] 46) := ⟨_, rfl⟩
  have hba : Below w.heap.size w wa := by rw [hwa]; exact (Below.refl _ _).alloc (Nat.le_refl _) _
  have hka : wa.heap[w.heap.size]? = some (fileO [] 0 0 0 0 false none 0 0) := by rw [hwa]; exact Go.Deep.blk_alloc_new _ _
  have HAL := Lib.hid (alike_any A ps n C G wa hn hm (hr.old hba))
  have HW := Lib.hid hwa
  have HBA := Lib.hid hba
  have HKA := Lib.hid hka
  have HN := Lib.hid hn
  have HR := Lib.hid hr
  have HT := Lib.hid ht
  have HP := Lib.hid hp
  clear hwa hba hka hn hr ht hp
  go_enter Tryd.func10, Tryd.ntmps10
  go_wp2_with fail
  rw [← HW.out]
  refine HAL.out.mono ?_
  rintro e w1 ⟨rfl, hb1⟩
  have HB1 := Lib.hid (HBA.out.trans (hb1.mono HBA.out.size))
  have HK1 := Lib.hid (below_obj' hb1 HKA.out)
  clear hb1 HAL
  cases hal : Ct.alikeB ps with
  | false =>
    have HX := Lib.hid (Ct.whole_no hal)
    obtain ⟨y0, y1, y2, y3, y4, y5, y6⟩ := file7 HK1.out
    obtain ⟨g0, g1, g2, g3, g4, g5, g6⟩ := file_free HK1.out
    clear hal
    go_wp2
    obtain ⟨z0, z1, z2, z3, z4, z5, z6⟩ := zero7 (seven_zero HK1.out)
    exact bodyPost_ret (v := .tuple #[.agg #[.string ⟨#[]⟩, .int .i64 0, .int .i64 0, .int .i64 0, .int .i64 0, .bool false, .slice none 0 0], .bool false]) (by simp [results, Tryd.results10, go_sem, z0, z1, z2, z3, z4, z5, z6]) rfl (WholeA.no HX.out (HB1.out.trans ((seven_kp w1 w.heap.size _ _ _ _ _ _ _).below HB1.out.size fun k hk => by omega)))
  | true =>
    have h0 := Ct.alike_pos hal
    have h0n : 0 < n := by rw [HN.out]; exact h0
    obtain ⟨b0, off, rfl, -, t1⟩ := ten_of (HR.out.old HB1.out) h0
    rw [Nat.zero_mul, Nat.add_zero] at t1
    obtain ⟨p, hp⟩ : ∃ p, p = ps[0] := ⟨_, rfl⟩
    have hp0 : ps[0]? = some p := by rw [List.getElem?_eq_getElem h0, hp]
    have HWH := Lib.hid (Ct.whole_yes hal hp0)
    have HALL := Lib.hid (Ct.alike_all hal hp0)
    have hPl := HP.out ps[0] (List.getElem_mem h0)
    rw [← hp] at t1 hPl
    obtain ⟨⟨P, v, z, f, l, s, m, g⟩, lab, at_⟩ := p
    obtain ⟨w2, hw2⟩ : ∃ x, x = w1.alloc (headObj P v z f l s m g) := ⟨_, rfl⟩
    have hb2 : Below w1.heap.size w1 w2 := by rw [hw2]; exact (Below.refl _ _).alloc (Nat.le_refl _) _
    have hk2 : w2.heap[w1.heap.size]? = some (headObj P v z f l s m g) := by rw [hw2]; exact Go.Deep.blk_alloc_new _ _
    have HW2 : Hid (w2 = w1.alloc (.cells #[.string (tx P), .int .i64 v, .int .i64 z, .int .i64 f, .int .i64 l, .int .i64 s, .int .i64 m, .bool g] 36)) := Lib.hid hw2
    have HB2 := Lib.hid (HB1.out.trans (hb2.mono HB1.out.size))
    have HK2 := Lib.hid (below_obj' hb2 HK1.out)
    have HH2 := Lib.hid hk2
    have HPL := Lib.hid hPl
    have HIR := Lib.hid (inRow_any (some ⟨b0, off, none⟩) ps n C G z w2 HN.out hm (HR.out.old HB2.out) HT.out)
    have HLT1 : Hid (w.heap.size < w1.heap.size) := Lib.hid (heap_lt HK1.out)
    obtain ⟨a0, a1, a2, a3, a4, a5, a6, a7⟩ := head8 hk2
    rw [HW2.out] at a0 a1 a2 a3 a4 a5 a6 a7
    obtain ⟨c0, c1, c2, c3, c4, c5, c6, c7, -, -⟩ := t1
    dsimp only at c0 c1 c2 c3 c4 c5 c6 c7
    clear hal hp hp0 hPl hw2 hb2 hk2
    go_wp2_with fail
    rw [← HW2.out]
    refine HIR.out.mono ?_
    intro e w3 hh
    clear HIR c0 c1 c2 c3 c4 c5 c6 c7 a0 a1 a2 a3 a4 a5 a6 a7
    obtain ⟨hh, hb3⟩ := hh
    have HB3 := Lib.hid (HB2.out.trans (hb3.mono HB2.out.size))
    have HK3 := Lib.hid (below_obj' hb3 HK2.out)
    have HH3 := Lib.hid (below_obj' hb3 HH2.out)
    have HS2 : Hid (w.heap.size ≤ w2.heap.size) := Lib.hid HB2.out.size
    clear hb3
    cases hrow : Ct.row ps z with
    | none =>
      rw [hrow] at hh
      obtain rfl := hh
      have HX : Hid (Ct.whole ps = none) := Lib.hid (by rw [HWH.out]; show (Ct.row ps z).map _ = none; rw [hrow]; rfl)
      obtain ⟨y0, y1, y2, y3, y4, y5, y6⟩ := file7 HK3.out
      obtain ⟨g0, g1, g2, g3, g4, g5, g6⟩ := file_free HK3.out
      clear hrow
      go_wp2
      obtain ⟨z0, z1, z2, z3, z4, z5, z6⟩ := zero7 (seven_zero HK3.out)
      exact bodyPost_ret (v := .tuple #[.agg #[.string ⟨#[]⟩, .int .i64 0, .int .i64 0, .int .i64 0, .int .i64 0, .bool false, .slice none 0 0], .bool false]) (by simp [results, Tryd.results10, go_sem, z0, z1, z2, z3, z4, z5, z6]) rfl (WholeA.no HX.out (HB3.out.trans ((seven_kp w3 w.heap.size _ _ _ _ _ _ _).below HB3.out.size fun k hk => by omega)))
    | some r =>
      rw [hrow] at hh
      obtain ⟨vr, rfl, hO⟩ := hh
      have HX : Hid (Ct.whole ps = some ⟨P, v, z, m, s, g, r⟩) := Lib.hid (by rw [HWH.out]; show (Ct.row ps z).map _ = _; rw [hrow]; rfl)
      have HIN : Hid (∀ x ∈ r, x.h.path = P) := Lib.hid fun x hx => by
        have h1 := HALL.out x (Ct.row_mem hrow x hx)
        exact congrArg Rc.H.path h1
      have HRL : Hid (r.length ≤ 1000000) := Lib.hid (by have := Ct.row_len hrow; have := HN.out; omega)
      obtain ⟨A', C', hv, hc1, hc2, -, -⟩ := hO.rd
      subst hv
      obtain ⟨M, hM⟩ : ∃ M, M = r.length := ⟨_, rfl⟩
      have hMm : M ≤ 1000000 := by rw [hM]; exact HRL.out
      rw [← hM] at hO ⊢
      have HO3 := Lib.hid hO
      have HM := Lib.hid hM
      clear hrow hO hc1 hc2 hM
      have hbd : Below w3.heap.size w3 w3.drew := (Below.refl _ _).drew
      have HXX : Hid (∀ y, Below w3.heap.size w3 y → (y.cell? ⟨w1.heap.size, 0, none⟩ = some (.string (tx P)) ∧ y.cell? ⟨w1.heap.size, 1, none⟩ = some (.int .i64 v) ∧ y.cell? ⟨w1.heap.size, 2, none⟩ = some (.int .i64 z) ∧ y.cell? ⟨w1.heap.size, 3, none⟩ = some (.int .i64 f) ∧ y.cell? ⟨w1.heap.size, 4, none⟩ = some (.int .i64 l) ∧ y.cell? ⟨w1.heap.size, 5, none⟩ = some (.int .i64 s) ∧ y.cell? ⟨w1.heap.size, 6, none⟩ = some (.int .i64 m) ∧ y.cell? ⟨w1.heap.size, 7, none⟩ = some (.bool g)) ∧ Below w3.heap.size w3 y) := Lib.hid fun y hy => by
        obtain ⟨a0, a1, a2, a3, a4, a5, a6, a7⟩ := head8 (below_obj' hy HH3.out)
        exact ⟨⟨a0, a1, a2, a3, a4, a5, a6, a7⟩, hy⟩
      have hbz : Below w3.heap.size w3 (w3.alloc (.cells #[.string ⟨#[]⟩, .int .i64 0, .int .i64 0, .int .i64 0, .int .i64 0, .bool false, .slice none 0 0] 46)).drew := ((Below.refl _ _).alloc (Nat.le_refl _) _).drew
      have hkz : (w3.alloc (.cells #[.string ⟨#[]⟩, .int .i64 0, .int .i64 0, .int .i64 0, .int .i64 0, .bool false, .slice none 0 0] 46)).drew.heap[w3.heap.size]? = some (.cells #[.string ⟨#[]⟩, .int .i64 0, .int .i64 0, .int .i64 0, .int .i64 0, .bool false, .slice none 0 0] 46) := Go.Deep.blk_alloc_new w3 _
      have hle : ∀ k, k = w3.heap.size → w3.heap.size ≤ k := fun k hk => Nat.le_of_eq hk.symm
      have hx0 := HXX.out _ hbd
      have HCL := fun y => cloned17 P y HPL.out
      go_upto_region 7 with fail
      go_cut [7] (fun p wx => ∃ F, p = .pointer (some ⟨F, 0, none⟩) ∧ Hid (w3.heap.size ≤ F) ∧ Hid (wx.heap[F]? = some (fileO P v z m s g A' M C')) ∧ Hid (Below w3.heap.size w3 wx))
      case first =>
        go_region_held3 (fun y => (y.cell? ⟨w1.heap.size, 0, none⟩ = some (.string (tx P)) ∧ y.cell? ⟨w1.heap.size, 1, none⟩ = some (.int .i64 v) ∧ y.cell? ⟨w1.heap.size, 2, none⟩ = some (.int .i64 z) ∧ y.cell? ⟨w1.heap.size, 3, none⟩ = some (.int .i64 f) ∧ y.cell? ⟨w1.heap.size, 4, none⟩ = some (.int .i64 l) ∧ y.cell? ⟨w1.heap.size, 5, none⟩ = some (.int .i64 s) ∧ y.cell? ⟨w1.heap.size, 6, none⟩ = some (.int .i64 m) ∧ y.cell? ⟨w1.heap.size, 7, none⟩ = some (.bool g)) ∧ Below w3.heap.size w3 y)
          (first
            | (with_reducible exact hx9)
            | (with_reducible exact hx0)
            | (refine HXX.out _ ?_; with_reducible exact hbz)
            | (refine HXX.out _ ?_; with_reducible exact (hx9.2.alloc hx9.2.size _))
            | (refine HXX.out _ ?_; with_reducible exact (hx9.2.trans ((seven_kp _ _ _ _ _ _ _ _ _).below hx9.2.size hle))))
          (first
            | (go_at_call 24; refine (HCL _).mono ?_; rintro e w9 ⟨rfl, hb9⟩; first
                | (have hx9 := HXX.out w9 (by with_reducible exact hbd.trans (hb9.mono hbd.size)))
                | (have hx9 := HXX.out w9 (by with_reducible exact hbz.trans (hb9.mono hbz.size)); have hk9 : w9.heap[w3.heap.size]? = some (.cells #[.string ⟨#[]⟩, .int .i64 0, .int .i64 0, .int .i64 0, .int .i64 0, .bool false, .slice none 0 0] 46) := below_obj' hb9 hkz; obtain ⟨z0, z1, z2, z3, z4, z5, z6⟩ := zero7 hk9; obtain ⟨f0, f1, f2, f3, f4, f5, f6⟩ := file_free (P := []) (v := 0) (z := 0) (s := 0) (r := 0) (b := false) (A := none) (m := 0) (C := 0) hk9)))
        · have HB9 := Lib.hid (hx9.2.alloc hx9.2.size (.cells #[.string (tx P), .int .i64 v, .int .i64 z, .int .i64 m, .int .i64 s, .bool g, .slice A' M C'] 46))
          have HF9 : Hid ((w9.alloc (.cells #[.string (tx P), .int .i64 v, .int .i64 z, .int .i64 m, .int .i64 s, .bool g, .slice A' M C'] 46)).heap[w9.heap.size]? = some (fileO P v z m s g A' M C')) := Lib.hid (Go.Deep.blk_alloc_new w9 _)
          have HLE : Hid (w3.heap.size ≤ w9.heap.size) := Lib.hid hx9.2.size
          clear hx0 hx9 hb9 hbd hbz hkz HXX
          go_wp2
          go_meet
          exact ⟨_, rfl, HLE, HF9, HB9⟩
        · have HB9 := Lib.hid (hx9.2.trans ((seven_kp w9 w3.heap.size (.string (tx P)) (.int .i64 v) (.int .i64 z) (.int .i64 m) (.int .i64 s) (.bool g) (.slice A' M C')).below hx9.2.size hle))
          have HF9 := Lib.hid (seven_set (P0 := []) (v0 := 0) (z0 := 0) (s0 := 0) (r0 := 0) (b0 := false) (A0 := none) (m0 := 0) (C0 := 0) hk9 P v z m s g A' M C')
          clear hx0 hx9 hb9 hbd hbz hkz HXX hk9 z0 z1 z2 z3 z4 z5 z6 f0 f1 f2 f3 f4 f5 f6
          go_wp2
          go_meet
          exact ⟨_, rfl, Lib.hid (Nat.le_refl _), HF9, HB9⟩
      case rest =>
      obtain ⟨F, rfl, HLF, HFF, HBF⟩ := hcut
      obtain ⟨w4, rfl⟩ : ∃ x, x = wc := ⟨wc, rfl⟩
      have HB4 := Lib.hid (HB3.out.trans (HBF.out.mono HB3.out.size))
      have HK4 := Lib.hid (below_obj' HBF.out HK3.out)
      have HO4 := Lib.hid (HO3.out.old HBF.out)
      have HFL : Hid (w.heap.size < F) := Lib.hid (by have h1 := HLF.out; have h2 := heap_lt HK3.out; omega)
      clear HXX hx0 hbd hbz hkz hle HCL
      go_wp2
      go_loopw [44] (fun vi wr => ∃ i : Nat, i ≤ M ∧ vi = .int .i64 (i : Int) ∧ Hid (wr = w4)) (fun vi _ => M - (intOf vi).toNat)
      case atStart => exact ⟨0, Nat.zero_le _, rfl, Lib.hid rfl⟩
      case round =>
        obtain ⟨i, hi, rfl, HWE⟩ := hrel
        obtain rfl := HWE.out
        obtain ⟨q0, q1, q2, q3, q4, q5, q6⟩ := file7 HFF.out
        by_cases hlt : i < M
        · have e1 : decide (i < M) = true := decide_eq_true hlt
          have hlr : i < r.length := by rw [← HM.out]; exact hlt
          obtain ⟨gb, Cb, cb, hv, -, hgb, ht⟩ := ownQ_at HO4.out hlr
          rw [← HM.out] at hv
          injection hv with hv1 hv2 hv3
          subst hv1 hv3
          have hpath := HIN.out r[i] (List.getElem_mem hlr)
          have hcell : wr.cell? ⟨gb, i * 10, none⟩ = some (.string (tx P)) := by rw [← hpath]; exact ht.1
          have hfr : wr.frozen? ⟨gb, i * 10, none⟩ = false := heap_frozen hgb
          have HSET : Hid (wr.setCell ⟨gb, i * 10, none⟩ (.string (tx P)) = wr) := Lib.hid (setCell_same hgb hcell)
          clear hv2 hpath ht hgb
          go_wp2
          go_roundw
          case rel => exact ⟨i + 1, by omega, by go_num, HSET⟩
          case measure => simp [intOf]; omega
        · have e1 : decide (i < M) = false := decide_eq_false hlt
          obtain ⟨y0, y1, y2, y3, y4, y5, y6⟩ := file7 HK4.out
          obtain ⟨g0, g1, g2, g3, g4, g5, g6⟩ := file_free HK4.out
          go_wp2
          obtain ⟨z0, z1, z2, z3, z4, z5, z6⟩ := file7 (seven_set HK4.out P v z m s g A' M C')
          refine bodyPost_ret (v := .tuple #[.agg #[.string (tx P), .int .i64 v, .int .i64 z, .int .i64 m, .int .i64 s, .bool g, .slice A' M C'], .bool true]) (by simp [results, Tryd.results10, go_sem, z0, z1, z2, z3, z4, z5, z6]) rfl (WholeA.yes HX.out HM.out ?_ (HB4.out.trans ((seven_kp wr w.heap.size _ _ _ _ _ _ _).below HB4.out.size fun k hk => by omega)))
          refine own_lower (HO4.out.of_block fun k hk => (seven_kp wr w.heap.size _ _ _ _ _ _ _).block k (HO4.out.lt k hk).2 fun e => ?_) HS2.out
          have h1 := (HO4.out.lt k hk).1
          have h2 := heap_lt HK2.out
          omega
end Go.Proofs.YtbijjgicjkmopaaDoor
