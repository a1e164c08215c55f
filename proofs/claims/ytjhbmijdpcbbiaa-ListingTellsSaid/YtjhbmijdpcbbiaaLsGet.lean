/- What Get of package listing answers. -/
import Derived.Test.YtjhbmijdpcbbiaaLsNew
import Derived.Test.YtjhbmijdpcbbiaaLsGetM
namespace Go.Proofs.Ytjhbmijdpcbbiaa
open Go.RowKit
open Pt (Tx)

set_option maxRecDepth 100000 in
set_option maxHeartbeats 2000000 in
theorem hit_any (gp gv : Nat) (p : Tx) (V : Int) (P : Tx) (v z s r : Int) (b : Bool) (A : Option Addr) (m C : Nat) (w : World) (hp : w.cell? ⟨gp, 0, none⟩ = some (.string (tx p))) (hv : w.cell? ⟨gv, 0, none⟩ = some (.int .i64 V)) :
    Calls Try.prog 22 #[.agg #[.string (tx P), .int .i64 v, .int .i64 z, .int .i64 s, .int .i64 r, .bool b, .slice A m C], .pointer (some ⟨gp, 0, none⟩), .pointer (some ⟨gv, 0, none⟩)] w (AnsB ((P == p) && (v == V)) w) := by
  obtain ⟨wa, hwa⟩ : ∃ x, x = w.alloc (fileO P v z s r b A m C) := ⟨_, rfl⟩
  have hba : Below w.heap.size w wa := by rw [hwa]; exact (Below.refl _ _).alloc (Nat.le_refl _) _
  have hka : wa.heap[w.heap.size]? = some (fileO P v z s r b A m C) := by rw [hwa]; exact Go.Deep.blk_alloc_new _ _
  have g0 := (hba.cell (World.block_lt_of_cell? _ _ hp)).trans hp
  have g1 := (hba.cell (World.block_lt_of_cell? _ _ hv)).trans hv
  have HD : Hid (∀ k, Below w.heap.size w (wa.drewN k)) := Lib.hid fun k => hba.trans ((drewN_below wa k).mono hba.size)
  have HW : Hid (wa = w.alloc (.cells #[.string (tx P), .int .i64 v, .int .i64 z, .int .i64 s, .int .i64 r, .bool b, .slice A m C] 26)) := Lib.hid hwa
  obtain ⟨d0, d1, -, -, -, -, -⟩ := file7 hka
  have eP := tx_toList P
  have ep := tx_toList p
  have HB := Lib.hid hba
  clear hwa hba hka hp hv
  cases h1 : (P == p) with
  | false =>
    go_enter Try.func22, Try.ntmps22
    go_upto_region 1 with fail
    rw [← HW.out]
    first
      | (go_wp2
         go_ret
         exact ⟨rfl, HB.out⟩)
      | (go_wp2_with (go_quiet (fail))
         go_wp2
         go_ret
         exact ⟨rfl, HD.out _⟩)
  | true =>
    cases h2 : (v == V) with
    | false =>
      go_enter Try.func22, Try.ntmps22
      go_upto_region 1 with fail
      rw [← HW.out]
      first
        | (go_wp2
           go_ret
           exact ⟨rfl, HB.out⟩)
        | (go_wp2_with (go_quiet (fail))
           go_wp2
           go_ret
           exact ⟨rfl, HD.out _⟩)
    | true =>
      go_enter Try.func22, Try.ntmps22
      go_upto_region 1 with fail
      rw [← HW.out]
      first
        | (go_wp2
           go_ret
           exact ⟨rfl, HB.out⟩)
        | (go_wp2_with (go_quiet (fail))
           go_wp2
           go_ret
           exact ⟨rfl, HD.out _⟩)
set_option maxRecDepth 100000 in
set_option maxHeartbeats 4000000 in
theorem index_hit (gp gv : Nat) (p : Tx) (V : Int) (xs : List Fx) (n C : Nat) (A : Option Addr) (G : Nat → Prop) (w : World) (hn : n = xs.length) (hm : n ≤ 1000000) (hr : encF.Rd w A xs G) (hp : w.cell? ⟨gp, 0, none⟩ = some (.string (tx p))) (hv : w.cell? ⟨gv, 0, none⟩ = some (.int .i64 V)) :
    Calls Try.prog 21 #[.slice A n C, .func (.func 22) #[] #[.pointer (some ⟨gp, 0, none⟩), .pointer (some ⟨gv, 0, none⟩)]] w fun e w' => ∃ o, e = .returned (pv o) ∧ Ls.Found (filesOf xs) p V o ∧ Below w.heap.size w w' := by
  have HN := Lib.hid hn
  have HR := Lib.hid hr
  have HP := Lib.hid hp
  have HV := Lib.hid hv
  have HL : Hid ((filesOf xs).length = n) := Lib.hid (by rw [filesOf_len, hn])
  clear hn hr hp hv
  go_enter Try.func21, Try.ntmps21
  go_wp2
  go_loopw [8] (fun vi wr => ∃ i : Nat, i ≤ n ∧ vi = .int .i64 (i : Int) ∧ Hid (Ls.Miss (filesOf xs) p V i) ∧ Hid (Below w.heap.size w wr)) (fun vi _ => n - (intOf vi).toNat)
  case atStart => exact ⟨0, Nat.zero_le _, rfl, Lib.hid (Ls.Miss.zero _ _ _), Lib.hid (Below.refl _ _)⟩
  case round =>
    obtain ⟨i, hi, rfl, HM, HB⟩ := hrel
    by_cases hlt : i < n
    · have e0 : decide (i < n) = true := decide_eq_true hlt
      have hix : i < xs.length := by rw [← HN.out]; exact hlt
      have hif : i < (filesOf xs).length := by rw [HL.out]; exact hlt
      obtain ⟨⟨⟨P, v, z, s, r, b, pl⟩, A1, C1⟩, hx⟩ : ∃ x, x = xs[i] := ⟨_, rfl⟩
      obtain ⟨d, hd⟩ : ∃ d, d = ((P == p) && (v == V)) := ⟨_, rfl⟩
      have HH : Hid (Ls.hit p V (filesOf xs)[i] = d) := Lib.hid (by
        rw [filesOf_get hix hif, ← hx, hd]; rfl)
      obtain ⟨g, o, rfl, c⟩ := seven_at (HR.out.old HB.out) hix hx
      obtain ⟨M, hM⟩ : ∃ M, M = pl.length := ⟨_, rfl⟩
      rw [← hM] at c
      have hcall := hit_any gp gv p V P v z s r b A1 M C1 wr ((HB.out.cell (World.block_lt_of_cell? _ _ HP.out)).trans HP.out) ((HB.out.cell (World.block_lt_of_cell? _ _ HV.out)).trans HV.out)
      rw [← hd] at hcall
      have HC := Lib.hid hcall
      obtain ⟨c0, c1, c2, c3, c4, c5, c6⟩ := c
      clear hx hM hd hcall
      cases d with
      | true =>
        have HF : Hid (Ls.Found (filesOf xs) p V (some i)) := Lib.hid ⟨hif, HM.out, HH.out⟩
        go_wp2_with (go_at_call 22; refine HC.out.mono ?_; rintro e w1 ⟨rfl, hb1⟩; have HB1 := Lib.hid (HB.out.trans (hb1.mono HB.out.size)); clear hb1)
        go_ret
        exact ⟨some i, rfl, HF.out, HB1.out⟩
      | false =>
        have HM2 := Lib.hid (HM.out.step hif HH.out)
        go_wp2_with (go_at_call 22; refine HC.out.mono ?_; rintro e w1 ⟨rfl, hb1⟩; have HB1 := Lib.hid (HB.out.trans (hb1.mono HB.out.size)); clear hb1)
        go_roundw
        case rel => exact ⟨i + 1, by omega, by go_num, HM2, HB1⟩
        case measure => simp [intOf]; omega
    · have hin : i = n := by omega
      have e0 : decide (i < n) = false := decide_eq_false hlt
      have HF : Hid (Ls.Found (filesOf xs) p V none) := Lib.hid (by
        have := HM.out
        rw [hin, ← HL.out] at this
        exact this)
      go_wp2
      go_ret
      exact ⟨none, rfl, HF.out, HB.out⟩
theorem three_blocks {w wb : World} {o1 o2 o3 : Obj} (h : wb = ((w.alloc o1).alloc o2).alloc o3) : Below w.heap.size w wb ∧ wb.heap[w.heap.size]? = some o1 ∧ wb.heap[w.heap.size + 1]? = some o2 ∧ wb.heap[w.heap.size + 2]? = some o3 := by
  have hb1 : Below w.heap.size w (w.alloc o1) := (Below.refl _ _).alloc (Nat.le_refl _) _
  have h1 : (w.alloc o1).heap[w.heap.size]? = some o1 := Go.Deep.blk_alloc_new _ _
  have h2 := Go.Deep.blk_alloc_new (w.alloc o1) o2
  have h3 := Go.Deep.blk_alloc_new ((w.alloc o1).alloc o2) o3
  rw [show (w.alloc o1).heap.size = w.heap.size + 1 by simp] at h2
  rw [show ((w.alloc o1).alloc o2).heap.size = w.heap.size + 2 by simp] at h3
  have h1' := (Below.heap_alloc _ o2 _ (heap_lt h1)).trans h1
  subst h
  exact ⟨(hb1.alloc hb1.size _).alloc (hb1.alloc hb1.size o2).size _, (Below.heap_alloc _ _ _ (heap_lt h1')).trans h1', (Below.heap_alloc _ _ _ (heap_lt h2)).trans h2, h3⟩
set_option maxRecDepth 100000 in
set_option maxHeartbeats 4000000 in
theorem get_any (xs : List Fx) (n C : Nat) (A : Option Addr) (G : Nat → Prop) (p : Tx) (V : Int) (w : World) (hn : n = xs.length) (hm : n ≤ 1000000) (hr : encF.Rd w A xs G) (ho : ∀ x ∈ xs, x.Fit w) :
    Calls Try.prog 9 #[.slice A n C, .string (tx p), .int .i64 V] w (FileA (Ls.get (filesOf xs) p V) w) := by
  obtain ⟨wa, hwa⟩ : ∃ x, x = ((w.alloc (.cells #[.string (tx p)] 9)).alloc (.cells #[.int .i64 V] 3)).alloc (fileO [] 0 0 0 0 false none 0 0) := ⟨_, rfl⟩
  obtain ⟨hba, hk1, hk2, hka⟩ := three_blocks hwa
  have g1 : wa.cell? ⟨w.heap.size, 0, none⟩ = some (.string (tx p)) := heap_cell hk1
  have g2 : wa.cell? ⟨w.heap.size + 1, 0, none⟩ = some (.int .i64 V) := heap_cell hk2
  have HW : Hid (wa = ((w.alloc (.cells #[.string (tx p)] 9)).alloc (.cells #[.int .i64 V] 3)).alloc (.cells #[.string ⟨#[]⟩, .int .i64 0, .int .i64 0, .int .i64 0, .int .i64 0, .bool false, .slice none 0 0] 26)) := Lib.hid hwa
  have HNW := Lib.hid (newest_any xs n C A G p wa hn hm (hr.old hba) (fun x hx => (ho x hx).old hba))
  have HIX := Lib.hid (index_hit w.heap.size (w.heap.size + 1) p V xs n C A G wa hn hm (hr.old hba) g1 g2)
  have HBA := Lib.hid hba
  have HKA := Lib.hid hka
  have HN := Lib.hid hn
  have HR := Lib.hid hr
  have HO := Lib.hid ho
  have HL : Hid ((filesOf xs).length = n) := Lib.hid (by rw [filesOf_len, hn])
  clear hwa hba hka hn hr ho hk1 hk2
  by_cases hV : V = 0
  · subst hV
    have HGZ := Lib.hid (Ls.get_zero (l := filesOf xs) (p := p) (v := 0) rfl)
    go_enter Try.func9, Try.ntmps9
    go_upto_region 1 with fail
    rw [← HW.out]
    go_wp2_with fail
    refine HNW.out.mono ?_
    intro e w2 ha
    rcases ha.cases with ⟨h0, rfl, hb2⟩ | ⟨P', v', z', s', r', b', pl', A', m', C', h0, hm', rfl, hrd, hb2⟩
    · have HB2 := Lib.hid (HBA.out.trans (hb2.mono HBA.out.size))
      have HK2 := Lib.hid (below_obj' hb2 HKA.out)
      have HY := Lib.hid (HGZ.out.trans h0)
      obtain ⟨y0, y1, y2, y3, y4, y5, y6⟩ := file7 HK2.out
      obtain ⟨g0, g1, g2, g3, g4, g5, g6⟩ := file_free HK2.out
      clear h0 hb2 HNW HIX ha
      go_wp2
      obtain ⟨z0, z1, z2, z3, z4, z5, z6⟩ := zero7 (seven_zero HK2.out)
      exact bodyPost_ret (v := .tuple #[.agg #[.string ⟨#[]⟩, .int .i64 0, .int .i64 0, .int .i64 0, .int .i64 0, .bool false, .slice none 0 0], .bool false]) (by simp [results, Try.results9, go_sem, z0, z1, z2, z3, z4, z5, z6]) rfl (FileA.no HY.out (HB2.out.trans ((seven_kp _ _ _ _ _ _ _ _ _).below HB2.out.size fun k hk => by omega)))
    · have HB2 := Lib.hid (HBA.out.trans (hb2.mono HBA.out.size))
      have HK2 := Lib.hid (below_obj' hb2 HKA.out)
      have HY := Lib.hid (HGZ.out.trans h0)
      have HM := Lib.hid hm'
      have HRD := Lib.hid hrd
      obtain ⟨y0, y1, y2, y3, y4, y5, y6⟩ := file7 HK2.out
      obtain ⟨g0, g1, g2, g3, g4, g5, g6⟩ := file_free HK2.out
      clear h0 hb2 HNW HIX ha hm' hrd
      go_wp2
      obtain ⟨z0, z1, z2, z3, z4, z5, z6⟩ := file7 (seven_set HK2.out P' v' z' s' r' b' A' m' C')
      have HKF := seven_kp w2 (w.heap.size + 2) (.string (tx P')) (.int .i64 v') (.int .i64 z') (.int .i64 s') (.int .i64 r') (.bool b') (.slice A' m' C')
      exact bodyPost_ret (v := .tuple #[.agg #[.string (tx P'), .int .i64 v', .int .i64 z', .int .i64 s', .int .i64 r', .bool b', .slice A' m' C'], .bool true]) (by simp [results, Try.results9, go_sem, z0, z1, z2, z3, z4, z5, z6]) rfl (FileA.yes HY.out HM.out (rdQ_file HRD.out HK2.out HKF) (HB2.out.trans (HKF.below HB2.out.size fun k hk => by omega)))
  · have hV' : (V == 0) = false := beq_eq_false_iff_ne.2 hV
    go_enter Try.func9, Try.ntmps9
    go_upto_region 1 with fail
    rw [← HW.out]
    go_wp2_with fail
    refine HIX.out.mono ?_
    rintro e w1 ⟨o, rfl, hf, hb1⟩
    have HB1 := Lib.hid (HBA.out.trans (hb1.mono HBA.out.size))
    have HK1 := Lib.hid (below_obj' hb1 HKA.out)
    clear hb1 HIX HNW g1 g2
    cases o with
    | none =>
      rw [pv_none]
      have HX := Lib.hid (Ls.get_miss hV rfl hf)
      obtain ⟨y0, y1, y2, y3, y4, y5, y6⟩ := file7 HK1.out
      obtain ⟨g0, g1, g2, g3, g4, g5, g6⟩ := file_free HK1.out
      clear hf
      go_wp2
      obtain ⟨z0, z1, z2, z3, z4, z5, z6⟩ := zero7 (seven_zero HK1.out)
      exact bodyPost_ret (v := .tuple #[.agg #[.string ⟨#[]⟩, .int .i64 0, .int .i64 0, .int .i64 0, .int .i64 0, .bool false, .slice none 0 0], .bool false]) (by simp [results, Try.results9, go_sem, z0, z1, z2, z3, z4, z5, z6]) rfl (FileA.no HX.out (HB1.out.trans ((seven_kp _ _ _ _ _ _ _ _ _).below HB1.out.size fun k hk => by omega)))
    | some k =>
      rw [pv_some]
      obtain ⟨hkf, hmiss, hhit⟩ := hf
      have hkn : k < n := by rw [← HL.out]; exact hkf
      have hkx : k < xs.length := by rw [← HN.out]; exact hkn
      have f0 : decide ((k : Int) < 0) = false := decide_eq_false (by omega)
      have f1 : decide (k < n) = true := decide_eq_true hkn
      obtain ⟨⟨⟨P, v, z, s, r, b, pl⟩, A1, C1⟩, hx⟩ : ∃ x, x = xs[k] := ⟨_, rfl⟩
      have HX : Hid (Ls.get (filesOf xs) p V = if b = true then none else some ⟨P, v, z, s, r, b, pl⟩) := Lib.hid (by
        rw [Ls.get_hit hV hkf hmiss hhit, filesOf_get hkx hkf, ← hx])
      obtain ⟨g, o, rfl, c⟩ := seven_at (HR.out.old HB1.out) hkx hx
      obtain ⟨m, hm'⟩ : ∃ m, m = pl.length := ⟨_, rfl⟩
      rw [← hm'] at c
      have HC := Lib.hid (gone_at hkx hx (fun x hx => (HO.out x hx).old HB1.out) hm')
      obtain ⟨c0, c1, c2, c3, c4, c5, c6⟩ := c
      clear hx hm' hkf hkx hmiss hhit
      go_wp2_with fail
      refine HC.out.mono ?_
      intro e w2 ha
      rcases ha.cases with ⟨h0, rfl, hb2⟩ | ⟨P', v', z', s', r', b', pl', A', m', C', h0, hm', rfl, hrd, hb2⟩
      · have HB2 := Lib.hid (HB1.out.trans (hb2.mono HB1.out.size))
        have HK2 := Lib.hid (below_obj' hb2 HK1.out)
        have HY := Lib.hid (HX.out.trans h0)
        obtain ⟨y0, y1, y2, y3, y4, y5, y6⟩ := file7 HK2.out
        obtain ⟨g0, g1, g2, g3, g4, g5, g6⟩ := file_free HK2.out
        clear h0 hb2 HC ha c0 c1 c2 c3 c4 c5 c6
        go_wp2
        obtain ⟨z0, z1, z2, z3, z4, z5, z6⟩ := zero7 (seven_zero HK2.out)
        exact bodyPost_ret (v := .tuple #[.agg #[.string ⟨#[]⟩, .int .i64 0, .int .i64 0, .int .i64 0, .int .i64 0, .bool false, .slice none 0 0], .bool false]) (by simp [results, Try.results9, go_sem, z0, z1, z2, z3, z4, z5, z6]) rfl (FileA.no HY.out (HB2.out.trans ((seven_kp _ _ _ _ _ _ _ _ _).below HB2.out.size fun k hk => by omega)))
      · have HB2 := Lib.hid (HB1.out.trans (hb2.mono HB1.out.size))
        have HK2 := Lib.hid (below_obj' hb2 HK1.out)
        have HY := Lib.hid (HX.out.trans h0)
        have HM := Lib.hid hm'
        have HRD := Lib.hid hrd
        obtain ⟨y0, y1, y2, y3, y4, y5, y6⟩ := file7 HK2.out
        obtain ⟨g0, g1, g2, g3, g4, g5, g6⟩ := file_free HK2.out
        clear h0 hb2 HC ha c0 c1 c2 c3 c4 c5 c6 hm' hrd
        go_wp2
        obtain ⟨z0, z1, z2, z3, z4, z5, z6⟩ := file7 (seven_set HK2.out P' v' z' s' r' b' A' m' C')
        have HKF := seven_kp w2 (w.heap.size + 2) (.string (tx P')) (.int .i64 v') (.int .i64 z') (.int .i64 s') (.int .i64 r') (.bool b') (.slice A' m' C')
        exact bodyPost_ret (v := .tuple #[.agg #[.string (tx P'), .int .i64 v', .int .i64 z', .int .i64 s', .int .i64 r', .bool b', .slice A' m' C'], .bool true]) (by simp [results, Try.results9, go_sem, z0, z1, z2, z3, z4, z5, z6]) rfl (FileA.yes HY.out HM.out (rdQ_file HRD.out HK2.out HKF) (HB2.out.trans (HKF.below HB2.out.size fun k hk => by omega)))
end Go.Proofs.Ytjhbmijdpcbbiaa
