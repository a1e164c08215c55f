/- What VolumeFinds answers: true. -/
import Derived.Test.YtbcncmampabmfaaDoorMo
import Derived.Test.YtbcncmampabmfaaDoorMt
import Derived.Test.YtbcncmampabmfaaDoorMi
import Derived.Test.YtbcncmampabmfaaDoorMe
import Derived.Test.YtbcncmampabmfaaDoorMb
import Derived.Deep.RegionHeld3
import Derived.Deep.DeepFit
import Derived.Deep.RegionLaw
import Derived.Lib.SmallJoins
namespace Go.Proofs.YtbcncmampabmfaaDoor
open Go.RowKit
open Pt (Tx)

/-- one row in a block of its own -/
theorem TopB.one11 {x : World} {B g : Nat} {u : Value} {s : Tx} (hk : x.heap[g]? = some (.cells #[u] 24)) (hu : OwnL x B u s) (hg : B ≤ g) : TopB x B (B ≤ ·) (.slice (some ⟨g, 0, none⟩) 1 1) [u] [s] := by
  refine ⟨⟨rfl, .inr ⟨g, 1, _, rfl, hg, hk, Nat.le_refl _, by decide, rfl, rfl⟩⟩, rfl, fun i hi hi' => ?_, fun i hi k e => ?_, fun i j hi hj _ _ _ => ?_⟩
  · have : i = 0 := by simp at hi; omega
    subst this; exact hu
  · have : i = 0 := by simp at hi; omega
    subst this; exact hu.lo k e
  · simp at hi hj; omega
theorem infoByte11 : (Tryd.prog.info? 5).map (fun i => (i.zero, i.size, i.bytes)) = some (some (.int .u8 0), 1, 1) := by kernel_rfl
set_option maxHeartbeats 1000000 in
theorem finds_out (A : Option Addr) (n C : Nat) (A' : Option Addr) (n' C' : Nat) (w : World) (hk : Kept w) (h : 8 < n ∨ 10 < n') :
    Calls Tryd.prog 5 #[.slice A n C, .slice A' n' C'] w (AnsB true w) := by
  have HC := Lib.hid (alive11_true _ hk)
  clear hk
  have hq : (decide (8 < (n : Int)) = true ∧ decide (8 < n) = true) ∨ (decide (8 < (n : Int)) = false ∧ decide (8 < n) = false ∧ decide (10 < (n' : Int)) = true ∧ decide (10 < n') = true) := by
    simp only [decide_eq_true_eq, decide_eq_false_iff_not]; omega
  clear h
  rcases hq with ⟨q1, q2⟩ | ⟨q1, q2, q3, q4⟩
  all_goals
    go_enter Tryd.func5, Tryd.ntmps5
    go_wp2_with fail
    refine HC.out.mono ?_
    rintro e w1 ⟨rfl, hb1⟩
    have HB1 := Lib.hid hb1
    clear hb1
    go_wp2
    go_ret
    exact ⟨rfl, HB1.out⟩
set_option maxRecDepth 100000 in
set_option maxHeartbeats 8000000 in
theorem finds_main (A : Option Addr) (len C : Nat) (zs : Nat → Int) (Ap : Option Addr) (np Cp : Nat) (zp : Nat → Int) (w : World) (hk : Kept w) (hr : RdI w A len zs) (hrp : RdI w Ap np zp) (hlen : len ≤ 8) (hnp : np ≤ 10) :
    Calls Tryd.prog 5 #[.slice A len C, .slice Ap np Cp] w (AnsB true w) := by
  have q1 : decide (8 < (len : Int)) = false := decide_eq_false (by omega)
  have q2 : decide (8 < len) = false := decide_eq_false (by omega)
  have q3 : decide (10 < (np : Int)) = false := decide_eq_false (by omega)
  have q4 : decide (10 < np) = false := decide_eq_false (by omega)
  have HK := Lib.hid hk
  have HR := Lib.hid hr
  have HRP := Lib.hid hrp
  clear hk hr hrp
  go_enter Tryd.func5, Tryd.ntmps5
  go_wp2_with fail
  refine (alive11_true w HK.out).mono ?_
  rintro e w1 ⟨rfl, hb1⟩
  obtain ⟨w2, hw2⟩ : ∃ w2, w2 = (w1.alloc (tapeObj 7 64 none 0 0 false)).alloc (.cells #[.int .u8 68] 5 (1, 2)) := ⟨_, rfl⟩
  have kc := Go.Joins.run_convert_bytes_const_at (P := Tryd.prog) (w1.alloc (tapeObj 7 64 none 0 0 false)) 24 5 #[.int .u8 68] 1 1 (w1.heap.size + 1) (by simp) Tryd.underlying24 Tryd.underlying5
  unfold tapeObj at kc
  obtain ⟨hB2, hT2, hD2⟩ := two_blocks hw2
  have hrd : RdL w2 (some ⟨w1.heap.size + 1, 0, none⟩) [68] (fun _ => True) := fun _ => ⟨_, _, rfl, trivial, fun j hj => by
    have : j = 0 := by simp at hj; omega
    subst this
    rw [heap_cell hD2]; rfl⟩
  have HRD := Lib.hid hrd
  have HW2 := Lib.hid hw2
  unfold tapeObj at HW2
  have hbw := hb1.trans (hB2.mono hb1.size)
  obtain ⟨TB, hTB⟩ : ∃ TB, TB = w1.heap.size := ⟨_, rfl⟩
  rw [← hTB] at hT2
  have HT2 : Hid (Tp w TB none 0 0 [] [] w2) := Lib.hid ⟨hT2, TopB.nil _ _ _, hbw, by rw [hTB]; exact hb1.size⟩
  have HTB := Lib.hid hTB
  clear hb1 hw2 hB2 hT2 hD2 hrd hbw hTB
  go_wp2_with fail
  clear kc
  rw [← HW2.out]
  have hcall := refPut_own 1 7 0 (some ⟨w1.heap.size + 1, 0, none⟩) [68] 1 1 _ w2 rfl (fun h => by cases h) HRD.out
  unfold PutO at hcall
  rw [show Fm.err ⟨1, 7, 0, [68]⟩ = 0 from Fm.err_ok b0_ok, show Fm.put ⟨1, 7, 0, [68]⟩ = b0 from Fm.put_ok b0_ok] at hcall
  rw [← HTB.out]
  rw [← HTB.out] at hcall
  refine hcall.mono ?_
  clear hcall
  rintro e w3 ⟨A3, n3, C3, rfl, hO3, hb3⟩
  obtain ⟨w4, hw4⟩ : ∃ w4, w4 = w3.alloc (.cells #[.slice A3 n3 C3] 24) := ⟨_, rfl⟩
  have hb34 : Below w3.heap.size w3 w4 := by rw [hw4]; exact (Below.refl _ _).alloc (Nat.le_refl _) _
  have hk4 : w4.heap[w3.heap.size]? = some (.cells #[.slice A3 n3 C3] 24) := by rw [hw4]; exact Go.Deep.blk_alloc_new _ _
  have hb24 : Below w2.heap.size w2 w4 := hb3.trans (hb34.mono hb3.size)
  have hT4 := HT2.out.old hb24
  have hTlt : TB < w2.heap.size := heap_lt HT2.out.blk
  have hO4 : OwnL w4 w2.heap.size (.slice A3 n3 C3) b0 := hO3.of_block fun k e => hb34.block k (hO3.lt k e)
  obtain ⟨g2, c2, A5, C5, w5, e5, -, -, hr5, x5, y5, hT5, -⟩ := hT4.grow (TopB.one11 hk4 hO4 hb3.size) (fun i hi => absurd hi (by simp)) (by omega) (fun k hk => by omega) 1 (Nat.le_refl _) (by simp) (by simp) (by simp)
  injection e5 with e6 e7 e8
  injection e6 with e6
  injection e6 with e6
  subst e6 e8
  clear e7
  rw [Nat.zero_add] at hr5 hT5
  have HT5 : Hid (Tp w TB A5 1 C5 [.slice A3 n3 C3] (laid zs 0) (w5.setCell ⟨TB, 2, none⟩ (.slice A5 1 C5))) := Lib.hid hT5
  have z2 : w3.cell? ⟨TB, 2, none⟩ = some (.slice none 0 0) := by
    have := HT2.out.old hb3
    exact heap_cell this.blk
  rw [hw4] at hr5
  clear hw4 hTlt hb34 hk4 hb24 hT4 hO4 hT5 hO3 hb3 HW2 HT2 HRD
  go_wp2_with (at_builtin; refine Lib.wpList_append_run _ rfl _ _ _ _ rfl _ _ rfl rfl _ _ (hr5 _) ?_)
  generalize w5.setCell ⟨TB, 2, none⟩ (.slice A5 1 C5) = w6 at HT5 ⊢
  clear hr5 x5 y5 z2
  have HW0 : Hid ((encP 7).Own w6 w.heap.size 48 (.slice none 0 0) (wants zs 0)) := Lib.hid (Enc.Own.nil _ _ _)
  go_loopw [10, 9] (fun vi vl wr => ∃ (i : Nat) (Av : Option Addr) (Nv Cv : Nat) (us : List Value), i ≤ len ∧ vi = .int .i64 (i : Int) ∧ Hid (Tp w TB Av Nv Cv us (laid zs i) wr) ∧ Hid ((encP 7).Own wr w.heap.size 48 vl (wants zs i))) (fun vi _ _ => len - (intOf vi).toNat)
  case atStart => exact ⟨0, _, _, _, _, Nat.zero_le _, rfl, HT5, HW0⟩
  case round =>
    obtain ⟨i, Av, Nv, Cv, us, hi, rfl, HT, HWA⟩ := hrel
    clear HT5 HW0
    by_cases hlt : i < len
    · obtain ⟨bz, offz, rfl, hcz⟩ := (HR.out.old HT.out.bel).at hlt
      obtain ⟨m, hm⟩ : ∃ m, m = low7 zs i := ⟨_, rfl⟩
      have hz7 := (low7_eq zs i).1
      have hm7 := (low7_eq zs i).2
      rw [← hm] at hz7 hm7
      have hmk := fun y => run_make_row' (P := Tryd.prog) 24 5 (.int .u8 0) 1 Tryd.underlying24 infoByte11 rfl .i64 .i64 m (by omega) (by omega) y
      have hNv : Nv = (laid zs i).length := HT.out.len
      have hR := laid_right zs (i := i) (by omega)
      rw [← hm, ← hNv] at hR
      have hus : us.length = Nv := by rw [HT.out.top.len, hNv]
      have hN60 : Nv ≤ 60 := by rw [hNv, laid_len zs (by omega)]; have := laid_room zs i; omega
      have hw1 : IntKind.i64.wrap ((i : Int) + 1) = (i : Int) + 1 := by rw [IntKind.wrap_i64]; omega
      obtain ⟨x0, hx0⟩ : ∃ x0, x0 = wr.alloc (headObj [97] ((i : Int) + 1) m 0 m 1 0 false) := ⟨_, rfl⟩
      have hb0 : Below wr.heap.size wr x0 := by rw [hx0]; exact (Below.refl _ _).alloc (Nat.le_refl _) _
      obtain ⟨hb, hhb⟩ : ∃ hb, hb = wr.heap.size := ⟨_, rfl⟩
      have hH0 : x0.heap[hb]? = some (headObj [97] ((i : Int) + 1) m 0 m 1 0 false) := by rw [hx0, hhb]; exact Go.Deep.blk_alloc_new _ _
      have hs0 : x0.heap.size = wr.heap.size + 1 := by rw [hx0]; simp
      obtain ⟨wq, hwq⟩ : ∃ wq, wq = (x0.alloc (.cells (madeCells #[.int .u8 0] m) 5)).drew := ⟨_, rfl⟩
      have hbel : Below x0.heap.size x0 x0.drew := (Below.refl _ _).drew
      have hbq : Below x0.heap.size x0 wq := by rw [hwq]; exact ((Below.refl _ x0).alloc (Nat.le_refl _) _).drew
      have hzr : RdL wq (some ⟨x0.heap.size, 0, none⟩) (List.replicate m 0) (x0.heap.size ≤ ·) := by rw [hwq]; exact rd_zeros x0 m
      have hcall := refBlocks_any 7 (Nv : Int) [97] ((i : Int) + 1) (m : Int) 0 (m : Int) 1 0 false _ (List.replicate m 0) m m _ wq (by decide) (by simp) (Nat.le_refl _) (by unfold maxLen; omega) hzr (by omega)
      have hT0 := HT.out.old hb0
      have HT0 := Lib.hid hT0
      have HWA0 := Lib.hid (HWA.out.old hb0)
      have HH0 := Lib.hid hH0
      have HTQ := Lib.hid (hT0.old hbq)
      have HWAQ := Lib.hid ((HWA.out.old hb0).old hbq)
      have HC := Lib.hid hcall
      have HWQ := Lib.hid hwq
      have HRT : Hid (Vo.Right 7 (Nv : Int) (Vo.hd [97] i m) (List.replicate m 0)) := Lib.hid hR
      have HM := Lib.hid hm
      have HNV := Lib.hid hNv
      have HUS := Lib.hid hus
      have HBQ := Lib.hid hbq
      have HX : Hid (∀ y, Below x0.heap.size x0 y → y.cell? ⟨TB, 2, none⟩ = some (.slice Av Nv Cv) ∧ y.cell? ⟨hb, 0, none⟩ = some (.string (tx [97])) ∧ y.cell? ⟨hb, 1, none⟩ = some (.int .i64 ((i : Int) + 1)) ∧ y.cell? ⟨hb, 2, none⟩ = some (.int .i64 (m : Int)) ∧ y.cell? ⟨hb, 3, none⟩ = some (.int .i64 0) ∧ y.cell? ⟨hb, 4, none⟩ = some (.int .i64 (m : Int)) ∧ y.cell? ⟨hb, 5, none⟩ = some (.int .i64 1) ∧ y.cell? ⟨hb, 6, none⟩ = some (.int .i64 0) ∧ y.cell? ⟨hb, 7, none⟩ = some (.bool false) ∧ Below x0.heap.size x0 y) := Lib.hid fun y hy => by
        obtain ⟨b0, b1, b2, b3, b4, b5, b6, b7⟩ := head8 (below_head hy HH0.out)
        exact ⟨heap_cell (HT0.out.old hy).blk, b0, b1, b2, b3, b4, b5, b6, b7, hy⟩
      have hx0' := HX.out _ hbel
      have hx1 := HX.out _ hbq
      rw [hwq] at hx1
      have HX0 : Hid (x0 = wr.alloc (.cells #[.string ⟨#[97]⟩, .int .i64 ((i : Int) + 1), .int .i64 (m : Int), .int .i64 0, .int .i64 (m : Int), .int .i64 1, .int .i64 0, .bool false] 23)) := Lib.hid hx0
      have HHB := Lib.hid hhb
      clear hcall hwq hT0 hR hm hNv hus hzr hbq hx0 hb0 hH0 hhb HT HWA hs0
      go_wp2_with fail
      rw [← HX0.out, ← HHB.out]
      go_region_held3 (fun y => y.cell? ⟨TB, 2, none⟩ = some (.slice Av Nv Cv) ∧ y.cell? ⟨hb, 0, none⟩ = some (.string (tx [97])) ∧ y.cell? ⟨hb, 1, none⟩ = some (.int .i64 ((i : Int) + 1)) ∧ y.cell? ⟨hb, 2, none⟩ = some (.int .i64 (m : Int)) ∧ y.cell? ⟨hb, 3, none⟩ = some (.int .i64 0) ∧ y.cell? ⟨hb, 4, none⟩ = some (.int .i64 (m : Int)) ∧ y.cell? ⟨hb, 5, none⟩ = some (.int .i64 1) ∧ y.cell? ⟨hb, 6, none⟩ = some (.int .i64 0) ∧ y.cell? ⟨hb, 7, none⟩ = some (.bool false) ∧ Below x0.heap.size x0 y)
        (first
          | exact hx2
          | exact hx1
          | exact hx0')
        (first
          | (go_at_call 8; rw [← HWQ.out]; refine HC.out.mono ?_; rintro e w7 ⟨v7, us7, rfl, hT7, hb7⟩; have hx2 := HX.out w7 (HBQ.out.trans (hb7.mono HBQ.out.size))))
      have hR := HRT.out
      have hl7 : us7.length = Vo.data m + 2 := by
        have h1 := hT7.len
        have h2 := Vo.put_len hR
        rw [List.length_replicate] at h2
        exact h1.trans h2
      have hTqlt : TB < wq.heap.size := heap_lt HTQ.out.blk
      have hold : ∀ j (hj : j < us.length) k, us[j].ownBlock = some k → ¬ wq.heap.size ≤ k := fun j hj k e h => by
        have := (HTQ.out.top.rows j hj (by rw [← HTQ.out.top.len]; exact hj)).lt k e
        omega
      have hW7 := HWAQ.out.old hb7
      have hb7a : Below w7.heap.size w7 (w7.alloc (.cells (cells10 ⟨[97], (i : Int) + 1, m, 0, m, 1, 0, false⟩ 7 Nv).toArray 48)) := (Below.refl _ _).alloc (Nat.le_refl _) _
      have HW7 := Lib.hid (hW7.old hb7a)
      have HT7 := Lib.hid (HTQ.out.old hb7)
      have H7 := Lib.hid hT7
      have HB7A := Lib.hid hb7a
      have HX7 := Lib.hid hx2
      have HH7 := Lib.hid (below_head hx2.2.2.2.2.2.2.2.2.2 HH0.out)
      have hwl : (wants zs i).length ≤ 8 := by rw [wants_len]; omega
      have hwsz := HT7.out.bel.size
      obtain ⟨a0, a1, a2, a3, a4, a5, a6, a7⟩ := head8 HH7.out
      have z2 := hx2.1
      clear hx0' hx1 hx2 hbel hmk hw1 hz7 hcz hT7 hW7 hb7a HC
      have hwlt : wq.heap.size ≤ w7.heap.size := hb7.size
      have HOLD := Lib.hid hold
      have HL7 := Lib.hid hl7
      have HB7 := Lib.hid hb7
      clear hold hl7 hb7 hR
      go_wp2_with (first | (at_builtin; refine wpList_append_st' (encP 7) _ rfl _ _ _ rfl w.heap.size 48 _ 88 Tryd.underlying44 infoPart rfl _ (wants zs i) rfl HW7.out ⟨w7.heap.size, 0, none⟩ 1 1 [(⟨[97], (i : Int) + 1, m, 0, m, 1, 0, false⟩, Nv)] rfl rfl (newCells w7 (cells10 ⟨[97], (i : Int) + 1, m, 0, m, 1, 0, false⟩ 7 Nv) _) (by unfold maxLen; omega) (by omega) (by simp; omega) ?_; intro v8 w8 hO8 hg8; have hT8 := HT7.out.beside HB7A.out HW7.out hg8; have h8 := H7.out.beside HB7A.out HW7.out hg8; obtain ⟨g2, c8, A9, C9, w9, e9, -, -, hr9, x9, f9, hT9, hkeep9⟩ := hT8.grow h8 HOLD.out (by omega) (fun k hk => by omega) us7.length (Nat.le_refl _) (by have := HL7.out; omega) (by have := HUS.out; omega) (by have := HL7.out; rw [this]; unfold Vo.data; omega); have y2 : w8.cell? ⟨TB, 2, none⟩ = some (.slice Av Nv Cv) := heap_cell hT8.blk; subst e9; have HW9 := Lib.hid (want_kept hT8 hO8 hkeep9); have HT9 := Lib.hid hT9; clear hT8 h8 hT9 hkeep9 hO8 hg8) | (at_builtin; refine Lib.wpList_append_run _ rfl _ _ _ _ rfl _ _ rfl rfl _ _ (hr9 _) ?_))
      go_roundw
      case rel => exact ⟨i + 1, A9, _, C9, us ++ us7, by omega, by go_num, Lib.hid (by
        have h := HT9.out
        rw [List.take_length, List.take_of_length_le (by rw [← H7.out.len]; exact Nat.le_refl _)] at h
        rw [laid_succ, ← HM.out, ← HNV.out]
        exact h), Lib.hid (by
        rw [wants_succ zs (by omega), ← HM.out, ← HNV.out]
        exact HW9.out)⟩
      case measure => simp [intOf]; omega
    · obtain rfl : i = len := by omega
      have hNv : Nv = (laid zs i).length := HT.out.len
      have hus : us.length = Nv := by rw [HT.out.top.len, hNv]
      have hN60 : Nv ≤ 60 := by rw [hNv, laid_len zs (by omega)]; have := laid_room zs i; omega
      have hN1 : 1 ≤ Nv := by rw [hNv, laid_len zs (by omega)]; omega
      obtain ⟨gt, Dt, ev, -, -, -⟩ := HT.out.top.cells (by omega)
      injection ev with e1 e2 e3
      subst e1
      clear e2 e3
      have HUS := Lib.hid hus
      have H0H : Hid (Vo.Heads (laid zs i) (laid zs i)) := Lib.hid (Vo.Heads.refl _)
      have H0L : Hid (∀ s ∈ laid zs i, 15 ≤ s.length ∧ s.length ≤ 94) := Lib.hid fun s hs => ⟨laid_ge zs i s hs, laid_le zs i s hs⟩
      have hn0 : ((Nv : Int) == 0) = false := by simp; omega
      clear hNv hus
      go_wp2_with fail
      go_loopw [15] (fun vj wl => ∃ (j : Nat) (bs : List Tx), j ≤ np ∧ vj = .int .i64 (j : Int) ∧ Hid (Tp w TB (some ⟨gt, 0, none⟩) Nv Cv us bs wl) ∧ Hid (Vo.Heads (laid zs i) bs) ∧ Hid (∀ s ∈ bs, 15 ≤ s.length ∧ s.length ≤ 94) ∧ Hid ((encP 7).Own wl w.heap.size 48 u9 (wants zs i))) (fun vj _ => np - (intOf vj).toNat)
      case atStart => exact ⟨0, _, Nat.zero_le _, rfl, HT, H0H, H0L, HWA⟩
      case round =>
        obtain ⟨j, bs, hj, rfl, HTJ, HHJ, HLJ, HWJ⟩ := hrel
        clear HT H0H H0L HWA
        by_cases hltj : j < np
        · obtain ⟨bz, offz, rfl, hcz⟩ := (HRP.out.old HTJ.out.bel).at hltj
          obtain ⟨kk, hkk⟩ : ∃ kk, kk = low zp j % Nv := ⟨_, rfl⟩
          have hz10 := (low_eq zp j).1
          have hrem : Int.tmod (low zp j : Int) (Nv : Int) = (kk : Int) := by rw [hkk]; rfl
          have hkN : kk < Nv := by rw [hkk]; exact Nat.mod_lt _ (by omega)
          have hkN' : (kk : Int) < (Nv : Int) := by omega
          have hkl : kk < bs.length := by rw [← HTJ.out.len]; exact hkN
          obtain ⟨s, hs⟩ : ∃ s, bs[kk]? = some s := ⟨_, List.getElem?_eq_getElem hkl⟩
          have hsl := HLJ.out s (List.mem_of_getElem? hs)
          obtain ⟨g, L, D, c, hu, hL, hLD, hDm, -, hrd, -, -, -, -⟩ := HTJ.out.turned hs (by omega)
          have HS := Lib.hid hs
          have HU := Lib.hid hu
          have HCZ := Lib.hid hkk
          obtain ⟨gt', Dt', ev, -, -, hct⟩ := HTJ.out.top.cells (by have := HUS.out; omega)
          injection ev with e1 e2 e3
          injection e1 with e1
          injection e1 with e1
          subst e1 e3
          have hck := hct kk _ hu
          have z2 : wr.cell? ⟨TB, 2, none⟩ = some (.slice (some ⟨gt, 0, none⟩) Nv Cv) := heap_cell HTJ.out.blk
          clear e2 hct hs hu hkk
          go_wp2
          go_quiet (fail)
          have hbd : ∀ n, Below wr.heap.size wr (wr.drewN n) := fun n => ⟨rfl, rfl, rfl, Nat.le_refl _, fun _ _ => rfl⟩
          have HTN := Lib.hid (HTJ.out.old (hbd nq))
          have HWN := Lib.hid (HWJ.out.old (hbd nq))
          have hrdn := hrd.old (hbd nq)
          have hckn : (wr.drewN nq).cell? ⟨gt, kk, none⟩ = some (.slice (some ⟨g, 0, none⟩) L D) := hck
          have z2n : (wr.drewN nq).cell? ⟨TB, 2, none⟩ = some (.slice (some ⟨gt, 0, none⟩) Nv Cv) := z2
          clear hck z2 hrd hbd HTJ HWJ hz10 hrem hcz
          generalize wr.drewN nq = wn at HTN HWN hrdn hckn z2n ⊢
          have hget := refGet_any (some ⟨g, 0, none⟩) s L D _ wn hL hLD hDm (by omega) (fun h => by cases h) hrdn
          obtain ⟨ge, hge⟩ : ∃ ge, ge = Fm.gotE s := ⟨_, rfl⟩
          obtain ⟨k, lb, nb, ld, hud⟩ : ∃ k lb nb ld, Fm.got s = ⟨k, lb, nb, ld⟩ := ⟨_, _, _, _, rfl⟩
          unfold GotU at hget
          rw [hud, ← hge] at hget
          have hcase : ((ge == 0) = false) ∨ ((ge == 0) = true ∧ (k != 2) = true ∧ (Fm.parse s).kind ≠ 2) ∨ ((ge == 0) = true ∧ (k != 2) = false) := by
            by_cases hgd : Fm.Good s
            · rw [Fm.gotE_yes hgd] at hge
              rw [Fm.got_yes hgd] at hud
              by_cases h1 : k = 2
              · exact .inr (.inr ⟨by rw [hge]; rfl, by rw [h1]; rfl⟩)
              · exact .inr (.inl ⟨by rw [hge]; rfl, by simpa using h1, by rw [hud]; exact h1⟩)
            · refine .inl ?_
              rw [hge, Fm.gotE, if_neg hgd]; rfl
          have HGET := Lib.hid hget
          have HCASE := Lib.hid hcase
          have hL0 : 0 < L := by omega
          have HL := Lib.hid hL
          have HSL := Lib.hid hsl
          clear hget hcase hge hud hrdn hL hsl
          go_wp2_with fail
          refine HGET.out.mono ?_
          rintro e w7 ⟨A7, m7, C7, rfl, -, -, -, -, hb7⟩
          have hb8 : Below wn.heap.size wn (w7.alloc (unitObj k lb nb A7 m7 C7)) := hb7.alloc hb7.size _
          have u0 : (w7.alloc (unitObj k lb nb A7 m7 C7)).cell? ⟨w7.heap.size, 0, none⟩ = some (.int .i64 k) := (unit4 (Go.Deep.blk_alloc_new _ _)).1
          have HT8 := Lib.hid (HTN.out.old hb8)
          have HW8 := Lib.hid (HWN.out.old hb8)
          have hck8 : (w7.alloc (unitObj k lb nb A7 m7 C7)).cell? ⟨gt, kk, none⟩ = some (.slice (some ⟨g, 0, none⟩) L D) := (hb8.cell (World.block_lt_of_cell? _ _ hckn)).trans hckn
          have z28 : (w7.alloc (unitObj k lb nb A7 m7 C7)).cell? ⟨TB, 2, none⟩ = some (.slice (some ⟨gt, 0, none⟩) Nv Cv) := heap_cell HT8.out.blk
          clear hckn z2n hb7 hb8 HTN HWN
          rcases HCASE.out with q1 | ⟨q1, q2, q3⟩ | ⟨q1, q2⟩
          · unfold unitObj at u0 hck8 z28
            go_wp2
            go_roundw
            case rel => exact ⟨j + 1, bs, by omega, by go_num, HT8, HHJ, HLJ, HW8⟩
            case measure => simp [intOf]; omega
          · obtain ⟨g', L', D', c', hu', -, -, -, -, -, ⟨v0, hv0⟩, hfz, hTt, hWt⟩ := HT8.out.turned HS.out (by have := HSL.out; omega)
            rw [HU.out] at hu'
            injection hu' with hu'
            injection hu' with e1 e2 e3
            injection e1 with e1
            injection e1 with e1
            subst e1 e2 e3
            have HTT := Lib.hid hTt
            have HWT := Lib.hid (hWt HW8.out)
            have HHT := Lib.hid (HHJ.out.turn HS.out q3 (s.set 0 0))
            have HLT : Hid (∀ x ∈ bs.set kk (s.set 0 0), 15 ≤ x.length ∧ x.length ≤ 94) := Lib.hid fun x hx => by
              rcases List.mem_or_eq_of_mem_set hx with h | h
              · exact HLJ.out x h
              · rw [h, List.length_set]; exact HSL.out
            have hl0' : (0 : Int) < (L : Int) := by omega
            clear hTt hWt q3
            unfold unitObj at u0 hck8 z28 hv0 hfz
            go_wp2
            go_roundw
            case rel => exact ⟨j + 1, _, by omega, by go_num, HTT, HHT, HLT, HWT⟩
            case measure => simp [intOf]; omega
          · unfold unitObj at u0 hck8 z28
            go_wp2
            go_roundw
            case rel => exact ⟨j + 1, bs, by omega, by go_num, HT8, HHJ, HLJ, HW8⟩
            case measure => simp [intOf]; omega
        · obtain ⟨t0, t1, t2, t3⟩ := tape4 HTJ.out.blk
          have hpts : Vo.parts ⟨7, bs, false⟩ = wants zs i := Vo.finds_turned a_right (by decide) (fun n hn => by have := sizes_le zs i n hn; omega) (by rw [sizes_len]; omega) (by have := laid_room zs i; omega) HHJ.out
          have hcall := parts_any 7 64 bs (some ⟨gt, 0, none⟩) Nv Cv _ false wr HTJ.out.len HTJ.out.top.rdB (by omega) (fun s hs => by have := HLJ.out s hs; omega) (HK.out.old HTJ.out.bel)
          unfold PartsA at hcall
          rw [hpts] at hcall
          obtain ⟨Aw, Cw, ew, -, -, -, hrw⟩ := HWJ.out.rd
          subst ew
          obtain ⟨nw, hnw⟩ : ∃ nw, nw = (wants zs i).length := ⟨_, rfl⟩
          have hnw8 : nw ≤ 8 := by rw [hnw, wants_len]; omega
          rw [← hnw] at hcall
          rw [← hnw]
          have HC2 := Lib.hid hcall
          have HRW := Lib.hid hrw
          have HNW := Lib.hid hnw
          clear hcall hrw hnw hpts
          go_wp2_with fail
          refine HC2.out.mono ?_
          rintro e w7 ⟨A7, C7, rfl, -, -, -, hr7, hb7⟩
          have HC3 := Lib.hid (sameParts_yes 7 A7 C7 (wants zs i) _ Aw Cw _ nw w7 HNW.out.symm (by omega) hr7 (HRW.out.old hb7))
          have HB7 := Lib.hid (HTJ.out.bel.trans (hb7.mono HTJ.out.bel.size))
          clear hr7 hb7 t0 t1 t2 t3
          go_wp2_with fail
          refine HC3.out.mono ?_
          rintro e w8 ⟨rfl, hb8⟩
          have HB8 := Lib.hid (HB7.out.trans (hb8.mono HB7.out.size))
          clear hb8
          go_wp2
          go_ret
          exact ⟨rfl, HB8.out⟩
end Go.Proofs.YtbcncmampabmfaaDoor
