/- What VolumeKeeps answers: true. -/
import Derived.Test.YtbcncmampabmfaaDoorMo
import Derived.Test.YtbcncmampabmfaaDoorMe
import Derived.Test.YtbcncmampabmfaaDoorMb
import Derived.Deep.RegionHeld3
import Derived.Deep.DeepFit
import Derived.Deep.RegionLaw
import Derived.Lib.SmallJoins
namespace Go.Proofs.YtbcncmampabmfaaDoor
open Go.RowKit
open Pt (Tx)

/-- one row in a block of its own -/
theorem TopB.one {x : World} {B g : Nat} {u : Value} {s : Tx} (hk : x.heap[g]? = some (.cells #[u] 24)) (hu : OwnL x B u s) (hg : B ≤ g) : TopB x B (B ≤ ·) (.slice (some ⟨g, 0, none⟩) 1 1) [u] [s] := by
  refine ⟨⟨rfl, .inr ⟨g, 1, _, rfl, hg, hk, Nat.le_refl _, by decide, rfl, rfl⟩⟩, rfl, fun i hi hi' => ?_, fun i hi k e => ?_, fun i j hi hj _ _ _ => ?_⟩
  · have : i = 0 := by simp at hi; omega
    subst this; exact hu
  · have : i = 0 := by simp at hi; omega
    subst this; exact hu.lo k e
  · simp at hi hj; omega
theorem infoByte' : (Tryd.prog.info? 5).map (fun i => (i.zero, i.size, i.bytes)) = some (some (.int .u8 0), 1, 1) := by kernel_rfl
set_option maxHeartbeats 1000000 in
theorem keeps_out (A : Option Addr) (n C : Nat) (last stop bytes : Int) (w : World) (hk : Kept w) (h : 8 < n ∨ last < 0 ∨ 400 < last ∨ stop < 0 ∨ bytes < 0) :
    Calls Tryd.prog 4 #[.slice A n C, .int .i64 last, .int .i64 stop, .int .i64 bytes] w (AnsB true w) := by
  have HC := Lib.hid (alive11_true _ hk)
  clear hk
  have hq : (decide (8 < (n : Int)) = true ∧ decide (8 < n) = true) ∨ (decide (8 < (n : Int)) = false ∧ decide (8 < n) = false ∧ decide (last < 0) = true) ∨ (decide (8 < (n : Int)) = false ∧ decide (8 < n) = false ∧ decide (last < 0) = false ∧ decide (400 < last) = true)
      ∨ (decide (8 < (n : Int)) = false ∧ decide (8 < n) = false ∧ decide (last < 0) = false ∧ decide (400 < last) = false ∧ decide (stop < 0) = true) ∨ (decide (8 < (n : Int)) = false ∧ decide (8 < n) = false ∧ decide (last < 0) = false ∧ decide (400 < last) = false ∧ decide (stop < 0) = false ∧ decide (bytes < 0) = true) := by
    simp only [decide_eq_true_eq, decide_eq_false_iff_not]; omega
  clear h
  rcases hq with ⟨q1, q2⟩ | ⟨q1, q2, q3⟩ | ⟨q1, q2, q3, q4⟩ | ⟨q1, q2, q3, q4, q5⟩ | ⟨q1, q2, q3, q4, q5, q6⟩
  all_goals
    go_enter Tryd.func4, Tryd.ntmps4
    go_wp2_with fail
    refine HC.out.mono ?_
    rintro e w1 ⟨rfl, hb1⟩
    have HB1 := Lib.hid hb1
    clear hb1
    go_wp2
    go_ret
    exact ⟨rfl, HB1.out⟩
set_option maxRecDepth 100000 in
set_option maxHeartbeats 8000000 in
theorem keeps_main (A : Option Addr) (len C : Nat) (zs : Nat → Int) (last stop bytes : Int) (w : World) (hk : Kept w) (hr : RdI w A len zs) (hlen : len ≤ 8) (hl0 : 0 ≤ last) (hl1 : last ≤ 400) (hs : 0 ≤ stop) (hby : 0 ≤ bytes) :
    Calls Tryd.prog 4 #[.slice A len C, .int .i64 last, .int .i64 stop, .int .i64 bytes] w (AnsB true w) := by
  obtain ⟨la, rfl⟩ : ∃ la : Nat, last = (la : Int) := ⟨last.toNat, by omega⟩
  obtain ⟨st, rfl⟩ : ∃ st : Nat, stop = (st : Int) := ⟨stop.toNat, by omega⟩
  obtain ⟨bt, rfl⟩ : ∃ bt : Nat, bytes = (bt : Int) := ⟨bytes.toNat, by omega⟩
  have q1 : decide (8 < (len : Int)) = false := decide_eq_false (by omega)
  have q2 : decide (8 < len) = false := decide_eq_false (by omega)
  have q3 : decide ((la : Int) < 0) = false := decide_eq_false (by omega)
  have q4 : decide (400 < (la : Int)) = false := decide_eq_false (by omega)
  have q5 : decide ((st : Int) < 0) = false := decide_eq_false (by omega)
  have q6 : decide ((bt : Int) < 0) = false := decide_eq_false (by omega)
  have HK := Lib.hid hk
  have HR := Lib.hid hr
  clear hk hr
  go_enter Tryd.func4, Tryd.ntmps4
  go_wp2_with fail
  refine (alive11_true w HK.out).mono ?_
  rintro e w1 ⟨rfl, hb1⟩
  obtain ⟨w2, hw2⟩ : ∃ w2, w2 = (w1.alloc (tapeObj 7 64 none 0 0 false)).alloc (.cells #[.int .u8 68] 5 (1, 2)) := ⟨_, rfl⟩
  have kc := Go.Joins.run_convert_bytes_const_at (P := Tryd.prog) (w1.alloc (tapeObj 7 64 none 0 0 false)) 24 5 #[.int .u8 68] 1 1 (w1.heap.size + 1) (by simp) Tryd.underlying24 Tryd.underlying5
  unfold tapeObj at kc
  obtain ⟨hB2, hT2, hD2⟩ := two_blocks hw2
  have hrd : RdL w2 (some ⟨w1.heap.size + 1, 0, none⟩) [68] (fun _ => True) := fun _ => ⟨_, _, rfl, trivial, fun j hj => by
    have : j = 0 := by simp at hj; omega
    subst this
    rw [heap_cell hD2]; rfl⟩
  have HRD := Lib.hid hrd
  have HW2 := Lib.hid hw2
  unfold tapeObj at HW2
  have hbw := hb1.trans (hB2.mono hb1.size)
  obtain ⟨TB, hTB⟩ : ∃ TB, TB = w1.heap.size := ⟨_, rfl⟩
  rw [← hTB] at hT2
  have HT2 : Hid (Tp w TB none 0 0 [] [] w2) := Lib.hid ⟨hT2, TopB.nil _ _ _, hbw, by rw [hTB]; exact hb1.size⟩
  have HTB := Lib.hid hTB
  clear hb1 hw2 hB2 hT2 hD2 hrd hbw hTB
  go_wp2_with fail
  clear kc
  rw [← HW2.out]
  have hcall := refPut_own 1 7 0 (some ⟨w1.heap.size + 1, 0, none⟩) [68] 1 1 _ w2 rfl (fun h => by cases h) HRD.out
  unfold PutO at hcall
  rw [show Fm.err ⟨1, 7, 0, [68]⟩ = 0 from Fm.err_ok b0_ok, show Fm.put ⟨1, 7, 0, [68]⟩ = b0 from Fm.put_ok b0_ok] at hcall
  rw [← HTB.out]
  rw [← HTB.out] at hcall
  refine hcall.mono ?_
  clear hcall
  rintro e w3 ⟨A3, n3, C3, rfl, hO3, hb3⟩
  obtain ⟨w4, hw4⟩ : ∃ w4, w4 = w3.alloc (.cells #[.slice A3 n3 C3] 24) := ⟨_, rfl⟩
  have hb34 : Below w3.heap.size w3 w4 := by rw [hw4]; exact (Below.refl _ _).alloc (Nat.le_refl _) _
  have hk4 : w4.heap[w3.heap.size]? = some (.cells #[.slice A3 n3 C3] 24) := by rw [hw4]; exact Go.Deep.blk_alloc_new _ _
  have hb24 : Below w2.heap.size w2 w4 := hb3.trans (hb34.mono hb3.size)
  have hT4 := HT2.out.old hb24
  have hTlt : TB < w2.heap.size := heap_lt HT2.out.blk
  have hO4 : OwnL w4 w2.heap.size (.slice A3 n3 C3) b0 := hO3.of_block fun k e => hb34.block k (hO3.lt k e)
  obtain ⟨g2, c2, A5, C5, w5, e5, -, -, hr5, x5, y5, hT5, -⟩ := hT4.grow (TopB.one hk4 hO4 hb3.size) (fun i hi => absurd hi (by simp)) (by omega) (fun k hk => by omega) 1 (Nat.le_refl _) (by simp) (by simp) (by simp)
  injection e5 with e6 e7 e8
  injection e6 with e6
  injection e6 with e6
  subst e6 e8
  clear e7
  rw [Nat.zero_add] at hr5 hT5
  have HT5 : Hid (Tp w TB A5 1 C5 [.slice A3 n3 C3] (laid zs 0) (w5.setCell ⟨TB, 2, none⟩ (.slice A5 1 C5))) := Lib.hid hT5
  have z2 : w3.cell? ⟨TB, 2, none⟩ = some (.slice none 0 0) := by
    have := HT2.out.old hb3
    exact heap_cell this.blk
  rw [hw4] at hr5
  clear hw4 hTlt hb34 hk4 hb24 hT4 hO4 hT5 hO3 hb3 HW2 HT2 HRD
  go_wp2_with (at_builtin; refine Lib.wpList_append_run _ rfl _ _ _ _ rfl _ _ rfl rfl _ _ (hr5 _) ?_)
  generalize w5.setCell ⟨TB, 2, none⟩ (.slice A5 1 C5) = w6 at HT5 ⊢
  clear hr5 x5 y5 z2
  go_loopw [13] (fun vi wr => ∃ (i : Nat) (Av : Option Addr) (Nv Cv : Nat) (us : List Value), i ≤ len ∧ vi = .int .i64 (i : Int) ∧ Hid (Tp w TB Av Nv Cv us (laid zs i) wr)) (fun vi _ => len - (intOf vi).toNat)
  case atStart => exact ⟨0, _, _, _, _, Nat.zero_le _, rfl, HT5⟩
  case round =>
    obtain ⟨i, Av, Nv, Cv, us, hi, rfl, HT⟩ := hrel
    by_cases hlt : i < len
    · obtain ⟨bz, offz, rfl, hcz⟩ := (HR.out.old HT.out.bel).at hlt
      obtain ⟨m, hm⟩ : ∃ m, m = low7 zs i := ⟨_, rfl⟩
      have hz7 := (low7_eq zs i).1
      have hm7 := (low7_eq zs i).2
      rw [← hm] at hz7 hm7
      have hmk := fun y => run_make_row' (P := Tryd.prog) 24 5 (.int .u8 0) 1 Tryd.underlying24 infoByte' rfl .i64 .i64 m (by omega) (by omega) y
      have hNv : Nv = (laid zs i).length := HT.out.len
      have hR := laid_right zs (i := i) (by omega)
      rw [← hm, ← hNv] at hR
      have hus : us.length = Nv := by rw [HT.out.top.len, hNv]
      have hN60 : Nv ≤ 60 := by rw [hNv, laid_len zs (by omega)]; have := laid_room zs i; omega
      obtain ⟨wq, hwq⟩ : ∃ wq, wq = (wr.alloc (.cells (madeCells #[.int .u8 0] m) 5)).drew := ⟨_, rfl⟩
      have hbel : Below wr.heap.size wr wr.drew := (Below.refl _ _).drew
      have hbq : Below wr.heap.size wr wq := by rw [hwq]; exact ((Below.refl _ wr).alloc (Nat.le_refl _) _).drew
      have hzr : RdL wq (some ⟨wr.heap.size, 0, none⟩) (List.replicate m 0) (wr.heap.size ≤ ·) := by rw [hwq]; exact rd_zeros wr m
      have hw1 : IntKind.i64.wrap ((i : Int) + 1) = (i : Int) + 1 := by rw [IntKind.wrap_i64]; omega
      have hcall := refBlocks_any 7 (Nv : Int) [97] ((i : Int) + 1) (m : Int) 0 (m : Int) 1 0 false _ (List.replicate m 0) m m _ wq (by decide) (by simp) (Nat.le_refl _) (by unfold maxLen; omega) hzr (by omega)
      have hTq := HT.out.old hbq
      have hTlt : TB < wr.heap.size := heap_lt HT.out.blk
      have HC := Lib.hid hcall
      have HWQ := Lib.hid hwq
      have HTQ := Lib.hid hTq
      have HRT : Hid (Vo.Right 7 (Nv : Int) (Vo.hd [97] i m) (List.replicate m 0)) := Lib.hid hR
      have HM := Lib.hid hm
      have HNV := Lib.hid hNv
      have HUS := Lib.hid hus
      have c2 : wr.cell? ⟨TB, 2, none⟩ = some (.slice Av Nv Cv) := heap_cell HT.out.blk
      have HBQ := Lib.hid hbq
      have HX : Hid (∀ y, Below wr.heap.size wr y → y.cell? ⟨TB, 2, none⟩ = some (.slice Av Nv Cv) ∧ Below wr.heap.size wr y) := Lib.hid fun y hy => ⟨heap_cell (HT.out.old hy).blk, hy⟩
      have hx0 := HX.out _ hbel
      have hx1 := HX.out _ hbq
      rw [hwq] at hx1
      clear hcall hwq hTq hR hm hNv hus hzr hbq
      go_wp2_with fail
      go_region_held3 (fun y => y.cell? ⟨TB, 2, none⟩ = some (.slice Av Nv Cv) ∧ Below wr.heap.size wr y)
        (first
          | exact hx2
          | exact hx1
          | exact hx0)
        (first
          | (go_at_call 8; rw [← HWQ.out]; refine HC.out.mono ?_; rintro e w7 ⟨v7, us7, rfl, hT7, hb7⟩; have hx2 := HX.out w7 (HBQ.out.trans (hb7.mono HBQ.out.size))))
      have hR := HRT.out
      have hl7 : us7.length = Vo.data m + 2 := by
        have h1 := hT7.len
        have h2 := Vo.put_len hR
        rw [List.length_replicate] at h2
        exact h1.trans h2
      have hTqlt : TB < wq.heap.size := heap_lt HTQ.out.blk
      have hold : ∀ j (hj : j < us.length) k, us[j].ownBlock = some k → ¬ wq.heap.size ≤ k := fun j hj k e h => by
        have := (HTQ.out.top.rows j hj (by rw [← HTQ.out.top.len]; exact hj)).lt k e
        omega
      obtain ⟨g2, c8, A8, C8, y8, e8, -, -, hr8, x8, f8, hT8, -⟩ := (HTQ.out.old hb7).grow hT7 hold (by omega) (fun k hk => by omega) us7.length (Nat.le_refl _) (by omega) (by have := HUS.out; omega) (by rw [hl7]; unfold Vo.data; omega)
      rw [List.take_length, List.take_of_length_le (by rw [hT7.len]; exact Nat.le_refl _)] at hT8
      have HT8 : Hid (Tp w TB A8 (Nv + us7.length) C8 (us ++ us7) (laid zs (i + 1)) (y8.setCell ⟨TB, 2, none⟩ (.slice A8 (Nv + us7.length) C8))) := Lib.hid (by
        rw [laid_succ, ← HM.out, ← HNV.out]
        exact hT8)
      have z2 := hx2.1
      subst e8
      clear hR hl7 hTqlt hold hT8 hx2 hx0 hx1 hbel c2 hmk hw1 hz7 hcz hT7 hb7 HC
      go_wp2_with (at_builtin; refine Lib.wpList_append_run _ rfl _ _ _ _ rfl _ _ rfl rfl _ _ (hr8 _) ?_)
      go_roundw
      case rel => exact ⟨i + 1, A8, _, C8, us ++ us7, by omega, by go_num, HT8⟩
      case measure => simp [intOf]; omega
    · obtain rfl : i = len := by omega
      have hla : la ≤ 400 := by omega
      have hNv : Nv = (laid zs i).length := HT.out.len
      have hN60 : Nv ≤ 60 := by rw [hNv, laid_len zs (by omega)]; have := laid_room zs i; omega
      have hus : us.length = Nv := by rw [HT.out.top.len, hNv]
      have hR : Vo.Right 7 (Nv : Int) (Vo.hd [98] 0 la) (List.replicate la 0) := Vo.right_hd b_right (by decide) (by omega) (by omega) (by omega)
      have hmk := fun y => run_make_row' (P := Tryd.prog) 24 5 (.int .u8 0) 1 Tryd.underlying24 infoByte' rfl .i64 .i64 la (by omega) (by omega) y
      obtain ⟨wq, hwq⟩ : ∃ wq, wq = wr.alloc (.cells (madeCells #[.int .u8 0] la) 5) := ⟨_, rfl⟩
      have hbq : Below wr.heap.size wr wq := by rw [hwq]; exact (Below.refl _ wr).alloc (Nat.le_refl _) _
      have hzr : RdL wq (some ⟨wr.heap.size, 0, none⟩) (List.replicate la 0) (wr.heap.size ≤ ·) := by rw [hwq]; exact rd_zeros wr la
      have hcall := refBlocks_any 7 (Nv : Int) [98] 1 (la : Int) 0 (la : Int) 1 0 false _ (List.replicate la 0) la la _ wq (by decide) (by simp) (Nat.le_refl _) (by unfold maxLen; omega) hzr (by omega)
      have HTQ := Lib.hid (HT.out.old hbq)
      have HC := Lib.hid hcall
      have HWQ := Lib.hid hwq
      have HRT := Lib.hid hR
      have HNV := Lib.hid hNv
      have HUS := Lib.hid hus
      have c2 : wr.cell? ⟨TB, 2, none⟩ = some (.slice Av Nv Cv) := heap_cell HT.out.blk
      clear hcall hwq hbq hzr hR hNv hus
      go_wp2_with fail
      rw [← HWQ.out]
      refine HC.out.mono ?_
      clear HC hmk c2 HT
      rintro e w7 ⟨v7, us7, rfl, hT7, hb7⟩
      obtain ⟨X, hX⟩ : ∃ X, X = Vo.put 7 (Nv : Int) (Vo.hd [98] 0 la) (List.replicate la 0) := ⟨_, rfl⟩
      have hT7' : TopB w7 wq.heap.size (fun x => wq.heap.size ≤ x) v7 us7 X := by rw [hX]; exact hT7
      obtain ⟨Q, hQ⟩ : ∃ Q, Q = Vo.data la + 2 := ⟨_, rfl⟩
      have hXl : X.length = Q := by
        have h2 := Vo.put_len HRT.out
        rw [List.length_replicate] at h2
        rw [hX, hQ]; exact h2
      have hl7 : us7.length = Q := by rw [hT7'.len, hXl]
      have hQ2 : 2 ≤ Q ∧ Q ≤ 60 := by rw [hQ]; unfold Vo.data; omega
      have hTqlt : TB < wq.heap.size := heap_lt HTQ.out.blk
      have hold : ∀ j (hj : j < us.length) k, us[j].ownBlock = some k → ¬ wq.heap.size ≤ k := fun j hj k e h => by
        have := (HTQ.out.top.rows j hj (by rw [← HTQ.out.top.len]; exact hj)).lt k e
        omega
      obtain ⟨kk, hkk⟩ : ∃ kk, kk = st % Q := ⟨_, rfl⟩
      have hkQ : kk < Q := by rw [hkk]; exact Nat.mod_lt _ (by omega)
      have hbd : Below w7.heap.size w7 w7.drew := (Below.refl _ _).drew
      have hTd := (HTQ.out.old hb7).old hbd
      have h7d := hT7'.old hbd
      obtain ⟨g2, c8, A8, C8, y8, e8, hc8, hcell8, hr8, x8, f8, hT8, hkeep8⟩ := hTd.grow h7d hold (by omega) (fun k hk => by omega) kk (by omega) (by omega) (by have := HUS.out; omega) (by omega)
      subst e8
      rw [hl7] at hc8
      have z2 : w7.cell? ⟨TB, 2, none⟩ = some (.slice Av Nv Cv) := heap_cell (HTQ.out.old hb7).blk
      have z2d : w7.drew.cell? ⟨TB, 2, none⟩ = some (.slice Av Nv Cv) := z2
      have hrem : Int.tmod (st : Int) (Q : Int) = (kk : Int) := by rw [hkk]; rfl
      have hq0 : ((Q : Int) == 0) = false := by simp; omega
      rw [hl7]
      have k1 : kk ≤ c8 := by omega
      have k2 : (kk : Int) ≤ (c8 : Int) := by omega
      have k3 : (0 : Int) ≤ (kk : Int) := by omega
      have HKK := Lib.hid hkk
      have HT8 := Lib.hid hT8
      have HK8 := Lib.hid hkeep8
      have HCE := Lib.hid hcell8
      have z7b : w7.drew.heap[TB]? = some (tapeObj 7 64 Av Nv Cv false) := (HTQ.out.old hb7).blk
      have H7D := Lib.hid h7d
      have HXL := Lib.hid hXl
      have HX := Lib.hid hX
      have HQ := Lib.hid hQ
      have HL7 := Lib.hid hl7
      clear hkk hT8 hkeep8 hcell8 h7d hXl hX hQ hl7 hTd hT7 hT7' hb7
      go_wp2_with fail
      go_cut [] (fun wx => Hid (wx = y8.setCell ⟨TB, 2, none⟩ (.slice A8 (Nv + kk) C8)))
      case first =>
        go_region_law (first
          | (refine step_append_eq (by rfl) _ _ _ _ (by rfl) _ _ _ _ hr8 (by rfl) (by rfl) ?_))
        all_goals
          go_wp2
          go_meet
          exact Lib.hid rfl
      case rest =>
      obtain ⟨w8, hw8⟩ : ∃ w8, w8 = y8.setCell ⟨TB, 2, none⟩ (.slice A8 (Nv + kk) C8) := ⟨_, rfl⟩
      have hwc := hcut.out
      rw [← hw8] at hwc HT8 HK8
      subst hwc
      clear hw8 hr8 x8 f8 z2 z2d hrem hq0 hbd hcut
      obtain ⟨x, hx⟩ : ∃ x, x = X[kk]'(by rw [HXL.out]; exact hkQ) := ⟨_, rfl⟩
      have hxk : X[kk]? = some x := by rw [List.getElem?_eq_getElem (by rw [HXL.out]; exact hkQ), hx]
      have hxm : x ∈ X := List.mem_of_getElem? hxk
      have hx94 : x.length ≤ 94 := by rw [HX.out] at hxm; exact Vo.put_le hxm
      have hx15 : 15 ≤ x.length := by rw [HX.out] at hxm; exact Vo.put_pos hxm
      have hk7 : kk < us7.length := by rw [HL7.out]; exact hkQ
      have hrow := H7D.out.rows kk hk7 (by rw [HXL.out]; exact hkQ)
      rw [← hx] at hrow
      obtain ⟨Ak, Ck, euk, hCk, -, -, hrk⟩ := hrow.rd
      obtain ⟨bk, ok, rfl, -, -⟩ := hrk (by omega)
      have hTd7 : w7.drew.heap[TB]? = some (tapeObj 7 64 Av Nv Cv false) := z7b
      have hgTB : ∀ (k : Nat) (c : Array Value) (t : TypeId), t ≠ 38 → w7.drew.heap[k]? = some (.cells c t (0, 0)) → k ≠ TB := fun k c t hty hk' e => by
        subst e
        rw [hTd7] at hk'
        injection hk' with hk'
        injection hk' with _ e2
        exact hty e2.symm
      have hown2 : ∀ k, (Value.slice Av Nv Cv).ownBlock = some k → k < wq.heap.size := fun k e => (World.ownsRow.lt HTQ.out.top.top k e).2
      obtain ⟨cg, hcg⟩ := own_blk H7D.out.top g2 rfl
      have hg2lo : wq.heap.size ≤ g2 := (World.ownsRow.lt H7D.out.top g2 rfl).1
      have hcgc : wc.heap[g2]? = some (.cells cg 24 (0, 0)) := HK8.out g2 _ (hgTB _ _ _ (by decide) hcg) (fun e => by have := hown2 g2 e; omega) hcg
      have hck : wc.cell? ⟨g2, kk, none⟩ = some (.slice (some ⟨bk, ok, none⟩) x.length Ck) := by
        have h1 := HCE.out kk (.slice (some ⟨bk, ok, none⟩) x.length Ck) (by rw [List.getElem?_eq_getElem (by rw [HL7.out]; exact hkQ), euk])
        rw [heap_cell hcg] at h1
        rw [heap_cell hcgc]; exact h1
      have hrow8 : OwnL wc wq.heap.size us7[kk] x := hrow.of_block fun k e => by
        obtain ⟨c, hc⟩ := hrow.block k e
        have hlo := hrow.lo k e
        rw [HK8.out k _ (hgTB _ _ _ (by decide) hc) (fun e => by have := hown2 k e; omega) hc, hc]
      obtain ⟨S, hS⟩ : ∃ S, S = x.length := ⟨_, rfl⟩
      rw [← hS] at hck hCk euk
      obtain ⟨nn, hnn⟩ : ∃ nn, nn = bt % S := ⟨_, rfl⟩
      have hnS : nn < S := by rw [hnn]; exact Nat.mod_lt _ (by omega)
      have hrem2 : Int.tmod (bt : Int) (S : Int) = (nn : Int) := by rw [hnn]; rfl
      have hs0 : ((S : Int) == 0) = false := by simp; omega
      have HNV2 : Hid (Nv = 1 + Vo.room (sizes zs i)) := Lib.hid (by rw [HNV.out]; exact laid_len zs (by omega))
      have hcut : ∀ x', (Vo.put 7 ((1 + Vo.room (sizes zs i) : Nat) : Int) (Vo.hd [98] 0 la) (List.replicate la 0))[kk]? = some x' → nn < x'.length := fun x' hx' => by
        rw [← HNV2.out, ← HX.out, hxk] at hx'
        cases hx'
        omega
      have HROW := Lib.hid hrow8
      have HEU := Lib.hid euk
      have HXK := Lib.hid hxk
      have HS := Lib.hid hS
      have HCUT := Lib.hid hcut
      have hTf := HT8.out
      have HHTB := Lib.hid hgTB
      clear hx hxm hrow euk hrk hTd7 hcg hcgc hrow8 hxk hS hnn hcut hown2 hg2lo hgTB
      by_cases hc : 0 < nn ∧ kk + 1 < Q
      · have p1 : decide (0 < (nn : Int)) = true := decide_eq_true (by omega)
        have p2 : decide (0 < nn) = true := decide_eq_true hc.1
        have p3 : decide ((kk : Int) < (Q : Int) - 1) = true := decide_eq_true (by omega)
        obtain ⟨x9, hx9⟩ : ∃ x9, x9 = (wc.alloc (.cells #[.slice (some ⟨bk, ok, none⟩) nn Ck] 24)).drew := ⟨_, rfl⟩
        have hb9 : Below wc.heap.size wc x9 := by rw [hx9]; exact ((Below.refl _ wc).alloc (Nat.le_refl _) _).drew
        have hT9 := hTf.old hb9
        have hnew : ∀ j u, [Value.slice (some ⟨bk, ok, none⟩) nn Ck][j]? = some u → x9.cell? ((⟨wc.heap.size, 0, none⟩ : Addr).add j) = some u := fun j u hu => by
          have := newCells wc [Value.slice (some ⟨bk, ok, none⟩) nn Ck] 24 j u hu
          rw [hx9]; exact this
        have hul : (us ++ us7.take kk).length = Nv + kk := by rw [List.length_append, List.length_take, HUS.out, HL7.out]; omega
        obtain ⟨v9, y9, hr9, ho9, hg9⟩ := apR_run x9 (TB + 1) (.slice A8 (Nv + kk) C8) (us ++ us7.take kk) hT9.top.top (by rw [hul]; omega) ⟨wc.heap.size, 0, none⟩ 1 1 [.slice (some ⟨bk, ok, none⟩) nn Ck] rfl (by decide) hnew (by simp [Value.oneCell']) (heap_lt hT9.blk)
        have hrow9 : OwnL x9 wq.heap.size us7[kk] x := HROW.out.of_block fun k e => hb9.block k (HROW.out.lt k e)
        obtain ⟨g9, D9, e9, hD9, hrd9⟩ := hT9.top.more hrow9 ⟨S, Ck, HEU.out⟩ (by rw [← HS.out]; omega) (by omega) (fun h => by cases h) ho9 hg9
        obtain ⟨nf, hnf'⟩ : ∃ nf, nf = (laid zs i ++ X.take kk).length + 1 := ⟨_, rfl⟩
        rw [← hnf'] at e9
        have hlen9 : (laid zs i ++ X.take kk).length = Nv + kk := hTf.len.symm
        subst e9
        have hne9 : some TB ≠ (Value.slice A8 (Nv + kk) C8).ownBlock := fun e => by have := (World.ownsRow.lt hT9.top.top TB e.symm).1; omega
        have hTB9 : y9.heap[TB]? = some (tapeObj 7 64 A8 (Nv + kk) C8 false) := (hg9.block TB (heap_lt hT9.blk) hne9).trans hT9.blk
        have z9 : y9.cell? ⟨TB, 2, none⟩ = some (.slice A8 (Nv + kk) C8) := heap_cell hTB9
        have f9 : y9.frozen? ⟨TB, 2, none⟩ = false := heap_frozen hTB9
        have z8 : wc.cell? ⟨TB, 2, none⟩ = some (.slice A8 (Nv + kk) C8) := heap_cell hTf.blk
        have z8d : wc.drew.cell? ⟨TB, 2, none⟩ = some (.slice A8 (Nv + kk) C8) := z8
        have z8x : ((wc.alloc (.cells #[.slice (some ⟨bk, ok, none⟩) nn Ck] 24)).drew).cell? ⟨TB, 2, none⟩ = some (.slice A8 (Nv + kk) C8) := by rw [← hx9]; exact heap_cell hT9.blk
        have hckd : wc.drew.cell? ⟨g2, kk, none⟩ = some (.slice (some ⟨bk, ok, none⟩) S Ck) := hck
        have hckx : ((wc.alloc (.cells #[.slice (some ⟨bk, ok, none⟩) nn Ck] 24)).drew).cell? ⟨g2, kk, none⟩ = some (.slice (some ⟨bk, ok, none⟩) S Ck) := by rw [← hx9]; exact (hb9.cell (World.block_lt_of_cell? _ _ hck)).trans hck
        have m1 : nn ≤ Ck := by omega
        have m2 : (nn : Int) ≤ (Ck : Int) := by omega
        have m3 : (0 : Int) ≤ (nn : Int) := by omega
        have m4 : kk < Q := hkQ
        have m5 : (kk : Int) < (Q : Int) := by omega
        have hb9w : Below w.heap.size w y9 := by
          have h1 := hTf.bel.trans (hb9.mono hTf.bel.size)
          exact h1.grown hg9 h1.size fun k e => by have := (World.ownsRow.lt hT9.top.top k e).1; have := hTf.lo; omega
        have hlo9 := hTf.lo
        have HRD9 := Lib.hid hrd9
        have HTB9 := Lib.hid hTB9
        have HB9 := Lib.hid hb9w
        have HNF := Lib.hid hnf'
        have HLEN9 := Lib.hid hlen9
        rw [hx9] at hr9
        clear hx9 hb9 hT9 hnew hul ho9 hg9 hrow9 hrd9 hTB9 hb9w hTf hnf' hlen9 hD9 hne9
        go_wp2_with fail
        go_cut [] (fun wx => Hid (wx = y9.setCell ⟨TB, 2, none⟩ (.slice (some ⟨g9, 0, none⟩) nf D9)))
        case first =>
          go_region_law (first
            | (refine step_append_eq (by rfl) _ _ _ _ (by rfl) _ _ _ _ hr9 (by rfl) (by rfl) ?_))
          all_goals
            go_wp2
            go_meet
            exact Lib.hid rfl
        case rest =>
        obtain ⟨wf, hwf⟩ : ∃ wf, wf = y9.setCell ⟨TB, 2, none⟩ (.slice (some ⟨g9, 0, none⟩) nf D9) := ⟨_, rfl⟩
        have hwc := hcut.out
        rw [← hwf] at hwc
        rw [hwc]
        clear hcut hwc hr9 z9 f9 z8 z8d z8x hckd hckx hck m1 m2 m3 m4 m5 p1 p2 p3 hrem2 hs0
        obtain ⟨BS, hBS⟩ : ∃ BS, BS = laid zs i ++ X.take kk ++ [x.take nn] := ⟨_, rfl⟩
        have HBS : Hid (BS = laid zs i ++ Vo.tail 7 Nv (Vo.hd [98] 0 la) (List.replicate la 0) kk nn) := Lib.hid (by
          rw [hBS]
          unfold Vo.tail
          rw [List.length_replicate, ← HX.out, ← HQ.out, if_pos hc, HXK.out, List.append_assoc])
        have hnf : nf = BS.length := by rw [hBS, List.length_append, HNF.out]; rfl
        have hnfle : nf ≤ 1000000 := by have h1 := HNF.out; have h2 := HLEN9.out; omega
        have hkf : Kp (· = TB) y9 wf := by rw [hwf]; exact Kp.store _ _ _ _
        have hrf : RdB wf (some ⟨g9, 0, none⟩) BS (fun k => ∃ c t, (t = 5 ∨ t = 24) ∧ y9.heap[k]? = some (.cells c t (0, 0))) := by
          rw [hBS]
          refine HRD9.out.kp hkf fun k hk e => ?_
          obtain ⟨c, t, ht, hk'⟩ := hk
          subst e
          rw [HTB9.out] at hk'
          injection hk' with hk'
          injection hk' with _ e2
          rcases ht with rfl | rfl
          · exact absurd e2 (by decide)
          · exact absurd e2 (by decide)
        have hlf : ∀ s ∈ BS, s.length ≤ 1000000 := fun s hs => by
          rw [hBS] at hs
          rcases List.mem_append.1 hs with h | h
          · rcases List.mem_append.1 h with h | h
            · have := laid_le zs i s h; omega
            · have := List.mem_of_mem_take h
              rw [HX.out] at this
              have := Vo.put_le this
              omega
          · rw [List.mem_singleton.1 h, List.length_take]; omega
        have hbf : Below w.heap.size w wf := HB9.out.trans (hkf.below HB9.out.size fun k e => by omega)
        have htf : wf.heap[TB]? = some (tapeObj 7 64 (some ⟨g9, 0, none⟩) nf D9 false) := by rw [hwf]; exact heap_set HTB9.out _
        have hcut := HCUT.out
        obtain ⟨Af, hAf⟩ : ∃ Af : Option Addr, Af = some ⟨g9, 0, none⟩ := ⟨_, rfl⟩
        rw [← hAf] at hrf htf
        obtain ⟨Cf, hCf⟩ : ∃ Cf, Cf = D9 := ⟨_, rfl⟩
        subst hCf
        clear hAf hBS hwf hkf
        have HBL := Lib.hid (laid_len zs (i := i) (by omega))
        have hfin : (Vo.parts ⟨7, BS, false⟩).length = i ∧ Vo.keep ⟨7, BS, false⟩ = Nv := by
          have hk2 := Vo.keeps (p := [97]) (q := [98]) (lab := 7) (l0 := [68]) a_right (by decide) (by decide) (fun n hn => by have := sizes_le zs i n hn; omega) (by rw [sizes_len]; omega) (by have := laid_room zs i; omega) b_right (show la ≤ 4000 by omega) (k := kk) (n := nn) (by rw [← HQ.out]; exact hkQ) hcut
          rw [← HNV2.out] at hk2
          have hBS' : BS = Vo.lay [97] 7 [Fm.blk (Vo.first 7 [68])] 0 (sizes zs i) ++ Vo.tail 7 Nv (Vo.hd [98] 0 la) (List.replicate la 0) kk nn := HBS.out
          rw [hBS', hk2.1, hk2.2, Vo.places_len, Vo.heads_len, sizes_len]
          exact ⟨rfl, rfl⟩
        have hkc := keep_any 7 64 BS Af nf Cf _ false wf hnf hrf hnfle hlf (HK.out.old hbf)
        rw [hfin.2] at hkc
        have hpc : ∀ y, Below wf.heap.size wf y → Calls Tryd.prog 15 #[.agg #[.int .i64 7, .int .i64 64, .slice Af nf Cf, .bool false]] y fun e w' => ∃ A2 C2, e = .returned (.slice A2 i C2) ∧ Below y.heap.size y w' := fun y hy => by
          refine (parts_any 7 64 BS Af nf Cf _ false y hnf (hrf.old hy) hnfle hlf (HK.out.old (hbf.trans (hy.mono hbf.size)))).mono ?_
          rintro e w' ⟨A2, C2, rfl, -, -, -, -, hb⟩
          exact ⟨A2, C2, by rw [hfin.1], hb⟩
        have HKC := Lib.hid hkc
        have HPC := Lib.hid hpc
        have HBF := Lib.hid hbf
        have HTF := Lib.hid htf
        obtain ⟨t0, t1, t2, t3⟩ := tape4 htf
        clear hkc hpc hfin hrf hlf hnf hbf htf
        go_wp2_with fail
        refine HKC.out.mono ?_
        rintro e wg ⟨rfl, hbg⟩
        clear t0 t1 t2 t3
        obtain ⟨t0, t1, t2, t3⟩ := tape4 (below_tape hbg HTF.out)
        have hcall2 := HPC.out wg hbg
        have HBG := Lib.hid (HBF.out.trans (hbg.mono HBF.out.size))
        clear hbg
        go_wp2_with fail
        refine hcall2.mono ?_
        rintro e wh ⟨A2, C2, rfl, hbh⟩
        have HBH := Lib.hid (HBG.out.trans (hbh.mono HBG.out.size))
        clear hbh
        go_wp2
        go_ret
        exact ⟨rfl, HBH.out⟩
      · have hcond : (decide (0 < (nn : Int)) = false ∧ decide (0 < nn) = false) ∨ (decide (0 < (nn : Int)) = true ∧ decide (0 < nn) = true ∧ decide ((kk : Int) < (Q : Int) - 1) = false) := by
          by_cases h : 0 < nn
          · exact .inr ⟨decide_eq_true (by omega), decide_eq_true h, decide_eq_false (by omega)⟩
          · exact .inl ⟨decide_eq_false (by omega), decide_eq_false h⟩
        obtain ⟨BS, hBS⟩ : ∃ BS, BS = laid zs i ++ X.take kk := ⟨_, rfl⟩
        have HBS : Hid (BS = laid zs i ++ Vo.tail 7 Nv (Vo.hd [98] 0 la) (List.replicate la 0) kk nn) := Lib.hid (by
          rw [hBS]
          unfold Vo.tail
          rw [List.length_replicate, ← HX.out, ← HQ.out, if_neg hc, List.append_nil])
        obtain ⟨nf, hnf'⟩ : ∃ nf, nf = Nv + kk := ⟨_, rfl⟩
        rw [← hnf'] at hTf
        have hnfle : nf ≤ 1000000 := by omega
        have hnf : nf = BS.length := by rw [hBS]; exact hTf.len
        have hrf : RdB wc A8 BS (TB + 1 ≤ ·) := by rw [hBS]; exact hTf.top.rdB
        have hlf : ∀ s ∈ BS, s.length ≤ 1000000 := fun s hs => by
          rw [hBS] at hs
          rcases List.mem_append.1 hs with h | h
          · have := laid_le zs i s h; omega
          · have := List.mem_of_mem_take h
            rw [HX.out] at this
            have := Vo.put_le this
            omega
        have hbf := hTf.bel
        have htf := hTf.blk
        have hcut := HCUT.out
        obtain ⟨Af, hAf⟩ : ∃ Af, Af = A8 := ⟨_, rfl⟩
        subst hAf
        obtain ⟨Cf, hCf⟩ : ∃ Cf, Cf = C8 := ⟨_, rfl⟩
        subst hCf
        obtain ⟨wf, hwf⟩ : ∃ wf, wf = wc := ⟨_, rfl⟩
        subst hwf
        clear hnf' hTf hBS
        rcases hcond with ⟨p1, p2⟩ | ⟨p1, p2, p3⟩
        all_goals
          have HBL := Lib.hid (laid_len zs (i := i) (by omega))
          have hfin : (Vo.parts ⟨7, BS, false⟩).length = i ∧ Vo.keep ⟨7, BS, false⟩ = Nv := by
            have hk2 := Vo.keeps (p := [97]) (q := [98]) (lab := 7) (l0 := [68]) a_right (by decide) (by decide) (fun n hn => by have := sizes_le zs i n hn; omega) (by rw [sizes_len]; omega) (by have := laid_room zs i; omega) b_right (show la ≤ 4000 by omega) (k := kk) (n := nn) (by rw [← HQ.out]; exact hkQ) hcut
            rw [← HNV2.out] at hk2
            have hBS' : BS = Vo.lay [97] 7 [Fm.blk (Vo.first 7 [68])] 0 (sizes zs i) ++ Vo.tail 7 Nv (Vo.hd [98] 0 la) (List.replicate la 0) kk nn := HBS.out
            rw [hBS', hk2.1, hk2.2, Vo.places_len, Vo.heads_len, sizes_len]
            exact ⟨rfl, rfl⟩
          have hkc := keep_any 7 64 BS Af nf Cf _ false wf hnf hrf hnfle hlf (HK.out.old hbf)
          rw [hfin.2] at hkc
          have hpc : ∀ y, Below wf.heap.size wf y → Calls Tryd.prog 15 #[.agg #[.int .i64 7, .int .i64 64, .slice Af nf Cf, .bool false]] y fun e w' => ∃ A2 C2, e = .returned (.slice A2 i C2) ∧ Below y.heap.size y w' := fun y hy => by
            refine (parts_any 7 64 BS Af nf Cf _ false y hnf (hrf.old hy) hnfle hlf (HK.out.old (hbf.trans (hy.mono hbf.size)))).mono ?_
            rintro e w' ⟨A2, C2, rfl, -, -, -, -, hb⟩
            exact ⟨A2, C2, by rw [hfin.1], hb⟩
          have HKC := Lib.hid hkc
          have HPC := Lib.hid hpc
          have HBF := Lib.hid hbf
          have HTF := Lib.hid htf
          obtain ⟨t0, t1, t2, t3⟩ := tape4 htf
          clear hkc hpc hfin hrf hlf hnf hbf htf
          go_wp2_with fail
          refine HKC.out.mono ?_
          rintro e wg ⟨rfl, hbg⟩
          clear t0 t1 t2 t3
          obtain ⟨t0, t1, t2, t3⟩ := tape4 (below_tape hbg HTF.out)
          have hcall2 := HPC.out wg hbg
          have HBG := Lib.hid (HBF.out.trans (hbg.mono HBF.out.size))
          clear hbg
          go_wp2_with fail
          refine hcall2.mono ?_
          rintro e wh ⟨A2, C2, rfl, hbh⟩
          have HBH := Lib.hid (HBG.out.trans (hbh.mono HBG.out.size))
          clear hbh
          go_wp2
          go_ret
          exact ⟨rfl, HBH.out⟩
end Go.Proofs.YtbcncmampabmfaaDoor
