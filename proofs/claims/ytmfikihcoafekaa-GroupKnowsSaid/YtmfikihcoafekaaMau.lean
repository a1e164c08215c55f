/- What sealOf of package group answers: the seal of a group, of its first member. A row of tapes, as it is answered. No function of the program. What Row of package stripe answers. Words for Parity, whichever: a row without bytes, and what is kept. No function of the program. What the small function alike of package erasure answers. -/
import Derived.Test.YtmfikihcoafekaaMat
import Derived.Test.YtmfikihcoafekaaMap
import Derived.Test.YtmfikihcoafekaaMal
import Derived.Test.YtmfikihcoafekaaMas
import Derived.Test.YtmfikihcoafekaaMah
import Derived.Test.YtmfikihcoafekaaMai
namespace Go.Proofs.Ytmfikihcoafekaa
open Go.RowKit
open Pt (Tx)

/-- a seal is answered, its labels in new memory -/
def SealNew (s : Rc.S) (w : World) (e : Ending) (w' : World) : Prop :=
  ∃ x : Sx, e = .returned (.agg #[.int .i64 x.s.number, .int .i64 x.s.index, .int .i64 x.s.data, .int .i64 x.s.parity, .slice x.A x.s.labels.length x.C]) ∧ x.s = s ∧ x.Ok w' (w.heap.size ≤ ·) ∧ Below w.heap.size w w'
def tvLabels (l : List Tv) : List Int := l.map Tv.label
theorem tvLabels_take {l : List Tv} {i : Nat} (h : i < l.length) : tvLabels (l.take (i + 1)) = tvLabels (l.take i) ++ [l[i].label] := by
  unfold tvLabels
  rw [List.take_succ_eq_append_getElem h, List.map_append]; rfl
/-- what is kept while the labels are gathered -/
structure SealI (w1 : World) (S : Nat) (number d p : Int) (v : Value) (l : List Int) (wr : World) : Prop where
  hd : wr.heap[S + 1]? = some (.cells #[.int .i64 number, .int .i64 0, .int .i64 d, .int .i64 p, v] 41 (0, 0))
  own : OwnZ wr w1.heap.size v l
  kp : Kp (fun k => k = S + 1 ∨ w1.heap.size ≤ k) w1 wr
namespace SealI
variable {w1 wr w2 w3 : World} {S : Nat} {number d p : Int} {v v' : Value} {l l' : List Int}
theorem old (h : SealI w1 S number d p v l wr) (hb : Below wr.heap.size wr w2) : SealI w1 S number d p v l w2 :=
  ⟨(hb.block _ (heap_lt h.hd)).trans h.hd, h.own.of_block fun k e => hb.block k (h.own.lt k e), h.kp.trans (Kp.of_below hb)⟩
/-- some are appended, and the row is stored -/
theorem push (h : SealI w1 S number d p v l w2) (hS : S + 1 < w1.heap.size) (hg : w2.grownBy w3 v.ownBlock) (ho : OwnZ w3 w1.heap.size v' l') : SealI w1 S number d p v' l' (w3.setCell ⟨S + 1, 4, none⟩ v') := by
  have h1 : w3.heap[S + 1]? = w2.heap[S + 1]? := hg.block _ (heap_lt h.hd) fun e => by have := h.own.lo _ e.symm; omega
  refine ⟨heap_set (h1.trans h.hd) v', ho.of_block fun k e => ?_, ?_⟩
  · have := ho.lo k e
    exact Below.heap_setCell _ _ _ _ (fun e' => by have e'' : S + 1 = k := e'.symm; omega)
  · exact (h.kp.grown hg fun k e => .inr (h.own.lo k e)).setCell (p := ⟨S + 1, 4, none⟩) (.inl rfl) v'
end SealI
set_option maxRecDepth 100000 in
set_option maxHeartbeats 4000000 in
theorem sealOf_any (number : Int) (A1 : Option Addr) (n1 C1 : Nat) (A2 : Option Addr) (n2 C2 : Nat) (t1 t2 : List Tv) (G : Nat → Prop) (w : World) (hn1 : n1 = t1.length) (hn2 : n2 = t2.length) (hm1 : n1 ≤ 1000) (hm2 : n2 ≤ 1000)
    (hA1 : A1 = none → n1 = 0 ∧ C1 = 0) (hA2 : A2 = none → n2 = 0 ∧ C2 = 0) (hr1 : encT.Rd w A1 t1 G) (hr2 : encT.Rd w A2 t2 G) :
    Calls Try.prog 12 #[.slice A1 n1 C1, .slice A2 n2 C2, .int .i64 number] w (SealNew ⟨number, 0, (n1 : Int), (n2 : Int), tvLabels (t1 ++ t2)⟩ w) := by
  obtain ⟨wb, hwb⟩ : ∃ wb, wb = (w.alloc (sealObj 0 0 0 0 none 0 0)).alloc (sealObj number 0 (n1 : Int) (n2 : Int) none 0 0) := ⟨_, rfl⟩
  have hz : (w.alloc (sealObj 0 0 0 0 none 0 0)).heap[w.heap.size]? = some (sealObj 0 0 0 0 none 0 0) := Go.Deep.blk_alloc_new _ _
  have hbz : Below w.heap.size w (w.alloc (sealObj 0 0 0 0 none 0 0)) := (Below.refl _ _).alloc (Nat.le_refl _) _
  have hB : Below w.heap.size w wb := by rw [hwb]; exact hbz.alloc hbz.size _
  have hZ : wb.heap[w.heap.size]? = some (sealObj 0 0 0 0 none 0 0) := by rw [hwb]; exact (Below.heap_alloc _ _ _ (heap_lt hz)).trans hz
  have hD : wb.heap[w.heap.size + 1]? = some (sealObj number 0 (n1 : Int) (n2 : Int) none 0 0) := by
    have h := Go.Deep.blk_alloc_new (w.alloc (sealObj 0 0 0 0 none 0 0)) (sealObj number 0 (n1 : Int) (n2 : Int) none 0 0)
    rw [show (w.alloc (sealObj 0 0 0 0 none 0 0)).heap.size = w.heap.size + 1 by simp] at h
    rw [hwb]; exact h
  obtain ⟨wc, hwc⟩ : ∃ wc, wc = wb.alloc (.cells #[.slice A1 n1 C1, .slice A2 n2 C2] 29) := ⟨_, rfl⟩
  have hbc : Below wb.heap.size wb wc := by rw [hwc]; exact (Below.refl _ _).alloc (Nat.le_refl _) _
  have hR : wc.heap[wb.heap.size]? = some (.cells #[.slice A1 n1 C1, .slice A2 n2 C2] 29) := by rw [hwc]; exact Go.Deep.blk_alloc_new _ _
  have hsz : wb.heap.size = w.heap.size + 2 := by rw [hwb]; simp
  have hbw : Below w.heap.size w wc := hB.trans (hbc.mono hB.size)
  have hcall := concat_any wb.heap.size 0 A1 n1 C1 A2 n2 C2 t1 t2 G wc (heap_cell hR) (heap_cell hR) hn1 hn2 hm1 hm2 hA1 hA2 (hr1.old hbw) (hr2.old hbw)
  rw [hsz] at hcall
  have HCALL := Lib.hid hcall
  have HWC : Hid (wc = ((w.alloc (.cells #[.int .i64 0, .int .i64 0, .int .i64 0, .int .i64 0, .slice none 0 0] 41)).alloc (.cells #[.int .i64 number, .int .i64 0, .int .i64 (n1 : Int), .int .i64 (n2 : Int), .slice none 0 0] 41)).alloc (.cells #[.slice A1 n1 C1, .slice A2 n2 C2] 29)) := Lib.hid (by rw [hwc, hwb]; rfl)
  have HZ := Lib.hid (below_obj hbc hZ)
  have HD := Lib.hid (below_obj hbc hD)
  have HBW := Lib.hid hbw
  have HSZ : Hid (w.heap.size + 2 < wc.heap.size) := Lib.hid (by have := heap_lt hR; omega)
  have HLEN : Hid ((t1 ++ t2).length = n1 + n2) := Lib.hid (by rw [List.length_append, hn1, hn2])
  clear hr1 hr2 hn1 hn2 hwb hwc hz hbz hB hZ hD hbc hR hsz hbw hcall hA1 hA2
  go_enter Try.func12, Try.ntmps12
  go_wp2_with fail
  rw [← HWC.out]
  refine HCALL.out.mono ?_
  rintro e w1 ⟨v1, rfl, ho1, hb1⟩
  obtain ⟨ts, hts⟩ : ∃ ts, ts = t1 ++ t2 := ⟨_, rfl⟩
  rw [← hts] at ho1 HLEN
  have HTS := Lib.hid hts
  obtain ⟨A, C, rfl, -, -, -, hrd⟩ := ho1.rd
  have HRD : Hid (encT.Rd w1 A ts (fun k => ¬ (k = w.heap.size + 1 ∨ w1.heap.size ≤ k))) := Lib.hid (hrd.mono fun k hk => by
    have h1 := (ho1.lt k hk.2).2
    have h2 := HSZ.out
    have h3 : wc.heap.size ≤ k := hk.1
    omega)
  have HI0 : Hid (SealI w1 w.heap.size number (n1 : Int) (n2 : Int) (.slice none 0 0) (tvLabels (ts.take 0)) w1) := Lib.hid ⟨below_obj hb1 HD.out, OwnZ.nil _ _, Kp.refl _ _⟩
  have HB1 := Lib.hid (HBW.out.trans (hb1.mono HBW.out.size))
  have HS1 : Hid (w.heap.size + 2 < w1.heap.size) := Lib.hid (Nat.lt_of_lt_of_le HSZ.out hb1.size)
  have HZ1 := Lib.hid (below_obj hb1 HZ.out)
  obtain ⟨n, hn⟩ : ∃ n, n = ts.length := ⟨_, rfl⟩
  have hn2000 : n ≤ 2000 := by rw [hn, HLEN.out]; omega
  rw [← hn]
  have HN := Lib.hid hn
  clear ho1 hb1 hrd hts hn HLEN
  go_wp2
  go_loopw [21] (fun vi wr => ∃ (i : Nat) (v : Value), i ≤ n ∧ vi = .int .i64 (i : Int) ∧ Hid (SealI w1 w.heap.size number (n1 : Int) (n2 : Int) v (tvLabels (ts.take i)) wr)) (fun vi _ => n - (intOf vi).toNat)
  case atStart => exact ⟨0, _, Nat.zero_le _, rfl, HI0⟩
  case round =>
    obtain ⟨i, v, hi, rfl, HI⟩ := hrel
    by_cases hlt : i < n
    · have e0 : decide (i < n) = true := decide_eq_true hlt
      have hlt' : i < ts.length := by rw [← HN.out]; exact hlt
      obtain ⟨b, off, rfl, -, hc⟩ := (HRD.out.kp HI.out.kp (fun b h => h)).at_ hlt'
      have HL := Lib.hid (tvLabels_take hlt')
      obtain ⟨⟨lab, cap, A', m, C', lost⟩, ht⟩ : ∃ t, t = ts[i] := ⟨_, rfl⟩
      rw [← ht] at hc HL
      dsimp only at HL
      have c0 : wr.cell? ⟨b, off + i * 4, none⟩ = some (.int .i64 lab) := hc 0 _ rfl
      have c1 : wr.cell? ⟨b, off + i * 4 + 1, none⟩ = some (.int .i64 cap) := hc 1 _ rfl
      have c2 : wr.cell? ⟨b, off + i * 4 + 2, none⟩ = some (.slice A' m C') := hc 2 _ rfl
      have c3 : wr.cell? ⟨b, off + i * 4 + 3, none⟩ = some (.bool lost) := hc 3 _ rfl
      obtain ⟨wd, hwd⟩ : ∃ wd, wd = (wr.alloc (tapeObj lab cap A' m C' lost)).alloc (.cells #[.int .i64 lab] 3) := ⟨_, rfl⟩
      have hta := tape_new wr lab cap A' m C' lost
      have hbd : Below wr.heap.size wr wd := by rw [hwd]; exact hta.1.alloc hta.1.size _
      have HID := Lib.hid (HI.out.old hbd)
      have hnew : RdZ wd (some ⟨wr.heap.size + 1, 0, none⟩) [lab] (fun _ => True) := fun _ => ⟨_, 0, rfl, trivial, fun j hj => by
        have h0 : j = 0 := by simpa using hj
        subst h0
        have h := Go.Deep.blk_alloc_new (wr.alloc (tapeObj lab cap A' m C' lost)) (.cells #[.int .i64 lab] 3)
        rw [show (wr.alloc (tapeObj lab cap A' m C' lost)).heap.size = wr.heap.size + 1 by simp] at h
        rw [hwd]; exact heap_cell h⟩
      have hll : (tvLabels (ts.take i)).length = i := by unfold tvLabels; rw [List.length_map, List.length_take]; omega
      obtain ⟨A3, C3, w3, hrun, hown3, hg3⟩ := apZ_run wd w1.heap.size v (tvLabels (ts.take i)) HID.out.own ⟨wr.heap.size + 1, 0, none⟩ 1 1 [lab] _ rfl hnew (by rw [hll]; omega) HID.out.kp.size (i + 1) (by rw [hll])
      have hpush := HID.out.push (by have := HS1.out; omega) hg3 hown3
      rw [← HL.out] at hpush
      have HP := Lib.hid hpush
      have h3d : w3.heap[w.heap.size + 1]? = some (.cells #[.int .i64 number, .int .i64 0, .int .i64 (n1 : Int), .int .i64 (n2 : Int), v] 41 (0, 0)) :=
        (hg3.block _ (heap_lt HID.out.hd) fun e => by have := HID.out.own.lo _ e.symm; have := HS1.out; omega).trans HID.out.hd
      have x0 : (wr.alloc (tapeObj lab cap A' m C' lost)).cell? ⟨w.heap.size + 1, 4, none⟩ = some v := heap_cell (below_obj hta.1 HI.out.hd)
      have y0 : (wr.alloc (tapeObj lab cap A' m C' lost)).cell? ⟨wr.heap.size, 0, none⟩ = some (.int .i64 lab) := (tape4 hta.2).1
      have z0 : w3.cell? ⟨w.heap.size + 1, 4, none⟩ = some v := heap_cell h3d
      have z1 : w3.frozen? ⟨w.heap.size + 1, 4, none⟩ = false := heap_frozen h3d
      have HWD := Lib.hid hwd
      unfold tapeObj at x0 y0 HWD
      have HRUN := Lib.hid hrun
      rw [HWD.out] at HRUN
      clear ht hwd hta hbd hnew hrun hown3 hg3 hpush h3d hc hll
      go_wp2_with (at_builtin; refine Lib.wpList_append_run _ rfl _ _ _ _ rfl _ _ rfl rfl _ _ (HRUN.out _) ?_)
      go_wp2
      go_roundw
      case rel => exact ⟨i + 1, _, by omega, by go_num, HP⟩
      case measure => simp [intOf]; omega
    · have e0 : decide (i < n) = false := decide_eq_false hlt
      have HE : Hid (ts.take i = ts) := Lib.hid (List.take_of_length_le (by rw [← HN.out]; omega))
      have hown := HI.out.own
      rw [HE.out] at hown
      obtain ⟨A3, C3, rfl, hle, hcm, hA3, hrz⟩ := hown.rd
      obtain ⟨m, hm⟩ : ∃ m, m = (tvLabels ts).length := ⟨_, rfl⟩
      have hd := HI.out.hd
      rw [← hm] at hd
      have hzr : wr.heap[w.heap.size]? = some (sealObj 0 0 0 0 none 0 0) := (HI.out.kp.block _ (heap_lt HZ1.out) (by have := HS1.out; omega)).trans HZ1.out
      have HZR := Lib.hid hzr
      have HM := Lib.hid hm
      have HOK : Hid (Sx.Ok ⟨⟨number, 0, (n1 : Int), (n2 : Int), tvLabels ts⟩, A3, C3⟩ wr (fun x => w.heap.size ≤ x ∧ x ≠ w.heap.size)) := Lib.hid ⟨hle, hcm, hA3, hrz.mono fun x hx => by have h1 := HS1.out; have h2 : w1.heap.size ≤ x := hx; omega⟩
      have HB := Lib.hid (HB1.out.trans (HI.out.kp.below HB1.out.size fun k hk => by have := HB1.out.size; omega))
      obtain ⟨x0, x1, x2, x3, x4⟩ := seal5 hd
      obtain ⟨z0, z1, z2, z3, z4⟩ := seal5 hzr
      obtain ⟨y0, y1, y2, y3, y4⟩ := seal_free hzr
      clear hown hrz hle hcm hA3 hzr hd hm
      go_wp2
      clear z0 z1 z2 z3 z4
      obtain ⟨z0, z1, z2, z3, z4⟩ := seal5 HZR.out
      refine bodyPost_ret (v := .agg #[.int .i64 number, .int .i64 0, .int .i64 (n1 : Int), .int .i64 (n2 : Int), .slice A3 m C3]) (by simp [results, Try.results12, go_sem, z0, z1, z2, z3, z4]) rfl ?_
      have hk := SitsX.kp_set wr w.heap.size 0 1 2 3 4 (.int .i64 number) (.int .i64 0) (.int .i64 (n1 : Int)) (.int .i64 (n2 : Int)) (.slice A3 m C3)
      exact ⟨⟨⟨number, 0, (n1 : Int), (n2 : Int), tvLabels ts⟩, A3, C3⟩, by rw [HM.out], by rw [← HTS.out], (HOK.out.kp hk (fun x hx e => hx.2 e)).mono (fun x hx => hx.1), HB.out.trans (hk.below HB.out.size (fun x hx => by omega))⟩
end Go.Proofs.Ytmfikihcoafekaa
namespace Go.Proofs.Ytmfikihcoafekaa
open Go.RowKit Mx
open Pt (Tx)

theorem St.row_at {ts : List St.T} {n : Int} {i : Nat} (hi : i < ts.length) : St.lens (St.row ts n) i = (St.blk n ts[i]).length ∧ St.mat (St.row ts n) i = rowL (St.blk n ts[i]) := by
  have h : i < (St.row ts n).length := by rw [St.row_len]; exact hi
  have e : (St.row ts n)[i] = St.blk n ts[i] := by simp [St.row]
  exact ⟨by rw [St.lens_at h, e], by rw [St.mat_at h, e]⟩
/-- a row of tapes, as it is answered -/
def RowA (ts : List St.T) (n : Int) (w : World) (e : Ending) (w' : World) : Prop :=
  ∃ A C, e = .returned (.slice A ts.length C) ∧ ts.length ≤ C ∧ (A = none → ts.length = 0 ∧ C = 0) ∧ RdM w' A ts.length (St.lens (St.row ts n)) (St.mat (St.row ts n)) (· < w'.heap.size) ∧ Below w.heap.size w w'
end Go.Proofs.Ytmfikihcoafekaa
namespace Go.Proofs.Ytmfikihcoafekaa
open Go.RowKit Mx
open Pt (Tx)

set_option maxHeartbeats 2000000 in
theorem row_any (A : Option Addr) (ts : List St.T) (C : Nat) (G : Nat → Prop) (n : Int) (w : World) (hn : ts.length ≤ 1000000) (hr : RdT w A ts G) :
    Calls Try.prog 34 #[.slice A ts.length C, .int .i64 n] w (RowA ts n w) := by
  have HR := Lib.hid hr
  clear hr
  have hmk := run_make_row' (P := Try.prog) 30 24 (.slice none 0 0) 24 Try.underlying30 infoRow rfl .i64 .i64 ts.length (by omega) (by omega)
  go_enter Try.func34, Try.ntmps34
  go_wp2
  clear hmk
  go_loopw [13] (fun vi wr => ∃ i : Nat, i ≤ ts.length ∧ vi = .int .i64 (i : Int) ∧ Hid (∃ A C, TopR wr w.heap.size ts.length A (fun j => if j < i then St.lens (St.row ts n) j else 0) C (St.mat (St.row ts n))) ∧ Hid (Below w.heap.size w wr)) (fun vi _ => ts.length - (intOf vi).toNat)
  case atStart => exact ⟨0, Nat.zero_le _, rfl, Lib.hid ⟨_, _, (TopR.start w ts.length _).congr (fun i _ => by rw [if_neg (by omega)]) (fun _ _ _ _ => rfl)⟩, Lib.hid ((Below.refl _ _).alloc (Nat.le_refl _) _)⟩
  case round =>
    obtain ⟨i, hi, rfl, HO, HB⟩ := hrel
    obtain ⟨Ax, Cx, hO⟩ := HO.out
    have HO' := Lib.hid hO
    clear hO HO
    by_cases hlt : i < ts.length
    · obtain ⟨b, off, A', C', rfl, -, c0, c1, c2, c3, hb⟩ := (HR.out.old HB.out).at_ hlt
      obtain ⟨h1, h2⟩ := St.row_at (n := n) hlt
      obtain ⟨⟨lab, cap, bs, lost⟩, ht⟩ : ∃ t, t = ts[i] := ⟨_, rfl⟩
      rw [← ht] at c0 c1 c2 c3 hb h1 h2
      dsimp only at c0 c1 c2 c3 hb
      obtain ⟨s, hs⟩ : ∃ s, s = St.blk n ⟨lab, cap, bs, lost⟩ := ⟨_, rfl⟩
      rw [← hs] at h1 h2
      have hbt : Below wr.heap.size wr (wr.alloc (tapeObj lab cap A' bs.length C' lost)) := (tape_new wr lab cap A' bs.length C' lost).1
      have HC := Lib.hid (block_any lab cap A' bs C' lost _ n _ (hb.old hbt))
      rw [← hs] at HC
      have HBT := Lib.hid hbt
      have H1 := Lib.hid h1
      have H2 := Lib.hid h2
      have e0 : decide (i < ts.length) = true := decide_eq_true hlt
      unfold tapeObj at HC HBT
      clear hb hbt hs ht h1 h2
      go_wp2_with fail
      refine HC.out.mono ?_
      rintro e w1 ⟨A1, C1, rfl, -, -, hr1, hb1⟩
      have hbb : Below wr.heap.size wr w1 := HBT.out.trans (hb1.mono HBT.out.size)
      have HO1 := HO'.out.old hbb
      have hne : w.heap.size < wr.heap.size := HO'.out.top.lt
      have hR1 : Rd w1 A1 s.length (St.mat (St.row ts n) i) (· ≠ w.heap.size) := by
        rw [H2.out]
        exact hr1.mono fun x hx => by have := HBT.out.size; omega
      have hct := HO1.top.cell hlt
      have hft := HO1.top.frozen i
      have HP := Lib.hid (HO1.lay i (c := C1) hR1)
      have HB2 := Lib.hid ((HB.out.trans (hbb.mono HB.out.size)).setCell (p := ⟨w.heap.size, i, none⟩) (Nat.le_refl _) (.slice A1 s.length C1))
      obtain ⟨m, hm⟩ : ∃ m, m = s.length := ⟨_, rfl⟩
      have d0 := (hbb.cell (World.block_lt_of_cell? _ _ c0)).trans c0
      rw [← hm] at HP HB2 H1 ⊢
      clear hr1 hb1 hbb HO1 hR1 hm c0 c1 c2 c3 d0
      go_wp2
      go_roundw
      case rel => exact ⟨i + 1, by omega, by go_num, Lib.hid ⟨_, _, HP.out.congr (fun j _ => by
        by_cases e : j = i
        · rw [if_pos e, if_pos (by omega), e, H1.out]
        · by_cases e' : j < i
          · rw [if_neg e, if_pos e', if_pos (by omega)]
          · rw [if_neg e, if_neg e', if_neg (by omega)]) (fun _ _ _ _ => rfl)⟩, HB2⟩
      case measure => simp [intOf]; omega
    · have HF : Hid (RdM wr (some ⟨w.heap.size, 0, none⟩) ts.length (St.lens (St.row ts n)) (St.mat (St.row ts n)) (· < wr.heap.size)) := Lib.hid ((HO'.out.congr (L' := St.lens (St.row ts n)) (M' := St.mat (St.row ts n)) (fun j hj => by rw [if_pos (by omega)]) (fun _ _ _ _ => rfl)).rdM)
      have e0 : decide (i < ts.length) = false := decide_eq_false hlt
      clear HO'
      go_wp2
      go_ret
      exact ⟨_, _, rfl, Nat.le_refl _, (fun h => by cases h), HF.out, HB.out⟩
end Go.Proofs.Ytmfikihcoafekaa
namespace Go.Proofs.Ytmfikihcoafekaa
open Go.RowKit Mx
open Pt (Tx)

/-- has one of the rows no bytes? -/
def emptyB (n : Nat) (L : Nat → Nat) : Bool := decide (∃ i, i < n ∧ L i = 0)
theorem emptyB_true {n : Nat} {L : Nat → Nat} : emptyB n L = true ↔ ∃ i, i < n ∧ L i = 0 := decide_eq_true_iff
theorem emptyB_false {n : Nat} {L : Nat → Nat} : emptyB n L = false ↔ ∀ i, i < n → L i ≠ 0 := by
  unfold emptyB
  rw [decide_eq_false_iff_not]
  exact ⟨fun h i hi e => h ⟨i, hi, e⟩, fun h ⟨i, hi, e⟩ => h i hi e⟩
theorem infoMat : (Try.prog.info? 30).map (fun i => (i.zero, i.size, i.bytes)) = some (some (.slice none 0 0), 1, 24) := by kernel_rfl
theorem St.none_of {ts : List St.T} {n : Int} (h : emptyB ts.length (St.lens (St.row ts n)) = true) : ∃ t ∈ ts, St.blk n t = [] := by
  obtain ⟨i, hi, e⟩ := emptyB_true.1 h
  rw [(St.row_at hi).1] at e
  exact ⟨_, List.getElem_mem hi, List.length_eq_zero_iff.1 e⟩
theorem St.all_of {ts : List St.T} {n : Int} (h : emptyB ts.length (St.lens (St.row ts n)) = false) : (∀ i, i < ts.length → St.lens (St.row ts n) i = 79) ∧ ∀ t ∈ ts, St.blk n t ≠ [] := by
  have h1 := emptyB_false.1 h
  refine ⟨fun i hi => ?_, fun t ht e => ?_⟩
  · have h2 := h1 i hi
    rw [(St.row_at hi).1] at h2 ⊢
    rcases St.blk_len n ts[i] with h3 | h3
    · exact h3
    · rw [h3] at h2; exact absurd rfl h2
  · obtain ⟨i, hi, rfl⟩ := List.mem_iff_getElem.1 ht
    have h2 := h1 i hi
    rw [(St.row_at hi).1, e] at h2
    exact h2 rfl
theorem Inn.below {w w2 wq : World} {b p n j : Nat} {V0 : Nat → Value} {X : Nat → Mat} {N : Nat → Nat} (h : Inn w w2 wq b p n j V0 X) (hO : OutP w2 w.heap.size b p 79 V0 N X) (hB : Below w.heap.size w w2) : Below w.heap.size w wq :=
  hB.trans (h.kp.below hB.size fun k hk => by
    rcases hk with rfl | ⟨i, hi, e⟩
    · exact hO.lo
    · exact ((hO.rows i hi).lt e).1)
end Go.Proofs.Ytmfikihcoafekaa
namespace Go.Proofs.Ytmfikihcoafekaa
open Go.RowKit Mx

def alikeB (n : Nat) (L : Nat → Nat) : Bool := decide (∀ i, i < n → L i = L 0)
theorem alikeB_true {n : Nat} {L : Nat → Nat} : alikeB n L = true ↔ ∀ i, i < n → L i = L 0 := decide_eq_true_iff
theorem alikeB_false {n : Nat} {L : Nat → Nat} {k : Nat} (hk : k < n) (h : L k ≠ L 0) : alikeB n L = false := decide_eq_false fun hh => h (hh k hk)
set_option maxHeartbeats 1000000 in
theorem alike_any (A : Option Addr) (n C : Nat) (L : Nat → Nat) (M : Mat) (G : Nat → Prop) (w : World) (hm : n ≤ maxLen) (h : RdM w A n L M G) :
    Calls Try.prog 46 #[.slice A n C] w fun e w' => e = .returned (.bool (alikeB n L)) ∧ w = w' := by
  unfold maxLen at hm
  have H := Lib.hid h
  clear h
  go_enter Try.func46, Try.ntmps46
  go_wp2
  go_loop [7, 4] (fun vi _ => ∃ k : Nat, k ≤ n ∧ vi = .int .i64 (k : Int) ∧ Hid (∀ i, i < k → L i = L 0)) (fun vi _ => n - (intOf vi).toNat)
  case atStart => exact ⟨0, by omega, rfl, Lib.hid (fun i hi => absurd hi (by omega))⟩
  case round =>
    obtain ⟨k, hk, rfl, HL⟩ := hrel
    by_cases hlt : k < n
    · obtain ⟨b, off, A0, C0, rfl, _, hc0, _⟩ := H.out.row (i := 0) (by omega)
      rw [Nat.add_zero] at hc0
      obtain ⟨b', off', Ak, Ck, e, _, hck, _⟩ := H.out.row hlt
      obtain ⟨rfl, rfl⟩ : b = b' ∧ off = off' := by simpa using e
      clear e
      by_cases he : L k = L 0
      · have hb : ((L k : Int) != (L 0 : Int)) = false := by rw [he]; simp
        have HE := Lib.hid he
        clear he
        go_wp2
        go_round
        case rel => exact ⟨k + 1, by omega, by go_num, Lib.hid (fun i hi => by
          by_cases e : i = k
          · rw [e]; exact HE.out
          · exact HL.out i (by omega))⟩
        case measure => simp [intOf]; omega
      · have hb : ((L k : Int) != (L 0 : Int)) = true := by rw [bne_iff_ne]; omega
        have HF := Lib.hid (alikeB_false (n := n) (L := L) hlt he)
        clear he
        go_wp2
        go_ret
        exact ⟨ret_bool HF.out.symm, rfl⟩
    · have HF := Lib.hid (alikeB_true (n := n) (L := L) |>.2 fun i hi => HL.out i (by omega))
      go_wp2
      go_ret
      exact ⟨ret_bool HF.out.symm, rfl⟩
theorem alike_is (A : Option Addr) (n C : Nat) (L : Nat → Nat) (M : Mat) (G : Nat → Prop) (w : World) (r : Bool) (hm : n ≤ maxLen) (h : RdM w A n L M G) (hr : alikeB n L = r) :
    Calls Try.prog 46 #[.slice A n C] w fun e w' => e = .returned (.bool r) ∧ w = w' := hr ▸ alike_any A n C L M G w hm h

end Go.Proofs.Ytmfikihcoafekaa
