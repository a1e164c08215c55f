/- Which group has a label; a seal's cells in a row (parted from GrOf: no function of package group but what VoSealed leans on). What the document's own Of of groups answers. What the document's own Rooms answers. Pieces of bytes as slices, and units as they lie in a row. No function of the program. -/
import Derived.Test.YtndofmoepjfnfaaGreatMaw
import Derived.Test.YtndofmoepjfnfaaGreatMai
import Derived.Test.YtndofmoepjfnfaaGreatMat
import Derived.Test.YtndofmoepjfnfaaGreatGrIns
import Derived.Test.YtndofmoepjfnfaaGreatMba
import Derived.Test.YtndofmoepjfnfaaGreatMak
import Derived.Test.YtndofmoepjfnfaaGreatMav
import Derived.Deep.RegionHeld3
import Derived.Deep.DeepFit
import Derived.Deep.DeepCutAuto
import Derived.BigQuiet
import Derived.Deep.QuietTactic
import Derived.Test.YtndofmoepjfnfaaGreatMae
import Derived.Test.YtndofmoepjfnfaaGreatMbd
namespace Go.Proofs.YtndofmoepjfnfaaGreat
open Go.RowKit
open Pt (Tx)

theorem of_take {l : List Rc.S} {label : Int} {i : Nat} (h : i < l.length) (hno : ∀ s ∈ l.take i, label ∉ s.labels) (hy : label ∈ l[i].labels) : Gr.of l label = some l[i] := by
  unfold Gr.of
  have e : (l.take i ++ l.drop i).find? (fun s => decide (label ∈ s.labels)) = some l[i] := by
    rw [List.find?_append, List.find?_eq_none.2 (fun s hs => by simpa using hno s hs), List.drop_eq_getElem_cons h, List.find?_cons_of_pos (by simpa using hy)]
    rfl
  rwa [List.take_append_drop] at e
theorem of_none {l : List Rc.S} {label : Int} (hno : ∀ s ∈ l, label ∉ s.labels) : Gr.of l label = none := by
  unfold Gr.of
  exact List.find?_eq_none.2 (fun s hs => by simpa using hno s hs)
/-- the five cells of one that is read -/
theorem rd_five {w : World} {A : Option Addr} {xs : List Sx} {G : Nat → Prop} (h : encX.Rd w A xs G) {i : Nat} (hi : i < xs.length) {x : Sx} (hx : xs[i] = x) : ∃ b off, A = some ⟨b, off, none⟩ ∧ Five w b (off + i * 5) x.s.number x.s.index x.s.data x.s.parity x.A x.s.labels.length x.C := by
  subst hx
  obtain ⟨b, off, e, -, hc⟩ := h.at_ hi
  exact ⟨b, off, e, hc 0 _ rfl, hc 1 _ rfl, hc 2 _ rfl, hc 3 _ rfl, hc 4 _ rfl⟩
end Go.Proofs.YtndofmoepjfnfaaGreat
namespace Go.Proofs.YtndofmoepjfnfaaGreat
open Go.RowKit

/-- the document's own Of hands out a seal with the labels of the one that it was given -/
def OfA (o : Option Rc.S) (w : World) (e : Ending) (w' : World) : Prop :=
  ∃ x : Sx, e = .returned (.tuple #[.agg #[.int .i64 x.s.number, .int .i64 x.s.index, .int .i64 x.s.data, .int .i64 x.s.parity, .slice x.A x.s.labels.length x.C], .bool o.isSome]) ∧ x.s = sealIs o ∧ x.Ok w' (fun _ => True) ∧ Below w.heap.size w w'
theorem OfA.stored {w w7 : World} {a0 a1 a2 a3 a4 : Value} {o : Option Rc.S} {n i d p : Int} {m : Nat} {l : List Int} {A : Option Addr} {C : Nat} {b : Bool} (hu : (⟨n, i, d, p, l⟩ : Rc.S) = sealIs o) (hb : o.isSome = b) (hm : m = l.length) (hok : Sx.Ok ⟨⟨n, i, d, p, l⟩, A, C⟩ w7 (fun x => x ≠ w.heap.size)) (hbl : Below w.heap.size w w7) :
    OfA o w (.returned (.tuple #[.agg #[.int .i64 n, .int .i64 i, .int .i64 d, .int .i64 p, .slice A m C], .bool b])) (((((w7.setCell ⟨w.heap.size, 0, none⟩ a0).setCell ⟨w.heap.size, 1, none⟩ a1).setCell ⟨w.heap.size, 2, none⟩ a2).setCell ⟨w.heap.size, 3, none⟩ a3).setCell ⟨w.heap.size, 4, none⟩ a4) := by
  have hk := SitsX.kp_set w7 w.heap.size 0 1 2 3 4 a0 a1 a2 a3 a4
  subst hm
  exact ⟨⟨⟨n, i, d, p, l⟩, A, C⟩, by rw [hb], hu, (hok.kp hk (fun x hx hx' => hx hx')).mono (fun x hx => trivial), hbl.trans (hk.below hbl.size (fun x hx => by omega))⟩
set_option maxRecDepth 100000 in
set_option maxHeartbeats 8000000 in
theorem refOf_any (A : Option Addr) (xs : List Sx) (n C : Nat) (G : Nat → Prop) (label : Int) (w : World) (hn : n = xs.length) (hm : n ≤ 1000) (hr : encX.Rd w A xs G) (hok : ∀ x ∈ xs, x.Ok w (fun _ => True) ∧ x.s.labels.length ≤ 1000) :
    Calls Tryz.prog 34 #[.slice A n C, .int .i64 label] w (OfA (Gr.of (xs.map Sx.s) label) w) := by
  have HR := Lib.hid hr
  have HN := Lib.hid hn
  have HOK : Hid (∀ x ∈ xs, x.Ok w (fun b => b ≠ w.heap.size) ∧ x.s.labels.length ≤ 1000) := Lib.hid fun x hx => ⟨(hok x hx).1.in_.mono fun b hb => by have := hb.2; omega, (hok x hx).2⟩
  obtain ⟨wb, hwb⟩ : ∃ wb, wb = w.alloc (sealObj 0 0 0 0 none 0 0) := ⟨_, rfl⟩
  have hB : Below w.heap.size w wb := by rw [hwb]; exact (Below.refl _ _).alloc (Nat.le_refl _) _
  have hU : wb.heap[w.heap.size]? = some (sealObj 0 0 0 0 none 0 0) := by rw [hwb]; exact Go.Deep.blk_alloc_new _ _
  have HB0 := Lib.hid hB
  have HU0 := Lib.hid hU
  have HW := Lib.hid hwb
  unfold sealObj at HW
  clear hr hn hok hwb hB hU
  go_enter Tryz.func34, Tryz.ntmps34
  go_wp2
  rw [← HW.out]
  go_loopw [6, 7] (fun vi vk wr => ∃ i : Nat, i ≤ n ∧ vi = .int .i64 (i : Int) ∧ Hid (∀ s ∈ (xs.map Sx.s).take i, label ∉ s.labels) ∧ Hid (Below w.heap.size w wr) ∧ Hid (wr.heap[w.heap.size]? = some (sealObj 0 0 0 0 none 0 0))) (fun vi _ _ => n - (intOf vi).toNat)
  case atStart => exact ⟨0, Nat.zero_le _, rfl, Lib.hid (fun s hs => by cases hs), HB0, HU0⟩
  case round =>
    obtain ⟨i, hi, rfl, HNO, HB, HU⟩ := hrel
    by_cases hlt : i < n
    · have e0 : decide (i < n) = true := decide_eq_true hlt
      have hlt' : i < xs.length := by rw [← HN.out]; exact hlt
      obtain ⟨x, hx⟩ : ∃ x, x = xs[i] := ⟨_, rfl⟩
      obtain ⟨b, off, rfl, hf⟩ := rd_five HR.out hlt' hx.symm
      have hxo := HOK.out x (by rw [hx]; exact List.getElem_mem hlt')
      have hlt2 : i < (xs.map Sx.s).length := by simpa using hlt'
      have hxm : (xs.map Sx.s)[i] = x.s := by rw [List.getElem_map, ← hx]
      obtain ⟨⟨sn, si, sd, sp, sl⟩, sA, sC⟩ := x
      have HYES : Hid (label ∈ sl → Gr.of (xs.map Sx.s) label = some ⟨sn, si, sd, sp, sl⟩) := Lib.hid fun h => by
        rw [of_take hlt2 HNO.out (by rw [hxm]; exact h), hxm]
      have HNEXT : Hid (label ∉ sl → ∀ s ∈ (xs.map Sx.s).take (i + 1), label ∉ s.labels) := Lib.hid fun h s hs => by
        rw [List.take_succ_eq_append_getElem hlt2, hxm] at hs
        rcases List.mem_append.1 hs with hs | hs
        · exact HNO.out s hs
        · rw [List.mem_singleton.1 hs]; exact h
      dsimp only at hf hxo
      obtain ⟨m, hm⟩ : ∃ m, m = sl.length := ⟨_, rfl⟩
      rw [← hm] at hf hxo
      have HM := Lib.hid hm
      have HF := Lib.hid hf
      have HXO := Lib.hid hxo.1
      have hml : m ≤ 1000 := hxo.2
      clear hx hxo hlt2 hxm hm hf
      go_wp2
      go_loopw [7] (fun vk w2 => ∃ k : Nat, k ≤ m ∧ vk = .int .i64 (k : Int) ∧ Hid (∀ y ∈ sl.take k, y ≠ label) ∧ Hid (Below w.heap.size w w2) ∧ Hid (w2.heap[w.heap.size]? = some (sealObj 0 0 0 0 none 0 0))) (fun vk _ => m - (intOf vk).toNat)
      case atStart => exact ⟨0, Nat.zero_le _, rfl, Lib.hid (fun s hs => by cases hs), HB, HU⟩
      case round =>
        obtain ⟨k, hk, rfl, HLE, HB2, HU2⟩ := hrel
        obtain ⟨c0, c1, c2, c3, c4⟩ := HF.out.old HB2.out
        by_cases hltk : k < m
        · have e1 : decide (k < m) = true := decide_eq_true hltk
          have hkl : k < sl.length := by rw [← HM.out]; exact hltk
          obtain ⟨lb, lo, rfl, -, hlc⟩ := (HXO.out.rd.old HB2.out).at_ hkl
          obtain ⟨y, hy⟩ : ∃ y, y = sl[k] := ⟨_, rfl⟩
          rw [← hy] at hlc
          have HY := Lib.hid hy
          clear hy
          cases q : (y == label) with
          | true =>
            have HMEM : Hid (label ∈ sl) := Lib.hid (by rw [← beq_iff_eq.1 q, HY.out]; exact List.getElem_mem hkl)
            have HOF := Lib.hid (HYES.out HMEM.out)
            have HXO2 := Lib.hid (HXO.out.old HB2.out)
            obtain ⟨u0, u1, u2, u3, u4⟩ := seal_free HU2.out
            obtain ⟨z0, z1, z2, z3, z4⟩ := seal5 HU2.out
            go_wp2
            clear z0 z1 z2 z3 z4
            obtain ⟨z0, z1, z2, z3, z4⟩ := seal5 HU2.out
            refine bodyPost_ret (v := .tuple #[.agg #[.int .i64 sn, .int .i64 si, .int .i64 sd, .int .i64 sp, .slice (some ⟨lb, lo, none⟩) m sC], .bool true]) (by simp [results, Tryz.results34, go_sem, z0, z1, z2, z3, z4]) rfl ?_
            rw [HOF.out]
            exact OfA.stored (l := sl) rfl rfl HM.out HXO2.out HB2.out
          | false =>
            have HLE2 : Hid (∀ y ∈ sl.take (k + 1), y ≠ label) := Lib.hid fun z hz => by
              rw [List.take_succ_eq_append_getElem hkl] at hz
              rcases List.mem_append.1 hz with hz | hz
              · exact HLE.out z hz
              · rw [List.mem_singleton.1 hz, ← HY.out]; exact beq_eq_false_iff_ne.1 q
            go_wp2
            go_roundw
            case rel => exact ⟨k + 1, by omega, by go_num, HLE2, HB2, HU2⟩
            case measure => simp [intOf]; omega
        · have e1 : decide (k < m) = false := decide_eq_false hltk
          have HN2 := Lib.hid (HNEXT.out (fun h => HLE.out label (by rw [List.take_of_length_le (by rw [← HM.out]; omega)]; exact h) rfl))
          go_wp2
          go_roundw
          case rel => exact ⟨i + 1, by omega, by go_num, HN2, HB2, HU2⟩
          case measure => simp [intOf]; omega
    · have e0 : decide (i < n) = false := decide_eq_false hlt
      have HOF : Hid (Gr.of (xs.map Sx.s) label = none) := Lib.hid (of_none (by
        have h1 := HNO.out
        rwa [List.take_of_length_le (by rw [List.length_map, ← HN.out]; omega)] at h1))
      obtain ⟨z0, z1, z2, z3, z4⟩ := seal5 HU.out
      obtain ⟨u0, u1, u2, u3, u4⟩ := seal_free HU.out
      go_wp2
      clear z0 z1 z2 z3 z4
      obtain ⟨z0, z1, z2, z3, z4⟩ := seal5 HU.out
      refine bodyPost_ret (v := .tuple #[.agg #[.int .i64 0, .int .i64 0, .int .i64 0, .int .i64 0, .slice none 0 0], .bool false]) (by simp [results, Tryz.results34, go_sem, z0, z1, z2, z3, z4]) rfl ?_
      rw [HOF.out]
      exact OfA.stored (l := []) rfl rfl rfl (nil_ok _ _ _ _ _ _) HB.out
end Go.Proofs.YtndofmoepjfnfaaGreat
namespace Go.Proofs.YtndofmoepjfnfaaGreat
open Go.RowKit
open Pt (Tx)

def encI : Enc Int where
  k := 1
  pos := by decide
  enc x := [.int .i64 x]
  len _ := rfl
  one x u hu := by
    simp only [List.mem_cons, List.not_mem_nil, or_false] at hu
    rw [hu]; rfl
/-- numbers are answered, in new memory -/
def NumZ (l : List Int) (w : World) (e : Ending) (w' : World) : Prop := ∃ A C, e = .returned (.slice A l.length C) ∧ l.length ≤ C ∧ C ≤ maxLen ∧ (A = none → l.length = 0 ∧ C = 0) ∧ RdZ w' A l (w.heap.size ≤ ·) ∧ Below w.heap.size w w'
theorem encI_rd {w : World} {A : Option Addr} {l : List Int} {G : Nat → Prop} (h : encI.Rd w A l G) : RdZ w A l G := fun hn => by
  obtain ⟨b, off, e, hg, hc⟩ := h hn
  refine ⟨b, off, e, hg, fun j hj => ?_⟩
  have := hc j hj 0 _ rfl
  have e1 : off + j * encI.k + 0 = off + j := by show off + j * 1 + 0 = off + j; omega
  rwa [e1] at this
set_option maxRecDepth 100000 in
set_option maxHeartbeats 8000000 in
theorem refRooms_any (ts : List St.T) (xs : List Sx) (A1 : Option Addr) (n1 C1 : Nat) (A2 : Option Addr) (n2 C2 : Nat) (G1 G2 : Nat → Prop) (w : World) (h1 : n1 = ts.length) (hr1 : RdT w A1 ts G1) (hm1 : n1 ≤ 1000000) (h2 : n2 = xs.length) (hm2 : n2 ≤ 1000) (hr2 : encX.Rd w A2 xs G2) (hok : ∀ x ∈ xs, x.Ok w (fun _ => True) ∧ x.s.labels.length ≤ 1000)
    (hb1 : ∀ t ∈ ts, t.blocks.length ≤ 1000000 ∧ (∀ s ∈ t.blocks, s.length ≤ 1000) ∧ -1000000000 ≤ t.cap ∧ t.cap ≤ 1000000000) :
    Calls Tryz.prog 12 #[.slice A1 n1 C1, .slice A2 n2 C2] w (NumZ (Wr.rooms ts (xs.map Sx.s)) w) := by
  have HR1 := Lib.hid hr1
  have HR2 := Lib.hid hr2
  have HL1 := Lib.hid h1
  have HL2 := Lib.hid h2
  have HB1 := Lib.hid hb1
  have HOK := Lib.hid hok
  clear hr1 hr2 h1 h2 hb1 hok
  go_enter Tryz.func12, Tryz.ntmps12
  go_wp2
  go_loopw [6, 5] (fun vi vl wr => ∃ (k : Nat) (pre : List Int), k ≤ n1 ∧ pre.length = k ∧ vi = .int .i64 (k : Int) ∧ Hid (pre = Wr.rooms (ts.take k) (xs.map Sx.s)) ∧ Hid (encI.Own wr w.heap.size 3 vl pre) ∧ Hid (Below w.heap.size w wr)) (fun vi _ _ => n1 - (intOf vi).toNat)
  case atStart => exact ⟨0, [], by omega, rfl, rfl, Lib.hid rfl, Lib.hid (Enc.Own.nil _ _ _), Lib.hid (Below.refl _ _)⟩
  case round =>
    obtain ⟨k, pre, hk, hpl, rfl, HP, HO, HB⟩ := hrel
    have HPL := Lib.hid hpl
    clear hpl
    by_cases hlt : k < n1
    · have hltT : k < ts.length := by rw [← HL1.out]; exact hlt
      obtain ⟨b, off, A', C', rfl, -, c0, c1, c2, c3, hrB⟩ := (HR1.out.old HB.out).at_ hltT
      have hbl := HB1.out ts[k] (List.getElem_mem hltT)
      have hnext := Wr.rooms_take (ss := xs.map Sx.s) hltT
      obtain ⟨lab, cap, bs, lost, ht⟩ : ∃ lab cap bs lost, ts[k] = ⟨lab, cap, bs, lost⟩ := ⟨_, _, _, _, rfl⟩
      rw [ht] at c0 c1 c2 c3 hrB hbl hnext
      dsimp only at c0 c1 c2 c3 hrB hbl hnext
      rw [← HP.out] at hnext
      obtain ⟨N, hN⟩ : ∃ N, N = bs.length := ⟨_, rfl⟩
      rw [← hN] at c2 hbl
      obtain ⟨hN1, hN2, hc1, hc2⟩ := hbl
      obtain ⟨inn, hin⟩ : ∃ inn, inn = (Gr.of (xs.map Sx.s) lab).isSome := ⟨_, rfl⟩
      obtain ⟨og, hog⟩ : ∃ og, og = Vo.goodZ ⟨lab, bs, lost⟩ ((N : Int) - 1) := ⟨_, rfl⟩
      obtain ⟨okk, hokk⟩ : ∃ okk, okk = og.isSome := ⟨_, rfl⟩
      rw [← hin] at hnext
      have hroom : Wr.room inn ⟨lab, cap, bs, lost⟩ = if lost = true ∨ inn = true then 0 else if N = 0 then max 0 (cap - 1) else if okk = true then max 0 (cap - (N : Int)) else 0 := by
        unfold Wr.room
        dsimp only
        rw [← hN]
        by_cases h0 : N = 0
        · rw [if_pos h0, if_pos h0]
        · rw [if_neg h0, if_neg h0]
          have : Vo.good ⟨lab, bs, lost⟩ (N - 1) = og := by
            rw [hog]
            unfold Vo.goodZ
            rw [if_neg (by omega), show ((N : Int) - 1).toNat = N - 1 by omega]
          rw [this, ← hokk]
      have HOFC : Hid (∀ y, Below w.heap.size w y → Calls Tryz.prog 34 #[.slice A2 n2 C2, .int .i64 lab] y (OfA (Gr.of (xs.map Sx.s) lab) y)) := Lib.hid fun y hy => refOf_any A2 xs n2 C2 G2 lab y HL2.out hm2 (HR2.out.old hy) (fun x hx => ⟨(HOK.out x hx).1.old hy, (HOK.out x hx).2⟩)
      have HGC : Hid (∀ y, Below wr.heap.size wr y → Calls Tryz.prog 35 #[.agg #[.int .i64 lab, .int .i64 cap, .slice A' N C', .bool lost], .int .i64 ((N : Int) - 1)] y (GoodA og y)) := Lib.hid fun y hy => by
        rw [hog]
        exact refGood_any lab cap bs A' N C' _ lost _ y hN (hrB.old hy) hN2
      have HS : Hid (∀ y, Below wr.heap.size wr y → y.cell? ⟨b, off + k * 4, none⟩ = some (.int .i64 lab) ∧ y.cell? ⟨b, off + k * 4 + 1, none⟩ = some (.int .i64 cap) ∧ y.cell? ⟨b, off + k * 4 + 2, none⟩ = some (.slice A' N C') ∧ y.cell? ⟨b, off + k * 4 + 3, none⟩ = some (.bool lost) ∧ Below wr.heap.size wr y) := Lib.hid fun y hy =>
        ⟨(hy.cell (World.block_lt_of_cell? _ _ c0)).trans c0, (hy.cell (World.block_lt_of_cell? _ _ c1)).trans c1, (hy.cell (World.block_lt_of_cell? _ _ c2)).trans c2, (hy.cell (World.block_lt_of_cell? _ _ c3)).trans c3, hy⟩
      have HNX := Lib.hid hnext
      have HRM := Lib.hid hroom
      have HN := Lib.hid hN
      have HIN := Lib.hid hin
      have HOKK := Lib.hid hokk
      have hsz : w.heap.size ≤ wr.heap.size := HB.out.size
      clear hnext hroom hN hin hokk hog hrB hN2 ht hltT
      by_cases hbig : (N : Int) < cap
      · have dN : decide ((N : Int) < cap) = true := decide_eq_true hbig
        have hwc : IntKind.i64.wrap (cap - (N : Int)) = cap - (N : Int) := by rw [IntKind.wrap_i64]; omega
        go_upto_region 6 with fail
        go_quiet (fail)
        have hq1 : Below wr.heap.size wr (wr.drewN nq) := ⟨rfl, rfl, rfl, Nat.le_refl _, fun _ _ => rfl⟩
        obtain ⟨e0, e1, e2, e3, -⟩ := HS.out _ hq1
        have HQ1 := Lib.hid hq1
        clear hq1 c0 c1 c2 c3
        generalize wr.drewN nq = wq at e0 e1 e2 e3 HQ1 ⊢
        go_upto_region 7 with fail
        go_quiet (fail)
        have hq2 : Below wq.heap.size wq (wq.drewN nq) := ⟨rfl, rfl, rfl, Nat.le_refl _, fun _ _ => rfl⟩
        have HQ2 := Lib.hid (HQ1.out.trans (hq2.mono HQ1.out.size))
        obtain ⟨f0, f1, f2, f3, -⟩ := HS.out _ HQ2.out
        clear hq2 e0 e1 e2 e3
        generalize wq.drewN nq = wp at f0 f1 f2 f3 HQ2 ⊢
        go_upto_region 9 with (go_at_call 34; refine (HOFC.out _ (HB.out.trans (HQ2.out.mono hsz))).mono ?_; rintro e w8 ⟨xo, rfl, -, -, hb⟩; rw [← HIN.out]; have HQ3 := Lib.hid (HQ2.out.trans (hb.mono HQ2.out.size)); clear hb f0 f1 f2 f3)
        obtain ⟨w9, hw9⟩ : ∃ x, x = w8.alloc (.cells #[.int .i64 xo.s.number, .int .i64 xo.s.index, .int .i64 xo.s.data, .int .i64 xo.s.parity, .slice xo.A xo.s.labels.length xo.C] 90) := ⟨_, rfl⟩
        have HQ4 : Hid (Below wr.heap.size wr w9) := Lib.hid (by rw [hw9]; exact HQ3.out.alloc HQ3.out.size _)
        rw [← hw9]
        clear hw9
        go_cut [10, 11] (fun vu vo wx => vo = .bool okk ∧ Hid (Below wr.heap.size wr wx))
        case first =>
          have hc0 : Below wr.heap.size wr w9.drew := HQ4.out.drew
          have hcZ : Below wr.heap.size wr ((w9.alloc (.cells #[.int .i64 0, .int .i64 0, .int .i64 0, .slice none 0 0] 48)).drew) := (HQ4.out.alloc HQ4.out.size _).drew
          have hw1 : IntKind.i64.wrap ((N : Int) - 1) = (N : Int) - 1 := by rw [IntKind.wrap_i64]; omega
          have hbz : ∀ y, Below ((w9.alloc (.cells #[.int .i64 0, .int .i64 0, .int .i64 0, .slice none 0 0] 48)).drew).heap.size ((w9.alloc (.cells #[.int .i64 0, .int .i64 0, .int .i64 0, .slice none 0 0] 48)).drew) y → y.heap[w9.heap.size]? = some (unitObj 0 0 0 none 0 0) := fun y hy => (hy.block w9.heap.size (by simp)).trans (Go.Deep.blk_alloc_new _ _)
          have HBZ := Lib.hid hbz
          have h99 : wr.heap.size ≤ w9.heap.size := HQ4.out.size
          clear hbz
          go_region_held3 (fun y => y.cell? ⟨b, off + k * 4, none⟩ = some (.int .i64 lab) ∧ y.cell? ⟨b, off + k * 4 + 1, none⟩ = some (.int .i64 cap) ∧ y.cell? ⟨b, off + k * 4 + 2, none⟩ = some (.slice A' N C') ∧ y.cell? ⟨b, off + k * 4 + 3, none⟩ = some (.bool lost) ∧ Below wr.heap.size wr y)
            (first
              | with_reducible exact HS.out _ hcS
              | with_reducible exact HS.out _ hcA
              | with_reducible exact HS.out _ hcA0
              | with_reducible exact HS.out _ hcG
              | with_reducible exact HS.out _ hcZ
              | with_reducible exact HS.out _ hc0)
            (first
              | (go_at_call 35; go_fit (HGC.out _ hc0); rintro e wg ⟨Au, mu, Cu, rfl, -, -, -, -, hb⟩; rw [← HOKK.out]; have hcG := hc0.trans (hb.mono hc0.size); have hcA0 := hcG.alloc hcG.size (.cells #[.int .i64 0, .int .i64 0, .int .i64 0, .slice none 0 0] 48); have hcA := hcG.alloc hcG.size (.cells #[.int .i64 (unitOf og).kind, .int .i64 (unitOf og).label, .int .i64 (unitOf og).number, .slice Au mu Cu] 48); clear hb)
              | (go_at_call 35; go_fit (HGC.out _ hcZ); rintro e wg ⟨Au, mu, Cu, rfl, -, -, -, -, hb⟩; rw [← HOKK.out]; have hcG := hcZ.trans (hb.mono hcZ.size); obtain ⟨z0, z1, z2, z3⟩ := unit4 (HBZ.out _ hb); have y0 : wg.frozen? ⟨w9.heap.size, 0, none⟩ = false := heap_frozen (HBZ.out _ hb); have y1 : wg.frozen? ⟨w9.heap.size, 1, none⟩ = false := heap_frozen (HBZ.out _ hb); have y2 : wg.frozen? ⟨w9.heap.size, 2, none⟩ = false := heap_frozen (HBZ.out _ hb); have y3 : wg.frozen? ⟨w9.heap.size, 3, none⟩ = false := heap_frozen (HBZ.out _ hb); have hcS := (((hcG.setCell (p := ⟨w9.heap.size, 0, none⟩) h99 (.int .i64 (unitOf og).kind)).setCell (p := ⟨w9.heap.size, 1, none⟩) h99 (.int .i64 (unitOf og).label)).setCell (p := ⟨w9.heap.size, 2, none⟩) h99 (.int .i64 (unitOf og).number)).setCell (p := ⟨w9.heap.size, 3, none⟩) h99 (.slice Au mu Cu); clear hb))
          all_goals
            go_wp2
            go_meet
            first | exact ⟨rfl, Lib.hid hcS⟩ | exact ⟨rfl, Lib.hid hcA⟩
        case rest =>
        obtain ⟨rfl, HQ5⟩ := hcut
        obtain ⟨wx, rfl⟩ : ∃ x, x = wc := ⟨wc, rfl⟩
        clear HOFC HGC HQ4 HQ3 HQ2 HQ1
        cases lost with
        | true =>
          have HV : Hid (Wr.rooms (ts.take (k + 1)) (xs.map Sx.s) = pre ++ [0]) := Lib.hid (by
            rw [HNX.out, HRM.out]
            congr 2 <;> (first | rfl | (simp; done) | (simp; omega)))
          obtain ⟨x0, x1, x2, x3, -⟩ := HS.out _ HQ5.out
          have hszx : wr.heap.size ≤ wx.heap.size := HQ5.out.size
          go_wp2_with (at_builtin; refine wpList_append_st' encI _ rfl _ _ _ rfl w.heap.size 3 _ 8 Tryz.underlying23 infoI rfl _ pre rfl ((HO.out.old HQ5.out).old ((Below.refl _ _).alloc (Nat.le_refl _) _)) ⟨wx.heap.size, 0, none⟩ 1 1 [0] rfl rfl (newCells _ [.int .i64 0] _) (by rw [HPL.out]; unfold maxLen; omega) (by rw [HPL.out]; omega) (by simp; omega) ?_; intro v' w3 hO3 hg3; have HO3 := Lib.hid hO3; have HG3 := Lib.hid hg3; clear hO3 hg3)
          have HB3 := Lib.hid (((HB.out.trans (HQ5.out.mono hsz)).alloc (by omega) _).grown HG3.out (by simp; omega) (fun x hx => (HO.out.lt x hx).1))
          go_roundw
          case rel => exact ⟨k + 1, _, by omega, by simp [HPL.out], by go_num, Lib.hid HV.out.symm, HO3, HB3⟩
          case measure => simp [intOf]; omega
        | false =>
          cases inn with
          | true =>
            have HV : Hid (Wr.rooms (ts.take (k + 1)) (xs.map Sx.s) = pre ++ [0]) := Lib.hid (by
              rw [HNX.out, HRM.out]
              congr 2 <;> (first | rfl | (simp; done) | (simp; omega)))
            obtain ⟨x0, x1, x2, x3, -⟩ := HS.out _ HQ5.out
            have hszx : wr.heap.size ≤ wx.heap.size := HQ5.out.size
            go_wp2_with (at_builtin; refine wpList_append_st' encI _ rfl _ _ _ rfl w.heap.size 3 _ 8 Tryz.underlying23 infoI rfl _ pre rfl ((HO.out.old HQ5.out).old ((Below.refl _ _).alloc (Nat.le_refl _) _)) ⟨wx.heap.size, 0, none⟩ 1 1 [0] rfl rfl (newCells _ [.int .i64 0] _) (by rw [HPL.out]; unfold maxLen; omega) (by rw [HPL.out]; omega) (by simp; omega) ?_; intro v' w3 hO3 hg3; have HO3 := Lib.hid hO3; have HG3 := Lib.hid hg3; clear hO3 hg3)
            have HB3 := Lib.hid (((HB.out.trans (HQ5.out.mono hsz)).alloc (by omega) _).grown HG3.out (by simp; omega) (fun x hx => (HO.out.lt x hx).1))
            go_roundw
            case rel => exact ⟨k + 1, _, by omega, by simp [HPL.out], by go_num, Lib.hid HV.out.symm, HO3, HB3⟩
            case measure => simp [intOf]; omega
          | false =>
            by_cases hz : N = 0
            · have dz : ((N : Int) == 0) = true := by rw [beq_iff_eq]; omega
              have HV : Hid (Wr.rooms (ts.take (k + 1)) (xs.map Sx.s) = pre ++ [(cap - (N : Int) - 1)]) := Lib.hid (by
                rw [HNX.out, HRM.out]
                congr 2 <;> (first | rfl | (simp; done) | (simp; omega)))
              have d0 : decide (cap - (N : Int) - 1 < 0) = false := decide_eq_false (by omega)
              clear hz
              obtain ⟨x0, x1, x2, x3, -⟩ := HS.out _ HQ5.out
              have hszx : wr.heap.size ≤ wx.heap.size := HQ5.out.size
              go_wp2_with (at_builtin; refine wpList_append_st' encI _ rfl _ _ _ rfl w.heap.size 3 _ 8 Tryz.underlying23 infoI rfl _ pre rfl ((HO.out.old HQ5.out).old ((Below.refl _ _).alloc (Nat.le_refl _) _)) ⟨wx.heap.size, 0, none⟩ 1 1 [(cap - (N : Int) - 1)] rfl rfl (newCells _ [.int .i64 (cap - (N : Int) - 1)] _) (by rw [HPL.out]; unfold maxLen; omega) (by rw [HPL.out]; omega) (by simp; omega) ?_; intro v' w3 hO3 hg3; have HO3 := Lib.hid hO3; have HG3 := Lib.hid hg3; clear hO3 hg3)
              have HB3 := Lib.hid (((HB.out.trans (HQ5.out.mono hsz)).alloc (by omega) _).grown HG3.out (by simp; omega) (fun x hx => (HO.out.lt x hx).1))
              go_roundw
              case rel => exact ⟨k + 1, _, by omega, by simp [HPL.out], by go_num, Lib.hid HV.out.symm, HO3, HB3⟩
              case measure => simp [intOf]; omega
            · cases okk with
              | true =>
                have dz : ((N : Int) == 0) = false := by rw [beq_eq_false_iff_ne]; omega
                have HV : Hid (Wr.rooms (ts.take (k + 1)) (xs.map Sx.s) = pre ++ [(cap - (N : Int))]) := Lib.hid (by
                  rw [HNX.out, HRM.out]
                  congr 2 <;> (first | rfl | (simp; done) | (simp; omega)))
                have d0 : decide (cap - (N : Int) < 0) = false := decide_eq_false (by omega)
                obtain ⟨x0, x1, x2, x3, -⟩ := HS.out _ HQ5.out
                have hszx : wr.heap.size ≤ wx.heap.size := HQ5.out.size
                go_wp2_with (at_builtin; refine wpList_append_st' encI _ rfl _ _ _ rfl w.heap.size 3 _ 8 Tryz.underlying23 infoI rfl _ pre rfl ((HO.out.old HQ5.out).old ((Below.refl _ _).alloc (Nat.le_refl _) _)) ⟨wx.heap.size, 0, none⟩ 1 1 [(cap - (N : Int))] rfl rfl (newCells _ [.int .i64 (cap - (N : Int))] _) (by rw [HPL.out]; unfold maxLen; omega) (by rw [HPL.out]; omega) (by simp; omega) ?_; intro v' w3 hO3 hg3; have HO3 := Lib.hid hO3; have HG3 := Lib.hid hg3; clear hO3 hg3)
                have HB3 := Lib.hid (((HB.out.trans (HQ5.out.mono hsz)).alloc (by omega) _).grown HG3.out (by simp; omega) (fun x hx => (HO.out.lt x hx).1))
                go_roundw
                case rel => exact ⟨k + 1, _, by omega, by simp [HPL.out], by go_num, Lib.hid HV.out.symm, HO3, HB3⟩
                case measure => simp [intOf]; omega
              | false =>
                have dz : ((N : Int) == 0) = false := by rw [beq_eq_false_iff_ne]; omega
                have HV : Hid (Wr.rooms (ts.take (k + 1)) (xs.map Sx.s) = pre ++ [0]) := Lib.hid (by
                  rw [HNX.out, HRM.out]
                  congr 2 <;> (first | rfl | (simp; done) | (simp; omega)))
                obtain ⟨x0, x1, x2, x3, -⟩ := HS.out _ HQ5.out
                have hszx : wr.heap.size ≤ wx.heap.size := HQ5.out.size
                go_wp2_with (at_builtin; refine wpList_append_st' encI _ rfl _ _ _ rfl w.heap.size 3 _ 8 Tryz.underlying23 infoI rfl _ pre rfl ((HO.out.old HQ5.out).old ((Below.refl _ _).alloc (Nat.le_refl _) _)) ⟨wx.heap.size, 0, none⟩ 1 1 [0] rfl rfl (newCells _ [.int .i64 0] _) (by rw [HPL.out]; unfold maxLen; omega) (by rw [HPL.out]; omega) (by simp; omega) ?_; intro v' w3 hO3 hg3; have HO3 := Lib.hid hO3; have HG3 := Lib.hid hg3; clear hO3 hg3)
                have HB3 := Lib.hid (((HB.out.trans (HQ5.out.mono hsz)).alloc (by omega) _).grown HG3.out (by simp; omega) (fun x hx => (HO.out.lt x hx).1))
                go_roundw
                case rel => exact ⟨k + 1, _, by omega, by simp [HPL.out], by go_num, Lib.hid HV.out.symm, HO3, HB3⟩
                case measure => simp [intOf]; omega
      · have dN : decide ((N : Int) < cap) = false := decide_eq_false hbig
        go_upto_region 6 with fail
        go_quiet (fail)
        have hq1 : Below wr.heap.size wr (wr.drewN nq) := ⟨rfl, rfl, rfl, Nat.le_refl _, fun _ _ => rfl⟩
        obtain ⟨e0, e1, e2, e3, -⟩ := HS.out _ hq1
        have HQ1 := Lib.hid hq1
        clear hq1 c0 c1 c2 c3
        generalize wr.drewN nq = wq at e0 e1 e2 e3 HQ1 ⊢
        obtain ⟨wp, hwp⟩ : ∃ x, x = wq := ⟨_, rfl⟩
        have HQ2 : Hid (Below wr.heap.size wr wp) := by rw [hwp]; exact HQ1
        obtain ⟨f0, f1, f2, f3, -⟩ := HS.out _ HQ2.out
        rw [← hwp]
        clear hwp e0 e1 e2 e3
        go_upto_region 9 with (go_at_call 34; refine (HOFC.out _ (HB.out.trans (HQ2.out.mono hsz))).mono ?_; rintro e w8 ⟨xo, rfl, -, -, hb⟩; rw [← HIN.out]; have HQ3 := Lib.hid (HQ2.out.trans (hb.mono HQ2.out.size)); clear hb f0 f1 f2 f3)
        obtain ⟨w9, hw9⟩ : ∃ x, x = w8.alloc (.cells #[.int .i64 xo.s.number, .int .i64 xo.s.index, .int .i64 xo.s.data, .int .i64 xo.s.parity, .slice xo.A xo.s.labels.length xo.C] 90) := ⟨_, rfl⟩
        have HQ4 : Hid (Below wr.heap.size wr w9) := Lib.hid (by rw [hw9]; exact HQ3.out.alloc HQ3.out.size _)
        rw [← hw9]
        clear hw9
        go_cut [10, 11] (fun vu vo wx => vo = .bool okk ∧ Hid (Below wr.heap.size wr wx))
        case first =>
          have hc0 : Below wr.heap.size wr w9.drew := HQ4.out.drew
          have hcZ : Below wr.heap.size wr ((w9.alloc (.cells #[.int .i64 0, .int .i64 0, .int .i64 0, .slice none 0 0] 48)).drew) := (HQ4.out.alloc HQ4.out.size _).drew
          have hw1 : IntKind.i64.wrap ((N : Int) - 1) = (N : Int) - 1 := by rw [IntKind.wrap_i64]; omega
          have hbz : ∀ y, Below ((w9.alloc (.cells #[.int .i64 0, .int .i64 0, .int .i64 0, .slice none 0 0] 48)).drew).heap.size ((w9.alloc (.cells #[.int .i64 0, .int .i64 0, .int .i64 0, .slice none 0 0] 48)).drew) y → y.heap[w9.heap.size]? = some (unitObj 0 0 0 none 0 0) := fun y hy => (hy.block w9.heap.size (by simp)).trans (Go.Deep.blk_alloc_new _ _)
          have HBZ := Lib.hid hbz
          have h99 : wr.heap.size ≤ w9.heap.size := HQ4.out.size
          clear hbz
          go_region_held3 (fun y => y.cell? ⟨b, off + k * 4, none⟩ = some (.int .i64 lab) ∧ y.cell? ⟨b, off + k * 4 + 1, none⟩ = some (.int .i64 cap) ∧ y.cell? ⟨b, off + k * 4 + 2, none⟩ = some (.slice A' N C') ∧ y.cell? ⟨b, off + k * 4 + 3, none⟩ = some (.bool lost) ∧ Below wr.heap.size wr y)
            (first
              | with_reducible exact HS.out _ hcS
              | with_reducible exact HS.out _ hcA
              | with_reducible exact HS.out _ hcA0
              | with_reducible exact HS.out _ hcG
              | with_reducible exact HS.out _ hcZ
              | with_reducible exact HS.out _ hc0)
            (first
              | (go_at_call 35; go_fit (HGC.out _ hc0); rintro e wg ⟨Au, mu, Cu, rfl, -, -, -, -, hb⟩; rw [← HOKK.out]; have hcG := hc0.trans (hb.mono hc0.size); have hcA0 := hcG.alloc hcG.size (.cells #[.int .i64 0, .int .i64 0, .int .i64 0, .slice none 0 0] 48); have hcA := hcG.alloc hcG.size (.cells #[.int .i64 (unitOf og).kind, .int .i64 (unitOf og).label, .int .i64 (unitOf og).number, .slice Au mu Cu] 48); clear hb)
              | (go_at_call 35; go_fit (HGC.out _ hcZ); rintro e wg ⟨Au, mu, Cu, rfl, -, -, -, -, hb⟩; rw [← HOKK.out]; have hcG := hcZ.trans (hb.mono hcZ.size); obtain ⟨z0, z1, z2, z3⟩ := unit4 (HBZ.out _ hb); have y0 : wg.frozen? ⟨w9.heap.size, 0, none⟩ = false := heap_frozen (HBZ.out _ hb); have y1 : wg.frozen? ⟨w9.heap.size, 1, none⟩ = false := heap_frozen (HBZ.out _ hb); have y2 : wg.frozen? ⟨w9.heap.size, 2, none⟩ = false := heap_frozen (HBZ.out _ hb); have y3 : wg.frozen? ⟨w9.heap.size, 3, none⟩ = false := heap_frozen (HBZ.out _ hb); have hcS := (((hcG.setCell (p := ⟨w9.heap.size, 0, none⟩) h99 (.int .i64 (unitOf og).kind)).setCell (p := ⟨w9.heap.size, 1, none⟩) h99 (.int .i64 (unitOf og).label)).setCell (p := ⟨w9.heap.size, 2, none⟩) h99 (.int .i64 (unitOf og).number)).setCell (p := ⟨w9.heap.size, 3, none⟩) h99 (.slice Au mu Cu); clear hb))
          all_goals
            go_wp2
            go_meet
            first | exact ⟨rfl, Lib.hid hcS⟩ | exact ⟨rfl, Lib.hid hcA⟩
        case rest =>
        obtain ⟨rfl, HQ5⟩ := hcut
        obtain ⟨wx, rfl⟩ : ∃ x, x = wc := ⟨wc, rfl⟩
        clear HOFC HGC HQ4 HQ3 HQ2 HQ1
        cases lost with
        | true =>
          have HV : Hid (Wr.rooms (ts.take (k + 1)) (xs.map Sx.s) = pre ++ [0]) := Lib.hid (by
            rw [HNX.out, HRM.out]
            congr 2 <;> (first | rfl | (simp; done) | (simp; omega)))
          obtain ⟨x0, x1, x2, x3, -⟩ := HS.out _ HQ5.out
          have hszx : wr.heap.size ≤ wx.heap.size := HQ5.out.size
          go_wp2_with (at_builtin; refine wpList_append_st' encI _ rfl _ _ _ rfl w.heap.size 3 _ 8 Tryz.underlying23 infoI rfl _ pre rfl ((HO.out.old HQ5.out).old ((Below.refl _ _).alloc (Nat.le_refl _) _)) ⟨wx.heap.size, 0, none⟩ 1 1 [0] rfl rfl (newCells _ [.int .i64 0] _) (by rw [HPL.out]; unfold maxLen; omega) (by rw [HPL.out]; omega) (by simp; omega) ?_; intro v' w3 hO3 hg3; have HO3 := Lib.hid hO3; have HG3 := Lib.hid hg3; clear hO3 hg3)
          have HB3 := Lib.hid (((HB.out.trans (HQ5.out.mono hsz)).alloc (by omega) _).grown HG3.out (by simp; omega) (fun x hx => (HO.out.lt x hx).1))
          go_roundw
          case rel => exact ⟨k + 1, _, by omega, by simp [HPL.out], by go_num, Lib.hid HV.out.symm, HO3, HB3⟩
          case measure => simp [intOf]; omega
        | false =>
          cases inn with
          | true =>
            have HV : Hid (Wr.rooms (ts.take (k + 1)) (xs.map Sx.s) = pre ++ [0]) := Lib.hid (by
              rw [HNX.out, HRM.out]
              congr 2 <;> (first | rfl | (simp; done) | (simp; omega)))
            obtain ⟨x0, x1, x2, x3, -⟩ := HS.out _ HQ5.out
            have hszx : wr.heap.size ≤ wx.heap.size := HQ5.out.size
            go_wp2_with (at_builtin; refine wpList_append_st' encI _ rfl _ _ _ rfl w.heap.size 3 _ 8 Tryz.underlying23 infoI rfl _ pre rfl ((HO.out.old HQ5.out).old ((Below.refl _ _).alloc (Nat.le_refl _) _)) ⟨wx.heap.size, 0, none⟩ 1 1 [0] rfl rfl (newCells _ [.int .i64 0] _) (by rw [HPL.out]; unfold maxLen; omega) (by rw [HPL.out]; omega) (by simp; omega) ?_; intro v' w3 hO3 hg3; have HO3 := Lib.hid hO3; have HG3 := Lib.hid hg3; clear hO3 hg3)
            have HB3 := Lib.hid (((HB.out.trans (HQ5.out.mono hsz)).alloc (by omega) _).grown HG3.out (by simp; omega) (fun x hx => (HO.out.lt x hx).1))
            go_roundw
            case rel => exact ⟨k + 1, _, by omega, by simp [HPL.out], by go_num, Lib.hid HV.out.symm, HO3, HB3⟩
            case measure => simp [intOf]; omega
          | false =>
            by_cases hz : N = 0
            · have dz : ((N : Int) == 0) = true := by rw [beq_iff_eq]; omega
              have HV : Hid (Wr.rooms (ts.take (k + 1)) (xs.map Sx.s) = pre ++ [0]) := Lib.hid (by
                rw [HNX.out, HRM.out]
                congr 2 <;> (first | rfl | (simp; done) | (simp; omega)))
              clear hz
              obtain ⟨x0, x1, x2, x3, -⟩ := HS.out _ HQ5.out
              have hszx : wr.heap.size ≤ wx.heap.size := HQ5.out.size
              go_wp2_with (at_builtin; refine wpList_append_st' encI _ rfl _ _ _ rfl w.heap.size 3 _ 8 Tryz.underlying23 infoI rfl _ pre rfl ((HO.out.old HQ5.out).old ((Below.refl _ _).alloc (Nat.le_refl _) _)) ⟨wx.heap.size, 0, none⟩ 1 1 [0] rfl rfl (newCells _ [.int .i64 0] _) (by rw [HPL.out]; unfold maxLen; omega) (by rw [HPL.out]; omega) (by simp; omega) ?_; intro v' w3 hO3 hg3; have HO3 := Lib.hid hO3; have HG3 := Lib.hid hg3; clear hO3 hg3)
              have HB3 := Lib.hid (((HB.out.trans (HQ5.out.mono hsz)).alloc (by omega) _).grown HG3.out (by simp; omega) (fun x hx => (HO.out.lt x hx).1))
              go_roundw
              case rel => exact ⟨k + 1, _, by omega, by simp [HPL.out], by go_num, Lib.hid HV.out.symm, HO3, HB3⟩
              case measure => simp [intOf]; omega
            · cases okk with
              | true =>
                have dz : ((N : Int) == 0) = false := by rw [beq_eq_false_iff_ne]; omega
                have HV : Hid (Wr.rooms (ts.take (k + 1)) (xs.map Sx.s) = pre ++ [0]) := Lib.hid (by
                  rw [HNX.out, HRM.out]
                  congr 2 <;> (first | rfl | (simp; done) | (simp; omega)))
                obtain ⟨x0, x1, x2, x3, -⟩ := HS.out _ HQ5.out
                have hszx : wr.heap.size ≤ wx.heap.size := HQ5.out.size
                go_wp2_with (at_builtin; refine wpList_append_st' encI _ rfl _ _ _ rfl w.heap.size 3 _ 8 Tryz.underlying23 infoI rfl _ pre rfl ((HO.out.old HQ5.out).old ((Below.refl _ _).alloc (Nat.le_refl _) _)) ⟨wx.heap.size, 0, none⟩ 1 1 [0] rfl rfl (newCells _ [.int .i64 0] _) (by rw [HPL.out]; unfold maxLen; omega) (by rw [HPL.out]; omega) (by simp; omega) ?_; intro v' w3 hO3 hg3; have HO3 := Lib.hid hO3; have HG3 := Lib.hid hg3; clear hO3 hg3)
                have HB3 := Lib.hid (((HB.out.trans (HQ5.out.mono hsz)).alloc (by omega) _).grown HG3.out (by simp; omega) (fun x hx => (HO.out.lt x hx).1))
                go_roundw
                case rel => exact ⟨k + 1, _, by omega, by simp [HPL.out], by go_num, Lib.hid HV.out.symm, HO3, HB3⟩
                case measure => simp [intOf]; omega
              | false =>
                have dz : ((N : Int) == 0) = false := by rw [beq_eq_false_iff_ne]; omega
                have HV : Hid (Wr.rooms (ts.take (k + 1)) (xs.map Sx.s) = pre ++ [0]) := Lib.hid (by
                  rw [HNX.out, HRM.out]
                  congr 2 <;> (first | rfl | (simp; done) | (simp; omega)))
                obtain ⟨x0, x1, x2, x3, -⟩ := HS.out _ HQ5.out
                have hszx : wr.heap.size ≤ wx.heap.size := HQ5.out.size
                go_wp2_with (at_builtin; refine wpList_append_st' encI _ rfl _ _ _ rfl w.heap.size 3 _ 8 Tryz.underlying23 infoI rfl _ pre rfl ((HO.out.old HQ5.out).old ((Below.refl _ _).alloc (Nat.le_refl _) _)) ⟨wx.heap.size, 0, none⟩ 1 1 [0] rfl rfl (newCells _ [.int .i64 0] _) (by rw [HPL.out]; unfold maxLen; omega) (by rw [HPL.out]; omega) (by simp; omega) ?_; intro v' w3 hO3 hg3; have HO3 := Lib.hid hO3; have HG3 := Lib.hid hg3; clear hO3 hg3)
                have HB3 := Lib.hid (((HB.out.trans (HQ5.out.mono hsz)).alloc (by omega) _).grown HG3.out (by simp; omega) (fun x hx => (HO.out.lt x hx).1))
                go_roundw
                case rel => exact ⟨k + 1, _, by omega, by simp [HPL.out], by go_num, Lib.hid HV.out.symm, HO3, HB3⟩
                case measure => simp [intOf]; omega
    · have HE : Hid (Wr.rooms ts (xs.map Sx.s) = pre) := Lib.hid (by rw [HP.out, List.take_of_length_le (by rw [← HL1.out]; omega)])
      obtain ⟨Ao, Co, hv, g1, g2, g3, g4⟩ := HO.out.rd
      subst hv
      have H3 := Lib.hid g3
      have H4 := Lib.hid g4
      clear g3 g4
      go_wp2
      go_ret
      rw [HE.out]
      exact ⟨Ao, Co, rfl, g1, g2, H3.out, (encI_rd H4.out).mono fun x hx => hx.1, HB.out⟩
end Go.Proofs.YtndofmoepjfnfaaGreat
namespace Go.Proofs.YtndofmoepjfnfaaGreat
open Go.RowKit
open Pt (Tx)

/-- a piece, as a slice -/
structure Pc where
  A : Option Addr
  n : Nat
  C : Nat
/-- the piece k of L bytes -/
def pcAt (b off L k : Nat) : Pc := ⟨some ⟨b, off + 64 * k, none⟩, min 64 (L - 64 * k), min 64 (L - 64 * k)⟩
/-- what has come when k rounds are over -/
def pcs (b off L k : Nat) : List Pc := (List.range k).map (pcAt b off L)
theorem pcs_succ (b off L k : Nat) : pcs b off L (k + 1) = pcs b off L k ++ [pcAt b off L k] := by simp [pcs, List.range_succ]
theorem pcs_len (b off L k : Nat) : (pcs b off L k).length = k := by simp [pcs]
/-- a unit as it lies in a row: its kind, and its load -/
structure Uv where
  kind : Int
  A : Option Addr
  n : Nat
  C : Nat
def cells4 (u : Uv) : List Value := [.int .i64 u.kind, .int .i64 0, .int .i64 0, .slice u.A u.n u.C]
def encU : Enc Uv where
  k := 4
  pos := by decide
  enc u := cells4 u
  len _ := rfl
  one q u hu := by
    simp only [cells4, List.mem_cons, List.not_mem_nil, or_false] at hu
    rcases hu with rfl | rfl | rfl | rfl <;> rfl
/-- a piece's unit -/
def pu (p : Pc) : Uv := ⟨3, p.A, p.n, p.C⟩
def uvs (Ah : Option Addr) (nh Ch : Nat) (ps : List Pc) : List Uv := ⟨2, Ah, nh, Ch⟩ :: ps.map pu
theorem uvs_snoc (Ah : Option Addr) (nh Ch : Nat) (ps : List Pc) (p : Pc) : uvs Ah nh Ch (ps ++ [p]) = uvs Ah nh Ch ps ++ [pu p] := by simp [uvs]
end Go.Proofs.YtndofmoepjfnfaaGreat
