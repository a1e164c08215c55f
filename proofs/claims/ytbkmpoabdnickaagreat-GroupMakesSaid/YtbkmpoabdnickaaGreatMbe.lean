/- What the document's own SameRows, SameTape and SameTapes answer where all is the same, lost tapes too. What the walk is told of bytes that came in as an argument, as a list. What the walk is told of a []byte, and of a unit, in whose place stands what lies in its cells. What the walk is told of a tape that came in as an argument. No function of the program. What the walk is told of a row of tapes that came in as an argument. No function of the program. -/
import Derived.Test.YtbkmpoabdnickaaGreatMae
import Derived.Test.YtbkmpoabdnickaaGreatMal
import Derived.Deep.RegionHeld3
import Derived.BigQuiet
import Derived.Deep.DeepFit
import Derived.Test.YtbkmpoabdnickaaGreatMac
import Derived.Test.YtbkmpoabdnickaaGreatMaf
import Derived.Deep.Slices
import Derived.Deep.Fields
import Derived.Lib.SmallJoins
namespace Go.Proofs.YtbkmpoabdnickaaGreat
open Go.RowKit
open Pt (Tx)

set_option maxHeartbeats 1000000 in
theorem sameRowsL_yes (A : Option Addr) (C : Nat) (bs : List Tx) (G : Nat → Prop) (A' : Option Addr) (C' : Nat) (G' : Nat → Prop) (n : Nat) (w : World) (hn : bs.length = n) (hm : n ≤ 1000000) (h : RdB w A bs G) (h' : RdB w A' bs G') :
    Calls Tryz.prog 58 #[.slice A n C, .slice A' n C'] w (AnsB true w) := by
  have H := Lib.hid h
  have H' := Lib.hid h'
  have HN := Lib.hid hn
  clear h h' hn
  go_enter Tryz.func58, Tryz.ntmps58
  go_wp2
  go_loopw [5] (fun vi wr => ∃ i : Nat, i ≤ n ∧ vi = .int .i64 (i : Int) ∧ Hid (Below w.heap.size w wr)) (fun vi _ => n - (intOf vi).toNat)
  case atStart => exact ⟨0, by omega, rfl, Lib.hid (Below.refl _ _)⟩
  case round =>
    obtain ⟨i, hi, rfl, HB⟩ := hrel
    by_cases hlt : i < n
    · have hlt' : i < bs.length := by rw [HN.out]; exact hlt
      obtain ⟨b0, off0, Ai, Ci, rfl, _, d1, _, _, hr1⟩ := (H.out.old HB.out).at_ hlt'
      obtain ⟨b1, off1, Aj, Cj, rfl, _, d2, _, _, hr2⟩ := (H'.out.old HB.out).at_ hlt'
      have s1 := fun q => RdL.str (w := wr.drewN q) (hr1.keep fun _ _ _ h => h) Ci
      have s2 := fun q => RdL.str (w := wr.drewN q) (hr2.keep fun _ _ _ h => h) Cj
      clear hr1 hr2
      generalize bs[i] = s at *
      go_wp2
      go_quiet (fail)
      clear s1 s2 d1 d2
      go_wp2
      go_roundw
      case rel => exact ⟨i + 1, by omega, by go_num, Lib.hid ⟨HB.out.os, HB.out.tape, HB.out.output, HB.out.size, HB.out.block⟩⟩
      case measure => simp [intOf]; omega
    · go_wp2
      go_ret
      exact ⟨rfl, HB.out⟩
set_option maxHeartbeats 1000000 in
theorem sameTapeL_yes (lab cap : Int) (lost : Bool) (A : Option Addr) (C : Nat) (bs : List Tx) (G : Nat → Prop) (A' : Option Addr) (C' : Nat) (G' : Nat → Prop) (n : Nat) (w : World) (hn : bs.length = n) (hm : n ≤ 1000000) (h : RdB w A bs G) (h' : RdB w A' bs G') :
    Calls Tryz.prog 29 #[.agg #[.int .i64 lab, .int .i64 cap, .slice A n C, .bool lost], .agg #[.int .i64 lab, .int .i64 cap, .slice A' n C', .bool lost]] w (AnsB true w) := by
  have hB : Below w.heap.size w ((w.alloc (.cells #[.int .i64 lab, .int .i64 cap, .slice A n C, .bool lost] 49)).alloc (.cells #[.int .i64 lab, .int .i64 cap, .slice A' n C', .bool lost] 49)) := ((Below.refl _ _).alloc (Nat.le_refl _) _).alloc (by simp) _
  have H := Lib.hid (h.old hB)
  have H' := Lib.hid (h'.old hB)
  have HN := Lib.hid hn
  have HB := Lib.hid hB
  have q : (lost == lost) = true := by simp
  clear h h' hn hB
  go_enter Tryz.func29, Tryz.ntmps29
  go_wp2_with (go_at_call 58; refine (sameRowsL_yes A C bs G A' C' G' n _ HN.out hm H.out H'.out).mono ?_; rintro e w1 ⟨rfl, hb⟩; have HB1 := Lib.hid hb; clear hb)
  go_ret
  exact ⟨rfl, HB.out.trans (HB1.out.mono HB.out.size)⟩
set_option maxRecDepth 100000 in
set_option maxHeartbeats 4000000 in
theorem sameTapes_yes (A : Option Addr) (C : Nat) (ts : List St.T) (G : Nat → Prop) (A' : Option Addr) (C' : Nat) (G' : Nat → Prop) (n : Nat) (w : World) (hn : ts.length = n) (hm : n ≤ 1000000) (hl : ∀ t ∈ ts, t.blocks.length ≤ 1000000) (h : RdT w A ts G) (h' : RdT w A' ts G') :
    Calls Tryz.prog 9 #[.slice A n C, .slice A' n C'] w (AnsB true w) := by
  have H := Lib.hid h
  have H' := Lib.hid h'
  have HN := Lib.hid hn
  have HL := Lib.hid hl
  clear h h' hn hl
  go_enter Tryz.func9, Tryz.ntmps9
  go_wp2
  go_loopw [5] (fun vi wr => ∃ i : Nat, i ≤ n ∧ vi = .int .i64 (i : Int) ∧ Hid (Below w.heap.size w wr)) (fun vi _ => n - (intOf vi).toNat)
  case atStart => exact ⟨0, by omega, rfl, Lib.hid (Below.refl _ _)⟩
  case round =>
    obtain ⟨i, hi, rfl, HB⟩ := hrel
    by_cases hlt : i < n
    · have e0 : decide (i < n) = true := decide_eq_true hlt
      have hlt' : i < ts.length := by rw [HN.out]; exact hlt
      obtain ⟨b, off, Ai, Ci, rfl, -, c0, c1, c2, c3, hr1⟩ := (H.out.old HB.out).at_ hlt'
      obtain ⟨b', off', Aj, Cj, rfl, -, d0, d1, d2, d3, hr2⟩ := (H'.out.old HB.out).at_ hlt'
      have hlb := HL.out _ (List.getElem_mem hlt')
      generalize ts[i] = t at *
      obtain ⟨lab, cap, bs, lost⟩ := t
      dsimp only at c0 c1 c2 c3 d0 d1 d2 d3 hr1 hr2 hlb
      obtain ⟨m, hmm⟩ : ∃ m, m = bs.length := ⟨_, rfl⟩
      rw [← hmm] at c2 d2 hlb
      have HM := Lib.hid hmm.symm
      have hS8 : Hid (∀ y, Below wr.heap.size wr y → (y.cell? ⟨b, off + i * 4, none⟩ = some (.int .i64 lab) ∧ y.cell? ⟨b, off + i * 4 + 1, none⟩ = some (.int .i64 cap) ∧ y.cell? ⟨b, off + i * 4 + 2, none⟩ = some (.slice Ai m Ci) ∧ y.cell? ⟨b, off + i * 4 + 3, none⟩ = some (.bool lost) ∧ y.cell? ⟨b', off' + i * 4, none⟩ = some (.int .i64 lab) ∧ y.cell? ⟨b', off' + i * 4 + 1, none⟩ = some (.int .i64 cap) ∧ y.cell? ⟨b', off' + i * 4 + 2, none⟩ = some (.slice Aj m Cj) ∧ y.cell? ⟨b', off' + i * 4 + 3, none⟩ = some (.bool lost))) := Lib.hid fun y hy => ⟨(hy.cell (World.block_lt_of_cell? _ _ c0)).trans c0, (hy.cell (World.block_lt_of_cell? _ _ c1)).trans c1, (hy.cell (World.block_lt_of_cell? _ _ c2)).trans c2, (hy.cell (World.block_lt_of_cell? _ _ c3)).trans c3, (hy.cell (World.block_lt_of_cell? _ _ d0)).trans d0, (hy.cell (World.block_lt_of_cell? _ _ d1)).trans d1, (hy.cell (World.block_lt_of_cell? _ _ d2)).trans d2, (hy.cell (World.block_lt_of_cell? _ _ d3)).trans d3⟩
      have hbd : Below wr.heap.size wr wr.drew := (Below.refl _ _).drew
      have HRX := Lib.hid (hr1.old hbd)
      have HRY := Lib.hid (hr2.old hbd)
      have HBD := Lib.hid (HB.out.trans (hbd.mono HB.out.size))
      have HD := Lib.hid hbd
      have s0 := hS8.out _ hbd
      have i0 : (0 : Int) ≤ (i : Int) := by omega
      have i1 : (i : Int) < (n : Int) := by omega
      clear hr1 hr2 hmm hbd c0 c1 c2 c3 d0 d1 d2 d3
      go_wp2
      go_region_held3 (fun y => (y.cell? ⟨b, off + i * 4, none⟩ = some (.int .i64 lab) ∧ y.cell? ⟨b, off + i * 4 + 1, none⟩ = some (.int .i64 cap) ∧ y.cell? ⟨b, off + i * 4 + 2, none⟩ = some (.slice Ai m Ci) ∧ y.cell? ⟨b, off + i * 4 + 3, none⟩ = some (.bool lost) ∧ y.cell? ⟨b', off' + i * 4, none⟩ = some (.int .i64 lab) ∧ y.cell? ⟨b', off' + i * 4 + 1, none⟩ = some (.int .i64 cap) ∧ y.cell? ⟨b', off' + i * 4 + 2, none⟩ = some (.slice Aj m Cj) ∧ y.cell? ⟨b', off' + i * 4 + 3, none⟩ = some (.bool lost)))
        (first
          | exact s0
          | exact s1)
        (first
          | (go_at_call 29; refine (sameTapeL_yes lab cap lost Ai Ci bs _ Aj Cj _ m _ HM.out hlb HRX.out HRY.out).mono ?_; rintro e wg ⟨rfl, hbg⟩; have s1 := hS8.out _ (HD.out.trans (hbg.mono HD.out.size)); have HBG := Lib.hid (HBD.out.trans (hbg.mono HBD.out.size)); clear hbg))
      all_goals
        clear s0 s1
        go_wp2
        go_roundw
        case rel => exact ⟨i + 1, by omega, by go_num, HBG⟩
        case measure => simp [intOf]; omega
    · have e0 : decide (i < n) = false := decide_eq_false hlt
      go_wp2
      go_ret
      exact ⟨rfl, HB.out⟩
end Go.Proofs.YtbkmpoabdnickaaGreat
namespace Go.Proofs.YtbkmpoabdnickaaGreat
open Go.RowKit Mx Go.ChangeShapes Go.WideShapes
open Pt (Tx)

section
variable {H : Type} {enc : TypeId × Value → H} {w : World} {base fuel : Nat} {held : Bool} {a : Option Addr} {len cap : Nat} {x : DataW H × List MemPlace}
/-- bytes, as a list -/
theorem open_rdL (h : DataW.trod enc Tryz.prog w base (fun _ => true) held fuel 42 (Value.slice a len cap).cells.toList = some x) :
    cap ≤ maxLen ∧ len ≤ cap ∧ (a = none → len = 0 ∧ cap = 0) ∧ ∃ l : Tx, l.length = len ∧ RdL w a l (fun _ => True) := by
  rcases open_ints Tryz.underlying42 Tryz.underlying5 (by kernel_rfl) h with ⟨hcs, _⟩ | ⟨y, l, c, zs, hcs, _, hl, hm, hz, _, hcell, hwz⟩
  · simp [Value.cells] at hcs
    obtain ⟨rfl, rfl, rfl⟩ := hcs
    exact ⟨by decide, Nat.le_refl _, fun _ => ⟨rfl, rfl⟩, [], rfl, RdL.empty _ _ _⟩
  · simp [Value.cells] at hcs
    obtain ⟨rfl, rfl, rfl⟩ := hcs
    have hz' : zs.length = cap := by simpa using hz
    refine ⟨hm, hl, (fun h => by cases h), (List.range len).map fun i => UInt8.ofNat (zs.getD i 0).toNat, by simp, fun h0 => ?_⟩
    simp at h0
    obtain ⟨b, off, spot⟩ := y
    have hs : spot = none := by simpa [Addr.add] using World.cell?_spot (hcell 0 (by omega))
    subst hs
    refine ⟨b, off, rfl, trivial, fun j hj => ?_⟩
    have hj' : j < len := by simpa using hj
    have hc := hcell j (by omega)
    rw [addr_add] at hc
    have hw := fi_feOf (getD_wf hwz (c := j) (by omega))
    rw [hc]
    have hr : 0 ≤ zs.getD j 0 ∧ zs.getD j 0 < 256 := by have h1 := fi_lo (feOf (zs.getD j 0)); have h2 := fi_hi (feOf (zs.getD j 0)); rw [hw] at h1 h2; exact ⟨h1, h2⟩
    simp only [List.getElem_map, List.getElem_range, UInt8.toNat_ofNat']
    rw [Nat.mod_eq_of_lt (show (zs.getD j 0).toNat < 2 ^ 8 by have := hr.2; have := hr.1; omega)]
    congr 2
    have := hr.1
    omega
end
end Go.Proofs.YtbkmpoabdnickaaGreat
namespace Go.Proofs.YtbkmpoabdnickaaGreat
open Go.RowKit Mx Go.ChangeShapes Go.WideShapes Go.Joins
open Pt (Tx)

theorem cellsInt8 : Tryz.prog.cellsOf 3 = 1 := by kernel_rfl
theorem cellsRow8 : Tryz.prog.cellsOf 42 = 1 := by kernel_rfl
section
variable {H : Type} {enc : TypeId × Value → H} {w : World} {base fuel : Nat} {held : Bool} {x : DataW H × List MemPlace}
theorem open_row8 {cs : List Value} (h : DataW.trod enc Tryz.prog w base (fun _ => true) held fuel 42 cs = some x) :
    ∃ (a : Option Addr) (cap : Nat) (t : Tx), cs = [.slice a t.length cap] ∧ t.length ≤ cap ∧ (a = none → t.length = 0 ∧ cap = 0) ∧ RdL w a t (fun _ => True) := by
  have key : ∃ a len cap, cs = [Value.slice a len cap] := by
    rcases open_ints Tryz.underlying42 Tryz.underlying5 (by kernel_rfl) h with ⟨hcs, _⟩ | ⟨y, l, c, zs, hcs, _⟩
    · exact ⟨_, _, _, hcs⟩
    · exact ⟨_, _, _, hcs⟩
  obtain ⟨a, len, cap, rfl⟩ := key
  have h' : DataW.trod enc Tryz.prog w base (fun _ => true) held fuel 42 (Value.slice a len cap).cells.toList = some x := h
  obtain ⟨_, h2, h3, t, rfl, h4⟩ := open_rdL h'
  exact ⟨a, cap, t, rfl, h2, h3, h4⟩
end
end Go.Proofs.YtbkmpoabdnickaaGreat
namespace Go.Proofs.YtbkmpoabdnickaaGreat
open Go.RowKit Mx Go.ChangeShapes Go.WideShapes Go.Joins
open Pt (Tx)

set_option maxRecDepth 100000 in
theorem cellsTape : Tryz.prog.cellsOf 49 = 4 := by kernel_rfl
section
variable {H : Type} {enc : TypeId × Value → H} {w : World} {base fuel : Nat} {held : Bool} {x : DataW H × List MemPlace}
set_option maxRecDepth 100000 in
theorem open_blocks {cs : List Value} (h : DataW.trod enc Tryz.prog w base (fun _ => true) held fuel 47 cs = some x) :
    ∃ (a : Option Addr) (cap : Nat) (bs : List Tx), cs = [.slice a bs.length cap] ∧ bs.length ≤ maxLen ∧ RdB w a bs (fun _ => True) := by
  rcases Go.Deep.open_slice Tryz.underlying47 h with ⟨hcs, _⟩ | ⟨y, l, c, m, n, D, Pl, hcs, hb, hl, hm, hmm, _, hi⟩
  · exact ⟨none, 0, [], hcs, by decide, RdB.empty _ _ _⟩
  · have hm' : m = c := by simpa using hmm
    have key : ∀ i, ∃ t : Tx, i < l → ∃ A' C', w.cell? (y.add i) = some (.slice A' t.length C') ∧ t.length ≤ C' ∧ (A' = none → t.length = 0 ∧ C' = 0) ∧ RdL w A' t (fun _ => True) := by
      intro i
      by_cases hil : i < l
      · obtain ⟨cs', h1, h2⟩ := hi i (by omega)
        rw [cellsRow8, Nat.mul_one] at h1
        obtain ⟨_, _, h4⟩ := World.cells?_some h1
        obtain ⟨A', C', t, rfl, g1, g2, g3⟩ := open_row8 h2
        refine ⟨t, fun _ => ⟨A', C', ?_, g1, g2, g3⟩⟩
        have := h4 0 (by omega)
        rw [Go.Deep.add_add] at this
        simpa using this
      · exact ⟨[], fun h => absurd h hil⟩
    refine ⟨some y, c, (List.range l).map fun i => (key i).choose, by simpa using hcs, by simp; omega, fun h0 => ?_⟩
    have h0' : 0 < l := by simpa using h0
    obtain ⟨b, off, spot⟩ := y
    obtain ⟨A0, C0, k0, _⟩ := (key 0).choose_spec h0'
    have hs : spot = none := by simpa [Addr.add] using World.cell?_spot k0
    subst hs
    refine ⟨b, off, rfl, trivial, fun i hil => ?_⟩
    have hil' : i < l := by simpa using hil
    obtain ⟨A', C', c1, c2, c3, c4⟩ := (key i).choose_spec hil'
    refine ⟨A', C', ?_, ?_, ?_, ?_⟩
    · have c1' := (congrArg w.cell? (addr_add b off i).symm).trans c1
      simpa using c1'
    · simpa using c2
    · simpa using c3
    · simpa using c4
set_option maxRecDepth 100000 in
/-- a tape, by value -/
theorem open_tape {r : Reach} {b0 : Nat} {v : Value} {d : DataW H} {p : List MemPlace} (hv : Value.okWide Tryz.prog w r b0 49 v) (h : DataW.Trod enc Tryz.prog w base (fun _ => true) held 49 v d p) :
    ∃ (lab cap : Int) (a : Option Addr) (C : Nat) (bs : List Tx) (lost : Bool), v = .agg #[.int .i64 lab, .int .i64 cap, .slice a bs.length C, .bool lost] ∧ bs.length ≤ maxLen ∧ RdB w a bs (fun _ => True) := by
  obtain ⟨v0, v1, v2, v3, y0, y1, y2, y3, n, rfl, _, _, h0, h1, h2, h3⟩ := open_agg4 Tryz.underlying49 (by kernel_rfl) cellsTape hv h
  obtain ⟨lab, e0, -, -⟩ := DataW.trod_int (cs := [v0]) Tryz.underlying3 h0
  obtain ⟨cap, e1, -, -⟩ := DataW.trod_int (cs := [v1]) Tryz.underlying3 h1
  obtain ⟨a, C, bs, e2, k1, k2⟩ := open_blocks (cs := [v2]) h2
  obtain ⟨lost, e3, -⟩ := DataW.trod_bool (cs := [v3]) Tryz.underlying4 h3
  simp only [List.cons.injEq, and_true] at e0 e1 e2 e3
  exact ⟨lab, cap, a, C, bs, lost, by rw [e0, e1, e2, e3], k1, k2⟩
end
end Go.Proofs.YtbkmpoabdnickaaGreat
namespace Go.Proofs.YtbkmpoabdnickaaGreat
open Go.RowKit Mx Go.ChangeShapes Go.WideShapes Go.Joins
open Pt (Tx)

section
variable {H : Type} {enc : TypeId × Value → H} {w : World} {base fuel : Nat} {held : Bool} {x : DataW H × List MemPlace}
set_option maxRecDepth 100000 in
theorem tape_cells {n : Nat} {cs : List Value} {y : DataW H × List MemPlace} (h : DataW.trod enc Tryz.prog w base (fun _ => true) held n 49 cs = some y) :
    ∃ (lab cap : Int) (a : Option Addr) (C : Nat) (bs : List Tx) (lost : Bool), cs = [.int .i64 lab, .int .i64 cap, .slice a bs.length C, .bool lost] ∧ bs.length ≤ maxLen ∧ RdB w a bs (fun _ => True) := by
  obtain ⟨xs, m, _, _, h3, hxl, hf⟩ := DataW.trod_struct Tryz.underlying49 h
  rw [cellsTape] at h3
  have h0 := hf 0 _ rfl
  have h1 := hf 1 _ rfl
  have h2 := hf 2 _ rfl
  have h4 := hf 3 _ rfl
  match cs, h3 with
  | [v0, v1, v2, v3], _ =>
    match xs, hxl with
    | [x0, x1, x2, x3], _ =>
      have g0 : DataW.trod enc Tryz.prog w base (fun _ => true) held m 3 (([v0, v1, v2, v3].drop 0).take (Tryz.prog.cellsOf 3)) = some x0 := h0
      have g1 : DataW.trod enc Tryz.prog w base (fun _ => true) held m 3 (([v0, v1, v2, v3].drop 1).take (Tryz.prog.cellsOf 3)) = some x1 := h1
      have g2 : DataW.trod enc Tryz.prog w base (fun _ => true) held m 47 (([v0, v1, v2, v3].drop 2).take (Tryz.prog.cellsOf 47)) = some x2 := h2
      have g3 : DataW.trod enc Tryz.prog w base (fun _ => true) held m 4 (([v0, v1, v2, v3].drop 3).take (Tryz.prog.cellsOf 4)) = some x3 := h4
      rw [cellsInt8] at g0 g1
      rw [show Tryz.prog.cellsOf 47 = 1 by kernel_rfl] at g2
      rw [show Tryz.prog.cellsOf 4 = 1 by kernel_rfl] at g3
      obtain ⟨p, e0, -, -⟩ := DataW.trod_int (cs := [v0]) Tryz.underlying3 g0
      obtain ⟨q, e1, -, -⟩ := DataW.trod_int (cs := [v1]) Tryz.underlying3 g1
      obtain ⟨a, C, bs, e2, k1, k2⟩ := open_blocks (cs := [v2]) g2
      obtain ⟨lost, e3, -⟩ := DataW.trod_bool (cs := [v3]) Tryz.underlying4 g3
      refine ⟨p, q, a, C, bs, lost, ?_, k1, k2⟩
      simp only [List.cons.injEq, and_true] at e0 e1 e2 e3
      rw [e0, e1, e2, e3]
set_option maxRecDepth 100000 in
theorem open_tapes {T : TypeId} (hT : Tryz.prog.underlying T = some (.slice 49)) {a : Option Addr} {len cap : Nat} (h : DataW.trod enc Tryz.prog w base (fun _ => true) held fuel T (Value.slice a len cap).cells.toList = some x) :
    len ≤ cap ∧ cap ≤ maxLen ∧ ∃ ts : List St.T, ts.length = len ∧ (∀ t ∈ ts, t.blocks.length ≤ maxLen) ∧ RdT w a ts (fun _ => True) := by
  rcases Go.Deep.open_slice hT h with ⟨hcs, _⟩ | ⟨y, l, c, m, n, D, Pl, hcs, hb, hl, hm, hmm, _, hi⟩
  · simp [Value.cells] at hcs
    obtain ⟨rfl, rfl, rfl⟩ := hcs
    exact ⟨Nat.le_refl _, by decide, [], rfl, (fun t ht => by cases ht), RdT.empty _ _ _⟩
  · simp [Value.cells] at hcs
    obtain ⟨rfl, rfl, rfl⟩ := hcs
    have hm' : m = cap := by simpa using hmm
    have key : ∀ i, ∃ t : St.T, i < len → ∃ A' C', w.cell? (y.add (i * 4)) = some (.int .i64 t.label) ∧ w.cell? (y.add (i * 4 + 1)) = some (.int .i64 t.cap) ∧ w.cell? (y.add (i * 4 + 2)) = some (.slice A' t.blocks.length C') ∧ w.cell? (y.add (i * 4 + 3)) = some (.bool t.lost) ∧ t.blocks.length ≤ maxLen ∧ RdB w A' t.blocks (fun _ => True) := by
      intro i
      by_cases hil : i < len
      · obtain ⟨cs', h1, h2⟩ := hi i (by omega)
        rw [cellsTape] at h1
        obtain ⟨_, _, h4⟩ := World.cells?_some h1
        obtain ⟨p, q, A', C', bs, lost, rfl, g1, g2⟩ := tape_cells h2
        refine ⟨⟨p, q, bs, lost⟩, fun _ => ⟨A', C', ?_, ?_, ?_, ?_, g1, g2⟩⟩
        · have := h4 0 (by omega); rw [Go.Deep.add_add] at this; simpa using this
        · have := h4 1 (by omega); rw [Go.Deep.add_add] at this; simpa using this
        · have := h4 2 (by omega); rw [Go.Deep.add_add] at this; simpa using this
        · have := h4 3 (by omega); rw [Go.Deep.add_add] at this; simpa using this
      · exact ⟨⟨0, 0, [], false⟩, fun h => absurd h hil⟩
    refine ⟨by omega, by omega, (List.range len).map fun i => (key i).choose, by simp, fun t ht => ?_, fun h0 => ?_⟩
    · simp only [List.mem_map, List.mem_range] at ht
      obtain ⟨i, hi', rfl⟩ := ht
      obtain ⟨A', C', _, _, _, _, c5, _⟩ := (key i).choose_spec hi'
      exact c5
    · have h0' : 0 < len := by simpa using h0
      obtain ⟨b, off, spot⟩ := y
      obtain ⟨A0, C0, k0, _⟩ := (key 0).choose_spec h0'
      have hs : spot = none := by simpa [Addr.add] using World.cell?_spot k0
      subst hs
      refine ⟨b, off, rfl, trivial, fun i hil => ?_⟩
      have hil' : i < len := by simpa using hil
      obtain ⟨A', C', c1, c2, c3, c4, c5, c6⟩ := (key i).choose_spec hil'
      refine ⟨A', C', ?_, ?_, ?_, ?_, ?_⟩
      · have := (congrArg w.cell? (addr_add b off (i * 4)).symm).trans c1; simpa using this
      · have := (congrArg w.cell? (addr_add b off (i * 4 + 1)).symm).trans c2; simpa [Nat.add_assoc] using this
      · have := (congrArg w.cell? (addr_add b off (i * 4 + 2)).symm).trans c3; simpa [Nat.add_assoc] using this
      · have := (congrArg w.cell? (addr_add b off (i * 4 + 3)).symm).trans c4; simpa [Nat.add_assoc] using this
      · simpa using c6
end
end Go.Proofs.YtbkmpoabdnickaaGreat
