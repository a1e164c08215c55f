/- What gather of package catalog answers: all parts of the tapes, those of one in all in a list of their own. Two heads that are alike, compared. Two heads compared. What alike of package catalog answers: are there parts, and are all of one in all? -/
import Derived.Test.YtbijjgicjkmopaaDoorMap
import Derived.Test.YtbijjgicjkmopaaDoorMaq
import Derived.Test.YtbijjgicjkmopaaDoorMag
import Derived.Deep.DeepCutAuto
import Derived.Deep.RegionLaw
import Derived.Deep.DeepFit
import Derived.Test.YtbijjgicjkmopaaDoorMak
import Derived.Laws.StructEq
import Derived.Deep.RegionHeld3
namespace Go.Proofs.YtbijjgicjkmopaaDoor
open Go.RowKit
open Pt (Tx)

theorem infoRowQ : (Tryd.prog.info? 42).map (fun i => (i.zero, i.size, i.bytes)) = some (some (.slice none 0 0), 1, 24) := by kernel_rfl
theorem headW_ok {h : Rc.H} (k : Rc.Ok h) : HeadW h := by
  obtain ⟨hp, ⟨a1, a2⟩, ⟨b1, b2⟩, ⟨c1, c2⟩, d, e, f, g, ⟨i1, i2⟩, j⟩ := k
  have hl := Rc.Ok.short (h := h) ⟨hp, ⟨a1, a2⟩, ⟨b1, b2⟩, ⟨c1, c2⟩, d, e, f, g, ⟨i1, i2⟩, j⟩
  exact ⟨by unfold maxLen; omega, wfI_of (by omega), wfI_of (by omega), wfI_of (by omega), wfI_of (by omega), wfI_of (by omega), wfI_of (by omega)⟩
theorem headW_common {h : Rc.H} (k : HeadW h) : HeadW (Ct.common h) := ⟨k.path, k.version, k.size, wfI_of (by unfold Ct.common; simp), wfI_of (by unfold Ct.common; simp), k.serial, k.sum⟩
/-- the lists as they are made -/
structure GInv (w x : World) (v : Value) (us : List Value) (gs : Ct.G) (M : Nat) : Prop where
  rows : Gs x w.heap.size v us (gs.map fun g => g.2)
  mp : MpO ksH x w.heap.size gs.length (fun k => (Ct.idx gs k).map fun i => (i : Int))
  bel : Below w.heap.size w x
  few : gs.length ≤ M
  len : ∀ g ∈ gs, g.2.length ≤ M
theorem GInv.old {w x y : World} {v : Value} {us : List Value} {gs : Ct.G} {M : Nat} (h : GInv w x v us gs M) (hb : Below x.heap.size x y) : GInv w y v us gs M :=
  ⟨h.rows.old hb, h.mp.old hb, h.bel.trans (hb.mono h.bel.size), h.few, h.len⟩
theorem Enc.Rd.in_ {α : Type} {E : Enc α} {w : World} {A : Option Addr} {l : List α} {G : Nat → Prop} (h : E.Rd w A l G) : E.Rd w A l (fun b => G b ∧ b < w.heap.size) := fun hn => by
  obtain ⟨b, off, e, hg, hc⟩ := h hn
  have hlen : 0 < (E.enc l[0]).length := by rw [E.len]; exact E.pos
  exact ⟨b, off, e, ⟨hg, World.block_lt_of_cell? _ _ (hc 0 hn 0 _ (List.getElem?_eq_getElem hlen))⟩, hc⟩
/-- what lies in some blocks is as it was -/
structure Kq (lo : Nat) (x y : World) : Prop where
  size : x.heap.size ≤ y.heap.size
  block : ∀ k, lo ≤ k → k < x.heap.size → y.heap[k]? = x.heap[k]?
theorem Kq.refl (lo : Nat) (x : World) : Kq lo x x := ⟨Nat.le_refl _, fun _ _ _ => rfl⟩
theorem Kq.old {lo : Nat} {x y z : World} (h : Kq lo x y) (hb : Below y.heap.size y z) : Kq lo x z := ⟨Nat.le_trans h.size hb.size, fun k h1 h2 => (hb.block k (Nat.lt_of_lt_of_le h2 h.size)).trans (h.block k h1 h2)⟩
theorem Kq.grown {lo : Nat} {x y z : World} {row : Option Nat} (h : Kq lo x y) (hg : y.grownBy z row) (hr : ∀ k, row = some k → k < lo ∨ x.heap.size ≤ k) : Kq lo x z :=
  ⟨Nat.le_trans h.size hg.size, fun k h1 h2 => (hg.block k (Nat.lt_of_lt_of_le h2 h.size) (fun e => by rcases hr k e.symm with h | h <;> omega)).trans (h.block k h1 h2)⟩
theorem Kq.cell {lo : Nat} {x y : World} (h : Kq lo x y) {g j : Nat} {u : Value} (hg : g < lo ∨ x.heap.size ≤ g) : Kq lo x (y.setCell ⟨g, j, none⟩ u) :=
  ⟨by simpa [World.setCell] using h.size, fun k h1 h2 => (Below.heap_setCell _ _ _ _ (fun (e : k = g) => by rcases hg with h | h <;> omega)).trans (h.block k h1 h2)⟩
theorem Kq.rd {lo : Nat} {x y : World} (h : Kq lo x y) {A : Option Addr} {l : List Ct.P} (hr : encQ.Rd x A l (fun b => lo ≤ b ∧ b < x.heap.size)) : encQ.Rd y A l (fun _ => True) :=
  (hr.keep fun q _ hg hc => (World.cell?_of_block (h.block q.block hg.1 hg.2)).trans hc).mono fun _ _ => trivial
/-- the lists lie elsewhere -/
def GOut (lo hi : Nat) (v : Value) (us : List Value) : Prop := (∀ k, v.ownBlock = some k → k < lo ∨ hi ≤ k) ∧ ∀ i (h : i < us.length) k, us[i].ownBlock = some k → k < lo ∨ hi ≤ k
/-- what gather answers -/
def GatherA (gs : Ct.G) (w : World) (e : Ending) (w' : World) : Prop := ∃ v us, e = .returned v ∧ Gs w' w.heap.size v us (gs.map fun g => g.2) ∧ Below w.heap.size w w'
set_option maxRecDepth 100000 in
set_option maxHeartbeats 8000000 in
theorem gather_any (A : Option Addr) (ts : List St.T) (n C : Nat) (G : Nat → Prop) (w : World) (hn : n = ts.length) (hm : n ≤ 1000000) (hr : RdT w A ts G) (hl : ∀ t ∈ ts, t.blocks.length ≤ 1000000 ∧ ∀ s ∈ t.blocks, s.length ≤ 1000000) (hmax : (Ct.all ts).length ≤ 900000) (hk : Kept w) :
    Calls Tryd.prog 16 #[.slice A n C] w (GatherA (Ct.gather (Ct.all ts)) w) := by
  have hmm := @run_makeMap Tryd.prog
  have HN := Lib.hid hn
  have HR := Lib.hid hr
  have HL := Lib.hid hl
  have HMX := Lib.hid hmax
  have HK := Lib.hid hk
  obtain ⟨w1, hw1⟩ : ∃ x, x = w.alloc (.map #[] 0) := ⟨_, rfl⟩
  have HB1 : Hid (Below w.heap.size w w1) := Lib.hid (by rw [hw1]; exact (Below.refl _ _).alloc (Nat.le_refl _) _)
  have HI0 : Hid (GInv w w1 (.slice none 0 0) [] (Ct.gather (Ct.all (ts.take 0))) 0) := Lib.hid ⟨Gs.nil _ _, by rw [hw1]; exact (MpO.made w).congr fun k _ => rfl, HB1.out, Nat.le_refl _, fun g hg => by cases hg⟩
  have HW1 := Lib.hid hw1
  obtain ⟨i0, hi0, hz0, hz1, hz2⟩ := info_parts infoRowQ
  clear hn hr hl hmax hk hw1
  go_enter Tryd.func16, Tryd.ntmps16
  go_wp2_with fail
  rw [← HW1.out]
  go_loopw [15, 3] (fun vi vl wr => ∃ (i : Nat) (us : List Value), i ≤ n ∧ vi = .int .i64 (i : Int) ∧ Hid (GInv w wr vl us (Ct.gather (Ct.all (ts.take i))) (Ct.all (ts.take i)).length)) (fun vi _ _ => n - (intOf vi).toNat)
  case atStart => exact ⟨0, [], Nat.zero_le _, rfl, HI0⟩
  case round =>
    obtain ⟨i, us, hi, rfl, HI⟩ := hrel
    obtain ⟨wo, rfl⟩ : ∃ x, x = wr := ⟨wr, rfl⟩
    by_cases hlt : i < n
    · have e0 : decide (i < n) = true := decide_eq_true hlt
      have hlt' : i < ts.length := by rw [← HN.out]; exact hlt
      obtain ⟨b, off, A', C', rfl, -, c0, c1, c2, c3, hb⟩ := (HR.out.old HI.out.bel).at_ hlt'
      have hln := HL.out ts[i] (List.getElem_mem hlt')
      have HPS : Hid (∀ j, (Ct.upto ts (Ct.partsOf ts[i]) i j).length ≤ 900000) := Lib.hid fun j => Nat.le_trans (Ct.upto_le hlt') HMX.out
      have HFIN : Hid (∀ j, (Ct.partsOf ts[i]).length ≤ j → Ct.upto ts (Ct.partsOf ts[i]) i j = Ct.all (ts.take (i + 1))) := Lib.hid fun j hj => Ct.upto_all hlt' hj
      obtain ⟨l, hl⟩ : ∃ l, l = Ct.partsOf ts[i] := ⟨_, rfl⟩
      have HOK : Hid (∀ p ∈ l, Rc.Ok p.h) := Lib.hid fun p hp => by rw [hl] at hp; exact Ct.parts_ok hp
      rw [← hl] at HPS HFIN
      obtain ⟨⟨lab, cap, bs, lo⟩, ht⟩ : ∃ t, t = ts[i] := ⟨_, rfl⟩
      rw [← ht] at c0 c1 c2 c3 hb hln hl
      dsimp only at c0 c1 c2 c3 hb hln
      obtain ⟨K, hK⟩ : ∃ K, K = bs.length := ⟨_, rfl⟩
      rw [← hK] at c2
      obtain ⟨w2, hw2⟩ : ∃ x, x = wo.alloc (tapeObj lab cap A' K C' lo) := ⟨_, rfl⟩
      have hb2 : Below wo.heap.size wo w2 := by rw [hw2]; exact (Below.refl _ _).alloc (Nat.le_refl _) _
      have hT2 : w2.heap[wo.heap.size]? = some (tapeObj lab cap A' K C' lo) := by rw [hw2]; exact Go.Deep.blk_alloc_new _ _
      have HPA := Lib.hid (parts_any lab cap bs A' K C' _ lo w2 hK (hb.old hb2) (by rw [hK]; exact hln.1) hln.2 (HK.out.old (HI.out.bel.trans (hb2.mono HI.out.bel.size))))
      have HI2 := Lib.hid (HI.out.old hb2)
      have HLL : Hid ((Vo.parts ⟨lab, bs, lo⟩).map (fun q => (⟨q.1, lab, (q.2 : Int)⟩ : Ct.P)) = l) := Lib.hid hl.symm
      have HW2 : Hid (w2 = wo.alloc (.cells #[.int .i64 lab, .int .i64 cap, .slice A' K C', .bool lo] 27)) := Lib.hid hw2
      obtain ⟨y0, y1, y2, y3⟩ := tape4 hT2
      rw [HW2.out] at y0 y1 y2 y3
      clear ht hln hK hb hw2 hb2 hT2 hl hlt'
      go_wp2_with fail
      rw [← HW2.out]
      refine HPA.out.mono ?_
      rintro e w3 ⟨Ap, Cp, rfl, -, -, -, hrp, hb3⟩
      have hrq := rdQ_of hrp
      rw [HLL.out] at hrq
      have hlen : (Vo.parts ⟨lab, bs, lo⟩).length = l.length := by rw [← HLL.out, List.length_map]
      rw [hlen]
      obtain ⟨m, hml⟩ : ∃ m, m = l.length := ⟨_, rfl⟩
      rw [← hml]
      have HML := Lib.hid hml
      have hm2 : m ≤ 900000 := by have h1 := HPS.out m; unfold Ct.upto at h1; rw [List.length_append, List.length_take, ← hml] at h1; omega
      have HRQ := Lib.hid hrq.in_
      have HI3 : Hid (GInv w w3 u3 us (Ct.gather (Ct.upto ts l i 0)) (Ct.upto ts l i 0).length) := Lib.hid (by rw [Ct.upto_zero]; exact HI2.out.old hb3)
      have HGO : Hid (GOut w2.heap.size w3.heap.size u3 us) := Lib.hid ⟨fun k e => .inl (HI2.out.rows.lo e).2, fun q hq k e => .inl ((HI2.out.rows.rows q hq (by rw [← HI2.out.rows.len]; exact hq)).lt k e).2⟩
      have HS23 : Hid (w2.heap.size ≤ w3.heap.size ∧ w.heap.size < w2.heap.size) := Lib.hid ⟨hb3.size, HI2.out.mp.lt⟩
      clear hrp hb3 hrq hlen hml c0 c1 c2 c3 y0 y1 y2 y3 HPA
      go_wp2
      go_loopw [22, 3] (fun vj vl wr => ∃ (j : Nat) (us : List Value), j ≤ m ∧ vj = .int .i64 (j : Int) ∧ Hid (GInv w wr vl us (Ct.gather (Ct.upto ts l i j)) (Ct.upto ts l i j).length) ∧ Hid (Kq w2.heap.size w3 wr) ∧ Hid (GOut w2.heap.size w3.heap.size vl us)) (fun vj _ _ => m - (intOf vj).toNat)
      case atStart => exact ⟨0, us, Nat.zero_le _, rfl, HI3, Lib.hid (Kq.refl _ _), HGO⟩
      case round =>
        obtain ⟨j, us2, hj, rfl, HIJ, HBJ, HGO⟩ := hrel
        by_cases hlj : j < m
        · have e1 : decide (j < m) = true := decide_eq_true hlj
          have hlj' : j < l.length := by rw [← HML.out]; exact hlj
          obtain ⟨bq, oq, rfl, -, tq⟩ := ten_of (HBJ.out.rd HRQ.out) hlj'
          have hup := Ct.upto_succ (ts := ts) (i := i) hlj'
          have hok := HOK.out l[j] (List.getElem_mem hlj')
          obtain ⟨⟨⟨P, v, z, f, ln, s, mm, g⟩, lb, at_⟩, hp⟩ : ∃ p, p = l[j] := ⟨_, rfl⟩
          rw [← hp] at tq hup hok
          obtain ⟨gs, hgs⟩ : ∃ gs, gs = Ct.gather (Ct.upto ts l i j) := ⟨_, rfl⟩
          obtain ⟨M, hM⟩ : ∃ M, M = (Ct.upto ts l i j).length := ⟨_, rfl⟩
          have HGS2 : Hid (Ct.gather (Ct.upto ts l i (j + 1)) = Ct.add gs ⟨⟨P, v, z, f, ln, s, mm, g⟩, lb, at_⟩) := Lib.hid (by rw [hup, Ct.gather_snoc, ← hgs])
          have HM2 : Hid ((Ct.upto ts l i (j + 1)).length = M + 1) := Lib.hid (by rw [hup, List.length_append, ← hM]; rfl)
          have HMM : Hid (M + 1 ≤ 900000) := Lib.hid (by rw [← HM2.out]; exact HPS.out _)
          rw [← hgs, ← hM] at HIJ
          have HWH : Hid (HeadW (Ct.common ⟨P, v, z, f, ln, s, mm, g⟩)) := Lib.hid (headW_common (headW_ok hok))
          obtain ⟨w4, hw4⟩ : ∃ x, x = wr.alloc (partO ⟨⟨P, v, z, f, ln, s, mm, g⟩, lb, at_⟩) := ⟨_, rfl⟩
          have hb4 : Below wr.heap.size wr w4 := by rw [hw4]; exact (Below.refl _ _).alloc (Nat.le_refl _) _
          have hk4 : w4.heap[wr.heap.size]? = some (partO ⟨⟨P, v, z, f, ln, s, mm, g⟩, lb, at_⟩) := by rw [hw4]; exact Go.Deep.blk_alloc_new _ _
          have HI4 := Lib.hid (HIJ.out.old hb4)
          have HBJ4 := Lib.hid (HBJ.out.old hb4)
          have HK4 := Lib.hid hk4
          have HW4 : Hid (w4 = wr.alloc (.cells #[.string (tx P), .int .i64 v, .int .i64 z, .int .i64 f, .int .i64 ln, .int .i64 s, .int .i64 mm, .bool g, .int .i64 lb, .int .i64 at_] 44)) := Lib.hid hw4
          obtain ⟨p0, hp0⟩ : ∃ p : Ct.P, p = ⟨⟨P, v, z, f, ln, s, mm, g⟩, lb, at_⟩ := ⟨_, rfl⟩
          have HP0 := Lib.hid hp0
          obtain ⟨c0, c1, c2, c3, c4, c5, c6, c7, c8, c9⟩ := tq
          dsimp only at c0 c1 c2 c3 c4 c5 c6 c7 c8 c9
          clear hp hup hok hgs hM hw4 hb4 hk4 hp0 HIJ
          go_upto_region 9 with fail
          rw [← HW4.out]
          clear c0 c1 c2 c3 c4 c5 c6 c7 c8 c9
          obtain ⟨d0, d1, d2, d3, d4, d5, d6, d7, -, -⟩ := part10 HK4.out
          go_wp2_with fail
          refine (common_any P v z f ln s mm g w4).mono ?_
          rintro e w5 ⟨rfl, hb5⟩
          obtain ⟨w6, hw6⟩ : ∃ x, x = w5.alloc (headObj P v z 0 0 s mm g) := ⟨_, rfl⟩
          have hb6 : Below w4.heap.size w4 w6 := by rw [hw6]; exact hb5.alloc hb5.size _
          have hk6 : w6.heap[w5.heap.size]? = some (headObj P v z 0 0 s mm g) := by rw [hw6]; exact Go.Deep.blk_alloc_new _ _
          have HI6 := Lib.hid (HI4.out.old hb6)
          have HBJ6 := Lib.hid (HBJ4.out.old hb6)
          have HK6 := Lib.hid (below_obj' hb6 HK4.out)
          have HH6 := Lib.hid hk6
          have HW6 : Hid (w6 = w5.alloc (.cells #[.string (tx P), .int .i64 v, .int .i64 z, .int .i64 0, .int .i64 0, .int .i64 s, .int .i64 mm, .bool g] 36)) := Lib.hid hw6
          have HLT6 : Hid (wr.heap.size < w6.heap.size) := Lib.hid (heap_lt HK6.out)
          clear hb5 hw6 hb6 hk6 d0 d1 d2 d3 d4 d5 d6 d7
          go_upto_region 10 with fail
          rw [← HW6.out]
          obtain ⟨a0, a1, a2, a3, a4, a5, a6, a7⟩ := head8 HH6.out
          obtain ⟨q, hq⟩ : ∃ q, q = (Ct.idx gs (Ct.common ⟨P, v, z, f, ln, s, mm, g⟩)).map (fun i => (i : Int)) := ⟨_, rfl⟩
          have hlk0 : (Instr.lookup 75 (.map (some w.heap.size)) (.agg #[.string (tx P), .int .i64 v, .int .i64 z, .int .i64 0, .int .i64 0, .int .i64 s, .int .i64 mm, .bool g]) true).run Tryd.prog w6 = .ok (.tuple #[.int .i64 (((Ct.idx gs (Ct.common ⟨P, v, z, f, ln, s, mm, g⟩)).map (fun i => (i : Int))).getD 0), .bool ((Ct.idx gs (Ct.common ⟨P, v, z, f, ln, s, mm, g⟩)).map (fun i => (i : Int))).isSome]) w6 := HI6.out.mp.look HWH.out
          rw [← hq] at hlk0
          have HQ := Lib.hid hq
          have hlk : (Instr.lookup 75 (.map (some w.heap.size)) (.agg #[.string (tx P), .int .i64 v, .int .i64 z, .int .i64 0, .int .i64 0, .int .i64 s, .int .i64 mm, .bool g]) true).run Tryd.prog w6 = .ok (.tuple #[.int .i64 (q.getD 0), .bool q.isSome]) w6 := hlk0
          clear hq hlk0
          go_upto_if 36 with fail
          clear hlk
          go_cut [3, 10] (fun vl vi wx => ∃ (us4 : List Value) (ls4 : List (List Ct.P)) (k : Nat), vi = .int .i64 (k : Int) ∧ k < us4.length ∧ Hid (Gs wx w.heap.size vl us4 ls4) ∧ Hid (ls4.modify k (fun l => l ++ [p0]) = (Ct.add gs p0).map fun g => g.2) ∧ Hid (MpO ksH wx w.heap.size (Ct.add gs p0).length (fun k => (Ct.idx (Ct.add gs p0) k).map fun i => (i : Int))) ∧ Hid (Below w.heap.size w wx) ∧ Hid (Kq w2.heap.size w3 wx) ∧ Hid (GOut w2.heap.size w3.heap.size vl us4) ∧ Hid (wx.heap[wr.heap.size]? = some (partO p0)) ∧ Hid (∀ l ∈ ls4, l.length ≤ M))
          case first =>
            cases hq : Ct.idx gs (Ct.common ⟨P, v, z, f, ln, s, mm, g⟩) with
            | some k =>
              obtain rfl : q = some (k : Int) := by rw [HQ.out, hq]; rfl
              have hidx : Ct.idx gs (Ct.common p0.h) = some k := by rw [HP0.out]; exact hq
              have hkl : k < us2.length := by rw [HI6.out.rows.len, List.length_map]; exact Ct.idx_lt hq
              have HMOD := Lib.hid (Ct.add_some hidx).symm
              have HMP : Hid (MpO ksH w6 w.heap.size (Ct.add gs p0).length (fun k => (Ct.idx (Ct.add gs p0) k).map fun i => (i : Int))) := Lib.hid (by
                rw [Ct.add_len_some hidx]
                exact HI6.out.mp.congr fun x _ => by rw [Ct.idx_add_some hidx])
              have HLN : Hid (∀ l ∈ gs.map (fun g => g.2), l.length ≤ M) := Lib.hid fun l hl => by
                obtain ⟨g0, hg0, rfl⟩ := List.mem_map.1 hl
                exact HI6.out.len g0 hg0
              have HPB : Hid (w6.heap[wr.heap.size]? = some (partO p0)) := Lib.hid (by rw [HP0.out]; exact HK6.out)
              have HR6 := Lib.hid HI6.out.rows
              have HB6 := Lib.hid HI6.out.bel
              clear hq hidx
              go_wp2
              go_meet
              exact ⟨us2, _, k, rfl, hkl, HR6, HMOD, HMP, HB6, HBJ6, HGO, HPB, HLN⟩
            | none =>
              obtain rfl : q = none := by rw [HQ.out, hq]; rfl
              have hidx : Ct.idx gs (Ct.common p0.h) = none := by rw [HP0.out]; exact hq
              obtain ⟨w7, hup, hm7, hg7⟩ := HI6.out.mp.put (u := (gs.length : Int)) (show gs.length < maxLen by have h1 := HI6.out.few; have h2 := HMM.out; unfold maxLen; omega) HWH.out (wfI_of (by have h1 := HI6.out.few; have h2 := HMM.out; omega))
              have hR7 : Gs w7 w.heap.size u3 us2 (gs.map fun g => g.2) := HI6.out.rows.keep fun k c t hk => hg7.block k (heap_lt hk) fun e => by
                injection e with e
                exact HI6.out.mp.ne hk e.symm
              have hgl : gs.length = us2.length := by rw [HI6.out.rows.len, List.length_map]
              have HGL := Lib.hid hgl
              have hup' : (Instr.mapUpdate 75 (.map (some w.heap.size)) (.agg #[.string (tx P), .int .i64 v, .int .i64 z, .int .i64 0, .int .i64 0, .int .i64 s, .int .i64 mm, .bool g]) (.int .i64 (us2.length : Int))).run Tryd.prog w6 = .ok () w7 := by rw [← hgl]; exact hup
              obtain ⟨Av, Cv, hv⟩ : ∃ Av Cv, u3 = .slice Av us2.length Cv := by
                rcases HI6.out.rows.top.2 with ⟨e, h0⟩ | ⟨g, cap, cur, e, -⟩
                · exact ⟨_, _, by rw [e, h0]⟩
                · exact ⟨_, _, e⟩
              subst hv
              have hb8 : Below w7.heap.size w7 (w7.alloc (.cells #[.slice none 0 0] 42)) := (Below.refl _ _).alloc (Nat.le_refl _) _
              have HR7 := Lib.hid hR7
              have HT8 := Lib.hid (hR7.old hb8).top
              have HM7 := Lib.hid (hm7.old hb8)
              have HB7 := Lib.hid ((HI6.out.bel.grown hg7 HI6.out.bel.size (fun k hk => by injection hk with hk; omega)).trans (hb8.mono (HI6.out.bel.grown hg7 HI6.out.bel.size (fun k hk => by injection hk with hk; omega)).size))
              have HK7 := Lib.hid ((HBJ6.out.grown hg7 (fun k hk => by injection hk with hk; have := HS23.out.2; omega)).old hb8)
              have HP7 : Hid ((w7.alloc (.cells #[.slice none 0 0] 42)).heap[wr.heap.size]? = some (partO p0)) := Lib.hid (below_obj' hb8 ((hg7.block wr.heap.size HLT6.out (fun e => by injection e with e; exact HI6.out.mp.ne HK6.out e.symm)).trans (by rw [HP0.out]; exact HK6.out)))
              have HB8 := Lib.hid hb8
              have hl8 : us2.length ≤ 900000 := by have h1 := HI6.out.few; have h2 := HMM.out; omega
              have hz7 : w.heap.size ≤ w7.heap.size := by have := HB7.out.size; have := hg7.size; have := HI6.out.bel.size; omega
              have HMOD := Lib.hid (Ct.add_none hidx).symm
              have HLEN := Lib.hid (Ct.add_len_none hidx)
              have HIDX : Hid (∀ x, (if x = Ct.common p0.h then some ((us2.length : Nat) : Int) else (Ct.idx gs x).map fun i => (i : Int)) = (Ct.idx (Ct.add gs p0) x).map fun i => (i : Int)) := Lib.hid fun x => by
                rw [Ct.idx_add_none hidx]
                by_cases e : x = Ct.common p0.h
                · rw [if_pos e, if_pos e, HGL.out]; rfl
                · rw [if_neg e, if_neg e]
              have HLN : Hid (∀ l ∈ gs.map (fun g => g.2) ++ [[]], l.length ≤ M) := Lib.hid fun l hl => by
                rcases List.mem_append.1 hl with hl | hl
                · obtain ⟨g0, hg0, rfl⟩ := List.mem_map.1 hl
                  exact HI6.out.len g0 hg0
                · rw [List.mem_singleton.1 hl]; exact Nat.zero_le _
              clear hq hidx hup hm7 hg7 hR7 hgl hb8
              go_wp2_with (at_builtin; refine wpList_append_lies _ rfl _ _ 61 rfl w.heap.size 42 i0 (.slice none 0 0) 1 24 Tryd.underlying61 hi0 hz0 hz1 hz2 rfl (by decide) (.slice Av us2.length Cv) us2.length us2 rfl HT8.out ⟨w7.heap.size, 0, none⟩ 1 1 [.slice none 0 0] rfl rfl (newCells w7 [.slice none 0 0] _) (fun u hu => by rw [List.mem_singleton.1 hu]; rfl) (by decide) (by unfold maxLen; omega) (by omega) (by simp; omega) (w7.heap.size + 1) (by simp) ?_)
              intro g9 C9 w9 hO9 hg9 hat9 hlt9
              have HG9 := Lib.hid (HR7.out.snoc HB8.out hO9 hg9)
              have hnm : some w.heap.size ≠ (Value.slice Av us2.length Cv).ownBlock := fun e => by
                obtain ⟨c, hc⟩ := own_blk HT8.out _ e.symm
                exact HM7.out.ne hc rfl
              have HM9 : Hid (MpO ksH w9 w.heap.size (Ct.add gs p0).length (fun k => (Ct.idx (Ct.add gs p0) k).map fun i => (i : Int))) := Lib.hid (by
                rw [HLEN.out]
                refine (HM7.out.grown hg9 hnm).congr fun x _ => ?_
                have h := HIDX.out x
                rw [HP0.out, ← HGL.out] at h
                rw [HP0.out]
                exact h)
              have HB9 := Lib.hid (HB7.out.grown hg9 HB7.out.size (fun k e => (HT8.out.lt k e).1))
              have HK9 := Lib.hid (HK7.out.grown hg9 (fun k e => HGO.out.1 k e))
              have HGO9 : Hid (GOut w2.heap.size w3.heap.size (.slice (some ⟨g9, 0, none⟩) (us2.length + 1) C9) (us2 ++ [.slice none 0 0])) := Lib.hid ⟨fun k e => by
                cases e
                rcases hat9 with h | h
                · exact HGO.out.1 _ h
                · right
                  have h1 := HK7.out.size
                  simp at h1
                  show w3.heap.size ≤ g9
                  omega, fun q hq k e => by
                rcases Nat.lt_or_ge q us2.length with h | h
                · rw [List.getElem_append_left h] at e
                  exact HGO.out.2 q h k e
                · rw [List.getElem_append_right h] at e
                  simp [Value.ownBlock] at e⟩
              have HP9 : Hid (w9.heap[wr.heap.size]? = some (partO p0)) := Lib.hid ((hg9.block _ (heap_lt HP7.out) (fun e => by
                obtain ⟨c, hc⟩ := own_blk HT8.out _ e.symm
                rw [HP7.out] at hc
                injection hc with hc
                injection hc with _ e2
                exact absurd e2 (by decide))).trans HP7.out)
              rw [HGL.out] at HMOD
              clear hO9 hg9 hat9 hlt9 hnm
              go_wp2
              go_meet
              exact ⟨_, _, us2.length, rfl, by simp, HG9, HMOD, HM9, HB9, HK9, HGO9, HP9, HLN⟩
          case rest =>
          obtain ⟨us4, ls4, k, rfl, hkl, HG, HMOD, HMP, HB, HKQ, HGO2, HP, HLN⟩ := hcut
          obtain ⟨wx, rfl⟩ : ∃ x, x = wc := ⟨wc, rfl⟩
          obtain ⟨gv, Cv, hv, hcv, hgv, hgvl, hcell, hfr⟩ := HG.out.form (by omega)
          obtain ⟨nU, hnU⟩ : ∃ nU, nU = us4.length := ⟨_, rfl⟩
          subst hv
          have hkl' : k < ls4.length := by rw [← HG.out.len]; exact hkl
          obtain ⟨Aj, Cj, hj1, -, -, -⟩ := HG.out.rd hkl hkl'
          have hlk := HLN.out ls4[k] (List.getElem_mem hkl')
          have hbY : Below wx.heap.size wx (wx.alloc (.cells #[.string (tx P), .int .i64 v, .int .i64 z, .int .i64 f, .int .i64 ln, .int .i64 s, .int .i64 mm, .bool g, .int .i64 lb, .int .i64 at_] 44)).drew := ((Below.refl _ _).alloc (Nat.le_refl _) _).drew
          have hrow := (HG.out.rows k hkl hkl').old hbY
          obtain ⟨gq, Cq, wz, hrun, hoz, hgz, hatz⟩ := apQ_run (wx.alloc (.cells #[.string (tx P), .int .i64 v, .int .i64 z, .int .i64 f, .int .i64 ln, .int .i64 s, .int .i64 mm, .bool g, .int .i64 lb, .int .i64 at_] 44)).drew w.heap.size us4[k] ls4[k] hrow (by have := HMM.out; omega) ⟨wx.heap.size, 0, none⟩ p0 (by
            rw [HP0.out]
            exact fun j u hu => (newCells wx (cells10 ⟨P, v, z, f, ln, s, mm, g⟩ lb at_) _ j u hu)) (by have h1 := HB.out.size; have h2 := hbY.size; omega) 1
          have HPUSH := HG.out.push (u := .slice (some ⟨gq, 0, none⟩) (ls4[k].length + 1) Cq) hkl hkl' hbY rfl hoz hgz (hatz.imp id fun e => by rw [e]; exact hbY.size)
          rw [Ct.set_modify ls4 k (fun l => l ++ [p0]) hkl', HMOD.out] at HPUSH
          obtain ⟨L, hL⟩ : ∃ L, L = ls4[k].length := ⟨_, rfl⟩
          rw [← hL] at hj1 hrun HPUSH hoz
          have hng : some gv ≠ us4[k].ownBlock := fun e => HG.out.apart rfl hkl e.symm
          have hgz1 : wz.heap[gv]? = wx.heap[gv]? := (hgz.block gv (Nat.lt_of_lt_of_le hgvl hbY.size) hng).trans (hbY.block gv hgvl)
          have hnw : ∀ q, us4[k].ownBlock = some q → w.heap.size ≤ q := fun q e => ((HG.out.rows k hkl hkl').lt q e).1
          have hmne : some w.heap.size ≠ us4[k].ownBlock := fun e => by
            obtain ⟨c, hc⟩ := (HG.out.rows k hkl hkl').block _ e.symm
            exact HMP.out.ne hc rfl
          have hbz := (HB.out.trans (hbY.mono HB.out.size)).grown hgz (HB.out.trans (hbY.mono HB.out.size)).size hnw
          have HIZ : Hid (GInv w (wz.setCell ⟨gv, k, none⟩ (.slice (some ⟨gq, 0, none⟩) (L + 1) Cq)) (.slice (some ⟨gv, 0, none⟩) us4.length Cv) (us4.set k (.slice (some ⟨gq, 0, none⟩) (L + 1) Cq)) (Ct.gather (Ct.upto ts l i (j + 1))) (Ct.upto ts l i (j + 1)).length) := Lib.hid (by
            rw [HGS2.out, HM2.out, ← HP0.out]
            refine ⟨HPUSH, ?_, hbz.trans ((Kp.store wz gv k _).below hbz.size fun q hq => by omega), ?_, fun g hg => ?_⟩
            · obtain ⟨c, hc⟩ := own_blk HG.out.top gv rfl
              exact ((HMP.out.old hbY).grown hgz hmne).cell gv k _ (HMP.out.ne hc)
            · rw [← List.length_map (f := fun g : Rc.H × List Ct.P => g.2), ← HMOD.out, List.length_modify]
              have h1 := HG.out.len
              have h2 := Ct.add_len gs p0
              rw [← List.length_map (f := fun g : Rc.H × List Ct.P => g.2), ← HMOD.out, List.length_modify] at h2
              have h3 := HI6.out.few
              omega
            · have hg2 : g.2 ∈ ls4.modify k (fun l => l ++ [p0]) := by rw [HMOD.out]; exact List.mem_map.2 ⟨g, hg, rfl⟩
              obtain ⟨q, hq, e⟩ := List.mem_iff_getElem.1 hg2
              rw [List.getElem_modify] at e
              rw [← e]
              split
              · rw [List.length_append]
                have := HLN.out ls4[q] (List.getElem_mem _)
                simpa using this
              · exact Nat.le_succ_of_le (HLN.out _ (List.getElem_mem _)))
          have HKZ : Hid (Kq w2.heap.size w3 (wz.setCell ⟨gv, k, none⟩ (.slice (some ⟨gq, 0, none⟩) (L + 1) Cq))) := Lib.hid (((HKQ.out.old hbY).grown hgz (fun q e => HGO2.out.2 k hkl q e)).cell (HGO2.out.1 gv rfl))
          have HGZ : Hid (GOut w2.heap.size w3.heap.size (.slice (some ⟨gv, 0, none⟩) us4.length Cv) (us4.set k (.slice (some ⟨gq, 0, none⟩) (L + 1) Cq))) := Lib.hid ⟨HGO2.out.1, fun q hq r e => by
            rw [List.length_set] at hq
            by_cases eq : q = k
            · subst eq
              rw [List.getElem_set_self] at e
              cases e
              rcases hatz with h | h
              · exact HGO2.out.2 q hkl _ h
              · right
                have h1 := HKQ.out.size
                have h2 := hbY.size
                show w3.heap.size ≤ gq
                omega
            · rw [List.getElem_set_ne (Ne.symm eq)] at e
              exact HGO2.out.2 q hq r e⟩
          have hcx : wx.cell? ⟨gv, k, none⟩ = some us4[k] := hcell k _ (List.getElem?_eq_getElem hkl)
          have hcz : wz.cell? ⟨gv, k, none⟩ = some us4[k] := (World.cell?_of_block (a := ⟨gv, k, none⟩) hgz1).trans hcx
          have hfz : wz.frozen? ⟨gv, k, none⟩ = false := by
            obtain ⟨c, hc⟩ := own_blk HG.out.top gv rfl
            exact heap_frozen (hgz1.trans hc)
          have hPY := below_obj' hbY HP.out
          have hcY : (wx.alloc (.cells #[.string (tx P), .int .i64 v, .int .i64 z, .int .i64 f, .int .i64 ln, .int .i64 s, .int .i64 mm, .bool g, .int .i64 lb, .int .i64 at_] 44)).drew.cell? ⟨gv, k, none⟩ = some us4[k] := (hbY.cell hgvl).trans hcx
          have HFACT : Hid (Ten wx.drew wr.heap.size 0 ⟨⟨P, v, z, f, ln, s, mm, g⟩, lb, at_⟩ ∧ Ten (wx.alloc (.cells #[.string (tx P), .int .i64 v, .int .i64 z, .int .i64 f, .int .i64 ln, .int .i64 s, .int .i64 mm, .bool g, .int .i64 lb, .int .i64 at_] 44)).drew wr.heap.size 0 ⟨⟨P, v, z, f, ln, s, mm, g⟩, lb, at_⟩) := Lib.hid (by
            have h1 := HP.out
            rw [HP0.out] at h1 hPY
            exact ⟨part10 h1, part10 hPY⟩)
          rw [hj1] at hcx hcz hcY hrun
          have HR := Lib.hid hrun
          have HC := Lib.hid (And.intro hcx (And.intro hcz (And.intro hcY hfz)))
          have hklI : (k : Int) < (us4.length : Int) := by omega
          clear hrow hoz hgz hatz HPUSH hL hng hgz1 hnw hmne hbz hcx hcz hfz hPY hcY hcell hfr hrun hj1 hlk hkl'
          rw [← hnU] at HIZ HGZ hklI ⊢
          have hkU : k < nU := by omega
          clear hnU hkl
          go_upto_region 15 with fail
          obtain ⟨⟨x0, x1, x2, x3, x4, x5, x6, x7, x8, x9⟩, y0, y1, y2, y3, y4, y5, y6, y7, y8, y9⟩ := HFACT.out
          obtain ⟨q0, q1, q2, q3⟩ := HC.out
          have hrun := HR.out
          go_region_law (first
            | (refine step_append_eq (by rfl) _ _ _ _ (by rfl) _ _ _ _ hrun (by rfl) (by rfl) ?_))
          all_goals
            clear x0 x1 x2 x3 x4 x5 x6 x7 x8 x9 y0 y1 y2 y3 y4 y5 y6 y7 y8 y9 q0 q1 q2 q3 hrun
            go_wp2
            go_roundw
            case rel => exact ⟨j + 1, _, by omega, by go_num, HIZ, HKZ, HGZ⟩
            case measure => simp [intOf]; omega
        · have e1 : decide (j < m) = false := decide_eq_false hlj
          have HE : Hid (Ct.upto ts l i j = Ct.all (ts.take (i + 1))) := Lib.hid (HFIN.out j (by rw [← HML.out]; omega))
          rw [HE.out] at HIJ
          go_wp2
          go_roundw
          case rel => exact ⟨i + 1, _, by omega, by go_num, HIJ⟩
          case measure => simp [intOf]; omega
    · have e0 : decide (i < n) = false := decide_eq_false hlt
      have HE : Hid (Ct.all (ts.take i) = Ct.all ts) := Lib.hid (by rw [List.take_of_length_le (by rw [← HN.out]; omega)])
      rw [HE.out] at HI
      go_wp2
      go_ret
      exact ⟨_, _, rfl, HI.out.rows, HI.out.bel⟩
end Go.Proofs.YtbijjgicjkmopaaDoor
namespace Go.Proofs.YtbijjgicjkmopaaDoor
open Go.RowKit
open Pt (Tx)

theorem head_fields : Tryd.prog.underlying 36 = some (.struct (Tryd.prog.fieldsOf 36)) := by kernel_rfl
theorem head_plain : Tryd.prog.stoodInHeld 36 = false := by kernel_rfl
theorem head_guard : Tryd.prog.eqGuardType Tryd.prog.depth 36 = false := by kernel_rfl
theorem heads_same (p : Tx) (v z f l s m : Int) (g : Bool) (w : World) : (Op.equalIn 10000 36 (.agg #[.string (tx p), .int .i64 v, .int .i64 z, .int .i64 f, .int .i64 l, .int .i64 s, .int .i64 m, .bool g]) (.agg #[.string (tx p), .int .i64 v, .int .i64 z, .int .i64 f, .int .i64 l, .int .i64 s, .int .i64 m, .bool g])).run Tryd.prog w = .ok true w := by
  rw [run_equalIn_agg w 9999 36 _ _ head_fields head_plain]
  simp [Program.fieldsOf, Tryd.underlying36, Op.eqFields, part, go_sem]
theorem heads_eql (p : Tx) (v z f l s m : Int) (g : Bool) (w : World) : (binOp .eql 36 (.agg #[.string (tx p), .int .i64 v, .int .i64 z, .int .i64 f, .int .i64 l, .int .i64 s, .int .i64 m, .bool g]) (.agg #[.string (tx p), .int .i64 v, .int .i64 z, .int .i64 f, .int .i64 l, .int .i64 s, .int .i64 m, .bool g])).run Tryd.prog w = .ok (.bool true) w := by
  rw [run_eql_struct, heads_same]; rfl
theorem heads_neq (p : Tx) (v z f l s m : Int) (g : Bool) (w : World) : (binOp .neq 36 (.agg #[.string (tx p), .int .i64 v, .int .i64 z, .int .i64 f, .int .i64 l, .int .i64 s, .int .i64 m, .bool g]) (.agg #[.string (tx p), .int .i64 v, .int .i64 z, .int .i64 f, .int .i64 l, .int .i64 s, .int .i64 m, .bool g])).run Tryd.prog w = .ok (.bool false) w := by
  rw [run_neq_struct, heads_same]; rfl
end Go.Proofs.YtbijjgicjkmopaaDoor
namespace Go.Proofs.YtbijjgicjkmopaaDoor
open Go.RowKit
open Pt (Tx)

set_option maxRecDepth 100000 in
theorem heads_is (a b : Rc.H) (w : World) : (Op.equalIn 10000 36 (headV a) (headV b)).run Tryd.prog w = .ok (Ct.heq a b) w := by
  obtain ⟨p, v, z, f, l, s, m, g⟩ := a
  obtain ⟨p', v', z', f', l', s', m', g'⟩ := b
  unfold headV Ct.heq
  rw [run_equalIn_agg w 9999 36 _ _ head_fields head_plain]
  simp [Program.fieldsOf, Tryd.underlying36, Op.eqFields, part, go_sem, tx_toList]
  repeat' split
  all_goals simp_all
theorem heads_ne_is (a b : Rc.H) (w : World) : (binOp .neq 36 (headV a) (headV b)).run Tryd.prog w = .ok (.bool (!(Ct.heq a b))) w := by
  have h := heads_is a b w
  unfold headV at h ⊢
  rw [run_neq_struct, h]; rfl
end Go.Proofs.YtbijjgicjkmopaaDoor
namespace Go.Proofs.YtbijjgicjkmopaaDoor
open Go.RowKit
open Pt (Tx)

set_option maxRecDepth 100000 in
set_option maxHeartbeats 4000000 in
theorem alike_any (A : Option Addr) (ps : List Ct.P) (n C : Nat) (G : Nat → Prop) (w : World) (hn : n = ps.length) (hm : n ≤ 1000000) (hr : encQ.Rd w A ps G) :
    Calls Tryd.prog 22 #[.slice A n C] w fun e w' => e = .returned (.bool (Ct.alikeB ps)) ∧ Below w.heap.size w w' := by
  have HN := Lib.hid hn
  have HR := Lib.hid hr
  clear hn hr
  go_enter Tryd.func22, Tryd.ntmps22
  go_wp2
  go_loopw [7] (fun vi wr => ∃ i : Nat, i ≤ n ∧ vi = .int .i64 (i : Int) ∧ Hid (∀ p0, ps[0]? = some p0 → ∀ j (hj : j < ps.length), j < i → Ct.common ps[j].h = Ct.common p0.h) ∧ Hid (Below w.heap.size w wr)) (fun vi _ => n - (intOf vi).toNat)
  case atStart => exact ⟨0, Nat.zero_le _, rfl, Lib.hid (fun p0 _ j hj h => absurd h (by omega)), Lib.hid (Below.refl _ _)⟩
  case round =>
    obtain ⟨i, hi, rfl, HA, HB⟩ := hrel
    by_cases hlt : i < n
    · have e0 : decide (i < n) = true := decide_eq_true hlt
      have hlt' : i < ps.length := by rw [← HN.out]; exact hlt
      have h0n : 0 < n := by omega
      have h0' : 0 < ps.length := by omega
      obtain ⟨b1, off1, hA1, -, t1⟩ := ten_of (HR.out.old HB.out) hlt'
      obtain ⟨b0, off0, hA0, -, t0⟩ := ten_of (HR.out.old HB.out) h0'
      rw [Nat.zero_mul, Nat.add_zero] at t0
      rw [hA0] at hA1
      obtain ⟨rfl, rfl⟩ : b0 = b1 ∧ off0 = off1 := by injection hA1 with h; injection h with h1 h2; exact ⟨h1, h2⟩
      have hx : ∃ x, x = ps[i] := ⟨_, rfl⟩
      have hy : ∃ y, y = ps[0] := ⟨_, rfl⟩
      obtain ⟨⟨⟨P, v, z, f, l, s, m, g⟩, lab, at_⟩, hx⟩ := hx
      obtain ⟨⟨⟨Q, v', z', f', l', s', m', g'⟩, lab', at'⟩, hy⟩ := hy
      have HX := Lib.hid hx
      have HY : Hid (ps[0]? = some ⟨⟨Q, v', z', f', l', s', m', g'⟩, lab', at'⟩) := Lib.hid (by rw [List.getElem?_eq_getElem h0', hy])
      rw [← hx] at t1
      rw [← hy] at t0
      subst hA0
      clear hA1
      obtain ⟨wp, hwp⟩ : ∃ y, y = wr.alloc (partO ⟨⟨P, v, z, f, l, s, m, g⟩, lab, at_⟩) := ⟨_, rfl⟩
      have hbp : Below wr.heap.size wr wp := by rw [hwp]; exact (Below.refl _ _).alloc (Nat.le_refl _) _
      have hkp : wp.heap[wr.heap.size]? = some (partO ⟨⟨P, v, z, f, l, s, m, g⟩, lab, at_⟩) := by rw [hwp]; exact Go.Deep.blk_alloc_new _ _
      have T0 := Lib.hid (t0.old hbp)
      have KP := Lib.hid hkp
      have HB1 := Lib.hid (HB.out.trans (hbp.mono HB.out.size))
      have HW : Hid (wp = wr.alloc (.cells #[.string (tx P), .int .i64 v, .int .i64 z, .int .i64 f, .int .i64 l, .int .i64 s, .int .i64 m, .bool g, .int .i64 lab, .int .i64 at_] 44)) := Lib.hid hwp
      have hbd : Below wp.heap.size wp wp.drew := (Below.refl _ _).drew
      have HXX : Hid (∀ y, Below wp.heap.size wp y → (y.cell? ⟨wr.heap.size, 0, none⟩ = some (.string (tx P)) ∧ y.cell? ⟨wr.heap.size, 1, none⟩ = some (.int .i64 v) ∧ y.cell? ⟨wr.heap.size, 2, none⟩ = some (.int .i64 z) ∧ y.cell? ⟨wr.heap.size, 3, none⟩ = some (.int .i64 f) ∧ y.cell? ⟨wr.heap.size, 4, none⟩ = some (.int .i64 l) ∧ y.cell? ⟨wr.heap.size, 5, none⟩ = some (.int .i64 s) ∧ y.cell? ⟨wr.heap.size, 6, none⟩ = some (.int .i64 m) ∧ y.cell? ⟨wr.heap.size, 7, none⟩ = some (.bool g)) ∧ (y.cell? ⟨b0, off0, none⟩ = some (.string (tx Q)) ∧ y.cell? ⟨b0, off0 + 1, none⟩ = some (.int .i64 v') ∧ y.cell? ⟨b0, off0 + 2, none⟩ = some (.int .i64 z') ∧ y.cell? ⟨b0, off0 + 3, none⟩ = some (.int .i64 f') ∧ y.cell? ⟨b0, off0 + 4, none⟩ = some (.int .i64 l') ∧ y.cell? ⟨b0, off0 + 5, none⟩ = some (.int .i64 s') ∧ y.cell? ⟨b0, off0 + 6, none⟩ = some (.int .i64 m') ∧ y.cell? ⟨b0, off0 + 7, none⟩ = some (.bool g')) ∧ Below wp.heap.size wp y) := Lib.hid fun y hy => by
        obtain ⟨a0, a1, a2, a3, a4, a5, a6, a7, -, -⟩ := part10 (below_obj' hy KP.out)
        obtain ⟨d0, d1, d2, d3, d4, d5, d6, d7, -, -⟩ := T0.out.old hy
        exact ⟨⟨a0, a1, a2, a3, a4, a5, a6, a7⟩, ⟨d0, d1, d2, d3, d4, d5, d6, d7⟩, hy⟩
      obtain ⟨eq, heq⟩ : ∃ eq, eq = Ct.heq ⟨P, v, z, 0, 0, s, m, g⟩ ⟨Q, v', z', 0, 0, s', m', g'⟩ := ⟨_, rfl⟩
      have hneq : ∀ y, (binOp .neq 36 (.agg #[.string (tx P), .int .i64 v, .int .i64 z, .int .i64 0, .int .i64 0, .int .i64 s, .int .i64 m, .bool g]) (.agg #[.string (tx Q), .int .i64 v', .int .i64 z', .int .i64 0, .int .i64 0, .int .i64 s', .int .i64 m', .bool g'])).run Tryd.prog y = .ok (.bool (!eq)) y := fun y => by rw [heq]; exact heads_ne_is ⟨P, v, z, 0, 0, s, m, g⟩ ⟨Q, v', z', 0, 0, s', m', g'⟩ y
      have HEQ := Lib.hid heq
      obtain ⟨c0, c1, c2, c3, c4, c5, c6, c7, c8, c9⟩ := t1
      dsimp only at c0 c1 c2 c3 c4 c5 c6 c7 c8 c9
      have HLT := Lib.hid hlt'
      clear hx hy t0 hwp hkp hbp heq
      have hx0 := HXX.out _ hbd
      go_upto_region 4 with fail
      rw [← HW.out]
      clear c0 c1 c2 c3 c4 c5 c6 c7 c8 c9
      cases eq with
      | true =>
        have HA2 : Hid (∀ p0, ps[0]? = some p0 → ∀ j (hj : j < ps.length), j < i + 1 → Ct.common ps[j].h = Ct.common p0.h) := Lib.hid fun p0 hp0 j hj h => by
          by_cases e : j = i
          · subst e
            have h1 := HEQ.out.symm
            rw [Ct.heq_iff] at h1
            rw [HY.out] at hp0
            cases hp0
            rw [← HX.out]
            exact h1
          · exact HA.out p0 hp0 j hj (by omega)
        go_region_held3 (fun y => (y.cell? ⟨wr.heap.size, 0, none⟩ = some (.string (tx P)) ∧ y.cell? ⟨wr.heap.size, 1, none⟩ = some (.int .i64 v) ∧ y.cell? ⟨wr.heap.size, 2, none⟩ = some (.int .i64 z) ∧ y.cell? ⟨wr.heap.size, 3, none⟩ = some (.int .i64 f) ∧ y.cell? ⟨wr.heap.size, 4, none⟩ = some (.int .i64 l) ∧ y.cell? ⟨wr.heap.size, 5, none⟩ = some (.int .i64 s) ∧ y.cell? ⟨wr.heap.size, 6, none⟩ = some (.int .i64 m) ∧ y.cell? ⟨wr.heap.size, 7, none⟩ = some (.bool g)) ∧ (y.cell? ⟨b0, off0, none⟩ = some (.string (tx Q)) ∧ y.cell? ⟨b0, off0 + 1, none⟩ = some (.int .i64 v') ∧ y.cell? ⟨b0, off0 + 2, none⟩ = some (.int .i64 z') ∧ y.cell? ⟨b0, off0 + 3, none⟩ = some (.int .i64 f') ∧ y.cell? ⟨b0, off0 + 4, none⟩ = some (.int .i64 l') ∧ y.cell? ⟨b0, off0 + 5, none⟩ = some (.int .i64 s') ∧ y.cell? ⟨b0, off0 + 6, none⟩ = some (.int .i64 m') ∧ y.cell? ⟨b0, off0 + 7, none⟩ = some (.bool g')) ∧ Below wp.heap.size wp y)
          (first
            | exact hx3
            | exact hx2
            | exact hx0)
          (first
            | (go_at_call 29; refine (common_any P v z f l s m g wp.drew).mono ?_; rintro e w9 ⟨rfl, hb9⟩; have hx2 := HXX.out w9 (hbd.trans hb9))
            | (go_at_call 29; refine (common_any Q v' z' f' l' s' m' g' wp.drew).mono ?_; rintro e w9 ⟨rfl, hb9⟩; have hx2 := HXX.out w9 (hbd.trans hb9))
            | (go_at_call 29; refine (common_any P v z f l s m g w9).mono ?_; rintro e w10 ⟨rfl, hb10⟩; have hx3 := HXX.out w10 (hx2.2.2.trans (hb10.mono hx2.2.2.size)))
            | (go_at_call 29; refine (common_any Q v' z' f' l' s' m' g' w9).mono ?_; rintro e w10 ⟨rfl, hb10⟩; have hx3 := HXX.out w10 (hx2.2.2.trans (hb10.mono hx2.2.2.size))))
        all_goals
          have HB3 := Lib.hid (HB1.out.trans (hx3.2.2.mono HB1.out.size))
          clear hx0 hx2 hx3 hb9 hb10 hbd HXX hneq
          go_wp2
          go_roundw
          case rel => exact ⟨i + 1, by omega, by go_num, HA2, HB3⟩
          case measure => simp [intOf]; omega
      | false =>
        have HE : Hid (Ct.alikeB ps = false) := Lib.hid (Ct.alike_not HY.out (i := i) (by rw [← HN.out]; exact hlt) fun h => by
          rw [← HX.out] at h
          have h1 := Ct.heq_iff.2 h
          have h2 := HEQ.out
          exact absurd (h2.trans h1) (by decide))
        go_region_held3 (fun y => (y.cell? ⟨wr.heap.size, 0, none⟩ = some (.string (tx P)) ∧ y.cell? ⟨wr.heap.size, 1, none⟩ = some (.int .i64 v) ∧ y.cell? ⟨wr.heap.size, 2, none⟩ = some (.int .i64 z) ∧ y.cell? ⟨wr.heap.size, 3, none⟩ = some (.int .i64 f) ∧ y.cell? ⟨wr.heap.size, 4, none⟩ = some (.int .i64 l) ∧ y.cell? ⟨wr.heap.size, 5, none⟩ = some (.int .i64 s) ∧ y.cell? ⟨wr.heap.size, 6, none⟩ = some (.int .i64 m) ∧ y.cell? ⟨wr.heap.size, 7, none⟩ = some (.bool g)) ∧ (y.cell? ⟨b0, off0, none⟩ = some (.string (tx Q)) ∧ y.cell? ⟨b0, off0 + 1, none⟩ = some (.int .i64 v') ∧ y.cell? ⟨b0, off0 + 2, none⟩ = some (.int .i64 z') ∧ y.cell? ⟨b0, off0 + 3, none⟩ = some (.int .i64 f') ∧ y.cell? ⟨b0, off0 + 4, none⟩ = some (.int .i64 l') ∧ y.cell? ⟨b0, off0 + 5, none⟩ = some (.int .i64 s') ∧ y.cell? ⟨b0, off0 + 6, none⟩ = some (.int .i64 m') ∧ y.cell? ⟨b0, off0 + 7, none⟩ = some (.bool g')) ∧ Below wp.heap.size wp y)
          (first
            | exact hx3
            | exact hx2
            | exact hx0)
          (first
            | (go_at_call 29; refine (common_any P v z f l s m g wp.drew).mono ?_; rintro e w9 ⟨rfl, hb9⟩; have hx2 := HXX.out w9 (hbd.trans hb9))
            | (go_at_call 29; refine (common_any Q v' z' f' l' s' m' g' wp.drew).mono ?_; rintro e w9 ⟨rfl, hb9⟩; have hx2 := HXX.out w9 (hbd.trans hb9))
            | (go_at_call 29; refine (common_any P v z f l s m g w9).mono ?_; rintro e w10 ⟨rfl, hb10⟩; have hx3 := HXX.out w10 (hx2.2.2.trans (hb10.mono hx2.2.2.size)))
            | (go_at_call 29; refine (common_any Q v' z' f' l' s' m' g' w9).mono ?_; rintro e w10 ⟨rfl, hb10⟩; have hx3 := HXX.out w10 (hx2.2.2.trans (hb10.mono hx2.2.2.size))))
        all_goals
          have HB3 := Lib.hid (HB1.out.trans (hx3.2.2.mono HB1.out.size))
          clear hx0 hx2 hx3 hb9 hb10 hbd HXX hneq
          go_wp2
          go_ret
          rw [HE.out]
          exact ⟨rfl, HB3.out⟩
    · have e0 : decide (i < n) = false := decide_eq_false hlt
      obtain ⟨q, hq⟩ : ∃ q, q = decide (0 < n) := ⟨_, rfl⟩
      have q1 : decide ((0 : Int) < (n : Int)) = q := by rw [hq]; congr 1; simp
      have q2 : decide (0 < n) = q := hq.symm
      have HE : Hid (Ct.alikeB ps = q) := Lib.hid (by
        have h1 := HN.out
        rw [hq]
        cases hps : ps[0]? with
        | none =>
          have : ps = [] := by
            cases ps with
            | nil => rfl
            | cons a l => cases hps
          rw [this] at h1 ⊢
          rw [h1]; rfl
        | some p =>
          have h2 : 0 < n := by
            rw [h1]
            exact (List.getElem?_eq_some_iff.1 hps).1
          rw [decide_eq_true h2]
          exact Ct.alike_yes hps fun j hj => HA.out p hps j hj (by omega))
      clear hq
      go_wp2
      go_ret
      rw [HE.out]
      exact ⟨rfl, HB.out⟩
end Go.Proofs.YtbijjgicjkmopaaDoor
