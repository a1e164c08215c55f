/- What Bytes of package restore answers, where no group tells of a block. The examples of chapter 19. What Whole answers (parted from CtFile: no function of package catalog). How many blocks a part takes: numbers alone (parted from VoNeed). What lies at a block, and the blocks one behind the other: which parts are found (parted from VoPart, VoParts, VoNeed: no function of package volume). -/
import Derived.Test.YtndofmoepjfnfaaGreatMas
import Derived.Test.YtndofmoepjfnfaaGreatMaw
import Derived.Test.YtndofmoepjfnfaaGreatMaj
import Derived.BigQuiet
import Derived.Deep.QuietTactic
import Derived.Test.YtndofmoepjfnfaaGreatMae
import Derived.Test.YtndofmoepjfnfaaGreatMar
import Derived.Test.YtndofmoepjfnfaaGreatMak
import Derived.Test.YtndofmoepjfnfaaGreatMab
namespace Go.Proofs.YtndofmoepjfnfaaGreat
open Go.RowKit
open Pt (Tx)

/-- bytes, a spot and an error -/
def BytesA (a : Rs.A) (w : World) (e : Ending) (w' : World) : Prop :=
  ∃ v, e = .returned (.tuple #[v, .agg #[.int .i64 a.lab, .int .i64 a.block], .int .i64 a.err]) ∧ OwnL w' w.heap.size v a.bytes ∧ Below w.heap.size w w'
theorem BytesA.of {a : Rs.A} {bs : Tx} {l b r : Int} {w w' : World} {v : Value} (h : a = ⟨bs, l, b, r⟩) (ho : OwnL w' w.heap.size v bs) (hb : Below w.heap.size w w') : BytesA a w (.returned (.tuple #[v, .agg #[.int .i64 l, .int .i64 b], .int .i64 r])) w' := by subst h; exact ⟨v, rfl, ho, hb⟩
theorem find_flat {ts : List St.T} {ps : List Ct.P} {i : Nat} {x : Int × Nat × Nat} (hi : i < ps.length) (hn : ∀ y ∈ (ps.take i).flatMap Rs.wantsP, Rs.bad ts y = false) (h : (Rs.wantsP ps[i]).find? (Rs.bad ts) = some x) : (ps.flatMap Rs.wantsP).find? (Rs.bad ts) = some x := by
  have e2 : ps.flatMap Rs.wantsP = (ps.take i).flatMap Rs.wantsP ++ (ps.drop i).flatMap Rs.wantsP := by rw [← List.flatMap_append, List.take_append_drop]
  rw [e2, List.drop_eq_getElem_cons hi, List.flatMap_cons, List.find?_append, List.find?_eq_none.2 (fun y hy => by rw [hn y hy]; decide), Option.none_or, List.find?_append, h]; rfl
theorem restore_gone {ts : List St.T} {f : Ct.F} (h : f.gone = true) : Rs.restore ts f = ⟨[], 0, 0, 5⟩ := by unfold Rs.restore; rw [if_pos h]
theorem restore_bad {ts : List St.T} {f : Ct.F} {x : Int × Nat × Nat} (h : f.gone = false) (hf : (f.parts.flatMap Rs.wantsP).find? (Rs.bad ts) = some x) : Rs.restore ts f = ⟨[], x.1, (x.2.1 : Int), Rs.why ts x.1⟩ := by
  unfold Rs.restore
  rw [if_neg (by rw [h]; decide)]
  show (match (f.parts.flatMap Rs.wantsP).find? (Rs.bad ts) with | some x => _ | none => _) = _
  rw [hf]
theorem restore_sum {ts : List St.T} {f : Ct.F} (h : f.gone = false) (hf : (f.parts.flatMap Rs.wantsP).find? (Rs.bad ts) = none) : Rs.restore ts f = if sumL (Rs.gotL ts (f.parts.flatMap Rs.wantsP)) = f.sum then ⟨Rs.gotL ts (f.parts.flatMap Rs.wantsP), 0, 0, 0⟩ else ⟨[], (Rs.spotP f.parts).1, (Rs.spotP f.parts).2, 8⟩ := by
  unfold Rs.restore
  rw [if_neg (by rw [h]; decide), ← spot_parts]
  show (match (f.parts.flatMap Rs.wantsP).find? (Rs.bad ts) with | some x => _ | none => _) = _
  rw [hf]
  rfl
theorem gotL_append (ts : List St.T) (a b : List (Int × Nat × Nat)) : Rs.gotL ts (a ++ b) = Rs.gotL ts a ++ Rs.gotL ts b := by unfold Rs.gotL; rw [List.flatMap_append]
theorem gotL_len {ts : List St.T} : ∀ {l : List (Int × Nat × Nat)}, (∀ x ∈ l, x.2.2 ≤ 64) → (Rs.gotL ts l).length ≤ 64 * l.length
  | [], _ => Nat.le_refl _
  | x :: l, h => by
    have ih := gotL_len (ts := ts) fun y hy => h y (List.mem_cons_of_mem _ hy)
    have hx := h x List.mem_cons_self
    have e : Rs.gotL ts (x :: l) = (Rs.read ts x.1 x.2.1 x.2.2).getD [] ++ Rs.gotL ts l := by unfold Rs.gotL; rw [List.flatMap_cons]
    rw [e, List.length_append, List.length_cons]
    have hr : ((Rs.read ts x.1 x.2.1 x.2.2).getD []).length ≤ 64 := by
      cases hh : Rs.read ts x.1 x.2.1 x.2.2 with
      | none => exact Nat.zero_le _
      | some t =>
        rw [read_first] at hh
        have := loadZ_len hh
        show t.length ≤ 64
        omega
    omega
theorem part_lenR {ts : List St.T} {p : Ct.P} {L a : Nat} (hL : p.h.len = (L : Int)) (ha : p.at_ = (a : Int)) (h : L ≤ 1000000) : (Rs.gotL ts (Rs.wantsP p)).length ≤ 1000100 := by
  have e : (Rs.wantsP p).length = (L + 63) / 64 := by unfold Rs.wantsP Vo.data; rw [hL]; simp
  have := gotL_len (ts := ts) (l := Rs.wantsP p) fun x hx => by
    obtain ⟨j, hj, rfl⟩ := List.mem_iff_getElem.1 hx
    obtain ⟨h1, h2⟩ := wantsP_at hL ha (k := j) (by omega)
    rw [h2]
    exact Nat.min_le_right _ _
  omega
theorem why_ne (ts : List St.T) (lab : Int) : ((Rs.why ts lab) == 0) = false := by
  rw [why_first]
  split <;> rfl
set_option maxRecDepth 100000 in
set_option maxHeartbeats 8000000 in
theorem bytes_anyR (A : Option Addr) (ts : List St.T) (n C : Nat) (G : Nat → Prop) (P : Tx) (v z s r : Int) (gone : Bool) (Ap : Option Addr) (ps : List Ct.P) (pn pC : Nat) (Gp : Nat → Prop) (w : World) (hnl : n = ts.length) (hn : n ≤ 19) (hr : RdT w A ts G) (hl : ∀ t ∈ ts, t.blocks.length ≤ 1000000 ∧ ∀ s ∈ t.blocks, s.length ≤ 1000000) (hf : Gr.find ts = []) (hpn : pn = ps.length) (hpm : pn ≤ 1000) (hpr : encQ.Rd w Ap ps Gp) (hps : ∀ p ∈ ps, ∃ L a : Nat, p.h.len = (L : Int) ∧ L ≤ 1000000 ∧ p.at_ = (a : Int) ∧ a ≤ 1000000000) :
    Calls Tryz.prog 8 #[.slice A n C, .agg #[.string (tx P), .int .i64 v, .int .i64 z, .int .i64 s, .int .i64 r, .bool gone, .slice Ap pn pC]] w (BytesA (Rs.restore ts ⟨P, v, z, s, r, gone, ps⟩) w) := by
  obtain ⟨w0, hw0⟩ : ∃ w0, w0 = w.alloc (fileO P v z s r gone Ap pn pC) := ⟨_, rfl⟩
  obtain ⟨w1, hw1⟩ : ∃ w1, w1 = w0.alloc (.cells #[.int .i64 0, .int .i64 0] 39) := ⟨_, rfl⟩
  have hs0 : w0.heap.size = w.heap.size + 1 := by rw [hw0]; simp
  have b0 : Below w.heap.size w w0 := by rw [hw0]; exact (Below.refl _ _).alloc (Nat.le_refl _) _
  have b1 : Below w0.heap.size w0 w1 := by rw [hw1]; exact (Below.refl _ _).alloc (Nat.le_refl _) _
  have b01 : Below w.heap.size w w1 := b0.trans (b1.mono b0.size)
  have k0 : w0.heap[w.heap.size]? = some (fileO P v z s r gone Ap pn pC) := by rw [hw0]; exact Go.Deep.blk_alloc_new _ _
  have k1 : w1.heap[w0.heap.size]? = some (.cells #[.int .i64 0, .int .i64 0] 39 (0, 0)) := by rw [hw1]; exact Go.Deep.blk_alloc_new _ _
  rw [hs0] at k1
  have HK0 := Lib.hid ((b1.block _ (heap_lt k0)).trans k0)
  have HK1 := Lib.hid k1
  have HB := Lib.hid b01
  have HW : Hid (w1 = (w.alloc (.cells #[.string (tx P), .int .i64 v, .int .i64 z, .int .i64 s, .int .i64 r, .bool gone, .slice Ap pn pC] 45)).alloc (.cells #[.int .i64 0, .int .i64 0] 39)) := Lib.hid (by rw [hw1, hw0]; rfl)
  have hcall := find_any A ts C G w1 (by omega) hl (hr.old b01)
  rw [← hnl, hf] at hcall
  have HC := Lib.hid hcall
  have HR1 := Lib.hid (hr.old b01)
  have HP1 := Lib.hid (hpr.old b01)
  have HPN := Lib.hid hpn
  have HPS := Lib.hid hps
  have HNL := Lib.hid hnl
  have HL := Lib.hid (fun t ht => (hl t ht).2)
  obtain ⟨q0, q1, q2, q3, q4, q5, q6⟩ := file7 HK0.out
  have f1 : ∀ j, w1.frozen? ⟨w.heap.size + 1, j, none⟩ = false := fun j => heap_frozen HK1.out
  have c10 : w1.cell? ⟨w.heap.size + 1, 0, none⟩ = some (.int .i64 0) := heap_cell HK1.out
  have c11 : w1.cell? ⟨w.heap.size + 1, 1, none⟩ = some (.int .i64 0) := heap_cell HK1.out
  clear hw0 hw1 hs0 b0 b1 b01 k0 k1 hcall hr hpr hpn hps hnl hl hf
  cases gone with
  | true =>
    have HA : Hid (Rs.restore ts ⟨P, v, z, s, r, true, ps⟩ = ⟨[], 0, 0, 5⟩) := Lib.hid (restore_gone rfl)
    go_enter Tryz.func8, Tryz.ntmps8
    go_upto_region 1 with fail
    rw [← HW.out]
    go_wp2
    have h := spot_set HK1.out 0 0
    have z0 := heap_cell (j := 0) h
    have z1 := heap_cell (j := 1) h
    exact bodyPost_ret (v := .tuple #[.slice none 0 0, .agg #[.int .i64 0, .int .i64 0], .int .i64 5]) (by simp [results, Tryz.results8, go_sem, z0, z1]) rfl (BytesA.of HA.out (OwnL.nil _ _) (HB.out.trans ((spot_kp w1 (w.heap.size + 1) _ _).below HB.out.size fun j hj => by omega)))
  | false =>
    go_enter Tryz.func8, Tryz.ntmps8
    go_upto_region 1 with fail
    rw [← HW.out]
    clear f1 c10 c11
    go_upto_region 4 with (go_at_call 23; refine HC.out.mono ?_; rintro e w2 ⟨As, Cs, l0, rfl, hmap, -, -, -, -, -, hb2⟩; have hl0 : l0 = [] := List.map_eq_nil_iff.1 hmap; subst hl0; have HB2 := Lib.hid hb2; clear hb2 hmap)
    obtain ⟨w3, hw3⟩ : ∃ x, x = w2.alloc (.cells #[.slice A n C, .slice As 0 Cs] 80) := ⟨_, rfl⟩
    have h23 : Below w2.heap.size w2 w3 := by rw [hw3]; exact (Below.refl _ _).alloc (Nat.le_refl _) _
    have h13 : Below w1.heap.size w1 w3 := HB2.out.trans (h23.mono HB2.out.size)
    have HB13 := Lib.hid h13
    have HB3 := Lib.hid (HB.out.trans (h13.mono HB.out.size))
    have HK3 : Hid (w3.heap[w2.heap.size]? = some (.cells #[.slice A n C, .slice As 0 Cs] 80 (0, 0))) := Lib.hid (by rw [hw3]; exact Go.Deep.blk_alloc_new _ _)
    have HF3 := Lib.hid (below_objR h13 HK0.out)
    have HS3 := Lib.hid (below_objR h13 HK1.out)
    have HP3 := Lib.hid (HP1.out.old h13)
    have HR3 := Lib.hid (HR1.out.old h13)
    have HW3 := Lib.hid hw3
    have HL2 : Hid (w.heap.size + 1 < w3.heap.size) := Lib.hid (heap_lt HS3.out)
    rw [← HW3.out]
    obtain ⟨t0, t1, t2, t3, t4, t5, t6⟩ := file7 HF3.out
    clear hw3 h23 h13 q0 q1 q2 q3 q4 q5 q6
    go_wp2
    clear t0 t1 t2 t3 t4 t5 t6
    go_loopw [24, 8] (fun vi vb wr => ∃ (i : Nat) (pre : Tx), i ≤ pn ∧ vi = .int .i64 (i : Int) ∧ pre.length ≤ i * 1000100 ∧ Hid (pre = Rs.gotL ts ((ps.take i).flatMap Rs.wantsP)) ∧ Hid (∀ y ∈ (ps.take i).flatMap Rs.wantsP, Rs.bad ts y = false) ∧ Hid (OwnL wr w3.heap.size vb pre) ∧ Hid (Below w3.heap.size w3 wr)) (fun vi _ _ => pn - (intOf vi).toNat)
    case atStart => exact ⟨0, [], Nat.zero_le _, rfl, by simp, Lib.hid (by rw [List.take_zero]; rfl), Lib.hid (fun y hy => by rw [List.take_zero] at hy; cases hy), Lib.hid (OwnL.nil _ _), Lib.hid (Below.refl _ _)⟩
    case round =>
      obtain ⟨i, pre, hi, rfl, hpl, HP, HN, HO, HBR⟩ := hrel
      obtain ⟨Ab, Cb, rfl, ho1, ho2, ho3, hor⟩ := HO.out.rd
      have HOR := Lib.hid hor
      obtain ⟨N, hN⟩ : ∃ N, N = pre.length := ⟨_, rfl⟩
      rw [← hN] at hpl ho1 ho3
      rw [← hN]
      have HNN := Lib.hid hN
      clear hor ho1 ho3 hN
      by_cases hlt : i < pn
      · have hlp : i < ps.length := by rw [← HPN.out]; exact hlt
        obtain ⟨b, off, rfl, -, t⟩ := ten_of (HP3.out.old HBR.out) hlp
        obtain ⟨L, a, hqL, hLm, hqa, ham⟩ := HPS.out ps[i] (List.getElem_mem hlp)
        have hpln := part_lenR (ts := ts) hqL hqa hLm
        have HTK : Hid ((ps.take (i + 1)).flatMap Rs.wantsP = (ps.take i).flatMap Rs.wantsP ++ Rs.wantsP ps[i]) := Lib.hid (by rw [List.take_succ_eq_append_getElem hlp, List.flatMap_append, List.flatMap_cons, List.flatMap_nil, List.append_nil])
        have HFLAT : Hid (∀ x, (Rs.wantsP ps[i]).find? (Rs.bad ts) = some x → (ps.flatMap Rs.wantsP).find? (Rs.bad ts) = some x) := Lib.hid fun x hx => find_flat hlp HN.out hx
        obtain ⟨q, hq⟩ : ∃ q, q = ps[i] := ⟨_, rfl⟩
        rw [← hq] at t hqL hqa hpln HTK HFLAT
        clear hq hlp
        obtain ⟨⟨qP, qv, qz, qf, ql, qs, qm, qg⟩, lab, at_⟩ := q
        dsimp only at hqL hqa
        subst hqL hqa
        obtain ⟨c0, c1, c2, c3, c4, c5, c6, c7, c8, c9⟩ := t
        dsimp only at c0 c1 c2 c3 c4 c5 c6 c7 c8 c9
        obtain ⟨w4, hw4⟩ : ∃ x, x = wr.alloc (partObj qP qv qz qf L qs qm qg lab a) := ⟨_, rfl⟩
        have hb4 : Below wr.heap.size wr w4 := by rw [hw4]; exact (Below.refl _ _).alloc (Nat.le_refl _) _
        have hk4 : w4.heap[wr.heap.size]? = some (partObj qP qv qz qf L qs qm qg lab a) := by rw [hw4]; exact Go.Deep.blk_alloc_new _ _
        have HW4 : Hid (w4 = wr.alloc (.cells #[.string (tx qP), .int .i64 qv, .int .i64 qz, .int .i64 qf, .int .i64 L, .int .i64 qs, .int .i64 qm, .bool qg, .int .i64 lab, .int .i64 a] 74)) := Lib.hid hw4
        have hb34 := HBR.out.trans (hb4.mono HBR.out.size)
        have HB4 := Lib.hid hb34
        have HO4 : Hid (OwnL w4 w3.heap.size (.slice Ab N Cb) pre) := Lib.hid (by rw [HNN.out]; exact HO.out.of_block fun k e => hb4.block k (HO.out.lt k e))
        have hcall := part_anyR A ts n C As Cs _ qP qv qz qf L qs qm qg lab a w4 HNL.out (by omega) (HR3.out.old hb34) HL.out hLm ham
        obtain ⟨p, hp⟩ : ∃ p : Ct.P, p = ⟨⟨qP, qv, qz, qf, L, qs, qm, qg⟩, lab, a⟩ := ⟨_, rfl⟩
        rw [← hp] at hcall hpln HTK HFLAT
        clear hp
        obtain ⟨s0, s1⟩ : w4.cell? ⟨w2.heap.size, 0, none⟩ = some (.slice A n C) ∧ w4.cell? ⟨w2.heap.size, 1, none⟩ = some (.slice As 0 Cs) := ⟨heap_cell (below_objR hb34 HK3.out), heap_cell (below_objR hb34 HK3.out)⟩
        obtain ⟨p0, p1, p2, p3, p4, p5, p6, p7, p8, p9⟩ := part10 hk4
        unfold PartR at hcall
        cases hfd : (Rs.wantsP p).find? (Rs.bad ts) with
        | some x =>
          rw [hfd] at hcall
          have HC2 := Lib.hid hcall
          have HA : Hid (Rs.restore ts ⟨P, v, z, s, r, false, ps⟩ = ⟨[], x.1, (x.2.1 : Int), Rs.why ts x.1⟩) := Lib.hid (restore_bad rfl (HFLAT.out x hfd))
          have hy := why_ne ts x.1
          obtain ⟨xl, hxl⟩ : ∃ y, y = x.1 := ⟨_, rfl⟩
          obtain ⟨xb, hxb⟩ : ∃ y : Int, y = (x.2.1 : Int) := ⟨_, rfl⟩
          obtain ⟨xw, hxw⟩ : ∃ y, y = Rs.why ts x.1 := ⟨_, rfl⟩
          dsimp only at HC2
          rw [← hxw] at hy
          rw [← hxl, ← hxb] at HA HC2
          rw [← hxl] at hxw
          rw [← hxw] at HA HC2
          clear hcall hfd hxl hxb hxw hw4 hb4 hk4 hb34
          go_upto_region 8 with fail
          rw [← HW4.out]
          clear c0 c1 c2 c3 c4 c5 c6 c7 c8 c9
          go_upto_region 9 with (go_at_call 24; refine HC2.out.mono ?_; rintro e w5 ⟨rfl, hb5⟩; have HB5 := Lib.hid (HB4.out.trans (hb5.mono HB4.out.size)); clear hb5 s0 s1 p0 p1 p2 p3 p4 p5 p6 p7 p8 p9)
          obtain ⟨w6, hw6⟩ : ∃ x, x = w5.alloc (.cells #[.int .i64 xl, .int .i64 xb] 39) := ⟨_, rfl⟩
          have h56 : Below w5.heap.size w5 w6 := by rw [hw6]; exact (Below.refl _ _).alloc (Nat.le_refl _) _
          have hk6 : w6.heap[w5.heap.size]? = some (.cells #[.int .i64 xl, .int .i64 xb] 39 (0, 0)) := by rw [hw6]; exact Go.Deep.blk_alloc_new _ _
          have HW6 := Lib.hid hw6
          have h36 := HB5.out.trans (h56.mono HB5.out.size)
          have hs6 : w6.drew.heap[w.heap.size + 1]? = some (.cells #[.int .i64 0, .int .i64 0] 39 (0, 0)) := below_objR h36.drew HS3.out
          have HS6 := Lib.hid (below_objR h36 HS3.out)
          have HB6 : Hid (Below w.heap.size w w6.drew) := Lib.hid (HB3.out.trans (h36.drew.mono HB3.out.size))
          have hne : w.heap.size + 1 < w5.heap.size := Nat.lt_of_lt_of_le HL2.out HB5.out.size
          have hx0 : (fun y : World => y.cell? ⟨w5.heap.size, 0, none⟩ = some (.int .i64 xl) ∧ y.cell? ⟨w5.heap.size, 1, none⟩ = some (.int .i64 xb)) w6.drew := ⟨heap_cell hk6, heap_cell hk6⟩
          have hx1 : (fun y : World => y.cell? ⟨w5.heap.size, 0, none⟩ = some (.int .i64 xl) ∧ y.cell? ⟨w5.heap.size, 1, none⟩ = some (.int .i64 xb)) ((w6.drew.setCell ⟨w.heap.size + 1, 0, none⟩ (.int .i64 xl)).setCell ⟨w.heap.size + 1, 1, none⟩ (.int .i64 xb)) := ⟨(spot_kp w6.drew (w.heap.size + 1) _ _).cell hx0.1 (by show ¬ w5.heap.size = w.heap.size + 1; omega), (spot_kp w6.drew (w.heap.size + 1) _ _).cell hx0.2 (by show ¬ w5.heap.size = w.heap.size + 1; omega)⟩
          have f6 : ∀ j, w6.drew.frozen? ⟨w.heap.size + 1, j, none⟩ = false := fun j => heap_frozen hs6
          have d0 : w6.drew.cell? ⟨w.heap.size + 1, 0, none⟩ = some (.int .i64 0) := heap_cell hs6
          have d1 : w6.drew.cell? ⟨w.heap.size + 1, 1, none⟩ = some (.int .i64 0) := heap_cell hs6
          have f6' : ∀ j, w6.frozen? ⟨w.heap.size + 1, j, none⟩ = false := fun j => heap_frozen (below_objR h36 HS3.out)
          have d0' : w6.cell? ⟨w.heap.size + 1, 0, none⟩ = some (.int .i64 0) := heap_cell (below_objR h36 HS3.out)
          have d1' : w6.cell? ⟨w.heap.size + 1, 1, none⟩ = some (.int .i64 0) := heap_cell (below_objR h36 HS3.out)
          rw [← HW6.out]
          clear hw6 h56 hk6 h36 hs6
          go_upto_region 10 with fail
          go_region_held3 (fun y => y.cell? ⟨w5.heap.size, 0, none⟩ = some (.int .i64 xl) ∧ y.cell? ⟨w5.heap.size, 1, none⟩ = some (.int .i64 xb))
            (first
              | exact hx0
              | exact hx1)
            (fail)
          go_wp2
          have h := spot_set HS6.out xl xb
          have z0 : ((w6.setCell ⟨w.heap.size + 1, 0, none⟩ (.int .i64 xl)).setCell ⟨w.heap.size + 1, 1, none⟩ (.int .i64 xb)).drew.cell? ⟨w.heap.size + 1, 0, none⟩ = some (.int .i64 xl) := heap_cell h
          have z1 : ((w6.setCell ⟨w.heap.size + 1, 0, none⟩ (.int .i64 xl)).setCell ⟨w.heap.size + 1, 1, none⟩ (.int .i64 xb)).drew.cell? ⟨w.heap.size + 1, 1, none⟩ = some (.int .i64 xb) := heap_cell h
          refine bodyPost_ret (v := .tuple #[.slice none 0 0, .agg #[.int .i64 xl, .int .i64 xb], .int .i64 xw]) (by simp [results, Tryz.results8, go_sem, z0, z1]) rfl (BytesA.of HA.out (OwnL.nil _ _) (HB6.out.trans ((spot_kp w6.drew (w.heap.size + 1) _ _).below HB6.out.size fun j hj => by omega)))
        | none =>
          rw [hfd] at hcall
          have HC2 := Lib.hid hcall
          dsimp only at HC2
          have HN2 : Hid (∀ y ∈ (ps.take (i + 1)).flatMap Rs.wantsP, Rs.bad ts y = false) := Lib.hid fun y hy => by
            rw [HTK.out] at hy
            rcases List.mem_append.1 hy with hy | hy
            · exact HN.out y hy
            · have := List.find?_eq_none.1 hfd y hy
              simpa using this
          obtain ⟨l, hlq⟩ : ∃ l, l = Rs.gotL ts (Rs.wantsP p) := ⟨_, rfl⟩
          rw [← hlq] at HC2 hpln
          have HPP : Hid (pre ++ l = Rs.gotL ts ((ps.take (i + 1)).flatMap Rs.wantsP)) := Lib.hid (by rw [HTK.out, gotL_append, ← hlq, HP.out])
          have hpre : pre.length = N := HNN.out.symm
          have HLE : Hid ((pre ++ l).length ≤ (i + 1) * 1000100) := Lib.hid (by rw [List.length_append, hpre]; omega)
          clear hcall hfd hlq hw4 hb4 hk4 hb34
          go_upto_region 8 with fail
          rw [← HW4.out]
          clear c0 c1 c2 c3 c4 c5 c6 c7 c8 c9
          go_upto_region 9 with (go_at_call 24; refine HC2.out.mono ?_; rintro e w5 ⟨⟨v5, rfl, ho5⟩, hb5⟩; have HB5 := Lib.hid (HB4.out.trans (hb5.mono HB4.out.size)); have HO5 : Hid (OwnL w5 w3.heap.size (.slice Ab N Cb) pre) := Lib.hid (HO4.out.of_block fun k e => hb5.block k (HO4.out.lt k e)); obtain ⟨Al, Cl, rfl, g1, g2, g3, g4⟩ := ho5.rd; have HG3 := Lib.hid g3; have HG4 := Lib.hid g4; clear hb5 ho5 g1 g2 g3 g4 s0 s1 p0 p1 p2 p3 p4 p5 p6 p7 p8 p9)
          obtain ⟨w6, hw6⟩ : ∃ x, x = w5.alloc (.cells #[.int .i64 0, .int .i64 0] 39) := ⟨_, rfl⟩
          have h56 : Below w5.heap.size w5 w6 := by rw [hw6]; exact (Below.refl _ _).alloc (Nat.le_refl _) _
          have HW6 := Lib.hid hw6
          have HB6 := Lib.hid (HB5.out.trans (h56.mono HB5.out.size))
          have HO6 : Hid (OwnL w6 w3.heap.size (.slice Ab N Cb) pre) := Lib.hid (HO5.out.of_block fun k e => h56.block k (HO5.out.lt k e))
          have HR6 := Lib.hid (HG4.out.old h56)
          obtain ⟨ml, hml⟩ : ∃ ml, ml = l.length := ⟨_, rfl⟩
          have HML : Hid (l.length = ml) := Lib.hid hml.symm
          rw [← hml] at HG3 hpln
          rw [← HW6.out]
          rw [← hml]
          have hsm : pre.length + ml ≤ 140737488355328 := by omega
          clear hw6 h56 hml hpre
          go_wp2_with (at_builtin; refine wpList_append_bl _ rfl _ _ rfl w3.heap.size _ pre rfl HO6.out Al ml Cl l _ rfl HML.out HG3.out HR6.out hsm HB6.out.size ?_; intro v' w7 hv hg; have HV := Lib.hid hv; have HB7 := Lib.hid (HB6.out.grown hg HB6.out.size HO6.out.lo); clear hv hg)
          go_roundw
          case rel => exact ⟨i + 1, pre ++ l, by omega, by go_num, HLE.out, HPP, HN2, HV, HB7⟩
          case measure => simp [intOf]; omega
      · have hip : i = pn := by omega
        have hall : ps.take i = ps := List.take_of_length_le (by rw [← HPN.out]; omega)
        have HPA : Hid (Rs.gotL ts (ps.flatMap Rs.wantsP) = pre) := Lib.hid (by rw [HP.out, hall])
        have HFN : Hid ((ps.flatMap Rs.wantsP).find? (Rs.bad ts) = none) := Lib.hid (by
          rw [List.find?_eq_none]
          intro y hy
          rw [HN.out y (by rw [hall]; exact hy)]
          decide)
        have HA := Lib.hid (restore_sum (ts := ts) (f := ⟨P, v, z, s, r, false, ps⟩) rfl HFN.out)
        dsimp only at HA
        rw [HPA.out] at HA
        obtain ⟨c, hc⟩ : ∃ c, c = sumL pre := ⟨_, rfl⟩
        have hc0 : 0 ≤ c := by rw [hc]; exact sumL_lo pre
        have hc1 : c ≤ 4294967295 := by rw [hc]; have := sumL_hi pre; omega
        rw [← hc] at HA
        have HSUM : Hid (∀ y : World, Below wr.heap.size wr y → Calls Tryz.prog 25 #[.slice Ab N Cb] y fun e w' => e = .returned (.int .u32 c) ∧ w' = y) := Lib.hid fun y hy => by
          rw [hc]
          exact (sumL_any Ab pre N Cb _ y HNN.out (by rw [← HNN.out]; unfold maxLen; omega) (HOR.out.old hy)).mono fun _ _ h => ⟨h.1, h.2.symm⟩
        have hbw := HB3.out.trans (HBR.out.mono HB3.out.size)
        have HBW := Lib.hid hbw
        obtain ⟨t0, t1, t2, t3, t4, t5, t6⟩ := file7 (below_objR HBR.out HF3.out)
        have hsr := below_objR HBR.out HS3.out
        have HSR := Lib.hid hsr
        have HPR := Lib.hid (HP3.out.old HBR.out)
        have HOW : Hid (OwnL wr w3.heap.size (.slice Ab N Cb) pre) := Lib.hid (by rw [HNN.out]; exact HO.out)
        clear hall hc hbw hsr
        go_upto_region 13 with fail
        by_cases hcs : c = s
        · have b1 : (c == s) = true := beq_iff_eq.2 hcs
          rw [if_pos hcs] at HA
          clear hcs
          go_quiet ((go_at_call 25; refine Calls.quiet_of_same (HSUM.out _ ?_); first | exact Below.refl _ _ | exact ⟨rfl, rfl, rfl, Nat.le_refl _, fun _ _ => rfl⟩))
          have HQ : Hid (Below wr.heap.size wr (wr.drewN nq)) := Lib.hid ⟨rfl, rfl, rfl, Nat.le_refl _, fun _ _ => rfl⟩
          generalize wr.drewN nq = wq at HQ ⊢
          have HSQ := Lib.hid (below_objR HQ.out HSR.out)
          have HBQ := Lib.hid (HBW.out.trans (HQ.out.mono HBW.out.size))
          clear t0 t1 t2 t3 t4 t5 t6
          have f9 : ∀ j, wq.frozen? ⟨w.heap.size + 1, j, none⟩ = false := fun j => heap_frozen HSQ.out
          have d0 : wq.cell? ⟨w.heap.size + 1, 0, none⟩ = some (.int .i64 0) := heap_cell HSQ.out
          have d1 : wq.cell? ⟨w.heap.size + 1, 1, none⟩ = some (.int .i64 0) := heap_cell HSQ.out
          go_wp2
          have h := spot_set HSQ.out 0 0
          have z0 := heap_cell (j := 0) h
          have z1 := heap_cell (j := 1) h
          have HOQ : Hid (OwnL wq w3.heap.size (.slice Ab N Cb) pre) := Lib.hid (HOW.out.of_block fun k e => HQ.out.block k (HOW.out.lt k e))
          exact bodyPost_ret (v := .tuple #[.slice Ab N Cb, .agg #[.int .i64 0, .int .i64 0], .int .i64 0]) (by simp [results, Tryz.results8, go_sem, z0, z1]) rfl (BytesA.of HA.out (ownL_low (HOQ.out.kp (spot_kp wq (w.heap.size + 1) _ _) fun j e hj => by have := HOQ.out.lo j e; have := HL2.out; omega) (by have := HL2.out; omega)) (HBQ.out.trans ((spot_kp wq (w.heap.size + 1) _ _).below HBQ.out.size fun j hj => by omega)))
        · have b1 : (c == s) = false := beq_eq_false_iff_ne.2 hcs
          rw [if_neg hcs] at HA
          clear hcs
          go_quiet ((go_at_call 25; refine Calls.quiet_of_same (HSUM.out _ ?_); first | exact Below.refl _ _ | exact ⟨rfl, rfl, rfl, Nat.le_refl _, fun _ _ => rfl⟩))
          have HQ : Hid (Below wr.heap.size wr (wr.drewN nq)) := Lib.hid ⟨rfl, rfl, rfl, Nat.le_refl _, fun _ _ => rfl⟩
          generalize wr.drewN nq = wq at HQ ⊢
          have HSQ := Lib.hid (below_objR HQ.out HSR.out)
          have HBQ := Lib.hid (HBW.out.trans (HQ.out.mono HBW.out.size))
          clear t0 t1 t2 t3 t4 t5 t6
          obtain ⟨t0, t1, t2, t3, t4, t5, t6⟩ := file7 (below_objR HQ.out (below_objR HBR.out HF3.out))
          obtain ⟨xl, hxl⟩ : ∃ x, x = (Rs.spotP ps).1 := ⟨_, rfl⟩
          obtain ⟨xb, hxb⟩ : ∃ x, x = (Rs.spotP ps).2 := ⟨_, rfl⟩
          have hcall := firstHead_any Ap ps pn pC _ wq HPN.out (HPR.out.old HQ.out)
          rw [← hxl, ← hxb] at HA hcall
          have HC3 := Lib.hid hcall
          clear hcall hxl hxb
          go_wp2_with (go_at_call 26; refine HC3.out.mono ?_; rintro e w7 ⟨rfl, hb7⟩; have HS7 := Lib.hid (below_objR hb7 HSQ.out); have HB7 := Lib.hid (HBQ.out.trans (hb7.mono HBQ.out.size)); have f7 : ∀ j, w7.frozen? ⟨w.heap.size + 1, j, none⟩ = false := fun j => heap_frozen HS7.out; have d0 : w7.cell? ⟨w.heap.size + 1, 0, none⟩ = some (.int .i64 0) := heap_cell HS7.out; have d1 : w7.cell? ⟨w.heap.size + 1, 1, none⟩ = some (.int .i64 0) := heap_cell HS7.out; clear hb7)
          have h := spot_set HS7.out xl xb
          have z0 := heap_cell (j := 0) h
          have z1 := heap_cell (j := 1) h
          exact bodyPost_ret (v := .tuple #[.slice none 0 0, .agg #[.int .i64 xl, .int .i64 xb], .int .i64 8]) (by simp [results, Tryz.results8, go_sem, z0, z1]) rfl (BytesA.of HA.out (OwnL.nil _ _) (HB7.out.trans ((spot_kp w7 (w.heap.size + 1) _ _).below HB7.out.size fun j hj => by omega)))
end Go.Proofs.YtndofmoepjfnfaaGreat
namespace Go.Proofs.YtndofmoepjfnfaaGreat
open Go.RowKit
open Pt (Tx)

theorem num19 (n : Int) (w : World) : Calls Tryz.prog 9 #[.int .i64 n] w fun e w' => e = .returned (.int .i64 n) ∧ w = w' := by
  go_enter Tryz.func9, Tryz.ntmps9
  go_wp2
  go_ret
  exact ⟨rfl, rfl⟩
theorem sumL_nil : sumL [] = 0 := by decide +kernel
theorem bytes_first (w : World) : Calls Tryz.prog 8 #[.slice none 0 0, .agg #[.string ⟨#[97]⟩, .int .i64 1, .int .i64 0, .int .i64 0, .int .i64 0, .bool false, .slice none 0 0]] w (BytesA ⟨[], 0, 0, 0⟩ w) := by
  have h := bytes_anyR none [] 0 0 (fun _ => True) [97] 1 0 0 0 false none [] 0 0 (fun _ => True) w rfl (by omega) (RdT.empty _ _ _) (fun t ht => nomatch ht) (by rfl) rfl (by omega) (Enc.Rd.nil _ _ _) (fun p hp => nomatch hp)
  have e : Rs.restore [] ⟨[97], 1, 0, 0, 0, false, []⟩ = ⟨[], 0, 0, 0⟩ := by
    rw [restore_sum rfl rfl]
    show (if sumL [] = 0 then _ else _) = _
    rw [if_pos sumL_nil]; rfl
  rw [e] at h
  exact h
theorem bytes_second (w : World) : Calls Tryz.prog 8 #[.slice none 0 0, .agg #[.string ⟨#[]⟩, .int .i64 0, .int .i64 0, .int .i64 0, .int .i64 0, .bool true, .slice none 0 0]] w (BytesA ⟨[], 0, 0, 5⟩ w) := by
  have h := bytes_anyR none [] 0 0 (fun _ => True) [] 0 0 0 0 true none [] 0 0 (fun _ => True) w rfl (by omega) (RdT.empty _ _ _) (fun t ht => nomatch ht) (by rfl) rfl (by omega) (Enc.Rd.nil _ _ _) (fun p hp => nomatch hp)
  rw [restore_gone rfl] at h
  exact h
set_option maxRecDepth 100000 in
theorem alive19_true (w : World) : Calls Tryz.prog 4 #[] w (AnsB true w) := by
  have hn0 := num19 0
  have hn5 := num19 5
  go_enter Tryz.func4, Tryz.ntmps4
  go_upto_region 2 with (go_at_call 8; refine (bytes_first _).mono ?_; rintro e w1 ⟨v1, rfl, ho1, hb1⟩; obtain ⟨A1, C1, rfl, -, -, -, -⟩ := ho1.rd; have HB1 := Lib.hid hb1; clear ho1 hb1)
  obtain ⟨w2, hw2⟩ : ∃ x, x = w1.alloc (.cells #[.int .i64 0, .int .i64 0] 39) := ⟨_, rfl⟩
  have HB2 : Hid (Below w.heap.size w w2) := Lib.hid (by rw [hw2]; exact HB1.out.alloc HB1.out.size _)
  rw [← hw2]
  clear hw2
  go_upto_region 3 with (go_at_call 8; refine (bytes_second _).mono ?_; rintro e w3 ⟨v3, rfl, ho3, hb3⟩; obtain ⟨A3, C3, rfl, -, -, -, -⟩ := ho3.rd; have HB3 := Lib.hid (HB2.out.trans (hb3.mono HB2.out.size)); clear ho3 hb3)
  obtain ⟨w4, hw4⟩ : ∃ x, x = w3.alloc (.cells #[.int .i64 0, .int .i64 0] 39) := ⟨_, rfl⟩
  have HB4 : Hid (Below w.heap.size w w4) := Lib.hid (by rw [hw4]; exact HB3.out.alloc HB3.out.size _)
  rw [← hw4]
  clear hw4
  go_wp2_with (first
    | (go_at_call_of 9 (Value.int .i64 0); refine (hn0 _).mono ?_; rintro e w5 ⟨rfl, hw5⟩; subst hw5)
    | (go_at_call_of 9 (Value.int .i64 5); refine (hn5 _).mono ?_; rintro e w5 ⟨rfl, hw5⟩; subst hw5))
  go_ret
  exact ⟨rfl, HB4.out⟩
end Go.Proofs.YtndofmoepjfnfaaGreat
namespace Go.Proofs.YtndofmoepjfnfaaGreat
open Go.RowKit
open Pt (Tx)

/-- what Whole answers -/
def WholeA (o : Option Ct.F) (w : World) (e : Ending) (w' : World) : Prop :=
  (match o with
    | some f => ∃ A C, e = .returned (.tuple #[.agg #[.string (tx f.path), .int .i64 f.version, .int .i64 f.size, .int .i64 f.sum, .int .i64 f.serial, .bool f.gone, .slice A f.parts.length C], .bool true]) ∧ encQ.Own w' w.heap.size 74 (.slice A f.parts.length C) f.parts
    | none => e = .returned (.tuple #[.agg #[.string ⟨#[]⟩, .int .i64 0, .int .i64 0, .int .i64 0, .int .i64 0, .bool false, .slice none 0 0], .bool false])) ∧ Below w.heap.size w w'
theorem WholeA.no {o : Option Ct.F} {w w' : World} (h : o = none) (hb : Below w.heap.size w w') : WholeA o w (.returned (.tuple #[.agg #[.string ⟨#[]⟩, .int .i64 0, .int .i64 0, .int .i64 0, .int .i64 0, .bool false, .slice none 0 0], .bool false])) w' := by subst h; exact ⟨rfl, hb⟩
theorem WholeA.yes {o : Option Ct.F} {P : Tx} {v z s r : Int} {b : Bool} {A : Option Addr} {m C : Nat} {l : List Ct.P} {w w' : World} (h : o = some ⟨P, v, z, s, r, b, l⟩) (hm : m = l.length) (hO : encQ.Own w' w.heap.size 74 (.slice A m C) l) (hb : Below w.heap.size w w') :
    WholeA o w (.returned (.tuple #[.agg #[.string (tx P), .int .i64 v, .int .i64 z, .int .i64 s, .int .i64 r, .bool b, .slice A m C], .bool true])) w' := by subst h hm; exact ⟨⟨A, C, rfl, hO⟩, hb⟩
end Go.Proofs.YtndofmoepjfnfaaGreat
namespace Go.Proofs.YtndofmoepjfnfaaGreat
open Go.RowKit
open Pt (Tx)

theorem need_lo {n : Int} (h : n ≤ 0) : Vo.need n = 2 := by
  unfold Vo.need
  rw [show (min (max n 0) 4000).toNat = 0 by omega]; rfl
theorem need_mid {n : Int} (h : 0 ≤ n) (h' : n ≤ 4000) : (Vo.need n : Int) = (n + 63) / 64 + 2 := by
  unfold Vo.need Vo.data
  rw [show (min (max n 0) 4000).toNat = n.toNat by omega]; omega
theorem need_hi {n : Int} (h : 4000 ≤ n) : Vo.need n = 65 := by
  unfold Vo.need
  rw [show (min (max n 0) 4000).toNat = 4000 by omega]; rfl
theorem need_le (n : Int) : Vo.need n ≤ 65 := by
  unfold Vo.need Vo.data; omega
theorem need_ge (n : Int) : 2 ≤ Vo.need n := by
  unfold Vo.need Vo.data; omega
/-- a head's -/
theorem need_head {h : Rc.H} (k : Rc.Ok h) : Vo.need h.len = Vo.data h.len.toNat + 2 := by
  obtain ⟨-, -, -, ⟨_, a⟩, b', c, d, _⟩ := k
  unfold Vo.need
  rw [show (min (max h.len 0) 4000).toNat = h.len.toNat by omega]
end Go.Proofs.YtndofmoepjfnfaaGreat
namespace Go.Proofs.YtndofmoepjfnfaaGreat
open Go.RowKit
open Pt (Tx)

/-- a part as a value: the head, the tape's label, the block -/
def partV (h : Rc.H) (lab at_ : Int) : Value := .agg #[.string (tx h.path), .int .i64 h.version, .int .i64 h.size, .int .i64 h.from_, .int .i64 h.len, .int .i64 h.serial, .int .i64 h.sum, .bool h.gone, .int .i64 lab, .int .i64 at_]
/-- what partAt answers -/
def PartA (o : Option Rc.H) (lab at_ : Int) (w : World) (e : Ending) (w' : World) : Prop :=
  (match o with
    | some h => e = .returned (.tuple #[partV h lab at_, .bool true])
    | none => e = .returned (.tuple #[partV Rc.H.zero 0 0, .bool false])) ∧ Below w.heap.size w w'
theorem stored10 {w w7 : World} {B : Nat} (a0 a1 a2 a3 a4 a5 a6 a7 a8 a9 : Value) (hB : w.heap.size ≤ B) (hb : Below w.heap.size w w7) :
    Below w.heap.size w ((((((((((w7.setCell ⟨B, 0, none⟩ a0).setCell ⟨B, 1, none⟩ a1).setCell ⟨B, 2, none⟩ a2).setCell ⟨B, 3, none⟩ a3).setCell ⟨B, 4, none⟩ a4).setCell ⟨B, 5, none⟩ a5).setCell ⟨B, 6, none⟩ a6).setCell ⟨B, 7, none⟩ a7).setCell ⟨B, 8, none⟩ a8).setCell ⟨B, 9, none⟩ a9) := by
  have hk : Kp (· = B) w7 ((((((((((w7.setCell ⟨B, 0, none⟩ a0).setCell ⟨B, 1, none⟩ a1).setCell ⟨B, 2, none⟩ a2).setCell ⟨B, 3, none⟩ a3).setCell ⟨B, 4, none⟩ a4).setCell ⟨B, 5, none⟩ a5).setCell ⟨B, 6, none⟩ a6).setCell ⟨B, 7, none⟩ a7).setCell ⟨B, 8, none⟩ a8).setCell ⟨B, 9, none⟩ a9) := (((((((((Kp.store _ _ _ _).trans (Kp.store _ _ _ _)).trans (Kp.store _ _ _ _)).trans (Kp.store _ _ _ _)).trans (Kp.store _ _ _ _)).trans (Kp.store _ _ _ _)).trans (Kp.store _ _ _ _)).trans (Kp.store _ _ _ _)).trans (Kp.store _ _ _ _)).trans (Kp.store _ _ _ _)
  exact hb.trans (hk.below hb.size (fun x hx => by omega))
theorem part_good {lab : Int} {bs : List Tx} {lost : Bool} {n : Nat} {u : Fm.U} (h : Vo.good ⟨lab, bs, lost⟩ n = some u) : Vo.part ⟨lab, bs, lost⟩ n = if u.kind = 2 ∧ Rc.Good u.load ∧ n + Vo.data (Rc.parse u.load).len.toNat + 1 < bs.length then some (Rc.parse u.load) else none := by
  unfold Vo.part; rw [h]
theorem part_none {lab : Int} {bs : List Tx} {lost : Bool} {n : Nat} (h : Vo.good ⟨lab, bs, lost⟩ n = none) : Vo.part ⟨lab, bs, lost⟩ n = none := by
  unfold Vo.part; rw [h]
/-- what Parts answers, in new memory -/
def PartsA (lab : Int) (l : List (Rc.H × Nat)) (w : World) (e : Ending) (w' : World) : Prop :=
  ∃ A C, e = .returned (.slice A l.length C) ∧ l.length ≤ C ∧ C ≤ maxLen ∧ (A = none → l.length = 0 ∧ C = 0) ∧ (encP lab).Rd w' A l (w.heap.size ≤ ·) ∧ Below w.heap.size w w'
theorem scan_end {t : Vo.T} {f n : Nat} (h : t.blocks.length ≤ n) : Vo.scan t f n = [] := by
  cases f with
  | zero => rfl
  | succ f => rw [Vo.scan, if_neg (by omega)]
theorem scan_no {t : Vo.T} {f n : Nat} (h : n < t.blocks.length) (hp : Vo.part t n = none) : Vo.scan t (f + 1) n = Vo.scan t f (n + 1) := by
  rw [Vo.scan, if_pos h, hp]
theorem scan_yes {t : Vo.T} {f n : Nat} {q : Rc.H} (h : n < t.blocks.length) (hp : Vo.part t n = some q) : Vo.scan t (f + 1) n = (q, n) :: Vo.scan t f (n + Vo.need q.len) := by
  rw [Vo.scan, if_pos h, hp, need_head (Vo.part_in hp).2]
  rfl
theorem snoc_append {α : Type} (a : List α) (x : α) (b : List α) : a ++ x :: b = (a ++ [x]) ++ b := by rw [List.append_assoc]; rfl
/-- what is as it was when a list of structs has grown -/
theorem grown_keeps {α : Type} {E : Enc α} {w wr w2 w3 : World} {t : TypeId} {v : Value} {l : List α} {S : Nat} {o' : Obj} (h : E.Own wr (S + 1) t v l) (hw : w.heap.size = S) (hb : Below w.heap.size w wr) (h2 : Below wr.heap.size wr w2) (hg : (w2.alloc o').grownBy w3 v.ownBlock) :
    (∀ b o, wr.heap.size ≤ b → w2.heap[b]? = some o → w3.heap[b]? = some o) ∧ (∀ o, w2.heap[S]? = some o → w3.heap[S]? = some o) ∧ Below w.heap.size w w3 := by
  have ha : ∀ b o, w2.heap[b]? = some o → (w2.alloc o').heap[b]? = some o := fun b o hb' => (Below.heap_alloc _ _ _ (heap_lt hb')).trans hb'
  have hlt : ∀ b o, w2.heap[b]? = some o → b < (w2.alloc o').heap.size := fun b o hb' => by have := heap_lt hb'; simp; omega
  refine ⟨fun b o hb' ho => (hg.block b (hlt b o ho) fun e => ?_).trans (ha b o ho), fun o ho => (hg.block S (hlt S o ho) fun e => ?_).trans (ha S o ho), ?_⟩
  · have := (h.lt b e.symm).2; omega
  · have := (h.lt S e.symm).1; omega
  · have h3 : Below w.heap.size w w2 := hb.trans (h2.mono hb.size)
    exact (h3.alloc h3.size _).grown hg (by have := h3.size; simp; omega) (fun x hx => by have := (h.lt x hx).1; omega)
end Go.Proofs.YtndofmoepjfnfaaGreat
