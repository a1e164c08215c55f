/- What Find of package group answers: the groups that tapes tell of. Tapes in a row that a call makes longer by append: each in four cells. No function of the program. What slices.Grow makes of nothing, and slices.Concat of two rows of tapes. What sealOf of package group answers: the seal of a group, of its first member. What Row of package stripe answers. -/
import Derived.Test.YtbkmpoabdnickaaMj
import Derived.Test.YtbkmpoabdnickaaMr
import Derived.Test.YtbkmpoabdnickaaMs
import Derived.Test.YtbkmpoabdnickaaMe
import Derived.Test.YtbkmpoabdnickaaMi
import Derived.Lib.AppendZerosOnto
import Derived.IntWalk
import Derived.Test.YtbkmpoabdnickaaMn
import Derived.Test.YtbkmpoabdnickaaMp
import Derived.Test.YtbkmpoabdnickaaMh
namespace Go.Proofs.Ytbkmpoabdnickaa
open Go.RowKit
open Pt (Tx)

set_option maxHeartbeats 1000000 in
theorem sort_nil (w : World) : Calls Try.prog 20 #[.slice none 0 0, .func (.func 21) #[] #[]] w fun e w' => e = .returned (.tuple #[]) ∧ w = w' := by
  have HI : ∀ w : World, Calls Try.prog 68 #[.slice none 0 0, .int .i64 0, .int .i64 0, .func (.func 21) #[] #[]] w fun e w' => e = .returned (.tuple #[]) ∧ w = w' := fun w => by
    go_enter Try.func68, Try.ntmps68
    go_wp2
    go_loopw [8, 9] (fun vi vj wr => vi = .int .i64 1 ∧ Hid (wr = w)) (fun _ _ _ => 0)
    case atStart => exact ⟨rfl, Lib.hid rfl⟩
    case round =>
      obtain ⟨rfl, HW⟩ := hrel
      go_wp2
      go_end0
      exact ⟨rfl, HW.out.symm⟩
  have HS : ∀ w : World, Calls Try.prog 43 #[.slice none 0 0, .int .i64 0, .func (.func 21) #[] #[]] w fun e w' => e = .returned (.tuple #[]) ∧ w = w' := fun w => by
    go_enter Try.func43, Try.ntmps43
    go_wp2
    go_loopw [7, 8] (fun va vb wr => va = .int .i64 0 ∧ vb = .int .i64 20 ∧ Hid (wr = w)) (fun _ _ _ => 0)
    case atStart => exact ⟨rfl, rfl, Lib.hid rfl⟩
    case round =>
      obtain ⟨rfl, rfl, HW⟩ := hrel
      go_wp2_with fail
      rw [HW.out]
      refine (HI w).mono ?_
      rintro e w1 ⟨rfl, hw1⟩
      subst hw1
      go_wp2
      go_loopw [6, 7, 8, 9] (fun vz va vb vm wr => vz = .int .i64 20 ∧ Hid (wr = w)) (fun _ _ _ _ _ => 0)
      case atStart => exact ⟨rfl, Lib.hid rfl⟩
      case round =>
        obtain ⟨rfl, HW1⟩ := hrel
        go_wp2
        go_end0
        exact ⟨rfl, HW1.out.symm⟩
  have HX := Lib.hid HS
  clear HI HS
  go_enter Try.func20, Try.ntmps20
  go_wp2_with fail
  refine (HX.out _).mono ?_
  rintro e w1 ⟨rfl, hw1⟩
  subst hw1
  go_wp2
  go_end0
  exact ⟨rfl, rfl⟩
theorem compact_nil (w : World) : Calls Try.prog 23 #[.slice none 0 0, .func (.func 24) #[] #[]] w fun e w' => e = .returned (.slice none 0 0) ∧ w = w' := by
  go_enter Try.func23, Try.ntmps23
  go_wp2
  go_ret
  exact ⟨rfl, rfl⟩
/-- seals in a row are sorted, and of each number the first stays -/
theorem FindI.sorted {w wr w1 : World} {g C : Nat} {xs ys : List Sx} (h : FindI w (.slice (some ⟨g, 0, none⟩) xs.length C) xs wr) (hk : Kp (· = g) wr w1) (hs : SitsX w1 g 0 ys) (hm : ∀ y ∈ ys, y ∈ xs) (hl : ys.length ≤ C) (hC : C ≤ maxLen) :
    FindA (ys.map Sx.s) w (.returned (.slice (some ⟨g, 0, none⟩) ys.length C)) w1 := by
  have hlo : w.heap.size ≤ g := (h.own.lt g rfl).1
  refine ⟨_, C, ys, rfl, rfl, hl, hC, (fun e => by cases e), hs.rd hlo, fun y hy => ?_, h.bel.trans (hk.below h.bel.size fun k e => by rw [e]; exact hlo)⟩
  exact ((h.ok y (hm y hy)).kp hk (fun b hb e => hb.2 (by rw [e]; rfl))).mono fun b hb => hb.1
theorem FindI.drewN {w wr : World} {v : Value} {xs : List Sx} (h : FindI w v xs wr) (n : Nat) : FindI w v xs (wr.drewN n) := h.old ⟨rfl, rfl, rfl, Nat.le_refl _, fun _ _ => rfl⟩
theorem cands_take {ts : List St.T} {i : Nat} (h : i < ts.length) : Gr.cands (ts.take (i + 1)) = Gr.cands (ts.take i) ++ (match Gr.cand ts[i] with | none => [] | some s => [s]) := by
  rw [List.take_succ_eq_append_getElem h, Gr.cands_snoc]
  rfl
set_option maxRecDepth 100000 in
set_option maxHeartbeats 8000000 in
theorem find_any (A : Option Addr) (ts : List St.T) (C : Nat) (G : Nat → Prop) (w : World) (hn : ts.length ≤ 19) (hl : ∀ t ∈ ts, t.blocks.length ≤ 1000000 ∧ ∀ s ∈ t.blocks, s.length ≤ 1000000) (hr : RdT w A ts G) :
    Calls Try.prog 9 #[.slice A ts.length C] w (FindA (Gr.find ts) w) := by
  have HR := Lib.hid hr
  have HL := Lib.hid hl
  clear hr hl
  go_enter Try.func9, Try.ntmps9
  go_wp2
  go_loopw [10, 3] (fun vi v wr => ∃ (i : Nat) (xs : List Sx), i ≤ ts.length ∧ vi = .int .i64 (i : Int) ∧ Hid (FindI w v xs wr) ∧ xs.length ≤ i ∧ Hid (xs.map Sx.s = Gr.cands (ts.take i))) (fun vi _ _ => ts.length - (intOf vi).toNat)
  case atStart => exact ⟨0, [], Nat.zero_le _, rfl, Lib.hid (FindI.start w), Nat.le_refl _, Lib.hid rfl⟩
  case round =>
    obtain ⟨i, xs, hi, rfl, HI, hxi, HM⟩ := hrel
    by_cases hlt : i < ts.length
    · have e0 : decide (i < ts.length) = true := decide_eq_true hlt
      obtain ⟨b, off, A', C', rfl, -, c0, c1, c2, c3, hb⟩ := (HR.out.old HI.out.bel).at_ hlt
      have HLI := Lib.hid (HL.out _ (List.getElem_mem hlt))
      have HCT := Lib.hid (cands_take hlt)
      obtain ⟨⟨lab, cap, bs, lost⟩, ht⟩ : ∃ t, t = ts[i] := ⟨_, rfl⟩
      rw [← ht] at c0 c1 c2 c3 hb HLI HCT
      dsimp only at c0 c1 c2 c3 hb HLI
      obtain ⟨L, hL⟩ : ∃ L, L = bs.length := ⟨_, rfl⟩
      rw [← hL] at c2
      obtain ⟨wa, hwa⟩ : ∃ wa, wa = wr.alloc (tapeObj lab cap A' L C' lost) := ⟨_, rfl⟩
      have hba : Below wr.heap.size wr wa := by rw [hwa]; exact (Below.refl _ _).alloc (Nat.le_refl _) _
      have hTa : wa.heap[wr.heap.size]? = some (tapeObj lab cap A' L C' lost) := by rw [hwa]; exact Go.Deep.blk_alloc_new _ _
      have HT := Lib.hid hTa
      have HBA := Lib.hid hba
      have HCALL := Lib.hid (sealed_any lab cap bs A' L C' G lost wa hL (by rw [hL]; exact HLI.out.1) (hb.old hba) HLI.out.2)
      have HW : Hid (wa = wr.alloc (.cells #[.int .i64 lab, .int .i64 cap, .slice A' L C', .bool lost] 32)) := Lib.hid hwa
      obtain ⟨t0, t1, t2, t3⟩ := tape4 hTa
      rw [HW.out] at t0 t1 t2 t3
      have hlo : wr.heap.size < wa.heap.size := heap_lt hTa
      clear ht hL hwa hba hTa hb HLI
      have HCAND : Hid (Gr.cand ⟨lab, cap, bs, lost⟩ = match Gr.sealed ⟨lab, cap, bs, lost⟩ with | none => none | some s => if s.labels.getD s.index.toNat 0 = lab then some s else none) := Lib.hid rfl
      have HSOK : Hid (∀ s, Gr.sealed ⟨lab, cap, bs, lost⟩ = some s → Rc.SOk s) := Lib.hid fun s h => Gr.sealed_ok h
      obtain ⟨o, ho⟩ : ∃ o, o = Gr.sealed ⟨lab, cap, bs, lost⟩ := ⟨_, rfl⟩
      rw [← ho] at HCALL HCAND HSOK
      clear ho
      cases o with
      | none =>
        have HM2 : Hid (xs.map Sx.s = Gr.cands (ts.take (i + 1))) := Lib.hid (by rw [HCT.out, HCAND.out, HM.out]; exact (List.append_nil _).symm)
        clear HCAND HCT
        go_wp2_with fail
        rw [← HW.out]
        refine HCALL.out.mono ?_
        rintro e w1 ⟨⟨⟨sn, si, sd, sp, sl⟩, sA, sC⟩, rfl, -, hxo, hb1⟩
        obtain ⟨wd, hwd⟩ : ∃ wd, wd = w1.alloc (sealObj sn si sd sp sA sl.length sC) := ⟨_, rfl⟩
        have hbd : Below wa.heap.size wa wd := by rw [hwd]; exact hb1.alloc hb1.size _
        have hS : wd.heap[w1.heap.size]? = some (sealObj sn si sd sp sA sl.length sC) := by rw [hwd]; exact Go.Deep.blk_alloc_new _ _
        obtain ⟨x0, x1, x2, x3, x4⟩ := seal5 hS
        have HI2 := Lib.hid ((HI.out.old HBA.out).old hbd)
        have HWD := Lib.hid hwd
        unfold sealObj at HWD
        rw [HWD.out] at x0 x1 x2 x3 x4
        clear hwd hbd hS hxo hb1 t0 t1 t2 t3 c0 c1 c2 c3
        go_wp2
        go_quiet (fail)
        rw [← HWD.out]
        go_wp2
        go_roundw
        case rel => exact ⟨i + 1, xs, by omega, by go_num, Lib.hid (HI2.out.drewN _), by omega, HM2⟩
        case measure => simp [intOf]; omega
      | some s =>
        go_wp2_with fail
        rw [← HW.out]
        refine HCALL.out.mono ?_
        rintro e w1 ⟨⟨⟨sn, si, sd, sp, sl⟩, sA, sC⟩, rfl, hxs, hxo, hb1⟩
        have hxs' : (⟨sn, si, sd, sp, sl⟩ : Rc.S) = s := hxs
        subst hxs'
        have hok := HSOK.out _ rfl
        obtain ⟨k, rfl⟩ : ∃ k : Nat, si = (k : Int) := ⟨si.toNat, by have := hok.1.2.2.2.2.2.1; simp only at this; omega⟩
        have hkl : k < sl.length := by have := hok.1.2.2.2.2.2.2; simp only at this; omega
        obtain ⟨wd, hwd⟩ : ∃ wd, wd = w1.alloc (sealObj sn (k : Int) sd sp sA sl.length sC) := ⟨_, rfl⟩
        have hbs : Below w1.heap.size w1 wd := by rw [hwd]; exact (Below.refl _ _).alloc (Nat.le_refl _) _
        have hbd : Below wa.heap.size wa wd := hb1.trans (hbs.mono hb1.size)
        have hS : wd.heap[w1.heap.size]? = some (sealObj sn (k : Int) sd sp sA sl.length sC) := by rw [hwd]; exact Go.Deep.blk_alloc_new _ _
        obtain ⟨x0, x1, x2, x3, x4⟩ := seal5 hS
        obtain ⟨lb, lo, rfl, hlb, hlc⟩ := (hxo.rd.old hbs).at_ hkl
        have t0' := (tape4 (below_obj hbd HT.out)).1
        have HXO : Hid (Sx.Ok ⟨⟨sn, (k : Int), sd, sp, sl⟩, some ⟨lb, lo, none⟩, sC⟩ wd (wr.heap.size ≤ ·)) := Lib.hid ((hxo.old hbs).mono fun x hx => by have : wa.heap.size ≤ x := hx; omega)
        have HBD := Lib.hid (HBA.out.trans (hbd.mono HBA.out.size))
        have HS := Lib.hid hS
        have HI2 := Lib.hid ((HI.out.old HBA.out).old hbd)
        obtain ⟨m, hm⟩ : ∃ m, m = sl.length := ⟨_, rfl⟩
        obtain ⟨y, hy⟩ : ∃ y, y = sl[k] := ⟨_, rfl⟩
        have hkm : k < m := by rw [hm]; exact hkl
        have hCN : Hid (Gr.cand ⟨lab, cap, bs, lost⟩ = if y = lab then some ⟨sn, (k : Int), sd, sp, sl⟩ else none) := Lib.hid (by
          rw [HCAND.out, hy]
          show (if sl.getD ((k : Int)).toNat 0 = lab then _ else _) = _
          rw [show ((k : Int)).toNat = k by omega, List.getD_eq_getElem?_getD, List.getElem?_eq_getElem hkl]; rfl)
        rw [← hm] at x4
        rw [← hy] at hlc
        have HMM := Lib.hid hm
        have HWD := Lib.hid hwd
        unfold sealObj at HWD
        rw [← hm] at HWD ⊢
        have HW1 := Lib.hid (rfl : w1.heap.size = w1.heap.size)
        rw [HWD.out] at x0 x1 x2 x3 x4 hlc t0'
        clear hwd hbd hbs hS hxo hb1 t0 t1 t2 t3 c0 c1 c2 c3 hxs hok HSOK HCAND hlb hm hy hkl
        cases q1 : (y == lab) with
        | false =>
          have HM2 : Hid (xs.map Sx.s = Gr.cands (ts.take (i + 1))) := Lib.hid (by
            rw [HCT.out, hCN.out, if_neg (beq_eq_false_iff_ne.1 q1), HM.out]; exact (List.append_nil _).symm)
          clear HCT hCN
          go_wp2
          go_quiet (fail)
          rw [← HWD.out]
          go_wp2
          go_roundw
          case rel => exact ⟨i + 1, xs, by omega, by go_num, Lib.hid (HI2.out.drewN _), by omega, HM2⟩
          case measure => simp [intOf]; omega
        | true =>
          have HM2 : Hid ((xs ++ [(⟨⟨sn, (k : Int), sd, sp, sl⟩, some ⟨lb, lo, none⟩, sC⟩ : Sx)]).map Sx.s = Gr.cands (ts.take (i + 1))) := Lib.hid (by
            rw [HCT.out, hCN.out, if_pos (beq_iff_eq.1 q1), ← HM.out, List.map_append]; rfl)
          clear HCT hCN
          go_wp2
          go_quiet (fail)
          rw [← HWD.out]
          obtain ⟨wq, hwq⟩ : ∃ wq, wq = wd.drewN nq := ⟨_, rfl⟩
          have hbq : Below wd.heap.size wd wq := by
            rw [hwq]
            exact ⟨rfl, rfl, rfl, Nat.le_refl _, fun _ _ => rfl⟩
          rw [← hwq]
          have HBQ := Lib.hid hbq
          have HIQ := Lib.hid (HI2.out.old hbq)
          have HXQ := Lib.hid (HXO.out.old hbq)
          have hSQ := below_obj hbq HS.out
          clear x0 x1 x2 x3 x4 hlc t0'
          obtain ⟨x0, x1, x2, x3, x4⟩ := seal5 hSQ
          rw [← HMM.out] at x4
          clear hSQ hwq hbq
          have HOB := Lib.hid (HIQ.out.own.old (w' := wq.alloc (.cells (Sx.enc ⟨⟨sn, (k : Int), sd, sp, sl⟩, some ⟨lb, lo, none⟩, sC⟩).toArray 40)) ((Below.refl _ _).alloc (Nat.le_refl _) _))
          have HNEW := Lib.hid (newCellsAt wq (Sx.enc ⟨⟨sn, (k : Int), sd, sp, sl⟩, some ⟨lb, lo, none⟩, sC⟩) 40 wq.heap.size rfl)
          have hsz : w.heap.size ≤ wq.heap.size := HIQ.out.bel.size
          have HBE : Hid (Below wr.heap.size wr wq) := Lib.hid (HBD.out.trans (HBQ.out.mono HBD.out.size))
          unfold Sx.enc at HOB HNEW
          dsimp only at HOB HNEW
          rw [← HMM.out] at HOB HNEW
          go_wp2_with (at_builtin; refine wpList_append_stL encX _ rfl _ _ _ rfl w.heap.size 40 _ 56 Try.underlying37 infoSeal rfl _ xs rfl HOB.out ⟨wq.heap.size, 0, none⟩ 1 1 [(⟨⟨sn, (k : Int), sd, sp, sl⟩, some ⟨lb, lo, none⟩, sC⟩ : Sx)] rfl rfl (by decide) (by rw [Enc.cells_one]; show ∀ j u, (Sx.enc _)[j]? = some u → _; unfold Sx.enc; dsimp only; rw [← HMM.out]; exact HNEW.out) (by unfold maxLen; omega) (by omega) (by simp; omega) (wq.heap.size + 1) (by simp) ?_; intro g cap w3 hO3 hg3 hat3 _; have HI3 := Lib.hid (HI.out.push (x := ⟨⟨sn, (k : Int), sd, sp, sl⟩, some ⟨lb, lo, none⟩, sC⟩) HBE.out HXQ.out hO3 hg3 hat3); clear hO3 hg3 hat3)
          go_wp2
          go_roundw
          case rel => exact ⟨i + 1, _, by omega, by go_num, HI3, by simp; omega, HM2⟩
          case measure => simp [intOf]; omega
    · have e0 : decide (i < ts.length) = false := decide_eq_false hlt
      have HM2 : Hid (xs.map Sx.s = Gr.cands ts) := Lib.hid (by rw [HM.out, List.take_of_length_le (by omega)])
      have HFIN : Hid ((So.compact Sx.num (So.isort Sx.num xs)).map Sx.s = Gr.find ts) := Lib.hid (by
        rw [So.all_is (f := Sx.num) (g := Sx.s) (fun _ => rfl), HM2.out]; rfl)
      rcases sits_own HI.out.own with ⟨rfl, rfl⟩ | ⟨g, cap, rfl, hc1, hc2, hlo, hsit⟩
      · go_wp2_with fail
        refine (sort_nil wr).mono ?_
        rintro e w1 ⟨rfl, hw1⟩
        subst hw1
        go_wp2_with fail
        refine (compact_nil wr).mono ?_
        rintro e w1 ⟨rfl, hw1⟩
        subst hw1
        go_wp2
        go_ret
        refine ⟨none, 0, [], rfl, HFIN.out, Nat.le_refl _, by decide, fun _ => ⟨rfl, rfl⟩, Enc.Rd.nil _ _ _, (fun x hx => by cases hx), HI.out.bel⟩
      · have HSIT := Lib.hid hsit
        have HC1 := Lib.hid hc1
        have HC2 := Lib.hid hc2
        obtain ⟨n, hn'⟩ : ∃ n, n = xs.length := ⟨_, rfl⟩
        have hn2 : n < 20 := by omega
        have HNX := Lib.hid hn'
        rw [← hn']
        clear hsit hc1 hc2 hn' hxi
        go_wp2_with fail
        refine (sort_any g 0 xs n cap wr HNX.out hn2 HSIT.out).mono ?_
        rintro e w1 ⟨rfl, hs1⟩
        have HS1 := Lib.hid hs1
        have HNY : Hid (n = (So.isort Sx.num xs).length) := Lib.hid (by rw [So.isort_len]; exact HNX.out)
        clear hs1
        go_wp2_with fail
        refine (compact_any g 0 (So.isort Sx.num xs) n cap w1 HNY.out (by have := HC1.out; have := HNX.out; omega) (by omega) HS1.out.sits).mono ?_
        rintro e w2 ⟨rfl, hs2⟩
        have HS2 := Lib.hid hs2
        clear hs2
        go_wp2
        go_ret
        rw [← HFIN.out]
        have hfi := HI.out
        exact hfi.sorted (HS1.out.kp.trans HS2.out.kp) HS2.out.sits (fun y hy => So.mem_isort.1 (So.mem_compact hy)) (Nat.le_trans (So.compact_le _ _) (by rw [So.isort_len]; exact HC1.out)) HC2.out
end Go.Proofs.Ytbkmpoabdnickaa
namespace Go.Proofs.Ytbkmpoabdnickaa
open Go.RowKit
open Pt (Tx)

/-- a tape's four cells -/
structure Tv where
  label : Int
  cap : Int
  A : Option Addr
  n : Nat
  C : Nat
  lost : Bool
def encT : Enc Tv where
  k := 4
  pos := by decide
  enc t := [.int .i64 t.label, .int .i64 t.cap, .slice t.A t.n t.C, .bool t.lost]
  len _ := rfl
  one t u hu := by
    simp only [List.mem_cons, List.not_mem_nil, or_false] at hu
    rcases hu with rfl | rfl | rfl | rfl <;> rfl
theorem infoTape : (Try.prog.info? 32).map (fun i => (i.zero, i.size, i.bytes)) = some (some (.agg #[.int .i64 0, .int .i64 0, .slice none 0 0, .bool false]), 4, 48) := by kernel_rfl
/-- the value that is handed on -/
def Tv.val (t : Tv) : Value := .agg #[.int .i64 t.label, .int .i64 t.cap, .slice t.A t.n t.C, .bool t.lost]
/-- a row of such cells and what they point to read as tapes -/
theorem RdT.of_rows {w : World} {A : Option Addr} {tvs : List Tv} {ts : List St.T} {G : Nat → Prop} (h : encT.Rd w A tvs G) (hl : tvs.length = ts.length)
    (hb : ∀ i (hi : i < tvs.length) (hi' : i < ts.length), tvs[i].label = ts[i].label ∧ tvs[i].cap = ts[i].cap ∧ tvs[i].n = ts[i].blocks.length ∧ tvs[i].lost = ts[i].lost ∧ RdB w tvs[i].A ts[i].blocks G) : RdT w A ts G := by
  intro hn
  obtain ⟨b, off, e, hg, hc⟩ := h (by omega)
  refine ⟨b, off, e, hg, fun i hi => ?_⟩
  have hi' : i < tvs.length := by omega
  obtain ⟨h1, h2, h3, h4, h5⟩ := hb i hi' hi
  refine ⟨tvs[i].A, tvs[i].C, ?_, ?_, ?_, ?_, h5⟩
  · rw [← h1]; exact hc i hi' 0 _ rfl
  · rw [← h2]; exact hc i hi' 1 _ rfl
  · rw [← h3]; exact hc i hi' 2 _ rfl
  · rw [← h4]; exact hc i hi' 3 _ rfl
/-- and the other way round -/
theorem RdT.rows {w : World} {A : Option Addr} {ts : List St.T} {G : Nat → Prop} (h : RdT w A ts G) : ∃ tvs : List Tv, tvs.length = ts.length ∧ encT.Rd w A tvs G
    ∧ ∀ i (hi : i < tvs.length) (hi' : i < ts.length), tvs[i].label = ts[i].label ∧ tvs[i].cap = ts[i].cap ∧ tvs[i].n = ts[i].blocks.length ∧ tvs[i].lost = ts[i].lost ∧ RdB w tvs[i].A ts[i].blocks G := by
  rcases Nat.eq_zero_or_pos ts.length with h0 | h0
  · exact ⟨[], by rw [h0]; rfl, Enc.Rd.nil _ _ _, fun i hi => absurd hi (by simp)⟩
  · obtain ⟨b, off, e, hg, hc⟩ := h h0
    have key : ∀ i, ∃ q : Option Addr × Nat, ∀ hi : i < ts.length, w.cell? ⟨b, off + i * 4 + 2, none⟩ = some (.slice q.1 ts[i].blocks.length q.2) ∧ RdB w q.1 ts[i].blocks G := fun i => by
      by_cases hi : i < ts.length
      · obtain ⟨A', C', _, _, h2, _, h4⟩ := hc i hi
        exact ⟨(A', C'), fun _ => ⟨h2, h4⟩⟩
      · exact ⟨(none, 0), fun h => absurd h hi⟩
    refine ⟨(List.range ts.length).map fun i => ⟨(ts.getD i ⟨0, 0, [], false⟩).label, (ts.getD i ⟨0, 0, [], false⟩).cap, (key i).choose.1, (ts.getD i ⟨0, 0, [], false⟩).blocks.length, (key i).choose.2, (ts.getD i ⟨0, 0, [], false⟩).lost⟩, by simp, fun _ => ⟨b, off, e, hg, fun i hi j u hu => ?_⟩, fun i hi hi' => ?_⟩
    · have hi' : i < ts.length := by simpa using hi
      obtain ⟨k1, k2⟩ := (key i).choose_spec hi'
      obtain ⟨A', C', g0, g1, _, g3, _⟩ := hc i hi'
      have ht : ts.getD i ⟨0, 0, [], false⟩ = ts[i] := by rw [List.getD_eq_getElem?_getD, List.getElem?_eq_getElem hi']; rfl
      simp only [List.getElem_map, List.getElem_range, ht] at hu
      match j, hu with
      | 0, hu => cases hu; exact g0
      | 1, hu => cases hu; exact g1
      | 2, hu => cases hu; exact k1
      | 3, hu => cases hu; exact g3
    · obtain ⟨k1, k2⟩ := (key i).choose_spec hi'
      have ht : ts.getD i ⟨0, 0, [], false⟩ = ts[i] := by rw [List.getD_eq_getElem?_getD, List.getElem?_eq_getElem hi']; rfl
      simp only [List.getElem_map, List.getElem_range, ht]
      exact ⟨trivial, trivial, trivial, trivial, k2⟩
end Go.Proofs.Ytbkmpoabdnickaa
namespace Go.Proofs.Ytbkmpoabdnickaa
open Go.RowKit
open Pt (Tx)

/-- an empty row of the call's own, with room -/
def RowT (l : List Tv) (w : World) (e : Ending) (w' : World) : Prop := ∃ v, e = .returned v ∧ encT.Own w' w.heap.size 32 v l ∧ Below w.heap.size w w'
set_option maxHeartbeats 1000000 in
theorem grow_any (n : Nat) (hn : n ≤ 1000000) (w : World) : Calls Try.prog 46 #[.slice none 0 0, .int .i64 (n : Int)] w (RowT [] w) := by
  have s1 : IntKind.i64.wrap ((n : Int) - 0) = (n : Int) := by rw [IntWalk.i64_in _ (by omega)]; omega
  have e0 : decide ((n : Int) < 0) = false := decide_eq_false (by omega)
  by_cases h0 : n = 0
  · subst h0
    go_enter Try.func46, Try.ntmps46
    go_wp2
    go_ret
    exact ⟨_, rfl, Enc.Own.nil _ _ _, Below.refl _ _⟩
  · have e1 : decide ((0 : Int) < (n : Int)) = true := decide_eq_true (by omega)
    have e2 : decide (0 < n) = true := decide_eq_true (by omega)
    obtain ⟨i0, hi, hz0, hz1, hz2⟩ := info_parts infoTape
    have hold : (Builtin.firstCells i0.size 0 (.slice none 0 0)).run Try.prog w.drew = .ok ([] : List Value).toArray w.drew := by
      rw [hz1]; simp [Builtin.firstCells]
    have hrun : ∀ ty, ∃ cs : Array Value, (Builtin.append_ #[24, 3] ty #[.slice none 0 0, .int .i64 (n : Int)]).run Try.prog w = .ok (.slice (some ⟨w.heap.size, 0, none⟩) n (grownCap w n 0 32)) (w.drew.alloc (.cells cs 32)) ∧ cs.size = grownCap w n 0 32 * 4 := fun ty => by
      have h := Lib.run_append_grow_zeros (P := Try.prog) w 24 3 ty 32 i0 _ .i64 .i64 Try.underlying24 Try.underlying3 hi hz0 none 0 0 [] hold n (by omega) (by rw [hz1]; decide) (by omega) (by omega) (by rw [hz2]; omega) (growslice_fits (by omega) (by rw [hz2]; omega))
      rw [Nat.zero_add] at h
      refine ⟨_, h, ?_⟩
      have hge := grownCap_ge w n 0 32
      simp [Builtin.zeroCells, Value.cells]
      omega
    obtain ⟨cs, hr, hcs⟩ := hrun 24
    have hcm := grownCap_le_maxLen w n 0 32 (by unfold maxLen; omega)
    have hge := grownCap_ge w n 0 32
    obtain ⟨K, hK⟩ : ∃ K, K = grownCap w n 0 32 := ⟨_, rfl⟩
    rw [← hK] at hr hcs hcm hge
    have HO : Hid (encT.Own (w.drew.alloc (.cells cs 32)) w.heap.size 32 (.slice (some ⟨w.heap.size, 0, none⟩) 0 K) []) := Lib.hid ⟨rfl, .inr ⟨w.heap.size, K, cs, rfl, Nat.le_refl _, Go.Deep.blk_alloc_new w.drew _, Nat.zero_le _, hcm, hcs, by rw [List.length_nil, Nat.zero_mul]; rfl⟩⟩
    have HB : Hid (Below w.heap.size w (w.drew.alloc (.cells cs 32))) := Lib.hid (((Below.refl _ w).drew).alloc (Nat.le_refl _) _)
    clear hrun hold hK hcs hcm
    go_enter Try.func46, Try.ntmps46
    go_wp2_with (at_builtin; refine Lib.wpList_append_run _ rfl _ _ _ _ rfl _ _ rfl rfl _ _ hr ?_)
    go_wp2
    go_ret
    exact ⟨_, rfl, HO.out, HB.out⟩
set_option maxHeartbeats 4000000 in
theorem concat_any (b off : Nat) (A1 : Option Addr) (n1 C1 : Nat) (A2 : Option Addr) (n2 C2 : Nat) (t1 t2 : List Tv) (G : Nat → Prop) (w : World) (h1 : w.cell? ⟨b, off, none⟩ = some (.slice A1 n1 C1)) (h2 : w.cell? ⟨b, off + 1, none⟩ = some (.slice A2 n2 C2)) (hn1 : n1 = t1.length) (hn2 : n2 = t2.length) (hm1 : n1 ≤ 1000) (hm2 : n2 ≤ 1000)
    (hA1 : A1 = none → n1 = 0 ∧ C1 = 0) (hA2 : A2 = none → n2 = 0 ∧ C2 = 0) (hr1 : encT.Rd w A1 t1 G) (hr2 : encT.Rd w A2 t2 G) :
    Calls Try.prog 28 #[.slice (some ⟨b, off, none⟩) 2 2] w (RowT (t1 ++ t2) w) := by
  have HR1 := Lib.hid hr1
  have HR2 := Lib.hid hr2
  have HN1 := Lib.hid hn1
  have HN2 := Lib.hid hn2
  have HC1 := Lib.hid h1
  have HC2 := Lib.hid h2
  clear hr1 hr2 hn1 hn2
  go_enter Try.func28, Try.ntmps28
  go_wp2
  go_loopw [11, 3] (fun vi vs wr => ((vi = .int .i64 0 ∧ vs = .int .i64 0) ∨ (vi = .int .i64 1 ∧ vs = .int .i64 (n1 : Int)) ∨ (vi = .int .i64 2 ∧ vs = .int .i64 ((n1 : Int) + (n2 : Int)))) ∧ Hid (wr = w)) (fun vi _ _ => 2 - (intOf vi).toNat)
  case atStart => exact ⟨.inl ⟨rfl, rfl⟩, Lib.hid rfl⟩
  case round =>
    obtain ⟨hq, HW⟩ := hrel
    have c1 : wr.cell? ⟨b, off, none⟩ = some (.slice A1 n1 C1) := by rw [HW.out]; exact HC1.out
    have c2 : wr.cell? ⟨b, off + 1, none⟩ = some (.slice A2 n2 C2) := by rw [HW.out]; exact HC2.out
    rcases hq with ⟨rfl, rfl⟩ | ⟨rfl, rfl⟩ | ⟨rfl, rfl⟩
    · have s1 : IntKind.i64.wrap ((0 : Int) + (n1 : Int)) = (n1 : Int) := by rw [IntWalk.i64_in _ (by omega)]; omega
      have e1 : decide ((n1 : Int) < 0) = false := decide_eq_false (by omega)
      go_wp2
      go_roundw
      case rel => exact ⟨.inr (.inl ⟨rfl, rfl⟩), HW⟩
      case measure => simp [intOf]
    · have s1 : IntKind.i64.wrap ((n1 : Int) + (n2 : Int)) = (n1 : Int) + (n2 : Int) := IntWalk.i64_in _ (by omega)
      have e1 : decide ((n1 : Int) + (n2 : Int) < 0) = false := decide_eq_false (by omega)
      go_wp2
      go_roundw
      case rel => exact ⟨.inr (.inr ⟨rfl, rfl⟩), HW⟩
      case measure => simp [intOf]
    · have hg := grow_any (n1 + n2) (by omega) wr
      rw [show ((n1 + n2 : Nat) : Int) = (n1 : Int) + (n2 : Int) by omega] at hg
      have HG := Lib.hid hg
      clear hg c1 c2
      go_wp2_with fail
      refine HG.out.mono ?_
      rintro e w1 ⟨v1, rfl, ho1, hb1⟩
      have HO1 := Lib.hid (by rw [HW.out] at ho1; exact ho1 : encT.Own w1 w.heap.size 32 v1 [])
      have HB1 := Lib.hid (by rw [HW.out] at hb1; exact hb1 : Below w.heap.size w w1)
      clear ho1 hb1 HG HW
      go_wp2
      go_loopw [27, 6] (fun vi v wr => ((vi = .int .i64 0 ∧ Hid (encT.Own wr w.heap.size 32 v [])) ∨ (vi = .int .i64 1 ∧ Hid (encT.Own wr w.heap.size 32 v t1)) ∨ (vi = .int .i64 2 ∧ Hid (encT.Own wr w.heap.size 32 v (t1 ++ t2)))) ∧ Hid (Below w.heap.size w wr)) (fun vi _ _ => 2 - (intOf vi).toNat)
      case atStart => exact ⟨.inl ⟨rfl, HO1⟩, HB1⟩
      case round =>
        obtain ⟨hq, HB⟩ := hrel
        have c1 : wr.cell? ⟨b, off, none⟩ = some (.slice A1 n1 C1) := (HB.out.cell (World.block_lt_of_cell? _ _ HC1.out)).trans HC1.out
        have c2 : wr.cell? ⟨b, off + 1, none⟩ = some (.slice A2 n2 C2) := (HB.out.cell (World.block_lt_of_cell? _ _ HC2.out)).trans HC2.out
        rcases hq with ⟨rfl, HO⟩ | ⟨rfl, HO⟩ | ⟨rfl, HO⟩
        · go_wp2_with (at_builtin; refine wpList_append_optS encT _ rfl _ _ _ rfl w.heap.size 32 _ 48 Try.underlying24 infoTape rfl _ [] rfl HO.out A1 n1 C1 t1 rfl hA1 HN1.out (fun ad e => by subst e; exact (HR1.out.old HB.out).news) (by unfold maxLen; simp; omega) (by simp; omega) HB.out.size ?_; intro v' w3 hO3 hg3; have HO3 := Lib.hid hO3; have HB3 := Lib.hid (HB.out.grown hg3 HB.out.size (fun k hk => (HO.out.lt k hk).1)); clear hO3 hg3)
          go_wp2
          go_roundw
          case rel => exact ⟨.inr (.inl ⟨rfl, HO3⟩), HB3⟩
          case measure => simp [intOf]
        · go_wp2_with (at_builtin; refine wpList_append_optS encT _ rfl _ _ _ rfl w.heap.size 32 _ 48 Try.underlying24 infoTape rfl _ t1 rfl HO.out A2 n2 C2 t2 rfl hA2 HN2.out (fun ad e => by subst e; exact (HR2.out.old HB.out).news) (by have := HN1.out; unfold maxLen; omega) (by have := HN1.out; omega) HB.out.size ?_; intro v' w3 hO3 hg3; have HO3 := Lib.hid hO3; have HB3 := Lib.hid (HB.out.grown hg3 HB.out.size (fun k hk => (HO.out.lt k hk).1)); clear hO3 hg3)
          go_wp2
          go_roundw
          case rel => exact ⟨.inr (.inr ⟨rfl, HO3⟩), HB3⟩
          case measure => simp [intOf]
        · go_wp2
          go_ret
          exact ⟨_, rfl, HO.out, HB.out⟩
end Go.Proofs.Ytbkmpoabdnickaa
namespace Go.Proofs.Ytbkmpoabdnickaa
open Go.RowKit
open Pt (Tx)

/-- a seal is answered, its labels in new memory -/
def SealNew (s : Rc.S) (w : World) (e : Ending) (w' : World) : Prop :=
  ∃ x : Sx, e = .returned (.agg #[.int .i64 x.s.number, .int .i64 x.s.index, .int .i64 x.s.data, .int .i64 x.s.parity, .slice x.A x.s.labels.length x.C]) ∧ x.s = s ∧ x.Ok w' (w.heap.size ≤ ·) ∧ Below w.heap.size w w'
def tvLabels (l : List Tv) : List Int := l.map Tv.label
theorem tvLabels_take {l : List Tv} {i : Nat} (h : i < l.length) : tvLabels (l.take (i + 1)) = tvLabels (l.take i) ++ [l[i].label] := by
  unfold tvLabels
  rw [List.take_succ_eq_append_getElem h, List.map_append]; rfl
/-- what is kept while the labels are gathered -/
structure SealI (w1 : World) (S : Nat) (number d p : Int) (v : Value) (l : List Int) (wr : World) : Prop where
  hd : wr.heap[S + 1]? = some (.cells #[.int .i64 number, .int .i64 0, .int .i64 d, .int .i64 p, v] 40 (0, 0))
  own : OwnZ wr w1.heap.size v l
  kp : Kp (fun k => k = S + 1 ∨ w1.heap.size ≤ k) w1 wr
namespace SealI
variable {w1 wr w2 w3 : World} {S : Nat} {number d p : Int} {v v' : Value} {l l' : List Int}
theorem old (h : SealI w1 S number d p v l wr) (hb : Below wr.heap.size wr w2) : SealI w1 S number d p v l w2 :=
  ⟨(hb.block _ (heap_lt h.hd)).trans h.hd, h.own.of_block fun k e => hb.block k (h.own.lt k e), h.kp.trans (Kp.of_below hb)⟩
/-- some are appended, and the row is stored -/
theorem push (h : SealI w1 S number d p v l w2) (hS : S + 1 < w1.heap.size) (hg : w2.grownBy w3 v.ownBlock) (ho : OwnZ w3 w1.heap.size v' l') : SealI w1 S number d p v' l' (w3.setCell ⟨S + 1, 4, none⟩ v') := by
  have h1 : w3.heap[S + 1]? = w2.heap[S + 1]? := hg.block _ (heap_lt h.hd) fun e => by have := h.own.lo _ e.symm; omega
  refine ⟨heap_set (h1.trans h.hd) v', ho.of_block fun k e => ?_, ?_⟩
  · have := ho.lo k e
    exact Below.heap_setCell _ _ _ _ (fun e' => by have e'' : S + 1 = k := e'.symm; omega)
  · exact (h.kp.grown hg fun k e => .inr (h.own.lo k e)).setCell (p := ⟨S + 1, 4, none⟩) (.inl rfl) v'
end SealI
set_option maxRecDepth 100000 in
set_option maxHeartbeats 4000000 in
theorem sealOf_any (number : Int) (A1 : Option Addr) (n1 C1 : Nat) (A2 : Option Addr) (n2 C2 : Nat) (t1 t2 : List Tv) (G : Nat → Prop) (w : World) (hn1 : n1 = t1.length) (hn2 : n2 = t2.length) (hm1 : n1 ≤ 1000) (hm2 : n2 ≤ 1000)
    (hA1 : A1 = none → n1 = 0 ∧ C1 = 0) (hA2 : A2 = none → n2 = 0 ∧ C2 = 0) (hr1 : encT.Rd w A1 t1 G) (hr2 : encT.Rd w A2 t2 G) :
    Calls Try.prog 14 #[.slice A1 n1 C1, .slice A2 n2 C2, .int .i64 number] w (SealNew ⟨number, 0, (n1 : Int), (n2 : Int), tvLabels (t1 ++ t2)⟩ w) := by
  obtain ⟨wb, hwb⟩ : ∃ wb, wb = (w.alloc (sealObj 0 0 0 0 none 0 0)).alloc (sealObj number 0 (n1 : Int) (n2 : Int) none 0 0) := ⟨_, rfl⟩
  have hz : (w.alloc (sealObj 0 0 0 0 none 0 0)).heap[w.heap.size]? = some (sealObj 0 0 0 0 none 0 0) := Go.Deep.blk_alloc_new _ _
  have hbz : Below w.heap.size w (w.alloc (sealObj 0 0 0 0 none 0 0)) := (Below.refl _ _).alloc (Nat.le_refl _) _
  have hB : Below w.heap.size w wb := by rw [hwb]; exact hbz.alloc hbz.size _
  have hZ : wb.heap[w.heap.size]? = some (sealObj 0 0 0 0 none 0 0) := by rw [hwb]; exact (Below.heap_alloc _ _ _ (heap_lt hz)).trans hz
  have hD : wb.heap[w.heap.size + 1]? = some (sealObj number 0 (n1 : Int) (n2 : Int) none 0 0) := by
    have h := Go.Deep.blk_alloc_new (w.alloc (sealObj 0 0 0 0 none 0 0)) (sealObj number 0 (n1 : Int) (n2 : Int) none 0 0)
    rw [show (w.alloc (sealObj 0 0 0 0 none 0 0)).heap.size = w.heap.size + 1 by simp] at h
    rw [hwb]; exact h
  obtain ⟨wc, hwc⟩ : ∃ wc, wc = wb.alloc (.cells #[.slice A1 n1 C1, .slice A2 n2 C2] 24) := ⟨_, rfl⟩
  have hbc : Below wb.heap.size wb wc := by rw [hwc]; exact (Below.refl _ _).alloc (Nat.le_refl _) _
  have hR : wc.heap[wb.heap.size]? = some (.cells #[.slice A1 n1 C1, .slice A2 n2 C2] 24) := by rw [hwc]; exact Go.Deep.blk_alloc_new _ _
  have hsz : wb.heap.size = w.heap.size + 2 := by rw [hwb]; simp
  have hbw : Below w.heap.size w wc := hB.trans (hbc.mono hB.size)
  have hcall := concat_any wb.heap.size 0 A1 n1 C1 A2 n2 C2 t1 t2 G wc (heap_cell hR) (heap_cell hR) hn1 hn2 hm1 hm2 hA1 hA2 (hr1.old hbw) (hr2.old hbw)
  rw [hsz] at hcall
  have HCALL := Lib.hid hcall
  have HWC : Hid (wc = ((w.alloc (.cells #[.int .i64 0, .int .i64 0, .int .i64 0, .int .i64 0, .slice none 0 0] 40)).alloc (.cells #[.int .i64 number, .int .i64 0, .int .i64 (n1 : Int), .int .i64 (n2 : Int), .slice none 0 0] 40)).alloc (.cells #[.slice A1 n1 C1, .slice A2 n2 C2] 24)) := Lib.hid (by rw [hwc, hwb]; rfl)
  have HZ := Lib.hid (below_obj hbc hZ)
  have HD := Lib.hid (below_obj hbc hD)
  have HBW := Lib.hid hbw
  have HSZ : Hid (w.heap.size + 2 < wc.heap.size) := Lib.hid (by have := heap_lt hR; omega)
  have HLEN : Hid ((t1 ++ t2).length = n1 + n2) := Lib.hid (by rw [List.length_append, hn1, hn2])
  clear hr1 hr2 hn1 hn2 hwb hwc hz hbz hB hZ hD hbc hR hsz hbw hcall hA1 hA2
  go_enter Try.func14, Try.ntmps14
  go_wp2_with fail
  rw [← HWC.out]
  refine HCALL.out.mono ?_
  rintro e w1 ⟨v1, rfl, ho1, hb1⟩
  obtain ⟨ts, hts⟩ : ∃ ts, ts = t1 ++ t2 := ⟨_, rfl⟩
  rw [← hts] at ho1 HLEN
  have HTS := Lib.hid hts
  obtain ⟨A, C, rfl, -, -, -, hrd⟩ := ho1.rd
  have HRD : Hid (encT.Rd w1 A ts (fun k => ¬ (k = w.heap.size + 1 ∨ w1.heap.size ≤ k))) := Lib.hid (hrd.mono fun k hk => by
    have h1 := (ho1.lt k hk.2).2
    have h2 := HSZ.out
    have h3 : wc.heap.size ≤ k := hk.1
    omega)
  have HI0 : Hid (SealI w1 w.heap.size number (n1 : Int) (n2 : Int) (.slice none 0 0) (tvLabels (ts.take 0)) w1) := Lib.hid ⟨below_obj hb1 HD.out, OwnZ.nil _ _, Kp.refl _ _⟩
  have HB1 := Lib.hid (HBW.out.trans (hb1.mono HBW.out.size))
  have HS1 : Hid (w.heap.size + 2 < w1.heap.size) := Lib.hid (Nat.lt_of_lt_of_le HSZ.out hb1.size)
  have HZ1 := Lib.hid (below_obj hb1 HZ.out)
  obtain ⟨n, hn⟩ : ∃ n, n = ts.length := ⟨_, rfl⟩
  have hn2000 : n ≤ 2000 := by rw [hn, HLEN.out]; omega
  rw [← hn]
  have HN := Lib.hid hn
  clear ho1 hb1 hrd hts hn HLEN
  go_wp2
  go_loopw [21] (fun vi wr => ∃ (i : Nat) (v : Value), i ≤ n ∧ vi = .int .i64 (i : Int) ∧ Hid (SealI w1 w.heap.size number (n1 : Int) (n2 : Int) v (tvLabels (ts.take i)) wr)) (fun vi _ => n - (intOf vi).toNat)
  case atStart => exact ⟨0, _, Nat.zero_le _, rfl, HI0⟩
  case round =>
    obtain ⟨i, v, hi, rfl, HI⟩ := hrel
    by_cases hlt : i < n
    · have e0 : decide (i < n) = true := decide_eq_true hlt
      have hlt' : i < ts.length := by rw [← HN.out]; exact hlt
      obtain ⟨b, off, rfl, -, hc⟩ := (HRD.out.kp HI.out.kp (fun b h => h)).at_ hlt'
      have HL := Lib.hid (tvLabels_take hlt')
      obtain ⟨⟨lab, cap, A', m, C', lost⟩, ht⟩ : ∃ t, t = ts[i] := ⟨_, rfl⟩
      rw [← ht] at hc HL
      dsimp only at HL
      have c0 : wr.cell? ⟨b, off + i * 4, none⟩ = some (.int .i64 lab) := hc 0 _ rfl
      have c1 : wr.cell? ⟨b, off + i * 4 + 1, none⟩ = some (.int .i64 cap) := hc 1 _ rfl
      have c2 : wr.cell? ⟨b, off + i * 4 + 2, none⟩ = some (.slice A' m C') := hc 2 _ rfl
      have c3 : wr.cell? ⟨b, off + i * 4 + 3, none⟩ = some (.bool lost) := hc 3 _ rfl
      obtain ⟨wd, hwd⟩ : ∃ wd, wd = (wr.alloc (tapeObj lab cap A' m C' lost)).alloc (.cells #[.int .i64 lab] 3) := ⟨_, rfl⟩
      have hta := tape_new wr lab cap A' m C' lost
      have hbd : Below wr.heap.size wr wd := by rw [hwd]; exact hta.1.alloc hta.1.size _
      have HID := Lib.hid (HI.out.old hbd)
      have hnew : RdZ wd (some ⟨wr.heap.size + 1, 0, none⟩) [lab] (fun _ => True) := fun _ => ⟨_, 0, rfl, trivial, fun j hj => by
        have h0 : j = 0 := by simpa using hj
        subst h0
        have h := Go.Deep.blk_alloc_new (wr.alloc (tapeObj lab cap A' m C' lost)) (.cells #[.int .i64 lab] 3)
        rw [show (wr.alloc (tapeObj lab cap A' m C' lost)).heap.size = wr.heap.size + 1 by simp] at h
        rw [hwd]; exact heap_cell h⟩
      have hll : (tvLabels (ts.take i)).length = i := by unfold tvLabels; rw [List.length_map, List.length_take]; omega
      obtain ⟨A3, C3, w3, hrun, hown3, hg3⟩ := apZ_run wd w1.heap.size v (tvLabels (ts.take i)) HID.out.own ⟨wr.heap.size + 1, 0, none⟩ 1 1 [lab] _ rfl hnew (by rw [hll]; omega) HID.out.kp.size (i + 1) (by rw [hll])
      have hpush := HID.out.push (by have := HS1.out; omega) hg3 hown3
      rw [← HL.out] at hpush
      have HP := Lib.hid hpush
      have h3d : w3.heap[w.heap.size + 1]? = some (.cells #[.int .i64 number, .int .i64 0, .int .i64 (n1 : Int), .int .i64 (n2 : Int), v] 40 (0, 0)) :=
        (hg3.block _ (heap_lt HID.out.hd) fun e => by have := HID.out.own.lo _ e.symm; have := HS1.out; omega).trans HID.out.hd
      have x0 : (wr.alloc (tapeObj lab cap A' m C' lost)).cell? ⟨w.heap.size + 1, 4, none⟩ = some v := heap_cell (below_obj hta.1 HI.out.hd)
      have y0 : (wr.alloc (tapeObj lab cap A' m C' lost)).cell? ⟨wr.heap.size, 0, none⟩ = some (.int .i64 lab) := (tape4 hta.2).1
      have z0 : w3.cell? ⟨w.heap.size + 1, 4, none⟩ = some v := heap_cell h3d
      have z1 : w3.frozen? ⟨w.heap.size + 1, 4, none⟩ = false := heap_frozen h3d
      have HWD := Lib.hid hwd
      unfold tapeObj at x0 y0 HWD
      have HRUN := Lib.hid hrun
      rw [HWD.out] at HRUN
      clear ht hwd hta hbd hnew hrun hown3 hg3 hpush h3d hc hll
      go_wp2_with (at_builtin; refine Lib.wpList_append_run _ rfl _ _ _ _ rfl _ _ rfl rfl _ _ (HRUN.out _) ?_)
      go_wp2
      go_roundw
      case rel => exact ⟨i + 1, _, by omega, by go_num, HP⟩
      case measure => simp [intOf]; omega
    · have e0 : decide (i < n) = false := decide_eq_false hlt
      have HE : Hid (ts.take i = ts) := Lib.hid (List.take_of_length_le (by rw [← HN.out]; omega))
      have hown := HI.out.own
      rw [HE.out] at hown
      obtain ⟨A3, C3, rfl, hle, hcm, hA3, hrz⟩ := hown.rd
      obtain ⟨m, hm⟩ : ∃ m, m = (tvLabels ts).length := ⟨_, rfl⟩
      have hd := HI.out.hd
      rw [← hm] at hd
      have hzr : wr.heap[w.heap.size]? = some (sealObj 0 0 0 0 none 0 0) := (HI.out.kp.block _ (heap_lt HZ1.out) (by have := HS1.out; omega)).trans HZ1.out
      have HZR := Lib.hid hzr
      have HM := Lib.hid hm
      have HOK : Hid (Sx.Ok ⟨⟨number, 0, (n1 : Int), (n2 : Int), tvLabels ts⟩, A3, C3⟩ wr (fun x => w.heap.size ≤ x ∧ x ≠ w.heap.size)) := Lib.hid ⟨hle, hcm, hA3, hrz.mono fun x hx => by have h1 := HS1.out; have h2 : w1.heap.size ≤ x := hx; omega⟩
      have HB := Lib.hid (HB1.out.trans (HI.out.kp.below HB1.out.size fun k hk => by have := HB1.out.size; omega))
      obtain ⟨x0, x1, x2, x3, x4⟩ := seal5 hd
      obtain ⟨z0, z1, z2, z3, z4⟩ := seal5 hzr
      obtain ⟨y0, y1, y2, y3, y4⟩ := seal_free hzr
      clear hown hrz hle hcm hA3 hzr hd hm
      go_wp2
      clear z0 z1 z2 z3 z4
      obtain ⟨z0, z1, z2, z3, z4⟩ := seal5 HZR.out
      refine bodyPost_ret (v := .agg #[.int .i64 number, .int .i64 0, .int .i64 (n1 : Int), .int .i64 (n2 : Int), .slice A3 m C3]) (by simp [results, Try.results14, go_sem, z0, z1, z2, z3, z4]) rfl ?_
      have hk := SitsX.kp_set wr w.heap.size 0 1 2 3 4 (.int .i64 number) (.int .i64 0) (.int .i64 (n1 : Int)) (.int .i64 (n2 : Int)) (.slice A3 m C3)
      exact ⟨⟨⟨number, 0, (n1 : Int), (n2 : Int), tvLabels ts⟩, A3, C3⟩, by rw [HM.out], by rw [← HTS.out], (HOK.out.kp hk (fun x hx e => hx.2 e)).mono (fun x hx => hx.1), HB.out.trans (hk.below HB.out.size (fun x hx => by omega))⟩
end Go.Proofs.Ytbkmpoabdnickaa
namespace Go.Proofs.Ytbkmpoabdnickaa
open Go.RowKit Mx
open Pt (Tx)

theorem St.row_at {ts : List St.T} {n : Int} {i : Nat} (hi : i < ts.length) : St.lens (St.row ts n) i = (St.blk n ts[i]).length ∧ St.mat (St.row ts n) i = rowL (St.blk n ts[i]) := by
  have h : i < (St.row ts n).length := by rw [St.row_len]; exact hi
  have e : (St.row ts n)[i] = St.blk n ts[i] := by simp [St.row]
  exact ⟨by rw [St.lens_at h, e], by rw [St.mat_at h, e]⟩
/-- a row of tapes, as it is answered -/
def RowA (ts : List St.T) (n : Int) (w : World) (e : Ending) (w' : World) : Prop :=
  ∃ A C, e = .returned (.slice A ts.length C) ∧ ts.length ≤ C ∧ (A = none → ts.length = 0 ∧ C = 0) ∧ RdM w' A ts.length (St.lens (St.row ts n)) (St.mat (St.row ts n)) (· < w'.heap.size) ∧ Below w.heap.size w w'
set_option maxHeartbeats 2000000 in
theorem row_any (A : Option Addr) (ts : List St.T) (C : Nat) (G : Nat → Prop) (n : Int) (w : World) (hn : ts.length ≤ 1000000) (hr : RdT w A ts G) :
    Calls Try.prog 38 #[.slice A ts.length C, .int .i64 n] w (RowA ts n w) := by
  have HR := Lib.hid hr
  clear hr
  have hmk := run_make_row' (P := Try.prog) 30 25 (.slice none 0 0) 24 Try.underlying30 infoRow rfl .i64 .i64 ts.length (by omega) (by omega)
  go_enter Try.func38, Try.ntmps38
  go_wp2
  clear hmk
  go_loopw [13] (fun vi wr => ∃ i : Nat, i ≤ ts.length ∧ vi = .int .i64 (i : Int) ∧ Hid (∃ A C, TopR wr w.heap.size ts.length A (fun j => if j < i then St.lens (St.row ts n) j else 0) C (St.mat (St.row ts n))) ∧ Hid (Below w.heap.size w wr)) (fun vi _ => ts.length - (intOf vi).toNat)
  case atStart => exact ⟨0, Nat.zero_le _, rfl, Lib.hid ⟨_, _, (TopR.start w ts.length _).congr (fun i _ => by rw [if_neg (by omega)]) (fun _ _ _ _ => rfl)⟩, Lib.hid ((Below.refl _ _).alloc (Nat.le_refl _) _)⟩
  case round =>
    obtain ⟨i, hi, rfl, HO, HB⟩ := hrel
    obtain ⟨Ax, Cx, hO⟩ := HO.out
    have HO' := Lib.hid hO
    clear hO HO
    by_cases hlt : i < ts.length
    · obtain ⟨b, off, A', C', rfl, -, c0, c1, c2, c3, hb⟩ := (HR.out.old HB.out).at_ hlt
      obtain ⟨h1, h2⟩ := St.row_at (n := n) hlt
      obtain ⟨⟨lab, cap, bs, lost⟩, ht⟩ : ∃ t, t = ts[i] := ⟨_, rfl⟩
      rw [← ht] at c0 c1 c2 c3 hb h1 h2
      dsimp only at c0 c1 c2 c3 hb
      obtain ⟨s, hs⟩ : ∃ s, s = St.blk n ⟨lab, cap, bs, lost⟩ := ⟨_, rfl⟩
      rw [← hs] at h1 h2
      have hbt : Below wr.heap.size wr (wr.alloc (tapeObj lab cap A' bs.length C' lost)) := (tape_new wr lab cap A' bs.length C' lost).1
      have HC := Lib.hid (block_any lab cap A' bs C' lost _ n _ (hb.old hbt))
      rw [← hs] at HC
      have HBT := Lib.hid hbt
      have H1 := Lib.hid h1
      have H2 := Lib.hid h2
      have e0 : decide (i < ts.length) = true := decide_eq_true hlt
      unfold tapeObj at HC HBT
      clear hb hbt hs ht h1 h2
      go_wp2_with fail
      refine HC.out.mono ?_
      rintro e w1 ⟨A1, C1, rfl, -, -, hr1, hb1⟩
      have hbb : Below wr.heap.size wr w1 := HBT.out.trans (hb1.mono HBT.out.size)
      have HO1 := HO'.out.old hbb
      have hne : w.heap.size < wr.heap.size := HO'.out.top.lt
      have hR1 : Rd w1 A1 s.length (St.mat (St.row ts n) i) (· ≠ w.heap.size) := by
        rw [H2.out]
        exact hr1.mono fun x hx => by have := HBT.out.size; omega
      have hct := HO1.top.cell hlt
      have hft := HO1.top.frozen i
      have HP := Lib.hid (HO1.lay i (c := C1) hR1)
      have HB2 := Lib.hid ((HB.out.trans (hbb.mono HB.out.size)).setCell (p := ⟨w.heap.size, i, none⟩) (Nat.le_refl _) (.slice A1 s.length C1))
      obtain ⟨m, hm⟩ : ∃ m, m = s.length := ⟨_, rfl⟩
      have d0 := (hbb.cell (World.block_lt_of_cell? _ _ c0)).trans c0
      rw [← hm] at HP HB2 H1 ⊢
      clear hr1 hb1 hbb HO1 hR1 hm c0 c1 c2 c3 d0
      go_wp2
      go_roundw
      case rel => exact ⟨i + 1, by omega, by go_num, Lib.hid ⟨_, _, HP.out.congr (fun j _ => by
        by_cases e : j = i
        · rw [if_pos e, if_pos (by omega), e, H1.out]
        · by_cases e' : j < i
          · rw [if_neg e, if_pos e', if_pos (by omega)]
          · rw [if_neg e, if_neg e', if_neg (by omega)]) (fun _ _ _ _ => rfl)⟩, HB2⟩
      case measure => simp [intOf]; omega
    · have HF : Hid (RdM wr (some ⟨w.heap.size, 0, none⟩) ts.length (St.lens (St.row ts n)) (St.mat (St.row ts n)) (· < wr.heap.size)) := Lib.hid ((HO'.out.congr (L' := St.lens (St.row ts n)) (M' := St.mat (St.row ts n)) (fun j hj => by rw [if_pos (by omega)]) (fun _ _ _ _ => rfl)).rdM)
      have e0 : decide (i < ts.length) = false := decide_eq_false hlt
      clear HO'
      go_wp2
      go_ret
      exact ⟨_, _, rfl, Nat.le_refl _, (fun h => by cases h), HF.out, HB.out⟩
end Go.Proofs.Ytbkmpoabdnickaa
