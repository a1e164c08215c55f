/- What Find of package group answers: the groups that tapes tell of. Units in a row: what a unit's cells are; one struct in a block of its own. No function of the program. What units of package group answers: what the blocks of a parity tape say. What framed of package group answers: the blocks of units that are right. -/
import Derived.Test.YtmfikihcoafekaaMak
import Derived.Test.YtmfikihcoafekaaMal
import Derived.Test.YtmfikihcoafekaaMaq
import Derived.Test.YtmfikihcoafekaaMae
import Derived.Test.YtmfikihcoafekaaMai
import Derived.Test.YtmfikihcoafekaaMap
import Derived.Test.YtmfikihcoafekaaMan
import Derived.Lib.SmallJoins
import Derived.Test.YtmfikihcoafekaaMah
namespace Go.Proofs.Ytmfikihcoafekaa
open Go.RowKit
open Pt (Tx)

set_option maxHeartbeats 1000000 in
theorem sort_nil (w : World) : Calls Try.prog 18 #[.slice none 0 0, .func (.func 19) #[] #[]] w fun e w' => e = .returned (.tuple #[]) ∧ w = w' := by
  have HI : ∀ w : World, Calls Try.prog 63 #[.slice none 0 0, .int .i64 0, .int .i64 0, .func (.func 19) #[] #[]] w fun e w' => e = .returned (.tuple #[]) ∧ w = w' := fun w => by
    go_enter Try.func63, Try.ntmps63
    go_wp2
    go_loopw [8, 9] (fun vi vj wr => vi = .int .i64 1 ∧ Hid (wr = w)) (fun _ _ _ => 0)
    case atStart => exact ⟨rfl, Lib.hid rfl⟩
    case round =>
      obtain ⟨rfl, HW⟩ := hrel
      go_wp2
      go_end0
      exact ⟨rfl, HW.out.symm⟩
  have HS : ∀ w : World, Calls Try.prog 39 #[.slice none 0 0, .int .i64 0, .func (.func 19) #[] #[]] w fun e w' => e = .returned (.tuple #[]) ∧ w = w' := fun w => by
    go_enter Try.func39, Try.ntmps39
    go_wp2
    go_loopw [7, 8] (fun va vb wr => va = .int .i64 0 ∧ vb = .int .i64 20 ∧ Hid (wr = w)) (fun _ _ _ => 0)
    case atStart => exact ⟨rfl, rfl, Lib.hid rfl⟩
    case round =>
      obtain ⟨rfl, rfl, HW⟩ := hrel
      go_wp2_with fail
      rw [HW.out]
      refine (HI w).mono ?_
      rintro e w1 ⟨rfl, hw1⟩
      subst hw1
      go_wp2
      go_loopw [6, 7, 8, 9] (fun vz va vb vm wr => vz = .int .i64 20 ∧ Hid (wr = w)) (fun _ _ _ _ _ => 0)
      case atStart => exact ⟨rfl, Lib.hid rfl⟩
      case round =>
        obtain ⟨rfl, HW1⟩ := hrel
        go_wp2
        go_end0
        exact ⟨rfl, HW1.out.symm⟩
  have HX := Lib.hid HS
  clear HI HS
  go_enter Try.func18, Try.ntmps18
  go_wp2_with fail
  refine (HX.out _).mono ?_
  rintro e w1 ⟨rfl, hw1⟩
  subst hw1
  go_wp2
  go_end0
  exact ⟨rfl, rfl⟩
theorem compact_nil (w : World) : Calls Try.prog 21 #[.slice none 0 0, .func (.func 22) #[] #[]] w fun e w' => e = .returned (.slice none 0 0) ∧ w = w' := by
  go_enter Try.func21, Try.ntmps21
  go_wp2
  go_ret
  exact ⟨rfl, rfl⟩
/-- seals in a row are sorted, and of each number the first stays -/
theorem FindI.sorted {w wr w1 : World} {g C : Nat} {xs ys : List Sx} (h : FindI w (.slice (some ⟨g, 0, none⟩) xs.length C) xs wr) (hk : Kp (· = g) wr w1) (hs : SitsX w1 g 0 ys) (hm : ∀ y ∈ ys, y ∈ xs) (hl : ys.length ≤ C) (hC : C ≤ maxLen) :
    FindA (ys.map Sx.s) w (.returned (.slice (some ⟨g, 0, none⟩) ys.length C)) w1 := by
  have hlo : w.heap.size ≤ g := (h.own.lt g rfl).1
  refine ⟨_, C, ys, rfl, rfl, hl, hC, (fun e => by cases e), hs.rd hlo, fun y hy => ?_, h.bel.trans (hk.below h.bel.size fun k e => by rw [e]; exact hlo)⟩
  exact ((h.ok y (hm y hy)).kp hk (fun b hb e => hb.2 (by rw [e]; rfl))).mono fun b hb => hb.1
theorem FindI.drewN {w wr : World} {v : Value} {xs : List Sx} (h : FindI w v xs wr) (n : Nat) : FindI w v xs (wr.drewN n) := h.old ⟨rfl, rfl, rfl, Nat.le_refl _, fun _ _ => rfl⟩
theorem cands_take {ts : List St.T} {i : Nat} (h : i < ts.length) : Gr.cands (ts.take (i + 1)) = Gr.cands (ts.take i) ++ (match Gr.cand ts[i] with | none => [] | some s => [s]) := by
  rw [List.take_succ_eq_append_getElem h, Gr.cands_snoc]
  rfl
set_option maxRecDepth 100000 in
set_option maxHeartbeats 8000000 in
theorem find_any (A : Option Addr) (ts : List St.T) (C : Nat) (G : Nat → Prop) (w : World) (hn : ts.length ≤ 19) (hl : ∀ t ∈ ts, t.blocks.length ≤ 1000000 ∧ ∀ s ∈ t.blocks, s.length ≤ 1000000) (hr : RdT w A ts G) :
    Calls Try.prog 8 #[.slice A ts.length C] w (FindA (Gr.find ts) w) := by
  have HR := Lib.hid hr
  have HL := Lib.hid hl
  clear hr hl
  go_enter Try.func8, Try.ntmps8
  go_wp2
  go_loopw [10, 3] (fun vi v wr => ∃ (i : Nat) (xs : List Sx), i ≤ ts.length ∧ vi = .int .i64 (i : Int) ∧ Hid (FindI w v xs wr) ∧ xs.length ≤ i ∧ Hid (xs.map Sx.s = Gr.cands (ts.take i))) (fun vi _ _ => ts.length - (intOf vi).toNat)
  case atStart => exact ⟨0, [], Nat.zero_le _, rfl, Lib.hid (FindI.start w), Nat.le_refl _, Lib.hid rfl⟩
  case round =>
    obtain ⟨i, xs, hi, rfl, HI, hxi, HM⟩ := hrel
    by_cases hlt : i < ts.length
    · have e0 : decide (i < ts.length) = true := decide_eq_true hlt
      obtain ⟨b, off, A', C', rfl, -, c0, c1, c2, c3, hb⟩ := (HR.out.old HI.out.bel).at_ hlt
      have HLI := Lib.hid (HL.out _ (List.getElem_mem hlt))
      have HCT := Lib.hid (cands_take hlt)
      obtain ⟨⟨lab, cap, bs, lost⟩, ht⟩ : ∃ t, t = ts[i] := ⟨_, rfl⟩
      rw [← ht] at c0 c1 c2 c3 hb HLI HCT
      dsimp only at c0 c1 c2 c3 hb HLI
      obtain ⟨L, hL⟩ : ∃ L, L = bs.length := ⟨_, rfl⟩
      rw [← hL] at c2
      obtain ⟨wa, hwa⟩ : ∃ wa, wa = wr.alloc (tapeObj lab cap A' L C' lost) := ⟨_, rfl⟩
      have hba : Below wr.heap.size wr wa := by rw [hwa]; exact (Below.refl _ _).alloc (Nat.le_refl _) _
      have hTa : wa.heap[wr.heap.size]? = some (tapeObj lab cap A' L C' lost) := by rw [hwa]; exact Go.Deep.blk_alloc_new _ _
      have HT := Lib.hid hTa
      have HBA := Lib.hid hba
      have HCALL := Lib.hid (sealed_any lab cap bs A' L C' G lost wa hL (by rw [hL]; exact HLI.out.1) (hb.old hba) HLI.out.2)
      have HW : Hid (wa = wr.alloc (.cells #[.int .i64 lab, .int .i64 cap, .slice A' L C', .bool lost] 32)) := Lib.hid hwa
      obtain ⟨t0, t1, t2, t3⟩ := tape4 hTa
      rw [HW.out] at t0 t1 t2 t3
      have hlo : wr.heap.size < wa.heap.size := heap_lt hTa
      clear ht hL hwa hba hTa hb HLI
      have HCAND : Hid (Gr.cand ⟨lab, cap, bs, lost⟩ = match Gr.sealed ⟨lab, cap, bs, lost⟩ with | none => none | some s => if s.labels.getD s.index.toNat 0 = lab then some s else none) := Lib.hid rfl
      have HSOK : Hid (∀ s, Gr.sealed ⟨lab, cap, bs, lost⟩ = some s → Rc.SOk s) := Lib.hid fun s h => Gr.sealed_ok h
      obtain ⟨o, ho⟩ : ∃ o, o = Gr.sealed ⟨lab, cap, bs, lost⟩ := ⟨_, rfl⟩
      rw [← ho] at HCALL HCAND HSOK
      clear ho
      cases o with
      | none =>
        have HM2 : Hid (xs.map Sx.s = Gr.cands (ts.take (i + 1))) := Lib.hid (by rw [HCT.out, HCAND.out, HM.out]; exact (List.append_nil _).symm)
        clear HCAND HCT
        go_wp2_with fail
        rw [← HW.out]
        refine HCALL.out.mono ?_
        rintro e w1 ⟨⟨⟨sn, si, sd, sp, sl⟩, sA, sC⟩, rfl, -, hxo, hb1⟩
        obtain ⟨wd, hwd⟩ : ∃ wd, wd = w1.alloc (sealObj sn si sd sp sA sl.length sC) := ⟨_, rfl⟩
        have hbd : Below wa.heap.size wa wd := by rw [hwd]; exact hb1.alloc hb1.size _
        have hS : wd.heap[w1.heap.size]? = some (sealObj sn si sd sp sA sl.length sC) := by rw [hwd]; exact Go.Deep.blk_alloc_new _ _
        obtain ⟨x0, x1, x2, x3, x4⟩ := seal5 hS
        have HI2 := Lib.hid ((HI.out.old HBA.out).old hbd)
        have HWD := Lib.hid hwd
        unfold sealObj at HWD
        rw [HWD.out] at x0 x1 x2 x3 x4
        clear hwd hbd hS hxo hb1 t0 t1 t2 t3 c0 c1 c2 c3
        go_wp2
        go_quiet (fail)
        rw [← HWD.out]
        go_wp2
        go_roundw
        case rel => exact ⟨i + 1, xs, by omega, by go_num, Lib.hid (HI2.out.drewN _), by omega, HM2⟩
        case measure => simp [intOf]; omega
      | some s =>
        go_wp2_with fail
        rw [← HW.out]
        refine HCALL.out.mono ?_
        rintro e w1 ⟨⟨⟨sn, si, sd, sp, sl⟩, sA, sC⟩, rfl, hxs, hxo, hb1⟩
        have hxs' : (⟨sn, si, sd, sp, sl⟩ : Rc.S) = s := hxs
        subst hxs'
        have hok := HSOK.out _ rfl
        obtain ⟨k, rfl⟩ : ∃ k : Nat, si = (k : Int) := ⟨si.toNat, by have := hok.1.2.2.2.2.2.1; simp only at this; omega⟩
        have hkl : k < sl.length := by have := hok.1.2.2.2.2.2.2; simp only at this; omega
        obtain ⟨wd, hwd⟩ : ∃ wd, wd = w1.alloc (sealObj sn (k : Int) sd sp sA sl.length sC) := ⟨_, rfl⟩
        have hbs : Below w1.heap.size w1 wd := by rw [hwd]; exact (Below.refl _ _).alloc (Nat.le_refl _) _
        have hbd : Below wa.heap.size wa wd := hb1.trans (hbs.mono hb1.size)
        have hS : wd.heap[w1.heap.size]? = some (sealObj sn (k : Int) sd sp sA sl.length sC) := by rw [hwd]; exact Go.Deep.blk_alloc_new _ _
        obtain ⟨x0, x1, x2, x3, x4⟩ := seal5 hS
        obtain ⟨lb, lo, rfl, hlb, hlc⟩ := (hxo.rd.old hbs).at_ hkl
        have t0' := (tape4 (below_obj hbd HT.out)).1
        have HXO : Hid (Sx.Ok ⟨⟨sn, (k : Int), sd, sp, sl⟩, some ⟨lb, lo, none⟩, sC⟩ wd (wr.heap.size ≤ ·)) := Lib.hid ((hxo.old hbs).mono fun x hx => by have : wa.heap.size ≤ x := hx; omega)
        have HBD := Lib.hid (HBA.out.trans (hbd.mono HBA.out.size))
        have HS := Lib.hid hS
        have HI2 := Lib.hid ((HI.out.old HBA.out).old hbd)
        obtain ⟨m, hm⟩ : ∃ m, m = sl.length := ⟨_, rfl⟩
        obtain ⟨y, hy⟩ : ∃ y, y = sl[k] := ⟨_, rfl⟩
        have hkm : k < m := by rw [hm]; exact hkl
        have hCN : Hid (Gr.cand ⟨lab, cap, bs, lost⟩ = if y = lab then some ⟨sn, (k : Int), sd, sp, sl⟩ else none) := Lib.hid (by
          rw [HCAND.out, hy]
          show (if sl.getD ((k : Int)).toNat 0 = lab then _ else _) = _
          rw [show ((k : Int)).toNat = k by omega, List.getD_eq_getElem?_getD, List.getElem?_eq_getElem hkl]; rfl)
        rw [← hm] at x4
        rw [← hy] at hlc
        have HMM := Lib.hid hm
        have HWD := Lib.hid hwd
        unfold sealObj at HWD
        rw [← hm] at HWD ⊢
        have HW1 := Lib.hid (rfl : w1.heap.size = w1.heap.size)
        rw [HWD.out] at x0 x1 x2 x3 x4 hlc t0'
        clear hwd hbd hbs hS hxo hb1 t0 t1 t2 t3 c0 c1 c2 c3 hxs hok HSOK HCAND hlb hm hy hkl
        cases q1 : (y == lab) with
        | false =>
          have HM2 : Hid (xs.map Sx.s = Gr.cands (ts.take (i + 1))) := Lib.hid (by
            rw [HCT.out, hCN.out, if_neg (beq_eq_false_iff_ne.1 q1), HM.out]; exact (List.append_nil _).symm)
          clear HCT hCN
          go_wp2
          go_quiet (fail)
          rw [← HWD.out]
          go_wp2
          go_roundw
          case rel => exact ⟨i + 1, xs, by omega, by go_num, Lib.hid (HI2.out.drewN _), by omega, HM2⟩
          case measure => simp [intOf]; omega
        | true =>
          have HM2 : Hid ((xs ++ [(⟨⟨sn, (k : Int), sd, sp, sl⟩, some ⟨lb, lo, none⟩, sC⟩ : Sx)]).map Sx.s = Gr.cands (ts.take (i + 1))) := Lib.hid (by
            rw [HCT.out, hCN.out, if_pos (beq_iff_eq.1 q1), ← HM.out, List.map_append]; rfl)
          clear HCT hCN
          go_wp2
          go_quiet (fail)
          rw [← HWD.out]
          obtain ⟨wq, hwq⟩ : ∃ wq, wq = wd.drewN nq := ⟨_, rfl⟩
          have hbq : Below wd.heap.size wd wq := by
            rw [hwq]
            exact ⟨rfl, rfl, rfl, Nat.le_refl _, fun _ _ => rfl⟩
          rw [← hwq]
          have HBQ := Lib.hid hbq
          have HIQ := Lib.hid (HI2.out.old hbq)
          have HXQ := Lib.hid (HXO.out.old hbq)
          have hSQ := below_obj hbq HS.out
          clear x0 x1 x2 x3 x4 hlc t0'
          obtain ⟨x0, x1, x2, x3, x4⟩ := seal5 hSQ
          rw [← HMM.out] at x4
          clear hSQ hwq hbq
          have HOB := Lib.hid (HIQ.out.own.old (w' := wq.alloc (.cells (Sx.enc ⟨⟨sn, (k : Int), sd, sp, sl⟩, some ⟨lb, lo, none⟩, sC⟩).toArray 41)) ((Below.refl _ _).alloc (Nat.le_refl _) _))
          have HNEW := Lib.hid (newCellsAt wq (Sx.enc ⟨⟨sn, (k : Int), sd, sp, sl⟩, some ⟨lb, lo, none⟩, sC⟩) 41 wq.heap.size rfl)
          have hsz : w.heap.size ≤ wq.heap.size := HIQ.out.bel.size
          have HBE : Hid (Below wr.heap.size wr wq) := Lib.hid (HBD.out.trans (HBQ.out.mono HBD.out.size))
          unfold Sx.enc at HOB HNEW
          dsimp only at HOB HNEW
          rw [← HMM.out] at HOB HNEW
          go_wp2_with (at_builtin; refine wpList_append_stL encX _ rfl _ _ _ rfl w.heap.size 41 _ 56 Try.underlying38 infoSeal rfl _ xs rfl HOB.out ⟨wq.heap.size, 0, none⟩ 1 1 [(⟨⟨sn, (k : Int), sd, sp, sl⟩, some ⟨lb, lo, none⟩, sC⟩ : Sx)] rfl rfl (by decide) (by rw [Enc.cells_one]; show ∀ j u, (Sx.enc _)[j]? = some u → _; unfold Sx.enc; dsimp only; rw [← HMM.out]; exact HNEW.out) (by unfold maxLen; omega) (by omega) (by simp; omega) (wq.heap.size + 1) (by simp) ?_; intro g cap w3 hO3 hg3 hat3 _; have HI3 := Lib.hid (HI.out.push (x := ⟨⟨sn, (k : Int), sd, sp, sl⟩, some ⟨lb, lo, none⟩, sC⟩) HBE.out HXQ.out hO3 hg3 hat3); clear hO3 hg3 hat3)
          go_wp2
          go_roundw
          case rel => exact ⟨i + 1, _, by omega, by go_num, HI3, by simp; omega, HM2⟩
          case measure => simp [intOf]; omega
    · have e0 : decide (i < ts.length) = false := decide_eq_false hlt
      have HM2 : Hid (xs.map Sx.s = Gr.cands ts) := Lib.hid (by rw [HM.out, List.take_of_length_le (by omega)])
      have HFIN : Hid ((So.compact Sx.num (So.isort Sx.num xs)).map Sx.s = Gr.find ts) := Lib.hid (by
        rw [So.all_is (f := Sx.num) (g := Sx.s) (fun _ => rfl), HM2.out]; rfl)
      rcases sits_own HI.out.own with ⟨rfl, rfl⟩ | ⟨g, cap, rfl, hc1, hc2, hlo, hsit⟩
      · go_wp2_with fail
        refine (sort_nil wr).mono ?_
        rintro e w1 ⟨rfl, hw1⟩
        subst hw1
        go_wp2_with fail
        refine (compact_nil wr).mono ?_
        rintro e w1 ⟨rfl, hw1⟩
        subst hw1
        go_wp2
        go_ret
        refine ⟨none, 0, [], rfl, HFIN.out, Nat.le_refl _, by decide, fun _ => ⟨rfl, rfl⟩, Enc.Rd.nil _ _ _, (fun x hx => by cases hx), HI.out.bel⟩
      · have HSIT := Lib.hid hsit
        have HC1 := Lib.hid hc1
        have HC2 := Lib.hid hc2
        obtain ⟨n, hn'⟩ : ∃ n, n = xs.length := ⟨_, rfl⟩
        have hn2 : n < 20 := by omega
        have HNX := Lib.hid hn'
        rw [← hn']
        clear hsit hc1 hc2 hn' hxi
        go_wp2_with fail
        refine (sort_any g 0 xs n cap wr HNX.out hn2 HSIT.out).mono ?_
        rintro e w1 ⟨rfl, hs1⟩
        have HS1 := Lib.hid hs1
        have HNY : Hid (n = (So.isort Sx.num xs).length) := Lib.hid (by rw [So.isort_len]; exact HNX.out)
        clear hs1
        go_wp2_with fail
        refine (compact_any g 0 (So.isort Sx.num xs) n cap w1 HNY.out (by have := HC1.out; have := HNX.out; omega) (by omega) HS1.out.sits).mono ?_
        rintro e w2 ⟨rfl, hs2⟩
        have HS2 := Lib.hid hs2
        clear hs2
        go_wp2
        go_ret
        rw [← HFIN.out]
        have hfi := HI.out
        exact hfi.sorted (HS1.out.kp.trans HS2.out.kp) HS2.out.sits (fun y hy => So.mem_isort.1 (So.mem_compact hy)) (Nat.le_trans (So.compact_le _ _) (by rw [So.isort_len]; exact HC1.out)) HC2.out
end Go.Proofs.Ytmfikihcoafekaa
namespace Go.Proofs.Ytmfikihcoafekaa
open Go.RowKit

theorem infoUnit : (Try.prog.info? 28).map (fun i => (i.zero, i.size, i.bytes)) = some (some (.agg #[.int .i64 0, .int .i64 0, .int .i64 0, .slice none 0 0]), 4, 48) := by kernel_rfl
/-- one struct in a block of its own -/
theorem Enc.Own.one {α : Type} {E : Enc α} {w : World} {base g : Nat} {t : TypeId} {x : α} (h : w.heap[g]? = some (.cells (E.enc x).toArray t)) (hb : base ≤ g) : E.Own w base t (.slice (some ⟨g, 0, none⟩) 1 1) [x] := by
  refine ⟨E.cells_len [x], .inr ⟨g, 1, _, rfl, hb, h, Nat.le_refl _, by decide, ?_, ?_⟩⟩
  · rw [List.size_toArray, E.len]; omega
  · rw [E.cells_one, List.length_singleton, Nat.one_mul]
    show (E.enc x).take E.k = E.enc x
    exact List.take_of_length_le (by rw [E.len]; exact Nat.le_refl _)
theorem own_lower {w : World} {B B' : Nat} {t : TypeId} {k n : Nat} {v : Value} {xs : List Value} (h : w.ownsRow B t k v n xs) (hb : B' ≤ B) : w.ownsRow B' t k v n xs := by
  refine ⟨h.1, ?_⟩
  rcases h.2 with h0 | ⟨g, cap, cur, e, hg, r⟩
  · exact .inl h0
  · exact .inr ⟨g, cap, cur, e, Nat.le_trans hb hg, r⟩
end Go.Proofs.Ytmfikihcoafekaa
namespace Go.Proofs.Ytmfikihcoafekaa
open Go.RowKit
open Pt (Tx)

/-- a unit as it lies in a row: its kind, its load, and where that lies -/
structure Ux where
  kind : Int
  s : Tx
  A : Option Addr
  C : Nat
def Ux.enc (u : Ux) : List Value := [.int .i64 u.kind, .int .i64 0, .int .i64 0, .slice u.A u.s.length u.C]
def Ux.pair (u : Ux) : Int × Tx := (u.kind, u.s)
def encY : Enc Ux where
  k := 4
  pos := by decide
  enc := Ux.enc
  len _ := rfl
  one u v hv := by
    simp only [Ux.enc, List.mem_cons, List.not_mem_nil, or_false] at hv
    rcases hv with rfl | rfl | rfl | rfl <;> rfl
structure Ux.Ok (u : Ux) (w : World) (G : Nat → Prop) : Prop where
  nil : u.A = none → u.s.length = 0 ∧ u.C = 0
  rd : RdL w u.A u.s G
theorem Ux.Ok.mono {x : Ux} {w : World} {G G' : Nat → Prop} (h : x.Ok w G) (hg : ∀ b, G b → G' b) : x.Ok w G' := ⟨h.nil, h.rd.mono hg⟩
theorem Ux.Ok.old {x : Ux} {w w' : World} {G : Nat → Prop} (h : x.Ok w G) (hb : Below w.heap.size w w') : x.Ok w' G := ⟨h.nil, h.rd.old hb⟩
theorem Ux.Ok.kp {x : Ux} {w w' : World} {G S : Nat → Prop} (h : x.Ok w G) (hk : Kp S w w') (hs : ∀ b, G b → ¬ S b) : x.Ok w' G := ⟨h.nil, h.rd.kp hk hs⟩
theorem Ux.Ok.in_ {x : Ux} {w : World} {G : Nat → Prop} (h : x.Ok w G) : x.Ok w (fun b => G b ∧ b < w.heap.size) := ⟨h.nil, h.rd.in_⟩
/-- units that are gathered in an own row -/
structure UnitI (w : World) (v : Value) (us : List Ux) (wr : World) : Prop where
  own : encY.Own wr w.heap.size 28 v us
  ok : ∀ u ∈ us, u.Ok wr (fun b => v.ownBlock ≠ some b)
  bel : Below w.heap.size w wr
namespace UnitI
variable {w wr w2 w3 : World} {v : Value} {us : List Ux}
theorem old (h : UnitI w v us wr) (hb : Below wr.heap.size wr w2) : UnitI w v us w2 :=
  ⟨h.own.old hb, fun x hx => (h.ok x hx).old hb, h.bel.trans (hb.mono h.bel.size)⟩
theorem push (h : UnitI w v us w2) {x : Ux} (hx : x.Ok w2 (fun b => v.ownBlock ≠ some b)) {o : Obj} {g n cap : Nat} (hown : encY.Own w3 w.heap.size 28 (.slice (some ⟨g, 0, none⟩) n cap) (us ++ [x])) (hg : (w2.alloc o).grownBy w3 v.ownBlock) (hat : v.ownBlock = some g ∨ g = w2.heap.size + 1) : UnitI w (.slice (some ⟨g, 0, none⟩) n cap) (us ++ [x]) w3 := by
  have key : ∀ y : Ux, y.Ok w2 (fun b => v.ownBlock ≠ some b) → y.Ok w3 (fun b => (.slice (some ⟨g, 0, none⟩) n cap : Value).ownBlock ≠ some b) := fun y hy => by
    have hk : Kp (fun k => v.ownBlock = some k) w2 w3 := ((Kp.refl _ w2).alloc o).grown hg (fun k e => e)
    have h3 := hy.in_.kp hk (fun b hb => hb.1)
    refine h3.mono fun b hb e => ?_
    have e' : g = b := by simpa [Value.ownBlock] using e
    rcases hat with hat | hat
    · exact hb.1 (by rw [hat, e'])
    · omega
  refine ⟨hown, fun y hy => ?_, ?_⟩
  · rcases List.mem_append.1 hy with hy | hy
    · exact key y (h.ok y hy)
    · rw [List.mem_singleton.1 hy]; exact key x hx
  · exact (h.bel.alloc h.bel.size _).grown hg (by have := h.bel.size; simp; omega) (fun k hk => (h.own.lt k hk).1)
end UnitI
/-- units are answered -/
def UnitsG (l : List (Int × Tx)) (w : World) (e : Ending) (w' : World) : Prop := ∃ v us, e = .returned v ∧ us.map Ux.pair = l ∧ UnitI w v us w'
theorem first_unit (w w1 wb : World) (h1 : w1 = w.alloc (.cells #[.int .u8 80] 5 (1, 2))) (hb : wb = w1.alloc (.cells #[.int .i64 1, .int .i64 0, .int .i64 0, .slice (some ⟨w.heap.size, 0, none⟩) 1 1] 28)) (W : World) (hW : Below W.heap.size W w) :
    UnitI W (.slice (some ⟨w.heap.size + 1, 0, none⟩) 1 1) [⟨1, [80], some ⟨w.heap.size, 0, none⟩, 1⟩] wb := by
  have hs : w1.heap.size = w.heap.size + 1 := by rw [h1]; simp
  have c1 : w1.heap[w.heap.size]? = some (.cells #[.int .u8 80] 5 (1, 2)) := by rw [h1]; exact Go.Deep.blk_alloc_new _ _
  have c2 : wb.heap[w.heap.size]? = some (.cells #[.int .u8 80] 5 (1, 2)) := by rw [hb]; exact (Below.heap_alloc _ _ _ (heap_lt c1)).trans c1
  have c3 : wb.heap[w.heap.size + 1]? = some (.cells #[.int .i64 1, .int .i64 0, .int .i64 0, .slice (some ⟨w.heap.size, 0, none⟩) 1 1] 28) := by
    rw [hb, ← hs]; exact Go.Deep.blk_alloc_new _ _
  have hb1 : Below W.heap.size W w1 := by rw [h1]; exact hW.alloc hW.size _
  refine ⟨Enc.Own.one (E := encY) (x := ⟨1, [80], some ⟨w.heap.size, 0, none⟩, 1⟩) c3 (by have := hW.size; omega), fun u hu => ?_, ?_⟩
  · rw [List.mem_singleton.1 hu]
    refine ⟨(fun e => by cases e), fun _ => ⟨_, 0, rfl, fun e => ?_, fun j hj => ?_⟩⟩
    · simp [Value.ownBlock] at e
    · have h0 : j = 0 := by simpa using hj
      subst h0
      rw [heap_cell c2]; rfl
  · rw [hb]; exact hb1.alloc hb1.size _
set_option maxRecDepth 100000 in
set_option maxHeartbeats 4000000 in
theorem units_any (A : Option Addr) (rows : List Tx) (n C : Nat) (G : Nat → Prop) (x : Sx) (w : World) (hn : n = rows.length) (hm : n ≤ 1000000) (hr : RdW w A rows G) (hx : x.Ok w (fun _ => True)) :
    Calls Try.prog 16 #[.slice A n C, .agg #[.int .i64 x.s.number, .int .i64 x.s.index, .int .i64 x.s.data, .int .i64 x.s.parity, .slice x.A x.s.labels.length x.C]] w (UnitsG (says rows x.s) w) := by
  obtain ⟨⟨sn, si, sd, sp, sl⟩, sA, sC⟩ := x
  dsimp only at hx ⊢
  obtain ⟨m, hm'⟩ : ∃ m, m = sl.length := ⟨_, rfl⟩
  rw [← hm']
  obtain ⟨wa, hwa⟩ : ∃ wa, wa = w.alloc (sealObj sn si sd sp sA m sC) := ⟨_, rfl⟩
  have hba : Below w.heap.size w wa := by rw [hwa]; exact (Below.refl _ _).alloc (Nat.le_refl _) _
  have hSa : wa.heap[w.heap.size]? = some (sealObj sn si sd sp sA m sC) := by rw [hwa]; exact Go.Deep.blk_alloc_new _ _
  obtain ⟨w1, hw1⟩ : ∃ w1, w1 = wa.alloc (.cells #[.int .u8 80] 5 (1, 2)) := ⟨_, rfl⟩
  obtain ⟨wb, hwb⟩ : ∃ wb, wb = w1.alloc (.cells #[.int .i64 1, .int .i64 0, .int .i64 0, .slice (some ⟨wa.heap.size, 0, none⟩) 1 1] 28) := ⟨_, rfl⟩
  have hU := first_unit wa w1 wb hw1 hwb w hba
  have hb1 : Below wa.heap.size wa w1 := by rw [hw1]; exact (Below.refl _ _).alloc (Nat.le_refl _) _
  have hbb : Below wa.heap.size wa wb := by rw [hwb]; exact hb1.alloc hb1.size _
  have hsz : wa.heap.size = w.heap.size + 1 := by rw [hwa]; simp
  rw [hsz] at hU
  have HU := Lib.hid hU
  have HS := Lib.hid (below_obj hbb hSa)
  have HR := Lib.hid hr
  have HN := Lib.hid hn
  have HLT : Hid (w.heap.size < wb.heap.size) := Lib.hid (heap_lt (below_obj hbb hSa))
  have HSB : Hid (∀ y, Below w.heap.size w y → Calls Try.prog 36 #[.agg #[.int .i64 sn, .int .i64 si, .int .i64 sd, .int .i64 sp, .slice sA m sC]] y (AnsT (Rc.sput ⟨sn, si, sd, sp, sl⟩) y)) := Lib.hid fun y hy =>
    sealBytes_any sn si sd sp sA sl m sC (fun _ => True) y hm' (by rw [hm']; exact hx.le) hx.max (hx.rd.old hy)
  have HW : Hid (wb = ((w.alloc (.cells #[.int .i64 sn, .int .i64 si, .int .i64 sd, .int .i64 sp, .slice sA m sC] 41)).alloc (.cells #[.int .u8 80] 5 (1, 2))).alloc (.cells #[.int .i64 1, .int .i64 0, .int .i64 0, .slice (some ⟨w.heap.size + 1, 0, none⟩) 1 1] 28)) := Lib.hid (by rw [hwb, hw1, hsz, hwa]; rfl)
  clear hr hn hx hwa hba hSa hw1 hwb hU hb1 hbb hsz hm'
  have kc := Go.Joins.run_convert_bytes_const_at (P := Try.prog) (w.alloc (sealObj sn si sd sp sA m sC)) 24 5 #[.int .u8 80] 1 1 (w.heap.size + 1) (by simp) Try.underlying24 Try.underlying5
  simp only [List.size_toArray, List.length_cons, List.length_nil, Nat.zero_add, Nat.reduceAdd] at kc
  unfold sealObj at kc
  go_enter Try.func16, Try.ntmps16
  go_wp2
  rw [← HW.out]
  clear kc
  go_loopw [14, 5] (fun vi v wr => ∃ (i : Nat) (us : List Ux), i ≤ n ∧ vi = .int .i64 (i : Int) ∧ us.length ≤ i + 1 ∧ Hid (UnitI w v us wr) ∧ Hid (us.map Ux.pair = (1, [80]) :: (rows.take i).map (fun b => ((6 : Int), b))) ∧ Hid (wr.heap[w.heap.size]? = some (sealObj sn si sd sp sA m sC))) (fun vi _ _ => n - (intOf vi).toNat)
  case atStart => exact ⟨0, _, Nat.zero_le _, rfl, Nat.le_refl _, HU, Lib.hid rfl, HS⟩
  case round =>
    obtain ⟨i, us, hi, rfl, hlen, HI, HM, HSW⟩ := hrel
    obtain ⟨v, rfl⟩ : ∃ v, v = u5 := ⟨u5, rfl⟩
    have hne : v.ownBlock ≠ some w.heap.size := fun e => by
      obtain ⟨c, hc⟩ := HI.out.own.block _ e
      rw [HSW.out] at hc
      unfold sealObj at hc
      injection hc with hc
      injection hc with _ e2
      exact absurd e2 (by decide)
    have HNE := Lib.hid hne
    clear hne
    by_cases hlt : i < n
    · have e0 : decide (i < n) = true := decide_eq_true hlt
      have hlt' : i < rows.length := by rw [← HN.out]; exact hlt
      obtain ⟨b, off, A', C', rfl, -, c0, hA', hr'⟩ := (HR.out.in_.old HI.out.bel).at_ hlt'
      have HM2 : Hid ((1, [80]) :: (rows.take (i + 1)).map (fun b => ((6 : Int), b)) = ((1, [80]) :: (rows.take i).map (fun b => ((6 : Int), b))) ++ [(6, rows[i])]) := Lib.hid (by
        rw [List.take_succ_eq_append_getElem hlt', List.map_append, List.cons_append]; rfl)
      obtain ⟨r, hr⟩ : ∃ r, r = rows[i] := ⟨_, rfl⟩
      rw [← hr] at c0 hA' hr' HM2
      obtain ⟨k, hk⟩ : ∃ k, k = r.length := ⟨_, rfl⟩
      rw [← hk] at c0
      have HK := Lib.hid hk
      have HUX : Hid (Ux.Ok ⟨6, r, A', C'⟩ wr (fun b => v.ownBlock ≠ some b)) := Lib.hid ⟨hA', hr'.mono fun x hx e => by have := (HI.out.own.lt x e).1; omega⟩
      have HM3 : Hid ((us ++ [(⟨6, r, A', C'⟩ : Ux)]).map Ux.pair = (1, [80]) :: (rows.take (i + 1)).map (fun b => ((6 : Int), b))) := Lib.hid (by
        rw [HM2.out, List.map_append, HM.out]; rfl)
      have HOB := Lib.hid (HI.out.own.old (w' := wr.alloc (.cells (Ux.enc ⟨6, r, A', C'⟩).toArray 28)) ((Below.refl _ _).alloc (Nat.le_refl _) _))
      have HNEW := Lib.hid (newCellsAt wr (Ux.enc ⟨6, r, A', C'⟩) 28 wr.heap.size rfl)
      have HIQ := HI
      unfold Ux.enc at HOB HNEW
      dsimp only at HOB HNEW
      rw [← HK.out] at HOB HNEW
      clear hr hk hA' hr' HM2
      go_wp2_with (at_builtin; refine wpList_append_stL encY _ rfl _ _ _ rfl w.heap.size 28 _ 48 Try.underlying58 infoUnit rfl _ us rfl HOB.out ⟨wr.heap.size, 0, none⟩ 1 1 [(⟨6, r, A', C'⟩ : Ux)] rfl rfl (by decide) (by rw [Enc.cells_one]; show ∀ j u, (Ux.enc _)[j]? = some u → _; unfold Ux.enc; dsimp only; rw [← HK.out]; exact HNEW.out) (by unfold maxLen; omega) (by omega) (by have := HIQ.out.bel.size; simp; omega) (wr.heap.size + 1) (by simp) ?_; intro g cap w3 hO3 hg3 hat3 _; have HI3 := Lib.hid (HIQ.out.push (x := ⟨6, r, A', C'⟩) HUX.out hO3 hg3 hat3); have HS3 : Hid (w3.heap[w.heap.size]? = some (sealObj sn si sd sp sA m sC)) := Lib.hid ((hg3.block _ (by have := heap_lt HSW.out; simp; omega) (fun e => HNE.out e.symm)).trans ((Below.heap_alloc _ _ _ (heap_lt HSW.out)).trans HSW.out)); clear hO3 hg3 hat3)
      go_wp2
      go_roundw
      case rel => exact ⟨i + 1, _, by omega, by go_num, by simp; omega, HI3, HM3, HS3⟩
      case measure => simp [intOf]; omega
    · have e0 : decide (i < n) = false := decide_eq_false hlt
      have HM2 : Hid (us.map Ux.pair = (1, [80]) :: rows.map (fun b => ((6 : Int), b))) := Lib.hid (by
        have h := HM.out
        rwa [List.take_of_length_le (by rw [← HN.out]; omega)] at h)
      obtain ⟨x0, x1, x2, x3, x4⟩ := seal5 HSW.out
      have HCL := Lib.hid (HSB.out wr HI.out.bel)
      obtain ⟨sb, hsb⟩ : ∃ sb, sb = Rc.sput ⟨sn, si, sd, sp, sl⟩ := ⟨_, rfl⟩
      have HFIN : Hid (says rows ⟨sn, si, sd, sp, sl⟩ = us.map Ux.pair ++ [(5, sb)]) := Lib.hid (by rw [HM2.out, hsb]; rfl)
      rw [← hsb] at HCL
      clear hsb
      go_wp2_with fail
      refine HCL.out.mono ?_
      rintro e w2 ⟨A2, k, C2, rfl, hk, -, -, hA2, hr2, hb2⟩
      have HIQ := Lib.hid (HI.out.old hb2)
      have HUX : Hid (Ux.Ok ⟨5, sb, A2, C2⟩ w2 (fun b => v.ownBlock ≠ some b)) := Lib.hid ⟨fun e => by rw [← hk]; exact hA2 e, hr2.mono fun x hx e => by have h1 := (HI.out.own.lt x e).2; have h2 : wr.heap.size ≤ x := hx; omega⟩
      have HK := Lib.hid hk
      have HOB := Lib.hid (HIQ.out.own.old (w' := w2.alloc (.cells (Ux.enc ⟨5, sb, A2, C2⟩).toArray 28)) ((Below.refl _ _).alloc (Nat.le_refl _) _))
      have HNEW := Lib.hid (newCellsAt w2 (Ux.enc ⟨5, sb, A2, C2⟩) 28 w2.heap.size rfl)
      unfold Ux.enc at HOB HNEW
      dsimp only at HOB HNEW
      rw [← HK.out] at HOB HNEW
      clear hb2 hA2 hr2 hk x0 x1 x2 x3 x4
      go_wp2_with (at_builtin; refine wpList_append_stL encY _ rfl _ _ _ rfl w.heap.size 28 _ 48 Try.underlying58 infoUnit rfl _ us rfl HOB.out ⟨w2.heap.size, 0, none⟩ 1 1 [(⟨5, sb, A2, C2⟩ : Ux)] rfl rfl (by decide) (by rw [Enc.cells_one]; show ∀ j u, (Ux.enc _)[j]? = some u → _; unfold Ux.enc; dsimp only; rw [← HK.out]; exact HNEW.out) (by unfold maxLen; omega) (by omega) (by have := HIQ.out.bel.size; simp; omega) (w2.heap.size + 1) (by simp) ?_; intro g cap w3 hO3 hg3 hat3 _; have HI3 := Lib.hid (HIQ.out.push (x := ⟨5, sb, A2, C2⟩) HUX.out hO3 hg3 hat3);  clear hO3 hg3 hat3)
      go_wp2
      go_ret
      exact ⟨_, _, rfl, by rw [List.map_append, HFIN.out]; rfl, HI3.out⟩
end Go.Proofs.Ytmfikihcoafekaa
namespace Go.Proofs.Ytmfikihcoafekaa
open Go.RowKit
open Pt (Tx)

/-- rows are set one by one in a row of the call's own -/
structure BlksI (w : World) (g n : Nat) (bs : List Tx) (wr : World) : Prop where
  row : ∃ V, RowV wr 24 g n V ∧ ∀ i (hi : i < bs.length), ∃ A C, V i = .slice A bs[i].length C ∧ bs[i].length ≤ C ∧ (A = none → bs[i].length = 0 ∧ C = 0) ∧ RdL wr A bs[i] (fun b => w.heap.size ≤ b ∧ b ≠ g)
  lo : w.heap.size ≤ g
  bel : Below w.heap.size w wr
namespace BlksI
variable {w wr w2 : World} {g n : Nat} {bs : List Tx}
theorem start (w : World) (n : Nat) : BlksI w w.heap.size n [] (w.alloc (.cells (madeCells #[.slice none 0 0] n) 24)) :=
  ⟨⟨_, RowV.made w (.slice none 0 0) 24 n, fun i hi => absurd hi (by simp)⟩, Nat.le_refl _, (Below.refl _ _).alloc (Nat.le_refl _) _⟩
theorem old (h : BlksI w g n bs wr) (hb : Below wr.heap.size wr w2) : BlksI w g n bs w2 := by
  obtain ⟨V, hV, hr⟩ := h.row
  refine ⟨⟨V, hV.old hb, fun i hi => ?_⟩, h.lo, h.bel.trans (hb.mono h.bel.size)⟩
  obtain ⟨A, C, h1, h2, h3, h4⟩ := hr i hi
  exact ⟨A, C, h1, h2, h3, h4.old hb⟩
/-- what is as it was: all but some blocks behind the row -/
theorem kp (h : BlksI w g n bs wr) {S : Nat → Prop} (hk : Kp S wr w2) (hS : ∀ k, S k → w.heap.size ≤ k ∧ wr.heap.size ≤ k) : BlksI w g n bs w2 := by
  obtain ⟨V, hV, hr⟩ := h.row
  have hlt := hV.lt
  refine ⟨⟨V, hV.kp hk (fun e => by have := hS g e; omega), fun i hi => ?_⟩, h.lo, h.bel.trans (hk.below h.bel.size fun k e => (hS k e).1)⟩
  obtain ⟨A, C, h1, h2, h3, h4⟩ := hr i hi
  exact ⟨A, C, h1, h2, h3, (h4.in_.kp hk fun b hb e => by have := hS b e; omega).mono fun b hb => hb.1⟩
theorem cell (h : BlksI w g n bs wr) {k : Nat} (hk : k < n) : ∃ v, wr.cell? ⟨g, k, none⟩ = some v ∧ wr.frozen? ⟨g, k, none⟩ = false := by
  obtain ⟨V, hV, _⟩ := h.row
  exact ⟨V k, hV.cell hk, hV.frozen k⟩
theorem set (h : BlksI w g n bs wr) {k : Nat} (hk : k = bs.length) {s : Tx} {A : Option Addr} {C : Nat} (hC : s.length ≤ C) (hA : A = none → s.length = 0 ∧ C = 0) (hr : RdL wr A s (fun b => w.heap.size ≤ b ∧ b ≠ g)) : BlksI w g n (bs ++ [s]) (wr.setCell ⟨g, k, none⟩ (.slice A s.length C)) := by
  obtain ⟨V, hV, hrows⟩ := h.row
  have hkp : Kp (· = g) wr (wr.setCell ⟨g, k, none⟩ (.slice A s.length C)) := Kp.store _ _ _ _
  refine ⟨⟨_, hV.set k _, fun i hi => ?_⟩, h.lo, h.bel.trans (hkp.below h.bel.size fun x e => by have := h.lo; omega)⟩
  rw [List.length_append, List.length_singleton] at hi
  by_cases e : i = k
  · have e' : (bs ++ [s])[i]'(by rw [List.length_append, List.length_singleton]; exact hi) = s := by
      simp [e, hk]
    rw [e']
    refine ⟨A, C, ?_, hC, hA, hr.kp hkp fun b hb e => hb.2 e⟩
    simp [e]
  · have hi' : i < bs.length := by omega
    obtain ⟨A', C', h1, h2, h3, h4⟩ := hrows i hi'
    rw [List.getElem_append_left hi']
    refine ⟨A', C', ?_, h2, h3, h4.kp hkp fun b hb e => hb.2 e⟩
    simp only [e, if_false]; exact h1
theorem rdB (h : BlksI w g n bs wr) (hn : bs.length ≤ n) : RdB wr (some ⟨g, 0, none⟩) bs (w.heap.size ≤ ·) := fun _ => by
  obtain ⟨V, hV, hr⟩ := h.row
  refine ⟨g, 0, rfl, h.lo, fun i hi => ?_⟩
  obtain ⟨A, C, h1, h2, h3, h4⟩ := hr i hi
  exact ⟨A, C, by rw [Nat.zero_add, hV.cell (by omega), h1], h2, h3, h4.mono fun b hb => hb.1⟩
end BlksI
/-- blocks are answered, in new memory -/
def BlocksG (bs : List Tx) (w : World) (e : Ending) (w' : World) : Prop :=
  ∃ A C, e = .returned (.tuple #[.slice A bs.length C, .int .i64 0]) ∧ bs.length ≤ C ∧ C ≤ maxLen ∧ (A = none → bs.length = 0 ∧ C = 0) ∧ RdB w' A bs (w.heap.size ≤ ·) ∧ Below w.heap.size w w'
set_option maxRecDepth 100000 in
set_option maxHeartbeats 4000000 in
theorem framed_ok (label : Int) (A : Option Addr) (us : List Ux) (n C : Nat) (G : Nat → Prop) (w : World) (hn : n = us.length) (hm : n ≤ 2000000) (hr : encY.Rd w A us G) (hu : ∀ u ∈ us, u.Ok w (fun _ => True)) (hok : ∀ i (hi : i < us.length), Fm.Ok ⟨us[i].kind, label, (i : Int), us[i].s⟩) :
    Calls Try.prog 15 #[.int .i64 label, .slice A n C] w (BlocksG (framedL label (us.map Ux.pair)) w) := by
  obtain ⟨w0, hw0⟩ : ∃ w0, w0 = w.alloc (.cells (madeCells #[.slice none 0 0] n) 24) := ⟨_, rfl⟩
  have hmk := run_make_row' (P := Try.prog) 30 24 (.slice none 0 0) 24 Try.underlying30 infoRowT rfl .i64 .i64 n (by omega) (by omega)
  have hI0 : BlksI w w.heap.size n ((framedL label (us.map Ux.pair)).take 0) w0 := by rw [hw0]; exact BlksI.start w n
  have HI0 := Lib.hid hI0
  have HR := Lib.hid hr
  have HU := Lib.hid hu
  have HOK := Lib.hid hok
  have HN := Lib.hid hn
  have HW := Lib.hid hw0
  have HFL : Hid ((framedL label (us.map Ux.pair)).length = n) := Lib.hid (by rw [framedL_len, List.length_map, hn])
  clear hI0 hr hu hok hn hw0
  go_enter Try.func15, Try.ntmps15
  go_wp2
  rw [← HW.out]
  clear hmk
  obtain ⟨gB, hgB⟩ : ∃ gB, gB = w.heap.size := ⟨_, rfl⟩
  rw [← hgB] at HI0
  have HGB := Lib.hid hgB
  rw [← hgB]
  clear hgB
  go_loopw [16] (fun vi wr => ∃ k : Nat, k ≤ n ∧ vi = .int .i64 (k : Int) ∧ Hid (BlksI w gB n ((framedL label (us.map Ux.pair)).take k) wr)) (fun vi _ => n - (intOf vi).toNat)
  case atStart => exact ⟨0, Nat.zero_le _, rfl, HI0⟩
  case round =>
    obtain ⟨k, hk, rfl, HI⟩ := hrel
    by_cases hlt : k < n
    · have e0 : decide (k < n) = true := decide_eq_true hlt
      have hlt' : k < us.length := by rw [← HN.out]; exact hlt
      obtain ⟨b, off, rfl, -, hc⟩ := (HR.out.old HI.out.bel).at_ hlt'
      have hux := HU.out _ (List.getElem_mem hlt')
      have hokk := HOK.out k hlt'
      have hfk : (framedL label (us.map Ux.pair)).take (k + 1) = (framedL label (us.map Ux.pair)).take k ++ [Fm.blk ⟨us[k].kind, label, (k : Int), us[k].s⟩] := by
        rw [List.take_succ_eq_append_getElem (by rw [HFL.out]; exact hlt), framedL_at (by rw [List.length_map]; exact hlt')]
        simp [Ux.pair]
      obtain ⟨⟨uk, s, uA, uC⟩, hu⟩ : ∃ u, u = us[k] := ⟨_, rfl⟩
      rw [← hu] at hc hux hokk hfk
      dsimp only at hokk hfk
      obtain ⟨m, hm'⟩ : ∃ m, m = s.length := ⟨_, rfl⟩
      have c0 : wr.cell? ⟨b, off + k * 4, none⟩ = some (.int .i64 uk) := hc 0 _ rfl
      have c1 : wr.cell? ⟨b, off + k * 4 + 1, none⟩ = some (.int .i64 0) := hc 1 _ rfl
      have c2 : wr.cell? ⟨b, off + k * 4 + 2, none⟩ = some (.int .i64 0) := hc 2 _ rfl
      have c3 : wr.cell? ⟨b, off + k * 4 + 3, none⟩ = some (.slice uA m uC) := by rw [hm']; exact hc 3 _ rfl
      obtain ⟨wb, hwb⟩ : ∃ wb, wb = wr.alloc (unitObj uk label (k : Int) uA m uC) := ⟨_, rfl⟩
      have hbb : Below wr.heap.size wr wb := by rw [hwb]; exact (Below.refl _ _).alloc (Nat.le_refl _) _
      have HIB := Lib.hid (HI.out.old hbb)
      have hput := framePut_any uk label (k : Int) uA s m uC (fun _ => True) wb hm' (by rw [hm']; exact hux.nil) ((hux.rd.old HI.out.bel).old hbb)
      unfold PutU at hput
      rw [Fm.err_ok hokk, Fm.put_ok hokk] at hput
      obtain ⟨bl, hbl⟩ : ∃ bl, bl = Fm.blk ⟨uk, label, (k : Int), s⟩ := ⟨_, rfl⟩
      rw [← hbl] at hput hfk
      have HP := Lib.hid hput
      have HFK := Lib.hid hfk
      have HKL : Hid (k = ((framedL label (us.map Ux.pair)).take k).length) := Lib.hid (by rw [List.length_take, HFL.out]; omega)
      have HWB := Lib.hid hwb
      unfold unitObj at HWB
      clear hu hc hux hokk hfk hm' hwb hbb hput hbl
      have hlo : gB < wr.heap.size := by
        obtain ⟨V, hV, _⟩ := HI.out.row
        exact hV.lt
      have hlo2 : wr.heap.size ≤ wb.heap.size := by rw [HWB.out]; simp
      go_wp2_with fail
      rw [← HWB.out]
      refine HP.out.mono ?_
      rintro e w2 ⟨A2, m2, C2, rfl, hm2, hc2, -, hA2, hr2, hb2⟩
      have hI2 := HIB.out.old hb2
      obtain ⟨cv, d0, d1⟩ := hI2.cell hlt
      have hset := hI2.set HKL.out (s := bl) (A := A2) (C := C2) (by rw [← hm2]; exact hc2) (fun e => by rw [← hm2]; exact hA2 e) (hr2.mono fun x hx => by
        have h1 : wb.heap.size ≤ x := hx
        have h2 := HI.out.bel.size
        omega)
      rw [← HFK.out, ← hm2] at hset
      have HSET := Lib.hid hset
      clear hI2 hset hm2 hc2 hA2 hr2 hb2 c0 c1 c2 c3
      go_wp2
      go_roundw
      case rel => exact ⟨k + 1, by omega, by go_num, HSET⟩
      case measure => simp [intOf]; omega
    · have e0 : decide (k < n) = false := decide_eq_false hlt
      have hI := HI.out
      rw [List.take_of_length_le (by rw [HFL.out]; omega)] at hI
      have HIE := Lib.hid hI
      clear hI
      go_wp2
      go_ret2
      exact ⟨some ⟨gB, 0, none⟩, n, by rw [HFL.out]; rfl, by rw [HFL.out]; exact Nat.le_refl _, by unfold maxLen; omega, (fun e => by cases e), HIE.out.rdB (by rw [HFL.out]; exact Nat.le_refl _), HIE.out.bel⟩
end Go.Proofs.Ytmfikihcoafekaa
