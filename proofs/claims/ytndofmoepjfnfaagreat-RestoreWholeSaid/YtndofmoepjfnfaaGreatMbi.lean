/- What the document's own File answers: the steps that lay a file. -/
import Derived.Test.YtndofmoepjfnfaaGreatMaj
import Derived.Test.YtndofmoepjfnfaaGreatMbf
import Derived.Test.YtndofmoepjfnfaaGreatMbg
import Derived.Test.YtndofmoepjfnfaaGreatMbh
import Derived.Test.YtndofmoepjfnfaaGreatMan
import Derived.Test.YtndofmoepjfnfaaGreatMbd
import Derived.Lib.SmallJoins
import Derived.Deep.RegionHeld3
import Derived.Deep.RegionLaw
import Derived.Deep.DeepFit
import Derived.Deep.DeepCutAuto
import Derived.BigQuiet
import Derived.Deep.QuietTactic
namespace Go.Proofs.YtndofmoepjfnfaaGreat
open Go.RowKit
open Pt (Tx)

/-- what File answers -/
def FileZ (l : List (Int × Tx)) (er : Int) (w : World) (e : Ending) (w' : World) : Prop := ∃ v, e = .returned (.tuple #[v, .int .i64 er]) ∧ StO w.heap.size v l w' ∧ Below w.heap.size w w'
def pieceObj (t f l : Int) : Obj := .cells #[.int .i64 t, .int .i64 f, .int .i64 l] 62
theorem piece3 {w : World} {B : Nat} {t f l : Int} (h : w.heap[B]? = some (pieceObj t f l)) : w.cell? ⟨B, 0, none⟩ = some (.int .i64 t) ∧ w.cell? ⟨B, 1, none⟩ = some (.int .i64 f) ∧ w.cell? ⟨B, 2, none⟩ = some (.int .i64 l) := ⟨heap_cell h, heap_cell h, heap_cell h⟩
theorem head_set6 {w : World} {B : Nat} {p : Tx} {v z f l s m : Int} {g : Bool} (h : w.heap[B]? = some (headObj p v z f l s m g)) (x : Int) : (w.setCell ⟨B, 6, none⟩ (.int .i64 x)).heap[B]? = some (headObj p v z f l s x g) := by
  rw [heap_set h]; rfl
theorem head_set3 {w : World} {B : Nat} {p : Tx} {v z f l s m : Int} {g : Bool} (h : w.heap[B]? = some (headObj p v z f l s m g)) (x : Int) : (w.setCell ⟨B, 3, none⟩ (.int .i64 x)).heap[B]? = some (headObj p v z x l s m g) := by
  rw [heap_set h]; rfl
theorem head_set4 {w : World} {B : Nat} {p : Tx} {v z f l s m : Int} {g : Bool} (h : w.heap[B]? = some (headObj p v z f l s m g)) (x : Int) : (w.setCell ⟨B, 4, none⟩ (.int .i64 x)).heap[B]? = some (headObj p v z f x s m g) := by
  rw [heap_set h]; rfl
/-- a store into a head leaves steps as they are -/
theorem StO.head {B : Nat} {v : Value} {l : List (Int × Tx)} {x : World} {H : Nat} {c : Array Value} (h : StO B v l x) (hH : x.heap[H]? = some (.cells c 30 (0, 0))) (j : Nat) (u : Value) : StO B v l (x.setCell ⟨H, j, none⟩ u) :=
  h.kp (Kp.store x H j u) fun k c' t hk hc => by
    subst hk
    rw [hH] at hc
    cases hc
    exact ⟨by decide, by decide⟩
/-- the part of a row of bytes -/
def cutA (A : Option Addr) (C f : Nat) : Option Addr := if C = f then A else A.map (·.add (f * 1))
theorem slice_part (A : Option Addr) (L C f m : Nat) (h : f + m ≤ C) (y : World) : (Instr.sliceAt 22 (.slice A L C) (some (.int .i64 (f : Int))) (some (.int .i64 ((f : Int) + (m : Int)))) none).run Tryz.prog y = .ok (.slice (cutA A C f) m (C - f)) y := by
  have h1 : ((f : Int) + (m : Int)).toNat = f + m := by omega
  rw [run_sliceAt_slice (P := Tryz.prog) y _ _ _ _ _ (by kernel_rfl), run_slice_lh (P := Tryz.prog) y _ A L C (by kernel_rfl) .i64 .i64 (f : Int) ((f : Int) + (m : Int)) (by omega) (by omega) (by omega)]
  have h2 : (sizeOf (Tryz.prog.elem 22)).run Tryz.prog y = .ok 1 y := by
    have : Tryz.prog.elem 22 = 5 := by kernel_rfl
    rw [this]
    simp [go_sem]
  rw [h2]
  show Result.ok (sliced A (f : Int).toNat ((f : Int) + (m : Int)).toNat C 1) y = _
  unfold sliced cutA
  rw [h1, Int.toNat_natCast, Nat.add_sub_cancel_left]
theorem cutA_rd {w : World} {A : Option Addr} {b : Tx} {C f m : Nat} {G : Nat → Prop} (h : RdL w A b G) (hC : f + m ≤ b.length) (hL : b.length ≤ C) : RdL w (cutA A C f) ((b.drop f).take m) G := fun hn => by
  have hm : 0 < m := by rw [List.length_take] at hn; omega
  obtain ⟨g, off, e, hg, hc⟩ := h (by omega)
  subst e
  refine ⟨g, off + f, ?_, hg, fun j hj => ?_⟩
  · unfold cutA
    rw [if_neg (by omega)]
    show some ((⟨g, off, none⟩ : Addr).add (f * 1)) = _
    rw [addr_add, Nat.mul_one]
  · rw [List.length_take, List.length_drop] at hj
    have := hc (f + j) (by omega)
    rw [show off + f + j = off + (f + j) by omega, this, List.getElem_take, List.getElem_drop]
/-- the cell of one row -/
theorem topB_cell {w : World} {B : Nat} {G : Nat → Prop} {A : Option Addr} {n C : Nat} {us : List Value} {bs : List Tx} (h : TopB w B G (.slice A n C) us bs) {bb ob : Nat} (hA : A = some ⟨bb, ob, none⟩) {k : Nat} (hk : k < us.length) (_hk' : k < bs.length) : w.cell? ⟨bb, ob + k, none⟩ = some us[k] := by
  rcases h.top.2 with ⟨e, h0⟩ | ⟨g, cap, cur, e, hb, hg, hnc, _, hs, ht⟩
  · omega
  · injection e with e1 e2 e3
    rw [hA] at e1
    cases e1
    obtain ⟨u, hu⟩ : ∃ u, us[k] = u := ⟨_, rfl⟩
    have hx : us[k]? = some u := by rw [List.getElem?_eq_getElem hk, hu]
    rw [hu]
    rw [← ht, List.getElem?_take, if_pos (by omega), Array.getElem?_toList] at hx
    rw [Nat.zero_add, heap_cell hg, hx]
theorem encZ_in {w : World} {A : Option Addr} {l : List Sp.P} {G : Nat → Prop} (h : encZ.Rd w A l G) : encZ.Rd w A l (fun b => G b ∧ b < w.heap.size) := fun hn => by
  obtain ⟨b, off, e, hg, hc⟩ := h hn
  exact ⟨b, off, e, ⟨hg, World.block_lt_of_cell? _ _ (hc 0 hn 0 _ rfl)⟩, hc⟩
theorem StO.lower {B B' : Nat} {v : Value} {l : List (Int × Tx)} {x : World} (h : StO B v l x) (hB : B' ≤ B) : StO B' v l x := by
  obtain ⟨svs, h1, h2, h3⟩ := h.ex
  refine ⟨⟨svs, ?_, h2, fun i hi hi' => ⟨(h3 i hi hi').tape, (h3 i hi hi').n, (h3 i hi hi').own.lower hB⟩⟩⟩
  refine ⟨h1.1, ?_⟩
  rcases h1.2 with h | ⟨g, cap, cur, e, hb, r⟩
  · exact .inl h
  · exact .inr ⟨g, cap, cur, e, Nat.le_trans hB hb, r⟩
theorem one_byte (w : World) : RdL (w.alloc (.cells #[.int .u8 68] 5 (1, 2))) (some ⟨w.heap.size, 0, none⟩) [68] (fun _ => True) := fun _ => by
  refine ⟨w.heap.size, 0, rfl, trivial, fun j hj => ?_⟩
  have h0 : j = 0 := by simpa using hj
  subst h0
  rw [heap_cell (Go.Deep.blk_alloc_new _ _)]; rfl
set_option maxRecDepth 100000 in
set_option maxHeartbeats 16000000 in
theorem refFile_any (ts : List St.T) (xs : List Sx) (A1 : Option Addr) (n1 C1 : Nat) (A2 : Option Addr) (n2 C2 : Nat) (G1 G2 G3 : Nat → Prop) (path : Tx) (v z f0 l0 s m0 : Int) (g : Bool) (A : Option Addr) (b : Tx) (L C : Nat) (w : World) (h1 : n1 = ts.length) (hr1 : RdT w A1 ts G1) (hm1 : n1 ≤ 1000) (h2 : n2 = xs.length) (hm2 : n2 ≤ 1000) (hr2 : encX.Rd w A2 xs G2) (hok : ∀ x ∈ xs, x.Ok w (fun _ => True) ∧ x.s.labels.length ≤ 1000)
    (hb1 : ∀ t ∈ ts, t.blocks.length ≤ 1000 ∧ (∀ s ∈ t.blocks, s.length ≤ 1000) ∧ -1000000000 ≤ t.cap ∧ t.cap ≤ 1000000000)
    (hL : L = b.length) (hL4 : L ≤ 4000) (hC : L ≤ C) (hCm : C ≤ maxLen) (hrb : RdL w A b G3) (hz : z = (L : Int)) (hp : path.length ≤ maxLen) (hpl : Rs.errR (Wr.rooms ts (xs.map Sx.s)) (L : Int) = 0 → ∀ p ∈ Rs.planR (Wr.rooms ts (xs.map Sx.s)) (L : Int), Wr.Ok ts ⟨path, v, z, f0, l0, s, m0, g⟩ b p) :
    Calls Tryz.prog 5 #[.slice A1 n1 C1, .slice A2 n2 C2, .agg #[.string (tx path), .int .i64 v, .int .i64 z, .int .i64 f0, .int .i64 l0, .int .i64 s, .int .i64 m0, .bool g], .slice A L C] w (FileZ (if Rs.errR (Wr.rooms ts (xs.map Sx.s)) (L : Int) = 0 then Wr.steps ts ⟨path, v, z, f0, l0, s, m0, g⟩ b (Rs.planR (Wr.rooms ts (xs.map Sx.s)) (L : Int)) else []) (Rs.errR (Wr.rooms ts (xs.map Sx.s)) (L : Int)) w) := by
  subst hz
  obtain ⟨wa, hwa⟩ : ∃ wa, wa = w.alloc (headObj path v (L : Int) f0 l0 s m0 g) := ⟨_, rfl⟩
  have hB : Below w.heap.size w wa := by rw [hwa]; exact (Below.refl _ _).alloc (Nat.le_refl _) _
  have hH : wa.heap[w.heap.size]? = some (headObj path v (L : Int) f0 l0 s m0 g) := by rw [hwa]; exact Go.Deep.blk_alloc_new _ _
  obtain ⟨rooms, hrooms⟩ : ∃ rooms, rooms = Wr.rooms ts (xs.map Sx.s) := ⟨_, rfl⟩
  have hrl : rooms.length = n1 := by rw [hrooms, Wr.rooms_len, h1]
  have hRC : ∀ y, Below w.heap.size w y → Calls Tryz.prog 12 #[.slice A1 n1 C1, .slice A2 n2 C2] y (NumZ rooms y) := fun y hy => by
    rw [hrooms]
    exact refRooms_any ts xs A1 n1 C1 A2 n2 C2 G1 G2 y h1 (hr1.old hy) (by omega) h2 hm2 (hr2.old hy) (fun x hx => ⟨(hok x hx).1.old hy, (hok x hx).2⟩) (fun t ht => ⟨by have := (hb1 t ht).1; omega, (hb1 t ht).2⟩)
  rw [← hrooms] at hpl ⊢
  obtain ⟨plan, hplan⟩ : ∃ plan, plan = Rs.planR rooms (L : Int) := ⟨_, rfl⟩
  obtain ⟨er, her⟩ : ∃ er, er = Rs.errR rooms (L : Int) := ⟨_, rfl⟩
  have hpn : plan.length ≤ n1 + 1 := by
    have := Wr.plan_len rooms (L : Int)
    rw [hplan]; omega
  have hPC : ∀ (y : World) (A' : Option Addr) (C' : Nat) (G : Nat → Prop), RdZ y A' rooms G → Calls Tryz.prog 11 #[.slice A' rooms.length C', .int .i64 (L : Int)] y (PlanZ plan er y) := fun y A' C' G hy => by
    rw [hplan, her]
    exact refPlan_any rooms L A' rooms.length C' G y rfl (by omega) (by omega) hy
  rw [← hplan] at hpl ⊢
  rw [← her] at hpl ⊢
  obtain ⟨res, hres⟩ : ∃ res, res = if er = 0 then Wr.steps ts ⟨path, v, (L : Int), f0, l0, s, m0, g⟩ b plan else [] := ⟨_, rfl⟩
  rw [← hres]
  have HRES := Lib.hid hres
  have HRC := Lib.hid hRC
  have HPC := Lib.hid hPC
  have HPL := Lib.hid hpl
  have HB := Lib.hid hB
  have HH := Lib.hid hH
  have HR1 := Lib.hid hr1
  have HL1 := Lib.hid h1
  have HB1 := Lib.hid hb1
  have HLB := Lib.hid hL
  have HRB := Lib.hid hrb
  have HPT := Lib.hid hp
  have HRL := Lib.hid hrl
  have HW : Hid (wa = w.alloc (.cells #[.string (tx path), .int .i64 v, .int .i64 (L : Int), .int .i64 f0, .int .i64 l0, .int .i64 s, .int .i64 m0, .bool g] 30)) := Lib.hid hwa
  clear hRC hPC hpl hB hH hr1 h1 hb1 hL hrb hp hrl hwa hrooms hplan her hok hr2 h2 hres
  go_enter Tryz.func5, Tryz.ntmps5
  go_wp2_with fail
  rw [← HW.out]
  refine (HRC.out wa HB.out).mono ?_
  rintro e w1 ⟨Ar, Cr, rfl, -, -, -, hrr, hb⟩
  have HB1' := Lib.hid (HB.out.trans (hb.mono HB.out.size))
  have HH1 := Lib.hid (below_head hb HH.out)
  have hcall := HPC.out w1 Ar Cr _ hrr
  have HC := Lib.hid hcall
  clear hcall hrr hb
  go_wp2_with fail
  refine HC.out.mono ?_
  rintro e w2 ⟨Ap, Cp, rfl, hp1, hp2, -, hrp, hb⟩
  have HB2 := Lib.hid (HB1'.out.trans (hb.mono HB1'.out.size))
  have HH2 := Lib.hid (below_head hb HH1.out)
  have HRP := Lib.hid hrp
  clear hrp hb HC
  by_cases he0 : er = 0
  · subst he0
    replace HPL := Lib.hid (HPL.out rfl)
    have HRE : Hid (res = Wr.steps ts ⟨path, v, (L : Int), f0, l0, s, m0, g⟩ b plan) := Lib.hid (by rw [HRES.out, if_pos rfl])
    clear HRES
    obtain ⟨np, hnp⟩ : ∃ np, np = plan.length := ⟨_, rfl⟩
    rw [← hnp] at hp1 hpn ⊢
    have HNP := Lib.hid hnp
    clear hnp
    obtain ⟨a0, a1, a2, a3, a4, a5, a6, a7⟩ := head8 HH2.out
    have y6 := head_frz HH2.out 6
    have hw4 : IntKind.i64.wrap (sumL b) = sumL b := by
      have := sumL_lo b
      have := sumL_hi b
      rw [IntKind.wrap_i64]; omega
    go_upto_region 7 with (go_at_call 13; refine (refSumL_any A b L C _ w2 HLB.out (by rw [← HLB.out]; unfold maxLen; omega) (HRB.out.old HB2.out)).mono ?_; rintro e w9 ⟨rfl, hw⟩; subst hw)
    obtain ⟨sm, hsm⟩ : ∃ sm, sm = sumL b := ⟨_, rfl⟩
    obtain ⟨w3, hw3⟩ : ∃ w3, w3 = w2.setCell ⟨w.heap.size, 6, none⟩ (.int .i64 sm) := ⟨_, rfl⟩
    have HB3 : Hid (Below w.heap.size w w3) := Lib.hid (by rw [hw3]; exact HB2.out.setCell (Nat.le_refl _) _)
    have HH3 : Hid (w3.heap[w.heap.size]? = some (headObj path v (L : Int) f0 l0 s sm g)) := Lib.hid (by rw [hw3]; exact head_set6 HH2.out sm)
    have HRP3 : Hid (encZ.Rd w3 Ap plan (fun x => w.heap.size < x ∧ x < w3.heap.size)) := Lib.hid (by
      have hx : encZ.Rd w3 Ap plan (fun x => w.heap.size < x) := by
        rw [hw3]
        refine (HRP.out.kp (Kp.store w2 w.heap.size 6 _) (fun x hx e => ?_)).mono fun x hx => ?_
        · have := heap_lt HH1.out
          omega
        · have := heap_lt HH1.out
          omega
      exact encZ_in hx)
    rw [← hsm, ← hw3]
    have HSM := Lib.hid hsm
    clear hsm hw3 a0 a1 a2 a3 a4 a5 a6 a7 y6 hw4 HRP HRC HPC HB HH HB1' HH1
    go_wp2
    go_loopw [13, 12] (fun vi vo wr => ∃ (i : Nat) (done : List (Int × Tx)) (f l : Int), i ≤ np ∧ vi = .int .i64 (i : Int) ∧ done.length ≤ i * 1003 ∧ Hid (done = Wr.steps ts ⟨path, v, (L : Int), f0, l0, s, m0, g⟩ b (plan.take i)) ∧ Hid (StO w3.heap.size vo done wr) ∧ Hid (wr.heap[w.heap.size]? = some (headObj path v (L : Int) f l s sm g)) ∧ Hid (encZ.Rd wr Ap plan (fun x => w.heap.size < x ∧ x < w3.heap.size)) ∧ Hid (Below w.heap.size w wr) ∧ w3.heap.size ≤ wr.heap.size) (fun vi _ _ => np - (intOf vi).toNat)
    case atStart => exact ⟨0, [], f0, l0, by omega, rfl, by simp, Lib.hid rfl, Lib.hid (StO.start _ _), HH3, HRP3, HB3, Nat.le_refl _⟩
    case round =>
      have HH3O := HH3
      clear HB3 HH3 HRP3
      obtain ⟨i, done, f, l, hi, rfl, hdl, HD, HO, HH, HRP, HB, hw3l⟩ := hrel
      obtain ⟨wo, rfl⟩ : ∃ x, x = wr := ⟨wr, rfl⟩
      by_cases hlt : i < np
      · have hltP : i < plan.length := by rw [← HNP.out]; exact hlt
        have hpok := HPL.out plan[i] (List.getElem_mem hltP)
        obtain ⟨pb, po, rfl, -, hpc⟩ := HRP.out.at_ hltP
        have hnext := Wr.steps_take (ts := ts) (h := ⟨path, v, (L : Int), f0, l0, s, m0, g⟩) (b := b) hltP
        obtain ⟨⟨pt, pf, pl⟩, hpp⟩ : ∃ p, p = plan[i] := ⟨_, rfl⟩
        rw [← hpp] at hpok hpc hnext
        have p0 := hpc 0 _ rfl
        have p1 := hpc 1 _ rfl
        have p2 := hpc 2 _ rfl
        have q0 : wo.cell? ⟨pb, po + i * 3, none⟩ = some (.int .i64 (pt : Int)) := p0
        have q1 : wo.cell? ⟨pb, po + i * 3 + 1, none⟩ = some (.int .i64 pf) := p1
        have q2 : wo.cell? ⟨pb, po + i * 3 + 2, none⟩ = some (.int .i64 pl) := p2
        have hptl : pt < ts.length := hpok.lt
        have hpf := hpok.from0
        have hpl0 := hpok.len0
        have hpfit := hpok.fits
        have hslc := Wr.slc_len hpok
        dsimp only at hpf hpl0 hpfit hslc
        obtain ⟨F, rfl⟩ : ∃ F : Nat, pf = (F : Int) := ⟨pf.toNat, by omega⟩
        obtain ⟨M, rfl⟩ : ∃ M : Nat, pl = (M : Int) := ⟨pl.toNat, by omega⟩
        obtain ⟨tb, toff, At, Ct, rfl, -, c0, c1, c2, c3, hrT⟩ := (HR1.out.old HB.out).at_ hptl
        have hbl := HB1.out ts[pt] (List.getElem_mem hptl)
        have hright := hpok.right ts[pt] (List.getElem?_eq_getElem hptl)
        have hlay := Wr.lay_at (ts := ts) (h := ⟨path, v, (L : Int), f0, l0, s, m0, g⟩) (b := b) (p := ⟨pt, (F : Int), (M : Int)⟩) (List.getElem?_eq_getElem hptl)
        obtain ⟨lab, cap, bs, lost, ht⟩ : ∃ lab cap bs lost, ts[pt] = ⟨lab, cap, bs, lost⟩ := ⟨_, _, _, _, rfl⟩
        rw [ht] at c0 c1 c2 c3 hrT hbl hright hlay
        dsimp only at c0 c1 c2 c3 hrT hbl hright
        rw [hlay, ← HD.out] at hnext
        dsimp only at hnext
        obtain ⟨N, hN⟩ : ∃ N, N = bs.length := ⟨_, rfl⟩
        rw [← hN] at c2 hbl
        have hN1 := hbl.1
        obtain ⟨at_, hat⟩ : ∃ at_, at_ = Wr.at_ ⟨lab, cap, bs, lost⟩ := ⟨_, rfl⟩
        have hatv : at_ = if N = 0 then 1 else (N : Int) := by rw [hat]; unfold Wr.at_; dsimp only; rw [← hN]
        have hhead : Wr.head ⟨lab, cap, bs, lost⟩ pt = if N = 0 then [((pt : Int), Fm.blk (Vo.first lab [68]))] else [] := by unfold Wr.head; dsimp only; rw [← hN]
        rw [← hat] at hnext hright
        have hlabr : 1 ≤ lab ∧ lab ≤ 2147483647 := hright.2.1
        obtain ⟨sl, hsl⟩ : ∃ sl, sl = Wr.slc b ⟨pt, (F : Int), (M : Int)⟩ := ⟨_, rfl⟩
        have hslb : sl = (b.drop F).take M := by rw [hsl]; unfold Wr.slc; simp
        rw [← hsl] at hnext hright hslc
        have hhd : Wr.hdOf ⟨path, v, (L : Int), f0, l0, s, m0, g⟩ b ⟨pt, (F : Int), (M : Int)⟩ = ⟨path, v, (L : Int), (F : Int), (M : Int), s, sm, g⟩ := by unfold Wr.hdOf; rw [HSM.out]
        rw [hhd] at hnext hright
        obtain ⟨blks, hblks⟩ : ∃ blks, blks = Vo.put lab at_ ⟨path, v, (L : Int), (F : Int), (M : Int), s, sm, g⟩ sl := ⟨_, rfl⟩
        have hbln : blks.length ≤ 66 := by
          rw [hblks, Vo.put_len hright]
          have := HLB.out
          unfold Vo.data; omega
        have hbe : Vo.err lab at_ ⟨path, v, (L : Int), (F : Int), (M : Int), s, sm, g⟩ sl = 0 := Vo.err_yes hright
        rw [← hblks] at hnext
        have hFM : F + M ≤ b.length := by omega
        have HBC : Hid (∀ y, Below w.heap.size w y → Calls Tryz.prog 15 #[.int .i64 lab, .int .i64 at_, .agg #[.string (tx path), .int .i64 v, .int .i64 (L : Int), .int .i64 (F : Int), .int .i64 (M : Int), .int .i64 s, .int .i64 sm, .bool g], .slice (cutA A C F) M (C - F)] y fun e w' => ∃ v us, e = .returned (.tuple #[v, .int .i64 0]) ∧ TopB w' y.heap.size (y.heap.size ≤ ·) v us blks ∧ Below y.heap.size y w') := Lib.hid fun y hy => by
          have := refBlocks_any lab at_ path v (L : Int) (F : Int) (M : Int) s sm g (cutA A C F) sl M (C - F) G3 y HPT.out (by omega) (by have := HLB.out; omega) (by omega) (by rw [hslb]; exact cutA_rd (HRB.out.old hy) hFM (by rw [← HLB.out]; exact hC)) (by have := hright.2.2; omega)
          refine this.mono ?_
          rintro e w' ⟨v', us, rfl, hT, hb⟩
          rw [← hblks] at hT
          exact ⟨v', us, by rw [hbe], hT, hb⟩
        have HPF : Hid (∀ (y : World) (Ad : Option Addr) (Cd : Nat), RdL y Ad [68] (fun _ => True) → (Ad = none → 1 = 0 ∧ Cd = 0) → Calls Tryz.prog 14 #[.agg #[.int .i64 1, .int .i64 lab, .int .i64 0, .slice Ad 1 Cd]] y fun e w' => ∃ A n C, e = .returned (.tuple #[.slice A n C, .int .i64 0]) ∧ n = (Fm.blk (Vo.first lab [68])).length ∧ OwnL w' y.heap.size (.slice A n C) (Fm.blk (Vo.first lab [68])) ∧ Below y.heap.size y w') := Lib.hid fun y Ad Cd hd hn => by
          have hf := Vo.first_ok (lab := lab) (l := [68]) hlabr (by decide)
          refine (refPut_own 1 lab 0 Ad [68] 1 Cd _ y rfl hn hd).mono ?_
          rintro e w' ⟨A', n', C', rfl, ho, hb⟩
          have e1 : Fm.err ⟨1, lab, 0, [68]⟩ = 0 := Fm.err_ok hf
          have e2 : Fm.put ⟨1, lab, 0, [68]⟩ = Fm.blk (Vo.first lab [68]) := Fm.put_ok hf
          rw [e2] at ho
          obtain ⟨A2, C2, hv2, -⟩ := ho.rd
          injection hv2 with x1 x2 x3
          exact ⟨A', n', C', by rw [e1], x2, ho, hb⟩
        obtain ⟨wP, hwP⟩ : ∃ wP, wP = wo.alloc (pieceObj (pt : Int) (F : Int) (M : Int)) := ⟨_, rfl⟩
        obtain ⟨w4, hw4⟩ : ∃ w4, w4 = wP.alloc (tapeObj lab cap At N Ct lost) := ⟨_, rfl⟩
        have hBP : Below wo.heap.size wo wP := by rw [hwP]; exact (Below.refl _ _).alloc (Nat.le_refl _) _
        obtain ⟨hB4, hP4, hT4⟩ := two_objs (w := wo) (wb := w4) (by rw [hw4, hwP])
        have hPS : wP.heap.size = wo.heap.size + 1 := by rw [hwP]; simp
        have hPP : wP.heap[wo.heap.size]? = some (pieceObj (pt : Int) (F : Int) (M : Int)) := by rw [hwP]; exact Go.Deep.blk_alloc_new _ _
        have HWP : Hid (wP = wo.alloc (.cells #[.int .i64 (pt : Int), .int .i64 (F : Int), .int .i64 (M : Int)] 62)) := Lib.hid hwP
        have d0 := (hBP.cell (World.block_lt_of_cell? _ _ c0)).trans c0
        have d1 := (hBP.cell (World.block_lt_of_cell? _ _ c1)).trans c1
        have d2 := (hBP.cell (World.block_lt_of_cell? _ _ c2)).trans c2
        have d3 := (hBP.cell (World.block_lt_of_cell? _ _ c3)).trans c3
        obtain ⟨s0, s1, s2⟩ := piece3 hPP
        have HW4 : Hid (w4 = wP.alloc (.cells #[.int .i64 lab, .int .i64 cap, .slice At N Ct, .bool lost] 28)) := Lib.hid hw4
        have hsz : w.heap.size < wo.heap.size := heap_lt HH.out
        have HB4 := Lib.hid (HB.out.trans (hB4.mono (Nat.le_of_lt hsz)))
        have HH4 := Lib.hid (below_head hB4 HH.out)
        have HO4 := Lib.hid (HO.out.old hB4)
        have HRP4 := Lib.hid (HRP.out.old hB4)
        have HP4 := Lib.hid hP4
        have HT4 := Lib.hid hT4
        have HNEXT := Lib.hid hnext
        have HHD := Lib.hid hhead
        have HATV := Lib.hid hatv
        have hlabI : 1 ≤ lab := hlabr.1
        obtain ⟨r0, r1, r2⟩ := piece3 hP4
        obtain ⟨t0, t1, t2, t3⟩ := tape4 hT4
        have dptn : pt < n1 := by rw [HL1.out]; exact hptl
        have HPS := Lib.hid hPS
        clear hPS hPP hwP hBP c0 c1 c2 c3
        clear hnext hhead hatv hw4 hB4 hP4 hT4 hright hbe hblks hhd hslb hsl hslc hlay ht hrT hbl hN hat hpok hpc p0 p1 p2 hpp hltP hlabr
        go_upto_region 12 with fail
        rw [← HWP.out]
        clear q0 q1 q2
        go_upto_region 13 with fail
        rw [← HW4.out, HPS.out]
        clear d0 d1 d2 d3 s0 s1 s2
        go_upto_if 62 with fail
        obtain ⟨svs, hown, hlen, hone⟩ := HO4.out.ex
        have HOWN := Lib.hid hown
        have HLEN := Lib.hid hlen
        have HONE := Lib.hid hone
        have hw4l : w3.heap.size ≤ w4.heap.size := Nat.le_trans hw3l (by rw [HW4.out]; simp; have := HPS.out; omega)
        have hw4s : w4.heap.size = wo.heap.size + 2 := by rw [HW4.out]; simp; have := HPS.out; omega
        have HW4S := Lib.hid hw4s
        obtain ⟨hdl2, hhdl2⟩ : ∃ k, k = (Wr.head ⟨lab, cap, bs, lost⟩ pt) := ⟨_, rfl⟩
        rw [← hhdl2] at HNEXT HHD
        have hhl : hdl2.length ≤ 1 := by rw [HHD.out]; split <;> simp
        have hsl4 : svs.length ≤ 1003000 * 1003 := by rw [HLEN.out]; omega
        have h3l : w.heap.size < w3.heap.size := heap_lt HH3O.out
        clear hown hlen hone hw4s hhdl2
        go_cut [12, 16] (fun vo va wx => va = .int .i64 at_ ∧ Hid (StO w3.heap.size vo (done ++ hdl2) wx) ∧ Hid (wx.heap[w.heap.size]? = some (headObj path v (L : Int) f l s sm g)) ∧ Hid (wx.heap[wo.heap.size]? = some (pieceObj (pt : Int) (F : Int) (M : Int))) ∧ Hid (wx.heap[wo.heap.size + 1]? = some (tapeObj lab cap At N Ct lost)) ∧ Hid (encZ.Rd wx (some ⟨pb, po, none⟩) plan (fun x => w.heap.size < x ∧ x < w3.heap.size)) ∧ Hid (Below w.heap.size w wx) ∧ w4.heap.size ≤ wx.heap.size)
        case first =>
          by_cases hN0 : N = 0
          · have dz : ((N : Int) == 0) = true := by rw [beq_iff_eq]; omega
            have HAT1 : Hid (at_ = 1) := Lib.hid (by rw [HATV.out, if_pos hN0])
            have HH2 : Hid (hdl2 = [((pt : Int), Fm.blk (Vo.first lab [68]))]) := Lib.hid (by rw [HHD.out, if_pos hN0])
            clear hN0
            have kc := Go.Joins.run_convert_bytes_const_at (P := Tryz.prog) w4 22 5 #[.int .u8 68] 1 1 w4.heap.size rfl Tryz.underlying22 Tryz.underlying5
            go_wp2_with (first
              | (go_at_call 14; refine (HPF.out (w4.alloc (.cells #[.int .u8 68] 5 (1, 2))) (some ⟨w4.heap.size, 0, none⟩) 1 (one_byte w4) (fun h => by cases h)).mono ?_; rintro e w6 ⟨Af, nf, Cf, rfl, hnf, hof, hbf⟩; have hb46 : Below w4.heap.size w4 w6 := ((Below.refl w4.heap.size w4).alloc (Nat.le_refl _) (.cells #[.int .u8 68] 5 (1, 2))).trans (hbf.mono (by simp)); have HB46 := Lib.hid hb46; have HOF := Lib.hid (hof.lower (B' := w3.heap.size) (by simp; omega)); have HNF := Lib.hid hnf; have hw6 := hb46.size; obtain ⟨r0, r1, r2⟩ := piece3 (below_obj' hb46 HP4.out); have HO6 := Lib.hid ((HOWN.out.old hb46).old (w' := w6.alloc (.cells #[.int .i64 (pt : Int), .slice Af nf Cf] 52)) ((Below.refl _ _).alloc (Nat.le_refl _) _)); clear hnf hof hbf hb46)
              | (at_builtin; refine wpList_append_st' encS _ rfl _ _ _ rfl w3.heap.size 52 _ 32 Tryz.underlying31 infoStep rfl _ svs rfl HO6.out ⟨w6.heap.size, 0, none⟩ 1 1 [⟨(pt : Int), Af, nf, Cf⟩] rfl rfl (newCells _ (encS.enc ⟨(pt : Int), Af, nf, Cf⟩) _) (by unfold maxLen; omega) (by omega) (by simp; omega) ?_; intro v' w7 hO7 hg7; have HO7 := Lib.hid hO7; have HG7 := Lib.hid hg7; clear hO7 hg7))
            go_meet
            have hb7 := HB46.out.alloc HB46.out.size (.cells #[.int .i64 (pt : Int), .slice Af nf Cf] 52)
            have hst := StO.push2 HOWN.out HLEN.out HONE.out hb7 HNF.out (HOF.out.alloc _) HG7.out HO7.out
            rw [← HH2.out] at hst
            obtain ⟨hk, hty, -⟩ := grown_typed HOWN.out hb7 HG7.out
            exact ⟨by rw [HAT1.out], Lib.hid hst, Lib.hid (hty _ _ _ HH4.out (by decide)), Lib.hid (hty _ _ _ HP4.out (by decide)), Lib.hid (hty _ _ _ HT4.out (by decide)), Lib.hid (HRP4.out.kp hk fun x hx e => by
              have := (HOWN.out.lt x e).1
              have := hx.2
              omega), Lib.hid (HB4.out.trans (hk.below HB4.out.size fun k e => by
              have := (HOWN.out.lt k e).1
              omega)), hk.size⟩
          · have dz : ((N : Int) == 0) = false := by rw [beq_eq_false_iff_ne]; omega
            have HAT1 : Hid (at_ = (N : Int)) := Lib.hid (by rw [HATV.out, if_neg hN0])
            have HH2 : Hid (hdl2 = []) := Lib.hid (by rw [HHD.out, if_neg hN0])
            go_wp2
            go_meet
            exact ⟨by rw [HAT1.out], Lib.hid (by rw [HH2.out, List.append_nil]; exact HO4.out), HH4, HP4, HT4, HRP4, HB4, Nat.le_refl _⟩
        case rest =>
        obtain ⟨rfl, HO7, HH7, HP7, HT7, HRP7, HB7, hw7⟩ := hcut
        obtain ⟨w7, rfl⟩ : ∃ x, x = wc := ⟨wc, rfl⟩
        clear HOWN HLEN HONE HO4 HH4 HP4 HT4 HRP4 HB4 HPF HATV r0 r1 r2 t0 t1 t2 t3 hlabI
        obtain ⟨r0, r1, r2⟩ := piece3 HP7.out
        have y3 := head_frz HH7.out 3
        have y4 := head_frz HH7.out 4
        obtain ⟨b0, b1, b2, b3, b4, b5, b6, b7⟩ := head8 HH7.out
        obtain ⟨w8, hw8⟩ : ∃ x, x = w7.setCell ⟨w.heap.size, 3, none⟩ (.int .i64 (F : Int)) := ⟨_, rfl⟩
        have hne1 : ¬ wo.heap.size = w.heap.size := by omega
        have HH8 : Hid (w8.heap[w.heap.size]? = some (headObj path v (L : Int) (F : Int) l s sm g)) := Lib.hid (by rw [hw8]; exact head_set3 HH7.out _)
        have HK8 : Hid (Kp (· = w.heap.size) w7 w8) := Lib.hid (by rw [hw8]; exact Kp.store _ _ _ _)
        have HP8 : Hid (w8.heap[wo.heap.size]? = some (pieceObj (pt : Int) (F : Int) (M : Int))) := Lib.hid ((HK8.out.block _ (heap_lt HP7.out) hne1).trans HP7.out)
        obtain ⟨w9, hw9⟩ : ∃ x, x = w8.setCell ⟨w.heap.size, 4, none⟩ (.int .i64 (M : Int)) := ⟨_, rfl⟩
        have HH9 : Hid (w9.heap[w.heap.size]? = some (headObj path v (L : Int) (F : Int) (M : Int) s sm g)) := Lib.hid (by rw [hw9]; exact head_set4 HH8.out _)
        have HK9 : Hid (Kp (· = w.heap.size) w7 w9) := Lib.hid (by rw [hw9]; exact HK8.out.trans (Kp.store _ _ _ _))
        have HP9 : Hid (w9.heap[wo.heap.size]? = some (pieceObj (pt : Int) (F : Int) (M : Int))) := Lib.hid ((HK9.out.block _ (heap_lt HP7.out) hne1).trans HP7.out)
        have HT9 : Hid (w9.heap[wo.heap.size + 1]? = some (tapeObj lab cap At N Ct lost)) := Lib.hid ((HK9.out.block _ (heap_lt HT7.out) (by omega)).trans HT7.out)
        have HO9 : Hid (StO w3.heap.size u12 (done ++ hdl2) w9) := Lib.hid (HO7.out.kp HK9.out fun k c t hk hc => by
          subst hk
          rw [HH7.out] at hc
          cases hc
          exact ⟨by decide, by decide⟩)
        have HRP9 : Hid (encZ.Rd w9 (some ⟨pb, po, none⟩) plan (fun x => w.heap.size < x ∧ x < w3.heap.size)) := Lib.hid (HRP7.out.kp HK9.out fun x hx e => by have := hx.1; omega)
        have HB9 : Hid (Below w.heap.size w w9) := Lib.hid (HB7.out.trans (HK9.out.below HB7.out.size fun k hk => Nat.le_of_eq hk.symm))
        have hw9l : w4.heap.size ≤ w9.heap.size := Nat.le_trans hw7 HK9.out.size
        obtain ⟨g0, g1, g2⟩ := piece3 HP8.out
        have z4 := head_frz HH8.out 4
        obtain ⟨e0, e1, e2, e3, e4, e5, e6, e7⟩ := head8 HH8.out
        have HW8 := Lib.hid hw8
        have HW9 := Lib.hid hw9
        clear hw8 hw9 HO7 HH7 HT7 HRP7 HB7 HK8
        go_upto_region 21 with fail
        rw [← HW8.out]
        clear y3 y4 b0 b1 b2 b3 b4 b5 b6 b7 r0 r1 r2
        go_upto_region 22 with fail
        rw [← HW9.out]
        clear z4 e0 e1 e2 e3 e4 e5 e6 e7 g0 g1 g2
        have HWX : Hid (∀ y, Below w9.heap.size w9 y → y.cell? ⟨wo.heap.size + 1, 0, none⟩ = some (.int .i64 lab) ∧ y.cell? ⟨wo.heap.size, 1, none⟩ = some (.int .i64 (F : Int)) ∧ y.cell? ⟨wo.heap.size, 2, none⟩ = some (.int .i64 (M : Int)) ∧ y.cell? ⟨w.heap.size, 0, none⟩ = some (.string (tx path)) ∧ y.cell? ⟨w.heap.size, 1, none⟩ = some (.int .i64 v) ∧ y.cell? ⟨w.heap.size, 2, none⟩ = some (.int .i64 (L : Int)) ∧ y.cell? ⟨w.heap.size, 3, none⟩ = some (.int .i64 (F : Int)) ∧ y.cell? ⟨w.heap.size, 4, none⟩ = some (.int .i64 (M : Int)) ∧ y.cell? ⟨w.heap.size, 5, none⟩ = some (.int .i64 s) ∧ y.cell? ⟨w.heap.size, 6, none⟩ = some (.int .i64 sm) ∧ y.cell? ⟨w.heap.size, 7, none⟩ = some (.bool g) ∧ Below w9.heap.size w9 y) := Lib.hid fun y hy => by
          obtain ⟨t0, t1, t2, t3⟩ := tape4 (below_tape hy HT9.out)
          obtain ⟨g0, g1, g2⟩ := piece3 (below_obj' hy HP9.out)
          obtain ⟨e0, e1, e2, e3, e4, e5, e6, e7⟩ := head8 (below_head hy HH9.out)
          exact ⟨t0, g1, g2, e0, e1, e2, e3, e4, e5, e6, e7, hy⟩
        have hc0 : Below w9.heap.size w9 w9.drew := (Below.refl _ _).drew
        have hFC : F + M ≤ C := by have := HLB.out; omega
        have hsl := fun y => slice_part A L C F M hFC y
        have hwFM : IntKind.i64.wrap ((F : Int) + (M : Int)) = (F : Int) + (M : Int) := by have := HLB.out; rw [IntKind.wrap_i64]; omega
        have HBC9 : Hid (Calls Tryz.prog 15 #[.int .i64 lab, .int .i64 at_, .agg #[.string (tx path), .int .i64 v, .int .i64 (L : Int), .int .i64 (F : Int), .int .i64 (M : Int), .int .i64 s, .int .i64 sm, .bool g], .slice (cutA A C F) M (C - F)] w9.drew fun e w' => ∃ v us, e = .returned (.tuple #[v, .int .i64 0]) ∧ TopB w' w9.heap.size (w9.heap.size ≤ ·) v us blks ∧ Below w9.heap.size w9 w') := Lib.hid ((HBC.out w9.drew (HB9.out.trans (hc0.mono HB9.out.size))).mono fun e w' h => by
          obtain ⟨v', us, h1, h2, h3⟩ := h
          exact ⟨v', us, h1, h2, hc0.trans h3⟩)
        clear HBC
        go_cut [19, 20] (fun vb ve wx => ve = .int .i64 0 ∧ ∃ us, Hid (TopB wx w9.heap.size (w9.heap.size ≤ ·) vb us blks) ∧ Hid (Below w9.heap.size w9 wx))
        case first =>
          go_region_held3 (fun y => y.cell? ⟨wo.heap.size + 1, 0, none⟩ = some (.int .i64 lab) ∧ y.cell? ⟨wo.heap.size, 1, none⟩ = some (.int .i64 (F : Int)) ∧ y.cell? ⟨wo.heap.size, 2, none⟩ = some (.int .i64 (M : Int)) ∧ y.cell? ⟨w.heap.size, 0, none⟩ = some (.string (tx path)) ∧ y.cell? ⟨w.heap.size, 1, none⟩ = some (.int .i64 v) ∧ y.cell? ⟨w.heap.size, 2, none⟩ = some (.int .i64 (L : Int)) ∧ y.cell? ⟨w.heap.size, 3, none⟩ = some (.int .i64 (F : Int)) ∧ y.cell? ⟨w.heap.size, 4, none⟩ = some (.int .i64 (M : Int)) ∧ y.cell? ⟨w.heap.size, 5, none⟩ = some (.int .i64 s) ∧ y.cell? ⟨w.heap.size, 6, none⟩ = some (.int .i64 sm) ∧ y.cell? ⟨w.heap.size, 7, none⟩ = some (.bool g) ∧ Below w9.heap.size w9 y)
            (first
              | with_reducible exact HWX.out _ hcG
              | with_reducible exact HWX.out _ hc0)
            (first
              | (go_at_call 15; go_fit HBC9.out; rintro e wg ⟨vb, us, rfl, hT, hb⟩; have hcG := hb; have HTG := Lib.hid hT; clear hT hb))
          all_goals
            go_wp2
            go_meet
            exact ⟨rfl, _, HTG, Lib.hid hcG⟩
        case rest =>
        obtain ⟨rfl, usb, HTB, HBX⟩ := hcut
        obtain ⟨w10, rfl⟩ : ∃ x, x = wc := ⟨wc, rfl⟩
        clear hsl hwFM hc0 HBC9
        have hX := HBX.out
        have HPX := Lib.hid (below_obj' hX HP9.out)
        have HHX := Lib.hid (below_head hX HH9.out)
        have HOX := Lib.hid (HO9.out.old hX)
        have HRPX := Lib.hid (HRP9.out.old hX)
        have HBX0 := Lib.hid (HB9.out.trans (hX.mono HB9.out.size))
        have hw10 : w9.heap.size ≤ w10.heap.size := hX.size
        clear hX HWX HP9 HH9 HT9 HO9 HRP9
        obtain ⟨Ab, Cb, hvb, hcb1, hcb2, hcb3⟩ := HTB.out.val
        subst hvb
        obtain ⟨K, hK⟩ : ∃ K, K = blks.length := ⟨_, rfl⟩
        rw [← hK] at hbln hcb1 hcb3
        have HTB2 : Hid (TopB w10 w9.heap.size (w9.heap.size ≤ ·) (.slice Ab K Cb) usb blks) := Lib.hid (by rw [hK]; exact HTB.out)
        have HK := Lib.hid hK
        rw [← hK]
        clear hK HTB hcb3
        go_wp2
        go_loopw [21, 12] (fun vk vo wx => ∃ (k : Nat) (cur : List (Int × Tx)), k ≤ K ∧ vk = .int .i64 (k : Int) ∧ cur.length ≤ i * 1003 + 1 + k ∧ Hid (cur = (done ++ hdl2) ++ (blks.take k).map fun x => ((pt : Int), x)) ∧ Hid (StO w3.heap.size vo cur wx) ∧ Hid (wx.heap[w.heap.size]? = some (headObj path v (L : Int) (F : Int) (M : Int) s sm g)) ∧ Hid (wx.heap[wo.heap.size]? = some (pieceObj (pt : Int) (F : Int) (M : Int))) ∧ Hid (encZ.Rd wx (some ⟨pb, po, none⟩) plan (fun x => w.heap.size < x ∧ x < w3.heap.size)) ∧ Hid (TopB wx w9.heap.size (w9.heap.size ≤ ·) (.slice Ab K Cb) usb blks) ∧ Hid (Below w.heap.size w wx) ∧ w10.heap.size ≤ wx.heap.size) (fun vk _ _ => K - (intOf vk).toNat)
        case atStart => exact ⟨0, done ++ hdl2, Nat.zero_le _, rfl, by simp; omega, Lib.hid (by simp), HOX, HHX, HPX, HRPX, HTB2, HBX0, Nat.le_refl _⟩
        case round =>
          clear HOX HHX HPX HRPX HTB2 HBX0 HHD
          obtain ⟨k, cur, hk, rfl, hcl, HCUR, HO, HH, HP, HRP, HTB, HBB, hwl⟩ := hrel
          obtain ⟨r0, r1, r2⟩ := piece3 HP.out
          by_cases hltk : k < K
          · have hkB : k < blks.length := by rw [← HK.out]; exact hltk
            have hkU : k < usb.length := by rw [HTB.out.len]; exact hkB
            have hrow := HTB.out.rows k hkU hkB
            obtain ⟨bb, ob, Ak, Ck, hab, -, hck, -, -, -⟩ := (HTB.out.rdB).at_ hkB
            obtain ⟨svs, hown, hlen, hone⟩ := HO.out.ex
            have htk : (cur ++ [((pt : Int), blks[k])]) = (done ++ hdl2) ++ (blks.take (k + 1)).map fun x => ((pt : Int), x) := by
              rw [HCUR.out, List.take_succ_eq_append_getElem hkB, List.map_append, List.append_assoc]; rfl
            have huk : usb[k] = .slice Ak blks[k].length Ck := by
              have h9 := topB_cell HTB.out hab hkU hkB
              rw [hck] at h9
              exact (Option.some.inj h9).symm
            rw [huk] at hrow
            obtain ⟨sk, hsk⟩ : ∃ sk, sk = blks[k] := ⟨_, rfl⟩
            rw [← hsk] at hrow hck htk
            obtain ⟨nk, hnk⟩ : ∃ nk, nk = sk.length := ⟨_, rfl⟩
            rw [← hnk] at hrow hck
            have hbS : Below wr.heap.size wr ((wr.alloc (.cells #[.int .i64 (pt : Int), .slice Ak nk Ck] 52)).drew) := ((Below.refl _ _).alloc (Nat.le_refl _) _).drew
            have h3r : w3.heap.size ≤ wr.heap.size := by omega
            obtain ⟨v', z, hrun, hO, hg⟩ := apE_run (P := Tryz.prog) encS ((wr.alloc (.cells #[.int .i64 (pt : Int), .slice Ak nk Ck] 52)).drew) 31 w3.heap.size 52 _ 32 Tryz.underlying31 infoStep rfl u12 svs (hown.old hbS) ⟨wr.heap.size, 0, none⟩ 1 1 [⟨(pt : Int), Ak, nk, Ck⟩] rfl (newCells wr (encS.enc ⟨(pt : Int), Ak, nk, Ck⟩) _) (by rw [hlen]; unfold maxLen; omega) (by rw [hlen]; omega) (by have := hbS.size; omega)
            have hst := StO.push2 hown hlen hone hbS hnk ((hrow.lower (B' := w3.heap.size) (by omega)).alloc (.cells #[.int .i64 (pt : Int), .slice Ak nk Ck] 52)) hg hO
            obtain ⟨hkp, hty, hty2⟩ := grown_typed hown hbS hg
            rw [htk] at hst
            have HTK2 : Hid ((done ++ hdl2) ++ (blks.take (k + 1)).map (fun x => ((pt : Int), x)) = (done ++ hdl2) ++ (blks.take (k + 1)).map fun x => ((pt : Int), x)) := Lib.hid rfl
            have HST := Lib.hid hst
            have HH2 := Lib.hid (hty _ _ _ HH.out (by decide))
            have HP2 := Lib.hid (hty _ _ _ HP.out (by decide))
            have HRP2 := Lib.hid (HRP.out.kp hkp fun x hx e => by
              have := (hown.lt x e).1
              have := hx.2
              omega)
            have HTB2 := Lib.hid (HTB.out.kpT hkp (fun x c e hc => absurd (hty2 x c _ e hc) (by decide)) (fun x c e hc => absurd (hty2 x c _ e hc) (by decide)))
            have HBB2 := Lib.hid (HBB.out.trans (hkp.below HBB.out.size fun x e => by
              have := (hown.lt x e).1
              omega))
            have hzl := hkp.size
            have hc0 : wr.drew.cell? ⟨wo.heap.size, 0, none⟩ = some (.int .i64 (pt : Int)) := r0
            have hcb : wr.drew.cell? ⟨bb, ob + k, none⟩ = some (.slice Ak nk Ck) := hck
            have HRUN := Lib.hid hrun
            subst hab
            clear hown hlen hone hrun hO hg hst hkp hty hty2 hbS hrow hck huk htk hsk hnk hkU
            go_upto_region 28 with fail
            go_region_law (refine step_append_eq (by rfl) _ _ _ _ (by rfl) _ _ _ _ HRUN.out (by rfl) (by rfl) ?_)
            all_goals
              go_wp2
              go_roundw
              case rel => exact ⟨k + 1, _, by omega, by go_num, by simp; omega, Lib.hid HTK2.out, HST, HH2, HP2, HRP2, HTB2, HBB2, by omega⟩
              case measure => simp [intOf]; omega
          · have hkK : k = K := by omega
            have hcur : cur = Wr.steps ts ⟨path, v, (L : Int), f0, l0, s, m0, g⟩ b (plan.take (i + 1)) := by
              rw [HCUR.out, HNEXT.out, hkK, HK.out, List.take_length, List.append_assoc]
            have HC2 := Lib.hid hcur
            clear hcur hkK
            go_wp2
            go_roundw
            case rel => exact ⟨i + 1, cur, (F : Int), (M : Int), by omega, by go_num, by omega, HC2, HO, HH, HRP, HBB, by omega⟩
            case measure => simp [intOf]; omega
      · have hres : res = done := by rw [HRE.out, HD.out, List.take_of_length_le (by rw [← HNP.out]; omega)]
        have HRS := Lib.hid hres
        clear hres
        go_wp2
        go_ret2
        rw [HRS.out]
        exact ⟨_, rfl, HO.out.lower (Nat.le_of_lt (heap_lt HH3O.out)), HB.out⟩
  · have d0 : (er != 0) = true := by rw [bne_iff_ne]; exact he0
    have HRS : Hid (res = []) := Lib.hid (by rw [HRES.out, if_neg he0])
    clear HRES
    go_wp2
    go_ret2
    rw [HRS.out]
    exact ⟨_, rfl, StO.start _ _, HB2.out⟩
end Go.Proofs.YtndofmoepjfnfaaGreat
