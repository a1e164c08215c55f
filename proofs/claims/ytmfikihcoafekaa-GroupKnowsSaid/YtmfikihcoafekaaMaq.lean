/- One who reads: a Reader, what is made, and the answer's own block. No function of the program. What ReadSeal of package record answers. What Sealed of package volume answers: the seal that a tape ends with. -/
import Derived.Test.YtmfikihcoafekaaMam
import Derived.Test.YtmfikihcoafekaaMap
import Derived.Test.YtmfikihcoafekaaMan
import Derived.Test.YtmfikihcoafekaaMao
import Derived.IntWalk
import Derived.Deep.RegionHeld3
import Derived.Deep.DeepFit
import Derived.Test.YtmfikihcoafekaaMaj
namespace Go.Proofs.Ytmfikihcoafekaa
open Go.RowKit
open Pt (Tx)

/-- the state of one who reads: a Reader, what is made, and the answer's own block -/
structure Way (w : World) (gr hB : Nat) (s : Cd.St) (G : Nat → Prop) (o z : Obj) (x : World) : Prop where
  rr : Rr x gr s G
  hd : x.heap[hB]? = some o
  zr : x.heap[w.heap.size]? = some z
  bel : Below w.heap.size w x
  lo : w.heap.size < gr
  ne : gr < hB
  gs : ∀ b, G b → b < gr
theorem Way.red {w : World} {gr hB : Nat} {s s' : Cd.St} {G : Nat → Prop} {o z : Obj} {x y : World} (h : Way w gr hB s G o z x) (hr : Rr y gr s' G) (hk : Kp (· = gr) x y) : Way w gr hB s' G o z y := by
  have h1 : hB < x.heap.size := by obtain ⟨hlt, _⟩ := Array.getElem?_eq_some_iff.1 h.hd; exact hlt
  have h2 : w.heap.size < x.heap.size := by obtain ⟨hlt, _⟩ := Array.getElem?_eq_some_iff.1 h.zr; exact hlt
  have := h.lo
  have := h.ne
  exact ⟨hr, (hk.block _ h1 (by omega)).trans h.hd, (hk.block _ h2 (by omega)).trans h.zr, h.bel.trans (lo_g hk h.bel.size (by omega)), h.lo, h.ne, h.gs⟩
theorem Way.set {w : World} {gr hB : Nat} {s : Cd.St} {G : Nat → Prop} {z : Obj} {x : World} {cs cs' : Array Value} {t : TypeId} {fr : Nat × Nat} (h : Way w gr hB s G (.cells cs t fr) z x) (i : Nat) (v : Value) (hc : cs.setIfInBounds i v = cs') : Way w gr hB s G (.cells cs' t fr) z (x.setCell ⟨hB, i, none⟩ v) := by
  subst hc
  have hk : Kp (· = hB) x (x.setCell ⟨hB, i, none⟩ v) := Kp.store _ _ _ _
  have h2 : w.heap.size < x.heap.size := by obtain ⟨hlt, _⟩ := Array.getElem?_eq_some_iff.1 h.zr; exact hlt
  have := h.lo
  have := h.ne
  exact ⟨h.rr.kp hk (by omega) (fun b hb => by have := h.gs b hb; omega), heap_set h.hd _, (hk.block _ h2 (by omega)).trans h.zr, h.bel.trans (lo_g hk h.bel.size (by omega)), h.lo, h.ne, h.gs⟩
theorem Way.old {w : World} {gr hB : Nat} {s : Cd.St} {G : Nat → Prop} {o z : Obj} {x y : World} (h : Way w gr hB s G o z x) (hb : Below x.heap.size x y) : Way w gr hB s G o z y := by
  have h1 : hB < x.heap.size := by obtain ⟨hlt, _⟩ := Array.getElem?_eq_some_iff.1 h.hd; exact hlt
  have h2 : w.heap.size < x.heap.size := by obtain ⟨hlt, _⟩ := Array.getElem?_eq_some_iff.1 h.zr; exact hlt
  exact ⟨h.rr.kp (S := fun _ => False) (Kp.of_below hb) (fun h => h) (fun _ _ h => h), (hb.block _ h1).trans h.hd, (hb.block _ h2).trans h.zr, h.bel.trans (hb.mono h.bel.size), h.lo, h.ne, h.gs⟩
end Go.Proofs.Ytmfikihcoafekaa
namespace Go.Proofs.Ytmfikihcoafekaa
open Go.RowKit
open Pt (Tx)

/-- what ReadSeal answers -/
def GotS (b : Tx) (w : World) (e : Ending) (w' : World) : Prop :=
  ∃ A m C, e = .returned (.tuple #[.agg #[.int .i64 (Rc.sgot b).number, .int .i64 (Rc.sgot b).index, .int .i64 (Rc.sgot b).data, .int .i64 (Rc.sgot b).parity, .slice A m C], .int .i64 (Rc.sgotE b)])
    ∧ m = (Rc.sgot b).labels.length ∧ m ≤ C ∧ C ≤ maxLen ∧ (A = none → m = 0 ∧ C = 0) ∧ RdZ w' A (Rc.sgot b).labels (w.heap.size ≤ ·) ∧ Below w.heap.size w w'
theorem GotS.stored {b : Tx} {w y : World} {B : Nat} {a0 a1 a2 a3 a4 : Value} {s : Rc.S} {er : Int} {A : Option Addr} {m C : Nat} (hu : Rc.sgot b = s) (he : Rc.sgotE b = er) (hB : B = w.heap.size) (hr : RdZ y A s.labels (B < ·)) (hm : m = s.labels.length) (hc : m ≤ C) (hcm : C ≤ maxLen) (hn : A = none → m = 0 ∧ C = 0) (hb : Below w.heap.size w y) :
    GotS b w (.returned (.tuple #[.agg #[.int .i64 s.number, .int .i64 s.index, .int .i64 s.data, .int .i64 s.parity, .slice A m C], .int .i64 er])) (((((y.setCell ⟨B, 0, none⟩ a0).setCell ⟨B, 1, none⟩ a1).setCell ⟨B, 2, none⟩ a2).setCell ⟨B, 3, none⟩ a3).setCell ⟨B, 4, none⟩ a4) := by
  subst hB
  have hk : Kp (· = w.heap.size) y (((((y.setCell ⟨w.heap.size, 0, none⟩ a0).setCell ⟨w.heap.size, 1, none⟩ a1).setCell ⟨w.heap.size, 2, none⟩ a2).setCell ⟨w.heap.size, 3, none⟩ a3).setCell ⟨w.heap.size, 4, none⟩ a4) := ((((Kp.store _ _ _ _).trans (Kp.store _ _ _ _)).trans (Kp.store _ _ _ _)).trans (Kp.store _ _ _ _)).trans (Kp.store _ _ _ _)
  exact ⟨A, m, C, by rw [hu, he], by rw [hu]; exact hm, hc, hcm, hn, by rw [hu]; exact (hr.kp hk (fun x hx hx' => by omega)).mono (fun x hx => by omega), hb.trans (hk.below hb.size (fun x hx => by omega))⟩
/-- a row of the call's own is being filled -/
def Fills (lb : Nat) (l : List Int) (x : World) : Prop := x.heap[lb]? = some (.cells (cellsZ l).toArray 3 (0, 0))
theorem fill_start (w : World) (N : Nat) : Fills w.heap.size ([] ++ List.replicate N 0) (w.alloc (.cells (madeCells #[.int .i64 0] N) 3)) := by
  unfold Fills
  rw [Go.Deep.blk_alloc_new]
  congr 2
  apply Array.ext
  · simp [size_madeCells, cellsZ_len]
  · intro i h1 h2
    simp [madeCells, cellsZ, Nat.mod_one]
theorem fill_cells {k N : Nat} {done : List Int} (hk : done.length = k) (hlt : k < N) (y : Int) : (cellsZ (done ++ List.replicate (N - k) 0)).toArray.setIfInBounds k (.int .i64 y) = (cellsZ ((done ++ [y]) ++ List.replicate (N - (k + 1)) 0)).toArray := by
  have e : N - k = (N - (k + 1)) + 1 := by omega
  rw [e, List.replicate_succ, List.append_assoc]
  simp only [cellsZ_append, List.setIfInBounds_toArray, List.singleton_append]
  congr 1
  rw [List.set_append_right _ _ (by rw [cellsZ_len]; omega), cellsZ_len, hk, Nat.sub_self]
  rfl
theorem fill_get {k N : Nat} {done : List Int} (hk : done.length = k) (hlt : k < N) {lb : Nat} {x : World} (h : Fills lb (done ++ List.replicate (N - k) 0) x) : x.cell? ⟨lb, k, none⟩ = some (.int .i64 0) := by
  have e : N - k = (N - (k + 1)) + 1 := by omega
  rw [heap_cell h, List.getElem?_toArray, cellsZ_append, List.getElem?_append_right (by rw [cellsZ_len]; omega), cellsZ_len, hk, Nat.sub_self, e, List.replicate_succ]
  rfl
theorem labsP_step {n : Nat} {s : Cd.St} : Rc.labsP (n + 1) s = Cd.num (Cd.tk 4 s) :: Rc.labsP n (Cd.af 4 s) := rfl
/-- how far the labels are read -/
def Far10 (N : Nat) (s0 : Cd.St) (n : Nat) (k : Nat) (done : List Int) (s : Cd.St) : Prop := done.length = k ∧ Rc.labsP N s0 = done ++ Rc.labsP (N - k) s ∧ s.1.length ≤ n
theorem Far10.step {N n k : Nat} {s0 s : Cd.St} {done : List Int} (h : Far10 N s0 n k done s) (hk : k < N) : Far10 N s0 n (k + 1) (done ++ [Cd.num (Cd.tk 4 s)]) (Cd.af 4 s) := by
  obtain ⟨h1, h2, h3⟩ := h
  refine ⟨by simp [h1], ?_, Nat.le_trans (Cd.af_le 4 s) h3⟩
  rw [h2, show N - k = (N - (k + 1)) + 1 by omega, labsP_step, List.append_assoc]; rfl
theorem Far10.done {N n k : Nat} {s0 s : Cd.St} {done : List Int} (h : Far10 N s0 n k done s) (hk : k = N) : done = Rc.labsP N s0 := by
  rw [h.2.1, hk, Nat.sub_self]; simp [Rc.labsP]
theorem r_len (b : Tx) : (Rc.r1 b).1.length ≤ b.length ∧ (Rc.r2 b).1.length ≤ b.length ∧ (Rc.r3 b).1.length ≤ b.length ∧ (Rc.r4 b).1.length ≤ b.length := by
  have h1 : (Rc.r1 b).1.length ≤ b.length := Cd.af_le _ (b, false)
  have h2 : (Rc.r2 b).1.length ≤ (Rc.r1 b).1.length := Cd.af_le _ _
  have h3 : (Rc.r3 b).1.length ≤ (Rc.r2 b).1.length := Cd.af_le _ _
  have h4 : (Rc.r4 b).1.length ≤ (Rc.r3 b).1.length := Cd.af_le _ _
  omega
/-- what is kept of the walk while the row is filled -/
structure Row10 (w : World) (gr hB lb : Nat) (s : Cd.St) (G : Nat → Prop) (o z : Obj) (l : List Int) (x : World) : Prop where
  way : Way w gr hB s G o z x
  fil : Fills lb l x
  ne : hB < lb
theorem Row10.red {w : World} {gr hB lb : Nat} {s s' : Cd.St} {G : Nat → Prop} {o z : Obj} {l : List Int} {x y : World} (h : Row10 w gr hB lb s G o z l x) (hr : Rr y gr s' G) (hk : Kp (· = gr) x y) : Row10 w gr hB lb s' G o z l y := by
  have := h.way.ne
  have := h.ne
  exact ⟨h.way.red hr hk, (hk.block _ (heap_lt h.fil) (by omega)).trans h.fil, h.ne⟩
theorem Row10.set {w : World} {gr hB lb : Nat} {s : Cd.St} {G : Nat → Prop} {o z : Obj} {k N : Nat} {done : List Int} {x : World} (h : Row10 w gr hB lb s G o z (done ++ List.replicate (N - k) 0) x) (hd : done.length = k) (hlt : k < N) (y : Int) :
    Row10 w gr hB lb s G o z ((done ++ [y]) ++ List.replicate (N - (k + 1)) 0) (x.setCell ⟨lb, k, none⟩ (.int .i64 y)) := by
  have hk : Kp (· = lb) x (x.setCell ⟨lb, k, none⟩ (.int .i64 y)) := Kp.store _ _ _ _
  have hw := h.way
  have h0 := hw.lo
  have h1 := hw.ne
  have h2 := h.ne
  have h3 : hB < x.heap.size := by obtain ⟨hlt, _⟩ := Array.getElem?_eq_some_iff.1 hw.hd; exact hlt
  have h4 : w.heap.size < x.heap.size := by obtain ⟨hlt, _⟩ := Array.getElem?_eq_some_iff.1 hw.zr; exact hlt
  refine ⟨⟨hw.rr.kp hk (by omega) (fun b hb => by have := hw.gs b hb; omega), (hk.block _ h3 (by omega)).trans hw.hd, (hk.block _ h4 (by omega)).trans hw.zr, hw.bel.trans (lo_g hk hw.bel.size (by omega)), hw.lo, hw.ne, hw.gs⟩, ?_, h.ne⟩
  unfold Fills
  rw [heap_set h.fil, fill_cells hd hlt]
theorem Row10.old {w : World} {gr hB lb : Nat} {s : Cd.St} {G : Nat → Prop} {o z : Obj} {l : List Int} {x y : World} (h : Row10 w gr hB lb s G o z l x) (hb : Below x.heap.size x y) : Row10 w gr hB lb s G o z l y :=
  ⟨h.way.old hb, below_obj hb h.fil, h.ne⟩
theorem Row10.drew {w : World} {gr hB lb : Nat} {s : Cd.St} {G : Nat → Prop} {o z : Obj} {l : List Int} {x : World} (h : Row10 w gr hB lb s G o z l x) : Row10 w gr hB lb s G o z l x.drew :=
  ⟨h.way.old ((Below.refl _ _).drew), h.fil, h.ne⟩
set_option maxRecDepth 100000 in
set_option maxHeartbeats 8000000 in
theorem readSeal_any (A : Option Addr) (b : Tx) (n C : Nat) (G : Nat → Prop) (w : World) (hn : n = b.length) (hl : n ≤ 1000000) (hA : A = none → n = 0 ∧ C = 0) (hr : RdL w A b G) :
    Calls Try.prog 38 #[.slice A n C] w (GotS b w) := by
  have HB0 : Hid (Below w.heap.size w (w.alloc (sealObj 0 0 0 0 none 0 0))) := Lib.hid ((Below.refl _ _).alloc (Nat.le_refl _) _)
  have HR : Hid (RdL w A b G) := Lib.hid hr
  have HN := Lib.hid hn
  have hcall := newReader_any A b C G (w.alloc (sealObj 0 0 0 0 none 0 0)) (by rw [← hn]; exact hA) (hr.old HB0.out) (by omega)
  rw [← hn] at hcall
  have hlen := r_len b
  rw [← hn] at hlen
  obtain ⟨l1, l2, l3, l4⟩ := hlen
  obtain ⟨n0, hn0⟩ : ∃ k, k = Cd.num (Cd.tk 4 (b, false)) := ⟨_, rfl⟩
  obtain ⟨n1, hn1⟩ : ∃ k, k = (Cd.byt (Rc.r1 b)).toNat := ⟨_, rfl⟩
  obtain ⟨n2, hn2⟩ : ∃ k, k = (Cd.byt (Rc.r2 b)).toNat := ⟨_, rfl⟩
  obtain ⟨n3, hn3⟩ : ∃ k, k = (Cd.byt (Rc.r3 b)).toNat := ⟨_, rfl⟩
  have k1 : n1 < 256 := by rw [hn1]; exact (Cd.byt (Rc.r1 b)).toNat_lt
  have k2 : n2 < 256 := by rw [hn2]; exact (Cd.byt (Rc.r2 b)).toNat_lt
  have k3 : n3 < 256 := by rw [hn3]; exact (Cd.byt (Rc.r3 b)).toNat_lt
  obtain ⟨N, hNN⟩ : ∃ N, N = n2 + n3 := ⟨_, rfl⟩
  have hNs : (n2 : Int) + (n3 : Int) = (N : Int) := by omega
  have hNl : N ≤ 510 := by omega
  obtain ⟨labs, hlabs⟩ : ∃ l, l = Rc.labsP N (Rc.r4 b) := ⟨_, rfl⟩
  have hll : labs.length = N := by rw [hlabs]; exact Rc.labsP_len _ _
  have HPA : Hid (Rc.pparse b = ⟨n0, (n1 : Int), (n2 : Int), (n3 : Int), labs⟩) := Lib.hid (by rw [hlabs, hNN, hn0, hn1, hn2, hn3]; rfl)
  have H0 := Lib.hid hn0
  have H1 := Lib.hid hn1
  have H2 := Lib.hid hn2
  have H3 := Lib.hid hn3
  have HLB := Lib.hid hlabs
  have HLL := Lib.hid hll
  have HC := Lib.hid hcall
  have hmk := run_make_row' (P := Try.prog) 22 3 (.int .i64 0) 8 Try.underlying22 infoI rfl .i64 .i64 N (by omega) (by omega)
  have HMK := Lib.hid hmk
  clear hr hcall hn0 hn1 hn2 hn3 hlabs hll hn hA hNN hmk
  unfold sealObj at HC
  go_enter Try.func38, Try.ntmps38
  go_wp2_with fail
  refine HC.out.mono ?_
  clear HC
  rintro e w1 ⟨gr, rfl, hlo, hr1, hb1⟩
  have HB1 := Lib.hid (HB0.out.trans (hb1.mono HB0.out.size))
  have HLO : Hid (w.heap.size < gr) := Lib.hid (by have : (w.alloc (sealObj 0 0 0 0 none 0 0)).heap.size ≤ gr := hlo; simp at this; omega)
  have HZ1 : Hid (w1.heap[w.heap.size]? = some (sealObj 0 0 0 0 none 0 0)) := Lib.hid ((hb1.block _ (by simp)).trans (Go.Deep.blk_alloc_new _ _))
  obtain ⟨G2, hG2⟩ : ∃ G2 : Nat → Prop, G2 = (fun b => (w.alloc (sealObj 0 0 0 0 none 0 0)).heap.size ≤ b ∧ b < gr) := ⟨_, rfl⟩
  have HGS : Hid (∀ b, G2 b → b < gr) := Lib.hid (by rw [hG2]; exact fun b h => h.2)
  have HR1 : Hid (Rr w1 gr (b, false) G2) := Lib.hid (by rw [hG2]; exact hr1)
  clear hlo hr1 hb1 hG2
  go_wp2_with fail
  have hcall := rint_any gr (b, false) G2 w1 HR1.out (by show b.length ≤ _; have := HN.out; omega)
  rw [← H0.out] at hcall
  refine hcall.mono ?_
  clear hcall
  rintro e w2 ⟨rfl, hr2, hk2⟩
  have hr2' : Rr w2 gr (Rc.r1 b) G2 := hr2
  obtain ⟨hB, hhB⟩ : ∃ hB, hB = w2.heap.size := ⟨_, rfl⟩
  obtain ⟨wh, hwh⟩ : ∃ wh, wh = w2.alloc (sealObj n0 0 0 0 none 0 0) := ⟨_, rfl⟩
  have HWAY : Hid (Way w gr hB (Rc.r1 b) G2 (sealObj n0 0 0 0 none 0 0) (sealObj 0 0 0 0 none 0 0) wh) := Lib.hid (by
    have h1 : gr < w2.heap.size := hr2.lt
    have hz2 := (hk2.block _ (heap_lt HZ1.out) (by have := HLO.out; omega)).trans HZ1.out
    have hb2 := HB1.out.trans (lo_g hk2 HB1.out.size (by have := HLO.out; omega))
    rw [hwh, hhB]
    exact ⟨hr2'.kp (S := fun _ => False) (Kp.of_below ((Below.refl _ _).alloc (Nat.le_refl _) _)) (fun h => h) (fun _ _ h => h), Go.Deep.blk_alloc_new _ _, (Below.heap_alloc _ _ _ (heap_lt hz2)).trans hz2, hb2.alloc hb2.size _, HLO.out, h1, HGS.out⟩)
  have HHB := Lib.hid hhB
  have HWH := Lib.hid hwh
  unfold sealObj at HWH
  clear hr2 hr2' hk2 hhB hwh
  go_wp2_with fail
  rw [← HWH.out, ← HHB.out]
  have hcall := rbyte_any gr (Rc.r1 b) G2 wh HWAY.out.rr (by omega)
  rw [← H1.out] at hcall
  refine hcall.mono ?_
  clear hcall
  rintro e x1 ⟨rfl, hr, hk⟩
  have hr' : Rr x1 gr (Rc.r2 b) G2 := hr
  have hw := HWAY.out.red hr' hk
  obtain ⟨c0, c1, c2, c3, c4⟩ := seal5 hw.hd
  obtain ⟨f0, f1, f2, f3, f4⟩ := seal_free hw.hd
  have hs := hw.set 1 (.int .i64 (n1 : Int)) (cs' := #[.int .i64 n0, .int .i64 (n1 : Int), .int .i64 0, .int .i64 0, .slice none 0 0]) rfl
  obtain ⟨y1, hy⟩ : ∃ y, y = x1.setCell ⟨hB, 1, none⟩ (.int .i64 (n1 : Int)) := ⟨_, rfl⟩
  rw [← hy] at hs
  have HW1 : Hid (Way w gr hB (Rc.r2 b) G2 (sealObj n0 (n1 : Int) 0 0 none 0 0) (sealObj 0 0 0 0 none 0 0) y1) := Lib.hid hs
  have HY1 := Lib.hid hy
  clear hr hr' hk hw hs hy
  go_wp2_with fail
  rw [← HY1.out]
  clear c0 c1 c2 c3 c4 f0 f1 f2 f3 f4
  have hcall := rbyte_any gr (Rc.r2 b) G2 y1 HW1.out.rr (by omega)
  rw [← H2.out] at hcall
  refine hcall.mono ?_
  clear hcall
  rintro e x2 ⟨rfl, hr, hk⟩
  have hr' : Rr x2 gr (Rc.r3 b) G2 := hr
  have hw := HW1.out.red hr' hk
  obtain ⟨c0, c1, c2, c3, c4⟩ := seal5 hw.hd
  obtain ⟨f0, f1, f2, f3, f4⟩ := seal_free hw.hd
  have hs := hw.set 2 (.int .i64 (n2 : Int)) (cs' := #[.int .i64 n0, .int .i64 (n1 : Int), .int .i64 (n2 : Int), .int .i64 0, .slice none 0 0]) rfl
  obtain ⟨y2, hy⟩ : ∃ y, y = x2.setCell ⟨hB, 2, none⟩ (.int .i64 (n2 : Int)) := ⟨_, rfl⟩
  rw [← hy] at hs
  have HW2 : Hid (Way w gr hB (Rc.r3 b) G2 (sealObj n0 (n1 : Int) (n2 : Int) 0 none 0 0) (sealObj 0 0 0 0 none 0 0) y2) := Lib.hid hs
  have HY2 := Lib.hid hy
  clear hr hr' hk hw hs hy
  go_wp2_with fail
  rw [← HY2.out]
  clear c0 c1 c2 c3 c4 f0 f1 f2 f3 f4
  have hcall := rbyte_any gr (Rc.r3 b) G2 y2 HW2.out.rr (by omega)
  rw [← H3.out] at hcall
  refine hcall.mono ?_
  clear hcall
  rintro e x3 ⟨rfl, hr, hk⟩
  have hr' : Rr x3 gr (Rc.r4 b) G2 := hr
  have hw := HW2.out.red hr' hk
  obtain ⟨c0, c1, c2, c3, c4⟩ := seal5 hw.hd
  obtain ⟨f0, f1, f2, f3, f4⟩ := seal_free hw.hd
  have hs := hw.set 3 (.int .i64 (n3 : Int)) (cs' := #[.int .i64 n0, .int .i64 (n1 : Int), .int .i64 (n2 : Int), .int .i64 (n3 : Int), .slice none 0 0]) rfl
  obtain ⟨y3, hy⟩ : ∃ y, y = x3.setCell ⟨hB, 3, none⟩ (.int .i64 (n3 : Int)) := ⟨_, rfl⟩
  rw [← hy] at hs
  have HW3 : Hid (Way w gr hB (Rc.r4 b) G2 (sealObj n0 (n1 : Int) (n2 : Int) (n3 : Int) none 0 0) (sealObj 0 0 0 0 none 0 0) y3) := Lib.hid hs
  have HY3 := Lib.hid hy
  have hx3 : y3.heap.size = x3.heap.size := by rw [hy]; simp [World.setCell]
  have hsa := hs.old (y := y3.alloc (.cells (madeCells #[.int .i64 0] N) 3)) ((Below.refl _ _).alloc (Nat.le_refl _) _)
  have hfl := fill_start y3 N
  obtain ⟨lb, hlb⟩ : ∃ lb, lb = x3.heap.size := ⟨_, rfl⟩
  have hlt : hB < lb := by have := heap_lt hs.hd; omega
  have hs4 := hsa.set 4 (.slice (some ⟨lb, 0, none⟩) N N) (cs' := #[.int .i64 n0, .int .i64 (n1 : Int), .int .i64 (n2 : Int), .int .i64 (n3 : Int), .slice (some ⟨lb, 0, none⟩) N N]) rfl
  obtain ⟨y4, hy4⟩ : ∃ y, y = (y3.alloc (.cells (madeCells #[.int .i64 0] N) 3)).setCell ⟨hB, 4, none⟩ (.slice (some ⟨lb, 0, none⟩) N N) := ⟨_, rfl⟩
  rw [← hy4] at hs4
  have HW4 : Hid (Row10 w gr hB lb (Rc.r4 b) G2 (sealObj n0 (n1 : Int) (n2 : Int) (n3 : Int) (some ⟨lb, 0, none⟩) N N) (sealObj 0 0 0 0 none 0 0) ([] ++ List.replicate (N - 0) 0) y4) := Lib.hid ⟨hs4, (by
    rw [hx3, ← hlb] at hfl
    rw [hy4]
    have hk : Kp (· = hB) (y3.alloc (.cells (madeCells #[.int .i64 0] N) 3)) ((y3.alloc (.cells (madeCells #[.int .i64 0] N) 3)).setCell ⟨hB, 4, none⟩ (.slice (some ⟨lb, 0, none⟩) N N)) := Kp.store _ _ _ _
    exact (hk.block _ (heap_lt hfl) (by omega)).trans hfl), hlt⟩
  obtain ⟨g0, g1, g2, g3, g4⟩ := seal5 hsa.hd
  obtain ⟨e0, e1, e2, e3, e4⟩ := seal_free hsa.hd
  obtain ⟨d0, d1, d2, d3, d4⟩ := seal5 hs.hd
  have q4 := (seal5 hs4.hd).2.2.2.2
  have hmk := HMK.out y3
  rw [hx3, ← hlb] at hmk
  rw [hy4] at q4
  have HY4 := Lib.hid hy4
  rw [hy] at HY4 hmk g0 g1 g2 g3 g4 e0 e1 e2 e3 e4 d0 d1 d2 d3 d4 q4
  have HLBX := Lib.hid hlb
  have HLT := Lib.hid hlt
  clear hr hr' hk hw hs hsa hfl hs4 hx3 hy4 hy hlt hlb
  go_wp2
  rw [← HY4.out]
  clear c0 c1 c2 c3 c4 f0 f1 f2 f3 f4 e0 e1 e2 e3 e4 d0 d1 d2 d3 d4 g0 g1 g2 g3 g4 q4 hmk hNs k1 k2 k3 l1 l2 l3
  go_loopw [34] (fun vi wr => ∃ (k : Nat) (done : List Int) (s : Cd.St), k ≤ N ∧ vi = .int .i64 (k : Int) ∧ Hid (Far10 N (Rc.r4 b) n k done s) ∧ Hid (Row10 w gr hB lb s G2 (sealObj n0 (n1 : Int) (n2 : Int) (n3 : Int) (some ⟨lb, 0, none⟩) N N) (sealObj 0 0 0 0 none 0 0) (done ++ List.replicate (N - k) 0) wr)) (fun vi _ => N - (intOf vi).toNat)
  case atStart => exact ⟨0, [], Rc.r4 b, Nat.zero_le _, rfl, Lib.hid ⟨rfl, rfl, l4⟩, HW4⟩
  case round =>
    obtain ⟨k, done, s, hk, rfl, HF, HRO⟩ := hrel
    by_cases hlt : k < N
    · have HD := Lib.hid HRO.out.drew
      have S0 := (seal5 HD.out.way.hd).2.2.2.2
      have hcl := rint_any gr s G2 wr.drew HD.out.way.rr (by have := HF.out.2.2; omega)
      have HST := Lib.hid (HF.out.step hlt)
      have HDL := Lib.hid HF.out.1
      obtain ⟨y, hy⟩ : ∃ y, y = Cd.num (Cd.tk 4 s) := ⟨_, rfl⟩
      rw [← hy] at hcl HST
      have HCL := Lib.hid hcl
      clear hcl hy
      have hk0 : (0 : Int) ≤ (k : Int) := by omega
      have hkN : (k : Int) < (N : Int) := by omega
      go_wp2
      go_region_held (fun w' => w'.cell? ⟨hB, 4, none⟩ = some (.slice (some ⟨lb, 0, none⟩) N N))
        (first | exact S2 | exact S1 | exact S0)
        (first
          | (go_at_call 60; refine HCL.out.mono ?_; rintro e ws ⟨rfl, hr, hkk⟩; have HR1 := Lib.hid (HD.out.red hr hkk); have S1 := (seal5 HR1.out.way.hd).2.2.2.2; have ck := fill_get HDL.out hlt HR1.out.fil; have fk : ws.frozen? ⟨lb, k, none⟩ = false := heap_frozen HR1.out.fil; have HNX := Lib.hid (HR1.out.set HDL.out hlt y); have S2 := (seal5 HNX.out.way.hd).2.2.2.2; clear hr hkk))
      go_wp2
      go_roundw
      case rel => exact ⟨k + 1, done ++ [y], Cd.af 4 s, by omega, by go_num, HST, HNX⟩
      case measure => simp [intOf]; omega
    · have hkN : k = N := by omega
      have hdone := HF.out.done hkN
      rw [← HLB.out] at hdone
      have hro := HRO.out
      rw [hdone, hkN, Nat.sub_self] at hro
      have HW7 := Lib.hid hro
      have HRZ : Hid (RdZ wr (some ⟨lb, 0, none⟩) labs (· = lb)) := Lib.hid (RdZ.of_cells hro.fil)
      have hNm : N ≤ maxLen := by unfold maxLen; omega
      have hcall := rightSeal_any n0 (n1 : Int) (n2 : Int) (n3 : Int) (some ⟨lb, 0, none⟩) labs N N _ wr HLL.out.symm (Nat.le_refl _) hNm HRZ.out
      have HLO2 : Hid (w.heap.size < lb) := Lib.hid (by have := hro.way.lo; have := hro.way.ne; have := hro.ne; omega)
      have HNM := Lib.hid hNm
      clear hdone hro hNm hkN
      obtain ⟨d0, d1, d2, d3, d4⟩ := seal5 HW7.out.way.hd
      by_cases hok : Rc.SOk ⟨n0, (n1 : Int), (n2 : Int), (n3 : Int), labs⟩
      · rw [decide_eq_true hok] at hcall
        have HP : Hid (Rc.sput ⟨n0, (n1 : Int), (n2 : Int), (n3 : Int), labs⟩ = Rc.sblk (Rc.pparse b)) := Lib.hid (by rw [HPA.out]; exact Rc.sput_ok hok)
        have HOK := Lib.hid hok
        have HCA := Lib.hid hcall
        clear hok hcall
        go_wp2_with fail
        refine HCA.out.mono ?_
        rintro e x8 ⟨rfl, hb⟩
        have HW8 := Lib.hid (HW7.out.old hb)
        have HRZ8 := Lib.hid (HRZ.out.old hb)
        clear hb d0 d1 d2 d3 d4
        obtain ⟨d0, d1, d2, d3, d4⟩ := seal5 HW8.out.way.hd
        go_wp2_with fail
        refine (sealBytes_any n0 (n1 : Int) (n2 : Int) (n3 : Int) (some ⟨lb, 0, none⟩) labs N N _ x8 HLL.out.symm (Nat.le_refl _) HNM.out HRZ8.out).mono ?_
        rintro e x9 ⟨A9, m9, C9, rfl, hm9, -, -, -, hr9, hb9⟩
        have HW9 := Lib.hid (HW8.out.old hb9)
        have HRZ9 := Lib.hid ((HRZ8.out.old hb9).mono (fun x hx => by have := HLO2.out; omega) : RdZ x9 (some ⟨lb, 0, none⟩) labs (w.heap.size < ·))
        have HR9 := Lib.hid hr9
        have HM9 := Lib.hid hm9
        obtain ⟨z0, z1, z2, z3, z4⟩ := seal5 HW9.out.way.zr
        obtain ⟨f0, f1, f2, f3, f4⟩ := seal_free HW9.out.way.zr
        clear d0 d1 d2 d3 d4 hr9 hm9 hb9
        obtain ⟨d0, d1, d2, d3, d4⟩ := seal5 HW9.out.way.hd
        have heq := equal_any A9 A _ b m9 n C9 C _ _ x9 HM9.out HN.out HR9.out (HR.out.old HW9.out.way.bel)
        by_cases hg : Rc.sblk (Rc.pparse b) = b
        · have hq : (Rc.sput ⟨n0, (n1 : Int), (n2 : Int), (n3 : Int), labs⟩ == b) = true := by rw [HP.out, hg]; simp
          rw [hq] at heq
          have hgood : Rc.SGood b := Rc.pgood_iff.1 ⟨by rw [HPA.out]; exact HOK.out, hg⟩
          have HG : Hid (Rc.sgot b = ⟨n0, (n1 : Int), (n2 : Int), (n3 : Int), labs⟩) := Lib.hid ((Rc.sgot_yes hgood).trans ((Rc.pparse_good hgood).symm.trans HPA.out))
          have HGE := Lib.hid (Rc.sgotE_yes hgood)
          have HEQ := Lib.hid heq
          clear hq hgood hg heq
          go_wp2_with fail
          refine HEQ.out.mono ?_
          rintro e xa ⟨rfl, hxa⟩
          subst hxa
          go_wp2
          exact bodyPost_ret (v := .tuple #[.agg #[.int .i64 n0, .int .i64 (n1 : Int), .int .i64 (n2 : Int), .int .i64 (n3 : Int), .slice (some ⟨lb, 0, none⟩) N N], .int .i64 0]) (by simp [results, Try.results38, go_sem, z0, z1, z2, z3, z4]) rfl (GotS.stored (s := ⟨n0, (n1 : Int), (n2 : Int), (n3 : Int), labs⟩) HG.out HGE.out rfl HRZ9.out HLL.out.symm (Nat.le_refl _) HNM.out (fun h => by cases h) HW9.out.way.bel)
        · have hq : (Rc.sput ⟨n0, (n1 : Int), (n2 : Int), (n3 : Int), labs⟩ == b) = false := by rw [HP.out]; simpa using hg
          rw [hq] at heq
          have hbad : ¬ Rc.SGood b := fun h => hg (Rc.pgood_iff.2 h).2
          have HG := Lib.hid (Rc.sgot_no hbad)
          have HGE := Lib.hid (Rc.sgotE_no hbad)
          have HEQ := Lib.hid heq
          clear hq hbad hg heq
          go_wp2_with fail
          refine HEQ.out.mono ?_
          rintro e xa ⟨rfl, hxa⟩
          subst hxa
          go_wp2
          exact bodyPost_ret (v := .tuple #[.agg #[.int .i64 0, .int .i64 0, .int .i64 0, .int .i64 0, .slice none 0 0], .int .i64 2]) (by simp [results, Try.results38, go_sem, z0, z1, z2, z3, z4]) rfl (GotS.stored (s := Rc.S.zero) HG.out HGE.out rfl (RdZ.empty _ _ _) rfl (Nat.le_refl _) (by decide) (fun _ => ⟨rfl, rfl⟩) HW9.out.way.bel)
      · rw [decide_eq_false hok] at hcall
        have hbad : ¬ Rc.SGood b := fun h => hok (by have := (Rc.pgood_iff.2 h).1; rwa [HPA.out] at this)
        have HG := Lib.hid (Rc.sgot_no hbad)
        have HGE := Lib.hid (Rc.sgotE_no hbad)
        have HCA := Lib.hid hcall
        clear hok hbad hcall
        go_wp2_with fail
        refine HCA.out.mono ?_
        rintro e x8 ⟨rfl, hb⟩
        have HW8 := Lib.hid (HW7.out.old hb)
        clear hb d0 d1 d2 d3 d4
        obtain ⟨z0, z1, z2, z3, z4⟩ := seal5 HW8.out.way.zr
        obtain ⟨f0, f1, f2, f3, f4⟩ := seal_free HW8.out.way.zr
        go_wp2
        exact bodyPost_ret (v := .tuple #[.agg #[.int .i64 0, .int .i64 0, .int .i64 0, .int .i64 0, .slice none 0 0], .int .i64 2]) (by simp [results, Try.results38, go_sem, z0, z1, z2, z3, z4]) rfl (GotS.stored (s := Rc.S.zero) HG.out HGE.out rfl (RdZ.empty _ _ _) rfl (Nat.le_refl _) (by decide) (fun _ => ⟨rfl, rfl⟩) HW8.out.way.bel)
end Go.Proofs.Ytmfikihcoafekaa
namespace Go.Proofs.Ytmfikihcoafekaa
open Go.RowKit
open Pt (Tx)

/-- what is answered for it -/
def sealIs (o : Option Rc.S) : Rc.S := o.getD Rc.S.zero
def SealA (o : Option Rc.S) (w : World) (e : Ending) (w' : World) : Prop :=
  ∃ x : Sx, e = .returned (.tuple #[.agg #[.int .i64 x.s.number, .int .i64 x.s.index, .int .i64 x.s.data, .int .i64 x.s.parity, .slice x.A x.s.labels.length x.C], .bool o.isSome]) ∧ x.s = sealIs o ∧ x.Ok w' (w.heap.size ≤ ·) ∧ Below w.heap.size w w'
theorem SealA.stored {w w7 : World} {B : Nat} {a0 a1 a2 a3 a4 : Value} {o : Option Rc.S} {n i d p : Int} {m : Nat} {l : List Int} {A : Option Addr} {C : Nat} {b : Bool} (hu : (⟨n, i, d, p, l⟩ : Rc.S) = sealIs o) (hb : o.isSome = b) (hB : w.heap.size ≤ B) (hm : m = l.length) (hok : Sx.Ok ⟨⟨n, i, d, p, l⟩, A, C⟩ w7 (fun x => w.heap.size ≤ x ∧ x ≠ B)) (hbl : Below w.heap.size w w7) :
    SealA o w (.returned (.tuple #[.agg #[.int .i64 n, .int .i64 i, .int .i64 d, .int .i64 p, .slice A m C], .bool b])) (((((w7.setCell ⟨B, 0, none⟩ a0).setCell ⟨B, 1, none⟩ a1).setCell ⟨B, 2, none⟩ a2).setCell ⟨B, 3, none⟩ a3).setCell ⟨B, 4, none⟩ a4) := by
  have hk := SitsX.kp_set w7 B 0 1 2 3 4 a0 a1 a2 a3 a4
  subst hm
  exact ⟨⟨⟨n, i, d, p, l⟩, A, C⟩, by rw [hb], hu, (hok.kp hk (fun x hx hx' => hx.2 hx')).mono (fun x hx => hx.1), hbl.trans (hk.below hbl.size (fun x hx => by omega))⟩
theorem nil_ok (w : World) (G : Nat → Prop) (n i d p : Int) : Sx.Ok ⟨⟨n, i, d, p, []⟩, none, 0⟩ w G := ⟨Nat.le_refl _, Nat.zero_le _, fun _ => ⟨rfl, rfl⟩, RdZ.empty _ _ _⟩
/-- a tape's block, and a seal's behind it -/
theorem tape_seal {w wb : World} {o1 o2 : Obj} (h : wb = (w.alloc o1).alloc o2) : Below w.heap.size w wb ∧ wb.heap[w.heap.size]? = some o1 ∧ wb.heap[w.heap.size + 1]? = some o2 := two_blocks h
set_option maxRecDepth 100000 in
set_option maxHeartbeats 4000000 in
theorem sealed_any (lab cap : Int) (bs : List Tx) (A : Option Addr) (L C : Nat) (G : Nat → Prop) (lost : Bool) (w : World) (hL : L = bs.length) (hLm : L ≤ 1000000) (hr : RdB w A bs G) (hl : ∀ s ∈ bs, s.length ≤ 1000000) :
    Calls Try.prog 17 #[.agg #[.int .i64 lab, .int .i64 cap, .slice A L C, .bool lost]] w (SealA (Gr.sealed ⟨lab, cap, bs, lost⟩) w) := by
  obtain ⟨wb, hwb⟩ : ∃ wb, wb = (w.alloc (tapeObj lab cap A L C lost)).alloc (sealObj 0 0 0 0 none 0 0) := ⟨_, rfl⟩
  obtain ⟨hB, hT, hU⟩ := tape_seal hwb
  obtain ⟨N, hN⟩ : ∃ N : Int, N = (L : Int) - 1 := ⟨_, rfl⟩
  have hcall := good_any lab cap bs A L C G lost N wb hL (hr.old hB) hl
  have hgz : Vo.goodZ ⟨lab, bs, lost⟩ N = Vo.good ⟨lab, bs, lost⟩ (bs.length - 1) := by
    unfold Vo.goodZ
    split
    · have h0 : bs.length = 0 := by omega
      rw [Vo.good_end (t := ⟨lab, bs, lost⟩) (by show bs.length ≤ _; omega)]
    · rw [show N.toNat = bs.length - 1 by omega]
  rw [hgz] at hcall
  have s1 : IntKind.i64.wrap ((L : Int) - 1) = N := by rw [hN]; exact IntWalk.i64_in _ (by omega)
  have hload : (unitOf (Vo.good ⟨lab, bs, lost⟩ (bs.length - 1))).load.length ≤ 1000 := by
    cases h : Vo.good ⟨lab, bs, lost⟩ (bs.length - 1) with
    | none => exact Nat.zero_le _
    | some u =>
      obtain ⟨b, -, hg, rfl⟩ := Vo.good_some h
      have h1 := hg.1.2
      have h2 := Fm.room_le (Fm.parse b).kind
      show (Fm.parse b).load.length ≤ 1000
      omega
  have HB := Lib.hid hB
  have HU := Lib.hid hU
  have HW : Hid (wb = (w.alloc (.cells #[.int .i64 lab, .int .i64 cap, .slice A L C, .bool lost] 32)).alloc (.cells #[.int .i64 0, .int .i64 0, .int .i64 0, .int .i64 0, .slice none 0 0] 41)) := Lib.hid hwb
  obtain ⟨t0, t1, t2, t3⟩ := tape4 hT
  rw [HW.out] at t0 t1 t2 t3
  obtain ⟨ok, hok⟩ : ∃ ok, ok = (Vo.good ⟨lab, bs, lost⟩ (bs.length - 1)).isSome := ⟨_, rfl⟩
  obtain ⟨k, lb, nb, ld, hu⟩ : ∃ k lb nb ld, unitOf (Vo.good ⟨lab, bs, lost⟩ (bs.length - 1)) = ⟨k, lb, nb, ld⟩ := ⟨_, _, _, _, rfl⟩
  unfold GoodA at hcall
  rw [hu, ← hok] at hcall
  rw [hu] at hload
  have hload' : ld.length ≤ 1000 := hload
  have hcase : (Gr.sealed ⟨lab, cap, bs, lost⟩ = none ∧ (ok = false ∨ (ok = true ∧ (k != 5) = true))) ∨ (ok = true ∧ k = 5 ∧ Gr.sealed ⟨lab, cap, bs, lost⟩ = if Rc.SGood ld then some (Rc.sparse ld) else none) := by
    cases h : Vo.good ⟨lab, bs, lost⟩ (bs.length - 1) with
    | none =>
      rw [h] at hok
      exact .inl ⟨Gr.sealed_bad (t := ⟨lab, cap, bs, lost⟩) h, .inl hok⟩
    | some u =>
      rw [h] at hok hu
      have hok' : ok = true := hok
      have hu' : u = ⟨k, lb, nb, ld⟩ := hu
      subst hu'
      by_cases h1 : k = 5
      · refine .inr ⟨hok', h1, ?_⟩
        unfold Gr.sealed
        rw [show Vo.good (Gr.vo ⟨lab, cap, bs, lost⟩) ((⟨lab, cap, bs, lost⟩ : St.T).blocks.length - 1) = some ⟨k, lb, nb, ld⟩ from h]
        show (if k = 5 ∧ Rc.SGood ld then some (Rc.sparse ld) else none) = _
        by_cases h2 : Rc.SGood ld
        · rw [if_pos ⟨h1, h2⟩, if_pos h2]
        · rw [if_neg fun h => h2 h.2, if_neg h2]
      · exact .inl ⟨Gr.sealed_kind (t := ⟨lab, cap, bs, lost⟩) h h1, .inr ⟨hok', by simpa using h1⟩⟩
  have HC := Lib.hid hcall
  have HLD := Lib.hid hload'
  clear hcall hload hload' hB hT hU hwb hr hL hl hu hok hgz hN
  rcases hcase with ⟨hres, hq⟩ | ⟨rfl, rfl, hres⟩
  · have HRES := Lib.hid hres
    clear hres
    rcases hq with rfl | ⟨rfl, p1⟩
    all_goals
      go_enter Try.func17, Try.ntmps17
      go_wp2_with fail
      rw [← HW.out]
      refine HC.out.mono ?_
      rintro e w1 ⟨A1, m1, C1, rfl, hm1, hc1, hn1, hr1, hb1⟩
      obtain ⟨wc, hwc⟩ : ∃ wc, wc = w1.alloc (unitObj k lb nb A1 m1 C1) := ⟨_, rfl⟩
      have hbc : Below wb.heap.size wb wc := by rw [hwc]; exact hb1.alloc hb1.size _
      have HZ := Lib.hid (below_obj hbc HU.out)
      have HBC := Lib.hid (HB.out.trans (hbc.mono HB.out.size))
      have hX : wc.heap[w1.heap.size]? = some (unitObj k lb nb A1 m1 C1) := by rw [hwc]; exact Go.Deep.blk_alloc_new _ _
      obtain ⟨x0, x1, x2, x3⟩ := unit4 hX
      have HWC := Lib.hid hwc
      unfold unitObj at HWC
      obtain ⟨z0, z1, z2, z3, z4⟩ := seal5 HZ.out
      obtain ⟨y0, y1, y2, y3, y4⟩ := seal_free HZ.out
      rw [HWC.out] at z0 z1 z2 z3 z4 y0 y1 y2 y3 y4 x0 x1 x2 x3
      clear hwc hbc hb1 hr1 hn1 hc1 hm1 t0 t1 t2 t3 hX
      go_wp2
      rw [← HWC.out]
      clear z0 z1 z2 z3 z4
      obtain ⟨z0, z1, z2, z3, z4⟩ := seal5 HZ.out
      refine bodyPost_ret (v := .tuple #[.agg #[.int .i64 0, .int .i64 0, .int .i64 0, .int .i64 0, .slice none 0 0], .bool false]) (by simp [results, Try.results17, go_sem, z0, z1, z2, z3, z4]) rfl ?_
      rw [HRES.out]
      exact SealA.stored (l := []) rfl rfl (by omega) rfl (nil_ok _ _ _ _ _ _) HBC.out
  · have HRES := Lib.hid hres
    clear hres
    go_enter Try.func17, Try.ntmps17
    go_wp2_with fail
    rw [← HW.out]
    refine HC.out.mono ?_
    rintro e w1 ⟨A1, m1, C1, rfl, hm1, hc1, hn1, hr1, hb1⟩
    obtain ⟨wc, hwc⟩ : ∃ wc, wc = w1.alloc (unitObj 5 lb nb A1 m1 C1) := ⟨_, rfl⟩
    have hb1' : Below w1.heap.size w1 wc := by rw [hwc]; exact (Below.refl _ _).alloc (Nat.le_refl _) _
    have hbc : Below wb.heap.size wb wc := hb1.trans (hb1'.mono hb1.size)
    have hcall := readSeal_any A1 ld m1 C1 _ wc hm1 (by have h1 : m1 = ld.length := hm1; have := HLD.out; omega) hn1 (hr1.old hb1')
    have HC2 := Lib.hid hcall
    have HZ := Lib.hid (below_obj hbc HU.out)
    have HBC := Lib.hid (HB.out.trans (hbc.mono HB.out.size))
    have hX : wc.heap[w1.heap.size]? = some (unitObj 5 lb nb A1 m1 C1) := by rw [hwc]; exact Go.Deep.blk_alloc_new _ _
    obtain ⟨x0, x1, x2, x3⟩ := unit4 hX
    have HWC := Lib.hid hwc
    unfold unitObj at HWC
    rw [HWC.out] at x0 x1 x2 x3
    clear hwc hbc hb1 hb1' hr1 hn1 hc1 hm1 t0 t1 t2 t3 hcall HU HB hX
    go_wp2_with fail
    rw [← HWC.out]
    clear x0 x1 x2 x3
    refine HC2.out.mono ?_
    rintro e w2 ⟨A2, m2, C2, rfl, hm2, hc2, hcm2, hn2, hr2, hb2⟩
    obtain ⟨⟨sn, si, sd, sp, sl⟩, hs⟩ : ∃ s, s = Rc.sgot ld := ⟨_, rfl⟩
    obtain ⟨ge, hge⟩ : ∃ ge, ge = Rc.sgotE ld := ⟨_, rfl⟩
    rw [← hs] at hm2 hr2 ⊢
    rw [← hge]
    dsimp only at hm2 hr2 ⊢
    obtain ⟨wd, hwd⟩ : ∃ wd, wd = w2.alloc (sealObj sn si sd sp A2 m2 C2) := ⟨_, rfl⟩
    have hb2' : Below w2.heap.size w2 wd := by rw [hwd]; exact (Below.refl _ _).alloc (Nat.le_refl _) _
    have hbd : Below wc.heap.size wc wd := hb2.trans (hb2'.mono hb2.size)
    have HZD := Lib.hid (below_obj hbd HZ.out)
    have HBD := Lib.hid (HBC.out.trans (hbd.mono HBC.out.size))
    have hY : wd.heap[w2.heap.size]? = some (sealObj sn si sd sp A2 m2 C2) := by rw [hwd]; exact Go.Deep.blk_alloc_new _ _
    have HOK : Hid (Sx.Ok ⟨⟨sn, si, sd, sp, sl⟩, A2, C2⟩ wd (fun x => w.heap.size ≤ x ∧ x ≠ w.heap.size + 1)) := Lib.hid (by
      have h1 := heap_lt HZ.out
      have h2 := HBC.out.size
      refine ⟨by rw [← hm2]; exact hc2, hcm2, fun h => ?_, (hr2.old hb2').mono (fun x hx => ?_)⟩
      · have := hn2 h; rw [← hm2]; exact this
      · have hx' : wc.heap.size ≤ x := hx
        omega)
    have HM2 := Lib.hid hm2
    have HFIN : Hid ((⟨sn, si, sd, sp, sl⟩ : Rc.S) = sealIs (Gr.sealed ⟨lab, cap, bs, lost⟩) ∧ (Gr.sealed ⟨lab, cap, bs, lost⟩).isSome = (ge == 0)) := Lib.hid (by
      rw [HRES.out, hs, hge]
      by_cases hg : Rc.SGood ld
      · rw [if_pos hg, Rc.sgot_yes hg, Rc.sgotE_yes hg]
        exact ⟨rfl, rfl⟩
      · rw [if_neg hg, Rc.sgot_no hg, Rc.sgotE_no hg]
        exact ⟨rfl, rfl⟩)
    obtain ⟨x0, x1, x2, x3, x4⟩ := seal5 hY
    obtain ⟨z0, z1, z2, z3, z4⟩ := seal5 HZD.out
    obtain ⟨y0, y1, y2, y3, y4⟩ := seal_free HZD.out
    have HWD := Lib.hid hwd
    unfold sealObj at HWD
    rw [HWD.out] at x0 x1 x2 x3 x4 z0 z1 z2 z3 z4 y0 y1 y2 y3 y4
    clear hwd hb2 hb2' hbd hY hr2 hm2 hs hge hc2 hcm2 hn2
    go_wp2
    rw [← HWD.out]
    clear z0 z1 z2 z3 z4
    obtain ⟨z0, z1, z2, z3, z4⟩ := seal5 HZD.out
    exact bodyPost_ret (v := .tuple #[.agg #[.int .i64 sn, .int .i64 si, .int .i64 sd, .int .i64 sp, .slice A2 m2 C2], .bool (ge == 0)]) (by simp [results, Try.results17, go_sem, z0, z1, z2, z3, z4]) rfl (SealA.stored (l := sl) HFIN.out.1 HFIN.out.2 (by omega) HM2.out HOK.out HBD.out)
end Go.Proofs.Ytmfikihcoafekaa
