/- One who reads: a Reader, what is made, and the answer's own block. No function of the program. What ReadHead of package record answers. -/
import Derived.Test.YtbijjgicjkmopaaDoorMah
import Derived.Test.YtbijjgicjkmopaaDoorMam
import Derived.Test.YtbijjgicjkmopaaDoorCdReadT
import Derived.Test.YtbijjgicjkmopaaDoorMai
namespace Go.Proofs.YtbijjgicjkmopaaDoor
open Go.RowKit
open Pt (Tx)

/-- the state of one who reads: a Reader, what is made, and the answer's own block -/
structure Way (w : World) (gr hB : Nat) (s : Cd.St) (G : Nat → Prop) (o z : Obj) (x : World) : Prop where
  rr : Rr x gr s G
  hd : x.heap[hB]? = some o
  zr : x.heap[w.heap.size]? = some z
  bel : Below w.heap.size w x
  lo : w.heap.size < gr
  ne : gr < hB
  gs : ∀ b, G b → b < gr
theorem Way.red {w : World} {gr hB : Nat} {s s' : Cd.St} {G : Nat → Prop} {o z : Obj} {x y : World} (h : Way w gr hB s G o z x) (hr : Rr y gr s' G) (hk : Kp (· = gr) x y) : Way w gr hB s' G o z y := by
  have h1 : hB < x.heap.size := by obtain ⟨hlt, _⟩ := Array.getElem?_eq_some_iff.1 h.hd; exact hlt
  have h2 : w.heap.size < x.heap.size := by obtain ⟨hlt, _⟩ := Array.getElem?_eq_some_iff.1 h.zr; exact hlt
  have := h.lo
  have := h.ne
  exact ⟨hr, (hk.block _ h1 (by omega)).trans h.hd, (hk.block _ h2 (by omega)).trans h.zr, h.bel.trans (lo_g hk h.bel.size (by omega)), h.lo, h.ne, h.gs⟩
theorem Way.set {w : World} {gr hB : Nat} {s : Cd.St} {G : Nat → Prop} {z : Obj} {x : World} {cs cs' : Array Value} {t : TypeId} {fr : Nat × Nat} (h : Way w gr hB s G (.cells cs t fr) z x) (i : Nat) (v : Value) (hc : cs.setIfInBounds i v = cs') : Way w gr hB s G (.cells cs' t fr) z (x.setCell ⟨hB, i, none⟩ v) := by
  subst hc
  have hk : Kp (· = hB) x (x.setCell ⟨hB, i, none⟩ v) := Kp.store _ _ _ _
  have h2 : w.heap.size < x.heap.size := by obtain ⟨hlt, _⟩ := Array.getElem?_eq_some_iff.1 h.zr; exact hlt
  have := h.lo
  have := h.ne
  exact ⟨h.rr.kp hk (by omega) (fun b hb => by have := h.gs b hb; omega), heap_set h.hd _, (hk.block _ h2 (by omega)).trans h.zr, h.bel.trans (lo_g hk h.bel.size (by omega)), h.lo, h.ne, h.gs⟩
theorem Way.old {w : World} {gr hB : Nat} {s : Cd.St} {G : Nat → Prop} {o z : Obj} {x y : World} (h : Way w gr hB s G o z x) (hb : Below x.heap.size x y) : Way w gr hB s G o z y := by
  have h1 : hB < x.heap.size := by obtain ⟨hlt, _⟩ := Array.getElem?_eq_some_iff.1 h.hd; exact hlt
  have h2 : w.heap.size < x.heap.size := by obtain ⟨hlt, _⟩ := Array.getElem?_eq_some_iff.1 h.zr; exact hlt
  exact ⟨h.rr.kp (S := fun _ => False) (Kp.of_below hb) (fun h => h) (fun _ _ h => h), (hb.block _ h1).trans h.hd, (hb.block _ h2).trans h.zr, h.bel.trans (hb.mono h.bel.size), h.lo, h.ne, h.gs⟩
end Go.Proofs.YtbijjgicjkmopaaDoor
namespace Go.Proofs.YtbijjgicjkmopaaDoor
open Go.RowKit
open Pt (Tx)

/-- what ReadHead answers -/
def GotH (b : Tx) (w : World) (e : Ending) (w' : World) : Prop :=
  e = .returned (.tuple #[.agg #[.string (tx (Rc.got b).path), .int .i64 (Rc.got b).version, .int .i64 (Rc.got b).size, .int .i64 (Rc.got b).from_, .int .i64 (Rc.got b).len, .int .i64 (Rc.got b).serial, .int .i64 (Rc.got b).sum, .bool (Rc.got b).gone], .int .i64 (Rc.gotE b)]) ∧ Below w.heap.size w w'
theorem GotH.stored {b : Tx} {w x : World} {B : Nat} {h : Rc.H} {er : Int} (hu : Rc.got b = h) (he : Rc.gotE b = er) (hB : B = w.heap.size) (hb : Below w.heap.size w x) (a0 a1 a2 a3 a4 a5 a6 a7 : Value) :
    GotH b w (.returned (.tuple #[.agg #[.string (tx h.path), .int .i64 h.version, .int .i64 h.size, .int .i64 h.from_, .int .i64 h.len, .int .i64 h.serial, .int .i64 h.sum, .bool h.gone], .int .i64 er]))
      ((((((((x.setCell ⟨B, 0, none⟩ a0).setCell ⟨B, 1, none⟩ a1).setCell ⟨B, 2, none⟩ a2).setCell ⟨B, 3, none⟩ a3).setCell ⟨B, 4, none⟩ a4).setCell ⟨B, 5, none⟩ a5).setCell ⟨B, 6, none⟩ a6).setCell ⟨B, 7, none⟩ a7) := by
  subst hB
  have hk : Kp (· = w.heap.size) x ((((((((x.setCell ⟨w.heap.size, 0, none⟩ a0).setCell ⟨w.heap.size, 1, none⟩ a1).setCell ⟨w.heap.size, 2, none⟩ a2).setCell ⟨w.heap.size, 3, none⟩ a3).setCell ⟨w.heap.size, 4, none⟩ a4).setCell ⟨w.heap.size, 5, none⟩ a5).setCell ⟨w.heap.size, 6, none⟩ a6).setCell ⟨w.heap.size, 7, none⟩ a7) :=
    (((((((Kp.store _ _ _ _).trans (Kp.store _ _ _ _)).trans (Kp.store _ _ _ _)).trans (Kp.store _ _ _ _)).trans (Kp.store _ _ _ _)).trans (Kp.store _ _ _ _)).trans (Kp.store _ _ _ _)).trans (Kp.store _ _ _ _)
  exact ⟨by rw [hu, he], hb.trans (hk.below hb.size (fun x hx => by omega))⟩
theorem flag_yes (w : World) : Calls Tryd.prog 53 #[.bool true] w fun e w' => e = .returned (.int .u8 1) ∧ w = w' := flag_any true w
theorem t_len (b : Tx) : (Rc.t1 b).1.length ≤ b.length ∧ (Rc.t2 b).1.length ≤ b.length ∧ (Rc.t3 b).1.length ≤ b.length ∧ (Rc.t4 b).1.length ≤ b.length ∧ (Rc.t5 b).1.length ≤ b.length ∧ (Rc.t6 b).1.length ≤ b.length ∧ (Rc.t7 b).1.length ≤ b.length := by
  have h1 : (Rc.t1 b).1.length ≤ b.length := Nat.le_trans (Cd.af_le _ _) (Cd.af_le _ (b, false))
  have h2 : (Rc.t2 b).1.length ≤ (Rc.t1 b).1.length := Cd.af_le _ _
  have h3 : (Rc.t3 b).1.length ≤ (Rc.t2 b).1.length := Cd.af_le _ _
  have h4 : (Rc.t4 b).1.length ≤ (Rc.t3 b).1.length := Cd.af_le _ _
  have h5 : (Rc.t5 b).1.length ≤ (Rc.t4 b).1.length := Cd.af_le _ _
  have h6 : (Rc.t6 b).1.length ≤ (Rc.t5 b).1.length := Cd.af_le _ _
  have h7 : (Rc.t7 b).1.length ≤ (Rc.t6 b).1.length := Cd.af_le _ _
  omega
theorem gone_beq (c : UInt8) : (((c.toNat : Nat) : Int) == 1) = (c == 1) := by
  rw [Bool.eq_iff_iff, beq_iff_eq, beq_iff_eq]
  constructor
  · intro h; exact UInt8.toNat.inj (by have : c.toNat = 1 := by omega
                                       rw [this]; rfl)
  · rintro rfl; rfl
set_option maxHeartbeats 4000000 in
theorem readHead_any (A : Option Addr) (b : Tx) (n C : Nat) (G : Nat → Prop) (w : World) (hn : n = b.length) (hl : n ≤ 1000000) (hA : A = none → n = 0 ∧ C = 0) (hr : RdL w A b G) (hk : Kept w) :
    Calls Tryd.prog 45 #[.slice A n C] w (GotH b w) := by
  have HB0 : Hid (Below w.heap.size w (w.alloc (headObj [] 0 0 0 0 0 0 false))) := Lib.hid ((Below.refl _ _).alloc (Nat.le_refl _) _)
  have HZ0 : Hid ((w.alloc (headObj [] 0 0 0 0 0 0 false)).heap[w.heap.size]? = some (headObj [] 0 0 0 0 0 0 false)) := Lib.hid (Go.Deep.blk_alloc_new _ _)
  have HR : Hid (RdL w A b G) := Lib.hid hr
  have HK := Lib.hid hk
  have HN := Lib.hid hn
  have hcall := newReader_any A b C G (w.alloc (headObj [] 0 0 0 0 0 0 false)) (by rw [← hn]; exact hA) (hr.old HB0.out) (by omega)
  rw [← hn] at hcall
  have hlen := t_len b
  rw [← hn] at hlen
  obtain ⟨l1, l2, l3, l4, l5, l6, l7⟩ := hlen
  obtain ⟨P, hP⟩ : ∃ P, P = Cd.txt (b, false) := ⟨_, rfl⟩
  obtain ⟨n1, hn1⟩ : ∃ k, k = Cd.num (Cd.tk 4 (Rc.t1 b)) := ⟨_, rfl⟩
  obtain ⟨n2, hn2⟩ : ∃ k, k = Cd.num (Cd.tk 4 (Rc.t2 b)) := ⟨_, rfl⟩
  obtain ⟨n3, hn3⟩ : ∃ k, k = Cd.num (Cd.tk 4 (Rc.t3 b)) := ⟨_, rfl⟩
  obtain ⟨n4, hn4⟩ : ∃ k, k = Cd.num (Cd.tk 4 (Rc.t4 b)) := ⟨_, rfl⟩
  obtain ⟨n5, hn5⟩ : ∃ k, k = Cd.num (Cd.tk 4 (Rc.t5 b)) := ⟨_, rfl⟩
  obtain ⟨n6, hn6⟩ : ∃ k, k = Cd.num (Cd.tk 4 (Rc.t6 b)) := ⟨_, rfl⟩
  obtain ⟨n7, hn7⟩ : ∃ k, k = (Cd.byt (Rc.t7 b)).toNat := ⟨_, rfl⟩
  have k7 : n7 < 256 := by rw [hn7]; exact (Cd.byt (Rc.t7 b)).toNat_lt
  obtain ⟨g7, hg7⟩ : ∃ g, g = (Cd.byt (Rc.t7 b) == 1) := ⟨_, rfl⟩
  have qg : ((n7 : Int) == 1) = g7 := by rw [hn7, hg7]; exact gone_beq _
  have hPl : P.length ≤ 1000 := by rw [hP]; have := (Cd.byt (b, false)).toNat_lt; have := Cd.tk_le (Cd.byt (b, false)).toNat (Cd.af 1 (b, false)); unfold Cd.txt; omega
  have HPA : Hid (Rc.parse b = ⟨P, n1, n2, n3, n4, n5, n6, g7⟩) := Lib.hid (by rw [hP, hn1, hn2, hn3, hn4, hn5, hn6, hg7]; rfl)
  have Hp := Lib.hid hP
  have H1 := Lib.hid hn1
  have H2 := Lib.hid hn2
  have H3 := Lib.hid hn3
  have H4 := Lib.hid hn4
  have H5 := Lib.hid hn5
  have H6 := Lib.hid hn6
  have H7 := Lib.hid hn7
  have HQ := Lib.hid qg
  have HPL := Lib.hid hPl
  have HC := Lib.hid hcall
  clear hr hk hcall hP hn1 hn2 hn3 hn4 hn5 hn6 hn7 hg7 qg hPl hn hA
  unfold headObj at HC
  go_enter Tryd.func45, Tryd.ntmps45
  go_wp2_with fail
  refine HC.out.mono ?_
  clear HC
  rintro e w1 ⟨gr, rfl, hlo, hr1, hb1⟩
  have HR1 := Lib.hid hr1
  have HB1 := Lib.hid (HB0.out.trans (hb1.mono HB0.out.size))
  have HLO : Hid (w.heap.size < gr) := Lib.hid (by have : (w.alloc (headObj [] 0 0 0 0 0 0 false)).heap.size ≤ gr := hlo; simp at this; omega)
  have HZ1 : Hid (w1.heap[w.heap.size]? = some (headObj [] 0 0 0 0 0 0 false)) := Lib.hid ((hb1.block _ (by simp)).trans (Go.Deep.blk_alloc_new _ _))
  obtain ⟨G2, hG2⟩ : ∃ G2 : Nat → Prop, G2 = (fun b => (w.alloc (headObj [] 0 0 0 0 0 0 false)).heap.size ≤ b ∧ b < gr) := ⟨_, rfl⟩
  have HGS : Hid (∀ b, G2 b → b < gr) := Lib.hid (by rw [hG2]; exact fun b h => h.2)
  have HR1' : Hid (Rr w1 gr (b, false) G2) := Lib.hid (by rw [hG2]; exact HR1.out)
  clear hlo hr1 hb1 HR1 hG2
  go_wp2_with fail
  have hcall := rtext_any gr (b, false) G2 w1 HR1'.out (by show b.length ≤ _; have := HN.out; omega)
  rw [← Hp.out] at hcall
  refine hcall.mono ?_
  clear hcall
  rintro e w2 ⟨rfl, hr2, hk2⟩
  have hr2' : Rr w2 gr (Rc.t1 b) G2 := hr2
  obtain ⟨hB, hhB⟩ : ∃ hB, hB = w2.heap.size := ⟨_, rfl⟩
  obtain ⟨wh, hwh⟩ : ∃ wh, wh = w2.alloc (headObj P 0 0 0 0 0 0 false) := ⟨_, rfl⟩
  have HWAY : Hid (Way w gr hB (Rc.t1 b) G2 (headObj P 0 0 0 0 0 0 false) (headObj [] 0 0 0 0 0 0 false) wh) := Lib.hid (by
    have h1 : gr < w2.heap.size := hr2.lt
    have hz2 := (hk2.block _ (heap_lt HZ1.out) (by have := HLO.out; omega)).trans HZ1.out
    have hb2 := HB1.out.trans (lo_g hk2 HB1.out.size (by have := HLO.out; omega))
    rw [hwh, hhB]
    exact ⟨hr2'.kp (S := fun _ => False) (Kp.of_below ((Below.refl _ _).alloc (Nat.le_refl _) _)) (fun h => h) (fun _ _ h => h), Go.Deep.blk_alloc_new _ _, (Below.heap_alloc _ _ _ (heap_lt hz2)).trans hz2, hb2.alloc hb2.size _, HLO.out, h1, HGS.out⟩)
  have HHB := Lib.hid hhB
  have HWH := Lib.hid hwh
  unfold headObj at HWH
  clear hr2 hr2' hk2 hhB hwh
  go_wp2_with fail
  rw [← HWH.out, ← HHB.out]
  have hcall := rint_any gr (Rc.t1 b) G2 wh HWAY.out.rr (by omega)
  rw [← H1.out] at hcall
  refine hcall.mono ?_
  clear hcall
  rintro e x1 ⟨rfl, hr, hk⟩
  have hr' : Rr x1 gr (Rc.t2 b) G2 := hr
  have hw := HWAY.out.red hr' hk
  obtain ⟨c0, c1, c2, c3, c4, c5, c6, c7⟩ := head8 hw.hd
  obtain ⟨f0, f1, f2, f3, f4, f5, f6, f7⟩ := head_free hw.hd
  have hs := hw.set 1 (.int .i64 n1) (cs' := #[.string (tx P), .int .i64 n1, .int .i64 0, .int .i64 0, .int .i64 0, .int .i64 0, .int .i64 0, .bool false]) rfl
  obtain ⟨y1, hy⟩ : ∃ y, y = x1.setCell ⟨hB, 1, none⟩ (.int .i64 n1) := ⟨_, rfl⟩
  rw [← hy] at hs
  have HW1 : Hid (Way w gr hB (Rc.t2 b) G2 (headObj P n1 0 0 0 0 0 false) (headObj [] 0 0 0 0 0 0 false) y1) := Lib.hid hs
  have HY1 := Lib.hid hy
  clear hr hr' hk hw hs hy
  go_wp2_with fail
  rw [← HY1.out]
  clear c0 c1 c2 c3 c4 c5 c6 c7 f0 f1 f2 f3 f4 f5 f6 f7
  have hcall := rint_any gr (Rc.t2 b) G2 y1 HW1.out.rr (by omega)
  rw [← H2.out] at hcall
  refine hcall.mono ?_
  clear hcall
  rintro e x2 ⟨rfl, hr, hk⟩
  have hr' : Rr x2 gr (Rc.t3 b) G2 := hr
  have hw := HW1.out.red hr' hk
  obtain ⟨c0, c1, c2, c3, c4, c5, c6, c7⟩ := head8 hw.hd
  obtain ⟨f0, f1, f2, f3, f4, f5, f6, f7⟩ := head_free hw.hd
  have hs := hw.set 2 (.int .i64 n2) (cs' := #[.string (tx P), .int .i64 n1, .int .i64 n2, .int .i64 0, .int .i64 0, .int .i64 0, .int .i64 0, .bool false]) rfl
  obtain ⟨y2, hy⟩ : ∃ y, y = x2.setCell ⟨hB, 2, none⟩ (.int .i64 n2) := ⟨_, rfl⟩
  rw [← hy] at hs
  have HW2 : Hid (Way w gr hB (Rc.t3 b) G2 (headObj P n1 n2 0 0 0 0 false) (headObj [] 0 0 0 0 0 0 false) y2) := Lib.hid hs
  have HY2 := Lib.hid hy
  clear hr hr' hk hw hs hy
  go_wp2_with fail
  rw [← HY2.out]
  clear c0 c1 c2 c3 c4 c5 c6 c7 f0 f1 f2 f3 f4 f5 f6 f7
  have hcall := rint_any gr (Rc.t3 b) G2 y2 HW2.out.rr (by omega)
  rw [← H3.out] at hcall
  refine hcall.mono ?_
  clear hcall
  rintro e x3 ⟨rfl, hr, hk⟩
  have hr' : Rr x3 gr (Rc.t4 b) G2 := hr
  have hw := HW2.out.red hr' hk
  obtain ⟨c0, c1, c2, c3, c4, c5, c6, c7⟩ := head8 hw.hd
  obtain ⟨f0, f1, f2, f3, f4, f5, f6, f7⟩ := head_free hw.hd
  have hs := hw.set 3 (.int .i64 n3) (cs' := #[.string (tx P), .int .i64 n1, .int .i64 n2, .int .i64 n3, .int .i64 0, .int .i64 0, .int .i64 0, .bool false]) rfl
  obtain ⟨y3, hy⟩ : ∃ y, y = x3.setCell ⟨hB, 3, none⟩ (.int .i64 n3) := ⟨_, rfl⟩
  rw [← hy] at hs
  have HW3 : Hid (Way w gr hB (Rc.t4 b) G2 (headObj P n1 n2 n3 0 0 0 false) (headObj [] 0 0 0 0 0 0 false) y3) := Lib.hid hs
  have HY3 := Lib.hid hy
  clear hr hr' hk hw hs hy
  go_wp2_with fail
  rw [← HY3.out]
  clear c0 c1 c2 c3 c4 c5 c6 c7 f0 f1 f2 f3 f4 f5 f6 f7
  have hcall := rint_any gr (Rc.t4 b) G2 y3 HW3.out.rr (by omega)
  rw [← H4.out] at hcall
  refine hcall.mono ?_
  clear hcall
  rintro e x4 ⟨rfl, hr, hk⟩
  have hr' : Rr x4 gr (Rc.t5 b) G2 := hr
  have hw := HW3.out.red hr' hk
  obtain ⟨c0, c1, c2, c3, c4, c5, c6, c7⟩ := head8 hw.hd
  obtain ⟨f0, f1, f2, f3, f4, f5, f6, f7⟩ := head_free hw.hd
  have hs := hw.set 4 (.int .i64 n4) (cs' := #[.string (tx P), .int .i64 n1, .int .i64 n2, .int .i64 n3, .int .i64 n4, .int .i64 0, .int .i64 0, .bool false]) rfl
  obtain ⟨y4, hy⟩ : ∃ y, y = x4.setCell ⟨hB, 4, none⟩ (.int .i64 n4) := ⟨_, rfl⟩
  rw [← hy] at hs
  have HW4 : Hid (Way w gr hB (Rc.t5 b) G2 (headObj P n1 n2 n3 n4 0 0 false) (headObj [] 0 0 0 0 0 0 false) y4) := Lib.hid hs
  have HY4 := Lib.hid hy
  clear hr hr' hk hw hs hy
  go_wp2_with fail
  rw [← HY4.out]
  clear c0 c1 c2 c3 c4 c5 c6 c7 f0 f1 f2 f3 f4 f5 f6 f7
  have hcall := rint_any gr (Rc.t5 b) G2 y4 HW4.out.rr (by omega)
  rw [← H5.out] at hcall
  refine hcall.mono ?_
  clear hcall
  rintro e x5 ⟨rfl, hr, hk⟩
  have hr' : Rr x5 gr (Rc.t6 b) G2 := hr
  have hw := HW4.out.red hr' hk
  obtain ⟨c0, c1, c2, c3, c4, c5, c6, c7⟩ := head8 hw.hd
  obtain ⟨f0, f1, f2, f3, f4, f5, f6, f7⟩ := head_free hw.hd
  have hs := hw.set 5 (.int .i64 n5) (cs' := #[.string (tx P), .int .i64 n1, .int .i64 n2, .int .i64 n3, .int .i64 n4, .int .i64 n5, .int .i64 0, .bool false]) rfl
  obtain ⟨y5, hy⟩ : ∃ y, y = x5.setCell ⟨hB, 5, none⟩ (.int .i64 n5) := ⟨_, rfl⟩
  rw [← hy] at hs
  have HW5 : Hid (Way w gr hB (Rc.t6 b) G2 (headObj P n1 n2 n3 n4 n5 0 false) (headObj [] 0 0 0 0 0 0 false) y5) := Lib.hid hs
  have HY5 := Lib.hid hy
  clear hr hr' hk hw hs hy
  go_wp2_with fail
  rw [← HY5.out]
  clear c0 c1 c2 c3 c4 c5 c6 c7 f0 f1 f2 f3 f4 f5 f6 f7
  have hcall := rint_any gr (Rc.t6 b) G2 y5 HW5.out.rr (by omega)
  rw [← H6.out] at hcall
  refine hcall.mono ?_
  clear hcall
  rintro e x6 ⟨rfl, hr, hk⟩
  have hr' : Rr x6 gr (Rc.t7 b) G2 := hr
  have hw := HW5.out.red hr' hk
  obtain ⟨c0, c1, c2, c3, c4, c5, c6, c7⟩ := head8 hw.hd
  obtain ⟨f0, f1, f2, f3, f4, f5, f6, f7⟩ := head_free hw.hd
  have hs := hw.set 6 (.int .i64 n6) (cs' := #[.string (tx P), .int .i64 n1, .int .i64 n2, .int .i64 n3, .int .i64 n4, .int .i64 n5, .int .i64 n6, .bool false]) rfl
  obtain ⟨y6, hy⟩ : ∃ y, y = x6.setCell ⟨hB, 6, none⟩ (.int .i64 n6) := ⟨_, rfl⟩
  rw [← hy] at hs
  have HW6 : Hid (Way w gr hB (Rc.t7 b) G2 (headObj P n1 n2 n3 n4 n5 n6 false) (headObj [] 0 0 0 0 0 0 false) y6) := Lib.hid hs
  have HY6 := Lib.hid hy
  clear hr hr' hk hw hs hy
  go_wp2_with fail
  rw [← HY6.out]
  clear c0 c1 c2 c3 c4 c5 c6 c7 f0 f1 f2 f3 f4 f5 f6 f7
  have hcall := rbyte_any gr (Rc.t7 b) G2 y6 HW6.out.rr (by omega)
  rw [← H7.out] at hcall
  refine hcall.mono ?_
  clear hcall
  rintro e x7 ⟨rfl, hr, hk⟩
  have hr' : Rr x7 gr (Rc.t8 b) G2 := hr
  have hw := HW6.out.red hr' hk
  obtain ⟨c0, c1, c2, c3, c4, c5, c6, c7⟩ := head8 hw.hd
  obtain ⟨f0, f1, f2, f3, f4, f5, f6, f7⟩ := head_free hw.hd
  have hs := hw.set 7 (.bool g7) (cs' := #[.string (tx P), .int .i64 n1, .int .i64 n2, .int .i64 n3, .int .i64 n4, .int .i64 n5, .int .i64 n6, .bool g7]) rfl
  obtain ⟨y7, hy⟩ : ∃ y, y = x7.setCell ⟨hB, 7, none⟩ (.bool g7) := ⟨_, rfl⟩
  rw [← hy] at hs
  have HW7 : Hid (Way w gr hB (Rc.t8 b) G2 (headObj P n1 n2 n3 n4 n5 n6 g7) (headObj [] 0 0 0 0 0 0 false) y7) := Lib.hid hs
  have HY7 := Lib.hid hy
  obtain ⟨d0, d1, d2, d3, d4, d5, d6, d7⟩ := head8 hs.hd
  rw [hy] at d0 d1 d2 d3 d4 d5 d6 d7
  clear hr hr' hk hw hs hy
  have hqg := HQ.out
  go_wp2_with (go_at_call 53; refine (flag_yes _).mono ?_; rintro e wf ⟨rfl, hwf⟩; subst hwf; try rw [hqg])
  rw [← HY7.out]
  clear c0 c1 c2 c3 c4 c5 c6 c7 f0 f1 f2 f3 f4 f5 f6 f7 d0 d1 d2 d3 d4 d5 d6 d7 hqg l1 l2 l3 l4 l5 l6 l7
  have hPm : P.length ≤ maxLen := by unfold maxLen; have := HPL.out; omega
  have hK7 : Kept y7 := HK.out.old HW7.out.bel
  have hcall := rightHead_any P n1 n2 n3 n4 n5 n6 g7 y7 hPm hK7
  have HPM := Lib.hid hPm
  clear hPm hK7
  by_cases hok : Rc.Ok ⟨P, n1, n2, n3, n4, n5, n6, g7⟩
  · rw [decide_eq_true hok] at hcall
    have HP : Hid (Rc.put ⟨P, n1, n2, n3, n4, n5, n6, g7⟩ = Rc.blk (Rc.parse b)) := Lib.hid (by rw [HPA.out]; exact Rc.put_ok hok)
    have HOK := Lib.hid hok
    clear hok
    refine hcall.mono ?_
    clear hcall
    rintro e x8 ⟨rfl, hb⟩
    have HW8 := Lib.hid (HW7.out.old hb)
    obtain ⟨d0, d1, d2, d3, d4, d5, d6, d7⟩ := head8 HW8.out.hd
    clear hb
    go_wp2_with fail
    refine (headBytes_any P n1 n2 n3 n4 n5 n6 g7 x8 HPM.out (HK.out.old HW8.out.bel)).mono ?_
    rintro e x9 ⟨A9, m9, C9, rfl, hm9, -, -, -, hr9, hb9⟩
    have HW9 := Lib.hid (HW8.out.old hb9)
    have HR9 := Lib.hid hr9
    have HM9 := Lib.hid hm9
    obtain ⟨z0, z1, z2, z3, z4, z5, z6, z7⟩ := head8 HW9.out.zr
    obtain ⟨f0, f1, f2, f3, f4, f5, f6, f7⟩ := head_free HW9.out.zr
    clear d0 d1 d2 d3 d4 d5 d6 d7 hr9 hm9 hb9
    obtain ⟨d0, d1, d2, d3, d4, d5, d6, d7⟩ := head8 HW9.out.hd
    have heq := equal_any A9 A _ b m9 n C9 C _ _ x9 HM9.out HN.out HR9.out (HR.out.old HW9.out.bel)
    by_cases hg : Rc.blk (Rc.parse b) = b
    · have hq : (Rc.put ⟨P, n1, n2, n3, n4, n5, n6, g7⟩ == b) = true := by rw [HP.out, hg]; simp
      rw [hq] at heq
      have hgood : Rc.Good b := ⟨by rw [HPA.out]; exact HOK.out, hg⟩
      have HG : Hid (Rc.got b = ⟨P, n1, n2, n3, n4, n5, n6, g7⟩) := Lib.hid ((Rc.got_yes hgood).trans HPA.out)
      have HGE := Lib.hid (Rc.gotE_yes hgood)
      have HEQ := Lib.hid heq
      clear hq hgood hg heq
      go_wp2_with fail
      refine HEQ.out.mono ?_
      rintro e xa ⟨rfl, hxa⟩
      subst hxa
      go_wp2
      exact bodyPost_ret (v := .tuple #[.agg #[.string (tx P), .int .i64 n1, .int .i64 n2, .int .i64 n3, .int .i64 n4, .int .i64 n5, .int .i64 n6, .bool g7], .int .i64 0]) (by simp [results, Tryd.results45, go_sem, z0, z1, z2, z3, z4, z5, z6, z7]) rfl (GotH.stored (h := ⟨P, n1, n2, n3, n4, n5, n6, g7⟩) HG.out HGE.out rfl HW9.out.bel _ _ _ _ _ _ _ _)
    · have hq : (Rc.put ⟨P, n1, n2, n3, n4, n5, n6, g7⟩ == b) = false := by rw [HP.out]; simpa using hg
      rw [hq] at heq
      have hbad : ¬ Rc.Good b := fun h => hg h.2
      have HG := Lib.hid (Rc.got_no hbad)
      have HGE := Lib.hid (Rc.gotE_no hbad)
      have HEQ := Lib.hid heq
      clear hq hbad hg heq
      go_wp2_with fail
      refine HEQ.out.mono ?_
      rintro e xa ⟨rfl, hxa⟩
      subst hxa
      go_wp2
      exact bodyPost_ret (v := .tuple #[.agg #[.string ⟨#[]⟩, .int .i64 0, .int .i64 0, .int .i64 0, .int .i64 0, .int .i64 0, .int .i64 0, .bool false], .int .i64 2]) (by simp [results, Tryd.results45, go_sem, z0, z1, z2, z3, z4, z5, z6, z7]) rfl (GotH.stored (h := Rc.H.zero) HG.out HGE.out rfl HW9.out.bel _ _ _ _ _ _ _ _)
  · rw [decide_eq_false hok] at hcall
    have hbad : ¬ Rc.Good b := fun h => hok (by have := h.1; rwa [HPA.out] at this)
    have HG := Lib.hid (Rc.got_no hbad)
    have HGE := Lib.hid (Rc.gotE_no hbad)
    clear hok hbad
    refine hcall.mono ?_
    clear hcall
    rintro e x8 ⟨rfl, hb⟩
    have HW8 := Lib.hid (HW7.out.old hb)
    clear hb
    obtain ⟨z0, z1, z2, z3, z4, z5, z6, z7⟩ := head8 HW8.out.zr
    obtain ⟨f0, f1, f2, f3, f4, f5, f6, f7⟩ := head_free HW8.out.zr
    go_wp2
    exact bodyPost_ret (v := .tuple #[.agg #[.string ⟨#[]⟩, .int .i64 0, .int .i64 0, .int .i64 0, .int .i64 0, .int .i64 0, .int .i64 0, .bool false], .int .i64 2]) (by simp [results, Tryd.results45, go_sem, z0, z1, z2, z3, z4, z5, z6, z7]) rfl (GotH.stored (h := Rc.H.zero) HG.out HGE.out rfl HW8.out.bel _ _ _ _ _ _ _ _)
end Go.Proofs.YtbijjgicjkmopaaDoor
