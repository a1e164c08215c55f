/- Bytes that a call of the document's own answers: its own row. What the document's own HeadBytes answers. What Text of the document's own Reader reads. A Reader of the document's own at work, and what lies beside it. What the document's own ReadHead answers. -/
import Derived.Test.YtndofmoepjfnfaaGreatMay
import Derived.Test.YtndofmoepjfnfaaGreatMbb
import Derived.Test.YtndofmoepjfnfaaGreatMba
import Derived.Test.YtndofmoepjfnfaaGreatMao
import Derived.Test.YtndofmoepjfnfaaGreatMau
namespace Go.Proofs.YtndofmoepjfnfaaGreat
open Go.RowKit
open Pt (Tx)

theorem OwnL.lower {w : World} {B B' : Nat} {v : Value} {l : Tx} (h : OwnL w B v l) (hb : B' ≤ B) : OwnL w B' v l := by
  refine ⟨h.1, ?_⟩
  rcases h.2 with h0 | ⟨g, cap, cur, e, hg, r⟩
  · exact .inl h0
  · exact .inr ⟨g, cap, cur, e, Nat.le_trans hb hg, r⟩
/-- bytes are answered, a row of its own; or nothing -/
def AnsO (l : Tx) (w : World) (e : Ending) (w' : World) : Prop :=
  ∃ A n C, e = .returned (.slice A n C) ∧ OwnL w' w.heap.size (.slice A n C) l ∧ Below w.heap.size w w'
theorem AnsO.nil {w w' : World} (h : Below w.heap.size w w') : AnsO [] w (.returned (.slice none 0 0)) w' := ⟨none, 0, 0, rfl, OwnL.nil _ _, h⟩
theorem AnsO.toT {l : Tx} {w w' : World} {e : Ending} (h : AnsO l w e w') : AnsT l w e w' := by
  obtain ⟨A, n, C, h1, h2, h3⟩ := h
  obtain ⟨A', C', e', g1, g2, g3, g4⟩ := h2.rd
  injection e' with x1 x2 x3
  subst x1 x3
  exact ⟨A, n, C, h1, x2, by rw [x2]; exact g1, g2, fun h => by rw [x2]; exact g3 h, g4.mono fun _ h => h.1, h3⟩
theorem RefAt.doneO {w : World} {gr : Nat} {o : Obj} {l l' : Tx} {x : World} (h : RefAt w gr o l x) (hl : l = l') : ∃ A C, x.cell? ⟨gr, 0, none⟩ = some (.slice A l.length C) ∧ AnsO l' w (.returned (.slice A l.length C)) x := by
  subst hl
  obtain ⟨v, hv⟩ := h.rw_
  obtain ⟨A, C, rfl, g1, g2, g3, g4⟩ := hv.2.rd
  exact ⟨A, C, heap_cell hv.1, A, l.length, C, rfl, hv.2.lower (Nat.le_of_lt h.lo), h.bel⟩
end Go.Proofs.YtndofmoepjfnfaaGreat
namespace Go.Proofs.YtndofmoepjfnfaaGreat
open Go.RowKit
open Pt (Tx)

theorem Turned.head {g base B : Nat} {a b : World} {p : Tx} {v z f l s m : Int} {gn : Bool} (h : Turned g base a b) (hB : B ≠ g) (hu : a.heap[B]? = some (headObj p v z f l s m gn)) : b.heap[B]? = some (headObj p v z f l s m gn) :=
  h.other hB (by decide) hu
set_option maxHeartbeats 1000000 in
theorem refHeadBytes_no (p : Tx) (v z f l s m : Int) (g : Bool) (w : World) (hl : p.length ≤ maxLen) (hok : ¬ Rc.Ok ⟨p, v, z, f, l, s, m, g⟩) :
    Calls Tryz.prog 40 #[.agg #[.string (tx p), .int .i64 v, .int .i64 z, .int .i64 f, .int .i64 l, .int .i64 s, .int .i64 m, .bool g]] w (AnsO (Rc.put ⟨p, v, z, f, l, s, m, g⟩) w) := by
  have HB0 : Hid (Below w.heap.size w (w.alloc (headObj p v z f l s m g))) := Lib.hid ((Below.refl _ _).alloc (Nat.le_refl _) _)
  have HU0 : Hid ((w.alloc (headObj p v z f l s m g)).heap[w.heap.size]? = some (headObj p v z f l s m g)) := Lib.hid (Go.Deep.blk_alloc_new _ _)
  have hcall := refRightHead_any p v z f l s m g (w.alloc (headObj p v z f l s m g)) hl
  rw [decide_eq_false hok] at hcall
  have HC := Lib.hid hcall
  have HP := Lib.hid (Rc.put_no hok)
  clear hl hok hcall
  obtain ⟨a0, a1, a2, a3, a4, a5, a6, a7⟩ := head8 HU0.out
  unfold headObj at a0 a1 a2 a3 a4 a5 a6 a7 HC
  go_enter Tryz.func40, Tryz.ntmps40
  go_wp2_with fail
  refine HC.out.mono ?_
  rintro e w1 ⟨rfl, hb⟩
  have HB1 := Lib.hid (HB0.out.trans (hb.mono HB0.out.size))
  clear hb a0 a1 a2 a3 a4 a5 a6 a7
  go_wp2
  go_ret
  rw [HP.out]
  exact AnsO.nil HB1.out
set_option maxHeartbeats 4000000 in
theorem refHeadBytes_yes (p : Tx) (v z f l s m : Int) (g : Bool) (w : World) (hl : p.length ≤ maxLen) (hok : Rc.Ok ⟨p, v, z, f, l, s, m, g⟩) :
    Calls Tryz.prog 40 #[.agg #[.string (tx p), .int .i64 v, .int .i64 z, .int .i64 f, .int .i64 l, .int .i64 s, .int .i64 m, .bool g]] w (AnsO (Rc.put ⟨p, v, z, f, l, s, m, g⟩) w) := by
  have HB0 : Hid (Below w.heap.size w (w.alloc (headObj p v z f l s m g))) := Lib.hid ((Below.refl _ _).alloc (Nat.le_refl _) _)
  have HU0 : Hid ((w.alloc (headObj p v z f l s m g)).heap[w.heap.size]? = some (headObj p v z f l s m g)) := Lib.hid (Go.Deep.blk_alloc_new _ _)
  have hcall := refRightHead_any p v z f l s m g (w.alloc (headObj p v z f l s m g)) hl
  rw [decide_eq_true hok] at hcall
  have HC := Lib.hid hcall
  have HP := Lib.hid (Rc.put_ok hok)
  have HS := Lib.hid hok.short
  have HL := Lib.hid hl
  clear hl hok hcall
  obtain ⟨a0, a1, a2, a3, a4, a5, a6, a7⟩ := head8 HU0.out
  unfold headObj at a0 a1 a2 a3 a4 a5 a6 a7 HC
  go_enter Tryz.func40, Tryz.ntmps40
  go_wp2_with fail
  refine HC.out.mono ?_
  rintro e w1 ⟨rfl, hb⟩
  obtain ⟨gr, hgr⟩ : ∃ gr, gr = w1.heap.size := ⟨_, rfl⟩
  obtain ⟨wb, hwb⟩ : ∃ wb, wb = w1.alloc (.cells #[.slice none 0 0] 98) := ⟨_, rfl⟩
  have hU1 := below_head hb HU0.out
  have hB1 := HB0.out.trans (hb.mono HB0.out.size)
  have HW2 : Hid (RefAt w gr (headObj p v z f l s m g) [] wb) := Lib.hid (by
    rw [hwb, hgr]
    exact ⟨⟨_, Go.Deep.blk_alloc_new _ _, OwnL.nil _ _⟩, (Below.heap_alloc _ _ _ (heap_lt hU1)).trans hU1, hB1.alloc hB1.size _, heap_lt hU1⟩)
  have HWB := Lib.hid hwb
  have HGR := Lib.hid hgr
  clear hb a0 a1 a2 a3 a4 a5 a6 a7 hU1 hB1 hwb hgr
  obtain ⟨a0, a1, a2, a3, a4, a5, a6, a7⟩ := head8 HW2.out.hd
  rw [HWB.out] at a0 a1 a2 a3 a4 a5 a6 a7
  go_wp2_with fail
  rw [← HWB.out, ← HGR.out]
  obtain ⟨v2, hv2⟩ := HW2.out.rw_
  refine (vtext_any gr gr v2 [] p wb hv2 HW2.out.base (by simp) HL.out).mono ?_
  intro e w3 hW
  have HW3 : Hid (RefAt w gr (headObj p v z f l s m g) _ w3) := Lib.hid (HW2.out.wrote (by decide) hW)
  obtain ⟨rfl, -, -⟩ := hW
  clear hv2 a0 a1 a2 a3 a4 a5 a6 a7
  obtain ⟨a0, a1, a2, a3, a4, a5, a6, a7⟩ := head8 HW3.out.hd
  go_wp2_with fail
  obtain ⟨v3, hv3⟩ := HW3.out.rw_
  refine (vint_any gr gr v3 _ v w3 hv3 HW3.out.base (by simp [Cd.tb_len]; omega)).mono ?_
  intro e w4 hW
  have HW4 : Hid (RefAt w gr (headObj p v z f l s m g) _ w4) := Lib.hid (HW3.out.wrote (by decide) hW)
  obtain ⟨rfl, -, -⟩ := hW
  clear hv3 a0 a1 a2 a3 a4 a5 a6 a7
  obtain ⟨a0, a1, a2, a3, a4, a5, a6, a7⟩ := head8 HW4.out.hd
  go_wp2_with fail
  obtain ⟨v4, hv4⟩ := HW4.out.rw_
  refine (vint_any gr gr v4 _ z w4 hv4 HW4.out.base (by simp [Cd.be4_len, Cd.tb_len]; omega)).mono ?_
  intro e w5 hW
  have HW5 : Hid (RefAt w gr (headObj p v z f l s m g) _ w5) := Lib.hid (HW4.out.wrote (by decide) hW)
  obtain ⟨rfl, -, -⟩ := hW
  clear hv4 a0 a1 a2 a3 a4 a5 a6 a7
  obtain ⟨a0, a1, a2, a3, a4, a5, a6, a7⟩ := head8 HW5.out.hd
  go_wp2_with fail
  obtain ⟨v5, hv5⟩ := HW5.out.rw_
  refine (vint_any gr gr v5 _ f w5 hv5 HW5.out.base (by simp [Cd.be4_len, Cd.tb_len]; omega)).mono ?_
  intro e w6 hW
  have HW6 : Hid (RefAt w gr (headObj p v z f l s m g) _ w6) := Lib.hid (HW5.out.wrote (by decide) hW)
  obtain ⟨rfl, -, -⟩ := hW
  clear hv5 a0 a1 a2 a3 a4 a5 a6 a7
  obtain ⟨a0, a1, a2, a3, a4, a5, a6, a7⟩ := head8 HW6.out.hd
  go_wp2_with fail
  obtain ⟨v6, hv6⟩ := HW6.out.rw_
  refine (vint_any gr gr v6 _ l w6 hv6 HW6.out.base (by simp [Cd.be4_len, Cd.tb_len]; omega)).mono ?_
  intro e w7 hW
  have HW7 : Hid (RefAt w gr (headObj p v z f l s m g) _ w7) := Lib.hid (HW6.out.wrote (by decide) hW)
  obtain ⟨rfl, -, -⟩ := hW
  clear hv6 a0 a1 a2 a3 a4 a5 a6 a7
  obtain ⟨a0, a1, a2, a3, a4, a5, a6, a7⟩ := head8 HW7.out.hd
  go_wp2_with fail
  obtain ⟨v7, hv7⟩ := HW7.out.rw_
  refine (vint_any gr gr v7 _ s w7 hv7 HW7.out.base (by simp [Cd.be4_len, Cd.tb_len]; omega)).mono ?_
  intro e w8 hW
  have HW8 : Hid (RefAt w gr (headObj p v z f l s m g) _ w8) := Lib.hid (HW7.out.wrote (by decide) hW)
  obtain ⟨rfl, -, -⟩ := hW
  clear hv7 a0 a1 a2 a3 a4 a5 a6 a7
  obtain ⟨a0, a1, a2, a3, a4, a5, a6, a7⟩ := head8 HW8.out.hd
  go_wp2_with fail
  obtain ⟨v8, hv8⟩ := HW8.out.rw_
  refine (vint_any gr gr v8 _ m w8 hv8 HW8.out.base (by simp [Cd.be4_len, Cd.tb_len]; omega)).mono ?_
  intro e w9 hW
  have HW9 : Hid (RefAt w gr (headObj p v z f l s m g) _ w9) := Lib.hid (HW8.out.wrote (by decide) hW)
  obtain ⟨rfl, -, -⟩ := hW
  clear hv8 a0 a1 a2 a3 a4 a5 a6 a7
  obtain ⟨a0, a1, a2, a3, a4, a5, a6, a7⟩ := head8 HW9.out.hd
  obtain ⟨v9, hv9⟩ := HW9.out.rw_
  have hcall := vbyte_any gr gr v9 _ (Rc.goneB g) w9 hv9 HW9.out.base (by simp [Cd.be4_len, Cd.tb_len]; omega)
  have HT : Hid ((((((((([] ++ Cd.tb p) ++ Cd.be4 v) ++ Cd.be4 z) ++ Cd.be4 f) ++ Cd.be4 l) ++ Cd.be4 s) ++ Cd.be4 m) ++ [Rc.goneB g]) = Rc.blk ⟨p, v, z, f, l, s, m, g⟩) := Lib.hid (by unfold Rc.blk; simp only [List.nil_append, List.append_assoc])
  rw [HT.out] at hcall
  have HC8 := Lib.hid hcall
  clear hcall hv9 HT
  have H8 : Hid (∀ e y, RefWrote gr gr (Rc.blk ⟨p, v, z, f, l, s, m, g⟩) w9 e y → e = .returned (.tuple #[]) ∧ ∃ A n C, y.cell? ⟨gr, 0, none⟩ = some (.slice A n C) ∧ AnsO (Rc.blk ⟨p, v, z, f, l, s, m, g⟩) w (.returned (.slice A n C)) y) := Lib.hid (fun e y hW => by
    obtain ⟨A, C, h1, h2⟩ := (HW9.out.wrote (by decide) hW).doneO rfl
    exact ⟨hW.1, A, _, C, h1, h2⟩)
  clear HW9
  cases g with
  | true =>
    have hcall : Calls Tryz.prog 37 #[.pointer (some ⟨gr, 0, none⟩), .int .u8 1] w9 _ := HC8.out
    have HD := Lib.hid hcall
    clear hcall
    go_wp2_with fail
    refine HD.out.mono ?_
    intro e y hW
    obtain ⟨rfl, A, n, C, c0, hans⟩ := H8.out e y hW
    have HA := Lib.hid hans
    clear hans hW a0 a1 a2 a3 a4 a5 a6 a7
    go_wp2
    go_ret
    rw [HP.out]
    exact HA.out
  | false =>
    have hcall : Calls Tryz.prog 37 #[.pointer (some ⟨gr, 0, none⟩), .int .u8 0] w9 _ := HC8.out
    have HD := Lib.hid hcall
    clear hcall
    go_wp2_with fail
    refine HD.out.mono ?_
    intro e y hW
    obtain ⟨rfl, A, n, C, c0, hans⟩ := H8.out e y hW
    have HA := Lib.hid hans
    clear hans hW a0 a1 a2 a3 a4 a5 a6 a7
    go_wp2
    go_ret
    rw [HP.out]
    exact HA.out
theorem refHeadBytes_own (p : Tx) (v z f l s m : Int) (g : Bool) (w : World) (hl : p.length ≤ maxLen) :
    Calls Tryz.prog 40 #[.agg #[.string (tx p), .int .i64 v, .int .i64 z, .int .i64 f, .int .i64 l, .int .i64 s, .int .i64 m, .bool g]] w (AnsO (Rc.put ⟨p, v, z, f, l, s, m, g⟩) w) := by
  by_cases hok : Rc.Ok ⟨p, v, z, f, l, s, m, g⟩
  · exact refHeadBytes_yes p v z f l s m g w hl hok
  · exact refHeadBytes_no p v z f l s m g w hl hok
theorem refHeadBytes_any (p : Tx) (v z f l s m : Int) (g : Bool) (w : World) (hl : p.length ≤ maxLen) :
    Calls Tryz.prog 40 #[.agg #[.string (tx p), .int .i64 v, .int .i64 z, .int .i64 f, .int .i64 l, .int .i64 s, .int .i64 m, .bool g]] w (AnsT (Rc.put ⟨p, v, z, f, l, s, m, g⟩) w) :=
  (refHeadBytes_own p v z f l s m g w hl).mono fun _ _ h => h.toT
end Go.Proofs.YtndofmoepjfnfaaGreat
namespace Go.Proofs.YtndofmoepjfnfaaGreat
open Go.RowKit
open Pt (Tx)

set_option maxRecDepth 100000 in
theorem refText_any (g : Nat) (s : Cd.St) (G : Nat → Prop) (w : World) (h : Rf w g s G) :
    Calls Tryz.prog 67 #[.pointer (some ⟨g, 0, none⟩)] w (RefRed (.string (tx (Cd.txt s))) g (Cd.afT s) G w) := by
  have hb := (Cd.byt s).toNat_lt
  have hn : (Cd.byt s).toNat ≤ 1000 := by omega
  clear hb
  go_enter Tryz.func67, Tryz.ntmps67
  go_wp2_with (first
    | (go_at_call 28; refine (refByte_any g s G w h).mono ?_; rintro e w1 ⟨rfl, hR, hK⟩; have HK := Lib.hid hK; clear hK)
    | (go_at_call 32; refine (refTake_any g (Cd.byt s).toNat (Cd.af 1 s) G w1 hR hn).mono ?_; rintro e w2 ⟨A, c, rfl, hr, hR2, hK2⟩; have hcv := hr.str c; have HR2 := Lib.hid hR2; have HK2 := Lib.hid hK2; clear hr hR2 hK2))
  go_ret
  exact ⟨rfl, HR2.out, HK.out.trans HK2.out⟩
end Go.Proofs.YtndofmoepjfnfaaGreat
namespace Go.Proofs.YtndofmoepjfnfaaGreat
open Go.RowKit
open Pt (Tx)

/-- the state of the document's own that reads -/
structure WayF (w : World) (gr hB : Nat) (s : Cd.St) (G : Nat → Prop) (o z : Obj) (x : World) : Prop where
  rr : Rf x gr s G
  hd : x.heap[hB]? = some o
  zr : x.heap[w.heap.size]? = some z
  bel : Below w.heap.size w x
  lo : w.heap.size < gr
  ne : gr < hB
  gs : ∀ b, G b → b < gr
theorem WayF.red {w : World} {gr hB : Nat} {s s' : Cd.St} {G : Nat → Prop} {o z : Obj} {x y : World} (h : WayF w gr hB s G o z x) (hr : Rf y gr s' G) (hk : Kp (· = gr) x y) : WayF w gr hB s' G o z y := by
  have h1 : hB < x.heap.size := by obtain ⟨hlt, _⟩ := Array.getElem?_eq_some_iff.1 h.hd; exact hlt
  have h2 : w.heap.size < x.heap.size := by obtain ⟨hlt, _⟩ := Array.getElem?_eq_some_iff.1 h.zr; exact hlt
  have := h.lo
  have := h.ne
  exact ⟨hr, (hk.block _ h1 (by omega)).trans h.hd, (hk.block _ h2 (by omega)).trans h.zr, h.bel.trans (lo_g hk h.bel.size (by omega)), h.lo, h.ne, h.gs⟩
theorem WayF.set {w : World} {gr hB : Nat} {s : Cd.St} {G : Nat → Prop} {z : Obj} {x : World} {cs cs' : Array Value} {t : TypeId} {fr : Nat × Nat} (h : WayF w gr hB s G (.cells cs t fr) z x) (i : Nat) (v : Value) (hc : cs.setIfInBounds i v = cs') : WayF w gr hB s G (.cells cs' t fr) z (x.setCell ⟨hB, i, none⟩ v) := by
  subst hc
  have hk : Kp (· = hB) x (x.setCell ⟨hB, i, none⟩ v) := Kp.store _ _ _ _
  have h2 : w.heap.size < x.heap.size := by obtain ⟨hlt, _⟩ := Array.getElem?_eq_some_iff.1 h.zr; exact hlt
  have := h.lo
  have := h.ne
  exact ⟨h.rr.kp hk (by omega) (fun b hb => by have := h.gs b hb; omega), heap_set h.hd _, (hk.block _ h2 (by omega)).trans h.zr, h.bel.trans (lo_g hk h.bel.size (by omega)), h.lo, h.ne, h.gs⟩
theorem WayF.old {w : World} {gr hB : Nat} {s : Cd.St} {G : Nat → Prop} {o z : Obj} {x y : World} (h : WayF w gr hB s G o z x) (hb : Below x.heap.size x y) : WayF w gr hB s G o z y := by
  have h1 : hB < x.heap.size := by obtain ⟨hlt, _⟩ := Array.getElem?_eq_some_iff.1 h.hd; exact hlt
  have h2 : w.heap.size < x.heap.size := by obtain ⟨hlt, _⟩ := Array.getElem?_eq_some_iff.1 h.zr; exact hlt
  exact ⟨h.rr.kp (S := fun _ => False) (Kp.of_below hb) (fun h => h) (fun _ _ h => h), (hb.block _ h1).trans h.hd, (hb.block _ h2).trans h.zr, h.bel.trans (hb.mono h.bel.size), h.lo, h.ne, h.gs⟩
/-- ahead of what is made -/
structure WayG (w : World) (gr : Nat) (s : Cd.St) (G : Nat → Prop) (z : Obj) (x : World) : Prop where
  rr : Rf x gr s G
  zr : x.heap[w.heap.size]? = some z
  bel : Below w.heap.size w x
  lo : w.heap.size < gr
  gs : ∀ b, G b → b < gr
theorem WayG.red {w : World} {gr : Nat} {s s' : Cd.St} {G : Nat → Prop} {z : Obj} {x y : World} (h : WayG w gr s G z x) (hr : Rf y gr s' G) (hk : Kp (· = gr) x y) : WayG w gr s' G z y := by
  have h2 : w.heap.size < x.heap.size := by obtain ⟨hlt, _⟩ := Array.getElem?_eq_some_iff.1 h.zr; exact hlt
  have := h.lo
  exact ⟨hr, (hk.block _ h2 (by omega)).trans h.zr, h.bel.trans (lo_g hk h.bel.size (by omega)), h.lo, h.gs⟩
theorem WayG.make {w : World} {gr : Nat} {s : Cd.St} {G : Nat → Prop} {z : Obj} {x : World} (h : WayG w gr s G z x) (o : Obj) : WayF w gr x.heap.size s G o z (x.alloc o) := by
  have h2 : w.heap.size < x.heap.size := by obtain ⟨hlt, _⟩ := Array.getElem?_eq_some_iff.1 h.zr; exact hlt
  have hb : Below x.heap.size x (x.alloc o) := (Below.refl _ _).alloc (Nat.le_refl _) _
  exact ⟨h.rr.kp (S := fun _ => False) (Kp.of_below hb) (fun h => h) (fun _ _ h => h), Go.Deep.blk_alloc_new _ _, (hb.block _ h2).trans h.zr, h.bel.trans (hb.mono h.bel.size), h.lo, h.rr.lt, h.gs⟩
theorem WayF.kp {w : World} {gr hB : Nat} {s : Cd.St} {G S : Nat → Prop} {o z : Obj} {x y : World} (h : WayF w gr hB s G o z x) (hk : Kp S x y) (h1 : ¬ S gr) (h2 : ¬ S hB) (h3 : ¬ S w.heap.size) (h4 : ∀ b, G b → ¬ S b) (h5 : ∀ b, S b → w.heap.size ≤ b) : WayF w gr hB s G o z y := by
  have e1 : hB < x.heap.size := by obtain ⟨hlt, _⟩ := Array.getElem?_eq_some_iff.1 h.hd; exact hlt
  have e2 : w.heap.size < x.heap.size := by obtain ⟨hlt, _⟩ := Array.getElem?_eq_some_iff.1 h.zr; exact hlt
  exact ⟨h.rr.kp hk h1 h4, (hk.block _ e1 h2).trans h.hd, (hk.block _ e2 h3).trans h.zr, h.bel.trans (hk.below h.bel.size h5), h.lo, h.ne, h.gs⟩
end Go.Proofs.YtndofmoepjfnfaaGreat
namespace Go.Proofs.YtndofmoepjfnfaaGreat
open Go.RowKit
open Pt (Tx)

set_option maxHeartbeats 4000000 in
theorem refReadHead_len (A : Option Addr) (b : Tx) (n C : Nat) (G : Nat → Prop) (w : World) (hn : n = b.length) (hC : n ≤ C) (hCm : n ≤ maxLen) (hA : A = none → n = 0 ∧ C = 0) (hr : RdL w A b G) :
    Calls Tryz.prog 56 #[.slice A n C] w (GotH b w) := by
  have HB0 : Hid (Below w.heap.size w (w.alloc (headObj [] 0 0 0 0 0 0 false))) := Lib.hid ((Below.refl _ _).alloc (Nat.le_refl _) _)
  have HR : Hid (RdL w A b (· < w.heap.size)) := Lib.hid (hr.in_.mono fun _ h => h.2)
  have HN := Lib.hid hn
  have hcall := refNewReader_any A b C (· < w.heap.size) (w.alloc (headObj [] 0 0 0 0 0 0 false)) (by rw [← hn]; exact hA) (by omega) (Nat.le_trans (by omega) hCm) (HR.out.old HB0.out) (by simp)
  rw [← hn] at hcall
  obtain ⟨P, hP⟩ : ∃ P, P = Cd.txt (b, false) := ⟨_, rfl⟩
  obtain ⟨n1, hn1⟩ : ∃ k, k = Cd.num (Cd.tk 4 (Rc.t1 b)) := ⟨_, rfl⟩
  obtain ⟨n2, hn2⟩ : ∃ k, k = Cd.num (Cd.tk 4 (Rc.t2 b)) := ⟨_, rfl⟩
  obtain ⟨n3, hn3⟩ : ∃ k, k = Cd.num (Cd.tk 4 (Rc.t3 b)) := ⟨_, rfl⟩
  obtain ⟨n4, hn4⟩ : ∃ k, k = Cd.num (Cd.tk 4 (Rc.t4 b)) := ⟨_, rfl⟩
  obtain ⟨n5, hn5⟩ : ∃ k, k = Cd.num (Cd.tk 4 (Rc.t5 b)) := ⟨_, rfl⟩
  obtain ⟨n6, hn6⟩ : ∃ k, k = Cd.num (Cd.tk 4 (Rc.t6 b)) := ⟨_, rfl⟩
  obtain ⟨n7, hn7⟩ : ∃ k, k = (Cd.byt (Rc.t7 b)).toNat := ⟨_, rfl⟩
  have k7 : n7 < 256 := by rw [hn7]; exact (Cd.byt (Rc.t7 b)).toNat_lt
  obtain ⟨g7, hg7⟩ : ∃ g, g = (Cd.byt (Rc.t7 b) == 1) := ⟨_, rfl⟩
  have qg : ((n7 : Int) == 1) = g7 := by rw [hn7, hg7]; exact gone_beq _
  have hPl : P.length ≤ 1000 := by rw [hP]; have := (Cd.byt (b, false)).toNat_lt; have := Cd.tk_le (Cd.byt (b, false)).toNat (Cd.af 1 (b, false)); unfold Cd.txt; omega
  have HPA : Hid (Rc.parse b = ⟨P, n1, n2, n3, n4, n5, n6, g7⟩) := Lib.hid (by rw [hP, hn1, hn2, hn3, hn4, hn5, hn6, hg7]; rfl)
  have Hp := Lib.hid hP
  have H1 := Lib.hid hn1
  have H2 := Lib.hid hn2
  have H3 := Lib.hid hn3
  have H4 := Lib.hid hn4
  have H5 := Lib.hid hn5
  have H6 := Lib.hid hn6
  have H7 := Lib.hid hn7
  have HQ := Lib.hid qg
  have HPL := Lib.hid hPl
  have HC := Lib.hid hcall
  clear hr hcall hP hn1 hn2 hn3 hn4 hn5 hn6 hn7 hg7 qg hPl hn hA hC hCm
  unfold headObj at HC
  go_enter Tryz.func56, Tryz.ntmps56
  go_wp2_with fail
  refine HC.out.mono ?_
  clear HC
  rintro e w1 ⟨rfl, hr1, hb1⟩
  obtain ⟨gr, hgr⟩ : ∃ gr, gr = (w.alloc (headObj [] 0 0 0 0 0 0 false)).heap.size := ⟨_, rfl⟩
  have hgr' : gr = w.heap.size + 1 := by rw [hgr]; simp
  unfold headObj at hgr
  rw [← hgr] at hr1 hb1 ⊢
  have HG0 : Hid (WayG w gr (b, false) (· < w.heap.size) (headObj [] 0 0 0 0 0 0 false) w1) := Lib.hid ⟨hr1, (hb1.block _ (by omega)).trans (Go.Deep.blk_alloc_new _ _), HB0.out.trans (hb1.mono (by rw [hgr']; exact Nat.le_succ _)), by omega, fun x hx => by have : x < w.heap.size := hx; omega⟩
  clear hr1 hb1 hgr hgr'
  go_wp2_with fail
  have hcall := refText_any gr (b, false) _ w1 HG0.out.rr
  rw [← Hp.out] at hcall
  refine hcall.mono ?_
  clear hcall
  rintro e x0 ⟨rfl, hr, hk⟩
  have hr' : Rf x0 gr (Rc.t1 b) _ := hr
  have HG1 := Lib.hid (HG0.out.red hr' hk)
  clear hr hr' hk
  go_wp2_with fail
  have hcall := refInt_any gr (Rc.t1 b) _ x0 HG1.out.rr
  rw [← H1.out] at hcall
  refine hcall.mono ?_
  clear hcall
  rintro e x1 ⟨rfl, hr, hk⟩
  have hr' : Rf x1 gr (Rc.t2 b) _ := hr
  have HG2 := Lib.hid (HG1.out.red hr' hk)
  clear hr hr' hk
  go_wp2_with fail
  have hcall := refInt_any gr (Rc.t2 b) _ x1 HG2.out.rr
  rw [← H2.out] at hcall
  refine hcall.mono ?_
  clear hcall
  rintro e x2 ⟨rfl, hr, hk⟩
  have hr' : Rf x2 gr (Rc.t3 b) _ := hr
  have HG3 := Lib.hid (HG2.out.red hr' hk)
  clear hr hr' hk
  go_wp2_with fail
  have hcall := refInt_any gr (Rc.t3 b) _ x2 HG3.out.rr
  rw [← H3.out] at hcall
  refine hcall.mono ?_
  clear hcall
  rintro e x3 ⟨rfl, hr, hk⟩
  have hr' : Rf x3 gr (Rc.t4 b) _ := hr
  have HG4 := Lib.hid (HG3.out.red hr' hk)
  clear hr hr' hk
  go_wp2_with fail
  have hcall := refInt_any gr (Rc.t4 b) _ x3 HG4.out.rr
  rw [← H4.out] at hcall
  refine hcall.mono ?_
  clear hcall
  rintro e x4 ⟨rfl, hr, hk⟩
  have hr' : Rf x4 gr (Rc.t5 b) _ := hr
  have HG5 := Lib.hid (HG4.out.red hr' hk)
  clear hr hr' hk
  go_wp2_with fail
  have hcall := refInt_any gr (Rc.t5 b) _ x4 HG5.out.rr
  rw [← H5.out] at hcall
  refine hcall.mono ?_
  clear hcall
  rintro e x5 ⟨rfl, hr, hk⟩
  have hr' : Rf x5 gr (Rc.t6 b) _ := hr
  have HG6 := Lib.hid (HG5.out.red hr' hk)
  clear hr hr' hk
  go_wp2_with fail
  have hcall := refInt_any gr (Rc.t6 b) _ x5 HG6.out.rr
  rw [← H6.out] at hcall
  refine hcall.mono ?_
  clear hcall
  rintro e x6 ⟨rfl, hr, hk⟩
  have hr' : Rf x6 gr (Rc.t7 b) _ := hr
  have HG7 := Lib.hid (HG6.out.red hr' hk)
  clear hr hr' hk
  obtain ⟨hB, hhB⟩ : ∃ hB, hB = x6.heap.size := ⟨_, rfl⟩
  obtain ⟨wh, hwh⟩ : ∃ wh, wh = x6.alloc (headObj P n1 n2 n3 n4 n5 n6 false) := ⟨_, rfl⟩
  have HWAY : Hid (WayF w gr hB (Rc.t7 b) (· < w.heap.size) (headObj P n1 n2 n3 n4 n5 n6 false) (headObj [] 0 0 0 0 0 0 false) wh) := Lib.hid (by rw [hwh, hhB]; exact HG7.out.make _)
  have HHB := Lib.hid hhB
  have HWH := Lib.hid hwh
  unfold headObj at HWH
  clear hhB hwh
  go_wp2_with fail
  rw [← HWH.out, ← HHB.out]
  have hcall := refByte_any gr (Rc.t7 b) _ wh HWAY.out.rr
  rw [← H7.out] at hcall
  refine hcall.mono ?_
  clear hcall
  rintro e x7 ⟨rfl, hr, hk⟩
  have hr' : Rf x7 gr (Rc.t8 b) _ := hr
  have hw := HWAY.out.red hr' hk
  obtain ⟨c0, c1, c2, c3, c4, c5, c6, c7⟩ := head8 hw.hd
  obtain ⟨f0, f1, f2, f3, f4, f5, f6, f7⟩ := head_free hw.hd
  have hs := hw.set 7 (.bool g7) (cs' := #[.string (tx P), .int .i64 n1, .int .i64 n2, .int .i64 n3, .int .i64 n4, .int .i64 n5, .int .i64 n6, .bool g7]) rfl
  obtain ⟨y7, hy⟩ : ∃ y, y = x7.setCell ⟨hB, 7, none⟩ (.bool g7) := ⟨_, rfl⟩
  rw [← hy] at hs
  have HW7 : Hid (WayF w gr hB (Rc.t8 b) (· < w.heap.size) (headObj P n1 n2 n3 n4 n5 n6 g7) (headObj [] 0 0 0 0 0 0 false) y7) := Lib.hid hs
  have HY7 := Lib.hid hy
  obtain ⟨d0, d1, d2, d3, d4, d5, d6, d7⟩ := head8 hs.hd
  rw [hy] at d0 d1 d2 d3 d4 d5 d6 d7
  clear hr hr' hk hw hs hy
  have hqg := HQ.out
  go_wp2_with fail
  rw [← HY7.out]
  clear c0 c1 c2 c3 c4 c5 c6 c7 f0 f1 f2 f3 f4 f5 f6 f7 d0 d1 d2 d3 d4 d5 d6 d7 hqg
  have hPm : P.length ≤ maxLen := by unfold maxLen; have := HPL.out; omega
  refine (refHeadBytes_any P n1 n2 n3 n4 n5 n6 g7 y7 hPm).mono ?_
  rintro e x9 ⟨A9, m9, C9, rfl, hm9, -, -, -, hr9, hb9⟩
  have HW9 := Lib.hid (HW7.out.old hb9)
  obtain ⟨z0, z1, z2, z3, z4, z5, z6, z7⟩ := head8 HW9.out.zr
  obtain ⟨f0, f1, f2, f3, f4, f5, f6, f7⟩ := head_free HW9.out.zr
  obtain ⟨d0, d1, d2, d3, d4, d5, d6, d7⟩ := head8 HW9.out.hd
  clear hPm hb9
  by_cases hok : Rc.Ok ⟨P, n1, n2, n3, n4, n5, n6, g7⟩
  · have hput : Rc.put ⟨P, n1, n2, n3, n4, n5, n6, g7⟩ = Rc.blk (Rc.parse b) := by rw [HPA.out]; exact Rc.put_ok hok
    have hlen := Rc.blk_len hok
    rw [hput] at hm9 hr9
    rw [← HPA.out] at hlen
    obtain ⟨X, hX⟩ : ∃ X, X = Rc.blk (Rc.parse b) := ⟨_, rfl⟩
    rw [← hX] at hm9 hr9 hlen
    have q0 : ((m9 : Int) == 0) = false := beq_eq_false_iff_ne.2 (by omega)
    have q0' : ¬ m9 = 0 := by omega
    have s1 := hr9.str C9
    have s2 := (HR.out.old HW9.out.bel).str C
    rw [← hm9] at s1
    rw [← HN.out] at s2
    have e1 := tx_toList X
    have e2 := tx_toList b
    have HX := Lib.hid hX
    have HOK := Lib.hid hok
    clear hput hlen hm9 hr9 hX hok
    by_cases hg : X = b
    · have hgood : Rc.Good b := ⟨by rw [HPA.out]; exact HOK.out, by rw [← HX.out]; exact hg⟩
      have HG : Hid (Rc.got b = ⟨P, n1, n2, n3, n4, n5, n6, g7⟩) := Lib.hid ((Rc.got_yes hgood).trans HPA.out)
      have HGE := Lib.hid (Rc.gotE_yes hgood)
      have q1 : (X == b) = true := beq_iff_eq.2 hg
      have q2 : (X != b) = false := by rw [bne, q1]; rfl
      clear hgood hg
      go_wp2
      exact bodyPost_ret (v := .tuple #[.agg #[.string (tx P), .int .i64 n1, .int .i64 n2, .int .i64 n3, .int .i64 n4, .int .i64 n5, .int .i64 n6, .bool g7], .int .i64 0]) (by simp [results, Tryz.results56, go_sem, z0, z1, z2, z3, z4, z5, z6, z7]) rfl (GotH.stored (h := ⟨P, n1, n2, n3, n4, n5, n6, g7⟩) HG.out HGE.out rfl HW9.out.bel _ _ _ _ _ _ _ _)
    · have hbad : ¬ Rc.Good b := fun h => hg (by rw [HX.out]; exact h.2)
      have HG := Lib.hid (Rc.got_no hbad)
      have HGE := Lib.hid (Rc.gotE_no hbad)
      have q1 : (X == b) = false := beq_eq_false_iff_ne.2 hg
      have q2 : (X != b) = true := by rw [bne, q1]; rfl
      clear hbad hg
      go_wp2
      exact bodyPost_ret (v := .tuple #[.agg #[.string ⟨#[]⟩, .int .i64 0, .int .i64 0, .int .i64 0, .int .i64 0, .int .i64 0, .int .i64 0, .bool false], .int .i64 2]) (by simp [results, Tryz.results56, go_sem, z0, z1, z2, z3, z4, z5, z6, z7]) rfl (GotH.stored (h := Rc.H.zero) HG.out HGE.out rfl HW9.out.bel _ _ _ _ _ _ _ _)
  · have hbad : ¬ Rc.Good b := fun h => hok (by have := h.1; rwa [HPA.out] at this)
    have HG := Lib.hid (Rc.got_no hbad)
    have HGE := Lib.hid (Rc.gotE_no hbad)
    have hm0 : m9 = 0 := by rw [hm9, Rc.put_no hok]; rfl
    clear hok hbad hm9 hr9
    subst hm0
    go_wp2
    exact bodyPost_ret (v := .tuple #[.agg #[.string ⟨#[]⟩, .int .i64 0, .int .i64 0, .int .i64 0, .int .i64 0, .int .i64 0, .int .i64 0, .bool false], .int .i64 2]) (by simp [results, Tryz.results56, go_sem, z0, z1, z2, z3, z4, z5, z6, z7]) rfl (GotH.stored (h := Rc.H.zero) HG.out HGE.out rfl HW9.out.bel _ _ _ _ _ _ _ _)
theorem refReadHead_any (A : Option Addr) (b : Tx) (n C : Nat) (G : Nat → Prop) (w : World) (hn : n = b.length) (hC : n ≤ C) (hCm : C ≤ maxLen) (hA : A = none → n = 0 ∧ C = 0) (hr : RdL w A b G) :
    Calls Tryz.prog 56 #[.slice A n C] w (GotH b w) := refReadHead_len A b n C G w hn hC (Nat.le_trans hC hCm) hA hr
end Go.Proofs.YtndofmoepjfnfaaGreat
