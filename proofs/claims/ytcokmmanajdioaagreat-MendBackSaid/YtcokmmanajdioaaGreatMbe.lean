/- What the document's own SealBytes answers. A Reader of the document's own at work, and what lies beside it. What the document's own ReadSeal answers. What the document's own Sealed of a tape answers. What is kept while the document's own Make of groups gathers labels. -/
import Derived.Test.YtcokmmanajdioaaGreatMbd
import Derived.Test.YtcokmmanajdioaaGreatMat
import Derived.Test.YtcokmmanajdioaaGreatMam
import Derived.Test.YtcokmmanajdioaaGreatMbc
import Derived.Test.YtcokmmanajdioaaGreatMal
import Derived.Test.YtcokmmanajdioaaGreatMak
import Derived.Deep.RegionLaw
import Derived.Deep.AppendLies
import Derived.Deep.LoopGhost
import Derived.Test.YtcokmmanajdioaaGreatMau
import Derived.Test.YtcokmmanajdioaaGreatMan
namespace Go.Proofs.YtcokmmanajdioaaGreat
open Go.RowKit
open Pt (Tx)

set_option maxHeartbeats 1000000 in
theorem refSealBytes_no (n x d p : Int) (A : Option Addr) (l : List Int) (m C : Nat) (G : Nat → Prop) (w : World) (hm : m = l.length) (hC : m ≤ C) (hCm : C ≤ maxLen) (hr : RdZ w A l G) (hok : ¬ Rc.SOk ⟨n, x, d, p, l⟩) :
    Calls Tryz.prog 27 #[.agg #[.int .i64 n, .int .i64 x, .int .i64 d, .int .i64 p, .slice A m C]] w (AnsT (Rc.sput ⟨n, x, d, p, l⟩) w) := by
  have HB0 : Hid (Below w.heap.size w (w.alloc (sealObj n x d p A m C))) := Lib.hid ((Below.refl _ _).alloc (Nat.le_refl _) _)
  have HU0 : Hid ((w.alloc (sealObj n x d p A m C)).heap[w.heap.size]? = some (sealObj n x d p A m C)) := Lib.hid (Go.Deep.blk_alloc_new _ _)
  have hcall := refRightSeal_any n x d p A l m C G (w.alloc (sealObj n x d p A m C)) hm hC hCm (hr.old HB0.out)
  rw [decide_eq_false hok] at hcall
  have HC := Lib.hid hcall
  have HP := Lib.hid (Rc.sput_no hok)
  clear hm hC hCm hr hok hcall
  obtain ⟨a0, a1, a2, a3, a4⟩ := seal5 HU0.out
  unfold sealObj at a0 a1 a2 a3 a4 HC
  go_enter Tryz.func27, Tryz.ntmps27
  go_wp2_with fail
  refine HC.out.mono ?_
  rintro e w1 ⟨rfl, hb⟩
  have HB1 := Lib.hid (HB0.out.trans (hb.mono HB0.out.size))
  clear hb a0 a1 a2 a3 a4
  go_wp2
  go_ret
  rw [HP.out]
  exact AnsT.nil HB1.out
set_option maxHeartbeats 4000000 in
theorem refSealBytes_yes (n x d p : Int) (A : Option Addr) (l : List Int) (m C : Nat) (G : Nat → Prop) (w : World) (hm : m = l.length) (hC : m ≤ C) (hCm : C ≤ maxLen) (hr : RdZ w A l G) (hok : Rc.SOk ⟨n, x, d, p, l⟩) :
    Calls Tryz.prog 27 #[.agg #[.int .i64 n, .int .i64 x, .int .i64 d, .int .i64 p, .slice A m C]] w (AnsT (Rc.sput ⟨n, x, d, p, l⟩) w) := by
  have HB0 : Hid (Below w.heap.size w (w.alloc (sealObj n x d p A m C))) := Lib.hid ((Below.refl _ _).alloc (Nat.le_refl _) _)
  have HU0 : Hid ((w.alloc (sealObj n x d p A m C)).heap[w.heap.size]? = some (sealObj n x d p A m C)) := Lib.hid (Go.Deep.blk_alloc_new _ _)
  have hcall := refRightSeal_any n x d p A l m C G (w.alloc (sealObj n x d p A m C)) hm hC hCm (hr.old HB0.out)
  rw [decide_eq_true hok] at hcall
  have HC := Lib.hid hcall
  have HP := Lib.hid (Rc.sput_ok hok)
  have hm14 : m ≤ 14 := by rw [hm]; exact hok.few
  have HR := Lib.hid hr
  have HM := Lib.hid hm
  clear hm hC hCm hr hok hcall
  obtain ⟨a0, a1, a2, a3, a4⟩ := seal5 HU0.out
  unfold sealObj at a0 a1 a2 a3 a4 HC
  go_enter Tryz.func27, Tryz.ntmps27
  go_wp2_with fail
  refine HC.out.mono ?_
  rintro e w1 ⟨rfl, hb⟩
  obtain ⟨gr, hgr⟩ : ∃ gr, gr = w1.heap.size := ⟨_, rfl⟩
  obtain ⟨wb, hwb⟩ : ∃ wb, wb = w1.alloc (.cells #[.slice none 0 0] 63) := ⟨_, rfl⟩
  have hU1 := below_obj hb HU0.out
  have hB1 := HB0.out.trans (hb.mono HB0.out.size)
  have HW2 : Hid (RefAt w gr (sealObj n x d p A m C) [] wb) := Lib.hid (by
    rw [hwb, hgr]
    exact ⟨⟨_, Go.Deep.blk_alloc_new _ _, OwnL.nil _ _⟩, (Below.heap_alloc _ _ _ (heap_lt hU1)).trans hU1, hB1.alloc hB1.size _, heap_lt hU1⟩)
  have HWB := Lib.hid hwb
  have HGR := Lib.hid hgr
  clear hb a0 a1 a2 a3 a4 hU1 hB1 hwb hgr
  obtain ⟨a0, a1, a2, a3, a4⟩ := seal5 HW2.out.hd
  rw [HWB.out] at a0 a1 a2 a3 a4
  go_wp2_with fail
  rw [← HWB.out, ← HGR.out]
  obtain ⟨v2, hv2⟩ := HW2.out.rw_
  refine (vint_any gr gr v2 [] n wb hv2 HW2.out.base (by simp)).mono ?_
  intro e w3 hW
  have HW3 : Hid (RefAt w gr (sealObj n x d p A m C) _ w3) := Lib.hid (HW2.out.wrote (by decide) hW)
  obtain ⟨rfl, -, -⟩ := hW
  clear a0 a1 a2 a3 a4 hv2
  obtain ⟨a0, a1, a2, a3, a4⟩ := seal5 HW3.out.hd
  go_wp2_with fail
  obtain ⟨v3, hv3⟩ := HW3.out.rw_
  refine (vbyte_int gr gr v3 _ x w3 hv3 HW3.out.base (by simp [Cd.be4_len])).mono ?_
  intro e w4 hW
  have HW4 : Hid (RefAt w gr (sealObj n x d p A m C) _ w4) := Lib.hid (HW3.out.wrote (by decide) hW)
  obtain ⟨rfl, -, -⟩ := hW
  clear a0 a1 a2 a3 a4 hv3
  obtain ⟨a0, a1, a2, a3, a4⟩ := seal5 HW4.out.hd
  go_wp2_with fail
  obtain ⟨v4, hv4⟩ := HW4.out.rw_
  refine (vbyte_int gr gr v4 _ d w4 hv4 HW4.out.base (by simp [Cd.be4_len])).mono ?_
  intro e w5 hW
  have HW5 : Hid (RefAt w gr (sealObj n x d p A m C) _ w5) := Lib.hid (HW4.out.wrote (by decide) hW)
  obtain ⟨rfl, -, -⟩ := hW
  clear a0 a1 a2 a3 a4 hv4
  obtain ⟨a0, a1, a2, a3, a4⟩ := seal5 HW5.out.hd
  go_wp2_with fail
  obtain ⟨v5, hv5⟩ := HW5.out.rw_
  refine (vbyte_int gr gr v5 _ p w5 hv5 HW5.out.base (by simp [Cd.be4_len])).mono ?_
  intro e w6 hW
  have HW6 : Hid (RefAt w gr (sealObj n x d p A m C) _ w6) := Lib.hid (HW5.out.wrote (by decide) hW)
  obtain ⟨rfl, -, -⟩ := hW
  clear a0 a1 a2 a3 a4 hv5
  obtain ⟨a0, a1, a2, a3, a4⟩ := seal5 HW6.out.hd
  go_wp2
  have HT : Hid ((((([] ++ Cd.be4 n) ++ [Cd.b8 x]) ++ [Cd.b8 d]) ++ [Cd.b8 p]) = sealPart n x d p l 0) := Lib.hid (by unfold sealPart; simp only [List.nil_append, List.append_assoc, List.take_zero, Rc.labB, List.append_nil])
  have hstart := HW6.out
  rw [HT.out] at hstart
  have HS := Lib.hid hstart
  clear hstart a0 a1 a2 a3 a4
  go_loopw [4] (fun vi wr => ∃ k : Nat, k ≤ m ∧ vi = .int .i64 (k : Int) ∧ Hid (RefAt w gr (sealObj n x d p A m C) (sealPart n x d p l k) wr)) (fun vi _ => m - (intOf vi).toNat)
  case atStart => exact ⟨0, Nat.zero_le _, rfl, HS⟩
  case round =>
    obtain ⟨k, hk, rfl, HK⟩ := hrel
    obtain ⟨a0, a1, a2, a3, a4⟩ := seal5 HK.out.hd
    by_cases hlt : k < m
    · have hlt' : k < l.length := by rw [← HM.out]; exact hlt
      obtain ⟨b, off, rfl, -, hc⟩ := (HR.out.old HK.out.bel).at_ hlt'
      have HMO := Lib.hid (sealPart_more (n := n) (x := x) (d := d) (p := p) hlt')
      have HLE := Lib.hid (sealPart_len n x d p l k)
      obtain ⟨y, hy⟩ : ∃ y, y = l[k] := ⟨_, rfl⟩
      rw [← hy] at hc HMO
      clear hy
      have hle : (sealPart n x d p l k).length ≤ 999999990 := by have := HLE.out; omega
      have HLE2 := Lib.hid hle
      clear hle
      obtain ⟨v, hv⟩ := HK.out.rw_
      have hcall := vint_any gr gr v (sealPart n x d p l k) y wr hv HK.out.base HLE2.out
      have HCL := Lib.hid hcall
      clear hcall hv
      go_wp2_with fail
      refine HCL.out.mono ?_
      intro e ws hW
      have HN : Hid (RefAt w gr (sealObj n x d p (some ⟨b, off, none⟩) m C) (sealPart n x d p l (k + 1)) ws) := Lib.hid (by have := HK.out.wrote (by decide) hW; rwa [HMO.out] at this)
      obtain ⟨rfl, -, -⟩ := hW
      clear a0 a1 a2 a3 a4 hc
      go_wp2
      go_roundw
      case rel => exact ⟨k + 1, by omega, by go_num, HN⟩
      case measure => simp [intOf]; omega
    · have HE := Lib.hid (sealPart_all (n := n) (x := x) (d := d) (p := p) (l := l) (k := k) (by rw [← HM.out]; omega))
      have hK := HK.out
      rw [HE.out] at hK
      obtain ⟨A', C', c0, hans⟩ := hK.done rfl
      have HA := Lib.hid hans
      clear hans hK
      go_wp2
      go_ret
      rw [HP.out]
      exact HA.out
theorem refSealBytes_any (n x d p : Int) (A : Option Addr) (l : List Int) (m C : Nat) (G : Nat → Prop) (w : World) (hm : m = l.length) (hC : m ≤ C) (hCm : C ≤ maxLen) (hr : RdZ w A l G) :
    Calls Tryz.prog 27 #[.agg #[.int .i64 n, .int .i64 x, .int .i64 d, .int .i64 p, .slice A m C]] w (AnsT (Rc.sput ⟨n, x, d, p, l⟩) w) := by
  by_cases hok : Rc.SOk ⟨n, x, d, p, l⟩
  · exact refSealBytes_yes n x d p A l m C G w hm hC hCm hr hok
  · exact refSealBytes_no n x d p A l m C G w hm hC hCm hr hok
end Go.Proofs.YtcokmmanajdioaaGreat
namespace Go.Proofs.YtcokmmanajdioaaGreat
open Go.RowKit
open Pt (Tx)

/-- the state of the document's own that reads -/
structure WayF (w : World) (gr hB : Nat) (s : Cd.St) (G : Nat → Prop) (o z : Obj) (x : World) : Prop where
  rr : Rf x gr s G
  hd : x.heap[hB]? = some o
  zr : x.heap[w.heap.size]? = some z
  bel : Below w.heap.size w x
  lo : w.heap.size < gr
  ne : gr < hB
  gs : ∀ b, G b → b < gr
theorem WayF.red {w : World} {gr hB : Nat} {s s' : Cd.St} {G : Nat → Prop} {o z : Obj} {x y : World} (h : WayF w gr hB s G o z x) (hr : Rf y gr s' G) (hk : Kp (· = gr) x y) : WayF w gr hB s' G o z y := by
  have h1 : hB < x.heap.size := by obtain ⟨hlt, _⟩ := Array.getElem?_eq_some_iff.1 h.hd; exact hlt
  have h2 : w.heap.size < x.heap.size := by obtain ⟨hlt, _⟩ := Array.getElem?_eq_some_iff.1 h.zr; exact hlt
  have := h.lo
  have := h.ne
  exact ⟨hr, (hk.block _ h1 (by omega)).trans h.hd, (hk.block _ h2 (by omega)).trans h.zr, h.bel.trans (lo_g hk h.bel.size (by omega)), h.lo, h.ne, h.gs⟩
theorem WayF.set {w : World} {gr hB : Nat} {s : Cd.St} {G : Nat → Prop} {z : Obj} {x : World} {cs cs' : Array Value} {t : TypeId} {fr : Nat × Nat} (h : WayF w gr hB s G (.cells cs t fr) z x) (i : Nat) (v : Value) (hc : cs.setIfInBounds i v = cs') : WayF w gr hB s G (.cells cs' t fr) z (x.setCell ⟨hB, i, none⟩ v) := by
  subst hc
  have hk : Kp (· = hB) x (x.setCell ⟨hB, i, none⟩ v) := Kp.store _ _ _ _
  have h2 : w.heap.size < x.heap.size := by obtain ⟨hlt, _⟩ := Array.getElem?_eq_some_iff.1 h.zr; exact hlt
  have := h.lo
  have := h.ne
  exact ⟨h.rr.kp hk (by omega) (fun b hb => by have := h.gs b hb; omega), heap_set h.hd _, (hk.block _ h2 (by omega)).trans h.zr, h.bel.trans (lo_g hk h.bel.size (by omega)), h.lo, h.ne, h.gs⟩
theorem WayF.old {w : World} {gr hB : Nat} {s : Cd.St} {G : Nat → Prop} {o z : Obj} {x y : World} (h : WayF w gr hB s G o z x) (hb : Below x.heap.size x y) : WayF w gr hB s G o z y := by
  have h1 : hB < x.heap.size := by obtain ⟨hlt, _⟩ := Array.getElem?_eq_some_iff.1 h.hd; exact hlt
  have h2 : w.heap.size < x.heap.size := by obtain ⟨hlt, _⟩ := Array.getElem?_eq_some_iff.1 h.zr; exact hlt
  exact ⟨h.rr.kp (S := fun _ => False) (Kp.of_below hb) (fun h => h) (fun _ _ h => h), (hb.block _ h1).trans h.hd, (hb.block _ h2).trans h.zr, h.bel.trans (hb.mono h.bel.size), h.lo, h.ne, h.gs⟩
/-- ahead of what is made -/
structure WayG (w : World) (gr : Nat) (s : Cd.St) (G : Nat → Prop) (z : Obj) (x : World) : Prop where
  rr : Rf x gr s G
  zr : x.heap[w.heap.size]? = some z
  bel : Below w.heap.size w x
  lo : w.heap.size < gr
  gs : ∀ b, G b → b < gr
theorem WayG.red {w : World} {gr : Nat} {s s' : Cd.St} {G : Nat → Prop} {z : Obj} {x y : World} (h : WayG w gr s G z x) (hr : Rf y gr s' G) (hk : Kp (· = gr) x y) : WayG w gr s' G z y := by
  have h2 : w.heap.size < x.heap.size := by obtain ⟨hlt, _⟩ := Array.getElem?_eq_some_iff.1 h.zr; exact hlt
  have := h.lo
  exact ⟨hr, (hk.block _ h2 (by omega)).trans h.zr, h.bel.trans (lo_g hk h.bel.size (by omega)), h.lo, h.gs⟩
theorem WayG.make {w : World} {gr : Nat} {s : Cd.St} {G : Nat → Prop} {z : Obj} {x : World} (h : WayG w gr s G z x) (o : Obj) : WayF w gr x.heap.size s G o z (x.alloc o) := by
  have h2 : w.heap.size < x.heap.size := by obtain ⟨hlt, _⟩ := Array.getElem?_eq_some_iff.1 h.zr; exact hlt
  have hb : Below x.heap.size x (x.alloc o) := (Below.refl _ _).alloc (Nat.le_refl _) _
  exact ⟨h.rr.kp (S := fun _ => False) (Kp.of_below hb) (fun h => h) (fun _ _ h => h), Go.Deep.blk_alloc_new _ _, (hb.block _ h2).trans h.zr, h.bel.trans (hb.mono h.bel.size), h.lo, h.rr.lt, h.gs⟩
theorem WayF.kp {w : World} {gr hB : Nat} {s : Cd.St} {G S : Nat → Prop} {o z : Obj} {x y : World} (h : WayF w gr hB s G o z x) (hk : Kp S x y) (h1 : ¬ S gr) (h2 : ¬ S hB) (h3 : ¬ S w.heap.size) (h4 : ∀ b, G b → ¬ S b) (h5 : ∀ b, S b → w.heap.size ≤ b) : WayF w gr hB s G o z y := by
  have e1 : hB < x.heap.size := by obtain ⟨hlt, _⟩ := Array.getElem?_eq_some_iff.1 h.hd; exact hlt
  have e2 : w.heap.size < x.heap.size := by obtain ⟨hlt, _⟩ := Array.getElem?_eq_some_iff.1 h.zr; exact hlt
  exact ⟨h.rr.kp hk h1 h4, (hk.block _ e1 h2).trans h.hd, (hk.block _ e2 h3).trans h.zr, h.bel.trans (hk.below h.bel.size h5), h.lo, h.ne, h.gs⟩
end Go.Proofs.YtcokmmanajdioaaGreat
namespace Go.Proofs.YtcokmmanajdioaaGreat
open Go.RowKit
open Pt (Tx)

/-- the labels so far, and what lies beside them -/
structure RowF (w : World) (gr hB : Nat) (s : Cd.St) (G : Nat → Prop) (n0 n1 n2 n3 : Int) (z : Obj) (A : Option Addr) (k C : Nat) (done : List Int) (x : World) : Prop where
  way : WayF w gr hB s G (sealObj n0 n1 n2 n3 A k C) z x
  own : OwnZ x (hB + 1) (.slice A k C) done
  len : done.length = k
theorem RowF.drew {w : World} {gr hB : Nat} {s : Cd.St} {G : Nat → Prop} {n0 n1 n2 n3 : Int} {z : Obj} {A : Option Addr} {k C : Nat} {done : List Int} {x : World} (h : RowF w gr hB s G n0 n1 n2 n3 z A k C done x) : RowF w gr hB s G n0 n1 n2 n3 z A k C done x.drew :=
  ⟨h.way.old ((Below.refl _ _).drew), h.own.of_block fun _ _ => rfl, h.len⟩
theorem RowF.step {w : World} {gr hB : Nat} {s s' : Cd.St} {G : Nat → Prop} {n0 n1 n2 n3 : Int} {z : Obj} {A : Option Addr} {k C : Nat} {done : List Int} {x ws : World} (h : RowF w gr hB s G n0 n1 n2 n3 z A k C done x) (hk : k ≤ 100) (hr : Rf ws gr s' G) (hkp : Kp (· = gr) x ws) (y : Int) :
    ∃ A' C' w', (∀ ty, (Builtin.append_ #[22, 22] ty #[.slice A k C, .slice (some ⟨ws.heap.size, 0, none⟩) 1 1]).run Tryz.prog (ws.alloc (.cells #[.int .i64 y] 3)) = .ok (.slice A' (k + 1) C') w')
      ∧ ws.cell? ⟨hB, 4, none⟩ = some (.slice A k C) ∧ (ws.alloc (.cells #[.int .i64 y] 3)).cell? ⟨hB, 4, none⟩ = some (.slice A k C) ∧ w'.cell? ⟨hB, 4, none⟩ = some (.slice A k C) ∧ w'.frozen? ⟨hB, 4, none⟩ = false
      ∧ RowF w gr hB s' G n0 n1 n2 n3 z A' (k + 1) C' (done ++ [y]) (w'.setCell ⟨hB, 4, none⟩ (.slice A' (k + 1) C')) := by
  have hw := h.way.red hr hkp
  have hlo := hw.lo
  have hne := hw.ne
  have hbl : Below ws.heap.size ws (ws.alloc (.cells #[.int .i64 y] 3)) := (Below.refl _ _).alloc (Nat.le_refl _) _
  have hwa := hw.old hbl
  have ho1 : OwnZ ws (hB + 1) (.slice A k C) done := h.own.kp hkp (fun b hb e => by have := h.own.lo b hb; omega)
  have ho2 : OwnZ (ws.alloc (.cells #[.int .i64 y] 3)) (hB + 1) (.slice A k C) done := ho1.of_block fun b hb => hbl.block b (ho1.lt b hb)
  have hrd : RdZ (ws.alloc (.cells #[.int .i64 y] 3)) (some ⟨ws.heap.size, 0, none⟩) [y] (· = ws.heap.size) := RdZ.of_cells (m := []) (fr := (0, 0)) (by
    refine (Go.Deep.blk_alloc_new ws _).trans ?_
    simp [cellsZ])
  have hsz : hB + 1 ≤ (ws.alloc (.cells #[.int .i64 y] 3)).heap.size := by have := heap_lt hwa.hd; omega
  obtain ⟨A', C', w', h1, h2, h3⟩ := apZ_run _ (hB + 1) _ done ho2 ⟨ws.heap.size, 0, none⟩ 1 1 [y] _ rfl hrd (by have := h.len; omega) hsz (k + 1) (by rw [h.len])
  have hkg : Kp (fun b => (Value.slice A k C).ownBlock = some b) (ws.alloc (.cells #[.int .i64 y] 3)) w' := Kp.grown (Kp.refl _ _) h3 fun b hb => hb
  have hwg : WayF w gr hB s' G (sealObj n0 n1 n2 n3 A k C) z w' := hwa.kp hkg (fun e => by have := ho2.lo _ e; omega) (fun e => by have := ho2.lo _ e; omega) (fun e => by have := ho2.lo _ e; omega) (fun b hb e => by have := ho2.lo _ e; have := hwa.gs b hb; omega) (fun b e => by have := ho2.lo _ e; omega)
  have hws := hwg.set 4 (.slice A' (k + 1) C') (cs' := #[.int .i64 n0, .int .i64 n1, .int .i64 n2, .int .i64 n3, .slice A' (k + 1) C']) rfl
  refine ⟨A', C', w', h1, (seal5 hw.hd).2.2.2.2, (seal5 hwa.hd).2.2.2.2, (seal5 hwg.hd).2.2.2.2, (seal_free hwg.hd).2.2.2.2, hws, ?_, by simp [h.len]⟩
  exact h2.kp (Kp.store w' hB 4 _) (fun b hb e => by have := h2.lo b hb; omega)
/-- how far the labels are read -/
def FarF (b0 : Tx) (k : Nat) (done : List Int) (s : Cd.St) : Prop := done.length = k ∧ Rc.labs 14 b0 = done ++ Rc.labs (14 - k) s.1
theorem FarF.step {b0 : Tx} {k : Nat} {done : List Int} {s : Cd.St} (h : FarF b0 k done s) (h4 : ¬ s.1.length < 4) (hk : k < 14) : FarF b0 (k + 1) (done ++ [Cd.num (Cd.tk 4 s)]) (Cd.af 4 s) := by
  obtain ⟨h1, h2⟩ := h
  refine ⟨by simp [h1], ?_⟩
  rw [h2, show 14 - k = (14 - (k + 1)) + 1 by omega, Rc.labs_more h4, Cd.tk_yes h4, Cd.af_yes h4, List.append_assoc]; rfl
theorem FarF.done {b0 : Tx} {k : Nat} {done : List Int} {s : Cd.St} (h : FarF b0 k done s) (he : 14 - k = 0 ∨ s.1.length < 4) : done = Rc.labs 14 b0 := by
  rw [h.2, Rc.labs_end he, List.append_nil]
set_option maxRecDepth 100000 in
set_option maxHeartbeats 8000000 in
theorem refReadSeal_len (A : Option Addr) (b : Tx) (n C : Nat) (G : Nat → Prop) (w : World) (hn : n = b.length) (hC : n ≤ C) (hCm : n ≤ maxLen) (hA : A = none → n = 0 ∧ C = 0) (hr : RdL w A b G) :
    Calls Tryz.prog 28 #[.slice A n C] w (GotS b w) := by
  have HB0 : Hid (Below w.heap.size w (w.alloc (sealObj 0 0 0 0 none 0 0))) := Lib.hid ((Below.refl _ _).alloc (Nat.le_refl _) _)
  have HR : Hid (RdL w A b (· < w.heap.size)) := Lib.hid (hr.in_.mono fun _ h => h.2)
  have HN := Lib.hid hn
  have hcall := refNewReader_any A b C (· < w.heap.size) (w.alloc (sealObj 0 0 0 0 none 0 0)) (by rw [← hn]; exact hA) (by omega) (by rw [← hn]; exact hCm) (HR.out.old HB0.out) (by simp)
  rw [← hn] at hcall
  obtain ⟨n0, hn0⟩ : ∃ k, k = Cd.num (Cd.tk 4 (b, false)) := ⟨_, rfl⟩
  obtain ⟨n1, hn1⟩ : ∃ k, k = (Cd.byt (Rc.r1 b)).toNat := ⟨_, rfl⟩
  obtain ⟨n2, hn2⟩ : ∃ k, k = (Cd.byt (Rc.r2 b)).toNat := ⟨_, rfl⟩
  obtain ⟨n3, hn3⟩ : ∃ k, k = (Cd.byt (Rc.r3 b)).toNat := ⟨_, rfl⟩
  have k1 : n1 < 256 := by rw [hn1]; exact (Cd.byt (Rc.r1 b)).toNat_lt
  have k2 : n2 < 256 := by rw [hn2]; exact (Cd.byt (Rc.r2 b)).toNat_lt
  have k3 : n3 < 256 := by rw [hn3]; exact (Cd.byt (Rc.r3 b)).toNat_lt
  obtain ⟨labs, hlabs⟩ : ∃ l, l = Rc.labs 14 (Rc.r4 b).1 := ⟨_, rfl⟩
  have HPA : Hid (Rc.sparse b = ⟨n0, (n1 : Int), (n2 : Int), (n3 : Int), labs⟩) := Lib.hid (by rw [hlabs, hn0, hn1, hn2, hn3]; rfl)
  have H0 := Lib.hid hn0
  have H1 := Lib.hid hn1
  have H2 := Lib.hid hn2
  have H3 := Lib.hid hn3
  have HLB := Lib.hid hlabs
  have HC := Lib.hid hcall
  clear hr hcall hn0 hn1 hn2 hn3 hlabs hn hA hC hCm
  unfold sealObj at HC
  go_enter Tryz.func28, Tryz.ntmps28
  go_wp2_with fail
  refine HC.out.mono ?_
  clear HC
  rintro e w1 ⟨rfl, hr1, hb1⟩
  obtain ⟨gr, hgr⟩ : ∃ gr, gr = (w.alloc (sealObj 0 0 0 0 none 0 0)).heap.size := ⟨_, rfl⟩
  have hgr' : gr = w.heap.size + 1 := by rw [hgr]; simp
  unfold sealObj at hgr
  rw [← hgr] at hr1 hb1 ⊢
  have HG0 : Hid (WayG w gr (b, false) (· < w.heap.size) (sealObj 0 0 0 0 none 0 0) w1) := Lib.hid ⟨hr1, (hb1.block _ (by omega)).trans (Go.Deep.blk_alloc_new _ _), HB0.out.trans (hb1.mono (by rw [hgr']; exact Nat.le_succ _)), by omega, fun x hx => by have : x < w.heap.size := hx; omega⟩
  clear hr1 hb1 hgr hgr'
  go_wp2_with fail
  have hcall := refInt_any gr (b, false) _ w1 HG0.out.rr
  rw [← H0.out] at hcall
  refine hcall.mono ?_
  clear hcall
  rintro e x0 ⟨rfl, hr, hk⟩
  have hr' : Rf x0 gr (Rc.r1 b) _ := hr
  have HG1 := Lib.hid (HG0.out.red hr' hk)
  clear hr hr' hk
  go_wp2_with fail
  have hcall := refByte_any gr (Rc.r1 b) _ x0 HG1.out.rr
  rw [← H1.out] at hcall
  refine hcall.mono ?_
  clear hcall
  rintro e x1 ⟨rfl, hr, hk⟩
  have hr' : Rf x1 gr (Rc.r2 b) _ := hr
  have HG2 := Lib.hid (HG1.out.red hr' hk)
  clear hr hr' hk
  go_wp2_with fail
  have hcall := refByte_any gr (Rc.r2 b) _ x1 HG2.out.rr
  rw [← H2.out] at hcall
  refine hcall.mono ?_
  clear hcall
  rintro e x2 ⟨rfl, hr, hk⟩
  have hr' : Rf x2 gr (Rc.r3 b) _ := hr
  have HG3 := Lib.hid (HG2.out.red hr' hk)
  clear hr hr' hk
  go_wp2_with fail
  have hcall := refByte_any gr (Rc.r3 b) _ x2 HG3.out.rr
  rw [← H3.out] at hcall
  refine hcall.mono ?_
  clear hcall
  rintro e x3 ⟨rfl, hr, hk⟩
  have hr' : Rf x3 gr (Rc.r4 b) _ := hr
  have HG4 := Lib.hid (HG3.out.red hr' hk)
  clear hr hr' hk
  obtain ⟨hB, hhB⟩ : ∃ hB, hB = x3.heap.size := ⟨_, rfl⟩
  obtain ⟨wh, hwh⟩ : ∃ wh, wh = x3.alloc (sealObj n0 (n1 : Int) (n2 : Int) (n3 : Int) none 0 0) := ⟨_, rfl⟩
  have HRO0 : Hid (RowF w gr hB (Rc.r4 b) (· < w.heap.size) n0 (n1 : Int) (n2 : Int) (n3 : Int) (sealObj 0 0 0 0 none 0 0) none 0 0 [] wh) := Lib.hid ⟨by rw [hwh, hhB]; exact HG4.out.make _, OwnZ.nil _ _, rfl⟩
  have HHB := Lib.hid hhB
  have HWH := Lib.hid hwh
  unfold sealObj at HWH
  clear hhB hwh
  go_wp2_with fail
  rw [← HWH.out, ← HHB.out]
  clear k1 k2 k3
  go_loopg [] 15 (fun gk wr => ∃ (k : Nat) (A' : Option Addr) (C' : Nat) (done : List Int) (s : Cd.St), k + gk = 15 ∧ k ≤ 14 ∧ Hid (FarF (Rc.r4 b).1 k done s) ∧ Hid (RowF w gr hB s (· < w.heap.size) n0 (n1 : Int) (n2 : Int) (n3 : Int) (sealObj 0 0 0 0 none 0 0) A' k C' done wr))
  case atStart => exact ⟨0, none, 0, [], Rc.r4 b, rfl, by omega, Lib.hid ⟨rfl, rfl⟩, HRO0⟩
  case round =>
    obtain ⟨k, A', C', done, s, hg, hk, HF, HRO⟩ := hrel
    obtain ⟨L, hL⟩ : ∃ L, L = s.1.length := ⟨_, rfl⟩
    have hcall := refLeft_any gr s _ wr HRO.out.way.rr
    rw [← hL] at hcall
    have HLE := Lib.hid hcall
    have HL := Lib.hid hL
    clear hcall hL
    obtain ⟨d0, d1, d2, d3, d4⟩ := seal5 HRO.out.way.hd
    by_cases hx : L < 4 ∨ ¬ k < 14
    · have hd := (HF.out.done (by have := HL.out; omega)).trans HLB.out.symm
      subst hd
      obtain ⟨A2, C2, e2, g1, g2, g3, g4⟩ := HRO.out.own.rd
      injection e2 with e21 e22 e23
      subst e21 e23
      have hlen := HRO.out.len
      rw [hlen] at g1 g3
      have HG4 := Lib.hid (g4.mono (fun x hx => by have := HRO.out.way.lo; have := HRO.out.way.ne; omega) : RdZ wr A' done (w.heap.size < ·))
      have HG1 := Lib.hid g1
      have HG2 := Lib.hid g2
      have HG3 := Lib.hid g3
      have HLN := Lib.hid hlen
      have hq : (decide (4 ≤ (L : Int)) = false ∧ decide (4 ≤ L) = false) ∨ (decide (4 ≤ (L : Int)) = true ∧ decide (4 ≤ L) = true ∧ decide ((k : Int) < 14) = false ∧ decide (k < 14) = false) := by
        simp only [decide_eq_true_eq, decide_eq_false_iff_not]; omega
      clear hx e22 g1 g2 g3 g4 hlen
      rcases hq with ⟨q1, q2⟩ | ⟨q1, q2, q3, q4⟩
      all_goals
        go_wp2_with (go_at_call 46; refine HLE.out.mono ?_; rintro e w' ⟨rfl, hw'⟩; subst hw')
        refine (refSealBytes_any n0 (n1 : Int) (n2 : Int) (n3 : Int) A' done k C' _ wr HLN.out.symm HG1.out HG2.out HG4.out).mono ?_
        rintro e x9 ⟨A9, m9, C9, rfl, hm9, -, -, -, hr9, hb9⟩
        have HW9 := Lib.hid (HRO.out.way.old hb9)
        have HRZ9 := Lib.hid (HG4.out.old hb9)
        clear d0 d1 d2 d3 d4 hb9
        obtain ⟨z0, z1, z2, z3, z4⟩ := seal5 HW9.out.zr
        obtain ⟨f0, f1, f2, f3, f4⟩ := seal_free HW9.out.zr
        obtain ⟨d0, d1, d2, d3, d4⟩ := seal5 HW9.out.hd
        by_cases hok : Rc.SOk ⟨n0, (n1 : Int), (n2 : Int), (n3 : Int), done⟩
        · have hput : Rc.sput ⟨n0, (n1 : Int), (n2 : Int), (n3 : Int), done⟩ = Rc.sblk (Rc.sparse b) := by rw [HPA.out]; exact Rc.sput_ok hok
          have hlen := Rc.sblk_len (Rc.sparse b)
          rw [hput] at hm9 hr9
          obtain ⟨X, hX⟩ : ∃ X, X = Rc.sblk (Rc.sparse b) := ⟨_, rfl⟩
          rw [← hX] at hm9 hr9 hlen
          have q5 : ((m9 : Int) == 0) = false := beq_eq_false_iff_ne.2 (by omega)
          have q5' : ¬ m9 = 0 := by omega
          have s1 := hr9.str C9
          have s2 := (HR.out.old HW9.out.bel).str C
          rw [← hm9] at s1
          rw [← HN.out] at s2
          have e1 := tx_toList X
          have e2 := tx_toList b
          have HX := Lib.hid hX
          have HOK := Lib.hid hok
          clear hput hlen hm9 hr9 hX hok
          by_cases hgd : X = b
          · have hgood : Rc.SGood b := ⟨by rw [HPA.out]; exact HOK.out, by rw [← HX.out]; exact hgd⟩
            have HG : Hid (Rc.sgot b = ⟨n0, (n1 : Int), (n2 : Int), (n3 : Int), done⟩) := Lib.hid ((Rc.sgot_yes hgood).trans HPA.out)
            have HGE := Lib.hid (Rc.sgotE_yes hgood)
            have q6 : (X == b) = true := beq_iff_eq.2 hgd
            have q7 : (X != b) = false := by rw [bne, q6]; rfl
            clear hgood hgd
            go_wp2
            exact bodyPost_ret (v := .tuple #[.agg #[.int .i64 n0, .int .i64 (n1 : Int), .int .i64 (n2 : Int), .int .i64 (n3 : Int), .slice A' k C'], .int .i64 0]) (by simp [results, Tryz.results28, go_sem, z0, z1, z2, z3, z4]) rfl (GotS.stored (s := ⟨n0, (n1 : Int), (n2 : Int), (n3 : Int), done⟩) HG.out HGE.out rfl HRZ9.out HLN.out.symm HG1.out HG2.out HG3.out HW9.out.bel)
          · have hbad : ¬ Rc.SGood b := fun h => hgd (by rw [HX.out]; exact h.2)
            have HG := Lib.hid (Rc.sgot_no hbad)
            have HGE := Lib.hid (Rc.sgotE_no hbad)
            have q6 : (X == b) = false := beq_eq_false_iff_ne.2 hgd
            have q7 : (X != b) = true := by rw [bne, q6]; rfl
            clear hbad hgd
            go_wp2
            exact bodyPost_ret (v := .tuple #[.agg #[.int .i64 0, .int .i64 0, .int .i64 0, .int .i64 0, .slice none 0 0], .int .i64 2]) (by simp [results, Tryz.results28, go_sem, z0, z1, z2, z3, z4]) rfl (GotS.stored (s := Rc.S.zero) HG.out HGE.out rfl (RdZ.empty _ _ _) rfl (Nat.le_refl _) (by decide) (fun _ => ⟨rfl, rfl⟩) HW9.out.bel)
        · have hbad : ¬ Rc.SGood b := fun h => hok (by have := h.1; rwa [HPA.out] at this)
          have HG := Lib.hid (Rc.sgot_no hbad)
          have HGE := Lib.hid (Rc.sgotE_no hbad)
          have hm0 : m9 = 0 := by rw [hm9, Rc.sput_no hok]; rfl
          clear hok hbad hm9 hr9
          subst hm0
          go_wp2
          exact bodyPost_ret (v := .tuple #[.agg #[.int .i64 0, .int .i64 0, .int .i64 0, .int .i64 0, .slice none 0 0], .int .i64 2]) (by simp [results, Tryz.results28, go_sem, z0, z1, z2, z3, z4]) rfl (GotS.stored (s := Rc.S.zero) HG.out HGE.out rfl (RdZ.empty _ _ _) rfl (Nat.le_refl _) (by decide) (fun _ => ⟨rfl, rfl⟩) HW9.out.bel)
    · have hL4 : ¬ L < 4 := fun h => hx (.inl h)
      have hk14 : k < 14 := by omega
      have q1 : decide (4 ≤ (L : Int)) = true := decide_eq_true (by omega)
      have q2 : decide (4 ≤ L) = true := decide_eq_true (by omega)
      have q3 : decide ((k : Int) < 14) = true := decide_eq_true (by omega)
      have q4 : decide (k < 14) = true := decide_eq_true hk14
      have HST := Lib.hid (HF.out.step (by rw [← HL.out]; exact hL4) hk14)
      have HD := Lib.hid HRO.out.drew
      have S0 := (seal5 HD.out.way.hd).2.2.2.2
      have hcl := refInt_any gr s _ wr.drew HD.out.way.rr
      obtain ⟨y, hy⟩ : ∃ y, y = Cd.num (Cd.tk 4 s) := ⟨_, rfl⟩
      rw [← hy] at hcl HST
      have HCL := Lib.hid hcl
      clear hcl hy hx hL4
      go_wp2_with (go_at_call 46; refine HLE.out.mono ?_; rintro e w' ⟨rfl, hw'⟩; subst hw')
      clear q1 q2 q3 q4 d0 d1 d2 d3 d4
      go_region_law (first
        | (refine step_append_eq (by rfl) _ _ _ _ (by rfl) _ _ _ _ hr5 (by rfl) (by rfl) ?_)
        | (go_simp; go_at_call 44; refine HCL.out.mono ?_; rintro e ws ⟨rfl, hr, hkp⟩; obtain ⟨A5, C5, w5, hr5, s1, s2, s3, s4, hro⟩ := HD.out.step (by omega) hr hkp y; have HRO5 := Lib.hid hro; clear hr hkp hro))
      all_goals
        go_wp2
        go_roundg (gk - 1)
        case measure => omega
        case rel => exact ⟨k + 1, A5, C5, done ++ [y], Cd.af 4 s, by omega, by omega, HST, HRO5⟩
theorem refReadSeal_any (A : Option Addr) (b : Tx) (n C : Nat) (G : Nat → Prop) (w : World) (hn : n = b.length) (hC : n ≤ C) (hCm : C ≤ maxLen) (hA : A = none → n = 0 ∧ C = 0) (hr : RdL w A b G) :
    Calls Tryz.prog 28 #[.slice A n C] w (GotS b w) := by
  exact refReadSeal_len A b n C G w hn hC (Nat.le_trans hC hCm) hA hr
end Go.Proofs.YtcokmmanajdioaaGreat
namespace Go.Proofs.YtcokmmanajdioaaGreat
open Go.RowKit
open Pt (Tx)

set_option maxRecDepth 100000 in
set_option maxHeartbeats 4000000 in
theorem refSealed_any (lab cap : Int) (bs : List Tx) (A : Option Addr) (L C : Nat) (G : Nat → Prop) (lost : Bool) (w : World) (hL : L = bs.length) (hLm : L ≤ 1000000) (hr : RdB w A bs G) (hl : ∀ s ∈ bs, s.length ≤ 1000) :
    Calls Tryz.prog 13 #[.agg #[.int .i64 lab, .int .i64 cap, .slice A L C, .bool lost]] w (SealA (Gr.sealed ⟨lab, cap, bs, lost⟩) w) := by
  obtain ⟨wb, hwb⟩ : ∃ wb, wb = (w.alloc (tapeObj lab cap A L C lost)).alloc (sealObj 0 0 0 0 none 0 0) := ⟨_, rfl⟩
  obtain ⟨hB, hT, hU⟩ := tape_seal hwb
  obtain ⟨N, hN⟩ : ∃ N : Int, N = (L : Int) - 1 := ⟨_, rfl⟩
  have hcall := refGood_any lab cap bs A L C G lost N wb hL (hr.old hB) hl
  have hgz : Vo.goodZ ⟨lab, bs, lost⟩ N = Vo.good ⟨lab, bs, lost⟩ (bs.length - 1) := by
    unfold Vo.goodZ
    split
    · have h0 : bs.length = 0 := by omega
      rw [Vo.good_end (t := ⟨lab, bs, lost⟩) (by show bs.length ≤ _; omega)]
    · rw [show N.toNat = bs.length - 1 by omega]
  rw [hgz] at hcall
  have s1 : IntKind.i64.wrap ((L : Int) - 1) = N := by rw [hN]; exact IntWalk.i64_in _ (by omega)
  have hload : (unitOf (Vo.good ⟨lab, bs, lost⟩ (bs.length - 1))).load.length ≤ 1000 := by
    cases h : Vo.good ⟨lab, bs, lost⟩ (bs.length - 1) with
    | none => exact Nat.zero_le _
    | some u =>
      obtain ⟨b, -, hg, rfl⟩ := Vo.good_some h
      have h1 := hg.1.2
      have h2 := Fm.room_le (Fm.parse b).kind
      show (Fm.parse b).load.length ≤ 1000
      omega
  have HB := Lib.hid hB
  have HU := Lib.hid hU
  have HW : Hid (wb = (w.alloc (.cells #[.int .i64 lab, .int .i64 cap, .slice A L C, .bool lost] 31)).alloc (.cells #[.int .i64 0, .int .i64 0, .int .i64 0, .int .i64 0, .slice none 0 0] 26)) := Lib.hid hwb
  obtain ⟨t0, t1, t2, t3⟩ := tape4 hT
  rw [HW.out] at t0 t1 t2 t3
  obtain ⟨ok, hok⟩ : ∃ ok, ok = (Vo.good ⟨lab, bs, lost⟩ (bs.length - 1)).isSome := ⟨_, rfl⟩
  obtain ⟨k, lb, nb, ld, hu⟩ : ∃ k lb nb ld, unitOf (Vo.good ⟨lab, bs, lost⟩ (bs.length - 1)) = ⟨k, lb, nb, ld⟩ := ⟨_, _, _, _, rfl⟩
  unfold GoodA at hcall
  rw [hu, ← hok] at hcall
  rw [hu] at hload
  have hload' : ld.length ≤ 1000 := hload
  have hcase : (Gr.sealed ⟨lab, cap, bs, lost⟩ = none ∧ (ok = false ∨ (ok = true ∧ (k != 5) = true))) ∨ (ok = true ∧ k = 5 ∧ Gr.sealed ⟨lab, cap, bs, lost⟩ = if Rc.SGood ld then some (Rc.sparse ld) else none) := by
    cases h : Vo.good ⟨lab, bs, lost⟩ (bs.length - 1) with
    | none =>
      rw [h] at hok
      exact .inl ⟨Gr.sealed_bad (t := ⟨lab, cap, bs, lost⟩) h, .inl hok⟩
    | some u =>
      rw [h] at hok hu
      have hok' : ok = true := hok
      have hu' : u = ⟨k, lb, nb, ld⟩ := hu
      subst hu'
      by_cases h1 : k = 5
      · refine .inr ⟨hok', h1, ?_⟩
        unfold Gr.sealed
        rw [show Vo.good (Gr.vo ⟨lab, cap, bs, lost⟩) ((⟨lab, cap, bs, lost⟩ : St.T).blocks.length - 1) = some ⟨k, lb, nb, ld⟩ from h]
        show (if k = 5 ∧ Rc.SGood ld then some (Rc.sparse ld) else none) = _
        by_cases h2 : Rc.SGood ld
        · rw [if_pos ⟨h1, h2⟩, if_pos h2]
        · rw [if_neg fun h => h2 h.2, if_neg h2]
      · exact .inl ⟨Gr.sealed_kind (t := ⟨lab, cap, bs, lost⟩) h h1, .inr ⟨hok', by simpa using h1⟩⟩
  have HC := Lib.hid hcall
  have HLD := Lib.hid hload'
  clear hcall hload hload' hB hT hU hwb hr hL hl hu hok hgz hN
  rcases hcase with ⟨hres, hq⟩ | ⟨rfl, rfl, hres⟩
  · have HRES := Lib.hid hres
    clear hres
    rcases hq with rfl | ⟨rfl, p1⟩
    all_goals
      go_enter Tryz.func13, Tryz.ntmps13
      go_wp2_with fail
      rw [← HW.out]
      refine HC.out.mono ?_
      rintro e w1 ⟨A1, m1, C1, rfl, hm1, hc1, hn1, hr1, hb1⟩
      obtain ⟨wc, hwc⟩ : ∃ wc, wc = w1.alloc (unitObj k lb nb A1 m1 C1) := ⟨_, rfl⟩
      have hbc : Below wb.heap.size wb wc := by rw [hwc]; exact hb1.alloc hb1.size _
      have HZ := Lib.hid (below_obj hbc HU.out)
      have HBC := Lib.hid (HB.out.trans (hbc.mono HB.out.size))
      have hX : wc.heap[w1.heap.size]? = some (unitObj k lb nb A1 m1 C1) := by rw [hwc]; exact Go.Deep.blk_alloc_new _ _
      obtain ⟨x0, x1, x2, x3⟩ := unit4 hX
      have HWC := Lib.hid hwc
      unfold unitObj at HWC
      obtain ⟨z0, z1, z2, z3, z4⟩ := seal5 HZ.out
      obtain ⟨y0, y1, y2, y3, y4⟩ := seal_free HZ.out
      rw [HWC.out] at z0 z1 z2 z3 z4 y0 y1 y2 y3 y4 x0 x1 x2 x3
      clear hwc hbc hb1 hr1 hn1 hc1 hm1 t0 t1 t2 t3 hX
      go_wp2
      rw [← HWC.out]
      clear z0 z1 z2 z3 z4
      obtain ⟨z0, z1, z2, z3, z4⟩ := seal5 HZ.out
      refine bodyPost_ret (v := .tuple #[.agg #[.int .i64 0, .int .i64 0, .int .i64 0, .int .i64 0, .slice none 0 0], .bool false]) (by simp [results, Tryz.results13, go_sem, z0, z1, z2, z3, z4]) rfl ?_
      rw [HRES.out]
      exact SealA.stored (l := []) rfl rfl (by omega) rfl (nil_ok _ _ _ _ _ _) HBC.out
  · have HRES := Lib.hid hres
    clear hres
    go_enter Tryz.func13, Tryz.ntmps13
    go_wp2_with fail
    rw [← HW.out]
    refine HC.out.mono ?_
    rintro e w1 ⟨A1, m1, C1, rfl, hm1, hc1, hn1, hr1, hb1⟩
    obtain ⟨wc, hwc⟩ : ∃ wc, wc = w1.alloc (unitObj 5 lb nb A1 m1 C1) := ⟨_, rfl⟩
    have hb1' : Below w1.heap.size w1 wc := by rw [hwc]; exact (Below.refl _ _).alloc (Nat.le_refl _) _
    have hbc : Below wb.heap.size wb wc := hb1.trans (hb1'.mono hb1.size)
    have hcall := refReadSeal_len A1 ld m1 C1 _ wc hm1 hc1 (by have h1 : m1 = ld.length := hm1; have := HLD.out; unfold maxLen; omega) hn1 (hr1.old hb1')
    have HC2 := Lib.hid hcall
    have HZ := Lib.hid (below_obj hbc HU.out)
    have HBC := Lib.hid (HB.out.trans (hbc.mono HB.out.size))
    have hX : wc.heap[w1.heap.size]? = some (unitObj 5 lb nb A1 m1 C1) := by rw [hwc]; exact Go.Deep.blk_alloc_new _ _
    obtain ⟨x0, x1, x2, x3⟩ := unit4 hX
    have HWC := Lib.hid hwc
    unfold unitObj at HWC
    rw [HWC.out] at x0 x1 x2 x3
    clear hwc hbc hb1 hb1' hr1 hn1 hc1 hm1 t0 t1 t2 t3 hcall HU HB hX
    go_wp2_with fail
    rw [← HWC.out]
    clear x0 x1 x2 x3
    refine HC2.out.mono ?_
    rintro e w2 ⟨A2, m2, C2, rfl, hm2, hc2, hcm2, hn2, hr2, hb2⟩
    obtain ⟨⟨sn, si, sd, sp, sl⟩, hs⟩ : ∃ s, s = Rc.sgot ld := ⟨_, rfl⟩
    obtain ⟨ge, hge⟩ : ∃ ge, ge = Rc.sgotE ld := ⟨_, rfl⟩
    rw [← hs] at hm2 hr2 ⊢
    rw [← hge]
    dsimp only at hm2 hr2 ⊢
    obtain ⟨wd, hwd⟩ : ∃ wd, wd = w2.alloc (sealObj sn si sd sp A2 m2 C2) := ⟨_, rfl⟩
    have hb2' : Below w2.heap.size w2 wd := by rw [hwd]; exact (Below.refl _ _).alloc (Nat.le_refl _) _
    have hbd : Below wc.heap.size wc wd := hb2.trans (hb2'.mono hb2.size)
    have HZD := Lib.hid (below_obj hbd HZ.out)
    have HBD := Lib.hid (HBC.out.trans (hbd.mono HBC.out.size))
    have hY : wd.heap[w2.heap.size]? = some (sealObj sn si sd sp A2 m2 C2) := by rw [hwd]; exact Go.Deep.blk_alloc_new _ _
    have HOK : Hid (Sx.Ok ⟨⟨sn, si, sd, sp, sl⟩, A2, C2⟩ wd (fun x => w.heap.size ≤ x ∧ x ≠ w.heap.size + 1)) := Lib.hid (by
      have h1 := heap_lt HZ.out
      have h2 := HBC.out.size
      refine ⟨by rw [← hm2]; exact hc2, hcm2, fun h => ?_, (hr2.old hb2').mono (fun x hx => ?_)⟩
      · have := hn2 h; rw [← hm2]; exact this
      · have hx' : wc.heap.size ≤ x := hx
        omega)
    have HM2 := Lib.hid hm2
    have HFIN : Hid ((⟨sn, si, sd, sp, sl⟩ : Rc.S) = sealIs (Gr.sealed ⟨lab, cap, bs, lost⟩) ∧ (Gr.sealed ⟨lab, cap, bs, lost⟩).isSome = (ge == 0)) := Lib.hid (by
      rw [HRES.out, hs, hge]
      by_cases hg : Rc.SGood ld
      · rw [if_pos hg, Rc.sgot_yes hg, Rc.sgotE_yes hg]
        exact ⟨rfl, rfl⟩
      · rw [if_neg hg, Rc.sgot_no hg, Rc.sgotE_no hg]
        exact ⟨rfl, rfl⟩)
    obtain ⟨x0, x1, x2, x3, x4⟩ := seal5 hY
    obtain ⟨z0, z1, z2, z3, z4⟩ := seal5 HZD.out
    obtain ⟨y0, y1, y2, y3, y4⟩ := seal_free HZD.out
    have HWD := Lib.hid hwd
    unfold sealObj at HWD
    rw [HWD.out] at x0 x1 x2 x3 x4 z0 z1 z2 z3 z4 y0 y1 y2 y3 y4
    clear hwd hb2 hb2' hbd hY hr2 hm2 hs hge hc2 hcm2 hn2
    go_wp2
    rw [← HWD.out]
    clear z0 z1 z2 z3 z4
    obtain ⟨z0, z1, z2, z3, z4⟩ := seal5 HZD.out
    exact bodyPost_ret (v := .tuple #[.agg #[.int .i64 sn, .int .i64 si, .int .i64 sd, .int .i64 sp, .slice A2 m2 C2], .bool (ge == 0)]) (by simp [results, Tryz.results13, go_sem, z0, z1, z2, z3, z4]) rfl (SealA.stored (l := sl) HFIN.out.1 HFIN.out.2 (by omega) HM2.out HOK.out HBD.out)
end Go.Proofs.YtcokmmanajdioaaGreat
namespace Go.Proofs.YtcokmmanajdioaaGreat
open Go.RowKit
open Pt (Tx)

/-- a seal in the call's first block, its labels in an own row behind it -/
structure RMk (w : World) (number d p : Int) (v : Value) (l : List Int) (wr : World) : Prop where
  hd : wr.heap[w.heap.size]? = some (.cells #[.int .i64 number, .int .i64 0, .int .i64 d, .int .i64 p, v] 26 (0, 0))
  own : OwnZ wr (w.heap.size + 1) v l
  bel : Below w.heap.size w wr
namespace RMk
variable {w wr w2 w3 : World} {number d p : Int} {v v' : Value} {l l' : List Int}
theorem start (w : World) (number d p : Int) : RMk w number d p (.slice none 0 0) [] (w.alloc (sealObj number 0 d p none 0 0)) :=
  ⟨Go.Deep.blk_alloc_new _ _, OwnZ.nil _ _, (Below.refl _ _).alloc (Nat.le_refl _) _⟩
theorem old (h : RMk w number d p v l wr) (hb : Below wr.heap.size wr w2) : RMk w number d p v l w2 :=
  ⟨(hb.block _ (heap_lt h.hd)).trans h.hd, h.own.of_block fun k e => hb.block k (h.own.lt k e), h.bel.trans (hb.mono h.bel.size)⟩
theorem push (h : RMk w number d p v l w2) (hg : w2.grownBy w3 v.ownBlock) (ho : OwnZ w3 (w.heap.size + 1) v' l') : RMk w number d p v' l' (w3.setCell ⟨w.heap.size, 4, none⟩ v') := by
  have h1 : w3.heap[w.heap.size]? = w2.heap[w.heap.size]? := hg.block _ (heap_lt h.hd) fun e => by have := h.own.lo _ e.symm; omega
  have h3 : Below w.heap.size w w3 := h.bel.grown hg h.bel.size fun k e => by have := h.own.lo k e; omega
  have hk : Kp (· = w.heap.size) w3 (w3.setCell ⟨w.heap.size, 4, none⟩ v') := Kp.store _ _ _ _
  refine ⟨heap_set (h1.trans h.hd) v', ho.of_block fun k e => ?_, h3.trans (hk.below h3.size (fun k e => by omega))⟩
  have := ho.lo k e
  exact Below.heap_setCell _ _ _ _ (fun e' => by have e'' : w.heap.size = k := e'.symm; omega)
end RMk
end Go.Proofs.YtcokmmanajdioaaGreat
