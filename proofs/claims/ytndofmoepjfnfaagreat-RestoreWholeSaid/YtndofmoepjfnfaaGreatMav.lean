/- What SealBytes of package record answers. A row of numbers that a call owns and makes longer by append. No function of the program. One who reads: a Reader, what is made, and the answer's own block. No function of the program. What ReadSeal of package record answers. -/
import Derived.Test.YtndofmoepjfnfaaGreatMau
import Derived.Test.YtndofmoepjfnfaaGreatMao
import Derived.Test.YtndofmoepjfnfaaGreatMas
import Derived.Laws.AppendOwn
import Derived.OwnWalk
import Derived.Test.YtndofmoepjfnfaaGreatMap
import Derived.IntWalk
import Derived.Deep.RegionHeld3
import Derived.Deep.DeepFit
namespace Go.Proofs.YtndofmoepjfnfaaGreat
open Go.RowKit
open Pt (Tx)

/-- a Writer of package code at work: what it holds, and what lies beside it -/
structure WrAt (w : World) (gr : Nat) (o : Obj) (l : Tx) (x : World) : Prop where
  wr : Wr x gr l
  hd : x.heap[w.heap.size]? = some o
  bel : Below w.heap.size w x
  lo : w.heap.size < gr
theorem WrAt.wrote {w : World} {gr : Nat} {l l' : Tx} {x y : World} {e : Ending} {o : Obj} (h : WrAt w gr o l x) (hw : Wrote gr l' x e y) : WrAt w gr o l' y := by
  obtain ⟨_, h2, h3⟩ := hw
  have := h.lo
  have h4 : w.heap.size < x.heap.size := by obtain ⟨hlt, _⟩ := Array.getElem?_eq_some_iff.1 h.hd; exact hlt
  exact ⟨h2, (h3.block _ h4 (by omega)).trans h.hd, h.bel.trans (lo_g h3 h.bel.size (by omega)), h.lo⟩
theorem labB_take {l : List Int} {k : Nat} (h : k < l.length) : Rc.labB (l.take (k + 1)) = Rc.labB (l.take k) ++ Cd.be4 l[k] := by
  rw [List.take_succ_eq_append_getElem h, Rc.labB_append, Rc.labB, Rc.labB, List.append_nil]
/-- a seal's bytes, with k labels -/
def sealPart (n x d p : Int) (l : List Int) (k : Nat) : Tx := Cd.be4 n ++ ([Cd.b8 x] ++ ([Cd.b8 d] ++ ([Cd.b8 p] ++ Rc.labB (l.take k))))
theorem sealPart_len (n x d p : Int) (l : List Int) (k : Nat) : (sealPart n x d p l k).length ≤ 7 + 4 * k := by
  unfold sealPart; simp only [List.length_append, Cd.be4_len, Rc.labB_len, List.length_cons, List.length_nil, List.length_take]; omega
theorem sealPart_more {n x d p : Int} {l : List Int} {k : Nat} (h : k < l.length) : sealPart n x d p l k ++ Cd.be4 l[k] = sealPart n x d p l (k + 1) := by
  unfold sealPart; rw [labB_take h]; simp only [List.append_assoc]
theorem sealPart_all {n x d p : Int} {l : List Int} {k : Nat} (h : l.length ≤ k) : sealPart n x d p l k = Rc.sblk ⟨n, x, d, p, l⟩ := by
  unfold sealPart Rc.sblk; rw [List.take_of_length_le h]
set_option maxHeartbeats 1000000 in
theorem sealBytes_no (n x d p : Int) (A : Option Addr) (l : List Int) (m C : Nat) (G : Nat → Prop) (w : World) (hm : m = l.length) (hC : m ≤ C) (hCm : C ≤ maxLen) (hr : RdZ w A l G) (hok : ¬ Rc.SOk ⟨n, x, d, p, l⟩) :
    Calls Tryz.prog 74 #[.agg #[.int .i64 n, .int .i64 x, .int .i64 d, .int .i64 p, .slice A m C]] w (AnsT (Rc.sput ⟨n, x, d, p, l⟩) w) := by
  have HB0 : Hid (Below w.heap.size w (w.alloc (sealObj n x d p A m C))) := Lib.hid ((Below.refl _ _).alloc (Nat.le_refl _) _)
  have HU0 : Hid ((w.alloc (sealObj n x d p A m C)).heap[w.heap.size]? = some (sealObj n x d p A m C)) := Lib.hid (Go.Deep.blk_alloc_new _ _)
  have hcall := rightSeal_any n x d p A l m C G (w.alloc (sealObj n x d p A m C)) hm hC hCm (hr.old HB0.out)
  rw [decide_eq_false hok] at hcall
  have HC := Lib.hid hcall
  have HP := Lib.hid (Rc.sput_no hok)
  clear hm hC hCm hr hok hcall
  obtain ⟨a0, a1, a2, a3, a4⟩ := seal5 HU0.out
  unfold sealObj at a0 a1 a2 a3 a4 HC
  go_enter Tryz.func74, Tryz.ntmps74
  go_wp2_with fail
  refine HC.out.mono ?_
  rintro e w1 ⟨rfl, hb⟩
  have HB1 := Lib.hid (HB0.out.trans (hb.mono HB0.out.size))
  clear hb a0 a1 a2 a3 a4
  go_wp2
  go_ret
  rw [HP.out]
  exact AnsT.nil HB1.out
set_option maxHeartbeats 4000000 in
theorem sealBytes_yes (n x d p : Int) (A : Option Addr) (l : List Int) (m C : Nat) (G : Nat → Prop) (w : World) (hm : m = l.length) (hC : m ≤ C) (hCm : C ≤ maxLen) (hr : RdZ w A l G) (hok : Rc.SOk ⟨n, x, d, p, l⟩) :
    Calls Tryz.prog 74 #[.agg #[.int .i64 n, .int .i64 x, .int .i64 d, .int .i64 p, .slice A m C]] w (AnsT (Rc.sput ⟨n, x, d, p, l⟩) w) := by
  have HB0 : Hid (Below w.heap.size w (w.alloc (sealObj n x d p A m C))) := Lib.hid ((Below.refl _ _).alloc (Nat.le_refl _) _)
  have HU0 : Hid ((w.alloc (sealObj n x d p A m C)).heap[w.heap.size]? = some (sealObj n x d p A m C)) := Lib.hid (Go.Deep.blk_alloc_new _ _)
  have hcall := rightSeal_any n x d p A l m C G (w.alloc (sealObj n x d p A m C)) hm hC hCm (hr.old HB0.out)
  rw [decide_eq_true hok] at hcall
  have HC := Lib.hid hcall
  have HP := Lib.hid (Rc.sput_ok hok)
  have hm14 : m ≤ 14 := by rw [hm]; exact hok.few
  have HR := Lib.hid hr
  have HM := Lib.hid hm
  clear hm hC hCm hr hok hcall
  obtain ⟨a0, a1, a2, a3, a4⟩ := seal5 HU0.out
  unfold sealObj at a0 a1 a2 a3 a4 HC
  go_enter Tryz.func74, Tryz.ntmps74
  go_wp2_with fail
  refine HC.out.mono ?_
  rintro e w1 ⟨rfl, hb⟩
  obtain ⟨gr, hgr⟩ : ∃ gr, gr = w1.heap.size := ⟨_, rfl⟩
  obtain ⟨wb, hwb⟩ : ∃ wb, wb = w1.alloc (.cells #[.pointer none, .int .i64 0] 159) := ⟨_, rfl⟩
  have hU1 := below_obj hb HU0.out
  have hB1 := HB0.out.trans (hb.mono HB0.out.size)
  have HW2 : Hid (WrAt w gr (sealObj n x d p A m C) [] wb) := Lib.hid (by
    rw [hwb, hgr]
    exact ⟨Wr.new w1, (Below.heap_alloc _ _ _ (heap_lt hU1)).trans hU1, hB1.alloc hB1.size _, heap_lt hU1⟩)
  have HWB := Lib.hid hwb
  have HGR := Lib.hid hgr
  clear hb a0 a1 a2 a3 a4 hU1 hB1 hwb hgr
  obtain ⟨a0, a1, a2, a3, a4⟩ := seal5 HW2.out.hd
  rw [HWB.out] at a0 a1 a2 a3 a4
  go_wp2_with fail
  rw [← HWB.out, ← HGR.out]
  refine (wint_any gr [] n wb HW2.out.wr (by simp)).mono ?_
  intro e w3 hW
  have HW3 : Hid (WrAt w gr (sealObj n x d p A m C) _ w3) := Lib.hid (HW2.out.wrote hW)
  obtain ⟨rfl, -, -⟩ := hW
  clear a0 a1 a2 a3 a4
  obtain ⟨a0, a1, a2, a3, a4⟩ := seal5 HW3.out.hd
  go_wp2_with fail
  refine (wbyte_int gr _ x w3 HW3.out.wr (by simp [Cd.be4_len])).mono ?_
  intro e w4 hW
  have HW4 : Hid (WrAt w gr (sealObj n x d p A m C) _ w4) := Lib.hid (HW3.out.wrote hW)
  obtain ⟨rfl, -, -⟩ := hW
  clear a0 a1 a2 a3 a4
  obtain ⟨a0, a1, a2, a3, a4⟩ := seal5 HW4.out.hd
  go_wp2_with fail
  refine (wbyte_int gr _ d w4 HW4.out.wr (by simp [Cd.be4_len])).mono ?_
  intro e w5 hW
  have HW5 : Hid (WrAt w gr (sealObj n x d p A m C) _ w5) := Lib.hid (HW4.out.wrote hW)
  obtain ⟨rfl, -, -⟩ := hW
  clear a0 a1 a2 a3 a4
  obtain ⟨a0, a1, a2, a3, a4⟩ := seal5 HW5.out.hd
  go_wp2_with fail
  refine (wbyte_int gr _ p w5 HW5.out.wr (by simp [Cd.be4_len])).mono ?_
  intro e w6 hW
  have HW6 : Hid (WrAt w gr (sealObj n x d p A m C) _ w6) := Lib.hid (HW5.out.wrote hW)
  obtain ⟨rfl, -, -⟩ := hW
  clear a0 a1 a2 a3 a4
  obtain ⟨a0, a1, a2, a3, a4⟩ := seal5 HW6.out.hd
  go_wp2
  have HT : Hid ((((([] ++ Cd.be4 n) ++ [Cd.b8 x]) ++ [Cd.b8 d]) ++ [Cd.b8 p]) = sealPart n x d p l 0) := Lib.hid (by unfold sealPart; simp only [List.nil_append, List.append_assoc, List.take_zero, Rc.labB, List.append_nil])
  have hstart := HW6.out
  rw [HT.out] at hstart
  have HS := Lib.hid hstart
  clear hstart a0 a1 a2 a3 a4
  go_loopw [27] (fun vi wr => ∃ k : Nat, k ≤ m ∧ vi = .int .i64 (k : Int) ∧ Hid (WrAt w gr (sealObj n x d p A m C) (sealPart n x d p l k) wr)) (fun vi _ => m - (intOf vi).toNat)
  case atStart => exact ⟨0, Nat.zero_le _, rfl, HS⟩
  case round =>
    obtain ⟨k, hk, rfl, HK⟩ := hrel
    obtain ⟨a0, a1, a2, a3, a4⟩ := seal5 HK.out.hd
    by_cases hlt : k < m
    · have hlt' : k < l.length := by rw [← HM.out]; exact hlt
      obtain ⟨b, off, rfl, -, hc⟩ := (HR.out.old HK.out.bel).at_ hlt'
      have HMO := Lib.hid (sealPart_more (n := n) (x := x) (d := d) (p := p) hlt')
      have HLE := Lib.hid (sealPart_len n x d p l k)
      obtain ⟨y, hy⟩ : ∃ y, y = l[k] := ⟨_, rfl⟩
      rw [← hy] at hc HMO
      clear hy
      have hle : (sealPart n x d p l k).length ≤ 999999990 := by have := HLE.out; omega
      have HLE2 := Lib.hid hle
      clear hle
      have hcall := wint_any gr (sealPart n x d p l k) y wr HK.out.wr HLE2.out
      have HCL := Lib.hid hcall
      clear hcall
      go_wp2_with fail
      refine HCL.out.mono ?_
      intro e ws hW
      have HN : Hid (WrAt w gr (sealObj n x d p (some ⟨b, off, none⟩) m C) (sealPart n x d p l (k + 1)) ws) := Lib.hid (by have := HK.out.wrote hW; rwa [HMO.out] at this)
      obtain ⟨rfl, -, -⟩ := hW
      clear a0 a1 a2 a3 a4 hc
      go_wp2
      go_roundw
      case rel => exact ⟨k + 1, by omega, by go_num, HN⟩
      case measure => simp [intOf]; omega
    · have HE := Lib.hid (sealPart_all (n := n) (x := x) (d := d) (p := p) (l := l) (k := k) (by rw [← HM.out]; omega))
      have hK := HK.out
      rw [HE.out] at hK
      have hlen : (Rc.sblk ⟨n, x, d, p, l⟩).length ≤ 63 := by
        have := Rc.sput_le ⟨n, x, d, p, l⟩
        rw [HP.out] at this; exact this
      have hcall := bytes_own gr _ wr hK.wr (by omega)
      have hcall' := hcall.mono fun e w' h => AnsT.after hK.bel (AnsT.of_new (by unfold maxLen; omega) h)
      have HCL := Lib.hid hcall'
      clear hcall hcall' hK hlen a0 a1 a2 a3 a4
      go_wp2_with fail
      refine HCL.out.mono ?_
      rintro e w' ⟨A', n', C', rfl, h1, h3, h4, h5, h6, h7⟩
      have HA : Hid (AnsT (Rc.sblk ⟨n, x, d, p, l⟩) w (.returned (.slice A' n' C')) w') := Lib.hid ⟨A', n', C', rfl, h1, h3, h4, h5, h6, h7⟩
      clear h1 h3 h4 h5 h6 h7
      go_wp2
      go_ret
      rw [HP.out]
      exact HA.out
theorem sealBytes_any (n x d p : Int) (A : Option Addr) (l : List Int) (m C : Nat) (G : Nat → Prop) (w : World) (hm : m = l.length) (hC : m ≤ C) (hCm : C ≤ maxLen) (hr : RdZ w A l G) :
    Calls Tryz.prog 74 #[.agg #[.int .i64 n, .int .i64 x, .int .i64 d, .int .i64 p, .slice A m C]] w (AnsT (Rc.sput ⟨n, x, d, p, l⟩) w) := by
  by_cases hok : Rc.SOk ⟨n, x, d, p, l⟩
  · exact sealBytes_yes n x d p A l m C G w hm hC hCm hr hok
  · exact sealBytes_no n x d p A l m C G w hm hC hCm hr hok
end Go.Proofs.YtndofmoepjfnfaaGreat
namespace Go.Proofs.YtndofmoepjfnfaaGreat
open Go.RowKit

theorem infoI : (Tryz.prog.info? 3).map (fun i => (i.zero, i.size, i.bytes)) = some (some (.int .i64 0), 1, 8) := by kernel_rfl
theorem cellsZ_one {l : List Int} : ∀ u ∈ cellsZ l, u.oneCell' = true := by
  intro u hu
  simp only [cellsZ, List.mem_map] at hu
  obtain ⟨x, _, rfl⟩ := hu
  rfl
theorem cellsZ_some {l : List Int} {j : Nat} {u : Value} (h : (cellsZ l)[j]? = some u) : ∃ hj : j < l.length, u = .int .i64 l[j] := by
  obtain ⟨hj, e⟩ := List.getElem?_eq_some_iff.1 h
  have hj' : j < l.length := by rwa [cellsZ_len] at hj
  refine ⟨hj', ?_⟩
  rw [cellsZ_get hj'] at h
  exact (Option.some.inj h).symm
/-- v is a slice of the call's own that holds the numbers l -/
def OwnZ (w : World) (base : Nat) (v : Value) (l : List Int) : Prop := w.ownsRow base 3 1 v l.length (cellsZ l)
namespace OwnZ
variable {w w' : World} {base : Nat} {v : Value} {l : List Int}
theorem nil (w : World) (base : Nat) : OwnZ w base (.slice none 0 0) [] := World.ownsRow_nil _ _ _ _
theorem rd (h : OwnZ w base v l) : ∃ A C, v = .slice A l.length C ∧ l.length ≤ C ∧ C ≤ maxLen ∧ (A = none → l.length = 0 ∧ C = 0) ∧ RdZ w A l (base ≤ ·) := by
  rcases h.2 with ⟨rfl, h0⟩ | ⟨g, cap, cur, rfl, hb, hg, hnc, hcm, hs, ht⟩
  · have : l = [] := List.length_eq_zero_iff.1 h0
    subst this
    exact ⟨none, 0, rfl, Nat.le_refl _, by decide, fun _ => ⟨rfl, rfl⟩, RdZ.empty _ _ _⟩
  · refine ⟨_, cap, rfl, hnc, hcm, (fun h => by cases h), fun _ => ⟨g, 0, rfl, hb, fun j hj => ?_⟩⟩
    have hx := cellsZ_get hj
    rw [← ht, List.getElem?_take, if_pos (by omega), Array.getElem?_toList] at hx
    simp [World.cell?, hg, hx]
theorem lo (h : OwnZ w base v l) : ∀ k, v.ownBlock = some k → base ≤ k := fun k hk => (World.ownsRow.lt h k hk).1
theorem lt (h : OwnZ w base v l) : ∀ k, v.ownBlock = some k → k < w.heap.size := fun k hk => (World.ownsRow.lt h k hk).2
theorem of_block (h : OwnZ w base v l) (hb : ∀ k, v.ownBlock = some k → w'.heap[k]? = w.heap[k]?) : OwnZ w' base v l := by
  refine ⟨h.1, ?_⟩
  rcases h.2 with h0 | ⟨g, cap, cur, rfl, hb', hg, hr⟩
  · exact .inl h0
  · exact .inr ⟨g, cap, cur, rfl, hb', (hb g rfl).trans hg, hr⟩
theorem kp {S : Nat → Prop} (h : OwnZ w base v l) (hk : Kp S w w') (hs : ∀ k, v.ownBlock = some k → ¬ S k) : OwnZ w' base v l :=
  h.of_block fun k e => hk.block k (h.lt k e) (hs k e)
end OwnZ
theorem apZ_run (w : World) (base : Nat) (v : Value) (l : List Int) (hown : OwnZ w base v l) (ad : Addr) (m c : Nat) (l' : List Int) (G : Nat → Prop) (hm : l'.length = m) (hr : RdZ w (some ad) l' G) (hb : (l.length + m) * 8 ≤ 140737488355328) (hbase : base ≤ w.heap.size) (n : Nat) (hn : n = l.length + m) :
    ∃ A' C' w', (∀ ty, (Builtin.append_ #[23, 23] ty #[v, .slice (some ad) m c]).run Tryz.prog w = .ok (.slice A' n C') w') ∧ OwnZ w' base (.slice A' n C') (l ++ l') ∧ w.grownBy w' v.ownBlock := by
  obtain ⟨i0, hi, hz0, hz1, hz2⟩ := info_parts infoI
  have hnews : ∀ j u, (cellsZ l')[j]? = some u → w.cell? (ad.add j) = some u := fun j u hu => by
    obtain ⟨hj, rfl⟩ := cellsZ_some hu
    obtain ⟨b, off, e, _, hc⟩ := hr (by omega)
    cases e
    rw [addr_add]; exact hc j hj
  obtain ⟨v', w', h1, h2, h3, _⟩ := run_append_own (P := Tryz.prog) w base 23 3 3 i0 (.int .i64 0) 1 8 Tryz.underlying23 hi hz0 hz1 hz2 rfl (by decide) v l.length (cellsZ l) hown ad m c (cellsZ l') (by rw [cellsZ_len, hm, Nat.mul_one]) hnews cellsZ_one (by unfold maxLen; omega) (by omega) hbase
  have h2' : OwnZ w' base v' (l ++ l') := by unfold OwnZ; rw [cellsZ_append, List.length_append, hm]; exact h2
  obtain ⟨A', C', rfl, _, _, _, _⟩ := h2'.rd
  have e : (l ++ l').length = n := by rw [List.length_append, hm, hn]
  refine ⟨A', C', w', fun ty => by rw [← e]; exact h1, ?_, h3⟩
  rw [← e]; exact h2'
end Go.Proofs.YtndofmoepjfnfaaGreat
namespace Go.Proofs.YtndofmoepjfnfaaGreat
open Go.RowKit
open Pt (Tx)

/-- the state of one who reads: a Reader, what is made, and the answer's own block -/
structure Way (w : World) (gr hB : Nat) (s : Cd.St) (G : Nat → Prop) (o z : Obj) (x : World) : Prop where
  rr : Rr x gr s G
  hd : x.heap[hB]? = some o
  zr : x.heap[w.heap.size]? = some z
  bel : Below w.heap.size w x
  lo : w.heap.size < gr
  ne : gr < hB
  gs : ∀ b, G b → b < gr
theorem Way.red {w : World} {gr hB : Nat} {s s' : Cd.St} {G : Nat → Prop} {o z : Obj} {x y : World} (h : Way w gr hB s G o z x) (hr : Rr y gr s' G) (hk : Kp (· = gr) x y) : Way w gr hB s' G o z y := by
  have h1 : hB < x.heap.size := by obtain ⟨hlt, _⟩ := Array.getElem?_eq_some_iff.1 h.hd; exact hlt
  have h2 : w.heap.size < x.heap.size := by obtain ⟨hlt, _⟩ := Array.getElem?_eq_some_iff.1 h.zr; exact hlt
  have := h.lo
  have := h.ne
  exact ⟨hr, (hk.block _ h1 (by omega)).trans h.hd, (hk.block _ h2 (by omega)).trans h.zr, h.bel.trans (lo_g hk h.bel.size (by omega)), h.lo, h.ne, h.gs⟩
theorem Way.set {w : World} {gr hB : Nat} {s : Cd.St} {G : Nat → Prop} {z : Obj} {x : World} {cs cs' : Array Value} {t : TypeId} {fr : Nat × Nat} (h : Way w gr hB s G (.cells cs t fr) z x) (i : Nat) (v : Value) (hc : cs.setIfInBounds i v = cs') : Way w gr hB s G (.cells cs' t fr) z (x.setCell ⟨hB, i, none⟩ v) := by
  subst hc
  have hk : Kp (· = hB) x (x.setCell ⟨hB, i, none⟩ v) := Kp.store _ _ _ _
  have h2 : w.heap.size < x.heap.size := by obtain ⟨hlt, _⟩ := Array.getElem?_eq_some_iff.1 h.zr; exact hlt
  have := h.lo
  have := h.ne
  exact ⟨h.rr.kp hk (by omega) (fun b hb => by have := h.gs b hb; omega), heap_set h.hd _, (hk.block _ h2 (by omega)).trans h.zr, h.bel.trans (lo_g hk h.bel.size (by omega)), h.lo, h.ne, h.gs⟩
theorem Way.old {w : World} {gr hB : Nat} {s : Cd.St} {G : Nat → Prop} {o z : Obj} {x y : World} (h : Way w gr hB s G o z x) (hb : Below x.heap.size x y) : Way w gr hB s G o z y := by
  have h1 : hB < x.heap.size := by obtain ⟨hlt, _⟩ := Array.getElem?_eq_some_iff.1 h.hd; exact hlt
  have h2 : w.heap.size < x.heap.size := by obtain ⟨hlt, _⟩ := Array.getElem?_eq_some_iff.1 h.zr; exact hlt
  exact ⟨h.rr.kp (S := fun _ => False) (Kp.of_below hb) (fun h => h) (fun _ _ h => h), (hb.block _ h1).trans h.hd, (hb.block _ h2).trans h.zr, h.bel.trans (hb.mono h.bel.size), h.lo, h.ne, h.gs⟩
end Go.Proofs.YtndofmoepjfnfaaGreat
namespace Go.Proofs.YtndofmoepjfnfaaGreat
open Go.RowKit
open Pt (Tx)

/-- what ReadSeal answers -/
def GotS (b : Tx) (w : World) (e : Ending) (w' : World) : Prop :=
  ∃ A m C, e = .returned (.tuple #[.agg #[.int .i64 (Rc.sgot b).number, .int .i64 (Rc.sgot b).index, .int .i64 (Rc.sgot b).data, .int .i64 (Rc.sgot b).parity, .slice A m C], .int .i64 (Rc.sgotE b)])
    ∧ m = (Rc.sgot b).labels.length ∧ m ≤ C ∧ C ≤ maxLen ∧ (A = none → m = 0 ∧ C = 0) ∧ RdZ w' A (Rc.sgot b).labels (w.heap.size ≤ ·) ∧ Below w.heap.size w w'
theorem GotS.stored {b : Tx} {w y : World} {B : Nat} {a0 a1 a2 a3 a4 : Value} {s : Rc.S} {er : Int} {A : Option Addr} {m C : Nat} (hu : Rc.sgot b = s) (he : Rc.sgotE b = er) (hB : B = w.heap.size) (hr : RdZ y A s.labels (B < ·)) (hm : m = s.labels.length) (hc : m ≤ C) (hcm : C ≤ maxLen) (hn : A = none → m = 0 ∧ C = 0) (hb : Below w.heap.size w y) :
    GotS b w (.returned (.tuple #[.agg #[.int .i64 s.number, .int .i64 s.index, .int .i64 s.data, .int .i64 s.parity, .slice A m C], .int .i64 er])) (((((y.setCell ⟨B, 0, none⟩ a0).setCell ⟨B, 1, none⟩ a1).setCell ⟨B, 2, none⟩ a2).setCell ⟨B, 3, none⟩ a3).setCell ⟨B, 4, none⟩ a4) := by
  subst hB
  have hk : Kp (· = w.heap.size) y (((((y.setCell ⟨w.heap.size, 0, none⟩ a0).setCell ⟨w.heap.size, 1, none⟩ a1).setCell ⟨w.heap.size, 2, none⟩ a2).setCell ⟨w.heap.size, 3, none⟩ a3).setCell ⟨w.heap.size, 4, none⟩ a4) := ((((Kp.store _ _ _ _).trans (Kp.store _ _ _ _)).trans (Kp.store _ _ _ _)).trans (Kp.store _ _ _ _)).trans (Kp.store _ _ _ _)
  exact ⟨A, m, C, by rw [hu, he], by rw [hu]; exact hm, hc, hcm, hn, by rw [hu]; exact (hr.kp hk (fun x hx hx' => by omega)).mono (fun x hx => by omega), hb.trans (hk.below hb.size (fun x hx => by omega))⟩
/-- a row of the call's own is being filled -/
def Fills (lb : Nat) (l : List Int) (x : World) : Prop := x.heap[lb]? = some (.cells (cellsZ l).toArray 3 (0, 0))
theorem fill_start (w : World) (N : Nat) : Fills w.heap.size ([] ++ List.replicate N 0) (w.alloc (.cells (madeCells #[.int .i64 0] N) 3)) := by
  unfold Fills
  rw [Go.Deep.blk_alloc_new]
  congr 2
  apply Array.ext
  · simp [size_madeCells, cellsZ_len]
  · intro i h1 h2
    simp [madeCells, cellsZ, Nat.mod_one]
theorem fill_cells {k N : Nat} {done : List Int} (hk : done.length = k) (hlt : k < N) (y : Int) : (cellsZ (done ++ List.replicate (N - k) 0)).toArray.setIfInBounds k (.int .i64 y) = (cellsZ ((done ++ [y]) ++ List.replicate (N - (k + 1)) 0)).toArray := by
  have e : N - k = (N - (k + 1)) + 1 := by omega
  rw [e, List.replicate_succ, List.append_assoc]
  simp only [cellsZ_append, List.setIfInBounds_toArray, List.singleton_append]
  congr 1
  rw [List.set_append_right _ _ (by rw [cellsZ_len]; omega), cellsZ_len, hk, Nat.sub_self]
  rfl
theorem fill_get {k N : Nat} {done : List Int} (hk : done.length = k) (hlt : k < N) {lb : Nat} {x : World} (h : Fills lb (done ++ List.replicate (N - k) 0) x) : x.cell? ⟨lb, k, none⟩ = some (.int .i64 0) := by
  have e : N - k = (N - (k + 1)) + 1 := by omega
  rw [heap_cell h, List.getElem?_toArray, cellsZ_append, List.getElem?_append_right (by rw [cellsZ_len]; omega), cellsZ_len, hk, Nat.sub_self, e, List.replicate_succ]
  rfl
theorem labsP_step {n : Nat} {s : Cd.St} : Rc.labsP (n + 1) s = Cd.num (Cd.tk 4 s) :: Rc.labsP n (Cd.af 4 s) := rfl
/-- how far the labels are read -/
def Far10 (N : Nat) (s0 : Cd.St) (n : Nat) (k : Nat) (done : List Int) (s : Cd.St) : Prop := done.length = k ∧ Rc.labsP N s0 = done ++ Rc.labsP (N - k) s ∧ s.1.length ≤ n
theorem Far10.step {N n k : Nat} {s0 s : Cd.St} {done : List Int} (h : Far10 N s0 n k done s) (hk : k < N) : Far10 N s0 n (k + 1) (done ++ [Cd.num (Cd.tk 4 s)]) (Cd.af 4 s) := by
  obtain ⟨h1, h2, h3⟩ := h
  refine ⟨by simp [h1], ?_, Nat.le_trans (Cd.af_le 4 s) h3⟩
  rw [h2, show N - k = (N - (k + 1)) + 1 by omega, labsP_step, List.append_assoc]; rfl
theorem Far10.done {N n k : Nat} {s0 s : Cd.St} {done : List Int} (h : Far10 N s0 n k done s) (hk : k = N) : done = Rc.labsP N s0 := by
  rw [h.2.1, hk, Nat.sub_self]; simp [Rc.labsP]
theorem r_len (b : Tx) : (Rc.r1 b).1.length ≤ b.length ∧ (Rc.r2 b).1.length ≤ b.length ∧ (Rc.r3 b).1.length ≤ b.length ∧ (Rc.r4 b).1.length ≤ b.length := by
  have h1 : (Rc.r1 b).1.length ≤ b.length := Cd.af_le _ (b, false)
  have h2 : (Rc.r2 b).1.length ≤ (Rc.r1 b).1.length := Cd.af_le _ _
  have h3 : (Rc.r3 b).1.length ≤ (Rc.r2 b).1.length := Cd.af_le _ _
  have h4 : (Rc.r4 b).1.length ≤ (Rc.r3 b).1.length := Cd.af_le _ _
  omega
/-- what is kept of the walk while the row is filled -/
structure Row10 (w : World) (gr hB lb : Nat) (s : Cd.St) (G : Nat → Prop) (o z : Obj) (l : List Int) (x : World) : Prop where
  way : Way w gr hB s G o z x
  fil : Fills lb l x
  ne : hB < lb
theorem Row10.red {w : World} {gr hB lb : Nat} {s s' : Cd.St} {G : Nat → Prop} {o z : Obj} {l : List Int} {x y : World} (h : Row10 w gr hB lb s G o z l x) (hr : Rr y gr s' G) (hk : Kp (· = gr) x y) : Row10 w gr hB lb s' G o z l y := by
  have := h.way.ne
  have := h.ne
  exact ⟨h.way.red hr hk, (hk.block _ (heap_lt h.fil) (by omega)).trans h.fil, h.ne⟩
theorem Row10.set {w : World} {gr hB lb : Nat} {s : Cd.St} {G : Nat → Prop} {o z : Obj} {k N : Nat} {done : List Int} {x : World} (h : Row10 w gr hB lb s G o z (done ++ List.replicate (N - k) 0) x) (hd : done.length = k) (hlt : k < N) (y : Int) :
    Row10 w gr hB lb s G o z ((done ++ [y]) ++ List.replicate (N - (k + 1)) 0) (x.setCell ⟨lb, k, none⟩ (.int .i64 y)) := by
  have hk : Kp (· = lb) x (x.setCell ⟨lb, k, none⟩ (.int .i64 y)) := Kp.store _ _ _ _
  have hw := h.way
  have h0 := hw.lo
  have h1 := hw.ne
  have h2 := h.ne
  have h3 : hB < x.heap.size := by obtain ⟨hlt, _⟩ := Array.getElem?_eq_some_iff.1 hw.hd; exact hlt
  have h4 : w.heap.size < x.heap.size := by obtain ⟨hlt, _⟩ := Array.getElem?_eq_some_iff.1 hw.zr; exact hlt
  refine ⟨⟨hw.rr.kp hk (by omega) (fun b hb => by have := hw.gs b hb; omega), (hk.block _ h3 (by omega)).trans hw.hd, (hk.block _ h4 (by omega)).trans hw.zr, hw.bel.trans (lo_g hk hw.bel.size (by omega)), hw.lo, hw.ne, hw.gs⟩, ?_, h.ne⟩
  unfold Fills
  rw [heap_set h.fil, fill_cells hd hlt]
theorem Row10.old {w : World} {gr hB lb : Nat} {s : Cd.St} {G : Nat → Prop} {o z : Obj} {l : List Int} {x y : World} (h : Row10 w gr hB lb s G o z l x) (hb : Below x.heap.size x y) : Row10 w gr hB lb s G o z l y :=
  ⟨h.way.old hb, below_obj hb h.fil, h.ne⟩
theorem Row10.drew {w : World} {gr hB lb : Nat} {s : Cd.St} {G : Nat → Prop} {o z : Obj} {l : List Int} {x : World} (h : Row10 w gr hB lb s G o z l x) : Row10 w gr hB lb s G o z l x.drew :=
  ⟨h.way.old ((Below.refl _ _).drew), h.fil, h.ne⟩
set_option maxRecDepth 100000 in
set_option maxHeartbeats 8000000 in
theorem readSeal_any (A : Option Addr) (b : Tx) (n C : Nat) (G : Nat → Prop) (w : World) (hn : n = b.length) (hl : n ≤ 1000000) (hA : A = none → n = 0 ∧ C = 0) (hr : RdL w A b G) :
    Calls Tryz.prog 58 #[.slice A n C] w (GotS b w) := by
  have HB0 : Hid (Below w.heap.size w (w.alloc (sealObj 0 0 0 0 none 0 0))) := Lib.hid ((Below.refl _ _).alloc (Nat.le_refl _) _)
  have HR : Hid (RdL w A b G) := Lib.hid hr
  have HN := Lib.hid hn
  have hcall := newReader_any A b C G (w.alloc (sealObj 0 0 0 0 none 0 0)) (by rw [← hn]; exact hA) (hr.old HB0.out) (by omega)
  rw [← hn] at hcall
  have hlen := r_len b
  rw [← hn] at hlen
  obtain ⟨l1, l2, l3, l4⟩ := hlen
  obtain ⟨n0, hn0⟩ : ∃ k, k = Cd.num (Cd.tk 4 (b, false)) := ⟨_, rfl⟩
  obtain ⟨n1, hn1⟩ : ∃ k, k = (Cd.byt (Rc.r1 b)).toNat := ⟨_, rfl⟩
  obtain ⟨n2, hn2⟩ : ∃ k, k = (Cd.byt (Rc.r2 b)).toNat := ⟨_, rfl⟩
  obtain ⟨n3, hn3⟩ : ∃ k, k = (Cd.byt (Rc.r3 b)).toNat := ⟨_, rfl⟩
  have k1 : n1 < 256 := by rw [hn1]; exact (Cd.byt (Rc.r1 b)).toNat_lt
  have k2 : n2 < 256 := by rw [hn2]; exact (Cd.byt (Rc.r2 b)).toNat_lt
  have k3 : n3 < 256 := by rw [hn3]; exact (Cd.byt (Rc.r3 b)).toNat_lt
  obtain ⟨N, hNN⟩ : ∃ N, N = n2 + n3 := ⟨_, rfl⟩
  have hNs : (n2 : Int) + (n3 : Int) = (N : Int) := by omega
  have hNl : N ≤ 510 := by omega
  obtain ⟨labs, hlabs⟩ : ∃ l, l = Rc.labsP N (Rc.r4 b) := ⟨_, rfl⟩
  have hll : labs.length = N := by rw [hlabs]; exact Rc.labsP_len _ _
  have HPA : Hid (Rc.pparse b = ⟨n0, (n1 : Int), (n2 : Int), (n3 : Int), labs⟩) := Lib.hid (by rw [hlabs, hNN, hn0, hn1, hn2, hn3]; rfl)
  have H0 := Lib.hid hn0
  have H1 := Lib.hid hn1
  have H2 := Lib.hid hn2
  have H3 := Lib.hid hn3
  have HLB := Lib.hid hlabs
  have HLL := Lib.hid hll
  have HC := Lib.hid hcall
  have hmk := run_make_row' (P := Tryz.prog) 23 3 (.int .i64 0) 8 Tryz.underlying23 infoI rfl .i64 .i64 N (by omega) (by omega)
  have HMK := Lib.hid hmk
  clear hr hcall hn0 hn1 hn2 hn3 hlabs hll hn hA hNN hmk
  unfold sealObj at HC
  go_enter Tryz.func58, Tryz.ntmps58
  go_wp2_with fail
  refine HC.out.mono ?_
  clear HC
  rintro e w1 ⟨gr, rfl, hlo, hr1, hb1⟩
  have HB1 := Lib.hid (HB0.out.trans (hb1.mono HB0.out.size))
  have HLO : Hid (w.heap.size < gr) := Lib.hid (by have : (w.alloc (sealObj 0 0 0 0 none 0 0)).heap.size ≤ gr := hlo; simp at this; omega)
  have HZ1 : Hid (w1.heap[w.heap.size]? = some (sealObj 0 0 0 0 none 0 0)) := Lib.hid ((hb1.block _ (by simp)).trans (Go.Deep.blk_alloc_new _ _))
  obtain ⟨G2, hG2⟩ : ∃ G2 : Nat → Prop, G2 = (fun b => (w.alloc (sealObj 0 0 0 0 none 0 0)).heap.size ≤ b ∧ b < gr) := ⟨_, rfl⟩
  have HGS : Hid (∀ b, G2 b → b < gr) := Lib.hid (by rw [hG2]; exact fun b h => h.2)
  have HR1 : Hid (Rr w1 gr (b, false) G2) := Lib.hid (by rw [hG2]; exact hr1)
  clear hlo hr1 hb1 hG2
  go_wp2_with fail
  have hcall := rint_any gr (b, false) G2 w1 HR1.out (by show b.length ≤ _; have := HN.out; omega)
  rw [← H0.out] at hcall
  refine hcall.mono ?_
  clear hcall
  rintro e w2 ⟨rfl, hr2, hk2⟩
  have hr2' : Rr w2 gr (Rc.r1 b) G2 := hr2
  obtain ⟨hB, hhB⟩ : ∃ hB, hB = w2.heap.size := ⟨_, rfl⟩
  obtain ⟨wh, hwh⟩ : ∃ wh, wh = w2.alloc (sealObj n0 0 0 0 none 0 0) := ⟨_, rfl⟩
  have HWAY : Hid (Way w gr hB (Rc.r1 b) G2 (sealObj n0 0 0 0 none 0 0) (sealObj 0 0 0 0 none 0 0) wh) := Lib.hid (by
    have h1 : gr < w2.heap.size := hr2.lt
    have hz2 := (hk2.block _ (heap_lt HZ1.out) (by have := HLO.out; omega)).trans HZ1.out
    have hb2 := HB1.out.trans (lo_g hk2 HB1.out.size (by have := HLO.out; omega))
    rw [hwh, hhB]
    exact ⟨hr2'.kp (S := fun _ => False) (Kp.of_below ((Below.refl _ _).alloc (Nat.le_refl _) _)) (fun h => h) (fun _ _ h => h), Go.Deep.blk_alloc_new _ _, (Below.heap_alloc _ _ _ (heap_lt hz2)).trans hz2, hb2.alloc hb2.size _, HLO.out, h1, HGS.out⟩)
  have HHB := Lib.hid hhB
  have HWH := Lib.hid hwh
  unfold sealObj at HWH
  clear hr2 hr2' hk2 hhB hwh
  go_wp2_with fail
  rw [← HWH.out, ← HHB.out]
  have hcall := rbyte_any gr (Rc.r1 b) G2 wh HWAY.out.rr (by omega)
  rw [← H1.out] at hcall
  refine hcall.mono ?_
  clear hcall
  rintro e x1 ⟨rfl, hr, hk⟩
  have hr' : Rr x1 gr (Rc.r2 b) G2 := hr
  have hw := HWAY.out.red hr' hk
  obtain ⟨c0, c1, c2, c3, c4⟩ := seal5 hw.hd
  obtain ⟨f0, f1, f2, f3, f4⟩ := seal_free hw.hd
  have hs := hw.set 1 (.int .i64 (n1 : Int)) (cs' := #[.int .i64 n0, .int .i64 (n1 : Int), .int .i64 0, .int .i64 0, .slice none 0 0]) rfl
  obtain ⟨y1, hy⟩ : ∃ y, y = x1.setCell ⟨hB, 1, none⟩ (.int .i64 (n1 : Int)) := ⟨_, rfl⟩
  rw [← hy] at hs
  have HW1 : Hid (Way w gr hB (Rc.r2 b) G2 (sealObj n0 (n1 : Int) 0 0 none 0 0) (sealObj 0 0 0 0 none 0 0) y1) := Lib.hid hs
  have HY1 := Lib.hid hy
  clear hr hr' hk hw hs hy
  go_wp2_with fail
  rw [← HY1.out]
  clear c0 c1 c2 c3 c4 f0 f1 f2 f3 f4
  have hcall := rbyte_any gr (Rc.r2 b) G2 y1 HW1.out.rr (by omega)
  rw [← H2.out] at hcall
  refine hcall.mono ?_
  clear hcall
  rintro e x2 ⟨rfl, hr, hk⟩
  have hr' : Rr x2 gr (Rc.r3 b) G2 := hr
  have hw := HW1.out.red hr' hk
  obtain ⟨c0, c1, c2, c3, c4⟩ := seal5 hw.hd
  obtain ⟨f0, f1, f2, f3, f4⟩ := seal_free hw.hd
  have hs := hw.set 2 (.int .i64 (n2 : Int)) (cs' := #[.int .i64 n0, .int .i64 (n1 : Int), .int .i64 (n2 : Int), .int .i64 0, .slice none 0 0]) rfl
  obtain ⟨y2, hy⟩ : ∃ y, y = x2.setCell ⟨hB, 2, none⟩ (.int .i64 (n2 : Int)) := ⟨_, rfl⟩
  rw [← hy] at hs
  have HW2 : Hid (Way w gr hB (Rc.r3 b) G2 (sealObj n0 (n1 : Int) (n2 : Int) 0 none 0 0) (sealObj 0 0 0 0 none 0 0) y2) := Lib.hid hs
  have HY2 := Lib.hid hy
  clear hr hr' hk hw hs hy
  go_wp2_with fail
  rw [← HY2.out]
  clear c0 c1 c2 c3 c4 f0 f1 f2 f3 f4
  have hcall := rbyte_any gr (Rc.r3 b) G2 y2 HW2.out.rr (by omega)
  rw [← H3.out] at hcall
  refine hcall.mono ?_
  clear hcall
  rintro e x3 ⟨rfl, hr, hk⟩
  have hr' : Rr x3 gr (Rc.r4 b) G2 := hr
  have hw := HW2.out.red hr' hk
  obtain ⟨c0, c1, c2, c3, c4⟩ := seal5 hw.hd
  obtain ⟨f0, f1, f2, f3, f4⟩ := seal_free hw.hd
  have hs := hw.set 3 (.int .i64 (n3 : Int)) (cs' := #[.int .i64 n0, .int .i64 (n1 : Int), .int .i64 (n2 : Int), .int .i64 (n3 : Int), .slice none 0 0]) rfl
  obtain ⟨y3, hy⟩ : ∃ y, y = x3.setCell ⟨hB, 3, none⟩ (.int .i64 (n3 : Int)) := ⟨_, rfl⟩
  rw [← hy] at hs
  have HW3 : Hid (Way w gr hB (Rc.r4 b) G2 (sealObj n0 (n1 : Int) (n2 : Int) (n3 : Int) none 0 0) (sealObj 0 0 0 0 none 0 0) y3) := Lib.hid hs
  have HY3 := Lib.hid hy
  have hx3 : y3.heap.size = x3.heap.size := by rw [hy]; simp [World.setCell]
  have hsa := hs.old (y := y3.alloc (.cells (madeCells #[.int .i64 0] N) 3)) ((Below.refl _ _).alloc (Nat.le_refl _) _)
  have hfl := fill_start y3 N
  obtain ⟨lb, hlb⟩ : ∃ lb, lb = x3.heap.size := ⟨_, rfl⟩
  have hlt : hB < lb := by have := heap_lt hs.hd; omega
  have hs4 := hsa.set 4 (.slice (some ⟨lb, 0, none⟩) N N) (cs' := #[.int .i64 n0, .int .i64 (n1 : Int), .int .i64 (n2 : Int), .int .i64 (n3 : Int), .slice (some ⟨lb, 0, none⟩) N N]) rfl
  obtain ⟨y4, hy4⟩ : ∃ y, y = (y3.alloc (.cells (madeCells #[.int .i64 0] N) 3)).setCell ⟨hB, 4, none⟩ (.slice (some ⟨lb, 0, none⟩) N N) := ⟨_, rfl⟩
  rw [← hy4] at hs4
  have HW4 : Hid (Row10 w gr hB lb (Rc.r4 b) G2 (sealObj n0 (n1 : Int) (n2 : Int) (n3 : Int) (some ⟨lb, 0, none⟩) N N) (sealObj 0 0 0 0 none 0 0) ([] ++ List.replicate (N - 0) 0) y4) := Lib.hid ⟨hs4, (by
    rw [hx3, ← hlb] at hfl
    rw [hy4]
    have hk : Kp (· = hB) (y3.alloc (.cells (madeCells #[.int .i64 0] N) 3)) ((y3.alloc (.cells (madeCells #[.int .i64 0] N) 3)).setCell ⟨hB, 4, none⟩ (.slice (some ⟨lb, 0, none⟩) N N)) := Kp.store _ _ _ _
    exact (hk.block _ (heap_lt hfl) (by omega)).trans hfl), hlt⟩
  obtain ⟨g0, g1, g2, g3, g4⟩ := seal5 hsa.hd
  obtain ⟨e0, e1, e2, e3, e4⟩ := seal_free hsa.hd
  obtain ⟨d0, d1, d2, d3, d4⟩ := seal5 hs.hd
  have q4 := (seal5 hs4.hd).2.2.2.2
  have hmk := HMK.out y3
  rw [hx3, ← hlb] at hmk
  rw [hy4] at q4
  have HY4 := Lib.hid hy4
  rw [hy] at HY4 hmk g0 g1 g2 g3 g4 e0 e1 e2 e3 e4 d0 d1 d2 d3 d4 q4
  have HLBX := Lib.hid hlb
  have HLT := Lib.hid hlt
  clear hr hr' hk hw hs hsa hfl hs4 hx3 hy4 hy hlt hlb
  go_wp2
  rw [← HY4.out]
  clear c0 c1 c2 c3 c4 f0 f1 f2 f3 f4 e0 e1 e2 e3 e4 d0 d1 d2 d3 d4 g0 g1 g2 g3 g4 q4 hmk hNs k1 k2 k3 l1 l2 l3
  go_loopw [34] (fun vi wr => ∃ (k : Nat) (done : List Int) (s : Cd.St), k ≤ N ∧ vi = .int .i64 (k : Int) ∧ Hid (Far10 N (Rc.r4 b) n k done s) ∧ Hid (Row10 w gr hB lb s G2 (sealObj n0 (n1 : Int) (n2 : Int) (n3 : Int) (some ⟨lb, 0, none⟩) N N) (sealObj 0 0 0 0 none 0 0) (done ++ List.replicate (N - k) 0) wr)) (fun vi _ => N - (intOf vi).toNat)
  case atStart => exact ⟨0, [], Rc.r4 b, Nat.zero_le _, rfl, Lib.hid ⟨rfl, rfl, l4⟩, HW4⟩
  case round =>
    obtain ⟨k, done, s, hk, rfl, HF, HRO⟩ := hrel
    by_cases hlt : k < N
    · have HD := Lib.hid HRO.out.drew
      have S0 := (seal5 HD.out.way.hd).2.2.2.2
      have hcl := rint_any gr s G2 wr.drew HD.out.way.rr (by have := HF.out.2.2; omega)
      have HST := Lib.hid (HF.out.step hlt)
      have HDL := Lib.hid HF.out.1
      obtain ⟨y, hy⟩ : ∃ y, y = Cd.num (Cd.tk 4 s) := ⟨_, rfl⟩
      rw [← hy] at hcl HST
      have HCL := Lib.hid hcl
      clear hcl hy
      have hk0 : (0 : Int) ≤ (k : Int) := by omega
      have hkN : (k : Int) < (N : Int) := by omega
      go_wp2
      go_region_held (fun w' => w'.cell? ⟨hB, 4, none⟩ = some (.slice (some ⟨lb, 0, none⟩) N N))
        (first | exact S2 | exact S1 | exact S0)
        (first
          | (go_at_call 70; refine HCL.out.mono ?_; rintro e ws ⟨rfl, hr, hkk⟩; have HR1 := Lib.hid (HD.out.red hr hkk); have S1 := (seal5 HR1.out.way.hd).2.2.2.2; have ck := fill_get HDL.out hlt HR1.out.fil; have fk : ws.frozen? ⟨lb, k, none⟩ = false := heap_frozen HR1.out.fil; have HNX := Lib.hid (HR1.out.set HDL.out hlt y); have S2 := (seal5 HNX.out.way.hd).2.2.2.2; clear hr hkk))
      go_wp2
      go_roundw
      case rel => exact ⟨k + 1, done ++ [y], Cd.af 4 s, by omega, by go_num, HST, HNX⟩
      case measure => simp [intOf]; omega
    · have hkN : k = N := by omega
      have hdone := HF.out.done hkN
      rw [← HLB.out] at hdone
      have hro := HRO.out
      rw [hdone, hkN, Nat.sub_self] at hro
      have HW7 := Lib.hid hro
      have HRZ : Hid (RdZ wr (some ⟨lb, 0, none⟩) labs (· = lb)) := Lib.hid (RdZ.of_cells hro.fil)
      have hNm : N ≤ maxLen := by unfold maxLen; omega
      have hcall := rightSeal_any n0 (n1 : Int) (n2 : Int) (n3 : Int) (some ⟨lb, 0, none⟩) labs N N _ wr HLL.out.symm (Nat.le_refl _) hNm HRZ.out
      have HLO2 : Hid (w.heap.size < lb) := Lib.hid (by have := hro.way.lo; have := hro.way.ne; have := hro.ne; omega)
      have HNM := Lib.hid hNm
      clear hdone hro hNm hkN
      obtain ⟨d0, d1, d2, d3, d4⟩ := seal5 HW7.out.way.hd
      by_cases hok : Rc.SOk ⟨n0, (n1 : Int), (n2 : Int), (n3 : Int), labs⟩
      · rw [decide_eq_true hok] at hcall
        have HP : Hid (Rc.sput ⟨n0, (n1 : Int), (n2 : Int), (n3 : Int), labs⟩ = Rc.sblk (Rc.pparse b)) := Lib.hid (by rw [HPA.out]; exact Rc.sput_ok hok)
        have HOK := Lib.hid hok
        have HCA := Lib.hid hcall
        clear hok hcall
        go_wp2_with fail
        refine HCA.out.mono ?_
        rintro e x8 ⟨rfl, hb⟩
        have HW8 := Lib.hid (HW7.out.old hb)
        have HRZ8 := Lib.hid (HRZ.out.old hb)
        clear hb d0 d1 d2 d3 d4
        obtain ⟨d0, d1, d2, d3, d4⟩ := seal5 HW8.out.way.hd
        go_wp2_with fail
        refine (sealBytes_any n0 (n1 : Int) (n2 : Int) (n3 : Int) (some ⟨lb, 0, none⟩) labs N N _ x8 HLL.out.symm (Nat.le_refl _) HNM.out HRZ8.out).mono ?_
        rintro e x9 ⟨A9, m9, C9, rfl, hm9, -, -, -, hr9, hb9⟩
        have HW9 := Lib.hid (HW8.out.old hb9)
        have HRZ9 := Lib.hid ((HRZ8.out.old hb9).mono (fun x hx => by have := HLO2.out; omega) : RdZ x9 (some ⟨lb, 0, none⟩) labs (w.heap.size < ·))
        have HR9 := Lib.hid hr9
        have HM9 := Lib.hid hm9
        obtain ⟨z0, z1, z2, z3, z4⟩ := seal5 HW9.out.way.zr
        obtain ⟨f0, f1, f2, f3, f4⟩ := seal_free HW9.out.way.zr
        clear d0 d1 d2 d3 d4 hr9 hm9 hb9
        obtain ⟨d0, d1, d2, d3, d4⟩ := seal5 HW9.out.way.hd
        have heq := equal_any A9 A _ b m9 n C9 C _ _ x9 HM9.out HN.out HR9.out (HR.out.old HW9.out.way.bel)
        by_cases hg : Rc.sblk (Rc.pparse b) = b
        · have hq : (Rc.sput ⟨n0, (n1 : Int), (n2 : Int), (n3 : Int), labs⟩ == b) = true := by rw [HP.out, hg]; simp
          rw [hq] at heq
          have hgood : Rc.SGood b := Rc.pgood_iff.1 ⟨by rw [HPA.out]; exact HOK.out, hg⟩
          have HG : Hid (Rc.sgot b = ⟨n0, (n1 : Int), (n2 : Int), (n3 : Int), labs⟩) := Lib.hid ((Rc.sgot_yes hgood).trans ((Rc.pparse_good hgood).symm.trans HPA.out))
          have HGE := Lib.hid (Rc.sgotE_yes hgood)
          have HEQ := Lib.hid heq
          clear hq hgood hg heq
          go_wp2_with fail
          refine HEQ.out.mono ?_
          rintro e xa ⟨rfl, hxa⟩
          subst hxa
          go_wp2
          exact bodyPost_ret (v := .tuple #[.agg #[.int .i64 n0, .int .i64 (n1 : Int), .int .i64 (n2 : Int), .int .i64 (n3 : Int), .slice (some ⟨lb, 0, none⟩) N N], .int .i64 0]) (by simp [results, Tryz.results58, go_sem, z0, z1, z2, z3, z4]) rfl (GotS.stored (s := ⟨n0, (n1 : Int), (n2 : Int), (n3 : Int), labs⟩) HG.out HGE.out rfl HRZ9.out HLL.out.symm (Nat.le_refl _) HNM.out (fun h => by cases h) HW9.out.way.bel)
        · have hq : (Rc.sput ⟨n0, (n1 : Int), (n2 : Int), (n3 : Int), labs⟩ == b) = false := by rw [HP.out]; simpa using hg
          rw [hq] at heq
          have hbad : ¬ Rc.SGood b := fun h => hg (Rc.pgood_iff.2 h).2
          have HG := Lib.hid (Rc.sgot_no hbad)
          have HGE := Lib.hid (Rc.sgotE_no hbad)
          have HEQ := Lib.hid heq
          clear hq hbad hg heq
          go_wp2_with fail
          refine HEQ.out.mono ?_
          rintro e xa ⟨rfl, hxa⟩
          subst hxa
          go_wp2
          exact bodyPost_ret (v := .tuple #[.agg #[.int .i64 0, .int .i64 0, .int .i64 0, .int .i64 0, .slice none 0 0], .int .i64 2]) (by simp [results, Tryz.results58, go_sem, z0, z1, z2, z3, z4]) rfl (GotS.stored (s := Rc.S.zero) HG.out HGE.out rfl (RdZ.empty _ _ _) rfl (Nat.le_refl _) (by decide) (fun _ => ⟨rfl, rfl⟩) HW9.out.way.bel)
      · rw [decide_eq_false hok] at hcall
        have hbad : ¬ Rc.SGood b := fun h => hok (by have := (Rc.pgood_iff.2 h).1; rwa [HPA.out] at this)
        have HG := Lib.hid (Rc.sgot_no hbad)
        have HGE := Lib.hid (Rc.sgotE_no hbad)
        have HCA := Lib.hid hcall
        clear hok hbad hcall
        go_wp2_with fail
        refine HCA.out.mono ?_
        rintro e x8 ⟨rfl, hb⟩
        have HW8 := Lib.hid (HW7.out.old hb)
        clear hb d0 d1 d2 d3 d4
        obtain ⟨z0, z1, z2, z3, z4⟩ := seal5 HW8.out.way.zr
        obtain ⟨f0, f1, f2, f3, f4⟩ := seal_free HW8.out.way.zr
        go_wp2
        exact bodyPost_ret (v := .tuple #[.agg #[.int .i64 0, .int .i64 0, .int .i64 0, .int .i64 0, .slice none 0 0], .int .i64 2]) (by simp [results, Tryz.results58, go_sem, z0, z1, z2, z3, z4]) rfl (GotS.stored (s := Rc.S.zero) HG.out HGE.out rfl (RdZ.empty _ _ _) rfl (Nat.le_refl _) (by decide) (fun _ => ⟨rfl, rfl⟩) HW8.out.way.bel)
end Go.Proofs.YtndofmoepjfnfaaGreat
