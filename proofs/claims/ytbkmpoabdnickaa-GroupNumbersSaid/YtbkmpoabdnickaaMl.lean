/- A new Writer, and what a call on one block leaves of the rest. What SealBytes of package record answers. append of bytes, and of bytes 0, onto a row that a call owns, as an equation and as a step of a region that draws its order. No function of the program. What package castagnoli's functions answer; nothing is written. What the document's own sums answer: the same as package castagnoli; nothing is written. -/
import Derived.Test.YtbkmpoabdnickaaMk
import Derived.Test.YtbkmpoabdnickaaMc
import Derived.Test.YtbkmpoabdnickaaMxZeros
import Derived.Deep.RegionLaw
namespace Go.Proofs.Ytbkmpoabdnickaa
open Go.RowKit
open Pt (Tx)


theorem Wr.new (w : World) : Wr (w.alloc (.cells #[.pointer none, .int .i64 0] 108)) w.heap.size [] := ⟨none, [], Go.Deep.blk_alloc_new _ _, rfl, rfl⟩
theorem lo_g {a b : World} {g : Nat} (hk : Kp (· = g) a b) {B : Nat} (hB : B ≤ a.heap.size) (hg : B ≤ g) : Below B a b := hk.below hB (fun k h => by subst h; exact hg)
end Go.Proofs.Ytbkmpoabdnickaa
namespace Go.Proofs.Ytbkmpoabdnickaa
open Go.RowKit
open Pt (Tx)

/-- a Writer of package code at work: what it holds, and what lies beside it -/
structure WrAt (w : World) (gr : Nat) (o : Obj) (l : Tx) (x : World) : Prop where
  wr : Wr x gr l
  hd : x.heap[w.heap.size]? = some o
  bel : Below w.heap.size w x
  lo : w.heap.size < gr
theorem WrAt.wrote {w : World} {gr : Nat} {l l' : Tx} {x y : World} {e : Ending} {o : Obj} (h : WrAt w gr o l x) (hw : Wrote gr l' x e y) : WrAt w gr o l' y := by
  obtain ⟨_, h2, h3⟩ := hw
  have := h.lo
  have h4 : w.heap.size < x.heap.size := by obtain ⟨hlt, _⟩ := Array.getElem?_eq_some_iff.1 h.hd; exact hlt
  exact ⟨h2, (h3.block _ h4 (by omega)).trans h.hd, h.bel.trans (lo_g h3 h.bel.size (by omega)), h.lo⟩
theorem labB_take {l : List Int} {k : Nat} (h : k < l.length) : Rc.labB (l.take (k + 1)) = Rc.labB (l.take k) ++ Cd.be4 l[k] := by
  rw [List.take_succ_eq_append_getElem h, Rc.labB_append, Rc.labB, Rc.labB, List.append_nil]
/-- a seal's bytes, with k labels -/
def sealPart (n x d p : Int) (l : List Int) (k : Nat) : Tx := Cd.be4 n ++ ([Cd.b8 x] ++ ([Cd.b8 d] ++ ([Cd.b8 p] ++ Rc.labB (l.take k))))
theorem sealPart_len (n x d p : Int) (l : List Int) (k : Nat) : (sealPart n x d p l k).length ≤ 7 + 4 * k := by
  unfold sealPart; simp only [List.length_append, Cd.be4_len, Rc.labB_len, List.length_cons, List.length_nil, List.length_take]; omega
theorem sealPart_more {n x d p : Int} {l : List Int} {k : Nat} (h : k < l.length) : sealPart n x d p l k ++ Cd.be4 l[k] = sealPart n x d p l (k + 1) := by
  unfold sealPart; rw [labB_take h]; simp only [List.append_assoc]
theorem sealPart_all {n x d p : Int} {l : List Int} {k : Nat} (h : l.length ≤ k) : sealPart n x d p l k = Rc.sblk ⟨n, x, d, p, l⟩ := by
  unfold sealPart Rc.sblk; rw [List.take_of_length_le h]
set_option maxHeartbeats 1000000 in
theorem sealBytes_no (n x d p : Int) (A : Option Addr) (l : List Int) (m C : Nat) (G : Nat → Prop) (w : World) (hm : m = l.length) (hC : m ≤ C) (hCm : C ≤ maxLen) (hr : RdZ w A l G) (hok : ¬ Rc.SOk ⟨n, x, d, p, l⟩) :
    Calls Try.prog 40 #[.agg #[.int .i64 n, .int .i64 x, .int .i64 d, .int .i64 p, .slice A m C]] w (AnsT (Rc.sput ⟨n, x, d, p, l⟩) w) := by
  have HB0 : Hid (Below w.heap.size w (w.alloc (sealObj n x d p A m C))) := Lib.hid ((Below.refl _ _).alloc (Nat.le_refl _) _)
  have HU0 : Hid ((w.alloc (sealObj n x d p A m C)).heap[w.heap.size]? = some (sealObj n x d p A m C)) := Lib.hid (Go.Deep.blk_alloc_new _ _)
  have hcall := rightSeal_any n x d p A l m C G (w.alloc (sealObj n x d p A m C)) hm hC hCm (hr.old HB0.out)
  rw [decide_eq_false hok] at hcall
  have HC := Lib.hid hcall
  have HP := Lib.hid (Rc.sput_no hok)
  clear hm hC hCm hr hok hcall
  obtain ⟨a0, a1, a2, a3, a4⟩ := seal5 HU0.out
  unfold sealObj at a0 a1 a2 a3 a4 HC
  go_enter Try.func40, Try.ntmps40
  go_wp2_with fail
  refine HC.out.mono ?_
  rintro e w1 ⟨rfl, hb⟩
  have HB1 := Lib.hid (HB0.out.trans (hb.mono HB0.out.size))
  clear hb a0 a1 a2 a3 a4
  go_wp2
  go_ret
  rw [HP.out]
  exact AnsT.nil HB1.out
set_option maxHeartbeats 4000000 in
theorem sealBytes_yes (n x d p : Int) (A : Option Addr) (l : List Int) (m C : Nat) (G : Nat → Prop) (w : World) (hm : m = l.length) (hC : m ≤ C) (hCm : C ≤ maxLen) (hr : RdZ w A l G) (hok : Rc.SOk ⟨n, x, d, p, l⟩) :
    Calls Try.prog 40 #[.agg #[.int .i64 n, .int .i64 x, .int .i64 d, .int .i64 p, .slice A m C]] w (AnsT (Rc.sput ⟨n, x, d, p, l⟩) w) := by
  have HB0 : Hid (Below w.heap.size w (w.alloc (sealObj n x d p A m C))) := Lib.hid ((Below.refl _ _).alloc (Nat.le_refl _) _)
  have HU0 : Hid ((w.alloc (sealObj n x d p A m C)).heap[w.heap.size]? = some (sealObj n x d p A m C)) := Lib.hid (Go.Deep.blk_alloc_new _ _)
  have hcall := rightSeal_any n x d p A l m C G (w.alloc (sealObj n x d p A m C)) hm hC hCm (hr.old HB0.out)
  rw [decide_eq_true hok] at hcall
  have HC := Lib.hid hcall
  have HP := Lib.hid (Rc.sput_ok hok)
  have hm14 : m ≤ 14 := by rw [hm]; exact hok.few
  have HR := Lib.hid hr
  have HM := Lib.hid hm
  clear hm hC hCm hr hok hcall
  obtain ⟨a0, a1, a2, a3, a4⟩ := seal5 HU0.out
  unfold sealObj at a0 a1 a2 a3 a4 HC
  go_enter Try.func40, Try.ntmps40
  go_wp2_with fail
  refine HC.out.mono ?_
  rintro e w1 ⟨rfl, hb⟩
  obtain ⟨gr, hgr⟩ : ∃ gr, gr = w1.heap.size := ⟨_, rfl⟩
  obtain ⟨wb, hwb⟩ : ∃ wb, wb = w1.alloc (.cells #[.pointer none, .int .i64 0] 108) := ⟨_, rfl⟩
  have hU1 := below_obj hb HU0.out
  have hB1 := HB0.out.trans (hb.mono HB0.out.size)
  have HW2 : Hid (WrAt w gr (sealObj n x d p A m C) [] wb) := Lib.hid (by
    rw [hwb, hgr]
    exact ⟨Wr.new w1, (Below.heap_alloc _ _ _ (heap_lt hU1)).trans hU1, hB1.alloc hB1.size _, heap_lt hU1⟩)
  have HWB := Lib.hid hwb
  have HGR := Lib.hid hgr
  clear hb a0 a1 a2 a3 a4 hU1 hB1 hwb hgr
  obtain ⟨a0, a1, a2, a3, a4⟩ := seal5 HW2.out.hd
  rw [HWB.out] at a0 a1 a2 a3 a4
  go_wp2_with fail
  rw [← HWB.out, ← HGR.out]
  refine (wint_any gr [] n wb HW2.out.wr (by simp)).mono ?_
  intro e w3 hW
  have HW3 : Hid (WrAt w gr (sealObj n x d p A m C) _ w3) := Lib.hid (HW2.out.wrote hW)
  obtain ⟨rfl, -, -⟩ := hW
  clear a0 a1 a2 a3 a4
  obtain ⟨a0, a1, a2, a3, a4⟩ := seal5 HW3.out.hd
  go_wp2_with fail
  refine (wbyte_int gr _ x w3 HW3.out.wr (by simp [Cd.be4_len])).mono ?_
  intro e w4 hW
  have HW4 : Hid (WrAt w gr (sealObj n x d p A m C) _ w4) := Lib.hid (HW3.out.wrote hW)
  obtain ⟨rfl, -, -⟩ := hW
  clear a0 a1 a2 a3 a4
  obtain ⟨a0, a1, a2, a3, a4⟩ := seal5 HW4.out.hd
  go_wp2_with fail
  refine (wbyte_int gr _ d w4 HW4.out.wr (by simp [Cd.be4_len])).mono ?_
  intro e w5 hW
  have HW5 : Hid (WrAt w gr (sealObj n x d p A m C) _ w5) := Lib.hid (HW4.out.wrote hW)
  obtain ⟨rfl, -, -⟩ := hW
  clear a0 a1 a2 a3 a4
  obtain ⟨a0, a1, a2, a3, a4⟩ := seal5 HW5.out.hd
  go_wp2_with fail
  refine (wbyte_int gr _ p w5 HW5.out.wr (by simp [Cd.be4_len])).mono ?_
  intro e w6 hW
  have HW6 : Hid (WrAt w gr (sealObj n x d p A m C) _ w6) := Lib.hid (HW5.out.wrote hW)
  obtain ⟨rfl, -, -⟩ := hW
  clear a0 a1 a2 a3 a4
  obtain ⟨a0, a1, a2, a3, a4⟩ := seal5 HW6.out.hd
  go_wp2
  have HT : Hid ((((([] ++ Cd.be4 n) ++ [Cd.b8 x]) ++ [Cd.b8 d]) ++ [Cd.b8 p]) = sealPart n x d p l 0) := Lib.hid (by unfold sealPart; simp only [List.nil_append, List.append_assoc, List.take_zero, Rc.labB, List.append_nil])
  have hstart := HW6.out
  rw [HT.out] at hstart
  have HS := Lib.hid hstart
  clear hstart a0 a1 a2 a3 a4
  go_loopw [27] (fun vi wr => ∃ k : Nat, k ≤ m ∧ vi = .int .i64 (k : Int) ∧ Hid (WrAt w gr (sealObj n x d p A m C) (sealPart n x d p l k) wr)) (fun vi _ => m - (intOf vi).toNat)
  case atStart => exact ⟨0, Nat.zero_le _, rfl, HS⟩
  case round =>
    obtain ⟨k, hk, rfl, HK⟩ := hrel
    obtain ⟨a0, a1, a2, a3, a4⟩ := seal5 HK.out.hd
    by_cases hlt : k < m
    · have hlt' : k < l.length := by rw [← HM.out]; exact hlt
      obtain ⟨b, off, rfl, -, hc⟩ := (HR.out.old HK.out.bel).at_ hlt'
      have HMO := Lib.hid (sealPart_more (n := n) (x := x) (d := d) (p := p) hlt')
      have HLE := Lib.hid (sealPart_len n x d p l k)
      obtain ⟨y, hy⟩ : ∃ y, y = l[k] := ⟨_, rfl⟩
      rw [← hy] at hc HMO
      clear hy
      have hle : (sealPart n x d p l k).length ≤ 999999990 := by have := HLE.out; omega
      have HLE2 := Lib.hid hle
      clear hle
      have hcall := wint_any gr (sealPart n x d p l k) y wr HK.out.wr HLE2.out
      have HCL := Lib.hid hcall
      clear hcall
      go_wp2_with fail
      refine HCL.out.mono ?_
      intro e ws hW
      have HN : Hid (WrAt w gr (sealObj n x d p (some ⟨b, off, none⟩) m C) (sealPart n x d p l (k + 1)) ws) := Lib.hid (by have := HK.out.wrote hW; rwa [HMO.out] at this)
      obtain ⟨rfl, -, -⟩ := hW
      clear a0 a1 a2 a3 a4 hc
      go_wp2
      go_roundw
      case rel => exact ⟨k + 1, by omega, by go_num, HN⟩
      case measure => simp [intOf]; omega
    · have HE := Lib.hid (sealPart_all (n := n) (x := x) (d := d) (p := p) (l := l) (k := k) (by rw [← HM.out]; omega))
      have hK := HK.out
      rw [HE.out] at hK
      have hlen : (Rc.sblk ⟨n, x, d, p, l⟩).length ≤ 63 := by
        have := Rc.sput_le ⟨n, x, d, p, l⟩
        rw [HP.out] at this; exact this
      have hcall := bytes_own gr _ wr hK.wr (by omega)
      have hcall' := hcall.mono fun e w' h => AnsT.after hK.bel (AnsT.of_new (by unfold maxLen; omega) h)
      have HCL := Lib.hid hcall'
      clear hcall hcall' hK hlen a0 a1 a2 a3 a4
      go_wp2_with fail
      refine HCL.out.mono ?_
      rintro e w' ⟨A', n', C', rfl, h1, h3, h4, h5, h6, h7⟩
      have HA : Hid (AnsT (Rc.sblk ⟨n, x, d, p, l⟩) w (.returned (.slice A' n' C')) w') := Lib.hid ⟨A', n', C', rfl, h1, h3, h4, h5, h6, h7⟩
      clear h1 h3 h4 h5 h6 h7
      go_wp2
      go_ret
      rw [HP.out]
      exact HA.out
theorem sealBytes_any (n x d p : Int) (A : Option Addr) (l : List Int) (m C : Nat) (G : Nat → Prop) (w : World) (hm : m = l.length) (hC : m ≤ C) (hCm : C ≤ maxLen) (hr : RdZ w A l G) :
    Calls Try.prog 40 #[.agg #[.int .i64 n, .int .i64 x, .int .i64 d, .int .i64 p, .slice A m C]] w (AnsT (Rc.sput ⟨n, x, d, p, l⟩) w) := by
  by_cases hok : Rc.SOk ⟨n, x, d, p, l⟩
  · exact sealBytes_yes n x d p A l m C G w hm hC hCm hr hok
  · exact sealBytes_no n x d p A l m C G w hm hC hCm hr hok
end Go.Proofs.Ytbkmpoabdnickaa
namespace Go.Proofs.Ytbkmpoabdnickaa
open Go.RowKit
open Pt (Tx)

/-- an append that runs to v' and w' is a step -/
theorem step_append_eq {P : Program} {ops : Array Oper} {o : Oper} {a : Act} {w : World} {K : Act → World → Prop} {Q : Exit → Act → World → Prop} {E : Prop} (hg : o.guard = none) (s x : Operand) (t tn : TypeId)
    (ho : o.op = .call { callee := .builtin .append, args := #[s, x], argTypes := #[t, tn] }) (vs vx v' : Value) (w' : World) (hr : ∀ ty, (Builtin.append_ #[t, tn] ty #[vs, vx]).run P w = .ok v' w') (hs : a.eval s = vs) (hx : a.eval x = vx)
    (hK : K (a.put o.dst v') w') : if Region.wanted o (yielded ops a.tmps) = true then Oper.wp P o a w K Q else E := by
  have hw : Region.wanted o (yielded ops a.tmps) = true := by simp [Region.wanted, hg]
  rw [if_pos hw]
  exact Lib.wp_append_run w s x t tn ho vs vx hs hx v' w' (hr _) hK
/-- what an append onto an own row of bytes made: the row as a slice -/
def Grew (w : World) (base : Nat) (v : Value) (l : Tx) (n : Nat) (A : Option Addr) (C : Nat) (w' : World) : Prop := OwnL w' base (.slice A n C) l ∧ w.grownBy w' v.ownBlock
theorem ap_run (w : World) (base : Nat) (v : Value) (l : Tx) (hown : OwnL w base v l) (A : Option Addr) (m c : Nat) (l' : Tx) (G : Nat → Prop) (hm : l'.length = m) (hA : A = none → m = 0 ∧ c = 0) (hr : RdL w A l' G) (hb : l.length + m ≤ 140737488355328) (hbase : base ≤ w.heap.size) (n : Nat) (hn : n = l.length + m) :
    ∃ A' C' w', (∀ ty, (Builtin.append_ #[25, 25] ty #[v, .slice A m c]).run Try.prog w = .ok (.slice A' n C') w') ∧ Grew w base v (l ++ l') n A' C' w' := by
  obtain ⟨i0, hi, hz0, hz1, hz2⟩ := info_parts infoB
  have key : ∃ v' w', (∀ ty, (Builtin.append_ #[25, 25] ty #[v, .slice A m c]).run Try.prog w = .ok v' w') ∧ OwnL w' base v' (l ++ l') ∧ w.grownBy w' v.ownBlock := by
    cases A with
    | none =>
      obtain ⟨rfl, rfl⟩ := hA rfl
      have h0 : l' = [] := List.length_eq_zero_iff.1 hm
      subst h0
      refine ⟨v, w, fun ty => run_append_owned_none (P := Try.prog) (w := w) base 25 ty 5 i0 1 Try.underlying25 hi v l.length (cellsL l) hown, ?_, grown_refl w _⟩
      rw [List.append_nil]; exact hown
    | some ad =>
      have hnews : ∀ j u, (cellsL l')[j]? = some u → w.cell? (ad.add j) = some u := fun j u hu => by
        obtain ⟨hj, rfl⟩ := cellsL_some hu
        obtain ⟨b, off, e, _, hc⟩ := hr (by omega)
        cases e
        rw [addr_add]; exact hc j hj
      obtain ⟨v', w', h1, h2, h3, _⟩ := run_append_own (P := Try.prog) w base 25 3 5 i0 (.int .u8 0) 1 1 Try.underlying25 hi hz0 hz1 hz2 rfl (by decide) v l.length (cellsL l) hown ad m c (cellsL l') (by rw [cellsL_len, hm, Nat.mul_one]) hnews cellsL_one (by unfold maxLen; omega) (by omega) hbase
      refine ⟨v', w', fun ty => h1, ?_, h3⟩
      unfold OwnL
      rw [← cellsL_append, List.length_append, hm]; exact h2
  obtain ⟨v', w', h1, h2, h3⟩ := key
  obtain ⟨A', C', rfl, _, _, _, _⟩ := h2.rd
  have e : (l ++ l').length = n := by rw [List.length_append, hm, hn]
  refine ⟨A', C', w', fun ty => by rw [← e]; exact h1 ty, ?_, h3⟩
  rw [← e]; exact h2
theorem cellsL_zeros (l : Tx) (k : Nat) : cellsL (l ++ List.replicate k 0) = cellsL l ++ List.replicate k (.int .u8 0) := by simp [cellsL]
theorem run_append_none_zeros {P : Program} (w : World) (t tn ty e : TypeId) (i : TypeInfo) (kq kn : IntKind) (ht : P.underlying t = some (.slice e)) (htn : P.underlying tn = some (.int kn)) (hi : P.info? e = some i) (A : Addr) (n c : Nat) (hc : n ≤ c) :
    (Builtin.append_ #[t, tn] ty #[.slice (some A) n c, .int kq 0]).run P w = .ok (.slice (some A) n c) w := by
  have hw : IntKind.i64.wrap 0 = 0 := by decide
  simp [Builtin.append_, run_underlying ht, run_underlying htn, sizeOf, typeInfo, hi, asInt, asIntOf, hw, hc, storeCells]
theorem apz_run (w : World) (base : Nat) (v : Value) (l : Tx) (hown : OwnL w base v l) (hl : 0 < l.length) (k : Nat) (hb : l.length + k ≤ 1000000) (hbase : base ≤ w.heap.size) (x : Int) (hx : x = (k : Int)) (n : Nat) (hn : n = l.length + k) :
    ∃ A' C' w', (∀ ty, (Builtin.append_ #[25, 3] ty #[v, .int .i64 x]).run Try.prog w = .ok (.slice A' n C') w') ∧ Grew w base v (l ++ List.replicate k 0) n A' C' w' := by
  subst hx
  obtain ⟨i0, hi, hz0, hz1, hz2⟩ := info_parts infoB
  by_cases h0 : k = 0
  · subst h0
    obtain ⟨A, C, rfl, hlc, _, hA, _⟩ := hown.rd
    cases A with
    | none => have := (hA rfl).1; omega
    | some a =>
      refine ⟨some a, C, w, fun ty => ?_, ?_, grown_refl w _⟩
      · rw [hn]; exact run_append_none_zeros (P := Try.prog) w 25 3 ty 5 i0 .i64 .i64 Try.underlying25 Try.underlying3 hi a l.length C hlc
      · rw [hn, List.replicate_zero, List.append_nil]; exact hown
  · have key : ∀ ty, ∃ v' w', (Builtin.append_ #[25, 3] ty #[v, .int .i64 (k : Int)]).run Try.prog w = .ok v' w' ∧ w'.ownsRow base 5 1 v' (l.length + k) (cellsL l ++ List.replicate k (.int .u8 0)) ∧ w.grownBy w' v.ownBlock := fun ty =>
      run_append_zeros_own (P := Try.prog) w base 25 3 ty 5 i0 (.int .u8 0) .i64 .i64 Try.underlying25 Try.underlying3 hi hz0 hz1 rfl rfl v l.length (cellsL l) hown hl k (by omega) (by unfold maxLen; omega) (by rw [hz2]; omega) hbase
    obtain ⟨v', w', h1, h2, h3⟩ := key 3
    have h4 : OwnL w' base v' (l ++ List.replicate k 0) := by
      unfold OwnL
      rw [cellsL_zeros, List.length_append, List.length_replicate]; exact h2
    obtain ⟨A', C', rfl, _, _, _, _⟩ := h4.rd
    have e : (l ++ List.replicate k (0 : UInt8)).length = n := by rw [List.length_append, List.length_replicate, hn]
    refine ⟨A', C', w', fun ty => by rw [← e]; exact h1, ?_, h3⟩
    rw [← e]; exact h4
end Go.Proofs.Ytbkmpoabdnickaa
namespace Go.Proofs.Ytbkmpoabdnickaa
open Go.RowKit Mx

theorem timesX_any (x : Cr.W) (w : World) :
    Calls Try.prog 90 #[.int .u32 (bi x)] w fun e w' => e = .returned (.int .u32 (bi (Cr.step x))) ∧ w = w' := by
  have h0 := bi_lo x
  have h1 := bi_hi x
  by_cases hb : x.getLsbD 0 = true
  · have H := Lib.hid (step_odd hb)
    have ht : (bits BinOp.and IntKind.u32 (bi x) 1 == 0) = false := by rw [bit_of, if_pos hb]; rfl
    clear hb
    go_enter Try.func90, Try.ntmps90
    go_wp2
    go_ret
    exact ⟨ret_u32 H.out, rfl⟩
  · have H := Lib.hid (step_even (by simpa using hb))
    have ht : (bits BinOp.and IntKind.u32 (bi x) 1 == 0) = true := by rw [bit_of, if_neg hb]; rfl
    clear hb
    go_enter Try.func90, Try.ntmps90
    go_wp2
    go_ret
    exact ⟨ret_u32 H.out, rfl⟩
theorem timesX8_any (x : Cr.W) (w : World) :
    Calls Try.prog 89 #[.int .u32 (bi x)] w fun e w' => e = .returned (.int .u32 (bi (Cr.steps 8 x))) ∧ w = w' := by
  go_enter Try.func89, Try.ntmps89
  go_wp2
  go_loop [0, 3] (fun vx vi => ∃ k : Nat, k ≤ 8 ∧ vi = .int .i64 (k : Int) ∧ vx = .int .u32 (bi (Cr.steps k x))) (fun _ vi => 8 - (intOf vi).toNat)
  case atStart => exact ⟨0, by omega, rfl, rfl⟩
  case round =>
    obtain ⟨k, hk, rfl, rfl⟩ := hrel
    by_cases hlt : k < 8
    · go_wp2_with fail
      refine (timesX_any _ _).mono ?_
      rintro e w' ⟨rfl, rfl⟩
      go_wp2
      go_round
      case rel => exact ⟨k + 1, by omega, by go_num, val_u32 (by rw [Cr.steps_out])⟩
      case measure => simp [intOf]; omega
    · have HK : Hid (Cr.steps k x = Cr.steps 8 x) := by rw [show k = 8 by omega]; exact Lib.hid rfl
      go_wp2
      go_ret
      exact ⟨ret_u32 (by rw [HK.out]), rfl⟩
set_option maxHeartbeats 1000000 in
theorem more_any (s : Cr.W) (A : Option Addr) (n C : Nat) (r : Nat → Fe) (G : Nat → Prop) (w : World) (hn : n ≤ maxLen) (hr : Rd w A n r G) :
    Calls Try.prog 84 #[.int .u32 (bi s), .slice A n C] w fun e w' => e = .returned (.int .u32 (bi (crc s r n))) ∧ w = w' := by
  unfold maxLen at hn
  have hs := not_max s
  have HR := Lib.hid hr
  clear hr
  go_enter Try.func84, Try.ntmps84
  go_wp2
  clear hs
  go_loop [5, 12] (fun vx vi => ∃ k : Nat, k ≤ n ∧ vi = .int .i64 (k : Int) ∧ vx = .int .u32 (bi (Cr.ups (~~~s) (fun i => (r i).nat) k))) (fun _ vi => n - (intOf vi).toNat)
  case atStart => exact ⟨0, by omega, rfl, rfl⟩
  case round =>
    obtain ⟨k, hk, rfl, rfl⟩ := hrel
    by_cases hlt : k < n
    · obtain ⟨b, off, rfl, _, hc⟩ := HR.out.at hlt
      have r0 := fi_lo (r k)
      have r1 := fi_hi (r k)
      have hx := byte_bi (Cr.ups (~~~s) (fun i => (r i).nat) k) (r k)
      go_wp2_with fail
      refine (timesX8_any _ _).mono ?_
      rintro e w' ⟨rfl, rfl⟩
      clear hx
      go_wp2
      go_round
      case rel => exact ⟨k + 1, by omega, by go_num, rfl⟩
      case measure => simp [intOf]; omega
    · have HK : Hid (~~~(Cr.ups (~~~s) (fun i => (r i).nat) k) = crc s r n) := by rw [show k = n by omega]; exact Lib.hid rfl
      have hs := not_max (Cr.ups (~~~s) (fun i => (r i).nat) k)
      go_wp2
      go_ret
      exact ⟨ret_u32 (by rw [HK.out]), rfl⟩
theorem sum_any (A : Option Addr) (n C : Nat) (r : Nat → Fe) (G : Nat → Prop) (w : World) (hn : n ≤ maxLen) (hr : Rd w A n r G) :
    Calls Try.prog 75 #[.slice A n C] w fun e w' => e = .returned (.int .u32 (bi (crc 0#32 r n))) ∧ w = w' := by
  go_enter Try.func75, Try.ntmps75
  go_wp2_with fail
  refine (more_any 0#32 A n C r G _ hn hr).mono ?_
  rintro e w' ⟨rfl, rfl⟩
  go_wp2
  go_ret
  exact ⟨rfl, rfl⟩
end Go.Proofs.Ytbkmpoabdnickaa
namespace Go.Proofs.Ytbkmpoabdnickaa
open Go.RowKit Mx

set_option maxRecDepth 100000 in
set_option maxHeartbeats 2000000 in
theorem refMore_any (s : Cr.W) (A : Option Addr) (n C : Nat) (r : Nat → Fe) (G : Nat → Prop) (w : World) (hn : n ≤ maxLen) (hr : Rd w A n r G) :
    Calls Try.prog 27 #[.int .u32 (bi s), .slice A n C] w fun e w' => e = .returned (.int .u32 (bi (crc s r n))) ∧ w = w' := by
  unfold maxLen at hn
  have hs := not_bi s
  have HR := Lib.hid hr
  clear hr
  go_enter Try.func27, Try.ntmps27
  go_wp2
  clear hs
  go_loop [5, 6] (fun vx vi => ∃ k : Nat, k ≤ n ∧ vi = .int .i64 (k : Int) ∧ vx = .int .u32 (bi (Cr.ups (~~~s) (fun i => (r i).nat) k))) (fun _ vi => n - (intOf vi).toNat)
  case atStart => exact ⟨0, by omega, rfl, rfl⟩
  case round =>
    obtain ⟨k, hk, rfl, rfl⟩ := hrel
    by_cases hlt : k < n
    · obtain ⟨b, off, rfl, _, hc⟩ := HR.out.at hlt
      have r0 := fi_lo (r k)
      have r1 := fi_hi (r k)
      have hx := byte_bi (Cr.ups (~~~s) (fun i => (r i).nat) k) (r k)
      have HU : Hid (Cr.ups (~~~s) (fun i => (r i).nat) (k + 1) = Cr.steps 8 (Cr.ups (~~~s) (fun i => (r i).nat) k ^^^ BitVec.ofNat 32 (r k).nat)) := Lib.hid rfl
      go_wp2
      clear hx hc
      generalize Cr.ups (~~~s) (fun i => (r i).nat) k ^^^ BitVec.ofNat 32 (r k).nat = x at HU ⊢
      go_loop [5, 7] (fun vx vi => ∃ (j : Nat) (y : Cr.W), j ≤ 8 ∧ vi = .int .i64 (j : Int) ∧ vx = .int .u32 (bi y) ∧ Hid (y = Cr.steps j x)) (fun _ vi => 8 - (intOf vi).toNat)
      case atStart => exact ⟨0, x, by omega, rfl, rfl, Lib.hid rfl⟩
      case round =>
        obtain ⟨j, y, hj, rfl, rfl, HY⟩ := hrel
        by_cases hl8 : j < 8
        · have HS : Hid (Cr.step y = Cr.steps (j + 1) x) := by rw [HY.out]; exact Lib.hid (Cr.steps_out j x).symm
          clear HY HU
          by_cases hb : y.getLsbD 0 = true
          · have H := Lib.hid (step_odd hb)
            have ht : (bits BinOp.and IntKind.u32 (bi y) 1 == 1) = true := by rw [bit_of, if_pos hb]; rfl
            clear hb
            go_wp2
            go_round
            case rel => exact ⟨j + 1, Cr.step y, by omega, by go_num, val_u32 H.out, HS⟩
            case measure => simp [intOf]; omega
          · have H := Lib.hid (step_even (x := y) (by simpa using hb))
            have ht : (bits BinOp.and IntKind.u32 (bi y) 1 == 1) = false := by rw [bit_of, if_neg hb]; rfl
            clear hb
            go_wp2
            go_round
            case rel => exact ⟨j + 1, Cr.step y, by omega, by go_num, val_u32 H.out, HS⟩
            case measure => simp [intOf]; omega
        · have HK : Hid (y = Cr.ups (~~~s) (fun i => (r i).nat) (k + 1)) := by rw [HY.out, show j = 8 by omega, HU.out]; exact Lib.hid rfl
          clear HY HU
          go_wp2
          go_round
          case rel => exact ⟨k + 1, by omega, by go_num, val_u32 (by rw [HK.out])⟩
          case measure => simp [intOf]; omega
    · have HK : Hid (~~~(Cr.ups (~~~s) (fun i => (r i).nat) k) = crc s r n) := by rw [show k = n by omega]; exact Lib.hid rfl
      have hs := not_bi (Cr.ups (~~~s) (fun i => (r i).nat) k)
      go_wp2
      go_ret
      exact ⟨ret_u32 (by rw [HK.out]), rfl⟩
theorem refCrc_any (A : Option Addr) (n C : Nat) (r : Nat → Fe) (G : Nat → Prop) (w : World) (hn : n ≤ maxLen) (hr : Rd w A n r G) :
    Calls Try.prog 13 #[.slice A n C] w fun e w' => e = .returned (.int .u32 (bi (crc 0#32 r n))) ∧ w = w' := by
  go_enter Try.func13, Try.ntmps13
  go_wp2_with fail
  refine (refMore_any 0#32 A n C r G _ hn hr).mono ?_
  rintro e w' ⟨rfl, rfl⟩
  go_wp2
  go_ret
  exact ⟨rfl, rfl⟩
end Go.Proofs.Ytbkmpoabdnickaa
