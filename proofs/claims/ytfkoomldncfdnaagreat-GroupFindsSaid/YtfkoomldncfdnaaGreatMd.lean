/- A new Writer, and what a call on one block leaves of the rest. What SealBytes of package record answers. -/
import Derived.Test.YtfkoomldncfdnaaGreatMc
namespace Go.Proofs.YtfkoomldncfdnaaGreat
open Go.RowKit
open Pt (Tx)


theorem Wr.new (w : World) : Wr (w.alloc (.cells #[.pointer none, .int .i64 0] 122)) w.heap.size [] := ⟨none, [], Go.Deep.blk_alloc_new _ _, rfl, rfl⟩
theorem lo_g {a b : World} {g : Nat} (hk : Kp (· = g) a b) {B : Nat} (hB : B ≤ a.heap.size) (hg : B ≤ g) : Below B a b := hk.below hB (fun k h => by subst h; exact hg)
end Go.Proofs.YtfkoomldncfdnaaGreat
namespace Go.Proofs.YtfkoomldncfdnaaGreat
open Go.RowKit
open Pt (Tx)

/-- a Writer of package code at work: what it holds, and what lies beside it -/
structure WrAt (w : World) (gr : Nat) (o : Obj) (l : Tx) (x : World) : Prop where
  wr : Wr x gr l
  hd : x.heap[w.heap.size]? = some o
  bel : Below w.heap.size w x
  lo : w.heap.size < gr
theorem WrAt.wrote {w : World} {gr : Nat} {l l' : Tx} {x y : World} {e : Ending} {o : Obj} (h : WrAt w gr o l x) (hw : Wrote gr l' x e y) : WrAt w gr o l' y := by
  obtain ⟨_, h2, h3⟩ := hw
  have := h.lo
  have h4 : w.heap.size < x.heap.size := by obtain ⟨hlt, _⟩ := Array.getElem?_eq_some_iff.1 h.hd; exact hlt
  exact ⟨h2, (h3.block _ h4 (by omega)).trans h.hd, h.bel.trans (lo_g h3 h.bel.size (by omega)), h.lo⟩
theorem labB_take {l : List Int} {k : Nat} (h : k < l.length) : Rc.labB (l.take (k + 1)) = Rc.labB (l.take k) ++ Cd.be4 l[k] := by
  rw [List.take_succ_eq_append_getElem h, Rc.labB_append, Rc.labB, Rc.labB, List.append_nil]
/-- a seal's bytes, with k labels -/
def sealPart (n x d p : Int) (l : List Int) (k : Nat) : Tx := Cd.be4 n ++ ([Cd.b8 x] ++ ([Cd.b8 d] ++ ([Cd.b8 p] ++ Rc.labB (l.take k))))
theorem sealPart_len (n x d p : Int) (l : List Int) (k : Nat) : (sealPart n x d p l k).length ≤ 7 + 4 * k := by
  unfold sealPart; simp only [List.length_append, Cd.be4_len, Rc.labB_len, List.length_cons, List.length_nil, List.length_take]; omega
theorem sealPart_more {n x d p : Int} {l : List Int} {k : Nat} (h : k < l.length) : sealPart n x d p l k ++ Cd.be4 l[k] = sealPart n x d p l (k + 1) := by
  unfold sealPart; rw [labB_take h]; simp only [List.append_assoc]
theorem sealPart_all {n x d p : Int} {l : List Int} {k : Nat} (h : l.length ≤ k) : sealPart n x d p l k = Rc.sblk ⟨n, x, d, p, l⟩ := by
  unfold sealPart Rc.sblk; rw [List.take_of_length_le h]
set_option maxHeartbeats 1000000 in
theorem sealBytes_no (n x d p : Int) (A : Option Addr) (l : List Int) (m C : Nat) (G : Nat → Prop) (w : World) (hm : m = l.length) (hC : m ≤ C) (hCm : C ≤ maxLen) (hr : RdZ w A l G) (hok : ¬ Rc.SOk ⟨n, x, d, p, l⟩) :
    Calls Tryz.prog 54 #[.agg #[.int .i64 n, .int .i64 x, .int .i64 d, .int .i64 p, .slice A m C]] w (AnsT (Rc.sput ⟨n, x, d, p, l⟩) w) := by
  have HB0 : Hid (Below w.heap.size w (w.alloc (sealObj n x d p A m C))) := Lib.hid ((Below.refl _ _).alloc (Nat.le_refl _) _)
  have HU0 : Hid ((w.alloc (sealObj n x d p A m C)).heap[w.heap.size]? = some (sealObj n x d p A m C)) := Lib.hid (Go.Deep.blk_alloc_new _ _)
  have hcall := rightSeal_any n x d p A l m C G (w.alloc (sealObj n x d p A m C)) hm hC hCm (hr.old HB0.out)
  rw [decide_eq_false hok] at hcall
  have HC := Lib.hid hcall
  have HP := Lib.hid (Rc.sput_no hok)
  clear hm hC hCm hr hok hcall
  obtain ⟨a0, a1, a2, a3, a4⟩ := seal5 HU0.out
  unfold sealObj at a0 a1 a2 a3 a4 HC
  go_enter Tryz.func54, Tryz.ntmps54
  go_wp2_with fail
  refine HC.out.mono ?_
  rintro e w1 ⟨rfl, hb⟩
  have HB1 := Lib.hid (HB0.out.trans (hb.mono HB0.out.size))
  clear hb a0 a1 a2 a3 a4
  go_wp2
  go_ret
  rw [HP.out]
  exact AnsT.nil HB1.out
set_option maxHeartbeats 4000000 in
theorem sealBytes_yes (n x d p : Int) (A : Option Addr) (l : List Int) (m C : Nat) (G : Nat → Prop) (w : World) (hm : m = l.length) (hC : m ≤ C) (hCm : C ≤ maxLen) (hr : RdZ w A l G) (hok : Rc.SOk ⟨n, x, d, p, l⟩) :
    Calls Tryz.prog 54 #[.agg #[.int .i64 n, .int .i64 x, .int .i64 d, .int .i64 p, .slice A m C]] w (AnsT (Rc.sput ⟨n, x, d, p, l⟩) w) := by
  have HB0 : Hid (Below w.heap.size w (w.alloc (sealObj n x d p A m C))) := Lib.hid ((Below.refl _ _).alloc (Nat.le_refl _) _)
  have HU0 : Hid ((w.alloc (sealObj n x d p A m C)).heap[w.heap.size]? = some (sealObj n x d p A m C)) := Lib.hid (Go.Deep.blk_alloc_new _ _)
  have hcall := rightSeal_any n x d p A l m C G (w.alloc (sealObj n x d p A m C)) hm hC hCm (hr.old HB0.out)
  rw [decide_eq_true hok] at hcall
  have HC := Lib.hid hcall
  have HP := Lib.hid (Rc.sput_ok hok)
  have hm14 : m ≤ 14 := by rw [hm]; exact hok.few
  have HR := Lib.hid hr
  have HM := Lib.hid hm
  clear hm hC hCm hr hok hcall
  obtain ⟨a0, a1, a2, a3, a4⟩ := seal5 HU0.out
  unfold sealObj at a0 a1 a2 a3 a4 HC
  go_enter Tryz.func54, Tryz.ntmps54
  go_wp2_with fail
  refine HC.out.mono ?_
  rintro e w1 ⟨rfl, hb⟩
  obtain ⟨gr, hgr⟩ : ∃ gr, gr = w1.heap.size := ⟨_, rfl⟩
  obtain ⟨wb, hwb⟩ : ∃ wb, wb = w1.alloc (.cells #[.pointer none, .int .i64 0] 122) := ⟨_, rfl⟩
  have hU1 := below_obj hb HU0.out
  have hB1 := HB0.out.trans (hb.mono HB0.out.size)
  have HW2 : Hid (WrAt w gr (sealObj n x d p A m C) [] wb) := Lib.hid (by
    rw [hwb, hgr]
    exact ⟨Wr.new w1, (Below.heap_alloc _ _ _ (heap_lt hU1)).trans hU1, hB1.alloc hB1.size _, heap_lt hU1⟩)
  have HWB := Lib.hid hwb
  have HGR := Lib.hid hgr
  clear hb a0 a1 a2 a3 a4 hU1 hB1 hwb hgr
  obtain ⟨a0, a1, a2, a3, a4⟩ := seal5 HW2.out.hd
  rw [HWB.out] at a0 a1 a2 a3 a4
  go_wp2_with fail
  rw [← HWB.out, ← HGR.out]
  refine (wint_any gr [] n wb HW2.out.wr (by simp)).mono ?_
  intro e w3 hW
  have HW3 : Hid (WrAt w gr (sealObj n x d p A m C) _ w3) := Lib.hid (HW2.out.wrote hW)
  obtain ⟨rfl, -, -⟩ := hW
  clear a0 a1 a2 a3 a4
  obtain ⟨a0, a1, a2, a3, a4⟩ := seal5 HW3.out.hd
  go_wp2_with fail
  refine (wbyte_int gr _ x w3 HW3.out.wr (by simp [Cd.be4_len])).mono ?_
  intro e w4 hW
  have HW4 : Hid (WrAt w gr (sealObj n x d p A m C) _ w4) := Lib.hid (HW3.out.wrote hW)
  obtain ⟨rfl, -, -⟩ := hW
  clear a0 a1 a2 a3 a4
  obtain ⟨a0, a1, a2, a3, a4⟩ := seal5 HW4.out.hd
  go_wp2_with fail
  refine (wbyte_int gr _ d w4 HW4.out.wr (by simp [Cd.be4_len])).mono ?_
  intro e w5 hW
  have HW5 : Hid (WrAt w gr (sealObj n x d p A m C) _ w5) := Lib.hid (HW4.out.wrote hW)
  obtain ⟨rfl, -, -⟩ := hW
  clear a0 a1 a2 a3 a4
  obtain ⟨a0, a1, a2, a3, a4⟩ := seal5 HW5.out.hd
  go_wp2_with fail
  refine (wbyte_int gr _ p w5 HW5.out.wr (by simp [Cd.be4_len])).mono ?_
  intro e w6 hW
  have HW6 : Hid (WrAt w gr (sealObj n x d p A m C) _ w6) := Lib.hid (HW5.out.wrote hW)
  obtain ⟨rfl, -, -⟩ := hW
  clear a0 a1 a2 a3 a4
  obtain ⟨a0, a1, a2, a3, a4⟩ := seal5 HW6.out.hd
  go_wp2
  have HT : Hid ((((([] ++ Cd.be4 n) ++ [Cd.b8 x]) ++ [Cd.b8 d]) ++ [Cd.b8 p]) = sealPart n x d p l 0) := Lib.hid (by unfold sealPart; simp only [List.nil_append, List.append_assoc, List.take_zero, Rc.labB, List.append_nil])
  have hstart := HW6.out
  rw [HT.out] at hstart
  have HS := Lib.hid hstart
  clear hstart a0 a1 a2 a3 a4
  go_loopw [27] (fun vi wr => ∃ k : Nat, k ≤ m ∧ vi = .int .i64 (k : Int) ∧ Hid (WrAt w gr (sealObj n x d p A m C) (sealPart n x d p l k) wr)) (fun vi _ => m - (intOf vi).toNat)
  case atStart => exact ⟨0, Nat.zero_le _, rfl, HS⟩
  case round =>
    obtain ⟨k, hk, rfl, HK⟩ := hrel
    obtain ⟨a0, a1, a2, a3, a4⟩ := seal5 HK.out.hd
    by_cases hlt : k < m
    · have hlt' : k < l.length := by rw [← HM.out]; exact hlt
      obtain ⟨b, off, rfl, -, hc⟩ := (HR.out.old HK.out.bel).at_ hlt'
      have HMO := Lib.hid (sealPart_more (n := n) (x := x) (d := d) (p := p) hlt')
      have HLE := Lib.hid (sealPart_len n x d p l k)
      obtain ⟨y, hy⟩ : ∃ y, y = l[k] := ⟨_, rfl⟩
      rw [← hy] at hc HMO
      clear hy
      have hle : (sealPart n x d p l k).length ≤ 999999990 := by have := HLE.out; omega
      have HLE2 := Lib.hid hle
      clear hle
      have hcall := wint_any gr (sealPart n x d p l k) y wr HK.out.wr HLE2.out
      have HCL := Lib.hid hcall
      clear hcall
      go_wp2_with fail
      refine HCL.out.mono ?_
      intro e ws hW
      have HN : Hid (WrAt w gr (sealObj n x d p (some ⟨b, off, none⟩) m C) (sealPart n x d p l (k + 1)) ws) := Lib.hid (by have := HK.out.wrote hW; rwa [HMO.out] at this)
      obtain ⟨rfl, -, -⟩ := hW
      clear a0 a1 a2 a3 a4 hc
      go_wp2
      go_roundw
      case rel => exact ⟨k + 1, by omega, by go_num, HN⟩
      case measure => simp [intOf]; omega
    · have HE := Lib.hid (sealPart_all (n := n) (x := x) (d := d) (p := p) (l := l) (k := k) (by rw [← HM.out]; omega))
      have hK := HK.out
      rw [HE.out] at hK
      have hlen : (Rc.sblk ⟨n, x, d, p, l⟩).length ≤ 63 := by
        have := Rc.sput_le ⟨n, x, d, p, l⟩
        rw [HP.out] at this; exact this
      have hcall := bytes_own gr _ wr hK.wr (by omega)
      have hcall' := hcall.mono fun e w' h => AnsT.after hK.bel (AnsT.of_new (by unfold maxLen; omega) h)
      have HCL := Lib.hid hcall'
      clear hcall hcall' hK hlen a0 a1 a2 a3 a4
      go_wp2_with fail
      refine HCL.out.mono ?_
      rintro e w' ⟨A', n', C', rfl, h1, h3, h4, h5, h6, h7⟩
      have HA : Hid (AnsT (Rc.sblk ⟨n, x, d, p, l⟩) w (.returned (.slice A' n' C')) w') := Lib.hid ⟨A', n', C', rfl, h1, h3, h4, h5, h6, h7⟩
      clear h1 h3 h4 h5 h6 h7
      go_wp2
      go_ret
      rw [HP.out]
      exact HA.out
theorem sealBytes_any (n x d p : Int) (A : Option Addr) (l : List Int) (m C : Nat) (G : Nat → Prop) (w : World) (hm : m = l.length) (hC : m ≤ C) (hCm : C ≤ maxLen) (hr : RdZ w A l G) :
    Calls Tryz.prog 54 #[.agg #[.int .i64 n, .int .i64 x, .int .i64 d, .int .i64 p, .slice A m C]] w (AnsT (Rc.sput ⟨n, x, d, p, l⟩) w) := by
  by_cases hok : Rc.SOk ⟨n, x, d, p, l⟩
  · exact sealBytes_yes n x d p A l m C G w hm hC hCm hr hok
  · exact sealBytes_no n x d p A l m C G w hm hC hCm hr hok
end Go.Proofs.YtfkoomldncfdnaaGreat
