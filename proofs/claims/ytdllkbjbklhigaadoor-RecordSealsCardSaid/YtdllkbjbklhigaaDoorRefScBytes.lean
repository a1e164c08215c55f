/- What the document's own SealBytes answers. -/
import Derived.Test.YtdllkbjbklhigaaDoorRefScRight
import Derived.Test.YtdllkbjbklhigaaDoorScBytes
import Derived.Test.YtdllkbjbklhigaaDoorRefCdW
import Derived.Test.YtdllkbjbklhigaaDoorRefAt
namespace Go.Proofs.YtdllkbjbklhigaaDoor
open Go.RowKit
open Pt (Tx)

set_option maxHeartbeats 1000000 in
theorem refSealBytes_no (n x d p : Int) (A : Option Addr) (l : List Int) (m C : Nat) (G : Nat → Prop) (w : World) (hm : m = l.length) (hC : m ≤ C) (hCm : C ≤ maxLen) (hr : RdZ w A l G) (hok : ¬ Rc.SOk ⟨n, x, d, p, l⟩) :
    Calls Tryd.prog 20 #[.agg #[.int .i64 n, .int .i64 x, .int .i64 d, .int .i64 p, .slice A m C]] w (AnsT (Rc.sput ⟨n, x, d, p, l⟩) w) := by
  have HB0 : Hid (Below w.heap.size w (w.alloc (sealObj n x d p A m C))) := Lib.hid ((Below.refl _ _).alloc (Nat.le_refl _) _)
  have HU0 : Hid ((w.alloc (sealObj n x d p A m C)).heap[w.heap.size]? = some (sealObj n x d p A m C)) := Lib.hid (Go.Deep.blk_alloc_new _ _)
  have hcall := refRightSeal_any n x d p A l m C G (w.alloc (sealObj n x d p A m C)) hm hC hCm (hr.old HB0.out)
  rw [decide_eq_false hok] at hcall
  have HC := Lib.hid hcall
  have HP := Lib.hid (Rc.sput_no hok)
  clear hm hC hCm hr hok hcall
  obtain ⟨a0, a1, a2, a3, a4⟩ := seal5 HU0.out
  unfold sealObj at a0 a1 a2 a3 a4 HC
  go_enter Tryd.func20, Tryd.ntmps20
  go_wp2_with fail
  refine HC.out.mono ?_
  rintro e w1 ⟨rfl, hb⟩
  have HB1 := Lib.hid (HB0.out.trans (hb.mono HB0.out.size))
  clear hb a0 a1 a2 a3 a4
  go_wp2
  go_ret
  rw [HP.out]
  exact AnsT.nil HB1.out
set_option maxHeartbeats 4000000 in
theorem refSealBytes_yes (n x d p : Int) (A : Option Addr) (l : List Int) (m C : Nat) (G : Nat → Prop) (w : World) (hm : m = l.length) (hC : m ≤ C) (hCm : C ≤ maxLen) (hr : RdZ w A l G) (hok : Rc.SOk ⟨n, x, d, p, l⟩) :
    Calls Tryd.prog 20 #[.agg #[.int .i64 n, .int .i64 x, .int .i64 d, .int .i64 p, .slice A m C]] w (AnsT (Rc.sput ⟨n, x, d, p, l⟩) w) := by
  have HB0 : Hid (Below w.heap.size w (w.alloc (sealObj n x d p A m C))) := Lib.hid ((Below.refl _ _).alloc (Nat.le_refl _) _)
  have HU0 : Hid ((w.alloc (sealObj n x d p A m C)).heap[w.heap.size]? = some (sealObj n x d p A m C)) := Lib.hid (Go.Deep.blk_alloc_new _ _)
  have hcall := refRightSeal_any n x d p A l m C G (w.alloc (sealObj n x d p A m C)) hm hC hCm (hr.old HB0.out)
  rw [decide_eq_true hok] at hcall
  have HC := Lib.hid hcall
  have HP := Lib.hid (Rc.sput_ok hok)
  have hm14 : m ≤ 14 := by rw [hm]; exact hok.few
  have HR := Lib.hid hr
  have HM := Lib.hid hm
  clear hm hC hCm hr hok hcall
  obtain ⟨a0, a1, a2, a3, a4⟩ := seal5 HU0.out
  unfold sealObj at a0 a1 a2 a3 a4 HC
  go_enter Tryd.func20, Tryd.ntmps20
  go_wp2_with fail
  refine HC.out.mono ?_
  rintro e w1 ⟨rfl, hb⟩
  obtain ⟨gr, hgr⟩ : ∃ gr, gr = w1.heap.size := ⟨_, rfl⟩
  obtain ⟨wb, hwb⟩ : ∃ wb, wb = w1.alloc (.cells #[.slice none 0 0] 68) := ⟨_, rfl⟩
  have hU1 := below_obj hb HU0.out
  have hB1 := HB0.out.trans (hb.mono HB0.out.size)
  have HW2 : Hid (RefAt w gr (sealObj n x d p A m C) [] wb) := Lib.hid (by
    rw [hwb, hgr]
    exact ⟨⟨_, Go.Deep.blk_alloc_new _ _, OwnL.nil _ _⟩, (Below.heap_alloc _ _ _ (heap_lt hU1)).trans hU1, hB1.alloc hB1.size _, heap_lt hU1⟩)
  have HWB := Lib.hid hwb
  have HGR := Lib.hid hgr
  clear hb a0 a1 a2 a3 a4 hU1 hB1 hwb hgr
  obtain ⟨a0, a1, a2, a3, a4⟩ := seal5 HW2.out.hd
  rw [HWB.out] at a0 a1 a2 a3 a4
  go_wp2_with fail
  rw [← HWB.out, ← HGR.out]
  obtain ⟨v2, hv2⟩ := HW2.out.rw_
  refine (vint_any gr gr v2 [] n wb hv2 HW2.out.base (by simp)).mono ?_
  intro e w3 hW
  have HW3 : Hid (RefAt w gr (sealObj n x d p A m C) _ w3) := Lib.hid (HW2.out.wrote (by decide) hW)
  obtain ⟨rfl, -, -⟩ := hW
  clear a0 a1 a2 a3 a4 hv2
  obtain ⟨a0, a1, a2, a3, a4⟩ := seal5 HW3.out.hd
  go_wp2_with fail
  obtain ⟨v3, hv3⟩ := HW3.out.rw_
  refine (vbyte_int gr gr v3 _ x w3 hv3 HW3.out.base (by simp [Cd.be4_len])).mono ?_
  intro e w4 hW
  have HW4 : Hid (RefAt w gr (sealObj n x d p A m C) _ w4) := Lib.hid (HW3.out.wrote (by decide) hW)
  obtain ⟨rfl, -, -⟩ := hW
  clear a0 a1 a2 a3 a4 hv3
  obtain ⟨a0, a1, a2, a3, a4⟩ := seal5 HW4.out.hd
  go_wp2_with fail
  obtain ⟨v4, hv4⟩ := HW4.out.rw_
  refine (vbyte_int gr gr v4 _ d w4 hv4 HW4.out.base (by simp [Cd.be4_len])).mono ?_
  intro e w5 hW
  have HW5 : Hid (RefAt w gr (sealObj n x d p A m C) _ w5) := Lib.hid (HW4.out.wrote (by decide) hW)
  obtain ⟨rfl, -, -⟩ := hW
  clear a0 a1 a2 a3 a4 hv4
  obtain ⟨a0, a1, a2, a3, a4⟩ := seal5 HW5.out.hd
  go_wp2_with fail
  obtain ⟨v5, hv5⟩ := HW5.out.rw_
  refine (vbyte_int gr gr v5 _ p w5 hv5 HW5.out.base (by simp [Cd.be4_len])).mono ?_
  intro e w6 hW
  have HW6 : Hid (RefAt w gr (sealObj n x d p A m C) _ w6) := Lib.hid (HW5.out.wrote (by decide) hW)
  obtain ⟨rfl, -, -⟩ := hW
  clear a0 a1 a2 a3 a4 hv5
  obtain ⟨a0, a1, a2, a3, a4⟩ := seal5 HW6.out.hd
  go_wp2
  have HT : Hid ((((([] ++ Cd.be4 n) ++ [Cd.b8 x]) ++ [Cd.b8 d]) ++ [Cd.b8 p]) = sealPart n x d p l 0) := Lib.hid (by unfold sealPart; simp only [List.nil_append, List.append_assoc, List.take_zero, Rc.labB, List.append_nil])
  have hstart := HW6.out
  rw [HT.out] at hstart
  have HS := Lib.hid hstart
  clear hstart a0 a1 a2 a3 a4
  go_loopw [4] (fun vi wr => ∃ k : Nat, k ≤ m ∧ vi = .int .i64 (k : Int) ∧ Hid (RefAt w gr (sealObj n x d p A m C) (sealPart n x d p l k) wr)) (fun vi _ => m - (intOf vi).toNat)
  case atStart => exact ⟨0, Nat.zero_le _, rfl, HS⟩
  case round =>
    obtain ⟨k, hk, rfl, HK⟩ := hrel
    obtain ⟨a0, a1, a2, a3, a4⟩ := seal5 HK.out.hd
    by_cases hlt : k < m
    · have hlt' : k < l.length := by rw [← HM.out]; exact hlt
      obtain ⟨b, off, rfl, -, hc⟩ := (HR.out.old HK.out.bel).at_ hlt'
      have HMO := Lib.hid (sealPart_more (n := n) (x := x) (d := d) (p := p) hlt')
      have HLE := Lib.hid (sealPart_len n x d p l k)
      obtain ⟨y, hy⟩ : ∃ y, y = l[k] := ⟨_, rfl⟩
      rw [← hy] at hc HMO
      clear hy
      have hle : (sealPart n x d p l k).length ≤ 999999990 := by have := HLE.out; omega
      have HLE2 := Lib.hid hle
      clear hle
      obtain ⟨v, hv⟩ := HK.out.rw_
      have hcall := vint_any gr gr v (sealPart n x d p l k) y wr hv HK.out.base HLE2.out
      have HCL := Lib.hid hcall
      clear hcall hv
      go_wp2_with fail
      refine HCL.out.mono ?_
      intro e ws hW
      have HN : Hid (RefAt w gr (sealObj n x d p (some ⟨b, off, none⟩) m C) (sealPart n x d p l (k + 1)) ws) := Lib.hid (by have := HK.out.wrote (by decide) hW; rwa [HMO.out] at this)
      obtain ⟨rfl, -, -⟩ := hW
      clear a0 a1 a2 a3 a4 hc
      go_wp2
      go_roundw
      case rel => exact ⟨k + 1, by omega, by go_num, HN⟩
      case measure => simp [intOf]; omega
    · have HE := Lib.hid (sealPart_all (n := n) (x := x) (d := d) (p := p) (l := l) (k := k) (by rw [← HM.out]; omega))
      have hK := HK.out
      rw [HE.out] at hK
      obtain ⟨A', C', c0, hans⟩ := hK.done rfl
      have HA := Lib.hid hans
      clear hans hK
      go_wp2
      go_ret
      rw [HP.out]
      exact HA.out
theorem refSealBytes_any (n x d p : Int) (A : Option Addr) (l : List Int) (m C : Nat) (G : Nat → Prop) (w : World) (hm : m = l.length) (hC : m ≤ C) (hCm : C ≤ maxLen) (hr : RdZ w A l G) :
    Calls Tryd.prog 20 #[.agg #[.int .i64 n, .int .i64 x, .int .i64 d, .int .i64 p, .slice A m C]] w (AnsT (Rc.sput ⟨n, x, d, p, l⟩) w) := by
  by_cases hok : Rc.SOk ⟨n, x, d, p, l⟩
  · exact refSealBytes_yes n x d p A l m C G w hm hC hCm hr hok
  · exact refSealBytes_no n x d p A l m C G w hm hC hCm hr hok
end Go.Proofs.YtdllkbjbklhigaaDoor
