/- What the document's own HeadBytes answers. -/
import Derived.Test.YtdllkbjbklhigaaDoorRefRcRight
import Derived.Test.YtdllkbjbklhigaaDoorRcHead
import Derived.Test.YtdllkbjbklhigaaDoorRefCdWT
import Derived.Test.YtdllkbjbklhigaaDoorRefAt
namespace Go.Proofs.YtdllkbjbklhigaaDoor
open Go.RowKit
open Pt (Tx)

theorem Turned.head {g base B : Nat} {a b : World} {p : Tx} {v z f l s m : Int} {gn : Bool} (h : Turned g base a b) (hB : B ≠ g) (hu : a.heap[B]? = some (headObj p v z f l s m gn)) : b.heap[B]? = some (headObj p v z f l s m gn) :=
  h.other hB (by decide) hu
set_option maxHeartbeats 1000000 in
theorem refHeadBytes_no (p : Tx) (v z f l s m : Int) (g : Bool) (w : World) (hl : p.length ≤ maxLen) (hok : ¬ Rc.Ok ⟨p, v, z, f, l, s, m, g⟩) :
    Calls Tryd.prog 13 #[.agg #[.string (tx p), .int .i64 v, .int .i64 z, .int .i64 f, .int .i64 l, .int .i64 s, .int .i64 m, .bool g]] w (AnsT (Rc.put ⟨p, v, z, f, l, s, m, g⟩) w) := by
  have HB0 : Hid (Below w.heap.size w (w.alloc (headObj p v z f l s m g))) := Lib.hid ((Below.refl _ _).alloc (Nat.le_refl _) _)
  have HU0 : Hid ((w.alloc (headObj p v z f l s m g)).heap[w.heap.size]? = some (headObj p v z f l s m g)) := Lib.hid (Go.Deep.blk_alloc_new _ _)
  have hcall := refRightHead_any p v z f l s m g (w.alloc (headObj p v z f l s m g)) hl
  rw [decide_eq_false hok] at hcall
  have HC := Lib.hid hcall
  have HP := Lib.hid (Rc.put_no hok)
  clear hl hok hcall
  obtain ⟨a0, a1, a2, a3, a4, a5, a6, a7⟩ := head8 HU0.out
  unfold headObj at a0 a1 a2 a3 a4 a5 a6 a7 HC
  go_enter Tryd.func13, Tryd.ntmps13
  go_wp2_with fail
  refine HC.out.mono ?_
  rintro e w1 ⟨rfl, hb⟩
  have HB1 := Lib.hid (HB0.out.trans (hb.mono HB0.out.size))
  clear hb a0 a1 a2 a3 a4 a5 a6 a7
  go_wp2
  go_ret
  rw [HP.out]
  exact AnsT.nil HB1.out
set_option maxHeartbeats 4000000 in
theorem refHeadBytes_yes (p : Tx) (v z f l s m : Int) (g : Bool) (w : World) (hl : p.length ≤ maxLen) (hok : Rc.Ok ⟨p, v, z, f, l, s, m, g⟩) :
    Calls Tryd.prog 13 #[.agg #[.string (tx p), .int .i64 v, .int .i64 z, .int .i64 f, .int .i64 l, .int .i64 s, .int .i64 m, .bool g]] w (AnsT (Rc.put ⟨p, v, z, f, l, s, m, g⟩) w) := by
  have HB0 : Hid (Below w.heap.size w (w.alloc (headObj p v z f l s m g))) := Lib.hid ((Below.refl _ _).alloc (Nat.le_refl _) _)
  have HU0 : Hid ((w.alloc (headObj p v z f l s m g)).heap[w.heap.size]? = some (headObj p v z f l s m g)) := Lib.hid (Go.Deep.blk_alloc_new _ _)
  have hcall := refRightHead_any p v z f l s m g (w.alloc (headObj p v z f l s m g)) hl
  rw [decide_eq_true hok] at hcall
  have HC := Lib.hid hcall
  have HP := Lib.hid (Rc.put_ok hok)
  have HS := Lib.hid hok.short
  have HL := Lib.hid hl
  clear hl hok hcall
  obtain ⟨a0, a1, a2, a3, a4, a5, a6, a7⟩ := head8 HU0.out
  unfold headObj at a0 a1 a2 a3 a4 a5 a6 a7 HC
  go_enter Tryd.func13, Tryd.ntmps13
  go_wp2_with fail
  refine HC.out.mono ?_
  rintro e w1 ⟨rfl, hb⟩
  obtain ⟨gr, hgr⟩ : ∃ gr, gr = w1.heap.size := ⟨_, rfl⟩
  obtain ⟨wb, hwb⟩ : ∃ wb, wb = w1.alloc (.cells #[.slice none 0 0] 68) := ⟨_, rfl⟩
  have hU1 := below_head hb HU0.out
  have hB1 := HB0.out.trans (hb.mono HB0.out.size)
  have HW2 : Hid (RefAt w gr (headObj p v z f l s m g) [] wb) := Lib.hid (by
    rw [hwb, hgr]
    exact ⟨⟨_, Go.Deep.blk_alloc_new _ _, OwnL.nil _ _⟩, (Below.heap_alloc _ _ _ (heap_lt hU1)).trans hU1, hB1.alloc hB1.size _, heap_lt hU1⟩)
  have HWB := Lib.hid hwb
  have HGR := Lib.hid hgr
  clear hb a0 a1 a2 a3 a4 a5 a6 a7 hU1 hB1 hwb hgr
  obtain ⟨a0, a1, a2, a3, a4, a5, a6, a7⟩ := head8 HW2.out.hd
  rw [HWB.out] at a0 a1 a2 a3 a4 a5 a6 a7
  go_wp2_with fail
  rw [← HWB.out, ← HGR.out]
  obtain ⟨v2, hv2⟩ := HW2.out.rw_
  refine (vtext_any gr gr v2 [] p wb hv2 HW2.out.base (by simp) HL.out).mono ?_
  intro e w3 hW
  have HW3 : Hid (RefAt w gr (headObj p v z f l s m g) _ w3) := Lib.hid (HW2.out.wrote (by decide) hW)
  obtain ⟨rfl, -, -⟩ := hW
  clear hv2 a0 a1 a2 a3 a4 a5 a6 a7
  obtain ⟨a0, a1, a2, a3, a4, a5, a6, a7⟩ := head8 HW3.out.hd
  go_wp2_with fail
  obtain ⟨v3, hv3⟩ := HW3.out.rw_
  refine (vint_any gr gr v3 _ v w3 hv3 HW3.out.base (by simp [Cd.tb_len]; omega)).mono ?_
  intro e w4 hW
  have HW4 : Hid (RefAt w gr (headObj p v z f l s m g) _ w4) := Lib.hid (HW3.out.wrote (by decide) hW)
  obtain ⟨rfl, -, -⟩ := hW
  clear hv3 a0 a1 a2 a3 a4 a5 a6 a7
  obtain ⟨a0, a1, a2, a3, a4, a5, a6, a7⟩ := head8 HW4.out.hd
  go_wp2_with fail
  obtain ⟨v4, hv4⟩ := HW4.out.rw_
  refine (vint_any gr gr v4 _ z w4 hv4 HW4.out.base (by simp [Cd.be4_len, Cd.tb_len]; omega)).mono ?_
  intro e w5 hW
  have HW5 : Hid (RefAt w gr (headObj p v z f l s m g) _ w5) := Lib.hid (HW4.out.wrote (by decide) hW)
  obtain ⟨rfl, -, -⟩ := hW
  clear hv4 a0 a1 a2 a3 a4 a5 a6 a7
  obtain ⟨a0, a1, a2, a3, a4, a5, a6, a7⟩ := head8 HW5.out.hd
  go_wp2_with fail
  obtain ⟨v5, hv5⟩ := HW5.out.rw_
  refine (vint_any gr gr v5 _ f w5 hv5 HW5.out.base (by simp [Cd.be4_len, Cd.tb_len]; omega)).mono ?_
  intro e w6 hW
  have HW6 : Hid (RefAt w gr (headObj p v z f l s m g) _ w6) := Lib.hid (HW5.out.wrote (by decide) hW)
  obtain ⟨rfl, -, -⟩ := hW
  clear hv5 a0 a1 a2 a3 a4 a5 a6 a7
  obtain ⟨a0, a1, a2, a3, a4, a5, a6, a7⟩ := head8 HW6.out.hd
  go_wp2_with fail
  obtain ⟨v6, hv6⟩ := HW6.out.rw_
  refine (vint_any gr gr v6 _ l w6 hv6 HW6.out.base (by simp [Cd.be4_len, Cd.tb_len]; omega)).mono ?_
  intro e w7 hW
  have HW7 : Hid (RefAt w gr (headObj p v z f l s m g) _ w7) := Lib.hid (HW6.out.wrote (by decide) hW)
  obtain ⟨rfl, -, -⟩ := hW
  clear hv6 a0 a1 a2 a3 a4 a5 a6 a7
  obtain ⟨a0, a1, a2, a3, a4, a5, a6, a7⟩ := head8 HW7.out.hd
  go_wp2_with fail
  obtain ⟨v7, hv7⟩ := HW7.out.rw_
  refine (vint_any gr gr v7 _ s w7 hv7 HW7.out.base (by simp [Cd.be4_len, Cd.tb_len]; omega)).mono ?_
  intro e w8 hW
  have HW8 : Hid (RefAt w gr (headObj p v z f l s m g) _ w8) := Lib.hid (HW7.out.wrote (by decide) hW)
  obtain ⟨rfl, -, -⟩ := hW
  clear hv7 a0 a1 a2 a3 a4 a5 a6 a7
  obtain ⟨a0, a1, a2, a3, a4, a5, a6, a7⟩ := head8 HW8.out.hd
  go_wp2_with fail
  obtain ⟨v8, hv8⟩ := HW8.out.rw_
  refine (vint_any gr gr v8 _ m w8 hv8 HW8.out.base (by simp [Cd.be4_len, Cd.tb_len]; omega)).mono ?_
  intro e w9 hW
  have HW9 : Hid (RefAt w gr (headObj p v z f l s m g) _ w9) := Lib.hid (HW8.out.wrote (by decide) hW)
  obtain ⟨rfl, -, -⟩ := hW
  clear hv8 a0 a1 a2 a3 a4 a5 a6 a7
  obtain ⟨a0, a1, a2, a3, a4, a5, a6, a7⟩ := head8 HW9.out.hd
  obtain ⟨v9, hv9⟩ := HW9.out.rw_
  have hcall := vbyte_any gr gr v9 _ (Rc.goneB g) w9 hv9 HW9.out.base (by simp [Cd.be4_len, Cd.tb_len]; omega)
  have HT : Hid ((((((((([] ++ Cd.tb p) ++ Cd.be4 v) ++ Cd.be4 z) ++ Cd.be4 f) ++ Cd.be4 l) ++ Cd.be4 s) ++ Cd.be4 m) ++ [Rc.goneB g]) = Rc.blk ⟨p, v, z, f, l, s, m, g⟩) := Lib.hid (by unfold Rc.blk; simp only [List.nil_append, List.append_assoc])
  rw [HT.out] at hcall
  have HC8 := Lib.hid hcall
  clear hcall hv9 HT
  have H8 : Hid (∀ e y, RefWrote gr gr (Rc.blk ⟨p, v, z, f, l, s, m, g⟩) w9 e y → e = .returned (.tuple #[]) ∧ ∃ A n C, y.cell? ⟨gr, 0, none⟩ = some (.slice A n C) ∧ AnsT (Rc.blk ⟨p, v, z, f, l, s, m, g⟩) w (.returned (.slice A n C)) y) := Lib.hid (fun e y hW => by
    obtain ⟨A, C, h1, h2⟩ := (HW9.out.wrote (by decide) hW).done rfl
    exact ⟨hW.1, A, _, C, h1, h2⟩)
  clear HW9
  cases g with
  | true =>
    have hcall : Calls Tryd.prog 42 #[.pointer (some ⟨gr, 0, none⟩), .int .u8 1] w9 _ := HC8.out
    have HD := Lib.hid hcall
    clear hcall
    go_wp2_with fail
    refine HD.out.mono ?_
    intro e y hW
    obtain ⟨rfl, A, n, C, c0, hans⟩ := H8.out e y hW
    have HA := Lib.hid hans
    clear hans hW a0 a1 a2 a3 a4 a5 a6 a7
    go_wp2
    go_ret
    rw [HP.out]
    exact HA.out
  | false =>
    have hcall : Calls Tryd.prog 42 #[.pointer (some ⟨gr, 0, none⟩), .int .u8 0] w9 _ := HC8.out
    have HD := Lib.hid hcall
    clear hcall
    go_wp2_with fail
    refine HD.out.mono ?_
    intro e y hW
    obtain ⟨rfl, A, n, C, c0, hans⟩ := H8.out e y hW
    have HA := Lib.hid hans
    clear hans hW a0 a1 a2 a3 a4 a5 a6 a7
    go_wp2
    go_ret
    rw [HP.out]
    exact HA.out
theorem refHeadBytes_any (p : Tx) (v z f l s m : Int) (g : Bool) (w : World) (hl : p.length ≤ maxLen) :
    Calls Tryd.prog 13 #[.agg #[.string (tx p), .int .i64 v, .int .i64 z, .int .i64 f, .int .i64 l, .int .i64 s, .int .i64 m, .bool g]] w (AnsT (Rc.put ⟨p, v, z, f, l, s, m, g⟩) w) := by
  by_cases hok : Rc.Ok ⟨p, v, z, f, l, s, m, g⟩
  · exact refHeadBytes_yes p v z f l s m g w hl hok
  · exact refHeadBytes_no p v z f l s m g w hl hok
end Go.Proofs.YtdllkbjbklhigaaDoor
