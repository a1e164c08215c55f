/- Bytes that a call answers, in new memory. What HeadBytes of package record answers. -/
import Derived.Test.YtbijjgicjkmopaaDoorMah
import Derived.Test.YtbijjgicjkmopaaDoorMal
import Derived.Test.YtbijjgicjkmopaaDoorCdWriteT
namespace Go.Proofs.YtbijjgicjkmopaaDoor
open Go.RowKit
open Pt (Tx)

/-- bytes are answered, in new memory; or nothing -/
def AnsT (l : Tx) (w : World) (e : Ending) (w' : World) : Prop :=
  ∃ A n C, e = .returned (.slice A n C) ∧ n = l.length ∧ n ≤ C ∧ C ≤ maxLen ∧ (A = none → n = 0 ∧ C = 0) ∧ RdL w' A l (w.heap.size ≤ ·) ∧ Below w.heap.size w w'
theorem AnsT.nil {w w' : World} (h : Below w.heap.size w w') : AnsT [] w (.returned (.slice none 0 0)) w' :=
  ⟨none, 0, 0, rfl, rfl, Nat.le_refl _, by decide, fun _ => ⟨rfl, rfl⟩, RdL.empty _ _ _, h⟩
theorem AnsT.after {l : Tx} {w w1 w2 : World} {e : Ending} (hb : Below w.heap.size w w1) (h : AnsT l w1 e w2) : AnsT l w e w2 := by
  obtain ⟨A, n, C, h1, h2, h3, h4, h5, h6, h7⟩ := h
  exact ⟨A, n, C, h1, h2, h3, h4, h5, h6.mono fun x hx => Nat.le_trans hb.size hx, hb.trans (h7.mono hb.size)⟩
theorem AnsT.of_new {l : Tx} {w w' : World} {e : Ending} (hl : l.length ≤ maxLen) (h : NewC l w e w') : AnsT l w e w' := by
  obtain ⟨b, h1, h2, h3, h4⟩ := h
  exact ⟨some ⟨b, 0, Option.none⟩, l.length, l.length, h1, rfl, Nat.le_refl _, hl, (fun h => by cases h), (rd_of_cells h3).mono (fun x hx => by omega), h4⟩
end Go.Proofs.YtbijjgicjkmopaaDoor
namespace Go.Proofs.YtbijjgicjkmopaaDoor
open Go.RowKit
open Pt (Tx)

theorem kp_head {B gr : Nat} {x y : World} {p : Tx} {v z f l s m : Int} {g : Bool} (hk : Kp (· = gr) x y) (hne : ¬ B = gr) (h : x.heap[B]? = some (headObj p v z f l s m g)) : y.heap[B]? = some (headObj p v z f l s m g) :=
  (hk.block B (heap_lt h) hne).trans h
set_option maxHeartbeats 1000000 in
theorem headBytes_no (p : Tx) (v z f l s m : Int) (g : Bool) (w : World) (hl : p.length ≤ maxLen) (hk : Kept w) (hok : ¬ Rc.Ok ⟨p, v, z, f, l, s, m, g⟩) :
    Calls Tryd.prog 56 #[.agg #[.string (tx p), .int .i64 v, .int .i64 z, .int .i64 f, .int .i64 l, .int .i64 s, .int .i64 m, .bool g]] w (AnsT (Rc.put ⟨p, v, z, f, l, s, m, g⟩) w) := by
  have HB0 : Hid (Below w.heap.size w (w.alloc (headObj p v z f l s m g))) := Lib.hid ((Below.refl _ _).alloc (Nat.le_refl _) _)
  have HU0 : Hid ((w.alloc (headObj p v z f l s m g)).heap[w.heap.size]? = some (headObj p v z f l s m g)) := Lib.hid (Go.Deep.blk_alloc_new _ _)
  have hcall := rightHead_any p v z f l s m g (w.alloc (headObj p v z f l s m g)) hl (hk.old HB0.out)
  rw [decide_eq_false hok] at hcall
  have HC := Lib.hid hcall
  have HP := Lib.hid (Rc.put_no hok)
  clear hl hk hok hcall
  obtain ⟨a0, a1, a2, a3, a4, a5, a6, a7⟩ := head8 HU0.out
  unfold headObj at a0 a1 a2 a3 a4 a5 a6 a7 HC
  go_enter Tryd.func56, Tryd.ntmps56
  go_wp2_with fail
  refine HC.out.mono ?_
  rintro e w1 ⟨rfl, hb⟩
  have HB1 := Lib.hid (HB0.out.trans (hb.mono HB0.out.size))
  clear hb a0 a1 a2 a3 a4 a5 a6 a7
  go_wp2
  go_ret
  rw [HP.out]
  exact AnsT.nil HB1.out
set_option maxHeartbeats 4000000 in
theorem headBytes_yes (p : Tx) (v z f l s m : Int) (g : Bool) (w : World) (hl : p.length ≤ maxLen) (hk : Kept w) (hok : Rc.Ok ⟨p, v, z, f, l, s, m, g⟩) :
    Calls Tryd.prog 56 #[.agg #[.string (tx p), .int .i64 v, .int .i64 z, .int .i64 f, .int .i64 l, .int .i64 s, .int .i64 m, .bool g]] w (AnsT (Rc.put ⟨p, v, z, f, l, s, m, g⟩) w) := by
  have HB0 : Hid (Below w.heap.size w (w.alloc (headObj p v z f l s m g))) := Lib.hid ((Below.refl _ _).alloc (Nat.le_refl _) _)
  have HU0 : Hid ((w.alloc (headObj p v z f l s m g)).heap[w.heap.size]? = some (headObj p v z f l s m g)) := Lib.hid (Go.Deep.blk_alloc_new _ _)
  have hcall := rightHead_any p v z f l s m g (w.alloc (headObj p v z f l s m g)) hl (hk.old HB0.out)
  rw [decide_eq_true hok] at hcall
  have HC := Lib.hid hcall
  have HP := Lib.hid (Rc.put_ok hok)
  have HS := Lib.hid hok.short
  have HL := Lib.hid hl
  clear hl hk hok hcall
  obtain ⟨a0, a1, a2, a3, a4, a5, a6, a7⟩ := head8 HU0.out
  unfold headObj at a0 a1 a2 a3 a4 a5 a6 a7 HC
  go_enter Tryd.func56, Tryd.ntmps56
  go_wp2_with fail
  refine HC.out.mono ?_
  rintro e w1 ⟨rfl, hb⟩
  obtain ⟨gr, hgr⟩ : ∃ gr, gr = w1.heap.size := ⟨_, rfl⟩
  obtain ⟨wb, hwb⟩ : ∃ wb, wb = w1.alloc (.cells #[.pointer none, .int .i64 0] 120) := ⟨_, rfl⟩
  have hU1 := below_head hb HU0.out
  have hB1 := HB0.out.trans (hb.mono HB0.out.size)
  have HNE : Hid (¬ w.heap.size = gr) := Lib.hid (by have := heap_lt hU1; omega)
  have HLO : Hid (w.heap.size ≤ gr) := Lib.hid (by have := heap_lt hU1; omega)
  have HB2 : Hid (Below w.heap.size w wb) := Lib.hid (by rw [hwb]; exact hB1.alloc hB1.size _)
  have HU2 : Hid (wb.heap[w.heap.size]? = some (headObj p v z f l s m g)) := Lib.hid (by rw [hwb]; exact (Below.heap_alloc _ _ _ (heap_lt hU1)).trans hU1)
  have HW2 : Hid (Wr wb gr []) := Lib.hid (by rw [hwb, hgr]; exact Wr.new w1)
  have HWB := Lib.hid hwb
  have HGR := Lib.hid hgr
  clear hb a0 a1 a2 a3 a4 a5 a6 a7 hU1 hB1 hwb hgr
  obtain ⟨a0, a1, a2, a3, a4, a5, a6, a7⟩ := head8 HU2.out
  rw [HWB.out] at a0 a1 a2 a3 a4 a5 a6 a7
  go_wp2_with fail
  rw [← HWB.out, ← HGR.out]
  refine (wtext_any gr [] p wb HW2.out (by simp) HL.out).mono ?_
  rintro e w3 ⟨rfl, hW, hK⟩
  have HW3 := Lib.hid hW
  have HU3 := Lib.hid (kp_head hK HNE.out HU2.out)
  have HB3 := Lib.hid (HB2.out.trans (lo_g hK HB2.out.size HLO.out))
  clear hW hK a0 a1 a2 a3 a4 a5 a6 a7
  obtain ⟨a0, a1, a2, a3, a4, a5, a6, a7⟩ := head8 HU3.out
  go_wp2_with fail
  refine (wint_any gr _ v w3 HW3.out (by simp [Cd.tb_len]; omega)).mono ?_
  rintro e w4 ⟨rfl, hW, hK⟩
  have HW4 := Lib.hid hW
  have HU4 := Lib.hid (kp_head hK HNE.out HU3.out)
  have HB4 := Lib.hid (HB3.out.trans (lo_g hK HB3.out.size HLO.out))
  clear hW hK a0 a1 a2 a3 a4 a5 a6 a7
  obtain ⟨a0, a1, a2, a3, a4, a5, a6, a7⟩ := head8 HU4.out
  go_wp2_with fail
  refine (wint_any gr _ z w4 HW4.out (by simp [Cd.be4_len, Cd.tb_len]; omega)).mono ?_
  rintro e w5 ⟨rfl, hW, hK⟩
  have HW5 := Lib.hid hW
  have HU5 := Lib.hid (kp_head hK HNE.out HU4.out)
  have HB5 := Lib.hid (HB4.out.trans (lo_g hK HB4.out.size HLO.out))
  clear hW hK a0 a1 a2 a3 a4 a5 a6 a7
  obtain ⟨a0, a1, a2, a3, a4, a5, a6, a7⟩ := head8 HU5.out
  go_wp2_with fail
  refine (wint_any gr _ f w5 HW5.out (by simp [Cd.be4_len, Cd.tb_len]; omega)).mono ?_
  rintro e w6 ⟨rfl, hW, hK⟩
  have HW6 := Lib.hid hW
  have HU6 := Lib.hid (kp_head hK HNE.out HU5.out)
  have HB6 := Lib.hid (HB5.out.trans (lo_g hK HB5.out.size HLO.out))
  clear hW hK a0 a1 a2 a3 a4 a5 a6 a7
  obtain ⟨a0, a1, a2, a3, a4, a5, a6, a7⟩ := head8 HU6.out
  go_wp2_with fail
  refine (wint_any gr _ l w6 HW6.out (by simp [Cd.be4_len, Cd.tb_len]; omega)).mono ?_
  rintro e w7 ⟨rfl, hW, hK⟩
  have HW7 := Lib.hid hW
  have HU7 := Lib.hid (kp_head hK HNE.out HU6.out)
  have HB7 := Lib.hid (HB6.out.trans (lo_g hK HB6.out.size HLO.out))
  clear hW hK a0 a1 a2 a3 a4 a5 a6 a7
  obtain ⟨a0, a1, a2, a3, a4, a5, a6, a7⟩ := head8 HU7.out
  go_wp2_with fail
  refine (wint_any gr _ s w7 HW7.out (by simp [Cd.be4_len, Cd.tb_len]; omega)).mono ?_
  rintro e w8 ⟨rfl, hW, hK⟩
  have HW8 := Lib.hid hW
  have HU8 := Lib.hid (kp_head hK HNE.out HU7.out)
  have HB8 := Lib.hid (HB7.out.trans (lo_g hK HB7.out.size HLO.out))
  clear hW hK a0 a1 a2 a3 a4 a5 a6 a7
  obtain ⟨a0, a1, a2, a3, a4, a5, a6, a7⟩ := head8 HU8.out
  go_wp2_with fail
  refine (wint_any gr _ m w8 HW8.out (by simp [Cd.be4_len, Cd.tb_len]; omega)).mono ?_
  rintro e w9 ⟨rfl, hW, hK⟩
  have HW9 := Lib.hid hW
  have HU9 := Lib.hid (kp_head hK HNE.out HU8.out)
  have HB9 := Lib.hid (HB8.out.trans (lo_g hK HB8.out.size HLO.out))
  clear hW hK a0 a1 a2 a3 a4 a5 a6 a7
  obtain ⟨a0, a1, a2, a3, a4, a5, a6, a7⟩ := head8 HU9.out
  go_wp2_with fail
  refine (flag_any g w9).mono ?_
  rintro e wf ⟨rfl, hwf⟩
  subst hwf
  go_wp2_with fail
  refine (wbyte_any gr _ (Rc.goneB g) w9 HW9.out (by simp [Cd.be4_len, Cd.tb_len]; omega)).mono ?_
  rintro e w10 ⟨rfl, hW, hK⟩
  have HW10 := Lib.hid hW
  have HU10 := Lib.hid (kp_head hK HNE.out HU9.out)
  have HB10 := Lib.hid (HB9.out.trans (lo_g hK HB9.out.size HLO.out))
  clear hW hK a0 a1 a2 a3 a4 a5 a6 a7
  obtain ⟨a0, a1, a2, a3, a4, a5, a6, a7⟩ := head8 HU10.out
  go_wp2_with fail
  have HT : Hid ((((((((([] ++ Cd.tb p) ++ Cd.be4 v) ++ Cd.be4 z) ++ Cd.be4 f) ++ Cd.be4 l) ++ Cd.be4 s) ++ Cd.be4 m) ++ [Rc.goneB g]) = Rc.blk ⟨p, v, z, f, l, s, m, g⟩) := Lib.hid (by unfold Rc.blk; simp only [List.nil_append, List.append_assoc])
  have hW := HW10.out
  rw [HT.out] at hW
  have hlen : (Rc.blk ⟨p, v, z, f, l, s, m, g⟩).length ≤ 50 := by
    have := Rc.put_le ⟨p, v, z, f, l, s, m, g⟩
    rw [HP.out] at this; exact this
  have HE := Lib.hid hlen
  refine (bytes_own gr _ w10 hW (by omega)).mono ?_
  intro e w' h
  have h2 := AnsT.after HB10.out (AnsT.of_new (by unfold maxLen; have := HE.out; omega) h)
  obtain ⟨A, n, C, rfl, h1, h3, h4, h5, h6, h7⟩ := h2
  have HR : Hid (AnsT (Rc.blk ⟨p, v, z, f, l, s, m, g⟩) w (.returned (.slice A n C)) w') := Lib.hid ⟨A, n, C, rfl, h1, h3, h4, h5, h6, h7⟩
  clear h h1 h3 h4 h5 h6 h7 hW hlen
  go_wp2
  go_ret
  rw [HP.out]
  exact HR.out
theorem headBytes_any (p : Tx) (v z f l s m : Int) (g : Bool) (w : World) (hl : p.length ≤ maxLen) (hk : Kept w) :
    Calls Tryd.prog 56 #[.agg #[.string (tx p), .int .i64 v, .int .i64 z, .int .i64 f, .int .i64 l, .int .i64 s, .int .i64 m, .bool g]] w (AnsT (Rc.put ⟨p, v, z, f, l, s, m, g⟩) w) := by
  by_cases hok : Rc.Ok ⟨p, v, z, f, l, s, m, g⟩
  · exact headBytes_yes p v z f l s m g w hl hk hok
  · exact headBytes_no p v z f l s m g w hl hk hok
end Go.Proofs.YtbijjgicjkmopaaDoor
