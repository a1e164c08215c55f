/- Bytes that a call answers, in new memory. What HeadBytes of package record answers. What units of package volume answers: the head's unit, one for each piece of the data, and the mark's. What Blocks of package volume answers. -/
import Derived.Test.YtndofmoepjfnfaaDoorMaj
import Derived.Test.YtndofmoepjfnfaaDoorMaq
import Derived.Test.YtndofmoepjfnfaaDoorMas
import Derived.Test.YtndofmoepjfnfaaDoorCdWriteT
import Derived.Test.YtndofmoepjfnfaaDoorMap
namespace Go.Proofs.YtndofmoepjfnfaaDoor
open Go.RowKit
open Pt (Tx)

/-- bytes are answered, in new memory; or nothing -/
def AnsT (l : Tx) (w : World) (e : Ending) (w' : World) : Prop :=
  ∃ A n C, e = .returned (.slice A n C) ∧ n = l.length ∧ n ≤ C ∧ C ≤ maxLen ∧ (A = none → n = 0 ∧ C = 0) ∧ RdL w' A l (w.heap.size ≤ ·) ∧ Below w.heap.size w w'
theorem AnsT.nil {w w' : World} (h : Below w.heap.size w w') : AnsT [] w (.returned (.slice none 0 0)) w' :=
  ⟨none, 0, 0, rfl, rfl, Nat.le_refl _, by decide, fun _ => ⟨rfl, rfl⟩, RdL.empty _ _ _, h⟩
theorem AnsT.after {l : Tx} {w w1 w2 : World} {e : Ending} (hb : Below w.heap.size w w1) (h : AnsT l w1 e w2) : AnsT l w e w2 := by
  obtain ⟨A, n, C, h1, h2, h3, h4, h5, h6, h7⟩ := h
  exact ⟨A, n, C, h1, h2, h3, h4, h5, h6.mono fun x hx => Nat.le_trans hb.size hx, hb.trans (h7.mono hb.size)⟩
theorem AnsT.of_new {l : Tx} {w w' : World} {e : Ending} (hl : l.length ≤ maxLen) (h : NewC l w e w') : AnsT l w e w' := by
  obtain ⟨b, h1, h2, h3, h4⟩ := h
  exact ⟨some ⟨b, 0, Option.none⟩, l.length, l.length, h1, rfl, Nat.le_refl _, hl, (fun h => by cases h), (rd_of_cells h3).mono (fun x hx => by omega), h4⟩
end Go.Proofs.YtndofmoepjfnfaaDoor
namespace Go.Proofs.YtndofmoepjfnfaaDoor
open Go.RowKit
open Pt (Tx)

set_option maxHeartbeats 1000000 in
theorem headBytes_no (p : Tx) (v z f l s m : Int) (g : Bool) (w : World) (hl : p.length ≤ maxLen) (hk : Kept w) (hok : ¬ Rc.Ok ⟨p, v, z, f, l, s, m, g⟩) :
    Calls Tryd.prog 68 #[.agg #[.string (tx p), .int .i64 v, .int .i64 z, .int .i64 f, .int .i64 l, .int .i64 s, .int .i64 m, .bool g]] w (AnsT (Rc.put ⟨p, v, z, f, l, s, m, g⟩) w) := by
  have HB0 : Hid (Below w.heap.size w (w.alloc (headObj p v z f l s m g))) := Lib.hid ((Below.refl _ _).alloc (Nat.le_refl _) _)
  have HU0 : Hid ((w.alloc (headObj p v z f l s m g)).heap[w.heap.size]? = some (headObj p v z f l s m g)) := Lib.hid (Go.Deep.blk_alloc_new _ _)
  have hcall := rightHead_any p v z f l s m g (w.alloc (headObj p v z f l s m g)) hl (hk.old HB0.out)
  rw [decide_eq_false hok] at hcall
  have HC := Lib.hid hcall
  have HP := Lib.hid (Rc.put_no hok)
  clear hl hk hok hcall
  obtain ⟨a0, a1, a2, a3, a4, a5, a6, a7⟩ := head8 HU0.out
  unfold headObj at a0 a1 a2 a3 a4 a5 a6 a7 HC
  go_enter Tryd.func68, Tryd.ntmps68
  go_wp2_with fail
  refine HC.out.mono ?_
  rintro e w1 ⟨rfl, hb⟩
  have HB1 := Lib.hid (HB0.out.trans (hb.mono HB0.out.size))
  clear hb a0 a1 a2 a3 a4 a5 a6 a7
  go_wp2
  go_ret
  rw [HP.out]
  exact AnsT.nil HB1.out
set_option maxHeartbeats 4000000 in
theorem headBytes_yes (p : Tx) (v z f l s m : Int) (g : Bool) (w : World) (hl : p.length ≤ maxLen) (hk : Kept w) (hok : Rc.Ok ⟨p, v, z, f, l, s, m, g⟩) :
    Calls Tryd.prog 68 #[.agg #[.string (tx p), .int .i64 v, .int .i64 z, .int .i64 f, .int .i64 l, .int .i64 s, .int .i64 m, .bool g]] w (AnsT (Rc.put ⟨p, v, z, f, l, s, m, g⟩) w) := by
  have HB0 : Hid (Below w.heap.size w (w.alloc (headObj p v z f l s m g))) := Lib.hid ((Below.refl _ _).alloc (Nat.le_refl _) _)
  have HU0 : Hid ((w.alloc (headObj p v z f l s m g)).heap[w.heap.size]? = some (headObj p v z f l s m g)) := Lib.hid (Go.Deep.blk_alloc_new _ _)
  have hcall := rightHead_any p v z f l s m g (w.alloc (headObj p v z f l s m g)) hl (hk.old HB0.out)
  rw [decide_eq_true hok] at hcall
  have HC := Lib.hid hcall
  have HP := Lib.hid (Rc.put_ok hok)
  have HS := Lib.hid hok.short
  have HL := Lib.hid hl
  clear hl hk hok hcall
  obtain ⟨a0, a1, a2, a3, a4, a5, a6, a7⟩ := head8 HU0.out
  unfold headObj at a0 a1 a2 a3 a4 a5 a6 a7 HC
  go_enter Tryd.func68, Tryd.ntmps68
  go_wp2_with fail
  refine HC.out.mono ?_
  rintro e w1 ⟨rfl, hb⟩
  obtain ⟨gr, hgr⟩ : ∃ gr, gr = w1.heap.size := ⟨_, rfl⟩
  obtain ⟨wb, hwb⟩ : ∃ wb, wb = w1.alloc (.cells #[.pointer none, .int .i64 0] 117) := ⟨_, rfl⟩
  have hU1 := below_head hb HU0.out
  have hB1 := HB0.out.trans (hb.mono HB0.out.size)
  have HNE : Hid (¬ w.heap.size = gr) := Lib.hid (by have := heap_lt hU1; omega)
  have HLO : Hid (w.heap.size ≤ gr) := Lib.hid (by have := heap_lt hU1; omega)
  have HB2 : Hid (Below w.heap.size w wb) := Lib.hid (by rw [hwb]; exact hB1.alloc hB1.size _)
  have HU2 : Hid (wb.heap[w.heap.size]? = some (headObj p v z f l s m g)) := Lib.hid (by rw [hwb]; exact (Below.heap_alloc _ _ _ (heap_lt hU1)).trans hU1)
  have HW2 : Hid (Wr wb gr []) := Lib.hid (by rw [hwb, hgr]; exact Wr.new w1)
  have HWB := Lib.hid hwb
  have HGR := Lib.hid hgr
  clear hb a0 a1 a2 a3 a4 a5 a6 a7 hU1 hB1 hwb hgr
  obtain ⟨a0, a1, a2, a3, a4, a5, a6, a7⟩ := head8 HU2.out
  rw [HWB.out] at a0 a1 a2 a3 a4 a5 a6 a7
  go_wp2_with fail
  rw [← HWB.out, ← HGR.out]
  refine (wtext_any gr [] p wb HW2.out (by simp) HL.out).mono ?_
  rintro e w3 ⟨rfl, hW, hK⟩
  have HW3 := Lib.hid hW
  have HU3 := Lib.hid (kp_head hK HNE.out HU2.out)
  have HB3 := Lib.hid (HB2.out.trans (lo_g hK HB2.out.size HLO.out))
  clear hW hK a0 a1 a2 a3 a4 a5 a6 a7
  obtain ⟨a0, a1, a2, a3, a4, a5, a6, a7⟩ := head8 HU3.out
  go_wp2_with fail
  refine (wint_any gr _ v w3 HW3.out (by simp [Cd.tb_len]; omega)).mono ?_
  rintro e w4 ⟨rfl, hW, hK⟩
  have HW4 := Lib.hid hW
  have HU4 := Lib.hid (kp_head hK HNE.out HU3.out)
  have HB4 := Lib.hid (HB3.out.trans (lo_g hK HB3.out.size HLO.out))
  clear hW hK a0 a1 a2 a3 a4 a5 a6 a7
  obtain ⟨a0, a1, a2, a3, a4, a5, a6, a7⟩ := head8 HU4.out
  go_wp2_with fail
  refine (wint_any gr _ z w4 HW4.out (by simp [Cd.be4_len, Cd.tb_len]; omega)).mono ?_
  rintro e w5 ⟨rfl, hW, hK⟩
  have HW5 := Lib.hid hW
  have HU5 := Lib.hid (kp_head hK HNE.out HU4.out)
  have HB5 := Lib.hid (HB4.out.trans (lo_g hK HB4.out.size HLO.out))
  clear hW hK a0 a1 a2 a3 a4 a5 a6 a7
  obtain ⟨a0, a1, a2, a3, a4, a5, a6, a7⟩ := head8 HU5.out
  go_wp2_with fail
  refine (wint_any gr _ f w5 HW5.out (by simp [Cd.be4_len, Cd.tb_len]; omega)).mono ?_
  rintro e w6 ⟨rfl, hW, hK⟩
  have HW6 := Lib.hid hW
  have HU6 := Lib.hid (kp_head hK HNE.out HU5.out)
  have HB6 := Lib.hid (HB5.out.trans (lo_g hK HB5.out.size HLO.out))
  clear hW hK a0 a1 a2 a3 a4 a5 a6 a7
  obtain ⟨a0, a1, a2, a3, a4, a5, a6, a7⟩ := head8 HU6.out
  go_wp2_with fail
  refine (wint_any gr _ l w6 HW6.out (by simp [Cd.be4_len, Cd.tb_len]; omega)).mono ?_
  rintro e w7 ⟨rfl, hW, hK⟩
  have HW7 := Lib.hid hW
  have HU7 := Lib.hid (kp_head hK HNE.out HU6.out)
  have HB7 := Lib.hid (HB6.out.trans (lo_g hK HB6.out.size HLO.out))
  clear hW hK a0 a1 a2 a3 a4 a5 a6 a7
  obtain ⟨a0, a1, a2, a3, a4, a5, a6, a7⟩ := head8 HU7.out
  go_wp2_with fail
  refine (wint_any gr _ s w7 HW7.out (by simp [Cd.be4_len, Cd.tb_len]; omega)).mono ?_
  rintro e w8 ⟨rfl, hW, hK⟩
  have HW8 := Lib.hid hW
  have HU8 := Lib.hid (kp_head hK HNE.out HU7.out)
  have HB8 := Lib.hid (HB7.out.trans (lo_g hK HB7.out.size HLO.out))
  clear hW hK a0 a1 a2 a3 a4 a5 a6 a7
  obtain ⟨a0, a1, a2, a3, a4, a5, a6, a7⟩ := head8 HU8.out
  go_wp2_with fail
  refine (wint_any gr _ m w8 HW8.out (by simp [Cd.be4_len, Cd.tb_len]; omega)).mono ?_
  rintro e w9 ⟨rfl, hW, hK⟩
  have HW9 := Lib.hid hW
  have HU9 := Lib.hid (kp_head hK HNE.out HU8.out)
  have HB9 := Lib.hid (HB8.out.trans (lo_g hK HB8.out.size HLO.out))
  clear hW hK a0 a1 a2 a3 a4 a5 a6 a7
  obtain ⟨a0, a1, a2, a3, a4, a5, a6, a7⟩ := head8 HU9.out
  go_wp2_with fail
  refine (flag_any g w9).mono ?_
  rintro e wf ⟨rfl, hwf⟩
  subst hwf
  go_wp2_with fail
  refine (wbyte_any gr _ (Rc.goneB g) w9 HW9.out (by simp [Cd.be4_len, Cd.tb_len]; omega)).mono ?_
  rintro e w10 ⟨rfl, hW, hK⟩
  have HW10 := Lib.hid hW
  have HU10 := Lib.hid (kp_head hK HNE.out HU9.out)
  have HB10 := Lib.hid (HB9.out.trans (lo_g hK HB9.out.size HLO.out))
  clear hW hK a0 a1 a2 a3 a4 a5 a6 a7
  obtain ⟨a0, a1, a2, a3, a4, a5, a6, a7⟩ := head8 HU10.out
  go_wp2_with fail
  have HT : Hid ((((((((([] ++ Cd.tb p) ++ Cd.be4 v) ++ Cd.be4 z) ++ Cd.be4 f) ++ Cd.be4 l) ++ Cd.be4 s) ++ Cd.be4 m) ++ [Rc.goneB g]) = Rc.blk ⟨p, v, z, f, l, s, m, g⟩) := Lib.hid (by unfold Rc.blk; simp only [List.nil_append, List.append_assoc])
  have hW := HW10.out
  rw [HT.out] at hW
  have hlen : (Rc.blk ⟨p, v, z, f, l, s, m, g⟩).length ≤ 50 := by
    have := Rc.put_le ⟨p, v, z, f, l, s, m, g⟩
    rw [HP.out] at this; exact this
  have HE := Lib.hid hlen
  refine (bytes_own gr _ w10 hW (by omega)).mono ?_
  intro e w' h
  have h2 := AnsT.after HB10.out (AnsT.of_new (by unfold maxLen; have := HE.out; omega) h)
  obtain ⟨A, n, C, rfl, h1, h3, h4, h5, h6, h7⟩ := h2
  have HR : Hid (AnsT (Rc.blk ⟨p, v, z, f, l, s, m, g⟩) w (.returned (.slice A n C)) w') := Lib.hid ⟨A, n, C, rfl, h1, h3, h4, h5, h6, h7⟩
  clear h h1 h3 h4 h5 h6 h7 hW hlen
  go_wp2
  go_ret
  rw [HP.out]
  exact HR.out
theorem headBytes_any (p : Tx) (v z f l s m : Int) (g : Bool) (w : World) (hl : p.length ≤ maxLen) (hk : Kept w) :
    Calls Tryd.prog 68 #[.agg #[.string (tx p), .int .i64 v, .int .i64 z, .int .i64 f, .int .i64 l, .int .i64 s, .int .i64 m, .bool g]] w (AnsT (Rc.put ⟨p, v, z, f, l, s, m, g⟩) w) := by
  by_cases hok : Rc.Ok ⟨p, v, z, f, l, s, m, g⟩
  · exact headBytes_yes p v z f l s m g w hl hk hok
  · exact headBytes_no p v z f l s m g w hl hk hok
end Go.Proofs.YtndofmoepjfnfaaDoor
namespace Go.Proofs.YtndofmoepjfnfaaDoor
open Go.RowKit Go.Shelf
open Pt (Tx)

attribute [local go_sem] Oper.semAt_some

def UnitsA (ht : Tx) (b off L : Nat) (w : World) (e : Ending) (w' : World) : Prop :=
  ∃ v Ah nh Ch, e = .returned v ∧ encU.Own w' w.heap.size 39 v (uvs Ah nh Ch (pcs b off L (Vo.data L)) ++ [⟨4, none, 0, 0⟩]) ∧ nh = ht.length ∧ nh ≤ Ch ∧ (Ah = none → nh = 0 ∧ Ch = 0) ∧ RdL w' Ah ht (w.heap.size ≤ ·) ∧ Below w.heap.size w w'
theorem four_blocks {w wb : World} {o1 o2 o3 o4 : Obj} (h : wb = (((w.alloc o1).alloc o2).alloc o3).alloc o4) : Below w.heap.size w wb ∧ wb.heap[w.heap.size]? = some o1 ∧ wb.heap[w.heap.size + 1]? = some o2 ∧ wb.heap[w.heap.size + 1 + 1]? = some o3 ∧ wb.heap[w.heap.size + 1 + 1 + 1]? = some o4 ∧ wb.heap.size = w.heap.size + 1 + 1 + 1 + 1 := by
  have s1 : (w.alloc o1).heap.size = w.heap.size + 1 := by simp
  have s2 : ((w.alloc o1).alloc o2).heap.size = w.heap.size + 1 + 1 := by simp
  have s3 : (((w.alloc o1).alloc o2).alloc o3).heap.size = w.heap.size + 1 + 1 + 1 := by simp
  have b1 : Below w.heap.size w (w.alloc o1) := (Below.refl _ _).alloc (Nat.le_refl _) _
  have h1 : (w.alloc o1).heap[w.heap.size]? = some o1 := Go.Deep.blk_alloc_new _ _
  have h2 := Go.Deep.blk_alloc_new (w.alloc o1) o2
  have h3 := Go.Deep.blk_alloc_new ((w.alloc o1).alloc o2) o3
  have h4 := Go.Deep.blk_alloc_new (((w.alloc o1).alloc o2).alloc o3) o4
  rw [s1] at h2
  rw [s2] at h3
  rw [s3] at h4
  have up : ∀ (x : World) (o o' : Obj) (i : Nat), x.heap[i]? = some o' → (x.alloc o).heap[i]? = some o' := fun x o o' i hi => (Below.heap_alloc _ _ _ (heap_lt hi)).trans hi
  subst h
  exact ⟨((b1.alloc b1.size _).alloc (by rw [s2]; omega) _).alloc (by rw [s3]; omega) _, up _ _ _ _ (up _ _ _ _ (up _ _ _ _ h1)), up _ _ _ _ (up _ _ _ _ h2), up _ _ _ _ h3, h4, by simp⟩
theorem two_putObj {Bs Bn : Nat} {w : World} (h1 : Bs < w.heap.size) (h2 : Bn < w.heap.size) (W : World) (l : Nat) (o o' : Obj) (hl : w.heap.size ≤ l) (_ : W.heap[l]? = some o) (_ : o.isCells = false) (_ : o.isWalk = false) : Two Bs Bn W (W.putObj l o') :=
  ⟨World.cell?_of_block (World.putObj_heap_other (by first | (show Bs ≠ l; omega) | (show l ≠ Bs; omega))), World.cell?_of_block (World.putObj_heap_other (by first | (show Bn ≠ l; omega) | (show l ≠ Bn; omega)))⟩
set_option maxRecDepth 100000 in
set_option maxHeartbeats 4000000 in
theorem units_in (n : Nat) (hn : 4 ≤ n) (p : Tx) (v z f l s m : Int) (g : Bool) (A : Option Addr) (b off L C : Nat) (w : World) (hp : p.length ≤ maxLen) (hk : Kept w) (hL : L ≤ 1000000) (hC : L ≤ C) (hA : 0 < L → A = some ⟨b, off, none⟩) :
    CallsIn Fence.wide n Tryd.prog 58 #[.agg #[.string (tx p), .int .i64 v, .int .i64 z, .int .i64 f, .int .i64 l, .int .i64 s, .int .i64 m, .bool g], .slice A L C] w (UnitsA (Rc.put ⟨p, v, z, f, l, s, m, g⟩) b off L w) := by
  have h1 : 1 ≤ n := by omega
  obtain ⟨ht, hht⟩ : ∃ ht, ht = Rc.put ⟨p, v, z, f, l, s, m, g⟩ := ⟨_, rfl⟩
  obtain ⟨wa, hwa⟩ : ∃ wa, wa = w.alloc (headObj p v z f l s m g) := ⟨_, rfl⟩
  have hB : Below w.heap.size w wa := by rw [hwa]; exact (Below.refl _ _).alloc (Nat.le_refl _) _
  have hcall := headBytes_any p v z f l s m g wa hp (hk.old hB)
  rw [← hht] at hcall ⊢
  have HC := Lib.hid hcall
  have HB := Lib.hid hB
  have HW := Lib.hid hwa
  unfold headObj at HW
  have HHT := Lib.hid hht
  clear hcall hB hwa hk hht
  refine callsIn_of_wp_marks Tryd.func58 rfl trivial ?_ rfl
  simp only [Tryd.ntmps58, List.size_toArray, List.length_cons, List.length_nil, Nat.reduceAdd, Nat.reduceSub, Array.replicate_succ, Array.replicate_zero, List.push_toArray, List.append_toArray, List.nil_append, List.cons_append]
  gi_wp2_with (first
    | (refine ⟨trivial, ?_⟩; gi_at_call 68; rw [← HW.out]; refine (callsIn_wide.2 HC.out).mono ?_; rintro e w1 ⟨Ah, nh, Ch, rfl, hnh, hch, hcm, hz, hr, hb1⟩; have HNH := Lib.hid hnh; clear hnh)
    | (refine ⟨trivial, ?_⟩; gi_at_call 69; refine (chunk_in (n - 1) A L C _).mono ?_; rintro e w' ⟨rfl, rfl⟩))
  obtain ⟨w3, hw3⟩ : ∃ w3, w3 = (((w1.alloc (.cells #[.int .i64 2, .int .i64 0, .int .i64 0, .slice Ah nh Ch] 39)).alloc (.cells #[.slice (some ⟨w1.heap.size, 0, none⟩) 1 1] 111)).alloc (.cells #[.slice A L C] 26)).alloc (.cells #[.int .i64 64] 3) := ⟨_, rfl⟩
  rw [← hw3]
  obtain ⟨hb3, k1, k2, k3, k4, hsz⟩ := four_blocks hw3
  have hO : encU.Own w3 w1.heap.size 39 (.slice (some ⟨w1.heap.size, 0, none⟩) 1 1) (uvs Ah nh Ch []) := Enc.Own.one (E := encU) (x := ⟨2, Ah, nh, Ch⟩) k1 (Nat.le_refl _)
  have c3 : w3.cell? ⟨w1.heap.size + 1 + 1, 0, none⟩ = some (.slice A L C) := heap_cell k3
  have c4 : w3.cell? ⟨w1.heap.size + 1 + 1 + 1, 0, none⟩ = some (.int .i64 64) := heap_cell k4
  have hle : Vo.data L ≤ L + 1 := by unfold Vo.data; omega
  have HB1 := Lib.hid (HB.out.trans (hb1.mono HB.out.size))
  have HR := Lib.hid (hr.mono fun x hx => Nat.le_trans HB.out.size hx)
  clear hw3 hb1 hr HC HW HB
  refine wpIn_rangeFunc_ownF rfl h1 (gf := 79) (lb := #[.pointer (some ⟨w1.heap.size + 1 + 1, 0, none⟩), .pointer (some ⟨w1.heap.size + 1 + 1 + 1, 0, none⟩)]) rfl trivial (enters_of Tryd.func79 (by kernel_rfl) rfl)
    (chunk_stops (n - 1) (by omega) (w1.heap.size + 1 + 1) (w1.heap.size + 1 + 1 + 1) L C b off A hL hC hA w3 (by omega) (by omega) c3 c4) Two.trans (two_putObj (by omega) (by omega)) (Below.refl _ _) (fun _ => rfl)
    (fun pre W => (∃ v, Boxed W (w1.heap.size + 1) 111 v ∧ W.ownsRow w1.heap.size 39 4 v (uvs Ah nh Ch pre).length (encU.cells (uvs Ah nh Ch pre)) ∧ True) ∧ Below w1.heap.size w1 W ∧ Boxed W (w1.heap.size + 1 + 1) 26 (.slice A L C) ∧ Boxed W (w1.heap.size + 1 + 1 + 1) 3 (.int .i64 64))
    (fun _ _ _ => False)
    (OwnFrom.and (Own.from (holdsRow_own w1.heap.size (w1.heap.size + 1) 111 39 4 (fun pre => (uvs Ah nh Ch pre).length) (fun pre => encU.cells (uvs Ah nh Ch pre)) (fun _ _ => True)) _) (OwnFrom.and (ownFrom_below (Nat.le_refl _) (by omega)) (OwnFrom.and (Own.from (boxed_own (w1.heap.size + 1 + 1) 26 (fun _ => .slice A L C)) _) (Own.from (boxed_own (w1.heap.size + 1 + 1 + 1) 3 (fun _ => .int .i64 64)) _))))
    (fun _ _ _ _ _ hs _ _ => hs)
    ⟨⟨_, k2, hO, trivial⟩, hb3, k3, k4⟩
    (fun x => { tmps := #[.agg #[.string (tx p), .int .i64 v, .int .i64 z, .int .i64 f, .int .i64 l, .int .i64 s, .int .i64 m, .bool g], .slice A L C, .pointer (some ⟨w.heap.size, 0, none⟩), undef, .slice none 0 0, .pointer (some ⟨w1.heap.size + 1, 0, none⟩), .slice x.A x.n x.C,
      .agg #[.string (tx p), .int .i64 v, .int .i64 z, .int .i64 f, .int .i64 l, .int .i64 s, .int .i64 m, .bool g], .slice Ah nh Ch, .agg #[.int .i64 2, .int .i64 0, .int .i64 0, .slice Ah nh Ch], .slice (some ⟨w1.heap.size, 0, none⟩) 1 1, .slice A L C,
      .func (.func 79) #[] #[.pointer (some ⟨w1.heap.size + 1 + 1, 0, none⟩), .pointer (some ⟨w1.heap.size + 1 + 1 + 1, 0, none⟩)], .slice x.A x.n x.C, undef, undef, undef, undef, undef, undef, undef, undef, undef], defers := [] }) ?assign ?body ?done ?stop
  case assign =>
    intro l x W K hK
    gi_wp2
    exact hK
  case body =>
    rintro l pre x W ⟨⟨vv, hv, hrow, -⟩, hBw, hs1, hs2⟩ hlt
    have hc := hv.cell
    have HUL : Hid ((uvs Ah nh Ch pre).length = pre.length + 1) := Lib.hid (by simp [uvs])
    obtain ⟨i0, hi, hz0, hz1, hz2⟩ := info_parts infoUnit
    gi_wp2_with (gi_at_builtin; refine wpListIn_append_own _ rfl _ _ 111 rfl w1.heap.size 39 i0 _ 4 48 Tryd.underlying111 hi hz0 hz1 hz2 rfl (by decide) _ _ _ rfl (hrow.alloc _) ⟨W.heap.size, 0, none⟩ 1 1 (cells4 (pu x)) rfl rfl (newCells W (cells4 (pu x)) _) (encU.one (pu x)) (by unfold maxLen; have := HUL.out; omega) (by have := HUL.out; omega) (by have := hBw.size; simp; omega) ?_; intro v' w4 hown' hgrow _; obtain ⟨g', cap', rfl⟩ := ownsRow_succ hown'; obtain ⟨hv1, hv2, hr2, hk2, hb2⟩ := hv.appended (by decide) hrow hBw.size (Nat.le_succ _) hown' hgrow; have hc1 := hv1.cell; have hf1 := hv1.frozen; have hs3 := ((hs1.alloc _).kept hgrow (hs1.not_row (by decide) hrow)).other (B' := w1.heap.size + 1) (by omega) (.slice (some ⟨g', 0, none⟩) ((uvs Ah nh Ch pre).length + 1) cap'); have hs4 := ((hs2.alloc _).kept hgrow (hs2.not_row (by decide) hrow)).other (B' := w1.heap.size + 1) (by omega) (.slice (some ⟨g', 0, none⟩) ((uvs Ah nh Ch pre).length + 1) cap'))
    exact ⟨hk2, ⟨hs3.cell.trans hs1.cell.symm, hs4.cell.trans hs2.cell.symm⟩, ⟨⟨_, hv2, by rw [uvs_snoc, encU.cells_append, encU.cells_one, List.length_append]; exact hr2, trivial⟩, hBw.trans hb2, hs3, hs4⟩⟩
  case done =>
    rintro D ys W hD rfl ⟨⟨vv, hv, hrow, -⟩, hBw, -, -⟩ hK
    have hc := hv.cell
    have HUL : Hid ((uvs Ah nh Ch (pcs b off L (Vo.data L))).length = Vo.data L + 1) := Lib.hid (by simp [uvs, pcs])
    obtain ⟨i0, hi, hz0, hz1, hz2⟩ := info_parts infoUnit
    gi_wp2_with (gi_at_builtin; refine wpListIn_append_own _ rfl _ _ 111 rfl w1.heap.size 39 i0 _ 4 48 Tryd.underlying111 hi hz0 hz1 hz2 rfl (by decide) _ _ _ rfl (hrow.alloc _) ⟨W.heap.size, 0, none⟩ 1 1 (cells4 ⟨4, none, 0, 0⟩) rfl rfl (newCells W (cells4 ⟨4, none, 0, 0⟩) _) (encU.one ⟨4, none, 0, 0⟩) (by unfold maxLen; have := HUL.out; omega) (by have := HUL.out; omega) (by have := hBw.size; simp; omega) ?_; intro v' w4 hown' hgrow _)
    have hg' : (W.alloc (.cells (cells4 ⟨4, none, 0, 0⟩).toArray 39)).grownBy w4 vv.ownBlock := hgrow
    have hkeep : KeepsOthers W w4 := (KeepsOthers.alloc W _).trans (KeepsOthers.of_grownBy hg' fun j o ej hj => by
      obtain ⟨c, hcb⟩ := Enc.Own.block (E := encU) (l := uvs Ah nh Ch (pcs b off L (Vo.data L))) hrow j ej
      rw [(Below.heap_alloc W _ j (heap_lt hcb)).trans hcb] at hj
      cases hj; rfl)
    have hK4 := hkeep.same D _ hK rfl
    have hB4 : Below w1.heap.size w1 w4 := (hBw.alloc hBw.size _).grown hg' (by have := hBw.size; simp; omega) (fun x hx => (Enc.Own.lt (E := encU) (l := uvs Ah nh Ch (pcs b off L (Vo.data L))) hrow x hx).1)
    have hB5 : Below w1.heap.size w1 (w4.putObj D (.deferred none)) := hB4.trans (belowK_b (w := w1) (Nat.le_refl _) w4 D _ _ (by omega) hK4 rfl rfl)
    have hO5 := ownsRow_putObj hown' (.deferred none) hK4 rfl
    refine ⟨by simp, .inl ⟨_, _, rfl, run_takeDeferred hK4, ?_⟩⟩
    refine ⟨_, results_tmp rfl _ _ _, v', Ah, nh, Ch, rfl, ?_, HNH.out, hch, hz, HR.out.old hB5, HB1.out.trans (hB5.mono HB1.out.size)⟩
    unfold Enc.Own
    rw [encU.cells_append, encU.cells_one, List.length_append]
    exact own_lower hO5 HB1.out.size
  case stop =>
    rintro D c pre W _ _ h _
    exact h.elim
theorem units_any (p : Tx) (v z f l s m : Int) (g : Bool) (A : Option Addr) (b off L C : Nat) (w : World) (hp : p.length ≤ maxLen) (hk : Kept w) (hL : L ≤ 1000000) (hC : L ≤ C) (hA : 0 < L → A = some ⟨b, off, none⟩) :
    Calls Tryd.prog 58 #[.agg #[.string (tx p), .int .i64 v, .int .i64 z, .int .i64 f, .int .i64 l, .int .i64 s, .int .i64 m, .bool g], .slice A L C] w (UnitsA (Rc.put ⟨p, v, z, f, l, s, m, g⟩) b off L w) :=
  callsIn_wide.1 (units_in 8 (by decide) p v z f l s m g A b off L C w hp hk hL hC hA)
end Go.Proofs.YtndofmoepjfnfaaDoor
namespace Go.Proofs.YtndofmoepjfnfaaDoor
open Go.RowKit
open Pt (Tx)

/-- what Blocks answers, in new memory -/
def BlocksA (lab at_ : Int) (h : Rc.H) (b : Tx) (w : World) (e : Ending) (w' : World) : Prop :=
  ∃ A n C, e = .returned (.tuple #[.slice A n C, .int .i64 (Vo.err lab at_ h b)]) ∧ n = (Vo.put lab at_ h b).length ∧ n ≤ C ∧ (A = none → n = 0 ∧ C = 0) ∧ RdB w' A (Vo.put lab at_ h b) (w.heap.size ≤ ·) ∧ Below w.heap.size w w'
theorem BlocksA.no {lab at_ : Int} {h : Rc.H} {b : Tx} {w w' : World} (hn : ¬ Vo.Right lab at_ h b) (hb : Below w.heap.size w w') : BlocksA lab at_ h b w (.returned (.tuple #[.slice none 0 0, .int .i64 1])) w' :=
  ⟨none, 0, 0, by rw [Vo.err_no hn], by rw [Vo.put_no hn]; rfl, Nat.le_refl _, fun _ => ⟨rfl, rfl⟩, by rw [Vo.put_no hn]; exact RdB.empty _ _ _, hb⟩
set_option maxHeartbeats 2000000 in
theorem blocks_no (lab at_ : Int) (p : Tx) (v z f l s m : Int) (g : Bool) (A : Option Addr) (b : Tx) (L C : Nat) (w : World) (hp : p.length ≤ maxLen) (hk : Kept w) (hL : L = b.length) (hn : ¬ (Rc.Ok ⟨p, v, z, f, l, s, m, g⟩ ∧ (b.length : Int) = l)) :
    Calls Tryd.prog 44 #[.int .i64 lab, .int .i64 at_, .agg #[.string (tx p), .int .i64 v, .int .i64 z, .int .i64 f, .int .i64 l, .int .i64 s, .int .i64 m, .bool g], .slice A L C] w (BlocksA lab at_ ⟨p, v, z, f, l, s, m, g⟩ b w) := by
  have HN : Hid (¬ Vo.Right lab at_ ⟨p, v, z, f, l, s, m, g⟩ b) := Lib.hid fun h => hn h.1
  obtain ⟨wa, hwa⟩ : ∃ wa, wa = w.alloc (headObj p v z f l s m g) := ⟨_, rfl⟩
  have hB : Below w.heap.size w wa := by rw [hwa]; exact (Below.refl _ _).alloc (Nat.le_refl _) _
  have hH : wa.heap[w.heap.size]? = some (headObj p v z f l s m g) := by rw [hwa]; exact Go.Deep.blk_alloc_new _ _
  have hcall := rightHead_any p v z f l s m g wa hp (hk.old hB)
  have HB := Lib.hid hB
  have HH := Lib.hid hH
  have HW := Lib.hid hwa
  unfold headObj at HW
  have hcase : decide (Rc.Ok ⟨p, v, z, f, l, s, m, g⟩) = false ∨ (decide (Rc.Ok ⟨p, v, z, f, l, s, m, g⟩) = true ∧ ((L : Int) != l) = true) := by
    by_cases h : Rc.Ok ⟨p, v, z, f, l, s, m, g⟩
    · refine .inr ⟨decide_eq_true h, bne_iff_ne.2 fun e => hn ⟨h, by rw [← hL]; exact e⟩⟩
    · exact .inl (decide_eq_false h)
  clear hB hH hwa hk hn hL
  rcases hcase with q1 | ⟨q1, q2⟩
  all_goals
    rw [q1] at hcall
    have HC := Lib.hid hcall
    clear hcall q1
    go_enter Tryd.func44, Tryd.ntmps44
    go_wp2_with fail
    rw [← HW.out]
    refine HC.out.mono ?_
    rintro e w1 ⟨rfl, hb1⟩
    obtain ⟨a0, a1, a2, a3, a4, a5, a6, a7⟩ := head8 (below_head hb1 HH.out)
    have HB1 := Lib.hid (HB.out.trans (hb1.mono HB.out.size))
    clear hb1
    go_wp2
    go_ret2
    exact BlocksA.no HN.out HB1.out
set_option maxRecDepth 100000 in
set_option maxHeartbeats 8000000 in
theorem blocks_main (lab at_ : Int) (p : Tx) (v z f l s m : Int) (g : Bool) (A : Option Addr) (b : Tx) (L C bb off : Nat) (G : Nat → Prop) (w : World) (hp : p.length ≤ maxLen) (hk : Kept w) (hL : L = b.length) (hC : L ≤ C) (hA : 0 < L → A = some ⟨bb, off, none⟩) (hr : RdL w A b G) (hOk : Rc.Ok ⟨p, v, z, f, l, s, m, g⟩) (hl : (b.length : Int) = l)
    (hat : -9223372036854775808 ≤ at_ ∧ at_ ≤ 9223372036854775807) :
    Calls Tryd.prog 44 #[.int .i64 lab, .int .i64 at_, .agg #[.string (tx p), .int .i64 v, .int .i64 z, .int .i64 f, .int .i64 l, .int .i64 s, .int .i64 m, .bool g], .slice A L C] w (BlocksA lab at_ ⟨p, v, z, f, l, s, m, g⟩ b w) := by
  have hL4 : L ≤ 4000 := by have := hOk.2.2.2.1.2; obtain ⟨-, -, -, ⟨_, a⟩, b', c, d, _⟩ := hOk; rw [hL]; simp only at a b' c d; omega
  obtain ⟨D, hD⟩ : ∃ D, D = Vo.data L := ⟨_, rfl⟩
  obtain ⟨N, hN⟩ : ∃ N, N = D + 2 := ⟨_, rfl⟩
  have hD63 : D ≤ 63 := by rw [hD]; unfold Vo.data; omega
  have hneed : Vo.need l = N := by
    rw [← hl, Vo.need_of hOk (show (b.length : Int) = (⟨p, v, z, f, l, s, m, g⟩ : Rc.H).len from hl), ← hL, hN, hD]
  obtain ⟨wa, hwa⟩ : ∃ wa, wa = w.alloc (headObj p v z f l s m g) := ⟨_, rfl⟩
  have hB : Below w.heap.size w wa := by rw [hwa]; exact (Below.refl _ _).alloc (Nat.le_refl _) _
  have hH : wa.heap[w.heap.size]? = some (headObj p v z f l s m g) := by rw [hwa]; exact Go.Deep.blk_alloc_new _ _
  have hcall := rightHead_any p v z f l s m g wa hp (hk.old hB)
  rw [decide_eq_true hOk] at hcall
  have HC := Lib.hid hcall
  have HB := Lib.hid hB
  have HH := Lib.hid hH
  have HW := Lib.hid hwa
  unfold headObj at HW
  have q1 : ((L : Int) != l) = false := by rw [hL, hl]; simp
  have HR := Lib.hid (hr.in_.mono (fun x hx => hx.2) : RdL w A b (· < w.heap.size))
  have HK := Lib.hid hk
  have HL := Lib.hid hL
  have HOK := Lib.hid hOk
  have HLL := Lib.hid hl
  have HA := Lib.hid hA
  have HD := Lib.hid hD
  have HNEED := Lib.hid hneed
  have HAT := Lib.hid hat
  have HN := Lib.hid hN
  have hN65 : N ≤ 65 ∧ 2 ≤ N := by omega
  clear hcall hB hH hwa hk hL hr hOk hl hA hD hneed hat hN hD63
  go_enter Tryd.func44, Tryd.ntmps44
  go_wp2_with fail
  rw [← HW.out]
  refine HC.out.mono ?_
  clear HC
  rintro e w1 ⟨rfl, hb1⟩
  have HH1 := Lib.hid (below_head hb1 HH.out)
  have HB1 := Lib.hid (HB.out.trans (hb1.mono HB.out.size))
  obtain ⟨a0, a1, a2, a3, a4, a5, a6, a7⟩ := head8 HH1.out
  clear hb1
  go_wp2_with fail
  refine (need_any l w1).mono ?_
  rintro e w' ⟨rfl, hw'⟩
  subst hw'
  rw [HNEED.out]
  obtain ⟨i0, hi0, hz0, hz1, hz2⟩ := info_parts infoRowT
  obtain ⟨w2, hmk, hO2, hG2⟩ := run_make_own (P := Tryd.prog) w1 w.heap.size 33 26 i0 (.slice none 0 0) 1 Tryd.underlying33 hi0 hz0 hz1 .i64 .i64 N (by rw [hz2]; omega) (by unfold maxLen; omega) HB1.out.size
  obtain ⟨M, hM⟩ : ∃ M, M = w1.heap.size := ⟨_, rfl⟩
  rw [← hM] at hmk hO2
  have hb2 : Below w1.heap.size w1 w2 := ⟨hG2.os, hG2.tape, hG2.output, hG2.size, fun y hy => hG2.block y hy (fun e => by cases e)⟩
  have HT2 : Hid (TopR w2 w.heap.size M N [] []) := Lib.hid ⟨hO2, rfl, fun i h => absurd h (by simp), ⟩
  have HB2 := Lib.hid (HB1.out.trans (hb2.mono HB1.out.size))
  have HH2 := Lib.hid (below_head hb2 HH1.out)
  have HM2 : Hid (w.heap.size < M ∧ M < w2.heap.size) := Lib.hid ⟨by rw [hM]; exact heap_lt HH1.out, HT2.out.lt⟩
  have hcall := units_any p v z f l s m g A bb off L C w2 hp (HK.out.old HB2.out) (by omega) hC HA.out
  have HC := Lib.hid hcall
  clear hcall hb2 hO2 hG2 a0 a1 a2 a3 a4 a5 a6 a7
  obtain ⟨a0, a1, a2, a3, a4, a5, a6, a7⟩ := head8 HH2.out
  go_wp2_with fail
  rw [← hM]
  refine HC.out.mono ?_
  clear HC hM hmk
  rintro e w3 ⟨vU, Ah, nh, Ch, rfl, hO3, hnh, hch, hz, hrh, hb3⟩
  obtain ⟨us, hus⟩ : ∃ us, us = uvs Ah nh Ch (pcs bb off L (Vo.data L)) ++ [⟨4, none, 0, 0⟩] := ⟨_, rfl⟩
  have husl : us.length = N := by rw [hus, HN.out, HD.out]; simp [uvs, pcs]
  rw [← hus] at hO3
  obtain ⟨AU, CU, rfl, -, -, -, hRU⟩ := hO3.rd
  rw [husl]
  have HUV : Hid (∀ i, i < N → ∃ u uv, (Vo.units lab at_ ⟨p, v, z, f, l, s, m, g⟩ b)[i]? = some u ∧ us[i]? = some uv ∧ uv.kind = u.kind ∧ uv.n = u.load.length ∧ (uv.A = none → uv.n = 0 ∧ uv.C = 0) ∧ uv.n ≤ uv.C
      ∧ ∀ (W : World) (G : Nat → Prop), RdL W Ah (Rc.put ⟨p, v, z, f, l, s, m, g⟩) G → RdL W A b G → RdL W uv.A u.load G) := Lib.hid fun i hi => by
    rw [hus]; exact uv_is HOK.out HL.out hnh hch hz HA.out (by rw [HN.out, HD.out] at hi; exact hi)
  have HUL := Lib.hid husl
  have HT3 := Lib.hid (HT2.out.old hb3)
  have HB3 := Lib.hid (HB2.out.trans (hb3.mono HB2.out.size))
  have HRU : Hid (encU.Rd w3 AU us (M ≠ ·)) := Lib.hid (hRU.mono fun x hx => by have := HM2.out; omega)
  have HRH : Hid (RdL w3 Ah (Rc.put ⟨p, v, z, f, l, s, m, g⟩) (M ≠ ·)) := Lib.hid (hrh.mono fun x hx => by have := HM2.out; omega)
  have HRB : Hid (RdL w3 A b (M ≠ ·)) := Lib.hid ((HR.out.below HB3.out).mono fun x hx => by have := HM2.out; omega)
  clear hus husl hO3 hRU hnh hch hz hrh hb3 HT2 HH2 HH1 HB2 HB1 HR a0 a1 a2 a3 a4 a5 a6 a7 q1
  go_wp2
  go_loopw [33, 10] (fun vi vl wr => ∃ (i : Nat) (rs : List Value), i ≤ N ∧ rs.length = i ∧ vi = .int .i64 (i : Int) ∧ vl = .slice (some ⟨M, 0, none⟩) i N ∧ Hid (TopR wr w.heap.size M N rs (((Vo.units lab at_ ⟨p, v, z, f, l, s, m, g⟩ b).take i).map Fm.blk)) ∧ Hid (∀ j, j < i → Vo.Fits lab (at_ + (j : Int)) 0) ∧ Hid (Kp (· = M) w3 wr) ∧ Hid (Below w.heap.size w wr)) (fun vi _ _ => N - (intOf vi).toNat)
  case atStart => exact ⟨0, [], Nat.zero_le _, rfl, rfl, rfl, by rw [List.take_zero]; exact HT3, Lib.hid (fun j hj => absurd hj (by omega)), Lib.hid (Kp.refl _ _), HB3⟩
  case round =>
    obtain ⟨i, rs, hi, hrs, rfl, rfl, HT, HF, HKP, HB4⟩ := hrel
    by_cases hlt : i < N
    · obtain ⟨⟨ku, lu, nu, ld⟩, ⟨kv, Av, nv, Cv⟩, hu, huv, e1, e2, e3, e4, e5⟩ := HUV.out i hlt
      have e1' : kv = ku := e1
      have e2' : nv = ld.length := e2
      obtain ⟨hlu, hnu, -, -⟩ := Vo.units_at hu
      have hlu' : lu = lab := hlu
      have hnu' : nu = at_ + (i : Int) := hnu
      have herr := Vo.unit_err HOK.out hu
      subst e1' hlu'
      have huvl : i < us.length := by rw [HUL.out]; exact hlt
      have hload : RdL wr Av ld _ := e5 wr _ (HRH.out.kp HKP.out (fun x hx e => hx e.symm)) (HRB.out.kp HKP.out (fun x hx e => hx e.symm))
      obtain ⟨gb, go, rfl, -, hcell⟩ := (HRU.out.kp HKP.out (fun x hx e => hx e.symm)).at_ huvl
      have hue : us[i] = ⟨kv, Av, nv, Cv⟩ := by rw [List.getElem?_eq_getElem huvl] at huv; exact Option.some.inj huv
      rw [hue] at hcell
      have c0 : wr.cell? ⟨gb, go + i * 4, none⟩ = some (.int .i64 kv) := hcell 0 _ rfl
      have c1 : wr.cell? ⟨gb, go + i * 4 + 1, none⟩ = some (.int .i64 0) := hcell 1 _ rfl
      have c2 : wr.cell? ⟨gb, go + i * 4 + 2, none⟩ = some (.int .i64 0) := hcell 2 _ rfl
      have c3 : wr.cell? ⟨gb, go + i * 4 + 3, none⟩ = some (.slice Av nv Cv) := hcell 3 _ rfl
      have hwrap : wrap64 (at_ + (i : Int)) = nu := by
        rw [hnu']
        have h1 := HAT.out
        have h2 : i = 0 ∨ at_ + ((i - 1 : Nat) : Int) ≤ 2147483647 := by
          rcases Nat.eq_zero_or_pos i with h | h
          · exact .inl h
          · exact .inr (by have := (HF.out (i - 1) (by omega)).2.2; omega)
        unfold wrap64
        omega
      have hcall := framePut_any kv lu nu Av ld nv Cv _ (wr.alloc (unitObj kv lu nu Av nv Cv)) e2' e3 (hload.old ((Below.refl _ _).alloc (Nat.le_refl _) _))
      have HC := Lib.hid hcall
      unfold unitObj at HC
      have HU := Lib.hid hu
      have HERR := Lib.hid herr
      have HNU := Lib.hid hnu'
      clear hcall hload hcell hue huv e1 e2 e2' e3 e4 e5 hlu hnu hnu' herr hu huvl
      go_wp2_with fail
      refine HC.out.mono ?_
      rintro e w5 ⟨A5, n5, C5, rfl, hn5, hc5, hm5, ha5, hr5, hb5⟩
      have hb5' : Below wr.heap.size wr w5 := ((Below.refl _ wr).alloc (Nat.le_refl _) (unitObj kv lu nu Av nv Cv)).trans (hb5.mono ((Below.refl wr.heap.size wr).alloc (Nat.le_refl _) (unitObj kv lu nu Av nv Cv)).size)
      clear c0 c1 c2 c3 hwrap HC
      by_cases hf : Vo.Fits lu (at_ + (i : Int)) 0
      · have her : Fm.err ⟨kv, lu, nu, ld⟩ = 0 := by rw [HERR.out, if_pos hf]
        have hput : Fm.put ⟨kv, lu, nu, ld⟩ = Fm.blk ⟨kv, lu, nu, ld⟩ := Fm.put_ok (Vo.unit_ok HOK.out HU.out hf)
        rw [her]
        rw [hput] at hn5 hr5
        have HT5 := Lib.hid (HT.out.old hb5')
        have HB5 := Lib.hid (HB4.out.trans (hb5'.mono HB4.out.size))
        have hlo : M < wr.heap.size := HT.out.lt
        have HR5 : Hid (RdL w5 A5 (Fm.blk ⟨kv, lu, nu, ld⟩) (M < ·)) := Lib.hid (hr5.mono fun x hx => by
          have h1 := ((Below.refl wr.heap.size wr).alloc (Nat.le_refl _) (unitObj kv lu nu Av nv Cv)).size
          have h2 : (wr.alloc (unitObj kv lu nu Av nv Cv)).heap.size ≤ x := hx
          omega)
        have HT6 := Lib.hid ((HT5.out.old (w' := w5.alloc (.cells [Value.slice A5 n5 C5].toArray 26)) ((Below.refl _ _).alloc (Nat.le_refl _) _)).top)
        rw [hrs] at HT6
        have hKP5 : Kp (· = M) w3 w5 := HKP.out.trans (Kp.of_below hb5')
        have HKP5 := Lib.hid hKP5
        have HN5 := Lib.hid hn5
        have HA5 := Lib.hid ha5
        clear hb5 hb5' hr5 hn5 hm5 ha5 hput her hKP5
        go_wp2_with (at_builtin; refine wpList_append_fits _ rfl _ _ _ rfl w.heap.size 26 i0 1 Tryd.underlying33 hi0 hz1 M i N rs rfl HT6.out ⟨w5.heap.size, 0, none⟩ 1 1 [.slice A5 n5 C5] rfl rfl (newCells w5 [.slice A5 n5 C5] 26) (by simp [Value.oneCell']) (by omega) ?_; intro w6 hown hg6)
        have hg6' : (w5.alloc (.cells [Value.slice A5 n5 C5].toArray 26)).grownBy w6 (some M) := hg6
        have hbx : Below w5.heap.size w5 (w5.alloc (.cells [Value.slice A5 n5 C5].toArray 26)) := (Below.refl _ _).alloc (Nat.le_refl _) _
        have hKP6 := Lib.hid ((HKP5.out.trans (Kp.of_below hbx)).grown hg6' (fun k e => by cases e; rfl))
        have hB6 := Lib.hid ((HB5.out.trans (hbx.mono HB5.out.size)).grown hg6' ((HB5.out.trans (hbx.mono HB5.out.size)).size) (fun k e => by cases e; have := HM2.out; omega))
        have hT6 : TopR w6 w.heap.size M N (rs ++ [.slice A5 n5 C5]) (((Vo.units lu at_ ⟨p, v, z, f, l, s, m, g⟩ b).take (i + 1)).map Fm.blk) := by
          have htake : (Vo.units lu at_ ⟨p, v, z, f, l, s, m, g⟩ b).take (i + 1) = (Vo.units lu at_ ⟨p, v, z, f, l, s, m, g⟩ b).take i ++ [⟨kv, lu, nu, ld⟩] := by
            rw [List.take_add_one, HU.out]; rfl
          rw [htake, List.map_append]
          have h := HT5.out.push (w' := w6) hbx (A := A5) (C := C5) (s := Fm.blk ⟨kv, lu, nu, ld⟩) (by rw [← HN5.out]; exact hc5) (by rw [← HN5.out]; exact HA5.out) (HR5.out.old hbx) (by rw [hrs, ← HN5.out]; exact hown) hg6'
          rw [← HN5.out] at h
          exact h
        have hF6 : Hid (∀ j, j < i + 1 → Vo.Fits lu (at_ + (j : Int)) 0) := Lib.hid fun j hj => by
          rcases Nat.lt_or_ge j i with h | h
          · exact HF.out j h
          · obtain rfl : j = i := by omega
            exact hf
        have HT7 := Lib.hid hT6
        clear hg6 hg6' hbx hT6 hown
        go_wp2
        go_roundw
        case rel => exact ⟨i + 1, rs ++ [.slice A5 n5 C5], by omega, by simp [hrs], by go_num, rfl, HT7, hF6, hKP6, hB6⟩
        case measure => simp [intOf]; omega
      · have her : Fm.err ⟨kv, lu, nu, ld⟩ = 1 := by rw [HERR.out, if_neg hf]
        rw [her]
        have HNR : Hid (¬ Vo.Right lu at_ ⟨p, v, z, f, l, s, m, g⟩ b) := Lib.hid fun h => hf (by
          obtain ⟨h1, h2, h3⟩ := h.2
          rw [← HL.out, ← HD.out] at h3
          have := HN.out
          exact ⟨h1, by omega, by omega⟩)
        have HB5 := Lib.hid (HB4.out.trans (hb5'.mono HB4.out.size))
        clear hb5 hb5' hr5 hn5 hc5 hm5 ha5
        go_wp2
        go_ret2
        exact BlocksA.no HNR.out HB5.out
    · obtain rfl : i = N := by omega
      have hR : Vo.Right lab at_ ⟨p, v, z, f, l, s, m, g⟩ b := by
        have h0 := HF.out 0 (by omega)
        have h1 := HF.out (i - 1) (by omega)
        obtain ⟨x1, x2, x3⟩ := h0
        obtain ⟨-, -, y3⟩ := h1
        refine ⟨⟨HOK.out, HLL.out⟩, x1, by omega, ?_⟩
        rw [← HL.out, ← HD.out]
        have := HN.out
        omega
      have hput : Vo.put lab at_ ⟨p, v, z, f, l, s, m, g⟩ b = (Vo.units lab at_ ⟨p, v, z, f, l, s, m, g⟩ b).map Fm.blk := Vo.put_yes hR
      have hlen : (Vo.units lab at_ ⟨p, v, z, f, l, s, m, g⟩ b).length = i := by rw [Vo.units_len, HN.out, HD.out, HL.out]
      have hT8 := HT.out.rdB
      rw [List.take_of_length_le (by rw [hlen]; exact Nat.le_refl _)] at hT8
      have HT8 := Lib.hid hT8
      have HPUT := Lib.hid hput
      have HE := Lib.hid (Vo.err_yes hR)
      have HLEN : Hid (i = (Vo.put lab at_ ⟨p, v, z, f, l, s, m, g⟩ b).length) := Lib.hid (by rw [hput, List.length_map, hlen])
      clear hR hput hlen hT8
      go_wp2
      go_ret2
      refine ⟨some ⟨M, 0, none⟩, i, i, by rw [HE.out]; rfl, HLEN.out, Nat.le_refl _, (fun h => by cases h), ?_, HB4.out⟩
      rw [HPUT.out]
      exact HT8.out
theorem blocks_any (lab at_ : Int) (p : Tx) (v z f l s m : Int) (g : Bool) (A : Option Addr) (b : Tx) (L C : Nat) (G : Nat → Prop) (w : World) (hp : p.length ≤ maxLen) (hk : Kept w) (hL : L = b.length) (hC : L ≤ C) (hr : RdL w A b G)
    (hat : -9223372036854775808 ≤ at_ ∧ at_ ≤ 9223372036854775807) :
    Calls Tryd.prog 44 #[.int .i64 lab, .int .i64 at_, .agg #[.string (tx p), .int .i64 v, .int .i64 z, .int .i64 f, .int .i64 l, .int .i64 s, .int .i64 m, .bool g], .slice A L C] w (BlocksA lab at_ ⟨p, v, z, f, l, s, m, g⟩ b w) := by
  by_cases h : Rc.Ok ⟨p, v, z, f, l, s, m, g⟩ ∧ (b.length : Int) = l
  · rcases Nat.eq_zero_or_pos L with h0 | h0
    · exact blocks_main lab at_ p v z f l s m g A b L C 0 0 G w hp hk hL hC (fun h' => by omega) hr h.1 h.2 hat
    · obtain ⟨bb, off, e, -, -⟩ := hr (by omega)
      exact blocks_main lab at_ p v z f l s m g A b L C bb off G w hp hk hL hC (fun _ => e) hr h.1 h.2 hat
  · exact blocks_no lab at_ p v z f l s m g A b L C w hp hk hL h
end Go.Proofs.YtndofmoepjfnfaaDoor
