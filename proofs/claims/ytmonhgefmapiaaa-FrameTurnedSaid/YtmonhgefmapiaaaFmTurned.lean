/- What FrameTurned answers: true. -/
import Derived.Test.YtmonhgefmapiaaaFmAlive
import Derived.Test.YtmonhgefmapiaaaRefFmP
import Derived.Test.YtmonhgefmapiaaaCrTurn
namespace Go.Proofs.Ytmonhgefmapiaaa
open Go.RowKit
open Pt (Tx)

theorem rd_set {w : World} {g off p : Nat} {x : Tx} {y : UInt8} {c : Array Value} {t : TypeId} {fr : Nat × Nat} {G : Nat → Prop} (hb : w.heap[g]? = some (.cells c t fr)) (h : RdL w (some ⟨g, off, none⟩) x G) :
    RdL (w.setCell ⟨g, off + p, none⟩ (.int .u8 (y.toNat : Int))) (some ⟨g, off, none⟩) (x.set p y) G := by
  intro hn
  rw [List.length_set] at hn
  obtain ⟨b, o, e, hg, hc⟩ := h hn
  cases e
  refine ⟨g, off, rfl, hg, fun j hj => ?_⟩
  rw [List.length_set] at hj
  have h1 := hc j hj
  rw [heap_cell hb] at h1
  rw [heap_cell (heap_set hb _), Array.getElem?_setIfInBounds, List.getElem_set]
  have hlt : off + j < c.size := (Array.getElem?_eq_some_iff.1 h1).1
  by_cases e : p = j
  · subst e; rw [if_pos rfl, if_pos rfl, if_pos hlt]
  · rw [if_neg (by omega), if_neg e]; exact h1
/-- the byte of an element -/
def byB (a : Mx.Fe) : UInt8 := UInt8.ofNat a.nat
theorem byB_nat (a : Mx.Fe) : ((byB a).toNat : Int) = fi a := by
  have := a.nat_lt
  unfold byB fi; rw [UInt8.toNat_ofNat', Nat.mod_eq_of_lt this]
theorem fi_feB (c : UInt8) : fi (feB c) = (c.toNat : Int) := rfl
theorem byB_turns (c : UInt8) {k : Nat} (hk : k < 8) : byB (feB c + bitK k) ≠ c := fun e => by
  have h1 := byB_nat (feB c + bitK k)
  rw [e, ← fi_feB] at h1
  exact bitK_turns (feB c) hk (fi_eq h1.symm)
theorem mod_of {N : Nat} (h0 : 0 < N) (q : Nat) : ∃ p : Nat, p < N ∧ ((q : Int)).tmod (N : Int) = (p : Int) :=
  ⟨q % N, Nat.mod_lt _ h0, by rw [Int.tmod_eq_emod_of_nonneg (by omega)]; exact (Int.natCast_emod q N).symm⟩
set_option maxHeartbeats 1000000 in
theorem turned_no (k l n : Int) (A : Option Addr) (s : Tx) (m C : Nat) (G : Nat → Prop) (at_ bit cut : Int) (w : World) (hm : m = s.length) (hA : A = none → m = 0 ∧ C = 0) (hr : RdL w A s G) (h : Fm.err ⟨k, l, n, s⟩ ≠ 0 ∨ at_ < 0 ∨ cut < 0) :
    Calls Try.prog 4 #[.agg #[.int .i64 k, .int .i64 l, .int .i64 n, .slice A m C], .int .i64 at_, .int .i64 bit, .int .i64 cut] w (AnsB9 true w) := by
  obtain ⟨wa, hwa⟩ : ∃ wa, wa = w.alloc (unitObj k l n A m C) := ⟨_, rfl⟩
  have HB0 : Hid (Below w.heap.size w wa) := Lib.hid (by rw [hwa]; exact (Below.refl _ _).alloc (Nat.le_refl _) _)
  have HU0 : Hid (wa.heap[w.heap.size]? = some (unitObj k l n A m C)) := Lib.hid (by rw [hwa]; exact Go.Deep.blk_alloc_new _ _)
  have HR0 : Hid (RdL wa A s G) := Lib.hid (hr.old HB0.out)
  have HW := Lib.hid hwa
  unfold unitObj at HW
  have HM := Lib.hid hm
  have HA := Lib.hid hA
  clear hwa hm hA hr
  obtain ⟨er, her⟩ : ∃ er, er = Fm.err ⟨k, l, n, s⟩ := ⟨_, rfl⟩
  obtain ⟨x, hx⟩ : ∃ x, x = Fm.put ⟨k, l, n, s⟩ := ⟨_, rfl⟩
  have HE := Lib.hid her
  have HX := Lib.hid hx
  rw [← her] at h
  have hq : ((er == 0) = false ∧ (er != 0) = true) ∨ ((er == 0) = true ∧ er = 0 ∧ decide (at_ < 0) = true) ∨ ((er == 0) = true ∧ er = 0 ∧ decide (at_ < 0) = false ∧ decide (cut < 0) = true) := by
    simp only [decide_eq_true_eq, decide_eq_false_iff_not, beq_eq_false_iff_ne, bne_iff_ne, ne_eq, beq_iff_eq]; omega
  clear h her hx
  rcases hq with ⟨q1, q2⟩ | ⟨q1, rfl, q2⟩ | ⟨q1, rfl, q2, q3⟩
  all_goals
    go_enter Try.func4, Try.ntmps4
    go_wp2_with fail
    rw [← HW.out]
    refine (alive9_true wa).mono ?_
    rintro e w1 ⟨rfl, hb1⟩
    have HU1 := Lib.hid (below_unit hb1 HU0.out)
    have HR1 := Lib.hid (HR0.out.old hb1)
    have HB1 := Lib.hid (HB0.out.trans (hb1.mono HB0.out.size))
    clear hb1
    obtain ⟨a0, a1, a2, a3⟩ := unit4 HU1.out
    go_wp2_with fail
    have hp := refPut_any k l n A s m C _ w1 HM.out HA.out HR1.out
    unfold PutU at hp
    rw [← HE.out, ← HX.out] at hp
    refine hp.mono ?_
    clear hp
    rintro e w2 ⟨A2, n2, C2, rfl, hn2, hc2, hC2m, hz2, hr2, hb2⟩
    have HB2 := Lib.hid (HB1.out.trans (hb2.mono HB1.out.size))
    have HX2 := Lib.hid hr2
    have HN2 := Lib.hid hn2
    clear hb2 hr2 hn2 a0 a1 a2 a3
    go_wp2
    go_ret
    exact ⟨rfl, HB2.out⟩
set_option maxHeartbeats 4000000 in
theorem turned_main (k l n : Int) (A : Option Addr) (s : Tx) (m C : Nat) (G : Nat → Prop) (at_ bit cut : Int) (w : World) (hm : m = s.length) (hA : A = none → m = 0 ∧ C = 0) (hr : RdL w A s G) (hat : at_ ≤ 9223372036854775807) (hcut : cut ≤ 9223372036854775807) (h : Fm.Ok ⟨k, l, n, s⟩) (h0 : 0 ≤ at_) (h1 : 0 ≤ cut) :
    Calls Try.prog 4 #[.agg #[.int .i64 k, .int .i64 l, .int .i64 n, .slice A m C], .int .i64 at_, .int .i64 bit, .int .i64 cut] w (AnsB9 true w) := by
  obtain ⟨wa, hwa⟩ : ∃ wa, wa = w.alloc (unitObj k l n A m C) := ⟨_, rfl⟩
  have HB0 : Hid (Below w.heap.size w wa) := Lib.hid (by rw [hwa]; exact (Below.refl _ _).alloc (Nat.le_refl _) _)
  have HU0 : Hid (wa.heap[w.heap.size]? = some (unitObj k l n A m C)) := Lib.hid (by rw [hwa]; exact Go.Deep.blk_alloc_new _ _)
  have HR0 : Hid (RdL wa A s G) := Lib.hid (hr.old HB0.out)
  have HW := Lib.hid hwa
  unfold unitObj at HW
  have HM := Lib.hid hm
  have HA := Lib.hid hA
  clear hwa hm hA hr
  obtain ⟨er, her⟩ : ∃ er, er = Fm.err ⟨k, l, n, s⟩ := ⟨_, rfl⟩
  obtain ⟨x, hx⟩ : ∃ x, x = Fm.put ⟨k, l, n, s⟩ := ⟨_, rfl⟩
  have HE := Lib.hid her
  have HX := Lib.hid hx
  have hxb : x = Fm.blk ⟨k, l, n, s⟩ := by rw [hx, Fm.put_ok h]
  have hgood : Fm.Good x := by rw [hxb]; exact Fm.good_blk h
  have hE0 : er = 0 := by rw [her]; exact Fm.err_ok h
  subst hE0
  obtain ⟨N, hN⟩ : ∃ N, N = x.length := ⟨_, rfl⟩
  have hN1 : 79 ≤ N := by rw [hN]; exact Fm.good_ge hgood
  have hN2 : N ≤ 94 := by rw [hN]; exact Fm.good_le hgood
  obtain ⟨qa, rfl⟩ := Int.eq_ofNat_of_zero_le h0
  obtain ⟨qc, rfl⟩ := Int.eq_ofNat_of_zero_le h1
  obtain ⟨p, hp, em⟩ := mod_of (N := N) (by omega) qa
  obtain ⟨c, hc, ec⟩ := mod_of (N := N) (by omega) qc
  obtain ⟨kb, hkb, ekb⟩ := bit7 bit
  have HG := Lib.hid hgood
  have HN := Lib.hid hN
  have HEM := Lib.hid em
  have HEC := Lib.hid ec
  have HEK := Lib.hid ekb
  have q1 : decide ((qa : Int) < 0) = false := decide_eq_false (by omega)
  have q2 : decide ((qc : Int) < 0) = false := decide_eq_false (by omega)
  clear h her hx hxb hgood hN em ec ekb h0 h1
  go_enter Try.func4, Try.ntmps4
  go_wp2_with fail
  rw [← HW.out]
  refine (alive9_true wa).mono ?_
  rintro e w1 ⟨rfl, hb1⟩
  have HU1 := Lib.hid (below_unit hb1 HU0.out)
  have HR1 := Lib.hid (HR0.out.old hb1)
  have HB1 := Lib.hid (HB0.out.trans (hb1.mono HB0.out.size))
  clear hb1
  obtain ⟨a0, a1, a2, a3⟩ := unit4 HU1.out
  go_wp2_with fail
  have hp := refPut_any k l n A s m C _ w1 HM.out HA.out HR1.out
  unfold PutU at hp
  rw [← HE.out, ← HX.out] at hp
  refine hp.mono ?_
  clear hp
  rintro e w2 ⟨A2, n2, C2, rfl, hn2, hc2, hC2m, hz2, hr2, hb2⟩
  have HB2 := Lib.hid (HB1.out.trans (hb2.mono HB1.out.size))
  have HX2 := Lib.hid hr2
  have HN2 := Lib.hid hn2
  rw [← HN.out] at hn2
  subst hn2
  have HC2 := Lib.hid hc2
  have HCM := Lib.hid hC2m
  clear HN2 hb2 hr2 hc2 hC2m hz2 a0 a1 a2 a3
  obtain ⟨g2, o2, rfl, hg2, hcs2⟩ := HX2.out (by have := HN.out; omega)
  obtain ⟨A4, C4, w4, hr4, hO4, hG4⟩ := ap_run w2 w2.heap.size (.slice none 0 0) [] (OwnL.nil _ _) (some ⟨g2, o2, none⟩) n2 C2 x _ HN.out.symm (fun h => by cases h) HX2.out (by simp; omega) (Nat.le_refl _) n2 (by simp)
  rw [List.nil_append] at hO4
  have hb4 : Below w2.heap.size w2 w4 := ⟨hG4.os, hG4.tape, hG4.output, hG4.size, fun y hy => hG4.block y hy (fun e => by cases e)⟩
  have hr4' := hr4
  obtain ⟨X4, D4, e4, g1, -, g3, g4⟩ := hO4.rd
  injection e4 with x1 x2 x3
  subst x1 x3
  obtain ⟨g, off, rfl, ⟨hlo, hblk⟩, hcs⟩ := g4 (by have := HN.out; omega)
  obtain ⟨cc, hbk⟩ := hO4.block g hblk
  have hpx : p < x.length := by have := HN.out; omega
  have hcell : w4.cell? ⟨g, off + p, none⟩ = some (.int .u8 (fi (feB x[p]))) := hcs p hpx
  have hfr : w4.frozen? ⟨g, off + p, none⟩ = false := heap_frozen hbk
  have hrd := rd_set (p := p) (y := byB (feB x[p] + bitK kb)) hbk g4
  rw [byB_nat] at hrd
  have HT := Lib.hid (Fm.turn_no HG.out hpx (byB_turns x[p] hkb))
  obtain ⟨fe, hfe⟩ : ∃ fe, fe = feB x[p] := ⟨_, rfl⟩
  rw [← hfe] at hcell hrd HT
  obtain ⟨y, hy⟩ : ∃ y, y = x.set p (byB (fe + bitK kb)) := ⟨_, rfl⟩
  rw [← hy] at hrd HT
  have hyl : n2 = y.length := by rw [hy, List.length_set]; exact HN.out
  have HYL := Lib.hid hyl
  have HRD := Lib.hid hrd
  have HLO := Lib.hid hlo
  have HG1 := Lib.hid (show n2 ≤ C4 by rw [HN.out]; exact g1)
  have HB4 := Lib.hid (HB2.out.trans (hb4.mono HB2.out.size))
  have HX4 := Lib.hid (HX2.out.old hb4)
  have HZ2 := Lib.hid HB2.out.size
  have HLT4 := Lib.hid (show g < w4.heap.size from heap_lt hbk)
  have HX24 : Hid (RdL w4 (some ⟨g2, o2, none⟩) x (· < w2.heap.size)) := Lib.hid ((HX2.out.in_.old hb4).mono fun _ h => h.2)
  clear hb4 hO4 hG4 g1 g3 g4 x2 hcs hbk hblk hcs2 hg2 hr4' hpx hfe hy hyl hrd hlo
  have hnz : ¬ n2 = 0 := by omega
  have hz' : ((n2 : Int) == 0) = false := by simp; omega
  have em := HEM.out
  have ec := HEC.out
  have ek := HEK.out
  have ewp : IntKind.i64.wrap (p : Int) = (p : Int) := IntWalk.i64_in _ (by omega)
  have ewc : IntKind.i64.wrap (c : Int) = (c : Int) := IntWalk.i64_in _ (by omega)
  have ew : IntKind.u64.wrap (kb : Int) = (kb : Int) := by simp [IntKind.wrap, IntKind.bits, IntKind.signed]; omega
  go_wp2_with (at_builtin; refine Lib.wpList_append_run _ rfl _ _ _ _ rfl _ _ rfl rfl _ _ (hr4 _) ?_)
  refine wp_region_still_tail 18 (by kernel_rfl) (by kernel_rfl) ?_
  simp only [List.take_succ_cons, List.take_zero, List.drop_succ_cons, List.drop_zero]
  repeat still_step
  refine wpStill_nil ?_
  change wpList _ _ _ _ _ w4.drew
  go_wp2_with fail
  rw [turn_bit]
  have hgB : w.heap.size ≤ g := Nat.le_trans HZ2.out HLO.out
  obtain ⟨w5, hw5⟩ : ∃ w5, w5 = (w4.setCell ⟨g, off + p, none⟩ (.int .u8 (fi (fe + bitK kb)))).drew := ⟨_, rfl⟩
  have HR5 : Hid (RdL w5 (some ⟨g, off, none⟩) y (fun _ => True)) := Lib.hid (by rw [hw5]; exact (HRD.out.keep fun _ _ _ h => h).mono fun _ _ => trivial)
  have HB5 : Hid (Below w.heap.size w w5) := Lib.hid (by rw [hw5]; exact (HB4.out.setCell (p := ⟨g, off + p, none⟩) hgB _).drew)
  have HX5 : Hid (RdL w5 (some ⟨g2, o2, none⟩) x (· < w2.heap.size)) := Lib.hid (by rw [hw5]; exact HX24.out.kp (Kp.store w4 g (off + p) _).drew (fun b hb e => by have := HLO.out; omega))
  rw [← hw5]
  have hget := frameGet_any (some ⟨g, off, none⟩) y n2 C4 _ w5 HYL.out HG1.out (by omega) (fun h => by cases h) HR5.out
  unfold GotU at hget
  rw [Fm.got_no HT.out, Fm.gotE_no HT.out] at hget
  have HGET := Lib.hid hget
  clear hget hw5 hcell hfr em ek ew ewp HRD HX24 HX4 HB4 hr4
  refine HGET.out.mono ?_
  rintro e w6 ⟨A6, m6, C6, rfl, -, -, -, -, hb6⟩
  have hb6' : Below w5.heap.size w5 (w6.alloc (unitObj Fm.zero.kind Fm.zero.label Fm.zero.number A6 m6 C6)) := hb6.alloc hb6.size _
  have HX6 := Lib.hid (HX5.out.old hb6')
  have HB6 := Lib.hid (HB5.out.trans (hb6'.mono HB5.out.size))
  have hnt := Fm.cut_no HG.out (n := c) (by have := HN.out; omega)
  have hcl : c = (x.take c).length := by rw [List.length_take, ← HN.out]; omega
  have hqc : c ≤ C2 := by have := HC2.out; omega
  have hget := frameGet_any (some ⟨g2, o2, none⟩) (x.take c) c C2 _ (w6.alloc (unitObj Fm.zero.kind Fm.zero.label Fm.zero.number A6 m6 C6)) hcl hqc (by omega) (fun h => by cases h) (HX6.out.take c)
  unfold GotU at hget
  rw [Fm.got_no hnt, Fm.gotE_no hnt] at hget
  have HGET2 := Lib.hid hget
  clear hget hnt hcl hb6 hb6'
  go_wp2_with fail
  refine HGET2.out.mono ?_
  rintro e w7 ⟨A7, m7, C7, rfl, -, -, -, -, hb7⟩
  obtain ⟨w8, hw8⟩ : ∃ w8, w8 = w7.alloc (unitObj Fm.zero.kind Fm.zero.label Fm.zero.number A7 m7 C7) := ⟨_, rfl⟩
  have hb8 : Below (w6.alloc (unitObj Fm.zero.kind Fm.zero.label Fm.zero.number A6 m6 C6)).heap.size (w6.alloc (unitObj Fm.zero.kind Fm.zero.label Fm.zero.number A6 m6 C6)) w8 := by rw [hw8]; exact hb7.alloc hb7.size _
  have HX8 := Lib.hid (HX6.out.old hb8)
  have HB8 := Lib.hid (HB6.out.trans (hb8.mono HB6.out.size))
  obtain ⟨A9, C9, w9, hr9, hO9, hG9⟩ := ap_run w8 w8.heap.size (.slice none 0 0) [] (OwnL.nil _ _) (some ⟨g2, o2, none⟩) n2 C2 x _ HN.out.symm (fun h => by cases h) HX8.out (by simp; omega) (Nat.le_refl _) n2 (by simp)
  have hb9 : Below w8.heap.size w8 w9 := ⟨hG9.os, hG9.tape, hG9.output, hG9.size, fun y hy => hG9.block y hy (fun e => by cases e)⟩
  obtain ⟨w10, hw10⟩ : ∃ w10, w10 = w9.alloc (.cells #[.int .u8 0] 5) := ⟨_, rfl⟩
  have hO10 : OwnL w10 w8.heap.size (.slice A9 n2 C9) ([] ++ x) := by rw [hw10]; exact hO9.alloc _
  have hb10 : Below w8.heap.size w8 w10 := by rw [hw10]; exact hb9.alloc hb9.size _
  have hlit : RdL w10 (some ⟨w9.heap.size, 0, none⟩) [0] (· = w9.heap.size) := by
    rw [hw10]; exact rd_of_cells (l := [0]) (fr := (0, 0)) (Go.Deep.blk_alloc_new _ _)
  obtain ⟨A11, C11, w11, hr11, hO11, hG11⟩ := ap_run w10 w8.heap.size _ _ hO10 (some ⟨w9.heap.size, 0, none⟩) 1 1 [0] _ rfl (fun h => by cases h) hlit (by have := HN.out; simp; omega) hb10.size (n2 + 1) (by have := HN.out; simp; omega)
  rw [List.nil_append] at hO11
  have hb11 : Below w8.heap.size w8 w11 := hb10.grown hG11 hb10.size (fun y hy => hO10.lo y hy)
  obtain ⟨X11, D11, e11, f1, -, f3, f4⟩ := hO11.rd
  injection e11 with x1 x2 x3
  subst x1 x3
  have hmo := Fm.more_no HG.out 0
  have hlen : n2 + 1 = (x ++ [0]).length := by rw [List.length_append, ← HN.out]; rfl
  rw [← hlen] at f1 f3
  have hget := frameGet_any A11 (x ++ [0]) (n2 + 1) C11 _ w11 hlen f1 (by omega) f3 f4
  unfold GotU at hget
  rw [Fm.got_no hmo, Fm.gotE_no hmo] at hget
  have HGET3 := Lib.hid hget
  have HB11 := Lib.hid (HB8.out.trans (hb11.mono HB8.out.size))
  rw [hw8] at hr9
  rw [hw10] at hr11
  unfold unitObj at hr9
  clear hget hmo hlen f1 f3 f4 x2 hO11 hG11 hlit hO10 hb10 hb9 hO9 hG9 hb8 hb7 hw8 hw10 hb11
  go_wp2_with (at_builtin; refine Lib.wpList_append_run _ rfl _ _ _ _ rfl _ _ rfl rfl _ _ (hr9 _) ?_; clear hr9; go_wp2_with (at_builtin; refine Lib.wpList_append_run _ rfl _ _ _ _ rfl _ _ rfl rfl _ _ (hr11 _) ?_))
  refine HGET3.out.mono ?_
  rintro e w12 ⟨A12, m12, C12, rfl, -, -, -, -, hb12⟩
  have HB12 := Lib.hid ((HB11.out.trans (hb12.mono HB11.out.size)).alloc (HB11.out.trans (hb12.mono HB11.out.size)).size (unitObj Fm.zero.kind Fm.zero.label Fm.zero.number A12 m12 C12))
  clear hb12
  go_wp2_with (go_at_call 12; refine (num9 _ _).mono ?_; rintro e w' ⟨rfl, hw'⟩; subst hw')
  go_ret
  exact ⟨rfl, HB12.out⟩
theorem turned_any (k l n : Int) (A : Option Addr) (s : Tx) (m C : Nat) (G : Nat → Prop) (at_ bit cut : Int) (w : World) (hm : m = s.length) (hA : A = none → m = 0 ∧ C = 0) (hr : RdL w A s G) (hat : at_ ≤ 9223372036854775807) (hcut : cut ≤ 9223372036854775807) :
    Calls Try.prog 4 #[.agg #[.int .i64 k, .int .i64 l, .int .i64 n, .slice A m C], .int .i64 at_, .int .i64 bit, .int .i64 cut] w (AnsB9 true w) := by
  by_cases h : Fm.err ⟨k, l, n, s⟩ ≠ 0 ∨ at_ < 0 ∨ cut < 0
  · exact turned_no k l n A s m C G at_ bit cut w hm hA hr h
  · have h' : Fm.err ⟨k, l, n, s⟩ = 0 ∧ 0 ≤ at_ ∧ 0 ≤ cut := by omega
    exact turned_main k l n A s m C G at_ bit cut w hm hA hr hat hcut (Fm.err_zero.1 h'.1) h'.2.1 h'.2.2
end Go.Proofs.Ytmonhgefmapiaaa
