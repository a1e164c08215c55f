/- What RecordTorn answers: true. -/
import Derived.Test.YtdllkbjbklhigaaDoorRcAlive
import Derived.Test.YtdllkbjbklhigaaDoorRefRcRight
import Derived.Test.YtdllkbjbklhigaaDoorRefScRight
import Derived.Test.YtdllkbjbklhigaaDoorScRead
import Derived.Test.YtdllkbjbklhigaaDoorFmStep
namespace Go.Proofs.YtdllkbjbklhigaaDoor
open Go.RowKit
open Pt (Tx)

/-- append(append([]byte(nil), x...), 0) -/
theorem ap0_run (w : World) (A : Option Addr) (m c : Nat) (X : Tx) (G : Nat → Prop) (hm : m = X.length) (hA : A = none → m = 0 ∧ c = 0) (hr : RdL w A X G) (hb : m ≤ 1000) :
    ∃ A4 C4 w4 A5 C5 w5, (∀ ty, (Builtin.append_ #[24, 24] ty #[.slice none 0 0, .slice A m c]).run Tryd.prog w = .ok (.slice A4 m C4) w4)
      ∧ (∀ ty, (Builtin.append_ #[24, 24] ty #[.slice A4 m C4, .slice (some ⟨w4.heap.size, 0, none⟩) 1 1]).run Tryd.prog (w4.alloc (.cells #[.int .u8 0] 5)) = .ok (.slice A5 (m + 1) C5) w5)
      ∧ m + 1 ≤ C5 ∧ (A5 = none → m + 1 = 0 ∧ C5 = 0) ∧ RdL w5 A5 (X ++ [0]) (fun _ => True) ∧ Below w.heap.size w w5 := by
  obtain ⟨A4, C4, w4, hr4, hO4, hG4⟩ := ap_run w w.heap.size (.slice none 0 0) [] (OwnL.nil _ _) A m c X G hm.symm hA hr (by simp; omega) (Nat.le_refl _) m (by simp)
  rw [List.nil_append] at hO4
  have hb4 : Below w.heap.size w w4 := ⟨hG4.os, hG4.tape, hG4.output, hG4.size, fun y hy => hG4.block y hy (fun e => by cases e)⟩
  have hba : Below w4.heap.size w4 (w4.alloc (.cells #[.int .u8 0] 5)) := (Below.refl _ _).alloc (Nat.le_refl _) _
  have ho : OwnL (w4.alloc (.cells #[.int .u8 0] 5)) w.heap.size (.slice A4 m C4) X := hO4.alloc _
  have hrd : RdL (w4.alloc (.cells #[.int .u8 0] 5)) (some ⟨w4.heap.size, 0, none⟩) [0] (· = w4.heap.size) := rd_of_cells (l := [0]) (fr := (0, 0)) (by
    refine (Go.Deep.blk_alloc_new w4 _).trans ?_
    simp [cellsL])
  obtain ⟨A5, C5, w5, hr5, hO5, hG5⟩ := ap_run _ w.heap.size _ X ho (some ⟨w4.heap.size, 0, none⟩) 1 1 [0] _ rfl (fun h => by cases h) hrd (by omega) (Nat.le_trans hb4.size hba.size) (m + 1) (by omega)
  obtain ⟨A6, C6, e6, g1, -, g3, g4⟩ := hO5.rd
  injection e6 with x1 x2 x3
  subst x1 x3
  rw [← x2] at g1 g3
  refine ⟨A4, C4, w4, A5, C5, w5, hr4, hr5, g1, g3, g4.mono (fun _ _ => trivial), ?_⟩
  have hb5 : Below w.heap.size w (w4.alloc (.cells #[.int .u8 0] 5)) := hb4.alloc hb4.size _
  exact hb5.grown hG5 hb5.size (fun y hy => ho.lo y hy)
/-- what the walk needs of the two things that came in -/
structure Torn (w : World) (o o' : Obj) (A : Option Addr) (lb : List Int) (F : Nat → Prop) (x : World) : Prop where
  st : x.heap[w.heap.size]? = some o ∧ x.heap[w.heap.size + 1]? = some o' ∧ Below w.heap.size w x
  rz : RdZ x A lb F
  kp : Kept x
theorem Torn.old {w : World} {o o' : Obj} {A : Option Addr} {lb : List Int} {F : Nat → Prop} {x y : World} (h : Torn w o o' A lb F x) (hb : Below x.heap.size x y) : Torn w o o' A lb F y :=
  ⟨⟨below_obj hb h.st.1, below_obj hb h.st.2.1, h.st.2.2.trans (hb.mono h.st.2.2.size)⟩, h.rz.old hb, h.kp.old hb⟩
theorem Torn.start {w : World} (o o' : Obj) {A : Option Addr} {lb : List Int} {F : Nat → Prop} (hr : RdZ w A lb F) (hk : Kept w) : Torn w o o' A lb F ((w.alloc o).alloc o') := by
  have hb : Below w.heap.size w ((w.alloc o).alloc o') := ((Below.refl _ _).alloc (Nat.le_refl _) _).alloc (by simp) _
  refine ⟨⟨(Below.heap_alloc _ _ _ (by simp)).trans (Go.Deep.blk_alloc_new _ _), ?_, hb⟩, hr.old hb, hk.old hb⟩
  have := Go.Deep.blk_alloc_new (w.alloc o) o'
  simpa using this
set_option maxHeartbeats 4000000 in
theorem torn_out (p : Tx) (v z f l s u : Int) (g : Bool) (n i d q : Int) (A : Option Addr) (lb : List Int) (m C : Nat) (F : Nat → Prop) (k : Int) (w : World) (hk : Kept w) (hl : p.length ≤ maxLen) (hm : m = lb.length) (hC : m ≤ C) (hCm : C ≤ maxLen) (hr : RdZ w A lb F) (h : ¬ Rc.Ok ⟨p, v, z, f, l, s, u, g⟩ ∨ ¬ Rc.SOk ⟨n, i, d, q, lb⟩ ∨ k < 0) :
    Calls Tryd.prog 6 #[.agg #[.string (tx p), .int .i64 v, .int .i64 z, .int .i64 f, .int .i64 l, .int .i64 s, .int .i64 u, .bool g], .agg #[.int .i64 n, .int .i64 i, .int .i64 d, .int .i64 q, .slice A m C], .int .i64 k] w (AnsB true w) := by
  obtain ⟨wa, hwa⟩ : ∃ wa, wa = (w.alloc (headObj p v z f l s u g)).alloc (sealObj n i d q A m C) := ⟨_, rfl⟩
  have HT0 : Hid (Torn w (headObj p v z f l s u g) (sealObj n i d q A m C) A lb F wa) := Lib.hid (by rw [hwa]; exact Torn.start _ _ hr hk)
  have HW := Lib.hid hwa
  unfold headObj sealObj at HW
  have HPL := Lib.hid hl
  have HM := Lib.hid hm
  have HC := Lib.hid hC
  have HCm := Lib.hid hCm
  obtain ⟨ok, hok⟩ : ∃ ok, ok = decide (Rc.Ok ⟨p, v, z, f, l, s, u, g⟩) := ⟨_, rfl⟩
  obtain ⟨ok2, hok2⟩ : ∃ ok2, ok2 = decide (Rc.SOk ⟨n, i, d, q, lb⟩) := ⟨_, rfl⟩
  have hways : ok = false ∨ (ok = true ∧ ok2 = false) ∨ (ok = true ∧ ok2 = true ∧ decide (k < 0) = true) := by
    by_cases h1 : Rc.Ok ⟨p, v, z, f, l, s, u, g⟩
    · by_cases h2 : Rc.SOk ⟨n, i, d, q, lb⟩
      · exact .inr (.inr ⟨by rw [hok, decide_eq_true h1], by rw [hok2, decide_eq_true h2], decide_eq_true ((h.resolve_left (fun h => h h1)).resolve_left (fun h => h h2))⟩)
      · exact .inr (.inl ⟨by rw [hok, decide_eq_true h1], by rw [hok2, decide_eq_false h2]⟩)
    · exact .inl (by rw [hok, decide_eq_false h1])
  have HOK := Lib.hid hok
  have HOK2 := Lib.hid hok2
  clear hwa hk hl hm hC hCm hr h hok hok2
  rcases hways with rfl | ⟨rfl, rfl⟩ | ⟨rfl, rfl, q1⟩
  all_goals
    go_enter Tryd.func6, Tryd.ntmps6
    go_wp2_with fail
    rw [← HW.out]
    refine (alive10_true wa HT0.out.kp).mono ?_
    rintro e w1 ⟨rfl, hb1⟩
    have HT1 := Lib.hid (HT0.out.old hb1)
    clear hb1
    obtain ⟨a0, a1, a2, a3, a4, a5, a6, a7⟩ := head8 HT1.out.st.1
    go_wp2_with fail
    have hcall := refRightHead_any p v z f l s u g w1 HPL.out
    rw [← HOK.out] at hcall
    refine hcall.mono ?_
    clear hcall
    rintro e w2 ⟨rfl, hb2⟩
    have HT2 := Lib.hid (HT1.out.old hb2)
    clear hb2 a0 a1 a2 a3 a4 a5 a6 a7
    obtain ⟨b0, b1, b2, b3, b4⟩ := seal5 HT2.out.st.2.1
    have hcall := refRightSeal_any n i d q A lb m C F w2 HM.out HC.out HCm.out HT2.out.rz
    rw [← HOK2.out] at hcall
    have HCL := Lib.hid hcall
    clear hcall
    go_wp2_with (go_at_call 15; refine HCL.out.mono ?_; rintro e w3 ⟨rfl, hb3⟩; have HT3 := Lib.hid (HT2.out.old hb3); clear hb3)
    go_ret
    first | exact ⟨rfl, HT3.out.st.2.2⟩ | exact ⟨rfl, HT2.out.st.2.2⟩
set_option maxRecDepth 100000 in
set_option maxHeartbeats 8000000 in
theorem torn_in (p : Tx) (v z f l s u : Int) (g : Bool) (n i d q : Int) (A : Option Addr) (lb : List Int) (m C : Nat) (F : Nat → Prop) (k : Nat) (w : World) (hk : Kept w) (hl : p.length ≤ maxLen) (hm : m = lb.length) (hC : m ≤ C) (hCm : C ≤ maxLen) (hr : RdZ w A lb F) (ho : Rc.Ok ⟨p, v, z, f, l, s, u, g⟩) (ho2 : Rc.SOk ⟨n, i, d, q, lb⟩) :
    Calls Tryd.prog 6 #[.agg #[.string (tx p), .int .i64 v, .int .i64 z, .int .i64 f, .int .i64 l, .int .i64 s, .int .i64 u, .bool g], .agg #[.int .i64 n, .int .i64 i, .int .i64 d, .int .i64 q, .slice A m C], .int .i64 (k : Int)] w (AnsB true w) := by
  obtain ⟨wa, hwa⟩ : ∃ wa, wa = (w.alloc (headObj p v z f l s u g)).alloc (sealObj n i d q A m C) := ⟨_, rfl⟩
  have HT0 : Hid (Torn w (headObj p v z f l s u g) (sealObj n i d q A m C) A lb F wa) := Lib.hid (by rw [hwa]; exact Torn.start _ _ hr hk)
  have HW := Lib.hid hwa
  unfold headObj sealObj at HW
  have HPL := Lib.hid hl
  have HM := Lib.hid hm
  have HC := Lib.hid hC
  have HCm := Lib.hid hCm
  obtain ⟨X, hX⟩ : ∃ X, X = Rc.blk ⟨p, v, z, f, l, s, u, g⟩ := ⟨_, rfl⟩
  obtain ⟨Y, hY⟩ : ∃ Y, Y = Rc.sblk ⟨n, i, d, q, lb⟩ := ⟨_, rfl⟩
  have hgX : Rc.Good X := by rw [hX]; exact Rc.good_blk ho
  have hgY : Rc.SGood Y := by rw [hY]; exact Rc.sgood_blk ho2
  have hX0 := Rc.good_ge hgX
  have hY0 := Rc.sgood_ge hgY
  have hX1 : X.length ≤ 50 := by have := Rc.put_le ⟨p, v, z, f, l, s, u, g⟩; rw [Rc.put_ok ho, ← hX] at this; exact this
  have hY1 : Y.length ≤ 63 := by have := Rc.sput_le ⟨n, i, d, q, lb⟩; rw [Rc.sput_ok ho2, ← hY] at this; exact this
  have HPX : Hid (Rc.put ⟨p, v, z, f, l, s, u, g⟩ = X) := Lib.hid (by rw [hX]; exact Rc.put_ok ho)
  have HPY : Hid (Rc.sput ⟨n, i, d, q, lb⟩ = Y) := Lib.hid (by rw [hY]; exact Rc.sput_ok ho2)
  have HGX := Lib.hid hgX
  have HGY := Lib.hid hgY
  have HO : Hid (decide (Rc.Ok ⟨p, v, z, f, l, s, u, g⟩) = true) := Lib.hid (decide_eq_true ho)
  have HO2 : Hid (decide (Rc.SOk ⟨n, i, d, q, lb⟩) = true) := Lib.hid (decide_eq_true ho2)
  have q1 : decide ((k : Int) < 0) = false := decide_eq_false (by omega)
  obtain ⟨xl, hxl⟩ : ∃ xl, xl = X.length := ⟨_, rfl⟩
  obtain ⟨yl, hyl⟩ : ∃ yl, yl = Y.length := ⟨_, rfl⟩
  rw [← hxl] at hX0 hX1
  rw [← hyl] at hY0 hY1
  have HXL := Lib.hid hxl
  have HYL := Lib.hid hyl
  obtain ⟨xk, hxk⟩ : ∃ xk, xk = k % xl := ⟨_, rfl⟩
  obtain ⟨yk, hyk⟩ : ∃ yk, yk = k % yl := ⟨_, rfl⟩
  have hxlt : xk < xl := by rw [hxk]; exact Nat.mod_lt _ (by omega)
  have hylt : yk < yl := by rw [hyk]; exact Nat.mod_lt _ (by omega)
  have exk : (k : Int) % (xl : Int) = (xk : Int) := by rw [hxk]; exact (Int.natCast_emod k xl).symm
  have eyk : (k : Int) % (yl : Int) = (yk : Int) := by rw [hyk]; exact (Int.natCast_emod k yl).symm
  have HEX := Lib.hid exk
  have HEY := Lib.hid eyk
  clear hwa hk hl hm hC hCm hr ho ho2 hX hY hgX hgY hxl hyl hxk hyk exk eyk
  have qx0 : ((xl : Int) == 0) = false := beq_eq_false_iff_ne.2 (by omega)
  have qy0 : ((yl : Int) == 0) = false := beq_eq_false_iff_ne.2 (by omega)
  go_enter Tryd.func6, Tryd.ntmps6
  go_wp2_with fail
  rw [← HW.out]
  refine (alive10_true wa HT0.out.kp).mono ?_
  rintro e w1 ⟨rfl, hb1⟩
  have HT1 := Lib.hid (HT0.out.old hb1)
  clear hb1
  obtain ⟨a0, a1, a2, a3, a4, a5, a6, a7⟩ := head8 HT1.out.st.1
  go_wp2_with fail
  have hcall := refRightHead_any p v z f l s u g w1 HPL.out
  rw [HO.out] at hcall
  refine hcall.mono ?_
  clear hcall
  rintro e w2 ⟨rfl, hb2⟩
  have HT2 := Lib.hid (HT1.out.old hb2)
  clear hb2 a0 a1 a2 a3 a4 a5 a6 a7
  obtain ⟨b0, b1, b2, b3, b4⟩ := seal5 HT2.out.st.2.1
  have hcall := refRightSeal_any n i d q A lb m C F w2 HM.out HC.out HCm.out HT2.out.rz
  rw [HO2.out] at hcall
  have HCL := Lib.hid hcall
  clear hcall
  go_wp2_with fail
  refine HCL.out.mono ?_
  rintro e w3 ⟨rfl, hb3⟩
  have HT3 := Lib.hid (HT2.out.old hb3)
  clear hb3 b0 b1 b2 b3 b4
  obtain ⟨a0, a1, a2, a3, a4, a5, a6, a7⟩ := head8 HT3.out.st.1
  go_wp2_with fail
  have hcall := headBytes_any p v z f l s u g w3 HPL.out HT3.out.kp
  rw [HPX.out] at hcall
  refine hcall.mono ?_
  clear hcall
  rintro e w4 ⟨Ax, nx, Cx, rfl, hnx, hcx, hmx, hzx, hrx, hb4⟩
  have hnx' : nx = xl := hnx.trans HXL.out.symm
  subst hnx'
  obtain ⟨bx, ox, rfl, -, -⟩ := hrx (by rw [← hnx]; omega)
  have HT4 := Lib.hid (HT3.out.old hb4)
  have HX4 : Hid (RdL w4 (some ⟨bx, ox, none⟩) X (fun _ => True)) := Lib.hid (hrx.mono fun _ _ => trivial)
  have HCX := Lib.hid hmx
  clear hb4 hnx hmx hzx hrx a0 a1 a2 a3 a4 a5 a6 a7
  obtain ⟨b0, b1, b2, b3, b4⟩ := seal5 HT4.out.st.2.1
  go_wp2_with fail
  have hcall := sealBytes_any n i d q A lb m C F w4 HM.out HC.out HCm.out HT4.out.rz
  rw [HPY.out] at hcall
  refine hcall.mono ?_
  clear hcall
  rintro e w5 ⟨Ay, ny, Cy, rfl, hny, hcy, hmy, hzy, hry, hb5⟩
  have hny' : ny = yl := hny.trans HYL.out.symm
  subst hny'
  obtain ⟨by_, oy, rfl, -, -⟩ := hry (by rw [← hny]; omega)
  have HT5 := Lib.hid (HT4.out.old hb5)
  have HX5 := Lib.hid (HX4.out.old hb5)
  have HY5 : Hid (RdL w5 (some ⟨by_, oy, none⟩) Y (fun _ => True)) := Lib.hid (hry.mono fun _ _ => trivial)
  clear hb5 hny hmy hzy hry b0 b1 b2 b3 b4
  have hex := HEX.out
  have hkx : xk ≤ Cx := by omega
  go_wp2_with fail
  have hcall := readHead_any (some ⟨bx, ox, none⟩) (X.take xk) xk Cx _ w5 (by rw [List.length_take, ← HXL.out]; omega) (by omega) (fun h => by cases h) (HX5.out.take xk) HT5.out.kp
  have hbad : ¬ Rc.Good (X.take xk) := Rc.cut_no HGX.out (by rw [← HXL.out]; exact hxlt)
  unfold GotH at hcall
  rw [Rc.got_no hbad, Rc.gotE_no hbad] at hcall
  refine hcall.mono ?_
  clear hcall hbad
  rintro e w6 ⟨rfl, hb6⟩
  obtain ⟨w7, hw7⟩ : ∃ w7, w7 = w6.alloc (headObj Rc.H.zero.path Rc.H.zero.version Rc.H.zero.size Rc.H.zero.from_ Rc.H.zero.len Rc.H.zero.serial Rc.H.zero.sum Rc.H.zero.gone) := ⟨_, rfl⟩
  have hb7 : Below w5.heap.size w5 w7 := by rw [hw7]; exact hb6.alloc hb6.size _
  have HT7 := Lib.hid (HT5.out.old hb7)
  have HX7 := Lib.hid (HX5.out.old hb7)
  have HY7 := Lib.hid (HY5.out.old hb7)
  obtain ⟨A8, C8, w8, A9, C9, w9, hr8, hr9, hc9, ha9, hrd9, hb9⟩ := ap0_run w7 (some ⟨bx, ox, none⟩) nx Cx X _ HXL.out (fun h => by cases h) HX7.out (by omega)
  have hbad : ¬ Rc.Good (X ++ [0]) := Rc.more_no HGX.out 0
  have HT9 := Lib.hid (HT7.out.old hb9)
  have HY9 := Lib.hid (HY7.out.old hb9)
  have hcall := readHead_any A9 (X ++ [0]) (nx + 1) C9 _ w9 (by rw [List.length_append, ← HXL.out]; rfl) (by omega) ha9 hrd9 HT9.out.kp
  unfold GotH at hcall
  rw [Rc.got_no hbad, Rc.gotE_no hbad] at hcall
  have HC9 := Lib.hid hcall
  have HW7 := Lib.hid hw7
  unfold headObj at HW7
  rw [hw7] at hr8
  unfold headObj at hr8
  clear hex hkx hb6 hb7 hw7 hcall hbad hc9 ha9 hrd9 hb9
  go_wp2_with (at_builtin; refine Lib.wpList_append_run _ rfl _ _ _ _ rfl _ _ rfl rfl _ _ (hr8 _) ?_; clear hr8; go_wp2_with (at_builtin; refine Lib.wpList_append_run _ rfl _ _ _ _ rfl _ _ rfl rfl _ _ (hr9 _) ?_))
  refine HC9.out.mono ?_
  rintro e w10 ⟨rfl, hb10⟩
  obtain ⟨w11, hw11⟩ : ∃ w11, w11 = w10.alloc (headObj Rc.H.zero.path Rc.H.zero.version Rc.H.zero.size Rc.H.zero.from_ Rc.H.zero.len Rc.H.zero.serial Rc.H.zero.sum Rc.H.zero.gone) := ⟨_, rfl⟩
  have hb11 : Below w9.heap.size w9 w11 := by rw [hw11]; exact hb10.alloc hb10.size _
  have HT11 := Lib.hid (HT9.out.old hb11)
  have HY11 := Lib.hid (HY9.out.old hb11)
  have HW11 := Lib.hid hw11
  unfold headObj at HW11
  have hey := HEY.out
  have hky : yk ≤ Cy := by omega
  clear hb10 hb11 hw11 hr9
  go_wp2_with fail
  rw [← HW11.out]
  have hcall := readSeal_any (some ⟨by_, oy, none⟩) (Y.take yk) yk Cy _ w11 (by rw [List.length_take, ← HYL.out]; omega) (by omega) (fun h => by cases h) (HY11.out.take yk)
  have hbad : ¬ Rc.SGood (Y.take yk) := Rc.scut_no HGY.out (by rw [← HYL.out]; exact hylt)
  unfold GotS at hcall
  rw [Rc.sgot_no hbad, Rc.sgotE_no hbad] at hcall
  refine hcall.mono ?_
  clear hcall hbad
  rintro e w12 ⟨A12, m12, C12, rfl, -, -, -, -, -, hb12⟩
  obtain ⟨w13, hw13⟩ : ∃ w13, w13 = w12.alloc (sealObj Rc.S.zero.number Rc.S.zero.index Rc.S.zero.data Rc.S.zero.parity A12 m12 C12) := ⟨_, rfl⟩
  have hb13 : Below w11.heap.size w11 w13 := by rw [hw13]; exact hb12.alloc hb12.size _
  have HT13 := Lib.hid (HT11.out.old hb13)
  have HY13 := Lib.hid (HY11.out.old hb13)
  obtain ⟨A14, C14, w14, A15, C15, w15, hr14, hr15, hc15, ha15, hrd15, hb15⟩ := ap0_run w13 (some ⟨by_, oy, none⟩) ny Cy Y _ HYL.out (fun h => by cases h) HY13.out (by omega)
  have hbad : ¬ Rc.SGood (Y ++ [0]) := Rc.smore_no HGY.out 0
  have HT15 := Lib.hid (HT13.out.old hb15)
  have hcall := readSeal_any A15 (Y ++ [0]) (ny + 1) C15 _ w15 (by rw [List.length_append, ← HYL.out]; rfl) (by omega) ha15 hrd15
  unfold GotS at hcall
  rw [Rc.sgot_no hbad, Rc.sgotE_no hbad] at hcall
  have HC15 := Lib.hid hcall
  rw [hw13] at hr14
  unfold sealObj at hr14
  clear hey hky hb12 hb13 hw13 hcall hbad hc15 ha15 hrd15 hb15
  go_wp2_with (at_builtin; refine Lib.wpList_append_run _ rfl _ _ _ _ rfl _ _ rfl rfl _ _ (hr14 _) ?_; clear hr14; go_wp2_with (at_builtin; refine Lib.wpList_append_run _ rfl _ _ _ _ rfl _ _ rfl rfl _ _ (hr15 _) ?_))
  refine HC15.out.mono ?_
  rintro e w16 ⟨A16, m16, C16, rfl, -, -, -, -, -, hb16⟩
  have HB17 : Hid (∀ o, Below w.heap.size w (w16.alloc o)) := Lib.hid fun o => by
    have h := HT15.out.st.2.2.trans (hb16.mono HT15.out.st.2.2.size)
    exact h.alloc h.size o
  clear hb16 hr15
  go_wp2_with (go_at_call 14; refine (num10 _ _).mono ?_; rintro e w' ⟨rfl, hw'⟩; subst hw')
  go_ret
  exact ⟨rfl, HB17.out _⟩
theorem torn_any (p : Tx) (v z f l s u : Int) (g : Bool) (n i d q : Int) (A : Option Addr) (lb : List Int) (m C : Nat) (F : Nat → Prop) (k : Int) (w : World) (hk : Kept w) (hl : p.length ≤ maxLen) (hm : m = lb.length) (hC : m ≤ C) (hCm : C ≤ maxLen) (hr : RdZ w A lb F) :
    Calls Tryd.prog 6 #[.agg #[.string (tx p), .int .i64 v, .int .i64 z, .int .i64 f, .int .i64 l, .int .i64 s, .int .i64 u, .bool g], .agg #[.int .i64 n, .int .i64 i, .int .i64 d, .int .i64 q, .slice A m C], .int .i64 k] w (AnsB true w) := by
  by_cases h1 : Rc.Ok ⟨p, v, z, f, l, s, u, g⟩
  · by_cases h2 : Rc.SOk ⟨n, i, d, q, lb⟩
    · by_cases h3 : k < 0
      · exact torn_out p v z f l s u g n i d q A lb m C F k w hk hl hm hC hCm hr (.inr (.inr h3))
      · obtain ⟨k', rfl⟩ : ∃ k' : Nat, k = (k' : Int) := ⟨k.toNat, by omega⟩
        exact torn_in p v z f l s u g n i d q A lb m C F k' w hk hl hm hC hCm hr h1 h2
    · exact torn_out p v z f l s u g n i d q A lb m C F k w hk hl hm hC hCm hr (.inr (.inl h2))
  · exact torn_out p v z f l s u g n i d q A lb m C F k w hk hl hm hC hCm hr (.inl h1)
end Go.Proofs.YtdllkbjbklhigaaDoor
