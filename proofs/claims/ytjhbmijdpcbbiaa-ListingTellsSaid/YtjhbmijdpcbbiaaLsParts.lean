/- Parts that are copied one by one into a row that was made; what unlessGone of package listing answers. -/
import Derived.Test.YtjhbmijdpcbbiaaLsRow
import Derived.Laws.MakeOwn
namespace Go.Proofs.Ytjhbmijdpcbbiaa
open Go.RowKit
open Pt (Tx)

theorem Enc.Rd.in_ {α : Type} {E : Enc α} {w : World} {A : Option Addr} {l : List α} {G : Nat → Prop} (h : E.Rd w A l G) : E.Rd w A l (· < w.heap.size) := fun hn => by
  obtain ⟨b, off, e, _, hc⟩ := h hn
  refine ⟨b, off, e, ?_, hc⟩
  have h0 : 0 < (E.enc l[0]).length := by rw [E.len]; exact E.pos
  exact World.block_lt_of_cell? _ _ (hc 0 hn 0 _ (List.getElem?_eq_getElem h0))
/-- in block gm, a row with room for n parts, these lie -/
structure SitsQ (w : World) (gm n : Nat) (l : List Ct.P) : Prop where
  row : ∃ cur : Array Value, w.heap[gm]? = some (.cells cur 45 (0, 0)) ∧ n * 10 ≤ cur.size ∧ ∀ i (hi : i < l.length) j u, (encQ.enc l[i])[j]? = some u → cur[i * 10 + j]? = some u
namespace SitsQ
variable {w w' : World} {gm n : Nat} {l : List Ct.P}
theorem start {w1 : World} {cs : Array Value} (h : w = w1.alloc (.cells cs 45)) (hc : n * 10 ≤ cs.size) : SitsQ w w1.heap.size n [] :=
  ⟨⟨cs, by rw [h]; exact Go.Deep.blk_alloc_new _ _, hc, fun i hi => absurd hi (by simp)⟩⟩
theorem lt (h : SitsQ w gm n l) : gm < w.heap.size := by
  obtain ⟨cur, hg, _⟩ := h.row
  exact heap_lt hg
theorem block (h : SitsQ w gm n l) (e : w'.heap[gm]? = w.heap[gm]?) : SitsQ w' gm n l := by
  obtain ⟨cur, hg, hc⟩ := h.row
  exact ⟨⟨cur, e.trans hg, hc⟩⟩
theorem old (h : SitsQ w gm n l) (hb : Below w.heap.size w w') : SitsQ w' gm n l := h.block (hb.block gm h.lt)
theorem kp (h : SitsQ w gm n l) {S : Nat → Prop} (hk : Kp S w w') (hs : ¬ S gm) : SitsQ w' gm n l := h.block (hk.block gm h.lt hs)
theorem free (h : SitsQ w gm n l) (k : Nat) : w.frozen? ⟨gm, k, none⟩ = false := by
  obtain ⟨cur, hg, _⟩ := h.row
  exact heap_frozen hg
theorem cell (h : SitsQ w gm n l) {i j : Nat} (hi : i < n) (hj : j < 10) : ∃ v, w.cell? ⟨gm, i * 10 + j, none⟩ = some v := by
  obtain ⟨cur, hg, hs, _⟩ := h.row
  have : (i + 1) * 10 ≤ n * 10 := Nat.mul_le_mul_right _ hi
  exact ⟨_, (heap_cell hg).trans (Array.getElem?_eq_getElem (by omega))⟩
theorem rd (h : SitsQ w gm n l) {G : Nat → Prop} (hg : G gm) : encQ.Rd w (some ⟨gm, 0, none⟩) l G := fun _ => by
  obtain ⟨cur, hb, _, hc⟩ := h.row
  refine ⟨gm, 0, rfl, hg, fun i hi j u hu => ?_⟩
  rw [heap_cell hb, Nat.zero_add]
  exact hc i hi j u hu
theorem set (h : SitsQ w gm n l) {i : Nat} (hi : i = l.length) (hn : i < n) (p : Ct.P) :
    SitsQ ((((((((((w.setCell ⟨gm, i * 10, none⟩ (.string (tx p.h.path))).setCell ⟨gm, i * 10 + 1, none⟩ (.int .i64 p.h.version)).setCell ⟨gm, i * 10 + 2, none⟩ (.int .i64 p.h.size)).setCell ⟨gm, i * 10 + 3, none⟩ (.int .i64 p.h.from_)).setCell ⟨gm, i * 10 + 4, none⟩ (.int .i64 p.h.len)).setCell ⟨gm, i * 10 + 5, none⟩ (.int .i64 p.h.serial)).setCell ⟨gm, i * 10 + 6, none⟩ (.int .i64 p.h.sum)).setCell ⟨gm, i * 10 + 7, none⟩ (.bool p.h.gone)).setCell ⟨gm, i * 10 + 8, none⟩ (.int .i64 p.lab)).setCell ⟨gm, i * 10 + 9, none⟩ (.int .i64 p.at_)) gm n (l ++ [p]) := by
  obtain ⟨cur, hg, hs, hc⟩ := h.row
  have hin : i * 10 + 10 ≤ cur.size := by
    have : (i + 1) * 10 ≤ n * 10 := Nat.mul_le_mul_right _ hn
    omega
  refine ⟨⟨_, heap_set (heap_set (heap_set (heap_set (heap_set (heap_set (heap_set (heap_set (heap_set (heap_set hg _) _) _) _) _) _) _) _) _) _, by simpa using hs, fun k hk j u hu => ?_⟩⟩
  rw [List.length_append, List.length_singleton] at hk
  have hj : j < 10 := by
    have := (List.getElem?_eq_some_iff.1 hu).1
    rw [encQ.len] at this
    exact this
  simp only [Array.getElem?_setIfInBounds, Array.size_setIfInBounds]
  by_cases e : k = i
  · have e' : (l ++ [p])[k]'(by rw [List.length_append, List.length_singleton]; exact hk) = p := by simp [e, hi]
    rw [e'] at hu
    subst e
    match j, hu, hj with
    | 0, hu, _ => cases hu; simp (disch := omega); omega
    | 1, hu, _ => cases hu; simp (disch := omega); omega
    | 2, hu, _ => cases hu; simp (disch := omega); omega
    | 3, hu, _ => cases hu; simp (disch := omega); omega
    | 4, hu, _ => cases hu; simp (disch := omega); omega
    | 5, hu, _ => cases hu; simp (disch := omega); omega
    | 6, hu, _ => cases hu; simp (disch := omega); omega
    | 7, hu, _ => cases hu; simp (disch := omega); omega
    | 8, hu, _ => cases hu; simp (disch := omega); omega
    | 9, hu, _ => cases hu; simp (disch := omega); omega
    | j + 10, _, hj => omega
  · have hk' : k < l.length := by omega
    rw [List.getElem_append_left hk'] at hu
    rw [if_neg (by omega), if_neg (by omega), if_neg (by omega), if_neg (by omega), if_neg (by omega), if_neg (by omega), if_neg (by omega), if_neg (by omega), if_neg (by omega), if_neg (by omega)]
    exact hc k hk' j u hu
theorem kp_set (w : World) (g a b c d e f h i j k : Nat) (u0 u1 u2 u3 u4 u5 u6 u7 u8 u9 : Value) : Kp (· = g) w ((((((((((w.setCell ⟨g, a, none⟩ u0).setCell ⟨g, b, none⟩ u1).setCell ⟨g, c, none⟩ u2).setCell ⟨g, d, none⟩ u3).setCell ⟨g, e, none⟩ u4).setCell ⟨g, f, none⟩ u5).setCell ⟨g, h, none⟩ u6).setCell ⟨g, i, none⟩ u7).setCell ⟨g, j, none⟩ u8).setCell ⟨g, k, none⟩ u9) :=
  ((((((((((Kp.store _ _ _ _).trans (Kp.store _ _ _ _)).trans (Kp.store _ _ _ _)).trans (Kp.store _ _ _ _)).trans (Kp.store _ _ _ _)).trans (Kp.store _ _ _ _)).trans (Kp.store _ _ _ _)).trans (Kp.store _ _ _ _)).trans (Kp.store _ _ _ _)).trans (Kp.store _ _ _ _))
end SitsQ
/-- a file is answered, or none -/
def FileA (o : Option Ct.F) (w : World) (e : Ending) (w' : World) : Prop :=
  (match o with
    | some f => ∃ A C, e = .returned (.tuple #[.agg #[.string (tx f.path), .int .i64 f.version, .int .i64 f.size, .int .i64 f.sum, .int .i64 f.serial, .bool f.gone, .slice A f.parts.length C], .bool true]) ∧ encQ.Rd w' A f.parts (fun _ => True)
    | none => e = .returned (.tuple #[.agg #[.string ⟨#[]⟩, .int .i64 0, .int .i64 0, .int .i64 0, .int .i64 0, .bool false, .slice none 0 0], .bool false])) ∧ Below w.heap.size w w'
theorem FileA.no {o : Option Ct.F} {w w' : World} (h : o = none) (hb : Below w.heap.size w w') : FileA o w (.returned (.tuple #[.agg #[.string ⟨#[]⟩, .int .i64 0, .int .i64 0, .int .i64 0, .int .i64 0, .bool false, .slice none 0 0], .bool false])) w' := by subst h; exact ⟨rfl, hb⟩
theorem FileA.yes {o : Option Ct.F} {P : Tx} {v z s r : Int} {b : Bool} {A : Option Addr} {m C : Nat} {l : List Ct.P} {G : Nat → Prop} {w w' : World} (h : o = some ⟨P, v, z, s, r, b, l⟩) (hm : m = l.length) (hO : encQ.Rd w' A l G) (hb : Below w.heap.size w w') :
    FileA o w (.returned (.tuple #[.agg #[.string (tx P), .int .i64 v, .int .i64 z, .int .i64 s, .int .i64 r, .bool b, .slice A m C], .bool true])) w' := by subst h hm; exact ⟨⟨A, C, rfl, hO.mono fun _ _ => trivial⟩, hb⟩
theorem two_filesL {w wb : World} {o1 o2 : Obj} (h : wb = (w.alloc o1).alloc o2) : wb.heap.size = w.heap.size + 2 := by subst h; simp
set_option maxRecDepth 100000 in
set_option maxHeartbeats 8000000 in
theorem unlessGone_any (P : Tx) (v z s r : Int) (b : Bool) (pl : List Ct.P) (m : Nat) (A : Option Addr) (C : Nat) (G : Nat → Prop) (w : World) (hm : m = pl.length) (hm2 : m * 88 ≤ 140737488351232) (hP : P.length ≤ 281474976710656) (hQ : ∀ q ∈ pl, q.h.path.length ≤ 281474976710656) (h : encQ.Rd w A pl G) :
    Calls Try.prog 20 #[.agg #[.string (tx P), .int .i64 v, .int .i64 z, .int .i64 s, .int .i64 r, .bool b, .slice A m C]] w (FileA (if b = true then none else some ⟨P, v, z, s, r, b, pl⟩) w) := by
  obtain ⟨wb, hwb⟩ : ∃ wb, wb = (w.alloc (fileO P v z s r b A m C)).alloc (fileO [] 0 0 0 0 false none 0 0) := ⟨_, rfl⟩
  obtain ⟨hB, h1, h2⟩ := two_files hwb
  have hsz := two_filesL hwb
  have HB := Lib.hid hB
  have HK1 := Lib.hid h1
  have HK2 := Lib.hid h2
  have HRI := Lib.hid (h.in_.old hB)
  have HM := Lib.hid hm
  have HQ := Lib.hid hQ
  have HW : Hid (wb = (w.alloc (.cells #[.string (tx P), .int .i64 v, .int .i64 z, .int .i64 s, .int .i64 r, .bool b, .slice A m C] 26)).alloc (.cells #[.string ⟨#[]⟩, .int .i64 0, .int .i64 0, .int .i64 0, .int .i64 0, .bool false, .slice none 0 0] 26)) := Lib.hid hwb
  have HSZ := Lib.hid hsz
  cases b with
  | true =>
    clear hwb hB h1 h2 h hm hQ hsz
    go_enter Try.func20, Try.ntmps20
    go_upto_region 1 with fail
    rw [← HW.out]
    obtain ⟨-, -, -, -, -, a5, -⟩ := file7 HK1.out
    obtain ⟨y0, y1, y2, y3, y4, y5, y6⟩ := file7 HK2.out
    obtain ⟨g0, g1, g2, g3, g4, g5, g6⟩ := file_free HK2.out
    go_wp2
    obtain ⟨z0, z1, z2, z3, z4, z5, z6⟩ := zero7 (seven_zero HK2.out)
    exact bodyPost_ret (v := .tuple #[.agg #[.string ⟨#[]⟩, .int .i64 0, .int .i64 0, .int .i64 0, .int .i64 0, .bool false, .slice none 0 0], .bool false]) (by simp [results, Try.results20, go_sem, z0, z1, z2, z3, z4, z5, z6]) rfl (FileA.no rfl (HB.out.trans ((seven_kp _ _ _ _ _ _ _ _ _).below (by have := HSZ.out; omega) fun k hk => by omega)))
  | false =>
    obtain ⟨cs, hcs⟩ : ∃ cs : Array Value, cs = madeCells (Value.agg #[.string ⟨#[]⟩, .int .i64 0, .int .i64 0, .int .i64 0, .int .i64 0, .int .i64 0, .int .i64 0, .bool false, .int .i64 0, .int .i64 0]).cells (m * 10) := ⟨_, rfl⟩
    have hcsz : cs.size = m * 10 := by rw [hcs, size_madeCells]
    have hmk : ∀ y : World, (Instr.makeSlice 24 (.int .i64 (m : Int)) (.int .i64 (m : Int))).run Try.prog y = .ok (.slice (some ⟨y.heap.size, 0, none⟩) m m) (y.alloc (.cells cs 45)) := fun y => by
      obtain ⟨i0, hi, hz0, hz1, hz2⟩ := info_parts infoPart
      have h := run_make (P := Try.prog) y 24 45 i0 _ Try.underlying24 hi hz0 .i64 .i64 (m : Int) (m : Int) (by omega) (Int.le_refl _) (by rw [hz2]; omega) (by omega)
      rw [hz1, Int.toNat_natCast] at h
      rw [hcs]; exact h
    have HC1 := Lib.hid (cloned17 P wb hP)
    have HCSZ := Lib.hid hcsz
    clear hwb hB h1 h2 h hm hQ hsz hcs hcsz
    go_enter Try.func20, Try.ntmps20
    go_upto_region 1 with fail
    rw [← HW.out]
    obtain ⟨a0, -, -, -, -, a5, -⟩ := file7 HK1.out
    go_wp2_with fail
    refine HC1.out.mono ?_
    rintro e w1 ⟨rfl, hb1⟩
    have hk1 := below_obj' hb1 HK1.out
    have hs1 := setCell_same hk1 (file7 hk1).1
    have f0 := (file_free hk1).1
    obtain ⟨wm, hwm⟩ : ∃ x, x = w1.alloc (.cells cs 45) := ⟨_, rfl⟩
    have hbm : Below w1.heap.size w1 wm := by rw [hwm]; exact (Below.refl _ _).alloc (Nat.le_refl _) _
    have hbwm := hb1.trans (hbm.mono hb1.size)
    obtain ⟨gm, hgm⟩ : ∃ gm, gm = w1.heap.size := ⟨_, rfl⟩
    have HS0 : Hid (SitsQ wm gm m []) := Lib.hid (by rw [hgm]; exact SitsQ.start hwm (by rw [HCSZ.out]; exact Nat.le_refl _))
    have HGM : Hid (w.heap.size + 2 ≤ gm) := Lib.hid (by have := hb1.size; have := HSZ.out; omega)
    have HKM1 := Lib.hid (below_obj' hbwm HK1.out)
    have HKM2 := Lib.hid (below_obj' hbwm HK2.out)
    have HRM := Lib.hid (HRI.out.old hbwm)
    have HBM := Lib.hid (HB.out.trans (hbwm.mono HB.out.size))
    have HWM := Lib.hid hwm
    have HGME := Lib.hid hgm
    obtain ⟨b0, -, -, -, -, -, b6⟩ := file7 hk1
    clear a0 a5 hwm hbm hb1 hbwm hgm HC1
    go_upto_region 4 with fail
    try rw [hs1]
    go_upto_region 5 with fail
    rw [← HWM.out, ← HGME.out]
    clear b0 b6 f0 hs1 hk1 hmk
    obtain ⟨-, -, -, -, -, -, b6⟩ := file7 HKM1.out
    go_wp2
    clear b6
    go_loopw [21] (fun vi wr => ∃ i : Nat, i ≤ m ∧ vi = .int .i64 (i : Int) ∧ Hid (SitsQ wr gm m (pl.take i)) ∧ Hid (Kp (fun k => k = gm ∨ wm.heap.size ≤ k) wm wr)) (fun vi _ => m - (intOf vi).toNat)
    case atStart => exact ⟨0, Nat.zero_le _, rfl, HS0, Lib.hid (Kp.refl _ _)⟩
    case round =>
      obtain ⟨i, hi, rfl, HSQ, HKP⟩ := hrel
      by_cases hlt : i < m
      · have e0 : decide (i < m) = true := decide_eq_true hlt
        have hlt' : i < pl.length := by rw [← HM.out]; exact hlt
        have hrd : encQ.Rd wr A pl (· < w.heap.size) := HRM.out.kp HKP.out (fun x hx e => by have := HGM.out; have := HBM.out.size; omega)
        obtain ⟨bb, off, rfl, -, t1⟩ := ten_of hrd hlt'
        obtain ⟨p, hp⟩ : ∃ p, p = pl[i] := ⟨_, rfl⟩
        have hpp := HQ.out pl[i] (List.getElem_mem hlt')
        have HTK : Hid (pl.take (i + 1) = pl.take i ++ [p]) := Lib.hid (by rw [List.take_succ_eq_append_getElem hlt', hp])
        have HTL : Hid (i = (pl.take i).length) := Lib.hid (by rw [List.length_take]; omega)
        rw [← hp] at t1 hpp
        obtain ⟨⟨p0, p1, p2, p3, p4, p5, p6, p7⟩, p8, p9⟩ := p
        obtain ⟨wp, hwp⟩ : ∃ x, x = wr.alloc (partO ⟨⟨p0, p1, p2, p3, p4, p5, p6, p7⟩, p8, p9⟩) := ⟨_, rfl⟩
        have hbp : Below wr.heap.size wr wp := by rw [hwp]; exact (Below.refl _ _).alloc (Nat.le_refl _) _
        have hkp : wp.heap[wr.heap.size]? = some (partObj p0 p1 p2 p3 p4 p5 p6 p7 p8 p9) := by rw [hwp]; exact Go.Deep.blk_alloc_new _ _
        have HWP : Hid (wp = wr.alloc (.cells #[.string (tx p0), .int .i64 p1, .int .i64 p2, .int .i64 p3, .int .i64 p4, .int .i64 p5, .int .i64 p6, .bool p7, .int .i64 p8, .int .i64 p9] 45)) := Lib.hid hwp
        have HPP := Lib.hid hkp
        have HC2 := Lib.hid (cloned17 p0 wp hpp)
        have HBP := Lib.hid hbp
        obtain ⟨c0, c1, c2, c3, c4, c5, c6, c7, c8, c9⟩ := t1
        dsimp only at c0 c1 c2 c3 c4 c5 c6 c7 c8 c9
        clear hp hwp hbp hkp hrd hpp
        go_upto_region 8 with fail
        rw [← HWP.out]
        clear c0 c1 c2 c3 c4 c5 c6 c7 c8 c9
        obtain ⟨d0, -, -, -, -, -, -, -, -, -⟩ := part10 HPP.out
        go_wp2_with fail
        refine HC2.out.mono ?_
        rintro e wc ⟨rfl, hbc⟩
        have hbc' := HBP.out.trans (hbc.mono HBP.out.size)
        have hkc := below_obj' hbc HPP.out
        have hsc := setCell_same hkc (part10 hkc).1
        have f0 := part_frozen hkc 0
        have hsq := HSQ.out.old hbc'
        have HKC : Hid (Kp (fun k => k = gm ∨ wm.heap.size ≤ k) wm wc) := Lib.hid (HKP.out.trans ((Kp.of_below hbc')))
        have HSET := Lib.hid (hsq.set HTL.out hlt ⟨⟨p0, p1, p2, p3, p4, p5, p6, p7⟩, p8, p9⟩)
        clear d0 hbc hbc' HC2
        obtain ⟨d0, d1, d2, d3, d4, d5, d6, d7, d8, d9⟩ := part10 hkc
        go_upto_region 9 with fail
        try rw [hsc]
        obtain ⟨q0, h0⟩ := hsq.cell (j := 0) hlt (by omega)
        obtain ⟨q1, h1⟩ := hsq.cell (j := 1) hlt (by omega)
        obtain ⟨q2, h2⟩ := hsq.cell (j := 2) hlt (by omega)
        obtain ⟨q3, h3⟩ := hsq.cell (j := 3) hlt (by omega)
        obtain ⟨q4, h4⟩ := hsq.cell (j := 4) hlt (by omega)
        obtain ⟨q5, h5⟩ := hsq.cell (j := 5) hlt (by omega)
        obtain ⟨q6, h6⟩ := hsq.cell (j := 6) hlt (by omega)
        obtain ⟨q7, h7⟩ := hsq.cell (j := 7) hlt (by omega)
        obtain ⟨q8, h8⟩ := hsq.cell (j := 8) hlt (by omega)
        obtain ⟨q9, h9⟩ := hsq.cell (j := 9) hlt (by omega)
        rw [Nat.add_zero] at h0
        have r0 := hsq.free (i * 10)
        have r1 := hsq.free (i * 10 + 1)
        have r2 := hsq.free (i * 10 + 2)
        have r3 := hsq.free (i * 10 + 3)
        have r4 := hsq.free (i * 10 + 4)
        have r5 := hsq.free (i * 10 + 5)
        have r6 := hsq.free (i * 10 + 6)
        have r7 := hsq.free (i * 10 + 7)
        have r8 := hsq.free (i * 10 + 8)
        have r9 := hsq.free (i * 10 + 9)
        clear hsq hsc f0
        go_upto_region 10 with fail
        have HKS : Hid (Kp (fun k => k = gm ∨ wm.heap.size ≤ k) wm ((((((((((wc.setCell ⟨gm, i * 10, none⟩ (.string (tx p0))).setCell ⟨gm, i * 10 + 1, none⟩ (.int .i64 p1)).setCell ⟨gm, i * 10 + 2, none⟩ (.int .i64 p2)).setCell ⟨gm, i * 10 + 3, none⟩ (.int .i64 p3)).setCell ⟨gm, i * 10 + 4, none⟩ (.int .i64 p4)).setCell ⟨gm, i * 10 + 5, none⟩ (.int .i64 p5)).setCell ⟨gm, i * 10 + 6, none⟩ (.int .i64 p6)).setCell ⟨gm, i * 10 + 7, none⟩ (.bool p7)).setCell ⟨gm, i * 10 + 8, none⟩ (.int .i64 p8)).setCell ⟨gm, i * 10 + 9, none⟩ (.int .i64 p9))) := Lib.hid (HKC.out.trans ((SitsQ.kp_set _ _ _ _ _ _ _ _ _ _ _ _ _ _ _ _ _ _ _ _ _ _).mono fun k e => .inl e))
        generalize ((((((((((wc.setCell ⟨gm, i * 10, none⟩ (.string (tx p0))).setCell ⟨gm, i * 10 + 1, none⟩ (.int .i64 p1)).setCell ⟨gm, i * 10 + 2, none⟩ (.int .i64 p2)).setCell ⟨gm, i * 10 + 3, none⟩ (.int .i64 p3)).setCell ⟨gm, i * 10 + 4, none⟩ (.int .i64 p4)).setCell ⟨gm, i * 10 + 5, none⟩ (.int .i64 p5)).setCell ⟨gm, i * 10 + 6, none⟩ (.int .i64 p6)).setCell ⟨gm, i * 10 + 7, none⟩ (.bool p7)).setCell ⟨gm, i * 10 + 8, none⟩ (.int .i64 p8)).setCell ⟨gm, i * 10 + 9, none⟩ (.int .i64 p9)) = ws at HSET HKS ⊢
        clear d0 d1 d2 d3 d4 d5 d6 d7 d8 d9 h0 h1 h2 h3 h4 h5 h6 h7 h8 h9 r0 r1 r2 r3 r4 r5 r6 r7 r8 r9
        go_wp2
        go_roundw
        case rel => exact ⟨i + 1, by omega, by go_num, Lib.hid (by rw [HTK.out]; exact HSET.out), HKS⟩
        case measure => simp [intOf]; omega
      · have e0 : decide (i < m) = false := decide_eq_false hlt
        have him : i = m := by omega
        have HSF : Hid (SitsQ wr gm m pl) := Lib.hid (by
          have := HSQ.out
          rwa [him, HM.out, List.take_length, ← HM.out] at this)
        have hn1 : w.heap.size ≠ gm ∧ w.heap.size + 1 ≠ gm ∧ w.heap.size < wm.heap.size ∧ w.heap.size + 1 < wm.heap.size := by have := HGM.out; have := HS0.out.lt; omega
        have k1 := (HKP.out.block _ (heap_lt HKM1.out) (by omega)).trans HKM1.out
        have k2 := (HKP.out.block _ (heap_lt HKM2.out) (by omega)).trans HKM2.out
        have HBR : Hid (Below w.heap.size w wr) := Lib.hid (HBM.out.trans (HKP.out.below HBM.out.size fun k hk => by have := HGM.out; rcases hk with hk | hk <;> omega))
        have HGN := Lib.hid hn1
        obtain ⟨wz, hwz⟩ : ∃ x, x = wr.setCell ⟨w.heap.size, 6, none⟩ (.slice (some ⟨gm, 0, none⟩) m m) := ⟨_, rfl⟩
        have HKZ : Hid (Kp (· = w.heap.size) wr wz) := Lib.hid (by rw [hwz]; exact Kp.store _ _ _ _)
        have HZ1 : Hid (wz.heap[w.heap.size]? = some (fileO P v z s r false (some ⟨gm, 0, none⟩) m m)) := Lib.hid (by rw [hwz]; exact heap_set k1 _)
        have HZ2 : Hid (wz.heap[w.heap.size + 1]? = some (fileO [] 0 0 0 0 false none 0 0)) := Lib.hid ((HKZ.out.block _ (heap_lt k2) (by omega)).trans k2)
        have HWZ := Lib.hid hwz
        obtain ⟨-, -, -, -, -, -, b6⟩ := file7 k1
        obtain ⟨-, -, -, -, -, -, f6⟩ := file_free k1
        clear hn1 k1 k2 hwz
        go_upto_region 12 with fail
        rw [← HWZ.out]
        clear b6 f6
        obtain ⟨x0, x1, x2, x3, x4, x5, x6⟩ := file7 HZ1.out
        obtain ⟨y0, y1, y2, y3, y4, y5, y6⟩ := file7 HZ2.out
        obtain ⟨g0, g1, g2, g3, g4, g5, g6⟩ := file_free HZ2.out
        go_wp2
        obtain ⟨z0, z1, z2, z3, z4, z5, z6⟩ := file7 (seven_set HZ2.out P v z s r false (some ⟨gm, 0, none⟩) m m)
        have HKF := seven_kp wz (w.heap.size + 1) (.string (tx P)) (.int .i64 v) (.int .i64 z) (.int .i64 s) (.int .i64 r) (.bool false) (.slice (some ⟨gm, 0, none⟩) m m)
        exact bodyPost_ret (v := .tuple #[.agg #[.string (tx P), .int .i64 v, .int .i64 z, .int .i64 s, .int .i64 r, .bool false, .slice (some ⟨gm, 0, none⟩) m m], .bool true]) (by simp [results, Try.results20, go_sem, z0, z1, z2, z3, z4, z5, z6]) rfl (FileA.yes rfl HM.out (((HSF.out.kp HKZ.out (fun e => HGN.out.1 e.symm)).kp HKF (fun e => HGN.out.2.1 e.symm)).rd (G := fun _ => True) trivial) ((HBR.out.trans (HKZ.out.below HBR.out.size fun k hk => by omega)).trans (HKF.below (Nat.le_trans HBR.out.size HKZ.out.size) fun k hk => by omega)))
end Go.Proofs.Ytjhbmijdpcbbiaa
