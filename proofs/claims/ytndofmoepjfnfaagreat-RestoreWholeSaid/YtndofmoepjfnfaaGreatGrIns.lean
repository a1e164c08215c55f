/- What slices' insertion sort makes of a row of seals, and the stable sort of at most nineteen. -/
import Derived.Test.YtndofmoepjfnfaaGreatMat
import Derived.IntWalk
import Derived.BigQuiet
import Derived.Deep.QuietTactic
import Derived.Deep.RegionHeld3
import Derived.Deep.DeepFit
namespace Go.Proofs.YtndofmoepjfnfaaGreat
open Go.RowKit
open Pt (Tx)

/-- the row while x goes to its place among those that are sorted already -/
def going (a : List Sx) (x : Sx) (j : Nat) (rest : List Sx) : List Sx := a.take j ++ x :: (a.drop j ++ rest)
theorem going_len {a : List Sx} {x : Sx} {j : Nat} {rest : List Sx} (h : j ≤ a.length) : (going a x j rest).length = a.length + 1 + rest.length := by
  unfold going; simp; omega
theorem going_at {a : List Sx} {x : Sx} {j : Nat} {rest : List Sx} (h : j ≤ a.length) (hj : j < (going a x j rest).length) : (going a x j rest)[j] = x := by
  simp only [going]
  rw [List.getElem_append_right (by rw [List.length_take]; omega)]
  simp [Nat.min_eq_left h]
theorem going_before {a : List Sx} {x : Sx} {j : Nat} {rest : List Sx} (h : j + 1 ≤ a.length) (hj : j < (going a x (j + 1) rest).length) : (going a x (j + 1) rest)[j] = a[j] := by
  simp only [going]
  rw [List.getElem_append_left (by rw [List.length_take]; omega), List.getElem_take]
theorem going_start {a : List Sx} {x : Sx} {rest : List Sx} : a ++ x :: rest = going a x a.length rest := by
  unfold going; simp
/-- the two are exchanged -/
theorem going_swap {a : List Sx} {x : Sx} {j : Nat} {rest : List Sx} (h : j + 1 ≤ a.length) : ((going a x (j + 1) rest).set (j + 1) a[j]).set j x = going a x j rest := by
  unfold going
  have e1 : (a.take (j + 1)).length = j + 1 := by rw [List.length_take]; omega
  rw [List.set_append_right _ _ (by omega), e1, Nat.sub_self, List.set_cons_zero, List.take_succ_eq_append_getElem h]
  have e2 : (a.take j).length = j := by rw [List.length_take]; omega
  rw [List.append_assoc, List.set_append_right _ _ (by omega), e2, Nat.sub_self]
  have e3 : a.drop j = a[j] :: a.drop (j + 1) := List.drop_eq_getElem_cons h
  rw [e3]; rfl
/-- what the sort keeps: where the row lies, and what else is as it was -/
structure Sorts (w : World) (g off : Nat) (l : List Sx) (x : World) : Prop where
  sits : SitsX x g off l
  kp : Kp (· = g) w x
theorem Sorts.old {w x y : World} {g off : Nat} {l : List Sx} (h : Sorts w g off l x) (hb : Below x.heap.size x y) : Sorts w g off l y :=
  ⟨h.sits.old hb, h.kp.trans (Kp.of_below hb)⟩
theorem Sorts.drew {w x : World} {g off : Nat} {l : List Sx} (h : Sorts w g off l x) : Sorts w g off l x.drew := ⟨h.sits, h.kp.drew⟩
theorem Sorts.drewN {w x : World} {g off : Nat} {l : List Sx} (h : Sorts w g off l x) (n : Nat) : Sorts w g off l (x.drewN n) := ⟨h.sits, h.kp.drewN n⟩
theorem Sorts.set {w x : World} {g off : Nat} {l : List Sx} (h : Sorts w g off l x) {i : Nat} (hi : i < l.length) (s : Sx) :
    Sorts w g off (l.set i s) (((((x.setCell ⟨g, off + i * 5, none⟩ (.int .i64 s.s.number)).setCell ⟨g, off + i * 5 + 1, none⟩ (.int .i64 s.s.index)).setCell ⟨g, off + i * 5 + 2, none⟩ (.int .i64 s.s.data)).setCell ⟨g, off + i * 5 + 3, none⟩ (.int .i64 s.s.parity)).setCell ⟨g, off + i * 5 + 4, none⟩ (.slice s.A s.s.labels.length s.C)) :=
  ⟨h.sits.set hi s, h.kp.trans (SitsX.kp_set ..)⟩
/-- the five cells of one of them -/
def Five (w : World) (g o : Nat) (n i d p : Int) (A : Option Addr) (m C : Nat) : Prop := w.cell? ⟨g, o, none⟩ = some (.int .i64 n) ∧ w.cell? ⟨g, o + 1, none⟩ = some (.int .i64 i) ∧ w.cell? ⟨g, o + 2, none⟩ = some (.int .i64 d) ∧ w.cell? ⟨g, o + 3, none⟩ = some (.int .i64 p) ∧ w.cell? ⟨g, o + 4, none⟩ = some (.slice A m C)
theorem Five.old {w w' : World} {g o : Nat} {n i d p : Int} {A : Option Addr} {m C : Nat} (h : Five w g o n i d p A m C) (hb : Below w.heap.size w w') : Five w' g o n i d p A m C := by
  obtain ⟨h0, h1, h2, h3, h4⟩ := h
  have hl := World.block_lt_of_cell? _ _ h0
  exact ⟨(hb.cell hl).trans h0, (hb.cell (p := ⟨g, o + 1, none⟩) hl).trans h1, (hb.cell (p := ⟨g, o + 2, none⟩) hl).trans h2, (hb.cell (p := ⟨g, o + 3, none⟩) hl).trans h3, (hb.cell (p := ⟨g, o + 4, none⟩) hl).trans h4⟩
theorem SitsX.five {w : World} {g off : Nat} {l : List Sx} (h : SitsX w g off l) {i : Nat} (hi : i < l.length) {x : Sx} (hx : l[i] = x) : Five w g (off + i * 5) x.s.number x.s.index x.s.data x.s.parity x.A x.s.labels.length x.C := by
  subst hx; exact h.at_ hi
set_option maxRecDepth 100000 in
set_option maxHeartbeats 8000000 in
theorem insertion_any (g off : Nat) (l : List Sx) (n C : Nat) (w : World) (hn : n = l.length) (hm : n ≤ 1000) (h : SitsX w g off l) :
    Calls Tryz.prog 75 #[.slice (some ⟨g, off, none⟩) n C, .int .i64 0, .int .i64 (n : Int), .func (.func 46) #[] #[]] w fun e w' => e = .returned (.tuple #[]) ∧ Sorts w g off (So.isort Sx.num l) w' := by
  have HN := Lib.hid hn
  have H0 : Hid (Sorts w g off (So.isort Sx.num (l.take 1) ++ l.drop 1) w) := Lib.hid ⟨by
    rw [show So.isort Sx.num (l.take 1) = l.take 1 by cases l <;> rfl, List.take_append_drop]; exact h, Kp.refl _ _⟩
  clear h hn
  go_enter Tryz.func75, Tryz.ntmps75
  go_wp2
  go_loopw [8, 9] (fun vi vj wr => ∃ I : Nat, vi = .int .i64 (I : Int) ∧ 1 ≤ I ∧ I ≤ n + 1 ∧ Hid (Sorts w g off (So.isort Sx.num (l.take I) ++ l.drop I) wr)) (fun vi _ _ => n + 1 - (intOf vi).toNat)
  case atStart => exact ⟨1, rfl, Nat.le_refl _, by omega, H0⟩
  case round =>
    obtain ⟨I, rfl, hI1, hI, HS⟩ := hrel
    by_cases hlt : I < n
    · have e0 : decide ((I : Int) < (n : Int)) = true := decide_eq_true (by omega)
      have hltl : I < l.length := by rw [← HN.out]; exact hlt
      obtain ⟨x, hx⟩ : ∃ x, x = l[I] := ⟨_, rfl⟩
      obtain ⟨a, ha⟩ : ∃ a, a = So.isort Sx.num (l.take I) := ⟨_, rfl⟩
      have hal : a.length = I := by rw [ha, So.isort_len, List.length_take]; omega
      have HA := Lib.hid ha
      have HAL := Lib.hid hal
      have HASC : Hid (So.Asc Sx.num a) := Lib.hid (by rw [ha]; exact So.isort_asc _ _)
      have HX := Lib.hid hx
      obtain ⟨rest, hrest⟩ : ∃ r, r = l.drop (I + 1) := ⟨_, rfl⟩
      have HREST := Lib.hid hrest
      have HS1 : Hid (Sorts w g off (going a x I rest) wr) := Lib.hid (by
        have h1 := HS.out
        rw [← ha, List.drop_eq_getElem_cons hltl, ← hx, ← hrest, going_start, hal] at h1
        exact h1)
      have HT0 : Hid (∀ b ∈ a.drop I, x.num < b.num) := Lib.hid (by rw [List.drop_eq_nil_of_le (by omega)]; intro b hb; cases hb)
      have HEND : Hid (∀ j, j ≤ I → (∀ b ∈ a.take j, b.num ≤ x.num) → (∀ b ∈ a.drop j, x.num < b.num) → going a x j rest = So.isort Sx.num (l.take (I + 1)) ++ l.drop (I + 1)) := Lib.hid fun j _ h1 h2 => by
        rw [List.take_succ_eq_append_getElem hltl, So.isort_snoc, ← ha, ← hx, So.insR_at h1 h2, ← hrest]
        unfold going; simp
      clear ha hal hx hrest HS
      obtain ⟨wo, rfl⟩ : ∃ x, x = wr := ⟨wr, rfl⟩
      go_wp2
      go_loopw [9] (fun vj wr => ∃ J : Nat, vj = .int .i64 (J : Int) ∧ J ≤ I ∧ Hid (Sorts w g off (going a x J rest) wr) ∧ Hid (∀ b ∈ a.drop J, x.num < b.num)) (fun vj _ => (intOf vj).toNat)
      case atStart => exact ⟨I, rfl, Nat.le_refl _, HS1, HT0⟩
      case round =>
        obtain ⟨J, rfl, hJ, HJ, HT⟩ := hrel
        by_cases h0 : J = 0
        · have e1 : decide ((0 : Int) < (J : Int)) = false := decide_eq_false (by omega)
          have e2 : decide (0 < J) = false := decide_eq_false (by omega)
          have HE : Hid (Sorts w g off (So.isort Sx.num (l.take (I + 1)) ++ l.drop (I + 1)) wr) := Lib.hid (by
            have h1 := HEND.out J hJ (by rw [h0]; intro b hb; cases hb) HT.out
            rw [← h1]; exact HJ.out)
          clear h0
          go_wp2
          go_quiet (fail)
          go_wp2
          go_roundw
          case rel => exact ⟨I + 1, by go_num, by omega, by omega, Lib.hid (HE.out.drewN _)⟩
          case measure => simp [intOf]; omega
        · obtain ⟨K, hK⟩ : ∃ K, K = J - 1 := ⟨_, rfl⟩
          have e1 : decide ((0 : Int) < (J : Int)) = true := decide_eq_true (by omega)
          have e2 : decide (0 < J) = true := decide_eq_true (by omega)
          have hJK : J = K + 1 := by omega
          have HJK := Lib.hid hJK
          have hKa : K < a.length := by rw [HAL.out]; omega
          obtain ⟨y, hy⟩ : ∃ y, y = a[K] := ⟨_, rfl⟩
          have HY := Lib.hid hy
          have hgl : (going a x J rest).length = a.length + 1 + rest.length := going_len (by rw [HAL.out]; exact hJ)
          have fJ := HJ.out.sits.five (i := J) (x := x) (by rw [hgl, HAL.out]; omega) (going_at (by rw [HAL.out]; exact hJ) _)
          have fK : Five wr g (off + K * 5) y.s.number y.s.index y.s.data y.s.parity y.A y.s.labels.length y.C := HJ.out.sits.five (i := K) (x := y) (by rw [hgl, HAL.out]; omega) (by
            rw [hy]
            have : ∀ (q : List Sx) (_ : q = going a x (K + 1) rest) (h : K < q.length), q[K] = a[K] := by
              rintro q rfl h; exact going_before (by omega) h
            exact this _ (by rw [hJK]) _)
          have s1 : IntKind.i64.wrap ((J : Int) - 1) = (K : Int) := by rw [IntWalk.i64_in _ (by omega)]; omega
          have HSW : Hid (((going a x J rest).set J y).set K x = going a x K rest) := Lib.hid (by rw [hJK, hy]; exact going_swap (by omega))
          have HLJ : Hid (J < (going a x J rest).length) := Lib.hid (by rw [hgl, HAL.out]; omega)
          have HLK : Hid (K < ((going a x J rest).set J y).length) := Lib.hid (by rw [List.length_set, hgl, HAL.out]; omega)
          have HKY : Hid (∀ h, ((going a x J rest).set J y)[K]'h = y) := Lib.hid fun h => by
            have : ∀ (q : List Sx) (_ : q = going a x (K + 1) rest) (h : K < q.length), q[K] = a[K] := by
              rintro q rfl h; exact going_before (by omega) h
            exact ((List.getElem_set_ne (by omega) _).trans (this _ (by rw [hJK]) _)).trans hy.symm
          have HSTOP : Hid (y.num ≤ x.num → going a x J rest = So.isort Sx.num (l.take (I + 1)) ++ l.drop (I + 1)) := Lib.hid fun h1 => by
            refine HEND.out J hJ (fun b hb => ?_) HT.out
            rw [hJK] at hb
            exact So.asc_take HASC.out hKa (by rw [← hy]; exact h1) b hb
          have HMORE : Hid (x.num < y.num → ∀ b ∈ a.drop K, x.num < b.num) := Lib.hid fun h1 b hb => by
            rw [List.drop_eq_getElem_cons hKa, ← hy] at hb
            rcases List.mem_cons.1 hb with rfl | hb
            · exact h1
            · rw [← hJK] at hb; exact HT.out b hb
          have hJn : J < n := by omega
          have hKn : K < n := by omega
          have hJ1 : 0 < J := by omega
          have hKJ : K < J := by omega
          clear hy hgl HY hKa HEND hJK
          obtain ⟨⟨xn, xi, xd, xp, xl⟩, xA, xC⟩ := x
          obtain ⟨⟨yn, yi, yd, yp, yl⟩, yA, yC⟩ := y
          obtain ⟨xm, hxm⟩ : ∃ m, m = xl.length := ⟨_, rfl⟩
          obtain ⟨ym, hym⟩ : ∃ m, m = yl.length := ⟨_, rfl⟩
          dsimp only at fJ fK
          rw [← hxm] at fJ
          rw [← hym] at fK
          have HXM := Lib.hid hxm
          have HYM := Lib.hid hym
          have FJ := Lib.hid fJ
          have FK := Lib.hid fK
          clear hxm hym fJ fK hK
          have hbd : Below wr.heap.size wr wr.drew := (Below.refl _ _).drew
          have HF : Hid (∀ z, Below wr.heap.size wr z → Five z g (off + J * 5) xn xi xd xp xA xm xC ∧ Five z g (off + K * 5) yn yi yd yp yA ym yC ∧ Below wr.heap.size wr z) := Lib.hid fun z hz => ⟨FJ.out.old hz, FK.out.old hz, hz⟩
          have hx0 := HF.out _ hbd
          unfold Five at hx0
          have hcm : decide (cmpI xn yn < 0) = decide (xn < yn) := cmpI_lt
          have hcall := less_any xn xi xd xp xA xm xC yn yi yd yp yA ym yC wr.drew
          obtain ⟨cc, hcc⟩ : ∃ c, c = cmpI xn yn := ⟨_, rfl⟩
          rw [← hcc] at hcm hcall
          have HCALL := Lib.hid hcall
          have HCM := Lib.hid hcm
          clear hcall hcm hcc
          go_wp2
          go_region_held3 (fun z => (z.cell? ⟨g, off + J * 5, none⟩ = some (.int .i64 xn) ∧ z.cell? ⟨g, off + J * 5 + 1, none⟩ = some (.int .i64 xi) ∧ z.cell? ⟨g, off + J * 5 + 2, none⟩ = some (.int .i64 xd) ∧ z.cell? ⟨g, off + J * 5 + 3, none⟩ = some (.int .i64 xp) ∧ z.cell? ⟨g, off + J * 5 + 4, none⟩ = some (.slice xA xm xC)) ∧ (z.cell? ⟨g, off + K * 5, none⟩ = some (.int .i64 yn) ∧ z.cell? ⟨g, off + K * 5 + 1, none⟩ = some (.int .i64 yi) ∧ z.cell? ⟨g, off + K * 5 + 2, none⟩ = some (.int .i64 yd) ∧ z.cell? ⟨g, off + K * 5 + 3, none⟩ = some (.int .i64 yp) ∧ z.cell? ⟨g, off + K * 5 + 4, none⟩ = some (.slice yA ym yC)) ∧ Below wr.heap.size wr z)
            (first
              | exact hx2
              | exact hx0)
            (first
              | (go_at_call 46; refine HCALL.out.mono ?_; rintro e w9 ⟨rfl, hb9⟩; have hx2 := HF.out w9 (hbd.trans hb9); unfold Five at hx2))
          have HJ9 := Lib.hid (HJ.out.old hx2.2.2)
          have FJ9 := Lib.hid (FJ.out.old hx2.2.2)
          have FK9 := Lib.hid (FK.out.old hx2.2.2)
          clear HCALL hx2 hx0 hb9 hbd HF
          by_cases hlx : xn < yn
          · have q1 : decide (cc < 0) = true := by rw [HCM.out]; exact decide_eq_true hlx
            have q2 : cc < 0 := of_decide_eq_true q1
            have HM9 := Lib.hid (HMORE.out hlx)
            have fr : ∀ k, w9.frozen? ⟨g, k, none⟩ = false := HJ9.out.sits.free
            have f0 := fr (off + J * 5)
            have f1 := fr (off + J * 5 + 1)
            have f2 := fr (off + J * 5 + 2)
            have f3 := fr (off + J * 5 + 3)
            have f4 := fr (off + J * 5 + 4)
            have f5 := fr (off + K * 5)
            have f6 := fr (off + K * 5 + 1)
            have f7 := fr (off + K * 5 + 2)
            have f8 := fr (off + K * 5 + 3)
            have f9 := fr (off + K * 5 + 4)
            have hset := (HJ9.out.set HLJ.out ⟨⟨yn, yi, yd, yp, yl⟩, yA, yC⟩).set HLK.out ⟨⟨xn, xi, xd, xp, xl⟩, xA, xC⟩
            rw [HSW.out] at hset
            dsimp only at hset
            rw [← HXM.out, ← HYM.out] at hset
            have HSET := Lib.hid hset
            have hx := FJ9.out
            have hy := FK9.out
            unfold Five at hx hy
            obtain ⟨x0, x1, x2, x3, x4⟩ := hx
            obtain ⟨y0, y1, y2, y3, y4⟩ := hy
            have hz : ∀ h, ((going a ⟨⟨xn, xi, xd, xp, xl⟩, xA, xC⟩ J rest).set J ⟨⟨yn, yi, yd, yp, yl⟩, yA, yC⟩)[K]'h = ⟨⟨yn, yi, yd, yp, yl⟩, yA, yC⟩ := HKY.out
            have z := (HJ9.out.set HLJ.out ⟨⟨yn, yi, yd, yp, yl⟩, yA, yC⟩).sits.five HLK.out (hz _)
            dsimp only at z
            rw [← HYM.out] at z
            unfold Five at z
            obtain ⟨z0, z1, z2, z3, z4⟩ := z
            clear hset hlx fr hz
            go_wp2
            go_region
            generalize ((((((((((w9.setCell ⟨g, off + J * 5, none⟩ (.int .i64 yn)).setCell ⟨g, off + J * 5 + 1, none⟩ (.int .i64 yi)).setCell ⟨g, off + J * 5 + 2, none⟩ (.int .i64 yd)).setCell ⟨g, off + J * 5 + 3, none⟩ (.int .i64 yp)).setCell ⟨g, off + J * 5 + 4, none⟩ (.slice yA ym yC)).setCell ⟨g, off + K * 5, none⟩ (.int .i64 xn)).setCell ⟨g, off + K * 5 + 1, none⟩ (.int .i64 xi)).setCell ⟨g, off + K * 5 + 2, none⟩ (.int .i64 xd)).setCell ⟨g, off + K * 5 + 3, none⟩ (.int .i64 xp)).setCell ⟨g, off + K * 5 + 4, none⟩ (.slice xA xm xC)) = ws at HSET ⊢
            clear x0 x1 x2 x3 x4 y0 y1 y2 y3 y4 z0 z1 z2 z3 z4 f0 f1 f2 f3 f4 f5 f6 f7 f8 f9
            go_wp2
            go_roundw
            case rel => exact ⟨K, by go_num, by omega, Lib.hid HSET.out.drew, HM9⟩
            case measure => simp [intOf]; omega
          · have q1 : decide (cc < 0) = false := by rw [HCM.out]; exact decide_eq_false hlx
            have q2 : ¬ cc < 0 := of_decide_eq_false q1
            have HS9 : Hid (Sorts w g off (So.isort Sx.num (l.take (I + 1)) ++ l.drop (I + 1)) w9) := Lib.hid (by
              rw [← HSTOP.out (by show yn ≤ xn; omega)]; exact HJ9.out)
            clear hlx
            go_wp2
            go_roundw
            case rel => exact ⟨I + 1, by go_num, by omega, by omega, HS9⟩
            case measure => simp [intOf]; omega
    · have e0 : decide ((I : Int) < (n : Int)) = false := decide_eq_false (by omega)
      have HE : Hid (Sorts w g off (So.isort Sx.num l) wr) := Lib.hid (by
        have h1 := HS.out
        rwa [List.take_of_length_le (by rw [← HN.out]; omega), List.drop_eq_nil_of_le (by rw [← HN.out]; omega), List.append_nil] at h1)
      go_wp2
      go_end0
      exact ⟨rfl, HE.out⟩
set_option maxHeartbeats 1000000 in
theorem stable_any (g off : Nat) (l : List Sx) (n C : Nat) (w : World) (hn : n = l.length) (hm : n < 20) (h : SitsX w g off l) :
    Calls Tryz.prog 59 #[.slice (some ⟨g, off, none⟩) n C, .int .i64 (n : Int), .func (.func 46) #[] #[]] w fun e w' => e = .returned (.tuple #[]) ∧ Sorts w g off (So.isort Sx.num l) w' := by
  have HC := Lib.hid (insertion_any g off l n C w hn (by omega) h)
  have e0 : decide ((20 : Int) ≤ (n : Int)) = false := decide_eq_false (by omega)
  have e1 : decide ((20 : Int) < (n : Int)) = false := decide_eq_false (by omega)
  have e2 : decide (20 ≤ n) = false := decide_eq_false (by omega)
  have e3 : decide (20 < n) = false := decide_eq_false (by omega)
  clear h hn
  go_enter Tryz.func59, Tryz.ntmps59
  go_wp2
  go_loopw [7, 8] (fun va vb wr => va = .int .i64 0 ∧ vb = .int .i64 20 ∧ Hid (wr = w)) (fun _ _ _ => 0)
  case atStart => exact ⟨rfl, rfl, Lib.hid rfl⟩
  case round =>
    obtain ⟨rfl, rfl, HW⟩ := hrel
    go_wp2_with fail
    rw [HW.out]
    refine HC.out.mono ?_
    rintro e w1 ⟨rfl, hs⟩
    have HS := Lib.hid hs
    clear hs
    go_wp2
    go_loopw [6, 7, 8, 9] (fun vz va vb vm wr => vz = .int .i64 20 ∧ Hid (wr = w1)) (fun _ _ _ _ _ => 0)
    case atStart => exact ⟨rfl, Lib.hid rfl⟩
    case round =>
      obtain ⟨rfl, HW1⟩ := hrel
      go_wp2
      go_end0
      rw [HW1.out]
      exact ⟨rfl, HS.out⟩
theorem sort_any (g off : Nat) (l : List Sx) (n C : Nat) (w : World) (hn : n = l.length) (hm : n < 20) (h : SitsX w g off l) :
    Calls Tryz.prog 45 #[.slice (some ⟨g, off, none⟩) n C, .func (.func 46) #[] #[]] w fun e w' => e = .returned (.tuple #[]) ∧ Sorts w g off (So.isort Sx.num l) w' := by
  have HC := Lib.hid (stable_any g off l n C w hn hm h)
  clear h hn
  go_enter Tryz.func45, Tryz.ntmps45
  go_wp2_with fail
  refine HC.out.mono ?_
  rintro e w1 ⟨rfl, hs⟩
  have HS := Lib.hid hs
  clear hs
  go_wp2
  go_end0
  exact ⟨rfl, HS.out⟩
end Go.Proofs.YtndofmoepjfnfaaGreat
