/- What slices' insertion sort makes of a row of seals, and the stable sort of at most nineteen. What slices.CompactFunc makes of a row of seals: the first of each run of one number. A row of numbers that a call owns and makes longer by append. No function of the program. One who reads: a Reader, what is made, and the answer's own block. No function of the program. What ReadSeal of package record answers. What Sealed of package volume answers: the seal that a tape ends with. -/
import Derived.Test.YtfkoomldncfdnaaGreatMh
import Derived.IntWalk
import Derived.BigQuiet
import Derived.Deep.QuietTactic
import Derived.Deep.RegionHeld3
import Derived.Deep.DeepFit
import Derived.Lib.SliceRun
import Derived.Test.YtfkoomldncfdnaaGreatMc
import Derived.Laws.AppendOwn
import Derived.OwnWalk
import Derived.Test.YtfkoomldncfdnaaGreatMd
import Derived.Test.YtfkoomldncfdnaaGreatMe
import Derived.Test.YtfkoomldncfdnaaGreatMf
namespace Go.Proofs.YtfkoomldncfdnaaGreat
open Go.RowKit
open Pt (Tx)

/-- the row while x goes to its place among those that are sorted already -/
def going (a : List Sx) (x : Sx) (j : Nat) (rest : List Sx) : List Sx := a.take j ++ x :: (a.drop j ++ rest)
theorem going_len {a : List Sx} {x : Sx} {j : Nat} {rest : List Sx} (h : j ≤ a.length) : (going a x j rest).length = a.length + 1 + rest.length := by
  unfold going; simp; omega
theorem going_at {a : List Sx} {x : Sx} {j : Nat} {rest : List Sx} (h : j ≤ a.length) (hj : j < (going a x j rest).length) : (going a x j rest)[j] = x := by
  simp only [going]
  rw [List.getElem_append_right (by rw [List.length_take]; omega)]
  simp [Nat.min_eq_left h]
theorem going_before {a : List Sx} {x : Sx} {j : Nat} {rest : List Sx} (h : j + 1 ≤ a.length) (hj : j < (going a x (j + 1) rest).length) : (going a x (j + 1) rest)[j] = a[j] := by
  simp only [going]
  rw [List.getElem_append_left (by rw [List.length_take]; omega), List.getElem_take]
theorem going_start {a : List Sx} {x : Sx} {rest : List Sx} : a ++ x :: rest = going a x a.length rest := by
  unfold going; simp
/-- the two are exchanged -/
theorem going_swap {a : List Sx} {x : Sx} {j : Nat} {rest : List Sx} (h : j + 1 ≤ a.length) : ((going a x (j + 1) rest).set (j + 1) a[j]).set j x = going a x j rest := by
  unfold going
  have e1 : (a.take (j + 1)).length = j + 1 := by rw [List.length_take]; omega
  rw [List.set_append_right _ _ (by omega), e1, Nat.sub_self, List.set_cons_zero, List.take_succ_eq_append_getElem h]
  have e2 : (a.take j).length = j := by rw [List.length_take]; omega
  rw [List.append_assoc, List.set_append_right _ _ (by omega), e2, Nat.sub_self]
  have e3 : a.drop j = a[j] :: a.drop (j + 1) := List.drop_eq_getElem_cons h
  rw [e3]; rfl
/-- what the sort keeps: where the row lies, and what else is as it was -/
structure Sorts (w : World) (g off : Nat) (l : List Sx) (x : World) : Prop where
  sits : SitsX x g off l
  kp : Kp (· = g) w x
theorem Sorts.old {w x y : World} {g off : Nat} {l : List Sx} (h : Sorts w g off l x) (hb : Below x.heap.size x y) : Sorts w g off l y :=
  ⟨h.sits.old hb, h.kp.trans (Kp.of_below hb)⟩
theorem Sorts.drew {w x : World} {g off : Nat} {l : List Sx} (h : Sorts w g off l x) : Sorts w g off l x.drew := ⟨h.sits, h.kp.drew⟩
theorem Sorts.drewN {w x : World} {g off : Nat} {l : List Sx} (h : Sorts w g off l x) (n : Nat) : Sorts w g off l (x.drewN n) := ⟨h.sits, h.kp.drewN n⟩
theorem Sorts.set {w x : World} {g off : Nat} {l : List Sx} (h : Sorts w g off l x) {i : Nat} (hi : i < l.length) (s : Sx) :
    Sorts w g off (l.set i s) (((((x.setCell ⟨g, off + i * 5, none⟩ (.int .i64 s.s.number)).setCell ⟨g, off + i * 5 + 1, none⟩ (.int .i64 s.s.index)).setCell ⟨g, off + i * 5 + 2, none⟩ (.int .i64 s.s.data)).setCell ⟨g, off + i * 5 + 3, none⟩ (.int .i64 s.s.parity)).setCell ⟨g, off + i * 5 + 4, none⟩ (.slice s.A s.s.labels.length s.C)) :=
  ⟨h.sits.set hi s, h.kp.trans (SitsX.kp_set ..)⟩
/-- the five cells of one of them -/
def Five (w : World) (g o : Nat) (n i d p : Int) (A : Option Addr) (m C : Nat) : Prop := w.cell? ⟨g, o, none⟩ = some (.int .i64 n) ∧ w.cell? ⟨g, o + 1, none⟩ = some (.int .i64 i) ∧ w.cell? ⟨g, o + 2, none⟩ = some (.int .i64 d) ∧ w.cell? ⟨g, o + 3, none⟩ = some (.int .i64 p) ∧ w.cell? ⟨g, o + 4, none⟩ = some (.slice A m C)
theorem Five.old {w w' : World} {g o : Nat} {n i d p : Int} {A : Option Addr} {m C : Nat} (h : Five w g o n i d p A m C) (hb : Below w.heap.size w w') : Five w' g o n i d p A m C := by
  obtain ⟨h0, h1, h2, h3, h4⟩ := h
  have hl := World.block_lt_of_cell? _ _ h0
  exact ⟨(hb.cell hl).trans h0, (hb.cell (p := ⟨g, o + 1, none⟩) hl).trans h1, (hb.cell (p := ⟨g, o + 2, none⟩) hl).trans h2, (hb.cell (p := ⟨g, o + 3, none⟩) hl).trans h3, (hb.cell (p := ⟨g, o + 4, none⟩) hl).trans h4⟩
theorem SitsX.five {w : World} {g off : Nat} {l : List Sx} (h : SitsX w g off l) {i : Nat} (hi : i < l.length) {x : Sx} (hx : l[i] = x) : Five w g (off + i * 5) x.s.number x.s.index x.s.data x.s.parity x.A x.s.labels.length x.C := by
  subst hx; exact h.at_ hi
set_option maxRecDepth 100000 in
set_option maxHeartbeats 8000000 in
theorem insertion_any (g off : Nat) (l : List Sx) (n C : Nat) (w : World) (hn : n = l.length) (hm : n ≤ 1000) (h : SitsX w g off l) :
    Calls Tryz.prog 96 #[.slice (some ⟨g, off, none⟩) n C, .int .i64 0, .int .i64 (n : Int), .func (.func 32) #[] #[]] w fun e w' => e = .returned (.tuple #[]) ∧ Sorts w g off (So.isort Sx.num l) w' := by
  have HN := Lib.hid hn
  have H0 : Hid (Sorts w g off (So.isort Sx.num (l.take 1) ++ l.drop 1) w) := Lib.hid ⟨by
    rw [show So.isort Sx.num (l.take 1) = l.take 1 by cases l <;> rfl, List.take_append_drop]; exact h, Kp.refl _ _⟩
  clear h hn
  go_enter Tryz.func96, Tryz.ntmps96
  go_wp2
  go_loopw [8, 9] (fun vi vj wr => ∃ I : Nat, vi = .int .i64 (I : Int) ∧ 1 ≤ I ∧ I ≤ n + 1 ∧ Hid (Sorts w g off (So.isort Sx.num (l.take I) ++ l.drop I) wr)) (fun vi _ _ => n + 1 - (intOf vi).toNat)
  case atStart => exact ⟨1, rfl, Nat.le_refl _, by omega, H0⟩
  case round =>
    obtain ⟨I, rfl, hI1, hI, HS⟩ := hrel
    by_cases hlt : I < n
    · have e0 : decide ((I : Int) < (n : Int)) = true := decide_eq_true (by omega)
      have hltl : I < l.length := by rw [← HN.out]; exact hlt
      obtain ⟨x, hx⟩ : ∃ x, x = l[I] := ⟨_, rfl⟩
      obtain ⟨a, ha⟩ : ∃ a, a = So.isort Sx.num (l.take I) := ⟨_, rfl⟩
      have hal : a.length = I := by rw [ha, So.isort_len, List.length_take]; omega
      have HA := Lib.hid ha
      have HAL := Lib.hid hal
      have HASC : Hid (So.Asc Sx.num a) := Lib.hid (by rw [ha]; exact So.isort_asc _ _)
      have HX := Lib.hid hx
      obtain ⟨rest, hrest⟩ : ∃ r, r = l.drop (I + 1) := ⟨_, rfl⟩
      have HREST := Lib.hid hrest
      have HS1 : Hid (Sorts w g off (going a x I rest) wr) := Lib.hid (by
        have h1 := HS.out
        rw [← ha, List.drop_eq_getElem_cons hltl, ← hx, ← hrest, going_start, hal] at h1
        exact h1)
      have HT0 : Hid (∀ b ∈ a.drop I, x.num < b.num) := Lib.hid (by rw [List.drop_eq_nil_of_le (by omega)]; intro b hb; cases hb)
      have HEND : Hid (∀ j, j ≤ I → (∀ b ∈ a.take j, b.num ≤ x.num) → (∀ b ∈ a.drop j, x.num < b.num) → going a x j rest = So.isort Sx.num (l.take (I + 1)) ++ l.drop (I + 1)) := Lib.hid fun j _ h1 h2 => by
        rw [List.take_succ_eq_append_getElem hltl, So.isort_snoc, ← ha, ← hx, So.insR_at h1 h2, ← hrest]
        unfold going; simp
      clear ha hal hx hrest HS
      obtain ⟨wo, rfl⟩ : ∃ x, x = wr := ⟨wr, rfl⟩
      go_wp2
      go_loopw [9] (fun vj wr => ∃ J : Nat, vj = .int .i64 (J : Int) ∧ J ≤ I ∧ Hid (Sorts w g off (going a x J rest) wr) ∧ Hid (∀ b ∈ a.drop J, x.num < b.num)) (fun vj _ => (intOf vj).toNat)
      case atStart => exact ⟨I, rfl, Nat.le_refl _, HS1, HT0⟩
      case round =>
        obtain ⟨J, rfl, hJ, HJ, HT⟩ := hrel
        by_cases h0 : J = 0
        · have e1 : decide ((0 : Int) < (J : Int)) = false := decide_eq_false (by omega)
          have e2 : decide (0 < J) = false := decide_eq_false (by omega)
          have HE : Hid (Sorts w g off (So.isort Sx.num (l.take (I + 1)) ++ l.drop (I + 1)) wr) := Lib.hid (by
            have h1 := HEND.out J hJ (by rw [h0]; intro b hb; cases hb) HT.out
            rw [← h1]; exact HJ.out)
          clear h0
          go_wp2
          go_quiet (fail)
          go_wp2
          go_roundw
          case rel => exact ⟨I + 1, by go_num, by omega, by omega, Lib.hid (HE.out.drewN _)⟩
          case measure => simp [intOf]; omega
        · obtain ⟨K, hK⟩ : ∃ K, K = J - 1 := ⟨_, rfl⟩
          have e1 : decide ((0 : Int) < (J : Int)) = true := decide_eq_true (by omega)
          have e2 : decide (0 < J) = true := decide_eq_true (by omega)
          have hJK : J = K + 1 := by omega
          have HJK := Lib.hid hJK
          have hKa : K < a.length := by rw [HAL.out]; omega
          obtain ⟨y, hy⟩ : ∃ y, y = a[K] := ⟨_, rfl⟩
          have HY := Lib.hid hy
          have hgl : (going a x J rest).length = a.length + 1 + rest.length := going_len (by rw [HAL.out]; exact hJ)
          have fJ := HJ.out.sits.five (i := J) (x := x) (by rw [hgl, HAL.out]; omega) (going_at (by rw [HAL.out]; exact hJ) _)
          have fK : Five wr g (off + K * 5) y.s.number y.s.index y.s.data y.s.parity y.A y.s.labels.length y.C := HJ.out.sits.five (i := K) (x := y) (by rw [hgl, HAL.out]; omega) (by
            rw [hy]
            have : ∀ (q : List Sx) (_ : q = going a x (K + 1) rest) (h : K < q.length), q[K] = a[K] := by
              rintro q rfl h; exact going_before (by omega) h
            exact this _ (by rw [hJK]) _)
          have s1 : IntKind.i64.wrap ((J : Int) - 1) = (K : Int) := by rw [IntWalk.i64_in _ (by omega)]; omega
          have HSW : Hid (((going a x J rest).set J y).set K x = going a x K rest) := Lib.hid (by rw [hJK, hy]; exact going_swap (by omega))
          have HLJ : Hid (J < (going a x J rest).length) := Lib.hid (by rw [hgl, HAL.out]; omega)
          have HLK : Hid (K < ((going a x J rest).set J y).length) := Lib.hid (by rw [List.length_set, hgl, HAL.out]; omega)
          have HKY : Hid (∀ h, ((going a x J rest).set J y)[K]'h = y) := Lib.hid fun h => by
            have : ∀ (q : List Sx) (_ : q = going a x (K + 1) rest) (h : K < q.length), q[K] = a[K] := by
              rintro q rfl h; exact going_before (by omega) h
            exact ((List.getElem_set_ne (by omega) _).trans (this _ (by rw [hJK]) _)).trans hy.symm
          have HSTOP : Hid (y.num ≤ x.num → going a x J rest = So.isort Sx.num (l.take (I + 1)) ++ l.drop (I + 1)) := Lib.hid fun h1 => by
            refine HEND.out J hJ (fun b hb => ?_) HT.out
            rw [hJK] at hb
            exact So.asc_take HASC.out hKa (by rw [← hy]; exact h1) b hb
          have HMORE : Hid (x.num < y.num → ∀ b ∈ a.drop K, x.num < b.num) := Lib.hid fun h1 b hb => by
            rw [List.drop_eq_getElem_cons hKa, ← hy] at hb
            rcases List.mem_cons.1 hb with rfl | hb
            · exact h1
            · rw [← hJK] at hb; exact HT.out b hb
          have hJn : J < n := by omega
          have hKn : K < n := by omega
          have hJ1 : 0 < J := by omega
          have hKJ : K < J := by omega
          clear hy hgl HY hKa HEND hJK
          obtain ⟨⟨xn, xi, xd, xp, xl⟩, xA, xC⟩ := x
          obtain ⟨⟨yn, yi, yd, yp, yl⟩, yA, yC⟩ := y
          obtain ⟨xm, hxm⟩ : ∃ m, m = xl.length := ⟨_, rfl⟩
          obtain ⟨ym, hym⟩ : ∃ m, m = yl.length := ⟨_, rfl⟩
          dsimp only at fJ fK
          rw [← hxm] at fJ
          rw [← hym] at fK
          have HXM := Lib.hid hxm
          have HYM := Lib.hid hym
          have FJ := Lib.hid fJ
          have FK := Lib.hid fK
          clear hxm hym fJ fK hK
          have hbd : Below wr.heap.size wr wr.drew := (Below.refl _ _).drew
          have HF : Hid (∀ z, Below wr.heap.size wr z → Five z g (off + J * 5) xn xi xd xp xA xm xC ∧ Five z g (off + K * 5) yn yi yd yp yA ym yC ∧ Below wr.heap.size wr z) := Lib.hid fun z hz => ⟨FJ.out.old hz, FK.out.old hz, hz⟩
          have hx0 := HF.out _ hbd
          unfold Five at hx0
          have hcm : decide (cmpI xn yn < 0) = decide (xn < yn) := cmpI_lt
          have hcall := less_any xn xi xd xp xA xm xC yn yi yd yp yA ym yC wr.drew
          obtain ⟨cc, hcc⟩ : ∃ c, c = cmpI xn yn := ⟨_, rfl⟩
          rw [← hcc] at hcm hcall
          have HCALL := Lib.hid hcall
          have HCM := Lib.hid hcm
          clear hcall hcm hcc
          go_wp2
          go_region_held3 (fun z => (z.cell? ⟨g, off + J * 5, none⟩ = some (.int .i64 xn) ∧ z.cell? ⟨g, off + J * 5 + 1, none⟩ = some (.int .i64 xi) ∧ z.cell? ⟨g, off + J * 5 + 2, none⟩ = some (.int .i64 xd) ∧ z.cell? ⟨g, off + J * 5 + 3, none⟩ = some (.int .i64 xp) ∧ z.cell? ⟨g, off + J * 5 + 4, none⟩ = some (.slice xA xm xC)) ∧ (z.cell? ⟨g, off + K * 5, none⟩ = some (.int .i64 yn) ∧ z.cell? ⟨g, off + K * 5 + 1, none⟩ = some (.int .i64 yi) ∧ z.cell? ⟨g, off + K * 5 + 2, none⟩ = some (.int .i64 yd) ∧ z.cell? ⟨g, off + K * 5 + 3, none⟩ = some (.int .i64 yp) ∧ z.cell? ⟨g, off + K * 5 + 4, none⟩ = some (.slice yA ym yC)) ∧ Below wr.heap.size wr z)
            (first
              | exact hx2
              | exact hx0)
            (first
              | (go_at_call 32; refine HCALL.out.mono ?_; rintro e w9 ⟨rfl, hb9⟩; have hx2 := HF.out w9 (hbd.trans hb9); unfold Five at hx2))
          have HJ9 := Lib.hid (HJ.out.old hx2.2.2)
          have FJ9 := Lib.hid (FJ.out.old hx2.2.2)
          have FK9 := Lib.hid (FK.out.old hx2.2.2)
          clear HCALL hx2 hx0 hb9 hbd HF
          by_cases hlx : xn < yn
          · have q1 : decide (cc < 0) = true := by rw [HCM.out]; exact decide_eq_true hlx
            have q2 : cc < 0 := of_decide_eq_true q1
            have HM9 := Lib.hid (HMORE.out hlx)
            have fr : ∀ k, w9.frozen? ⟨g, k, none⟩ = false := HJ9.out.sits.free
            have f0 := fr (off + J * 5)
            have f1 := fr (off + J * 5 + 1)
            have f2 := fr (off + J * 5 + 2)
            have f3 := fr (off + J * 5 + 3)
            have f4 := fr (off + J * 5 + 4)
            have f5 := fr (off + K * 5)
            have f6 := fr (off + K * 5 + 1)
            have f7 := fr (off + K * 5 + 2)
            have f8 := fr (off + K * 5 + 3)
            have f9 := fr (off + K * 5 + 4)
            have hset := (HJ9.out.set HLJ.out ⟨⟨yn, yi, yd, yp, yl⟩, yA, yC⟩).set HLK.out ⟨⟨xn, xi, xd, xp, xl⟩, xA, xC⟩
            rw [HSW.out] at hset
            dsimp only at hset
            rw [← HXM.out, ← HYM.out] at hset
            have HSET := Lib.hid hset
            have hx := FJ9.out
            have hy := FK9.out
            unfold Five at hx hy
            obtain ⟨x0, x1, x2, x3, x4⟩ := hx
            obtain ⟨y0, y1, y2, y3, y4⟩ := hy
            have hz : ∀ h, ((going a ⟨⟨xn, xi, xd, xp, xl⟩, xA, xC⟩ J rest).set J ⟨⟨yn, yi, yd, yp, yl⟩, yA, yC⟩)[K]'h = ⟨⟨yn, yi, yd, yp, yl⟩, yA, yC⟩ := HKY.out
            have z := (HJ9.out.set HLJ.out ⟨⟨yn, yi, yd, yp, yl⟩, yA, yC⟩).sits.five HLK.out (hz _)
            dsimp only at z
            rw [← HYM.out] at z
            unfold Five at z
            obtain ⟨z0, z1, z2, z3, z4⟩ := z
            clear hset hlx fr hz
            go_wp2
            go_region
            generalize ((((((((((w9.setCell ⟨g, off + J * 5, none⟩ (.int .i64 yn)).setCell ⟨g, off + J * 5 + 1, none⟩ (.int .i64 yi)).setCell ⟨g, off + J * 5 + 2, none⟩ (.int .i64 yd)).setCell ⟨g, off + J * 5 + 3, none⟩ (.int .i64 yp)).setCell ⟨g, off + J * 5 + 4, none⟩ (.slice yA ym yC)).setCell ⟨g, off + K * 5, none⟩ (.int .i64 xn)).setCell ⟨g, off + K * 5 + 1, none⟩ (.int .i64 xi)).setCell ⟨g, off + K * 5 + 2, none⟩ (.int .i64 xd)).setCell ⟨g, off + K * 5 + 3, none⟩ (.int .i64 xp)).setCell ⟨g, off + K * 5 + 4, none⟩ (.slice xA xm xC)) = ws at HSET ⊢
            clear x0 x1 x2 x3 x4 y0 y1 y2 y3 y4 z0 z1 z2 z3 z4 f0 f1 f2 f3 f4 f5 f6 f7 f8 f9
            go_wp2
            go_roundw
            case rel => exact ⟨K, by go_num, by omega, Lib.hid HSET.out.drew, HM9⟩
            case measure => simp [intOf]; omega
          · have q1 : decide (cc < 0) = false := by rw [HCM.out]; exact decide_eq_false hlx
            have q2 : ¬ cc < 0 := of_decide_eq_false q1
            have HS9 : Hid (Sorts w g off (So.isort Sx.num (l.take (I + 1)) ++ l.drop (I + 1)) w9) := Lib.hid (by
              rw [← HSTOP.out (by show yn ≤ xn; omega)]; exact HJ9.out)
            clear hlx
            go_wp2
            go_roundw
            case rel => exact ⟨I + 1, by go_num, by omega, by omega, HS9⟩
            case measure => simp [intOf]; omega
    · have e0 : decide ((I : Int) < (n : Int)) = false := decide_eq_false (by omega)
      have HE : Hid (Sorts w g off (So.isort Sx.num l) wr) := Lib.hid (by
        have h1 := HS.out
        rwa [List.take_of_length_le (by rw [← HN.out]; omega), List.drop_eq_nil_of_le (by rw [← HN.out]; omega), List.append_nil] at h1)
      go_wp2
      go_end0
      exact ⟨rfl, HE.out⟩
set_option maxHeartbeats 1000000 in
theorem stable_any (g off : Nat) (l : List Sx) (n C : Nat) (w : World) (hn : n = l.length) (hm : n < 20) (h : SitsX w g off l) :
    Calls Tryz.prog 61 #[.slice (some ⟨g, off, none⟩) n C, .int .i64 (n : Int), .func (.func 32) #[] #[]] w fun e w' => e = .returned (.tuple #[]) ∧ Sorts w g off (So.isort Sx.num l) w' := by
  have HC := Lib.hid (insertion_any g off l n C w hn (by omega) h)
  have e0 : decide ((20 : Int) ≤ (n : Int)) = false := decide_eq_false (by omega)
  have e1 : decide ((20 : Int) < (n : Int)) = false := decide_eq_false (by omega)
  have e2 : decide (20 ≤ n) = false := decide_eq_false (by omega)
  have e3 : decide (20 < n) = false := decide_eq_false (by omega)
  clear h hn
  go_enter Tryz.func61, Tryz.ntmps61
  go_wp2
  go_loopw [7, 8] (fun va vb wr => va = .int .i64 0 ∧ vb = .int .i64 20 ∧ Hid (wr = w)) (fun _ _ _ => 0)
  case atStart => exact ⟨rfl, rfl, Lib.hid rfl⟩
  case round =>
    obtain ⟨rfl, rfl, HW⟩ := hrel
    go_wp2_with fail
    rw [HW.out]
    refine HC.out.mono ?_
    rintro e w1 ⟨rfl, hs⟩
    have HS := Lib.hid hs
    clear hs
    go_wp2
    go_loopw [6, 7, 8, 9] (fun vz va vb vm wr => vz = .int .i64 20 ∧ Hid (wr = w1)) (fun _ _ _ _ _ => 0)
    case atStart => exact ⟨rfl, Lib.hid rfl⟩
    case round =>
      obtain ⟨rfl, HW1⟩ := hrel
      go_wp2
      go_end0
      rw [HW1.out]
      exact ⟨rfl, HS.out⟩
theorem sort_any (g off : Nat) (l : List Sx) (n C : Nat) (w : World) (hn : n = l.length) (hm : n < 20) (h : SitsX w g off l) :
    Calls Tryz.prog 31 #[.slice (some ⟨g, off, none⟩) n C, .func (.func 32) #[] #[]] w fun e w' => e = .returned (.tuple #[]) ∧ Sorts w g off (So.isort Sx.num l) w' := by
  have HC := Lib.hid (stable_any g off l n C w hn hm h)
  clear h hn
  go_enter Tryz.func31, Tryz.ntmps31
  go_wp2_with fail
  refine HC.out.mono ?_
  rintro e w1 ⟨rfl, hs⟩
  have HS := Lib.hid hs
  clear hs
  go_wp2
  go_end0
  exact ⟨rfl, HS.out⟩
end Go.Proofs.YtfkoomldncfdnaaGreat
namespace Go.Proofs.YtfkoomldncfdnaaGreat
open Go.RowKit
open Pt (Tx)

def zeroX : List Value := [.int .i64 0, .int .i64 0, .int .i64 0, .int .i64 0, .slice none 0 0]
/-- all of these cells are set -/
theorem kp_cells (g : Nat) : ∀ (vs : List Value) (o : Nat) (w : World), Kp (· = g) w (w.setCells g o vs)
  | [], _, w => Kp.refl _ w
  | v :: vs, o, w => (Kp.store w g o v).trans (kp_cells g vs (o + 1) (w.setCell ⟨g, o, none⟩ v))
theorem heap_cells (g : Nat) (t : TypeId) : ∀ (vs : List Value) (o : Nat) (w : World) (c : Array Value), w.heap[g]? = some (.cells c t (0, 0)) →
    ∃ c', (w.setCells g o vs).heap[g]? = some (.cells c' t (0, 0)) ∧ c'.size = c.size ∧ ∀ i, i < o → c'[i]? = c[i]?
  | [], _, w, c, h => ⟨c, h, rfl, fun _ _ => rfl⟩
  | v :: vs, o, w, c, h => by
    obtain ⟨c', h1, h2, h3⟩ := heap_cells g t vs (o + 1) (w.setCell ⟨g, o, none⟩ v) _ (heap_set h v)
    refine ⟨c', h1, by simpa using h2, fun i hi => ?_⟩
    rw [h3 i (by omega), Array.getElem?_setIfInBounds, if_neg (by omega)]
theorem SitsX.cells {w : World} {g off : Nat} {l : List Sx} (h : SitsX w g off l) {q : Nat} (vs : List Value) : SitsX (w.setCells g (off + q * 5) vs) g off (l.take q) := by
  obtain ⟨cur, hb, hs, hc⟩ := h.take q
  obtain ⟨c', h1, h2, h3⟩ := heap_cells g _ vs (off + q * 5) w cur hb
  refine ⟨c', h1, by rw [h2]; exact hs, fun i hi j u hu => ?_⟩
  have hj : j < 5 := by
    have := (List.getElem?_eq_some_iff.1 hu).1
    simpa [Sx.enc] using this
  have hiq : i < q := by rw [List.length_take] at hi; omega
  rw [h3 _ (by omega)]
  exact hc i hi j u hu
/-- what lies behind a place is set to nothing -/
theorem clear_run (w : World) (g o n C : Nat) (hn : 0 < n) (hc : ∀ j, j < n * 5 → (w.cell? ⟨g, o + j, none⟩).isSome = true) (hf : ∀ j, w.frozen? ⟨g, j, none⟩ = false) :
    ∃ vs : List Value, ∀ ty, (Builtin.clear_ #[33] ty #[.slice (some ⟨g, o, none⟩) n C]).run Tryz.prog w = .ok (.tuple #[]) (w.setCells g o vs) := by
  obtain ⟨z, hz⟩ : ∃ z : Value, z = .agg #[.int .i64 0, .int .i64 0, .int .i64 0, .int .i64 0, .slice none 0 0] := ⟨_, rfl⟩
  have hv : ∀ w, (zeroValue 38).run Tryz.prog w = .ok z w := fun w => by rw [hz]; kernel_rfl
  have hzc : z.cells = #[.int .i64 0, .int .i64 0, .int .i64 0, .int .i64 0, .slice none 0 0] := by rw [hz]; rfl
  have hlen : (Builtin.zeroCells z.cells n).toList.length = n * 5 := by rw [hzc]; simp [Builtin.zeroCells]
  have hone : ∀ v ∈ (Builtin.zeroCells z.cells n).toList, v.oneCell' = true := by
    intro v hv'
    rw [hzc] at hv'
    simp only [Builtin.zeroCells, Array.toList_map, List.mem_map] at hv'
    obtain ⟨i, _, rfl⟩ := hv'
    have hi : i % 5 < 5 := Nat.mod_lt _ (by omega)
    show (#[Value.int .i64 0, .int .i64 0, .int .i64 0, .int .i64 0, .slice none 0 0])[i % 5]!.oneCell' = true
    generalize i % 5 = k at hi
    match k, hi with
    | 0, _ => rfl
    | 1, _ => rfl
    | 2, _ => rfl
    | 3, _ => rfl
    | 4, _ => rfl
    | k + 5, hi => omega
  have hst := run_storeCells_cells (P := Tryz.prog) g o (Builtin.zeroCells z.cells n).toList 0 w (by rw [hlen]; simpa using hc) (by intro j _; exact hf _) hone
  simp only [Nat.add_zero] at hst
  refine ⟨(Builtin.zeroCells z.cells n).toList, fun ty => ?_⟩
  obtain ⟨m, rfl⟩ : ∃ m, n = m + 1 := ⟨n - 1, by omega⟩
  simp [Builtin.clear_, run_underlying Tryz.underlying33, hv, hst]
theorem SitsX.some_ {w : World} {g off : Nat} {l : List Sx} (h : SitsX w g off l) {k : Nat} (hk : k < off + l.length * 5) : (w.cell? ⟨g, k, none⟩).isSome = true := by
  obtain ⟨cur, hb, hs, _⟩ := h
  rw [heap_cell hb, Array.getElem?_eq_getElem (by omega)]; rfl
/-- how far the second walk has come: the first q are what is kept of the first k0 + k2 -/
structure Kept2 (l : List Sx) (k0 k2 q : Nat) (M : List Sx) : Prop where
  len : M.length = l.length
  lo : k0 ≤ q
  hi : q + 1 ≤ k0 + k2
  kept : M.take q = So.compact Sx.num (l.take (k0 + k2))
  rest : ∀ i (_ : k0 + k2 ≤ i + 1) (h : i < M.length) (h' : i < l.length), M[i] = l[i]
theorem Kept2.skip {l : List Sx} {k0 k2 q : Nat} {M : List Sx} (h : Kept2 l k0 k2 q M) {j : Nat} (hj : k0 + k2 = j + 1) (hl : k0 + k2 < l.length) {x y : Sx} (hx : l[k0 + k2]'hl = x) (hy : l[j]'(by omega) = y) (he : Sx.num x = Sx.num y) : Kept2 l k0 (k2 + 1) q M := by
  refine ⟨h.len, h.lo, by have := h.hi; omega, ?_, fun i hi a b => h.rest i (by omega) a b⟩
  have h1 := So.compact_take (f := Sx.num) (l := l) (k := j) (by omega)
  rw [h.kept, show k0 + (k2 + 1) = j + 1 + 1 by omega, h1, if_pos ?_, List.append_nil, hj]
  rw [hy, ← he, ← hx]; congr 2; exact hj.symm
theorem Kept2.take {l : List Sx} {k0 k2 q : Nat} {M : List Sx} (h : Kept2 l k0 k2 q M) {j : Nat} (hj : k0 + k2 = j + 1) (hl : k0 + k2 < l.length) {x y : Sx} (hx : l[k0 + k2]'hl = x) (hy : l[j]'(by omega) = y) (he : ¬ Sx.num x = Sx.num y) : Kept2 l k0 (k2 + 1) (q + 1) (M.set q x) := by
  have h0 := h.hi
  have h2 := h.len
  refine ⟨by rw [List.length_set]; exact h.len, by have := h.lo; omega, by omega, ?_, fun i hi a b => ?_⟩
  · have h1 := So.compact_take (f := Sx.num) (l := l) (k := j) (by omega)
    have e : l[j + 1]'(by omega) = x := by rw [← hx]; congr 1; exact hj.symm
    rw [show k0 + (k2 + 1) = j + 1 + 1 by omega, h1, e, hy, if_neg he, ← hj, ← h.kept, List.take_succ_eq_append_getElem (by rw [List.length_set]; omega), List.getElem_set_self, List.take_set_of_le (Nat.le_refl _)]
  · rw [List.getElem_set_ne (by omega)]
    exact h.rest i (by omega) _ b
set_option maxRecDepth 100000 in
set_option maxHeartbeats 8000000 in
theorem compact_any (g off : Nat) (l : List Sx) (n C : Nat) (w : World) (hn : n = l.length) (hC : n ≤ C) (hm : n ≤ 1000) (h : SitsX w g off l) :
    Calls Tryz.prog 34 #[.slice (some ⟨g, off, none⟩) n C, .func (.func 35) #[] #[]] w fun e w' => e = .returned (.slice (some ⟨g, off, none⟩) (So.compact Sx.num l).length C) ∧ Sorts w g off (So.compact Sx.num l) w' := by
  have HN := Lib.hid hn
  have H0 : Hid (Sorts w g off l w) := Lib.hid ⟨h, Kp.refl _ _⟩

  clear h hn
  by_cases h2 : n < 2
  · have e0 : decide ((n : Int) < 2) = true := decide_eq_true (by omega)
    have e1 : decide (n < 2) = true := decide_eq_true h2
    have HE : Hid (So.compact Sx.num l = l) := Lib.hid (by
      have hl := HN.out
      match l, hl with
      | [], _ => rfl
      | [a], _ => rfl
      | a :: b :: l, hl => simp at hl; omega)
    clear h2
    go_enter Tryz.func34, Tryz.ntmps34
    go_wp2
    go_ret
    rw [HE.out, ← HN.out]
    exact ⟨rfl, H0.out⟩
  · have e0 : decide ((n : Int) < 2) = false := decide_eq_false (by omega)
    have e1 : decide (n < 2) = false := decide_eq_false h2
    have HK0 : Hid (So.compact Sx.num (l.take 1) = l.take 1) := Lib.hid (So.compact_one (by rw [← HN.out]; omega))
    have h2' : 2 ≤ n := by omega
    clear h2
    go_enter Tryz.func34, Tryz.ntmps34
    go_wp2
    go_loopw [5] (fun vk wr => ∃ k : Nat, vk = .int .i64 (k : Int) ∧ 1 ≤ k ∧ k ≤ n ∧ Hid (So.compact Sx.num (l.take k) = l.take k) ∧ Hid (Sorts w g off l wr)) (fun vk _ => n - (intOf vk).toNat)
    case atStart => exact ⟨1, rfl, Nat.le_refl _, by omega, HK0, H0⟩
    case round =>
      obtain ⟨J, rfl, hJ1, hJn, HC0, HS⟩ := hrel
      by_cases hlt : J < n
      · have e2 : decide ((J : Int) < (n : Int)) = true := decide_eq_true (by omega)
        have e3 : decide (J < n) = true := decide_eq_true hlt
        obtain ⟨K, hK⟩ : ∃ K, K = J - 1 := ⟨_, rfl⟩
        have hJK : J = K + 1 := by omega
        have hKJ : K < J := by omega
        have hKn : K < n := by omega
        have s1 : IntKind.i64.wrap ((J : Int) - 1) = (K : Int) := by rw [IntWalk.i64_in _ (by omega)]; omega
        have hJl : J < l.length := by rw [← HN.out]; exact hlt
        have hKl : K < l.length := by omega
        have HCT : Hid (So.compact Sx.num (l.take (J + 1)) = l.take J ++ (if Sx.num l[J] = Sx.num l[K] then [] else [l[J]])) := Lib.hid (by
          have h1 := So.compact_take (f := Sx.num) (l := l) (k := K) (by omega)
          have h3 := HC0.out
          rw [hJK] at h3
          rw [h3] at h1
          have : ∀ (q : Nat) (_ : q = K + 1) (h : q < l.length), So.compact Sx.num (l.take (q + 1)) = l.take q ++ (if Sx.num l[q] = Sx.num l[K] then [] else [l[q]]) := by
            rintro q rfl h; exact h1
          exact this J hJK hJl)
        obtain ⟨x, hx⟩ : ∃ x, x = l[J] := ⟨_, rfl⟩
        obtain ⟨y, hy⟩ : ∃ y, y = l[K] := ⟨_, rfl⟩
        have fJ := HS.out.sits.five (i := J) (x := x) hJl hx.symm
        have fK := HS.out.sits.five (i := K) (x := y) hKl hy.symm
        have HX := Lib.hid hx
        rw [← hx, ← hy] at HCT
        have HJK := Lib.hid hJK
        clear hx hy hK hJK
        obtain ⟨⟨xn, xi, xd, xp, xl⟩, xA, xC⟩ := x
        obtain ⟨⟨yn, yi, yd, yp, yl⟩, yA, yC⟩ := y
        obtain ⟨xm, hxm⟩ : ∃ m, m = xl.length := ⟨_, rfl⟩
        obtain ⟨ym, hym⟩ : ∃ m, m = yl.length := ⟨_, rfl⟩
        dsimp only at fJ fK
        rw [← hxm] at fJ
        rw [← hym] at fK
        have HXM := Lib.hid hxm
        have FJ := Lib.hid fJ
        have FK := Lib.hid fK
        clear hxm hym fJ fK
        have hbd : Below wr.heap.size wr wr.drew := (Below.refl _ _).drew
        have HF : Hid (∀ z, Below wr.heap.size wr z → Five z g (off + J * 5) xn xi xd xp xA xm xC ∧ Five z g (off + K * 5) yn yi yd yp yA ym yC ∧ Below wr.heap.size wr z) := Lib.hid fun z hz => ⟨FJ.out.old hz, FK.out.old hz, hz⟩
        have hx0 := HF.out _ hbd
        unfold Five at hx0
        have HQ : Hid (∀ e : Bool, (xn == yn) = e → So.compact Sx.num (l.take (J + 1)) = l.take J ++ (if e = true then [] else [⟨⟨xn, xi, xd, xp, xl⟩, xA, xC⟩])) := Lib.hid fun e he => by
          rw [HCT.out]
          show l.take J ++ (if xn = yn then _ else _) = _
          congr 1
          cases e with
          | true => rw [if_pos (beq_iff_eq.1 he), if_pos rfl]
          | false => rw [if_neg (by simpa using he), if_neg (by decide)]
        clear HCT
        cases q1 : (xn == yn) with
        | false =>
          have HNEXT : Hid (So.compact Sx.num (l.take (J + 1)) = l.take (J + 1)) := Lib.hid (by
            rw [HQ.out false q1, List.take_succ_eq_append_getElem hJl, ← HX.out]; rfl)
          go_wp2
          go_region_held3 (fun z => (z.cell? ⟨g, off + J * 5, none⟩ = some (.int .i64 xn) ∧ z.cell? ⟨g, off + J * 5 + 1, none⟩ = some (.int .i64 xi) ∧ z.cell? ⟨g, off + J * 5 + 2, none⟩ = some (.int .i64 xd) ∧ z.cell? ⟨g, off + J * 5 + 3, none⟩ = some (.int .i64 xp) ∧ z.cell? ⟨g, off + J * 5 + 4, none⟩ = some (.slice xA xm xC)) ∧ (z.cell? ⟨g, off + K * 5, none⟩ = some (.int .i64 yn) ∧ z.cell? ⟨g, off + K * 5 + 1, none⟩ = some (.int .i64 yi) ∧ z.cell? ⟨g, off + K * 5 + 2, none⟩ = some (.int .i64 yd) ∧ z.cell? ⟨g, off + K * 5 + 3, none⟩ = some (.int .i64 yp) ∧ z.cell? ⟨g, off + K * 5 + 4, none⟩ = some (.slice yA ym yC)) ∧ Below wr.heap.size wr z)
            (first
              | exact hx2
              | exact hx0)
            (first
              | (go_at_call 35; refine (same_any xn xi xd xp xA xm xC yn yi yd yp yA ym yC wr.drew).mono ?_; rintro e w9 ⟨rfl, hb9⟩; have hx2 := HF.out w9 (hbd.trans hb9); unfold Five at hx2))
          have HS9 := Lib.hid (HS.out.old hx2.2.2)
          clear hx2 hx0 hb9 hbd HF
          go_wp2
          go_roundw
          case rel => exact ⟨J + 1, by go_num, by omega, by omega, HNEXT, HS9⟩
          case measure => simp [intOf]; omega
        | true =>
          have HK2 : Hid (Kept2 l J 1 J l) := Lib.hid ⟨rfl, Nat.le_refl _, Nat.le_refl _, by rw [HQ.out true q1]; simp, fun _ _ _ _ => rfl⟩
          go_wp2
          go_region_held3 (fun z => (z.cell? ⟨g, off + J * 5, none⟩ = some (.int .i64 xn) ∧ z.cell? ⟨g, off + J * 5 + 1, none⟩ = some (.int .i64 xi) ∧ z.cell? ⟨g, off + J * 5 + 2, none⟩ = some (.int .i64 xd) ∧ z.cell? ⟨g, off + J * 5 + 3, none⟩ = some (.int .i64 xp) ∧ z.cell? ⟨g, off + J * 5 + 4, none⟩ = some (.slice xA xm xC)) ∧ (z.cell? ⟨g, off + K * 5, none⟩ = some (.int .i64 yn) ∧ z.cell? ⟨g, off + K * 5 + 1, none⟩ = some (.int .i64 yi) ∧ z.cell? ⟨g, off + K * 5 + 2, none⟩ = some (.int .i64 yd) ∧ z.cell? ⟨g, off + K * 5 + 3, none⟩ = some (.int .i64 yp) ∧ z.cell? ⟨g, off + K * 5 + 4, none⟩ = some (.slice yA ym yC)) ∧ Below wr.heap.size wr z)
            (first
              | exact hx2
              | exact hx0)
            (first
              | (go_at_call 35; refine (same_any xn xi xd xp xA xm xC yn yi yd yp yA ym yC wr.drew).mono ?_; rintro e w9 ⟨rfl, hb9⟩; have hx2 := HF.out w9 (hbd.trans hb9); unfold Five at hx2))
          have HS9 := Lib.hid (HS.out.old hx2.2.2)
          clear hx2 hx0 hb9 hbd HF HQ FJ FK HX HJK
          have hnJ : 0 < n - J := by omega
          go_wp2
          generalize hN2 : n - J = N2
          generalize hC2 : C - J = C2
          generalize ho2 : off + J * 5 = o2
          have hN2a : J + N2 ≤ n := by omega
          have hN2b : n ≤ J + N2 := by omega
          have hN2p : 1 ≤ N2 := by omega
          have HO2 := Lib.hid ho2
          clear hN2 hC2 ho2 q1 HC0 HS hnJ
          go_loopw [5, 7] (fun vq vk wr => ∃ (q k2 : Nat) (M : List Sx), vq = .int .i64 (q : Int) ∧ vk = .int .i64 (k2 : Int) ∧ 1 ≤ k2 ∧ k2 ≤ N2 ∧ J ≤ q ∧ q + 1 ≤ J + k2 ∧ Hid (Kept2 l J k2 q M) ∧ Hid (Sorts w g off M wr)) (fun _ vk _ => N2 - (intOf vk).toNat)
          case atStart => exact ⟨J, 1, l, rfl, rfl, Nat.le_refl _, hN2p, Nat.le_refl _, Nat.le_refl _, HK2, HS9⟩
          case round =>
            obtain ⟨q, k2, M, rfl, rfl, hk1, hk2, hq1, hq2, HKM, HS⟩ := hrel
            have HLM : Hid (M.length = n) := Lib.hid (by rw [HKM.out.len]; exact HN.out.symm)
            by_cases hl2 : k2 < N2
            · have e4 : decide ((k2 : Int) < (N2 : Int)) = true := decide_eq_true (by omega)
              have e5 : decide (k2 < N2) = true := decide_eq_true hl2
              obtain ⟨K2, hK2⟩ : ∃ K, K = k2 - 1 := ⟨_, rfl⟩
              have hK2n : K2 < N2 := by omega
              have s2 : IntKind.i64.wrap ((k2 : Int) - 1) = (K2 : Int) := by rw [IntWalk.i64_in _ (by omega)]; omega
              have hjk : J + k2 = (J + K2) + 1 := by omega
              have HJ2 := Lib.hid hjk
              have hJl2 : J + k2 < l.length := by rw [← HN.out]; omega
              have hKl2 : J + K2 < l.length := by omega
              have HJL := Lib.hid hJl2
              have HKL := Lib.hid hKl2
              obtain ⟨x', hx⟩ : ∃ x', x' = l[J + k2] := ⟨_, rfl⟩
              obtain ⟨y', hy⟩ : ∃ y', y' = l[J + K2] := ⟨_, rfl⟩
              have HX := Lib.hid hx
              have HY := Lib.hid hy
              obtain ⟨z', hz⟩ : ∃ z', z' = M[q]'(by rw [HLM.out]; omega) := ⟨_, rfl⟩
              have fJ := HS.out.sits.five (i := J + k2) (x := x') (by rw [HLM.out]; omega) (by rw [hx]; exact HKM.out.rest _ (by omega) _ _)
              have fK := HS.out.sits.five (i := J + K2) (x := y') (by rw [HLM.out]; omega) (by rw [hy]; exact HKM.out.rest _ (by omega) _ _)
              have fQ := HS.out.sits.five (i := q) (x := z') (by rw [HLM.out]; omega) hz.symm
              have hqM : q < M.length := by rw [HLM.out]; omega
              have hqn : q < n := by omega
              have HQM := Lib.hid hqM
              rw [show off + (J + k2) * 5 = o2 + k2 * 5 by rw [← HO2.out]; omega] at fJ
              rw [show off + (J + K2) * 5 = o2 + K2 * 5 by rw [← HO2.out]; omega] at fK
              clear hx hy hz hK2 hjk hJl2 hKl2 hqM
              obtain ⟨⟨an, ai, ad, ap, al⟩, aA, aC⟩ := x'
              obtain ⟨⟨bn, bi, bd, bp, bl⟩, bA, bC⟩ := y'
              obtain ⟨⟨cn, ci, cd, cp, cl⟩, cA, cC⟩ := z'
              obtain ⟨am, ham⟩ : ∃ m, m = al.length := ⟨_, rfl⟩
              obtain ⟨bm, hbm⟩ : ∃ m, m = bl.length := ⟨_, rfl⟩
              obtain ⟨cm, hcm⟩ : ∃ m, m = cl.length := ⟨_, rfl⟩
              dsimp only at fJ fK fQ
              rw [← ham] at fJ
              rw [← hbm] at fK
              rw [← hcm] at fQ
              have HAM := Lib.hid ham
              have FJ := Lib.hid fJ
              have FK := Lib.hid fK
              have FQ := Lib.hid fQ
              clear ham hbm hcm fJ fK fQ
              have hbd : Below wr.heap.size wr wr.drew := (Below.refl _ _).drew
              have HF : Hid (∀ z, Below wr.heap.size wr z → Five z g (o2 + k2 * 5) an ai ad ap aA am aC ∧ Five z g (o2 + K2 * 5) bn bi bd bp bA bm bC ∧ Below wr.heap.size wr z) := Lib.hid fun z hz => ⟨FJ.out.old hz, FK.out.old hz, hz⟩
              have hx0 := HF.out _ hbd
              unfold Five at hx0
              cases q1 : (an == bn) with
              | true =>
                have HK9 : Hid (Kept2 l J (k2 + 1) q M) := Lib.hid (HKM.out.skip HJ2.out HJL.out HX.out.symm HY.out.symm (beq_iff_eq.1 q1))
                go_wp2
                go_region_held3 (fun z => (z.cell? ⟨g, o2 + k2 * 5, none⟩ = some (.int .i64 an) ∧ z.cell? ⟨g, o2 + k2 * 5 + 1, none⟩ = some (.int .i64 ai) ∧ z.cell? ⟨g, o2 + k2 * 5 + 2, none⟩ = some (.int .i64 ad) ∧ z.cell? ⟨g, o2 + k2 * 5 + 3, none⟩ = some (.int .i64 ap) ∧ z.cell? ⟨g, o2 + k2 * 5 + 4, none⟩ = some (.slice aA am aC)) ∧ (z.cell? ⟨g, o2 + K2 * 5, none⟩ = some (.int .i64 bn) ∧ z.cell? ⟨g, o2 + K2 * 5 + 1, none⟩ = some (.int .i64 bi) ∧ z.cell? ⟨g, o2 + K2 * 5 + 2, none⟩ = some (.int .i64 bd) ∧ z.cell? ⟨g, o2 + K2 * 5 + 3, none⟩ = some (.int .i64 bp) ∧ z.cell? ⟨g, o2 + K2 * 5 + 4, none⟩ = some (.slice bA bm bC)) ∧ Below wr.heap.size wr z)
                  (first
                    | exact hx2
                    | exact hx0)
                  (first
                    | (go_at_call 35; refine (same_any an ai ad ap aA am aC bn bi bd bp bA bm bC wr.drew).mono ?_; rintro e w9 ⟨rfl, hb9⟩; have hx2 := HF.out w9 (hbd.trans hb9); unfold Five at hx2))
                have HS9 := Lib.hid (HS.out.old hx2.2.2)
                clear hx2 hx0 hb9 hbd HF
                go_wp2
                go_roundw
                case rel => exact ⟨q, k2 + 1, M, rfl, by go_num, by omega, by omega, by omega, by omega, HK9, HS9⟩
                case measure => simp [intOf]; omega
              | false =>
                have HK9 : Hid (Kept2 l J (k2 + 1) (q + 1) (M.set q ⟨⟨an, ai, ad, ap, al⟩, aA, aC⟩)) := Lib.hid (HKM.out.take HJ2.out HJL.out HX.out.symm HY.out.symm (beq_eq_false_iff_ne.1 q1))
                go_wp2
                go_region_held3 (fun z => (z.cell? ⟨g, o2 + k2 * 5, none⟩ = some (.int .i64 an) ∧ z.cell? ⟨g, o2 + k2 * 5 + 1, none⟩ = some (.int .i64 ai) ∧ z.cell? ⟨g, o2 + k2 * 5 + 2, none⟩ = some (.int .i64 ad) ∧ z.cell? ⟨g, o2 + k2 * 5 + 3, none⟩ = some (.int .i64 ap) ∧ z.cell? ⟨g, o2 + k2 * 5 + 4, none⟩ = some (.slice aA am aC)) ∧ (z.cell? ⟨g, o2 + K2 * 5, none⟩ = some (.int .i64 bn) ∧ z.cell? ⟨g, o2 + K2 * 5 + 1, none⟩ = some (.int .i64 bi) ∧ z.cell? ⟨g, o2 + K2 * 5 + 2, none⟩ = some (.int .i64 bd) ∧ z.cell? ⟨g, o2 + K2 * 5 + 3, none⟩ = some (.int .i64 bp) ∧ z.cell? ⟨g, o2 + K2 * 5 + 4, none⟩ = some (.slice bA bm bC)) ∧ Below wr.heap.size wr z)
                  (first
                    | exact hx2
                    | exact hx0)
                  (first
                    | (go_at_call 35; refine (same_any an ai ad ap aA am aC bn bi bd bp bA bm bC wr.drew).mono ?_; rintro e w9 ⟨rfl, hb9⟩; have hx2 := HF.out w9 (hbd.trans hb9); unfold Five at hx2))
                have HS9 := Lib.hid (HS.out.old hx2.2.2)
                have FJ9 := Lib.hid (FJ.out.old hx2.2.2)
                have FQ9 := Lib.hid (FQ.out.old hx2.2.2)
                clear hx2 hx0 hb9 hbd HF
                have fr : ∀ k, w9.frozen? ⟨g, k, none⟩ = false := HS9.out.sits.free
                have f0 := fr (off + q * 5)
                have f1 := fr (off + q * 5 + 1)
                have f2 := fr (off + q * 5 + 2)
                have f3 := fr (off + q * 5 + 3)
                have f4 := fr (off + q * 5 + 4)
                have hset := HS9.out.set HQM.out ⟨⟨an, ai, ad, ap, al⟩, aA, aC⟩
                dsimp only at hset
                rw [← HAM.out] at hset
                have HSET := Lib.hid hset
                have hx := FJ9.out
                have hy := FQ9.out
                unfold Five at hx hy
                obtain ⟨x0, x1, x2, x3, x4⟩ := hx
                obtain ⟨y0, y1, y2, y3, y4⟩ := hy
                clear hset fr
                go_wp2
                generalize (((((w9.setCell ⟨g, off + q * 5, none⟩ (.int .i64 an)).setCell ⟨g, off + q * 5 + 1, none⟩ (.int .i64 ai)).setCell ⟨g, off + q * 5 + 2, none⟩ (.int .i64 ad)).setCell ⟨g, off + q * 5 + 3, none⟩ (.int .i64 ap)).setCell ⟨g, off + q * 5 + 4, none⟩ (.slice aA am aC)) = ws at HSET ⊢
                clear x0 x1 x2 x3 x4 y0 y1 y2 y3 y4 f0 f1 f2 f3 f4
                go_roundw
                case rel => exact ⟨q + 1, k2 + 1, _, by go_num, by go_num, by omega, by omega, by omega, by omega, HK9, HSET⟩
                case measure => simp [intOf]; omega
            · have e4 : decide ((k2 : Int) < (N2 : Int)) = false := decide_eq_false (by omega)
              have e5 : decide (k2 < N2) = false := decide_eq_false hl2
              have HE : Hid (M.take q = So.compact Sx.num l) := Lib.hid (by
                rw [HKM.out.kept, List.take_of_length_le (by rw [← HN.out]; omega)])
              have HEL : Hid ((So.compact Sx.num l).length = q) := Lib.hid (by rw [← HE.out, List.length_take, HLM.out]; omega)
              have hfr : ∀ k, wr.frozen? ⟨g, k, none⟩ = false := HS.out.sits.free
              obtain ⟨vs, hcl⟩ := clear_run wr g (off + q * 5) (n - q) (C - q) (by omega) (fun j hj => HS.out.sits.some_ (by rw [HLM.out]; omega)) hfr
              have HS9 : Hid (Sorts w g off (So.compact Sx.num l) (wr.setCells g (off + q * 5) vs)) := Lib.hid (by
                rw [← HE.out]
                exact ⟨HS.out.sits.cells vs, HS.out.kp.trans (kp_cells _ _ _ _)⟩)
              have hqn : q ≤ n := by omega
              have hqC : q ≤ C := by omega
              clear hfr
              go_wp2
              go_ret
              rw [HEL.out]
              exact ⟨rfl, HS9.out⟩
      · have e2 : decide ((J : Int) < (n : Int)) = false := decide_eq_false (by omega)
        have e3 : decide (J < n) = false := decide_eq_false hlt
        have HE : Hid (So.compact Sx.num l = l) := Lib.hid (by
          have h1 := HC0.out
          rwa [List.take_of_length_le (by rw [← HN.out]; omega)] at h1)
        go_wp2
        go_ret
        rw [HE.out, ← HN.out]
        exact ⟨rfl, HS.out⟩
end Go.Proofs.YtfkoomldncfdnaaGreat
namespace Go.Proofs.YtfkoomldncfdnaaGreat
open Go.RowKit

theorem infoI : (Tryz.prog.info? 3).map (fun i => (i.zero, i.size, i.bytes)) = some (some (.int .i64 0), 1, 8) := by kernel_rfl
theorem cellsZ_one {l : List Int} : ∀ u ∈ cellsZ l, u.oneCell' = true := by
  intro u hu
  simp only [cellsZ, List.mem_map] at hu
  obtain ⟨x, _, rfl⟩ := hu
  rfl
theorem cellsZ_some {l : List Int} {j : Nat} {u : Value} (h : (cellsZ l)[j]? = some u) : ∃ hj : j < l.length, u = .int .i64 l[j] := by
  obtain ⟨hj, e⟩ := List.getElem?_eq_some_iff.1 h
  have hj' : j < l.length := by rwa [cellsZ_len] at hj
  refine ⟨hj', ?_⟩
  rw [cellsZ_get hj'] at h
  exact (Option.some.inj h).symm
/-- v is a slice of the call's own that holds the numbers l -/
def OwnZ (w : World) (base : Nat) (v : Value) (l : List Int) : Prop := w.ownsRow base 3 1 v l.length (cellsZ l)
namespace OwnZ
variable {w w' : World} {base : Nat} {v : Value} {l : List Int}
theorem nil (w : World) (base : Nat) : OwnZ w base (.slice none 0 0) [] := World.ownsRow_nil _ _ _ _
theorem rd (h : OwnZ w base v l) : ∃ A C, v = .slice A l.length C ∧ l.length ≤ C ∧ C ≤ maxLen ∧ (A = none → l.length = 0 ∧ C = 0) ∧ RdZ w A l (base ≤ ·) := by
  rcases h.2 with ⟨rfl, h0⟩ | ⟨g, cap, cur, rfl, hb, hg, hnc, hcm, hs, ht⟩
  · have : l = [] := List.length_eq_zero_iff.1 h0
    subst this
    exact ⟨none, 0, rfl, Nat.le_refl _, by decide, fun _ => ⟨rfl, rfl⟩, RdZ.empty _ _ _⟩
  · refine ⟨_, cap, rfl, hnc, hcm, (fun h => by cases h), fun _ => ⟨g, 0, rfl, hb, fun j hj => ?_⟩⟩
    have hx := cellsZ_get hj
    rw [← ht, List.getElem?_take, if_pos (by omega), Array.getElem?_toList] at hx
    simp [World.cell?, hg, hx]
theorem lo (h : OwnZ w base v l) : ∀ k, v.ownBlock = some k → base ≤ k := fun k hk => (World.ownsRow.lt h k hk).1
theorem lt (h : OwnZ w base v l) : ∀ k, v.ownBlock = some k → k < w.heap.size := fun k hk => (World.ownsRow.lt h k hk).2
theorem of_block (h : OwnZ w base v l) (hb : ∀ k, v.ownBlock = some k → w'.heap[k]? = w.heap[k]?) : OwnZ w' base v l := by
  refine ⟨h.1, ?_⟩
  rcases h.2 with h0 | ⟨g, cap, cur, rfl, hb', hg, hr⟩
  · exact .inl h0
  · exact .inr ⟨g, cap, cur, rfl, hb', (hb g rfl).trans hg, hr⟩
theorem kp {S : Nat → Prop} (h : OwnZ w base v l) (hk : Kp S w w') (hs : ∀ k, v.ownBlock = some k → ¬ S k) : OwnZ w' base v l :=
  h.of_block fun k e => hk.block k (h.lt k e) (hs k e)
end OwnZ
theorem apZ_run (w : World) (base : Nat) (v : Value) (l : List Int) (hown : OwnZ w base v l) (ad : Addr) (m c : Nat) (l' : List Int) (G : Nat → Prop) (hm : l'.length = m) (hr : RdZ w (some ad) l' G) (hb : (l.length + m) * 8 ≤ 140737488355328) (hbase : base ≤ w.heap.size) (n : Nat) (hn : n = l.length + m) :
    ∃ A' C' w', (∀ ty, (Builtin.append_ #[36, 36] ty #[v, .slice (some ad) m c]).run Tryz.prog w = .ok (.slice A' n C') w') ∧ OwnZ w' base (.slice A' n C') (l ++ l') ∧ w.grownBy w' v.ownBlock := by
  obtain ⟨i0, hi, hz0, hz1, hz2⟩ := info_parts infoI
  have hnews : ∀ j u, (cellsZ l')[j]? = some u → w.cell? (ad.add j) = some u := fun j u hu => by
    obtain ⟨hj, rfl⟩ := cellsZ_some hu
    obtain ⟨b, off, e, _, hc⟩ := hr (by omega)
    cases e
    rw [addr_add]; exact hc j hj
  obtain ⟨v', w', h1, h2, h3, _⟩ := run_append_own (P := Tryz.prog) w base 36 3 3 i0 (.int .i64 0) 1 8 Tryz.underlying36 hi hz0 hz1 hz2 rfl (by decide) v l.length (cellsZ l) hown ad m c (cellsZ l') (by rw [cellsZ_len, hm, Nat.mul_one]) hnews cellsZ_one (by unfold maxLen; omega) (by omega) hbase
  have h2' : OwnZ w' base v' (l ++ l') := by unfold OwnZ; rw [cellsZ_append, List.length_append, hm]; exact h2
  obtain ⟨A', C', rfl, _, _, _, _⟩ := h2'.rd
  have e : (l ++ l').length = n := by rw [List.length_append, hm, hn]
  refine ⟨A', C', w', fun ty => by rw [← e]; exact h1, ?_, h3⟩
  rw [← e]; exact h2'
end Go.Proofs.YtfkoomldncfdnaaGreat
namespace Go.Proofs.YtfkoomldncfdnaaGreat
open Go.RowKit
open Pt (Tx)

/-- the state of one who reads: a Reader, what is made, and the answer's own block -/
structure Way (w : World) (gr hB : Nat) (s : Cd.St) (G : Nat → Prop) (o z : Obj) (x : World) : Prop where
  rr : Rr x gr s G
  hd : x.heap[hB]? = some o
  zr : x.heap[w.heap.size]? = some z
  bel : Below w.heap.size w x
  lo : w.heap.size < gr
  ne : gr < hB
  gs : ∀ b, G b → b < gr
theorem Way.red {w : World} {gr hB : Nat} {s s' : Cd.St} {G : Nat → Prop} {o z : Obj} {x y : World} (h : Way w gr hB s G o z x) (hr : Rr y gr s' G) (hk : Kp (· = gr) x y) : Way w gr hB s' G o z y := by
  have h1 : hB < x.heap.size := by obtain ⟨hlt, _⟩ := Array.getElem?_eq_some_iff.1 h.hd; exact hlt
  have h2 : w.heap.size < x.heap.size := by obtain ⟨hlt, _⟩ := Array.getElem?_eq_some_iff.1 h.zr; exact hlt
  have := h.lo
  have := h.ne
  exact ⟨hr, (hk.block _ h1 (by omega)).trans h.hd, (hk.block _ h2 (by omega)).trans h.zr, h.bel.trans (lo_g hk h.bel.size (by omega)), h.lo, h.ne, h.gs⟩
theorem Way.set {w : World} {gr hB : Nat} {s : Cd.St} {G : Nat → Prop} {z : Obj} {x : World} {cs cs' : Array Value} {t : TypeId} {fr : Nat × Nat} (h : Way w gr hB s G (.cells cs t fr) z x) (i : Nat) (v : Value) (hc : cs.setIfInBounds i v = cs') : Way w gr hB s G (.cells cs' t fr) z (x.setCell ⟨hB, i, none⟩ v) := by
  subst hc
  have hk : Kp (· = hB) x (x.setCell ⟨hB, i, none⟩ v) := Kp.store _ _ _ _
  have h2 : w.heap.size < x.heap.size := by obtain ⟨hlt, _⟩ := Array.getElem?_eq_some_iff.1 h.zr; exact hlt
  have := h.lo
  have := h.ne
  exact ⟨h.rr.kp hk (by omega) (fun b hb => by have := h.gs b hb; omega), heap_set h.hd _, (hk.block _ h2 (by omega)).trans h.zr, h.bel.trans (lo_g hk h.bel.size (by omega)), h.lo, h.ne, h.gs⟩
theorem Way.old {w : World} {gr hB : Nat} {s : Cd.St} {G : Nat → Prop} {o z : Obj} {x y : World} (h : Way w gr hB s G o z x) (hb : Below x.heap.size x y) : Way w gr hB s G o z y := by
  have h1 : hB < x.heap.size := by obtain ⟨hlt, _⟩ := Array.getElem?_eq_some_iff.1 h.hd; exact hlt
  have h2 : w.heap.size < x.heap.size := by obtain ⟨hlt, _⟩ := Array.getElem?_eq_some_iff.1 h.zr; exact hlt
  exact ⟨h.rr.kp (S := fun _ => False) (Kp.of_below hb) (fun h => h) (fun _ _ h => h), (hb.block _ h1).trans h.hd, (hb.block _ h2).trans h.zr, h.bel.trans (hb.mono h.bel.size), h.lo, h.ne, h.gs⟩
end Go.Proofs.YtfkoomldncfdnaaGreat
namespace Go.Proofs.YtfkoomldncfdnaaGreat
open Go.RowKit
open Pt (Tx)

/-- what ReadSeal answers -/
def GotS (b : Tx) (w : World) (e : Ending) (w' : World) : Prop :=
  ∃ A m C, e = .returned (.tuple #[.agg #[.int .i64 (Rc.sgot b).number, .int .i64 (Rc.sgot b).index, .int .i64 (Rc.sgot b).data, .int .i64 (Rc.sgot b).parity, .slice A m C], .int .i64 (Rc.sgotE b)])
    ∧ m = (Rc.sgot b).labels.length ∧ m ≤ C ∧ C ≤ maxLen ∧ (A = none → m = 0 ∧ C = 0) ∧ RdZ w' A (Rc.sgot b).labels (w.heap.size ≤ ·) ∧ Below w.heap.size w w'
theorem GotS.stored {b : Tx} {w y : World} {B : Nat} {a0 a1 a2 a3 a4 : Value} {s : Rc.S} {er : Int} {A : Option Addr} {m C : Nat} (hu : Rc.sgot b = s) (he : Rc.sgotE b = er) (hB : B = w.heap.size) (hr : RdZ y A s.labels (B < ·)) (hm : m = s.labels.length) (hc : m ≤ C) (hcm : C ≤ maxLen) (hn : A = none → m = 0 ∧ C = 0) (hb : Below w.heap.size w y) :
    GotS b w (.returned (.tuple #[.agg #[.int .i64 s.number, .int .i64 s.index, .int .i64 s.data, .int .i64 s.parity, .slice A m C], .int .i64 er])) (((((y.setCell ⟨B, 0, none⟩ a0).setCell ⟨B, 1, none⟩ a1).setCell ⟨B, 2, none⟩ a2).setCell ⟨B, 3, none⟩ a3).setCell ⟨B, 4, none⟩ a4) := by
  subst hB
  have hk : Kp (· = w.heap.size) y (((((y.setCell ⟨w.heap.size, 0, none⟩ a0).setCell ⟨w.heap.size, 1, none⟩ a1).setCell ⟨w.heap.size, 2, none⟩ a2).setCell ⟨w.heap.size, 3, none⟩ a3).setCell ⟨w.heap.size, 4, none⟩ a4) := ((((Kp.store _ _ _ _).trans (Kp.store _ _ _ _)).trans (Kp.store _ _ _ _)).trans (Kp.store _ _ _ _)).trans (Kp.store _ _ _ _)
  exact ⟨A, m, C, by rw [hu, he], by rw [hu]; exact hm, hc, hcm, hn, by rw [hu]; exact (hr.kp hk (fun x hx hx' => by omega)).mono (fun x hx => by omega), hb.trans (hk.below hb.size (fun x hx => by omega))⟩
/-- a row of the call's own is being filled -/
def Fills (lb : Nat) (l : List Int) (x : World) : Prop := x.heap[lb]? = some (.cells (cellsZ l).toArray 3 (0, 0))
theorem fill_start (w : World) (N : Nat) : Fills w.heap.size ([] ++ List.replicate N 0) (w.alloc (.cells (madeCells #[.int .i64 0] N) 3)) := by
  unfold Fills
  rw [Go.Deep.blk_alloc_new]
  congr 2
  apply Array.ext
  · simp [size_madeCells, cellsZ_len]
  · intro i h1 h2
    simp [madeCells, cellsZ, Nat.mod_one]
theorem fill_cells {k N : Nat} {done : List Int} (hk : done.length = k) (hlt : k < N) (y : Int) : (cellsZ (done ++ List.replicate (N - k) 0)).toArray.setIfInBounds k (.int .i64 y) = (cellsZ ((done ++ [y]) ++ List.replicate (N - (k + 1)) 0)).toArray := by
  have e : N - k = (N - (k + 1)) + 1 := by omega
  rw [e, List.replicate_succ, List.append_assoc]
  simp only [cellsZ_append, List.setIfInBounds_toArray, List.singleton_append]
  congr 1
  rw [List.set_append_right _ _ (by rw [cellsZ_len]; omega), cellsZ_len, hk, Nat.sub_self]
  rfl
theorem fill_get {k N : Nat} {done : List Int} (hk : done.length = k) (hlt : k < N) {lb : Nat} {x : World} (h : Fills lb (done ++ List.replicate (N - k) 0) x) : x.cell? ⟨lb, k, none⟩ = some (.int .i64 0) := by
  have e : N - k = (N - (k + 1)) + 1 := by omega
  rw [heap_cell h, List.getElem?_toArray, cellsZ_append, List.getElem?_append_right (by rw [cellsZ_len]; omega), cellsZ_len, hk, Nat.sub_self, e, List.replicate_succ]
  rfl
theorem labsP_step {n : Nat} {s : Cd.St} : Rc.labsP (n + 1) s = Cd.num (Cd.tk 4 s) :: Rc.labsP n (Cd.af 4 s) := rfl
/-- how far the labels are read -/
def Far10 (N : Nat) (s0 : Cd.St) (n : Nat) (k : Nat) (done : List Int) (s : Cd.St) : Prop := done.length = k ∧ Rc.labsP N s0 = done ++ Rc.labsP (N - k) s ∧ s.1.length ≤ n
theorem Far10.step {N n k : Nat} {s0 s : Cd.St} {done : List Int} (h : Far10 N s0 n k done s) (hk : k < N) : Far10 N s0 n (k + 1) (done ++ [Cd.num (Cd.tk 4 s)]) (Cd.af 4 s) := by
  obtain ⟨h1, h2, h3⟩ := h
  refine ⟨by simp [h1], ?_, Nat.le_trans (Cd.af_le 4 s) h3⟩
  rw [h2, show N - k = (N - (k + 1)) + 1 by omega, labsP_step, List.append_assoc]; rfl
theorem Far10.done {N n k : Nat} {s0 s : Cd.St} {done : List Int} (h : Far10 N s0 n k done s) (hk : k = N) : done = Rc.labsP N s0 := by
  rw [h.2.1, hk, Nat.sub_self]; simp [Rc.labsP]
theorem r_len (b : Tx) : (Rc.r1 b).1.length ≤ b.length ∧ (Rc.r2 b).1.length ≤ b.length ∧ (Rc.r3 b).1.length ≤ b.length ∧ (Rc.r4 b).1.length ≤ b.length := by
  have h1 : (Rc.r1 b).1.length ≤ b.length := Cd.af_le _ (b, false)
  have h2 : (Rc.r2 b).1.length ≤ (Rc.r1 b).1.length := Cd.af_le _ _
  have h3 : (Rc.r3 b).1.length ≤ (Rc.r2 b).1.length := Cd.af_le _ _
  have h4 : (Rc.r4 b).1.length ≤ (Rc.r3 b).1.length := Cd.af_le _ _
  omega
/-- what is kept of the walk while the row is filled -/
structure Row10 (w : World) (gr hB lb : Nat) (s : Cd.St) (G : Nat → Prop) (o z : Obj) (l : List Int) (x : World) : Prop where
  way : Way w gr hB s G o z x
  fil : Fills lb l x
  ne : hB < lb
theorem Row10.red {w : World} {gr hB lb : Nat} {s s' : Cd.St} {G : Nat → Prop} {o z : Obj} {l : List Int} {x y : World} (h : Row10 w gr hB lb s G o z l x) (hr : Rr y gr s' G) (hk : Kp (· = gr) x y) : Row10 w gr hB lb s' G o z l y := by
  have := h.way.ne
  have := h.ne
  exact ⟨h.way.red hr hk, (hk.block _ (heap_lt h.fil) (by omega)).trans h.fil, h.ne⟩
theorem Row10.set {w : World} {gr hB lb : Nat} {s : Cd.St} {G : Nat → Prop} {o z : Obj} {k N : Nat} {done : List Int} {x : World} (h : Row10 w gr hB lb s G o z (done ++ List.replicate (N - k) 0) x) (hd : done.length = k) (hlt : k < N) (y : Int) :
    Row10 w gr hB lb s G o z ((done ++ [y]) ++ List.replicate (N - (k + 1)) 0) (x.setCell ⟨lb, k, none⟩ (.int .i64 y)) := by
  have hk : Kp (· = lb) x (x.setCell ⟨lb, k, none⟩ (.int .i64 y)) := Kp.store _ _ _ _
  have hw := h.way
  have h0 := hw.lo
  have h1 := hw.ne
  have h2 := h.ne
  have h3 : hB < x.heap.size := by obtain ⟨hlt, _⟩ := Array.getElem?_eq_some_iff.1 hw.hd; exact hlt
  have h4 : w.heap.size < x.heap.size := by obtain ⟨hlt, _⟩ := Array.getElem?_eq_some_iff.1 hw.zr; exact hlt
  refine ⟨⟨hw.rr.kp hk (by omega) (fun b hb => by have := hw.gs b hb; omega), (hk.block _ h3 (by omega)).trans hw.hd, (hk.block _ h4 (by omega)).trans hw.zr, hw.bel.trans (lo_g hk hw.bel.size (by omega)), hw.lo, hw.ne, hw.gs⟩, ?_, h.ne⟩
  unfold Fills
  rw [heap_set h.fil, fill_cells hd hlt]
theorem Row10.old {w : World} {gr hB lb : Nat} {s : Cd.St} {G : Nat → Prop} {o z : Obj} {l : List Int} {x y : World} (h : Row10 w gr hB lb s G o z l x) (hb : Below x.heap.size x y) : Row10 w gr hB lb s G o z l y :=
  ⟨h.way.old hb, below_obj hb h.fil, h.ne⟩
theorem Row10.drew {w : World} {gr hB lb : Nat} {s : Cd.St} {G : Nat → Prop} {o z : Obj} {l : List Int} {x : World} (h : Row10 w gr hB lb s G o z l x) : Row10 w gr hB lb s G o z l x.drew :=
  ⟨h.way.old ((Below.refl _ _).drew), h.fil, h.ne⟩
set_option maxRecDepth 100000 in
set_option maxHeartbeats 8000000 in
theorem readSeal_any (A : Option Addr) (b : Tx) (n C : Nat) (G : Nat → Prop) (w : World) (hn : n = b.length) (hl : n ≤ 1000000) (hA : A = none → n = 0 ∧ C = 0) (hr : RdL w A b G) :
    Calls Tryz.prog 60 #[.slice A n C] w (GotS b w) := by
  have HB0 : Hid (Below w.heap.size w (w.alloc (sealObj 0 0 0 0 none 0 0))) := Lib.hid ((Below.refl _ _).alloc (Nat.le_refl _) _)
  have HR : Hid (RdL w A b G) := Lib.hid hr
  have HN := Lib.hid hn
  have hcall := newReader_any A b C G (w.alloc (sealObj 0 0 0 0 none 0 0)) (by rw [← hn]; exact hA) (hr.old HB0.out) (by omega)
  rw [← hn] at hcall
  have hlen := r_len b
  rw [← hn] at hlen
  obtain ⟨l1, l2, l3, l4⟩ := hlen
  obtain ⟨n0, hn0⟩ : ∃ k, k = Cd.num (Cd.tk 4 (b, false)) := ⟨_, rfl⟩
  obtain ⟨n1, hn1⟩ : ∃ k, k = (Cd.byt (Rc.r1 b)).toNat := ⟨_, rfl⟩
  obtain ⟨n2, hn2⟩ : ∃ k, k = (Cd.byt (Rc.r2 b)).toNat := ⟨_, rfl⟩
  obtain ⟨n3, hn3⟩ : ∃ k, k = (Cd.byt (Rc.r3 b)).toNat := ⟨_, rfl⟩
  have k1 : n1 < 256 := by rw [hn1]; exact (Cd.byt (Rc.r1 b)).toNat_lt
  have k2 : n2 < 256 := by rw [hn2]; exact (Cd.byt (Rc.r2 b)).toNat_lt
  have k3 : n3 < 256 := by rw [hn3]; exact (Cd.byt (Rc.r3 b)).toNat_lt
  obtain ⟨N, hNN⟩ : ∃ N, N = n2 + n3 := ⟨_, rfl⟩
  have hNs : (n2 : Int) + (n3 : Int) = (N : Int) := by omega
  have hNl : N ≤ 510 := by omega
  obtain ⟨labs, hlabs⟩ : ∃ l, l = Rc.labsP N (Rc.r4 b) := ⟨_, rfl⟩
  have hll : labs.length = N := by rw [hlabs]; exact Rc.labsP_len _ _
  have HPA : Hid (Rc.pparse b = ⟨n0, (n1 : Int), (n2 : Int), (n3 : Int), labs⟩) := Lib.hid (by rw [hlabs, hNN, hn0, hn1, hn2, hn3]; rfl)
  have H0 := Lib.hid hn0
  have H1 := Lib.hid hn1
  have H2 := Lib.hid hn2
  have H3 := Lib.hid hn3
  have HLB := Lib.hid hlabs
  have HLL := Lib.hid hll
  have HC := Lib.hid hcall
  have hmk := run_make_row' (P := Tryz.prog) 36 3 (.int .i64 0) 8 Tryz.underlying36 infoI rfl .i64 .i64 N (by omega) (by omega)
  have HMK := Lib.hid hmk
  clear hr hcall hn0 hn1 hn2 hn3 hlabs hll hn hA hNN hmk
  unfold sealObj at HC
  go_enter Tryz.func60, Tryz.ntmps60
  go_wp2_with fail
  refine HC.out.mono ?_
  clear HC
  rintro e w1 ⟨gr, rfl, hlo, hr1, hb1⟩
  have HB1 := Lib.hid (HB0.out.trans (hb1.mono HB0.out.size))
  have HLO : Hid (w.heap.size < gr) := Lib.hid (by have : (w.alloc (sealObj 0 0 0 0 none 0 0)).heap.size ≤ gr := hlo; simp at this; omega)
  have HZ1 : Hid (w1.heap[w.heap.size]? = some (sealObj 0 0 0 0 none 0 0)) := Lib.hid ((hb1.block _ (by simp)).trans (Go.Deep.blk_alloc_new _ _))
  obtain ⟨G2, hG2⟩ : ∃ G2 : Nat → Prop, G2 = (fun b => (w.alloc (sealObj 0 0 0 0 none 0 0)).heap.size ≤ b ∧ b < gr) := ⟨_, rfl⟩
  have HGS : Hid (∀ b, G2 b → b < gr) := Lib.hid (by rw [hG2]; exact fun b h => h.2)
  have HR1 : Hid (Rr w1 gr (b, false) G2) := Lib.hid (by rw [hG2]; exact hr1)
  clear hlo hr1 hb1 hG2
  go_wp2_with fail
  have hcall := rint_any gr (b, false) G2 w1 HR1.out (by show b.length ≤ _; have := HN.out; omega)
  rw [← H0.out] at hcall
  refine hcall.mono ?_
  clear hcall
  rintro e w2 ⟨rfl, hr2, hk2⟩
  have hr2' : Rr w2 gr (Rc.r1 b) G2 := hr2
  obtain ⟨hB, hhB⟩ : ∃ hB, hB = w2.heap.size := ⟨_, rfl⟩
  obtain ⟨wh, hwh⟩ : ∃ wh, wh = w2.alloc (sealObj n0 0 0 0 none 0 0) := ⟨_, rfl⟩
  have HWAY : Hid (Way w gr hB (Rc.r1 b) G2 (sealObj n0 0 0 0 none 0 0) (sealObj 0 0 0 0 none 0 0) wh) := Lib.hid (by
    have h1 : gr < w2.heap.size := hr2.lt
    have hz2 := (hk2.block _ (heap_lt HZ1.out) (by have := HLO.out; omega)).trans HZ1.out
    have hb2 := HB1.out.trans (lo_g hk2 HB1.out.size (by have := HLO.out; omega))
    rw [hwh, hhB]
    exact ⟨hr2'.kp (S := fun _ => False) (Kp.of_below ((Below.refl _ _).alloc (Nat.le_refl _) _)) (fun h => h) (fun _ _ h => h), Go.Deep.blk_alloc_new _ _, (Below.heap_alloc _ _ _ (heap_lt hz2)).trans hz2, hb2.alloc hb2.size _, HLO.out, h1, HGS.out⟩)
  have HHB := Lib.hid hhB
  have HWH := Lib.hid hwh
  unfold sealObj at HWH
  clear hr2 hr2' hk2 hhB hwh
  go_wp2_with fail
  rw [← HWH.out, ← HHB.out]
  have hcall := rbyte_any gr (Rc.r1 b) G2 wh HWAY.out.rr (by omega)
  rw [← H1.out] at hcall
  refine hcall.mono ?_
  clear hcall
  rintro e x1 ⟨rfl, hr, hk⟩
  have hr' : Rr x1 gr (Rc.r2 b) G2 := hr
  have hw := HWAY.out.red hr' hk
  obtain ⟨c0, c1, c2, c3, c4⟩ := seal5 hw.hd
  obtain ⟨f0, f1, f2, f3, f4⟩ := seal_free hw.hd
  have hs := hw.set 1 (.int .i64 (n1 : Int)) (cs' := #[.int .i64 n0, .int .i64 (n1 : Int), .int .i64 0, .int .i64 0, .slice none 0 0]) rfl
  obtain ⟨y1, hy⟩ : ∃ y, y = x1.setCell ⟨hB, 1, none⟩ (.int .i64 (n1 : Int)) := ⟨_, rfl⟩
  rw [← hy] at hs
  have HW1 : Hid (Way w gr hB (Rc.r2 b) G2 (sealObj n0 (n1 : Int) 0 0 none 0 0) (sealObj 0 0 0 0 none 0 0) y1) := Lib.hid hs
  have HY1 := Lib.hid hy
  clear hr hr' hk hw hs hy
  go_wp2_with fail
  rw [← HY1.out]
  clear c0 c1 c2 c3 c4 f0 f1 f2 f3 f4
  have hcall := rbyte_any gr (Rc.r2 b) G2 y1 HW1.out.rr (by omega)
  rw [← H2.out] at hcall
  refine hcall.mono ?_
  clear hcall
  rintro e x2 ⟨rfl, hr, hk⟩
  have hr' : Rr x2 gr (Rc.r3 b) G2 := hr
  have hw := HW1.out.red hr' hk
  obtain ⟨c0, c1, c2, c3, c4⟩ := seal5 hw.hd
  obtain ⟨f0, f1, f2, f3, f4⟩ := seal_free hw.hd
  have hs := hw.set 2 (.int .i64 (n2 : Int)) (cs' := #[.int .i64 n0, .int .i64 (n1 : Int), .int .i64 (n2 : Int), .int .i64 0, .slice none 0 0]) rfl
  obtain ⟨y2, hy⟩ : ∃ y, y = x2.setCell ⟨hB, 2, none⟩ (.int .i64 (n2 : Int)) := ⟨_, rfl⟩
  rw [← hy] at hs
  have HW2 : Hid (Way w gr hB (Rc.r3 b) G2 (sealObj n0 (n1 : Int) (n2 : Int) 0 none 0 0) (sealObj 0 0 0 0 none 0 0) y2) := Lib.hid hs
  have HY2 := Lib.hid hy
  clear hr hr' hk hw hs hy
  go_wp2_with fail
  rw [← HY2.out]
  clear c0 c1 c2 c3 c4 f0 f1 f2 f3 f4
  have hcall := rbyte_any gr (Rc.r3 b) G2 y2 HW2.out.rr (by omega)
  rw [← H3.out] at hcall
  refine hcall.mono ?_
  clear hcall
  rintro e x3 ⟨rfl, hr, hk⟩
  have hr' : Rr x3 gr (Rc.r4 b) G2 := hr
  have hw := HW2.out.red hr' hk
  obtain ⟨c0, c1, c2, c3, c4⟩ := seal5 hw.hd
  obtain ⟨f0, f1, f2, f3, f4⟩ := seal_free hw.hd
  have hs := hw.set 3 (.int .i64 (n3 : Int)) (cs' := #[.int .i64 n0, .int .i64 (n1 : Int), .int .i64 (n2 : Int), .int .i64 (n3 : Int), .slice none 0 0]) rfl
  obtain ⟨y3, hy⟩ : ∃ y, y = x3.setCell ⟨hB, 3, none⟩ (.int .i64 (n3 : Int)) := ⟨_, rfl⟩
  rw [← hy] at hs
  have HW3 : Hid (Way w gr hB (Rc.r4 b) G2 (sealObj n0 (n1 : Int) (n2 : Int) (n3 : Int) none 0 0) (sealObj 0 0 0 0 none 0 0) y3) := Lib.hid hs
  have HY3 := Lib.hid hy
  have hx3 : y3.heap.size = x3.heap.size := by rw [hy]; simp [World.setCell]
  have hsa := hs.old (y := y3.alloc (.cells (madeCells #[.int .i64 0] N) 3)) ((Below.refl _ _).alloc (Nat.le_refl _) _)
  have hfl := fill_start y3 N
  obtain ⟨lb, hlb⟩ : ∃ lb, lb = x3.heap.size := ⟨_, rfl⟩
  have hlt : hB < lb := by have := heap_lt hs.hd; omega
  have hs4 := hsa.set 4 (.slice (some ⟨lb, 0, none⟩) N N) (cs' := #[.int .i64 n0, .int .i64 (n1 : Int), .int .i64 (n2 : Int), .int .i64 (n3 : Int), .slice (some ⟨lb, 0, none⟩) N N]) rfl
  obtain ⟨y4, hy4⟩ : ∃ y, y = (y3.alloc (.cells (madeCells #[.int .i64 0] N) 3)).setCell ⟨hB, 4, none⟩ (.slice (some ⟨lb, 0, none⟩) N N) := ⟨_, rfl⟩
  rw [← hy4] at hs4
  have HW4 : Hid (Row10 w gr hB lb (Rc.r4 b) G2 (sealObj n0 (n1 : Int) (n2 : Int) (n3 : Int) (some ⟨lb, 0, none⟩) N N) (sealObj 0 0 0 0 none 0 0) ([] ++ List.replicate (N - 0) 0) y4) := Lib.hid ⟨hs4, (by
    rw [hx3, ← hlb] at hfl
    rw [hy4]
    have hk : Kp (· = hB) (y3.alloc (.cells (madeCells #[.int .i64 0] N) 3)) ((y3.alloc (.cells (madeCells #[.int .i64 0] N) 3)).setCell ⟨hB, 4, none⟩ (.slice (some ⟨lb, 0, none⟩) N N)) := Kp.store _ _ _ _
    exact (hk.block _ (heap_lt hfl) (by omega)).trans hfl), hlt⟩
  obtain ⟨g0, g1, g2, g3, g4⟩ := seal5 hsa.hd
  obtain ⟨e0, e1, e2, e3, e4⟩ := seal_free hsa.hd
  obtain ⟨d0, d1, d2, d3, d4⟩ := seal5 hs.hd
  have q4 := (seal5 hs4.hd).2.2.2.2
  have hmk := HMK.out y3
  rw [hx3, ← hlb] at hmk
  rw [hy4] at q4
  have HY4 := Lib.hid hy4
  rw [hy] at HY4 hmk g0 g1 g2 g3 g4 e0 e1 e2 e3 e4 d0 d1 d2 d3 d4 q4
  have HLBX := Lib.hid hlb
  have HLT := Lib.hid hlt
  clear hr hr' hk hw hs hsa hfl hs4 hx3 hy4 hy hlt hlb
  go_wp2
  rw [← HY4.out]
  clear c0 c1 c2 c3 c4 f0 f1 f2 f3 f4 e0 e1 e2 e3 e4 d0 d1 d2 d3 d4 g0 g1 g2 g3 g4 q4 hmk hNs k1 k2 k3 l1 l2 l3
  go_loopw [34] (fun vi wr => ∃ (k : Nat) (done : List Int) (s : Cd.St), k ≤ N ∧ vi = .int .i64 (k : Int) ∧ Hid (Far10 N (Rc.r4 b) n k done s) ∧ Hid (Row10 w gr hB lb s G2 (sealObj n0 (n1 : Int) (n2 : Int) (n3 : Int) (some ⟨lb, 0, none⟩) N N) (sealObj 0 0 0 0 none 0 0) (done ++ List.replicate (N - k) 0) wr)) (fun vi _ => N - (intOf vi).toNat)
  case atStart => exact ⟨0, [], Rc.r4 b, Nat.zero_le _, rfl, Lib.hid ⟨rfl, rfl, l4⟩, HW4⟩
  case round =>
    obtain ⟨k, done, s, hk, rfl, HF, HRO⟩ := hrel
    by_cases hlt : k < N
    · have HD := Lib.hid HRO.out.drew
      have S0 := (seal5 HD.out.way.hd).2.2.2.2
      have hcl := rint_any gr s G2 wr.drew HD.out.way.rr (by have := HF.out.2.2; omega)
      have HST := Lib.hid (HF.out.step hlt)
      have HDL := Lib.hid HF.out.1
      obtain ⟨y, hy⟩ : ∃ y, y = Cd.num (Cd.tk 4 s) := ⟨_, rfl⟩
      rw [← hy] at hcl HST
      have HCL := Lib.hid hcl
      clear hcl hy
      have hk0 : (0 : Int) ≤ (k : Int) := by omega
      have hkN : (k : Int) < (N : Int) := by omega
      go_wp2
      go_region_held (fun w' => w'.cell? ⟨hB, 4, none⟩ = some (.slice (some ⟨lb, 0, none⟩) N N))
        (first | exact S2 | exact S1 | exact S0)
        (first
          | (go_at_call 93; refine HCL.out.mono ?_; rintro e ws ⟨rfl, hr, hkk⟩; have HR1 := Lib.hid (HD.out.red hr hkk); have S1 := (seal5 HR1.out.way.hd).2.2.2.2; have ck := fill_get HDL.out hlt HR1.out.fil; have fk : ws.frozen? ⟨lb, k, none⟩ = false := heap_frozen HR1.out.fil; have HNX := Lib.hid (HR1.out.set HDL.out hlt y); have S2 := (seal5 HNX.out.way.hd).2.2.2.2; clear hr hkk))
      go_wp2
      go_roundw
      case rel => exact ⟨k + 1, done ++ [y], Cd.af 4 s, by omega, by go_num, HST, HNX⟩
      case measure => simp [intOf]; omega
    · have hkN : k = N := by omega
      have hdone := HF.out.done hkN
      rw [← HLB.out] at hdone
      have hro := HRO.out
      rw [hdone, hkN, Nat.sub_self] at hro
      have HW7 := Lib.hid hro
      have HRZ : Hid (RdZ wr (some ⟨lb, 0, none⟩) labs (· = lb)) := Lib.hid (RdZ.of_cells hro.fil)
      have hNm : N ≤ maxLen := by unfold maxLen; omega
      have hcall := rightSeal_any n0 (n1 : Int) (n2 : Int) (n3 : Int) (some ⟨lb, 0, none⟩) labs N N _ wr HLL.out.symm (Nat.le_refl _) hNm HRZ.out
      have HLO2 : Hid (w.heap.size < lb) := Lib.hid (by have := hro.way.lo; have := hro.way.ne; have := hro.ne; omega)
      have HNM := Lib.hid hNm
      clear hdone hro hNm hkN
      obtain ⟨d0, d1, d2, d3, d4⟩ := seal5 HW7.out.way.hd
      by_cases hok : Rc.SOk ⟨n0, (n1 : Int), (n2 : Int), (n3 : Int), labs⟩
      · rw [decide_eq_true hok] at hcall
        have HP : Hid (Rc.sput ⟨n0, (n1 : Int), (n2 : Int), (n3 : Int), labs⟩ = Rc.sblk (Rc.pparse b)) := Lib.hid (by rw [HPA.out]; exact Rc.sput_ok hok)
        have HOK := Lib.hid hok
        have HCA := Lib.hid hcall
        clear hok hcall
        go_wp2_with fail
        refine HCA.out.mono ?_
        rintro e x8 ⟨rfl, hb⟩
        have HW8 := Lib.hid (HW7.out.old hb)
        have HRZ8 := Lib.hid (HRZ.out.old hb)
        clear hb d0 d1 d2 d3 d4
        obtain ⟨d0, d1, d2, d3, d4⟩ := seal5 HW8.out.way.hd
        go_wp2_with fail
        refine (sealBytes_any n0 (n1 : Int) (n2 : Int) (n3 : Int) (some ⟨lb, 0, none⟩) labs N N _ x8 HLL.out.symm (Nat.le_refl _) HNM.out HRZ8.out).mono ?_
        rintro e x9 ⟨A9, m9, C9, rfl, hm9, -, -, -, hr9, hb9⟩
        have HW9 := Lib.hid (HW8.out.old hb9)
        have HRZ9 := Lib.hid ((HRZ8.out.old hb9).mono (fun x hx => by have := HLO2.out; omega) : RdZ x9 (some ⟨lb, 0, none⟩) labs (w.heap.size < ·))
        have HR9 := Lib.hid hr9
        have HM9 := Lib.hid hm9
        obtain ⟨z0, z1, z2, z3, z4⟩ := seal5 HW9.out.way.zr
        obtain ⟨f0, f1, f2, f3, f4⟩ := seal_free HW9.out.way.zr
        clear d0 d1 d2 d3 d4 hr9 hm9 hb9
        obtain ⟨d0, d1, d2, d3, d4⟩ := seal5 HW9.out.way.hd
        have heq := equal_any A9 A _ b m9 n C9 C _ _ x9 HM9.out HN.out HR9.out (HR.out.old HW9.out.way.bel)
        by_cases hg : Rc.sblk (Rc.pparse b) = b
        · have hq : (Rc.sput ⟨n0, (n1 : Int), (n2 : Int), (n3 : Int), labs⟩ == b) = true := by rw [HP.out, hg]; simp
          rw [hq] at heq
          have hgood : Rc.SGood b := Rc.pgood_iff.1 ⟨by rw [HPA.out]; exact HOK.out, hg⟩
          have HG : Hid (Rc.sgot b = ⟨n0, (n1 : Int), (n2 : Int), (n3 : Int), labs⟩) := Lib.hid ((Rc.sgot_yes hgood).trans ((Rc.pparse_good hgood).symm.trans HPA.out))
          have HGE := Lib.hid (Rc.sgotE_yes hgood)
          have HEQ := Lib.hid heq
          clear hq hgood hg heq
          go_wp2_with fail
          refine HEQ.out.mono ?_
          rintro e xa ⟨rfl, hxa⟩
          subst hxa
          go_wp2
          exact bodyPost_ret (v := .tuple #[.agg #[.int .i64 n0, .int .i64 (n1 : Int), .int .i64 (n2 : Int), .int .i64 (n3 : Int), .slice (some ⟨lb, 0, none⟩) N N], .int .i64 0]) (by simp [results, Tryz.results60, go_sem, z0, z1, z2, z3, z4]) rfl (GotS.stored (s := ⟨n0, (n1 : Int), (n2 : Int), (n3 : Int), labs⟩) HG.out HGE.out rfl HRZ9.out HLL.out.symm (Nat.le_refl _) HNM.out (fun h => by cases h) HW9.out.way.bel)
        · have hq : (Rc.sput ⟨n0, (n1 : Int), (n2 : Int), (n3 : Int), labs⟩ == b) = false := by rw [HP.out]; simpa using hg
          rw [hq] at heq
          have hbad : ¬ Rc.SGood b := fun h => hg (Rc.pgood_iff.2 h).2
          have HG := Lib.hid (Rc.sgot_no hbad)
          have HGE := Lib.hid (Rc.sgotE_no hbad)
          have HEQ := Lib.hid heq
          clear hq hbad hg heq
          go_wp2_with fail
          refine HEQ.out.mono ?_
          rintro e xa ⟨rfl, hxa⟩
          subst hxa
          go_wp2
          exact bodyPost_ret (v := .tuple #[.agg #[.int .i64 0, .int .i64 0, .int .i64 0, .int .i64 0, .slice none 0 0], .int .i64 2]) (by simp [results, Tryz.results60, go_sem, z0, z1, z2, z3, z4]) rfl (GotS.stored (s := Rc.S.zero) HG.out HGE.out rfl (RdZ.empty _ _ _) rfl (Nat.le_refl _) (by decide) (fun _ => ⟨rfl, rfl⟩) HW9.out.way.bel)
      · rw [decide_eq_false hok] at hcall
        have hbad : ¬ Rc.SGood b := fun h => hok (by have := (Rc.pgood_iff.2 h).1; rwa [HPA.out] at this)
        have HG := Lib.hid (Rc.sgot_no hbad)
        have HGE := Lib.hid (Rc.sgotE_no hbad)
        have HCA := Lib.hid hcall
        clear hok hbad hcall
        go_wp2_with fail
        refine HCA.out.mono ?_
        rintro e x8 ⟨rfl, hb⟩
        have HW8 := Lib.hid (HW7.out.old hb)
        clear hb d0 d1 d2 d3 d4
        obtain ⟨z0, z1, z2, z3, z4⟩ := seal5 HW8.out.way.zr
        obtain ⟨f0, f1, f2, f3, f4⟩ := seal_free HW8.out.way.zr
        go_wp2
        exact bodyPost_ret (v := .tuple #[.agg #[.int .i64 0, .int .i64 0, .int .i64 0, .int .i64 0, .slice none 0 0], .int .i64 2]) (by simp [results, Tryz.results60, go_sem, z0, z1, z2, z3, z4]) rfl (GotS.stored (s := Rc.S.zero) HG.out HGE.out rfl (RdZ.empty _ _ _) rfl (Nat.le_refl _) (by decide) (fun _ => ⟨rfl, rfl⟩) HW8.out.way.bel)
end Go.Proofs.YtfkoomldncfdnaaGreat
namespace Go.Proofs.YtfkoomldncfdnaaGreat
open Go.RowKit
open Pt (Tx)

/-- what is answered for it -/
def sealIs (o : Option Rc.S) : Rc.S := o.getD Rc.S.zero
def SealA (o : Option Rc.S) (w : World) (e : Ending) (w' : World) : Prop :=
  ∃ x : Sx, e = .returned (.tuple #[.agg #[.int .i64 x.s.number, .int .i64 x.s.index, .int .i64 x.s.data, .int .i64 x.s.parity, .slice x.A x.s.labels.length x.C], .bool o.isSome]) ∧ x.s = sealIs o ∧ x.Ok w' (w.heap.size ≤ ·) ∧ Below w.heap.size w w'
theorem SealA.stored {w w7 : World} {B : Nat} {a0 a1 a2 a3 a4 : Value} {o : Option Rc.S} {n i d p : Int} {m : Nat} {l : List Int} {A : Option Addr} {C : Nat} {b : Bool} (hu : (⟨n, i, d, p, l⟩ : Rc.S) = sealIs o) (hb : o.isSome = b) (hB : w.heap.size ≤ B) (hm : m = l.length) (hok : Sx.Ok ⟨⟨n, i, d, p, l⟩, A, C⟩ w7 (fun x => w.heap.size ≤ x ∧ x ≠ B)) (hbl : Below w.heap.size w w7) :
    SealA o w (.returned (.tuple #[.agg #[.int .i64 n, .int .i64 i, .int .i64 d, .int .i64 p, .slice A m C], .bool b])) (((((w7.setCell ⟨B, 0, none⟩ a0).setCell ⟨B, 1, none⟩ a1).setCell ⟨B, 2, none⟩ a2).setCell ⟨B, 3, none⟩ a3).setCell ⟨B, 4, none⟩ a4) := by
  have hk := SitsX.kp_set w7 B 0 1 2 3 4 a0 a1 a2 a3 a4
  subst hm
  exact ⟨⟨⟨n, i, d, p, l⟩, A, C⟩, by rw [hb], hu, (hok.kp hk (fun x hx hx' => hx.2 hx')).mono (fun x hx => hx.1), hbl.trans (hk.below hbl.size (fun x hx => by omega))⟩
theorem nil_ok (w : World) (G : Nat → Prop) (n i d p : Int) : Sx.Ok ⟨⟨n, i, d, p, []⟩, none, 0⟩ w G := ⟨Nat.le_refl _, Nat.zero_le _, fun _ => ⟨rfl, rfl⟩, RdZ.empty _ _ _⟩
/-- a tape's block, and a seal's behind it -/
theorem tape_seal {w wb : World} {o1 o2 : Obj} (h : wb = (w.alloc o1).alloc o2) : Below w.heap.size w wb ∧ wb.heap[w.heap.size]? = some o1 ∧ wb.heap[w.heap.size + 1]? = some o2 := two_blocks h
set_option maxRecDepth 100000 in
set_option maxHeartbeats 4000000 in
theorem sealed_any (lab cap : Int) (bs : List Tx) (A : Option Addr) (L C : Nat) (G : Nat → Prop) (lost : Bool) (w : World) (hL : L = bs.length) (hLm : L ≤ 1000000) (hr : RdB w A bs G) (hl : ∀ s ∈ bs, s.length ≤ 1000000) :
    Calls Tryz.prog 30 #[.agg #[.int .i64 lab, .int .i64 cap, .slice A L C, .bool lost]] w (SealA (Gr.sealed ⟨lab, cap, bs, lost⟩) w) := by
  obtain ⟨wb, hwb⟩ : ∃ wb, wb = (w.alloc (tapeObj lab cap A L C lost)).alloc (sealObj 0 0 0 0 none 0 0) := ⟨_, rfl⟩
  obtain ⟨hB, hT, hU⟩ := tape_seal hwb
  obtain ⟨N, hN⟩ : ∃ N : Int, N = (L : Int) - 1 := ⟨_, rfl⟩
  have hcall := good_any lab cap bs A L C G lost N wb hL (hr.old hB) hl
  have hgz : Vo.goodZ ⟨lab, bs, lost⟩ N = Vo.good ⟨lab, bs, lost⟩ (bs.length - 1) := by
    unfold Vo.goodZ
    split
    · have h0 : bs.length = 0 := by omega
      rw [Vo.good_end (t := ⟨lab, bs, lost⟩) (by show bs.length ≤ _; omega)]
    · rw [show N.toNat = bs.length - 1 by omega]
  rw [hgz] at hcall
  have s1 : IntKind.i64.wrap ((L : Int) - 1) = N := by rw [hN]; exact IntWalk.i64_in _ (by omega)
  have hload : (unitOf (Vo.good ⟨lab, bs, lost⟩ (bs.length - 1))).load.length ≤ 1000 := by
    cases h : Vo.good ⟨lab, bs, lost⟩ (bs.length - 1) with
    | none => exact Nat.zero_le _
    | some u =>
      obtain ⟨b, -, hg, rfl⟩ := Vo.good_some h
      have h1 := hg.1.2
      have h2 := Fm.room_le (Fm.parse b).kind
      show (Fm.parse b).load.length ≤ 1000
      omega
  have HB := Lib.hid hB
  have HU := Lib.hid hU
  have HW : Hid (wb = (w.alloc (.cells #[.int .i64 lab, .int .i64 cap, .slice A L C, .bool lost] 49)).alloc (.cells #[.int .i64 0, .int .i64 0, .int .i64 0, .int .i64 0, .slice none 0 0] 38)) := Lib.hid hwb
  obtain ⟨t0, t1, t2, t3⟩ := tape4 hT
  rw [HW.out] at t0 t1 t2 t3
  obtain ⟨ok, hok⟩ : ∃ ok, ok = (Vo.good ⟨lab, bs, lost⟩ (bs.length - 1)).isSome := ⟨_, rfl⟩
  obtain ⟨k, lb, nb, ld, hu⟩ : ∃ k lb nb ld, unitOf (Vo.good ⟨lab, bs, lost⟩ (bs.length - 1)) = ⟨k, lb, nb, ld⟩ := ⟨_, _, _, _, rfl⟩
  unfold GoodA at hcall
  rw [hu, ← hok] at hcall
  rw [hu] at hload
  have hload' : ld.length ≤ 1000 := hload
  have hcase : (Gr.sealed ⟨lab, cap, bs, lost⟩ = none ∧ (ok = false ∨ (ok = true ∧ (k != 5) = true))) ∨ (ok = true ∧ k = 5 ∧ Gr.sealed ⟨lab, cap, bs, lost⟩ = if Rc.SGood ld then some (Rc.sparse ld) else none) := by
    cases h : Vo.good ⟨lab, bs, lost⟩ (bs.length - 1) with
    | none =>
      rw [h] at hok
      exact .inl ⟨Gr.sealed_bad (t := ⟨lab, cap, bs, lost⟩) h, .inl hok⟩
    | some u =>
      rw [h] at hok hu
      have hok' : ok = true := hok
      have hu' : u = ⟨k, lb, nb, ld⟩ := hu
      subst hu'
      by_cases h1 : k = 5
      · refine .inr ⟨hok', h1, ?_⟩
        unfold Gr.sealed
        rw [show Vo.good (Gr.vo ⟨lab, cap, bs, lost⟩) ((⟨lab, cap, bs, lost⟩ : St.T).blocks.length - 1) = some ⟨k, lb, nb, ld⟩ from h]
        show (if k = 5 ∧ Rc.SGood ld then some (Rc.sparse ld) else none) = _
        by_cases h2 : Rc.SGood ld
        · rw [if_pos ⟨h1, h2⟩, if_pos h2]
        · rw [if_neg fun h => h2 h.2, if_neg h2]
      · exact .inl ⟨Gr.sealed_kind (t := ⟨lab, cap, bs, lost⟩) h h1, .inr ⟨hok', by simpa using h1⟩⟩
  have HC := Lib.hid hcall
  have HLD := Lib.hid hload'
  clear hcall hload hload' hB hT hU hwb hr hL hl hu hok hgz hN
  rcases hcase with ⟨hres, hq⟩ | ⟨rfl, rfl, hres⟩
  · have HRES := Lib.hid hres
    clear hres
    rcases hq with rfl | ⟨rfl, p1⟩
    all_goals
      go_enter Tryz.func30, Tryz.ntmps30
      go_wp2_with fail
      rw [← HW.out]
      refine HC.out.mono ?_
      rintro e w1 ⟨A1, m1, C1, rfl, hm1, hc1, hn1, hr1, hb1⟩
      obtain ⟨wc, hwc⟩ : ∃ wc, wc = w1.alloc (unitObj k lb nb A1 m1 C1) := ⟨_, rfl⟩
      have hbc : Below wb.heap.size wb wc := by rw [hwc]; exact hb1.alloc hb1.size _
      have HZ := Lib.hid (below_obj hbc HU.out)
      have HBC := Lib.hid (HB.out.trans (hbc.mono HB.out.size))
      have hX : wc.heap[w1.heap.size]? = some (unitObj k lb nb A1 m1 C1) := by rw [hwc]; exact Go.Deep.blk_alloc_new _ _
      obtain ⟨x0, x1, x2, x3⟩ := unit4 hX
      have HWC := Lib.hid hwc
      unfold unitObj at HWC
      obtain ⟨z0, z1, z2, z3, z4⟩ := seal5 HZ.out
      obtain ⟨y0, y1, y2, y3, y4⟩ := seal_free HZ.out
      rw [HWC.out] at z0 z1 z2 z3 z4 y0 y1 y2 y3 y4 x0 x1 x2 x3
      clear hwc hbc hb1 hr1 hn1 hc1 hm1 t0 t1 t2 t3 hX
      go_wp2
      rw [← HWC.out]
      clear z0 z1 z2 z3 z4
      obtain ⟨z0, z1, z2, z3, z4⟩ := seal5 HZ.out
      refine bodyPost_ret (v := .tuple #[.agg #[.int .i64 0, .int .i64 0, .int .i64 0, .int .i64 0, .slice none 0 0], .bool false]) (by simp [results, Tryz.results30, go_sem, z0, z1, z2, z3, z4]) rfl ?_
      rw [HRES.out]
      exact SealA.stored (l := []) rfl rfl (by omega) rfl (nil_ok _ _ _ _ _ _) HBC.out
  · have HRES := Lib.hid hres
    clear hres
    go_enter Tryz.func30, Tryz.ntmps30
    go_wp2_with fail
    rw [← HW.out]
    refine HC.out.mono ?_
    rintro e w1 ⟨A1, m1, C1, rfl, hm1, hc1, hn1, hr1, hb1⟩
    obtain ⟨wc, hwc⟩ : ∃ wc, wc = w1.alloc (unitObj 5 lb nb A1 m1 C1) := ⟨_, rfl⟩
    have hb1' : Below w1.heap.size w1 wc := by rw [hwc]; exact (Below.refl _ _).alloc (Nat.le_refl _) _
    have hbc : Below wb.heap.size wb wc := hb1.trans (hb1'.mono hb1.size)
    have hcall := readSeal_any A1 ld m1 C1 _ wc hm1 (by have h1 : m1 = ld.length := hm1; have := HLD.out; omega) hn1 (hr1.old hb1')
    have HC2 := Lib.hid hcall
    have HZ := Lib.hid (below_obj hbc HU.out)
    have HBC := Lib.hid (HB.out.trans (hbc.mono HB.out.size))
    have hX : wc.heap[w1.heap.size]? = some (unitObj 5 lb nb A1 m1 C1) := by rw [hwc]; exact Go.Deep.blk_alloc_new _ _
    obtain ⟨x0, x1, x2, x3⟩ := unit4 hX
    have HWC := Lib.hid hwc
    unfold unitObj at HWC
    rw [HWC.out] at x0 x1 x2 x3
    clear hwc hbc hb1 hb1' hr1 hn1 hc1 hm1 t0 t1 t2 t3 hcall HU HB hX
    go_wp2_with fail
    rw [← HWC.out]
    clear x0 x1 x2 x3
    refine HC2.out.mono ?_
    rintro e w2 ⟨A2, m2, C2, rfl, hm2, hc2, hcm2, hn2, hr2, hb2⟩
    obtain ⟨⟨sn, si, sd, sp, sl⟩, hs⟩ : ∃ s, s = Rc.sgot ld := ⟨_, rfl⟩
    obtain ⟨ge, hge⟩ : ∃ ge, ge = Rc.sgotE ld := ⟨_, rfl⟩
    rw [← hs] at hm2 hr2 ⊢
    rw [← hge]
    dsimp only at hm2 hr2 ⊢
    obtain ⟨wd, hwd⟩ : ∃ wd, wd = w2.alloc (sealObj sn si sd sp A2 m2 C2) := ⟨_, rfl⟩
    have hb2' : Below w2.heap.size w2 wd := by rw [hwd]; exact (Below.refl _ _).alloc (Nat.le_refl _) _
    have hbd : Below wc.heap.size wc wd := hb2.trans (hb2'.mono hb2.size)
    have HZD := Lib.hid (below_obj hbd HZ.out)
    have HBD := Lib.hid (HBC.out.trans (hbd.mono HBC.out.size))
    have hY : wd.heap[w2.heap.size]? = some (sealObj sn si sd sp A2 m2 C2) := by rw [hwd]; exact Go.Deep.blk_alloc_new _ _
    have HOK : Hid (Sx.Ok ⟨⟨sn, si, sd, sp, sl⟩, A2, C2⟩ wd (fun x => w.heap.size ≤ x ∧ x ≠ w.heap.size + 1)) := Lib.hid (by
      have h1 := heap_lt HZ.out
      have h2 := HBC.out.size
      refine ⟨by rw [← hm2]; exact hc2, hcm2, fun h => ?_, (hr2.old hb2').mono (fun x hx => ?_)⟩
      · have := hn2 h; rw [← hm2]; exact this
      · have hx' : wc.heap.size ≤ x := hx
        omega)
    have HM2 := Lib.hid hm2
    have HFIN : Hid ((⟨sn, si, sd, sp, sl⟩ : Rc.S) = sealIs (Gr.sealed ⟨lab, cap, bs, lost⟩) ∧ (Gr.sealed ⟨lab, cap, bs, lost⟩).isSome = (ge == 0)) := Lib.hid (by
      rw [HRES.out, hs, hge]
      by_cases hg : Rc.SGood ld
      · rw [if_pos hg, Rc.sgot_yes hg, Rc.sgotE_yes hg]
        exact ⟨rfl, rfl⟩
      · rw [if_neg hg, Rc.sgot_no hg, Rc.sgotE_no hg]
        exact ⟨rfl, rfl⟩)
    obtain ⟨x0, x1, x2, x3, x4⟩ := seal5 hY
    obtain ⟨z0, z1, z2, z3, z4⟩ := seal5 HZD.out
    obtain ⟨y0, y1, y2, y3, y4⟩ := seal_free HZD.out
    have HWD := Lib.hid hwd
    unfold sealObj at HWD
    rw [HWD.out] at x0 x1 x2 x3 x4 z0 z1 z2 z3 z4 y0 y1 y2 y3 y4
    clear hwd hb2 hb2' hbd hY hr2 hm2 hs hge hc2 hcm2 hn2
    go_wp2
    rw [← HWD.out]
    clear z0 z1 z2 z3 z4
    obtain ⟨z0, z1, z2, z3, z4⟩ := seal5 HZD.out
    exact bodyPost_ret (v := .tuple #[.agg #[.int .i64 sn, .int .i64 si, .int .i64 sd, .int .i64 sp, .slice A2 m2 C2], .bool (ge == 0)]) (by simp [results, Tryz.results30, go_sem, z0, z1, z2, z3, z4]) rfl (SealA.stored (l := sl) HFIN.out.1 HFIN.out.2 (by omega) HM2.out HOK.out HBD.out)
end Go.Proofs.YtfkoomldncfdnaaGreat
