/- The law MatrixTells answers true: the calls of package matrix answer as the document's own, whatever two matrices and column they are given. -/
import Derived.Test.YtanaldojoacbeaaMxAlive
import Derived.Test.YtanaldojoacbeaaMxOpen
namespace Go.Proofs.Ytanaldojoacbeaa
open Go.RowKit Mx

set_option maxRecDepth 100000 in
set_option maxHeartbeats 4000000 in
theorem matrixTells_walk (A : Option Addr) (n C : Nat) (L : Nat → Nat) (M : Mat) (B : Option Addr) (n' C' : Nat) (L' : Nat → Nat) (M' : Mat) (D : Option Addr) (m Cv : Nat) (v : Nat → Fe) (G : Nat → Prop) (w : World)
    (hn : n ≤ maxLen) (hn' : n' ≤ maxLen) (hm : m ≤ maxLen) (h : RdM w A n L M G) (h' : RdM w B n' L' M' G) (hv : Rd w D m v G) :
    Calls Try.prog 3 #[.slice A n C, .slice B n' C', .slice D m Cv] w fun e w' => e = .returned (.bool true) ∧ Below w.heap.size w w' := by
  obtain ⟨mc, mk, mq, mX, hmk, hmul⟩ := MulAny.res n L M n' L' M'
  obtain ⟨ic, ik, iq, iX, hik, hinv⟩ := InvAny.res n L M
  obtain ⟨ac, ak, aX, hak, happ⟩ := ApplyAny.res n L M m v
  have HMUL := Lib.hid hmul
  have HINV := Lib.hid hinv
  have HAPP := Lib.hid happ
  have H0 := Lib.hid h
  have H0' := Lib.hid h'
  have HV0 := Lib.hid hv
  have HN := Lib.hid hn
  have HN' := Lib.hid hn'
  clear hmul hinv happ h h' hv hn hn'
  unfold maxLen at hm
  go_enter Try.func3, Try.ntmps3
  go_wp2_with fail
  refine (alive_true _).mono ?_
  rintro e w1 ⟨rfl, hB⟩
  have H1 := Lib.hid (H0.out.old hB)
  have H1' := Lib.hid (H0'.out.old hB)
  have HV1 := Lib.hid (HV0.out.old hB)
  have HB := Lib.hid hB
  clear hB H0 H0' HV0
  go_wp2_with fail
  refine (few_any _ _ _ _ _ _ _ HN.out H1.out).mono ?_
  rintro e w' ⟨b1, rfl, rfl⟩
  cases b1
  · go_wp2
    go_ret
    exact ⟨rfl, HB.out⟩
  go_wp2_with fail
  refine (few_any _ _ _ _ _ _ _ HN'.out H1'.out).mono ?_
  rintro e w' ⟨b2, rfl, rfl⟩
  cases b2
  · go_wp2
    go_ret
    exact ⟨rfl, HB.out⟩
  by_cases hbig : 400 < m
  · go_wp2
    go_ret
    exact ⟨rfl, HB.out⟩
  go_wp2_with fail
  refine (mulM_any _ _ _ _ _ _ _ _ _ _ _ _ _ HN.out HN'.out H1.out H1'.out).mono ?_
  intro e w2 hres
  obtain ⟨A2, C2, rfl, hr2, hB2⟩ := HMUL.out _ _ _ hres
  have HR2 := Lib.hid hr2
  have HB2 := Lib.hid hB2
  clear hr2 hB2 hres
  have HT2 := Lib.hid (HB.out.trans (HB2.out.mono HB.out.size))
  go_wp2_with fail
  refine (refMulM_any _ _ _ _ _ _ _ _ _ _ _ _ _ HN.out HN'.out (H1.out.old HB2.out) (H1'.out.old HB2.out)).mono ?_
  intro e w3 hres
  obtain ⟨A3, C3, rfl, hr3, hB3⟩ := HMUL.out _ _ _ hres
  have HR3 := Lib.hid hr3
  have HB3 := Lib.hid hB3
  clear hr3 hB3 hres
  have HT3 := Lib.hid (HT2.out.trans (HB3.out.mono HT2.out.size))
  have HX2 := Lib.hid (HR2.out.below HB3.out)
  go_wp2_with fail
  refine (apply_any _ _ _ _ _ _ _ _ _ _ _ _ HN.out ((H1.out.old HB2.out).old HB3.out) ((HV1.out.old HB2.out).old HB3.out)).mono ?_
  intro e w4 hres
  obtain ⟨A4, C4, rfl, hr4, hB4⟩ := HAPP.out _ _ _ hres
  have HR4 := Lib.hid hr4
  have HB4 := Lib.hid hB4
  clear hr4 hB4 hres
  have HT4 := Lib.hid (HT3.out.trans (HB4.out.mono HT3.out.size))
  have HX3 := Lib.hid (HX2.out.old HB4.out)
  have HY3 := Lib.hid (HR3.out.below HB4.out)
  go_wp2_with fail
  refine (refApply_any _ _ _ _ _ _ _ _ _ _ _ _ HN.out (((H1.out.old HB2.out).old HB3.out).old HB4.out) (((HV1.out.old HB2.out).old HB3.out).old HB4.out)).mono ?_
  intro e w5 hres
  obtain ⟨A5, C5, rfl, hr5, hB5⟩ := HAPP.out _ _ _ hres
  have HR5 := Lib.hid hr5
  have HB5 := Lib.hid hB5
  clear hr5 hB5 hres
  have HT5 := Lib.hid (HT4.out.trans (HB5.out.mono HT4.out.size))
  have HX4 := Lib.hid (HX3.out.old HB5.out)
  have HY4 := Lib.hid (HY3.out.old HB5.out)
  have HZ4 := Lib.hid (HR4.out.below HB5.out)
  have HM5 := Lib.hid ((((H1.out.old HB2.out).old HB3.out).old HB4.out).old HB5.out)
  clear HB2 HB3 HB4 HB5 HT2 HT3 HT4 HX2 HX3 HY3 HR2 HR3 HR4 H1 H1' HV1 HMUL HAPP
  go_wp2_with fail
  refine (inverse_any _ _ _ _ _ _ _ HN.out HM5.out).mono ?_
  intro e w6 hres
  obtain ⟨A6, C6, rfl, hr6, hB6⟩ := HINV.out _ _ _ hres
  have HR6 := Lib.hid hr6
  have HB6 := Lib.hid hB6
  clear hr6 hB6 hres
  have HT6 := Lib.hid (HT5.out.trans (HB6.out.mono HT5.out.size))
  have HX6 := Lib.hid (HX4.out.old HB6.out)
  have HY6 := Lib.hid (HY4.out.old HB6.out)
  have HZ6 := Lib.hid (HZ4.out.old HB6.out)
  have HU6 := Lib.hid (HR5.out.below HB6.out)
  have HM6 := Lib.hid (HM5.out.old HB6.out)
  clear HB6 HT5 HX4 HY4 HZ4 HR5 HM5
  go_wp2_with fail
  refine (refInverse_any _ _ _ _ _ _ _ HN.out HM6.out).mono ?_
  intro e w7 hres
  obtain ⟨A7, C7, rfl, hr7, hB7⟩ := HINV.out _ _ _ hres
  have HR7 := Lib.hid hr7
  have HB7 := Lib.hid hB7
  clear hr7 hB7 hres
  have HT7 := Lib.hid (HT6.out.trans (HB7.out.mono HT6.out.size))
  have HX7 := Lib.hid (HX6.out.old HB7.out)
  have HY7 := Lib.hid (HY6.out.old HB7.out)
  have HZ7 := Lib.hid (HZ6.out.old HB7.out)
  have HU7 := Lib.hid (HU6.out.old HB7.out)
  have HI7 := Lib.hid (HR6.out.below HB7.out)
  have HM7 := Lib.hid (HM6.out.old HB7.out)
  clear HB7 HT6 HX6 HY6 HZ6 HU6 HR6 HM6 HINV
  go_wp2_with fail
  refine (right_any _ _ _ _ _ _ _ HN.out HM7.out).mono ?_
  rintro e w' ⟨rfl, rfl⟩
  go_wp2_with fail
  refine (refRight_any _ _ _ _ _ _ _ HN.out HM7.out).mono ?_
  rintro e w8 ⟨rfl, hB8⟩
  have HX8 := Lib.hid (HX7.out.old hB8)
  have HY8 := Lib.hid (HY7.out.old hB8)
  have HZ8 := Lib.hid (HZ7.out.old hB8)
  have HU8 := Lib.hid (HU7.out.old hB8)
  have HI8 := Lib.hid (HI7.out.old hB8)
  have HJ8 := Lib.hid (HR7.out.old hB8)
  have HT8 := Lib.hid (HT7.out.trans (hB8.mono HT7.out.size))
  clear hB8 HX7 HY7 HZ7 HU7 HI7 HR7 HT7 HM7
  obtain ⟨rb, hrb⟩ : ∃ r, r = rightB n L := ⟨_, rfl⟩
  rw [← hrb]
  clear hrb
  go_wp2_with fail
  refine (sameRows_any _ _ _ _ _ _ _ _ _ _ _ (by unfold maxLen; omega) HX8.out HY8.out (fun _ _ _ _ => rfl)).mono ?_
  rintro e w9 ⟨rfl, hB9⟩
  have hs1 := str_run (HZ8.out.old hB9) C4
  have hs2 := str_run (HU8.out.old hB9) C5
  have HI9 := Lib.hid (HI8.out.old hB9)
  have HJ9 := Lib.hid (HJ8.out.old hB9)
  have HT9 := Lib.hid (HT8.out.trans (hB9.mono HT8.out.size))
  clear hB9 HX8 HY8 HZ8 HU8 HI8 HJ8 HT8
  go_wp2_with fail
  refine (num_any _ _).mono ?_
  rintro e w' ⟨rfl, rfl⟩
  go_wp2_with fail
  refine (num_any _ _).mono ?_
  rintro e w' ⟨rfl, rfl⟩
  clear hs1 hs2
  go_wp2_with fail
  refine (sameRows_any _ _ _ _ _ _ _ _ _ _ _ (by unfold maxLen; omega) HI9.out HJ9.out (fun _ _ _ _ => rfl)).mono ?_
  rintro e w10 ⟨rfl, hB10⟩
  have HT10 := Lib.hid (HT9.out.trans (hB10.mono HT9.out.size))
  clear hB10
  go_wp2_with fail
  refine (num_any _ _).mono ?_
  rintro e w' ⟨rfl, rfl⟩
  go_wp2
  go_ret
  exact ⟨rfl, HT10.out⟩
end Go.Proofs.Ytanaldojoacbeaa
