/- The law ErasureTells answers true: Encode and Decode answer as the document's own, whatever rows they are given. -/
import Derived.Test.YtelkeoopfejgnaaErAlive
import Derived.Test.YtelkeoopfejgnaaMxSized
namespace Go.Proofs.Ytelkeoopfejgnaa
open Go.RowKit Mx

set_option maxRecDepth 100000 in
set_option maxHeartbeats 4000000 in
theorem erasureTells_walk (A : Option Addr) (n C : Nat) (L : Nat → Nat) (M : Mat) (p d : Int) (G : Nat → Prop) (w : World)
    (hn : n ≤ maxLen) (hL : ∀ i, i < n → L i ≤ 140737488351232) (hp : -9223372036854775808 ≤ p ∧ p ≤ 9223372036854775807) (hd : -9223372036854775808 ≤ d ∧ d ≤ 9223372036854775807) (h : RdM w A n L M G) :
    Calls Try.prog 3 #[.slice A n C, .int .i64 p, .int .i64 d] w fun e w' => e = .returned (.bool true) ∧ Below w.heap.size w w' := by
  obtain ⟨ec, ek, eq, eX, hek, henc⟩ := EncAny.res n L M p
  obtain ⟨dc, dk, dq, dX, hdk, hdec⟩ := DecAny.res n L M d
  have HENC := Lib.hid henc
  have HDEC := Lib.hid hdec
  have H0 := Lib.hid h
  have HL := Lib.hid hL
  have HN := Lib.hid hn
  have HP := Lib.hid hp
  have HD := Lib.hid hd
  clear henc hdec h hL hd
  obtain ⟨hp1, hp2⟩ := hp
  unfold maxLen at hn
  go_enter Try.func3, Try.ntmps3
  go_wp2_with fail
  refine (alive3_true _).mono ?_
  rintro e w1 ⟨rfl, hB⟩
  have H1 := Lib.hid (H0.out.old hB)
  have HB := Lib.hid hB
  clear hB H0
  go_wp2_with fail
  refine (few_sized _ _ _ _ _ _ _ HN.out HL.out H1.out).mono ?_
  rintro e w' ⟨b1, rfl, rfl, hfew⟩
  cases b1
  · clear hfew
    go_wp2
    go_ret
    exact ⟨rfl, HB.out⟩
  obtain ⟨hf1, hf2⟩ := hfew rfl
  have HF := Lib.hid hf2
  clear hfew hf2
  by_cases hbig : 30 < n
  · have y1 : decide ((30 : Int) < (n : Int)) = true := decide_eq_true (by omega)
    go_wp2
    go_ret
    exact ⟨rfl, HB.out⟩
  have y1 : decide ((30 : Int) < (n : Int)) = false := decide_eq_false (by omega)
  by_cases hbp : 20 < p
  · have y2 : decide ((20 : Int) < p) = true := decide_eq_true hbp
    go_wp2
    go_ret
    exact ⟨rfl, HB.out⟩
  have y2 : decide ((20 : Int) < p) = false := decide_eq_false hbp
  go_wp2_with fail
  refine (encode_any _ n C L M _ p _ HN.out (fun h => by have := HF.out 0 h; omega) HP.out.1 HP.out.2 H1.out).mono ?_
  intro e w2 hres
  obtain ⟨A2, C2, rfl, hr2, hB2⟩ := HENC.out _ _ _ hres
  have HR2 := Lib.hid hr2
  have HB2 := Lib.hid hB2
  clear hr2 hB2 hres
  have HT2 := Lib.hid (HB.out.trans (HB2.out.mono HB.out.size))
  have H2 := Lib.hid (H1.out.old HB2.out)
  go_wp2_with fail
  refine (refEncode_any _ n C L M _ p _ (by omega) (fun h => by have := HF.out 0 h; omega) HP.out.1 HP.out.2 H2.out).mono ?_
  intro e w3 hres
  obtain ⟨A3, C3, rfl, hr3, hB3⟩ := HENC.out _ _ _ hres
  have HR3 := Lib.hid hr3
  have HB3 := Lib.hid hB3
  clear hr3 hB3 hres
  have HT3 := Lib.hid (HT2.out.trans (HB3.out.mono HT2.out.size))
  have HX3 := Lib.hid (HR2.out.below HB3.out)
  have H3 := Lib.hid (H2.out.old HB3.out)
  clear HB2 HB3 HR2 H1 H2 HT2 HB
  go_wp2_with fail
  refine (decode_any _ n C L M _ d _ HN.out HD.out.1 HD.out.2 (fun i hi => by have := HF.out i hi; omega) H3.out).mono ?_
  intro e w4 hres
  obtain ⟨A4, C4, rfl, hr4, hB4⟩ := HDEC.out _ _ _ hres
  have HR4 := Lib.hid hr4
  have HT4 := Lib.hid (HT3.out.trans (hB4.mono HT3.out.size))
  have HX4 := Lib.hid (HX3.out.old hB4)
  have HY4 := Lib.hid (HR3.out.old hB4)
  have H4 := Lib.hid (H3.out.old hB4)
  clear hr4 hB4 hres HX3 HR3 H3 HT3
  go_wp2_with fail
  refine (refDecode_any _ n C L M _ d _ (by omega) (fun i hi => by have := HF.out i hi; omega) HD.out.1 HD.out.2 H4.out).mono ?_
  intro e w5 hres
  obtain ⟨A5, C5, rfl, hr5, hB5⟩ := HDEC.out _ _ _ hres
  have HR5 := Lib.hid hr5
  have HT5 := Lib.hid (HT4.out.trans (hB5.mono HT4.out.size))
  have HX5 := Lib.hid (HX4.out.old hB5)
  have HY5 := Lib.hid (HY4.out.old hB5)
  have HZ5 := Lib.hid (HR4.out.old hB5)
  clear hr5 hB5 hres HX4 HY4 HR4 H4 HT4
  go_wp2_with fail
  refine (sameRows_any _ _ _ _ _ _ _ _ _ _ _ (by unfold maxLen; omega) HX5.out HY5.out (fun _ _ _ _ => rfl)).mono ?_
  rintro e w6 ⟨rfl, hB6⟩
  have HT6 := Lib.hid (HT5.out.trans (hB6.mono HT5.out.size))
  have HZ6 := Lib.hid (HZ5.out.old hB6)
  have HU6 := Lib.hid (HR5.out.old hB6)
  clear hB6 HX5 HY5 HZ5 HR5 HT5
  go_wp2_with fail
  refine (num3_any _ _).mono ?_
  rintro e w' ⟨rfl, rfl⟩
  go_wp2_with fail
  refine (sameRows_any _ _ _ _ _ _ _ _ _ _ _ (by unfold maxLen; omega) HZ6.out HU6.out (fun _ _ _ _ => rfl)).mono ?_
  rintro e w7 ⟨rfl, hB7⟩
  have HT7 := Lib.hid (HT6.out.trans (hB7.mono HT6.out.size))
  clear hB7
  go_wp2_with fail
  refine (num3_any _ _).mono ?_
  rintro e w' ⟨rfl, rfl⟩
  go_wp2
  go_ret
  exact ⟨rfl, HT7.out⟩
end Go.Proofs.Ytelkeoopfejgnaa
