/- What Encode of package erasure answers, whatever it is given. -/
import Derived.Test.YtelkeoopfejgnaaErOps
import Derived.Test.YtelkeoopfejgnaaErApplied
import Derived.Test.YtelkeoopfejgnaaMxCau
namespace Go.Proofs.Ytelkeoopfejgnaa
open Go.RowKit Mx

theorem EncAny.bad {n : Nat} {L : Nat → Nat} {D : Mat} {p : Int} (hn : ¬ EncOk n L p) (w : World) {w' : World} (h : Below w.heap.size w w') : EncAny n L D p w (.returned (.tuple #[.slice none 0 0, .int .i64 1])) w' := by
  unfold EncAny; rw [if_neg hn]; exact ResM.bad w h
set_option maxHeartbeats 2000000 in
theorem encode_main (A : Option Addr) (n C : Nat) (L : Nat → Nat) (D : Mat) (G : Nat → Prop) (p : Nat) (w : World) (hn0 : 0 < n) (hp0 : 0 < p) (hnp : n + p ≤ 255) (ha : ∀ i, i < n → L i = L 0) (hL : L 0 ≤ 1000000) (h : RdM w A n L D G) :
    Calls Try.prog 8 #[.slice A n C, .int .i64 (p : Int)] w (OwnM 0 p (L 0) (par n p D) w) := by
  have HA := Lib.hid (alikeB_true.2 ha)
  have H := Lib.hid h
  have H2 := Lib.hid (h.congr (L' := fun _ => L 0) (M' := D) ha (fun _ _ _ _ => rfl))
  have q1 : decide ((p : Int) < 0) = false := decide_eq_false (by omega)
  have q2 : decide ((255 : Int) - (n : Int) < (p : Int)) = false := decide_eq_false (by omega)
  have q3 : ((p : Int) == 0) = false := beq_eq_false_iff_ne.2 (by omega)
  clear h ha
  go_enter Try.func8, Try.ntmps8
  go_wp2_with fail
  refine (alike_is _ n C L D _ _ true (by unfold maxLen; omega) H.out HA.out).mono ?_
  rintro e w' ⟨rfl, rfl⟩
  go_wp2_with fail
  refine (cauchy_main n p _ hn0 hp0 hnp).mono ?_
  rintro e w1 ⟨A1, C1, rfl, hr1, hB1⟩
  have HR1 := Lib.hid hr1
  have HB1 := Lib.hid hB1
  clear hr1 hB1
  go_wp2_with fail
  refine (applied_own _ p C1 (cau p) _ _ n C (L 0) D _ _ hp0 (by omega) hn0 (by omega) hL HR1.out (H2.out.old HB1.out)).mono ?_
  rintro e w2 ⟨b, G2, C2, rfl, hb, hO, hB2⟩
  have HO := Lib.hid hO
  have HB2 := Lib.hid hB2
  clear hO hB2
  go_wp2
  go_ret2
  exact ⟨b, G2, C2, rfl, Nat.le_trans HB1.out.size hb, HO.out.down HB1.out.size, HB1.out.trans (HB2.out.mono HB1.out.size)⟩
set_option maxHeartbeats 2000000 in
theorem encode_any (A : Option Addr) (n C : Nat) (L : Nat → Nat) (D : Mat) (G : Nat → Prop) (p : Int) (w : World) (hn : n ≤ maxLen) (hL : 0 < n → L 0 ≤ 1000000) (hp : -9223372036854775808 ≤ p) (hp' : p ≤ 9223372036854775807) (h : RdM w A n L D G) :
    Calls Try.prog 8 #[.slice A n C, .int .i64 p] w (EncAny n L D p w) := by
  have HN := Lib.hid hn
  unfold maxLen at hn
  have H := Lib.hid h
  clear h
  by_cases h1 : n < 1
  · have HE : Hid (¬ EncOk n L p) := Lib.hid fun hh => by have := hh.1; omega
    go_enter Try.func8, Try.ntmps8
    go_wp2
    go_ret2
    exact EncAny.bad HE.out w (Below.refl _ _)
  · cases ha : alikeB n L with
    | false =>
      have HE : Hid (¬ EncOk n L p) := Lib.hid fun hh => by
        rw [alikeB_true.2 hh.2.1] at ha; cases ha
      have HA := Lib.hid ha
      clear ha
      go_enter Try.func8, Try.ntmps8
      go_wp2_with fail
      refine (alike_is _ n C L D _ _ false HN.out H.out HA.out).mono ?_
      rintro e w' ⟨rfl, rfl⟩
      go_wp2
      go_ret2
      exact EncAny.bad HE.out w (Below.refl _ _)
    | true =>
      have HA := Lib.hid ha
      clear ha
      by_cases h2 : p < 0
      · have HE : Hid (¬ EncOk n L p) := Lib.hid fun hh => by have := hh.2.2.1; omega
        go_enter Try.func8, Try.ntmps8
        go_wp2_with fail
        refine (alike_is _ n C L D _ _ true HN.out H.out HA.out).mono ?_
        rintro e w' ⟨rfl, rfl⟩
        go_wp2
        go_ret2
        exact EncAny.bad HE.out w (Below.refl _ _)
      · by_cases h3 : 255 - (n : Int) < p
        · have HE : Hid (¬ EncOk n L p) := Lib.hid fun hh => by have := hh.2.2.2; omega
          go_enter Try.func8, Try.ntmps8
          go_wp2_with fail
          refine (alike_is _ n C L D _ _ true HN.out H.out HA.out).mono ?_
          rintro e w' ⟨rfl, rfl⟩
          go_wp2
          go_ret2
          exact EncAny.bad HE.out w (Below.refl _ _)
        · obtain ⟨k, rfl⟩ : ∃ k : Nat, p = (k : Int) := ⟨p.toNat, by omega⟩
          have hok : EncOk n L (k : Int) := ⟨by omega, alikeB_true.1 HA.out, by omega, by omega⟩
          by_cases h4 : k = 0
          · have HE := Lib.hid hok
            subst h4
            clear hok
            go_enter Try.func8, Try.ntmps8
            go_wp2_with fail
            refine (alike_is _ n C L D _ _ true HN.out H.out HA.out).mono ?_
            rintro e w' ⟨rfl, rfl⟩
            go_wp2
            go_ret2
            unfold EncAny; rw [if_pos HE.out]; exact ⟨none, 0, rfl, RdM.empty _ _ _ _ _, Below.refl _ _⟩
          · refine (encode_main A n C L D G k w (by omega) (by omega) (by omega) (alikeB_true.1 HA.out) (hL (by omega)) H.out).mono fun e w' hh => ?_
            unfold EncAny; rw [if_pos hok]; exact hh.res
set_option maxHeartbeats 1000000 in
/-- rows all as long: parity, or nil where none is asked for -/
theorem encode_ok (A : Option Addr) (n C : Nat) (L : Nat → Nat) (D : Mat) (G : Nat → Prop) (p : Nat) (w : World) (hn0 : 0 < n) (hnp : n + p ≤ 255) (ha : ∀ i, i < n → L i = L 0) (hL : L 0 ≤ 1000000) (h : RdM w A n L D G) :
    Calls Try.prog 8 #[.slice A n C, .int .i64 (p : Int)] w fun e w' => ∃ A' C', e = .returned (.tuple #[.slice A' p C', .int .i64 0]) ∧ (A' = none → p = 0 ∧ C' = 0) ∧ RdM w' A' p (fun _ => L 0) (par n p D) (· < w'.heap.size) ∧ Below w.heap.size w w' := by
  by_cases hp : p = 0
  · subst hp
    have HA := Lib.hid (alikeB_true.2 ha)
    have H := Lib.hid h
    clear h ha
    have q2 : decide ((255 : Int) - (n : Int) < 0) = false := decide_eq_false (by omega)
    go_enter Try.func8, Try.ntmps8
    go_wp2_with fail
    refine (alike_is _ n C L D _ _ true (by unfold maxLen; omega) H.out HA.out).mono ?_
    rintro e w' ⟨rfl, rfl⟩
    go_wp2
    go_ret2
    exact ⟨none, 0, rfl, (fun _ => by simp), RdM.empty _ _ _ _ _, Below.refl _ _⟩
  · refine (encode_main A n C L D G p w hn0 (by omega) hnp ha hL h).mono ?_
    rintro e w' ⟨b, G', C', rfl, _, hO, hB⟩
    exact ⟨_, p, rfl, (fun hh => by cases hh), hO.rdAll (Nat.le_refl _), hB⟩
end Go.Proofs.Ytelkeoopfejgnaa
