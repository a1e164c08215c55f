/- What the law on bytes with their own sum behind answers: true; nothing that was there is written. -/
import Derived.Test.YtbaeoglgagiafaaCrJoins
namespace Go.Proofs.Ytbaeoglgagiafaa
open Go.RowKit Mx

set_option maxHeartbeats 1000000 in
theorem sumEnd_walk (A : Option Addr) (n C : Nat) (r : Nat → Fe) (w : World) (hn : n ≤ maxLen) (hA : A = none → n = 0 ∧ C = 0) (hr : Rd w A n r (fun _ => True)) :
    Calls Try.prog 6 #[.slice A n C] w fun e w' => e = .returned (.bool true) ∧ Below w.heap.size w w' := by
  have HN := Lib.hid hn
  have HA := Lib.hid hA
  unfold maxLen at hn
  have HR := Lib.hid hr
  clear hr hA
  by_cases hbig : 1000 < n
  · clear HR HN HA
    go_enter Try.func6, Try.ntmps6
    go_wp2_with fail
    refine (alive4_true _).mono ?_
    rintro e w1 ⟨rfl, hB⟩
    have HB := Lib.hid hB
    clear hB
    go_wp2
    go_ret
    exact ⟨rfl, HB.out⟩
  go_enter Try.func6, Try.ntmps6
  go_wp2_with fail
  refine (alive4_true _).mono ?_
  rintro e w1 ⟨rfl, hB⟩
  have HB := Lib.hid hB
  have HR1 := Lib.hid (HR.out.old hB)
  clear hB HR
  have HE := Lib.hid (crc_end r n)
  go_wp2_with fail
  refine (sum_any A n C r _ _ HN.out HR1.out).mono ?_
  rintro e w' ⟨rfl, rfl⟩
  generalize crc 0#32 r n = S at HE ⊢
  go_wp2_with (at_builtin; refine wpList_append_by _ rfl _ _ rfl w1.heap.size _ 0 r rfl (OwnB.nil _ _ _) A n C r _ rfl HA.out HR1.out (by omega) (Nat.le_refl _) ?_)
  intro v2 w2 hown hgrow
  have hb2 := (Below.refl w1.heap.size w1).grown hgrow (Nat.le_refl _) (fun k hk => (own_none k hk).elim)
  have hsz := hb2.size
  have HO := Lib.hid hown.first
  have HB2 := Lib.hid hb2
  clear hown hgrow hb2 HR1
  have e0 := byte0 S
  have e1 := byte1 S
  have e2 := byte2 S
  have e3 := byte3 S
  have l0 := fi_lo (byK S 0)
  have u0 := fi_hi (byK S 0)
  have l1 := fi_lo (byK S 1)
  have u1 := fi_hi (byK S 1)
  have l2 := fi_lo (byK S 2)
  have u2 := fi_hi (byK S 2)
  have l3 := fi_lo (byK S 3)
  have u3 := fi_hi (byK S 3)
  go_wp2_with (at_builtin; refine wpList_append_by _ rfl _ _ rfl w1.heap.size _ n r rfl (HO.out.alloc _) (some ⟨w2.heap.size, 0, none⟩) 4 4 (byK S) _ rfl (fun h => by cases h) (lit4 w2 (byK S)) (by omega) (by simp; omega) ?_)
  intro v3 w3 hown3 hgrow3
  have HB3 := Lib.hid ((HB2.out.alloc hsz _).grown hgrow3 (by simp; omega) HO.out.lo)
  obtain ⟨A3, C3, rfl, _, hr3⟩ := hown3.rd
  have hc := sum_any A3 (n + 4) C3 (jn n r (byK S)) _ w3 (by unfold maxLen; omega) hr3
  rw [HE.out] at hc
  have HC := Lib.hid hc
  clear hc hr3 hown3 hgrow3 HO hsz e0 e1 e2 e3 l0 l1 l2 l3 u0 u1 u2 u3
  go_wp2_with fail
  refine HC.out.mono ?_
  rintro e w' ⟨rfl, rfl⟩
  go_wp2
  go_ret
  exact ⟨rfl, HB.out.trans (HB3.out.mono HB.out.size)⟩
end Go.Proofs.Ytbaeoglgagiafaa
