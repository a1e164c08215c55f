/- What Few of the laws answers: some bool. -/
import Derived.Test.YtelkeoopfejgnaaMxWords
namespace Go.Proofs.Ytelkeoopfejgnaa
open Go.RowKit Mx

set_option maxHeartbeats 1000000 in
theorem few_any (A : Option Addr) (n C : Nat) (L : Nat → Nat) (M : Mat) (G : Nat → Prop) (w : World) (hm : n ≤ maxLen) (h : RdM w A n L M G) :
    Calls Try.prog 7 #[.slice A n C] w (SomeBool w) := by
  unfold maxLen at hm
  have H := Lib.hid h
  clear h
  go_enter Try.func7, Try.ntmps7
  go_wp2
  go_loop [4, 3] (fun vi vn => ∃ (k : Nat) (z : Int), k ≤ n ∧ vi = .int .i64 (k : Int) ∧ vn = .int .i64 z) (fun vi _ => n - (intOf vi).toNat)
  case atStart => exact ⟨0, 0, by omega, rfl, rfl⟩
  case round =>
    obtain ⟨k, z, hk, rfl, rfl⟩ := hrel
    by_cases hlt : k < n
    · obtain ⟨b, off, Ak, Ck, rfl, _, hck, _⟩ := H.out.row hlt
      by_cases hz : z ≤ 2000
      · go_wp2
        go_round
        case rel => exact ⟨k + 1, _, by omega, by go_num, rfl⟩
        case measure => simp [intOf]; omega
      · go_wp2
        go_ret
        exact ⟨_, rfl, rfl⟩
    · go_wp2
      go_ret
      exact ⟨_, rfl, rfl⟩
/-- .. and where it answers true, that there are few -/
def FewBool (n : Nat) (L : Nat → Nat) (w : World) (e : Ending) (w' : World) : Prop := ∃ b : Bool, e = .returned (.bool b) ∧ w = w' ∧ (b = true → n ≤ 2000 ∧ ∀ i, i < n → L i ≤ 2000)
set_option maxHeartbeats 1000000 in
theorem few_sized (A : Option Addr) (n C : Nat) (L : Nat → Nat) (M : Mat) (G : Nat → Prop) (w : World) (hm : n ≤ maxLen) (hL : ∀ i, i < n → L i ≤ 140737488351232) (h : RdM w A n L M G) :
    Calls Try.prog 7 #[.slice A n C] w (FewBool n L w) := by
  unfold maxLen at hm
  have H := Lib.hid h
  have HL := Lib.hid hL
  clear h hL
  go_enter Try.func7, Try.ntmps7
  go_wp2
  go_loop [4, 3] (fun vi vn => ∃ k z : Nat, k ≤ n ∧ k ≤ z ∧ z ≤ 140737488360000 ∧ vi = .int .i64 (k : Int) ∧ vn = .int .i64 (z : Int) ∧ Hid (∀ i, i < k → L i ≤ z)) (fun vi _ => n - (intOf vi).toNat)
  case atStart => exact ⟨0, 0, by omega, by omega, by omega, rfl, rfl, Lib.hid fun i hi => absurd hi (by omega)⟩
  case round =>
    obtain ⟨k, z, hk, hkz, hz, rfl, rfl, HZ⟩ := hrel
    by_cases hlt : k < n
    · obtain ⟨b, off, Ak, Ck, rfl, _, hck, _⟩ := H.out.row hlt
      have hLk := HL.out k hlt
      by_cases hz2 : z ≤ 2000
      · have y1 : decide ((z : Int) ≤ 2000) = true := decide_eq_true (by omega)
        go_wp2
        go_round
        case rel => exact ⟨k + 1, z + 1 + L k, by omega, by omega, by omega, by go_num, by go_num, Lib.hid fun i hi => by
          by_cases e : i = k
          · rw [e]; omega
          · have := HZ.out i (by omega); omega⟩
        case measure => simp [intOf]; omega
      · have y1 : decide ((z : Int) ≤ 2000) = false := decide_eq_false (by omega)
        go_wp2
        go_ret
        exact ⟨_, rfl, rfl, fun hh => by cases hh⟩
    · by_cases hz2 : z ≤ 2000
      · have y1 : decide ((z : Int) ≤ 2000) = true := decide_eq_true (by omega)
        go_wp2
        go_ret
        exact ⟨_, rfl, rfl, fun _ => ⟨by omega, fun i hi => by have := HZ.out i (by omega); omega⟩⟩
      · have y1 : decide ((z : Int) ≤ 2000) = false := decide_eq_false (by omega)
        go_wp2
        go_ret
        exact ⟨_, rfl, rfl, fun hh => by cases hh⟩
end Go.Proofs.Ytelkeoopfejgnaa
