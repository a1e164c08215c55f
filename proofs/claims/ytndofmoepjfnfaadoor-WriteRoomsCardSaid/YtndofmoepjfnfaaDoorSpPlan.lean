/- How much fits, and what Plan of package span answers of a file of at least one byte. -/
import Derived.Test.YtndofmoepjfnfaaDoorSpMath
import Derived.Test.YtndofmoepjfnfaaDoorStRow
import Derived.Test.YtndofmoepjfnfaaDoorOwnZ
import Derived.Test.YtndofmoepjfnfaaDoorGfInts
import Derived.Test.YtndofmoepjfnfaaDoorChecked
import Derived.Handy
import Derived.WalkSpells
import Derived.WalkLawsBesides
namespace Go.Proofs.YtndofmoepjfnfaaDoor
open Go.RowKit

theorem fits_any (r : Int) (w : World) : Calls Tryd.prog 51 #[.int .i64 r] w fun e w' => e = .returned (.int .i64 (Sp.fits r)) ∧ w = w' := by
  by_cases h0 : r < 3
  · have H : Hid (Sp.fits r = 0) := Lib.hid (Sp.fits_small h0)
    by_cases h1 : r ≤ 2
    · go_enter Tryd.func51, Tryd.ntmps51
      go_wp2
      all_goals
        go_ret
        exact ⟨by rw [H.out]; first | done | rfl | (exact congrArg (fun k : Int => Ending.returned (.int .i64 k)) (by omega)), rfl⟩
    · omega
  · by_cases h1 : 1099511627776 < r
    · have H : Hid (Sp.fits r = 70368744177536) := Lib.hid (by unfold Sp.fits; rw [if_neg h0, if_pos h1]; rfl)
      go_enter Tryd.func51, Tryd.ntmps51
      go_wp2
      all_goals
        go_ret
        exact ⟨by rw [H.out]; first | done | rfl | (exact congrArg (fun k : Int => Ending.returned (.int .i64 k)) (by omega)), rfl⟩
    · have H : Hid (Sp.fits r = 64 * (r - 2)) := Lib.hid (by unfold Sp.fits; rw [if_neg h0, if_neg h1])
      go_enter Tryd.func51, Tryd.ntmps51
      go_wp2
      all_goals
        go_ret
        exact ⟨by rw [H.out]; first | done | rfl | (exact congrArg (fun k : Int => Ending.returned (.int .i64 k)) (by omega)), rfl⟩
/-- a piece's three cells -/
def encSp : Enc Sp.P where
  k := 3
  pos := by decide
  enc p := [.int .i64 (p.tape : Int), .int .i64 p.from_, .int .i64 p.len]
  len _ := rfl
  one p u hu := by
    simp only [List.mem_cons, List.not_mem_nil, or_false] at hu
    rcases hu with rfl | rfl | rfl <;> rfl
theorem infoPiece : (Tryd.prog.info? 77).map (fun i => (i.zero, i.size, i.bytes)) = some (some (.agg #[.int .i64 0, .int .i64 0, .int .i64 0]), 3, 24) := by kernel_rfl
/-- pieces and an error's number are answered, in new memory -/
def PlanA (l : List Sp.P) (er : Int) (w : World) (e : Ending) (w' : World) : Prop :=
  ∃ A C, e = .returned (.tuple #[.slice A l.length C, .int .i64 er]) ∧ l.length ≤ C ∧ C ≤ maxLen ∧ (A = none → l.length = 0 ∧ C = 0) ∧ encSp.Rd w' A l (w.heap.size ≤ ·) ∧ Below w.heap.size w w'
theorem PlanA.nil (er : Int) (w w' : World) (h : Below w.heap.size w w') : PlanA [] er w (.returned (.tuple #[.slice none 0 0, .int .i64 er])) w' :=
  ⟨none, 0, rfl, Nat.le_refl _, by decide, fun _ => ⟨rfl, rfl⟩, Enc.Rd.nil _ _ _, h⟩
set_option maxHeartbeats 2000000 in
theorem planBytes_any (rooms : List Int) (size : Int) (A : Option Addr) (n C : Nat) (G : Nat → Prop) (w : World) (hn : n = rooms.length) (hm : n ≤ 1000000) (h1 : 1 ≤ size) (h2 : size ≤ 4000) (hr : RdZ w A rooms G) :
    Calls Tryd.prog 41 #[.slice A n C, .int .i64 size] w (PlanA (Sp.plan rooms size) (Sp.err rooms size) w) := by
  have HR := Lib.hid hr
  have HN := Lib.hid hn
  clear hr hn
  go_enter Tryd.func41, Tryd.ntmps41
  go_wp2
  go_loopw [13, 7, 6] (fun vi va vl wr => ∃ (k : Nat) (at_ : Int) (pre : List Sp.P), k ≤ n ∧ 0 ≤ at_ ∧ at_ < size ∧ pre.length ≤ k ∧ vi = .int .i64 (k : Int) ∧ va = .int .i64 at_ ∧ Hid (Sp.upto size (rooms.take k) 0 = at_) ∧ Hid (Sp.go size (rooms.take k) 0 0 = pre) ∧ Hid (encSp.Own wr w.heap.size 77 vl pre) ∧ Hid (Below w.heap.size w wr)) (fun vi _ _ _ => n - (intOf vi).toNat)
  case atStart => exact ⟨0, 0, [], by omega, by omega, by omega, Nat.zero_le _, rfl, rfl, Lib.hid rfl, Lib.hid rfl, Lib.hid (Enc.Own.nil _ _ _), Lib.hid (Below.refl _ _)⟩
  case round =>
    obtain ⟨k, at_, pre, hk, h3, h4, h5, rfl, rfl, HU, HP, HO, HB⟩ := hrel
    by_cases hlt : k < n
    · have hltR : k < rooms.length := by rw [← HN.out]; exact hlt
      obtain ⟨b, off, rfl, -, hc⟩ := (HR.out.old HB.out).at_ hltR
      obtain ⟨r, hrr⟩ : ∃ r, r = rooms[k] := ⟨_, rfl⟩
      have hnext := Sp.take_next (size := size) hltR
      rw [HU.out, HP.out, ← hrr] at hnext
      rw [← hrr] at hc
      have hf := fits_any r
      have hlo := Sp.fits_lo r
      have hhi := Sp.fits_hi r
      obtain ⟨F, hF⟩ : ∃ F, F = Sp.fits r := ⟨_, rfl⟩
      rw [← hF] at hnext hf hlo hhi
      clear hF hrr hltR
      by_cases hF0 : F = 0
      · subst hF0
        have HU2 : Hid (Sp.upto size (rooms.take (k + 1)) 0 = at_) := Lib.hid (hnext.1.trans (by omega))
        have HP2 : Hid (Sp.go size (rooms.take (k + 1)) 0 0 = pre) := Lib.hid (hnext.2.trans (by rw [if_neg (by omega), List.append_nil]))
        clear hnext
        go_wp2_with (first | (go_at_call 51; refine (hf _).mono ?_; rintro e w' ⟨rfl, hw⟩; subst hw))
        go_roundw
        case rel => exact ⟨k + 1, at_, pre, by omega, by omega, by omega, by omega, by go_num, rfl, HU2, HP2, HO, HB⟩
        case measure => simp [intOf]; omega
      · obtain ⟨L, hL⟩ : ∃ L, L = min F (size - at_) := ⟨_, rfl⟩
        rw [← hL] at hnext
        have hL0 : 0 < L := by omega
        have hL1 : L ≤ size - at_ := by omega
        have hLz : (L == 0) = false := by rw [beq_eq_false_iff_ne]; omega
        have HU2 : Hid (Sp.upto size (rooms.take (k + 1)) 0 = at_ + L) := Lib.hid (hnext.1.trans (by omega))
        have HP2 : Hid (Sp.go size (rooms.take (k + 1)) 0 0 = pre ++ [⟨k, at_, L⟩]) := Lib.hid (hnext.2.trans (by rw [if_pos hL0]))
        have hif : (if size - at_ < F then size - at_ else F) = L := by rw [hL]; split <;> omega
        have hw : IntKind.i64.wrap (size - at_) = size - at_ := by rw [IntKind.wrap_i64]; omega
        clear hnext
        have HLL := Lib.hid hL
        clear hL
        have hown := HO.out
        have hlow : w.heap.size ≤ wr.heap.size := HB.out.size
        have hcase : (at_ + L == size) = true ∧ at_ + L = size ∨ (at_ + L == size) = false ∧ at_ + L ≠ size := by
          rw [beq_iff_eq, beq_eq_false_iff_ne]; omega
        rcases hcase with ⟨hb, he⟩ | ⟨hb, he⟩
        all_goals
          go_wp2_with (first | (go_at_call 51; refine (hf _).mono ?_; rintro e w' ⟨rfl, hw'⟩; subst hw') | (at_builtin; refine wpList_append_st' encSp _ rfl _ _ _ rfl w.heap.size 77 _ 24 Tryd.underlying73 infoPiece rfl _ pre rfl (hown.old ((Below.refl _ _).alloc (Nat.le_refl _) _)) ⟨wr.heap.size, 0, none⟩ 1 1 [⟨k, at_, L⟩] rfl rfl (newCells _ [.int .i64 (k : Int), .int .i64 at_, .int .i64 L] _) (by unfold maxLen; omega) (by omega) (by simp; omega) ?_; intro v' w3 hO3 hg3))
        · obtain ⟨hq1, hq2⟩ := Sp.plan_found (k := k + 1) (HU2.out.trans he)
          rw [HP2.out] at hq1
          have hb3 := (HB.out.alloc hlow _).grown hg3 (by simp; omega) (fun x hx => (HO.out.lt x hx).1)
          obtain ⟨A', C', hv, g1, g2, g3, g4⟩ := hO3.rd
          subst hv
          go_ret2
          rw [hq1, hq2]
          exact ⟨A', C', rfl, g1, g2, g3, g4.mono fun x hx => hx.1, hb3⟩
        · have HB3 := Lib.hid ((HB.out.alloc hlow _).grown hg3 (by simp; omega) (fun x hx => (HO.out.lt x hx).1))
          have HO3 := Lib.hid hO3
          go_roundw
          case rel => exact ⟨k + 1, at_ + L, _, by omega, by omega, by omega, by simp; omega, by go_num, rfl, HU2, HP2, HO3, HB3⟩
          case measure => simp [intOf]; omega
    · obtain ⟨hq1, hq2⟩ := Sp.plan_none (rooms := rooms) (size := size) (by have := HU.out; rw [List.take_of_length_le (by rw [← HN.out]; omega)] at this; omega)
      have HQ := Lib.hid hq1
      have HE := Lib.hid hq2
      clear hq1 hq2
      go_wp2
      go_ret2
      rw [HQ.out, HE.out]
      exact PlanA.nil _ _ _ HB.out
set_option maxHeartbeats 1000000 in
theorem plan_any (rooms : List Int) (size : Int) (A : Option Addr) (n C : Nat) (G : Nat → Prop) (w : World) (hn : n = rooms.length) (hm : n ≤ 1000000) (h1 : 1 ≤ size) (h2 : size ≤ 4000) (hr : RdZ w A rooms G) :
    Calls Tryd.prog 29 #[.slice A n C, .int .i64 size] w (PlanA (Sp.plan rooms size) (Sp.err rooms size) w) := by
  have HC := Lib.hid (planBytes_any rooms size A n C G w hn hm h1 h2 hr)
  have hz : (size == 0) = false := by rw [beq_eq_false_iff_ne]; omega
  clear hn hr
  go_enter Tryd.func29, Tryd.ntmps29
  go_wp2_with fail
  refine HC.out.mono ?_
  rintro e w1 ⟨A1, C1, rfl, g1, g2, g3, g4, g5⟩
  go_wp2
  go_ret2
  exact ⟨A1, C1, rfl, g1, g2, g3, g4, g5⟩
end Go.Proofs.YtndofmoepjfnfaaDoor
