/- The example of chapter 12 holds: 'alive' answers true; rooms of at most 63 blocks. -/
import Derived.Test.YtgdccmkpjcggkaaSpPlan
import Derived.Laws.StructEq
import Derived.BigQuiet
import Derived.Deep.QuietTactic
import Derived.Deep.RegionWith
namespace Go.Proofs.Ytgdccmkpjcggkaa
open Go.RowKit

theorem num12 (n : Int) (w : World) : Calls Try.prog 8 #[.int .i64 n] w fun e w' => e = .returned (.int .i64 n) ∧ w = w' := by
  go_enter Try.func8, Try.ntmps8
  go_wp2
  go_ret
  exact ⟨rfl, rfl⟩
theorem piece_fields : Try.prog.underlying 32 = some (.struct (Try.prog.fieldsOf 32)) := by kernel_rfl
theorem piece_plain : Try.prog.stoodInHeld 32 = false := by kernel_rfl
theorem pieces_same (a b c : Int) (w : World) : (Op.equalIn 10000 32 (.agg #[.int .i64 a, .int .i64 b, .int .i64 c]) (.agg #[.int .i64 a, .int .i64 b, .int .i64 c])).run Try.prog w = .ok true w := by
  rw [run_equalIn_agg w 9999 32 _ _ piece_fields piece_plain]
  simp [Program.fieldsOf, Try.underlying32, Op.eqFields, part, go_sem]
theorem pieces_eql (a b c : Int) (w : World) : (binOp .eql 32 (.agg #[.int .i64 a, .int .i64 b, .int .i64 c]) (.agg #[.int .i64 a, .int .i64 b, .int .i64 c])).run Try.prog w = .ok (.bool true) w := by
  rw [run_eql_struct, pieces_same]; rfl
theorem plan_one : Sp.plan [3] 5 = [⟨0, 0, 5⟩] ∧ Sp.err [3] 5 = 0 := ⟨by rfl, by rfl⟩
/-- a truth is answered; what was there is as it was -/
def AnsT12 (b : Bool) (w : World) (e : Ending) (w' : World) : Prop := e = .returned (.bool b) ∧ Below w.heap.size w w'
set_option maxHeartbeats 2000000 in
theorem alive12_true (w : World) : Calls Try.prog 4 #[] w (AnsT12 true w) := by
  obtain ⟨wa, hwa⟩ : ∃ wa, wa = w.alloc (.cells #[.int .i64 3] 3) := ⟨_, rfl⟩
  have hb0 : Below w.heap.size w wa := by rw [hwa]; exact (Below.refl _ _).alloc (Nat.le_refl _) _
  have hr : RdZ wa (some ⟨w.heap.size, 0, none⟩) [3] (fun _ => True) := fun _ => ⟨_, _, rfl, trivial, fun j hj => by
    have : j = 0 := by simp at hj; exact hj
    subst this
    rw [hwa, heap_cell (Go.Deep.blk_alloc_new _ _)]; rfl⟩
  have hcall := plan_any [3] 5 _ 1 1 _ wa rfl (by decide) (by decide) (by decide) hr
  rw [plan_one.1, plan_one.2] at hcall
  have HC := Lib.hid hcall
  have HW := Lib.hid hwa
  have HB0 := Lib.hid hb0
  have hf : ∀ y, Calls Try.prog 9 #[.int .i64 3] y fun e w' => e = .returned (.int .i64 64) ∧ w' = y := fun y => (fits_any 3 y).mono fun e w' h => ⟨h.1, h.2.symm⟩
  have hn : ∀ y, Calls Try.prog 8 #[.int .i64 0] y fun e w' => e = .returned (.int .i64 0) ∧ w' = y := fun y => (num12 0 y).mono fun e w' h => ⟨h.1, h.2.symm⟩
  clear hwa hr hcall hb0
  go_enter Try.func4, Try.ntmps4
  go_wp2_with fail
  rw [← HW.out]
  refine HC.out.mono ?_
  rintro e w1 ⟨A1, C1, rfl, g1, g2, g3, g4, g5⟩
  obtain ⟨b, off, rfl, -, hc⟩ := g4.at_ (i := 0) (by simp)
  have c0 : w1.cell? ⟨b, off, none⟩ = some (.int .i64 0) := hc 0 _ rfl
  have c1 : w1.cell? ⟨b, off + 1, none⟩ = some (.int .i64 0) := hc 1 _ rfl
  have c2 : w1.cell? ⟨b, off + 2, none⟩ = some (.int .i64 5) := hc 2 _ rfl
  have heq := pieces_eql 0 0 5
  have HB1 := Lib.hid (HB0.out.trans (g5.mono HB0.out.size))
  clear hc g4 g5 g3 g1 HC
  go_wp2
  go_ret
  exact ⟨rfl, HB1.out⟩
theorem and_63 (x : Int) : ∃ y : Nat, bits BinOp.and IntKind.i64 x 63 = (y : Int) ∧ y ≤ 63 := by
  have hx : (BitVec.ofInt 64 x &&& BitVec.ofInt 64 63).toNat ≤ 63 := by
    rw [BitVec.toNat_and]; exact Nat.and_le_right
  refine ⟨(BitVec.ofInt 64 x &&& BitVec.ofInt 64 63).toNat, ?_, hx⟩
  show IntKind.i64.wrap ((BitVec.ofInt 64 x &&& BitVec.ofInt 64 63).toNat : Int) = _
  rw [IntKind.wrap_i64]; omega
def low6 (x : Int) : Int := bits BinOp.and IntKind.i64 x 63
theorem low6_in (x : Int) : 0 ≤ low6 x ∧ low6 x ≤ 63 := by
  obtain ⟨y, h1, h2⟩ := and_63 x
  unfold low6
  rw [h1]; omega
set_option maxHeartbeats 2000000 in
theorem small_any (rooms : List Int) (A : Option Addr) (n C : Nat) (G : Nat → Prop) (w : World) (hn : n = rooms.length) (hm : n ≤ 1000000) (hr : RdZ w A rooms G) :
    Calls Try.prog 7 #[.slice A n C] w fun e w' => ∃ A' C', e = .returned (.slice A' n C') ∧ RdZ w' A' (rooms.map low6) (w.heap.size ≤ ·) ∧ Below w.heap.size w w' := by
  have HR := Lib.hid hr
  have HN := Lib.hid hn
  clear hr hn
  go_enter Try.func7, Try.ntmps7
  go_wp2
  go_loopw [4, 3] (fun vi vl wr => ∃ (k : Nat) (pre : List Int), k ≤ n ∧ pre.length = k ∧ vi = .int .i64 (k : Int) ∧ Hid ((rooms.take k).map low6 = pre) ∧ Hid (OwnZ wr w.heap.size vl pre) ∧ Hid (Below w.heap.size w wr)) (fun vi _ _ => n - (intOf vi).toNat)
  case atStart => exact ⟨0, [], by omega, rfl, rfl, Lib.hid rfl, Lib.hid (OwnZ.nil _ _), Lib.hid (Below.refl _ _)⟩
  case round =>
    obtain ⟨k, pre, hk, hl, rfl, HP, HO, HB⟩ := hrel
    by_cases hlt : k < n
    · have hltR : k < rooms.length := by rw [← HN.out]; exact hlt
      obtain ⟨b, off, rfl, -, hc⟩ := (HR.out.old HB.out).at_ hltR
      obtain ⟨r, hrr⟩ : ∃ r, r = rooms[k] := ⟨_, rfl⟩
      have hnext : (rooms.take (k + 1)).map low6 = pre ++ [low6 r] := by
        rw [List.take_succ_eq_append_getElem hltR, List.map_append, HP.out, hrr]; rfl
      rw [← hrr] at hc
      have HP2 := Lib.hid hnext
      have hb6 : bits BinOp.and IntKind.i64 r 63 = low6 r := rfl
      obtain ⟨i0, hi0, hz0, hz1, hz2⟩ := info_parts infoI
      have hown : OwnZ (wr.alloc (.cells #[.int .i64 (low6 r)] 3)) w.heap.size u3 pre := World.ownsRow.alloc HO.out _
      have hlow : w.heap.size ≤ wr.heap.size := HB.out.size
      unfold OwnZ at hown
      clear hnext hrr hltR
      go_wp2_with (at_builtin; refine wpList_append_own _ rfl _ _ 22 rfl w.heap.size 3 i0 (.int .i64 0) 1 8 Try.underlying22 hi0 hz0 hz1 hz2 rfl (by decide) _ _ _ rfl hown ⟨wr.heap.size, 0, none⟩ 1 1 [.int .i64 (low6 r)] rfl rfl (newCells _ _ _) (cellsZ_one (l := [low6 r])) (by unfold maxLen; omega) (by omega) (by simp; omega) ?_; intro v' w3 hown' hgrow hx')
      have HB3 := Lib.hid ((HB.out.alloc hlow _).grown hgrow (by simp; omega) (fun x hx => HO.out.lo x hx))
      have ho3 : OwnZ w3 w.heap.size v' (pre ++ [low6 r]) := by unfold OwnZ; rw [cellsZ_append, List.length_append]; exact hown'
      have HO3 := Lib.hid ho3
      clear hown' hgrow hx' hown ho3
      go_wp2
      go_roundw
      case rel => exact ⟨k + 1, _, by omega, by simp; omega, by go_num, HP2, HO3, HB3⟩
      case measure => simp [intOf]; omega
    · have hp := HP.out
      rw [List.take_of_length_le (by rw [← HN.out]; omega)] at hp
      have hln : pre.length = n := by omega
      obtain ⟨A', C', hv, g1, g2, g3, g4⟩ := HO.out.rd
      have HP3 := Lib.hid hp
      have HR4 := Lib.hid g4
      rw [hln] at hv
      clear hp g1 g2 g3 g4
      subst hv
      go_wp2
      go_ret
      exact ⟨A', C', rfl, by rw [HP3.out]; exact HR4.out, HB.out⟩
end Go.Proofs.Ytgdccmkpjcggkaa
