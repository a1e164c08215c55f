/- What VolumeBlocks answers: true. -/
import Derived.Test.YtbcncmampabmfaaDoorMo
import Derived.Test.YtbcncmampabmfaaDoorMe
import Derived.Test.YtbcncmampabmfaaDoorMb
import Derived.Deep.RegionHeld3
import Derived.Deep.DeepFit
namespace Go.Proofs.YtbcncmampabmfaaDoor
open Go.RowKit
open Pt (Tx)

set_option maxHeartbeats 1000000 in
theorem volBlocks_big (lab at_ : Int) (p : Tx) (v z f l s m : Int) (g : Bool) (A : Option Addr) (L C : Nat) (w : World) (hk : Kept w) (h : 4500 < L ∨ 100 < p.length) :
    Calls Tryd.prog 3 #[.int .i64 lab, .int .i64 at_, .agg #[.string (tx p), .int .i64 v, .int .i64 z, .int .i64 f, .int .i64 l, .int .i64 s, .int .i64 m, .bool g], .slice A L C] w (AnsB true w) := by
  have HB0 : Hid (Below w.heap.size w (w.alloc (headObj p v z f l s m g))) := Lib.hid ((Below.refl _ _).alloc (Nat.le_refl _) _)
  have HU0 : Hid ((w.alloc (headObj p v z f l s m g)).heap[w.heap.size]? = some (headObj p v z f l s m g)) := Lib.hid (Go.Deep.blk_alloc_new _ _)
  have HC := Lib.hid (alive11_true _ (hk.old HB0.out))
  unfold headObj at HC
  clear hk
  have es := tx_size p
  have hq : (decide (4500 < (L : Int)) = true ∧ decide (4500 < L) = true) ∨ (decide (4500 < (L : Int)) = false ∧ decide (4500 < L) = false ∧ decide (100 < (p.length : Int)) = true ∧ decide (100 < p.length) = true) := by
    simp only [decide_eq_true_eq, decide_eq_false_iff_not]; omega
  clear h
  rcases hq with ⟨q1, q2⟩ | ⟨q1, q2, q3, q4⟩
  all_goals
    go_enter Tryd.func3, Tryd.ntmps3
    go_wp2_with fail
    refine HC.out.mono ?_
    rintro e w1 ⟨rfl, hb1⟩
    obtain ⟨a0, a1, a2, a3, a4, a5, a6, a7⟩ := head8 (below_head hb1 HU0.out)
    have HB1 := Lib.hid (HB0.out.trans (hb1.mono HB0.out.size))
    clear hb1
    go_wp2
    go_ret
    exact ⟨rfl, HB1.out⟩
set_option maxRecDepth 100000 in
set_option maxHeartbeats 8000000 in
theorem volBlocks_main (lab at_ : Int) (p : Tx) (v z f l s m : Int) (g : Bool) (A : Option Addr) (b : Tx) (L C : Nat) (G : Nat → Prop) (w : World) (hk : Kept w) (hL : L = b.length) (hA : A = none → L = 0 ∧ C = 0) (hC : L ≤ C) (hCm : C ≤ maxLen) (hr : RdL w A b G) (h : p.length ≤ 100) (h' : L ≤ 4500)
    (hat : -9223372036854775808 ≤ at_ ∧ at_ ≤ 9223372036854775807) :
    Calls Tryd.prog 3 #[.int .i64 lab, .int .i64 at_, .agg #[.string (tx p), .int .i64 v, .int .i64 z, .int .i64 f, .int .i64 l, .int .i64 s, .int .i64 m, .bool g], .slice A L C] w (AnsB true w) := by
  obtain ⟨wa, hwa⟩ : ∃ wa, wa = w.alloc (headObj p v z f l s m g) := ⟨_, rfl⟩
  have HB0 : Hid (Below w.heap.size w wa) := Lib.hid (by rw [hwa]; exact (Below.refl _ _).alloc (Nat.le_refl _) _)
  have HU0 : Hid (wa.heap[w.heap.size]? = some (headObj p v z f l s m g)) := Lib.hid (by rw [hwa]; exact Go.Deep.blk_alloc_new _ _)
  have HW := Lib.hid hwa
  unfold headObj at HW
  clear hwa
  have es := tx_size p
  have p1 : decide (100 < (p.length : Int)) = false := decide_eq_false (by omega)
  have p2 : decide (4500 < (L : Int)) = false := decide_eq_false (by omega)
  have p3 : decide (100 < p.length) = false := decide_eq_false (by omega)
  have p4 : decide (4500 < L) = false := decide_eq_false (by omega)
  have HR0 : Hid (RdL wa A b G) := Lib.hid (hr.old HB0.out)
  have HK := Lib.hid hk
  have HL := Lib.hid hL
  have HA := Lib.hid hA
  have HC := Lib.hid hC
  have HCm := Lib.hid hCm
  have HAT := Lib.hid hat
  have HPL : Hid (p.length ≤ maxLen) := Lib.hid (by unfold maxLen; omega)
  obtain ⟨er, her⟩ : ∃ er, er = Vo.err lab at_ ⟨p, v, z, f, l, s, m, g⟩ b := ⟨_, rfl⟩
  obtain ⟨X, hX⟩ : ∃ X, X = Vo.put lab at_ ⟨p, v, z, f, l, s, m, g⟩ b := ⟨_, rfl⟩
  obtain ⟨K, hK⟩ : ∃ K, K = Vo.need (L : Int) := ⟨_, rfl⟩
  have hcase : er = 1 ∨ (er = 0 ∧ X.length = K) := by
    by_cases hR : Vo.Right lab at_ ⟨p, v, z, f, l, s, m, g⟩ b
    · refine .inr ⟨her.trans (Vo.err_yes hR), ?_⟩
      rw [hX, Vo.put_len hR, hK, hL, Vo.need_of hR.1.1 hR.1.2]
    · exact .inl (her.trans (Vo.err_no hR))
  have hXl : X.length ≤ 1000000 := by
    by_cases hR : Vo.Right lab at_ ⟨p, v, z, f, l, s, m, g⟩ b
    · rw [hX, Vo.put_len hR]; unfold Vo.data; omega
    · rw [hX, Vo.put_no hR]; exact Nat.zero_le _
  have HER := Lib.hid her
  have HX := Lib.hid hX
  have HKN := Lib.hid hK
  have HXL := Lib.hid hXl
  clear hk hr hL hA hC hCm hat her hX hK hXl
  go_enter Tryd.func3, Tryd.ntmps3
  go_wp2_with fail
  rw [← HW.out]
  refine (alive11_true wa (HK.out.old HB0.out)).mono ?_
  rintro e w1 ⟨rfl, hb1⟩
  have HU1 := Lib.hid (below_head hb1 HU0.out)
  have HR1 := Lib.hid (HR0.out.old hb1)
  have HB1 := Lib.hid (HB0.out.trans (hb1.mono HB0.out.size))
  clear hb1
  obtain ⟨a0, a1, a2, a3, a4, a5, a6, a7⟩ := head8 HU1.out
  have hbel : Below w1.heap.size w1 w1.drew := (Below.refl _ _).drew
  obtain ⟨A4, C4, w4, hr4, hO4, hG4⟩ := ap_run w1.drew w1.heap.size (.slice none 0 0) [] (OwnL.nil _ _) A L C b _ HL.out.symm HA.out (HR1.out.old hbel) (by simp; omega) (Nat.le_refl _) L (by simp)
  have hb4 : Below w1.heap.size w1 w4 := ⟨hG4.os, hG4.tape, hG4.output, hG4.size, fun y hy => hG4.block y hy (fun e => by cases e)⟩
  obtain ⟨X4, D4, e4, g1, g2, g3, g4⟩ := hO4.rd
  injection e4 with x1 x2 x3
  subst x1 x3
  rw [List.nil_append] at g1 g3 g4
  rw [← HL.out] at g1 g3
  have HB4 := Lib.hid (HB1.out.trans (hb4.mono HB1.out.size))
  have hcall := blocks_any lab at_ p v z f l s m g A4 b L C4 _ w4 HPL.out (HK.out.old HB4.out) HL.out g1 g4 HAT.out
  unfold BlocksA at hcall
  rw [← HER.out, ← HX.out] at hcall
  have HCB := Lib.hid hcall
  have HXX : Hid (∀ y, Below w1.heap.size w1 y → y.cell? ⟨w.heap.size, 0, none⟩ = some (.string (tx p)) ∧ y.cell? ⟨w.heap.size, 1, none⟩ = some (.int .i64 v) ∧ y.cell? ⟨w.heap.size, 2, none⟩ = some (.int .i64 z) ∧ y.cell? ⟨w.heap.size, 3, none⟩ = some (.int .i64 f) ∧ y.cell? ⟨w.heap.size, 4, none⟩ = some (.int .i64 l) ∧ y.cell? ⟨w.heap.size, 5, none⟩ = some (.int .i64 s) ∧ y.cell? ⟨w.heap.size, 6, none⟩ = some (.int .i64 m) ∧ y.cell? ⟨w.heap.size, 7, none⟩ = some (.bool g) ∧ Below w1.heap.size w1 y) := Lib.hid fun y hy => by
    obtain ⟨b0, b1, b2, b3, b4, b5, b6, b7⟩ := head8 (below_head hy HU1.out)
    exact ⟨b0, b1, b2, b3, b4, b5, b6, b7, hy⟩
  have hx0 := HXX.out _ hbel
  have hx4 := HXX.out _ hb4
  clear hcall hO4 hG4 g1 g2 g3 g4 x2
  go_wp2_with fail
  go_region_held3 (fun y => y.cell? ⟨w.heap.size, 0, none⟩ = some (.string (tx p)) ∧ y.cell? ⟨w.heap.size, 1, none⟩ = some (.int .i64 v) ∧ y.cell? ⟨w.heap.size, 2, none⟩ = some (.int .i64 z) ∧ y.cell? ⟨w.heap.size, 3, none⟩ = some (.int .i64 f) ∧ y.cell? ⟨w.heap.size, 4, none⟩ = some (.int .i64 l) ∧ y.cell? ⟨w.heap.size, 5, none⟩ = some (.int .i64 s) ∧ y.cell? ⟨w.heap.size, 6, none⟩ = some (.int .i64 m) ∧ y.cell? ⟨w.heap.size, 7, none⟩ = some (.bool g) ∧ Below w1.heap.size w1 y)
    (first
      | exact hx5
      | exact hx4
      | exact hx0)
    (first
      | (go_at_call 7; refine HCB.out.mono ?_; rintro e w5 ⟨A5, n5, C5, rfl, hn5, hc5, ha5, hr5, hb5⟩; have hbt : Below w1.heap.size w1 w5 := hb4.trans (hb5.mono hb4.size); have hx5 := HXX.out _ hbt)
      | (refine step_append_eq (by rfl) _ _ _ _ (by rfl) _ _ _ _ hr4 (by rfl) (by rfl) ?_))
  have HU5 := Lib.hid (below_head hbt HU1.out)
  have HB5 := Lib.hid (HB1.out.trans (hbt.mono HB1.out.size))
  have HR5 := Lib.hid (HR1.out.old hbt)
  have HX5 := Lib.hid hr5
  have HN5 := Lib.hid hn5
  clear hx0 hx4 hx5 hr5 hb5 hbt hb4 hr4 hbel hc5 ha5 hn5 a0 a1 a2 a3 a4 a5 a6 a7 p1 p2 p3 p4 es HXX HCB
  obtain ⟨a0, a1, a2, a3, a4, a5, a6, a7⟩ := head8 HU5.out
  have hcall := refBlocks_any lab at_ p v z f l s m g A b L C _ w5 HPL.out HL.out HC.out HCm.out HR5.out HAT.out
  unfold RefBl at hcall
  rw [← HER.out, ← HX.out] at hcall
  have HCR := Lib.hid hcall
  clear hcall
  go_wp2_with fail
  refine HCR.out.mono ?_
  clear HCR
  rintro e w6 ⟨v6, us6, rfl, hT6, hb6⟩
  obtain ⟨A6, C6, rfl, -, -, -⟩ := hT6.val
  have HX6 := Lib.hid hT6.rdB
  have HX5' := Lib.hid (HX5.out.old hb6)
  have HB6 := Lib.hid (HB5.out.trans (hb6.mono HB5.out.size))
  clear hT6 hb6 a0 a1 a2 a3 a4 a5 a6 a7
  obtain ⟨nX, hnX⟩ : ∃ nX, nX = X.length := ⟨_, rfl⟩
  obtain rfl : n5 = nX := HN5.out.trans hnX.symm
  have hsame := sameRows_yes A5 C5 X _ A6 C6 _ n5 w6 hnX.symm (by rw [hnX]; exact HXL.out) HX5'.out HX6.out
  rw [← hnX] at hcase ⊢
  have HSA := Lib.hid hsame
  have hneed : ∀ y, Calls Tryd.prog 11 #[.int .i64 (L : Int)] y fun e w' => e = .returned (.int .i64 (K : Int)) ∧ y = w' := fun y => by rw [HKN.out]; exact need_any _ y
  have hneed' : ∀ y, Calls Tryd.prog 12 #[.int .i64 (L : Int)] y fun e w' => e = .returned (.int .i64 (K : Int)) ∧ y = w' := fun y => by rw [HKN.out]; exact refNeed_any _ y
  clear hsame hnX
  rcases hcase with rfl | ⟨rfl, rfl⟩
  all_goals
    go_wp2_with (first
      | (go_at_call 9; refine HSA.out.mono ?_; rintro e w7 ⟨rfl, hb7⟩; have HB7 := Lib.hid (HB6.out.trans (hb7.mono HB6.out.size)); clear hb7)
      | (go_at_call 10; refine (num11 _ _).mono ?_; rintro e w' ⟨rfl, hw'⟩; subst hw')
      | (go_at_call 11; refine (hneed _).mono ?_; rintro e w' ⟨rfl, hw'⟩; subst hw')
      | (go_at_call 12; refine (hneed' _).mono ?_; rintro e w' ⟨rfl, hw'⟩; subst hw'))
    go_ret
    exact ⟨rfl, HB7.out⟩
theorem volBlocks_any (lab at_ : Int) (p : Tx) (v z f l s m : Int) (g : Bool) (A : Option Addr) (b : Tx) (L C : Nat) (G : Nat → Prop) (w : World) (hk : Kept w) (hL : L = b.length) (hA : A = none → L = 0 ∧ C = 0) (hC : L ≤ C) (hCm : C ≤ maxLen) (hr : RdL w A b G)
    (hat : -9223372036854775808 ≤ at_ ∧ at_ ≤ 9223372036854775807) :
    Calls Tryd.prog 3 #[.int .i64 lab, .int .i64 at_, .agg #[.string (tx p), .int .i64 v, .int .i64 z, .int .i64 f, .int .i64 l, .int .i64 s, .int .i64 m, .bool g], .slice A L C] w (AnsB true w) := by
  by_cases h : 4500 < L ∨ 100 < p.length
  · exact volBlocks_big lab at_ p v z f l s m g A L C w hk h
  · exact volBlocks_main lab at_ p v z f l s m g A b L C G w hk hL hA hC hCm hr (by omega) (by omega) hat
end Go.Proofs.YtbcncmampabmfaaDoor
