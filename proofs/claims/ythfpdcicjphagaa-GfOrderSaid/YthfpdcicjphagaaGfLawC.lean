/- What the law on sums of chapter 1 answers: true, for every row of elements and every element; nothing is written. -/
import Derived.Test.YthfpdcicjphagaaGfLaw
namespace Go.Proofs.Ythfpdcicjphagaa
open Go.RowKit

/-- the sum of the first elements -/
def gsum (f : Nat → Int) : Nat → Int
  | 0 => 0
  | k + 1 => gadd (gsum f k) (f k)
/-- the sum of the last elements, of n -/
def gback (f : Nat → Int) (n : Nat) : Nat → Int
  | 0 => 0
  | k + 1 => gadd (f (n - 1 - k)) (gback f n k)
/-- the sum of the first elements, each times a -/
def gdot (a : Int) (f : Nat → Int) : Nat → Int
  | 0 => 0
  | k + 1 => gadd (gdot a f k) (gmul a (f k))
theorem gadd_assoc (a b c : Int) : gadd (gadd a b) c = gadd a (gadd b c) := by
  unfold gadd; rw [Int.toNat_natCast, Int.toNat_natCast, Nat.xor_assoc]
theorem gadd_comm (a b : Int) : gadd a b = gadd b a := by
  unfold gadd; rw [Nat.xor_comm]
theorem gadd_zero (a : Int) (ha : 0 ≤ a) : gadd a 0 = a := by
  unfold gadd; rw [show (0 : Int).toNat = 0 from rfl, Nat.xor_zero]; omega
theorem zero_gadd (a : Int) (ha : 0 ≤ a) : gadd 0 a = a := by rw [gadd_comm, gadd_zero a ha]
theorem gsum_rng (f : Nat → Int) (hf : ∀ i, 0 ≤ f i ∧ f i < 256) (k : Nat) : 0 ≤ gsum f k ∧ gsum f k < 256 := by
  induction k with
  | zero => simp [gsum]
  | succ k ih => exact gadd_rng _ _ ih.1 ih.2 (hf k).1 (hf k).2
theorem gback_rng (f : Nat → Int) (hf : ∀ i, 0 ≤ f i ∧ f i < 256) (n k : Nat) : 0 ≤ gback f n k ∧ gback f n k < 256 := by
  induction k with
  | zero => simp [gback]
  | succ k ih => exact gadd_rng _ _ (hf _).1 (hf _).2 ih.1 ih.2
theorem gdot_rng (a : Int) (ha : 0 ≤ a) (ha' : a < 256) (f : Nat → Int) (k : Nat) : 0 ≤ gdot a f k ∧ gdot a f k < 256 := by
  induction k with
  | zero => simp [gdot]
  | succ k ih =>
    have hm := gmul_rng a (f k) ha ha'
    exact gadd_rng _ _ ih.1 ih.2 hm.1 hm.2
theorem gback_gsum (f : Nat → Int) (n k : Nat) (hk : k ≤ n) (hf : ∀ i, 0 ≤ f i ∧ f i < 256) : gadd (gsum f (n - k)) (gback f n k) = gsum f n := by
  induction k with
  | zero => exact gadd_zero _ (gsum_rng f hf n).1
  | succ k ih =>
    have h := ih (by omega)
    rw [show n - k = (n - (k + 1)) + 1 by omega] at h
    simp only [gsum, gback] at h ⊢
    rw [show n - 1 - k = n - (k + 1) by omega, ← gadd_assoc]
    exact h
theorem gback_all (f : Nat → Int) (n : Nat) (hf : ∀ i, 0 ≤ f i ∧ f i < 256) : gsum f n = gback f n n := by
  have h := gback_gsum f n n (Nat.le_refl n) hf
  rw [Nat.sub_self] at h
  rw [← h]; exact zero_gadd _ (gback_rng f hf n n).1
theorem gdot_all (a : Int) (ha : 0 ≤ a) (ha' : a < 256) (f : Nat → Int) (n : Nat) (hf : ∀ i, 0 ≤ f i ∧ f i < 256) : gdot a f n = gmul a (gsum f n) := by
  induction n with
  | zero => exact (gmul_zero a ha ha').symm
  | succ n ih =>
    have hs := gsum_rng f hf n
    simp only [gdot, gsum]
    rw [gmul_gadd a _ _ ha ha' hs.1 hs.2 (hf n).1 (hf n).2, ih]

set_option maxRecDepth 100000 in
set_option maxHeartbeats 1600000 in
theorem gfOrder_walk (A : Option Addr) (b off len cap : Nat) (f : Nat → Int) (a : Int) (w : World) (ha : 0 ≤ a) (ha' : a < 256) (hf : ∀ i, 0 ≤ f i ∧ f i < 256)
    (hA : 0 < len → A = some ⟨b, off, none⟩) (hc : ∀ i, i < len → w.cell? ⟨b, off + i, none⟩ = some (.int .u8 (f i))) (hl : len ≤ cap) :
    Calls Try.prog 6 #[.slice A len cap, .int .u8 a] w fun e w' => e = .returned (.bool true) ∧ w = w' := by
  by_cases hbig : 100 < len
  · clear hf hA hc
    go_enter Try.func6, Try.ntmps6
    go_wp2_with fail
    refine (alive_true _).mono ?_
    rintro e w' ⟨rfl, rfl⟩
    go_wp2
    go_ret
    exact ⟨rfl, rfl⟩
  have HA := Lib.hid hA
  have HC := Lib.hid hc
  have HF := Lib.hid hf
  clear hA hc hf
  go_enter Try.func6, Try.ntmps6
  go_wp2_with fail
  refine (alive_true _).mono ?_
  rintro e w' ⟨rfl, rfl⟩
  go_wp2
  go_loop [6, 7, 8] (fun vx vy vi => ∃ k : Nat, k ≤ len ∧ vi = .int .i64 (k : Int) ∧ vx = .int .u8 (gsum f k) ∧ vy = .int .u8 (gback f len k)) (fun _ _ vi => 101 - (intOf vi).toNat)
  case atStart => exact ⟨0, by omega, rfl, rfl, rfl⟩
  case round =>
    obtain ⟨k, hk, rfl, rfl, rfl⟩ := hrel
    have r1 := gsum_rng f HF.out k
    have r2 := gback_rng f HF.out len k
    by_cases hlt : k < len
    · have r3 := HF.out k
      have r4 := HF.out (len - 1 - k)
      have c1 := HC.out k hlt
      have c2 := HC.out (len - 1 - k) (by omega)
      have hA := HA.out (by omega)
      subst hA
      have hi0 : (0 : Int) ≤ (len : Int) - 1 - (k : Int) := by omega
      have hi1 : (len : Int) - 1 - (k : Int) < (len : Int) := by omega
      have hi2 : ((len : Int) - 1 - (k : Int)).toNat = len - 1 - k := by omega
      go_wp2_with (first
        | (go_at_call 8; refine (add_any _ _ _ (by omega) (by omega) (by omega) (by omega)).mono ?_; rintro e w' ⟨rfl, rfl⟩))
      go_round
      case rel => exact ⟨k + 1, by omega, by go_num, rfl, rfl⟩
      case measure => simp [intOf]; omega
    · obtain rfl : k = len := by omega
      have hb1 : (gsum f k == gback f k k) = true := beq_iff_eq.2 (gback_all f k HF.out)
      go_wp2
      go_loop [9, 10] (fun vz vi => ∃ j : Nat, j ≤ k ∧ vi = .int .i64 (j : Int) ∧ vz = .int .u8 (gdot a f j)) (fun _ vi => 101 - (intOf vi).toNat)
      case atStart => exact ⟨0, by omega, rfl, rfl⟩
      case round =>
        obtain ⟨j, hj, rfl, rfl⟩ := hrel
        have r5 := gdot_rng a ha ha' f j
        by_cases hlt2 : j < k
        · have r3 := HF.out j
          have r6 := gmul_rng a (f j) ha ha'
          have c1 := HC.out j hlt2
          have hA := HA.out (by omega)
          subst hA
          go_wp2_with (first
            | (go_at_call 8; refine (add_any _ _ _ (by omega) (by omega) (by omega) (by omega)).mono ?_; rintro e w' ⟨rfl, rfl⟩)
            | (go_at_call 9; refine (mul_any _ _ _ (by omega) (by omega) (by omega) (by omega)).mono ?_; rintro e w' ⟨rfl, rfl⟩))
          go_round
          case rel => exact ⟨j + 1, by omega, by go_num, rfl⟩
          case measure => simp [intOf]; omega
        · obtain rfl : j = k := by omega
          have hb2 : (gdot a f j == gmul a (gsum f j)) = true := beq_iff_eq.2 (gdot_all a ha ha' f j HF.out)
          by_cases hz : a = 0
          · subst hz
            have hb3 : (gmul 0 (ginv 0) == 0) = true := by decide +kernel
            go_wp2_with (first
              | (go_at_call 9; refine (mul_any _ _ _ (by omega) (by omega) (by omega) (by omega)).mono ?_; rintro e w' ⟨rfl, rfl⟩)
              | (go_at_call 13; refine (div_any _ _ _ (by omega) (by omega) (by omega) (by omega)).mono ?_; rintro e w' ⟨rfl, rfl⟩))
            go_ret
            exact ⟨rfl, rfl⟩
          · have hb3 : (gmul a (ginv a) == 1) = true := beq_iff_eq.2 (gmul_ginv a (by omega) ha')
            have hb4 : (a == 0) = false := beq_eq_false_iff_ne.2 hz
            have hb5 : (a != 0) = true := by rw [bne_iff_ne]; exact hz
            clear hz
            go_wp2_with (first
              | (go_at_call 9; refine (mul_any _ _ _ (by omega) (by omega) (by omega) (by omega)).mono ?_; rintro e w' ⟨rfl, rfl⟩)
              | (go_at_call 13; refine (div_any _ _ _ (by omega) (by omega) (by omega) (by omega)).mono ?_; rintro e w' ⟨rfl, rfl⟩))
            go_ret
            exact ⟨rfl, rfl⟩
end Go.Proofs.Ythfpdcicjphagaa
