/- What CatalogGaps answers: true. -/
import Derived.Test.YtbijjgicjkmopaaDoorMav
import Derived.Deep.DeepCutAuto
namespace Go.Proofs.YtbijjgicjkmopaaDoor
open Go.RowKit
open Pt (Tx)

namespace Gp
/-- the part i of n -/
def gp (n i : Nat) : Ct.P := ⟨⟨[97], 1, 10 * (n : Int), 10 * (i : Int), 10, 1, 0, false⟩, (i : Int) + 1, 1⟩
/-- the list behind i rounds -/
def ls (n k : Nat) (b : Bool) : Nat → List Ct.P
  | 0 => []
  | i + 1 => if (i == k && !b) = true then ls n k b i else gp n i :: ls n k b i
theorem ls_mem {n k : Nat} {b : Bool} : ∀ {i : Nat} {p : Ct.P}, p ∈ ls n k b i → ∃ j, j < i ∧ p = gp n j
  | 0, p, h => by cases h
  | i + 1, p, h => by
    rw [ls] at h
    split at h
    · obtain ⟨j, h1, h2⟩ := ls_mem h
      exact ⟨j, by omega, h2⟩
    · rcases List.mem_cons.1 h with rfl | h
      · exact ⟨i, by omega, rfl⟩
      · obtain ⟨j, h1, h2⟩ := ls_mem h
        exact ⟨j, by omega, h2⟩
theorem ls_len (n k : Nat) (b : Bool) : ∀ i, (ls n k b i).length ≤ i
  | 0 => Nat.le_refl _
  | i + 1 => by
    rw [ls]
    have := ls_len n k b i
    split
    · omega
    · rw [List.length_cons]; omega
/-- what is found -/
def good (n k : Nat) (b : Bool) : Bool := match Ct.whole (ls n k b n) with
  | none => !b
  | some f => b && (f.parts.length == n && (List.range n).all fun i => match f.parts[i]? with
    | none => false
    | some p => p.lab == (i : Int) + 1)
theorem all_good : ∀ n, n < 11 → ∀ k, k < n → ∀ b, good n k b = true := by decide +kernel
theorem good_none {n k : Nat} {b : Bool} (h : good n k b = true) (hw : Ct.whole (ls n k b n) = none) : b = false := by
  unfold good at h
  rw [hw] at h
  simpa using h
theorem good_some {n k : Nat} {b : Bool} {f : Ct.F} (h : good n k b = true) (hw : Ct.whole (ls n k b n) = some f) : b = true ∧ f.parts.length = n ∧ ∀ i (hi : i < f.parts.length), f.parts[i].lab = (i : Int) + 1 := by
  unfold good at h
  rw [hw] at h
  simp only [Bool.and_eq_true, beq_iff_eq, List.all_eq_true, List.mem_range] at h
  obtain ⟨h1, h2, h3⟩ := h
  refine ⟨h1, h2, fun i hi => ?_⟩
  have h4 := h3 i (by omega)
  rw [List.getElem?_eq_getElem hi] at h4
  simpa using h4
end Gp
theorem gp_tame {n k i : Nat} {b : Bool} (hn : n ≤ 10) (hi : i ≤ n) : ∀ p ∈ Gp.ls n k b i, Tame p ∧ p.h.path.length ≤ 281474976710656 := fun p hp => by
  obtain ⟨j, hj, rfl⟩ := Gp.ls_mem hp
  exact ⟨⟨⟨by show -1000000000 ≤ 10 * (j : Int); omega, by show 10 * (j : Int) ≤ 1000000000; omega⟩, by show (-1000000000 : Int) ≤ 10; decide, by show (10 : Int) ≤ 1000000000; decide⟩, by show ([97] : Tx).length ≤ _; decide⟩
set_option maxRecDepth 100000 in
set_option maxHeartbeats 2000000 in
theorem gaps_out (a c : Int) (b : Bool) (w : World) (hk : Kept w) (h : a < 1 ∨ 10 < a ∨ c < 0 ∨ a ≤ c) :
    Calls Tryd.prog 4 #[.int .i64 a, .int .i64 c, .bool b] w fun e w' => e = .returned (.bool true) ∧ Below w.heap.size w w' := by
  have HC := Lib.hid (alive17_true w hk)
  have hq : (decide (a < 1) = true ∧ True ∧ True ∧ True) ∨ (decide (a < 1) = false ∧ decide (10 < a) = true ∧ True ∧ True) ∨ (decide (a < 1) = false ∧ decide (10 < a) = false ∧ decide (c < 0) = true ∧ True) ∨ (decide (a < 1) = false ∧ decide (10 < a) = false ∧ decide (c < 0) = false ∧ decide (a ≤ c) = true) := by
    by_cases h1 : a < 1
    · exact .inl ⟨decide_eq_true h1, trivial, trivial, trivial⟩
    · by_cases h2 : 10 < a
      · exact .inr (.inl ⟨decide_eq_false h1, decide_eq_true h2, trivial, trivial⟩)
      · by_cases h3 : c < 0
        · exact .inr (.inr (.inl ⟨decide_eq_false h1, decide_eq_false h2, decide_eq_true h3, trivial⟩))
        · exact .inr (.inr (.inr ⟨decide_eq_false h1, decide_eq_false h2, decide_eq_false h3, decide_eq_true (by omega)⟩))
  clear hk h
  rcases hq with ⟨q1, q2, q3, q4⟩ | ⟨q1, q2, q3, q4⟩ | ⟨q1, q2, q3, q4⟩ | ⟨q1, q2, q3, q4⟩
  all_goals
    go_enter Tryd.func4, Tryd.ntmps4
    go_wp2_with fail
    refine HC.out.mono ?_
    rintro e w1 ⟨rfl, hb1⟩
    have HB := Lib.hid hb1
    clear hb1
    go_wp2
    go_ret
    exact ⟨rfl, HB.out⟩
set_option maxRecDepth 100000 in
set_option maxHeartbeats 8000000 in
theorem gaps_in (n k : Nat) (b : Bool) (w : World) (hk : Kept w) (hn : 1 ≤ n) (hn2 : n ≤ 10) (hkn : k < n) :
    Calls Tryd.prog 4 #[.int .i64 (n : Int), .int .i64 (k : Int), .bool b] w fun e w' => e = .returned (.bool true) ∧ Below w.heap.size w w' := by
  have HC := Lib.hid (alive17_true w hk)
  have HG := Lib.hid (Gp.all_good n (by omega) k hkn b)
  have q1 : decide ((n : Int) < 1) = false := decide_eq_false (by omega)
  have q2 : decide (10 < (n : Int)) = false := decide_eq_false (by omega)
  have q3 : decide ((k : Int) < 0) = false := decide_eq_false (by omega)
  have q4 : decide ((n : Int) ≤ (k : Int)) = false := decide_eq_false (by omega)
  have q5 : decide (10 < n) = false := decide_eq_false (by omega)
  have q6 : decide (n ≤ k) = false := decide_eq_false (by omega)
  have q7 : decide (n < 1) = false := decide_eq_false (by omega)
  clear hk
  go_enter Tryd.func4, Tryd.ntmps4
  go_wp2_with fail
  refine HC.out.mono ?_
  rintro e w1 ⟨rfl, hb1⟩
  have HB := Lib.hid hb1
  clear hb1 HC
  go_wp2
  go_loopw [9, 8] (fun vi vl wr => ∃ i : Nat, i ≤ n ∧ vi = .int .i64 (i : Int) ∧ Hid (encQ.Own wr w.heap.size 44 vl (Gp.ls n k b i)) ∧ Hid (Below w.heap.size w wr)) (fun vi _ _ => n - (intOf vi).toNat)
  case atStart => exact ⟨0, Nat.zero_le _, rfl, Lib.hid (Enc.Own.nil _ _ _), HB⟩
  case round =>
    obtain ⟨i, hi, rfl, HO, HBR⟩ := hrel
    by_cases hlt : i < n
    · have e0 : decide ((i : Int) < (n : Int)) = true := decide_eq_true (by omega)
      have e0' : decide (i < n) = true := decide_eq_true hlt
      by_cases hik : i = k ∧ b = false
      · have HL : Hid (Gp.ls n k b (i + 1) = Gp.ls n k b i) := Lib.hid (by rw [Gp.ls, if_pos]; rw [hik.1, hik.2]; simp)
        have p1 : ((i : Int) == (k : Int)) = true := by rw [hik.1]; simp
        have p2 : b = false := hik.2
        have HO2 : Hid (encQ.Own wr w.heap.size 44 u8 (Gp.ls n k b (i + 1))) := Lib.hid (by rw [HL.out]; exact HO.out)
        have p3 : decide (i = k) = true := decide_eq_true hik.1
        clear hik
        subst p2
        go_wp2
        go_roundw
        case rel => exact ⟨i + 1, by omega, by go_num, HO2, HBR⟩
        case measure => simp [intOf]; omega
      · have HL : Hid (Gp.ls n k b (i + 1) = Gp.gp n i :: Gp.ls n k b i) := Lib.hid (by
          rw [Gp.ls, if_neg]
          intro h
          simp only [Bool.and_eq_true, beq_iff_eq, Bool.not_eq_true'] at h
          exact hik h)
        have hcase : (((i : Int) == (k : Int)) = false ∧ decide (i = k) = false ∧ True) ∨ (((i : Int) == (k : Int)) = true ∧ decide (i = k) = true ∧ b = true) := by
          by_cases e : i = k
          · refine .inr ⟨by rw [e]; simp, decide_eq_true e, ?_⟩
            cases b with
            | true => rfl
            | false => exact absurd ⟨e, rfl⟩ hik
          · exact .inl ⟨by simp; omega, decide_eq_false e, trivial⟩
        obtain ⟨wp, hwp⟩ : ∃ x, x = wr.alloc (partO (Gp.gp n i)) := ⟨_, rfl⟩
        have hbp : Below wr.heap.size wr wp := by rw [hwp]; exact (Below.refl _ _).alloc (Nat.le_refl _) _
        have hkp : wp.heap[wr.heap.size]? = some (partO (Gp.gp n i)) := by rw [hwp]; exact Go.Deep.blk_alloc_new _ _
        have hone : encQ.Own wp w.heap.size 44 (.slice (some ⟨wr.heap.size, 0, none⟩) 1 1) [Gp.gp n i] := Enc.Own.one (x := Gp.gp n i) hkp HBR.out.size
        obtain ⟨Av, Cv, hv, -, -, hnil, hrd⟩ := (HO.out.old hbp).rd
        obtain ⟨L, hL⟩ : ∃ L, L = (Gp.ls n k b i).length := ⟨_, rfl⟩
        have hL2 : L ≤ 10 := by rw [hL]; exact Nat.le_trans (Gp.ls_len n k b i) (by omega)
        rw [← hL] at hnil hv
        subst hv
        have HONE := Lib.hid hone
        have HRD := Lib.hid hrd
        have HNIL := Lib.hid hnil
        have HLL := Lib.hid hL
        have HBP := Lib.hid (HBR.out.trans (hbp.mono HBR.out.size))
        have hwpz : w.heap.size ≤ wp.heap.size := HBP.out.size
        have HWP : Hid (wp = wr.alloc (.cells #[.string ⟨#[97]⟩, .int .i64 1, .int .i64 (10 * (n : Int)), .int .i64 (10 * (i : Int)), .int .i64 10, .int .i64 1, .int .i64 0, .bool false, .int .i64 ((i : Int) + 1), .int .i64 1] 44)) := Lib.hid hwp
        have hw10 : IntKind.i64.wrap (10 * (n : Int)) = 10 * (n : Int) := IntWalk.i64_in _ (by omega)
        have hw11 : IntKind.i64.wrap (10 * (i : Int)) = 10 * (i : Int) := IntWalk.i64_in _ (by omega)
        clear hwp hbp hkp hone hnil hrd hL hik
        rcases hcase with ⟨p1, p2, p3⟩ | ⟨p1, p2, p3⟩
        all_goals
          try subst p3
          go_wp2_with (at_builtin; rw [← HWP.out]; refine wpList_append_stO encQ _ rfl _ _ _ rfl w.heap.size 44 _ 88 Tryd.underlying42 infoPart rfl _ [Gp.gp n i] rfl HONE.out Av L Cv _ _ rfl HLL.out HNIL.out HRD.out (by simp; unfold maxLen; omega) (by simp; omega) hwpz ?_)
          intro v9 w9 hO9 hg9
          have HO9 : Hid (encQ.Own w9 w.heap.size 44 v9 (Gp.ls n k _ (i + 1))) := Lib.hid (by rw [HL.out]; exact hO9)
          have HB9 := Lib.hid (HBP.out.grown hg9 HBP.out.size (fun q hq => (HONE.out.lt q hq).1))
          clear hO9 hg9
          go_wp2
          go_roundw
          case rel => exact ⟨i + 1, by omega, by go_num, HO9, HB9⟩
          case measure => simp [intOf]; omega
    · have e0 : decide ((i : Int) < (n : Int)) = false := decide_eq_false (by omega)
      have e0' : decide (i < n) = false := decide_eq_false hlt
      have hin : i = n := by omega
      rw [hin] at HO
      obtain ⟨Av, Cv, hv, -, -, -, hrd⟩ := HO.out.rd
      obtain ⟨ps, hps⟩ : ∃ ps, ps = Gp.ls n k b n := ⟨_, rfl⟩
      obtain ⟨L, hL⟩ : ∃ L, L = ps.length := ⟨_, rfl⟩
      have htm := gp_tame (n := n) (k := k) (b := b) hn2 (Nat.le_refl n)
      have hL2 : L ≤ 10 := by rw [hL, hps]; exact Nat.le_trans (Gp.ls_len n k b n) (by omega)
      rw [← hps] at hv hrd htm
      rw [← hL] at hv
      subst hv
      have HWA := Lib.hid (whole_any Av ps L Cv _ wr hL (by omega) hrd (fun p hp => (htm p hp).1) (fun p hp => (htm p hp).2))
      have HPS := Lib.hid hps
      clear hrd hps hL htm hin HO
      go_wp2_with fail
      refine HWA.out.mono ?_
      rintro e w2 ⟨hh, hb2⟩
      clear HWA
      have HB2 := Lib.hid (HBR.out.trans (hb2.mono HBR.out.size))
      cases hw : Ct.whole ps with
      | none =>
        rw [hw] at hh
        obtain rfl := hh
        have hbf : b = false := Gp.good_none HG.out (by rw [← HPS.out]; exact hw)
        have HB3 : Hid (Below w.heap.size w (w2.alloc (.cells #[.string ⟨#[]⟩, .int .i64 0, .int .i64 0, .int .i64 0, .int .i64 0, .bool false, .slice none 0 0] 46))) := Lib.hid (HB2.out.alloc HB2.out.size _)
        clear hw hb2
        subst hbf
        go_wp2
        go_ret
        exact ⟨rfl, HB3.out⟩
      | some f =>
        rw [hw] at hh
        obtain ⟨A1, C1, rfl, hO⟩ := hh
        obtain ⟨hbt, hfl, hlab⟩ := Gp.good_some HG.out (by rw [← HPS.out]; exact hw)
        obtain ⟨P, v, z, s, r, g, pl⟩ := f
        dsimp only at hO hfl hlab
        rw [hfl] at hO
        obtain ⟨w3, hw3⟩ : ∃ x, x = w2.alloc (fileO P v z s r g A1 n C1) := ⟨_, rfl⟩
        have hb3 : Below w2.heap.size w2 w3 := by rw [hw3]; exact (Below.refl _ _).alloc (Nat.le_refl _) _
        have hk3 : w3.heap[w2.heap.size]? = some (fileO P v z s r g A1 n C1) := by rw [hw3]; exact Go.Deep.blk_alloc_new _ _
        have HB3 := Lib.hid (HB2.out.trans (hb3.mono HB2.out.size))
        have HW3 : Hid (w3 = w2.alloc (.cells #[.string (tx P), .int .i64 v, .int .i64 z, .int .i64 s, .int .i64 r, .bool g, .slice A1 n C1] 46)) := Lib.hid hw3
        have HK3 := Lib.hid hk3
        have HO3 := Lib.hid (hO.old hb3)
        have HFL := Lib.hid hfl
        have HLAB := Lib.hid hlab
        clear hw hb2 hO hw3 hb3 hk3 hlab
        subst hbt
        rw [hfl]
        clear hfl
        go_upto_region 11 with fail
        rw [← HW3.out]
        obtain ⟨a0, a1, a2, a3, a4, a5, a6⟩ := file7 HK3.out
        have e8 : ((n : Int) != (n : Int)) = false := by simp
        go_wp2
        go_loopw [12] (fun vi wr => ∃ i : Nat, i ≤ n ∧ vi = .int .i64 (i : Int) ∧ Hid (wr = w3)) (fun vi _ => n - (intOf vi).toNat)
        case atStart => exact ⟨0, Nat.zero_le _, rfl, Lib.hid rfl⟩
        case round =>
          obtain ⟨i, hi, rfl, HWE⟩ := hrel
          by_cases hlt : i < n
          · have e0 : decide ((i : Int) < (n : Int)) = true := decide_eq_true (by omega)
            have e0' : decide (i < n) = true := decide_eq_true hlt
            have hil : i < pl.length := by rw [HFL.out]; exact hlt
            have hOw := HO3.out
            rw [← HFL.out, ← HWE.out] at hOw
            obtain ⟨gb, Cb, cb, hv, -, hgb, ht⟩ := ownQ_at hOw hil
            rw [HFL.out] at hv
            injection hv with hv1 hv2 hv3
            subst hv1 hv3
            have hlab := HLAB.out i hil
            have c8 : wr.cell? ⟨gb, i * 10 + 8, none⟩ = some (.int .i64 ((i : Int) + 1)) := by rw [← hlab]; exact ht.2.2.2.2.2.2.2.2.1
            rw [← HWE.out] at a6
            have e9 : (((i : Int) + 1) != ((i : Int) + 1)) = false := by simp
            clear hOw hv2 hlab ht hgb hil a0 a1 a2 a3 a4 a5
            go_wp2
            go_roundw
            case rel => exact ⟨i + 1, by omega, by go_num, HWE⟩
            case measure => simp [intOf]; omega
          · have e0 : decide ((i : Int) < (n : Int)) = false := decide_eq_false (by omega)
            have e0' : decide (i < n) = false := decide_eq_false hlt
            go_wp2
            go_ret
            exact ⟨rfl, by rw [HWE.out]; exact HB3.out⟩
theorem gaps_walk (a c : Int) (b : Bool) (w : World) (hk : Kept w) :
    Calls Tryd.prog 4 #[.int .i64 a, .int .i64 c, .bool b] w fun e w' => e = .returned (.bool true) ∧ Below w.heap.size w w' := by
  by_cases h : a < 1 ∨ 10 < a ∨ c < 0 ∨ a ≤ c
  · exact gaps_out a c b w hk h
  · obtain ⟨n, rfl⟩ : ∃ n : Nat, a = (n : Int) := ⟨a.toNat, by omega⟩
    obtain ⟨k, rfl⟩ : ∃ k : Nat, c = (k : Int) := ⟨c.toNat, by omega⟩
    exact gaps_in n k b w hk (by omega) (by omega) (by omega)
end Go.Proofs.YtbijjgicjkmopaaDoor
