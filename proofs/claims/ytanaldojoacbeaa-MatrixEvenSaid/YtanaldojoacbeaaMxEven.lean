/- The law MatrixEven answers true. -/
import Derived.Test.YtanaldojoacbeaaMxAlive
import Derived.Test.YtanaldojoacbeaaMxOpen
namespace Go.Proofs.Ytanaldojoacbeaa
open Go.RowKit Mx

/-- what the first i rows but row a make, each times its number -/
def made (M : Mat) (y : Nat → Fe) (a i : Nat) : Nat → Fe := fun c => sm i fun t => if t = a then 0 else y t * M t c
theorem made_succ (M : Mat) (y : Nat → Fe) {a i : Nat} (h : i ≠ a) (c : Nat) : made M y a (i + 1) c = made M y a i c + y i * M i c := by
  unfold made; rw [sm_succ, if_neg h]
theorem made_skip (M : Mat) (y : Nat → Fe) (a : Nat) (c : Nat) : made M y a (a + 1) c = made M y a a c := by
  unfold made; rw [sm_succ, if_pos rfl, add_zero]
theorem made_even {n : Nat} (M : Mat) (y : Nat → Fe) {a : Nat} (ha : a < n) : gjs n (fun r => if r = a then made M y a n else M r) n = none := by
  refine gjs_even (z := fun t => if t = a then 1 else y t) ha (by simp only [if_true]; exact one_ne) fun c _ => ?_
  rw [sm_off ha]
  simp only [if_true, one_mul]
  rw [sm_congr (g := fun t => if t = a then 0 else y t * M t c) (fun t _ => by
    by_cases e : t = a
    · rw [if_pos e, if_pos e]
    · rw [if_neg e, if_neg e, if_neg e, if_neg e])]
  exact add_self _
/-- the rows that came in, as the cells of what holds them -/
def topsOf (k n : Nat) (AA : Nat → Option Addr × Nat) : List Value := (List.range k).map fun i => .slice (AA i).1 n (AA i).2
theorem topsOf_get {k n : Nat} {AA : Nat → Option Addr × Nat} {j : Nat} (hj : j < k) : (topsOf k n AA)[j]? = some (.slice (AA j).1 n (AA j).2) := by simp [topsOf, hj]
theorem topsOf_succ (k n : Nat) (AA : Nat → Option Addr × Nat) : topsOf k n AA ++ [.slice (AA k).1 n (AA k).2] = topsOf (k + 1) n AA := by
  unfold topsOf; rw [List.range_succ, List.map_append]; rfl

set_option maxRecDepth 100000 in
set_option maxHeartbeats 8000000 in
theorem matrixEven_walk (A : Option Addr) (n C : Nat) (L : Nat → Nat) (M : Mat) (t : Int) (D : Option Addr) (m Cv : Nat) (y : Nat → Fe) (G : Nat → Prop) (w : World) (ht0 : -9223372036854775808 ≤ t) (ht1 : t ≤ 9223372036854775807)
    (hn : n ≤ maxLen) (hm : m ≤ maxLen) (h : RdM w A n L M G) (hv : Rd w D m y G) :
    Calls Try.prog 7 #[.slice A n C, .int .i64 t, .slice D m Cv] w fun e w' => e = .returned (.bool true) ∧ Below w.heap.size w w' := by
  have H0 := Lib.hid h
  have HV0 := Lib.hid hv
  have HN := Lib.hid hn
  clear h hv hn
  unfold maxLen at hm
  have hn : n ≤ 9223372036854775807 := HN.out
  go_enter Try.func7, Try.ntmps7
  go_wp2_with fail
  refine (alive_true _).mono ?_
  rintro e w1 ⟨rfl, hB⟩
  have H1 := Lib.hid (H0.out.old hB)
  have HV1 := Lib.hid (HV0.out.old hB)
  have HB := Lib.hid hB
  clear hB H0 HV0
  go_wp2_with fail
  refine (few_any _ _ _ _ _ _ _ HN.out H1.out).mono ?_
  rintro e w' ⟨b1, rfl, rfl⟩
  cases b1
  · go_wp2
    go_ret
    exact ⟨rfl, HB.out⟩
  cases hr : rightB n L with
  | false =>
    have HR := Lib.hid hr
    clear hr
    go_wp2_with fail
    refine (refRight_is _ _ _ _ _ _ _ false HN.out H1.out HR.out).mono ?_
    rintro e w2 ⟨rfl, hB2⟩
    have HT := Lib.hid (HB.out.trans (hB2.mono HB.out.size))
    clear hB2
    go_wp2
    go_ret
    exact ⟨rfl, HT.out⟩
  | true =>
    have HR := Lib.hid hr
    obtain ⟨h1, h2, h3, h4, h5⟩ := rightB_true.1 hr
    have H5 := Lib.hid h5
    clear hr h5
    go_wp2_with fail
    refine (refRight_is _ _ _ _ _ _ _ true HN.out H1.out HR.out).mono ?_
    rintro e w2 ⟨rfl, hB2⟩
    have HT := Lib.hid (HB.out.trans (hB2.mono HB.out.size))
    have H2 := Lib.hid (H1.out.old hB2)
    have HV2 := Lib.hid (HV1.out.old hB2).in_
    clear hB2 H1 HV1 HB HR
    obtain ⟨b0, off0, A0, C0, rfl, _, hc0, _⟩ := H2.out.row (i := 0) (by omega)
    rw [Nat.add_zero] at hc0
    by_cases hall : n = L 0 ∧ 2 ≤ n ∧ n ≤ 20 ∧ 0 ≤ t ∧ t < n ∧ m = n
    · obtain ⟨e1, k1, k2, k3, k4, e2⟩ := hall
      have b1 : ((n : Int) != (L 0 : Int)) = false := by rw [← e1]; simp
      have HQ : Hid (RdM w2 (some ⟨b0, off0, none⟩) n (fun _ => n) M (· < w2.heap.size)) := Lib.hid (H2.out.congr (fun i hi => by rw [H5.out i hi]; exact e1.symm) (fun _ _ _ _ => rfl)).in_
      subst e2
      clear e1 H2 H5
      obtain ⟨a, rfl⟩ := Int.eq_ofNat_of_zero_le k3
      have ha : a < m := by omega
      have hmk := run_make_row' (P := Try.prog) 23 5 (.int .u8 0) 1 Try.underlying23 infoByte rfl .i64 .i64 m (by omega) (by omega)
      clear ht0 ht1 k3 k4
      have q1 : decide ((m : Int) < 2) = false := decide_eq_false (by omega)
      have q2 : decide (20 < (m : Int)) = false := decide_eq_false (by omega)
      have q3 : decide ((a : Int) < 0) = false := decide_eq_false (by omega)
      have q4 : decide (m ≤ a) = false := decide_eq_false (by omega)
      have q5 : decide ((m : Int) ≤ (a : Int)) = false := decide_eq_false (by omega)
      go_wp2
      clear hmk hc0
      go_loopw [9] (fun vi wr => ∃ i : Nat, i ≤ m ∧ vi = .int .i64 (i : Int) ∧ Hid (RowAt wr w2.heap.size m (made M y a i)) ∧ Hid (Below w2.heap.size w2 wr)) (fun vi _ => m - (intOf vi).toNat)
      case atStart => exact ⟨0, by omega, rfl, Lib.hid (RowAt.made w2 m), Lib.hid ((Below.refl _ _).alloc (Nat.le_refl _) _)⟩
      case round =>
        obtain ⟨i, hi, rfl, HO, HB⟩ := hrel
        by_cases hlt : i < m
        · by_cases hia : i = a
          · have b2 : ((i : Int) != (a : Int)) = false := by rw [hia]; simp
            have HO2 : Hid (RowAt wr w2.heap.size m (made M y a (i + 1))) := by
              have hh := HO.out
              rw [hia] at hh ⊢
              exact Lib.hid (hh.congr fun c _ => (made_skip M y a c).symm)
            clear hia HO
            go_wp2
            go_loop [10] (fun vk => vk = .int .i64 0) (fun _ => 0)
            case atStart => rfl
            case round =>
              subst hrel
              have s0 : (0 : Int) < (m : Int) := by omega
              go_wp2
              go_roundw
              case rel => exact ⟨i + 1, by omega, by go_num, HO2, HB⟩
              case measure => simp [intOf]; omega
          · have b2 : ((i : Int) != (a : Int)) = true := by rw [bne_iff_ne]; omega
            go_wp2
            go_loopw [10] (fun vk wq => ∃ k : Nat, k ≤ m ∧ vk = .int .i64 (k : Int) ∧ Hid (RowAt wq w2.heap.size m (fun x => if x < k then made M y a (i + 1) x else made M y a i x)) ∧ Hid (Below w2.heap.size w2 wq)) (fun vk _ => m - (intOf vk).toNat)
            case atStart => exact ⟨0, by omega, rfl, Lib.hid (HO.out.congr fun x _ => (if_neg (by omega)).symm), HB⟩
            case round =>
              obtain ⟨k, hk, rfl, HO2, HB2⟩ := hrel
              clear HO HB
              by_cases hlt2 : k < m
              · obtain ⟨b2', off2, Ai, Ci, e, _, d0, hri⟩ := (HQ.out.below HB2.out).row hlt
                obtain ⟨rfl, rfl⟩ : b0 = b2' ∧ off0 = off2 := by simpa using e
                obtain ⟨b3, off3, rfl, _, d1⟩ := hri.at hlt2
                obtain ⟨b4, off4, rfl, _, d2⟩ := (HV2.out.below HB2.out).at hlt
                have d3 := HO2.out.cell hlt2
                rw [if_neg (by omega)] at d3
                have f3 := HO2.out.frozen k
                have HX := Lib.hid (xor_fi (made M y a i k) (y i * M i k))
                have HS := Lib.hid (made_succ M y hia k)
                clear e hri
                go_wp2
                refine wp_region_still_tail 20 (by kernel_rfl) (by kernel_rfl) ?_
                simp only [List.take_succ_cons, List.take_zero, List.drop_succ_cons, List.drop_zero]
                repeat (first | still_step | still_call (refMul_st _ _ _))
                refine wpStill_nil ?_
                rw [HX.out, ← HS.out]
                change wpList _ _ _ _ _ wr.drew
                go_wp2
                go_roundw
                case rel => exact ⟨k + 1, by omega, by go_num, Lib.hid ((HO2.out.set k (made M y a (i + 1) k)).congr fun x _ => upTo_step (h := made M y a (i + 1))), Lib.hid ((HB2.out.drew).setCell (p := ⟨w2.heap.size, k, none⟩) (Nat.le_refl _) _)⟩
                case measure => simp [intOf]; omega
              · have HO3 : Hid (RowAt wr w2.heap.size m (made M y a (i + 1))) := Lib.hid (HO2.out.congr fun x hx => if_pos (by omega))
                clear HO2
                go_wp2
                go_roundw
                case rel => exact ⟨i + 1, by omega, by go_num, HO3, HB2⟩
                case measure => simp [intOf]; omega
        · have HO2 : Hid (RowAt wr w2.heap.size m (made M y a m)) := by
            have him : i = m := by omega
            have hh := HO.out
            rw [him] at hh
            exact Lib.hid hh
          clear HO
          obtain ⟨wa, rfl⟩ : ∃ x, x = wr := ⟨wr, rfl⟩
          obtain ⟨AA, hAA⟩ : ∃ AA : Nat → Option Addr × Nat, ∀ r, r < m → wa.cell? ⟨b0, off0 + r, none⟩ = some (.slice (AA r).1 m (AA r).2) ∧ Rd wa (AA r).1 m (M r) (· < w2.heap.size) := Go.Deep.choose_lt (α := Option Addr × Nat) (p := fun r x => wa.cell? ⟨b0, off0 + r, none⟩ = some (.slice x.1 m x.2) ∧ Rd wa x.1 m (M r) (· < w2.heap.size)) (fun r hr => by
            obtain ⟨b5, off5, Ar, Cr, e, _, d0, hrr⟩ := (HQ.out.below HB.out).row hr
            obtain ⟨rfl, rfl⟩ : b0 = b5 ∧ off0 = off5 := by simpa using e
            exact ⟨(Ar, Cr), d0, hrr⟩)
          have HAA := Lib.hid hAA
          clear hAA
          go_wp2
          go_loopw [12, 11] (fun vr vo wr => ∃ r : Nat, r ≤ m ∧ vr = .int .i64 (r : Int) ∧ Hid (wr.ownsRow wa.heap.size 23 1 vo r (topsOf r m AA)) ∧ Hid (Below wa.heap.size wa wr)) (fun vr _ _ => m - (intOf vr).toNat)
          case atStart => exact ⟨0, by omega, rfl, Lib.hid (World.ownsRow_nil _ _ _ _), Lib.hid (Below.refl _ _)⟩
          case round =>
            obtain ⟨r, hr, rfl, HO3, HB3⟩ := hrel
            by_cases hlt2 : r < m
            · have d0 := (HB3.out.cell (World.block_lt_of_cell? _ _ (HAA.out r hlt2).1)).trans (HAA.out r hlt2).1
              obtain ⟨i0, hi0, hz0, hz1, hz2⟩ := info_parts infoRow
              have hown := HO3.out
              have hlow : wa.heap.size ≤ wr.heap.size := HB3.out.size
              go_wp2_with (at_builtin; refine wpList_append_own _ rfl _ _ 22 rfl wa.heap.size 23 i0 (.slice none 0 0) 1 24 Try.underlying22 hi0 hz0 hz1 hz2 rfl (by decide) _ _ _ rfl (hown.alloc _) ⟨wr.heap.size, 0, none⟩ 1 1 [.slice (AA r).1 m (AA r).2] rfl rfl (oneCell _ _ _) (oneSlice _ _ _) (by unfold maxLen; omega) (by omega) (by simp; omega) ?_)
              intro v' w3 hown' hgrow _
              rw [topsOf_succ] at hown'
              have HO4 := Lib.hid hown'
              have HB4 := Lib.hid ((HB3.out.alloc hlow _).grown hgrow (by simp; omega) (fun x hx => (HO3.out.lt x hx).1))
              clear hown' hgrow hown d0
              go_wp2
              go_roundw
              case rel => exact ⟨r + 1, by omega, by go_num, HO4, HB4⟩
              case measure => simp [intOf]; omega
            · obtain ⟨b, cp, rfl, hb, _, hrow⟩ := RowV.of_owns (show wr.ownsRow wa.heap.size 23 1 _ m (topsOf m m AA) by
                have hrm : r = m := by omega
                have hh := HO3.out
                rw [hrm] at hh
                exact hh) (by omega)
              have d0 := hrow.cell ha
              have f0 := hrow.frozen a
              have HB4 := Lib.hid (HB3.out.setCell (p := ⟨b, a, none⟩) hb (.slice (some ⟨w2.heap.size, 0, none⟩) m m))
              have hset := hrow.set a (.slice (some ⟨w2.heap.size, 0, none⟩) m m)
              have HF : Hid (RdM (wr.setCell ⟨b, a, none⟩ (.slice (some ⟨w2.heap.size, 0, none⟩) m m)) (some ⟨b, 0, none⟩) m (fun _ => m) (fun r => if r = a then made M y a m else M r) (fun _ => True)) := Lib.hid fun _ => ⟨b, 0, rfl, trivial, fun q hq => by
                by_cases e : q = a
                · refine ⟨some ⟨w2.heap.size, 0, none⟩, m, ?_, ?_⟩
                  · rw [Nat.zero_add, hset.cell hq, if_pos e]
                  · simp only [if_pos e]
                    exact (HO2.out.old HB4.out).rd _ trivial
                · refine ⟨(AA q).1, (AA q).2, ?_, ?_⟩
                  · rw [Nat.zero_add, hset.cell hq, if_neg e, List.getD_eq_getElem?_getD, topsOf_get hq]; rfl
                  · simp only [if_neg e]
                    exact ((HAA.out q hq).2.old HB4.out).mono fun _ _ => trivial⟩
              have HT4 := Lib.hid (HT.out.trans ((HB.out.trans (HB4.out.mono HB.out.size)).mono HT.out.size))
              clear hrow hset HO3 HB3
              go_wp2_with fail
              refine (inverse_main _ m cp _ _ _ (by omega) (by omega) HF.out).mono ?_
              intro e w5 hres
              unfold InvRes at hres
              rw [made_even M y ha] at hres
              obtain ⟨A5, C5, rfl, hr5, hB5⟩ := hres
              have HT5 := Lib.hid (HT4.out.trans (hB5.mono HT4.out.size))
              clear hr5 hB5 d0 f0
              go_wp2_with (go_at_call 19; refine (num_any _ _).mono ?_; rintro e w' ⟨rfl, rfl⟩)
              go_ret
              exact ⟨rfl, HT5.out⟩
    · rcases (show n ≠ L 0 ∨ (n = L 0 ∧ n < 2) ∨ (n = L 0 ∧ 2 ≤ n ∧ 20 < n) ∨ (n = L 0 ∧ 2 ≤ n ∧ n ≤ 20 ∧ t < 0) ∨ (n = L 0 ∧ 2 ≤ n ∧ n ≤ 20 ∧ 0 ≤ t ∧ (n : Int) ≤ t) ∨ (n = L 0 ∧ 2 ≤ n ∧ n ≤ 20 ∧ 0 ≤ t ∧ t < n ∧ m ≠ n) by omega) with e1 | ⟨e1, k1⟩ | ⟨e1, k1, k2⟩ | ⟨e1, k1, k2, k3⟩ | ⟨e1, k1, k2, k3, k4⟩ | ⟨e1, k1, k2, k3, k4, k5⟩
      · have b1 : ((n : Int) != (L 0 : Int)) = true := by rw [bne_iff_ne]; omega
        clear hall e1
        go_wp2
        go_ret
        exact ⟨rfl, HT.out⟩
      · have b1 : ((n : Int) != (L 0 : Int)) = false := by rw [← e1]; simp
        clear hall e1
        go_wp2
        go_ret
        exact ⟨rfl, HT.out⟩
      · have b1 : ((n : Int) != (L 0 : Int)) = false := by rw [← e1]; simp
        clear hall e1
        go_wp2
        go_ret
        exact ⟨rfl, HT.out⟩
      · have b1 : ((n : Int) != (L 0 : Int)) = false := by rw [← e1]; simp
        clear hall e1
        go_wp2
        go_ret
        exact ⟨rfl, HT.out⟩
      · have b1 : ((n : Int) != (L 0 : Int)) = false := by rw [← e1]; simp
        clear hall e1
        go_wp2
        go_ret
        exact ⟨rfl, HT.out⟩
      · have b1 : ((n : Int) != (L 0 : Int)) = false := by rw [← e1]; simp
        have b2 : ((m : Int) != (n : Int)) = true := by rw [bne_iff_ne]; omega
        clear hall e1 k5
        go_wp2
        go_ret
        exact ⟨rfl, HT.out⟩
end Go.Proofs.Ytanaldojoacbeaa
