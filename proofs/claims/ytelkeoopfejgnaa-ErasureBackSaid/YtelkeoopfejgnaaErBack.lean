/- The law ErasureBack answers true: whatever is missing of rows and their parity, Decode tells the data, or that too many are gone. -/
import Derived.Test.YtelkeoopfejgnaaErAlive
import Derived.Test.YtelkeoopfejgnaaErAppend
import Derived.Test.YtelkeoopfejgnaaMxSized
namespace Go.Proofs.Ytelkeoopfejgnaa
open Go.RowKit Mx

set_option maxRecDepth 100000 in
set_option maxHeartbeats 8000000 in
theorem erasureBack_main (A : Option Addr) (n C : Nat) (L : Nat → Nat) (M : Mat) (p : Nat) (Ag : Option Addr) (g Cg : Nat) (z : Nat → Int) (G : Nat → Prop) (w : World)
    (hn0 : 0 < n) (hn : n ≤ 20) (hp : p ≤ 12) (hg : g ≤ 40) (hm0 : 0 < L 0) (hL : ∀ i, i < n → L i ≤ 140737488351232) (h : RdM w A n L M G) (h' : RdI w Ag g z) :
    Calls Try.prog 4 #[.slice A n C, .int .i64 (p : Int), .slice Ag g Cg] w fun e w' => e = .returned (.bool true) ∧ Below w.heap.size w w' := by
  have H0 := Lib.hid h
  have H0' := Lib.hid h'
  have HL := Lib.hid hL
  clear h h' hL
  have y1 : decide ((n : Int) < 1) = false := decide_eq_false (by omega)
  have y2 : decide ((20 : Int) < (n : Int)) = false := decide_eq_false (by omega)
  have y3 : decide ((p : Int) < 0) = false := decide_eq_false (by omega)
  have y4 : decide ((12 : Int) < (p : Int)) = false := decide_eq_false (by omega)
  have y5 : decide ((40 : Int) < (g : Int)) = false := decide_eq_false (by omega)
  have y6 : ((L 0 : Int) == 0) = false := beq_eq_false_iff_ne.2 (by omega)
  go_enter Try.func4, Try.ntmps4
  go_wp2_with fail
  refine (alive3_true _).mono ?_
  rintro e w1 ⟨rfl, hB⟩
  have H1 := Lib.hid (H0.out.old hB)
  have H1' := Lib.hid (H0'.out.old hB)
  have HB := Lib.hid hB
  clear hB
  go_wp2_with fail
  refine (few_sized _ _ _ _ _ _ _ (by unfold maxLen; omega) HL.out H1.out).mono ?_
  rintro e w' ⟨b1, rfl, rfl, hfew⟩
  cases b1
  · clear hfew
    go_wp2
    go_ret
    exact ⟨rfl, HB.out⟩
  obtain ⟨_, hf2⟩ := hfew rfl
  have hf0 := hf2 0 hn0
  clear hfew hf2
  obtain ⟨b0, off0, A0, C0, rfl, _, hc0, _⟩ := H1.out.row hn0
  rw [Nat.add_zero] at hc0
  cases ha : alikeB n L with
  | false =>
    have HE : Hid (¬ EncOk n L (p : Int)) := Lib.hid fun hh => by rw [alikeB_true.2 hh.2.1] at ha; cases ha
    clear ha
    go_wp2_with fail
    refine (encode_any _ n C L M _ (p : Int) _ (by unfold maxLen; omega) (fun _ => by omega) (by omega) (by omega) H1.out).mono ?_
    intro e w2 hres
    unfold EncAny at hres
    rw [if_neg HE.out] at hres
    obtain ⟨A2, C2, rfl, _, hB2⟩ := hres
    have HT2 := Lib.hid (HB.out.trans (hB2.mono HB.out.size))
    clear hB2
    go_wp2_with (first
      | (go_at_call 13; refine (num3_any _ _).mono ?_; rintro e w' ⟨rfl, rfl⟩))
    go_ret
    exact ⟨rfl, HT2.out⟩
  | true =>
    have hal := alikeB_true.1 ha
    clear ha
    obtain ⟨m, hm⟩ : ∃ m, m = L 0 := ⟨_, rfl⟩
    have HAL : Hid (∀ i, i < n → L i = m) := Lib.hid fun i hi => by rw [hm]; exact hal i hi
    have HLm := Lib.hid hm
    have hm1 : 0 < m := by omega
    have hm2 : m ≤ 2000 := by omega
    have HA2 := Lib.hid hal
    clear hal hm
    go_wp2_with fail
    refine (encode_ok _ n C L M _ p _ hn0 (by omega) HA2.out (by omega) H1.out).mono ?_
    rintro e w2 ⟨A2, C2, rfl, hA2, hr2, hB2⟩
    rw [← HLm.out] at hr2
    have HR2 := Lib.hid hr2
    have HN2 := Lib.hid hA2
    have HT2 := Lib.hid (HB.out.trans (hB2.mono HB.out.size))
    have H2 := Lib.hid (((H1.out.congr (L' := fun _ => m) (M' := M) HAL.out (fun _ _ _ _ => rfl)).old hB2).in_)
    clear hr2 hA2 hB2 H1 H1' HB hc0 HA2
    obtain ⟨As, Cs, hsl1, hsl2⟩ := H2.out.tops
    obtain ⟨Ap, Cp, hpl1, hpl2⟩ := HR2.out.tops
    have HS1 := Lib.hid (hsl1 ⟨b0, off0, none⟩ hn0 rfl)
    have HS2 := Lib.hid hsl2
    have HP1 := Lib.hid hpl1
    have HP2 := Lib.hid hpl2
    clear hsl1 hsl2 hpl1 hpl2
    obtain ⟨i0, hi0, hz0, hz1, hz2⟩ := info_parts infoRow
    have hnil : w2.ownsRow w2.heap.size 34 1 (.slice none 0 0) 0 [] := World.ownsRow_nil _ _ _ _
    have yp : ((p : Int) != (p : Int)) = false := by simp
    go_wp2_with (first
      | (go_at_call 13; refine (num3_any _ _).mono ?_; rintro e w' ⟨rfl, rfl⟩)
      | (at_builtin; refine wpList_append_own _ rfl _ _ 22 rfl w2.heap.size 34 i0 (.slice none 0 0) 1 24 Try.underlying22 hi0 hz0 hz1 hz2 rfl (by decide) _ _ _ rfl hnil ⟨b0, off0, none⟩ n C (topsOf n As (fun _ => m) Cs) rfl (by rw [topsOf_len, Nat.mul_one]) HS1.out topsOf_one (by unfold maxLen; omega) (by omega) (Nat.le_refl _) ?_))
    intro v1 w3 hown1 hgrow1 _
    have HB3 : Hid (Below w2.heap.size w2 w3) := Lib.hid ((Below.refl _ _).grown hgrow1 (Nat.le_refl _) (fun x hx => by simp [Value.ownBlock] at hx))
    have HNW : Hid (∀ ad, A2 = some ad → ∀ j u, (topsOf p Ap (fun _ => m) Cp)[j]? = some u → w3.cell? (ad.add j) = some u) := Lib.hid fun ad had j u hu => by
      have hj : j < p := by
        rcases Nat.lt_or_ge j p with h' | h'
        · exact h'
        · rw [List.getElem?_eq_none (by rw [topsOf_len]; exact h')] at hu; cases hu
      have h1 := HP1.out ad (by omega) had j u hu
      exact (HB3.out.cell (World.block_lt_of_cell? _ _ h1)).trans h1
    have hlow3 := HB3.out.size
    clear hnil hgrow1
    go_wp2_with (at_builtin; refine wpList_append_opt _ rfl _ _ 22 rfl w2.heap.size 34 i0 (.slice none 0 0) 24 Try.underlying22 hi0 hz0 hz1 hz2 rfl _ _ _ rfl hown1 A2 p C2 (topsOf p Ap (fun _ => m) Cp) rfl HN2.out (topsOf_len _ _ _ _) HNW.out topsOf_one (by unfold maxLen; omega) (by omega) hlow3 ?_)
    intro v2 w4 hown2 hgrow2
    have HB4 : Hid (Below w2.heap.size w2 w4) := Lib.hid (HB3.out.grown hgrow2 hlow3 (fun x hx => (hown1.lt x hx).1))
    rw [topsOf_append] at hown2
    obtain ⟨N, hN⟩ : ∃ N, N = n + p := ⟨_, rfl⟩
    rw [← hN] at hown2
    have hNle : N ≤ n + p := by omega
    have hNge : n + p ≤ N := by omega
    have HNN := Lib.hid hN
    clear hN
    obtain ⟨bh, cap, rfl, hbh, hcap, hrow⟩ := RowV.of_owns hown2 (by omega)
    have HTop : Hid (∃ A L C, TopR w4 bh N A L C (encD n p M) ∧ (∀ x, x < N → L x = 0 ∨ L x = m) ∧ 0 + plsN (there L) N = N) := by
      refine Lib.hid ⟨fun i => if i < n then As i else Ap (i - n), fun _ => m, fun i => if i < n then Cs i else Cp (i - n), ⟨hrow.congr fun i hi => ?_, fun i hi => ?_⟩, fun _ _ => .inr rfl, ?_⟩
      · rw [List.getD_eq_getElem?_getD, topsOf_get hi, Option.getD_some]
        congr 1
        split <;> rfl
      · by_cases e : i < n
        · simp only [e, if_true]
          refine (((HS2.out i e).ne hbh).old HB4.out).congr fun c _ => ?_
          unfold encD; rw [if_pos e]
        · simp only [e, if_false]
          refine (((HP2.out (i - n) (by omega)).ne hbh).old HB4.out).congr fun c _ => ?_
          unfold encD; rw [if_neg e]
      · rw [Nat.zero_add, plsN_cnt]
        have h1 := cnt_not (there fun _ => m) N
        rw [show (fun x => !there (fun _ => m) x) = fun _ => false by funext x; unfold there; simp [hm1]] at h1
        have h2 : ∀ k, cnt (fun _ => false) k = 0 := fun k => by
          induction k with
          | zero => rfl
          | succ k ih => simp [cnt, ih]
        rw [h2 N] at h1
        omega
    have HT4 := Lib.hid (HT2.out.trans (HB4.out.mono HT2.out.size))
    have hwb : w.heap.size ≤ bh := Nat.le_trans HT2.out.size hbh
    clear hown1 hown2 hgrow2 hrow HB3 HNW HB4 HS1 HS2 HP1 HP2 HR2 HN2 H2 HT2 hlow3
    go_wp2
    clear y1 y2 y3 y4 y5 y6 yp hi0 hz0 hz1 hz2
    go_loopw [12, 11] (fun vi vq wr => ∃ i q : Nat, i ≤ g ∧ q ≤ N ∧ vi = .int .i64 (i : Int) ∧ vq = .int .i64 (q : Int) ∧ Hid (∃ A L C, TopR wr bh N A L C (encD n p M) ∧ (∀ x, x < N → L x = 0 ∨ L x = m) ∧ q + plsN (there L) N = N) ∧ Hid (Below w.heap.size w wr)) (fun vi _ _ => g - (intOf vi).toNat)
    case atStart => exact ⟨0, 0, by omega, by omega, rfl, rfl, HTop, HT4⟩
    case round =>
      obtain ⟨i, q, hi, hq, rfl, rfl, HO, HB⟩ := hrel
      obtain ⟨Ax, Lx, Cx, hT, hL1, hL2⟩ := HO.out
      have HT5 := Lib.hid hT
      have HL1 := Lib.hid hL1
      have HL2 := Lib.hid hL2
      clear hT hL1 hL2 HO HTop HT4
      by_cases hlt : i < g
      · obtain ⟨bg, offg, rfl, d0⟩ := (H0'.out.old HB.out).at hlt
        obtain ⟨hy, hy2⟩ := low_eq z i
        have hmod := (Int.natCast_emod (low z i) N).symm
        have hkN : low z i % N < N := Nat.mod_lt _ (by omega)
        have hN0 : ((N : Int) == 0) = false := beq_eq_false_iff_ne.2 (by omega)
        have hN1 : (0 : Int) < (N : Int) := by omega
        obtain ⟨k, hk⟩ : ∃ k, k = low z i % N := ⟨_, rfl⟩
        rw [← hk] at hmod hkN
        clear hk
        have hct := HT5.out.top.cell hkN
        have hft := HT5.out.top.frozen k
        have HP := Lib.hid (HT5.out.lay k (a := none) (l := 0) (c := 0) (Rd.empty _ _ _ _))
        have HB2 := Lib.hid (HB.out.setCell (p := ⟨bh, k, none⟩) hwb (.slice none 0 0))
        have HL3 : Hid (∀ x, x < N → (if x = k then 0 else Lx x) = 0 ∨ (if x = k then 0 else Lx x) = m) := Lib.hid fun x hx => by
          by_cases e : x = k
          · exact .inl (if_pos e)
          · rw [if_neg e]; exact HL1.out x hx
        by_cases hz : 0 < Lx k
        · have y1 : decide ((0 : Int) < (Lx k : Int)) = true := decide_eq_true (by omega)
          have HC : Hid (q + 1 + plsN (there fun x => if x = k then 0 else Lx x) N = N ∧ q + 1 ≤ N) := by
            have h1 := cnt_unset (had := there Lx) hkN (there_true.2 hz)
            have h2 : cnt (there fun x => if x = k then 0 else Lx x) N = cnt (fun x => if x = k then false else there Lx x) N := cnt_congr fun x _ => by
              unfold there
              by_cases e : x = k <;> simp [e]
            have h3 := HL2.out
            rw [plsN_cnt] at h3 ⊢
            exact Lib.hid ⟨by omega, by omega⟩
          go_wp2
          go_roundw
          case rel => exact ⟨i + 1, q + 1, by omega, HC.out.2, by go_num, by go_num, Lib.hid ⟨_, _, _, HP.out, HL3.out, HC.out.1⟩, HB2⟩
          case measure => simp [intOf]; omega
        · have y1 : decide ((0 : Int) < (Lx k : Int)) = false := decide_eq_false (by omega)
          have HC : Hid (q + plsN (there fun x => if x = k then 0 else Lx x) N = N) := by
            have h2 : pls (there fun x => if x = k then 0 else Lx x) N = pls (there Lx) N := pls_congr fun x _ => by
              unfold there
              by_cases e : x = k
              · rw [e]; simp; omega
              · simp [e]
            have h3 := HL2.out
            unfold plsN at h3 ⊢
            rw [h2]; exact Lib.hid h3
          go_wp2
          go_roundw
          case rel => exact ⟨i + 1, q, by omega, hq, by go_num, rfl, Lib.hid ⟨_, _, _, HP.out, HL3.out, HC.out⟩, HB2⟩
          case measure => simp [intOf]; omega
      · have HLB : Hid (∀ x, x < N → Lx x ≤ 1000000) := Lib.hid fun x hx => by rcases HL1.out x hx with h | h <;> omega
        have HM := Lib.hid HT5.out.rdM
        obtain ⟨w5, rfl⟩ : ∃ x, x = wr := ⟨wr, rfl⟩
        have HH := Lib.hid (H0.out.old HB.out)
        have hq2 := HL2.out
        obtain ⟨kk, hkk⟩ : ∃ kk, kk = plsN (there Lx) N := ⟨_, rfl⟩
        rw [← hkk] at hq2
        go_wp2_with fail
        refine (decode_in _ N cap Lx (encD n p M) _ n _ hn0 (by omega) (by omega) HLB.out HM.out).mono ?_
        intro e w6 hres
        have hres2 := DecAny.tells (d := n) (p := p) (m := m) (D := M) hn0 (by omega) (fun x hx => HL1.out x (by omega)) (fun x hx h0 c hc => rfl) (by rw [← HNN.out]; exact hres)
        rw [← HNN.out, ← hkk] at hres2
        clear hres hkk HM HT5 HLB
        by_cases hk0 : kk = 0
        · rw [if_pos hk0] at hres2
          obtain ⟨A6, C6, rfl, _, hB6⟩ := hres2
          have HT6 := Lib.hid (HB.out.trans (hB6.mono HB.out.size))
          have y1 : ((q : Int) == (N : Int)) = true := by rw [show q = N by omega]; simp
          clear hB6
          go_wp2_with (first
            | (go_at_call 13; refine (num3_any _ _).mono ?_; rintro e w' ⟨rfl, rfl⟩))
          go_ret
          exact ⟨rfl, HT6.out⟩
        · rw [if_neg hk0] at hres2
          have y1 : ((q : Int) == (N : Int)) = false := beq_eq_false_iff_ne.2 (by omega)
          by_cases hkn : kk < n
          · rw [if_pos hkn] at hres2
            obtain ⟨A6, C6, rfl, _, hB6⟩ := hres2
            have HT6 := Lib.hid (HB.out.trans (hB6.mono HB.out.size))
            have y2 : decide ((p : Int) < (q : Int)) = true := decide_eq_true (by omega)
            have y3 : decide (p < q) = true := decide_eq_true (by omega)
            clear hB6
            go_wp2_with (first
              | (go_at_call 13; refine (num3_any _ _).mono ?_; rintro e w' ⟨rfl, rfl⟩))
            go_ret
            exact ⟨rfl, HT6.out⟩
          · rw [if_neg hkn] at hres2
            obtain ⟨A6, C6, rfl, hr6, hB6⟩ := hres2
            have HT6 := Lib.hid (HB.out.trans (hB6.mono HB.out.size))
            have HR6 := Lib.hid hr6
            have HH6 := Lib.hid ((HH.out.old hB6).congr (L' := fun _ => m) (M' := M) HAL.out (fun _ _ _ _ => rfl))
            have y2 : decide ((p : Int) < (q : Int)) = false := decide_eq_false (by omega)
            have y3 : decide (p < q) = false := decide_eq_false (by omega)
            clear hB6 hr6
            go_wp2_with (first
              | (go_at_call 13; refine (num3_any _ _).mono ?_; rintro e w' ⟨rfl, rfl⟩))
            go_wp2_with fail
            refine (sameRows_any _ _ _ _ _ _ _ _ _ _ _ (by unfold maxLen; omega) HR6.out HH6.out (fun _ _ _ _ => rfl)).mono ?_
            rintro e w7 ⟨rfl, hB7⟩
            have HT7 := Lib.hid (HT6.out.trans (hB7.mono HT6.out.size))
            clear hB7
            go_wp2
            go_ret
            exact ⟨rfl, HT7.out⟩
set_option maxRecDepth 100000 in
set_option maxHeartbeats 8000000 in
theorem erasureBack_walk (A : Option Addr) (n C : Nat) (L : Nat → Nat) (M : Mat) (p : Int) (Ag : Option Addr) (g Cg : Nat) (z : Nat → Int) (G : Nat → Prop) (w : World)
    (hn : n ≤ maxLen) (hg : g ≤ maxLen) (hp : -9223372036854775808 ≤ p ∧ p ≤ 9223372036854775807) (hL : ∀ i, i < n → L i ≤ 140737488351232) (h : RdM w A n L M G) (h' : RdI w Ag g z) :
    Calls Try.prog 4 #[.slice A n C, .int .i64 p, .slice Ag g Cg] w fun e w' => e = .returned (.bool true) ∧ Below w.heap.size w w' := by
  obtain ⟨hp1, hp2⟩ := hp
  have HN := Lib.hid hn
  unfold maxLen at hn hg
  have H0 := Lib.hid h
  have H0' := Lib.hid h'
  have HL := Lib.hid hL
  clear h h' hL
  by_cases c0 : n < 1
  · have y0 : decide ((n : Int) < 1) = true := decide_eq_true (by omega)
    go_enter Try.func4, Try.ntmps4
    go_wp2_with fail
    refine (alive3_true _).mono ?_
    rintro e w1 ⟨rfl, hB⟩
    have H1 := Lib.hid (H0.out.old hB)
    have HB := Lib.hid hB
    clear hB H0
    go_wp2_with fail
    refine (few_sized _ _ _ _ _ _ _ HN.out HL.out H1.out).mono ?_
    rintro e w' ⟨b1, rfl, rfl, _⟩
    cases b1
    · go_wp2
      go_ret
      exact ⟨rfl, HB.out⟩
    go_wp2
    go_ret
    exact ⟨rfl, HB.out⟩
  have y0 : decide ((n : Int) < 1) = false := decide_eq_false (by omega)
  by_cases c1 : 20 < n
  · have y1 : decide ((20 : Int) < (n : Int)) = true := decide_eq_true (by omega)
    go_enter Try.func4, Try.ntmps4
    go_wp2_with fail
    refine (alive3_true _).mono ?_
    rintro e w1 ⟨rfl, hB⟩
    have H1 := Lib.hid (H0.out.old hB)
    have HB := Lib.hid hB
    clear hB H0
    go_wp2_with fail
    refine (few_sized _ _ _ _ _ _ _ HN.out HL.out H1.out).mono ?_
    rintro e w' ⟨b1, rfl, rfl, _⟩
    cases b1
    · go_wp2
      go_ret
      exact ⟨rfl, HB.out⟩
    go_wp2
    go_ret
    exact ⟨rfl, HB.out⟩
  have y1 : decide ((20 : Int) < (n : Int)) = false := decide_eq_false (by omega)
  by_cases c2 : p < 0
  · have y2 : decide (p < 0) = true := decide_eq_true (by omega)
    go_enter Try.func4, Try.ntmps4
    go_wp2_with fail
    refine (alive3_true _).mono ?_
    rintro e w1 ⟨rfl, hB⟩
    have H1 := Lib.hid (H0.out.old hB)
    have HB := Lib.hid hB
    clear hB H0
    go_wp2_with fail
    refine (few_sized _ _ _ _ _ _ _ HN.out HL.out H1.out).mono ?_
    rintro e w' ⟨b1, rfl, rfl, _⟩
    cases b1
    · go_wp2
      go_ret
      exact ⟨rfl, HB.out⟩
    go_wp2
    go_ret
    exact ⟨rfl, HB.out⟩
  have y2 : decide (p < 0) = false := decide_eq_false (by omega)
  by_cases c3 : 12 < p
  · have y3 : decide (12 < p) = true := decide_eq_true (by omega)
    go_enter Try.func4, Try.ntmps4
    go_wp2_with fail
    refine (alive3_true _).mono ?_
    rintro e w1 ⟨rfl, hB⟩
    have H1 := Lib.hid (H0.out.old hB)
    have HB := Lib.hid hB
    clear hB H0
    go_wp2_with fail
    refine (few_sized _ _ _ _ _ _ _ HN.out HL.out H1.out).mono ?_
    rintro e w' ⟨b1, rfl, rfl, _⟩
    cases b1
    · go_wp2
      go_ret
      exact ⟨rfl, HB.out⟩
    go_wp2
    go_ret
    exact ⟨rfl, HB.out⟩
  have y3 : decide (12 < p) = false := decide_eq_false (by omega)
  by_cases c4 : 40 < g
  · have y4 : decide ((40 : Int) < (g : Int)) = true := decide_eq_true (by omega)
    go_enter Try.func4, Try.ntmps4
    go_wp2_with fail
    refine (alive3_true _).mono ?_
    rintro e w1 ⟨rfl, hB⟩
    have H1 := Lib.hid (H0.out.old hB)
    have HB := Lib.hid hB
    clear hB H0
    go_wp2_with fail
    refine (few_sized _ _ _ _ _ _ _ HN.out HL.out H1.out).mono ?_
    rintro e w' ⟨b1, rfl, rfl, _⟩
    cases b1
    · go_wp2
      go_ret
      exact ⟨rfl, HB.out⟩
    go_wp2
    go_ret
    exact ⟨rfl, HB.out⟩
  have y4 : decide ((40 : Int) < (g : Int)) = false := decide_eq_false (by omega)
  by_cases c5 : L 0 = 0
  · have y5 : ((L 0 : Int) == 0) = true := by rw [c5]; rfl
    go_enter Try.func4, Try.ntmps4
    go_wp2_with fail
    refine (alive3_true _).mono ?_
    rintro e w1 ⟨rfl, hB⟩
    have H1 := Lib.hid (H0.out.old hB)
    have HB := Lib.hid hB
    clear hB H0
    go_wp2_with fail
    refine (few_sized _ _ _ _ _ _ _ HN.out HL.out H1.out).mono ?_
    rintro e w' ⟨b1, rfl, rfl, _⟩
    cases b1
    · go_wp2
      go_ret
      exact ⟨rfl, HB.out⟩
    obtain ⟨b0, off0, A0, C0, rfl, _, hc0, _⟩ := H1.out.row (i := 0) (by omega)
    rw [Nat.add_zero] at hc0
    go_wp2
    go_ret
    exact ⟨rfl, HB.out⟩
  obtain ⟨k, rfl⟩ : ∃ k : Nat, p = (k : Int) := ⟨p.toNat, by omega⟩
  exact erasureBack_main A n C L M k Ag g Cg z G w (by omega) (by omega) (by omega) (by omega) (by omega) HL.out H0.out H0'.out
end Go.Proofs.Ytelkeoopfejgnaa
