/- What the document's own Decode answers, whatever it is given. -/
import Derived.Test.YtelkeoopfejgnaaRefFe
import Derived.Test.YtelkeoopfejgnaaRefCau
import Derived.Test.YtelkeoopfejgnaaRefInv
import Derived.Test.YtelkeoopfejgnaaErTopA
namespace Go.Proofs.Ytelkeoopfejgnaa
open Go.RowKit Mx

/-- a Cauchy, or none where there is no parity -/
theorem refCauchy_some (d p : Nat) (w : World) (hd0 : 0 < d) (hdp : d + p ≤ 255) :
    Calls Try.prog 17 #[.int .i64 (d : Int), .int .i64 (p : Int)] w fun e w' => ∃ (A : Option Addr) (C : Nat) (code : Int), e = .returned (.tuple #[.slice A p C, .int .i64 code]) ∧ RdM w' A p (fun _ => d) (cau p) (· < w'.heap.size) ∧ Below w.heap.size w w' := by
  rcases Nat.eq_zero_or_pos p with h0 | h0
  · subst h0
    refine (refCauchy_bad (d : Int) ((0 : Nat) : Int) w (by omega) (by omega) (by omega) (by omega) (.inr (.inl (by omega)))).mono ?_
    rintro e w' ⟨A, C, rfl, _, hb⟩
    exact ⟨A, C, 1, rfl, RdM.empty _ _ _ _ _, hb⟩
  · refine (refCauchy_main d p w hd0 h0 hdp).mono ?_
    rintro e w' ⟨A, C, rfl, hr, hb⟩
    exact ⟨A, C, 0, rfl, hr, hb⟩
theorem DecAny.refuse {n : Nat} {L : Nat → Nat} {H : Mat} {d : Int} (hn : ¬ DecOk n L d) (w : World) {w' : World} (h : Below w.heap.size w w') : DecAny n L H d w (.returned (.tuple #[.slice none 0 0, .int .i64 1])) w' := by
  unfold DecAny; rw [if_neg hn]; exact ResM.bad w h
theorem there_true {L : Nat → Nat} {x : Nat} : there L x = true ↔ 0 < L x := decide_eq_true_iff
/-- two that are there of unlike lengths -/
theorem DecOk.alike {n : Nat} {L : Nat → Nat} {d : Int} (h : DecOk n L d) {x y : Nat} (hx : x < n) (hy : y < n) (h1 : 0 < L x) (h2 : 0 < L y) : L x = L y := by
  obtain ⟨i, hi, e⟩ := pls_all hx (there_true.2 h1)
  obtain ⟨j, hj, e'⟩ := pls_all hy (there_true.2 h2)
  have a1 := h.2.2.2.2 i hi
  have a2 := h.2.2.2.2 j hj
  rw [e] at a1
  rw [e'] at a2
  rw [a1, a2]
set_option maxRecDepth 100000 in
set_option maxHeartbeats 16000000 in
theorem refDecode_in (A : Option Addr) (n C : Nat) (L : Nat → Nat) (H0 : Mat) (G : Nat → Prop) (d : Nat) (w : World) (hd0 : 0 < d) (hdn : d ≤ n) (hn : n ≤ 255) (hL : ∀ i, i < n → L i ≤ 1000000) (h : RdM w A n L H0 G) :
    Calls Try.prog 11 #[.slice A n C, .int .i64 (d : Int)] w (DecAny n L H0 (d : Int) w) := by
  obtain ⟨b0, off0, A0, C0, rfl, _, _, _⟩ := h.row (i := 0) (by omega)
  have H := Lib.hid h
  have HL := Lib.hid hL
  clear h hL
  have q1 : decide ((d : Int) < 1) = false := decide_eq_false (by omega)
  have q2 : decide ((n : Int) < (d : Int)) = false := decide_eq_false (by omega)
  have q2' : decide (n < d) = false := decide_eq_false (by omega)
  have q3 : decide ((255 : Int) < (n : Int)) = false := decide_eq_false (by omega)
  go_enter Try.func11, Try.ntmps11
  go_wp2
  clear q1 q2 q2' q3
  go_loopw [8, 7, 6] (fun vi vs vo wr => ∃ i s : Nat, i ≤ n ∧ s ≤ 1000000 ∧ vi = .int .i64 (i : Int) ∧ vs = .int .i64 (s : Int) ∧ Hid (wr.ownsRow w.heap.size 3 1 vo (pls (there L) i).length (intsOf (pls (there L) i))) ∧ Hid (∀ x, x < i → 0 < L x → L x = s) ∧ Hid (0 < s → ∃ x, x < i ∧ L x = s) ∧ Hid (Below w.heap.size w wr)) (fun vi _ _ _ => n - (intOf vi).toNat)
  case atStart => exact ⟨0, 0, by omega, by omega, rfl, rfl, Lib.hid (World.ownsRow_nil _ _ _ _), Lib.hid (fun x hx => absurd hx (by omega)), Lib.hid (fun h => absurd h (by omega)), Lib.hid (Below.refl _ _)⟩
  case round =>
    obtain ⟨i, s, hi, hs, rfl, rfl, HO, HA, HS, HB⟩ := hrel
    by_cases hlt : i < n
    · obtain ⟨b', off', Ai, Ci, e, _, hck, _⟩ := (H.out.old HB.out).row hlt
      obtain ⟨rfl, rfl⟩ : b0 = b' ∧ off0 = off' := by simpa using e
      clear e
      have hLi := HL.out i hlt
      by_cases hz : L i = 0
      · have z1 : ((L i : Int) == 0) = true := by rw [hz]; rfl
        have HO3 := HO
        rw [← pls_no (P := there L) (n := i) (by unfold there; rw [hz]; rfl)] at HO3
        have HA3 : Hid (∀ x, x < i + 1 → 0 < L x → L x = s) := Lib.hid fun x hx h0 => HA.out x (by
          by_cases e : x = i
          · rw [e, hz] at h0; omega
          · omega) h0
        have HS3 : Hid (0 < s → ∃ x, x < i + 1 ∧ L x = s) := Lib.hid fun h => by
          obtain ⟨x, hx, e⟩ := HS.out h
          exact ⟨x, by omega, e⟩
        clear hz HO HA HS
        go_wp2
        go_roundw
        case rel => exact ⟨i + 1, s, by omega, hs, by go_num, rfl, HO3, HA3, HS3, HB⟩
        case measure => simp [intOf]; omega
      · have z1 : ((L i : Int) == 0) = false := beq_eq_false_iff_ne.2 (by omega)
        have HN : Hid (pls (there L) (i + 1) = pls (there L) i ++ [i]) := Lib.hid (pls_yes (there_true.2 (by omega)))
        have hlen : (pls (there L) i).length ≤ i := plsN_le (there L) i
        obtain ⟨i0, hi0, hz0, hz1, hz2⟩ := info_parts infoInt
        have hlow : w.heap.size ≤ wr.heap.size := HB.out.size
        have HS3 : Hid (0 < L i → ∃ x, x < i + 1 ∧ L x = L i) := Lib.hid fun _ => ⟨i, by omega, rfl⟩
        by_cases hs0 : s = 0
        · have y1 : decide ((0 : Int) < (s : Int)) = false := decide_eq_false (by omega)
          have y2 : decide (0 < s) = false := decide_eq_false (by omega)
          have HA3 : Hid (∀ x, x < i + 1 → 0 < L x → L x = L i) := Lib.hid fun x hx h0 => by
            by_cases e : x = i
            · rw [e]
            · have := HA.out x (by omega) h0; omega
          clear HA HS
          have hown := HO.out
          go_wp2_with (at_builtin; refine wpList_append_own _ rfl _ _ 33 rfl w.heap.size 3 i0 (.int .i64 0) 1 8 Try.underlying33 hi0 hz0 hz1 hz2 rfl (by decide) _ _ _ rfl (hown.alloc _) ⟨wr.heap.size, 0, none⟩ 1 1 [.int .i64 (i : Int)] rfl rfl (oneCell _ _ _) (oneInt _) (by unfold maxLen; omega) (by omega) (by simp; omega) ?_)
          intro v' w3 hown' hgrow _
          have HO3 : Hid (w3.ownsRow w.heap.size 3 1 v' (pls (there L) (i + 1)).length (intsOf (pls (there L) (i + 1)))) := by
            rw [HN.out, List.length_append]
            unfold intsOf
            rw [List.map_append]
            exact Lib.hid hown'
          have HB3 := Lib.hid ((HB.out.alloc hlow _).grown hgrow (by simp; omega) (fun x hx => (HO.out.lt x hx).1))
          clear hown' hgrow hown
          go_wp2
          go_roundw
          case rel => exact ⟨i + 1, L i, by omega, hLi, by go_num, rfl, HO3, HA3, HS3, HB3⟩
          case measure => simp [intOf]; omega
        · have y1 : decide ((0 : Int) < (s : Int)) = true := decide_eq_true (by omega)
          have y2 : decide (0 < s) = true := decide_eq_true (by omega)
          by_cases he : L i = s
          · have y3 : ((L i : Int) != (s : Int)) = false := by rw [he]; simp
            have HA3 : Hid (∀ x, x < i + 1 → 0 < L x → L x = L i) := Lib.hid fun x hx h0 => by
              by_cases e : x = i
              · rw [e]
              · rw [he]; exact HA.out x (by omega) h0
            clear HA HS he
            have hown := HO.out
            go_wp2_with (at_builtin; refine wpList_append_own _ rfl _ _ 33 rfl w.heap.size 3 i0 (.int .i64 0) 1 8 Try.underlying33 hi0 hz0 hz1 hz2 rfl (by decide) _ _ _ rfl (hown.alloc _) ⟨wr.heap.size, 0, none⟩ 1 1 [.int .i64 (i : Int)] rfl rfl (oneCell _ _ _) (oneInt _) (by unfold maxLen; omega) (by omega) (by simp; omega) ?_)
            intro v' w3 hown' hgrow _
            have HO3 : Hid (w3.ownsRow w.heap.size 3 1 v' (pls (there L) (i + 1)).length (intsOf (pls (there L) (i + 1)))) := by
              rw [HN.out, List.length_append]
              unfold intsOf
              rw [List.map_append]
              exact Lib.hid hown'
            have HB3 := Lib.hid ((HB.out.alloc hlow _).grown hgrow (by simp; omega) (fun x hx => (HO.out.lt x hx).1))
            clear hown' hgrow hown
            go_wp2
            go_roundw
            case rel => exact ⟨i + 1, L i, by omega, hLi, by go_num, rfl, HO3, HA3, HS3, HB3⟩
            case measure => simp [intOf]; omega
          · have y3 : ((L i : Int) != (s : Int)) = true := by rw [bne_iff_ne]; omega
            have HF : Hid (¬ DecOk n L (d : Int)) := Lib.hid fun hh => by
              obtain ⟨x, hx, e⟩ := HS.out (by omega)
              have := hh.alike hlt (y := x) (by omega) (by omega) (by omega)
              omega
            clear he
            go_wp2
            go_ret2
            exact DecAny.refuse HF.out w HB.out
    · have hin : i = n := by omega
      have hO := HO.out
      rw [hin] at hO
      obtain ⟨Ao, Co, rfl, hCo, hlo, hro⟩ := RdI.of_owns hO
      have HAL : Hid (∀ x, x < n → 0 < L x → L x = s) := Lib.hid fun x hx h0 => HA.out x (by omega) h0
      have HI1 := Lib.hid hro
      have HKD : Hid (plsN (there L) n = (pls (there L) n).length) := Lib.hid rfl
      have HIN : Hid (∀ j, j < (pls (there L) n).length → plsAt (there L) n j < n ∧ there L (plsAt (there L) n j) = true) := Lib.hid fun j hj => plsAt_in hj
      have HUP : Hid (∀ a t, a < t → t < (pls (there L) n).length → plsAt (there L) n a < plsAt (there L) n t) := Lib.hid fun a t h h' => plsAt_up h h'
      obtain ⟨w1, rfl⟩ : ∃ x, x = wr := ⟨wr, rfl⟩
      have HDA : Hid (∀ e w', 0 < (pls (there L) n).length → (if (pls (there L) n).length < d then ResM 10 0 0 one w e w' else ResM 0 d s (dec d (n - d) (plsAt (there L) n) (fun t => H0 (plsAt (there L) n t))) w e w') → DecAny n L H0 (d : Int) w e w') := Lib.hid fun e w' h0 hh => by
        have h1 : ∀ j, j < plsN (there L) n → L (plsAt (there L) n j) = s := fun j hj => HAL.out _ (HIN.out j hj).1 (there_true.1 (HIN.out j hj).2)
        unfold DecAny
        rw [if_pos ⟨by omega, by omega, hn, h0, fun j hj => by rw [h1 j hj, h1 0 h0]⟩, h1 0 h0]
        exact hh
      have HD0 : Hid ((pls (there L) n).length = 0 → ¬ DecOk n L (d : Int)) := Lib.hid fun h hh => by
        have := hh.2.2.2.1
        unfold plsN at this; omega
      have HS0 : Hid (0 < (pls (there L) n).length → 0 < s) := Lib.hid fun h => by
        have h1 := HIN.out 0 h
        have h2 := there_true.1 h1.2
        have h3 := HAL.out _ h1.1 h2
        omega
      have HAT : Hid (∀ j, j < (pls (there L) n).length → L (plsAt (there L) n j) = s) := Lib.hid fun j hj => HAL.out _ (HIN.out j hj).1 (there_true.1 (HIN.out j hj).2)
      have hlenn : (pls (there L) n).length ≤ n := plsN_le (there L) n
      obtain ⟨k, hk⟩ : ∃ k, k = (pls (there L) n).length := ⟨_, rfl⟩
      obtain ⟨at_, hat⟩ : ∃ f, f = plsAt (there L) n := ⟨_, rfl⟩
      have HI2 : Hid (RdI w1 Ao k (fun j => (at_ j : Int))) := by rw [hk, hat]; exact HI1
      rw [← hk] at HIN HUP HDA HD0 HS0 HAT hlenn hCo ⊢
      rw [← hat] at HIN HUP HDA HAT
      clear hk hat HI1 hro hO HO HA HS HKD hlo hin HAL
      by_cases hk0 : k = 0
      · have HF := Lib.hid (HD0.out hk0)
        have q1 : ((k : Int) == 0) = true := by rw [hk0]; rfl
        go_wp2
        go_ret2
        exact DecAny.refuse HF.out w HB.out
      · have q1 : ((k : Int) == 0) = false := beq_eq_false_iff_ne.2 (by omega)
        by_cases hkd : k < d
        · have HF : Hid (∀ e w', ResM 10 0 0 one w e w' → DecAny n L H0 (d : Int) w e w') := Lib.hid fun e w' hh => HDA.out e w' (by omega) (by rw [if_pos hkd]; exact hh)
          go_wp2
          go_ret2
          exact HF.out _ _ ⟨none, 0, rfl, RdM.empty _ _ _ _ _, HB.out⟩
        · have HF : Hid (∀ e w', ResM 0 d s (dec d (n - d) at_ (fun t => H0 (at_ t))) w e w' → DecAny n L H0 (d : Int) w e w') := Lib.hid fun e w' hh => HDA.out e w' (by omega) (by rw [if_neg hkd]; exact hh)
          have hs1 : 0 < s := HS0.out (by omega)
          have q2 : decide (k < d) = false := decide_eq_false hkd
          have q3 : decide ((k : Int) < (d : Int)) = false := decide_eq_false (by omega)
          have hsub : (n : Int) - (d : Int) = ((n - d : Nat) : Int) := by omega
          have hltp : ∀ t, t < d → at_ t < d + (n - d) := fun t ht => by have := (HIN.out t (by omega)).1; omega
          obtain ⟨R, V, hg⟩ := encM_some (d := d) (p := n - d) (at_ := at_) (by omega) (fun a t h h' => HUP.out a t h (by omega)) hltp
          have HG := Lib.hid hg
          have HPP : Hid (∀ e w', ResM 0 d s (fun x c => sm d fun t => V x t * H0 (at_ t) c) w e w' → DecAny n L H0 (d : Int) w e w') := Lib.hid fun e w' hh => HF.out e w' (by
            have : dec d (n - d) at_ (fun t => H0 (at_ t)) = fun x c => sm d fun t => V x t * H0 (at_ t) c := by
              unfold dec; rw [invOf_some hg]; rfl
            rw [this]; exact hh)
          have HLP := Lib.hid hltp
          clear HF HDA HD0 HS0 hg hltp HUP
          obtain ⟨p, hp⟩ : ∃ p, p = n - d := ⟨_, rfl⟩
          have hdp : d + p ≤ 255 := by omega
          rw [← hp] at hsub HG HLP
          clear hp
          have hwp : IntKind.i64.wrap (p : Int) = (p : Int) := IntWalk.i64_in _ (by omega)
          go_wp2_with fail
          refine (refCauchy_some d p _ hd0 hdp).mono ?_
          rintro e w2 ⟨Ac, Cc, code, rfl, hrc, hB2⟩
          have HRC := Lib.hid hrc
          have HB2 := Lib.hid (HB.out.trans (hB2.mono HB.out.size))
          have HI3 := Lib.hid (HI2.out.old hB2)
          have H2 := Lib.hid ((H.out.old HB2.out).in_)
          clear hrc hB2 HB HI2 H
          have HMD := Lib.hid (run_make_row' (P := Try.prog) 34 5 (.int .u8 0) 1 Try.underlying34 infoByte rfl .i64 .i64 d (by omega) (by omega))
          have HMS := Lib.hid (run_make_row' (P := Try.prog) 34 5 (.int .u8 0) 1 Try.underlying34 infoByte rfl .i64 .i64 s (by omega) (by omega))
          obtain ⟨bo, offo, rfl, _⟩ := HI3.out.at (j := 0) (by omega)
          go_wp2
          clear hsub hwp q1 q2 q3
          go_loopw [12, 9] (fun vi vm wr => ∃ i : Nat, i ≤ d ∧ vi = .int .i64 (i : Int) ∧ Hid (∃ A C, TopA wr w2.heap.size vm i A (fun _ => d) C (encM d p at_)) ∧ Hid (Below w2.heap.size w2 wr)) (fun vi _ _ => d - (intOf vi).toNat)
          case atStart => exact ⟨0, by omega, rfl, Lib.hid ⟨fun _ => none, fun _ => 0, TopA.start _ _ _ _ _ _⟩, Lib.hid (Below.refl _ _)⟩
          case round =>
            obtain ⟨i, hi, rfl, HO, HB⟩ := hrel
            obtain ⟨Ax, Cx, hO⟩ := HO.out
            have HO' := Lib.hid hO
            clear hO HO
            by_cases hlti : i < d
            · obtain ⟨b3, off3, e, d1⟩ := (HI3.out.old HB.out).at (j := i) (by omega)
              obtain ⟨rfl, rfl⟩ : bo = b3 ∧ offo = off3 := by simpa using e
              have hq2 := HLP.out i hlti
              have HEI : Hid (encM d p at_ i = enc d (cau p) (at_ i)) := Lib.hid rfl
              obtain ⟨q, hq⟩ : ∃ q, q = at_ i := ⟨_, rfl⟩
              rw [← hq] at d1 hq2 HEI
              clear hq e
              obtain ⟨i0, hi0, hz0, hz1, hz2⟩ := info_parts infoRow
              have hlow : w2.heap.size ≤ wr.heap.size := HB.out.size
              by_cases hp : q < d
              · have hal : Below wr.heap.size wr (wr.alloc (.cells (madeCells #[.int .u8 0] d) 5)) := (Below.refl _ _).alloc (Nat.le_refl _) _
                have hzr := RowAt.made wr d
                have hc3 := hzr.cell hp
                have hf3 := hzr.frozen q
                have d2 := (hal.cell (World.block_lt_of_cell? _ _ d1)).trans d1
                have hU := hzr.set q 1
                rw [World.setCell_alloc_at _ _ _ _ _ rfl] at hU
                have HU : Hid (RowAt (wr.alloc (.cells ((madeCells #[.int .u8 0] d).setIfInBounds q (.int .u8 1)) 5)) wr.heap.size d (encM d p at_ i)) := Lib.hid (hU.congr fun c hc => by
                  rw [HEI.out]
                  show _ = (if q < d then one q c else cau p (q - d) c)
                  rw [if_pos hp]
                  unfold one
                  by_cases e2 : c = q
                  · rw [if_pos e2, if_pos e2.symm]
                  · rw [if_neg e2, if_neg (fun h => e2 h.symm)])
                have hal2 : Below wr.heap.size wr (wr.alloc (.cells ((madeCells #[.int .u8 0] d).setIfInBounds q (.int .u8 1)) 5)) := (Below.refl _ _).alloc (Nat.le_refl _) _
                have HAX := Lib.hid (HO'.out.old hal2)
                have hown := HAX.out.top
                have HBX := Lib.hid (HB.out.trans (hal2.mono HB.out.size))
                have hmk := HMD.out
                clear hal hzr hU hal2
                go_wp2_with (at_builtin; refine wpList_append_own _ rfl _ _ 22 rfl w2.heap.size 34 i0 (.slice none 0 0) 1 24 Try.underlying22 hi0 hz0 hz1 hz2 rfl (by decide) _ _ _ rfl (hown.alloc _) ⟨wr.heap.size + 1, 0, none⟩ 1 1 [.slice (some ⟨wr.heap.size, 0, none⟩) d d] rfl rfl (oneCellAt _ _ _ _ (by simp)) (oneSlice _ _ _) (by unfold maxLen; omega) (by omega) (by simp; omega) ?_)
                intro v' w3 hown' hgrow _
                have HP := Lib.hid (HAX.out.push hgrow hown' (.inr ⟨wr.heap.size, rfl, HU.out⟩))
                have HB3 := Lib.hid ((HBX.out.alloc HBX.out.size _).grown hgrow (by simp; omega) (fun x hx => (HAX.out.top.lt x hx).1))
                clear hown' hgrow hown hmk hc3 hf3 d2
                go_wp2
                go_roundw
                case rel => exact ⟨i + 1, by omega, by go_num, Lib.hid ⟨_, _, (HP.out.congr (M' := encM d p at_) fun r _ c _ => by by_cases e : r = i <;> simp [e]).lens fun r _ => by by_cases e : r = i <;> simp [e]⟩, HB3⟩
                case measure => simp [intOf]; omega
              · obtain ⟨b4, off4, A4, C4, rfl, _, d3, hr3⟩ := HRC.out.row (i := q - d) (by omega)
                have d4 := (HB.out.cell (World.block_lt_of_cell? _ _ d3)).trans d3
                have HRR : Hid (Rd wr A4 d (encM d p at_ i) (· < w2.heap.size)) := Lib.hid ((hr3.below HB.out).congr fun c hc => by
                  rw [HEI.out]
                  show _ = (if q < d then one q c else cau p (q - d) c)
                  rw [if_neg hp])
                have hsub2 : (q : Int) - (d : Int) = ((q - d : Nat) : Int) := by omega
                have hw2 : IntKind.i64.wrap ((q - d : Nat) : Int) = ((q - d : Nat) : Int) := IntWalk.i64_in _ (by omega)
                have y1 : decide (q < d) = false := decide_eq_false hp
                have y2 : decide ((q : Int) < (d : Int)) = false := decide_eq_false (by omega)
                have hown := HO'.out.top
                clear hr3 d3
                go_wp2_with (at_builtin; refine wpList_append_own _ rfl _ _ 22 rfl w2.heap.size 34 i0 (.slice none 0 0) 1 24 Try.underlying22 hi0 hz0 hz1 hz2 rfl (by decide) _ _ _ rfl (hown.alloc _) ⟨wr.heap.size, 0, none⟩ 1 1 [.slice A4 d C4] rfl rfl (oneCell _ _ _) (oneSlice _ _ _) (by unfold maxLen; omega) (by omega) (by simp; omega) ?_)
                intro v' w3 hown' hgrow _
                have HP := Lib.hid (HO'.out.push hgrow hown' (.inl HRR.out))
                have HB3 := Lib.hid ((HB.out.alloc HB.out.size _).grown hgrow (by simp; omega) (fun x hx => (HO'.out.top.lt x hx).1))
                clear hown' hgrow hown hsub2 hw2 y1 y2 d4
                go_wp2
                go_roundw
                case rel => exact ⟨i + 1, by omega, by go_num, Lib.hid ⟨_, _, (HP.out.congr (M' := encM d p at_) fun r _ c _ => by by_cases e : r = i <;> simp [e]).lens fun r _ => by by_cases e : r = i <;> simp [e]⟩, HB3⟩
                case measure => simp [intOf]; omega
            · have hid : i = d := by omega
              obtain ⟨bm, cm, rfl, _, _, hM⟩ := HO'.out.rdM (by omega)
              rw [hid] at hM
              have HM := Lib.hid hM
              obtain ⟨w4, rfl⟩ : ∃ x, x = wr := ⟨wr, rfl⟩
              have HB4 := Lib.hid (HB2.out.trans (HB.out.mono HB2.out.size))
              have HI4 := Lib.hid (HI3.out.old HB.out)
              have H4 := Lib.hid (H2.out.old HB.out)
              clear hM HO' HB HB2 HI3 H2 HRC
              subst hid
              go_wp2_with fail
              refine (refInverse_main _ i cm (encM i p at_) _ _ hd0 (by omega) HM.out).mono ?_
              intro e w5 hres
              unfold InvRes at hres
              rw [HG.out] at hres
              obtain ⟨Av, Cv, rfl, hrv, hB5⟩ := hres
              obtain ⟨bv, offv, _, _, rfl, _, _, _⟩ := hrv.row (i := 0) (by omega)
              have HRV := Lib.hid hrv
              have HB5 := Lib.hid (HB4.out.trans (hB5.mono HB4.out.size))
              have HI5 := Lib.hid (HI4.out.old hB5)
              have H5 := Lib.hid ((H4.out.old hB5).in_)
              clear hrv hB5 HB4 HI4 H4 HM
              obtain ⟨X, hX⟩ : ∃ X : Mat, X = fun x c => sm i fun t => V x t * H0 (at_ t) c := ⟨_, rfl⟩
              have HX := Lib.hid hX
              rw [← hX] at HPP
              clear hX
              go_wp2
              go_loopw [17, 16] (fun vj vo wr => ∃ j : Nat, j ≤ i ∧ vj = .int .i64 (j : Int) ∧ Hid (∃ G C, OwnA wr w5.heap.size vo j s G C X) ∧ Hid (Below w5.heap.size w5 wr)) (fun vj _ _ => i - (intOf vj).toNat)
              case atStart => exact ⟨0, by omega, rfl, Lib.hid ⟨fun _ => 0, fun _ => 0, OwnA.start _ _ _ _ _ _⟩, Lib.hid (Below.refl _ _)⟩
              case round =>
                obtain ⟨j, hj, rfl, HO, HB⟩ := hrel
                obtain ⟨G1, Cp1, hO⟩ := HO.out
                have HO' := Lib.hid hO
                clear hO HO
                obtain ⟨wo, rfl⟩ : ∃ x, x = wr := ⟨wr, rfl⟩
                by_cases hltj : j < i
                · have hmk := HMS.out
                  go_wp2
                  clear hmk
                  go_loopw [19] (fun vc wq => ∃ c : Nat, c ≤ s ∧ vc = .int .i64 (c : Int) ∧ Hid (RowAt wq wo.heap.size s (part (X j) c 0)) ∧ Hid (Below wo.heap.size wo wq)) (fun vc _ => s - (intOf vc).toNat)
                  case atStart => exact ⟨0, by omega, rfl, Lib.hid ((RowAt.made wo s).congr fun j _ => by unfold part; rw [if_neg (by omega)]; split <;> rfl), Lib.hid ((Below.refl _ _).alloc (Nat.le_refl _) _)⟩
                  case round =>
                    obtain ⟨c, hc, rfl, HO2, HB2⟩ := hrel
                    by_cases hltc : c < s
                    · go_wp2
                      go_loopw [20] (fun vt wq => ∃ t : Nat, t ≤ i ∧ vt = .int .i64 (t : Int) ∧ Hid (RowAt wq wo.heap.size s (part (X j) c (sm t fun t => V j t * H0 (at_ t) c))) ∧ Hid (Below wo.heap.size wo wq)) (fun vt _ => i - (intOf vt).toNat)
                      case atStart => exact ⟨0, by omega, rfl, HO2, HB2⟩
                      case round =>
                        obtain ⟨t, ht, rfl, HO3, HB3⟩ := hrel
                        clear HO2 HB2
                        have HB6 := Lib.hid (HB.out.trans (HB3.out.mono HB.out.size))
                        by_cases hltt : t < i
                        · obtain ⟨b6, off6, Aj, Cj, e, _, d0, hrj⟩ := (HRV.out.below HB6.out).row hltj
                          obtain ⟨rfl, rfl⟩ : bv = b6 ∧ offv = off6 := by simpa using e
                          obtain ⟨b7, off7, rfl, _, d1⟩ := hrj.at hltt
                          obtain ⟨b8, off8, e8, d2⟩ := (HI5.out.old HB6.out).at (j := t) (by omega)
                          obtain ⟨rfl, rfl⟩ : bo = b8 ∧ offo = off8 := by simpa using e8
                          have hq := (HIN.out t (by omega)).1
                          have hls := HAT.out t (by omega)
                          obtain ⟨b9, off9, Ak, Ck, e9, _, d3, hrk⟩ := (H5.out.below HB6.out).row hq
                          obtain ⟨rfl, rfl⟩ : b0 = b9 ∧ off0 = off9 := by simpa using e9
                          rw [hls] at d3 hrk
                          obtain ⟨b10, off10, rfl, _, d4⟩ := hrk.at hltc
                          have d5 := HO3.out.cell hltc
                          rw [part_at] at d5
                          have f5 := HO3.out.frozen c
                          have htk : t < k := by omega
                          have HXR := Lib.hid (xor_fi (sm t fun t => V j t * H0 (at_ t) c) (V j t * H0 (at_ t) c))
                          have HST : Hid (RowAt (wr.setCell ⟨wo.heap.size, c, none⟩ (.int .u8 (fi ((sm t fun t => V j t * H0 (at_ t) c) + V j t * H0 (at_ t) c)))) wo.heap.size s (part (X j) c (sm (t + 1) fun t => V j t * H0 (at_ t) c))) := Lib.hid ((HO3.out.set c ((sm t fun t => V j t * H0 (at_ t) c) + V j t * H0 (at_ t) c)).congr fun x _ => part_set _ _ _ _ _)
                          obtain ⟨q, hqe⟩ : ∃ q, q = at_ t := ⟨_, rfl⟩
                          rw [← hqe] at d2 d3 d4 hq HXR HST
                          clear e e8 e9 hrj hrk hls hqe HO3
                          go_wp2
                          refine wp_region_still_tail 26 (by kernel_rfl) (by kernel_rfl) ?_
                          simp only [List.take_succ_cons, List.take_zero, List.drop_succ_cons, List.drop_zero]
                          repeat (first | still_step | still_call (refMul_st _ _ _))
                          refine wpStill_nil ?_
                          rw [HXR.out]
                          change wpList _ _ _ _ _ wr.drew
                          go_wp2
                          go_roundw
                          case rel => exact ⟨t + 1, by omega, by go_num, HST, Lib.hid ((HB3.out.drew).setCell (p := ⟨wo.heap.size, c, none⟩) (Nat.le_refl _) _)⟩
                          case measure => simp [intOf]; omega
                        · have HO5 : Hid (RowAt wr wo.heap.size s (part (X j) (c + 1) 0)) := by
                            have hti : t = i := by omega
                            have hh := HO3.out
                            rw [hti, show (sm i fun t => V j t * H0 (at_ t) c) = X j c by rw [HX.out]] at hh
                            exact Lib.hid (hh.congr fun x _ => part_next (X j) c x)
                          clear HO3
                          go_wp2
                          go_roundw
                          case rel => exact ⟨c + 1, by omega, by go_num, HO5, HB3⟩
                          case measure => simp [intOf]; omega
                    · have HO5 : Hid (RowAt wr wo.heap.size s (X j)) := Lib.hid (HO2.out.congr fun x hx => by unfold part; rw [if_pos (by omega)])
                      have HAA := Lib.hid (HO'.out.old HB2.out)
                      obtain ⟨i0, hi0, hz0, hz1, hz2⟩ := info_parts infoRow
                      have hown := HAA.out.top
                      have HXX := Lib.hid (HB.out.trans (HB2.out.mono HB.out.size))
                      have hlow : w5.heap.size ≤ wr.heap.size := HXX.out.size
                      go_wp2_with (at_builtin; refine wpList_append_own _ rfl _ _ 22 rfl w5.heap.size 34 i0 (.slice none 0 0) 1 24 Try.underlying22 hi0 hz0 hz1 hz2 rfl (by decide) _ _ _ rfl (hown.alloc _) ⟨wr.heap.size, 0, none⟩ 1 1 [.slice (some ⟨wo.heap.size, 0, none⟩) s s] rfl rfl (oneCell _ _ _) (oneSlice _ _ _) (by unfold maxLen; omega) (by omega) (by simp; omega) ?_)
                      intro v' w3 hown' hgrow _
                      have HP := Lib.hid (HAA.out.push hgrow hown' HO5.out (fun r hr => by have := (HO'.out.rows r hr).lt; omega) HB.out.size (Nat.le_refl s))
                      have HB3 := Lib.hid ((HXX.out.alloc hlow _).grown hgrow (by simp; omega) (fun x hx => (HAA.out.top.lt x hx).1))
                      clear hown' hgrow hown
                      go_wp2
                      go_roundw
                      case rel => exact ⟨j + 1, by omega, by go_num, Lib.hid ⟨_, _, HP.out.congr (M' := X) fun r _ c _ => by by_cases e : r = j <;> simp [e]⟩, HB3⟩
                      case measure => simp [intOf]; omega
                · have hji : j = i := by omega
                  obtain ⟨b, cp, rfl, _, _, hK⟩ := HO'.out.own (by omega)
                  rw [hji] at hK
                  have HK := Lib.hid hK
                  have HBF := Lib.hid (HB5.out.trans (HB.out.mono HB5.out.size))
                  clear hK HO'
                  subst hji
                  go_wp2
                  go_ret2
                  exact HPP.out _ _ ⟨_, _, rfl, HK.out.rdAll (Nat.le_refl _), HBF.out⟩
set_option maxRecDepth 100000 in
set_option maxHeartbeats 1000000 in
theorem refDecode_any (A : Option Addr) (n C : Nat) (L : Nat → Nat) (H0 : Mat) (G : Nat → Prop) (d : Int) (w : World) (hn : n ≤ 1000000) (hL : ∀ i, i < n → L i ≤ 1000000) (hd : -9223372036854775808 ≤ d) (hd' : d ≤ 9223372036854775807) (h : RdM w A n L H0 G) :
    Calls Try.prog 11 #[.slice A n C, .int .i64 d] w (DecAny n L H0 d w) := by
  by_cases h1 : d < 1
  · have HE : Hid (¬ DecOk n L d) := Lib.hid fun hh => by have := hh.1; omega
    clear h hL
    go_enter Try.func11, Try.ntmps11
    go_wp2
    go_ret2
    exact DecAny.refuse HE.out w (Below.refl _ _)
  · by_cases h2 : (n : Int) < d
    · have HE : Hid (¬ DecOk n L d) := Lib.hid fun hh => by have := hh.2.1; omega
      clear h hL
      go_enter Try.func11, Try.ntmps11
      go_wp2
      go_ret2
      exact DecAny.refuse HE.out w (Below.refl _ _)
    · by_cases h3 : 255 < n
      · have HE : Hid (¬ DecOk n L d) := Lib.hid fun hh => by have := hh.2.2.1; omega
        clear h hL
        go_enter Try.func11, Try.ntmps11
        go_wp2
        go_ret2
        exact DecAny.refuse HE.out w (Below.refl _ _)
      · obtain ⟨k, rfl⟩ : ∃ k : Nat, d = (k : Int) := ⟨d.toNat, by omega⟩
        exact refDecode_in A n C L H0 G k w (by omega) (by omega) (by omega) hL h
end Go.Proofs.Ytelkeoopfejgnaa
