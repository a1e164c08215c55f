/- What the document's own Encode answers, whatever it is given. -/
import Derived.Test.YtelkeoopfejgnaaRefFe
import Derived.Test.YtelkeoopfejgnaaRefCau
import Derived.Test.YtelkeoopfejgnaaErWords
namespace Go.Proofs.Ytelkeoopfejgnaa
open Go.RowKit Mx

theorem EncAny.refuse {n : Nat} {L : Nat → Nat} {D : Mat} {p : Int} (hn : ¬ EncOk n L p) (w : World) {w' : World} (h : Below w.heap.size w w') : EncAny n L D p w (.returned (.tuple #[.slice none 0 0, .int .i64 1])) w' := by
  unfold EncAny; rw [if_neg hn]; exact ResM.bad w h
set_option maxHeartbeats 8000000 in
theorem refEncode_in (A : Option Addr) (n C : Nat) (L : Nat → Nat) (D : Mat) (G : Nat → Prop) (p : Nat) (w : World) (hn0 : 0 < n) (hnp : n + p ≤ 255) (hL : L 0 ≤ 1000000) (h : RdM w A n L D G) :
    Calls Try.prog 9 #[.slice A n C, .int .i64 (p : Int)] w (EncAny n L D (p : Int) w) := by
  obtain ⟨b0, off0, A0, C0, rfl, _, hc0, _⟩ := h.row (i := 0) (by omega)
  rw [Nat.add_zero] at hc0
  have hb0 := World.block_lt_of_cell? _ _ hc0
  have HC0 := Lib.hid hc0
  have H := Lib.hid h
  clear h hc0
  have q0 : decide ((n : Int) < 1) = false := decide_eq_false (by omega)
  have q1 : decide ((p : Int) < 0) = false := decide_eq_false (by omega)
  have q2 : decide ((255 : Int) < (p : Int)) = false := decide_eq_false (by omega)
  have q3 : decide ((255 : Int) < (n : Int) + (p : Int)) = false := decide_eq_false (by omega)
  go_enter Try.func9, Try.ntmps9
  go_wp2
  clear q0 q1 q2 q3
  go_loopw [6] (fun vi wr => ∃ k : Nat, 1 ≤ k ∧ k ≤ n ∧ vi = .int .i64 (k : Int) ∧ Hid (∀ i, i < k → L i = L 0) ∧ Hid (Below w.heap.size w wr)) (fun vi _ => n - (intOf vi).toNat)
  case atStart => exact ⟨1, by omega, by omega, rfl, Lib.hid (fun i hi => by rw [show i = 0 by omega]), Lib.hid (Below.refl _ _)⟩
  case round =>
    obtain ⟨k, hk0, hk, rfl, HL, HB⟩ := hrel
    by_cases hlt : k < n
    · obtain ⟨b', off', Ak, Ck, e, _, hck, _⟩ := (H.out.old HB.out).row hlt
      obtain ⟨rfl, rfl⟩ : b0 = b' ∧ off0 = off' := by simpa using e
      clear e
      have hd0 := (HB.out.cell hb0).trans HC0.out
      by_cases he : L k = L 0
      · have hb : ((L k : Int) != (L 0 : Int)) = false := by rw [he]; simp
        have HE := Lib.hid he
        clear he
        go_wp2
        go_quiet (fail)
        go_wp2
        go_roundw
        case rel => exact ⟨k + 1, by omega, by omega, by go_num, Lib.hid (fun i hi => by
          by_cases e : i = k
          · rw [e]; exact HE.out
          · exact HL.out i (by omega)), Lib.hid ⟨HB.out.os, HB.out.tape, HB.out.output, HB.out.size, HB.out.block⟩⟩
        case measure => simp [intOf]; omega
      · have hb : ((L k : Int) != (L 0 : Int)) = true := by rw [bne_iff_ne]; omega
        have HF : Hid (¬ EncOk n L (p : Int)) := Lib.hid fun hh => he (hh.2.1 k hlt)
        clear he
        go_wp2
        go_quiet (fail)
        go_wp2
        go_ret2
        exact EncAny.refuse HF.out w ⟨HB.out.os, HB.out.tape, HB.out.output, HB.out.size, HB.out.block⟩
    · have HE : Hid (EncOk n L (p : Int)) := Lib.hid ⟨by omega, fun i hi => HL.out i (by omega), by omega, by omega⟩
      obtain ⟨w1, rfl⟩ : ∃ x, x = wr := ⟨wr, rfl⟩
      by_cases hp0 : p = 0
      · subst hp0
        go_wp2
        go_ret2
        unfold EncAny; rw [if_pos HE.out]; exact ⟨none, 0, rfl, RdM.empty _ _ _ _ _, HB.out⟩
      · have q4 : ((p : Int) == 0) = false := beq_eq_false_iff_ne.2 (by omega)
        have HA : Hid (∀ i, i < n → L i = L 0) := Lib.hid fun i hi => HL.out i (by omega)
        clear HL
        have HMK := Lib.hid (run_make_row' (P := Try.prog) 34 5 (.int .u8 0) 1 Try.underlying34 infoByte rfl .i64 .i64 (L 0) (by omega) (by omega))
        go_wp2_with fail
        refine (refCauchy_main n p _ hn0 (by omega) hnp).mono ?_
        rintro e w2 ⟨A2, C2, rfl, hr2, hB2⟩
        obtain ⟨b2, off2, _, _, rfl, _, _, _⟩ := hr2.row (i := 0) (by omega)
        have HR := Lib.hid hr2
        have HB2 := Lib.hid (HB.out.trans (hB2.mono HB.out.size))
        obtain ⟨m, hm⟩ : ∃ m, m = L 0 := ⟨_, rfl⟩
        have HD := Lib.hid (((H.out.congr (L' := fun _ => m) (M' := D) (fun i hi => by rw [hm]; exact HA.out i hi) (fun _ _ _ _ => rfl)).old HB2.out).in_)
        have HC2 := Lib.hid ((HB2.out.cell hb0).trans HC0.out)
        have hlt2 := World.block_lt_of_cell? _ _ HC2.out
        have HEQ : Hid (∀ e w', ResM 0 p m (par n p D) w e w' → EncAny n L D (p : Int) w e w') := Lib.hid fun e w' hh => by
          unfold EncAny; rw [if_pos HE.out, ← hm]; exact hh
        rw [← hm] at HMK HC2 hL
        clear hr2 hB2 hm HA H HB HC0 HE
        go_wp2
        go_loopw [10, 9] (fun vi vo wr => ∃ i : Nat, i ≤ p ∧ vi = .int .i64 (i : Int) ∧ Hid (∃ G C, OwnA wr w2.heap.size vo i m G C (par n p D)) ∧ Hid (Below w2.heap.size w2 wr)) (fun vi _ _ => p - (intOf vi).toNat)
        case atStart => exact ⟨0, by omega, rfl, Lib.hid ⟨fun _ => 0, fun _ => 0, OwnA.start _ _ _ _ _ _⟩, Lib.hid (Below.refl _ _)⟩
        case round =>
          obtain ⟨i, hi, rfl, HO, HB⟩ := hrel
          obtain ⟨G1, Cp1, hO⟩ := HO.out
          have HO' := Lib.hid hO
          clear hO HO
          obtain ⟨wo, rfl⟩ : ∃ x, x = wr := ⟨wr, rfl⟩
          by_cases hlti : i < p
          · have hc1 := (HB.out.cell hlt2).trans HC2.out
            have hmk := HMK.out
            go_wp2
            clear hmk hc1
            go_loopw [12] (fun vj wq => ∃ j : Nat, j ≤ m ∧ vj = .int .i64 (j : Int) ∧ Hid (RowAt wq wo.heap.size m (part (par n p D i) j 0)) ∧ Hid (Below wo.heap.size wo wq)) (fun vj _ => m - (intOf vj).toNat)
            case atStart => exact ⟨0, by omega, rfl, Lib.hid ((RowAt.made wo m).congr fun j _ => by unfold part; rw [if_neg (by omega)]; split <;> rfl), Lib.hid ((Below.refl _ _).alloc (Nat.le_refl _) _)⟩
            case round =>
              obtain ⟨j, hj, rfl, HO2, HB2'⟩ := hrel
              by_cases hltj : j < m
              · go_wp2
                go_loopw [13] (fun vk wq => ∃ k : Nat, k ≤ n ∧ vk = .int .i64 (k : Int) ∧ Hid (RowAt wq wo.heap.size m (part (par n p D i) j (sm k fun t => cau p i t * D t j))) ∧ Hid (Below wo.heap.size wo wq)) (fun vk _ => n - (intOf vk).toNat)
                case atStart => exact ⟨0, by omega, rfl, HO2, HB2'⟩
                case round =>
                  obtain ⟨k, hk, rfl, HO3, HB3⟩ := hrel
                  clear HO2 HB2'
                  have HB4 := Lib.hid (HB.out.trans (HB3.out.mono HB.out.size))
                  by_cases hlt3 : k < n
                  · obtain ⟨b3, off3, Ai, Ci, e, _, d0, hri⟩ := (HR.out.below HB4.out).row hlti
                    obtain ⟨rfl, rfl⟩ : b2 = b3 ∧ off2 = off3 := by simpa using e
                    obtain ⟨b3, off3, rfl, _, d1⟩ := hri.at hlt3
                    obtain ⟨b4, off4, Ak, Ck, e', _, d2, hrk⟩ := (HD.out.below HB4.out).row hlt3
                    obtain ⟨rfl, rfl⟩ : b0 = b4 ∧ off0 = off4 := by simpa using e'
                    obtain ⟨b5, off5, rfl, _, d3⟩ := hrk.at hltj
                    have d4 := HO3.out.cell hltj
                    rw [part_at] at d4
                    have f4 := HO3.out.frozen j
                    have HX := Lib.hid (xor_fi (sm k fun t => cau p i t * D t j) (cau p i k * D k j))
                    clear e e' hri hrk
                    go_wp2
                    refine wp_region_still_tail 23 (by kernel_rfl) (by kernel_rfl) ?_
                    simp only [List.take_succ_cons, List.take_zero, List.drop_succ_cons, List.drop_zero]
                    repeat (first | still_step | still_call (refMul_st _ _ _))
                    refine wpStill_nil ?_
                    rw [HX.out]
                    change wpList _ _ _ _ _ wr.drew
                    go_wp2
                    go_roundw
                    case rel => exact ⟨k + 1, by omega, by go_num, Lib.hid ((HO3.out.set j ((sm k fun t => cau p i t * D t j) + cau p i k * D k j)).congr fun x _ => part_set _ _ _ _ _), Lib.hid ((HB3.out.drew).setCell (p := ⟨wo.heap.size, j, none⟩) (Nat.le_refl _) _)⟩
                    case measure => simp [intOf]; omega
                  · have HO5 : Hid (RowAt wr wo.heap.size m (part (par n p D i) (j + 1) 0)) := by
                      have hkm : k = n := by omega
                      have hh := HO3.out
                      rw [hkm] at hh
                      exact Lib.hid (hh.congr fun x _ => part_next (par n p D i) j x)
                    clear HO3
                    go_wp2
                    go_roundw
                    case rel => exact ⟨j + 1, by omega, by go_num, HO5, HB3⟩
                    case measure => simp [intOf]; omega
              · have HO5 : Hid (RowAt wr wo.heap.size m (par n p D i)) := Lib.hid (HO2.out.congr fun x hx => by unfold part; rw [if_pos (by omega)])
                have HA := Lib.hid (HO'.out.old HB2'.out)
                obtain ⟨i0, hi0, hz0, hz1, hz2⟩ := info_parts infoRow
                have hown := HA.out.top
                have HX := Lib.hid (HB.out.trans (HB2'.out.mono HB.out.size))
                have hlow : w2.heap.size ≤ wr.heap.size := HX.out.size
                go_wp2_with (at_builtin; refine wpList_append_own _ rfl _ _ 22 rfl w2.heap.size 34 i0 (.slice none 0 0) 1 24 Try.underlying22 hi0 hz0 hz1 hz2 rfl (by decide) _ _ _ rfl (hown.alloc _) ⟨wr.heap.size, 0, none⟩ 1 1 [.slice (some ⟨wo.heap.size, 0, none⟩) m m] rfl rfl (oneCell _ _ _) (oneSlice _ _ _) (by unfold maxLen; omega) (by omega) (by simp; omega) ?_)
                intro v' w3 hown' hgrow _
                have HP := Lib.hid (HA.out.push hgrow hown' HO5.out (fun r hr => by have := (HO'.out.rows r hr).lt; omega) HB.out.size (Nat.le_refl m))
                have HB3 := Lib.hid ((HX.out.alloc hlow _).grown hgrow (by simp; omega) (fun x hx => (HA.out.top.lt x hx).1))
                clear hown' hgrow hown
                go_wp2
                go_roundw
                case rel => exact ⟨i + 1, by omega, by go_num, Lib.hid ⟨_, _, HP.out.congr (M' := par n p D) fun r _ c _ => by by_cases e : r = i <;> simp [e]⟩, HB3⟩
                case measure => simp [intOf]; omega
          · have hip : i = p := by omega
            obtain ⟨b, cp, rfl, _, _, hK⟩ := HO'.out.own (by omega)
            rw [hip] at hK
            have HK := Lib.hid hK
            clear hK HO'
            subst hip
            go_wp2
            go_ret2
            exact HEQ.out _ _ ⟨_, _, rfl, HK.out.rdAll (Nat.le_refl _), HB2.out.trans (HB.out.mono HB2.out.size)⟩
set_option maxHeartbeats 1000000 in
theorem refEncode_any (A : Option Addr) (n C : Nat) (L : Nat → Nat) (D : Mat) (G : Nat → Prop) (p : Int) (w : World) (hn : n ≤ 1000000) (hL : 0 < n → L 0 ≤ 1000000) (hp : -9223372036854775808 ≤ p) (hp' : p ≤ 9223372036854775807) (h : RdM w A n L D G) :
    Calls Try.prog 9 #[.slice A n C, .int .i64 p] w (EncAny n L D p w) := by
  by_cases h1 : n < 1
  · have HE : Hid (¬ EncOk n L p) := Lib.hid fun hh => by have := hh.1; omega
    clear h
    go_enter Try.func9, Try.ntmps9
    go_wp2
    go_ret2
    exact EncAny.refuse HE.out w (Below.refl _ _)
  · by_cases h2 : p < 0
    · have HE : Hid (¬ EncOk n L p) := Lib.hid fun hh => by have := hh.2.2.1; omega
      clear h
      go_enter Try.func9, Try.ntmps9
      go_wp2
      go_ret2
      exact EncAny.refuse HE.out w (Below.refl _ _)
    · by_cases h3 : 255 < p
      · have HE : Hid (¬ EncOk n L p) := Lib.hid fun hh => by have := hh.2.2.2; omega
        clear h
        go_enter Try.func9, Try.ntmps9
        go_wp2
        go_ret2
        exact EncAny.refuse HE.out w (Below.refl _ _)
      · by_cases h4 : 255 < (n : Int) + p
        · have HE : Hid (¬ EncOk n L p) := Lib.hid fun hh => by have := hh.2.2.2; omega
          clear h
          go_enter Try.func9, Try.ntmps9
          go_wp2
          go_ret2
          exact EncAny.refuse HE.out w (Below.refl _ _)
        · obtain ⟨k, rfl⟩ : ∃ k : Nat, p = (k : Int) := ⟨p.toNat, by omega⟩
          exact refEncode_in A n C L D G k w (by omega) (by omega) (hL (by omega)) h
end Go.Proofs.Ytelkeoopfejgnaa
