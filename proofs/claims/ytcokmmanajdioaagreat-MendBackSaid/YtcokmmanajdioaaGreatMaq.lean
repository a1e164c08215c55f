/- What the document's own Encode answers, whatever it is given. What the document's own Parity answers. A row of bytes appended to a tape behind a pointer, as an equation; and the facts of a group's parity tape, block by block. What Decode answers of rows that one Encode made, some of them missing. No function of the program. The rows of a group that was made are of one Encode: what each member's row is. No function of the program. -/
import Derived.Test.YtcokmmanajdioaaGreatMap
import Derived.Test.YtcokmmanajdioaaGreatMaj
import Derived.Test.YtcokmmanajdioaaGreatMao
import Derived.Deep.AppendLies
import Derived.Test.YtcokmmanajdioaaGreatMak
import Derived.Test.YtcokmmanajdioaaGreatMan
import Derived.Test.YtcokmmanajdioaaGreatMae
namespace Go.Proofs.YtcokmmanajdioaaGreat
open Go.RowKit Mx

set_option maxRecDepth 100000 in
set_option maxHeartbeats 8000000 in
theorem refEncode_in (A : Option Addr) (n C : Nat) (L : Nat → Nat) (D : Mat) (G : Nat → Prop) (p : Nat) (w : World) (hn0 : 0 < n) (hnp : n + p ≤ 255) (hL : L 0 ≤ 1000000) (h : RdM w A n L D G) :
    Calls Tryz.prog 42 #[.slice A n C, .int .i64 (p : Int)] w (EncNew n L D (p : Int) w) := by
  obtain ⟨b0, off0, A0, C0, rfl, _, hc0, _⟩ := h.row (i := 0) (by omega)
  rw [Nat.add_zero] at hc0
  have hb0 := World.block_lt_of_cell? _ _ hc0
  have HC0 := Lib.hid hc0
  have H := Lib.hid h
  clear h hc0
  have q0 : decide ((n : Int) < 1) = false := decide_eq_false (by omega)
  have q1 : decide ((p : Int) < 0) = false := decide_eq_false (by omega)
  have q2 : decide ((255 : Int) < (p : Int)) = false := decide_eq_false (by omega)
  have q3 : decide ((255 : Int) < (n : Int) + (p : Int)) = false := decide_eq_false (by omega)
  go_enter Tryz.func42, Tryz.ntmps42
  go_wp2
  clear q0 q1 q2 q3
  go_loopw [6] (fun vi wr => ∃ k : Nat, 1 ≤ k ∧ k ≤ n ∧ vi = .int .i64 (k : Int) ∧ Hid (∀ i, i < k → L i = L 0) ∧ Hid (Below w.heap.size w wr)) (fun vi _ => n - (intOf vi).toNat)
  case atStart => exact ⟨1, by omega, by omega, rfl, Lib.hid (fun i hi => by rw [show i = 0 by omega]), Lib.hid (Below.refl _ _)⟩
  case round =>
    obtain ⟨k, hk0, hk, rfl, HL, HB⟩ := hrel
    by_cases hlt : k < n
    · obtain ⟨b', off', Ak, Ck, e, _, hck, _⟩ := (H.out.old HB.out).row hlt
      obtain ⟨rfl, rfl⟩ : b0 = b' ∧ off0 = off' := by simpa using e
      clear e
      have hd0 := (HB.out.cell hb0).trans HC0.out
      by_cases he : L k = L 0
      · have hb : ((L k : Int) != (L 0 : Int)) = false := by rw [he]; simp
        have HE := Lib.hid he
        clear he
        go_wp2
        go_quiet (fail)
        go_wp2
        go_roundw
        case rel => exact ⟨k + 1, by omega, by omega, by go_num, Lib.hid (fun i hi => by
          by_cases e : i = k
          · rw [e]; exact HE.out
          · exact HL.out i (by omega)), Lib.hid ⟨HB.out.os, HB.out.tape, HB.out.output, HB.out.size, HB.out.block⟩⟩
        case measure => simp [intOf]; omega
      · have hb : ((L k : Int) != (L 0 : Int)) = true := by rw [bne_iff_ne]; omega
        have HF : Hid (¬ EncOk n L (p : Int)) := Lib.hid fun hh => he (hh.2.1 k hlt)
        clear he
        go_wp2
        go_quiet (fail)
        go_wp2
        go_ret2
        exact EncNew.bad HF.out w ⟨HB.out.os, HB.out.tape, HB.out.output, HB.out.size, HB.out.block⟩
    · have HE : Hid (EncOk n L (p : Int)) := Lib.hid ⟨by omega, fun i hi => HL.out i (by omega), by omega, by omega⟩
      obtain ⟨w1, rfl⟩ : ∃ x, x = wr := ⟨wr, rfl⟩
      by_cases hp0 : p = 0
      · subst hp0
        go_wp2
        go_ret2
        exact EncNew.none HE.out w HB.out
      · have q4 : ((p : Int) == 0) = false := beq_eq_false_iff_ne.2 (by omega)
        have HA : Hid (∀ i, i < n → L i = L 0) := Lib.hid fun i hi => HL.out i (by omega)
        clear HL
        have HMK := Lib.hid (run_make_row' (P := Tryz.prog) 34 5 (.int .u8 0) 1 Tryz.underlying34 infoByte rfl .i64 .i64 (L 0) (by omega) (by omega))
        go_wp2_with fail
        refine (refCauchy_main n p _ hn0 (by omega) hnp).mono ?_
        rintro e w2 ⟨A2, C2, rfl, hr2, hB2⟩
        obtain ⟨b2, off2, _, _, rfl, _, _, _⟩ := hr2.row (i := 0) (by omega)
        have HR := Lib.hid hr2
        have HB2 := Lib.hid (HB.out.trans (hB2.mono HB.out.size))
        obtain ⟨m, hm⟩ : ∃ m, m = L 0 := ⟨_, rfl⟩
        have HD := Lib.hid (((H.out.congr (L' := fun _ => m) (M' := D) (fun i hi => by rw [hm]; exact HA.out i hi) (fun _ _ _ _ => rfl)).old HB2.out).in_)
        have HC2 := Lib.hid ((HB2.out.cell hb0).trans HC0.out)
        have hlt2 := World.block_lt_of_cell? _ _ HC2.out
        have HEQ : Hid (∀ e w', NewM 0 p m (par n p D) w e w' → EncNew n L D (p : Int) w e w') := Lib.hid fun e w' hh => by
          rw [hm] at hh; exact EncNew.some HE.out (by omega) hh
        rw [← hm] at HMK HC2 hL
        clear hr2 hB2 hm HA H HB HC0 HE
        go_wp2
        go_loopw [10, 9] (fun vi vo wr => ∃ i : Nat, i ≤ p ∧ vi = .int .i64 (i : Int) ∧ Hid (∃ G C, OwnA wr w2.heap.size vo i m G C (par n p D)) ∧ Hid (Below w2.heap.size w2 wr)) (fun vi _ _ => p - (intOf vi).toNat)
        case atStart => exact ⟨0, by omega, rfl, Lib.hid ⟨fun _ => 0, fun _ => 0, OwnA.start _ _ _ _ _ _⟩, Lib.hid (Below.refl _ _)⟩
        case round =>
          obtain ⟨i, hi, rfl, HO, HB⟩ := hrel
          obtain ⟨G1, Cp1, hO⟩ := HO.out
          have HO' := Lib.hid hO
          clear hO HO
          obtain ⟨wo, rfl⟩ : ∃ x, x = wr := ⟨wr, rfl⟩
          by_cases hlti : i < p
          · have hc1 := (HB.out.cell hlt2).trans HC2.out
            have hmk := HMK.out
            go_wp2
            clear hmk hc1
            go_loopw [12] (fun vj wq => ∃ j : Nat, j ≤ m ∧ vj = .int .i64 (j : Int) ∧ Hid (RowAt wq wo.heap.size m (part (par n p D i) j 0)) ∧ Hid (Below wo.heap.size wo wq)) (fun vj _ => m - (intOf vj).toNat)
            case atStart => exact ⟨0, by omega, rfl, Lib.hid ((RowAt.made wo m).congr fun j _ => by unfold part; rw [if_neg (by omega)]; split <;> rfl), Lib.hid ((Below.refl _ _).alloc (Nat.le_refl _) _)⟩
            case round =>
              obtain ⟨j, hj, rfl, HO2, HB2'⟩ := hrel
              by_cases hltj : j < m
              · go_wp2
                go_loopw [13] (fun vk wq => ∃ k : Nat, k ≤ n ∧ vk = .int .i64 (k : Int) ∧ Hid (RowAt wq wo.heap.size m (part (par n p D i) j (sm k fun t => cau p i t * D t j))) ∧ Hid (Below wo.heap.size wo wq)) (fun vk _ => n - (intOf vk).toNat)
                case atStart => exact ⟨0, by omega, rfl, HO2, HB2'⟩
                case round =>
                  obtain ⟨k, hk, rfl, HO3, HB3⟩ := hrel
                  clear HO2 HB2'
                  have HB4 := Lib.hid (HB.out.trans (HB3.out.mono HB.out.size))
                  by_cases hlt3 : k < n
                  · obtain ⟨b3, off3, Ai, Ci, e, _, d0, hri⟩ := (HR.out.below HB4.out).row hlti
                    obtain ⟨rfl, rfl⟩ : b2 = b3 ∧ off2 = off3 := by simpa using e
                    obtain ⟨b3, off3, rfl, _, d1⟩ := hri.at hlt3
                    obtain ⟨b4, off4, Ak, Ck, e', _, d2, hrk⟩ := (HD.out.below HB4.out).row hlt3
                    obtain ⟨rfl, rfl⟩ : b0 = b4 ∧ off0 = off4 := by simpa using e'
                    obtain ⟨b5, off5, rfl, _, d3⟩ := hrk.at hltj
                    have d4 := HO3.out.cell hltj
                    rw [part_at] at d4
                    have f4 := HO3.out.frozen j
                    have HX := Lib.hid (xor_fi (sm k fun t => cau p i t * D t j) (cau p i k * D k j))
                    clear e e' hri hrk
                    go_wp2
                    refine wp_region_still_tail 23 (by kernel_rfl) (by kernel_rfl) ?_
                    simp only [List.take_succ_cons, List.take_zero, List.drop_succ_cons, List.drop_zero]
                    repeat (first | still_step | still_call (refMul_st _ _ _))
                    refine wpStill_nil ?_
                    rw [HX.out]
                    change wpList _ _ _ _ _ wr.drew
                    go_wp2
                    go_roundw
                    case rel => exact ⟨k + 1, by omega, by go_num, Lib.hid ((HO3.out.set j ((sm k fun t => cau p i t * D t j) + cau p i k * D k j)).congr fun x _ => part_set _ _ _ _ _), Lib.hid ((HB3.out.drew).setCell (p := ⟨wo.heap.size, j, none⟩) (Nat.le_refl _) _)⟩
                    case measure => simp [intOf]; omega
                  · have HO5 : Hid (RowAt wr wo.heap.size m (part (par n p D i) (j + 1) 0)) := by
                      have hkm : k = n := by omega
                      have hh := HO3.out
                      rw [hkm] at hh
                      exact Lib.hid (hh.congr fun x _ => part_next (par n p D i) j x)
                    clear HO3
                    go_wp2
                    go_roundw
                    case rel => exact ⟨j + 1, by omega, by go_num, HO5, HB3⟩
                    case measure => simp [intOf]; omega
              · have HO5 : Hid (RowAt wr wo.heap.size m (par n p D i)) := Lib.hid (HO2.out.congr fun x hx => by unfold part; rw [if_pos (by omega)])
                have HA := Lib.hid (HO'.out.old HB2'.out)
                obtain ⟨i0, hi0, hz0, hz1, hz2⟩ := info_parts infoRow
                have hown := HA.out.top
                have HX := Lib.hid (HB.out.trans (HB2'.out.mono HB.out.size))
                have hlow : w2.heap.size ≤ wr.heap.size := HX.out.size
                go_wp2_with (at_builtin; refine wpList_append_own _ rfl _ _ 29 rfl w2.heap.size 34 i0 (.slice none 0 0) 1 24 Tryz.underlying29 hi0 hz0 hz1 hz2 rfl (by decide) _ _ _ rfl (hown.alloc _) ⟨wr.heap.size, 0, none⟩ 1 1 [.slice (some ⟨wo.heap.size, 0, none⟩) m m] rfl rfl (oneCell _ _ _) (oneSlice _ _ _) (by unfold maxLen; omega) (by omega) (by simp; omega) ?_)
                intro v' w3 hown' hgrow _
                have HP := Lib.hid (HA.out.push hgrow hown' HO5.out (fun r hr => by have := (HO'.out.rows r hr).lt; omega) HB.out.size (Nat.le_refl m))
                have HB3 := Lib.hid ((HX.out.alloc hlow _).grown hgrow (by simp; omega) (fun x hx => (HA.out.top.lt x hx).1))
                clear hown' hgrow hown
                go_wp2
                go_roundw
                case rel => exact ⟨i + 1, by omega, by go_num, Lib.hid ⟨_, _, HP.out.congr (M' := par n p D) fun r _ c _ => by by_cases e : r = i <;> simp [e]⟩, HB3⟩
                case measure => simp [intOf]; omega
          · have hip : i = p := by omega
            obtain ⟨b, cp, rfl, hlo, hcp, hK⟩ := HO'.out.own (by omega)
            rw [hip] at hK
            have HK := Lib.hid hK
            clear hK HO'
            subst hip
            go_wp2
            go_ret2
            exact HEQ.out _ _ ⟨b, cp, G1, Cp1, rfl, hcp, Nat.le_trans HB2.out.size hlo, HK.out.down HB2.out.size, HB2.out.trans (HB.out.mono HB2.out.size)⟩
set_option maxRecDepth 100000 in
set_option maxHeartbeats 1000000 in
theorem refEncode_new (A : Option Addr) (n C : Nat) (L : Nat → Nat) (D : Mat) (G : Nat → Prop) (p : Int) (w : World) (hn : n ≤ 1000000) (hL : 0 < n → L 0 ≤ 1000000) (hp : -9223372036854775808 ≤ p) (hp' : p ≤ 9223372036854775807) (h : RdM w A n L D G) :
    Calls Tryz.prog 42 #[.slice A n C, .int .i64 p] w (EncNew n L D p w) := by
  by_cases h1 : n < 1
  · have HE : Hid (¬ EncOk n L p) := Lib.hid fun hh => by have := hh.1; omega
    clear h
    go_enter Tryz.func42, Tryz.ntmps42
    go_wp2
    go_ret2
    exact EncNew.bad HE.out w (Below.refl _ _)
  · by_cases h2 : p < 0
    · have HE : Hid (¬ EncOk n L p) := Lib.hid fun hh => by have := hh.2.2.1; omega
      clear h
      go_enter Tryz.func42, Tryz.ntmps42
      go_wp2
      go_ret2
      exact EncNew.bad HE.out w (Below.refl _ _)
    · by_cases h3 : 255 < p
      · have HE : Hid (¬ EncOk n L p) := Lib.hid fun hh => by have := hh.2.2.2; omega
        clear h
        go_enter Tryz.func42, Tryz.ntmps42
        go_wp2
        go_ret2
        exact EncNew.bad HE.out w (Below.refl _ _)
      · by_cases h4 : 255 < (n : Int) + p
        · have HE : Hid (¬ EncOk n L p) := Lib.hid fun hh => by have := hh.2.2.2; omega
          clear h
          go_enter Tryz.func42, Tryz.ntmps42
          go_wp2
          go_ret2
          exact EncNew.bad HE.out w (Below.refl _ _)
        · obtain ⟨k, rfl⟩ : ∃ k : Nat, p = (k : Int) := ⟨p.toNat, by omega⟩
          exact refEncode_in A n C L D G k w (by omega) (by omega) (hL (by omega)) h
set_option maxRecDepth 100000 in
theorem refEncode_any (A : Option Addr) (n C : Nat) (L : Nat → Nat) (D : Mat) (G : Nat → Prop) (p : Int) (w : World) (hn : n ≤ 1000000) (hL : 0 < n → L 0 ≤ 1000000) (hp : -9223372036854775808 ≤ p) (hp' : p ≤ 9223372036854775807) (h : RdM w A n L D G) :
    Calls Tryz.prog 42 #[.slice A n C, .int .i64 p] w (EncAny n L D p w) :=
  (refEncode_new A n C L D G p w hn hL hp hp' h).mono fun _ _ hh => hh.any
end Go.Proofs.YtcokmmanajdioaaGreat
namespace Go.Proofs.YtcokmmanajdioaaGreat
open Go.RowKit Mx
open Pt (Tx)

/-- append of one row, and where it lies -/
theorem lies_run (w : World) (base : Nat) (v : Value) (n : Nat) (us : List Value) (hown : w.ownsRow base 34 1 v n us) (hl : n ≤ 1000000) (ad : Addr) (c : Nat) (x : Value) (hx : x.oneCell' = true) (hc : ∀ j u, [x][j]? = some u → w.cell? (ad.add j) = some u) (hbase : base ≤ w.heap.size) :
    ∃ g cap w', (∀ ty, (Builtin.append_ #[29, 29] ty #[v, .slice (some ad) 1 c]).run Tryz.prog w = .ok (.slice (some ⟨g, 0, none⟩) (n + 1) cap) w') ∧ w'.ownsRow base 34 1 (.slice (some ⟨g, 0, none⟩) (n + 1) cap) (n + 1) (us ++ [x]) ∧ w.grownBy w' v.ownBlock ∧ (v.ownBlock = some g ∨ g = w.heap.size) := by
  obtain ⟨i0, hi, hz0, hz1, hz2⟩ := info_parts infoRow
  obtain ⟨g, cap, w', h1, h2, h3, h4, _⟩ := run_append_lies (P := Tryz.prog) (w := w) 29 3 base 34 i0 (.slice none 0 0) 1 24 Tryz.underlying29 hi hz0 hz1 hz2 rfl (by decide) v n us hown ad 1 c [x] rfl hc (by simpa using hx) (by decide) (by unfold maxLen; omega) (by omega) hbase w.heap.size rfl
  exact ⟨g, cap, w', fun ty => h1, h2, h3, h4⟩
/-- empty tapes of parity, made by append -/
theorem OutP.of_owns {w : World} {B p : Nat} {v : Value} {X : Nat → Mat} (h : w.ownsRow B 29 1 v p (List.replicate p (.slice none 0 0))) :
    ∃ A C b, v = .slice A p C ∧ p ≤ C ∧ (A = none → p = 0 ∧ C = 0) ∧ (0 < p → A = some ⟨b, 0, none⟩) ∧ OutP w B b p 79 (fun _ => .slice none 0 0) (fun _ => 0) X := by
  rcases h.2 with ⟨e, h0⟩ | ⟨g, cap, cur, e, hb, hg, hnc, _, hs, ht⟩
  · subst h0
    exact ⟨none, 0, B, e, Nat.le_refl _, fun _ => ⟨rfl, rfl⟩, fun h => absurd h (by omega), OutP.start _ _ _ _ _ _ (Nat.le_refl _) fun h => absurd h (by omega)⟩
  · refine ⟨_, cap, g, e, hnc, (fun h => by cases h), fun _ => rfl, OutP.start _ _ _ _ _ _ hb fun _ => ⟨cur, hg, by omega, fun j hj => ?_⟩⟩
    have hx : (List.replicate p (Value.slice none 0 0))[j]? = some (.slice none 0 0) := by simp [hj]
    rw [← ht, List.getElem?_take, if_pos (by omega), Array.getElem?_toList] at hx
    exact hx
set_option maxRecDepth 100000 in
set_option maxHeartbeats 8000000 in
theorem refParity_main (A : Option Addr) (ts : List St.T) (C : Nat) (G : Nat → Prop) (p : Nat) (w : World) (hn0 : 0 < ts.length) (hnp : ts.length + p ≤ 255) (hl : St.len ts ≤ 1000000) (hr : RdT w A ts G) :
    Calls Tryz.prog 25 #[.slice A ts.length C, .int .i64 (p : Int)] w (ParA ts (p : Int) w) := by
  have HR := Lib.hid hr
  obtain ⟨i0, hi0, hz0, hz1, hz2⟩ := info_parts infoRow
  obtain ⟨j0, hj0, hy0, hy1, hy2⟩ := info_parts infoMat
  obtain ⟨K, hK⟩ : ∃ K, K = St.len ts := ⟨_, rfl⟩
  rw [← hK] at hl
  have HK := Lib.hid hK
  have q0 : decide ((ts.length : Int) < 1) = false := decide_eq_false (by omega)
  have q1 : decide ((p : Int) < 0) = false := decide_eq_false (by omega)
  have q2 : decide ((255 : Int) < (p : Int)) = false := decide_eq_false (by omega)
  have q3 : decide ((255 : Int) < (ts.length : Int) + (p : Int)) = false := decide_eq_false (by omega)
  clear hr hK
  go_enter Tryz.func25, Tryz.ntmps25
  go_wp2
  clear q0 q1 q2 q3
  go_loopw [7, 6] (fun vi vo wr => ∃ j : Nat, j ≤ p ∧ vi = .int .i64 (j : Int) ∧ Hid (wr.ownsRow w.heap.size 29 1 vo j (List.replicate j (.slice none 0 0))) ∧ Hid (Below w.heap.size w wr)) (fun vi _ _ => p - (intOf vi).toNat)
  case atStart => exact ⟨0, Nat.zero_le _, rfl, Lib.hid (World.ownsRow_nil _ _ _ _), Lib.hid (Below.refl _ _)⟩
  case round =>
    obtain ⟨j, hj, rfl, HO, HB⟩ := hrel
    by_cases hlt : j < p
    · have e0 : decide (j < p) = true := decide_eq_true hlt
      have hown := HO.out
      have hlow := HB.out.size
      go_wp2_with (at_builtin; refine wpList_append_own _ rfl _ _ 73 rfl w.heap.size 29 j0 (.slice none 0 0) 1 24 Tryz.underlying73 hj0 hy0 hy1 hy2 rfl (by decide) _ _ _ rfl (hown.alloc _) ⟨wr.heap.size, 0, none⟩ 1 1 [.slice none 0 0] rfl rfl (oneCell _ _ _) (oneSlice _ _ _) (by unfold maxLen; omega) (by omega) (by simp; omega) ?_)
      intro v' w3 hown' hgrow _
      have HO3 : Hid (w3.ownsRow w.heap.size 29 1 v' (j + 1) (List.replicate (j + 1) (.slice none 0 0))) := Lib.hid (by
        rw [show List.replicate (j + 1) (Value.slice none 0 0) = List.replicate j (Value.slice none 0 0) ++ [.slice none 0 0] by rw [List.replicate_succ']]
        exact hown')
      have HB3 := Lib.hid ((HB.out.alloc HB.out.size _).grown hgrow (by simp; omega) (fun x hx => (HO.out.lt x hx).1))
      clear hown' hgrow hown
      go_wp2
      go_roundw
      case rel => exact ⟨j + 1, by omega, by go_num, HO3, HB3⟩
      case measure => simp [intOf]; omega
    · have e0 : decide (j < p) = false := decide_eq_false hlt
      obtain rfl : j = p := by omega
      obtain ⟨Ao, Co, b, rfl, hCo, hAo, hbo, hO2⟩ := OutP.of_owns (X := St.X ts j) HO.out
      have HO2 := Lib.hid hO2
      have HAO := Lib.hid hAo
      have HBO := Lib.hid hbo
      have HB2 := HB
      clear HO hO2 hAo hbo HB
      go_wp2
      go_loopw [8] (fun vi wq => ∃ n : Nat, n ≤ K ∧ vi = .int .i64 (n : Int) ∧ Hid (∃ V, OutP wq w.heap.size b j 79 V (fun _ => n) (St.X ts j)) ∧ Hid (∀ m : Nat, m < n → ∀ t ∈ ts, St.blk (m : Int) t ≠ []) ∧ Hid (Below w.heap.size w wq)) (fun vi _ => K - (intOf vi).toNat)
      case atStart => exact ⟨0, Nat.zero_le _, rfl, Lib.hid ⟨_, HO2.out⟩, Lib.hid (fun m hm => absurd hm (by omega)), HB2⟩
      case round =>
        obtain ⟨n, hn, rfl, HO, HW, HB⟩ := hrel
        clear HO2 HB2
        obtain ⟨wo, rfl⟩ : ∃ x, x = wr := ⟨wr, rfl⟩
        go_wp2_with fail
        refine (refLen_any A ts C _ wo (by unfold maxLen; omega) (HR.out.old HB.out)).mono ?_
        rintro e w' ⟨rfl, rfl⟩
        rw [← HK.out]
        by_cases hlt : n < K
        · have e0 : decide (n < K) = true := decide_eq_true hlt
          go_wp2_with fail
          refine (refRow_any A ts C _ (n : Int) wo (by omega) (HR.out.old HB.out)).mono ?_
          rintro e w3 ⟨A3, C3, rfl, -, -, hr3, hb3⟩
          have HR3 := Lib.hid hr3
          have HB3 := Lib.hid (HB.out.trans (hb3.mono HB.out.size))
          have HBr := Lib.hid hb3
          clear hr3 hb3
          go_wp2
          go_loop [10] (fun vi => ∃ i : Nat, i ≤ ts.length ∧ vi = .int .i64 (i : Int) ∧ Hid (∀ k, k < i → St.lens (St.row ts (n : Int)) k ≠ 0)) (fun vi => ts.length - (intOf vi).toNat)
          case atStart => exact ⟨0, Nat.zero_le _, rfl, Lib.hid (fun k hk => absurd hk (by omega))⟩
          case round =>
            obtain ⟨i, hi, rfl, HL⟩ := hrel
            by_cases hlti : i < ts.length
            · have e1 : decide (i < ts.length) = true := decide_eq_true hlti
              obtain ⟨b3, off3, A4, C4, rfl, -, hc4, -⟩ := HR3.out.row hlti
              obtain ⟨L, hL⟩ : ∃ L, L = St.lens (St.row ts (n : Int)) i := ⟨_, rfl⟩
              rw [← hL] at hc4
              by_cases hz : L = 0
              · have HN : Hid (¬ St.Ok ts (j : Int)) := Lib.hid fun h => by
                  obtain ⟨t, ht, e⟩ := St.none_of (ts := ts) (n := (n : Int)) (emptyB_true.2 ⟨i, hlti, by rw [← hL]; exact hz⟩)
                  exact h.2 n (by rw [← HK.out]; exact hlt) t ht e
                have e2 : ((L : Int) == 0) = true := by rw [hz]; rfl
                clear hz hL
                go_wp2
                go_ret2
                exact ParA.no HN.out HB3.out
              · have e2 : ((L : Int) == 0) = false := beq_eq_false_iff_ne.2 (by omega)
                have HL2 : Hid (∀ k, k < i + 1 → St.lens (St.row ts (n : Int)) k ≠ 0) := Lib.hid fun k hk => by
                  by_cases e : k = i
                  · rw [e, ← hL]; exact hz
                  · exact HL.out k (by omega)
                clear hz hL
                go_wp2
                go_round
                case rel => exact ⟨i + 1, by omega, by go_num, HL2⟩
                case measure => simp [intOf]; omega
            · have e1 : decide (i < ts.length) = false := decide_eq_false hlti
              obtain ⟨h79, hne⟩ := St.all_of (ts := ts) (n := (n : Int)) (emptyB_false.2 fun k hk => HL.out k (by omega))
              have HW2 : Hid (∀ m : Nat, m < n + 1 → ∀ t ∈ ts, St.blk (m : Int) t ≠ []) := Lib.hid fun m hm => by
                by_cases e : m = n
                · subst e; exact hne
                · exact HW.out m (by omega)
              have hok : EncOk ts.length (St.lens (St.row ts (n : Int))) (j : Int) := ⟨hn0, fun i hi => by rw [h79 i hi, h79 0 hn0], by omega, by omega⟩
              have HOK := Lib.hid hok
              have H79 := Lib.hid h79
              clear hok h79 hne HW HL
              go_wp2_with fail
              refine (refEncode_new A3 ts.length C3 _ _ _ (j : Int) w3 (by omega) (fun h => by rw [H79.out 0 h]; omega) (by omega) (by omega) HR3.out).mono ?_
              intro e w4 hh
              obtain ⟨A4, C4, rfl, hM4, hb4⟩ := hh.made HOK.out (H79.out 0 hn0)
              obtain ⟨V0, hO⟩ := HO.out
              have HM4 := Lib.hid hM4
              have HB4 := Lib.hid (HB3.out.trans (hb4.mono HB3.out.size))
              have HO4 := Lib.hid ((hO.old HBr.out).old hb4)
              have HS3 := Lib.hid HB3.out.size
              have HLT : Hid (0 < j → ∀ x, (x = b ∨ ∃ i, i < j ∧ (V0 i).ownBlock = some x) → x < w3.heap.size) := Lib.hid fun hp x hx => by
                rcases hx with rfl | ⟨i, hi, e⟩
                · exact (((hO.old HBr.out).top hp).lt)
                · exact (((hO.old HBr.out).rows i hi).lt e).2
              clear hh hM4 hb4 hO HO HB3 HB HR3 HBr HOK H79
              go_wp2
              go_loopw [13] (fun vj wq => ∃ k : Nat, k ≤ j ∧ vj = .int .i64 (k : Int) ∧ Hid (Inn w w4 wq b j n k V0 (St.X ts j))) (fun vj _ => j - (intOf vj).toNat)
              case atStart => exact ⟨0, Nat.zero_le _, rfl, Lib.hid (Inn.start HO4.out)⟩
              case round =>
                obtain ⟨k, hk, rfl, HI⟩ := hrel
                by_cases hltk : k < j
                · have e2 : decide (k < j) = true := decide_eq_true hltk
                  obtain rfl := HBO.out (by omega)
                  obtain ⟨b2, r, c, rfl, -, hc, hC, hrr, hR⟩ := (HM4.out.kp HI.out.kp (HLT.out (by omega))) k hltk
                  obtain ⟨Av, Cv, us, hcv, hfv, hbl, hown, hnext⟩ := HI.out.next hltk
                  have hlow : w.heap.size ≤ wr.heap.size := (HI.out.below HO4.out HB4.out).size
                  obtain ⟨x9, hx9⟩ : ∃ x9, x9 = (wr.alloc (.cells #[.slice (some ⟨r, 0, none⟩) 79 c] 34)).drew := ⟨_, rfl⟩
                  have hb9 : Below wr.heap.size wr x9 := by rw [hx9]; exact ((Below.refl _ wr).alloc (Nat.le_refl _) _).drew
                  have hown9 : x9.ownsRow w.heap.size 34 1 (.slice Av n Cv) n us := own_old hown hb9
                  obtain ⟨g, cap, w5, hr9, hown5, hg5, hat5⟩ := lies_run x9 w.heap.size (.slice Av n Cv) n us hown9 (by omega) ⟨wr.heap.size, 0, none⟩ 1 (.slice (some ⟨r, 0, none⟩) 79 c) rfl (by rw [hx9]; exact oneCell _ _ _) (Nat.le_trans hlow hb9.size)
                  obtain ⟨c5, f5, hI5⟩ := hnext x9 w5 g cap r c _ hb9 hg5 hown5 (hat5.imp id fun e => by rw [e]; exact hb9.size) hC (Nat.le_trans HS3.out hrr) hR (fun x _ => rfl)
                  have HI5 := Lib.hid hI5
                  have hcvd : wr.drew.cell? ⟨b, k, none⟩ = some (.slice Av n Cv) := hcv
                  have hcd : wr.drew.cell? ⟨b2, k, none⟩ = some (.slice (some ⟨r, 0, none⟩) 79 c) := hc
                  have hcvx : ((wr.alloc (.cells #[.slice (some ⟨r, 0, none⟩) 79 c] 34)).drew).cell? ⟨b, k, none⟩ = some (.slice Av n Cv) := by rw [← hx9]; exact (hb9.cell (World.block_lt_of_cell? _ _ hcv)).trans hcv
                  rw [hx9] at hr9
                  clear hx9 hb9 hown9 hown5 hg5 hat5 hnext hI5 hown hR hC hrr
                  go_wp2_with fail
                  go_region_law (first
                    | (refine step_append_eq (by rfl) _ _ _ _ (by rfl) _ _ _ _ hr9 (by rfl) (by rfl) ?_))
                  all_goals
                    go_wp2
                    go_roundw
                    case rel => exact ⟨k + 1, by omega, by go_num, HI5⟩
                    case measure => simp [intOf]; omega
                · have e2 : decide (k < j) = false := decide_eq_false hltk
                  obtain rfl : k = j := by omega
                  have HO5 := Lib.hid HI.out.done
                  have HB5 := Lib.hid (HI.out.below HO4.out HB4.out)
                  clear HI
                  go_wp2
                  go_roundw
                  case rel => exact ⟨n + 1, by omega, by go_num, HO5, HW2, HB5⟩
                  case measure => simp [intOf]; omega
        · have e0 : decide (n < K) = false := decide_eq_false hlt
          obtain rfl : n = K := by omega
          obtain ⟨V, hO⟩ := HO.out
          have HF := Lib.hid (hO.rdP (n := n) fun _ _ => rfl)
          have HOK : Hid (St.Ok ts (j : Int)) := Lib.hid ⟨⟨hn0, by omega, by omega⟩, fun m hm => HW.out m (by rw [HK.out]; exact hm)⟩
          have HF2 : Hid (RdP wo Ao j (St.len ts) 79 (St.X ts j) (w.heap.size ≤ ·)) := Lib.hid fun hj0 => by
            have e := HBO.out hj0
            rw [e]
            have := HF.out hj0
            rw [HK.out] at this
            exact this
          clear hO HO HW HF
          go_wp2
          go_ret2
          exact ParA.yes HOK.out hCo HAO.out HF2.out HB.out
set_option maxHeartbeats 2000000 in
theorem refParity_any (A : Option Addr) (ts : List St.T) (C : Nat) (G : Nat → Prop) (p : Int) (w : World) (hn : ts.length ≤ 1000000) (hp : -9223372036854775808 ≤ p) (hp' : p ≤ 9223372036854775807) (hl : St.len ts ≤ 1000000) (hr : RdT w A ts G) :
    Calls Tryz.prog 25 #[.slice A ts.length C, .int .i64 p] w (ParA ts p w) := by
  by_cases ha : St.Arg ts p
  · obtain ⟨k, rfl⟩ : ∃ k : Nat, p = (k : Int) := ⟨p.toNat, by have := ha.2.1; omega⟩
    exact refParity_main A ts C G k w (by have := ha.1; omega) (by have := ha.2.2; omega) hl hr
  · have HN : Hid (¬ St.Ok ts p) := Lib.hid fun h => ha h.1
    have hq : decide ((ts.length : Int) < 1) = true ∨ (decide ((ts.length : Int) < 1) = false ∧ decide (p < 0) = true) ∨ (decide ((ts.length : Int) < 1) = false ∧ decide (p < 0) = false ∧ decide (255 < p) = true) ∨ (decide ((ts.length : Int) < 1) = false ∧ decide (p < 0) = false ∧ decide (255 < p) = false ∧ decide (255 < (ts.length : Int) + p) = true ∧ IntKind.i64.wrap ((ts.length : Int) + p) = (ts.length : Int) + p) := by
      by_cases a : (ts.length : Int) < 1
      · exact .inl (decide_eq_true a)
      · refine .inr ?_
        by_cases a2 : p < 0
        · exact .inl ⟨decide_eq_false a, decide_eq_true a2⟩
        · refine .inr ?_
          by_cases a3 : 255 < p
          · exact .inl ⟨decide_eq_false a, decide_eq_false a2, decide_eq_true a3⟩
          · refine .inr ⟨decide_eq_false a, decide_eq_false a2, decide_eq_false a3, decide_eq_true ?_, IntWalk.i64_in _ (by omega)⟩
            refine Int.not_le.1 fun h => ha ⟨by omega, by omega, by omega⟩
    clear ha hr
    rcases hq with q1 | ⟨q1, q2⟩ | ⟨q1, q2, q3⟩ | ⟨q1, q2, q3, q4, q5⟩
    all_goals
      go_enter Tryz.func25, Tryz.ntmps25
      go_wp2
      go_ret2
      exact ParA.no HN.out (Below.refl _ _)
end Go.Proofs.YtcokmmanajdioaaGreat
namespace Go.Proofs.YtcokmmanajdioaaGreat
open Go.RowKit
open Pt (Tx)

theorem Rt.step {wa w2 : World} {B tB : Nat} {G : Nat → Prop} {lab cap : Int} {bs : List Tx} {v : Value} {us : List Value} {s : Tx} {A2 : Option Addr} {n2 C2 B2 : Nat} (hM : wa.heap[tB]? = some (.cells #[.int .i64 lab, .int .i64 cap, v, .bool false] 31 (0, 0))) (hT : TopB wa B G v us bs) (hlo : B ≤ tB) (hB : B ≤ wa.heap.size)
    (hA : Below wa.heap.size wa w2) (hu : OwnL w2 B2 (.slice A2 n2 C2) s) (hB2 : wa.heap.size ≤ B2) (hG : ∀ k, wa.heap.size ≤ k → G k) (hl : us.length ≤ 1000000) (N : Nat) (hN : N = us.length + 1) :
    ∃ g cp w3, (∀ ty, (Builtin.append_ #[29, 29] ty #[v, .slice (some ⟨w2.heap.size, 0, none⟩) 1 1]).run Tryz.prog (w2.alloc (.cells #[.slice A2 n2 C2] 34)) = .ok (.slice (some ⟨g, 0, none⟩) N cp) w3)
      ∧ w3.heap[tB]? = some (.cells #[.int .i64 lab, .int .i64 cap, v, .bool false] 31 (0, 0)) ∧ Rt (w3.setCell ⟨tB, 2, none⟩ (.slice (some ⟨g, 0, none⟩) N cp)) B tB G lab cap (bs ++ [s]) ∧ Below B wa w3 ∧ Below B wa (w3.setCell ⟨tB, 2, none⟩ (.slice (some ⟨g, 0, none⟩) N cp)) := by
  subst hN
  have hsz : (w2.alloc (.cells #[.slice A2 n2 C2] 34)).heap.size = w2.heap.size + 1 := by simp
  have ha : Below w2.heap.size w2 (w2.alloc (.cells #[.slice A2 n2 C2] 34)) := (Below.refl _ _).alloc (Nat.le_refl _) _
  have hA' : Below wa.heap.size wa (w2.alloc (.cells #[.slice A2 n2 C2] 34)) := hA.alloc hA.size _
  have htop : (w2.alloc (.cells #[.slice A2 n2 C2] 34)).ownsRow B 34 1 v us.length us := own_of hT.top fun k e => hA'.block k (hT.top.lt k e).2
  obtain ⟨g, cp, w3, hr, ho, hg, -⟩ := lies_run _ B v us.length us htop hl ⟨w2.heap.size, 0, none⟩ 1 (.slice A2 n2 C2) rfl (oneCellT w2 (.slice A2 n2 C2) 34) (by have := hA.size; omega)
  have hu' : OwnL w2 B (.slice A2 n2 C2) s := own_down hu (Nat.le_trans hB hB2)
  obtain ⟨e, hrt, hrf⟩ := Rt.pushed (G := G) hM hT hlo hA hu' (fun k e => Nat.le_trans hB2 (hu.lo k e)) hG ho hg
  have hb3 : Below B wa w3 := (hA'.mono hB).grown hg (Nat.le_trans hB hA'.size) fun k e => (hT.top.lt k e).1
  exact ⟨g, cp, w3, hr, by rw [e]; exact hM, hrt, hb3, hrf.below hB⟩
/-- the blocks of what is said, one more -/
theorem framed_take {label : Int} {l : List (Int × Tx)} {n : Nat} {u : Int × Tx} (h : l[n]? = some u) : (framedL label l).take (n + 1) = (framedL label l).take n ++ [Fm.blk ⟨u.1, label, (n : Int), u.2⟩] := by
  obtain ⟨hn, rfl⟩ := List.getElem?_eq_some_iff.1 h
  rw [List.take_succ_eq_append_getElem (by rw [framedL_len]; exact hn), framedL_at hn]
theorem says_len (rows : List Tx) (s : Rc.S) : (says rows s).length = rows.length + 2 := by simp [says]
theorem says_first (rows : List Tx) (s : Rc.S) : (says rows s)[0]? = some (1, [80]) := rfl
theorem says_row {rows : List Tx} {s : Rc.S} {n : Nat} (hn : n < rows.length) : (says rows s)[n + 1]? = some (6, rows[n]) := by
  unfold says
  rw [List.getElem?_append_left (by simp; omega)]
  simp [hn]
theorem says_end {rows : List Tx} {s : Rc.S} {n : Nat} (hn : n = rows.length) : (says rows s)[n + 1]? = some (5, Rc.sput s) := by
  subst hn
  unfold says
  rw [List.getElem?_append_right (by simp)]
  simp
theorem beq_zero (K : Nat) : ((K : Int) == 0) = decide (K = 0) := by
  rw [Bool.eq_iff_iff]; simp
end Go.Proofs.YtcokmmanajdioaaGreat
namespace Go.Proofs.YtcokmmanajdioaaGreat
open Go.RowKit Mx

/-- the data, and below it its parity -/
def encD (d p : Nat) (D : Mat) : Mat := fun x c => if x < d then D x c else par d p D (x - d) c
theorem mv_encM (d p : Nat) (at_ : Nat → Nat) (D : Mat) (c t : Nat) : mv d (encM d p at_) (fun x => D x c) t = encD d p D (at_ t) c := by
  unfold encD
  by_cases h : at_ t < d
  · rw [if_pos h, ← mv_one h (fun x => D x c)]
    exact sm_congr fun k _ => by
      show (if at_ t < d then one (at_ t) k else cau p (at_ t - d) k) * _ = _
      rw [if_pos h]
  · rw [if_neg h]
    exact sm_congr fun k _ => by
      show (if at_ t < d then one (at_ t) k else cau p (at_ t - d) k) * _ = _
      rw [if_neg h]
theorem ResM.congr {code : Int} {n m : Nat} {M M' : Mat} {w : World} {e : Ending} {w' : World} (h : ResM code n m M w e w') (he : ∀ i, i < n → ∀ j, j < m → M i j = M' i j) : ResM code n m M' w e w' := by
  obtain ⟨A, C, h1, h2, h3⟩ := h
  exact ⟨A, C, h1, h2.congr (fun _ _ => rfl) he, h3⟩
/-- what is there is of one Encode: too few, or the data -/
theorem DecAny.tells {d p m : Nat} {L : Nat → Nat} {D H : Mat} (hd0 : 0 < d) (hdp : d + p ≤ 255) (hL : ∀ x, x < d + p → L x = 0 ∨ L x = m) (hH : ∀ x, x < d + p → 0 < L x → ∀ c, c < m → H x c = encD d p D x c)
    {w : World} {e : Ending} {w' : World} (h : DecAny (d + p) L H (d : Int) w e w') :
    if plsN (there L) (d + p) = 0 then ResM 1 0 0 one w e w' else if plsN (there L) (d + p) < d then ResM 10 0 0 one w e w' else ResM 0 d m D w e w' := by
  have hin : ∀ j, j < plsN (there L) (d + p) → plsAt (there L) (d + p) j < d + p ∧ L (plsAt (there L) (d + p) j) = m := fun j hj => by
    obtain ⟨h1, h2⟩ := plsAt_in hj
    refine ⟨h1, ?_⟩
    have := there_true.1 h2
    rcases hL _ h1 with h3 | h3
    · omega
    · exact h3
  unfold DecAny at h
  by_cases h0 : plsN (there L) (d + p) = 0
  · rw [if_pos h0]
    rw [if_neg (fun hh => by have := hh.2.2.2.1; omega)] at h
    exact h
  · rw [if_neg h0]
    rw [if_pos ⟨by omega, by omega, hdp, by omega, fun j hj => by rw [(hin j hj).2, (hin 0 (by omega)).2]⟩, Int.toNat_natCast] at h
    by_cases h1 : plsN (there L) (d + p) < d
    · rw [if_pos h1] at h ⊢; exact h
    · rw [if_neg h1] at h ⊢
      rw [(hin 0 (by omega)).2, Nat.add_sub_cancel_left] at h
      refine h.congr fun x hx c hc => ?_
      refine dec_back hdp (fun s t hs ht => plsAt_up hs (by omega)) (fun t ht => (hin t (by omega)).1) D _ (fun t ht => ?_) hx
      have ht' := hin t (by omega)
      rw [mv_encM]
      exact hH _ ht'.1 (there_true.1 (plsAt_in (show t < plsN (there L) (d + p) by omega)).2) c hc
end Go.Proofs.YtcokmmanajdioaaGreat
namespace Go.Proofs.YtcokmmanajdioaaGreat.Me
open Go.RowKit Mx Go.Proofs.YtcokmmanajdioaaGreat
open Pt (Tx)

/-- a tape of data, all of whose blocks are good frames -/
def Fine (t : St.T) : Prop := t.lost = false ∧ ∀ n (h : n < t.blocks.length), (Vo.good (Gr.vo t) n).isSome = true ∧ t.blocks[n].length = 79
theorem dataRow_fine {t : St.T} (h : Fine t) (n : Nat) : dataRow t n = St.blk (n : Int) t := by
  unfold dataRow
  by_cases hn : t.blocks.length ≤ n
  · rw [if_pos ⟨h.1, hn⟩, St.blk_none (.inr (.inr (by omega)))]
  · have hn' : n < t.blocks.length := by omega
    have e : t.blocks.getD n [] = t.blocks[n] := by rw [List.getD_eq_getElem?_getD, List.getElem?_eq_getElem hn']; rfl
    rw [if_neg (fun hh => hn hh.2), e, if_pos ⟨(h.2 n hn').1, (h.2 n hn').2⟩, St.blk_some h.1 hn' (h.2 n hn').2]
theorem blk_fine {t : St.T} (h : Fine t) (n : Nat) : (St.blk (n : Int) t).length = 79 := by
  rcases St.blk_len (n : Int) t with h1 | h1
  · exact h1
  · rw [← dataRow_fine h n] at h1
    rcases dataRow_len t n with h2 | h2
    · exfalso
      rw [dataRow_fine h n] at h1
      by_cases hn : n < t.blocks.length
      · rw [St.blk_some h.1 hn (h.2 n hn).2] at h1
        have := (h.2 n hn).2
        rw [h1] at this
        cases this
      · rw [St.blk_none (.inr (.inr (by omega)))] at h1
        have := St.zeros_len
        rw [h1] at this
        cases this
    · rw [dataRow_fine h n] at h2; exact h2
theorem dataRow_lost {t : St.T} (h : t.lost = true) (n : Nat) : dataRow t n = [] := by
  unfold dataRow
  rw [if_neg (fun hh => by rw [h] at hh; cases hh.1), if_neg (fun hh => ?_)]
  have h1 := hh.1
  unfold Vo.good Gr.vo at h1
  rw [if_pos h] at h1
  cases h1
theorem parityRow_lost {t : St.T} (h : t.lost = true) (n : Nat) : parityRow t n = [] := by
  unfold parityRow Vo.good Gr.vo
  rw [if_pos h]; rfl
/-- a parity tape's row -/
theorem parityRow_made {data blank : List St.T} {number : Int} (hs : Rc.SOk (Gr.sealOf data blank number 0)) (hlen : St.len data ≤ 1000000) {i n : Nat} (hi : i < blank.length) (hn : n < St.len data) :
    parityRow (Gr.madeT data blank number i blank[i]) n = lst (St.X data blank.length i n) 79 := by
  have hlab := Gr.seal_labels hs (List.mem_append_right data (List.getElem_mem hi))
  have hrl := Gr.rowsOf_len data blank.length i
  have hok := says_ok (label := blank[i].label) (rows := Gr.rowsOf data blank.length i) (s := Gr.sealOf data blank number (data.length + i)) hlab (fun b hb => Nat.le_of_eq (Gr.rowsOf_79 hb)) (by rw [hrl]; exact hlen)
  have hrow := says_row (s := Gr.sealOf data blank number (data.length + i)) (show n < (Gr.rowsOf data blank.length i).length by rw [hrl]; exact hn)
  have hu := hok (n + 1) _ hrow
  have hin := (List.getElem?_eq_some_iff.1 hrow).1
  have hb : (framedL blank[i].label (says (Gr.rowsOf data blank.length i) (Gr.sealOf data blank number (data.length + i))))[n + 1]? = some (Fm.blk ⟨6, blank[i].label, ((n + 1 : Nat) : Int), (Gr.rowsOf data blank.length i)[n]'(by rw [hrl]; exact hn)⟩) := by
    rw [List.getElem?_eq_getElem (by rw [framedL_len]; exact hin), framedL_at hin]
    have e := (List.getElem?_eq_some_iff.1 hrow).2
    rw [e]
  have hg : Vo.good (Gr.vo (Gr.madeT data blank number i blank[i])) (n + 1) = some ⟨6, blank[i].label, ((n + 1 : Nat) : Int), (Gr.rowsOf data blank.length i)[n]'(by rw [hrl]; exact hn)⟩ :=
    Vo.good_at rfl hb hu rfl rfl
  unfold parityRow
  rw [hg]
  show (if (6 : Int) = 6 ∧ ((Gr.rowsOf data blank.length i)[n]'(by rw [hrl]; exact hn)).length = 79 then _ else _) = _
  rw [if_pos ⟨rfl, Gr.rowsOf_79 (List.getElem_mem _)⟩]
  simp [Gr.rowsOf]
/-- the data's row and its parity -/
theorem encD_data {data : List St.T} {p n x : Nat} (hx : x < data.length) : encD data.length p (St.mat (St.row data (n : Int))) x = rowL (St.blk (n : Int) data[x]) := by
  funext c
  unfold encD
  rw [if_pos hx]
  have h : x < (St.row data (n : Int)).length := by rw [St.row_len]; exact hx
  have e : (St.row data (n : Int))[x] = St.blk (n : Int) data[x] := by simp [St.row]
  rw [St.mat_at h, e]
theorem encD_par {data : List St.T} {p n i : Nat} : encD data.length p (St.mat (St.row data (n : Int))) (data.length + i) = St.X data p i n := by
  funext c
  unfold encD
  rw [if_neg (by omega), Nat.add_sub_cancel_left]; rfl
end Go.Proofs.YtcokmmanajdioaaGreat.Me
