/- What Cauchy of package matrix answers, whatever it is given. What Encode of package erasure answers, whatever it is given. What the inner function parityOf of package stripe answers: a row without bytes is told, and else Encode's answer. What Parity of package stripe answers. What Make of package group answers: the parity tapes of a group, or why none. What Make of package group answers where nothing stands against it: the parity tapes. What the document's own Writer writes. A Writer of the document's own at work. What the document's own PutFrame answers. -/
import Derived.Test.YtfkoomldncfdnaaGreatMj
import Derived.Test.YtfkoomldncfdnaaGreatMh
import Derived.Test.YtfkoomldncfdnaaGreatMg
import Derived.Deep.AppendLies
import Derived.Deep.RegionHeld3
import Derived.Deep.DeepFit
import Derived.Test.YtfkoomldncfdnaaGreatMc
import Derived.Test.YtfkoomldncfdnaaGreatChecked
import Derived.OwnWalk
import Derived.Handy
import Derived.WalkSpells
import Derived.WalkLawsBesides
import Derived.StillTailTactics
import Derived.Laws.BitsAllLaws
import Derived.Laws.BitsLemmas
import Derived.Test.YtfkoomldncfdnaaGreatMe
import Derived.Deep.RegionLaw
import Derived.Deep.DeepCutAuto
import Derived.IntWalk
namespace Go.Proofs.YtfkoomldncfdnaaGreat
open Go.RowKit Mx

set_option maxHeartbeats 1000000 in
theorem cauchy_bad (d p : Int) (w : World) (_hd : -9223372036854775808 ≤ d) (_hd' : d ≤ 9223372036854775807) (_hp : -9223372036854775808 ≤ p) (_hp' : p ≤ 9223372036854775807) (h : d < 1 ∨ p < 1 ∨ 255 < p ∨ 255 - p < d) :
    Calls Tryz.prog 72 #[.int .i64 d, .int .i64 p] w (ResM 1 0 0 one w) := by
  by_cases h1 : d < 1
  · clear h
    go_enter Tryz.func72, Tryz.ntmps72
    go_wp2
    go_ret2
    exact ResM.bad w (Below.refl _ _)
  · by_cases h2 : p < 1
    · clear h
      go_enter Tryz.func72, Tryz.ntmps72
      go_wp2
      go_ret2
      exact ResM.bad w (Below.refl _ _)
    · by_cases h3 : 255 < p
      · clear h
        go_enter Tryz.func72, Tryz.ntmps72
        go_wp2
        go_ret2
        exact ResM.bad w (Below.refl _ _)
      · have h4 : 255 - p < d := by omega
        clear h
        go_enter Tryz.func72, Tryz.ntmps72
        go_wp2
        go_ret2
        exact ResM.bad w (Below.refl _ _)
set_option maxRecDepth 100000 in
set_option maxHeartbeats 2000000 in
theorem cauchy_main (d p : Nat) (w : World) (hd0 : 0 < d) (hp0 : 0 < p) (hdp : d + p ≤ 255) :
    Calls Tryz.prog 72 #[.int .i64 (d : Int), .int .i64 (p : Int)] w (ResM 0 p d (cau p) w) := by
  have hmk := run_make_row' (P := Tryz.prog) 47 42 (.slice none 0 0) 24 Tryz.underlying47 infoRow rfl .i64 .i64 p (by omega) (by omega)
  have HMK := Lib.hid (run_make_row' (P := Tryz.prog) 42 5 (.int .u8 0) 1 Tryz.underlying42 infoByte rfl .i64 .i64 d (by omega) (by omega))
  go_enter Tryz.func72, Tryz.ntmps72
  go_wp2
  clear hmk
  go_loopw [29] (fun vi wr => ∃ i : Nat, i ≤ p ∧ vi = .int .i64 (i : Int) ∧ Hid (∃ G C, OwnK wr w.heap.size w.heap.size p i d G C (cau p)) ∧ Hid (Below w.heap.size w wr)) (fun vi _ => p - (intOf vi).toNat)
  case atStart => exact ⟨0, by omega, rfl, Lib.hid ⟨fun _ => 0, fun _ => 0, OwnK.start w _ p d _ _ _⟩, Lib.hid ((Below.refl _ _).alloc (Nat.le_refl _) _)⟩
  case round =>
    obtain ⟨i, hi, rfl, HO, HB⟩ := hrel
    obtain ⟨G1, Cp1, hO⟩ := HO.out
    have HO' := Lib.hid hO
    clear hO HO
    by_cases hlt : i < p
    · have hb1 : Below wr.heap.size wr (wr.alloc (.cells (madeCells #[.int .u8 0] d) 5)) := (Below.refl _ _).alloc (Nat.le_refl _) _
      have hO1 := HO'.out.old hb1
      have hct := hO1.top.cell hlt
      rw [if_neg (by omega)] at hct
      have hft := hO1.top.frozen i
      have hP := HO'.out.push hb1 (Nat.le_refl _) HB.out.size (Nat.le_refl d) (RowAt.made wr d)
      have hct2 := hP.top.cell hlt
      simp only [if_true, show i < i + 1 by omega] at hct2
      have HP := Lib.hid hP
      have HB1 := Lib.hid ((HB.out.trans (hb1.mono HB.out.size)).setCell (p := ⟨w.heap.size, i, none⟩) (Nat.le_refl _) (.slice (some ⟨wr.heap.size, 0, none⟩) d d))
      have hmk := HMK.out
      clear hb1 hO1 hP
      go_wp2
      clear hmk hct hft hct2
      generalize (wr.alloc (.cells (madeCells #[.int .u8 0] d) 5)).setCell ⟨w.heap.size, i, none⟩ (.slice (some ⟨wr.heap.size, 0, none⟩) d d) = ws at HP HB1 ⊢
      obtain ⟨G2, hG2⟩ : ∃ g, g = (fun r => if r = i then wr.heap.size else G1 r) := ⟨_, rfl⟩
      obtain ⟨C2, hC2⟩ : ∃ g, g = (fun r => if r = i then d else Cp1 r) := ⟨_, rfl⟩
      rw [← hG2, ← hC2] at HP
      clear hG2 hC2 HO' HB
      go_loopw [42] (fun vj wq => ∃ j : Nat, j ≤ d ∧ vj = .int .i64 (j : Int) ∧ Hid (OwnK wq w.heap.size w.heap.size p (i + 1) d G2 C2 (fun r => if r = i then (fun c => if c < j then cau p i c else 0) else cau p r)) ∧ Hid (Below w.heap.size w wq)) (fun vj _ => d - (intOf vj).toNat)
      case atStart => exact ⟨0, by omega, rfl, HP, HB1⟩
      case round =>
        obtain ⟨j, hj, rfl, HO2, HB2⟩ := hrel
        clear HP HB1
        by_cases hlt2 : j < d
        · have d1 := HO2.out.top.cell hlt
          rw [if_pos (by omega)] at d1
          have hrow := HO2.out.rows i (by omega)
          rw [if_pos rfl] at hrow
          have d2 := hrow.cell hlt2
          have f2 := hrow.frozen j
          have HRW := Lib.hid hrow
          have HCI := Lib.hid (cau_int (p := p) (i := i) (j := j) (by omega) (by omega))
          clear hrow
          have s1 : (0 : Int) ≤ (p : Int) + (j : Int) := by omega
          have s2 : (p : Int) + (j : Int) < 256 := by omega
          have s3 : IntKind.i64.wrap ((p : Int) + (j : Int)) = (p : Int) + (j : Int) := IntWalk.i64_in _ (by omega)
          have s4 : IntKind.u8.wrap ((p : Int) + (j : Int)) = (p : Int) + (j : Int) := IntWalk.u8_in _ (by omega)
          have s5 : IntKind.u8.wrap (i : Int) = (i : Int) := IntWalk.u8_in _ (by omega)
          go_wp2
          refine wp_region_still_tail 14 (by kernel_rfl) (by kernel_rfl) ?_
          simp only [List.take_succ_cons, List.take_zero, List.drop_succ_cons, List.drop_zero]
          repeat still_step
          still_call (add_ist (i : Int) ((p : Int) + (j : Int)) _ (by omega) (by omega) (by omega) (by omega))
          still_call (inv_ist _ _ (gadd_rng _ _ (by omega) (by omega) (by omega) (by omega)).1 (gadd_rng _ _ (by omega) (by omega) (by omega) (by omega)).2)
          repeat still_step
          refine wpStill_nil ?_
          rw [HCI.out]
          change wpList _ _ _ _ _ wr.drew
          clear s3 s4 s5
          go_wp2
          go_roundw
          case rel =>
            refine ⟨j + 1, by omega, by go_num, Lib.hid ((HO2.out.drew.turn (i := i) (by omega) (Kp.store wr.drew (G2 i) j (.int .u8 (fi (cau p i j)))) (HRW.out.set j (cau p i j))).congr fun r _ c _ => ?_), Lib.hid ((HB2.out.drew).setCell (p := ⟨G2 i, j, none⟩) (HO2.out.lo i (by omega)) _)⟩
            by_cases e : r = i
            · rw [if_pos e, if_pos e]
              exact upTo_step (f := fun _ => 0) (h := fun c => cau p i c)
            · rw [if_neg e, if_neg e, if_neg e]
          case measure => simp [intOf]; omega
        · have HO3 : Hid (∃ G C, OwnK wr w.heap.size w.heap.size p (i + 1) d G C (cau p)) := Lib.hid ⟨_, _, HO2.out.congr fun r _ c hc => by
            by_cases e : r = i
            · rw [if_pos e, if_pos (by omega), e]
            · rw [if_neg e]⟩
          clear HO2
          go_wp2
          go_roundw
          case rel => exact ⟨i + 1, by omega, by go_num, HO3, HB2⟩
          case measure => simp [intOf]; omega
    · obtain rfl : i = p := by omega
      go_wp2
      go_ret2
      exact ⟨_, _, rfl, HO'.out.rdAll (Nat.le_refl _), HB.out⟩
end Go.Proofs.YtfkoomldncfdnaaGreat
namespace Go.Proofs.YtfkoomldncfdnaaGreat
open Go.RowKit Mx

set_option maxHeartbeats 2000000 in
theorem encode_main (A : Option Addr) (n C : Nat) (L : Nat → Nat) (D : Mat) (G : Nat → Prop) (p : Nat) (w : World) (hn0 : 0 < n) (hp0 : 0 < p) (hnp : n + p ≤ 255) (ha : ∀ i, i < n → L i = L 0) (hL : L 0 ≤ 1000000) (h : RdM w A n L D G) :
    Calls Tryz.prog 50 #[.slice A n C, .int .i64 (p : Int)] w (OwnM 0 p (L 0) (par n p D) w) := by
  have HA := Lib.hid (alikeB_true.2 ha)
  have H := Lib.hid h
  have H2 := Lib.hid (h.congr (L' := fun _ => L 0) (M' := D) ha (fun _ _ _ _ => rfl))
  have q1 : decide ((p : Int) < 0) = false := decide_eq_false (by omega)
  have q2 : decide ((255 : Int) - (n : Int) < (p : Int)) = false := decide_eq_false (by omega)
  have q3 : ((p : Int) == 0) = false := beq_eq_false_iff_ne.2 (by omega)
  clear h ha
  go_enter Tryz.func50, Tryz.ntmps50
  go_wp2_with fail
  refine (alike_is _ n C L D _ _ true (by unfold maxLen; omega) H.out HA.out).mono ?_
  rintro e w' ⟨rfl, rfl⟩
  go_wp2_with fail
  refine (cauchy_main n p _ hn0 hp0 hnp).mono ?_
  rintro e w1 ⟨A1, C1, rfl, hr1, hB1⟩
  have HR1 := Lib.hid hr1
  have HB1 := Lib.hid hB1
  clear hr1 hB1
  go_wp2_with fail
  refine (applied_own _ p C1 (cau p) _ _ n C (L 0) D _ _ hp0 (by omega) hn0 (by omega) hL HR1.out (H2.out.old HB1.out)).mono ?_
  rintro e w2 ⟨b, G2, C2, rfl, hb, hO, hB2⟩
  have HO := Lib.hid hO
  have HB2 := Lib.hid hB2
  clear hO hB2
  go_wp2
  go_ret2
  exact ⟨b, G2, C2, rfl, Nat.le_trans HB1.out.size hb, HO.out.down HB1.out.size, HB1.out.trans (HB2.out.mono HB1.out.size)⟩
set_option maxHeartbeats 2000000 in
theorem encode_new (A : Option Addr) (n C : Nat) (L : Nat → Nat) (D : Mat) (G : Nat → Prop) (p : Int) (w : World) (hn : n ≤ maxLen) (hL : 0 < n → L 0 ≤ 1000000) (hp : -9223372036854775808 ≤ p) (hp' : p ≤ 9223372036854775807) (h : RdM w A n L D G) :
    Calls Tryz.prog 50 #[.slice A n C, .int .i64 p] w (EncNew n L D p w) := by
  have HN := Lib.hid hn
  unfold maxLen at hn
  have H := Lib.hid h
  clear h
  by_cases h1 : n < 1
  · have HE : Hid (¬ EncOk n L p) := Lib.hid fun hh => by have := hh.1; omega
    go_enter Tryz.func50, Tryz.ntmps50
    go_wp2
    go_ret2
    exact EncNew.bad HE.out w (Below.refl _ _)
  · cases ha : alikeB n L with
    | false =>
      have HE : Hid (¬ EncOk n L p) := Lib.hid fun hh => by
        rw [alikeB_true.2 hh.2.1] at ha; cases ha
      have HA := Lib.hid ha
      clear ha
      go_enter Tryz.func50, Tryz.ntmps50
      go_wp2_with fail
      refine (alike_is _ n C L D _ _ false HN.out H.out HA.out).mono ?_
      rintro e w' ⟨rfl, rfl⟩
      go_wp2
      go_ret2
      exact EncNew.bad HE.out w (Below.refl _ _)
    | true =>
      have HA := Lib.hid ha
      clear ha
      by_cases h2 : p < 0
      · have HE : Hid (¬ EncOk n L p) := Lib.hid fun hh => by have := hh.2.2.1; omega
        go_enter Tryz.func50, Tryz.ntmps50
        go_wp2_with fail
        refine (alike_is _ n C L D _ _ true HN.out H.out HA.out).mono ?_
        rintro e w' ⟨rfl, rfl⟩
        go_wp2
        go_ret2
        exact EncNew.bad HE.out w (Below.refl _ _)
      · by_cases h3 : 255 - (n : Int) < p
        · have HE : Hid (¬ EncOk n L p) := Lib.hid fun hh => by have := hh.2.2.2; omega
          go_enter Tryz.func50, Tryz.ntmps50
          go_wp2_with fail
          refine (alike_is _ n C L D _ _ true HN.out H.out HA.out).mono ?_
          rintro e w' ⟨rfl, rfl⟩
          go_wp2
          go_ret2
          exact EncNew.bad HE.out w (Below.refl _ _)
        · obtain ⟨k, rfl⟩ : ∃ k : Nat, p = (k : Int) := ⟨p.toNat, by omega⟩
          have hok : EncOk n L (k : Int) := ⟨by omega, alikeB_true.1 HA.out, by omega, by omega⟩
          by_cases h4 : k = 0
          · have HE := Lib.hid hok
            subst h4
            clear hok
            go_enter Tryz.func50, Tryz.ntmps50
            go_wp2_with fail
            refine (alike_is _ n C L D _ _ true HN.out H.out HA.out).mono ?_
            rintro e w' ⟨rfl, rfl⟩
            go_wp2
            go_ret2
            exact EncNew.none HE.out w (Below.refl _ _)
          · exact (encode_main A n C L D G k w (by omega) (by omega) (by omega) (alikeB_true.1 HA.out) (hL (by omega)) H.out).mono fun e w' hh => EncNew.some hok (by omega) hh.new
theorem encode_any (A : Option Addr) (n C : Nat) (L : Nat → Nat) (D : Mat) (G : Nat → Prop) (p : Int) (w : World) (hn : n ≤ maxLen) (hL : 0 < n → L 0 ≤ 1000000) (hp : -9223372036854775808 ≤ p) (hp' : p ≤ 9223372036854775807) (h : RdM w A n L D G) :
    Calls Tryz.prog 50 #[.slice A n C, .int .i64 p] w (EncAny n L D p w) :=
  (encode_new A n C L D G p w hn hL hp hp' h).mono fun _ _ hh => hh.any
set_option maxHeartbeats 1000000 in
/-- rows all as long: parity, or nil where none is asked for -/
theorem encode_ok (A : Option Addr) (n C : Nat) (L : Nat → Nat) (D : Mat) (G : Nat → Prop) (p : Nat) (w : World) (hn0 : 0 < n) (hnp : n + p ≤ 255) (ha : ∀ i, i < n → L i = L 0) (hL : L 0 ≤ 1000000) (h : RdM w A n L D G) :
    Calls Tryz.prog 50 #[.slice A n C, .int .i64 (p : Int)] w fun e w' => ∃ A' C', e = .returned (.tuple #[.slice A' p C', .int .i64 0]) ∧ (A' = none → p = 0 ∧ C' = 0) ∧ RdM w' A' p (fun _ => L 0) (par n p D) (· < w'.heap.size) ∧ Below w.heap.size w w' := by
  by_cases hp : p = 0
  · subst hp
    have HA := Lib.hid (alikeB_true.2 ha)
    have H := Lib.hid h
    clear h ha
    have q2 : decide ((255 : Int) - (n : Int) < 0) = false := decide_eq_false (by omega)
    go_enter Tryz.func50, Tryz.ntmps50
    go_wp2_with fail
    refine (alike_is _ n C L D _ _ true (by unfold maxLen; omega) H.out HA.out).mono ?_
    rintro e w' ⟨rfl, rfl⟩
    go_wp2
    go_ret2
    exact ⟨none, 0, rfl, (fun _ => by simp), RdM.empty _ _ _ _ _, Below.refl _ _⟩
  · refine (encode_main A n C L D G p w hn0 (by omega) hnp ha hL h).mono ?_
    rintro e w' ⟨b, G', C', rfl, _, hO, hB⟩
    exact ⟨_, p, rfl, (fun hh => by cases hh), hO.rdAll (Nat.le_refl _), hB⟩
end Go.Proofs.YtfkoomldncfdnaaGreat
namespace Go.Proofs.YtfkoomldncfdnaaGreat
open Go.RowKit Mx
open Pt (Tx)

/-- has one of the rows no bytes? -/
def emptyB (n : Nat) (L : Nat → Nat) : Bool := decide (∃ i, i < n ∧ L i = 0)
theorem emptyB_true {n : Nat} {L : Nat → Nat} : emptyB n L = true ↔ ∃ i, i < n ∧ L i = 0 := decide_eq_true_iff
theorem emptyB_false {n : Nat} {L : Nat → Nat} : emptyB n L = false ↔ ∀ i, i < n → L i ≠ 0 := by
  unfold emptyB
  rw [decide_eq_false_iff_not]
  exact ⟨fun h i hi e => h ⟨i, hi, e⟩, fun h ⟨i, hi, e⟩ => h i hi e⟩
set_option maxHeartbeats 1000000 in
theorem index_empty (A : Option Addr) (n C : Nat) (L : Nat → Nat) (M : Mat) (G : Nat → Prop) (w : World) (hm : n ≤ 1000000) (h : RdM w A n L M G) :
    Calls Tryz.prog 101 #[.slice A n C, .func (.func 75) #[] #[]] w fun e w' => ∃ z : Int, e = .returned (.int .i64 z) ∧ decide (0 ≤ z) = emptyB n L ∧ w = w' := by
  have H := Lib.hid h
  clear h
  go_enter Tryz.func101, Tryz.ntmps101
  go_wp2
  go_loop [8] (fun vi => ∃ k : Nat, k ≤ n ∧ vi = .int .i64 (k : Int) ∧ Hid (∀ i, i < k → L i ≠ 0)) (fun vi => n - (intOf vi).toNat)
  case atStart => exact ⟨0, by omega, rfl, Lib.hid (fun i hi => absurd hi (by omega))⟩
  case round =>
    obtain ⟨k, hk, rfl, HL⟩ := hrel
    by_cases hlt : k < n
    · obtain ⟨b, off, Ak, Ck, rfl, _, hck, _⟩ := H.out.row hlt
      have e0 : decide (k < n) = true := decide_eq_true hlt
      by_cases he : L k = 0
      · have hb : ((L k : Int) == 0) = true := by rw [he]; rfl
        have HF := Lib.hid (emptyB_true.2 ⟨k, hlt, he⟩ : emptyB n L = true)
        clear he
        go_wp2
        go_ret
        exact ⟨(k : Int), rfl, by rw [HF.out]; exact decide_eq_true (by omega), rfl⟩
      · have hb : ((L k : Int) == 0) = false := beq_eq_false_iff_ne.2 (by omega)
        have HE := Lib.hid he
        clear he
        go_wp2
        go_round
        case rel => exact ⟨k + 1, by omega, by go_num, Lib.hid (fun i hi => by
          by_cases e : i = k
          · rw [e]; exact HE.out
          · exact HL.out i (by omega))⟩
        case measure => simp [intOf]; omega
    · have e0 : decide (k < n) = false := decide_eq_false hlt
      have HF := Lib.hid (emptyB_false.2 fun i hi => HL.out i (by omega) : emptyB n L = false)
      go_wp2
      go_ret
      exact ⟨-1, rfl, by rw [HF.out]; rfl, rfl⟩
theorem contains_empty (A : Option Addr) (n C : Nat) (L : Nat → Nat) (M : Mat) (G : Nat → Prop) (w : World) (hm : n ≤ 1000000) (h : RdM w A n L M G) :
    Calls Tryz.prog 74 #[.slice A n C, .func (.func 75) #[] #[]] w fun e w' => e = .returned (.bool (emptyB n L)) ∧ w = w' := by
  have H := Lib.hid h
  clear h
  go_enter Tryz.func74, Tryz.ntmps74
  go_wp2_with fail
  refine (index_empty A n C L M _ w hm H.out).mono ?_
  rintro e w' ⟨z, rfl, hz, rfl⟩
  have HZ := Lib.hid hz
  go_wp2
  go_ret
  exact ⟨rfl, rfl⟩
set_option maxHeartbeats 1000000 in
theorem parityOf_bad (A : Option Addr) (n C : Nat) (L : Nat → Nat) (D : Mat) (G : Nat → Prop) (p : Int) (w : World) (hn : n ≤ 1000000) (h : RdM w A n L D G) (he : emptyB n L = true) :
    Calls Tryz.prog 51 #[.slice A n C, .int .i64 p] w fun e w' => e = .returned (.tuple #[.slice none 0 0, .int .i64 1]) ∧ Below w.heap.size w w' := by
  have HC := Lib.hid (contains_empty A n C L D G w hn h)
  rw [he] at HC
  clear h he
  go_enter Tryz.func51, Tryz.ntmps51
  go_wp2_with fail
  refine HC.out.mono ?_
  rintro e w' ⟨rfl, rfl⟩
  go_wp2
  go_ret2
  exact ⟨rfl, Below.refl _ _⟩
set_option maxHeartbeats 1000000 in
theorem parityOf_ok (A : Option Addr) (n C : Nat) (L : Nat → Nat) (D : Mat) (G : Nat → Prop) (p : Int) (w : World) (hn : n ≤ 1000000) (hL : 0 < n → L 0 ≤ 1000000) (hp : -9223372036854775808 ≤ p) (hp' : p ≤ 9223372036854775807) (h : RdM w A n L D G) (he : emptyB n L = false) :
    Calls Tryz.prog 51 #[.slice A n C, .int .i64 p] w (EncNew n L D p w) := by
  have HC := Lib.hid (contains_empty A n C L D G w hn h)
  rw [he] at HC
  have HE := Lib.hid (encode_new A n C L D G p w (by unfold maxLen; omega) hL hp hp' h)
  clear h he
  have HQ : Hid (∀ e w', EncNew n L D p w e w' → ∃ A' k C' c, e = .returned (.tuple #[.slice A' k C', .int .i64 c])) := Lib.hid fun e w' hh => by
    unfold EncNew at hh
    split at hh
    · rcases hh with ⟨_, rfl, _⟩ | ⟨_, b, q, G', C', rfl, _⟩
      · exact ⟨_, _, _, _, rfl⟩
      · exact ⟨_, _, _, _, rfl⟩
    · obtain ⟨rfl, _⟩ := hh
      exact ⟨_, _, _, _, rfl⟩
  go_enter Tryz.func51, Tryz.ntmps51
  go_wp2_with fail
  refine HC.out.mono ?_
  rintro e w' ⟨rfl, rfl⟩
  go_wp2_with fail
  refine HE.out.mono ?_
  intro e w' hh
  obtain ⟨A', k, C', c, rfl⟩ := HQ.out e w' hh
  have HH := Lib.hid hh
  clear hh
  go_wp2
  go_ret2
  exact HH.out
end Go.Proofs.YtfkoomldncfdnaaGreat
namespace Go.Proofs.YtfkoomldncfdnaaGreat
open Go.RowKit Mx
open Pt (Tx)

theorem infoMat : (Tryz.prog.info? 47).map (fun i => (i.zero, i.size, i.bytes)) = some (some (.slice none 0 0), 1, 24) := by kernel_rfl
theorem St.none_of {ts : List St.T} {n : Int} (h : emptyB ts.length (St.lens (St.row ts n)) = true) : ∃ t ∈ ts, St.blk n t = [] := by
  obtain ⟨i, hi, e⟩ := emptyB_true.1 h
  rw [(St.row_at hi).1] at e
  exact ⟨_, List.getElem_mem hi, List.length_eq_zero_iff.1 e⟩
theorem St.all_of {ts : List St.T} {n : Int} (h : emptyB ts.length (St.lens (St.row ts n)) = false) : (∀ i, i < ts.length → St.lens (St.row ts n) i = 79) ∧ ∀ t ∈ ts, St.blk n t ≠ [] := by
  have h1 := emptyB_false.1 h
  refine ⟨fun i hi => ?_, fun t ht e => ?_⟩
  · have h2 := h1 i hi
    rw [(St.row_at hi).1] at h2 ⊢
    rcases St.blk_len n ts[i] with h3 | h3
    · exact h3
    · rw [h3] at h2; exact absurd rfl h2
  · obtain ⟨i, hi, rfl⟩ := List.mem_iff_getElem.1 ht
    have h2 := h1 i hi
    rw [(St.row_at hi).1, e] at h2
    exact h2 rfl
theorem Inn.below {w w2 wq : World} {b p n j : Nat} {V0 : Nat → Value} {X : Nat → Mat} {N : Nat → Nat} (h : Inn w w2 wq b p n j V0 X) (hO : OutP w2 w.heap.size b p 79 V0 N X) (hB : Below w.heap.size w w2) : Below w.heap.size w wq :=
  hB.trans (h.kp.below hB.size fun k hk => by
    rcases hk with rfl | ⟨i, hi, e⟩
    · exact hO.lo
    · exact ((hO.rows i hi).lt e).1)
set_option maxRecDepth 100000 in
set_option maxHeartbeats 8000000 in
theorem parity_main (A : Option Addr) (ts : List St.T) (C : Nat) (G : Nat → Prop) (p : Nat) (w : World) (hn0 : 0 < ts.length) (hnp : ts.length + p ≤ 255) (hl : St.len ts ≤ 1000000) (hr : RdT w A ts G) :
    Calls Tryz.prog 20 #[.slice A ts.length C, .int .i64 (p : Int)] w (ParA ts (p : Int) w) := by
  have HR := Lib.hid hr
  have hmk := run_make_row' (P := Tryz.prog) 47 42 (.slice none 0 0) 24 Tryz.underlying47 infoRow rfl .i64 .i64 ts.length (by omega) (by omega)
  have HMK2 := Lib.hid (run_make_row' (P := Tryz.prog) 53 47 (.slice none 0 0) 24 Tryz.underlying53 infoMat rfl .i64 .i64 p (by omega) (by omega))
  have HB0 := Lib.hid ((Below.refl w.heap.size w).alloc (Nat.le_refl _) (.cells (madeCells #[.slice none 0 0] ts.length) 42))
  have HENC := Lib.hid (encode_ok (some ⟨w.heap.size, 0, none⟩) ts.length ts.length (fun _ => 0) one _ p _ hn0 hnp (fun _ _ => rfl) (Nat.zero_le _) (TopR.start w ts.length one).rdM)
  obtain ⟨i0, hi0, hz0, hz1, hz2⟩ := info_parts infoRow
  obtain ⟨K, hK⟩ : ∃ K, K = St.len ts := ⟨_, rfl⟩
  rw [← hK] at hl
  have HK := Lib.hid hK
  clear hr hK
  go_enter Tryz.func20, Tryz.ntmps20
  go_wp2_with fail
  refine HENC.out.mono ?_
  rintro e w1 ⟨A1, C1, rfl, -, -, hb1⟩
  have HB1 := Lib.hid (HB0.out.trans (hb1.mono HB0.out.size))
  have hmk2 := HMK2.out
  have hlo1 := HB1.out.size
  have HO1 : Hid (OutP (w1.alloc (.cells (madeCells #[.slice none 0 0] p) 47)) w.heap.size w1.heap.size p 79 (fun _ => .slice none 0 0) (fun _ => 0) (St.X ts p)) := Lib.hid (OutP.start _ _ _ _ _ _ hlo1 fun _ => RowV.made w1 _ _ p)
  have HB1' := Lib.hid (HB1.out.alloc HB1.out.size (.cells (madeCells #[.slice none 0 0] p) 47))
  clear hmk hb1 HENC HB0 HMK2
  go_wp2_with fail
  obtain ⟨b, hb⟩ : ∃ b, b = w1.heap.size := ⟨_, rfl⟩
  rw [← hb] at HO1 ⊢
  refine (len_any A ts C _ _ (by unfold maxLen; omega) (HR.out.old (HB1'.out.mono (Nat.le_refl _)))).mono ?_
  rintro e w2 ⟨rfl, hb2⟩
  rw [← HK.out]
  have HO2 := Lib.hid (HO1.out.old hb2)
  have HB2 := Lib.hid (HB1'.out.trans (hb2.mono HB1'.out.size))
  clear hb2 hb hmk2 HO1 HB1 HB1' hlo1
  go_wp2
  go_loopw [29] (fun vi wr => ∃ n : Nat, n ≤ K ∧ vi = .int .i64 (n : Int) ∧ Hid (∃ V, OutP wr w.heap.size b p 79 V (fun _ => n) (St.X ts p)) ∧ Hid (∀ m : Nat, m < n → ∀ t ∈ ts, St.blk (m : Int) t ≠ []) ∧ Hid (Below w.heap.size w wr)) (fun vi _ => K - (intOf vi).toNat)
  case atStart => exact ⟨0, Nat.zero_le _, rfl, Lib.hid ⟨_, HO2.out⟩, Lib.hid (fun m hm => absurd hm (by omega)), HB2⟩
  case round =>
    obtain ⟨n, hn, rfl, HO, HW, HB⟩ := hrel
    obtain ⟨wo, rfl⟩ : ∃ x, x = wr := ⟨wr, rfl⟩
    by_cases hlt : n < K
    · have e0 : decide (n < K) = true := decide_eq_true hlt
      go_wp2_with fail
      refine (row_any A ts C _ (n : Int) wo (by omega) (HR.out.old HB.out)).mono ?_
      rintro e w3 ⟨A3, C3, rfl, -, -, hr3, hb3⟩
      have HR3 := Lib.hid hr3
      have HB3 := Lib.hid (HB.out.trans (hb3.mono HB.out.size))
      have HBr := Lib.hid hb3
      clear hr3 hb3
      cases he : emptyB ts.length (St.lens (St.row ts (n : Int))) with
      | true =>
        have HN : Hid (¬ St.Ok ts (p : Int)) := Lib.hid fun h => by
          obtain ⟨t, ht, e⟩ := St.none_of he
          exact h.2 n (by rw [← HK.out]; exact hlt) t ht e
        go_wp2_with fail
        refine (parityOf_bad A3 ts.length C3 _ _ _ (p : Int) w3 (by omega) HR3.out he).mono ?_
        rintro e w4 ⟨rfl, hb4⟩
        have HB4 := Lib.hid (HB3.out.trans (hb4.mono HB3.out.size))
        clear hb4 he
        go_wp2
        go_ret2
        exact ParA.no HN.out HB4.out
      | false =>
        obtain ⟨h79, hne⟩ := St.all_of he
        have HW2 : Hid (∀ m : Nat, m < n + 1 → ∀ t ∈ ts, St.blk (m : Int) t ≠ []) := Lib.hid fun m hm => by
          by_cases e : m = n
          · subst e; exact hne
          · exact HW.out m (by omega)
        have hok : EncOk ts.length (St.lens (St.row ts (n : Int))) (p : Int) := ⟨hn0, fun i hi => by rw [h79 i hi, h79 0 hn0], by omega, by omega⟩
        have HOK := Lib.hid hok
        have H79 := Lib.hid h79
        clear hok h79 hne HW
        go_wp2_with fail
        refine (parityOf_ok A3 ts.length C3 _ _ _ (p : Int) w3 (by omega) (fun h => by rw [H79.out 0 h]; omega) (by omega) (by omega) HR3.out he).mono ?_
        intro e w4 hh
        obtain ⟨A4, C4, rfl, hM4, hb4⟩ := hh.made HOK.out (H79.out 0 hn0)
        obtain ⟨V0, hO⟩ := HO.out
        have HM4 := Lib.hid hM4
        have HB4 := Lib.hid (HB3.out.trans (hb4.mono HB3.out.size))
        have HO4 := Lib.hid ((hO.old HBr.out).old hb4)
        have HS3 := Lib.hid HB3.out.size
        have HLT : Hid (0 < p → ∀ x, (x = b ∨ ∃ i, i < p ∧ (V0 i).ownBlock = some x) → x < w3.heap.size) := Lib.hid fun hp x hx => by
          rcases hx with rfl | ⟨i, hi, e⟩
          · exact (((hO.old HBr.out).top hp).lt)
          · exact (((hO.old HBr.out).rows i hi).lt e).2
        clear hh hM4 hb4 hO he HO HB3 HB HR3 HBr HOK H79
        go_wp2
        go_loopw [45] (fun vj wq => ∃ j : Nat, j ≤ p ∧ vj = .int .i64 (j : Int) ∧ Hid (Inn w w4 wq b p n j V0 (St.X ts p))) (fun vj _ => p - (intOf vj).toNat)
        case atStart => exact ⟨0, Nat.zero_le _, rfl, Lib.hid (Inn.start HO4.out)⟩
        case round =>
          obtain ⟨j, hj, rfl, HI⟩ := hrel
          by_cases hltj : j < p
          · have e1 : decide (j < p) = true := decide_eq_true hltj
            obtain ⟨b2, r, c, rfl, -, hc, hC, hrr, hR⟩ := (HM4.out.kp HI.out.kp (HLT.out (by omega))) j hltj
            obtain ⟨Av, Cv, us, hcv, hfv, -, hown, hnext⟩ := HI.out.next hltj
            have HNX := Lib.hid hnext
            have HRR := Lib.hid hR
            have HBQ := Lib.hid (HI.out.below HO4.out HB4.out)
            have hlow : w.heap.size ≤ wr.heap.size := HBQ.out.size
            have hrlow : w.heap.size ≤ r := Nat.le_trans HS3.out hrr
            have HHC := Lib.hid hC
            clear hnext hR hC hrr
            go_wp2_with (at_builtin; refine wpList_append_lies _ rfl _ _ 47 rfl w.heap.size 42 i0 (.slice none 0 0) 1 24 Tryz.underlying47 hi0 hz0 hz1 hz2 rfl (by decide) (.slice Av n Cv) n us rfl (hown.alloc _) ⟨wr.heap.size, 0, none⟩ 1 1 [.slice (some ⟨r, 0, none⟩) 79 c] rfl rfl (oneCell _ _ _) (oneSlice _ _ _) (by decide) (by unfold maxLen; omega) (by omega) (by simp; omega) (wr.heap.size + 1) (by simp) ?_)
            intro g cap w5 hown5 hg5 hat5 hlt5
            obtain ⟨c5, f5, hI5⟩ := HNX.out _ w5 g cap r c _ ((Below.refl _ _).alloc (Nat.le_refl _) _) hg5 hown5 (hat5.imp id fun e => by omega) HHC.out hrlow HRR.out (fun x _ => rfl)
            have HI5 := Lib.hid hI5
            clear hown5 hg5 hat5 hI5 hown hcv hfv hc
            go_wp2
            go_roundw
            case rel => exact ⟨j + 1, by omega, by go_num, HI5⟩
            case measure => simp [intOf]; omega
          · have e1 : decide (j < p) = false := decide_eq_false hltj
            obtain rfl : j = p := by omega
            have HO5 := Lib.hid HI.out.done
            have HB5 := Lib.hid (HI.out.below HO4.out HB4.out)
            clear HI
            go_wp2
            go_roundw
            case rel => exact ⟨n + 1, by omega, by go_num, HO5, HW2, HB5⟩
            case measure => simp [intOf]; omega
    · have e0 : decide (n < K) = false := decide_eq_false hlt
      obtain rfl : n = K := by omega
      obtain ⟨V, hO⟩ := HO.out
      have HF := Lib.hid (hO.rdP (n := n) fun _ _ => rfl)
      have HOK : Hid (St.Ok ts (p : Int)) := Lib.hid ⟨⟨hn0, by omega, by omega⟩, fun m hm => HW.out m (by rw [HK.out]; exact hm)⟩
      rw [HK.out] at HF
      clear hO HO HW
      go_wp2
      go_ret2
      exact ParA.yes HOK.out (Nat.le_refl _) (fun h => by cases h) HF.out HB.out
set_option maxHeartbeats 2000000 in
theorem parity_any (A : Option Addr) (ts : List St.T) (C : Nat) (G : Nat → Prop) (p : Int) (w : World) (hn : ts.length ≤ 1000000) (hp : -9223372036854775808 ≤ p) (hp' : p ≤ 9223372036854775807) (hl : St.len ts ≤ 1000000) (hr : RdT w A ts G) :
    Calls Tryz.prog 20 #[.slice A ts.length C, .int .i64 p] w (ParA ts p w) := by
  by_cases ha : St.Arg ts p
  · obtain ⟨k, rfl⟩ : ∃ k : Nat, p = (k : Int) := ⟨p.toNat, by have := ha.2.1; omega⟩
    exact parity_main A ts C G k w (by have := ha.1; omega) (by have := ha.2.2; omega) hl hr
  · have HN : Hid (¬ St.Ok ts p) := Lib.hid fun h => ha h.1
    have HE : Hid (¬ EncOk ts.length (fun _ => 0) p) := Lib.hid fun h => ha ((St.enc_arg (fun _ _ => rfl)).1 h)
    have hmk := run_make_row' (P := Tryz.prog) 47 42 (.slice none 0 0) 24 Tryz.underlying47 infoRow rfl .i64 .i64 ts.length (by omega) (by omega)
    have HB0 := Lib.hid ((Below.refl w.heap.size w).alloc (Nat.le_refl _) (.cells (madeCells #[.slice none 0 0] ts.length) 42))
    have HENC := Lib.hid (encode_new (some ⟨w.heap.size, 0, none⟩) ts.length ts.length (fun _ => 0) one _ p _ (by unfold maxLen; omega) (fun _ => Nat.zero_le _) hp hp' (TopR.start w ts.length one).rdM)
    clear hr ha
    go_enter Tryz.func20, Tryz.ntmps20
    go_wp2_with fail
    refine HENC.out.mono ?_
    intro e w1 hh
    unfold EncNew at hh
    rw [if_neg HE.out] at hh
    obtain ⟨rfl, hb1⟩ := hh
    have HB1 := Lib.hid (HB0.out.trans (hb1.mono HB0.out.size))
    clear hb1 hmk
    go_wp2
    go_ret2
    exact ParA.no HN.out HB1.out
end Go.Proofs.YtfkoomldncfdnaaGreat
namespace Go.Proofs.YtfkoomldncfdnaaGreat
open Go.RowKit
open Pt (Tx)

/-- the labels of two rows of tapes -/
theorem labels_rows {t1 t2 : List Tv} {data blank : List St.T} (hl1 : t1.length = data.length) (hl2 : t2.length = blank.length) (h1 : ∀ i (hi : i < t1.length) (hi' : i < data.length), t1[i].label = data[i].label) (h2 : ∀ i (hi : i < t2.length) (hi' : i < blank.length), t2[i].label = blank[i].label) :
    tvLabels (t1 ++ t2) = (data ++ blank).map St.T.label := by
  unfold tvLabels
  rw [List.map_append, List.map_append]
  congr 1
  · refine List.ext_getElem (by simp [hl1]) fun i h h' => ?_
    rw [List.getElem_map, List.getElem_map]
    exact h1 i (by simpa using h) (by simpa using h')
  · refine List.ext_getElem (by simp [hl2]) fun i h h' => ?_
    rw [List.getElem_map, List.getElem_map]
    exact h2 i (by simpa using h) (by simpa using h')
/-- the seal with another index, in its block -/
theorem seal_turn {w : World} {B : Nat} {n x d p : Int} {A : Option Addr} {m C : Nat} (h : w.heap[B]? = some (sealObj n x d p A m C)) (y : Int) : (w.setCell ⟨B, 1, none⟩ (.int .i64 y)).heap[B]? = some (sealObj n y d p A m C) := heap_set h (.int .i64 y)
set_option maxRecDepth 100000 in
set_option maxHeartbeats 8000000 in
theorem make_no (A1 : Option Addr) (data : List St.T) (C1 : Nat) (A2 : Option Addr) (blank : List St.T) (C2 : Nat) (G : Nat → Prop) (number : Int) (w : World) (hn1 : data.length ≤ 1000) (hn2 : blank.length ≤ 1000) (hA1 : A1 = none → data.length = 0 ∧ C1 = 0) (hA2 : A2 = none → blank.length = 0 ∧ C2 = 0)
    (hl : ∀ t ∈ data, t.blocks.length ≤ 1000000 ∧ ∀ s ∈ t.blocks, s.length ≤ 1000000) (hr1 : RdT w A1 data G) (hr2 : RdT w A2 blank G) (hno : Gr.mkE data blank number ≠ 0) :
    Calls Tryz.prog 7 #[.slice A1 data.length C1, .slice A2 blank.length C2, .int .i64 number] w (MakeA data blank number w) := by
  obtain ⟨t1, hl1, hrd1, hk1⟩ := hr1.rows
  obtain ⟨t2, hl2, hrd2, hk2⟩ := hr2.rows
  have hlabs := labels_rows hl1 hl2 (fun i hi hi' => (hk1 i hi hi').1) (fun i hi hi' => (hk2 i hi hi').1)
  have hsl := sealOf_any number A1 data.length C1 A2 blank.length C2 t1 t2 G w hl1.symm hl2.symm hn1 hn2 hA1 hA2 hrd1 hrd2
  rw [hlabs] at hsl
  have hcp : ∀ y, Below w.heap.size w y → Calls Tryz.prog 20 #[.slice A1 data.length C1, .int .i64 (blank.length : Int)] y (ParA data (blank.length : Int) y) := fun y hy =>
    parity_any A1 data C1 G (blank.length : Int) y (by omega) (by omega) (by omega) (St.len_le fun t ht => (hl t ht).1) (hr1.old hy)
  obtain ⟨ck, hck⟩ : ∃ ck, ck = Gr.chk data blank number := ⟨_, rfl⟩
  obtain ⟨er, her⟩ : ∃ er, er = Gr.mkE data blank number := ⟨_, rfl⟩
  have hcase : (ck = er ∧ (ck != 0) = true) ∨ (ck = 0 ∧ ¬ St.Ok data (blank.length : Int) ∧ er = 1) := by
    have h1 := hno
    unfold Gr.mkE at h1 her
    rw [← hck] at h1 her
    by_cases h0 : ck = 0
    · rw [if_neg (by rw [h0]; simp)] at h1 her
      refine .inr ⟨h0, fun hok => h1 ?_, ?_⟩
      · unfold St.err; rw [if_pos hok]
      · rw [her]
        unfold St.err at h1 ⊢
        split
        · rename_i hok; exact absurd (if_pos hok) h1
        · rfl
    · rw [if_pos h0] at her
      exact .inl ⟨her.symm, by simpa using h0⟩
  have HMA : Hid (∀ e w', (e = Ending.returned (.tuple #[.slice none 0 0, .int .i64 er]) ∧ Below w.heap.size w w') → MakeA data blank number w e w') := Lib.hid fun e w' h => by
    unfold MakeA; rw [if_neg hno, ← her]; exact h
  have HSL := Lib.hid hsl
  have HCP := Lib.hid hcp
  have HR1 := Lib.hid hr1
  have HR2 := Lib.hid hr2
  have HCHK : Hid (∀ (x : Sx) (y : World), Below w.heap.size w y → x.s = Gr.sealOf data blank number 0 → x.Ok y (fun _ => True) → Calls Tryz.prog 19 #[.slice A1 data.length C1, .slice A2 blank.length C2, .agg #[.int .i64 x.s.number, .int .i64 x.s.index, .int .i64 x.s.data, .int .i64 x.s.parity, .slice x.A x.s.labels.length x.C]] y (AnsI ck y)) := Lib.hid fun x y hy hs hx => by
    have h := check_any A1 data C1 A2 blank C2 G x y hn1 hn2 hl (hr1.old hy) (hr2.old hy) hx
    rw [hs] at h
    rw [hck, hs]; exact h
  have hsof : Gr.sealOf data blank number 0 = ⟨number, 0, (data.length : Int), (blank.length : Int), (data ++ blank).map St.T.label⟩ := rfl
  obtain ⟨n1, hn1'⟩ : ∃ n, n = data.length := ⟨_, rfl⟩
  obtain ⟨n2, hn2'⟩ : ∃ n, n = blank.length := ⟨_, rfl⟩
  rw [← hn1', ← hn2'] at HSL HCHK HCP hsof ⊢
  have HSO := Lib.hid hsof
  have HN2 := Lib.hid hn2'
  clear hr1 hr2 hsl hcp hlabs hk1 hk2 hrd1 hrd2 hl hl1 hl2 hA1 hA2 hno hck her hn1 hn2 hn1' hn2' hsof HR1 HR2
  rcases hcase with ⟨rfl, q1⟩ | ⟨rfl, hnok, rfl⟩
  · go_enter Tryz.func7, Tryz.ntmps7
    go_wp2_with fail
    refine HSL.out.mono ?_
    rintro e w1 ⟨⟨⟨sn, si, sd, sp, sl⟩, sA, sC⟩, rfl, hxs, hxo, hb1⟩
    dsimp only at hxs hxo ⊢
    obtain ⟨m, hm⟩ : ∃ m, m = sl.length := ⟨_, rfl⟩
    rw [← hm]
    obtain ⟨wa, hwa⟩ : ∃ wa, wa = w1.alloc (sealObj sn si sd sp sA m sC) := ⟨_, rfl⟩
    have hba' : Below w1.heap.size w1 wa := by rw [hwa]; exact (Below.refl _ _).alloc (Nat.le_refl _) _
    have hba := hb1.trans (hba'.mono hb1.size)
    have hSa : wa.heap[w1.heap.size]? = some (sealObj sn si sd sp sA m sC) := by rw [hwa]; exact Go.Deep.blk_alloc_new _ _
    have hcall := HCHK.out ⟨⟨sn, si, sd, sp, sl⟩, sA, sC⟩ wa hba (hxs.trans HSO.out.symm) ((hxo.old hba').mono fun _ _ => trivial)
    dsimp only at hcall
    rw [← hm] at hcall
    have HC := Lib.hid hcall
    have HBA := Lib.hid hba
    have HWA := Lib.hid hwa
    unfold sealObj at HWA
    obtain ⟨x0, x1, x2, x3, x4⟩ := seal5 hSa
    rw [HWA.out] at x0 x1 x2 x3 x4
    clear hb1 hba' hba hSa hcall hwa hxs hxo hm
    go_wp2_with fail
    rw [← HWA.out]
    refine HC.out.mono ?_
    rintro e w2 ⟨rfl, hb2⟩
    have HB2 := Lib.hid (HBA.out.trans (hb2.mono HBA.out.size))
    clear hb2 x0 x1 x2 x3 x4
    go_wp2
    go_ret2
    exact HMA.out _ _ ⟨rfl, HB2.out⟩
  · go_enter Tryz.func7, Tryz.ntmps7
    go_wp2_with fail
    refine HSL.out.mono ?_
    rintro e w1 ⟨⟨⟨sn, si, sd, sp, sl⟩, sA, sC⟩, rfl, hxs, hxo, hb1⟩
    dsimp only at hxs hxo ⊢
    obtain ⟨m, hm⟩ : ∃ m, m = sl.length := ⟨_, rfl⟩
    rw [← hm]
    obtain ⟨wa, hwa⟩ : ∃ wa, wa = w1.alloc (sealObj sn si sd sp sA m sC) := ⟨_, rfl⟩
    have hba' : Below w1.heap.size w1 wa := by rw [hwa]; exact (Below.refl _ _).alloc (Nat.le_refl _) _
    have hba := hb1.trans (hba'.mono hb1.size)
    have hSa : wa.heap[w1.heap.size]? = some (sealObj sn si sd sp sA m sC) := by rw [hwa]; exact Go.Deep.blk_alloc_new _ _
    have hcall := HCHK.out ⟨⟨sn, si, sd, sp, sl⟩, sA, sC⟩ wa hba (hxs.trans HSO.out.symm) ((hxo.old hba').mono fun _ _ => trivial)
    dsimp only at hcall
    rw [← hm] at hcall
    have HC := Lib.hid hcall
    have HBA := Lib.hid hba
    have HWA := Lib.hid hwa
    unfold sealObj at HWA
    obtain ⟨x0, x1, x2, x3, x4⟩ := seal5 hSa
    rw [HWA.out] at x0 x1 x2 x3 x4
    clear hb1 hba' hba hSa hcall hwa hxs hxo hm
    go_wp2_with fail
    rw [← HWA.out]
    refine HC.out.mono ?_
    rintro e w2 ⟨rfl, hb2⟩
    have hB2 := HBA.out.trans (hb2.mono HBA.out.size)
    have hcp := (HCP.out w2 hB2).mono (fun e w' h => by unfold ParA at h; rw [HN2.out, if_neg hnok] at h; exact h : ∀ e w', ParA data (n2 : Int) w2 e w' → e = Ending.returned (.tuple #[.slice none 0 0, .int .i64 1]) ∧ Below w2.heap.size w2 w')
    have HCP2 := Lib.hid hcp
    have HB2 := Lib.hid hB2
    clear hb2 hB2 hcp x0 x1 x2 x3 x4
    go_wp2_with fail
    refine HCP2.out.mono ?_
    rintro e w3 ⟨rfl, hb3⟩
    have HB3 := Lib.hid (HB2.out.trans (hb3.mono HB2.out.size))
    clear hb3
    go_wp2
    go_ret2
    exact HMA.out _ _ ⟨rfl, HB3.out⟩
end Go.Proofs.YtfkoomldncfdnaaGreat
namespace Go.Proofs.YtfkoomldncfdnaaGreat
open Go.RowKit
open Pt (Tx)

/-- what is kept while tapes are made -/
structure MkI (w0 : World) (sB gm n : Nat) (number : Int) (n1 n2 : Nat) (sA : Option Addr) (m sC : Nat) (ts : List St.T) (wr : World) : Prop where
  made : MadeI w0 gm n ts wr
  hd : ∃ xi : Int, wr.heap[sB]? = some (sealObj number xi (n1 : Int) (n2 : Int) sA m sC)
  kp : Kp (fun k => k = sB ∨ k = gm ∨ w0.heap.size ≤ k) w0 wr
  ne : sB < gm
namespace MkI
variable {w0 wr w2 : World} {sB gm n n1 n2 m sC : Nat} {number : Int} {sA : Option Addr} {ts : List St.T}
theorem old (h : MkI w0 sB gm n number n1 n2 sA m sC ts wr) (hb : Below wr.heap.size wr w2) : MkI w0 sB gm n number n1 n2 sA m sC ts w2 := by
  obtain ⟨xi, hx⟩ := h.hd
  exact ⟨h.made.old hb, ⟨xi, below_obj hb hx⟩, h.kp.trans (Kp.of_below hb), h.ne⟩
theorem turn (h : MkI w0 sB gm n number n1 n2 sA m sC ts wr) (y : Int) : MkI w0 sB gm n number n1 n2 sA m sC ts (wr.setCell ⟨sB, 1, none⟩ (.int .i64 y)) ∧ (wr.setCell ⟨sB, 1, none⟩ (.int .i64 y)).heap[sB]? = some (sealObj number y (n1 : Int) (n2 : Int) sA m sC) := by
  obtain ⟨xi, hx⟩ := h.hd
  have hs := seal_turn hx y
  have hne := h.ne
  have hlt := h.made.lt
  exact ⟨⟨h.made.kp (S := (· = sB)) (Kp.store _ _ _ _) (fun k e => by omega), ⟨y, hs⟩, h.kp.setCell (p := ⟨sB, 1, none⟩) (.inl rfl) _, h.ne⟩, hs⟩
theorem set (h : MkI w0 sB gm n number n1 n2 sA m sC ts wr) {k : Nat} (hk : k = ts.length) (hkn : k < n) {t : St.T} {A : Option Addr} {C : Nat} (hr : RdB wr A t.blocks (w0.heap.size ≤ ·)) :
    MkI w0 sB gm n number n1 n2 sA m sC (ts ++ [t]) ((((wr.setCell ⟨gm, k * 4, none⟩ (.int .i64 t.label)).setCell ⟨gm, k * 4 + 1, none⟩ (.int .i64 t.cap)).setCell ⟨gm, k * 4 + 2, none⟩ (.slice A t.blocks.length C)).setCell ⟨gm, k * 4 + 3, none⟩ (.bool t.lost)) := by
  have hkp : Kp (· = gm) wr ((((wr.setCell ⟨gm, k * 4, none⟩ (.int .i64 t.label)).setCell ⟨gm, k * 4 + 1, none⟩ (.int .i64 t.cap)).setCell ⟨gm, k * 4 + 2, none⟩ (.slice A t.blocks.length C)).setCell ⟨gm, k * 4 + 3, none⟩ (.bool t.lost)) :=
    (((Kp.store _ _ _ _).trans (Kp.store _ _ _ _)).trans (Kp.store _ _ _ _)).trans (Kp.store _ _ _ _)
  obtain ⟨xi, hx⟩ := h.hd
  have hne := h.ne
  exact ⟨h.made.set hk hkn hr, ⟨xi, (hkp.block _ (heap_lt hx) (by omega)).trans hx⟩, h.kp.trans (hkp.mono fun k e => .inr (.inl e)), h.ne⟩
end MkI
theorem made_take {data blank : List St.T} {number : Int} {i : Nat} (h : i < blank.length) : (Gr.made data blank number).take (i + 1) = (Gr.made data blank number).take i ++ [Gr.madeT data blank number i blank[i]] := by
  rw [List.take_succ_eq_append_getElem (by rw [Gr.made_len]; exact h), Gr.made_at h]
/-- a row of parity, as texts -/
theorem rdP_row {w : World} {A : Option Addr} {data : List St.T} {p : Nat} {G : Nat → Prop} (h : RdP w A p (St.len data) 79 (St.X data p) G) {i : Nat} (hi : i < p) : ∃ b off A' C', A = some ⟨b, off, none⟩ ∧ w.cell? ⟨b, off + i, none⟩ = some (.slice A' (St.len data) C') ∧ RdW w A' (Gr.rowsOf data p i) G := by
  obtain ⟨b, off, A', C', e, -, h1, -, -, h4⟩ := h.at_ hi
  exact ⟨b, off, A', C', e, h1, h4.rdW⟩
theorem Rd.in2 {w : World} {A : Option Addr} {n : Nat} {r : Nat → Mx.Fe} {G : Nat → Prop} (h : Rd w A n r G) : Rd w A n r (fun b => G b ∧ b < w.heap.size) := fun hn => by
  obtain ⟨b, off, e, hg, hc⟩ := h hn
  exact ⟨b, off, e, ⟨hg, World.block_lt_of_cell? _ _ (hc 0 hn)⟩, hc⟩
theorem RdM.in2 {w : World} {A : Option Addr} {n : Nat} {L : Nat → Nat} {M : Mx.Mat} {G : Nat → Prop} (h : RdM w A n L M G) : RdM w A n L M (fun b => G b ∧ b < w.heap.size) := fun hn => by
  obtain ⟨b, off, e, hg, hc⟩ := h hn
  refine ⟨b, off, e, ⟨hg, ?_⟩, fun i hi => ?_⟩
  · obtain ⟨_, _, h1, _⟩ := hc 0 hn
    exact World.block_lt_of_cell? _ _ h1
  · obtain ⟨A', C', h1, h2⟩ := hc i hi
    exact ⟨A', C', h1, h2.in2⟩
theorem RdP.in_' {w : World} {A : Option Addr} {p n m : Nat} {X : Nat → Mx.Mat} {G : Nat → Prop} (h : RdP w A p n m X G) : RdP w A p n m X (fun b => G b ∧ b < w.heap.size) := by
  intro hn
  obtain ⟨b, off, e, hg, hc⟩ := h hn
  refine ⟨b, off, e, ⟨hg, ?_⟩, fun j hj => ?_⟩
  · obtain ⟨_, _, h1, _⟩ := hc 0 hn
    exact World.block_lt_of_cell? _ _ h1
  · obtain ⟨A', C', h1, h2, h3, h4⟩ := hc j hj
    exact ⟨A', C', h1, h2, h3, h4.in2⟩
set_option maxRecDepth 100000 in
set_option maxHeartbeats 8000000 in
theorem make_yes (A1 : Option Addr) (data : List St.T) (C1 : Nat) (A2 : Option Addr) (blank : List St.T) (C2 : Nat) (G : Nat → Prop) (number : Int) (w : World) (hn1 : data.length ≤ 1000) (hn2 : blank.length ≤ 1000) (hA1 : A1 = none → data.length = 0 ∧ C1 = 0) (hA2 : A2 = none → blank.length = 0 ∧ C2 = 0)
    (hl : ∀ t ∈ data, t.blocks.length ≤ 1000000 ∧ ∀ s ∈ t.blocks, s.length ≤ 1000000) (hr1 : RdT w A1 data G) (hr2 : RdT w A2 blank G) (hyes : Gr.mkE data blank number = 0) :
    Calls Tryz.prog 7 #[.slice A1 data.length C1, .slice A2 blank.length C2, .int .i64 number] w (MakeA data blank number w) := by
  obtain ⟨t1, hl1, hrd1, hk1⟩ := hr1.rows
  obtain ⟨t2, hl2, hrd2, hk2⟩ := hr2.rows
  have hlabs := labels_rows hl1 hl2 (fun i hi hi' => (hk1 i hi hi').1) (fun i hi hi' => (hk2 i hi hi').1)
  have hsl := sealOf_any number A1 data.length C1 A2 blank.length C2 t1 t2 G w hl1.symm hl2.symm hn1 hn2 hA1 hA2 hrd1 hrd2
  rw [hlabs] at hsl
  have hlenle : St.len data ≤ 1000000 := St.len_le fun t ht => (hl t ht).1
  have hchk0 : Gr.chk data blank number = 0 := by
    unfold Gr.mkE at hyes
    by_cases h0 : Gr.chk data blank number = 0
    · exact h0
    · rw [if_pos h0] at hyes; exact absurd hyes h0
  have hok : St.Ok data (blank.length : Int) := by
    unfold Gr.mkE at hyes
    rw [if_neg (by rw [hchk0]; simp)] at hyes
    unfold St.err at hyes
    by_cases h : St.Ok data (blank.length : Int)
    · exact h
    · rw [if_neg h] at hyes; cases hyes
  have hsok := Gr.chk_seal hchk0
  have hfew := Gr.seal_few hsok
  have hcp : ∀ y, Below w.heap.size w y → Calls Tryz.prog 20 #[.slice A1 data.length C1, .int .i64 (blank.length : Int)] y fun e w' => ∃ A C, e = Ending.returned (.tuple #[.slice A blank.length C, .int .i64 0]) ∧ RdP w' A blank.length (St.len data) 79 (St.X data blank.length) (y.heap.size ≤ ·) ∧ Below y.heap.size y w' := fun y hy =>
    (parity_any A1 data C1 G (blank.length : Int) y (by omega) (by omega) (by omega) hlenle (hr1.old hy)).mono fun e w' h => by
      unfold ParA at h
      rw [if_pos hok] at h
      obtain ⟨A, C, h1, -, -, h4, h5⟩ := h
      exact ⟨A, C, h1, h4, h5⟩
  have HMA : Hid (∀ A C w', blank.length ≤ C → C ≤ maxLen → (A = none → blank.length = 0 ∧ C = 0) → RdT w' A (Gr.made data blank number) (w.heap.size ≤ ·) → Below w.heap.size w w' → MakeA data blank number w (.returned (.tuple #[.slice A blank.length C, .int .i64 0])) w') := Lib.hid fun A C w' h1 h2 h3 h4 h5 => by
    unfold MakeA; rw [if_pos hyes]; exact ⟨A, C, rfl, h1, h2, h3, h4, h5⟩
  have HSL := Lib.hid hsl
  have HCP := Lib.hid hcp
  have HR2 := Lib.hid hr2
  have HCHK : Hid (∀ (x : Sx) (y : World), Below w.heap.size w y → x.s = Gr.sealOf data blank number 0 → x.Ok y (fun _ => True) → Calls Tryz.prog 19 #[.slice A1 data.length C1, .slice A2 blank.length C2, .agg #[.int .i64 x.s.number, .int .i64 x.s.index, .int .i64 x.s.data, .int .i64 x.s.parity, .slice x.A x.s.labels.length x.C]] y (AnsI 0 y)) := Lib.hid fun x y hy hs hx => by
    have h := check_any A1 data C1 A2 blank C2 G x y hn1 hn2 hl (hr1.old hy) (hr2.old hy) hx
    rw [hs] at h
    have h0 : checkE (decide (Rc.SOk (Gr.sealOf data blank number 0))) (data.any lostB) (blank.any lostB) (decide (St.len data = 0)) (data.all goodB) (blank.any hasB) (blank.any (smallB (St.len data))) = 0 := hchk0
    rw [h0] at h
    rw [hs]; exact h
  have HLABEL : Hid (∀ i (hi : i < blank.length), 1 ≤ blank[i].label ∧ blank[i].label ≤ 2147483647) := Lib.hid fun i hi => Gr.seal_labels hsok (List.mem_append_right _ (List.getElem_mem hi))
  obtain ⟨labs, hlabs2⟩ : ∃ l, l = (data ++ blank).map St.T.label := ⟨_, rfl⟩
  have hsof : ∀ i : Nat, Gr.sealOf data blank number i = ⟨number, (i : Int), (data.length : Int), (blank.length : Int), labs⟩ := fun i => by rw [hlabs2]; rfl
  rw [← hlabs2] at HSL
  obtain ⟨n1, hn1'⟩ : ∃ n, n = data.length := ⟨_, rfl⟩
  obtain ⟨n2, hn2'⟩ : ∃ n, n = blank.length := ⟨_, rfl⟩
  have HMT : Hid (∀ i (hi : i < blank.length), (Gr.made data blank number).take (i + 1) = (Gr.made data blank number).take i ++ [⟨blank[i].label, blank[i].cap, framedL blank[i].label (says (Gr.rowsOf data n2 i) ⟨number, ((n1 + i : Nat) : Int), (n1 : Int), (n2 : Int), labs⟩), false⟩]) := Lib.hid fun i hi => by
    rw [made_take hi]
    unfold Gr.madeT
    rw [hsof, hn1', hn2']
  have HML : Hid ((Gr.made data blank number).length = n2) := Lib.hid (by rw [Gr.made_len, hn2'])
  rw [← hn1', ← hn2'] at HSL HCHK HCP hsof ⊢
  rw [← hn2'] at HMA
  obtain ⟨hf1, hf2, hf3⟩ : 1 ≤ n1 ∧ 1 ≤ n2 ∧ n1 + n2 ≤ 14 := by rw [hn1', hn2']; exact hfew
  have HSO := Lib.hid hsof
  have HN2 := Lib.hid hn2'
  obtain ⟨len, hlen⟩ : ∃ len, len = St.len data := ⟨_, rfl⟩
  have HLEN := Lib.hid hlen
  have hlen1 : len ≤ 1000000 := by rw [hlen]; exact hlenle
  obtain ⟨cs, hcs⟩ : ∃ cs : Array Value, cs = madeCells (Value.agg #[.int .i64 0, .int .i64 0, .slice none 0 0, .bool false]).cells (n2 * 4) := ⟨_, rfl⟩
  have hcsz : cs.size = n2 * 4 := by rw [hcs, size_madeCells]
  have hmk : ∀ y : World, (Instr.makeSlice 22 (.int .i64 (n2 : Int)) (.int .i64 (n2 : Int))).run Tryz.prog y = .ok (.slice (some ⟨y.heap.size, 0, none⟩) n2 n2) (y.alloc (.cells cs 49)) := fun y => by
    obtain ⟨i0, hi, hz0, hz1, hz2⟩ := info_parts infoTape
    have h := run_make (P := Tryz.prog) y 22 49 i0 _ Tryz.underlying22 hi hz0 .i64 .i64 (n2 : Int) (n2 : Int) (by omega) (Int.le_refl _) (by rw [hz2]; omega) (by omega)
    rw [hz1, Int.toNat_natCast] at h
    rw [hcs]; exact h
  clear hr1 hr2 hsl hcp hlabs hk1 hk2 hrd1 hrd2 hl hl1 hl2 hA1 hA2 hyes hn1 hn2 hn1' hn2' hsof hchk0 hok hsok hfew hlabs2 hlenle hlen hcs
  go_enter Tryz.func7, Tryz.ntmps7
  go_wp2_with fail
  refine HSL.out.mono ?_
  rintro e w1 ⟨⟨⟨sn, si, sd, sp, sl⟩, sA, sC⟩, rfl, hxs, hxo, hb1⟩
  cases hxs
  dsimp only at hxo ⊢
  obtain ⟨m, hm⟩ : ∃ m, m = labs.length := ⟨_, rfl⟩
  rw [← hm]
  obtain ⟨wa, hwa⟩ : ∃ wa, wa = w1.alloc (sealObj number 0 (n1 : Int) (n2 : Int) sA m sC) := ⟨_, rfl⟩
  have hba' : Below w1.heap.size w1 wa := by rw [hwa]; exact (Below.refl _ _).alloc (Nat.le_refl _) _
  have hba := hb1.trans (hba'.mono hb1.size)
  have hSa : wa.heap[w1.heap.size]? = some (sealObj number 0 (n1 : Int) (n2 : Int) sA m sC) := by rw [hwa]; exact Go.Deep.blk_alloc_new _ _
  have hcall := HCHK.out ⟨⟨number, 0, (n1 : Int), (n2 : Int), labs⟩, sA, sC⟩ wa hba (HSO.out 0).symm ((hxo.old hba').mono fun _ _ => trivial)
  dsimp only at hcall
  rw [← hm] at hcall
  obtain ⟨sB, hsB⟩ : ∃ sB, sB = w1.heap.size := ⟨_, rfl⟩
  have HXO : Hid (Sx.Ok ⟨⟨number, 0, (n1 : Int), (n2 : Int), labs⟩, sA, sC⟩ wa (· < sB)) := Lib.hid ((hxo.in_.old hba').mono fun x hx => by rw [hsB]; exact hx.2)
  have HC := Lib.hid hcall
  have HBA := Lib.hid hba
  have HSA := Lib.hid (by rw [hsB]; exact hSa : wa.heap[sB]? = some (sealObj number 0 (n1 : Int) (n2 : Int) sA m sC))
  have HWA := Lib.hid hwa
  unfold sealObj at HWA
  have HM := Lib.hid hm
  have HSB0 := Lib.hid hsB
  have HLOW : Hid (w.heap.size ≤ sB) := Lib.hid (by rw [hsB]; exact hb1.size)
  obtain ⟨x0, x1, x2, x3, x4⟩ := seal5 hSa
  rw [HWA.out] at x0 x1 x2 x3 x4
  clear hb1 hba' hba hSa hcall hwa hxo hm hsB
  go_wp2_with fail
  rw [← HWA.out, ← HSB0.out]
  refine HC.out.mono ?_
  rintro e w2 ⟨rfl, hb2⟩
  have hB2 := HBA.out.trans (hb2.mono HBA.out.size)
  have HCP2 := Lib.hid (HCP.out w2 hB2)
  have HB2 := Lib.hid hB2
  have HS2 := Lib.hid (below_obj hb2 HSA.out)
  have HXO2 := Lib.hid (HXO.out.old hb2)
  clear hb2 hB2 x0 x1 x2 x3 x4
  go_wp2_with fail
  refine HCP2.out.mono ?_
  rintro e w3 ⟨Ap, Cp, rfl, hpar, hb3⟩
  obtain ⟨w0, hw0⟩ : ∃ w0, w0 = w3.alloc (.cells cs 49) := ⟨_, rfl⟩
  have hb0' : Below w3.heap.size w3 w0 := by rw [hw0]; exact (Below.refl _ _).alloc (Nat.le_refl _) _
  have hb0 := hb3.trans (hb0'.mono hb3.size)
  have hBW := HB2.out.trans (hb0.mono HB2.out.size)
  obtain ⟨gm, hgm⟩ : ∃ gm, gm = w3.heap.size := ⟨_, rfl⟩
  have hsz0 : w0.heap.size = gm + 1 := by rw [hw0, hgm]; simp
  have hs2lt := heap_lt HS2.out
  have hgm2 : w2.heap.size ≤ gm := by rw [hgm]; exact hb3.size
  have HG1 : Hid (∀ b, b < sB ∨ (w2.heap.size ≤ b ∧ b < gm) → ¬ (b = sB ∨ b = gm ∨ w0.heap.size ≤ b)) := Lib.hid fun b hb => by omega
  have HPAR : Hid (RdP w0 Ap n2 (St.len data) 79 (St.X data n2) (fun b => ¬ (b = sB ∨ b = gm ∨ w0.heap.size ≤ b))) := Lib.hid (by
    have h1 := RdP.in_' hpar
    rw [← hgm] at h1
    exact (h1.old hb0').mono fun b hb => HG1.out b (.inr hb))
  have HRB : Hid (RdT w0 A2 blank (fun b => ¬ (b = sB ∨ b = gm ∨ w0.heap.size ≤ b))) := Lib.hid ((HR2.out.in_.old hBW).mono fun b hb => HG1.out b (.inl (Nat.lt_of_lt_of_le hb.2 HLOW.out)))
  have HXO0 : Hid (Sx.Ok ⟨⟨number, 0, (n1 : Int), (n2 : Int), labs⟩, sA, sC⟩ w0 (fun b => ¬ (b = sB ∨ b = gm ∨ w0.heap.size ≤ b))) := Lib.hid ((HXO2.out.old hb0).mono fun b hb => HG1.out b (.inl hb))
  have HI0 : Hid (MkI w0 sB gm n2 number n1 n2 sA m sC ((Gr.made data blank number).take 0) w0) := Lib.hid ⟨by rw [hgm]; exact MadeI.start hw0 (by rw [hcsz]; exact Nat.le_refl _), ⟨0, below_obj hb0 HS2.out⟩, Kp.refl _ _, by omega⟩
  have HBW := Lib.hid hBW
  have HW0 := Lib.hid hw0
  have HGM := Lib.hid hgm
  have HLO2 : Hid (w.heap.size ≤ gm ∧ gm < w0.heap.size) := Lib.hid ⟨by have := HB2.out.size; omega, by omega⟩
  clear hpar hb3 hb0' hb0 hBW hw0 hgm hsz0 hs2lt hgm2
  go_wp2
  rw [← HW0.out, ← HGM.out]
  clear hmk
  go_loopw [43] (fun vi wr => ∃ i : Nat, i ≤ n2 ∧ vi = .int .i64 (i : Int) ∧ Hid (MkI w0 sB gm n2 number n1 n2 sA m sC ((Gr.made data blank number).take i) wr)) (fun vi _ => n2 - (intOf vi).toNat)
  case atStart => exact ⟨0, Nat.zero_le _, rfl, HI0⟩
  case round =>
    obtain ⟨i, hi, rfl, HI⟩ := hrel
    by_cases hlt : i < n2
    · have e0 : decide (i < n2) = true := decide_eq_true hlt
      have hltb : i < blank.length := by rw [← HN2.out]; exact hlt
      obtain ⟨b, off, A', C', rfl, -, c0, c1, c2, c3, -⟩ := (HRB.out.kp HI.out.kp (fun b h => h)).at_ hltb
      have hpar : RdP wr Ap n2 (St.len data) 79 (St.X data n2) (fun b => ¬ (b = sB ∨ b = gm ∨ w0.heap.size ≤ b)) := HPAR.out.keep fun _ _ hg hc => HI.out.kp.cell hc hg
      obtain ⟨pb, po, Aj, Cj, rfl, pc, hrow⟩ := rdP_row hpar hlt
      rw [← HLEN.out] at pc
      have hrl : (Gr.rowsOf data n2 i).length = len := by rw [Gr.rowsOf_len, HLEN.out]
      have hr79 : ∀ b ∈ Gr.rowsOf data n2 i, b.length ≤ 79 := fun b hb => by rw [Gr.rowsOf_79 hb]; exact Nat.le_refl _
      obtain ⟨rows, hrows⟩ : ∃ rows, rows = Gr.rowsOf data n2 i := ⟨_, rfl⟩
      have hmt := HMT.out i hltb
      have hlab := HLABEL.out i hltb
      rw [← hrows] at hrow hrl hr79 hmt
      obtain ⟨⟨lab, cap, bs, lost⟩, ht⟩ : ∃ t, t = blank[i] := ⟨_, rfl⟩
      rw [← ht] at c0 c1 c2 c3 hmt hlab
      dsimp only at c0 c1 c2 c3 hmt hlab
      have hxo := HXO0.out.kp HI.out.kp (fun b h => h)
      obtain ⟨wa, hwa⟩ : ∃ wa, wa = wr.alloc (tapeObj lab cap A' bs.length C' lost) := ⟨_, rfl⟩
      have hba : Below wr.heap.size wr wa := by rw [hwa]; exact (Below.refl _ _).alloc (Nat.le_refl _) _
      have hTa : wa.heap[wr.heap.size]? = some (tapeObj lab cap A' bs.length C' lost) := by rw [hwa]; exact Go.Deep.blk_alloc_new _ _
      obtain ⟨wb, hwb⟩ : ∃ wb, wb = wa.setCell ⟨sB, 1, none⟩ (.int .i64 ((n1 : Int) + (i : Int))) := ⟨_, rfl⟩
      have hsBlt : sB < wr.heap.size := by obtain ⟨xi, hx⟩ := HI.out.hd; exact heap_lt hx
      obtain ⟨hIB, hSb⟩ := (HI.out.old hba).turn ((n1 : Int) + (i : Int))
      rw [← hwb] at hIB hSb
      have hkb : Kp (· = sB) wa wb := by rw [hwb]; exact Kp.store _ _ _ _
      have hTb : wb.heap[wr.heap.size]? = some (tapeObj lab cap A' bs.length C' lost) := (hkb.block _ (heap_lt hTa) (by omega)).trans hTa
      have hxob : Sx.Ok ⟨⟨number, 0, (n1 : Int), (n2 : Int), labs⟩, sA, sC⟩ wb (fun _ => True) := ((hxo.old hba).kp hkb (fun b hb e => hb (.inl e))).mono fun _ _ => trivial
      have hrowb : RdW wb Aj rows (fun _ => True) := by
        intro h0
        obtain ⟨b1, o1, e1, g1, r1⟩ := (hrow.old hba) h0
        refine ⟨b1, o1, e1, trivial, fun k hk => ?_⟩
        obtain ⟨A9, C9, k1, k2, k3⟩ := r1 k hk
        exact ⟨A9, C9, hkb.cell k1 (fun e => g1 (.inl e)), k2, (k3.kp hkb (fun b hb e => hb (.inl e))).mono fun _ _ => trivial⟩
      have hpb : pb ≠ sB := fun e => by
        obtain ⟨b9, o9, A9, C9, e9, g9, -⟩ := hpar.at_ hlt
        cases e9
        exact g9 (.inl e)
      have pcb : wb.cell? ⟨pb, po + i, none⟩ = some (.slice Aj len Cj) := hkb.cell ((hba.cell (World.block_lt_of_cell? _ _ pc)).trans pc) hpb
      have HUN : Hid (∀ y, Below wb.heap.size wb y → Calls Tryz.prog 22 #[.slice Aj len Cj, .agg #[.int .i64 number, .int .i64 ((n1 : Int) + (i : Int)), .int .i64 (n1 : Int), .int .i64 (n2 : Int), .slice sA m sC]] y (UnitsG (says rows ⟨number, (n1 : Int) + (i : Int), (n1 : Int), (n2 : Int), labs⟩) y)) := Lib.hid fun y hy => by
        have h := units_any Aj rows len Cj (fun _ => True) ⟨⟨number, (n1 : Int) + (i : Int), (n1 : Int), (n2 : Int), labs⟩, sA, sC⟩ y hrl.symm hlen1 (hrowb.old hy) ⟨hxob.le, hxob.max, hxob.nil, hxob.rd.old hy⟩
        dsimp only at h
        rwa [← HM.out] at h
      obtain ⟨sy, hsy⟩ : ∃ sy, sy = says rows ⟨number, (n1 : Int) + (i : Int), (n1 : Int), (n2 : Int), labs⟩ := ⟨_, rfl⟩
      have hsyl : sy.length = len + 2 := by rw [hsy]; simp [says, hrl]
      have HFR : Hid (∀ (y0 y : World) v us, us.map Ux.pair = sy → UnitI y0 v us y → ∃ A C, v = .slice A us.length C ∧ Calls Tryz.prog 21 #[.int .i64 lab, .slice A us.length C] y (BlocksG (framedL lab sy) y)) := Lib.hid fun y0 y v us hus hui => by
        obtain ⟨A, C, hv, -, -, -, hrd⟩ := hui.own.rd
        refine ⟨A, C, hv, ?_⟩
        have hul : us.length = len + 2 := by rw [← hsyl, ← hus, List.length_map]
        have h := framed_ok lab A us us.length C _ y rfl (by omega) hrd (fun u hu => (hui.ok u hu).mono fun _ _ => trivial) (fun k hk => by
          have h1 : (us.map Ux.pair)[k]? = some (Ux.pair us[k]) := by rw [List.getElem?_map, List.getElem?_eq_getElem hk]; rfl
          rw [hus, hsy] at h1
          exact says_ok hlab hr79 (by rw [hrl]; exact hlen1) k _ h1)
        rwa [hus] at h
      rw [show (((n1 + i : Nat)) : Int) = (n1 : Int) + (i : Int) by omega, ← hsy] at hmt
      rw [← hsy] at HUN
      obtain ⟨fb, hfb⟩ : ∃ fb, fb = framedL lab sy := ⟨_, rfl⟩
      rw [← hfb] at HFR hmt
      have HMT2 := Lib.hid hmt
      obtain ⟨L, hL⟩ : ∃ L, L = bs.length := ⟨_, rfl⟩
      rw [← hL] at c2 hwa hTa hTb
      have HTB := Lib.hid hTb
      have HIB := Lib.hid hIB
      have HIL : Hid (i = ((Gr.made data blank number).take i).length) := Lib.hid (by rw [List.length_take, HML.out]; omega)
      have s1 : IntKind.i64.wrap ((n1 : Int) + (i : Int)) = (n1 : Int) + (i : Int) := IntWalk.i64_in _ (by omega)
      obtain ⟨xi, hSa⟩ := (HI.out.old hba).hd
      have f1 : wa.cell? ⟨sB, 1, none⟩ = some (.int .i64 xi) := (seal5 hSa).2.1
      have f2 : wa.frozen? ⟨sB, 1, none⟩ = false := heap_frozen hSa
      have HWA := Lib.hid hwa
      unfold tapeObj at HWA
      have HWB := Lib.hid hwb
      rw [HWA.out] at f1 f2 HWB
      have HS : Hid (∀ y, Below wb.heap.size wb y → y.cell? ⟨wr.heap.size, 0, none⟩ = some (.int .i64 lab) ∧ y.cell? ⟨pb, po + i, none⟩ = some (.slice Aj len Cj) ∧ y.cell? ⟨sB, 0, none⟩ = some (.int .i64 number) ∧ y.cell? ⟨sB, 1, none⟩ = some (.int .i64 ((n1 : Int) + (i : Int))) ∧ y.cell? ⟨sB, 2, none⟩ = some (.int .i64 (n1 : Int)) ∧ y.cell? ⟨sB, 3, none⟩ = some (.int .i64 (n2 : Int)) ∧ y.cell? ⟨sB, 4, none⟩ = some (.slice sA m sC)) := Lib.hid fun y hy => by
        obtain ⟨q0, q1, q2, q3, q4⟩ := seal5 (below_obj hy hSb)
        exact ⟨(tape4 (below_tape hy hTb)).1, (hy.cell (World.block_lt_of_cell? _ _ pcb)).trans pcb, q0, q1, q2, q3, q4⟩
      have hbd : Below wb.heap.size wb wb.drew := (Below.refl _ _).drew
      have hx0 := HS.out _ hbd
      have HBD := Lib.hid hbd
      have hlo0 : w0.heap.size ≤ wr.heap.size := HI.out.kp.size
      have hlo1 : wr.heap.size ≤ wb.heap.size := Nat.le_trans hba.size hkb.size
      clear hpar pc hrl hr79 hrow hrows hlab hmt ht hxo hba hTa hIB hSb hkb hTb hxob hrowb hpb pcb hsy hsyl hfb hL hwa hwb hSa hsBlt
      go_wp2
      rw [← HWB.out]
      go_region_held3 (fun y => y.cell? ⟨wr.heap.size, 0, none⟩ = some (.int .i64 lab) ∧ y.cell? ⟨pb, po + i, none⟩ = some (.slice Aj len Cj) ∧ y.cell? ⟨sB, 0, none⟩ = some (.int .i64 number) ∧ y.cell? ⟨sB, 1, none⟩ = some (.int .i64 ((n1 : Int) + (i : Int))) ∧ y.cell? ⟨sB, 2, none⟩ = some (.int .i64 (n1 : Int)) ∧ y.cell? ⟨sB, 3, none⟩ = some (.int .i64 (n2 : Int)) ∧ y.cell? ⟨sB, 4, none⟩ = some (.slice sA m sC))
        (first
          | exact hx9
          | exact hx2
          | exact hx0)
        (first
          | (go_at_call 22; refine (HUN.out _ HBD.out).mono ?_; rintro e y1 ⟨v1, us1, rfl, hus1, hui1⟩; obtain ⟨Av, Cv, rfl, hfr⟩ := HFR.out _ y1 v1 us1 hus1 hui1; have hby := HBD.out.trans (hui1.bel.mono HBD.out.size); have hx2 := HS.out y1 hby)
          | (go_at_call 21; refine hfr.mono ?_; rintro e y2 ⟨Ab, Cb, rfl, hcb, hcm, hab, hrb, hb2⟩; have hby2 := hby.trans (hb2.mono hby.size); have hx9 := HS.out y2 hby2))
      have HY2 := Lib.hid hby2
      have HRB2 : Hid (RdB y2 Ab fb (w0.heap.size ≤ ·)) := Lib.hid (hrb.mono fun x hx => by
        have h1 : y1.heap.size ≤ x := hx
        have h2 := hby.size
        omega)
      have HI2 := Lib.hid (HIB.out.old hby2)
      obtain ⟨t0, t1', -, -⟩ := tape4 (below_tape hby2 HTB.out)
      obtain ⟨⟨v0, g0⟩, ⟨v1', g1⟩, ⟨v2', g2⟩, ⟨v3', g3⟩, gf⟩ := HI2.out.made.four hlt
      have p0 := gf (i * 4)
      have p1 := gf (i * 4 + 1)
      have p2 := gf (i * 4 + 2)
      have p3 := gf (i * 4 + 3)
      obtain ⟨K, hK⟩ : ∃ K, K = fb.length := ⟨_, rfl⟩
      have hset := HI2.out.set HIL.out hlt (t := ⟨lab, cap, fb, false⟩) (A := Ab) (C := Cb) HRB2.out
      rw [← HMT2.out] at hset
      dsimp only at hset
      rw [← hK] at hset ⊢
      have HSET := Lib.hid hset
      clear hx0 hx2 hx9 hby hby2 hb2 hrb hcb hcm hab hfr hui1 hus1 gf hset hK hbd
      go_wp2
      go_roundw
      case rel => exact ⟨i + 1, by omega, by go_num, HSET⟩
      case measure => simp [intOf]; omega
    · have e0 : decide (i < n2) = false := decide_eq_false hlt
      have hI := HI.out
      rw [List.take_of_length_le (by rw [HML.out]; omega)] at hI
      have HIE := Lib.hid hI
      clear hI
      go_wp2
      go_ret2
      exact HMA.out _ _ _ (Nat.le_refl _) (by unfold maxLen; omega) (fun e => by cases e) (HIE.out.made.rdT HLO2.out.1) (HBW.out.trans (HIE.out.kp.below HBW.out.size fun k hk => by have := HLO2.out; have := HLOW.out; omega))
end Go.Proofs.YtfkoomldncfdnaaGreat
namespace Go.Proofs.YtfkoomldncfdnaaGreat
open Go.RowKit
open Pt (Tx)

theorem lit_rd (w : World) (l : Tx) {c : Array Value} (hc : c = (cellsL l).toArray) : RdL (w.alloc (.cells c 5)) (some ⟨w.heap.size, 0, none⟩) l (· = w.heap.size) := by
  subst hc
  exact RdL.of_cells (Go.Deep.blk_alloc_new _ _) fun j hj => by rw [Nat.zero_add]; simpa using cellsL_get hj
theorem Turned.refl (g base : Nat) (w : World) : Turned g base w w := Kp.refl _ w
theorem vbyte_any (g base : Nat) (v : Value) (l : Tx) (c : UInt8) (w : World) (h : Rw w g base v l) (hbase : base ≤ w.heap.size) (hl : l.length ≤ 999999990) :
    Calls Tryz.prog 39 #[.pointer (some ⟨g, 0, none⟩), .int .u8 (c.toNat : Int)] w (RefWrote g base (l ++ [c]) w) := by
  have hlt := h.lt
  obtain ⟨A, C, hv, -, -, -, -⟩ := h.2.rd
  have c0 : w.cell? ⟨g, 0, none⟩ = some v := heap_cell h.1
  have f0 : w.frozen? ⟨g, 0, none⟩ = false := heap_frozen h.1
  have H := Lib.hid h
  clear h
  subst hv
  go_enter Tryz.func39, Tryz.ntmps39
  go_wp2_with (at_builtin; refine wpList_append_bl _ rfl _ _ rfl base _ l rfl (H.out.2.alloc _) (some ⟨w.heap.size, 0, none⟩) 1 1 [c] (· = w.heap.size) rfl rfl (fun h => by cases h) (lit_rd w [c] rfl) (by omega) (by simp; omega) ?_; intro v' w' hv hg; obtain ⟨hA, hB, hC⟩ := H.out.stored ((Turned.refl g base w).alloc _) (Below.heap_alloc _ _ _ hlt) (H.out.2.alloc _) hg hv; obtain ⟨A', C', rfl, -, -, -, -⟩ := hv.rd; have d0 : w'.cell? ⟨g, 0, none⟩ = some (.slice A l.length C) := heap_cell (hA.trans H.out.1); have d1 : w'.frozen? ⟨g, 0, none⟩ = false := heap_frozen (hA.trans H.out.1); have HB := Lib.hid hB; have HC := Lib.hid hC; clear hA hB hC hv hg)
  go_end0
  have hb := HB.out
  have hc := HC.out
  rw [List.length_append] at hb hc
  exact ⟨rfl, ⟨_, hb⟩, hc⟩
theorem mask_u64 (y : Int) (h0 : 0 ≤ y) (h1 : y < 18446744073709551616) : bits BinOp.and IntKind.u64 y 255 = y % 256 := by
  have h : bits BinOp.and IntKind.u64 y (2 ^ 8 - 1) = y % 2 ^ 8 := bits_mask .u64 64 (by decide) (fun m h0 h1 => by rw [IntKind.wrap_u64]; omega) 8 (by decide) y h0 h1
  simpa using h
theorem vint_any (g base : Nat) (v : Value) (l : Tx) (n : Int) (w : World) (h : Rw w g base v l) (hbase : base ≤ w.heap.size) (hl : l.length ≤ 999999990) :
    Calls Tryz.prog 40 #[.pointer (some ⟨g, 0, none⟩), .int .i64 n] w (RefWrote g base (l ++ Cd.be4 n) w) := by
  have hlt := h.lt
  obtain ⟨A, C, hv, -, -, -, -⟩ := h.2.rd
  have c0 : w.cell? ⟨g, 0, none⟩ = some v := heap_cell h.1
  have f0 : w.frozen? ⟨g, 0, none⟩ = false := heap_frozen h.1
  have H := Lib.hid h
  clear h
  subst hv
  have hw := IntKind.wrap_u64 n
  have m0 : bits BinOp.and IntKind.u64 (IntKind.u64.wrap n / 16777216) 255 = n / 16777216 % 256 := by rw [mask_u64 _ (by omega) (by omega), hw]; omega
  have m1 : bits BinOp.and IntKind.u64 (IntKind.u64.wrap n / 65536) 255 = n / 65536 % 256 := by rw [mask_u64 _ (by omega) (by omega), hw]; omega
  have m2 : bits BinOp.and IntKind.u64 (IntKind.u64.wrap n / 256) 255 = n / 256 % 256 := by rw [mask_u64 _ (by omega) (by omega), hw]; omega
  have m3 : bits BinOp.and IntKind.u64 (IntKind.u64.wrap n) 255 = n % 256 := by rw [mask_u64 _ (by omega) (by omega), hw]; omega
  clear hw
  go_enter Tryz.func40, Tryz.ntmps40
  go_wp2_with (at_builtin; refine wpList_append_bl _ rfl _ _ rfl base _ l rfl (H.out.2.alloc _) (some ⟨w.heap.size, 0, none⟩) 4 4 (Cd.be4 n) (· = w.heap.size) rfl rfl (fun h => by cases h) (lit_rd w (Cd.be4 n) (by simp [cellsL, Cd.be4, Cd.b8_nat])) (by omega) (by simp; omega) ?_; intro v' w' hv hg; obtain ⟨hA, hB, hC⟩ := H.out.stored ((Turned.refl g base w).alloc _) (Below.heap_alloc _ _ _ hlt) (H.out.2.alloc _) hg hv; obtain ⟨A', C', rfl, -, -, -, -⟩ := hv.rd; have d0 : w'.cell? ⟨g, 0, none⟩ = some (.slice A l.length C) := heap_cell (hA.trans H.out.1); have d1 : w'.frozen? ⟨g, 0, none⟩ = false := heap_frozen (hA.trans H.out.1); have HB := Lib.hid hB; have HC := Lib.hid hC; clear hA hB hC hv hg)
  go_end0
  have hb := HB.out
  have hc := HC.out
  rw [List.length_append] at hb hc
  exact ⟨rfl, ⟨_, hb⟩, hc⟩
end Go.Proofs.YtfkoomldncfdnaaGreat
namespace Go.Proofs.YtfkoomldncfdnaaGreat
open Go.RowKit
open Pt (Tx)

theorem Turned.other {g base B : Nat} {a b : World} {cs : Array Value} {t : TypeId} (h : Turned g base a b) (hB : B ≠ g) (ht : t ≠ 5) (hu : a.heap[B]? = some (.cells cs t (0, 0))) : b.heap[B]? = some (.cells cs t (0, 0)) := by
  refine (h.block B (heap_lt hu) ?_).trans hu
  rintro (h' | ⟨_, c, h'⟩)
  · exact hB h'
  · rw [hu] at h'
    injection h' with h'
    injection h' with _ e
    exact ht e
/-- a Writer of the document's own at work: what it holds, and what lies beside it -/
structure RefAt (w : World) (gr : Nat) (o : Obj) (l : Tx) (x : World) : Prop where
  rw_ : ∃ v, Rw x gr gr v l
  hd : x.heap[w.heap.size]? = some o
  bel : Below w.heap.size w x
  lo : w.heap.size < gr
theorem RefAt.wrote {w : World} {gr : Nat} {l l' : Tx} {x y : World} {e : Ending} {cs : Array Value} {t : TypeId} (ht : t ≠ 5) (h : RefAt w gr (.cells cs t (0, 0)) l x) (hw : RefWrote gr gr l' x e y) : RefAt w gr (.cells cs t (0, 0)) l' y := by
  obtain ⟨_, h2, h3⟩ := hw
  have := h.lo
  exact ⟨h2, h3.other (by omega) ht h.hd, h.bel.trans (Turned.below h3 h.bel.size (by omega) (by omega)), h.lo⟩
theorem RefAt.base {w : World} {gr : Nat} {o : Obj} {l : Tx} {x : World} (h : RefAt w gr o l x) : gr ≤ x.heap.size := by
  obtain ⟨v, hv⟩ := h.rw_
  exact Nat.le_of_lt hv.lt
theorem RefAt.done {w : World} {gr : Nat} {o : Obj} {l l' : Tx} {x : World} (h : RefAt w gr o l x) (hl : l = l') : ∃ A C, x.cell? ⟨gr, 0, none⟩ = some (.slice A l.length C) ∧ AnsT l' w (.returned (.slice A l.length C)) x := by
  subst hl
  obtain ⟨v, hv⟩ := h.rw_
  obtain ⟨A, C, rfl, g1, g2, g3, g4⟩ := hv.2.rd
  have := h.lo
  exact ⟨A, C, heap_cell hv.1, A, l.length, C, rfl, rfl, g1, g2, g3, g4.mono (fun x hx => by omega), h.bel⟩
theorem vbyte_int (g base : Nat) (v : Value) (l : Tx) (n : Int) (w : World) (h : Rw w g base v l) (hbase : base ≤ w.heap.size) (hl : l.length ≤ 999999990) :
    Calls Tryz.prog 39 #[.pointer (some ⟨g, 0, none⟩), .int .u8 (n % 256)] w (RefWrote g base (l ++ [Cd.b8 n]) w) := by
  rw [← Cd.b8_nat]; exact vbyte_any g base v l (Cd.b8 n) w h hbase hl
end Go.Proofs.YtfkoomldncfdnaaGreat
namespace Go.Proofs.YtfkoomldncfdnaaGreat
open Go.RowKit
open Pt (Tx)

/-- what PutFrame answers: bytes of its own, and an error -/
def PutO (u : Fm.U) (w : World) (e : Ending) (w' : World) : Prop :=
  ∃ A n C, e = .returned (.tuple #[.slice A n C, .int .i64 (Fm.err u)]) ∧ OwnL w' w.heap.size (.slice A n C) (Fm.put u) ∧ Below w.heap.size w w'
theorem PutO.toU {u : Fm.U} {w w' : World} {e : Ending} (h : PutO u w e w') : PutU u w e w' := by
  obtain ⟨A, n, C, h1, h2, h3⟩ := h
  obtain ⟨A', C', e', g1, g2, g3, g4⟩ := h2.rd
  injection e' with x1 x2 x3
  subst x1 x3
  exact ⟨A, n, C, h1, x2, by rw [x2]; exact g1, g2, fun h => by rw [x2]; exact g3 h, g4.mono fun _ h => h.1, h3⟩
theorem refPut_arg (k lb nb : Int) (A : Option Addr) (s : Tx) (m C : Nat) (w : World) (h : ¬ Fm.argOk ⟨k, lb, nb, s⟩) :
    Calls Tryz.prog 16 #[.agg #[.int .i64 k, .int .i64 lb, .int .i64 nb, .slice A m C]] w (PutO ⟨k, lb, nb, s⟩ w) := by
  have HB : Hid (Below w.heap.size w (w.alloc (unitObj k lb nb A m C))) := Lib.hid ((Below.refl _ _).alloc (Nat.le_refl _) _)
  have HP := Lib.hid (Fm.put_no (u := ⟨k, lb, nb, s⟩) fun h' => h h'.1)
  have HE := Lib.hid (Fm.err_arg h)
  have hq : (decide (k < 1) = true) ∨ (decide (k < 1) = false ∧ decide (6 < k) = true) ∨ (decide (k < 1) = false ∧ decide (6 < k) = false ∧ decide (lb < 1) = true) ∨ (decide (k < 1) = false ∧ decide (6 < k) = false ∧ decide (lb < 1) = false ∧ decide (2147483647 < lb) = true)
      ∨ (decide (k < 1) = false ∧ decide (6 < k) = false ∧ decide (lb < 1) = false ∧ decide (2147483647 < lb) = false ∧ decide (nb < 0) = true) ∨ (decide (k < 1) = false ∧ decide (6 < k) = false ∧ decide (lb < 1) = false ∧ decide (2147483647 < lb) = false ∧ decide (nb < 0) = false ∧ decide (2147483647 < nb) = true) := by
    unfold Fm.argOk at h
    simp only at h
    simp only [decide_eq_true_eq, decide_eq_false_iff_not]; omega
  have hz : (k == 6) = true ∨ (k == 6) = false := by cases (k == 6) <;> simp
  clear h
  rcases hq with q1 | ⟨q1, q2⟩ | ⟨q1, q2, q3⟩ | ⟨q1, q2, q3, q4⟩ | ⟨q1, q2, q3, q4, q5⟩ | ⟨q1, q2, q3, q4, q5, q6⟩ <;> rcases hz with z1 | z1
  all_goals
    go_enter Tryz.func16, Tryz.ntmps16
    go_wp2
    go_ret2
    exact ⟨none, 0, 0, by rw [HE.out]; rfl, by rw [HP.out]; exact OwnL.nil _ _, HB.out⟩
theorem ks {k : Int} : (k == 6) = true ∧ Fm.room k = 79 ∨ (k == 6) = false ∧ Fm.room k = 64 := by
  by_cases e : k = 6
  · left; rw [e]; exact ⟨rfl, rfl⟩
  · right; exact ⟨beq_eq_false_iff_ne.2 e, if_neg e⟩
theorem refPut_long (k lb nb : Int) (A : Option Addr) (s : Tx) (m C : Nat) (w : World) (h : Fm.argOk ⟨k, lb, nb, s⟩) (hm : m = s.length) (hl : Fm.room k < m) :
    Calls Tryz.prog 16 #[.agg #[.int .i64 k, .int .i64 lb, .int .i64 nb, .slice A m C]] w (PutO ⟨k, lb, nb, s⟩ w) := by
  have HB : Hid (Below w.heap.size w (w.alloc (unitObj k lb nb A m C))) := Lib.hid ((Below.refl _ _).alloc (Nat.le_refl _) _)
  have HP := Lib.hid (Fm.put_no (u := ⟨k, lb, nb, s⟩) fun h' => by have : s.length ≤ Fm.room k := h'.2; omega)
  have HE := Lib.hid (Fm.err_long h (by show Fm.room k < s.length; omega))
  obtain ⟨h1, h2, h3, h4, h5, h6⟩ := h
  simp only at h1 h2 h3 h4 h5 h6
  have q1 : decide (k < 1) = false := decide_eq_false (by omega)
  have q2 : decide (6 < k) = false := decide_eq_false (by omega)
  have q3 : decide (lb < 1) = false := decide_eq_false (by omega)
  have q4 : decide (2147483647 < lb) = false := decide_eq_false (by omega)
  have q5 : decide (nb < 0) = false := decide_eq_false (by omega)
  have q6 : decide (2147483647 < nb) = false := decide_eq_false (by omega)
  have hk := ks (k := k)
  clear h1 h2 h3 h4 h5 h6 hm
  rcases hk with ⟨z1, hr⟩ | ⟨z1, hr⟩
  all_goals
    rw [hr] at hl
    clear hr
    go_enter Tryz.func16, Tryz.ntmps16
    go_wp2
    go_ret2
    exact ⟨none, 0, 0, by rw [HE.out]; rfl, by rw [HP.out]; exact OwnL.nil _ _, HB.out⟩
theorem Turned.unit {g base B : Nat} {a b : World} {k lb nb : Int} {A : Option Addr} {m C : Nat} (h : Turned g base a b) (hB : B ≠ g) (hu : a.heap[B]? = some (unitObj k lb nb A m C)) : b.heap[B]? = some (unitObj k lb nb A m C) := by
  refine (h.block B (heap_lt hu) ?_).trans hu
  rintro (h' | ⟨_, c, h'⟩)
  · exact hB h'
  · rw [hu] at h'
    injection h' with h'
    injection h' with _ e
    exact absurd e (by decide)
/-- the same, where the count is a number that is reckoned -/
theorem step_append_int {P : Program} {ops : Array Oper} {o : Oper} {a : Act} {w : World} {K : Act → World → Prop} {Q : Exit → Act → World → Prop} {E : Prop} (hg : o.guard = none) (s x : Operand) (t tn : TypeId)
    (ho : o.op = .call { callee := .builtin .append, args := #[s, x], argTypes := #[t, tn] }) (vs v' : Value) (w' : World) (n : Int) (hs : a.eval s = vs) (hx : a.eval x = .int .i64 n) (hr : ∀ ty, (Builtin.append_ #[t, tn] ty #[vs, .int .i64 n]).run P w = .ok v' w')
    (hK : K (a.put o.dst v') w') : if Region.wanted o (yielded ops a.tmps) = true then Oper.wp P o a w K Q else E :=
  step_append_eq hg s x t tn ho vs (.int .i64 n) v' w' hr hs hx hK
theorem low_byte (m : Nat) (hm : m ≤ 79) : bits BinOp.and IntKind.i64 (m : Int) 255 = (m : Int) := by
  show IntKind.i64.wrap ((BitVec.ofInt 64 (m : Int) &&& BitVec.ofInt 64 255).toNat : Int) = _
  rw [BitVec.toNat_and, show (BitVec.ofInt 64 255).toNat = 2 ^ 8 - 1 by decide, Nat.and_two_pow_sub_one_eq_mod, BitVec.ofInt_natCast, BitVec.toNat_ofNat, IntKind.wrap_i64]
  omega
set_option maxRecDepth 100000 in
set_option maxHeartbeats 4000000 in
theorem refPut_good (k lb nb : Int) (A : Option Addr) (s : Tx) (m C : Nat) (G : Nat → Prop) (w : World) (hm : m = s.length) (hA : A = none → m = 0 ∧ C = 0) (hr : RdL w A s G) (hok : Fm.Ok ⟨k, lb, nb, s⟩) :
    Calls Tryz.prog 16 #[.agg #[.int .i64 k, .int .i64 lb, .int .i64 nb, .slice A m C]] w (PutO ⟨k, lb, nb, s⟩ w) := by
  obtain ⟨wa, hwa⟩ : ∃ wa, wa = (w.alloc (unitObj k lb nb A m C)).alloc (.cells #[.slice none 0 0] 78) := ⟨_, rfl⟩
  have HB0 : Hid (Below w.heap.size w wa) := Lib.hid (by rw [hwa]; exact ((Below.refl _ _).alloc (Nat.le_refl _) _).alloc (by simp) _)
  have HU0 : Hid (wa.heap[w.heap.size]? = some (unitObj k lb nb A m C)) := Lib.hid (by
    rw [hwa, Below.heap_alloc _ _ _ (by simp)]; exact Go.Deep.blk_alloc_new _ _)
  have H0 : Hid (Rw wa (w.heap.size + 1) w.heap.size (.slice none 0 0) []) := Lib.hid (by
    refine ⟨?_, OwnL.nil _ _⟩
    have := Go.Deep.blk_alloc_new (w.alloc (unitObj k lb nb A m C)) (.cells #[.slice none 0 0] 78)
    rw [hwa]; simpa using this)
  obtain ⟨a0, a1, a2, a3⟩ := unit4 HU0.out
  have HK := Lib.hid hok
  obtain ⟨⟨h1, h2, h3, h4, h5, h6⟩, h7⟩ := hok
  simp only at h1 h2 h3 h4 h5 h6 h7
  have q1 : decide (k < 1) = false := decide_eq_false (by omega)
  have q2 : decide (6 < k) = false := decide_eq_false (by omega)
  have q3 : decide (lb < 1) = false := decide_eq_false (by omega)
  have q4 : decide (2147483647 < lb) = false := decide_eq_false (by omega)
  have q5 : decide (nb < 0) = false := decide_eq_false (by omega)
  have q6 : decide (2147483647 < nb) = false := decide_eq_false (by omega)
  have hk := ks (k := k)
  have HR := Lib.hid hr
  have HM := Lib.hid hm
  have HA := Lib.hid hA
  have hroom : m ≤ Fm.room k := by omega
  have HW := Lib.hid hwa
  rw [hwa] at a0 a1 a2 a3
  unfold unitObj at a0 a1 a2 a3 HW
  clear h1 h2 h3 h4 h5 h6 h7 hm hA hr hwa
  obtain ⟨R, hR⟩ : ∃ R, R = Fm.room k := ⟨_, rfl⟩
  rw [← hR] at hroom hk
  have HRM := Lib.hid hR
  clear hR
  have hR79 : R ≤ 79 := by rcases hk with ⟨_, h⟩ | ⟨_, h⟩ <;> omega
  have hm79 : m ≤ 79 := by omega
  have q7 : decide (R < m) = false := decide_eq_false (by omega)
  have q8 : decide ((R : Int) < (m : Int)) = false := decide_eq_false (by omega)
  have hsub : (R : Int) - (m : Int) = ((R - m : Nat) : Int) := by omega
  go_enter Tryz.func16, Tryz.ntmps16
  go_upto_if 8 with fail
  go_cut [4] (fun v wx => v = .int .i64 (R : Int) ∧ wx = w.alloc (.cells #[.int .i64 k, .int .i64 lb, .int .i64 nb, .slice A m C] 46))
  case first =>
    rcases hk with ⟨z1, rfl⟩ | ⟨z1, rfl⟩
    all_goals
      go_wp2
      go_meet
      exact ⟨rfl, rfl⟩
  case rest =>
  obtain ⟨rfl, rfl⟩ := hcut
  clear hk
  go_wp2_with fail
  rw [← HW.out]
  refine (vbyte_int _ _ _ [] k wa H0.out HB0.out.size (by simp)).mono ?_
  rintro e w1 ⟨rfl, ⟨v1, hW1⟩, hK1⟩
  have HW1 := Lib.hid hW1
  have HU1 := Lib.hid (hK1.unit (by omega) HU0.out)
  have HB1 := Lib.hid (HB0.out.trans (hK1.below HB0.out.size (by omega) (Nat.le_refl _)))
  obtain ⟨b0, b1, b2, b3⟩ := unit4 HU1.out
  clear hW1 hK1 a0 a1 a2 a3
  go_wp2_with fail
  refine (vint_any _ _ _ _ lb w1 HW1.out HB1.out.size (by simp)).mono ?_
  rintro e w2 ⟨rfl, ⟨v2, hW2⟩, hK2⟩
  have HW2 := Lib.hid hW2
  have HU2 := Lib.hid (hK2.unit (by omega) HU1.out)
  have HB2 := Lib.hid (HB1.out.trans (hK2.below HB1.out.size (by omega) (Nat.le_refl _)))
  obtain ⟨c0, c1, c2, c3⟩ := unit4 HU2.out
  clear hW2 hK2 b0 b1 b2 b3
  go_wp2_with fail
  refine (vint_any _ _ _ _ nb w2 HW2.out HB2.out.size (by simp [Cd.be4_len])).mono ?_
  rintro e w3 ⟨rfl, ⟨v3, hW3⟩, hK3⟩
  have HW3 := Lib.hid hW3
  have HU3 := Lib.hid (hK3.unit (by omega) HU2.out)
  have HB3 := Lib.hid (HB2.out.trans (hK3.below HB2.out.size (by omega) (Nat.le_refl _)))
  obtain ⟨d0, d1, d2, d3⟩ := unit4 HU3.out
  clear hW3 hK3 c0 c1 c2 c3
  go_wp2_with fail
  obtain ⟨l3, hl3⟩ : ∃ l3, l3 = [] ++ [Cd.b8 k] ++ Cd.be4 lb ++ Cd.be4 nb := ⟨_, rfl⟩
  rw [← hl3] at HW3
  have hn3 : l3.length = 9 := by rw [hl3]; simp [Cd.be4_len]
  have HL3 := Lib.hid hl3
  obtain ⟨A3, C3, hv3, -, -, -, -⟩ := HW3.out.2.rd
  rw [hn3] at hv3
  subst hv3
  have HN3 := Lib.hid hn3
  clear hl3 hn3
  have x0 : w3.cell? ⟨w.heap.size + 1, 0, none⟩ = some (.slice A3 9 C3) := heap_cell HW3.out.1
  have x1 : w3.frozen? ⟨w.heap.size + 1, 0, none⟩ = false := heap_frozen HW3.out.1
  have hlow := low_byte m hm79
  obtain ⟨wl, hwl⟩ : ∃ wl, wl = (w3.alloc (.cells #[.int .u8 (IntKind.u8.wrap ((m : Int) / 256)), .int .u8 (IntKind.u8.wrap (m : Int))] 5)).drew := ⟨_, rfl⟩
  have hbl : Below w3.heap.size w3 wl := by rw [hwl]; exact ((Below.refl _ _).alloc (Nat.le_refl _) _).drew
  have hol : OwnL wl w.heap.size (.slice A3 9 C3) l3 := HW3.out.2.of_block fun x hx => hbl.block x (HW3.out.2.lt x hx)
  have hll : RdL wl (some ⟨w3.heap.size, 0, none⟩) [Cd.b8 ((m : Int) / 256), Cd.b8 (m : Int)] (· = w3.heap.size) := by
    rw [hwl]
    refine rd_of_cells (l := [Cd.b8 ((m : Int) / 256), Cd.b8 (m : Int)]) (fr := (0, 0)) ?_
    have h1 := IntKind.wrap_u8 ((m : Int) / 256)
    have h2 := IntKind.wrap_u8 (m : Int)
    rw [h1, h2]
    refine (Go.Deep.blk_alloc_new w3 _).trans ?_
    simp [cellsL, Cd.b8_nat]
  obtain ⟨A4, C4, w4, hr4, hO4, hG4⟩ := ap_run wl w.heap.size _ _ hol (some ⟨w3.heap.size, 0, none⟩) 2 2 _ _ rfl (fun h => by cases h) hll (by rw [HN3.out]; decide) (Nat.le_trans HB3.out.size hbl.size) 11 (by rw [HN3.out])
  obtain ⟨hx4, hR4, hT4⟩ := HW3.out.stored ((Turned.refl _ _ w3).trans (Kp.of_below hbl)) (hbl.block _ HW3.out.lt) hol hG4 hO4
  have x4 : w4.cell? ⟨w.heap.size + 1, 0, none⟩ = some (.slice A3 9 C3) := heap_cell (hx4.trans HW3.out.1)
  have y4 : w4.frozen? ⟨w.heap.size + 1, 0, none⟩ = false := heap_frozen (hx4.trans HW3.out.1)
  have HR4 := Lib.hid hR4
  have HT4 := Lib.hid hT4
  have hbl' := hbl
  clear hbl hol hll hO4 hG4 hx4 hR4 hT4
  have x0w : wl.cell? ⟨w.heap.size + 1, 0, none⟩ = some (.slice A3 9 C3) := (Below.cell hbl' (p := ⟨w.heap.size + 1, 0, none⟩) HW3.out.lt).trans x0
  rw [hwl] at hr4 x0w
  clear hwl hbl'
  go_cut [] (fun wx => ∃ (A4 : Option Addr) (C4 : Nat), Hid (Rw wx (w.heap.size + 1) w.heap.size (.slice A4 11 C4) (l3 ++ [Cd.b8 ((m : Int) / 256), Cd.b8 (m : Int)])) ∧ Hid (Turned (w.heap.size + 1) w.heap.size w3 wx))
  case first =>
    go_region_law (first
      | (refine step_append_eq (by rfl) _ _ _ _ (by rfl) _ _ _ _ hr4 (by rfl) (by rfl) ?_))
    all_goals
      go_wp2
      go_meet
      exact ⟨A4, C4, HR4, HT4⟩
  case rest =>
    obtain ⟨A5, C5, HR5, HT5⟩ := hcut
    obtain ⟨w5, rfl⟩ : ∃ x, x = wc := ⟨wc, rfl⟩
    rename_i wx
    obtain ⟨l5, hl5⟩ : ∃ l5, l5 = l3 ++ [Cd.b8 ((m : Int) / 256), Cd.b8 (m : Int)] := ⟨_, rfl⟩
    rw [← hl5] at HR5
    have hn5 : l5.length = 11 := by rw [hl5, List.length_append, HN3.out]; rfl
    have HL5 := Lib.hid hl5
    have HN5 := Lib.hid hn5
    have HU5 := Lib.hid (HT5.out.unit (by omega) HU3.out)
    have HB5 := Lib.hid (HB3.out.trans (HT5.out.below HB3.out.size (by omega) (Nat.le_refl _)))
    clear hl5 hn5 hr4 x0w x4 y4 x0 x1 d0 d1 d2 d3 HT5 HR4 HT4
    go_wp2_with fail
    obtain ⟨u0, u1, u2, u3⟩ := unit4 HU5.out
    have x0 : w5.cell? ⟨w.heap.size + 1, 0, none⟩ = some (.slice A5 11 C5) := heap_cell HR5.out.1
    have hbl : Below w5.heap.size w5 w5.drew := (Below.refl _ _).drew
    have hol : OwnL w5.drew w.heap.size (.slice A5 11 C5) l5 := HR5.out.2.of_block fun x hx => rfl
    have hll : RdL w5.drew A s (· < w.heap.size) := (HR.out.in_.old HB5.out.drew).mono fun _ h => h.2
    obtain ⟨A6, C6, w6, hr6, hO6, hG6⟩ := ap_run w5.drew w.heap.size _ _ hol A m C _ _ HM.out.symm HA.out hll (by rw [HN5.out]; omega) HB5.out.drew.size (11 + m) (by rw [HN5.out])
    obtain ⟨hx6, hR6, hT6⟩ := HR5.out.stored ((Turned.refl _ _ w5).trans (Kp.of_below hbl)) (hbl.block _ HR5.out.lt) hol hG6 hO6
    have x6 : w6.cell? ⟨w.heap.size + 1, 0, none⟩ = some (.slice A5 11 C5) := heap_cell (hx6.trans HR5.out.1)
    have y6 : w6.frozen? ⟨w.heap.size + 1, 0, none⟩ = false := heap_frozen (hx6.trans HR5.out.1)
    have HR6 := Lib.hid hR6
    have HT6 := Lib.hid hT6
    clear hbl hol hll hO6 hG6 hx6 hR6 hT6
    go_cut [] (fun wx => ∃ (A7 : Option Addr) (C7 : Nat), Hid (Rw wx (w.heap.size + 1) w.heap.size (.slice A7 (11 + m) C7) (l5 ++ s)) ∧ Hid (Turned (w.heap.size + 1) w.heap.size w5 wx))
    case first =>
      go_region_law (first
        | (refine step_append_eq (by rfl) _ _ _ _ (by rfl) _ _ _ _ hr6 (by rfl) (by rfl) ?_))
      all_goals
        go_wp2
        go_meet
        exact ⟨A6, C6, HR6, HT6⟩
    case rest =>
    obtain ⟨A7, C7, HR7, HT7⟩ := hcut
    obtain ⟨w7, rfl⟩ : ∃ x, x = wc := ⟨wc, rfl⟩
    obtain ⟨l7, hl7⟩ : ∃ l7, l7 = l5 ++ s := ⟨_, rfl⟩
    rw [← hl7] at HR7
    have hn7 : l7.length = 11 + m := by rw [hl7, List.length_append, HN5.out, ← HM.out]
    have HL7 := Lib.hid hl7
    have HN7 := Lib.hid hn7
    have HU7 := Lib.hid (HT7.out.unit (by omega) HU5.out)
    have HB7 := Lib.hid (HB5.out.trans (HT7.out.below HB5.out.size (by omega) (Nat.le_refl _)))
    clear hl7 hn7 hr6 x6 y6 x0 u0 u1 u2 u3 HT7 HR6 HT6
    go_wp2_with fail
    obtain ⟨u0, u1, u2, u3⟩ := unit4 HU7.out
    have x0 : w7.cell? ⟨w.heap.size + 1, 0, none⟩ = some (.slice A7 (11 + m) C7) := heap_cell HR7.out.1
    have hbl : Below w7.heap.size w7 w7.drew := (Below.refl _ _).drew
    have hol : OwnL w7.drew w.heap.size (.slice A7 (11 + m) C7) l7 := HR7.out.2.of_block fun x hx => rfl
    obtain ⟨A8, C8, w8, hr8, hO8, hG8⟩ := apz_run w7.drew w.heap.size _ _ hol (by rw [HN7.out]; omega) (R - m) (by rw [HN7.out]; omega) HB7.out.drew.size ((R - m : Nat) : Int) rfl (11 + R) (by rw [HN7.out]; omega)
    obtain ⟨hx8, hR8, hT8⟩ := HR7.out.stored ((Turned.refl _ _ w7).trans (Kp.of_below hbl)) (hbl.block _ HR7.out.lt) hol hG8 hO8
    have hr9 : ∀ n : Int, n = ((R - m : Nat) : Int) → ∀ ty, (Builtin.append_ #[42, 3] ty #[.slice A7 (11 + m) C7, .int .i64 n]).run Tryz.prog w7.drew = .ok (.slice A8 (11 + R) C8) w8 := fun n hn ty => by rw [hn]; exact hr8 ty
    have x8 : w8.cell? ⟨w.heap.size + 1, 0, none⟩ = some (.slice A7 (11 + m) C7) := heap_cell (hx8.trans HR7.out.1)
    have y8 : w8.frozen? ⟨w.heap.size + 1, 0, none⟩ = false := heap_frozen (hx8.trans HR7.out.1)
    have HR8 := Lib.hid hR8
    have HT8 := Lib.hid hT8
    clear hbl hol hO8 hG8 hx8 hR8 hT8
    go_cut [] (fun wx => ∃ (A9 : Option Addr) (C9 : Nat), Hid (Rw wx (w.heap.size + 1) w.heap.size (.slice A9 (11 + R) C9) (l7 ++ List.replicate (R - m) 0)) ∧ Hid (Turned (w.heap.size + 1) w.heap.size w7 wx))
    case first =>
      go_region_law (first
        | (refine step_append_int (by rfl) _ _ _ _ (by rfl) _ _ _ _ (by rfl) (by rfl) (by exact hr9 _ (IntWalk.i64_in _ (by omega))) ?_))
      all_goals
        go_wp2
        go_meet
        exact ⟨A8, C8, HR8, HT8⟩
    case rest =>
    obtain ⟨A9, C9, HR9, HT9⟩ := hcut
    obtain ⟨w9, rfl⟩ : ∃ x, x = wc := ⟨wc, rfl⟩
    have hbody : l7 ++ List.replicate (R - m) 0 = Fm.body ⟨k, lb, nb, s⟩ := by
      rw [HL7.out, HL5.out, HL3.out]
      unfold Fm.body Fm.head Fm.pad
      simp only [← HM.out, ← HRM.out, List.append_assoc, List.nil_append, List.cons_append]
    rw [hbody] at HR9
    have hl9 : (Fm.body ⟨k, lb, nb, s⟩).length = 11 + R := by rw [Fm.body_len HK.out, HRM.out]
    have HL9 := Lib.hid hl9
    have HB9 := Lib.hid (HB7.out.trans (HT9.out.below HB7.out.size (by omega) (Nat.le_refl _)))
    clear hbody hl9 hr8 hr9 x8 y8 x0 u0 u1 u2 u3 HT9 HR8 HT8
    have x0 : w9.cell? ⟨w.heap.size + 1, 0, none⟩ = some (.slice A9 (11 + R) C9) := heap_cell HR9.out.1
    have HS9 := Lib.hid (RdL.mono (by obtain ⟨A', C', e, _, _, _, h⟩ := HR9.out.2.rd; injection e with e1 e2 e3; subst e1; exact h) (fun _ _ => trivial) : RdL w9 A9 (Fm.body ⟨k, lb, nb, s⟩) (fun _ => True))
    have s0 := sumL_lo (Fm.body ⟨k, lb, nb, s⟩)
    have s1 := sumL_hi (Fm.body ⟨k, lb, nb, s⟩)
    go_wp2_with fail
    refine (refSumL_any A9 (Fm.body ⟨k, lb, nb, s⟩) (11 + R) C9 _ _ HL9.out.symm (by rw [HL9.out]; unfold maxLen; omega) HS9.out).mono ?_
    rintro e w10 ⟨rfl, hw10⟩
    subst hw10
    generalize hS : sumL (Fm.body ⟨k, lb, nb, s⟩) = S at s0 s1 ⊢
    have HS := Lib.hid hS
    clear hS
    go_wp2_with fail
    refine (vint_any _ _ _ _ S w9 HR9.out HB9.out.size (by rw [HL9.out]; omega)).mono ?_
    rintro e w11 ⟨rfl, ⟨v11, hW11⟩, hK11⟩
    have HW11 := Lib.hid hW11
    have HB11 := Lib.hid (HB9.out.trans (hK11.below HB9.out.size (by omega) (Nat.le_refl _)))
    clear hW11 hK11 x0
    have x0 : w11.cell? ⟨w.heap.size + 1, 0, none⟩ = some v11 := heap_cell HW11.out.1
    have hlen : (Fm.body ⟨k, lb, nb, s⟩ ++ Cd.be4 S).length = 15 + R := by rw [List.length_append, HL9.out, Cd.be4_len]; omega
    obtain ⟨A8, C8, e8, -, -, -, -⟩ := HW11.out.2.rd
    rw [hlen] at e8
    subst e8
    have HO := Lib.hid HW11.out.2
    clear hlen
    go_wp2
    go_ret2
    have hput : Fm.put ⟨k, lb, nb, s⟩ = Fm.body ⟨k, lb, nb, s⟩ ++ Cd.be4 S := by rw [← HS.out]; exact Fm.put_ok HK.out
    refine ⟨A8, 15 + R, C8, by rw [Fm.err_ok HK.out]; rfl, ?_, HB11.out⟩
    rw [hput]
    exact HO.out
theorem refPut_own (k lb nb : Int) (A : Option Addr) (s : Tx) (m C : Nat) (G : Nat → Prop) (w : World) (hm : m = s.length) (hA : A = none → m = 0 ∧ C = 0) (hr : RdL w A s G) :
    Calls Tryz.prog 16 #[.agg #[.int .i64 k, .int .i64 lb, .int .i64 nb, .slice A m C]] w (PutO ⟨k, lb, nb, s⟩ w) := by
  by_cases ha : Fm.argOk ⟨k, lb, nb, s⟩
  · by_cases hl : Fm.room k < m
    · exact refPut_long k lb nb A s m C w ha hm hl
    · exact refPut_good k lb nb A s m C G w hm hA hr ⟨ha, by show s.length ≤ Fm.room k; omega⟩
  · exact refPut_arg k lb nb A s m C w ha
theorem refPut_any (k lb nb : Int) (A : Option Addr) (s : Tx) (m C : Nat) (G : Nat → Prop) (w : World) (hm : m = s.length) (hA : A = none → m = 0 ∧ C = 0) (hr : RdL w A s G) :
    Calls Tryz.prog 16 #[.agg #[.int .i64 k, .int .i64 lb, .int .i64 nb, .slice A m C]] w (PutU ⟨k, lb, nb, s⟩ w) :=
  (refPut_own k lb nb A s m C G w hm hA hr).mono fun _ _ h => h.toU
end Go.Proofs.YtfkoomldncfdnaaGreat
