/- The law MatrixCauchy answers true. -/
import Derived.Test.YtanaldojoacbeaaMxAt
import Derived.Deep.RegionHeld3
import Derived.Deep.AppendLies
namespace Go.Proofs.Ytanaldojoacbeaa
open Go.RowKit Mx

/-- the part of a Cauchy that the law takes -/
def partOf (zr zc : Nat → Int) (d p : Nat) : Mat := fun i k => cau p (place (low zr) p i) (place (low zc) d k)
theorem partOf_some (zr zc : Nat → Int) {d p s : Nat} (hd : d ≤ 30) (hp : p ≤ 30) (hs : s ≤ p) (hs' : s ≤ d) : ∃ R V, gjs s (partOf zr zc d p) s = some (R, V) :=
  cauchy_some s (fun i => el (place (low zr) p i)) (fun k => el (p + place (low zc) d k)) _ (fun i j _ _ => rfl)
    (fun i j hi hj h => el_ne (by have := (place_lt (q := low zr) (n := p) (j := i) (by omega)).1; omega) (by have := (place_lt (q := low zr) (n := p) (j := j) (by omega)).1; omega) (place_apart (by omega) (by omega) h))
    (fun i j hi hj h => el_ne (by have := (place_lt (q := low zc) (n := d) (j := i) (by omega)).1; omega) (by have := (place_lt (q := low zc) (n := d) (j := j) (by omega)).1; omega) (fun e => place_apart (q := low zc) (n := d) (i := i) (j := j) (by omega) (by omega) h (by omega)))
    (fun i j hi hj => el_ne (by have := (place_lt (q := low zr) (n := p) (j := i) (by omega)).1; omega) (by have := (place_lt (q := low zc) (n := d) (j := j) (by omega)).1; omega) (by have := (place_lt (q := low zr) (n := p) (j := i) (by omega)).1; omega))

theorem own_old {w w' : World} {base : Nat} {t : TypeId} {v : Value} {k : Nat} {xs : List Value} (h : w.ownsRow base t 1 v k xs) (hb : Below w.heap.size w w') : w'.ownsRow base t 1 v k xs :=
  h.kept (row := none) ⟨hb.os, hb.tape, hb.output, hb.size, fun i hi _ => hb.block i hi⟩ (by cases hv : v.ownBlock <;> simp)

set_option maxRecDepth 100000 in
set_option maxHeartbeats 8000000 in
theorem matrixCauchy_main (d p : Nat) (A : Option Addr) (s C : Nat) (zr : Nat → Int) (A' : Option Addr) (s' C' : Nat) (zc : Nat → Int) (w : World) (hd : d ≤ 30) (hp : p ≤ 30) (hd0 : 0 < d) (hp0 : 0 < p) (hs : s ≤ 8) (hss : s ≤ s') (hs0 : 0 < s) (hsp : s ≤ p) (hsd : s ≤ d)
    (hl' : s' ≤ maxLen) (h : RdI w A s zr) (h' : RdI w A' s' zc) :
    Calls Try.prog 4 #[.int .i64 (d : Int), .int .i64 (p : Int), .slice A s C, .slice A' s' C'] w fun e w' => e = .returned (.bool true) ∧ Below w.heap.size w w' := by
  have H0 := Lib.hid h
  have H0' := Lib.hid h'
  have HL := Lib.hid hl'
  unfold maxLen at hl'
  clear h h'
  have q1 : decide (30 < (d : Int)) = false := decide_eq_false (by omega)
  have q2 : decide (30 < (p : Int)) = false := decide_eq_false (by omega)
  have q3 : decide (8 < (s : Int)) = false := decide_eq_false (by omega)
  have q4 : decide (s' < s) = false := decide_eq_false (by omega)
  have q5 : decide ((s' : Int) < (s : Int)) = false := decide_eq_false (by omega)
  have q6 : ((s : Int) == 0) = false := beq_eq_false_iff_ne.2 (by omega)
  have q7 : decide (p < s) = false := decide_eq_false (by omega)
  have q8 : decide (d < s) = false := decide_eq_false (by omega)
  have q9 : decide ((p : Int) < (s : Int)) = false := decide_eq_false (by omega)
  have q10 : decide ((d : Int) < (s : Int)) = false := decide_eq_false (by omega)
  go_enter Try.func4, Try.ntmps4
  go_wp2_with fail
  refine (alive_true _).mono ?_
  rintro e w1 ⟨rfl, hB⟩
  have H1 := Lib.hid (H0.out.old hB)
  have H1' := Lib.hid (H0'.out.old hB)
  have HB := Lib.hid hB
  clear hB H0 H0'
  go_wp2_with fail
  refine (cauchy_main d p _ hd0 hp0 (by omega)).mono ?_
  rintro e w2 ⟨A2, C2, rfl, hr2, hB2⟩
  have HR2 := Lib.hid hr2
  have H2 := Lib.hid (H1.out.old hB2)
  have H2' := Lib.hid (H1'.out.old hB2)
  have HT2 := Lib.hid (HB.out.trans (hB2.mono HB.out.size))
  clear hr2 hB2 H1 H1' HB
  go_wp2_with fail
  refine (refCauchy_main d p _ hd0 hp0 (by omega)).mono ?_
  rintro e w3 ⟨A3, C3, rfl, hr3, hB3⟩
  have HR3 := Lib.hid hr3
  have HX3 := Lib.hid (HR2.out.below hB3)
  have H3 := Lib.hid (H2.out.old hB3)
  have H3' := Lib.hid (H2'.out.old hB3)
  have HT3 := Lib.hid (HT2.out.trans (hB3.mono HT2.out.size))
  clear hr3 hB3 H2 H2' HT2 HR2
  go_wp2_with fail
  refine (num_any _ _).mono ?_
  rintro e w' ⟨rfl, rfl⟩
  go_wp2_with fail
  refine (sameRows_any _ _ _ _ _ _ _ _ _ _ _ (by unfold maxLen; omega) HX3.out HR3.out (fun _ _ _ _ => rfl)).mono ?_
  rintro e w4 ⟨rfl, hB4⟩
  have HR4 := Lib.hid (HR3.out.old hB4).in_
  have H4 := Lib.hid (H3.out.old hB4)
  have H4' := Lib.hid (H3'.out.old hB4)
  have HT4 := Lib.hid (HT3.out.trans (hB4.mono HT3.out.size))
  clear hB4 H3 H3' HT3 HR3 HX3
  go_wp2
  go_loopw [15, 14] (fun vi vo wr => ∃ i : Nat, i ≤ s ∧ vi = .int .i64 (i : Int) ∧ Hid (∃ G C, OwnA wr w4.heap.size vo i s G C (partOf zr zc d p)) ∧ Hid (Below w4.heap.size w4 wr)) (fun vi _ _ => s - (intOf vi).toNat)
  case atStart => exact ⟨0, by omega, rfl, Lib.hid ⟨fun _ => 0, fun _ => 0, OwnA.start _ _ _ _ _ _⟩, Lib.hid (Below.refl _ _)⟩
  case round =>
    obtain ⟨i, hi, rfl, HO, HB⟩ := hrel
    obtain ⟨G1, Cp1, hO⟩ := HO.out
    have HO' := Lib.hid hO
    clear hO HO
    obtain ⟨wo, rfl⟩ : ∃ x, x = wr := ⟨wr, rfl⟩
    by_cases hlt : i < s
    · go_wp2
      go_loopw [17, 16] (fun vk vr wq => ∃ k : Nat, k ≤ s ∧ vk = .int .i64 (k : Int) ∧ Hid (wq.ownsRow wo.heap.size 5 1 vr k (cellsOf k (partOf zr zc d p i))) ∧ Hid (Below wo.heap.size wo wq)) (fun vk _ _ => s - (intOf vk).toNat)
      case atStart => exact ⟨0, by omega, rfl, Lib.hid (World.ownsRow_nil _ _ _ _), Lib.hid (Below.refl _ _)⟩
      case round =>
        obtain ⟨k, hk, rfl, HO2, HB2⟩ := hrel
        by_cases hlt2 : k < s
        · have hpl1 := (place_lt (q := low zr) (n := p) (j := i) (by omega)).1
          have hpl2 := (place_lt (q := low zc) (n := d) (j := k) (by omega)).1
          obtain ⟨b3, off3, A5, C5, rfl, lb3', d1', hr5⟩ := (HR4.out.below HB.out).row hpl1
          obtain ⟨b6, off6, rfl, lb6', d2'⟩ := hr5.at hpl2
          have hw4 : w4.heap.size ≤ wo.heap.size := HB.out.size
          have lb3 : b3 < wo.heap.size := by omega
          have lb6 : b6 < wo.heap.size := by omega
          clear hr5 lb3' lb6'
          obtain ⟨pr, hpr⟩ : ∃ x, x = place (low zr) p i := ⟨_, rfl⟩
          obtain ⟨pc, hpc⟩ : ∃ x, x = place (low zc) d k := ⟨_, rfl⟩
          rw [← hpr] at d1' d2' hpl1
          rw [← hpc] at d2' hpl2
          have D1 := Lib.hid d1'
          have D2 := Lib.hid d2'
          have H5 := Lib.hid (H4.out.old HB.out)
          have H5' := Lib.hid (H4'.out.old HB.out)
          have HA1 : Hid (∀ W, Below wo.heap.size wo W → Calls Try.prog 22 #[.slice A s C, .int .i64 (i : Int), .int .i64 (p : Int)] W fun e w' => e = .returned (.int .i64 (pr : Int)) ∧ Below W.heap.size W w') := Lib.hid fun W hW => by
            rw [hpr]; exact at_any A s C zr i p W hlt (by omega) (by omega) (H5.out.old hW) (by unfold maxLen; omega)
          have HA2 : Hid (∀ W, Below wo.heap.size wo W → Calls Try.prog 22 #[.slice A' s' C', .int .i64 (k : Int), .int .i64 (d : Int)] W fun e w' => e = .returned (.int .i64 (pc : Int)) ∧ Below W.heap.size W w') := Lib.hid fun W hW => by
            rw [hpc]; exact at_any A' s' C' zc k d W (by omega) (by omega) (by omega) (H5'.out.old hW) HL.out
          have HV : Hid (fi (cau p pr pc) = fi (partOf zr zc d p i k)) := by rw [hpr, hpc]; exact Lib.hid rfl
          clear hpr hpc d1' d2'
          have x0 : (0 : Int) ≤ (pr : Int) := by omega
          have x1 : (pr : Int) < (p : Int) := by omega
          have x2 : (0 : Int) ≤ (pc : Int) := by omega
          have x3 : (pc : Int) < (d : Int) := by omega
          have hbel : Below wo.heap.size wo wr.drew := HB2.out.drew
          have d1 := (hbel.cell (p := ⟨b3, off3 + pr, none⟩) lb3).trans D1.out
          have d2 := (hbel.cell (p := ⟨b6, off6 + pc, none⟩) lb6).trans D2.out
          have hoB : Hid (wr.drew.ownsRow wo.heap.size 5 1 _ k (cellsOf k (partOf zr zc d p i))) := Lib.hid HO2.out.drew
          obtain ⟨i0, hi0, hz0, hz1, hz2⟩ := info_parts infoByte
          go_wp2_with fail
          go_region_held3 (fun w' => w'.cell? ⟨b3, off3 + pr, none⟩ = some (.slice (some ⟨b6, off6, none⟩) d C5) ∧ w'.cell? ⟨b6, off6 + pc, none⟩ = some (.int .u8 (fi (cau p pr pc))) ∧ Below wo.heap.size wo w')
            (first
              | exact ⟨e1, e2, hbt⟩
              | exact ⟨d1, d2, hbel⟩
              | exact ⟨((hbt.alloc hbt.size _).cell (p := ⟨b3, off3 + pr, none⟩) lb3).trans D1.out, ((hbt.alloc hbt.size _).cell (p := ⟨b6, off6 + pc, none⟩) lb6).trans D2.out, hbt.alloc hbt.size _⟩
              | exact ⟨(hbz.cell (p := ⟨b3, off3 + pr, none⟩) lb3).trans D1.out, (hbz.cell (p := ⟨b6, off6 + pc, none⟩) lb6).trans D2.out, hbz⟩)
            (first
              | (go_at_call_of 22 (Value.int .i64 (i : Int)); refine (HA1.out _ hbel).mono ?_; rintro e wn ⟨rfl, hbn⟩; have hbt : Below wo.heap.size wo wn := hbel.trans (hbn.mono hbel.size); have e1 := (hbt.cell (p := ⟨b3, off3 + pr, none⟩) lb3).trans D1.out; have e2 := (hbt.cell (p := ⟨b6, off6 + pc, none⟩) lb6).trans D2.out; have HO5 := Lib.hid (own_old hoB.out hbn); clear hbn)
              | (go_at_call_of 22 (Value.int .i64 (k : Int)); refine (HA2.out _ hbt).mono ?_; rintro e wn2 ⟨rfl, hbn2⟩; have hbt2 : Below wo.heap.size wo wn2 := hbt.trans (hbn2.mono hbt.size); have HO6 := Lib.hid (own_old HO5.out hbn2); clear hbt e1 e2 hbn2; have hbt := hbt2; have e1 := (hbt.cell (p := ⟨b3, off3 + pr, none⟩) lb3).trans D1.out; have e2 := (hbt.cell (p := ⟨b6, off6 + pc, none⟩) lb6).trans D2.out)
              | (refine step_append_lies _ (by rfl) _ _ _ (by rfl) wo.heap.size 5 i0 _ 1 1 Try.underlying23 hi0 hz0 hz1 hz2 rfl (by omega) _ k _ (by rfl) (HO6.out.alloc _) ⟨wn2.heap.size, 0, none⟩ 1 1 [.int .u8 (fi (cau p pr pc))] (by rfl) (by rfl) (oneCell _ _ _) (oneByte _) (by omega) (by unfold maxLen; omega) (by omega) (by have := hbt.size; simp; omega) (wn2.heap.size + 1) (by simp) ?_; intro gg cap wz hownz hgrow hat hltz; have hbz : Below wo.heap.size wo wz := (hbt.alloc hbt.size _).grown hgrow (by have := hbt.size; simp; omega) (fun x hx => (HO6.out.lt x hx).1)))
          have HO7 : Hid (wz.ownsRow wo.heap.size 5 1 (.slice (some ⟨gg, 0, none⟩) (k + 1) cap) (k + 1) (cellsOf (k + 1) (partOf zr zc d p i))) := by
            rw [← cellsOf_succ, ← HV.out]; exact Lib.hid hownz
          have HB7 := Lib.hid hbz
          clear hownz hbz hgrow hat hltz e1 e2 hbt hbt2 HO5 HO6 d1 d2 hbel hoB
          go_wp2
          go_roundw
          case rel => exact ⟨k + 1, by omega, by go_num, HO7, HB7⟩
          case measure => simp [intOf]; omega
        · obtain ⟨g, c, rfl, hg, hc, hr⟩ := RowAt.of_owns (show wr.ownsRow wo.heap.size 5 1 _ s (cellsOf s (partOf zr zc d p i)) by
            have hks : k = s := by omega
            have hh := HO2.out
            rw [hks] at hh
            exact hh) hs0
          have HRW := Lib.hid hr
          have HA := Lib.hid (HO'.out.old HB2.out)
          obtain ⟨i0, hi0, hz0, hz1, hz2⟩ := info_parts infoRow
          have hown := HA.out.top
          have HX := Lib.hid (HB.out.trans (HB2.out.mono HB.out.size))
          have hlow : w4.heap.size ≤ wr.heap.size := HX.out.size
          clear hr HO2
          go_wp2_with (at_builtin; refine wpList_append_own _ rfl _ _ 22 rfl w4.heap.size 23 i0 (.slice none 0 0) 1 24 Try.underlying22 hi0 hz0 hz1 hz2 rfl (by decide) _ _ _ rfl (hown.alloc _) ⟨wr.heap.size, 0, none⟩ 1 1 [.slice (some ⟨g, 0, none⟩) s c] rfl rfl (oneCell _ _ _) (oneSlice _ _ _) (by unfold maxLen; omega) (by omega) (by simp; omega) ?_)
          intro v' w5 hown' hgrow _
          have HP := Lib.hid (HA.out.push hgrow hown' HRW.out (fun r hr => by have := (HO'.out.rows r hr).lt; omega) (Nat.le_trans HB.out.size hg) hc)
          have HB3 := Lib.hid ((HX.out.alloc hlow _).grown hgrow (by simp; omega) (fun x hx => (HA.out.top.lt x hx).1))
          clear hown' hgrow hown
          go_wp2
          go_roundw
          case rel => exact ⟨i + 1, by omega, by go_num, Lib.hid ⟨_, _, HP.out.congr (M' := partOf zr zc d p) fun r _ c _ => by by_cases e : r = i <;> simp [e]⟩, HB3⟩
          case measure => simp [intOf]; omega
    · obtain rfl : i = s := by omega
      obtain ⟨b, cp, rfl, _, _, hK⟩ := HO'.out.own hs0
      have HK := Lib.hid (hK.rdAll (Nat.le_refl _))
      have HT5 := Lib.hid (HT4.out.trans (HB.out.mono HT4.out.size))
      clear hK HO' HB HT4
      obtain ⟨R, V, hg⟩ := partOf_some zr zc hd hp hsp hsd
      have HG := Lib.hid hg
      clear hg
      go_wp2_with fail
      refine (inverse_main _ i cp (partOf zr zc d p) _ _ hs0 (by omega) HK.out).mono ?_
      intro e w6 hres
      unfold InvRes at hres
      rw [HG.out] at hres
      obtain ⟨A6, C6, rfl, hr6, hB6⟩ := hres
      have HT6 := Lib.hid (HT5.out.trans (hB6.mono HT5.out.size))
      have HR6 := Lib.hid hr6
      have HK6 := Lib.hid (HK.out.old hB6)
      clear hr6 hB6 HT5 HK
      go_wp2_with fail
      refine (mul_main _ i cp i (partOf zr zc d p) _ _ C6 i V _ _ (by omega) (by omega) (by omega) (by omega) (by omega) (by omega) HK6.out HR6.out).mono ?_
      rintro e w7 ⟨A7, C7, rfl, hr7, hB7⟩
      have HT7 := Lib.hid (HT6.out.trans (hB7.mono HT6.out.size))
      have HR7 : Hid (RdM w7 A7 i (fun _ => i) one (· < w7.heap.size)) := Lib.hid (hr7.congr (fun _ _ => rfl) (fun r hr c hc => (gjs_ok HG.out).1 r hr c hc))
      clear hr7 hB7 HT6 HR6 HK6
      go_wp2_with (go_at_call 19; refine (num_any _ _).mono ?_; rintro e w' ⟨rfl, rfl⟩)
      go_loop [22] (fun vr => ∃ r : Nat, r ≤ i ∧ vr = .int .i64 (r : Int)) (fun vr => i - (intOf vr).toNat)
      case atStart => exact ⟨0, by omega, rfl⟩
      case round =>
        obtain ⟨r, hr, rfl⟩ := hrel
        by_cases hri : r < i
        · go_wp2
          go_loop [23] (fun vc => ∃ c : Nat, c ≤ i ∧ vc = .int .i64 (c : Int)) (fun vc => i - (intOf vc).toNat)
          case atStart => exact ⟨0, by omega, rfl⟩
          case round =>
            obtain ⟨c, hc, rfl⟩ := hrel
            obtain ⟨b8, off8, A8, C8, rfl, _, d1, hr8⟩ := HR7.out.row hri
            by_cases hci : c < i
            · obtain ⟨b9, off9, rfl, _, d2⟩ := hr8.at hci
              by_cases hrc : r = c
              · have hb : ((r : Int) == (c : Int)) = true := by rw [hrc]; simp
                rw [hrc, one_same, fi_one] at d2
                rw [hrc] at d1 hri hb hr
                subst hrc
                clear hr8
                go_wp2
                go_round
                case rel => exact ⟨r + 1, by omega, by go_num⟩
                case measure => simp [intOf]; omega
              · have hb : ((r : Int) == (c : Int)) = false := beq_eq_false_iff_ne.2 (by omega)
                rw [one_other hrc, fi_zero] at d2
                clear hr8 hrc
                go_wp2
                go_round
                case rel => exact ⟨c + 1, by omega, by go_num⟩
                case measure => simp [intOf]; omega
            · clear hr8
              go_wp2
              go_round
              case rel => exact ⟨r + 1, by omega, by go_num⟩
              case measure => simp [intOf]; omega
        · go_wp2
          go_ret
          exact ⟨rfl, HT7.out⟩
end Go.Proofs.Ytanaldojoacbeaa
