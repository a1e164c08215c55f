/- The document's own Make of groups: labels, losses, bad blocks, the parity tapes. -/
import Derived.Test.YtcokmmanajdioaaGreatMbe
import Derived.Test.YtcokmmanajdioaaGreatMbf
import Derived.Test.YtcokmmanajdioaaGreatMbb
import Derived.Test.YtcokmmanajdioaaGreatMao
import Derived.Test.YtcokmmanajdioaaGreatMbd
import Derived.Deep.RegionHeld3
import Derived.Deep.RegionHeld
import Derived.Deep.RegionLaw
import Derived.BigQuiet
import Derived.Deep.DeepFit
import Derived.Deep.DeepCutAuto
import Derived.StillTailTactics
import Derived.IntWalk
namespace Go.Proofs.YtcokmmanajdioaaGreat
open Go.RowKit
open Pt (Tx)

theorem below_succ (p : Nat → Bool) (k : Nat) : decide (∀ j, j < k + 1 → p j = true) = (decide (∀ j, j < k → p j = true) && p k) := by
  rw [Bool.eq_iff_iff, Bool.and_eq_true, decide_eq_true_iff, decide_eq_true_iff]
  exact ⟨fun h => ⟨fun j hj => h j (by omega), h k (by omega)⟩, fun h j hj => by
    by_cases e : j = k
    · subst e; exact h.2
    · exact h.1 j (by omega)⟩
theorem goodZ_nat (t : Vo.T) (k : Nat) : Vo.goodZ t (k : Int) = Vo.good t k := by
  unfold Vo.goodZ
  rw [if_neg (by omega), Int.toNat_natCast]
set_option maxRecDepth 100000 in
set_option maxHeartbeats 8000000 in
theorem refMake_walk (A1 : Option Addr) (data : List St.T) (C1 : Nat) (A2 : Option Addr) (blank : List St.T) (C2 : Nat) (G : Nat → Prop) (number : Int) (n1 n2 : Nat) (w : World) (hn1 : n1 = data.length) (hn2 : n2 = blank.length) (hm1 : n1 ≤ 1000) (hm2 : n2 ≤ 1000)
    (hl : ∀ t ∈ data, t.blocks.length ≤ 1000 ∧ ∀ s ∈ t.blocks, s.length ≤ 1000) (hr1 : RdT w A1 data G) (hr2 : RdT w A2 blank G) :
    Calls Tryz.prog 12 #[.slice A1 n1 C1, .slice A2 n2 C2, .int .i64 number] w (MakeS data blank number w) := by
  obtain ⟨w1, hw1⟩ : ∃ w1, w1 = w.alloc (sealObj number 0 (n1 : Int) (n2 : Int) none 0 0) := ⟨_, rfl⟩
  have hI0 : RMk w number (n1 : Int) (n2 : Int) (.slice none 0 0) [] w1 := by rw [hw1]; exact RMk.start _ _ _ _
  have HI0 := Lib.hid hI0
  have HLEN := Lib.hid (refLen_any A1 data C1 G w1 (by unfold maxLen; omega) (hr1.old (by rw [hw1]; exact (Below.refl _ _).alloc (Nat.le_refl _) _)))
  rw [← hn1] at HLEN
  obtain ⟨K, hK⟩ : ∃ K, K = St.len data := ⟨_, rfl⟩
  rw [← hK] at HLEN
  have HNO : Hid (∀ (er : Int) (wz : World), Gr.mkE data blank number = er → er ≠ 0 → Below w.heap.size w wz → MakeS data blank number w (.returned (.tuple #[.slice none 0 0, .int .i64 er])) wz) := Lib.hid fun er wz he h0 hb => by
    unfold MakeS
    rw [he, if_neg h0]; exact ⟨rfl, hb⟩
  have HKM : Hid (K ≤ 1000) := Lib.hid (by rw [hK]; exact St.len_le fun t ht => (hl t ht).1)
  have HLENY : Hid (∀ y, Below w.heap.size w y → Calls Tryz.prog 22 #[.slice A1 n1 C1] y fun e w' => e = .returned (.int .i64 (K : Int)) ∧ y = w') := Lib.hid fun y hy => by
    have h := refLen_any A1 data C1 G y (by unfold maxLen; omega) (hr1.old hy)
    rwa [← hn1, ← hK] at h
  have HPAR : Hid (∀ y, Below w.heap.size w y → Calls Tryz.prog 25 #[.slice A1 n1 C1, .int .i64 (n2 : Int)] y (ParA data (n2 : Int) y)) := Lib.hid fun y hy => by
    have h := refParity_any A1 data C1 G (n2 : Int) y (by omega) (by omega) (by omega) (Nat.le_trans (St.len_le fun t ht => (hl t ht).1) (by decide)) (hr1.old hy)
    rwa [← hn1] at h
  have HR1 := Lib.hid hr1
  have HR2 := Lib.hid hr2
  have HL := Lib.hid hl
  have HN1 := Lib.hid hn1
  have HN2 := Lib.hid hn2
  have HK := Lib.hid hK
  have HW1 := Lib.hid hw1
  unfold sealObj at HW1
  clear hr1 hr2 hl hn1 hn2 hw1 hI0 hK
  go_enter Tryz.func12, Tryz.ntmps12
  go_wp2_with fail
  rw [← HW1.out]
  refine HLEN.out.mono ?_
  rintro e w' ⟨rfl, rfl⟩
  go_wp2
  obtain ⟨b0, hb0⟩ : ∃ b0, b0 = ((K : Int) == 0) := ⟨_, rfl⟩
  rw [← hb0]
  have HB0 := Lib.hid hb0
  clear hb0
  go_loopw [11, 9, 10] (fun vi vl vb wr => ∃ (i : Nat) (lo bb : Bool) (v : Value), i ≤ n1 ∧ vi = .int .i64 (i : Int) ∧ vl = .bool lo ∧ vb = .bool bb ∧ Hid (lo = (data.take i).any lostB) ∧ Hid (bb = (b0 || !(data.take i).all goodB)) ∧ Hid (RMk w number (n1 : Int) (n2 : Int) v ((data.take i).map St.T.label) wr)) (fun vi _ _ _ => n1 - (intOf vi).toNat)
  case atStart => exact ⟨0, false, b0, _, Nat.zero_le _, rfl, rfl, rfl, Lib.hid rfl, Lib.hid (by simp), HI0⟩
  case round =>
    obtain ⟨i, lo, bb, v, hi, rfl, rfl, rfl, HLO, HBB, HI⟩ := hrel
    by_cases hlt : i < n1
    · have e0 : decide (i < n1) = true := decide_eq_true hlt
      have hlt' : i < data.length := by rw [← HN1.out]; exact hlt
      have hin := HR1.out.in_
      obtain ⟨b, off, A', C', rfl, hgb, c0, c1, c2, c3, hb⟩ := hin.at_ hlt'
      have hne : b ≠ w.heap.size := by have := hgb.2; omega
      have HLI := Lib.hid (HL.out _ (List.getElem_mem hlt'))
      have HANY := Lib.hid (any_take (p := lostB) hlt')
      have HALL := Lib.hid (all_take (p := goodB) hlt')
      obtain ⟨⟨lab, cap, bs, lost⟩, ht⟩ : ∃ t, t = data[i] := ⟨_, rfl⟩
      have HLABS : Hid ((data.take (i + 1)).map St.T.label = (data.take i).map St.T.label ++ [lab]) := Lib.hid (by
        rw [List.take_succ_eq_append_getElem hlt', List.map_append, ← ht]; rfl)
      rw [← ht] at c0 c1 c2 c3 hb HLI HANY HALL
      dsimp only at c0 c1 c2 c3 hb HLI
      obtain ⟨L, hL⟩ : ∃ L, L = bs.length := ⟨_, rfl⟩
      rw [← hL] at c2 HLI
      have hLm : L ≤ 1000 := HLI.out.1
      have HLB := Lib.hid hL
      have HC : Hid (∀ y, Below w.heap.size w y → y.cell? ⟨b, off + i * 4, none⟩ = some (.int .i64 lab) ∧ y.cell? ⟨b, off + i * 4 + 1, none⟩ = some (.int .i64 cap) ∧ y.cell? ⟨b, off + i * 4 + 2, none⟩ = some (.slice A' L C') ∧ y.cell? ⟨b, off + i * 4 + 3, none⟩ = some (.bool lost)) := Lib.hid fun y hy => ⟨(hy.cell (World.block_lt_of_cell? _ _ c0)).trans c0, (hy.cell (World.block_lt_of_cell? _ _ c1)).trans c1, (hy.cell (World.block_lt_of_cell? _ _ c2)).trans c2, (hy.cell (World.block_lt_of_cell? _ _ c3)).trans c3⟩
      have HB := Lib.hid hb
      have HCW := Lib.hid (HC.out _ HI.out.bel)
      clear c0 c1 c2 c3 hb hL hin hgb ht
      obtain ⟨wd, hwd⟩ : ∃ wd, wd = (wr.alloc (.cells #[.int .i64 lab] 3)).drew := ⟨_, rfl⟩
      have hbd : Below wr.heap.size wr wd := by rw [hwd]; exact ((Below.refl _ _).alloc (Nat.le_refl _) _).drew
      have HID := Lib.hid (HI.out.old hbd)
      have hnew : RdZ wd (some ⟨wr.heap.size, 0, none⟩) [lab] (fun _ => True) := fun _ => ⟨_, 0, rfl, trivial, fun j hj => by
        have h0 : j = 0 := by simpa using hj
        subst h0
        have h := Go.Deep.blk_alloc_new wr (.cells #[.int .i64 lab] 3)
        rw [hwd]; exact heap_cell h⟩
      have hll : ((data.take i).map St.T.label).length = i := by rw [List.length_map, List.length_take]; omega
      obtain ⟨A3, C3, w3, hrun, hown3, hg3⟩ := apZ_run wd (w.heap.size + 1) v _ HID.out.own ⟨wr.heap.size, 0, none⟩ 1 1 [lab] _ rfl hnew (by rw [hll]; omega) (heap_lt HID.out.hd) (i + 1) (by rw [hll])
      have hpush := HID.out.push hg3 hown3
      rw [← HLABS.out] at hpush
      have h3d : w3.heap[w.heap.size]? = some (.cells #[.int .i64 number, .int .i64 0, .int .i64 (n1 : Int), .int .i64 (n2 : Int), v] 26 (0, 0)) :=
        (hg3.block _ (heap_lt HID.out.hd) fun e => by have := HID.out.own.lo _ e.symm; omega).trans HID.out.hd
      have x0 : wr.cell? ⟨w.heap.size, 4, none⟩ = some v := heap_cell HI.out.hd
      have x1 : wd.cell? ⟨w.heap.size, 4, none⟩ = some v := heap_cell HID.out.hd
      have z0 : w3.cell? ⟨w.heap.size, 4, none⟩ = some v := heap_cell h3d
      have z1 : w3.frozen? ⟨w.heap.size, 4, none⟩ = false := heap_frozen h3d
      have c0 := HCW.out.1
      have y0 := (HC.out _ HID.out.bel).1
      obtain ⟨w4, hw4⟩ : ∃ w4, w4 = w3.setCell ⟨w.heap.size, 4, none⟩ (.slice A3 (i + 1) C3) := ⟨_, rfl⟩
      rw [← hw4] at hpush
      have HP := Lib.hid hpush
      have HW4 := Lib.hid hw4
      have HWD := Lib.hid hwd
      have HRUN := Lib.hid hrun
      have i0 : (0 : Int) ≤ (i : Int) := by omega
      have i1 : (i : Int) < (n1 : Int) := by omega
      rw [HWD.out] at HRUN x1 y0
      clear hwd hbd hnew hrun hown3 hg3 hpush h3d hll hw4
      go_wp2
      go_region_law
        (first
          | (refine step_append_eq (by rfl) _ _ _ _ (by rfl) _ _ _ _ HRUN.out (by rfl) (by rfl) ?_))
      all_goals
        rw [← HW4.out]
        clear x0 x1 z0 z1 y0 c0
        obtain ⟨d0, d1, d2, d3⟩ := HC.out _ HP.out.bel
        obtain ⟨lo2, hlo2⟩ : ∃ lo2, lo2 = (lo || lost) := ⟨_, rfl⟩
        have HLO2 : Hid (lo2 = (data.take (i + 1)).any lostB) := Lib.hid (by rw [hlo2, HANY.out, HLO.out]; rfl)
        have hpick : ∀ x : Bool, x = lost → True := fun _ _ => trivial
        clear hpick
        have key : ∀ (wx : World), Hid (RMk w number (n1 : Int) (n2 : Int) (.slice A3 (i + 1) C3) ((data.take (i + 1)).map St.T.label) wx) → True := fun _ _ => trivial
        clear key
        cases lo with
        | true =>
          have hlo3 : lo2 = true := by rw [hlo2]; rfl
          subst hlo3
          clear hlo2
          go_wp2
          go_loopw [12, 10] (fun vk vb wr => ∃ (k : Nat) (b2 : Bool), k ≤ L ∧ vk = .int .i64 (k : Int) ∧ vb = .bool b2 ∧ Hid (b2 = (bb || !decide (∀ j, j < k → (Vo.good (Gr.vo ⟨lab, cap, bs, lost⟩) j).isSome = true))) ∧ Hid (RMk w number (n1 : Int) (n2 : Int) (.slice A3 (i + 1) C3) ((data.take (i + 1)).map St.T.label) wr)) (fun vk _ _ => L - (intOf vk).toNat)
          case atStart => exact ⟨0, bb, Nat.zero_le _, rfl, rfl, Lib.hid (by simp), HP⟩
          case round =>
            obtain ⟨k, b2, hk, rfl, rfl, HB2, HQ⟩ := hrel
            clear d0 d1 d2 d3
            obtain ⟨d0, d1, d2, d3⟩ := HC.out _ HQ.out.bel
            by_cases hlk : k < L
            · have e1 : decide (k < L) = true := decide_eq_true hlk
              obtain ⟨o, ho⟩ : ∃ o, o = Vo.goodZ ⟨lab, bs, lost⟩ (k : Int) := ⟨_, rfl⟩
              have HGC := Lib.hid (refGood_any lab cap bs A' L C' _ lost (k : Int) wr HLB.out (HB.out.old HQ.out.bel) HLI.out.2)
              rw [← ho] at HGC
              obtain ⟨p, hp⟩ : ∃ p, p = o.isSome := ⟨_, rfl⟩
              have HB3 : Hid (decide (∀ j, j < k + 1 → (Vo.good (Gr.vo ⟨lab, cap, bs, lost⟩) j).isSome = true) = (decide (∀ j, j < k → (Vo.good (Gr.vo ⟨lab, cap, bs, lost⟩) j).isSome = true) && p)) := Lib.hid (by
                rw [below_succ (fun j => (Vo.good (Gr.vo ⟨lab, cap, bs, lost⟩) j).isSome) k, hp, ho, goodZ_nat]; rfl)
              have HPO := Lib.hid hp
              clear ho hp
              go_wp2_with fail
              refine HGC.out.mono ?_
              rintro e w5 ⟨A5, m5, C5, rfl, -, -, -, -, hb5⟩
              rw [← HPO.out]
              obtain ⟨w6, hw6⟩ : ∃ w6, w6 = w5.alloc (unitObj (unitOf o).kind (unitOf o).label (unitOf o).number A5 m5 C5) := ⟨_, rfl⟩
              have hb6 : Below wr.heap.size wr w6 := by rw [hw6]; exact hb5.alloc hb5.size _
              have HQ6 := Lib.hid (HQ.out.old hb6)
              have HW6 := Lib.hid hw6
              unfold unitObj at HW6
              clear hw6 hb6 hb5 d0 d1 d2 d3
              cases b2 with
              | true =>
                have HBT : Hid (true = (bb || !decide (∀ j, j < k + 1 → (Vo.good (Gr.vo ⟨lab, cap, bs, lost⟩) j).isSome = true))) := Lib.hid (by
                  rw [HB3.out, Bool.not_and, ← Bool.or_assoc, ← HB2.out]; rfl)
                go_wp2
                rw [← HW6.out]
                go_roundw
                case rel => exact ⟨k + 1, true, by omega, by go_num, rfl, HBT, HQ6⟩
                case measure => simp [intOf]; omega
              | false =>
                have HBT : Hid ((!p) = (bb || !decide (∀ j, j < k + 1 → (Vo.good (Gr.vo ⟨lab, cap, bs, lost⟩) j).isSome = true))) := Lib.hid (by
                  rw [HB3.out, Bool.not_and, ← Bool.or_assoc, ← HB2.out]; rfl)
                go_wp2
                rw [← HW6.out]
                go_roundw
                case rel => exact ⟨k + 1, !p, by omega, by go_num, rfl, HBT, HQ6⟩
                case measure => simp [intOf]; omega
            · have e1 : decide (k < L) = false := decide_eq_false hlk
              have HBN : Hid (b2 = (b0 || !(data.take (i + 1)).all goodB)) := Lib.hid (by
                rw [HB2.out, HALL.out, HBB.out]
                have h1 : goodB ⟨lab, cap, bs, lost⟩ = decide (∀ j, j < k → (Vo.good (Gr.vo ⟨lab, cap, bs, lost⟩) j).isSome = true) := by
                  unfold goodB
                  rw [show (⟨lab, cap, bs, lost⟩ : St.T).blocks.length = k by show bs.length = k; rw [← HLB.out]; omega]
                rw [h1, Bool.not_and, Bool.or_assoc])
              go_wp2
              go_roundw
              case rel => exact ⟨i + 1, true, b2, _, by omega, by go_num, rfl, rfl, HLO2, HBN, HQ⟩
              case measure => simp [intOf]; omega
        | false =>
          have hlo3 : lo2 = lost := by rw [hlo2]; rfl
          subst hlo3
          clear hlo2
          go_wp2
          go_loopw [12, 10] (fun vk vb wr => ∃ (k : Nat) (b2 : Bool), k ≤ L ∧ vk = .int .i64 (k : Int) ∧ vb = .bool b2 ∧ Hid (b2 = (bb || !decide (∀ j, j < k → (Vo.good (Gr.vo ⟨lab, cap, bs, lo2⟩) j).isSome = true))) ∧ Hid (RMk w number (n1 : Int) (n2 : Int) (.slice A3 (i + 1) C3) ((data.take (i + 1)).map St.T.label) wr)) (fun vk _ _ => L - (intOf vk).toNat)
          case atStart => exact ⟨0, bb, Nat.zero_le _, rfl, rfl, Lib.hid (by simp), HP⟩
          case round =>
            obtain ⟨k, b2, hk, rfl, rfl, HB2, HQ⟩ := hrel
            clear d0 d1 d2 d3
            obtain ⟨d0, d1, d2, d3⟩ := HC.out _ HQ.out.bel
            by_cases hlk : k < L
            · have e1 : decide (k < L) = true := decide_eq_true hlk
              obtain ⟨o, ho⟩ : ∃ o, o = Vo.goodZ ⟨lab, bs, lo2⟩ (k : Int) := ⟨_, rfl⟩
              have HGC := Lib.hid (refGood_any lab cap bs A' L C' _ lo2 (k : Int) wr HLB.out (HB.out.old HQ.out.bel) HLI.out.2)
              rw [← ho] at HGC
              obtain ⟨p, hp⟩ : ∃ p, p = o.isSome := ⟨_, rfl⟩
              have HB3 : Hid (decide (∀ j, j < k + 1 → (Vo.good (Gr.vo ⟨lab, cap, bs, lo2⟩) j).isSome = true) = (decide (∀ j, j < k → (Vo.good (Gr.vo ⟨lab, cap, bs, lo2⟩) j).isSome = true) && p)) := Lib.hid (by
                rw [below_succ (fun j => (Vo.good (Gr.vo ⟨lab, cap, bs, lo2⟩) j).isSome) k, hp, ho, goodZ_nat]; rfl)
              have HPO := Lib.hid hp
              clear ho hp
              go_wp2_with fail
              refine HGC.out.mono ?_
              rintro e w5 ⟨A5, m5, C5, rfl, -, -, -, -, hb5⟩
              rw [← HPO.out]
              obtain ⟨w6, hw6⟩ : ∃ w6, w6 = w5.alloc (unitObj (unitOf o).kind (unitOf o).label (unitOf o).number A5 m5 C5) := ⟨_, rfl⟩
              have hb6 : Below wr.heap.size wr w6 := by rw [hw6]; exact hb5.alloc hb5.size _
              have HQ6 := Lib.hid (HQ.out.old hb6)
              have HW6 := Lib.hid hw6
              unfold unitObj at HW6
              clear hw6 hb6 hb5 d0 d1 d2 d3
              cases b2 with
              | true =>
                have HBT : Hid (true = (bb || !decide (∀ j, j < k + 1 → (Vo.good (Gr.vo ⟨lab, cap, bs, lo2⟩) j).isSome = true))) := Lib.hid (by
                  rw [HB3.out, Bool.not_and, ← Bool.or_assoc, ← HB2.out]; rfl)
                go_wp2
                rw [← HW6.out]
                go_roundw
                case rel => exact ⟨k + 1, true, by omega, by go_num, rfl, HBT, HQ6⟩
                case measure => simp [intOf]; omega
              | false =>
                have HBT : Hid ((!p) = (bb || !decide (∀ j, j < k + 1 → (Vo.good (Gr.vo ⟨lab, cap, bs, lo2⟩) j).isSome = true))) := Lib.hid (by
                  rw [HB3.out, Bool.not_and, ← Bool.or_assoc, ← HB2.out]; rfl)
                go_wp2
                rw [← HW6.out]
                go_roundw
                case rel => exact ⟨k + 1, !p, by omega, by go_num, rfl, HBT, HQ6⟩
                case measure => simp [intOf]; omega
            · have e1 : decide (k < L) = false := decide_eq_false hlk
              have HBN : Hid (b2 = (b0 || !(data.take (i + 1)).all goodB)) := Lib.hid (by
                rw [HB2.out, HALL.out, HBB.out]
                have h1 : goodB ⟨lab, cap, bs, lo2⟩ = decide (∀ j, j < k → (Vo.good (Gr.vo ⟨lab, cap, bs, lo2⟩) j).isSome = true) := by
                  unfold goodB
                  rw [show (⟨lab, cap, bs, lo2⟩ : St.T).blocks.length = k by show bs.length = k; rw [← HLB.out]; omega]
                rw [h1, Bool.not_and, Bool.or_assoc])
              go_wp2
              go_roundw
              case rel => exact ⟨i + 1, lo2, b2, _, by omega, by go_num, rfl, rfl, HLO2, HBN, HQ⟩
              case measure => simp [intOf]; omega
    · have e0 : decide (i < n1) = false := decide_eq_false hlt
      have hti : data.take i = data := List.take_of_length_le (by rw [← HN1.out]; omega)
      have HLOX : Hid (lo = data.any lostB) := Lib.hid (by rw [HLO.out, hti])
      have HBBX : Hid (bb = (b0 || !data.all goodB)) := Lib.hid (by rw [HBB.out, hti])
      have HJ0 : Hid (RMk w number (n1 : Int) (n2 : Int) v (data.map St.T.label ++ (blank.take 0).map St.T.label) wr) := Lib.hid (by
        have h := HI.out
        rw [hti] at h
        simpa using h)
      clear hti
      go_wp2
      go_loopw [15, 9] (fun vi vl wr => ∃ (i : Nat) (lo2 : Bool) (v : Value), i ≤ n2 ∧ vi = .int .i64 (i : Int) ∧ vl = .bool lo2 ∧ Hid (lo2 = (lo || (blank.take i).any lostB)) ∧ Hid (RMk w number (n1 : Int) (n2 : Int) v (data.map St.T.label ++ (blank.take i).map St.T.label) wr)) (fun vi _ _ => n2 - (intOf vi).toNat)
      case atStart => exact ⟨0, lo, _, Nat.zero_le _, rfl, rfl, Lib.hid (by simp), HJ0⟩
      case round =>
        obtain ⟨i, lo2, v, hi, rfl, rfl, HLO3, HI⟩ := hrel
        by_cases hlt : i < n2
        · have e0 : decide (i < n2) = true := decide_eq_true hlt
          have hlt' : i < blank.length := by rw [← HN2.out]; exact hlt
          have hin := HR2.out.in_
          obtain ⟨b, off, A', C', rfl, hgb, c0, c1, c2, c3, hb⟩ := hin.at_ hlt'
          have hne : b ≠ w.heap.size := by have := hgb.2; omega
          have HANY := Lib.hid (any_take (p := lostB) hlt')
          obtain ⟨⟨lab, cap, bs, lost⟩, ht⟩ : ∃ t, t = blank[i] := ⟨_, rfl⟩
          have HLABS : Hid (data.map St.T.label ++ (blank.take (i + 1)).map St.T.label = (data.map St.T.label ++ (blank.take i).map St.T.label) ++ [lab]) := Lib.hid (by
            rw [List.take_succ_eq_append_getElem hlt', List.map_append, ← ht, List.append_assoc]; rfl)
          rw [← ht] at c0 c1 c2 c3 hb HANY
          dsimp only at c0 c1 c2 c3 hb
          have HC : Hid (∀ y, Below w.heap.size w y → y.cell? ⟨b, off + i * 4, none⟩ = some (.int .i64 lab) ∧ y.cell? ⟨b, off + i * 4 + 3, none⟩ = some (.bool lost)) := Lib.hid fun y hy => ⟨(hy.cell (World.block_lt_of_cell? _ _ c0)).trans c0, (hy.cell (World.block_lt_of_cell? _ _ c3)).trans c3⟩
          have HCW := Lib.hid (HC.out _ HI.out.bel)
          clear c0 c1 c2 c3 hb hin hgb ht
          obtain ⟨wd, hwd⟩ : ∃ wd, wd = (wr.alloc (.cells #[.int .i64 lab] 3)).drew := ⟨_, rfl⟩
          have hbd : Below wr.heap.size wr wd := by rw [hwd]; exact ((Below.refl _ _).alloc (Nat.le_refl _) _).drew
          have HID := Lib.hid (HI.out.old hbd)
          have hnew : RdZ wd (some ⟨wr.heap.size, 0, none⟩) [lab] (fun _ => True) := fun _ => ⟨_, 0, rfl, trivial, fun j hj => by
            have h0 : j = 0 := by simpa using hj
            subst h0
            have h := Go.Deep.blk_alloc_new wr (.cells #[.int .i64 lab] 3)
            rw [hwd]; exact heap_cell h⟩
          have hll : (data.map St.T.label ++ (blank.take i).map St.T.label).length = n1 + i := by rw [List.length_append, List.length_map, List.length_map, List.length_take, ← HN1.out]; omega
          obtain ⟨A3, C3, w3, hrun, hown3, hg3⟩ := apZ_run wd (w.heap.size + 1) v _ HID.out.own ⟨wr.heap.size, 0, none⟩ 1 1 [lab] _ rfl hnew (by rw [hll]; omega) (heap_lt HID.out.hd) (n1 + i + 1) (by rw [hll])
          have hpush := HID.out.push hg3 hown3
          rw [← HLABS.out] at hpush
          have h3d : w3.heap[w.heap.size]? = some (.cells #[.int .i64 number, .int .i64 0, .int .i64 (n1 : Int), .int .i64 (n2 : Int), v] 26 (0, 0)) :=
            (hg3.block _ (heap_lt HID.out.hd) fun e => by have := HID.out.own.lo _ e.symm; omega).trans HID.out.hd
          have x0 : wr.cell? ⟨w.heap.size, 4, none⟩ = some v := heap_cell HI.out.hd
          have x1 : wd.cell? ⟨w.heap.size, 4, none⟩ = some v := heap_cell HID.out.hd
          have z0 : w3.cell? ⟨w.heap.size, 4, none⟩ = some v := heap_cell h3d
          have z1 : w3.frozen? ⟨w.heap.size, 4, none⟩ = false := heap_frozen h3d
          have c0 := HCW.out.1
          have y0 := (HC.out _ HID.out.bel).1
          obtain ⟨w4, hw4⟩ : ∃ w4, w4 = w3.setCell ⟨w.heap.size, 4, none⟩ (.slice A3 (n1 + i + 1) C3) := ⟨_, rfl⟩
          rw [← hw4] at hpush
          have HP := Lib.hid hpush
          have HW4 := Lib.hid hw4
          have HWD := Lib.hid hwd
          have HRUN := Lib.hid hrun
          have i0 : (0 : Int) ≤ (i : Int) := by omega
          have i1 : (i : Int) < (n2 : Int) := by omega
          rw [HWD.out] at HRUN x1 y0
          clear hwd hbd hnew hrun hown3 hg3 hpush h3d hll hw4
          go_wp2
          go_region_law
            (first
              | (refine step_append_eq (by rfl) _ _ _ _ (by rfl) _ _ _ _ HRUN.out (by rfl) (by rfl) ?_))
          all_goals
            rw [← HW4.out]
            clear x0 x1 z0 z1 y0 c0
            obtain ⟨d0, d3⟩ := HC.out _ HP.out.bel
            cases lo2 with
            | true =>
              have HLT : Hid (true = (lo || (blank.take (i + 1)).any lostB)) := Lib.hid (by rw [HANY.out, ← Bool.or_assoc, ← HLO3.out]; rfl)
              go_wp2
              go_roundw
              case rel => exact ⟨i + 1, true, _, by omega, by go_num, rfl, HLT, HP⟩
              case measure => simp [intOf]; omega
            | false =>
              have HLT : Hid (lost = (lo || (blank.take (i + 1)).any lostB)) := Lib.hid (by rw [HANY.out, ← Bool.or_assoc, ← HLO3.out]; rfl)
              go_wp2
              go_roundw
              case rel => exact ⟨i + 1, lost, _, by omega, by go_num, rfl, HLT, HP⟩
              case measure => simp [intOf]; omega
        · have e0 : decide (i < n2) = false := decide_eq_false hlt
          have hti : blank.take i = blank := List.take_of_length_le (by rw [← HN2.out]; omega)
          have HLOY : Hid (lo2 = (lo || blank.any lostB)) := Lib.hid (by rw [HLO3.out, hti])
          have HJ1 : Hid (RMk w number (n1 : Int) (n2 : Int) v ((data ++ blank).map St.T.label) wr) := Lib.hid (by
            have h := HI.out
            rw [hti] at h
            rw [List.map_append]; exact h)
          clear hti
          obtain ⟨A5, C5, hv, hle, hcm, hA5, hrz⟩ := HJ1.out.own.rd
          obtain ⟨m, hm⟩ : ∃ m, m = ((data ++ blank).map St.T.label).length := ⟨_, rfl⟩
          rw [← hm] at hv hle
          subst hv
          obtain ⟨x0, x1, x2, x3, x4⟩ := seal5 HJ1.out.hd
          have HSEAL := Lib.hid (refRightSeal_any number 0 (n1 : Int) (n2 : Int) A5 ((data ++ blank).map St.T.label) m C5 _ wr hm hle hcm hrz)
          obtain ⟨ok, hok⟩ : ∃ ok, ok = decide (Rc.SOk ⟨number, 0, (n1 : Int), (n2 : Int), (data ++ blank).map St.T.label⟩) := ⟨_, rfl⟩
          rw [← hok] at HSEAL
          have HBADB : Hid (Gr.badB data blank number = (!ok || lo2 || bb)) := Lib.hid (by
            unfold Gr.badB Gr.sealOf
            rw [hok, HLOY.out, HLOX.out, HBBX.out, HB0.out, HK.out, beq_zero, HN1.out, HN2.out]
            rfl)
          have HM := Lib.hid hm
          have HLC := Lib.hid (And.intro hle hcm)
          clear hok hle hcm hA5 hrz hm
          go_wp2_with fail
          refine HSEAL.out.mono ?_
          rintro e w5 ⟨rfl, hb5⟩
          have HJ5 := Lib.hid (HJ1.out.old hb5)
          clear hb5 x0 x1 x2 x3 x4
          by_cases hbad : (!ok || lo2 || bb) = true
          · have HE : Hid (Gr.mkE data blank number = 1) := Lib.hid (mkE_bad (by rw [HBADB.out]; exact hbad))
            cases ok
            · clear hbad
              go_wp2
              go_ret2
              exact HNO.out 1 _ HE.out (by decide) HJ5.out.bel
            · cases lo2
              · cases bb
                · simp at hbad
                · clear hbad
                  go_wp2
                  go_ret2
                  exact HNO.out 1 _ HE.out (by decide) HJ5.out.bel
              · clear hbad
                go_wp2
                go_ret2
                exact HNO.out 1 _ HE.out (by decide) HJ5.out.bel
          have HGOOD : Hid (Gr.badB data blank number = false) := Lib.hid (by rw [HBADB.out]; exact Bool.eq_false_iff.2 hbad)
          obtain ⟨rfl, rfl, rfl⟩ : ok = true ∧ lo2 = false ∧ bb = false := by revert hbad; cases ok <;> cases lo2 <;> cases bb <;> simp
          clear hbad
          go_wp2
          go_loop [16] (fun vi => ∃ i : Nat, i ≤ n2 ∧ vi = .int .i64 (i : Int) ∧ Hid ((blank.take i).any hasB = false)) (fun vi => n2 - (intOf vi).toNat)
          case atStart => exact ⟨0, Nat.zero_le _, rfl, Lib.hid rfl⟩
          case round =>
            obtain ⟨i, hi, rfl, HF⟩ := hrel
            by_cases hlt : i < n2
            · have e0 : decide (i < n2) = true := decide_eq_true hlt
              have hlt' : i < blank.length := by rw [← HN2.out]; exact hlt
              obtain ⟨b, off, A', C', rfl, -, c0, c1, c2, c3, -⟩ := HR2.out.in_.at_ hlt'
              have HANY := Lib.hid (any_take (p := hasB) hlt')
              have HAT := Lib.hid (any_at (p := hasB) hlt')
              obtain ⟨⟨lab, cap, bs, lost⟩, ht⟩ : ∃ t, t = blank[i] := ⟨_, rfl⟩
              rw [← ht] at c2 HANY HAT
              dsimp only at c2
              obtain ⟨L, hL⟩ : ∃ L, L = bs.length := ⟨_, rfl⟩
              rw [← hL] at c2
              have d2 : w5.cell? ⟨b, off + i * 4 + 2, none⟩ = some (.slice A' L C') := (HJ5.out.bel.cell (World.block_lt_of_cell? _ _ c2)).trans c2
              have HBD : Hid (hasB ⟨lab, cap, bs, lost⟩ = decide ((0 : Int) < (L : Int))) := Lib.hid (by rw [hL]; rfl)
              clear c0 c1 c2 c3 ht hL
              have i0 : (0 : Int) ≤ (i : Int) := by omega
              have i1 : (i : Int) < (n2 : Int) := by omega
              by_cases hz : 0 < L
              · have e1 : decide ((0 : Int) < (L : Int)) = true := decide_eq_true (by omega)
                have HE : Hid (Gr.mkE data blank number = 11) := Lib.hid (mkE_has HGOOD.out (HAT.out (by rw [HBD.out]; exact e1)))
                have e2 : decide (0 < L) = true := decide_eq_true hz
                go_wp2
                go_ret2
                exact HNO.out 11 _ HE.out (by decide) HJ5.out.bel
              · have e1 : decide ((0 : Int) < (L : Int)) = false := decide_eq_false (by omega)
                have HF2 : Hid ((blank.take (i + 1)).any hasB = false) := Lib.hid (by rw [HANY.out, HF.out, HBD.out, e1]; rfl)
                have e2 : decide (0 < L) = false := decide_eq_false hz
                go_wp2
                go_round
                case rel => exact ⟨i + 1, by omega, by go_num, HF2⟩
                case measure => simp [intOf]; omega
            · have e0 : decide (i < n2) = false := decide_eq_false hlt
              have HNH : Hid (blank.any hasB = false) := Lib.hid (by have h := HF.out; rwa [List.take_of_length_le (by rw [← HN2.out]; omega)] at h)
              clear HF
              go_wp2
              go_loopw [17] (fun vi wr => ∃ i : Nat, i ≤ n2 ∧ vi = .int .i64 (i : Int) ∧ Hid ((blank.take i).any (smallB K) = false) ∧ Hid (RMk w number (n1 : Int) (n2 : Int) (.slice A5 m C5) ((data ++ blank).map St.T.label) wr)) (fun vi _ => n2 - (intOf vi).toNat)
              case atStart => exact ⟨0, Nat.zero_le _, rfl, Lib.hid rfl, HJ5⟩
              case round =>
                obtain ⟨i, hi, rfl, HF, HJ⟩ := hrel
                by_cases hlt : i < n2
                · have e0 : decide (i < n2) = true := decide_eq_true hlt
                  have hlt' : i < blank.length := by rw [← HN2.out]; exact hlt
                  obtain ⟨b, off, A', C', rfl, -, c0, c1, c2, c3, -⟩ := HR2.out.in_.at_ hlt'
                  have HANY := Lib.hid (any_take (p := smallB K) hlt')
                  have HAT := Lib.hid (any_at (p := smallB K) hlt')
                  obtain ⟨⟨lab, cap, bs, lost⟩, ht⟩ : ∃ t, t = blank[i] := ⟨_, rfl⟩
                  rw [← ht] at c1 HANY HAT
                  dsimp only at c1
                  have d2 : wr.cell? ⟨b, off + i * 4 + 1, none⟩ = some (.int .i64 cap) := (HJ.out.bel.cell (World.block_lt_of_cell? _ _ c1)).trans c1
                  have HBD : Hid (smallB K ⟨lab, cap, bs, lost⟩ = decide (cap < (K : Int) + 2)) := Lib.hid rfl
                  have HJD := Lib.hid (HJ.out.old ((Below.refl wr.heap.size wr).drew))
                  have HLN := Lib.hid ((HLENY.out wr.drew HJD.out.bel).mono fun _ _ h => (⟨h.1, h.2.symm⟩ : _ ∧ _))
                  clear c0 c1 c2 c3 ht
                  have i0 : (0 : Int) ≤ (i : Int) := by omega
                  have i1 : (i : Int) < (n2 : Int) := by omega
                  have s1 : IntKind.i64.wrap ((K : Int) + 2) = (K : Int) + 2 := IntWalk.i64_in _ (by have := HKM.out; omega)
                  go_wp2
                  refine wp_region_still_tail 8 (by kernel_rfl) (by kernel_rfl) ?_
                  simp only [List.take_succ_cons, List.take_zero, List.drop_succ_cons, List.drop_zero]
                  repeat (first | still_step | still_call HLN.out)
                  refine wpStill_nil ?_
                  change wpList _ _ _ _ _ wr.drew
                  by_cases hz : cap < (K : Int) + 2
                  · have e1 : decide (cap < (K : Int) + 2) = true := decide_eq_true hz
                    have HE : Hid (Gr.mkE data blank number = 6) := Lib.hid (mkE_small HGOOD.out HNH.out (by rw [← HK.out]; exact HAT.out (by rw [HBD.out]; exact e1)))
                    clear hz
                    go_wp2
                    go_ret2
                    exact HNO.out 6 _ HE.out (by decide) HJD.out.bel
                  · have e1 : decide (cap < (K : Int) + 2) = false := decide_eq_false hz
                    have HF2 : Hid ((blank.take (i + 1)).any (smallB K) = false) := Lib.hid (by rw [HANY.out, HF.out, HBD.out, e1]; rfl)
                    clear hz
                    go_wp2
                    go_roundw
                    case rel => exact ⟨i + 1, by omega, by go_num, HF2, HJD⟩
                    case measure => simp [intOf]; omega
                · have e0 : decide (i < n2) = false := decide_eq_false hlt
                  have hns : blank.any (smallB (St.len data)) = false := by
                    rw [← HK.out]
                    have h := HF.out
                    rwa [List.take_of_length_le (by rw [← HN2.out]; omega)] at h
                  obtain ⟨hpe, hck⟩ := mkE_par HGOOD.out HNH.out hns
                  have HPE := Lib.hid hpe
                  have HCK := Lib.hid hck
                  have HPC := Lib.hid (HPAR.out wr HJ.out.bel)
                  clear hns hpe hck HF
                  go_wp2_with fail
                  refine HPC.out.mono ?_
                  intro e w6 hpa
                  unfold ParA at hpa
                  by_cases hok : St.Ok data (n2 : Int)
                  · rw [if_pos hok] at hpa
                    obtain ⟨Ap, Cp, rfl, -, -, hP, hb6⟩ := hpa
                    rw [Int.toNat_natCast] at hP
                    have HE0 : Hid (Gr.mkE data blank number = 0) := Lib.hid (by rw [HPE.out, ← HN2.out]; unfold St.err; rw [if_pos hok])
                    simp only [Int.toNat_natCast]
                    clear hok
                    have hsok := Gr.chk_seal HCK.out
                    have HFEW := Lib.hid (Gr.seal_few hsok)
                    have HJ6 := Lib.hid (HJ.out.old hb6)
                    have hs6 := HJ6.out.hd
                    have hslt := heap_lt hs6
                    have hwr1 := heap_lt HJ.out.hd
                    have HMS : Hid (∀ v tvs L wz, encT.Own wz w6.heap.size 31 v tvs → RowsT wz w6.heap.size wz.heap.size tvs (Gr.made data blank number) L → Below w.heap.size w wz → MakeS data blank number w (.returned (.tuple #[v, .int .i64 0])) wz) := Lib.hid fun v tvs L wz h1 h2 h3 => by
                      unfold MakeS
                      rw [if_pos HE0.out]
                      exact ⟨v, tvs, L, rfl, Go.Joins.ownsRow_le h1 HJ6.out.bel.size, h2.down HJ6.out.bel.size, h3⟩
                    have HPAR6 : Hid (RdP w6 Ap n2 (St.len data) 79 (St.X data n2) (fun b => ¬ (b = w.heap.size ∨ w6.heap.size ≤ b))) := Lib.hid ((RdP.in_' hP).mono fun b hb => by omega)
                    have HRB6 : Hid (RdT w6 A2 blank (fun b => ¬ (b = w.heap.size ∨ w6.heap.size ≤ b))) := Lib.hid ((HR2.out.in_.old HJ6.out.bel).mono fun b hb => by have := HJ6.out.bel.size; have := hb.2; omega)
                    have HLB6 : Hid (RdZ w6 A5 ((data ++ blank).map St.T.label) (fun b => ¬ (b = w.heap.size ∨ w6.heap.size ≤ b))) := Lib.hid (by
                      obtain ⟨A9, C9, hv9, -, -, -, hr9⟩ := HJ6.out.own.rd
                      injection hv9 with q1 q2 q3
                      rw [q1]
                      exact hr9.in_.mono fun b hb => by have := hb.1; have := hb.2; omega)
                    have HM0 : Hid (MkR w6 w.heap.size number n1 n2 A5 m C5 (.slice none 0 0) ((Gr.made data blank number).take 0) w6) := Lib.hid ⟨⟨0, hs6⟩, Kp.refl _ _, ⟨[], _, Enc.Own.nil _ _ _, RowsT.nil _ _⟩, hslt⟩
                    have HMT : Hid (∀ i (h : i < blank.length), (Gr.made data blank number).take (i + 1) = (Gr.made data blank number).take i ++ [⟨blank[i].label, blank[i].cap, framedL blank[i].label (says (Gr.rowsOf data n2 i) ⟨number, ((n1 + i : Nat) : Int), (n1 : Int), (n2 : Int), (data ++ blank).map St.T.label⟩), false⟩]) := Lib.hid fun i h => by
                      rw [made_take h, HN1.out, HN2.out]; rfl
                    have HML : Hid ((Gr.made data blank number).length = n2) := Lib.hid (by rw [Gr.made_len, HN2.out])
                    have HLABEL : Hid (∀ i (h : i < blank.length), 1 ≤ blank[i].label ∧ blank[i].label ≤ 2147483647) := Lib.hid fun i h => Gr.seal_labels hsok (List.mem_append_right data (List.getElem_mem h))
                    have HB6 := Lib.hid HJ6.out.bel
                    have HSLT := Lib.hid hslt
                    clear hsok hs6 hslt hwr1 hP hb6 HJ6
                    go_wp2
                    go_loopw [21, 20] (fun vi vo wr => ∃ (i : Nat) (v : Value), i ≤ n2 ∧ vi = .int .i64 (i : Int) ∧ vo = v ∧ Hid (MkR w6 w.heap.size number n1 n2 A5 m C5 v ((Gr.made data blank number).take i) wr)) (fun vi _ _ => n2 - (intOf vi).toNat)
                    case atStart => exact ⟨0, _, Nat.zero_le _, rfl, rfl, HM0⟩
                    case round =>
                      obtain ⟨i, v, hi, rfl, rfl, HI⟩ := hrel
                      by_cases hlt : i < n2
                      · have e0 : decide (i < n2) = true := decide_eq_true hlt
                        have hltb : i < blank.length := by rw [← HN2.out]; exact hlt
                        obtain ⟨wo, rfl⟩ : ∃ x, x = wr := ⟨wr, rfl⟩
                        obtain ⟨b, off, A', C', rfl, -, c0, c1, -, -, -⟩ := (HRB6.out.kp HI.out.kp (fun b h => h)).at_ hltb
                        have hpar : RdP wo Ap n2 (St.len data) 79 (St.X data n2) (fun b => ¬ (b = w.heap.size ∨ w6.heap.size ≤ b)) := HPAR6.out.keep fun _ _ hg hc => HI.out.kp.cell hc hg
                        obtain ⟨pb, po, Aj, Cj, rfl, pc, hrow⟩ := rdP_row hpar hlt
                        rw [← HK.out] at pc
                        have hrl : (Gr.rowsOf data n2 i).length = K := by rw [Gr.rowsOf_len, HK.out]
                        have hr79 : ∀ b ∈ Gr.rowsOf data n2 i, b.length = 79 := fun b hb => Gr.rowsOf_79 hb
                        have hmt := HMT.out i hltb
                        have hlab := HLABEL.out i hltb
                        obtain ⟨rows, hrows⟩ : ∃ rows, rows = Gr.rowsOf data n2 i := ⟨_, rfl⟩
                        rw [← hrows] at hrow hrl hr79 hmt
                        obtain ⟨⟨lab, cap, bs0, lost0⟩, ht⟩ : ∃ t, t = blank[i] := ⟨_, rfl⟩
                        rw [← ht] at c0 c1 hmt hlab
                        dsimp only at c0 c1 hmt hlab
                        obtain ⟨sl, hsl⟩ : ∃ sl : Rc.S, sl = ⟨number, ((n1 + i : Nat) : Int), (n1 : Int), (n2 : Int), (data ++ blank).map St.T.label⟩ := ⟨_, rfl⟩
                        rw [← hsl] at hmt
                        have hsok : ∀ (k : Nat) (u : Int × Tx), (says rows sl)[k]? = some u → Fm.Ok ⟨u.1, lab, (k : Int), u.2⟩ := says_ok hlab (fun b hb => by rw [hr79 b hb]; exact Nat.le_refl _) (by rw [hrl]; exact Nat.le_trans HKM.out (by decide))
                        have hok0 : Fm.Ok ⟨1, lab, 0, [80]⟩ := hsok 0 _ (says_first rows sl)
                        obtain ⟨fb, hfb⟩ : ∃ fb, fb = framedL lab (says rows sl) := ⟨_, rfl⟩
                        have hfbl : fb.length = K + 2 := by rw [hfb, framedL_len, says_len, hrl]
                        have ht0 : fb.take 1 = [Fm.blk ⟨1, lab, 0, [80]⟩] := by rw [hfb, framed_take (says_first rows sl)]; rfl
                        have htr : ∀ n (h : n < rows.length), fb.take (n + 1 + 1) = fb.take (n + 1) ++ [Fm.blk ⟨6, lab, ((n + 1 : Nat) : Int), rows[n]⟩] := fun n h => by rw [hfb, framed_take (says_row (s := sl) h)]
                        have hte : fb = fb.take (K + 1) ++ [Fm.blk ⟨5, lab, ((K + 1 : Nat) : Int), Rc.sput sl⟩] := by
                          have h1 := framed_take (label := lab) (says_end (rows := rows) (s := sl) hrl.symm)
                          rw [← hfb, List.take_of_length_le (by omega)] at h1
                          exact h1
                        have HOKR : Hid (∀ n (h : n < rows.length), Fm.Ok ⟨6, lab, ((n + 1 : Nat) : Int), rows[n]⟩) := Lib.hid fun n h => hsok (n + 1) _ (says_row h)
                        have HOKE : Hid (Fm.Ok ⟨5, lab, ((K + 1 : Nat) : Int), Rc.sput sl⟩) := Lib.hid (hsok (K + 1) _ (says_end hrl.symm))
                        rw [← hfb] at hmt
                        have HMT2 := Lib.hid hmt
                        have HROW := Lib.hid hrow
                        have HRL := Lib.hid hrl
                        have HR79 := Lib.hid hr79
                        have HSL := Lib.hid hsl
                        have HT0 := Lib.hid ht0
                        have HTR := Lib.hid htr
                        have HTE := Lib.hid hte
                        have HPC := Lib.hid pc
                        have HFBL := Lib.hid hfbl
                        have i0 : (0 : Int) ≤ (i : Int) := by omega
                        have i1 : (i : Int) < (n2 : Int) := by omega
                        -- the label's frame
                        obtain ⟨wa, hwa⟩ : ∃ wa, wa = (wo.alloc (tapeObj lab cap none 0 0 false)).drew := ⟨_, rfl⟩
                        have hM : wa.heap[wo.heap.size]? = some (tapeObj lab cap none 0 0 false) := by rw [hwa]; exact Go.Deep.blk_alloc_new wo _
                        have hba : Below wo.heap.size wo wa := by rw [hwa]; exact ((Below.refl _ _).alloc (Nat.le_refl _) _).drew
                        have kc := Go.Joins.run_convert_bytes_const_at (P := Tryz.prog) wa.drew 34 5 #[.int .u8 80] 1 1 wa.heap.size rfl Tryz.underlying34 Tryz.underlying5
                        simp only [List.size_toArray, List.length_cons, List.length_nil, Nat.zero_add, Nat.reduceAdd] at kc
                        change (convert 34 34 (.slice (some ⟨wa.heap.size, 0, none⟩) 1 1)).run Tryz.prog (wa.alloc (.cells #[.int .u8 80] 5)).drew = .ok (.slice (some ⟨wa.heap.size, 0, none⟩) 1 1) (wa.alloc (.cells #[.int .u8 80] 5 (1, 2))).drew at kc
                        obtain ⟨wp, hwp⟩ : ∃ wp, wp = (wa.alloc (.cells #[.int .u8 80] 5 (1, 2))).drew := ⟨_, rfl⟩
                        have hbp : Below wa.heap.size wa wp := by rw [hwp]; exact ((Below.refl _ _).alloc (Nat.le_refl _) _).drew
                        have hbk : Below wa.heap.size wa (wa.alloc (.cells #[.int .u8 80] 5)).drew := ((Below.refl _ _).alloc (Nat.le_refl _) _).drew
                        have hbd : Below wa.heap.size wa wa.drew := (Below.refl _ _).drew
                        have hrd : RdL wp (some ⟨wa.heap.size, 0, none⟩) [80] (fun _ => True) := fun _ => ⟨_, _, rfl, trivial, fun j hj => by
                          have : j = 0 := by simp at hj; omega
                          subst this
                          have h80 : wp.heap[wa.heap.size]? = some (.cells #[.int .u8 80] 5 (1, 2)) := by rw [hwp]; exact Go.Deep.blk_alloc_new wa _
                          rw [heap_cell h80]; rfl⟩
                        have HF := Lib.hid (refFrame_own 1 lab 0 (some ⟨wa.heap.size, 0, none⟩) [80] 1 1 _ wp rfl (fun h => by cases h) hrd hok0)
                        have HST := Lib.hid (fun (w2 : World) (A2 : Option Addr) (n2' C2 : Nat) (h : Below wa.heap.size wa w2) (ho : OwnL w2 wp.heap.size (.slice A2 n2' C2) (Fm.blk ⟨1, lab, 0, [80]⟩)) => Rt.step (G := fun _ => True) (lab := lab) (cap := cap) (bs := []) hM (TopB.nil wa wo.heap.size (fun _ => True)) (Nat.le_refl _) hba.size h ho hbp.size (fun _ _ => trivial) (by simp) 1 rfl)
                        obtain ⟨y0, -, q0, -⟩ := tape4 (below_tape hbd hM)
                        obtain ⟨y1, -, q1, -⟩ := tape4 (below_tape hbk hM)
                        obtain ⟨y2, -, q2, -⟩ := tape4 (below_tape hbp hM)
                        have HM := Lib.hid hM
                        have HBA := Lib.hid hba
                        have HBP := Lib.hid hbp
                        have HWA := Lib.hid hwa
                        unfold tapeObj at HWA
                        have HWP := Lib.hid hwp
                        clear hwa hM hba hwp hbp hbk hbd hrd hok0 hsok hte htr ht0 hfbl hfb hsl hmt hlab hrow hrl hr79 pc hpar hrows ht
                        have hbz : Below wo.heap.size wo (wo.alloc (.cells #[.int .i64 0, .int .i64 0, .slice none 0 0, .bool false] 31)).drew := ((Below.refl _ _).alloc (Nat.le_refl _) _).drew
                        have z0 : (wo.alloc (.cells #[.int .i64 0, .int .i64 0, .slice none 0 0, .bool false] 31)).drew.cell? ⟨b, off + i * 4, none⟩ = some (.int .i64 lab) := (hbz.cell (World.block_lt_of_cell? _ _ c0)).trans c0
                        have z1 : (wo.alloc (.cells #[.int .i64 0, .int .i64 0, .slice none 0 0, .bool false] 31)).drew.cell? ⟨b, off + i * 4 + 1, none⟩ = some (.int .i64 cap) := (hbz.cell (World.block_lt_of_cell? _ _ c1)).trans c1
                        clear hbz
                        go_wp2
                        go_cut [22] (fun p wx => p = .pointer (some ⟨wo.heap.size, 0, none⟩) ∧ wx = wa)
                        case first =>
                          go_region_law (fail)
                          all_goals
                            go_wp2
                            go_meet
                            exact ⟨rfl, HWA.out.symm⟩
                        case rest =>
                        obtain ⟨rfl, hwc⟩ := hcut
                        subst wc
                        clear z0 z1 c0 c1
                        go_wp2
                        have HKC := Lib.hid kc
                        rw [HWP.out] at y2 q2 HF
                        go_cut [] (fun wx => Hid (Rt wx wo.heap.size wo.heap.size (fun _ => True) lab cap (fb.take 1)) ∧ Hid (Below wo.heap.size wo wx))
                        case first =>
                          have HLD : Hid (∀ y, (Below wo.heap.size wa y ∧ y.heap[wo.heap.size]? = some (tapeObj lab cap none 0 0 false)) → y.cell? ⟨wo.heap.size, 0, none⟩ = some (.int .i64 lab) ∧ y.cell? ⟨wo.heap.size, 2, none⟩ = some (.slice none 0 0)) := Lib.hid fun y hy => ⟨(tape4 hy.2).1, (tape4 hy.2).2.2.1⟩
                          have HSS : Hid (∀ y, Below wa.heap.size wa y → Below wo.heap.size wa y ∧ y.heap[wo.heap.size]? = some (tapeObj lab cap none 0 0 false)) := Lib.hid fun y hy => ⟨hy.mono HBA.out.size, below_tape hy HM.out⟩
                          refine wp_region_X (fun y => Below wo.heap.size wa y ∧ y.heap[wo.heap.size]? = some (tapeObj lab cap none 0 0 false)) 10 (by kernel_rfl) (HSS.out _ (Below.refl _ _).drew) (fun hHeld => ?_)
                          refine wpAnyX_slot (i := 0) (v := ?v0) rfl rfl (by kernel_rfl) (by kernel_rfl) (by kernel_rfl) (by kernel_rfl) (fun _ _ _ h => h) (by rfl) (fun y hSw => ?hy0) hHeld ?rest0
                          case hy0 => go_simp; with_reducible rfl
                          simp only [Act.put, List.setIfInBounds_toArray, List.set_cons_zero, List.set_cons_succ]
                          refine wpAnyX_slot (i := 1) (v := ?v1) rfl rfl (by kernel_rfl) (by kernel_rfl) (by kernel_rfl) (by kernel_rfl) (fun _ _ _ h => h) (by rfl) (fun y hSw => ?hy1) hHeld ?rest1
                          case hy1 => (obtain ⟨q1, q2⟩ := HLD.out y hSw); go_simp; with_reducible rfl
                          simp only [Act.put, List.setIfInBounds_toArray, List.set_cons_zero, List.set_cons_succ]
                          refine wpAnyX_slot (i := 2) (v := ?v2) rfl rfl (by kernel_rfl) (by kernel_rfl) (by kernel_rfl) (by kernel_rfl) (fun _ _ _ h => h) (by rfl) (fun y hSw => ?hy2) hHeld ?rest2
                          case hy2 => go_simp; with_reducible rfl
                          simp only [Act.put, List.setIfInBounds_toArray, List.set_cons_zero, List.set_cons_succ]
                          refine wpAnyX_slot (i := 3) (v := ?v3) rfl rfl (by kernel_rfl) (by kernel_rfl) (by kernel_rfl) (by kernel_rfl) (fun _ _ _ h => h) (by rfl) (fun y hSw => ?hy3) hHeld ?rest3
                          case hy3 => (obtain ⟨q1, q2⟩ := HLD.out y hSw); go_simp; with_reducible rfl
                          simp only [Act.put, List.setIfInBounds_toArray, List.set_cons_zero, List.set_cons_succ]
                          refine wpAnyX_next (i := 4) (by kernel_rfl) rfl (fun KK hKK => ?_)
                          go_simp
                          refine hKK.out _ _ (HSS.out _ ((Below.refl _ _).alloc (Nat.le_refl _) _).drew) (fun hHeld => ?_)
                          clear hKK KK
                          refine wpAnyX_next (i := 5) (by kernel_rfl) rfl (fun KK hKK => ?_)
                          go_simp
                          refine hKK.out _ _ (HSS.out _ ((Below.refl _ _).alloc (Nat.le_refl _) _).drew) (fun hHeld => ?_)
                          clear hKK KK
                          refine wpAnyX_next (i := 6) (by kernel_rfl) rfl (fun KK hKK => ?_)
                          go_simp
                          go_wp2_with ((go_at_call 26; refine HF.out.mono ?_; rintro e w2 ⟨A2, n2', C2, rfl, ho2, hb2⟩))
                          have hb2' : Below wa.heap.size wa w2 := HBP.out.trans ((by rw [HWP.out]; exact hb2 : Below wp.heap.size wp w2).mono HBP.out.size)
                          obtain ⟨g3, c3, w3, hr3, hM3, hrt3, hb3, hb3'⟩ := HST.out w2 A2 n2' C2 hb2' (by rw [HWP.out]; exact ho2)
                          refine hKK.out _ _ (HSS.out _ hb2') (fun hHeld => ?_)
                          clear hKK KK
                          refine wpAnyX_next (i := 7) (by kernel_rfl) rfl (fun KK hKK => ?_)
                          go_simp
                          refine hKK.out _ _ (HSS.out _ (hb2'.alloc hb2'.size _)) (fun hHeld => ?_)
                          clear hKK KK
                          refine wpAnyX_next (i := 8) (by kernel_rfl) rfl (fun KK hKK => ?_)
                          refine step_append_eq (by rfl) _ _ _ _ (by rfl) _ _ _ _ hr3 (by rfl) (by rfl) ?_
                          refine hKK.out _ _ ⟨hb3, hM3⟩ (fun hHeld => ?_)
                          clear hKK KK
                          refine wpAnyX_slot (i := 9) (v := ?v9) rfl rfl (by kernel_rfl) (by kernel_rfl) (by kernel_rfl) (by kernel_rfl) (fun _ _ _ h => h) (by rfl) (fun y hSw => ?hy9) hHeld ?rest9
                          case hy9 => go_simp; with_reducible rfl
                          simp only [Act.put, List.setIfInBounds_toArray]
                          have f5 : w3.frozen? ⟨wo.heap.size, 2, none⟩ = false := heap_frozen hM3
                          obtain ⟨-, -, y5, -⟩ := tape4 hM3
                          refine wpAnyX_last (by kernel_rfl) rfl (by kernel_rfl) (fun KK hKK => ?_)
                          go_simp
                          refine hKK.out _ _ ?_
                          clear hKK KK
                          go_wp2
                          go_meet
                          exact ⟨Lib.hid (by rw [HT0.out]; exact hrt3), Lib.hid (HBA.out.trans hb3')⟩
                        case rest =>
                        obtain ⟨HRT0, HBW0⟩ := hcut
                        obtain ⟨wq, rfl⟩ : ∃ x, x = wc := ⟨wc, rfl⟩
                        clear y0 y1 y2 q0 q1 q2 kc HF HST HKC HWP HBP HM HBA HT0
                        go_wp2
                        go_loopw [23] (fun vn wr => ∃ k : Nat, k ≤ K ∧ vn = .int .i64 (k : Int) ∧ Hid (Rt wr wo.heap.size wo.heap.size (fun _ => True) lab cap (fb.take (k + 1))) ∧ Hid (Below wo.heap.size wo wr)) (fun vn _ => K - (intOf vn).toNat)
                        case atStart => exact ⟨0, Nat.zero_le _, rfl, HRT0, HBW0⟩
                        case round =>
                          obtain ⟨k, hk, rfl, HRT, HBW⟩ := hrel
                          have e41 : wr.cell? ⟨pb, po + i, none⟩ = some (.slice Aj K Cj) := (HBW.out.cell (World.block_lt_of_cell? _ _ HPC.out)).trans HPC.out
                          by_cases hlk : k < K
                          · have e1 : decide (k < K) = true := decide_eq_true hlk
                            obtain ⟨v3, us3, hM3', hT3⟩ := HRT.out.ex
                            have hsz3 : us3.length = k + 1 := by rw [hT3.len, List.length_take]; have := HFBL.out; omega
                            obtain ⟨rb, ro, A7, C7, rfl, hg7, hc7, hA7, hr7⟩ := HROW.out.in_.at_ (i := k) (by rw [HRL.out]; exact hlk)
                            have h79 : (rows[k]'(by rw [HRL.out]; exact hlk)).length = 79 := HR79.out _ (List.getElem_mem _)
                            rw [h79] at hc7 hA7
                            obtain ⟨row, hrow⟩ : ∃ row, row = rows[k]'(by rw [HRL.out]; exact hlk) := ⟨_, rfl⟩
                            have hfr := refFrame_own 6 lab ((k : Int) + 1) A7 row 79 C7 _ wr.drew (by rw [hrow, h79]) hA7 (by rw [hrow]; exact hr7.old (HBW.out.drew)) (by rw [hrow]; have h := HOKR.out k (by rw [HRL.out]; exact hlk); rwa [Int.natCast_add, Int.natCast_one] at h)
                            have HF7 := Lib.hid hfr
                            have HTK : Hid (fb.take (k + 1 + 1) = fb.take (k + 1) ++ [Fm.blk ⟨6, lab, (k : Int) + 1, row⟩]) := Lib.hid (by
                              rw [hrow]
                              have h := HTR.out k (by rw [HRL.out]; exact hlk)
                              rwa [Int.natCast_add, Int.natCast_one] at h)
                            have HLD : Hid (∀ y, (Below wo.heap.size wr y ∧ y.heap[wo.heap.size]? = some (.cells #[.int .i64 lab, .int .i64 cap, v3, .bool false] 31 (0, 0))) → y.cell? ⟨wo.heap.size, 0, none⟩ = some (.int .i64 lab) ∧ y.cell? ⟨wo.heap.size, 2, none⟩ = some v3 ∧ y.cell? ⟨pb, po + i, none⟩ = some (.slice (some ⟨rb, ro, none⟩) K Cj) ∧ y.cell? ⟨rb, ro + k, none⟩ = some (.slice A7 79 C7)) := Lib.hid fun y hy => ⟨heap_cell hy.2, heap_cell hy.2, (hy.1.cell (World.block_lt_of_cell? _ _ HPC.out)).trans e41, (hy.1.cell hg7.2).trans ((HBW.out.cell hg7.2).trans hc7)⟩
                            have HSS : Hid (∀ y, Below wr.heap.size wr y → Below wo.heap.size wr y ∧ y.heap[wo.heap.size]? = some (.cells #[.int .i64 lab, .int .i64 cap, v3, .bool false] 31 (0, 0))) := Lib.hid fun y hy => ⟨hy.mono HBW.out.size, (hy.block _ (heap_lt hM3')).trans hM3'⟩
                            have HST := Lib.hid (fun (w2 : World) (A2 : Option Addr) (n2' C2 : Nat) (h : Below wr.heap.size wr w2) (ho : OwnL w2 wr.heap.size (.slice A2 n2' C2) (Fm.blk ⟨6, lab, (k : Int) + 1, row⟩)) => Rt.step (G := fun _ => True) (lab := lab) (cap := cap) hM3' hT3 (Nat.le_refl _) HBW.out.size h ho (Nat.le_refl _) (fun _ _ => trivial) (by rw [hsz3]; have := HKM.out; omega) (k + 2) (by rw [hsz3]))
                            have k0 : (0 : Int) ≤ (k : Int) := by omega
                            have k1 : (k : Int) < (K : Int) := by omega
                            have s1 : IntKind.i64.wrap ((k : Int) + 1) = (k : Int) + 1 := IntWalk.i64_in _ (by have := HKM.out; omega)
                            clear hM3' hT3 hsz3 hg7 hc7 hA7 hr7 h79 hrow hfr
                            go_wp2
                            refine wp_region_X (fun y => Below wo.heap.size wr y ∧ y.heap[wo.heap.size]? = some (.cells #[.int .i64 lab, .int .i64 cap, v3, .bool false] 31 (0, 0))) 17 (by kernel_rfl) (HSS.out _ (Below.refl _ _).drew) (fun hHeld => ?_)
                            refine wpAnyX_slot (i := 0) (v := ?vb0) rfl rfl (by kernel_rfl) (by kernel_rfl) (by kernel_rfl) (by kernel_rfl) (fun _ _ _ h => h) (by rfl) (fun y hSw => ?hyb0) hHeld ?restb0
                            case hyb0 => go_simp; with_reducible rfl
                            simp only [Act.put, List.setIfInBounds_toArray, List.set_cons_zero, List.set_cons_succ]
                            refine wpAnyX_slot (i := 1) (v := ?vb1) rfl rfl (by kernel_rfl) (by kernel_rfl) (by kernel_rfl) (by kernel_rfl) (fun _ _ _ h => h) (by rfl) (fun y hSw => ?hyb1) hHeld ?restb1
                            case hyb1 => (obtain ⟨q1, q2, q3, q4⟩ := HLD.out y hSw); go_simp; with_reducible rfl
                            simp only [Act.put, List.setIfInBounds_toArray, List.set_cons_zero, List.set_cons_succ]
                            refine wpAnyX_slot (i := 2) (v := ?vb2) rfl rfl (by kernel_rfl) (by kernel_rfl) (by kernel_rfl) (by kernel_rfl) (fun _ _ _ h => h) (by rfl) (fun y hSw => ?hyb2) hHeld ?restb2
                            case hyb2 => go_simp; with_reducible rfl
                            simp only [Act.put, List.setIfInBounds_toArray, List.set_cons_zero, List.set_cons_succ]
                            refine wpAnyX_slot (i := 3) (v := ?vb3) rfl rfl (by kernel_rfl) (by kernel_rfl) (by kernel_rfl) (by kernel_rfl) (fun _ _ _ h => h) (by rfl) (fun y hSw => ?hyb3) hHeld ?restb3
                            case hyb3 => (obtain ⟨q1, q2, q3, q4⟩ := HLD.out y hSw); go_simp; with_reducible rfl
                            simp only [Act.put, List.setIfInBounds_toArray, List.set_cons_zero, List.set_cons_succ]
                            refine wpAnyX_slot (i := 4) (v := ?vb4) rfl rfl (by kernel_rfl) (by kernel_rfl) (by kernel_rfl) (by kernel_rfl) (fun _ _ _ h => h) (by rfl) (fun y hSw => ?hyb4) hHeld ?restb4
                            case hyb4 => go_simp; with_reducible rfl
                            simp only [Act.put, List.setIfInBounds_toArray, List.set_cons_zero, List.set_cons_succ]
                            refine wpAnyX_slot (i := 5) (v := ?vb5) rfl rfl (by kernel_rfl) (by kernel_rfl) (by kernel_rfl) (by kernel_rfl) (fun _ _ _ h => h) (by rfl) (fun y hSw => ?hyb5) hHeld ?restb5
                            case hyb5 => go_simp; with_reducible rfl
                            simp only [Act.put, List.setIfInBounds_toArray, List.set_cons_zero, List.set_cons_succ]
                            refine wpAnyX_slot (i := 6) (v := ?vb6) rfl rfl (by kernel_rfl) (by kernel_rfl) (by kernel_rfl) (by kernel_rfl) (fun _ _ _ h => h) (by rfl) (fun y hSw => ?hyb6) hHeld ?restb6
                            case hyb6 => go_simp; with_reducible rfl
                            simp only [Act.put, List.setIfInBounds_toArray, List.set_cons_zero, List.set_cons_succ]
                            refine wpAnyX_slot (i := 7) (v := ?vb7) rfl rfl (by kernel_rfl) (by kernel_rfl) (by kernel_rfl) (by kernel_rfl) (fun _ _ _ h => h) (by rfl) (fun y hSw => ?hyb7) hHeld ?restb7
                            case hyb7 => go_simp; with_reducible rfl
                            simp only [Act.put, List.setIfInBounds_toArray, List.set_cons_zero, List.set_cons_succ]
                            refine wpAnyX_slot (i := 8) (v := ?vb8) rfl rfl (by kernel_rfl) (by kernel_rfl) (by kernel_rfl) (by kernel_rfl) (fun _ _ _ h => h) (by rfl) (fun y hSw => ?hyb8) hHeld ?restb8
                            case hyb8 => go_simp; with_reducible rfl
                            simp only [Act.put, List.setIfInBounds_toArray, List.set_cons_zero, List.set_cons_succ]
                            refine wpAnyX_slot (i := 9) (v := ?vb9) rfl rfl (by kernel_rfl) (by kernel_rfl) (by kernel_rfl) (by kernel_rfl) (fun _ _ _ h => h) (by rfl) (fun y hSw => ?hyb9) hHeld ?restb9
                            case hyb9 => (obtain ⟨q1, q2, q3, q4⟩ := HLD.out y hSw); go_simp; with_reducible rfl
                            simp only [Act.put, List.setIfInBounds_toArray, List.set_cons_zero, List.set_cons_succ]
                            refine wpAnyX_slot (i := 10) (v := ?vb10) rfl rfl (by kernel_rfl) (by kernel_rfl) (by kernel_rfl) (by kernel_rfl) (fun _ _ _ h => h) (by rfl) (fun y hSw => ?hyb10) hHeld ?restb10
                            case hyb10 => go_simp; with_reducible rfl
                            simp only [Act.put, List.setIfInBounds_toArray, List.set_cons_zero, List.set_cons_succ]
                            refine wpAnyX_slot (i := 11) (v := ?vb11) rfl rfl (by kernel_rfl) (by kernel_rfl) (by kernel_rfl) (by kernel_rfl) (fun _ _ _ h => h) (by rfl) (fun y hSw => ?hyb11) hHeld ?restb11
                            case hyb11 => go_simp; with_reducible rfl
                            simp only [Act.put, List.setIfInBounds_toArray, List.set_cons_zero, List.set_cons_succ]
                            refine wpAnyX_slot (i := 12) (v := ?vb12) rfl rfl (by kernel_rfl) (by kernel_rfl) (by kernel_rfl) (by kernel_rfl) (fun _ _ _ h => h) (by rfl) (fun y hSw => ?hyb12) hHeld ?restb12
                            case hyb12 => (obtain ⟨q1, q2, q3, q4⟩ := HLD.out y hSw); go_simp; with_reducible rfl
                            simp only [Act.put, List.setIfInBounds_toArray, List.set_cons_zero, List.set_cons_succ]
                            refine wpAnyX_next (i := 13) (by kernel_rfl) rfl (fun KK hKK => ?_)
                            go_simp
                            go_wp2_with ((go_at_call 26; refine HF7.out.mono ?_; rintro e w2 ⟨A2, n2', C2, rfl, ho2, hb2'⟩))
                            have hb2 : Below wr.heap.size wr w2 := ((Below.refl wr.heap.size wr).drew).trans hb2'
                            obtain ⟨g3, c3, w3, hr3, hM3, hrt3, hb3, hb3'⟩ := HST.out w2 A2 n2' C2 hb2 ho2
                            refine hKK.out _ _ (HSS.out _ hb2) (fun hHeld => ?_)
                            clear hKK KK
                            refine wpAnyX_next (i := 14) (by kernel_rfl) rfl (fun KK hKK => ?_)
                            go_simp
                            refine hKK.out _ _ (HSS.out _ (hb2.alloc hb2.size _)) (fun hHeld => ?_)
                            clear hKK KK
                            refine wpAnyX_next (i := 15) (by kernel_rfl) rfl (fun KK hKK => ?_)
                            refine step_append_eq (by rfl) _ _ _ _ (by rfl) _ _ _ _ hr3 (by rfl) (by rfl) ?_
                            refine hKK.out _ _ ⟨hb3, hM3⟩ (fun hHeld => ?_)
                            clear hKK KK
                            refine wpAnyX_slot (i := 16) (v := ?vb16) rfl rfl (by kernel_rfl) (by kernel_rfl) (by kernel_rfl) (by kernel_rfl) (fun _ _ _ h => h) (by rfl) (fun y hSw => ?hyb16) hHeld ?restb16
                            case hyb16 => go_simp; with_reducible rfl
                            simp only [Act.put, List.setIfInBounds_toArray]
                            have f5 : w3.frozen? ⟨wo.heap.size, 2, none⟩ = false := heap_frozen hM3
                            have y5 : w3.cell? ⟨wo.heap.size, 2, none⟩ = some v3 := heap_cell hM3
                            refine wpAnyX_last (by kernel_rfl) rfl (by kernel_rfl) (fun KK hKK => ?_)
                            go_simp
                            refine hKK.out _ _ ?_
                            clear hKK KK
                            have HRT3 := Lib.hid hrt3
                            have HB3 := Lib.hid (HBW.out.trans hb3')
                            clear hrt3 hb3 hb3' hb2 ho2 hM3 hr3 hHeld f5 y5
                            go_wp2
                            go_roundw
                            case rel => exact ⟨k + 1, by omega, by go_num, Lib.hid (by rw [HTK.out]; exact HRT3.out), HB3⟩
                            case measure => simp [intOf]; omega
                          · have e1 : decide (k < K) = false := decide_eq_false hlk
                            have hkK : k = K := by omega
                            have hrtK := HRT.out
                            rw [hkK] at hrtK
                            obtain ⟨⟨u1, x1⟩, x5, ws, v3, us3, A9, C9, hws, hbws, hM5, hT5, hsz3, ⟨G9, hrz5⟩, hLD⟩ := mk_exit (y := (n1 : Int) + (i : Int)) (pb := pb) (po := po) (i := i) (K := K) (X := St.X data n2) HI.out hrtK HBW.out (by have h := HPAR6.out; rwa [← HK.out] at h) HLB6.out hlt (World.block_lt_of_cell? _ _ HPC.out)
                            have hsz3' : us3.length = K + 1 := by rw [hsz3, List.length_take]; have := HFBL.out; omega
                            have hsl2 : sl = ⟨number, (n1 : Int) + (i : Int), (n1 : Int), (n2 : Int), (data ++ blank).map St.T.label⟩ := by rw [HSL.out, Int.natCast_add]
                            have HSB := Lib.hid (refSealBytes_any number ((n1 : Int) + (i : Int)) (n1 : Int) (n2 : Int) A5 ((data ++ blank).map St.T.label) m C5 _ ws.drew HM.out HLC.out.1 HLC.out.2 (hrz5.old ((Below.refl _ _).drew)))
                            rw [← hsl2] at HSB
                            have HLD := Lib.hid hLD
                            have HSS : Hid (∀ y, Below ws.heap.size ws y → Below wo.heap.size ws y ∧ y.heap[wo.heap.size]? = some (.cells #[.int .i64 lab, .int .i64 cap, v3, .bool false] 31 (0, 0))) := Lib.hid fun y hy => ⟨hy.mono (by rw [hbws]; exact HBW.out.size), (hy.block _ (heap_lt hM5)).trans hM5⟩
                            have HST := Lib.hid (fun (w2 : World) (B2 : Nat) (A2 : Option Addr) (n2' C2 : Nat) (h : Below ws.heap.size ws w2) (hB2 : ws.heap.size ≤ B2) (ho : OwnL w2 B2 (.slice A2 n2' C2) (Fm.blk ⟨5, lab, (K : Int) + 1, Rc.sput sl⟩)) => Rt.step (G := fun _ => True) (lab := lab) (cap := cap) hM5 hT5 (Nat.le_refl _) (by rw [hbws]; exact HBW.out.size) h ho hB2 (fun _ _ => trivial) (by rw [hsz3']; have := HKM.out; omega) (K + 2) (by rw [hsz3']))
                            have HTE2 : Hid (fb.take (K + 1) ++ [Fm.blk ⟨5, lab, (K : Int) + 1, Rc.sput sl⟩] = fb) := Lib.hid (by
                              have h := HTE.out
                              rw [Int.natCast_add, Int.natCast_one] at h
                              exact h.symm)
                            have HOK5 : Hid (Fm.Ok ⟨5, lab, (K : Int) + 1, Rc.sput sl⟩) := Lib.hid (by have h := HOKE.out; rwa [Int.natCast_add, Int.natCast_one] at h)
                            have HWS := Lib.hid hws
                            have s2 : IntKind.i64.wrap ((n1 : Int) + (i : Int)) = (n1 : Int) + (i : Int) := IntWalk.i64_in _ (by omega)
                            have s3 : IntKind.i64.wrap ((K : Int) + 1) = (K : Int) + 1 := IntWalk.i64_in _ (by have := HKM.out; omega)
                            clear hws hbws hM5 hT5 hsz3 hsz3' hrz5 hLD hsl2 hrtK HLB6 HRB6 HPAR6 HR2 HR1 HROW HTR HTE HPC HOKR HOKE HLEN HLENY HPAR HNO
                            go_wp2
                            rw [← HWS.out]
                            clear x1 x5
                            refine wp_region_X (fun y => Below wo.heap.size ws y ∧ y.heap[wo.heap.size]? = some (.cells #[.int .i64 lab, .int .i64 cap, v3, .bool false] 31 (0, 0))) 16 (by kernel_rfl) (HSS.out _ (Below.refl _ _).drew) (fun hHeld => ?_)
                            refine wpAnyX_slot (i := 0) (v := ?vc0) rfl rfl (by kernel_rfl) (by kernel_rfl) (by kernel_rfl) (by kernel_rfl) (fun _ _ _ h => h) (by rfl) (fun y hSw => ?hyc0) hHeld ?restc0
                            case hyc0 => go_simp; with_reducible rfl
                            simp only [Act.put, List.setIfInBounds_toArray, List.set_cons_zero, List.set_cons_succ]
                            refine wpAnyX_slot (i := 1) (v := ?vc1) rfl rfl (by kernel_rfl) (by kernel_rfl) (by kernel_rfl) (by kernel_rfl) (fun _ _ _ h => h) (by rfl) (fun y hSw => ?hyc1) hHeld ?restc1
                            case hyc1 => (obtain ⟨q1, q2, q3, q4, q5, q6, q7, q8⟩ := HLD.out y hSw); go_simp; with_reducible rfl
                            simp only [Act.put, List.setIfInBounds_toArray, List.set_cons_zero, List.set_cons_succ]
                            refine wpAnyX_slot (i := 2) (v := ?vc2) rfl rfl (by kernel_rfl) (by kernel_rfl) (by kernel_rfl) (by kernel_rfl) (fun _ _ _ h => h) (by rfl) (fun y hSw => ?hyc2) hHeld ?restc2
                            case hyc2 => go_simp; with_reducible rfl
                            simp only [Act.put, List.setIfInBounds_toArray, List.set_cons_zero, List.set_cons_succ]
                            refine wpAnyX_slot (i := 3) (v := ?vc3) rfl rfl (by kernel_rfl) (by kernel_rfl) (by kernel_rfl) (by kernel_rfl) (fun _ _ _ h => h) (by rfl) (fun y hSw => ?hyc3) hHeld ?restc3
                            case hyc3 => (obtain ⟨q1, q2, q3, q4, q5, q6, q7, q8⟩ := HLD.out y hSw); go_simp; with_reducible rfl
                            simp only [Act.put, List.setIfInBounds_toArray, List.set_cons_zero, List.set_cons_succ]
                            refine wpAnyX_slot (i := 4) (v := ?vc4) rfl rfl (by kernel_rfl) (by kernel_rfl) (by kernel_rfl) (by kernel_rfl) (fun _ _ _ h => h) (by rfl) (fun y hSw => ?hyc4) hHeld ?restc4
                            case hyc4 => go_simp; with_reducible rfl
                            simp only [Act.put, List.setIfInBounds_toArray, List.set_cons_zero, List.set_cons_succ]
                            refine wpAnyX_slot (i := 5) (v := ?vc5) rfl rfl (by kernel_rfl) (by kernel_rfl) (by kernel_rfl) (by kernel_rfl) (fun _ _ _ h => h) (by rfl) (fun y hSw => ?hyc5) hHeld ?restc5
                            case hyc5 => go_simp; with_reducible rfl
                            simp only [Act.put, List.setIfInBounds_toArray, List.set_cons_zero, List.set_cons_succ]
                            refine wpAnyX_slot (i := 6) (v := ?vc6) rfl rfl (by kernel_rfl) (by kernel_rfl) (by kernel_rfl) (by kernel_rfl) (fun _ _ _ h => h) (by rfl) (fun y hSw => ?hyc6) hHeld ?restc6
                            case hyc6 => go_simp; with_reducible rfl
                            simp only [Act.put, List.setIfInBounds_toArray, List.set_cons_zero, List.set_cons_succ]
                            refine wpAnyX_slot (i := 7) (v := ?vc7) rfl rfl (by kernel_rfl) (by kernel_rfl) (by kernel_rfl) (by kernel_rfl) (fun _ _ _ h => h) (by rfl) (fun y hSw => ?hyc7) hHeld ?restc7
                            case hyc7 => (obtain ⟨q1, q2, q3, q4, q5, q6, q7, q8⟩ := HLD.out y hSw); go_simp; with_reducible rfl
                            simp only [Act.put, List.setIfInBounds_toArray, List.set_cons_zero, List.set_cons_succ]
                            refine wpAnyX_slot (i := 8) (v := ?vc8) rfl rfl (by kernel_rfl) (by kernel_rfl) (by kernel_rfl) (by kernel_rfl) (fun _ _ _ h => h) (by rfl) (fun y hSw => ?hyc8) hHeld ?restc8
                            case hyc8 => go_simp; with_reducible rfl
                            simp only [Act.put, List.setIfInBounds_toArray, List.set_cons_zero, List.set_cons_succ]
                            refine wpAnyX_slot (i := 9) (v := ?vc9) rfl rfl (by kernel_rfl) (by kernel_rfl) (by kernel_rfl) (by kernel_rfl) (fun _ _ _ h => h) (by rfl) (fun y hSw => ?hyc9) hHeld ?restc9
                            case hyc9 => go_simp; with_reducible rfl
                            simp only [Act.put, List.setIfInBounds_toArray, List.set_cons_zero, List.set_cons_succ]
                            refine wpAnyX_slot (i := 10) (v := ?vc10) rfl rfl (by kernel_rfl) (by kernel_rfl) (by kernel_rfl) (by kernel_rfl) (fun _ _ _ h => h) (by rfl) (fun y hSw => ?hyc10) hHeld ?restc10
                            case hyc10 => (obtain ⟨q1, q2, q3, q4, q5, q6, q7, q8⟩ := HLD.out y hSw); go_simp; with_reducible rfl
                            simp only [Act.put, List.setIfInBounds_toArray, List.set_cons_zero, List.set_cons_succ]
                            refine wpAnyX_next (i := 11) (by kernel_rfl) rfl (fun KK hKK => ?_)
                            go_simp
                            go_wp2_with ((go_at_call 27; refine HSB.out.mono ?_; rintro e w1' ⟨A8, n8, C8, rfl, hn8, hn8C, hC8, hA8, hr8, hb1'⟩; have HN8 := Lib.hid (And.intro hn8 hA8); clear hn8 hn8C hC8 hA8))
                            have hb1 : Below ws.heap.size ws w1' := ((Below.refl ws.heap.size ws).drew).trans hb1'
                            have HF8 := Lib.hid (refFrame_own 5 lab ((K : Int) + 1) A8 (Rc.sput sl) n8 C8 _ w1' HN8.out.1 HN8.out.2 hr8 HOK5.out)
                            clear hr8 HN8
                            refine hKK.out _ _ (HSS.out _ hb1) (fun hHeld => ?_)
                            clear hKK KK
                            refine wpAnyX_next (i := 12) (by kernel_rfl) rfl (fun KK hKK => ?_)
                            go_simp
                            go_wp2_with ((go_at_call 26; refine HF8.out.mono ?_; rintro e w2 ⟨A2, n2', C2, rfl, ho2, hb2'⟩))
                            have hb2 : Below ws.heap.size ws w2 := hb1.trans (hb2'.mono hb1.size)
                            obtain ⟨g3, c3, w3, hr3, hM3, hrt3, hb3, hb3'⟩ := HST.out w2 w1'.heap.size A2 n2' C2 hb2 hb1.size ho2
                            refine hKK.out _ _ (HSS.out _ hb2) (fun hHeld => ?_)
                            clear hKK KK
                            refine wpAnyX_next (i := 13) (by kernel_rfl) rfl (fun KK hKK => ?_)
                            go_simp
                            refine hKK.out _ _ (HSS.out _ (hb2.alloc hb2.size _)) (fun hHeld => ?_)
                            clear hKK KK
                            refine wpAnyX_next (i := 14) (by kernel_rfl) rfl (fun KK hKK => ?_)
                            refine step_append_eq (by rfl) _ _ _ _ (by rfl) _ _ _ _ hr3 (by rfl) (by rfl) ?_
                            refine hKK.out _ _ ⟨hb3, hM3⟩ (fun hHeld => ?_)
                            clear hKK KK
                            refine wpAnyX_slot (i := 15) (v := ?vc15) rfl rfl (by kernel_rfl) (by kernel_rfl) (by kernel_rfl) (by kernel_rfl) (fun _ _ _ h => h) (by rfl) (fun y hSw => ?hyc15) hHeld ?restc15
                            case hyc15 => go_simp; with_reducible rfl
                            simp only [Act.put, List.setIfInBounds_toArray]
                            have f5 : w3.frozen? ⟨wo.heap.size, 2, none⟩ = false := heap_frozen hM3
                            have y5 : w3.cell? ⟨wo.heap.size, 2, none⟩ = some v3 := heap_cell hM3
                            refine wpAnyX_last (by kernel_rfl) rfl (by kernel_rfl) (fun KK hKK => ?_)
                            go_simp
                            refine hKK.out _ _ ?_
                            clear hKK KK
                            obtain ⟨w45, hw45⟩ : ∃ x, x = w3.setCell ⟨wo.heap.size, 2, none⟩ (.slice (some ⟨g3, 0, none⟩) (K + 2) c3) := ⟨_, rfl⟩
                            rw [← hw45] at hrt3 hb3' ⊢
                            obtain ⟨hM6, hB6S, tvs, htl, hown, hnext⟩ := mk_sealed HI.out HBW.out HWS.out hM3 hw45 hrt3 hb3' HTE2.out HFBL.out.symm HMT2.out
                            have HNEXT := Lib.hid hnext
                            have HOWN := Lib.hid hown
                            have HTL : Hid (tvs.length = i) := Lib.hid (by rw [htl, List.length_take, HML.out]; omega)
                            obtain ⟨y0, y1, y2, y3⟩ := tape4 hM6
                            clear hrt3 hb3 hb3' hb2 hb2' hb1 hb1' ho2 hM3 hr3 hHeld f5 y5 hM6 hown hnext htl hw45 HF8 HSB HST HSS HLD
                            have hml : tvs.length + 1 ≤ maxLen := by rw [HTL.out]; unfold maxLen; omega
                            have hmb : (tvs.length + 1) * 48 ≤ 140737488355328 := by rw [HTL.out]; omega
                            have HMLB := Lib.hid (And.intro hml hmb)
                            have HB6S2 : Hid (w6.heap.size ≤ (w45.alloc (.cells #[.int .i64 lab, .int .i64 cap, .slice (some ⟨g3, 0, none⟩) (K + 2) c3, .bool false] 31)).heap.size) := Lib.hid (by simp; omega)
                            clear hml hmb hB6S
                            go_wp2_with (at_builtin; refine wpList_append_st' encT _ rfl _ _ _ rfl w6.heap.size 31 _ 48 Tryz.underlying24 infoTape rfl _ tvs rfl HOWN.out ⟨w45.heap.size, 0, none⟩ 1 1 [⟨lab, cap, some ⟨g3, 0, none⟩, K + 2, c3, false⟩] rfl rfl (newCells w45 [.int .i64 lab, .int .i64 cap, .slice (some ⟨g3, 0, none⟩) (K + 2) c3, .bool false] _) HMLB.out.1 HMLB.out.2 HB6S2.out ?_; intro v' w46 ho46 hg46)
                            have HN := Lib.hid (HNEXT.out w46 v' hg46 ho46)
                            clear ho46 hg46
                            go_roundw
                            case rel => exact ⟨i + 1, v', by omega, by go_num, rfl, HN⟩
                            case measure => simp [intOf]; omega
                      · have e0 : decide (i < n2) = false := decide_eq_false hlt
                        have hti : (Gr.made data blank number).take i = Gr.made data blank number := List.take_of_length_le (by rw [HML.out]; omega)
                        obtain ⟨tvs, L, h1, h2⟩ := HI.out.ex
                        rw [hti] at h2
                        have HRES := Lib.hid (HMS.out _ tvs L wr h1 h2 (HB6.out.trans (HI.out.kp.below HB6.out.size fun k hk => by have := HB6.out.size; omega)))
                        clear hti h1 h2
                        go_wp2
                        go_ret2
                        exact HRES.out
                  · rw [if_neg hok] at hpa
                    obtain ⟨rfl, hb6⟩ := hpa
                    have HE : Hid (Gr.mkE data blank number = 1) := Lib.hid (by rw [HPE.out, ← HN2.out]; unfold St.err; rw [if_neg hok])
                    have HJ6 := Lib.hid (HJ.out.old hb6)
                    clear hok hb6
                    go_wp2
                    go_ret2
                    exact HNO.out 1 _ HE.out (by decide) HJ6.out.bel
end Go.Proofs.YtcokmmanajdioaaGreat
