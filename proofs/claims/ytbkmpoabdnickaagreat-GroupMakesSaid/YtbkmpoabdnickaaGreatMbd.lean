/- What the document's own Good of a tape's block answers. -/
import Derived.Test.YtbkmpoabdnickaaGreatMap
import Derived.Test.YtbkmpoabdnickaaGreatRefFmG
namespace Go.Proofs.YtbkmpoabdnickaaGreat
open Go.RowKit
open Pt (Tx)

set_option maxHeartbeats 400000 in
theorem refGood_out (lab cap : Int) (bs : List Tx) (A : Option Addr) (L C : Nat) (lost : Bool) (n : Int) (w : World) (hL : L = bs.length) (h : lost = true ∨ n < 0 ∨ (bs.length : Int) ≤ n) :
    Calls Tryz.prog 24 #[.agg #[.int .i64 lab, .int .i64 cap, .slice A L C, .bool lost], .int .i64 n] w (GoodA (Vo.goodZ ⟨lab, bs, lost⟩ n) w) := by
  have HG := Lib.hid (goodZ_no (lab := lab) h)
  obtain ⟨wb, hwb⟩ : ∃ wb, wb = (w.alloc (tapeObj lab cap A L C lost)).alloc (unitObj 0 0 0 none 0 0) := ⟨_, rfl⟩
  obtain ⟨hB, hT, hU⟩ := two_blocks hwb
  have HB := Lib.hid hB
  have HU := Lib.hid hU
  have HT := Lib.hid hT
  have HW := Lib.hid hwb
  unfold tapeObj unitObj at HW
  obtain ⟨t0, t1, t2, t3⟩ := tape4 hT
  obtain ⟨z0, z1, z2, z3⟩ := unit4 hU
  rw [hwb] at t0 t1 t2 t3
  rw [← hL] at h
  clear hB hT hU hwb hL
  have hq : lost = true ∨ (lost = false ∧ decide (n < 0) = true) ∨ (lost = false ∧ decide (n < 0) = false ∧ decide ((L : Int) ≤ n) = true) := by
    cases lost with
    | true => exact .inl rfl
    | false =>
      refine .inr ?_
      by_cases h0 : n < 0
      · exact .inl ⟨rfl, decide_eq_true h0⟩
      · exact .inr ⟨rfl, decide_eq_false h0, decide_eq_true (by rcases h with h | h | h; · cases h
                                                                · exact absurd h h0
                                                                · exact h)⟩
  clear h
  rcases hq with rfl | ⟨rfl, q1⟩ | ⟨rfl, q1, q2⟩
  all_goals
    go_enter Tryz.func24, Tryz.ntmps24
    go_wp2_with fail
    rw [← HW.out]
    refine bodyPost_ret (v := .tuple #[.agg #[.int .i64 0, .int .i64 0, .int .i64 0, .slice none 0 0], .bool false]) (by simp [results, Tryz.results24, go_sem, z0, z1, z2, z3]) rfl ?_
    rw [HG.out]
    exact ⟨none, 0, 0, rfl, rfl, Nat.le_refl _, fun _ => ⟨rfl, rfl⟩, RdL.empty _ _ _, HB.out⟩
set_option maxHeartbeats 4000000 in
theorem refGood_in (lab cap : Int) (bs : List Tx) (A : Option Addr) (L C : Nat) (G : Nat → Prop) (n : Nat) (w : World) (hL : L = bs.length) (hr : RdB w A bs G) (hn : n < bs.length) (hl : ∀ s ∈ bs, s.length ≤ 1000) :
    Calls Tryz.prog 24 #[.agg #[.int .i64 lab, .int .i64 cap, .slice A L C, .bool false], .int .i64 n] w (GoodA (Vo.good ⟨lab, bs, false⟩ n) w) := by
  obtain ⟨b, off, A1, C1, rfl, hg1, hc1, hC1, hN1, hr1⟩ := hr.at_ hn
  obtain ⟨s, hsd⟩ : ∃ s, s = bs[n] := ⟨_, rfl⟩
  have hsl : s.length ≤ 1000 := by rw [hsd]; exact hl _ (List.getElem_mem hn)
  have HG := Lib.hid (good_is (lab := lab) hn)
  rw [← hsd] at HG hc1 hC1 hN1 hr1
  obtain ⟨S, hS⟩ : ∃ S, S = s.length := ⟨_, rfl⟩
  rw [← hS] at hc1 hC1 hN1 hsl
  obtain ⟨wb, hwb⟩ : ∃ wb, wb = (w.alloc (tapeObj lab cap (some ⟨b, off, none⟩) L C false)).alloc (unitObj 0 0 0 none 0 0) := ⟨_, rfl⟩
  obtain ⟨hB, hT, hU⟩ := two_blocks hwb
  have hcb : wb.cell? ⟨b, off + n, none⟩ = some (.slice A1 S C1) := (hB.cell (World.block_lt_of_cell? _ _ hc1)).trans hc1
  have HGET := Lib.hid (refGet_len A1 s S C1 G wb hS hC1 hsl hN1 (hr1.old hB))
  have HB := Lib.hid hB
  have HU := Lib.hid hU
  have HT := Lib.hid hT
  have HW := Lib.hid hwb
  unfold tapeObj unitObj at HW
  obtain ⟨t0, t1, t2, t3⟩ := tape4 hT
  have q1 : decide ((n : Int) < 0) = false := decide_eq_false (by omega)
  have q2 : decide ((L : Int) ≤ (n : Int)) = false := decide_eq_false (by omega)
  have q3 : decide (L ≤ n) = false := decide_eq_false (by omega)
  have q4 : n < L := by omega
  obtain ⟨ge, hge⟩ : ∃ ge, ge = Fm.gotE s := ⟨_, rfl⟩
  obtain ⟨k, lb, nb, ld, hu⟩ : ∃ k lb nb ld, Fm.got s = ⟨k, lb, nb, ld⟩ := ⟨_, _, _, _, rfl⟩
  unfold GotU at HGET
  rw [hu, ← hge] at HGET
  have hcase : (ge = 0 ∧ lb = lab ∧ nb = (n : Int) ∧ Vo.good ⟨lab, bs, false⟩ n = some ⟨k, lb, nb, ld⟩) ∨ (Vo.good ⟨lab, bs, false⟩ n = none ∧ ((ge != 0) = true ∨ ((ge != 0) = false ∧ (lb != lab) = true) ∨ ((ge != 0) = false ∧ (lb != lab) = false ∧ (nb != (n : Int)) = true))) := by
    have h := HG.out
    by_cases hgd : Fm.Good s
    · rw [Fm.gotE_yes hgd] at hge
      rw [Fm.got_yes hgd] at hu
      rw [hu] at h
      by_cases h1 : lb = lab
      · by_cases h2 : nb = (n : Int)
        · refine .inl ⟨hge, h1, h2, ?_⟩
          rw [h, if_pos ⟨hgd, h1, h2⟩]
        · refine .inr ⟨?_, .inr (.inr ⟨by rw [hge]; rfl, by rw [h1]; simp, by simpa using h2⟩)⟩
          rw [h, if_neg fun h' => h2 h'.2.2]
      · refine .inr ⟨?_, .inr (.inl ⟨by rw [hge]; rfl, by simpa using h1⟩)⟩
        rw [h, if_neg fun h' => h1 h'.2.1]
    · rw [Fm.gotE_no hgd] at hge
      refine .inr ⟨?_, .inl (by rw [hge]; rfl)⟩
      rw [h, if_neg fun h' => hgd h'.1]
  clear HG hg1 hc1 hC1 hN1 hr1 hS hsl hu hge hr hl hL hn hB hT hU hsd
  rcases hcase with ⟨rfl, rfl, hnb, hres⟩ | ⟨hres, hq⟩
  · have HRES := Lib.hid hres
    have hq5 : (nb != (n : Int)) = false := by simp [hnb]
    clear hres hnb
    rw [HW.out] at t0 t1 t2 t3 hcb
    go_enter Tryz.func24, Tryz.ntmps24
    go_wp2_with fail
    rw [← HW.out]
    refine HGET.out.mono ?_
    rintro e w1 ⟨A2, m2, C2, rfl, hm2, hc2, hn2, hr2, hb2⟩
    obtain ⟨wc, hwc⟩ : ∃ wc, wc = w1.alloc (unitObj k lb nb A2 m2 C2) := ⟨_, rfl⟩
    have hb3 : Below w1.heap.size w1 wc := by rw [hwc]; exact (Below.refl _ _).alloc (Nat.le_refl _) _
    have hbc := hb2.trans (hb3.mono hb2.size)
    have hY : wc.heap[w1.heap.size]? = some (unitObj k lb nb A2 m2 C2) := by rw [hwc]; exact Go.Deep.blk_alloc_new _ _
    have hZ := (hbc.block _ (heap_lt HU.out)).trans HU.out
    have hT3 := below_tape hbc HT.out
    obtain ⟨t0', t1', t2', t3'⟩ := tape4 hT3
    obtain ⟨z0, z1, z2, z3⟩ := unit4 hZ
    obtain ⟨x0, x1, x2, x3⟩ := unit4 hY
    have y0 : wc.frozen? ⟨w.heap.size + 1, 0, none⟩ = false := heap_frozen hZ
    have y1 : wc.frozen? ⟨w.heap.size + 1, 1, none⟩ = false := heap_frozen hZ
    have y2 : wc.frozen? ⟨w.heap.size + 1, 2, none⟩ = false := heap_frozen hZ
    have y3 : wc.frozen? ⟨w.heap.size + 1, 3, none⟩ = false := heap_frozen hZ
    have HR2 : Hid (RdL wc A2 ld (fun x => w.heap.size ≤ x ∧ x ≠ w.heap.size + 1)) := Lib.hid ((hr2.old hb3).mono fun x hx => by
      have h1 : w.heap.size + 2 ≤ wb.heap.size := by have := heap_lt HU.out; omega
      have h2 : wb.heap.size ≤ x := hx
      omega)
    have HB3 := Lib.hid (HB.out.trans (hbc.mono HB.out.size))
    have HM2 := Lib.hid hm2
    have HN2 := Lib.hid hn2
    have HWC := Lib.hid hwc
    unfold unitObj at HWC
    obtain ⟨y, hy⟩ : ∃ y, y = w1.heap.size := ⟨_, rfl⟩
    rw [← hy] at x0 x1 x2 x3
    have HY := Lib.hid hy
    have hZ2 := Lib.hid hZ
    clear hb2 hb3 hbc hZ hT3 hr2 hm2 hn2 hwc hY hy t0 t1 t2 t3 x0 x1 x2 x3
    rw [HWC.out] at z0 z1 z2 z3 y0 y1 y2 y3 t0' t1' t2' t3'
    go_wp2
    rw [← HWC.out]
    clear z0 z1 z2 z3
    obtain ⟨z0, z1, z2, z3⟩ := unit4 hZ2.out
    exact bodyPost_ret (v := .tuple #[.agg #[.int .i64 k, .int .i64 lb, .int .i64 nb, .slice A2 m2 C2], .bool true]) (by simp [results, Tryz.results24, go_sem, z0, z1, z2, z3]) rfl (GoodA.stored (u := ⟨k, lb, nb, ld⟩) (by rw [HRES.out]; rfl) (by rw [HRES.out]; rfl) (by omega) HR2.out HM2.out hc2 HN2.out HB3.out)
  · have HRES := Lib.hid hres
    clear hres
    rw [HW.out] at t0 t1 t2 t3 hcb
    rcases hq with p1 | ⟨p1, p2⟩ | ⟨p1, p2, p3⟩
    all_goals
      go_enter Tryz.func24, Tryz.ntmps24
      go_wp2_with fail
      rw [← HW.out]
      refine HGET.out.mono ?_
      rintro e w1 ⟨A2, m2, C2, rfl, hm2, hc2, hn2, hr2, hb2⟩
      obtain ⟨wc, hwc⟩ : ∃ wc, wc = w1.alloc (unitObj k lb nb A2 m2 C2) := ⟨_, rfl⟩
      have hb3 : Below w1.heap.size w1 wc := by rw [hwc]; exact (Below.refl _ _).alloc (Nat.le_refl _) _
      have hbc := hb2.trans (hb3.mono hb2.size)
      have hY : wc.heap[w1.heap.size]? = some (unitObj k lb nb A2 m2 C2) := by rw [hwc]; exact Go.Deep.blk_alloc_new _ _
      have hZ := (hbc.block _ (heap_lt HU.out)).trans HU.out
      have hT3 := below_tape hbc HT.out
      obtain ⟨t0', t1', t2', t3'⟩ := tape4 hT3
      obtain ⟨z0, z1, z2, z3⟩ := unit4 hZ
      obtain ⟨x0, x1, x2, x3⟩ := unit4 hY
      have y0 : wc.frozen? ⟨w.heap.size + 1, 0, none⟩ = false := heap_frozen hZ
      have y1 : wc.frozen? ⟨w.heap.size + 1, 1, none⟩ = false := heap_frozen hZ
      have y2 : wc.frozen? ⟨w.heap.size + 1, 2, none⟩ = false := heap_frozen hZ
      have y3 : wc.frozen? ⟨w.heap.size + 1, 3, none⟩ = false := heap_frozen hZ
      have HR2 : Hid (RdL wc A2 ld (fun x => w.heap.size ≤ x ∧ x ≠ w.heap.size + 1)) := Lib.hid ((hr2.old hb3).mono fun x hx => by
        have h1 : w.heap.size + 2 ≤ wb.heap.size := by have := heap_lt HU.out; omega
        have h2 : wb.heap.size ≤ x := hx
        omega)
      have HB3 := Lib.hid (HB.out.trans (hbc.mono HB.out.size))
      have HM2 := Lib.hid hm2
      have HN2 := Lib.hid hn2
      have HWC := Lib.hid hwc
      unfold unitObj at HWC
      obtain ⟨y, hy⟩ : ∃ y, y = w1.heap.size := ⟨_, rfl⟩
      rw [← hy] at x0 x1 x2 x3
      have HY := Lib.hid hy
      have hZ2 := Lib.hid hZ
      clear hb2 hb3 hbc hZ hT3 hr2 hm2 hn2 hwc hY hy t0 t1 t2 t3 x0 x1 x2 x3
      rw [HWC.out] at z0 z1 z2 z3 y0 y1 y2 y3 t0' t1' t2' t3'
      go_wp2
      rw [← HWC.out]
      clear z0 z1 z2 z3
      obtain ⟨z0, z1, z2, z3⟩ := unit4 hZ2.out
      exact bodyPost_ret (v := .tuple #[.agg #[.int .i64 0, .int .i64 0, .int .i64 0, .slice none 0 0], .bool false]) (by simp [results, Tryz.results24, go_sem, z0, z1, z2, z3]) rfl (GoodA.stored (u := Fm.zero) (by rw [HRES.out]; rfl) (by rw [HRES.out]; rfl) (by omega) (RdL.empty _ _ _) rfl (Nat.le_refl _) (fun _ => ⟨rfl, rfl⟩) HB3.out)
theorem refGood_any (lab cap : Int) (bs : List Tx) (A : Option Addr) (L C : Nat) (G : Nat → Prop) (lost : Bool) (n : Int) (w : World) (hL : L = bs.length) (hr : RdB w A bs G) (hl : ∀ s ∈ bs, s.length ≤ 1000) :
    Calls Tryz.prog 24 #[.agg #[.int .i64 lab, .int .i64 cap, .slice A L C, .bool lost], .int .i64 n] w (GoodA (Vo.goodZ ⟨lab, bs, lost⟩ n) w) := by
  by_cases h : lost = true ∨ n < 0 ∨ (bs.length : Int) ≤ n
  · exact refGood_out lab cap bs A L C lost n w hL h
  · have h1 : lost = false := by cases lost with
      | true => exact absurd (.inl rfl) h
      | false => rfl
    subst h1
    have h2 : 0 ≤ n ∧ n < (bs.length : Int) := by
      constructor
      · rcases Int.lt_or_le n 0 with h' | h'
        · exact absurd (.inr (.inl h')) h
        · exact h'
      · rcases Int.lt_or_le n (bs.length : Int) with h' | h'
        · exact h'
        · exact absurd (.inr (.inr h')) h
    obtain ⟨m, rfl⟩ : ∃ m : Nat, n = (m : Int) := ⟨n.toNat, by omega⟩
    have h3 : Vo.goodZ ⟨lab, bs, false⟩ (m : Int) = Vo.good ⟨lab, bs, false⟩ m := by
      unfold Vo.goodZ
      rw [if_neg (by omega)]; rfl
    rw [h3]
    exact refGood_in lab cap bs A L C G m w hL hr (by omega) hl
end Go.Proofs.YtbkmpoabdnickaaGreat
