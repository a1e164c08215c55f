/- What the document's own Good of a tape's block answers. What the document's own RightSeal answers, of numbers that may not be. What the document's own RightSeal answers, of numbers that may not be. What the document's own RightSeal answers, of numbers that may be: it looks through the labels. What the document's own RightSeal answers. -/
import Derived.Test.YtcokmmanajdioaaGreatMas
import Derived.Test.YtcokmmanajdioaaGreatRefFmG
import Derived.Test.YtcokmmanajdioaaGreatMan
namespace Go.Proofs.YtcokmmanajdioaaGreat
open Go.RowKit
open Pt (Tx)

set_option maxHeartbeats 400000 in
theorem refGood_out (lab cap : Int) (bs : List Tx) (A : Option Addr) (L C : Nat) (lost : Bool) (n : Int) (w : World) (hL : L = bs.length) (h : lost = true ∨ n < 0 ∨ (bs.length : Int) ≤ n) :
    Calls Tryz.prog 23 #[.agg #[.int .i64 lab, .int .i64 cap, .slice A L C, .bool lost], .int .i64 n] w (GoodA (Vo.goodZ ⟨lab, bs, lost⟩ n) w) := by
  have HG := Lib.hid (goodZ_no (lab := lab) h)
  obtain ⟨wb, hwb⟩ : ∃ wb, wb = (w.alloc (tapeObj lab cap A L C lost)).alloc (unitObj 0 0 0 none 0 0) := ⟨_, rfl⟩
  obtain ⟨hB, hT, hU⟩ := two_blocks hwb
  have HB := Lib.hid hB
  have HU := Lib.hid hU
  have HT := Lib.hid hT
  have HW := Lib.hid hwb
  unfold tapeObj unitObj at HW
  obtain ⟨t0, t1, t2, t3⟩ := tape4 hT
  obtain ⟨z0, z1, z2, z3⟩ := unit4 hU
  rw [hwb] at t0 t1 t2 t3
  rw [← hL] at h
  clear hB hT hU hwb hL
  have hq : lost = true ∨ (lost = false ∧ decide (n < 0) = true) ∨ (lost = false ∧ decide (n < 0) = false ∧ decide ((L : Int) ≤ n) = true) := by
    cases lost with
    | true => exact .inl rfl
    | false =>
      refine .inr ?_
      by_cases h0 : n < 0
      · exact .inl ⟨rfl, decide_eq_true h0⟩
      · exact .inr ⟨rfl, decide_eq_false h0, decide_eq_true (by rcases h with h | h | h; · cases h
                                                                · exact absurd h h0
                                                                · exact h)⟩
  clear h
  rcases hq with rfl | ⟨rfl, q1⟩ | ⟨rfl, q1, q2⟩
  all_goals
    go_enter Tryz.func23, Tryz.ntmps23
    go_wp2_with fail
    rw [← HW.out]
    refine bodyPost_ret (v := .tuple #[.agg #[.int .i64 0, .int .i64 0, .int .i64 0, .slice none 0 0], .bool false]) (by simp [results, Tryz.results23, go_sem, z0, z1, z2, z3]) rfl ?_
    rw [HG.out]
    exact ⟨none, 0, 0, rfl, rfl, Nat.le_refl _, fun _ => ⟨rfl, rfl⟩, RdL.empty _ _ _, HB.out⟩
set_option maxHeartbeats 4000000 in
theorem refGood_in (lab cap : Int) (bs : List Tx) (A : Option Addr) (L C : Nat) (G : Nat → Prop) (n : Nat) (w : World) (hL : L = bs.length) (hr : RdB w A bs G) (hn : n < bs.length) (hl : ∀ s ∈ bs, s.length ≤ 1000) :
    Calls Tryz.prog 23 #[.agg #[.int .i64 lab, .int .i64 cap, .slice A L C, .bool false], .int .i64 n] w (GoodA (Vo.good ⟨lab, bs, false⟩ n) w) := by
  obtain ⟨b, off, A1, C1, rfl, hg1, hc1, hC1, hN1, hr1⟩ := hr.at_ hn
  obtain ⟨s, hsd⟩ : ∃ s, s = bs[n] := ⟨_, rfl⟩
  have hsl : s.length ≤ 1000 := by rw [hsd]; exact hl _ (List.getElem_mem hn)
  have HG := Lib.hid (good_is (lab := lab) hn)
  rw [← hsd] at HG hc1 hC1 hN1 hr1
  obtain ⟨S, hS⟩ : ∃ S, S = s.length := ⟨_, rfl⟩
  rw [← hS] at hc1 hC1 hN1 hsl
  obtain ⟨wb, hwb⟩ : ∃ wb, wb = (w.alloc (tapeObj lab cap (some ⟨b, off, none⟩) L C false)).alloc (unitObj 0 0 0 none 0 0) := ⟨_, rfl⟩
  obtain ⟨hB, hT, hU⟩ := two_blocks hwb
  have hcb : wb.cell? ⟨b, off + n, none⟩ = some (.slice A1 S C1) := (hB.cell (World.block_lt_of_cell? _ _ hc1)).trans hc1
  have HGET := Lib.hid (refGet_len A1 s S C1 G wb hS hC1 hsl hN1 (hr1.old hB))
  have HB := Lib.hid hB
  have HU := Lib.hid hU
  have HT := Lib.hid hT
  have HW := Lib.hid hwb
  unfold tapeObj unitObj at HW
  obtain ⟨t0, t1, t2, t3⟩ := tape4 hT
  have q1 : decide ((n : Int) < 0) = false := decide_eq_false (by omega)
  have q2 : decide ((L : Int) ≤ (n : Int)) = false := decide_eq_false (by omega)
  have q3 : decide (L ≤ n) = false := decide_eq_false (by omega)
  have q4 : n < L := by omega
  obtain ⟨ge, hge⟩ : ∃ ge, ge = Fm.gotE s := ⟨_, rfl⟩
  obtain ⟨k, lb, nb, ld, hu⟩ : ∃ k lb nb ld, Fm.got s = ⟨k, lb, nb, ld⟩ := ⟨_, _, _, _, rfl⟩
  unfold GotU at HGET
  rw [hu, ← hge] at HGET
  have hcase : (ge = 0 ∧ lb = lab ∧ nb = (n : Int) ∧ Vo.good ⟨lab, bs, false⟩ n = some ⟨k, lb, nb, ld⟩) ∨ (Vo.good ⟨lab, bs, false⟩ n = none ∧ ((ge != 0) = true ∨ ((ge != 0) = false ∧ (lb != lab) = true) ∨ ((ge != 0) = false ∧ (lb != lab) = false ∧ (nb != (n : Int)) = true))) := by
    have h := HG.out
    by_cases hgd : Fm.Good s
    · rw [Fm.gotE_yes hgd] at hge
      rw [Fm.got_yes hgd] at hu
      rw [hu] at h
      by_cases h1 : lb = lab
      · by_cases h2 : nb = (n : Int)
        · refine .inl ⟨hge, h1, h2, ?_⟩
          rw [h, if_pos ⟨hgd, h1, h2⟩]
        · refine .inr ⟨?_, .inr (.inr ⟨by rw [hge]; rfl, by rw [h1]; simp, by simpa using h2⟩)⟩
          rw [h, if_neg fun h' => h2 h'.2.2]
      · refine .inr ⟨?_, .inr (.inl ⟨by rw [hge]; rfl, by simpa using h1⟩)⟩
        rw [h, if_neg fun h' => h1 h'.2.1]
    · rw [Fm.gotE_no hgd] at hge
      refine .inr ⟨?_, .inl (by rw [hge]; rfl)⟩
      rw [h, if_neg fun h' => hgd h'.1]
  clear HG hg1 hc1 hC1 hN1 hr1 hS hsl hu hge hr hl hL hn hB hT hU hsd
  rcases hcase with ⟨rfl, rfl, hnb, hres⟩ | ⟨hres, hq⟩
  · have HRES := Lib.hid hres
    have hq5 : (nb != (n : Int)) = false := by simp [hnb]
    clear hres hnb
    rw [HW.out] at t0 t1 t2 t3 hcb
    go_enter Tryz.func23, Tryz.ntmps23
    go_wp2_with fail
    rw [← HW.out]
    refine HGET.out.mono ?_
    rintro e w1 ⟨A2, m2, C2, rfl, hm2, hc2, hn2, hr2, hb2⟩
    obtain ⟨wc, hwc⟩ : ∃ wc, wc = w1.alloc (unitObj k lb nb A2 m2 C2) := ⟨_, rfl⟩
    have hb3 : Below w1.heap.size w1 wc := by rw [hwc]; exact (Below.refl _ _).alloc (Nat.le_refl _) _
    have hbc := hb2.trans (hb3.mono hb2.size)
    have hY : wc.heap[w1.heap.size]? = some (unitObj k lb nb A2 m2 C2) := by rw [hwc]; exact Go.Deep.blk_alloc_new _ _
    have hZ := (hbc.block _ (heap_lt HU.out)).trans HU.out
    have hT3 := below_tape hbc HT.out
    obtain ⟨t0', t1', t2', t3'⟩ := tape4 hT3
    obtain ⟨z0, z1, z2, z3⟩ := unit4 hZ
    obtain ⟨x0, x1, x2, x3⟩ := unit4 hY
    have y0 : wc.frozen? ⟨w.heap.size + 1, 0, none⟩ = false := heap_frozen hZ
    have y1 : wc.frozen? ⟨w.heap.size + 1, 1, none⟩ = false := heap_frozen hZ
    have y2 : wc.frozen? ⟨w.heap.size + 1, 2, none⟩ = false := heap_frozen hZ
    have y3 : wc.frozen? ⟨w.heap.size + 1, 3, none⟩ = false := heap_frozen hZ
    have HR2 : Hid (RdL wc A2 ld (fun x => w.heap.size ≤ x ∧ x ≠ w.heap.size + 1)) := Lib.hid ((hr2.old hb3).mono fun x hx => by
      have h1 : w.heap.size + 2 ≤ wb.heap.size := by have := heap_lt HU.out; omega
      have h2 : wb.heap.size ≤ x := hx
      omega)
    have HB3 := Lib.hid (HB.out.trans (hbc.mono HB.out.size))
    have HM2 := Lib.hid hm2
    have HN2 := Lib.hid hn2
    have HWC := Lib.hid hwc
    unfold unitObj at HWC
    obtain ⟨y, hy⟩ : ∃ y, y = w1.heap.size := ⟨_, rfl⟩
    rw [← hy] at x0 x1 x2 x3
    have HY := Lib.hid hy
    have hZ2 := Lib.hid hZ
    clear hb2 hb3 hbc hZ hT3 hr2 hm2 hn2 hwc hY hy t0 t1 t2 t3 x0 x1 x2 x3
    rw [HWC.out] at z0 z1 z2 z3 y0 y1 y2 y3 t0' t1' t2' t3'
    go_wp2
    rw [← HWC.out]
    clear z0 z1 z2 z3
    obtain ⟨z0, z1, z2, z3⟩ := unit4 hZ2.out
    exact bodyPost_ret (v := .tuple #[.agg #[.int .i64 k, .int .i64 lb, .int .i64 nb, .slice A2 m2 C2], .bool true]) (by simp [results, Tryz.results23, go_sem, z0, z1, z2, z3]) rfl (GoodA.stored (u := ⟨k, lb, nb, ld⟩) (by rw [HRES.out]; rfl) (by rw [HRES.out]; rfl) (by omega) HR2.out HM2.out hc2 HN2.out HB3.out)
  · have HRES := Lib.hid hres
    clear hres
    rw [HW.out] at t0 t1 t2 t3 hcb
    rcases hq with p1 | ⟨p1, p2⟩ | ⟨p1, p2, p3⟩
    all_goals
      go_enter Tryz.func23, Tryz.ntmps23
      go_wp2_with fail
      rw [← HW.out]
      refine HGET.out.mono ?_
      rintro e w1 ⟨A2, m2, C2, rfl, hm2, hc2, hn2, hr2, hb2⟩
      obtain ⟨wc, hwc⟩ : ∃ wc, wc = w1.alloc (unitObj k lb nb A2 m2 C2) := ⟨_, rfl⟩
      have hb3 : Below w1.heap.size w1 wc := by rw [hwc]; exact (Below.refl _ _).alloc (Nat.le_refl _) _
      have hbc := hb2.trans (hb3.mono hb2.size)
      have hY : wc.heap[w1.heap.size]? = some (unitObj k lb nb A2 m2 C2) := by rw [hwc]; exact Go.Deep.blk_alloc_new _ _
      have hZ := (hbc.block _ (heap_lt HU.out)).trans HU.out
      have hT3 := below_tape hbc HT.out
      obtain ⟨t0', t1', t2', t3'⟩ := tape4 hT3
      obtain ⟨z0, z1, z2, z3⟩ := unit4 hZ
      obtain ⟨x0, x1, x2, x3⟩ := unit4 hY
      have y0 : wc.frozen? ⟨w.heap.size + 1, 0, none⟩ = false := heap_frozen hZ
      have y1 : wc.frozen? ⟨w.heap.size + 1, 1, none⟩ = false := heap_frozen hZ
      have y2 : wc.frozen? ⟨w.heap.size + 1, 2, none⟩ = false := heap_frozen hZ
      have y3 : wc.frozen? ⟨w.heap.size + 1, 3, none⟩ = false := heap_frozen hZ
      have HR2 : Hid (RdL wc A2 ld (fun x => w.heap.size ≤ x ∧ x ≠ w.heap.size + 1)) := Lib.hid ((hr2.old hb3).mono fun x hx => by
        have h1 : w.heap.size + 2 ≤ wb.heap.size := by have := heap_lt HU.out; omega
        have h2 : wb.heap.size ≤ x := hx
        omega)
      have HB3 := Lib.hid (HB.out.trans (hbc.mono HB.out.size))
      have HM2 := Lib.hid hm2
      have HN2 := Lib.hid hn2
      have HWC := Lib.hid hwc
      unfold unitObj at HWC
      obtain ⟨y, hy⟩ : ∃ y, y = w1.heap.size := ⟨_, rfl⟩
      rw [← hy] at x0 x1 x2 x3
      have HY := Lib.hid hy
      have hZ2 := Lib.hid hZ
      clear hb2 hb3 hbc hZ hT3 hr2 hm2 hn2 hwc hY hy t0 t1 t2 t3 x0 x1 x2 x3
      rw [HWC.out] at z0 z1 z2 z3 y0 y1 y2 y3 t0' t1' t2' t3'
      go_wp2
      rw [← HWC.out]
      clear z0 z1 z2 z3
      obtain ⟨z0, z1, z2, z3⟩ := unit4 hZ2.out
      exact bodyPost_ret (v := .tuple #[.agg #[.int .i64 0, .int .i64 0, .int .i64 0, .slice none 0 0], .bool false]) (by simp [results, Tryz.results23, go_sem, z0, z1, z2, z3]) rfl (GoodA.stored (u := Fm.zero) (by rw [HRES.out]; rfl) (by rw [HRES.out]; rfl) (by omega) (RdL.empty _ _ _) rfl (Nat.le_refl _) (fun _ => ⟨rfl, rfl⟩) HB3.out)
theorem refGood_any (lab cap : Int) (bs : List Tx) (A : Option Addr) (L C : Nat) (G : Nat → Prop) (lost : Bool) (n : Int) (w : World) (hL : L = bs.length) (hr : RdB w A bs G) (hl : ∀ s ∈ bs, s.length ≤ 1000) :
    Calls Tryz.prog 23 #[.agg #[.int .i64 lab, .int .i64 cap, .slice A L C, .bool lost], .int .i64 n] w (GoodA (Vo.goodZ ⟨lab, bs, lost⟩ n) w) := by
  by_cases h : lost = true ∨ n < 0 ∨ (bs.length : Int) ≤ n
  · exact refGood_out lab cap bs A L C lost n w hL h
  · have h1 : lost = false := by cases lost with
      | true => exact absurd (.inl rfl) h
      | false => rfl
    subst h1
    have h2 : 0 ≤ n ∧ n < (bs.length : Int) := by
      constructor
      · rcases Int.lt_or_le n 0 with h' | h'
        · exact absurd (.inr (.inl h')) h
        · exact h'
      · rcases Int.lt_or_le n (bs.length : Int) with h' | h'
        · exact h'
        · exact absurd (.inr (.inr h')) h
    obtain ⟨m, rfl⟩ : ∃ m : Nat, n = (m : Int) := ⟨n.toNat, by omega⟩
    have h3 : Vo.goodZ ⟨lab, bs, false⟩ (m : Int) = Vo.good ⟨lab, bs, false⟩ m := by
      unfold Vo.goodZ
      rw [if_neg (by omega)]; rfl
    rw [h3]
    exact refGood_in lab cap bs A L C G m w hL hr (by omega) hl
end Go.Proofs.YtcokmmanajdioaaGreat
namespace Go.Proofs.YtcokmmanajdioaaGreat
open Go.RowKit
open Pt (Tx)

set_option maxHeartbeats 2000000 in
theorem refSeal_no1 (n x d p : Int) (A : Option Addr) (l : List Int) (m C : Nat) (w : World) (hm : m = l.length) (hCm : m ≤ maxLen)  (h : n < 1) :
    Calls Tryz.prog 24 #[.agg #[.int .i64 n, .int .i64 x, .int .i64 d, .int .i64 p, .slice A m C]] w (AnsB (decide (Rc.SOk ⟨n, x, d, p, l⟩)) w) := by
  have HB0 : Hid (Below w.heap.size w (w.alloc (sealObj n x d p A m C))) := Lib.hid ((Below.refl _ _).alloc (Nat.le_refl _) _)
  have HU0 : Hid ((w.alloc (sealObj n x d p A m C)).heap[w.heap.size]? = some (sealObj n x d p A m C)) := Lib.hid (Go.Deep.blk_alloc_new _ _)
  have hmb : m ≤ 9223372036854775807 := by unfold maxLen at hCm; omega
  have HM := Lib.hid hm
  have HF : Hid (decide (Rc.SOk ⟨n, x, d, p, l⟩) = false) := Lib.hid (decide_eq_false fun hk => by
    obtain ⟨⟨⟨k1, k2⟩, k3, k4, k5, k6, k7, k8⟩, -⟩ := hk
    simp only at k1 k2 k3 k4 k5 k6 k7 k8
    omega)
  have q1 : decide (n < 1) = true := decide_eq_true h
  clear h hm hCm
  obtain ⟨a0, a1, a2, a3, a4⟩ := seal5 HU0.out
  unfold sealObj at a0 a1 a2 a3 a4
  go_enter Tryz.func24, Tryz.ntmps24
  go_wp2
  all_goals go_ret
  all_goals rw [HF.out]
  all_goals exact ⟨rfl, HB0.out⟩
set_option maxHeartbeats 2000000 in
theorem refSeal_no2 (n x d p : Int) (A : Option Addr) (l : List Int) (m C : Nat) (w : World) (hm : m = l.length) (hCm : m ≤ maxLen) (c1 : ¬ n < 1) (h : 1073741824 < n) :
    Calls Tryz.prog 24 #[.agg #[.int .i64 n, .int .i64 x, .int .i64 d, .int .i64 p, .slice A m C]] w (AnsB (decide (Rc.SOk ⟨n, x, d, p, l⟩)) w) := by
  have HB0 : Hid (Below w.heap.size w (w.alloc (sealObj n x d p A m C))) := Lib.hid ((Below.refl _ _).alloc (Nat.le_refl _) _)
  have HU0 : Hid ((w.alloc (sealObj n x d p A m C)).heap[w.heap.size]? = some (sealObj n x d p A m C)) := Lib.hid (Go.Deep.blk_alloc_new _ _)
  have hmb : m ≤ 9223372036854775807 := by unfold maxLen at hCm; omega
  have HM := Lib.hid hm
  have HF : Hid (decide (Rc.SOk ⟨n, x, d, p, l⟩) = false) := Lib.hid (decide_eq_false fun hk => by
    obtain ⟨⟨⟨k1, k2⟩, k3, k4, k5, k6, k7, k8⟩, -⟩ := hk
    simp only at k1 k2 k3 k4 k5 k6 k7 k8
    omega)
  have q1 : decide (n < 1) = false := decide_eq_false c1
  have q2 : decide (1073741824 < n) = true := decide_eq_true h
  clear c1 h hm hCm
  obtain ⟨a0, a1, a2, a3, a4⟩ := seal5 HU0.out
  unfold sealObj at a0 a1 a2 a3 a4
  go_enter Tryz.func24, Tryz.ntmps24
  go_wp2
  all_goals go_ret
  all_goals rw [HF.out]
  all_goals exact ⟨rfl, HB0.out⟩
set_option maxHeartbeats 2000000 in
theorem refSeal_no3 (n x d p : Int) (A : Option Addr) (l : List Int) (m C : Nat) (w : World) (hm : m = l.length) (hCm : m ≤ maxLen) (c1 : ¬ n < 1) (c2 : ¬ 1073741824 < n) (h : d < 1) :
    Calls Tryz.prog 24 #[.agg #[.int .i64 n, .int .i64 x, .int .i64 d, .int .i64 p, .slice A m C]] w (AnsB (decide (Rc.SOk ⟨n, x, d, p, l⟩)) w) := by
  have HB0 : Hid (Below w.heap.size w (w.alloc (sealObj n x d p A m C))) := Lib.hid ((Below.refl _ _).alloc (Nat.le_refl _) _)
  have HU0 : Hid ((w.alloc (sealObj n x d p A m C)).heap[w.heap.size]? = some (sealObj n x d p A m C)) := Lib.hid (Go.Deep.blk_alloc_new _ _)
  have hmb : m ≤ 9223372036854775807 := by unfold maxLen at hCm; omega
  have HM := Lib.hid hm
  have HF : Hid (decide (Rc.SOk ⟨n, x, d, p, l⟩) = false) := Lib.hid (decide_eq_false fun hk => by
    obtain ⟨⟨⟨k1, k2⟩, k3, k4, k5, k6, k7, k8⟩, -⟩ := hk
    simp only at k1 k2 k3 k4 k5 k6 k7 k8
    omega)
  have q1 : decide (n < 1) = false := decide_eq_false c1
  have q2 : decide (1073741824 < n) = false := decide_eq_false c2
  have q3 : decide (d < 1) = true := decide_eq_true h
  clear c1 c2 h hm hCm
  obtain ⟨a0, a1, a2, a3, a4⟩ := seal5 HU0.out
  unfold sealObj at a0 a1 a2 a3 a4
  go_enter Tryz.func24, Tryz.ntmps24
  go_wp2
  all_goals go_ret
  all_goals rw [HF.out]
  all_goals exact ⟨rfl, HB0.out⟩
set_option maxHeartbeats 2000000 in
theorem refSeal_no4 (n x d p : Int) (A : Option Addr) (l : List Int) (m C : Nat) (w : World) (hm : m = l.length) (hCm : m ≤ maxLen) (c1 : ¬ n < 1) (c2 : ¬ 1073741824 < n) (c3 : ¬ d < 1) (h : p < 1) :
    Calls Tryz.prog 24 #[.agg #[.int .i64 n, .int .i64 x, .int .i64 d, .int .i64 p, .slice A m C]] w (AnsB (decide (Rc.SOk ⟨n, x, d, p, l⟩)) w) := by
  have HB0 : Hid (Below w.heap.size w (w.alloc (sealObj n x d p A m C))) := Lib.hid ((Below.refl _ _).alloc (Nat.le_refl _) _)
  have HU0 : Hid ((w.alloc (sealObj n x d p A m C)).heap[w.heap.size]? = some (sealObj n x d p A m C)) := Lib.hid (Go.Deep.blk_alloc_new _ _)
  have hmb : m ≤ 9223372036854775807 := by unfold maxLen at hCm; omega
  have HM := Lib.hid hm
  have HF : Hid (decide (Rc.SOk ⟨n, x, d, p, l⟩) = false) := Lib.hid (decide_eq_false fun hk => by
    obtain ⟨⟨⟨k1, k2⟩, k3, k4, k5, k6, k7, k8⟩, -⟩ := hk
    simp only at k1 k2 k3 k4 k5 k6 k7 k8
    omega)
  have q1 : decide (n < 1) = false := decide_eq_false c1
  have q2 : decide (1073741824 < n) = false := decide_eq_false c2
  have q3 : decide (d < 1) = false := decide_eq_false c3
  have q4 : decide (p < 1) = true := decide_eq_true h
  clear c1 c2 c3 h hm hCm
  obtain ⟨a0, a1, a2, a3, a4⟩ := seal5 HU0.out
  unfold sealObj at a0 a1 a2 a3 a4
  go_enter Tryz.func24, Tryz.ntmps24
  go_wp2
  all_goals go_ret
  all_goals rw [HF.out]
  all_goals exact ⟨rfl, HB0.out⟩
set_option maxHeartbeats 2000000 in
theorem refSeal_no5 (n x d p : Int) (A : Option Addr) (l : List Int) (m C : Nat) (w : World) (hm : m = l.length) (hCm : m ≤ maxLen) (c1 : ¬ n < 1) (c2 : ¬ 1073741824 < n) (c3 : ¬ d < 1) (c4 : ¬ p < 1) (h : 14 < d) :
    Calls Tryz.prog 24 #[.agg #[.int .i64 n, .int .i64 x, .int .i64 d, .int .i64 p, .slice A m C]] w (AnsB (decide (Rc.SOk ⟨n, x, d, p, l⟩)) w) := by
  have HB0 : Hid (Below w.heap.size w (w.alloc (sealObj n x d p A m C))) := Lib.hid ((Below.refl _ _).alloc (Nat.le_refl _) _)
  have HU0 : Hid ((w.alloc (sealObj n x d p A m C)).heap[w.heap.size]? = some (sealObj n x d p A m C)) := Lib.hid (Go.Deep.blk_alloc_new _ _)
  have hmb : m ≤ 9223372036854775807 := by unfold maxLen at hCm; omega
  have HM := Lib.hid hm
  have HF : Hid (decide (Rc.SOk ⟨n, x, d, p, l⟩) = false) := Lib.hid (decide_eq_false fun hk => by
    obtain ⟨⟨⟨k1, k2⟩, k3, k4, k5, k6, k7, k8⟩, -⟩ := hk
    simp only at k1 k2 k3 k4 k5 k6 k7 k8
    omega)
  have q1 : decide (n < 1) = false := decide_eq_false c1
  have q2 : decide (1073741824 < n) = false := decide_eq_false c2
  have q3 : decide (d < 1) = false := decide_eq_false c3
  have q4 : decide (p < 1) = false := decide_eq_false c4
  have q5 : decide (14 < d) = true := decide_eq_true h
  clear c1 c2 c3 c4 h hm hCm
  obtain ⟨a0, a1, a2, a3, a4⟩ := seal5 HU0.out
  unfold sealObj at a0 a1 a2 a3 a4
  go_enter Tryz.func24, Tryz.ntmps24
  go_wp2
  all_goals go_ret
  all_goals rw [HF.out]
  all_goals exact ⟨rfl, HB0.out⟩
end Go.Proofs.YtcokmmanajdioaaGreat
namespace Go.Proofs.YtcokmmanajdioaaGreat
open Go.RowKit
open Pt (Tx)

set_option maxHeartbeats 2000000 in
theorem refSeal_no6 (n x d p : Int) (A : Option Addr) (l : List Int) (m C : Nat) (w : World) (hm : m = l.length) (hCm : m ≤ maxLen) (c1 : ¬ n < 1) (c2 : ¬ 1073741824 < n) (c3 : ¬ d < 1) (c4 : ¬ p < 1) (c5 : ¬ 14 < d) (h : 14 < p) :
    Calls Tryz.prog 24 #[.agg #[.int .i64 n, .int .i64 x, .int .i64 d, .int .i64 p, .slice A m C]] w (AnsB (decide (Rc.SOk ⟨n, x, d, p, l⟩)) w) := by
  have HB0 : Hid (Below w.heap.size w (w.alloc (sealObj n x d p A m C))) := Lib.hid ((Below.refl _ _).alloc (Nat.le_refl _) _)
  have HU0 : Hid ((w.alloc (sealObj n x d p A m C)).heap[w.heap.size]? = some (sealObj n x d p A m C)) := Lib.hid (Go.Deep.blk_alloc_new _ _)
  have hmb : m ≤ 9223372036854775807 := by unfold maxLen at hCm; omega
  have HM := Lib.hid hm
  have HF : Hid (decide (Rc.SOk ⟨n, x, d, p, l⟩) = false) := Lib.hid (decide_eq_false fun hk => by
    obtain ⟨⟨⟨k1, k2⟩, k3, k4, k5, k6, k7, k8⟩, -⟩ := hk
    simp only at k1 k2 k3 k4 k5 k6 k7 k8
    omega)
  have q1 : decide (n < 1) = false := decide_eq_false c1
  have q2 : decide (1073741824 < n) = false := decide_eq_false c2
  have q3 : decide (d < 1) = false := decide_eq_false c3
  have q4 : decide (p < 1) = false := decide_eq_false c4
  have q5 : decide (14 < d) = false := decide_eq_false c5
  have q6 : decide (14 < p) = true := decide_eq_true h
  clear c1 c2 c3 c4 c5 h hm hCm
  obtain ⟨a0, a1, a2, a3, a4⟩ := seal5 HU0.out
  unfold sealObj at a0 a1 a2 a3 a4
  go_enter Tryz.func24, Tryz.ntmps24
  go_wp2
  all_goals go_ret
  all_goals rw [HF.out]
  all_goals exact ⟨rfl, HB0.out⟩
set_option maxHeartbeats 2000000 in
theorem refSeal_no7 (n x d p : Int) (A : Option Addr) (l : List Int) (m C : Nat) (w : World) (hm : m = l.length) (hCm : m ≤ maxLen) (c1 : ¬ n < 1) (c2 : ¬ 1073741824 < n) (c3 : ¬ d < 1) (c4 : ¬ p < 1) (c5 : ¬ 14 < d) (c6 : ¬ 14 < p) (h : 14 < d + p) :
    Calls Tryz.prog 24 #[.agg #[.int .i64 n, .int .i64 x, .int .i64 d, .int .i64 p, .slice A m C]] w (AnsB (decide (Rc.SOk ⟨n, x, d, p, l⟩)) w) := by
  have HB0 : Hid (Below w.heap.size w (w.alloc (sealObj n x d p A m C))) := Lib.hid ((Below.refl _ _).alloc (Nat.le_refl _) _)
  have HU0 : Hid ((w.alloc (sealObj n x d p A m C)).heap[w.heap.size]? = some (sealObj n x d p A m C)) := Lib.hid (Go.Deep.blk_alloc_new _ _)
  have hmb : m ≤ 9223372036854775807 := by unfold maxLen at hCm; omega
  have HM := Lib.hid hm
  have HF : Hid (decide (Rc.SOk ⟨n, x, d, p, l⟩) = false) := Lib.hid (decide_eq_false fun hk => by
    obtain ⟨⟨⟨k1, k2⟩, k3, k4, k5, k6, k7, k8⟩, -⟩ := hk
    simp only at k1 k2 k3 k4 k5 k6 k7 k8
    omega)
  have q1 : decide (n < 1) = false := decide_eq_false c1
  have q2 : decide (1073741824 < n) = false := decide_eq_false c2
  have q3 : decide (d < 1) = false := decide_eq_false c3
  have q4 : decide (p < 1) = false := decide_eq_false c4
  have q5 : decide (14 < d) = false := decide_eq_false c5
  have q6 : decide (14 < p) = false := decide_eq_false c6
  have q7 : decide (14 < d + p) = true := decide_eq_true h
  have hd0 : 1 ≤ d := by omega
  have hd1 : d ≤ 14 := by omega
  have hp0 : 1 ≤ p := by omega
  have hp1 : p ≤ 14 := by omega
  clear c1 c2 c3 c4 c5 c6 h hm hCm
  obtain ⟨a0, a1, a2, a3, a4⟩ := seal5 HU0.out
  unfold sealObj at a0 a1 a2 a3 a4
  go_enter Tryz.func24, Tryz.ntmps24
  go_wp2
  all_goals go_ret
  all_goals rw [HF.out]
  all_goals exact ⟨rfl, HB0.out⟩
set_option maxHeartbeats 2000000 in
theorem refSeal_no8 (n x d p : Int) (A : Option Addr) (l : List Int) (m C : Nat) (w : World) (hm : m = l.length) (hCm : m ≤ maxLen) (c1 : ¬ n < 1) (c2 : ¬ 1073741824 < n) (c3 : ¬ d < 1) (c4 : ¬ p < 1) (c5 : ¬ 14 < d) (c6 : ¬ 14 < p) (c7 : ¬ 14 < d + p) (h : ¬ (m : Int) = d + p) :
    Calls Tryz.prog 24 #[.agg #[.int .i64 n, .int .i64 x, .int .i64 d, .int .i64 p, .slice A m C]] w (AnsB (decide (Rc.SOk ⟨n, x, d, p, l⟩)) w) := by
  have HB0 : Hid (Below w.heap.size w (w.alloc (sealObj n x d p A m C))) := Lib.hid ((Below.refl _ _).alloc (Nat.le_refl _) _)
  have HU0 : Hid ((w.alloc (sealObj n x d p A m C)).heap[w.heap.size]? = some (sealObj n x d p A m C)) := Lib.hid (Go.Deep.blk_alloc_new _ _)
  have hmb : m ≤ 9223372036854775807 := by unfold maxLen at hCm; omega
  have HM := Lib.hid hm
  have HF : Hid (decide (Rc.SOk ⟨n, x, d, p, l⟩) = false) := Lib.hid (decide_eq_false fun hk => by
    obtain ⟨⟨⟨k1, k2⟩, k3, k4, k5, k6, k7, k8⟩, -⟩ := hk
    simp only at k1 k2 k3 k4 k5 k6 k7 k8
    omega)
  have q1 : decide (n < 1) = false := decide_eq_false c1
  have q2 : decide (1073741824 < n) = false := decide_eq_false c2
  have q3 : decide (d < 1) = false := decide_eq_false c3
  have q4 : decide (p < 1) = false := decide_eq_false c4
  have q5 : decide (14 < d) = false := decide_eq_false c5
  have q6 : decide (14 < p) = false := decide_eq_false c6
  have q7 : decide (14 < d + p) = false := decide_eq_false c7
  have q8 : (((m : Int)) == d + p) = false := beq_eq_false_iff_ne.2 h
  have q8b : ((m : Int) != d + p) = true := bne_iff_ne.2 h
  have hd0 : 1 ≤ d := by omega
  have hd1 : d ≤ 14 := by omega
  have hp0 : 1 ≤ p := by omega
  have hp1 : p ≤ 14 := by omega
  clear c1 c2 c3 c4 c5 c6 c7 h hm hCm
  obtain ⟨a0, a1, a2, a3, a4⟩ := seal5 HU0.out
  unfold sealObj at a0 a1 a2 a3 a4
  go_enter Tryz.func24, Tryz.ntmps24
  go_wp2
  all_goals go_ret
  all_goals rw [HF.out]
  all_goals exact ⟨rfl, HB0.out⟩
set_option maxHeartbeats 2000000 in
theorem refSeal_no9 (n x d p : Int) (A : Option Addr) (l : List Int) (m C : Nat) (w : World) (hm : m = l.length) (hCm : m ≤ maxLen) (c1 : ¬ n < 1) (c2 : ¬ 1073741824 < n) (c3 : ¬ d < 1) (c4 : ¬ p < 1) (c5 : ¬ 14 < d) (c6 : ¬ 14 < p) (c7 : ¬ 14 < d + p) (c8 : (m : Int) = d + p) (h : x < 0) :
    Calls Tryz.prog 24 #[.agg #[.int .i64 n, .int .i64 x, .int .i64 d, .int .i64 p, .slice A m C]] w (AnsB (decide (Rc.SOk ⟨n, x, d, p, l⟩)) w) := by
  have HB0 : Hid (Below w.heap.size w (w.alloc (sealObj n x d p A m C))) := Lib.hid ((Below.refl _ _).alloc (Nat.le_refl _) _)
  have HU0 : Hid ((w.alloc (sealObj n x d p A m C)).heap[w.heap.size]? = some (sealObj n x d p A m C)) := Lib.hid (Go.Deep.blk_alloc_new _ _)
  have hmb : m ≤ 9223372036854775807 := by unfold maxLen at hCm; omega
  have HM := Lib.hid hm
  have HF : Hid (decide (Rc.SOk ⟨n, x, d, p, l⟩) = false) := Lib.hid (decide_eq_false fun hk => by
    obtain ⟨⟨⟨k1, k2⟩, k3, k4, k5, k6, k7, k8⟩, -⟩ := hk
    simp only at k1 k2 k3 k4 k5 k6 k7 k8
    omega)
  have q1 : decide (n < 1) = false := decide_eq_false c1
  have q2 : decide (1073741824 < n) = false := decide_eq_false c2
  have q3 : decide (d < 1) = false := decide_eq_false c3
  have q4 : decide (p < 1) = false := decide_eq_false c4
  have q5 : decide (14 < d) = false := decide_eq_false c5
  have q6 : decide (14 < p) = false := decide_eq_false c6
  have q7 : decide (14 < d + p) = false := decide_eq_false c7
  have q8 : ((m : Int) == d + p) = true := beq_iff_eq.2 c8
  have q8b : ((m : Int) != d + p) = false := by rw [bne, q8]; rfl
  have q9 : decide (x < 0) = true := decide_eq_true h
  have hd0 : 1 ≤ d := by omega
  have hd1 : d ≤ 14 := by omega
  have hp0 : 1 ≤ p := by omega
  have hp1 : p ≤ 14 := by omega
  clear c1 c2 c3 c4 c5 c6 c7 c8 h hm hCm
  obtain ⟨a0, a1, a2, a3, a4⟩ := seal5 HU0.out
  unfold sealObj at a0 a1 a2 a3 a4
  go_enter Tryz.func24, Tryz.ntmps24
  go_wp2
  all_goals go_ret
  all_goals rw [HF.out]
  all_goals exact ⟨rfl, HB0.out⟩
set_option maxHeartbeats 2000000 in
theorem refSeal_no10 (n x d p : Int) (A : Option Addr) (l : List Int) (m C : Nat) (w : World) (hm : m = l.length) (hCm : m ≤ maxLen) (c1 : ¬ n < 1) (c2 : ¬ 1073741824 < n) (c3 : ¬ d < 1) (c4 : ¬ p < 1) (c5 : ¬ 14 < d) (c6 : ¬ 14 < p) (c7 : ¬ 14 < d + p) (c8 : (m : Int) = d + p) (c9 : ¬ x < 0) (h : (m : Int) ≤ x) :
    Calls Tryz.prog 24 #[.agg #[.int .i64 n, .int .i64 x, .int .i64 d, .int .i64 p, .slice A m C]] w (AnsB (decide (Rc.SOk ⟨n, x, d, p, l⟩)) w) := by
  have HB0 : Hid (Below w.heap.size w (w.alloc (sealObj n x d p A m C))) := Lib.hid ((Below.refl _ _).alloc (Nat.le_refl _) _)
  have HU0 : Hid ((w.alloc (sealObj n x d p A m C)).heap[w.heap.size]? = some (sealObj n x d p A m C)) := Lib.hid (Go.Deep.blk_alloc_new _ _)
  have hmb : m ≤ 9223372036854775807 := by unfold maxLen at hCm; omega
  have HM := Lib.hid hm
  have HF : Hid (decide (Rc.SOk ⟨n, x, d, p, l⟩) = false) := Lib.hid (decide_eq_false fun hk => by
    obtain ⟨⟨⟨k1, k2⟩, k3, k4, k5, k6, k7, k8⟩, -⟩ := hk
    simp only at k1 k2 k3 k4 k5 k6 k7 k8
    omega)
  have q1 : decide (n < 1) = false := decide_eq_false c1
  have q2 : decide (1073741824 < n) = false := decide_eq_false c2
  have q3 : decide (d < 1) = false := decide_eq_false c3
  have q4 : decide (p < 1) = false := decide_eq_false c4
  have q5 : decide (14 < d) = false := decide_eq_false c5
  have q6 : decide (14 < p) = false := decide_eq_false c6
  have q7 : decide (14 < d + p) = false := decide_eq_false c7
  have q8 : ((m : Int) == d + p) = true := beq_iff_eq.2 c8
  have q8b : ((m : Int) != d + p) = false := by rw [bne, q8]; rfl
  have q9 : decide (x < 0) = false := decide_eq_false c9
  have q10 : decide ((m : Int) ≤ x) = true := decide_eq_true h
  have hd0 : 1 ≤ d := by omega
  have hd1 : d ≤ 14 := by omega
  have hp0 : 1 ≤ p := by omega
  have hp1 : p ≤ 14 := by omega
  clear c1 c2 c3 c4 c5 c6 c7 c8 c9 h hm hCm
  obtain ⟨a0, a1, a2, a3, a4⟩ := seal5 HU0.out
  unfold sealObj at a0 a1 a2 a3 a4
  go_enter Tryz.func24, Tryz.ntmps24
  go_wp2
  all_goals go_ret
  all_goals rw [HF.out]
  all_goals exact ⟨rfl, HB0.out⟩
end Go.Proofs.YtcokmmanajdioaaGreat
namespace Go.Proofs.YtcokmmanajdioaaGreat
open Go.RowKit
open Pt (Tx)

/-- what lies where the call laid it, and all that was there is as it was -/
def Sits (w : World) (o : Obj) (x : World) : Prop := x.heap[w.heap.size]? = some o ∧ Below w.heap.size w x
theorem mem_take_iff {l : List Int} {k : Nat} (h : k < l.length) (x : Int) : x ∈ l.take (k + 1) ↔ x ∈ l.take k ∨ x = l[k] := by
  rw [List.take_succ_eq_append_getElem h, List.mem_append, List.mem_singleton]
theorem dup_bad {l : List Int} {i k : Nat} (hi : i < l.length) (hk : k < i) (h : l[k]'(by omega) = l[i]) : ¬ Rc.Labs l :=
  Rc.labs_step_no hi fun h' => h'.2 (by
    rw [← h]
    have hk' : k < (l.take i).length := by rw [List.length_take]; omega
    have := List.getElem_mem hk'
    rwa [List.getElem_take] at this)
theorem labs_row {l : List Int} {i : Nat} (hi : i < l.length) (hl : Rc.Labs (l.take i)) (h1 : 1 ≤ l[i]) (h2 : l[i] ≤ 2147483647) (h : l[i] ∉ l.take i) : Rc.Labs (l.take (i + 1)) := (Rc.labs_take hi).2 ⟨hl, ⟨h1, h2⟩, h⟩
set_option maxRecDepth 100000 in
set_option maxHeartbeats 8000000 in
theorem refSeal_yes (n x d p : Int) (A : Option Addr) (l : List Int) (m C : Nat) (G : Nat → Prop) (w : World) (hm : m = l.length) (hCm : m ≤ maxLen) (hr : RdZ w A l G) (hs : Rc.SNums ⟨n, x, d, p, l⟩) :
    Calls Tryz.prog 24 #[.agg #[.int .i64 n, .int .i64 x, .int .i64 d, .int .i64 p, .slice A m C]] w (AnsB (decide (Rc.SOk ⟨n, x, d, p, l⟩)) w) := by
  have HB0 : Hid (Below w.heap.size w (w.alloc (sealObj n x d p A m C))) := Lib.hid ((Below.refl _ _).alloc (Nat.le_refl _) _)
  have HU0 : Hid ((w.alloc (sealObj n x d p A m C)).heap[w.heap.size]? = some (sealObj n x d p A m C)) := Lib.hid (Go.Deep.blk_alloc_new _ _)
  have hmb : m ≤ 9223372036854775807 := by unfold maxLen at hCm; omega
  have HM := Lib.hid hm
  have HD : Hid (decide (Rc.SOk ⟨n, x, d, p, l⟩) = decide (Rc.Labs l)) := Lib.hid (by
    rw [Bool.eq_iff_iff, decide_eq_true_eq, decide_eq_true_eq]
    exact ⟨fun h => h.2, fun h => ⟨hs, h⟩⟩)
  obtain ⟨⟨k1, k2⟩, k3, k4, k5, k6, k7, k8⟩ := hs
  simp only at k1 k2 k3 k4 k5 k6 k7 k8
  rw [← hm] at k6 k8
  have q1 : decide (n < 1) = false := decide_eq_false (by omega)
  have q2 : decide (1073741824 < n) = false := decide_eq_false (by omega)
  have q3 : decide (d < 1) = false := decide_eq_false (by omega)
  have q4 : decide (p < 1) = false := decide_eq_false (by omega)
  have q5 : decide (14 < d) = false := decide_eq_false (by omega)
  have q6 : decide (14 < p) = false := decide_eq_false (by omega)
  have q7 : decide (14 < d + p) = false := decide_eq_false (by omega)
  have q8 : ((m : Int) == d + p) = true := beq_iff_eq.2 k6
  have q8b : ((m : Int) != d + p) = false := by rw [bne, q8]; rfl
  have q9 : decide (x < 0) = false := decide_eq_false (by omega)
  have q10 : decide ((m : Int) ≤ x) = false := decide_eq_false (by omega)
  have hd0 : 1 ≤ d := k3
  have hd1 : d ≤ 14 := by omega
  have hp0 : 1 ≤ p := k4
  have hp1 : p ≤ 14 := by omega
  have hm14 : m ≤ 14 := by omega
  have HR := Lib.hid hr
  have HS0 : Hid (Sits w (sealObj n x d p A m C) (w.alloc (sealObj n x d p A m C))) := Lib.hid ⟨HU0.out, HB0.out⟩
  clear k1 k2 k3 k4 k5 k6 k7 k8 hm hr hCm
  obtain ⟨a0, a1, a2, a3, a4⟩ := seal5 HU0.out
  unfold sealObj at a0 a1 a2 a3 a4
  go_enter Tryz.func24, Tryz.ntmps24
  go_wp2
  clear q1 q2 q3 q4 q5 q6 q7 q8 q8b q9 q10 hd0 hd1 hp0 hp1 a0 a1 a2 a3 a4
  go_loopw [3] (fun vi wr => ∃ k : Nat, k ≤ m ∧ vi = .int .i64 (k : Int) ∧ Hid (Rc.Labs (l.take k)) ∧ Hid (Sits w (sealObj n x d p A m C) wr)) (fun vi _ => m - (intOf vi).toNat)
  case atStart => exact ⟨0, Nat.zero_le _, rfl, Lib.hid Rc.Labs.nil, HS0⟩
  case round =>
    obtain ⟨k, hk, rfl, HK, HSI⟩ := hrel
    obtain ⟨wo, rfl⟩ : ∃ x, x = wr := ⟨wr, rfl⟩
    obtain ⟨a0, a1, a2, a3, a4⟩ := seal5 HSI.out.1
    by_cases hlt : k < m
    · have hlt' : k < l.length := by rw [← HM.out]; exact hlt
      obtain ⟨b, off, rfl, -, hc⟩ := (HR.out.old HSI.out.2).at_ hlt'
      have HZ : Hid (¬ ((1 ≤ l[k] ∧ l[k] ≤ 2147483647) ∧ l[k] ∉ l.take k) → decide (Rc.SOk ⟨n, x, d, p, l⟩) = false) := Lib.hid fun h => by rw [HD.out]; exact decide_eq_false (Rc.labs_step_no hlt' h)
      have HRW := Lib.hid (fun h1 h2 h => labs_row hlt' HK.out h1 h2 h)
      obtain ⟨y, hy⟩ : ∃ y, y = l[k] := ⟨_, rfl⟩
      rw [← hy] at hc HZ HRW
      have HY := Lib.hid hy
      clear hy
      by_cases c1 : y < 1
      · have q1 : decide (y < 1) = true := decide_eq_true c1
        have HF := Lib.hid (HZ.out fun h => by omega)
        clear c1
        go_wp2
        all_goals go_ret
        all_goals rw [HF.out]
        all_goals exact ⟨rfl, HSI.out.2⟩
      have q1 : decide (y < 1) = false := decide_eq_false c1
      by_cases c2 : 2147483647 < y
      · have q2 : decide (2147483647 < y) = true := decide_eq_true c2
        have HF := Lib.hid (HZ.out fun h => by omega)
        clear c1 c2
        go_wp2
        all_goals go_ret
        all_goals rw [HF.out]
        all_goals exact ⟨rfl, HSI.out.2⟩
      have q2 : decide (2147483647 < y) = false := decide_eq_false c2
      have HRW2 : Hid (y ∉ l.take k → Rc.Labs (l.take (k + 1))) := Lib.hid (HRW.out (by omega) (by omega))
      clear c1 c2
      go_wp2
      clear q1 q2 a0 a1 a2 a3 a4 hc
      go_loopw [4] (fun vj wr => ∃ j : Nat, j ≤ k ∧ vj = .int .i64 (j : Int) ∧ Hid (y ∉ l.take j) ∧ Hid (Sits w (sealObj n x d p (some ⟨b, off, none⟩) m C) wr)) (fun vj _ => k - (intOf vj).toNat)
      case atStart => exact ⟨0, Nat.zero_le _, rfl, Lib.hid (by simp), HSI⟩
      case round =>
        obtain ⟨j, hj, rfl, HJ, HSJ⟩ := hrel
        obtain ⟨a0, a1, a2, a3, a4⟩ := seal5 HSJ.out.1
        by_cases hjk : j < k
        · have hjl : j < l.length := by omega
          have hrr := HR.out.old HSJ.out.2
          obtain ⟨b1, off1, e', -, hcj⟩ := hrr.at_ hjl
          obtain ⟨b2, off2, e'', -, hck⟩ := hrr.at_ hlt'
          injection e' with e'
          injection e' with e1 e2
          subst e1 e2
          injection e'' with e''
          injection e'' with e1 e2
          subst e1 e2
          have HS := Lib.hid (mem_take_iff hjl y)
          have HDU : Hid (l[j] = y → decide (Rc.SOk ⟨n, x, d, p, l⟩) = false) := Lib.hid fun h => by rw [HD.out]; exact decide_eq_false (dup_bad hlt' hjk (by rw [h, HY.out]))
          rw [← HY.out] at hck
          obtain ⟨z, hz⟩ : ∃ z, z = l[j] := ⟨_, rfl⟩
          rw [← hz] at hcj HS HDU
          clear hz hrr
          have hjm : j < m := by omega
          have HSD : Hid (Sits w (sealObj n x d p (some ⟨b, off, none⟩) m C) wr.drew) := Lib.hid ⟨HSJ.out.1, HSJ.out.2.drew⟩
          by_cases e : z = y
          · have q : (z == y) = true := beq_iff_eq.2 e
            have HF := Lib.hid (HDU.out e)
            clear e
            go_wp2_with fail
            go_region
            go_wp2
            go_ret
            rw [HF.out]
            exact ⟨rfl, HSD.out.2⟩
          · have q : (z == y) = false := beq_eq_false_iff_ne.2 e
            have HX : Hid (y ∉ l.take (j + 1)) := Lib.hid fun h => (HS.out.1 h).elim HJ.out (fun h => e h.symm)
            clear e
            go_wp2_with fail
            go_region
            go_wp2
            go_roundw
            case rel => exact ⟨j + 1, by omega, by go_num, HX, HSD⟩
            case measure => simp [intOf]; omega
        · have HX : Hid (Rc.Labs (l.take (k + 1))) := Lib.hid (HRW2.out (by have := HJ.out; rwa [show j = k by omega] at this))
          go_wp2
          go_roundw
          case rel => exact ⟨k + 1, by omega, by go_num, HX, HSJ⟩
          case measure => simp [intOf]; omega
    · have HF : Hid (decide (Rc.SOk ⟨n, x, d, p, l⟩) = true) := Lib.hid (by rw [HD.out]; exact decide_eq_true (by have := HK.out; rwa [List.take_of_length_le (by rw [← HM.out]; omega)] at this))
      go_wp2
      go_ret
      rw [HF.out]
      exact ⟨rfl, HSI.out.2⟩
end Go.Proofs.YtcokmmanajdioaaGreat
namespace Go.Proofs.YtcokmmanajdioaaGreat
open Go.RowKit
open Pt (Tx)

theorem refRightSeal_any (n x d p : Int) (A : Option Addr) (l : List Int) (m C : Nat) (G : Nat → Prop) (w : World) (hm : m = l.length) (hC : m ≤ C) (hCm : C ≤ maxLen) (hr : RdZ w A l G) :
    Calls Tryz.prog 24 #[.agg #[.int .i64 n, .int .i64 x, .int .i64 d, .int .i64 p, .slice A m C]] w (AnsB (decide (Rc.SOk ⟨n, x, d, p, l⟩)) w) := by
  have hb : m ≤ maxLen := by omega
  by_cases c1 : n < 1
  · exact refSeal_no1 n x d p A l m C w hm hb  c1
  by_cases c2 : 1073741824 < n
  · exact refSeal_no2 n x d p A l m C w hm hb c1 c2
  by_cases c3 : d < 1
  · exact refSeal_no3 n x d p A l m C w hm hb c1 c2 c3
  by_cases c4 : p < 1
  · exact refSeal_no4 n x d p A l m C w hm hb c1 c2 c3 c4
  by_cases c5 : 14 < d
  · exact refSeal_no5 n x d p A l m C w hm hb c1 c2 c3 c4 c5
  by_cases c6 : 14 < p
  · exact refSeal_no6 n x d p A l m C w hm hb c1 c2 c3 c4 c5 c6
  by_cases c7 : 14 < d + p
  · exact refSeal_no7 n x d p A l m C w hm hb c1 c2 c3 c4 c5 c6 c7
  by_cases c8' : ¬ (m : Int) = d + p
  · exact refSeal_no8 n x d p A l m C w hm hb c1 c2 c3 c4 c5 c6 c7 c8'
  have c8 : (m : Int) = d + p := by omega
  by_cases c9 : x < 0
  · exact refSeal_no9 n x d p A l m C w hm hb c1 c2 c3 c4 c5 c6 c7 c8 c9
  by_cases c10 : (m : Int) ≤ x
  · exact refSeal_no10 n x d p A l m C w hm hb c1 c2 c3 c4 c5 c6 c7 c8 c9 c10
  exact refSeal_yes n x d p A l m C G w hm hb hr ⟨⟨by show 1 ≤ n; omega, by show n ≤ 1073741824; omega⟩, (by show 1 ≤ d; omega), (by show 1 ≤ p; omega), (by show d + p ≤ 14; omega), (by show (l.length : Int) = d + p; omega), (by show 0 ≤ x; omega), (by show x < (l.length : Int); omega)⟩
end Go.Proofs.YtcokmmanajdioaaGreat
