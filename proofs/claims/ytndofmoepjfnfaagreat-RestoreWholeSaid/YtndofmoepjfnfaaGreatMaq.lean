/- What Good of package volume answers. What load of package restore answers, where no group tells of a block. What load of package restore answers, where no group tells of a block: the bytes of a good frame of data of that length, else none. What the search for a label in restore's tapes answers: the place of the first tape that has it. Mending (chapter 15): the members of a group and their rows. No function of the program. -/
import Derived.Test.YtndofmoepjfnfaaGreatMan
import Derived.Test.YtndofmoepjfnfaaGreatMae
import Derived.BigQuiet
import Derived.Deep.QuietTactic
import Derived.Deep.RegionWith
import Derived.Test.YtndofmoepjfnfaaGreatMap
import Derived.Test.YtndofmoepjfnfaaGreatMak
import Derived.Deep.DeepCutAuto
import Derived.Deep.DeepFit
import Derived.IntWalk
import Derived.OwnWalk
import Derived.Handy
import Derived.WalkSpells
import Derived.WalkLawsBesides
import Derived.Test.YtndofmoepjfnfaaGreatMai
namespace Go.Proofs.YtndofmoepjfnfaaGreat
open Go.RowKit
open Pt (Tx)

/-- block n, if it is good, for whatever n -/
def Vo.goodZ (t : Vo.T) (n : Int) : Option Fm.U := if n < 0 then none else Vo.good t n.toNat
/-- what is answered for it -/
def unitOf (o : Option Fm.U) : Fm.U := o.getD Fm.zero
def GoodA (o : Option Fm.U) (w : World) (e : Ending) (w' : World) : Prop :=
  ∃ A m C, e = .returned (.tuple #[.agg #[.int .i64 (unitOf o).kind, .int .i64 (unitOf o).label, .int .i64 (unitOf o).number, .slice A m C], .bool o.isSome]) ∧ m = (unitOf o).load.length ∧ m ≤ C ∧ (A = none → m = 0 ∧ C = 0) ∧ RdL w' A (unitOf o).load (w.heap.size ≤ ·) ∧ Below w.heap.size w w'
theorem GoodA.stored {w w7 : World} {B : Nat} {a0 a1 a2 a3 : Value} {o : Option Fm.U} {u : Fm.U} {b : Bool} {A : Option Addr} {m C : Nat} (hu : unitOf o = u) (he : o.isSome = b) (hB : w.heap.size ≤ B) (hr : RdL w7 A u.load (fun x => w.heap.size ≤ x ∧ x ≠ B)) (hm : m = u.load.length) (hc : m ≤ C) (hn : A = none → m = 0 ∧ C = 0) (hb : Below w.heap.size w w7) :
    GoodA o w (.returned (.tuple #[.agg #[.int .i64 u.kind, .int .i64 u.label, .int .i64 u.number, .slice A m C], .bool b])) ((((w7.setCell ⟨B, 0, none⟩ a0).setCell ⟨B, 1, none⟩ a1).setCell ⟨B, 2, none⟩ a2).setCell ⟨B, 3, none⟩ a3) := by
  have hk : Kp (· = B) w7 ((((w7.setCell ⟨B, 0, none⟩ a0).setCell ⟨B, 1, none⟩ a1).setCell ⟨B, 2, none⟩ a2).setCell ⟨B, 3, none⟩ a3) := (((Kp.store _ _ _ _).trans (Kp.store _ _ _ _)).trans (Kp.store _ _ _ _)).trans (Kp.store _ _ _ _)
  exact ⟨A, m, C, by rw [hu, he], by rw [hu]; exact hm, hc, hn, by rw [hu]; exact (hr.kp hk (fun x hx hx' => hx.2 hx')).mono (fun x hx => hx.1), hb.trans (hk.below hb.size (fun x hx => by omega))⟩
theorem goodZ_no {lab : Int} {bs : List Tx} {lost : Bool} {n : Int} (h : lost = true ∨ n < 0 ∨ (bs.length : Int) ≤ n) : Vo.goodZ ⟨lab, bs, lost⟩ n = none := by
  unfold Vo.goodZ
  split
  · rfl
  · rcases h with h | h | h
    · exact Vo.good_lost h _
    · omega
    · exact Vo.good_end (t := ⟨lab, bs, lost⟩) (by show bs.length ≤ _; omega)
theorem good_is {lab : Int} {bs : List Tx} {n : Nat} (h : n < bs.length) : Vo.good ⟨lab, bs, false⟩ n = if Fm.Good bs[n] ∧ (Fm.parse bs[n]).label = lab ∧ (Fm.parse bs[n]).number = (n : Int) then some (Fm.parse bs[n]) else none := by
  unfold Vo.good
  rw [if_neg (show ¬ (false = true) by decide)]
  show (match bs[n]? with | none => none | some b => if Fm.Good b ∧ (Fm.parse b).label = lab ∧ (Fm.parse b).number = (n : Int) then some (Fm.parse b) else none) = _
  rw [List.getElem?_eq_getElem h]
/-- a tape's block, and an answer's behind it -/
theorem two_blocks {w wb : World} {o1 o2 : Obj} (h : wb = (w.alloc o1).alloc o2) : Below w.heap.size w wb ∧ wb.heap[w.heap.size]? = some o1 ∧ wb.heap[w.heap.size + 1]? = some o2 := by
  have hb1 : Below w.heap.size w (w.alloc o1) := (Below.refl _ _).alloc (Nat.le_refl _) _
  have h1 : (w.alloc o1).heap[w.heap.size]? = some o1 := Go.Deep.blk_alloc_new _ _
  have h2 := Go.Deep.blk_alloc_new (w.alloc o1) o2
  rw [show (w.alloc o1).heap.size = w.heap.size + 1 by simp] at h2
  subst h
  exact ⟨hb1.alloc hb1.size _, (Below.heap_alloc _ _ _ (heap_lt h1)).trans h1, h2⟩
set_option maxHeartbeats 400000 in
theorem good_out (lab cap : Int) (bs : List Tx) (A : Option Addr) (L C : Nat) (lost : Bool) (n : Int) (w : World) (hL : L = bs.length) (h : lost = true ∨ n < 0 ∨ (bs.length : Int) ≤ n) :
    Calls Tryz.prog 57 #[.agg #[.int .i64 lab, .int .i64 cap, .slice A L C, .bool lost], .int .i64 n] w (GoodA (Vo.goodZ ⟨lab, bs, lost⟩ n) w) := by
  have HG := Lib.hid (goodZ_no (lab := lab) h)
  obtain ⟨wb, hwb⟩ : ∃ wb, wb = (w.alloc (tapeObj lab cap A L C lost)).alloc (unitObj 0 0 0 none 0 0) := ⟨_, rfl⟩
  obtain ⟨hB, hT, hU⟩ := two_blocks hwb
  have HB := Lib.hid hB
  have HU := Lib.hid hU
  have HT := Lib.hid hT
  have HW := Lib.hid hwb
  unfold tapeObj unitObj at HW
  obtain ⟨t0, t1, t2, t3⟩ := tape4 hT
  obtain ⟨z0, z1, z2, z3⟩ := unit4 hU
  rw [hwb] at t0 t1 t2 t3
  rw [← hL] at h
  clear hB hT hU hwb hL
  have hq : lost = true ∨ (lost = false ∧ decide (n < 0) = true) ∨ (lost = false ∧ decide (n < 0) = false ∧ decide ((L : Int) ≤ n) = true) := by
    cases lost with
    | true => exact .inl rfl
    | false =>
      refine .inr ?_
      by_cases h0 : n < 0
      · exact .inl ⟨rfl, decide_eq_true h0⟩
      · exact .inr ⟨rfl, decide_eq_false h0, decide_eq_true (by rcases h with h | h | h; · cases h
                                                                · exact absurd h h0
                                                                · exact h)⟩
  clear h
  rcases hq with rfl | ⟨rfl, q1⟩ | ⟨rfl, q1, q2⟩
  all_goals
    go_enter Tryz.func57, Tryz.ntmps57
    go_wp2_with fail
    rw [← HW.out]
    refine bodyPost_ret (v := .tuple #[.agg #[.int .i64 0, .int .i64 0, .int .i64 0, .slice none 0 0], .bool false]) (by simp [results, Tryz.results57, go_sem, z0, z1, z2, z3]) rfl ?_
    rw [HG.out]
    exact ⟨none, 0, 0, rfl, rfl, Nat.le_refl _, fun _ => ⟨rfl, rfl⟩, RdL.empty _ _ _, HB.out⟩
set_option maxHeartbeats 4000000 in
theorem good_in (lab cap : Int) (bs : List Tx) (A : Option Addr) (L C : Nat) (G : Nat → Prop) (n : Nat) (w : World) (hL : L = bs.length) (hr : RdB w A bs G) (hn : n < bs.length) (hl : ∀ s ∈ bs, s.length ≤ 1000000) :
    Calls Tryz.prog 57 #[.agg #[.int .i64 lab, .int .i64 cap, .slice A L C, .bool false], .int .i64 n] w (GoodA (Vo.good ⟨lab, bs, false⟩ n) w) := by
  obtain ⟨b, off, A1, C1, rfl, hg1, hc1, hC1, hN1, hr1⟩ := hr.at_ hn
  obtain ⟨s, hsd⟩ : ∃ s, s = bs[n] := ⟨_, rfl⟩
  have hsl : s.length ≤ 1000000 := by rw [hsd]; exact hl _ (List.getElem_mem hn)
  have HG := Lib.hid (good_is (lab := lab) hn)
  rw [← hsd] at HG hc1 hC1 hN1 hr1
  obtain ⟨S, hS⟩ : ∃ S, S = s.length := ⟨_, rfl⟩
  rw [← hS] at hc1 hC1 hN1 hsl
  obtain ⟨wb, hwb⟩ : ∃ wb, wb = (w.alloc (tapeObj lab cap (some ⟨b, off, none⟩) L C false)).alloc (unitObj 0 0 0 none 0 0) := ⟨_, rfl⟩
  obtain ⟨hB, hT, hU⟩ := two_blocks hwb
  have hcb : wb.cell? ⟨b, off + n, none⟩ = some (.slice A1 S C1) := (hB.cell (World.block_lt_of_cell? _ _ hc1)).trans hc1
  have HGET := Lib.hid (frameGet_any A1 s S C1 G wb hS hC1 hsl hN1 (hr1.old hB))
  have HB := Lib.hid hB
  have HU := Lib.hid hU
  have HT := Lib.hid hT
  have HW := Lib.hid hwb
  unfold tapeObj unitObj at HW
  obtain ⟨t0, t1, t2, t3⟩ := tape4 hT
  have q1 : decide ((n : Int) < 0) = false := decide_eq_false (by omega)
  have q2 : decide ((L : Int) ≤ (n : Int)) = false := decide_eq_false (by omega)
  have q3 : decide (L ≤ n) = false := decide_eq_false (by omega)
  have q4 : n < L := by omega
  obtain ⟨ge, hge⟩ : ∃ ge, ge = Fm.gotE s := ⟨_, rfl⟩
  obtain ⟨k, lb, nb, ld, hu⟩ : ∃ k lb nb ld, Fm.got s = ⟨k, lb, nb, ld⟩ := ⟨_, _, _, _, rfl⟩
  unfold GotU at HGET
  rw [hu, ← hge] at HGET
  have hcase : (ge = 0 ∧ lb = lab ∧ nb = (n : Int) ∧ Vo.good ⟨lab, bs, false⟩ n = some ⟨k, lb, nb, ld⟩) ∨ (Vo.good ⟨lab, bs, false⟩ n = none ∧ ((ge != 0) = true ∨ ((ge != 0) = false ∧ (lb != lab) = true) ∨ ((ge != 0) = false ∧ (lb != lab) = false ∧ (nb != (n : Int)) = true))) := by
    have h := HG.out
    by_cases hgd : Fm.Good s
    · rw [Fm.gotE_yes hgd] at hge
      rw [Fm.got_yes hgd] at hu
      rw [hu] at h
      by_cases h1 : lb = lab
      · by_cases h2 : nb = (n : Int)
        · refine .inl ⟨hge, h1, h2, ?_⟩
          rw [h, if_pos ⟨hgd, h1, h2⟩]
        · refine .inr ⟨?_, .inr (.inr ⟨by rw [hge]; rfl, by rw [h1]; simp, by simpa using h2⟩)⟩
          rw [h, if_neg fun h' => h2 h'.2.2]
      · refine .inr ⟨?_, .inr (.inl ⟨by rw [hge]; rfl, by simpa using h1⟩)⟩
        rw [h, if_neg fun h' => h1 h'.2.1]
    · rw [Fm.gotE_no hgd] at hge
      refine .inr ⟨?_, .inl (by rw [hge]; rfl)⟩
      rw [h, if_neg fun h' => hgd h'.1]
  clear HG hg1 hc1 hC1 hN1 hr1 hS hsl hu hge hr hl hL hn hB hT hU hsd
  rcases hcase with ⟨rfl, rfl, hnb, hres⟩ | ⟨hres, hq⟩
  · have HRES := Lib.hid hres
    have hq5 : (nb != (n : Int)) = false := by simp [hnb]
    clear hres hnb
    rw [HW.out] at t0 t1 t2 t3 hcb
    go_enter Tryz.func57, Tryz.ntmps57
    go_wp2_with fail
    rw [← HW.out]
    refine HGET.out.mono ?_
    rintro e w1 ⟨A2, m2, C2, rfl, hm2, hc2, hn2, hr2, hb2⟩
    obtain ⟨wc, hwc⟩ : ∃ wc, wc = w1.alloc (unitObj k lb nb A2 m2 C2) := ⟨_, rfl⟩
    have hb3 : Below w1.heap.size w1 wc := by rw [hwc]; exact (Below.refl _ _).alloc (Nat.le_refl _) _
    have hbc := hb2.trans (hb3.mono hb2.size)
    have hY : wc.heap[w1.heap.size]? = some (unitObj k lb nb A2 m2 C2) := by rw [hwc]; exact Go.Deep.blk_alloc_new _ _
    have hZ := (hbc.block _ (heap_lt HU.out)).trans HU.out
    have hT3 := below_tape hbc HT.out
    obtain ⟨t0', t1', t2', t3'⟩ := tape4 hT3
    obtain ⟨z0, z1, z2, z3⟩ := unit4 hZ
    obtain ⟨x0, x1, x2, x3⟩ := unit4 hY
    have y0 : wc.frozen? ⟨w.heap.size + 1, 0, none⟩ = false := heap_frozen hZ
    have y1 : wc.frozen? ⟨w.heap.size + 1, 1, none⟩ = false := heap_frozen hZ
    have y2 : wc.frozen? ⟨w.heap.size + 1, 2, none⟩ = false := heap_frozen hZ
    have y3 : wc.frozen? ⟨w.heap.size + 1, 3, none⟩ = false := heap_frozen hZ
    have HR2 : Hid (RdL wc A2 ld (fun x => w.heap.size ≤ x ∧ x ≠ w.heap.size + 1)) := Lib.hid ((hr2.old hb3).mono fun x hx => by
      have h1 : w.heap.size + 2 ≤ wb.heap.size := by have := heap_lt HU.out; omega
      have h2 : wb.heap.size ≤ x := hx
      omega)
    have HB3 := Lib.hid (HB.out.trans (hbc.mono HB.out.size))
    have HM2 := Lib.hid hm2
    have HN2 := Lib.hid hn2
    have HWC := Lib.hid hwc
    unfold unitObj at HWC
    obtain ⟨y, hy⟩ : ∃ y, y = w1.heap.size := ⟨_, rfl⟩
    rw [← hy] at x0 x1 x2 x3
    have HY := Lib.hid hy
    have hZ2 := Lib.hid hZ
    clear hb2 hb3 hbc hZ hT3 hr2 hm2 hn2 hwc hY hy t0 t1 t2 t3 x0 x1 x2 x3
    rw [HWC.out] at z0 z1 z2 z3 y0 y1 y2 y3 t0' t1' t2' t3'
    go_wp2
    rw [← HWC.out]
    clear z0 z1 z2 z3
    obtain ⟨z0, z1, z2, z3⟩ := unit4 hZ2.out
    exact bodyPost_ret (v := .tuple #[.agg #[.int .i64 k, .int .i64 lb, .int .i64 nb, .slice A2 m2 C2], .bool true]) (by simp [results, Tryz.results57, go_sem, z0, z1, z2, z3]) rfl (GoodA.stored (u := ⟨k, lb, nb, ld⟩) (by rw [HRES.out]; rfl) (by rw [HRES.out]; rfl) (by omega) HR2.out HM2.out hc2 HN2.out HB3.out)
  · have HRES := Lib.hid hres
    clear hres
    rw [HW.out] at t0 t1 t2 t3 hcb
    rcases hq with p1 | ⟨p1, p2⟩ | ⟨p1, p2, p3⟩
    all_goals
      go_enter Tryz.func57, Tryz.ntmps57
      go_wp2_with fail
      rw [← HW.out]
      refine HGET.out.mono ?_
      rintro e w1 ⟨A2, m2, C2, rfl, hm2, hc2, hn2, hr2, hb2⟩
      obtain ⟨wc, hwc⟩ : ∃ wc, wc = w1.alloc (unitObj k lb nb A2 m2 C2) := ⟨_, rfl⟩
      have hb3 : Below w1.heap.size w1 wc := by rw [hwc]; exact (Below.refl _ _).alloc (Nat.le_refl _) _
      have hbc := hb2.trans (hb3.mono hb2.size)
      have hY : wc.heap[w1.heap.size]? = some (unitObj k lb nb A2 m2 C2) := by rw [hwc]; exact Go.Deep.blk_alloc_new _ _
      have hZ := (hbc.block _ (heap_lt HU.out)).trans HU.out
      have hT3 := below_tape hbc HT.out
      obtain ⟨t0', t1', t2', t3'⟩ := tape4 hT3
      obtain ⟨z0, z1, z2, z3⟩ := unit4 hZ
      obtain ⟨x0, x1, x2, x3⟩ := unit4 hY
      have y0 : wc.frozen? ⟨w.heap.size + 1, 0, none⟩ = false := heap_frozen hZ
      have y1 : wc.frozen? ⟨w.heap.size + 1, 1, none⟩ = false := heap_frozen hZ
      have y2 : wc.frozen? ⟨w.heap.size + 1, 2, none⟩ = false := heap_frozen hZ
      have y3 : wc.frozen? ⟨w.heap.size + 1, 3, none⟩ = false := heap_frozen hZ
      have HR2 : Hid (RdL wc A2 ld (fun x => w.heap.size ≤ x ∧ x ≠ w.heap.size + 1)) := Lib.hid ((hr2.old hb3).mono fun x hx => by
        have h1 : w.heap.size + 2 ≤ wb.heap.size := by have := heap_lt HU.out; omega
        have h2 : wb.heap.size ≤ x := hx
        omega)
      have HB3 := Lib.hid (HB.out.trans (hbc.mono HB.out.size))
      have HM2 := Lib.hid hm2
      have HN2 := Lib.hid hn2
      have HWC := Lib.hid hwc
      unfold unitObj at HWC
      obtain ⟨y, hy⟩ : ∃ y, y = w1.heap.size := ⟨_, rfl⟩
      rw [← hy] at x0 x1 x2 x3
      have HY := Lib.hid hy
      have hZ2 := Lib.hid hZ
      clear hb2 hb3 hbc hZ hT3 hr2 hm2 hn2 hwc hY hy t0 t1 t2 t3 x0 x1 x2 x3
      rw [HWC.out] at z0 z1 z2 z3 y0 y1 y2 y3 t0' t1' t2' t3'
      go_wp2
      rw [← HWC.out]
      clear z0 z1 z2 z3
      obtain ⟨z0, z1, z2, z3⟩ := unit4 hZ2.out
      exact bodyPost_ret (v := .tuple #[.agg #[.int .i64 0, .int .i64 0, .int .i64 0, .slice none 0 0], .bool false]) (by simp [results, Tryz.results57, go_sem, z0, z1, z2, z3]) rfl (GoodA.stored (u := Fm.zero) (by rw [HRES.out]; rfl) (by rw [HRES.out]; rfl) (by omega) (RdL.empty _ _ _) rfl (Nat.le_refl _) (fun _ => ⟨rfl, rfl⟩) HB3.out)
theorem good_any (lab cap : Int) (bs : List Tx) (A : Option Addr) (L C : Nat) (G : Nat → Prop) (lost : Bool) (n : Int) (w : World) (hL : L = bs.length) (hr : RdB w A bs G) (hl : ∀ s ∈ bs, s.length ≤ 1000000) :
    Calls Tryz.prog 57 #[.agg #[.int .i64 lab, .int .i64 cap, .slice A L C, .bool lost], .int .i64 n] w (GoodA (Vo.goodZ ⟨lab, bs, lost⟩ n) w) := by
  by_cases h : lost = true ∨ n < 0 ∨ (bs.length : Int) ≤ n
  · exact good_out lab cap bs A L C lost n w hL h
  · have h1 : lost = false := by cases lost with
      | true => exact absurd (.inl rfl) h
      | false => rfl
    subst h1
    have h2 : 0 ≤ n ∧ n < (bs.length : Int) := by
      constructor
      · rcases Int.lt_or_le n 0 with h' | h'
        · exact absurd (.inr (.inl h')) h
        · exact h'
      · rcases Int.lt_or_le n (bs.length : Int) with h' | h'
        · exact h'
        · exact absurd (.inr (.inr h')) h
    obtain ⟨m, rfl⟩ : ∃ m : Nat, n = (m : Int) := ⟨n.toNat, by omega⟩
    have h3 : Vo.goodZ ⟨lab, bs, false⟩ (m : Int) = Vo.good ⟨lab, bs, false⟩ m := by
      unfold Vo.goodZ
      rw [if_neg (by omega)]; rfl
    rw [h3]
    exact good_in lab cap bs A L C G m w hL hr (by omega) hl
end Go.Proofs.YtndofmoepjfnfaaGreat
namespace Go.Proofs.YtndofmoepjfnfaaGreat
open Go.RowKit
open Pt (Tx)

set_option maxRecDepth 100000 in
theorem hasData_any (k l n : Int) (A : Option Addr) (m C : Nat) (z : Int) (w : World) :
    Calls Tryz.prog 63 #[.agg #[.int .i64 k, .int .i64 l, .int .i64 n, .slice A m C], .int .i64 z] w (AnsB ((k == 3) && ((m : Int) == z)) w) := by
  have hb : Below w.heap.size w (w.alloc (unitObj k l n A m C)) := (Below.refl _ _).alloc (Nat.le_refl _) _
  have ht : (w.alloc (unitObj k l n A m C)).heap[w.heap.size]? = some (unitObj k l n A m C) := Go.Deep.blk_alloc_new _ _
  obtain ⟨t0, t1, t2, t3⟩ := unit4 ht
  have HB := Lib.hid hb
  unfold unitObj at t0 t1 t2 t3 HB
  clear hb ht
  obtain ⟨d, hd⟩ : ∃ d, d = (k == 3) := ⟨_, rfl⟩
  obtain ⟨d2, hd2⟩ : ∃ d2, d2 = ((m : Int) == z) := ⟨_, rfl⟩
  rw [← hd, ← hd2]
  have e1 := hd.symm
  have e2 := hd2.symm
  clear hd hd2
  cases d <;> cases d2
  all_goals
    go_enter Tryz.func63, Tryz.ntmps63
    go_wp2
    go_ret
    exact ⟨rfl, HB.out⟩
set_option maxRecDepth 100000 in
theorem whyGone_any (l c : Int) (A : Option Addr) (m C : Nat) (lost : Bool) (w : World) :
    Calls Tryz.prog 52 #[.agg #[.int .i64 l, .int .i64 c, .slice A m C, .bool lost]] w (fun e w' => e = .returned (.int .i64 (if lost = true then 9 else 8)) ∧ Below w.heap.size w w') := by
  obtain ⟨hb, ht⟩ := tape_new w l c A m C lost
  obtain ⟨t0, t1, t2, t3⟩ := tape4 ht
  have HB := Lib.hid hb
  unfold tapeObj at t0 t1 t2 t3 HB
  clear hb ht
  cases lost
  all_goals
    go_enter Tryz.func52, Tryz.ntmps52
    go_wp2
    go_ret
    exact ⟨rfl, HB.out⟩
set_option maxRecDepth 100000 in
theorem noSeal (fv : Value) (A : Option Addr) (C : Nat) (w : World) :
    Calls Tryz.prog 77 #[.slice A 0 C, fv] w (fun e w' => e = .returned (.int .i64 (-1)) ∧ Below w.heap.size w w') := by
  go_enter Tryz.func77, Tryz.ntmps77
  go_wp2
  go_loopw [8] (fun vi wr => vi = .int .i64 0 ∧ Hid (Below w.heap.size w wr)) (fun _ _ => 0)
  case atStart => exact ⟨rfl, Lib.hid (Below.refl _ _)⟩
  case round =>
    obtain ⟨rfl, HB⟩ := hrel
    go_wp2
    go_ret
    exact ⟨rfl, HB.out⟩
/-- no unit, false -/
def NoU (w : World) (e : Ending) (w' : World) : Prop := e = .returned (.tuple #[.agg #[.int .i64 0, .int .i64 0, .int .i64 0, .slice none 0 0], .bool false]) ∧ Below w.heap.size w w'
theorem fourU_kp (w : World) (g : Nat) (a b c d : Value) : Kp (· = g) w ((((w.setCell ⟨g, 0, none⟩ a).setCell ⟨g, 1, none⟩ b).setCell ⟨g, 2, none⟩ c).setCell ⟨g, 3, none⟩ d) :=
  (((Kp.store _ _ _ _).trans (Kp.store _ _ _ _)).trans (Kp.store _ _ _ _)).trans (Kp.store _ _ _ _)
theorem fourU_set {w : World} {g : Nat} {k0 l0 n0 : Int} {A0 : Option Addr} {m0 C0 : Nat} (h : w.heap[g]? = some (unitObj k0 l0 n0 A0 m0 C0)) (k l n : Int) (A : Option Addr) (m C : Nat) :
    ((((w.setCell ⟨g, 0, none⟩ (.int .i64 k)).setCell ⟨g, 1, none⟩ (.int .i64 l)).setCell ⟨g, 2, none⟩ (.int .i64 n)).setCell ⟨g, 3, none⟩ (.slice A m C)).heap[g]? = some (unitObj k l n A m C) :=
  heap_set (heap_set (heap_set (heap_set h (.int .i64 k)) (.int .i64 l)) (.int .i64 n)) (.slice A m C)
set_option maxRecDepth 100000 in
theorem mended_no (A : Option Addr) (n C : Nat) (Sa : Option Addr) (sC : Nat) (lab k : Int) (w : World) :
    Calls Tryz.prog 64 #[.agg #[.slice A n C, .slice Sa 0 sC], .int .i64 lab, .int .i64 k] w (NoU w) := by
  obtain ⟨w0, hw0⟩ : ∃ w0, w0 = w.alloc (.cells #[.slice A n C, .slice Sa 0 sC] 80) := ⟨_, rfl⟩
  obtain ⟨w1, hw1⟩ : ∃ w1, w1 = w0.alloc (.cells #[.int .i64 lab] 3) := ⟨_, rfl⟩
  obtain ⟨w2, hw2⟩ : ∃ w2, w2 = w1.alloc (unitObj 0 0 0 none 0 0) := ⟨_, rfl⟩
  have hs0 : w0.heap.size = w.heap.size + 1 := by rw [hw0]; simp
  have hs1 : w1.heap.size = w.heap.size + 2 := by rw [hw1]; simp; omega
  have b0 : Below w.heap.size w w0 := by rw [hw0]; exact (Below.refl _ _).alloc (Nat.le_refl _) _
  have b1 : Below w0.heap.size w0 w1 := by rw [hw1]; exact (Below.refl _ _).alloc (Nat.le_refl _) _
  have b2 : Below w1.heap.size w1 w2 := by rw [hw2]; exact (Below.refl _ _).alloc (Nat.le_refl _) _
  have b02 : Below w0.heap.size w0 w2 := b1.trans (b2.mono b1.size)
  have b12 : Below w.heap.size w w2 := b0.trans (b02.mono b0.size)
  have k0 : w0.heap[w.heap.size]? = some (.cells #[.slice A n C, .slice Sa 0 sC] 80 (0, 0)) := by rw [hw0]; exact Go.Deep.blk_alloc_new _ _
  have t2 : w2.heap[w1.heap.size]? = some (unitObj 0 0 0 none 0 0) := by rw [hw2]; exact Go.Deep.blk_alloc_new _ _
  rw [hs1] at t2
  have hk0 : w2.heap[w.heap.size]? = some (.cells #[.slice A n C, .slice Sa 0 sC] 80 (0, 0)) := (b02.block _ (heap_lt k0)).trans k0
  have s1 : w2.cell? ⟨w.heap.size, 1, none⟩ = some (.slice Sa 0 sC) := heap_cell hk0
  have HB := Lib.hid b12
  have HW : Hid (w2 = ((w.alloc (.cells #[.slice A n C, .slice Sa 0 sC] 80)).alloc (.cells #[.int .i64 lab] 3)).alloc (.cells #[.int .i64 0, .int .i64 0, .int .i64 0, .slice none 0 0] 48)) := Lib.hid (by rw [hw2, hw1, hw0]; rfl)
  have HT := Lib.hid t2
  clear hw0 hw1 hw2 hs0 hs1 b0 b1 b2 b02 b12 k0 t2 hk0
  go_enter Tryz.func64, Tryz.ntmps64
  go_upto_region 1 with fail
  rw [← HW.out]
  go_upto_region 2 with (go_at_call 77; refine (noSeal _ Sa sC _).mono ?_; rintro e w3 ⟨rfl, hb3⟩; have HB3 := Lib.hid (HB.out.trans (hb3.mono HB.out.size)); have HT3 : Hid (w3.heap[w.heap.size + 2]? = some (unitObj 0 0 0 none 0 0)) := Lib.hid ((hb3.block _ (heap_lt HT.out)).trans HT.out); clear hb3 s1)
  obtain ⟨y0, y1, y2, y3⟩ := unit4 HT3.out
  have f3 : ∀ j, w3.frozen? ⟨w.heap.size + 2, j, none⟩ = false := fun j => heap_frozen HT3.out
  go_wp2
  obtain ⟨z0, z1, z2, z3⟩ := unit4 (fourU_set HT3.out 0 0 0 none 0 0)
  refine bodyPost_ret (v := .tuple #[.agg #[.int .i64 0, .int .i64 0, .int .i64 0, .slice none 0 0], .bool false]) (by simp [results, Tryz.results64, go_sem, z0, z1, z2, z3]) rfl ?_
  exact ⟨rfl, HB3.out.trans ((fourU_kp w3 (w.heap.size + 2) _ _ _ _).below HB3.out.size fun k hk => by omega)⟩
end Go.Proofs.YtndofmoepjfnfaaGreat
namespace Go.Proofs.YtndofmoepjfnfaaGreat
open Go.RowKit
open Pt (Tx)

/-- the bytes of block n, if it is one of data, of so many -/
def Rs.loadZ (t : St.T) (n z : Int) : Option Tx := match Vo.goodZ ⟨t.label, t.blocks, t.lost⟩ n with
  | none => none
  | some u => if u.kind = 3 ∧ (u.load.length : Int) = z then some u.load else none
/-- bytes, or none -/
def LoadA (o : Option Tx) (w : World) (e : Ending) (w' : World) : Prop :=
  ∃ A m C, e = .returned (.tuple #[.slice A m C, .bool o.isSome]) ∧ m = (o.getD []).length ∧ m ≤ C ∧ (A = none → m = 0 ∧ C = 0) ∧ RdL w' A (o.getD []) (w.heap.size ≤ ·) ∧ Below w.heap.size w w'
theorem LoadA.no {o : Option Tx} {w w' : World} (h : o = none) (hb : Below w.heap.size w w') : LoadA o w (.returned (.tuple #[.slice none 0 0, .bool false])) w' := by
  subst h
  exact ⟨none, 0, 0, rfl, rfl, Nat.le_refl _, fun _ => ⟨rfl, rfl⟩, RdL.empty _ _ _, hb⟩
theorem loadZ_no {t : St.T} {n z : Int} {k lb nb : Int} {l : Tx} (hu : unitOf (Vo.goodZ ⟨t.label, t.blocks, t.lost⟩ n) = ⟨k, lb, nb, l⟩) (h : ((k == 3) && ((l.length : Int) == z)) = false) : Rs.loadZ t n z = none := by
  unfold Rs.loadZ
  cases hg : Vo.goodZ ⟨t.label, t.blocks, t.lost⟩ n with
  | none => rfl
  | some u =>
    rw [hg] at hu
    have hu' : u = ⟨k, lb, nb, l⟩ := hu
    subst hu'
    show (if k = 3 ∧ (l.length : Int) = z then some l else none) = none
    rw [if_neg]
    intro hh
    rw [hh.1, hh.2] at h
    simp at h
theorem loadZ_yes {t : St.T} {n z : Int} {k lb nb : Int} {l : Tx} (hs : (Vo.goodZ ⟨t.label, t.blocks, t.lost⟩ n).isSome = true) (hu : unitOf (Vo.goodZ ⟨t.label, t.blocks, t.lost⟩ n) = ⟨k, lb, nb, l⟩) (h : ((k == 3) && ((l.length : Int) == z)) = true) : Rs.loadZ t n z = some l := by
  unfold Rs.loadZ
  cases hg : Vo.goodZ ⟨t.label, t.blocks, t.lost⟩ n with
  | none => rw [hg] at hs; cases hs
  | some u =>
    rw [hg] at hu
    have hu' : u = ⟨k, lb, nb, l⟩ := hu
    subst hu'
    show (if k = 3 ∧ (l.length : Int) = z then some l else none) = some l
    rw [Bool.and_eq_true, beq_iff_eq, beq_iff_eq] at h
    rw [if_pos h]
set_option maxRecDepth 100000 in
set_option maxHeartbeats 4000000 in
theorem load_any (A : Option Addr) (n C : Nat) (Sa : Option Addr) (sC : Nat) (lab cap : Int) (bs : List Tx) (At : Option Addr) (L Ct : Nat) (G : Nat → Prop) (lost : Bool) (k z : Int) (w : World) (hL : L = bs.length) (hr : RdB w At bs G) (hl : ∀ s ∈ bs, s.length ≤ 1000000) :
    Calls Tryz.prog 51 #[.agg #[.slice A n C, .slice Sa 0 sC], .agg #[.int .i64 lab, .int .i64 cap, .slice At L Ct, .bool lost], .int .i64 k, .int .i64 z] w (LoadA (Rs.loadZ ⟨lab, cap, bs, lost⟩ k z) w) := by
  obtain ⟨w0, hw0⟩ : ∃ w0, w0 = w.alloc (.cells #[.slice A n C, .slice Sa 0 sC] 80) := ⟨_, rfl⟩
  obtain ⟨w1, hw1⟩ : ∃ w1, w1 = w0.alloc (tapeObj lab cap At L Ct lost) := ⟨_, rfl⟩
  have hs0 : w0.heap.size = w.heap.size + 1 := by rw [hw0]; simp
  have b0 : Below w.heap.size w w0 := by rw [hw0]; exact (Below.refl _ _).alloc (Nat.le_refl _) _
  have b1 : Below w0.heap.size w0 w1 := by rw [hw1]; exact (Below.refl _ _).alloc (Nat.le_refl _) _
  have b01 : Below w.heap.size w w1 := b0.trans (b1.mono b0.size)
  have k0 : w0.heap[w.heap.size]? = some (.cells #[.slice A n C, .slice Sa 0 sC] 80 (0, 0)) := by rw [hw0]; exact Go.Deep.blk_alloc_new _ _
  have t1 : w1.heap[w0.heap.size]? = some (tapeObj lab cap At L Ct lost) := by rw [hw1]; exact Go.Deep.blk_alloc_new _ _
  rw [hs0] at t1
  have hk0 : w1.heap[w.heap.size]? = some (.cells #[.slice A n C, .slice Sa 0 sC] 80 (0, 0)) := (b1.block _ (heap_lt k0)).trans k0
  have hcall := good_any lab cap bs At L Ct G lost k w1 hL (hr.old b01) hl
  have HC := Lib.hid hcall
  have HB := Lib.hid b01
  have HW : Hid (w1 = (w.alloc (.cells #[.slice A n C, .slice Sa 0 sC] 80)).alloc (.cells #[.int .i64 lab, .int .i64 cap, .slice At L Ct, .bool lost] 28)) := Lib.hid (by rw [hw1, hw0]; rfl)
  have HK := Lib.hid hk0
  have HT := Lib.hid t1
  obtain ⟨x0, x1, x2, x3⟩ := tape4 t1
  clear hw0 hw1 hs0 b0 b1 b01 k0 t1 hk0 hcall hr hL
  go_enter Tryz.func51, Tryz.ntmps51
  go_upto_region 1 with fail
  rw [← HW.out]
  go_upto_region 2 with (go_at_call 57; refine HC.out.mono ?_; rintro e w3 ⟨Au, m, Cu, rfl, hm, hmc, hAu, hru, hb3⟩; have HM := Lib.hid hm; have HMC := Lib.hid hmc; have HAU := Lib.hid hAu; have HRU := Lib.hid hru; have HB3 := Lib.hid hb3; clear hm hmc hAu hru hb3 x0 x1 x2 x3)
  obtain ⟨u, hu⟩ : ∃ u, u = unitOf (Vo.goodZ ⟨lab, bs, lost⟩ k) := ⟨_, rfl⟩
  obtain ⟨ok, hok⟩ : ∃ b, b = (Vo.goodZ ⟨lab, bs, lost⟩ k).isSome := ⟨_, rfl⟩
  rw [← hu] at HM HRU ⊢
  rw [← hok]
  obtain ⟨kd, lb, nb, ld⟩ := u
  dsimp only at HM HRU ⊢
  obtain ⟨w4, hw4⟩ : ∃ x, x = w3.alloc (unitObj kd lb nb Au m Cu) := ⟨_, rfl⟩
  have h34 : Below w3.heap.size w3 w4 := by rw [hw4]; exact (Below.refl _ _).alloc (Nat.le_refl _) _
  have HU4 : Hid (w4.heap[w3.heap.size]? = some (unitObj kd lb nb Au m Cu)) := Lib.hid (by rw [hw4]; exact Go.Deep.blk_alloc_new _ _)
  have h14 : Below w1.heap.size w1 w4 := HB3.out.trans (h34.mono HB3.out.size)
  have HB4 := Lib.hid (HB.out.trans (h14.mono HB.out.size))
  have HL3 : Hid (w.heap.size ≤ w3.heap.size) := Lib.hid (Nat.le_trans HB.out.size HB3.out.size)
  have HL1 : Hid (w1.heap.size ≤ w3.heap.size) := Lib.hid HB3.out.size
  have HK4 : Hid (w4.heap[w.heap.size]? = some (.cells #[.slice A n C, .slice Sa 0 sC] 80 (0, 0))) := Lib.hid ((h14.block _ (heap_lt HK.out)).trans HK.out)
  have HT4 : Hid (w4.heap[w.heap.size + 1]? = some (tapeObj lab cap At L Ct lost)) := Lib.hid ((h14.block _ (heap_lt HT.out)).trans HT.out)
  have HR4 := Lib.hid (HRU.out.old h34)
  have HW4 : Hid (w4 = w3.alloc (.cells #[.int .i64 kd, .int .i64 lb, .int .i64 nb, .slice Au m Cu] 48)) := Lib.hid hw4
  rw [← HW4.out]
  have HOK := Lib.hid hok
  have HUU := Lib.hid hu
  clear hw4 h34 h14 hu hok
  cases ok with
  | false =>
    have HNO : Hid (Rs.loadZ ⟨lab, cap, bs, lost⟩ k z = none) := Lib.hid (by
      unfold Rs.loadZ
      have h := HOK.out
      revert h
      cases Vo.goodZ ⟨lab, bs, lost⟩ k with
      | none => intro _; rfl
      | some u => intro h; cases h)
    obtain ⟨y0, y1, y2, y3⟩ := tape4 HT4.out
    have s0 : w4.cell? ⟨w.heap.size, 0, none⟩ = some (.slice A n C) := heap_cell HK4.out
    have s1 : w4.cell? ⟨w.heap.size, 1, none⟩ = some (.slice Sa 0 sC) := heap_cell HK4.out
    go_wp2_with (go_at_call 64; refine (mended_no A n C Sa sC lab k _).mono ?_; rintro e w5 ⟨rfl, hb5⟩; have HU5 : Hid (w5.heap[w3.heap.size]? = some (unitObj kd lb nb Au m Cu)) := Lib.hid ((hb5.block _ (heap_lt HU4.out)).trans HU4.out); have HB5 := Lib.hid (HB4.out.trans (hb5.mono HB4.out.size)); have f5 : ∀ j, w5.frozen? ⟨w3.heap.size, j, none⟩ = false := fun j => heap_frozen HU5.out; obtain ⟨c0, c1, c2, c3⟩ := unit4 HU5.out; clear hb5)
    go_ret2
    exact LoadA.no HNO.out (HB5.out.trans ((fourU_kp w5 w3.heap.size _ _ _ _).below HB5.out.size fun k hk => by have := HL3.out; omega))
  | true =>
    obtain ⟨u0, u1, u2, u3⟩ := unit4 HU4.out
    obtain ⟨d, hd⟩ : ∃ d, d = ((kd == 3) && ((m : Int) == z)) := ⟨_, rfl⟩
    have HD := Lib.hid hd
    clear hd
    have HHD : Hid (∀ w', Calls Tryz.prog 63 #[.agg #[.int .i64 kd, .int .i64 lb, .int .i64 nb, .slice Au m Cu], .int .i64 z] w' (AnsB d w')) := Lib.hid fun w' => by rw [HD.out]; exact hasData_any kd lb nb Au m Cu z w'
    obtain ⟨wp, HWP⟩ : ∃ x, Hid (x = w4) := ⟨_, Lib.hid rfl⟩
    cases d with
    | false =>
      have HNO : Hid (Rs.loadZ ⟨lab, cap, bs, lost⟩ k z = none) := Lib.hid (loadZ_no HUU.out.symm (by rw [← HM.out]; exact HD.out.symm))
      go_upto_region 3 with (go_at_call 63; refine (HHD.out _).mono ?_; rintro e w6 ⟨rfl, hb6⟩; have HU6 : Hid (w6.heap[w3.heap.size]? = some (unitObj kd lb nb Au m Cu)) := Lib.hid ((hb6.block _ (heap_lt HU4.out)).trans HU4.out); have HB6 := Lib.hid (HB4.out.trans (hb6.mono HB4.out.size)); have HK6 := Lib.hid ((hb6.block _ (heap_lt HK4.out)).trans HK4.out); have HT6 := Lib.hid ((hb6.block _ (heap_lt HT4.out)).trans HT4.out); clear hb6 u0 u1 u2 u3)
      obtain ⟨y0, y1, y2, y3⟩ := tape4 HT6.out
      have s0 : w6.cell? ⟨w.heap.size, 0, none⟩ = some (.slice A n C) := heap_cell HK6.out
      have s1 : w6.cell? ⟨w.heap.size, 1, none⟩ = some (.slice Sa 0 sC) := heap_cell HK6.out
      go_wp2_with (go_at_call 64; refine (mended_no A n C Sa sC lab k _).mono ?_; rintro e w5 ⟨rfl, hb5⟩; have HU5 : Hid (w5.heap[w3.heap.size]? = some (unitObj kd lb nb Au m Cu)) := Lib.hid ((hb5.block _ (heap_lt HU6.out)).trans HU6.out); have HB5 := Lib.hid (HB6.out.trans (hb5.mono HB6.out.size)); have f5 : ∀ j, w5.frozen? ⟨w3.heap.size, j, none⟩ = false := fun j => heap_frozen HU5.out; obtain ⟨c0, c1, c2, c3⟩ := unit4 HU5.out; clear hb5)
      go_ret2
      exact LoadA.no HNO.out (HB5.out.trans ((fourU_kp w5 w3.heap.size _ _ _ _).below HB5.out.size fun k hk => by have := HL3.out; omega))
    | true =>
      have HYES : Hid (Rs.loadZ ⟨lab, cap, bs, lost⟩ k z = some ld) := Lib.hid (loadZ_yes HOK.out.symm HUU.out.symm (by rw [← HM.out]; exact HD.out.symm))
      go_upto_region 4 with (go_at_call 63; refine (HHD.out _).mono ?_; rintro e w6 ⟨rfl, hb6⟩; have HU6 : Hid (w6.heap[w3.heap.size]? = some (unitObj kd lb nb Au m Cu)) := Lib.hid ((hb6.block _ (heap_lt HU4.out)).trans HU4.out); have HB6 := Lib.hid (HB4.out.trans (hb6.mono HB4.out.size)); have HR6 := Lib.hid (HR4.out.old hb6); clear hb6 u0 u1 u2 u3)
      obtain ⟨v0, v1, v2, v3⟩ := unit4 HU6.out
      go_wp2_with (go_at_call 63; refine (HHD.out _).mono ?_; rintro e w7 ⟨rfl, hb7⟩; have HU7 : Hid (w7.heap[w3.heap.size]? = some (unitObj kd lb nb Au m Cu)) := Lib.hid ((hb7.block _ (heap_lt HU6.out)).trans HU6.out); have HB7 := Lib.hid (HB6.out.trans (hb7.mono HB6.out.size)); have HR7 := Lib.hid (HR6.out.old hb7); clear hb7 v0 v1 v2 v3; obtain ⟨v0, v1, v2, v3⟩ := unit4 HU7.out)
      go_ret2
      unfold LoadA
      rw [HYES.out]
      exact ⟨Au, m, Cu, rfl, HM.out, HMC.out, HAU.out, HR7.out.mono fun b hb => Nat.le_trans HB.out.size hb, HB7.out⟩
end Go.Proofs.YtndofmoepjfnfaaGreat
namespace Go.Proofs.YtndofmoepjfnfaaGreat
open Go.RowKit
open Pt (Tx)

/-- where the first of a row of tapes is of which it holds; -1: of none -/
def IdxR (p : St.T → Bool) (ts : List St.T) (w : World) (e : Ending) (w' : World) : Prop :=
  ∃ z : Int, e = .returned (.int .i64 z) ∧ ((z = -1 ∧ ∀ t ∈ ts, p t = false) ∨ ∃ k, ∃ hk : k < ts.length, z = (k : Int) ∧ p ts[k] = true ∧ ∀ j (hj : j < k), p (ts[j]'(Nat.lt_trans hj hk)) = false) ∧ Below w.heap.size w w'
theorem none_takeR {p : St.T → Bool} {ts : List St.T} {k : Nat} (hk : k < ts.length) (h : ∀ j (hj : j < k), p (ts[j]'(Nat.lt_trans hj hk)) = false) (hp : p ts[k] = false) : ∀ j (_ : j < k + 1) (hl : j < ts.length), p (ts[j]'hl) = false := fun j hj hl => by
  by_cases e : j = k
  · subst e; exact hp
  · exact h j (by omega)
set_option maxRecDepth 100000 in
theorem isLabR (gb : Nat) (l0 : Int) (lab cap : Int) (A : Option Addr) (n C : Nat) (lost : Bool) (w : World) (hgb : w.cell? ⟨gb, 0, none⟩ = some (.int .i64 l0)) :
    Calls Tryz.prog 62 #[.agg #[.int .i64 lab, .int .i64 cap, .slice A n C, .bool lost], .pointer (some ⟨gb, 0, none⟩)] w (AnsB (decide (lab = l0)) w) := by
  obtain ⟨hb, ht⟩ := tape_new w lab cap A n C lost
  obtain ⟨t0, t1, t2, t3⟩ := tape4 ht
  have g0 := (hb.cell (World.block_lt_of_cell? _ _ hgb)).trans hgb
  have HB := Lib.hid hb
  obtain ⟨d, hd⟩ : ∃ d, d = (lab == l0) := ⟨_, rfl⟩
  have he : decide (lab = l0) = d := by rw [hd]; rfl
  rw [he]
  have HD := Lib.hid hd
  unfold tapeObj at t0 t1 t2 t3 HB g0
  clear hb ht hgb hd he
  go_enter Tryz.func62, Tryz.ntmps62
  go_wp2
  go_ret
  exact ⟨by rw [HD.out]; rfl, HB.out⟩
set_option maxRecDepth 100000 in
set_option maxHeartbeats 2000000 in
theorem label_indexR (gb : Nat) (l0 : Int) (A : Option Addr) (ts : List St.T) (n C : Nat) (G : Nat → Prop) (w : World) (hnl : n = ts.length) (hn : n ≤ 1000000) (hr : RdT w A ts G) (hgb : w.cell? ⟨gb, 0, none⟩ = some (.int .i64 l0)) :
    Calls Tryz.prog 61 #[.slice A n C, .func (.func 62) #[] #[.pointer (some ⟨gb, 0, none⟩)]] w (IdxR (fun t => decide (t.label = l0)) ts w) := by
  have HR := Lib.hid hr
  have HNL := Lib.hid hnl
  have HGB := Lib.hid hgb
  clear hgb
  clear hr hnl
  go_enter Tryz.func61, Tryz.ntmps61
  go_wp2
  go_loopw [8] (fun vi wr => ∃ k : Nat, k ≤ n ∧ vi = .int .i64 (k : Int) ∧ Hid (∀ j (_ : j < k) (hl : j < ts.length), (fun t => decide (t.label = l0)) (ts[j]'hl) = false) ∧ Hid (Below w.heap.size w wr)) (fun vi _ => n - (intOf vi).toNat)
  case atStart => exact ⟨0, Nat.zero_le _, rfl, Lib.hid (fun j hj => absurd hj (by omega)), Lib.hid (Below.refl _ _)⟩
  case round =>
    obtain ⟨k, hk, rfl, HN, HB⟩ := hrel
    by_cases hlt : k < n
    · have e0 : decide (k < n) = true := decide_eq_true hlt
      have hlt' : k < ts.length := by rw [← HNL.out]; exact hlt
      obtain ⟨b, off, A', C', rfl, -, c0, c1, c2, c3, hb⟩ := (HR.out.old HB.out).at_ hlt'
      obtain ⟨d, hd⟩ : ∃ d, d = (fun t => decide (t.label = l0)) ts[k] := ⟨_, rfl⟩
      have HD := Lib.hid hd
      have hcall := isLabR gb l0 ts[k].label ts[k].cap A' ts[k].blocks.length C' ts[k].lost wr ((HB.out.cell (World.block_lt_of_cell? _ _ HGB.out)).trans HGB.out)
      have hd2 : decide (ts[k].label = l0) = d := hd.symm
      rw [hd2] at hcall
      clear hd2
      clear hd
      obtain ⟨⟨lab, cap, bs, lost⟩, ht⟩ : ∃ t, t = ts[k] := ⟨_, rfl⟩
      rw [← ht] at c0 c1 c2 c3 hcall
      dsimp only at c0 c1 c2 c3 hcall
      obtain ⟨m, hm⟩ : ∃ m, m = bs.length := ⟨_, rfl⟩
      rw [← hm] at c2 hcall
      have HC := Lib.hid hcall
      clear ht hb hcall hm
      cases d with
      | true =>
        have HFIN : Hid (∃ k', ∃ hk : k' < ts.length, (k : Int) = (k' : Int) ∧ (fun t => decide (t.label = l0)) ts[k'] = true ∧ ∀ j (hj : j < k'), (fun t => decide (t.label = l0)) (ts[j]'(Nat.lt_trans hj hk)) = false) := Lib.hid ⟨k, hlt', rfl, HD.out.symm, fun j hj => HN.out j hj (by omega)⟩
        go_wp2_with (go_at_call 62; refine HC.out.mono ?_; rintro e w1 ⟨rfl, hb1⟩; have HB1 := Lib.hid (HB.out.trans (hb1.mono HB.out.size)); clear hb1)
        go_ret
        exact ⟨(k : Int), rfl, .inr HFIN.out, HB1.out⟩
      | false =>
        have HF : Hid (∀ j (_ : j < k + 1) (hl : j < ts.length), (fun t => decide (t.label = l0)) (ts[j]'hl) = false) := Lib.hid (none_takeR (p := fun t => decide (t.label = l0)) hlt' (fun j hj => HN.out j hj (by omega)) HD.out.symm)
        go_wp2_with (go_at_call 62; refine HC.out.mono ?_; rintro e w1 ⟨rfl, hb1⟩; have HB1 := Lib.hid (HB.out.trans (hb1.mono HB.out.size)); clear hb1)
        go_roundw
        case rel => exact ⟨k + 1, by omega, by go_num, HF, HB1⟩
        case measure => simp [intOf]; omega
    · have e0 : decide (k < n) = false := decide_eq_false hlt
      have HF : Hid (∀ t ∈ ts, (fun t => decide (t.label = l0)) t = false) := Lib.hid fun t ht => by
        obtain ⟨j, hj, rfl⟩ := List.mem_iff_getElem.1 ht
        exact HN.out j (by have := HNL.out; omega) hj
      go_wp2
      go_ret
      exact ⟨-1, rfl, .inl ⟨rfl, HF.out⟩, HB.out⟩
end Go.Proofs.YtndofmoepjfnfaaGreat
namespace Go.Proofs.YtndofmoepjfnfaaGreat.Me
open Go.RowKit Go.Proofs.YtndofmoepjfnfaaGreat
open Pt (Tx)

/-- the tape of that label; none: as one that is lost -/
def first (ts : List St.T) (lab : Int) : St.T := (ts.find? fun t => decide (t.label = lab)).getD ⟨lab, 0, [], true⟩
/-- a row of a data member; no bytes: it is missing -/
def dataRow (t : St.T) (n : Nat) : Tx :=
  if t.lost = false ∧ t.blocks.length ≤ n then St.zeros
  else if (Vo.good (Gr.vo t) n).isSome = true ∧ (t.blocks.getD n []).length = 79 then t.blocks.getD n [] else []
/-- a row of a parity member; no bytes: it is missing -/
def load6 (o : Option Fm.U) : Tx :=
  match o with
  | none => []
  | some u => if u.kind = 6 ∧ u.load.length = 79 then u.load else []
def parityRow (t : St.T) (n : Nat) : Tx := load6 (Vo.good (Gr.vo t) (n + 1))
/-- the rows that are there -/
def have_ (ms : List St.T) (d n : Nat) (i : Nat) : Tx := if i < d then dataRow (ms.getD i ⟨0, 0, [], true⟩) n else parityRow (ms.getD i ⟨0, 0, [], true⟩) n
theorem dataRow_len (t : St.T) (n : Nat) : (dataRow t n).length = 0 ∨ (dataRow t n).length = 79 := by
  unfold dataRow
  split
  · exact .inr St.zeros_len
  · split
    · rename_i h; exact .inr h.2
    · exact .inl rfl
theorem parityRow_len (t : St.T) (n : Nat) : (parityRow t n).length = 0 ∨ (parityRow t n).length = 79 := by
  unfold parityRow load6
  split
  · exact .inl rfl
  · split
    · rename_i h; exact .inr h.2
    · exact .inl rfl
theorem have_len (ms : List St.T) (d n i : Nat) : (have_ ms d n i).length = 0 ∨ (have_ ms d n i).length = 79 := by
  unfold have_
  split
  · exact dataRow_len _ _
  · exact parityRow_len _ _
/-- how many rows the parity members tell of -/
def rows : List St.T → Option Nat
  | [] => none
  | t :: l => if (Gr.sealed t).isSome = true then (if t.blocks.length < 2 then none else some (t.blocks.length - 2)) else rows l
end Go.Proofs.YtndofmoepjfnfaaGreat.Me
