/- What the document's own Good of a tape's block answers. A head in memory, and what a head that is read is (parted from RcWords, RcHead, RcRead: no function of package record). A slice of strings that reads as texts. No function of the program. Paths in memory: which bytes may stand, and how many parts a text has (parted from PtWords, PtPath, PtRight: no function of package path). What the document's own PathParts, RightPath answer. -/
import Derived.Test.YtndofmoepjfnfaaGreatMaq
import Derived.Test.YtndofmoepjfnfaaGreatRefFmG
import Derived.Test.YtndofmoepjfnfaaGreatMae
import Derived.Test.YtndofmoepjfnfaaGreatMas
import Derived.Test.YtndofmoepjfnfaaGreatMab
import Derived.Test.YtndofmoepjfnfaaGreatChecked
import Derived.OwnWalk
import Derived.Handy
import Derived.WalkSpells
import Derived.WalkLawsBesides
import Derived.Test.YtndofmoepjfnfaaGreatMac
import Derived.Deep.AppendLies
import Derived.Below
import Derived.Laws.OwnMore
import Derived.Laws.Concat
import Derived.Laws.Strings2
import Derived.Laws.NewBlocks
import Derived.WalkKit
import Derived.Lib.Hide
import Derived.Maps.AppendAt
import Derived.Laws.AppendOwn
namespace Go.Proofs.YtndofmoepjfnfaaGreat
open Go.RowKit
open Pt (Tx)

set_option maxHeartbeats 400000 in
theorem refGood_out (lab cap : Int) (bs : List Tx) (A : Option Addr) (L C : Nat) (lost : Bool) (n : Int) (w : World) (hL : L = bs.length) (h : lost = true ∨ n < 0 ∨ (bs.length : Int) ≤ n) :
    Calls Tryz.prog 35 #[.agg #[.int .i64 lab, .int .i64 cap, .slice A L C, .bool lost], .int .i64 n] w (GoodA (Vo.goodZ ⟨lab, bs, lost⟩ n) w) := by
  have HG := Lib.hid (goodZ_no (lab := lab) h)
  obtain ⟨wb, hwb⟩ : ∃ wb, wb = (w.alloc (tapeObj lab cap A L C lost)).alloc (unitObj 0 0 0 none 0 0) := ⟨_, rfl⟩
  obtain ⟨hB, hT, hU⟩ := two_blocks hwb
  have HB := Lib.hid hB
  have HU := Lib.hid hU
  have HT := Lib.hid hT
  have HW := Lib.hid hwb
  unfold tapeObj unitObj at HW
  obtain ⟨t0, t1, t2, t3⟩ := tape4 hT
  obtain ⟨z0, z1, z2, z3⟩ := unit4 hU
  rw [hwb] at t0 t1 t2 t3
  rw [← hL] at h
  clear hB hT hU hwb hL
  have hq : lost = true ∨ (lost = false ∧ decide (n < 0) = true) ∨ (lost = false ∧ decide (n < 0) = false ∧ decide ((L : Int) ≤ n) = true) := by
    cases lost with
    | true => exact .inl rfl
    | false =>
      refine .inr ?_
      by_cases h0 : n < 0
      · exact .inl ⟨rfl, decide_eq_true h0⟩
      · exact .inr ⟨rfl, decide_eq_false h0, decide_eq_true (by rcases h with h | h | h; · cases h
                                                                · exact absurd h h0
                                                                · exact h)⟩
  clear h
  rcases hq with rfl | ⟨rfl, q1⟩ | ⟨rfl, q1, q2⟩
  all_goals
    go_enter Tryz.func35, Tryz.ntmps35
    go_wp2_with fail
    rw [← HW.out]
    refine bodyPost_ret (v := .tuple #[.agg #[.int .i64 0, .int .i64 0, .int .i64 0, .slice none 0 0], .bool false]) (by simp [results, Tryz.results35, go_sem, z0, z1, z2, z3]) rfl ?_
    rw [HG.out]
    exact ⟨none, 0, 0, rfl, rfl, Nat.le_refl _, fun _ => ⟨rfl, rfl⟩, RdL.empty _ _ _, HB.out⟩
set_option maxHeartbeats 4000000 in
theorem refGood_in (lab cap : Int) (bs : List Tx) (A : Option Addr) (L C : Nat) (G : Nat → Prop) (n : Nat) (w : World) (hL : L = bs.length) (hr : RdB w A bs G) (hn : n < bs.length) (hl : ∀ s ∈ bs, s.length ≤ 1000) :
    Calls Tryz.prog 35 #[.agg #[.int .i64 lab, .int .i64 cap, .slice A L C, .bool false], .int .i64 n] w (GoodA (Vo.good ⟨lab, bs, false⟩ n) w) := by
  obtain ⟨b, off, A1, C1, rfl, hg1, hc1, hC1, hN1, hr1⟩ := hr.at_ hn
  obtain ⟨s, hsd⟩ : ∃ s, s = bs[n] := ⟨_, rfl⟩
  have hsl : s.length ≤ 1000 := by rw [hsd]; exact hl _ (List.getElem_mem hn)
  have HG := Lib.hid (good_is (lab := lab) hn)
  rw [← hsd] at HG hc1 hC1 hN1 hr1
  obtain ⟨S, hS⟩ : ∃ S, S = s.length := ⟨_, rfl⟩
  rw [← hS] at hc1 hC1 hN1 hsl
  obtain ⟨wb, hwb⟩ : ∃ wb, wb = (w.alloc (tapeObj lab cap (some ⟨b, off, none⟩) L C false)).alloc (unitObj 0 0 0 none 0 0) := ⟨_, rfl⟩
  obtain ⟨hB, hT, hU⟩ := two_blocks hwb
  have hcb : wb.cell? ⟨b, off + n, none⟩ = some (.slice A1 S C1) := (hB.cell (World.block_lt_of_cell? _ _ hc1)).trans hc1
  have HGET := Lib.hid (refGet_len A1 s S C1 G wb hS hC1 hsl hN1 (hr1.old hB))
  have HB := Lib.hid hB
  have HU := Lib.hid hU
  have HT := Lib.hid hT
  have HW := Lib.hid hwb
  unfold tapeObj unitObj at HW
  obtain ⟨t0, t1, t2, t3⟩ := tape4 hT
  have q1 : decide ((n : Int) < 0) = false := decide_eq_false (by omega)
  have q2 : decide ((L : Int) ≤ (n : Int)) = false := decide_eq_false (by omega)
  have q3 : decide (L ≤ n) = false := decide_eq_false (by omega)
  have q4 : n < L := by omega
  obtain ⟨ge, hge⟩ : ∃ ge, ge = Fm.gotE s := ⟨_, rfl⟩
  obtain ⟨k, lb, nb, ld, hu⟩ : ∃ k lb nb ld, Fm.got s = ⟨k, lb, nb, ld⟩ := ⟨_, _, _, _, rfl⟩
  unfold GotU at HGET
  rw [hu, ← hge] at HGET
  have hcase : (ge = 0 ∧ lb = lab ∧ nb = (n : Int) ∧ Vo.good ⟨lab, bs, false⟩ n = some ⟨k, lb, nb, ld⟩) ∨ (Vo.good ⟨lab, bs, false⟩ n = none ∧ ((ge != 0) = true ∨ ((ge != 0) = false ∧ (lb != lab) = true) ∨ ((ge != 0) = false ∧ (lb != lab) = false ∧ (nb != (n : Int)) = true))) := by
    have h := HG.out
    by_cases hgd : Fm.Good s
    · rw [Fm.gotE_yes hgd] at hge
      rw [Fm.got_yes hgd] at hu
      rw [hu] at h
      by_cases h1 : lb = lab
      · by_cases h2 : nb = (n : Int)
        · refine .inl ⟨hge, h1, h2, ?_⟩
          rw [h, if_pos ⟨hgd, h1, h2⟩]
        · refine .inr ⟨?_, .inr (.inr ⟨by rw [hge]; rfl, by rw [h1]; simp, by simpa using h2⟩)⟩
          rw [h, if_neg fun h' => h2 h'.2.2]
      · refine .inr ⟨?_, .inr (.inl ⟨by rw [hge]; rfl, by simpa using h1⟩)⟩
        rw [h, if_neg fun h' => h1 h'.2.1]
    · rw [Fm.gotE_no hgd] at hge
      refine .inr ⟨?_, .inl (by rw [hge]; rfl)⟩
      rw [h, if_neg fun h' => hgd h'.1]
  clear HG hg1 hc1 hC1 hN1 hr1 hS hsl hu hge hr hl hL hn hB hT hU hsd
  rcases hcase with ⟨rfl, rfl, hnb, hres⟩ | ⟨hres, hq⟩
  · have HRES := Lib.hid hres
    have hq5 : (nb != (n : Int)) = false := by simp [hnb]
    clear hres hnb
    rw [HW.out] at t0 t1 t2 t3 hcb
    go_enter Tryz.func35, Tryz.ntmps35
    go_wp2_with fail
    rw [← HW.out]
    refine HGET.out.mono ?_
    rintro e w1 ⟨A2, m2, C2, rfl, hm2, hc2, hn2, hr2, hb2⟩
    obtain ⟨wc, hwc⟩ : ∃ wc, wc = w1.alloc (unitObj k lb nb A2 m2 C2) := ⟨_, rfl⟩
    have hb3 : Below w1.heap.size w1 wc := by rw [hwc]; exact (Below.refl _ _).alloc (Nat.le_refl _) _
    have hbc := hb2.trans (hb3.mono hb2.size)
    have hY : wc.heap[w1.heap.size]? = some (unitObj k lb nb A2 m2 C2) := by rw [hwc]; exact Go.Deep.blk_alloc_new _ _
    have hZ := (hbc.block _ (heap_lt HU.out)).trans HU.out
    have hT3 := below_tape hbc HT.out
    obtain ⟨t0', t1', t2', t3'⟩ := tape4 hT3
    obtain ⟨z0, z1, z2, z3⟩ := unit4 hZ
    obtain ⟨x0, x1, x2, x3⟩ := unit4 hY
    have y0 : wc.frozen? ⟨w.heap.size + 1, 0, none⟩ = false := heap_frozen hZ
    have y1 : wc.frozen? ⟨w.heap.size + 1, 1, none⟩ = false := heap_frozen hZ
    have y2 : wc.frozen? ⟨w.heap.size + 1, 2, none⟩ = false := heap_frozen hZ
    have y3 : wc.frozen? ⟨w.heap.size + 1, 3, none⟩ = false := heap_frozen hZ
    have HR2 : Hid (RdL wc A2 ld (fun x => w.heap.size ≤ x ∧ x ≠ w.heap.size + 1)) := Lib.hid ((hr2.old hb3).mono fun x hx => by
      have h1 : w.heap.size + 2 ≤ wb.heap.size := by have := heap_lt HU.out; omega
      have h2 : wb.heap.size ≤ x := hx
      omega)
    have HB3 := Lib.hid (HB.out.trans (hbc.mono HB.out.size))
    have HM2 := Lib.hid hm2
    have HN2 := Lib.hid hn2
    have HWC := Lib.hid hwc
    unfold unitObj at HWC
    obtain ⟨y, hy⟩ : ∃ y, y = w1.heap.size := ⟨_, rfl⟩
    rw [← hy] at x0 x1 x2 x3
    have HY := Lib.hid hy
    have hZ2 := Lib.hid hZ
    clear hb2 hb3 hbc hZ hT3 hr2 hm2 hn2 hwc hY hy t0 t1 t2 t3 x0 x1 x2 x3
    rw [HWC.out] at z0 z1 z2 z3 y0 y1 y2 y3 t0' t1' t2' t3'
    go_wp2
    rw [← HWC.out]
    clear z0 z1 z2 z3
    obtain ⟨z0, z1, z2, z3⟩ := unit4 hZ2.out
    exact bodyPost_ret (v := .tuple #[.agg #[.int .i64 k, .int .i64 lb, .int .i64 nb, .slice A2 m2 C2], .bool true]) (by simp [results, Tryz.results35, go_sem, z0, z1, z2, z3]) rfl (GoodA.stored (u := ⟨k, lb, nb, ld⟩) (by rw [HRES.out]; rfl) (by rw [HRES.out]; rfl) (by omega) HR2.out HM2.out hc2 HN2.out HB3.out)
  · have HRES := Lib.hid hres
    clear hres
    rw [HW.out] at t0 t1 t2 t3 hcb
    rcases hq with p1 | ⟨p1, p2⟩ | ⟨p1, p2, p3⟩
    all_goals
      go_enter Tryz.func35, Tryz.ntmps35
      go_wp2_with fail
      rw [← HW.out]
      refine HGET.out.mono ?_
      rintro e w1 ⟨A2, m2, C2, rfl, hm2, hc2, hn2, hr2, hb2⟩
      obtain ⟨wc, hwc⟩ : ∃ wc, wc = w1.alloc (unitObj k lb nb A2 m2 C2) := ⟨_, rfl⟩
      have hb3 : Below w1.heap.size w1 wc := by rw [hwc]; exact (Below.refl _ _).alloc (Nat.le_refl _) _
      have hbc := hb2.trans (hb3.mono hb2.size)
      have hY : wc.heap[w1.heap.size]? = some (unitObj k lb nb A2 m2 C2) := by rw [hwc]; exact Go.Deep.blk_alloc_new _ _
      have hZ := (hbc.block _ (heap_lt HU.out)).trans HU.out
      have hT3 := below_tape hbc HT.out
      obtain ⟨t0', t1', t2', t3'⟩ := tape4 hT3
      obtain ⟨z0, z1, z2, z3⟩ := unit4 hZ
      obtain ⟨x0, x1, x2, x3⟩ := unit4 hY
      have y0 : wc.frozen? ⟨w.heap.size + 1, 0, none⟩ = false := heap_frozen hZ
      have y1 : wc.frozen? ⟨w.heap.size + 1, 1, none⟩ = false := heap_frozen hZ
      have y2 : wc.frozen? ⟨w.heap.size + 1, 2, none⟩ = false := heap_frozen hZ
      have y3 : wc.frozen? ⟨w.heap.size + 1, 3, none⟩ = false := heap_frozen hZ
      have HR2 : Hid (RdL wc A2 ld (fun x => w.heap.size ≤ x ∧ x ≠ w.heap.size + 1)) := Lib.hid ((hr2.old hb3).mono fun x hx => by
        have h1 : w.heap.size + 2 ≤ wb.heap.size := by have := heap_lt HU.out; omega
        have h2 : wb.heap.size ≤ x := hx
        omega)
      have HB3 := Lib.hid (HB.out.trans (hbc.mono HB.out.size))
      have HM2 := Lib.hid hm2
      have HN2 := Lib.hid hn2
      have HWC := Lib.hid hwc
      unfold unitObj at HWC
      obtain ⟨y, hy⟩ : ∃ y, y = w1.heap.size := ⟨_, rfl⟩
      rw [← hy] at x0 x1 x2 x3
      have HY := Lib.hid hy
      have hZ2 := Lib.hid hZ
      clear hb2 hb3 hbc hZ hT3 hr2 hm2 hn2 hwc hY hy t0 t1 t2 t3 x0 x1 x2 x3
      rw [HWC.out] at z0 z1 z2 z3 y0 y1 y2 y3 t0' t1' t2' t3'
      go_wp2
      rw [← HWC.out]
      clear z0 z1 z2 z3
      obtain ⟨z0, z1, z2, z3⟩ := unit4 hZ2.out
      exact bodyPost_ret (v := .tuple #[.agg #[.int .i64 0, .int .i64 0, .int .i64 0, .slice none 0 0], .bool false]) (by simp [results, Tryz.results35, go_sem, z0, z1, z2, z3]) rfl (GoodA.stored (u := Fm.zero) (by rw [HRES.out]; rfl) (by rw [HRES.out]; rfl) (by omega) (RdL.empty _ _ _) rfl (Nat.le_refl _) (fun _ => ⟨rfl, rfl⟩) HB3.out)
theorem refGood_any (lab cap : Int) (bs : List Tx) (A : Option Addr) (L C : Nat) (G : Nat → Prop) (lost : Bool) (n : Int) (w : World) (hL : L = bs.length) (hr : RdB w A bs G) (hl : ∀ s ∈ bs, s.length ≤ 1000) :
    Calls Tryz.prog 35 #[.agg #[.int .i64 lab, .int .i64 cap, .slice A L C, .bool lost], .int .i64 n] w (GoodA (Vo.goodZ ⟨lab, bs, lost⟩ n) w) := by
  by_cases h : lost = true ∨ n < 0 ∨ (bs.length : Int) ≤ n
  · exact refGood_out lab cap bs A L C lost n w hL h
  · have h1 : lost = false := by cases lost with
      | true => exact absurd (.inl rfl) h
      | false => rfl
    subst h1
    have h2 : 0 ≤ n ∧ n < (bs.length : Int) := by
      constructor
      · rcases Int.lt_or_le n 0 with h' | h'
        · exact absurd (.inr (.inl h')) h
        · exact h'
      · rcases Int.lt_or_le n (bs.length : Int) with h' | h'
        · exact h'
        · exact absurd (.inr (.inr h')) h
    obtain ⟨m, rfl⟩ : ∃ m : Nat, n = (m : Int) := ⟨n.toNat, by omega⟩
    have h3 : Vo.goodZ ⟨lab, bs, false⟩ (m : Int) = Vo.good ⟨lab, bs, false⟩ m := by
      unfold Vo.goodZ
      rw [if_neg (by omega)]; rfl
    rw [h3]
    exact refGood_in lab cap bs A L C G m w hL hr (by omega) hl
end Go.Proofs.YtndofmoepjfnfaaGreat
namespace Go.Proofs.YtndofmoepjfnfaaGreat
open Go.RowKit
open Pt (Tx)

/-- the head in a block -/
def headObj (p : Tx) (v z f l s m : Int) (g : Bool) : Obj := .cells #[.string (tx p), .int .i64 v, .int .i64 z, .int .i64 f, .int .i64 l, .int .i64 s, .int .i64 m, .bool g] 30
theorem head8 {w : World} {B : Nat} {p : Tx} {v z f l s m : Int} {g : Bool} (h : w.heap[B]? = some (headObj p v z f l s m g)) :
    w.cell? ⟨B, 0, none⟩ = some (.string (tx p)) ∧ w.cell? ⟨B, 1, none⟩ = some (.int .i64 v) ∧ w.cell? ⟨B, 2, none⟩ = some (.int .i64 z) ∧ w.cell? ⟨B, 3, none⟩ = some (.int .i64 f)
      ∧ w.cell? ⟨B, 4, none⟩ = some (.int .i64 l) ∧ w.cell? ⟨B, 5, none⟩ = some (.int .i64 s) ∧ w.cell? ⟨B, 6, none⟩ = some (.int .i64 m) ∧ w.cell? ⟨B, 7, none⟩ = some (.bool g) :=
  ⟨heap_cell h, heap_cell h, heap_cell h, heap_cell h, heap_cell h, heap_cell h, heap_cell h, heap_cell h⟩
theorem head_free {w : World} {B : Nat} {p : Tx} {v z f l s m : Int} {g : Bool} (h : w.heap[B]? = some (headObj p v z f l s m g)) :
    w.frozen? ⟨B, 0, none⟩ = false ∧ w.frozen? ⟨B, 1, none⟩ = false ∧ w.frozen? ⟨B, 2, none⟩ = false ∧ w.frozen? ⟨B, 3, none⟩ = false
      ∧ w.frozen? ⟨B, 4, none⟩ = false ∧ w.frozen? ⟨B, 5, none⟩ = false ∧ w.frozen? ⟨B, 6, none⟩ = false ∧ w.frozen? ⟨B, 7, none⟩ = false :=
  ⟨heap_frozen h, heap_frozen h, heap_frozen h, heap_frozen h, heap_frozen h, heap_frozen h, heap_frozen h, heap_frozen h⟩
theorem below_head {p : Tx} {v z f l s m : Int} {g : Bool} {B : Nat} {x y : World} (hb : Below x.heap.size x y) (h : x.heap[B]? = some (headObj p v z f l s m g)) : y.heap[B]? = some (headObj p v z f l s m g) :=
  (hb.block B (heap_lt h)).trans h
theorem kp_head {B gr : Nat} {x y : World} {p : Tx} {v z f l s m : Int} {g : Bool} (hk : Kp (· = gr) x y) (hne : ¬ B = gr) (h : x.heap[B]? = some (headObj p v z f l s m g)) : y.heap[B]? = some (headObj p v z f l s m g) :=
  (hk.block B (heap_lt h) hne).trans h
/-- what ReadHead answers -/
def GotH (b : Tx) (w : World) (e : Ending) (w' : World) : Prop :=
  e = .returned (.tuple #[.agg #[.string (tx (Rc.got b).path), .int .i64 (Rc.got b).version, .int .i64 (Rc.got b).size, .int .i64 (Rc.got b).from_, .int .i64 (Rc.got b).len, .int .i64 (Rc.got b).serial, .int .i64 (Rc.got b).sum, .bool (Rc.got b).gone], .int .i64 (Rc.gotE b)]) ∧ Below w.heap.size w w'
theorem GotH.stored {b : Tx} {w x : World} {B : Nat} {h : Rc.H} {er : Int} (hu : Rc.got b = h) (he : Rc.gotE b = er) (hB : B = w.heap.size) (hb : Below w.heap.size w x) (a0 a1 a2 a3 a4 a5 a6 a7 : Value) :
    GotH b w (.returned (.tuple #[.agg #[.string (tx h.path), .int .i64 h.version, .int .i64 h.size, .int .i64 h.from_, .int .i64 h.len, .int .i64 h.serial, .int .i64 h.sum, .bool h.gone], .int .i64 er]))
      ((((((((x.setCell ⟨B, 0, none⟩ a0).setCell ⟨B, 1, none⟩ a1).setCell ⟨B, 2, none⟩ a2).setCell ⟨B, 3, none⟩ a3).setCell ⟨B, 4, none⟩ a4).setCell ⟨B, 5, none⟩ a5).setCell ⟨B, 6, none⟩ a6).setCell ⟨B, 7, none⟩ a7) := by
  subst hB
  have hk : Kp (· = w.heap.size) x ((((((((x.setCell ⟨w.heap.size, 0, none⟩ a0).setCell ⟨w.heap.size, 1, none⟩ a1).setCell ⟨w.heap.size, 2, none⟩ a2).setCell ⟨w.heap.size, 3, none⟩ a3).setCell ⟨w.heap.size, 4, none⟩ a4).setCell ⟨w.heap.size, 5, none⟩ a5).setCell ⟨w.heap.size, 6, none⟩ a6).setCell ⟨w.heap.size, 7, none⟩ a7) :=
    (((((((Kp.store _ _ _ _).trans (Kp.store _ _ _ _)).trans (Kp.store _ _ _ _)).trans (Kp.store _ _ _ _)).trans (Kp.store _ _ _ _)).trans (Kp.store _ _ _ _)).trans (Kp.store _ _ _ _)).trans (Kp.store _ _ _ _)
  exact ⟨by rw [hu, he], hb.trans (hk.below hb.size (fun x hx => by omega))⟩
theorem t_len (b : Tx) : (Rc.t1 b).1.length ≤ b.length ∧ (Rc.t2 b).1.length ≤ b.length ∧ (Rc.t3 b).1.length ≤ b.length ∧ (Rc.t4 b).1.length ≤ b.length ∧ (Rc.t5 b).1.length ≤ b.length ∧ (Rc.t6 b).1.length ≤ b.length ∧ (Rc.t7 b).1.length ≤ b.length := by
  have h1 : (Rc.t1 b).1.length ≤ b.length := Nat.le_trans (Cd.af_le _ _) (Cd.af_le _ (b, false))
  have h2 : (Rc.t2 b).1.length ≤ (Rc.t1 b).1.length := Cd.af_le _ _
  have h3 : (Rc.t3 b).1.length ≤ (Rc.t2 b).1.length := Cd.af_le _ _
  have h4 : (Rc.t4 b).1.length ≤ (Rc.t3 b).1.length := Cd.af_le _ _
  have h5 : (Rc.t5 b).1.length ≤ (Rc.t4 b).1.length := Cd.af_le _ _
  have h6 : (Rc.t6 b).1.length ≤ (Rc.t5 b).1.length := Cd.af_le _ _
  have h7 : (Rc.t7 b).1.length ≤ (Rc.t6 b).1.length := Cd.af_le _ _
  omega
theorem gone_beq (c : UInt8) : (((c.toNat : Nat) : Int) == 1) = (c == 1) := by
  rw [Bool.eq_iff_iff, beq_iff_eq, beq_iff_eq]
  constructor
  · intro h; exact UInt8.toNat.inj (by have : c.toNat = 1 := by omega
                                       rw [this]; rfl)
  · rintro rfl; rfl
end Go.Proofs.YtndofmoepjfnfaaGreat
namespace Go.Proofs.YtndofmoepjfnfaaGreat
open Go.RowKit
open Pt (Tx)

theorem retB {a b : Bool} (h : a = b) : Ending.returned (Value.bool a) = Ending.returned (Value.bool b) := by rw [h]
/-- the cells of texts -/
def cellsT (ps : List Tx) : List Value := ps.map fun p => .string (tx p)
theorem cellsT_len (ps : List Tx) : (cellsT ps).length = ps.length := by simp [cellsT]
theorem cellsT_get {ps : List Tx} {j : Nat} {p : Tx} (h : ps[j]? = some p) : (cellsT ps)[j]? = some (.string (tx p)) := by simp [cellsT, h]
/-- a slice of strings that reads as texts -/
def TxR (w : World) (A : Option Addr) (ps : List Tx) : Prop := 0 < ps.length → ∃ b off, A = some ⟨b, off, none⟩ ∧ ∀ j p, ps[j]? = some p → w.cell? ⟨b, off + j, none⟩ = some (.string (tx p))
theorem TxR.empty (w : World) (A : Option Addr) : TxR w A [] := fun h => absurd h (by simp)
theorem TxR.old {w w' : World} {A : Option Addr} {ps : List Tx} (h : TxR w A ps) (hb : Below w.heap.size w w') : TxR w' A ps := fun h0 => by
  obtain ⟨b, off, e, hc⟩ := h h0
  refine ⟨b, off, e, fun j p hp => ?_⟩
  have := hc j p hp
  rw [hb.cell (World.block_lt_of_cell? _ _ this)]; exact this
theorem TxR.at {w : World} {A : Option Addr} {ps : List Tx} (h : TxR w A ps) {j : Nat} (hj : j < ps.length) : ∃ b off, A = some ⟨b, off, none⟩ ∧ w.cell? ⟨b, off + j, none⟩ = some (.string (tx ps[j])) := by
  obtain ⟨b, off, e, hc⟩ := h (by omega)
  exact ⟨b, off, e, hc j _ (List.getElem?_eq_getElem hj)⟩
/-- texts made by append -/
theorem TxR.of_owns {w : World} {B : Nat} {v : Value} {n : Nat} {ps : List Tx} (h : w.ownsRow B 9 1 v n (cellsT ps)) : ∃ A c, v = .slice A ps.length c ∧ TxR w A ps := by
  have hn : n = ps.length := by have := h.1; rw [cellsT_len] at this; omega
  subst hn
  rcases Nat.eq_zero_or_pos ps.length with h0 | h0
  · rcases h.2 with ⟨rfl, _⟩ | ⟨g, cap, cur, rfl, _⟩
    · exact ⟨none, 0, by rw [h0], fun h => absurd h (by omega)⟩
    · exact ⟨_, cap, rfl, fun h => absurd h (by omega)⟩
  · obtain ⟨g, cap, hv, _, _⟩ := h.form h0
    refine ⟨some ⟨g, 0, none⟩, cap, hv, fun _ => ⟨g, 0, rfl, fun j p hp => ?_⟩⟩
    have := h.cells (g := g) (by rw [hv]; rfl) j _ (cellsT_get hp)
    have e : (⟨g, 0, none⟩ : Addr).add j = ⟨g, j, none⟩ := by unfold Addr.add; split <;> simp_all
    rw [e] at this
    rw [Nat.zero_add]; exact this
end Go.Proofs.YtndofmoepjfnfaaGreat
namespace Go.Proofs.YtndofmoepjfnfaaGreat
open Go.RowKit
open Pt (Tx)

/-- texts, in new memory or where they were -/
def TxAns (ps : List Tx) (w : World) (e : Ending) (w' : World) : Prop := ∃ A c, e = .returned (.slice A ps.length c) ∧ TxR w' A ps ∧ Below w.heap.size w w'
theorem TxAns.empty {w w' : World} (h : Below w.heap.size w w') : TxAns [] w (.returned (.slice none 0 0)) w' := ⟨none, 0, rfl, TxR.empty _ _, h⟩
def okI (x : Int) : Bool := (decide (97 ≤ x) && decide (x ≤ 122)) || (decide (48 ≤ x) && decide (x ≤ 57)) || (x == 46 || x == 45 || x == 95)
theorem okI_ok (c : UInt8) : okI (c.toNat : Int) = Pt.ok c := by
  rw [Bool.eq_iff_iff]
  simp only [okI, Pt.ok, Bool.or_eq_true, Bool.and_eq_true, decide_eq_true_eq, beq_iff_eq]
  omega
theorem okI_yes {x : Int} (h : (97 ≤ x ∧ x ≤ 122) ∨ (48 ≤ x ∧ x ≤ 57) ∨ x = 46 ∨ x = 45 ∨ x = 95) : true = okI x := by
  symm
  simp only [okI, Bool.or_eq_true, Bool.and_eq_true, decide_eq_true_eq, beq_iff_eq]
  omega
theorem okI_three {x : Int} (h : ¬ (97 ≤ x ∧ x ≤ 122) ∧ ¬ (48 ≤ x ∧ x ≤ 57)) : (x == 46 || x == 45 || x == 95) = okI x := by
  rw [Bool.eq_iff_iff]
  simp only [okI, Bool.or_eq_true, Bool.and_eq_true, decide_eq_true_eq, beq_iff_eq]
  omega
theorem part_false {p : Tx} (h : p = [] ∨ p = [46] ∨ p = [46, 46] ∨ p.all Pt.ok = false) : Pt.part p = false := by
  unfold Pt.part
  rcases h with rfl | rfl | rfl | h
  · decide
  · decide
  · decide
  · rw [h]; simp
theorem part_true {p : Tx} (h1 : p ≠ []) (h2 : p ≠ [46]) (h3 : p ≠ [46, 46]) (h : p.all Pt.ok = true) : Pt.part p = true := by
  unfold Pt.part
  rw [h]
  simp [h1, h2, h3]
theorem cutW_short : ∀ (l p : Tx), ∀ x ∈ Pt.cutW p l, x.length ≤ p.length + l.length
  | [], p, x, h => by simp only [Pt.cutW, List.mem_singleton] at h; rw [h]; simp
  | c :: l, p, x, h => by
    unfold Pt.cutW at h
    by_cases e : c = 47
    · rw [if_pos e, List.mem_cons] at h
      rcases h with rfl | h
      · simp
      · have := cutW_short l [] x h
        simp at this ⊢; omega
    · rw [if_neg e] at h
      have := cutW_short l _ x h
      simp at this ⊢; omega
theorem cut_short {s : Tx} {j : Nat} (h : j < (Pt.cut s).length) : ((Pt.cut s)[j]).length ≤ s.length := by
  have := cutW_short s [] _ (List.getElem_mem h)
  simpa using this
theorem cutW_few : ∀ (l p : Tx), (Pt.cutW p l).length ≤ l.length + 1
  | [], p => by simp [Pt.cutW]
  | c :: l, p => by
    unfold Pt.cutW
    split
    · have := cutW_few l []; simp; omega
    · have := cutW_few l (p ++ [c]); simp; omega
theorem cut_few (s : Tx) : (Pt.cut s).length ≤ s.length + 1 := cutW_few s []
end Go.Proofs.YtndofmoepjfnfaaGreat
namespace Go.Proofs.YtndofmoepjfnfaaGreat
open Go.RowKit
open Pt (Tx)

theorem infoText : (Tryz.prog.info? 9).map (fun i => (i.zero, i.size, i.bytes)) = some (some (.string ByteArray.empty), 1, 16) := by kernel_rfl
theorem oneText (x : ByteArray) : ∀ u ∈ [Value.string x], u.oneCell' = true := by
  intro u hu; simp at hu; subst hu; rfl
theorem cellsT_snoc (ps : List Tx) (p : Tx) : cellsT ps ++ [.string (tx p)] = cellsT (ps ++ [p]) := by simp [cellsT]
/-- how far the loop is -/
def Far (s : Tx) (i : Nat) (p : Tx) (done : List Tx) : Prop :=
  done.length ≤ i ∧ p.length ≤ i ∧ p.all Pt.ok = true ∧ done.all Pt.part = true ∧ (i ≤ s.length → Pt.cut s = done ++ Pt.cutW p (s.drop i)) ∧ (s.length < i → Pt.cut s = done)
theorem Far.start (s : Tx) : Far s 0 [] [] := ⟨Nat.le_refl _, Nat.le_refl _, rfl, rfl, fun _ => rfl, fun h => absurd h (by omega)⟩
theorem Far.step {s : Tx} {i : Nat} {p : Tx} {done : List Tx} (h : Far s i p done) (hi : i < s.length) (hc : Pt.ok s[i] = true) : Far s (i + 1) (p ++ [s[i]]) done := by
  obtain ⟨h1, h2, h3, h4, h5, h6⟩ := h
  refine ⟨by omega, by simp; omega, by rw [List.all_append, h3]; simp [hc], h4, fun _ => ?_, fun h => absurd h (by omega)⟩
  rw [h5 (by omega), List.drop_eq_getElem_cons hi, Pt.cutW, if_neg]
  intro e; rw [e, Pt.ok_sep] at hc; cases hc
theorem Far.cut {s : Tx} {i : Nat} {p : Tx} {done : List Tx} (h : Far s i p done) (hi : i < s.length) (hc : s[i] = 47) (hp : Pt.part p = true) : Far s (i + 1) [] (done ++ [p]) := by
  obtain ⟨h1, h2, h3, h4, h5, h6⟩ := h
  refine ⟨by simp; omega, by simp, rfl, by rw [List.all_append, h4]; simp [hp], fun _ => ?_, fun h => absurd h (by omega)⟩
  rw [h5 (by omega), List.drop_eq_getElem_cons hi, Pt.cutW, if_pos hc]; simp
theorem Far.last {s : Tx} {i : Nat} {p : Tx} {done : List Tx} (h : Far s i p done) (hi : i = s.length) (hp : Pt.part p = true) : Far s (i + 1) [] (done ++ [p]) := by
  obtain ⟨h1, h2, h3, h4, h5, h6⟩ := h
  refine ⟨by simp; omega, by simp, rfl, by rw [List.all_append, h4]; simp [hp], fun h => absurd h (by omega), fun _ => ?_⟩
  rw [h5 (by omega), List.drop_of_length_le (by omega)]; rfl
theorem Far.badByte {s : Tx} {i : Nat} {p : Tx} {done : List Tx} (h : Far s i p done) (hi : i < s.length) (hc : Pt.ok s[i] = false) (hn : s[i] ≠ 47) : Pt.parts s = [] := by
  obtain ⟨h1, h2, h3, h4, h5, h6⟩ := h
  refine Pt.parts_wrong (Pt.right_false_of ?_)
  rw [h5 (by omega), List.drop_eq_getElem_cons hi, Pt.cutW, if_neg hn]
  exact Pt.all_append_bad (Pt.all_bad _ _ (by rw [List.all_append]; simp [hc]))
theorem Far.badPart {s : Tx} {i : Nat} {p : Tx} {done : List Tx} (h : Far s i p done) (hi : i ≤ s.length) (hc : ∀ h : i < s.length, s[i] = 47) (hp : Pt.part p = false) : Pt.parts s = [] := by
  obtain ⟨h1, h2, h3, h4, h5, h6⟩ := h
  refine Pt.parts_wrong (Pt.right_false_of ?_)
  rw [h5 (by omega)]
  refine Pt.all_append_bad ?_
  by_cases hlt : i < s.length
  · rw [List.drop_eq_getElem_cons hlt, Pt.cutW, if_pos (hc hlt), List.all_cons, hp]; rfl
  · rw [List.drop_of_length_le (by omega)]
    simp [Pt.cutW, hp]
theorem Far.done {s : Tx} {i : Nat} {p : Tx} {done : List Tx} (h : Far s i p done) (hi : s.length < i) (h0 : 1 ≤ s.length) (h1 : s.length ≤ 24) : Pt.parts s = done := by
  have e := h.2.2.2.2.2 hi
  rw [Pt.parts_right (Pt.right_iff.2 ⟨h0, h1, by rw [e]; exact h.2.2.2.1⟩), e]
theorem part_of {p : Tx} (h : p.all Pt.ok = true) : Pt.part p = (!p.isEmpty && !(p == [46]) && !(p == [46, 46])) := by
  unfold Pt.part
  rw [h]
  cases p <;> simp
theorem ok_cases {c : UInt8} {x : Int} (hx : x = (c.toNat : Int)) (h : Pt.ok c = true) : (97 ≤ x ∧ x ≤ 122) ∨ (48 ≤ x ∧ x ≤ 57) ∨ x = 46 ∨ x = 45 ∨ x = 95 := by
  rw [← okI_ok, ← hx] at h
  simp only [okI, Bool.or_eq_true, Bool.and_eq_true, decide_eq_true_eq, beq_iff_eq] at h
  omega
theorem bad_cases {c : UInt8} {x : Int} (hx : x = (c.toNat : Int)) (h : Pt.ok c = false) : ((x < 48 ∧ x ≠ 46 ∧ x ≠ 45) ∨ (57 < x ∧ x < 97 ∧ x ≠ 95) ∨ 122 < x) := by
  rw [← okI_ok, ← hx] at h
  have h' : ¬ okI x = true := by rw [h]; simp
  simp only [okI, Bool.or_eq_true, Bool.and_eq_true, decide_eq_true_eq, beq_iff_eq] at h'
  omega
theorem bad_facts {c : UInt8} {x : Int} (hx : x = (c.toNat : Int)) (h : Pt.ok c = false) : (decide (97 ≤ x) = false ∧ decide (48 ≤ x) = false) ∨ (decide (97 ≤ x) = false ∧ decide (48 ≤ x) = true ∧ decide (x ≤ 57) = false) ∨ (decide (97 ≤ x) = true ∧ decide (x ≤ 122) = false ∧ decide (48 ≤ x) = true ∧ decide (x ≤ 57) = false) := by
  have := bad_cases hx h
  simp only [decide_eq_true_eq, decide_eq_false_iff_not]
  omega
theorem bad_three {c : UInt8} {x : Int} (hx : x = (c.toNat : Int)) (h : Pt.ok c = false) : (x == 46) = false ∧ (x == 45) = false ∧ (x == 95) = false := by
  have := bad_cases hx h
  refine ⟨beq_eq_false_iff_ne.2 (by omega), beq_eq_false_iff_ne.2 (by omega), beq_eq_false_iff_ne.2 (by omega)⟩
theorem sep_iff {c : UInt8} : (c.toNat : Int) = 47 ↔ c = 47 := by
  constructor
  · intro h; exact UInt8.toNat.inj (by have : c.toNat = 47 := by omega
                                       rw [this]; rfl)
  · rintro rfl; rfl
set_option maxRecDepth 100000 in
set_option maxHeartbeats 8000000 in
theorem refParts_any (s : Tx) (w : World) (hl : s.length ≤ maxLen) :
    Calls Tryz.prog 66 #[.string (tx s)] w (TxAns (Pt.parts s) w) := by
  unfold maxLen at hl
  have es := tx_size s
  by_cases h1 : s.length < 1
  · have H : Hid (Pt.parts s = []) := Lib.hid (Pt.parts_wrong (by unfold Pt.right; simp [show ¬ 1 ≤ s.length by omega]))
    go_enter Tryz.func66, Tryz.ntmps66
    go_wp2
    go_ret
    rw [H.out]
    exact TxAns.empty (Below.refl _ _)
  by_cases h2 : 24 < s.length
  · have H : Hid (Pt.parts s = []) := Lib.hid (Pt.parts_wrong (by unfold Pt.right; simp [show ¬ s.length ≤ 24 by omega]))
    have q1 : decide (s.length < 1) = false := decide_eq_false h1
    go_enter Tryz.func66, Tryz.ntmps66
    go_wp2
    go_ret
    rw [H.out]
    exact TxAns.empty (Below.refl _ _)
  have z1 : decide (s.length < 1) = false := decide_eq_false h1
  have z2 : decide ((s.length : Int) < 1) = false := decide_eq_false (by omega)
  have z3 : decide (24 < s.length) = false := decide_eq_false h2
  have z4 : decide (24 < (s.length : Int)) = false := decide_eq_false (by omega)
  go_enter Tryz.func66, Tryz.ntmps66
  go_wp2
  clear z1 z2 z3 z4
  go_loopw [5, 4, 3] (fun vi vw vl wr => ∃ (i : Nat) (p : Tx) (done : List Tx), i ≤ s.length + 1 ∧ vi = .int .i64 (i : Int) ∧ vw = .string (tx p) ∧ Hid (wr.ownsRow w.heap.size 9 1 vl done.length (cellsT done)) ∧ Hid (Far s i p done) ∧ Hid (Below w.heap.size w wr)) (fun vi _ _ _ => s.length + 1 - (intOf vi).toNat)
  case atStart => exact ⟨0, [], [], by omega, rfl, rfl, Lib.hid (World.ownsRow_nil _ _ _ _), Lib.hid (Far.start s), Lib.hid (Below.refl _ _)⟩
  case round =>
    obtain ⟨i, p, done, hi, rfl, rfl, HO, HF, HB⟩ := hrel
    by_cases hlt : i ≤ s.length
    · by_cases hlast : i = s.length
      · have q1 : ((i : Int) == (s.length : Int)) = true := by rw [hlast]; exact beq_self_eq_true _
        have HC : Hid (∀ h : i < s.length, s[i] = 47) := Lib.hid (fun h => absurd h (by omega))
        have HL : Hid (Pt.part p = true → Far s (i + 1) [] (done ++ [p])) := Lib.hid (HF.out.last hlast)
        have el := tx_toList p
        have HP : Hid (Pt.part p = (!p.isEmpty && !(p == [46]) && !(p == [46, 46]))) := Lib.hid (part_of HF.out.2.2.1)
        have hd : done.length ≤ i := HF.out.1
        clear hlast
        cases t1 : p.isEmpty <;> cases t2 : (p == [46]) <;> cases t3 : (p == [46, 46])
        · have HG := Lib.hid (HL.out (by rw [HP.out, t1, t2, t3]; rfl))
          obtain ⟨i0, hi0, hz0, hz1, hz2⟩ := info_parts infoText
          have hlow : w.heap.size ≤ wr.heap.size := HB.out.size
          have hown := HO.out
          go_wp2_with (at_builtin; refine wpList_append_own _ rfl _ _ 134 rfl w.heap.size 9 i0 (.string ByteArray.empty) 1 16 Tryz.underlying134 hi0 hz0 hz1 hz2 rfl (by decide) _ _ _ rfl (hown.alloc _) ⟨wr.heap.size, 0, none⟩ 1 1 [.string (tx p)] rfl rfl (cell_one_new _ _ _) (oneText _) (by unfold maxLen; omega) (by omega) (by simp; omega) ?_)
          intro v' w3 hown' hgrow _
          have HO3 : Hid (w3.ownsRow w.heap.size 9 1 v' (done ++ [p]).length (cellsT (done ++ [p]))) := by
            rw [← cellsT_snoc, List.length_append]
            exact Lib.hid hown'
          have HB3 := Lib.hid ((HB.out.alloc hlow _).grown hgrow (by simp; omega) (fun x hx => (HO.out.lt x hx).1))
          clear hown' hgrow hown
          go_wp2
          go_roundw
          case rel => exact ⟨i + 1, [], done ++ [p], by omega, by go_num, rfl, HO3, HG, HB3⟩
          case measure => simp [intOf]; omega
        all_goals
          have H : Hid (Pt.parts s = []) := Lib.hid (HF.out.badPart hlt HC.out (by rw [HP.out, t1, t2, t3]; rfl))
          go_wp2
          go_ret
          rw [H.out]
          exact TxAns.empty HB.out
      · have hlt' : i < s.length := by omega
        have q1 : ((i : Int) == (s.length : Int)) = false := beq_eq_false_iff_ne.2 (by omega)
        obtain ⟨x, hx⟩ : ∃ x : Int, x = (s[i].toNat : Int) := ⟨_, rfl⟩
        have hg : ∀ h : i < (tx s).size, (((tx s)[i]'h).toNat : Int) = x := fun h => by rw [tx_get s i h hlt', hx]
        by_cases hsep : s[i] = 47
        · have q2 : (x == 47) = true := beq_iff_eq.2 (by rw [hx]; exact sep_iff.2 hsep)
          have HC : Hid (∀ h : i < s.length, s[i] = 47) := Lib.hid (fun h => hsep)
          have HL : Hid (Pt.part p = true → Far s (i + 1) [] (done ++ [p])) := Lib.hid (HF.out.cut hlt' hsep)
          have el := tx_toList p
          have HP : Hid (Pt.part p = (!p.isEmpty && !(p == [46]) && !(p == [46, 46]))) := Lib.hid (part_of HF.out.2.2.1)
          have hd : done.length ≤ i := HF.out.1
          clear hsep hx hlast
          cases t1 : p.isEmpty <;> cases t2 : (p == [46]) <;> cases t3 : (p == [46, 46])
          · have HG := Lib.hid (HL.out (by rw [HP.out, t1, t2, t3]; rfl))
            obtain ⟨i0, hi0, hz0, hz1, hz2⟩ := info_parts infoText
            have hlow : w.heap.size ≤ wr.heap.size := HB.out.size
            have hown := HO.out
            go_wp2_with (at_builtin; refine wpList_append_own _ rfl _ _ 134 rfl w.heap.size 9 i0 (.string ByteArray.empty) 1 16 Tryz.underlying134 hi0 hz0 hz1 hz2 rfl (by decide) _ _ _ rfl (hown.alloc _) ⟨wr.heap.size, 0, none⟩ 1 1 [.string (tx p)] rfl rfl (cell_one_new _ _ _) (oneText _) (by unfold maxLen; omega) (by omega) (by simp; omega) ?_)
            intro v' w3 hown' hgrow _
            have HO3 : Hid (w3.ownsRow w.heap.size 9 1 v' (done ++ [p]).length (cellsT (done ++ [p]))) := by
              rw [← cellsT_snoc, List.length_append]
              exact Lib.hid hown'
            have HB3 := Lib.hid ((HB.out.alloc hlow _).grown hgrow (by simp; omega) (fun x hx => (HO.out.lt x hx).1))
            clear hown' hgrow hown
            go_wp2
            go_roundw
            case rel => exact ⟨i + 1, [], done ++ [p], by omega, by go_num, rfl, HO3, HG, HB3⟩
            case measure => simp [intOf]; omega
          all_goals
            have H : Hid (Pt.parts s = []) := Lib.hid (HF.out.badPart hlt HC.out (by rw [HP.out, t1, t2, t3]; rfl))
            go_wp2
            go_ret
            rw [H.out]
            exact TxAns.empty HB.out
        · have q2 : (x == 47) = false := beq_eq_false_iff_ne.2 (fun e => hsep (sep_iff.1 (by rw [← hx]; exact e)))
          cases hok : Pt.ok s[i] with
          | false =>
            have H : Hid (Pt.parts s = []) := Lib.hid (HF.out.badByte hlt' hok hsep)
            obtain ⟨q46, q45, q95⟩ := bad_three hx hok
            rcases bad_facts hx hok with ⟨d97, d48⟩ | ⟨d97, d48, d57⟩ | ⟨d97, d122, d48, d57⟩
            all_goals
              clear hx hok hsep hlast
              go_wp2
              go_ret
              rw [H.out]
              exact TxAns.empty HB.out
          | true =>
            have HG := Lib.hid (HF.out.step hlt' hok)
            have hpl : p.length ≤ i := HF.out.2.1
            have ep := tx_size p
            have ee : (tx s).extract i (i + 1) = tx [s[i]] := by
              rw [tx_extract, List.drop_eq_getElem_cons hlt', show i + 1 - i = 1 by omega]; rfl
            have e1 : (tx [s[i]]).size = 1 := tx_size _
            have ea : tx p ++ tx [s[i]] = tx (p ++ [s[i]]) := tx_append _ _
            rcases ok_cases hx hok with ⟨b1, b2⟩ | ⟨b1, b2⟩ | b1 | b1 | b1
            all_goals
              clear hx hok hsep hlast
              go_wp2
              go_roundw
              case rel => exact ⟨i + 1, p ++ [s[i]], done, by omega, by go_num, rfl, HO, HG, HB⟩
              case measure => simp [intOf]; omega
    · have H : Hid (Pt.parts s = done) := Lib.hid (HF.out.done (by omega) (by omega) (by omega))
      obtain ⟨A, c, rfl, hr⟩ := TxR.of_owns HO.out
      have HR := Lib.hid hr
      clear hr
      go_wp2
      go_ret
      rw [H.out]
      exact ⟨A, c, rfl, HR.out, HB.out⟩
theorem refRight_any (s : Tx) (w : World) (hl : s.length ≤ maxLen) :
    Calls Tryz.prog 54 #[.string (tx s)] w fun e w' => e = .returned (.bool (Pt.right s)) ∧ Below w.heap.size w w' := by
  have hn : (Pt.parts s).length ≤ s.length + 1 := by
    unfold Pt.parts
    split
    · exact cut_few s
    · simp
  have HL := Lib.hid hl
  have H : Hid (decide (0 < (Pt.parts s).length) = Pt.right s) := Lib.hid (by rw [Bool.eq_iff_iff, decide_eq_true_eq]; exact Pt.parts_len)
  clear hl hn
  go_enter Tryz.func54, Tryz.ntmps54
  go_wp2_with fail
  refine (refParts_any s _ HL.out).mono ?_
  rintro e w1 ⟨A, c, rfl, _, hb⟩
  have HB := Lib.hid hb
  clear hb
  go_wp2
  go_ret
  exact ⟨retB (by rw [← H.out]), HB.out⟩
end Go.Proofs.YtndofmoepjfnfaaGreat
