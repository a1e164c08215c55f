/- How many blocks a part takes: what Need of package volume answers, and the document's own. What Good of package volume answers. What partAt of package volume answers: the part that begins at a block. What Parts and Keep of package volume answer. What Keep of package volume answers. -/
import Derived.Test.YtbcncmampabmfaaDoorMb
import Derived.Test.YtbcncmampabmfaaDoorChecked
import Derived.OwnWalk
import Derived.Handy
import Derived.WalkSpells
import Derived.WalkLawsBesides
import Derived.BigQuiet
import Derived.Deep.QuietTactic
import Derived.Deep.RegionWith
import Derived.Test.YtbcncmampabmfaaDoorMg
import Derived.Test.YtbcncmampabmfaaDoorMk
import Derived.Deep.RegionHeld3
namespace Go.Proofs.YtbcncmampabmfaaDoor
open Go.RowKit
open Pt (Tx)

theorem need_lo {n : Int} (h : n ≤ 0) : Vo.need n = 2 := by
  unfold Vo.need
  rw [show (min (max n 0) 4000).toNat = 0 by omega]; rfl
theorem need_mid {n : Int} (h : 0 ≤ n) (h' : n ≤ 4000) : (Vo.need n : Int) = (n + 63) / 64 + 2 := by
  unfold Vo.need Vo.data
  rw [show (min (max n 0) 4000).toNat = n.toNat by omega]; omega
theorem need_hi {n : Int} (h : 4000 ≤ n) : Vo.need n = 65 := by
  unfold Vo.need
  rw [show (min (max n 0) 4000).toNat = 4000 by omega]; rfl
theorem need_le (n : Int) : Vo.need n ≤ 65 := by
  unfold Vo.need Vo.data; omega
theorem need_ge (n : Int) : 2 ≤ Vo.need n := by
  unfold Vo.need Vo.data; omega
/-- a head's -/
theorem need_head {h : Rc.H} (k : Rc.Ok h) : Vo.need h.len = Vo.data h.len.toNat + 2 := by
  obtain ⟨-, -, -, ⟨_, a⟩, b', c, d, _⟩ := k
  unfold Vo.need
  rw [show (min (max h.len 0) 4000).toNat = h.len.toNat by omega]
set_option maxHeartbeats 1000000 in
theorem need_any (n : Int) (w : World) : Calls Tryd.prog 11 #[.int .i64 n] w fun e w' => e = .returned (.int .i64 (Vo.need n : Int)) ∧ w = w' := by
  by_cases h0 : n ≤ 0
  · have H := Lib.hid (need_lo h0)
    go_enter Tryd.func11, Tryd.ntmps11
    go_wp2
    all_goals
      go_ret
      exact ⟨by rw [H.out]; first | done | rfl | (exact congrArg (fun k : Int => Ending.returned (.int .i64 k)) (by omega)), rfl⟩
  · by_cases h1 : n ≤ 4000
    · have H := Lib.hid (need_mid (n := n) (by omega) h1)
      go_enter Tryd.func11, Tryd.ntmps11
      go_wp2
      all_goals
        go_ret
        exact ⟨by rw [H.out]; first | done | rfl | (exact congrArg (fun k : Int => Ending.returned (.int .i64 k)) (by omega)), rfl⟩
    · have H := Lib.hid (need_hi (n := n) (by omega))
      go_enter Tryd.func11, Tryd.ntmps11
      go_wp2
      all_goals
        go_ret
        exact ⟨by rw [H.out]; first | done | rfl | (exact congrArg (fun k : Int => Ending.returned (.int .i64 k)) (by omega)), rfl⟩
theorem refCut_any (n a b : Int) (h : a ≤ b) (w : World) : Calls Tryd.prog 24 #[.int .i64 n, .int .i64 a, .int .i64 b] w fun e w' => e = .returned (.int .i64 (min (max n a) b)) ∧ w = w' := by
  by_cases h0 : n < a
  · have H : Hid (min (max n a) b = a) := Lib.hid (by omega)
    go_enter Tryd.func24, Tryd.ntmps24
    go_wp2
    go_ret
    exact ⟨by rw [H.out]; first | done | rfl | (exact congrArg (fun k : Int => Ending.returned (.int .i64 k)) (by omega)), rfl⟩
  · by_cases h1 : b < n
    · have H : Hid (min (max n a) b = b) := Lib.hid (by omega)
      go_enter Tryd.func24, Tryd.ntmps24
      go_wp2
      go_ret
      exact ⟨by rw [H.out]; first | done | rfl | (exact congrArg (fun k : Int => Ending.returned (.int .i64 k)) (by omega)), rfl⟩
    · have H : Hid (min (max n a) b = n) := Lib.hid (by omega)
      go_enter Tryd.func24, Tryd.ntmps24
      go_wp2
      go_ret
      exact ⟨by rw [H.out]; first | done | rfl | (exact congrArg (fun k : Int => Ending.returned (.int .i64 k)) (by omega)), rfl⟩
theorem refData_any (n : Int) (h : n ≤ 1000000000) (w : World) : Calls Tryd.prog 23 #[.int .i64 n] w fun e w' => e = .returned (.int .i64 (Vo.data n.toNat : Int)) ∧ w = w' := by
  by_cases h0 : n < 1
  · have H : Hid (Vo.data n.toNat = 0) := Lib.hid (by unfold Vo.data; omega)
    go_enter Tryd.func23, Tryd.ntmps23
    go_wp2
    go_ret
    exact ⟨by rw [H.out]; first | done | rfl | (exact congrArg (fun k : Int => Ending.returned (.int .i64 k)) (by omega)), rfl⟩
  · have H : Hid ((Vo.data n.toNat : Int) = (n - 1) / 64 + 1) := Lib.hid (by unfold Vo.data; omega)
    go_enter Tryd.func23, Tryd.ntmps23
    go_wp2
    go_ret
    exact ⟨by rw [H.out]; first | done | rfl | (exact congrArg (fun k : Int => Ending.returned (.int .i64 k)) (by omega)), rfl⟩
theorem refNeed_any (n : Int) (w : World) : Calls Tryd.prog 12 #[.int .i64 n] w fun e w' => e = .returned (.int .i64 (Vo.need n : Int)) ∧ w = w' := by
  obtain ⟨m, hm⟩ : ∃ m, m = min (max n 0) 4000 := ⟨_, rfl⟩
  obtain ⟨d, hd⟩ : ∃ d, d = Vo.data m.toNat := ⟨_, rfl⟩
  have hd2 : d ≤ 63 := by rw [hd]; unfold Vo.data; omega
  have h1 := refCut_any n 0 4000 (by decide) w
  have h2 := refData_any m (by omega) w
  have H : Hid (Vo.need n = d + 2) := Lib.hid (by rw [hd, hm]; rfl)
  rw [← hm] at h1
  rw [← hd] at h2
  clear hm hd
  go_enter Tryd.func12, Tryd.ntmps12
  go_wp2_with (first | (go_at_call 24; refine h1.mono ?_; rintro e w' ⟨rfl, hw⟩; subst hw) | (go_at_call 23; refine h2.mono ?_; rintro e w' ⟨rfl, hw⟩; subst hw))
  go_ret
  exact ⟨by rw [H.out]; first | done | rfl | (exact congrArg (fun k : Int => Ending.returned (.int .i64 k)) (by omega)), rfl⟩
/-- a part in memory: its head, its tape's label, and where it lies -/
def partObj (p : Tx) (v z f l s m : Int) (g : Bool) (lab at_ : Int) : Obj := .cells #[.string (tx p), .int .i64 v, .int .i64 z, .int .i64 f, .int .i64 l, .int .i64 s, .int .i64 m, .bool g, .int .i64 lab, .int .i64 at_] 48
theorem part10 {w : World} {B : Nat} {p : Tx} {v z f l s m : Int} {g : Bool} {lab at_ : Int} (h : w.heap[B]? = some (partObj p v z f l s m g lab at_)) :
    w.cell? ⟨B, 0, none⟩ = some (.string (tx p)) ∧ w.cell? ⟨B, 1, none⟩ = some (.int .i64 v) ∧ w.cell? ⟨B, 2, none⟩ = some (.int .i64 z) ∧ w.cell? ⟨B, 3, none⟩ = some (.int .i64 f)
      ∧ w.cell? ⟨B, 4, none⟩ = some (.int .i64 l) ∧ w.cell? ⟨B, 5, none⟩ = some (.int .i64 s) ∧ w.cell? ⟨B, 6, none⟩ = some (.int .i64 m) ∧ w.cell? ⟨B, 7, none⟩ = some (.bool g) ∧ w.cell? ⟨B, 8, none⟩ = some (.int .i64 lab) ∧ w.cell? ⟨B, 9, none⟩ = some (.int .i64 at_) :=
  ⟨heap_cell h, heap_cell h, heap_cell h, heap_cell h, heap_cell h, heap_cell h, heap_cell h, heap_cell h, heap_cell h, heap_cell h⟩
set_option maxHeartbeats 2000000 in
theorem behind_any (p : Tx) (v z f l s m : Int) (g : Bool) (lab at_ : Int) (h0 : 0 ≤ at_) (h1 : at_ ≤ 1000000000000) (w : World) :
    Calls Tryd.prog 28 #[.agg #[.string (tx p), .int .i64 v, .int .i64 z, .int .i64 f, .int .i64 l, .int .i64 s, .int .i64 m, .bool g, .int .i64 lab, .int .i64 at_]] w fun e w' => e = .returned (.int .i64 (at_ + (Vo.need l : Int))) ∧ Below w.heap.size w w' := by
  have HB : Hid (Below w.heap.size w (w.alloc (partObj p v z f l s m g lab at_))) := Lib.hid ((Below.refl _ _).alloc (Nat.le_refl _) _)
  have HP : Hid ((w.alloc (partObj p v z f l s m g lab at_)).heap[w.heap.size]? = some (partObj p v z f l s m g lab at_)) := Lib.hid (Go.Deep.blk_alloc_new _ _)
  obtain ⟨k, hk⟩ : ∃ k, k = Vo.need l := ⟨_, rfl⟩
  have hk2 : k ≤ 65 := by rw [hk]; exact need_le l
  have hcall : ∀ x, Calls Tryd.prog 11 #[.int .i64 l] x fun e w' => e = .returned (.int .i64 (k : Int)) ∧ w' = x := fun x => by rw [hk]; exact (need_any l x).mono fun e w' h => ⟨h.1, h.2.symm⟩
  rw [← hk]
  clear hk
  obtain ⟨a0, a1, a2, a3, a4, a5, a6, a7, a8, a9⟩ := part10 HP.out
  unfold partObj at a0 a1 a2 a3 a4 a5 a6 a7 a8 a9
  go_enter Tryd.func28, Tryd.ntmps28
  go_wp2
  go_quiet (first | (go_at_call_of 11 (Value.int .i64 l); exact Calls.quiet_of_same (hcall _)))
  go_wp2
  go_ret
  have hx := HB.out
  exact ⟨rfl, ⟨hx.os, hx.tape, hx.output, hx.size, hx.block⟩⟩
end Go.Proofs.YtbcncmampabmfaaDoor
namespace Go.Proofs.YtbcncmampabmfaaDoor
open Go.RowKit
open Pt (Tx)

/-- block n, if it is good, for whatever n -/
def Vo.goodZ (t : Vo.T) (n : Int) : Option Fm.U := if n < 0 then none else Vo.good t n.toNat
/-- what is answered for it -/
def unitOf (o : Option Fm.U) : Fm.U := o.getD Fm.zero
def GoodA (o : Option Fm.U) (w : World) (e : Ending) (w' : World) : Prop :=
  ∃ A m C, e = .returned (.tuple #[.agg #[.int .i64 (unitOf o).kind, .int .i64 (unitOf o).label, .int .i64 (unitOf o).number, .slice A m C], .bool o.isSome]) ∧ m = (unitOf o).load.length ∧ m ≤ C ∧ (A = none → m = 0 ∧ C = 0) ∧ RdL w' A (unitOf o).load (w.heap.size ≤ ·) ∧ Below w.heap.size w w'
theorem GoodA.stored {w w7 : World} {B : Nat} {a0 a1 a2 a3 : Value} {o : Option Fm.U} {u : Fm.U} {b : Bool} {A : Option Addr} {m C : Nat} (hu : unitOf o = u) (he : o.isSome = b) (hB : w.heap.size ≤ B) (hr : RdL w7 A u.load (fun x => w.heap.size ≤ x ∧ x ≠ B)) (hm : m = u.load.length) (hc : m ≤ C) (hn : A = none → m = 0 ∧ C = 0) (hb : Below w.heap.size w w7) :
    GoodA o w (.returned (.tuple #[.agg #[.int .i64 u.kind, .int .i64 u.label, .int .i64 u.number, .slice A m C], .bool b])) ((((w7.setCell ⟨B, 0, none⟩ a0).setCell ⟨B, 1, none⟩ a1).setCell ⟨B, 2, none⟩ a2).setCell ⟨B, 3, none⟩ a3) := by
  have hk : Kp (· = B) w7 ((((w7.setCell ⟨B, 0, none⟩ a0).setCell ⟨B, 1, none⟩ a1).setCell ⟨B, 2, none⟩ a2).setCell ⟨B, 3, none⟩ a3) := (((Kp.store _ _ _ _).trans (Kp.store _ _ _ _)).trans (Kp.store _ _ _ _)).trans (Kp.store _ _ _ _)
  exact ⟨A, m, C, by rw [hu, he], by rw [hu]; exact hm, hc, hn, by rw [hu]; exact (hr.kp hk (fun x hx hx' => hx.2 hx')).mono (fun x hx => hx.1), hb.trans (hk.below hb.size (fun x hx => by omega))⟩
/-- a tape in a block -/
def tapeObj (lab cap : Int) (A : Option Addr) (n C : Nat) (lost : Bool) : Obj := .cells #[.int .i64 lab, .int .i64 cap, .slice A n C, .bool lost] 38
theorem tape4 {w : World} {g : Nat} {lab cap : Int} {A : Option Addr} {n C : Nat} {lost : Bool} (h : w.heap[g]? = some (tapeObj lab cap A n C lost)) :
    w.cell? ⟨g, 0, none⟩ = some (.int .i64 lab) ∧ w.cell? ⟨g, 1, none⟩ = some (.int .i64 cap) ∧ w.cell? ⟨g, 2, none⟩ = some (.slice A n C) ∧ w.cell? ⟨g, 3, none⟩ = some (.bool lost) := ⟨heap_cell h, heap_cell h, heap_cell h, heap_cell h⟩
theorem below_tape {lab cap : Int} {A : Option Addr} {n C : Nat} {lost : Bool} {B : Nat} {x y : World} (hb : Below x.heap.size x y) (h : x.heap[B]? = some (tapeObj lab cap A n C lost)) : y.heap[B]? = some (tapeObj lab cap A n C lost) :=
  (hb.block B (heap_lt h)).trans h
theorem goodZ_no {lab : Int} {bs : List Tx} {lost : Bool} {n : Int} (h : lost = true ∨ n < 0 ∨ (bs.length : Int) ≤ n) : Vo.goodZ ⟨lab, bs, lost⟩ n = none := by
  unfold Vo.goodZ
  split
  · rfl
  · rcases h with h | h | h
    · exact Vo.good_lost h _
    · omega
    · exact Vo.good_end (t := ⟨lab, bs, lost⟩) (by show bs.length ≤ _; omega)
theorem good_is {lab : Int} {bs : List Tx} {n : Nat} (h : n < bs.length) : Vo.good ⟨lab, bs, false⟩ n = if Fm.Good bs[n] ∧ (Fm.parse bs[n]).label = lab ∧ (Fm.parse bs[n]).number = (n : Int) then some (Fm.parse bs[n]) else none := by
  unfold Vo.good
  rw [if_neg (show ¬ (false = true) by decide)]
  show (match bs[n]? with | none => none | some b => if Fm.Good b ∧ (Fm.parse b).label = lab ∧ (Fm.parse b).number = (n : Int) then some (Fm.parse b) else none) = _
  rw [List.getElem?_eq_getElem h]
/-- a tape's block, and an answer's behind it -/
theorem two_blocks {w wb : World} {o1 o2 : Obj} (h : wb = (w.alloc o1).alloc o2) : Below w.heap.size w wb ∧ wb.heap[w.heap.size]? = some o1 ∧ wb.heap[w.heap.size + 1]? = some o2 := by
  have hb1 : Below w.heap.size w (w.alloc o1) := (Below.refl _ _).alloc (Nat.le_refl _) _
  have h1 : (w.alloc o1).heap[w.heap.size]? = some o1 := Go.Deep.blk_alloc_new _ _
  have h2 := Go.Deep.blk_alloc_new (w.alloc o1) o2
  rw [show (w.alloc o1).heap.size = w.heap.size + 1 by simp] at h2
  subst h
  exact ⟨hb1.alloc hb1.size _, (Below.heap_alloc _ _ _ (heap_lt h1)).trans h1, h2⟩
set_option maxHeartbeats 400000 in
theorem good_out (lab cap : Int) (bs : List Tx) (A : Option Addr) (L C : Nat) (lost : Bool) (n : Int) (w : World) (hL : L = bs.length) (h : lost = true ∨ n < 0 ∨ (bs.length : Int) ≤ n) :
    Calls Tryd.prog 29 #[.agg #[.int .i64 lab, .int .i64 cap, .slice A L C, .bool lost], .int .i64 n] w (GoodA (Vo.goodZ ⟨lab, bs, lost⟩ n) w) := by
  have HG := Lib.hid (goodZ_no (lab := lab) h)
  obtain ⟨wb, hwb⟩ : ∃ wb, wb = (w.alloc (tapeObj lab cap A L C lost)).alloc (unitObj 0 0 0 none 0 0) := ⟨_, rfl⟩
  obtain ⟨hB, hT, hU⟩ := two_blocks hwb
  have HB := Lib.hid hB
  have HU := Lib.hid hU
  have HT := Lib.hid hT
  have HW := Lib.hid hwb
  unfold tapeObj unitObj at HW
  obtain ⟨t0, t1, t2, t3⟩ := tape4 hT
  obtain ⟨z0, z1, z2, z3⟩ := unit4 hU
  rw [hwb] at t0 t1 t2 t3
  rw [← hL] at h
  clear hB hT hU hwb hL
  have hq : lost = true ∨ (lost = false ∧ decide (n < 0) = true) ∨ (lost = false ∧ decide (n < 0) = false ∧ decide ((L : Int) ≤ n) = true) := by
    cases lost with
    | true => exact .inl rfl
    | false =>
      refine .inr ?_
      by_cases h0 : n < 0
      · exact .inl ⟨rfl, decide_eq_true h0⟩
      · exact .inr ⟨rfl, decide_eq_false h0, decide_eq_true (by rcases h with h | h | h; · cases h
                                                                · exact absurd h h0
                                                                · exact h)⟩
  clear h
  rcases hq with rfl | ⟨rfl, q1⟩ | ⟨rfl, q1, q2⟩
  all_goals
    go_enter Tryd.func29, Tryd.ntmps29
    go_wp2_with fail
    rw [← HW.out]
    refine bodyPost_ret (v := .tuple #[.agg #[.int .i64 0, .int .i64 0, .int .i64 0, .slice none 0 0], .bool false]) (by simp [results, Tryd.results29, go_sem, z0, z1, z2, z3]) rfl ?_
    rw [HG.out]
    exact ⟨none, 0, 0, rfl, rfl, Nat.le_refl _, fun _ => ⟨rfl, rfl⟩, RdL.empty _ _ _, HB.out⟩
set_option maxHeartbeats 4000000 in
theorem good_in (lab cap : Int) (bs : List Tx) (A : Option Addr) (L C : Nat) (G : Nat → Prop) (n : Nat) (w : World) (hL : L = bs.length) (hr : RdB w A bs G) (hn : n < bs.length) (hl : ∀ s ∈ bs, s.length ≤ 1000000) :
    Calls Tryd.prog 29 #[.agg #[.int .i64 lab, .int .i64 cap, .slice A L C, .bool false], .int .i64 n] w (GoodA (Vo.good ⟨lab, bs, false⟩ n) w) := by
  obtain ⟨b, off, A1, C1, rfl, hg1, hc1, hC1, hN1, hr1⟩ := hr.at_ hn
  obtain ⟨s, hsd⟩ : ∃ s, s = bs[n] := ⟨_, rfl⟩
  have hsl : s.length ≤ 1000000 := by rw [hsd]; exact hl _ (List.getElem_mem hn)
  have HG := Lib.hid (good_is (lab := lab) hn)
  rw [← hsd] at HG hc1 hC1 hN1 hr1
  obtain ⟨S, hS⟩ : ∃ S, S = s.length := ⟨_, rfl⟩
  rw [← hS] at hc1 hC1 hN1 hsl
  obtain ⟨wb, hwb⟩ : ∃ wb, wb = (w.alloc (tapeObj lab cap (some ⟨b, off, none⟩) L C false)).alloc (unitObj 0 0 0 none 0 0) := ⟨_, rfl⟩
  obtain ⟨hB, hT, hU⟩ := two_blocks hwb
  have hcb : wb.cell? ⟨b, off + n, none⟩ = some (.slice A1 S C1) := (hB.cell (World.block_lt_of_cell? _ _ hc1)).trans hc1
  have HGET := Lib.hid (frameGet_any A1 s S C1 G wb hS hC1 hsl hN1 (hr1.old hB))
  have HB := Lib.hid hB
  have HU := Lib.hid hU
  have HT := Lib.hid hT
  have HW := Lib.hid hwb
  unfold tapeObj unitObj at HW
  obtain ⟨t0, t1, t2, t3⟩ := tape4 hT
  have q1 : decide ((n : Int) < 0) = false := decide_eq_false (by omega)
  have q2 : decide ((L : Int) ≤ (n : Int)) = false := decide_eq_false (by omega)
  have q3 : decide (L ≤ n) = false := decide_eq_false (by omega)
  have q4 : n < L := by omega
  obtain ⟨ge, hge⟩ : ∃ ge, ge = Fm.gotE s := ⟨_, rfl⟩
  obtain ⟨k, lb, nb, ld, hu⟩ : ∃ k lb nb ld, Fm.got s = ⟨k, lb, nb, ld⟩ := ⟨_, _, _, _, rfl⟩
  unfold GotU at HGET
  rw [hu, ← hge] at HGET
  have hcase : (ge = 0 ∧ lb = lab ∧ nb = (n : Int) ∧ Vo.good ⟨lab, bs, false⟩ n = some ⟨k, lb, nb, ld⟩) ∨ (Vo.good ⟨lab, bs, false⟩ n = none ∧ ((ge != 0) = true ∨ ((ge != 0) = false ∧ (lb != lab) = true) ∨ ((ge != 0) = false ∧ (lb != lab) = false ∧ (nb != (n : Int)) = true))) := by
    have h := HG.out
    by_cases hgd : Fm.Good s
    · rw [Fm.gotE_yes hgd] at hge
      rw [Fm.got_yes hgd] at hu
      rw [hu] at h
      by_cases h1 : lb = lab
      · by_cases h2 : nb = (n : Int)
        · refine .inl ⟨hge, h1, h2, ?_⟩
          rw [h, if_pos ⟨hgd, h1, h2⟩]
        · refine .inr ⟨?_, .inr (.inr ⟨by rw [hge]; rfl, by rw [h1]; simp, by simpa using h2⟩)⟩
          rw [h, if_neg fun h' => h2 h'.2.2]
      · refine .inr ⟨?_, .inr (.inl ⟨by rw [hge]; rfl, by simpa using h1⟩)⟩
        rw [h, if_neg fun h' => h1 h'.2.1]
    · rw [Fm.gotE_no hgd] at hge
      refine .inr ⟨?_, .inl (by rw [hge]; rfl)⟩
      rw [h, if_neg fun h' => hgd h'.1]
  clear HG hg1 hc1 hC1 hN1 hr1 hS hsl hu hge hr hl hL hn hB hT hU hsd
  rcases hcase with ⟨rfl, rfl, hnb, hres⟩ | ⟨hres, hq⟩
  · have HRES := Lib.hid hres
    have hq5 : (nb != (n : Int)) = false := by simp [hnb]
    clear hres hnb
    rw [HW.out] at t0 t1 t2 t3 hcb
    go_enter Tryd.func29, Tryd.ntmps29
    go_wp2_with fail
    rw [← HW.out]
    refine HGET.out.mono ?_
    rintro e w1 ⟨A2, m2, C2, rfl, hm2, hc2, hn2, hr2, hb2⟩
    obtain ⟨wc, hwc⟩ : ∃ wc, wc = w1.alloc (unitObj k lb nb A2 m2 C2) := ⟨_, rfl⟩
    have hb3 : Below w1.heap.size w1 wc := by rw [hwc]; exact (Below.refl _ _).alloc (Nat.le_refl _) _
    have hbc := hb2.trans (hb3.mono hb2.size)
    have hY : wc.heap[w1.heap.size]? = some (unitObj k lb nb A2 m2 C2) := by rw [hwc]; exact Go.Deep.blk_alloc_new _ _
    have hZ := (hbc.block _ (heap_lt HU.out)).trans HU.out
    have hT3 := below_tape hbc HT.out
    obtain ⟨t0', t1', t2', t3'⟩ := tape4 hT3
    obtain ⟨z0, z1, z2, z3⟩ := unit4 hZ
    obtain ⟨x0, x1, x2, x3⟩ := unit4 hY
    have y0 : wc.frozen? ⟨w.heap.size + 1, 0, none⟩ = false := heap_frozen hZ
    have y1 : wc.frozen? ⟨w.heap.size + 1, 1, none⟩ = false := heap_frozen hZ
    have y2 : wc.frozen? ⟨w.heap.size + 1, 2, none⟩ = false := heap_frozen hZ
    have y3 : wc.frozen? ⟨w.heap.size + 1, 3, none⟩ = false := heap_frozen hZ
    have HR2 : Hid (RdL wc A2 ld (fun x => w.heap.size ≤ x ∧ x ≠ w.heap.size + 1)) := Lib.hid ((hr2.old hb3).mono fun x hx => by
      have h1 : w.heap.size + 2 ≤ wb.heap.size := by have := heap_lt HU.out; omega
      have h2 : wb.heap.size ≤ x := hx
      omega)
    have HB3 := Lib.hid (HB.out.trans (hbc.mono HB.out.size))
    have HM2 := Lib.hid hm2
    have HN2 := Lib.hid hn2
    have HWC := Lib.hid hwc
    unfold unitObj at HWC
    obtain ⟨y, hy⟩ : ∃ y, y = w1.heap.size := ⟨_, rfl⟩
    rw [← hy] at x0 x1 x2 x3
    have HY := Lib.hid hy
    have hZ2 := Lib.hid hZ
    clear hb2 hb3 hbc hZ hT3 hr2 hm2 hn2 hwc hY hy t0 t1 t2 t3 x0 x1 x2 x3
    rw [HWC.out] at z0 z1 z2 z3 y0 y1 y2 y3 t0' t1' t2' t3'
    go_wp2
    rw [← HWC.out]
    clear z0 z1 z2 z3
    obtain ⟨z0, z1, z2, z3⟩ := unit4 hZ2.out
    exact bodyPost_ret (v := .tuple #[.agg #[.int .i64 k, .int .i64 lb, .int .i64 nb, .slice A2 m2 C2], .bool true]) (by simp [results, Tryd.results29, go_sem, z0, z1, z2, z3]) rfl (GoodA.stored (u := ⟨k, lb, nb, ld⟩) (by rw [HRES.out]; rfl) (by rw [HRES.out]; rfl) (by omega) HR2.out HM2.out hc2 HN2.out HB3.out)
  · have HRES := Lib.hid hres
    clear hres
    rw [HW.out] at t0 t1 t2 t3 hcb
    rcases hq with p1 | ⟨p1, p2⟩ | ⟨p1, p2, p3⟩
    all_goals
      go_enter Tryd.func29, Tryd.ntmps29
      go_wp2_with fail
      rw [← HW.out]
      refine HGET.out.mono ?_
      rintro e w1 ⟨A2, m2, C2, rfl, hm2, hc2, hn2, hr2, hb2⟩
      obtain ⟨wc, hwc⟩ : ∃ wc, wc = w1.alloc (unitObj k lb nb A2 m2 C2) := ⟨_, rfl⟩
      have hb3 : Below w1.heap.size w1 wc := by rw [hwc]; exact (Below.refl _ _).alloc (Nat.le_refl _) _
      have hbc := hb2.trans (hb3.mono hb2.size)
      have hY : wc.heap[w1.heap.size]? = some (unitObj k lb nb A2 m2 C2) := by rw [hwc]; exact Go.Deep.blk_alloc_new _ _
      have hZ := (hbc.block _ (heap_lt HU.out)).trans HU.out
      have hT3 := below_tape hbc HT.out
      obtain ⟨t0', t1', t2', t3'⟩ := tape4 hT3
      obtain ⟨z0, z1, z2, z3⟩ := unit4 hZ
      obtain ⟨x0, x1, x2, x3⟩ := unit4 hY
      have y0 : wc.frozen? ⟨w.heap.size + 1, 0, none⟩ = false := heap_frozen hZ
      have y1 : wc.frozen? ⟨w.heap.size + 1, 1, none⟩ = false := heap_frozen hZ
      have y2 : wc.frozen? ⟨w.heap.size + 1, 2, none⟩ = false := heap_frozen hZ
      have y3 : wc.frozen? ⟨w.heap.size + 1, 3, none⟩ = false := heap_frozen hZ
      have HR2 : Hid (RdL wc A2 ld (fun x => w.heap.size ≤ x ∧ x ≠ w.heap.size + 1)) := Lib.hid ((hr2.old hb3).mono fun x hx => by
        have h1 : w.heap.size + 2 ≤ wb.heap.size := by have := heap_lt HU.out; omega
        have h2 : wb.heap.size ≤ x := hx
        omega)
      have HB3 := Lib.hid (HB.out.trans (hbc.mono HB.out.size))
      have HM2 := Lib.hid hm2
      have HN2 := Lib.hid hn2
      have HWC := Lib.hid hwc
      unfold unitObj at HWC
      obtain ⟨y, hy⟩ : ∃ y, y = w1.heap.size := ⟨_, rfl⟩
      rw [← hy] at x0 x1 x2 x3
      have HY := Lib.hid hy
      have hZ2 := Lib.hid hZ
      clear hb2 hb3 hbc hZ hT3 hr2 hm2 hn2 hwc hY hy t0 t1 t2 t3 x0 x1 x2 x3
      rw [HWC.out] at z0 z1 z2 z3 y0 y1 y2 y3 t0' t1' t2' t3'
      go_wp2
      rw [← HWC.out]
      clear z0 z1 z2 z3
      obtain ⟨z0, z1, z2, z3⟩ := unit4 hZ2.out
      exact bodyPost_ret (v := .tuple #[.agg #[.int .i64 0, .int .i64 0, .int .i64 0, .slice none 0 0], .bool false]) (by simp [results, Tryd.results29, go_sem, z0, z1, z2, z3]) rfl (GoodA.stored (u := Fm.zero) (by rw [HRES.out]; rfl) (by rw [HRES.out]; rfl) (by omega) (RdL.empty _ _ _) rfl (Nat.le_refl _) (fun _ => ⟨rfl, rfl⟩) HB3.out)
theorem good_any (lab cap : Int) (bs : List Tx) (A : Option Addr) (L C : Nat) (G : Nat → Prop) (lost : Bool) (n : Int) (w : World) (hL : L = bs.length) (hr : RdB w A bs G) (hl : ∀ s ∈ bs, s.length ≤ 1000000) :
    Calls Tryd.prog 29 #[.agg #[.int .i64 lab, .int .i64 cap, .slice A L C, .bool lost], .int .i64 n] w (GoodA (Vo.goodZ ⟨lab, bs, lost⟩ n) w) := by
  by_cases h : lost = true ∨ n < 0 ∨ (bs.length : Int) ≤ n
  · exact good_out lab cap bs A L C lost n w hL h
  · have h1 : lost = false := by cases lost with
      | true => exact absurd (.inl rfl) h
      | false => rfl
    subst h1
    have h2 : 0 ≤ n ∧ n < (bs.length : Int) := by
      constructor
      · rcases Int.lt_or_le n 0 with h' | h'
        · exact absurd (.inr (.inl h')) h
        · exact h'
      · rcases Int.lt_or_le n (bs.length : Int) with h' | h'
        · exact h'
        · exact absurd (.inr (.inr h')) h
    obtain ⟨m, rfl⟩ : ∃ m : Nat, n = (m : Int) := ⟨n.toNat, by omega⟩
    have h3 : Vo.goodZ ⟨lab, bs, false⟩ (m : Int) = Vo.good ⟨lab, bs, false⟩ m := by
      unfold Vo.goodZ
      rw [if_neg (by omega)]; rfl
    rw [h3]
    exact good_in lab cap bs A L C G m w hL hr (by omega) hl
end Go.Proofs.YtbcncmampabmfaaDoor
namespace Go.Proofs.YtbcncmampabmfaaDoor
open Go.RowKit
open Pt (Tx)

/-- a part as a value: the head, the tape's label, the block -/
def partV (h : Rc.H) (lab at_ : Int) : Value := .agg #[.string (tx h.path), .int .i64 h.version, .int .i64 h.size, .int .i64 h.from_, .int .i64 h.len, .int .i64 h.serial, .int .i64 h.sum, .bool h.gone, .int .i64 lab, .int .i64 at_]
/-- what partAt answers -/
def PartA (o : Option Rc.H) (lab at_ : Int) (w : World) (e : Ending) (w' : World) : Prop :=
  (match o with
    | some h => e = .returned (.tuple #[partV h lab at_, .bool true])
    | none => e = .returned (.tuple #[partV Rc.H.zero 0 0, .bool false])) ∧ Below w.heap.size w w'
theorem stored10 {w w7 : World} {B : Nat} (a0 a1 a2 a3 a4 a5 a6 a7 a8 a9 : Value) (hB : w.heap.size ≤ B) (hb : Below w.heap.size w w7) :
    Below w.heap.size w ((((((((((w7.setCell ⟨B, 0, none⟩ a0).setCell ⟨B, 1, none⟩ a1).setCell ⟨B, 2, none⟩ a2).setCell ⟨B, 3, none⟩ a3).setCell ⟨B, 4, none⟩ a4).setCell ⟨B, 5, none⟩ a5).setCell ⟨B, 6, none⟩ a6).setCell ⟨B, 7, none⟩ a7).setCell ⟨B, 8, none⟩ a8).setCell ⟨B, 9, none⟩ a9) := by
  have hk : Kp (· = B) w7 ((((((((((w7.setCell ⟨B, 0, none⟩ a0).setCell ⟨B, 1, none⟩ a1).setCell ⟨B, 2, none⟩ a2).setCell ⟨B, 3, none⟩ a3).setCell ⟨B, 4, none⟩ a4).setCell ⟨B, 5, none⟩ a5).setCell ⟨B, 6, none⟩ a6).setCell ⟨B, 7, none⟩ a7).setCell ⟨B, 8, none⟩ a8).setCell ⟨B, 9, none⟩ a9) := (((((((((Kp.store _ _ _ _).trans (Kp.store _ _ _ _)).trans (Kp.store _ _ _ _)).trans (Kp.store _ _ _ _)).trans (Kp.store _ _ _ _)).trans (Kp.store _ _ _ _)).trans (Kp.store _ _ _ _)).trans (Kp.store _ _ _ _)).trans (Kp.store _ _ _ _)).trans (Kp.store _ _ _ _)
  exact hb.trans (hk.below hb.size (fun x hx => by omega))
theorem part_good {lab : Int} {bs : List Tx} {lost : Bool} {n : Nat} {u : Fm.U} (h : Vo.good ⟨lab, bs, lost⟩ n = some u) : Vo.part ⟨lab, bs, lost⟩ n = if u.kind = 2 ∧ Rc.Good u.load ∧ n + Vo.data (Rc.parse u.load).len.toNat + 1 < bs.length then some (Rc.parse u.load) else none := by
  unfold Vo.part; rw [h]
theorem part_none {lab : Int} {bs : List Tx} {lost : Bool} {n : Nat} (h : Vo.good ⟨lab, bs, lost⟩ n = none) : Vo.part ⟨lab, bs, lost⟩ n = none := by
  unfold Vo.part; rw [h]
theorem part_frozen {w : World} {B : Nat} {p : Tx} {v z f l s m : Int} {g : Bool} {lab at_ : Int} (h : w.heap[B]? = some (partObj p v z f l s m g lab at_)) (j : Nat) : w.frozen? ⟨B, j, none⟩ = false := heap_frozen h
theorem below_obj' {o : Obj} {B : Nat} {x y : World} (hb : Below x.heap.size x y) (h : x.heap[B]? = some o) : y.heap[B]? = some o := (hb.block B (heap_lt h)).trans h
set_option maxHeartbeats 4000000 in
theorem partAt_any (lab cap : Int) (bs : List Tx) (A : Option Addr) (L C : Nat) (G : Nat → Prop) (lost : Bool) (n : Nat) (w : World) (hL : L = bs.length) (hr : RdB w A bs G) (hn : n ≤ 1000000000) (hl : ∀ s ∈ bs, s.length ≤ 1000000) (hk : Kept w) :
    Calls Tryd.prog 30 #[.agg #[.int .i64 lab, .int .i64 cap, .slice A L C, .bool lost], .int .i64 n] w (PartA (Vo.part ⟨lab, bs, lost⟩ n) lab n w) := by
  obtain ⟨wb, hwb⟩ : ∃ wb, wb = (w.alloc (tapeObj lab cap A L C lost)).alloc (partObj [] 0 0 0 0 0 0 false 0 0) := ⟨_, rfl⟩
  obtain ⟨hB, hT, hU⟩ := two_blocks hwb
  have hcall := good_any lab cap bs A L C G lost n wb hL (hr.old hB) hl
  have h3 : Vo.goodZ ⟨lab, bs, lost⟩ (n : Int) = Vo.good ⟨lab, bs, lost⟩ n := by
    unfold Vo.goodZ
    rw [if_neg (by omega)]; rfl
  rw [h3] at hcall
  have hload : (unitOf (Vo.good ⟨lab, bs, lost⟩ n)).load.length ≤ 1000 := by
    cases h : Vo.good ⟨lab, bs, lost⟩ n with
    | none => exact Nat.zero_le _
    | some u =>
      obtain ⟨b, -, hg, rfl⟩ := Vo.good_some h
      have h1 := hg.1.2
      have h2 := Fm.room_le (Fm.parse b).kind
      show (Fm.parse b).load.length ≤ 1000
      omega
  have HB := Lib.hid hB
  have HU := Lib.hid hU
  have HT := Lib.hid hT
  have HK := Lib.hid (hk.old hB)
  have HW : Hid (wb = (w.alloc (.cells #[.int .i64 lab, .int .i64 cap, .slice A L C, .bool lost] 38)).alloc (.cells #[.string ⟨#[]⟩, .int .i64 0, .int .i64 0, .int .i64 0, .int .i64 0, .int .i64 0, .int .i64 0, .bool false, .int .i64 0, .int .i64 0] 48)) := Lib.hid hwb
  obtain ⟨t0, t1, t2, t3⟩ := tape4 hT
  rw [HW.out] at t0 t1 t2 t3
  obtain ⟨ok, hok⟩ : ∃ ok, ok = (Vo.good ⟨lab, bs, lost⟩ n).isSome := ⟨_, rfl⟩
  obtain ⟨k, lb, nb, ld, hu⟩ : ∃ k lb nb ld, unitOf (Vo.good ⟨lab, bs, lost⟩ n) = ⟨k, lb, nb, ld⟩ := ⟨_, _, _, _, rfl⟩
  unfold GoodA at hcall
  rw [hu, ← hok] at hcall
  rw [hu] at hload
  have hload' : ld.length ≤ 1000 := hload
  obtain ⟨ge, hge⟩ : ∃ ge, ge = Rc.gotE ld := ⟨_, rfl⟩
  obtain ⟨P, v, z, f, l, s, m, g, hh⟩ : ∃ P v z f l s m g, Rc.got ld = ⟨P, v, z, f, l, s, m, g⟩ := ⟨_, _, _, _, _, _, _, _, rfl⟩
  have hcase : (Vo.part ⟨lab, bs, lost⟩ n = none ∧ (ok = false ∨ (ok = true ∧ (k != 2) = true))) ∨ (ok = true ∧ k = 2 ∧ (ge != 0) = true ∧ Vo.part ⟨lab, bs, lost⟩ n = none)
      ∨ (ok = true ∧ k = 2 ∧ ge = 0 ∧ (L : Int) < n + (Vo.need l : Int) ∧ Vo.part ⟨lab, bs, lost⟩ n = none) ∨ (ok = true ∧ k = 2 ∧ ge = 0 ∧ n + (Vo.need l : Int) ≤ (L : Int) ∧ Vo.part ⟨lab, bs, lost⟩ n = some ⟨P, v, z, f, l, s, m, g⟩) := by
    cases h : Vo.good ⟨lab, bs, lost⟩ n with
    | none =>
      rw [h] at hok
      exact .inl ⟨part_none h, .inl hok⟩
    | some u =>
      rw [h] at hok hu
      have hok' : ok = true := hok
      have hu' : u = ⟨k, lb, nb, ld⟩ := hu
      have hp := part_good h
      rw [hu'] at hp
      by_cases h1 : k = 2
      · by_cases h2 : Rc.Good ld
        · rw [Rc.gotE_yes h2] at hge
          rw [Rc.got_yes h2] at hh
          have hn1 : Vo.need l = Vo.data l.toNat + 2 := by
            have := need_head h2.1
            rw [hh] at this
            exact this
          rw [hh] at hp
          by_cases h3 : n + Vo.data l.toNat + 1 < bs.length
          · refine .inr (.inr (.inr ⟨hok', h1, hge, by omega, ?_⟩))
            rw [hp, if_pos ⟨h1, h2, h3⟩]
          · refine .inr (.inr (.inl ⟨hok', h1, hge, by omega, ?_⟩))
            rw [hp, if_neg fun h' => h3 h'.2.2]
        · rw [Rc.gotE_no h2] at hge
          refine .inr (.inl ⟨hok', h1, by rw [hge]; rfl, ?_⟩)
          rw [hp, if_neg fun h' => h2 h'.2.1]
      · refine .inl ⟨?_, .inr ⟨hok', by simpa using h1⟩⟩
        rw [hp, if_neg fun h' => h1 h'.1]
  have HC := Lib.hid hcall
  have HLD := Lib.hid hload'
  have HGE := Lib.hid hge
  have HH := Lib.hid hh
  clear hcall hload hload' hge hh hB hT hU hwb hr hL hl hk hu hok h3
  rcases hcase with ⟨hres, hq⟩ | ⟨rfl, rfl, hq, hres⟩ | ⟨rfl, rfl, hge, hlt, hres⟩ | ⟨rfl, rfl, hge, hle, hres⟩
  · have HRES := Lib.hid hres
    clear hres
    rcases hq with rfl | ⟨rfl, p1⟩
    all_goals
      go_enter Tryd.func30, Tryd.ntmps30
      go_wp2_with fail
      rw [← HW.out]
      refine HC.out.mono ?_
      rintro e w1 ⟨A1, m1, C1, rfl, hm1, hc1, hn1, hr1, hb1⟩
      obtain ⟨wc, hwc⟩ : ∃ wc, wc = w1.alloc (unitObj k lb nb A1 m1 C1) := ⟨_, rfl⟩
      have hbc : Below wb.heap.size wb wc := by rw [hwc]; exact hb1.alloc hb1.size _
      have HZ := Lib.hid (below_obj' hbc HU.out)
      have HBC := Lib.hid (HB.out.trans (hbc.mono HB.out.size))
      have HWC := Lib.hid hwc
      unfold unitObj at HWC
      obtain ⟨z0, z1, z2, z3, z4, z5, z6, z7, z8, z9⟩ := part10 HZ.out
      have y0 := part_frozen HZ.out 0
      have y1 := part_frozen HZ.out 1
      have y2 := part_frozen HZ.out 2
      have y3 := part_frozen HZ.out 3
      have y4 := part_frozen HZ.out 4
      have y5 := part_frozen HZ.out 5
      have y6 := part_frozen HZ.out 6
      have y7 := part_frozen HZ.out 7
      have y8 := part_frozen HZ.out 8
      have y9 := part_frozen HZ.out 9
      rw [HWC.out] at z0 z1 z2 z3 z4 z5 z6 z7 z8 z9 y0 y1 y2 y3 y4 y5 y6 y7 y8 y9
      clear hwc hbc hb1 hr1 hn1 hc1 hm1 t0 t1 t2 t3
      go_wp2
      rw [← HWC.out]
      clear z0 z1 z2 z3 z4 z5 z6 z7 z8 z9
      obtain ⟨z0, z1, z2, z3, z4, z5, z6, z7, z8, z9⟩ := part10 HZ.out
      refine bodyPost_ret (v := .tuple #[.agg #[.string ⟨#[]⟩, .int .i64 0, .int .i64 0, .int .i64 0, .int .i64 0, .int .i64 0, .int .i64 0, .bool false, .int .i64 0, .int .i64 0], .bool false]) (by simp [results, Tryd.results30, go_sem, z0, z1, z2, z3, z4, z5, z6, z7, z8, z9]) rfl ?_
      rw [HRES.out]
      exact ⟨rfl, stored10 _ _ _ _ _ _ _ _ _ _ (by omega) HBC.out⟩
  · have HRES := Lib.hid hres
    clear hres
    go_enter Tryd.func30, Tryd.ntmps30
    go_wp2_with fail
    rw [← HW.out]
    refine HC.out.mono ?_
    rintro e w1 ⟨A1, m1, C1, rfl, hm1, hc1, hn1, hr1, hb1⟩
    obtain ⟨wc, hwc⟩ : ∃ wc, wc = w1.alloc (unitObj 2 lb nb A1 m1 C1) := ⟨_, rfl⟩
    have hb1' : Below w1.heap.size w1 wc := by rw [hwc]; exact (Below.refl _ _).alloc (Nat.le_refl _) _
    have hbc : Below wb.heap.size wb wc := hb1.trans (hb1'.mono hb1.size)
    have hcall := readHead_any A1 ld m1 C1 _ wc hm1 (by have h1 : m1 = ld.length := hm1; have := HLD.out; omega) hn1 (hr1.old hb1') (HK.out.old hbc)
    unfold GotH at hcall
    rw [HH.out, ← HGE.out] at hcall
    have HC2 := Lib.hid hcall
    have HZ := Lib.hid (below_obj' hbc HU.out)
    have HTC := Lib.hid (below_tape hbc HT.out)
    have HBC := Lib.hid (HB.out.trans (hbc.mono HB.out.size))
    have HWC := Lib.hid hwc
    unfold unitObj at HWC
    clear hwc hbc hb1 hb1' hr1 hn1 hc1 hm1 t0 t1 t2 t3 hcall HU HT HB
    obtain ⟨t0, t1, t2, t3⟩ := tape4 HTC.out
    rw [HWC.out] at t0 t1 t2 t3
    go_wp2_with fail
    rw [← HWC.out]
    clear t0 t1 t2 t3
    refine HC2.out.mono ?_
    rintro e w2 ⟨rfl, hb2⟩
    obtain ⟨wd, hwd⟩ : ∃ wd, wd = w2.alloc (headObj P v z f l s m g) := ⟨_, rfl⟩
    obtain ⟨we, hwe⟩ : ∃ we, we = wd.alloc (partObj P v z f l s m g lab n) := ⟨_, rfl⟩
    have hb2' : Below w2.heap.size w2 wd := by rw [hwd]; exact (Below.refl _ _).alloc (Nat.le_refl _) _
    have hbd : Below wc.heap.size wc wd := hb2.trans (hb2'.mono hb2.size)
    have hbde : Below wd.heap.size wd we := by rw [hwe]; exact (Below.refl _ _).alloc (Nat.le_refl _) _
    have hbe : Below wc.heap.size wc we := hbd.trans (hbde.mono hbd.size)
    have HZE := Lib.hid (below_obj' hbe HZ.out)
    have HTE := Lib.hid (below_tape hbe HTC.out)
    have HBE := Lib.hid (HBC.out.trans (hbe.mono HBC.out.size))
    have HPE : Hid (we.heap[wd.heap.size]? = some (partObj P v z f l s m g lab n)) := Lib.hid (by rw [hwe]; exact Go.Deep.blk_alloc_new _ _)
    obtain ⟨t0, t1, t2, t3⟩ := tape4 (below_tape hbd HTC.out)
    have HWD := Lib.hid hwd
    unfold headObj at HWD
    have HWE := Lib.hid hwe
    unfold partObj at HWE
    obtain ⟨pb, hpb⟩ : ∃ pb, pb = w2.heap.size + 1 := ⟨_, rfl⟩
    have hpb' : pb = wd.heap.size := by rw [hpb, hwd]; simp
    have HPB := Lib.hid hpb
    rw [← hpb'] at HPE
    clear hpb' hwd hwe hb2 hb2' hbd hbde hbe hpb HC2 HZ HTC HBC HWC HC
    rw [HWD.out] at t0 t1 t2 t3
    go_wp2_with fail
    rw [← HWD.out, ← HWE.out, ← HPB.out]
    clear t0 t1 t2 t3
    go_quiet (fail)
    have hbd : Below we.heap.size we (we.drewN nq) := ⟨rfl, rfl, rfl, Nat.le_refl _, fun _ _ => rfl⟩
    have HZZ := Lib.hid (below_obj' hbd HZE.out)
    have HBZ := Lib.hid (HBE.out.trans (hbd.mono HBE.out.size))
    clear hbd
    generalize we.drewN nq = wf at HZZ HBZ ⊢
    obtain ⟨z0, z1, z2, z3, z4, z5, z6, z7, z8, z9⟩ := part10 HZZ.out
    have y0 := part_frozen HZZ.out 0
    have y1 := part_frozen HZZ.out 1
    have y2 := part_frozen HZZ.out 2
    have y3 := part_frozen HZZ.out 3
    have y4 := part_frozen HZZ.out 4
    have y5 := part_frozen HZZ.out 5
    have y6 := part_frozen HZZ.out 6
    have y7 := part_frozen HZZ.out 7
    have y8 := part_frozen HZZ.out 8
    have y9 := part_frozen HZZ.out 9
    go_wp2
    refine bodyPost_ret (v := .tuple #[.agg #[.string ⟨#[]⟩, .int .i64 0, .int .i64 0, .int .i64 0, .int .i64 0, .int .i64 0, .int .i64 0, .bool false, .int .i64 0, .int .i64 0], .bool false]) (by simp [results, Tryd.results30, go_sem, z0, z1, z2, z3, z4, z5, z6, z7, z8, z9]) rfl ?_
    rw [HRES.out]
    exact ⟨rfl, stored10 _ _ _ _ _ _ _ _ _ _ (by omega) HBZ.out⟩
  · have HRES := Lib.hid hres
    obtain ⟨K, hK⟩ : ∃ K, K = Vo.need l := ⟨_, rfl⟩
    have q1 : decide ((L : Int) < (n : Int) + (K : Int)) = true := decide_eq_true (by rw [hK]; exact hlt)
    have hKl : K ≤ 65 := by rw [hK]; exact need_le l
    have HKK := Lib.hid hK
    clear hres hlt hK
    subst hge
    go_enter Tryd.func30, Tryd.ntmps30
    go_wp2_with fail
    rw [← HW.out]
    refine HC.out.mono ?_
    rintro e w1 ⟨A1, m1, C1, rfl, hm1, hc1, hn1, hr1, hb1⟩
    obtain ⟨wc, hwc⟩ : ∃ wc, wc = w1.alloc (unitObj 2 lb nb A1 m1 C1) := ⟨_, rfl⟩
    have hb1' : Below w1.heap.size w1 wc := by rw [hwc]; exact (Below.refl _ _).alloc (Nat.le_refl _) _
    have hbc : Below wb.heap.size wb wc := hb1.trans (hb1'.mono hb1.size)
    have hcall := readHead_any A1 ld m1 C1 _ wc hm1 (by have h1 : m1 = ld.length := hm1; have := HLD.out; omega) hn1 (hr1.old hb1') (HK.out.old hbc)
    unfold GotH at hcall
    rw [HH.out, ← HGE.out] at hcall
    have HC2 := Lib.hid hcall
    have HZ := Lib.hid (below_obj' hbc HU.out)
    have HTC := Lib.hid (below_tape hbc HT.out)
    have HBC := Lib.hid (HB.out.trans (hbc.mono HB.out.size))
    have HWC := Lib.hid hwc
    unfold unitObj at HWC
    clear hwc hbc hb1 hb1' hr1 hn1 hc1 hm1 t0 t1 t2 t3 hcall HU HT HB
    obtain ⟨t0, t1, t2, t3⟩ := tape4 HTC.out
    rw [HWC.out] at t0 t1 t2 t3
    go_wp2_with fail
    rw [← HWC.out]
    clear t0 t1 t2 t3
    refine HC2.out.mono ?_
    rintro e w2 ⟨rfl, hb2⟩
    obtain ⟨wd, hwd⟩ : ∃ wd, wd = w2.alloc (headObj P v z f l s m g) := ⟨_, rfl⟩
    obtain ⟨we, hwe⟩ : ∃ we, we = wd.alloc (partObj P v z f l s m g lab n) := ⟨_, rfl⟩
    have hb2' : Below w2.heap.size w2 wd := by rw [hwd]; exact (Below.refl _ _).alloc (Nat.le_refl _) _
    have hbd : Below wc.heap.size wc wd := hb2.trans (hb2'.mono hb2.size)
    have hbde : Below wd.heap.size wd we := by rw [hwe]; exact (Below.refl _ _).alloc (Nat.le_refl _) _
    have hbe : Below wc.heap.size wc we := hbd.trans (hbde.mono hbd.size)
    have HZE := Lib.hid (below_obj' hbe HZ.out)
    have HTE := Lib.hid (below_tape hbe HTC.out)
    have HBE := Lib.hid (HBC.out.trans (hbe.mono HBC.out.size))
    have HPE : Hid (we.heap[wd.heap.size]? = some (partObj P v z f l s m g lab n)) := Lib.hid (by rw [hwe]; exact Go.Deep.blk_alloc_new _ _)
    obtain ⟨t0, t1, t2, t3⟩ := tape4 (below_tape hbd HTC.out)
    have HWD := Lib.hid hwd
    unfold headObj at HWD
    have HWE := Lib.hid hwe
    unfold partObj at HWE
    obtain ⟨pb, hpb⟩ : ∃ pb, pb = w2.heap.size + 1 := ⟨_, rfl⟩
    have hpb' : pb = wd.heap.size := by rw [hpb, hwd]; simp
    have HPB := Lib.hid hpb
    rw [← hpb'] at HPE
    clear hpb' hwd hwe hb2 hb2' hbd hbde hbe hpb HC2 HZ HTC HBC HWC HC
    rw [HWD.out] at t0 t1 t2 t3
    go_wp2_with fail
    rw [← HWD.out, ← HWE.out, ← HPB.out]
    clear t0 t1 t2 t3
    obtain ⟨t0, t1, t2, t3⟩ := tape4 HTE.out
    obtain ⟨a0, a1, a2, a3, a4, a5, a6, a7, a8, a9⟩ := part10 HPE.out
    have hbel : Below we.heap.size we we.drew := (Below.refl _ _).drew
    have hX : ∀ y, Below we.heap.size we y → y.cell? ⟨pb, 0, none⟩ = some (.string (tx P)) ∧ y.cell? ⟨pb, 1, none⟩ = some (.int .i64 v) ∧ y.cell? ⟨pb, 2, none⟩ = some (.int .i64 z) ∧ y.cell? ⟨pb, 3, none⟩ = some (.int .i64 f) ∧ y.cell? ⟨pb, 4, none⟩ = some (.int .i64 l) ∧ y.cell? ⟨pb, 5, none⟩ = some (.int .i64 s) ∧ y.cell? ⟨pb, 6, none⟩ = some (.int .i64 m) ∧ y.cell? ⟨pb, 7, none⟩ = some (.bool g) ∧ y.cell? ⟨pb, 8, none⟩ = some (.int .i64 lab) ∧ y.cell? ⟨pb, 9, none⟩ = some (.int .i64 n) ∧ y.cell? ⟨w.heap.size, 2, none⟩ = some (.slice A L C) ∧ Below we.heap.size we y := fun y hy => by
      obtain ⟨b0, b1, b2, b3, b4, b5, b6, b7, b8, b9⟩ := part10 (below_obj' hy HPE.out)
      obtain ⟨-, -, c2, -⟩ := tape4 (below_tape hy HTE.out)
      exact ⟨b0, b1, b2, b3, b4, b5, b6, b7, b8, b9, c2, hy⟩
    have HX := Lib.hid hX
    have hx0 := hX _ hbel
    clear hX
    have hcall : ∀ y, Calls Tryd.prog 28 #[.agg #[.string (tx P), .int .i64 v, .int .i64 z, .int .i64 f, .int .i64 l, .int .i64 s, .int .i64 m, .bool g, .int .i64 lab, .int .i64 (n : Int)]] y fun e w' => e = .returned (.int .i64 ((n : Int) + (K : Int))) ∧ Below y.heap.size y w' := fun y => by rw [HKK.out]; exact behind_any P v z f l s m g lab (n : Int) (by omega) (by omega) y
    have HCB := Lib.hid hcall
    clear hcall
    go_region_held3 (fun y => y.cell? ⟨pb, 0, none⟩ = some (.string (tx P)) ∧ y.cell? ⟨pb, 1, none⟩ = some (.int .i64 v) ∧ y.cell? ⟨pb, 2, none⟩ = some (.int .i64 z) ∧ y.cell? ⟨pb, 3, none⟩ = some (.int .i64 f) ∧ y.cell? ⟨pb, 4, none⟩ = some (.int .i64 l) ∧ y.cell? ⟨pb, 5, none⟩ = some (.int .i64 s) ∧ y.cell? ⟨pb, 6, none⟩ = some (.int .i64 m) ∧ y.cell? ⟨pb, 7, none⟩ = some (.bool g) ∧ y.cell? ⟨pb, 8, none⟩ = some (.int .i64 lab) ∧ y.cell? ⟨pb, 9, none⟩ = some (.int .i64 n) ∧ y.cell? ⟨w.heap.size, 2, none⟩ = some (.slice A L C) ∧ Below we.heap.size we y)
      (first
        | exact hx1
        | exact hx0)
      (first
        | (go_at_call 28; refine (HCB.out _).mono ?_; rintro e wn ⟨rfl, hbn⟩; have hbt : Below we.heap.size we wn := hbel.trans (hbn.mono hbel.size); have hx1 := HX.out _ hbt; clear hbn))
    have HBZ := Lib.hid (HBE.out.trans (hbt.mono HBE.out.size))
    have HZZ := Lib.hid (below_obj' hbt HZE.out)
    have HPZ := Lib.hid (below_obj' hbt HPE.out)
    obtain ⟨z0, z1, z2, z3, z4, z5, z6, z7, z8, z9⟩ := part10 HZZ.out
    have y0 := part_frozen HZZ.out 0
    have y1 := part_frozen HZZ.out 1
    have y2 := part_frozen HZZ.out 2
    have y3 := part_frozen HZZ.out 3
    have y4 := part_frozen HZZ.out 4
    have y5 := part_frozen HZZ.out 5
    have y6 := part_frozen HZZ.out 6
    have y7 := part_frozen HZZ.out 7
    have y8 := part_frozen HZZ.out 8
    have y9 := part_frozen HZZ.out 9
    clear hx0 hx1 hbt hbel a0 a1 a2 a3 a4 a5 a6 a7 a8 a9
    go_wp2
    refine bodyPost_ret (v := .tuple #[.agg #[.string ⟨#[]⟩, .int .i64 0, .int .i64 0, .int .i64 0, .int .i64 0, .int .i64 0, .int .i64 0, .bool false, .int .i64 0, .int .i64 0], .bool false]) (by simp [results, Tryd.results30, go_sem, z0, z1, z2, z3, z4, z5, z6, z7, z8, z9]) rfl ?_
    rw [HRES.out]
    exact ⟨rfl, stored10 _ _ _ _ _ _ _ _ _ _ (by omega) HBZ.out⟩
  · have HRES := Lib.hid hres
    obtain ⟨K, hK⟩ : ∃ K, K = Vo.need l := ⟨_, rfl⟩
    have q1 : decide ((L : Int) < (n : Int) + (K : Int)) = false := decide_eq_false (by rw [hK]; omega)
    have hKl : K ≤ 65 := by rw [hK]; exact need_le l
    have HKK := Lib.hid hK
    clear hres hle hK
    subst hge
    go_enter Tryd.func30, Tryd.ntmps30
    go_wp2_with fail
    rw [← HW.out]
    refine HC.out.mono ?_
    rintro e w1 ⟨A1, m1, C1, rfl, hm1, hc1, hn1, hr1, hb1⟩
    obtain ⟨wc, hwc⟩ : ∃ wc, wc = w1.alloc (unitObj 2 lb nb A1 m1 C1) := ⟨_, rfl⟩
    have hb1' : Below w1.heap.size w1 wc := by rw [hwc]; exact (Below.refl _ _).alloc (Nat.le_refl _) _
    have hbc : Below wb.heap.size wb wc := hb1.trans (hb1'.mono hb1.size)
    have hcall := readHead_any A1 ld m1 C1 _ wc hm1 (by have h1 : m1 = ld.length := hm1; have := HLD.out; omega) hn1 (hr1.old hb1') (HK.out.old hbc)
    unfold GotH at hcall
    rw [HH.out, ← HGE.out] at hcall
    have HC2 := Lib.hid hcall
    have HZ := Lib.hid (below_obj' hbc HU.out)
    have HTC := Lib.hid (below_tape hbc HT.out)
    have HBC := Lib.hid (HB.out.trans (hbc.mono HB.out.size))
    have HWC := Lib.hid hwc
    unfold unitObj at HWC
    clear hwc hbc hb1 hb1' hr1 hn1 hc1 hm1 t0 t1 t2 t3 hcall HU HT HB
    obtain ⟨t0, t1, t2, t3⟩ := tape4 HTC.out
    rw [HWC.out] at t0 t1 t2 t3
    go_wp2_with fail
    rw [← HWC.out]
    clear t0 t1 t2 t3
    refine HC2.out.mono ?_
    rintro e w2 ⟨rfl, hb2⟩
    obtain ⟨wd, hwd⟩ : ∃ wd, wd = w2.alloc (headObj P v z f l s m g) := ⟨_, rfl⟩
    obtain ⟨we, hwe⟩ : ∃ we, we = wd.alloc (partObj P v z f l s m g lab n) := ⟨_, rfl⟩
    have hb2' : Below w2.heap.size w2 wd := by rw [hwd]; exact (Below.refl _ _).alloc (Nat.le_refl _) _
    have hbd : Below wc.heap.size wc wd := hb2.trans (hb2'.mono hb2.size)
    have hbde : Below wd.heap.size wd we := by rw [hwe]; exact (Below.refl _ _).alloc (Nat.le_refl _) _
    have hbe : Below wc.heap.size wc we := hbd.trans (hbde.mono hbd.size)
    have HZE := Lib.hid (below_obj' hbe HZ.out)
    have HTE := Lib.hid (below_tape hbe HTC.out)
    have HBE := Lib.hid (HBC.out.trans (hbe.mono HBC.out.size))
    have HPE : Hid (we.heap[wd.heap.size]? = some (partObj P v z f l s m g lab n)) := Lib.hid (by rw [hwe]; exact Go.Deep.blk_alloc_new _ _)
    obtain ⟨t0, t1, t2, t3⟩ := tape4 (below_tape hbd HTC.out)
    have HWD := Lib.hid hwd
    unfold headObj at HWD
    have HWE := Lib.hid hwe
    unfold partObj at HWE
    obtain ⟨pb, hpb⟩ : ∃ pb, pb = w2.heap.size + 1 := ⟨_, rfl⟩
    have hpb' : pb = wd.heap.size := by rw [hpb, hwd]; simp
    have HPB := Lib.hid hpb
    rw [← hpb'] at HPE
    clear hpb' hwd hwe hb2 hb2' hbd hbde hbe hpb HC2 HZ HTC HBC HWC HC
    rw [HWD.out] at t0 t1 t2 t3
    go_wp2_with fail
    rw [← HWD.out, ← HWE.out, ← HPB.out]
    clear t0 t1 t2 t3
    obtain ⟨t0, t1, t2, t3⟩ := tape4 HTE.out
    obtain ⟨a0, a1, a2, a3, a4, a5, a6, a7, a8, a9⟩ := part10 HPE.out
    have hbel : Below we.heap.size we we.drew := (Below.refl _ _).drew
    have hX : ∀ y, Below we.heap.size we y → y.cell? ⟨pb, 0, none⟩ = some (.string (tx P)) ∧ y.cell? ⟨pb, 1, none⟩ = some (.int .i64 v) ∧ y.cell? ⟨pb, 2, none⟩ = some (.int .i64 z) ∧ y.cell? ⟨pb, 3, none⟩ = some (.int .i64 f) ∧ y.cell? ⟨pb, 4, none⟩ = some (.int .i64 l) ∧ y.cell? ⟨pb, 5, none⟩ = some (.int .i64 s) ∧ y.cell? ⟨pb, 6, none⟩ = some (.int .i64 m) ∧ y.cell? ⟨pb, 7, none⟩ = some (.bool g) ∧ y.cell? ⟨pb, 8, none⟩ = some (.int .i64 lab) ∧ y.cell? ⟨pb, 9, none⟩ = some (.int .i64 n) ∧ y.cell? ⟨w.heap.size, 2, none⟩ = some (.slice A L C) ∧ Below we.heap.size we y := fun y hy => by
      obtain ⟨b0, b1, b2, b3, b4, b5, b6, b7, b8, b9⟩ := part10 (below_obj' hy HPE.out)
      obtain ⟨-, -, c2, -⟩ := tape4 (below_tape hy HTE.out)
      exact ⟨b0, b1, b2, b3, b4, b5, b6, b7, b8, b9, c2, hy⟩
    have HX := Lib.hid hX
    have hx0 := hX _ hbel
    clear hX
    have hcall : ∀ y, Calls Tryd.prog 28 #[.agg #[.string (tx P), .int .i64 v, .int .i64 z, .int .i64 f, .int .i64 l, .int .i64 s, .int .i64 m, .bool g, .int .i64 lab, .int .i64 (n : Int)]] y fun e w' => e = .returned (.int .i64 ((n : Int) + (K : Int))) ∧ Below y.heap.size y w' := fun y => by rw [HKK.out]; exact behind_any P v z f l s m g lab (n : Int) (by omega) (by omega) y
    have HCB := Lib.hid hcall
    clear hcall
    go_region_held3 (fun y => y.cell? ⟨pb, 0, none⟩ = some (.string (tx P)) ∧ y.cell? ⟨pb, 1, none⟩ = some (.int .i64 v) ∧ y.cell? ⟨pb, 2, none⟩ = some (.int .i64 z) ∧ y.cell? ⟨pb, 3, none⟩ = some (.int .i64 f) ∧ y.cell? ⟨pb, 4, none⟩ = some (.int .i64 l) ∧ y.cell? ⟨pb, 5, none⟩ = some (.int .i64 s) ∧ y.cell? ⟨pb, 6, none⟩ = some (.int .i64 m) ∧ y.cell? ⟨pb, 7, none⟩ = some (.bool g) ∧ y.cell? ⟨pb, 8, none⟩ = some (.int .i64 lab) ∧ y.cell? ⟨pb, 9, none⟩ = some (.int .i64 n) ∧ y.cell? ⟨w.heap.size, 2, none⟩ = some (.slice A L C) ∧ Below we.heap.size we y)
      (first
        | exact hx1
        | exact hx0)
      (first
        | (go_at_call 28; refine (HCB.out _).mono ?_; rintro e wn ⟨rfl, hbn⟩; have hbt : Below we.heap.size we wn := hbel.trans (hbn.mono hbel.size); have hx1 := HX.out _ hbt; clear hbn))
    have HBZ := Lib.hid (HBE.out.trans (hbt.mono HBE.out.size))
    have HZZ := Lib.hid (below_obj' hbt HZE.out)
    have HPZ := Lib.hid (below_obj' hbt HPE.out)
    obtain ⟨z0, z1, z2, z3, z4, z5, z6, z7, z8, z9⟩ := part10 HZZ.out
    have y0 := part_frozen HZZ.out 0
    have y1 := part_frozen HZZ.out 1
    have y2 := part_frozen HZZ.out 2
    have y3 := part_frozen HZZ.out 3
    have y4 := part_frozen HZZ.out 4
    have y5 := part_frozen HZZ.out 5
    have y6 := part_frozen HZZ.out 6
    have y7 := part_frozen HZZ.out 7
    have y8 := part_frozen HZZ.out 8
    have y9 := part_frozen HZZ.out 9
    clear hx0 hx1 hbt hbel a0 a1 a2 a3 a4 a5 a6 a7 a8 a9
    obtain ⟨a0, a1, a2, a3, a4, a5, a6, a7, a8, a9⟩ := part10 HPZ.out
    go_wp2
    refine bodyPost_ret (v := .tuple #[.agg #[.string (tx P), .int .i64 v, .int .i64 z, .int .i64 f, .int .i64 l, .int .i64 s, .int .i64 m, .bool g, .int .i64 lab, .int .i64 (n : Int)], .bool true]) (by simp [results, Tryd.results30, go_sem, z0, z1, z2, z3, z4, z5, z6, z7, z8, z9]) rfl ?_
    rw [HRES.out]
    exact ⟨rfl, stored10 _ _ _ _ _ _ _ _ _ _ (by omega) HBZ.out⟩
end Go.Proofs.YtbcncmampabmfaaDoor
namespace Go.Proofs.YtbcncmampabmfaaDoor
open Go.RowKit
open Pt (Tx)

/-- a part's ten cells -/
def cells10 (h : Rc.H) (lab at_ : Int) : List Value := [.string (tx h.path), .int .i64 h.version, .int .i64 h.size, .int .i64 h.from_, .int .i64 h.len, .int .i64 h.serial, .int .i64 h.sum, .bool h.gone, .int .i64 lab, .int .i64 at_]
def encP (lab : Int) : Enc (Rc.H × Nat) where
  k := 10
  pos := by decide
  enc q := cells10 q.1 lab q.2
  len _ := rfl
  one q u hu := by
    simp only [cells10, List.mem_cons, List.not_mem_nil, or_false] at hu
    rcases hu with rfl | rfl | rfl | rfl | rfl | rfl | rfl | rfl | rfl | rfl <;> rfl
theorem infoPart : (Tryd.prog.info? 48).map (fun i => (i.zero, i.size, i.bytes)) = some (some (.agg #[.string ⟨#[]⟩, .int .i64 0, .int .i64 0, .int .i64 0, .int .i64 0, .int .i64 0, .int .i64 0, .bool false, .int .i64 0, .int .i64 0]), 10, 88) := by kernel_rfl
/-- what Parts answers, in new memory -/
def PartsA (lab : Int) (l : List (Rc.H × Nat)) (w : World) (e : Ending) (w' : World) : Prop :=
  ∃ A C, e = .returned (.slice A l.length C) ∧ l.length ≤ C ∧ C ≤ maxLen ∧ (A = none → l.length = 0 ∧ C = 0) ∧ (encP lab).Rd w' A l (w.heap.size ≤ ·) ∧ Below w.heap.size w w'
theorem scan_end {t : Vo.T} {f n : Nat} (h : t.blocks.length ≤ n) : Vo.scan t f n = [] := by
  cases f with
  | zero => rfl
  | succ f => rw [Vo.scan, if_neg (by omega)]
theorem scan_no {t : Vo.T} {f n : Nat} (h : n < t.blocks.length) (hp : Vo.part t n = none) : Vo.scan t (f + 1) n = Vo.scan t f (n + 1) := by
  rw [Vo.scan, if_pos h, hp]
theorem scan_yes {t : Vo.T} {f n : Nat} {q : Rc.H} (h : n < t.blocks.length) (hp : Vo.part t n = some q) : Vo.scan t (f + 1) n = (q, n) :: Vo.scan t f (n + Vo.need q.len) := by
  rw [Vo.scan, if_pos h, hp, need_head (Vo.part_in hp).2]
  rfl
theorem snoc_append {α : Type} (a : List α) (x : α) (b : List α) : a ++ x :: b = (a ++ [x]) ++ b := by rw [List.append_assoc]; rfl
/-- what is as it was when a list of structs has grown -/
theorem grown_keeps {α : Type} {E : Enc α} {w wr w2 w3 : World} {t : TypeId} {v : Value} {l : List α} {S : Nat} {o' : Obj} (h : E.Own wr (S + 1) t v l) (hw : w.heap.size = S) (hb : Below w.heap.size w wr) (h2 : Below wr.heap.size wr w2) (hg : (w2.alloc o').grownBy w3 v.ownBlock) :
    (∀ b o, wr.heap.size ≤ b → w2.heap[b]? = some o → w3.heap[b]? = some o) ∧ (∀ o, w2.heap[S]? = some o → w3.heap[S]? = some o) ∧ Below w.heap.size w w3 := by
  have ha : ∀ b o, w2.heap[b]? = some o → (w2.alloc o').heap[b]? = some o := fun b o hb' => (Below.heap_alloc _ _ _ (heap_lt hb')).trans hb'
  have hlt : ∀ b o, w2.heap[b]? = some o → b < (w2.alloc o').heap.size := fun b o hb' => by have := heap_lt hb'; simp; omega
  refine ⟨fun b o hb' ho => (hg.block b (hlt b o ho) fun e => ?_).trans (ha b o ho), fun o ho => (hg.block S (hlt S o ho) fun e => ?_).trans (ha S o ho), ?_⟩
  · have := (h.lt b e.symm).2; omega
  · have := (h.lt S e.symm).1; omega
  · have h3 : Below w.heap.size w w2 := hb.trans (h2.mono hb.size)
    exact (h3.alloc h3.size _).grown hg (by have := h3.size; simp; omega) (fun x hx => by have := (h.lt x hx).1; omega)
set_option maxHeartbeats 4000000 in
theorem parts_any (lab cap : Int) (bs : List Tx) (A : Option Addr) (L C : Nat) (G : Nat → Prop) (lost : Bool) (w : World) (hL : L = bs.length) (hr : RdB w A bs G) (hs : L ≤ 1000000) (hl : ∀ s ∈ bs, s.length ≤ 1000000) (hk : Kept w) :
    Calls Tryd.prog 15 #[.agg #[.int .i64 lab, .int .i64 cap, .slice A L C, .bool lost]] w (PartsA lab (Vo.parts ⟨lab, bs, lost⟩) w) := by
  obtain ⟨wb, hwb⟩ : ∃ wb, wb = w.alloc (tapeObj lab cap A L C lost) := ⟨_, rfl⟩
  have hB : Below w.heap.size w wb := by rw [hwb]; exact (Below.refl _ _).alloc (Nat.le_refl _) _
  have hT : wb.heap[w.heap.size]? = some (tapeObj lab cap A L C lost) := by rw [hwb]; exact Go.Deep.blk_alloc_new _ _
  obtain ⟨T, hTd⟩ : ∃ T : Vo.T, T = ⟨lab, bs, lost⟩ := ⟨_, rfl⟩
  have hlen : T.blocks.length = L := by rw [hTd, hL]
  have HT0 := Lib.hid hT
  have HB0 := Lib.hid hB
  have HW := Lib.hid hwb
  unfold tapeObj at HW
  have HR := Lib.hid hr
  have HK := Lib.hid hk
  have HL := Lib.hid hl
  have HTD := Lib.hid hTd
  have HLEN := Lib.hid hlen
  have HLL := Lib.hid hL
  rw [← hTd]
  have HP0 : Hid (Vo.parts T = [] ++ Vo.scan T L 1) := Lib.hid (by rw [List.nil_append, ← hlen]; rfl)
  clear hB hT hwb hr hk hl hTd hlen hL
  go_enter Tryd.func15, Tryd.ntmps15
  go_wp2_with fail
  rw [← HW.out]
  go_loopw [4, 3] (fun vn vl wr => ∃ (n f : Nat) (pre : List (Rc.H × Nat)), n ≤ L + 1 ∧ L ≤ n + f ∧ pre.length ≤ n ∧ vn = .int .i64 (n : Int) ∧ Hid (Vo.parts T = pre ++ Vo.scan T f n) ∧ Hid ((encP lab).Own wr (w.heap.size + 1) 48 vl pre) ∧ Hid (Below w.heap.size w wr) ∧ Hid (wr.heap[w.heap.size]? = some (tapeObj lab cap A L C lost))) (fun vn _ _ => L + 1 - (intOf vn).toNat)
  case atStart => exact ⟨1, L, [], by omega, by omega, Nat.zero_le _, rfl, HP0, Lib.hid (Enc.Own.nil _ _ _), HB0, HT0⟩
  case round =>
    obtain ⟨n, f, pre, hn1, hn2, hn3, rfl, HP, HO, HB, HT⟩ := hrel
    obtain ⟨t0, t1, t2, t3⟩ := tape4 HT.out
    by_cases hlt : n < L
    · obtain ⟨f, rfl⟩ : ∃ f', f = f' + 1 := ⟨f - 1, by omega⟩
      have hltT : n < T.blocks.length := by rw [HLEN.out]; exact hlt
      have hcall := partAt_any lab cap bs A L C G lost n wr HLL.out (HR.out.old HB.out) (by omega) HL.out (HK.out.old HB.out)
      rw [← HTD.out] at hcall
      have HC := Lib.hid hcall
      clear hcall
      cases hp : Vo.part T n with
      | none =>
        have HP2 : Hid (Vo.parts T = pre ++ Vo.scan T f (n + 1)) := Lib.hid (by rw [← scan_no hltT hp]; exact HP.out)
        rw [hp] at HC
        clear hp hltT
        go_wp2_with fail
        refine HC.out.mono ?_
        rintro e w1 ⟨rfl, hb1⟩
        have hb2 : Below wr.heap.size wr (w1.alloc (.cells (cells10 Rc.H.zero 0 0).toArray 48)) := hb1.alloc hb1.size _
        have HB2 := Lib.hid (HB.out.trans (hb2.mono HB.out.size))
        have HT2 := Lib.hid (below_obj' hb2 HT.out)
        have HO2 := Lib.hid (HO.out.old hb2)
        clear t0 t1 t2 t3 hb1 hb2
        unfold partV
        go_wp2
        go_roundw
        case rel => exact ⟨n + 1, f, pre, by omega, by omega, by omega, by go_num, HP2, HO2, HB2, HT2⟩
        case measure => simp [intOf]; omega
      | some q =>
        have HP2 : Hid (Vo.parts T = (pre ++ [(q, n)]) ++ Vo.scan T f (n + Vo.need q.len)) := Lib.hid (by rw [← snoc_append, ← scan_yes hltT hp]; exact HP.out)
        have hin := (Vo.part_in hp).1
        have hq := need_head (Vo.part_in hp).2
        rw [HLEN.out] at hin
        rw [hp] at HC
        clear hp hltT
        obtain ⟨P, v, z, fr, l, s, m, g⟩ := q
        have hin' : n + Vo.data l.toNat + 1 < L := hin
        have hq' : Vo.need l = Vo.data l.toNat + 2 := hq
        obtain ⟨K, hK⟩ : ∃ K, K = Vo.need l := ⟨_, rfl⟩
        have hK2 : n + K ≤ L ∧ 2 ≤ K := by rw [hK]; omega
        have HP3 : Hid (Vo.parts T = (pre ++ [(⟨P, v, z, fr, l, s, m, g⟩, n)]) ++ Vo.scan T f (n + K)) := Lib.hid (by rw [hK]; exact HP2.out)
        have hcall : ∀ y, Calls Tryd.prog 28 #[.agg #[.string (tx P), .int .i64 v, .int .i64 z, .int .i64 fr, .int .i64 l, .int .i64 s, .int .i64 m, .bool g, .int .i64 lab, .int .i64 (n : Int)]] y fun e w' => e = .returned (.int .i64 ((n : Int) + (K : Int))) ∧ Below y.heap.size y w' := fun y => by rw [hK]; exact behind_any P v z fr l s m g lab (n : Int) (by omega) (by omega) y
        have HCB := Lib.hid hcall
        clear hin hq hin' hq' hK HP2 hcall
        go_wp2_with fail
        refine HC.out.mono ?_
        rintro e w1 ⟨rfl, hb1⟩
        obtain ⟨w2, hw2⟩ : ∃ w2, w2 = w1.alloc (partObj P v z fr l s m g lab n) := ⟨_, rfl⟩
        have hb2 : Below wr.heap.size wr w2 := by rw [hw2]; exact hb1.alloc hb1.size _
        have hP2 : w2.heap[w1.heap.size]? = some (partObj P v z fr l s m g lab n) := by rw [hw2]; exact Go.Deep.blk_alloc_new _ _
        have HP2 := Lib.hid hP2
        have HB2 := Lib.hid (HB.out.trans (hb2.mono HB.out.size))
        have HT2 := Lib.hid (below_obj' hb2 HT.out)
        have HO2 := Lib.hid (HO.out.old hb2)
        have HW2 : Hid (w2 = w1.alloc (.cells #[.string (tx P), .int .i64 v, .int .i64 z, .int .i64 fr, .int .i64 l, .int .i64 s, .int .i64 m, .bool g, .int .i64 lab, .int .i64 (n : Int)] 48)) := Lib.hid hw2
        have hO3 := HO2.out.old (w' := w2.alloc (.cells (cells10 ⟨P, v, z, fr, l, s, m, g⟩ lab n).toArray 48)) ((Below.refl _ _).alloc (Nat.le_refl _) _)
        have hsz : w2.heap.size = w1.heap.size + 1 := by rw [hw2]; simp
        have hbz : w.heap.size ≤ w2.heap.size := HB2.out.size
        have HSZ := Lib.hid hsz
        rw [HW2.out] at hO3
        have HO3 := Lib.hid hO3
        have hlo : wr.heap.size ≤ w1.heap.size := hb1.size
        have hlo0 : w.heap.size < wr.heap.size := heap_lt HT.out
        have HB2' := Lib.hid hb2
        clear hb1 hb2 hP2 hw2 t0 t1 t2 t3 hO3 hsz HC
        unfold partV
        go_wp2_with (at_builtin; refine wpList_append_st' (encP lab) _ rfl _ _ _ rfl (w.heap.size + 1) 48 _ 88 Tryd.underlying44 infoPart rfl _ pre rfl HO3.out ⟨w1.heap.size + 1, 0, none⟩ 1 1 [(⟨P, v, z, fr, l, s, m, g⟩, n)] rfl rfl (newCellsAt _ (cells10 ⟨P, v, z, fr, l, s, m, g⟩ lab n) _ _ (by simp)) (by unfold maxLen; omega) (by omega) (by simp; omega) ?_; intro v' w3 hO4 hg4; rw [← HW2.out] at hg4; obtain ⟨k1, k2, k3⟩ := grown_keeps HO.out rfl HB.out HB2'.out hg4; obtain ⟨a0, a1, a2, a3, a4, a5, a6, a7, a8, a9⟩ := part10 (k1 _ _ hlo HP2.out); have HT4 := Lib.hid (k2 _ HT2.out); have HB4 := Lib.hid k3; have HO4 := Lib.hid hO4; clear k1 k2 k3 hO4 hg4)
        refine (HCB.out _).mono ?_
        rintro e w4 ⟨rfl, hb4⟩
        have HB5 := Lib.hid (HB4.out.trans (hb4.mono HB4.out.size))
        have HT5 := Lib.hid (below_obj' hb4 HT4.out)
        have HO5 := Lib.hid (HO4.out.old hb4)
        clear a0 a1 a2 a3 a4 a5 a6 a7 a8 a9 hb4
        go_wp2
        go_roundw
        case rel => exact ⟨n + K, f, _, by omega, by omega, by simp; omega, by go_num, HP3, HO5, HB5, HT5⟩
        case measure => simp [intOf]; omega
    · have hend : Vo.parts T = pre := by
        rw [HP.out, scan_end (by rw [HLEN.out]; omega), List.append_nil]
      have HE := Lib.hid hend
      obtain ⟨A', C', hv, h1, h2, h3, h4⟩ := HO.out.rd
      have HR4 := Lib.hid h4
      have H3 := Lib.hid h3
      clear hend h3 h4
      subst hv
      go_wp2
      go_ret
      rw [HE.out]
      exact ⟨A', C', rfl, h1, h2, H3.out, HR4.out.mono fun x hx => by omega, HB.out⟩
end Go.Proofs.YtbcncmampabmfaaDoor
namespace Go.Proofs.YtbcncmampabmfaaDoor
open Go.RowKit
open Pt (Tx)

theorem parts_in {t : Vo.T} : ∀ (f n : Nat) (q : Rc.H × Nat), q ∈ Vo.scan t f n → Vo.part t q.2 = some q.1
  | 0, _, _, h => by cases h
  | f + 1, n, q, h => by
    rw [Vo.scan] at h
    split at h
    · split at h
      · rename_i x hx
        rcases List.mem_cons.1 h with rfl | h
        · exact hx
        · exact parts_in f _ q h
      · exact parts_in f _ q h
    · cases h
theorem scan_len {t : Vo.T} : ∀ (f n : Nat), (Vo.scan t f n).length ≤ f
  | 0, _ => Nat.le_refl _
  | f + 1, n => by
    rw [Vo.scan]
    split
    · split
      · rw [List.length_cons]; exact Nat.succ_le_succ (scan_len f _)
      · exact Nat.le_succ_of_le (scan_len f _)
    · exact Nat.zero_le _
theorem parts_len (t : Vo.T) : (Vo.parts t).length ≤ t.blocks.length := scan_len _ _
set_option maxHeartbeats 4000000 in
theorem keep_any (lab cap : Int) (bs : List Tx) (A : Option Addr) (L C : Nat) (G : Nat → Prop) (lost : Bool) (w : World) (hL : L = bs.length) (hr : RdB w A bs G) (hs : L ≤ 1000000) (hl : ∀ s ∈ bs, s.length ≤ 1000000) (hk : Kept w) :
    Calls Tryd.prog 14 #[.agg #[.int .i64 lab, .int .i64 cap, .slice A L C, .bool lost]] w fun e w' => e = .returned (.int .i64 (Vo.keep ⟨lab, bs, lost⟩ : Int)) ∧ Below w.heap.size w w' := by
  obtain ⟨wb, hwb⟩ : ∃ wb, wb = w.alloc (tapeObj lab cap A L C lost) := ⟨_, rfl⟩
  have hB : Below w.heap.size w wb := by rw [hwb]; exact (Below.refl _ _).alloc (Nat.le_refl _) _
  have hT : wb.heap[w.heap.size]? = some (tapeObj lab cap A L C lost) := by rw [hwb]; exact Go.Deep.blk_alloc_new _ _
  obtain ⟨T, hTd⟩ : ∃ T : Vo.T, T = ⟨lab, bs, lost⟩ := ⟨_, rfl⟩
  have hcall := parts_any lab cap bs A L C G lost wb hL (hr.old hB) hs hl (hk.old hB)
  have hlen : T.blocks.length = L := by rw [hTd, hL]
  have hgo : ∀ y, Below w.heap.size w y → Calls Tryd.prog 29 #[.agg #[.int .i64 lab, .int .i64 cap, .slice A L C, .bool lost], .int .i64 0] y (GoodA (Vo.good T 0) y) := fun y hy => by
    have := good_any lab cap bs A L C G lost 0 y hL (hr.old hy) hl
    rw [hTd]
    exact this
  rw [← hTd] at hcall ⊢
  have HC := Lib.hid hcall
  have HT0 := Lib.hid hT
  have HB0 := Lib.hid hB
  have HLEN := Lib.hid hlen
  have HGO := Lib.hid hgo
  have HW := Lib.hid hwb
  unfold tapeObj at HW
  obtain ⟨t0, t1, t2, t3⟩ := tape4 hT
  rw [HW.out] at t0 t1 t2 t3
  obtain ⟨ps, hps⟩ : ∃ ps, ps = Vo.parts T := ⟨_, rfl⟩
  rw [← hps] at HC
  clear hcall hT hB hTd hwb hr hl hk hL hlen hgo
  rcases List.eq_nil_or_concat ps with rfl | ⟨pre, q, rfl⟩
  · have hkeep : Vo.keep T = if (Vo.good T 0).isSome then 1 else 0 := by
      unfold Vo.keep
      rw [← hps]
      rfl
    obtain ⟨ok, hok⟩ : ∃ ok, ok = (Vo.good T 0).isSome := ⟨_, rfl⟩
    obtain ⟨k, lb, nb, ld, hu⟩ : ∃ k lb nb ld, unitOf (Vo.good T 0) = ⟨k, lb, nb, ld⟩ := ⟨_, _, _, _, rfl⟩
    rw [← hok] at hkeep
    have HKE := Lib.hid hkeep
    have HOK := Lib.hid hok
    have HU := Lib.hid hu
    clear hps hok hkeep hu
    go_enter Tryd.func14, Tryd.ntmps14
    go_wp2_with fail
    rw [← HW.out]
    refine HC.out.mono ?_
    rintro e w1 ⟨A1, C1, rfl, -, -, -, -, hb1⟩
    have HB1 := Lib.hid (HB0.out.trans (hb1.mono HB0.out.size))
    have HT1 := Lib.hid (below_obj' hb1 HT0.out)
    clear hb1 t0 t1 t2 t3
    obtain ⟨t0, t1, t2, t3⟩ := tape4 HT1.out
    have hcall := HGO.out _ HB1.out
    unfold GoodA at hcall
    rw [HU.out, ← HOK.out] at hcall
    have HC2 := Lib.hid hcall
    clear hcall
    go_wp2_with fail
    refine HC2.out.mono ?_
    rintro e w2 ⟨A2, m2, C2, rfl, hm2, hc2, hn2, hr2, hb2⟩
    have HB2 := Lib.hid (HB1.out.trans (hb2.mono HB1.out.size))
    have HB3 := Lib.hid (HB2.out.alloc HB2.out.size (unitObj k lb nb A2 m2 C2))
    unfold unitObj at HB3
    clear hm2 hc2 hn2 hr2 hb2 t0 t1 t2 t3
    cases ok with
    | true =>
      go_wp2
      go_ret
      exact ⟨by rw [HKE.out]; rfl, HB3.out⟩
    | false =>
      go_wp2
      go_ret
      exact ⟨by rw [HKE.out]; rfl, HB3.out⟩
  · rw [List.concat_eq_append] at hps HC
    have hin : Vo.part T q.2 = some q.1 := parts_in T.blocks.length 1 q (by
      show q ∈ Vo.parts T
      rw [← hps]; simp)
    have hkeep : Vo.keep T = q.2 + Vo.need q.1.len := by
      unfold Vo.keep
      rw [← hps, List.getLast?_append, need_head (Vo.part_in hin).2]
      rfl
    have hq2 := Vo.part_lt hin
    rw [HLEN.out] at hq2
    obtain ⟨⟨P, v, z, fr, l, s, m, g⟩, n⟩ := q
    have hq2' : n < L := hq2
    obtain ⟨K, hK⟩ : ∃ K, K = Vo.need l := ⟨_, rfl⟩
    have hkeep' : Vo.keep T = n + K := by rw [hK]; exact hkeep
    have hcall : ∀ y, Calls Tryd.prog 28 #[.agg #[.string (tx P), .int .i64 v, .int .i64 z, .int .i64 fr, .int .i64 l, .int .i64 s, .int .i64 m, .bool g, .int .i64 lab, .int .i64 (n : Int)]] y fun e w' => e = .returned (.int .i64 ((n : Int) + (K : Int))) ∧ Below y.heap.size y w' := fun y => by rw [hK]; exact behind_any P v z fr l s m g lab (n : Int) (by omega) (by omega) y
    have HCB := Lib.hid hcall
    have HKE := Lib.hid hkeep'
    have hpl := parts_len T
    rw [← hps, List.length_append, HLEN.out] at hpl
    have hpl' : pre.length + 1 ≤ L := hpl
    obtain ⟨N, hN⟩ : ∃ N, N = (pre ++ [((⟨P, v, z, fr, l, s, m, g⟩ : Rc.H), n)]).length := ⟨_, rfl⟩
    have hN1 : N = pre.length + 1 := by rw [hN]; simp
    unfold PartsA at HC
    rw [← hN] at HC
    clear hcall hkeep hkeep' hK hq2 hps hin hpl
    go_enter Tryd.func14, Tryd.ntmps14
    go_wp2_with fail
    rw [← HW.out]
    refine HC.out.mono ?_
    rintro e w1 ⟨A1, C1, rfl, h1, h2, h3, h4, hb1⟩
    have HB1 := Lib.hid (HB0.out.trans (hb1.mono HB0.out.size))
    obtain ⟨b, off, rfl, -, hc⟩ := h4.at_ (i := pre.length) (by rw [← hN]; omega)
    rw [List.getElem_concat_length rfl] at hc
    obtain ⟨pl, hpl⟩ : ∃ pl, pl = pre.length := ⟨_, rfl⟩
    rw [← hpl] at hc hN1 hpl'
    have a0 : w1.cell? ⟨b, off + pl * 10, none⟩ = some (.string (tx P)) := hc 0 _ rfl
    have a1 : w1.cell? ⟨b, off + pl * 10 + 1, none⟩ = some (.int .i64 v) := hc 1 _ rfl
    have a2 : w1.cell? ⟨b, off + pl * 10 + 2, none⟩ = some (.int .i64 z) := hc 2 _ rfl
    have a3 : w1.cell? ⟨b, off + pl * 10 + 3, none⟩ = some (.int .i64 fr) := hc 3 _ rfl
    have a4 : w1.cell? ⟨b, off + pl * 10 + 4, none⟩ = some (.int .i64 l) := hc 4 _ rfl
    have a5 : w1.cell? ⟨b, off + pl * 10 + 5, none⟩ = some (.int .i64 s) := hc 5 _ rfl
    have a6 : w1.cell? ⟨b, off + pl * 10 + 6, none⟩ = some (.int .i64 m) := hc 6 _ rfl
    have a7 : w1.cell? ⟨b, off + pl * 10 + 7, none⟩ = some (.bool g) := hc 7 _ rfl
    have a8 : w1.cell? ⟨b, off + pl * 10 + 8, none⟩ = some (.int .i64 lab) := hc 8 _ rfl
    have a9 : w1.cell? ⟨b, off + pl * 10 + 9, none⟩ = some (.int .i64 (n : Int)) := hc 9 _ rfl
    clear hpl hN
    subst hN1
    clear hc hb1 t0 t1 t2 t3 h3 h4
    go_wp2_with fail
    refine (HCB.out _).mono ?_
    rintro e w2 ⟨rfl, hb2⟩
    have HB2 := Lib.hid (HB1.out.trans (hb2.mono HB1.out.size))
    go_wp2
    go_ret
    exact ⟨by rw [HKE.out]; rfl, HB2.out⟩
end Go.Proofs.YtbcncmampabmfaaDoor
