/- What a source's tape answers: the first tape of a label; none: as one that is lost. A part in a block, as an object. No function of the program. What part of package restore answers, where no group tells of a block. A part's ten cells in a row. No function of the program. -/
import Derived.Test.YtndofmoepjfnfaaGreatMaq
import Derived.Deep.DeepCutAuto
import Derived.Test.YtndofmoepjfnfaaGreatMae
import Derived.Test.YtndofmoepjfnfaaGreatMad
import Derived.Test.YtndofmoepjfnfaaGreatChecked
import Derived.OwnWalk
import Derived.Handy
import Derived.WalkSpells
import Derived.WalkLawsBesides
import Derived.Test.YtndofmoepjfnfaaGreatMag
import Derived.Deep.RegionHeld3
import Derived.Deep.RegionLaw
import Derived.Test.YtndofmoepjfnfaaGreatMak
namespace Go.Proofs.YtndofmoepjfnfaaGreat
open Go.RowKit
open Pt (Tx)

theorem firstR_none {ts : List St.T} {lab : Int} (h : ∀ t ∈ ts, decide (t.label = lab) = false) : Me.first ts lab = ⟨lab, 0, [], true⟩ := by
  unfold Me.first
  rw [List.find?_eq_none.2 (fun t ht => by rw [h t ht]; simp)]; rfl
theorem firstR_at {ts : List St.T} {lab : Int} {k : Nat} (hk : k < ts.length) (h : decide (ts[k].label = lab) = true) (hn : ∀ j (hj : j < k), decide ((ts[j]'(Nat.lt_trans hj hk)).label = lab) = false) : Me.first ts lab = ts[k] := by
  unfold Me.first
  have e : (ts.take k ++ ts.drop k).find? (fun t => decide (t.label = lab)) = some ts[k] := by
    rw [List.find?_append, List.find?_eq_none.2 (fun t ht => ?_), List.drop_eq_getElem_cons hk]
    · rw [Option.none_or, List.find?_cons]; simp only [h]
    · obtain ⟨j, hj, rfl⟩ := List.mem_iff_getElem.1 ht
      rw [List.length_take] at hj
      rw [List.getElem_take, hn j (by omega)]; simp
  rw [List.take_append_drop] at e
  rw [e]; rfl
/-- the tape is answered -/
def TapeR (G : Nat → Prop) (t : St.T) (w : World) (e : Ending) (w' : World) : Prop :=
  ∃ A C, e = .returned (.agg #[.int .i64 t.label, .int .i64 t.cap, .slice A t.blocks.length C, .bool t.lost]) ∧ RdB w' A t.blocks (fun b => G b ∧ b < w.heap.size) ∧ Below w.heap.size w w'
theorem fourR_kp (w : World) (g : Nat) (a b c d : Value) : Kp (· = g) w ((((w.setCell ⟨g, 0, none⟩ a).setCell ⟨g, 1, none⟩ b).setCell ⟨g, 2, none⟩ c).setCell ⟨g, 3, none⟩ d) :=
  (((Kp.store _ _ _ _).trans (Kp.store _ _ _ _)).trans (Kp.store _ _ _ _)).trans (Kp.store _ _ _ _)
theorem fourR_set {w : World} {g : Nat} {l0 c0 : Int} {A0 : Option Addr} {n0 C0 : Nat} {x0 : Bool} (h : w.heap[g]? = some (tapeObj l0 c0 A0 n0 C0 x0)) (lab cap : Int) (A : Option Addr) (n C : Nat) (lost : Bool) :
    ((((w.setCell ⟨g, 0, none⟩ (.int .i64 lab)).setCell ⟨g, 1, none⟩ (.int .i64 cap)).setCell ⟨g, 2, none⟩ (.slice A n C)).setCell ⟨g, 3, none⟩ (.bool lost)).heap[g]? = some (tapeObj lab cap A n C lost) :=
  heap_set (heap_set (heap_set (heap_set h (.int .i64 lab)) (.int .i64 cap)) (.slice A n C)) (.bool lost)
theorem below_objR {o : Obj} {B : Nat} {x y : World} (hb : Below x.heap.size x y) (h : x.heap[B]? = some o) : y.heap[B]? = some o := (hb.block B (heap_lt h)).trans h
set_option maxRecDepth 100000 in
set_option maxHeartbeats 2000000 in
theorem tapeR_any (A : Option Addr) (ts : List St.T) (n C : Nat) (Sa : Option Addr) (sn sC : Nat) (G : Nat → Prop) (lab : Int) (w : World) (hnl : n = ts.length) (hn : n ≤ 1000000) (hr : RdT w A ts G) :
    Calls Tryz.prog 50 #[.agg #[.slice A n C, .slice Sa sn sC], .int .i64 lab] w (TapeR G (Me.first ts lab) w) := by
  obtain ⟨w0, hw0⟩ : ∃ w0, w0 = w.alloc (.cells #[.slice A n C, .slice Sa sn sC] 80) := ⟨_, rfl⟩
  obtain ⟨w1, hw1⟩ : ∃ w1, w1 = w0.alloc (.cells #[.int .i64 lab] 3) := ⟨_, rfl⟩
  obtain ⟨w2, hw2⟩ : ∃ w2, w2 = w1.alloc (tapeObj 0 0 none 0 0 false) := ⟨_, rfl⟩
  have hs0 : w0.heap.size = w.heap.size + 1 := by rw [hw0]; simp
  have hs1 : w1.heap.size = w.heap.size + 2 := by rw [hw1]; simp; omega
  have b0 : Below w.heap.size w w0 := by rw [hw0]; exact (Below.refl _ _).alloc (Nat.le_refl _) _
  have b1 : Below w0.heap.size w0 w1 := by rw [hw1]; exact (Below.refl _ _).alloc (Nat.le_refl _) _
  have b2 : Below w1.heap.size w1 w2 := by rw [hw2]; exact (Below.refl _ _).alloc (Nat.le_refl _) _
  have b02 : Below w0.heap.size w0 w2 := b1.trans (b2.mono b1.size)
  have b12 : Below w.heap.size w w2 := b0.trans (b02.mono b0.size)
  have k0 : w0.heap[w.heap.size]? = some (.cells #[.slice A n C, .slice Sa sn sC] 80 (0, 0)) := by rw [hw0]; exact Go.Deep.blk_alloc_new _ _
  have k1 : w1.heap[w0.heap.size]? = some (.cells #[.int .i64 lab] 3 (0, 0)) := by rw [hw1]; exact Go.Deep.blk_alloc_new _ _
  have t2 : w2.heap[w1.heap.size]? = some (tapeObj 0 0 none 0 0 false) := by rw [hw2]; exact Go.Deep.blk_alloc_new _ _
  rw [hs0] at k1
  rw [hs1] at t2
  have g2 : w2.cell? ⟨w.heap.size + 1, 0, none⟩ = some (.int .i64 lab) := heap_cell (below_objR b2 k1)
  have KS := Lib.hid (below_objR b02 k0)
  have hidx := label_indexR (w.heap.size + 1) lab A ts n C _ w2 hnl hn (hr.old b12) g2
  have HI := Lib.hid hidx
  have HR := Lib.hid hr
  have HB := Lib.hid b12
  have HW : Hid (w2 = ((w.alloc (.cells #[.slice A n C, .slice Sa sn sC] 80)).alloc (.cells #[.int .i64 lab] 3)).alloc (.cells #[.int .i64 0, .int .i64 0, .slice none 0 0, .bool false] 28)) := Lib.hid (by rw [hw2, hw1, hw0]; rfl)
  have HT := Lib.hid t2
  have HG := Lib.hid g2
  have HNL := Lib.hid hnl
  have HSZ : Hid (w.heap.size + 2 < w2.heap.size) := Lib.hid (heap_lt HT.out)
  have s0 : w2.cell? ⟨w.heap.size, 0, none⟩ = some (.slice A n C) := heap_cell KS.out
  clear hw0 hw1 hw2 hs0 hs1 b0 b1 b2 b02 b12 k0 k1 g2 t2 hidx hr hnl
  go_enter Tryz.func50, Tryz.ntmps50
  go_upto_region 1 with fail
  rw [← HW.out]
  go_wp2_with fail
  refine HI.out.mono ?_
  rintro e w3 ⟨x, rfl, hx, hb3⟩
  have hT3 := below_objR hb3 HT.out
  have HB3 := Lib.hid (HB.out.trans (hb3.mono HB.out.size))
  have g3 : w3.cell? ⟨w.heap.size + 1, 0, none⟩ = some (.int .i64 lab) := (hb3.cell (World.block_lt_of_cell? _ _ HG.out)).trans HG.out
  have s3 : w3.cell? ⟨w.heap.size, 0, none⟩ = some (.slice A n C) := (hb3.cell (World.block_lt_of_cell? _ _ s0)).trans s0
  obtain ⟨y0, y1, y2, y3⟩ := tape4 hT3
  have f3 : ∀ j, w3.frozen? ⟨w.heap.size + 2, j, none⟩ = false := fun j => heap_frozen hT3
  have HT3 := Lib.hid hT3
  clear s0
  rcases hx with ⟨hx, hno⟩ | ⟨k, hk, hx, hp, hno⟩
  · subst hx
    have HF := Lib.hid (firstR_none hno)
    clear hno hb3 hT3
    go_wp2
    obtain ⟨z0, z1, z2, z3⟩ := tape4 (fourR_set HT3.out lab 0 none 0 0 true)
    refine bodyPost_ret (v := .agg #[.int .i64 lab, .int .i64 0, .slice none 0 0, .bool true]) (by simp [results, Tryz.results50, go_sem, z0, z1, z2, z3]) rfl ?_
    unfold TapeR
    rw [HF.out]
    exact ⟨none, 0, rfl, RdB.empty _ _ _, HB3.out.trans ((fourR_kp w3 (w.heap.size + 2) _ _ _ _).below HB3.out.size fun k hk => by omega)⟩
  · subst hx
    have hf := firstR_at hk hp hno
    have HF := Lib.hid hf
    obtain ⟨b, off, A', C', rfl, -, c0, c1, c2, c3, hb⟩ := (HR.out.in_.old HB3.out).at_ hk
    obtain ⟨⟨l2, cap, bs, lost⟩, ht⟩ : ∃ t, t = ts[k] := ⟨_, rfl⟩
    rw [← ht] at c0 c1 c2 c3 hb HF
    dsimp only at c0 c1 c2 c3 hb
    obtain ⟨m, hm⟩ : ∃ m, m = bs.length := ⟨_, rfl⟩
    rw [← hm] at c2
    have HM := Lib.hid hm
    have HBL := Lib.hid hb
    have i0 : (0 : Int) ≤ (k : Int) := by omega
    have i1 : (k : Int) < (n : Int) := by have := HNL.out; omega
    have i2 : decide ((k : Int) < 0) = false := decide_eq_false (by omega)
    clear hno hf hb3 hT3 hp ht hm hb
    go_wp2
    obtain ⟨z0, z1, z2, z3⟩ := tape4 (fourR_set HT3.out l2 cap A' m C' lost)
    refine bodyPost_ret (v := .agg #[.int .i64 l2, .int .i64 cap, .slice A' m C', .bool lost]) (by simp [results, Tryz.results50, go_sem, z0, z1, z2, z3]) rfl ?_
    unfold TapeR
    rw [HF.out]
    exact ⟨A', C', by rw [← HM.out], HBL.out.kp (fourR_kp w3 (w.heap.size + 2) _ _ _ _) (fun b hb e => by have := hb.2; omega), HB3.out.trans ((fourR_kp w3 (w.heap.size + 2) _ _ _ _).below HB3.out.size fun k hk => by omega)⟩
end Go.Proofs.YtndofmoepjfnfaaGreat
namespace Go.Proofs.YtndofmoepjfnfaaGreat
open Go.RowKit
open Pt (Tx)

/-- a part in memory: its head, its tape's label, and where it lies -/
def partObj (p : Tx) (v z f l s m : Int) (g : Bool) (lab at_ : Int) : Obj := .cells #[.string (tx p), .int .i64 v, .int .i64 z, .int .i64 f, .int .i64 l, .int .i64 s, .int .i64 m, .bool g, .int .i64 lab, .int .i64 at_] 74
theorem part10 {w : World} {B : Nat} {p : Tx} {v z f l s m : Int} {g : Bool} {lab at_ : Int} (h : w.heap[B]? = some (partObj p v z f l s m g lab at_)) :
    w.cell? ⟨B, 0, none⟩ = some (.string (tx p)) ∧ w.cell? ⟨B, 1, none⟩ = some (.int .i64 v) ∧ w.cell? ⟨B, 2, none⟩ = some (.int .i64 z) ∧ w.cell? ⟨B, 3, none⟩ = some (.int .i64 f)
      ∧ w.cell? ⟨B, 4, none⟩ = some (.int .i64 l) ∧ w.cell? ⟨B, 5, none⟩ = some (.int .i64 s) ∧ w.cell? ⟨B, 6, none⟩ = some (.int .i64 m) ∧ w.cell? ⟨B, 7, none⟩ = some (.bool g) ∧ w.cell? ⟨B, 8, none⟩ = some (.int .i64 lab) ∧ w.cell? ⟨B, 9, none⟩ = some (.int .i64 at_) :=
  ⟨heap_cell h, heap_cell h, heap_cell h, heap_cell h, heap_cell h, heap_cell h, heap_cell h, heap_cell h, heap_cell h, heap_cell h⟩
theorem part_frozen {w : World} {B : Nat} {p : Tx} {v z f l s m : Int} {g : Bool} {lab at_ : Int} (h : w.heap[B]? = some (partObj p v z f l s m g lab at_)) (j : Nat) : w.frozen? ⟨B, j, none⟩ = false := heap_frozen h
theorem below_obj' {o : Obj} {B : Nat} {x y : World} (hb : Below x.heap.size x y) (h : x.heap[B]? = some o) : y.heap[B]? = some o := (hb.block B (heap_lt h)).trans h
end Go.Proofs.YtndofmoepjfnfaaGreat
namespace Go.Proofs.YtndofmoepjfnfaaGreat
open Go.RowKit
open Pt (Tx)

/-- the blocks of one part -/
def Rs.wantsP (p : Ct.P) : List (Int × Nat × Nat) := (List.range (Vo.data p.h.len.toNat)).map fun k => (p.lab, p.at_.toNat + 1 + k, if k + 1 = Vo.data p.h.len.toNat then p.h.len.toNat - 64 * k else 64)
theorem wants_parts (f : Ct.F) : Rs.wants f = f.parts.flatMap Rs.wantsP := rfl
theorem read_first (ts : List St.T) (lab : Int) (n w : Nat) : Rs.read ts lab n w = Rs.loadZ (Me.first ts lab) (n : Int) (w : Int) := by
  have e : (fun t : St.T => t.label == lab) = (fun t : St.T => decide (t.label = lab)) := by funext t; exact Bool.beq_eq_decide_eq _ _
  unfold Rs.read Rs.tapeOf Me.first Rs.loadZ Vo.goodZ
  rw [e]
  cases ts.find? (fun t => decide (t.label = lab)) with
  | none =>
    show none = _
    dsimp only [Option.getD_none]
    rw [if_neg (by omega), Vo.good_lost rfl]
  | some t =>
    dsimp only [Option.getD_some]
    rw [if_neg (by omega), Int.toNat_natCast]
    cases Vo.good ⟨t.label, t.blocks, t.lost⟩ n with
    | none => rfl
    | some u =>
      dsimp only
      have e2 : (u.load.length = w) = ((u.load.length : Int) = (w : Int)) := by apply propext; omega
      simp only [e2]
theorem why_first (ts : List St.T) (lab : Int) : Rs.why ts lab = if (Me.first ts lab).lost = true then 9 else 8 := by
  have e : (fun t : St.T => t.label == lab) = (fun t : St.T => decide (t.label = lab)) := by funext t; exact Bool.beq_eq_decide_eq _ _
  unfold Rs.why Rs.tapeOf Me.first
  rw [e]
  cases ts.find? (fun t => decide (t.label = lab)) <;> rfl
theorem loadZ_len {t : St.T} {n z : Int} {l : Tx} (h : Rs.loadZ t n z = some l) : (l.length : Int) = z := by
  unfold Rs.loadZ at h
  split at h
  · cases h
  · split at h
    · rename_i hh; cases h; exact hh.2
    · cases h
theorem find_at {α : Type} {l : List α} {f : α → Bool} {k : Nat} (hk : k < l.length) (h : f l[k] = true) (hn : ∀ j (hj : j < k), f (l[j]'(Nat.lt_trans hj hk)) = false) : l.find? f = some l[k] := by
  rw [List.find?_eq_some_iff_getElem]
  exact ⟨h, k, hk, rfl, fun j hj => by rw [hn j hj]; rfl⟩
/-- what is read of some blocks -/
def Rs.gotL (ts : List St.T) (l : List (Int × Nat × Nat)) : Tx := l.flatMap fun x => (Rs.read ts x.1 x.2.1 x.2.2).getD []
def Rs.bad (ts : List St.T) (x : Int × Nat × Nat) : Bool := (Rs.read ts x.1 x.2.1 x.2.2).isNone
/-- a part's bytes; else the first block that none tells -/
def PartR (ts : List St.T) (p : Ct.P) (w : World) (e : Ending) (w' : World) : Prop :=
  (match (Rs.wantsP p).find? (Rs.bad ts) with
    | some x => e = .returned (.tuple #[.slice none 0 0, .agg #[.int .i64 x.1, .int .i64 (x.2.1 : Int)], .int .i64 (Rs.why ts x.1)])
    | none => ∃ v, e = .returned (.tuple #[v, .agg #[.int .i64 0, .int .i64 0], .int .i64 0]) ∧ OwnL w' w.heap.size v (Rs.gotL ts (Rs.wantsP p))) ∧ Below w.heap.size w w'
theorem PartR.no {ts : List St.T} {p : Ct.P} {w w' : World} {l n y : Int} {x : Int × Nat × Nat} (h : (Rs.wantsP p).find? (Rs.bad ts) = some x) (h1 : l = x.1) (h2 : n = (x.2.1 : Int)) (h3 : y = Rs.why ts x.1) (hb : Below w.heap.size w w') : PartR ts p w (.returned (.tuple #[.slice none 0 0, .agg #[.int .i64 l, .int .i64 n], .int .i64 y])) w' := by
  unfold PartR
  rw [h]
  exact ⟨by rw [h1, h2, h3], hb⟩
theorem PartR.yes {ts : List St.T} {p : Ct.P} {w w' : World} {v : Value} (h : (Rs.wantsP p).find? (Rs.bad ts) = none) (hO : OwnL w' w.heap.size v (Rs.gotL ts (Rs.wantsP p))) (hb : Below w.heap.size w w') : PartR ts p w (.returned (.tuple #[v, .agg #[.int .i64 0, .int .i64 0], .int .i64 0])) w' := by
  unfold PartR
  rw [h]
  exact ⟨⟨v, rfl, hO⟩, hb⟩
theorem first_len {ts : List St.T} {lab : Int} {M : Nat} (h : ∀ t ∈ ts, ∀ s ∈ t.blocks, s.length ≤ M) : ∀ s ∈ (Me.first ts lab).blocks, s.length ≤ M := by
  unfold Me.first
  cases hf : ts.find? (fun t => decide (t.label = lab)) with
  | none => intro s hs; cases hs
  | some t => exact h t (List.mem_of_find?_eq_some hf)
/-- what restore's part asks of the k-th block -/
theorem wantsP_at {p : Ct.P} {L a : Nat} (hL : p.h.len = (L : Int)) (ha : p.at_ = (a : Int)) {k : Nat} (hk : k < (L + 63) / 64) : ∃ h : k < (Rs.wantsP p).length, (Rs.wantsP p)[k] = (p.lab, a + 1 + k, min (L - 64 * k) 64) := by
  have e : (Rs.wantsP p).length = (L + 63) / 64 := by unfold Rs.wantsP Vo.data; rw [hL]; simp
  refine ⟨by omega, ?_⟩
  unfold Rs.wantsP Vo.data
  rw [List.getElem_map, List.getElem_range, hL, ha, Int.toNat_natCast, Int.toNat_natCast]
  congr 2
  split <;> omega
theorem ownL_low {w : World} {B B' : Nat} {v : Value} {l : Tx} (h : OwnL w B v l) (hb : B' ≤ B) : OwnL w B' v l := by
  refine ⟨h.1, ?_⟩
  rcases h.2 with h0 | ⟨g, cap, cur, e, hg, r⟩
  · exact .inl h0
  · exact .inr ⟨g, cap, cur, e, Nat.le_trans hb hg, r⟩
theorem spot_kp (w : World) (g : Nat) (a b : Value) : Kp (· = g) w ((w.setCell ⟨g, 0, none⟩ a).setCell ⟨g, 1, none⟩ b) := (Kp.store _ _ _ _).trans (Kp.store _ _ _ _)
theorem spot_set {w : World} {g : Nat} {a0 b0 : Int} (h : w.heap[g]? = some (.cells #[.int .i64 a0, .int .i64 b0] 39 (0, 0))) (a b : Int) :
    ((w.setCell ⟨g, 0, none⟩ (.int .i64 a)).setCell ⟨g, 1, none⟩ (.int .i64 b)).heap[g]? = some (.cells #[.int .i64 a, .int .i64 b] 39 (0, 0)) := heap_set (heap_set h (.int .i64 a)) (.int .i64 b)
set_option maxRecDepth 100000 in
set_option maxHeartbeats 8000000 in
theorem part_anyR (A : Option Addr) (ts : List St.T) (n C : Nat) (Sa : Option Addr) (sC : Nat) (G : Nat → Prop) (P : Tx) (v z f : Int) (L : Nat) (s m : Int) (g : Bool) (lab : Int) (a : Nat) (w : World) (hnl : n = ts.length) (hn : n ≤ 1000000) (hr : RdT w A ts G) (hl : ∀ t ∈ ts, ∀ s ∈ t.blocks, s.length ≤ 1000000) (hL : L ≤ 1000000) (ha : a ≤ 1000000000) :
    Calls Tryz.prog 24 #[.agg #[.slice A n C, .slice Sa 0 sC], .agg #[.string (tx P), .int .i64 v, .int .i64 z, .int .i64 f, .int .i64 (L : Int), .int .i64 s, .int .i64 m, .bool g, .int .i64 lab, .int .i64 (a : Int)]] w (PartR ts ⟨⟨P, v, z, f, (L : Int), s, m, g⟩, lab, (a : Int)⟩ w) := by
  obtain ⟨w0, hw0⟩ : ∃ w0, w0 = w.alloc (.cells #[.slice A n C, .slice Sa 0 sC] 80) := ⟨_, rfl⟩
  obtain ⟨w1, hw1⟩ : ∃ w1, w1 = w0.alloc (partObj P v z f L s m g lab a) := ⟨_, rfl⟩
  obtain ⟨w2, hw2⟩ : ∃ w2, w2 = w1.alloc (.cells #[.int .i64 0, .int .i64 0] 39) := ⟨_, rfl⟩
  have hs0 : w0.heap.size = w.heap.size + 1 := by rw [hw0]; simp
  have hs1 : w1.heap.size = w.heap.size + 2 := by rw [hw1]; simp; omega
  have b0 : Below w.heap.size w w0 := by rw [hw0]; exact (Below.refl _ _).alloc (Nat.le_refl _) _
  have b1 : Below w0.heap.size w0 w1 := by rw [hw1]; exact (Below.refl _ _).alloc (Nat.le_refl _) _
  have b2 : Below w1.heap.size w1 w2 := by rw [hw2]; exact (Below.refl _ _).alloc (Nat.le_refl _) _
  have b02 : Below w0.heap.size w0 w2 := b1.trans (b2.mono b1.size)
  have b12 : Below w.heap.size w w2 := b0.trans (b02.mono b0.size)
  have k0 : w0.heap[w.heap.size]? = some (.cells #[.slice A n C, .slice Sa 0 sC] 80 (0, 0)) := by rw [hw0]; exact Go.Deep.blk_alloc_new _ _
  have k1 : w1.heap[w0.heap.size]? = some (partObj P v z f L s m g lab a) := by rw [hw1]; exact Go.Deep.blk_alloc_new _ _
  have k2 : w2.heap[w1.heap.size]? = some (.cells #[.int .i64 0, .int .i64 0] 39 (0, 0)) := by rw [hw2]; exact Go.Deep.blk_alloc_new _ _
  rw [hs0] at k1
  rw [hs1] at k2
  have HK0 := Lib.hid ((b02.block _ (heap_lt k0)).trans k0)
  have HK1 := Lib.hid ((b2.block _ (heap_lt k1)).trans k1)
  have HK2 := Lib.hid k2
  have hcall := tapeR_any A ts n C Sa 0 sC G lab w2 hnl hn (hr.old b12)
  have HC := Lib.hid hcall
  have HB := Lib.hid b12
  have HW : Hid (w2 = ((w.alloc (.cells #[.slice A n C, .slice Sa 0 sC] 80)).alloc (.cells #[.string (tx P), .int .i64 v, .int .i64 z, .int .i64 f, .int .i64 L, .int .i64 s, .int .i64 m, .bool g, .int .i64 lab, .int .i64 a] 74)).alloc (.cells #[.int .i64 0, .int .i64 0] 39)) := Lib.hid (by rw [hw2, hw1, hw0]; rfl)
  have HFL := Lib.hid (first_len (lab := lab) hl)
  have s0 : w2.cell? ⟨w.heap.size, 0, none⟩ = some (.slice A n C) := heap_cell HK0.out
  have s1 : w2.cell? ⟨w.heap.size, 1, none⟩ = some (.slice Sa 0 sC) := heap_cell HK0.out
  obtain ⟨p0, p1, p2, p3, p4, p5, p6, p7, p8, p9⟩ := part10 HK1.out
  clear hw0 hw1 hw2 hs0 hs1 b0 b1 b2 b02 b12 k0 k1 k2 hcall hr hl hnl
  go_enter Tryz.func24, Tryz.ntmps24
  go_upto_region 1 with fail
  rw [← HW.out]
  obtain ⟨t, ht⟩ : ∃ t, t = Me.first ts lab := ⟨_, rfl⟩
  rw [← ht] at HC HFL
  have HTF := Lib.hid ht
  have HWY := Lib.hid (why_first ts lab)
  rw [← ht] at HWY
  clear ht
  obtain ⟨tl, tc, tb, tlost⟩ := t
  obtain ⟨yw, hyw⟩ : ∃ yw : Int, yw = Rs.why ts lab := ⟨_, rfl⟩
  have HYW := Lib.hid hyw
  clear hyw
  have HWG : Hid (∀ (At : Option Addr) (tn Cq : Nat) (w' : World), Calls Tryz.prog 52 #[.agg #[.int .i64 tl, .int .i64 tc, .slice At tn Cq, .bool tlost]] w' (fun e w'' => e = .returned (.int .i64 yw) ∧ Below w'.heap.size w' w'')) := Lib.hid fun At tn Cq w' => by
    rw [HYW.out, HWY.out]
    exact whyGone_any tl tc At tn Cq tlost w'
  dsimp only at HFL
  obtain ⟨tn, htn⟩ : ∃ x, x = tb.length := ⟨_, rfl⟩
  have HTN := Lib.hid htn
  go_upto_region 2 with (go_at_call 50; refine HC.out.mono ?_; rintro e w3 ⟨At, Cq, rfl, hrb, hb3⟩; have HRB := Lib.hid hrb; have HB3 := Lib.hid hb3; clear hrb hb3 s0 s1 p0 p1 p2 p3 p4 p5 p6 p7 p8 p9; try dsimp only; try rw [← htn]; clear htn)
  obtain ⟨w4, hw4⟩ : ∃ x, x = w3.alloc (tapeObj tl tc At tn Cq tlost) := ⟨_, rfl⟩
  have h34 : Below w3.heap.size w3 w4 := by rw [hw4]; exact (Below.refl _ _).alloc (Nat.le_refl _) _
  have HT4 : Hid (w4.heap[w3.heap.size]? = some (tapeObj tl tc At tn Cq tlost)) := Lib.hid (by rw [hw4]; exact Go.Deep.blk_alloc_new _ _)
  have h24 : Below w2.heap.size w2 w4 := HB3.out.trans (h34.mono HB3.out.size)
  have HB4 := Lib.hid (HB.out.trans (h24.mono HB.out.size))
  have HK04 := Lib.hid ((h24.block _ (heap_lt HK0.out)).trans HK0.out)
  have HK14 : Hid (w4.heap[w.heap.size + 1]? = some (partObj P v z f L s m g lab a)) := Lib.hid ((h24.block _ (heap_lt HK1.out)).trans HK1.out)
  have HK24 : Hid (w4.heap[w.heap.size + 2]? = some (.cells #[.int .i64 0, .int .i64 0] 39 (0, 0))) := Lib.hid ((h24.block _ (heap_lt HK2.out)).trans HK2.out)
  have HR4 := Lib.hid (HRB.out.old h34)
  have HW4 : Hid (w4 = w3.alloc (.cells #[.int .i64 tl, .int .i64 tc, .slice At tn Cq, .bool tlost] 28)) := Lib.hid hw4
  have HS4 : Hid (w.heap.size + 2 < w3.heap.size) := Lib.hid (by have := heap_lt HK2.out; have := HB3.out.size; omega)
  rw [← HW4.out]
  clear hw4 h34 h24
  obtain ⟨p, hp⟩ : ∃ p : Ct.P, p = ⟨⟨P, v, z, f, L, s, m, g⟩, lab, a⟩ := ⟨_, rfl⟩
  rw [← hp]
  have HPL : Hid (p.h.len = (L : Int)) := Lib.hid (by rw [hp])
  have HPA : Hid (p.at_ = (a : Int)) := Lib.hid (by rw [hp])
  have HPB : Hid (p.lab = lab) := Lib.hid (by rw [hp])
  have HPE := Lib.hid hp
  clear hp
  obtain ⟨D, hD⟩ : ∃ D, D = (L + 63) / 64 := ⟨_, rfl⟩
  have hD1 : L ≤ 64 * D := by omega
  have hD2 : 64 * D ≤ L + 63 := by omega
  have HD := Lib.hid hD
  clear hD
  have HWA : Hid (∀ k, k < D → ∃ h : k < (Rs.wantsP p).length, (Rs.wantsP p)[k] = (lab, a + 1 + k, min (L - 64 * k) 64)) := Lib.hid fun k hk => by
    obtain ⟨h, e⟩ := wantsP_at HPL.out HPA.out (k := k) (by rw [← HD.out]; exact hk)
    exact ⟨h, by rw [e, HPB.out]⟩
  have HWL : Hid ((Rs.wantsP p).length = D) := Lib.hid (by rw [HD.out]; unfold Rs.wantsP Vo.data; rw [HPL.out]; simp)
  obtain ⟨p0, p1, p2, p3, p4, p5, p6, p7, p8, p9⟩ := part10 HK14.out
  go_wp2
  clear p0 p1 p2 p3 p4 p5 p6 p7 p8 p9
  go_loopw [9, 8] (fun vn vb wr => ∃ (k : Nat) (pre : Tx), k ≤ D ∧ vn = .int .i64 (((a + 1 + k : Nat)) : Int) ∧ pre.length = min (64 * k) L ∧ Hid (pre = Rs.gotL ts ((Rs.wantsP p).take k)) ∧ Hid (∀ j (_ : j < k) (hl : j < (Rs.wantsP p).length), Rs.bad ts (Rs.wantsP p)[j] = false) ∧ Hid (OwnL wr w4.heap.size vb pre) ∧ Hid (Below w4.heap.size w4 wr)) (fun vn _ _ => a + 1 + D - (intOf vn).toNat)
  case atStart => exact ⟨0, [], Nat.zero_le _, by simp, by simp, Lib.hid (by rw [List.take_zero]; rfl), Lib.hid (fun j hj => absurd hj (by omega)), Lib.hid (OwnL.nil _ _), Lib.hid (Below.refl _ _)⟩
  case round =>
    obtain ⟨k, pre, hk, rfl, hpl, HP, HN, HO, HBR⟩ := hrel
    obtain ⟨q0, q1, q2, q3, q4, q5, q6, q7, q8, q9⟩ := part10 (below_objR HBR.out HK14.out)
    obtain ⟨y0, y1, y2, y3⟩ := tape4 (below_objR HBR.out HT4.out)
    have s0 : wr.cell? ⟨w.heap.size, 0, none⟩ = some (.slice A n C) := heap_cell (below_objR HBR.out HK04.out)
    have s1 : wr.cell? ⟨w.heap.size, 1, none⟩ = some (.slice Sa 0 sC) := heap_cell (below_objR HBR.out HK04.out)
    obtain ⟨Ab, Cb, rfl, ho1, ho2, ho3, hor⟩ := HO.out.rd
    obtain ⟨N, hN⟩ : ∃ N, N = pre.length := ⟨_, rfl⟩
    rw [← hN] at hpl ho1 ho3
    rw [← hN]
    have HNN := Lib.hid hN
    clear hor ho1 ho2 ho3 hN
    by_cases hlt : k < D
    · have hN2 : N = 64 * k := by omega
      have h64 : 64 * k < L := by omega
      have e0 : decide (N < L) = true := decide_eq_true (by omega)
      have HN2 := Lib.hid hN2
      clear hpl hN2
      have hNL : N < L := by have := HN2.out; omega
      by_cases hs : (L : Int) - (N : Int) ≤ 64
      · have hs' : ¬ 64 < (L : Int) - (N : Int) := by omega
        have hcall := load_any A n C Sa sC tl tc tb At tn Cq _ tlost (a + 1 + k) ((L : Int) - (N : Int)) wr HTN.out (HR4.out.old HBR.out) HFL.out
        obtain ⟨o, ho⟩ : ∃ o, o = Rs.loadZ ⟨tl, tc, tb, tlost⟩ (a + 1 + k) ((L : Int) - (N : Int)) := ⟨_, rfl⟩
        rw [← ho] at hcall
        have HC := Lib.hid hcall
        have HOO := Lib.hid ho
        have HRD : Hid (Rs.read ts lab (a + 1 + k) (min (L - 64 * k) 64) = o) := Lib.hid (by
          rw [read_first, ← HTF.out, ho]
          congr 1 <;> (have := HN2.out; omega))
        clear hcall ho
        go_wp2_with fail
        all_goals try (exfalso; omega)
        refine HC.out.mono ?_
        rintro e w5 ⟨Al, ml, Cl, rfl, hml, hmlc, hAl, hrl, hb5⟩
        have HML := Lib.hid hml
        have HAL := Lib.hid hAl
        have HRL := Lib.hid hrl
        have HB5 : Hid (Below w4.heap.size w4 w5) := Lib.hid (HBR.out.trans (hb5.mono HBR.out.size))
        have HO5 : Hid (OwnL w5 w4.heap.size (.slice Ab N Cb) pre) := Lib.hid (by rw [HNN.out]; exact HO.out.of_block fun q e => hb5.block q (HO.out.lt q e))
        clear hml hmlc hAl hrl hb5 q0 q1 q2 q3 q4 q5 q6 q7 q8 q9 y0 y1 y2 y3 s0 s1
        obtain ⟨q0, q1, q2, q3, q4, q5, q6, q7, q8, q9⟩ := part10 (below_objR HB5.out HK14.out)
        obtain ⟨y0, y1, y2, y3⟩ := tape4 (below_objR HB5.out HT4.out)
        cases o with
        | none =>
          have f5 : ∀ j, w5.frozen? ⟨w.heap.size + 1 + 1, j, none⟩ = false := fun j => heap_frozen (below_objR HB5.out HK24.out)
          go_upto_region 8 with fail
          have HS5 : Hid (∀ y, Below w5.heap.size w5 y → y.cell? ⟨w.heap.size + 1, 8, none⟩ = some (.int .i64 lab) ∧ y.cell? ⟨w3.heap.size, 0, none⟩ = some (.int .i64 tl) ∧ y.cell? ⟨w3.heap.size, 1, none⟩ = some (.int .i64 tc) ∧ y.cell? ⟨w3.heap.size, 2, none⟩ = some (.slice At tn Cq) ∧ y.cell? ⟨w3.heap.size, 3, none⟩ = some (.bool tlost)) := Lib.hid fun y hy => by
            obtain ⟨-, -, -, -, -, -, -, -, a8, -⟩ := part10 (below_objR hy (below_objR HB5.out HK14.out))
            obtain ⟨b0, b1, b2, b3⟩ := tape4 (below_objR hy (below_objR HB5.out HT4.out))
            exact ⟨a8, b0, b1, b2, b3⟩
          have HS7 : Hid (∀ y, Below w5.heap.size w5 y → ∀ A B : Value, (fun y : World => y.cell? ⟨w.heap.size + 1, 8, none⟩ = some (.int .i64 lab) ∧ y.cell? ⟨w3.heap.size, 0, none⟩ = some (.int .i64 tl) ∧ y.cell? ⟨w3.heap.size, 1, none⟩ = some (.int .i64 tc) ∧ y.cell? ⟨w3.heap.size, 2, none⟩ = some (.slice At tn Cq) ∧ y.cell? ⟨w3.heap.size, 3, none⟩ = some (.bool tlost)) ((y.setCell ⟨w.heap.size + 1 + 1, 0, none⟩ A).setCell ⟨w.heap.size + 1 + 1, 1, none⟩ B)) := Lib.hid fun y hy A B => by
            obtain ⟨a8, b0, b1, b2, b3⟩ := HS5.out y hy
            have hk := spot_kp y (w.heap.size + 1 + 1) A B
            have hs := HS4.out
            exact ⟨hk.cell a8 (by show ¬ _ = _; simp), hk.cell b0 (by show ¬ _ = _; simp; omega), hk.cell b1 (by show ¬ _ = _; simp; omega), hk.cell b2 (by show ¬ _ = _; simp; omega), hk.cell b3 (by show ¬ _ = _; simp; omega)⟩
          have hx5 := HS5.out _ (Below.refl w5.heap.size w5).drew
          go_region_held3 (fun y => y.cell? ⟨w.heap.size + 1, 8, none⟩ = some (.int .i64 lab) ∧ y.cell? ⟨w3.heap.size, 0, none⟩ = some (.int .i64 tl) ∧ y.cell? ⟨w3.heap.size, 1, none⟩ = some (.int .i64 tc) ∧ y.cell? ⟨w3.heap.size, 2, none⟩ = some (.slice At tn Cq) ∧ y.cell? ⟨w3.heap.size, 3, none⟩ = some (.bool tlost))
            (first
              | exact hx5
              | exact hx6
              | exact hx7)
            (first
              | (go_at_call 52; refine (HWG.out _ _ _ _).mono ?_; rintro e w6 ⟨rfl, hb6⟩; have hd6 : Below w5.heap.size w5 w6 := ((Below.refl w5.heap.size w5).drew).trans (hb6.mono (by exact ((Below.refl w5.heap.size w5).drew).size)); have f6 : ∀ j, w6.frozen? ⟨w.heap.size + 1 + 1, j, none⟩ = false := fun j => heap_frozen (below_objR hd6 (below_objR HB5.out HK24.out)); have c60 : w6.cell? ⟨w.heap.size + 1 + 1, 0, none⟩ = some (.int .i64 0) := heap_cell (below_objR hd6 (below_objR HB5.out HK24.out)); have c61 : w6.cell? ⟨w.heap.size + 1 + 1, 1, none⟩ = some (.int .i64 0) := heap_cell (below_objR hd6 (below_objR HB5.out HK24.out)); have hx6 := HS5.out _ hd6; have hx7 := HS7.out _ hd6 (.int .i64 lab) (.int .i64 (a + 1 + k)); have HB6 := Lib.hid hd6; clear hb6 hd6))
          have HFIND : Hid ((Rs.wantsP p).find? (Rs.bad ts) = some (lab, a + 1 + k, min (L - 64 * k) 64)) := Lib.hid (by
            obtain ⟨h, e⟩ := HWA.out k hlt
            rw [find_at h (by unfold Rs.bad; rw [e]; dsimp only; rw [HRD.out]; rfl) (fun j hj => HN.out j hj (by omega)), e])
          go_wp2
          obtain ⟨z0, z1⟩ : ((w6.setCell ⟨w.heap.size + 1 + 1, 0, none⟩ (.int .i64 lab)).setCell ⟨w.heap.size + 1 + 1, 1, none⟩ (.int .i64 (a + 1 + k))).cell? ⟨w.heap.size + 1 + 1, 0, none⟩ = some (.int .i64 lab) ∧ ((w6.setCell ⟨w.heap.size + 1 + 1, 0, none⟩ (.int .i64 lab)).setCell ⟨w.heap.size + 1 + 1, 1, none⟩ (.int .i64 (a + 1 + k))).cell? ⟨w.heap.size + 1 + 1, 1, none⟩ = some (.int .i64 (a + 1 + k)) := by
            have h := spot_set (below_objR HB6.out (below_objR HB5.out HK24.out)) lab (a + 1 + k)
            exact ⟨heap_cell h, heap_cell h⟩
          refine bodyPost_ret (v := .tuple #[.slice none 0 0, .agg #[.int .i64 lab, .int .i64 (a + 1 + k)], .int .i64 yw]) (by simp [results, Tryz.results24, go_sem, z0, z1]) rfl (PartR.no (x := (lab, a + 1 + k, min (L - 64 * k) 64)) (by rw [← HPE.out]; exact HFIND.out) rfl (by show (a : Int) + 1 + k = ((a + 1 + k : Nat) : Int); omega) HYW.out ?_)
          have hq := HB4.out.trans ((HB5.out.trans (HB6.out.mono HB5.out.size)).mono HB4.out.size)
          exact hq.trans ((spot_kp w6 (w.heap.size + 1 + 1) _ _).below hq.size fun j hj => by omega)
        | some l =>
          have hll : (l.length : Int) = (L : Int) - (N : Int) := loadZ_len HOO.out.symm
          have hmll : ml = l.length := HML.out
          have hpre : pre.length = N := HNN.out.symm
          obtain ⟨hw, hwe⟩ := HWA.out k hlt
          have HTK : Hid ((Rs.wantsP p).take (k + 1) = (Rs.wantsP p).take k ++ [(lab, a + 1 + k, min (L - 64 * k) 64)]) := Lib.hid (by rw [← hwe]; exact (List.take_append_getElem hw).symm)
          have HNP : Hid (∀ j (_ : j < k + 1) (hl : j < (Rs.wantsP p).length), Rs.bad ts (Rs.wantsP p)[j] = false) := Lib.hid fun j hj hl => by
            by_cases e : j = k
            · subst e
              unfold Rs.bad
              rw [hwe]
              dsimp only
              rw [HRD.out]; rfl
            · exact HN.out j (by omega) hl
          have HPP : Hid (pre ++ l = Rs.gotL ts ((Rs.wantsP p).take (k + 1))) := Lib.hid (by
            rw [HTK.out, HP.out]
            unfold Rs.gotL
            rw [List.flatMap_append, List.flatMap_cons, List.flatMap_nil, List.append_nil]
            dsimp only
            rw [HRD.out]; rfl)
          have HLE : Hid ((pre ++ l).length = min (64 * (k + 1)) L) := Lib.hid (by rw [List.length_append, hpre]; have := HN2.out; omega)
          have hsm : pre.length + ml ≤ 140737488355328 := by omega
          have HML2 : Hid (l.length = ml) := Lib.hid hmll.symm
          clear hw hwe hll hmll hpre
          go_wp2_with (at_builtin; refine wpList_append_bl _ rfl _ _ rfl w4.heap.size _ pre rfl HO5.out Al ml Cl l _ rfl HML2.out HAL.out HRL.out hsm HB5.out.size ?_; intro v' w6 hv hg; have HV := Lib.hid hv; have HB6 := Lib.hid (HB5.out.grown hg HB5.out.size HO5.out.lo); clear hv hg)
          go_roundw
          case rel => exact ⟨k + 1, pre ++ l, by omega, by go_num, HLE.out, HPP, HNP, HV, HB6⟩
          case measure => simp [intOf]; omega
      · have hs' : 64 < (L : Int) - (N : Int) := by omega
        have hcall := load_any A n C Sa sC tl tc tb At tn Cq _ tlost (a + 1 + k) (64) wr HTN.out (HR4.out.old HBR.out) HFL.out
        obtain ⟨o, ho⟩ : ∃ o, o = Rs.loadZ ⟨tl, tc, tb, tlost⟩ (a + 1 + k) (64) := ⟨_, rfl⟩
        rw [← ho] at hcall
        have HC := Lib.hid hcall
        have HOO := Lib.hid ho
        have HRD : Hid (Rs.read ts lab (a + 1 + k) (min (L - 64 * k) 64) = o) := Lib.hid (by
          rw [read_first, ← HTF.out, ho]
          congr 1 <;> (have := HN2.out; omega))
        clear hcall ho
        go_wp2_with fail
        all_goals try (exfalso; omega)
        refine HC.out.mono ?_
        rintro e w5 ⟨Al, ml, Cl, rfl, hml, hmlc, hAl, hrl, hb5⟩
        have HML := Lib.hid hml
        have HAL := Lib.hid hAl
        have HRL := Lib.hid hrl
        have HB5 : Hid (Below w4.heap.size w4 w5) := Lib.hid (HBR.out.trans (hb5.mono HBR.out.size))
        have HO5 : Hid (OwnL w5 w4.heap.size (.slice Ab N Cb) pre) := Lib.hid (by rw [HNN.out]; exact HO.out.of_block fun q e => hb5.block q (HO.out.lt q e))
        clear hml hmlc hAl hrl hb5 q0 q1 q2 q3 q4 q5 q6 q7 q8 q9 y0 y1 y2 y3 s0 s1
        obtain ⟨q0, q1, q2, q3, q4, q5, q6, q7, q8, q9⟩ := part10 (below_objR HB5.out HK14.out)
        obtain ⟨y0, y1, y2, y3⟩ := tape4 (below_objR HB5.out HT4.out)
        cases o with
        | none =>
          have f5 : ∀ j, w5.frozen? ⟨w.heap.size + 1 + 1, j, none⟩ = false := fun j => heap_frozen (below_objR HB5.out HK24.out)
          go_upto_region 8 with fail
          have HS5 : Hid (∀ y, Below w5.heap.size w5 y → y.cell? ⟨w.heap.size + 1, 8, none⟩ = some (.int .i64 lab) ∧ y.cell? ⟨w3.heap.size, 0, none⟩ = some (.int .i64 tl) ∧ y.cell? ⟨w3.heap.size, 1, none⟩ = some (.int .i64 tc) ∧ y.cell? ⟨w3.heap.size, 2, none⟩ = some (.slice At tn Cq) ∧ y.cell? ⟨w3.heap.size, 3, none⟩ = some (.bool tlost)) := Lib.hid fun y hy => by
            obtain ⟨-, -, -, -, -, -, -, -, a8, -⟩ := part10 (below_objR hy (below_objR HB5.out HK14.out))
            obtain ⟨b0, b1, b2, b3⟩ := tape4 (below_objR hy (below_objR HB5.out HT4.out))
            exact ⟨a8, b0, b1, b2, b3⟩
          have HS7 : Hid (∀ y, Below w5.heap.size w5 y → ∀ A B : Value, (fun y : World => y.cell? ⟨w.heap.size + 1, 8, none⟩ = some (.int .i64 lab) ∧ y.cell? ⟨w3.heap.size, 0, none⟩ = some (.int .i64 tl) ∧ y.cell? ⟨w3.heap.size, 1, none⟩ = some (.int .i64 tc) ∧ y.cell? ⟨w3.heap.size, 2, none⟩ = some (.slice At tn Cq) ∧ y.cell? ⟨w3.heap.size, 3, none⟩ = some (.bool tlost)) ((y.setCell ⟨w.heap.size + 1 + 1, 0, none⟩ A).setCell ⟨w.heap.size + 1 + 1, 1, none⟩ B)) := Lib.hid fun y hy A B => by
            obtain ⟨a8, b0, b1, b2, b3⟩ := HS5.out y hy
            have hk := spot_kp y (w.heap.size + 1 + 1) A B
            have hs := HS4.out
            exact ⟨hk.cell a8 (by show ¬ _ = _; simp), hk.cell b0 (by show ¬ _ = _; simp; omega), hk.cell b1 (by show ¬ _ = _; simp; omega), hk.cell b2 (by show ¬ _ = _; simp; omega), hk.cell b3 (by show ¬ _ = _; simp; omega)⟩
          have hx5 := HS5.out _ (Below.refl w5.heap.size w5).drew
          go_region_held3 (fun y => y.cell? ⟨w.heap.size + 1, 8, none⟩ = some (.int .i64 lab) ∧ y.cell? ⟨w3.heap.size, 0, none⟩ = some (.int .i64 tl) ∧ y.cell? ⟨w3.heap.size, 1, none⟩ = some (.int .i64 tc) ∧ y.cell? ⟨w3.heap.size, 2, none⟩ = some (.slice At tn Cq) ∧ y.cell? ⟨w3.heap.size, 3, none⟩ = some (.bool tlost))
            (first
              | exact hx5
              | exact hx6
              | exact hx7)
            (first
              | (go_at_call 52; refine (HWG.out _ _ _ _).mono ?_; rintro e w6 ⟨rfl, hb6⟩; have hd6 : Below w5.heap.size w5 w6 := ((Below.refl w5.heap.size w5).drew).trans (hb6.mono (by exact ((Below.refl w5.heap.size w5).drew).size)); have f6 : ∀ j, w6.frozen? ⟨w.heap.size + 1 + 1, j, none⟩ = false := fun j => heap_frozen (below_objR hd6 (below_objR HB5.out HK24.out)); have c60 : w6.cell? ⟨w.heap.size + 1 + 1, 0, none⟩ = some (.int .i64 0) := heap_cell (below_objR hd6 (below_objR HB5.out HK24.out)); have c61 : w6.cell? ⟨w.heap.size + 1 + 1, 1, none⟩ = some (.int .i64 0) := heap_cell (below_objR hd6 (below_objR HB5.out HK24.out)); have hx6 := HS5.out _ hd6; have hx7 := HS7.out _ hd6 (.int .i64 lab) (.int .i64 (a + 1 + k)); have HB6 := Lib.hid hd6; clear hb6 hd6))
          have HFIND : Hid ((Rs.wantsP p).find? (Rs.bad ts) = some (lab, a + 1 + k, min (L - 64 * k) 64)) := Lib.hid (by
            obtain ⟨h, e⟩ := HWA.out k hlt
            rw [find_at h (by unfold Rs.bad; rw [e]; dsimp only; rw [HRD.out]; rfl) (fun j hj => HN.out j hj (by omega)), e])
          go_wp2
          obtain ⟨z0, z1⟩ : ((w6.setCell ⟨w.heap.size + 1 + 1, 0, none⟩ (.int .i64 lab)).setCell ⟨w.heap.size + 1 + 1, 1, none⟩ (.int .i64 (a + 1 + k))).cell? ⟨w.heap.size + 1 + 1, 0, none⟩ = some (.int .i64 lab) ∧ ((w6.setCell ⟨w.heap.size + 1 + 1, 0, none⟩ (.int .i64 lab)).setCell ⟨w.heap.size + 1 + 1, 1, none⟩ (.int .i64 (a + 1 + k))).cell? ⟨w.heap.size + 1 + 1, 1, none⟩ = some (.int .i64 (a + 1 + k)) := by
            have h := spot_set (below_objR HB6.out (below_objR HB5.out HK24.out)) lab (a + 1 + k)
            exact ⟨heap_cell h, heap_cell h⟩
          refine bodyPost_ret (v := .tuple #[.slice none 0 0, .agg #[.int .i64 lab, .int .i64 (a + 1 + k)], .int .i64 yw]) (by simp [results, Tryz.results24, go_sem, z0, z1]) rfl (PartR.no (x := (lab, a + 1 + k, min (L - 64 * k) 64)) (by rw [← HPE.out]; exact HFIND.out) rfl (by show (a : Int) + 1 + k = ((a + 1 + k : Nat) : Int); omega) HYW.out ?_)
          have hq := HB4.out.trans ((HB5.out.trans (HB6.out.mono HB5.out.size)).mono HB4.out.size)
          exact hq.trans ((spot_kp w6 (w.heap.size + 1 + 1) _ _).below hq.size fun j hj => by omega)
        | some l =>
          have hll : (l.length : Int) = 64 := loadZ_len HOO.out.symm
          have hmll : ml = l.length := HML.out
          have hpre : pre.length = N := HNN.out.symm
          obtain ⟨hw, hwe⟩ := HWA.out k hlt
          have HTK : Hid ((Rs.wantsP p).take (k + 1) = (Rs.wantsP p).take k ++ [(lab, a + 1 + k, min (L - 64 * k) 64)]) := Lib.hid (by rw [← hwe]; exact (List.take_append_getElem hw).symm)
          have HNP : Hid (∀ j (_ : j < k + 1) (hl : j < (Rs.wantsP p).length), Rs.bad ts (Rs.wantsP p)[j] = false) := Lib.hid fun j hj hl => by
            by_cases e : j = k
            · subst e
              unfold Rs.bad
              rw [hwe]
              dsimp only
              rw [HRD.out]; rfl
            · exact HN.out j (by omega) hl
          have HPP : Hid (pre ++ l = Rs.gotL ts ((Rs.wantsP p).take (k + 1))) := Lib.hid (by
            rw [HTK.out, HP.out]
            unfold Rs.gotL
            rw [List.flatMap_append, List.flatMap_cons, List.flatMap_nil, List.append_nil]
            dsimp only
            rw [HRD.out]; rfl)
          have HLE : Hid ((pre ++ l).length = min (64 * (k + 1)) L) := Lib.hid (by rw [List.length_append, hpre]; have := HN2.out; omega)
          have hsm : pre.length + ml ≤ 140737488355328 := by omega
          have HML2 : Hid (l.length = ml) := Lib.hid hmll.symm
          clear hw hwe hll hmll hpre
          go_wp2_with (at_builtin; refine wpList_append_bl _ rfl _ _ rfl w4.heap.size _ pre rfl HO5.out Al ml Cl l _ rfl HML2.out HAL.out HRL.out hsm HB5.out.size ?_; intro v' w6 hv hg; have HV := Lib.hid hv; have HB6 := Lib.hid (HB5.out.grown hg HB5.out.size HO5.out.lo); clear hv hg)
          go_roundw
          case rel => exact ⟨k + 1, pre ++ l, by omega, by go_num, HLE.out, HPP, HNP, HV, HB6⟩
          case measure => simp [intOf]; omega
    · have hkD : k = D := by omega
      have hN2 : N = L := by omega
      have e0 : decide (N < L) = false := decide_eq_false (by omega)
      have HFIND : Hid ((Rs.wantsP p).find? (Rs.bad ts) = none) := Lib.hid (by
        rw [List.find?_eq_none]
        intro x hx
        obtain ⟨j, hj, rfl⟩ := List.mem_iff_getElem.1 hx
        rw [HN.out j (by have := HWL.out; omega) hj]
        decide)
      have HGOT : Hid (Rs.gotL ts (Rs.wantsP p) = pre) := Lib.hid (by rw [HP.out, List.take_of_length_le (by have := HWL.out; omega)])
      have f9 : ∀ j, wr.frozen? ⟨w.heap.size + 1 + 1, j, none⟩ = false := fun j => heap_frozen (below_objR HBR.out HK24.out)
      have c90 : wr.cell? ⟨w.heap.size + 1 + 1, 0, none⟩ = some (.int .i64 0) := heap_cell (below_objR HBR.out HK24.out)
      have c91 : wr.cell? ⟨w.heap.size + 1 + 1, 1, none⟩ = some (.int .i64 0) := heap_cell (below_objR HBR.out HK24.out)
      clear hN2 hkD
      go_wp2
      obtain ⟨z0, z1⟩ : ((wr.setCell ⟨w.heap.size + 1 + 1, 0, none⟩ (.int .i64 0)).setCell ⟨w.heap.size + 1 + 1, 1, none⟩ (.int .i64 0)).cell? ⟨w.heap.size + 1 + 1, 0, none⟩ = some (.int .i64 0) ∧ ((wr.setCell ⟨w.heap.size + 1 + 1, 0, none⟩ (.int .i64 0)).setCell ⟨w.heap.size + 1 + 1, 1, none⟩ (.int .i64 0)).cell? ⟨w.heap.size + 1 + 1, 1, none⟩ = some (.int .i64 0) := by
        have h := spot_set (below_objR HBR.out HK24.out) 0 0
        exact ⟨heap_cell h, heap_cell h⟩
      have hq := HB4.out.trans (HBR.out.mono HB4.out.size)
      have hown : OwnL wr w4.heap.size (.slice Ab N Cb) pre := by rw [HNN.out]; exact HO.out
      have hk4 : w.heap.size + 2 < w4.heap.size := heap_lt HK24.out
      refine bodyPost_ret (v := .tuple #[.slice Ab N Cb, .agg #[.int .i64 0, .int .i64 0], .int .i64 0]) (by simp [results, Tryz.results24, go_sem, z0, z1]) rfl (PartR.yes (by rw [← HPE.out]; exact HFIND.out) ?_ (hq.trans ((spot_kp wr (w.heap.size + 1 + 1) _ _).below hq.size fun j hj => by omega)))
      rw [← HPE.out, HGOT.out]
      exact ownL_low (hown.kp (spot_kp wr (w.heap.size + 1 + 1) _ _) fun j e hj => by have := hown.lo j e; omega) (by omega)
end Go.Proofs.YtndofmoepjfnfaaGreat
namespace Go.Proofs.YtndofmoepjfnfaaGreat
open Go.RowKit
open Pt (Tx)

/-- a part's ten cells -/
def cells10 (h : Rc.H) (lab at_ : Int) : List Value := [.string (tx h.path), .int .i64 h.version, .int .i64 h.size, .int .i64 h.from_, .int .i64 h.len, .int .i64 h.serial, .int .i64 h.sum, .bool h.gone, .int .i64 lab, .int .i64 at_]
def encP (lab : Int) : Enc (Rc.H × Nat) where
  k := 10
  pos := by decide
  enc q := cells10 q.1 lab q.2
  len _ := rfl
  one q u hu := by
    simp only [cells10, List.mem_cons, List.not_mem_nil, or_false] at hu
    rcases hu with rfl | rfl | rfl | rfl | rfl | rfl | rfl | rfl | rfl | rfl <;> rfl
theorem infoPart : (Tryz.prog.info? 74).map (fun i => (i.zero, i.size, i.bytes)) = some (some (.agg #[.string ⟨#[]⟩, .int .i64 0, .int .i64 0, .int .i64 0, .int .i64 0, .int .i64 0, .int .i64 0, .bool false, .int .i64 0, .int .i64 0]), 10, 88) := by kernel_rfl
end Go.Proofs.YtndofmoepjfnfaaGreat
