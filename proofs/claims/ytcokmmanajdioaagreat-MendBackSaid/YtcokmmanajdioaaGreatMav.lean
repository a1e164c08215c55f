/- What first of package mend answers: the first tape of a label; none: as one that is lost. What queryOf of package mend answers: the members of a group, and what is asked of them. -/
import Derived.Test.YtcokmmanajdioaaGreatMau
import Derived.Test.YtcokmmanajdioaaGreatMas
import Derived.Test.YtcokmmanajdioaaGreatMag
namespace Go.Proofs.YtcokmmanajdioaaGreat
open Go.RowKit
open Pt (Tx)

namespace Me
theorem first_none {ts : List St.T} {lab : Int} (h : ∀ t ∈ ts, decide (t.label = lab) = false) : first ts lab = ⟨lab, 0, [], true⟩ ∧ ts.any (fun t => decide (t.label = lab)) = false := by
  refine ⟨?_, List.any_eq_false.2 fun t ht => by rw [h t ht]; simp⟩
  unfold first
  rw [List.find?_eq_none.2 (fun t ht => by rw [h t ht]; simp)]; rfl
theorem first_at {ts : List St.T} {lab : Int} {k : Nat} (hk : k < ts.length) (h : decide (ts[k].label = lab) = true) (hn : ∀ j (hj : j < k), decide ((ts[j]'(Nat.lt_trans hj hk)).label = lab) = false) : first ts lab = ts[k] ∧ ts.any (fun t => decide (t.label = lab)) = true := by
  refine ⟨?_, List.any_eq_true.2 ⟨_, List.getElem_mem hk, h⟩⟩
  unfold first
  have e : (ts.take k ++ ts.drop k).find? (fun t => decide (t.label = lab)) = some ts[k] := by
    rw [List.find?_append, List.find?_eq_none.2 (fun t ht => ?_), List.drop_eq_getElem_cons hk]
    · rw [Option.none_or, List.find?_cons]; simp only [h]
    · obtain ⟨j, hj, rfl⟩ := List.mem_iff_getElem.1 ht
      rw [List.length_take] at hj
      rw [List.getElem_take, hn j (by omega)]; simp
  rw [List.take_append_drop] at e
  rw [e]; rfl
end Me
/-- the tape, and whether it is there -/
def FirstA (G : Nat → Prop) (ts : List St.T) (lab : Int) (w : World) (e : Ending) (w' : World) : Prop :=
  ∃ A C, e = .returned (.tuple #[.agg #[.int .i64 (Me.first ts lab).label, .int .i64 (Me.first ts lab).cap, .slice A (Me.first ts lab).blocks.length C, .bool (Me.first ts lab).lost], .bool (ts.any fun t => decide (t.label = lab))]) ∧ RdB w' A (Me.first ts lab).blocks (fun b => G b ∧ b < w.heap.size) ∧ Below w.heap.size w w'
theorem four_kp (w : World) (g : Nat) (a b c d : Value) : Kp (· = g) w ((((w.setCell ⟨g, 0, none⟩ a).setCell ⟨g, 1, none⟩ b).setCell ⟨g, 2, none⟩ c).setCell ⟨g, 3, none⟩ d) :=
  (((Kp.store _ _ _ _).trans (Kp.store _ _ _ _)).trans (Kp.store _ _ _ _)).trans (Kp.store _ _ _ _)
theorem four_set {w : World} {g : Nat} {l0 c0 : Int} {A0 : Option Addr} {n0 C0 : Nat} {x0 : Bool} (h : w.heap[g]? = some (tapeObj l0 c0 A0 n0 C0 x0)) (lab cap : Int) (A : Option Addr) (n C : Nat) (lost : Bool) :
    ((((w.setCell ⟨g, 0, none⟩ (.int .i64 lab)).setCell ⟨g, 1, none⟩ (.int .i64 cap)).setCell ⟨g, 2, none⟩ (.slice A n C)).setCell ⟨g, 3, none⟩ (.bool lost)).heap[g]? = some (tapeObj lab cap A n C lost) :=
  heap_set (heap_set (heap_set (heap_set h (.int .i64 lab)) (.int .i64 cap)) (.slice A n C)) (.bool lost)
set_option maxRecDepth 100000 in
set_option maxHeartbeats 2000000 in
theorem first_any (A : Option Addr) (ts : List St.T) (n C : Nat) (G : Nat → Prop) (lab : Int) (w : World) (hnl : n = ts.length) (hn : n ≤ 1000000) (hr : RdT w A ts G) :
    Calls Tryz.prog 16 #[.slice A n C, .int .i64 lab] w (FirstA G ts lab w) := by
  obtain ⟨w1, hw1⟩ : ∃ w1, w1 = w.alloc (.cells #[.int .i64 lab] 3) := ⟨_, rfl⟩
  obtain ⟨w2, hw2⟩ : ∃ w2, w2 = w1.alloc (tapeObj 0 0 none 0 0 false) := ⟨_, rfl⟩
  have hs1 : w1.heap.size = w.heap.size + 1 := by rw [hw1]; simp
  have b1 : Below w.heap.size w w1 := by rw [hw1]; exact (Below.refl _ _).alloc (Nat.le_refl _) _
  have b2 : Below w1.heap.size w1 w2 := by rw [hw2]; exact (Below.refl _ _).alloc (Nat.le_refl _) _
  have b12 : Below w.heap.size w w2 := b1.trans (b2.mono b1.size)
  have k1 : w1.heap[w.heap.size]? = some (.cells #[.int .i64 lab] 3 (0, 0)) := by rw [hw1]; exact Go.Deep.blk_alloc_new _ _
  have g2 : w2.cell? ⟨w.heap.size, 0, none⟩ = some (.int .i64 lab) := heap_cell (below_obj b2 k1)
  have t2 : w2.heap[w1.heap.size]? = some (tapeObj 0 0 none 0 0 false) := by rw [hw2]; exact Go.Deep.blk_alloc_new _ _
  have hidx := label_index w.heap.size lab A ts n C _ w2 hnl hn (hr.old b12) g2
  have HI := Lib.hid hidx
  have HR := Lib.hid hr
  have HB := Lib.hid b12
  have HW : Hid (w2 = (w.alloc (.cells #[.int .i64 lab] 3)).alloc (.cells #[.int .i64 0, .int .i64 0, .slice none 0 0, .bool false] 31)) := Lib.hid (by rw [hw2, hw1]; rfl)
  have HT := Lib.hid t2
  have HG := Lib.hid g2
  have HS := Lib.hid hs1
  have HNL := Lib.hid hnl
  rw [hs1] at HT
  have HSZ : Hid (w.heap.size + 1 < w2.heap.size) := Lib.hid (heap_lt HT.out)
  clear hw1 hw2 hs1 b1 b2 b12 k1 g2 t2 hidx hr hnl
  go_enter Tryz.func16, Tryz.ntmps16
  go_wp2_with fail
  rw [← HW.out]
  refine HI.out.mono ?_
  rintro e w3 ⟨x, rfl, hx, hb3⟩
  have hT3 := below_obj hb3 HT.out
  have HB3 := Lib.hid (HB.out.trans (hb3.mono HB.out.size))
  have g3 : w3.cell? ⟨w.heap.size, 0, none⟩ = some (.int .i64 lab) := (hb3.cell (World.block_lt_of_cell? _ _ HG.out)).trans HG.out
  obtain ⟨y0, y1, y2, y3⟩ := tape4 hT3
  have f3 : ∀ j, w3.frozen? ⟨w.heap.size + 1, j, none⟩ = false := fun j => heap_frozen hT3
  have HT3 := Lib.hid hT3
  rcases hx with ⟨hx, hno⟩ | ⟨k, hk, hx, hp, hno⟩
  · subst hx
    obtain ⟨hf, ha⟩ := Me.first_none hno
    have HF := Lib.hid (And.intro hf ha)
    clear hno hf ha hb3 hT3
    go_wp2
    obtain ⟨z0, z1, z2, z3⟩ := tape4 (four_set HT3.out lab 0 none 0 0 true)
    refine bodyPost_ret (v := .tuple #[.agg #[.int .i64 lab, .int .i64 0, .slice none 0 0, .bool true], .bool false]) (by simp [results, Tryz.results16, go_sem, z0, z1, z2, z3]) rfl ?_
    unfold FirstA
    rw [HF.out.1, HF.out.2]
    exact ⟨none, 0, rfl, RdB.empty _ _ _, HB3.out.trans ((four_kp w3 (w.heap.size + 1) _ _ _ _).below HB3.out.size fun k hk => by omega)⟩
  · subst hx
    obtain ⟨hf, ha⟩ := Me.first_at hk hp hno
    have HF := Lib.hid (And.intro hf ha)
    obtain ⟨b, off, A', C', rfl, -, c0, c1, c2, c3, hb⟩ := (HR.out.in_.old HB3.out).at_ hk
    obtain ⟨⟨l2, cap, bs, lost⟩, ht⟩ : ∃ t, t = ts[k] := ⟨_, rfl⟩
    rw [← ht] at c0 c1 c2 c3 hb HF
    dsimp only at c0 c1 c2 c3 hb
    obtain ⟨m, hm⟩ : ∃ m, m = bs.length := ⟨_, rfl⟩
    rw [← hm] at c2
    have HM := Lib.hid hm
    have HBL := Lib.hid hb
    have i0 : (0 : Int) ≤ (k : Int) := by omega
    have i1 : (k : Int) < (n : Int) := by have := HNL.out; omega
    have i2 : decide ((k : Int) < 0) = false := decide_eq_false (by omega)
    clear hno hf ha hb3 hT3 hp ht hm hb
    go_wp2
    obtain ⟨z0, z1, z2, z3⟩ := tape4 (four_set HT3.out l2 cap A' m C' lost)
    refine bodyPost_ret (v := .tuple #[.agg #[.int .i64 l2, .int .i64 cap, .slice A' m C', .bool lost], .bool true]) (by simp [results, Tryz.results16, go_sem, z0, z1, z2, z3]) rfl ?_
    unfold FirstA
    rw [HF.out.1, HF.out.2]
    exact ⟨A', C', by rw [← HM.out], HBL.out.kp (four_kp w3 (w.heap.size + 1) _ _ _ _) (fun b hb e => by have := hb.2; omega), HB3.out.trans ((four_kp w3 (w.heap.size + 1) _ _ _ _).below HB3.out.size fun k hk => by omega)⟩
namespace Me
theorem rows_none {ts : List St.T} (h : ∀ t ∈ ts, (Gr.sealed t).isSome = false) : rows ts = none := by
  induction ts with
  | nil => rfl
  | cons t l ih =>
    rw [rows, if_neg (by rw [h t (List.mem_cons_self ..)]; simp)]
    exact ih fun u hu => h u (List.mem_cons_of_mem _ hu)
theorem rows_at : ∀ {ts : List St.T} {k : Nat} (hk : k < ts.length) (_ : (Gr.sealed ts[k]).isSome = true) (_ : ∀ j (hj : j < k), (Gr.sealed (ts[j]'(Nat.lt_trans hj hk))).isSome = false), rows ts = if ts[k].blocks.length < 2 then none else some (ts[k].blocks.length - 2)
  | [], k, hk, _, _ => absurd hk (by simp)
  | t :: l, 0, hk, h, _ => by
    have h' : (Gr.sealed t).isSome = true := h
    rw [rows, if_pos h']; rfl
  | t :: l, k + 1, hk, h, hn => by
    rw [rows, if_neg (by have h0 := hn 0 (by omega); rw [List.getElem_cons_zero] at h0; rw [h0]; simp)]
    have hk' : k < l.length := by simpa using hk
    exact rows_at hk' h fun j hj => hn (j + 1) (by omega)
end Me
/-- how many rows, and whether that is told -/
def RowsA (o : Option Nat) (w : World) (e : Ending) (w' : World) : Prop :=
  e = .returned (.tuple #[.int .i64 ((o.getD 0 : Nat) : Int), .bool o.isSome]) ∧ Below w.heap.size w w'
set_option maxRecDepth 100000 in
set_option maxHeartbeats 2000000 in
theorem rowsOf_any (A : Option Addr) (ts : List St.T) (n C : Nat) (G : Nat → Prop) (w : World) (hnl : n = ts.length) (hn : n ≤ 1000000) (hr : RdT w A ts G) (hl : ∀ t ∈ ts, t.blocks.length ≤ 1000000 ∧ ∀ s ∈ t.blocks, s.length ≤ 1000000) :
    Calls Tryz.prog 31 #[.slice A n C] w (RowsA (Me.rows ts) w) := by
  have HI := Lib.hid (sealed_index A ts n C G w hnl hn hr hl)
  have HR := Lib.hid hr
  have HL := Lib.hid hl
  have HNL := Lib.hid hnl
  clear hr hl hnl
  go_enter Tryz.func31, Tryz.ntmps31
  go_wp2_with fail
  refine HI.out.mono ?_
  rintro e w1 ⟨x, rfl, hx, hb1⟩
  have HB1 := Lib.hid hb1
  rcases hx with ⟨hx, hno⟩ | ⟨k, hk, hx, hp, hno⟩
  · subst hx
    have HF := Lib.hid (Me.rows_none hno)
    clear hno hb1
    go_wp2
    go_ret2
    unfold RowsA
    rw [HF.out]
    exact ⟨rfl, HB1.out⟩
  · subst hx
    have HF := Lib.hid (Me.rows_at hk hp hno)
    obtain ⟨b, off, A', C', rfl, -, -, -, c2, -, -⟩ := (HR.out.old hb1).at_ hk
    have hLm := (HL.out _ (List.getElem_mem hk)).1
    obtain ⟨L, hL⟩ : ∃ L, L = ts[k].blocks.length := ⟨_, rfl⟩
    rw [← hL] at c2 HF hLm
    have i0 : (0 : Int) ≤ (k : Int) := by omega
    have i1 : (k : Int) < (n : Int) := by have := HNL.out; omega
    have i2 : decide ((k : Int) < 0) = false := decide_eq_false (by omega)
    clear hno hb1 hp hL
    by_cases h2 : L < 2
    · have e1 : decide ((L : Int) < 2) = true := decide_eq_true (by omega)
      have e1' : decide (L < 2) = true := decide_eq_true h2
      have HF2 : Hid (Me.rows ts = none) := Lib.hid (by rw [HF.out, if_pos h2])
      clear h2
      go_wp2
      go_ret2
      unfold RowsA
      rw [HF2.out]
      exact ⟨rfl, HB1.out⟩
    · have e1 : decide ((L : Int) < 2) = false := decide_eq_false (by omega)
      have e1' : decide (L < 2) = false := decide_eq_false h2
      have HF2 : Hid (Me.rows ts = some (L - 2)) := Lib.hid (by rw [HF.out, if_neg h2])
      have s1 : IntKind.i64.wrap ((L : Int) - 2) = ((L - 2 : Nat) : Int) := by rw [show (L : Int) - 2 = ((L - 2 : Nat) : Int) by omega]; exact IntWalk.i64_in _ (by omega)
      clear h2
      go_wp2
      go_ret2
      unfold RowsA
      rw [HF2.out]
      exact ⟨rfl, HB1.out⟩
end Go.Proofs.YtcokmmanajdioaaGreat
namespace Go.Proofs.YtcokmmanajdioaaGreat
open Go.RowKit
open Pt (Tx)

/-- tapes are laid one by one in a made row; what they point to is older -/
structure MadeT (B gm n : Nat) (ts : List St.T) (wr : World) : Prop where
  row : ∃ cur : Array Value, wr.heap[gm]? = some (.cells cur 31 (0, 0)) ∧ n * 4 ≤ cur.size ∧ ∀ i (hi : i < ts.length), ∃ A' C', cur[i * 4]? = some (.int .i64 ts[i].label) ∧ cur[i * 4 + 1]? = some (.int .i64 ts[i].cap) ∧ cur[i * 4 + 2]? = some (.slice A' ts[i].blocks.length C') ∧ cur[i * 4 + 3]? = some (.bool ts[i].lost) ∧ RdB wr A' ts[i].blocks (· < B)
  lt : B ≤ gm
namespace MadeT
variable {wr w2 : World} {B gm n : Nat} {ts : List St.T}
theorem start {w1 : World} {cs : Array Value} (hB : B ≤ w1.heap.size) (hc : n * 4 ≤ cs.size) : MadeT B w1.heap.size n [] (w1.alloc (.cells cs 31)) :=
  ⟨⟨cs, Go.Deep.blk_alloc_new _ _, hc, fun i hi => absurd hi (by simp)⟩, hB⟩
theorem old (h : MadeT B gm n ts wr) (hb : Below wr.heap.size wr w2) : MadeT B gm n ts w2 := by
  obtain ⟨cur, hg, hs, hr⟩ := h.row
  refine ⟨⟨cur, (hb.block gm (heap_lt hg)).trans hg, hs, fun i hi => ?_⟩, h.lt⟩
  obtain ⟨A', C', h0, h1, h2, h3, h4⟩ := hr i hi
  exact ⟨A', C', h0, h1, h2, h3, h4.old hb⟩
theorem four (h : MadeT B gm n ts wr) {k : Nat} (hk : k < n) : (∃ v0, wr.cell? ⟨gm, k * 4, none⟩ = some v0) ∧ (∃ v1, wr.cell? ⟨gm, k * 4 + 1, none⟩ = some v1) ∧ (∃ v2, wr.cell? ⟨gm, k * 4 + 2, none⟩ = some v2) ∧ (∃ v3, wr.cell? ⟨gm, k * 4 + 3, none⟩ = some v3) ∧ ∀ j, wr.frozen? ⟨gm, j, none⟩ = false := by
  obtain ⟨cur, hg, hs, _⟩ := h.row
  have hlt : k * 4 + 4 ≤ cur.size := by
    have : (k + 1) * 4 ≤ n * 4 := Nat.mul_le_mul_right _ hk
    omega
  exact ⟨⟨_, (heap_cell hg).trans (Array.getElem?_eq_getElem (by omega))⟩, ⟨_, (heap_cell hg).trans (Array.getElem?_eq_getElem (by omega))⟩, ⟨_, (heap_cell hg).trans (Array.getElem?_eq_getElem (by omega))⟩, ⟨_, (heap_cell hg).trans (Array.getElem?_eq_getElem (by omega))⟩, fun j => heap_frozen hg⟩
theorem set (h : MadeT B gm n ts wr) {k : Nat} (hk : k = ts.length) (hkn : k < n) {t : St.T} {A : Option Addr} {C : Nat} (hr : RdB wr A t.blocks (· < B)) :
    MadeT B gm n (ts ++ [t]) ((((wr.setCell ⟨gm, k * 4, none⟩ (.int .i64 t.label)).setCell ⟨gm, k * 4 + 1, none⟩ (.int .i64 t.cap)).setCell ⟨gm, k * 4 + 2, none⟩ (.slice A t.blocks.length C)).setCell ⟨gm, k * 4 + 3, none⟩ (.bool t.lost)) := by
  obtain ⟨cur, hg, hs, hrows⟩ := h.row
  have hkp : Kp (· = gm) wr ((((wr.setCell ⟨gm, k * 4, none⟩ (.int .i64 t.label)).setCell ⟨gm, k * 4 + 1, none⟩ (.int .i64 t.cap)).setCell ⟨gm, k * 4 + 2, none⟩ (.slice A t.blocks.length C)).setCell ⟨gm, k * 4 + 3, none⟩ (.bool t.lost)) :=
    (((Kp.store _ _ _ _).trans (Kp.store _ _ _ _)).trans (Kp.store _ _ _ _)).trans (Kp.store _ _ _ _)
  have hne : ∀ b, b < B → ¬ b = gm := fun b hb e => by have := h.lt; omega
  have hlt : k * 4 + 4 ≤ cur.size := by
    have : (k + 1) * 4 ≤ n * 4 := Nat.mul_le_mul_right _ hkn
    omega
  refine ⟨⟨_, heap_set (heap_set (heap_set (heap_set hg _) _) _) _, by simpa using hs, fun i hi => ?_⟩, h.lt⟩
  rw [List.length_append, List.length_singleton] at hi
  simp only [Array.getElem?_setIfInBounds, Array.size_setIfInBounds]
  by_cases e : i = k
  · have e' : (ts ++ [t])[i]'(by rw [List.length_append, List.length_singleton]; exact hi) = t := by simp [e, hk]
    rw [e']
    refine ⟨A, C, ?_, ?_, ?_, ?_, hr.kp hkp hne⟩
    · rw [e]; simp (disch := omega); omega
    · rw [e]; simp (disch := omega); omega
    · rw [e]; simp (disch := omega); omega
    · rw [e]; simp (disch := omega); omega
  · have hi' : i < ts.length := by omega
    obtain ⟨A', C', h0, h1, h2, h3, h4⟩ := hrows i hi'
    rw [List.getElem_append_left hi']
    refine ⟨A', C', ?_, ?_, ?_, ?_, h4.kp hkp hne⟩
    · rw [if_neg (by omega), if_neg (by omega), if_neg (by omega), if_neg (by omega)]; exact h0
    · rw [if_neg (by omega), if_neg (by omega), if_neg (by omega), if_neg (by omega)]; exact h1
    · rw [if_neg (by omega), if_neg (by omega), if_neg (by omega), if_neg (by omega)]; exact h2
    · rw [if_neg (by omega), if_neg (by omega), if_neg (by omega), if_neg (by omega)]; exact h3
theorem rdT (h : MadeT B gm n ts wr) (d : Nat) : RdT wr (some ⟨gm, d * 4, none⟩) (ts.drop d) (fun b => b < B ∨ b = gm) := fun _ => by
  obtain ⟨cur, hb, hs, hr⟩ := h.row
  refine ⟨gm, d * 4, rfl, .inr rfl, fun i hi => ?_⟩
  rw [List.length_drop] at hi
  obtain ⟨A', C', h0, h1, h2, h3, h4⟩ := hr (d + i) (by omega)
  rw [List.getElem_drop]
  have e : (d + i) * 4 = d * 4 + i * 4 := Nat.add_mul _ _ _
  rw [e] at h0 h1 h2 h3
  refine ⟨A', C', ?_, ?_, ?_, ?_, h4.mono fun _ hb => .inl hb⟩
  · rw [heap_cell hb]; exact h0
  · rw [heap_cell hb]; exact h1
  · rw [heap_cell hb]; exact h2
  · rw [heap_cell hb]; exact h3
theorem below (h : MadeT B gm n ts wr) (k : Nat) (a b c d : Value) {w0 : World} (h0 : Below B w0 wr) : Below B w0 ((((wr.setCell ⟨gm, k * 4, none⟩ a).setCell ⟨gm, k * 4 + 1, none⟩ b).setCell ⟨gm, k * 4 + 2, none⟩ c).setCell ⟨gm, k * 4 + 3, none⟩ d) :=
  h0.trans ((((((Kp.store _ _ _ _).trans (Kp.store _ _ _ _)).trans (Kp.store _ _ _ _)).trans (Kp.store _ _ _ _)) : Kp (· = gm) wr _).below (by obtain ⟨cur, hg, _⟩ := h.row; have := heap_lt hg; have := h.lt; omega) fun k hk => by have := h.lt; omega)
end MadeT
/-- where a number is among others -/
def PlaceA (l : List Int) (x : Int) (w : World) (e : Ending) (w' : World) : Prop :=
  ∃ z : Int, e = .returned (.int .i64 z) ∧ ((z = -1 ∧ x ∉ l) ∨ ∃ k, ∃ hk : k < l.length, z = (k : Int) ∧ l[k] = x) ∧ w = w'
theorem place_any (A : Option Addr) (l : List Int) (n C : Nat) (x : Int) (G : Nat → Prop) (w : World) (hn : n = l.length) (hl : n ≤ maxLen) (hr : RdZ w A l G) :
    Calls Tryz.prog 30 #[.slice A n C, .int .i64 x] w (PlaceA l x w) := by
  unfold maxLen at hl
  have HR := Lib.hid hr
  have HN := Lib.hid hn
  clear hr hn
  go_enter Tryz.func30, Tryz.ntmps30
  go_wp2
  go_loop [5, 8] (fun vs vi => ∃ k : Nat, k ≤ n ∧ vi = .int .i64 (k : Int) ∧ Hid (x ∉ l.take k)) (fun vs vi => n - (intOf vi).toNat)
  case atStart => exact ⟨0, Nat.zero_le _, rfl, Lib.hid (by simp)⟩
  case round =>
    obtain ⟨k, hk, rfl, HM⟩ := hrel
    by_cases hlt : k < n
    · have hlt' : k < l.length := by rw [← HN.out]; exact hlt
      obtain ⟨b, off, rfl, -, hc⟩ := HR.out.at_ hlt'
      have HS := Lib.hid (mem_take_step hlt' x)
      obtain ⟨y, hy⟩ : ∃ y, y = l[k] := ⟨_, rfl⟩
      rw [← hy] at hc HS
      have HY := Lib.hid hy
      clear hy
      by_cases e : x = y
      · have q : (x == y) = true := beq_iff_eq.2 e
        have HX : Hid (∃ k', ∃ hk : k' < l.length, (k : Int) = (k' : Int) ∧ l[k'] = x) := Lib.hid ⟨k, hlt', rfl, by rw [e, HY.out]⟩
        clear e
        go_wp2
        go_ret
        exact ⟨(k : Int), rfl, .inr HX.out, rfl⟩
      · have q : (x == y) = false := beq_eq_false_iff_ne.2 e
        have HX : Hid (x ∉ l.take (k + 1)) := Lib.hid fun h => (HS.out.1 h).elim HM.out e
        clear e
        go_wp2
        go_round
        case rel => exact ⟨k + 1, by omega, by go_num, HX⟩
        case measure => simp [intOf]; omega
    · have HX : Hid (x ∉ l) := Lib.hid (by have := HM.out; rwa [List.take_of_length_le (by rw [← HN.out]; omega)] at this)
      go_wp2
      go_ret
      exact ⟨-1, rfl, .inl ⟨rfl, HX.out⟩, rfl⟩
namespace Me
def members (ts : List St.T) (labs : List Int) : List St.T := labs.map (first ts)
theorem members_len (ts : List St.T) (labs : List Int) : (members ts labs).length = labs.length := List.length_map ..
theorem members_take {ts : List St.T} {labs : List Int} {i : Nat} (h : i < labs.length) : (members ts labs).take (i + 1) = (members ts labs).take i ++ [first ts labs[i]] := by
  rw [List.take_succ_eq_append_getElem (by rw [members_len]; exact h)]
  simp [members]
theorem first_sizes {ts : List St.T} {m : Nat} (hl : ∀ t ∈ ts, t.blocks.length ≤ m ∧ ∀ s ∈ t.blocks, s.length ≤ m) (lab : Int) : (first ts lab).blocks.length ≤ m ∧ ∀ s ∈ (first ts lab).blocks, s.length ≤ m := by
  unfold first
  cases h : ts.find? (fun t => decide (t.label = lab)) with
  | none => exact ⟨Nat.zero_le _, fun s hs => by cases hs⟩
  | some t => exact hl t (List.mem_of_find?_eq_some h)
theorem members_sizes {ts : List St.T} {labs : List Int} {m : Nat} (hl : ∀ t ∈ ts, t.blocks.length ≤ m ∧ ∀ s ∈ t.blocks, s.length ≤ m) : ∀ t ∈ members ts labs, t.blocks.length ≤ m ∧ ∀ s ∈ t.blocks, s.length ≤ m := fun t ht => by
  obtain ⟨x, _, rfl⟩ := List.mem_map.1 ht
  exact first_sizes hl x
end Me
/-- what is asked, or why nothing is told -/
def QueryA (ts : List St.T) (labs : List Int) (d : Nat) (lab : Int) (w : World) (e : Ending) (w' : World) : Prop :=
  Below w.heap.size w w' ∧
  ((lab ∉ labs.take d ∧ e = .returned (.tuple #[.agg #[.slice none 0 0, .int .i64 0, .int .i64 0, .int .i64 0], .int .i64 1])) ∨
   (lab ∈ labs.take d ∧ Me.rows ((Me.members ts labs).drop d) = none ∧ e = .returned (.tuple #[.agg #[.slice none 0 0, .int .i64 0, .int .i64 0, .int .i64 0], .int .i64 10])) ∨
   ∃ R k gm, Me.rows ((Me.members ts labs).drop d) = some R ∧ k < d ∧ labs[k]? = some lab ∧ e = .returned (.tuple #[.agg #[.slice (some ⟨gm, 0, none⟩) labs.length labs.length, .int .i64 (d : Int), .int .i64 (R : Int), .int .i64 (k : Int)], .int .i64 0]) ∧ RdT w' (some ⟨gm, 0, none⟩) (Me.members ts labs) (fun _ => True))
/-- a query in its block -/
def queryObj (v a b c : Value) : Obj := .cells #[v, a, b, c] 52
theorem query4 {w : World} {g : Nat} {v a b c : Value} (h : w.heap[g]? = some (queryObj v a b c)) : w.cell? ⟨g, 0, none⟩ = some v ∧ w.cell? ⟨g, 1, none⟩ = some a ∧ w.cell? ⟨g, 2, none⟩ = some b ∧ w.cell? ⟨g, 3, none⟩ = some c := ⟨heap_cell h, heap_cell h, heap_cell h, heap_cell h⟩
theorem query_set {w : World} {g : Nat} {v a b c : Value} (h : w.heap[g]? = some (queryObj v a b c)) (v' a' b' c' : Value) :
    ((((w.setCell ⟨g, 0, none⟩ v').setCell ⟨g, 1, none⟩ a').setCell ⟨g, 2, none⟩ b').setCell ⟨g, 3, none⟩ c').heap[g]? = some (queryObj v' a' b' c') :=
  heap_set (heap_set (heap_set (heap_set h v') a') b') c'
set_option maxRecDepth 100000 in
set_option maxHeartbeats 4000000 in
theorem queryOf_any (A : Option Addr) (ts : List St.T) (n C : Nat) (num idx : Int) (d p : Nat) (labs : List Int) (sA : Option Addr) (m sC : Nat) (lab : Int) (G G2 : Nat → Prop) (w : World) (hnl : n = ts.length) (hn : n ≤ 1000000) (hr : RdT w A ts G) (hl : ∀ t ∈ ts, t.blocks.length ≤ 1000000 ∧ ∀ s ∈ t.blocks, s.length ≤ 1000000)
    (hok : Rc.SOk ⟨num, idx, (d : Int), (p : Int), labs⟩) (hm : m = labs.length) (hC : m ≤ sC) (hCm : sC ≤ maxLen) (hz : RdZ w sA labs G2) :
    Calls Tryz.prog 14 #[.slice A n C, .agg #[.int .i64 num, .int .i64 idx, .int .i64 (d : Int), .int .i64 (p : Int), .slice sA m sC], .int .i64 lab] w (QueryA ts labs d lab w) := by
  have hlen0 : 0 < labs.length := by
    have h5 : (labs.length : Int) = (d : Int) + (p : Int) := hok.1.2.2.2.2.1
    have h2 : (1 : Int) ≤ (d : Int) := hok.1.2.1
    omega
  obtain ⟨lb, lof, rfl, -, -⟩ := hz.at_ (j := 0) hlen0
  obtain ⟨w1, hw1⟩ : ∃ w1, w1 = w.alloc (sealObj num idx (d : Int) (p : Int) (some ⟨lb, lof, none⟩) m sC) := ⟨_, rfl⟩
  obtain ⟨w2, hw2⟩ : ∃ w2, w2 = w1.alloc (queryObj (.slice none 0 0) (.int .i64 0) (.int .i64 0) (.int .i64 0)) := ⟨_, rfl⟩
  have hs1 : w1.heap.size = w.heap.size + 1 := by rw [hw1]; simp
  have b1 : Below w.heap.size w w1 := by rw [hw1]; exact (Below.refl _ _).alloc (Nat.le_refl _) _
  have b2 : Below w1.heap.size w1 w2 := by rw [hw2]; exact (Below.refl _ _).alloc (Nat.le_refl _) _
  have b12 : Below w.heap.size w w2 := b1.trans (b2.mono b1.size)
  have k1 : w2.heap[w.heap.size]? = some (sealObj num idx (d : Int) (p : Int) (some ⟨lb, lof, none⟩) m sC) := below_obj b2 (by rw [hw1]; exact Go.Deep.blk_alloc_new _ _)
  have k2 : w2.heap[w.heap.size + 1]? = some (queryObj (.slice none 0 0) (.int .i64 0) (.int .i64 0) (.int .i64 0)) := by rw [hw2, ← hs1]; exact Go.Deep.blk_alloc_new _ _
  obtain ⟨⟨hq1, hq2, hq3, hq4, hq5, hq6, hq7⟩, hlabs⟩ := hok
  have hmd : m = d + p := by
    have h5 : (labs.length : Int) = (d : Int) + (p : Int) := hq5
    omega
  have hd1 : 1 ≤ d := by have h2 : (1 : Int) ≤ (d : Int) := hq2; omega
  have hp1 : 1 ≤ p := by have h2 : (1 : Int) ≤ (p : Int) := hq3; omega
  have hdp : d + p ≤ 14 := by have h2 : (d : Int) + (p : Int) ≤ 14 := hq4; omega
  have hm14 : m ≤ 14 := by omega
  have hdm : d < m := by omega
  have HMD := Lib.hid hmd
  clear hmd hdp
  have hseal := rightSeal_any num idx (d : Int) (p : Int) (some ⟨lb, lof, none⟩) labs m sC G2 w2 hm hC hCm (hz.old b12)
  rw [decide_eq_true (show Rc.SOk ⟨num, idx, (d : Int), (p : Int), labs⟩ from ⟨⟨hq1, hq2, hq3, hq4, hq5, hq6, hq7⟩, hlabs⟩)] at hseal
  have HS := Lib.hid hseal
  have HR := Lib.hid hr
  have HL := Lib.hid hl
  have HNL := Lib.hid hnl
  have HM := Lib.hid hm
  have HC := Lib.hid (And.intro hC hCm)
  have HZ := Lib.hid hz
  have HB2 := Lib.hid b12
  have HK1 := Lib.hid k1
  have HK2 := Lib.hid k2
  have HW : Hid (w2 = (w.alloc (.cells #[.int .i64 num, .int .i64 idx, .int .i64 (d : Int), .int .i64 (p : Int), .slice (some ⟨lb, lof, none⟩) m sC] 26)).alloc (.cells #[.slice none 0 0, .int .i64 0, .int .i64 0, .int .i64 0] 52)) := Lib.hid (by rw [hw2, hw1]; rfl)
  clear hnl hr hl hm hC hCm hz hseal hq1 hq2 hq3 hq4 hq5 hq6 hq7 hlabs
  obtain ⟨x0, x1, x2, x3, x4⟩ := seal5 HK1.out
  rw [HW.out] at x0 x1 x2 x3 x4
  clear hw1 hw2 hs1 b1 b2 b12 k1 k2
  go_enter Tryz.func14, Tryz.ntmps14
  go_wp2_with fail
  rw [← HW.out]
  refine HS.out.mono ?_
  rintro e w3 ⟨rfl, hb3⟩
  have HB3 := Lib.hid (HB2.out.trans (hb3.mono HB2.out.size))
  have HK31 := Lib.hid (below_obj hb3 HK1.out)
  have HK32 := Lib.hid (below_obj hb3 HK2.out)
  clear x0 x1 x2 x3 x4 hb3
  obtain ⟨x0, x1, x2, x3, x4⟩ := seal5 HK31.out
  have hzt : RdZ w3 (some ⟨lb, lof, none⟩) (labs.take d) (fun b => G2 b ∧ b < w.heap.size) := by
    have h := (HZ.out.in_).old HB3.out
    exact h.take d
  have HP := Lib.hid (place_any (some ⟨lb, lof, none⟩) (labs.take d) d sC lab _ w3 (by rw [List.length_take, ← HM.out]; omega) (by unfold maxLen; omega) hzt)
  have i0 : (0 : Int) ≤ (d : Int) := by omega
  have i1 : (d : Int) ≤ (sC : Int) := by have := HC.out.1; omega
  have i2 : d ≤ sC := by have := HC.out.1; omega
  clear hzt
  go_wp2_with fail
  refine HP.out.mono ?_
  rintro e w3' ⟨z, rfl, hzz, hw⟩
  subst hw
  rcases hzz with ⟨hz1, hno⟩ | ⟨k, hk, hz1, hkl⟩
  · subst hz1
    have HNO := Lib.hid hno
    obtain ⟨y0, y1, y2, y3⟩ := query4 HK32.out
    have f3 : ∀ j, w3.frozen? ⟨w.heap.size + 1, j, none⟩ = false := fun j => heap_frozen HK32.out
    clear hno x0 x1 x2 x3 x4
    go_wp2
    obtain ⟨z0, z1, z2, z3⟩ := query4 (query_set HK32.out (.slice none 0 0) (.int .i64 0) (.int .i64 0) (.int .i64 0))
    exact bodyPost_ret (v := .tuple #[.agg #[.slice none 0 0, .int .i64 0, .int .i64 0, .int .i64 0], .int .i64 1]) (by simp [results, Tryz.results14, go_sem, z0, z1, z2, z3]) rfl ⟨HB3.out.trans ((four_kp w3 (w.heap.size + 1) _ _ _ _).below HB3.out.size fun k hk => by omega), .inl ⟨HNO.out, rfl⟩⟩
  · subst hz1
    rw [List.length_take] at hk
    have hkd : k < d := by omega
    have HKL : Hid (labs[k]? = some lab) := Lib.hid (by
      rw [List.getElem_take] at hkl
      rw [List.getElem?_eq_getElem (by omega), hkl])
    have HIN : Hid (lab ∈ labs.take d) := Lib.hid (by rw [← hkl]; exact List.getElem_mem _)
    have j0 : decide ((k : Int) < 0) = false := decide_eq_false (by omega)
    clear hk hkl
    obtain ⟨cs, hcs⟩ : ∃ cs : Array Value, cs = madeCells (Value.agg #[.int .i64 0, .int .i64 0, .slice none 0 0, .bool false]).cells (m * 4) := ⟨_, rfl⟩
    have hcsz : cs.size = m * 4 := by rw [hcs, size_madeCells]
    have hmk : ∀ y : World, (Instr.makeSlice 24 (.int .i64 (m : Int)) (.int .i64 (m : Int))).run Tryz.prog y = .ok (.slice (some ⟨y.heap.size, 0, none⟩) m m) (y.alloc (.cells cs 31)) := fun y => by
      obtain ⟨i0, hi, hz0, hz1, hz2⟩ := info_parts infoTape
      have h := run_make (P := Tryz.prog) y 24 31 i0 _ Tryz.underlying24 hi hz0 .i64 .i64 (m : Int) (m : Int) (by omega) (Int.le_refl _) (by rw [hz2]; omega) (by omega)
      rw [hz1, Int.toNat_natCast] at h
      rw [hcs]; exact h
    obtain ⟨w4, hw4⟩ : ∃ x, x = w3.alloc (.cells cs 31) := ⟨_, rfl⟩
    have hb4 : Below w3.heap.size w3 w4 := by rw [hw4]; exact (Below.refl _ _).alloc (Nat.le_refl _) _
    have HM0 : Hid (MadeT w.heap.size w3.heap.size m ((Me.members ts labs).take 0) w4) := Lib.hid (by rw [hw4]; exact MadeT.start HB3.out.size (by rw [hcsz]; exact Nat.le_refl _))
    have HB4 := Lib.hid hb4
    have HW4 := Lib.hid hw4
    have HK41 := Lib.hid (below_obj hb4 HK31.out)
    have HK42 := Lib.hid (below_obj hb4 HK32.out)
    obtain ⟨-, -, v2, -, v4⟩ := seal5 HK41.out
    rw [HW4.out] at v2 v4
    have HLT : Hid (w.heap.size + 1 < w3.heap.size) := Lib.hid (heap_lt HK32.out)
    clear hcs hcsz hb4 hw4
    go_wp2
    rw [← HW4.out]
    clear hmk v2 v4 x0 x1 x2 x3 x4
    obtain ⟨gm, hgm⟩ : ∃ gm, gm = w3.heap.size := ⟨_, rfl⟩
    rw [← hgm] at HM0 HLT HB4 ⊢
    have HGM := Lib.hid hgm
    clear hgm
    go_loopw [35] (fun vi wr => ∃ i : Nat, i ≤ m ∧ vi = .int .i64 (i : Int) ∧ Hid (MadeT w.heap.size gm m ((Me.members ts labs).take i) wr) ∧ Hid (Below gm w3 wr)) (fun vi _ => m - (intOf vi).toNat)
    case atStart => exact ⟨0, Nat.zero_le _, rfl, HM0, HB4⟩
    case round =>
      obtain ⟨i, hi, rfl, HI, HBI⟩ := hrel
      have HBW : Hid (Below w.heap.size w wr) := Lib.hid (HB3.out.trans (HBI.out.mono (by have := HLT.out; omega)))
      by_cases hlt : i < m
      · have e0 : decide (i < m) = true := decide_eq_true hlt
        have hlt' : i < labs.length := by rw [← HM.out]; exact hlt
        obtain ⟨b', o', hAA, -, hc⟩ := (HZ.out.old HBW.out).at_ hlt'
        injection hAA with hAA
        injection hAA with q1 q2
        subst q1 q2
        have HMT := Lib.hid (Me.members_take (ts := ts) hlt')
        obtain ⟨x, hx⟩ : ∃ x, x = labs[i] := ⟨_, rfl⟩
        rw [← hx] at hc HMT
        have hcall := first_any A ts n C _ x wr HNL.out hn ((HR.out.in_).old HBW.out)
        unfold FirstA at hcall
        obtain ⟨t, ht⟩ : ∃ t, t = Me.first ts x := ⟨_, rfl⟩
        rw [← ht] at hcall HMT
        have HC5 := Lib.hid hcall
        have j1 : (0 : Int) ≤ (i : Int) := by omega
        have j2 : (i : Int) < (m : Int) := by omega
        clear hx ht hcall
        go_wp2_with fail
        refine HC5.out.mono ?_
        rintro e w5 ⟨A5, C5, rfl, hb5, hbel5⟩
        have HI5 := HI.out.old hbel5
        have HRB5 := Lib.hid (hb5.mono fun b hb => hb.1.2)
        have HB5 := Lib.hid (HBI.out.trans (hbel5.mono (by obtain ⟨cur, hg, _⟩ := HI.out.row; exact Nat.le_of_lt (heap_lt hg))))
        obtain ⟨⟨u0, p0⟩, ⟨u1, p1⟩, ⟨u2, p2⟩, ⟨u3, p3⟩, pf⟩ := HI5.four hlt
        have hset := HI5.set (t := t) (A := A5) (C := C5) (show i = ((Me.members ts labs).take i).length by rw [List.length_take, Me.members_len]; omega) hlt HRB5.out
        rw [← HMT.out] at hset
        have hset2 : Below gm w3 ((((w5.setCell ⟨gm, i * 4, none⟩ (.int .i64 t.label)).setCell ⟨gm, i * 4 + 1, none⟩ (.int .i64 t.cap)).setCell ⟨gm, i * 4 + 2, none⟩ (.slice A5 t.blocks.length C5)).setCell ⟨gm, i * 4 + 3, none⟩ (.bool t.lost)) :=
          HB5.out.trans ((((((Kp.store _ _ _ _).trans (Kp.store _ _ _ _)).trans (Kp.store _ _ _ _)).trans (Kp.store _ _ _ _)) : Kp (· = gm) w5 _).below (by obtain ⟨cur, hg, _⟩ := HI5.row; exact Nat.le_of_lt (heap_lt hg)) fun k hk => by omega)
        have HSET := Lib.hid hset
        have HSET2 := Lib.hid hset2
        clear hset hset2 hb5 hbel5 HI5
        go_wp2
        go_roundw
        case rel => exact ⟨i + 1, by omega, by go_num, HSET, HSET2⟩
        case measure => simp [intOf]; omega
      · have e0 : decide (i < m) = false := decide_eq_false hlt
        have hI := HI.out
        rw [List.take_of_length_le (by rw [Me.members_len, ← HM.out]; omega)] at hI
        obtain ⟨-, -, v2, -, v4⟩ := seal5 ((HBI.out.block _ (by have := HLT.out; omega)).trans HK31.out)
        have HQB := Lib.hid ((HBI.out.block _ HLT.out).trans HK32.out)
        have hml : ((Me.members ts labs).drop d).length = m - d := by rw [List.length_drop, Me.members_len, ← HM.out]
        have hrt := hI.rdT d
        have HRO := Lib.hid (rowsOf_any (some ⟨gm, d * 4, none⟩) ((Me.members ts labs).drop d) (m - d) (m - d) _ wr hml.symm (by omega) hrt (fun t ht => Me.members_sizes HL.out t (List.mem_of_mem_drop ht)))
        have htt := hI.rdT 0
        rw [List.drop_zero, Nat.zero_mul] at htt
        have HTT := Lib.hid htt
        obtain ⟨o, ho⟩ : ∃ o, o = Me.rows ((Me.members ts labs).drop d) := ⟨_, rfl⟩
        rw [← ho] at HRO
        have HO := Lib.hid ho
        have k0 : ¬ m = d := by omega
        have k1 : d ≤ m := by omega
        have k2 : (d : Int) ≤ (m : Int) := by omega
        have k3 : ((m : Int) - (d : Int)) = ((m - d : Nat) : Int) := by omega
        clear hI hml hrt htt ho
        go_wp2_with fail
        refine HRO.out.mono ?_
        rintro e w6 ⟨rfl, hb6⟩
        have HB6 := Lib.hid (HBW.out.trans (hb6.mono HBW.out.size))
        have HQ6 := Lib.hid (below_obj hb6 HQB.out)
        have HT6 := Lib.hid (HTT.out.old hb6)
        obtain ⟨-, -, v2, -, -⟩ := seal5 (below_obj hb6 ((HBI.out.block _ (by have := HLT.out; omega)).trans HK31.out))
        obtain ⟨y0, y1, y2, y3⟩ := query4 HQ6.out
        have f6 : ∀ j, w6.frozen? ⟨w.heap.size + 1, j, none⟩ = false := fun j => heap_frozen HQ6.out
        clear hb6
        cases o with
        | none =>
          go_wp2
          obtain ⟨z0, z1, z2, z3⟩ := query4 (query_set HQ6.out (.slice none 0 0) (.int .i64 0) (.int .i64 0) (.int .i64 0))
          exact bodyPost_ret (v := .tuple #[.agg #[.slice none 0 0, .int .i64 0, .int .i64 0, .int .i64 0], .int .i64 10]) (by simp [results, Tryz.results14, go_sem, z0, z1, z2, z3]) rfl ⟨HB6.out.trans ((four_kp w6 (w.heap.size + 1) _ _ _ _).below HB6.out.size fun k hk => by omega), .inr (.inl ⟨HIN.out, HO.out.symm, rfl⟩)⟩
        | some R =>
          go_wp2
          obtain ⟨z0, z1, z2, z3⟩ := query4 (query_set HQ6.out (.slice (some ⟨gm, 0, none⟩) m m) (.int .i64 (d : Int)) (.int .i64 (R : Int)) (.int .i64 (k : Int)))
          refine bodyPost_ret (v := .tuple #[.agg #[.slice (some ⟨gm, 0, none⟩) m m, .int .i64 (d : Int), .int .i64 (R : Int), .int .i64 (k : Int)], .int .i64 0]) (by simp [results, Tryz.results14, go_sem, z0, z1, z2, z3]) rfl ⟨HB6.out.trans ((four_kp w6 (w.heap.size + 1) _ _ _ _).below HB6.out.size fun k hk => by omega), .inr (.inr ⟨R, k, gm, HO.out.symm, hkd, HKL.out, by rw [← HM.out], ?_⟩)⟩
          exact (HT6.out.kp (four_kp w6 (w.heap.size + 1) _ _ _ _) (fun b hb e => by have := HLT.out; omega)).mono fun _ _ => trivial
end Go.Proofs.YtcokmmanajdioaaGreat
