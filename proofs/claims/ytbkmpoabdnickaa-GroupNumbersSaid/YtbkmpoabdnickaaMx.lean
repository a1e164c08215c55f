/- What the document's own Writer writes. A Writer of the document's own at work. What the document's own PutFrame answers. The example of chapter 14 comes out true: alive of package cartridgelaw14. -/
import Derived.Test.YtbkmpoabdnickaaMk
import Derived.Test.YtbkmpoabdnickaaChecked
import Derived.OwnWalk
import Derived.Handy
import Derived.WalkSpells
import Derived.WalkLawsBesides
import Derived.StillTailTactics
import Derived.Laws.BitsAllLaws
import Derived.Laws.BitsLemmas
import Derived.Test.YtbkmpoabdnickaaMm
import Derived.Deep.RegionLaw
import Derived.Deep.DeepCutAuto
import Derived.IntWalk
import Derived.Test.YtbkmpoabdnickaaMq
import Derived.Test.YtbkmpoabdnickaaMt
import Derived.Test.YtbkmpoabdnickaaMw
namespace Go.Proofs.Ytbkmpoabdnickaa
open Go.RowKit
open Pt (Tx)

theorem lit_rd (w : World) (l : Tx) {c : Array Value} (hc : c = (cellsL l).toArray) : RdL (w.alloc (.cells c 5)) (some ⟨w.heap.size, 0, none⟩) l (· = w.heap.size) := by
  subst hc
  exact RdL.of_cells (Go.Deep.blk_alloc_new _ _) fun j hj => by rw [Nat.zero_add]; simpa using cellsL_get hj
theorem Turned.refl (g base : Nat) (w : World) : Turned g base w w := Kp.refl _ w
theorem vbyte_any (g base : Nat) (v : Value) (l : Tx) (c : UInt8) (w : World) (h : Rw w g base v l) (hbase : base ≤ w.heap.size) (hl : l.length ≤ 999999990) :
    Calls Try.prog 11 #[.pointer (some ⟨g, 0, none⟩), .int .u8 (c.toNat : Int)] w (RefWrote g base (l ++ [c]) w) := by
  have hlt := h.lt
  obtain ⟨A, C, hv, -, -, -, -⟩ := h.2.rd
  have c0 : w.cell? ⟨g, 0, none⟩ = some v := heap_cell h.1
  have f0 : w.frozen? ⟨g, 0, none⟩ = false := heap_frozen h.1
  have H := Lib.hid h
  clear h
  subst hv
  go_enter Try.func11, Try.ntmps11
  go_wp2_with (at_builtin; refine wpList_append_bl _ rfl _ _ rfl base _ l rfl (H.out.2.alloc _) (some ⟨w.heap.size, 0, none⟩) 1 1 [c] (· = w.heap.size) rfl rfl (fun h => by cases h) (lit_rd w [c] rfl) (by omega) (by simp; omega) ?_; intro v' w' hv hg; obtain ⟨hA, hB, hC⟩ := H.out.stored ((Turned.refl g base w).alloc _) (Below.heap_alloc _ _ _ hlt) (H.out.2.alloc _) hg hv; obtain ⟨A', C', rfl, -, -, -, -⟩ := hv.rd; have d0 : w'.cell? ⟨g, 0, none⟩ = some (.slice A l.length C) := heap_cell (hA.trans H.out.1); have d1 : w'.frozen? ⟨g, 0, none⟩ = false := heap_frozen (hA.trans H.out.1); have HB := Lib.hid hB; have HC := Lib.hid hC; clear hA hB hC hv hg)
  go_end0
  have hb := HB.out
  have hc := HC.out
  rw [List.length_append] at hb hc
  exact ⟨rfl, ⟨_, hb⟩, hc⟩
theorem mask_u64 (y : Int) (h0 : 0 ≤ y) (h1 : y < 18446744073709551616) : bits BinOp.and IntKind.u64 y 255 = y % 256 := by
  have h : bits BinOp.and IntKind.u64 y (2 ^ 8 - 1) = y % 2 ^ 8 := bits_mask .u64 64 (by decide) (fun m h0 h1 => by rw [IntKind.wrap_u64]; omega) 8 (by decide) y h0 h1
  simpa using h
theorem vint_any (g base : Nat) (v : Value) (l : Tx) (n : Int) (w : World) (h : Rw w g base v l) (hbase : base ≤ w.heap.size) (hl : l.length ≤ 999999990) :
    Calls Try.prog 12 #[.pointer (some ⟨g, 0, none⟩), .int .i64 n] w (RefWrote g base (l ++ Cd.be4 n) w) := by
  have hlt := h.lt
  obtain ⟨A, C, hv, -, -, -, -⟩ := h.2.rd
  have c0 : w.cell? ⟨g, 0, none⟩ = some v := heap_cell h.1
  have f0 : w.frozen? ⟨g, 0, none⟩ = false := heap_frozen h.1
  have H := Lib.hid h
  clear h
  subst hv
  have hw := IntKind.wrap_u64 n
  have m0 : bits BinOp.and IntKind.u64 (IntKind.u64.wrap n / 16777216) 255 = n / 16777216 % 256 := by rw [mask_u64 _ (by omega) (by omega), hw]; omega
  have m1 : bits BinOp.and IntKind.u64 (IntKind.u64.wrap n / 65536) 255 = n / 65536 % 256 := by rw [mask_u64 _ (by omega) (by omega), hw]; omega
  have m2 : bits BinOp.and IntKind.u64 (IntKind.u64.wrap n / 256) 255 = n / 256 % 256 := by rw [mask_u64 _ (by omega) (by omega), hw]; omega
  have m3 : bits BinOp.and IntKind.u64 (IntKind.u64.wrap n) 255 = n % 256 := by rw [mask_u64 _ (by omega) (by omega), hw]; omega
  clear hw
  go_enter Try.func12, Try.ntmps12
  go_wp2_with (at_builtin; refine wpList_append_bl _ rfl _ _ rfl base _ l rfl (H.out.2.alloc _) (some ⟨w.heap.size, 0, none⟩) 4 4 (Cd.be4 n) (· = w.heap.size) rfl rfl (fun h => by cases h) (lit_rd w (Cd.be4 n) (by simp [cellsL, Cd.be4, Cd.b8_nat])) (by omega) (by simp; omega) ?_; intro v' w' hv hg; obtain ⟨hA, hB, hC⟩ := H.out.stored ((Turned.refl g base w).alloc _) (Below.heap_alloc _ _ _ hlt) (H.out.2.alloc _) hg hv; obtain ⟨A', C', rfl, -, -, -, -⟩ := hv.rd; have d0 : w'.cell? ⟨g, 0, none⟩ = some (.slice A l.length C) := heap_cell (hA.trans H.out.1); have d1 : w'.frozen? ⟨g, 0, none⟩ = false := heap_frozen (hA.trans H.out.1); have HB := Lib.hid hB; have HC := Lib.hid hC; clear hA hB hC hv hg)
  go_end0
  have hb := HB.out
  have hc := HC.out
  rw [List.length_append] at hb hc
  exact ⟨rfl, ⟨_, hb⟩, hc⟩
end Go.Proofs.Ytbkmpoabdnickaa
namespace Go.Proofs.Ytbkmpoabdnickaa
open Go.RowKit
open Pt (Tx)

theorem Turned.other {g base B : Nat} {a b : World} {cs : Array Value} {t : TypeId} (h : Turned g base a b) (hB : B ≠ g) (ht : t ≠ 5) (hu : a.heap[B]? = some (.cells cs t (0, 0))) : b.heap[B]? = some (.cells cs t (0, 0)) := by
  refine (h.block B (heap_lt hu) ?_).trans hu
  rintro (h' | ⟨_, c, h'⟩)
  · exact hB h'
  · rw [hu] at h'
    injection h' with h'
    injection h' with _ e
    exact ht e
/-- a Writer of the document's own at work: what it holds, and what lies beside it -/
structure RefAt (w : World) (gr : Nat) (o : Obj) (l : Tx) (x : World) : Prop where
  rw_ : ∃ v, Rw x gr gr v l
  hd : x.heap[w.heap.size]? = some o
  bel : Below w.heap.size w x
  lo : w.heap.size < gr
theorem RefAt.wrote {w : World} {gr : Nat} {l l' : Tx} {x y : World} {e : Ending} {cs : Array Value} {t : TypeId} (ht : t ≠ 5) (h : RefAt w gr (.cells cs t (0, 0)) l x) (hw : RefWrote gr gr l' x e y) : RefAt w gr (.cells cs t (0, 0)) l' y := by
  obtain ⟨_, h2, h3⟩ := hw
  have := h.lo
  exact ⟨h2, h3.other (by omega) ht h.hd, h.bel.trans (Turned.below h3 h.bel.size (by omega) (by omega)), h.lo⟩
theorem RefAt.base {w : World} {gr : Nat} {o : Obj} {l : Tx} {x : World} (h : RefAt w gr o l x) : gr ≤ x.heap.size := by
  obtain ⟨v, hv⟩ := h.rw_
  exact Nat.le_of_lt hv.lt
theorem RefAt.done {w : World} {gr : Nat} {o : Obj} {l l' : Tx} {x : World} (h : RefAt w gr o l x) (hl : l = l') : ∃ A C, x.cell? ⟨gr, 0, none⟩ = some (.slice A l.length C) ∧ AnsT l' w (.returned (.slice A l.length C)) x := by
  subst hl
  obtain ⟨v, hv⟩ := h.rw_
  obtain ⟨A, C, rfl, g1, g2, g3, g4⟩ := hv.2.rd
  have := h.lo
  exact ⟨A, C, heap_cell hv.1, A, l.length, C, rfl, rfl, g1, g2, g3, g4.mono (fun x hx => by omega), h.bel⟩
theorem vbyte_int (g base : Nat) (v : Value) (l : Tx) (n : Int) (w : World) (h : Rw w g base v l) (hbase : base ≤ w.heap.size) (hl : l.length ≤ 999999990) :
    Calls Try.prog 11 #[.pointer (some ⟨g, 0, none⟩), .int .u8 (n % 256)] w (RefWrote g base (l ++ [Cd.b8 n]) w) := by
  rw [← Cd.b8_nat]; exact vbyte_any g base v l (Cd.b8 n) w h hbase hl
end Go.Proofs.Ytbkmpoabdnickaa
namespace Go.Proofs.Ytbkmpoabdnickaa
open Go.RowKit
open Pt (Tx)

/-- what PutFrame answers: bytes of its own, and an error -/
def PutO (u : Fm.U) (w : World) (e : Ending) (w' : World) : Prop :=
  ∃ A n C, e = .returned (.tuple #[.slice A n C, .int .i64 (Fm.err u)]) ∧ OwnL w' w.heap.size (.slice A n C) (Fm.put u) ∧ Below w.heap.size w w'
theorem PutO.toU {u : Fm.U} {w w' : World} {e : Ending} (h : PutO u w e w') : PutU u w e w' := by
  obtain ⟨A, n, C, h1, h2, h3⟩ := h
  obtain ⟨A', C', e', g1, g2, g3, g4⟩ := h2.rd
  injection e' with x1 x2 x3
  subst x1 x3
  exact ⟨A, n, C, h1, x2, by rw [x2]; exact g1, g2, fun h => by rw [x2]; exact g3 h, g4.mono fun _ h => h.1, h3⟩
theorem refPut_arg (k lb nb : Int) (A : Option Addr) (s : Tx) (m C : Nat) (w : World) (h : ¬ Fm.argOk ⟨k, lb, nb, s⟩) :
    Calls Try.prog 6 #[.agg #[.int .i64 k, .int .i64 lb, .int .i64 nb, .slice A m C]] w (PutO ⟨k, lb, nb, s⟩ w) := by
  have HB : Hid (Below w.heap.size w (w.alloc (unitObj k lb nb A m C))) := Lib.hid ((Below.refl _ _).alloc (Nat.le_refl _) _)
  have HP := Lib.hid (Fm.put_no (u := ⟨k, lb, nb, s⟩) fun h' => h h'.1)
  have HE := Lib.hid (Fm.err_arg h)
  have hq : (decide (k < 1) = true) ∨ (decide (k < 1) = false ∧ decide (6 < k) = true) ∨ (decide (k < 1) = false ∧ decide (6 < k) = false ∧ decide (lb < 1) = true) ∨ (decide (k < 1) = false ∧ decide (6 < k) = false ∧ decide (lb < 1) = false ∧ decide (2147483647 < lb) = true)
      ∨ (decide (k < 1) = false ∧ decide (6 < k) = false ∧ decide (lb < 1) = false ∧ decide (2147483647 < lb) = false ∧ decide (nb < 0) = true) ∨ (decide (k < 1) = false ∧ decide (6 < k) = false ∧ decide (lb < 1) = false ∧ decide (2147483647 < lb) = false ∧ decide (nb < 0) = false ∧ decide (2147483647 < nb) = true) := by
    unfold Fm.argOk at h
    simp only at h
    simp only [decide_eq_true_eq, decide_eq_false_iff_not]; omega
  have hz : (k == 6) = true ∨ (k == 6) = false := by cases (k == 6) <;> simp
  clear h
  rcases hq with q1 | ⟨q1, q2⟩ | ⟨q1, q2, q3⟩ | ⟨q1, q2, q3, q4⟩ | ⟨q1, q2, q3, q4, q5⟩ | ⟨q1, q2, q3, q4, q5, q6⟩ <;> rcases hz with z1 | z1
  all_goals
    go_enter Try.func6, Try.ntmps6
    go_wp2
    go_ret2
    exact ⟨none, 0, 0, by rw [HE.out]; rfl, by rw [HP.out]; exact OwnL.nil _ _, HB.out⟩
theorem ks {k : Int} : (k == 6) = true ∧ Fm.room k = 79 ∨ (k == 6) = false ∧ Fm.room k = 64 := by
  by_cases e : k = 6
  · left; rw [e]; exact ⟨rfl, rfl⟩
  · right; exact ⟨beq_eq_false_iff_ne.2 e, if_neg e⟩
theorem refPut_long (k lb nb : Int) (A : Option Addr) (s : Tx) (m C : Nat) (w : World) (h : Fm.argOk ⟨k, lb, nb, s⟩) (hm : m = s.length) (hl : Fm.room k < m) :
    Calls Try.prog 6 #[.agg #[.int .i64 k, .int .i64 lb, .int .i64 nb, .slice A m C]] w (PutO ⟨k, lb, nb, s⟩ w) := by
  have HB : Hid (Below w.heap.size w (w.alloc (unitObj k lb nb A m C))) := Lib.hid ((Below.refl _ _).alloc (Nat.le_refl _) _)
  have HP := Lib.hid (Fm.put_no (u := ⟨k, lb, nb, s⟩) fun h' => by have : s.length ≤ Fm.room k := h'.2; omega)
  have HE := Lib.hid (Fm.err_long h (by show Fm.room k < s.length; omega))
  obtain ⟨h1, h2, h3, h4, h5, h6⟩ := h
  simp only at h1 h2 h3 h4 h5 h6
  have q1 : decide (k < 1) = false := decide_eq_false (by omega)
  have q2 : decide (6 < k) = false := decide_eq_false (by omega)
  have q3 : decide (lb < 1) = false := decide_eq_false (by omega)
  have q4 : decide (2147483647 < lb) = false := decide_eq_false (by omega)
  have q5 : decide (nb < 0) = false := decide_eq_false (by omega)
  have q6 : decide (2147483647 < nb) = false := decide_eq_false (by omega)
  have hk := ks (k := k)
  clear h1 h2 h3 h4 h5 h6 hm
  rcases hk with ⟨z1, hr⟩ | ⟨z1, hr⟩
  all_goals
    rw [hr] at hl
    clear hr
    go_enter Try.func6, Try.ntmps6
    go_wp2
    go_ret2
    exact ⟨none, 0, 0, by rw [HE.out]; rfl, by rw [HP.out]; exact OwnL.nil _ _, HB.out⟩
theorem Turned.unit {g base B : Nat} {a b : World} {k lb nb : Int} {A : Option Addr} {m C : Nat} (h : Turned g base a b) (hB : B ≠ g) (hu : a.heap[B]? = some (unitObj k lb nb A m C)) : b.heap[B]? = some (unitObj k lb nb A m C) := by
  refine (h.block B (heap_lt hu) ?_).trans hu
  rintro (h' | ⟨_, c, h'⟩)
  · exact hB h'
  · rw [hu] at h'
    injection h' with h'
    injection h' with _ e
    exact absurd e (by decide)
/-- the same, where the count is a number that is reckoned -/
theorem step_append_int {P : Program} {ops : Array Oper} {o : Oper} {a : Act} {w : World} {K : Act → World → Prop} {Q : Exit → Act → World → Prop} {E : Prop} (hg : o.guard = none) (s x : Operand) (t tn : TypeId)
    (ho : o.op = .call { callee := .builtin .append, args := #[s, x], argTypes := #[t, tn] }) (vs v' : Value) (w' : World) (n : Int) (hs : a.eval s = vs) (hx : a.eval x = .int .i64 n) (hr : ∀ ty, (Builtin.append_ #[t, tn] ty #[vs, .int .i64 n]).run P w = .ok v' w')
    (hK : K (a.put o.dst v') w') : if Region.wanted o (yielded ops a.tmps) = true then Oper.wp P o a w K Q else E :=
  step_append_eq hg s x t tn ho vs (.int .i64 n) v' w' hr hs hx hK
theorem low_byte (m : Nat) (hm : m ≤ 79) : bits BinOp.and IntKind.i64 (m : Int) 255 = (m : Int) := by
  show IntKind.i64.wrap ((BitVec.ofInt 64 (m : Int) &&& BitVec.ofInt 64 255).toNat : Int) = _
  rw [BitVec.toNat_and, show (BitVec.ofInt 64 255).toNat = 2 ^ 8 - 1 by decide, Nat.and_two_pow_sub_one_eq_mod, BitVec.ofInt_natCast, BitVec.toNat_ofNat, IntKind.wrap_i64]
  omega
set_option maxRecDepth 100000 in
set_option maxHeartbeats 4000000 in
theorem refPut_good (k lb nb : Int) (A : Option Addr) (s : Tx) (m C : Nat) (G : Nat → Prop) (w : World) (hm : m = s.length) (hA : A = none → m = 0 ∧ C = 0) (hr : RdL w A s G) (hok : Fm.Ok ⟨k, lb, nb, s⟩) :
    Calls Try.prog 6 #[.agg #[.int .i64 k, .int .i64 lb, .int .i64 nb, .slice A m C]] w (PutO ⟨k, lb, nb, s⟩ w) := by
  obtain ⟨wa, hwa⟩ : ∃ wa, wa = (w.alloc (unitObj k lb nb A m C)).alloc (.cells #[.slice none 0 0] 48) := ⟨_, rfl⟩
  have HB0 : Hid (Below w.heap.size w wa) := Lib.hid (by rw [hwa]; exact ((Below.refl _ _).alloc (Nat.le_refl _) _).alloc (by simp) _)
  have HU0 : Hid (wa.heap[w.heap.size]? = some (unitObj k lb nb A m C)) := Lib.hid (by
    rw [hwa, Below.heap_alloc _ _ _ (by simp)]; exact Go.Deep.blk_alloc_new _ _)
  have H0 : Hid (Rw wa (w.heap.size + 1) w.heap.size (.slice none 0 0) []) := Lib.hid (by
    refine ⟨?_, OwnL.nil _ _⟩
    have := Go.Deep.blk_alloc_new (w.alloc (unitObj k lb nb A m C)) (.cells #[.slice none 0 0] 48)
    rw [hwa]; simpa using this)
  obtain ⟨a0, a1, a2, a3⟩ := unit4 HU0.out
  have HK := Lib.hid hok
  obtain ⟨⟨h1, h2, h3, h4, h5, h6⟩, h7⟩ := hok
  simp only at h1 h2 h3 h4 h5 h6 h7
  have q1 : decide (k < 1) = false := decide_eq_false (by omega)
  have q2 : decide (6 < k) = false := decide_eq_false (by omega)
  have q3 : decide (lb < 1) = false := decide_eq_false (by omega)
  have q4 : decide (2147483647 < lb) = false := decide_eq_false (by omega)
  have q5 : decide (nb < 0) = false := decide_eq_false (by omega)
  have q6 : decide (2147483647 < nb) = false := decide_eq_false (by omega)
  have hk := ks (k := k)
  have HR := Lib.hid hr
  have HM := Lib.hid hm
  have HA := Lib.hid hA
  have hroom : m ≤ Fm.room k := by omega
  have HW := Lib.hid hwa
  rw [hwa] at a0 a1 a2 a3
  unfold unitObj at a0 a1 a2 a3 HW
  clear h1 h2 h3 h4 h5 h6 h7 hm hA hr hwa
  obtain ⟨R, hR⟩ : ∃ R, R = Fm.room k := ⟨_, rfl⟩
  rw [← hR] at hroom hk
  have HRM := Lib.hid hR
  clear hR
  have hR79 : R ≤ 79 := by rcases hk with ⟨_, h⟩ | ⟨_, h⟩ <;> omega
  have hm79 : m ≤ 79 := by omega
  have q7 : decide (R < m) = false := decide_eq_false (by omega)
  have q8 : decide ((R : Int) < (m : Int)) = false := decide_eq_false (by omega)
  have hsub : (R : Int) - (m : Int) = ((R - m : Nat) : Int) := by omega
  go_enter Try.func6, Try.ntmps6
  go_upto_if 8 with fail
  go_cut [4] (fun v wx => v = .int .i64 (R : Int) ∧ wx = w.alloc (.cells #[.int .i64 k, .int .i64 lb, .int .i64 nb, .slice A m C] 29))
  case first =>
    rcases hk with ⟨z1, rfl⟩ | ⟨z1, rfl⟩
    all_goals
      go_wp2
      go_meet
      exact ⟨rfl, rfl⟩
  case rest =>
  obtain ⟨rfl, rfl⟩ := hcut
  clear hk
  go_wp2_with fail
  rw [← HW.out]
  refine (vbyte_int _ _ _ [] k wa H0.out HB0.out.size (by simp)).mono ?_
  rintro e w1 ⟨rfl, ⟨v1, hW1⟩, hK1⟩
  have HW1 := Lib.hid hW1
  have HU1 := Lib.hid (hK1.unit (by omega) HU0.out)
  have HB1 := Lib.hid (HB0.out.trans (hK1.below HB0.out.size (by omega) (Nat.le_refl _)))
  obtain ⟨b0, b1, b2, b3⟩ := unit4 HU1.out
  clear hW1 hK1 a0 a1 a2 a3
  go_wp2_with fail
  refine (vint_any _ _ _ _ lb w1 HW1.out HB1.out.size (by simp)).mono ?_
  rintro e w2 ⟨rfl, ⟨v2, hW2⟩, hK2⟩
  have HW2 := Lib.hid hW2
  have HU2 := Lib.hid (hK2.unit (by omega) HU1.out)
  have HB2 := Lib.hid (HB1.out.trans (hK2.below HB1.out.size (by omega) (Nat.le_refl _)))
  obtain ⟨c0, c1, c2, c3⟩ := unit4 HU2.out
  clear hW2 hK2 b0 b1 b2 b3
  go_wp2_with fail
  refine (vint_any _ _ _ _ nb w2 HW2.out HB2.out.size (by simp [Cd.be4_len])).mono ?_
  rintro e w3 ⟨rfl, ⟨v3, hW3⟩, hK3⟩
  have HW3 := Lib.hid hW3
  have HU3 := Lib.hid (hK3.unit (by omega) HU2.out)
  have HB3 := Lib.hid (HB2.out.trans (hK3.below HB2.out.size (by omega) (Nat.le_refl _)))
  obtain ⟨d0, d1, d2, d3⟩ := unit4 HU3.out
  clear hW3 hK3 c0 c1 c2 c3
  go_wp2_with fail
  obtain ⟨l3, hl3⟩ : ∃ l3, l3 = [] ++ [Cd.b8 k] ++ Cd.be4 lb ++ Cd.be4 nb := ⟨_, rfl⟩
  rw [← hl3] at HW3
  have hn3 : l3.length = 9 := by rw [hl3]; simp [Cd.be4_len]
  have HL3 := Lib.hid hl3
  obtain ⟨A3, C3, hv3, -, -, -, -⟩ := HW3.out.2.rd
  rw [hn3] at hv3
  subst hv3
  have HN3 := Lib.hid hn3
  clear hl3 hn3
  have x0 : w3.cell? ⟨w.heap.size + 1, 0, none⟩ = some (.slice A3 9 C3) := heap_cell HW3.out.1
  have x1 : w3.frozen? ⟨w.heap.size + 1, 0, none⟩ = false := heap_frozen HW3.out.1
  have hlow := low_byte m hm79
  obtain ⟨wl, hwl⟩ : ∃ wl, wl = (w3.alloc (.cells #[.int .u8 (IntKind.u8.wrap ((m : Int) / 256)), .int .u8 (IntKind.u8.wrap (m : Int))] 5)).drew := ⟨_, rfl⟩
  have hbl : Below w3.heap.size w3 wl := by rw [hwl]; exact ((Below.refl _ _).alloc (Nat.le_refl _) _).drew
  have hol : OwnL wl w.heap.size (.slice A3 9 C3) l3 := HW3.out.2.of_block fun x hx => hbl.block x (HW3.out.2.lt x hx)
  have hll : RdL wl (some ⟨w3.heap.size, 0, none⟩) [Cd.b8 ((m : Int) / 256), Cd.b8 (m : Int)] (· = w3.heap.size) := by
    rw [hwl]
    refine rd_of_cells (l := [Cd.b8 ((m : Int) / 256), Cd.b8 (m : Int)]) (fr := (0, 0)) ?_
    have h1 := IntKind.wrap_u8 ((m : Int) / 256)
    have h2 := IntKind.wrap_u8 (m : Int)
    rw [h1, h2]
    refine (Go.Deep.blk_alloc_new w3 _).trans ?_
    simp [cellsL, Cd.b8_nat]
  obtain ⟨A4, C4, w4, hr4, hO4, hG4⟩ := ap_run wl w.heap.size _ _ hol (some ⟨w3.heap.size, 0, none⟩) 2 2 _ _ rfl (fun h => by cases h) hll (by rw [HN3.out]; decide) (Nat.le_trans HB3.out.size hbl.size) 11 (by rw [HN3.out])
  obtain ⟨hx4, hR4, hT4⟩ := HW3.out.stored ((Turned.refl _ _ w3).trans (Kp.of_below hbl)) (hbl.block _ HW3.out.lt) hol hG4 hO4
  have x4 : w4.cell? ⟨w.heap.size + 1, 0, none⟩ = some (.slice A3 9 C3) := heap_cell (hx4.trans HW3.out.1)
  have y4 : w4.frozen? ⟨w.heap.size + 1, 0, none⟩ = false := heap_frozen (hx4.trans HW3.out.1)
  have HR4 := Lib.hid hR4
  have HT4 := Lib.hid hT4
  have hbl' := hbl
  clear hbl hol hll hO4 hG4 hx4 hR4 hT4
  have x0w : wl.cell? ⟨w.heap.size + 1, 0, none⟩ = some (.slice A3 9 C3) := (Below.cell hbl' (p := ⟨w.heap.size + 1, 0, none⟩) HW3.out.lt).trans x0
  rw [hwl] at hr4 x0w
  clear hwl hbl'
  go_cut [] (fun wx => ∃ (A4 : Option Addr) (C4 : Nat), Hid (Rw wx (w.heap.size + 1) w.heap.size (.slice A4 11 C4) (l3 ++ [Cd.b8 ((m : Int) / 256), Cd.b8 (m : Int)])) ∧ Hid (Turned (w.heap.size + 1) w.heap.size w3 wx))
  case first =>
    go_region_law (first
      | (refine step_append_eq (by rfl) _ _ _ _ (by rfl) _ _ _ _ hr4 (by rfl) (by rfl) ?_))
    all_goals
      go_wp2
      go_meet
      exact ⟨A4, C4, HR4, HT4⟩
  case rest =>
    obtain ⟨A5, C5, HR5, HT5⟩ := hcut
    obtain ⟨w5, rfl⟩ : ∃ x, x = wc := ⟨wc, rfl⟩
    rename_i wx
    obtain ⟨l5, hl5⟩ : ∃ l5, l5 = l3 ++ [Cd.b8 ((m : Int) / 256), Cd.b8 (m : Int)] := ⟨_, rfl⟩
    rw [← hl5] at HR5
    have hn5 : l5.length = 11 := by rw [hl5, List.length_append, HN3.out]; rfl
    have HL5 := Lib.hid hl5
    have HN5 := Lib.hid hn5
    have HU5 := Lib.hid (HT5.out.unit (by omega) HU3.out)
    have HB5 := Lib.hid (HB3.out.trans (HT5.out.below HB3.out.size (by omega) (Nat.le_refl _)))
    clear hl5 hn5 hr4 x0w x4 y4 x0 x1 d0 d1 d2 d3 HT5 HR4 HT4
    go_wp2_with fail
    obtain ⟨u0, u1, u2, u3⟩ := unit4 HU5.out
    have x0 : w5.cell? ⟨w.heap.size + 1, 0, none⟩ = some (.slice A5 11 C5) := heap_cell HR5.out.1
    have hbl : Below w5.heap.size w5 w5.drew := (Below.refl _ _).drew
    have hol : OwnL w5.drew w.heap.size (.slice A5 11 C5) l5 := HR5.out.2.of_block fun x hx => rfl
    have hll : RdL w5.drew A s (· < w.heap.size) := (HR.out.in_.old HB5.out.drew).mono fun _ h => h.2
    obtain ⟨A6, C6, w6, hr6, hO6, hG6⟩ := ap_run w5.drew w.heap.size _ _ hol A m C _ _ HM.out.symm HA.out hll (by rw [HN5.out]; omega) HB5.out.drew.size (11 + m) (by rw [HN5.out])
    obtain ⟨hx6, hR6, hT6⟩ := HR5.out.stored ((Turned.refl _ _ w5).trans (Kp.of_below hbl)) (hbl.block _ HR5.out.lt) hol hG6 hO6
    have x6 : w6.cell? ⟨w.heap.size + 1, 0, none⟩ = some (.slice A5 11 C5) := heap_cell (hx6.trans HR5.out.1)
    have y6 : w6.frozen? ⟨w.heap.size + 1, 0, none⟩ = false := heap_frozen (hx6.trans HR5.out.1)
    have HR6 := Lib.hid hR6
    have HT6 := Lib.hid hT6
    clear hbl hol hll hO6 hG6 hx6 hR6 hT6
    go_cut [] (fun wx => ∃ (A7 : Option Addr) (C7 : Nat), Hid (Rw wx (w.heap.size + 1) w.heap.size (.slice A7 (11 + m) C7) (l5 ++ s)) ∧ Hid (Turned (w.heap.size + 1) w.heap.size w5 wx))
    case first =>
      go_region_law (first
        | (refine step_append_eq (by rfl) _ _ _ _ (by rfl) _ _ _ _ hr6 (by rfl) (by rfl) ?_))
      all_goals
        go_wp2
        go_meet
        exact ⟨A6, C6, HR6, HT6⟩
    case rest =>
    obtain ⟨A7, C7, HR7, HT7⟩ := hcut
    obtain ⟨w7, rfl⟩ : ∃ x, x = wc := ⟨wc, rfl⟩
    obtain ⟨l7, hl7⟩ : ∃ l7, l7 = l5 ++ s := ⟨_, rfl⟩
    rw [← hl7] at HR7
    have hn7 : l7.length = 11 + m := by rw [hl7, List.length_append, HN5.out, ← HM.out]
    have HL7 := Lib.hid hl7
    have HN7 := Lib.hid hn7
    have HU7 := Lib.hid (HT7.out.unit (by omega) HU5.out)
    have HB7 := Lib.hid (HB5.out.trans (HT7.out.below HB5.out.size (by omega) (Nat.le_refl _)))
    clear hl7 hn7 hr6 x6 y6 x0 u0 u1 u2 u3 HT7 HR6 HT6
    go_wp2_with fail
    obtain ⟨u0, u1, u2, u3⟩ := unit4 HU7.out
    have x0 : w7.cell? ⟨w.heap.size + 1, 0, none⟩ = some (.slice A7 (11 + m) C7) := heap_cell HR7.out.1
    have hbl : Below w7.heap.size w7 w7.drew := (Below.refl _ _).drew
    have hol : OwnL w7.drew w.heap.size (.slice A7 (11 + m) C7) l7 := HR7.out.2.of_block fun x hx => rfl
    obtain ⟨A8, C8, w8, hr8, hO8, hG8⟩ := apz_run w7.drew w.heap.size _ _ hol (by rw [HN7.out]; omega) (R - m) (by rw [HN7.out]; omega) HB7.out.drew.size ((R - m : Nat) : Int) rfl (11 + R) (by rw [HN7.out]; omega)
    obtain ⟨hx8, hR8, hT8⟩ := HR7.out.stored ((Turned.refl _ _ w7).trans (Kp.of_below hbl)) (hbl.block _ HR7.out.lt) hol hG8 hO8
    have hr9 : ∀ n : Int, n = ((R - m : Nat) : Int) → ∀ ty, (Builtin.append_ #[25, 3] ty #[.slice A7 (11 + m) C7, .int .i64 n]).run Try.prog w7.drew = .ok (.slice A8 (11 + R) C8) w8 := fun n hn ty => by rw [hn]; exact hr8 ty
    have x8 : w8.cell? ⟨w.heap.size + 1, 0, none⟩ = some (.slice A7 (11 + m) C7) := heap_cell (hx8.trans HR7.out.1)
    have y8 : w8.frozen? ⟨w.heap.size + 1, 0, none⟩ = false := heap_frozen (hx8.trans HR7.out.1)
    have HR8 := Lib.hid hR8
    have HT8 := Lib.hid hT8
    clear hbl hol hO8 hG8 hx8 hR8 hT8
    go_cut [] (fun wx => ∃ (A9 : Option Addr) (C9 : Nat), Hid (Rw wx (w.heap.size + 1) w.heap.size (.slice A9 (11 + R) C9) (l7 ++ List.replicate (R - m) 0)) ∧ Hid (Turned (w.heap.size + 1) w.heap.size w7 wx))
    case first =>
      go_region_law (first
        | (refine step_append_int (by rfl) _ _ _ _ (by rfl) _ _ _ _ (by rfl) (by rfl) (by exact hr9 _ (IntWalk.i64_in _ (by omega))) ?_))
      all_goals
        go_wp2
        go_meet
        exact ⟨A8, C8, HR8, HT8⟩
    case rest =>
    obtain ⟨A9, C9, HR9, HT9⟩ := hcut
    obtain ⟨w9, rfl⟩ : ∃ x, x = wc := ⟨wc, rfl⟩
    have hbody : l7 ++ List.replicate (R - m) 0 = Fm.body ⟨k, lb, nb, s⟩ := by
      rw [HL7.out, HL5.out, HL3.out]
      unfold Fm.body Fm.head Fm.pad
      simp only [← HM.out, ← HRM.out, List.append_assoc, List.nil_append, List.cons_append]
    rw [hbody] at HR9
    have hl9 : (Fm.body ⟨k, lb, nb, s⟩).length = 11 + R := by rw [Fm.body_len HK.out, HRM.out]
    have HL9 := Lib.hid hl9
    have HB9 := Lib.hid (HB7.out.trans (HT9.out.below HB7.out.size (by omega) (Nat.le_refl _)))
    clear hbody hl9 hr8 hr9 x8 y8 x0 u0 u1 u2 u3 HT9 HR8 HT8
    have x0 : w9.cell? ⟨w.heap.size + 1, 0, none⟩ = some (.slice A9 (11 + R) C9) := heap_cell HR9.out.1
    have HS9 := Lib.hid (RdL.mono (by obtain ⟨A', C', e, _, _, _, h⟩ := HR9.out.2.rd; injection e with e1 e2 e3; subst e1; exact h) (fun _ _ => trivial) : RdL w9 A9 (Fm.body ⟨k, lb, nb, s⟩) (fun _ => True))
    have s0 := sumL_lo (Fm.body ⟨k, lb, nb, s⟩)
    have s1 := sumL_hi (Fm.body ⟨k, lb, nb, s⟩)
    go_wp2_with fail
    refine (refSumL_any A9 (Fm.body ⟨k, lb, nb, s⟩) (11 + R) C9 _ _ HL9.out.symm (by rw [HL9.out]; unfold maxLen; omega) HS9.out).mono ?_
    rintro e w10 ⟨rfl, hw10⟩
    subst hw10
    generalize hS : sumL (Fm.body ⟨k, lb, nb, s⟩) = S at s0 s1 ⊢
    have HS := Lib.hid hS
    clear hS
    go_wp2_with fail
    refine (vint_any _ _ _ _ S w9 HR9.out HB9.out.size (by rw [HL9.out]; omega)).mono ?_
    rintro e w11 ⟨rfl, ⟨v11, hW11⟩, hK11⟩
    have HW11 := Lib.hid hW11
    have HB11 := Lib.hid (HB9.out.trans (hK11.below HB9.out.size (by omega) (Nat.le_refl _)))
    clear hW11 hK11 x0
    have x0 : w11.cell? ⟨w.heap.size + 1, 0, none⟩ = some v11 := heap_cell HW11.out.1
    have hlen : (Fm.body ⟨k, lb, nb, s⟩ ++ Cd.be4 S).length = 15 + R := by rw [List.length_append, HL9.out, Cd.be4_len]; omega
    obtain ⟨A8, C8, e8, -, -, -, -⟩ := HW11.out.2.rd
    rw [hlen] at e8
    subst e8
    have HO := Lib.hid HW11.out.2
    clear hlen
    go_wp2
    go_ret2
    have hput : Fm.put ⟨k, lb, nb, s⟩ = Fm.body ⟨k, lb, nb, s⟩ ++ Cd.be4 S := by rw [← HS.out]; exact Fm.put_ok HK.out
    refine ⟨A8, 15 + R, C8, by rw [Fm.err_ok HK.out]; rfl, ?_, HB11.out⟩
    rw [hput]
    exact HO.out
theorem refPut_own (k lb nb : Int) (A : Option Addr) (s : Tx) (m C : Nat) (G : Nat → Prop) (w : World) (hm : m = s.length) (hA : A = none → m = 0 ∧ C = 0) (hr : RdL w A s G) :
    Calls Try.prog 6 #[.agg #[.int .i64 k, .int .i64 lb, .int .i64 nb, .slice A m C]] w (PutO ⟨k, lb, nb, s⟩ w) := by
  by_cases ha : Fm.argOk ⟨k, lb, nb, s⟩
  · by_cases hl : Fm.room k < m
    · exact refPut_long k lb nb A s m C w ha hm hl
    · exact refPut_good k lb nb A s m C G w hm hA hr ⟨ha, by show s.length ≤ Fm.room k; omega⟩
  · exact refPut_arg k lb nb A s m C w ha
theorem refPut_any (k lb nb : Int) (A : Option Addr) (s : Tx) (m C : Nat) (G : Nat → Prop) (w : World) (hm : m = s.length) (hA : A = none → m = 0 ∧ C = 0) (hr : RdL w A s G) :
    Calls Try.prog 6 #[.agg #[.int .i64 k, .int .i64 lb, .int .i64 nb, .slice A m C]] w (PutU ⟨k, lb, nb, s⟩ w) :=
  (refPut_own k lb nb A s m C G w hm hA hr).mono fun _ _ h => h.toU
end Go.Proofs.Ytbkmpoabdnickaa
namespace Go.Proofs.Ytbkmpoabdnickaa
open Go.RowKit
open Pt (Tx)

theorem make_any (A1 : Option Addr) (data : List St.T) (C1 : Nat) (A2 : Option Addr) (blank : List St.T) (C2 : Nat) (G : Nat → Prop) (number : Int) (w : World) (hn1 : data.length ≤ 1000) (hn2 : blank.length ≤ 1000) (hA1 : A1 = none → data.length = 0 ∧ C1 = 0) (hA2 : A2 = none → blank.length = 0 ∧ C2 = 0)
    (hl : ∀ t ∈ data, t.blocks.length ≤ 1000000 ∧ ∀ s ∈ t.blocks, s.length ≤ 1000000) (hr1 : RdT w A1 data G) (hr2 : RdT w A2 blank G) :
    Calls Try.prog 7 #[.slice A1 data.length C1, .slice A2 blank.length C2, .int .i64 number] w (MakeA data blank number w) := by
  by_cases h : Gr.mkE data blank number = 0
  · exact make_yes A1 data C1 A2 blank C2 G number w hn1 hn2 hA1 hA2 hl hr1 hr2 h
  · exact make_no A1 data C1 A2 blank C2 G number w hn1 hn2 hA1 hA2 hl hr1 hr2 h
theorem num14 (n : Int) (w : World) : Calls Try.prog 8 #[.int .i64 n] w fun e w' => e = .returned (.int .i64 n) ∧ w = w' := by
  go_enter Try.func8, Try.ntmps8
  go_wp2
  go_ret
  exact ⟨rfl, rfl⟩
/-- one tape in a block of its own -/
theorem one_tape {w : World} {g : Nat} {lab cap : Int} {A : Option Addr} {bs : List Tx} {n C : Nat} {lost : Bool} (h : w.heap[g]? = some (tapeObj lab cap A n C lost)) (hn : n = bs.length) (hr : RdB w A bs (fun _ => True)) : RdT w (some ⟨g, 0, none⟩) [⟨lab, cap, bs, lost⟩] (fun _ => True) := fun _ => by
  subst hn
  refine ⟨g, 0, rfl, trivial, fun i hi => ?_⟩
  have h0 : i = 0 := by simpa using hi
  subst h0
  obtain ⟨t0, t1, t2, t3⟩ := tape4 h
  exact ⟨A, C, t0, t1, t2, t3, hr⟩
/-- one row in a block of its own -/
theorem one_row {w : World} {g : Nat} {A : Option Addr} {s : Tx} {n C : Nat} (h : w.heap[g]? = some (.cells #[.slice A n C] 25 (0, 0))) (hn : n = s.length) (hC : n ≤ C) (hA : A = none → n = 0 ∧ C = 0) (hr : RdL w A s (fun _ => True)) : RdB w (some ⟨g, 0, none⟩) [s] (fun _ => True) := fun _ => by
  subst hn
  refine ⟨g, 0, rfl, trivial, fun i hi => ?_⟩
  have h0 : i = 0 := by simpa using hi
  subst h0
  exact ⟨A, C, by rw [heap_cell h]; rfl, hC, hA, hr⟩
theorem FindA.len {ss : List Rc.S} {w w' : World} {e : Ending} (h : FindA ss w e w') : ∃ A C l, e = .returned (.slice A ss.length C) ∧ l.length = ss.length ∧ l.map Sx.s = ss ∧ ss.length ≤ C ∧ C ≤ maxLen ∧ (A = none → ss.length = 0 ∧ C = 0) ∧ encX.Rd w' A l (w.heap.size ≤ ·) ∧ (∀ x ∈ l, x.Ok w' (w.heap.size ≤ ·)) ∧ Below w.heap.size w w' := by
  obtain ⟨A, C, l, h1, h2, h3, h4, h5, h6, h7, h8⟩ := h
  have hl : l.length = ss.length := by rw [← h2, List.length_map]
  rw [hl] at h1 h3 h5
  exact ⟨A, C, l, h1, hl, h2, h3, h4, h5, h6, h7, h8⟩
theorem blk_short (u : Fm.U) (h : u.load.length ≤ 79) : (Fm.blk u).length ≤ 200 := by
  have h1 := Fm.room_le u.kind
  unfold Fm.blk Fm.body Fm.pad
  rw [List.length_append, List.length_append, List.length_append, Fm.head_len, List.length_replicate, Cd.be4_len]
  omega
/-- how long what is made is -/
theorem made_sizes {data blank : List St.T} {number : Int} (h : St.len data ≤ 1000) : ∀ t ∈ Gr.made data blank number, t.blocks.length ≤ 1000000 ∧ ∀ s ∈ t.blocks, s.length ≤ 1000000 := by
  intro t ht
  obtain ⟨i, hi, rfl⟩ := List.mem_iff_getElem.1 ht
  have hi' : i < blank.length := by rwa [Gr.made_len] at hi
  rw [Gr.made_at hi']
  refine ⟨by rw [Gr.madeT_len]; omega, fun s hs => ?_⟩
  have hs' : s ∈ framedL blank[i].label (says (Gr.rowsOf data blank.length i) (Gr.sealOf data blank number (data.length + i))) := hs
  obtain ⟨k, hk, rfl⟩ := List.mem_iff_getElem.1 hs'
  rw [framedL_at (by rwa [framedL_len] at hk)]
  refine Nat.le_trans (blk_short _ ?_) (by omega)
  show ((says (Gr.rowsOf data blank.length i) (Gr.sealOf data blank number (data.length + i)))[k]'(by rwa [framedL_len] at hk)).2.length ≤ 79
  have hm := List.getElem_mem (by rwa [framedL_len] at hk : k < (says (Gr.rowsOf data blank.length i) (Gr.sealOf data blank number (data.length + i))).length)
  generalize (says (Gr.rowsOf data blank.length i) (Gr.sealOf data blank number (data.length + i)))[k]'(by rwa [framedL_len] at hk) = u at hm ⊢
  unfold says at hm
  rcases List.mem_append.1 hm with hm | hm
  · rcases List.mem_cons.1 hm with rfl | hm
    · show 1 ≤ 79; omega
    · obtain ⟨r, hr, rfl⟩ := List.mem_map.1 hm
      show r.length ≤ 79
      rw [Gr.rowsOf_79 hr]; exact Nat.le_refl _
  · rw [List.mem_singleton.1 hm]
    have := Rc.sput_le (Gr.sealOf data blank number (data.length + i))
    show (Rc.sput _).length ≤ 79
    omega
def exD : List St.T := [Ex.d 1 4]
def exB : List St.T := [⟨2, 4, [], false⟩]
theorem ex_mk : Gr.mkE exD exB 1 = 0 := Ex.mk_zero ⟨by decide, by decide⟩ (by decide) (by decide) (fun t ht => by rw [List.mem_singleton.1 ht]; exact ⟨rfl, rfl, by decide⟩) (by decide)
theorem ex_seal : Rc.SOk (Gr.sealOf exD exB 1 0) := Gr.chk_seal (Ex.chk_zero ⟨by decide, by decide⟩ (by decide) (by decide) (fun t ht => by rw [List.mem_singleton.1 ht]; exact ⟨rfl, rfl, by decide⟩) (by decide))
theorem ex_find : (Gr.find (Gr.made exD exB 1)).length = 1 := by
  have h := Gr.made_cand ex_seal (by decide) (i := 0) (by decide)
  have e : Gr.made exD exB 1 = [Gr.madeT exD exB 1 0 exB[0]] := rfl
  rw [e]
  show (Gr.all (Gr.cands _)).length = 1
  rw [show Gr.cands [Gr.madeT exD exB 1 0 exB[0]] = [Gr.sealOf exD exB 1 (exD.length + 0)] by unfold Gr.cands; simp [h]]
  rfl
set_option maxRecDepth 100000 in
set_option maxHeartbeats 8000000 in
theorem alive14_true (w : World) : Calls Try.prog 5 #[] w (AnsB true w) := by
  obtain ⟨w1, hw1⟩ : ∃ w1, w1 = w.alloc (.cells #[.int .u8 68] 5 (1, 2)) := ⟨_, rfl⟩
  have kc := Go.Joins.run_convert_bytes_const_at (P := Try.prog) w 25 5 #[.int .u8 68] 1 1 w.heap.size rfl Try.underlying25 Try.underlying5
  simp only [List.size_toArray, List.length_cons, List.length_nil, Nat.zero_add, Nat.reduceAdd] at kc
  have hb1 : Below w.heap.size w w1 := by rw [hw1]; exact (Below.refl _ _).alloc (Nat.le_refl _) _
  have hD1 : w1.heap[w.heap.size]? = some (.cells #[.int .u8 68] 5 (1, 2)) := by rw [hw1]; exact Go.Deep.blk_alloc_new _ _
  have hrd : RdL w1 (some ⟨w.heap.size, 0, none⟩) [68] (fun _ => True) := fun _ => ⟨_, _, rfl, trivial, fun j hj => by
    have : j = 0 := by simp at hj; omega
    subst this
    rw [heap_cell hD1]; rfl⟩
  have hput := refPut_own 1 1 0 (some ⟨w.heap.size, 0, none⟩) [68] 1 1 _ w1 rfl (fun h => by cases h) hrd
  unfold PutO at hput
  rw [show Fm.err ⟨1, 1, 0, [68]⟩ = 0 from Fm.err_ok (Ex.ok (by decide)), show Fm.put ⟨1, 1, 0, [68]⟩ = Ex.b 1 from Fm.put_ok (Ex.ok (by decide))] at hput
  have HP := Lib.hid hput
  have HB1 := Lib.hid hb1
  have HW1 := Lib.hid hw1
  have hfn := find_any none [] 0 (fun _ => True)
  have HFN : Hid (∀ y, Calls Try.prog 9 #[.slice none 0 0] y (FindA [] y)) := Lib.hid fun y => hfn y (by simp) (fun t ht => by cases ht) (RdT.empty _ _ _)
  clear hput hb1 hw1 hD1 hrd hfn
  go_enter Try.func5, Try.ntmps5
  go_wp2_with fail
  clear kc
  rw [← HW1.out]
  refine HP.out.mono ?_
  rintro e w3 ⟨A3, n3, C3, rfl, hO3, hb3⟩
  obtain ⟨A3', C3', e3, hc3, hcm3, hn3, hr3⟩ := hO3.rd
  injection e3 with x1 x2 x3
  subst x1 x3
  obtain ⟨w4, hw4⟩ : ∃ w4, w4 = w3.alloc (.cells #[.slice A3 n3 C3] 25) := ⟨_, rfl⟩
  obtain ⟨w5, hw5⟩ : ∃ w5, w5 = w4.alloc (tapeObj 1 4 (some ⟨w3.heap.size, 0, none⟩) 1 1 false) := ⟨_, rfl⟩
  obtain ⟨w6, hw6⟩ : ∃ w6, w6 = w5.alloc (tapeObj 2 4 none 0 0 false) := ⟨_, rfl⟩
  have s4 : w4.heap.size = w3.heap.size + 1 := by rw [hw4]; simp
  have s5 : w5.heap.size = w3.heap.size + 1 + 1 := by rw [hw5]; simp [s4]
  have b34 : Below w3.heap.size w3 w4 := by rw [hw4]; exact (Below.refl _ _).alloc (Nat.le_refl _) _
  have b45 : Below w4.heap.size w4 w5 := by rw [hw5]; exact (Below.refl _ _).alloc (Nat.le_refl _) _
  have b56 : Below w5.heap.size w5 w6 := by rw [hw6]; exact (Below.refl _ _).alloc (Nat.le_refl _) _
  have b46 : Below w4.heap.size w4 w6 := b45.trans (b56.mono b45.size)
  have b36 : Below w3.heap.size w3 w6 := b34.trans (b46.mono b34.size)
  have k4 : w4.heap[w3.heap.size]? = some (.cells #[.slice A3 n3 C3] 25 (0, 0)) := by rw [hw4]; exact Go.Deep.blk_alloc_new _ _
  have k5 : w5.heap[w4.heap.size]? = some (tapeObj 1 4 (some ⟨w3.heap.size, 0, none⟩) 1 1 false) := by rw [hw5]; exact Go.Deep.blk_alloc_new _ _
  have k6 : w6.heap[w5.heap.size]? = some (tapeObj 2 4 none 0 0 false) := by rw [hw6]; exact Go.Deep.blk_alloc_new _ _
  have hrow := one_row (below_obj b46 k4) x2 (by rw [x2]; exact hc3) (by rw [x2]; exact hn3) ((hr3.old b36).mono fun _ _ => trivial)
  have hd := one_tape (below_obj b56 k5) rfl hrow
  have hb := one_tape (bs := []) k6 rfl (RdB.empty _ _ _)
  rw [s4] at hd
  rw [s5] at hb
  have hmk := make_any (some ⟨w3.heap.size + 1, 0, none⟩) exD 1 (some ⟨w3.heap.size + 1 + 1, 0, none⟩) exB 1 (fun _ => True) 1 w6 (by decide) (by decide) (fun h => by cases h) (fun h => by cases h) (fun t ht => by
    rw [List.mem_singleton.1 ht]
    refine ⟨by show 1 ≤ 1000000; omega, fun s hs => ?_⟩
    have hs' : s ∈ [Ex.b 1] := hs
    rw [List.mem_singleton.1 hs', Ex.b_len (by decide)]; omega) hd hb
  unfold MakeA at hmk
  simp only [if_pos ex_mk] at hmk
  have HMK := Lib.hid hmk
  have HB6 := Lib.hid ((HB1.out.trans (hb3.mono HB1.out.size)).trans (b36.mono (HB1.out.trans (hb3.mono HB1.out.size)).size))
  have HW6 : Hid (w6 = ((w3.alloc (.cells #[.slice A3 n3 C3] 25)).alloc (.cells #[.int .i64 1, .int .i64 4, .slice (some ⟨w3.heap.size, 0, none⟩) 1 1, .bool false] 32)).alloc (.cells #[.int .i64 2, .int .i64 4, .slice none 0 0, .bool false] 32)) := Lib.hid (by rw [hw6, hw5, hw4]; rfl)
  clear hw4 hw5 hw6 s4 s5 b34 b45 b56 b46 b36 k4 k5 k6 hrow hd hb hmk hO3 hb3 hc3 hcm3 hn3 hr3 x2
  go_wp2_with fail
  rw [← HW6.out]
  refine HMK.out.mono ?_
  rintro e w7 ⟨A7, C7, rfl, hC7, hM7, hA7, hr7, hb7⟩
  obtain ⟨b7, off7, A8, C8, rfl, -, -, -, c2, -, -⟩ := hr7.at_ (i := 0) (by decide)
  have hl3 : ((Gr.made exD exB 1)[0]'(by decide)).blocks.length = 3 := by
    have e : (Gr.made exD exB 1)[0]'(by decide) = Gr.madeT exD exB 1 0 exB[0] := rfl
    rw [e, Gr.madeT_len]; rfl
  rw [hl3] at c2
  have HB7 := Lib.hid (HB6.out.trans (hb7.mono HB6.out.size))
  have HF : Hid (∀ y, Below w7.heap.size w7 y → Calls Try.prog 9 #[.slice (some ⟨b7, off7, none⟩) 1 C7] y (FindA (Gr.find (Gr.made exD exB 1)) y)) := Lib.hid fun y hy =>
    find_any (some ⟨b7, off7, none⟩) (Gr.made exD exB 1) C7 _ y (by decide) (made_sizes (by decide)) (hr7.old hy)
  clear hr7 hb7 hl3 hC7 hM7 hA7
  go_wp2_with fail
  refine (HFN.out w7).mono ?_
  rintro e w8 ⟨A9, C9, l9, rfl, hl9, -, -, -, -, -, hb8⟩
  have hl0 : l9 = [] := by cases l9 with
    | nil => rfl
    | cons a l => cases hl9
  subst hl0
  have c2' := (hb8.cell (World.block_lt_of_cell? _ _ c2)).trans c2
  have HB8 := Lib.hid hb8
  clear hl9 hb8 c2
  simp only [List.length_nil]
  go_wp2_with (first
    | (go_at_call 8; refine (num14 _ _).mono ?_; rintro e w' ⟨rfl, hw'⟩; subst hw')
    | (go_at_call 9; refine (HF.out _ HB8.out).mono ?_; intro e w9 hfa; obtain ⟨A10, C10, l10, rfl, -, -, -, -, -, -, -, hb9⟩ := hfa.len; rw [ex_find]; have HB9 := Lib.hid (HB7.out.trans ((HB8.out.trans (hb9.mono HB8.out.size)).mono HB7.out.size)); clear hb9 hfa))
  go_ret
  exact ⟨rfl, HB9.out⟩
end Go.Proofs.Ytbkmpoabdnickaa
