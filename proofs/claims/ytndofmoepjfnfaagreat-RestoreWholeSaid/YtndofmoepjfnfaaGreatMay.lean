/- What the document's own Writer writes. A Writer of the document's own at work. What the document's own PutFrame answers. The document's own Reader in memory. No function of the program. What the document's own Reader reads. -/
import Derived.Test.YtndofmoepjfnfaaGreatMan
import Derived.Test.YtndofmoepjfnfaaGreatChecked
import Derived.OwnWalk
import Derived.Handy
import Derived.WalkSpells
import Derived.WalkLawsBesides
import Derived.StillTailTactics
import Derived.Laws.BitsAllLaws
import Derived.Laws.BitsLemmas
import Derived.Test.YtndofmoepjfnfaaGreatMau
import Derived.Test.YtndofmoepjfnfaaGreatMao
import Derived.Deep.RegionLaw
import Derived.Deep.DeepCutAuto
import Derived.IntWalk
namespace Go.Proofs.YtndofmoepjfnfaaGreat
open Go.RowKit
open Pt (Tx)

theorem lit_rd (w : World) (l : Tx) {c : Array Value} (hc : c = (cellsL l).toArray) : RdL (w.alloc (.cells c 5)) (some ⟨w.heap.size, 0, none⟩) l (· = w.heap.size) := by
  subst hc
  exact RdL.of_cells (Go.Deep.blk_alloc_new _ _) fun j hj => by rw [Nat.zero_add]; simpa using cellsL_get hj
theorem Turned.refl (g base : Nat) (w : World) : Turned g base w w := Kp.refl _ w
theorem vbyte_any (g base : Nat) (v : Value) (l : Tx) (c : UInt8) (w : World) (h : Rw w g base v l) (hbase : base ≤ w.heap.size) (hl : l.length ≤ 999999990) :
    Calls Tryz.prog 37 #[.pointer (some ⟨g, 0, none⟩), .int .u8 (c.toNat : Int)] w (RefWrote g base (l ++ [c]) w) := by
  have hlt := h.lt
  obtain ⟨A, C, hv, -, -, -, -⟩ := h.2.rd
  have c0 : w.cell? ⟨g, 0, none⟩ = some v := heap_cell h.1
  have f0 : w.frozen? ⟨g, 0, none⟩ = false := heap_frozen h.1
  have H := Lib.hid h
  clear h
  subst hv
  go_enter Tryz.func37, Tryz.ntmps37
  go_wp2_with (at_builtin; refine wpList_append_bl _ rfl _ _ rfl base _ l rfl (H.out.2.alloc _) (some ⟨w.heap.size, 0, none⟩) 1 1 [c] (· = w.heap.size) rfl rfl (fun h => by cases h) (lit_rd w [c] rfl) (by omega) (by simp; omega) ?_; intro v' w' hv hg; obtain ⟨hA, hB, hC⟩ := H.out.stored ((Turned.refl g base w).alloc _) (Below.heap_alloc _ _ _ hlt) (H.out.2.alloc _) hg hv; obtain ⟨A', C', rfl, -, -, -, -⟩ := hv.rd; have d0 : w'.cell? ⟨g, 0, none⟩ = some (.slice A l.length C) := heap_cell (hA.trans H.out.1); have d1 : w'.frozen? ⟨g, 0, none⟩ = false := heap_frozen (hA.trans H.out.1); have HB := Lib.hid hB; have HC := Lib.hid hC; clear hA hB hC hv hg)
  go_end0
  have hb := HB.out
  have hc := HC.out
  rw [List.length_append] at hb hc
  exact ⟨rfl, ⟨_, hb⟩, hc⟩
theorem mask_u64 (y : Int) (h0 : 0 ≤ y) (h1 : y < 18446744073709551616) : bits BinOp.and IntKind.u64 y 255 = y % 256 := by
  have h : bits BinOp.and IntKind.u64 y (2 ^ 8 - 1) = y % 2 ^ 8 := bits_mask .u64 64 (by decide) (fun m h0 h1 => by rw [IntKind.wrap_u64]; omega) 8 (by decide) y h0 h1
  simpa using h
theorem vint_any (g base : Nat) (v : Value) (l : Tx) (n : Int) (w : World) (h : Rw w g base v l) (hbase : base ≤ w.heap.size) (hl : l.length ≤ 999999990) :
    Calls Tryz.prog 38 #[.pointer (some ⟨g, 0, none⟩), .int .i64 n] w (RefWrote g base (l ++ Cd.be4 n) w) := by
  have hlt := h.lt
  obtain ⟨A, C, hv, -, -, -, -⟩ := h.2.rd
  have c0 : w.cell? ⟨g, 0, none⟩ = some v := heap_cell h.1
  have f0 : w.frozen? ⟨g, 0, none⟩ = false := heap_frozen h.1
  have H := Lib.hid h
  clear h
  subst hv
  have hw := IntKind.wrap_u64 n
  have m0 : bits BinOp.and IntKind.u64 (IntKind.u64.wrap n / 16777216) 255 = n / 16777216 % 256 := by rw [mask_u64 _ (by omega) (by omega), hw]; omega
  have m1 : bits BinOp.and IntKind.u64 (IntKind.u64.wrap n / 65536) 255 = n / 65536 % 256 := by rw [mask_u64 _ (by omega) (by omega), hw]; omega
  have m2 : bits BinOp.and IntKind.u64 (IntKind.u64.wrap n / 256) 255 = n / 256 % 256 := by rw [mask_u64 _ (by omega) (by omega), hw]; omega
  have m3 : bits BinOp.and IntKind.u64 (IntKind.u64.wrap n) 255 = n % 256 := by rw [mask_u64 _ (by omega) (by omega), hw]; omega
  clear hw
  go_enter Tryz.func38, Tryz.ntmps38
  go_wp2_with (at_builtin; refine wpList_append_bl _ rfl _ _ rfl base _ l rfl (H.out.2.alloc _) (some ⟨w.heap.size, 0, none⟩) 4 4 (Cd.be4 n) (· = w.heap.size) rfl rfl (fun h => by cases h) (lit_rd w (Cd.be4 n) (by simp [cellsL, Cd.be4, Cd.b8_nat])) (by omega) (by simp; omega) ?_; intro v' w' hv hg; obtain ⟨hA, hB, hC⟩ := H.out.stored ((Turned.refl g base w).alloc _) (Below.heap_alloc _ _ _ hlt) (H.out.2.alloc _) hg hv; obtain ⟨A', C', rfl, -, -, -, -⟩ := hv.rd; have d0 : w'.cell? ⟨g, 0, none⟩ = some (.slice A l.length C) := heap_cell (hA.trans H.out.1); have d1 : w'.frozen? ⟨g, 0, none⟩ = false := heap_frozen (hA.trans H.out.1); have HB := Lib.hid hB; have HC := Lib.hid hC; clear hA hB hC hv hg)
  go_end0
  have hb := HB.out
  have hc := HC.out
  rw [List.length_append] at hb hc
  exact ⟨rfl, ⟨_, hb⟩, hc⟩
end Go.Proofs.YtndofmoepjfnfaaGreat
namespace Go.Proofs.YtndofmoepjfnfaaGreat
open Go.RowKit
open Pt (Tx)

theorem Turned.other {g base B : Nat} {a b : World} {cs : Array Value} {t : TypeId} (h : Turned g base a b) (hB : B ≠ g) (ht : t ≠ 5) (hu : a.heap[B]? = some (.cells cs t (0, 0))) : b.heap[B]? = some (.cells cs t (0, 0)) := by
  refine (h.block B (heap_lt hu) ?_).trans hu
  rintro (h' | ⟨_, c, h'⟩)
  · exact hB h'
  · rw [hu] at h'
    injection h' with h'
    injection h' with _ e
    exact ht e
/-- a Writer of the document's own at work: what it holds, and what lies beside it -/
structure RefAt (w : World) (gr : Nat) (o : Obj) (l : Tx) (x : World) : Prop where
  rw_ : ∃ v, Rw x gr gr v l
  hd : x.heap[w.heap.size]? = some o
  bel : Below w.heap.size w x
  lo : w.heap.size < gr
theorem RefAt.wrote {w : World} {gr : Nat} {l l' : Tx} {x y : World} {e : Ending} {cs : Array Value} {t : TypeId} (ht : t ≠ 5) (h : RefAt w gr (.cells cs t (0, 0)) l x) (hw : RefWrote gr gr l' x e y) : RefAt w gr (.cells cs t (0, 0)) l' y := by
  obtain ⟨_, h2, h3⟩ := hw
  have := h.lo
  exact ⟨h2, h3.other (by omega) ht h.hd, h.bel.trans (Turned.below h3 h.bel.size (by omega) (by omega)), h.lo⟩
theorem RefAt.base {w : World} {gr : Nat} {o : Obj} {l : Tx} {x : World} (h : RefAt w gr o l x) : gr ≤ x.heap.size := by
  obtain ⟨v, hv⟩ := h.rw_
  exact Nat.le_of_lt hv.lt
theorem RefAt.done {w : World} {gr : Nat} {o : Obj} {l l' : Tx} {x : World} (h : RefAt w gr o l x) (hl : l = l') : ∃ A C, x.cell? ⟨gr, 0, none⟩ = some (.slice A l.length C) ∧ AnsT l' w (.returned (.slice A l.length C)) x := by
  subst hl
  obtain ⟨v, hv⟩ := h.rw_
  obtain ⟨A, C, rfl, g1, g2, g3, g4⟩ := hv.2.rd
  have := h.lo
  exact ⟨A, C, heap_cell hv.1, A, l.length, C, rfl, rfl, g1, g2, g3, g4.mono (fun x hx => by omega), h.bel⟩
theorem vbyte_int (g base : Nat) (v : Value) (l : Tx) (n : Int) (w : World) (h : Rw w g base v l) (hbase : base ≤ w.heap.size) (hl : l.length ≤ 999999990) :
    Calls Tryz.prog 37 #[.pointer (some ⟨g, 0, none⟩), .int .u8 (n % 256)] w (RefWrote g base (l ++ [Cd.b8 n]) w) := by
  rw [← Cd.b8_nat]; exact vbyte_any g base v l (Cd.b8 n) w h hbase hl
end Go.Proofs.YtndofmoepjfnfaaGreat
namespace Go.Proofs.YtndofmoepjfnfaaGreat
open Go.RowKit
open Pt (Tx)

/-- what PutFrame answers: bytes of its own, and an error -/
def PutO (u : Fm.U) (w : World) (e : Ending) (w' : World) : Prop :=
  ∃ A n C, e = .returned (.tuple #[.slice A n C, .int .i64 (Fm.err u)]) ∧ OwnL w' w.heap.size (.slice A n C) (Fm.put u) ∧ Below w.heap.size w w'
theorem PutO.toU {u : Fm.U} {w w' : World} {e : Ending} (h : PutO u w e w') : PutU u w e w' := by
  obtain ⟨A, n, C, h1, h2, h3⟩ := h
  obtain ⟨A', C', e', g1, g2, g3, g4⟩ := h2.rd
  injection e' with x1 x2 x3
  subst x1 x3
  exact ⟨A, n, C, h1, x2, by rw [x2]; exact g1, g2, fun h => by rw [x2]; exact g3 h, g4.mono fun _ h => h.1, h3⟩
theorem refPut_arg (k lb nb : Int) (A : Option Addr) (s : Tx) (m C : Nat) (w : World) (h : ¬ Fm.argOk ⟨k, lb, nb, s⟩) :
    Calls Tryz.prog 14 #[.agg #[.int .i64 k, .int .i64 lb, .int .i64 nb, .slice A m C]] w (PutO ⟨k, lb, nb, s⟩ w) := by
  have HB : Hid (Below w.heap.size w (w.alloc (unitObj k lb nb A m C))) := Lib.hid ((Below.refl _ _).alloc (Nat.le_refl _) _)
  have HP := Lib.hid (Fm.put_no (u := ⟨k, lb, nb, s⟩) fun h' => h h'.1)
  have HE := Lib.hid (Fm.err_arg h)
  have hq : (decide (k < 1) = true) ∨ (decide (k < 1) = false ∧ decide (6 < k) = true) ∨ (decide (k < 1) = false ∧ decide (6 < k) = false ∧ decide (lb < 1) = true) ∨ (decide (k < 1) = false ∧ decide (6 < k) = false ∧ decide (lb < 1) = false ∧ decide (2147483647 < lb) = true)
      ∨ (decide (k < 1) = false ∧ decide (6 < k) = false ∧ decide (lb < 1) = false ∧ decide (2147483647 < lb) = false ∧ decide (nb < 0) = true) ∨ (decide (k < 1) = false ∧ decide (6 < k) = false ∧ decide (lb < 1) = false ∧ decide (2147483647 < lb) = false ∧ decide (nb < 0) = false ∧ decide (2147483647 < nb) = true) := by
    unfold Fm.argOk at h
    simp only at h
    simp only [decide_eq_true_eq, decide_eq_false_iff_not]; omega
  have hz : (k == 6) = true ∨ (k == 6) = false := by cases (k == 6) <;> simp
  clear h
  rcases hq with q1 | ⟨q1, q2⟩ | ⟨q1, q2, q3⟩ | ⟨q1, q2, q3, q4⟩ | ⟨q1, q2, q3, q4, q5⟩ | ⟨q1, q2, q3, q4, q5, q6⟩ <;> rcases hz with z1 | z1
  all_goals
    go_enter Tryz.func14, Tryz.ntmps14
    go_wp2
    go_ret2
    exact ⟨none, 0, 0, by rw [HE.out]; rfl, by rw [HP.out]; exact OwnL.nil _ _, HB.out⟩
theorem ks {k : Int} : (k == 6) = true ∧ Fm.room k = 79 ∨ (k == 6) = false ∧ Fm.room k = 64 := by
  by_cases e : k = 6
  · left; rw [e]; exact ⟨rfl, rfl⟩
  · right; exact ⟨beq_eq_false_iff_ne.2 e, if_neg e⟩
theorem refPut_long (k lb nb : Int) (A : Option Addr) (s : Tx) (m C : Nat) (w : World) (h : Fm.argOk ⟨k, lb, nb, s⟩) (hm : m = s.length) (hl : Fm.room k < m) :
    Calls Tryz.prog 14 #[.agg #[.int .i64 k, .int .i64 lb, .int .i64 nb, .slice A m C]] w (PutO ⟨k, lb, nb, s⟩ w) := by
  have HB : Hid (Below w.heap.size w (w.alloc (unitObj k lb nb A m C))) := Lib.hid ((Below.refl _ _).alloc (Nat.le_refl _) _)
  have HP := Lib.hid (Fm.put_no (u := ⟨k, lb, nb, s⟩) fun h' => by have : s.length ≤ Fm.room k := h'.2; omega)
  have HE := Lib.hid (Fm.err_long h (by show Fm.room k < s.length; omega))
  obtain ⟨h1, h2, h3, h4, h5, h6⟩ := h
  simp only at h1 h2 h3 h4 h5 h6
  have q1 : decide (k < 1) = false := decide_eq_false (by omega)
  have q2 : decide (6 < k) = false := decide_eq_false (by omega)
  have q3 : decide (lb < 1) = false := decide_eq_false (by omega)
  have q4 : decide (2147483647 < lb) = false := decide_eq_false (by omega)
  have q5 : decide (nb < 0) = false := decide_eq_false (by omega)
  have q6 : decide (2147483647 < nb) = false := decide_eq_false (by omega)
  have hk := ks (k := k)
  clear h1 h2 h3 h4 h5 h6 hm
  rcases hk with ⟨z1, hr⟩ | ⟨z1, hr⟩
  all_goals
    rw [hr] at hl
    clear hr
    go_enter Tryz.func14, Tryz.ntmps14
    go_wp2
    go_ret2
    exact ⟨none, 0, 0, by rw [HE.out]; rfl, by rw [HP.out]; exact OwnL.nil _ _, HB.out⟩
theorem Turned.unit {g base B : Nat} {a b : World} {k lb nb : Int} {A : Option Addr} {m C : Nat} (h : Turned g base a b) (hB : B ≠ g) (hu : a.heap[B]? = some (unitObj k lb nb A m C)) : b.heap[B]? = some (unitObj k lb nb A m C) := by
  refine (h.block B (heap_lt hu) ?_).trans hu
  rintro (h' | ⟨_, c, h'⟩)
  · exact hB h'
  · rw [hu] at h'
    injection h' with h'
    injection h' with _ e
    exact absurd e (by decide)
/-- the same, where the count is a number that is reckoned -/
theorem step_append_int {P : Program} {ops : Array Oper} {o : Oper} {a : Act} {w : World} {K : Act → World → Prop} {Q : Exit → Act → World → Prop} {E : Prop} (hg : o.guard = none) (s x : Operand) (t tn : TypeId)
    (ho : o.op = .call { callee := .builtin .append, args := #[s, x], argTypes := #[t, tn] }) (vs v' : Value) (w' : World) (n : Int) (hs : a.eval s = vs) (hx : a.eval x = .int .i64 n) (hr : ∀ ty, (Builtin.append_ #[t, tn] ty #[vs, .int .i64 n]).run P w = .ok v' w')
    (hK : K (a.put o.dst v') w') : if Region.wanted o (yielded ops a.tmps) = true then Oper.wp P o a w K Q else E :=
  step_append_eq hg s x t tn ho vs (.int .i64 n) v' w' hr hs hx hK
theorem low_byte (m : Nat) (hm : m ≤ 79) : bits BinOp.and IntKind.i64 (m : Int) 255 = (m : Int) := by
  show IntKind.i64.wrap ((BitVec.ofInt 64 (m : Int) &&& BitVec.ofInt 64 255).toNat : Int) = _
  rw [BitVec.toNat_and, show (BitVec.ofInt 64 255).toNat = 2 ^ 8 - 1 by decide, Nat.and_two_pow_sub_one_eq_mod, BitVec.ofInt_natCast, BitVec.toNat_ofNat, IntKind.wrap_i64]
  omega
set_option maxRecDepth 100000 in
set_option maxHeartbeats 4000000 in
theorem refPut_good (k lb nb : Int) (A : Option Addr) (s : Tx) (m C : Nat) (G : Nat → Prop) (w : World) (hm : m = s.length) (hA : A = none → m = 0 ∧ C = 0) (hr : RdL w A s G) (hok : Fm.Ok ⟨k, lb, nb, s⟩) :
    Calls Tryz.prog 14 #[.agg #[.int .i64 k, .int .i64 lb, .int .i64 nb, .slice A m C]] w (PutO ⟨k, lb, nb, s⟩ w) := by
  obtain ⟨wa, hwa⟩ : ∃ wa, wa = (w.alloc (unitObj k lb nb A m C)).alloc (.cells #[.slice none 0 0] 98) := ⟨_, rfl⟩
  have HB0 : Hid (Below w.heap.size w wa) := Lib.hid (by rw [hwa]; exact ((Below.refl _ _).alloc (Nat.le_refl _) _).alloc (by simp) _)
  have HU0 : Hid (wa.heap[w.heap.size]? = some (unitObj k lb nb A m C)) := Lib.hid (by
    rw [hwa, Below.heap_alloc _ _ _ (by simp)]; exact Go.Deep.blk_alloc_new _ _)
  have H0 : Hid (Rw wa (w.heap.size + 1) w.heap.size (.slice none 0 0) []) := Lib.hid (by
    refine ⟨?_, OwnL.nil _ _⟩
    have := Go.Deep.blk_alloc_new (w.alloc (unitObj k lb nb A m C)) (.cells #[.slice none 0 0] 98)
    rw [hwa]; simpa using this)
  obtain ⟨a0, a1, a2, a3⟩ := unit4 HU0.out
  have HK := Lib.hid hok
  obtain ⟨⟨h1, h2, h3, h4, h5, h6⟩, h7⟩ := hok
  simp only at h1 h2 h3 h4 h5 h6 h7
  have q1 : decide (k < 1) = false := decide_eq_false (by omega)
  have q2 : decide (6 < k) = false := decide_eq_false (by omega)
  have q3 : decide (lb < 1) = false := decide_eq_false (by omega)
  have q4 : decide (2147483647 < lb) = false := decide_eq_false (by omega)
  have q5 : decide (nb < 0) = false := decide_eq_false (by omega)
  have q6 : decide (2147483647 < nb) = false := decide_eq_false (by omega)
  have hk := ks (k := k)
  have HR := Lib.hid hr
  have HM := Lib.hid hm
  have HA := Lib.hid hA
  have hroom : m ≤ Fm.room k := by omega
  have HW := Lib.hid hwa
  rw [hwa] at a0 a1 a2 a3
  unfold unitObj at a0 a1 a2 a3 HW
  clear h1 h2 h3 h4 h5 h6 h7 hm hA hr hwa
  obtain ⟨R, hR⟩ : ∃ R, R = Fm.room k := ⟨_, rfl⟩
  rw [← hR] at hroom hk
  have HRM := Lib.hid hR
  clear hR
  have hR79 : R ≤ 79 := by rcases hk with ⟨_, h⟩ | ⟨_, h⟩ <;> omega
  have hm79 : m ≤ 79 := by omega
  have q7 : decide (R < m) = false := decide_eq_false (by omega)
  have q8 : decide ((R : Int) < (m : Int)) = false := decide_eq_false (by omega)
  have hsub : (R : Int) - (m : Int) = ((R - m : Nat) : Int) := by omega
  go_enter Tryz.func14, Tryz.ntmps14
  go_upto_if 8 with fail
  go_cut [4] (fun v wx => v = .int .i64 (R : Int) ∧ wx = w.alloc (.cells #[.int .i64 k, .int .i64 lb, .int .i64 nb, .slice A m C] 48))
  case first =>
    rcases hk with ⟨z1, rfl⟩ | ⟨z1, rfl⟩
    all_goals
      go_wp2
      go_meet
      exact ⟨rfl, rfl⟩
  case rest =>
  obtain ⟨rfl, rfl⟩ := hcut
  clear hk
  go_wp2_with fail
  rw [← HW.out]
  refine (vbyte_int _ _ _ [] k wa H0.out HB0.out.size (by simp)).mono ?_
  rintro e w1 ⟨rfl, ⟨v1, hW1⟩, hK1⟩
  have HW1 := Lib.hid hW1
  have HU1 := Lib.hid (hK1.unit (by omega) HU0.out)
  have HB1 := Lib.hid (HB0.out.trans (hK1.below HB0.out.size (by omega) (Nat.le_refl _)))
  obtain ⟨b0, b1, b2, b3⟩ := unit4 HU1.out
  clear hW1 hK1 a0 a1 a2 a3
  go_wp2_with fail
  refine (vint_any _ _ _ _ lb w1 HW1.out HB1.out.size (by simp)).mono ?_
  rintro e w2 ⟨rfl, ⟨v2, hW2⟩, hK2⟩
  have HW2 := Lib.hid hW2
  have HU2 := Lib.hid (hK2.unit (by omega) HU1.out)
  have HB2 := Lib.hid (HB1.out.trans (hK2.below HB1.out.size (by omega) (Nat.le_refl _)))
  obtain ⟨c0, c1, c2, c3⟩ := unit4 HU2.out
  clear hW2 hK2 b0 b1 b2 b3
  go_wp2_with fail
  refine (vint_any _ _ _ _ nb w2 HW2.out HB2.out.size (by simp [Cd.be4_len])).mono ?_
  rintro e w3 ⟨rfl, ⟨v3, hW3⟩, hK3⟩
  have HW3 := Lib.hid hW3
  have HU3 := Lib.hid (hK3.unit (by omega) HU2.out)
  have HB3 := Lib.hid (HB2.out.trans (hK3.below HB2.out.size (by omega) (Nat.le_refl _)))
  obtain ⟨d0, d1, d2, d3⟩ := unit4 HU3.out
  clear hW3 hK3 c0 c1 c2 c3
  go_wp2_with fail
  obtain ⟨l3, hl3⟩ : ∃ l3, l3 = [] ++ [Cd.b8 k] ++ Cd.be4 lb ++ Cd.be4 nb := ⟨_, rfl⟩
  rw [← hl3] at HW3
  have hn3 : l3.length = 9 := by rw [hl3]; simp [Cd.be4_len]
  have HL3 := Lib.hid hl3
  obtain ⟨A3, C3, hv3, -, -, -, -⟩ := HW3.out.2.rd
  rw [hn3] at hv3
  subst hv3
  have HN3 := Lib.hid hn3
  clear hl3 hn3
  have x0 : w3.cell? ⟨w.heap.size + 1, 0, none⟩ = some (.slice A3 9 C3) := heap_cell HW3.out.1
  have x1 : w3.frozen? ⟨w.heap.size + 1, 0, none⟩ = false := heap_frozen HW3.out.1
  have hlow := low_byte m hm79
  obtain ⟨wl, hwl⟩ : ∃ wl, wl = (w3.alloc (.cells #[.int .u8 (IntKind.u8.wrap ((m : Int) / 256)), .int .u8 (IntKind.u8.wrap (m : Int))] 5)).drew := ⟨_, rfl⟩
  have hbl : Below w3.heap.size w3 wl := by rw [hwl]; exact ((Below.refl _ _).alloc (Nat.le_refl _) _).drew
  have hol : OwnL wl w.heap.size (.slice A3 9 C3) l3 := HW3.out.2.of_block fun x hx => hbl.block x (HW3.out.2.lt x hx)
  have hll : RdL wl (some ⟨w3.heap.size, 0, none⟩) [Cd.b8 ((m : Int) / 256), Cd.b8 (m : Int)] (· = w3.heap.size) := by
    rw [hwl]
    refine rd_of_cells (l := [Cd.b8 ((m : Int) / 256), Cd.b8 (m : Int)]) (fr := (0, 0)) ?_
    have h1 := IntKind.wrap_u8 ((m : Int) / 256)
    have h2 := IntKind.wrap_u8 (m : Int)
    rw [h1, h2]
    refine (Go.Deep.blk_alloc_new w3 _).trans ?_
    simp [cellsL, Cd.b8_nat]
  obtain ⟨A4, C4, w4, hr4, hO4, hG4⟩ := ap_run wl w.heap.size _ _ hol (some ⟨w3.heap.size, 0, none⟩) 2 2 _ _ rfl (fun h => by cases h) hll (by rw [HN3.out]; decide) (Nat.le_trans HB3.out.size hbl.size) 11 (by rw [HN3.out])
  obtain ⟨hx4, hR4, hT4⟩ := HW3.out.stored ((Turned.refl _ _ w3).trans (Kp.of_below hbl)) (hbl.block _ HW3.out.lt) hol hG4 hO4
  have x4 : w4.cell? ⟨w.heap.size + 1, 0, none⟩ = some (.slice A3 9 C3) := heap_cell (hx4.trans HW3.out.1)
  have y4 : w4.frozen? ⟨w.heap.size + 1, 0, none⟩ = false := heap_frozen (hx4.trans HW3.out.1)
  have HR4 := Lib.hid hR4
  have HT4 := Lib.hid hT4
  have hbl' := hbl
  clear hbl hol hll hO4 hG4 hx4 hR4 hT4
  have x0w : wl.cell? ⟨w.heap.size + 1, 0, none⟩ = some (.slice A3 9 C3) := (Below.cell hbl' (p := ⟨w.heap.size + 1, 0, none⟩) HW3.out.lt).trans x0
  rw [hwl] at hr4 x0w
  clear hwl hbl'
  go_cut [] (fun wx => ∃ (A4 : Option Addr) (C4 : Nat), Hid (Rw wx (w.heap.size + 1) w.heap.size (.slice A4 11 C4) (l3 ++ [Cd.b8 ((m : Int) / 256), Cd.b8 (m : Int)])) ∧ Hid (Turned (w.heap.size + 1) w.heap.size w3 wx))
  case first =>
    go_region_law (first
      | (refine step_append_eq (by rfl) _ _ _ _ (by rfl) _ _ _ _ hr4 (by rfl) (by rfl) ?_))
    all_goals
      go_wp2
      go_meet
      exact ⟨A4, C4, HR4, HT4⟩
  case rest =>
    obtain ⟨A5, C5, HR5, HT5⟩ := hcut
    obtain ⟨w5, rfl⟩ : ∃ x, x = wc := ⟨wc, rfl⟩
    rename_i wx
    obtain ⟨l5, hl5⟩ : ∃ l5, l5 = l3 ++ [Cd.b8 ((m : Int) / 256), Cd.b8 (m : Int)] := ⟨_, rfl⟩
    rw [← hl5] at HR5
    have hn5 : l5.length = 11 := by rw [hl5, List.length_append, HN3.out]; rfl
    have HL5 := Lib.hid hl5
    have HN5 := Lib.hid hn5
    have HU5 := Lib.hid (HT5.out.unit (by omega) HU3.out)
    have HB5 := Lib.hid (HB3.out.trans (HT5.out.below HB3.out.size (by omega) (Nat.le_refl _)))
    clear hl5 hn5 hr4 x0w x4 y4 x0 x1 d0 d1 d2 d3 HT5 HR4 HT4
    go_wp2_with fail
    obtain ⟨u0, u1, u2, u3⟩ := unit4 HU5.out
    have x0 : w5.cell? ⟨w.heap.size + 1, 0, none⟩ = some (.slice A5 11 C5) := heap_cell HR5.out.1
    have hbl : Below w5.heap.size w5 w5.drew := (Below.refl _ _).drew
    have hol : OwnL w5.drew w.heap.size (.slice A5 11 C5) l5 := HR5.out.2.of_block fun x hx => rfl
    have hll : RdL w5.drew A s (· < w.heap.size) := (HR.out.in_.old HB5.out.drew).mono fun _ h => h.2
    obtain ⟨A6, C6, w6, hr6, hO6, hG6⟩ := ap_run w5.drew w.heap.size _ _ hol A m C _ _ HM.out.symm HA.out hll (by rw [HN5.out]; omega) HB5.out.drew.size (11 + m) (by rw [HN5.out])
    obtain ⟨hx6, hR6, hT6⟩ := HR5.out.stored ((Turned.refl _ _ w5).trans (Kp.of_below hbl)) (hbl.block _ HR5.out.lt) hol hG6 hO6
    have x6 : w6.cell? ⟨w.heap.size + 1, 0, none⟩ = some (.slice A5 11 C5) := heap_cell (hx6.trans HR5.out.1)
    have y6 : w6.frozen? ⟨w.heap.size + 1, 0, none⟩ = false := heap_frozen (hx6.trans HR5.out.1)
    have HR6 := Lib.hid hR6
    have HT6 := Lib.hid hT6
    clear hbl hol hll hO6 hG6 hx6 hR6 hT6
    go_cut [] (fun wx => ∃ (A7 : Option Addr) (C7 : Nat), Hid (Rw wx (w.heap.size + 1) w.heap.size (.slice A7 (11 + m) C7) (l5 ++ s)) ∧ Hid (Turned (w.heap.size + 1) w.heap.size w5 wx))
    case first =>
      go_region_law (first
        | (refine step_append_eq (by rfl) _ _ _ _ (by rfl) _ _ _ _ hr6 (by rfl) (by rfl) ?_))
      all_goals
        go_wp2
        go_meet
        exact ⟨A6, C6, HR6, HT6⟩
    case rest =>
    obtain ⟨A7, C7, HR7, HT7⟩ := hcut
    obtain ⟨w7, rfl⟩ : ∃ x, x = wc := ⟨wc, rfl⟩
    obtain ⟨l7, hl7⟩ : ∃ l7, l7 = l5 ++ s := ⟨_, rfl⟩
    rw [← hl7] at HR7
    have hn7 : l7.length = 11 + m := by rw [hl7, List.length_append, HN5.out, ← HM.out]
    have HL7 := Lib.hid hl7
    have HN7 := Lib.hid hn7
    have HU7 := Lib.hid (HT7.out.unit (by omega) HU5.out)
    have HB7 := Lib.hid (HB5.out.trans (HT7.out.below HB5.out.size (by omega) (Nat.le_refl _)))
    clear hl7 hn7 hr6 x6 y6 x0 u0 u1 u2 u3 HT7 HR6 HT6
    go_wp2_with fail
    obtain ⟨u0, u1, u2, u3⟩ := unit4 HU7.out
    have x0 : w7.cell? ⟨w.heap.size + 1, 0, none⟩ = some (.slice A7 (11 + m) C7) := heap_cell HR7.out.1
    have hbl : Below w7.heap.size w7 w7.drew := (Below.refl _ _).drew
    have hol : OwnL w7.drew w.heap.size (.slice A7 (11 + m) C7) l7 := HR7.out.2.of_block fun x hx => rfl
    obtain ⟨A8, C8, w8, hr8, hO8, hG8⟩ := apz_run w7.drew w.heap.size _ _ hol (by rw [HN7.out]; omega) (R - m) (by rw [HN7.out]; omega) HB7.out.drew.size ((R - m : Nat) : Int) rfl (11 + R) (by rw [HN7.out]; omega)
    obtain ⟨hx8, hR8, hT8⟩ := HR7.out.stored ((Turned.refl _ _ w7).trans (Kp.of_below hbl)) (hbl.block _ HR7.out.lt) hol hG8 hO8
    have hr9 : ∀ n : Int, n = ((R - m : Nat) : Int) → ∀ ty, (Builtin.append_ #[22, 3] ty #[.slice A7 (11 + m) C7, .int .i64 n]).run Tryz.prog w7.drew = .ok (.slice A8 (11 + R) C8) w8 := fun n hn ty => by rw [hn]; exact hr8 ty
    have x8 : w8.cell? ⟨w.heap.size + 1, 0, none⟩ = some (.slice A7 (11 + m) C7) := heap_cell (hx8.trans HR7.out.1)
    have y8 : w8.frozen? ⟨w.heap.size + 1, 0, none⟩ = false := heap_frozen (hx8.trans HR7.out.1)
    have HR8 := Lib.hid hR8
    have HT8 := Lib.hid hT8
    clear hbl hol hO8 hG8 hx8 hR8 hT8
    go_cut [] (fun wx => ∃ (A9 : Option Addr) (C9 : Nat), Hid (Rw wx (w.heap.size + 1) w.heap.size (.slice A9 (11 + R) C9) (l7 ++ List.replicate (R - m) 0)) ∧ Hid (Turned (w.heap.size + 1) w.heap.size w7 wx))
    case first =>
      go_region_law (first
        | (refine step_append_int (by rfl) _ _ _ _ (by rfl) _ _ _ _ (by rfl) (by rfl) (by exact hr9 _ (IntWalk.i64_in _ (by omega))) ?_))
      all_goals
        go_wp2
        go_meet
        exact ⟨A8, C8, HR8, HT8⟩
    case rest =>
    obtain ⟨A9, C9, HR9, HT9⟩ := hcut
    obtain ⟨w9, rfl⟩ : ∃ x, x = wc := ⟨wc, rfl⟩
    have hbody : l7 ++ List.replicate (R - m) 0 = Fm.body ⟨k, lb, nb, s⟩ := by
      rw [HL7.out, HL5.out, HL3.out]
      unfold Fm.body Fm.head Fm.pad
      simp only [← HM.out, ← HRM.out, List.append_assoc, List.nil_append, List.cons_append]
    rw [hbody] at HR9
    have hl9 : (Fm.body ⟨k, lb, nb, s⟩).length = 11 + R := by rw [Fm.body_len HK.out, HRM.out]
    have HL9 := Lib.hid hl9
    have HB9 := Lib.hid (HB7.out.trans (HT9.out.below HB7.out.size (by omega) (Nat.le_refl _)))
    clear hbody hl9 hr8 hr9 x8 y8 x0 u0 u1 u2 u3 HT9 HR8 HT8
    have x0 : w9.cell? ⟨w.heap.size + 1, 0, none⟩ = some (.slice A9 (11 + R) C9) := heap_cell HR9.out.1
    have HS9 := Lib.hid (RdL.mono (by obtain ⟨A', C', e, _, _, _, h⟩ := HR9.out.2.rd; injection e with e1 e2 e3; subst e1; exact h) (fun _ _ => trivial) : RdL w9 A9 (Fm.body ⟨k, lb, nb, s⟩) (fun _ => True))
    have s0 := sumL_lo (Fm.body ⟨k, lb, nb, s⟩)
    have s1 := sumL_hi (Fm.body ⟨k, lb, nb, s⟩)
    go_wp2_with fail
    refine (refSumL_any A9 (Fm.body ⟨k, lb, nb, s⟩) (11 + R) C9 _ _ HL9.out.symm (by rw [HL9.out]; unfold maxLen; omega) HS9.out).mono ?_
    rintro e w10 ⟨rfl, hw10⟩
    subst hw10
    generalize hS : sumL (Fm.body ⟨k, lb, nb, s⟩) = S at s0 s1 ⊢
    have HS := Lib.hid hS
    clear hS
    go_wp2_with fail
    refine (vint_any _ _ _ _ S w9 HR9.out HB9.out.size (by rw [HL9.out]; omega)).mono ?_
    rintro e w11 ⟨rfl, ⟨v11, hW11⟩, hK11⟩
    have HW11 := Lib.hid hW11
    have HB11 := Lib.hid (HB9.out.trans (hK11.below HB9.out.size (by omega) (Nat.le_refl _)))
    clear hW11 hK11 x0
    have x0 : w11.cell? ⟨w.heap.size + 1, 0, none⟩ = some v11 := heap_cell HW11.out.1
    have hlen : (Fm.body ⟨k, lb, nb, s⟩ ++ Cd.be4 S).length = 15 + R := by rw [List.length_append, HL9.out, Cd.be4_len]; omega
    obtain ⟨A8, C8, e8, -, -, -, -⟩ := HW11.out.2.rd
    rw [hlen] at e8
    subst e8
    have HO := Lib.hid HW11.out.2
    clear hlen
    go_wp2
    go_ret2
    have hput : Fm.put ⟨k, lb, nb, s⟩ = Fm.body ⟨k, lb, nb, s⟩ ++ Cd.be4 S := by rw [← HS.out]; exact Fm.put_ok HK.out
    refine ⟨A8, 15 + R, C8, by rw [Fm.err_ok HK.out]; rfl, ?_, HB11.out⟩
    rw [hput]
    exact HO.out
theorem refPut_own (k lb nb : Int) (A : Option Addr) (s : Tx) (m C : Nat) (G : Nat → Prop) (w : World) (hm : m = s.length) (hA : A = none → m = 0 ∧ C = 0) (hr : RdL w A s G) :
    Calls Tryz.prog 14 #[.agg #[.int .i64 k, .int .i64 lb, .int .i64 nb, .slice A m C]] w (PutO ⟨k, lb, nb, s⟩ w) := by
  by_cases ha : Fm.argOk ⟨k, lb, nb, s⟩
  · by_cases hl : Fm.room k < m
    · exact refPut_long k lb nb A s m C w ha hm hl
    · exact refPut_good k lb nb A s m C G w hm hA hr ⟨ha, by show s.length ≤ Fm.room k; omega⟩
  · exact refPut_arg k lb nb A s m C w ha
theorem refPut_any (k lb nb : Int) (A : Option Addr) (s : Tx) (m C : Nat) (G : Nat → Prop) (w : World) (hm : m = s.length) (hA : A = none → m = 0 ∧ C = 0) (hr : RdL w A s G) :
    Calls Tryz.prog 14 #[.agg #[.int .i64 k, .int .i64 lb, .int .i64 nb, .slice A m C]] w (PutU ⟨k, lb, nb, s⟩ w) :=
  (refPut_own k lb nb A s m C G w hm hA hr).mono fun _ _ h => h.toU
end Go.Proofs.YtndofmoepjfnfaaGreat
namespace Go.Proofs.YtndofmoepjfnfaaGreat
open Go.RowKit
open Pt (Tx)

/-- the document's own Reader -/
structure Rf (w : World) (g : Nat) (s : Cd.St) (G : Nat → Prop) : Prop where
  ex : ∃ A m c, w.heap[g]? = some (.cells #[.slice A m c, .bool s.2] 119 (0, 0)) ∧ m ≤ c ∧ m ≤ maxLen ∧ (A = none → m = 0 ∧ c = 0) ∧ (s.2 = false → m = s.1.length ∧ RdL w A s.1 G)
  ok : Cd.Ok s
  ng : ¬ G g
theorem Rf.lt {w : World} {g : Nat} {s : Cd.St} {G : Nat → Prop} (h : Rf w g s G) : g < w.heap.size := by
  obtain ⟨A, m, c, h1, _⟩ := h.ex; exact heap_lt h1
theorem Rf.kp {w w' : World} {g : Nat} {s : Cd.St} {G S : Nat → Prop} (h : Rf w g s G) (hk : Kp S w w') (hg : ¬ S g) (hs : ∀ b, G b → ¬ S b) : Rf w' g s G := by
  obtain ⟨⟨A, m, c, h1, h2, h0, h3, h5⟩, ho, hn⟩ := h
  exact ⟨⟨A, m, c, (hk.block g (heap_lt h1) hg).trans h1, h2, h0, h3, fun h => ⟨(h5 h).1, (h5 h).2.kp hk hs⟩⟩, ho, hn⟩
/-- .. what is read of it -/
def RefRed (v : Value) (g : Nat) (s : Cd.St) (G : Nat → Prop) (w : World) (e : Ending) (w' : World) : Prop := e = .returned v ∧ Rf w' g s G ∧ Kp (· = g) w w'
end Go.Proofs.YtndofmoepjfnfaaGreat
namespace Go.Proofs.YtndofmoepjfnfaaGreat
open Go.RowKit
open Pt (Tx)

/-- a new Reader of the document's own: of these very bytes -/
def NewF (l : Tx) (G : Nat → Prop) (w : World) (e : Ending) (w' : World) : Prop := e = .returned (.pointer (some ⟨w.heap.size, 0, none⟩)) ∧ Rf w' w.heap.size (l, false) G ∧ Below w.heap.size w w'
theorem refNewReader_any (A : Option Addr) (l : Tx) (c : Nat) (G : Nat → Prop) (w : World) (hA : A = none → l.length = 0 ∧ c = 0) (hc : l.length ≤ c) (hc' : l.length ≤ maxLen) (hr : RdL w A l G) (hg : ¬ G w.heap.size) :
    Calls Tryz.prog 27 #[.slice A l.length c] w (NewF l G w) := by
  have HA := Lib.hid hA
  clear hA
  go_enter Tryz.func27, Tryz.ntmps27
  go_wp2
  go_ret
  exact ⟨rfl, ⟨⟨A, l.length, c, Go.Deep.blk_alloc_new _ _, hc, hc', HA.out, fun _ => ⟨rfl, hr.old ((Below.refl _ _).alloc (Nat.le_refl _) _)⟩⟩, (fun h => by cases h), hg⟩, (Below.refl _ _).alloc (Nat.le_refl _) _⟩
theorem Rf.set {w : World} {g : Nat} {v : Value} {G : Nat → Prop} (h1 : w.heap[g]? = some (.cells #[v, .bool false] 119 (0, 0))) {A : Option Addr} {c m : Nat} {l : Tx} (hm : m = l.length) (hl : l.length ≤ c) (hc : l.length ≤ maxLen) (hA : A = none → l.length = 0 ∧ c = 0) (hr : RdL w A l G) (ng : ¬ G g) :
    Rf (w.setCell ⟨g, 0, none⟩ (.slice A m c)) g (l, false) G := by
  subst hm
  refine ⟨⟨A, l.length, c, ?_, hl, hc, hA, fun _ => ⟨rfl, hr.kp (Kp.store w g 0 _) (fun b hb e => ng (e ▸ hb))⟩⟩, (fun h => by cases h), ng⟩
  rw [heap_set h1]; simp
def RefTook (n g : Nat) (s : Cd.St) (G : Nat → Prop) (w : World) (e : Ending) (w' : World) : Prop := ∃ A c, e = .returned (.slice A (Cd.tk n s).length c) ∧ RdL w' A (Cd.tk n s) G ∧ Rf w' g (Cd.af n s) G ∧ Kp (· = g) w w'
/-- the same, and that what is nil has no room -/
def RefTookN (n g : Nat) (s : Cd.St) (G : Nat → Prop) (w : World) (e : Ending) (w' : World) : Prop := ∃ A c, e = .returned (.slice A (Cd.tk n s).length c) ∧ RdL w' A (Cd.tk n s) G ∧ Rf w' g (Cd.af n s) G ∧ Kp (· = g) w w' ∧ (A = none → (Cd.tk n s).length = 0 ∧ c = 0)
/-- nothing is left -/
theorem RefTookN.lost {n g : Nat} {s : Cd.St} {G : Nat → Prop} {w : World} {v : Value} {bad : Bool} (h1 : w.heap[g]? = some (.cells #[v, .bool bad] 119 (0, 0))) {A : Option Addr} {m c : Nat} (hv : v = .slice A m c) (hm : m ≤ c) (hc : m ≤ maxLen) (hA : A = none → m = 0 ∧ c = 0) (ng : ¬ G g) (ht : Cd.tk n s = []) (ha : Cd.af n s = ([], true)) :
    RefTookN n g s G w (.returned (.slice none 0 0)) (w.setCell ⟨g, 1, none⟩ (.bool true)) := by
  subst hv
  refine ⟨none, 0, by rw [ht]; rfl, by rw [ht]; exact RdL.empty _ _ _, ?_, Kp.store w g 1 _, fun _ => ⟨by rw [ht]; rfl, rfl⟩⟩
  rw [ha]
  refine ⟨⟨A, m, c, ?_, hm, hc, hA, (fun h => by cases h)⟩, fun _ => rfl, ng⟩
  rw [heap_set h1]; simp
set_option maxRecDepth 100000 in
theorem refTakeN_any (g n : Nat) (s : Cd.St) (G : Nat → Prop) (w : World) (h : Rf w g s G) (hn : n ≤ 1000) :
    Calls Tryz.prog 32 #[.pointer (some ⟨g, 0, none⟩), .int .i64 (n : Int)] w (RefTookN n g s G w) := by
  obtain ⟨⟨A, m, c, h1, h2, h5, h3, h4⟩, hok, ng⟩ := h
  obtain ⟨l, bad⟩ := s
  simp only at h1 h4
  have h5' := h5
  unfold maxLen at h5'
  have c0 : w.cell? ⟨g, 0, none⟩ = some (.slice A m c) := heap_cell h1
  have c1 : w.cell? ⟨g, 1, none⟩ = some (.bool bad) := heap_cell h1
  have f0 : w.frozen? ⟨g, 0, none⟩ = false := heap_frozen h1
  have f1 : w.frozen? ⟨g, 1, none⟩ = false := heap_frozen h1
  have H1 := Lib.hid h1
  have H3 := Lib.hid h3
  have H4 := Lib.hid h4
  have H5 := Lib.hid h5
  clear h1 h3 h4 h5
  cases bad with
  | true =>
    have hl0 : l = [] := hok rfl
    have ht : Cd.tk n (l, true) = [] := by rw [hl0]; unfold Cd.tk; split <;> simp
    have ha : Cd.af n (l, true) = ([], true) := by rw [hl0]; unfold Cd.af; split <;> simp
    have HT := Lib.hid ht
    have HA := Lib.hid ha
    clear hl0 ht ha
    go_enter Tryz.func32, Tryz.ntmps32
    go_wp2
    go_ret
    exact RefTookN.lost H1.out rfl h2 H5.out H3.out ng HT.out HA.out
  | false =>
    obtain ⟨rfl, h4⟩ := H4.out rfl
    have H4' := Lib.hid h4
    clear h4
    by_cases hlt : l.length < n
    · have q1 : decide (l.length < n) = true := decide_eq_true hlt
      go_enter Tryz.func32, Tryz.ntmps32
      go_wp2
      go_ret
      exact RefTookN.lost H1.out rfl h2 H5.out H3.out ng (Cd.tk_no hlt) (Cd.af_no hlt)
    · have q0 : decide (l.length < n) = false := decide_eq_false hlt
      by_cases h0 : n = 0
      · subst h0
        have q2 : decide ((l.length : Int) < 0) = false := decide_eq_false (by omega)
        go_enter Tryz.func32, Tryz.ntmps32
        go_wp2
        go_ret
        have ht : Cd.tk 0 (l, false) = [] := by rw [Cd.tk_yes hlt]; rfl
        have ha : Cd.af 0 (l, false) = (l, false) := by rw [Cd.af_yes hlt]; rfl
        refine ⟨A, c, by rw [ht]; rfl, by rw [ht]; exact RdL.empty _ _ _, ?_, Kp.store w g 0 _, fun h => ⟨by rw [ht]; rfl, (H3.out h).2⟩⟩
        rw [ha]
        exact Rf.set H1.out rfl h2 H5.out H3.out H4'.out ng
      · obtain ⟨b, off, rfl, hb, -⟩ := H4'.out (by omega)
        have hmin : (l.take n).length = n := by simp; omega
        have ht : Cd.tk n (l, false) = l.take n := Cd.tk_yes hlt
        have ha : Cd.af n (l, false) = (l.drop n, false) := Cd.af_yes hlt
        have HT := Lib.hid ht
        have HA := Lib.hid ha
        have HM := Lib.hid hmin
        clear ht ha hmin
        by_cases hc : c = n
        · subst hc
          have hll : c = l.length := by omega
          have HLL := Lib.hid hll
          clear hll
          have q1 : (c : Int) ≤ (l.length : Int) := by omega
          go_enter Tryz.func32, Tryz.ntmps32
          go_wp2
          go_ret
          have hd : (l.drop c).length = 0 := by have := HLL.out; simp; omega
          refine ⟨some ⟨b, off, none⟩, c, by rw [HT.out, HM.out]; rfl, by rw [HT.out]; exact (H4'.out.take _).kp (Kp.store w g 0 _) (fun x hx e => ng (e ▸ hx)), ?_, Kp.store w g 0 _, fun h => by cases h⟩
          rw [HA.out]
          exact Rf.set H1.out hd.symm (by omega) (by rw [hd]; decide) (fun h => by cases h) (fun h => by omega) ng
        · have q1 : n ≤ l.length := by omega
          have q2 : n ≤ c := by omega
          have q3 : ¬ n = c := fun h => hc h.symm
          go_enter Tryz.func32, Tryz.ntmps32
          go_wp2
          go_ret
          refine ⟨some ⟨b, off, none⟩, c, by rw [HT.out, HM.out]; rfl, by rw [HT.out]; exact (H4'.out.take _).kp (Kp.store w g 0 _) (fun x hx e => ng (e ▸ hx)), ?_, Kp.store w g 0 _, fun h => by cases h⟩
          rw [HA.out]
          exact Rf.set H1.out (by simp) (by simp; omega) (by rw [List.length_drop]; exact Nat.le_trans (Nat.sub_le _ _) H5.out) (fun h => by cases h) (H4'.out.drop n) ng
theorem refTake_any (g n : Nat) (s : Cd.St) (G : Nat → Prop) (w : World) (h : Rf w g s G) (hn : n ≤ 1000) :
    Calls Tryz.prog 32 #[.pointer (some ⟨g, 0, none⟩), .int .i64 (n : Int)] w (RefTook n g s G w) :=
  (refTakeN_any g n s G w h hn).mono fun _ _ ⟨A, c, h1, h2, h3, h4, _⟩ => ⟨A, c, h1, h2, h3, h4⟩
set_option maxRecDepth 100000 in
theorem refInt_any (g : Nat) (s : Cd.St) (G : Nat → Prop) (w : World) (h : Rf w g s G) :
    Calls Tryz.prog 29 #[.pointer (some ⟨g, 0, none⟩)] w (RefRed (.int .i64 (Cd.num (Cd.tk 4 s))) g (Cd.af 4 s) G w) := by
  go_enter Tryz.func29, Tryz.ntmps29
  go_wp2_with (go_at_call 32; refine (refTake_any g 4 s G w h (by decide)).mono ?_; rintro e w1 ⟨A, c, rfl, hr, hR, hK⟩; have HR := Lib.hid hr; have HRR := Lib.hid hR; have HK := Lib.hid hK; clear hr hR hK)
  obtain ⟨t, ht⟩ : ∃ t, t = Cd.tk 4 s := ⟨_, rfl⟩
  have h4 : t.length ≤ 4 := by rw [ht]; exact Cd.tk_le 4 s
  rw [← ht] at HR ⊢
  have HT := Lib.hid ht
  clear ht
  go_loop [4, 5] (fun vn vi => ∃ k : Nat, k ≤ t.length ∧ vi = .int .i64 (k : Int) ∧ vn = .int .i64 (Cd.num (t.take k))) (fun _ vi => t.length - (intOf vi).toNat)
  case atStart => exact ⟨0, Nat.zero_le _, rfl, rfl⟩
  case round =>
    obtain ⟨k, hk, rfl, rfl⟩ := hrel
    by_cases hlt : k < t.length
    · obtain ⟨b, off, rfl, -, hc⟩ := HR.out.at_ hlt
      have hs := num_small t k h4
      obtain ⟨a, ha⟩ : ∃ a : Nat, Cd.num (t.take k) = (a : Int) := ⟨(Cd.num (t.take k)).toNat, by omega⟩
      have HN := Lib.hid (take_num t k hlt)
      rw [ha] at HN hs ⊢
      clear ha
      have ha' : a < 1099511627776 := by omega
      have hcl := t[k].toNat_lt
      have hor := or_byte a t[k].toNat ha' hcl
      clear ha'
      go_wp2
      go_round
      case rel => exact ⟨k + 1, by omega, by go_num, by rw [HN.out]⟩
      case measure => simp [intOf]; omega
    · go_wp2
      go_ret
      have e : t.take k = t := List.take_of_length_le (by omega)
      refine ⟨?_, HRR.out, HK.out⟩
      rw [← HT.out, e]; rfl
set_option maxRecDepth 100000 in
theorem refByte_any (g : Nat) (s : Cd.St) (G : Nat → Prop) (w : World) (h : Rf w g s G) :
    Calls Tryz.prog 28 #[.pointer (some ⟨g, 0, none⟩)] w (RefRed (.int .u8 ((Cd.byt s).toNat : Int)) g (Cd.af 1 s) G w) := by
  obtain ⟨t, ht⟩ : ∃ t, t = Cd.tk 1 s := ⟨_, rfl⟩
  have h1 : t.length ≤ 1 := by rw [ht]; exact Cd.tk_le 1 s
  have htake := refTake_any g 1 s G w h (by decide)
  unfold RefTook at htake
  rw [← ht] at htake
  have HT := Lib.hid ht
  clear ht
  by_cases h0 : t.length = 0
  · have q1 : ((t.length : Int) == 0) = true := by rw [h0]; rfl
    have HB := Lib.hid (byt_of HT.out h0)
    clear h0
    go_enter Tryz.func28, Tryz.ntmps28
    go_wp2_with (go_at_call 32; refine htake.mono ?_; rintro e w1 ⟨A, c, rfl, hr, hR, hK⟩; have HR := Lib.hid hr; have HRR := Lib.hid hR; have HK := Lib.hid hK; clear hr hR hK)
    go_ret
    refine ⟨?_, HRR.out, HK.out⟩
    rw [HB.out]; rfl
  · have q1 : ((t.length : Int) == 0) = false := beq_eq_false_iff_ne.2 (by omega)
    have hp : 0 < t.length := by omega
    have HB := Lib.hid (byt_at HT.out hp)
    have h0' : ¬ t.length = 0 := h0
    clear h0
    go_enter Tryz.func28, Tryz.ntmps28
    go_wp2_with (go_at_call 32; refine htake.mono ?_; rintro e w1 ⟨A, c, rfl, hr, hR, hK⟩; obtain ⟨b, off, rfl, -, hc⟩ := hr.at_ hp; rw [Nat.add_zero] at hc; have HRR := Lib.hid hR; have HK := Lib.hid hK; clear hr hR hK)
    go_ret
    refine ⟨?_, HRR.out, HK.out⟩
    rw [HB.out]; rfl
theorem refLeft_any (g : Nat) (s : Cd.St) (G : Nat → Prop) (w : World) (h : Rf w g s G) :
    Calls Tryz.prog 31 #[.pointer (some ⟨g, 0, none⟩)] w fun e w' => e = .returned (.int .i64 (s.1.length : Int)) ∧ w = w' := by
  obtain ⟨⟨A, m, c, h1, -, -, -, h4⟩, hok, ng⟩ := h
  obtain ⟨l, bad⟩ := s
  have c0 : w.cell? ⟨g, 0, none⟩ = some (.slice A m c) := heap_cell h1
  have c1 : w.cell? ⟨g, 1, none⟩ = some (.bool bad) := heap_cell h1
  clear h1
  cases bad with
  | true =>
    have hl0 : l = [] := hok rfl
    subst hl0
    clear h4
    go_enter Tryz.func31, Tryz.ntmps31
    go_wp2
    go_ret
    exact ⟨rfl, rfl⟩
  | false =>
    obtain ⟨rfl, -⟩ := h4 rfl
    go_enter Tryz.func31, Tryz.ntmps31
    go_wp2
    go_ret
    exact ⟨rfl, rfl⟩
end Go.Proofs.YtndofmoepjfnfaaGreat
