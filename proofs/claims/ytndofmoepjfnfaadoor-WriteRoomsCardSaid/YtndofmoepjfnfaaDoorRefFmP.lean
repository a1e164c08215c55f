/- What the document's own PutFrame answers. -/
import Derived.Test.YtndofmoepjfnfaaDoorMaj
import Derived.Test.YtndofmoepjfnfaaDoorMbd
import Derived.Deep.RegionLaw
import Derived.Deep.DeepCutAuto
import Derived.IntWalk
namespace Go.Proofs.YtndofmoepjfnfaaDoor
open Go.RowKit
open Pt (Tx)

/-- what PutFrame answers: bytes of its own, and an error -/
def PutO (u : Fm.U) (w : World) (e : Ending) (w' : World) : Prop :=
  ∃ A n C, e = .returned (.tuple #[.slice A n C, .int .i64 (Fm.err u)]) ∧ OwnL w' w.heap.size (.slice A n C) (Fm.put u) ∧ Below w.heap.size w w'
theorem PutO.toU {u : Fm.U} {w w' : World} {e : Ending} (h : PutO u w e w') : PutU u w e w' := by
  obtain ⟨A, n, C, h1, h2, h3⟩ := h
  obtain ⟨A', C', e', g1, g2, g3, g4⟩ := h2.rd
  injection e' with x1 x2 x3
  subst x1 x3
  exact ⟨A, n, C, h1, x2, by rw [x2]; exact g1, g2, fun h => by rw [x2]; exact g3 h, g4.mono fun _ h => h.1, h3⟩
theorem refPut_arg (k lb nb : Int) (A : Option Addr) (s : Tx) (m C : Nat) (w : World) (h : ¬ Fm.argOk ⟨k, lb, nb, s⟩) :
    Calls Tryd.prog 10 #[.agg #[.int .i64 k, .int .i64 lb, .int .i64 nb, .slice A m C]] w (PutO ⟨k, lb, nb, s⟩ w) := by
  have HB : Hid (Below w.heap.size w (w.alloc (unitObj k lb nb A m C))) := Lib.hid ((Below.refl _ _).alloc (Nat.le_refl _) _)
  have HP := Lib.hid (Fm.put_no (u := ⟨k, lb, nb, s⟩) fun h' => h h'.1)
  have HE := Lib.hid (Fm.err_arg h)
  have hq : (decide (k < 1) = true) ∨ (decide (k < 1) = false ∧ decide (6 < k) = true) ∨ (decide (k < 1) = false ∧ decide (6 < k) = false ∧ decide (lb < 1) = true) ∨ (decide (k < 1) = false ∧ decide (6 < k) = false ∧ decide (lb < 1) = false ∧ decide (2147483647 < lb) = true)
      ∨ (decide (k < 1) = false ∧ decide (6 < k) = false ∧ decide (lb < 1) = false ∧ decide (2147483647 < lb) = false ∧ decide (nb < 0) = true) ∨ (decide (k < 1) = false ∧ decide (6 < k) = false ∧ decide (lb < 1) = false ∧ decide (2147483647 < lb) = false ∧ decide (nb < 0) = false ∧ decide (2147483647 < nb) = true) := by
    unfold Fm.argOk at h
    simp only at h
    simp only [decide_eq_true_eq, decide_eq_false_iff_not]; omega
  have hz : (k == 6) = true ∨ (k == 6) = false := by cases (k == 6) <;> simp
  clear h
  rcases hq with q1 | ⟨q1, q2⟩ | ⟨q1, q2, q3⟩ | ⟨q1, q2, q3, q4⟩ | ⟨q1, q2, q3, q4, q5⟩ | ⟨q1, q2, q3, q4, q5, q6⟩ <;> rcases hz with z1 | z1
  all_goals
    go_enter Tryd.func10, Tryd.ntmps10
    go_wp2
    go_ret2
    exact ⟨none, 0, 0, by rw [HE.out]; rfl, by rw [HP.out]; exact OwnL.nil _ _, HB.out⟩
theorem ks {k : Int} : (k == 6) = true ∧ Fm.room k = 79 ∨ (k == 6) = false ∧ Fm.room k = 64 := by
  by_cases e : k = 6
  · left; rw [e]; exact ⟨rfl, rfl⟩
  · right; exact ⟨beq_eq_false_iff_ne.2 e, if_neg e⟩
theorem refPut_long (k lb nb : Int) (A : Option Addr) (s : Tx) (m C : Nat) (w : World) (h : Fm.argOk ⟨k, lb, nb, s⟩) (hm : m = s.length) (hl : Fm.room k < m) :
    Calls Tryd.prog 10 #[.agg #[.int .i64 k, .int .i64 lb, .int .i64 nb, .slice A m C]] w (PutO ⟨k, lb, nb, s⟩ w) := by
  have HB : Hid (Below w.heap.size w (w.alloc (unitObj k lb nb A m C))) := Lib.hid ((Below.refl _ _).alloc (Nat.le_refl _) _)
  have HP := Lib.hid (Fm.put_no (u := ⟨k, lb, nb, s⟩) fun h' => by have : s.length ≤ Fm.room k := h'.2; omega)
  have HE := Lib.hid (Fm.err_long h (by show Fm.room k < s.length; omega))
  obtain ⟨h1, h2, h3, h4, h5, h6⟩ := h
  simp only at h1 h2 h3 h4 h5 h6
  have q1 : decide (k < 1) = false := decide_eq_false (by omega)
  have q2 : decide (6 < k) = false := decide_eq_false (by omega)
  have q3 : decide (lb < 1) = false := decide_eq_false (by omega)
  have q4 : decide (2147483647 < lb) = false := decide_eq_false (by omega)
  have q5 : decide (nb < 0) = false := decide_eq_false (by omega)
  have q6 : decide (2147483647 < nb) = false := decide_eq_false (by omega)
  have hk := ks (k := k)
  clear h1 h2 h3 h4 h5 h6 hm
  rcases hk with ⟨z1, hr⟩ | ⟨z1, hr⟩
  all_goals
    rw [hr] at hl
    clear hr
    go_enter Tryd.func10, Tryd.ntmps10
    go_wp2
    go_ret2
    exact ⟨none, 0, 0, by rw [HE.out]; rfl, by rw [HP.out]; exact OwnL.nil _ _, HB.out⟩
theorem Turned.unit {g base B : Nat} {a b : World} {k lb nb : Int} {A : Option Addr} {m C : Nat} (h : Turned g base a b) (hB : B ≠ g) (hu : a.heap[B]? = some (unitObj k lb nb A m C)) : b.heap[B]? = some (unitObj k lb nb A m C) := by
  refine (h.block B (heap_lt hu) ?_).trans hu
  rintro (h' | ⟨_, c, h'⟩)
  · exact hB h'
  · rw [hu] at h'
    injection h' with h'
    injection h' with _ e
    exact absurd e (by decide)
/-- the same, where the count is a number that is reckoned -/
theorem step_append_int {P : Program} {ops : Array Oper} {o : Oper} {a : Act} {w : World} {K : Act → World → Prop} {Q : Exit → Act → World → Prop} {E : Prop} (hg : o.guard = none) (s x : Operand) (t tn : TypeId)
    (ho : o.op = .call { callee := .builtin .append, args := #[s, x], argTypes := #[t, tn] }) (vs v' : Value) (w' : World) (n : Int) (hs : a.eval s = vs) (hx : a.eval x = .int .i64 n) (hr : ∀ ty, (Builtin.append_ #[t, tn] ty #[vs, .int .i64 n]).run P w = .ok v' w')
    (hK : K (a.put o.dst v') w') : if Region.wanted o (yielded ops a.tmps) = true then Oper.wp P o a w K Q else E :=
  step_append_eq hg s x t tn ho vs (.int .i64 n) v' w' hr hs hx hK
theorem low_byte (m : Nat) (hm : m ≤ 79) : bits BinOp.and IntKind.i64 (m : Int) 255 = (m : Int) := by
  show IntKind.i64.wrap ((BitVec.ofInt 64 (m : Int) &&& BitVec.ofInt 64 255).toNat : Int) = _
  rw [BitVec.toNat_and, show (BitVec.ofInt 64 255).toNat = 2 ^ 8 - 1 by decide, Nat.and_two_pow_sub_one_eq_mod, BitVec.ofInt_natCast, BitVec.toNat_ofNat, IntKind.wrap_i64]
  omega
set_option maxRecDepth 100000 in
set_option maxHeartbeats 4000000 in
theorem refPut_good (k lb nb : Int) (A : Option Addr) (s : Tx) (m C : Nat) (G : Nat → Prop) (w : World) (hm : m = s.length) (hA : A = none → m = 0 ∧ C = 0) (hr : RdL w A s G) (hok : Fm.Ok ⟨k, lb, nb, s⟩) :
    Calls Tryd.prog 10 #[.agg #[.int .i64 k, .int .i64 lb, .int .i64 nb, .slice A m C]] w (PutO ⟨k, lb, nb, s⟩ w) := by
  obtain ⟨wa, hwa⟩ : ∃ wa, wa = (w.alloc (unitObj k lb nb A m C)).alloc (.cells #[.slice none 0 0] 65) := ⟨_, rfl⟩
  have HB0 : Hid (Below w.heap.size w wa) := Lib.hid (by rw [hwa]; exact ((Below.refl _ _).alloc (Nat.le_refl _) _).alloc (by simp) _)
  have HU0 : Hid (wa.heap[w.heap.size]? = some (unitObj k lb nb A m C)) := Lib.hid (by
    rw [hwa, Below.heap_alloc _ _ _ (by simp)]; exact Go.Deep.blk_alloc_new _ _)
  have H0 : Hid (Rw wa (w.heap.size + 1) w.heap.size (.slice none 0 0) []) := Lib.hid (by
    refine ⟨?_, OwnL.nil _ _⟩
    have := Go.Deep.blk_alloc_new (w.alloc (unitObj k lb nb A m C)) (.cells #[.slice none 0 0] 65)
    rw [hwa]; simpa using this)
  obtain ⟨a0, a1, a2, a3⟩ := unit4 HU0.out
  have HK := Lib.hid hok
  obtain ⟨⟨h1, h2, h3, h4, h5, h6⟩, h7⟩ := hok
  simp only at h1 h2 h3 h4 h5 h6 h7
  have q1 : decide (k < 1) = false := decide_eq_false (by omega)
  have q2 : decide (6 < k) = false := decide_eq_false (by omega)
  have q3 : decide (lb < 1) = false := decide_eq_false (by omega)
  have q4 : decide (2147483647 < lb) = false := decide_eq_false (by omega)
  have q5 : decide (nb < 0) = false := decide_eq_false (by omega)
  have q6 : decide (2147483647 < nb) = false := decide_eq_false (by omega)
  have hk := ks (k := k)
  have HR := Lib.hid hr
  have HM := Lib.hid hm
  have HA := Lib.hid hA
  have hroom : m ≤ Fm.room k := by omega
  have HW := Lib.hid hwa
  rw [hwa] at a0 a1 a2 a3
  unfold unitObj at a0 a1 a2 a3 HW
  clear h1 h2 h3 h4 h5 h6 h7 hm hA hr hwa
  obtain ⟨R, hR⟩ : ∃ R, R = Fm.room k := ⟨_, rfl⟩
  rw [← hR] at hroom hk
  have HRM := Lib.hid hR
  clear hR
  have hR79 : R ≤ 79 := by rcases hk with ⟨_, h⟩ | ⟨_, h⟩ <;> omega
  have hm79 : m ≤ 79 := by omega
  have q7 : decide (R < m) = false := decide_eq_false (by omega)
  have q8 : decide ((R : Int) < (m : Int)) = false := decide_eq_false (by omega)
  have hsub : (R : Int) - (m : Int) = ((R - m : Nat) : Int) := by omega
  go_enter Tryd.func10, Tryd.ntmps10
  go_upto_if 8 with fail
  go_cut [4] (fun v wx => v = .int .i64 (R : Int) ∧ wx = w.alloc (.cells #[.int .i64 k, .int .i64 lb, .int .i64 nb, .slice A m C] 39))
  case first =>
    rcases hk with ⟨z1, rfl⟩ | ⟨z1, rfl⟩
    all_goals
      go_wp2
      go_meet
      exact ⟨rfl, rfl⟩
  case rest =>
  obtain ⟨rfl, rfl⟩ := hcut
  clear hk
  go_wp2_with fail
  rw [← HW.out]
  refine (vbyte_int _ _ _ [] k wa H0.out HB0.out.size (by simp)).mono ?_
  rintro e w1 ⟨rfl, ⟨v1, hW1⟩, hK1⟩
  have HW1 := Lib.hid hW1
  have HU1 := Lib.hid (hK1.unit (by omega) HU0.out)
  have HB1 := Lib.hid (HB0.out.trans (hK1.below HB0.out.size (by omega) (Nat.le_refl _)))
  obtain ⟨b0, b1, b2, b3⟩ := unit4 HU1.out
  clear hW1 hK1 a0 a1 a2 a3
  go_wp2_with fail
  refine (vint_any _ _ _ _ lb w1 HW1.out HB1.out.size (by simp)).mono ?_
  rintro e w2 ⟨rfl, ⟨v2, hW2⟩, hK2⟩
  have HW2 := Lib.hid hW2
  have HU2 := Lib.hid (hK2.unit (by omega) HU1.out)
  have HB2 := Lib.hid (HB1.out.trans (hK2.below HB1.out.size (by omega) (Nat.le_refl _)))
  obtain ⟨c0, c1, c2, c3⟩ := unit4 HU2.out
  clear hW2 hK2 b0 b1 b2 b3
  go_wp2_with fail
  refine (vint_any _ _ _ _ nb w2 HW2.out HB2.out.size (by simp [Cd.be4_len])).mono ?_
  rintro e w3 ⟨rfl, ⟨v3, hW3⟩, hK3⟩
  have HW3 := Lib.hid hW3
  have HU3 := Lib.hid (hK3.unit (by omega) HU2.out)
  have HB3 := Lib.hid (HB2.out.trans (hK3.below HB2.out.size (by omega) (Nat.le_refl _)))
  obtain ⟨d0, d1, d2, d3⟩ := unit4 HU3.out
  clear hW3 hK3 c0 c1 c2 c3
  go_wp2_with fail
  obtain ⟨l3, hl3⟩ : ∃ l3, l3 = [] ++ [Cd.b8 k] ++ Cd.be4 lb ++ Cd.be4 nb := ⟨_, rfl⟩
  rw [← hl3] at HW3
  have hn3 : l3.length = 9 := by rw [hl3]; simp [Cd.be4_len]
  have HL3 := Lib.hid hl3
  obtain ⟨A3, C3, hv3, -, -, -, -⟩ := HW3.out.2.rd
  rw [hn3] at hv3
  subst hv3
  have HN3 := Lib.hid hn3
  clear hl3 hn3
  have x0 : w3.cell? ⟨w.heap.size + 1, 0, none⟩ = some (.slice A3 9 C3) := heap_cell HW3.out.1
  have x1 : w3.frozen? ⟨w.heap.size + 1, 0, none⟩ = false := heap_frozen HW3.out.1
  have hlow := low_byte m hm79
  obtain ⟨wl, hwl⟩ : ∃ wl, wl = (w3.alloc (.cells #[.int .u8 (IntKind.u8.wrap ((m : Int) / 256)), .int .u8 (IntKind.u8.wrap (m : Int))] 5)).drew := ⟨_, rfl⟩
  have hbl : Below w3.heap.size w3 wl := by rw [hwl]; exact ((Below.refl _ _).alloc (Nat.le_refl _) _).drew
  have hol : OwnL wl w.heap.size (.slice A3 9 C3) l3 := HW3.out.2.of_block fun x hx => hbl.block x (HW3.out.2.lt x hx)
  have hll : RdL wl (some ⟨w3.heap.size, 0, none⟩) [Cd.b8 ((m : Int) / 256), Cd.b8 (m : Int)] (· = w3.heap.size) := by
    rw [hwl]
    refine rd_of_cells (l := [Cd.b8 ((m : Int) / 256), Cd.b8 (m : Int)]) (fr := (0, 0)) ?_
    have h1 := IntKind.wrap_u8 ((m : Int) / 256)
    have h2 := IntKind.wrap_u8 (m : Int)
    rw [h1, h2]
    refine (Go.Deep.blk_alloc_new w3 _).trans ?_
    simp [cellsL, Cd.b8_nat]
  obtain ⟨A4, C4, w4, hr4, hO4, hG4⟩ := ap_run wl w.heap.size _ _ hol (some ⟨w3.heap.size, 0, none⟩) 2 2 _ _ rfl (fun h => by cases h) hll (by rw [HN3.out]; decide) (Nat.le_trans HB3.out.size hbl.size) 11 (by rw [HN3.out])
  obtain ⟨hx4, hR4, hT4⟩ := HW3.out.stored ((Turned.refl _ _ w3).trans (Kp.of_below hbl)) (hbl.block _ HW3.out.lt) hol hG4 hO4
  have x4 : w4.cell? ⟨w.heap.size + 1, 0, none⟩ = some (.slice A3 9 C3) := heap_cell (hx4.trans HW3.out.1)
  have y4 : w4.frozen? ⟨w.heap.size + 1, 0, none⟩ = false := heap_frozen (hx4.trans HW3.out.1)
  have HR4 := Lib.hid hR4
  have HT4 := Lib.hid hT4
  have hbl' := hbl
  clear hbl hol hll hO4 hG4 hx4 hR4 hT4
  have x0w : wl.cell? ⟨w.heap.size + 1, 0, none⟩ = some (.slice A3 9 C3) := (Below.cell hbl' (p := ⟨w.heap.size + 1, 0, none⟩) HW3.out.lt).trans x0
  rw [hwl] at hr4 x0w
  clear hwl hbl'
  go_cut [] (fun wx => ∃ (A4 : Option Addr) (C4 : Nat), Hid (Rw wx (w.heap.size + 1) w.heap.size (.slice A4 11 C4) (l3 ++ [Cd.b8 ((m : Int) / 256), Cd.b8 (m : Int)])) ∧ Hid (Turned (w.heap.size + 1) w.heap.size w3 wx))
  case first =>
    go_region_law (first
      | (refine step_append_eq (by rfl) _ _ _ _ (by rfl) _ _ _ _ hr4 (by rfl) (by rfl) ?_))
    all_goals
      go_wp2
      go_meet
      exact ⟨A4, C4, HR4, HT4⟩
  case rest =>
    obtain ⟨A5, C5, HR5, HT5⟩ := hcut
    obtain ⟨w5, rfl⟩ : ∃ x, x = wc := ⟨wc, rfl⟩
    rename_i wx
    obtain ⟨l5, hl5⟩ : ∃ l5, l5 = l3 ++ [Cd.b8 ((m : Int) / 256), Cd.b8 (m : Int)] := ⟨_, rfl⟩
    rw [← hl5] at HR5
    have hn5 : l5.length = 11 := by rw [hl5, List.length_append, HN3.out]; rfl
    have HL5 := Lib.hid hl5
    have HN5 := Lib.hid hn5
    have HU5 := Lib.hid (HT5.out.unit (by omega) HU3.out)
    have HB5 := Lib.hid (HB3.out.trans (HT5.out.below HB3.out.size (by omega) (Nat.le_refl _)))
    clear hl5 hn5 hr4 x0w x4 y4 x0 x1 d0 d1 d2 d3 HT5 HR4 HT4
    go_wp2_with fail
    obtain ⟨u0, u1, u2, u3⟩ := unit4 HU5.out
    have x0 : w5.cell? ⟨w.heap.size + 1, 0, none⟩ = some (.slice A5 11 C5) := heap_cell HR5.out.1
    have hbl : Below w5.heap.size w5 w5.drew := (Below.refl _ _).drew
    have hol : OwnL w5.drew w.heap.size (.slice A5 11 C5) l5 := HR5.out.2.of_block fun x hx => rfl
    have hll : RdL w5.drew A s (· < w.heap.size) := (HR.out.in_.old HB5.out.drew).mono fun _ h => h.2
    obtain ⟨A6, C6, w6, hr6, hO6, hG6⟩ := ap_run w5.drew w.heap.size _ _ hol A m C _ _ HM.out.symm HA.out hll (by rw [HN5.out]; omega) HB5.out.drew.size (11 + m) (by rw [HN5.out])
    obtain ⟨hx6, hR6, hT6⟩ := HR5.out.stored ((Turned.refl _ _ w5).trans (Kp.of_below hbl)) (hbl.block _ HR5.out.lt) hol hG6 hO6
    have x6 : w6.cell? ⟨w.heap.size + 1, 0, none⟩ = some (.slice A5 11 C5) := heap_cell (hx6.trans HR5.out.1)
    have y6 : w6.frozen? ⟨w.heap.size + 1, 0, none⟩ = false := heap_frozen (hx6.trans HR5.out.1)
    have HR6 := Lib.hid hR6
    have HT6 := Lib.hid hT6
    clear hbl hol hll hO6 hG6 hx6 hR6 hT6
    go_cut [] (fun wx => ∃ (A7 : Option Addr) (C7 : Nat), Hid (Rw wx (w.heap.size + 1) w.heap.size (.slice A7 (11 + m) C7) (l5 ++ s)) ∧ Hid (Turned (w.heap.size + 1) w.heap.size w5 wx))
    case first =>
      go_region_law (first
        | (refine step_append_eq (by rfl) _ _ _ _ (by rfl) _ _ _ _ hr6 (by rfl) (by rfl) ?_))
      all_goals
        go_wp2
        go_meet
        exact ⟨A6, C6, HR6, HT6⟩
    case rest =>
    obtain ⟨A7, C7, HR7, HT7⟩ := hcut
    obtain ⟨w7, rfl⟩ : ∃ x, x = wc := ⟨wc, rfl⟩
    obtain ⟨l7, hl7⟩ : ∃ l7, l7 = l5 ++ s := ⟨_, rfl⟩
    rw [← hl7] at HR7
    have hn7 : l7.length = 11 + m := by rw [hl7, List.length_append, HN5.out, ← HM.out]
    have HL7 := Lib.hid hl7
    have HN7 := Lib.hid hn7
    have HU7 := Lib.hid (HT7.out.unit (by omega) HU5.out)
    have HB7 := Lib.hid (HB5.out.trans (HT7.out.below HB5.out.size (by omega) (Nat.le_refl _)))
    clear hl7 hn7 hr6 x6 y6 x0 u0 u1 u2 u3 HT7 HR6 HT6
    go_wp2_with fail
    obtain ⟨u0, u1, u2, u3⟩ := unit4 HU7.out
    have x0 : w7.cell? ⟨w.heap.size + 1, 0, none⟩ = some (.slice A7 (11 + m) C7) := heap_cell HR7.out.1
    have hbl : Below w7.heap.size w7 w7.drew := (Below.refl _ _).drew
    have hol : OwnL w7.drew w.heap.size (.slice A7 (11 + m) C7) l7 := HR7.out.2.of_block fun x hx => rfl
    obtain ⟨A8, C8, w8, hr8, hO8, hG8⟩ := apz_run w7.drew w.heap.size _ _ hol (by rw [HN7.out]; omega) (R - m) (by rw [HN7.out]; omega) HB7.out.drew.size ((R - m : Nat) : Int) rfl (11 + R) (by rw [HN7.out]; omega)
    obtain ⟨hx8, hR8, hT8⟩ := HR7.out.stored ((Turned.refl _ _ w7).trans (Kp.of_below hbl)) (hbl.block _ HR7.out.lt) hol hG8 hO8
    have hr9 : ∀ n : Int, n = ((R - m : Nat) : Int) → ∀ ty, (Builtin.append_ #[26, 3] ty #[.slice A7 (11 + m) C7, .int .i64 n]).run Tryd.prog w7.drew = .ok (.slice A8 (11 + R) C8) w8 := fun n hn ty => by rw [hn]; exact hr8 ty
    have x8 : w8.cell? ⟨w.heap.size + 1, 0, none⟩ = some (.slice A7 (11 + m) C7) := heap_cell (hx8.trans HR7.out.1)
    have y8 : w8.frozen? ⟨w.heap.size + 1, 0, none⟩ = false := heap_frozen (hx8.trans HR7.out.1)
    have HR8 := Lib.hid hR8
    have HT8 := Lib.hid hT8
    clear hbl hol hO8 hG8 hx8 hR8 hT8
    go_cut [] (fun wx => ∃ (A9 : Option Addr) (C9 : Nat), Hid (Rw wx (w.heap.size + 1) w.heap.size (.slice A9 (11 + R) C9) (l7 ++ List.replicate (R - m) 0)) ∧ Hid (Turned (w.heap.size + 1) w.heap.size w7 wx))
    case first =>
      go_region_law (first
        | (refine step_append_int (by rfl) _ _ _ _ (by rfl) _ _ _ _ (by rfl) (by rfl) (by exact hr9 _ (IntWalk.i64_in _ (by omega))) ?_))
      all_goals
        go_wp2
        go_meet
        exact ⟨A8, C8, HR8, HT8⟩
    case rest =>
    obtain ⟨A9, C9, HR9, HT9⟩ := hcut
    obtain ⟨w9, rfl⟩ : ∃ x, x = wc := ⟨wc, rfl⟩
    have hbody : l7 ++ List.replicate (R - m) 0 = Fm.body ⟨k, lb, nb, s⟩ := by
      rw [HL7.out, HL5.out, HL3.out]
      unfold Fm.body Fm.head Fm.pad
      simp only [← HM.out, ← HRM.out, List.append_assoc, List.nil_append, List.cons_append]
    rw [hbody] at HR9
    have hl9 : (Fm.body ⟨k, lb, nb, s⟩).length = 11 + R := by rw [Fm.body_len HK.out, HRM.out]
    have HL9 := Lib.hid hl9
    have HB9 := Lib.hid (HB7.out.trans (HT9.out.below HB7.out.size (by omega) (Nat.le_refl _)))
    clear hbody hl9 hr8 hr9 x8 y8 x0 u0 u1 u2 u3 HT9 HR8 HT8
    have x0 : w9.cell? ⟨w.heap.size + 1, 0, none⟩ = some (.slice A9 (11 + R) C9) := heap_cell HR9.out.1
    have HS9 := Lib.hid (RdL.mono (by obtain ⟨A', C', e, _, _, _, h⟩ := HR9.out.2.rd; injection e with e1 e2 e3; subst e1; exact h) (fun _ _ => trivial) : RdL w9 A9 (Fm.body ⟨k, lb, nb, s⟩) (fun _ => True))
    have s0 := sumL_lo (Fm.body ⟨k, lb, nb, s⟩)
    have s1 := sumL_hi (Fm.body ⟨k, lb, nb, s⟩)
    go_wp2_with fail
    refine (refSumL_any A9 (Fm.body ⟨k, lb, nb, s⟩) (11 + R) C9 _ _ HL9.out.symm (by rw [HL9.out]; unfold maxLen; omega) HS9.out).mono ?_
    rintro e w10 ⟨rfl, hw10⟩
    subst hw10
    generalize hS : sumL (Fm.body ⟨k, lb, nb, s⟩) = S at s0 s1 ⊢
    have HS := Lib.hid hS
    clear hS
    go_wp2_with fail
    refine (vint_any _ _ _ _ S w9 HR9.out HB9.out.size (by rw [HL9.out]; omega)).mono ?_
    rintro e w11 ⟨rfl, ⟨v11, hW11⟩, hK11⟩
    have HW11 := Lib.hid hW11
    have HB11 := Lib.hid (HB9.out.trans (hK11.below HB9.out.size (by omega) (Nat.le_refl _)))
    clear hW11 hK11 x0
    have x0 : w11.cell? ⟨w.heap.size + 1, 0, none⟩ = some v11 := heap_cell HW11.out.1
    have hlen : (Fm.body ⟨k, lb, nb, s⟩ ++ Cd.be4 S).length = 15 + R := by rw [List.length_append, HL9.out, Cd.be4_len]; omega
    obtain ⟨A8, C8, e8, -, -, -, -⟩ := HW11.out.2.rd
    rw [hlen] at e8
    subst e8
    have HO := Lib.hid HW11.out.2
    clear hlen
    go_wp2
    go_ret2
    have hput : Fm.put ⟨k, lb, nb, s⟩ = Fm.body ⟨k, lb, nb, s⟩ ++ Cd.be4 S := by rw [← HS.out]; exact Fm.put_ok HK.out
    refine ⟨A8, 15 + R, C8, by rw [Fm.err_ok HK.out]; rfl, ?_, HB11.out⟩
    rw [hput]
    exact HO.out
theorem refPut_own (k lb nb : Int) (A : Option Addr) (s : Tx) (m C : Nat) (G : Nat → Prop) (w : World) (hm : m = s.length) (hA : A = none → m = 0 ∧ C = 0) (hr : RdL w A s G) :
    Calls Tryd.prog 10 #[.agg #[.int .i64 k, .int .i64 lb, .int .i64 nb, .slice A m C]] w (PutO ⟨k, lb, nb, s⟩ w) := by
  by_cases ha : Fm.argOk ⟨k, lb, nb, s⟩
  · by_cases hl : Fm.room k < m
    · exact refPut_long k lb nb A s m C w ha hm hl
    · exact refPut_good k lb nb A s m C G w hm hA hr ⟨ha, by show s.length ≤ Fm.room k; omega⟩
  · exact refPut_arg k lb nb A s m C w ha
theorem refPut_any (k lb nb : Int) (A : Option Addr) (s : Tx) (m C : Nat) (G : Nat → Prop) (w : World) (hm : m = s.length) (hA : A = none → m = 0 ∧ C = 0) (hr : RdL w A s G) :
    Calls Tryd.prog 10 #[.agg #[.int .i64 k, .int .i64 lb, .int .i64 nb, .slice A m C]] w (PutU ⟨k, lb, nb, s⟩ w) :=
  (refPut_own k lb nb A s m C G w hm hA hr).mono fun _ _ h => h.toU
end Go.Proofs.YtndofmoepjfnfaaDoor
