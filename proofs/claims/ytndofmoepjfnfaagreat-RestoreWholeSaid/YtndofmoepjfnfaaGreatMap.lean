/- What read of package frame answers: what bytes say where they say it. What bytes.Equal answers. What Get of package frame answers. -/
import Derived.Test.YtndofmoepjfnfaaGreatMao
import Derived.Test.YtndofmoepjfnfaaGreatMaj
import Derived.Test.YtndofmoepjfnfaaGreatChecked
import Derived.OwnWalk
import Derived.Handy
import Derived.WalkSpells
import Derived.WalkLawsBesides
import Derived.StillTailTactics
namespace Go.Proofs.YtndofmoepjfnfaaGreat
open Go.RowKit
open Pt (Tx)

/-- a unit that is answered by value, its load in new memory -/
def AnsU (u : Fm.U) (w : World) (e : Ending) (w' : World) : Prop :=
  ∃ A m C, e = .returned (.agg #[.int .i64 u.kind, .int .i64 u.label, .int .i64 u.number, .slice A m C]) ∧ m = u.load.length ∧ m ≤ C ∧ (A = none → m = 0 ∧ C = 0) ∧ RdL w' A u.load (w.heap.size ≤ ·) ∧ Below w.heap.size w w'
/-- a unit was stored into a block that is none of its load's -/
theorem AnsU.stored {w w7 : World} {B : Nat} {a0 a1 a2 a3 : Value} {u : Fm.U} {A : Option Addr} {m C : Nat} (hB : B = w.heap.size) (hr : RdL w7 A u.load (B < ·)) (hm : m = u.load.length) (hc : m ≤ C) (hn : A = none → m = 0 ∧ C = 0) (hb : Below w.heap.size w w7) :
    AnsU u w (.returned (.agg #[.int .i64 u.kind, .int .i64 u.label, .int .i64 u.number, .slice A m C])) ((((w7.setCell ⟨B, 0, none⟩ a0).setCell ⟨B, 1, none⟩ a1).setCell ⟨B, 2, none⟩ a2).setCell ⟨B, 3, none⟩ a3) := by
  subst hB
  have hk : Kp (· = w.heap.size) w7 ((((w7.setCell ⟨w.heap.size, 0, none⟩ a0).setCell ⟨w.heap.size, 1, none⟩ a1).setCell ⟨w.heap.size, 2, none⟩ a2).setCell ⟨w.heap.size, 3, none⟩ a3) := (((Kp.store _ _ _ _).trans (Kp.store _ _ _ _)).trans (Kp.store _ _ _ _)).trans (Kp.store _ _ _ _)
  exact ⟨A, m, C, rfl, hm, hc, hn, (hr.kp hk (fun x hx hx' => by omega)).mono (fun x hx => by omega), hb.trans (hk.below hb.size (fun x hx => by omega))⟩
set_option maxHeartbeats 2000000 in
theorem read_long (g off : Nat) (b : Tx) (D E : Nat) (G : Nat → Prop) (w : World) (hL : D + 11 = b.length) (hC : D ≤ E) (hl : D ≤ 1000000) (hr : RdL w (some ⟨g, off, none⟩) b G) :
    Calls Tryz.prog 82 #[.slice (some ⟨g, off, none⟩) (D + 11) (E + 11)] w (AnsU (Fm.parse b) w) := by
  have HB0 : Hid (Below w.heap.size w (w.alloc (unitObj 0 0 0 none 0 0))) := Lib.hid ((Below.refl _ _).alloc (Nat.le_refl _) _)
  have HR := Lib.hid hr
  have HL := Lib.hid hL
  have e11 : (b.take 11).length = 11 := by rw [List.length_take, ← hL]; omega
  have HN : Hid (∀ w', Below w.heap.size w w' → Calls Tryz.prog 69 #[.slice (some ⟨g, off, none⟩) 11 (E + 11)] w' (NewR (b.take 11) w')) := Lib.hid fun w' hb => by
    have := newReader_any (some ⟨g, off, none⟩) (b.take 11) (E + 11) _ w' (fun h => by cases h) ((hr.in_.old hb).take 11) (by rw [e11]; omega)
    rw [e11] at this; exact this
  clear hr hL
  have q0 : ¬ D + 11 < 11 := by omega
  have q1 : ¬ (D : Int) + 11 < 11 := by omega
  go_enter Tryz.func82, Tryz.ntmps82
  go_wp2_with fail
  refine (HN.out _ HB0.out).mono ?_
  rintro e w1 ⟨gr, rfl, hlo, hr1, hb1⟩
  have HR1 := Lib.hid hr1
  have HB1 := Lib.hid (HB0.out.trans (hb1.mono HB0.out.size))
  have HLO := Lib.hid (Nat.le_trans HB0.out.size hlo)
  have HNE : Hid (¬ w.heap.size = gr) := Lib.hid (by have : (w.alloc (unitObj 0 0 0 none 0 0)).heap.size ≤ gr := hlo; simp at this; omega)
  have HZ1 : Hid (w1.heap[w.heap.size]? = some (unitObj 0 0 0 none 0 0)) := Lib.hid ((hb1.block _ (by simp)).trans (Go.Deep.blk_alloc_new _ _))
  obtain ⟨T, hT⟩ : ∃ T, T = b.take 11 := ⟨_, rfl⟩
  rw [← hT] at HR1 e11
  have HT := Lib.hid hT
  obtain ⟨z1, z2, z3, z4, -⟩ := Fm.s_len T
  rw [e11] at z1 z2 z3 z4
  obtain ⟨n0, hn0⟩ : ∃ n, n = (Cd.byt (T, false)).toNat := ⟨_, rfl⟩
  obtain ⟨n3, hn3⟩ : ∃ n, n = (Cd.byt (Fm.s3 T)).toNat := ⟨_, rfl⟩
  obtain ⟨n4, hn4⟩ : ∃ n, n = (Cd.byt (Fm.s4 T)).toNat := ⟨_, rfl⟩
  obtain ⟨l1, hl1⟩ : ∃ l, l = Cd.num (Cd.tk 4 (Fm.s1 T)) := ⟨_, rfl⟩
  obtain ⟨l2, hl2⟩ : ∃ l, l = Cd.num (Cd.tk 4 (Fm.s2 T)) := ⟨_, rfl⟩
  have k0 : n0 < 256 := by rw [hn0]; exact (Cd.byt (T, false)).toNat_lt
  have k3 : n3 < 256 := by rw [hn3]; exact (Cd.byt (Fm.s3 T)).toNat_lt
  have k4 : n4 < 256 := by rw [hn4]; exact (Cd.byt (Fm.s4 T)).toNat_lt
  obtain ⟨Z, hZ⟩ : ∃ Z, Z = 256 * n3 + n4 := ⟨_, rfl⟩
  have hZs : (n3 : Int) * 256 + (n4 : Int) = (Z : Int) := by omega
  have hZl : Z < 65536 := by omega
  have HZZ : Hid (Fm.parse b = ⟨(n0 : Int), l1, l2, (b.drop 11).take Z⟩) := Lib.hid (by
    rw [hZ, hn0, hn3, hn4, hl1, hl2, hT]; rfl)
  have Hn0 := Lib.hid hn0
  have Hn3 := Lib.hid hn3
  have Hn4 := Lib.hid hn4
  have Hl1 := Lib.hid hl1
  have Hl2 := Lib.hid hl2
  clear hT HN hlo hb1 hr1 hn0 hn3 hn4 hl1 hl2 hZ
  go_wp2_with fail
  have hcall1 := rbyte_any gr (T, false) _ w1 HR1.out (by show T.length ≤ _; omega)
  rw [← Hn0.out] at hcall1
  refine hcall1.mono ?_
  clear hcall1
  rintro e w2 ⟨rfl, hr2, hk2⟩
  have HR2 : Hid (Rr w2 gr (Fm.s1 T) _) := Lib.hid hr2
  have HB2 := Lib.hid (HB1.out.trans (lo_g hk2 HB1.out.size HLO.out))
  have HZ2 := Lib.hid ((hk2.block _ (heap_lt HZ1.out) HNE.out).trans HZ1.out)
  clear hr2 hk2
  go_wp2_with fail
  have hcall2 := rint_any gr (Fm.s1 T) _ w2 HR2.out (by omega)
  rw [← Hl1.out] at hcall2
  refine hcall2.mono ?_
  clear hcall2
  rintro e w3 ⟨rfl, hr3, hk3⟩
  have HR3 : Hid (Rr w3 gr (Fm.s2 T) _) := Lib.hid hr3
  have HB3 := Lib.hid (HB2.out.trans (lo_g hk3 HB2.out.size HLO.out))
  have HZ3 := Lib.hid ((hk3.block _ (heap_lt HZ2.out) HNE.out).trans HZ2.out)
  clear hr3 hk3
  go_wp2_with fail
  have hcall3 := rint_any gr (Fm.s2 T) _ w3 HR3.out (by omega)
  rw [← Hl2.out] at hcall3
  refine hcall3.mono ?_
  clear hcall3
  rintro e w4 ⟨rfl, hr4, hk4⟩
  have HR4 : Hid (Rr w4 gr (Fm.s3 T) _) := Lib.hid hr4
  have HB4 := Lib.hid (HB3.out.trans (lo_g hk4 HB3.out.size HLO.out))
  have HZ4 := Lib.hid ((hk4.block _ (heap_lt HZ3.out) HNE.out).trans HZ3.out)
  clear hr4 hk4
  go_wp2_with fail
  have hcall4 := rbyte_any gr (Fm.s3 T) _ w4 HR4.out (by omega)
  rw [← Hn3.out] at hcall4
  refine hcall4.mono ?_
  clear hcall4
  rintro e w5 ⟨rfl, hr5, hk5⟩
  have HR5 : Hid (Rr w5 gr (Fm.s4 T) _) := Lib.hid hr5
  have HB5 := Lib.hid (HB4.out.trans (lo_g hk5 HB4.out.size HLO.out))
  have HZ5 := Lib.hid ((hk5.block _ (heap_lt HZ4.out) HNE.out).trans HZ4.out)
  clear hr5 hk5
  go_wp2_with fail
  have hcall5 := rbyte_any gr (Fm.s4 T) _ w5 HR5.out (by omega)
  rw [← Hn4.out] at hcall5
  refine hcall5.mono ?_
  clear hcall5
  rintro e w6 ⟨rfl, hr6, hk6⟩
  have HR6 : Hid (Rr w6 gr (Fm.s5 T) _) := Lib.hid hr6
  have HB6 := Lib.hid (HB5.out.trans (lo_g hk6 HB5.out.size HLO.out))
  have HZ6 := Lib.hid ((hk6.block _ (heap_lt HZ5.out) HNE.out).trans HZ5.out)
  clear hr6 hk6
  have hRb : RdL w6 (some ⟨g, off, none⟩) b (· < w.heap.size) := (HR.out.in_.old HB6.out).mono fun _ h => h.2
  obtain ⟨M, hM⟩ : ∃ M, M = min Z D := ⟨_, rfl⟩
  have hlen : ((b.drop 11).take Z).length = M := by rw [List.length_take, List.length_drop, ← HL.out, hM]; omega
  have hMD : M ≤ D := by omega
  have hif : (if D < Z then (D : Int) else (Z : Int)) = (M : Int) := by split <;> omega
  have HMM := Lib.hid hM
  have HLM := Lib.hid hlen
  obtain ⟨u0, u1, u2, u3⟩ := unit4 HZ6.out
  have y0 : w6.frozen? ⟨w.heap.size, 0, none⟩ = false := heap_frozen HZ6.out
  have y1 : w6.frozen? ⟨w.heap.size, 1, none⟩ = false := heap_frozen HZ6.out
  have y2 : w6.frozen? ⟨w.heap.size, 2, none⟩ = false := heap_frozen HZ6.out
  have y3 : w6.frozen? ⟨w.heap.size, 3, none⟩ = false := heap_frozen HZ6.out
  clear hM
  by_cases hE : E = 0
  · subst hE
    have hD : D = 0 := by omega
    subst hD
    have hM0 : M = 0 := by omega
    subst hM0
    have hz : Z = 0 ∨ 0 < Z := by omega
    have h0 : (b.drop 11).take Z = [] := List.length_eq_zero_iff.1 HLM.out
    have HE := Lib.hid h0
    clear hRb h0 hlen hif
    rcases hz with rfl | hz
    all_goals
      go_wp2_with fail
      refine (clone_any (some ⟨g, off, none⟩) [] 0 (fun _ => True) w6 (fun h => by cases h) (RdL.empty _ _ _) (by simp)).mono ?_
      rintro e w7 ⟨A7, C7, rfl, hc7, hn7, hr7, hb7⟩
      obtain ⟨v0, v1, v2, v3⟩ := unit4 ((hb7.block _ (heap_lt HZ6.out)).trans HZ6.out)
      have x0 : w7.frozen? ⟨w.heap.size, 0, none⟩ = false := heap_frozen ((hb7.block _ (heap_lt HZ6.out)).trans HZ6.out)
      have x1 : w7.frozen? ⟨w.heap.size, 1, none⟩ = false := heap_frozen ((hb7.block _ (heap_lt HZ6.out)).trans HZ6.out)
      have x2 : w7.frozen? ⟨w.heap.size, 2, none⟩ = false := heap_frozen ((hb7.block _ (heap_lt HZ6.out)).trans HZ6.out)
      have x3 : w7.frozen? ⟨w.heap.size, 3, none⟩ = false := heap_frozen ((hb7.block _ (heap_lt HZ6.out)).trans HZ6.out)
      have HB7 := Lib.hid (HB6.out.trans (hb7.mono HB6.out.size))
      have HR7 : Hid (RdL w7 A7 [] (w.heap.size < ·)) := Lib.hid (RdL.empty _ _ _)
      have HN7 := Lib.hid hn7
      clear hb7 hr7 hn7 u0 u1 u2 u3 y0 y1 y2 y3
      go_wp2
      rw [HZZ.out, HE.out]
      exact bodyPost_ret (v := .agg #[.int .i64 (n0 : Int), .int .i64 l1, .int .i64 l2, .slice A7 0 C7]) (by simp [results, Tryz.results82, go_sem, v0, v1, v2, v3]) rfl (AnsU.stored (u := ⟨(n0 : Int), l1, l2, []⟩) rfl HR7.out rfl (Nat.zero_le _) HN7.out HB7.out)
  · have hrd : RdL w6 (some ⟨g, off + 11, none⟩) ((b.drop 11).take Z) (· < w.heap.size) := (hRb.drop 11).take Z
    have hcl := clone_any (some ⟨g, off + 11, none⟩) ((b.drop 11).take Z) E _ w6 (fun h => by cases h) hrd (by rw [hlen]; omega)
    rw [hlen] at hcl
    have HCL := Lib.hid hcl
    have q2 : ¬ E + 11 = 11 := by omega
    have q3 : ¬ 11 = E + 11 := by omega
    clear hcl hrd hRb hlen
    go_wp2_with fail
    refine HCL.out.mono ?_
    rintro e w7 ⟨A7, C7, rfl, hc7, hn7, hr7, hb7⟩
    rw [HLM.out] at hc7 hn7
    obtain ⟨v0, v1, v2, v3⟩ := unit4 ((hb7.block _ (heap_lt HZ6.out)).trans HZ6.out)
    have x0 : w7.frozen? ⟨w.heap.size, 0, none⟩ = false := heap_frozen ((hb7.block _ (heap_lt HZ6.out)).trans HZ6.out)
    have x1 : w7.frozen? ⟨w.heap.size, 1, none⟩ = false := heap_frozen ((hb7.block _ (heap_lt HZ6.out)).trans HZ6.out)
    have x2 : w7.frozen? ⟨w.heap.size, 2, none⟩ = false := heap_frozen ((hb7.block _ (heap_lt HZ6.out)).trans HZ6.out)
    have x3 : w7.frozen? ⟨w.heap.size, 3, none⟩ = false := heap_frozen ((hb7.block _ (heap_lt HZ6.out)).trans HZ6.out)
    have HB7 := Lib.hid (HB6.out.trans (hb7.mono HB6.out.size))
    have HR7 : Hid (RdL w7 A7 ((b.drop 11).take Z) (w.heap.size < ·)) := Lib.hid (hr7.mono fun x hx => Nat.lt_of_lt_of_le (heap_lt HZ6.out) hx)
    have HN7 := Lib.hid hn7
    clear hb7 hr7 hn7 u0 u1 u2 u3 y0 y1 y2 y3
    go_wp2
    rw [HZZ.out]
    refine bodyPost_ret (v := .agg #[.int .i64 (n0 : Int), .int .i64 l1, .int .i64 l2, .slice A7 M C7]) (by simp [results, Tryz.results82, go_sem, v0, v1, v2, v3]; have h := HLM.out; simp at h; exact h) rfl ?_
    exact AnsU.stored (u := ⟨(n0 : Int), l1, l2, (b.drop 11).take Z⟩) rfl HR7.out HLM.out.symm hc7 HN7.out HB7.out
set_option maxHeartbeats 2000000 in
theorem read_none (A : Option Addr) (b : Tx) (C : Nat) (G : Nat → Prop) (w : World) (hL : 0 = b.length) (hA : A = none → b.length = 0 ∧ C = 0) (hr : RdL w A b G) :
    Calls Tryz.prog 82 #[.slice A 0 C] w (AnsU (Fm.parse b) w) := by
  have HB0 : Hid (Below w.heap.size w (w.alloc (unitObj 0 0 0 none 0 0))) := Lib.hid ((Below.refl _ _).alloc (Nat.le_refl _) _)
  have HTK : Hid (b.take 11 = b) := Lib.hid (List.take_of_length_le (by omega))
  have HDR : Hid (b.drop 11 = []) := Lib.hid (List.drop_of_length_le (by omega))
  have HN : Hid (∀ w', Below w.heap.size w w' → Calls Tryz.prog 69 #[.slice A 0 C] w' (NewR b w')) := Lib.hid fun w' hb => by
    have := newReader_any _ b _ _ w' hA (hr.in_.old hb) (by omega)
    rw [← hL] at this; exact this
  have e11 : b.length < 11 := by omega
  have HA := Lib.hid hA
  clear hr hL hA
  go_enter Tryz.func82, Tryz.ntmps82
  go_wp2_with fail
  refine (HN.out _ HB0.out).mono ?_
  rintro e w1 ⟨gr, rfl, hlo, hr1, hb1⟩
  have HR1 := Lib.hid hr1
  have HB1 := Lib.hid (HB0.out.trans (hb1.mono HB0.out.size))
  have HLO := Lib.hid (Nat.le_trans HB0.out.size hlo)
  have HNE : Hid (¬ w.heap.size = gr) := Lib.hid (by have : (w.alloc (unitObj 0 0 0 none 0 0)).heap.size ≤ gr := hlo; simp at this; omega)
  have HZ1 : Hid (w1.heap[w.heap.size]? = some (unitObj 0 0 0 none 0 0)) := Lib.hid ((hb1.block _ (by simp)).trans (Go.Deep.blk_alloc_new _ _))
  obtain ⟨T, hT⟩ : ∃ T, T = b := ⟨_, rfl⟩
  rw [← hT] at HR1 e11
  have HT := Lib.hid hT
  obtain ⟨z1, z2, z3, z4, -⟩ := Fm.s_len T
  obtain ⟨n0, hn0⟩ : ∃ n, n = (Cd.byt (T, false)).toNat := ⟨_, rfl⟩
  obtain ⟨n3, hn3⟩ : ∃ n, n = (Cd.byt (Fm.s3 T)).toNat := ⟨_, rfl⟩
  obtain ⟨n4, hn4⟩ : ∃ n, n = (Cd.byt (Fm.s4 T)).toNat := ⟨_, rfl⟩
  obtain ⟨l1, hl1⟩ : ∃ l, l = Cd.num (Cd.tk 4 (Fm.s1 T)) := ⟨_, rfl⟩
  obtain ⟨l2, hl2⟩ : ∃ l, l = Cd.num (Cd.tk 4 (Fm.s2 T)) := ⟨_, rfl⟩
  have k0 : n0 < 256 := by rw [hn0]; exact (Cd.byt (T, false)).toNat_lt
  have k3 : n3 < 256 := by rw [hn3]; exact (Cd.byt (Fm.s3 T)).toNat_lt
  have k4 : n4 < 256 := by rw [hn4]; exact (Cd.byt (Fm.s4 T)).toNat_lt
  obtain ⟨Z, hZ⟩ : ∃ Z, Z = 256 * n3 + n4 := ⟨_, rfl⟩
  have hZs : (n3 : Int) * 256 + (n4 : Int) = (Z : Int) := by omega
  have hZl : Z < 65536 := by omega
  have HZZ : Hid (Fm.parse b = ⟨(n0 : Int), l1, l2, []⟩) := Lib.hid (by
    unfold Fm.parse
    rw [HTK.out, HDR.out, List.take_nil, hn0, hl1, hl2, hT]; rfl)
  have Hn0 := Lib.hid hn0
  have Hn3 := Lib.hid hn3
  have Hn4 := Lib.hid hn4
  have Hl1 := Lib.hid hl1
  have Hl2 := Lib.hid hl2
  clear hT HN hlo hb1 hr1 hn0 hn3 hn4 hl1 hl2 hZ
  go_wp2_with fail
  have hcall1 := rbyte_any gr (T, false) _ w1 HR1.out (by show T.length ≤ _; omega)
  rw [← Hn0.out] at hcall1
  refine hcall1.mono ?_
  clear hcall1
  rintro e w2 ⟨rfl, hr2, hk2⟩
  have HR2 : Hid (Rr w2 gr (Fm.s1 T) _) := Lib.hid hr2
  have HB2 := Lib.hid (HB1.out.trans (lo_g hk2 HB1.out.size HLO.out))
  have HZ2 := Lib.hid ((hk2.block _ (heap_lt HZ1.out) HNE.out).trans HZ1.out)
  clear hr2 hk2
  go_wp2_with fail
  have hcall2 := rint_any gr (Fm.s1 T) _ w2 HR2.out (by omega)
  rw [← Hl1.out] at hcall2
  refine hcall2.mono ?_
  clear hcall2
  rintro e w3 ⟨rfl, hr3, hk3⟩
  have HR3 : Hid (Rr w3 gr (Fm.s2 T) _) := Lib.hid hr3
  have HB3 := Lib.hid (HB2.out.trans (lo_g hk3 HB2.out.size HLO.out))
  have HZ3 := Lib.hid ((hk3.block _ (heap_lt HZ2.out) HNE.out).trans HZ2.out)
  clear hr3 hk3
  go_wp2_with fail
  have hcall3 := rint_any gr (Fm.s2 T) _ w3 HR3.out (by omega)
  rw [← Hl2.out] at hcall3
  refine hcall3.mono ?_
  clear hcall3
  rintro e w4 ⟨rfl, hr4, hk4⟩
  have HR4 : Hid (Rr w4 gr (Fm.s3 T) _) := Lib.hid hr4
  have HB4 := Lib.hid (HB3.out.trans (lo_g hk4 HB3.out.size HLO.out))
  have HZ4 := Lib.hid ((hk4.block _ (heap_lt HZ3.out) HNE.out).trans HZ3.out)
  clear hr4 hk4
  go_wp2_with fail
  have hcall4 := rbyte_any gr (Fm.s3 T) _ w4 HR4.out (by omega)
  rw [← Hn3.out] at hcall4
  refine hcall4.mono ?_
  clear hcall4
  rintro e w5 ⟨rfl, hr5, hk5⟩
  have HR5 : Hid (Rr w5 gr (Fm.s4 T) _) := Lib.hid hr5
  have HB5 := Lib.hid (HB4.out.trans (lo_g hk5 HB4.out.size HLO.out))
  have HZ5 := Lib.hid ((hk5.block _ (heap_lt HZ4.out) HNE.out).trans HZ4.out)
  clear hr5 hk5
  go_wp2_with fail
  have hcall5 := rbyte_any gr (Fm.s4 T) _ w5 HR5.out (by omega)
  rw [← Hn4.out] at hcall5
  refine hcall5.mono ?_
  clear hcall5
  rintro e w6 ⟨rfl, hr6, hk6⟩
  have HR6 : Hid (Rr w6 gr (Fm.s5 T) _) := Lib.hid hr6
  have HB6 := Lib.hid (HB5.out.trans (lo_g hk6 HB5.out.size HLO.out))
  have HZ6 := Lib.hid ((hk6.block _ (heap_lt HZ5.out) HNE.out).trans HZ5.out)
  clear hr6 hk6
  obtain ⟨u0, u1, u2, u3⟩ := unit4 HZ6.out
  have y0 : w6.frozen? ⟨w.heap.size, 0, none⟩ = false := heap_frozen HZ6.out
  have y1 : w6.frozen? ⟨w.heap.size, 1, none⟩ = false := heap_frozen HZ6.out
  have y2 : w6.frozen? ⟨w.heap.size, 2, none⟩ = false := heap_frozen HZ6.out
  have y3 : w6.frozen? ⟨w.heap.size, 3, none⟩ = false := heap_frozen HZ6.out
  have hz : Z = 0 ∨ 0 < Z := by omega
  rcases hz with rfl | hz
  all_goals
    go_wp2_with fail
    refine (clone_any _ [] _ (fun _ => True) w6 (fun h => ⟨rfl, (HA.out h).2⟩) (RdL.empty _ _ _) (by simp)).mono ?_
    rintro e w7 ⟨A7, C7, rfl, hc7, hn7, hr7, hb7⟩
    obtain ⟨v0, v1, v2, v3⟩ := unit4 ((hb7.block _ (heap_lt HZ6.out)).trans HZ6.out)
    have x0 : w7.frozen? ⟨w.heap.size, 0, none⟩ = false := heap_frozen ((hb7.block _ (heap_lt HZ6.out)).trans HZ6.out)
    have x1 : w7.frozen? ⟨w.heap.size, 1, none⟩ = false := heap_frozen ((hb7.block _ (heap_lt HZ6.out)).trans HZ6.out)
    have x2 : w7.frozen? ⟨w.heap.size, 2, none⟩ = false := heap_frozen ((hb7.block _ (heap_lt HZ6.out)).trans HZ6.out)
    have x3 : w7.frozen? ⟨w.heap.size, 3, none⟩ = false := heap_frozen ((hb7.block _ (heap_lt HZ6.out)).trans HZ6.out)
    have HB7 := Lib.hid (HB6.out.trans (hb7.mono HB6.out.size))
    have HR7 : Hid (RdL w7 A7 [] (w.heap.size < ·)) := Lib.hid (RdL.empty _ _ _)
    have HN7 := Lib.hid hn7
    clear hb7 hr7 hn7 u0 u1 u2 u3 y0 y1 y2 y3
    go_wp2
    rw [HZZ.out]
    exact bodyPost_ret (v := .agg #[.int .i64 (n0 : Int), .int .i64 l1, .int .i64 l2, .slice A7 0 C7]) (by simp [results, Tryz.results82, go_sem, v0, v1, v2, v3]) rfl (AnsU.stored (u := ⟨(n0 : Int), l1, l2, []⟩) rfl HR7.out rfl (Nat.zero_le _) HN7.out HB7.out)
set_option maxHeartbeats 2000000 in
theorem read_all (g off : Nat) (b : Tx) (L : Nat) (G : Nat → Prop) (w : World) (hL : L = b.length) (h0 : 0 < L) (h11 : L < 11) (hA : (some ⟨g, off, none⟩ : Option Addr) = none → b.length = 0 ∧ L = 0) (hr : RdL w (some ⟨g, off, none⟩) b G) :
    Calls Tryz.prog 82 #[.slice (some ⟨g, off, none⟩) L L] w (AnsU (Fm.parse b) w) := by
  have HB0 : Hid (Below w.heap.size w (w.alloc (unitObj 0 0 0 none 0 0))) := Lib.hid ((Below.refl _ _).alloc (Nat.le_refl _) _)
  have HTK : Hid (b.take 11 = b) := Lib.hid (List.take_of_length_le (by omega))
  have HDR : Hid (b.drop 11 = []) := Lib.hid (List.drop_of_length_le (by omega))
  have HN : Hid (∀ w', Below w.heap.size w w' → Calls Tryz.prog 69 #[.slice (some ⟨g, off, none⟩) L L] w' (NewR b w')) := Lib.hid fun w' hb => by
    have := newReader_any _ b _ _ w' hA (hr.in_.old hb) (by omega)
    rw [← hL] at this; exact this
  have e11 : b.length < 11 := by omega
  have HA := Lib.hid hA
  clear hr hL hA
  go_enter Tryz.func82, Tryz.ntmps82
  go_wp2_with fail
  refine (HN.out _ HB0.out).mono ?_
  rintro e w1 ⟨gr, rfl, hlo, hr1, hb1⟩
  have HR1 := Lib.hid hr1
  have HB1 := Lib.hid (HB0.out.trans (hb1.mono HB0.out.size))
  have HLO := Lib.hid (Nat.le_trans HB0.out.size hlo)
  have HNE : Hid (¬ w.heap.size = gr) := Lib.hid (by have : (w.alloc (unitObj 0 0 0 none 0 0)).heap.size ≤ gr := hlo; simp at this; omega)
  have HZ1 : Hid (w1.heap[w.heap.size]? = some (unitObj 0 0 0 none 0 0)) := Lib.hid ((hb1.block _ (by simp)).trans (Go.Deep.blk_alloc_new _ _))
  obtain ⟨T, hT⟩ : ∃ T, T = b := ⟨_, rfl⟩
  rw [← hT] at HR1 e11
  have HT := Lib.hid hT
  obtain ⟨z1, z2, z3, z4, -⟩ := Fm.s_len T
  obtain ⟨n0, hn0⟩ : ∃ n, n = (Cd.byt (T, false)).toNat := ⟨_, rfl⟩
  obtain ⟨n3, hn3⟩ : ∃ n, n = (Cd.byt (Fm.s3 T)).toNat := ⟨_, rfl⟩
  obtain ⟨n4, hn4⟩ : ∃ n, n = (Cd.byt (Fm.s4 T)).toNat := ⟨_, rfl⟩
  obtain ⟨l1, hl1⟩ : ∃ l, l = Cd.num (Cd.tk 4 (Fm.s1 T)) := ⟨_, rfl⟩
  obtain ⟨l2, hl2⟩ : ∃ l, l = Cd.num (Cd.tk 4 (Fm.s2 T)) := ⟨_, rfl⟩
  have k0 : n0 < 256 := by rw [hn0]; exact (Cd.byt (T, false)).toNat_lt
  have k3 : n3 < 256 := by rw [hn3]; exact (Cd.byt (Fm.s3 T)).toNat_lt
  have k4 : n4 < 256 := by rw [hn4]; exact (Cd.byt (Fm.s4 T)).toNat_lt
  obtain ⟨Z, hZ⟩ : ∃ Z, Z = 256 * n3 + n4 := ⟨_, rfl⟩
  have hZs : (n3 : Int) * 256 + (n4 : Int) = (Z : Int) := by omega
  have hZl : Z < 65536 := by omega
  have HZZ : Hid (Fm.parse b = ⟨(n0 : Int), l1, l2, []⟩) := Lib.hid (by
    unfold Fm.parse
    rw [HTK.out, HDR.out, List.take_nil, hn0, hl1, hl2, hT]; rfl)
  have Hn0 := Lib.hid hn0
  have Hn3 := Lib.hid hn3
  have Hn4 := Lib.hid hn4
  have Hl1 := Lib.hid hl1
  have Hl2 := Lib.hid hl2
  clear hT HN hlo hb1 hr1 hn0 hn3 hn4 hl1 hl2 hZ
  go_wp2_with fail
  have hcall1 := rbyte_any gr (T, false) _ w1 HR1.out (by show T.length ≤ _; omega)
  rw [← Hn0.out] at hcall1
  refine hcall1.mono ?_
  clear hcall1
  rintro e w2 ⟨rfl, hr2, hk2⟩
  have HR2 : Hid (Rr w2 gr (Fm.s1 T) _) := Lib.hid hr2
  have HB2 := Lib.hid (HB1.out.trans (lo_g hk2 HB1.out.size HLO.out))
  have HZ2 := Lib.hid ((hk2.block _ (heap_lt HZ1.out) HNE.out).trans HZ1.out)
  clear hr2 hk2
  go_wp2_with fail
  have hcall2 := rint_any gr (Fm.s1 T) _ w2 HR2.out (by omega)
  rw [← Hl1.out] at hcall2
  refine hcall2.mono ?_
  clear hcall2
  rintro e w3 ⟨rfl, hr3, hk3⟩
  have HR3 : Hid (Rr w3 gr (Fm.s2 T) _) := Lib.hid hr3
  have HB3 := Lib.hid (HB2.out.trans (lo_g hk3 HB2.out.size HLO.out))
  have HZ3 := Lib.hid ((hk3.block _ (heap_lt HZ2.out) HNE.out).trans HZ2.out)
  clear hr3 hk3
  go_wp2_with fail
  have hcall3 := rint_any gr (Fm.s2 T) _ w3 HR3.out (by omega)
  rw [← Hl2.out] at hcall3
  refine hcall3.mono ?_
  clear hcall3
  rintro e w4 ⟨rfl, hr4, hk4⟩
  have HR4 : Hid (Rr w4 gr (Fm.s3 T) _) := Lib.hid hr4
  have HB4 := Lib.hid (HB3.out.trans (lo_g hk4 HB3.out.size HLO.out))
  have HZ4 := Lib.hid ((hk4.block _ (heap_lt HZ3.out) HNE.out).trans HZ3.out)
  clear hr4 hk4
  go_wp2_with fail
  have hcall4 := rbyte_any gr (Fm.s3 T) _ w4 HR4.out (by omega)
  rw [← Hn3.out] at hcall4
  refine hcall4.mono ?_
  clear hcall4
  rintro e w5 ⟨rfl, hr5, hk5⟩
  have HR5 : Hid (Rr w5 gr (Fm.s4 T) _) := Lib.hid hr5
  have HB5 := Lib.hid (HB4.out.trans (lo_g hk5 HB4.out.size HLO.out))
  have HZ5 := Lib.hid ((hk5.block _ (heap_lt HZ4.out) HNE.out).trans HZ4.out)
  clear hr5 hk5
  go_wp2_with fail
  have hcall5 := rbyte_any gr (Fm.s4 T) _ w5 HR5.out (by omega)
  rw [← Hn4.out] at hcall5
  refine hcall5.mono ?_
  clear hcall5
  rintro e w6 ⟨rfl, hr6, hk6⟩
  have HR6 : Hid (Rr w6 gr (Fm.s5 T) _) := Lib.hid hr6
  have HB6 := Lib.hid (HB5.out.trans (lo_g hk6 HB5.out.size HLO.out))
  have HZ6 := Lib.hid ((hk6.block _ (heap_lt HZ5.out) HNE.out).trans HZ5.out)
  clear hr6 hk6
  obtain ⟨u0, u1, u2, u3⟩ := unit4 HZ6.out
  have y0 : w6.frozen? ⟨w.heap.size, 0, none⟩ = false := heap_frozen HZ6.out
  have y1 : w6.frozen? ⟨w.heap.size, 1, none⟩ = false := heap_frozen HZ6.out
  have y2 : w6.frozen? ⟨w.heap.size, 2, none⟩ = false := heap_frozen HZ6.out
  have y3 : w6.frozen? ⟨w.heap.size, 3, none⟩ = false := heap_frozen HZ6.out
  have hz : Z = 0 ∨ 0 < Z := by omega
  rcases hz with rfl | hz
  all_goals
    go_wp2_with fail
    refine (clone_any _ [] _ (fun _ => True) w6 (fun h => by cases h) (RdL.empty _ _ _) (by simp)).mono ?_
    rintro e w7 ⟨A7, C7, rfl, hc7, hn7, hr7, hb7⟩
    obtain ⟨v0, v1, v2, v3⟩ := unit4 ((hb7.block _ (heap_lt HZ6.out)).trans HZ6.out)
    have x0 : w7.frozen? ⟨w.heap.size, 0, none⟩ = false := heap_frozen ((hb7.block _ (heap_lt HZ6.out)).trans HZ6.out)
    have x1 : w7.frozen? ⟨w.heap.size, 1, none⟩ = false := heap_frozen ((hb7.block _ (heap_lt HZ6.out)).trans HZ6.out)
    have x2 : w7.frozen? ⟨w.heap.size, 2, none⟩ = false := heap_frozen ((hb7.block _ (heap_lt HZ6.out)).trans HZ6.out)
    have x3 : w7.frozen? ⟨w.heap.size, 3, none⟩ = false := heap_frozen ((hb7.block _ (heap_lt HZ6.out)).trans HZ6.out)
    have HB7 := Lib.hid (HB6.out.trans (hb7.mono HB6.out.size))
    have HR7 : Hid (RdL w7 A7 [] (w.heap.size < ·)) := Lib.hid (RdL.empty _ _ _)
    have HN7 := Lib.hid hn7
    clear hb7 hr7 hn7 u0 u1 u2 u3 y0 y1 y2 y3
    go_wp2
    rw [HZZ.out]
    exact bodyPost_ret (v := .agg #[.int .i64 (n0 : Int), .int .i64 l1, .int .i64 l2, .slice A7 0 C7]) (by simp [results, Tryz.results82, go_sem, v0, v1, v2, v3]) rfl (AnsU.stored (u := ⟨(n0 : Int), l1, l2, []⟩) rfl HR7.out rfl (Nat.zero_le _) HN7.out HB7.out)
set_option maxHeartbeats 2000000 in
theorem read_few (g off : Nat) (b : Tx) (L C : Nat) (G : Nat → Prop) (w : World) (hL : L = b.length) (h0 : 0 < L) (h11 : L < 11) (hC : L < C) (hA : (some ⟨g, off, none⟩ : Option Addr) = none → b.length = 0 ∧ C = 0) (hr : RdL w (some ⟨g, off, none⟩) b G) :
    Calls Tryz.prog 82 #[.slice (some ⟨g, off, none⟩) L C] w (AnsU (Fm.parse b) w) := by
  have HB0 : Hid (Below w.heap.size w (w.alloc (unitObj 0 0 0 none 0 0))) := Lib.hid ((Below.refl _ _).alloc (Nat.le_refl _) _)
  have HTK : Hid (b.take 11 = b) := Lib.hid (List.take_of_length_le (by omega))
  have HDR : Hid (b.drop 11 = []) := Lib.hid (List.drop_of_length_le (by omega))
  have HN : Hid (∀ w', Below w.heap.size w w' → Calls Tryz.prog 69 #[.slice (some ⟨g, off, none⟩) L C] w' (NewR b w')) := Lib.hid fun w' hb => by
    have := newReader_any _ b _ _ w' hA (hr.in_.old hb) (by omega)
    rw [← hL] at this; exact this
  have e11 : b.length < 11 := by omega
  have HA := Lib.hid hA
  clear hr hL hA
  have q2 : ¬ C = L := by omega
  have q3 : ¬ L = C := by omega
  have q4 : L ≤ C := by omega
  go_enter Tryz.func82, Tryz.ntmps82
  go_wp2_with fail
  refine (HN.out _ HB0.out).mono ?_
  rintro e w1 ⟨gr, rfl, hlo, hr1, hb1⟩
  have HR1 := Lib.hid hr1
  have HB1 := Lib.hid (HB0.out.trans (hb1.mono HB0.out.size))
  have HLO := Lib.hid (Nat.le_trans HB0.out.size hlo)
  have HNE : Hid (¬ w.heap.size = gr) := Lib.hid (by have : (w.alloc (unitObj 0 0 0 none 0 0)).heap.size ≤ gr := hlo; simp at this; omega)
  have HZ1 : Hid (w1.heap[w.heap.size]? = some (unitObj 0 0 0 none 0 0)) := Lib.hid ((hb1.block _ (by simp)).trans (Go.Deep.blk_alloc_new _ _))
  obtain ⟨T, hT⟩ : ∃ T, T = b := ⟨_, rfl⟩
  rw [← hT] at HR1 e11
  have HT := Lib.hid hT
  obtain ⟨z1, z2, z3, z4, -⟩ := Fm.s_len T
  obtain ⟨n0, hn0⟩ : ∃ n, n = (Cd.byt (T, false)).toNat := ⟨_, rfl⟩
  obtain ⟨n3, hn3⟩ : ∃ n, n = (Cd.byt (Fm.s3 T)).toNat := ⟨_, rfl⟩
  obtain ⟨n4, hn4⟩ : ∃ n, n = (Cd.byt (Fm.s4 T)).toNat := ⟨_, rfl⟩
  obtain ⟨l1, hl1⟩ : ∃ l, l = Cd.num (Cd.tk 4 (Fm.s1 T)) := ⟨_, rfl⟩
  obtain ⟨l2, hl2⟩ : ∃ l, l = Cd.num (Cd.tk 4 (Fm.s2 T)) := ⟨_, rfl⟩
  have k0 : n0 < 256 := by rw [hn0]; exact (Cd.byt (T, false)).toNat_lt
  have k3 : n3 < 256 := by rw [hn3]; exact (Cd.byt (Fm.s3 T)).toNat_lt
  have k4 : n4 < 256 := by rw [hn4]; exact (Cd.byt (Fm.s4 T)).toNat_lt
  obtain ⟨Z, hZ⟩ : ∃ Z, Z = 256 * n3 + n4 := ⟨_, rfl⟩
  have hZs : (n3 : Int) * 256 + (n4 : Int) = (Z : Int) := by omega
  have hZl : Z < 65536 := by omega
  have HZZ : Hid (Fm.parse b = ⟨(n0 : Int), l1, l2, []⟩) := Lib.hid (by
    unfold Fm.parse
    rw [HTK.out, HDR.out, List.take_nil, hn0, hl1, hl2, hT]; rfl)
  have Hn0 := Lib.hid hn0
  have Hn3 := Lib.hid hn3
  have Hn4 := Lib.hid hn4
  have Hl1 := Lib.hid hl1
  have Hl2 := Lib.hid hl2
  clear hT HN hlo hb1 hr1 hn0 hn3 hn4 hl1 hl2 hZ
  go_wp2_with fail
  have hcall1 := rbyte_any gr (T, false) _ w1 HR1.out (by show T.length ≤ _; omega)
  rw [← Hn0.out] at hcall1
  refine hcall1.mono ?_
  clear hcall1
  rintro e w2 ⟨rfl, hr2, hk2⟩
  have HR2 : Hid (Rr w2 gr (Fm.s1 T) _) := Lib.hid hr2
  have HB2 := Lib.hid (HB1.out.trans (lo_g hk2 HB1.out.size HLO.out))
  have HZ2 := Lib.hid ((hk2.block _ (heap_lt HZ1.out) HNE.out).trans HZ1.out)
  clear hr2 hk2
  go_wp2_with fail
  have hcall2 := rint_any gr (Fm.s1 T) _ w2 HR2.out (by omega)
  rw [← Hl1.out] at hcall2
  refine hcall2.mono ?_
  clear hcall2
  rintro e w3 ⟨rfl, hr3, hk3⟩
  have HR3 : Hid (Rr w3 gr (Fm.s2 T) _) := Lib.hid hr3
  have HB3 := Lib.hid (HB2.out.trans (lo_g hk3 HB2.out.size HLO.out))
  have HZ3 := Lib.hid ((hk3.block _ (heap_lt HZ2.out) HNE.out).trans HZ2.out)
  clear hr3 hk3
  go_wp2_with fail
  have hcall3 := rint_any gr (Fm.s2 T) _ w3 HR3.out (by omega)
  rw [← Hl2.out] at hcall3
  refine hcall3.mono ?_
  clear hcall3
  rintro e w4 ⟨rfl, hr4, hk4⟩
  have HR4 : Hid (Rr w4 gr (Fm.s3 T) _) := Lib.hid hr4
  have HB4 := Lib.hid (HB3.out.trans (lo_g hk4 HB3.out.size HLO.out))
  have HZ4 := Lib.hid ((hk4.block _ (heap_lt HZ3.out) HNE.out).trans HZ3.out)
  clear hr4 hk4
  go_wp2_with fail
  have hcall4 := rbyte_any gr (Fm.s3 T) _ w4 HR4.out (by omega)
  rw [← Hn3.out] at hcall4
  refine hcall4.mono ?_
  clear hcall4
  rintro e w5 ⟨rfl, hr5, hk5⟩
  have HR5 : Hid (Rr w5 gr (Fm.s4 T) _) := Lib.hid hr5
  have HB5 := Lib.hid (HB4.out.trans (lo_g hk5 HB4.out.size HLO.out))
  have HZ5 := Lib.hid ((hk5.block _ (heap_lt HZ4.out) HNE.out).trans HZ4.out)
  clear hr5 hk5
  go_wp2_with fail
  have hcall5 := rbyte_any gr (Fm.s4 T) _ w5 HR5.out (by omega)
  rw [← Hn4.out] at hcall5
  refine hcall5.mono ?_
  clear hcall5
  rintro e w6 ⟨rfl, hr6, hk6⟩
  have HR6 : Hid (Rr w6 gr (Fm.s5 T) _) := Lib.hid hr6
  have HB6 := Lib.hid (HB5.out.trans (lo_g hk6 HB5.out.size HLO.out))
  have HZ6 := Lib.hid ((hk6.block _ (heap_lt HZ5.out) HNE.out).trans HZ5.out)
  clear hr6 hk6
  obtain ⟨u0, u1, u2, u3⟩ := unit4 HZ6.out
  have y0 : w6.frozen? ⟨w.heap.size, 0, none⟩ = false := heap_frozen HZ6.out
  have y1 : w6.frozen? ⟨w.heap.size, 1, none⟩ = false := heap_frozen HZ6.out
  have y2 : w6.frozen? ⟨w.heap.size, 2, none⟩ = false := heap_frozen HZ6.out
  have y3 : w6.frozen? ⟨w.heap.size, 3, none⟩ = false := heap_frozen HZ6.out
  have hz : Z = 0 ∨ 0 < Z := by omega
  rcases hz with rfl | hz
  all_goals
    go_wp2_with fail
    refine (clone_any _ [] _ (fun _ => True) w6 (fun h => by cases h) (RdL.empty _ _ _) (by simp)).mono ?_
    rintro e w7 ⟨A7, C7, rfl, hc7, hn7, hr7, hb7⟩
    obtain ⟨v0, v1, v2, v3⟩ := unit4 ((hb7.block _ (heap_lt HZ6.out)).trans HZ6.out)
    have x0 : w7.frozen? ⟨w.heap.size, 0, none⟩ = false := heap_frozen ((hb7.block _ (heap_lt HZ6.out)).trans HZ6.out)
    have x1 : w7.frozen? ⟨w.heap.size, 1, none⟩ = false := heap_frozen ((hb7.block _ (heap_lt HZ6.out)).trans HZ6.out)
    have x2 : w7.frozen? ⟨w.heap.size, 2, none⟩ = false := heap_frozen ((hb7.block _ (heap_lt HZ6.out)).trans HZ6.out)
    have x3 : w7.frozen? ⟨w.heap.size, 3, none⟩ = false := heap_frozen ((hb7.block _ (heap_lt HZ6.out)).trans HZ6.out)
    have HB7 := Lib.hid (HB6.out.trans (hb7.mono HB6.out.size))
    have HR7 : Hid (RdL w7 A7 [] (w.heap.size < ·)) := Lib.hid (RdL.empty _ _ _)
    have HN7 := Lib.hid hn7
    clear hb7 hr7 hn7 u0 u1 u2 u3 y0 y1 y2 y3
    go_wp2
    rw [HZZ.out]
    exact bodyPost_ret (v := .agg #[.int .i64 (n0 : Int), .int .i64 l1, .int .i64 l2, .slice A7 0 C7]) (by simp [results, Tryz.results82, go_sem, v0, v1, v2, v3]) rfl (AnsU.stored (u := ⟨(n0 : Int), l1, l2, []⟩) rfl HR7.out rfl (Nat.zero_le _) HN7.out HB7.out)
theorem read_any (A : Option Addr) (b : Tx) (L C : Nat) (G : Nat → Prop) (w : World) (hL : L = b.length) (hC : L ≤ C) (hl : L ≤ 1000000) (hA : A = none → L = 0 ∧ C = 0) (hr : RdL w A b G) :
    Calls Tryz.prog 82 #[.slice A L C] w (AnsU (Fm.parse b) w) := by
  by_cases h0 : L = 0
  · subst h0; exact read_none A b C G w hL (fun h => ⟨hL.symm, (hA h).2⟩) hr
  · obtain ⟨g, off, rfl, _, _⟩ := hr (by omega)
    by_cases h11 : L < 11
    · by_cases hc : L = C
      · subst hc; exact read_all g off b L G w hL (by omega) h11 (fun h => by cases h) hr
      · exact read_few g off b L C G w hL (by omega) h11 (by omega) (fun h => by cases h) hr
    · obtain ⟨D, rfl⟩ : ∃ D, L = D + 11 := ⟨L - 11, by omega⟩
      obtain ⟨E, rfl⟩ : ∃ E, C = E + 11 := ⟨C - 11, by omega⟩
      exact read_long g off b D E G w hL (by omega) (by omega) hr
end Go.Proofs.YtndofmoepjfnfaaGreat
namespace Go.Proofs.YtndofmoepjfnfaaGreat
open Go.RowKit
open Pt (Tx)

theorem equal_any (A A' : Option Addr) (a b : Tx) (n m C C' : Nat) (G G' : Nat → Prop) (w : World) (hn : n = a.length) (hm : m = b.length) (hr : RdL w A a G) (hr' : RdL w A' b G') :
    Calls Tryz.prog 73 #[.slice A n C, .slice A' m C'] w fun e w' => e = .returned (.bool (a == b)) ∧ w = w' := by
  subst hn; subst hm
  have s1 := hr.str C
  have s2 := hr'.str C'
  have e1 := tx_toList a
  have e2 := tx_toList b
  clear hr hr'
  go_enter Tryz.func73, Tryz.ntmps73
  go_wp2
  go_ret
  exact ⟨rfl, rfl⟩
end Go.Proofs.YtndofmoepjfnfaaGreat
namespace Go.Proofs.YtndofmoepjfnfaaGreat
open Go.RowKit
open Pt (Tx)

/-- what Get answers: unit and error -/
def GotU (b : Tx) (w : World) (e : Ending) (w' : World) : Prop :=
  ∃ A m C, e = .returned (.tuple #[.agg #[.int .i64 (Fm.got b).kind, .int .i64 (Fm.got b).label, .int .i64 (Fm.got b).number, .slice A m C], .int .i64 (Fm.gotE b)]) ∧ m = (Fm.got b).load.length ∧ m ≤ C ∧ (A = none → m = 0 ∧ C = 0) ∧ RdL w' A (Fm.got b).load (w.heap.size ≤ ·) ∧ Below w.heap.size w w'
theorem GotU.stored {w w7 : World} {B : Nat} {a0 a1 a2 a3 : Value} {b : Tx} {u : Fm.U} {er : Int} {A : Option Addr} {m C : Nat} (hu : Fm.got b = u) (he : Fm.gotE b = er) (hB : B = w.heap.size) (hr : RdL w7 A u.load (B < ·)) (hm : m = u.load.length) (hc : m ≤ C) (hn : A = none → m = 0 ∧ C = 0) (hb : Below w.heap.size w w7) :
    GotU b w (.returned (.tuple #[.agg #[.int .i64 u.kind, .int .i64 u.label, .int .i64 u.number, .slice A m C], .int .i64 er])) ((((w7.setCell ⟨B, 0, none⟩ a0).setCell ⟨B, 1, none⟩ a1).setCell ⟨B, 2, none⟩ a2).setCell ⟨B, 3, none⟩ a3) := by
  subst hB
  have hk : Kp (· = w.heap.size) w7 ((((w7.setCell ⟨w.heap.size, 0, none⟩ a0).setCell ⟨w.heap.size, 1, none⟩ a1).setCell ⟨w.heap.size, 2, none⟩ a2).setCell ⟨w.heap.size, 3, none⟩ a3) := (((Kp.store _ _ _ _).trans (Kp.store _ _ _ _)).trans (Kp.store _ _ _ _)).trans (Kp.store _ _ _ _)
  exact ⟨A, m, C, by rw [hu, he], by rw [hu]; exact hm, hc, hn, by rw [hu]; exact (hr.kp hk (fun x hx hx' => by omega)).mono (fun x hx => by omega), hb.trans (hk.below hb.size (fun x hx => by omega))⟩
set_option maxHeartbeats 4000000 in
theorem frameGet_any (A : Option Addr) (b : Tx) (L C : Nat) (G : Nat → Prop) (w : World) (hL : L = b.length) (hC : L ≤ C) (hl : L ≤ 1000000) (hA : A = none → L = 0 ∧ C = 0) (hr : RdL w A b G) :
    Calls Tryz.prog 68 #[.slice A L C] w (GotU b w) := by
  have HB0 : Hid (Below w.heap.size w (w.alloc (unitObj 0 0 0 none 0 0))) := Lib.hid ((Below.refl _ _).alloc (Nat.le_refl _) _)
  have HR := Lib.hid hr
  have HL := Lib.hid hL
  have HN := Lib.hid (read_any A b L C G (w.alloc (unitObj 0 0 0 none 0 0)) hL hC hl hA (hr.old HB0.out))
  unfold unitObj at HN
  obtain ⟨er, her⟩ : ∃ er, er = Fm.err (Fm.parse b) := ⟨_, rfl⟩
  obtain ⟨k, lb, nb, s, hu⟩ : ∃ k lb nb s, Fm.parse b = ⟨k, lb, nb, s⟩ := ⟨_, _, _, _, rfl⟩
  rw [hu] at HN
  have HU := Lib.hid hu
  have HE := Lib.hid her
  clear hL hA hr hu her
  by_cases he : er = 0
  · subst he
    have hok : Fm.Ok (Fm.parse b) := Fm.err_zero.1 HE.out.symm
    by_cases hg : Fm.blk (Fm.parse b) = b
    · have heq : (Fm.put (Fm.parse b) == b) = true := by rw [Fm.put_ok hok, hg]; simp
      have HGE := Lib.hid (Fm.gotE_yes ⟨hok, hg⟩)
      have HG := Lib.hid (Fm.got_yes ⟨hok, hg⟩)
      rw [HU.out] at heq HG
      have HE2 := Lib.hid (HU.out ▸ HE.out)
      clear hok hg HE
      go_enter Tryz.func68, Tryz.ntmps68
      go_wp2_with fail
      refine HN.out.mono ?_
      rintro e w1 ⟨A1, m1, C1, rfl, hm1, hc1, hn1, hr1, hb1⟩
      have HB1 := Lib.hid (HB0.out.trans (hb1.mono HB0.out.size))
      have HZ1 : Hid (w1.heap[w.heap.size]? = some (unitObj 0 0 0 none 0 0)) := Lib.hid ((hb1.block _ (by simp)).trans (Go.Deep.blk_alloc_new _ _))
      have HR1 : Hid (RdL w1 A1 s (w.heap.size < ·)) := Lib.hid (hr1.mono fun x hx => by simp at hx; omega)
      have HM1 : Hid (m1 = s.length) := Lib.hid hm1
      have HN1 := Lib.hid hn1
      have hB2 : Below w1.heap.size w1 (w1.alloc (unitObj k lb nb A1 m1 C1)) := (Below.refl _ _).alloc (Nat.le_refl _) _
      have HU2 : Hid ((w1.alloc (unitObj k lb nb A1 m1 C1)).heap[w1.heap.size]? = some (unitObj k lb nb A1 m1 C1)) := Lib.hid (Go.Deep.blk_alloc_new _ _)
      have HZ2 := Lib.hid ((hB2.block _ (heap_lt HZ1.out)).trans HZ1.out)
      have HR2 := Lib.hid (HR1.out.old hB2)
      have HB2 := Lib.hid (HB1.out.trans (hB2.mono HB1.out.size))
      clear hm1 hn1 hr1 hb1 hB2
      go_wp2_with fail
      refine (framePut_any k lb nb A1 s m1 C1 _ _ HM1.out HN1.out HR2.out).mono ?_
      rintro e w3 ⟨A3, n3, C3, rfl, hn3, hc3, -, ha3, hr3, hb3⟩
      have hb3' : Below (w1.alloc (unitObj k lb nb A1 m1 C1)).heap.size (w1.alloc (unitObj k lb nb A1 m1 C1)) w3 := hb3
      have HU3 := Lib.hid ((hb3'.block _ (heap_lt HU2.out)).trans HU2.out)
      have HZ3 := Lib.hid ((hb3'.block _ (heap_lt HZ2.out)).trans HZ2.out)
      have HS3 := Lib.hid (HR2.out.old hb3')
      have HB3 := Lib.hid (HB2.out.trans (hb3'.mono HB2.out.size))
      have HR3 := Lib.hid hr3
      have HN3 := Lib.hid hn3
      clear hb3 hb3' hr3 hn3 hc3 ha3 HU2 HZ2 HR2 HB2 HZ1 HR1 HB1
      obtain ⟨u0, u1, u2, u3⟩ := unit4 HU3.out
      obtain ⟨z0, z1, z2, z3⟩ := unit4 HZ3.out
      have y0 : w3.frozen? ⟨w.heap.size, 0, none⟩ = false := heap_frozen HZ3.out
      have y1 : w3.frozen? ⟨w.heap.size, 1, none⟩ = false := heap_frozen HZ3.out
      have y2 : w3.frozen? ⟨w.heap.size, 2, none⟩ = false := heap_frozen HZ3.out
      have y3 : w3.frozen? ⟨w.heap.size, 3, none⟩ = false := heap_frozen HZ3.out
      rw [← HE2.out]
      go_wp2_with fail
      refine (equal_any A3 A _ b n3 L C3 C _ _ w3 HN3.out HL.out HR3.out (HR.out.old HB3.out)).mono ?_
      rw [heq]
      rintro e w4 ⟨rfl, hw4⟩
      subst hw4
      go_wp2
      exact bodyPost_ret (v := .tuple #[.agg #[.int .i64 k, .int .i64 lb, .int .i64 nb, .slice A1 m1 C1], .int .i64 0]) (by simp [results, Tryz.results68, go_sem, z0, z1, z2, z3]) rfl (GotU.stored (u := ⟨k, lb, nb, s⟩) HG.out HGE.out rfl HS3.out HM1.out hc1 HN1.out HB3.out)
    · have heq : (Fm.put (Fm.parse b) == b) = false := by rw [Fm.put_ok hok]; simpa using hg
      have HGE := Lib.hid (Fm.gotE_no (b := b) fun h => hg h.2)
      have HG := Lib.hid (Fm.got_no (b := b) fun h => hg h.2)
      rw [HU.out] at heq
      have HE2 := Lib.hid (HU.out ▸ HE.out)
      clear hok hg HE
      go_enter Tryz.func68, Tryz.ntmps68
      go_wp2_with fail
      refine HN.out.mono ?_
      rintro e w1 ⟨A1, m1, C1, rfl, hm1, hc1, hn1, hr1, hb1⟩
      have HB1 := Lib.hid (HB0.out.trans (hb1.mono HB0.out.size))
      have HZ1 : Hid (w1.heap[w.heap.size]? = some (unitObj 0 0 0 none 0 0)) := Lib.hid ((hb1.block _ (by simp)).trans (Go.Deep.blk_alloc_new _ _))
      have HR1 : Hid (RdL w1 A1 s (w.heap.size < ·)) := Lib.hid (hr1.mono fun x hx => by simp at hx; omega)
      have HM1 : Hid (m1 = s.length) := Lib.hid hm1
      have HN1 := Lib.hid hn1
      have hB2 : Below w1.heap.size w1 (w1.alloc (unitObj k lb nb A1 m1 C1)) := (Below.refl _ _).alloc (Nat.le_refl _) _
      have HU2 : Hid ((w1.alloc (unitObj k lb nb A1 m1 C1)).heap[w1.heap.size]? = some (unitObj k lb nb A1 m1 C1)) := Lib.hid (Go.Deep.blk_alloc_new _ _)
      have HZ2 := Lib.hid ((hB2.block _ (heap_lt HZ1.out)).trans HZ1.out)
      have HR2 := Lib.hid (HR1.out.old hB2)
      have HB2 := Lib.hid (HB1.out.trans (hB2.mono HB1.out.size))
      clear hm1 hn1 hr1 hb1 hB2
      go_wp2_with fail
      refine (framePut_any k lb nb A1 s m1 C1 _ _ HM1.out HN1.out HR2.out).mono ?_
      rintro e w3 ⟨A3, n3, C3, rfl, hn3, hc3, -, ha3, hr3, hb3⟩
      have hb3' : Below (w1.alloc (unitObj k lb nb A1 m1 C1)).heap.size (w1.alloc (unitObj k lb nb A1 m1 C1)) w3 := hb3
      have HU3 := Lib.hid ((hb3'.block _ (heap_lt HU2.out)).trans HU2.out)
      have HZ3 := Lib.hid ((hb3'.block _ (heap_lt HZ2.out)).trans HZ2.out)
      have HS3 := Lib.hid (HR2.out.old hb3')
      have HB3 := Lib.hid (HB2.out.trans (hb3'.mono HB2.out.size))
      have HR3 := Lib.hid hr3
      have HN3 := Lib.hid hn3
      clear hb3 hb3' hr3 hn3 hc3 ha3 HU2 HZ2 HR2 HB2 HZ1 HR1 HB1
      obtain ⟨u0, u1, u2, u3⟩ := unit4 HU3.out
      obtain ⟨z0, z1, z2, z3⟩ := unit4 HZ3.out
      have y0 : w3.frozen? ⟨w.heap.size, 0, none⟩ = false := heap_frozen HZ3.out
      have y1 : w3.frozen? ⟨w.heap.size, 1, none⟩ = false := heap_frozen HZ3.out
      have y2 : w3.frozen? ⟨w.heap.size, 2, none⟩ = false := heap_frozen HZ3.out
      have y3 : w3.frozen? ⟨w.heap.size, 3, none⟩ = false := heap_frozen HZ3.out
      rw [← HE2.out]
      go_wp2_with fail
      refine (equal_any A3 A _ b n3 L C3 C _ _ w3 HN3.out HL.out HR3.out (HR.out.old HB3.out)).mono ?_
      rw [heq]
      rintro e w4 ⟨rfl, hw4⟩
      subst hw4
      go_wp2
      exact bodyPost_ret (v := .tuple #[.agg #[.int .i64 0, .int .i64 0, .int .i64 0, .slice none 0 0], .int .i64 2]) (by simp [results, Tryz.results68, go_sem, z0, z1, z2, z3]) rfl (GotU.stored (u := Fm.zero) HG.out HGE.out rfl (RdL.empty _ _ _) rfl (Nat.le_refl _) (fun _ => ⟨rfl, rfl⟩) HB3.out)
  · have hno : ¬ Fm.Good b := fun h => he (HE.out.trans (Fm.err_ok h.1))
    have HGE := Lib.hid (Fm.gotE_no hno)
    have HG := Lib.hid (Fm.got_no hno)
    have q1 : (er == 0) = false := beq_eq_false_iff_ne.2 he
    have q2 : (er != 0) = true := bne_iff_ne.2 he
    have HE2 := Lib.hid (HU.out ▸ HE.out)
    clear hno he HE
    go_enter Tryz.func68, Tryz.ntmps68
    go_wp2_with fail
    refine HN.out.mono ?_
    rintro e w1 ⟨A1, m1, C1, rfl, hm1, hc1, hn1, hr1, hb1⟩
    have HB1 := Lib.hid (HB0.out.trans (hb1.mono HB0.out.size))
    have HZ1 : Hid (w1.heap[w.heap.size]? = some (unitObj 0 0 0 none 0 0)) := Lib.hid ((hb1.block _ (by simp)).trans (Go.Deep.blk_alloc_new _ _))
    have HR1 : Hid (RdL w1 A1 s (w.heap.size < ·)) := Lib.hid (hr1.mono fun x hx => by simp at hx; omega)
    have HM1 : Hid (m1 = s.length) := Lib.hid hm1
    have HN1 := Lib.hid hn1
    have hB2 : Below w1.heap.size w1 (w1.alloc (unitObj k lb nb A1 m1 C1)) := (Below.refl _ _).alloc (Nat.le_refl _) _
    have HU2 : Hid ((w1.alloc (unitObj k lb nb A1 m1 C1)).heap[w1.heap.size]? = some (unitObj k lb nb A1 m1 C1)) := Lib.hid (Go.Deep.blk_alloc_new _ _)
    have HZ2 := Lib.hid ((hB2.block _ (heap_lt HZ1.out)).trans HZ1.out)
    have HR2 := Lib.hid (HR1.out.old hB2)
    have HB2 := Lib.hid (HB1.out.trans (hB2.mono HB1.out.size))
    clear hm1 hn1 hr1 hb1 hB2
    go_wp2_with fail
    refine (framePut_any k lb nb A1 s m1 C1 _ _ HM1.out HN1.out HR2.out).mono ?_
    rintro e w3 ⟨A3, n3, C3, rfl, hn3, hc3, -, ha3, hr3, hb3⟩
    have hb3' : Below (w1.alloc (unitObj k lb nb A1 m1 C1)).heap.size (w1.alloc (unitObj k lb nb A1 m1 C1)) w3 := hb3
    have HU3 := Lib.hid ((hb3'.block _ (heap_lt HU2.out)).trans HU2.out)
    have HZ3 := Lib.hid ((hb3'.block _ (heap_lt HZ2.out)).trans HZ2.out)
    have HS3 := Lib.hid (HR2.out.old hb3')
    have HB3 := Lib.hid (HB2.out.trans (hb3'.mono HB2.out.size))
    have HR3 := Lib.hid hr3
    have HN3 := Lib.hid hn3
    clear hb3 hb3' hr3 hn3 hc3 ha3 HU2 HZ2 HR2 HB2 HZ1 HR1 HB1
    obtain ⟨u0, u1, u2, u3⟩ := unit4 HU3.out
    obtain ⟨z0, z1, z2, z3⟩ := unit4 HZ3.out
    have y0 : w3.frozen? ⟨w.heap.size, 0, none⟩ = false := heap_frozen HZ3.out
    have y1 : w3.frozen? ⟨w.heap.size, 1, none⟩ = false := heap_frozen HZ3.out
    have y2 : w3.frozen? ⟨w.heap.size, 2, none⟩ = false := heap_frozen HZ3.out
    have y3 : w3.frozen? ⟨w.heap.size, 3, none⟩ = false := heap_frozen HZ3.out
    rw [← HE2.out]
    go_wp2
    exact bodyPost_ret (v := .tuple #[.agg #[.int .i64 0, .int .i64 0, .int .i64 0, .slice none 0 0], .int .i64 2]) (by simp [results, Tryz.results68, go_sem, z0, z1, z2, z3]) rfl (GotU.stored (u := Fm.zero) HG.out HGE.out rfl (RdL.empty _ _ _) rfl (Nat.le_refl _) (fun _ => ⟨rfl, rfl⟩) HB3.out)
end Go.Proofs.YtndofmoepjfnfaaGreat
