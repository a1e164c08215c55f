/- What read of package frame answers: what bytes say where they say it. What bytes.Equal answers. What Get of package frame answers. What Good of package volume answers. Tapes in memory: a slice of tapes that reads as a list, and parity as it is made, a slice of slices of rows. No function of the program. What package group asks of tapes: is one lost, has one blocks, is the room of one too small, are all blocks good. -/
import Derived.Test.YtfkoomldncfdnaaGreatMe
import Derived.Test.YtfkoomldncfdnaaGreatChecked
import Derived.OwnWalk
import Derived.Handy
import Derived.WalkSpells
import Derived.WalkLawsBesides
import Derived.StillTailTactics
import Derived.Test.YtfkoomldncfdnaaGreatMb
import Derived.BigQuiet
import Derived.Deep.QuietTactic
import Derived.Deep.RegionWith
import Derived.Test.YtfkoomldncfdnaaGreatMc
namespace Go.Proofs.YtfkoomldncfdnaaGreat
open Go.RowKit
open Pt (Tx)

/-- a unit that is answered by value, its load in new memory -/
def AnsU (u : Fm.U) (w : World) (e : Ending) (w' : World) : Prop :=
  ∃ A m C, e = .returned (.agg #[.int .i64 u.kind, .int .i64 u.label, .int .i64 u.number, .slice A m C]) ∧ m = u.load.length ∧ m ≤ C ∧ (A = none → m = 0 ∧ C = 0) ∧ RdL w' A u.load (w.heap.size ≤ ·) ∧ Below w.heap.size w w'
/-- a unit was stored into a block that is none of its load's -/
theorem AnsU.stored {w w7 : World} {B : Nat} {a0 a1 a2 a3 : Value} {u : Fm.U} {A : Option Addr} {m C : Nat} (hB : B = w.heap.size) (hr : RdL w7 A u.load (B < ·)) (hm : m = u.load.length) (hc : m ≤ C) (hn : A = none → m = 0 ∧ C = 0) (hb : Below w.heap.size w w7) :
    AnsU u w (.returned (.agg #[.int .i64 u.kind, .int .i64 u.label, .int .i64 u.number, .slice A m C])) ((((w7.setCell ⟨B, 0, none⟩ a0).setCell ⟨B, 1, none⟩ a1).setCell ⟨B, 2, none⟩ a2).setCell ⟨B, 3, none⟩ a3) := by
  subst hB
  have hk : Kp (· = w.heap.size) w7 ((((w7.setCell ⟨w.heap.size, 0, none⟩ a0).setCell ⟨w.heap.size, 1, none⟩ a1).setCell ⟨w.heap.size, 2, none⟩ a2).setCell ⟨w.heap.size, 3, none⟩ a3) := (((Kp.store _ _ _ _).trans (Kp.store _ _ _ _)).trans (Kp.store _ _ _ _)).trans (Kp.store _ _ _ _)
  exact ⟨A, m, C, rfl, hm, hc, hn, (hr.kp hk (fun x hx hx' => by omega)).mono (fun x hx => by omega), hb.trans (hk.below hb.size (fun x hx => by omega))⟩
set_option maxHeartbeats 2000000 in
theorem read_long (g off : Nat) (b : Tx) (D E : Nat) (G : Nat → Prop) (w : World) (hL : D + 11 = b.length) (hC : D ≤ E) (hl : D ≤ 1000000) (hr : RdL w (some ⟨g, off, none⟩) b G) :
    Calls Tryz.prog 106 #[.slice (some ⟨g, off, none⟩) (D + 11) (E + 11)] w (AnsU (Fm.parse b) w) := by
  have HB0 : Hid (Below w.heap.size w (w.alloc (unitObj 0 0 0 none 0 0))) := Lib.hid ((Below.refl _ _).alloc (Nat.le_refl _) _)
  have HR := Lib.hid hr
  have HL := Lib.hid hL
  have e11 : (b.take 11).length = 11 := by rw [List.length_take, ← hL]; omega
  have HN : Hid (∀ w', Below w.heap.size w w' → Calls Tryz.prog 92 #[.slice (some ⟨g, off, none⟩) 11 (E + 11)] w' (NewR (b.take 11) w')) := Lib.hid fun w' hb => by
    have := newReader_any (some ⟨g, off, none⟩) (b.take 11) (E + 11) _ w' (fun h => by cases h) ((hr.in_.old hb).take 11) (by rw [e11]; omega)
    rw [e11] at this; exact this
  clear hr hL
  have q0 : ¬ D + 11 < 11 := by omega
  have q1 : ¬ (D : Int) + 11 < 11 := by omega
  go_enter Tryz.func106, Tryz.ntmps106
  go_wp2_with fail
  refine (HN.out _ HB0.out).mono ?_
  rintro e w1 ⟨gr, rfl, hlo, hr1, hb1⟩
  have HR1 := Lib.hid hr1
  have HB1 := Lib.hid (HB0.out.trans (hb1.mono HB0.out.size))
  have HLO := Lib.hid (Nat.le_trans HB0.out.size hlo)
  have HNE : Hid (¬ w.heap.size = gr) := Lib.hid (by have : (w.alloc (unitObj 0 0 0 none 0 0)).heap.size ≤ gr := hlo; simp at this; omega)
  have HZ1 : Hid (w1.heap[w.heap.size]? = some (unitObj 0 0 0 none 0 0)) := Lib.hid ((hb1.block _ (by simp)).trans (Go.Deep.blk_alloc_new _ _))
  obtain ⟨T, hT⟩ : ∃ T, T = b.take 11 := ⟨_, rfl⟩
  rw [← hT] at HR1 e11
  have HT := Lib.hid hT
  obtain ⟨z1, z2, z3, z4, -⟩ := Fm.s_len T
  rw [e11] at z1 z2 z3 z4
  obtain ⟨n0, hn0⟩ : ∃ n, n = (Cd.byt (T, false)).toNat := ⟨_, rfl⟩
  obtain ⟨n3, hn3⟩ : ∃ n, n = (Cd.byt (Fm.s3 T)).toNat := ⟨_, rfl⟩
  obtain ⟨n4, hn4⟩ : ∃ n, n = (Cd.byt (Fm.s4 T)).toNat := ⟨_, rfl⟩
  obtain ⟨l1, hl1⟩ : ∃ l, l = Cd.num (Cd.tk 4 (Fm.s1 T)) := ⟨_, rfl⟩
  obtain ⟨l2, hl2⟩ : ∃ l, l = Cd.num (Cd.tk 4 (Fm.s2 T)) := ⟨_, rfl⟩
  have k0 : n0 < 256 := by rw [hn0]; exact (Cd.byt (T, false)).toNat_lt
  have k3 : n3 < 256 := by rw [hn3]; exact (Cd.byt (Fm.s3 T)).toNat_lt
  have k4 : n4 < 256 := by rw [hn4]; exact (Cd.byt (Fm.s4 T)).toNat_lt
  obtain ⟨Z, hZ⟩ : ∃ Z, Z = 256 * n3 + n4 := ⟨_, rfl⟩
  have hZs : (n3 : Int) * 256 + (n4 : Int) = (Z : Int) := by omega
  have hZl : Z < 65536 := by omega
  have HZZ : Hid (Fm.parse b = ⟨(n0 : Int), l1, l2, (b.drop 11).take Z⟩) := Lib.hid (by
    rw [hZ, hn0, hn3, hn4, hl1, hl2, hT]; rfl)
  have Hn0 := Lib.hid hn0
  have Hn3 := Lib.hid hn3
  have Hn4 := Lib.hid hn4
  have Hl1 := Lib.hid hl1
  have Hl2 := Lib.hid hl2
  clear hT HN hlo hb1 hr1 hn0 hn3 hn4 hl1 hl2 hZ
  go_wp2_with fail
  have hcall1 := rbyte_any gr (T, false) _ w1 HR1.out (by show T.length ≤ _; omega)
  rw [← Hn0.out] at hcall1
  refine hcall1.mono ?_
  clear hcall1
  rintro e w2 ⟨rfl, hr2, hk2⟩
  have HR2 : Hid (Rr w2 gr (Fm.s1 T) _) := Lib.hid hr2
  have HB2 := Lib.hid (HB1.out.trans (lo_g hk2 HB1.out.size HLO.out))
  have HZ2 := Lib.hid ((hk2.block _ (heap_lt HZ1.out) HNE.out).trans HZ1.out)
  clear hr2 hk2
  go_wp2_with fail
  have hcall2 := rint_any gr (Fm.s1 T) _ w2 HR2.out (by omega)
  rw [← Hl1.out] at hcall2
  refine hcall2.mono ?_
  clear hcall2
  rintro e w3 ⟨rfl, hr3, hk3⟩
  have HR3 : Hid (Rr w3 gr (Fm.s2 T) _) := Lib.hid hr3
  have HB3 := Lib.hid (HB2.out.trans (lo_g hk3 HB2.out.size HLO.out))
  have HZ3 := Lib.hid ((hk3.block _ (heap_lt HZ2.out) HNE.out).trans HZ2.out)
  clear hr3 hk3
  go_wp2_with fail
  have hcall3 := rint_any gr (Fm.s2 T) _ w3 HR3.out (by omega)
  rw [← Hl2.out] at hcall3
  refine hcall3.mono ?_
  clear hcall3
  rintro e w4 ⟨rfl, hr4, hk4⟩
  have HR4 : Hid (Rr w4 gr (Fm.s3 T) _) := Lib.hid hr4
  have HB4 := Lib.hid (HB3.out.trans (lo_g hk4 HB3.out.size HLO.out))
  have HZ4 := Lib.hid ((hk4.block _ (heap_lt HZ3.out) HNE.out).trans HZ3.out)
  clear hr4 hk4
  go_wp2_with fail
  have hcall4 := rbyte_any gr (Fm.s3 T) _ w4 HR4.out (by omega)
  rw [← Hn3.out] at hcall4
  refine hcall4.mono ?_
  clear hcall4
  rintro e w5 ⟨rfl, hr5, hk5⟩
  have HR5 : Hid (Rr w5 gr (Fm.s4 T) _) := Lib.hid hr5
  have HB5 := Lib.hid (HB4.out.trans (lo_g hk5 HB4.out.size HLO.out))
  have HZ5 := Lib.hid ((hk5.block _ (heap_lt HZ4.out) HNE.out).trans HZ4.out)
  clear hr5 hk5
  go_wp2_with fail
  have hcall5 := rbyte_any gr (Fm.s4 T) _ w5 HR5.out (by omega)
  rw [← Hn4.out] at hcall5
  refine hcall5.mono ?_
  clear hcall5
  rintro e w6 ⟨rfl, hr6, hk6⟩
  have HR6 : Hid (Rr w6 gr (Fm.s5 T) _) := Lib.hid hr6
  have HB6 := Lib.hid (HB5.out.trans (lo_g hk6 HB5.out.size HLO.out))
  have HZ6 := Lib.hid ((hk6.block _ (heap_lt HZ5.out) HNE.out).trans HZ5.out)
  clear hr6 hk6
  have hRb : RdL w6 (some ⟨g, off, none⟩) b (· < w.heap.size) := (HR.out.in_.old HB6.out).mono fun _ h => h.2
  obtain ⟨M, hM⟩ : ∃ M, M = min Z D := ⟨_, rfl⟩
  have hlen : ((b.drop 11).take Z).length = M := by rw [List.length_take, List.length_drop, ← HL.out, hM]; omega
  have hMD : M ≤ D := by omega
  have hif : (if D < Z then (D : Int) else (Z : Int)) = (M : Int) := by split <;> omega
  have HMM := Lib.hid hM
  have HLM := Lib.hid hlen
  obtain ⟨u0, u1, u2, u3⟩ := unit4 HZ6.out
  have y0 : w6.frozen? ⟨w.heap.size, 0, none⟩ = false := heap_frozen HZ6.out
  have y1 : w6.frozen? ⟨w.heap.size, 1, none⟩ = false := heap_frozen HZ6.out
  have y2 : w6.frozen? ⟨w.heap.size, 2, none⟩ = false := heap_frozen HZ6.out
  have y3 : w6.frozen? ⟨w.heap.size, 3, none⟩ = false := heap_frozen HZ6.out
  clear hM
  by_cases hE : E = 0
  · subst hE
    have hD : D = 0 := by omega
    subst hD
    have hM0 : M = 0 := by omega
    subst hM0
    have hz : Z = 0 ∨ 0 < Z := by omega
    have h0 : (b.drop 11).take Z = [] := List.length_eq_zero_iff.1 HLM.out
    have HE := Lib.hid h0
    clear hRb h0 hlen hif
    rcases hz with rfl | hz
    all_goals
      go_wp2_with fail
      refine (clone_any (some ⟨g, off, none⟩) [] 0 (fun _ => True) w6 (fun h => by cases h) (RdL.empty _ _ _) (by simp)).mono ?_
      rintro e w7 ⟨A7, C7, rfl, hc7, hn7, hr7, hb7⟩
      obtain ⟨v0, v1, v2, v3⟩ := unit4 ((hb7.block _ (heap_lt HZ6.out)).trans HZ6.out)
      have x0 : w7.frozen? ⟨w.heap.size, 0, none⟩ = false := heap_frozen ((hb7.block _ (heap_lt HZ6.out)).trans HZ6.out)
      have x1 : w7.frozen? ⟨w.heap.size, 1, none⟩ = false := heap_frozen ((hb7.block _ (heap_lt HZ6.out)).trans HZ6.out)
      have x2 : w7.frozen? ⟨w.heap.size, 2, none⟩ = false := heap_frozen ((hb7.block _ (heap_lt HZ6.out)).trans HZ6.out)
      have x3 : w7.frozen? ⟨w.heap.size, 3, none⟩ = false := heap_frozen ((hb7.block _ (heap_lt HZ6.out)).trans HZ6.out)
      have HB7 := Lib.hid (HB6.out.trans (hb7.mono HB6.out.size))
      have HR7 : Hid (RdL w7 A7 [] (w.heap.size < ·)) := Lib.hid (RdL.empty _ _ _)
      have HN7 := Lib.hid hn7
      clear hb7 hr7 hn7 u0 u1 u2 u3 y0 y1 y2 y3
      go_wp2
      rw [HZZ.out, HE.out]
      exact bodyPost_ret (v := .agg #[.int .i64 (n0 : Int), .int .i64 l1, .int .i64 l2, .slice A7 0 C7]) (by simp [results, Tryz.results106, go_sem, v0, v1, v2, v3]) rfl (AnsU.stored (u := ⟨(n0 : Int), l1, l2, []⟩) rfl HR7.out rfl (Nat.zero_le _) HN7.out HB7.out)
  · have hrd : RdL w6 (some ⟨g, off + 11, none⟩) ((b.drop 11).take Z) (· < w.heap.size) := (hRb.drop 11).take Z
    have hcl := clone_any (some ⟨g, off + 11, none⟩) ((b.drop 11).take Z) E _ w6 (fun h => by cases h) hrd (by rw [hlen]; omega)
    rw [hlen] at hcl
    have HCL := Lib.hid hcl
    have q2 : ¬ E + 11 = 11 := by omega
    have q3 : ¬ 11 = E + 11 := by omega
    clear hcl hrd hRb hlen
    go_wp2_with fail
    refine HCL.out.mono ?_
    rintro e w7 ⟨A7, C7, rfl, hc7, hn7, hr7, hb7⟩
    rw [HLM.out] at hc7 hn7
    obtain ⟨v0, v1, v2, v3⟩ := unit4 ((hb7.block _ (heap_lt HZ6.out)).trans HZ6.out)
    have x0 : w7.frozen? ⟨w.heap.size, 0, none⟩ = false := heap_frozen ((hb7.block _ (heap_lt HZ6.out)).trans HZ6.out)
    have x1 : w7.frozen? ⟨w.heap.size, 1, none⟩ = false := heap_frozen ((hb7.block _ (heap_lt HZ6.out)).trans HZ6.out)
    have x2 : w7.frozen? ⟨w.heap.size, 2, none⟩ = false := heap_frozen ((hb7.block _ (heap_lt HZ6.out)).trans HZ6.out)
    have x3 : w7.frozen? ⟨w.heap.size, 3, none⟩ = false := heap_frozen ((hb7.block _ (heap_lt HZ6.out)).trans HZ6.out)
    have HB7 := Lib.hid (HB6.out.trans (hb7.mono HB6.out.size))
    have HR7 : Hid (RdL w7 A7 ((b.drop 11).take Z) (w.heap.size < ·)) := Lib.hid (hr7.mono fun x hx => Nat.lt_of_lt_of_le (heap_lt HZ6.out) hx)
    have HN7 := Lib.hid hn7
    clear hb7 hr7 hn7 u0 u1 u2 u3 y0 y1 y2 y3
    go_wp2
    rw [HZZ.out]
    refine bodyPost_ret (v := .agg #[.int .i64 (n0 : Int), .int .i64 l1, .int .i64 l2, .slice A7 M C7]) (by simp [results, Tryz.results106, go_sem, v0, v1, v2, v3]; have h := HLM.out; simp at h; exact h) rfl ?_
    exact AnsU.stored (u := ⟨(n0 : Int), l1, l2, (b.drop 11).take Z⟩) rfl HR7.out HLM.out.symm hc7 HN7.out HB7.out
set_option maxHeartbeats 2000000 in
theorem read_none (A : Option Addr) (b : Tx) (C : Nat) (G : Nat → Prop) (w : World) (hL : 0 = b.length) (hA : A = none → b.length = 0 ∧ C = 0) (hr : RdL w A b G) :
    Calls Tryz.prog 106 #[.slice A 0 C] w (AnsU (Fm.parse b) w) := by
  have HB0 : Hid (Below w.heap.size w (w.alloc (unitObj 0 0 0 none 0 0))) := Lib.hid ((Below.refl _ _).alloc (Nat.le_refl _) _)
  have HTK : Hid (b.take 11 = b) := Lib.hid (List.take_of_length_le (by omega))
  have HDR : Hid (b.drop 11 = []) := Lib.hid (List.drop_of_length_le (by omega))
  have HN : Hid (∀ w', Below w.heap.size w w' → Calls Tryz.prog 92 #[.slice A 0 C] w' (NewR b w')) := Lib.hid fun w' hb => by
    have := newReader_any _ b _ _ w' hA (hr.in_.old hb) (by omega)
    rw [← hL] at this; exact this
  have e11 : b.length < 11 := by omega
  have HA := Lib.hid hA
  clear hr hL hA
  go_enter Tryz.func106, Tryz.ntmps106
  go_wp2_with fail
  refine (HN.out _ HB0.out).mono ?_
  rintro e w1 ⟨gr, rfl, hlo, hr1, hb1⟩
  have HR1 := Lib.hid hr1
  have HB1 := Lib.hid (HB0.out.trans (hb1.mono HB0.out.size))
  have HLO := Lib.hid (Nat.le_trans HB0.out.size hlo)
  have HNE : Hid (¬ w.heap.size = gr) := Lib.hid (by have : (w.alloc (unitObj 0 0 0 none 0 0)).heap.size ≤ gr := hlo; simp at this; omega)
  have HZ1 : Hid (w1.heap[w.heap.size]? = some (unitObj 0 0 0 none 0 0)) := Lib.hid ((hb1.block _ (by simp)).trans (Go.Deep.blk_alloc_new _ _))
  obtain ⟨T, hT⟩ : ∃ T, T = b := ⟨_, rfl⟩
  rw [← hT] at HR1 e11
  have HT := Lib.hid hT
  obtain ⟨z1, z2, z3, z4, -⟩ := Fm.s_len T
  obtain ⟨n0, hn0⟩ : ∃ n, n = (Cd.byt (T, false)).toNat := ⟨_, rfl⟩
  obtain ⟨n3, hn3⟩ : ∃ n, n = (Cd.byt (Fm.s3 T)).toNat := ⟨_, rfl⟩
  obtain ⟨n4, hn4⟩ : ∃ n, n = (Cd.byt (Fm.s4 T)).toNat := ⟨_, rfl⟩
  obtain ⟨l1, hl1⟩ : ∃ l, l = Cd.num (Cd.tk 4 (Fm.s1 T)) := ⟨_, rfl⟩
  obtain ⟨l2, hl2⟩ : ∃ l, l = Cd.num (Cd.tk 4 (Fm.s2 T)) := ⟨_, rfl⟩
  have k0 : n0 < 256 := by rw [hn0]; exact (Cd.byt (T, false)).toNat_lt
  have k3 : n3 < 256 := by rw [hn3]; exact (Cd.byt (Fm.s3 T)).toNat_lt
  have k4 : n4 < 256 := by rw [hn4]; exact (Cd.byt (Fm.s4 T)).toNat_lt
  obtain ⟨Z, hZ⟩ : ∃ Z, Z = 256 * n3 + n4 := ⟨_, rfl⟩
  have hZs : (n3 : Int) * 256 + (n4 : Int) = (Z : Int) := by omega
  have hZl : Z < 65536 := by omega
  have HZZ : Hid (Fm.parse b = ⟨(n0 : Int), l1, l2, []⟩) := Lib.hid (by
    unfold Fm.parse
    rw [HTK.out, HDR.out, List.take_nil, hn0, hl1, hl2, hT]; rfl)
  have Hn0 := Lib.hid hn0
  have Hn3 := Lib.hid hn3
  have Hn4 := Lib.hid hn4
  have Hl1 := Lib.hid hl1
  have Hl2 := Lib.hid hl2
  clear hT HN hlo hb1 hr1 hn0 hn3 hn4 hl1 hl2 hZ
  go_wp2_with fail
  have hcall1 := rbyte_any gr (T, false) _ w1 HR1.out (by show T.length ≤ _; omega)
  rw [← Hn0.out] at hcall1
  refine hcall1.mono ?_
  clear hcall1
  rintro e w2 ⟨rfl, hr2, hk2⟩
  have HR2 : Hid (Rr w2 gr (Fm.s1 T) _) := Lib.hid hr2
  have HB2 := Lib.hid (HB1.out.trans (lo_g hk2 HB1.out.size HLO.out))
  have HZ2 := Lib.hid ((hk2.block _ (heap_lt HZ1.out) HNE.out).trans HZ1.out)
  clear hr2 hk2
  go_wp2_with fail
  have hcall2 := rint_any gr (Fm.s1 T) _ w2 HR2.out (by omega)
  rw [← Hl1.out] at hcall2
  refine hcall2.mono ?_
  clear hcall2
  rintro e w3 ⟨rfl, hr3, hk3⟩
  have HR3 : Hid (Rr w3 gr (Fm.s2 T) _) := Lib.hid hr3
  have HB3 := Lib.hid (HB2.out.trans (lo_g hk3 HB2.out.size HLO.out))
  have HZ3 := Lib.hid ((hk3.block _ (heap_lt HZ2.out) HNE.out).trans HZ2.out)
  clear hr3 hk3
  go_wp2_with fail
  have hcall3 := rint_any gr (Fm.s2 T) _ w3 HR3.out (by omega)
  rw [← Hl2.out] at hcall3
  refine hcall3.mono ?_
  clear hcall3
  rintro e w4 ⟨rfl, hr4, hk4⟩
  have HR4 : Hid (Rr w4 gr (Fm.s3 T) _) := Lib.hid hr4
  have HB4 := Lib.hid (HB3.out.trans (lo_g hk4 HB3.out.size HLO.out))
  have HZ4 := Lib.hid ((hk4.block _ (heap_lt HZ3.out) HNE.out).trans HZ3.out)
  clear hr4 hk4
  go_wp2_with fail
  have hcall4 := rbyte_any gr (Fm.s3 T) _ w4 HR4.out (by omega)
  rw [← Hn3.out] at hcall4
  refine hcall4.mono ?_
  clear hcall4
  rintro e w5 ⟨rfl, hr5, hk5⟩
  have HR5 : Hid (Rr w5 gr (Fm.s4 T) _) := Lib.hid hr5
  have HB5 := Lib.hid (HB4.out.trans (lo_g hk5 HB4.out.size HLO.out))
  have HZ5 := Lib.hid ((hk5.block _ (heap_lt HZ4.out) HNE.out).trans HZ4.out)
  clear hr5 hk5
  go_wp2_with fail
  have hcall5 := rbyte_any gr (Fm.s4 T) _ w5 HR5.out (by omega)
  rw [← Hn4.out] at hcall5
  refine hcall5.mono ?_
  clear hcall5
  rintro e w6 ⟨rfl, hr6, hk6⟩
  have HR6 : Hid (Rr w6 gr (Fm.s5 T) _) := Lib.hid hr6
  have HB6 := Lib.hid (HB5.out.trans (lo_g hk6 HB5.out.size HLO.out))
  have HZ6 := Lib.hid ((hk6.block _ (heap_lt HZ5.out) HNE.out).trans HZ5.out)
  clear hr6 hk6
  obtain ⟨u0, u1, u2, u3⟩ := unit4 HZ6.out
  have y0 : w6.frozen? ⟨w.heap.size, 0, none⟩ = false := heap_frozen HZ6.out
  have y1 : w6.frozen? ⟨w.heap.size, 1, none⟩ = false := heap_frozen HZ6.out
  have y2 : w6.frozen? ⟨w.heap.size, 2, none⟩ = false := heap_frozen HZ6.out
  have y3 : w6.frozen? ⟨w.heap.size, 3, none⟩ = false := heap_frozen HZ6.out
  have hz : Z = 0 ∨ 0 < Z := by omega
  rcases hz with rfl | hz
  all_goals
    go_wp2_with fail
    refine (clone_any _ [] _ (fun _ => True) w6 (fun h => ⟨rfl, (HA.out h).2⟩) (RdL.empty _ _ _) (by simp)).mono ?_
    rintro e w7 ⟨A7, C7, rfl, hc7, hn7, hr7, hb7⟩
    obtain ⟨v0, v1, v2, v3⟩ := unit4 ((hb7.block _ (heap_lt HZ6.out)).trans HZ6.out)
    have x0 : w7.frozen? ⟨w.heap.size, 0, none⟩ = false := heap_frozen ((hb7.block _ (heap_lt HZ6.out)).trans HZ6.out)
    have x1 : w7.frozen? ⟨w.heap.size, 1, none⟩ = false := heap_frozen ((hb7.block _ (heap_lt HZ6.out)).trans HZ6.out)
    have x2 : w7.frozen? ⟨w.heap.size, 2, none⟩ = false := heap_frozen ((hb7.block _ (heap_lt HZ6.out)).trans HZ6.out)
    have x3 : w7.frozen? ⟨w.heap.size, 3, none⟩ = false := heap_frozen ((hb7.block _ (heap_lt HZ6.out)).trans HZ6.out)
    have HB7 := Lib.hid (HB6.out.trans (hb7.mono HB6.out.size))
    have HR7 : Hid (RdL w7 A7 [] (w.heap.size < ·)) := Lib.hid (RdL.empty _ _ _)
    have HN7 := Lib.hid hn7
    clear hb7 hr7 hn7 u0 u1 u2 u3 y0 y1 y2 y3
    go_wp2
    rw [HZZ.out]
    exact bodyPost_ret (v := .agg #[.int .i64 (n0 : Int), .int .i64 l1, .int .i64 l2, .slice A7 0 C7]) (by simp [results, Tryz.results106, go_sem, v0, v1, v2, v3]) rfl (AnsU.stored (u := ⟨(n0 : Int), l1, l2, []⟩) rfl HR7.out rfl (Nat.zero_le _) HN7.out HB7.out)
set_option maxHeartbeats 2000000 in
theorem read_all (g off : Nat) (b : Tx) (L : Nat) (G : Nat → Prop) (w : World) (hL : L = b.length) (h0 : 0 < L) (h11 : L < 11) (hA : (some ⟨g, off, none⟩ : Option Addr) = none → b.length = 0 ∧ L = 0) (hr : RdL w (some ⟨g, off, none⟩) b G) :
    Calls Tryz.prog 106 #[.slice (some ⟨g, off, none⟩) L L] w (AnsU (Fm.parse b) w) := by
  have HB0 : Hid (Below w.heap.size w (w.alloc (unitObj 0 0 0 none 0 0))) := Lib.hid ((Below.refl _ _).alloc (Nat.le_refl _) _)
  have HTK : Hid (b.take 11 = b) := Lib.hid (List.take_of_length_le (by omega))
  have HDR : Hid (b.drop 11 = []) := Lib.hid (List.drop_of_length_le (by omega))
  have HN : Hid (∀ w', Below w.heap.size w w' → Calls Tryz.prog 92 #[.slice (some ⟨g, off, none⟩) L L] w' (NewR b w')) := Lib.hid fun w' hb => by
    have := newReader_any _ b _ _ w' hA (hr.in_.old hb) (by omega)
    rw [← hL] at this; exact this
  have e11 : b.length < 11 := by omega
  have HA := Lib.hid hA
  clear hr hL hA
  go_enter Tryz.func106, Tryz.ntmps106
  go_wp2_with fail
  refine (HN.out _ HB0.out).mono ?_
  rintro e w1 ⟨gr, rfl, hlo, hr1, hb1⟩
  have HR1 := Lib.hid hr1
  have HB1 := Lib.hid (HB0.out.trans (hb1.mono HB0.out.size))
  have HLO := Lib.hid (Nat.le_trans HB0.out.size hlo)
  have HNE : Hid (¬ w.heap.size = gr) := Lib.hid (by have : (w.alloc (unitObj 0 0 0 none 0 0)).heap.size ≤ gr := hlo; simp at this; omega)
  have HZ1 : Hid (w1.heap[w.heap.size]? = some (unitObj 0 0 0 none 0 0)) := Lib.hid ((hb1.block _ (by simp)).trans (Go.Deep.blk_alloc_new _ _))
  obtain ⟨T, hT⟩ : ∃ T, T = b := ⟨_, rfl⟩
  rw [← hT] at HR1 e11
  have HT := Lib.hid hT
  obtain ⟨z1, z2, z3, z4, -⟩ := Fm.s_len T
  obtain ⟨n0, hn0⟩ : ∃ n, n = (Cd.byt (T, false)).toNat := ⟨_, rfl⟩
  obtain ⟨n3, hn3⟩ : ∃ n, n = (Cd.byt (Fm.s3 T)).toNat := ⟨_, rfl⟩
  obtain ⟨n4, hn4⟩ : ∃ n, n = (Cd.byt (Fm.s4 T)).toNat := ⟨_, rfl⟩
  obtain ⟨l1, hl1⟩ : ∃ l, l = Cd.num (Cd.tk 4 (Fm.s1 T)) := ⟨_, rfl⟩
  obtain ⟨l2, hl2⟩ : ∃ l, l = Cd.num (Cd.tk 4 (Fm.s2 T)) := ⟨_, rfl⟩
  have k0 : n0 < 256 := by rw [hn0]; exact (Cd.byt (T, false)).toNat_lt
  have k3 : n3 < 256 := by rw [hn3]; exact (Cd.byt (Fm.s3 T)).toNat_lt
  have k4 : n4 < 256 := by rw [hn4]; exact (Cd.byt (Fm.s4 T)).toNat_lt
  obtain ⟨Z, hZ⟩ : ∃ Z, Z = 256 * n3 + n4 := ⟨_, rfl⟩
  have hZs : (n3 : Int) * 256 + (n4 : Int) = (Z : Int) := by omega
  have hZl : Z < 65536 := by omega
  have HZZ : Hid (Fm.parse b = ⟨(n0 : Int), l1, l2, []⟩) := Lib.hid (by
    unfold Fm.parse
    rw [HTK.out, HDR.out, List.take_nil, hn0, hl1, hl2, hT]; rfl)
  have Hn0 := Lib.hid hn0
  have Hn3 := Lib.hid hn3
  have Hn4 := Lib.hid hn4
  have Hl1 := Lib.hid hl1
  have Hl2 := Lib.hid hl2
  clear hT HN hlo hb1 hr1 hn0 hn3 hn4 hl1 hl2 hZ
  go_wp2_with fail
  have hcall1 := rbyte_any gr (T, false) _ w1 HR1.out (by show T.length ≤ _; omega)
  rw [← Hn0.out] at hcall1
  refine hcall1.mono ?_
  clear hcall1
  rintro e w2 ⟨rfl, hr2, hk2⟩
  have HR2 : Hid (Rr w2 gr (Fm.s1 T) _) := Lib.hid hr2
  have HB2 := Lib.hid (HB1.out.trans (lo_g hk2 HB1.out.size HLO.out))
  have HZ2 := Lib.hid ((hk2.block _ (heap_lt HZ1.out) HNE.out).trans HZ1.out)
  clear hr2 hk2
  go_wp2_with fail
  have hcall2 := rint_any gr (Fm.s1 T) _ w2 HR2.out (by omega)
  rw [← Hl1.out] at hcall2
  refine hcall2.mono ?_
  clear hcall2
  rintro e w3 ⟨rfl, hr3, hk3⟩
  have HR3 : Hid (Rr w3 gr (Fm.s2 T) _) := Lib.hid hr3
  have HB3 := Lib.hid (HB2.out.trans (lo_g hk3 HB2.out.size HLO.out))
  have HZ3 := Lib.hid ((hk3.block _ (heap_lt HZ2.out) HNE.out).trans HZ2.out)
  clear hr3 hk3
  go_wp2_with fail
  have hcall3 := rint_any gr (Fm.s2 T) _ w3 HR3.out (by omega)
  rw [← Hl2.out] at hcall3
  refine hcall3.mono ?_
  clear hcall3
  rintro e w4 ⟨rfl, hr4, hk4⟩
  have HR4 : Hid (Rr w4 gr (Fm.s3 T) _) := Lib.hid hr4
  have HB4 := Lib.hid (HB3.out.trans (lo_g hk4 HB3.out.size HLO.out))
  have HZ4 := Lib.hid ((hk4.block _ (heap_lt HZ3.out) HNE.out).trans HZ3.out)
  clear hr4 hk4
  go_wp2_with fail
  have hcall4 := rbyte_any gr (Fm.s3 T) _ w4 HR4.out (by omega)
  rw [← Hn3.out] at hcall4
  refine hcall4.mono ?_
  clear hcall4
  rintro e w5 ⟨rfl, hr5, hk5⟩
  have HR5 : Hid (Rr w5 gr (Fm.s4 T) _) := Lib.hid hr5
  have HB5 := Lib.hid (HB4.out.trans (lo_g hk5 HB4.out.size HLO.out))
  have HZ5 := Lib.hid ((hk5.block _ (heap_lt HZ4.out) HNE.out).trans HZ4.out)
  clear hr5 hk5
  go_wp2_with fail
  have hcall5 := rbyte_any gr (Fm.s4 T) _ w5 HR5.out (by omega)
  rw [← Hn4.out] at hcall5
  refine hcall5.mono ?_
  clear hcall5
  rintro e w6 ⟨rfl, hr6, hk6⟩
  have HR6 : Hid (Rr w6 gr (Fm.s5 T) _) := Lib.hid hr6
  have HB6 := Lib.hid (HB5.out.trans (lo_g hk6 HB5.out.size HLO.out))
  have HZ6 := Lib.hid ((hk6.block _ (heap_lt HZ5.out) HNE.out).trans HZ5.out)
  clear hr6 hk6
  obtain ⟨u0, u1, u2, u3⟩ := unit4 HZ6.out
  have y0 : w6.frozen? ⟨w.heap.size, 0, none⟩ = false := heap_frozen HZ6.out
  have y1 : w6.frozen? ⟨w.heap.size, 1, none⟩ = false := heap_frozen HZ6.out
  have y2 : w6.frozen? ⟨w.heap.size, 2, none⟩ = false := heap_frozen HZ6.out
  have y3 : w6.frozen? ⟨w.heap.size, 3, none⟩ = false := heap_frozen HZ6.out
  have hz : Z = 0 ∨ 0 < Z := by omega
  rcases hz with rfl | hz
  all_goals
    go_wp2_with fail
    refine (clone_any _ [] _ (fun _ => True) w6 (fun h => by cases h) (RdL.empty _ _ _) (by simp)).mono ?_
    rintro e w7 ⟨A7, C7, rfl, hc7, hn7, hr7, hb7⟩
    obtain ⟨v0, v1, v2, v3⟩ := unit4 ((hb7.block _ (heap_lt HZ6.out)).trans HZ6.out)
    have x0 : w7.frozen? ⟨w.heap.size, 0, none⟩ = false := heap_frozen ((hb7.block _ (heap_lt HZ6.out)).trans HZ6.out)
    have x1 : w7.frozen? ⟨w.heap.size, 1, none⟩ = false := heap_frozen ((hb7.block _ (heap_lt HZ6.out)).trans HZ6.out)
    have x2 : w7.frozen? ⟨w.heap.size, 2, none⟩ = false := heap_frozen ((hb7.block _ (heap_lt HZ6.out)).trans HZ6.out)
    have x3 : w7.frozen? ⟨w.heap.size, 3, none⟩ = false := heap_frozen ((hb7.block _ (heap_lt HZ6.out)).trans HZ6.out)
    have HB7 := Lib.hid (HB6.out.trans (hb7.mono HB6.out.size))
    have HR7 : Hid (RdL w7 A7 [] (w.heap.size < ·)) := Lib.hid (RdL.empty _ _ _)
    have HN7 := Lib.hid hn7
    clear hb7 hr7 hn7 u0 u1 u2 u3 y0 y1 y2 y3
    go_wp2
    rw [HZZ.out]
    exact bodyPost_ret (v := .agg #[.int .i64 (n0 : Int), .int .i64 l1, .int .i64 l2, .slice A7 0 C7]) (by simp [results, Tryz.results106, go_sem, v0, v1, v2, v3]) rfl (AnsU.stored (u := ⟨(n0 : Int), l1, l2, []⟩) rfl HR7.out rfl (Nat.zero_le _) HN7.out HB7.out)
set_option maxHeartbeats 2000000 in
theorem read_few (g off : Nat) (b : Tx) (L C : Nat) (G : Nat → Prop) (w : World) (hL : L = b.length) (h0 : 0 < L) (h11 : L < 11) (hC : L < C) (hA : (some ⟨g, off, none⟩ : Option Addr) = none → b.length = 0 ∧ C = 0) (hr : RdL w (some ⟨g, off, none⟩) b G) :
    Calls Tryz.prog 106 #[.slice (some ⟨g, off, none⟩) L C] w (AnsU (Fm.parse b) w) := by
  have HB0 : Hid (Below w.heap.size w (w.alloc (unitObj 0 0 0 none 0 0))) := Lib.hid ((Below.refl _ _).alloc (Nat.le_refl _) _)
  have HTK : Hid (b.take 11 = b) := Lib.hid (List.take_of_length_le (by omega))
  have HDR : Hid (b.drop 11 = []) := Lib.hid (List.drop_of_length_le (by omega))
  have HN : Hid (∀ w', Below w.heap.size w w' → Calls Tryz.prog 92 #[.slice (some ⟨g, off, none⟩) L C] w' (NewR b w')) := Lib.hid fun w' hb => by
    have := newReader_any _ b _ _ w' hA (hr.in_.old hb) (by omega)
    rw [← hL] at this; exact this
  have e11 : b.length < 11 := by omega
  have HA := Lib.hid hA
  clear hr hL hA
  have q2 : ¬ C = L := by omega
  have q3 : ¬ L = C := by omega
  have q4 : L ≤ C := by omega
  go_enter Tryz.func106, Tryz.ntmps106
  go_wp2_with fail
  refine (HN.out _ HB0.out).mono ?_
  rintro e w1 ⟨gr, rfl, hlo, hr1, hb1⟩
  have HR1 := Lib.hid hr1
  have HB1 := Lib.hid (HB0.out.trans (hb1.mono HB0.out.size))
  have HLO := Lib.hid (Nat.le_trans HB0.out.size hlo)
  have HNE : Hid (¬ w.heap.size = gr) := Lib.hid (by have : (w.alloc (unitObj 0 0 0 none 0 0)).heap.size ≤ gr := hlo; simp at this; omega)
  have HZ1 : Hid (w1.heap[w.heap.size]? = some (unitObj 0 0 0 none 0 0)) := Lib.hid ((hb1.block _ (by simp)).trans (Go.Deep.blk_alloc_new _ _))
  obtain ⟨T, hT⟩ : ∃ T, T = b := ⟨_, rfl⟩
  rw [← hT] at HR1 e11
  have HT := Lib.hid hT
  obtain ⟨z1, z2, z3, z4, -⟩ := Fm.s_len T
  obtain ⟨n0, hn0⟩ : ∃ n, n = (Cd.byt (T, false)).toNat := ⟨_, rfl⟩
  obtain ⟨n3, hn3⟩ : ∃ n, n = (Cd.byt (Fm.s3 T)).toNat := ⟨_, rfl⟩
  obtain ⟨n4, hn4⟩ : ∃ n, n = (Cd.byt (Fm.s4 T)).toNat := ⟨_, rfl⟩
  obtain ⟨l1, hl1⟩ : ∃ l, l = Cd.num (Cd.tk 4 (Fm.s1 T)) := ⟨_, rfl⟩
  obtain ⟨l2, hl2⟩ : ∃ l, l = Cd.num (Cd.tk 4 (Fm.s2 T)) := ⟨_, rfl⟩
  have k0 : n0 < 256 := by rw [hn0]; exact (Cd.byt (T, false)).toNat_lt
  have k3 : n3 < 256 := by rw [hn3]; exact (Cd.byt (Fm.s3 T)).toNat_lt
  have k4 : n4 < 256 := by rw [hn4]; exact (Cd.byt (Fm.s4 T)).toNat_lt
  obtain ⟨Z, hZ⟩ : ∃ Z, Z = 256 * n3 + n4 := ⟨_, rfl⟩
  have hZs : (n3 : Int) * 256 + (n4 : Int) = (Z : Int) := by omega
  have hZl : Z < 65536 := by omega
  have HZZ : Hid (Fm.parse b = ⟨(n0 : Int), l1, l2, []⟩) := Lib.hid (by
    unfold Fm.parse
    rw [HTK.out, HDR.out, List.take_nil, hn0, hl1, hl2, hT]; rfl)
  have Hn0 := Lib.hid hn0
  have Hn3 := Lib.hid hn3
  have Hn4 := Lib.hid hn4
  have Hl1 := Lib.hid hl1
  have Hl2 := Lib.hid hl2
  clear hT HN hlo hb1 hr1 hn0 hn3 hn4 hl1 hl2 hZ
  go_wp2_with fail
  have hcall1 := rbyte_any gr (T, false) _ w1 HR1.out (by show T.length ≤ _; omega)
  rw [← Hn0.out] at hcall1
  refine hcall1.mono ?_
  clear hcall1
  rintro e w2 ⟨rfl, hr2, hk2⟩
  have HR2 : Hid (Rr w2 gr (Fm.s1 T) _) := Lib.hid hr2
  have HB2 := Lib.hid (HB1.out.trans (lo_g hk2 HB1.out.size HLO.out))
  have HZ2 := Lib.hid ((hk2.block _ (heap_lt HZ1.out) HNE.out).trans HZ1.out)
  clear hr2 hk2
  go_wp2_with fail
  have hcall2 := rint_any gr (Fm.s1 T) _ w2 HR2.out (by omega)
  rw [← Hl1.out] at hcall2
  refine hcall2.mono ?_
  clear hcall2
  rintro e w3 ⟨rfl, hr3, hk3⟩
  have HR3 : Hid (Rr w3 gr (Fm.s2 T) _) := Lib.hid hr3
  have HB3 := Lib.hid (HB2.out.trans (lo_g hk3 HB2.out.size HLO.out))
  have HZ3 := Lib.hid ((hk3.block _ (heap_lt HZ2.out) HNE.out).trans HZ2.out)
  clear hr3 hk3
  go_wp2_with fail
  have hcall3 := rint_any gr (Fm.s2 T) _ w3 HR3.out (by omega)
  rw [← Hl2.out] at hcall3
  refine hcall3.mono ?_
  clear hcall3
  rintro e w4 ⟨rfl, hr4, hk4⟩
  have HR4 : Hid (Rr w4 gr (Fm.s3 T) _) := Lib.hid hr4
  have HB4 := Lib.hid (HB3.out.trans (lo_g hk4 HB3.out.size HLO.out))
  have HZ4 := Lib.hid ((hk4.block _ (heap_lt HZ3.out) HNE.out).trans HZ3.out)
  clear hr4 hk4
  go_wp2_with fail
  have hcall4 := rbyte_any gr (Fm.s3 T) _ w4 HR4.out (by omega)
  rw [← Hn3.out] at hcall4
  refine hcall4.mono ?_
  clear hcall4
  rintro e w5 ⟨rfl, hr5, hk5⟩
  have HR5 : Hid (Rr w5 gr (Fm.s4 T) _) := Lib.hid hr5
  have HB5 := Lib.hid (HB4.out.trans (lo_g hk5 HB4.out.size HLO.out))
  have HZ5 := Lib.hid ((hk5.block _ (heap_lt HZ4.out) HNE.out).trans HZ4.out)
  clear hr5 hk5
  go_wp2_with fail
  have hcall5 := rbyte_any gr (Fm.s4 T) _ w5 HR5.out (by omega)
  rw [← Hn4.out] at hcall5
  refine hcall5.mono ?_
  clear hcall5
  rintro e w6 ⟨rfl, hr6, hk6⟩
  have HR6 : Hid (Rr w6 gr (Fm.s5 T) _) := Lib.hid hr6
  have HB6 := Lib.hid (HB5.out.trans (lo_g hk6 HB5.out.size HLO.out))
  have HZ6 := Lib.hid ((hk6.block _ (heap_lt HZ5.out) HNE.out).trans HZ5.out)
  clear hr6 hk6
  obtain ⟨u0, u1, u2, u3⟩ := unit4 HZ6.out
  have y0 : w6.frozen? ⟨w.heap.size, 0, none⟩ = false := heap_frozen HZ6.out
  have y1 : w6.frozen? ⟨w.heap.size, 1, none⟩ = false := heap_frozen HZ6.out
  have y2 : w6.frozen? ⟨w.heap.size, 2, none⟩ = false := heap_frozen HZ6.out
  have y3 : w6.frozen? ⟨w.heap.size, 3, none⟩ = false := heap_frozen HZ6.out
  have hz : Z = 0 ∨ 0 < Z := by omega
  rcases hz with rfl | hz
  all_goals
    go_wp2_with fail
    refine (clone_any _ [] _ (fun _ => True) w6 (fun h => by cases h) (RdL.empty _ _ _) (by simp)).mono ?_
    rintro e w7 ⟨A7, C7, rfl, hc7, hn7, hr7, hb7⟩
    obtain ⟨v0, v1, v2, v3⟩ := unit4 ((hb7.block _ (heap_lt HZ6.out)).trans HZ6.out)
    have x0 : w7.frozen? ⟨w.heap.size, 0, none⟩ = false := heap_frozen ((hb7.block _ (heap_lt HZ6.out)).trans HZ6.out)
    have x1 : w7.frozen? ⟨w.heap.size, 1, none⟩ = false := heap_frozen ((hb7.block _ (heap_lt HZ6.out)).trans HZ6.out)
    have x2 : w7.frozen? ⟨w.heap.size, 2, none⟩ = false := heap_frozen ((hb7.block _ (heap_lt HZ6.out)).trans HZ6.out)
    have x3 : w7.frozen? ⟨w.heap.size, 3, none⟩ = false := heap_frozen ((hb7.block _ (heap_lt HZ6.out)).trans HZ6.out)
    have HB7 := Lib.hid (HB6.out.trans (hb7.mono HB6.out.size))
    have HR7 : Hid (RdL w7 A7 [] (w.heap.size < ·)) := Lib.hid (RdL.empty _ _ _)
    have HN7 := Lib.hid hn7
    clear hb7 hr7 hn7 u0 u1 u2 u3 y0 y1 y2 y3
    go_wp2
    rw [HZZ.out]
    exact bodyPost_ret (v := .agg #[.int .i64 (n0 : Int), .int .i64 l1, .int .i64 l2, .slice A7 0 C7]) (by simp [results, Tryz.results106, go_sem, v0, v1, v2, v3]) rfl (AnsU.stored (u := ⟨(n0 : Int), l1, l2, []⟩) rfl HR7.out rfl (Nat.zero_le _) HN7.out HB7.out)
theorem read_any (A : Option Addr) (b : Tx) (L C : Nat) (G : Nat → Prop) (w : World) (hL : L = b.length) (hC : L ≤ C) (hl : L ≤ 1000000) (hA : A = none → L = 0 ∧ C = 0) (hr : RdL w A b G) :
    Calls Tryz.prog 106 #[.slice A L C] w (AnsU (Fm.parse b) w) := by
  by_cases h0 : L = 0
  · subst h0; exact read_none A b C G w hL (fun h => ⟨hL.symm, (hA h).2⟩) hr
  · obtain ⟨g, off, rfl, _, _⟩ := hr (by omega)
    by_cases h11 : L < 11
    · by_cases hc : L = C
      · subst hc; exact read_all g off b L G w hL (by omega) h11 (fun h => by cases h) hr
      · exact read_few g off b L C G w hL (by omega) h11 (by omega) (fun h => by cases h) hr
    · obtain ⟨D, rfl⟩ : ∃ D, L = D + 11 := ⟨L - 11, by omega⟩
      obtain ⟨E, rfl⟩ : ∃ E, C = E + 11 := ⟨C - 11, by omega⟩
      exact read_long g off b D E G w hL (by omega) (by omega) hr
end Go.Proofs.YtfkoomldncfdnaaGreat
namespace Go.Proofs.YtfkoomldncfdnaaGreat
open Go.RowKit
open Pt (Tx)

theorem equal_any (A A' : Option Addr) (a b : Tx) (n m C C' : Nat) (G G' : Nat → Prop) (w : World) (hn : n = a.length) (hm : m = b.length) (hr : RdL w A a G) (hr' : RdL w A' b G') :
    Calls Tryz.prog 95 #[.slice A n C, .slice A' m C'] w fun e w' => e = .returned (.bool (a == b)) ∧ w = w' := by
  subst hn; subst hm
  have s1 := hr.str C
  have s2 := hr'.str C'
  have e1 := tx_toList a
  have e2 := tx_toList b
  clear hr hr'
  go_enter Tryz.func95, Tryz.ntmps95
  go_wp2
  go_ret
  exact ⟨rfl, rfl⟩
end Go.Proofs.YtfkoomldncfdnaaGreat
namespace Go.Proofs.YtfkoomldncfdnaaGreat
open Go.RowKit
open Pt (Tx)

/-- what Get answers: unit and error -/
def GotU (b : Tx) (w : World) (e : Ending) (w' : World) : Prop :=
  ∃ A m C, e = .returned (.tuple #[.agg #[.int .i64 (Fm.got b).kind, .int .i64 (Fm.got b).label, .int .i64 (Fm.got b).number, .slice A m C], .int .i64 (Fm.gotE b)]) ∧ m = (Fm.got b).load.length ∧ m ≤ C ∧ (A = none → m = 0 ∧ C = 0) ∧ RdL w' A (Fm.got b).load (w.heap.size ≤ ·) ∧ Below w.heap.size w w'
theorem GotU.stored {w w7 : World} {B : Nat} {a0 a1 a2 a3 : Value} {b : Tx} {u : Fm.U} {er : Int} {A : Option Addr} {m C : Nat} (hu : Fm.got b = u) (he : Fm.gotE b = er) (hB : B = w.heap.size) (hr : RdL w7 A u.load (B < ·)) (hm : m = u.load.length) (hc : m ≤ C) (hn : A = none → m = 0 ∧ C = 0) (hb : Below w.heap.size w w7) :
    GotU b w (.returned (.tuple #[.agg #[.int .i64 u.kind, .int .i64 u.label, .int .i64 u.number, .slice A m C], .int .i64 er])) ((((w7.setCell ⟨B, 0, none⟩ a0).setCell ⟨B, 1, none⟩ a1).setCell ⟨B, 2, none⟩ a2).setCell ⟨B, 3, none⟩ a3) := by
  subst hB
  have hk : Kp (· = w.heap.size) w7 ((((w7.setCell ⟨w.heap.size, 0, none⟩ a0).setCell ⟨w.heap.size, 1, none⟩ a1).setCell ⟨w.heap.size, 2, none⟩ a2).setCell ⟨w.heap.size, 3, none⟩ a3) := (((Kp.store _ _ _ _).trans (Kp.store _ _ _ _)).trans (Kp.store _ _ _ _)).trans (Kp.store _ _ _ _)
  exact ⟨A, m, C, by rw [hu, he], by rw [hu]; exact hm, hc, hn, by rw [hu]; exact (hr.kp hk (fun x hx hx' => by omega)).mono (fun x hx => by omega), hb.trans (hk.below hb.size (fun x hx => by omega))⟩
set_option maxHeartbeats 4000000 in
theorem frameGet_any (A : Option Addr) (b : Tx) (L C : Nat) (G : Nat → Prop) (w : World) (hL : L = b.length) (hC : L ≤ C) (hl : L ≤ 1000000) (hA : A = none → L = 0 ∧ C = 0) (hr : RdL w A b G) :
    Calls Tryz.prog 91 #[.slice A L C] w (GotU b w) := by
  have HB0 : Hid (Below w.heap.size w (w.alloc (unitObj 0 0 0 none 0 0))) := Lib.hid ((Below.refl _ _).alloc (Nat.le_refl _) _)
  have HR := Lib.hid hr
  have HL := Lib.hid hL
  have HN := Lib.hid (read_any A b L C G (w.alloc (unitObj 0 0 0 none 0 0)) hL hC hl hA (hr.old HB0.out))
  unfold unitObj at HN
  obtain ⟨er, her⟩ : ∃ er, er = Fm.err (Fm.parse b) := ⟨_, rfl⟩
  obtain ⟨k, lb, nb, s, hu⟩ : ∃ k lb nb s, Fm.parse b = ⟨k, lb, nb, s⟩ := ⟨_, _, _, _, rfl⟩
  rw [hu] at HN
  have HU := Lib.hid hu
  have HE := Lib.hid her
  clear hL hA hr hu her
  by_cases he : er = 0
  · subst he
    have hok : Fm.Ok (Fm.parse b) := Fm.err_zero.1 HE.out.symm
    by_cases hg : Fm.blk (Fm.parse b) = b
    · have heq : (Fm.put (Fm.parse b) == b) = true := by rw [Fm.put_ok hok, hg]; simp
      have HGE := Lib.hid (Fm.gotE_yes ⟨hok, hg⟩)
      have HG := Lib.hid (Fm.got_yes ⟨hok, hg⟩)
      rw [HU.out] at heq HG
      have HE2 := Lib.hid (HU.out ▸ HE.out)
      clear hok hg HE
      go_enter Tryz.func91, Tryz.ntmps91
      go_wp2_with fail
      refine HN.out.mono ?_
      rintro e w1 ⟨A1, m1, C1, rfl, hm1, hc1, hn1, hr1, hb1⟩
      have HB1 := Lib.hid (HB0.out.trans (hb1.mono HB0.out.size))
      have HZ1 : Hid (w1.heap[w.heap.size]? = some (unitObj 0 0 0 none 0 0)) := Lib.hid ((hb1.block _ (by simp)).trans (Go.Deep.blk_alloc_new _ _))
      have HR1 : Hid (RdL w1 A1 s (w.heap.size < ·)) := Lib.hid (hr1.mono fun x hx => by simp at hx; omega)
      have HM1 : Hid (m1 = s.length) := Lib.hid hm1
      have HN1 := Lib.hid hn1
      have hB2 : Below w1.heap.size w1 (w1.alloc (unitObj k lb nb A1 m1 C1)) := (Below.refl _ _).alloc (Nat.le_refl _) _
      have HU2 : Hid ((w1.alloc (unitObj k lb nb A1 m1 C1)).heap[w1.heap.size]? = some (unitObj k lb nb A1 m1 C1)) := Lib.hid (Go.Deep.blk_alloc_new _ _)
      have HZ2 := Lib.hid ((hB2.block _ (heap_lt HZ1.out)).trans HZ1.out)
      have HR2 := Lib.hid (HR1.out.old hB2)
      have HB2 := Lib.hid (HB1.out.trans (hB2.mono HB1.out.size))
      clear hm1 hn1 hr1 hb1 hB2
      go_wp2_with fail
      refine (framePut_any k lb nb A1 s m1 C1 _ _ HM1.out HN1.out HR2.out).mono ?_
      rintro e w3 ⟨A3, n3, C3, rfl, hn3, hc3, -, ha3, hr3, hb3⟩
      have hb3' : Below (w1.alloc (unitObj k lb nb A1 m1 C1)).heap.size (w1.alloc (unitObj k lb nb A1 m1 C1)) w3 := hb3
      have HU3 := Lib.hid ((hb3'.block _ (heap_lt HU2.out)).trans HU2.out)
      have HZ3 := Lib.hid ((hb3'.block _ (heap_lt HZ2.out)).trans HZ2.out)
      have HS3 := Lib.hid (HR2.out.old hb3')
      have HB3 := Lib.hid (HB2.out.trans (hb3'.mono HB2.out.size))
      have HR3 := Lib.hid hr3
      have HN3 := Lib.hid hn3
      clear hb3 hb3' hr3 hn3 hc3 ha3 HU2 HZ2 HR2 HB2 HZ1 HR1 HB1
      obtain ⟨u0, u1, u2, u3⟩ := unit4 HU3.out
      obtain ⟨z0, z1, z2, z3⟩ := unit4 HZ3.out
      have y0 : w3.frozen? ⟨w.heap.size, 0, none⟩ = false := heap_frozen HZ3.out
      have y1 : w3.frozen? ⟨w.heap.size, 1, none⟩ = false := heap_frozen HZ3.out
      have y2 : w3.frozen? ⟨w.heap.size, 2, none⟩ = false := heap_frozen HZ3.out
      have y3 : w3.frozen? ⟨w.heap.size, 3, none⟩ = false := heap_frozen HZ3.out
      rw [← HE2.out]
      go_wp2_with fail
      refine (equal_any A3 A _ b n3 L C3 C _ _ w3 HN3.out HL.out HR3.out (HR.out.old HB3.out)).mono ?_
      rw [heq]
      rintro e w4 ⟨rfl, hw4⟩
      subst hw4
      go_wp2
      exact bodyPost_ret (v := .tuple #[.agg #[.int .i64 k, .int .i64 lb, .int .i64 nb, .slice A1 m1 C1], .int .i64 0]) (by simp [results, Tryz.results91, go_sem, z0, z1, z2, z3]) rfl (GotU.stored (u := ⟨k, lb, nb, s⟩) HG.out HGE.out rfl HS3.out HM1.out hc1 HN1.out HB3.out)
    · have heq : (Fm.put (Fm.parse b) == b) = false := by rw [Fm.put_ok hok]; simpa using hg
      have HGE := Lib.hid (Fm.gotE_no (b := b) fun h => hg h.2)
      have HG := Lib.hid (Fm.got_no (b := b) fun h => hg h.2)
      rw [HU.out] at heq
      have HE2 := Lib.hid (HU.out ▸ HE.out)
      clear hok hg HE
      go_enter Tryz.func91, Tryz.ntmps91
      go_wp2_with fail
      refine HN.out.mono ?_
      rintro e w1 ⟨A1, m1, C1, rfl, hm1, hc1, hn1, hr1, hb1⟩
      have HB1 := Lib.hid (HB0.out.trans (hb1.mono HB0.out.size))
      have HZ1 : Hid (w1.heap[w.heap.size]? = some (unitObj 0 0 0 none 0 0)) := Lib.hid ((hb1.block _ (by simp)).trans (Go.Deep.blk_alloc_new _ _))
      have HR1 : Hid (RdL w1 A1 s (w.heap.size < ·)) := Lib.hid (hr1.mono fun x hx => by simp at hx; omega)
      have HM1 : Hid (m1 = s.length) := Lib.hid hm1
      have HN1 := Lib.hid hn1
      have hB2 : Below w1.heap.size w1 (w1.alloc (unitObj k lb nb A1 m1 C1)) := (Below.refl _ _).alloc (Nat.le_refl _) _
      have HU2 : Hid ((w1.alloc (unitObj k lb nb A1 m1 C1)).heap[w1.heap.size]? = some (unitObj k lb nb A1 m1 C1)) := Lib.hid (Go.Deep.blk_alloc_new _ _)
      have HZ2 := Lib.hid ((hB2.block _ (heap_lt HZ1.out)).trans HZ1.out)
      have HR2 := Lib.hid (HR1.out.old hB2)
      have HB2 := Lib.hid (HB1.out.trans (hB2.mono HB1.out.size))
      clear hm1 hn1 hr1 hb1 hB2
      go_wp2_with fail
      refine (framePut_any k lb nb A1 s m1 C1 _ _ HM1.out HN1.out HR2.out).mono ?_
      rintro e w3 ⟨A3, n3, C3, rfl, hn3, hc3, -, ha3, hr3, hb3⟩
      have hb3' : Below (w1.alloc (unitObj k lb nb A1 m1 C1)).heap.size (w1.alloc (unitObj k lb nb A1 m1 C1)) w3 := hb3
      have HU3 := Lib.hid ((hb3'.block _ (heap_lt HU2.out)).trans HU2.out)
      have HZ3 := Lib.hid ((hb3'.block _ (heap_lt HZ2.out)).trans HZ2.out)
      have HS3 := Lib.hid (HR2.out.old hb3')
      have HB3 := Lib.hid (HB2.out.trans (hb3'.mono HB2.out.size))
      have HR3 := Lib.hid hr3
      have HN3 := Lib.hid hn3
      clear hb3 hb3' hr3 hn3 hc3 ha3 HU2 HZ2 HR2 HB2 HZ1 HR1 HB1
      obtain ⟨u0, u1, u2, u3⟩ := unit4 HU3.out
      obtain ⟨z0, z1, z2, z3⟩ := unit4 HZ3.out
      have y0 : w3.frozen? ⟨w.heap.size, 0, none⟩ = false := heap_frozen HZ3.out
      have y1 : w3.frozen? ⟨w.heap.size, 1, none⟩ = false := heap_frozen HZ3.out
      have y2 : w3.frozen? ⟨w.heap.size, 2, none⟩ = false := heap_frozen HZ3.out
      have y3 : w3.frozen? ⟨w.heap.size, 3, none⟩ = false := heap_frozen HZ3.out
      rw [← HE2.out]
      go_wp2_with fail
      refine (equal_any A3 A _ b n3 L C3 C _ _ w3 HN3.out HL.out HR3.out (HR.out.old HB3.out)).mono ?_
      rw [heq]
      rintro e w4 ⟨rfl, hw4⟩
      subst hw4
      go_wp2
      exact bodyPost_ret (v := .tuple #[.agg #[.int .i64 0, .int .i64 0, .int .i64 0, .slice none 0 0], .int .i64 2]) (by simp [results, Tryz.results91, go_sem, z0, z1, z2, z3]) rfl (GotU.stored (u := Fm.zero) HG.out HGE.out rfl (RdL.empty _ _ _) rfl (Nat.le_refl _) (fun _ => ⟨rfl, rfl⟩) HB3.out)
  · have hno : ¬ Fm.Good b := fun h => he (HE.out.trans (Fm.err_ok h.1))
    have HGE := Lib.hid (Fm.gotE_no hno)
    have HG := Lib.hid (Fm.got_no hno)
    have q1 : (er == 0) = false := beq_eq_false_iff_ne.2 he
    have q2 : (er != 0) = true := bne_iff_ne.2 he
    have HE2 := Lib.hid (HU.out ▸ HE.out)
    clear hno he HE
    go_enter Tryz.func91, Tryz.ntmps91
    go_wp2_with fail
    refine HN.out.mono ?_
    rintro e w1 ⟨A1, m1, C1, rfl, hm1, hc1, hn1, hr1, hb1⟩
    have HB1 := Lib.hid (HB0.out.trans (hb1.mono HB0.out.size))
    have HZ1 : Hid (w1.heap[w.heap.size]? = some (unitObj 0 0 0 none 0 0)) := Lib.hid ((hb1.block _ (by simp)).trans (Go.Deep.blk_alloc_new _ _))
    have HR1 : Hid (RdL w1 A1 s (w.heap.size < ·)) := Lib.hid (hr1.mono fun x hx => by simp at hx; omega)
    have HM1 : Hid (m1 = s.length) := Lib.hid hm1
    have HN1 := Lib.hid hn1
    have hB2 : Below w1.heap.size w1 (w1.alloc (unitObj k lb nb A1 m1 C1)) := (Below.refl _ _).alloc (Nat.le_refl _) _
    have HU2 : Hid ((w1.alloc (unitObj k lb nb A1 m1 C1)).heap[w1.heap.size]? = some (unitObj k lb nb A1 m1 C1)) := Lib.hid (Go.Deep.blk_alloc_new _ _)
    have HZ2 := Lib.hid ((hB2.block _ (heap_lt HZ1.out)).trans HZ1.out)
    have HR2 := Lib.hid (HR1.out.old hB2)
    have HB2 := Lib.hid (HB1.out.trans (hB2.mono HB1.out.size))
    clear hm1 hn1 hr1 hb1 hB2
    go_wp2_with fail
    refine (framePut_any k lb nb A1 s m1 C1 _ _ HM1.out HN1.out HR2.out).mono ?_
    rintro e w3 ⟨A3, n3, C3, rfl, hn3, hc3, -, ha3, hr3, hb3⟩
    have hb3' : Below (w1.alloc (unitObj k lb nb A1 m1 C1)).heap.size (w1.alloc (unitObj k lb nb A1 m1 C1)) w3 := hb3
    have HU3 := Lib.hid ((hb3'.block _ (heap_lt HU2.out)).trans HU2.out)
    have HZ3 := Lib.hid ((hb3'.block _ (heap_lt HZ2.out)).trans HZ2.out)
    have HS3 := Lib.hid (HR2.out.old hb3')
    have HB3 := Lib.hid (HB2.out.trans (hb3'.mono HB2.out.size))
    have HR3 := Lib.hid hr3
    have HN3 := Lib.hid hn3
    clear hb3 hb3' hr3 hn3 hc3 ha3 HU2 HZ2 HR2 HB2 HZ1 HR1 HB1
    obtain ⟨u0, u1, u2, u3⟩ := unit4 HU3.out
    obtain ⟨z0, z1, z2, z3⟩ := unit4 HZ3.out
    have y0 : w3.frozen? ⟨w.heap.size, 0, none⟩ = false := heap_frozen HZ3.out
    have y1 : w3.frozen? ⟨w.heap.size, 1, none⟩ = false := heap_frozen HZ3.out
    have y2 : w3.frozen? ⟨w.heap.size, 2, none⟩ = false := heap_frozen HZ3.out
    have y3 : w3.frozen? ⟨w.heap.size, 3, none⟩ = false := heap_frozen HZ3.out
    rw [← HE2.out]
    go_wp2
    exact bodyPost_ret (v := .tuple #[.agg #[.int .i64 0, .int .i64 0, .int .i64 0, .slice none 0 0], .int .i64 2]) (by simp [results, Tryz.results91, go_sem, z0, z1, z2, z3]) rfl (GotU.stored (u := Fm.zero) HG.out HGE.out rfl (RdL.empty _ _ _) rfl (Nat.le_refl _) (fun _ => ⟨rfl, rfl⟩) HB3.out)
end Go.Proofs.YtfkoomldncfdnaaGreat
namespace Go.Proofs.YtfkoomldncfdnaaGreat
open Go.RowKit
open Pt (Tx)

/-- block n, if it is good, for whatever n -/
def Vo.goodZ (t : Vo.T) (n : Int) : Option Fm.U := if n < 0 then none else Vo.good t n.toNat
/-- what is answered for it -/
def unitOf (o : Option Fm.U) : Fm.U := o.getD Fm.zero
def GoodA (o : Option Fm.U) (w : World) (e : Ending) (w' : World) : Prop :=
  ∃ A m C, e = .returned (.tuple #[.agg #[.int .i64 (unitOf o).kind, .int .i64 (unitOf o).label, .int .i64 (unitOf o).number, .slice A m C], .bool o.isSome]) ∧ m = (unitOf o).load.length ∧ m ≤ C ∧ (A = none → m = 0 ∧ C = 0) ∧ RdL w' A (unitOf o).load (w.heap.size ≤ ·) ∧ Below w.heap.size w w'
theorem GoodA.stored {w w7 : World} {B : Nat} {a0 a1 a2 a3 : Value} {o : Option Fm.U} {u : Fm.U} {b : Bool} {A : Option Addr} {m C : Nat} (hu : unitOf o = u) (he : o.isSome = b) (hB : w.heap.size ≤ B) (hr : RdL w7 A u.load (fun x => w.heap.size ≤ x ∧ x ≠ B)) (hm : m = u.load.length) (hc : m ≤ C) (hn : A = none → m = 0 ∧ C = 0) (hb : Below w.heap.size w w7) :
    GoodA o w (.returned (.tuple #[.agg #[.int .i64 u.kind, .int .i64 u.label, .int .i64 u.number, .slice A m C], .bool b])) ((((w7.setCell ⟨B, 0, none⟩ a0).setCell ⟨B, 1, none⟩ a1).setCell ⟨B, 2, none⟩ a2).setCell ⟨B, 3, none⟩ a3) := by
  have hk : Kp (· = B) w7 ((((w7.setCell ⟨B, 0, none⟩ a0).setCell ⟨B, 1, none⟩ a1).setCell ⟨B, 2, none⟩ a2).setCell ⟨B, 3, none⟩ a3) := (((Kp.store _ _ _ _).trans (Kp.store _ _ _ _)).trans (Kp.store _ _ _ _)).trans (Kp.store _ _ _ _)
  exact ⟨A, m, C, by rw [hu, he], by rw [hu]; exact hm, hc, hn, by rw [hu]; exact (hr.kp hk (fun x hx hx' => hx.2 hx')).mono (fun x hx => hx.1), hb.trans (hk.below hb.size (fun x hx => by omega))⟩
theorem goodZ_no {lab : Int} {bs : List Tx} {lost : Bool} {n : Int} (h : lost = true ∨ n < 0 ∨ (bs.length : Int) ≤ n) : Vo.goodZ ⟨lab, bs, lost⟩ n = none := by
  unfold Vo.goodZ
  split
  · rfl
  · rcases h with h | h | h
    · exact Vo.good_lost h _
    · omega
    · exact Vo.good_end (t := ⟨lab, bs, lost⟩) (by show bs.length ≤ _; omega)
theorem good_is {lab : Int} {bs : List Tx} {n : Nat} (h : n < bs.length) : Vo.good ⟨lab, bs, false⟩ n = if Fm.Good bs[n] ∧ (Fm.parse bs[n]).label = lab ∧ (Fm.parse bs[n]).number = (n : Int) then some (Fm.parse bs[n]) else none := by
  unfold Vo.good
  rw [if_neg (show ¬ (false = true) by decide)]
  show (match bs[n]? with | none => none | some b => if Fm.Good b ∧ (Fm.parse b).label = lab ∧ (Fm.parse b).number = (n : Int) then some (Fm.parse b) else none) = _
  rw [List.getElem?_eq_getElem h]
/-- a tape's block, and an answer's behind it -/
theorem two_blocks {w wb : World} {o1 o2 : Obj} (h : wb = (w.alloc o1).alloc o2) : Below w.heap.size w wb ∧ wb.heap[w.heap.size]? = some o1 ∧ wb.heap[w.heap.size + 1]? = some o2 := by
  have hb1 : Below w.heap.size w (w.alloc o1) := (Below.refl _ _).alloc (Nat.le_refl _) _
  have h1 : (w.alloc o1).heap[w.heap.size]? = some o1 := Go.Deep.blk_alloc_new _ _
  have h2 := Go.Deep.blk_alloc_new (w.alloc o1) o2
  rw [show (w.alloc o1).heap.size = w.heap.size + 1 by simp] at h2
  subst h
  exact ⟨hb1.alloc hb1.size _, (Below.heap_alloc _ _ _ (heap_lt h1)).trans h1, h2⟩
set_option maxHeartbeats 400000 in
theorem good_out (lab cap : Int) (bs : List Tx) (A : Option Addr) (L C : Nat) (lost : Bool) (n : Int) (w : World) (hL : L = bs.length) (h : lost = true ∨ n < 0 ∨ (bs.length : Int) ≤ n) :
    Calls Tryz.prog 59 #[.agg #[.int .i64 lab, .int .i64 cap, .slice A L C, .bool lost], .int .i64 n] w (GoodA (Vo.goodZ ⟨lab, bs, lost⟩ n) w) := by
  have HG := Lib.hid (goodZ_no (lab := lab) h)
  obtain ⟨wb, hwb⟩ : ∃ wb, wb = (w.alloc (tapeObj lab cap A L C lost)).alloc (unitObj 0 0 0 none 0 0) := ⟨_, rfl⟩
  obtain ⟨hB, hT, hU⟩ := two_blocks hwb
  have HB := Lib.hid hB
  have HU := Lib.hid hU
  have HT := Lib.hid hT
  have HW := Lib.hid hwb
  unfold tapeObj unitObj at HW
  obtain ⟨t0, t1, t2, t3⟩ := tape4 hT
  obtain ⟨z0, z1, z2, z3⟩ := unit4 hU
  rw [hwb] at t0 t1 t2 t3
  rw [← hL] at h
  clear hB hT hU hwb hL
  have hq : lost = true ∨ (lost = false ∧ decide (n < 0) = true) ∨ (lost = false ∧ decide (n < 0) = false ∧ decide ((L : Int) ≤ n) = true) := by
    cases lost with
    | true => exact .inl rfl
    | false =>
      refine .inr ?_
      by_cases h0 : n < 0
      · exact .inl ⟨rfl, decide_eq_true h0⟩
      · exact .inr ⟨rfl, decide_eq_false h0, decide_eq_true (by rcases h with h | h | h; · cases h
                                                                · exact absurd h h0
                                                                · exact h)⟩
  clear h
  rcases hq with rfl | ⟨rfl, q1⟩ | ⟨rfl, q1, q2⟩
  all_goals
    go_enter Tryz.func59, Tryz.ntmps59
    go_wp2_with fail
    rw [← HW.out]
    refine bodyPost_ret (v := .tuple #[.agg #[.int .i64 0, .int .i64 0, .int .i64 0, .slice none 0 0], .bool false]) (by simp [results, Tryz.results59, go_sem, z0, z1, z2, z3]) rfl ?_
    rw [HG.out]
    exact ⟨none, 0, 0, rfl, rfl, Nat.le_refl _, fun _ => ⟨rfl, rfl⟩, RdL.empty _ _ _, HB.out⟩
set_option maxHeartbeats 4000000 in
theorem good_in (lab cap : Int) (bs : List Tx) (A : Option Addr) (L C : Nat) (G : Nat → Prop) (n : Nat) (w : World) (hL : L = bs.length) (hr : RdB w A bs G) (hn : n < bs.length) (hl : ∀ s ∈ bs, s.length ≤ 1000000) :
    Calls Tryz.prog 59 #[.agg #[.int .i64 lab, .int .i64 cap, .slice A L C, .bool false], .int .i64 n] w (GoodA (Vo.good ⟨lab, bs, false⟩ n) w) := by
  obtain ⟨b, off, A1, C1, rfl, hg1, hc1, hC1, hN1, hr1⟩ := hr.at_ hn
  obtain ⟨s, hsd⟩ : ∃ s, s = bs[n] := ⟨_, rfl⟩
  have hsl : s.length ≤ 1000000 := by rw [hsd]; exact hl _ (List.getElem_mem hn)
  have HG := Lib.hid (good_is (lab := lab) hn)
  rw [← hsd] at HG hc1 hC1 hN1 hr1
  obtain ⟨S, hS⟩ : ∃ S, S = s.length := ⟨_, rfl⟩
  rw [← hS] at hc1 hC1 hN1 hsl
  obtain ⟨wb, hwb⟩ : ∃ wb, wb = (w.alloc (tapeObj lab cap (some ⟨b, off, none⟩) L C false)).alloc (unitObj 0 0 0 none 0 0) := ⟨_, rfl⟩
  obtain ⟨hB, hT, hU⟩ := two_blocks hwb
  have hcb : wb.cell? ⟨b, off + n, none⟩ = some (.slice A1 S C1) := (hB.cell (World.block_lt_of_cell? _ _ hc1)).trans hc1
  have HGET := Lib.hid (frameGet_any A1 s S C1 G wb hS hC1 hsl hN1 (hr1.old hB))
  have HB := Lib.hid hB
  have HU := Lib.hid hU
  have HT := Lib.hid hT
  have HW := Lib.hid hwb
  unfold tapeObj unitObj at HW
  obtain ⟨t0, t1, t2, t3⟩ := tape4 hT
  have q1 : decide ((n : Int) < 0) = false := decide_eq_false (by omega)
  have q2 : decide ((L : Int) ≤ (n : Int)) = false := decide_eq_false (by omega)
  have q3 : decide (L ≤ n) = false := decide_eq_false (by omega)
  have q4 : n < L := by omega
  obtain ⟨ge, hge⟩ : ∃ ge, ge = Fm.gotE s := ⟨_, rfl⟩
  obtain ⟨k, lb, nb, ld, hu⟩ : ∃ k lb nb ld, Fm.got s = ⟨k, lb, nb, ld⟩ := ⟨_, _, _, _, rfl⟩
  unfold GotU at HGET
  rw [hu, ← hge] at HGET
  have hcase : (ge = 0 ∧ lb = lab ∧ nb = (n : Int) ∧ Vo.good ⟨lab, bs, false⟩ n = some ⟨k, lb, nb, ld⟩) ∨ (Vo.good ⟨lab, bs, false⟩ n = none ∧ ((ge != 0) = true ∨ ((ge != 0) = false ∧ (lb != lab) = true) ∨ ((ge != 0) = false ∧ (lb != lab) = false ∧ (nb != (n : Int)) = true))) := by
    have h := HG.out
    by_cases hgd : Fm.Good s
    · rw [Fm.gotE_yes hgd] at hge
      rw [Fm.got_yes hgd] at hu
      rw [hu] at h
      by_cases h1 : lb = lab
      · by_cases h2 : nb = (n : Int)
        · refine .inl ⟨hge, h1, h2, ?_⟩
          rw [h, if_pos ⟨hgd, h1, h2⟩]
        · refine .inr ⟨?_, .inr (.inr ⟨by rw [hge]; rfl, by rw [h1]; simp, by simpa using h2⟩)⟩
          rw [h, if_neg fun h' => h2 h'.2.2]
      · refine .inr ⟨?_, .inr (.inl ⟨by rw [hge]; rfl, by simpa using h1⟩)⟩
        rw [h, if_neg fun h' => h1 h'.2.1]
    · rw [Fm.gotE_no hgd] at hge
      refine .inr ⟨?_, .inl (by rw [hge]; rfl)⟩
      rw [h, if_neg fun h' => hgd h'.1]
  clear HG hg1 hc1 hC1 hN1 hr1 hS hsl hu hge hr hl hL hn hB hT hU hsd
  rcases hcase with ⟨rfl, rfl, hnb, hres⟩ | ⟨hres, hq⟩
  · have HRES := Lib.hid hres
    have hq5 : (nb != (n : Int)) = false := by simp [hnb]
    clear hres hnb
    rw [HW.out] at t0 t1 t2 t3 hcb
    go_enter Tryz.func59, Tryz.ntmps59
    go_wp2_with fail
    rw [← HW.out]
    refine HGET.out.mono ?_
    rintro e w1 ⟨A2, m2, C2, rfl, hm2, hc2, hn2, hr2, hb2⟩
    obtain ⟨wc, hwc⟩ : ∃ wc, wc = w1.alloc (unitObj k lb nb A2 m2 C2) := ⟨_, rfl⟩
    have hb3 : Below w1.heap.size w1 wc := by rw [hwc]; exact (Below.refl _ _).alloc (Nat.le_refl _) _
    have hbc := hb2.trans (hb3.mono hb2.size)
    have hY : wc.heap[w1.heap.size]? = some (unitObj k lb nb A2 m2 C2) := by rw [hwc]; exact Go.Deep.blk_alloc_new _ _
    have hZ := (hbc.block _ (heap_lt HU.out)).trans HU.out
    have hT3 := below_tape hbc HT.out
    obtain ⟨t0', t1', t2', t3'⟩ := tape4 hT3
    obtain ⟨z0, z1, z2, z3⟩ := unit4 hZ
    obtain ⟨x0, x1, x2, x3⟩ := unit4 hY
    have y0 : wc.frozen? ⟨w.heap.size + 1, 0, none⟩ = false := heap_frozen hZ
    have y1 : wc.frozen? ⟨w.heap.size + 1, 1, none⟩ = false := heap_frozen hZ
    have y2 : wc.frozen? ⟨w.heap.size + 1, 2, none⟩ = false := heap_frozen hZ
    have y3 : wc.frozen? ⟨w.heap.size + 1, 3, none⟩ = false := heap_frozen hZ
    have HR2 : Hid (RdL wc A2 ld (fun x => w.heap.size ≤ x ∧ x ≠ w.heap.size + 1)) := Lib.hid ((hr2.old hb3).mono fun x hx => by
      have h1 : w.heap.size + 2 ≤ wb.heap.size := by have := heap_lt HU.out; omega
      have h2 : wb.heap.size ≤ x := hx
      omega)
    have HB3 := Lib.hid (HB.out.trans (hbc.mono HB.out.size))
    have HM2 := Lib.hid hm2
    have HN2 := Lib.hid hn2
    have HWC := Lib.hid hwc
    unfold unitObj at HWC
    obtain ⟨y, hy⟩ : ∃ y, y = w1.heap.size := ⟨_, rfl⟩
    rw [← hy] at x0 x1 x2 x3
    have HY := Lib.hid hy
    have hZ2 := Lib.hid hZ
    clear hb2 hb3 hbc hZ hT3 hr2 hm2 hn2 hwc hY hy t0 t1 t2 t3 x0 x1 x2 x3
    rw [HWC.out] at z0 z1 z2 z3 y0 y1 y2 y3 t0' t1' t2' t3'
    go_wp2
    rw [← HWC.out]
    clear z0 z1 z2 z3
    obtain ⟨z0, z1, z2, z3⟩ := unit4 hZ2.out
    exact bodyPost_ret (v := .tuple #[.agg #[.int .i64 k, .int .i64 lb, .int .i64 nb, .slice A2 m2 C2], .bool true]) (by simp [results, Tryz.results59, go_sem, z0, z1, z2, z3]) rfl (GoodA.stored (u := ⟨k, lb, nb, ld⟩) (by rw [HRES.out]; rfl) (by rw [HRES.out]; rfl) (by omega) HR2.out HM2.out hc2 HN2.out HB3.out)
  · have HRES := Lib.hid hres
    clear hres
    rw [HW.out] at t0 t1 t2 t3 hcb
    rcases hq with p1 | ⟨p1, p2⟩ | ⟨p1, p2, p3⟩
    all_goals
      go_enter Tryz.func59, Tryz.ntmps59
      go_wp2_with fail
      rw [← HW.out]
      refine HGET.out.mono ?_
      rintro e w1 ⟨A2, m2, C2, rfl, hm2, hc2, hn2, hr2, hb2⟩
      obtain ⟨wc, hwc⟩ : ∃ wc, wc = w1.alloc (unitObj k lb nb A2 m2 C2) := ⟨_, rfl⟩
      have hb3 : Below w1.heap.size w1 wc := by rw [hwc]; exact (Below.refl _ _).alloc (Nat.le_refl _) _
      have hbc := hb2.trans (hb3.mono hb2.size)
      have hY : wc.heap[w1.heap.size]? = some (unitObj k lb nb A2 m2 C2) := by rw [hwc]; exact Go.Deep.blk_alloc_new _ _
      have hZ := (hbc.block _ (heap_lt HU.out)).trans HU.out
      have hT3 := below_tape hbc HT.out
      obtain ⟨t0', t1', t2', t3'⟩ := tape4 hT3
      obtain ⟨z0, z1, z2, z3⟩ := unit4 hZ
      obtain ⟨x0, x1, x2, x3⟩ := unit4 hY
      have y0 : wc.frozen? ⟨w.heap.size + 1, 0, none⟩ = false := heap_frozen hZ
      have y1 : wc.frozen? ⟨w.heap.size + 1, 1, none⟩ = false := heap_frozen hZ
      have y2 : wc.frozen? ⟨w.heap.size + 1, 2, none⟩ = false := heap_frozen hZ
      have y3 : wc.frozen? ⟨w.heap.size + 1, 3, none⟩ = false := heap_frozen hZ
      have HR2 : Hid (RdL wc A2 ld (fun x => w.heap.size ≤ x ∧ x ≠ w.heap.size + 1)) := Lib.hid ((hr2.old hb3).mono fun x hx => by
        have h1 : w.heap.size + 2 ≤ wb.heap.size := by have := heap_lt HU.out; omega
        have h2 : wb.heap.size ≤ x := hx
        omega)
      have HB3 := Lib.hid (HB.out.trans (hbc.mono HB.out.size))
      have HM2 := Lib.hid hm2
      have HN2 := Lib.hid hn2
      have HWC := Lib.hid hwc
      unfold unitObj at HWC
      obtain ⟨y, hy⟩ : ∃ y, y = w1.heap.size := ⟨_, rfl⟩
      rw [← hy] at x0 x1 x2 x3
      have HY := Lib.hid hy
      have hZ2 := Lib.hid hZ
      clear hb2 hb3 hbc hZ hT3 hr2 hm2 hn2 hwc hY hy t0 t1 t2 t3 x0 x1 x2 x3
      rw [HWC.out] at z0 z1 z2 z3 y0 y1 y2 y3 t0' t1' t2' t3'
      go_wp2
      rw [← HWC.out]
      clear z0 z1 z2 z3
      obtain ⟨z0, z1, z2, z3⟩ := unit4 hZ2.out
      exact bodyPost_ret (v := .tuple #[.agg #[.int .i64 0, .int .i64 0, .int .i64 0, .slice none 0 0], .bool false]) (by simp [results, Tryz.results59, go_sem, z0, z1, z2, z3]) rfl (GoodA.stored (u := Fm.zero) (by rw [HRES.out]; rfl) (by rw [HRES.out]; rfl) (by omega) (RdL.empty _ _ _) rfl (Nat.le_refl _) (fun _ => ⟨rfl, rfl⟩) HB3.out)
theorem good_any (lab cap : Int) (bs : List Tx) (A : Option Addr) (L C : Nat) (G : Nat → Prop) (lost : Bool) (n : Int) (w : World) (hL : L = bs.length) (hr : RdB w A bs G) (hl : ∀ s ∈ bs, s.length ≤ 1000000) :
    Calls Tryz.prog 59 #[.agg #[.int .i64 lab, .int .i64 cap, .slice A L C, .bool lost], .int .i64 n] w (GoodA (Vo.goodZ ⟨lab, bs, lost⟩ n) w) := by
  by_cases h : lost = true ∨ n < 0 ∨ (bs.length : Int) ≤ n
  · exact good_out lab cap bs A L C lost n w hL h
  · have h1 : lost = false := by cases lost with
      | true => exact absurd (.inl rfl) h
      | false => rfl
    subst h1
    have h2 : 0 ≤ n ∧ n < (bs.length : Int) := by
      constructor
      · rcases Int.lt_or_le n 0 with h' | h'
        · exact absurd (.inr (.inl h')) h
        · exact h'
      · rcases Int.lt_or_le n (bs.length : Int) with h' | h'
        · exact h'
        · exact absurd (.inr (.inr h')) h
    obtain ⟨m, rfl⟩ : ∃ m : Nat, n = (m : Int) := ⟨n.toNat, by omega⟩
    have h3 : Vo.goodZ ⟨lab, bs, false⟩ (m : Int) = Vo.good ⟨lab, bs, false⟩ m := by
      unfold Vo.goodZ
      rw [if_neg (by omega)]; rfl
    rw [h3]
    exact good_in lab cap bs A L C G m w hL hr (by omega) hl
end Go.Proofs.YtfkoomldncfdnaaGreat
namespace Go.Proofs.YtfkoomldncfdnaaGreat
open Go.RowKit
open Pt (Tx)

/-- the slice at A reads as these tapes; all lies in blocks of G -/
def RdT (w : World) (A : Option Addr) (ts : List St.T) (G : Nat → Prop) : Prop :=
  0 < ts.length → ∃ b off, A = some ⟨b, off, none⟩ ∧ G b ∧ ∀ i (hi : i < ts.length), ∃ A' C', w.cell? ⟨b, off + i * 4, none⟩ = some (.int .i64 ts[i].label) ∧ w.cell? ⟨b, off + i * 4 + 1, none⟩ = some (.int .i64 ts[i].cap) ∧ w.cell? ⟨b, off + i * 4 + 2, none⟩ = some (.slice A' ts[i].blocks.length C') ∧ w.cell? ⟨b, off + i * 4 + 3, none⟩ = some (.bool ts[i].lost) ∧ RdB w A' ts[i].blocks G
namespace RdT
variable {w w' : World} {A : Option Addr} {ts : List St.T} {G G' S : Nat → Prop}
theorem empty (w : World) (A : Option Addr) (G : Nat → Prop) : RdT w A [] G := fun h => absurd h (by simp)
theorem keep (h : RdT w A ts G) (hk : ∀ p v, G p.block → w.cell? p = some v → w'.cell? p = some v) : RdT w' A ts G := by
  intro hn
  obtain ⟨b, off, e, hg, hc⟩ := h hn
  refine ⟨b, off, e, hg, fun i hi => ?_⟩
  obtain ⟨A', C', h0, h1, h2, h3, h4⟩ := hc i hi
  exact ⟨A', C', hk _ _ hg h0, hk _ _ hg h1, hk _ _ hg h2, hk _ _ hg h3, h4.keep hk⟩
theorem mono (h : RdT w A ts G) (hg : ∀ b, G b → G' b) : RdT w A ts G' := by
  intro hn
  obtain ⟨b, off, e, hg', hc⟩ := h hn
  refine ⟨b, off, e, hg _ hg', fun i hi => ?_⟩
  obtain ⟨A', C', h0, h1, h2, h3, h4⟩ := hc i hi
  exact ⟨A', C', h0, h1, h2, h3, h4.mono hg⟩
theorem kp (h : RdT w A ts G) (hk : Kp S w w') (hs : ∀ b, G b → ¬ S b) : RdT w' A ts G := h.keep fun _ _ hg hc => hk.cell hc (hs _ hg)
theorem old (h : RdT w A ts G) (hb : Below w.heap.size w w') : RdT w' A ts G := h.keep fun _ _ _ hc => (hb.cell (World.block_lt_of_cell? _ _ hc)).trans hc
theorem in_ (h : RdT w A ts G) : RdT w A ts (fun b => G b ∧ b < w.heap.size) := by
  intro hn
  obtain ⟨b, off, e, hg, hc⟩ := h hn
  refine ⟨b, off, e, ⟨hg, ?_⟩, fun i hi => ?_⟩
  · obtain ⟨_, _, h0, _⟩ := hc 0 hn
    exact World.block_lt_of_cell? _ _ h0
  · obtain ⟨A', C', h0, h1, h2, h3, h4⟩ := hc i hi
    exact ⟨A', C', h0, h1, h2, h3, h4.in_⟩
theorem at_ (h : RdT w A ts G) {i : Nat} (hi : i < ts.length) : ∃ b off A' C', A = some ⟨b, off, none⟩ ∧ G b ∧ w.cell? ⟨b, off + i * 4, none⟩ = some (.int .i64 ts[i].label) ∧ w.cell? ⟨b, off + i * 4 + 1, none⟩ = some (.int .i64 ts[i].cap) ∧ w.cell? ⟨b, off + i * 4 + 2, none⟩ = some (.slice A' ts[i].blocks.length C') ∧ w.cell? ⟨b, off + i * 4 + 3, none⟩ = some (.bool ts[i].lost) ∧ RdB w A' ts[i].blocks G := by
  obtain ⟨b, off, e, hg, hc⟩ := h (by omega)
  obtain ⟨A', C', h0, h1, h2, h3, h4⟩ := hc i hi
  exact ⟨b, off, A', C', e, hg, h0, h1, h2, h3, h4⟩
end RdT
/-- a row of blocks as a matrix -/
theorem RdB.rdM {w : World} {A : Option Addr} {bs : List Tx} {G : Nat → Prop} (h : RdB w A bs G) : RdM w A bs.length (St.lens bs) (St.mat bs) G := fun hn => by
  obtain ⟨b, off, e, hg, hc⟩ := h hn
  refine ⟨b, off, e, hg, fun i hi => ?_⟩
  obtain ⟨A', C', h1, _, _, h4⟩ := hc i hi
  refine ⟨A', C', by rw [St.lens_at hi]; exact h1, ?_⟩
  rw [St.lens_at hi, St.mat_at hi]
  exact h4.rd
/-- the slice at A reads as p matrices, each of n rows of m elements -/
def RdP (w : World) (A : Option Addr) (p n m : Nat) (X : Nat → Mx.Mat) (G : Nat → Prop) : Prop :=
  0 < p → ∃ b off, A = some ⟨b, off, none⟩ ∧ G b ∧ ∀ j, j < p → ∃ A' C', w.cell? ⟨b, off + j, none⟩ = some (.slice A' n C') ∧ n ≤ C' ∧ (A' = none → n = 0 ∧ C' = 0) ∧ RdM w A' n (fun _ => m) (X j) G
namespace RdP
variable {w w' : World} {A : Option Addr} {p n m : Nat} {X Y : Nat → Mx.Mat} {G G' S : Nat → Prop}
theorem empty (w : World) (A : Option Addr) (n m : Nat) (X : Nat → Mx.Mat) (G : Nat → Prop) : RdP w A 0 n m X G := fun h => absurd h (by omega)
theorem keep (h : RdP w A p n m X G) (hk : ∀ p v, G p.block → w.cell? p = some v → w'.cell? p = some v) : RdP w' A p n m X G := by
  intro hn
  obtain ⟨b, off, e, hg, hc⟩ := h hn
  refine ⟨b, off, e, hg, fun j hj => ?_⟩
  obtain ⟨A', C', h1, h2, h3, h4⟩ := hc j hj
  exact ⟨A', C', hk _ _ hg h1, h2, h3, h4.keep hk⟩
theorem mono (h : RdP w A p n m X G) (hg : ∀ b, G b → G' b) : RdP w A p n m X G' := by
  intro hn
  obtain ⟨b, off, e, hg', hc⟩ := h hn
  refine ⟨b, off, e, hg _ hg', fun j hj => ?_⟩
  obtain ⟨A', C', h1, h2, h3, h4⟩ := hc j hj
  exact ⟨A', C', h1, h2, h3, h4.mono hg⟩
theorem congr (h : RdP w A p n m X G) (he : ∀ j, j < p → ∀ i, i < n → ∀ c, c < m → X j i c = Y j i c) : RdP w A p n m Y G := by
  intro hn
  obtain ⟨b, off, e, hg', hc⟩ := h hn
  refine ⟨b, off, e, hg', fun j hj => ?_⟩
  obtain ⟨A', C', h1, h2, h3, h4⟩ := hc j hj
  exact ⟨A', C', h1, h2, h3, h4.congr (fun _ _ => rfl) (he j hj)⟩
theorem old (h : RdP w A p n m X G) (hb : Below w.heap.size w w') : RdP w' A p n m X G := h.keep fun _ _ _ hc => (hb.cell (World.block_lt_of_cell? _ _ hc)).trans hc
theorem at_ (h : RdP w A p n m X G) {j : Nat} (hj : j < p) : ∃ b off A' C', A = some ⟨b, off, none⟩ ∧ G b ∧ w.cell? ⟨b, off + j, none⟩ = some (.slice A' n C') ∧ n ≤ C' ∧ (A' = none → n = 0 ∧ C' = 0) ∧ RdM w A' n (fun _ => m) (X j) G := by
  obtain ⟨b, off, e, hg, hc⟩ := h (by omega)
  obtain ⟨A', C', h1, h2, h3, h4⟩ := hc j hj
  exact ⟨b, off, A', C', e, hg, h1, h2, h3, h4⟩
end RdP
end Go.Proofs.YtfkoomldncfdnaaGreat
namespace Go.Proofs.YtfkoomldncfdnaaGreat
open Go.RowKit
open Pt (Tx)

/-- the tape as a value -/
def tapeV (lab cap : Int) (A : Option Addr) (n C : Nat) (lost : Bool) : Value := .agg #[.int .i64 lab, .int .i64 cap, .slice A n C, .bool lost]
theorem isLost_any (lab cap : Int) (A : Option Addr) (n C : Nat) (lost : Bool) (w : World) : Calls Tryz.prog 46 #[tapeV lab cap A n C lost] w (AnsB lost w) := by
  obtain ⟨hb, ht⟩ := tape_new w lab cap A n C lost
  obtain ⟨t0, t1, t2, t3⟩ := tape4 ht
  have HB := Lib.hid hb
  unfold tapeObj at t0 t1 t2 t3 HB
  unfold tapeV
  clear hb ht
  go_enter Tryz.func46, Tryz.ntmps46
  go_wp2
  go_ret
  exact ⟨rfl, HB.out⟩
theorem hasBlocks_any (lab cap : Int) (A : Option Addr) (n C : Nat) (lost : Bool) (w : World) : Calls Tryz.prog 48 #[tapeV lab cap A n C lost] w (AnsB (decide ((n : Int) > 0)) w) := by
  obtain ⟨hb, ht⟩ := tape_new w lab cap A n C lost
  obtain ⟨t0, t1, t2, t3⟩ := tape4 ht
  have HB := Lib.hid hb
  unfold tapeObj at t0 t1 t2 t3 HB
  unfold tapeV
  clear hb ht
  obtain ⟨d, hd⟩ : ∃ d, d = decide ((n : Int) > 0) := ⟨_, rfl⟩
  rw [← hd]
  have HD := Lib.hid hd
  clear hd
  go_enter Tryz.func48, Tryz.ntmps48
  go_wp2
  go_ret
  exact ⟨by rw [HD.out]; simp, HB.out⟩
theorem any_take {p : St.T → Bool} {ts : List St.T} {k : Nat} (h : k < ts.length) : (ts.take (k + 1)).any p = ((ts.take k).any p || p ts[k]) := by
  rw [List.take_succ_eq_append_getElem h, List.any_append]; simp
theorem any_at {p : St.T → Bool} {ts : List St.T} {k : Nat} (h : k < ts.length) : p ts[k] = true → ts.any p = true := fun hp => List.any_eq_true.2 ⟨_, List.getElem_mem h, hp⟩
def lostB (t : St.T) : Bool := t.lost
def hasB (t : St.T) : Bool := decide ((t.blocks.length : Int) > 0)
set_option maxHeartbeats 2000000 in
theorem lost_index (A : Option Addr) (ts : List St.T) (C : Nat) (G : Nat → Prop) (w : World) (hn : ts.length ≤ 1000000) (hr : RdT w A ts G) :
    Calls Tryz.prog 70 #[.slice A ts.length C, .func (.func 46) #[] #[]] w fun e w' => ∃ z : Int, e = .returned (.int .i64 z) ∧ decide (0 ≤ z) = ts.any lostB ∧ Below w.heap.size w w' := by
  have HR := Lib.hid hr
  clear hr
  go_enter Tryz.func70, Tryz.ntmps70
  go_wp2
  go_loopw [8] (fun vi wr => ∃ k : Nat, k ≤ ts.length ∧ vi = .int .i64 (k : Int) ∧ Hid ((ts.take k).any lostB = false) ∧ Hid (Below w.heap.size w wr)) (fun vi _ => ts.length - (intOf vi).toNat)
  case atStart => exact ⟨0, Nat.zero_le _, rfl, Lib.hid rfl, Lib.hid (Below.refl _ _)⟩
  case round =>
    obtain ⟨k, hk, rfl, HN, HB⟩ := hrel
    by_cases hlt : k < ts.length
    · have e0 : decide (k < ts.length) = true := decide_eq_true hlt
      obtain ⟨b, off, A', C', rfl, -, c0, c1, c2, c3, hb⟩ := (HR.out.old HB.out).at_ hlt
      have HT := Lib.hid (any_take (p := lostB) hlt)
      have HA := Lib.hid (any_at (p := lostB) hlt)
      obtain ⟨⟨lab, cap, bs, lost⟩, ht⟩ : ∃ t, t = ts[k] := ⟨_, rfl⟩
      rw [← ht] at c0 c1 c2 c3 HT HA
      dsimp only at c0 c1 c2 c3
      have hcall := isLost_any lab cap A' bs.length C' lost wr
      obtain ⟨d, hd⟩ : ∃ d, d = lostB ⟨lab, cap, bs, lost⟩ := ⟨_, rfl⟩
      rw [← hd] at HT HA
      have hd' : lost = d := hd.symm
      rw [hd'] at hcall c3
      unfold tapeV at hcall
      have HC := Lib.hid hcall
      obtain ⟨m, hm⟩ : ∃ m, m = bs.length := ⟨_, rfl⟩
      rw [← hm] at c2 HC
      clear ht hb hcall hd hd' hm
      cases d with
      | true =>
        have HF := Lib.hid (HA.out rfl)
        clear HA HT
        go_wp2_with (go_at_call 46; refine HC.out.mono ?_; rintro e w1 ⟨rfl, hb1⟩; have HB1 := Lib.hid (HB.out.trans (hb1.mono HB.out.size)); clear hb1)
        go_ret
        exact ⟨(k : Int), rfl, by rw [HF.out]; exact decide_eq_true (by omega), HB1.out⟩
      | false =>
        have HF := Lib.hid (HT.out.trans (by rw [HN.out]; rfl) : (ts.take (k + 1)).any lostB = false)
        clear HA HT
        go_wp2_with (go_at_call 46; refine HC.out.mono ?_; rintro e w1 ⟨rfl, hb1⟩; have HB1 := Lib.hid (HB.out.trans (hb1.mono HB.out.size)); clear hb1)
        go_roundw
        case rel => exact ⟨k + 1, by omega, by go_num, HF, HB1⟩
        case measure => simp [intOf]; omega
    · have e0 : decide (k < ts.length) = false := decide_eq_false hlt
      have HF := Lib.hid (by have h := HN.out; rwa [List.take_of_length_le (by omega)] at h : ts.any lostB = false)
      go_wp2
      go_ret
      exact ⟨-1, rfl, by rw [HF.out]; rfl, HB.out⟩
theorem lost_contains (A : Option Addr) (ts : List St.T) (C : Nat) (G : Nat → Prop) (w : World) (hn : ts.length ≤ 1000000) (hr : RdT w A ts G) :
    Calls Tryz.prog 45 #[.slice A ts.length C, .func (.func 46) #[] #[]] w (AnsB (ts.any lostB) w) := by
  have HC := Lib.hid (lost_index A ts C G w hn hr)
  clear hr
  go_enter Tryz.func45, Tryz.ntmps45
  go_wp2_with fail
  refine HC.out.mono ?_
  rintro e w' ⟨z, rfl, hz, hb⟩
  have HZ := Lib.hid hz
  have HB := Lib.hid hb
  clear hz hb
  go_wp2
  go_ret
  exact ⟨by rw [← HZ.out]; rfl, HB.out⟩
set_option maxHeartbeats 2000000 in
theorem has_index (A : Option Addr) (ts : List St.T) (C : Nat) (G : Nat → Prop) (w : World) (hn : ts.length ≤ 1000000) (hr : RdT w A ts G) :
    Calls Tryz.prog 70 #[.slice A ts.length C, .func (.func 48) #[] #[]] w fun e w' => ∃ z : Int, e = .returned (.int .i64 z) ∧ decide (0 ≤ z) = ts.any hasB ∧ Below w.heap.size w w' := by
  have HR := Lib.hid hr
  clear hr
  go_enter Tryz.func70, Tryz.ntmps70
  go_wp2
  go_loopw [8] (fun vi wr => ∃ k : Nat, k ≤ ts.length ∧ vi = .int .i64 (k : Int) ∧ Hid ((ts.take k).any hasB = false) ∧ Hid (Below w.heap.size w wr)) (fun vi _ => ts.length - (intOf vi).toNat)
  case atStart => exact ⟨0, Nat.zero_le _, rfl, Lib.hid rfl, Lib.hid (Below.refl _ _)⟩
  case round =>
    obtain ⟨k, hk, rfl, HN, HB⟩ := hrel
    by_cases hlt : k < ts.length
    · have e0 : decide (k < ts.length) = true := decide_eq_true hlt
      obtain ⟨b, off, A', C', rfl, -, c0, c1, c2, c3, hb⟩ := (HR.out.old HB.out).at_ hlt
      have HT := Lib.hid (any_take (p := hasB) hlt)
      have HA := Lib.hid (any_at (p := hasB) hlt)
      obtain ⟨⟨lab, cap, bs, lost⟩, ht⟩ : ∃ t, t = ts[k] := ⟨_, rfl⟩
      rw [← ht] at c0 c1 c2 c3 HT HA
      dsimp only at c0 c1 c2 c3
      have hcall := hasBlocks_any lab cap A' bs.length C' lost wr
      obtain ⟨d, hd⟩ : ∃ d, d = hasB ⟨lab, cap, bs, lost⟩ := ⟨_, rfl⟩
      rw [← hd] at HT HA
      have hd' : decide ((bs.length : Int) > 0) = d := hd.symm
      rw [hd'] at hcall
      unfold tapeV at hcall
      have HC := Lib.hid hcall
      obtain ⟨m, hm⟩ : ∃ m, m = bs.length := ⟨_, rfl⟩
      rw [← hm] at c2 HC
      clear ht hb hcall hd hd' hm
      cases d with
      | true =>
        have HF := Lib.hid (HA.out rfl)
        clear HA HT
        go_wp2_with (go_at_call 48; refine HC.out.mono ?_; rintro e w1 ⟨rfl, hb1⟩; have HB1 := Lib.hid (HB.out.trans (hb1.mono HB.out.size)); clear hb1)
        go_ret
        exact ⟨(k : Int), rfl, by rw [HF.out]; exact decide_eq_true (by omega), HB1.out⟩
      | false =>
        have HF := Lib.hid (HT.out.trans (by rw [HN.out]; rfl) : (ts.take (k + 1)).any hasB = false)
        clear HA HT
        go_wp2_with (go_at_call 48; refine HC.out.mono ?_; rintro e w1 ⟨rfl, hb1⟩; have HB1 := Lib.hid (HB.out.trans (hb1.mono HB.out.size)); clear hb1)
        go_roundw
        case rel => exact ⟨k + 1, by omega, by go_num, HF, HB1⟩
        case measure => simp [intOf]; omega
    · have e0 : decide (k < ts.length) = false := decide_eq_false hlt
      have HF := Lib.hid (by have h := HN.out; rwa [List.take_of_length_le (by omega)] at h : ts.any hasB = false)
      go_wp2
      go_ret
      exact ⟨-1, rfl, by rw [HF.out]; rfl, HB.out⟩
theorem has_contains (A : Option Addr) (ts : List St.T) (C : Nat) (G : Nat → Prop) (w : World) (hn : ts.length ≤ 1000000) (hr : RdT w A ts G) :
    Calls Tryz.prog 45 #[.slice A ts.length C, .func (.func 48) #[] #[]] w (AnsB (ts.any hasB) w) := by
  have HC := Lib.hid (has_index A ts C G w hn hr)
  clear hr
  go_enter Tryz.func45, Tryz.ntmps45
  go_wp2_with fail
  refine HC.out.mono ?_
  rintro e w' ⟨z, rfl, hz, hb⟩
  have HZ := Lib.hid hz
  have HB := Lib.hid hb
  clear hz hb
  go_wp2
  go_ret
  exact ⟨by rw [← HZ.out]; rfl, HB.out⟩
def smallB (N : Nat) (t : St.T) : Bool := decide (t.cap < (N : Int) + 2)
theorem small_any (gb N : Nat) (hN : N ≤ 1000000) (lab cap : Int) (A : Option Addr) (n C : Nat) (lost : Bool) (w : World) (hgb : w.cell? ⟨gb, 0, none⟩ = some (.int .i64 (N : Int))) : Calls Tryz.prog 49 #[tapeV lab cap A n C lost, .pointer (some ⟨gb, 0, none⟩)] w (AnsB (decide (cap < (N : Int) + 2)) w) := by
  obtain ⟨hb, ht⟩ := tape_new w lab cap A n C lost
  obtain ⟨t0, t1, t2, t3⟩ := tape4 ht
  have g0 := (hb.cell (World.block_lt_of_cell? _ _ hgb)).trans hgb
  have s1 : IntKind.i64.wrap ((N : Int) + 2) = (N : Int) + 2 := IntWalk.i64_in _ (by omega)
  have HB := Lib.hid hb
  unfold tapeObj at t0 t1 t2 t3 HB g0
  unfold tapeV
  clear hb ht hgb
  go_enter Tryz.func49, Tryz.ntmps49
  go_wp2
  go_ret
  exact ⟨rfl, HB.out⟩
set_option maxHeartbeats 2000000 in
theorem small_index (gb N : Nat) (hN : N ≤ 1000000) (A : Option Addr) (ts : List St.T) (C : Nat) (G : Nat → Prop) (w : World) (hn : ts.length ≤ 1000000) (hr : RdT w A ts G) (hgb : w.cell? ⟨gb, 0, none⟩ = some (.int .i64 (N : Int))) :
    Calls Tryz.prog 70 #[.slice A ts.length C, .func (.func 49) #[] #[.pointer (some ⟨gb, 0, none⟩)]] w fun e w' => ∃ z : Int, e = .returned (.int .i64 z) ∧ decide (0 ≤ z) = ts.any (smallB N) ∧ Below w.heap.size w w' := by
  have HR := Lib.hid hr
  have HGB := Lib.hid hgb
  clear hr hgb
  go_enter Tryz.func70, Tryz.ntmps70
  go_wp2
  go_loopw [8] (fun vi wr => ∃ k : Nat, k ≤ ts.length ∧ vi = .int .i64 (k : Int) ∧ Hid ((ts.take k).any (smallB N) = false) ∧ Hid (Below w.heap.size w wr)) (fun vi _ => ts.length - (intOf vi).toNat)
  case atStart => exact ⟨0, Nat.zero_le _, rfl, Lib.hid rfl, Lib.hid (Below.refl _ _)⟩
  case round =>
    obtain ⟨k, hk, rfl, HN, HB⟩ := hrel
    by_cases hlt : k < ts.length
    · have e0 : decide (k < ts.length) = true := decide_eq_true hlt
      obtain ⟨b, off, A', C', rfl, -, c0, c1, c2, c3, hb⟩ := (HR.out.old HB.out).at_ hlt
      have HT := Lib.hid (any_take (p := (smallB N)) hlt)
      have HA := Lib.hid (any_at (p := (smallB N)) hlt)
      obtain ⟨⟨lab, cap, bs, lost⟩, ht⟩ : ∃ t, t = ts[k] := ⟨_, rfl⟩
      rw [← ht] at c0 c1 c2 c3 HT HA
      dsimp only at c0 c1 c2 c3
      have hcall := small_any gb N hN lab cap A' bs.length C' lost wr ((HB.out.cell (World.block_lt_of_cell? _ _ HGB.out)).trans HGB.out)
      obtain ⟨d, hd⟩ : ∃ d, d = (smallB N) ⟨lab, cap, bs, lost⟩ := ⟨_, rfl⟩
      rw [← hd] at HT HA
      have hd' : decide (cap < (N : Int) + 2) = d := hd.symm
      rw [hd'] at hcall
      unfold tapeV at hcall
      have HC := Lib.hid hcall
      obtain ⟨m, hm⟩ : ∃ m, m = bs.length := ⟨_, rfl⟩
      rw [← hm] at c2 HC
      clear ht hb hcall hd hd' hm
      cases d with
      | true =>
        have HF := Lib.hid (HA.out rfl)
        clear HA HT
        go_wp2_with (go_at_call 49; refine HC.out.mono ?_; rintro e w1 ⟨rfl, hb1⟩; have HB1 := Lib.hid (HB.out.trans (hb1.mono HB.out.size)); clear hb1)
        go_ret
        exact ⟨(k : Int), rfl, by rw [HF.out]; exact decide_eq_true (by omega), HB1.out⟩
      | false =>
        have HF := Lib.hid (HT.out.trans (by rw [HN.out]; rfl) : (ts.take (k + 1)).any (smallB N) = false)
        clear HA HT
        go_wp2_with (go_at_call 49; refine HC.out.mono ?_; rintro e w1 ⟨rfl, hb1⟩; have HB1 := Lib.hid (HB.out.trans (hb1.mono HB.out.size)); clear hb1)
        go_roundw
        case rel => exact ⟨k + 1, by omega, by go_num, HF, HB1⟩
        case measure => simp [intOf]; omega
    · have e0 : decide (k < ts.length) = false := decide_eq_false hlt
      have HF := Lib.hid (by have h := HN.out; rwa [List.take_of_length_le (by omega)] at h : ts.any (smallB N) = false)
      go_wp2
      go_ret
      exact ⟨-1, rfl, by rw [HF.out]; rfl, HB.out⟩
theorem small_contains (gb N : Nat) (hN : N ≤ 1000000) (A : Option Addr) (ts : List St.T) (C : Nat) (G : Nat → Prop) (w : World) (hn : ts.length ≤ 1000000) (hr : RdT w A ts G) (hgb : w.cell? ⟨gb, 0, none⟩ = some (.int .i64 (N : Int))) :
    Calls Tryz.prog 45 #[.slice A ts.length C, .func (.func 49) #[] #[.pointer (some ⟨gb, 0, none⟩)]] w (AnsB (ts.any (smallB N)) w) := by
  have HC := Lib.hid (small_index gb N hN A ts C G w hn hr hgb)
  clear hr hgb
  go_enter Tryz.func45, Tryz.ntmps45
  go_wp2_with fail
  refine HC.out.mono ?_
  rintro e w' ⟨z, rfl, hz, hb⟩
  have HZ := Lib.hid hz
  have HB := Lib.hid hb
  clear hz hb
  go_wp2
  go_ret
  exact ⟨by rw [← HZ.out]; rfl, HB.out⟩
/-- are all blocks of it good? -/
def goodB (t : St.T) : Bool := decide (∀ n, n < t.blocks.length → (Vo.good (Gr.vo t) n).isSome = true)
theorem all_take {p : St.T → Bool} {ts : List St.T} {k : Nat} (h : k < ts.length) : (ts.take (k + 1)).all p = ((ts.take k).all p && p ts[k]) := by
  rw [List.take_succ_eq_append_getElem h, List.all_append]; simp
theorem all_at {p : St.T → Bool} {ts : List St.T} {k : Nat} (h : k < ts.length) : p ts[k] = false → ts.all p = false := fun hp => by
  rw [Bool.eq_false_iff]
  intro h'
  have := List.all_eq_true.1 h' _ (List.getElem_mem h)
  rw [hp] at this; cases this
set_option maxRecDepth 100000 in
set_option maxHeartbeats 4000000 in
theorem allGood_any (A : Option Addr) (ts : List St.T) (C : Nat) (G : Nat → Prop) (w : World) (hn : ts.length ≤ 1000000) (hl : ∀ t ∈ ts, t.blocks.length ≤ 1000000 ∧ ∀ s ∈ t.blocks, s.length ≤ 1000000) (hr : RdT w A ts G) :
    Calls Tryz.prog 47 #[.slice A ts.length C] w (AnsB (ts.all goodB) w) := by
  have HR := Lib.hid hr
  have HL := Lib.hid hl
  clear hr hl
  go_enter Tryz.func47, Tryz.ntmps47
  go_wp2
  go_loopw [10] (fun vi wr => ∃ i : Nat, i ≤ ts.length ∧ vi = .int .i64 (i : Int) ∧ Hid ((ts.take i).all goodB = true) ∧ Hid (Below w.heap.size w wr)) (fun vi _ => ts.length - (intOf vi).toNat)
  case atStart => exact ⟨0, Nat.zero_le _, rfl, Lib.hid rfl, Lib.hid (Below.refl _ _)⟩
  case round =>
    obtain ⟨i, hi, rfl, HN, HB⟩ := hrel
    by_cases hlt : i < ts.length
    · have e0 : decide (i < ts.length) = true := decide_eq_true hlt
      obtain ⟨b, off, A', C', rfl, -, c0, c1, c2, c3, hb⟩ := (HR.out.old HB.out).at_ hlt
      have HLI := Lib.hid (HL.out _ (List.getElem_mem hlt))
      have HT := Lib.hid (all_take (p := goodB) hlt)
      have HA := Lib.hid (all_at (p := goodB) hlt)
      obtain ⟨⟨lab, cap, bs, lost⟩, ht⟩ : ∃ t, t = ts[i] := ⟨_, rfl⟩
      rw [← ht] at c0 c1 c2 c3 hb HLI HT HA
      dsimp only at c0 c1 c2 c3 hb HLI
      have HG : Hid (goodB ⟨lab, cap, bs, lost⟩ = decide (∀ n, n < bs.length → (Vo.good ⟨lab, bs, lost⟩ n).isSome = true)) := Lib.hid rfl
      obtain ⟨L, hL⟩ : ∃ L, L = bs.length := ⟨_, rfl⟩
      rw [← hL] at c2 HG
      have HLL := Lib.hid hL
      have hLm : L ≤ 1000000 := by rw [hL]; exact HLI.out.1
      obtain ⟨wa, hwa⟩ : ∃ wa, wa = wr.alloc (tapeObj lab cap A' L C' lost) := ⟨_, rfl⟩
      have hba : Below wr.heap.size wr wa := by rw [hwa]; exact (Below.refl _ _).alloc (Nat.le_refl _) _
      have hTa : wa.heap[wr.heap.size]? = some (tapeObj lab cap A' L C' lost) := by rw [hwa]; exact Go.Deep.blk_alloc_new _ _
      have HTA := Lib.hid hTa
      have HBA := Lib.hid (HB.out.trans (hba.mono HB.out.size))
      have HRB := Lib.hid (hb.old hba)
      have HWA : Hid (wa = wr.alloc (.cells #[.int .i64 lab, .int .i64 cap, .slice A' L C', .bool lost] 49)) := Lib.hid hwa
      obtain ⟨t0, t1, t2, t3⟩ := tape4 hTa
      rw [HWA.out] at t0 t1 t2 t3
      clear ht hb hL hwa hba hTa
      go_wp2
      rw [← HWA.out]
      clear t0 t1 t2 t3 c0 c1 c2 c3
      obtain ⟨wo, rfl⟩ : ∃ x, x = wr := ⟨wr, rfl⟩
      go_loopw [17] (fun vn wr => ∃ n : Nat, n ≤ L ∧ vn = .int .i64 (n : Int) ∧ Hid (∀ m, m < n → (Vo.good ⟨lab, bs, lost⟩ m).isSome = true) ∧ Hid (Below wa.heap.size wa wr)) (fun vn _ => L - (intOf vn).toNat)
      case atStart => exact ⟨0, Nat.zero_le _, rfl, Lib.hid (fun m hm => absurd hm (by omega)), Lib.hid (Below.refl _ _)⟩
      case round =>
        obtain ⟨n, hnL, rfl, HM, HBI⟩ := hrel
        by_cases hlt2 : n < L
        · have e1 : decide (n < L) = true := decide_eq_true hlt2
          obtain ⟨t0, t1, t2, t3⟩ := tape4 (below_tape HBI.out HTA.out)
          have hcall := good_any lab cap bs A' L C' G lost (n : Int) wr HLL.out (HRB.out.old HBI.out) HLI.out.2
          have hgz : Vo.goodZ ⟨lab, bs, lost⟩ (n : Int) = Vo.good ⟨lab, bs, lost⟩ n := by
            unfold Vo.goodZ
            rw [if_neg (by omega)]; rfl
          rw [hgz] at hcall
          obtain ⟨o, ho⟩ : ∃ o, o = Vo.good ⟨lab, bs, lost⟩ n := ⟨_, rfl⟩
          rw [← ho] at hcall
          have HC := Lib.hid hcall
          have HO := Lib.hid ho
          clear hcall hgz ho
          go_wp2_with fail
          refine HC.out.mono ?_
          rintro e w1 ⟨A1, m1, C1, rfl, -, -, -, -, hb1⟩
          obtain ⟨⟨k1, l1, n1, d1⟩, hu⟩ : ∃ u, u = unitOf o := ⟨_, rfl⟩
          rw [← hu]
          dsimp only
          obtain ⟨wc, hwc⟩ : ∃ wc, wc = w1.alloc (unitObj k1 l1 n1 A1 m1 C1) := ⟨_, rfl⟩
          have HBC := Lib.hid (HBI.out.trans (((by rw [hwc]; exact hb1.alloc hb1.size _) : Below wr.heap.size wr wc).mono HBI.out.size))
          have HWC := Lib.hid hwc
          unfold unitObj at HWC
          clear hwc hu hb1 t0 t1 t2 t3
          cases o with
          | none =>
            have HF : Hid (ts.all goodB = false) := Lib.hid (HA.out (by
              rw [HG.out]
              exact decide_eq_false fun h => by have := h n hlt2; rw [← HO.out] at this; cases this))
            go_wp2
            rw [← HWC.out]
            go_ret
            exact ⟨by rw [HF.out]; rfl, HBA.out.trans (HBC.out.mono HBA.out.size)⟩
          | some u =>
            have HM2 : Hid (∀ m, m < n + 1 → (Vo.good ⟨lab, bs, lost⟩ m).isSome = true) := Lib.hid fun m hm => by
              by_cases e : m = n
              · rw [e, ← HO.out]; rfl
              · exact HM.out m (by omega)
            go_wp2
            rw [← HWC.out]
            go_roundw
            case rel => exact ⟨n + 1, by omega, by go_num, HM2, HBC⟩
            case measure => simp [intOf]; omega
        · have e1 : decide (n < L) = false := decide_eq_false hlt2
          have HN2 : Hid ((ts.take (i + 1)).all goodB = true) := Lib.hid (by
            rw [HT.out, HN.out, HG.out]
            exact decide_eq_true fun m hm => HM.out m (by omega))
          have HB2 := Lib.hid (HBA.out.trans (HBI.out.mono HBA.out.size))
          go_wp2
          go_roundw
          case rel => exact ⟨i + 1, by omega, by go_num, HN2, HB2⟩
          case measure => simp [intOf]; omega
    · have e0 : decide (i < ts.length) = false := decide_eq_false hlt
      have HF : Hid (ts.all goodB = true) := Lib.hid (by have h := HN.out; rwa [List.take_of_length_le (by omega)] at h)
      go_wp2
      go_ret
      exact ⟨by rw [HF.out]; rfl, HB.out⟩
end Go.Proofs.YtfkoomldncfdnaaGreat
