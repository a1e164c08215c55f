/- What slices.Grow and slices.Concat of package slices make of steps, and what cutOff of package write answers. -/
import Derived.Test.YtndofmoepjfnfaaDoorWkMath
import Derived.Test.YtndofmoepjfnfaaDoorMav
import Derived.Test.YtndofmoepjfnfaaDoorRefCut
import Derived.Lib.AppendZerosOnto
import Derived.Deep.RegionHeld3
import Derived.Deep.DeepFit
import Derived.Deep.DeepCutAuto
import Derived.BigQuiet
import Derived.Deep.QuietTactic
namespace Go.Proofs.YtndofmoepjfnfaaDoor
open Go.RowKit
open Pt (Tx)

/-- steps in a row of the call's own, each block where G says -/
structure StQ (B : Nat) (G : Nat → Prop) (v : Value) (l : List (Int × Tx)) (x : World) : Prop where
  ex : ∃ svs, encS.Own x B 28 v svs ∧ svs.length = l.length ∧ ∀ i (hi : i < svs.length) (hi' : i < l.length), svs[i].tape = l[i].1 ∧ svs[i].n = l[i].2.length ∧ svs[i].n ≤ svs[i].C ∧ (svs[i].A = none → svs[i].n = 0 ∧ svs[i].C = 0) ∧ RdL x svs[i].A l[i].2 G
namespace StQ
variable {x y : World} {B : Nat} {G : Nat → Prop} {v : Value} {l : List (Int × Tx)}
theorem old (h : StQ B G v l x) (hb : Below x.heap.size x y) : StQ B G v l y := by
  obtain ⟨svs, h1, h2, h3⟩ := h.ex
  refine ⟨svs, h1.old hb, h2, fun i hi hi' => ?_⟩
  obtain ⟨a, b, c, d, e⟩ := h3 i hi hi'
  exact ⟨a, b, c, d, e.old hb⟩
theorem rd (h : StQ B G v l x) : ∃ A C, v = .slice A l.length C ∧ l.length ≤ C ∧ C ≤ maxLen ∧ (A = none → l.length = 0 ∧ C = 0) ∧ StpR x A l (fun b => B ≤ b ∨ G b) := by
  obtain ⟨svs, h1, h2, h3⟩ := h.ex
  obtain ⟨A, C, hv, a, b, c, hr⟩ := h1.rd
  rw [h2] at hv a c
  refine ⟨A, C, hv, a, b, c, fun hn => ?_⟩
  obtain ⟨g, off, e, hg, hc⟩ := hr (by omega)
  refine ⟨g, off, e, .inl hg.1, fun i hi => ?_⟩
  have hi' : i < svs.length := by omega
  obtain ⟨k1, k2, k3, k4, k5⟩ := h3 i hi' hi
  refine ⟨svs[i].A, svs[i].C, ?_, ?_, by rw [← k2]; exact k3, by rw [← k2]; exact k4, k5.mono fun _ h => .inr h⟩
  · rw [← k1]; exact hc i hi' 0 _ rfl
  · rw [← k2]; exact hc i hi' 1 _ rfl
/-- steps that read, as their cells -/
theorem cells_of {x : World} {A : Option Addr} {l : List (Int × Tx)} {G : Nat → Prop} (h : StpR x A l G) : ∃ svs, encS.Rd x A svs G ∧ svs.length = l.length ∧ ∀ i (hi : i < svs.length) (hi' : i < l.length), svs[i].tape = l[i].1 ∧ svs[i].n = l[i].2.length ∧ svs[i].n ≤ svs[i].C ∧ (svs[i].A = none → svs[i].n = 0 ∧ svs[i].C = 0) ∧ RdL x svs[i].A l[i].2 G := by
  by_cases hn : 0 < l.length
  · obtain ⟨b, off, e, hg, hc⟩ := h hn
    have hex : ∀ i : Nat, ∃ s : Sv, ∀ (hi : i < l.length), s.tape = l[i].1 ∧ s.n = l[i].2.length ∧ s.n ≤ s.C ∧ (s.A = none → s.n = 0 ∧ s.C = 0) ∧ RdL x s.A l[i].2 G ∧ x.cell? ⟨b, off + i * 2, none⟩ = some (.int .i64 s.tape) ∧ x.cell? ⟨b, off + i * 2 + 1, none⟩ = some (.slice s.A s.n s.C) := fun i => by
      by_cases hi : i < l.length
      · obtain ⟨A', C', h0, h1, h2, h3, h4⟩ := hc i hi
        exact ⟨⟨l[i].1, A', l[i].2.length, C'⟩, fun _ => ⟨rfl, rfl, h2, h3, h4, h0, h1⟩⟩
      · exact ⟨⟨0, none, 0, 0⟩, fun h => absurd h hi⟩
    obtain ⟨f, hf⟩ := Classical.axiomOfChoice hex
    refine ⟨(List.range l.length).map f, fun _ => ⟨b, off, e, hg, fun i hi j u hu => ?_⟩, by simp, fun i hi hi' => ?_⟩
    · have hi' : i < l.length := by simpa using hi
      have ef : ((List.range l.length).map f)[i] = f i := by simp
      rw [ef] at hu
      obtain ⟨-, -, -, -, -, k0, k1⟩ := hf i hi'
      have hj : j < 2 := (List.getElem?_eq_some_iff.1 hu).1
      rcases (by omega : j = 0 ∨ j = 1) with rfl | rfl
      · cases hu; exact k0
      · cases hu; exact k1
    · have ef : ((List.range l.length).map f)[i] = f i := by simp
      rw [ef]
      obtain ⟨k1, k2, k3, k4, k5, -, -⟩ := hf i hi'
      exact ⟨k1, k2, k3, k4, k5⟩
  · have h0 : l = [] := List.length_eq_zero_iff.1 (by omega)
    subst h0
    exact ⟨[], Enc.Rd.nil _ _ _, rfl, fun i hi => absurd hi (by simp)⟩
/-- more steps -/
theorem more {svs svs' : List Sv} {l' : List (Int × Tx)} {v' : Value} {z : World} (hone : ∀ i (hi : i < svs.length) (hi' : i < l.length), svs[i].tape = l[i].1 ∧ svs[i].n = l[i].2.length ∧ svs[i].n ≤ svs[i].C ∧ (svs[i].A = none → svs[i].n = 0 ∧ svs[i].C = 0) ∧ RdL x svs[i].A l[i].2 G) (hlen : svs.length = l.length)
    (hone' : ∀ i (hi : i < svs'.length) (hi' : i < l'.length), svs'[i].tape = l'[i].1 ∧ svs'[i].n = l'[i].2.length ∧ svs'[i].n ≤ svs'[i].C ∧ (svs'[i].A = none → svs'[i].n = 0 ∧ svs'[i].C = 0) ∧ RdL x svs'[i].A l'[i].2 G) (hlen' : svs'.length = l'.length)
    (hown : encS.Own z B 28 v' (svs ++ svs')) (hk : ∀ {A : Option Addr} {s : Tx}, RdL x A s G → RdL z A s G) : StQ B G v' (l ++ l') z := by
  refine ⟨svs ++ svs', hown, by rw [List.length_append, List.length_append, hlen, hlen'], fun i hi hi' => ?_⟩
  by_cases h0 : i < l.length
  · rw [List.getElem_append_left (by omega), List.getElem_append_left h0]
    obtain ⟨a, b, c, d, e⟩ := hone i (by omega) h0
    exact ⟨a, b, c, d, hk e⟩
  · rw [List.length_append] at hi hi'
    rw [List.getElem_append_right (by omega), List.getElem_append_right (by omega)]
    obtain ⟨a, b, c, d, e⟩ := hone' (i - svs.length) (by omega) (by omega)
    have ei : l'[i - l.length]'(by omega) = l'[i - svs.length]'(by omega) := by simp only [hlen]
    rw [ei]
    exact ⟨a, b, c, d, hk e⟩
end StQ
/-- what Grow makes of no steps -/
def GrowA (w : World) (e : Ending) (w' : World) : Prop := ∃ v, e = .returned v ∧ encS.Own w' w.heap.size 28 v [] ∧ Below w.heap.size w w'
set_option maxRecDepth 100000 in
set_option maxHeartbeats 2000000 in
theorem grow_any (n : Nat) (hn : n ≤ 1000000) (w : World) : Calls Tryd.prog 45 #[.slice none 0 0, .int .i64 (n : Int)] w (GrowA w) := by
  by_cases h0 : n = 0
  · subst h0
    go_enter Tryd.func45, Tryd.ntmps45
    go_wp2
    go_ret
    exact ⟨_, rfl, Enc.Own.nil _ _ _, Below.refl _ _⟩
  · have d0 : decide ((0 : Int) < (n : Int)) = true := decide_eq_true (by omega)
    have d0' : decide (0 < n) = true := decide_eq_true (by omega)
    obtain ⟨i0, hi0, hz0, hz1, hz2⟩ := info_parts infoStep
    have hrun := fun ty => Lib.run_append_grow_zeros (P := Tryd.prog) w 23 3 ty 28 i0 (.agg #[.int .i64 0, .slice none 0 0]) .i64 .i64 Tryd.underlying23 Tryd.underlying3 hi0 hz0 none 0 0 [] (by simp [Builtin.firstCells, go_sem]) n (by omega) (by rw [hz1]; decide) (by omega) (by omega) (by rw [hz2]; omega) (growslice_fits (by omega) (by rw [hz2]; omega))
    have hge := grownCap_ge w (0 + n) 0 28
    have hcm := grownCap_le_maxLen w (0 + n) 0 28 (by unfold maxLen; omega)
    obtain ⟨C, hC⟩ : ∃ C, C = grownCap w (0 + n) 0 28 := ⟨_, rfl⟩
    rw [← hC] at hrun hge hcm
    obtain ⟨cur, hcur⟩ : ∃ cur, cur = (#[] ++ Builtin.zeroCells (Value.agg #[.int .i64 0, .slice none 0 0]).cells n ++ Builtin.zeroCells (Value.agg #[.int .i64 0, .slice none 0 0]).cells (C - (0 + n)) : Array Value) := ⟨_, rfl⟩
    rw [Nat.zero_add] at hrun
    have hrun' : ∀ ty, (Builtin.append_ #[23, 3] ty #[.slice none 0 0, .int .i64 (n : Int)]).run Tryd.prog w = .ok (.slice (some ⟨w.heap.size, 0, none⟩) n C) (w.drew.alloc (.cells cur 28)) := fun ty => by
      have := hrun ty
      rw [hcur, Nat.zero_add]
      exact this
    have hsz : cur.size = C * 2 := by
      rw [hcur]
      simp [Builtin.zeroCells, Value.cells]
      omega
    have HRUN := Lib.hid hrun'
    have HSZ := Lib.hid hsz
    have HCM := Lib.hid hcm
    have hCn : n ≤ C := by omega
    clear hrun hrun' hsz hcur hC hcm hge hi0 hz0 hz1 hz2
    go_enter Tryd.func45, Tryd.ntmps45
    go_wp2_with (at_builtin; refine Lib.wpList_append_run _ rfl _ _ _ _ rfl _ _ rfl rfl _ _ (HRUN.out _) ?_)
    go_ret
    exact ⟨_, rfl, World.ownsRow_made (base := w.heap.size) w.drew cur C (Nat.le_refl _) HCM.out HSZ.out, ((Below.refl w.heap.size w).drew).alloc (Nat.le_refl _) _⟩
/-- rows of steps that read -/
def RdS (w : World) (A : Option Addr) (R : List (List (Int × Tx))) (G : Nat → Prop) : Prop := ∀ i (hi : i < R.length), ∃ b off A' C', A = some ⟨b, off, none⟩ ∧ w.cell? ⟨b, off + i, none⟩ = some (.slice A' R[i].length C') ∧ (A' = none → R[i].length = 0 ∧ C' = 0) ∧ StpR w A' R[i] G
theorem flat_take {R : List (List (Int × Tx))} {k : Nat} (h : k < R.length) : (R.take (k + 1)).flatten = (R.take k).flatten ++ R[k] := by
  rw [List.take_succ_eq_append_getElem h, List.flatten_append]; simp
theorem flat_le (R : List (List (Int × Tx))) (k : Nat) : (R.take k).flatten.length ≤ R.flatten.length := by
  have h : R.flatten = (R.take k).flatten ++ (R.drop k).flatten := by rw [← List.flatten_append, List.take_append_drop]
  rw [h, List.length_append]; omega
/-- steps are answered, in a row of the call's own -/
def ConA (l : List (Int × Tx)) (G : Nat → Prop) (w : World) (e : Ending) (w' : World) : Prop := ∃ v, e = .returned v ∧ StQ w.heap.size G v l w' ∧ Below w.heap.size w w'
set_option maxRecDepth 100000 in
set_option maxHeartbeats 4000000 in
theorem concat_steps (A : Option Addr) (R : List (List (Int × Tx))) (m C : Nat) (G : Nat → Prop) (w : World) (hm : m = R.length) (hl : R.flatten.length ≤ 1000000) (hmm : m ≤ 1000000) (hr : RdS w A R (fun b => G b ∧ b < w.heap.size)) :
    Calls Tryd.prog 32 #[.slice A m C] w (ConA R.flatten (fun b => G b ∧ b < w.heap.size) w) := by
  have HR := Lib.hid hr
  have HM := Lib.hid hm
  have HL := Lib.hid hl
  clear hr hm hl
  go_enter Tryd.func32, Tryd.ntmps32
  go_wp2
  go_loop [11, 3] (fun vi vs => ∃ (k t : Nat), k ≤ m ∧ vi = .int .i64 (k : Int) ∧ vs = .int .i64 (t : Int) ∧ t ≤ 1000000 ∧ Hid (t = (R.take k).flatten.length)) (fun vi _ => m - (intOf vi).toNat)
  case atStart => exact ⟨0, 0, Nat.zero_le _, rfl, rfl, Nat.zero_le _, Lib.hid (by simp)⟩
  case round =>
    obtain ⟨k, t, hk, rfl, rfl, ht, HT⟩ := hrel
    by_cases hlt : k < m
    · have e1 : decide (k < m) = true := decide_eq_true hlt
      have hlr : k < R.length := by rw [← HM.out]; exact hlt
      obtain ⟨b, off, A', C', rfl, c0, c1, -⟩ := HR.out k hlr
      obtain ⟨N, hN⟩ : ∃ N, N = R[k].length := ⟨_, rfl⟩
      rw [← hN] at c0
      have hsum : t + N ≤ 1000000 := by
        have h1 := flat_le R (k + 1)
        rw [flat_take hlr, List.length_append, ← HT.out, ← hN] at h1
        have := HL.out
        omega
      have HT2 : Hid (t + N = (R.take (k + 1)).flatten.length) := Lib.hid (by rw [flat_take hlr, List.length_append, ← HT.out, ← hN])
      have hneg : decide ((t : Int) + (N : Int) < 0) = false := decide_eq_false (by omega)
      have hw : IntKind.i64.wrap ((t : Int) + (N : Int)) = (t : Int) + (N : Int) := IntWalk.i64_in _ (by omega)
      clear hN c1
      go_wp2
      go_round
      case rel => exact ⟨k + 1, t + N, by omega, by go_num, by go_num, hsum, HT2⟩
      case measure => simp [intOf]; omega
    · have e1 : decide (k < m) = false := decide_eq_false hlt
      have hg := grow_any t ht
      go_wp2_with (go_at_call 45; refine (hg _).mono ?_; rintro e w1 ⟨v, rfl, ho, hb⟩; have HO := Lib.hid ho; have HB1 := Lib.hid hb; clear ho hb)
      clear hg hk hlt
      go_loopw [27, 6] (fun vi vl wr => ∃ (k : Nat), k ≤ m ∧ vi = .int .i64 (k : Int) ∧ Hid (StQ w.heap.size (fun b => G b ∧ b < w.heap.size) vl (R.take k).flatten wr) ∧ Hid (Below w.heap.size w wr)) (fun vi _ _ => m - (intOf vi).toNat)
      case atStart => exact ⟨0, Nat.zero_le _, rfl, Lib.hid ⟨[], HO.out, by simp, fun i hi => absurd hi (by simp)⟩, HB1⟩
      case round =>
        obtain ⟨k, hk, rfl, HQ, HB⟩ := hrel
        by_cases hlt : k < m
        · have e1 : decide (k < m) = true := decide_eq_true hlt
          have hlr : k < R.length := by rw [← HM.out]; exact hlt
          obtain ⟨b, off, A', C', rfl, c0, c1, c2⟩ := HR.out k hlr
          have c0' := (HB.out.cell (World.block_lt_of_cell? _ _ c0)).trans c0
          have c2' : StpR wr A' R[k] (fun b => G b ∧ b < w.heap.size) := c2.keep fun p v hg hc => (HB.out.cell hg.2).trans hc
          obtain ⟨svs', k1, k2, k3⟩ := StQ.cells_of c2'
          obtain ⟨svs, j1, j2, j3⟩ := HQ.out.ex
          obtain ⟨N, hN⟩ : ∃ N, N = R[k].length := ⟨_, rfl⟩
          rw [← hN] at c0' c1
          have hlen : svs.length + N ≤ 1000000 := by
            have h1 := flat_le R (k + 1)
            rw [flat_take hlr, List.length_append, ← j2, ← hN] at h1
            have := HL.out
            omega
          have HFT := Lib.hid (flat_take hlr)
          have HC1 := Lib.hid c1
          have HK1 := Lib.hid k1
          have HK2 := Lib.hid k2
          have HK3 := Lib.hid k3
          have HJ1 := Lib.hid j1
          have HJ2 := Lib.hid j2
          have HJ3 := Lib.hid j3
          have HNN : Hid (N = svs'.length) := Lib.hid (hN.trans k2.symm)
          have hsz : w.heap.size ≤ wr.heap.size := HB.out.size
          clear k1 k2 k3 j1 j2 j3 hN c0 c1 c2 c2'
          go_wp2_with (at_builtin; refine wpList_append_stO encS _ rfl _ _ _ rfl w.heap.size 28 _ 32 Tryd.underlying23 infoStep rfl _ svs rfl HJ1.out A' N C' svs' _ rfl HNN.out HC1.out HK1.out (by unfold maxLen; omega) (by omega) hsz ?_; intro v' w3 ho hg; have HO3 := Lib.hid ho; have HB3 := Lib.hid ((Below.refl wr.heap.size wr).mono hsz |>.grown hg hsz (fun x hx => (HJ1.out.lt x hx).1)); clear ho hg)
          have hq := StQ.more HJ3.out HJ2.out HK3.out HK2.out HO3.out (fun hr => hr.keep fun p v hg hc => (HB3.out.cell hg.2).trans hc)
          rw [← HFT.out] at hq
          have HQ3 := Lib.hid hq
          have HBB := Lib.hid (HB.out.trans HB3.out)
          clear hq
          go_roundw
          case rel => exact ⟨k + 1, by omega, by go_num, HQ3, HBB⟩
          case measure => simp [intOf]; omega
        · have e1 : decide (k < m) = false := decide_eq_false hlt
          have hall : R.take k = R := List.take_of_length_le (by rw [← HM.out]; omega)
          rw [hall] at HQ
          go_wp2
          go_ret
          exact ⟨_, rfl, HQ.out, HB.out⟩
/-- steps are answered that read -/
def StpA (l : List (Int × Tx)) (w : World) (e : Ending) (w' : World) : Prop := ∃ A C, e = .returned (.slice A l.length C) ∧ StpR w' A l (fun _ => True) ∧ Below w.heap.size w w'
set_option maxRecDepth 100000 in
set_option maxHeartbeats 4000000 in
theorem cutOff_any (A : Option Addr) (l : List (Int × Tx)) (m C : Nat) (G : Nat → Prop) (k : Nat) (bytes : Int) (w : World) (hm : m = l.length) (hmm : m ≤ 1000000) (hmC : m ≤ C) (hk : k < m) (hr : StpR w A l G) (hl : ∀ x ∈ l, x.2.length ≤ 1000000) :
    Calls Tryd.prog 15 #[.slice A m C, .int .i64 (k : Int), .int .i64 bytes] w (StpA (Wk.cutOff l k bytes) w) := by
  have hkl : k < l.length := by omega
  obtain ⟨b, off, A', C', rfl, -, c0, c1, c2, c3, c4⟩ := hr.at_ hkl
  have hls := hl l[k] (List.getElem_mem hkl)
  have hcut : Wk.cutOff l k bytes = l.take k ++ [(l[k].1, l[k].2.take (min (max bytes 0) (l[k].2.length : Int)).toNat)] := by unfold Wk.cutOff; rw [List.getElem?_eq_getElem hkl]
  obtain ⟨tp, s, hx⟩ : ∃ tp s, l[k] = (tp, s) := ⟨_, _, rfl⟩
  rw [hx] at c0 c1 c2 c3 c4 hls hcut
  dsimp only at c0 c1 c2 c3 c4 hls hcut
  obtain ⟨N, hN⟩ : ∃ N, N = s.length := ⟨_, rfl⟩
  rw [← hN] at c1 c2 c3 hls hcut
  obtain ⟨K, hK⟩ : ∃ K, K = (min (max bytes 0) (N : Int)).toNat := ⟨_, rfl⟩
  rw [← hK] at hcut
  have hKN : K ≤ N := by omega
  have hKi : (if (N : Int) < (if bytes < 0 then 0 else bytes) then (N : Int) else (if bytes < 0 then 0 else bytes)) = (K : Int) := by split <;> split at * <;> omega
  have hKi2 : min (max bytes 0) (N : Int) = (K : Int) := by omega
  obtain ⟨w1, hw1⟩ : ∃ x, x = w.alloc (.cells #[.int .i64 tp, .slice A' N C'] 28) := ⟨_, rfl⟩
  have hb1 : Below w.heap.size w w1 := by rw [hw1]; exact (Below.refl _ _).alloc (Nat.le_refl _) _
  have hk1 : w1.heap[w.heap.size]? = some (.cells #[.int .i64 tp, .slice A' N C'] 28 (0, 0)) := by rw [hw1]; exact Go.Deep.blk_alloc_new _ _
  obtain ⟨w2, hw2⟩ : ∃ x, x = w1.setCell ⟨w.heap.size, 1, none⟩ (.slice A' K C') := ⟨_, rfl⟩
  have hkp : Kp (· = w.heap.size) w1 w2 := by rw [hw2]; exact Kp.store _ _ _ _
  have hb2 : Below w.heap.size w w2 := hb1.trans (hkp.below hb1.size fun q hq => by omega)
  have hk2 : w2.heap[w.heap.size]? = some (.cells #[.int .i64 tp, .slice A' K C'] 28 (0, 0)) := by rw [hw2, heap_set hk1]; rfl
  have HW1 := Lib.hid hw1
  have HW2 := Lib.hid hw2
  have HB2 := Lib.hid hb2
  have HK2 := Lib.hid hk2
  have HCUT := Lib.hid hcut
  have HR := Lib.hid (hr.in_)
  have HC4 := Lib.hid c4.in_
  have HM := Lib.hid hm
  have x0 := heap_cell (j := 0) hk1
  have x1 := heap_cell (j := 1) hk1
  have f1 : w1.frozen? ⟨w.heap.size, 1, none⟩ = false := heap_frozen hk1
  have hKi0 : (0 : Int) ≤ (K : Int) := by omega
  have HNS := Lib.hid hN
  clear hw1 hb1 hk1 hw2 hkp hb2 hk2 hcut hr hl hx c4 hm hK hN
  go_enter Tryd.func15, Tryd.ntmps15
  go_upto_region 2 with fail
  rw [← HW1.out]
  clear c0 c1
  go_upto_region 3 with fail
  try rw [hKi, Int.toNat_natCast]
  try rw [hKi2, Int.toNat_natCast]
  rw [← HW2.out]
  clear x0 x1 f1 hKi hKi2
  generalize (if bytes < 0 then (0 : Int) else bytes) = mb
  generalize max bytes 0 = mc
  have y0 := heap_cell (j := 0) HK2.out
  have y1 := heap_cell (j := 1) HK2.out
  obtain ⟨wa, hwa⟩ : ∃ x, x = w2.alloc (.cells #[.int .i64 tp, .slice A' K C'] 28) := ⟨_, rfl⟩
  obtain ⟨wb, hwb⟩ : ∃ x, x = (wa.alloc (.cells #[.slice (some ⟨b, off, none⟩) k C, .slice (some ⟨w2.heap.size, 0, none⟩) 1 1] 23)).drew := ⟨_, rfl⟩
  have hba : Below w2.heap.size w2 wa := by rw [hwa]; exact (Below.refl _ _).alloc (Nat.le_refl _) _
  have hbb : Below wa.heap.size wa wb := by rw [hwb]; exact ((Below.refl _ _).alloc (Nat.le_refl _) _).drew
  have hb2b : Below w2.heap.size w2 wb := hba.trans (hbb.mono hba.size)
  have sa : wa.heap.size = w2.heap.size + 1 := by rw [hwa]; simp
  have ka : wb.heap[w2.heap.size]? = some (.cells #[.int .i64 tp, .slice A' K C'] 28 (0, 0)) := by
    have h : wa.heap[w2.heap.size]? = some (.cells #[.int .i64 tp, .slice A' K C'] 28 (0, 0)) := by rw [hwa]; exact Go.Deep.blk_alloc_new w2 _
    exact (hbb.block _ (heap_lt h)).trans h
  have kb : wb.heap[w2.heap.size + 1]? = some (.cells #[.slice (some ⟨b, off, none⟩) k C, .slice (some ⟨w2.heap.size, 0, none⟩) 1 1] 23 (0, 0)) := by
    have h := Go.Deep.blk_alloc_new wa (.cells #[.slice (some ⟨b, off, none⟩) k C, .slice (some ⟨w2.heap.size, 0, none⟩) 1 1] 23)
    rw [sa] at h
    rw [hwb]
    exact h
  have hB := HB2.out.trans (hb2b.mono HB2.out.size)
  have hr1 : StpR wb (some ⟨b, off, none⟩) (l.take k) (fun _ => True) := fun hn => by
    have hl0 : 0 < l.length := by rw [List.length_take] at hn; omega
    obtain ⟨b', off', e, -, hc⟩ := (HR.out.old hB) hl0
    refine ⟨b', off', e, trivial, fun i hi => ?_⟩
    rw [List.length_take] at hi
    obtain ⟨A2, C2, h0, h1, h2, h3, h4⟩ := hc i (by omega)
    have e2 : (l.take k)[i]'(by rw [List.length_take]; omega) = l[i]'(by omega) := List.getElem_take
    rw [e2]
    exact ⟨A2, C2, h0, h1, h2, h3, h4.mono fun _ _ => trivial⟩
  have hr2 : StpR wb (some ⟨w2.heap.size, 0, none⟩) [(tp, s.take K)] (fun _ => True) := fun _ => by
    refine ⟨_, 0, rfl, trivial, fun i hi => ?_⟩
    have h0 : i = 0 := by simp at hi; omega
    subst h0
    have hlK : (s.take K).length = K := by rw [List.length_take, ← HNS.out]; omega
    refine ⟨A', C', heap_cell ka, ?_, by rw [show ([(tp, s.take K)][0]).2 = s.take K from rfl, hlK]; omega, fun hA => ?_, ((HC4.out.old hB).take K).mono fun _ _ => trivial⟩
    · rw [show ([(tp, s.take K)][0]).2 = s.take K from rfl, hlK]; exact heap_cell ka
    · rw [show ([(tp, s.take K)][0]).2 = s.take K from rfl, hlK]
      have := c3 hA
      omega
  have hrds : RdS wb (some ⟨w2.heap.size + 1, 0, none⟩) [l.take k, [(tp, s.take K)]] (fun b => True ∧ b < wb.heap.size) := fun i hi => by
    have hi2 : i = 0 ∨ i = 1 := by simp at hi; omega
    have hlk : (l.take k).length = k := by rw [List.length_take]; omega
    rcases hi2 with rfl | rfl
    · exact ⟨_, 0, some ⟨b, off, none⟩, C, rfl, by show wb.cell? _ = some (.slice _ (l.take k).length C); rw [hlk]; exact heap_cell kb, (fun h => by cases h), hr1.in_⟩
    · exact ⟨_, 0, some ⟨w2.heap.size, 0, none⟩, 1, rfl, heap_cell kb, (fun h => by cases h), hr2.in_⟩
  have hfl : [l.take k, [(tp, s.take K)]].flatten = Wk.cutOff l k bytes := by rw [HCUT.out]; simp
  have hcall := concat_steps (some ⟨w2.heap.size + 1, 0, none⟩) [l.take k, [(tp, s.take K)]] 2 2 (fun _ => True) wb rfl (by
    rw [hfl, HCUT.out, List.length_append, List.length_take]; simp; omega) (by omega) hrds
  rw [hfl] at hcall
  have HC := Lib.hid hcall
  have HBB := Lib.hid hB
  have HWA := Lib.hid hwa
  have HWB := Lib.hid hwb
  have y0d : w2.drew.cell? ⟨w.heap.size, 0, none⟩ = some (.int .i64 tp) ∧ w2.drew.cell? ⟨w.heap.size, 1, none⟩ = some (.slice A' K C') := ⟨y0, y1⟩
  have HY : Hid (∀ y, Below w2.heap.size w2 y → y.cell? ⟨w.heap.size, 0, none⟩ = some (.int .i64 tp) ∧ y.cell? ⟨w.heap.size, 1, none⟩ = some (.slice A' K C')) := Lib.hid fun y hy => ⟨(hy.cell (World.block_lt_of_cell? _ _ y0)).trans y0, (hy.cell (World.block_lt_of_cell? _ _ y1)).trans y1⟩
  have HYB : Hid (∀ y, Below wb.heap.size wb y → y.cell? ⟨w.heap.size, 0, none⟩ = some (.int .i64 tp) ∧ y.cell? ⟨w.heap.size, 1, none⟩ = some (.slice A' K C')) := Lib.hid fun y hy => HY.out y (hb2b.trans (hy.mono hb2b.size))
  have hcall2 : Calls Tryd.prog 32 #[.slice (some ⟨w2.heap.size + 1, 0, none⟩) 2 2] ((w2.alloc (.cells #[.int .i64 tp, .slice A' K C'] 28)).alloc (.cells #[.slice (some ⟨b, off, none⟩) k C, .slice (some ⟨w2.heap.size, 0, none⟩) 1 1] 23)).drew (fun e w6 => ∃ A6 C6, e = .returned (.slice A6 (Wk.cutOff l k bytes).length C6) ∧ Hid (StpR w6 A6 (Wk.cutOff l k bytes) (fun _ => True)) ∧ Hid (Below w.heap.size w w6) ∧ (w6.cell? ⟨w.heap.size, 0, none⟩ = some (.int .i64 tp) ∧ w6.cell? ⟨w.heap.size, 1, none⟩ = some (.slice A' K C'))) := by
    rw [← hwa, ← hwb]
    refine hcall.mono ?_
    rintro e w6 ⟨v6, rfl, hq, hb6⟩
    obtain ⟨A6, C6, rfl, -, -, -, hs6⟩ := hq.rd
    exact ⟨A6, C6, rfl, Lib.hid (hs6.mono fun _ _ => trivial), Lib.hid (hB.trans (hb6.mono hB.size)), HYB.out w6 hb6⟩
  have HC2 := Lib.hid hcall2
  have hya := HY.out _ hba.drew
  have hyb := HY.out _ hb2b
  rw [hwa] at hya
  rw [hwb, hwa] at hyb
  clear hcall2 hcall hfl hrds hr1 hr2 hB ka kb sa hbb hb2b hwa hwb hba c2 c3
  have hkC : k ≤ C := by omega
  have hkC' : (k : Int) ≤ (C : Int) := by omega
  have hk0 : (0 : Int) ≤ (k : Int) := by omega
  go_region_held3 (fun y => y.cell? ⟨w.heap.size, 0, none⟩ = some (.int .i64 tp) ∧ y.cell? ⟨w.heap.size, 1, none⟩ = some (.slice A' K C'))
    (first
      | exact y0d
      | exact hya
      | exact hyb
      | exact hyc)
    (first
      | (go_at_call 32; refine HC2.out.mono ?_; rintro e w6 ⟨A6, C6, rfl, HS6, HB6, hyc⟩))
  go_wp2
  go_ret
  exact ⟨A6, C6, rfl, HS6.out, HB6.out⟩
end Go.Proofs.YtndofmoepjfnfaaDoor
