/- slices.Chunk over bytes, as a loop over it sees it: which pieces come, in which order. -/
import Derived.RangeFuncNested
import Derived.RangeFuncBound
import Derived.RangeFuncCalls
import Derived.RangeFuncLeaves
import Derived.RangeFuncBox
import Derived.Shelf.Abstract
import Derived.WalkKit
import Derived.OwnWalkIn
import Derived.TacticsInMore
import Derived.LoopNIn
import Derived.LoopIn
import Derived.Maps.AppendAt
import Derived.Sort.QuietIn
import Derived.Test.YtbcncmampabmfaaDoorChecked
import Derived.Test.YtbcncmampabmfaaDoorMb
namespace Go.Proofs.YtbcncmampabmfaaDoor
open Go.RowKit Go.Shelf

attribute [local go_sem] Oper.semAt_some

/-- a piece, as a slice -/
structure Pc where
  A : Option Addr
  n : Nat
  C : Nat
/-- the piece k of L bytes -/
def pcAt (b off L k : Nat) : Pc := ⟨some ⟨b, off + 64 * k, none⟩, min 64 (L - 64 * k), min 64 (L - 64 * k)⟩
/-- what has come when k rounds are over -/
def pcs (b off L k : Nat) : List Pc := (List.range k).map (pcAt b off L)
theorem pcs_succ (b off L k : Nat) : pcs b off L (k + 1) = pcs b off L k ++ [pcAt b off L k] := by simp [pcs, List.range_succ]
theorem pcs_len (b off L k : Nat) : (pcs b off L k).length = k := by simp [pcs]
/-- the two boxes that the closure reads are as they were -/
def Two (Bs Bn : Nat) (W W' : World) : Prop := W'.cell? ⟨Bs, 0, none⟩ = W.cell? ⟨Bs, 0, none⟩ ∧ W'.cell? ⟨Bn, 0, none⟩ = W.cell? ⟨Bn, 0, none⟩
theorem Two.trans {Bs Bn : Nat} {A B C : World} (h : Two Bs Bn A B) (k : Two Bs Bn B C) : Two Bs Bn A C := ⟨k.1.trans h.1, k.2.trans h.2⟩
theorem Two.refl (Bs Bn : Nat) (A : World) : Two Bs Bn A A := ⟨rfl, rfl⟩
set_option maxRecDepth 100000 in
set_option maxHeartbeats 2000000 in
theorem chunk1_in (n : Nat) (hn : 1 ≤ n) (l Bs Bn b off L C : Nat) (hL : L ≤ 1000000) (hC : L ≤ C) (J Jx : List Pc → World → Prop) (hJa : ∀ pre X Y, J pre X → X.grownBy Y none → J pre Y)
    (hY : ∀ pre x W, J pre W → pre.length < Vo.data L → YieldAt Fence.wide (n - 1) Tryd.prog l #[.slice x.A x.n x.C] W fun e W' =>
      (e = .returned (.bool true) ∧ J (pre ++ [x]) W' ∧ Two Bs Bn W W') ∨ (e = .returned (.bool false) ∧ Jx (pre ++ [x]) W'))
    (W : World) (hs : W.cell? ⟨Bs, 0, none⟩ = some (.slice (some ⟨b, off, none⟩) L C)) (hb : W.cell? ⟨Bn, 0, none⟩ = some (.int .i64 64)) (h0 : J [] W) :
    CallsIn Fence.wide n Tryd.prog 57 #[.func (.yield l) #[] #[], .pointer (some ⟨Bs, 0, none⟩), .pointer (some ⟨Bn, 0, none⟩)] W fun e W' => (∃ v, e = .returned v) ∧
      ((∃ ys, ys = pcs b off L (Vo.data L) ∧ J ys W') ∨ (∃ pre, (∃ k, k ≤ Vo.data L ∧ pre = pcs b off L k) ∧ Jx pre W')) := by
  obtain ⟨D, hD⟩ : ∃ D, D = Vo.data L := ⟨_, rfl⟩
  have hD1 : 64 * D < L + 64 ∧ L ≤ 64 * D := by rw [hD]; unfold Vo.data; omega
  rw [← hD] at hY ⊢
  refine callsIn_of_wp Tryd.func57 rfl trivial ?_ rfl
  simp only [Tryd.ntmps57, List.size_toArray, List.length_cons, List.length_nil, Nat.reduceAdd, Nat.reduceSub, Array.replicate_succ, Array.replicate_zero, List.push_toArray, List.append_toArray, List.nil_append, List.cons_append]
  gi_wp2
  gi_loopw [4] (fun i wr => ∃ k x : Nat, k ≤ D ∧ Hid (x = 64 * k) ∧ i = .int .i64 (x : Int) ∧ J (pcs b off L k) wr ∧ wr.cell? ⟨Bs, 0, none⟩ = some (.slice (some ⟨b, off, none⟩) L C) ∧ wr.cell? ⟨Bn, 0, none⟩ = some (.int .i64 64))
    (fun i _ => L + 64 - (intOf i).toNat)
  case atStart => exact ⟨0, 0, Nat.zero_le _, Lib.hid rfl, rfl, h0, hs, hb⟩
  case round =>
    obtain ⟨k, x, hk, HX, rfl, hJs, hs2, hb2⟩ := hrel
    by_cases hlt : x < L
    · obtain ⟨e, he⟩ : ∃ e, e = min 64 (L - x) := ⟨_, rfl⟩
      have hif : (if ((L - x : Nat) : Int) < 64 then ((L - x : Nat) : Int) else 64) = (e : Int) := by
        rw [he]; split <;> omega
      have he1 : x + e ≤ L := by omega
      have he2 : x + e ≤ C := by omega
      have hpc : pcAt b off L k = ⟨some ⟨b, off + x, none⟩, e, e⟩ := by unfold pcAt; rw [← HX.out, ← he]
      have hpn := pcs_succ b off L k
      rw [hpc] at hpn
      have he0 : e ≤ 64 := by omega
      have he3 : 0 < e := by omega
      clear he
      gi_wp2
      gi_quiet (fail)
      have hJd : J (pcs b off L k) (wr.drewN nq) := hJa _ _ _ hJs ⟨rfl, rfl, rfl, Nat.le_refl _, fun _ _ _ => rfl⟩
      have hs3 : (wr.drewN nq).cell? ⟨Bs, 0, none⟩ = some (.slice (some ⟨b, off, none⟩) L C) := hs2
      have hb3 : (wr.drewN nq).cell? ⟨Bn, 0, none⟩ = some (.int .i64 64) := hb2
      clear hJs hs2 hb2 hif
      generalize wr.drewN nq = wd at hJd hs3 hb3 ⊢
      obtain ⟨fn, tmps, assign, body, hy, hR⟩ := hY _ ⟨some ⟨b, off + x, none⟩, e, e⟩ wd hJd (by rw [pcs_len]; have := HX.out; omega)
      dsimp only at hy
      gi_wp2
      refine hR.mono ?_
      rintro e' W3 (⟨rfl, hJ3, hk3⟩ | ⟨rfl, hJx3⟩)
      · have hs4 : W3.cell? ⟨Bs, 0, none⟩ = some (.slice (some ⟨b, off, none⟩) L C) := hk3.1.trans hs3
        have hb4 : W3.cell? ⟨Bn, 0, none⟩ = some (.int .i64 64) := hk3.2.trans hb3
        gi_wp2
        go_roundw
        case rel => exact ⟨k + 1, x + 64, by have := HX.out; omega, Lib.hid (by have := HX.out; omega), by go_num, by rw [hpn]; exact hJ3, hs4, hb4⟩
        case measure => simp [intOf]; omega
      · gi_wp2
        refine bodyPost_ret (results_none rfl _ _ _) rfl ?_
        exact ⟨⟨_, rfl⟩, .inr ⟨_, ⟨k + 1, by have := HX.out; omega, hpn.symm⟩, hJx3⟩⟩
    · obtain rfl : k = D := by have := HX.out; omega
      gi_wp2
      go_end0
      exact ⟨⟨_, rfl⟩, .inl ⟨_, rfl, hJs⟩⟩
/-- no bytes: no piece -/
theorem chunk1_nil (n : Nat) (l Bs Bn C : Nat) (A : Option Addr) (J : List Pc → World → Prop) (W : World) (hs : W.cell? ⟨Bs, 0, none⟩ = some (.slice A 0 C)) (h0 : J [] W) :
    CallsIn Fence.wide n Tryd.prog 57 #[.func (.yield l) #[] #[], .pointer (some ⟨Bs, 0, none⟩), .pointer (some ⟨Bn, 0, none⟩)] W fun e W' => (∃ v, e = .returned v) ∧ J [] W' := by
  refine callsIn_of_wp Tryd.func57 rfl trivial ?_ rfl
  simp only [Tryd.ntmps57, List.size_toArray, List.length_cons, List.length_nil, Nat.reduceAdd, Nat.reduceSub, Array.replicate_succ, Array.replicate_zero, List.push_toArray, List.append_toArray, List.nil_append, List.cons_append]
  gi_wp2
  gi_loopw [4] (fun i wr => i = .int .i64 0 ∧ J [] wr ∧ wr.cell? ⟨Bs, 0, none⟩ = some (.slice A 0 C)) (fun _ _ => 0)
  case atStart => exact ⟨rfl, h0, hs⟩
  case round =>
    obtain ⟨rfl, hJs, hs2⟩ := hrel
    gi_wp2
    go_end0
    exact ⟨⟨_, rfl⟩, hJs⟩
/-- what Chunk hands back: all pieces come, in order -/
theorem chunk_stops (n : Nat) (hn : 1 ≤ n) (Bs Bn L C b off : Nat) (A : Option Addr) (hL : L ≤ 1000000) (hC : L ≤ C) (hA : 0 < L → A = some ⟨b, off, none⟩) (w : World) (hBs : Bs < w.heap.size) (hBn : Bn < w.heap.size)
    (hs : w.cell? ⟨Bs, 0, none⟩ = some (.slice A L C)) (hb : w.cell? ⟨Bn, 0, none⟩ = some (.int .i64 64)) :
    SeqStopsK Fence.wide n Tryd.prog 57 #[.pointer (some ⟨Bs, 0, none⟩), .pointer (some ⟨Bn, 0, none⟩)] (fun x : Pc => #[.slice x.A x.n x.C]) (Two Bs Bn) (fun ys => ys = pcs b off L (Vo.data L)) (fun _ => True) (Vo.data L) w :=
  fun l J Jx W hW hJ _ hY h0 => by
    have hs' := (hW.cell (p := ⟨Bs, 0, none⟩) hBs).trans hs
    have hb' := (hW.cell (p := ⟨Bn, 0, none⟩) hBn).trans hb
    rcases Nat.eq_zero_or_pos L with rfl | hpos
    · exact (chunk1_nil n l Bs Bn C A J W hs' h0).mono fun e W' ⟨he, hj⟩ => ⟨he, .inl ⟨_, rfl, hj⟩⟩
    · rw [hA hpos] at hs'
      refine (chunk1_in n hn l Bs Bn b off L C hL hC J Jx (fun pre X Y h1 h2 => hJ pre X Y none h1 h2 (fun r h => by cases h)) hY W hs' hb' h0).mono ?_
      rintro e W' ⟨he, ⟨ys, rfl, hj⟩ | ⟨pre, _, hj⟩⟩
      · exact ⟨he, .inl ⟨_, rfl, hj⟩⟩
      · exact ⟨he, .inr ⟨_, trivial, hj⟩⟩
theorem chunk_in (n : Nat) (A : Option Addr) (L C : Nat) (w : World) :
    CallsIn Fence.wide n Tryd.prog 41 #[.slice A L C, .int .i64 64] w fun e w' => e = .returned (.func (.func 57) #[] #[.pointer (some ⟨w.heap.size, 0, none⟩), .pointer (some ⟨w.heap.size + 1, 0, none⟩)]) ∧ w' = (w.alloc (.cells #[.slice A L C] 24)).alloc (.cells #[.int .i64 64] 3) := by
  refine callsIn_of_wp Tryd.func41 rfl trivial ?_ rfl
  simp only [Tryd.ntmps41, List.size_toArray, List.length_cons, List.length_nil, Nat.reduceAdd, Nat.reduceSub, Array.replicate_succ, Array.replicate_zero, List.push_toArray, List.append_toArray, List.nil_append, List.cons_append]
  gi_wp2
  go_ret
  exact ⟨rfl, rfl⟩
end Go.Proofs.YtbcncmampabmfaaDoor
