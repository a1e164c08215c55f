/- How many blocks a part takes: numbers alone (parted from VoNeed). What Need of package volume answers. slices.Chunk over bytes, as a loop over it sees it: which pieces come, in which order. A head in memory, and what a head that is read is (parted from RcWords, RcHead, RcRead: no function of package record). A head in memory; what flag answers. -/
import Derived.Test.YtndofmoepjfnfaaDoorMae
import Derived.Test.YtndofmoepjfnfaaDoorChecked
import Derived.OwnWalk
import Derived.Handy
import Derived.WalkSpells
import Derived.WalkLawsBesides
import Derived.RangeFuncNested
import Derived.RangeFuncBound
import Derived.RangeFuncCalls
import Derived.RangeFuncLeaves
import Derived.RangeFuncBox
import Derived.Shelf.Abstract
import Derived.WalkKit
import Derived.OwnWalkIn
import Derived.TacticsInMore
import Derived.LoopNIn
import Derived.LoopIn
import Derived.Maps.AppendAt
import Derived.Sort.QuietIn
import Derived.Test.YtndofmoepjfnfaaDoorMap
import Derived.Test.YtndofmoepjfnfaaDoorMag
import Derived.Test.YtndofmoepjfnfaaDoorKp
namespace Go.Proofs.YtndofmoepjfnfaaDoor
open Go.RowKit
open Pt (Tx)

theorem need_lo {n : Int} (h : n ≤ 0) : Vo.need n = 2 := by
  unfold Vo.need
  rw [show (min (max n 0) 4000).toNat = 0 by omega]; rfl
theorem need_mid {n : Int} (h : 0 ≤ n) (h' : n ≤ 4000) : (Vo.need n : Int) = (n + 63) / 64 + 2 := by
  unfold Vo.need Vo.data
  rw [show (min (max n 0) 4000).toNat = n.toNat by omega]; omega
theorem need_hi {n : Int} (h : 4000 ≤ n) : Vo.need n = 65 := by
  unfold Vo.need
  rw [show (min (max n 0) 4000).toNat = 4000 by omega]; rfl
theorem need_le (n : Int) : Vo.need n ≤ 65 := by
  unfold Vo.need Vo.data; omega
theorem need_ge (n : Int) : 2 ≤ Vo.need n := by
  unfold Vo.need Vo.data; omega
/-- a head's -/
theorem need_head {h : Rc.H} (k : Rc.Ok h) : Vo.need h.len = Vo.data h.len.toNat + 2 := by
  obtain ⟨-, -, -, ⟨_, a⟩, b', c, d, _⟩ := k
  unfold Vo.need
  rw [show (min (max h.len 0) 4000).toNat = h.len.toNat by omega]
end Go.Proofs.YtndofmoepjfnfaaDoor
namespace Go.Proofs.YtndofmoepjfnfaaDoor
open Go.RowKit
open Pt (Tx)

set_option maxHeartbeats 1000000 in
theorem need_any (n : Int) (w : World) : Calls Tryd.prog 57 #[.int .i64 n] w fun e w' => e = .returned (.int .i64 (Vo.need n : Int)) ∧ w = w' := by
  by_cases h0 : n ≤ 0
  · have H := Lib.hid (need_lo h0)
    go_enter Tryd.func57, Tryd.ntmps57
    go_wp2
    all_goals
      go_ret
      exact ⟨by rw [H.out]; first | done | rfl | (exact congrArg (fun k : Int => Ending.returned (.int .i64 k)) (by omega)), rfl⟩
  · by_cases h1 : n ≤ 4000
    · have H := Lib.hid (need_mid (n := n) (by omega) h1)
      go_enter Tryd.func57, Tryd.ntmps57
      go_wp2
      all_goals
        go_ret
        exact ⟨by rw [H.out]; first | done | rfl | (exact congrArg (fun k : Int => Ending.returned (.int .i64 k)) (by omega)), rfl⟩
    · have H := Lib.hid (need_hi (n := n) (by omega))
      go_enter Tryd.func57, Tryd.ntmps57
      go_wp2
      all_goals
        go_ret
        exact ⟨by rw [H.out]; first | done | rfl | (exact congrArg (fun k : Int => Ending.returned (.int .i64 k)) (by omega)), rfl⟩
end Go.Proofs.YtndofmoepjfnfaaDoor
namespace Go.Proofs.YtndofmoepjfnfaaDoor
open Go.RowKit Go.Shelf

attribute [local go_sem] Oper.semAt_some

/-- the two boxes that the closure reads are as they were -/
def Two (Bs Bn : Nat) (W W' : World) : Prop := W'.cell? ⟨Bs, 0, none⟩ = W.cell? ⟨Bs, 0, none⟩ ∧ W'.cell? ⟨Bn, 0, none⟩ = W.cell? ⟨Bn, 0, none⟩
theorem Two.trans {Bs Bn : Nat} {A B C : World} (h : Two Bs Bn A B) (k : Two Bs Bn B C) : Two Bs Bn A C := ⟨k.1.trans h.1, k.2.trans h.2⟩
theorem Two.refl (Bs Bn : Nat) (A : World) : Two Bs Bn A A := ⟨rfl, rfl⟩
set_option maxRecDepth 100000 in
set_option maxHeartbeats 2000000 in
theorem chunk1_in (n : Nat) (hn : 1 ≤ n) (l Bs Bn b off L C : Nat) (hL : L ≤ 1000000) (hC : L ≤ C) (J Jx : List Pc → World → Prop) (hJa : ∀ pre X Y, J pre X → X.grownBy Y none → J pre Y)
    (hY : ∀ pre x W, J pre W → pre.length < Vo.data L → YieldAt Fence.wide (n - 1) Tryd.prog l #[.slice x.A x.n x.C] W fun e W' =>
      (e = .returned (.bool true) ∧ J (pre ++ [x]) W' ∧ Two Bs Bn W W') ∨ (e = .returned (.bool false) ∧ Jx (pre ++ [x]) W'))
    (W : World) (hs : W.cell? ⟨Bs, 0, none⟩ = some (.slice (some ⟨b, off, none⟩) L C)) (hb : W.cell? ⟨Bn, 0, none⟩ = some (.int .i64 64)) (h0 : J [] W) :
    CallsIn Fence.wide n Tryd.prog 79 #[.func (.yield l) #[] #[], .pointer (some ⟨Bs, 0, none⟩), .pointer (some ⟨Bn, 0, none⟩)] W fun e W' => (∃ v, e = .returned v) ∧
      ((∃ ys, ys = pcs b off L (Vo.data L) ∧ J ys W') ∨ (∃ pre, (∃ k, k ≤ Vo.data L ∧ pre = pcs b off L k) ∧ Jx pre W')) := by
  obtain ⟨D, hD⟩ : ∃ D, D = Vo.data L := ⟨_, rfl⟩
  have hD1 : 64 * D < L + 64 ∧ L ≤ 64 * D := by rw [hD]; unfold Vo.data; omega
  rw [← hD] at hY ⊢
  refine callsIn_of_wp Tryd.func79 rfl trivial ?_ rfl
  simp only [Tryd.ntmps79, List.size_toArray, List.length_cons, List.length_nil, Nat.reduceAdd, Nat.reduceSub, Array.replicate_succ, Array.replicate_zero, List.push_toArray, List.append_toArray, List.nil_append, List.cons_append]
  gi_wp2
  gi_loopw [4] (fun i wr => ∃ k x : Nat, k ≤ D ∧ Hid (x = 64 * k) ∧ i = .int .i64 (x : Int) ∧ J (pcs b off L k) wr ∧ wr.cell? ⟨Bs, 0, none⟩ = some (.slice (some ⟨b, off, none⟩) L C) ∧ wr.cell? ⟨Bn, 0, none⟩ = some (.int .i64 64))
    (fun i _ => L + 64 - (intOf i).toNat)
  case atStart => exact ⟨0, 0, Nat.zero_le _, Lib.hid rfl, rfl, h0, hs, hb⟩
  case round =>
    obtain ⟨k, x, hk, HX, rfl, hJs, hs2, hb2⟩ := hrel
    by_cases hlt : x < L
    · obtain ⟨e, he⟩ : ∃ e, e = min 64 (L - x) := ⟨_, rfl⟩
      have hif : (if ((L - x : Nat) : Int) < 64 then ((L - x : Nat) : Int) else 64) = (e : Int) := by
        rw [he]; split <;> omega
      have he1 : x + e ≤ L := by omega
      have he2 : x + e ≤ C := by omega
      have hpc : pcAt b off L k = ⟨some ⟨b, off + x, none⟩, e, e⟩ := by unfold pcAt; rw [← HX.out, ← he]
      have hpn := pcs_succ b off L k
      rw [hpc] at hpn
      have he0 : e ≤ 64 := by omega
      have he3 : 0 < e := by omega
      clear he
      gi_wp2
      gi_quiet (fail)
      have hJd : J (pcs b off L k) (wr.drewN nq) := hJa _ _ _ hJs ⟨rfl, rfl, rfl, Nat.le_refl _, fun _ _ _ => rfl⟩
      have hs3 : (wr.drewN nq).cell? ⟨Bs, 0, none⟩ = some (.slice (some ⟨b, off, none⟩) L C) := hs2
      have hb3 : (wr.drewN nq).cell? ⟨Bn, 0, none⟩ = some (.int .i64 64) := hb2
      clear hJs hs2 hb2 hif
      generalize wr.drewN nq = wd at hJd hs3 hb3 ⊢
      obtain ⟨fn, tmps, assign, body, hy, hR⟩ := hY _ ⟨some ⟨b, off + x, none⟩, e, e⟩ wd hJd (by rw [pcs_len]; have := HX.out; omega)
      dsimp only at hy
      gi_wp2
      refine hR.mono ?_
      rintro e' W3 (⟨rfl, hJ3, hk3⟩ | ⟨rfl, hJx3⟩)
      · have hs4 : W3.cell? ⟨Bs, 0, none⟩ = some (.slice (some ⟨b, off, none⟩) L C) := hk3.1.trans hs3
        have hb4 : W3.cell? ⟨Bn, 0, none⟩ = some (.int .i64 64) := hk3.2.trans hb3
        gi_wp2
        go_roundw
        case rel => exact ⟨k + 1, x + 64, by have := HX.out; omega, Lib.hid (by have := HX.out; omega), by go_num, by rw [hpn]; exact hJ3, hs4, hb4⟩
        case measure => simp [intOf]; omega
      · gi_wp2
        refine bodyPost_ret (results_none rfl _ _ _) rfl ?_
        exact ⟨⟨_, rfl⟩, .inr ⟨_, ⟨k + 1, by have := HX.out; omega, hpn.symm⟩, hJx3⟩⟩
    · obtain rfl : k = D := by have := HX.out; omega
      gi_wp2
      go_end0
      exact ⟨⟨_, rfl⟩, .inl ⟨_, rfl, hJs⟩⟩
/-- no bytes: no piece -/
theorem chunk1_nil (n : Nat) (l Bs Bn C : Nat) (A : Option Addr) (J : List Pc → World → Prop) (W : World) (hs : W.cell? ⟨Bs, 0, none⟩ = some (.slice A 0 C)) (h0 : J [] W) :
    CallsIn Fence.wide n Tryd.prog 79 #[.func (.yield l) #[] #[], .pointer (some ⟨Bs, 0, none⟩), .pointer (some ⟨Bn, 0, none⟩)] W fun e W' => (∃ v, e = .returned v) ∧ J [] W' := by
  refine callsIn_of_wp Tryd.func79 rfl trivial ?_ rfl
  simp only [Tryd.ntmps79, List.size_toArray, List.length_cons, List.length_nil, Nat.reduceAdd, Nat.reduceSub, Array.replicate_succ, Array.replicate_zero, List.push_toArray, List.append_toArray, List.nil_append, List.cons_append]
  gi_wp2
  gi_loopw [4] (fun i wr => i = .int .i64 0 ∧ J [] wr ∧ wr.cell? ⟨Bs, 0, none⟩ = some (.slice A 0 C)) (fun _ _ => 0)
  case atStart => exact ⟨rfl, h0, hs⟩
  case round =>
    obtain ⟨rfl, hJs, hs2⟩ := hrel
    gi_wp2
    go_end0
    exact ⟨⟨_, rfl⟩, hJs⟩
/-- what Chunk hands back: all pieces come, in order -/
theorem chunk_stops (n : Nat) (hn : 1 ≤ n) (Bs Bn L C b off : Nat) (A : Option Addr) (hL : L ≤ 1000000) (hC : L ≤ C) (hA : 0 < L → A = some ⟨b, off, none⟩) (w : World) (hBs : Bs < w.heap.size) (hBn : Bn < w.heap.size)
    (hs : w.cell? ⟨Bs, 0, none⟩ = some (.slice A L C)) (hb : w.cell? ⟨Bn, 0, none⟩ = some (.int .i64 64)) :
    SeqStopsK Fence.wide n Tryd.prog 79 #[.pointer (some ⟨Bs, 0, none⟩), .pointer (some ⟨Bn, 0, none⟩)] (fun x : Pc => #[.slice x.A x.n x.C]) (Two Bs Bn) (fun ys => ys = pcs b off L (Vo.data L)) (fun _ => True) (Vo.data L) w :=
  fun l J Jx W hW hJ _ hY h0 => by
    have hs' := (hW.cell (p := ⟨Bs, 0, none⟩) hBs).trans hs
    have hb' := (hW.cell (p := ⟨Bn, 0, none⟩) hBn).trans hb
    rcases Nat.eq_zero_or_pos L with rfl | hpos
    · exact (chunk1_nil n l Bs Bn C A J W hs' h0).mono fun e W' ⟨he, hj⟩ => ⟨he, .inl ⟨_, rfl, hj⟩⟩
    · rw [hA hpos] at hs'
      refine (chunk1_in n hn l Bs Bn b off L C hL hC J Jx (fun pre X Y h1 h2 => hJ pre X Y none h1 h2 (fun r h => by cases h)) hY W hs' hb' h0).mono ?_
      rintro e W' ⟨he, ⟨ys, rfl, hj⟩ | ⟨pre, _, hj⟩⟩
      · exact ⟨he, .inl ⟨_, rfl, hj⟩⟩
      · exact ⟨he, .inr ⟨_, trivial, hj⟩⟩
theorem chunk_in (n : Nat) (A : Option Addr) (L C : Nat) (w : World) :
    CallsIn Fence.wide n Tryd.prog 69 #[.slice A L C, .int .i64 64] w fun e w' => e = .returned (.func (.func 79) #[] #[.pointer (some ⟨w.heap.size, 0, none⟩), .pointer (some ⟨w.heap.size + 1, 0, none⟩)]) ∧ w' = (w.alloc (.cells #[.slice A L C] 26)).alloc (.cells #[.int .i64 64] 3) := by
  refine callsIn_of_wp Tryd.func69 rfl trivial ?_ rfl
  simp only [Tryd.ntmps69, List.size_toArray, List.length_cons, List.length_nil, Nat.reduceAdd, Nat.reduceSub, Array.replicate_succ, Array.replicate_zero, List.push_toArray, List.append_toArray, List.nil_append, List.cons_append]
  gi_wp2
  go_ret
  exact ⟨rfl, rfl⟩
end Go.Proofs.YtndofmoepjfnfaaDoor
namespace Go.Proofs.YtndofmoepjfnfaaDoor
open Go.RowKit
open Pt (Tx)

/-- the head in a block -/
def headObj (p : Tx) (v z f l s m : Int) (g : Bool) : Obj := .cells #[.string (tx p), .int .i64 v, .int .i64 z, .int .i64 f, .int .i64 l, .int .i64 s, .int .i64 m, .bool g] 50
theorem head8 {w : World} {B : Nat} {p : Tx} {v z f l s m : Int} {g : Bool} (h : w.heap[B]? = some (headObj p v z f l s m g)) :
    w.cell? ⟨B, 0, none⟩ = some (.string (tx p)) ∧ w.cell? ⟨B, 1, none⟩ = some (.int .i64 v) ∧ w.cell? ⟨B, 2, none⟩ = some (.int .i64 z) ∧ w.cell? ⟨B, 3, none⟩ = some (.int .i64 f)
      ∧ w.cell? ⟨B, 4, none⟩ = some (.int .i64 l) ∧ w.cell? ⟨B, 5, none⟩ = some (.int .i64 s) ∧ w.cell? ⟨B, 6, none⟩ = some (.int .i64 m) ∧ w.cell? ⟨B, 7, none⟩ = some (.bool g) :=
  ⟨heap_cell h, heap_cell h, heap_cell h, heap_cell h, heap_cell h, heap_cell h, heap_cell h, heap_cell h⟩
theorem head_free {w : World} {B : Nat} {p : Tx} {v z f l s m : Int} {g : Bool} (h : w.heap[B]? = some (headObj p v z f l s m g)) :
    w.frozen? ⟨B, 0, none⟩ = false ∧ w.frozen? ⟨B, 1, none⟩ = false ∧ w.frozen? ⟨B, 2, none⟩ = false ∧ w.frozen? ⟨B, 3, none⟩ = false
      ∧ w.frozen? ⟨B, 4, none⟩ = false ∧ w.frozen? ⟨B, 5, none⟩ = false ∧ w.frozen? ⟨B, 6, none⟩ = false ∧ w.frozen? ⟨B, 7, none⟩ = false :=
  ⟨heap_frozen h, heap_frozen h, heap_frozen h, heap_frozen h, heap_frozen h, heap_frozen h, heap_frozen h, heap_frozen h⟩
theorem below_head {p : Tx} {v z f l s m : Int} {g : Bool} {B : Nat} {x y : World} (hb : Below x.heap.size x y) (h : x.heap[B]? = some (headObj p v z f l s m g)) : y.heap[B]? = some (headObj p v z f l s m g) :=
  (hb.block B (heap_lt h)).trans h
theorem kp_head {B gr : Nat} {x y : World} {p : Tx} {v z f l s m : Int} {g : Bool} (hk : Kp (· = gr) x y) (hne : ¬ B = gr) (h : x.heap[B]? = some (headObj p v z f l s m g)) : y.heap[B]? = some (headObj p v z f l s m g) :=
  (hk.block B (heap_lt h) hne).trans h
/-- what ReadHead answers -/
def GotH (b : Tx) (w : World) (e : Ending) (w' : World) : Prop :=
  e = .returned (.tuple #[.agg #[.string (tx (Rc.got b).path), .int .i64 (Rc.got b).version, .int .i64 (Rc.got b).size, .int .i64 (Rc.got b).from_, .int .i64 (Rc.got b).len, .int .i64 (Rc.got b).serial, .int .i64 (Rc.got b).sum, .bool (Rc.got b).gone], .int .i64 (Rc.gotE b)]) ∧ Below w.heap.size w w'
theorem GotH.stored {b : Tx} {w x : World} {B : Nat} {h : Rc.H} {er : Int} (hu : Rc.got b = h) (he : Rc.gotE b = er) (hB : B = w.heap.size) (hb : Below w.heap.size w x) (a0 a1 a2 a3 a4 a5 a6 a7 : Value) :
    GotH b w (.returned (.tuple #[.agg #[.string (tx h.path), .int .i64 h.version, .int .i64 h.size, .int .i64 h.from_, .int .i64 h.len, .int .i64 h.serial, .int .i64 h.sum, .bool h.gone], .int .i64 er]))
      ((((((((x.setCell ⟨B, 0, none⟩ a0).setCell ⟨B, 1, none⟩ a1).setCell ⟨B, 2, none⟩ a2).setCell ⟨B, 3, none⟩ a3).setCell ⟨B, 4, none⟩ a4).setCell ⟨B, 5, none⟩ a5).setCell ⟨B, 6, none⟩ a6).setCell ⟨B, 7, none⟩ a7) := by
  subst hB
  have hk : Kp (· = w.heap.size) x ((((((((x.setCell ⟨w.heap.size, 0, none⟩ a0).setCell ⟨w.heap.size, 1, none⟩ a1).setCell ⟨w.heap.size, 2, none⟩ a2).setCell ⟨w.heap.size, 3, none⟩ a3).setCell ⟨w.heap.size, 4, none⟩ a4).setCell ⟨w.heap.size, 5, none⟩ a5).setCell ⟨w.heap.size, 6, none⟩ a6).setCell ⟨w.heap.size, 7, none⟩ a7) :=
    (((((((Kp.store _ _ _ _).trans (Kp.store _ _ _ _)).trans (Kp.store _ _ _ _)).trans (Kp.store _ _ _ _)).trans (Kp.store _ _ _ _)).trans (Kp.store _ _ _ _)).trans (Kp.store _ _ _ _)).trans (Kp.store _ _ _ _)
  exact ⟨by rw [hu, he], hb.trans (hk.below hb.size (fun x hx => by omega))⟩
theorem t_len (b : Tx) : (Rc.t1 b).1.length ≤ b.length ∧ (Rc.t2 b).1.length ≤ b.length ∧ (Rc.t3 b).1.length ≤ b.length ∧ (Rc.t4 b).1.length ≤ b.length ∧ (Rc.t5 b).1.length ≤ b.length ∧ (Rc.t6 b).1.length ≤ b.length ∧ (Rc.t7 b).1.length ≤ b.length := by
  have h1 : (Rc.t1 b).1.length ≤ b.length := Nat.le_trans (Cd.af_le _ _) (Cd.af_le _ (b, false))
  have h2 : (Rc.t2 b).1.length ≤ (Rc.t1 b).1.length := Cd.af_le _ _
  have h3 : (Rc.t3 b).1.length ≤ (Rc.t2 b).1.length := Cd.af_le _ _
  have h4 : (Rc.t4 b).1.length ≤ (Rc.t3 b).1.length := Cd.af_le _ _
  have h5 : (Rc.t5 b).1.length ≤ (Rc.t4 b).1.length := Cd.af_le _ _
  have h6 : (Rc.t6 b).1.length ≤ (Rc.t5 b).1.length := Cd.af_le _ _
  have h7 : (Rc.t7 b).1.length ≤ (Rc.t6 b).1.length := Cd.af_le _ _
  omega
theorem gone_beq (c : UInt8) : (((c.toNat : Nat) : Int) == 1) = (c == 1) := by
  rw [Bool.eq_iff_iff, beq_iff_eq, beq_iff_eq]
  constructor
  · intro h; exact UInt8.toNat.inj (by have : c.toNat = 1 := by omega
                                       rw [this]; rfl)
  · rintro rfl; rfl
end Go.Proofs.YtndofmoepjfnfaaDoor
namespace Go.Proofs.YtndofmoepjfnfaaDoor
open Go.RowKit
open Pt (Tx)

theorem flag_any (g : Bool) (w : World) : Calls Tryd.prog 78 #[.bool g] w fun e w' => e = .returned (.int .u8 ((Rc.goneB g).toNat : Int)) ∧ w = w' := by
  cases g with
  | true =>
    go_enter Tryd.func78, Tryd.ntmps78
    go_wp2
    go_ret
    exact ⟨rfl, rfl⟩
  | false =>
    go_enter Tryd.func78, Tryd.ntmps78
    go_wp2
    go_ret
    exact ⟨rfl, rfl⟩
end Go.Proofs.YtndofmoepjfnfaaDoor
