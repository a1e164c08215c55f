/- append of bytes, and of bytes 0, onto a row that a call owns, as an equation and as a step of a region that draws its order. No function of the program. What package castagnoli's functions answer; nothing is written. What the document's own sums answer: the same as package castagnoli; nothing is written. The sums of castagnoli and of the document's own, of bytes that read as a list. A Writer and a Reader of package code in memory, and those of the document's own. No function of the program. -/
import Derived.Test.YtndofmoepjfnfaaDoorMac
import Derived.Test.YtndofmoepjfnfaaDoorMxZeros
import Derived.Deep.RegionLaw
import Derived.Test.YtndofmoepjfnfaaDoorMad
namespace Go.Proofs.YtndofmoepjfnfaaDoor
open Go.RowKit
open Pt (Tx)

/-- an append that runs to v' and w' is a step -/
theorem step_append_eq {P : Program} {ops : Array Oper} {o : Oper} {a : Act} {w : World} {K : Act → World → Prop} {Q : Exit → Act → World → Prop} {E : Prop} (hg : o.guard = none) (s x : Operand) (t tn : TypeId)
    (ho : o.op = .call { callee := .builtin .append, args := #[s, x], argTypes := #[t, tn] }) (vs vx v' : Value) (w' : World) (hr : ∀ ty, (Builtin.append_ #[t, tn] ty #[vs, vx]).run P w = .ok v' w') (hs : a.eval s = vs) (hx : a.eval x = vx)
    (hK : K (a.put o.dst v') w') : if Region.wanted o (yielded ops a.tmps) = true then Oper.wp P o a w K Q else E := by
  have hw : Region.wanted o (yielded ops a.tmps) = true := by simp [Region.wanted, hg]
  rw [if_pos hw]
  exact Lib.wp_append_run w s x t tn ho vs vx hs hx v' w' (hr _) hK
/-- what an append onto an own row of bytes made: the row as a slice -/
def Grew (w : World) (base : Nat) (v : Value) (l : Tx) (n : Nat) (A : Option Addr) (C : Nat) (w' : World) : Prop := OwnL w' base (.slice A n C) l ∧ w.grownBy w' v.ownBlock
theorem ap_run (w : World) (base : Nat) (v : Value) (l : Tx) (hown : OwnL w base v l) (A : Option Addr) (m c : Nat) (l' : Tx) (G : Nat → Prop) (hm : l'.length = m) (hA : A = none → m = 0 ∧ c = 0) (hr : RdL w A l' G) (hb : l.length + m ≤ 140737488355328) (hbase : base ≤ w.heap.size) (n : Nat) (hn : n = l.length + m) :
    ∃ A' C' w', (∀ ty, (Builtin.append_ #[26, 26] ty #[v, .slice A m c]).run Tryd.prog w = .ok (.slice A' n C') w') ∧ Grew w base v (l ++ l') n A' C' w' := by
  obtain ⟨i0, hi, hz0, hz1, hz2⟩ := info_parts infoB
  have key : ∃ v' w', (∀ ty, (Builtin.append_ #[26, 26] ty #[v, .slice A m c]).run Tryd.prog w = .ok v' w') ∧ OwnL w' base v' (l ++ l') ∧ w.grownBy w' v.ownBlock := by
    cases A with
    | none =>
      obtain ⟨rfl, rfl⟩ := hA rfl
      have h0 : l' = [] := List.length_eq_zero_iff.1 hm
      subst h0
      refine ⟨v, w, fun ty => run_append_owned_none (P := Tryd.prog) (w := w) base 26 ty 5 i0 1 Tryd.underlying26 hi v l.length (cellsL l) hown, ?_, grown_refl w _⟩
      rw [List.append_nil]; exact hown
    | some ad =>
      have hnews : ∀ j u, (cellsL l')[j]? = some u → w.cell? (ad.add j) = some u := fun j u hu => by
        obtain ⟨hj, rfl⟩ := cellsL_some hu
        obtain ⟨b, off, e, _, hc⟩ := hr (by omega)
        cases e
        rw [addr_add]; exact hc j hj
      obtain ⟨v', w', h1, h2, h3, _⟩ := run_append_own (P := Tryd.prog) w base 26 3 5 i0 (.int .u8 0) 1 1 Tryd.underlying26 hi hz0 hz1 hz2 rfl (by decide) v l.length (cellsL l) hown ad m c (cellsL l') (by rw [cellsL_len, hm, Nat.mul_one]) hnews cellsL_one (by unfold maxLen; omega) (by omega) hbase
      refine ⟨v', w', fun ty => h1, ?_, h3⟩
      unfold OwnL
      rw [← cellsL_append, List.length_append, hm]; exact h2
  obtain ⟨v', w', h1, h2, h3⟩ := key
  obtain ⟨A', C', rfl, _, _, _, _⟩ := h2.rd
  have e : (l ++ l').length = n := by rw [List.length_append, hm, hn]
  refine ⟨A', C', w', fun ty => by rw [← e]; exact h1 ty, ?_, h3⟩
  rw [← e]; exact h2
theorem cellsL_zeros (l : Tx) (k : Nat) : cellsL (l ++ List.replicate k 0) = cellsL l ++ List.replicate k (.int .u8 0) := by simp [cellsL]
theorem run_append_none_zeros {P : Program} (w : World) (t tn ty e : TypeId) (i : TypeInfo) (kq kn : IntKind) (ht : P.underlying t = some (.slice e)) (htn : P.underlying tn = some (.int kn)) (hi : P.info? e = some i) (A : Addr) (n c : Nat) (hc : n ≤ c) :
    (Builtin.append_ #[t, tn] ty #[.slice (some A) n c, .int kq 0]).run P w = .ok (.slice (some A) n c) w := by
  have hw : IntKind.i64.wrap 0 = 0 := by decide
  simp [Builtin.append_, run_underlying ht, run_underlying htn, sizeOf, typeInfo, hi, asInt, asIntOf, hw, hc, storeCells]
theorem apz_run (w : World) (base : Nat) (v : Value) (l : Tx) (hown : OwnL w base v l) (hl : 0 < l.length) (k : Nat) (hb : l.length + k ≤ 1000000) (hbase : base ≤ w.heap.size) (x : Int) (hx : x = (k : Int)) (n : Nat) (hn : n = l.length + k) :
    ∃ A' C' w', (∀ ty, (Builtin.append_ #[26, 3] ty #[v, .int .i64 x]).run Tryd.prog w = .ok (.slice A' n C') w') ∧ Grew w base v (l ++ List.replicate k 0) n A' C' w' := by
  subst hx
  obtain ⟨i0, hi, hz0, hz1, hz2⟩ := info_parts infoB
  by_cases h0 : k = 0
  · subst h0
    obtain ⟨A, C, rfl, hlc, _, hA, _⟩ := hown.rd
    cases A with
    | none => have := (hA rfl).1; omega
    | some a =>
      refine ⟨some a, C, w, fun ty => ?_, ?_, grown_refl w _⟩
      · rw [hn]; exact run_append_none_zeros (P := Tryd.prog) w 26 3 ty 5 i0 .i64 .i64 Tryd.underlying26 Tryd.underlying3 hi a l.length C hlc
      · rw [hn, List.replicate_zero, List.append_nil]; exact hown
  · have key : ∀ ty, ∃ v' w', (Builtin.append_ #[26, 3] ty #[v, .int .i64 (k : Int)]).run Tryd.prog w = .ok v' w' ∧ w'.ownsRow base 5 1 v' (l.length + k) (cellsL l ++ List.replicate k (.int .u8 0)) ∧ w.grownBy w' v.ownBlock := fun ty =>
      run_append_zeros_own (P := Tryd.prog) w base 26 3 ty 5 i0 (.int .u8 0) .i64 .i64 Tryd.underlying26 Tryd.underlying3 hi hz0 hz1 rfl rfl v l.length (cellsL l) hown hl k (by omega) (by unfold maxLen; omega) (by rw [hz2]; omega) hbase
    obtain ⟨v', w', h1, h2, h3⟩ := key 3
    have h4 : OwnL w' base v' (l ++ List.replicate k 0) := by
      unfold OwnL
      rw [cellsL_zeros, List.length_append, List.length_replicate]; exact h2
    obtain ⟨A', C', rfl, _, _, _, _⟩ := h4.rd
    have e : (l ++ List.replicate k (0 : UInt8)).length = n := by rw [List.length_append, List.length_replicate, hn]
    refine ⟨A', C', w', fun ty => by rw [← e]; exact h1, ?_, h3⟩
    rw [← e]; exact h4
end Go.Proofs.YtndofmoepjfnfaaDoor
namespace Go.Proofs.YtndofmoepjfnfaaDoor
open Go.RowKit Mx

theorem timesX_any (x : Cr.W) (w : World) :
    Calls Tryd.prog 61 #[.int .u32 (bi x)] w fun e w' => e = .returned (.int .u32 (bi (Cr.step x))) ∧ w = w' := by
  have h0 := bi_lo x
  have h1 := bi_hi x
  by_cases hb : x.getLsbD 0 = true
  · have H := Lib.hid (step_odd hb)
    have ht : (bits BinOp.and IntKind.u32 (bi x) 1 == 0) = false := by rw [bit_of, if_pos hb]; rfl
    clear hb
    go_enter Tryd.func61, Tryd.ntmps61
    go_wp2
    go_ret
    exact ⟨ret_u32 H.out, rfl⟩
  · have H := Lib.hid (step_even (by simpa using hb))
    have ht : (bits BinOp.and IntKind.u32 (bi x) 1 == 0) = true := by rw [bit_of, if_neg hb]; rfl
    clear hb
    go_enter Tryd.func61, Tryd.ntmps61
    go_wp2
    go_ret
    exact ⟨ret_u32 H.out, rfl⟩
theorem timesX8_any (x : Cr.W) (w : World) :
    Calls Tryd.prog 52 #[.int .u32 (bi x)] w fun e w' => e = .returned (.int .u32 (bi (Cr.steps 8 x))) ∧ w = w' := by
  go_enter Tryd.func52, Tryd.ntmps52
  go_wp2
  go_loop [0, 3] (fun vx vi => ∃ k : Nat, k ≤ 8 ∧ vi = .int .i64 (k : Int) ∧ vx = .int .u32 (bi (Cr.steps k x))) (fun _ vi => 8 - (intOf vi).toNat)
  case atStart => exact ⟨0, by omega, rfl, rfl⟩
  case round =>
    obtain ⟨k, hk, rfl, rfl⟩ := hrel
    by_cases hlt : k < 8
    · go_wp2_with fail
      refine (timesX_any _ _).mono ?_
      rintro e w' ⟨rfl, rfl⟩
      go_wp2
      go_round
      case rel => exact ⟨k + 1, by omega, by go_num, val_u32 (by rw [Cr.steps_out])⟩
      case measure => simp [intOf]; omega
    · have HK : Hid (Cr.steps k x = Cr.steps 8 x) := by rw [show k = 8 by omega]; exact Lib.hid rfl
      go_wp2
      go_ret
      exact ⟨ret_u32 (by rw [HK.out]), rfl⟩
set_option maxHeartbeats 1000000 in
theorem more_any (s : Cr.W) (A : Option Addr) (n C : Nat) (r : Nat → Fe) (G : Nat → Prop) (w : World) (hn : n ≤ maxLen) (hr : Rd w A n r G) :
    Calls Tryd.prog 42 #[.int .u32 (bi s), .slice A n C] w fun e w' => e = .returned (.int .u32 (bi (crc s r n))) ∧ w = w' := by
  unfold maxLen at hn
  have hs := not_max s
  have HR := Lib.hid hr
  clear hr
  go_enter Tryd.func42, Tryd.ntmps42
  go_wp2
  clear hs
  go_loop [5, 12] (fun vx vi => ∃ k : Nat, k ≤ n ∧ vi = .int .i64 (k : Int) ∧ vx = .int .u32 (bi (Cr.ups (~~~s) (fun i => (r i).nat) k))) (fun _ vi => n - (intOf vi).toNat)
  case atStart => exact ⟨0, by omega, rfl, rfl⟩
  case round =>
    obtain ⟨k, hk, rfl, rfl⟩ := hrel
    by_cases hlt : k < n
    · obtain ⟨b, off, rfl, _, hc⟩ := HR.out.at hlt
      have r0 := fi_lo (r k)
      have r1 := fi_hi (r k)
      have hx := byte_bi (Cr.ups (~~~s) (fun i => (r i).nat) k) (r k)
      go_wp2_with fail
      refine (timesX8_any _ _).mono ?_
      rintro e w' ⟨rfl, rfl⟩
      clear hx
      go_wp2
      go_round
      case rel => exact ⟨k + 1, by omega, by go_num, rfl⟩
      case measure => simp [intOf]; omega
    · have HK : Hid (~~~(Cr.ups (~~~s) (fun i => (r i).nat) k) = crc s r n) := by rw [show k = n by omega]; exact Lib.hid rfl
      have hs := not_max (Cr.ups (~~~s) (fun i => (r i).nat) k)
      go_wp2
      go_ret
      exact ⟨ret_u32 (by rw [HK.out]), rfl⟩
theorem sum_any (A : Option Addr) (n C : Nat) (r : Nat → Fe) (G : Nat → Prop) (w : World) (hn : n ≤ maxLen) (hr : Rd w A n r G) :
    Calls Tryd.prog 30 #[.slice A n C] w fun e w' => e = .returned (.int .u32 (bi (crc 0#32 r n))) ∧ w = w' := by
  go_enter Tryd.func30, Tryd.ntmps30
  go_wp2_with fail
  refine (more_any 0#32 A n C r G _ hn hr).mono ?_
  rintro e w' ⟨rfl, rfl⟩
  go_wp2
  go_ret
  exact ⟨rfl, rfl⟩
end Go.Proofs.YtndofmoepjfnfaaDoor
namespace Go.Proofs.YtndofmoepjfnfaaDoor
open Go.RowKit Mx

set_option maxRecDepth 100000 in
set_option maxHeartbeats 2000000 in
theorem refMore_any (s : Cr.W) (A : Option Addr) (n C : Nat) (r : Nat → Fe) (G : Nat → Prop) (w : World) (hn : n ≤ maxLen) (hr : Rd w A n r G) :
    Calls Tryd.prog 38 #[.int .u32 (bi s), .slice A n C] w fun e w' => e = .returned (.int .u32 (bi (crc s r n))) ∧ w = w' := by
  unfold maxLen at hn
  have hs := not_bi s
  have HR := Lib.hid hr
  clear hr
  go_enter Tryd.func38, Tryd.ntmps38
  go_wp2
  clear hs
  go_loop [5, 6] (fun vx vi => ∃ k : Nat, k ≤ n ∧ vi = .int .i64 (k : Int) ∧ vx = .int .u32 (bi (Cr.ups (~~~s) (fun i => (r i).nat) k))) (fun _ vi => n - (intOf vi).toNat)
  case atStart => exact ⟨0, by omega, rfl, rfl⟩
  case round =>
    obtain ⟨k, hk, rfl, rfl⟩ := hrel
    by_cases hlt : k < n
    · obtain ⟨b, off, rfl, _, hc⟩ := HR.out.at hlt
      have r0 := fi_lo (r k)
      have r1 := fi_hi (r k)
      have hx := byte_bi (Cr.ups (~~~s) (fun i => (r i).nat) k) (r k)
      have HU : Hid (Cr.ups (~~~s) (fun i => (r i).nat) (k + 1) = Cr.steps 8 (Cr.ups (~~~s) (fun i => (r i).nat) k ^^^ BitVec.ofNat 32 (r k).nat)) := Lib.hid rfl
      go_wp2
      clear hx hc
      generalize Cr.ups (~~~s) (fun i => (r i).nat) k ^^^ BitVec.ofNat 32 (r k).nat = x at HU ⊢
      go_loop [5, 7] (fun vx vi => ∃ (j : Nat) (y : Cr.W), j ≤ 8 ∧ vi = .int .i64 (j : Int) ∧ vx = .int .u32 (bi y) ∧ Hid (y = Cr.steps j x)) (fun _ vi => 8 - (intOf vi).toNat)
      case atStart => exact ⟨0, x, by omega, rfl, rfl, Lib.hid rfl⟩
      case round =>
        obtain ⟨j, y, hj, rfl, rfl, HY⟩ := hrel
        by_cases hl8 : j < 8
        · have HS : Hid (Cr.step y = Cr.steps (j + 1) x) := by rw [HY.out]; exact Lib.hid (Cr.steps_out j x).symm
          clear HY HU
          by_cases hb : y.getLsbD 0 = true
          · have H := Lib.hid (step_odd hb)
            have ht : (bits BinOp.and IntKind.u32 (bi y) 1 == 1) = true := by rw [bit_of, if_pos hb]; rfl
            clear hb
            go_wp2
            go_round
            case rel => exact ⟨j + 1, Cr.step y, by omega, by go_num, val_u32 H.out, HS⟩
            case measure => simp [intOf]; omega
          · have H := Lib.hid (step_even (x := y) (by simpa using hb))
            have ht : (bits BinOp.and IntKind.u32 (bi y) 1 == 1) = false := by rw [bit_of, if_neg hb]; rfl
            clear hb
            go_wp2
            go_round
            case rel => exact ⟨j + 1, Cr.step y, by omega, by go_num, val_u32 H.out, HS⟩
            case measure => simp [intOf]; omega
        · have HK : Hid (y = Cr.ups (~~~s) (fun i => (r i).nat) (k + 1)) := by rw [HY.out, show j = 8 by omega, HU.out]; exact Lib.hid rfl
          clear HY HU
          go_wp2
          go_round
          case rel => exact ⟨k + 1, by omega, by go_num, val_u32 (by rw [HK.out])⟩
          case measure => simp [intOf]; omega
    · have HK : Hid (~~~(Cr.ups (~~~s) (fun i => (r i).nat) k) = crc s r n) := by rw [show k = n by omega]; exact Lib.hid rfl
      have hs := not_bi (Cr.ups (~~~s) (fun i => (r i).nat) k)
      go_wp2
      go_ret
      exact ⟨ret_u32 (by rw [HK.out]), rfl⟩
theorem refCrc_any (A : Option Addr) (n C : Nat) (r : Nat → Fe) (G : Nat → Prop) (w : World) (hn : n ≤ maxLen) (hr : Rd w A n r G) :
    Calls Tryd.prog 25 #[.slice A n C] w fun e w' => e = .returned (.int .u32 (bi (crc 0#32 r n))) ∧ w = w' := by
  go_enter Tryd.func25, Tryd.ntmps25
  go_wp2_with fail
  refine (refMore_any 0#32 A n C r G _ hn hr).mono ?_
  rintro e w' ⟨rfl, rfl⟩
  go_wp2
  go_ret
  exact ⟨rfl, rfl⟩
end Go.Proofs.YtndofmoepjfnfaaDoor
namespace Go.Proofs.YtndofmoepjfnfaaDoor
open Go.RowKit
open Pt (Tx)

theorem sumL_any (A : Option Addr) (l : Tx) (n C : Nat) (G : Nat → Prop) (w : World) (hm : n = l.length) (hn : l.length ≤ maxLen) (hr : RdL w A l G) :
    Calls Tryd.prog 30 #[.slice A n C] w fun e w' => e = .returned (.int .u32 (sumL l)) ∧ w = w' := by
  subst hm; exact sum_any A l.length C (rowL l) G w hn hr.rd
theorem refSumL_any (A : Option Addr) (l : Tx) (n C : Nat) (G : Nat → Prop) (w : World) (hm : n = l.length) (hn : l.length ≤ maxLen) (hr : RdL w A l G) :
    Calls Tryd.prog 25 #[.slice A n C] w fun e w' => e = .returned (.int .u32 (sumL l)) ∧ w = w' := by
  subst hm; exact refCrc_any A l.length C (rowL l) G w hn hr.rd
end Go.Proofs.YtndofmoepjfnfaaDoor
namespace Go.Proofs.YtndofmoepjfnfaaDoor
open Go.RowKit
open Pt (Tx)

/-- pieces, each behind the next one -/
def Chain (w : World) : Option Addr → List Tx → Prop
  | P, [] => P = none
  | P, s :: ss => ∃ p P', P = some ⟨p, 0, none⟩ ∧ w.heap[p]? = some (.cells #[.pointer P', .string (tx s)] 131 (0, 0)) ∧ 0 < s.length ∧ Chain w P' ss
/-- all that pieces hold -/
def flat : List Tx → Tx
  | [] => []
  | s :: ss => flat ss ++ s
theorem Chain.keep {w w' : World} (hk : ∀ (k : Nat) (c : Array Value), w.heap[k]? = some (.cells c 131 (0, 0)) → w'.heap[k]? = w.heap[k]?) : ∀ (ss : List Tx) (P : Option Addr), Chain w P ss → Chain w' P ss
  | [], _, h => h
  | _ :: ss, _, ⟨p, P', h1, h2, h3, h4⟩ => ⟨p, P', h1, (hk p _ h2).trans h2, h3, Chain.keep hk ss P' h4⟩
/-- a Writer at block g that holds l -/
def Wr (w : World) (g : Nat) (l : Tx) : Prop :=
  ∃ P ss, w.heap[g]? = some (.cells #[.pointer P, .int .i64 (l.length : Int)] 117 (0, 0)) ∧ Chain w P ss ∧ l = flat ss
theorem Chain.kp {w w' : World} {S : Nat → Prop} {P : Option Addr} {ss : List Tx} (h : Chain w P ss) (hk : Kp S w w') (hs : ∀ (k : Nat) (c : Array Value), S k → w.heap[k]? ≠ some (.cells c 131 (0, 0))) : Chain w' P ss :=
  Chain.keep (fun k c hc => hk.block k (heap_lt hc) fun h => hs k c h hc) ss P h
theorem Wr.kp {w w' : World} {S : Nat → Prop} {g : Nat} {l : Tx} (h : Wr w g l) (hk : Kp S w w') (hg : ¬ S g) (hs : ∀ (k : Nat) (c : Array Value), S k → w.heap[k]? ≠ some (.cells c 131 (0, 0))) : Wr w' g l := by
  obtain ⟨P, ss, h1, h2, h3⟩ := h
  exact ⟨P, ss, (hk.block g (heap_lt h1) hg).trans h1, h2.kp hk hs, h3⟩
theorem Wr.old {w w' : World} {g : Nat} {l : Tx} (h : Wr w g l) (hb : Below w.heap.size w w') : Wr w' g l :=
  h.kp (S := fun _ => False) (Kp.of_below hb) (fun h => h) (fun _ _ h => h.elim)
theorem Wr.lt {w : World} {g : Nat} {l : Tx} (h : Wr w g l) : g < w.heap.size := by
  obtain ⟨P, ss, h1, _⟩ := h; exact heap_lt h1
/-- a call has written: the Writer at g holds l now, and of what was there g alone has turned -/
def Wrote (g : Nat) (l : Tx) (w : World) (e : Ending) (w' : World) : Prop := e = .returned (.tuple #[]) ∧ Wr w' g l ∧ Kp (· = g) w w'
/-- a Reader at block g with s left; its bytes lie in blocks of G -/
structure Rr (w : World) (g : Nat) (s : Cd.St) (G : Nat → Prop) : Prop where
  ex : ∃ A c, w.heap[g]? = some (.cells #[.slice A s.1.length c, .bool s.2] 136 (0, 0)) ∧ s.1.length ≤ c ∧ (A = none → s.1.length = 0 ∧ c = 0) ∧ RdL w A s.1 G
  ng : ¬ G g
theorem Rr.lt {w : World} {g : Nat} {s : Cd.St} {G : Nat → Prop} (h : Rr w g s G) : g < w.heap.size := by
  obtain ⟨A, c, h1, _⟩ := h.ex; exact heap_lt h1
theorem Rr.kp {w w' : World} {g : Nat} {s : Cd.St} {G S : Nat → Prop} (h : Rr w g s G) (hk : Kp S w w') (hg : ¬ S g) (hs : ∀ b, G b → ¬ S b) : Rr w' g s G := by
  obtain ⟨⟨A, c, h1, h2, h3, h5⟩, hn⟩ := h
  exact ⟨⟨A, c, (hk.block g (heap_lt h1) hg).trans h1, h2, h3, h5.kp hk hs⟩, hn⟩
/-- the document's own Writer: its slice is v -/
def Rw (w : World) (g base : Nat) (v : Value) (l : Tx) : Prop := w.heap[g]? = some (.cells #[v] 65 (0, 0)) ∧ OwnL w base v l
theorem Rw.lt {w : World} {g base : Nat} {v : Value} {l : Tx} (h : Rw w g base v l) : g < w.heap.size := heap_lt h.1
theorem Rw.ne {w : World} {g base : Nat} {v : Value} {l : Tx} (h : Rw w g base v l) : ∀ k, v.ownBlock = some k → k ≠ g := by
  rintro k hk rfl
  obtain ⟨c, hc⟩ := h.2.block k hk
  have := h.1
  rw [hc] at this
  injection this with this
  injection this with _ e
  exact absurd e (by decide)
theorem Rw.kp {w w' : World} {g base : Nat} {v : Value} {l : Tx} {S : Nat → Prop} (h : Rw w g base v l) (hk : Kp S w w') (hg : ¬ S g) (hs : ∀ k, v.ownBlock = some k → ¬ S k) : Rw w' g base v l :=
  ⟨(hk.block g h.lt hg).trans h.1, h.2.kp hk hs⟩
/-- g alone has turned, and rows of bytes from base on -/
def Turned (g base : Nat) (w w' : World) : Prop := Kp (fun k => k = g ∨ base ≤ k ∧ ∃ c, w.heap[k]? = some (.cells c 5 (0, 0))) w w'
theorem Turned.trans {g base : Nat} {a b c : World} (h : Turned g base a b) (k : Turned g base b c) : Turned g base a c := by
  refine ⟨k.os.trans h.os, k.tape.trans h.tape, k.output.trans h.output, Nat.le_trans h.size k.size, fun i hi hs => ?_⟩
  have e := h.block i hi hs
  rw [← e]
  refine k.block i (Nat.lt_of_lt_of_le hi h.size) fun h' => hs ?_
  rcases h' with h' | ⟨h1, x, h2⟩
  · exact .inl h'
  · exact .inr ⟨h1, x, e ▸ h2⟩
theorem Turned.alloc {g base : Nat} {a b : World} (h : Turned g base a b) (o : Obj) : Turned g base a (b.alloc o) := Kp.alloc h o
theorem Turned.below {g base B : Nat} {a b : World} (h : Turned g base a b) (hB : B ≤ a.heap.size) (hg : B ≤ g) (hb : B ≤ base) : Below B a b :=
  Kp.below h hB fun k hk => by rcases hk with rfl | hk; exact hg; omega
/-- what a call of the document's own Writer has turned -/
def RefWrote (g base : Nat) (l : Tx) (w : World) (e : Ending) (w' : World) : Prop := e = .returned (.tuple #[]) ∧ (∃ v', Rw w' g base v' l) ∧ Turned g base w w'
theorem Rw.stored {w w1 w' : World} {g base : Nat} {v v' : Value} {l l' : Tx} (h : Rw w g base v l) (hK : Turned g base w w1) (h1 : w1.heap[g]? = w.heap[g]?) (hv1 : OwnL w1 base v l) (hg : w1.grownBy w' v.ownBlock) (hv : OwnL w' base v' l') :
    w'.heap[g]? = w.heap[g]? ∧ Rw (w'.setCell ⟨g, 0, none⟩ v') g base v' l' ∧ Turned g base w (w'.setCell ⟨g, 0, none⟩ v') := by
  have hlt : g < w1.heap.size := heap_lt (h1.trans h.1)
  have e : w'.heap[g]? = w.heap[g]? := (hg.block g hlt fun e => h.ne g e.symm rfl).trans h1
  have hr : Rw w' g base v' l' ∨ True := .inr trivial
  have hb := e.trans h.1
  refine ⟨e, ⟨by rw [heap_set hb]; simp, hv.kp (Kp.store w' g 0 _) fun k hk hkg => ?_⟩, ?_⟩
  · subst hkg
    obtain ⟨c, hc⟩ := hv.block k hk
    rw [hb] at hc
    injection hc with hc
    injection hc with _ hc
    exact absurd hc (by decide)
  · refine hK.trans (Kp.setCell (Kp.grown (Kp.refl _ w1) hg fun k hk => .inr ⟨hv1.lo k hk, hv1.block k hk⟩) (.inl rfl) _)
/-- what a read answered, and left -/
def Red (v : Value) (g : Nat) (s : Cd.St) (G : Nat → Prop) (w : World) (e : Ending) (w' : World) : Prop := e = .returned v ∧ Rr w' g s G ∧ Kp (· = g) w w'
end Go.Proofs.YtndofmoepjfnfaaDoor
