/- append of bytes, and of bytes 0, onto a row that a call owns, as an equation and as a step of a region that draws its order. No function of the program. What package castagnoli's functions answer; nothing is written. What the document's own sums answer: the same as package castagnoli; nothing is written. The sums of castagnoli and of the document's own, of bytes that read as a list. What check of package frame answers, and what head and tail make. What units of package group answers: what the blocks of a parity tape say. What Put of package frame answers. Tapes that read: a slice of slices of bytes as a list of texts. No function of the program. A slice of slices of bytes: what its element is. No function of the program. What framed of package group answers: the blocks of units that are right. A tape that lies in a block, or in a row of them. No function of the program. What a Reader of package code reads. -/
import Derived.Test.YtfkoomldncfdnaaGreatMb
import Derived.Test.YtfkoomldncfdnaaGreatMxZeros
import Derived.Deep.RegionLaw
import Derived.Test.YtfkoomldncfdnaaGreatMc
import Derived.Test.YtfkoomldncfdnaaGreatMd
import Derived.Test.YtfkoomldncfdnaaGreatMa
import Derived.Lib.SmallJoins
import Derived.Deep.RegionHeld3
import Derived.Deep.DeepFit
import Derived.Test.YtfkoomldncfdnaaGreatChecked
import Derived.OwnWalk
import Derived.Handy
import Derived.WalkSpells
import Derived.WalkLawsBesides
import Derived.StillTailTactics
import Derived.Laws.BitsAllLaws
import Derived.Lib.SliceRun
namespace Go.Proofs.YtfkoomldncfdnaaGreat
open Go.RowKit
open Pt (Tx)

/-- an append that runs to v' and w' is a step -/
theorem step_append_eq {P : Program} {ops : Array Oper} {o : Oper} {a : Act} {w : World} {K : Act → World → Prop} {Q : Exit → Act → World → Prop} {E : Prop} (hg : o.guard = none) (s x : Operand) (t tn : TypeId)
    (ho : o.op = .call { callee := .builtin .append, args := #[s, x], argTypes := #[t, tn] }) (vs vx v' : Value) (w' : World) (hr : ∀ ty, (Builtin.append_ #[t, tn] ty #[vs, vx]).run P w = .ok v' w') (hs : a.eval s = vs) (hx : a.eval x = vx)
    (hK : K (a.put o.dst v') w') : if Region.wanted o (yielded ops a.tmps) = true then Oper.wp P o a w K Q else E := by
  have hw : Region.wanted o (yielded ops a.tmps) = true := by simp [Region.wanted, hg]
  rw [if_pos hw]
  exact Lib.wp_append_run w s x t tn ho vs vx hs hx v' w' (hr _) hK
/-- what an append onto an own row of bytes made: the row as a slice -/
def Grew (w : World) (base : Nat) (v : Value) (l : Tx) (n : Nat) (A : Option Addr) (C : Nat) (w' : World) : Prop := OwnL w' base (.slice A n C) l ∧ w.grownBy w' v.ownBlock
theorem ap_run (w : World) (base : Nat) (v : Value) (l : Tx) (hown : OwnL w base v l) (A : Option Addr) (m c : Nat) (l' : Tx) (G : Nat → Prop) (hm : l'.length = m) (hA : A = none → m = 0 ∧ c = 0) (hr : RdL w A l' G) (hb : l.length + m ≤ 140737488355328) (hbase : base ≤ w.heap.size) (n : Nat) (hn : n = l.length + m) :
    ∃ A' C' w', (∀ ty, (Builtin.append_ #[42, 42] ty #[v, .slice A m c]).run Tryz.prog w = .ok (.slice A' n C') w') ∧ Grew w base v (l ++ l') n A' C' w' := by
  obtain ⟨i0, hi, hz0, hz1, hz2⟩ := info_parts infoB
  have key : ∃ v' w', (∀ ty, (Builtin.append_ #[42, 42] ty #[v, .slice A m c]).run Tryz.prog w = .ok v' w') ∧ OwnL w' base v' (l ++ l') ∧ w.grownBy w' v.ownBlock := by
    cases A with
    | none =>
      obtain ⟨rfl, rfl⟩ := hA rfl
      have h0 : l' = [] := List.length_eq_zero_iff.1 hm
      subst h0
      refine ⟨v, w, fun ty => run_append_owned_none (P := Tryz.prog) (w := w) base 42 ty 5 i0 1 Tryz.underlying42 hi v l.length (cellsL l) hown, ?_, grown_refl w _⟩
      rw [List.append_nil]; exact hown
    | some ad =>
      have hnews : ∀ j u, (cellsL l')[j]? = some u → w.cell? (ad.add j) = some u := fun j u hu => by
        obtain ⟨hj, rfl⟩ := cellsL_some hu
        obtain ⟨b, off, e, _, hc⟩ := hr (by omega)
        cases e
        rw [addr_add]; exact hc j hj
      obtain ⟨v', w', h1, h2, h3, _⟩ := run_append_own (P := Tryz.prog) w base 42 3 5 i0 (.int .u8 0) 1 1 Tryz.underlying42 hi hz0 hz1 hz2 rfl (by decide) v l.length (cellsL l) hown ad m c (cellsL l') (by rw [cellsL_len, hm, Nat.mul_one]) hnews cellsL_one (by unfold maxLen; omega) (by omega) hbase
      refine ⟨v', w', fun ty => h1, ?_, h3⟩
      unfold OwnL
      rw [← cellsL_append, List.length_append, hm]; exact h2
  obtain ⟨v', w', h1, h2, h3⟩ := key
  obtain ⟨A', C', rfl, _, _, _, _⟩ := h2.rd
  have e : (l ++ l').length = n := by rw [List.length_append, hm, hn]
  refine ⟨A', C', w', fun ty => by rw [← e]; exact h1 ty, ?_, h3⟩
  rw [← e]; exact h2
theorem cellsL_zeros (l : Tx) (k : Nat) : cellsL (l ++ List.replicate k 0) = cellsL l ++ List.replicate k (.int .u8 0) := by simp [cellsL]
theorem run_append_none_zeros {P : Program} (w : World) (t tn ty e : TypeId) (i : TypeInfo) (kq kn : IntKind) (ht : P.underlying t = some (.slice e)) (htn : P.underlying tn = some (.int kn)) (hi : P.info? e = some i) (A : Addr) (n c : Nat) (hc : n ≤ c) :
    (Builtin.append_ #[t, tn] ty #[.slice (some A) n c, .int kq 0]).run P w = .ok (.slice (some A) n c) w := by
  have hw : IntKind.i64.wrap 0 = 0 := by decide
  simp [Builtin.append_, run_underlying ht, run_underlying htn, sizeOf, typeInfo, hi, asInt, asIntOf, hw, hc, storeCells]
theorem apz_run (w : World) (base : Nat) (v : Value) (l : Tx) (hown : OwnL w base v l) (hl : 0 < l.length) (k : Nat) (hb : l.length + k ≤ 1000000) (hbase : base ≤ w.heap.size) (x : Int) (hx : x = (k : Int)) (n : Nat) (hn : n = l.length + k) :
    ∃ A' C' w', (∀ ty, (Builtin.append_ #[42, 3] ty #[v, .int .i64 x]).run Tryz.prog w = .ok (.slice A' n C') w') ∧ Grew w base v (l ++ List.replicate k 0) n A' C' w' := by
  subst hx
  obtain ⟨i0, hi, hz0, hz1, hz2⟩ := info_parts infoB
  by_cases h0 : k = 0
  · subst h0
    obtain ⟨A, C, rfl, hlc, _, hA, _⟩ := hown.rd
    cases A with
    | none => have := (hA rfl).1; omega
    | some a =>
      refine ⟨some a, C, w, fun ty => ?_, ?_, grown_refl w _⟩
      · rw [hn]; exact run_append_none_zeros (P := Tryz.prog) w 42 3 ty 5 i0 .i64 .i64 Tryz.underlying42 Tryz.underlying3 hi a l.length C hlc
      · rw [hn, List.replicate_zero, List.append_nil]; exact hown
  · have key : ∀ ty, ∃ v' w', (Builtin.append_ #[42, 3] ty #[v, .int .i64 (k : Int)]).run Tryz.prog w = .ok v' w' ∧ w'.ownsRow base 5 1 v' (l.length + k) (cellsL l ++ List.replicate k (.int .u8 0)) ∧ w.grownBy w' v.ownBlock := fun ty =>
      run_append_zeros_own (P := Tryz.prog) w base 42 3 ty 5 i0 (.int .u8 0) .i64 .i64 Tryz.underlying42 Tryz.underlying3 hi hz0 hz1 rfl rfl v l.length (cellsL l) hown hl k (by omega) (by unfold maxLen; omega) (by rw [hz2]; omega) hbase
    obtain ⟨v', w', h1, h2, h3⟩ := key 3
    have h4 : OwnL w' base v' (l ++ List.replicate k 0) := by
      unfold OwnL
      rw [cellsL_zeros, List.length_append, List.length_replicate]; exact h2
    obtain ⟨A', C', rfl, _, _, _, _⟩ := h4.rd
    have e : (l ++ List.replicate k (0 : UInt8)).length = n := by rw [List.length_append, List.length_replicate, hn]
    refine ⟨A', C', w', fun ty => by rw [← e]; exact h1, ?_, h3⟩
    rw [← e]; exact h4
end Go.Proofs.YtfkoomldncfdnaaGreat
namespace Go.Proofs.YtfkoomldncfdnaaGreat
open Go.RowKit Mx

theorem timesX_any (x : Cr.W) (w : World) :
    Calls Tryz.prog 119 #[.int .u32 (bi x)] w fun e w' => e = .returned (.int .u32 (bi (Cr.step x))) ∧ w = w' := by
  have h0 := bi_lo x
  have h1 := bi_hi x
  by_cases hb : x.getLsbD 0 = true
  · have H := Lib.hid (step_odd hb)
    have ht : (bits BinOp.and IntKind.u32 (bi x) 1 == 0) = false := by rw [bit_of, if_pos hb]; rfl
    clear hb
    go_enter Tryz.func119, Tryz.ntmps119
    go_wp2
    go_ret
    exact ⟨ret_u32 H.out, rfl⟩
  · have H := Lib.hid (step_even (by simpa using hb))
    have ht : (bits BinOp.and IntKind.u32 (bi x) 1 == 0) = true := by rw [bit_of, if_neg hb]; rfl
    clear hb
    go_enter Tryz.func119, Tryz.ntmps119
    go_wp2
    go_ret
    exact ⟨ret_u32 H.out, rfl⟩
theorem timesX8_any (x : Cr.W) (w : World) :
    Calls Tryz.prog 118 #[.int .u32 (bi x)] w fun e w' => e = .returned (.int .u32 (bi (Cr.steps 8 x))) ∧ w = w' := by
  go_enter Tryz.func118, Tryz.ntmps118
  go_wp2
  go_loop [0, 3] (fun vx vi => ∃ k : Nat, k ≤ 8 ∧ vi = .int .i64 (k : Int) ∧ vx = .int .u32 (bi (Cr.steps k x))) (fun _ vi => 8 - (intOf vi).toNat)
  case atStart => exact ⟨0, by omega, rfl, rfl⟩
  case round =>
    obtain ⟨k, hk, rfl, rfl⟩ := hrel
    by_cases hlt : k < 8
    · go_wp2_with fail
      refine (timesX_any _ _).mono ?_
      rintro e w' ⟨rfl, rfl⟩
      go_wp2
      go_round
      case rel => exact ⟨k + 1, by omega, by go_num, val_u32 (by rw [Cr.steps_out])⟩
      case measure => simp [intOf]; omega
    · have HK : Hid (Cr.steps k x = Cr.steps 8 x) := by rw [show k = 8 by omega]; exact Lib.hid rfl
      go_wp2
      go_ret
      exact ⟨ret_u32 (by rw [HK.out]), rfl⟩
set_option maxHeartbeats 1000000 in
theorem more_any (s : Cr.W) (A : Option Addr) (n C : Nat) (r : Nat → Fe) (G : Nat → Prop) (w : World) (hn : n ≤ maxLen) (hr : Rd w A n r G) :
    Calls Tryz.prog 113 #[.int .u32 (bi s), .slice A n C] w fun e w' => e = .returned (.int .u32 (bi (crc s r n))) ∧ w = w' := by
  unfold maxLen at hn
  have hs := not_max s
  have HR := Lib.hid hr
  clear hr
  go_enter Tryz.func113, Tryz.ntmps113
  go_wp2
  clear hs
  go_loop [5, 12] (fun vx vi => ∃ k : Nat, k ≤ n ∧ vi = .int .i64 (k : Int) ∧ vx = .int .u32 (bi (Cr.ups (~~~s) (fun i => (r i).nat) k))) (fun _ vi => n - (intOf vi).toNat)
  case atStart => exact ⟨0, by omega, rfl, rfl⟩
  case round =>
    obtain ⟨k, hk, rfl, rfl⟩ := hrel
    by_cases hlt : k < n
    · obtain ⟨b, off, rfl, _, hc⟩ := HR.out.at hlt
      have r0 := fi_lo (r k)
      have r1 := fi_hi (r k)
      have hx := byte_bi (Cr.ups (~~~s) (fun i => (r i).nat) k) (r k)
      go_wp2_with fail
      refine (timesX8_any _ _).mono ?_
      rintro e w' ⟨rfl, rfl⟩
      clear hx
      go_wp2
      go_round
      case rel => exact ⟨k + 1, by omega, by go_num, rfl⟩
      case measure => simp [intOf]; omega
    · have HK : Hid (~~~(Cr.ups (~~~s) (fun i => (r i).nat) k) = crc s r n) := by rw [show k = n by omega]; exact Lib.hid rfl
      have hs := not_max (Cr.ups (~~~s) (fun i => (r i).nat) k)
      go_wp2
      go_ret
      exact ⟨ret_u32 (by rw [HK.out]), rfl⟩
theorem sum_any (A : Option Addr) (n C : Nat) (r : Nat → Fe) (G : Nat → Prop) (w : World) (hn : n ≤ maxLen) (hr : Rd w A n r G) :
    Calls Tryz.prog 103 #[.slice A n C] w fun e w' => e = .returned (.int .u32 (bi (crc 0#32 r n))) ∧ w = w' := by
  go_enter Tryz.func103, Tryz.ntmps103
  go_wp2_with fail
  refine (more_any 0#32 A n C r G _ hn hr).mono ?_
  rintro e w' ⟨rfl, rfl⟩
  go_wp2
  go_ret
  exact ⟨rfl, rfl⟩
end Go.Proofs.YtfkoomldncfdnaaGreat
namespace Go.Proofs.YtfkoomldncfdnaaGreat
open Go.RowKit Mx

set_option maxRecDepth 100000 in
set_option maxHeartbeats 2000000 in
theorem refMore_any (s : Cr.W) (A : Option Addr) (n C : Nat) (r : Nat → Fe) (G : Nat → Prop) (w : World) (hn : n ≤ maxLen) (hr : Rd w A n r G) :
    Calls Tryz.prog 65 #[.int .u32 (bi s), .slice A n C] w fun e w' => e = .returned (.int .u32 (bi (crc s r n))) ∧ w = w' := by
  unfold maxLen at hn
  have hs := not_bi s
  have HR := Lib.hid hr
  clear hr
  go_enter Tryz.func65, Tryz.ntmps65
  go_wp2
  clear hs
  go_loop [5, 6] (fun vx vi => ∃ k : Nat, k ≤ n ∧ vi = .int .i64 (k : Int) ∧ vx = .int .u32 (bi (Cr.ups (~~~s) (fun i => (r i).nat) k))) (fun _ vi => n - (intOf vi).toNat)
  case atStart => exact ⟨0, by omega, rfl, rfl⟩
  case round =>
    obtain ⟨k, hk, rfl, rfl⟩ := hrel
    by_cases hlt : k < n
    · obtain ⟨b, off, rfl, _, hc⟩ := HR.out.at hlt
      have r0 := fi_lo (r k)
      have r1 := fi_hi (r k)
      have hx := byte_bi (Cr.ups (~~~s) (fun i => (r i).nat) k) (r k)
      have HU : Hid (Cr.ups (~~~s) (fun i => (r i).nat) (k + 1) = Cr.steps 8 (Cr.ups (~~~s) (fun i => (r i).nat) k ^^^ BitVec.ofNat 32 (r k).nat)) := Lib.hid rfl
      go_wp2
      clear hx hc
      generalize Cr.ups (~~~s) (fun i => (r i).nat) k ^^^ BitVec.ofNat 32 (r k).nat = x at HU ⊢
      go_loop [5, 7] (fun vx vi => ∃ (j : Nat) (y : Cr.W), j ≤ 8 ∧ vi = .int .i64 (j : Int) ∧ vx = .int .u32 (bi y) ∧ Hid (y = Cr.steps j x)) (fun _ vi => 8 - (intOf vi).toNat)
      case atStart => exact ⟨0, x, by omega, rfl, rfl, Lib.hid rfl⟩
      case round =>
        obtain ⟨j, y, hj, rfl, rfl, HY⟩ := hrel
        by_cases hl8 : j < 8
        · have HS : Hid (Cr.step y = Cr.steps (j + 1) x) := by rw [HY.out]; exact Lib.hid (Cr.steps_out j x).symm
          clear HY HU
          by_cases hb : y.getLsbD 0 = true
          · have H := Lib.hid (step_odd hb)
            have ht : (bits BinOp.and IntKind.u32 (bi y) 1 == 1) = true := by rw [bit_of, if_pos hb]; rfl
            clear hb
            go_wp2
            go_round
            case rel => exact ⟨j + 1, Cr.step y, by omega, by go_num, val_u32 H.out, HS⟩
            case measure => simp [intOf]; omega
          · have H := Lib.hid (step_even (x := y) (by simpa using hb))
            have ht : (bits BinOp.and IntKind.u32 (bi y) 1 == 1) = false := by rw [bit_of, if_neg hb]; rfl
            clear hb
            go_wp2
            go_round
            case rel => exact ⟨j + 1, Cr.step y, by omega, by go_num, val_u32 H.out, HS⟩
            case measure => simp [intOf]; omega
        · have HK : Hid (y = Cr.ups (~~~s) (fun i => (r i).nat) (k + 1)) := by rw [HY.out, show j = 8 by omega, HU.out]; exact Lib.hid rfl
          clear HY HU
          go_wp2
          go_round
          case rel => exact ⟨k + 1, by omega, by go_num, val_u32 (by rw [HK.out])⟩
          case measure => simp [intOf]; omega
    · have HK : Hid (~~~(Cr.ups (~~~s) (fun i => (r i).nat) k) = crc s r n) := by rw [show k = n by omega]; exact Lib.hid rfl
      have hs := not_bi (Cr.ups (~~~s) (fun i => (r i).nat) k)
      go_wp2
      go_ret
      exact ⟨ret_u32 (by rw [HK.out]), rfl⟩
theorem refCrc_any (A : Option Addr) (n C : Nat) (r : Nat → Fe) (G : Nat → Prop) (w : World) (hn : n ≤ maxLen) (hr : Rd w A n r G) :
    Calls Tryz.prog 41 #[.slice A n C] w fun e w' => e = .returned (.int .u32 (bi (crc 0#32 r n))) ∧ w = w' := by
  go_enter Tryz.func41, Tryz.ntmps41
  go_wp2_with fail
  refine (refMore_any 0#32 A n C r G _ hn hr).mono ?_
  rintro e w' ⟨rfl, rfl⟩
  go_wp2
  go_ret
  exact ⟨rfl, rfl⟩
end Go.Proofs.YtfkoomldncfdnaaGreat
namespace Go.Proofs.YtfkoomldncfdnaaGreat
open Go.RowKit
open Pt (Tx)

theorem sumL_any (A : Option Addr) (l : Tx) (n C : Nat) (G : Nat → Prop) (w : World) (hm : n = l.length) (hn : l.length ≤ maxLen) (hr : RdL w A l G) :
    Calls Tryz.prog 103 #[.slice A n C] w fun e w' => e = .returned (.int .u32 (sumL l)) ∧ w = w' := by
  subst hm; exact sum_any A l.length C (rowL l) G w hn hr.rd
theorem refSumL_any (A : Option Addr) (l : Tx) (n C : Nat) (G : Nat → Prop) (w : World) (hm : n = l.length) (hn : l.length ≤ maxLen) (hr : RdL w A l G) :
    Calls Tryz.prog 41 #[.slice A n C] w fun e w' => e = .returned (.int .u32 (sumL l)) ∧ w = w' := by
  subst hm; exact refCrc_any A l.length C (rowL l) G w hn hr.rd
end Go.Proofs.YtfkoomldncfdnaaGreat
namespace Go.Proofs.YtfkoomldncfdnaaGreat
open Go.RowKit
open Pt (Tx)

/-- the unit in a block -/
def unitObj (k lb nb : Int) (A : Option Addr) (m C : Nat) : Obj := .cells #[.int .i64 k, .int .i64 lb, .int .i64 nb, .slice A m C] 46
def Checked (room er : Int) (w : World) (e : Ending) (w' : World) : Prop := e = .returned (.tuple #[.int .i64 room, .int .i64 er]) ∧ Below w.heap.size w w'
theorem check_kind (k lb nb : Int) (A : Option Addr) (m C : Nat) (w : World) (h : k < 1 ∨ 6 < k) :
    Calls Tryz.prog 77 #[.agg #[.int .i64 k, .int .i64 lb, .int .i64 nb, .slice A m C]] w (Checked 0 1 w) := by
  have q1 : (k == 1) = false := beq_eq_false_iff_ne.2 (by omega)
  have q2 : (k == 2) = false := beq_eq_false_iff_ne.2 (by omega)
  have q3 : (k == 3) = false := beq_eq_false_iff_ne.2 (by omega)
  have q4 : (k == 4) = false := beq_eq_false_iff_ne.2 (by omega)
  have q5 : (k == 5) = false := beq_eq_false_iff_ne.2 (by omega)
  have q6 : (k == 6) = false := beq_eq_false_iff_ne.2 (by omega)
  have HB : Hid (Below w.heap.size w (w.alloc (unitObj k lb nb A m C))) := Lib.hid ((Below.refl _ _).alloc (Nat.le_refl _) _)
  clear h
  go_enter Tryz.func77, Tryz.ntmps77
  go_wp2
  go_ret2
  exact ⟨rfl, HB.out⟩
set_option maxHeartbeats 4000000 in
theorem check_arg (k lb nb : Int) (A : Option Addr) (m C : Nat) (w : World) (h : 1 ≤ k ∧ k ≤ 6) (h' : lb < 1 ∨ 2147483647 < lb ∨ nb < 0 ∨ 2147483647 < nb) :
    Calls Tryz.prog 77 #[.agg #[.int .i64 k, .int .i64 lb, .int .i64 nb, .slice A m C]] w (Checked 0 1 w) := by
  have HB : Hid (Below w.heap.size w (w.alloc (unitObj k lb nb A m C))) := Lib.hid ((Below.refl _ _).alloc (Nat.le_refl _) _)
  have hk : k = 1 ∨ k = 2 ∨ k = 3 ∨ k = 4 ∨ k = 5 ∨ k = 6 := by omega
  clear h
  have hq : (decide (lb < 1) = true) ∨ (decide (lb < 1) = false ∧ decide (2147483647 < lb) = true) ∨ (decide (lb < 1) = false ∧ decide (2147483647 < lb) = false ∧ decide (nb < 0) = true) ∨ (decide (lb < 1) = false ∧ decide (2147483647 < lb) = false ∧ decide (nb < 0) = false ∧ decide (2147483647 < nb) = true) := by
    simp only [decide_eq_true_eq, decide_eq_false_iff_not]; omega
  clear h'
  rcases hk with rfl | rfl | rfl | rfl | rfl | rfl <;> rcases hq with q1 | ⟨q1, q2⟩ | ⟨q1, q2, q3⟩ | ⟨q1, q2, q3, q4⟩
  all_goals
    go_enter Tryz.func77, Tryz.ntmps77
    go_wp2
    go_ret2
    exact ⟨rfl, HB.out⟩
theorem check_long (k lb nb : Int) (A : Option Addr) (m C : Nat) (w : World) (h : 1 ≤ k ∧ k ≤ 6) (h' : 1 ≤ lb ∧ lb ≤ 2147483647 ∧ 0 ≤ nb ∧ nb ≤ 2147483647) (hm : Fm.room k < m) :
    Calls Tryz.prog 77 #[.agg #[.int .i64 k, .int .i64 lb, .int .i64 nb, .slice A m C]] w (Checked 0 4 w) := by
  have HB : Hid (Below w.heap.size w (w.alloc (unitObj k lb nb A m C))) := Lib.hid ((Below.refl _ _).alloc (Nat.le_refl _) _)
  have q1 : decide (lb < 1) = false := decide_eq_false (by omega)
  have q2 : decide (2147483647 < lb) = false := decide_eq_false (by omega)
  have q3 : decide (nb < 0) = false := decide_eq_false (by omega)
  have q4 : decide (2147483647 < nb) = false := decide_eq_false (by omega)
  have hk : k = 1 ∨ k = 2 ∨ k = 3 ∨ k = 4 ∨ k = 5 ∨ k = 6 := by omega
  clear h h'
  rcases hk with rfl | rfl | rfl | rfl | rfl | rfl
  all_goals
    simp only [Fm.room, reduceIte, Int.reduceEq] at hm
    go_enter Tryz.func77, Tryz.ntmps77
    go_wp2
    go_ret2
    exact ⟨rfl, HB.out⟩
theorem check_ok (k lb nb : Int) (A : Option Addr) (m C : Nat) (w : World) (h : 1 ≤ k ∧ k ≤ 6) (h' : 1 ≤ lb ∧ lb ≤ 2147483647 ∧ 0 ≤ nb ∧ nb ≤ 2147483647) (hm : m ≤ Fm.room k) :
    Calls Tryz.prog 77 #[.agg #[.int .i64 k, .int .i64 lb, .int .i64 nb, .slice A m C]] w (Checked (Fm.room k) 0 w) := by
  have HB : Hid (Below w.heap.size w (w.alloc (unitObj k lb nb A m C))) := Lib.hid ((Below.refl _ _).alloc (Nat.le_refl _) _)
  have q1 : decide (lb < 1) = false := decide_eq_false (by omega)
  have q2 : decide (2147483647 < lb) = false := decide_eq_false (by omega)
  have q3 : decide (nb < 0) = false := decide_eq_false (by omega)
  have q4 : decide (2147483647 < nb) = false := decide_eq_false (by omega)
  have hk : k = 1 ∨ k = 2 ∨ k = 3 ∨ k = 4 ∨ k = 5 ∨ k = 6 := by omega
  clear h h'
  rcases hk with rfl | rfl | rfl | rfl | rfl | rfl
  all_goals
    simp only [Fm.room, reduceIte, Int.reduceEq] at hm ⊢
    go_enter Tryz.func77, Tryz.ntmps77
    go_wp2
    go_ret2
    exact ⟨rfl, HB.out⟩
theorem unit4 {w : World} {g : Nat} {k lb nb : Int} {A : Option Addr} {m C : Nat} (h : w.heap[g]? = some (unitObj k lb nb A m C)) :
    w.cell? ⟨g, 0, none⟩ = some (.int .i64 k) ∧ w.cell? ⟨g, 1, none⟩ = some (.int .i64 lb) ∧ w.cell? ⟨g, 2, none⟩ = some (.int .i64 nb) ∧ w.cell? ⟨g, 3, none⟩ = some (.slice A m C) :=
  ⟨heap_cell h, heap_cell h, heap_cell h, heap_cell h⟩
set_option maxHeartbeats 1000000 in
theorem head_any (k lb nb : Int) (A : Option Addr) (s : Tx) (m C : Nat) (w : World) (hm : m = s.length) :
    Calls Tryz.prog 78 #[.agg #[.int .i64 k, .int .i64 lb, .int .i64 nb, .slice A m C]] w (NewS (Fm.head ⟨k, lb, nb, s⟩) w) := by
  have HM := Lib.hid hm
  clear hm
  obtain ⟨wb, hwb⟩ : ∃ wb, wb = (w.alloc (unitObj k lb nb A m C)).alloc (.cells #[.pointer none, .int .i64 0] 122) := ⟨_, rfl⟩
  have HB0 : Hid (Below w.heap.size w wb) := Lib.hid (by rw [hwb]; exact ((Below.refl _ _).alloc (Nat.le_refl _) _).alloc (by simp) _)
  have H0 : Hid (Wr wb (w.heap.size + 1) []) := Lib.hid (by
    have := Wr.new (w.alloc (unitObj k lb nb A m C))
    rw [hwb]; simpa using this)
  have HU0 : Hid (wb.heap[w.heap.size]? = some (unitObj k lb nb A m C)) := Lib.hid (by
    rw [hwb, Below.heap_alloc _ _ _ (by simp)]; exact Go.Deep.blk_alloc_new _ _)
  obtain ⟨a0, a1, a2, a3⟩ := unit4 HU0.out
  have HW := Lib.hid hwb
  rw [hwb] at a0 a1 a2 a3
  clear hwb
  unfold unitObj at a0 a1 a2 a3 HW
  have hle : ∀ (g : Nat) (x y : World), Kp (· = g) x y → g = w.heap.size + 1 → x.heap[w.heap.size]? = some (unitObj k lb nb A m C) → y.heap[w.heap.size]? = some (unitObj k lb nb A m C) := fun g x y hk hg hx => by
    subst hg
    exact (hk.block _ (heap_lt hx) (by omega)).trans hx
  have HLE := Lib.hid hle
  clear hle
  go_enter Tryz.func78, Tryz.ntmps78
  go_wp2_with fail
  rw [← HW.out]
  refine (wbyte_int _ [] k wb H0.out (by simp)).mono ?_
  rintro e w1 ⟨rfl, hW1, hK1⟩
  have HW1 := Lib.hid hW1
  have HU1 := Lib.hid (HLE.out _ _ _ hK1 rfl HU0.out)
  have HB1 := Lib.hid (HB0.out.trans (lo_g hK1 HB0.out.size (Nat.le_succ _)))
  obtain ⟨b0, b1, b2, b3⟩ := unit4 HU1.out
  clear hW1 hK1 a0 a1 a2 a3
  go_wp2_with fail
  refine (wint_any _ _ lb w1 HW1.out (by simp)).mono ?_
  rintro e w2 ⟨rfl, hW2, hK2⟩
  have HW2 := Lib.hid hW2
  have HU2 := Lib.hid (HLE.out _ _ _ hK2 rfl HU1.out)
  have HB2 := Lib.hid (HB1.out.trans (lo_g hK2 HB1.out.size (Nat.le_succ _)))
  obtain ⟨c0, c1, c2, c3⟩ := unit4 HU2.out
  clear hW2 hK2 b0 b1 b2 b3
  go_wp2_with fail
  refine (wint_any _ _ nb w2 HW2.out (by simp [Cd.be4_len])).mono ?_
  rintro e w3 ⟨rfl, hW3, hK3⟩
  have HW3 := Lib.hid hW3
  have HU3 := Lib.hid (HLE.out _ _ _ hK3 rfl HU2.out)
  have HB3 := Lib.hid (HB2.out.trans (lo_g hK3 HB2.out.size (Nat.le_succ _)))
  obtain ⟨d0, d1, d2, d3⟩ := unit4 HU3.out
  clear hW3 hK3 c0 c1 c2 c3
  go_wp2_with fail
  refine (wbyte_int _ _ ((m : Int) / 256) w3 HW3.out (by simp [Cd.be4_len])).mono ?_
  rintro e w4 ⟨rfl, hW4, hK4⟩
  have HW4 := Lib.hid hW4
  have HU4 := Lib.hid (HLE.out _ _ _ hK4 rfl HU3.out)
  have HB4 := Lib.hid (HB3.out.trans (lo_g hK4 HB3.out.size (Nat.le_succ _)))
  obtain ⟨e0, e1, e2, e3⟩ := unit4 HU4.out
  clear hW4 hK4 d0 d1 d2 d3
  go_wp2_with fail
  refine (wbyte_int _ _ (m : Int) w4 HW4.out (by simp [Cd.be4_len])).mono ?_
  rintro e w5 ⟨rfl, hW5, hK5⟩
  have HW5 := Lib.hid hW5
  have HB5 := Lib.hid (HB4.out.trans (lo_g hK5 HB4.out.size (Nat.le_succ _)))
  clear hW5 hK5 e0 e1 e2 e3
  go_wp2_with fail
  refine (bytes_own _ _ w5 HW5.out (by simp [Cd.be4_len])).mono ?_
  rintro e w6 ⟨b, rfl, hb, hr6, hB6⟩
  have HR6 := Lib.hid hr6
  have HB6 := Lib.hid (HB5.out.trans (hB6.mono HB5.out.size))
  have HLO := Lib.hid (Nat.le_trans HB5.out.size hb)
  clear hr6 hB6 hb
  go_wp2
  go_ret
  have hh : Fm.head ⟨k, lb, nb, s⟩ = ((((([] ++ [Cd.b8 k]) ++ Cd.be4 lb) ++ Cd.be4 nb) ++ [Cd.b8 ((m : Int) / 256)]) ++ [Cd.b8 (m : Int)]) := by rw [HM.out]; rfl
  rw [hh]
  exact ⟨b, _, rfl, rfl, HLO.out, HR6.out, HB6.out⟩
set_option maxHeartbeats 1000000 in
theorem tail_any (A : Option Addr) (l : Tx) (n C : Nat) (G : Nat → Prop) (w : World) (hm : n = l.length) (hn : l.length ≤ 1000000) (hr : RdL w A l G) :
    Calls Tryz.prog 79 #[.slice A n C] w (NewS (Cd.be4 (sumL l)) w) := by
  have HB0 : Hid (Below w.heap.size w (w.alloc (.cells #[.pointer none, .int .i64 0] 122))) := Lib.hid ((Below.refl _ _).alloc (Nat.le_refl _) _)
  have H0 := Lib.hid (Wr.new w)
  have HR := Lib.hid (hr.old HB0.out)
  have HM := Lib.hid hm
  clear hm hr
  have s0 := sumL_lo l
  have s1 := sumL_hi l
  go_enter Tryz.func79, Tryz.ntmps79
  go_wp2_with fail
  refine (sumL_any A l n C G _ HM.out (by unfold maxLen; omega) HR.out).mono ?_
  rintro e _ ⟨rfl, rfl⟩
  go_wp2_with fail
  refine (wint_any _ _ (sumL l) _ H0.out (by simp)).mono ?_
  rintro e w2 ⟨rfl, hW2, hK2⟩
  have HW2 := Lib.hid hW2
  have HB2 := Lib.hid (HB0.out.trans (lo_g hK2 HB0.out.size (Nat.le_refl _)))
  clear hW2 hK2
  go_wp2_with fail
  refine (bytes_own _ _ w2 HW2.out (by simp [Cd.be4_len])).mono ?_
  rintro e w3 ⟨b, rfl, hb, hr3, hB3⟩
  have HR3 := Lib.hid hr3
  have HB3 := Lib.hid (HB2.out.trans (hB3.mono HB2.out.size))
  have HLO := Lib.hid (Nat.le_trans HB2.out.size hb)
  clear hr3 hB3 hb
  go_wp2
  go_ret
  exact ⟨b, _, rfl, rfl, HLO.out, HR3.out, HB3.out⟩
end Go.Proofs.YtfkoomldncfdnaaGreat
namespace Go.Proofs.YtfkoomldncfdnaaGreat
open Go.RowKit
open Pt (Tx)

/-- a unit as it lies in a row: its kind, its load, and where that lies -/
structure Ux where
  kind : Int
  s : Tx
  A : Option Addr
  C : Nat
def Ux.enc (u : Ux) : List Value := [.int .i64 u.kind, .int .i64 0, .int .i64 0, .slice u.A u.s.length u.C]
def Ux.pair (u : Ux) : Int × Tx := (u.kind, u.s)
def encY : Enc Ux where
  k := 4
  pos := by decide
  enc := Ux.enc
  len _ := rfl
  one u v hv := by
    simp only [Ux.enc, List.mem_cons, List.not_mem_nil, or_false] at hv
    rcases hv with rfl | rfl | rfl | rfl <;> rfl
structure Ux.Ok (u : Ux) (w : World) (G : Nat → Prop) : Prop where
  nil : u.A = none → u.s.length = 0 ∧ u.C = 0
  rd : RdL w u.A u.s G
theorem Ux.Ok.mono {x : Ux} {w : World} {G G' : Nat → Prop} (h : x.Ok w G) (hg : ∀ b, G b → G' b) : x.Ok w G' := ⟨h.nil, h.rd.mono hg⟩
theorem Ux.Ok.old {x : Ux} {w w' : World} {G : Nat → Prop} (h : x.Ok w G) (hb : Below w.heap.size w w') : x.Ok w' G := ⟨h.nil, h.rd.old hb⟩
theorem Ux.Ok.kp {x : Ux} {w w' : World} {G S : Nat → Prop} (h : x.Ok w G) (hk : Kp S w w') (hs : ∀ b, G b → ¬ S b) : x.Ok w' G := ⟨h.nil, h.rd.kp hk hs⟩
theorem Ux.Ok.in_ {x : Ux} {w : World} {G : Nat → Prop} (h : x.Ok w G) : x.Ok w (fun b => G b ∧ b < w.heap.size) := ⟨h.nil, h.rd.in_⟩
/-- units that are gathered in an own row -/
structure UnitI (w : World) (v : Value) (us : List Ux) (wr : World) : Prop where
  own : encY.Own wr w.heap.size 46 v us
  ok : ∀ u ∈ us, u.Ok wr (fun b => v.ownBlock ≠ some b)
  bel : Below w.heap.size w wr
namespace UnitI
variable {w wr w2 w3 : World} {v : Value} {us : List Ux}
theorem old (h : UnitI w v us wr) (hb : Below wr.heap.size wr w2) : UnitI w v us w2 :=
  ⟨h.own.old hb, fun x hx => (h.ok x hx).old hb, h.bel.trans (hb.mono h.bel.size)⟩
theorem push (h : UnitI w v us w2) {x : Ux} (hx : x.Ok w2 (fun b => v.ownBlock ≠ some b)) {o : Obj} {g n cap : Nat} (hown : encY.Own w3 w.heap.size 46 (.slice (some ⟨g, 0, none⟩) n cap) (us ++ [x])) (hg : (w2.alloc o).grownBy w3 v.ownBlock) (hat : v.ownBlock = some g ∨ g = w2.heap.size + 1) : UnitI w (.slice (some ⟨g, 0, none⟩) n cap) (us ++ [x]) w3 := by
  have key : ∀ y : Ux, y.Ok w2 (fun b => v.ownBlock ≠ some b) → y.Ok w3 (fun b => (.slice (some ⟨g, 0, none⟩) n cap : Value).ownBlock ≠ some b) := fun y hy => by
    have hk : Kp (fun k => v.ownBlock = some k) w2 w3 := ((Kp.refl _ w2).alloc o).grown hg (fun k e => e)
    have h3 := hy.in_.kp hk (fun b hb => hb.1)
    refine h3.mono fun b hb e => ?_
    have e' : g = b := by simpa [Value.ownBlock] using e
    rcases hat with hat | hat
    · exact hb.1 (by rw [hat, e'])
    · omega
  refine ⟨hown, fun y hy => ?_, ?_⟩
  · rcases List.mem_append.1 hy with hy | hy
    · exact key y (h.ok y hy)
    · rw [List.mem_singleton.1 hy]; exact key x hx
  · exact (h.bel.alloc h.bel.size _).grown hg (by have := h.bel.size; simp; omega) (fun k hk => (h.own.lt k hk).1)
end UnitI
/-- rows that read, without how much room they have -/
def RdW (w : World) (A : Option Addr) (bs : List Tx) (G : Nat → Prop) : Prop :=
  0 < bs.length → ∃ b off, A = some ⟨b, off, none⟩ ∧ G b ∧ ∀ i (hi : i < bs.length), ∃ A' C', w.cell? ⟨b, off + i, none⟩ = some (.slice A' bs[i].length C') ∧ (A' = none → bs[i].length = 0 ∧ C' = 0) ∧ RdL w A' bs[i] G
theorem RdW.at_ {w : World} {A : Option Addr} {bs : List Tx} {G : Nat → Prop} (h : RdW w A bs G) {i : Nat} (hi : i < bs.length) : ∃ b off A' C', A = some ⟨b, off, none⟩ ∧ G b ∧ w.cell? ⟨b, off + i, none⟩ = some (.slice A' bs[i].length C') ∧ (A' = none → bs[i].length = 0 ∧ C' = 0) ∧ RdL w A' bs[i] G := by
  obtain ⟨b, off, e, hg, hc⟩ := h (by omega)
  obtain ⟨A', C', h1, h2, h3⟩ := hc i hi
  exact ⟨b, off, A', C', e, hg, h1, h2, h3⟩
theorem RdW.old {w w' : World} {A : Option Addr} {bs : List Tx} {G : Nat → Prop} (h : RdW w A bs G) (hb : Below w.heap.size w w') : RdW w' A bs G := fun hn => by
  obtain ⟨b, off, e, hg, hc⟩ := h hn
  refine ⟨b, off, e, hg, fun i hi => ?_⟩
  obtain ⟨A', C', h1, h2, h3⟩ := hc i hi
  exact ⟨A', C', (hb.cell (World.block_lt_of_cell? _ _ h1)).trans h1, h2, h3.old hb⟩
theorem RdW.in_ {w : World} {A : Option Addr} {bs : List Tx} {G : Nat → Prop} (h : RdW w A bs G) : RdW w A bs (fun b => G b ∧ b < w.heap.size) := fun hn => by
  obtain ⟨b, off, e, hg, hc⟩ := h hn
  refine ⟨b, off, e, ⟨hg, ?_⟩, fun i hi => ?_⟩
  · obtain ⟨_, _, h1, _⟩ := hc 0 hn
    exact World.block_lt_of_cell? _ _ h1
  · obtain ⟨A', C', h1, h2, h3⟩ := hc i hi
    exact ⟨A', C', h1, h2, h3.in_⟩
theorem RdM.rdW {w : World} {A : Option Addr} {n : Nat} {M : Mx.Mat} {G : Nat → Prop} (h : RdM w A n (fun _ => 79) M G) : RdW w A ((List.range n).map fun i => lst (M i) 79) G := fun hn => by
  obtain ⟨b, off, e, hg, hc⟩ := h (by simpa using hn)
  refine ⟨b, off, e, hg, fun i hi => ?_⟩
  obtain ⟨A', C', h1, h2⟩ := hc i (by simpa using hi)
  simp only [List.getElem_map, List.getElem_range, lst_len]
  refine ⟨A', C', h1, fun e => ?_, h2.rdL⟩
  obtain ⟨b', off', e', _⟩ := h2 (by show 0 < 79; omega)
  rw [e] at e'; cases e'
/-- what the blocks of a parity tape say -/
def says (rows : List Tx) (s : Rc.S) : List (Int × Tx) := (1, [80]) :: rows.map (fun b => ((6 : Int), b)) ++ [(5, Rc.sput s)]
/-- units are answered -/
def UnitsG (l : List (Int × Tx)) (w : World) (e : Ending) (w' : World) : Prop := ∃ v us, e = .returned v ∧ us.map Ux.pair = l ∧ UnitI w v us w'
theorem first_unit (w w1 wb : World) (h1 : w1 = w.alloc (.cells #[.int .u8 80] 5 (1, 2))) (hb : wb = w1.alloc (.cells #[.int .i64 1, .int .i64 0, .int .i64 0, .slice (some ⟨w.heap.size, 0, none⟩) 1 1] 46)) (W : World) (hW : Below W.heap.size W w) :
    UnitI W (.slice (some ⟨w.heap.size + 1, 0, none⟩) 1 1) [⟨1, [80], some ⟨w.heap.size, 0, none⟩, 1⟩] wb := by
  have hs : w1.heap.size = w.heap.size + 1 := by rw [h1]; simp
  have c1 : w1.heap[w.heap.size]? = some (.cells #[.int .u8 80] 5 (1, 2)) := by rw [h1]; exact Go.Deep.blk_alloc_new _ _
  have c2 : wb.heap[w.heap.size]? = some (.cells #[.int .u8 80] 5 (1, 2)) := by rw [hb]; exact (Below.heap_alloc _ _ _ (heap_lt c1)).trans c1
  have c3 : wb.heap[w.heap.size + 1]? = some (.cells #[.int .i64 1, .int .i64 0, .int .i64 0, .slice (some ⟨w.heap.size, 0, none⟩) 1 1] 46) := by
    rw [hb, ← hs]; exact Go.Deep.blk_alloc_new _ _
  have hb1 : Below W.heap.size W w1 := by rw [h1]; exact hW.alloc hW.size _
  refine ⟨Enc.Own.one (E := encY) (x := ⟨1, [80], some ⟨w.heap.size, 0, none⟩, 1⟩) c3 (by have := hW.size; omega), fun u hu => ?_, ?_⟩
  · rw [List.mem_singleton.1 hu]
    refine ⟨(fun e => by cases e), fun _ => ⟨_, 0, rfl, fun e => ?_, fun j hj => ?_⟩⟩
    · simp [Value.ownBlock] at e
    · have h0 : j = 0 := by simpa using hj
      subst h0
      rw [heap_cell c2]; rfl
  · rw [hb]; exact hb1.alloc hb1.size _
set_option maxRecDepth 100000 in
set_option maxHeartbeats 4000000 in
theorem units_any (A : Option Addr) (rows : List Tx) (n C : Nat) (G : Nat → Prop) (x : Sx) (w : World) (hn : n = rows.length) (hm : n ≤ 1000000) (hr : RdW w A rows G) (hx : x.Ok w (fun _ => True)) :
    Calls Tryz.prog 22 #[.slice A n C, .agg #[.int .i64 x.s.number, .int .i64 x.s.index, .int .i64 x.s.data, .int .i64 x.s.parity, .slice x.A x.s.labels.length x.C]] w (UnitsG (says rows x.s) w) := by
  obtain ⟨⟨sn, si, sd, sp, sl⟩, sA, sC⟩ := x
  dsimp only at hx ⊢
  obtain ⟨m, hm'⟩ : ∃ m, m = sl.length := ⟨_, rfl⟩
  rw [← hm']
  obtain ⟨wa, hwa⟩ : ∃ wa, wa = w.alloc (sealObj sn si sd sp sA m sC) := ⟨_, rfl⟩
  have hba : Below w.heap.size w wa := by rw [hwa]; exact (Below.refl _ _).alloc (Nat.le_refl _) _
  have hSa : wa.heap[w.heap.size]? = some (sealObj sn si sd sp sA m sC) := by rw [hwa]; exact Go.Deep.blk_alloc_new _ _
  obtain ⟨w1, hw1⟩ : ∃ w1, w1 = wa.alloc (.cells #[.int .u8 80] 5 (1, 2)) := ⟨_, rfl⟩
  obtain ⟨wb, hwb⟩ : ∃ wb, wb = w1.alloc (.cells #[.int .i64 1, .int .i64 0, .int .i64 0, .slice (some ⟨wa.heap.size, 0, none⟩) 1 1] 46) := ⟨_, rfl⟩
  have hU := first_unit wa w1 wb hw1 hwb w hba
  have hb1 : Below wa.heap.size wa w1 := by rw [hw1]; exact (Below.refl _ _).alloc (Nat.le_refl _) _
  have hbb : Below wa.heap.size wa wb := by rw [hwb]; exact hb1.alloc hb1.size _
  have hsz : wa.heap.size = w.heap.size + 1 := by rw [hwa]; simp
  rw [hsz] at hU
  have HU := Lib.hid hU
  have HS := Lib.hid (below_obj hbb hSa)
  have HR := Lib.hid hr
  have HN := Lib.hid hn
  have HLT : Hid (w.heap.size < wb.heap.size) := Lib.hid (heap_lt (below_obj hbb hSa))
  have HSB : Hid (∀ y, Below w.heap.size w y → Calls Tryz.prog 54 #[.agg #[.int .i64 sn, .int .i64 si, .int .i64 sd, .int .i64 sp, .slice sA m sC]] y (AnsT (Rc.sput ⟨sn, si, sd, sp, sl⟩) y)) := Lib.hid fun y hy =>
    sealBytes_any sn si sd sp sA sl m sC (fun _ => True) y hm' (by rw [hm']; exact hx.le) hx.max (hx.rd.old hy)
  have HW : Hid (wb = ((w.alloc (.cells #[.int .i64 sn, .int .i64 si, .int .i64 sd, .int .i64 sp, .slice sA m sC] 38)).alloc (.cells #[.int .u8 80] 5 (1, 2))).alloc (.cells #[.int .i64 1, .int .i64 0, .int .i64 0, .slice (some ⟨w.heap.size + 1, 0, none⟩) 1 1] 46)) := Lib.hid (by rw [hwb, hw1, hsz, hwa]; rfl)
  clear hr hn hx hwa hba hSa hw1 hwb hU hb1 hbb hsz hm'
  have kc := Go.Joins.run_convert_bytes_const_at (P := Tryz.prog) (w.alloc (sealObj sn si sd sp sA m sC)) 42 5 #[.int .u8 80] 1 1 (w.heap.size + 1) (by simp) Tryz.underlying42 Tryz.underlying5
  simp only [List.size_toArray, List.length_cons, List.length_nil, Nat.zero_add, Nat.reduceAdd] at kc
  unfold sealObj at kc
  go_enter Tryz.func22, Tryz.ntmps22
  go_wp2
  rw [← HW.out]
  clear kc
  go_loopw [14, 5] (fun vi v wr => ∃ (i : Nat) (us : List Ux), i ≤ n ∧ vi = .int .i64 (i : Int) ∧ us.length ≤ i + 1 ∧ Hid (UnitI w v us wr) ∧ Hid (us.map Ux.pair = (1, [80]) :: (rows.take i).map (fun b => ((6 : Int), b))) ∧ Hid (wr.heap[w.heap.size]? = some (sealObj sn si sd sp sA m sC))) (fun vi _ _ => n - (intOf vi).toNat)
  case atStart => exact ⟨0, _, Nat.zero_le _, rfl, Nat.le_refl _, HU, Lib.hid rfl, HS⟩
  case round =>
    obtain ⟨i, us, hi, rfl, hlen, HI, HM, HSW⟩ := hrel
    obtain ⟨v, rfl⟩ : ∃ v, v = u5 := ⟨u5, rfl⟩
    have hne : v.ownBlock ≠ some w.heap.size := fun e => by
      obtain ⟨c, hc⟩ := HI.out.own.block _ e
      rw [HSW.out] at hc
      unfold sealObj at hc
      injection hc with hc
      injection hc with _ e2
      exact absurd e2 (by decide)
    have HNE := Lib.hid hne
    clear hne
    by_cases hlt : i < n
    · have e0 : decide (i < n) = true := decide_eq_true hlt
      have hlt' : i < rows.length := by rw [← HN.out]; exact hlt
      obtain ⟨b, off, A', C', rfl, -, c0, hA', hr'⟩ := (HR.out.in_.old HI.out.bel).at_ hlt'
      have HM2 : Hid ((1, [80]) :: (rows.take (i + 1)).map (fun b => ((6 : Int), b)) = ((1, [80]) :: (rows.take i).map (fun b => ((6 : Int), b))) ++ [(6, rows[i])]) := Lib.hid (by
        rw [List.take_succ_eq_append_getElem hlt', List.map_append, List.cons_append]; rfl)
      obtain ⟨r, hr⟩ : ∃ r, r = rows[i] := ⟨_, rfl⟩
      rw [← hr] at c0 hA' hr' HM2
      obtain ⟨k, hk⟩ : ∃ k, k = r.length := ⟨_, rfl⟩
      rw [← hk] at c0
      have HK := Lib.hid hk
      have HUX : Hid (Ux.Ok ⟨6, r, A', C'⟩ wr (fun b => v.ownBlock ≠ some b)) := Lib.hid ⟨hA', hr'.mono fun x hx e => by have := (HI.out.own.lt x e).1; omega⟩
      have HM3 : Hid ((us ++ [(⟨6, r, A', C'⟩ : Ux)]).map Ux.pair = (1, [80]) :: (rows.take (i + 1)).map (fun b => ((6 : Int), b))) := Lib.hid (by
        rw [HM2.out, List.map_append, HM.out]; rfl)
      have HOB := Lib.hid (HI.out.own.old (w' := wr.alloc (.cells (Ux.enc ⟨6, r, A', C'⟩).toArray 46)) ((Below.refl _ _).alloc (Nat.le_refl _) _))
      have HNEW := Lib.hid (newCellsAt wr (Ux.enc ⟨6, r, A', C'⟩) 46 wr.heap.size rfl)
      have HIQ := HI
      unfold Ux.enc at HOB HNEW
      dsimp only at HOB HNEW
      rw [← HK.out] at HOB HNEW
      clear hr hk hA' hr' HM2
      go_wp2_with (at_builtin; refine wpList_append_stL encY _ rfl _ _ _ rfl w.heap.size 46 _ 48 Tryz.underlying58 infoUnit rfl _ us rfl HOB.out ⟨wr.heap.size, 0, none⟩ 1 1 [(⟨6, r, A', C'⟩ : Ux)] rfl rfl (by decide) (by rw [Enc.cells_one]; show ∀ j u, (Ux.enc _)[j]? = some u → _; unfold Ux.enc; dsimp only; rw [← HK.out]; exact HNEW.out) (by unfold maxLen; omega) (by omega) (by have := HIQ.out.bel.size; simp; omega) (wr.heap.size + 1) (by simp) ?_; intro g cap w3 hO3 hg3 hat3 _; have HI3 := Lib.hid (HIQ.out.push (x := ⟨6, r, A', C'⟩) HUX.out hO3 hg3 hat3); have HS3 : Hid (w3.heap[w.heap.size]? = some (sealObj sn si sd sp sA m sC)) := Lib.hid ((hg3.block _ (by have := heap_lt HSW.out; simp; omega) (fun e => HNE.out e.symm)).trans ((Below.heap_alloc _ _ _ (heap_lt HSW.out)).trans HSW.out)); clear hO3 hg3 hat3)
      go_wp2
      go_roundw
      case rel => exact ⟨i + 1, _, by omega, by go_num, by simp; omega, HI3, HM3, HS3⟩
      case measure => simp [intOf]; omega
    · have e0 : decide (i < n) = false := decide_eq_false hlt
      have HM2 : Hid (us.map Ux.pair = (1, [80]) :: rows.map (fun b => ((6 : Int), b))) := Lib.hid (by
        have h := HM.out
        rwa [List.take_of_length_le (by rw [← HN.out]; omega)] at h)
      obtain ⟨x0, x1, x2, x3, x4⟩ := seal5 HSW.out
      have HCL := Lib.hid (HSB.out wr HI.out.bel)
      obtain ⟨sb, hsb⟩ : ∃ sb, sb = Rc.sput ⟨sn, si, sd, sp, sl⟩ := ⟨_, rfl⟩
      have HFIN : Hid (says rows ⟨sn, si, sd, sp, sl⟩ = us.map Ux.pair ++ [(5, sb)]) := Lib.hid (by rw [HM2.out, hsb]; rfl)
      rw [← hsb] at HCL
      clear hsb
      go_wp2_with fail
      refine HCL.out.mono ?_
      rintro e w2 ⟨A2, k, C2, rfl, hk, -, -, hA2, hr2, hb2⟩
      have HIQ := Lib.hid (HI.out.old hb2)
      have HUX : Hid (Ux.Ok ⟨5, sb, A2, C2⟩ w2 (fun b => v.ownBlock ≠ some b)) := Lib.hid ⟨fun e => by rw [← hk]; exact hA2 e, hr2.mono fun x hx e => by have h1 := (HI.out.own.lt x e).2; have h2 : wr.heap.size ≤ x := hx; omega⟩
      have HK := Lib.hid hk
      have HOB := Lib.hid (HIQ.out.own.old (w' := w2.alloc (.cells (Ux.enc ⟨5, sb, A2, C2⟩).toArray 46)) ((Below.refl _ _).alloc (Nat.le_refl _) _))
      have HNEW := Lib.hid (newCellsAt w2 (Ux.enc ⟨5, sb, A2, C2⟩) 46 w2.heap.size rfl)
      unfold Ux.enc at HOB HNEW
      dsimp only at HOB HNEW
      rw [← HK.out] at HOB HNEW
      clear hb2 hA2 hr2 hk x0 x1 x2 x3 x4
      go_wp2_with (at_builtin; refine wpList_append_stL encY _ rfl _ _ _ rfl w.heap.size 46 _ 48 Tryz.underlying58 infoUnit rfl _ us rfl HOB.out ⟨w2.heap.size, 0, none⟩ 1 1 [(⟨5, sb, A2, C2⟩ : Ux)] rfl rfl (by decide) (by rw [Enc.cells_one]; show ∀ j u, (Ux.enc _)[j]? = some u → _; unfold Ux.enc; dsimp only; rw [← HK.out]; exact HNEW.out) (by unfold maxLen; omega) (by omega) (by have := HIQ.out.bel.size; simp; omega) (w2.heap.size + 1) (by simp) ?_; intro g cap w3 hO3 hg3 hat3 _; have HI3 := Lib.hid (HIQ.out.push (x := ⟨5, sb, A2, C2⟩) HUX.out hO3 hg3 hat3);  clear hO3 hg3 hat3)
      go_wp2
      go_ret
      exact ⟨_, _, rfl, by rw [List.map_append, HFIN.out]; rfl, HI3.out⟩
end Go.Proofs.YtfkoomldncfdnaaGreat
namespace Go.Proofs.YtfkoomldncfdnaaGreat
open Go.RowKit
open Pt (Tx)

/-- what Put answers: the block and the error -/
def PutU (u : Fm.U) (w : World) (e : Ending) (w' : World) : Prop :=
  ∃ A n C, e = .returned (.tuple #[.slice A n C, .int .i64 (Fm.err u)]) ∧ n = (Fm.put u).length ∧ n ≤ C ∧ C ≤ maxLen ∧ (A = none → n = 0 ∧ C = 0) ∧ RdL w' A (Fm.put u) (w.heap.size ≤ ·) ∧ Below w.heap.size w w'
set_option maxRecDepth 100000 in
theorem below_unit {k lb nb : Int} {A : Option Addr} {m C : Nat} {B : Nat} {x y : World} (hb : Below x.heap.size x y) (h : x.heap[B]? = some (unitObj k lb nb A m C)) : y.heap[B]? = some (unitObj k lb nb A m C) :=
  (hb.block B (heap_lt h)).trans h
set_option maxRecDepth 100000 in
theorem put_bad (k lb nb : Int) (A : Option Addr) (s : Tx) (m C : Nat) (w : World) (er : Int) (h0 : er = 1 ∨ er = 4) (he : Fm.err ⟨k, lb, nb, s⟩ = er)
    (hc : ∀ w, Calls Tryz.prog 77 #[.agg #[.int .i64 k, .int .i64 lb, .int .i64 nb, .slice A m C]] w (Checked 0 er w)) :
    Calls Tryz.prog 53 #[.agg #[.int .i64 k, .int .i64 lb, .int .i64 nb, .slice A m C]] w (PutU ⟨k, lb, nb, s⟩ w) := by
  have HB : Hid (Below w.heap.size w (w.alloc (unitObj k lb nb A m C))) := Lib.hid ((Below.refl _ _).alloc (Nat.le_refl _) _)
  obtain ⟨a0, a1, a2, a3⟩ := unit4 (Go.Deep.blk_alloc_new w (unitObj k lb nb A m C))
  unfold unitObj at a0 a1 a2 a3
  have HE := Lib.hid he
  have hp : Fm.put ⟨k, lb, nb, s⟩ = [] := Fm.put_no (fun h => by rw [Fm.err_ok h] at he; omega)
  have HP := Lib.hid hp
  have HC := Lib.hid hc
  clear he hp hc
  rcases h0 with rfl | rfl
  all_goals
    go_enter Tryz.func53, Tryz.ntmps53
    go_wp2_with fail
    refine (HC.out _).mono ?_
    rintro e w1 ⟨rfl, hb⟩
    have HB1 := Lib.hid (HB.out.trans (hb.mono HB.out.size))
    clear hb a0 a1 a2 a3
    go_wp2
    go_ret2
    refine ⟨none, 0, 0, by rw [HE.out]; rfl, by rw [HP.out]; rfl, Nat.le_refl _, by decide, fun _ => ⟨rfl, rfl⟩, by rw [HP.out]; exact RdL.empty _ _ _, HB1.out⟩
set_option maxRecDepth 100000 in
set_option maxHeartbeats 2000000 in
theorem put_good (k lb nb : Int) (A : Option Addr) (s : Tx) (m C : Nat) (G : Nat → Prop) (w : World) (hm : m = s.length) (hA : A = none → m = 0 ∧ C = 0) (hr : RdL w A s G) (hok : Fm.Ok ⟨k, lb, nb, s⟩) :
    Calls Tryz.prog 53 #[.agg #[.int .i64 k, .int .i64 lb, .int .i64 nb, .slice A m C]] w (PutU ⟨k, lb, nb, s⟩ w) := by
  obtain ⟨a0, a1, a2, a3⟩ := unit4 (Go.Deep.blk_alloc_new w (unitObj k lb nb A m C))
  have HB : Hid (Below w.heap.size w (w.alloc (unitObj k lb nb A m C))) := Lib.hid ((Below.refl _ _).alloc (Nat.le_refl _) _)
  have HU : Hid ((w.alloc (unitObj k lb nb A m C)).heap[w.heap.size]? = some (unitObj k lb nb A m C)) := Lib.hid (Go.Deep.blk_alloc_new _ _)
  have HK := Lib.hid hok
  have hroom : m ≤ Fm.room k := by rw [hm]; exact hok.2
  have hr79 := Fm.room_le k
  obtain ⟨R, hR⟩ : ∃ R, R = Fm.room k := ⟨_, rfl⟩
  have hchk := fun w => check_ok k lb nb A m C w ⟨hok.1.1, hok.1.2.1⟩ ⟨hok.1.2.2.1, hok.1.2.2.2.1, hok.1.2.2.2.2.1, hok.1.2.2.2.2.2⟩ hroom
  rw [← hR] at hchk hroom hr79
  have HC := Lib.hid hchk
  have HR := Lib.hid hr
  have HM := Lib.hid hm
  have HA := Lib.hid hA
  have HRM := Lib.hid hR
  have hsub : (R : Int) - (m : Int) = ((R - m : Nat) : Int) := by omega
  clear hok hm hA hr hR hchk
  unfold unitObj at a0 a1 a2 a3
  go_enter Tryz.func53, Tryz.ntmps53
  go_wp2_with fail
  refine (HC.out _).mono ?_
  rintro e w1 ⟨rfl, hb⟩
  have HB1 := Lib.hid (HB.out.trans (hb.mono HB.out.size))
  have HU1 := Lib.hid (below_unit hb HU.out)
  clear hb a0 a1 a2 a3 HU HB HC
  obtain ⟨a0, a1, a2, a3⟩ := unit4 HU1.out
  have hlt : w.heap.size < w1.heap.size := heap_lt HU1.out
  have hbel : Below w1.heap.size w1 w1.drew := (Below.refl _ _).drew
  have d0 : w1.drew.cell? ⟨w.heap.size, 0, none⟩ = some (.int .i64 k) := a0
  have d1 : w1.drew.cell? ⟨w.heap.size, 1, none⟩ = some (.int .i64 lb) := a1
  have d2 : w1.drew.cell? ⟨w.heap.size, 2, none⟩ = some (.int .i64 nb) := a2
  have d3 : w1.drew.cell? ⟨w.heap.size, 3, none⟩ = some (.slice A m C) := a3
  go_wp2_with fail
  go_region_held3 (fun w' => w'.cell? ⟨w.heap.size, 0, none⟩ = some (.int .i64 k) ∧ w'.cell? ⟨w.heap.size, 1, none⟩ = some (.int .i64 lb) ∧ w'.cell? ⟨w.heap.size, 2, none⟩ = some (.int .i64 nb) ∧ w'.cell? ⟨w.heap.size, 3, none⟩ = some (.slice A m C) ∧ Below w1.heap.size w1 w')
    (first
      | exact ⟨f0, f1, f2, f3, hbz⟩
      | exact ⟨e0, e1, e2, e3, hbt⟩
      | exact ⟨d0, d1, d2, d3, hbel⟩)
    (first
      | (go_at_call 78; refine (head_any k lb nb A s m C w1.drew HM.out).mono ?_; rintro e wn ⟨b, n, rfl, hn, hlo, hcl, hbn⟩; have hbt : Below w1.heap.size w1 wn := hbel.trans hbn; obtain ⟨e0, e1, e2, e3⟩ := unit4 (below_unit hbt HU1.out); have hnl : n = 11 := hn; subst hnl; have hO : OwnL wn w1.heap.size (.slice (some ⟨b, 0, none⟩) 11 11) (Fm.head ⟨k, lb, nb, s⟩) := own_of_cells hcl hlo rfl (by rw [Fm.head_len]; decide); have HS : RdL wn A s (· < w.heap.size) := ((HR.out.in_.old (HB1.out.trans (hbt.mono HB1.out.size))).mono (fun _ h => h.2)); obtain ⟨A4, C4, w4, hr4, hO4, hG4⟩ := ap_run wn w1.heap.size _ _ hO A m C s _ HM.out.symm HA.out HS (by rw [Fm.head_len]; omega) hbt.size (11 + m) rfl; have hbz : Below w1.heap.size w1 w4 := hbt.grown hG4 hbt.size (fun x hx => hO.lo x hx); obtain ⟨f0, f1, f2, f3⟩ := unit4 (below_unit hbz HU1.out); clear hn hlo hcl hbn hO HS hG4)
      | (refine step_append_eq (by rfl) _ _ _ _ (by rfl) _ _ _ _ hr4 (by rfl) (by rfl) ?_))
  have HO4 := Lib.hid hO4
  have HBZ := Lib.hid hbz
  clear hO4 hbz hbt e0 e1 e2 e3 d0 d1 d2 d3 a0 a1 a2 a3 hbel hr4
  have hh11 : (Fm.head ⟨k, lb, nb, s⟩ ++ s).length = 11 + m := by rw [List.length_append, Fm.head_len, ← HM.out]
  obtain ⟨A5, C5, w5, hr5, hO5, hG5⟩ := apz_run w4 w1.heap.size _ _ HO4.out (by omega) (R - m) (by omega) HBZ.out.size (((R - m : Nat) : Int)) rfl (11 + R) (by omega)
  have hbz5 : Below w1.heap.size w1 w5 := HBZ.out.grown hG5 HBZ.out.size (fun x hx => HO4.out.lo x hx)
  have HB5 := Lib.hid hbz5
  have HBD : Hid (Fm.body ⟨k, lb, nb, s⟩ = Fm.head ⟨k, lb, nb, s⟩ ++ s ++ List.replicate (R - m) 0) := Lib.hid (by unfold Fm.body Fm.pad; rw [HRM.out, HM.out])
  rw [← HBD.out] at hO5
  have hl5 : (Fm.body ⟨k, lb, nb, s⟩).length = 11 + R := by rw [Fm.body_len HK.out, HRM.out]
  have HL5 := Lib.hid hl5
  have HO5 := Lib.hid hO5
  clear hO5 hG5 hbz5 hh11 hl5
  go_wp2_with (at_builtin; refine Lib.wpList_append_run _ rfl _ _ _ _ rfl _ _ rfl rfl _ _ (hr5 _) ?_)
  have HS5 := Lib.hid (RdL.mono (by obtain ⟨A', C', e, _, _, _, h⟩ := HO5.out.rd; injection e with e1 e2 e3; subst e1; exact h) (fun _ _ => trivial) : RdL w5 A5 (Fm.body ⟨k, lb, nb, s⟩) (fun _ => True))
  go_wp2_with fail
  refine (tail_any A5 (Fm.body ⟨k, lb, nb, s⟩) (11 + R) C5 _ w5 HL5.out.symm (by rw [HL5.out]; omega) HS5.out).mono ?_
  rintro e w6 ⟨b6, n6, rfl, hn6, hlo6, hcl6, hb6⟩
  have hn6' : n6 = 4 := hn6
  subst hn6'
  have hbz6 : Below w1.heap.size w1 w6 := HB5.out.trans (hb6.mono HB5.out.size)
  have hO6 : OwnL w6 w1.heap.size (.slice A5 (11 + R) C5) (Fm.body ⟨k, lb, nb, s⟩) := HO5.out.of_block fun x hx => hb6.block x (HO5.out.lt x hx)
  obtain ⟨A7, C7, w7, hr7, hO7, hG7⟩ := ap_run w6 w1.heap.size _ _ hO6 (some ⟨b6, 0, none⟩) 4 4 (Cd.be4 (sumL (Fm.body ⟨k, lb, nb, s⟩))) _ rfl (fun h => by cases h) (rd_of_cells hcl6) (by rw [HL5.out]; omega) hbz6.size (15 + R) (by rw [HL5.out]; omega)
  have HB7 := Lib.hid (HB1.out.trans ((hbz6.grown hG7 hbz6.size (fun x hx => hO6.lo x hx)).mono HB1.out.size))
  have HO7 := Lib.hid hO7
  have HZ7 := Lib.hid HB1.out.size
  clear hn6 hlo6 hcl6 hb6 hbz6 hO6 hO7 hG7
  go_wp2_with (at_builtin; refine Lib.wpList_append_run _ rfl _ _ _ _ rfl _ _ rfl rfl _ _ (hr7 _) ?_)
  go_ret2
  have hput : Fm.put ⟨k, lb, nb, s⟩ = Fm.body ⟨k, lb, nb, s⟩ ++ Cd.be4 (sumL (Fm.body ⟨k, lb, nb, s⟩)) := Fm.put_ok HK.out
  have hlen : (Fm.body ⟨k, lb, nb, s⟩ ++ Cd.be4 (sumL (Fm.body ⟨k, lb, nb, s⟩))).length = 15 + R := by rw [List.length_append, HL5.out, Cd.be4_len]; omega
  obtain ⟨A8, C8, e8, g1, g2, g3, g4⟩ := HO7.out.rd
  injection e8 with x1 x2 x3
  subst x1 x3
  rw [← x2] at g1 g3
  refine ⟨A7, 15 + R, C7, by rw [Fm.err_ok HK.out]; rfl, by rw [hput, hlen], g1, g2, g3, ?_, HB7.out⟩
  rw [hput]
  exact g4.mono fun x h => Nat.le_trans HZ7.out h.1
set_option maxRecDepth 100000 in
theorem framePut_any (k lb nb : Int) (A : Option Addr) (s : Tx) (m C : Nat) (G : Nat → Prop) (w : World) (hm : m = s.length) (hA : A = none → m = 0 ∧ C = 0) (hr : RdL w A s G) :
    Calls Tryz.prog 53 #[.agg #[.int .i64 k, .int .i64 lb, .int .i64 nb, .slice A m C]] w (PutU ⟨k, lb, nb, s⟩ w) := by
  by_cases ha : Fm.argOk ⟨k, lb, nb, s⟩
  · by_cases hl : Fm.room k < m
    · exact put_bad k lb nb A s m C w 4 (.inr rfl) (Fm.err_long ha (by rw [hm] at hl; exact hl)) fun w => check_long k lb nb A m C w ⟨ha.1, ha.2.1⟩ ⟨ha.2.2.1, ha.2.2.2.1, ha.2.2.2.2.1, ha.2.2.2.2.2⟩ hl
    · exact put_good k lb nb A s m C G w hm hA hr ⟨ha, by show s.length ≤ Fm.room k; omega⟩
  · refine put_bad k lb nb A s m C w 1 (.inl rfl) (Fm.err_arg ha) fun w => ?_
    by_cases hk : k < 1 ∨ 6 < k
    · exact check_kind k lb nb A m C w hk
    · refine check_arg k lb nb A m C w (by omega) ?_
      unfold Fm.argOk at ha
      simp only at ha
      omega
end Go.Proofs.YtfkoomldncfdnaaGreat
namespace Go.Proofs.YtfkoomldncfdnaaGreat
open Go.RowKit
open Pt (Tx)

/-- the slice at A of slices reads as these texts, all in blocks of G -/
def RdB (w : World) (A : Option Addr) (bs : List Tx) (G : Nat → Prop) : Prop :=
  0 < bs.length → ∃ b off, A = some ⟨b, off, none⟩ ∧ G b ∧ ∀ i (hi : i < bs.length), ∃ A' C', w.cell? ⟨b, off + i, none⟩ = some (.slice A' bs[i].length C') ∧ bs[i].length ≤ C' ∧ (A' = none → bs[i].length = 0 ∧ C' = 0) ∧ RdL w A' bs[i] G
namespace RdB
variable {w w' : World} {A : Option Addr} {bs : List Tx} {G G' S : Nat → Prop}
theorem empty (w : World) (A : Option Addr) (G : Nat → Prop) : RdB w A [] G := fun h => absurd h (by simp)
theorem keep (h : RdB w A bs G) (hk : ∀ p v, G p.block → w.cell? p = some v → w'.cell? p = some v) : RdB w' A bs G := by
  intro hn
  obtain ⟨b, off, e, hg, hc⟩ := h hn
  refine ⟨b, off, e, hg, fun i hi => ?_⟩
  obtain ⟨A', C', h1, h2, h3, h4⟩ := hc i hi
  exact ⟨A', C', hk _ _ hg h1, h2, h3, h4.keep hk⟩
theorem mono (h : RdB w A bs G) (hg : ∀ b, G b → G' b) : RdB w A bs G' := by
  intro hn
  obtain ⟨b, off, e, hg', hc⟩ := h hn
  refine ⟨b, off, e, hg _ hg', fun i hi => ?_⟩
  obtain ⟨A', C', h1, h2, h3, h4⟩ := hc i hi
  exact ⟨A', C', h1, h2, h3, h4.mono hg⟩
theorem kp (h : RdB w A bs G) (hk : Kp S w w') (hs : ∀ b, G b → ¬ S b) : RdB w' A bs G := h.keep fun _ _ hg hc => hk.cell hc (hs _ hg)
theorem old (h : RdB w A bs G) (hb : Below w.heap.size w w') : RdB w' A bs G := h.keep fun _ _ _ hc => (hb.cell (World.block_lt_of_cell? _ _ hc)).trans hc
theorem below {B : Nat} (h : RdB w A bs (· < B)) (hb : Below B w w') : RdB w' A bs (· < B) := h.keep fun _ _ hg hc => (hb.cell hg).trans hc
theorem in_ (h : RdB w A bs G) : RdB w A bs (fun b => G b ∧ b < w.heap.size) := by
  intro hn
  obtain ⟨b, off, e, hg, hc⟩ := h hn
  refine ⟨b, off, e, ⟨hg, ?_⟩, fun i hi => ?_⟩
  · obtain ⟨_, _, h1, _⟩ := hc 0 hn
    exact World.block_lt_of_cell? _ _ h1
  · obtain ⟨A', C', h1, h2, h3, h4⟩ := hc i hi
    exact ⟨A', C', h1, h2, h3, h4.in_⟩
theorem at_ (h : RdB w A bs G) {i : Nat} (hi : i < bs.length) : ∃ b off A' C', A = some ⟨b, off, none⟩ ∧ G b ∧ w.cell? ⟨b, off + i, none⟩ = some (.slice A' bs[i].length C') ∧ bs[i].length ≤ C' ∧ (A' = none → bs[i].length = 0 ∧ C' = 0) ∧ RdL w A' bs[i] G := by
  obtain ⟨b, off, e, hg, hc⟩ := h (by omega)
  obtain ⟨A', C', h1, h2, h3, h4⟩ := hc i hi
  exact ⟨b, off, A', C', e, hg, h1, h2, h3, h4⟩
end RdB
/-- a tape as the value that is handed on -/
def tape (lab cap : Int) (A : Option Addr) (n C : Nat) (lost : Bool) : Value := .agg #[.int .i64 lab, .int .i64 cap, .slice A n C, .bool lost]
end Go.Proofs.YtfkoomldncfdnaaGreat
namespace Go.Proofs.YtfkoomldncfdnaaGreat
open Go.RowKit

theorem infoRowT : (Tryz.prog.info? 42).map (fun i => (i.zero, i.size, i.bytes)) = some (some (.slice none 0 0), 1, 24) := by kernel_rfl
end Go.Proofs.YtfkoomldncfdnaaGreat
namespace Go.Proofs.YtfkoomldncfdnaaGreat
open Go.RowKit
open Pt (Tx)

/-- the blocks of what is said, from block 0 on -/
def framedL (label : Int) (l : List (Int × Tx)) : List Tx := l.mapIdx fun n u => Fm.blk ⟨u.1, label, (n : Int), u.2⟩
theorem framedL_len (label : Int) (l : List (Int × Tx)) : (framedL label l).length = l.length := List.length_mapIdx
theorem framedL_at {label : Int} {l : List (Int × Tx)} {n : Nat} (h : n < l.length) (h' : n < (framedL label l).length) : (framedL label l)[n] = Fm.blk ⟨l[n].1, label, (n : Int), l[n].2⟩ := by simp [framedL]
/-- rows are set one by one in a row of the call's own -/
structure BlksI (w : World) (g n : Nat) (bs : List Tx) (wr : World) : Prop where
  row : ∃ V, RowV wr 42 g n V ∧ ∀ i (hi : i < bs.length), ∃ A C, V i = .slice A bs[i].length C ∧ bs[i].length ≤ C ∧ (A = none → bs[i].length = 0 ∧ C = 0) ∧ RdL wr A bs[i] (fun b => w.heap.size ≤ b ∧ b ≠ g)
  lo : w.heap.size ≤ g
  bel : Below w.heap.size w wr
namespace BlksI
variable {w wr w2 : World} {g n : Nat} {bs : List Tx}
theorem start (w : World) (n : Nat) : BlksI w w.heap.size n [] (w.alloc (.cells (madeCells #[.slice none 0 0] n) 42)) :=
  ⟨⟨_, RowV.made w (.slice none 0 0) 42 n, fun i hi => absurd hi (by simp)⟩, Nat.le_refl _, (Below.refl _ _).alloc (Nat.le_refl _) _⟩
theorem old (h : BlksI w g n bs wr) (hb : Below wr.heap.size wr w2) : BlksI w g n bs w2 := by
  obtain ⟨V, hV, hr⟩ := h.row
  refine ⟨⟨V, hV.old hb, fun i hi => ?_⟩, h.lo, h.bel.trans (hb.mono h.bel.size)⟩
  obtain ⟨A, C, h1, h2, h3, h4⟩ := hr i hi
  exact ⟨A, C, h1, h2, h3, h4.old hb⟩
/-- what is as it was: all but some blocks behind the row -/
theorem kp (h : BlksI w g n bs wr) {S : Nat → Prop} (hk : Kp S wr w2) (hS : ∀ k, S k → w.heap.size ≤ k ∧ wr.heap.size ≤ k) : BlksI w g n bs w2 := by
  obtain ⟨V, hV, hr⟩ := h.row
  have hlt := hV.lt
  refine ⟨⟨V, hV.kp hk (fun e => by have := hS g e; omega), fun i hi => ?_⟩, h.lo, h.bel.trans (hk.below h.bel.size fun k e => (hS k e).1)⟩
  obtain ⟨A, C, h1, h2, h3, h4⟩ := hr i hi
  exact ⟨A, C, h1, h2, h3, (h4.in_.kp hk fun b hb e => by have := hS b e; omega).mono fun b hb => hb.1⟩
theorem cell (h : BlksI w g n bs wr) {k : Nat} (hk : k < n) : ∃ v, wr.cell? ⟨g, k, none⟩ = some v ∧ wr.frozen? ⟨g, k, none⟩ = false := by
  obtain ⟨V, hV, _⟩ := h.row
  exact ⟨V k, hV.cell hk, hV.frozen k⟩
theorem set (h : BlksI w g n bs wr) {k : Nat} (hk : k = bs.length) {s : Tx} {A : Option Addr} {C : Nat} (hC : s.length ≤ C) (hA : A = none → s.length = 0 ∧ C = 0) (hr : RdL wr A s (fun b => w.heap.size ≤ b ∧ b ≠ g)) : BlksI w g n (bs ++ [s]) (wr.setCell ⟨g, k, none⟩ (.slice A s.length C)) := by
  obtain ⟨V, hV, hrows⟩ := h.row
  have hkp : Kp (· = g) wr (wr.setCell ⟨g, k, none⟩ (.slice A s.length C)) := Kp.store _ _ _ _
  refine ⟨⟨_, hV.set k _, fun i hi => ?_⟩, h.lo, h.bel.trans (hkp.below h.bel.size fun x e => by have := h.lo; omega)⟩
  rw [List.length_append, List.length_singleton] at hi
  by_cases e : i = k
  · have e' : (bs ++ [s])[i]'(by rw [List.length_append, List.length_singleton]; exact hi) = s := by
      simp [e, hk]
    rw [e']
    refine ⟨A, C, ?_, hC, hA, hr.kp hkp fun b hb e => hb.2 e⟩
    simp [e]
  · have hi' : i < bs.length := by omega
    obtain ⟨A', C', h1, h2, h3, h4⟩ := hrows i hi'
    rw [List.getElem_append_left hi']
    refine ⟨A', C', ?_, h2, h3, h4.kp hkp fun b hb e => hb.2 e⟩
    simp only [e, if_false]; exact h1
theorem rdB (h : BlksI w g n bs wr) (hn : bs.length ≤ n) : RdB wr (some ⟨g, 0, none⟩) bs (w.heap.size ≤ ·) := fun _ => by
  obtain ⟨V, hV, hr⟩ := h.row
  refine ⟨g, 0, rfl, h.lo, fun i hi => ?_⟩
  obtain ⟨A, C, h1, h2, h3, h4⟩ := hr i hi
  exact ⟨A, C, by rw [Nat.zero_add, hV.cell (by omega), h1], h2, h3, h4.mono fun b hb => hb.1⟩
end BlksI
/-- blocks are answered, in new memory -/
def BlocksG (bs : List Tx) (w : World) (e : Ending) (w' : World) : Prop :=
  ∃ A C, e = .returned (.tuple #[.slice A bs.length C, .int .i64 0]) ∧ bs.length ≤ C ∧ C ≤ maxLen ∧ (A = none → bs.length = 0 ∧ C = 0) ∧ RdB w' A bs (w.heap.size ≤ ·) ∧ Below w.heap.size w w'
set_option maxRecDepth 100000 in
set_option maxHeartbeats 4000000 in
theorem framed_ok (label : Int) (A : Option Addr) (us : List Ux) (n C : Nat) (G : Nat → Prop) (w : World) (hn : n = us.length) (hm : n ≤ 2000000) (hr : encY.Rd w A us G) (hu : ∀ u ∈ us, u.Ok w (fun _ => True)) (hok : ∀ i (hi : i < us.length), Fm.Ok ⟨us[i].kind, label, (i : Int), us[i].s⟩) :
    Calls Tryz.prog 21 #[.int .i64 label, .slice A n C] w (BlocksG (framedL label (us.map Ux.pair)) w) := by
  obtain ⟨w0, hw0⟩ : ∃ w0, w0 = w.alloc (.cells (madeCells #[.slice none 0 0] n) 42) := ⟨_, rfl⟩
  have hmk := run_make_row' (P := Tryz.prog) 47 42 (.slice none 0 0) 24 Tryz.underlying47 infoRowT rfl .i64 .i64 n (by omega) (by omega)
  have hI0 : BlksI w w.heap.size n ((framedL label (us.map Ux.pair)).take 0) w0 := by rw [hw0]; exact BlksI.start w n
  have HI0 := Lib.hid hI0
  have HR := Lib.hid hr
  have HU := Lib.hid hu
  have HOK := Lib.hid hok
  have HN := Lib.hid hn
  have HW := Lib.hid hw0
  have HFL : Hid ((framedL label (us.map Ux.pair)).length = n) := Lib.hid (by rw [framedL_len, List.length_map, hn])
  clear hI0 hr hu hok hn hw0
  go_enter Tryz.func21, Tryz.ntmps21
  go_wp2
  rw [← HW.out]
  clear hmk
  obtain ⟨gB, hgB⟩ : ∃ gB, gB = w.heap.size := ⟨_, rfl⟩
  rw [← hgB] at HI0
  have HGB := Lib.hid hgB
  rw [← hgB]
  clear hgB
  go_loopw [16] (fun vi wr => ∃ k : Nat, k ≤ n ∧ vi = .int .i64 (k : Int) ∧ Hid (BlksI w gB n ((framedL label (us.map Ux.pair)).take k) wr)) (fun vi _ => n - (intOf vi).toNat)
  case atStart => exact ⟨0, Nat.zero_le _, rfl, HI0⟩
  case round =>
    obtain ⟨k, hk, rfl, HI⟩ := hrel
    by_cases hlt : k < n
    · have e0 : decide (k < n) = true := decide_eq_true hlt
      have hlt' : k < us.length := by rw [← HN.out]; exact hlt
      obtain ⟨b, off, rfl, -, hc⟩ := (HR.out.old HI.out.bel).at_ hlt'
      have hux := HU.out _ (List.getElem_mem hlt')
      have hokk := HOK.out k hlt'
      have hfk : (framedL label (us.map Ux.pair)).take (k + 1) = (framedL label (us.map Ux.pair)).take k ++ [Fm.blk ⟨us[k].kind, label, (k : Int), us[k].s⟩] := by
        rw [List.take_succ_eq_append_getElem (by rw [HFL.out]; exact hlt), framedL_at (by rw [List.length_map]; exact hlt')]
        simp [Ux.pair]
      obtain ⟨⟨uk, s, uA, uC⟩, hu⟩ : ∃ u, u = us[k] := ⟨_, rfl⟩
      rw [← hu] at hc hux hokk hfk
      dsimp only at hokk hfk
      obtain ⟨m, hm'⟩ : ∃ m, m = s.length := ⟨_, rfl⟩
      have c0 : wr.cell? ⟨b, off + k * 4, none⟩ = some (.int .i64 uk) := hc 0 _ rfl
      have c1 : wr.cell? ⟨b, off + k * 4 + 1, none⟩ = some (.int .i64 0) := hc 1 _ rfl
      have c2 : wr.cell? ⟨b, off + k * 4 + 2, none⟩ = some (.int .i64 0) := hc 2 _ rfl
      have c3 : wr.cell? ⟨b, off + k * 4 + 3, none⟩ = some (.slice uA m uC) := by rw [hm']; exact hc 3 _ rfl
      obtain ⟨wb, hwb⟩ : ∃ wb, wb = wr.alloc (unitObj uk label (k : Int) uA m uC) := ⟨_, rfl⟩
      have hbb : Below wr.heap.size wr wb := by rw [hwb]; exact (Below.refl _ _).alloc (Nat.le_refl _) _
      have HIB := Lib.hid (HI.out.old hbb)
      have hput := framePut_any uk label (k : Int) uA s m uC (fun _ => True) wb hm' (by rw [hm']; exact hux.nil) ((hux.rd.old HI.out.bel).old hbb)
      unfold PutU at hput
      rw [Fm.err_ok hokk, Fm.put_ok hokk] at hput
      obtain ⟨bl, hbl⟩ : ∃ bl, bl = Fm.blk ⟨uk, label, (k : Int), s⟩ := ⟨_, rfl⟩
      rw [← hbl] at hput hfk
      have HP := Lib.hid hput
      have HFK := Lib.hid hfk
      have HKL : Hid (k = ((framedL label (us.map Ux.pair)).take k).length) := Lib.hid (by rw [List.length_take, HFL.out]; omega)
      have HWB := Lib.hid hwb
      unfold unitObj at HWB
      clear hu hc hux hokk hfk hm' hwb hbb hput hbl
      have hlo : gB < wr.heap.size := by
        obtain ⟨V, hV, _⟩ := HI.out.row
        exact hV.lt
      have hlo2 : wr.heap.size ≤ wb.heap.size := by rw [HWB.out]; simp
      go_wp2_with fail
      rw [← HWB.out]
      refine HP.out.mono ?_
      rintro e w2 ⟨A2, m2, C2, rfl, hm2, hc2, -, hA2, hr2, hb2⟩
      have hI2 := HIB.out.old hb2
      obtain ⟨cv, d0, d1⟩ := hI2.cell hlt
      have hset := hI2.set HKL.out (s := bl) (A := A2) (C := C2) (by rw [← hm2]; exact hc2) (fun e => by rw [← hm2]; exact hA2 e) (hr2.mono fun x hx => by
        have h1 : wb.heap.size ≤ x := hx
        have h2 := HI.out.bel.size
        omega)
      rw [← HFK.out, ← hm2] at hset
      have HSET := Lib.hid hset
      clear hI2 hset hm2 hc2 hA2 hr2 hb2 c0 c1 c2 c3
      go_wp2
      go_roundw
      case rel => exact ⟨k + 1, by omega, by go_num, HSET⟩
      case measure => simp [intOf]; omega
    · have e0 : decide (k < n) = false := decide_eq_false hlt
      have hI := HI.out
      rw [List.take_of_length_le (by rw [HFL.out]; omega)] at hI
      have HIE := Lib.hid hI
      clear hI
      go_wp2
      go_ret2
      exact ⟨some ⟨gB, 0, none⟩, n, by rw [HFL.out]; rfl, by rw [HFL.out]; exact Nat.le_refl _, by unfold maxLen; omega, (fun e => by cases e), HIE.out.rdB (by rw [HFL.out]; exact Nat.le_refl _), HIE.out.bel⟩
end Go.Proofs.YtfkoomldncfdnaaGreat
namespace Go.Proofs.YtfkoomldncfdnaaGreat
open Go.RowKit

/-- a tape in a block -/
def tapeObj (lab cap : Int) (A : Option Addr) (n C : Nat) (lost : Bool) : Obj := .cells #[.int .i64 lab, .int .i64 cap, .slice A n C, .bool lost] 49
theorem tape4 {w : World} {g : Nat} {lab cap : Int} {A : Option Addr} {n C : Nat} {lost : Bool} (h : w.heap[g]? = some (tapeObj lab cap A n C lost)) :
    w.cell? ⟨g, 0, none⟩ = some (.int .i64 lab) ∧ w.cell? ⟨g, 1, none⟩ = some (.int .i64 cap) ∧ w.cell? ⟨g, 2, none⟩ = some (.slice A n C) ∧ w.cell? ⟨g, 3, none⟩ = some (.bool lost) := ⟨heap_cell h, heap_cell h, heap_cell h, heap_cell h⟩
theorem below_tape {lab cap : Int} {A : Option Addr} {n C : Nat} {lost : Bool} {B : Nat} {x y : World} (hb : Below x.heap.size x y) (h : x.heap[B]? = some (tapeObj lab cap A n C lost)) : y.heap[B]? = some (tapeObj lab cap A n C lost) :=
  (hb.block B (heap_lt h)).trans h
theorem tape_new (w : World) (lab cap : Int) (A : Option Addr) (n C : Nat) (lost : Bool) : Below w.heap.size w (w.alloc (tapeObj lab cap A n C lost)) ∧ (w.alloc (tapeObj lab cap A n C lost)).heap[w.heap.size]? = some (tapeObj lab cap A n C lost) :=
  ⟨(Below.refl _ _).alloc (Nat.le_refl _) _, Go.Deep.blk_alloc_new _ _⟩
end Go.Proofs.YtfkoomldncfdnaaGreat
namespace Go.Proofs.YtfkoomldncfdnaaGreat
open Go.RowKit
open Pt (Tx)

theorem or_byte (a c : Nat) (ha : a < 1099511627776) (hc : c < 256) : bits .or .i64 ((a : Int) * 256) (c : Int) = (a : Int) * 256 + (c : Int) := by
  show IntKind.i64.wrap ((BitVec.ofInt 64 ((a : Int) * 256) ||| BitVec.ofInt 64 (c : Int)).toNat : Int) = _
  have e1 : ((a : Int) * 256) = ((a * 256 : Nat) : Int) := by omega
  rw [e1, BitVec.ofInt_natCast, BitVec.ofInt_natCast, BitVec.toNat_or, BitVec.toNat_ofNat, BitVec.toNat_ofNat, Nat.mod_eq_of_lt (by omega), Nat.mod_eq_of_lt (by omega)]
  have h2 : a * 256 ||| c = a * 256 + c := by
    have := Nat.shiftLeft_add_eq_or_of_lt (i := 8) (b := c) (by omega) a
    rw [Nat.shiftLeft_eq, show (2 : Nat) ^ 8 = 256 from rfl] at this
    exact this.symm
  rw [h2, IntKind.wrap_i64]
  omega
theorem OwnL.lit0 (w : World) (base : Nat) (hb : base ≤ w.heap.size) : OwnL (w.alloc (.cells #[] 5)) base (.slice (some ⟨w.heap.size, 0, none⟩) 0 0) [] :=
  ⟨rfl, .inr ⟨w.heap.size, 0, #[], rfl, hb, Go.Deep.blk_alloc_new _ _, Nat.le_refl _, by decide, rfl, rfl⟩⟩
/-- bytes that are there now, in new memory -/
def AnsL (l : Tx) (w : World) (e : Ending) (w' : World) : Prop := ∃ A C, e = .returned (.slice A l.length C) ∧ l.length ≤ C ∧ (A = none → l.length = 0 ∧ C = 0) ∧ RdL w' A l (w.heap.size ≤ ·) ∧ Below w.heap.size w w'
theorem clone_any (A : Option Addr) (l : Tx) (c : Nat) (G : Nat → Prop) (w : World) (hA : A = none → l.length = 0 ∧ c = 0) (hr : RdL w A l G) (hl : l.length ≤ 1000000000) :
    Calls Tryz.prog 107 #[.slice A l.length c] w (AnsL l w) := by
  cases A with
  | none =>
    obtain ⟨h0, rfl⟩ := hA rfl
    have hl0 : l = [] := List.length_eq_zero_iff.1 h0
    subst hl0
    have hq := Lib.run_eql_slice_nil (P := Tryz.prog) w 42 5 none 0 0 0 0 Tryz.underlying42
    go_enter Tryz.func107, Tryz.ntmps107
    go_wp2
    go_ret
    exact ⟨none, 0, rfl, Nat.le_refl _, fun _ => ⟨rfl, rfl⟩, RdL.empty _ _ _, Below.refl _ _⟩
  | some a =>
    have hq := Lib.run_eql_slice_nil (P := Tryz.prog) w 42 5 (some a) l.length c 0 0 Tryz.underlying42
    go_enter Tryz.func107, Tryz.ntmps107
    go_wp2_with (at_builtin; refine wpList_append_bl _ rfl _ _ rfl w.heap.size _ [] rfl (OwnL.lit0 w _ (Nat.le_refl _)) (some a) l.length c l G rfl rfl (fun h => by cases h) (hr.old ((Below.refl _ _).alloc (Nat.le_refl _) _)) (by simp; omega) (by simp) ?_; intro v' w' hv hg; have HV := Lib.hid hv; have HG := Lib.hid hg; clear hv hg)
    go_ret
    have hv : OwnL w' w.heap.size v' l := HV.out
    obtain ⟨A', C', rfl, h1, -, h2, h3⟩ := hv.rd
    exact ⟨A', C', rfl, h1, h2, h3.mono (fun b h => h.1), ((Below.refl _ _).alloc (Nat.le_refl _) _).grown HG.out (by simp) (fun k h => by cases h; exact Nat.le_refl _)⟩
/-- a new Reader -/
def NewR (l : Tx) (w : World) (e : Ending) (w' : World) : Prop := ∃ g, e = .returned (.pointer (some ⟨g, 0, none⟩)) ∧ w.heap.size ≤ g ∧ Rr w' g (l, false) (fun b => w.heap.size ≤ b ∧ b < g) ∧ Below w.heap.size w w'
theorem newReader_any (A : Option Addr) (l : Tx) (c : Nat) (G : Nat → Prop) (w : World) (hA : A = none → l.length = 0 ∧ c = 0) (hr : RdL w A l G) (hl : l.length ≤ 1000000000) :
    Calls Tryz.prog 92 #[.slice A l.length c] w (NewR l w) := by
  go_enter Tryz.func92, Tryz.ntmps92
  go_wp2_with (go_at_call 107; refine (clone_any A l c G w hA hr hl).mono ?_; rintro e w' ⟨A', C', rfl, h1, h2, h3, h4⟩; have H2 := Lib.hid h2; clear h2)
  go_ret
  refine ⟨w'.heap.size, rfl, h4.size, ⟨⟨A', C', Go.Deep.blk_alloc_new _ _, h1, H2.out, ?_⟩, fun h => by have := h.2; omega⟩, h4.alloc h4.size _⟩
  exact (h3.in_.old ((Below.refl _ _).alloc (Nat.le_refl _) _)).mono fun b h => h
/-- a Reader whose slice is set -/
theorem Rr.set {w : World} {g : Nat} {v : Value} {bad : Bool} {G : Nat → Prop} (h1 : w.heap[g]? = some (.cells #[v, .bool bad] 149 (0, 0))) {A : Option Addr} {c m : Nat} {l : Tx} (hm : m = l.length) (hl : l.length ≤ c) (hA : A = none → l.length = 0 ∧ c = 0) (hr : RdL w A l G) (ng : ¬ G g) :
    Rr (w.setCell ⟨g, 0, none⟩ (.slice A m c)) g (l, bad) G := by
  subst hm
  refine ⟨⟨A, c, ?_, hl, hA, hr.kp (Kp.store w g 0 _) (fun b hb e => ng (e ▸ hb))⟩, ng⟩
  rw [heap_set h1]; simp
/-- what take answered, and left -/
def Took (n g : Nat) (s : Cd.St) (G : Nat → Prop) (w : World) (e : Ending) (w' : World) : Prop := ∃ A c, e = .returned (.slice A (Cd.tk n s).length c) ∧ RdL w' A (Cd.tk n s) G ∧ Rr w' g (Cd.af n s) G ∧ Kp (· = g) w w'
set_option maxRecDepth 100000 in
theorem take_any (g n : Nat) (s : Cd.St) (G : Nat → Prop) (w : World) (h : Rr w g s G) (hl : s.1.length ≤ 1000000000) (hn : n ≤ 1000) :
    Calls Tryz.prog 108 #[.pointer (some ⟨g, 0, none⟩), .int .i64 (n : Int)] w (Took n g s G w) := by
  obtain ⟨⟨A, c, h1, h2, h3, h4⟩, ng⟩ := h
  obtain ⟨l, bad⟩ := s
  simp only at h1 h2 h3 h4 hl
  have c0 : w.cell? ⟨g, 0, none⟩ = some (.slice A l.length c) := heap_cell h1
  have c1 : w.cell? ⟨g, 1, none⟩ = some (.bool bad) := heap_cell h1
  have f0 : w.frozen? ⟨g, 0, none⟩ = false := heap_frozen h1
  have f1 : w.frozen? ⟨g, 1, none⟩ = false := heap_frozen h1
  have H1 := Lib.hid h1
  have H3 := Lib.hid h3
  have H4 := Lib.hid h4
  clear h1 h3 h4
  by_cases hlt : l.length < n
  · go_enter Tryz.func108, Tryz.ntmps108
    go_wp2
    go_ret
    refine ⟨none, 0, by rw [Cd.tk_no hlt]; rfl, by rw [Cd.tk_no hlt]; exact RdL.empty _ _ _, ?_, (((Kp.refl (· = g) w).setCell (p := ⟨g, 0, none⟩) rfl _).setCell (p := ⟨g, 1, none⟩) rfl _)⟩
    rw [Cd.af_no hlt]
    refine ⟨⟨none, 0, ?_, Nat.le_refl _, fun _ => ⟨rfl, rfl⟩, RdL.empty _ _ _⟩, ng⟩
    rw [heap_set (heap_set H1.out _)]; simp
  · by_cases h0 : n = 0
    · subst h0
      go_enter Tryz.func108, Tryz.ntmps108
      go_wp2
      go_ret
      have ht : Cd.tk 0 (l, bad) = [] := by rw [Cd.tk_yes hlt]; rfl
      have ha : Cd.af 0 (l, bad) = (l, bad) := by rw [Cd.af_yes hlt]; rfl
      refine ⟨A, c, by rw [ht]; rfl, by rw [ht]; exact RdL.empty _ _ _, ?_, Kp.store w g 0 _⟩
      rw [ha]
      exact Rr.set H1.out rfl h2 H3.out H4.out ng
    · obtain ⟨b, off, rfl, hb, -⟩ := H4.out (by omega)
      have hmin : (l.take n).length = n := by simp; omega
      have ht : Cd.tk n (l, bad) = l.take n := Cd.tk_yes hlt
      have ha : Cd.af n (l, bad) = (l.drop n, bad) := Cd.af_yes hlt
      have HT := Lib.hid ht
      have HA := Lib.hid ha
      have HM := Lib.hid hmin
      clear ht ha hmin
      by_cases hc : c = n
      · subst hc
        have hll : c = l.length := by omega
        have HLL := Lib.hid hll
        clear hll
        have q1 : (c : Int) ≤ (l.length : Int) := by omega
        go_enter Tryz.func108, Tryz.ntmps108
        go_wp2
        go_ret
        have hd : (l.drop c).length = 0 := by have := HLL.out; simp; omega
        refine ⟨some ⟨b, off, none⟩, c, by rw [HT.out, HM.out]; rfl, by rw [HT.out]; exact (H4.out.take _).kp (Kp.store w g 0 _) (fun x hx e => ng (e ▸ hx)), ?_, Kp.store w g 0 _⟩
        rw [HA.out]
        exact Rr.set H1.out hd.symm (by omega) (fun h => by cases h) (fun h => by omega) ng
      · have q1 : n ≤ l.length := by omega
        have q2 : n ≤ c := by omega
        have q3 : ¬ n = c := fun h => hc h.symm
        go_enter Tryz.func108, Tryz.ntmps108
        go_wp2
        go_ret
        refine ⟨some ⟨b, off, none⟩, c, by rw [HT.out, HM.out]; rfl, by rw [HT.out]; exact (H4.out.take _).kp (Kp.store w g 0 _) (fun x hx e => ng (e ▸ hx)), ?_, Kp.store w g 0 _⟩
        rw [HA.out]
        exact Rr.set H1.out (by simp) (by simp; omega) (fun h => by cases h) (H4.out.drop n) ng
/-- the number -/
theorem take_num (l : Tx) (k : Nat) (h : k < l.length) : Cd.num (l.take (k + 1)) = Cd.num (l.take k) * 256 + (l[k].toNat : Int) := by
  rw [List.take_succ_eq_append_getElem h, Cd.num_snoc]
theorem num_small (l : Tx) (k : Nat) (hl : l.length ≤ 4) : 0 ≤ Cd.num (l.take k) ∧ Cd.num (l.take k) < 4294967296 := by
  refine ⟨Cd.num_lo _, ?_⟩
  have h := Cd.num_hi (l.take k)
  have h2 : (l.take k).length ≤ 4 := by simp; omega
  have h3 : (l.take k).length = 0 ∨ (l.take k).length = 1 ∨ (l.take k).length = 2 ∨ (l.take k).length = 3 ∨ (l.take k).length = 4 := by omega
  rcases h3 with e | e | e | e | e <;> rw [e] at h <;> simp only [Int.reducePow] at h <;> omega
set_option maxRecDepth 100000 in
theorem rint_any (g : Nat) (s : Cd.St) (G : Nat → Prop) (w : World) (h : Rr w g s G) (hl : s.1.length ≤ 1000000000) :
    Calls Tryz.prog 93 #[.pointer (some ⟨g, 0, none⟩)] w (Red (.int .i64 (Cd.num (Cd.tk 4 s))) g (Cd.af 4 s) G w) := by
  go_enter Tryz.func93, Tryz.ntmps93
  go_wp2_with (go_at_call 108; refine (take_any g 4 s G w h hl (by decide)).mono ?_; rintro e w1 ⟨A, c, rfl, hr, hR, hK⟩; have HR := Lib.hid hr; have HRR := Lib.hid hR; have HK := Lib.hid hK; clear hr hR hK)
  obtain ⟨t, ht⟩ : ∃ t, t = Cd.tk 4 s := ⟨_, rfl⟩
  have h4 : t.length ≤ 4 := by rw [ht]; exact Cd.tk_le 4 s
  rw [← ht] at HR ⊢
  have HT := Lib.hid ht
  clear ht
  go_loop [3, 9] (fun vn vi => ∃ k : Nat, k ≤ t.length ∧ vi = .int .i64 (k : Int) ∧ vn = .int .i64 (Cd.num (t.take k))) (fun _ vi => t.length - (intOf vi).toNat)
  case atStart => exact ⟨0, Nat.zero_le _, rfl, rfl⟩
  case round =>
    obtain ⟨k, hk, rfl, rfl⟩ := hrel
    by_cases hlt : k < t.length
    · obtain ⟨b, off, rfl, -, hc⟩ := HR.out.at_ hlt
      have hs := num_small t k h4
      obtain ⟨a, ha⟩ : ∃ a : Nat, Cd.num (t.take k) = (a : Int) := ⟨(Cd.num (t.take k)).toNat, by omega⟩
      have HN := Lib.hid (take_num t k hlt)
      rw [ha] at HN hs ⊢
      clear ha
      have ha' : a < 1099511627776 := by omega
      have hcl := t[k].toNat_lt
      have hor := or_byte a t[k].toNat ha' hcl
      clear ha'
      go_wp2
      go_round
      case rel => exact ⟨k + 1, by omega, by go_num, by rw [HN.out]⟩
      case measure => simp [intOf]; omega
    · go_wp2
      go_ret
      have e : t.take k = t := List.take_of_length_le (by omega)
      refine ⟨?_, HRR.out, HK.out⟩
      rw [← HT.out, e]; rfl
theorem byt_of {s : Cd.St} {t : Tx} (ht : t = Cd.tk 1 s) (h : t.length = 0) : Cd.byt s = 0 := by
  unfold Cd.byt; rw [← ht, List.length_eq_zero_iff.1 h]; rfl
theorem byt_at {s : Cd.St} {t : Tx} (ht : t = Cd.tk 1 s) (h : 0 < t.length) : Cd.byt s = t[0] := by
  unfold Cd.byt; rw [← ht]
  cases t with
  | nil => simp at h
  | cons c l => rfl
set_option maxRecDepth 100000 in
theorem rbyte_any (g : Nat) (s : Cd.St) (G : Nat → Prop) (w : World) (h : Rr w g s G) (hl : s.1.length ≤ 1000000000) :
    Calls Tryz.prog 94 #[.pointer (some ⟨g, 0, none⟩)] w (Red (.int .u8 ((Cd.byt s).toNat : Int)) g (Cd.af 1 s) G w) := by
  obtain ⟨t, ht⟩ : ∃ t, t = Cd.tk 1 s := ⟨_, rfl⟩
  have h1 : t.length ≤ 1 := by rw [ht]; exact Cd.tk_le 1 s
  have htake := take_any g 1 s G w h hl (by decide)
  unfold Took at htake
  rw [← ht] at htake
  have HT := Lib.hid ht
  clear ht
  by_cases h0 : t.length = 0
  · have q1 : ((t.length : Int) == 0) = true := by rw [h0]; rfl
    have HB := Lib.hid (byt_of HT.out h0)
    clear h0
    go_enter Tryz.func94, Tryz.ntmps94
    go_wp2_with (go_at_call 108; refine htake.mono ?_; rintro e w1 ⟨A, c, rfl, hr, hR, hK⟩; have HR := Lib.hid hr; have HRR := Lib.hid hR; have HK := Lib.hid hK; clear hr hR hK)
    go_ret
    refine ⟨?_, HRR.out, HK.out⟩
    rw [HB.out]; rfl
  · have q1 : ((t.length : Int) == 0) = false := beq_eq_false_iff_ne.2 (by omega)
    have hp : 0 < t.length := by omega
    have HB := Lib.hid (byt_at HT.out hp)
    have h0' : ¬ t.length = 0 := h0
    clear h0
    go_enter Tryz.func94, Tryz.ntmps94
    go_wp2_with (go_at_call 108; refine htake.mono ?_; rintro e w1 ⟨A, c, rfl, hr, hR, hK⟩; obtain ⟨b, off, rfl, -, hc⟩ := hr.at_ hp; rw [Nat.add_zero] at hc; have HRR := Lib.hid hR; have HK := Lib.hid hK; clear hr hR hK)
    go_ret
    refine ⟨?_, HRR.out, HK.out⟩
    rw [HB.out]; rfl
end Go.Proofs.YtfkoomldncfdnaaGreat
