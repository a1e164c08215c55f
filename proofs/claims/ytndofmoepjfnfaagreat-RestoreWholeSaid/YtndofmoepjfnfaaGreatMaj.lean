/- append of bytes, and of bytes 0, onto a row that a call owns, as an equation and as a step of a region that draws its order. No function of the program. What package castagnoli's functions answer; nothing is written. What the document's own sums answer: the same as package castagnoli; nothing is written. The sums of castagnoli and of the document's own, of bytes that read as a list. Chapter 20's steps that lay a file: which blocks come on which tapes. No program. -/
import Derived.Test.YtndofmoepjfnfaaGreatMad
import Derived.Test.YtndofmoepjfnfaaGreatMxZeros
import Derived.Deep.RegionLaw
import Derived.Test.YtndofmoepjfnfaaGreatMac
import Derived.Test.YtndofmoepjfnfaaGreatMai
import Derived.Test.YtndofmoepjfnfaaGreatMah
import Derived.Test.YtndofmoepjfnfaaGreatMaf
namespace Go.Proofs.YtndofmoepjfnfaaGreat
open Go.RowKit
open Pt (Tx)

/-- an append that runs to v' and w' is a step -/
theorem step_append_eq {P : Program} {ops : Array Oper} {o : Oper} {a : Act} {w : World} {K : Act → World → Prop} {Q : Exit → Act → World → Prop} {E : Prop} (hg : o.guard = none) (s x : Operand) (t tn : TypeId)
    (ho : o.op = .call { callee := .builtin .append, args := #[s, x], argTypes := #[t, tn] }) (vs vx v' : Value) (w' : World) (hr : ∀ ty, (Builtin.append_ #[t, tn] ty #[vs, vx]).run P w = .ok v' w') (hs : a.eval s = vs) (hx : a.eval x = vx)
    (hK : K (a.put o.dst v') w') : if Region.wanted o (yielded ops a.tmps) = true then Oper.wp P o a w K Q else E := by
  have hw : Region.wanted o (yielded ops a.tmps) = true := by simp [Region.wanted, hg]
  rw [if_pos hw]
  exact Lib.wp_append_run w s x t tn ho vs vx hs hx v' w' (hr _) hK
/-- what an append onto an own row of bytes made: the row as a slice -/
def Grew (w : World) (base : Nat) (v : Value) (l : Tx) (n : Nat) (A : Option Addr) (C : Nat) (w' : World) : Prop := OwnL w' base (.slice A n C) l ∧ w.grownBy w' v.ownBlock
theorem ap_run (w : World) (base : Nat) (v : Value) (l : Tx) (hown : OwnL w base v l) (A : Option Addr) (m c : Nat) (l' : Tx) (G : Nat → Prop) (hm : l'.length = m) (hA : A = none → m = 0 ∧ c = 0) (hr : RdL w A l' G) (hb : l.length + m ≤ 140737488355328) (hbase : base ≤ w.heap.size) (n : Nat) (hn : n = l.length + m) :
    ∃ A' C' w', (∀ ty, (Builtin.append_ #[22, 22] ty #[v, .slice A m c]).run Tryz.prog w = .ok (.slice A' n C') w') ∧ Grew w base v (l ++ l') n A' C' w' := by
  obtain ⟨i0, hi, hz0, hz1, hz2⟩ := info_parts infoB
  have key : ∃ v' w', (∀ ty, (Builtin.append_ #[22, 22] ty #[v, .slice A m c]).run Tryz.prog w = .ok v' w') ∧ OwnL w' base v' (l ++ l') ∧ w.grownBy w' v.ownBlock := by
    cases A with
    | none =>
      obtain ⟨rfl, rfl⟩ := hA rfl
      have h0 : l' = [] := List.length_eq_zero_iff.1 hm
      subst h0
      refine ⟨v, w, fun ty => run_append_owned_none (P := Tryz.prog) (w := w) base 22 ty 5 i0 1 Tryz.underlying22 hi v l.length (cellsL l) hown, ?_, grown_refl w _⟩
      rw [List.append_nil]; exact hown
    | some ad =>
      have hnews : ∀ j u, (cellsL l')[j]? = some u → w.cell? (ad.add j) = some u := fun j u hu => by
        obtain ⟨hj, rfl⟩ := cellsL_some hu
        obtain ⟨b, off, e, _, hc⟩ := hr (by omega)
        cases e
        rw [addr_add]; exact hc j hj
      obtain ⟨v', w', h1, h2, h3, _⟩ := run_append_own (P := Tryz.prog) w base 22 3 5 i0 (.int .u8 0) 1 1 Tryz.underlying22 hi hz0 hz1 hz2 rfl (by decide) v l.length (cellsL l) hown ad m c (cellsL l') (by rw [cellsL_len, hm, Nat.mul_one]) hnews cellsL_one (by unfold maxLen; omega) (by omega) hbase
      refine ⟨v', w', fun ty => h1, ?_, h3⟩
      unfold OwnL
      rw [← cellsL_append, List.length_append, hm]; exact h2
  obtain ⟨v', w', h1, h2, h3⟩ := key
  obtain ⟨A', C', rfl, _, _, _, _⟩ := h2.rd
  have e : (l ++ l').length = n := by rw [List.length_append, hm, hn]
  refine ⟨A', C', w', fun ty => by rw [← e]; exact h1 ty, ?_, h3⟩
  rw [← e]; exact h2
theorem cellsL_zeros (l : Tx) (k : Nat) : cellsL (l ++ List.replicate k 0) = cellsL l ++ List.replicate k (.int .u8 0) := by simp [cellsL]
theorem run_append_none_zeros {P : Program} (w : World) (t tn ty e : TypeId) (i : TypeInfo) (kq kn : IntKind) (ht : P.underlying t = some (.slice e)) (htn : P.underlying tn = some (.int kn)) (hi : P.info? e = some i) (A : Addr) (n c : Nat) (hc : n ≤ c) :
    (Builtin.append_ #[t, tn] ty #[.slice (some A) n c, .int kq 0]).run P w = .ok (.slice (some A) n c) w := by
  have hw : IntKind.i64.wrap 0 = 0 := by decide
  simp [Builtin.append_, run_underlying ht, run_underlying htn, sizeOf, typeInfo, hi, asInt, asIntOf, hw, hc, storeCells]
theorem apz_run (w : World) (base : Nat) (v : Value) (l : Tx) (hown : OwnL w base v l) (hl : 0 < l.length) (k : Nat) (hb : l.length + k ≤ 1000000) (hbase : base ≤ w.heap.size) (x : Int) (hx : x = (k : Int)) (n : Nat) (hn : n = l.length + k) :
    ∃ A' C' w', (∀ ty, (Builtin.append_ #[22, 3] ty #[v, .int .i64 x]).run Tryz.prog w = .ok (.slice A' n C') w') ∧ Grew w base v (l ++ List.replicate k 0) n A' C' w' := by
  subst hx
  obtain ⟨i0, hi, hz0, hz1, hz2⟩ := info_parts infoB
  by_cases h0 : k = 0
  · subst h0
    obtain ⟨A, C, rfl, hlc, _, hA, _⟩ := hown.rd
    cases A with
    | none => have := (hA rfl).1; omega
    | some a =>
      refine ⟨some a, C, w, fun ty => ?_, ?_, grown_refl w _⟩
      · rw [hn]; exact run_append_none_zeros (P := Tryz.prog) w 22 3 ty 5 i0 .i64 .i64 Tryz.underlying22 Tryz.underlying3 hi a l.length C hlc
      · rw [hn, List.replicate_zero, List.append_nil]; exact hown
  · have key : ∀ ty, ∃ v' w', (Builtin.append_ #[22, 3] ty #[v, .int .i64 (k : Int)]).run Tryz.prog w = .ok v' w' ∧ w'.ownsRow base 5 1 v' (l.length + k) (cellsL l ++ List.replicate k (.int .u8 0)) ∧ w.grownBy w' v.ownBlock := fun ty =>
      run_append_zeros_own (P := Tryz.prog) w base 22 3 ty 5 i0 (.int .u8 0) .i64 .i64 Tryz.underlying22 Tryz.underlying3 hi hz0 hz1 rfl rfl v l.length (cellsL l) hown hl k (by omega) (by unfold maxLen; omega) (by rw [hz2]; omega) hbase
    obtain ⟨v', w', h1, h2, h3⟩ := key 3
    have h4 : OwnL w' base v' (l ++ List.replicate k 0) := by
      unfold OwnL
      rw [cellsL_zeros, List.length_append, List.length_replicate]; exact h2
    obtain ⟨A', C', rfl, _, _, _, _⟩ := h4.rd
    have e : (l ++ List.replicate k (0 : UInt8)).length = n := by rw [List.length_append, List.length_replicate, hn]
    refine ⟨A', C', w', fun ty => by rw [← e]; exact h1, ?_, h3⟩
    rw [← e]; exact h4
end Go.Proofs.YtndofmoepjfnfaaGreat
namespace Go.Proofs.YtndofmoepjfnfaaGreat
open Go.RowKit Mx

theorem timesX_any (x : Cr.W) (w : World) :
    Calls Tryz.prog 81 #[.int .u32 (bi x)] w fun e w' => e = .returned (.int .u32 (bi (Cr.step x))) ∧ w = w' := by
  have h0 := bi_lo x
  have h1 := bi_hi x
  by_cases hb : x.getLsbD 0 = true
  · have H := Lib.hid (step_odd hb)
    have ht : (bits BinOp.and IntKind.u32 (bi x) 1 == 0) = false := by rw [bit_of, if_pos hb]; rfl
    clear hb
    go_enter Tryz.func81, Tryz.ntmps81
    go_wp2
    go_ret
    exact ⟨ret_u32 H.out, rfl⟩
  · have H := Lib.hid (step_even (by simpa using hb))
    have ht : (bits BinOp.and IntKind.u32 (bi x) 1 == 0) = true := by rw [bit_of, if_neg hb]; rfl
    clear hb
    go_enter Tryz.func81, Tryz.ntmps81
    go_wp2
    go_ret
    exact ⟨ret_u32 H.out, rfl⟩
theorem timesX8_any (x : Cr.W) (w : World) :
    Calls Tryz.prog 65 #[.int .u32 (bi x)] w fun e w' => e = .returned (.int .u32 (bi (Cr.steps 8 x))) ∧ w = w' := by
  go_enter Tryz.func65, Tryz.ntmps65
  go_wp2
  go_loop [0, 3] (fun vx vi => ∃ k : Nat, k ≤ 8 ∧ vi = .int .i64 (k : Int) ∧ vx = .int .u32 (bi (Cr.steps k x))) (fun _ vi => 8 - (intOf vi).toNat)
  case atStart => exact ⟨0, by omega, rfl, rfl⟩
  case round =>
    obtain ⟨k, hk, rfl, rfl⟩ := hrel
    by_cases hlt : k < 8
    · go_wp2_with fail
      refine (timesX_any _ _).mono ?_
      rintro e w' ⟨rfl, rfl⟩
      go_wp2
      go_round
      case rel => exact ⟨k + 1, by omega, by go_num, val_u32 (by rw [Cr.steps_out])⟩
      case measure => simp [intOf]; omega
    · have HK : Hid (Cr.steps k x = Cr.steps 8 x) := by rw [show k = 8 by omega]; exact Lib.hid rfl
      go_wp2
      go_ret
      exact ⟨ret_u32 (by rw [HK.out]), rfl⟩
set_option maxHeartbeats 1000000 in
theorem more_any (s : Cr.W) (A : Option Addr) (n C : Nat) (r : Nat → Fe) (G : Nat → Prop) (w : World) (hn : n ≤ maxLen) (hr : Rd w A n r G) :
    Calls Tryz.prog 53 #[.int .u32 (bi s), .slice A n C] w fun e w' => e = .returned (.int .u32 (bi (crc s r n))) ∧ w = w' := by
  unfold maxLen at hn
  have hs := not_max s
  have HR := Lib.hid hr
  clear hr
  go_enter Tryz.func53, Tryz.ntmps53
  go_wp2
  clear hs
  go_loop [5, 12] (fun vx vi => ∃ k : Nat, k ≤ n ∧ vi = .int .i64 (k : Int) ∧ vx = .int .u32 (bi (Cr.ups (~~~s) (fun i => (r i).nat) k))) (fun _ vi => n - (intOf vi).toNat)
  case atStart => exact ⟨0, by omega, rfl, rfl⟩
  case round =>
    obtain ⟨k, hk, rfl, rfl⟩ := hrel
    by_cases hlt : k < n
    · obtain ⟨b, off, rfl, _, hc⟩ := HR.out.at hlt
      have r0 := fi_lo (r k)
      have r1 := fi_hi (r k)
      have hx := byte_bi (Cr.ups (~~~s) (fun i => (r i).nat) k) (r k)
      go_wp2_with fail
      refine (timesX8_any _ _).mono ?_
      rintro e w' ⟨rfl, rfl⟩
      clear hx
      go_wp2
      go_round
      case rel => exact ⟨k + 1, by omega, by go_num, rfl⟩
      case measure => simp [intOf]; omega
    · have HK : Hid (~~~(Cr.ups (~~~s) (fun i => (r i).nat) k) = crc s r n) := by rw [show k = n by omega]; exact Lib.hid rfl
      have hs := not_max (Cr.ups (~~~s) (fun i => (r i).nat) k)
      go_wp2
      go_ret
      exact ⟨ret_u32 (by rw [HK.out]), rfl⟩
theorem sum_any (A : Option Addr) (n C : Nat) (r : Nat → Fe) (G : Nat → Prop) (w : World) (hn : n ≤ maxLen) (hr : Rd w A n r G) :
    Calls Tryz.prog 25 #[.slice A n C] w fun e w' => e = .returned (.int .u32 (bi (crc 0#32 r n))) ∧ w = w' := by
  go_enter Tryz.func25, Tryz.ntmps25
  go_wp2_with fail
  refine (more_any 0#32 A n C r G _ hn hr).mono ?_
  rintro e w' ⟨rfl, rfl⟩
  go_wp2
  go_ret
  exact ⟨rfl, rfl⟩
end Go.Proofs.YtndofmoepjfnfaaGreat
namespace Go.Proofs.YtndofmoepjfnfaaGreat
open Go.RowKit Mx

set_option maxRecDepth 100000 in
set_option maxHeartbeats 2000000 in
theorem refMore_any (s : Cr.W) (A : Option Addr) (n C : Nat) (r : Nat → Fe) (G : Nat → Prop) (w : World) (hn : n ≤ maxLen) (hr : Rd w A n r G) :
    Calls Tryz.prog 36 #[.int .u32 (bi s), .slice A n C] w fun e w' => e = .returned (.int .u32 (bi (crc s r n))) ∧ w = w' := by
  unfold maxLen at hn
  have hs := not_bi s
  have HR := Lib.hid hr
  clear hr
  go_enter Tryz.func36, Tryz.ntmps36
  go_wp2
  clear hs
  go_loop [5, 6] (fun vx vi => ∃ k : Nat, k ≤ n ∧ vi = .int .i64 (k : Int) ∧ vx = .int .u32 (bi (Cr.ups (~~~s) (fun i => (r i).nat) k))) (fun _ vi => n - (intOf vi).toNat)
  case atStart => exact ⟨0, by omega, rfl, rfl⟩
  case round =>
    obtain ⟨k, hk, rfl, rfl⟩ := hrel
    by_cases hlt : k < n
    · obtain ⟨b, off, rfl, _, hc⟩ := HR.out.at hlt
      have r0 := fi_lo (r k)
      have r1 := fi_hi (r k)
      have hx := byte_bi (Cr.ups (~~~s) (fun i => (r i).nat) k) (r k)
      have HU : Hid (Cr.ups (~~~s) (fun i => (r i).nat) (k + 1) = Cr.steps 8 (Cr.ups (~~~s) (fun i => (r i).nat) k ^^^ BitVec.ofNat 32 (r k).nat)) := Lib.hid rfl
      go_wp2
      clear hx hc
      generalize Cr.ups (~~~s) (fun i => (r i).nat) k ^^^ BitVec.ofNat 32 (r k).nat = x at HU ⊢
      go_loop [5, 7] (fun vx vi => ∃ (j : Nat) (y : Cr.W), j ≤ 8 ∧ vi = .int .i64 (j : Int) ∧ vx = .int .u32 (bi y) ∧ Hid (y = Cr.steps j x)) (fun _ vi => 8 - (intOf vi).toNat)
      case atStart => exact ⟨0, x, by omega, rfl, rfl, Lib.hid rfl⟩
      case round =>
        obtain ⟨j, y, hj, rfl, rfl, HY⟩ := hrel
        by_cases hl8 : j < 8
        · have HS : Hid (Cr.step y = Cr.steps (j + 1) x) := by rw [HY.out]; exact Lib.hid (Cr.steps_out j x).symm
          clear HY HU
          by_cases hb : y.getLsbD 0 = true
          · have H := Lib.hid (step_odd hb)
            have ht : (bits BinOp.and IntKind.u32 (bi y) 1 == 1) = true := by rw [bit_of, if_pos hb]; rfl
            clear hb
            go_wp2
            go_round
            case rel => exact ⟨j + 1, Cr.step y, by omega, by go_num, val_u32 H.out, HS⟩
            case measure => simp [intOf]; omega
          · have H := Lib.hid (step_even (x := y) (by simpa using hb))
            have ht : (bits BinOp.and IntKind.u32 (bi y) 1 == 1) = false := by rw [bit_of, if_neg hb]; rfl
            clear hb
            go_wp2
            go_round
            case rel => exact ⟨j + 1, Cr.step y, by omega, by go_num, val_u32 H.out, HS⟩
            case measure => simp [intOf]; omega
        · have HK : Hid (y = Cr.ups (~~~s) (fun i => (r i).nat) (k + 1)) := by rw [HY.out, show j = 8 by omega, HU.out]; exact Lib.hid rfl
          clear HY HU
          go_wp2
          go_round
          case rel => exact ⟨k + 1, by omega, by go_num, val_u32 (by rw [HK.out])⟩
          case measure => simp [intOf]; omega
    · have HK : Hid (~~~(Cr.ups (~~~s) (fun i => (r i).nat) k) = crc s r n) := by rw [show k = n by omega]; exact Lib.hid rfl
      have hs := not_bi (Cr.ups (~~~s) (fun i => (r i).nat) k)
      go_wp2
      go_ret
      exact ⟨ret_u32 (by rw [HK.out]), rfl⟩
theorem refCrc_any (A : Option Addr) (n C : Nat) (r : Nat → Fe) (G : Nat → Prop) (w : World) (hn : n ≤ maxLen) (hr : Rd w A n r G) :
    Calls Tryz.prog 13 #[.slice A n C] w fun e w' => e = .returned (.int .u32 (bi (crc 0#32 r n))) ∧ w = w' := by
  go_enter Tryz.func13, Tryz.ntmps13
  go_wp2_with fail
  refine (refMore_any 0#32 A n C r G _ hn hr).mono ?_
  rintro e w' ⟨rfl, rfl⟩
  go_wp2
  go_ret
  exact ⟨rfl, rfl⟩
end Go.Proofs.YtndofmoepjfnfaaGreat
namespace Go.Proofs.YtndofmoepjfnfaaGreat
open Go.RowKit
open Pt (Tx)

theorem sumL_any (A : Option Addr) (l : Tx) (n C : Nat) (G : Nat → Prop) (w : World) (hm : n = l.length) (hn : l.length ≤ maxLen) (hr : RdL w A l G) :
    Calls Tryz.prog 25 #[.slice A n C] w fun e w' => e = .returned (.int .u32 (sumL l)) ∧ w = w' := by
  subst hm; exact sum_any A l.length C (rowL l) G w hn hr.rd
theorem refSumL_any (A : Option Addr) (l : Tx) (n C : Nat) (G : Nat → Prop) (w : World) (hm : n = l.length) (hn : l.length ≤ maxLen) (hr : RdL w A l G) :
    Calls Tryz.prog 13 #[.slice A n C] w fun e w' => e = .returned (.int .u32 (sumL l)) ∧ w = w' := by
  subst hm; exact refCrc_any A l.length C (rowL l) G w hn hr.rd
end Go.Proofs.YtndofmoepjfnfaaGreat
namespace Go.Proofs.YtndofmoepjfnfaaGreat.Wr
open Pt (Tx)

/-- a piece's head -/
def hdOf (h : Rc.H) (b : Tx) (p : Sp.P) : Rc.H := ⟨h.path, h.version, h.size, p.from_, p.len, h.serial, sumL b, h.gone⟩
/-- its bytes -/
def slc (b : Tx) (p : Sp.P) : Tx := (b.drop p.from_.toNat).take p.len.toNat
/-- from which block on -/
def at_ (t : St.T) : Int := if t.blocks.length = 0 then 1 else (t.blocks.length : Int)
/-- the tape's own first frame, if it is blank -/
def head (t : St.T) (k : Nat) : List (Int × Tx) := if t.blocks.length = 0 then [((k : Int), Fm.blk (Vo.first t.label [68]))] else []
/-- the steps of a piece -/
def lay (ts : List St.T) (h : Rc.H) (b : Tx) (p : Sp.P) : List (Int × Tx) := match ts[p.tape]? with
  | none => []
  | some t => head t p.tape ++ (Vo.put t.label (at_ t) (hdOf h b p) (slc b p)).map fun x => ((p.tape : Int), x)
def steps (ts : List St.T) (h : Rc.H) (b : Tx) (plan : List Sp.P) : List (Int × Tx) := plan.flatMap (lay ts h b)
/-- what is asked of a piece -/
structure Ok (ts : List St.T) (h : Rc.H) (b : Tx) (p : Sp.P) : Prop where
  lt : p.tape < ts.length
  from0 : 0 ≤ p.from_
  len0 : 0 ≤ p.len
  fits : p.from_ + p.len ≤ (b.length : Int)
  right : ∀ t, ts[p.tape]? = some t → Vo.Right t.label (at_ t) (hdOf h b p) (slc b p)
theorem slc_len {ts : List St.T} {h : Rc.H} {b : Tx} {p : Sp.P} (k : Ok ts h b p) : ((slc b p).length : Int) = p.len := by
  unfold slc
  have := k.from0
  have := k.len0
  have := k.fits
  rw [List.length_take, List.length_drop]
  omega
theorem steps_take {ts : List St.T} {h : Rc.H} {b : Tx} {plan : List Sp.P} {i : Nat} (hi : i < plan.length) : steps ts h b (plan.take (i + 1)) = steps ts h b (plan.take i) ++ lay ts h b plan[i] := by
  unfold steps
  rw [List.take_succ_eq_append_getElem hi, List.flatMap_append]
  simp
theorem lay_at {ts : List St.T} {h : Rc.H} {b : Tx} {p : Sp.P} {t : St.T} (ht : ts[p.tape]? = some t) : lay ts h b p = head t p.tape ++ (Vo.put t.label (at_ t) (hdOf h b p) (slc b p)).map fun x => ((p.tape : Int), x) := by
  unfold lay; rw [ht]
theorem plan_len (rooms : List Int) (size : Int) : (Rs.planR rooms size).length ≤ rooms.length + 1 := by
  unfold Rs.planR
  split
  · split
    · simp
    · simp
  · have := Sp.plan_len rooms size
    omega
end Go.Proofs.YtndofmoepjfnfaaGreat.Wr
