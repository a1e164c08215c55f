/- MendBlind: without a parity tape that has its seal nothing is made. -/
import Derived.Test.YtcokmmanajdioaaLdLaid
import Derived.Test.YtcokmmanajdioaaMbh
import Derived.Test.YtcokmmanajdioaaMbi
import Derived.Test.YtcokmmanajdioaaMag
import Derived.StillTailTactics
namespace Go.Proofs.Ytcokmmanajdioaa
open Go.RowKit Mx
open Pt (Tx)

namespace Me
theorem byte_turns (c : UInt8) : byF (feB c + feB 1) ≠ c := fun e => by
  have h1 := byF_nat (feB c + feB 1)
  rw [e] at h1
  have h2 : feB c + feB 1 = feB c := Fe.ext (by rw [← h1]; exact (nat_mk _ _).symm)
  have h3 : feB 1 = 0 := by
    have := congrArg (fun x => feB c + x) h2
    simpa [← Mx.add_assoc, Mx.add_self, Mx.zero_add] using this
  exact absurd (congrArg Fe.nat h3) (by decide)
theorem good_is' {t : St.T} {n : Nat} {u : Fm.U} (h : Vo.good (Gr.vo t) n = some u) : ∃ hn : n < t.blocks.length, Fm.Good t.blocks[n] := by
  obtain ⟨lab, cap, bs, lost⟩ := t
  cases lost with
  | true => rw [good_lost (t := ⟨lab, cap, bs, true⟩) rfl] at h; cases h
  | false =>
    by_cases hn : n < bs.length
    · refine ⟨hn, ?_⟩
      have e : Vo.good (Gr.vo ⟨lab, cap, bs, false⟩) n = if Fm.Good bs[n] ∧ (Fm.parse bs[n]).label = lab ∧ (Fm.parse bs[n]).number = (n : Int) then some (Fm.parse bs[n]) else none := good_is hn
      rw [e] at h
      split at h
      · rename_i hh; exact hh.1
      · cases h
    · rw [Vo.good_end (t := Gr.vo ⟨lab, cap, bs, false⟩) (by show bs.length ≤ n; omega)] at h; cases h
theorem not_good {lab cap : Int} {bs : List Tx} {lo : Bool} {n : Nat} (hn : n < bs.length) (h : ¬ Fm.Good bs[n]) : Vo.good (Gr.vo ⟨lab, cap, bs, lo⟩) n = none := by
  cases lo with
  | true => exact good_lost (t := ⟨lab, cap, bs, true⟩) rfl n
  | false =>
    have e : Vo.good (Gr.vo ⟨lab, cap, bs, false⟩) n = if Fm.Good bs[n] ∧ (Fm.parse bs[n]).label = lab ∧ (Fm.parse bs[n]).number = (n : Int) then some (Fm.parse bs[n]) else none := good_is hn
    rw [e, if_neg fun hh => h hh.1]
/-- a tape that is sealed, and of whose last block a bit is turned, is sealed no more -/
theorem turn_last {t : St.T} (h : (Gr.sealed t).isSome = true) : ∃ hn : t.blocks.length - 1 < t.blocks.length, Fm.Good t.blocks[t.blocks.length - 1] ∧ 79 ≤ t.blocks[t.blocks.length - 1].length := by
  unfold Gr.sealed at h
  cases e : Vo.good (Gr.vo t) (t.blocks.length - 1) with
  | none => rw [e] at h; cases h
  | some u =>
    obtain ⟨hn, hg⟩ := good_is' e
    exact ⟨hn, hg, Fm.good_ge hg⟩
theorem turn_eq {t : St.T} (hn : t.blocks.length - 1 < t.blocks.length) (hp : 15 < t.blocks[t.blocks.length - 1].length) : turn t = ⟨t.label, t.cap, t.blocks.set (t.blocks.length - 1) (t.blocks[t.blocks.length - 1].set 15 (byF (feB t.blocks[t.blocks.length - 1][15] + feB 1))), t.lost⟩ := by
  unfold turn
  have e : t.blocks.getD (t.blocks.length - 1) [] = t.blocks[t.blocks.length - 1] := by rw [List.getD_eq_getElem?_getD, List.getElem?_eq_getElem hn]; rfl
  rw [e]
  have e2 : t.blocks[t.blocks.length - 1].getD 15 0 = t.blocks[t.blocks.length - 1][15] := by rw [List.getD_eq_getElem?_getD, List.getElem?_eq_getElem hp]; rfl
  rw [e2]
theorem turn_good {t : St.T} (h : (Gr.sealed t).isSome = true) : Vo.good (Gr.vo (turn t)) (t.blocks.length - 1) = none := by
  obtain ⟨hn, hg, h79⟩ := turn_last h
  rw [turn_eq hn (by omega)]
  refine not_good (by rw [List.length_set]; exact hn) ?_
  rw [List.getElem_set_self]
  exact Fm.turn_no hg (by omega) (byte_turns _)
theorem turn_len {t : St.T} : (turn t).blocks.length = t.blocks.length := by unfold turn; simp
theorem turn_sub {t : St.T} (h : (Gr.sealed t).isSome = true) : Sub (turn t) t := by
  refine ⟨rfl, .inr ⟨rfl, turn_len, fun n => ?_⟩⟩
  by_cases e : n = t.blocks.length - 1
  · left; rw [e]; exact turn_good h
  · right
    show (t.blocks.set (t.blocks.length - 1) _)[n]? = _
    rw [List.getElem?_set_ne (fun h => e h.symm)]
theorem turn_none {t : St.T} (h : (Gr.sealed t).isSome = true) : Gr.sealed (turn t) = none := Gr.sealed_bad (by rw [turn_len]; exact turn_good h)
end Me
namespace Ld
theorem turn_short {t : St.T} (h : Short t) : Short (Me.turn t) := by
  refine ⟨by rw [Me.turn_len]; exact h.1, fun s hs => ?_⟩
  obtain ⟨j, hj, rfl⟩ := List.mem_iff_getElem.1 hs
  have hj' : j < t.blocks.length := by rw [Me.turn_len] at hj; exact hj
  show ((t.blocks.set (t.blocks.length - 1) _)[j]'(by rw [List.length_set]; exact hj')).length ≤ _
  rw [List.getElem_set]
  split
  · rename_i e
    rw [List.length_set, List.getD_eq_getElem?_getD, List.getElem?_eq_getElem (by omega)]
    exact h.2 _ (List.getElem_mem _)
  · exact h.2 _ (List.getElem_mem _)
noncomputable def hurtF (rot : Bool) : St.T → St.T := if rot then Me.turn else Me.gone
/-- the parity behind the first is hurt -/
noncomputable def blind (z : Nat → Int) (rot : Bool) (d p i : Nat) : List St.T := Me.hurtN (hurtF rot) d i (all z d p)
theorem all_sealed {z : Nat → Int} {d p j : Nat} (hd1 : 1 ≤ d) (hd : d ≤ 6) (hp1 : 1 ≤ p) (hp : p ≤ 4) (hj : d ≤ j) (hj' : j < (all z d p).length) : (Gr.sealed (all z d p)[j]).isSome = true := by
  rw [all_len] at hj'
  have e : (all z d p)[j]'(by rw [all_len]; exact hj') = (Gr.made (data z d) (bl p) 3)[j - d]'(by rw [Gr.made_len, bl_len]; omega) := by
    unfold all Me.whole
    rw [List.getElem_append_right (by rw [data_len]; exact hj)]
    simp [data_len]
  rw [e, sealed_made hd1 hd hp1 hp]
  rfl
theorem blind_subs {z : Nat → Int} {rot : Bool} {d p i : Nat} (hd1 : 1 ≤ d) (hd : d ≤ 6) (hp1 : 1 ≤ p) (hp : p ≤ 4) : Me.Subs (blind z rot d p i) (all z d p) := Me.hurtN_subs fun j hj hdj => by
  unfold hurtF
  cases rot with
  | true => exact Me.turn_sub (all_sealed hd1 hd hp1 hp hdj hj)
  | false => exact Me.Sub.of_lost rfl rfl
theorem blind_len (z : Nat → Int) (rot : Bool) (d p i : Nat) : (blind z rot d p i).length = d + p := by unfold blind; rw [Me.hurtN_len, all_len]
theorem blind_short {z : Nat → Int} {rot : Bool} {d p i : Nat} (hd : d ≤ 6) : ∀ t ∈ blind z rot d p i, Short t := hurtN_short (fun t h => by
  unfold hurtF
  cases rot with
  | true => exact turn_short h
  | false => exact gone_short h) (all_short hd)
theorem blind_rows {z : Nat → Int} {rot : Bool} {d p : Nat} (hd1 : 1 ≤ d) (hd : d ≤ 6) (hp1 : 1 ≤ p) (hp : p ≤ 4) : Me.rows ((blind z rot d p (d + p)).drop d) = none := by
  refine Me.rows_not fun t ht => ?_
  obtain ⟨j, hj, rfl⟩ := List.mem_iff_getElem.1 ht
  rw [List.length_drop, blind_len] at hj
  rw [List.getElem_drop]
  have hja : d + j < (all z d p).length := by rw [all_len]; omega
  have hjb : d + j < (blind z rot d p (d + p)).length := by rw [blind_len]; omega
  have e := Me.hurtN_at (hurtF rot) d (d + p) (all z d p) hja
  have e2 : (blind z rot d p (d + p))[d + j]? = some (blind z rot d p (d + p))[d + j] := List.getElem?_eq_getElem hjb
  unfold blind at e2
  rw [e, if_pos ⟨by omega, by omega⟩] at e2
  have e3 := Option.some.inj e2
  show Gr.sealed (Me.hurtN (hurtF rot) d (d + p) (all z d p))[d + j] = none
  rw [← e3]
  unfold hurtF
  cases rot with
  | true => exact Me.turn_none (all_sealed hd1 hd hp1 hp (by omega) hja)
  | false => exact Gr.sealed_lost rfl
end Ld
set_option maxRecDepth 100000 in
set_option maxHeartbeats 2000000 in
theorem mendBlind_no (A : Option Addr) (n C : Nat) (p : Int) (rot : Bool) (w : World) (h : n < 1 ∨ 6 < n ∨ p < 1 ∨ 4 < p) :
    Calls Try.prog 4 #[.slice A n C, .int .i64 p, .bool rot] w fun e w' => e = .returned (.bool true) ∧ Below w.heap.size w w' := by
  have hq : (decide (n < 1) = true ∧ decide ((n : Int) < 1) = true) ∨ ((decide (n < 1) = false ∧ decide ((n : Int) < 1) = false) ∧ ((decide (6 < n) = true ∧ decide (6 < (n : Int)) = true) ∨ ((decide (6 < n) = false ∧ decide (6 < (n : Int)) = false) ∧ (decide (p < 1) = true ∨ (decide (p < 1) = false ∧ decide (4 < p) = true))))) := by
    simp only [decide_eq_true_eq, decide_eq_false_iff_not]; omega
  clear h
  rcases hq with ⟨q1, q2⟩ | ⟨⟨q1, q2⟩, ⟨q3, q4⟩ | ⟨⟨q3, q4⟩, q5 | ⟨q5, q6⟩⟩⟩
  all_goals
    have z1 : (n == 0) = decide (n < 1) := by rw [Bool.eq_iff_iff]; simp
    go_enter Try.func4, Try.ntmps4
    go_wp2_with fail
    refine (alive15_true w).mono ?_
    rintro e w1 ⟨rfl, hb1⟩
    go_wp2
    go_ret
    exact ⟨rfl, hb1⟩
set_option maxRecDepth 100000 in
set_option maxHeartbeats 8000000 in
theorem mendBlind_main (A : Option Addr) (d C : Nat) (z : Nat → Int) (p : Nat) (rot : Bool) (w : World) (hd1 : 1 ≤ d) (hd : d ≤ 6) (hp1 : 1 ≤ p) (hp : p ≤ 4) (hr : RdI w A d z) :
    Calls Try.prog 4 #[.slice A d C, .int .i64 (p : Int), .bool rot] w fun e w' => e = .returned (.bool true) ∧ Below w.heap.size w w' := by
  have q0 : decide ((d : Int) < 1) = false := decide_eq_false (by omega)
  have q0' : decide (d < 1) = false := decide_eq_false (by omega)
  have q1 : decide (6 < (d : Int)) = false := decide_eq_false (by omega)
  have q1' : decide (6 < d) = false := decide_eq_false (by omega)
  have q2 : decide ((p : Int) < 1) = false := decide_eq_false (by omega)
  have q3 : decide (4 < (p : Int)) = false := decide_eq_false (by omega)
  have q3' : decide (4 < p) = false := decide_eq_false (by omega)
  have HR := Lib.hid hr
  clear hr
  go_enter Try.func4, Try.ntmps4
  go_wp2_with fail
  refine (alive15_true w).mono ?_
  rintro e w2 ⟨rfl, hb2⟩
  have HLAID := Lib.hid (laid_walk A d C z p w2 hd hd1 hp hp1 (HR.out.old hb2))
  have HB2 := Lib.hid hb2
  clear hb2
  go_wp2_with fail
  refine HLAID.out.mono ?_
  rintro e w3 ⟨g, cap, M, M2, x, rfl, hx, hk3⟩
  obtain ⟨⟨xn, xi, xd, xp, xl⟩, xA, xC⟩ := x
  have hx2 : xn = 3 ∧ xi = (d : Int) ∧ xd = (d : Int) ∧ xp = (p : Int) ∧ xl.length = d + p := by
    have hx' : (⟨xn, xi, xd, xp, xl⟩ : Rc.S) = Gr.sealOf (Ld.data z d) (Ld.bl p) 3 d := hx
    unfold Gr.sealOf at hx'
    injection hx' with g1 g2 g3 g4 g5
    rw [Ld.data_len] at g3
    rw [Ld.bl_len] at g4
    refine ⟨g1, g2, g3, g4, ?_⟩
    rw [g5, List.length_map, List.length_append, Ld.data_len, Ld.bl_len]
  obtain ⟨rfl, rfl, rfl, rfl, hxl⟩ := hx2
  dsimp only
  rw [hxl]
  obtain ⟨m, hm⟩ : ∃ m, m = d + p := ⟨_, rfl⟩
  rw [← hm]
  obtain ⟨w4, hw4⟩ : ∃ y, y = w3.alloc (sealObj 3 (d : Int) (d : Int) (p : Int) xA m xC) := ⟨_, rfl⟩
  have hb4 : Below w3.heap.size w3 w4 := by rw [hw4]; exact (Below.refl _ _).alloc (Nat.le_refl _) _
  have hS4 : w4.heap[w3.heap.size]? = some (sealObj 3 (d : Int) (d : Int) (p : Int) xA m xC) := by rw [hw4]; exact Go.Deep.blk_alloc_new _ _
  have HK4 : Hid (LdK w2 g cap M M2 ⟨⟨3, (d : Int), (d : Int), (p : Int), xl⟩, xA, xC⟩ (Ld.blind z rot d p d) w4) := Lib.hid (by
    unfold Ld.blind
    rw [Me.hurtN_start]
    exact hk3.old hb4)
  have HX := Lib.hid hx
  have HM := Lib.hid hm
  have HS4 := Lib.hid hS4
  have HW4 := Lib.hid hw4
  unfold sealObj at HW4
  have hm10 : m ≤ 10 := by omega
  have hdm : d ≤ m := by omega
  clear hw4 hb4 hS4 hk3 hx hxl hm
  go_wp2
  rw [← HW4.out]
  obtain ⟨B, hB⟩ : ∃ B, B = w3.heap.size := ⟨_, rfl⟩
  rw [← hB] at HS4 ⊢
  clear hB
  go_loopw [11] (fun vi wr => ∃ i : Nat, d ≤ i ∧ i ≤ m ∧ vi = .int .i64 (i : Int) ∧ Hid (LdK w2 g cap M M2 ⟨⟨3, (d : Int), (d : Int), (p : Int), xl⟩, xA, xC⟩ (Ld.blind z rot d p i) wr) ∧ Hid (wr.heap[B]? = some (sealObj 3 (d : Int) (d : Int) (p : Int) xA m xC))) (fun vi _ => m - (intOf vi).toNat)
  case atStart => exact ⟨d, Nat.le_refl _, hdm, rfl, HK4, HS4⟩
  case round =>
    obtain ⟨i, hdi, hi, rfl, HK, HS⟩ := hrel
    by_cases hlt : i < m
    · have e0 : decide (i < m) = true := decide_eq_true hlt
      have e0' : decide ((i : Int) < (m : Int)) = true := decide_eq_true (by omega)
      have hil : i < (Ld.blind z rot d p i).length := by rw [Ld.blind_len, ← HM.out]; exact hlt
      have hia : i < (Ld.all z d p).length := by rw [Ld.all_len, ← HM.out]; exact hlt
      have hsame : (Ld.blind z rot d p i)[i] = (Ld.all z d p)[i] := Me.hurtN_same (Ld.hurtF rot) hia hil
      have hnext : (Ld.blind z rot d p i).set i (Ld.hurtF rot (Ld.all z d p)[i]) = Ld.blind z rot d p (i + 1) := Me.hurtN_set (Ld.hurtF rot) hdi hia
      have i0 : (0 : Int) ≤ (i : Int) := by omega
      have i1 : (i : Int) < (m : Int) := by omega
      have i2 : i < m := hlt
      obtain ⟨c, hc⟩ := HK.out.blk
      have hneS : ∀ q c' t, q = B → wr.heap[q]? = some (Obj.cells c' t (0, 0)) → t = 26 := fun q c' t e h' => by
        have h9 := HS.out
        rw [e] at h'
        rw [h9] at h'
        injection h' with h'
        injection h' with _ e2
        exact e2.symm
      cases rot with
      | false =>
        have hlost := HK.out.lost hil
        have hset : (Ld.blind z false d p i).set i ⟨(Ld.blind z false d p i)[i].label, (Ld.blind z false d p i)[i].cap, (Ld.blind z false d p i)[i].blocks, true⟩ = Ld.blind z false d p (i + 1) := by
          rw [hsame]; exact hnext
        rw [hset] at hlost
        have hff : wr.frozen? ⟨g, i * 4 + 3, none⟩ = false := heap_frozen hc
        obtain ⟨b', off', A', C', eA, -, -, -, -, c3, -⟩ := HK.out.rd.at_ hil
        injection eA with eA
        injection eA with eA1 eA2 _
        subst eA1 eA2
        rw [Nat.zero_add] at c3
        obtain ⟨lo, hlo⟩ : ∃ lo, lo = (Ld.blind z false d p i)[i].lost := ⟨_, rfl⟩
        rw [← hlo] at c3
        have hne : ¬ B = g := fun e => absurd (hneS g c _ e.symm hc) (by decide)
        have HL := Lib.hid hlost
        have HSN : Hid ((wr.setCell ⟨g, i * 4 + 3, none⟩ (.bool true)).heap[B]? = some (sealObj 3 (d : Int) (d : Int) (p : Int) xA m xC)) := Lib.hid (((Kp.store wr g (i * 4 + 3) (.bool true)).block B (heap_lt HS.out) hne).trans HS.out)
        clear hlost hset hc hne hlo hneS hsame hnext hia hil
        go_wp2
        go_roundw
        case rel => exact ⟨i + 1, by omega, by omega, by go_num, HL, HSN⟩
        case measure => simp [intOf]; omega
      | true =>
        have hsld := Ld.all_sealed hd1 hd hp1 hp hdi hia
        obtain ⟨t, ht⟩ : ∃ t, t = (Ld.all z d p)[i] := ⟨_, rfl⟩
        rw [← ht] at hsame hnext hsld
        obtain ⟨hn, hg, h79o⟩ := Me.turn_last hsld
        have hteq := Me.turn_eq hn (by omega)
        obtain ⟨K, hK⟩ : ∃ K, K = t.blocks.length := ⟨_, rfl⟩
        have hK1 : 1 ≤ K := by omega
        have hKs : K ≤ 1000000 := by rw [hK, ht]; exact (Ld.all_short hd _ (List.getElem_mem hia)).1
        obtain ⟨s, hs⟩ : ∃ s, s = t.blocks[t.blocks.length - 1] := ⟨_, rfl⟩
        have hsK : (Ld.blind z true d p i)[i].blocks[K - 1]? = some s := by rw [hsame, hK, hs, List.getElem?_eq_getElem hn]
        have h79 : 79 ≤ s.length := by rw [hs]; exact h79o
        have hteq' : Me.turn t = ⟨t.label, t.cap, t.blocks.set (K - 1) (s.set 15 (byF (feB (s[15]'(by omega)) + feB 1))), t.lost⟩ := by
          rw [hteq, hK]
          subst hs
          rfl
        obtain ⟨g', C', gb, Cb, cc, k1, k2, k3, k4, k5⟩ := HK.out.turned hil hsK (p := 15) (by omega)
        have hnew := k5 (byF (feB (s[15]'(by omega)) + feB 1))
        rw [hsame] at k1 hnew
        rw [← hteq', show (Ld.blind z true d p i).set i (Me.turn t) = Ld.blind z true d p (i + 1) from hnext] at hnew
        rw [← hK] at k1
        obtain ⟨S, hS⟩ : ∃ S, S = s.length := ⟨_, rfl⟩
        rw [← hS] at k2 h79
        obtain ⟨cb, hcb⟩ : ∃ cb, cb = s[15]'(by omega) := ⟨_, rfl⟩
        rw [← hcb] at k4 hnew
        have hv : bits BinOp.xor IntKind.u8 ((cb.toNat : Nat) : Int) 1 = (((byF (feB cb + feB 1)).toNat : Nat) : Int) := by
          rw [byF_nat]
          exact xor_fi (feB cb) (feB 1)
        obtain ⟨v8, hv8⟩ : ∃ v, v = byF (feB cb + feB 1) := ⟨_, rfl⟩
        rw [← hv8] at hv hnew
        have hne : ¬ B = gb := fun e => absurd (hneS gb cc _ e.symm k3) (by decide)
        have hfr : wr.frozen? ⟨gb, 15, none⟩ = false := heap_frozen k3
        obtain ⟨w5, hw5⟩ : ∃ y, y = (wr.setCell ⟨gb, 15, none⟩ (.int .u8 ((v8.toNat : Nat) : Int))).drew := ⟨_, rfl⟩
        have HL : Hid (LdK w2 g cap M M2 ⟨⟨3, (d : Int), (d : Int), (p : Int), xl⟩, xA, xC⟩ (Ld.blind z true d p (i + 1)) w5) := Lib.hid (by rw [hw5]; exact hnew.old (Below.refl _ _).drew)
        have HSN : Hid (w5.heap[B]? = some (sealObj 3 (d : Int) (d : Int) (p : Int) xA m xC)) := Lib.hid (by rw [hw5]; exact ((Kp.store wr gb 15 (.int .u8 ((v8.toNat : Nat) : Int))).block B (heap_lt HS.out) hne).trans HS.out)
        have HV := Lib.hid hv
        have HW5 := Lib.hid hw5
        have s1 : IntKind.i64.wrap ((K : Int) - 1) = ((K - 1 : Nat) : Int) := by rw [IntWalk.i64_in _ (by omega)]; omega
        obtain ⟨K1, hK1'⟩ : ∃ K1, K1 = K - 1 := ⟨_, rfl⟩
        rw [← hK1'] at s1 k2
        have j0 : (0 : Int) ≤ (K1 : Int) := by omega
        have j1 : (K1 : Int) < (K : Int) := by omega
        have j2 : (15 : Int) < (S : Int) := by omega
        have j3 : 15 < S := by omega
        clear hsld hn hg hteq h79o ht hK hs hsK hteq' k3 k5 hnew hS hcb hv8 hne hw5 hv hc hneS hsame hnext hia hil hK1' 
        go_wp2
        refine wp_region_still_tail 20 (by kernel_rfl) (by kernel_rfl) ?_
        simp only [List.take_succ_cons, List.take_zero, List.drop_succ_cons, List.drop_zero]
        repeat still_step
        refine wpStill_nil ?_
        change wpList _ _ _ _ _ wr.drew
        go_wp2_with fail
        rw [HV.out, ← HW5.out]
        go_roundw
        case rel => exact ⟨i + 1, by omega, by omega, by go_num, HL, HSN⟩
        case measure => simp [intOf]; omega
    · have e0 : decide (i < m) = false := decide_eq_false hlt
      have e0' : decide ((i : Int) < (m : Int)) = false := decide_eq_false (by omega)
      have him : i = d + p := by rw [← HM.out]; omega
      rw [him] at HK
      obtain ⟨w5, rfl⟩ : ∃ y, y = wr := ⟨wr, rfl⟩
      have hpos := Ld.len_pos (z := z) hd1
      have hrow := Ld.blind_rows (z := z) (rot := rot) hd1 hd hp1 hp
      have hblk := fun (lab : Int) (y : World) (hy : Below w5.heap.size w5 y) => ldBlock (z := z) (ts := Ld.blind z rot d p (d + p)) hd1 hd hp1 hp (Ld.blind_subs hd1 hd hp1 hp) (Ld.blind_short hd) (HK.out.old hy) HX.out lab (no := 0) hpos HM.out HM.out
      have htap := fun (y : World) (hy : Below w5.heap.size w5 y) => ldTape (z := z) (ts := Ld.blind z rot d p (d + p)) hd1 hd hp1 hp (Ld.blind_subs hd1 hd hp1 hp) (Ld.blind_short hd) (HK.out.old hy) HX.out (d : Int) ⟨by omega, Int.le_refl _⟩ HM.out HM.out (.inl hrow)
      have HBLK := Lib.hid hblk
      have HTAP := Lib.hid htap
      have HROW := Lib.hid hrow
      have HB5 : Hid (Below w.heap.size w w5) := Lib.hid (HB2.out.trans (HK.out.bel.mono HB2.out.size))
      obtain ⟨x0, x1, x2, x3, x4⟩ := seal5 HS.out
      clear hblk htap hpos hrow him hlt
      go_wp2_with fail
      refine (HBLK.out 1 w5 (Below.refl _ _)).mono ?_
      intro e w6 hb
      obtain ⟨hbel6, hb⟩ := hb
      have hcase : ∃ A9 m9 C9, e = .returned (.tuple #[.slice A9 m9 C9, .int .i64 10]) := by
        rcases hb with ⟨hno, -⟩ | ⟨-, -, A9, m9, C9, he⟩ | ⟨-, hr, -⟩
        · exact absurd ⟨Int.le_refl _, by omega⟩ hno
        · exact ⟨A9, m9, C9, he⟩
        · rw [HROW.out] at hr; cases hr
      obtain ⟨A9, m9, C9, rfl⟩ := hcase
      have HB6 := Lib.hid hbel6
      have HS6 := Lib.hid (below_obj hbel6 HS.out)
      clear hb hbel6 x0 x1 x2 x3 x4
      obtain ⟨x0, x1, x2, x3, x4⟩ := seal5 HS6.out
      go_wp2_with fail
      refine (HTAP.out w6 HB6.out).mono ?_
      intro e w7 hb
      obtain ⟨hbel7, hb⟩ := hb
      have hcase : ∃ a b A9 m9 C9 l9, e = .returned (.tuple #[.agg #[.int .i64 a, .int .i64 b, .slice A9 m9 C9, .bool l9], .int .i64 10]) := by
        rcases hb with ⟨-, a, b, A9, m9, C9, l9, he⟩ | ⟨hr, -⟩
        · exact ⟨a, b, A9, m9, C9, l9, he⟩
        · rw [HROW.out] at hr; cases hr
      obtain ⟨a8, b8, A8, m8, C8, l8, rfl⟩ := hcase
      obtain ⟨w8, hw8⟩ : ∃ y, y = w7.alloc (.cells #[.int .i64 a8, .int .i64 b8, .slice A8 m8 C8, .bool l8] 31) := ⟨_, rfl⟩
      have hb78 : Below w7.heap.size w7 w8 := by rw [hw8]; exact (Below.refl _ _).alloc (Nat.le_refl _) _
      have hb58 : Below w5.heap.size w5 w8 := HB6.out.trans ((hbel7.trans (hb78.mono hbel7.size)).mono HB6.out.size)
      have HB58 := Lib.hid hb58
      have HS8 := Lib.hid (below_obj hb58 HS.out)
      have HW8 := Lib.hid hw8
      clear hb hbel7 hw8 hb78 hb58 x0 x1 x2 x3 x4
      obtain ⟨x0, x1, x2, x3, x4⟩ := seal5 HS8.out
      rw [HW8.out] at x0 x1 x2 x3 x4
      go_wp2_with fail
      rw [← HW8.out]
      refine (HBLK.out 99 w8 HB58.out).mono ?_
      intro e w9 hb
      obtain ⟨hbel9, hb⟩ := hb
      have hcase : ∃ A9 m9 C9, e = .returned (.tuple #[.slice A9 m9 C9, .int .i64 1]) := by
        rcases hb with ⟨-, A9, m9, C9, he⟩ | ⟨hno, -⟩ | ⟨hno, -⟩
        · exact ⟨A9, m9, C9, he⟩
        · omega
        · omega
      obtain ⟨A7, m7, C7, rfl⟩ := hcase
      have HB9 := Lib.hid (HB5.out.trans ((HB58.out.trans (hbel9.mono HB58.out.size)).mono HB5.out.size))
      clear hb hbel9 x0 x1 x2 x3 x4
      go_wp2_with (first
        | (go_at_call 9; refine (num15 _ _).mono ?_; rintro e w' ⟨rfl, hw'⟩; subst hw'))
      go_ret
      exact ⟨rfl, HB9.out⟩
theorem mendBlind_walk (A : Option Addr) (n C : Nat) (z : Nat → Int) (p : Int) (rot : Bool) (w : World) (hr : RdI w A n z) :
    Calls Try.prog 4 #[.slice A n C, .int .i64 p, .bool rot] w fun e w' => e = .returned (.bool true) ∧ Below w.heap.size w w' := by
  by_cases h : n < 1 ∨ 6 < n ∨ p < 1 ∨ 4 < p
  · exact mendBlind_no A n C p rot w h
  · obtain ⟨x, rfl⟩ : ∃ k : Nat, p = (k : Int) := ⟨p.toNat, by omega⟩
    exact mendBlind_main A n C z x rot w (by omega) (by omega) (by omega) (by omega) hr
end Go.Proofs.Ytcokmmanajdioaa
