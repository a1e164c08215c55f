/- What package group asks of tapes: is one lost, has one blocks, is the room of one too small, are all blocks good. A block of a row as it is answered; 79 zeros in new memory. No function of the program. What slices.Clone makes of a row. What the inner functions blocks and block of package stripe answer. How long tapes are: Len of package stripe. -/
import Derived.Test.YtmfikihcoafekaaMai
import Derived.Test.YtmfikihcoafekaaMap
import Derived.Test.YtmfikihcoafekaaMae
import Derived.Test.YtmfikihcoafekaaMal
import Derived.Test.YtmfikihcoafekaaMag
namespace Go.Proofs.Ytmfikihcoafekaa
open Go.RowKit
open Pt (Tx)

/-- the tape as a value -/
def tapeV (lab cap : Int) (A : Option Addr) (n C : Nat) (lost : Bool) : Value := .agg #[.int .i64 lab, .int .i64 cap, .slice A n C, .bool lost]
theorem isLost_any (lab cap : Int) (A : Option Addr) (n C : Nat) (lost : Bool) (w : World) : Calls Try.prog 28 #[tapeV lab cap A n C lost] w (AnsB lost w) := by
  obtain ⟨hb, ht⟩ := tape_new w lab cap A n C lost
  obtain ⟨t0, t1, t2, t3⟩ := tape4 ht
  have HB := Lib.hid hb
  unfold tapeObj at t0 t1 t2 t3 HB
  unfold tapeV
  clear hb ht
  go_enter Try.func28, Try.ntmps28
  go_wp2
  go_ret
  exact ⟨rfl, HB.out⟩
theorem hasBlocks_any (lab cap : Int) (A : Option Addr) (n C : Nat) (lost : Bool) (w : World) : Calls Try.prog 30 #[tapeV lab cap A n C lost] w (AnsB (decide ((n : Int) > 0)) w) := by
  obtain ⟨hb, ht⟩ := tape_new w lab cap A n C lost
  obtain ⟨t0, t1, t2, t3⟩ := tape4 ht
  have HB := Lib.hid hb
  unfold tapeObj at t0 t1 t2 t3 HB
  unfold tapeV
  clear hb ht
  obtain ⟨d, hd⟩ : ∃ d, d = decide ((n : Int) > 0) := ⟨_, rfl⟩
  rw [← hd]
  have HD := Lib.hid hd
  clear hd
  go_enter Try.func30, Try.ntmps30
  go_wp2
  go_ret
  exact ⟨by rw [HD.out]; simp, HB.out⟩
set_option maxHeartbeats 2000000 in
theorem lost_index (A : Option Addr) (ts : List St.T) (C : Nat) (G : Nat → Prop) (w : World) (hn : ts.length ≤ 1000000) (hr : RdT w A ts G) :
    Calls Try.prog 45 #[.slice A ts.length C, .func (.func 28) #[] #[]] w fun e w' => ∃ z : Int, e = .returned (.int .i64 z) ∧ decide (0 ≤ z) = ts.any lostB ∧ Below w.heap.size w w' := by
  have HR := Lib.hid hr
  clear hr
  go_enter Try.func45, Try.ntmps45
  go_wp2
  go_loopw [8] (fun vi wr => ∃ k : Nat, k ≤ ts.length ∧ vi = .int .i64 (k : Int) ∧ Hid ((ts.take k).any lostB = false) ∧ Hid (Below w.heap.size w wr)) (fun vi _ => ts.length - (intOf vi).toNat)
  case atStart => exact ⟨0, Nat.zero_le _, rfl, Lib.hid rfl, Lib.hid (Below.refl _ _)⟩
  case round =>
    obtain ⟨k, hk, rfl, HN, HB⟩ := hrel
    by_cases hlt : k < ts.length
    · have e0 : decide (k < ts.length) = true := decide_eq_true hlt
      obtain ⟨b, off, A', C', rfl, -, c0, c1, c2, c3, hb⟩ := (HR.out.old HB.out).at_ hlt
      have HT := Lib.hid (any_take (p := lostB) hlt)
      have HA := Lib.hid (any_at (p := lostB) hlt)
      obtain ⟨⟨lab, cap, bs, lost⟩, ht⟩ : ∃ t, t = ts[k] := ⟨_, rfl⟩
      rw [← ht] at c0 c1 c2 c3 HT HA
      dsimp only at c0 c1 c2 c3
      have hcall := isLost_any lab cap A' bs.length C' lost wr
      obtain ⟨d, hd⟩ : ∃ d, d = lostB ⟨lab, cap, bs, lost⟩ := ⟨_, rfl⟩
      rw [← hd] at HT HA
      have hd' : lost = d := hd.symm
      rw [hd'] at hcall c3
      unfold tapeV at hcall
      have HC := Lib.hid hcall
      obtain ⟨m, hm⟩ : ∃ m, m = bs.length := ⟨_, rfl⟩
      rw [← hm] at c2 HC
      clear ht hb hcall hd hd' hm
      cases d with
      | true =>
        have HF := Lib.hid (HA.out rfl)
        clear HA HT
        go_wp2_with (go_at_call 28; refine HC.out.mono ?_; rintro e w1 ⟨rfl, hb1⟩; have HB1 := Lib.hid (HB.out.trans (hb1.mono HB.out.size)); clear hb1)
        go_ret
        exact ⟨(k : Int), rfl, by rw [HF.out]; exact decide_eq_true (by omega), HB1.out⟩
      | false =>
        have HF := Lib.hid (HT.out.trans (by rw [HN.out]; rfl) : (ts.take (k + 1)).any lostB = false)
        clear HA HT
        go_wp2_with (go_at_call 28; refine HC.out.mono ?_; rintro e w1 ⟨rfl, hb1⟩; have HB1 := Lib.hid (HB.out.trans (hb1.mono HB.out.size)); clear hb1)
        go_roundw
        case rel => exact ⟨k + 1, by omega, by go_num, HF, HB1⟩
        case measure => simp [intOf]; omega
    · have e0 : decide (k < ts.length) = false := decide_eq_false hlt
      have HF := Lib.hid (by have h := HN.out; rwa [List.take_of_length_le (by omega)] at h : ts.any lostB = false)
      go_wp2
      go_ret
      exact ⟨-1, rfl, by rw [HF.out]; rfl, HB.out⟩
theorem lost_contains (A : Option Addr) (ts : List St.T) (C : Nat) (G : Nat → Prop) (w : World) (hn : ts.length ≤ 1000000) (hr : RdT w A ts G) :
    Calls Try.prog 27 #[.slice A ts.length C, .func (.func 28) #[] #[]] w (AnsB (ts.any lostB) w) := by
  have HC := Lib.hid (lost_index A ts C G w hn hr)
  clear hr
  go_enter Try.func27, Try.ntmps27
  go_wp2_with fail
  refine HC.out.mono ?_
  rintro e w' ⟨z, rfl, hz, hb⟩
  have HZ := Lib.hid hz
  have HB := Lib.hid hb
  clear hz hb
  go_wp2
  go_ret
  exact ⟨by rw [← HZ.out]; rfl, HB.out⟩
set_option maxHeartbeats 2000000 in
theorem has_index (A : Option Addr) (ts : List St.T) (C : Nat) (G : Nat → Prop) (w : World) (hn : ts.length ≤ 1000000) (hr : RdT w A ts G) :
    Calls Try.prog 45 #[.slice A ts.length C, .func (.func 30) #[] #[]] w fun e w' => ∃ z : Int, e = .returned (.int .i64 z) ∧ decide (0 ≤ z) = ts.any hasB ∧ Below w.heap.size w w' := by
  have HR := Lib.hid hr
  clear hr
  go_enter Try.func45, Try.ntmps45
  go_wp2
  go_loopw [8] (fun vi wr => ∃ k : Nat, k ≤ ts.length ∧ vi = .int .i64 (k : Int) ∧ Hid ((ts.take k).any hasB = false) ∧ Hid (Below w.heap.size w wr)) (fun vi _ => ts.length - (intOf vi).toNat)
  case atStart => exact ⟨0, Nat.zero_le _, rfl, Lib.hid rfl, Lib.hid (Below.refl _ _)⟩
  case round =>
    obtain ⟨k, hk, rfl, HN, HB⟩ := hrel
    by_cases hlt : k < ts.length
    · have e0 : decide (k < ts.length) = true := decide_eq_true hlt
      obtain ⟨b, off, A', C', rfl, -, c0, c1, c2, c3, hb⟩ := (HR.out.old HB.out).at_ hlt
      have HT := Lib.hid (any_take (p := hasB) hlt)
      have HA := Lib.hid (any_at (p := hasB) hlt)
      obtain ⟨⟨lab, cap, bs, lost⟩, ht⟩ : ∃ t, t = ts[k] := ⟨_, rfl⟩
      rw [← ht] at c0 c1 c2 c3 HT HA
      dsimp only at c0 c1 c2 c3
      have hcall := hasBlocks_any lab cap A' bs.length C' lost wr
      obtain ⟨d, hd⟩ : ∃ d, d = hasB ⟨lab, cap, bs, lost⟩ := ⟨_, rfl⟩
      rw [← hd] at HT HA
      have hd' : decide ((bs.length : Int) > 0) = d := hd.symm
      rw [hd'] at hcall
      unfold tapeV at hcall
      have HC := Lib.hid hcall
      obtain ⟨m, hm⟩ : ∃ m, m = bs.length := ⟨_, rfl⟩
      rw [← hm] at c2 HC
      clear ht hb hcall hd hd' hm
      cases d with
      | true =>
        have HF := Lib.hid (HA.out rfl)
        clear HA HT
        go_wp2_with (go_at_call 30; refine HC.out.mono ?_; rintro e w1 ⟨rfl, hb1⟩; have HB1 := Lib.hid (HB.out.trans (hb1.mono HB.out.size)); clear hb1)
        go_ret
        exact ⟨(k : Int), rfl, by rw [HF.out]; exact decide_eq_true (by omega), HB1.out⟩
      | false =>
        have HF := Lib.hid (HT.out.trans (by rw [HN.out]; rfl) : (ts.take (k + 1)).any hasB = false)
        clear HA HT
        go_wp2_with (go_at_call 30; refine HC.out.mono ?_; rintro e w1 ⟨rfl, hb1⟩; have HB1 := Lib.hid (HB.out.trans (hb1.mono HB.out.size)); clear hb1)
        go_roundw
        case rel => exact ⟨k + 1, by omega, by go_num, HF, HB1⟩
        case measure => simp [intOf]; omega
    · have e0 : decide (k < ts.length) = false := decide_eq_false hlt
      have HF := Lib.hid (by have h := HN.out; rwa [List.take_of_length_le (by omega)] at h : ts.any hasB = false)
      go_wp2
      go_ret
      exact ⟨-1, rfl, by rw [HF.out]; rfl, HB.out⟩
theorem has_contains (A : Option Addr) (ts : List St.T) (C : Nat) (G : Nat → Prop) (w : World) (hn : ts.length ≤ 1000000) (hr : RdT w A ts G) :
    Calls Try.prog 27 #[.slice A ts.length C, .func (.func 30) #[] #[]] w (AnsB (ts.any hasB) w) := by
  have HC := Lib.hid (has_index A ts C G w hn hr)
  clear hr
  go_enter Try.func27, Try.ntmps27
  go_wp2_with fail
  refine HC.out.mono ?_
  rintro e w' ⟨z, rfl, hz, hb⟩
  have HZ := Lib.hid hz
  have HB := Lib.hid hb
  clear hz hb
  go_wp2
  go_ret
  exact ⟨by rw [← HZ.out]; rfl, HB.out⟩
theorem small_any (gb N : Nat) (hN : N ≤ 1000000) (lab cap : Int) (A : Option Addr) (n C : Nat) (lost : Bool) (w : World) (hgb : w.cell? ⟨gb, 0, none⟩ = some (.int .i64 (N : Int))) : Calls Try.prog 31 #[tapeV lab cap A n C lost, .pointer (some ⟨gb, 0, none⟩)] w (AnsB (decide (cap < (N : Int) + 2)) w) := by
  obtain ⟨hb, ht⟩ := tape_new w lab cap A n C lost
  obtain ⟨t0, t1, t2, t3⟩ := tape4 ht
  have g0 := (hb.cell (World.block_lt_of_cell? _ _ hgb)).trans hgb
  have s1 : IntKind.i64.wrap ((N : Int) + 2) = (N : Int) + 2 := IntWalk.i64_in _ (by omega)
  have HB := Lib.hid hb
  unfold tapeObj at t0 t1 t2 t3 HB g0
  unfold tapeV
  clear hb ht hgb
  go_enter Try.func31, Try.ntmps31
  go_wp2
  go_ret
  exact ⟨rfl, HB.out⟩
set_option maxHeartbeats 2000000 in
theorem small_index (gb N : Nat) (hN : N ≤ 1000000) (A : Option Addr) (ts : List St.T) (C : Nat) (G : Nat → Prop) (w : World) (hn : ts.length ≤ 1000000) (hr : RdT w A ts G) (hgb : w.cell? ⟨gb, 0, none⟩ = some (.int .i64 (N : Int))) :
    Calls Try.prog 45 #[.slice A ts.length C, .func (.func 31) #[] #[.pointer (some ⟨gb, 0, none⟩)]] w fun e w' => ∃ z : Int, e = .returned (.int .i64 z) ∧ decide (0 ≤ z) = ts.any (smallB N) ∧ Below w.heap.size w w' := by
  have HR := Lib.hid hr
  have HGB := Lib.hid hgb
  clear hr hgb
  go_enter Try.func45, Try.ntmps45
  go_wp2
  go_loopw [8] (fun vi wr => ∃ k : Nat, k ≤ ts.length ∧ vi = .int .i64 (k : Int) ∧ Hid ((ts.take k).any (smallB N) = false) ∧ Hid (Below w.heap.size w wr)) (fun vi _ => ts.length - (intOf vi).toNat)
  case atStart => exact ⟨0, Nat.zero_le _, rfl, Lib.hid rfl, Lib.hid (Below.refl _ _)⟩
  case round =>
    obtain ⟨k, hk, rfl, HN, HB⟩ := hrel
    by_cases hlt : k < ts.length
    · have e0 : decide (k < ts.length) = true := decide_eq_true hlt
      obtain ⟨b, off, A', C', rfl, -, c0, c1, c2, c3, hb⟩ := (HR.out.old HB.out).at_ hlt
      have HT := Lib.hid (any_take (p := (smallB N)) hlt)
      have HA := Lib.hid (any_at (p := (smallB N)) hlt)
      obtain ⟨⟨lab, cap, bs, lost⟩, ht⟩ : ∃ t, t = ts[k] := ⟨_, rfl⟩
      rw [← ht] at c0 c1 c2 c3 HT HA
      dsimp only at c0 c1 c2 c3
      have hcall := small_any gb N hN lab cap A' bs.length C' lost wr ((HB.out.cell (World.block_lt_of_cell? _ _ HGB.out)).trans HGB.out)
      obtain ⟨d, hd⟩ : ∃ d, d = (smallB N) ⟨lab, cap, bs, lost⟩ := ⟨_, rfl⟩
      rw [← hd] at HT HA
      have hd' : decide (cap < (N : Int) + 2) = d := hd.symm
      rw [hd'] at hcall
      unfold tapeV at hcall
      have HC := Lib.hid hcall
      obtain ⟨m, hm⟩ : ∃ m, m = bs.length := ⟨_, rfl⟩
      rw [← hm] at c2 HC
      clear ht hb hcall hd hd' hm
      cases d with
      | true =>
        have HF := Lib.hid (HA.out rfl)
        clear HA HT
        go_wp2_with (go_at_call 31; refine HC.out.mono ?_; rintro e w1 ⟨rfl, hb1⟩; have HB1 := Lib.hid (HB.out.trans (hb1.mono HB.out.size)); clear hb1)
        go_ret
        exact ⟨(k : Int), rfl, by rw [HF.out]; exact decide_eq_true (by omega), HB1.out⟩
      | false =>
        have HF := Lib.hid (HT.out.trans (by rw [HN.out]; rfl) : (ts.take (k + 1)).any (smallB N) = false)
        clear HA HT
        go_wp2_with (go_at_call 31; refine HC.out.mono ?_; rintro e w1 ⟨rfl, hb1⟩; have HB1 := Lib.hid (HB.out.trans (hb1.mono HB.out.size)); clear hb1)
        go_roundw
        case rel => exact ⟨k + 1, by omega, by go_num, HF, HB1⟩
        case measure => simp [intOf]; omega
    · have e0 : decide (k < ts.length) = false := decide_eq_false hlt
      have HF := Lib.hid (by have h := HN.out; rwa [List.take_of_length_le (by omega)] at h : ts.any (smallB N) = false)
      go_wp2
      go_ret
      exact ⟨-1, rfl, by rw [HF.out]; rfl, HB.out⟩
theorem small_contains (gb N : Nat) (hN : N ≤ 1000000) (A : Option Addr) (ts : List St.T) (C : Nat) (G : Nat → Prop) (w : World) (hn : ts.length ≤ 1000000) (hr : RdT w A ts G) (hgb : w.cell? ⟨gb, 0, none⟩ = some (.int .i64 (N : Int))) :
    Calls Try.prog 27 #[.slice A ts.length C, .func (.func 31) #[] #[.pointer (some ⟨gb, 0, none⟩)]] w (AnsB (ts.any (smallB N)) w) := by
  have HC := Lib.hid (small_index gb N hN A ts C G w hn hr hgb)
  clear hr hgb
  go_enter Try.func27, Try.ntmps27
  go_wp2_with fail
  refine HC.out.mono ?_
  rintro e w' ⟨z, rfl, hz, hb⟩
  have HZ := Lib.hid hz
  have HB := Lib.hid hb
  clear hz hb
  go_wp2
  go_ret
  exact ⟨by rw [← HZ.out]; rfl, HB.out⟩
set_option maxRecDepth 100000 in
set_option maxHeartbeats 4000000 in
theorem allGood_any (A : Option Addr) (ts : List St.T) (C : Nat) (G : Nat → Prop) (w : World) (hn : ts.length ≤ 1000000) (hl : ∀ t ∈ ts, t.blocks.length ≤ 1000000 ∧ ∀ s ∈ t.blocks, s.length ≤ 1000000) (hr : RdT w A ts G) :
    Calls Try.prog 29 #[.slice A ts.length C] w (AnsB (ts.all goodB) w) := by
  have HR := Lib.hid hr
  have HL := Lib.hid hl
  clear hr hl
  go_enter Try.func29, Try.ntmps29
  go_wp2
  go_loopw [10] (fun vi wr => ∃ i : Nat, i ≤ ts.length ∧ vi = .int .i64 (i : Int) ∧ Hid ((ts.take i).all goodB = true) ∧ Hid (Below w.heap.size w wr)) (fun vi _ => ts.length - (intOf vi).toNat)
  case atStart => exact ⟨0, Nat.zero_le _, rfl, Lib.hid rfl, Lib.hid (Below.refl _ _)⟩
  case round =>
    obtain ⟨i, hi, rfl, HN, HB⟩ := hrel
    by_cases hlt : i < ts.length
    · have e0 : decide (i < ts.length) = true := decide_eq_true hlt
      obtain ⟨b, off, A', C', rfl, -, c0, c1, c2, c3, hb⟩ := (HR.out.old HB.out).at_ hlt
      have HLI := Lib.hid (HL.out _ (List.getElem_mem hlt))
      have HT := Lib.hid (all_take (p := goodB) hlt)
      have HA := Lib.hid (all_at (p := goodB) hlt)
      obtain ⟨⟨lab, cap, bs, lost⟩, ht⟩ : ∃ t, t = ts[i] := ⟨_, rfl⟩
      rw [← ht] at c0 c1 c2 c3 hb HLI HT HA
      dsimp only at c0 c1 c2 c3 hb HLI
      have HG : Hid (goodB ⟨lab, cap, bs, lost⟩ = decide (∀ n, n < bs.length → (Vo.good ⟨lab, bs, lost⟩ n).isSome = true)) := Lib.hid rfl
      obtain ⟨L, hL⟩ : ∃ L, L = bs.length := ⟨_, rfl⟩
      rw [← hL] at c2 HG
      have HLL := Lib.hid hL
      have hLm : L ≤ 1000000 := by rw [hL]; exact HLI.out.1
      obtain ⟨wa, hwa⟩ : ∃ wa, wa = wr.alloc (tapeObj lab cap A' L C' lost) := ⟨_, rfl⟩
      have hba : Below wr.heap.size wr wa := by rw [hwa]; exact (Below.refl _ _).alloc (Nat.le_refl _) _
      have hTa : wa.heap[wr.heap.size]? = some (tapeObj lab cap A' L C' lost) := by rw [hwa]; exact Go.Deep.blk_alloc_new _ _
      have HTA := Lib.hid hTa
      have HBA := Lib.hid (HB.out.trans (hba.mono HB.out.size))
      have HRB := Lib.hid (hb.old hba)
      have HWA : Hid (wa = wr.alloc (.cells #[.int .i64 lab, .int .i64 cap, .slice A' L C', .bool lost] 32)) := Lib.hid hwa
      obtain ⟨t0, t1, t2, t3⟩ := tape4 hTa
      rw [HWA.out] at t0 t1 t2 t3
      clear ht hb hL hwa hba hTa
      go_wp2
      rw [← HWA.out]
      clear t0 t1 t2 t3 c0 c1 c2 c3
      obtain ⟨wo, rfl⟩ : ∃ x, x = wr := ⟨wr, rfl⟩
      go_loopw [17] (fun vn wr => ∃ n : Nat, n ≤ L ∧ vn = .int .i64 (n : Int) ∧ Hid (∀ m, m < n → (Vo.good ⟨lab, bs, lost⟩ m).isSome = true) ∧ Hid (Below wa.heap.size wa wr)) (fun vn _ => L - (intOf vn).toNat)
      case atStart => exact ⟨0, Nat.zero_le _, rfl, Lib.hid (fun m hm => absurd hm (by omega)), Lib.hid (Below.refl _ _)⟩
      case round =>
        obtain ⟨n, hnL, rfl, HM, HBI⟩ := hrel
        by_cases hlt2 : n < L
        · have e1 : decide (n < L) = true := decide_eq_true hlt2
          obtain ⟨t0, t1, t2, t3⟩ := tape4 (below_tape HBI.out HTA.out)
          have hcall := good_any lab cap bs A' L C' G lost (n : Int) wr HLL.out (HRB.out.old HBI.out) HLI.out.2
          have hgz : Vo.goodZ ⟨lab, bs, lost⟩ (n : Int) = Vo.good ⟨lab, bs, lost⟩ n := by
            unfold Vo.goodZ
            rw [if_neg (by omega)]; rfl
          rw [hgz] at hcall
          obtain ⟨o, ho⟩ : ∃ o, o = Vo.good ⟨lab, bs, lost⟩ n := ⟨_, rfl⟩
          rw [← ho] at hcall
          have HC := Lib.hid hcall
          have HO := Lib.hid ho
          clear hcall hgz ho
          go_wp2_with fail
          refine HC.out.mono ?_
          rintro e w1 ⟨A1, m1, C1, rfl, -, -, -, -, hb1⟩
          obtain ⟨⟨k1, l1, n1, d1⟩, hu⟩ : ∃ u, u = unitOf o := ⟨_, rfl⟩
          rw [← hu]
          dsimp only
          obtain ⟨wc, hwc⟩ : ∃ wc, wc = w1.alloc (unitObj k1 l1 n1 A1 m1 C1) := ⟨_, rfl⟩
          have HBC := Lib.hid (HBI.out.trans (((by rw [hwc]; exact hb1.alloc hb1.size _) : Below wr.heap.size wr wc).mono HBI.out.size))
          have HWC := Lib.hid hwc
          unfold unitObj at HWC
          clear hwc hu hb1 t0 t1 t2 t3
          cases o with
          | none =>
            have HF : Hid (ts.all goodB = false) := Lib.hid (HA.out (by
              rw [HG.out]
              exact decide_eq_false fun h => by have := h n hlt2; rw [← HO.out] at this; cases this))
            go_wp2
            rw [← HWC.out]
            go_ret
            exact ⟨by rw [HF.out]; rfl, HBA.out.trans (HBC.out.mono HBA.out.size)⟩
          | some u =>
            have HM2 : Hid (∀ m, m < n + 1 → (Vo.good ⟨lab, bs, lost⟩ m).isSome = true) := Lib.hid fun m hm => by
              by_cases e : m = n
              · rw [e, ← HO.out]; rfl
              · exact HM.out m (by omega)
            go_wp2
            rw [← HWC.out]
            go_roundw
            case rel => exact ⟨n + 1, by omega, by go_num, HM2, HBC⟩
            case measure => simp [intOf]; omega
        · have e1 : decide (n < L) = false := decide_eq_false hlt2
          have HN2 : Hid ((ts.take (i + 1)).all goodB = true) := Lib.hid (by
            rw [HT.out, HN.out, HG.out]
            exact decide_eq_true fun m hm => HM.out m (by omega))
          have HB2 := Lib.hid (HBA.out.trans (HBI.out.mono HBA.out.size))
          go_wp2
          go_roundw
          case rel => exact ⟨i + 1, by omega, by go_num, HN2, HB2⟩
          case measure => simp [intOf]; omega
    · have e0 : decide (i < ts.length) = false := decide_eq_false hlt
      have HF : Hid (ts.all goodB = true) := Lib.hid (by have h := HN.out; rwa [List.take_of_length_le (by omega)] at h)
      go_wp2
      go_ret
      exact ⟨by rw [HF.out]; rfl, HB.out⟩
end Go.Proofs.Ytmfikihcoafekaa
namespace Go.Proofs.Ytmfikihcoafekaa
open Go.RowKit Mx
open Pt (Tx)

/-- a block of a row: new memory, or no bytes -/
def BlkA (s : Tx) (w : World) (e : Ending) (w' : World) : Prop :=
  ∃ A C, e = .returned (.slice A s.length C) ∧ s.length ≤ C ∧ (A = none → s.length = 0 ∧ C = 0) ∧ Rd w' A s.length (rowL s) (w.heap.size ≤ ·) ∧ Below w.heap.size w w'
theorem BlkA.nil {w w' : World} (h : Below w.heap.size w w') : BlkA [] w (.returned (.slice none 0 0)) w' := ⟨none, 0, rfl, Nat.le_refl _, fun _ => ⟨rfl, rfl⟩, Rd.empty _ _ _ _, h⟩
theorem BlkA.of {s : Tx} {w w' : World} {g n C : Nat} (hn : n = s.length) (hC : n ≤ C) (hg : w.heap.size ≤ g) (hr : RowAt w' g n (rowL s)) (h : Below w.heap.size w w') : BlkA s w (.returned (.slice (some ⟨g, 0, none⟩) n C)) w' :=
  ⟨_, C, by rw [hn], by rw [← hn]; exact hC, fun h => (by cases h), by rw [← hn]; exact hr.rd _ hg, h⟩
theorem rowL_zeros : rowL St.zeros = fun _ => 0 := by
  funext i
  unfold rowL St.zeros
  rw [List.getD_eq_getElem?_getD, List.getElem?_replicate]
  split <;> rfl
theorem zeros_row {w : World} {g : Nat} (h : RowAt w g 79 (fun _ => 0)) : RowAt w g 79 (rowL St.zeros) := by rw [rowL_zeros]; exact h
theorem make79 : ∀ wx : World, (Instr.makeSlice 24 (.int .i64 79) (.int .i64 79)).run Try.prog wx = .ok (.slice (some ⟨wx.heap.size, 0, none⟩) 79 79) (wx.alloc (.cells (madeCells #[.int .u8 0] 79) 5)) := fun wx =>
  run_make_row' (P := Try.prog) 24 5 (.int .u8 0) 1 Try.underlying24 infoByte rfl .i64 .i64 79 (by decide) (by decide) wx
theorem zeros_new {w0 w : World} (h : Below w0.heap.size w0 w) : BlkA St.zeros w0 (.returned (.slice (some ⟨w.heap.size, 0, none⟩) 79 79)) (w.alloc (.cells (madeCells #[.int .u8 0] 79) 5)) :=
  BlkA.of (by rw [St.zeros_len]) (Nat.le_refl _) h.size (zeros_row (RowAt.made w 79)) (h.alloc h.size _)
end Go.Proofs.Ytmfikihcoafekaa
namespace Go.Proofs.Ytmfikihcoafekaa
open Go.RowKit Mx

set_option maxHeartbeats 1000000 in
theorem cloneRow_any (A : Option Addr) (n C : Nat) (r : Nat → Fe) (G : Nat → Prop) (w : World) (hn0 : 0 < n) (hn : n ≤ 1000000) (h : Rd w A n r G) :
    Calls Try.prog 70 #[.slice A n C] w (FreshRow n r w) := by
  obtain ⟨b, off, rfl, _, hc⟩ := h hn0
  obtain ⟨i0, hi, hz0, hz1, hz2⟩ := info_parts infoByte
  have hown : (w.alloc (.cells #[] 5)).ownsRow w.heap.size 5 1 (.slice (some ⟨w.heap.size, 0, none⟩) 0 0) 0 [] := World.ownsRow_made w #[] 0 (Nat.le_refl _) (by decide) rfl
  have hc' : ∀ j, j < n → (w.alloc (.cells #[] 5)).cell? ⟨b, off + j, none⟩ = some (.int .u8 (fi (r j))) := fun j hj => by
    rw [World.cell?_alloc_lt w _ _ (World.block_lt_of_cell? _ _ (hc j hj))]; exact hc j hj
  have HC := Lib.hid hc'
  clear hc hc' h
  have hnil : ∀ (w : World) (a : Option Addr) (n c n' c' : Nat), (binOp .eql 24 (.slice a n c) (.slice none n' c')).run Try.prog w = .ok (.bool a.isNone) w := fun w a n c n' c' => Lib.run_eql_slice_nil w _ _ a n c n' c' Try.underlying24
  go_enter Try.func70, Try.ntmps70
  go_wp2_with (at_builtin; refine wpList_append_own _ rfl _ _ 24 rfl w.heap.size 5 i0 (.int .u8 0) 1 1 Try.underlying24 hi hz0 hz1 hz2 rfl (by decide) _ _ _ rfl hown ⟨b, off, none⟩ n C (cellsOf n r) rfl (by rw [cellsOf_len, Nat.mul_one]) (Rd.cells HC.out) cellsOf_one (by unfold maxLen; omega) (by omega) (by simp) ?_)
  intro v' w' hown' hgrow _
  obtain ⟨g, C', rfl, hg, hC, hr⟩ := RowAt.of_owns hown' hn0
  have HB := Lib.hid (((Below.refl w.heap.size w).alloc (Nat.le_refl _) _).grown hgrow (by simp) (fun k hk => by simp [Value.ownBlock] at hk; omega))
  clear hown' hgrow hown HC hnil
  go_wp2
  go_ret
  exact ⟨g, C', rfl, hg, hC, hr, HB.out⟩
end Go.Proofs.Ytmfikihcoafekaa
namespace Go.Proofs.Ytmfikihcoafekaa
open Go.RowKit Mx
open Pt (Tx)

theorem blocks_lost (lab cap : Int) (A : Option Addr) (n C : Nat) (w : World) :
    Calls Try.prog 42 #[.agg #[.int .i64 lab, .int .i64 cap, .slice A n C, .bool true]] w fun e w' => e = .returned (.slice none 0 0) ∧ Below w.heap.size w w' := by
  have HB := Lib.hid (tape_new w lab cap A n C true).1
  unfold tapeObj at HB
  go_enter Try.func42, Try.ntmps42
  go_wp2
  go_ret
  exact ⟨rfl, HB.out⟩
theorem blocks_live (lab cap : Int) (A : Option Addr) (n C : Nat) (w : World) :
    Calls Try.prog 42 #[.agg #[.int .i64 lab, .int .i64 cap, .slice A n C, .bool false]] w fun e w' => e = .returned (.slice A n C) ∧ Below w.heap.size w w' := by
  have HB := Lib.hid (tape_new w lab cap A n C false).1
  unfold tapeObj at HB
  go_enter Try.func42, Try.ntmps42
  go_wp2
  go_ret
  exact ⟨rfl, HB.out⟩
set_option maxHeartbeats 1000000 in
theorem block_none (lab cap : Int) (A : Option Addr) (bs : List Tx) (C : Nat) (lost : Bool) (n : Int) (w : World) (h : lost = true ∨ n < 0 ∨ (bs.length : Int) ≤ n) :
    Calls Try.prog 51 #[.agg #[.int .i64 lab, .int .i64 cap, .slice A bs.length C, .bool lost], .int .i64 n] w (BlkA St.zeros w) := by
  obtain ⟨wa, hwa⟩ : ∃ wa, wa = w.alloc (tapeObj lab cap A bs.length C lost) := ⟨_, rfl⟩
  obtain ⟨hB, hT⟩ := tape_new w lab cap A bs.length C lost
  rw [← hwa] at hB hT
  have HB := Lib.hid hB
  have HW := Lib.hid hwa
  unfold tapeObj at HW
  have hmk := make79
  clear hB hT hwa
  cases lost with
  | true =>
    clear h
    by_cases h0 : n < 0
    · have q1 : decide (n < 0) = true := decide_eq_true h0
      go_enter Try.func51, Try.ntmps51
      go_wp2_with fail
      rw [← HW.out]
      refine (blocks_lost lab cap A bs.length C wa).mono ?_
      rintro e w1 ⟨rfl, hb1⟩
      have HB1 := Lib.hid (HB.out.trans (hb1.mono HB.out.size))
      clear hb1
      go_wp2
      go_ret
      exact zeros_new HB1.out
    · have q1 : decide (n < 0) = false := decide_eq_false h0
      have q2 : decide (0 ≤ n) = true := decide_eq_true (by omega)
      go_enter Try.func51, Try.ntmps51
      go_wp2_with fail
      rw [← HW.out]
      refine (blocks_lost lab cap A bs.length C wa).mono ?_
      rintro e w1 ⟨rfl, hb1⟩
      have HB1 := Lib.hid (HB.out.trans (hb1.mono HB.out.size))
      clear hb1
      go_wp2
      go_ret
      exact zeros_new HB1.out
  | false =>
    by_cases h0 : n < 0
    · have q1 : decide (n < 0) = true := decide_eq_true h0
      clear h
      go_enter Try.func51, Try.ntmps51
      go_wp2_with fail
      rw [← HW.out]
      refine (blocks_live lab cap A bs.length C wa).mono ?_
      rintro e w1 ⟨rfl, hb1⟩
      have HB1 := Lib.hid (HB.out.trans (hb1.mono HB.out.size))
      clear hb1
      go_wp2
      go_ret
      exact zeros_new HB1.out
    · have q1 : decide (n < 0) = false := decide_eq_false h0
      have h1 : (bs.length : Int) ≤ n := by
        rcases h with h | h | h
        · cases h
        · exact absurd h h0
        · exact h
      have q2 : decide ((bs.length : Int) ≤ n) = true := decide_eq_true h1
      clear h
      go_enter Try.func51, Try.ntmps51
      go_wp2_with fail
      rw [← HW.out]
      refine (blocks_live lab cap A bs.length C wa).mono ?_
      rintro e w1 ⟨rfl, hb1⟩
      have HB1 := Lib.hid (HB.out.trans (hb1.mono HB.out.size))
      clear hb1
      go_wp2
      go_ret
      exact zeros_new HB1.out
set_option maxHeartbeats 1000000 in
theorem block_some (lab cap : Int) (A : Option Addr) (bs : List Tx) (C : Nat) (G : Nat → Prop) (n : Nat) (w : World) (hn : n < bs.length) (hr : RdB w A bs G) :
    Calls Try.prog 51 #[.agg #[.int .i64 lab, .int .i64 cap, .slice A bs.length C, .bool false], .int .i64 (n : Int)] w (BlkA (if bs[n].length = 79 then bs[n] else []) w) := by
  obtain ⟨wa, hwa⟩ : ∃ wa, wa = w.alloc (tapeObj lab cap A bs.length C false) := ⟨_, rfl⟩
  obtain ⟨hB, hT⟩ := tape_new w lab cap A bs.length C false
  rw [← hwa] at hB hT
  have HB := Lib.hid hB
  have HW := Lib.hid hwa
  have HR := Lib.hid (hr.old hB)
  unfold tapeObj at HW
  have q1 : decide ((n : Int) < 0) = false := decide_eq_false (by omega)
  have q2 : decide ((bs.length : Int) ≤ (n : Int)) = false := decide_eq_false (by omega)
  have q3 : decide (bs.length ≤ n) = false := decide_eq_false (by omega)
  clear hB hT hwa hr
  obtain ⟨s, hs⟩ : ∃ s, s = bs[n] := ⟨_, rfl⟩
  rw [← hs]
  obtain ⟨m, hm⟩ : ∃ m, m = s.length := ⟨_, rfl⟩
  rw [← hm]
  have HS := Lib.hid hs
  have HM := Lib.hid hm
  clear hs hm
  by_cases hm79 : m = 79
  · have q4 : ((m : Int) == 79) = true := by rw [hm79]; rfl
    rw [if_pos hm79]
    have hm0 : 0 < m := by omega
    have hm1 : m ≤ 1000000 := by omega
    clear hm79
    go_enter Try.func51, Try.ntmps51
    go_wp2_with fail
    rw [← HW.out]
    refine (blocks_live lab cap A bs.length C wa).mono ?_
    rintro e w1 ⟨rfl, hb1⟩
    have HB1 := Lib.hid (HB.out.trans (hb1.mono HB.out.size))
    obtain ⟨b, off, A1, C1, rfl, -, hc1, -, -, hr1⟩ := (HR.out.old hb1).at_ hn
    have HR1 := Lib.hid hr1.rd
    rw [← HS.out] at hc1 HR1
    rw [← HM.out] at hc1 HR1
    clear hb1 hr1 HR
    go_wp2_with fail
    refine (cloneRow_any A1 m C1 (rowL s) _ w1 hm0 hm1 HR1.out).mono ?_
    rintro e w2 ⟨g, C2, rfl, hg, hC2, hr2, hb2⟩
    have HF := Lib.hid (BlkA.of (s := s) HM.out hC2 (Nat.le_trans HB1.out.size hg) hr2 (HB1.out.trans (hb2.mono HB1.out.size)))
    clear hr2 hb2
    go_wp2
    go_ret
    exact HF.out
  · have q4 : ((m : Int) == 79) = false := beq_eq_false_iff_ne.2 (by omega)
    rw [if_neg hm79]
    clear hm79
    go_enter Try.func51, Try.ntmps51
    go_wp2_with fail
    rw [← HW.out]
    refine (blocks_live lab cap A bs.length C wa).mono ?_
    rintro e w1 ⟨rfl, hb1⟩
    have HB1 := Lib.hid (HB.out.trans (hb1.mono HB.out.size))
    obtain ⟨b, off, A1, C1, rfl, -, hc1, -, -, hr1⟩ := (HR.out.old hb1).at_ hn
    have HR1 := Lib.hid hr1.rd
    rw [← HS.out] at hc1 HR1
    rw [← HM.out] at hc1 HR1
    clear hb1 hr1 HR
    go_wp2
    go_ret
    exact BlkA.nil HB1.out
theorem block_any (lab cap : Int) (A : Option Addr) (bs : List Tx) (C : Nat) (lost : Bool) (G : Nat → Prop) (n : Int) (w : World) (hr : RdB w A bs G) :
    Calls Try.prog 51 #[.agg #[.int .i64 lab, .int .i64 cap, .slice A bs.length C, .bool lost], .int .i64 n] w (BlkA (St.blk n ⟨lab, cap, bs, lost⟩) w) := by
  by_cases h : lost = true ∨ n < 0 ∨ (bs.length : Int) ≤ n
  · rw [St.blk_none h]
    exact block_none lab cap A bs C lost n w h
  · have h1 : lost = false := by cases lost with
      | true => exact absurd (.inl rfl) h
      | false => rfl
    subst h1
    have h2 : 0 ≤ n ∧ n < (bs.length : Int) := by
      constructor
      · exact Int.not_lt.1 fun h' => h (.inr (.inl h'))
      · exact Int.not_le.1 fun h' => h (.inr (.inr h'))
    obtain ⟨k, rfl⟩ : ∃ k : Nat, n = (k : Int) := ⟨n.toNat, by omega⟩
    have hk : k < bs.length := by omega
    have := block_some lab cap A bs C G k w hk hr
    by_cases h79 : bs[k].length = 79
    · rw [if_pos h79] at this
      rw [St.blk_some (t := ⟨lab, cap, bs, false⟩) rfl hk h79]; exact this
    · rw [if_neg h79] at this
      rw [St.blk_bad (t := ⟨lab, cap, bs, false⟩) rfl hk h79]; exact this
end Go.Proofs.Ytmfikihcoafekaa
namespace Go.Proofs.Ytmfikihcoafekaa
open Go.RowKit Mx
open Pt (Tx)

set_option maxHeartbeats 2000000 in
theorem len_any (A : Option Addr) (ts : List St.T) (C : Nat) (G : Nat → Prop) (w : World) (hn : ts.length ≤ maxLen) (hr : RdT w A ts G) :
    Calls Try.prog 25 #[.slice A ts.length C] w fun e w' => e = .returned (.int .i64 (St.len ts : Int)) ∧ Below w.heap.size w w' := by
  unfold maxLen at hn
  have HR := Lib.hid hr
  clear hr
  go_enter Try.func25, Try.ntmps25
  go_wp2
  go_loopw [8, 3] (fun vi vm wr => ∃ i m : Nat, i ≤ ts.length ∧ vi = .int .i64 (i : Int) ∧ vm = .int .i64 (m : Int) ∧ Hid (m = St.len (ts.take i)) ∧ Hid (Below w.heap.size w wr)) (fun vi _ _ => ts.length - (intOf vi).toNat)
  case atStart => exact ⟨0, 0, Nat.zero_le _, rfl, rfl, Lib.hid rfl, Lib.hid (Below.refl _ _)⟩
  case round =>
    obtain ⟨i, m, hi, rfl, rfl, HM, HB⟩ := hrel
    by_cases hlt : i < ts.length
    · obtain ⟨b, off, A', C', rfl, -, c0, c1, c2, c3, hb⟩ := (HR.out.old HB.out).at_ hlt
      obtain ⟨⟨lab, cap, bs, lost⟩, ht⟩ : ∃ t, t = ts[i] := ⟨_, rfl⟩
      have HT := Lib.hid ht
      rw [← ht] at c0 c1 c2 c3
      dsimp only at c0 c1 c2 c3
      clear ht hb
      have e0 : decide (i < ts.length) = true := decide_eq_true hlt
      have HB1 := Lib.hid (HB.out.alloc HB.out.size (tapeObj lab cap A' bs.length C' lost))
      unfold tapeObj at HB1
      cases lost with
      | true =>
        have HM1 : Hid (m = St.len (ts.take (i + 1))) := Lib.hid (by rw [St.len_take hlt, ← HM.out, ← HT.out]; simp [St.one])
        have hmx : max (m : Int) 0 = (m : Int) := by omega
        go_wp2_with fail
        refine (blocks_lost lab cap A' bs.length C' _).mono ?_
        rintro e w1 ⟨rfl, hb1⟩
        have HB2 := Lib.hid (HB1.out.trans (hb1.mono HB1.out.size))
        clear hb1 c0 c1 c2 c3
        go_wp2
        go_roundw
        case rel => exact ⟨i + 1, m, by omega, by go_num, rfl, HM1, HB2⟩
        case measure => simp [intOf]; omega
      | false =>
        obtain ⟨k, hk⟩ : ∃ k, k = bs.length := ⟨_, rfl⟩
        have HM1 : Hid (max m k = St.len (ts.take (i + 1))) := Lib.hid (by rw [St.len_take hlt, ← HM.out, ← HT.out, hk]; simp [St.one])
        rw [← hk] at c2 HB1
        clear hk
        go_wp2_with fail
        refine (blocks_live lab cap A' k C' _).mono ?_
        rintro e w1 ⟨rfl, hb1⟩
        have HB2 := Lib.hid (HB1.out.trans (hb1.mono HB1.out.size))
        clear hb1 c0 c1 c2 c3
        go_wp2
        go_roundw
        case rel => exact ⟨i + 1, max m k, by omega, by go_num, by congr 1; split <;> omega, HM1, HB2⟩
        case measure => simp [intOf]; omega
    · have e0 : decide (i < ts.length) = false := decide_eq_false hlt
      have HE : Hid (m = St.len ts) := Lib.hid (by rw [HM.out, St.len_all (by omega)])
      go_wp2
      go_ret
      exact ⟨by rw [HE.out]; rfl, HB.out⟩
end Go.Proofs.Ytmfikihcoafekaa
