/- The law WriteRooms. -/
import Derived.Test.YtndofmoepjfnfaaDoorMba
import Derived.Test.YtndofmoepjfnfaaDoorRefFmP
import Derived.Test.YtndofmoepjfnfaaDoorMau
namespace Go.Proofs.YtndofmoepjfnfaaDoor
open Go.RowKit
open Pt (Tx)

namespace Wk
/-- the marks that the law writes -/
def mk (j : Nat) : Fm.U := ⟨4, 3, (j : Int), []⟩
theorem mk_ok {j : Nat} (h : j ≤ 30) : Fm.Ok (mk j) := ⟨by unfold mk Fm.argOk; dsimp only; omega, Nat.zero_le _⟩
def mks (k : Nat) : List Tx := (List.range k).map fun j => Fm.blk (mk j)
theorem mks_len (k : Nat) : (mks k).length = k := by unfold mks; simp
theorem mks_succ (k : Nat) : mks (k + 1) = mks k ++ [Fm.blk (mk k)] := by unfold mks; rw [List.range_succ, List.map_append]; rfl
theorem mks_at {k j : Nat} (h : j < k) : (mks k)[j]? = some (Fm.blk (mk j)) := by unfold mks; rw [List.getElem?_map, List.getElem?_range h]; rfl
theorem turned_no : ∀ k : Fin 30, Fm.numberOf ((Fm.head ⟨4, 3, ((k.val : Nat) : Int), []⟩).set 7 5) ≠ ((k.val : Nat) : Int) := by decide +kernel
theorem turned_ne {j : Nat} (h : j < 30) : (Fm.parse ((Fm.blk (mk j)).set 7 5)).number ≠ (j : Int) := by
  have e : ((Fm.blk (mk j)).set 7 5).take 11 = (Fm.head (mk j)).set 7 5 := by
    have h1 : (Fm.blk (mk j)).take 11 = Fm.head (mk j) := by
      unfold Fm.blk Fm.body
      rw [List.append_assoc, List.append_assoc, List.take_append_of_le_length (by rw [Fm.head_len]; exact Nat.le_refl _), List.take_of_length_le (by rw [Fm.head_len]; exact Nat.le_refl _)]
    rw [List.take_set, h1]
  show Fm.numberOf (((Fm.blk (mk j)).set 7 5).take 11) ≠ _
  rw [e]
  exact turned_no ⟨j, h⟩
theorem room_in (t : St.T) : Wr.room true t = 0 := by unfold Wr.room; rw [if_pos (.inr rfl)]
theorem room_lost (i : Bool) (l c : Int) (bs : List Tx) : Wr.room i ⟨l, c, bs, true⟩ = 0 := by unfold Wr.room; rw [if_pos (.inl rfl)]
theorem room_blank (l c : Int) : Wr.room false ⟨l, c, [], false⟩ = max 0 (c - 1) := by unfold Wr.room; rw [if_neg (by simp), if_pos (by rfl)]
theorem room_part {k : Nat} {m : Int} (h0 : 0 < k) (h1 : k ≤ 30) (h2 : (k : Int) ≤ m) : Wr.room false ⟨3, m, mks k, false⟩ = m - (k : Int) := by
  unfold Wr.room
  have hok := mk_ok (show k - 1 ≤ 30 by omega)
  have hg : Vo.good ⟨3, mks k, false⟩ (k - 1) = some (mk (k - 1)) := by
    unfold Vo.good
    dsimp only
    rw [mks_at (by omega)]
    dsimp only
    rw [if_neg (by simp), Fm.parse_blk hok, if_pos ⟨Fm.good_blk hok, rfl, rfl⟩]
  dsimp only
  rw [mks_len, if_neg (by simp), if_neg (by omega), hg]
  show max 0 (m - (k : Int)) = _
  omega
theorem room_turned {k : Nat} {m : Int} (h0 : 0 < k) (h1 : k ≤ 30) : Wr.room false ⟨3, m, (mks k).set (k - 1) ((Fm.blk (mk (k - 1))).set 7 5), false⟩ = 0 := by
  unfold Wr.room
  have hg : Vo.good ⟨3, (mks k).set (k - 1) ((Fm.blk (mk (k - 1))).set 7 5), false⟩ (k - 1) = none := by
    unfold Vo.good
    dsimp only
    rw [List.getElem?_set_self (by rw [mks_len]; omega)]
    dsimp only
    rw [if_neg (by simp), if_neg (fun h => turned_ne (by omega) h.2.2)]
  dsimp only
  rw [List.length_set, mks_len, if_neg (by simp), if_neg (by omega), hg, if_neg (by simp)]
end Wk
theorem own_slice {w : World} {B : Nat} {t : TypeId} {v : Value} {n : Nat} {xs : List Value} (h : w.ownsRow B t 1 v n xs) : ∃ A C, v = .slice A n C := by
  rcases h.2 with ⟨rfl, h0⟩ | ⟨g, cap, cur, rfl, -⟩
  · exact ⟨none, 0, by rw [h0]⟩
  · exact ⟨_, _, rfl⟩

theorem low_own {w : World} {B B' : Nat} {v : Value} {l : Tx} (h : OwnL w B v l) (hB : B' ≤ B) : OwnL w B' v l := by
  refine ⟨h.1, ?_⟩
  rcases h.2 with h0 | ⟨g, cap, cur, rfl, hb', hr⟩
  · exact .inl h0
  · exact .inr ⟨g, cap, cur, rfl, Nat.le_trans hB hb', hr⟩
/-- the rooms of the one tape -/
theorem rooms_one (M : Int) (A : Option Addr) (C n : Nat) (bs : List Tx) (lost : Bool) (xs : List Sx) (A2 : Option Addr) (n2 C2 : Nat) (G G2 : Nat → Prop) (x : World) (hM : 0 ≤ M ∧ M ≤ 30) (hn : n = bs.length) (hn3 : n ≤ 30) (hb3 : ∀ b ∈ bs, b.length ≤ 1000000) (hr : RdB x A bs G) (hn2 : n2 = xs.length) (hm2 : n2 ≤ 1) (hx : encX.Rd x A2 xs G2) (hok : ∀ y ∈ xs, y.Ok x (fun _ => True)) (hwx : ∀ y ∈ xs, ∀ l ∈ y.s.labels, wfZ l) (hfl : (Wk.flat (xs.map Sx.s)).length ≤ 1000000) :
    Calls Tryd.prog 11 #[.slice (some ⟨x.heap.size, 0, none⟩) 1 1, .slice A2 n2 C2] (x.alloc (tapeObj 3 M A n C lost)) fun e w' => ∃ b off C', e = .returned (.slice (some ⟨b, off, none⟩) 1 C') ∧ w'.cell? ⟨b, off, none⟩ = some (.int .i64 (Wr.room (Gr.of (xs.map Sx.s) 3).isSome ⟨3, M, bs, lost⟩)) ∧ Below x.heap.size x w' := by
  subst hn
  have hb : Below x.heap.size x (x.alloc (tapeObj 3 M A bs.length C lost)) := (Below.refl _ _).alloc (Nat.le_refl _) _
  have hrt : RdT (x.alloc (tapeObj 3 M A bs.length C lost)) (some ⟨x.heap.size, 0, none⟩) [⟨3, M, bs, lost⟩] (fun _ => True) := fun _ => ⟨x.heap.size, 0, rfl, trivial, fun i hi => by
    have h0 : i = 0 := by simpa using hi
    subst h0
    obtain ⟨x0, x1, x2, x3⟩ := tape4 (Go.Deep.blk_alloc_new x (tapeObj 3 M A bs.length C lost))
    exact ⟨A, C, x0, x1, x2, x3, (hr.old hb).mono fun _ _ => trivial⟩⟩
  refine (rooms_any [⟨3, M, bs, lost⟩] xs (some ⟨x.heap.size, 0, none⟩) 1 1 A2 n2 C2 _ G2 _ rfl hrt (by decide) hn2 (by omega) (hx.old hb) (fun y hy => (hok y hy).old hb) hwx hfl (fun t ht => by
    rw [List.mem_singleton] at ht
    subst ht
    exact ⟨by dsimp only; omega, hb3, by rfl, by dsimp only; omega, by dsimp only; omega⟩)).mono ?_
  rintro e w' ⟨A', C', rfl, hr', hb'⟩
  obtain ⟨b, off, rfl, -, hc⟩ := hr' (by unfold Wr.rooms; simp)
  refine ⟨b, off, C', rfl, ?_, hb.trans (hb'.mono hb.size)⟩
  have := hc 0 (by unfold Wr.rooms; simp)
  exact this

set_option maxRecDepth 100000 in
set_option maxHeartbeats 16000000 in
theorem rooms_main (M K : Nat) (a2 : Int) (w : World) (hk : Kept w) (hM : M ≤ 30) (hKM : K ≤ M) (h0 : 0 ≤ a2) (h3 : a2 ≤ 3) :
    Calls Tryd.prog 4 #[.int .i64 (M : Int), .int .i64 (K : Int), .int .i64 a2] w fun e w' => e = .returned (.bool true) ∧ Below w.heap.size w w' := by
  have HAL := Lib.hid (alive20_true w hk)
  have d1 : decide ((M : Int) < 0) = false := decide_eq_false (by omega)
  have d2 : decide ((30 : Int) < (M : Int)) = false := decide_eq_false (by omega)
  have d3 : decide ((K : Int) < 0) = false := decide_eq_false (by omega)
  have d4 : decide ((M : Int) < (K : Int)) = false := decide_eq_false (by omega)
  have d4n : decide (M < K) = false := decide_eq_false (by omega)
  have d2n : decide (30 < M) = false := decide_eq_false (by omega)
  have d5 : decide (a2 < 0) = false := decide_eq_false (by omega)
  have d6 : decide ((3 : Int) < a2) = false := decide_eq_false (by omega)
  clear hk
  go_enter Tryd.func4, Tryd.ntmps4
  go_upto_region 4 with (go_at_call 5; refine HAL.out.mono ?_; rintro e w1 ⟨rfl, hb1⟩; have HB1 := Lib.hid hb1; clear hb1)
  obtain ⟨w2, hw2⟩ : ∃ x, x = w1.alloc (tapeObj 3 (M : Int) none 0 0 false) := ⟨_, rfl⟩
  have HW2 : Hid (w2 = w1.alloc (.cells #[.int .i64 3, .int .i64 (M : Int), .slice none 0 0, .bool false] 35)) := Lib.hid hw2
  have hT2 : w2.heap[w1.heap.size]? = some (tapeObj 3 (M : Int) none 0 0 false) := by rw [hw2]; exact Go.Deep.blk_alloc_new _ _
  have hs2 : w2.heap.size = w1.heap.size + 1 := by rw [hw2]; simp
  have hb2 : Below w.heap.size w w2 := by rw [hw2]; exact HB1.out.alloc HB1.out.size _
  obtain ⟨TB, hTB⟩ : ∃ x, x = w1.heap.size := ⟨_, rfl⟩
  have HTB := Lib.hid hTB
  rw [← hTB] at hT2 hs2
  have hTBw : w.heap.size ≤ TB := by rw [hTB]; exact HB1.out.size
  have HT2 := Lib.hid hT2
  have HS2 := Lib.hid hs2
  have HB2 := Lib.hid hb2
  clear hw2 hT2 hs2 hb2 hTB d1 d2 d3 d4 d5 d6 d2n d4n HAL
  go_upto_region 5 with fail
  rw [← HW2.out, ← HTB.out]
  clear HW2 HTB HB1
  go_wp2
  go_loopw [9] (fun vi wr => ∃ (i C : Nat) (A : Option Addr) (us : List Value), i ≤ K ∧ vi = .int .i64 (i : Int) ∧ us.length = i ∧ Hid (wr.heap[TB]? = some (tapeObj 3 (M : Int) A i C false)) ∧ Hid (TopB wr (TB + 1) (TB + 1 ≤ ·) (.slice A i C) us (Wk.mks i)) ∧ Hid (Below w.heap.size w wr)) (fun vi _ => K - (intOf vi).toNat)
  case atStart => exact ⟨0, 0, none, [], Nat.zero_le _, rfl, rfl, HT2, Lib.hid (TopB.nil _ _ _), HB2⟩
  case round =>
    clear HT2 HS2 HB2
    obtain ⟨i, C, A, us, hi, rfl, hul, HT, HO, HB⟩ := hrel
    obtain ⟨c0, c1, c2, c3⟩ := tape4 HT.out
    have htl := heap_lt HT.out
    have HUL := Lib.hid hul
    by_cases hlt : i < K
    · have e1 : decide ((i : Int) < (K : Int)) = true := decide_eq_true (by omega)
      have hok := Wk.mk_ok (show i ≤ 30 by omega)
      have HPUT : Hid (Calls Tryd.prog 10 #[.agg #[.int .i64 4, .int .i64 3, .int .i64 (i : Int), .slice none 0 0]] wr fun e w' => ∃ A n C, e = .returned (.tuple #[.slice A n C, .int .i64 0]) ∧ OwnL w' wr.heap.size (.slice A n C) (Fm.blk (Wk.mk i)) ∧ Below wr.heap.size wr w') := Lib.hid (by
        refine (refPut_own 4 3 (i : Int) none [] 0 0 (fun _ => True) wr rfl (fun _ => ⟨rfl, rfl⟩) (RdL.empty _ _ _)).mono ?_
        rintro e w' ⟨A', n', C', rfl, ho, hb⟩
        have e1 : Fm.err ⟨4, 3, (i : Int), []⟩ = 0 := Fm.err_ok hok
        have e2 : Fm.put ⟨4, 3, (i : Int), []⟩ = Fm.blk (Wk.mk i) := Fm.put_ok hok
        rw [e2] at ho
        exact ⟨A', n', C', by rw [e1], ho, hb⟩)
      clear hok
      go_upto_region 9 with (go_at_call 10; refine HPUT.out.mono ?_; rintro e w5 ⟨A5, n5, C5, rfl, hO5, hb5⟩; have HO5 := Lib.hid hO5; have HB5 := Lib.hid hb5; clear hO5 hb5)
      clear c0 c1 c2 c3 e1
      have hT5 := (HB5.out.block _ htl).trans HT.out
      obtain ⟨c0, c1, c2, c3⟩ := tape4 hT5
      obtain ⟨w6, hw6⟩ : ∃ x, x = w5.alloc (.cells #[.slice A5 n5 C5] 26) := ⟨_, rfl⟩
      have hb56 : Below w5.heap.size w5 w6 := by rw [hw6]; exact (Below.refl _ _).alloc (Nat.le_refl _) _
      have hb6 : Below wr.heap.size wr w6 := HB5.out.trans (hb56.mono HB5.out.size)
      have hT6 := (hb6.block _ htl).trans HT.out
      have hrow : w6.cell? ⟨w5.heap.size, 0, none⟩ = some (.slice A5 n5 C5) := by rw [hw6]; exact heap_cell (Go.Deep.blk_alloc_new _ _)
      have HTOP := Lib.hid (HO.out.old hb6).top
      have HO6 := Lib.hid (HO5.out.of_block (w' := w6) fun k e => hb56.block k (HO5.out.lt k e))
      have HB6 := Lib.hid hb6
      have HT6 := Lib.hid hT6
      have HROW := Lib.hid hrow
      have HW6 : Hid (w6 = w5.alloc (.cells [Value.slice A5 n5 C5].toArray 26)) := Lib.hid hw6
      have hbase : TB + 1 ≤ w6.heap.size := by have := hb6.size; omega
      have hul6 : us.length ≤ 1000000 := by omega
      clear hT5 hw6 hb56 hb6 hT6 hrow
      clear hul
      go_wp2_with (at_builtin; rw [← HW6.out]; refine wpList_append_tp w6 rfl _ _ rfl (TB + 1) _ us rfl HTOP.out hul6 w5.heap.size 0 1 A5 n5 C5 rfl HROW.out hbase ?_; intro v7 w7 hv7 hg7; obtain ⟨A7, C7, e7⟩ := own_slice hv7; rw [HUL.out] at e7; subst e7; have hne7 : some TB ≠ (Value.slice A i C).ownBlock := (fun e => by have := (HTOP.out.lt TB e.symm).1; omega); have hT7 := (hg7.block TB (heap_lt HT6.out) hne7).trans HT6.out; have HT7 := Lib.hid hT7; have k2 : w7.cell? ⟨TB, 2, none⟩ = some (.slice A i C) := (tape4 hT7).2.2.1; have f2 : w7.frozen? ⟨TB, 2, none⟩ = false := heap_frozen hT7; have HV7 := Lib.hid hv7; have HG7 := Lib.hid hg7; clear hv7 hg7 hT7 hne7)
      go_roundw
      case rel =>
        have hwl : TB + 1 ≤ wr.heap.size := by omega
        have hp := HO.out.push HB6.out (low_own HO6.out hwl) HO6.out.lo (fun k e => Nat.le_trans hwl (HO6.out.lo k e)) HV7.out HG7.out
        have hk := Kp.store w7 TB 2 (.slice A7 (i + 1) C7)
        refine ⟨i + 1, C7, A7, us ++ [.slice A5 n5 C5], by omega, by go_num, by rw [List.length_append, HUL.out]; rfl, Lib.hid ?_, Lib.hid ?_, Lib.hid ?_⟩
        · have := HT7.out
          unfold tapeObj at this
          rw [heap_set this]; rfl
        · rw [Wk.mks_succ]
          refine hp.kp hk (fun k c e h => ?_) (fun k e h => ?_)
          · subst e
            have h2 := HT7.out
            rw [h] at h2
            injection h2 with h2
            injection h2 with _ h3
            exact absurd h3 (by decide)
          · subst e
            exact absurd h (by show ¬ _ + 1 ≤ _; omega)
        · have h1 : Below w.heap.size w w7 := (HB.out.trans (HB6.out.mono HB.out.size)).grown HG7.out (Nat.le_trans HB.out.size HB6.out.size) fun k e => Nat.le_trans (Nat.le_trans hTBw (Nat.le_succ _)) (HTOP.out.lt k e).1
          exact h1.setCell hTBw _
      case measure => simp [intOf]; omega
    · have e1 : decide ((i : Int) < (K : Int)) = false := decide_eq_false (by omega)
      have hiK : i = K := by omega
      subst hiK
      clear e1 hi hlt
      have hKM' : (i : Int) ≤ (M : Int) := by omega
      have hmk : ∀ b ∈ Wk.mks i, b.length ≤ 1000000 := fun b hb => by
        unfold Wk.mks at hb
        obtain ⟨j, hj, rfl⟩ := List.mem_map.1 hb
        have := (Wk.blk_in (Wk.mk_ok (show j ≤ 30 by have := List.mem_range.1 hj; omega))).2
        omega
      have HMK := Lib.hid hmk
      have HRB := Lib.hid (HO.out.rdB)
      obtain ⟨F, hF⟩ : ∃ F, F = Wr.room false ⟨3, (M : Int), Wk.mks i, false⟩ := ⟨_, rfl⟩
      have hFv : F = if i = 0 ∧ 0 < M then (M : Int) - (i : Int) - 1 else (M : Int) - (i : Int) := by
        rw [hF]
        by_cases h : i = 0
        · subst h
          rw [show Wk.mks 0 = [] from rfl, Wk.room_blank]
          by_cases h2 : 0 < M
          · rw [if_pos ⟨rfl, h2⟩]; omega
          · rw [if_neg (fun h => h2 h.2)]; omega
        · rw [if_neg (fun hh => h hh.1)]
          exact Wk.room_part (by omega) (by omega) (by omega)
      have HF := Lib.hid hF
      have HFV := Lib.hid hFv
      have hw1 : IntKind.i64.wrap ((M : Int) - (i : Int)) = (M : Int) - (i : Int) := by rw [IntKind.wrap_i64]; omega
      have hw2 : IntKind.i64.wrap ((M : Int) - (i : Int) - 1) = (M : Int) - (i : Int) - 1 := by rw [IntKind.wrap_i64]; omega
      have HRM0 : Hid (Calls Tryd.prog 11 #[.slice (some ⟨wr.heap.size, 0, none⟩) 1 1, .slice none 0 0] (wr.alloc (.cells #[.int .i64 3, .int .i64 (M : Int), .slice A i C, .bool false] 35)) fun e w' => ∃ b off C', e = .returned (.slice (some ⟨b, off, none⟩) 1 C') ∧ w'.cell? ⟨b, off, none⟩ = some (.int .i64 F) ∧ Below wr.heap.size wr w') := Lib.hid (by
        rw [HF.out]
        exact rooms_one (M : Int) A C i (Wk.mks i) false [] none 0 0 _ (fun _ => True) wr (by omega) (Wk.mks_len i).symm (by omega) HMK.out HRB.out rfl (by decide) (Enc.Rd.nil _ _ _) (by simp) (by simp) (by simp [Wk.flat]))
      obtain ⟨x1, hx1⟩ : ∃ x, x = wr.setCell ⟨TB, 3, none⟩ (.bool true) := ⟨_, rfl⟩
      have HX1 := Lib.hid hx1
      have HB1 : Hid (Below w.heap.size w x1) := Lib.hid (by rw [hx1]; exact HB.out.setCell hTBw _)
      have hT1 : x1.heap[TB]? = some (tapeObj 3 (M : Int) A i C true) := by
        have := HT.out
        unfold tapeObj at this
        rw [hx1, heap_set this]; rfl
      have HT1 := Lib.hid hT1
      have HRM1 : Hid (Calls Tryd.prog 11 #[.slice (some ⟨x1.heap.size, 0, none⟩) 1 1, .slice none 0 0] (x1.alloc (.cells #[.int .i64 3, .int .i64 (M : Int), .slice A i C, .bool true] 35)) fun e w' => ∃ b off C', e = .returned (.slice (some ⟨b, off, none⟩) 1 C') ∧ w'.cell? ⟨b, off, none⟩ = some (.int .i64 0) ∧ Below x1.heap.size x1 w') := Lib.hid (by
        have hr : RdB x1 A (Wk.mks i) (fun k => TB + 1 ≤ k) := by
          rw [hx1]
          exact HRB.out.kp (Kp.store wr TB 3 _) fun b hb e => by subst e; omega
        have := rooms_one (M : Int) A C i (Wk.mks i) true [] none 0 0 _ (fun _ => True) x1 (by omega) (Wk.mks_len i).symm (by omega) HMK.out hr rfl (by decide) (Enc.Rd.nil _ _ _) (by simp) (by simp) (by simp [Wk.flat])
        rw [Wk.room_lost] at this
        exact this)
      obtain ⟨y1, hy1⟩ : ∃ x, x = wr.alloc (.cells #[.int .i64 3, .int .i64 4] 3) := ⟨_, rfl⟩
      obtain ⟨y2, hy2⟩ : ∃ x, x = y1.alloc (.cells #[.int .i64 1, .int .i64 0, .int .i64 1, .int .i64 1, .slice (some ⟨wr.heap.size, 0, none⟩) 2 2] 43) := ⟨_, rfl⟩
      have hby1 : Below wr.heap.size wr y1 := by rw [hy1]; exact (Below.refl _ _).alloc (Nat.le_refl _) _
      have hsy1 : y1.heap.size = wr.heap.size + 1 := by rw [hy1]; simp
      have hby2 : Below wr.heap.size wr y2 := by rw [hy2]; exact hby1.alloc hby1.size _
      have HY1 : Hid (y1 = wr.alloc (.cells #[.int .i64 3, .int .i64 4] 3)) := Lib.hid hy1
      have HY2 := Lib.hid hy2
      have HBY2 := Lib.hid (HB.out.trans (hby2.mono HB.out.size))
      have hTy2 := (hby2.block _ htl).trans HT.out
      have HTY2 := Lib.hid hTy2
      have HSY1 := Lib.hid hsy1
      have HRM2 : Hid (Calls Tryd.prog 11 #[.slice (some ⟨y2.heap.size, 0, none⟩) 1 1, .slice (some ⟨wr.heap.size + 1, 0, none⟩) 1 1] (y2.alloc (.cells #[.int .i64 3, .int .i64 (M : Int), .slice A i C, .bool false] 35)) fun e w' => ∃ b off C', e = .returned (.slice (some ⟨b, off, none⟩) 1 C') ∧ w'.cell? ⟨b, off, none⟩ = some (.int .i64 0) ∧ Below y2.heap.size y2 w') := Lib.hid (by
        have hS : y2.heap[wr.heap.size + 1]? = some (.cells #[.int .i64 1, .int .i64 0, .int .i64 1, .int .i64 1, .slice (some ⟨wr.heap.size, 0, none⟩) 2 2] 43) := by
          rw [hy2, ← hsy1]; exact Go.Deep.blk_alloc_new _ _
        have hL : y2.heap[wr.heap.size]? = some (.cells #[.int .i64 3, .int .i64 4] 3) := by
          have h12 : Below y1.heap.size y1 y2 := by rw [hy2]; exact (Below.refl _ _).alloc (Nat.le_refl _) _
          rw [h12.block _ (by omega), hy1]; exact Go.Deep.blk_alloc_new _ _
        have hrl : RdZ y2 (some ⟨wr.heap.size, 0, none⟩) [3, 4] (fun _ => True) := fun _ => ⟨wr.heap.size, 0, rfl, trivial, fun j hj => by
          have hj2 : j = 0 ∨ j = 1 := by have : j < 2 := hj; omega
          rcases hj2 with rfl | rfl <;> (rw [heap_cell hL]; rfl)⟩
        have hrx : encX.Rd y2 (some ⟨wr.heap.size + 1, 0, none⟩) [⟨⟨1, 0, 1, 1, [3, 4]⟩, some ⟨wr.heap.size, 0, none⟩, 2⟩] (fun _ => True) := fun _ => ⟨wr.heap.size + 1, 0, rfl, trivial, fun k hk j u hu => by
          have h0 : k = 0 := by simpa using hk
          subst h0
          rw [heap_cell hS]
          have e : 0 + 0 * encX.k + j = j := by omega
          rw [e]
          show (#[Value.int .i64 1, .int .i64 0, .int .i64 1, .int .i64 1, .slice (some ⟨wr.heap.size, 0, none⟩) 2 2] : Array Value)[j]? = some u
          rw [← Array.getElem?_toList]
          exact hu⟩
        have := rooms_one (M : Int) A C i (Wk.mks i) false [⟨⟨1, 0, 1, 1, [3, 4]⟩, some ⟨wr.heap.size, 0, none⟩, 2⟩] (some ⟨wr.heap.size + 1, 0, none⟩) 1 1 _ _ y2 (by omega) (Wk.mks_len i).symm (by omega) HMK.out (HRB.out.old hby2) rfl (by decide) hrx (fun y hy => by
          rw [List.mem_singleton] at hy
          subst hy
          exact ⟨(by show 2 ≤ 2; decide), (by show 2 ≤ maxLen; decide), (fun h => by cases h), hrl⟩) (fun y hy l hl => by
          rw [List.mem_singleton] at hy
          subst hy
          have hl2 : l = 3 ∨ l = 4 := by simpa using hl
          rcases hl2 with rfl | rfl <;> rfl) (by simp [Wk.flat])
        have hin : (Gr.of (([⟨⟨1, 0, 1, 1, [3, 4]⟩, some ⟨wr.heap.size, 0, none⟩, 2⟩] : List Sx).map Sx.s) 3).isSome = true := by
          simp [Gr.of]
        rw [hin, Wk.room_in] at this
        exact this)
      have f3 : wr.frozen? ⟨TB, 3, none⟩ = false := heap_frozen HT.out
      have eii : decide ((i : Int) < (i : Int)) = false := decide_eq_false (by omega)
      have einn : decide (i < i) = false := decide_eq_false (by omega)
      have hq : a2 = 0 ∨ a2 = 1 ∨ a2 = 2 ∨ a2 = 3 := by omega
      clear h0 h3 hx1 hy1 hy2 hby1 hby2 hsy1 hTy2
      by_cases hi0 : i = 0
      · have z1 : ((i : Int) == 0) = true := by rw [beq_iff_eq]; omega
        have z9 : decide ((0 : Int) < (i : Int)) = false := decide_eq_false (by omega)
        have z9n : decide (0 < i) = false := decide_eq_false (by omega)
        by_cases hm0 : 0 < M
        · have z2 : decide ((0 : Int) < (M : Int) - (i : Int)) = true := decide_eq_true (by omega)
          have z3 : decide (i < M) = true := decide_eq_true (by omega)
          have HV : Hid (F = (M : Int) - (i : Int) - 1) := Lib.hid (by rw [HFV.out, if_pos ⟨hi0, hm0⟩])
          clear hi0 hm0
          rcases hq with rfl | rfl | rfl | rfl
          · have HRM := Lib.hid (by have h := HRM0.out; rw [HV.out] at h; exact h)
            clear HRM0 HRM1 HRM2 f3 hT1
            go_wp2_with (go_at_call 11; refine HRM.out.mono ?_; rintro e w9 ⟨b9, o9, C9, rfl, hc9, hb9⟩; have HB9 := Lib.hid (HB.out.trans (hb9.mono HB.out.size)); clear hb9)
            go_ret
            exact ⟨rfl, HB9.out⟩
          · obtain ⟨k0, k1, k2, k3⟩ := tape4 HT1.out
            clear HRM0 HRM2 hT1
            go_upto_region 17 with fail
            rw [← HX1.out]
            clear c0 c1 c2 c3 f3
            go_wp2_with (go_at_call 11; refine HRM1.out.mono ?_; rintro e w9 ⟨b9, o9, C9, rfl, hc9, hb9⟩; have HB9 := Lib.hid (HB1.out.trans (hb9.mono HB1.out.size)); clear hb9)
            go_ret
            exact ⟨rfl, HB9.out⟩
          · obtain ⟨k0, k1, k2, k3⟩ := tape4 HTY2.out
            have hsy := HSY1.out
            clear HRM0 HRM1 hT1 f3
            go_upto_region 20 with fail
            rw [← HY1.out, ← HY2.out]
            clear c0 c1 c2 c3
            go_wp2_with (go_at_call 11; refine HRM2.out.mono ?_; rintro e w9 ⟨b9, o9, C9, rfl, hc9, hb9⟩; have HB9 := Lib.hid (HBY2.out.trans (hb9.mono HBY2.out.size)); clear hb9)
            go_ret
            exact ⟨rfl, HB9.out⟩
          · have HRM := Lib.hid (by have h := HRM0.out; rw [HV.out] at h; exact h)
            clear HRM0 HRM1 HRM2 f3 hT1
            go_wp2_with (go_at_call 11; refine HRM.out.mono ?_; rintro e w9 ⟨b9, o9, C9, rfl, hc9, hb9⟩; have HB9 := Lib.hid (HB.out.trans (hb9.mono HB.out.size)); clear hb9)
            go_ret
            exact ⟨rfl, HB9.out⟩
        · have z2 : decide ((0 : Int) < (M : Int) - (i : Int)) = false := decide_eq_false (by omega)
          have z3 : decide (i < M) = false := decide_eq_false (by omega)
          have HV : Hid (F = (M : Int) - (i : Int)) := Lib.hid (by rw [HFV.out, if_neg (fun h => hm0 h.2)])
          clear hi0 hm0
          rcases hq with rfl | rfl | rfl | rfl
          · have HRM := Lib.hid (by have h := HRM0.out; rw [HV.out] at h; exact h)
            clear HRM0 HRM1 HRM2 f3 hT1
            go_wp2_with (go_at_call 11; refine HRM.out.mono ?_; rintro e w9 ⟨b9, o9, C9, rfl, hc9, hb9⟩; have HB9 := Lib.hid (HB.out.trans (hb9.mono HB.out.size)); clear hb9)
            go_ret
            exact ⟨rfl, HB9.out⟩
          · obtain ⟨k0, k1, k2, k3⟩ := tape4 HT1.out
            clear HRM0 HRM2 hT1
            go_upto_region 17 with fail
            rw [← HX1.out]
            clear c0 c1 c2 c3 f3
            go_wp2_with (go_at_call 11; refine HRM1.out.mono ?_; rintro e w9 ⟨b9, o9, C9, rfl, hc9, hb9⟩; have HB9 := Lib.hid (HB1.out.trans (hb9.mono HB1.out.size)); clear hb9)
            go_ret
            exact ⟨rfl, HB9.out⟩
          · obtain ⟨k0, k1, k2, k3⟩ := tape4 HTY2.out
            have hsy := HSY1.out
            clear HRM0 HRM1 hT1 f3
            go_upto_region 20 with fail
            rw [← HY1.out, ← HY2.out]
            clear c0 c1 c2 c3
            go_wp2_with (go_at_call 11; refine HRM2.out.mono ?_; rintro e w9 ⟨b9, o9, C9, rfl, hc9, hb9⟩; have HB9 := Lib.hid (HBY2.out.trans (hb9.mono HBY2.out.size)); clear hb9)
            go_ret
            exact ⟨rfl, HB9.out⟩
          · have HRM := Lib.hid (by have h := HRM0.out; rw [HV.out] at h; exact h)
            clear HRM0 HRM1 HRM2 f3 hT1
            go_wp2_with (go_at_call 11; refine HRM.out.mono ?_; rintro e w9 ⟨b9, o9, C9, rfl, hc9, hb9⟩; have HB9 := Lib.hid (HB.out.trans (hb9.mono HB.out.size)); clear hb9)
            go_ret
            exact ⟨rfl, HB9.out⟩
      · have z1 : ((i : Int) == 0) = false := by rw [beq_eq_false_iff_ne]; omega
        have z9 : decide ((0 : Int) < (i : Int)) = true := decide_eq_true (by omega)
        have z9n : decide (0 < i) = true := decide_eq_true (by omega)
        have HI0 := Lib.hid hi0
        have HV : Hid (F = (M : Int) - (i : Int)) := Lib.hid (by rw [HFV.out, if_neg (fun h => hi0 h.1)])
        clear hi0
        rcases hq with rfl | rfl | rfl | rfl
        · have HRM := Lib.hid (by have h := HRM0.out; rw [HV.out] at h; exact h)
          clear HRM0 HRM1 HRM2 f3 hT1
          go_wp2_with (go_at_call 11; refine HRM.out.mono ?_; rintro e w9 ⟨b9, o9, C9, rfl, hc9, hb9⟩; have HB9 := Lib.hid (HB.out.trans (hb9.mono HB.out.size)); clear hb9)
          go_ret
          exact ⟨rfl, HB9.out⟩
        · obtain ⟨k0, k1, k2, k3⟩ := tape4 HT1.out
          clear HRM0 HRM2 hT1
          go_upto_region 17 with fail
          rw [← HX1.out]
          clear c0 c1 c2 c3 f3
          go_wp2_with (go_at_call 11; refine HRM1.out.mono ?_; rintro e w9 ⟨b9, o9, C9, rfl, hc9, hb9⟩; have HB9 := Lib.hid (HB1.out.trans (hb9.mono HB1.out.size)); clear hb9)
          go_ret
          exact ⟨rfl, HB9.out⟩
        · obtain ⟨k0, k1, k2, k3⟩ := tape4 HTY2.out
          have hsy := HSY1.out
          clear HRM0 HRM1 hT1 f3
          go_upto_region 20 with fail
          rw [← HY1.out, ← HY2.out]
          clear c0 c1 c2 c3
          go_wp2_with (go_at_call 11; refine HRM2.out.mono ?_; rintro e w9 ⟨b9, o9, C9, rfl, hc9, hb9⟩; have HB9 := Lib.hid (HBY2.out.trans (hb9.mono HBY2.out.size)); clear hb9)
          go_ret
          exact ⟨rfl, HB9.out⟩
        · clear HRM0 HRM1 HRM2 hT1 f3 HX1 HB1 HT1 HY1 HY2 HBY2 HTY2 HSY1
          have hi0 := HI0.out
          rcases HO.out.top.2 with ⟨e, h00⟩ | ⟨ga, cap, cur, e, hgB, hg, hnc, hcm, hsz, ht⟩
          · have := HUL.out
            rw [h00] at this
            exact absurd this.symm hi0
          injection e with e1 e2 e3
          subst e1 e3
          have hql : i - 1 < us.length := by rw [HUL.out]; omega
          have hql' : i - 1 < (Wk.mks i).length := by rw [Wk.mks_len]; omega
          have hrow := HO.out.rows (i - 1) hql hql'
          have hbq : (Wk.mks i)[i - 1] = Fm.blk (Wk.mk (i - 1)) := by
            have h := Wk.mks_at (k := i) (j := i - 1) (by omega)
            rw [List.getElem?_eq_getElem hql'] at h
            exact Option.some.inj h
          rw [hbq] at hrow
          have hlen : 7 < (Fm.blk (Wk.mk (i - 1))).length := by rw [Fm.blk_len (Wk.mk_ok (by omega))]; omega
          obtain ⟨nl, hnl⟩ : ∃ n, n = (Fm.blk (Wk.mk (i - 1))).length := ⟨_, rfl⟩
          have hur : ∃ gr Cr, us[i - 1] = .slice (some ⟨gr, 0, none⟩) nl Cr ∧ TB + 1 ≤ gr ∧ (∃ c, wr.heap[gr]? = some (.cells c 5 (0, 0))) ∧ ∃ z, wr.cell? ⟨gr, 7, none⟩ = some (.int .u8 z) := by
            obtain ⟨A', C', hv, -, -, hn', hrd⟩ := hrow.rd
            obtain ⟨gr, og, rfl, hG, hcell⟩ := hrd (by omega)
            have hob : us[i - 1].ownBlock = some gr := hG.2
            have h0 : og = 0 := by
              rcases hrow.2 with ⟨e, h00⟩ | ⟨g', cap', cur', e, hb', hg', -⟩
              · rw [e] at hv; cases hv
              · rw [e] at hv
                injection hv with hv1
                injection hv1 with hv1
                injection hv1 with _ hv2
                exact hv2.symm
            subst h0
            refine ⟨gr, C', by rw [hv, hnl], hG.1, hrow.block gr hob, ?_⟩
            have := hcell 7 hlen
            rw [Nat.zero_add] at this
            exact ⟨_, this⟩
          obtain ⟨gr, Cr, hu, hgr, ⟨cr, hgc⟩, z7, hz7⟩ := hur
          have hcq : wr.cell? ⟨ga, i - 1, none⟩ = some (.slice (some ⟨gr, 0, none⟩) nl Cr) := by
            have hx : us[i - 1]? = some (.slice (some ⟨gr, 0, none⟩) nl Cr) := by rw [List.getElem?_eq_getElem hql, hu]
            rw [← ht, List.getElem?_take, if_pos (by rw [Nat.mul_one]; exact hql), Array.getElem?_toList] at hx
            rw [heap_cell hg, hx]
          have htt := HO.out.turned hql hql' hu hbq hlen 5
          obtain ⟨x3, hx3⟩ : ∃ x, x = wr.setCell ⟨gr, 7, none⟩ (.int .u8 5) := ⟨_, rfl⟩
          have htt3 : TopB x3 (TB + 1) (TB + 1 ≤ ·) (.slice (some ⟨ga, 0, none⟩) i C) us ((Wk.mks i).set (i - 1) ((Fm.blk (Wk.mk (i - 1))).set 7 5)) := by rw [hx3]; exact htt
          have HT3 : Hid (x3.heap[TB]? = some (tapeObj 3 (M : Int) (some ⟨ga, 0, none⟩) i C false)) := Lib.hid (by
            rw [hx3]
            exact ((Kp.store wr gr 7 _).block TB htl (by omega)).trans HT.out)
          have HB3 : Hid (Below w.heap.size w x3) := Lib.hid (by rw [hx3]; exact HB.out.setCell (by show w.heap.size ≤ gr; omega) _)
          have HRM3 : Hid (Calls Tryd.prog 11 #[.slice (some ⟨x3.heap.size, 0, none⟩) 1 1, .slice none 0 0] (x3.alloc (.cells #[.int .i64 3, .int .i64 (M : Int), .slice (some ⟨ga, 0, none⟩) i C, .bool false] 35)) fun e w' => ∃ b off C', e = .returned (.slice (some ⟨b, off, none⟩) 1 C') ∧ w'.cell? ⟨b, off, none⟩ = some (.int .i64 0) ∧ Below x3.heap.size x3 w') := Lib.hid (by
            have := rooms_one (M : Int) (some ⟨ga, 0, none⟩) C i ((Wk.mks i).set (i - 1) ((Fm.blk (Wk.mk (i - 1))).set 7 5)) false [] none 0 0 _ (fun _ => True) x3 (by omega) (by rw [List.length_set, Wk.mks_len]) (by omega) (fun b hb => by
              rcases List.mem_or_eq_of_mem_set hb with h | h
              · exact HMK.out b h
              · rw [h, List.length_set]
                exact HMK.out _ (by rw [← hbq]; exact List.getElem_mem hql')) htt3.rdB rfl (by decide) (Enc.Rd.nil _ _ _) (by simp) (by simp) (by simp [Wk.flat])
            have hno : (Gr.of (([] : List Sx).map Sx.s) 3).isSome = false := rfl
            rw [hno, Wk.room_turned (by omega) (by omega)] at this
            exact this)
          have HX3 := Lib.hid hx3
          have f7 : wr.frozen? ⟨gr, 7, none⟩ = false := heap_frozen hgc
          have hw5 : IntKind.i64.wrap ((i : Int) - 1) = (i : Int) - 1 := by rw [IntKind.wrap_i64]; omega
          have j1 : (0 : Int) ≤ (i : Int) - 1 := by omega
          have j2 : (i : Int) - 1 < (i : Int) := by omega
          have j3 : ((i : Int) - 1).toNat = i - 1 := by omega
          have j4 : i - 1 < i := by omega
          have j5 : (7 : Int) < (nl : Int) := by omega
          have j6 : 7 < nl := by omega
          obtain ⟨k0, k1, k2, k3⟩ := tape4 HT3.out
          clear hgc hg ht htt htt3 hx3 hrow hbq hlen hnl hu hnc hcm hsz e2 hql hql' HMK HRB
          go_upto_region 24 with fail
          rw [← HX3.out]
          clear c0 c1 c2 c3 hcq hz7 f7 hw5 j1 j2 j3 j4 j5 j6
          go_wp2_with (go_at_call 11; refine HRM3.out.mono ?_; rintro e w9 ⟨b9, o9, C9, rfl, hc9, hb9⟩; have HB9 := Lib.hid (HB3.out.trans (hb9.mono HB3.out.size)); clear hb9)
          go_ret
          exact ⟨rfl, HB9.out⟩
set_option maxRecDepth 100000 in
set_option maxHeartbeats 16000000 in
theorem writeRooms_walk (a0 a1 a2 : Int) (w : World) (sh : w.ShapedOpen Tryd.prog) :
    Calls Tryd.prog 4 #[.int .i64 a0, .int .i64 a1, .int .i64 a2] w fun e w' => e = .returned (.bool true) ∧ Below w.heap.size w w' := by
  have HAL := Lib.hid (alive20_true w (kept_of sh))
  have HK := Lib.hid (kept_of sh)
  clear sh
  by_cases c0 : a0 < 0
  · have d0 : decide (a0 < 0) = true := decide_eq_true c0
    go_enter Tryd.func4, Tryd.ntmps4
    go_wp2_with (go_at_call 5; refine HAL.out.mono ?_; rintro e w1 ⟨rfl, hb1⟩; have HB1 := Lib.hid hb1; clear hb1)
    go_ret
    exact ⟨rfl, HB1.out⟩
  have d0 : decide (a0 < 0) = false := decide_eq_false c0
  by_cases c1 : (30 : Int) < a0
  · have d1 : decide ((30 : Int) < a0) = true := decide_eq_true c1
    go_enter Tryd.func4, Tryd.ntmps4
    go_wp2_with (go_at_call 5; refine HAL.out.mono ?_; rintro e w1 ⟨rfl, hb1⟩; have HB1 := Lib.hid hb1; clear hb1)
    go_ret
    exact ⟨rfl, HB1.out⟩
  have d1 : decide ((30 : Int) < a0) = false := decide_eq_false c1
  by_cases c2 : a1 < 0
  · have d2 : decide (a1 < 0) = true := decide_eq_true c2
    go_enter Tryd.func4, Tryd.ntmps4
    go_wp2_with (go_at_call 5; refine HAL.out.mono ?_; rintro e w1 ⟨rfl, hb1⟩; have HB1 := Lib.hid hb1; clear hb1)
    go_ret
    exact ⟨rfl, HB1.out⟩
  have d2 : decide (a1 < 0) = false := decide_eq_false c2
  by_cases c3 : a0 < a1
  · have d3 : decide (a0 < a1) = true := decide_eq_true c3
    go_enter Tryd.func4, Tryd.ntmps4
    go_wp2_with (go_at_call 5; refine HAL.out.mono ?_; rintro e w1 ⟨rfl, hb1⟩; have HB1 := Lib.hid hb1; clear hb1)
    go_ret
    exact ⟨rfl, HB1.out⟩
  have d3 : decide (a0 < a1) = false := decide_eq_false c3
  by_cases c4 : a2 < 0
  · have d4 : decide (a2 < 0) = true := decide_eq_true c4
    go_enter Tryd.func4, Tryd.ntmps4
    go_wp2_with (go_at_call 5; refine HAL.out.mono ?_; rintro e w1 ⟨rfl, hb1⟩; have HB1 := Lib.hid hb1; clear hb1)
    go_ret
    exact ⟨rfl, HB1.out⟩
  have d4 : decide (a2 < 0) = false := decide_eq_false c4
  by_cases c5 : (3 : Int) < a2
  · have d5 : decide ((3 : Int) < a2) = true := decide_eq_true c5
    go_enter Tryd.func4, Tryd.ntmps4
    go_wp2_with (go_at_call 5; refine HAL.out.mono ?_; rintro e w1 ⟨rfl, hb1⟩; have HB1 := Lib.hid hb1; clear hb1)
    go_ret
    exact ⟨rfl, HB1.out⟩
  have d5 : decide ((3 : Int) < a2) = false := decide_eq_false c5
  obtain ⟨M, rfl⟩ : ∃ M : Nat, a0 = (M : Int) := ⟨a0.toNat, by omega⟩
  obtain ⟨K, rfl⟩ : ∃ K : Nat, a1 = (K : Int) := ⟨a1.toNat, by omega⟩
  exact rooms_main M K a2 w HK.out (by omega) (by omega) (by omega) (by omega)
end Go.Proofs.YtndofmoepjfnfaaDoor
