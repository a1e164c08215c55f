/- How many members are gone, by the document's own LostMembers. What the laws of chapter 16 ask: Same of lists that are alike, alive. What Few of chapter 8's law answers. What Few of chapter 13's law answers. What the walk is told of a row of bytes that came in as an argument. -/
import Derived.Test.YtnbfkihgloipiaaMo
import Derived.Test.YtnbfkihgloipiaaMk
import Derived.Laws.StructEq
import Derived.BigQuiet
import Derived.Deep.QuietTactic
import Derived.Test.YtnbfkihgloipiaaMj
import Derived.Test.YtnbfkihgloipiaaChecked
import Derived.OwnWalk
import Derived.Handy
import Derived.WalkSpells
import Derived.WalkLawsBesides
import Derived.Test.YtnbfkihgloipiaaMf
import Derived.Test.YtnbfkihgloipiaaRows
import Derived.Test.YtnbfkihgloipiaaMb
import Derived.OpenShut
namespace Go.Proofs.Ytnbfkihgloipiaa
open Go.RowKit Vf
open Pt (Tx)

theorem Vf.first_there {ts : List St.T} {lab : Int} {k : Nat} (hk : k < ts.length) (h : ts[k].label = lab) (hn : ∀ j (hj : j < ts.length), j < k → ts[j].label ≠ lab) : Me.first ts lab = ts[k] := by
  unfold Me.first
  have e : (ts.take k ++ ts.drop k).find? (fun t => decide (t.label = lab)) = some ts[k] := by
    rw [List.find?_append, List.find?_eq_none.2 (fun t ht => ?_), List.drop_eq_getElem_cons hk]
    · rw [Option.none_or, List.find?_cons]; simp [h]
    · obtain ⟨j, hj, rfl⟩ := List.mem_iff_getElem.1 ht
      rw [List.length_take] at hj
      rw [List.getElem_take]
      simpa using hn j (by omega) (by omega)
  rw [List.take_append_drop] at e
  rw [e]; rfl
theorem fourS_kp (w : World) (g : Nat) (a b c d : Value) : Kp (· = g) w ((((w.setCell ⟨g, 0, none⟩ a).setCell ⟨g, 1, none⟩ b).setCell ⟨g, 2, none⟩ c).setCell ⟨g, 3, none⟩ d) :=
  (((Kp.store _ _ _ _).trans (Kp.store _ _ _ _)).trans (Kp.store _ _ _ _)).trans (Kp.store _ _ _ _)
theorem fourS_set {w : World} {g : Nat} {l0 c0 : Int} {A0 : Option Addr} {n0 C0 : Nat} {x0 : Bool} (h : w.heap[g]? = some (tapeObj l0 c0 A0 n0 C0 x0)) (lab cap : Int) (A : Option Addr) (n C : Nat) (lost : Bool) :
    ((((w.setCell ⟨g, 0, none⟩ (.int .i64 lab)).setCell ⟨g, 1, none⟩ (.int .i64 cap)).setCell ⟨g, 2, none⟩ (.slice A n C)).setCell ⟨g, 3, none⟩ (.bool lost)).heap[g]? = some (tapeObj lab cap A n C lost) :=
  heap_set (heap_set (heap_set (heap_set h (.int .i64 lab)) (.int .i64 cap)) (.slice A n C)) (.bool lost)
set_option maxHeartbeats 2000000 in
theorem refAt_any (A : Option Addr) (ts : List St.T) (n C : Nat) (G : Nat → Prop) (lab : Int) (w : World) (hnl : n = ts.length) (hn : n ≤ 1000000) (hr : RdT w A ts G) :
    Calls Try.prog 23 #[.slice A n C, .int .i64 lab] w fun e w' => ((∃ k : Nat, k < n ∧ e = .returned (.int .i64 (k : Int)) ∧ ∃ hk : k < ts.length, ts[k].label = lab ∧ ∀ j (hj : j < ts.length), j < k → ts[j].label ≠ lab) ∨ (e = .returned (.int .i64 (-1)) ∧ ∀ t ∈ ts, t.label ≠ lab)) ∧ Below w.heap.size w w' := by
  have HR := Lib.hid hr
  have HNL := Lib.hid hnl
  clear hr hnl
  go_enter Try.func23, Try.ntmps23
  go_wp2
  go_loopw [5] (fun vi wr => ∃ i : Nat, i ≤ n ∧ vi = .int .i64 (i : Int) ∧ Hid (∀ j (hj : j < ts.length), j < i → ts[j].label ≠ lab) ∧ Hid (Below w.heap.size w wr)) (fun vi _ => n - (intOf vi).toNat)
  case atStart => exact ⟨0, Nat.zero_le _, rfl, Lib.hid (fun j _ h => absurd h (by omega)), Lib.hid (Below.refl _ _)⟩
  case round =>
    obtain ⟨i, hi, rfl, HJ, HB⟩ := hrel
    by_cases hlt : i < n
    · have e0 : decide (i < n) = true := decide_eq_true hlt
      have e0' : decide ((i : Int) < (n : Int)) = true := decide_eq_true (by omega)
      have hlt' : i < ts.length := by rw [← HNL.out]; exact hlt
      obtain ⟨b, off, A', C', rfl, -, c0, -, -, -, -⟩ := (HR.out.old HB.out).at_ hlt'
      obtain ⟨x, hx⟩ : ∃ x, x = ts[i].label := ⟨_, rfl⟩
      rw [← hx] at c0
      have i0 : (0 : Int) ≤ (i : Int) := by omega
      have i1 : (i : Int) < (n : Int) := by omega
      by_cases he : x = lab
      · have e1 : (x == lab) = true := by simpa using he
        have HX : Hid (∃ hk : i < ts.length, ts[i].label = lab) := Lib.hid ⟨hlt', hx.symm.trans he⟩
        clear hx he hlt'
        go_wp2
        go_ret
        obtain ⟨hk, hkl⟩ := HX.out
        exact ⟨.inl ⟨i, hlt, rfl, hk, hkl, HJ.out⟩, HB.out⟩
      · have e1 : (x == lab) = false := by simpa using he
        have HJ2 : Hid (∀ j (hj : j < ts.length), j < i + 1 → ts[j].label ≠ lab) := Lib.hid fun j hj hji => by
          by_cases e : j = i
          · subst e; rw [← hx]; exact he
          · exact HJ.out j hj (by omega)
        clear hx he hlt'
        go_wp2
        go_roundw
        case rel => exact ⟨i + 1, by omega, by go_num, HJ2, HB⟩
        case measure => simp [intOf]; omega
    · have hnL : n ≤ i := by omega
      have e0 : decide (i < n) = false := decide_eq_false hlt
      have e0' : decide ((i : Int) < (n : Int)) = false := decide_eq_false (by omega)
      have HALL : Hid (∀ t ∈ ts, t.label ≠ lab) := Lib.hid fun t ht => by
        obtain ⟨j, hj, rfl⟩ := List.mem_iff_getElem.1 ht
        exact HJ.out j hj (by rw [HNL.out] at hnL; omega)
      go_wp2
      go_ret
      exact ⟨.inr ⟨rfl, HALL.out⟩, HB.out⟩
/-- a member of a seal -/
def MemA (t : St.T) (w : World) (e : Ending) (w' : World) : Prop :=
  ∃ A C, e = .returned (.agg #[.int .i64 t.label, .int .i64 t.cap, .slice A t.blocks.length C, .bool t.lost]) ∧ RdB w' A t.blocks (fun _ => True) ∧ Below w.heap.size w w'
set_option maxRecDepth 100000 in
set_option maxHeartbeats 4000000 in
theorem refMember_any (A : Option Addr) (ts : List St.T) (n C : Nat) (num idx d p : Int) (sA : Option Addr) (m sC : Nat) (labs : List Int) (i : Nat) (G G2 : Nat → Prop) (w : World) (hnl : n = ts.length) (hn : n ≤ 1000000) (hr : RdT w A ts G)
    (hm : m = labs.length) (hz : RdZ w sA labs G2) (hi : i < labs.length) :
    Calls Try.prog 17 #[.slice A n C, .agg #[.int .i64 num, .int .i64 idx, .int .i64 d, .int .i64 p, .slice sA m sC], .int .i64 (i : Int)] w (MemA (Me.first ts labs[i]) w) := by
  obtain ⟨w0, hw0⟩ : ∃ x, x = w.alloc (sealObj num idx d p sA m sC) := ⟨_, rfl⟩
  obtain ⟨w1, hw1⟩ : ∃ w1, w1 = w0.alloc (tapeObj 0 0 none 0 0 false) := ⟨_, rfl⟩
  have hs0 : w0.heap.size = w.heap.size + 1 := by rw [hw0]; simp
  have b0 : Below w.heap.size w w0 := by rw [hw0]; exact (Below.refl _ _).alloc (Nat.le_refl _) _
  have b01 : Below w0.heap.size w0 w1 := by rw [hw1]; exact (Below.refl _ _).alloc (Nat.le_refl _) _
  have b1 : Below w.heap.size w w1 := b0.trans (b01.mono b0.size)
  have k1 : w1.heap[w.heap.size]? = some (sealObj num idx d p sA m sC) := below_objS b01 (by rw [hw0]; exact Go.Deep.blk_alloc_new _ _)
  have k2 : w1.heap[w.heap.size + 1]? = some (tapeObj 0 0 none 0 0 false) := by rw [hw1, ← hs0]; exact Go.Deep.blk_alloc_new _ _
  obtain ⟨bz, oz, hsA, -, cz⟩ := (hz.old b1).at_ hi
  obtain ⟨lab, hlab⟩ : ∃ x, x = labs[i] := ⟨_, rfl⟩
  rw [← hlab] at cz ⊢
  have HAT := Lib.hid (refAt_any A ts n C G lab w1 hnl hn (hr.old b1))
  have HR := Lib.hid hr
  have HNL := Lib.hid hnl
  have HB1 := Lib.hid b1
  have HK1 := Lib.hid k1
  have HK2 := Lib.hid k2
  have HW1 : Hid (w1 = (w.alloc (.cells #[.int .i64 num, .int .i64 idx, .int .i64 d, .int .i64 p, .slice sA m sC] 25)).alloc (.cells #[.int .i64 0, .int .i64 0, .slice none 0 0, .bool false] 35)) := Lib.hid (by rw [hw1, hw0]; rfl)
  have i0 : (0 : Int) ≤ (i : Int) := by omega
  have i1 : (i : Int) < (m : Int) := by omega
  have HCZ : Hid (w1.cell? ⟨bz, oz + i, none⟩ = some (.int .i64 lab)) := Lib.hid cz
  subst hsA
  obtain ⟨x0, x1, x2, x3, x4⟩ := seal5 k1
  rw [HW1.out] at x0 x1 x2 x3 x4 cz
  clear hw0 hw1 hs0 b0 b01 b1 k1 k2 hnl hr hm hz hlab
  go_enter Try.func17, Try.ntmps17
  go_wp2_with fail
  rw [← HW1.out]
  refine HAT.out.mono ?_
  rintro e w3 ⟨hcase, hb3⟩
  have HB3 := Lib.hid (HB1.out.trans (hb3.mono HB1.out.size))
  have HT3 := Lib.hid (below_objS hb3 HK2.out)
  have HS3 := Lib.hid (below_objS hb3 HK1.out)
  have hcz : w3.cell? ⟨bz, oz + i, none⟩ = some (.int .i64 lab) := (hb3.cell (World.block_lt_of_cell? _ _ HCZ.out)).trans HCZ.out
  clear x0 x1 x2 x3 x4 cz hb3
  have f3 : ∀ j, w3.frozen? ⟨w.heap.size + 1, j, none⟩ = false := fun j => heap_frozen HT3.out
  obtain ⟨x0, x1, x2, x3, x4⟩ := seal5 HS3.out
  obtain ⟨y0, y1, y2, y3⟩ := tape4 HT3.out
  rcases hcase with ⟨k, hkn, rfl, hk, hkl, hkj⟩ | ⟨rfl, hno⟩
  · have HF := Lib.hid (first_there hk hkl hkj)
    obtain ⟨b, off, A', C', rfl, -, c0, c1, c2, c3, hb⟩ := (HR.out.in_.old HB3.out).at_ hk
    obtain ⟨⟨l2, cap, bs, lost⟩, ht⟩ : ∃ t, t = ts[k] := ⟨_, rfl⟩
    rw [← ht] at c0 c1 c2 c3 hb HF
    dsimp only at c0 c1 c2 c3 hb
    obtain ⟨M, hM⟩ : ∃ m, m = bs.length := ⟨_, rfl⟩
    rw [← hM] at c2
    have HM := Lib.hid hM
    have HBL := Lib.hid hb
    have j0 : (0 : Int) ≤ (k : Int) := by omega
    have j1 : (k : Int) < (n : Int) := by omega
    have j2 : decide ((k : Int) < 0) = false := decide_eq_false (by omega)
    clear hk hkl hkj ht hM hb
    go_wp2
    obtain ⟨z0, z1, z2, z3⟩ := tape4 (fourS_set HT3.out l2 cap A' M C' lost)
    refine bodyPost_ret (v := .agg #[.int .i64 l2, .int .i64 cap, .slice A' M C', .bool lost]) (by simp [results, Try.results17, go_sem, z0, z1, z2, z3]) rfl ?_
    unfold MemA
    rw [HF.out]
    exact ⟨A', C', by rw [← HM.out], (HBL.out.kp (fourS_kp w3 (w.heap.size + 1) _ _ _ _) (fun b hb e => by have := hb.2; omega)).mono fun _ _ => trivial, HB3.out.trans ((fourS_kp w3 (w.heap.size + 1) _ _ _ _).below HB3.out.size fun k hk => by omega)⟩
  · have HF : Hid (Me.first ts lab = ⟨lab, 0, [], true⟩) := Lib.hid (Vf.first_none fun h => by
      obtain ⟨t, ht, e⟩ := List.mem_map.1 h
      exact hno t ht e)
    have j2 : decide ((-1 : Int) < 0) = true := by decide
    clear hno
    go_wp2
    obtain ⟨z0, z1, z2, z3⟩ := tape4 (fourS_set HT3.out lab 0 none 0 0 true)
    refine bodyPost_ret (v := .agg #[.int .i64 lab, .int .i64 0, .slice none 0 0, .bool true]) (by simp [results, Try.results17, go_sem, z0, z1, z2, z3]) rfl ?_
    unfold MemA
    rw [HF.out]
    exact ⟨none, 0, rfl, RdB.empty _ _ _, HB3.out.trans ((fourS_kp w3 (w.heap.size + 1) _ _ _ _).below HB3.out.size fun k hk => by omega)⟩
theorem Vf.countP_take {p : Int → Bool} {labs : List Int} {i : Nat} (h : i < labs.length) : (labs.take (i + 1)).countP p = (labs.take i).countP p + (if p labs[i] then 1 else 0) := by
  rw [List.take_add_one, List.getElem?_eq_getElem h, List.countP_append]
  show _ + List.countP p [labs[i]] = _
  rw [List.countP_singleton]
set_option maxRecDepth 100000 in
set_option maxHeartbeats 4000000 in
theorem refLost_any (A : Option Addr) (ts : List St.T) (n C : Nat) (num idx d p : Int) (sA : Option Addr) (m sC : Nat) (labs : List Int) (G G2 : Nat → Prop) (w : World) (hnl : n = ts.length) (hn : n ≤ 1000) (hr : RdT w A ts G) (hl : ∀ t ∈ ts, t.blocks.length ≤ 1000 ∧ ∀ s ∈ t.blocks, s.length ≤ 1000)
    (hm : m = labs.length) (hm2 : m ≤ 1000) (hz : RdZ w sA labs G2) :
    Calls Try.prog 12 #[.slice A n C, .agg #[.int .i64 num, .int .i64 idx, .int .i64 d, .int .i64 p, .slice sA m sC]] w fun e w' => e = .returned (.int .i64 ((lost ts labs : Nat) : Int)) ∧ Below w.heap.size w w' := by
  obtain ⟨w0, hw0⟩ : ∃ x, x = w.alloc (sealObj num idx d p sA m sC) := ⟨_, rfl⟩
  have b0 : Below w.heap.size w w0 := by rw [hw0]; exact (Below.refl _ _).alloc (Nat.le_refl _) _
  have k1 : w0.heap[w.heap.size]? = some (sealObj num idx d p sA m sC) := by rw [hw0]; exact Go.Deep.blk_alloc_new _ _
  have HML := Lib.hid hm
  have HCALL : Hid (∀ (y : World) (i : Nat) (hi : i < labs.length), Below w.heap.size w y → Calls Try.prog 17 #[.slice A n C, .agg #[.int .i64 num, .int .i64 idx, .int .i64 d, .int .i64 p, .slice sA m sC], .int .i64 (i : Int)] y (MemA (Me.first ts labs[i]) y)) := Lib.hid fun y i hi hy =>
    refMember_any A ts n C num idx d p sA m sC labs i G G2 y hnl (by omega) (hr.old hy) hm (hz.old hy) hi
  have HSZ : Hid (∀ l, (Me.first ts l).blocks.length ≤ 1000 ∧ ∀ s ∈ (Me.first ts l).blocks, s.length ≤ 1000) := Lib.hid fun l => by
    unfold Me.first
    cases hf : ts.find? (fun t => decide (t.label = l)) with
    | none => exact ⟨Nat.zero_le _, fun s hs => by cases hs⟩
    | some t => exact hl t (List.mem_of_find?_eq_some hf)
  have HB0 := Lib.hid b0
  have HK0 := Lib.hid k1
  have HW0 := Lib.hid hw0
  unfold sealObj at HW0
  obtain ⟨x0, x1, x2, x3, x4⟩ := seal5 k1
  rw [HW0.out] at x0 x1 x2 x3 x4
  clear hw0 b0 k1 hm hnl hr hl hz
  go_enter Try.func12, Try.ntmps12
  go_wp2_with fail
  rw [← HW0.out]
  clear x0 x1 x2 x3 x4
  go_loopw [6, 5] (fun vi vq wr => ∃ i q : Nat, i ≤ m ∧ q ≤ i ∧ vi = .int .i64 (i : Int) ∧ vq = .int .i64 (q : Int) ∧ Hid (q = (labs.take i).countP (gone ts)) ∧ Hid (Below w.heap.size w wr) ∧ Hid (wr.heap[w.heap.size]? = some (sealObj num idx d p sA m sC))) (fun vi _ _ => m - (intOf vi).toNat)
  case atStart => exact ⟨0, 0, Nat.zero_le _, Nat.le_refl _, rfl, rfl, Lib.hid rfl, HB0, HK0⟩
  case round =>
    obtain ⟨i, q, hi, hq, rfl, rfl, HQ, HB, HK⟩ := hrel
    obtain ⟨x0, x1, x2, x3, x4⟩ := seal5 HK.out
    by_cases hlt : i < m
    · have e0 : decide (i < m) = true := decide_eq_true hlt
      have e0' : decide ((i : Int) < (m : Int)) = true := decide_eq_true (by omega)
      have hlt' : i < labs.length := by rw [← HML.out]; exact hlt
      have HC := Lib.hid (HCALL.out wr i hlt' HB.out)
      have hcnt := countP_take (p := gone ts) hlt'
      have hsz := HSZ.out labs[i]
      have hgone : gone ts labs[i] = hurt (Me.first ts labs[i]) := rfl
      rw [hgone, ← HQ.out] at hcnt
      obtain ⟨⟨l2, cap, bs, lost⟩, ht⟩ : ∃ t, t = Me.first ts labs[i] := ⟨_, rfl⟩
      rw [← ht] at HC hcnt hsz
      have HCNT := Lib.hid hcnt
      have HSB := Lib.hid hsz
      clear hcnt hsz hgone ht hlt'
      go_wp2_with fail
      refine HC.out.mono ?_
      rintro e w3 ⟨A3, C3, rfl, hr3, hb3⟩
      dsimp only at hr3 ⊢
      obtain ⟨K, hK⟩ : ∃ K, K = bs.length := ⟨_, rfl⟩
      rw [← hK]
      obtain ⟨w4, hw4⟩ : ∃ x, x = w3.alloc (tapeObj l2 cap A3 K C3 lost) := ⟨_, rfl⟩
      have hb34 : Below w3.heap.size w3 w4 := by rw [hw4]; exact (Below.refl _ _).alloc (Nat.le_refl _) _
      have hT4 : w4.heap[w3.heap.size]? = some (tapeObj l2 cap A3 K C3 lost) := by rw [hw4]; exact Go.Deep.blk_alloc_new _ _
      have hb4 : Below wr.heap.size wr w4 := hb3.trans (hb34.mono hb3.size)
      have HBAD := Lib.hid (refBadBlocks_any l2 cap bs A3 K C3 (fun _ => True) lost w4 hK (hr3.old hb34) (by rw [hK]; have := HSB.out.1; omega) HSB.out.2)
      have HB4 := Lib.hid (HB.out.trans (hb4.mono HB.out.size))
      have HK4 := Lib.hid (below_objS hb4 HK.out)
      have HW4 := Lib.hid hw4
      unfold tapeObj at HW4
      obtain ⟨y0, y1, y2, y3⟩ := tape4 hT4
      rw [HW4.out] at y0 y1 y2 y3
      have s1 : IntKind.i64.wrap ((q : Int) + 1) = (q : Int) + 1 := IntWalk.i64_in _ (by omega)
      clear hr3 hb3 hK hw4 hb34 hT4 hb4 x0 x1 x2 x3 x4
      cases lost with
      | true =>
        have HQ2 : Hid (q + 1 = (labs.take (i + 1)).countP (gone ts)) := Lib.hid (by rw [HCNT.out]; rfl)
        go_wp2_with fail
        rw [← HW4.out]
        go_roundw
        case rel => exact ⟨i + 1, q + 1, by omega, by omega, by go_num, by go_num, HQ2, HB4, HK4⟩
        case measure => simp [intOf]; omega
      | false =>
        have HH := Lib.hid (hurt_bad (t := ⟨l2, cap, bs, false⟩) rfl)
        go_wp2_with fail
        rw [← HW4.out]
        refine HBAD.out.mono ?_
        rintro e w5 ⟨A5, C5, base5, rfl, -, hb5⟩
        obtain ⟨M, hM⟩ : ∃ M, M = (bad ⟨l2, cap, bs, false⟩).length := ⟨_, rfl⟩
        rw [← hM] at HH ⊢
        have HB5 := Lib.hid (HB4.out.trans (hb5.mono HB4.out.size))
        have HK5 := Lib.hid (below_objS hb5 HK4.out)
        clear hM hb5
        by_cases hm0 : 0 < M
        · have e1 : decide (0 < M) = true := decide_eq_true hm0
          have e1' : decide ((0 : Int) < (M : Int)) = true := decide_eq_true (by omega)
          have HQ2 : Hid (q + 1 = (labs.take (i + 1)).countP (gone ts)) := Lib.hid (by rw [HCNT.out, HH.out, e1]; rfl)
          clear hm0 y0 y1 y2 y3
          go_wp2
          go_roundw
          case rel => exact ⟨i + 1, q + 1, by omega, by omega, by go_num, by go_num, HQ2, HB5, HK5⟩
          case measure => simp [intOf]; omega
        · have e1 : decide (0 < M) = false := decide_eq_false hm0
          have e1' : decide ((0 : Int) < (M : Int)) = false := decide_eq_false (by omega)
          have HQ2 : Hid (q = (labs.take (i + 1)).countP (gone ts)) := Lib.hid (by rw [HCNT.out, HH.out, e1]; rfl)
          clear hm0 y0 y1 y2 y3
          go_wp2
          go_roundw
          case rel => exact ⟨i + 1, q, by omega, by omega, by go_num, rfl, HQ2, HB5, HK5⟩
          case measure => simp [intOf]; omega
    · have e0 : decide (i < m) = false := decide_eq_false hlt
      have e0' : decide ((i : Int) < (m : Int)) = false := decide_eq_false (by omega)
      have HE : Hid (q = lost ts labs) := Lib.hid (by rw [HQ.out, List.take_of_length_le (by rw [← HML.out]; omega)]; rfl)
      go_wp2
      go_ret
      exact ⟨by rw [HE.out]; rfl, HB.out⟩
end Go.Proofs.Ytnbfkihgloipiaa
namespace Go.Proofs.Ytnbfkihgloipiaa
open Go.RowKit Vf
open Pt (Tx)

theorem spot_fields : Try.prog.underlying 44 = some (.struct (Try.prog.fieldsOf 44)) := by kernel_rfl
theorem spot_plain : Try.prog.stoodInHeld 44 = false := by kernel_rfl
theorem spots_same (l n : Int) (w : World) : (Op.equalIn 10000 44 (.agg #[.int .i64 l, .int .i64 n]) (.agg #[.int .i64 l, .int .i64 n])).run Try.prog w = .ok true w := by
  rw [run_equalIn_agg w 9999 44 _ _ spot_fields spot_plain]
  simp [Program.fieldsOf, Try.underlying44, Op.eqFields, part, go_sem]
theorem spots_eql (l n : Int) (w : World) : (binOp .eql 44 (.agg #[.int .i64 l, .int .i64 n]) (.agg #[.int .i64 l, .int .i64 n])).run Try.prog w = .ok (.bool true) w := by
  rw [run_eql_struct, spots_same]; rfl
theorem spots_neq (l n : Int) (w : World) : (binOp .neq 44 (.agg #[.int .i64 l, .int .i64 n]) (.agg #[.int .i64 l, .int .i64 n])).run Try.prog w = .ok (.bool false) w := by
  rw [run_neq_struct, spots_same]; rfl
theorem encS_at {w : World} {A : Option Addr} {l : List (Int × Int)} {G : Nat → Prop} (h : encS.Rd w A l G) {i : Nat} (hi : i < l.length) : ∃ b off, A = some ⟨b, off, none⟩ ∧ w.cell? ⟨b, off + i * 2, none⟩ = some (.int .i64 l[i].1) ∧ w.cell? ⟨b, off + i * 2 + 1, none⟩ = some (.int .i64 l[i].2) := by
  obtain ⟨b, off, e, _, hc⟩ := h.at_ hi
  exact ⟨b, off, e, hc 0 _ rfl, hc 1 _ rfl⟩
set_option maxRecDepth 100000 in
set_option maxHeartbeats 2000000 in
theorem same16_any (A B : Option Addr) (l : List (Int × Int)) (n C D : Nat) (G G2 : Nat → Prop) (w : World) (hnl : n = l.length) (hn : n ≤ 2000000) (hr : encS.Rd w A l G) (hr2 : encS.Rd w B l G2) :
    Calls Try.prog 8 #[.slice A n C, .slice B n D] w fun e w' => e = .returned (.bool true) ∧ Below w.heap.size w w' := by
  have HR := Lib.hid hr
  have HR2 := Lib.hid hr2
  have HNL := Lib.hid hnl
  have hneq := spots_neq
  have hq0 : ((n : Int) != (n : Int)) = false := by simp
  clear hr hr2 hnl
  go_enter Try.func8, Try.ntmps8
  go_wp2
  go_loopw [5] (fun vi wr => ∃ i : Nat, i ≤ n ∧ vi = .int .i64 (i : Int) ∧ Hid (Below w.heap.size w wr)) (fun vi _ => n - (intOf vi).toNat)
  case atStart => exact ⟨0, Nat.zero_le _, rfl, Lib.hid (Below.refl _ _)⟩
  case round =>
    obtain ⟨i, hi, rfl, HB⟩ := hrel
    by_cases hlt : i < n
    · have e0 : decide (i < n) = true := decide_eq_true hlt
      have e0' : decide ((i : Int) < (n : Int)) = true := decide_eq_true (by omega)
      have hlt' : i < l.length := by rw [← HNL.out]; exact hlt
      obtain ⟨b, off, rfl, c0, c1⟩ := encS_at (HR.out.old HB.out) hlt'
      obtain ⟨b2, off2, rfl, d0, d1⟩ := encS_at (HR2.out.old HB.out) hlt'
      obtain ⟨x, hx⟩ : ∃ x, x = l[i].1 := ⟨_, rfl⟩
      obtain ⟨y, hy⟩ : ∃ y, y = l[i].2 := ⟨_, rfl⟩
      rw [← hx] at c0 d0
      rw [← hy] at c1 d1
      have hq := hneq x y
      have i0 : (0 : Int) ≤ (i : Int) := by omega
      have i1 : (i : Int) < (n : Int) := by omega
      have HBD : Hid (∀ nq, Below w.heap.size w (wr.drewN nq)) := Lib.hid fun nq => HB.out.trans ⟨rfl, rfl, rfl, Nat.le_refl _, fun _ _ => rfl⟩
      clear hx hy hlt'
      go_wp2
      go_quiet (fail)
      go_wp2
      go_roundw
      case rel => exact ⟨i + 1, by omega, by go_num, Lib.hid (HBD.out _)⟩
      case measure => simp [intOf]; omega
    · have hnL : n ≤ i := by omega
      have e0 : decide (i < n) = false := decide_eq_false hlt
      have e0' : decide ((i : Int) < (n : Int)) = false := decide_eq_false (by omega)
      go_wp2
      go_ret
      exact ⟨rfl, HB.out⟩
set_option maxRecDepth 100000 in
set_option maxHeartbeats 2000000 in
theorem alive16_true (w : World) : Calls Try.prog 6 #[] w fun e w' => e = .returned (.bool true) ∧ Below w.heap.size w w' := by
  obtain ⟨w1, hw1⟩ : ∃ x, x = w.alloc (tapeObj 4 0 none 0 0 true) := ⟨_, rfl⟩
  have hb1 : Below w.heap.size w w1 := by rw [hw1]; exact (Below.refl _ _).alloc (Nat.le_refl _) _
  have hT1 : w1.heap[w.heap.size]? = some (tapeObj 4 0 none 0 0 true) := by rw [hw1]; exact Go.Deep.blk_alloc_new _ _
  have hr : RdT w1 (some ⟨w.heap.size, 0, none⟩) [⟨4, 0, [], true⟩] (fun _ => True) := fun _ => ⟨_, 0, rfl, trivial, fun i hi => by
    have : i = 0 := by simp at hi; omega
    subst this
    obtain ⟨y0, y1, y2, y3⟩ := tape4 hT1
    exact ⟨none, 0, y0, y1, y2, y3, RdB.empty _ _ _⟩⟩
  have HC := Lib.hid (spots_any (some ⟨w.heap.size, 0, none⟩) [⟨4, 0, [], true⟩] 1 1 _ w1 rfl (by omega) hr (fun t ht => by rw [List.mem_singleton.1 ht]; exact ⟨Nat.zero_le _, fun s hs => by cases hs⟩))
  have HN : Hid (∀ y, Calls Try.prog 9 #[.slice none 0 0] y (SpotsA [] y)) := Lib.hid fun y => spots_any none [] 0 0 (fun _ => True) y rfl (by omega) (RdT.empty _ _ _) (fun t ht => by cases ht)
  have HB1 := Lib.hid hb1
  have HW1 := Lib.hid hw1
  unfold tapeObj at HW1
  have heql := spots_eql 4 (-1)
  clear hw1 hb1 hT1 hr
  go_enter Try.func6, Try.ntmps6
  go_wp2_with fail
  rw [← HW1.out]
  refine HC.out.mono ?_
  rintro e w2 ⟨A2, C2, rfl, -, hr2, hb2⟩
  have HR2 := Lib.hid hr2
  have HB2 := Lib.hid (HB1.out.trans (hb2.mono HB1.out.size))
  clear hr2 hb2
  go_wp2_with fail
  refine (HN.out w2).mono ?_
  rintro e w3 ⟨A3, C3, rfl, -, -, hb3⟩
  have HB3 := Lib.hid (HB2.out.trans (hb3.mono HB2.out.size))
  obtain ⟨b, off, rfl, c0, c1⟩ := encS_at (HR2.out.old hb3) (i := 0) (by decide)
  have c0' : w3.cell? ⟨b, off, none⟩ = some (.int .i64 4) := c0
  have c1' : w3.cell? ⟨b, off + 1, none⟩ = some (.int .i64 (-1)) := by rw [show off + 1 = off + 0 * 2 + 1 by omega]; exact c1
  clear hb3 c0 c1
  have hl1 : (spots [⟨4, 0, [], true⟩]).length = 1 := rfl
  rw [hl1]
  have hl0 : (([] : List (Int × Int)).length) = 0 := rfl
  try rw [hl0]
  go_wp2
  go_ret
  exact ⟨rfl, HB3.out⟩
end Go.Proofs.Ytnbfkihgloipiaa
namespace Go.Proofs.Ytnbfkihgloipiaa
open Go.RowKit
open Pt (Tx)

/-- few blocks, none long -/
def Tp.few (bs : List Tx) : Bool := decide (bs.length ≤ 90) && bs.all fun s => decide (s.length ≤ 300)
theorem Tp.few_of {bs : List Tx} (h : Tp.few bs = true) : bs.length ≤ 90 ∧ ∀ s ∈ bs, s.length ≤ 300 := by
  simpa only [Tp.few, Bool.and_eq_true, decide_eq_true_eq, List.all_eq_true] using h
theorem few_yes (lab cap : Int) (A : Option Addr) (bs : List Tx) (C : Nat) (lost : Bool) (G : Nat → Prop) (w : World) (hr : RdB w A bs G) (hT : Tp.few bs = true) :
    Calls Try.prog 14 #[.agg #[.int .i64 lab, .int .i64 cap, .slice A bs.length C, .bool lost]] w (AnsB true w) := by
  have hB : Below w.heap.size w (w.alloc (.cells #[.int .i64 lab, .int .i64 cap, .slice A bs.length C, .bool lost] 35)) := (Below.refl _ _).alloc (Nat.le_refl _) _
  have hr' := hr.old hB
  have HB := Lib.hid hB
  obtain ⟨h1, h5⟩ := Tp.few_of hT
  have d1 : decide ((bs.length : Int) ≤ 90) = true := decide_eq_true (by omega)
  have H5 := Lib.hid h5
  clear h5 hr hB
  go_enter Try.func14, Try.ntmps14
  go_wp2
  go_loop [3] (fun i => ∃ k : Nat, k ≤ bs.length ∧ i = .int .i64 (k : Int)) (fun i => bs.length - (intOf i).toNat)
  case atStart => exact ⟨0, Nat.zero_le _, rfl⟩
  case round =>
    obtain ⟨k, hk, rfl⟩ := hrel
    by_cases hlt : k < bs.length
    · obtain ⟨b, off, A', C', rfl, _, hc, _⟩ := hr'.at_ hlt
      have hs := H5.out bs[k] (List.getElem_mem hlt)
      have e0 : decide (k < bs.length) = true := decide_eq_true hlt
      have e1 : decide (300 < (bs[k].length : Int)) = false := decide_eq_false (by omega)
      have e2 : decide ((k : Int) < 100) = true := decide_eq_true (by omega)
      go_wp2
      go_round
      case rel => exact ⟨k + 1, by omega, by go_num⟩
      case measure => simp [intOf]; omega
    · have e0 : decide (k < bs.length) = false := decide_eq_false hlt
      go_wp2
      go_ret
      exact ⟨rfl, HB.out⟩
theorem few_no (lab cap : Int) (A : Option Addr) (bs : List Tx) (C : Nat) (lost : Bool) (G : Nat → Prop) (w : World) (hr : RdB w A bs G) (hT : Tp.few bs = false) :
    Calls Try.prog 14 #[.agg #[.int .i64 lab, .int .i64 cap, .slice A bs.length C, .bool lost]] w (AnsB false w) := by
  have hB : Below w.heap.size w (w.alloc (.cells #[.int .i64 lab, .int .i64 cap, .slice A bs.length C, .bool lost] 35)) := (Below.refl _ _).alloc (Nat.le_refl _) _
  have hr' := hr.old hB
  have HB := Lib.hid hB
  have HT := Lib.hid hT
  clear hr hB hT
  go_enter Try.func14, Try.ntmps14
  go_wp2
  go_loop [3] (fun i => ∃ k : Nat, k ≤ bs.length ∧ k ≤ 100 ∧ i = .int .i64 (k : Int) ∧ Hid (∀ j (hj : j < bs.length), j < k → bs[j].length ≤ 300)) (fun i => bs.length - (intOf i).toNat)
  case atStart => exact ⟨0, Nat.zero_le _, by omega, rfl, Lib.hid (fun j _ h => absurd h (by omega))⟩
  case round =>
    obtain ⟨k, hk, hk1, rfl, HJ⟩ := hrel
    by_cases hlt : k < bs.length
    · have e0 : decide (k < bs.length) = true := decide_eq_true hlt
      by_cases hk2 : k < 100
      · have e2 : decide ((k : Int) < 100) = true := decide_eq_true (by omega)
        obtain ⟨b, off, A', C', rfl, _, hc, _⟩ := hr'.at_ hlt
        by_cases hs : 300 < bs[k].length
        · have e1 : decide (300 < (bs[k].length : Int)) = true := decide_eq_true (by omega)
          go_wp2
          go_ret
          exact ⟨rfl, HB.out⟩
        · have e1 : decide (300 < (bs[k].length : Int)) = false := decide_eq_false (by omega)
          have HJ2 : Hid (∀ j (hj : j < bs.length), j < k + 1 → bs[j].length ≤ 300) := Lib.hid fun j hj hjk => by
            by_cases e : j = k
            · subst e; omega
            · exact HJ.out j hj (by omega)
          go_wp2
          go_round
          case rel => exact ⟨k + 1, by omega, by omega, by go_num, HJ2⟩
          case measure => simp [intOf]; omega
      · have e2 : decide ((k : Int) < 100) = false := decide_eq_false (by omega)
        have d1 : decide ((bs.length : Int) ≤ 90) = false := decide_eq_false (by omega)
        go_wp2
        go_ret
        exact ⟨rfl, HB.out⟩
    · have e0 : decide (k < bs.length) = false := decide_eq_false hlt
      have d1 : decide ((bs.length : Int) ≤ 90) = false := decide_eq_false fun h => by
        have : Tp.few bs = true := by
          simp only [Tp.few, Bool.and_eq_true, decide_eq_true_eq, List.all_eq_true]
          refine ⟨by omega, fun s hs => ?_⟩
          obtain ⟨j, hj, rfl⟩ := List.mem_iff_getElem.1 hs
          exact HJ.out j hj (by omega)
        rw [HT.out] at this; cases this
      go_wp2
      go_ret
      exact ⟨rfl, HB.out⟩
end Go.Proofs.Ytnbfkihgloipiaa
namespace Go.Proofs.Ytnbfkihgloipiaa
open Go.RowKit
open Pt (Tx)

def St.sum : List St.T → Nat
  | [] => 0
  | t :: ts => t.blocks.length + St.sum ts
theorem St.sum_snoc : ∀ (l : List St.T) (t : St.T), St.sum (l ++ [t]) = St.sum l + t.blocks.length
  | [], t => by show t.blocks.length + 0 = 0 + t.blocks.length; omega
  | a :: l, t => by rw [List.cons_append, St.sum, St.sum, St.sum_snoc l t]; omega
theorem St.sum_take {l : List St.T} {i : Nat} (h : i < l.length) : St.sum (l.take (i + 1)) = St.sum (l.take i) + l[i].blocks.length := by
  rw [List.take_succ_eq_append_getElem h, St.sum_snoc]
/-- few tapes, and small -/
def St.few (ts : List St.T) : Bool := decide (ts.length ≤ 14) && ts.all (fun t => Tp.few t.blocks) && decide (St.sum ts ≤ 300)
theorem St.few_of {ts : List St.T} (h : St.few ts = true) : ts.length ≤ 14 ∧ (∀ t ∈ ts, Tp.few t.blocks = true) ∧ St.sum ts ≤ 300 := by
  simp only [St.few, Bool.and_eq_true, decide_eq_true_eq, List.all_eq_true] at h
  exact ⟨h.1.1, h.1.2, h.2⟩
theorem St.few_is {ts : List St.T} (h1 : ts.length ≤ 14) (h2 : ∀ t ∈ ts, Tp.few t.blocks = true) (h3 : St.sum ts ≤ 300) : St.few ts = true := by
  simp only [St.few, Bool.and_eq_true, decide_eq_true_eq, List.all_eq_true]
  exact ⟨⟨h1, h2⟩, h3⟩
theorem St.few_len {ts : List St.T} (h : St.few ts = true) : St.len ts ≤ 90 := St.len_le fun t ht => (Tp.few_of ((St.few_of h).2.1 t ht)).1
theorem St.sum_le {ts : List St.T} {m : Nat} (h : ∀ t ∈ ts, t.blocks.length ≤ m) : St.sum ts ≤ ts.length * m := by
  induction ts with
  | nil => exact Nat.zero_le _
  | cons t ts ih =>
    have h1 := ih fun t ht => h t (List.mem_cons_of_mem _ ht)
    have h2 := h t List.mem_cons_self
    rw [St.sum, List.length_cons, Nat.succ_mul]
    omega
set_option maxHeartbeats 2000000 in
theorem few13_any (A : Option Addr) (ts : List St.T) (C : Nat) (G : Nat → Prop) (w : World) (hn : ts.length ≤ maxLen) (hr : RdT w A ts G) :
    Calls Try.prog 7 #[.slice A ts.length C] w (AnsB (St.few ts) w) := by
  unfold maxLen at hn
  have HR := Lib.hid hr
  clear hr
  go_enter Try.func7, Try.ntmps7
  go_wp2
  go_loopw [4, 3] (fun vi vn wr => ∃ i n : Nat, i ≤ ts.length ∧ i ≤ 20 ∧ n ≤ i * 90 ∧ vi = .int .i64 (i : Int) ∧ vn = .int .i64 (n : Int) ∧ Hid (n = St.sum (ts.take i)) ∧ Hid (∀ j (hj : j < ts.length), j < i → Tp.few ts[j].blocks = true) ∧ Hid (Below w.heap.size w wr)) (fun vi _ _ => ts.length - (intOf vi).toNat)
  case atStart => exact ⟨0, 0, Nat.zero_le _, by omega, by omega, rfl, rfl, Lib.hid rfl, Lib.hid (fun j _ h => absurd h (by omega)), Lib.hid (Below.refl _ _)⟩
  case round =>
    obtain ⟨i, n, hi, hi2, hn2, rfl, rfl, HN, HJ, HB⟩ := hrel
    have hcase : (i < ts.length ∧ i < 20) ∨ (i = ts.length ∧ ts.length ≤ 20) ∨ (i = 20 ∧ 20 < ts.length) := by omega
    rcases hcase with ⟨hlt, hlt2⟩ | ⟨he, hle⟩ | ⟨he, hle⟩
    · have e0 : decide (i < ts.length) = true := decide_eq_true hlt
      have e2 : decide ((i : Int) < 20) = true := decide_eq_true (by omega)
      obtain ⟨b, off, A', C', rfl, -, c0, c1, c2, c3, hb⟩ := (HR.out.old HB.out).at_ hlt
      obtain ⟨⟨lab, cap, bs, lost⟩, ht⟩ : ∃ t, t = ts[i] := ⟨_, rfl⟩
      have HT := Lib.hid ht
      rw [← ht] at c0 c1 c2 c3 hb
      dsimp only at c0 c1 c2 c3 hb
      have HBB := Lib.hid hb
      clear ht hb
      cases hf : Tp.few bs with
      | false =>
        have HF : Hid (St.few ts = false) := Lib.hid (by
          cases h : St.few ts with
          | false => rfl
          | true =>
            have := (St.few_of h).2.1 ts[i] (List.getElem_mem hlt)
            rw [← HT.out] at this
            exact (hf.symm.trans this).symm)
        go_wp2_with fail
        refine (few_no lab cap A' bs C' lost _ _ HBB.out hf).mono ?_
        rintro e w1 ⟨rfl, hb1⟩
        have HB1 := Lib.hid (HB.out.trans (hb1.mono HB.out.size))
        clear hb1 hf
        go_wp2
        go_ret
        exact ⟨by rw [HF.out]; rfl, HB1.out⟩
      | true =>
        obtain ⟨k, hk⟩ : ∃ k, k = bs.length := ⟨_, rfl⟩
        have hk90 : k ≤ 90 := by rw [hk]; exact (Tp.few_of hf).1
        have HN1 : Hid (n + k = St.sum (ts.take (i + 1))) := Lib.hid (by rw [St.sum_take hlt, ← HN.out, ← HT.out, hk])
        have HJ1 : Hid (∀ j (hj : j < ts.length), j < i + 1 → Tp.few ts[j].blocks = true) := Lib.hid fun j hj hji => by
          by_cases e : j = i
          · subst e; rw [← HT.out]; exact hf
          · exact HJ.out j hj (by omega)
        have HFW := Lib.hid (few_yes lab cap A' bs C' lost _ wr HBB.out hf)
        rw [← hk] at c2 HFW
        clear hf hk
        go_wp2_with fail
        refine HFW.out.mono ?_
        rintro e w1 ⟨rfl, hb1⟩
        have HB1 := Lib.hid (HB.out.trans (hb1.mono HB.out.size))
        have d2 := (hb1.cell (World.block_lt_of_cell? _ _ c2)).trans c2
        clear hb1 c0 c1 c2 c3
        go_wp2
        go_roundw
        case rel => exact ⟨i + 1, n + k, by omega, by omega, by omega, by go_num, by go_num, HN1, HJ1, HB1⟩
        case measure => simp [intOf]; omega
    · have HS : Hid (n = St.sum ts) := Lib.hid (by rw [HN.out, List.take_of_length_le (by omega)])
      have HALL : Hid (∀ t ∈ ts, Tp.few t.blocks = true) := Lib.hid fun t ht => by
        obtain ⟨j, hj, rfl⟩ := List.mem_iff_getElem.1 ht
        exact HJ.out j hj (by omega)
      have e0 : decide (i < ts.length) = false := decide_eq_false (by omega)
      by_cases a : ts.length ≤ 14
      · have d1 : decide ((ts.length : Int) ≤ 14) = true := decide_eq_true (by omega)
        by_cases a2 : n ≤ 300
        · have d2 : decide ((n : Int) ≤ 300) = true := decide_eq_true (by omega)
          have HF := Lib.hid (St.few_is a HALL.out (by rw [← HS.out]; exact a2))
          clear a a2 he
          go_wp2
          go_ret
          exact ⟨by rw [HF.out]; rfl, HB.out⟩
        · have d2 : decide ((n : Int) ≤ 300) = false := decide_eq_false (by omega)
          have HF : Hid (St.few ts = false) := Lib.hid (by
            cases h : St.few ts with
            | false => rfl
            | true => exact absurd (St.few_of h).2.2 (by rw [← HS.out]; exact a2))
          clear a a2 he
          go_wp2
          go_ret
          exact ⟨by rw [HF.out]; rfl, HB.out⟩
      · have d1 : decide ((ts.length : Int) ≤ 14) = false := decide_eq_false (by omega)
        have HF : Hid (St.few ts = false) := Lib.hid (by
          cases h : St.few ts with
          | false => rfl
          | true => exact absurd (St.few_of h).1 a)
        clear a he
        go_wp2
        go_ret
        exact ⟨by rw [HF.out]; rfl, HB.out⟩
    · have e0 : decide (i < ts.length) = true := decide_eq_true (by omega)
      have e2 : decide ((i : Int) < 20) = false := decide_eq_false (by omega)
      have d1 : decide ((ts.length : Int) ≤ 14) = false := decide_eq_false (by omega)
      have HF : Hid (St.few ts = false) := Lib.hid (by
        cases h : St.few ts with
        | false => rfl
        | true => have := (St.few_of h).1; omega)
      clear he
      go_wp2
      go_ret
      exact ⟨by rw [HF.out]; rfl, HB.out⟩
end Go.Proofs.Ytnbfkihgloipiaa
namespace Go.Proofs.Ytnbfkihgloipiaa
open Go.RowKit Mx Go.ChangeShapes Go.WideShapes

/-- the element of a number that lies in a cell -/
def feOf (x : Int) : Fe := mk (x.toNat % 256) (Nat.mod_lt _ (by decide))
theorem fi_feOf {x : Int} (h : (Lit.int .u8 x).wf = true) : fi (feOf x) = x := by
  have h' := range_u8 (zs := [x]) (by simpa using h) 0
  simp at h'
  unfold fi feOf
  rw [nat_mk, Nat.mod_eq_of_lt (by omega)]; omega
theorem getD_wf {k : IntKind} {zs : List Int} (h : ∀ n ∈ zs, (Lit.int k n).wf = true) {c : Nat} (hc : c < zs.length) : (Lit.int k (zs.getD c 0)).wf = true := by
  rw [List.getD_eq_getElem?_getD, List.getElem?_eq_getElem hc]
  exact h _ (List.getElem_mem hc)
theorem rd_cells {w : World} {a : Addr} {n : Nat} {zs : List Int} (hn : n ≤ zs.length) (hw : ∀ x ∈ zs, (Lit.int .u8 x).wf = true) (hc : ∀ c, c < n → w.cell? (a.add c) = some (.int .u8 (zs.getD c 0))) :
    Rd w (some a) n (fun c => feOf (zs.getD c 0)) (fun _ => True) := by
  intro h0
  obtain ⟨b, off, spot⟩ := a
  have hs : spot = none := by simpa [Addr.add] using World.cell?_spot (hc 0 h0)
  subst hs
  refine ⟨b, off, rfl, trivial, fun j hj => ?_⟩
  have := hc j hj
  rw [fi_feOf (getD_wf hw (by omega))]
  by_cases e : j = 0
  · subst e; simpa [Addr.add] using this
  · simpa [Addr.add, e] using this
section
variable {H : Type} {enc : TypeId × Value → H} {w : World} {base fuel : Nat} {held : Bool} {a : Option Addr} {len cap : Nat} {x : DataW H × List MemPlace}
/-- a row of bytes -/
theorem open_rd (h : DataW.trod enc Try.prog w base (fun _ => true) held fuel 36 (Value.slice a len cap).cells.toList = some x) :
    len ≤ maxLen ∧ ∃ r, Rd w a len r (fun _ => True) := by
  rcases open_ints Try.underlying36 Try.underlying5 (by kernel_rfl) h with ⟨hcs, _⟩ | ⟨y, l, c, zs, hcs, _, hl, hm, hz, _, hcell, hwz⟩
  · simp [Value.cells] at hcs
    obtain ⟨rfl, rfl, rfl⟩ := hcs
    exact ⟨by decide, fun _ => 0, Rd.empty _ _ _ _⟩
  · simp [Value.cells] at hcs
    obtain ⟨rfl, rfl, rfl⟩ := hcs
    have hz' : zs.length = cap := by simpa using hz
    exact ⟨by omega, _, rd_cells (by omega) hwz (fun c hc => hcell c (by omega))⟩
/-- a row of bytes, which is empty if it is nil -/
theorem open_rdN (h : DataW.trod enc Try.prog w base (fun _ => true) held fuel 36 (Value.slice a len cap).cells.toList = some x) :
    len ≤ maxLen ∧ (a = none → len = 0 ∧ cap = 0) ∧ ∃ r, Rd w a len r (fun _ => True) := by
  rcases open_ints Try.underlying36 Try.underlying5 (by kernel_rfl) h with ⟨hcs, _⟩ | ⟨y, l, c, zs, hcs, _, hl, hm, hz, _, hcell, hwz⟩
  · simp [Value.cells] at hcs
    obtain ⟨rfl, rfl, rfl⟩ := hcs
    exact ⟨by decide, fun _ => ⟨rfl, rfl⟩, fun _ => 0, Rd.empty _ _ _ _⟩
  · simp [Value.cells] at hcs
    obtain ⟨rfl, rfl, rfl⟩ := hcs
    have hz' : zs.length = cap := by simpa using hz
    exact ⟨by omega, (fun h => by cases h), _, rd_cells (by omega) hwz (fun c hc => hcell c (by omega))⟩
end
end Go.Proofs.Ytnbfkihgloipiaa
