/- FaultDeep: the walk. -/
import Derived.Test.YtdfialcaebjihaaDoorFtAlive
import Derived.Test.YtdfialcaebjihaaDoorFtXor
import Derived.Laws.AppendOwn
namespace Go.Proofs.YtdfialcaebjihaaDoor
open Go.RowKit
open Pt (Tx)

def stT : Tx := [115, 116, 101, 112]
theorem infoTx : (Tryd.prog.info? 9).map (fun i => (i.zero, i.size, i.bytes)) = some (some (.string ByteArray.empty), 1, 16) := by kernel_rfl
theorem oneTx (x : ByteArray) : ∀ u ∈ [Value.string x], u.oneCell' = true := by
  intro u hu; simp at hu; subst hu; rfl
theorem cellsT_more (j : Nat) : cellsT (List.replicate j stT) ++ [.string { data := #[115, 116, 101, 112] }] = cellsT (List.replicate (j + 1) stT) := by
  rw [List.replicate_succ']; simp [cellsT]; rfl
theorem same_spot {w w' : World} {b : Nat} {x y : Value} (h : w.heap[b]? = some (.cells #[x, y] 25 (0, 0))) (hb : Below w.heap.size w w') : w'.heap[b]? = some (.cells #[x, y] 25 (0, 0)) := (hb.block b (heap_lt' h)).trans h
theorem lib_one (w : World) (x : Value) (t : TypeId) : ∀ (j : Nat) u, [x][j]? = some u → (w.alloc (.cells #[x] t)).cell? ((⟨w.heap.size, 0, none⟩ : Addr).add j) = some u := by
  intro j u h
  rcases j with _ | j
  · simp at h; subst h
    have : (⟨w.heap.size, 0, none⟩ : Addr).add 0 = ⟨w.heap.size, 0, none⟩ := by unfold Addr.add; simp
    rw [this]; exact cell_of (Go.Deep.blk_alloc_new _ _) 0
  · simp at h

set_option maxHeartbeats 8000000 in
set_option maxRecDepth 100000 in
theorem faultDeep_main (f : Fl) (m : Nat) (w : World) (hg : Hg w) (hm : m ≤ 100) (hc : f.c ≠ 0) (h0 : -9223372036854775808 ≤ f.c) (h1 : f.c ≤ 9223372036854775807) :
    Calls Tryd.prog 6 #[.int .i64 f.c, .int .i64 f.l, .int .i64 f.k, .int .i64 (m : Int)] w fun e w' => e = .returned (.bool true) ∧ Below w.heap.size w w' := by
  have HA := alive7 w hg
  have HG := Lib.hid hg
  have HC := Lib.hid hc
  have HX : Hid (f.c ≠ 1 → bits .xor .i64 f.c 1 ≠ 0) := Lib.hid (fun e h => e (xor1_zero f.c h0 h1 h))
  have hc0 : (f.c == 0) = false := by simpa using hc
  have q1 : decide ((m : Int) < 0) = false := decide_eq_false (by omega)
  have q2 : decide (100 < (m : Int)) = false := decide_eq_false (by omega)
  clear hg hc h0 h1
  obtain ⟨i0, hi0, hz0, hz1, hz2⟩ := info_parts infoTx
  go_enter Tryd.func6, Tryd.ntmps6
  go_wp2_with fail
  refine HA.mono ?_
  rintro e w1 ⟨rfl, hb⟩
  have HB1 := Lib.hid hb
  clear hb HA
  go_wp2
  go_loopw [11, 10] (fun vi vd wr => ∃ j : Nat, j ≤ m ∧ vi = .int .i64 (j : Int) ∧ Hid (wr.ownsRow w.heap.size 9 1 vd j (cellsT (List.replicate j stT))) ∧ Hid (Below w.heap.size w wr)) (fun vi _ _ => m - (intOf vi).toNat)
  case atStart => exact ⟨0, Nat.zero_le _, rfl, Lib.hid ⟨rfl, Or.inl ⟨rfl, rfl⟩⟩, HB1⟩
  case round =>
    obtain ⟨j, hj, rfl, HO, HB⟩ := hrel
    by_cases hlt : j < m
    · have hlow : w.heap.size ≤ wr.heap.size := HB.out.size
      have hown := HO.out
      go_wp2_with (at_builtin; refine wpList_append_own _ rfl _ _ 22 rfl w.heap.size 9 i0 (.string ByteArray.empty) 1 16 Tryd.underlying22 hi0 hz0 hz1 hz2 rfl (by decide) _ _ _ rfl (hown.alloc _) ⟨wr.heap.size, 0, none⟩ 1 1 [.string { data := #[115, 116, 101, 112] }] rfl rfl (lib_one _ _ _) (oneTx _) (by unfold maxLen; omega) (by omega) (by simp; omega) ?_)
      intro v' w3 hown' hgrow _
      have HO3 : Hid (w3.ownsRow w.heap.size 9 1 v' (j + 1) (cellsT (List.replicate (j + 1) stT))) := by
        rw [← cellsT_more]
        exact Lib.hid hown'
      have HB3 := Lib.hid ((HB.out.alloc hlow _).grown hgrow (by simp; omega) (fun x hx => (HO.out.lt x hx).1))
      clear hown' hgrow hown
      go_wp2
      go_roundw
      case rel => exact ⟨j + 1, hlt, by go_num, HO3, HB3⟩
      case measure => simp [intOf]; omega
    · obtain ⟨A, cap, rfl, hr⟩ := TxR.of_owns HO.out
      have hr' := hr.old ((Below.refl _ _).alloc (Nat.le_refl _) (.cells #[.int .i64 f.l, .int .i64 f.k] 25))
      have HN := new_any f (List.replicate j stT) A cap _ hr' (by simp; omega) (by intro s hs; rw [List.eq_of_mem_replicate hs]; decide) HC.out
      rw [List.length_replicate] at HN
      have HS0 : Hid ((wr.alloc (.cells #[.int .i64 f.l, .int .i64 f.k] 25)).heap[wr.heap.size]? = some (.cells #[.int .i64 f.l, .int .i64 f.k] 25 (0, 0))) := Lib.hid (Go.Deep.blk_alloc_new _ _)
      have HB0 := Lib.hid (HB.out.alloc HB.out.size (.cells #[.int .i64 f.l, .int .i64 f.k] 25))
      clear hr hr'
      go_wp2_with fail
      refine HN.mono ?_
      rintro e w2 ⟨v, rfl, he, hb2⟩
      have HB2 := Lib.hid (HB0.out.trans (hb2.mono HB0.out.size))
      have HS2 := Lib.hid (same_spot HS0.out hb2)
      have HG2 := Lib.hid (HG.out.old HB2.out)
      have HE2 := Lib.hid he
      obtain ⟨tv, xv, rfl⟩ := he.iface
      clear he hb2 HN
      go_wp2_with fail
      refine (where_any (some f) _ w2 ⟨_, HE2.out⟩ HG2.out (by intro g e; cases e; exact HC.out)).mono ?_
      rintro e w3 ⟨rfl, hb3⟩
      have hbx := hb3.alloc hb3.size (.cells #[.int .i64 f.l, .int .i64 f.k] 25)
      have HB4 := Lib.hid (HB2.out.trans (hbx.mono HB2.out.size))
      have HS4 := Lib.hid (same_spot HS2.out hbx)
      have HT4 : Hid ((w3.alloc (.cells #[.int .i64 f.l, .int .i64 f.k] 25)).heap[w3.heap.size]? = some (.cells #[.int .i64 f.l, .int .i64 f.k] 25 (0, 0))) := Lib.hid (Go.Deep.blk_alloc_new _ _)
      have HE4 := Lib.hid (HE2.out.old hbx)
      have HG4 := Lib.hid (HG.out.old HB4.out)
      clear hb3 hbx
      dsimp only [fz, Option.isSome]
      go_wp2_with fail
      refine (code_any (some f) _ _ ⟨_, HE4.out⟩ (by intro h; cases h) HG4.out (by intro g e; cases e; exact HC.out)).mono ?_
      rintro e w5 ⟨rfl, hb5⟩
      have HB5 := Lib.hid (HB4.out.trans (hb5.mono HB4.out.size))
      have HS5 := Lib.hid (same_spot HS4.out hb5)
      have HT5 := Lib.hid (same_spot HT4.out hb5)
      have HE5 := Lib.hid (HE4.out.old hb5)
      have HG5 := Lib.hid (HG.out.old HB5.out)
      have s0 : w5.cell? ⟨wr.heap.size, 0, none⟩ = some (.int .i64 f.l) := cell_of HS5.out 0
      have s1 : w5.cell? ⟨wr.heap.size, 1, none⟩ = some (.int .i64 f.k) := cell_of HS5.out 1
      have t0 : w5.cell? ⟨w3.heap.size, 0, none⟩ = some (.int .i64 f.l) := cell_of HT5.out 0
      have t1 : w5.cell? ⟨w3.heap.size, 1, none⟩ = some (.int .i64 f.k) := cell_of HT5.out 1
      clear hb5
      dsimp only [codeOf]
      go_wp2_with (first | (go_at_call 12; go_in) | fail)
      refine (new_any f [] none 0 w5 (TxR.empty _ _) (by decide) (by intro s hs; cases hs) HC.out).mono ?_
      rintro e w6 ⟨v6, rfl, he6, hb6⟩
      have HB6 := Lib.hid (HB5.out.trans (hb6.mono HB5.out.size))
      have HS6 := Lib.hid (same_spot HS5.out hb6)
      have HE6 := Lib.hid (HE5.out.old hb6)
      have HG6 := Lib.hid (HG.out.old HB6.out)
      have HV6 := Lib.hid he6
      obtain ⟨tv6, xv6, rfl⟩ := he6.iface
      clear he6 hb6 s0 s1 t0 t1
      go_wp2_with fail
      refine (same_any f f _ _ _ _ w6 HE6.out HV6.out HG6.out HC.out HC.out).mono ?_
      rintro e w7 ⟨rfl, hb7⟩
      have HB7 := Lib.hid (HB6.out.trans (hb7.mono HB6.out.size))
      have HS7 := Lib.hid (same_spot HS6.out hb7)
      have HE7 := Lib.hid (HE6.out.old hb7)
      clear hb7
      rw [decide_eq_true (rfl : f = f)]
      go_wp2_with fail
      refine (new_any ⟨f.c, f.l, bits .xor .i64 f.k 1⟩ [] none 0 w7 (TxR.empty _ _) (by decide) (by intro s hs; cases hs) HC.out).mono ?_
      rintro e w8 ⟨v8, rfl, he8, hb8⟩
      have HB8 := Lib.hid (HB7.out.trans (hb8.mono HB7.out.size))
      have HS8 := Lib.hid (same_spot HS7.out hb8)
      have HE8 := Lib.hid (HE7.out.old hb8)
      have HG8 := Lib.hid (HG.out.old HB8.out)
      have HV8 := Lib.hid he8
      obtain ⟨tv8, xv8, rfl⟩ := he8.iface
      clear he8 hb8
      go_wp2_with fail
      refine (same_any f ⟨f.c, f.l, bits .xor .i64 f.k 1⟩ _ _ _ _ w8 HE8.out HV8.out HG8.out HC.out HC.out).mono ?_
      rintro e w9 ⟨rfl, hb9⟩
      have HB9 := Lib.hid (HB8.out.trans (hb9.mono HB8.out.size))
      have HS9 := Lib.hid (same_spot HS8.out hb9)
      have HE9 := Lib.hid (HE8.out.old hb9)
      clear hb9
      rw [decide_eq_false (fun e : f = ⟨f.c, f.l, bits .xor .i64 f.k 1⟩ => xor1_ne f.k (congrArg Fl.k e).symm)]
      have u0 : w9.cell? ⟨wr.heap.size, 0, none⟩ = some (.int .i64 f.l) := cell_of HS9.out 0
      have u1 : w9.cell? ⟨wr.heap.size, 1, none⟩ = some (.int .i64 f.k) := cell_of HS9.out 1
      by_cases hone : f.c = 1
      · have hq : (f.c == 1) = true := by simpa using hone
        clear hone
        go_wp2
        go_ret
        exact ⟨rfl, HB9.out⟩
      · have hq : (f.c == 1) = false := by simpa using hone
        have hX := Lib.hid (HX.out hone)
        clear hone
        go_wp2_with fail
        refine (new_any ⟨bits .xor .i64 f.c 1, f.l, f.k⟩ [] none 0 w9 (TxR.empty _ _) (by decide) (by intro s hs; cases hs) hX.out).mono ?_
        rintro e wa ⟨va, rfl, hea, hba⟩
        have HBa := Lib.hid (HB9.out.trans (hba.mono HB9.out.size))
        have HEa := Lib.hid (HE9.out.old hba)
        have HGa := Lib.hid (HG.out.old HBa.out)
        have HVa := Lib.hid hea
        obtain ⟨tva, xva, rfl⟩ := hea.iface
        clear hea hba u0 u1
        go_wp2_with fail
        refine (same_any f ⟨bits .xor .i64 f.c 1, f.l, f.k⟩ _ _ _ _ wa HEa.out HVa.out HGa.out HC.out hX.out).mono ?_
        rintro e wb ⟨rfl, hbb⟩
        have HBb := Lib.hid (HBa.out.trans (hbb.mono HBa.out.size))
        clear hbb
        rw [decide_eq_false (fun e : f = ⟨bits .xor .i64 f.c 1, f.l, f.k⟩ => xor1_ne f.c (congrArg Fl.c e).symm)]
        go_wp2
        go_ret
        exact ⟨rfl, HBb.out⟩

set_option maxHeartbeats 4000000 in
theorem faultDeep_walk (c l k n : Int) (w : World) (hg : Hg w) (wc : (Lit.int .i64 c).wf = true) :
    Calls Tryd.prog 6 #[.int .i64 c, .int .i64 l, .int .i64 k, .int .i64 n] w fun e w' => e = .returned (.bool true) ∧ Below w.heap.size w w' := by
  by_cases h1 : c = 0
  · have HA := alive7 w hg
    have hq : (c == 0) = true := by simpa using h1
    clear hg h1
    go_enter Tryd.func6, Tryd.ntmps6
    go_wp2_with (go_at_call 7; refine HA.mono ?_; rintro e w1 ⟨rfl, hb⟩; have HB := Lib.hid hb; clear hb)
    go_ret
    exact ⟨rfl, HB.out⟩
  have hq : (c == 0) = false := by simpa using h1
  by_cases h2 : n < 0
  · have HA := alive7 w hg
    have q2 : decide (n < 0) = true := decide_eq_true h2
    clear hg h1
    go_enter Tryd.func6, Tryd.ntmps6
    go_wp2_with (go_at_call 7; refine HA.mono ?_; rintro e w1 ⟨rfl, hb⟩; have HB := Lib.hid hb; clear hb)
    go_ret
    exact ⟨rfl, HB.out⟩
  by_cases h3 : 100 < n
  · have HA := alive7 w hg
    have q2 : decide (n < 0) = false := decide_eq_false h2
    have q3 : decide (100 < n) = true := decide_eq_true h3
    clear hg h1
    go_enter Tryd.func6, Tryd.ntmps6
    go_wp2_with (go_at_call 7; refine HA.mono ?_; rintro e w1 ⟨rfl, hb⟩; have HB := Lib.hid hb; clear hb)
    go_ret
    exact ⟨rfl, HB.out⟩
  have hw : -9223372036854775808 ≤ c ∧ c ≤ 9223372036854775807 := by
    simp [Lit.wf, IntKind.min, IntKind.max, IntKind.signed, IntKind.bits] at wc
    omega
  obtain ⟨m, rfl⟩ : ∃ m : Nat, n = (m : Int) := ⟨n.toNat, by omega⟩
  exact faultDeep_main ⟨c, l, k⟩ m w hg (by omega) h1 hw.1 hw.2
end Go.Proofs.YtdfialcaebjihaaDoor
