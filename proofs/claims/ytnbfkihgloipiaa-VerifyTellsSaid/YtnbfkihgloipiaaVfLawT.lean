/- VerifyTells: what is told of tapes, and of a group's members, is what the document's own answers tell. -/
import Derived.Test.YtnbfkihgloipiaaMl
import Derived.Test.YtnbfkihgloipiaaMp
import Derived.Test.YtnbfkihgloipiaaMq
import Derived.BigQuiet
import Derived.Deep.QuietTactic
import Derived.Deep.RegionWith
import Derived.Deep.RegionHeld
import Derived.Deep.DeepFit
namespace Go.Proofs.Ytnbfkihgloipiaa
open Go.RowKit Vf
open Pt (Tx)

theorem below_then {a b c : World} (h : Below a.heap.size a b) (k : Below b.heap.size b c) : Below a.heap.size a c := h.trans (k.mono h.size)
set_option maxRecDepth 100000 in
set_option maxHeartbeats 8000000 in
theorem verifyTells_walk (A : Option Addr) (ts : List St.T) (C : Nat) (num idx d p : Int) (sA : Option Addr) (sC : Nat) (labs : List Int) (w : World) (hn : ts.length ≤ maxLen) (hr : RdT w A ts (fun _ => True))
    (hz : RdZ w sA labs (fun _ => True)) (hzn : labs.length ≤ maxLen) (hwt : ∀ t ∈ ts, wfZ t.label) (hwl : ∀ l ∈ labs, wfZ l) :
    Calls Try.prog 3 #[.slice A ts.length C, .agg #[.int .i64 num, .int .i64 idx, .int .i64 d, .int .i64 p, .slice sA labs.length sC]] w fun e w' => e = .returned (.bool true) ∧ Below w.heap.size w w' := by
  obtain ⟨w0, hw0⟩ : ∃ x, x = w.alloc (sealObj num idx d p sA labs.length sC) := ⟨_, rfl⟩
  have b0 : Below w.heap.size w w0 := by rw [hw0]; exact (Below.refl _ _).alloc (Nat.le_refl _) _
  have k1 : w0.heap[w.heap.size]? = some (sealObj num idx d p sA labs.length sC) := by rw [hw0]; exact Go.Deep.blk_alloc_new _ _
  have HFEW : Hid (∀ y, Below w.heap.size w y → Calls Try.prog 7 #[.slice A ts.length C] y (AnsB (St.few ts) y)) := Lib.hid fun y hy => few13_any A ts C _ y hn (hr.old hy)
  have HFS : Hid (St.few ts = true → labs.length ≤ 20 → ∀ y, Below w.heap.size w y →
      Calls Try.prog 9 #[.slice A ts.length C] y (SpotsA (spots ts) y) ∧ Calls Try.prog 10 #[.slice A ts.length C] y (SpotsA (spots ts) y) ∧
      Calls Try.prog 11 #[.slice A ts.length C, .agg #[.int .i64 num, .int .i64 idx, .int .i64 d, .int .i64 p, .slice sA labs.length sC]] y (fun e w' => e = .returned (.int .i64 ((lost ts labs : Nat) : Int)) ∧ Below y.heap.size y w') ∧
      Calls Try.prog 12 #[.slice A ts.length C, .agg #[.int .i64 num, .int .i64 idx, .int .i64 d, .int .i64 p, .slice sA labs.length sC]] y (fun e w' => e = .returned (.int .i64 ((lost ts labs : Nat) : Int)) ∧ Below y.heap.size y w') ∧ (spots ts).length ≤ 2000000) := Lib.hid fun hf hl y hy => by
    have hfew := St.few_of hf
    have hsz : ∀ t ∈ ts, t.blocks.length ≤ 1000 ∧ ∀ s ∈ t.blocks, s.length ≤ 1000 := fun t ht => by
      have h1 := Tp.few_of (hfew.2.1 t ht)
      exact ⟨by have := h1.1; omega, fun s hs => by have := h1.2 s hs; omega⟩
    have hlen : ts.length ≤ 1000 := by have := hfew.1; omega
    refine ⟨spots_any A ts _ C _ y rfl hlen (hr.old hy) (fun t ht => ⟨(hsz t ht).1, fun s hs => by have := (hsz t ht).2 s hs; omega⟩), refSpots_any A ts _ C _ y rfl hlen (hr.old hy) hsz,
      lost_any A ts _ C num idx d p sA _ sC labs _ _ y rfl hlen (hr.old hy) (fun t ht => ⟨(hsz t ht).1, fun s hs => by have := (hsz t ht).2 s hs; omega⟩) rfl (by omega) (hz.old hy) hwt hwl,
      refLost_any A ts _ C num idx d p sA _ sC labs _ _ y rfl hlen (hr.old hy) hsz rfl (by omega) (hz.old hy), ?_⟩
    have h := spots_len (ts := ts) (m := 1000) fun t ht => (hsz t ht).1
    have h3 : ts.length * 1001 ≤ 1000 * 1001 := Nat.mul_le_mul_right _ hlen
    omega
  have HB0 := Lib.hid b0
  have HK0 := Lib.hid k1
  obtain ⟨m, hm⟩ : ∃ m, m = labs.length := ⟨_, rfl⟩
  obtain ⟨n, hn2⟩ : ∃ n, n = ts.length := ⟨_, rfl⟩
  rw [← hm, ← hn2] at HFS
  rw [← hn2] at HFEW
  rw [← hm] at HK0 hw0 hzn k1
  rw [← hn2] at hn
  rw [← hm, ← hn2]
  have HW0 := Lib.hid hw0
  unfold sealObj at HW0
  unfold maxLen at hn hzn
  clear hw0 b0 k1 hr hz hwt hwl hm hn2
  go_enter Try.func3, Try.ntmps3
  go_wp2_with fail
  rw [← HW0.out]
  refine (alive16_true w0).mono ?_
  rintro e w1 ⟨rfl, hb1⟩
  have HB1 := Lib.hid (HB0.out.trans (hb1.mono HB0.out.size))
  have HK1 := Lib.hid (below_objS hb1 HK0.out)
  clear hb1
  go_wp2_with fail
  refine (HFEW.out w1 HB1.out).mono ?_
  rintro e w2 ⟨rfl, hb2⟩
  have HB2 := Lib.hid (HB1.out.trans (hb2.mono HB1.out.size))
  have HK2 := Lib.hid (below_objS hb2 HK1.out)
  clear hb2
  obtain ⟨x0, x1, x2, x3, x4⟩ := seal5 HK2.out
  cases hf : St.few ts with
  | false =>
    clear hf
    go_wp2
    go_ret
    exact ⟨rfl, HB2.out⟩
  | true =>
    have HF := Lib.hid hf
    clear hf
    by_cases hl : m ≤ 20
    · have e1 : decide (20 < m) = false := decide_eq_false (by omega)
      have e1' : decide ((20 : Int) < (m : Int)) = false := decide_eq_false (by omega)
      have HS := Lib.hid (HFS.out HF.out hl)
      have HN2 : Hid ((spots ts).length ≤ 2000000) := Lib.hid (HS.out w2 HB2.out).2.2.2.2
      have heqq : ((((lost ts labs : Nat) : Int)) == ((lost ts labs : Nat) : Int)) = true := by simp
      clear x0 x1 x2 x3 x4
      obtain ⟨q, hq⟩ : ∃ q, q = lost ts labs := ⟨_, rfl⟩
      rw [← hq] at HS heqq
      clear hq
      have HSS : Hid (∀ y, Below w2.heap.size w2 y → y.cell? ⟨w.heap.size, 0, none⟩ = some (.int .i64 num) ∧ y.cell? ⟨w.heap.size, 1, none⟩ = some (.int .i64 idx) ∧ y.cell? ⟨w.heap.size, 2, none⟩ = some (.int .i64 d) ∧ y.cell? ⟨w.heap.size, 3, none⟩ = some (.int .i64 p) ∧ y.cell? ⟨w.heap.size, 4, none⟩ = some (.slice sA m sC) ∧ Below w2.heap.size w2 y) := Lib.hid fun y hy => by
        obtain ⟨x0, x1, x2, x3, x4⟩ := seal5 (below_objS hy HK2.out)
        exact ⟨x0, x1, x2, x3, x4, hy⟩
      have hc0 : Below w2.heap.size w2 w2.drew := (Below.refl _ _).drew
      have HCT : Hid (∀ y, Below w2.heap.size w2 y → Below w.heap.size w y) := Lib.hid fun y hy => HB2.out.trans (hy.mono HB2.out.size)
      obtain ⟨x0, x1, x2, x3, x4⟩ := seal5 HK2.out
      go_wp2
      clear x0 x1 x2 x3 x4
      go_region_held3 (fun y => y.cell? ⟨w.heap.size, 0, none⟩ = some (.int .i64 num) ∧ y.cell? ⟨w.heap.size, 1, none⟩ = some (.int .i64 idx) ∧ y.cell? ⟨w.heap.size, 2, none⟩ = some (.int .i64 d) ∧ y.cell? ⟨w.heap.size, 3, none⟩ = some (.int .i64 p) ∧ y.cell? ⟨w.heap.size, 4, none⟩ = some (.slice sA m sC) ∧ Below w2.heap.size w2 y)
        (first
          | exact HSS.out _ hcD
          | exact HSS.out _ hcC
          | exact HSS.out _ hcE
          | exact HSS.out _ hcB
          | exact HSS.out _ hcA
          | exact HSS.out _ hc0)
        (first
          | (go_at_call 9; go_fit ((HS.out _ (HCT.out _ (by first | exact hcB | exact hc0))).1); rintro e wA ⟨AA, CA, rfl, -, hrA, hbA⟩; have hcA := below_then (by first | exact hcB | exact hc0) hbA)
          | (go_at_call 10; go_fit ((HS.out _ (HCT.out _ (by first | exact hcA | exact hc0))).2.1); rintro e wB ⟨AB, CB, rfl, -, hrB, hbB⟩; have hcB := below_then (by first | exact hcA | exact hc0) hbB)
          | (go_at_call 8; go_fit (same16_any AA AB (spots ts) (spots ts).length CA CB (fun _ => True) (fun _ => True) _ rfl HN2.out (by first | exact hrA | exact hrA.old hbB) (by first | exact hrB | exact hrB.old hbA)); rintro e wE ⟨rfl, hbE⟩; have hcE := below_then (by first | exact hcA | exact hcB) hbE)
          | (go_at_call 11; go_fit ((HS.out _ (HCT.out _ (by first | exact hcD | exact hcE))).2.2.1); rintro e wC ⟨rfl, hbC⟩; have hcC := below_then (by first | exact hcD | exact hcE) hbC)
          | (go_at_call 12; go_fit ((HS.out _ (HCT.out _ (by first | exact hcC | exact hcE))).2.2.2.1); rintro e wD ⟨rfl, hbD⟩; have hcD := below_then (by first | exact hcC | exact hcE) hbD))
      all_goals
        go_wp2
        go_ret
        refine ⟨rfl, HCT.out _ ?_⟩
        first | exact hcC | exact hcD
    · have e1 : decide (20 < m) = true := decide_eq_true (by omega)
      have e1' : decide ((20 : Int) < (m : Int)) = true := decide_eq_true (by omega)
      clear hl
      go_wp2
      go_ret
      exact ⟨rfl, HB2.out⟩
end Go.Proofs.Ytnbfkihgloipiaa
