/- What slices.CompactFunc makes of a row of seals: the first of each run of one number. What slices.Index, slices.Contains, rightLabels and RightSeal of package record answer. Bytes that a call answers, in new memory. -/
import Derived.Test.YtndofmoepjfnfaaGreatGrIns
import Derived.Lib.SliceRun
import Derived.Test.YtndofmoepjfnfaaGreatMat
import Derived.Test.YtndofmoepjfnfaaGreatMan
namespace Go.Proofs.YtndofmoepjfnfaaGreat
open Go.RowKit
open Pt (Tx)

def zeroX : List Value := [.int .i64 0, .int .i64 0, .int .i64 0, .int .i64 0, .slice none 0 0]
/-- all of these cells are set -/
theorem kp_cells (g : Nat) : ∀ (vs : List Value) (o : Nat) (w : World), Kp (· = g) w (w.setCells g o vs)
  | [], _, w => Kp.refl _ w
  | v :: vs, o, w => (Kp.store w g o v).trans (kp_cells g vs (o + 1) (w.setCell ⟨g, o, none⟩ v))
theorem heap_cells (g : Nat) (t : TypeId) : ∀ (vs : List Value) (o : Nat) (w : World) (c : Array Value), w.heap[g]? = some (.cells c t (0, 0)) →
    ∃ c', (w.setCells g o vs).heap[g]? = some (.cells c' t (0, 0)) ∧ c'.size = c.size ∧ ∀ i, i < o → c'[i]? = c[i]?
  | [], _, w, c, h => ⟨c, h, rfl, fun _ _ => rfl⟩
  | v :: vs, o, w, c, h => by
    obtain ⟨c', h1, h2, h3⟩ := heap_cells g t vs (o + 1) (w.setCell ⟨g, o, none⟩ v) _ (heap_set h v)
    refine ⟨c', h1, by simpa using h2, fun i hi => ?_⟩
    rw [h3 i (by omega), Array.getElem?_setIfInBounds, if_neg (by omega)]
theorem SitsX.cells {w : World} {g off : Nat} {l : List Sx} (h : SitsX w g off l) {q : Nat} (vs : List Value) : SitsX (w.setCells g (off + q * 5) vs) g off (l.take q) := by
  obtain ⟨cur, hb, hs, hc⟩ := h.take q
  obtain ⟨c', h1, h2, h3⟩ := heap_cells g _ vs (off + q * 5) w cur hb
  refine ⟨c', h1, by rw [h2]; exact hs, fun i hi j u hu => ?_⟩
  have hj : j < 5 := by
    have := (List.getElem?_eq_some_iff.1 hu).1
    simpa [Sx.enc] using this
  have hiq : i < q := by rw [List.length_take] at hi; omega
  rw [h3 _ (by omega)]
  exact hc i hi j u hu
/-- what lies behind a place is set to nothing -/
theorem clear_run (w : World) (g o n C : Nat) (hn : 0 < n) (hc : ∀ j, j < n * 5 → (w.cell? ⟨g, o + j, none⟩).isSome = true) (hf : ∀ j, w.frozen? ⟨g, j, none⟩ = false) :
    ∃ vs : List Value, ∀ ty, (Builtin.clear_ #[54] ty #[.slice (some ⟨g, o, none⟩) n C]).run Tryz.prog w = .ok (.tuple #[]) (w.setCells g o vs) := by
  obtain ⟨z, hz⟩ : ∃ z : Value, z = .agg #[.int .i64 0, .int .i64 0, .int .i64 0, .int .i64 0, .slice none 0 0] := ⟨_, rfl⟩
  have hv : ∀ w, (zeroValue 90).run Tryz.prog w = .ok z w := fun w => by rw [hz]; kernel_rfl
  have hzc : z.cells = #[.int .i64 0, .int .i64 0, .int .i64 0, .int .i64 0, .slice none 0 0] := by rw [hz]; rfl
  have hlen : (Builtin.zeroCells z.cells n).toList.length = n * 5 := by rw [hzc]; simp [Builtin.zeroCells]
  have hone : ∀ v ∈ (Builtin.zeroCells z.cells n).toList, v.oneCell' = true := by
    intro v hv'
    rw [hzc] at hv'
    simp only [Builtin.zeroCells, Array.toList_map, List.mem_map] at hv'
    obtain ⟨i, _, rfl⟩ := hv'
    have hi : i % 5 < 5 := Nat.mod_lt _ (by omega)
    show (#[Value.int .i64 0, .int .i64 0, .int .i64 0, .int .i64 0, .slice none 0 0])[i % 5]!.oneCell' = true
    generalize i % 5 = k at hi
    match k, hi with
    | 0, _ => rfl
    | 1, _ => rfl
    | 2, _ => rfl
    | 3, _ => rfl
    | 4, _ => rfl
    | k + 5, hi => omega
  have hst := run_storeCells_cells (P := Tryz.prog) g o (Builtin.zeroCells z.cells n).toList 0 w (by rw [hlen]; simpa using hc) (by intro j _; exact hf _) hone
  simp only [Nat.add_zero] at hst
  refine ⟨(Builtin.zeroCells z.cells n).toList, fun ty => ?_⟩
  obtain ⟨m, rfl⟩ : ∃ m, n = m + 1 := ⟨n - 1, by omega⟩
  simp [Builtin.clear_, run_underlying Tryz.underlying54, hv, hst]
theorem SitsX.some_ {w : World} {g off : Nat} {l : List Sx} (h : SitsX w g off l) {k : Nat} (hk : k < off + l.length * 5) : (w.cell? ⟨g, k, none⟩).isSome = true := by
  obtain ⟨cur, hb, hs, _⟩ := h
  rw [heap_cell hb, Array.getElem?_eq_getElem (by omega)]; rfl
/-- how far the second walk has come: the first q are what is kept of the first k0 + k2 -/
structure Kept2 (l : List Sx) (k0 k2 q : Nat) (M : List Sx) : Prop where
  len : M.length = l.length
  lo : k0 ≤ q
  hi : q + 1 ≤ k0 + k2
  kept : M.take q = So.compact Sx.num (l.take (k0 + k2))
  rest : ∀ i (_ : k0 + k2 ≤ i + 1) (h : i < M.length) (h' : i < l.length), M[i] = l[i]
theorem Kept2.skip {l : List Sx} {k0 k2 q : Nat} {M : List Sx} (h : Kept2 l k0 k2 q M) {j : Nat} (hj : k0 + k2 = j + 1) (hl : k0 + k2 < l.length) {x y : Sx} (hx : l[k0 + k2]'hl = x) (hy : l[j]'(by omega) = y) (he : Sx.num x = Sx.num y) : Kept2 l k0 (k2 + 1) q M := by
  refine ⟨h.len, h.lo, by have := h.hi; omega, ?_, fun i hi a b => h.rest i (by omega) a b⟩
  have h1 := So.compact_take (f := Sx.num) (l := l) (k := j) (by omega)
  rw [h.kept, show k0 + (k2 + 1) = j + 1 + 1 by omega, h1, if_pos ?_, List.append_nil, hj]
  rw [hy, ← he, ← hx]; congr 2; exact hj.symm
theorem Kept2.take {l : List Sx} {k0 k2 q : Nat} {M : List Sx} (h : Kept2 l k0 k2 q M) {j : Nat} (hj : k0 + k2 = j + 1) (hl : k0 + k2 < l.length) {x y : Sx} (hx : l[k0 + k2]'hl = x) (hy : l[j]'(by omega) = y) (he : ¬ Sx.num x = Sx.num y) : Kept2 l k0 (k2 + 1) (q + 1) (M.set q x) := by
  have h0 := h.hi
  have h2 := h.len
  refine ⟨by rw [List.length_set]; exact h.len, by have := h.lo; omega, by omega, ?_, fun i hi a b => ?_⟩
  · have h1 := So.compact_take (f := Sx.num) (l := l) (k := j) (by omega)
    have e : l[j + 1]'(by omega) = x := by rw [← hx]; congr 1; exact hj.symm
    rw [show k0 + (k2 + 1) = j + 1 + 1 by omega, h1, e, hy, if_neg he, ← hj, ← h.kept, List.take_succ_eq_append_getElem (by rw [List.length_set]; omega), List.getElem_set_self, List.take_set_of_le (Nat.le_refl _)]
  · rw [List.getElem_set_ne (by omega)]
    exact h.rest i (by omega) _ b
set_option maxRecDepth 100000 in
set_option maxHeartbeats 8000000 in
theorem compact_any (g off : Nat) (l : List Sx) (n C : Nat) (w : World) (hn : n = l.length) (hC : n ≤ C) (hm : n ≤ 1000) (h : SitsX w g off l) :
    Calls Tryz.prog 48 #[.slice (some ⟨g, off, none⟩) n C, .func (.func 49) #[] #[]] w fun e w' => e = .returned (.slice (some ⟨g, off, none⟩) (So.compact Sx.num l).length C) ∧ Sorts w g off (So.compact Sx.num l) w' := by
  have HN := Lib.hid hn
  have H0 : Hid (Sorts w g off l w) := Lib.hid ⟨h, Kp.refl _ _⟩

  clear h hn
  by_cases h2 : n < 2
  · have e0 : decide ((n : Int) < 2) = true := decide_eq_true (by omega)
    have e1 : decide (n < 2) = true := decide_eq_true h2
    have HE : Hid (So.compact Sx.num l = l) := Lib.hid (by
      have hl := HN.out
      match l, hl with
      | [], _ => rfl
      | [a], _ => rfl
      | a :: b :: l, hl => simp at hl; omega)
    clear h2
    go_enter Tryz.func48, Tryz.ntmps48
    go_wp2
    go_ret
    rw [HE.out, ← HN.out]
    exact ⟨rfl, H0.out⟩
  · have e0 : decide ((n : Int) < 2) = false := decide_eq_false (by omega)
    have e1 : decide (n < 2) = false := decide_eq_false h2
    have HK0 : Hid (So.compact Sx.num (l.take 1) = l.take 1) := Lib.hid (So.compact_one (by rw [← HN.out]; omega))
    have h2' : 2 ≤ n := by omega
    clear h2
    go_enter Tryz.func48, Tryz.ntmps48
    go_wp2
    go_loopw [5] (fun vk wr => ∃ k : Nat, vk = .int .i64 (k : Int) ∧ 1 ≤ k ∧ k ≤ n ∧ Hid (So.compact Sx.num (l.take k) = l.take k) ∧ Hid (Sorts w g off l wr)) (fun vk _ => n - (intOf vk).toNat)
    case atStart => exact ⟨1, rfl, Nat.le_refl _, by omega, HK0, H0⟩
    case round =>
      obtain ⟨J, rfl, hJ1, hJn, HC0, HS⟩ := hrel
      by_cases hlt : J < n
      · have e2 : decide ((J : Int) < (n : Int)) = true := decide_eq_true (by omega)
        have e3 : decide (J < n) = true := decide_eq_true hlt
        obtain ⟨K, hK⟩ : ∃ K, K = J - 1 := ⟨_, rfl⟩
        have hJK : J = K + 1 := by omega
        have hKJ : K < J := by omega
        have hKn : K < n := by omega
        have s1 : IntKind.i64.wrap ((J : Int) - 1) = (K : Int) := by rw [IntWalk.i64_in _ (by omega)]; omega
        have hJl : J < l.length := by rw [← HN.out]; exact hlt
        have hKl : K < l.length := by omega
        have HCT : Hid (So.compact Sx.num (l.take (J + 1)) = l.take J ++ (if Sx.num l[J] = Sx.num l[K] then [] else [l[J]])) := Lib.hid (by
          have h1 := So.compact_take (f := Sx.num) (l := l) (k := K) (by omega)
          have h3 := HC0.out
          rw [hJK] at h3
          rw [h3] at h1
          have : ∀ (q : Nat) (_ : q = K + 1) (h : q < l.length), So.compact Sx.num (l.take (q + 1)) = l.take q ++ (if Sx.num l[q] = Sx.num l[K] then [] else [l[q]]) := by
            rintro q rfl h; exact h1
          exact this J hJK hJl)
        obtain ⟨x, hx⟩ : ∃ x, x = l[J] := ⟨_, rfl⟩
        obtain ⟨y, hy⟩ : ∃ y, y = l[K] := ⟨_, rfl⟩
        have fJ := HS.out.sits.five (i := J) (x := x) hJl hx.symm
        have fK := HS.out.sits.five (i := K) (x := y) hKl hy.symm
        have HX := Lib.hid hx
        rw [← hx, ← hy] at HCT
        have HJK := Lib.hid hJK
        clear hx hy hK hJK
        obtain ⟨⟨xn, xi, xd, xp, xl⟩, xA, xC⟩ := x
        obtain ⟨⟨yn, yi, yd, yp, yl⟩, yA, yC⟩ := y
        obtain ⟨xm, hxm⟩ : ∃ m, m = xl.length := ⟨_, rfl⟩
        obtain ⟨ym, hym⟩ : ∃ m, m = yl.length := ⟨_, rfl⟩
        dsimp only at fJ fK
        rw [← hxm] at fJ
        rw [← hym] at fK
        have HXM := Lib.hid hxm
        have FJ := Lib.hid fJ
        have FK := Lib.hid fK
        clear hxm hym fJ fK
        have hbd : Below wr.heap.size wr wr.drew := (Below.refl _ _).drew
        have HF : Hid (∀ z, Below wr.heap.size wr z → Five z g (off + J * 5) xn xi xd xp xA xm xC ∧ Five z g (off + K * 5) yn yi yd yp yA ym yC ∧ Below wr.heap.size wr z) := Lib.hid fun z hz => ⟨FJ.out.old hz, FK.out.old hz, hz⟩
        have hx0 := HF.out _ hbd
        unfold Five at hx0
        have HQ : Hid (∀ e : Bool, (xn == yn) = e → So.compact Sx.num (l.take (J + 1)) = l.take J ++ (if e = true then [] else [⟨⟨xn, xi, xd, xp, xl⟩, xA, xC⟩])) := Lib.hid fun e he => by
          rw [HCT.out]
          show l.take J ++ (if xn = yn then _ else _) = _
          congr 1
          cases e with
          | true => rw [if_pos (beq_iff_eq.1 he), if_pos rfl]
          | false => rw [if_neg (by simpa using he), if_neg (by decide)]
        clear HCT
        cases q1 : (xn == yn) with
        | false =>
          have HNEXT : Hid (So.compact Sx.num (l.take (J + 1)) = l.take (J + 1)) := Lib.hid (by
            rw [HQ.out false q1, List.take_succ_eq_append_getElem hJl, ← HX.out]; rfl)
          go_wp2
          go_region_held3 (fun z => (z.cell? ⟨g, off + J * 5, none⟩ = some (.int .i64 xn) ∧ z.cell? ⟨g, off + J * 5 + 1, none⟩ = some (.int .i64 xi) ∧ z.cell? ⟨g, off + J * 5 + 2, none⟩ = some (.int .i64 xd) ∧ z.cell? ⟨g, off + J * 5 + 3, none⟩ = some (.int .i64 xp) ∧ z.cell? ⟨g, off + J * 5 + 4, none⟩ = some (.slice xA xm xC)) ∧ (z.cell? ⟨g, off + K * 5, none⟩ = some (.int .i64 yn) ∧ z.cell? ⟨g, off + K * 5 + 1, none⟩ = some (.int .i64 yi) ∧ z.cell? ⟨g, off + K * 5 + 2, none⟩ = some (.int .i64 yd) ∧ z.cell? ⟨g, off + K * 5 + 3, none⟩ = some (.int .i64 yp) ∧ z.cell? ⟨g, off + K * 5 + 4, none⟩ = some (.slice yA ym yC)) ∧ Below wr.heap.size wr z)
            (first
              | exact hx2
              | exact hx0)
            (first
              | (go_at_call 49; refine (same_any xn xi xd xp xA xm xC yn yi yd yp yA ym yC wr.drew).mono ?_; rintro e w9 ⟨rfl, hb9⟩; have hx2 := HF.out w9 (hbd.trans hb9); unfold Five at hx2))
          have HS9 := Lib.hid (HS.out.old hx2.2.2)
          clear hx2 hx0 hb9 hbd HF
          go_wp2
          go_roundw
          case rel => exact ⟨J + 1, by go_num, by omega, by omega, HNEXT, HS9⟩
          case measure => simp [intOf]; omega
        | true =>
          have HK2 : Hid (Kept2 l J 1 J l) := Lib.hid ⟨rfl, Nat.le_refl _, Nat.le_refl _, by rw [HQ.out true q1]; simp, fun _ _ _ _ => rfl⟩
          go_wp2
          go_region_held3 (fun z => (z.cell? ⟨g, off + J * 5, none⟩ = some (.int .i64 xn) ∧ z.cell? ⟨g, off + J * 5 + 1, none⟩ = some (.int .i64 xi) ∧ z.cell? ⟨g, off + J * 5 + 2, none⟩ = some (.int .i64 xd) ∧ z.cell? ⟨g, off + J * 5 + 3, none⟩ = some (.int .i64 xp) ∧ z.cell? ⟨g, off + J * 5 + 4, none⟩ = some (.slice xA xm xC)) ∧ (z.cell? ⟨g, off + K * 5, none⟩ = some (.int .i64 yn) ∧ z.cell? ⟨g, off + K * 5 + 1, none⟩ = some (.int .i64 yi) ∧ z.cell? ⟨g, off + K * 5 + 2, none⟩ = some (.int .i64 yd) ∧ z.cell? ⟨g, off + K * 5 + 3, none⟩ = some (.int .i64 yp) ∧ z.cell? ⟨g, off + K * 5 + 4, none⟩ = some (.slice yA ym yC)) ∧ Below wr.heap.size wr z)
            (first
              | exact hx2
              | exact hx0)
            (first
              | (go_at_call 49; refine (same_any xn xi xd xp xA xm xC yn yi yd yp yA ym yC wr.drew).mono ?_; rintro e w9 ⟨rfl, hb9⟩; have hx2 := HF.out w9 (hbd.trans hb9); unfold Five at hx2))
          have HS9 := Lib.hid (HS.out.old hx2.2.2)
          clear hx2 hx0 hb9 hbd HF HQ FJ FK HX HJK
          have hnJ : 0 < n - J := by omega
          go_wp2
          generalize hN2 : n - J = N2
          generalize hC2 : C - J = C2
          generalize ho2 : off + J * 5 = o2
          have hN2a : J + N2 ≤ n := by omega
          have hN2b : n ≤ J + N2 := by omega
          have hN2p : 1 ≤ N2 := by omega
          have HO2 := Lib.hid ho2
          clear hN2 hC2 ho2 q1 HC0 HS hnJ
          go_loopw [5, 7] (fun vq vk wr => ∃ (q k2 : Nat) (M : List Sx), vq = .int .i64 (q : Int) ∧ vk = .int .i64 (k2 : Int) ∧ 1 ≤ k2 ∧ k2 ≤ N2 ∧ J ≤ q ∧ q + 1 ≤ J + k2 ∧ Hid (Kept2 l J k2 q M) ∧ Hid (Sorts w g off M wr)) (fun _ vk _ => N2 - (intOf vk).toNat)
          case atStart => exact ⟨J, 1, l, rfl, rfl, Nat.le_refl _, hN2p, Nat.le_refl _, Nat.le_refl _, HK2, HS9⟩
          case round =>
            obtain ⟨q, k2, M, rfl, rfl, hk1, hk2, hq1, hq2, HKM, HS⟩ := hrel
            have HLM : Hid (M.length = n) := Lib.hid (by rw [HKM.out.len]; exact HN.out.symm)
            by_cases hl2 : k2 < N2
            · have e4 : decide ((k2 : Int) < (N2 : Int)) = true := decide_eq_true (by omega)
              have e5 : decide (k2 < N2) = true := decide_eq_true hl2
              obtain ⟨K2, hK2⟩ : ∃ K, K = k2 - 1 := ⟨_, rfl⟩
              have hK2n : K2 < N2 := by omega
              have s2 : IntKind.i64.wrap ((k2 : Int) - 1) = (K2 : Int) := by rw [IntWalk.i64_in _ (by omega)]; omega
              have hjk : J + k2 = (J + K2) + 1 := by omega
              have HJ2 := Lib.hid hjk
              have hJl2 : J + k2 < l.length := by rw [← HN.out]; omega
              have hKl2 : J + K2 < l.length := by omega
              have HJL := Lib.hid hJl2
              have HKL := Lib.hid hKl2
              obtain ⟨x', hx⟩ : ∃ x', x' = l[J + k2] := ⟨_, rfl⟩
              obtain ⟨y', hy⟩ : ∃ y', y' = l[J + K2] := ⟨_, rfl⟩
              have HX := Lib.hid hx
              have HY := Lib.hid hy
              obtain ⟨z', hz⟩ : ∃ z', z' = M[q]'(by rw [HLM.out]; omega) := ⟨_, rfl⟩
              have fJ := HS.out.sits.five (i := J + k2) (x := x') (by rw [HLM.out]; omega) (by rw [hx]; exact HKM.out.rest _ (by omega) _ _)
              have fK := HS.out.sits.five (i := J + K2) (x := y') (by rw [HLM.out]; omega) (by rw [hy]; exact HKM.out.rest _ (by omega) _ _)
              have fQ := HS.out.sits.five (i := q) (x := z') (by rw [HLM.out]; omega) hz.symm
              have hqM : q < M.length := by rw [HLM.out]; omega
              have hqn : q < n := by omega
              have HQM := Lib.hid hqM
              rw [show off + (J + k2) * 5 = o2 + k2 * 5 by rw [← HO2.out]; omega] at fJ
              rw [show off + (J + K2) * 5 = o2 + K2 * 5 by rw [← HO2.out]; omega] at fK
              clear hx hy hz hK2 hjk hJl2 hKl2 hqM
              obtain ⟨⟨an, ai, ad, ap, al⟩, aA, aC⟩ := x'
              obtain ⟨⟨bn, bi, bd, bp, bl⟩, bA, bC⟩ := y'
              obtain ⟨⟨cn, ci, cd, cp, cl⟩, cA, cC⟩ := z'
              obtain ⟨am, ham⟩ : ∃ m, m = al.length := ⟨_, rfl⟩
              obtain ⟨bm, hbm⟩ : ∃ m, m = bl.length := ⟨_, rfl⟩
              obtain ⟨cm, hcm⟩ : ∃ m, m = cl.length := ⟨_, rfl⟩
              dsimp only at fJ fK fQ
              rw [← ham] at fJ
              rw [← hbm] at fK
              rw [← hcm] at fQ
              have HAM := Lib.hid ham
              have FJ := Lib.hid fJ
              have FK := Lib.hid fK
              have FQ := Lib.hid fQ
              clear ham hbm hcm fJ fK fQ
              have hbd : Below wr.heap.size wr wr.drew := (Below.refl _ _).drew
              have HF : Hid (∀ z, Below wr.heap.size wr z → Five z g (o2 + k2 * 5) an ai ad ap aA am aC ∧ Five z g (o2 + K2 * 5) bn bi bd bp bA bm bC ∧ Below wr.heap.size wr z) := Lib.hid fun z hz => ⟨FJ.out.old hz, FK.out.old hz, hz⟩
              have hx0 := HF.out _ hbd
              unfold Five at hx0
              cases q1 : (an == bn) with
              | true =>
                have HK9 : Hid (Kept2 l J (k2 + 1) q M) := Lib.hid (HKM.out.skip HJ2.out HJL.out HX.out.symm HY.out.symm (beq_iff_eq.1 q1))
                go_wp2
                go_region_held3 (fun z => (z.cell? ⟨g, o2 + k2 * 5, none⟩ = some (.int .i64 an) ∧ z.cell? ⟨g, o2 + k2 * 5 + 1, none⟩ = some (.int .i64 ai) ∧ z.cell? ⟨g, o2 + k2 * 5 + 2, none⟩ = some (.int .i64 ad) ∧ z.cell? ⟨g, o2 + k2 * 5 + 3, none⟩ = some (.int .i64 ap) ∧ z.cell? ⟨g, o2 + k2 * 5 + 4, none⟩ = some (.slice aA am aC)) ∧ (z.cell? ⟨g, o2 + K2 * 5, none⟩ = some (.int .i64 bn) ∧ z.cell? ⟨g, o2 + K2 * 5 + 1, none⟩ = some (.int .i64 bi) ∧ z.cell? ⟨g, o2 + K2 * 5 + 2, none⟩ = some (.int .i64 bd) ∧ z.cell? ⟨g, o2 + K2 * 5 + 3, none⟩ = some (.int .i64 bp) ∧ z.cell? ⟨g, o2 + K2 * 5 + 4, none⟩ = some (.slice bA bm bC)) ∧ Below wr.heap.size wr z)
                  (first
                    | exact hx2
                    | exact hx0)
                  (first
                    | (go_at_call 49; refine (same_any an ai ad ap aA am aC bn bi bd bp bA bm bC wr.drew).mono ?_; rintro e w9 ⟨rfl, hb9⟩; have hx2 := HF.out w9 (hbd.trans hb9); unfold Five at hx2))
                have HS9 := Lib.hid (HS.out.old hx2.2.2)
                clear hx2 hx0 hb9 hbd HF
                go_wp2
                go_roundw
                case rel => exact ⟨q, k2 + 1, M, rfl, by go_num, by omega, by omega, by omega, by omega, HK9, HS9⟩
                case measure => simp [intOf]; omega
              | false =>
                have HK9 : Hid (Kept2 l J (k2 + 1) (q + 1) (M.set q ⟨⟨an, ai, ad, ap, al⟩, aA, aC⟩)) := Lib.hid (HKM.out.take HJ2.out HJL.out HX.out.symm HY.out.symm (beq_eq_false_iff_ne.1 q1))
                go_wp2
                go_region_held3 (fun z => (z.cell? ⟨g, o2 + k2 * 5, none⟩ = some (.int .i64 an) ∧ z.cell? ⟨g, o2 + k2 * 5 + 1, none⟩ = some (.int .i64 ai) ∧ z.cell? ⟨g, o2 + k2 * 5 + 2, none⟩ = some (.int .i64 ad) ∧ z.cell? ⟨g, o2 + k2 * 5 + 3, none⟩ = some (.int .i64 ap) ∧ z.cell? ⟨g, o2 + k2 * 5 + 4, none⟩ = some (.slice aA am aC)) ∧ (z.cell? ⟨g, o2 + K2 * 5, none⟩ = some (.int .i64 bn) ∧ z.cell? ⟨g, o2 + K2 * 5 + 1, none⟩ = some (.int .i64 bi) ∧ z.cell? ⟨g, o2 + K2 * 5 + 2, none⟩ = some (.int .i64 bd) ∧ z.cell? ⟨g, o2 + K2 * 5 + 3, none⟩ = some (.int .i64 bp) ∧ z.cell? ⟨g, o2 + K2 * 5 + 4, none⟩ = some (.slice bA bm bC)) ∧ Below wr.heap.size wr z)
                  (first
                    | exact hx2
                    | exact hx0)
                  (first
                    | (go_at_call 49; refine (same_any an ai ad ap aA am aC bn bi bd bp bA bm bC wr.drew).mono ?_; rintro e w9 ⟨rfl, hb9⟩; have hx2 := HF.out w9 (hbd.trans hb9); unfold Five at hx2))
                have HS9 := Lib.hid (HS.out.old hx2.2.2)
                have FJ9 := Lib.hid (FJ.out.old hx2.2.2)
                have FQ9 := Lib.hid (FQ.out.old hx2.2.2)
                clear hx2 hx0 hb9 hbd HF
                have fr : ∀ k, w9.frozen? ⟨g, k, none⟩ = false := HS9.out.sits.free
                have f0 := fr (off + q * 5)
                have f1 := fr (off + q * 5 + 1)
                have f2 := fr (off + q * 5 + 2)
                have f3 := fr (off + q * 5 + 3)
                have f4 := fr (off + q * 5 + 4)
                have hset := HS9.out.set HQM.out ⟨⟨an, ai, ad, ap, al⟩, aA, aC⟩
                dsimp only at hset
                rw [← HAM.out] at hset
                have HSET := Lib.hid hset
                have hx := FJ9.out
                have hy := FQ9.out
                unfold Five at hx hy
                obtain ⟨x0, x1, x2, x3, x4⟩ := hx
                obtain ⟨y0, y1, y2, y3, y4⟩ := hy
                clear hset fr
                go_wp2
                generalize (((((w9.setCell ⟨g, off + q * 5, none⟩ (.int .i64 an)).setCell ⟨g, off + q * 5 + 1, none⟩ (.int .i64 ai)).setCell ⟨g, off + q * 5 + 2, none⟩ (.int .i64 ad)).setCell ⟨g, off + q * 5 + 3, none⟩ (.int .i64 ap)).setCell ⟨g, off + q * 5 + 4, none⟩ (.slice aA am aC)) = ws at HSET ⊢
                clear x0 x1 x2 x3 x4 y0 y1 y2 y3 y4 f0 f1 f2 f3 f4
                go_roundw
                case rel => exact ⟨q + 1, k2 + 1, _, by go_num, by go_num, by omega, by omega, by omega, by omega, HK9, HSET⟩
                case measure => simp [intOf]; omega
            · have e4 : decide ((k2 : Int) < (N2 : Int)) = false := decide_eq_false (by omega)
              have e5 : decide (k2 < N2) = false := decide_eq_false hl2
              have HE : Hid (M.take q = So.compact Sx.num l) := Lib.hid (by
                rw [HKM.out.kept, List.take_of_length_le (by rw [← HN.out]; omega)])
              have HEL : Hid ((So.compact Sx.num l).length = q) := Lib.hid (by rw [← HE.out, List.length_take, HLM.out]; omega)
              have hfr : ∀ k, wr.frozen? ⟨g, k, none⟩ = false := HS.out.sits.free
              obtain ⟨vs, hcl⟩ := clear_run wr g (off + q * 5) (n - q) (C - q) (by omega) (fun j hj => HS.out.sits.some_ (by rw [HLM.out]; omega)) hfr
              have HS9 : Hid (Sorts w g off (So.compact Sx.num l) (wr.setCells g (off + q * 5) vs)) := Lib.hid (by
                rw [← HE.out]
                exact ⟨HS.out.sits.cells vs, HS.out.kp.trans (kp_cells _ _ _ _)⟩)
              have hqn : q ≤ n := by omega
              have hqC : q ≤ C := by omega
              clear hfr
              go_wp2
              go_ret
              rw [HEL.out]
              exact ⟨rfl, HS9.out⟩
      · have e2 : decide ((J : Int) < (n : Int)) = false := decide_eq_false (by omega)
        have e3 : decide (J < n) = false := decide_eq_false hlt
        have HE : Hid (So.compact Sx.num l = l) := Lib.hid (by
          have h1 := HC0.out
          rwa [List.take_of_length_le (by rw [← HN.out]; omega)] at h1)
        go_wp2
        go_ret
        rw [HE.out, ← HN.out]
        exact ⟨rfl, HS.out⟩
end Go.Proofs.YtndofmoepjfnfaaGreat
namespace Go.Proofs.YtndofmoepjfnfaaGreat
open Go.RowKit
open Pt (Tx)

theorem mem_take_step {l : List Int} {k : Nat} (h : k < l.length) (x : Int) : x ∈ l.take (k + 1) ↔ x ∈ l.take k ∨ x = l[k] := by
  rw [List.take_succ_eq_append_getElem h, List.mem_append, List.mem_singleton]
/-- a place is told, or that there is none -/
def Found (b : Bool) (w : World) (e : Ending) (w' : World) : Prop := (∃ k : Int, e = .returned (.int .i64 k) ∧ decide (0 ≤ k) = b) ∧ w = w'
theorem index_any (A : Option Addr) (l : List Int) (n C : Nat) (x : Int) (G : Nat → Prop) (w : World) (hn : n = l.length) (hl : n ≤ maxLen) (hr : RdZ w A l G) :
    Calls Tryz.prog 92 #[.slice A n C, .int .i64 x] w (Found (decide (x ∈ l)) w) := by
  unfold maxLen at hl
  have HR := Lib.hid hr
  have HN := Lib.hid hn
  clear hr hn
  go_enter Tryz.func92, Tryz.ntmps92
  go_wp2
  go_loop [5, 8] (fun vs vi => ∃ k : Nat, k ≤ n ∧ vi = .int .i64 (k : Int) ∧ Hid (x ∉ l.take k)) (fun vs vi => n - (intOf vi).toNat)
  case atStart => exact ⟨0, Nat.zero_le _, rfl, Lib.hid (by simp)⟩
  case round =>
    obtain ⟨k, hk, rfl, HM⟩ := hrel
    by_cases hlt : k < n
    · have hlt' : k < l.length := by rw [← HN.out]; exact hlt
      obtain ⟨b, off, rfl, -, hc⟩ := HR.out.at_ hlt'
      have HS := Lib.hid (mem_take_step hlt' x)
      obtain ⟨y, hy⟩ : ∃ y, y = l[k] := ⟨_, rfl⟩
      rw [← hy] at hc HS
      have HY := Lib.hid (hy ▸ List.getElem_mem hlt')
      clear hy
      by_cases e : x = y
      · have q : (x == y) = true := beq_iff_eq.2 e
        have HX : Hid (x ∈ l) := Lib.hid (by rw [e]; exact HY.out)
        clear e
        go_wp2
        go_ret
        exact ⟨⟨(k : Int), rfl, by rw [decide_eq_true HX.out]; simp⟩, rfl⟩
      · have q : (x == y) = false := beq_eq_false_iff_ne.2 e
        have HX : Hid (x ∉ l.take (k + 1)) := Lib.hid fun h => (HS.out.1 h).elim HM.out e
        clear e
        go_wp2
        go_round
        case rel => exact ⟨k + 1, by omega, by go_num, HX⟩
        case measure => simp [intOf]; omega
    · have HX : Hid (x ∉ l) := Lib.hid (by have := HM.out; rwa [List.take_of_length_le (by rw [← HN.out]; omega)] at this)
      go_wp2
      go_ret
      exact ⟨⟨-1, rfl, by rw [decide_eq_false HX.out]; rfl⟩, rfl⟩
theorem contains_any (A : Option Addr) (l : List Int) (n C : Nat) (x : Int) (G : Nat → Prop) (w : World) (hn : n = l.length) (hl : n ≤ maxLen) (hr : RdZ w A l G) :
    Calls Tryz.prog 79 #[.slice A n C, .int .i64 x] w fun e w' => e = .returned (.bool (decide (x ∈ l))) ∧ w = w' := by
  have h := index_any A l n C x G w hn hl hr
  obtain ⟨d, hd⟩ : ∃ d, d = decide (x ∈ l) := ⟨_, rfl⟩
  rw [← hd] at h ⊢
  have H := Lib.hid h
  clear h hd hr hn hl
  go_enter Tryz.func79, Tryz.ntmps79
  go_wp2_with fail
  refine H.out.mono ?_
  rintro e w' ⟨⟨k, rfl, hk⟩, hw'⟩
  subst hw'
  go_wp2
  go_ret
  first | exact ⟨rfl, rfl⟩ | exact ⟨by rw [← hk]; rfl, rfl⟩
set_option maxHeartbeats 1000000 in
theorem labels_any (A : Option Addr) (l : List Int) (n C : Nat) (G : Nat → Prop) (w : World) (hn : n = l.length) (hl : n ≤ maxLen) (hC : n ≤ C) (hr : RdZ w A l G) :
    Calls Tryz.prog 87 #[.slice A n C] w fun e w' => e = .returned (.bool (decide (Rc.Labs l))) ∧ w = w' := by
  have HM := Lib.hid hl
  unfold maxLen at hl
  have HR := Lib.hid hr
  have HN := Lib.hid hn
  clear hr hn
  go_enter Tryz.func87, Tryz.ntmps87
  go_wp2
  go_loop [3, 4, 7] (fun va vb vi => ∃ k : Nat, k ≤ n ∧ vi = .int .i64 (k : Int) ∧ Hid (Rc.Labs (l.take k))) (fun va vb vi => n - (intOf vi).toNat)
  case atStart => exact ⟨0, Nat.zero_le _, rfl, Lib.hid Rc.Labs.nil⟩
  case round =>
    obtain ⟨k, hk, rfl, HK⟩ := hrel
    by_cases hlt : k < n
    · have hlt' : k < l.length := by rw [← HN.out]; exact hlt
      obtain ⟨b, off, rfl, -, hc⟩ := HR.out.at_ hlt'
      have HY := Lib.hid (Rc.labs_take hlt')
      have HZ : Hid (¬ ((1 ≤ l[k] ∧ l[k] ≤ 2147483647) ∧ l[k] ∉ l.take k) → decide (Rc.Labs l) = false) := Lib.hid fun h => decide_eq_false (Rc.labs_step_no hlt' h)
      have hlen : k = (l.take k).length := by rw [List.length_take]; omega
      have HT := Lib.hid (HR.out.take k)
      have HL := Lib.hid hlen
      obtain ⟨y, hy⟩ : ∃ y, y = l[k] := ⟨_, rfl⟩
      rw [← hy] at hc HY HZ
      clear hy hlen
      have hkc : (k : Int) ≤ (C : Int) := by omega
      cases q1 : btw y 1 2147483647 with
      | false =>
        have HF := Lib.hid (HZ.out fun h => by have := btw_no q1; omega)
        go_wp2_with (go_at_call 86; refine (between_any _ _ _ _).mono ?_; rintro e w' ⟨rfl, hw'⟩; subst hw')
        go_ret
        exact ⟨by rw [HF.out]; rfl, rfl⟩
      | true =>
        cases q2 : decide (y ∈ l.take k) with
        | true =>
          have HF := Lib.hid (HZ.out fun h => h.2 (of_decide_eq_true q2))
          have hcall := contains_any (some ⟨b, off, none⟩) (l.take k) k C y G w HL.out (by have := HM.out; omega) HT.out
          rw [q2] at hcall
          have HC := Lib.hid hcall
          clear hcall
          go_wp2_with (first
            | (go_at_call 86; refine (between_any _ _ _ _).mono ?_; rintro e w' ⟨rfl, hw'⟩; subst hw')
            | (go_at_call 79; refine HC.out.mono ?_; rintro e w' ⟨rfl, hw'⟩; subst hw'))
          go_ret
          exact ⟨by rw [HF.out]; rfl, rfl⟩
        | false =>
          have HX := Lib.hid (HY.out.2 ⟨HK.out, btw_yes q1, of_decide_eq_false q2⟩)
          have hcall := contains_any (some ⟨b, off, none⟩) (l.take k) k C y G w HL.out (by have := HM.out; omega) HT.out
          rw [q2] at hcall
          have HC := Lib.hid hcall
          clear hcall
          go_wp2_with (first
            | (go_at_call 86; refine (between_any _ _ _ _).mono ?_; rintro e w' ⟨rfl, hw'⟩; subst hw')
            | (go_at_call 79; refine HC.out.mono ?_; rintro e w' ⟨rfl, hw'⟩; subst hw'))
          go_round
          case rel => exact ⟨k + 1, by omega, by go_num, HX⟩
          case measure => simp [intOf]; omega
    · have HX : Hid (decide (Rc.Labs l) = true) := Lib.hid (decide_eq_true (by have := HK.out; rwa [List.take_of_length_le (by rw [← HN.out]; omega)] at this))
      go_wp2
      go_ret
      exact ⟨by rw [HX.out]; rfl, rfl⟩
/-- which seals are right, as RightSeal asks -/
def sealB (n x d p : Int) (m : Nat) (lb : Bool) : Bool :=
  btw n 1 1073741824 && (btw d 1 14 && (btw p 1 (14 - d) && (btw x 0 (d + p - 1) && (((m : Int) == d + p) && lb))))
theorem sealB_ok (n x d p : Int) (l : List Int) : sealB n x d p l.length (decide (Rc.Labs l)) = decide (Rc.SOk ⟨n, x, d, p, l⟩) := by
  rw [Bool.eq_iff_iff, decide_eq_true_eq]
  unfold sealB btw Rc.SOk Rc.SNums
  simp only [Bool.and_eq_true, decide_eq_true_eq, beq_iff_eq]
  constructor
  · rintro ⟨⟨h1, h2⟩, ⟨h3, h4⟩, ⟨h5, h6⟩, ⟨h7, h8⟩, h9, h10⟩
    exact ⟨⟨⟨h1, h2⟩, h3, h5, by omega, h9, h7, by omega⟩, h10⟩
  · rintro ⟨⟨⟨h1, h2⟩, h3, h5, h4, h9, h7, h8⟩, h10⟩
    exact ⟨⟨h1, h2⟩, ⟨h3, by omega⟩, ⟨h5, by omega⟩, ⟨h7, by omega⟩, h9, h10⟩
set_option maxHeartbeats 4000000 in
theorem rightSeal_way (n x d p : Int) (A : Option Addr) (l : List Int) (m C : Nat) (G : Nat → Prop) (w : World) (hm : m = l.length) (hC : m ≤ C) (hCm : C ≤ maxLen) (hr : RdZ w A l G) :
    Calls Tryz.prog 72 #[.agg #[.int .i64 n, .int .i64 x, .int .i64 d, .int .i64 p, .slice A m C]] w (AnsB (sealB n x d p m (decide (Rc.Labs l))) w) := by
  have HB0 : Hid (Below w.heap.size w (w.alloc (sealObj n x d p A m C))) := Lib.hid ((Below.refl _ _).alloc (Nat.le_refl _) _)
  have HU0 : Hid ((w.alloc (sealObj n x d p A m C)).heap[w.heap.size]? = some (sealObj n x d p A m C)) := Lib.hid (Go.Deep.blk_alloc_new _ _)
  have HL := Lib.hid (labels_any A l m C G (w.alloc (sealObj n x d p A m C)) hm (by omega) hC (hr.old HB0.out))
  clear hm hC hCm hr
  obtain ⟨a0, a1, a2, a3, a4⟩ := seal5 HU0.out
  unfold sealObj at a0 a1 a2 a3 a4 HL HB0
  cases q1 : btw n 1 1073741824 with
  | false =>
    have H : Hid (sealB n x d p m (decide (Rc.Labs l)) = false) := Lib.hid (by unfold sealB; rw [q1]; rfl)
    go_enter Tryz.func72, Tryz.ntmps72
    go_wp2_with (first
      | (go_at_call 86; refine (between_any _ _ _ _).mono ?_; rintro e w' ⟨rfl, hw'⟩; subst hw')
      | (go_at_call 87; refine HL.out.mono ?_; rintro e w' ⟨rfl, hw'⟩; subst hw'))
    go_ret
    rw [H.out]
    exact ⟨rfl, HB0.out⟩
  | true =>
    cases q2 : btw d 1 14 with
    | false =>
      have H : Hid (sealB n x d p m (decide (Rc.Labs l)) = false) := Lib.hid (by unfold sealB; rw [q1, q2]; rfl)
      go_enter Tryz.func72, Tryz.ntmps72
      go_wp2_with (first
        | (go_at_call 86; refine (between_any _ _ _ _).mono ?_; rintro e w' ⟨rfl, hw'⟩; subst hw')
        | (go_at_call 87; refine HL.out.mono ?_; rintro e w' ⟨rfl, hw'⟩; subst hw'))
      go_ret
      rw [H.out]
      exact ⟨rfl, HB0.out⟩
    | true =>
      have hd0 : 1 ≤ d := (btw_yes q2).1
      have hd1 : d ≤ 14 := (btw_yes q2).2
      cases q3 : btw p 1 (14 - d) with
      | false =>
        have H : Hid (sealB n x d p m (decide (Rc.Labs l)) = false) := Lib.hid (by unfold sealB; rw [q1, q2, q3]; rfl)
        go_enter Tryz.func72, Tryz.ntmps72
        go_wp2_with (first
          | (go_at_call 86; refine (between_any _ _ _ _).mono ?_; rintro e w' ⟨rfl, hw'⟩; subst hw')
          | (go_at_call 87; refine HL.out.mono ?_; rintro e w' ⟨rfl, hw'⟩; subst hw'))
        go_ret
        rw [H.out]
        exact ⟨rfl, HB0.out⟩
      | true =>
        have hp0 : 1 ≤ p := (btw_yes q3).1
        have hp1 : p ≤ 14 - d := (btw_yes q3).2
        cases q4 : btw x 0 (d + p - 1) with
        | false =>
          have H : Hid (sealB n x d p m (decide (Rc.Labs l)) = false) := Lib.hid (by unfold sealB; rw [q1, q2, q3, q4]; rfl)
          go_enter Tryz.func72, Tryz.ntmps72
          go_wp2_with (first
            | (go_at_call 86; refine (between_any _ _ _ _).mono ?_; rintro e w' ⟨rfl, hw'⟩; subst hw')
            | (go_at_call 87; refine HL.out.mono ?_; rintro e w' ⟨rfl, hw'⟩; subst hw'))
          go_ret
          rw [H.out]
          exact ⟨rfl, HB0.out⟩
        | true =>
          cases q5 : ((m : Int) == d + p) with
          | false =>
            have H : Hid (sealB n x d p m (decide (Rc.Labs l)) = false) := Lib.hid (by unfold sealB; rw [q1, q2, q3, q4, q5]; rfl)
            go_enter Tryz.func72, Tryz.ntmps72
            go_wp2_with (first
              | (go_at_call 86; refine (between_any _ _ _ _).mono ?_; rintro e w' ⟨rfl, hw'⟩; subst hw')
              | (go_at_call 87; refine HL.out.mono ?_; rintro e w' ⟨rfl, hw'⟩; subst hw'))
            go_ret
            rw [H.out]
            exact ⟨rfl, HB0.out⟩
          | true =>
            have H : Hid (sealB n x d p m (decide (Rc.Labs l)) = decide (Rc.Labs l)) := Lib.hid (by unfold sealB; rw [q1, q2, q3, q4, q5]; rfl)
            go_enter Tryz.func72, Tryz.ntmps72
            go_wp2_with (first
              | (go_at_call 86; refine (between_any _ _ _ _).mono ?_; rintro e w' ⟨rfl, hw'⟩; subst hw')
              | (go_at_call 87; refine HL.out.mono ?_; rintro e w' ⟨rfl, hw'⟩; subst hw'))
            go_ret
            rw [H.out]
            exact ⟨rfl, HB0.out⟩
theorem rightSeal_any (n x d p : Int) (A : Option Addr) (l : List Int) (m C : Nat) (G : Nat → Prop) (w : World) (hm : m = l.length) (hC : m ≤ C) (hCm : C ≤ maxLen) (hr : RdZ w A l G) :
    Calls Tryz.prog 72 #[.agg #[.int .i64 n, .int .i64 x, .int .i64 d, .int .i64 p, .slice A m C]] w (AnsB (decide (Rc.SOk ⟨n, x, d, p, l⟩)) w) := by
  have h := rightSeal_way n x d p A l m C G w hm hC hCm hr
  rw [hm, sealB_ok, ← hm] at h
  exact h
end Go.Proofs.YtndofmoepjfnfaaGreat
namespace Go.Proofs.YtndofmoepjfnfaaGreat
open Go.RowKit
open Pt (Tx)

/-- bytes are answered, in new memory; or nothing -/
def AnsT (l : Tx) (w : World) (e : Ending) (w' : World) : Prop :=
  ∃ A n C, e = .returned (.slice A n C) ∧ n = l.length ∧ n ≤ C ∧ C ≤ maxLen ∧ (A = none → n = 0 ∧ C = 0) ∧ RdL w' A l (w.heap.size ≤ ·) ∧ Below w.heap.size w w'
theorem AnsT.nil {w w' : World} (h : Below w.heap.size w w') : AnsT [] w (.returned (.slice none 0 0)) w' :=
  ⟨none, 0, 0, rfl, rfl, Nat.le_refl _, by decide, fun _ => ⟨rfl, rfl⟩, RdL.empty _ _ _, h⟩
theorem AnsT.after {l : Tx} {w w1 w2 : World} {e : Ending} (hb : Below w.heap.size w w1) (h : AnsT l w1 e w2) : AnsT l w e w2 := by
  obtain ⟨A, n, C, h1, h2, h3, h4, h5, h6, h7⟩ := h
  exact ⟨A, n, C, h1, h2, h3, h4, h5, h6.mono fun x hx => Nat.le_trans hb.size hx, hb.trans (h7.mono hb.size)⟩
theorem AnsT.of_new {l : Tx} {w w' : World} {e : Ending} (hl : l.length ≤ maxLen) (h : NewC l w e w') : AnsT l w e w' := by
  obtain ⟨b, h1, h2, h3, h4⟩ := h
  exact ⟨some ⟨b, 0, Option.none⟩, l.length, l.length, h1, rfl, Nat.le_refl _, hl, (fun h => by cases h), (rd_of_cells h3).mono (fun x hx => by omega), h4⟩
end Go.Proofs.YtndofmoepjfnfaaGreat
