/- What slices.CompactFunc makes of a row of seals: the first of each run of one number. A tape that lies in a block, or in a row of them. No function of the program. append of bytes, and of bytes 0, onto a row that a call owns, as an equation and as a step of a region that draws its order. No function of the program. What package castagnoli's functions answer; nothing is written. What the document's own sums answer: the same as package castagnoli; nothing is written. -/
import Derived.Test.YtmfikihcoafekaaGrIns
import Derived.Lib.SliceRun
import Derived.Test.YtmfikihcoafekaaMab
import Derived.Test.YtmfikihcoafekaaChecked
import Derived.OwnWalk
import Derived.Handy
import Derived.WalkSpells
import Derived.WalkLawsBesides
import Derived.Test.YtmfikihcoafekaaMac
import Derived.Test.YtmfikihcoafekaaMxZeros
import Derived.Deep.RegionLaw
namespace Go.Proofs.Ytmfikihcoafekaa
open Go.RowKit
open Pt (Tx)

def zeroX : List Value := [.int .i64 0, .int .i64 0, .int .i64 0, .int .i64 0, .slice none 0 0]
/-- all of these cells are set -/
theorem kp_cells (g : Nat) : ∀ (vs : List Value) (o : Nat) (w : World), Kp (· = g) w (w.setCells g o vs)
  | [], _, w => Kp.refl _ w
  | v :: vs, o, w => (Kp.store w g o v).trans (kp_cells g vs (o + 1) (w.setCell ⟨g, o, none⟩ v))
theorem heap_cells (g : Nat) (t : TypeId) : ∀ (vs : List Value) (o : Nat) (w : World) (c : Array Value), w.heap[g]? = some (.cells c t (0, 0)) →
    ∃ c', (w.setCells g o vs).heap[g]? = some (.cells c' t (0, 0)) ∧ c'.size = c.size ∧ ∀ i, i < o → c'[i]? = c[i]?
  | [], _, w, c, h => ⟨c, h, rfl, fun _ _ => rfl⟩
  | v :: vs, o, w, c, h => by
    obtain ⟨c', h1, h2, h3⟩ := heap_cells g t vs (o + 1) (w.setCell ⟨g, o, none⟩ v) _ (heap_set h v)
    refine ⟨c', h1, by simpa using h2, fun i hi => ?_⟩
    rw [h3 i (by omega), Array.getElem?_setIfInBounds, if_neg (by omega)]
theorem SitsX.cells {w : World} {g off : Nat} {l : List Sx} (h : SitsX w g off l) {q : Nat} (vs : List Value) : SitsX (w.setCells g (off + q * 5) vs) g off (l.take q) := by
  obtain ⟨cur, hb, hs, hc⟩ := h.take q
  obtain ⟨c', h1, h2, h3⟩ := heap_cells g _ vs (off + q * 5) w cur hb
  refine ⟨c', h1, by rw [h2]; exact hs, fun i hi j u hu => ?_⟩
  have hj : j < 5 := by
    have := (List.getElem?_eq_some_iff.1 hu).1
    simpa [Sx.enc] using this
  have hiq : i < q := by rw [List.length_take] at hi; omega
  rw [h3 _ (by omega)]
  exact hc i hi j u hu
/-- what lies behind a place is set to nothing -/
theorem clear_run (w : World) (g o n C : Nat) (hn : 0 < n) (hc : ∀ j, j < n * 5 → (w.cell? ⟨g, o + j, none⟩).isSome = true) (hf : ∀ j, w.frozen? ⟨g, j, none⟩ = false) :
    ∃ vs : List Value, ∀ ty, (Builtin.clear_ #[38] ty #[.slice (some ⟨g, o, none⟩) n C]).run Try.prog w = .ok (.tuple #[]) (w.setCells g o vs) := by
  obtain ⟨z, hz⟩ : ∃ z : Value, z = .agg #[.int .i64 0, .int .i64 0, .int .i64 0, .int .i64 0, .slice none 0 0] := ⟨_, rfl⟩
  have hv : ∀ w, (zeroValue 41).run Try.prog w = .ok z w := fun w => by rw [hz]; kernel_rfl
  have hzc : z.cells = #[.int .i64 0, .int .i64 0, .int .i64 0, .int .i64 0, .slice none 0 0] := by rw [hz]; rfl
  have hlen : (Builtin.zeroCells z.cells n).toList.length = n * 5 := by rw [hzc]; simp [Builtin.zeroCells]
  have hone : ∀ v ∈ (Builtin.zeroCells z.cells n).toList, v.oneCell' = true := by
    intro v hv'
    rw [hzc] at hv'
    simp only [Builtin.zeroCells, Array.toList_map, List.mem_map] at hv'
    obtain ⟨i, _, rfl⟩ := hv'
    have hi : i % 5 < 5 := Nat.mod_lt _ (by omega)
    show (#[Value.int .i64 0, .int .i64 0, .int .i64 0, .int .i64 0, .slice none 0 0])[i % 5]!.oneCell' = true
    generalize i % 5 = k at hi
    match k, hi with
    | 0, _ => rfl
    | 1, _ => rfl
    | 2, _ => rfl
    | 3, _ => rfl
    | 4, _ => rfl
    | k + 5, hi => omega
  have hst := run_storeCells_cells (P := Try.prog) g o (Builtin.zeroCells z.cells n).toList 0 w (by rw [hlen]; simpa using hc) (by intro j _; exact hf _) hone
  simp only [Nat.add_zero] at hst
  refine ⟨(Builtin.zeroCells z.cells n).toList, fun ty => ?_⟩
  obtain ⟨m, rfl⟩ : ∃ m, n = m + 1 := ⟨n - 1, by omega⟩
  simp [Builtin.clear_, run_underlying Try.underlying38, hv, hst]
theorem SitsX.some_ {w : World} {g off : Nat} {l : List Sx} (h : SitsX w g off l) {k : Nat} (hk : k < off + l.length * 5) : (w.cell? ⟨g, k, none⟩).isSome = true := by
  obtain ⟨cur, hb, hs, _⟩ := h
  rw [heap_cell hb, Array.getElem?_eq_getElem (by omega)]; rfl
/-- how far the second walk has come: the first q are what is kept of the first k0 + k2 -/
structure Kept2 (l : List Sx) (k0 k2 q : Nat) (M : List Sx) : Prop where
  len : M.length = l.length
  lo : k0 ≤ q
  hi : q + 1 ≤ k0 + k2
  kept : M.take q = So.compact Sx.num (l.take (k0 + k2))
  rest : ∀ i (_ : k0 + k2 ≤ i + 1) (h : i < M.length) (h' : i < l.length), M[i] = l[i]
theorem Kept2.skip {l : List Sx} {k0 k2 q : Nat} {M : List Sx} (h : Kept2 l k0 k2 q M) {j : Nat} (hj : k0 + k2 = j + 1) (hl : k0 + k2 < l.length) {x y : Sx} (hx : l[k0 + k2]'hl = x) (hy : l[j]'(by omega) = y) (he : Sx.num x = Sx.num y) : Kept2 l k0 (k2 + 1) q M := by
  refine ⟨h.len, h.lo, by have := h.hi; omega, ?_, fun i hi a b => h.rest i (by omega) a b⟩
  have h1 := So.compact_take (f := Sx.num) (l := l) (k := j) (by omega)
  rw [h.kept, show k0 + (k2 + 1) = j + 1 + 1 by omega, h1, if_pos ?_, List.append_nil, hj]
  rw [hy, ← he, ← hx]; congr 2; exact hj.symm
theorem Kept2.take {l : List Sx} {k0 k2 q : Nat} {M : List Sx} (h : Kept2 l k0 k2 q M) {j : Nat} (hj : k0 + k2 = j + 1) (hl : k0 + k2 < l.length) {x y : Sx} (hx : l[k0 + k2]'hl = x) (hy : l[j]'(by omega) = y) (he : ¬ Sx.num x = Sx.num y) : Kept2 l k0 (k2 + 1) (q + 1) (M.set q x) := by
  have h0 := h.hi
  have h2 := h.len
  refine ⟨by rw [List.length_set]; exact h.len, by have := h.lo; omega, by omega, ?_, fun i hi a b => ?_⟩
  · have h1 := So.compact_take (f := Sx.num) (l := l) (k := j) (by omega)
    have e : l[j + 1]'(by omega) = x := by rw [← hx]; congr 1; exact hj.symm
    rw [show k0 + (k2 + 1) = j + 1 + 1 by omega, h1, e, hy, if_neg he, ← hj, ← h.kept, List.take_succ_eq_append_getElem (by rw [List.length_set]; omega), List.getElem_set_self, List.take_set_of_le (Nat.le_refl _)]
  · rw [List.getElem_set_ne (by omega)]
    exact h.rest i (by omega) _ b
set_option maxRecDepth 100000 in
set_option maxHeartbeats 8000000 in
theorem compact_any (g off : Nat) (l : List Sx) (n C : Nat) (w : World) (hn : n = l.length) (hC : n ≤ C) (hm : n ≤ 1000) (h : SitsX w g off l) :
    Calls Try.prog 21 #[.slice (some ⟨g, off, none⟩) n C, .func (.func 22) #[] #[]] w fun e w' => e = .returned (.slice (some ⟨g, off, none⟩) (So.compact Sx.num l).length C) ∧ Sorts w g off (So.compact Sx.num l) w' := by
  have HN := Lib.hid hn
  have H0 : Hid (Sorts w g off l w) := Lib.hid ⟨h, Kp.refl _ _⟩

  clear h hn
  by_cases h2 : n < 2
  · have e0 : decide ((n : Int) < 2) = true := decide_eq_true (by omega)
    have e1 : decide (n < 2) = true := decide_eq_true h2
    have HE : Hid (So.compact Sx.num l = l) := Lib.hid (by
      have hl := HN.out
      match l, hl with
      | [], _ => rfl
      | [a], _ => rfl
      | a :: b :: l, hl => simp at hl; omega)
    clear h2
    go_enter Try.func21, Try.ntmps21
    go_wp2
    go_ret
    rw [HE.out, ← HN.out]
    exact ⟨rfl, H0.out⟩
  · have e0 : decide ((n : Int) < 2) = false := decide_eq_false (by omega)
    have e1 : decide (n < 2) = false := decide_eq_false h2
    have HK0 : Hid (So.compact Sx.num (l.take 1) = l.take 1) := Lib.hid (So.compact_one (by rw [← HN.out]; omega))
    have h2' : 2 ≤ n := by omega
    clear h2
    go_enter Try.func21, Try.ntmps21
    go_wp2
    go_loopw [5] (fun vk wr => ∃ k : Nat, vk = .int .i64 (k : Int) ∧ 1 ≤ k ∧ k ≤ n ∧ Hid (So.compact Sx.num (l.take k) = l.take k) ∧ Hid (Sorts w g off l wr)) (fun vk _ => n - (intOf vk).toNat)
    case atStart => exact ⟨1, rfl, Nat.le_refl _, by omega, HK0, H0⟩
    case round =>
      obtain ⟨J, rfl, hJ1, hJn, HC0, HS⟩ := hrel
      by_cases hlt : J < n
      · have e2 : decide ((J : Int) < (n : Int)) = true := decide_eq_true (by omega)
        have e3 : decide (J < n) = true := decide_eq_true hlt
        obtain ⟨K, hK⟩ : ∃ K, K = J - 1 := ⟨_, rfl⟩
        have hJK : J = K + 1 := by omega
        have hKJ : K < J := by omega
        have hKn : K < n := by omega
        have s1 : IntKind.i64.wrap ((J : Int) - 1) = (K : Int) := by rw [IntWalk.i64_in _ (by omega)]; omega
        have hJl : J < l.length := by rw [← HN.out]; exact hlt
        have hKl : K < l.length := by omega
        have HCT : Hid (So.compact Sx.num (l.take (J + 1)) = l.take J ++ (if Sx.num l[J] = Sx.num l[K] then [] else [l[J]])) := Lib.hid (by
          have h1 := So.compact_take (f := Sx.num) (l := l) (k := K) (by omega)
          have h3 := HC0.out
          rw [hJK] at h3
          rw [h3] at h1
          have : ∀ (q : Nat) (_ : q = K + 1) (h : q < l.length), So.compact Sx.num (l.take (q + 1)) = l.take q ++ (if Sx.num l[q] = Sx.num l[K] then [] else [l[q]]) := by
            rintro q rfl h; exact h1
          exact this J hJK hJl)
        obtain ⟨x, hx⟩ : ∃ x, x = l[J] := ⟨_, rfl⟩
        obtain ⟨y, hy⟩ : ∃ y, y = l[K] := ⟨_, rfl⟩
        have fJ := HS.out.sits.five (i := J) (x := x) hJl hx.symm
        have fK := HS.out.sits.five (i := K) (x := y) hKl hy.symm
        have HX := Lib.hid hx
        rw [← hx, ← hy] at HCT
        have HJK := Lib.hid hJK
        clear hx hy hK hJK
        obtain ⟨⟨xn, xi, xd, xp, xl⟩, xA, xC⟩ := x
        obtain ⟨⟨yn, yi, yd, yp, yl⟩, yA, yC⟩ := y
        obtain ⟨xm, hxm⟩ : ∃ m, m = xl.length := ⟨_, rfl⟩
        obtain ⟨ym, hym⟩ : ∃ m, m = yl.length := ⟨_, rfl⟩
        dsimp only at fJ fK
        rw [← hxm] at fJ
        rw [← hym] at fK
        have HXM := Lib.hid hxm
        have FJ := Lib.hid fJ
        have FK := Lib.hid fK
        clear hxm hym fJ fK
        have hbd : Below wr.heap.size wr wr.drew := (Below.refl _ _).drew
        have HF : Hid (∀ z, Below wr.heap.size wr z → Five z g (off + J * 5) xn xi xd xp xA xm xC ∧ Five z g (off + K * 5) yn yi yd yp yA ym yC ∧ Below wr.heap.size wr z) := Lib.hid fun z hz => ⟨FJ.out.old hz, FK.out.old hz, hz⟩
        have hx0 := HF.out _ hbd
        unfold Five at hx0
        have HQ : Hid (∀ e : Bool, (xn == yn) = e → So.compact Sx.num (l.take (J + 1)) = l.take J ++ (if e = true then [] else [⟨⟨xn, xi, xd, xp, xl⟩, xA, xC⟩])) := Lib.hid fun e he => by
          rw [HCT.out]
          show l.take J ++ (if xn = yn then _ else _) = _
          congr 1
          cases e with
          | true => rw [if_pos (beq_iff_eq.1 he), if_pos rfl]
          | false => rw [if_neg (by simpa using he), if_neg (by decide)]
        clear HCT
        cases q1 : (xn == yn) with
        | false =>
          have HNEXT : Hid (So.compact Sx.num (l.take (J + 1)) = l.take (J + 1)) := Lib.hid (by
            rw [HQ.out false q1, List.take_succ_eq_append_getElem hJl, ← HX.out]; rfl)
          go_wp2
          go_region_held3 (fun z => (z.cell? ⟨g, off + J * 5, none⟩ = some (.int .i64 xn) ∧ z.cell? ⟨g, off + J * 5 + 1, none⟩ = some (.int .i64 xi) ∧ z.cell? ⟨g, off + J * 5 + 2, none⟩ = some (.int .i64 xd) ∧ z.cell? ⟨g, off + J * 5 + 3, none⟩ = some (.int .i64 xp) ∧ z.cell? ⟨g, off + J * 5 + 4, none⟩ = some (.slice xA xm xC)) ∧ (z.cell? ⟨g, off + K * 5, none⟩ = some (.int .i64 yn) ∧ z.cell? ⟨g, off + K * 5 + 1, none⟩ = some (.int .i64 yi) ∧ z.cell? ⟨g, off + K * 5 + 2, none⟩ = some (.int .i64 yd) ∧ z.cell? ⟨g, off + K * 5 + 3, none⟩ = some (.int .i64 yp) ∧ z.cell? ⟨g, off + K * 5 + 4, none⟩ = some (.slice yA ym yC)) ∧ Below wr.heap.size wr z)
            (first
              | exact hx2
              | exact hx0)
            (first
              | (go_at_call 22; refine (same_any xn xi xd xp xA xm xC yn yi yd yp yA ym yC wr.drew).mono ?_; rintro e w9 ⟨rfl, hb9⟩; have hx2 := HF.out w9 (hbd.trans hb9); unfold Five at hx2))
          have HS9 := Lib.hid (HS.out.old hx2.2.2)
          clear hx2 hx0 hb9 hbd HF
          go_wp2
          go_roundw
          case rel => exact ⟨J + 1, by go_num, by omega, by omega, HNEXT, HS9⟩
          case measure => simp [intOf]; omega
        | true =>
          have HK2 : Hid (Kept2 l J 1 J l) := Lib.hid ⟨rfl, Nat.le_refl _, Nat.le_refl _, by rw [HQ.out true q1]; simp, fun _ _ _ _ => rfl⟩
          go_wp2
          go_region_held3 (fun z => (z.cell? ⟨g, off + J * 5, none⟩ = some (.int .i64 xn) ∧ z.cell? ⟨g, off + J * 5 + 1, none⟩ = some (.int .i64 xi) ∧ z.cell? ⟨g, off + J * 5 + 2, none⟩ = some (.int .i64 xd) ∧ z.cell? ⟨g, off + J * 5 + 3, none⟩ = some (.int .i64 xp) ∧ z.cell? ⟨g, off + J * 5 + 4, none⟩ = some (.slice xA xm xC)) ∧ (z.cell? ⟨g, off + K * 5, none⟩ = some (.int .i64 yn) ∧ z.cell? ⟨g, off + K * 5 + 1, none⟩ = some (.int .i64 yi) ∧ z.cell? ⟨g, off + K * 5 + 2, none⟩ = some (.int .i64 yd) ∧ z.cell? ⟨g, off + K * 5 + 3, none⟩ = some (.int .i64 yp) ∧ z.cell? ⟨g, off + K * 5 + 4, none⟩ = some (.slice yA ym yC)) ∧ Below wr.heap.size wr z)
            (first
              | exact hx2
              | exact hx0)
            (first
              | (go_at_call 22; refine (same_any xn xi xd xp xA xm xC yn yi yd yp yA ym yC wr.drew).mono ?_; rintro e w9 ⟨rfl, hb9⟩; have hx2 := HF.out w9 (hbd.trans hb9); unfold Five at hx2))
          have HS9 := Lib.hid (HS.out.old hx2.2.2)
          clear hx2 hx0 hb9 hbd HF HQ FJ FK HX HJK
          have hnJ : 0 < n - J := by omega
          go_wp2
          generalize hN2 : n - J = N2
          generalize hC2 : C - J = C2
          generalize ho2 : off + J * 5 = o2
          have hN2a : J + N2 ≤ n := by omega
          have hN2b : n ≤ J + N2 := by omega
          have hN2p : 1 ≤ N2 := by omega
          have HO2 := Lib.hid ho2
          clear hN2 hC2 ho2 q1 HC0 HS hnJ
          go_loopw [5, 7] (fun vq vk wr => ∃ (q k2 : Nat) (M : List Sx), vq = .int .i64 (q : Int) ∧ vk = .int .i64 (k2 : Int) ∧ 1 ≤ k2 ∧ k2 ≤ N2 ∧ J ≤ q ∧ q + 1 ≤ J + k2 ∧ Hid (Kept2 l J k2 q M) ∧ Hid (Sorts w g off M wr)) (fun _ vk _ => N2 - (intOf vk).toNat)
          case atStart => exact ⟨J, 1, l, rfl, rfl, Nat.le_refl _, hN2p, Nat.le_refl _, Nat.le_refl _, HK2, HS9⟩
          case round =>
            obtain ⟨q, k2, M, rfl, rfl, hk1, hk2, hq1, hq2, HKM, HS⟩ := hrel
            have HLM : Hid (M.length = n) := Lib.hid (by rw [HKM.out.len]; exact HN.out.symm)
            by_cases hl2 : k2 < N2
            · have e4 : decide ((k2 : Int) < (N2 : Int)) = true := decide_eq_true (by omega)
              have e5 : decide (k2 < N2) = true := decide_eq_true hl2
              obtain ⟨K2, hK2⟩ : ∃ K, K = k2 - 1 := ⟨_, rfl⟩
              have hK2n : K2 < N2 := by omega
              have s2 : IntKind.i64.wrap ((k2 : Int) - 1) = (K2 : Int) := by rw [IntWalk.i64_in _ (by omega)]; omega
              have hjk : J + k2 = (J + K2) + 1 := by omega
              have HJ2 := Lib.hid hjk
              have hJl2 : J + k2 < l.length := by rw [← HN.out]; omega
              have hKl2 : J + K2 < l.length := by omega
              have HJL := Lib.hid hJl2
              have HKL := Lib.hid hKl2
              obtain ⟨x', hx⟩ : ∃ x', x' = l[J + k2] := ⟨_, rfl⟩
              obtain ⟨y', hy⟩ : ∃ y', y' = l[J + K2] := ⟨_, rfl⟩
              have HX := Lib.hid hx
              have HY := Lib.hid hy
              obtain ⟨z', hz⟩ : ∃ z', z' = M[q]'(by rw [HLM.out]; omega) := ⟨_, rfl⟩
              have fJ := HS.out.sits.five (i := J + k2) (x := x') (by rw [HLM.out]; omega) (by rw [hx]; exact HKM.out.rest _ (by omega) _ _)
              have fK := HS.out.sits.five (i := J + K2) (x := y') (by rw [HLM.out]; omega) (by rw [hy]; exact HKM.out.rest _ (by omega) _ _)
              have fQ := HS.out.sits.five (i := q) (x := z') (by rw [HLM.out]; omega) hz.symm
              have hqM : q < M.length := by rw [HLM.out]; omega
              have hqn : q < n := by omega
              have HQM := Lib.hid hqM
              rw [show off + (J + k2) * 5 = o2 + k2 * 5 by rw [← HO2.out]; omega] at fJ
              rw [show off + (J + K2) * 5 = o2 + K2 * 5 by rw [← HO2.out]; omega] at fK
              clear hx hy hz hK2 hjk hJl2 hKl2 hqM
              obtain ⟨⟨an, ai, ad, ap, al⟩, aA, aC⟩ := x'
              obtain ⟨⟨bn, bi, bd, bp, bl⟩, bA, bC⟩ := y'
              obtain ⟨⟨cn, ci, cd, cp, cl⟩, cA, cC⟩ := z'
              obtain ⟨am, ham⟩ : ∃ m, m = al.length := ⟨_, rfl⟩
              obtain ⟨bm, hbm⟩ : ∃ m, m = bl.length := ⟨_, rfl⟩
              obtain ⟨cm, hcm⟩ : ∃ m, m = cl.length := ⟨_, rfl⟩
              dsimp only at fJ fK fQ
              rw [← ham] at fJ
              rw [← hbm] at fK
              rw [← hcm] at fQ
              have HAM := Lib.hid ham
              have FJ := Lib.hid fJ
              have FK := Lib.hid fK
              have FQ := Lib.hid fQ
              clear ham hbm hcm fJ fK fQ
              have hbd : Below wr.heap.size wr wr.drew := (Below.refl _ _).drew
              have HF : Hid (∀ z, Below wr.heap.size wr z → Five z g (o2 + k2 * 5) an ai ad ap aA am aC ∧ Five z g (o2 + K2 * 5) bn bi bd bp bA bm bC ∧ Below wr.heap.size wr z) := Lib.hid fun z hz => ⟨FJ.out.old hz, FK.out.old hz, hz⟩
              have hx0 := HF.out _ hbd
              unfold Five at hx0
              cases q1 : (an == bn) with
              | true =>
                have HK9 : Hid (Kept2 l J (k2 + 1) q M) := Lib.hid (HKM.out.skip HJ2.out HJL.out HX.out.symm HY.out.symm (beq_iff_eq.1 q1))
                go_wp2
                go_region_held3 (fun z => (z.cell? ⟨g, o2 + k2 * 5, none⟩ = some (.int .i64 an) ∧ z.cell? ⟨g, o2 + k2 * 5 + 1, none⟩ = some (.int .i64 ai) ∧ z.cell? ⟨g, o2 + k2 * 5 + 2, none⟩ = some (.int .i64 ad) ∧ z.cell? ⟨g, o2 + k2 * 5 + 3, none⟩ = some (.int .i64 ap) ∧ z.cell? ⟨g, o2 + k2 * 5 + 4, none⟩ = some (.slice aA am aC)) ∧ (z.cell? ⟨g, o2 + K2 * 5, none⟩ = some (.int .i64 bn) ∧ z.cell? ⟨g, o2 + K2 * 5 + 1, none⟩ = some (.int .i64 bi) ∧ z.cell? ⟨g, o2 + K2 * 5 + 2, none⟩ = some (.int .i64 bd) ∧ z.cell? ⟨g, o2 + K2 * 5 + 3, none⟩ = some (.int .i64 bp) ∧ z.cell? ⟨g, o2 + K2 * 5 + 4, none⟩ = some (.slice bA bm bC)) ∧ Below wr.heap.size wr z)
                  (first
                    | exact hx2
                    | exact hx0)
                  (first
                    | (go_at_call 22; refine (same_any an ai ad ap aA am aC bn bi bd bp bA bm bC wr.drew).mono ?_; rintro e w9 ⟨rfl, hb9⟩; have hx2 := HF.out w9 (hbd.trans hb9); unfold Five at hx2))
                have HS9 := Lib.hid (HS.out.old hx2.2.2)
                clear hx2 hx0 hb9 hbd HF
                go_wp2
                go_roundw
                case rel => exact ⟨q, k2 + 1, M, rfl, by go_num, by omega, by omega, by omega, by omega, HK9, HS9⟩
                case measure => simp [intOf]; omega
              | false =>
                have HK9 : Hid (Kept2 l J (k2 + 1) (q + 1) (M.set q ⟨⟨an, ai, ad, ap, al⟩, aA, aC⟩)) := Lib.hid (HKM.out.take HJ2.out HJL.out HX.out.symm HY.out.symm (beq_eq_false_iff_ne.1 q1))
                go_wp2
                go_region_held3 (fun z => (z.cell? ⟨g, o2 + k2 * 5, none⟩ = some (.int .i64 an) ∧ z.cell? ⟨g, o2 + k2 * 5 + 1, none⟩ = some (.int .i64 ai) ∧ z.cell? ⟨g, o2 + k2 * 5 + 2, none⟩ = some (.int .i64 ad) ∧ z.cell? ⟨g, o2 + k2 * 5 + 3, none⟩ = some (.int .i64 ap) ∧ z.cell? ⟨g, o2 + k2 * 5 + 4, none⟩ = some (.slice aA am aC)) ∧ (z.cell? ⟨g, o2 + K2 * 5, none⟩ = some (.int .i64 bn) ∧ z.cell? ⟨g, o2 + K2 * 5 + 1, none⟩ = some (.int .i64 bi) ∧ z.cell? ⟨g, o2 + K2 * 5 + 2, none⟩ = some (.int .i64 bd) ∧ z.cell? ⟨g, o2 + K2 * 5 + 3, none⟩ = some (.int .i64 bp) ∧ z.cell? ⟨g, o2 + K2 * 5 + 4, none⟩ = some (.slice bA bm bC)) ∧ Below wr.heap.size wr z)
                  (first
                    | exact hx2
                    | exact hx0)
                  (first
                    | (go_at_call 22; refine (same_any an ai ad ap aA am aC bn bi bd bp bA bm bC wr.drew).mono ?_; rintro e w9 ⟨rfl, hb9⟩; have hx2 := HF.out w9 (hbd.trans hb9); unfold Five at hx2))
                have HS9 := Lib.hid (HS.out.old hx2.2.2)
                have FJ9 := Lib.hid (FJ.out.old hx2.2.2)
                have FQ9 := Lib.hid (FQ.out.old hx2.2.2)
                clear hx2 hx0 hb9 hbd HF
                have fr : ∀ k, w9.frozen? ⟨g, k, none⟩ = false := HS9.out.sits.free
                have f0 := fr (off + q * 5)
                have f1 := fr (off + q * 5 + 1)
                have f2 := fr (off + q * 5 + 2)
                have f3 := fr (off + q * 5 + 3)
                have f4 := fr (off + q * 5 + 4)
                have hset := HS9.out.set HQM.out ⟨⟨an, ai, ad, ap, al⟩, aA, aC⟩
                dsimp only at hset
                rw [← HAM.out] at hset
                have HSET := Lib.hid hset
                have hx := FJ9.out
                have hy := FQ9.out
                unfold Five at hx hy
                obtain ⟨x0, x1, x2, x3, x4⟩ := hx
                obtain ⟨y0, y1, y2, y3, y4⟩ := hy
                clear hset fr
                go_wp2
                generalize (((((w9.setCell ⟨g, off + q * 5, none⟩ (.int .i64 an)).setCell ⟨g, off + q * 5 + 1, none⟩ (.int .i64 ai)).setCell ⟨g, off + q * 5 + 2, none⟩ (.int .i64 ad)).setCell ⟨g, off + q * 5 + 3, none⟩ (.int .i64 ap)).setCell ⟨g, off + q * 5 + 4, none⟩ (.slice aA am aC)) = ws at HSET ⊢
                clear x0 x1 x2 x3 x4 y0 y1 y2 y3 y4 f0 f1 f2 f3 f4
                go_roundw
                case rel => exact ⟨q + 1, k2 + 1, _, by go_num, by go_num, by omega, by omega, by omega, by omega, HK9, HSET⟩
                case measure => simp [intOf]; omega
            · have e4 : decide ((k2 : Int) < (N2 : Int)) = false := decide_eq_false (by omega)
              have e5 : decide (k2 < N2) = false := decide_eq_false hl2
              have HE : Hid (M.take q = So.compact Sx.num l) := Lib.hid (by
                rw [HKM.out.kept, List.take_of_length_le (by rw [← HN.out]; omega)])
              have HEL : Hid ((So.compact Sx.num l).length = q) := Lib.hid (by rw [← HE.out, List.length_take, HLM.out]; omega)
              have hfr : ∀ k, wr.frozen? ⟨g, k, none⟩ = false := HS.out.sits.free
              obtain ⟨vs, hcl⟩ := clear_run wr g (off + q * 5) (n - q) (C - q) (by omega) (fun j hj => HS.out.sits.some_ (by rw [HLM.out]; omega)) hfr
              have HS9 : Hid (Sorts w g off (So.compact Sx.num l) (wr.setCells g (off + q * 5) vs)) := Lib.hid (by
                rw [← HE.out]
                exact ⟨HS.out.sits.cells vs, HS.out.kp.trans (kp_cells _ _ _ _)⟩)
              have hqn : q ≤ n := by omega
              have hqC : q ≤ C := by omega
              clear hfr
              go_wp2
              go_ret
              rw [HEL.out]
              exact ⟨rfl, HS9.out⟩
      · have e2 : decide ((J : Int) < (n : Int)) = false := decide_eq_false (by omega)
        have e3 : decide (J < n) = false := decide_eq_false hlt
        have HE : Hid (So.compact Sx.num l = l) := Lib.hid (by
          have h1 := HC0.out
          rwa [List.take_of_length_le (by rw [← HN.out]; omega)] at h1)
        go_wp2
        go_ret
        rw [HE.out, ← HN.out]
        exact ⟨rfl, HS.out⟩
end Go.Proofs.Ytmfikihcoafekaa
namespace Go.Proofs.Ytmfikihcoafekaa
open Go.RowKit

/-- a tape in a block -/
def tapeObj (lab cap : Int) (A : Option Addr) (n C : Nat) (lost : Bool) : Obj := .cells #[.int .i64 lab, .int .i64 cap, .slice A n C, .bool lost] 32
theorem tape4 {w : World} {g : Nat} {lab cap : Int} {A : Option Addr} {n C : Nat} {lost : Bool} (h : w.heap[g]? = some (tapeObj lab cap A n C lost)) :
    w.cell? ⟨g, 0, none⟩ = some (.int .i64 lab) ∧ w.cell? ⟨g, 1, none⟩ = some (.int .i64 cap) ∧ w.cell? ⟨g, 2, none⟩ = some (.slice A n C) ∧ w.cell? ⟨g, 3, none⟩ = some (.bool lost) := ⟨heap_cell h, heap_cell h, heap_cell h, heap_cell h⟩
theorem below_tape {lab cap : Int} {A : Option Addr} {n C : Nat} {lost : Bool} {B : Nat} {x y : World} (hb : Below x.heap.size x y) (h : x.heap[B]? = some (tapeObj lab cap A n C lost)) : y.heap[B]? = some (tapeObj lab cap A n C lost) :=
  (hb.block B (heap_lt h)).trans h
theorem tape_new (w : World) (lab cap : Int) (A : Option Addr) (n C : Nat) (lost : Bool) : Below w.heap.size w (w.alloc (tapeObj lab cap A n C lost)) ∧ (w.alloc (tapeObj lab cap A n C lost)).heap[w.heap.size]? = some (tapeObj lab cap A n C lost) :=
  ⟨(Below.refl _ _).alloc (Nat.le_refl _) _, Go.Deep.blk_alloc_new _ _⟩
end Go.Proofs.Ytmfikihcoafekaa
namespace Go.Proofs.Ytmfikihcoafekaa
open Go.RowKit
open Pt (Tx)

/-- an append that runs to v' and w' is a step -/
theorem step_append_eq {P : Program} {ops : Array Oper} {o : Oper} {a : Act} {w : World} {K : Act → World → Prop} {Q : Exit → Act → World → Prop} {E : Prop} (hg : o.guard = none) (s x : Operand) (t tn : TypeId)
    (ho : o.op = .call { callee := .builtin .append, args := #[s, x], argTypes := #[t, tn] }) (vs vx v' : Value) (w' : World) (hr : ∀ ty, (Builtin.append_ #[t, tn] ty #[vs, vx]).run P w = .ok v' w') (hs : a.eval s = vs) (hx : a.eval x = vx)
    (hK : K (a.put o.dst v') w') : if Region.wanted o (yielded ops a.tmps) = true then Oper.wp P o a w K Q else E := by
  have hw : Region.wanted o (yielded ops a.tmps) = true := by simp [Region.wanted, hg]
  rw [if_pos hw]
  exact Lib.wp_append_run w s x t tn ho vs vx hs hx v' w' (hr _) hK
/-- what an append onto an own row of bytes made: the row as a slice -/
def Grew (w : World) (base : Nat) (v : Value) (l : Tx) (n : Nat) (A : Option Addr) (C : Nat) (w' : World) : Prop := OwnL w' base (.slice A n C) l ∧ w.grownBy w' v.ownBlock
theorem ap_run (w : World) (base : Nat) (v : Value) (l : Tx) (hown : OwnL w base v l) (A : Option Addr) (m c : Nat) (l' : Tx) (G : Nat → Prop) (hm : l'.length = m) (hA : A = none → m = 0 ∧ c = 0) (hr : RdL w A l' G) (hb : l.length + m ≤ 140737488355328) (hbase : base ≤ w.heap.size) (n : Nat) (hn : n = l.length + m) :
    ∃ A' C' w', (∀ ty, (Builtin.append_ #[24, 24] ty #[v, .slice A m c]).run Try.prog w = .ok (.slice A' n C') w') ∧ Grew w base v (l ++ l') n A' C' w' := by
  obtain ⟨i0, hi, hz0, hz1, hz2⟩ := info_parts infoB
  have key : ∃ v' w', (∀ ty, (Builtin.append_ #[24, 24] ty #[v, .slice A m c]).run Try.prog w = .ok v' w') ∧ OwnL w' base v' (l ++ l') ∧ w.grownBy w' v.ownBlock := by
    cases A with
    | none =>
      obtain ⟨rfl, rfl⟩ := hA rfl
      have h0 : l' = [] := List.length_eq_zero_iff.1 hm
      subst h0
      refine ⟨v, w, fun ty => run_append_owned_none (P := Try.prog) (w := w) base 24 ty 5 i0 1 Try.underlying24 hi v l.length (cellsL l) hown, ?_, grown_refl w _⟩
      rw [List.append_nil]; exact hown
    | some ad =>
      have hnews : ∀ j u, (cellsL l')[j]? = some u → w.cell? (ad.add j) = some u := fun j u hu => by
        obtain ⟨hj, rfl⟩ := cellsL_some hu
        obtain ⟨b, off, e, _, hc⟩ := hr (by omega)
        cases e
        rw [addr_add]; exact hc j hj
      obtain ⟨v', w', h1, h2, h3, _⟩ := run_append_own (P := Try.prog) w base 24 3 5 i0 (.int .u8 0) 1 1 Try.underlying24 hi hz0 hz1 hz2 rfl (by decide) v l.length (cellsL l) hown ad m c (cellsL l') (by rw [cellsL_len, hm, Nat.mul_one]) hnews cellsL_one (by unfold maxLen; omega) (by omega) hbase
      refine ⟨v', w', fun ty => h1, ?_, h3⟩
      unfold OwnL
      rw [← cellsL_append, List.length_append, hm]; exact h2
  obtain ⟨v', w', h1, h2, h3⟩ := key
  obtain ⟨A', C', rfl, _, _, _, _⟩ := h2.rd
  have e : (l ++ l').length = n := by rw [List.length_append, hm, hn]
  refine ⟨A', C', w', fun ty => by rw [← e]; exact h1 ty, ?_, h3⟩
  rw [← e]; exact h2
theorem cellsL_zeros (l : Tx) (k : Nat) : cellsL (l ++ List.replicate k 0) = cellsL l ++ List.replicate k (.int .u8 0) := by simp [cellsL]
theorem run_append_none_zeros {P : Program} (w : World) (t tn ty e : TypeId) (i : TypeInfo) (kq kn : IntKind) (ht : P.underlying t = some (.slice e)) (htn : P.underlying tn = some (.int kn)) (hi : P.info? e = some i) (A : Addr) (n c : Nat) (hc : n ≤ c) :
    (Builtin.append_ #[t, tn] ty #[.slice (some A) n c, .int kq 0]).run P w = .ok (.slice (some A) n c) w := by
  have hw : IntKind.i64.wrap 0 = 0 := by decide
  simp [Builtin.append_, run_underlying ht, run_underlying htn, sizeOf, typeInfo, hi, asInt, asIntOf, hw, hc, storeCells]
theorem apz_run (w : World) (base : Nat) (v : Value) (l : Tx) (hown : OwnL w base v l) (hl : 0 < l.length) (k : Nat) (hb : l.length + k ≤ 1000000) (hbase : base ≤ w.heap.size) (x : Int) (hx : x = (k : Int)) (n : Nat) (hn : n = l.length + k) :
    ∃ A' C' w', (∀ ty, (Builtin.append_ #[24, 3] ty #[v, .int .i64 x]).run Try.prog w = .ok (.slice A' n C') w') ∧ Grew w base v (l ++ List.replicate k 0) n A' C' w' := by
  subst hx
  obtain ⟨i0, hi, hz0, hz1, hz2⟩ := info_parts infoB
  by_cases h0 : k = 0
  · subst h0
    obtain ⟨A, C, rfl, hlc, _, hA, _⟩ := hown.rd
    cases A with
    | none => have := (hA rfl).1; omega
    | some a =>
      refine ⟨some a, C, w, fun ty => ?_, ?_, grown_refl w _⟩
      · rw [hn]; exact run_append_none_zeros (P := Try.prog) w 24 3 ty 5 i0 .i64 .i64 Try.underlying24 Try.underlying3 hi a l.length C hlc
      · rw [hn, List.replicate_zero, List.append_nil]; exact hown
  · have key : ∀ ty, ∃ v' w', (Builtin.append_ #[24, 3] ty #[v, .int .i64 (k : Int)]).run Try.prog w = .ok v' w' ∧ w'.ownsRow base 5 1 v' (l.length + k) (cellsL l ++ List.replicate k (.int .u8 0)) ∧ w.grownBy w' v.ownBlock := fun ty =>
      run_append_zeros_own (P := Try.prog) w base 24 3 ty 5 i0 (.int .u8 0) .i64 .i64 Try.underlying24 Try.underlying3 hi hz0 hz1 rfl rfl v l.length (cellsL l) hown hl k (by omega) (by unfold maxLen; omega) (by rw [hz2]; omega) hbase
    obtain ⟨v', w', h1, h2, h3⟩ := key 3
    have h4 : OwnL w' base v' (l ++ List.replicate k 0) := by
      unfold OwnL
      rw [cellsL_zeros, List.length_append, List.length_replicate]; exact h2
    obtain ⟨A', C', rfl, _, _, _, _⟩ := h4.rd
    have e : (l ++ List.replicate k (0 : UInt8)).length = n := by rw [List.length_append, List.length_replicate, hn]
    refine ⟨A', C', w', fun ty => by rw [← e]; exact h1, ?_, h3⟩
    rw [← e]; exact h4
end Go.Proofs.Ytmfikihcoafekaa
namespace Go.Proofs.Ytmfikihcoafekaa
open Go.RowKit Mx

theorem timesX_any (x : Cr.W) (w : World) :
    Calls Try.prog 87 #[.int .u32 (bi x)] w fun e w' => e = .returned (.int .u32 (bi (Cr.step x))) ∧ w = w' := by
  have h0 := bi_lo x
  have h1 := bi_hi x
  by_cases hb : x.getLsbD 0 = true
  · have H := Lib.hid (step_odd hb)
    have ht : (bits BinOp.and IntKind.u32 (bi x) 1 == 0) = false := by rw [bit_of, if_pos hb]; rfl
    clear hb
    go_enter Try.func87, Try.ntmps87
    go_wp2
    go_ret
    exact ⟨ret_u32 H.out, rfl⟩
  · have H := Lib.hid (step_even (by simpa using hb))
    have ht : (bits BinOp.and IntKind.u32 (bi x) 1 == 0) = true := by rw [bit_of, if_neg hb]; rfl
    clear hb
    go_enter Try.func87, Try.ntmps87
    go_wp2
    go_ret
    exact ⟨ret_u32 H.out, rfl⟩
theorem timesX8_any (x : Cr.W) (w : World) :
    Calls Try.prog 86 #[.int .u32 (bi x)] w fun e w' => e = .returned (.int .u32 (bi (Cr.steps 8 x))) ∧ w = w' := by
  go_enter Try.func86, Try.ntmps86
  go_wp2
  go_loop [0, 3] (fun vx vi => ∃ k : Nat, k ≤ 8 ∧ vi = .int .i64 (k : Int) ∧ vx = .int .u32 (bi (Cr.steps k x))) (fun _ vi => 8 - (intOf vi).toNat)
  case atStart => exact ⟨0, by omega, rfl, rfl⟩
  case round =>
    obtain ⟨k, hk, rfl, rfl⟩ := hrel
    by_cases hlt : k < 8
    · go_wp2_with fail
      refine (timesX_any _ _).mono ?_
      rintro e w' ⟨rfl, rfl⟩
      go_wp2
      go_round
      case rel => exact ⟨k + 1, by omega, by go_num, val_u32 (by rw [Cr.steps_out])⟩
      case measure => simp [intOf]; omega
    · have HK : Hid (Cr.steps k x = Cr.steps 8 x) := by rw [show k = 8 by omega]; exact Lib.hid rfl
      go_wp2
      go_ret
      exact ⟨ret_u32 (by rw [HK.out]), rfl⟩
set_option maxHeartbeats 1000000 in
theorem more_any (s : Cr.W) (A : Option Addr) (n C : Nat) (r : Nat → Fe) (G : Nat → Prop) (w : World) (hn : n ≤ maxLen) (hr : Rd w A n r G) :
    Calls Try.prog 81 #[.int .u32 (bi s), .slice A n C] w fun e w' => e = .returned (.int .u32 (bi (crc s r n))) ∧ w = w' := by
  unfold maxLen at hn
  have hs := not_max s
  have HR := Lib.hid hr
  clear hr
  go_enter Try.func81, Try.ntmps81
  go_wp2
  clear hs
  go_loop [5, 12] (fun vx vi => ∃ k : Nat, k ≤ n ∧ vi = .int .i64 (k : Int) ∧ vx = .int .u32 (bi (Cr.ups (~~~s) (fun i => (r i).nat) k))) (fun _ vi => n - (intOf vi).toNat)
  case atStart => exact ⟨0, by omega, rfl, rfl⟩
  case round =>
    obtain ⟨k, hk, rfl, rfl⟩ := hrel
    by_cases hlt : k < n
    · obtain ⟨b, off, rfl, _, hc⟩ := HR.out.at hlt
      have r0 := fi_lo (r k)
      have r1 := fi_hi (r k)
      have hx := byte_bi (Cr.ups (~~~s) (fun i => (r i).nat) k) (r k)
      go_wp2_with fail
      refine (timesX8_any _ _).mono ?_
      rintro e w' ⟨rfl, rfl⟩
      clear hx
      go_wp2
      go_round
      case rel => exact ⟨k + 1, by omega, by go_num, rfl⟩
      case measure => simp [intOf]; omega
    · have HK : Hid (~~~(Cr.ups (~~~s) (fun i => (r i).nat) k) = crc s r n) := by rw [show k = n by omega]; exact Lib.hid rfl
      have hs := not_max (Cr.ups (~~~s) (fun i => (r i).nat) k)
      go_wp2
      go_ret
      exact ⟨ret_u32 (by rw [HK.out]), rfl⟩
theorem sum_any (A : Option Addr) (n C : Nat) (r : Nat → Fe) (G : Nat → Prop) (w : World) (hn : n ≤ maxLen) (hr : Rd w A n r G) :
    Calls Try.prog 71 #[.slice A n C] w fun e w' => e = .returned (.int .u32 (bi (crc 0#32 r n))) ∧ w = w' := by
  go_enter Try.func71, Try.ntmps71
  go_wp2_with fail
  refine (more_any 0#32 A n C r G _ hn hr).mono ?_
  rintro e w' ⟨rfl, rfl⟩
  go_wp2
  go_ret
  exact ⟨rfl, rfl⟩
end Go.Proofs.Ytmfikihcoafekaa
namespace Go.Proofs.Ytmfikihcoafekaa
open Go.RowKit Mx

set_option maxRecDepth 100000 in
set_option maxHeartbeats 2000000 in
theorem refMore_any (s : Cr.W) (A : Option Addr) (n C : Nat) (r : Nat → Fe) (G : Nat → Prop) (w : World) (hn : n ≤ maxLen) (hr : Rd w A n r G) :
    Calls Try.prog 23 #[.int .u32 (bi s), .slice A n C] w fun e w' => e = .returned (.int .u32 (bi (crc s r n))) ∧ w = w' := by
  unfold maxLen at hn
  have hs := not_bi s
  have HR := Lib.hid hr
  clear hr
  go_enter Try.func23, Try.ntmps23
  go_wp2
  clear hs
  go_loop [5, 6] (fun vx vi => ∃ k : Nat, k ≤ n ∧ vi = .int .i64 (k : Int) ∧ vx = .int .u32 (bi (Cr.ups (~~~s) (fun i => (r i).nat) k))) (fun _ vi => n - (intOf vi).toNat)
  case atStart => exact ⟨0, by omega, rfl, rfl⟩
  case round =>
    obtain ⟨k, hk, rfl, rfl⟩ := hrel
    by_cases hlt : k < n
    · obtain ⟨b, off, rfl, _, hc⟩ := HR.out.at hlt
      have r0 := fi_lo (r k)
      have r1 := fi_hi (r k)
      have hx := byte_bi (Cr.ups (~~~s) (fun i => (r i).nat) k) (r k)
      have HU : Hid (Cr.ups (~~~s) (fun i => (r i).nat) (k + 1) = Cr.steps 8 (Cr.ups (~~~s) (fun i => (r i).nat) k ^^^ BitVec.ofNat 32 (r k).nat)) := Lib.hid rfl
      go_wp2
      clear hx hc
      generalize Cr.ups (~~~s) (fun i => (r i).nat) k ^^^ BitVec.ofNat 32 (r k).nat = x at HU ⊢
      go_loop [5, 7] (fun vx vi => ∃ (j : Nat) (y : Cr.W), j ≤ 8 ∧ vi = .int .i64 (j : Int) ∧ vx = .int .u32 (bi y) ∧ Hid (y = Cr.steps j x)) (fun _ vi => 8 - (intOf vi).toNat)
      case atStart => exact ⟨0, x, by omega, rfl, rfl, Lib.hid rfl⟩
      case round =>
        obtain ⟨j, y, hj, rfl, rfl, HY⟩ := hrel
        by_cases hl8 : j < 8
        · have HS : Hid (Cr.step y = Cr.steps (j + 1) x) := by rw [HY.out]; exact Lib.hid (Cr.steps_out j x).symm
          clear HY HU
          by_cases hb : y.getLsbD 0 = true
          · have H := Lib.hid (step_odd hb)
            have ht : (bits BinOp.and IntKind.u32 (bi y) 1 == 1) = true := by rw [bit_of, if_pos hb]; rfl
            clear hb
            go_wp2
            go_round
            case rel => exact ⟨j + 1, Cr.step y, by omega, by go_num, val_u32 H.out, HS⟩
            case measure => simp [intOf]; omega
          · have H := Lib.hid (step_even (x := y) (by simpa using hb))
            have ht : (bits BinOp.and IntKind.u32 (bi y) 1 == 1) = false := by rw [bit_of, if_neg hb]; rfl
            clear hb
            go_wp2
            go_round
            case rel => exact ⟨j + 1, Cr.step y, by omega, by go_num, val_u32 H.out, HS⟩
            case measure => simp [intOf]; omega
        · have HK : Hid (y = Cr.ups (~~~s) (fun i => (r i).nat) (k + 1)) := by rw [HY.out, show j = 8 by omega, HU.out]; exact Lib.hid rfl
          clear HY HU
          go_wp2
          go_round
          case rel => exact ⟨k + 1, by omega, by go_num, val_u32 (by rw [HK.out])⟩
          case measure => simp [intOf]; omega
    · have HK : Hid (~~~(Cr.ups (~~~s) (fun i => (r i).nat) k) = crc s r n) := by rw [show k = n by omega]; exact Lib.hid rfl
      have hs := not_bi (Cr.ups (~~~s) (fun i => (r i).nat) k)
      go_wp2
      go_ret
      exact ⟨ret_u32 (by rw [HK.out]), rfl⟩
theorem refCrc_any (A : Option Addr) (n C : Nat) (r : Nat → Fe) (G : Nat → Prop) (w : World) (hn : n ≤ maxLen) (hr : Rd w A n r G) :
    Calls Try.prog 11 #[.slice A n C] w fun e w' => e = .returned (.int .u32 (bi (crc 0#32 r n))) ∧ w = w' := by
  go_enter Try.func11, Try.ntmps11
  go_wp2_with fail
  refine (refMore_any 0#32 A n C r G _ hn hr).mono ?_
  rintro e w' ⟨rfl, rfl⟩
  go_wp2
  go_ret
  exact ⟨rfl, rfl⟩
end Go.Proofs.Ytmfikihcoafekaa
