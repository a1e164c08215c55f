/- What slices.CompactFunc makes of a row of files: the first of each run of one path and version. What From of package catalog answers: the files of the tapes. -/
import Derived.Test.YtbijjgicjkmopaaDoorMat
import Derived.Lib.SliceRun
import Derived.Test.YtbijjgicjkmopaaDoorMar
import Derived.Test.YtbijjgicjkmopaaDoorCtWhole
namespace Go.Proofs.YtbijjgicjkmopaaDoor
open Go.RowKit
open Pt (Tx)

/-- all of these cells are set -/
theorem kp_cells (g : Nat) : ∀ (vs : List Value) (o : Nat) (w : World), Kp (· = g) w (w.setCells g o vs)
  | [], _, w => Kp.refl _ w
  | v :: vs, o, w => (Kp.store w g o v).trans (kp_cells g vs (o + 1) (w.setCell ⟨g, o, none⟩ v))
theorem heap_cells (g : Nat) (t : TypeId) : ∀ (vs : List Value) (o : Nat) (w : World) (c : Array Value), w.heap[g]? = some (.cells c t (0, 0)) →
    ∃ c', (w.setCells g o vs).heap[g]? = some (.cells c' t (0, 0)) ∧ c'.size = c.size ∧ ∀ i, i < o → c'[i]? = c[i]?
  | [], _, w, c, h => ⟨c, h, rfl, fun _ _ => rfl⟩
  | v :: vs, o, w, c, h => by
    obtain ⟨c', h1, h2, h3⟩ := heap_cells g t vs (o + 1) (w.setCell ⟨g, o, none⟩ v) _ (heap_set h v)
    refine ⟨c', h1, by simpa using h2, fun i hi => ?_⟩
    rw [h3 i (by omega), Array.getElem?_setIfInBounds, if_neg (by omega)]
theorem SitsF.cells {w : World} {g off : Nat} {l : List Fx} (h : SitsF w g off l) {q : Nat} (vs : List Value) : SitsF (w.setCells g (off + q * 7) vs) g off (l.take q) := by
  obtain ⟨cur, hb, hs, hc⟩ := h.take q
  obtain ⟨c', h1, h2, h3⟩ := heap_cells g _ vs (off + q * 7) w cur hb
  refine ⟨c', h1, by rw [h2]; exact hs, fun i hi j u hu => ?_⟩
  have hj : j < 7 := by
    have := (List.getElem?_eq_some_iff.1 hu).1
    simpa [Fx.enc] using this
  have hiq : i < q := by rw [List.length_take] at hi; omega
  rw [h3 _ (by omega)]
  exact hc i hi j u hu
/-- what lies behind a place is set to nothing -/
theorem clear_run (w : World) (g o n C : Nat) (hn : 0 < n) (hc : ∀ j, j < n * 7 → (w.cell? ⟨g, o + j, none⟩).isSome = true) (hf : ∀ j, w.frozen? ⟨g, j, none⟩ = false) :
    ∃ vs : List Value, ∀ ty, (Builtin.clear_ #[38] ty #[.slice (some ⟨g, o, none⟩) n C]).run Tryd.prog w = .ok (.tuple #[]) (w.setCells g o vs) := by
  obtain ⟨z, hz⟩ : ∃ z : Value, z = .agg #[.string ⟨#[]⟩, .int .i64 0, .int .i64 0, .int .i64 0, .int .i64 0, .bool false, .slice none 0 0] := ⟨_, rfl⟩
  have hv : ∀ w, (zeroValue 46).run Tryd.prog w = .ok z w := fun w => by rw [hz]; kernel_rfl
  have hzc : z.cells = #[.string ⟨#[]⟩, .int .i64 0, .int .i64 0, .int .i64 0, .int .i64 0, .bool false, .slice none 0 0] := by rw [hz]; rfl
  have hlen : (Builtin.zeroCells z.cells n).toList.length = n * 7 := by rw [hzc]; simp [Builtin.zeroCells]
  have hone : ∀ v ∈ (Builtin.zeroCells z.cells n).toList, v.oneCell' = true := by
    intro v hv'
    rw [hzc] at hv'
    simp only [Builtin.zeroCells, Array.toList_map, List.mem_map] at hv'
    obtain ⟨i, _, rfl⟩ := hv'
    have hi : i % 7 < 7 := Nat.mod_lt _ (by omega)
    show (#[Value.string ⟨#[]⟩, .int .i64 0, .int .i64 0, .int .i64 0, .int .i64 0, .bool false, .slice none 0 0])[i % 7]!.oneCell' = true
    generalize i % 7 = k at hi
    match k, hi with
    | 0, _ => rfl
    | 1, _ => rfl
    | 2, _ => rfl
    | 3, _ => rfl
    | 4, _ => rfl
    | 5, _ => rfl
    | 6, _ => rfl
    | k + 7, hi => omega
  have hst := run_storeCells_cells (P := Tryd.prog) g o (Builtin.zeroCells z.cells n).toList 0 w (by rw [hlen]; simpa using hc) (by intro j _; exact hf _) hone
  simp only [Nat.add_zero] at hst
  refine ⟨(Builtin.zeroCells z.cells n).toList, fun ty => ?_⟩
  obtain ⟨m, rfl⟩ : ∃ m, n = m + 1 := ⟨n - 1, by omega⟩
  simp [Builtin.clear_, run_underlying Tryd.underlying38, hv, hst]
/-- how far the second walk has come: the first q are what is kept of the first k0 + k2 -/
structure Kept2 (l : List Fx) (k0 k2 q : Nat) (M : List Fx) : Prop where
  len : M.length = l.length
  lo : k0 ≤ q
  hi : q + 1 ≤ k0 + k2
  kept : M.take q = Sr.compact sameX (l.take (k0 + k2))
  rest : ∀ i (_ : k0 + k2 ≤ i + 1) (h : i < M.length) (h' : i < l.length), M[i] = l[i]
theorem Kept2.skip {l : List Fx} {k0 k2 q : Nat} {M : List Fx} (h : Kept2 l k0 k2 q M) {j : Nat} (hj : k0 + k2 = j + 1) (hl : k0 + k2 < l.length) {x y : Fx} (hx : l[k0 + k2]'hl = x) (hy : l[j]'(by omega) = y) (he : sameX x y = true) : Kept2 l k0 (k2 + 1) q M := by
  refine ⟨h.len, h.lo, by have := h.hi; omega, ?_, fun i hi a b => h.rest i (by omega) a b⟩
  have h1 := Sr.compact_take (e := sameX) (l := l) (k := j) (by omega)
  rw [h.kept, show k0 + (k2 + 1) = j + 1 + 1 by omega, h1, if_pos ?_, List.append_nil, hj]
  have e : l[j + 1]'(by omega) = x := by rw [← hx]; congr 1; exact hj.symm
  rw [hy, e]; exact he
theorem Kept2.take {l : List Fx} {k0 k2 q : Nat} {M : List Fx} (h : Kept2 l k0 k2 q M) {j : Nat} (hj : k0 + k2 = j + 1) (hl : k0 + k2 < l.length) {x y : Fx} (hx : l[k0 + k2]'hl = x) (hy : l[j]'(by omega) = y) (he : sameX x y = false) : Kept2 l k0 (k2 + 1) (q + 1) (M.set q x) := by
  have h0 := h.hi
  have h2 := h.len
  refine ⟨by rw [List.length_set]; exact h.len, by have := h.lo; omega, by omega, ?_, fun i hi a b => ?_⟩
  · have h1 := Sr.compact_take (e := sameX) (l := l) (k := j) (by omega)
    have e : l[j + 1]'(by omega) = x := by rw [← hx]; congr 1; exact hj.symm
    rw [show k0 + (k2 + 1) = j + 1 + 1 by omega, h1, e, hy, if_neg (by rw [he]; decide), ← hj, ← h.kept, List.take_succ_eq_append_getElem (by rw [List.length_set]; omega), List.getElem_set_self, List.take_set_of_le (Nat.le_refl _)]
  · rw [List.getElem_set_ne (by omega)]
    exact h.rest i (by omega) _ b
set_option maxRecDepth 100000 in
set_option maxHeartbeats 8000000 in
theorem compact_any (g off : Nat) (l : List Fx) (n C : Nat) (w : World) (hn : n = l.length) (hC : n ≤ C) (hm : n ≤ 1000) (h : SitsF w g off l) :
    Calls Tryd.prog 19 #[.slice (some ⟨g, off, none⟩) n C, .func (.func 20) #[] #[]] w fun e w' => e = .returned (.slice (some ⟨g, off, none⟩) (Sr.compact sameX l).length C) ∧ Sorts w g off (Sr.compact sameX l) w' := by
  have HN := Lib.hid hn
  have H0 : Hid (Sorts w g off l w) := Lib.hid ⟨h, Kp.refl _ _⟩

  clear h hn
  by_cases h2 : n < 2
  · have e0 : decide ((n : Int) < 2) = true := decide_eq_true (by omega)
    have e1 : decide (n < 2) = true := decide_eq_true h2
    have HE : Hid (Sr.compact sameX l = l) := Lib.hid (by
      have hl := HN.out
      match l, hl with
      | [], _ => rfl
      | [a], _ => rfl
      | a :: b :: l, hl => simp at hl; omega)
    clear h2
    go_enter Tryd.func19, Tryd.ntmps19
    go_wp2
    go_ret
    rw [HE.out, ← HN.out]
    exact ⟨rfl, H0.out⟩
  · have e0 : decide ((n : Int) < 2) = false := decide_eq_false (by omega)
    have e1 : decide (n < 2) = false := decide_eq_false h2
    have HK0 : Hid (Sr.compact sameX (l.take 1) = l.take 1) := Lib.hid (Sr.compact_one (by rw [← HN.out]; omega))
    have h2' : 2 ≤ n := by omega
    clear h2
    go_enter Tryd.func19, Tryd.ntmps19
    go_wp2
    go_loopw [5] (fun vk wr => ∃ k : Nat, vk = .int .i64 (k : Int) ∧ 1 ≤ k ∧ k ≤ n ∧ Hid (Sr.compact sameX (l.take k) = l.take k) ∧ Hid (Sorts w g off l wr)) (fun vk _ => n - (intOf vk).toNat)
    case atStart => exact ⟨1, rfl, Nat.le_refl _, by omega, HK0, H0⟩
    case round =>
      obtain ⟨J, rfl, hJ1, hJn, HC0, HS⟩ := hrel
      by_cases hlt : J < n
      · have e2 : decide ((J : Int) < (n : Int)) = true := decide_eq_true (by omega)
        have e3 : decide (J < n) = true := decide_eq_true hlt
        obtain ⟨K, hK⟩ : ∃ K, K = J - 1 := ⟨_, rfl⟩
        have hJK : J = K + 1 := by omega
        have hKJ : K < J := by omega
        have hKn : K < n := by omega
        have s1 : IntKind.i64.wrap ((J : Int) - 1) = (K : Int) := by rw [IntWalk.i64_in _ (by omega)]; omega
        have hJl : J < l.length := by rw [← HN.out]; exact hlt
        have hKl : K < l.length := by omega
        have HCT : Hid (Sr.compact sameX (l.take (J + 1)) = l.take J ++ (if sameX l[J] l[K] = true then [] else [l[J]])) := Lib.hid (by
          have h1 := Sr.compact_take (e := sameX) (l := l) (k := K) (by omega)
          have h3 := HC0.out
          rw [hJK] at h3
          rw [h3] at h1
          have : ∀ (q : Nat) (_ : q = K + 1) (h : q < l.length), Sr.compact sameX (l.take (q + 1)) = l.take q ++ (if sameX l[q] l[K] = true then [] else [l[q]]) := by
            rintro q rfl h; exact h1
          exact this J hJK hJl)
        obtain ⟨x, hx⟩ : ∃ x, x = l[J] := ⟨_, rfl⟩
        obtain ⟨y, hy⟩ : ∃ y, y = l[K] := ⟨_, rfl⟩
        have fJ := HS.out.sits.seven (i := J) (x := x) hJl hx.symm
        have fK := HS.out.sits.seven (i := K) (x := y) hKl hy.symm
        have HX := Lib.hid hx
        rw [← hx, ← hy] at HCT
        have HJK := Lib.hid hJK
        clear hx hy hK hJK
        obtain ⟨⟨xP, xv, xz, xs, xr, xb, xl⟩, xA, xC⟩ := x
        obtain ⟨⟨yP, yv, yz, ys, yr, yb, yl⟩, yA, yC⟩ := y
        obtain ⟨xm, hxm⟩ : ∃ m, m = xl.length := ⟨_, rfl⟩
        obtain ⟨ym, hym⟩ : ∃ m, m = yl.length := ⟨_, rfl⟩
        dsimp only at fJ fK
        rw [← hxm] at fJ
        rw [← hym] at fK
        have HXM := Lib.hid hxm
        have FJ := Lib.hid fJ
        have FK := Lib.hid fK
        clear hxm hym fJ fK
        have hbd : Below wr.heap.size wr wr.drew := (Below.refl _ _).drew
        have HF : Hid (∀ z, Below wr.heap.size wr z → Seven z g (off + J * 7) xP xv xz xs xr xb xA xm xC ∧ Seven z g (off + K * 7) yP yv yz ys yr yb yA ym yC ∧ Below wr.heap.size wr z) := Lib.hid fun z hz => ⟨FJ.out.old hz, FK.out.old hz, hz⟩
        have hx0 := HF.out _ hbd
        unfold Seven at hx0
        obtain ⟨eb, heb⟩ : ∃ eb, eb = (xP == yP && xv == yv) := ⟨_, rfl⟩
        have hsm := fun y => same_any xP xv xz xs xr xb xA xm xC yP yv yz ys yr yb yA ym yC y
        rw [← heb] at hsm
        have HSM := Lib.hid hsm
        have HQ : Hid (∀ e : Bool, eb = e → Sr.compact sameX (l.take (J + 1)) = l.take J ++ (if e = true then [] else [⟨⟨xP, xv, xz, xs, xr, xb, xl⟩, xA, xC⟩])) := Lib.hid fun e he => by
          rw [HCT.out, ← he, heb]; rfl
        clear hsm heb
        clear HCT
        cases q1 : eb with
        | false =>
          have HNEXT : Hid (Sr.compact sameX (l.take (J + 1)) = l.take (J + 1)) := Lib.hid (by
            rw [HQ.out false q1, List.take_succ_eq_append_getElem hJl, ← HX.out]; rfl)
          go_wp2
          go_region_held3 (fun z => (z.cell? ⟨g, off + J * 7, none⟩ = some (.string (tx xP)) ∧ z.cell? ⟨g, off + J * 7 + 1, none⟩ = some (.int .i64 xv) ∧ z.cell? ⟨g, off + J * 7 + 2, none⟩ = some (.int .i64 xz) ∧ z.cell? ⟨g, off + J * 7 + 3, none⟩ = some (.int .i64 xs) ∧ z.cell? ⟨g, off + J * 7 + 4, none⟩ = some (.int .i64 xr) ∧ z.cell? ⟨g, off + J * 7 + 5, none⟩ = some (.bool xb) ∧ z.cell? ⟨g, off + J * 7 + 6, none⟩ = some (.slice xA xm xC)) ∧ (z.cell? ⟨g, off + K * 7, none⟩ = some (.string (tx yP)) ∧ z.cell? ⟨g, off + K * 7 + 1, none⟩ = some (.int .i64 yv) ∧ z.cell? ⟨g, off + K * 7 + 2, none⟩ = some (.int .i64 yz) ∧ z.cell? ⟨g, off + K * 7 + 3, none⟩ = some (.int .i64 ys) ∧ z.cell? ⟨g, off + K * 7 + 4, none⟩ = some (.int .i64 yr) ∧ z.cell? ⟨g, off + K * 7 + 5, none⟩ = some (.bool yb) ∧ z.cell? ⟨g, off + K * 7 + 6, none⟩ = some (.slice yA ym yC)) ∧ Below wr.heap.size wr z)
            (first
              | exact hx2
              | exact hx0)
            (first
              | (go_at_call 20; refine (HSM.out wr.drew).mono ?_; rintro e w9 ⟨rfl, hb9⟩; have hx2 := HF.out w9 (hbd.trans hb9); unfold Seven at hx2))
          have HS9 := Lib.hid (HS.out.old hx2.2.2)
          clear hx2 hx0 hb9 hbd HF
          go_wp2
          go_roundw
          case rel => exact ⟨J + 1, by go_num, by omega, by omega, HNEXT, HS9⟩
          case measure => simp [intOf]; omega
        | true =>
          have HK2 : Hid (Kept2 l J 1 J l) := Lib.hid ⟨rfl, Nat.le_refl _, Nat.le_refl _, by rw [HQ.out true q1]; simp, fun _ _ _ _ => rfl⟩
          go_wp2
          go_region_held3 (fun z => (z.cell? ⟨g, off + J * 7, none⟩ = some (.string (tx xP)) ∧ z.cell? ⟨g, off + J * 7 + 1, none⟩ = some (.int .i64 xv) ∧ z.cell? ⟨g, off + J * 7 + 2, none⟩ = some (.int .i64 xz) ∧ z.cell? ⟨g, off + J * 7 + 3, none⟩ = some (.int .i64 xs) ∧ z.cell? ⟨g, off + J * 7 + 4, none⟩ = some (.int .i64 xr) ∧ z.cell? ⟨g, off + J * 7 + 5, none⟩ = some (.bool xb) ∧ z.cell? ⟨g, off + J * 7 + 6, none⟩ = some (.slice xA xm xC)) ∧ (z.cell? ⟨g, off + K * 7, none⟩ = some (.string (tx yP)) ∧ z.cell? ⟨g, off + K * 7 + 1, none⟩ = some (.int .i64 yv) ∧ z.cell? ⟨g, off + K * 7 + 2, none⟩ = some (.int .i64 yz) ∧ z.cell? ⟨g, off + K * 7 + 3, none⟩ = some (.int .i64 ys) ∧ z.cell? ⟨g, off + K * 7 + 4, none⟩ = some (.int .i64 yr) ∧ z.cell? ⟨g, off + K * 7 + 5, none⟩ = some (.bool yb) ∧ z.cell? ⟨g, off + K * 7 + 6, none⟩ = some (.slice yA ym yC)) ∧ Below wr.heap.size wr z)
            (first
              | exact hx2
              | exact hx0)
            (first
              | (go_at_call 20; refine (HSM.out wr.drew).mono ?_; rintro e w9 ⟨rfl, hb9⟩; have hx2 := HF.out w9 (hbd.trans hb9); unfold Seven at hx2))
          have HS9 := Lib.hid (HS.out.old hx2.2.2)
          clear hx2 hx0 hb9 hbd HF HQ FJ FK HX HJK
          have hnJ : 0 < n - J := by omega
          go_wp2
          generalize hN2 : n - J = N2
          generalize hC2 : C - J = C2
          generalize ho2 : off + J * 7 = o2
          have hN2a : J + N2 ≤ n := by omega
          have hN2b : n ≤ J + N2 := by omega
          have hN2p : 1 ≤ N2 := by omega
          have HO2 := Lib.hid ho2
          clear hN2 hC2 ho2 q1 HC0 HS hnJ
          go_loopw [5, 7] (fun vq vk wr => ∃ (q k2 : Nat) (M : List Fx), vq = .int .i64 (q : Int) ∧ vk = .int .i64 (k2 : Int) ∧ 1 ≤ k2 ∧ k2 ≤ N2 ∧ J ≤ q ∧ q + 1 ≤ J + k2 ∧ Hid (Kept2 l J k2 q M) ∧ Hid (Sorts w g off M wr)) (fun _ vk _ => N2 - (intOf vk).toNat)
          case atStart => exact ⟨J, 1, l, rfl, rfl, Nat.le_refl _, hN2p, Nat.le_refl _, Nat.le_refl _, HK2, HS9⟩
          case round =>
            obtain ⟨q, k2, M, rfl, rfl, hk1, hk2, hq1, hq2, HKM, HS⟩ := hrel
            have HLM : Hid (M.length = n) := Lib.hid (by rw [HKM.out.len]; exact HN.out.symm)
            by_cases hl2 : k2 < N2
            · have e4 : decide ((k2 : Int) < (N2 : Int)) = true := decide_eq_true (by omega)
              have e5 : decide (k2 < N2) = true := decide_eq_true hl2
              obtain ⟨K2, hK2⟩ : ∃ K, K = k2 - 1 := ⟨_, rfl⟩
              have hK2n : K2 < N2 := by omega
              have s2 : IntKind.i64.wrap ((k2 : Int) - 1) = (K2 : Int) := by rw [IntWalk.i64_in _ (by omega)]; omega
              have hjk : J + k2 = (J + K2) + 1 := by omega
              have HJ2 := Lib.hid hjk
              have hJl2 : J + k2 < l.length := by rw [← HN.out]; omega
              have hKl2 : J + K2 < l.length := by omega
              have HJL := Lib.hid hJl2
              have HKL := Lib.hid hKl2
              obtain ⟨x', hx⟩ : ∃ x', x' = l[J + k2] := ⟨_, rfl⟩
              obtain ⟨y', hy⟩ : ∃ y', y' = l[J + K2] := ⟨_, rfl⟩
              have HX := Lib.hid hx
              have HY := Lib.hid hy
              obtain ⟨z', hz⟩ : ∃ z', z' = M[q]'(by rw [HLM.out]; omega) := ⟨_, rfl⟩
              have fJ := HS.out.sits.seven (i := J + k2) (x := x') (by rw [HLM.out]; omega) (by rw [hx]; exact HKM.out.rest _ (by omega) _ _)
              have fK := HS.out.sits.seven (i := J + K2) (x := y') (by rw [HLM.out]; omega) (by rw [hy]; exact HKM.out.rest _ (by omega) _ _)
              have fQ := HS.out.sits.seven (i := q) (x := z') (by rw [HLM.out]; omega) hz.symm
              have hqM : q < M.length := by rw [HLM.out]; omega
              have hqn : q < n := by omega
              have HQM := Lib.hid hqM
              rw [show off + (J + k2) * 7 = o2 + k2 * 7 by rw [← HO2.out]; omega] at fJ
              rw [show off + (J + K2) * 7 = o2 + K2 * 7 by rw [← HO2.out]; omega] at fK
              clear hx hy hz hK2 hjk hJl2 hKl2 hqM
              obtain ⟨⟨aP, av, az, a_s, ar, ab, al⟩, aA, aC⟩ := x'
              obtain ⟨⟨bP, bv, bz, bs, br, bb, bl⟩, bA, bC⟩ := y'
              obtain ⟨⟨cP, cv, cz, cs, cr, cb, cl⟩, cA, cC⟩ := z'
              obtain ⟨am, ham⟩ : ∃ m, m = al.length := ⟨_, rfl⟩
              obtain ⟨bm, hbm⟩ : ∃ m, m = bl.length := ⟨_, rfl⟩
              obtain ⟨cm, hcm⟩ : ∃ m, m = cl.length := ⟨_, rfl⟩
              dsimp only at fJ fK fQ
              rw [← ham] at fJ
              rw [← hbm] at fK
              rw [← hcm] at fQ
              have HAM := Lib.hid ham
              have FJ := Lib.hid fJ
              have FK := Lib.hid fK
              have FQ := Lib.hid fQ
              clear ham hbm hcm fJ fK fQ
              have hbd : Below wr.heap.size wr wr.drew := (Below.refl _ _).drew
              have HF : Hid (∀ z, Below wr.heap.size wr z → Seven z g (o2 + k2 * 7) aP av az a_s ar ab aA am aC ∧ Seven z g (o2 + K2 * 7) bP bv bz bs br bb bA bm bC ∧ Below wr.heap.size wr z) := Lib.hid fun z hz => ⟨FJ.out.old hz, FK.out.old hz, hz⟩
              have hx0 := HF.out _ hbd
              unfold Seven at hx0
              obtain ⟨eb, heb⟩ : ∃ eb, eb = (aP == bP && av == bv) := ⟨_, rfl⟩
              have hsm := fun y => same_any aP av az a_s ar ab aA am aC bP bv bz bs br bb bA bm bC y
              rw [← heb] at hsm
              have HSM := Lib.hid hsm
              have HSS : Hid (sameX ⟨⟨aP, av, az, a_s, ar, ab, al⟩, aA, aC⟩ ⟨⟨bP, bv, bz, bs, br, bb, bl⟩, bA, bC⟩ = eb) := Lib.hid heb.symm
              clear hsm heb
              cases q1 : eb with
              | true =>
                have HK9 : Hid (Kept2 l J (k2 + 1) q M) := Lib.hid (HKM.out.skip HJ2.out HJL.out HX.out.symm HY.out.symm (HSS.out.trans q1))
                go_wp2
                go_region_held3 (fun z => (z.cell? ⟨g, o2 + k2 * 7, none⟩ = some (.string (tx aP)) ∧ z.cell? ⟨g, o2 + k2 * 7 + 1, none⟩ = some (.int .i64 av) ∧ z.cell? ⟨g, o2 + k2 * 7 + 2, none⟩ = some (.int .i64 az) ∧ z.cell? ⟨g, o2 + k2 * 7 + 3, none⟩ = some (.int .i64 a_s) ∧ z.cell? ⟨g, o2 + k2 * 7 + 4, none⟩ = some (.int .i64 ar) ∧ z.cell? ⟨g, o2 + k2 * 7 + 5, none⟩ = some (.bool ab) ∧ z.cell? ⟨g, o2 + k2 * 7 + 6, none⟩ = some (.slice aA am aC)) ∧ (z.cell? ⟨g, o2 + K2 * 7, none⟩ = some (.string (tx bP)) ∧ z.cell? ⟨g, o2 + K2 * 7 + 1, none⟩ = some (.int .i64 bv) ∧ z.cell? ⟨g, o2 + K2 * 7 + 2, none⟩ = some (.int .i64 bz) ∧ z.cell? ⟨g, o2 + K2 * 7 + 3, none⟩ = some (.int .i64 bs) ∧ z.cell? ⟨g, o2 + K2 * 7 + 4, none⟩ = some (.int .i64 br) ∧ z.cell? ⟨g, o2 + K2 * 7 + 5, none⟩ = some (.bool bb) ∧ z.cell? ⟨g, o2 + K2 * 7 + 6, none⟩ = some (.slice bA bm bC)) ∧ Below wr.heap.size wr z)
                  (first
                    | exact hx2
                    | exact hx0)
                  (first
                    | (go_at_call 20; refine (HSM.out wr.drew).mono ?_; rintro e w9 ⟨rfl, hb9⟩; have hx2 := HF.out w9 (hbd.trans hb9); unfold Seven at hx2))
                have HS9 := Lib.hid (HS.out.old hx2.2.2)
                clear hx2 hx0 hb9 hbd HF
                go_wp2
                go_roundw
                case rel => exact ⟨q, k2 + 1, M, rfl, by go_num, by omega, by omega, by omega, by omega, HK9, HS9⟩
                case measure => simp [intOf]; omega
              | false =>
                have HK9 : Hid (Kept2 l J (k2 + 1) (q + 1) (M.set q ⟨⟨aP, av, az, a_s, ar, ab, al⟩, aA, aC⟩)) := Lib.hid (HKM.out.take HJ2.out HJL.out HX.out.symm HY.out.symm (HSS.out.trans q1))
                go_wp2
                go_region_held3 (fun z => (z.cell? ⟨g, o2 + k2 * 7, none⟩ = some (.string (tx aP)) ∧ z.cell? ⟨g, o2 + k2 * 7 + 1, none⟩ = some (.int .i64 av) ∧ z.cell? ⟨g, o2 + k2 * 7 + 2, none⟩ = some (.int .i64 az) ∧ z.cell? ⟨g, o2 + k2 * 7 + 3, none⟩ = some (.int .i64 a_s) ∧ z.cell? ⟨g, o2 + k2 * 7 + 4, none⟩ = some (.int .i64 ar) ∧ z.cell? ⟨g, o2 + k2 * 7 + 5, none⟩ = some (.bool ab) ∧ z.cell? ⟨g, o2 + k2 * 7 + 6, none⟩ = some (.slice aA am aC)) ∧ (z.cell? ⟨g, o2 + K2 * 7, none⟩ = some (.string (tx bP)) ∧ z.cell? ⟨g, o2 + K2 * 7 + 1, none⟩ = some (.int .i64 bv) ∧ z.cell? ⟨g, o2 + K2 * 7 + 2, none⟩ = some (.int .i64 bz) ∧ z.cell? ⟨g, o2 + K2 * 7 + 3, none⟩ = some (.int .i64 bs) ∧ z.cell? ⟨g, o2 + K2 * 7 + 4, none⟩ = some (.int .i64 br) ∧ z.cell? ⟨g, o2 + K2 * 7 + 5, none⟩ = some (.bool bb) ∧ z.cell? ⟨g, o2 + K2 * 7 + 6, none⟩ = some (.slice bA bm bC)) ∧ Below wr.heap.size wr z)
                  (first
                    | exact hx2
                    | exact hx0)
                  (first
                    | (go_at_call 20; refine (HSM.out wr.drew).mono ?_; rintro e w9 ⟨rfl, hb9⟩; have hx2 := HF.out w9 (hbd.trans hb9); unfold Seven at hx2))
                have HS9 := Lib.hid (HS.out.old hx2.2.2)
                have FJ9 := Lib.hid (FJ.out.old hx2.2.2)
                have FQ9 := Lib.hid (FQ.out.old hx2.2.2)
                clear hx2 hx0 hb9 hbd HF
                have FR : Hid (∀ k, w9.frozen? ⟨g, k, none⟩ = false) := Lib.hid HS9.out.sits.free
                have hset := HS9.out.set HQM.out ⟨⟨aP, av, az, a_s, ar, ab, al⟩, aA, aC⟩
                dsimp only at hset
                rw [← HAM.out] at hset
                have HSET := Lib.hid hset
                clear hset
                go_upto_region 12 with fail
                have hx := FJ9.out
                have hy := FQ9.out
                unfold Seven at hx hy
                obtain ⟨x0, x1, x2, x3, x4, x5, x6⟩ := hx
                obtain ⟨y0, y1, y2, y3, y4, y5, y6⟩ := hy
                have f0 := FR.out (off + q * 7)
                have f1 := FR.out (off + q * 7 + 1)
                have f2 := FR.out (off + q * 7 + 2)
                have f3 := FR.out (off + q * 7 + 3)
                have f4 := FR.out (off + q * 7 + 4)
                have f5 := FR.out (off + q * 7 + 5)
                have f6 := FR.out (off + q * 7 + 6)
                go_upto_region 13 with fail
                generalize (((((((w9.setCell ⟨g, off + q * 7, none⟩ (.string (tx aP))).setCell ⟨g, off + q * 7 + 1, none⟩ (.int .i64 av)).setCell ⟨g, off + q * 7 + 2, none⟩ (.int .i64 az)).setCell ⟨g, off + q * 7 + 3, none⟩ (.int .i64 a_s)).setCell ⟨g, off + q * 7 + 4, none⟩ (.int .i64 ar)).setCell ⟨g, off + q * 7 + 5, none⟩ (.bool ab)).setCell ⟨g, off + q * 7 + 6, none⟩ (.slice aA am aC)) = ws at HSET ⊢
                clear x0 x1 x2 x3 x4 x5 x6 y0 y1 y2 y3 y4 y5 y6 f0 f1 f2 f3 f4 f5 f6
                go_wp2
                go_roundw
                case rel => exact ⟨q + 1, k2 + 1, _, by go_num, by go_num, by omega, by omega, by omega, by omega, HK9, HSET⟩
                case measure => simp [intOf]; omega
            · have e4 : decide ((k2 : Int) < (N2 : Int)) = false := decide_eq_false (by omega)
              have e5 : decide (k2 < N2) = false := decide_eq_false hl2
              have HE : Hid (M.take q = Sr.compact sameX l) := Lib.hid (by
                rw [HKM.out.kept, List.take_of_length_le (by rw [← HN.out]; omega)])
              have HEL : Hid ((Sr.compact sameX l).length = q) := Lib.hid (by rw [← HE.out, List.length_take, HLM.out]; omega)
              have hfr : ∀ k, wr.frozen? ⟨g, k, none⟩ = false := HS.out.sits.free
              obtain ⟨vs, hcl⟩ := clear_run wr g (off + q * 7) (n - q) (C - q) (by omega) (fun j hj => HS.out.sits.some_ (by rw [HLM.out]; omega)) hfr
              have HS9 : Hid (Sorts w g off (Sr.compact sameX l) (wr.setCells g (off + q * 7) vs)) := Lib.hid (by
                rw [← HE.out]
                exact ⟨HS.out.sits.cells vs, HS.out.kp.trans (kp_cells _ _ _ _)⟩)
              have hqn : q ≤ n := by omega
              have hqC : q ≤ C := by omega
              clear hfr
              go_wp2
              go_ret
              rw [HEL.out]
              exact ⟨rfl, HS9.out⟩
      · have e2 : decide ((J : Int) < (n : Int)) = false := decide_eq_false (by omega)
        have e3 : decide (J < n) = false := decide_eq_false hlt
        have HE : Hid (Sr.compact sameX l = l) := Lib.hid (by
          have h1 := HC0.out
          rwa [List.take_of_length_le (by rw [← HN.out]; omega)] at h1)
        go_wp2
        go_ret
        rw [HE.out, ← HN.out]
        exact ⟨rfl, HS.out⟩
end Go.Proofs.YtbijjgicjkmopaaDoor
namespace Go.Proofs.YtbijjgicjkmopaaDoor
open Go.RowKit
open Pt (Tx)

theorem insertion_nil (w : World) :
    Calls Tryd.prog 40 #[.slice none 0 0, .int .i64 0, .int .i64 0, .func (.func 18) #[] #[]] w fun e w' => e = .returned (.tuple #[]) ∧ w = w' := by
  go_enter Tryd.func40, Tryd.ntmps40
  go_wp2
  go_loopw [8, 9] (fun vi vj wr => vi = .int .i64 1 ∧ Hid (wr = w)) (fun _ _ _ => 0)
  case atStart => exact ⟨rfl, Lib.hid rfl⟩
  case round =>
    obtain ⟨rfl, HW⟩ := hrel
    go_wp2
    go_end0
    exact ⟨rfl, HW.out.symm⟩
set_option maxHeartbeats 1000000 in
theorem stable_nil (w : World) :
    Calls Tryd.prog 30 #[.slice none 0 0, .int .i64 0, .func (.func 18) #[] #[]] w fun e w' => e = .returned (.tuple #[]) ∧ w = w' := by
  go_enter Tryd.func30, Tryd.ntmps30
  go_wp2
  go_loopw [7, 8] (fun va vb wr => va = .int .i64 0 ∧ vb = .int .i64 20 ∧ Hid (wr = w)) (fun _ _ _ => 0)
  case atStart => exact ⟨rfl, rfl, Lib.hid rfl⟩
  case round =>
    obtain ⟨rfl, rfl, HW⟩ := hrel
    go_wp2_with fail
    refine (insertion_nil wr).mono ?_
    rintro e w1 ⟨rfl, hw1⟩
    have HW1 : Hid (w1 = w) := Lib.hid (by rw [← hw1]; exact HW.out)
    clear hw1
    go_wp2
    go_loopw [6, 7, 8, 9] (fun vz va vb vm wr => vz = .int .i64 20 ∧ Hid (wr = w)) (fun _ _ _ _ _ => 0)
    case atStart => exact ⟨rfl, HW1⟩
    case round =>
      obtain ⟨rfl, HW2⟩ := hrel
      go_wp2
      go_end0
      exact ⟨rfl, HW2.out.symm⟩
theorem sort_nil (w : World) :
    Calls Tryd.prog 17 #[.slice none 0 0, .func (.func 18) #[] #[]] w fun e w' => e = .returned (.tuple #[]) ∧ w = w' := by
  go_enter Tryd.func17, Tryd.ntmps17
  go_wp2_with fail
  refine (stable_nil w).mono ?_
  rintro e w1 ⟨rfl, rfl⟩
  go_wp2
  go_end0
  exact ⟨rfl, rfl⟩
theorem compact_nil (w : World) :
    Calls Tryd.prog 19 #[.slice none 0 0, .func (.func 20) #[] #[]] w fun e w' => e = .returned (.slice none 0 0) ∧ w = w' := by
  go_enter Tryd.func19, Tryd.ntmps19
  go_wp2
  go_ret
  exact ⟨rfl, rfl⟩
/-- files in a row that is made by append, each one's parts elsewhere -/
structure FInv (wg x : World) (v : Value) (xs : List Fx) (fs : List Ct.F) : Prop where
  own : encF.Own x wg.heap.size 46 v xs
  eq : xs.map (fun x => x.f) = fs
  ok : ∀ y ∈ xs, y.Ok x (fun b => wg.heap.size ≤ b ∧ b < x.heap.size ∧ v.ownBlock ≠ some b)
  bel : Below wg.heap.size wg x
namespace FInv
variable {wg x y z : World} {v : Value} {xs : List Fx} {fs : List Ct.F}
theorem start (wg : World) : FInv wg wg (.slice none 0 0) [] [] := ⟨Enc.Own.nil _ _ _, rfl, (fun _ hy => nomatch hy), Below.refl _ _⟩
theorem old (h : FInv wg x v xs fs) (hb : Below x.heap.size x y) : FInv wg y v xs fs :=
  ⟨h.own.old hb, h.eq, fun q hq => ((h.ok q hq).old hb).mono fun _ hb' => ⟨hb'.1, Nat.lt_of_lt_of_le hb'.2.1 hb.size, hb'.2.2⟩, h.bel.trans (hb.mono h.bel.size)⟩
theorem push (h : FInv wg x v xs fs) (hb : Below x.heap.size x y) {fx : Fx} (hfx : fx.Ok y (fun b => x.heap.size ≤ b ∧ b < y.heap.size)) {g C : Nat}
    (ho : z.ownsRow wg.heap.size 46 7 (.slice (some ⟨g, 0, none⟩) (xs.length + 1) C) (xs.length + 1) (encF.cells xs ++ encF.cells [fx])) (hg : y.grownBy z v.ownBlock) (hat : v.ownBlock = some g ∨ y.heap.size ≤ g) :
    FInv wg z (.slice (some ⟨g, 0, none⟩) (xs.length + 1) C) (xs ++ [fx]) (fs ++ [fx.f]) := by
  have hw : wg.heap.size ≤ y.heap.size := Nat.le_trans h.bel.size hb.size
  have keep : ∀ (q : Fx) (B : Nat → Prop), q.Ok y (fun b => B b ∧ b < y.heap.size ∧ v.ownBlock ≠ some b) → q.Ok z (fun b => B b ∧ b < z.heap.size ∧ (Value.slice (some ⟨g, 0, none⟩) (xs.length + 1) C).ownBlock ≠ some b) := fun q B hq => by
    refine ⟨hq.le, hq.max, hq.nil, (hq.rd.keep fun p u hp hc => ?_).mono fun b hb' => ⟨hb'.1, Nat.lt_of_lt_of_le hb'.2.1 hg.size, fun e => ?_⟩⟩
    · exact (World.cell?_of_block (hg.block p.block hp.2.1 (fun e => hp.2.2 e.symm))).trans hc
    · cases e
      rcases hat with e | e
      · exact hb'.2.2 e
      · have : g < y.heap.size := hb'.2.1
        omega
  refine ⟨?_, by rw [List.map_append, h.eq]; rfl, fun q hq => ?_, ?_⟩
  · unfold Enc.Own
    rw [Enc.cells_append, List.length_append]
    exact ho
  · rcases List.mem_append.1 hq with hq | hq
    · refine (keep q (wg.heap.size ≤ ·) (((h.ok q hq).old hb).mono fun _ hb' => ⟨hb'.1, Nat.lt_of_lt_of_le hb'.2.1 hb.size, hb'.2.2⟩))
    · rw [List.mem_singleton.1 hq]
      refine keep fx (wg.heap.size ≤ ·) (hfx.mono fun b hb' => ⟨Nat.le_trans h.bel.size hb'.1, hb'.2, fun e => ?_⟩)
      have := (h.own.lt b e).2
      omega
  · exact (h.bel.trans (hb.mono h.bel.size)).grown hg hw fun k e => (h.own.lt k e).1
end FInv
/-- what From answers -/
def FromA (fs : List Ct.F) (w : World) (e : Ending) (w' : World) : Prop :=
  ∃ A C xs, e = .returned (.slice A fs.length C) ∧ fs.length ≤ C ∧ (A = none → fs.length = 0 ∧ C = 0) ∧ xs.map (fun x : Fx => x.f) = fs ∧ encF.Rd w' A xs (w.heap.size ≤ ·) ∧ (∀ x ∈ xs, x.Ok w' (w.heap.size ≤ ·)) ∧ Below w.heap.size w w'
theorem tame_ok {p : Ct.P} (k : Rc.Ok p.h) : Tame p := by
  obtain ⟨hp, ⟨a1, a2⟩, ⟨b1, b2⟩, ⟨c1, c2⟩, d, e, f, g, -⟩ := k
  exact ⟨⟨by omega, by omega⟩, ⟨by omega, by omega⟩⟩
set_option maxRecDepth 100000 in
set_option maxHeartbeats 8000000 in
theorem from_any (A : Option Addr) (ts : List St.T) (n C : Nat) (G : Nat → Prop) (w : World) (hn : n = ts.length) (hm : n ≤ 1000000) (hr : RdT w A ts G) (hl : ∀ t ∈ ts, t.blocks.length ≤ 1000000 ∧ ∀ s ∈ t.blocks, s.length ≤ 1000000) (hmax : (Ct.all ts).length ≤ 900000) (hf : (Ct.files (Ct.gather (Ct.all ts))).length < 20) (hk : Kept w) :
    Calls Tryd.prog 8 #[.slice A n C] w (FromA (Ct.from_ ts) w) := by
  have HGA := Lib.hid (gather_any A ts n C G w hn hm hr hl hmax hk)
  obtain ⟨gs, hgs⟩ : ∃ gs, gs = Ct.gather (Ct.all ts) := ⟨_, rfl⟩
  have HFR : Hid (Ct.from_ ts = Sr.compact Ct.same (Sr.isort Ct.less (Ct.files gs))) := Lib.hid (by rw [hgs]; rfl)
  have HPT : Hid (∀ g ∈ gs, ∀ p ∈ g.2, Rc.Ok p.h) := Lib.hid fun g hg p hp => by rw [hgs] at hg; exact Ct.all_ok (Ct.gather_mem hg p hp)
  have HGL : Hid (∀ g ∈ gs, g.2.length ≤ 900000) := Lib.hid fun g hg => by rw [hgs] at hg; exact Nat.le_trans (Ct.gather_le hg) hmax
  have HGN : Hid (gs.length ≤ 900000) := Lib.hid (by rw [hgs]; exact Nat.le_trans (Ct.gather_len _) hmax)
  rw [← hgs] at hf HGA
  have HF := Lib.hid hf
  obtain ⟨i0, hi0, hz0, hz1, hz2⟩ := info_parts infoFile
  clear hn hr hl hmax hk hgs hf
  go_enter Tryd.func8, Tryd.ntmps8
  go_wp2_with fail
  refine HGA.out.mono ?_
  rintro e wg ⟨vg, us, rfl, hgs, hbg⟩
  obtain ⟨Ag, Cg, hv⟩ : ∃ Ag Cg, vg = .slice Ag us.length Cg := by
    rcases hgs.top.2 with ⟨e, h0⟩ | ⟨g, cap, cur, e, -⟩
    · exact ⟨_, _, by rw [e, h0]⟩
    · exact ⟨_, _, e⟩
  subst hv
  obtain ⟨m, hml⟩ : ∃ m, m = us.length := ⟨_, rfl⟩
  rw [← hml]
  have hmg : m = gs.length := by rw [hml, hgs.len, List.length_map]
  have hm9 : m ≤ 900000 := by rw [hmg]; exact HGN.out
  have HML := Lib.hid hml
  have HMG := Lib.hid hmg
  have HGS := Lib.hid hgs
  have HBG := Lib.hid hbg
  clear hgs hbg hml hmg HGA
  go_wp2
  go_loopw [11, 3] (fun vi vl wr => ∃ (i : Nat) (xs : List Fx), i ≤ m ∧ vi = .int .i64 (i : Int) ∧ Hid (FInv wg wr vl xs (Ct.files (gs.take i)))) (fun vi _ _ => m - (intOf vi).toNat)
  case atStart => exact ⟨0, [], Nat.zero_le _, rfl, Lib.hid (FInv.start wg)⟩
  case round =>
    obtain ⟨i, xs, hi, rfl, HI⟩ := hrel
    by_cases hlt : i < m
    · have e0 : decide (i < m) = true := decide_eq_true hlt
      have hiu : i < us.length := by rw [← HML.out]; exact hlt
      have hig : i < gs.length := by rw [← HMG.out]; exact hlt
      have hgs' := HGS.out.old HI.out.bel
      obtain ⟨gv, Cv, hv, -, -, -, hcell, -⟩ := HGS.out.form (by omega)
      injection hv with hv1 hv2 hv3
      subst hv1 hv3
      have hc0 := (HI.out.bel.cell (p := ⟨gv, i, none⟩) (World.block_lt_of_cell? _ _ (hcell i _ (List.getElem?_eq_getElem hiu)))).trans (hcell i _ (List.getElem?_eq_getElem hiu))
      obtain ⟨Ai, Ci, hui, -, -, hri⟩ := hgs'.rd hiu (by rw [List.length_map]; exact hig)
      rw [List.getElem_map] at hui hri
      obtain ⟨ps, hps⟩ : ∃ ps, ps = gs[i].2 := ⟨_, rfl⟩
      rw [← hps] at hui hri
      obtain ⟨L, hL⟩ : ∃ L, L = ps.length := ⟨_, rfl⟩
      rw [hui, ← hL] at hc0
      have hpm : ∀ p ∈ ps, Rc.Ok p.h := fun p hp => HPT.out gs[i] (List.getElem_mem hig) p (by rw [← hps]; exact hp)
      have HFT : Hid (Ct.files (gs.take (i + 1)) = Ct.files (gs.take i) ++ (Ct.whole ps).toList) := Lib.hid (by rw [hps]; exact Ct.files_take hig)
      have HWA := Lib.hid (whole_any Ai ps L Ci _ wr hL (by have := HGL.out gs[i] (List.getElem_mem hig); rw [← hps] at this; omega) hri (fun p hp => tame_ok (hpm p hp)) (fun p hp => by have := (hpm p hp).short; omega))
      have HXL : Hid (xs.length ≤ 900000) := Lib.hid (by
        have h1 := congrArg List.length HI.out.eq
        rw [List.length_map] at h1
        have h2 := Ct.files_len (gs.take i)
        rw [List.length_take] at h2
        omega)
      clear hcell hv2 hui hri hps hL hpm hgs' hiu hig
      go_wp2_with fail
      refine HWA.out.mono ?_
      rintro e w1 ⟨hh, hb1⟩
      clear HWA hc0
      cases hwh : Ct.whole ps with
      | none =>
        rw [hwh] at hh HFT
        obtain rfl := hh
        have HI2 : Hid (FInv wg (w1.alloc (.cells #[.string ⟨#[]⟩, .int .i64 0, .int .i64 0, .int .i64 0, .int .i64 0, .bool false, .slice none 0 0] 46)) u3 xs (Ct.files (gs.take (i + 1)))) := Lib.hid (by
          rw [HFT.out]
          show FInv wg _ u3 xs (Ct.files (gs.take i) ++ [])
          rw [List.append_nil]
          exact HI.out.old (hb1.alloc hb1.size _))
        clear hwh hb1
        go_wp2
        go_roundw
        case rel => exact ⟨i + 1, xs, by omega, by go_num, HI2⟩
        case measure => simp [intOf]; omega
      | some f =>
        rw [hwh] at hh HFT
        obtain ⟨A1, C1, rfl, hO⟩ := hh
        obtain ⟨P, v, z, s, r, b, pl⟩ := f
        dsimp only at hO
        obtain ⟨m1, hm1⟩ : ∃ m1, m1 = pl.length := ⟨_, rfl⟩
        rw [← hm1] at hO ⊢
        obtain ⟨w2, hw2⟩ : ∃ x, x = w1.alloc (fileO P v z s r b A1 m1 C1) := ⟨_, rfl⟩
        have hb2 : Below wr.heap.size wr w2 := by rw [hw2]; exact hb1.alloc hb1.size _
        have hk2 : w2.heap[w1.heap.size]? = some (fileO P v z s r b A1 m1 C1) := by rw [hw2]; exact Go.Deep.blk_alloc_new _ _
        have hb12 : Below w1.heap.size w1 w2 := by rw [hw2]; exact (Below.refl _ _).alloc (Nat.le_refl _) _
        have hby2 : Below w2.heap.size w2 (w2.alloc (.cells #[.string (tx P), .int .i64 v, .int .i64 z, .int .i64 s, .int .i64 r, .bool b, .slice A1 m1 C1] 46)) := (Below.refl _ _).alloc (Nat.le_refl _) _
        have hby : Below wr.heap.size wr (w2.alloc (.cells #[.string (tx P), .int .i64 v, .int .i64 z, .int .i64 s, .int .i64 r, .bool b, .slice A1 m1 C1] 46)) := hb2.trans (hby2.mono hb2.size)
        have hfx : Fx.Ok ⟨⟨P, v, z, s, r, b, pl⟩, A1, C1⟩ (w2.alloc (.cells #[.string (tx P), .int .i64 v, .int .i64 z, .int .i64 s, .int .i64 r, .bool b, .slice A1 m1 C1] 46)) (fun q => wr.heap.size ≤ q ∧ q < (w2.alloc (.cells #[.string (tx P), .int .i64 v, .int .i64 z, .int .i64 s, .int .i64 r, .bool b, .slice A1 m1 C1] 46)).heap.size) := by
          obtain ⟨A3, C3, e, h1, h2, h3, h4⟩ := hO.rd
          injection e with e1 e2 e3
          subst e1 e3
          refine ⟨h1, h2, h3, ((h4.in_.old hb12).old hby2).mono fun q hq => ⟨hq.1.1, ?_⟩⟩
          have h5 := hq.2
          have h6 := hb12.size
          have h7 := hby2.size
          omega
        have HFX := Lib.hid hfx
        have HBY := Lib.hid hby
        have HOW := Lib.hid (HI.out.own.old hby)
        have HW2 : Hid (w2 = w1.alloc (.cells #[.string (tx P), .int .i64 v, .int .i64 z, .int .i64 s, .int .i64 r, .bool b, .slice A1 m1 C1] 46)) := Lib.hid hw2
        have hlo : wg.heap.size ≤ w2.heap.size := by have h1 := HI.out.bel.size; have h2 := hb2.size; omega
        have HM1 := Lib.hid hm1
        have HNEW : Hid (∀ j u, (encF.cells [⟨⟨P, v, z, s, r, b, pl⟩, A1, C1⟩])[j]? = some u → (w2.alloc (.cells #[.string (tx P), .int .i64 v, .int .i64 z, .int .i64 s, .int .i64 r, .bool b, .slice A1 m1 C1] 46)).cell? ((⟨w2.heap.size, 0, none⟩ : Addr).add j) = some u) := Lib.hid fun j u hu => by
          refine newCells w2 [.string (tx P), .int .i64 v, .int .i64 z, .int .i64 s, .int .i64 r, .bool b, .slice A1 m1 C1] _ j u ?_
          rw [Enc.cells_one] at hu
          rw [hm1]
          exact hu
        have HK2 := Lib.hid hk2
        have hxl := HXL.out
        clear hwh hb1 hO hw2 hb2 hk2 hb12 hby2 hby hfx hm1
        go_upto_region 6 with fail
        rw [← HW2.out]
        obtain ⟨a0, a1, a2, a3, a4, a5, a6⟩ := file7 HK2.out
        go_wp2_with (at_builtin; refine wpList_append_lies _ rfl _ _ 38 rfl wg.heap.size 46 i0 zeroF 7 80 Tryd.underlying38 hi0 hz0 hz1 hz2 rfl (by decide) _ xs.length (encF.cells xs) rfl HOW.out ⟨w2.heap.size, 0, none⟩ 1 1 (encF.cells [⟨⟨P, v, z, s, r, b, pl⟩, A1, C1⟩]) rfl (Enc.cells_len encF _) HNEW.out (Enc.cells_all encF _) (by decide) (by unfold maxLen; omega) (by omega) (by simp; omega) (w2.heap.size + 1) (by simp) ?_)
        intro g9 C9 w9 hO9 hg9 hat9 hlt9
        have HI9 : Hid (FInv wg w9 (.slice (some ⟨g9, 0, none⟩) (xs.length + 1) C9) (xs ++ [⟨⟨P, v, z, s, r, b, pl⟩, A1, C1⟩]) (Ct.files (gs.take (i + 1)))) := Lib.hid (by
          rw [HFT.out]
          exact HI.out.push HBY.out HFX.out hO9 hg9 (hat9.imp id fun e => by rw [e]; simp))
        clear a0 a1 a2 a3 a4 a5 a6 hO9 hg9 hat9 hlt9 hxl hlo
        go_wp2
        go_roundw
        case rel => exact ⟨i + 1, _, by omega, by go_num, HI9⟩
        case measure => simp [intOf]; omega
    · have e0 : decide (i < m) = false := decide_eq_false hlt
      have HIE : Hid (FInv wg wr u3 xs (Ct.files gs)) := Lib.hid (by
        have h1 := HI.out
        rwa [List.take_of_length_le (by rw [← HMG.out]; omega)] at h1)
      have hxn : xs.length < 20 := by
        have h1 := congrArg List.length HIE.out.eq
        rw [List.length_map] at h1
        rw [h1]; exact HF.out
      have HBW : Hid (Below w.heap.size w wr) := Lib.hid (HBG.out.trans (HIE.out.bel.mono HBG.out.size))
      rcases sitsF_own HIE.out.own with ⟨hv, hxs⟩ | ⟨g, C9, hv, hlc, hcm, hbg, hs⟩
      · subst hv
        have HE : Hid (Ct.from_ ts = []) := Lib.hid (by
          rw [HFR.out, ← HIE.out.eq, hxs]; rfl)
        clear hxs hxn
        go_wp2_with fail
        refine (sort_nil wr).mono ?_
        rintro e w1 ⟨rfl, hw1⟩
        obtain rfl := hw1
        go_wp2_with fail
        refine (compact_nil wr).mono ?_
        rintro e w1 ⟨rfl, hw1⟩
        obtain rfl := hw1
        go_wp2
        go_ret
        rw [HE.out]
        exact ⟨none, 0, [], rfl, Nat.le_refl _, fun _ => ⟨rfl, rfl⟩, rfl, Enc.Rd.nil _ _ _, (fun _ hy => nomatch hy), HBW.out⟩
      · subst hv
        have HSRT := Lib.hid (sort_any g 0 xs xs.length C9 wr rfl hxn hs)
        have HOKS := Lib.hid HIE.out.ok
        have HLC := Lib.hid hlc
        have HBGG : Hid (wg.heap.size ≤ g) := Lib.hid hbg
        have HEQ := Lib.hid HIE.out.eq
        clear hlc hs hbg
        go_wp2_with fail
        refine HSRT.out.mono ?_
        rintro e w1 ⟨rfl, hs1⟩
        have hlen : (Sr.isort lessX xs).length = xs.length := Sr.isort_len _ _
        have HCMP := Lib.hid (compact_any g 0 (Sr.isort lessX xs) xs.length C9 w1 hlen.symm HLC.out (by omega) hs1.sits)
        have HK1 := Lib.hid hs1.kp
        clear hs1 hlen HSRT
        go_wp2_with fail
        refine HCMP.out.mono ?_
        rintro e w5 ⟨rfl, hs2⟩
        have HS2 := Lib.hid hs2
        clear hs2 HCMP
        have HMAP : Hid ((Sr.compact sameX (Sr.isort lessX xs)).map (fun x => x.f) = Ct.from_ ts) := Lib.hid (by
          rw [HFR.out, ← HEQ.out, Sr.compact_map (e := sameX) (e' := Ct.same) (g := fun x : Fx => x.f) (fun _ _ => rfl), Sr.isort_map (lt := lessX) (lt' := Ct.less) (g := fun x : Fx => x.f) (fun _ _ => rfl)])
        have HLEN : Hid ((Sr.compact sameX (Sr.isort lessX xs)).length = (Ct.from_ ts).length) := Lib.hid (by rw [← HMAP.out, List.length_map])
        go_wp2
        go_ret
        rw [HLEN.out]
        have hk := HK1.out.trans HS2.out.kp
        have hw := HBG.out.size
        refine ⟨some ⟨g, 0, none⟩, C9, _, rfl, ?_, (fun h => by cases h), HMAP.out, HS2.out.sits.rd (by have := HBGG.out; omega), fun x hx => ?_, HBW.out.trans (hk.below HBW.out.size fun q hq => by have := HBGG.out; omega)⟩
        · rw [← HLEN.out]
          have h1 := Sr.compact_le sameX (Sr.isort lessX xs)
          rw [Sr.isort_len] at h1
          have := HLC.out
          omega
        · exact ((HOKS.out x (Sr.mem_isort.1 (Sr.mem_compact hx))).kp hk (fun q hq e => hq.2.2 (by rw [e]; rfl))).mono fun q hq => Nat.le_trans hw hq.1
end Go.Proofs.YtbijjgicjkmopaaDoor
