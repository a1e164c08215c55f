/- A slice of slices that is made by append: each of its rows is older than it, or a row of the call's own. No function of the program. What the document's own Row answers. What the document's own product and inverse answer: the same as package gf; nothing is written. The document's own product and inverse, on elements. What the document's own Cauchy answers, whatever it is given. -/
import Derived.Test.YtcokmmanajdioaaGreatMaj
import Derived.Test.YtcokmmanajdioaaGreatMao
import Derived.Test.YtcokmmanajdioaaGreatMah
import Derived.Test.YtcokmmanajdioaaGreatMai
namespace Go.Proofs.YtcokmmanajdioaaGreat
open Go.RowKit Mx

def topsOf (k : Nat) (A : Nat → Option Addr) (L C : Nat → Nat) : List Value := (List.range k).map fun i => .slice (A i) (L i) (C i)
theorem topsOf_len (k : Nat) (A : Nat → Option Addr) (L C : Nat → Nat) : (topsOf k A L C).length = k := by simp [topsOf]
theorem topsOf_get {k : Nat} {A : Nat → Option Addr} {L C : Nat → Nat} {j : Nat} (hj : j < k) : (topsOf k A L C)[j]? = some (.slice (A j) (L j) (C j)) := by simp [topsOf, hj]
theorem topsOf_one {k : Nat} {A : Nat → Option Addr} {L C : Nat → Nat} : ∀ u ∈ topsOf k A L C, u.oneCell' = true := by
  intro u hu
  simp only [topsOf, List.mem_map] at hu
  obtain ⟨j, _, rfl⟩ := hu
  rfl
/-- rows behind rows -/
structure TopA (w : World) (B : Nat) (v : Value) (k : Nat) (A : Nat → Option Addr) (L C : Nat → Nat) (M : Mat) : Prop where
  top : w.ownsRow B 34 1 v k (topsOf k A L C)
  rows : ∀ i, i < k → Rd w (A i) (L i) (M i) (· < B) ∨ ∃ g, A i = some ⟨g, 0, none⟩ ∧ RowAt w g (L i) (M i)
namespace TopA
variable {w w' : World} {B k : Nat} {v v' : Value} {A : Nat → Option Addr} {L L' C : Nat → Nat} {M M' : Mat}
theorem start (w : World) (B : Nat) (A : Nat → Option Addr) (L C : Nat → Nat) (M : Mat) : TopA w B (.slice none 0 0) 0 A L C M := ⟨World.ownsRow_nil _ _ _ _, fun i hi => absurd hi (by omega)⟩
theorem old (h : TopA w B v k A L C M) (hb : Below w.heap.size w w') : TopA w' B v k A L C M :=
  ⟨own_old h.top hb, fun i hi => (h.rows i hi).imp (fun hr => hr.old hb) fun ⟨g, e, hr⟩ => ⟨g, e, hr.old hb⟩⟩
theorem drew (h : TopA w B v k A L C M) : TopA w.drew B v k A L C M := ⟨h.top.drew, h.rows⟩
theorem congr (h : TopA w B v k A L C M) (he : ∀ i, i < k → ∀ j, j < L i → M i j = M' i j) : TopA w B v k A L C M' :=
  ⟨h.top, fun i hi => (h.rows i hi).imp (fun hr => hr.congr (he i hi)) fun ⟨g, e, hr⟩ => ⟨g, e, hr.congr (he i hi)⟩⟩
theorem lens (h : TopA w B v k A L C M) (he : ∀ i, i < k → L i = L' i) : TopA w B v k A L' C M := by
  refine ⟨?_, fun i hi => by rw [← he i hi]; exact h.rows i hi⟩
  rw [show topsOf k A L' C = topsOf k A L C from List.map_congr_left fun i hi => by rw [he i (List.mem_range.1 hi)]]
  exact h.top
/-- a row is appended -/
theorem push (h : TopA w B v k A L C M) {o : Obj} (hg : (w.alloc o).grownBy w' v.ownBlock) {a : Option Addr} {l c : Nat} {f : Nat → Fe} (hown : w'.ownsRow B 34 1 v' (k + 1) (topsOf k A L C ++ [.slice a l c]))
    (hr : Rd w a l f (· < B) ∨ ∃ g, a = some ⟨g, 0, none⟩ ∧ RowAt w g l f) : TopA w' B v' (k + 1) (fun i => if i = k then a else A i) (fun i => if i = k then l else L i) (fun i => if i = k then c else C i) (fun i => if i = k then f else M i) := by
  have keep1 : ∀ {g' l' : Nat} {f' : Nat → Fe}, RowAt w g' l' f' → RowAt w' g' l' f' := fun {g' l' f'} h' =>
    h'.of_block ((hg.block g' (by have := h'.lt; simp; omega) (owns_ne h.top h' (by decide))).trans (Below.heap_alloc _ _ _ h'.lt))
  have keep2 : ∀ {a' : Option Addr} {l' : Nat} {f' : Nat → Fe}, Rd w a' l' f' (· < B) → Rd w' a' l' f' (· < B) := fun {a' l' f'} h' =>
    h'.keep fun p u hp hc => by
      have hlt := World.block_lt_of_cell? _ _ hc
      have hne : some p.block ≠ v.ownBlock := fun e => by have := (h.top.lt p.block e.symm).1; omega
      exact (World.cell?_of_block ((hg.block p.block (by simp; omega) hne).trans (Below.heap_alloc _ _ _ hlt))).trans hc
  have ht : topsOf k A L C ++ [.slice a l c] = topsOf (k + 1) (fun i => if i = k then a else A i) (fun i => if i = k then l else L i) (fun i => if i = k then c else C i) := by
    unfold topsOf
    rw [List.range_succ, List.map_append]
    congr 1
    · exact List.map_congr_left fun i hi => by
        have := List.mem_range.1 hi
        simp only [show ¬ i = k by omega, if_false]
    · simp
  rw [ht] at hown
  refine ⟨hown, fun i hi => ?_⟩
  by_cases e : i = k
  · simp only [e, if_true]
    exact hr.imp keep2 fun ⟨g, e, hr⟩ => ⟨g, e, keep1 hr⟩
  · simp only [e, if_false]
    exact (h.rows i (by omega)).imp keep2 fun ⟨g, e, hr⟩ => ⟨g, e, keep1 hr⟩
/-- as what reads -/
theorem rdM (h : TopA w B v k A L C M) (hk : 0 < k) : ∃ b cp, v = .slice (some ⟨b, 0, none⟩) k cp ∧ B ≤ b ∧ k ≤ cp ∧ RdM w (some ⟨b, 0, none⟩) k L M (· < w.heap.size) := by
  obtain ⟨b, cp, h1, h2, h3, h4⟩ := RowV.of_owns h.top hk
  refine ⟨b, cp, h1, h2, h3, RdM.in_ (G := fun _ => True) fun _ => ⟨b, 0, rfl, trivial, fun i hi => ⟨A i, C i, ?_, ?_⟩⟩⟩
  · rw [Nat.zero_add, h4.cell hi, List.getD_eq_getElem?_getD, topsOf_get hi]; rfl
  · rcases h.rows i hi with hr | ⟨g, e, hr⟩
    · exact hr.mono fun _ _ => trivial
    · rw [e]; exact hr.rd _ trivial
end TopA
end Go.Proofs.YtcokmmanajdioaaGreat
namespace Go.Proofs.YtcokmmanajdioaaGreat
open Go.RowKit Mx
open Pt (Tx)

theorem TopA.val {w : World} {B k : Nat} {v : Value} {A : Nat → Option Addr} {L C : Nat → Nat} {M : Mat} (h : TopA w B v k A L C M) : ∃ a c, v = .slice a k c ∧ k ≤ c ∧ (a = none → k = 0 ∧ c = 0) ∧ RdM w a k L M (· < w.heap.size) := by
  rcases Nat.eq_zero_or_pos k with h0 | h0
  · subst h0
    rcases h.top.2 with ⟨e, _⟩ | ⟨g, cap, cur, e, hb, hg, hnc, hcm, hs, ht⟩
    · exact ⟨none, 0, e, Nat.le_refl _, fun _ => ⟨rfl, rfl⟩, RdM.empty _ _ _ _ _⟩
    · exact ⟨_, cap, e, hnc, (fun h => by cases h), RdM.empty _ _ _ _ _⟩
  · obtain ⟨b, cp, e, _, hc, hr⟩ := h.rdM h0
    exact ⟨_, cp, e, hc, (fun h => by cases h), hr⟩
set_option maxRecDepth 100000 in
set_option maxHeartbeats 8000000 in
theorem refRow_any (A : Option Addr) (ts : List St.T) (C : Nat) (G : Nat → Prop) (n : Int) (w : World) (hn : ts.length ≤ 1000000) (hr : RdT w A ts G) :
    Calls Tryz.prog 41 #[.slice A ts.length C, .int .i64 n] w (RowA ts n w) := by
  have HR := Lib.hid hr
  clear hr
  obtain ⟨i0, hi0, hz0, hz1, hz2⟩ := info_parts infoRow
  obtain ⟨j0, hj0, hy0, hy1, hy2⟩ := info_parts infoByte
  have HMK := Lib.hid make79
  go_enter Tryz.func41, Tryz.ntmps41
  go_wp2
  go_loopw [6, 5] (fun vi vo wr => ∃ i : Nat, i ≤ ts.length ∧ vi = .int .i64 (i : Int) ∧ Hid (∃ A C, TopA wr w.heap.size vo i A (St.lens (St.row ts n)) C (St.mat (St.row ts n))) ∧ Hid (Below w.heap.size w wr)) (fun vi _ _ => ts.length - (intOf vi).toNat)
  case atStart => exact ⟨0, Nat.zero_le _, rfl, Lib.hid ⟨fun _ => none, fun _ => 0, TopA.start _ _ _ _ _ _⟩, Lib.hid (Below.refl _ _)⟩
  case round =>
    obtain ⟨i, hi, rfl, HO, HB⟩ := hrel
    obtain ⟨Ax, Cx, hO⟩ := HO.out
    have HO' := Lib.hid hO
    clear hO HO
    by_cases hlt : i < ts.length
    · obtain ⟨b, off, A', C', rfl, -, c0, c1, c2, c3, hb⟩ := (HR.out.old HB.out).at_ hlt
      obtain ⟨h1, h2⟩ := St.row_at (n := n) hlt
      obtain ⟨⟨lab, cap, bs, lost⟩, ht⟩ : ∃ t, t = ts[i] := ⟨_, rfl⟩
      rw [← ht] at c0 c1 c2 c3 hb h1 h2
      dsimp only at c0 c1 c2 c3 hb
      have H1 := Lib.hid h1
      have H2 := Lib.hid h2
      have e0 : decide (i < ts.length) = true := decide_eq_true hlt
      have hlow : w.heap.size ≤ wr.heap.size := HB.out.size
      have hq : lost = true ∨ (lost = false ∧ decide (n < 0) = true ∧ n < 0) ∨ (lost = false ∧ decide (n < 0) = false ∧ decide ((bs.length : Int) ≤ n) = true ∧ (bs.length : Int) ≤ n) ∨ (lost = false ∧ ∃ k : Nat, n = (k : Int) ∧ k < bs.length) := by
        cases lost with
        | true => exact .inl rfl
        | false =>
          refine .inr ?_
          by_cases a : n < 0
          · exact .inl ⟨rfl, decide_eq_true a, a⟩
          · refine .inr ?_
            by_cases a2 : (bs.length : Int) ≤ n
            · exact .inl ⟨rfl, decide_eq_false a, decide_eq_true a2, a2⟩
            · exact .inr ⟨rfl, n.toNat, by omega, by omega⟩
      clear ht h1 h2
      rcases hq with hl | ⟨hl, q1, g1⟩ | ⟨hl, q1, q2, g2⟩ | ⟨hl, k, hk, hkl⟩
      · have HZ : Hid (St.lens (St.row ts n) i = 79 ∧ St.mat (St.row ts n) i = fun _ => 0) := Lib.hid (by
          rw [H1.out, H2.out, St.blk_none (t := ⟨lab, cap, bs, lost⟩) (.inl hl), St.zeros_len, rowL_zeros]; exact ⟨rfl, rfl⟩)
        have hal : Below wr.heap.size wr (wr.alloc (.cells (madeCells #[.int .u8 0] 79) 5)) := (Below.refl _ _).alloc (Nat.le_refl _) _
        have HU : Hid (RowAt (wr.alloc (.cells (madeCells #[.int .u8 0] 79) 5)) wr.heap.size 79 (St.mat (St.row ts n) i)) := Lib.hid (by rw [HZ.out.2]; exact RowAt.made wr 79)
        have HAX := Lib.hid (HO'.out.old hal)
        have hown := HAX.out.top
        have HBX := Lib.hid (HB.out.trans (hal.mono HB.out.size))
        have hmk := HMK.out
        rw [hl] at c3
        clear hal hl hb
        go_wp2_with (at_builtin; refine wpList_append_own _ rfl _ _ 29 rfl w.heap.size 34 i0 (.slice none 0 0) 1 24 Tryz.underlying29 hi0 hz0 hz1 hz2 rfl (by decide) _ _ _ rfl (hown.alloc _) ⟨wr.heap.size + 1, 0, none⟩ 1 1 [.slice (some ⟨wr.heap.size, 0, none⟩) 79 79] rfl rfl (oneCellAt _ _ _ _ (by simp)) (oneSlice _ _ _) (by unfold maxLen; omega) (by omega) (by simp; omega) ?_)
        intro v' w3 hown' hgrow _
        have HP := Lib.hid (HAX.out.push hgrow hown' (.inr ⟨wr.heap.size, rfl, HU.out⟩))
        have HB3 := Lib.hid ((HBX.out.alloc HBX.out.size _).grown hgrow (by simp; omega) (fun x hx => (HAX.out.top.lt x hx).1))
        clear hown' hgrow hown hmk c0 c1 c2 c3
        go_wp2
        go_roundw
        case rel => exact ⟨i + 1, by omega, by go_num, Lib.hid ⟨_, _, (HP.out.congr (M' := St.mat (St.row ts n)) fun r _ c _ => by by_cases e : r = i <;> simp [e]).lens fun r _ => by by_cases e : r = i <;> simp [e, HZ.out.1]⟩, HB3⟩
        case measure => simp [intOf]; omega
      · have HZ : Hid (St.lens (St.row ts n) i = 79 ∧ St.mat (St.row ts n) i = fun _ => 0) := Lib.hid (by
          rw [H1.out, H2.out, St.blk_none (t := ⟨lab, cap, bs, lost⟩) (.inr (.inl g1)), St.zeros_len, rowL_zeros]; exact ⟨rfl, rfl⟩)
        have hal : Below wr.heap.size wr (wr.alloc (.cells (madeCells #[.int .u8 0] 79) 5)) := (Below.refl _ _).alloc (Nat.le_refl _) _
        have HU : Hid (RowAt (wr.alloc (.cells (madeCells #[.int .u8 0] 79) 5)) wr.heap.size 79 (St.mat (St.row ts n) i)) := Lib.hid (by rw [HZ.out.2]; exact RowAt.made wr 79)
        have HAX := Lib.hid (HO'.out.old hal)
        have hown := HAX.out.top
        have HBX := Lib.hid (HB.out.trans (hal.mono HB.out.size))
        have hmk := HMK.out
        rw [hl] at c3
        clear hal hl hb
        go_wp2_with (at_builtin; refine wpList_append_own _ rfl _ _ 29 rfl w.heap.size 34 i0 (.slice none 0 0) 1 24 Tryz.underlying29 hi0 hz0 hz1 hz2 rfl (by decide) _ _ _ rfl (hown.alloc _) ⟨wr.heap.size + 1, 0, none⟩ 1 1 [.slice (some ⟨wr.heap.size, 0, none⟩) 79 79] rfl rfl (oneCellAt _ _ _ _ (by simp)) (oneSlice _ _ _) (by unfold maxLen; omega) (by omega) (by simp; omega) ?_)
        intro v' w3 hown' hgrow _
        have HP := Lib.hid (HAX.out.push hgrow hown' (.inr ⟨wr.heap.size, rfl, HU.out⟩))
        have HB3 := Lib.hid ((HBX.out.alloc HBX.out.size _).grown hgrow (by simp; omega) (fun x hx => (HAX.out.top.lt x hx).1))
        clear hown' hgrow hown hmk c0 c1 c2 c3
        go_wp2
        go_roundw
        case rel => exact ⟨i + 1, by omega, by go_num, Lib.hid ⟨_, _, (HP.out.congr (M' := St.mat (St.row ts n)) fun r _ c _ => by by_cases e : r = i <;> simp [e]).lens fun r _ => by by_cases e : r = i <;> simp [e, HZ.out.1]⟩, HB3⟩
        case measure => simp [intOf]; omega
      · have HZ : Hid (St.lens (St.row ts n) i = 79 ∧ St.mat (St.row ts n) i = fun _ => 0) := Lib.hid (by
          rw [H1.out, H2.out, St.blk_none (t := ⟨lab, cap, bs, lost⟩) (.inr (.inr g2)), St.zeros_len, rowL_zeros]; exact ⟨rfl, rfl⟩)
        have hal : Below wr.heap.size wr (wr.alloc (.cells (madeCells #[.int .u8 0] 79) 5)) := (Below.refl _ _).alloc (Nat.le_refl _) _
        have HU : Hid (RowAt (wr.alloc (.cells (madeCells #[.int .u8 0] 79) 5)) wr.heap.size 79 (St.mat (St.row ts n) i)) := Lib.hid (by rw [HZ.out.2]; exact RowAt.made wr 79)
        have HAX := Lib.hid (HO'.out.old hal)
        have hown := HAX.out.top
        have HBX := Lib.hid (HB.out.trans (hal.mono HB.out.size))
        have hmk := HMK.out
        rw [hl] at c3
        clear hal hl hb
        go_wp2_with (at_builtin; refine wpList_append_own _ rfl _ _ 29 rfl w.heap.size 34 i0 (.slice none 0 0) 1 24 Tryz.underlying29 hi0 hz0 hz1 hz2 rfl (by decide) _ _ _ rfl (hown.alloc _) ⟨wr.heap.size + 1, 0, none⟩ 1 1 [.slice (some ⟨wr.heap.size, 0, none⟩) 79 79] rfl rfl (oneCellAt _ _ _ _ (by simp)) (oneSlice _ _ _) (by unfold maxLen; omega) (by omega) (by simp; omega) ?_)
        intro v' w3 hown' hgrow _
        have HP := Lib.hid (HAX.out.push hgrow hown' (.inr ⟨wr.heap.size, rfl, HU.out⟩))
        have HB3 := Lib.hid ((HBX.out.alloc HBX.out.size _).grown hgrow (by simp; omega) (fun x hx => (HAX.out.top.lt x hx).1))
        clear hown' hgrow hown hmk c0 c1 c2 c3
        go_wp2
        go_roundw
        case rel => exact ⟨i + 1, by omega, by go_num, Lib.hid ⟨_, _, (HP.out.congr (M' := St.mat (St.row ts n)) fun r _ c _ => by by_cases e : r = i <;> simp [e]).lens fun r _ => by by_cases e : r = i <;> simp [e, HZ.out.1]⟩, HB3⟩
        case measure => simp [intOf]; omega
      · obtain ⟨b2, off2, A2, C2, rfl, -, d1, -, -, hrr⟩ := hb.at_ hkl
        have hr2 := hrr.rd
        subst hk
        have f1 : decide ((k : Int) < 0) = false := decide_eq_false (by omega)
        have f2 : decide ((bs.length : Int) ≤ (k : Int)) = false := decide_eq_false (by omega)
        have f3 : decide (bs.length ≤ k) = false := decide_eq_false (by omega)
        by_cases h79 : bs[k].length = 79
        · rw [St.blk_some (t := ⟨lab, cap, bs, lost⟩) hl hkl h79] at H1 H2
          obtain ⟨m, hm⟩ : ∃ m, m = bs[k].length := ⟨_, rfl⟩
          have f4 : ((m : Int) == 79) = true := by rw [hm, h79]; rfl
          have hm0 : 0 < m := by omega
          have hm1 : m ≤ 1000000 := by omega
          have H1' : Hid (St.lens (St.row ts (k : Int)) i = m) := Lib.hid (by rw [H1.out, hm])
          obtain ⟨b3, off3, rfl, -, hcr⟩ := hr2 (by omega)
          rw [← hm] at d1 hcr
          have HRR := Lib.hid hcr
          have hownN : wr.ownsRow wr.heap.size 5 1 (.slice none 0 0) 0 [] := World.ownsRow_nil _ _ _ _
          have HS := Lib.hid H2.out
          rw [hl] at c3
          clear hl hrr hr2 h79 hcr hm hb
          go_wp2_with (at_builtin; refine wpList_append_own _ rfl _ _ 34 rfl wr.heap.size 5 j0 (.int .u8 0) 1 1 Tryz.underlying34 hj0 hy0 hy1 hy2 rfl (by decide) _ _ _ rfl hownN ⟨b3, off3, none⟩ m C2 (cellsOf m (rowL bs[k])) rfl (by rw [cellsOf_len, Nat.mul_one]) (Rd.cells HRR.out) cellsOf_one (by unfold maxLen; omega) (by omega) (Nat.le_refl _) ?_)
          intro v1 w2 hown1 hgrow1 _
          obtain ⟨g, Cg, rfl, hg, hCg, hrg⟩ := RowAt.of_owns hown1 (by omega)
          have hb2 : Below wr.heap.size wr w2 := (Below.refl wr.heap.size wr).grown hgrow1 (Nat.le_refl _) (fun x hx => by simp [Value.ownBlock] at hx)
          have HAX := Lib.hid (HO'.out.old hb2)
          have hown := HAX.out.top
          have HBX := Lib.hid (HB.out.trans (hb2.mono HB.out.size))
          have hlow2 : w.heap.size ≤ w2.heap.size := HBX.out.size
          have HU : Hid (RowAt w2 g m (St.mat (St.row ts (k : Int)) i)) := Lib.hid (by rw [HS.out]; exact hrg)
          clear hown1 hgrow1 hrg hownN c0 c1 c2 c3 d1 hb2
          go_wp2_with (at_builtin; refine wpList_append_own _ rfl _ _ 29 rfl w.heap.size 34 i0 (.slice none 0 0) 1 24 Tryz.underlying29 hi0 hz0 hz1 hz2 rfl (by decide) _ _ _ rfl (hown.alloc _) ⟨w2.heap.size, 0, none⟩ 1 1 [.slice (some ⟨g, 0, none⟩) m Cg] rfl rfl (oneCell _ _ _) (oneSlice _ _ _) (by unfold maxLen; omega) (by omega) (by simp; omega) ?_)
          intro v' w3 hown' hgrow _
          have HP := Lib.hid (HAX.out.push hgrow hown' (.inr ⟨g, rfl, HU.out⟩))
          have HB3 := Lib.hid ((HBX.out.alloc HBX.out.size _).grown hgrow (by simp; omega) (fun x hx => (HAX.out.top.lt x hx).1))
          rw [← H1'.out] at HP
          clear hown' hgrow hown
          go_wp2
          go_roundw
          case rel => exact ⟨i + 1, by omega, by go_num, Lib.hid ⟨_, _, (HP.out.congr (M' := St.mat (St.row ts (k : Int))) fun r _ c _ => by by_cases e : r = i <;> simp [e]).lens fun r _ => by by_cases e : r = i <;> simp [e]⟩, HB3⟩
          case measure => simp [intOf]; omega
        · rw [St.blk_bad (t := ⟨lab, cap, bs, lost⟩) hl hkl h79] at H1 H2
          have f4 : ((bs[k].length : Int) == 79) = false := beq_eq_false_iff_ne.2 (by omega)
          have hown := HO'.out.top
          rw [hl] at c3
          clear hl hrr hr2 h79
          go_wp2_with (at_builtin; refine wpList_append_own _ rfl _ _ 29 rfl w.heap.size 34 i0 (.slice none 0 0) 1 24 Tryz.underlying29 hi0 hz0 hz1 hz2 rfl (by decide) _ _ _ rfl (hown.alloc _) ⟨wr.heap.size, 0, none⟩ 1 1 [.slice none 0 0] rfl rfl (oneCell _ _ _) (oneSlice _ _ _) (by unfold maxLen; omega) (by omega) (by simp; omega) ?_)
          intro v' w3 hown' hgrow _
          have HP := Lib.hid (HO'.out.push hgrow hown' (.inl (Rd.empty _ _ (St.mat (St.row ts (k : Int)) i) _)))
          have HB3 := Lib.hid ((HB.out.alloc HB.out.size _).grown hgrow (by simp; omega) (fun x hx => (HO'.out.top.lt x hx).1))
          rw [show (0 : Nat) = St.lens (St.row ts (k : Int)) i from H1.out.symm] at HP
          clear hown' hgrow hown c0 c1 c2 c3 d1

          go_wp2
          go_roundw
          case rel => exact ⟨i + 1, by omega, by go_num, Lib.hid ⟨_, _, (HP.out.congr (M' := St.mat (St.row ts (k : Int))) fun r _ c _ => by by_cases e : r = i <;> simp [e]).lens fun r _ => by by_cases e : r = i <;> simp [e]⟩, HB3⟩
          case measure => simp [intOf]; omega
    · have e0 : decide (i < ts.length) = false := decide_eq_false hlt
      obtain rfl : i = ts.length := by omega
      obtain ⟨a, c, rfl, hc, hz, hro⟩ := HO'.out.val
      have HF := Lib.hid hro
      have HZ := Lib.hid hz
      clear hro hz HO'
      go_wp2
      go_ret
      exact ⟨a, c, rfl, hc, HZ.out, HF.out, HB.out⟩
end Go.Proofs.YtcokmmanajdioaaGreat
namespace Go.Proofs.YtcokmmanajdioaaGreat
open Go.RowKit

set_option maxHeartbeats 400000 in
theorem refMul_nat (a b : Nat) (w : World) (ha : a < 256) (hb : b < 256) :
    Calls Tryz.prog 59 #[.int .u8 (a : Int), .int .u8 (b : Int)] w fun e w' => e = .returned (.int .u8 ((Gf.refMul a b : Nat) : Int)) ∧ w = w' := by
  go_enter Tryz.func59, Tryz.ntmps59
  go_wp2
  go_loop [5, 6] (fun vx vi => ∃ k x : Nat, k ≤ 8 ∧ x < 32768 ∧ vi = .int .i64 (k : Int) ∧ vx = .int .i64 (x : Int) ∧ Hid (Gf.refUp (8 - k) a b x = Gf.refUp 8 a b 0)) (fun _ vi => 8 - (intOf vi).toNat)
  case atStart => exact ⟨0, 0, by omega, by omega, rfl, rfl, Lib.hid rfl⟩
  case round =>
    obtain ⟨k, x, hk, hx, rfl, rfl, HR'⟩ := hrel
    by_cases hlt : k < 8
    · have hbit := up_bit b k hb
      have hstep : Gf.refUp (8 - k) a b x = Gf.refUp (8 - (k + 1)) a b (if b / 2 ^ k % 2 = 1 then x ^^^ (a * 2 ^ k) else x) := by
        rw [show 8 - k = (8 - (k + 1)) + 1 by omega]
        simp only [Gf.refUp]
        rw [show 7 - (8 - (k + 1)) = k by omega]
      by_cases hb1 : b / 2 ^ k % 2 = 1
      · have hb2 : (bits BinOp.and IntKind.u8 ((b : Int) / 2 ^ k) 1 == 1) = true := by rw [hbit, hb1]; rfl
        rw [if_pos hb1] at hstep
        have HR2 := Lib.hid (hstep.symm.trans HR'.out)
        clear hstep hbit hb1 HR'
        go_wp2
        go_round
        case rel => exact ⟨k + 1, x ^^^ (a * 2 ^ k), by omega, xor_lt15 hx (up_lt a k ha hlt), by go_num, val_i64 (up_xor a k x ha hlt hx), HR2⟩
        case measure => simp [intOf]; omega
      · have hb2 : (bits BinOp.and IntKind.u8 ((b : Int) / 2 ^ k) 1 == 1) = false := by
          rw [hbit, show b / 2 ^ k % 2 = 0 from (Nat.mod_two_eq_zero_or_one _).resolve_right hb1]; rfl
        rw [if_neg hb1] at hstep
        have HR2 := Lib.hid (hstep.symm.trans HR'.out)
        clear hstep hbit hb1 HR'
        go_wp2
        go_round
        case rel => exact ⟨k + 1, x, by omega, hx, by go_num, rfl, HR2⟩
        case measure => simp [intOf]; omega
    · have HX : Hid (x = Gf.refUp 8 a b 0) := by
        have h := HR'.out
        rw [show 8 - k = 0 by omega] at h
        exact Lib.hid h
      clear HR'
      go_wp2
      go_loop [5, 7] (fun vx vi => ∃ n y : Nat, n ≤ 7 ∧ y < 32768 ∧ vi = .int .i64 ((n : Int) + 7) ∧ vx = .int .i64 (y : Int) ∧ Hid (Gf.refDown n y = Gf.refDown 7 x)) (fun _ vi => (intOf vi).toNat)
      case atStart => exact ⟨7, x, by omega, hx, rfl, rfl, Lib.hid rfl⟩
      case round =>
        obtain ⟨n, y, hn, hy, rfl, rfl, HD⟩ := hrel
        by_cases hpos : 0 < n
        · obtain ⟨m, rfl⟩ : ∃ m, n = m + 1 := ⟨n - 1, by omega⟩
          have hbit := down_bit y (m + 1 + 7) hy
          have hstep : Gf.refDown (m + 1) y = Gf.refDown m (if y / 2 ^ (m + 1 + 7) % 2 = 1 then y ^^^ (285 * 2 ^ m) else y) := rfl
          by_cases hb1 : y / 2 ^ (m + 1 + 7) % 2 = 1
          · have hb2 : (bits BinOp.and IntKind.i64 ((y : Int) / 2 ^ (m + 1 + 7)) 1 == 1) = true := by rw [hbit, hb1]; rfl
            rw [if_pos hb1] at hstep
            have HR2 := Lib.hid (hstep.symm.trans HD.out)
            clear hstep hbit hb1 HD
            go_wp2
            go_round
            case rel => exact ⟨m, y ^^^ (285 * 2 ^ m), by omega, xor_lt15 hy (down_lt m (by omega)), by go_num, val_i64 (down_xor m y (by omega) hy), HR2⟩
            case measure => simp [intOf]; omega
          · have hb2 : (bits BinOp.and IntKind.i64 ((y : Int) / 2 ^ (m + 1 + 7)) 1 == 1) = false := by
              rw [hbit, show y / 2 ^ (m + 1 + 7) % 2 = 0 from (Nat.mod_two_eq_zero_or_one _).resolve_right hb1]; rfl
            rw [if_neg hb1] at hstep
            have HR2 := Lib.hid (hstep.symm.trans HD.out)
            clear hstep hbit hb1 HD
            go_wp2
            go_round
            case rel => exact ⟨m, y, by omega, hy, by go_num, rfl, HR2⟩
            case measure => simp [intOf]; omega
        · have HY : Hid (y % 256 = Gf.refMul a b) := by
            have h := HD.out
            rw [show n = 0 by omega] at h
            have h1 : y = Gf.refDown 7 x := h
            rw [h1, HX.out]
            exact Lib.hid rfl
          clear HD HX
          go_wp2
          go_ret
          exact ⟨ret_u8 (by rw [← HY.out]; omega), rfl⟩
theorem refMul_any (a b : Int) (w : World) (ha : 0 ≤ a) (ha' : a < 256) (hb : 0 ≤ b) (hb' : b < 256) :
    Calls Tryz.prog 59 #[.int .u8 a, .int .u8 b] w fun e w' => e = .returned (.int .u8 (gmul a b)) ∧ w = w' := by
  obtain ⟨a, rfl⟩ := Int.eq_ofNat_of_zero_le ha
  obtain ⟨b, rfl⟩ := Int.eq_ofNat_of_zero_le hb
  have h := refMul_nat a b w (by omega) (by omega)
  rw [Gf.refMul_eq (by omega)] at h
  exact h
set_option maxRecDepth 100000 in
set_option maxHeartbeats 400000 in
theorem refInv_any (a : Int) (w : World) (ha : 0 ≤ a) (ha' : a < 256) :
    Calls Tryz.prog 66 #[.int .u8 a] w fun e w' => e = .returned (.int .u8 (ginv a)) ∧ w = w' := by
  go_enter Tryz.func66, Tryz.ntmps66
  go_wp2
  go_loop [3, 4] (fun vx vi => ∃ k : Nat, k ≤ 254 ∧ vi = .int .i64 (k : Int) ∧ vx = .int .u8 ((Gf.pw a.toNat k : Nat) : Int)) (fun _ vi => 254 - (intOf vi).toNat)
  case atStart => exact ⟨0, by omega, rfl, rfl⟩
  case round =>
    obtain ⟨k, hk, rfl, rfl⟩ := hrel
    have hp := Gf.pw_lt (a := a.toNat) (by omega) k
    by_cases hlt : k < 254
    · go_wp2_with fail
      refine (refMul_any _ _ _ (by omega) (by omega) ha ha').mono ?_
      rintro e w' ⟨rfl, rfl⟩
      go_wp2
      go_round
      case rel => exact ⟨k + 1, by omega, by go_num, rfl⟩
      case measure => simp [intOf]; omega
    · have HK : Hid (Gf.pw a.toNat k = Gf.inv a.toNat) := by rw [show k = 254 by omega]; exact Lib.hid rfl
      go_wp2
      go_ret
      exact ⟨ret_u8 (congrArg (fun n : Nat => (n : Int)) HK.out), rfl⟩
end Go.Proofs.YtcokmmanajdioaaGreat
namespace Go.Proofs.YtcokmmanajdioaaGreat
open Go.RowKit Mx

theorem refMul_fe (a b : Fe) (w : World) : Calls Tryz.prog 59 #[.int .u8 (fi a), .int .u8 (fi b)] w fun e w' => e = .returned (.int .u8 (fi (a * b))) ∧ w = w' := by
  rw [← gmul_fi]; exact refMul_any _ _ w (fi_lo a) (fi_hi a) (fi_lo b) (fi_hi b)
theorem refInv_fe (a : Fe) (w : World) : Calls Tryz.prog 66 #[.int .u8 (fi a)] w fun e w' => e = .returned (.int .u8 (fi (inv a))) ∧ w = w' := by
  rw [← ginv_fi]; exact refInv_any _ w (fi_lo a) (fi_hi a)
theorem refMul_st (a b : Fe) (w : World) : Calls Tryz.prog 59 #[.int .u8 (fi a), .int .u8 (fi b)] w fun e w' => e = .returned (.int .u8 (fi (a * b))) ∧ w' = w := (refMul_fe a b w).mono fun _ _ h => ⟨h.1, h.2.symm⟩

theorem refInv_st (a : Fe) (w : World) : Calls Tryz.prog 66 #[.int .u8 (fi a)] w fun e w' => e = .returned (.int .u8 (fi (inv a))) ∧ w' = w := (refInv_fe a w).mono fun _ _ h => ⟨h.1, h.2.symm⟩
end Go.Proofs.YtcokmmanajdioaaGreat
namespace Go.Proofs.YtcokmmanajdioaaGreat
open Go.RowKit Mx

set_option maxHeartbeats 1000000 in
theorem refCauchy_bad (d p : Int) (w : World) (_hd : -9223372036854775808 ≤ d) (_hd' : d ≤ 9223372036854775807) (_hp : -9223372036854775808 ≤ p) (_hp' : p ≤ 9223372036854775807) (h : d < 1 ∨ p < 1 ∨ 255 < p ∨ 255 - p < d) :
    Calls Tryz.prog 58 #[.int .i64 d, .int .i64 p] w (ResM 1 0 0 one w) := by
  by_cases h1 : d < 1
  · clear h
    go_enter Tryz.func58, Tryz.ntmps58
    go_wp2
    go_ret2
    exact ResM.bad w (Below.refl _ _)
  · by_cases h2 : p < 1
    · clear h
      go_enter Tryz.func58, Tryz.ntmps58
      go_wp2
      go_ret2
      exact ResM.bad w (Below.refl _ _)
    · by_cases h5 : 255 < d
      · clear h
        go_enter Tryz.func58, Tryz.ntmps58
        go_wp2
        go_ret2
        exact ResM.bad w (Below.refl _ _)
      · by_cases h3 : 255 < p
        · clear h
          go_enter Tryz.func58, Tryz.ntmps58
          go_wp2
          go_ret2
          exact ResM.bad w (Below.refl _ _)
        · have h4 : 255 < d + p := by omega
          clear h
          go_enter Tryz.func58, Tryz.ntmps58
          go_wp2
          go_ret2
          exact ResM.bad w (Below.refl _ _)
set_option maxHeartbeats 2000000 in
theorem refCauchy_main (d p : Nat) (w : World) (hd0 : 0 < d) (hp0 : 0 < p) (hdp : d + p ≤ 255) :
    Calls Tryz.prog 58 #[.int .i64 (d : Int), .int .i64 (p : Int)] w (ResM 0 p d (cau p) w) := by
  go_enter Tryz.func58, Tryz.ntmps58
  go_wp2
  go_loopw [7, 6] (fun vi vo wr => ∃ i : Nat, i ≤ p ∧ vi = .int .i64 (i : Int) ∧ Hid (∃ G C, OwnA wr w.heap.size vo i d G C (cau p)) ∧ Hid (Below w.heap.size w wr)) (fun vi _ _ => p - (intOf vi).toNat)
  case atStart => exact ⟨0, by omega, rfl, Lib.hid ⟨fun _ => 0, fun _ => 0, OwnA.start _ _ _ _ _ _⟩, Lib.hid (Below.refl _ _)⟩
  case round =>
    obtain ⟨i, hi, rfl, HO, HB⟩ := hrel
    obtain ⟨G1, Cp1, hO⟩ := HO.out
    have HO' := Lib.hid hO
    clear hO HO
    obtain ⟨wo, rfl⟩ : ∃ x, x = wr := ⟨wr, rfl⟩
    by_cases hlt : i < p
    · go_wp2
      go_loopw [9, 8] (fun vj vr wq => ∃ j : Nat, j ≤ d ∧ vj = .int .i64 (j : Int) ∧ Hid (wq.ownsRow wo.heap.size 5 1 vr j (cellsOf j (cau p i))) ∧ Hid (Below wo.heap.size wo wq)) (fun vj _ _ => d - (intOf vj).toNat)
      case atStart => exact ⟨0, by omega, rfl, Lib.hid (World.ownsRow_nil _ _ _ _), Lib.hid (Below.refl _ _)⟩
      case round =>
        obtain ⟨j, hj, rfl, HO2, HB2⟩ := hrel
        by_cases hlt2 : j < d
        · have HCI : Hid (bits BinOp.xor IntKind.u8 (i : Int) ((p : Int) + (j : Int)) = fi (el i + el (p + j))) := by
            have hx := xor_fi (el i) (el (p + j))
            rw [fi_el (by omega), fi_el (by omega)] at hx
            exact Lib.hid (by rw [← hx]; congr 1)
          obtain ⟨i0, hi0, hz0, hz1, hz2⟩ := info_parts infoByte
          have hlow : wo.heap.size ≤ wr.heap.size := HB2.out.size
          have hown := HO2.out
          go_wp2_with fail
          rw [HCI.out]
          refine (refInv_fe _ _).mono ?_
          rintro e w' ⟨rfl, rfl⟩
          go_wp2_with (at_builtin; refine wpList_append_own _ rfl _ _ 34 rfl wo.heap.size 5 i0 (.int .u8 0) 1 1 Tryz.underlying34 hi0 hz0 hz1 hz2 rfl (by decide) _ _ _ rfl (hown.alloc _) ⟨wr.heap.size, 0, none⟩ 1 1 [.int .u8 (fi (inv (el i + el (p + j))))] rfl rfl (oneCell _ _ _) (oneByte _) (by unfold maxLen; omega) (by omega) (by simp; omega) ?_)
          intro v' w3 hown' hgrow _
          have HO3 : Hid (w3.ownsRow wo.heap.size 5 1 v' (j + 1) (cellsOf (j + 1) (cau p i))) := by
            rw [← cellsOf_succ]; exact Lib.hid hown'
          have HB3 := Lib.hid ((HB2.out.alloc hlow _).grown hgrow (by simp; omega) (fun x hx => (HO2.out.lt x hx).1))
          clear hown' hgrow hown
          go_wp2
          go_roundw
          case rel => exact ⟨j + 1, by omega, by go_num, HO3, HB3⟩
          case measure => simp [intOf]; omega
        · obtain ⟨g, c, rfl, hg, hc, hr⟩ := RowAt.of_owns (show wr.ownsRow wo.heap.size 5 1 _ d (cellsOf d (cau p i)) by
            have hjd : j = d := by omega
            have hh := HO2.out
            rw [hjd] at hh
            exact hh) hd0
          have HRW := Lib.hid hr
          have HA := Lib.hid (HO'.out.old HB2.out)
          obtain ⟨i0, hi0, hz0, hz1, hz2⟩ := info_parts infoRow
          have hown := HA.out.top
          have HX := Lib.hid (HB.out.trans (HB2.out.mono HB.out.size))
          have hlow : w.heap.size ≤ wr.heap.size := HX.out.size
          clear hr HO2
          go_wp2_with (at_builtin; refine wpList_append_own _ rfl _ _ 29 rfl w.heap.size 34 i0 (.slice none 0 0) 1 24 Tryz.underlying29 hi0 hz0 hz1 hz2 rfl (by decide) _ _ _ rfl (hown.alloc _) ⟨wr.heap.size, 0, none⟩ 1 1 [.slice (some ⟨g, 0, none⟩) d c] rfl rfl (oneCell _ _ _) (oneSlice _ _ _) (by unfold maxLen; omega) (by omega) (by simp; omega) ?_)
          intro v' w3 hown' hgrow _
          have HP := Lib.hid (HA.out.push hgrow hown' HRW.out (fun r hr => by have := (HO'.out.rows r hr).lt; omega) (Nat.le_trans HB.out.size hg) hc)
          have HB3 := Lib.hid ((HX.out.alloc hlow _).grown hgrow (by simp; omega) (fun x hx => (HA.out.top.lt x hx).1))
          clear hown' hgrow hown
          go_wp2
          go_roundw
          case rel => exact ⟨i + 1, by omega, by go_num, Lib.hid ⟨_, _, HP.out.congr (M' := cau p) fun r _ c _ => by by_cases e : r = i <;> simp [e]⟩, HB3⟩
          case measure => simp [intOf]; omega
    · obtain rfl : i = p := by omega
      obtain ⟨b, cp, rfl, _, _, hK⟩ := HO'.out.own hp0
      have HK := Lib.hid hK
      clear hK
      go_wp2
      go_ret2
      exact ⟨_, _, rfl, HK.out.rdAll (Nat.le_refl _), HB.out⟩
end Go.Proofs.YtcokmmanajdioaaGreat
