/- What the document's own MulMatrix and Cauchy answer, whatever they are given. -/
import Derived.Test.YtanaldojoacbeaaMxRefB
namespace Go.Proofs.Ytanaldojoacbeaa
open Go.RowKit Mx

/-- the rows as the cells of what holds them -/
def tops (k m : Nat) (G C : Nat → Nat) : List Value := (List.range k).map fun i => .slice (some ⟨G i, 0, none⟩) m (C i)
theorem tops_len (k m : Nat) (G C : Nat → Nat) : (tops k m G C).length = k := by simp [tops]
theorem tops_get {k m : Nat} {G C : Nat → Nat} {j : Nat} (hj : j < k) : (tops k m G C)[j]? = some (.slice (some ⟨G j, 0, none⟩) m (C j)) := by simp [tops, hj]
/-- a matrix that is made by append, row behind row -/
structure OwnA (w : World) (B : Nat) (v : Value) (k m : Nat) (G C : Nat → Nat) (M : Mat) : Prop where
  top : w.ownsRow B 23 1 v k (tops k m G C)
  cap : ∀ i, i < k → m ≤ C i
  rows : ∀ i, i < k → RowAt w (G i) m (M i)
  inj : ∀ i j, i < k → j < k → G i = G j → i = j
  lo : ∀ i, i < k → B ≤ G i
theorem owns_ne {w : World} {B : Nat} {t t' : TypeId} {v : Value} {k g n : Nat} {xs : List Value} {V : Nat → Value} (h : w.ownsRow B t 1 v k xs) (h' : RowV w t' g n V) (ht : t ≠ t') : some g ≠ v.ownBlock := by
  rcases h.2 with ⟨rfl, _⟩ | ⟨g', cap, cur, rfl, _, hh, _⟩
  · simp [Value.ownBlock]
  · intro e
    simp only [Value.ownBlock, Option.some.injEq] at e
    subst e
    obtain ⟨c, hb, _, _⟩ := h'
    rw [hh] at hb
    injection hb with hb
    injection hb with _ e
    exact ht e
namespace OwnA
variable {w w' : World} {B k m : Nat} {v v' : Value} {G C : Nat → Nat} {M M' : Mat}
theorem start (w : World) (B m : Nat) (G C : Nat → Nat) (M : Mat) : OwnA w B (.slice none 0 0) 0 m G C M :=
  ⟨World.ownsRow_nil _ _ _ _, fun i hi => absurd hi (by omega), fun i hi => absurd hi (by omega), fun i j hi => absurd hi (by omega), fun i hi => absurd hi (by omega)⟩
theorem old (h : OwnA w B v k m G C M) (hb : Below w.heap.size w w') : OwnA w' B v k m G C M :=
  ⟨h.top.kept (row := none) ⟨hb.os, hb.tape, hb.output, hb.size, fun i hi _ => hb.block i hi⟩ (by cases hv : v.ownBlock <;> simp), h.cap, fun i hi => (h.rows i hi).old hb, h.inj, h.lo⟩
theorem congr (h : OwnA w B v k m G C M) (e : ∀ i, i < k → ∀ j, j < m → M i j = M' i j) : OwnA w B v k m G C M' :=
  ⟨h.top, h.cap, fun i hi => (h.rows i hi).congr (e i hi), h.inj, h.lo⟩
/-- a row is appended -/
theorem push (h : OwnA w B v k m G C M) {o : Obj} (hg : (w.alloc o).grownBy w' v.ownBlock) {g c : Nat} {f : Nat → Fe} (hown : w'.ownsRow B 23 1 v' (k + 1) (tops k m G C ++ [.slice (some ⟨g, 0, none⟩) m c]))
    (hr : RowAt w g m f) (hne : ∀ i, i < k → G i ≠ g) (hB : B ≤ g) (hc : m ≤ c) : OwnA w' B v' (k + 1) m (fun i => if i = k then g else G i) (fun i => if i = k then c else C i) (fun i => if i = k then f else M i) := by
  have keep : ∀ {g' : Nat} {f' : Nat → Fe}, RowAt w g' m f' → RowAt w' g' m f' := fun {g' f'} h' =>
    h'.of_block ((hg.block g' (by have := h'.lt; simp; omega) (owns_ne h.top h' (by decide))).trans (Below.heap_alloc _ _ _ h'.lt))
  have ht : tops k m G C ++ [.slice (some ⟨g, 0, none⟩) m c] = tops (k + 1) m (fun i => if i = k then g else G i) (fun i => if i = k then c else C i) := by
    unfold tops
    rw [List.range_succ, List.map_append]
    congr 1
    · exact List.map_congr_left fun i hi => by
        have := List.mem_range.1 hi
        simp only [show ¬ i = k by omega, if_false]
    · simp
  rw [ht] at hown
  refine ⟨hown, fun i hi => ?_, fun i hi => ?_, fun i j hi hj e => ?_, fun i hi => ?_⟩
  · by_cases e : i = k
    · simp only [e, if_true]; exact hc
    · simp only [e, if_false]; exact h.cap i (by omega)
  · by_cases e : i = k
    · simp only [e, if_true]; exact keep hr
    · simp only [e, if_false]; exact keep (h.rows i (by omega))
  · by_cases e1 : i = k <;> by_cases e2 : j = k
    · omega
    · simp only [e1, e2, if_true, if_false] at e
      exact absurd e.symm (hne j (by omega))
    · simp only [e1, e2, if_true, if_false] at e
      exact absurd e (hne i (by omega))
    · simp only [e1, e2, if_false] at e
      exact h.inj i j (by omega) (by omega) e
  · by_cases e : i = k
    · simp only [e, if_true]; exact hB
    · simp only [e, if_false]; exact h.lo i (by omega)
/-- as a matrix with its rows laid -/
theorem own (h : OwnA w B v k m G C M) (hk : 0 < k) : ∃ b cp, v = .slice (some ⟨b, 0, none⟩) k cp ∧ B ≤ b ∧ k ≤ cp ∧ OwnK w B b k k m G C M := by
  obtain ⟨b, cp, h1, h2, h3, h4⟩ := RowV.of_owns h.top hk
  exact ⟨b, cp, h1, h2, h3, h4.congr fun j hj => by rw [if_pos hj, List.getD_eq_getElem?_getD, tops_get hj]; rfl, h.cap, h.rows, h.inj, h.lo⟩
end OwnA
theorem oneCell (w : World) (x : Value) (t : TypeId) : ∀ j u, [x][j]? = some u → (w.alloc (.cells #[x] t)).cell? ((⟨w.heap.size, 0, none⟩ : Addr).add j) = some u := by
  intro j u hj
  match j, hj with
  | 0, hj => simp at hj; subst hj; simp [Addr.add]
theorem oneSlice (a : Option Addr) (n c : Nat) : ∀ u ∈ [Value.slice a n c], u.oneCell' = true := by
  intro u hu; simp at hu; subst hu; rfl
theorem oneByte (x : Int) : ∀ u ∈ [Value.int .u8 x], u.oneCell' = true := by
  intro u hu; simp at hu; subst hu; rfl

set_option maxHeartbeats 4000000 in
theorem refMul_main (A : Option Addr) (n C m : Nat) (M : Mat) (G : Nat → Prop) (A' : Option Addr) (C' p : Nat) (M' : Mat) (G' : Nat → Prop) (w : World) (hn0 : 0 < n) (hn : n ≤ 255) (hm0 : 0 < m) (hm : m ≤ 255) (hp0 : 0 < p) (hp : p ≤ 255)
    (h : RdM w A n (fun _ => m) M G) (h' : RdM w A' m (fun _ => p) M' G') :
    Calls Try.prog 11 #[.slice A n C, .slice A' m C'] w (ResM 0 n p (mm m M M') w) := by
  have hR : rightB n (fun _ => m) = true := rightB_true.2 ⟨hn0, hn, hm0, hm, fun _ _ => rfl⟩
  have hR' : rightB m (fun _ => p) = true := rightB_true.2 ⟨hm0, hm, hp0, hp, fun _ _ => rfl⟩
  have H0 := Lib.hid h
  have H0' := Lib.hid h'
  have HR := Lib.hid hR
  have HR' := Lib.hid hR'
  clear h h' hR hR'
  have HMK := Lib.hid (run_make_row' (P := Try.prog) 23 5 (.int .u8 0) 1 Try.underlying23 infoByte rfl .i64 .i64 p (by omega) (by omega))
  go_enter Try.func11, Try.ntmps11
  go_wp2_with fail
  refine (refRight_is _ n C _ M _ _ true (by unfold maxLen; omega) H0.out HR.out).mono ?_
  rintro e w1 ⟨rfl, hB0⟩
  have H1 := Lib.hid (H0.out.old hB0)
  have H1' := Lib.hid (H0'.out.old hB0)
  have HB0 := Lib.hid hB0
  clear hB0 H0 H0'
  go_wp2_with fail
  refine (refRight_is _ m C' _ M' _ _ true (by unfold maxLen; omega) H1'.out HR'.out).mono ?_
  rintro e w2 ⟨rfl, hB1⟩
  obtain ⟨b0, off0, A0, C0, rfl, _, hc0, _⟩ := (H1.out.old hB1).row hn0
  rw [Nat.add_zero] at hc0
  obtain ⟨b1, off1, A1, C1, rfl, _, hc1, _⟩ := (H1'.out.old hB1).row hm0
  rw [Nat.add_zero] at hc1
  have H := Lib.hid (H1.out.old hB1).in_
  have H' := Lib.hid (H1'.out.old hB1).in_
  have HB1 := Lib.hid (HB0.out.trans (hB1.mono HB0.out.size))
  have HC1 := Lib.hid hc1
  clear hB1 H1 H1' HB0 HR HR' hc1
  go_wp2
  clear hc0
  go_loopw [7, 6] (fun vi vo wr => ∃ i : Nat, i ≤ n ∧ vi = .int .i64 (i : Int) ∧ Hid (∃ G C, OwnA wr w2.heap.size vo i p G C (mm m M M')) ∧ Hid (Below w2.heap.size w2 wr)) (fun vi _ _ => n - (intOf vi).toNat)
  case atStart => exact ⟨0, by omega, rfl, Lib.hid ⟨fun _ => 0, fun _ => 0, OwnA.start _ _ _ _ _ _⟩, Lib.hid (Below.refl _ _)⟩
  case round =>
    obtain ⟨i, hi, rfl, HO, HB⟩ := hrel
    obtain ⟨G1, Cp1, hO⟩ := HO.out
    have HO' := Lib.hid hO
    clear hO HO
    obtain ⟨wo, rfl⟩ : ∃ x, x = wr := ⟨wr, rfl⟩
    by_cases hlt : i < n
    · have hc1 := (HB.out.cell (World.block_lt_of_cell? _ _ HC1.out)).trans HC1.out
      have hmk := HMK.out
      go_wp2
      clear hmk hc1
      go_loopw [9] (fun vj wq => ∃ j : Nat, j ≤ p ∧ vj = .int .i64 (j : Int) ∧ Hid (RowAt wq wo.heap.size p (part (mm m M M' i) j 0)) ∧ Hid (Below wo.heap.size wo wq)) (fun vj _ => p - (intOf vj).toNat)
      case atStart => exact ⟨0, by omega, rfl, Lib.hid ((RowAt.made wo p).congr fun j _ => by unfold part; rw [if_neg (by omega)]; split <;> rfl), Lib.hid ((Below.refl _ _).alloc (Nat.le_refl _) _)⟩
      case round =>
        obtain ⟨j, hj, rfl, HO2, HB2⟩ := hrel
        by_cases hlt2 : j < p
        · go_wp2
          go_loopw [10] (fun vk wq => ∃ k : Nat, k ≤ m ∧ vk = .int .i64 (k : Int) ∧ Hid (RowAt wq wo.heap.size p (part (mm m M M' i) j (sm k fun t => M i t * M' t j))) ∧ Hid (Below wo.heap.size wo wq)) (fun vk _ => m - (intOf vk).toNat)
          case atStart => exact ⟨0, by omega, rfl, HO2, HB2⟩
          case round =>
            obtain ⟨k, hk, rfl, HO3, HB3⟩ := hrel
            clear HO2 HB2
            have HB4 := Lib.hid (HB.out.trans (HB3.out.mono HB.out.size))
            by_cases hlt3 : k < m
            · obtain ⟨b2, off2, Ai, Ci, e, _, d0, hri⟩ := (H.out.below HB4.out).row hlt
              obtain ⟨rfl, rfl⟩ : b0 = b2 ∧ off0 = off2 := by simpa using e
              obtain ⟨b3, off3, rfl, _, d1⟩ := hri.at hlt3
              obtain ⟨b4, off4, Ak, Ck, e', _, d2, hrk⟩ := (H'.out.below HB4.out).row hlt3
              obtain ⟨rfl, rfl⟩ : b1 = b4 ∧ off1 = off4 := by simpa using e'
              obtain ⟨b5, off5, rfl, _, d3⟩ := hrk.at hlt2
              have d4 := HO3.out.cell hlt2
              rw [part_at] at d4
              have f4 := HO3.out.frozen j
              have HX := Lib.hid (xor_fi (sm k fun t => M i t * M' t j) (M i k * M' k j))
              clear e e' hri hrk
              go_wp2
              refine wp_region_still_tail 23 (by kernel_rfl) (by kernel_rfl) ?_
              simp only [List.take_succ_cons, List.take_zero, List.drop_succ_cons, List.drop_zero]
              repeat (first | still_step | still_call (refMul_st _ _ _))
              refine wpStill_nil ?_
              rw [HX.out]
              change wpList _ _ _ _ _ wr.drew
              go_wp2
              go_roundw
              case rel => exact ⟨k + 1, by omega, by go_num, Lib.hid ((HO3.out.set j ((sm k fun t => M i t * M' t j) + M i k * M' k j)).congr fun x _ => part_set _ _ _ _ _), Lib.hid ((HB3.out.drew).setCell (p := ⟨wo.heap.size, j, none⟩) (Nat.le_refl _) _)⟩
              case measure => simp [intOf]; omega
            · have HO5 : Hid (RowAt wr wo.heap.size p (part (mm m M M' i) (j + 1) 0)) := by
                have hkm : k = m := by omega
                have hh := HO3.out
                rw [hkm] at hh
                exact Lib.hid (hh.congr fun x _ => part_next (mm m M M' i) j x)
              clear HO3
              go_wp2
              go_roundw
              case rel => exact ⟨j + 1, by omega, by go_num, HO5, HB3⟩
              case measure => simp [intOf]; omega
        · have HO5 : Hid (RowAt wr wo.heap.size p (mm m M M' i)) := Lib.hid (HO2.out.congr fun x hx => by unfold part; rw [if_pos (by omega)])
          have HA := Lib.hid (HO'.out.old HB2.out)
          obtain ⟨i0, hi0, hz0, hz1, hz2⟩ := info_parts infoRow
          have hown := HA.out.top
          have HX := Lib.hid (HB.out.trans (HB2.out.mono HB.out.size))
          have hlow : w2.heap.size ≤ wr.heap.size := HX.out.size
          go_wp2_with (at_builtin; refine wpList_append_own _ rfl _ _ 22 rfl w2.heap.size 23 i0 (.slice none 0 0) 1 24 Try.underlying22 hi0 hz0 hz1 hz2 rfl (by decide) _ _ _ rfl (hown.alloc _) ⟨wr.heap.size, 0, none⟩ 1 1 [.slice (some ⟨wo.heap.size, 0, none⟩) p p] rfl rfl (oneCell _ _ _) (oneSlice _ _ _) (by unfold maxLen; omega) (by omega) (by simp; omega) ?_)
          intro v' w3 hown' hgrow _
          have HP := Lib.hid (HA.out.push hgrow hown' HO5.out (fun r hr => by have := (HO'.out.rows r hr).lt; omega) HB.out.size (Nat.le_refl p))
          have HB3 := Lib.hid ((HX.out.alloc hlow _).grown hgrow (by simp; omega) (fun x hx => (HA.out.top.lt x hx).1))
          clear hown' hgrow hown
          go_wp2
          go_roundw
          case rel => exact ⟨i + 1, by omega, by go_num, Lib.hid ⟨_, _, HP.out.congr (M' := mm m M M') fun r _ c _ => by by_cases e : r = i <;> simp [e]⟩, HB3⟩
          case measure => simp [intOf]; omega
    · obtain rfl : i = n := by omega
      obtain ⟨b, cp, rfl, _, _, hK⟩ := HO'.out.own hn0
      have HK := Lib.hid hK
      clear hK
      go_wp2
      go_ret2
      exact ⟨_, _, rfl, HK.out.rdAll (Nat.le_refl _), HB1.out.trans (HB.out.mono HB1.out.size)⟩
end Go.Proofs.Ytanaldojoacbeaa
