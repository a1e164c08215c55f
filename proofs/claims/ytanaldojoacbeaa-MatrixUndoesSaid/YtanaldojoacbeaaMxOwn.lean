/- Matrices that package matrix makes: copies, units, and what clearColumn does to two of them. -/
import Derived.Test.YtanaldojoacbeaaMxOps
import Derived.OwnWalk
import Derived.Lib.SliceRun
namespace Go.Proofs.Ytanaldojoacbeaa
open Go.RowKit Mx

theorem infoByte : (Try.prog.info? 5).map (fun i => (i.zero, i.size, i.bytes)) = some (some (.int .u8 0), 1, 1) := by kernel_rfl
theorem infoRow : (Try.prog.info? 23).map (fun i => (i.zero, i.size, i.bytes)) = some (some (.slice none 0 0), 1, 24) := by kernel_rfl

/-- a new row of n elements r -/
def FreshRow (n : Nat) (r : Nat → Fe) (w : World) (e : Ending) (w' : World) : Prop :=
  ∃ g C, e = .returned (.slice (some ⟨g, 0, none⟩) n C) ∧ w.heap.size ≤ g ∧ n ≤ C ∧ RowAt w' g n r ∧ Below w.heap.size w w'

def cellsOf (n : Nat) (r : Nat → Fe) : List Value := (List.range n).map fun j => .int .u8 (fi (r j))
theorem cellsOf_len (n : Nat) (r : Nat → Fe) : (cellsOf n r).length = n := by simp [cellsOf]
theorem cellsOf_get {n : Nat} {r : Nat → Fe} {j : Nat} (hj : j < n) : (cellsOf n r)[j]? = some (.int .u8 (fi (r j))) := by simp [cellsOf, hj]
theorem cellsOf_some {n : Nat} {r : Nat → Fe} {j : Nat} {u : Value} (h : (cellsOf n r)[j]? = some u) : j < n ∧ u = .int .u8 (fi (r j)) := by
  have hj : j < n := by
    rcases Nat.lt_or_ge j n with h' | h'
    · exact h'
    · rw [List.getElem?_eq_none (by rw [cellsOf_len]; exact h')] at h; cases h
  rw [cellsOf_get hj] at h
  exact ⟨hj, (Option.some.inj h).symm⟩
theorem add_at (b off j : Nat) : (⟨b, off, none⟩ : Addr).add j = ⟨b, off + j, none⟩ := by
  unfold Addr.add
  by_cases h : j = 0 <;> simp [h]
theorem cellsOf_one {n : Nat} {r : Nat → Fe} : ∀ u ∈ cellsOf n r, u.oneCell' = true := by
  intro u hu
  simp only [cellsOf, List.mem_map] at hu
  obtain ⟨j, _, rfl⟩ := hu
  rfl
theorem Rd.cells {w : World} {n : Nat} {r : Nat → Fe} {b off : Nat} (hc : ∀ j, j < n → w.cell? ⟨b, off + j, none⟩ = some (.int .u8 (fi (r j)))) : ∀ j u, (cellsOf n r)[j]? = some u → w.cell? ((⟨b, off, none⟩ : Addr).add j) = some u := by
  intro j u hu
  obtain ⟨hj, rfl⟩ := cellsOf_some hu
  rw [add_at]; exact hc j hj
theorem RowAt.of_owns {w : World} {base n : Nat} {r : Nat → Fe} {v : Value} (h : w.ownsRow base 5 1 v n (cellsOf n r)) (hn : 0 < n) :
    ∃ g C, v = .slice (some ⟨g, 0, none⟩) n C ∧ base ≤ g ∧ n ≤ C ∧ RowAt w g n r := by
  obtain ⟨g, C, h1, h2, h3, h4⟩ := RowV.of_owns h hn
  exact ⟨g, C, h1, h2, h3, RowV.congr h4 fun j hj => by rw [List.getD_eq_getElem?_getD, cellsOf_get hj]; rfl⟩

set_option maxHeartbeats 1000000 in
theorem clone_any (A : Option Addr) (n C : Nat) (r : Nat → Fe) (G : Nat → Prop) (w : World) (hn0 : 0 < n) (hn : n ≤ 255) (h : Rd w A n r G) :
    Calls Try.prog 34 #[.slice A n C] w (FreshRow n r w) := by
  obtain ⟨b, off, rfl, _, hc⟩ := h hn0
  obtain ⟨i0, hi, hz0, hz1, hz2⟩ := info_parts infoByte
  have hown : (w.alloc (.cells #[] 5)).ownsRow w.heap.size 5 1 (.slice (some ⟨w.heap.size, 0, none⟩) 0 0) 0 [] := World.ownsRow_made w #[] 0 (Nat.le_refl _) (by decide) rfl
  have hc' : ∀ j, j < n → (w.alloc (.cells #[] 5)).cell? ⟨b, off + j, none⟩ = some (.int .u8 (fi (r j))) := fun j hj => by
    rw [World.cell?_alloc_lt w _ _ (World.block_lt_of_cell? _ _ (hc j hj))]; exact hc j hj
  have HC := Lib.hid hc'
  clear hc hc' h
  have hnil : ∀ (w : World) (a : Option Addr) (n c n' c' : Nat), (binOp .eql 23 (.slice a n c) (.slice none n' c')).run Try.prog w = .ok (.bool a.isNone) w := fun w a n c n' c' => Lib.run_eql_slice_nil w _ _ a n c n' c' Try.underlying23
  go_enter Try.func34, Try.ntmps34
  go_wp2_with (at_builtin; refine wpList_append_own _ rfl _ _ 23 rfl w.heap.size 5 i0 (.int .u8 0) 1 1 Try.underlying23 hi hz0 hz1 hz2 rfl (by decide) _ _ _ rfl hown ⟨b, off, none⟩ n C (cellsOf n r) rfl (by rw [cellsOf_len, Nat.mul_one]) (Rd.cells HC.out) cellsOf_one (by unfold maxLen; omega) (by omega) (by simp) ?_)
  intro v' w' hown' hgrow _
  obtain ⟨g, C', rfl, hg, hC, hr⟩ := RowAt.of_owns hown' hn0
  have HB := Lib.hid (((Below.refl w.heap.size w).alloc (Nat.le_refl _) _).grown hgrow (by simp) (fun k hk => by simp [Value.ownBlock] at hk; omega))
  clear hown' hgrow hown HC hnil
  go_wp2
  go_ret
  exact ⟨g, C', rfl, hg, hC, hr, HB.out⟩

/-- a new matrix of n rows of m elements -/
def FreshMat (n m : Nat) (M : Mat) (w : World) (e : Ending) (w' : World) : Prop :=
  ∃ b G C, e = .returned (.slice (some ⟨b, 0, none⟩) n n) ∧ w.heap.size ≤ b ∧ OwnK w' w.heap.size b n n m G C M ∧ Below w.heap.size w w'

set_option maxHeartbeats 1000000 in
theorem copied_any (A : Option Addr) (n C m : Nat) (M : Mat) (w : World) (hn0 : 0 < n) (hn : n ≤ 255) (hm0 : 0 < m) (hm : m ≤ 255) (G0 : Nat → Prop) (h : RdM w A n (fun _ => m) M G0) :
    Calls Try.prog 27 #[.slice A n C] w (FreshMat n m M w) := by
  have H := Lib.hid h
  clear h
  have hmk := run_make_row' (P := Try.prog) 22 23 (.slice none 0 0) 24 Try.underlying22 infoRow rfl .i64 .i64 n (by omega) (by omega)
  go_enter Try.func27, Try.ntmps27
  go_wp2
  clear hmk
  go_loopw [11] (fun vi wr => ∃ k : Nat, k ≤ n ∧ vi = .int .i64 (k : Int) ∧ Hid (∃ G C, OwnK wr w.heap.size w.heap.size n k m G C M) ∧ Hid (Below w.heap.size w wr)) (fun vi _ => n - (intOf vi).toNat)
  case atStart => exact ⟨0, by omega, rfl, Lib.hid ⟨fun _ => 0, fun _ => 0, OwnK.start w _ n m _ _ M⟩, Lib.hid ((Below.refl _ _).alloc (Nat.le_refl _) _)⟩
  case round =>
    obtain ⟨k, hk, rfl, HO, HB⟩ := hrel
    obtain ⟨G, Cp, hO⟩ := HO.out
    have HO' := Lib.hid hO
    clear hO HO
    by_cases hlt : k < n
    · obtain ⟨b, off, A', C', rfl, _, hck, hrk⟩ := (H.out.old HB.out).row hlt
      have HR := Lib.hid hrk
      clear hrk
      go_wp2_with fail
      refine (clone_any A' m C' (M k) _ _ hm0 hm HR.out).mono ?_
      rintro e w1 ⟨g, c, rfl, hg, hc, hr, hb⟩
      have hct := (HO'.out.old hb).top.cell hlt
      rw [if_neg (by omega)] at hct
      have hft := (HO'.out.old hb).top.frozen k
      have HP := Lib.hid (HO'.out.push hb hg HB.out.size hc hr)
      have HB2 := Lib.hid ((HB.out.trans (hb.mono HB.out.size)).setCell (p := ⟨w.heap.size, k, none⟩) (Nat.le_refl _) (.slice (some ⟨g, 0, none⟩) m c))
      clear hr hb hg hc HR
      go_wp2
      go_roundw
      case rel => exact ⟨k + 1, by omega, by go_num, Lib.hid ⟨_, _, HP.out.congr (M' := M) fun i _ j _ => by by_cases e : i = k <;> simp [e]⟩, HB2⟩
      case measure => simp [intOf]; omega
    · obtain rfl : k = n := by omega
      go_wp2
      go_ret
      exact ⟨w.heap.size, G, Cp, rfl, Nat.le_refl _, HO'.out, HB.out⟩

set_option maxHeartbeats 1000000 in
theorem unit_any (n : Nat) (w : World) (hn0 : 0 < n) (hn : n ≤ 255) : Calls Try.prog 28 #[.int .i64 (n : Int)] w (FreshMat n n one w) := by
  have hmk := run_make_row' (P := Try.prog) 22 23 (.slice none 0 0) 24 Try.underlying22 infoRow rfl .i64 .i64 n (by omega) (by omega)
  have HK := Lib.hid (run_make_row' (P := Try.prog) 23 5 (.int .u8 0) 1 Try.underlying23 infoByte rfl .i64 .i64 n (by omega) (by omega))
  go_enter Try.func28, Try.ntmps28
  go_wp2
  clear hmk
  go_loopw [9] (fun vi wr => ∃ k : Nat, k ≤ n ∧ vi = .int .i64 (k : Int) ∧ Hid (∃ G C, OwnK wr w.heap.size w.heap.size n k n G C one) ∧ Hid (Below w.heap.size w wr)) (fun vi _ => n - (intOf vi).toNat)
  case atStart => exact ⟨0, by omega, rfl, Lib.hid ⟨fun _ => 0, fun _ => 0, OwnK.start w _ n n _ _ one⟩, Lib.hid ((Below.refl _ _).alloc (Nat.le_refl _) _)⟩
  case round =>
    obtain ⟨k, hk, rfl, HO, HB⟩ := hrel
    obtain ⟨G, Cp, hO⟩ := HO.out
    have HO' := Lib.hid hO
    clear hO HO
    by_cases hlt : k < n
    · have hb1 : Below wr.heap.size wr (wr.alloc (.cells (madeCells #[.int .u8 0] n) 5)) := (Below.refl _ _).alloc (Nat.le_refl _) _
      have hO1 := HO'.out.old hb1
      have hct := hO1.top.cell hlt
      rw [if_neg (by omega)] at hct
      have hft := hO1.top.frozen k
      have hP := HO'.out.push hb1 (Nat.le_refl _) HB.out.size (Nat.le_refl n) (RowAt.made wr n)
      have hct2 := hP.top.cell hlt
      have hrk := hP.rows k (by omega)
      simp only [if_true, show k < k + 1 by omega] at hct2 hrk
      have hc3 := hrk.cell hlt
      have hf3 := hrk.frozen k
      have HT := Lib.hid (hP.turn (i := k) (by omega) ((Kp.refl _ _).setCell (p := ⟨wr.heap.size, k, none⟩) (by simp) (.int .u8 (fi 1))) (by simpa using hrk.set k 1))
      have HB2 := Lib.hid (((HB.out.trans (hb1.mono HB.out.size)).setCell (p := ⟨w.heap.size, k, none⟩) (Nat.le_refl _) (.slice (some ⟨wr.heap.size, 0, none⟩) n n)).setCell (p := ⟨wr.heap.size, k, none⟩) HB.out.size (.int .u8 (fi 1)))
      have hmk := HK.out
      clear hb1 hO1 hP hrk
      go_wp2
      go_roundw
      case rel => exact ⟨k + 1, by omega, by go_num, Lib.hid ⟨_, _, HT.out.congr (M' := one) fun i hi j hj => by
        by_cases e : i = k
        · simp only [e, if_true]; unfold one
          by_cases e' : j = k
          · rw [if_pos e', if_pos e'.symm]
          · rw [if_neg e', if_neg (fun h => e' h.symm)]
        · simp [e]⟩, HB2⟩
      case measure => simp [intOf]; omega
    · obtain rfl : k = n := by omega
      go_wp2
      go_ret
      exact ⟨w.heap.size, G, Cp, rfl, Nat.le_refl _, HO'.out, HB.out⟩
end Go.Proofs.Ytanaldojoacbeaa
