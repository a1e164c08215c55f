/- Matrices that package matrix makes: copies and units. -/
import Derived.Test.YtelkeoopfejgnaaMxWords
namespace Go.Proofs.Ytelkeoopfejgnaa
open Go.RowKit Mx

set_option maxHeartbeats 1000000 in
theorem clone_any (A : Option Addr) (n C : Nat) (r : Nat → Fe) (G : Nat → Prop) (w : World) (hn0 : 0 < n) (hn : n ≤ 1000000) (h : Rd w A n r G) :
    Calls Try.prog 33 #[.slice A n C] w (FreshRow n r w) := by
  obtain ⟨b, off, rfl, _, hc⟩ := h hn0
  obtain ⟨i0, hi, hz0, hz1, hz2⟩ := info_parts infoByte
  have hown : (w.alloc (.cells #[] 5)).ownsRow w.heap.size 5 1 (.slice (some ⟨w.heap.size, 0, none⟩) 0 0) 0 [] := World.ownsRow_made w #[] 0 (Nat.le_refl _) (by decide) rfl
  have hc' : ∀ j, j < n → (w.alloc (.cells #[] 5)).cell? ⟨b, off + j, none⟩ = some (.int .u8 (fi (r j))) := fun j hj => by
    rw [World.cell?_alloc_lt w _ _ (World.block_lt_of_cell? _ _ (hc j hj))]; exact hc j hj
  have HC := Lib.hid hc'
  clear hc hc' h
  have hnil : ∀ (w : World) (a : Option Addr) (n c n' c' : Nat), (binOp .eql 34 (.slice a n c) (.slice none n' c')).run Try.prog w = .ok (.bool a.isNone) w := fun w a n c n' c' => Lib.run_eql_slice_nil w _ _ a n c n' c' Try.underlying34
  go_enter Try.func33, Try.ntmps33
  go_wp2_with (at_builtin; refine wpList_append_own _ rfl _ _ 34 rfl w.heap.size 5 i0 (.int .u8 0) 1 1 Try.underlying34 hi hz0 hz1 hz2 rfl (by decide) _ _ _ rfl hown ⟨b, off, none⟩ n C (cellsOf n r) rfl (by rw [cellsOf_len, Nat.mul_one]) (Rd.cells HC.out) cellsOf_one (by unfold maxLen; omega) (by omega) (by simp) ?_)
  intro v' w' hown' hgrow _
  obtain ⟨g, C', rfl, hg, hC, hr⟩ := RowAt.of_owns hown' hn0
  have HB := Lib.hid (((Below.refl w.heap.size w).alloc (Nat.le_refl _) _).grown hgrow (by simp) (fun k hk => by simp [Value.ownBlock] at hk; omega))
  clear hown' hgrow hown HC hnil
  go_wp2
  go_ret
  exact ⟨g, C', rfl, hg, hC, hr, HB.out⟩
set_option maxHeartbeats 1000000 in
theorem copied_any (A : Option Addr) (n C m : Nat) (M : Mat) (w : World) (hn0 : 0 < n) (hn : n ≤ 255) (hm0 : 0 < m) (hm : m ≤ 255) (G0 : Nat → Prop) (h : RdM w A n (fun _ => m) M G0) :
    Calls Try.prog 38 #[.slice A n C] w (FreshMat n m M w) := by
  have H := Lib.hid h
  clear h
  have hmk := run_make_row' (P := Try.prog) 22 34 (.slice none 0 0) 24 Try.underlying22 infoRow rfl .i64 .i64 n (by omega) (by omega)
  go_enter Try.func38, Try.ntmps38
  go_wp2
  clear hmk
  go_loopw [11] (fun vi wr => ∃ k : Nat, k ≤ n ∧ vi = .int .i64 (k : Int) ∧ Hid (∃ G C, OwnK wr w.heap.size w.heap.size n k m G C M) ∧ Hid (Below w.heap.size w wr)) (fun vi _ => n - (intOf vi).toNat)
  case atStart => exact ⟨0, by omega, rfl, Lib.hid ⟨fun _ => 0, fun _ => 0, OwnK.start w _ n m _ _ M⟩, Lib.hid ((Below.refl _ _).alloc (Nat.le_refl _) _)⟩
  case round =>
    obtain ⟨k, hk, rfl, HO, HB⟩ := hrel
    obtain ⟨G, Cp, hO⟩ := HO.out
    have HO' := Lib.hid hO
    clear hO HO
    by_cases hlt : k < n
    · obtain ⟨b, off, A', C', rfl, _, hck, hrk⟩ := (H.out.old HB.out).row hlt
      have HR := Lib.hid hrk
      clear hrk
      go_wp2_with fail
      refine (clone_any A' m C' (M k) _ _ hm0 (by omega) HR.out).mono ?_
      rintro e w1 ⟨g, c, rfl, hg, hc, hr, hb⟩
      have hct := (HO'.out.old hb).top.cell hlt
      rw [if_neg (by omega)] at hct
      have hft := (HO'.out.old hb).top.frozen k
      have HP := Lib.hid (HO'.out.push hb hg HB.out.size hc hr)
      have HB2 := Lib.hid ((HB.out.trans (hb.mono HB.out.size)).setCell (p := ⟨w.heap.size, k, none⟩) (Nat.le_refl _) (.slice (some ⟨g, 0, none⟩) m c))
      clear hr hb hg hc HR
      go_wp2
      go_roundw
      case rel => exact ⟨k + 1, by omega, by go_num, Lib.hid ⟨_, _, HP.out.congr (M' := M) fun i _ j _ => by by_cases e : i = k <;> simp [e]⟩, HB2⟩
      case measure => simp [intOf]; omega
    · obtain rfl : k = n := by omega
      go_wp2
      go_ret
      exact ⟨w.heap.size, G, Cp, rfl, Nat.le_refl _, HO'.out, HB.out⟩
set_option maxHeartbeats 1000000 in
theorem unit_any (n : Nat) (w : World) (hn0 : 0 < n) (hn : n ≤ 255) : Calls Try.prog 39 #[.int .i64 (n : Int)] w (FreshMat n n one w) := by
  have hmk := run_make_row' (P := Try.prog) 22 34 (.slice none 0 0) 24 Try.underlying22 infoRow rfl .i64 .i64 n (by omega) (by omega)
  have HK := Lib.hid (run_make_row' (P := Try.prog) 34 5 (.int .u8 0) 1 Try.underlying34 infoByte rfl .i64 .i64 n (by omega) (by omega))
  go_enter Try.func39, Try.ntmps39
  go_wp2
  clear hmk
  go_loopw [9] (fun vi wr => ∃ k : Nat, k ≤ n ∧ vi = .int .i64 (k : Int) ∧ Hid (∃ G C, OwnK wr w.heap.size w.heap.size n k n G C one) ∧ Hid (Below w.heap.size w wr)) (fun vi _ => n - (intOf vi).toNat)
  case atStart => exact ⟨0, by omega, rfl, Lib.hid ⟨fun _ => 0, fun _ => 0, OwnK.start w _ n n _ _ one⟩, Lib.hid ((Below.refl _ _).alloc (Nat.le_refl _) _)⟩
  case round =>
    obtain ⟨k, hk, rfl, HO, HB⟩ := hrel
    obtain ⟨G, Cp, hO⟩ := HO.out
    have HO' := Lib.hid hO
    clear hO HO
    by_cases hlt : k < n
    · have hb1 : Below wr.heap.size wr (wr.alloc (.cells (madeCells #[.int .u8 0] n) 5)) := (Below.refl _ _).alloc (Nat.le_refl _) _
      have hO1 := HO'.out.old hb1
      have hct := hO1.top.cell hlt
      rw [if_neg (by omega)] at hct
      have hft := hO1.top.frozen k
      have hP := HO'.out.push hb1 (Nat.le_refl _) HB.out.size (Nat.le_refl n) (RowAt.made wr n)
      have hct2 := hP.top.cell hlt
      have hrk := hP.rows k (by omega)
      simp only [if_true, show k < k + 1 by omega] at hct2 hrk
      have hc3 := hrk.cell hlt
      have hf3 := hrk.frozen k
      have HT := Lib.hid (hP.turn (i := k) (by omega) ((Kp.refl _ _).setCell (p := ⟨wr.heap.size, k, none⟩) (by simp) (.int .u8 (fi 1))) (by simpa using hrk.set k 1))
      have HB2 := Lib.hid (((HB.out.trans (hb1.mono HB.out.size)).setCell (p := ⟨w.heap.size, k, none⟩) (Nat.le_refl _) (.slice (some ⟨wr.heap.size, 0, none⟩) n n)).setCell (p := ⟨wr.heap.size, k, none⟩) HB.out.size (.int .u8 (fi 1)))
      have hmk := HK.out
      clear hb1 hO1 hP hrk
      go_wp2
      go_roundw
      case rel => exact ⟨k + 1, by omega, by go_num, Lib.hid ⟨_, _, HT.out.congr (M' := one) fun i hi j hj => by
        by_cases e : i = k
        · simp only [e, if_true]; unfold one
          by_cases e' : j = k
          · rw [if_pos e', if_pos e'.symm]
          · rw [if_neg e', if_neg (fun h => e' h.symm)]
        · simp [e]⟩, HB2⟩
      case measure => simp [intOf]; omega
    · obtain rfl : k = n := by omega
      go_wp2
      go_ret
      exact ⟨w.heap.size, G, Cp, rfl, Nat.le_refl _, HO'.out, HB.out⟩
end Go.Proofs.Ytelkeoopfejgnaa
