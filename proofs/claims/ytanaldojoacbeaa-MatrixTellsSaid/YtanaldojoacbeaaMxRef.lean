/- What the document's own SameRows and Apply answer. -/
import Derived.Test.YtanaldojoacbeaaMxCau
import Derived.Laws.BytesString
import Derived.Laws.Cells
namespace Go.Proofs.Ytanaldojoacbeaa
open Go.RowKit Mx

/-- the text of n bytes -/
def strOf (n : Nat) (r : Nat → Fe) : ByteArray := ((List.range n).map fun j => fi (r j)).foldl (fun s n => s.push (UInt8.ofNat n.toNat)) ByteArray.empty
theorem strOf_congr {n : Nat} {r s : Nat → Fe} (h : ∀ j, j < n → r j = s j) : strOf n r = strOf n s := by
  unfold strOf
  rw [List.map_congr_left (g := fun j => fi (s j)) (fun j hj => by rw [h j (List.mem_range.1 hj)])]
theorem str_run {w : World} {A : Option Addr} {n : Nat} {r : Nat → Fe} {G : Nat → Prop} (h : Rd w A n r G) (C : Nat) : (convert 23 9 (.slice A n C)).run Try.prog w = .ok (.string (strOf n r)) w := by
  rw [run_convert_bytes_string w 23 9 5 A n C Try.underlying23 Try.underlying5 Try.underlying9]
  cases A with
  | none =>
    have hn : n = 0 := by
      rcases Nat.eq_zero_or_pos n with h0 | h0
      · exact h0
      · obtain ⟨b, off, e, _⟩ := h h0; cases e
    subst hn
    rfl
  | some a =>
    refine run_bytesToString w a n C _ ?_
    rw [List.map_map]
    refine (run_loadCells w a n (fun j => .int .u8 (fi (r j))) fun j hj => ?_).trans ?_
    · obtain ⟨b, off, e, _, hc⟩ := h (by omega)
      cases e
      rw [add_at]; exact hc j hj
    · congr 1
theorem str_runD {w : World} {A : Option Addr} {n : Nat} {r : Nat → Fe} {G : Nat → Prop} (h : Rd w A n r G) (C q : Nat) : (convert 23 9 (.slice A n C)).run Try.prog (w.drewN q) = .ok (.string (strOf n r)) (w.drewN q) := str_run (w := w.drewN q) h C

set_option maxHeartbeats 1000000 in
theorem sameRows_any (A : Option Addr) (n C : Nat) (L : Nat → Nat) (M : Mat) (G : Nat → Prop) (A' : Option Addr) (C' : Nat) (M' : Mat) (G' : Nat → Prop) (w : World) (hm : n ≤ maxLen) (h : RdM w A n L M G) (h' : RdM w A' n L M' G') (he : ∀ i, i < n → ∀ j, j < L i → M i j = M' i j) :
    Calls Try.prog 18 #[.slice A n C, .slice A' n C'] w fun e w' => e = .returned (.bool true) ∧ Below w.heap.size w w' := by
  unfold maxLen at hm
  have H := Lib.hid h
  have H' := Lib.hid h'
  have HE := Lib.hid he
  clear h h' he
  go_enter Try.func18, Try.ntmps18
  go_wp2
  go_loopw [5] (fun vi wr => ∃ i : Nat, i ≤ n ∧ vi = .int .i64 (i : Int) ∧ Hid (Below w.heap.size w wr)) (fun vi _ => n - (intOf vi).toNat)
  case atStart => exact ⟨0, by omega, rfl, Lib.hid (Below.refl _ _)⟩
  case round =>
    obtain ⟨i, hi, rfl, HB⟩ := hrel
    by_cases hlt : i < n
    · obtain ⟨b0, off0, Ai, Ci, rfl, _, d1, hr1⟩ := (H.out.old HB.out).row hlt
      obtain ⟨b1, off1, Aj, Cj, rfl, _, d2, hr2⟩ := (H'.out.old HB.out).row hlt
      have s1 := fun q => str_runD hr1 Ci q
      have s2 := fun q => str_runD hr2 Cj q
      rw [← strOf_congr (HE.out i hlt)] at s2
      clear hr1 hr2
      obtain ⟨s, hs⟩ : ∃ s, s = strOf (L i) (M i) := ⟨_, rfl⟩
      rw [← hs] at s1 s2
      clear hs
      go_wp2
      go_quiet (fail)
      clear s1 s2 d1 d2
      go_wp2
      go_roundw
      case rel => exact ⟨i + 1, by omega, by go_num, Lib.hid ⟨HB.out.os, HB.out.tape, HB.out.output, HB.out.size, HB.out.block⟩⟩
      case measure => simp [intOf]; omega
    · go_wp2
      go_ret
      exact ⟨rfl, HB.out⟩
end Go.Proofs.Ytanaldojoacbeaa
