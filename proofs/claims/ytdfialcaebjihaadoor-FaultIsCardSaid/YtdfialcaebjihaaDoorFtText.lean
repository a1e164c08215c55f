/- The example of the document: its text, and that the law's example answers as it says. -/
import Derived.Test.YtdfialcaebjihaaDoorFtBuild
import Derived.Test.YtdfialcaebjihaaDoorFtNew
import Derived.Test.YtdfialcaebjihaaDoorFtIs
import Derived.BigQuiet
import Derived.Deep.QuietTactic
namespace Go.Proofs.YtdfialcaebjihaaDoor
open Go.RowKit
open Pt (Tx)

theorem dig (i : Nat) (c : UInt8) (h : i < 10) (hc : UInt8.ofNat (48 + i) = c) (w : World) : Calls Tryd.prog 51 #[.int .i64 i] w fun e w' => e = .returned (.string ⟨#[c]⟩) ∧ w' = w := by
  refine (Tryd.strconv_Itoa_small i (by omega) w).mono ?_
  rintro e w' ⟨rfl, rfl⟩
  refine ⟨?_, rfl⟩
  rw [Lib.decDigits, dif_pos h, hc]
def exF : Fl := ⟨8, 3, 4⟩
def exT : Tx := [101, 114, 114, 111, 114, 32, 56, 32, 97, 116, 32, 51, 47, 52]
set_option maxHeartbeats 4000000 in
set_option maxRecDepth 100000 in
theorem exText (w : World) : Calls Tryd.prog 49 #[.agg #[.int .i64 8, .int .i64 3, .int .i64 4]] w fun e w' => e = .returned (.string (tx exT)) ∧ Below w.heap.size w w' := by
  have h8 := dig 8 56 (by decide) (by decide)
  have h3 := dig 3 51 (by decide) (by decide)
  have h4 := dig 4 52 (by decide) (by decide)
  go_enter Tryd.func49, Tryd.ntmps49
  go_wp2_with fail
  go_quiet (first | (go_at_call_of 51 (Value.int .i64 8); exact Calls.quiet_of_same (h8 _)) | (go_at_call_of 51 (Value.int .i64 3); exact Calls.quiet_of_same (h3 _)) | (go_at_call_of 51 (Value.int .i64 4); exact Calls.quiet_of_same (h4 _)))
  go_wp2
  go_ret
  have hx := (Below.refl w.heap.size w).alloc (Nat.le_refl _) (.cells #[.int .i64 8, .int .i64 3, .int .i64 4] 44)
  refine ⟨congrArg (fun s => Ending.returned (.string s)) ?_, ⟨hx.os, hx.tape, hx.output, hx.size, hx.block⟩⟩
  show tx [101, 114, 114, 111, 114, 32] ++ tx [56] ++ tx [32, 97, 116, 32] ++ tx [51] ++ tx [47] ++ tx [52] = tx exT
  rw [tx_append, tx_append, tx_append, tx_append, tx_append]
  rfl
theorem owns_old {w w' : World} {B : Nat} {t : TypeId} {v : Value} {n m : Nat} {xs : List Value} (h : w.ownsRow B t m v n xs) (hb : Below w.heap.size w w') : w'.ownsRow B t m v n xs := by
  refine ⟨h.1, ?_⟩
  rcases h.2 with h0 | ⟨g, cap, cur, hv, hg, hh, r⟩
  · exact Or.inl h0
  · exact Or.inr ⟨g, cap, cur, hv, hg, (hb.block g (heap_lt' hh)).trans hh, r⟩
theorem built_old {T e : TypeId} {B b : Nat} {bs : List Value} {w w' : World} (h : Lib.IsBuilder T e B b bs w) (hb : Below w.heap.size w w') : Lib.IsBuilder T e B b bs w' := by
  rcases h with ⟨hB, v, hk, ho, hn⟩ | ⟨hB, v, hk, ho, hn⟩
  · exact Or.inl ⟨hB, v, (hb.block b (heap_lt' hk)).trans hk, owns_old ho hb, hn⟩
  · exact Or.inr ⟨hB, v, (hb.block b (heap_lt' hk)).trans hk, owns_old ho hb, hn⟩
theorem strCells_tx (s : Tx) : Lib.strCells (tx s) = Lib.byteCells s := by rw [Lib.strCells, tx_data]; rfl
def rdT : Tx := [114, 101, 97, 100]
theorem fresh_builder (w : World) : Lib.IsBuilder 123 5 w.heap.size w.heap.size (Lib.byteCells []) (w.alloc (.cells #[.pointer none, .slice none 0 0] 123)) :=
  Or.inl ⟨Nat.le_refl _, .slice none 0 0, Go.Deep.blk_alloc_new _ _, ⟨rfl, Or.inl ⟨rfl, rfl⟩⟩, by simp [Value.ownBlock]⟩
set_option maxHeartbeats 4000000 in
set_option maxRecDepth 100000 in
theorem exError (b : Nat) (w : World) (hb : w.heap[b]? = some (.cells #[.string (tx rdT), .pointer none, .int .i64 8, .int .i64 3, .int .i64 4] 48 (0, 0))) :
    Calls Tryd.prog 65 #[.pointer (some ⟨b, 0, none⟩)] w fun e w' => e = .returned (.string (tx (rdT ++ [58, 32] ++ exT))) ∧ Below w.heap.size w w' := by
  have hlt := heap_lt' hb
  have HF := fresh_builder w
  have keep : ∀ (w1 : World), Below w.heap.size w w1 → w1.heap[b]? = some (.cells #[.string (tx rdT), .pointer none, .int .i64 8, .int .i64 3, .int .i64 4] 48 (0, 0)) := fun _ h => (h.block b hlt).trans hb
  obtain ⟨w1, hw1⟩ : ∃ w1, w1 = w.alloc (.cells #[.pointer none, .slice none 0 0] 123) := ⟨_, rfl⟩
  have hb1 : Below w.heap.size w w1 := by rw [hw1]; exact (Below.refl _ _).alloc (Nat.le_refl _) _
  rw [← hw1] at HF
  have q0 : w1.cell? ⟨b, 0, none⟩ = some (.string (tx rdT)) := cell_of (keep _ hb1) 0
  have HK := Lib.hid keep
  have HB1 := Lib.hid hb1
  have HF1 := Lib.hid HF
  clear keep hb HF hb1
  go_enter Tryd.func65, Tryd.ntmps65
  go_wp2
  rw [← hw1]
  clear hw1
  refine wp_loop_rounds 2 ?_
  rw [rounds_succ]
  go_wp2_with fail
  refine (writes w.heap.size w.heap.size _ (tx rdT) w1 HF1.out (by decide) (by have := HB1.out.size; omega)).mono ?_
  rintro e w2 ⟨rfl, hi2, hb2⟩
  have HB2 : Hid (Below w.heap.size w w2) := Lib.hid (HB1.out.trans hb2)
  rw [strCells_tx] at hi2
  have HF2 := Lib.hid hi2
  have p1 : w2.cell? ⟨b, 1, none⟩ = some (.pointer none) := cell_of (HK.out _ HB2.out) 1
  clear hi2 hb2 q0
  go_wp2_with fail
  refine (writes w.heap.size w.heap.size _ (tx [58, 32]) w2 HF2.out (by decide) (by have := HB2.out.size; omega)).mono ?_
  rintro e w3 ⟨rfl, hi3, hb3⟩
  have HB3 : Hid (Below w.heap.size w w3) := Lib.hid (HB2.out.trans hb3)
  rw [strCells_tx] at hi3
  have HF3 := Lib.hid hi3
  have s1 : w3.cell? ⟨b, 1, none⟩ = some (.pointer none) := cell_of (HK.out _ HB3.out) 1
  have s2 : w3.cell? ⟨b, 2, none⟩ = some (.int .i64 8) := cell_of (HK.out _ HB3.out) 2
  have s3 : w3.cell? ⟨b, 3, none⟩ = some (.int .i64 3) := cell_of (HK.out _ HB3.out) 3
  have s4 : w3.cell? ⟨b, 4, none⟩ = some (.int .i64 4) := cell_of (HK.out _ HB3.out) 4
  clear hi3 hb3 p1
  go_wp2
  rw [rounds_succ]
  go_wp2_with fail
  refine (exText w3).mono ?_
  rintro e w4 ⟨rfl, hb4⟩
  have HB4 : Hid (Below w.heap.size w w4) := Lib.hid (HB3.out.trans (hb4.mono HB3.out.size))
  have HF4 := Lib.hid (built_old HF3.out hb4)
  clear hb4 s1 s2 s3 s4
  go_wp2_with fail
  refine (writes w.heap.size w.heap.size _ (tx exT) w4 HF4.out (by decide) (by have := HB4.out.size; omega)).mono ?_
  rintro e w5 ⟨rfl, hi5, hb5⟩
  have HB5 : Hid (Below w.heap.size w w5) := Lib.hid (HB4.out.trans hb5)
  rw [strCells_tx, ← Lib.byteCells_append, ← Lib.byteCells_append, ← Lib.byteCells_append, List.nil_append] at hi5
  have HF5 := Lib.hid hi5
  clear hi5 hb5
  go_wp2_with fail
  refine (Tryd.Builder_String w.heap.size w.heap.size _ w5 HF5.out (by decide)).mono ?_
  rintro e w6 ⟨rfl, hb6⟩
  have HB6 : Hid (Below w.heap.size w w6) := Lib.hid (HB5.out.trans hb6)
  clear hb6
  go_wp2
  go_ret
  exact ⟨rfl, HB6.out⟩
end Go.Proofs.YtdfialcaebjihaaDoor
