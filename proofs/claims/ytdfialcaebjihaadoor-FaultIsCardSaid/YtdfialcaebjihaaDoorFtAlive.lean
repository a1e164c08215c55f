/- The law's example answers as the document says. -/
import Derived.Test.YtdfialcaebjihaaDoorFtText
namespace Go.Proofs.YtdfialcaebjihaaDoor
open Go.RowKit
open Pt (Tx)

theorem er_one {w : World} {f : Fl} {s : Tx} {v : Value} (h : Er w f [s] v) : ∃ b, v = .iface 45 (.pointer (some ⟨b, 0, none⟩)) ∧ w.heap[b]? = some (.cells #[.string (tx s), .pointer none, .int .i64 f.c, .int .i64 f.l, .int .i64 f.k] 48 (0, 0)) := by
  obtain ⟨b, rfl, b', P', e, hb, _, hP⟩ := h
  injection e with e
  injection e with e _ _
  subst e
  have hP' : P' = none := hP
  subst hP'
  exact ⟨b, rfl, hb⟩
def exW : Tx := rdT ++ [58, 32] ++ exT
set_option maxHeartbeats 4000000 in
set_option maxRecDepth 100000 in
theorem text_ex (A : Option Addr) (cap : Nat) (w : World) (hr : TxR w A [rdT]) :
    Calls Tryd.prog 11 #[.int .i64 8, .agg #[.int .i64 3, .int .i64 4], .slice A 1 cap] w fun e w' => e = .returned (.string (tx exW)) ∧ Below w.heap.size w w' := by
  have mE := methodErrorL
  obtain ⟨w1, hw1⟩ : ∃ w1, w1 = w.alloc (.cells #[.int .i64 3, .int .i64 4] 25) := ⟨_, rfl⟩
  have hb1 : Below w.heap.size w w1 := by rw [hw1]; exact (Below.refl _ _).alloc (Nat.le_refl _) _
  have HN := new_any ⟨8, 3, 4⟩ [rdT] A cap w1 (hr.old hb1) (by decide) (by intro s hs; rw [List.mem_singleton.1 hs]; decide) (by decide)
  have HB1 := Lib.hid hb1
  clear hb1 hr
  go_enter Tryd.func11, Tryd.ntmps11
  go_wp2_with fail
  rw [← hw1]
  refine HN.mono ?_
  rintro e w2 ⟨v, rfl, he, hb2⟩
  obtain ⟨b, rfl, hb⟩ := er_one he
  have HB2 := Lib.hid (HB1.out.trans (hb2.mono HB1.out.size))
  have HX := exError b w2 hb
  clear he hb hb2 HN hw1
  go_wp2_with fail
  refine HX.mono ?_
  rintro e w3 ⟨rfl, hb3⟩
  have HB3 := Lib.hid (HB2.out.trans (hb3.mono HB2.out.size))
  clear hb3 HX
  go_wp2
  go_ret
  exact ⟨rfl, HB3.out⟩
theorem one_word (w : World) : TxR (w.alloc (.cells #[.string { data := #[114, 101, 97, 100] }] 9)) (some ⟨w.heap.size, 0, none⟩) [rdT] := by
  intro _
  refine ⟨_, 0, rfl, fun j p hp => ?_⟩
  obtain rfl : j = 0 := by rcases j with _ | j; rfl; simp at hp
  have : p = rdT := by simpa using hp.symm
  subst this
  exact cell_of (Go.Deep.blk_alloc_new _ _) 0
set_option maxHeartbeats 4000000 in
set_option maxRecDepth 100000 in
theorem alive7 (w : World) (hg : Hg w) :
    Calls Tryd.prog 7 #[] w fun e w' => e = .returned (.bool true) ∧ Below w.heap.size w w' := by
  obtain ⟨w1, hw1⟩ : ∃ w1, w1 = w.alloc (.cells #[.string { data := #[114, 101, 97, 100] }] 9) := ⟨_, rfl⟩
  have hb1 : Below w.heap.size w w1 := by rw [hw1]; exact (Below.refl _ _).alloc (Nat.le_refl _) _
  have hr1 : TxR w1 (some ⟨w.heap.size, 0, none⟩) [rdT] := by rw [hw1]; exact one_word w
  have HN := new_any ⟨8, 3, 4⟩ [rdT] (some ⟨w.heap.size, 0, none⟩) 1 w1 hr1 (by decide) (by intro s hs; rw [List.mem_singleton.1 hs]; decide) (by decide)
  have HB1 := Lib.hid hb1
  have HG1 := Lib.hid (hg.old hb1)
  clear hb1 hr1 hg
  go_enter Tryd.func7, Tryd.ntmps7
  go_wp2_with fail
  rw [← hw1]
  refine HN.mono ?_
  rintro e w2 ⟨v, rfl, he, hb2⟩
  have HB2 := Lib.hid (HB1.out.trans (hb2.mono HB1.out.size))
  have HG2 := Lib.hid (HG1.out.old hb2)
  have HE2 := Lib.hid he
  clear he hb2 HN hw1
  go_wp2_with fail
  refine (code_nil w2).mono ?_
  rintro e w' ⟨rfl, rfl⟩
  obtain ⟨ti, xi, rfl⟩ := HE2.out.iface
  go_wp2_with (first | (go_at_call 13; (refine (code_any (some ⟨8, 3, 4⟩) _ w' ⟨_, HE2.out⟩ (by intro h; cases h) HG2.out (by intro g e; cases e; decide)).mono ?_); rintro e w3 ⟨rfl, hb3⟩; have HB3 := Lib.hid (HB2.out.trans (hb3.mono HB2.out.size)); clear hb3; dsimp only [codeOf]) | (go_at_call 12; go_in))
  refine (text_ex _ 1 _ (one_word w3)).mono ?_
  rintro e w4 ⟨rfl, hb4⟩
  have HB4 : Hid (Below w.heap.size w w4) := Lib.hid ((HB3.out.alloc HB3.out.size _).trans (hb4.mono (by have := HB3.out.size; simp; omega)))
  clear hb4
  rw [show tx exW = { data := #[114, 101, 97, 100, 58, 32, 101, 114, 114, 111, 114, 32, 56, 32, 97, 116, 32, 51, 47, 52] } from rfl]
  go_wp2
  go_ret
  exact ⟨rfl, HB4.out⟩
end Go.Proofs.YtdfialcaebjihaaDoor
