/- What New of package fault makes. -/
import Derived.Test.YtdfialcaebjihaaDoorShelf
import Derived.Test.YtdfialcaebjihaaDoorTxR
import Derived.Test.YtdfialcaebjihaaDoorFtWords
import Derived.Deep.RegionHeld3
import Derived.WalkSpells
import Derived.StillTactics
namespace Go.Proofs.YtdfialcaebjihaaDoor
open Go.RowKit Go.Extern.Stop Go.Stop Go.Extern
open Pt (Tx)

theorem cloned (s : Tx) (w : World) (hl : s.length ≤ 281474976710656) :
    Calls Tryd.prog 16 #[.string (tx s)] w fun e w' => e = .returned (.string (tx s)) ∧ Below w.heap.size w w' := by
  have es := tx_size s
  go_enter Tryd.func16, Tryd.ntmps16
  go_wp2_with fail
  refine (Tryd.stringslite_Clone (tx s) _ (by omega)).mono ?_
  rintro e w1 ⟨rfl, hb⟩
  have HB := Lib.hid hb
  clear hb
  go_wp2
  go_ret
  exact ⟨rfl, HB.out⟩
theorem Ly.lt {w : World} {f : Fl} {ws : List Tx} {P : Option Addr} (h : Ly w f ws P) : ∀ a, P = some a → a.block < w.heap.size := by
  intro a e
  cases ws with
  | nil => rw [show P = none from h] at e; cases e
  | cons s r =>
    obtain ⟨b, P', e', hb, _, _⟩ := h
    rw [e'] at e
    injection e with e
    rw [← e]
    exact heap_lt' hb
/-- what New answers -/
def NewAns (f : Fl) (ws : List Tx) (w : World) (e : Ending) (w' : World) : Prop := ∃ v, e = .returned v ∧ Er w' f ws v ∧ Below w.heap.size w w'

set_option maxHeartbeats 4000000 in
set_option maxRecDepth 100000 in
theorem new_any (f : Fl) (ws : List Tx) (A : Option Addr) (cap : Nat) (w : World) (hr : TxR w A ws) (hlen : ws.length ≤ 1000000) (hl : ∀ s ∈ ws, s.length ≤ 281474976710656) (hc : f.c ≠ 0) :
    Calls Tryd.prog 8 #[.int .i64 f.c, .agg #[.int .i64 f.l, .int .i64 f.k], .slice A ws.length cap] w (NewAns f ws.reverse w) := by
  have hc0 : (f.c == 0) = false := by simpa using hc
  obtain ⟨n, hn⟩ : ∃ n, n = ws.length := ⟨_, rfl⟩
  obtain ⟨w1, hw1⟩ : ∃ w1, w1 = (w.alloc (.cells #[.int .i64 f.l, .int .i64 f.k] 25)).alloc (.cells #[.int .i64 f.c, .int .i64 f.l, .int .i64 f.k] 44) := ⟨_, rfl⟩
  have hb1 : Below w.heap.size w w1 := by rw [hw1]; exact ((Below.refl _ _).alloc (Nat.le_refl _) _).alloc (by simp) _
  have hq1 : w1.heap[w.heap.size + 1]? = some (.cells #[.int .i64 f.c, .int .i64 f.l, .int .i64 f.k] 44 (0, 0)) := by
    rw [hw1]; have := Go.Deep.blk_alloc_new (w.alloc (.cells #[.int .i64 f.l, .int .i64 f.k] 25)) (.cells #[.int .i64 f.c, .int .i64 f.l, .int .i64 f.k] 44); simpa using this
  have HB1 := Lib.hid hb1
  have HQ1 := Lib.hid hq1
  have HR := Lib.hid (hr.old hb1)
  have HL := Lib.hid hl
  have HN := Lib.hid hn
  rw [← hn] at hlen ⊢
  clear hb1 hq1 hr hl hn hc
  go_enter Tryd.func8, Tryd.ntmps8
  go_wp2
  rw [← hw1]
  clear hw1
  go_loopw [18, 8] (fun vi vp wr => ∃ (k : Nat) (P : Option Addr), k ≤ n ∧ vi = .int .i64 (k : Int) ∧ vp = .pointer P ∧ Hid (Ly wr f (ws.take k).reverse P) ∧ Hid (Below w1.heap.size w1 wr)) (fun vi _ _ => n - (intOf vi).toNat)
  case atStart => exact ⟨0, none, Nat.zero_le _, rfl, rfl, Lib.hid rfl, Lib.hid (Below.refl _ _)⟩
  case round =>
    obtain ⟨k, P, hk, rfl, rfl, HLy, HB⟩ := hrel
    have hq : wr.heap[w.heap.size + 1]? = some (.cells #[.int .i64 f.c, .int .i64 f.l, .int .i64 f.k] 44 (0, 0)) := (HB.out.block _ (heap_lt' HQ1.out)).trans HQ1.out
    have c0 : wr.cell? ⟨w.heap.size + 1, 0, none⟩ = some (.int .i64 f.c) := cell_of hq 0
    have c1 : wr.cell? ⟨w.heap.size + 1, 1, none⟩ = some (.int .i64 f.l) := cell_of hq 1
    have c2 : wr.cell? ⟨w.heap.size + 1, 2, none⟩ = some (.int .i64 f.k) := cell_of hq 2
    have HQ := Lib.hid hq
    clear hq
    by_cases hlt : k < n
    · have hlt' : k < ws.length := by rw [← HN.out]; exact hlt
      obtain ⟨b, off, rfl, hw⟩ := (HR.out.old HB.out).at hlt'
      have Hs : Hid (ws[k].length ≤ 281474976710656) := Lib.hid (HL.out _ (List.getElem_mem hlt'))
      have HT : Hid ((ws.take (k + 1)).reverse = ws[k] :: (ws.take k).reverse) := Lib.hid (by rw [List.take_succ_eq_append_getElem hlt', List.reverse_append]; rfl)
      generalize ws[k] = s at *
      have hbel : Below wr.heap.size wr wr.drew := (Below.refl _ _).drew
      go_wp2_with fail
      have d0 : wr.drew.cell? ⟨w.heap.size + 1, 0, none⟩ = some (.int .i64 f.c) := c0
      have d1 : wr.drew.cell? ⟨w.heap.size + 1, 1, none⟩ = some (.int .i64 f.l) := c1
      have d2 : wr.drew.cell? ⟨w.heap.size + 1, 2, none⟩ = some (.int .i64 f.k) := c2
      have hll : w.heap.size + 1 < wr.heap.size := heap_lt' HQ.out
      go_region_held3 (fun w' => w'.cell? ⟨w.heap.size + 1, 0, none⟩ = some (.int .i64 f.c) ∧ w'.cell? ⟨w.heap.size + 1, 1, none⟩ = some (.int .i64 f.l) ∧ w'.cell? ⟨w.heap.size + 1, 2, none⟩ = some (.int .i64 f.k) ∧ Below wr.heap.size wr w')
        (first
          | exact ⟨e0, e1, e2, hbt⟩
          | exact ⟨d0, d1, d2, hbel⟩
          | exact ⟨((hbt.alloc hbt.size _).cell (p := ⟨w.heap.size + 1, 0, none⟩) hll).trans c0, ((hbt.alloc hbt.size _).cell (p := ⟨w.heap.size + 1, 1, none⟩) hll).trans c1, ((hbt.alloc hbt.size _).cell (p := ⟨w.heap.size + 1, 2, none⟩) hll).trans c2, hbt.alloc hbt.size _⟩)
        (first
          | (go_at_call 16; refine (cloned s _ Hs.out).mono ?_; rintro e wn ⟨rfl, hbn⟩; have hbt : Below wr.heap.size wr wn := hbel.trans hbn; have e0 := (hbt.cell (p := ⟨w.heap.size + 1, 0, none⟩) hll).trans c0; have e1 := (hbt.cell (p := ⟨w.heap.size + 1, 1, none⟩) hll).trans c1; have e2 := (hbt.cell (p := ⟨w.heap.size + 1, 2, none⟩) hll).trans c2; clear hbn))
      have HBT := Lib.hid hbt
      clear hbt e0 e1 e2 d0 d1 d2 hbel
      go_wp2
      go_roundw
      case rel =>
        refine ⟨k + 1, some ⟨wn.heap.size, 0, none⟩, hlt, by go_num, rfl, Lib.hid ?_, Lib.hid ((HB.out.trans (HBT.out.mono HB.out.size)).alloc (by have := HB.out.size; have := HBT.out.size; omega) _)⟩
        rw [HT.out]
        refine ⟨wn.heap.size, P, rfl, Go.Deep.blk_alloc_new _ _, fun a e => Nat.lt_of_lt_of_le (HLy.out.lt a e) HBT.out.size, ?_⟩
        have hbb := HBT.out.alloc HBT.out.size (.cells #[.string (tx s), .pointer P, .int .i64 f.c, .int .i64 f.l, .int .i64 f.k] 48)
        exact Ly.keep HLy.out fun b _ hb => hbb.block b (heap_lt' hb)
      case measure => simp [intOf]; omega
    · have HK : Hid ((ws.take k).reverse = ws.reverse) := Lib.hid (by rw [List.take_of_length_le (by rw [← HN.out]; omega)])
      have HE : Hid (Below w.heap.size w wr) := Lib.hid (HB1.out.trans (HB.out.mono HB1.out.size))
      cases hws : (ws.take k).reverse with
      | nil =>
        have hP : P = none := by have := HLy.out; rw [hws] at this; exact this
        subst hP
        have HW : Hid (ws.reverse = []) := Lib.hid (by rw [← HK.out, hws])
        clear hws
        go_wp2
        go_ret
        exact ⟨_, rfl, by rw [HW.out]; rfl, HE.out⟩
      | cons s r =>
        have hly := HLy.out
        rw [hws] at hly
        have HW : Hid (ws.reverse = s :: r) := Lib.hid (by rw [← HK.out, hws])
        obtain ⟨b, P', rfl, hb, hlb, hrr⟩ := hly
        have HLL : Hid (Ly wr f (s :: r) (some ⟨b, 0, none⟩)) := Lib.hid ⟨b, P', rfl, hb, hlb, hrr⟩
        clear hws hb hlb hrr
        go_wp2
        go_ret
        exact ⟨_, rfl, by rw [HW.out]; exact ⟨b, rfl, HLL.out⟩, HE.out⟩
end Go.Proofs.YtdfialcaebjihaaDoor
