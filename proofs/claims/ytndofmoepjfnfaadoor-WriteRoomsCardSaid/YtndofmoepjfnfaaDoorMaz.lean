/- The tape as it is now. What appended of package write answers: a tape with more blocks, in new memory. -/
import Derived.Test.YtndofmoepjfnfaaDoorMax
import Derived.Test.YtndofmoepjfnfaaDoorMap
import Derived.Deep.RegionHeld3
import Derived.Test.YtndofmoepjfnfaaDoorMay
import Derived.Test.YtndofmoepjfnfaaDoorWkMath
namespace Go.Proofs.YtndofmoepjfnfaaDoor
open Go.RowKit
open Pt (Tx)

/-- what Tape answers: in new memory -/
def TapeAns (lab most : Int) (bs : List Tx) (w : World) (e : Ending) (w' : World) : Prop :=
  ∃ A C, e = .returned (.agg #[.int .i64 lab, .int .i64 most, .slice A bs.length C, .bool false]) ∧ bs.length ≤ C ∧ RdB w' A bs (w.heap.size ≤ ·) ∧ Below w.heap.size w w'
/-- the first k rows are laid -/
structure LaidK (w : World) (B b n k : Nat) (bs : List Tx) : Prop where
  lo : B ≤ b
  blk : ∃ c, w.heap[b]? = some (.cells c 26 (0, 0)) ∧ c.size = n ∧ ∀ i (hi : i < bs.length), i < k → ∃ g C, c[i]? = some (.slice (some ⟨g, 0, none⟩) bs[i].length C) ∧ bs[i].length ≤ C ∧ B ≤ g ∧ g ≠ b ∧ g < w.heap.size ∧ RdL w (some ⟨g, 0, none⟩) bs[i] (· = g)
set_option maxRecDepth 100000 in
theorem LaidK.rdB {w : World} {B b n : Nat} {bs : List Tx} (h : LaidK w B b n bs.length bs) : RdB w (some ⟨b, 0, none⟩) bs (B ≤ ·) := by
  intro _
  obtain ⟨hlo, c, hb, _, hc⟩ := h
  refine ⟨b, 0, rfl, hlo, fun i hi => ?_⟩
  obtain ⟨g, C, h1, h2, h3, _, _, h4⟩ := hc i hi hi
  refine ⟨some ⟨g, 0, none⟩, C, ?_, h2, (fun h => by cases h), h4.mono (fun _ e => by rw [e]; exact h3)⟩
  rw [Nat.zero_add, heap_cell hb]; exact h1
set_option maxRecDepth 100000 in
theorem LaidK.push {w wb : World} {B b n k : Nat} {bs : List Tx} (h : LaidK w B b n k bs) (hw : Below w.heap.size w wb) (hk : k < bs.length) (hn : k < n) {g C : Nat} (hB : B ≤ g) (hg : w.heap.size ≤ g) (hg' : g < wb.heap.size) (hC : bs[k].length ≤ C) (hr : RdL wb (some ⟨g, 0, none⟩) bs[k] (· = g)) :
    LaidK (wb.setCell ⟨b, k, none⟩ (.slice (some ⟨g, 0, none⟩) bs[k].length C)) B b n (k + 1) bs := by
  obtain ⟨hlo, c, hb, hs, hc⟩ := h
  have hbl := heap_lt hb
  have hsz : wb.heap.size = (wb.setCell ⟨b, k, none⟩ (.slice (some ⟨g, 0, none⟩) bs[k].length C)).heap.size := by simp [World.setCell]
  refine ⟨hlo, _, heap_set ((hw.block b hbl).trans hb) _, by simpa using hs, fun i hi hik => ?_⟩
  by_cases e : k = i
  · subst e
    refine ⟨g, C, ?_, hC, hB, by omega, by rw [← hsz]; exact hg', hr.kp (Kp.store _ b k _) fun x hx hx' => by omega⟩
    rw [Array.getElem?_setIfInBounds, if_pos rfl, if_pos (by omega)]
  · obtain ⟨g', C', h1, h2, h3, h4, h5, h6⟩ := hc i hi (by omega)
    refine ⟨g', C', ?_, h2, h3, h4, by rw [← hsz]; exact Nat.lt_of_lt_of_le h5 hw.size, (h6.old hw).kp (Kp.store _ b k _) fun x hx hx' => h4 (hx.symm.trans hx')⟩
    rw [Array.getElem?_setIfInBounds, if_neg e]; exact h1
set_option maxRecDepth 100000 in
theorem alloc_at2 (w : World) (o1 o2 : Obj) : ((w.alloc o1).alloc o2).drew.heap[w.heap.size + 1]? = some o2 := by
  have h := Go.Deep.blk_alloc_new (w.alloc o1) o2
  have hz : (w.alloc o1).heap.size = w.heap.size + 1 := by simp
  rw [hz] at h
  exact h
set_option maxRecDepth 100000 in
set_option maxHeartbeats 2000000 in
theorem tape_any (g : Nat) (lab most : Int) (bs : List Tx) (w : World) (h : Dr w g lab most bs) :
    Calls Tryd.prog 36 #[.pointer (some ⟨g, 0, none⟩)] w (TapeAns lab most bs w) := by
  have hlt := h.lt
  have c0 := h.mem.c0
  have c1 := h.mem.c1
  have c2 := h.mem.c2
  have l6 := h.len64
  obtain ⟨n, hn⟩ : ∃ n, n = bs.length := ⟨_, rfl⟩
  rw [← hn] at c2 l6
  have hmk := run_make_row' (P := Tryd.prog) 33 26 (.slice none 0 0) 24 Tryd.underlying33 infoRowT rfl .i64 .i64 n (by omega) (by omega)
  have HS := Lib.hid h
  have HN := Lib.hid hn
  clear h hn
  go_enter Tryd.func36, Tryd.ntmps36
  go_wp2
  have hBa : Below w.heap.size w (w.alloc (.cells #[.int .i64 0, .int .i64 0, .slice none 0 0, .bool false] 35)) := (Below.refl _ _).alloc (Nat.le_refl _) _
  have hra : (w.alloc (.cells #[.int .i64 0, .int .i64 0, .slice none 0 0, .bool false] 35)).heap[w.heap.size]? = some (.cells #[.int .i64 0, .int .i64 0, .slice none 0 0, .bool false] 35 (0, 0)) := Go.Deep.blk_alloc_new _ _
  have hza : w.heap.size < (w.alloc (.cells #[.int .i64 0, .int .i64 0, .slice none 0 0, .bool false] 35)).heap.size := heap_lt hra
  generalize w.alloc (.cells #[.int .i64 0, .int .i64 0, .slice none 0 0, .bool false] 35) = wa at hBa hra hza ⊢
  have a0 := (hBa.cell (p := ⟨g, 0, none⟩) hlt).trans c0
  have a1 := (hBa.cell (p := ⟨g, 1, none⟩) hlt).trans c1
  have a2 := (hBa.cell (p := ⟨g, 2, none⟩) hlt).trans c2
  have HBA := Lib.hid hBa
  have HRA := Lib.hid hra
  clear hBa hra c0 c1 c2
  have b0 : wa.drew.cell? ⟨g, 0, none⟩ = some (.int .i64 lab) := a0
  have b1 : wa.drew.cell? ⟨g, 1, none⟩ = some (.int .i64 most) := a1
  have b2 : wa.drew.cell? ⟨g, 2, none⟩ = some (.int .i64 (n : Int)) := a2
  have hga : g < wa.heap.size := Nat.lt_trans hlt hza
  have n0 := World.new_ne wa ⟨g, 0, none⟩ a0
  have n1 := World.new_ne wa ⟨g, 1, none⟩ a1
  have n2 := World.new_ne wa ⟨g, 2, none⟩ a2
  go_region_held3 (fun w' => w'.cell? ⟨g, 0, none⟩ = some (.int .i64 lab) ∧ w'.cell? ⟨g, 1, none⟩ = some (.int .i64 most) ∧ w'.cell? ⟨g, 2, none⟩ = some (.int .i64 (n : Int)))
    (go_keep)
    (fail)
  · -- the slice first
    have hB1 : Below w.heap.size w (((wa.alloc (.cells (madeCells #[.slice none 0 0] n) 26)).alloc (.cells #[.int .i64 lab, .int .i64 most, .slice (some ⟨wa.heap.size, 0, none⟩) n n, .bool false] 35)).drew) := (HBA.out.alloc HBA.out.size _).alloc (by have := HBA.out.size; simp; omega) _ |>.drew
    have h1 : (((wa.alloc (.cells (madeCells #[.slice none 0 0] n) 26)).alloc (.cells #[.int .i64 lab, .int .i64 most, .slice (some ⟨wa.heap.size, 0, none⟩) n n, .bool false] 35)).drew).heap[(wa.heap.size + 1)]? = some (.cells #[.int .i64 lab, .int .i64 most, .slice (some ⟨wa.heap.size, 0, none⟩) n n, .bool false] 35 (0, 0)) := alloc_at2 _ _ _
    have h2 : (((wa.alloc (.cells (madeCells #[.slice none 0 0] n) 26)).alloc (.cells #[.int .i64 lab, .int .i64 most, .slice (some ⟨wa.heap.size, 0, none⟩) n n, .bool false] 35)).drew).heap[wa.heap.size]? = some (.cells (madeCells #[.slice none 0 0] n) 26 (0, 0)) := (Below.heap_alloc _ _ _ (by simp)).trans (Go.Deep.blk_alloc_new _ _)
    have h3 : (((wa.alloc (.cells (madeCells #[.slice none 0 0] n) 26)).alloc (.cells #[.int .i64 lab, .int .i64 most, .slice (some ⟨wa.heap.size, 0, none⟩) n n, .bool false] 35)).drew).heap[w.heap.size]? = some (.cells #[.int .i64 0, .int .i64 0, .slice none 0 0, .bool false] 35 (0, 0)) := ((Below.heap_alloc _ _ _ (by simp; omega)).trans (Below.heap_alloc _ _ _ hza)).trans HRA.out
    have hlo1 : w.heap.size < (wa.heap.size + 1) := by omega
    have hlo2 : w.heap.size < wa.heap.size := by omega
    have hne : (wa.heap.size + 1) ≠ wa.heap.size := by omega
    generalize ((wa.alloc (.cells (madeCells #[.slice none 0 0] n) 26)).alloc (.cells #[.int .i64 lab, .int .i64 most, .slice (some ⟨wa.heap.size, 0, none⟩) n n, .bool false] 35)).drew = wx at hB1 h1 h2 h3 ⊢
    generalize wa.heap.size + 1 = tb at h1 h2 hlo1 hlo2 hne ⊢
    generalize wa.heap.size = b at h1 h2 hlo1 hlo2 hne ⊢
    have HL0 : Hid (LaidK wx (w.heap.size + 1) b n 0 bs) := Lib.hid ⟨hlo2, _, h2, by rw [size_madeCells], fun i _ h => absurd h (by omega)⟩
    have t2 : wx.cell? ⟨tb, 2, none⟩ = some (.slice (some ⟨b, 0, none⟩) n n) := heap_cell h1
    have H1 := Lib.hid h1
    have H3 := Lib.hid h3
    have HB1 := Lib.hid hB1
    clear h1 h2 h3 hB1 a0 a1 a2 b0 b1 b2 n0 n1 n2 HBA HRA hza hga
    go_wp2
    go_loopw [25] (fun i wr => ∃ k : Nat, k ≤ n ∧ i = .int .i64 (k : Int) ∧ Hid (LaidK wr (w.heap.size + 1) b n k bs) ∧ Hid (wr.heap[tb]? = some (.cells #[.int .i64 lab, .int .i64 most, .slice (some ⟨b, 0, none⟩) n n, .bool false] 35 (0, 0))) ∧ Hid (wr.heap[w.heap.size]? = some (.cells #[.int .i64 0, .int .i64 0, .slice none 0 0, .bool false] 35 (0, 0))) ∧ Hid (Below w.heap.size w wr)) (fun i _ => n - (intOf i).toNat)
    case atStart => exact ⟨0, by omega, rfl, HL0, H1, H3, HB1⟩
    case round =>
      clear HL0 H1 H3 HB1 t2
      obtain ⟨k, hk, rfl, HL, H1, H3, HB⟩ := hrel
      have t2 : wr.cell? ⟨tb, 2, none⟩ = some (.slice (some ⟨b, 0, none⟩) n n) := heap_cell H1.out
      by_cases hlt' : k < n
      · have kb : k < bs.length := by rw [← HN.out]; exact hlt'
        have cg := (HB.out.cell (p := ⟨g, 3 + k, none⟩) hlt).trans (HS.out.mem.cs kb)
        obtain ⟨c, hcb, hcs, _⟩ := HL.out.blk
        have hbl := heap_lt hcb
        obtain ⟨C, hC, hcv⟩ := bytes_conv wr.drew bs[k]
        have hwb : Below wr.heap.size wr (Lib.bytesWorld wr.drew 5 (tx bs[k])) := (Below.refl _ wr).drew.trans (below_bytes wr.drew _ _)
        have hrb : RdL (Lib.bytesWorld wr.drew 5 (tx bs[k])) (some ⟨wr.heap.size, 0, none⟩) bs[k] (· = wr.heap.size) := rd_bytes wr.drew bs[k]
        have hzb : wr.heap.size < (Lib.bytesWorld wr.drew 5 (tx bs[k])).heap.size := by rw [Lib.bytesWorld_size]; exact Nat.lt_succ_self _
        have hcv' : (convert 9 26 (.string (tx bs[k]))).run Tryd.prog wr.drew = .ok (.slice (some ⟨wr.heap.size, 0, none⟩) bs[k].length C) (Lib.bytesWorld wr.drew 5 (tx bs[k])) := hcv
        clear hcv
        generalize Lib.bytesWorld wr.drew 5 (tx bs[k]) = wb at hwb hrb hcv' hzb
        have hbk := (hwb.block b hbl).trans hcb
        obtain ⟨vk, cbk⟩ : ∃ v, wb.cell? ⟨b, k, none⟩ = some v := ⟨_, by rw [heap_cell hbk]; exact Array.getElem?_eq_getElem (by omega)⟩
        have fbk : wb.frozen? ⟨b, k, none⟩ = false := heap_frozen hbk
        have HP := Lib.hid (HL.out.push hwb kb hlt' (C := C) (heap_lt H3.out) (Nat.le_refl _) hzb hC hrb)
        have HX1 : Hid ((wb.setCell ⟨b, k, none⟩ (.slice (some ⟨wr.heap.size, 0, none⟩) bs[k].length C)).heap[tb]? = wr.heap[tb]?) := Lib.hid ((Below.heap_setCell _ _ _ _ hne).trans (hwb.block tb (heap_lt H1.out)))
        have HX3 : Hid ((wb.setCell ⟨b, k, none⟩ (.slice (some ⟨wr.heap.size, 0, none⟩) bs[k].length C)).heap[w.heap.size]? = wr.heap[w.heap.size]?) := Lib.hid ((Below.heap_setCell _ _ _ _ (by show w.heap.size ≠ b; omega)).trans (hwb.block w.heap.size (heap_lt H3.out)))
        have HWB := Lib.hid hwb
        have l4 : k < 64 := by omega
        have l5 : (k : Int) < 64 := by omega
        clear hcb hcs hrb hzb hbk hC hwb
        generalize bs[k] = s at *
        have hgr : g < wr.heap.size := Nat.lt_of_lt_of_le hlt HB.out.size
        have hgb : g ≠ b := by omega
        have S0 : wr.drew.cell? ⟨tb, 2, none⟩ = some (.slice (some ⟨b, 0, none⟩) n n) ∧ wr.drew.cell? ⟨g, 3 + k, none⟩ = some (.string (tx s)) := ⟨t2, cg⟩
        have S1 : wb.cell? ⟨tb, 2, none⟩ = some (.slice (some ⟨b, 0, none⟩) n n) ∧ wb.cell? ⟨g, 3 + k, none⟩ = some (.string (tx s)) := ⟨(HWB.out.cell (p := ⟨tb, 2, none⟩) (heap_lt H1.out)).trans t2, (HWB.out.cell (p := ⟨g, 3 + k, none⟩) hgr).trans cg⟩
        have S2 : (wb.setCell ⟨b, k, none⟩ (.slice (some ⟨wr.heap.size, 0, none⟩) s.length C)).cell? ⟨tb, 2, none⟩ = some (.slice (some ⟨b, 0, none⟩) n n) ∧ (wb.setCell ⟨b, k, none⟩ (.slice (some ⟨wr.heap.size, 0, none⟩) s.length C)).cell? ⟨g, 3 + k, none⟩ = some (.string (tx s)) := ⟨(World.cell?_of_block (Below.heap_setCell _ _ _ _ hne)).trans S1.1, (World.cell?_of_block (Below.heap_setCell _ _ _ _ hgb)).trans S1.2⟩
        go_wp2
        go_region_held (fun w' => w'.cell? ⟨tb, 2, none⟩ = some (.slice (some ⟨b, 0, none⟩) n n) ∧ w'.cell? ⟨g, 3 + k, none⟩ = some (.string (tx s)))
          (first | exact S0 | exact S1 | exact S2)
          (fail)
        go_wp2
        go_roundw
        case rel => exact ⟨k + 1, by omega, by go_num, HP, Lib.hid (HX1.out.trans H1.out), Lib.hid (HX3.out.trans H3.out), Lib.hid ((HB.out.trans (HWB.out.mono HB.out.size)).setCell (Nat.le_of_lt hlo2) _)⟩
        case measure => simp [intOf]; omega
      · have u0 : wr.cell? ⟨tb, 0, none⟩ = some (.int .i64 lab) := heap_cell H1.out
        have u1 : wr.cell? ⟨tb, 1, none⟩ = some (.int .i64 most) := heap_cell H1.out
        have u3 : wr.cell? ⟨tb, 3, none⟩ = some (.bool false) := heap_cell H1.out
        have v0 : wr.cell? ⟨w.heap.size, 0, none⟩ = some (.int .i64 0) := heap_cell H3.out
        have v1 : wr.cell? ⟨w.heap.size, 1, none⟩ = some (.int .i64 0) := heap_cell H3.out
        have v2 : wr.cell? ⟨w.heap.size, 2, none⟩ = some (.slice none 0 0) := heap_cell H3.out
        have v3 : wr.cell? ⟨w.heap.size, 3, none⟩ = some (.bool false) := heap_cell H3.out
        have y0 : wr.frozen? ⟨w.heap.size, 0, none⟩ = false := heap_frozen H3.out
        have y1 : wr.frozen? ⟨w.heap.size, 1, none⟩ = false := heap_frozen H3.out
        have y2 : wr.frozen? ⟨w.heap.size, 2, none⟩ = false := heap_frozen H3.out
        have y3 : wr.frozen? ⟨w.heap.size, 3, none⟩ = false := heap_frozen H3.out
        go_wp2
        refine bodyPost_ret (v := .agg #[.int .i64 lab, .int .i64 most, .slice (some ⟨b, 0, none⟩) n n, .bool false]) (by simp [results, Tryd.results36, go_sem, v0, v1, v2, v3]) rfl ⟨some ⟨b, 0, none⟩, n, by rw [← HN.out], by rw [← HN.out]; exact Nat.le_refl _, ?_, ?_⟩
        · have hkn : k = bs.length := by rw [← HN.out]; omega
          have hL := HL.out
          rw [hkn] at hL
          have hK : Kp (· = w.heap.size) wr ((((wr.setCell ⟨w.heap.size, 0, none⟩ (.int .i64 lab)).setCell ⟨w.heap.size, 1, none⟩ (.int .i64 most)).setCell ⟨w.heap.size, 2, none⟩ (.slice (some ⟨b, 0, none⟩) n n)).setCell ⟨w.heap.size, 3, none⟩ (.bool false)) := (((Kp.store _ _ _ _).trans (Kp.store _ _ _ _)).trans (Kp.store _ _ _ _)).trans (Kp.store _ _ _ _)
          exact (hL.rdB.kp hK (fun x hx hx' => by omega)).mono fun x hx => by omega
        · exact (((HB.out.setCell (Nat.le_refl _) _).setCell (Nat.le_refl _) _).setCell (Nat.le_refl _) _).setCell (Nat.le_refl _) _
  · -- the variable first
    have hB1 : Below w.heap.size w (((wa.alloc (.cells #[.int .i64 lab, .int .i64 most, .slice (some ⟨wa.heap.size + 1, 0, none⟩) n n, .bool false] 35)).alloc (.cells (madeCells #[.slice none 0 0] n) 26)).drew) := (HBA.out.alloc HBA.out.size _).alloc (by have := HBA.out.size; simp; omega) _ |>.drew
    have h1 : (((wa.alloc (.cells #[.int .i64 lab, .int .i64 most, .slice (some ⟨wa.heap.size + 1, 0, none⟩) n n, .bool false] 35)).alloc (.cells (madeCells #[.slice none 0 0] n) 26)).drew).heap[wa.heap.size]? = some (.cells #[.int .i64 lab, .int .i64 most, .slice (some ⟨(wa.heap.size + 1), 0, none⟩) n n, .bool false] 35 (0, 0)) := (Below.heap_alloc _ _ _ (by simp)).trans (Go.Deep.blk_alloc_new _ _)
    have h2 : (((wa.alloc (.cells #[.int .i64 lab, .int .i64 most, .slice (some ⟨wa.heap.size + 1, 0, none⟩) n n, .bool false] 35)).alloc (.cells (madeCells #[.slice none 0 0] n) 26)).drew).heap[(wa.heap.size + 1)]? = some (.cells (madeCells #[.slice none 0 0] n) 26 (0, 0)) := alloc_at2 _ _ _
    have h3 : (((wa.alloc (.cells #[.int .i64 lab, .int .i64 most, .slice (some ⟨wa.heap.size + 1, 0, none⟩) n n, .bool false] 35)).alloc (.cells (madeCells #[.slice none 0 0] n) 26)).drew).heap[w.heap.size]? = some (.cells #[.int .i64 0, .int .i64 0, .slice none 0 0, .bool false] 35 (0, 0)) := ((Below.heap_alloc _ _ _ (by simp; omega)).trans (Below.heap_alloc _ _ _ hza)).trans HRA.out
    have hlo1 : w.heap.size < wa.heap.size := by omega
    have hlo2 : w.heap.size < (wa.heap.size + 1) := by omega
    have hne : wa.heap.size ≠ (wa.heap.size + 1) := by omega
    generalize ((wa.alloc (.cells #[.int .i64 lab, .int .i64 most, .slice (some ⟨wa.heap.size + 1, 0, none⟩) n n, .bool false] 35)).alloc (.cells (madeCells #[.slice none 0 0] n) 26)).drew = wx at hB1 h1 h2 h3 ⊢
    generalize wa.heap.size + 1 = b at h1 h2 hlo1 hlo2 hne ⊢
    generalize wa.heap.size = tb at h1 h2 hlo1 hlo2 hne ⊢
    have HL0 : Hid (LaidK wx (w.heap.size + 1) b n 0 bs) := Lib.hid ⟨hlo2, _, h2, by rw [size_madeCells], fun i _ h => absurd h (by omega)⟩
    have t2 : wx.cell? ⟨tb, 2, none⟩ = some (.slice (some ⟨b, 0, none⟩) n n) := heap_cell h1
    have H1 := Lib.hid h1
    have H3 := Lib.hid h3
    have HB1 := Lib.hid hB1
    clear h1 h2 h3 hB1 a0 a1 a2 b0 b1 b2 n0 n1 n2 HBA HRA hza hga
    go_wp2
    go_loopw [25] (fun i wr => ∃ k : Nat, k ≤ n ∧ i = .int .i64 (k : Int) ∧ Hid (LaidK wr (w.heap.size + 1) b n k bs) ∧ Hid (wr.heap[tb]? = some (.cells #[.int .i64 lab, .int .i64 most, .slice (some ⟨b, 0, none⟩) n n, .bool false] 35 (0, 0))) ∧ Hid (wr.heap[w.heap.size]? = some (.cells #[.int .i64 0, .int .i64 0, .slice none 0 0, .bool false] 35 (0, 0))) ∧ Hid (Below w.heap.size w wr)) (fun i _ => n - (intOf i).toNat)
    case atStart => exact ⟨0, by omega, rfl, HL0, H1, H3, HB1⟩
    case round =>
      clear HL0 H1 H3 HB1 t2
      obtain ⟨k, hk, rfl, HL, H1, H3, HB⟩ := hrel
      have t2 : wr.cell? ⟨tb, 2, none⟩ = some (.slice (some ⟨b, 0, none⟩) n n) := heap_cell H1.out
      by_cases hlt' : k < n
      · have kb : k < bs.length := by rw [← HN.out]; exact hlt'
        have cg := (HB.out.cell (p := ⟨g, 3 + k, none⟩) hlt).trans (HS.out.mem.cs kb)
        obtain ⟨c, hcb, hcs, _⟩ := HL.out.blk
        have hbl := heap_lt hcb
        obtain ⟨C, hC, hcv⟩ := bytes_conv wr.drew bs[k]
        have hwb : Below wr.heap.size wr (Lib.bytesWorld wr.drew 5 (tx bs[k])) := (Below.refl _ wr).drew.trans (below_bytes wr.drew _ _)
        have hrb : RdL (Lib.bytesWorld wr.drew 5 (tx bs[k])) (some ⟨wr.heap.size, 0, none⟩) bs[k] (· = wr.heap.size) := rd_bytes wr.drew bs[k]
        have hzb : wr.heap.size < (Lib.bytesWorld wr.drew 5 (tx bs[k])).heap.size := by rw [Lib.bytesWorld_size]; exact Nat.lt_succ_self _
        have hcv' : (convert 9 26 (.string (tx bs[k]))).run Tryd.prog wr.drew = .ok (.slice (some ⟨wr.heap.size, 0, none⟩) bs[k].length C) (Lib.bytesWorld wr.drew 5 (tx bs[k])) := hcv
        clear hcv
        generalize Lib.bytesWorld wr.drew 5 (tx bs[k]) = wb at hwb hrb hcv' hzb
        have hbk := (hwb.block b hbl).trans hcb
        obtain ⟨vk, cbk⟩ : ∃ v, wb.cell? ⟨b, k, none⟩ = some v := ⟨_, by rw [heap_cell hbk]; exact Array.getElem?_eq_getElem (by omega)⟩
        have fbk : wb.frozen? ⟨b, k, none⟩ = false := heap_frozen hbk
        have HP := Lib.hid (HL.out.push hwb kb hlt' (C := C) (heap_lt H3.out) (Nat.le_refl _) hzb hC hrb)
        have HX1 : Hid ((wb.setCell ⟨b, k, none⟩ (.slice (some ⟨wr.heap.size, 0, none⟩) bs[k].length C)).heap[tb]? = wr.heap[tb]?) := Lib.hid ((Below.heap_setCell _ _ _ _ hne).trans (hwb.block tb (heap_lt H1.out)))
        have HX3 : Hid ((wb.setCell ⟨b, k, none⟩ (.slice (some ⟨wr.heap.size, 0, none⟩) bs[k].length C)).heap[w.heap.size]? = wr.heap[w.heap.size]?) := Lib.hid ((Below.heap_setCell _ _ _ _ (by show w.heap.size ≠ b; omega)).trans (hwb.block w.heap.size (heap_lt H3.out)))
        have HWB := Lib.hid hwb
        have l4 : k < 64 := by omega
        have l5 : (k : Int) < 64 := by omega
        clear hcb hcs hrb hzb hbk hC hwb
        generalize bs[k] = s at *
        have hgr : g < wr.heap.size := Nat.lt_of_lt_of_le hlt HB.out.size
        have hgb : g ≠ b := by omega
        have S0 : wr.drew.cell? ⟨tb, 2, none⟩ = some (.slice (some ⟨b, 0, none⟩) n n) ∧ wr.drew.cell? ⟨g, 3 + k, none⟩ = some (.string (tx s)) := ⟨t2, cg⟩
        have S1 : wb.cell? ⟨tb, 2, none⟩ = some (.slice (some ⟨b, 0, none⟩) n n) ∧ wb.cell? ⟨g, 3 + k, none⟩ = some (.string (tx s)) := ⟨(HWB.out.cell (p := ⟨tb, 2, none⟩) (heap_lt H1.out)).trans t2, (HWB.out.cell (p := ⟨g, 3 + k, none⟩) hgr).trans cg⟩
        have S2 : (wb.setCell ⟨b, k, none⟩ (.slice (some ⟨wr.heap.size, 0, none⟩) s.length C)).cell? ⟨tb, 2, none⟩ = some (.slice (some ⟨b, 0, none⟩) n n) ∧ (wb.setCell ⟨b, k, none⟩ (.slice (some ⟨wr.heap.size, 0, none⟩) s.length C)).cell? ⟨g, 3 + k, none⟩ = some (.string (tx s)) := ⟨(World.cell?_of_block (Below.heap_setCell _ _ _ _ hne)).trans S1.1, (World.cell?_of_block (Below.heap_setCell _ _ _ _ hgb)).trans S1.2⟩
        go_wp2
        go_region_held (fun w' => w'.cell? ⟨tb, 2, none⟩ = some (.slice (some ⟨b, 0, none⟩) n n) ∧ w'.cell? ⟨g, 3 + k, none⟩ = some (.string (tx s)))
          (first | exact S0 | exact S1 | exact S2)
          (fail)
        go_wp2
        go_roundw
        case rel => exact ⟨k + 1, by omega, by go_num, HP, Lib.hid (HX1.out.trans H1.out), Lib.hid (HX3.out.trans H3.out), Lib.hid ((HB.out.trans (HWB.out.mono HB.out.size)).setCell (Nat.le_of_lt hlo2) _)⟩
        case measure => simp [intOf]; omega
      · have u0 : wr.cell? ⟨tb, 0, none⟩ = some (.int .i64 lab) := heap_cell H1.out
        have u1 : wr.cell? ⟨tb, 1, none⟩ = some (.int .i64 most) := heap_cell H1.out
        have u3 : wr.cell? ⟨tb, 3, none⟩ = some (.bool false) := heap_cell H1.out
        have v0 : wr.cell? ⟨w.heap.size, 0, none⟩ = some (.int .i64 0) := heap_cell H3.out
        have v1 : wr.cell? ⟨w.heap.size, 1, none⟩ = some (.int .i64 0) := heap_cell H3.out
        have v2 : wr.cell? ⟨w.heap.size, 2, none⟩ = some (.slice none 0 0) := heap_cell H3.out
        have v3 : wr.cell? ⟨w.heap.size, 3, none⟩ = some (.bool false) := heap_cell H3.out
        have y0 : wr.frozen? ⟨w.heap.size, 0, none⟩ = false := heap_frozen H3.out
        have y1 : wr.frozen? ⟨w.heap.size, 1, none⟩ = false := heap_frozen H3.out
        have y2 : wr.frozen? ⟨w.heap.size, 2, none⟩ = false := heap_frozen H3.out
        have y3 : wr.frozen? ⟨w.heap.size, 3, none⟩ = false := heap_frozen H3.out
        go_wp2
        refine bodyPost_ret (v := .agg #[.int .i64 lab, .int .i64 most, .slice (some ⟨b, 0, none⟩) n n, .bool false]) (by simp [results, Tryd.results36, go_sem, v0, v1, v2, v3]) rfl ⟨some ⟨b, 0, none⟩, n, by rw [← HN.out], by rw [← HN.out]; exact Nat.le_refl _, ?_, ?_⟩
        · have hkn : k = bs.length := by rw [← HN.out]; omega
          have hL := HL.out
          rw [hkn] at hL
          have hK : Kp (· = w.heap.size) wr ((((wr.setCell ⟨w.heap.size, 0, none⟩ (.int .i64 lab)).setCell ⟨w.heap.size, 1, none⟩ (.int .i64 most)).setCell ⟨w.heap.size, 2, none⟩ (.slice (some ⟨b, 0, none⟩) n n)).setCell ⟨w.heap.size, 3, none⟩ (.bool false)) := (((Kp.store _ _ _ _).trans (Kp.store _ _ _ _)).trans (Kp.store _ _ _ _)).trans (Kp.store _ _ _ _)
          exact (hL.rdB.kp hK (fun x hx hx' => by omega)).mono fun x hx => by omega
        · exact (((HB.out.setCell (Nat.le_refl _) _).setCell (Nat.le_refl _) _).setCell (Nat.le_refl _) _).setCell (Nat.le_refl _) _
end Go.Proofs.YtndofmoepjfnfaaDoor
namespace Go.Proofs.YtndofmoepjfnfaaDoor
open Go.RowKit
open Pt (Tx)

theorem append_more (g : Nat) (lab most : Int) (cs : List Tx) (A : Option Addr) (s : Tx) (n c : Nat) (G : Nat → Prop) (w : World) (h : Dr w g lab most cs) (hn : s.length = n) (hr : RdL w A s G) :
    Calls Tryd.prog 35 #[.pointer (some ⟨g, 0, none⟩), .slice A n c] w (fun e w' => ∃ k, e = .returned (.int .i64 k) ∧ Dr w' g lab most (Wk.more most cs s) ∧ Kp (· = g) w w') := by
  unfold Wk.more
  by_cases h1 : s.length < 1 ∨ 94 < s.length
  · rw [if_pos h1]
    exact (append_bad g A n c w (by rw [← hn]; exact h1)).mono fun e w' ⟨he, hw⟩ => hw ▸ ⟨1, he, h, Kp.refl _ _⟩
  · rw [if_neg h1]
    by_cases h2 : most ≤ (cs.length : Int)
    · rw [if_pos h2]
      exact (append_full g lab most cs A n c w h (by omega) (by omega) h2).mono fun e w' ⟨he, q, hw⟩ => by
        subst hw
        exact ⟨6, he, h.of_block rfl, (Kp.refl _ _).drewN _⟩
    · rw [if_neg h2]
      exact (append_ok g lab most cs A s n c G w h hn (by omega) (by omega) (by omega) hr).mono fun e w' ⟨he, h3, h4⟩ => ⟨0, he, h3, h4⟩
theorem load_no (lab cap : Int) (A : Option Addr) (bs : List Tx) (n C : Nat) (lost : Bool) (G : Nat → Prop) (w : World) (hn : n = bs.length) (hr : RdB w A bs G) (hT : Tp.loadE lab cap bs lost ≠ 0) :
    ∃ k : Int, k ≠ 0 ∧ Calls Tryd.prog 33 #[.agg #[.int .i64 lab, .int .i64 cap, .slice A n C, .bool lost]] w (LoadNo k w) := by
  subst hn
  unfold Tp.loadE at hT
  by_cases h : Tp.right lab cap bs = false
  · exact ⟨1, by decide, load_arg lab cap A bs C lost G w hr h⟩
  · rw [if_neg h] at hT
    have hr' : Tp.right lab cap bs = true := by cases hx : Tp.right lab cap bs with
      | true => rfl
      | false => exact absurd hx h
    cases lost with
    | true => exact ⟨9, by decide, load_lost lab cap A bs C G w hr hr'⟩
    | false => exact absurd rfl hT
theorem load_yes (lab cap : Int) (A : Option Addr) (bs : List Tx) (n C : Nat) (lost : Bool) (G : Nat → Prop) (w : World) (hn : n = bs.length) (hr : RdB w A bs G) (hT : Tp.loadE lab cap bs lost = 0) :
    lost = false ∧ Calls Tryd.prog 33 #[.agg #[.int .i64 lab, .int .i64 cap, .slice A n C, .bool lost]] w (LoadOk lab cap bs w) := by
  obtain ⟨h1, h2⟩ := Wr.load_ok (t := ⟨lab, cap, bs, lost⟩) hT
  have h2' : lost = false := h2
  subst h2' hn
  exact ⟨rfl, load_ok lab cap A bs C G w hr h1⟩
set_option maxRecDepth 100000 in
set_option maxHeartbeats 4000000 in
theorem appended_no (lab cap : Int) (A : Option Addr) (bs : List Tx) (n C : Nat) (lost : Bool) (G : Nat → Prop) (A2 : Option Addr) (n2 C2 : Nat) (w : World) (hn : n = bs.length) (hm : n ≤ 1000000) (hr : RdB w A bs G) (hl : ∀ s ∈ bs, s.length ≤ 1000000) (hT : Tp.loadE lab cap bs lost ≠ 0) :
    Calls Tryd.prog 17 #[.agg #[.int .i64 lab, .int .i64 cap, .slice A n C, .bool lost], .slice A2 n2 C2] w (TapeA ⟨lab, cap, bs, lost⟩ w) := by
  obtain ⟨w1, hw1⟩ : ∃ x, x = (w.alloc (tapeObj lab cap A n C lost)).alloc (tapeObj 0 0 none 0 0 false) := ⟨_, rfl⟩
  have b1 : Below w.heap.size w w1 := by rw [hw1]; exact ((Below.refl _ _).alloc (Nat.le_refl _) _).alloc (by simp) _
  have s0 : (w.alloc (tapeObj lab cap A n C lost)).heap.size = w.heap.size + 1 := by simp
  have kT : w1.heap[w.heap.size]? = some (tapeObj lab cap A n C lost) := by
    rw [hw1, ((Below.refl _ _).alloc (Nat.le_refl _) _ : Below (w.alloc (tapeObj lab cap A n C lost)).heap.size _ _).block _ (by simp)]
    exact Go.Deep.blk_alloc_new _ _
  have kR : w1.heap[w.heap.size + 1]? = some (tapeObj 0 0 none 0 0 false) := by
    have := Go.Deep.blk_alloc_new (w.alloc (tapeObj lab cap A n C lost)) (tapeObj 0 0 none 0 0 false)
    rw [s0] at this
    rw [hw1]; exact this
  have HW1 : Hid (w1 = (w.alloc (.cells #[.int .i64 lab, .int .i64 cap, .slice A n C, .bool lost] 35)).alloc (.cells #[.int .i64 0, .int .i64 0, .slice none 0 0, .bool false] 35)) := Lib.hid hw1
  obtain ⟨k, hk, hcl⟩ := load_no lab cap A bs n C lost _ w1 hn (hr.old b1) hT
  have HC := Lib.hid hcl
  have HB1 := Lib.hid b1
  have HT1 := Lib.hid kT
  have HR1 := Lib.hid kR
  have HN := Lib.hid hn
  have HL := Lib.hid hl
  have HRR := Lib.hid (hr.old b1)
  have hs1 : w.heap.size + 2 ≤ w1.heap.size := by have := heap_lt kR; omega
  have k0 : (k == 0) = false := beq_eq_false_iff_ne.2 hk
  obtain ⟨t0, t1, t2, t3⟩ := tape4 kT
  clear hw1 b1 s0 kT kR hr hn hl hcl hT
  go_enter Tryd.func17, Tryd.ntmps17
  go_upto_region 1 with fail
  rw [← HW1.out]
  go_upto_region 2 with (go_at_call 33; refine HC.out.mono ?_; rintro e w2 ⟨rfl, hb2⟩; have HB2 := Lib.hid hb2; clear hb2 t0 t1 t2 t3)
  obtain ⟨t0, t1, t2, t3⟩ := tape4 ((HB2.out.block _ (heap_lt HT1.out)).trans HT1.out)
  have HCT := Lib.hid (cloneT_any lab cap A bs n C lost _ w2 HN.out hm (HRR.out.old HB2.out) HL.out)
  have f3 : ∀ (y : World), Below w2.heap.size w2 y → y.heap[w.heap.size + 1]? = some (tapeObj 0 0 none 0 0 false) := fun y hy => by
    have h2 := (HB2.out.block _ (heap_lt HR1.out)).trans HR1.out
    exact (hy.block _ (heap_lt h2)).trans h2
  go_wp2_with (go_at_call 34; refine HCT.out.mono ?_; rintro e w3 ⟨A3, C3, rfl, hr3, hb3⟩; have HR3 := Lib.hid hr3; have HB3 := Lib.hid hb3; have hR := f3 w3 hb3; obtain ⟨x0, x1, x2, x3⟩ := tape4 hR; have fr : ∀ j, w3.frozen? ⟨w.heap.size + 1, j, none⟩ = false := fun j => heap_frozen hR; have HRR3 := Lib.hid hR; clear hr3 hb3 hR)
  have h := tape_set HRR3.out (.int .i64 lab) (.int .i64 cap) (.slice A3 bs.length C3) (.bool lost)
  have hkp := tape_kp w3 (w.heap.size + 1) (.int .i64 lab) (.int .i64 cap) (.slice A3 bs.length C3) (.bool lost)
  have z0 := heap_cell (j := 0) h
  have z1 := heap_cell (j := 1) h
  have z2 := heap_cell (j := 2) h
  have z3 := heap_cell (j := 3) h
  have hsz := HB2.out.size
  have hrd := (HR3.out.kp hkp (fun b hb e => by have : w2.heap.size ≤ b := hb; omega)).mono (G' := (w.heap.size ≤ ·)) fun b hb => by have : w2.heap.size ≤ b := hb; omega
  have hbb := HB1.out.trans ((HB2.out.trans (HB3.out.mono HB2.out.size)).mono HB1.out.size)
  exact bodyPost_ret (v := .agg #[.int .i64 lab, .int .i64 cap, .slice A3 bs.length C3, .bool lost]) (by simp [results, Tryd.results17, go_sem, z0, z1, z2, z3]) rfl ⟨A3, C3, rfl, hrd, hbb.trans (hkp.below hbb.size fun q hq => by omega)⟩
set_option maxRecDepth 100000 in
set_option maxHeartbeats 4000000 in
theorem appended_yes (lab cap : Int) (A : Option Addr) (bs : List Tx) (n C : Nat) (lost : Bool) (G : Nat → Prop) (A2 : Option Addr) (xs : List Tx) (n2 C2 : Nat) (G2 : Nat → Prop) (w : World) (hn : n = bs.length) (hr : RdB w A bs G) (hn2 : n2 = xs.length) (hm2 : n2 ≤ 1000000) (hr2 : RdB w A2 xs G2) (hT : Tp.loadE lab cap bs lost = 0) :
    Calls Tryd.prog 17 #[.agg #[.int .i64 lab, .int .i64 cap, .slice A n C, .bool lost], .slice A2 n2 C2] w (TapeA ⟨lab, cap, xs.foldl (Wk.more cap) bs, false⟩ w) := by
  obtain ⟨w1, hw1⟩ : ∃ x, x = (w.alloc (tapeObj lab cap A n C lost)).alloc (tapeObj 0 0 none 0 0 false) := ⟨_, rfl⟩
  have b1 : Below w.heap.size w w1 := by rw [hw1]; exact ((Below.refl _ _).alloc (Nat.le_refl _) _).alloc (by simp) _
  have s0 : (w.alloc (tapeObj lab cap A n C lost)).heap.size = w.heap.size + 1 := by simp
  have kT : w1.heap[w.heap.size]? = some (tapeObj lab cap A n C lost) := by
    rw [hw1, ((Below.refl _ _).alloc (Nat.le_refl _) _ : Below (w.alloc (tapeObj lab cap A n C lost)).heap.size _ _).block _ (by simp)]
    exact Go.Deep.blk_alloc_new _ _
  have kR : w1.heap[w.heap.size + 1]? = some (tapeObj 0 0 none 0 0 false) := by
    have := Go.Deep.blk_alloc_new (w.alloc (tapeObj lab cap A n C lost)) (tapeObj 0 0 none 0 0 false)
    rw [s0] at this
    rw [hw1]; exact this
  have HW1 : Hid (w1 = (w.alloc (.cells #[.int .i64 lab, .int .i64 cap, .slice A n C, .bool lost] 35)).alloc (.cells #[.int .i64 0, .int .i64 0, .slice none 0 0, .bool false] 35)) := Lib.hid hw1
  obtain ⟨-, hcl⟩ := load_yes lab cap A bs n C lost _ w1 hn (hr.old b1) hT
  have HC := Lib.hid hcl
  have HB1 := Lib.hid b1
  have HR1 := Lib.hid kR
  have HN2 := Lib.hid hn2
  have HRR := Lib.hid ((hr2.in_).old b1)
  have hs1 : w.heap.size + 2 ≤ w1.heap.size := by have := heap_lt kR; omega
  obtain ⟨t0, t1, t2, t3⟩ := tape4 kT
  clear hw1 b1 s0 kT kR hr hn hn2 hr2 hcl hT
  go_enter Tryd.func17, Tryd.ntmps17
  go_upto_region 1 with fail
  rw [← HW1.out]
  go_upto_region 4 with (go_at_call 33; refine HC.out.mono ?_; rintro e w2 ⟨g, rfl, hg, hd, hb2⟩; have HB2 := Lib.hid hb2; have HD2 := Lib.hid hd; clear hb2 hd t0 t1 t2 t3)
  have HR2 := Lib.hid ((HB2.out.block _ (heap_lt HR1.out)).trans HR1.out)
  have HX2 := Lib.hid (HRR.out.old HB2.out)
  have hsz := HB2.out.size
  go_wp2
  go_loopw [20] (fun vi wr => ∃ (k : Nat), k ≤ n2 ∧ vi = .int .i64 (k : Int) ∧ Hid (Dr wr g lab cap ((xs.take k).foldl (Wk.more cap) bs)) ∧ Hid (Kp (· = g) w2 wr)) (fun vi _ => n2 - (intOf vi).toNat)
  case atStart => exact ⟨0, Nat.zero_le _, rfl, Lib.hid (by rw [List.take_zero]; exact HD2.out), Lib.hid (Kp.refl _ _)⟩
  case round =>
    obtain ⟨k, hk, rfl, HD, HK⟩ := hrel
    by_cases hlt : k < n2
    · have e1 : decide (k < n2) = true := decide_eq_true hlt
      have hlx : k < xs.length := by rw [← HN2.out]; exact hlt
      obtain ⟨b, off, A', C', rfl, -, c0, c1, c2, c3⟩ := (HX2.out.kp HK.out (fun b hb e => by have := hb.2; omega)).at_ hlx
      have hnext : (xs.take (k + 1)).foldl (Wk.more cap) bs = Wk.more cap ((xs.take k).foldl (Wk.more cap) bs) xs[k] := by rw [List.take_succ_eq_append_getElem hlx, List.foldl_append]; rfl
      obtain ⟨N, hN⟩ : ∃ N, N = xs[k].length := ⟨_, rfl⟩
      rw [← hN] at c0
      have HAP := Lib.hid (append_more g lab cap _ A' xs[k] N C' _ wr HD.out hN.symm c3)
      rw [← hnext] at HAP
      clear hnext hN c1 c2 c3
      go_wp2_with (go_at_call 35; refine HAP.out.mono ?_; rintro e w3 ⟨r, rfl, hd3, hk3⟩; have HD3 := Lib.hid hd3; have HK3 := Lib.hid (HK.out.trans hk3); clear hd3 hk3 c0)
      go_roundw
      case rel => exact ⟨k + 1, by omega, by go_num, HD3, HK3⟩
      case measure => simp [intOf]; omega
    · have e1 : decide (k < n2) = false := decide_eq_false hlt
      have hall : xs.take k = xs := List.take_of_length_le (by rw [← HN2.out]; omega)
      rw [hall] at HD
      obtain ⟨ys, hys⟩ : ∃ ys, ys = xs.foldl (Wk.more cap) bs := ⟨_, rfl⟩
      rw [← hys] at HD
      have HYS := Lib.hid hys
      have HTA := Lib.hid (tape_any g lab cap ys wr HD.out)
      have f3 : ∀ (y : World), Below wr.heap.size wr y → y.heap[w.heap.size + 1]? = some (tapeObj 0 0 none 0 0 false) := fun y hy => by
        have h2 := (HK.out.block _ (heap_lt HR2.out) (by show ¬ _ = _; omega)).trans HR2.out
        exact (hy.block _ (heap_lt h2)).trans h2
      clear hys hall hlt
      go_wp2_with (go_at_call 36; refine HTA.out.mono ?_; rintro e w3 ⟨A3, C3, rfl, -, hr3, hb3⟩; have HR3 := Lib.hid hr3; have HB3 := Lib.hid hb3; have hR := f3 w3 hb3; obtain ⟨x0, x1, x2, x3⟩ := tape4 hR; have fr : ∀ j, w3.frozen? ⟨w.heap.size + 1, j, none⟩ = false := fun j => heap_frozen hR; have HRR3 := Lib.hid hR; clear hr3 hb3 hR)
      have h := tape_set HRR3.out (.int .i64 lab) (.int .i64 cap) (.slice A3 ys.length C3) (.bool false)
      have hkp := tape_kp w3 (w.heap.size + 1) (.int .i64 lab) (.int .i64 cap) (.slice A3 ys.length C3) (.bool false)
      have z0 := heap_cell (j := 0) h
      have z1 := heap_cell (j := 1) h
      have z2 := heap_cell (j := 2) h
      have z3 := heap_cell (j := 3) h
      have hszr := HK.out.size
      have hrd := (HR3.out.kp hkp (fun b hb e => by have : wr.heap.size ≤ b := hb; omega)).mono (G' := (w.heap.size ≤ ·)) fun b hb => by have : wr.heap.size ≤ b := hb; omega
      have hbb := (HB1.out.trans (HB2.out.mono HB1.out.size)).trans (HK.out.below (by omega) fun q hq => by omega)
      have hbb2 := hbb.trans (HB3.out.mono hbb.size)
      rw [← HYS.out]
      exact bodyPost_ret (v := .agg #[.int .i64 lab, .int .i64 cap, .slice A3 ys.length C3, .bool false]) (by simp [results, Tryd.results17, go_sem, z0, z1, z2, z3]) rfl ⟨A3, C3, rfl, hrd, hbb2.trans (hkp.below hbb2.size fun q hq => by omega)⟩
/-- in all -/
theorem appended_any (lab cap : Int) (A : Option Addr) (bs : List Tx) (n C : Nat) (lost : Bool) (G : Nat → Prop) (A2 : Option Addr) (xs : List Tx) (n2 C2 : Nat) (G2 : Nat → Prop) (w : World) (hn : n = bs.length) (hm : n ≤ 1000000) (hr : RdB w A bs G) (hl : ∀ s ∈ bs, s.length ≤ 1000000) (hn2 : n2 = xs.length) (hm2 : n2 ≤ 1000000) (hr2 : RdB w A2 xs G2) :
    Calls Tryd.prog 17 #[.agg #[.int .i64 lab, .int .i64 cap, .slice A n C, .bool lost], .slice A2 n2 C2] w (TapeA (Wk.ap ⟨lab, cap, bs, lost⟩ xs) w) := by
  by_cases h : Tp.loadE lab cap bs lost = 0
  · have hf := (Wr.load_ok (t := ⟨lab, cap, bs, lost⟩) h).2
    have hf' : lost = false := hf
    have := appended_yes lab cap A bs n C lost G A2 xs n2 C2 G2 w hn hr hn2 hm2 hr2 h
    subst hf'
    rw [Wk.ap_ok h]
    exact this
  · rw [Wk.ap_no (t := ⟨lab, cap, bs, lost⟩) h]
    exact appended_no lab cap A bs n C lost G A2 n2 C2 w hn hm hr hl h
end Go.Proofs.YtndofmoepjfnfaaDoor
