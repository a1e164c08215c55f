/- The tape as it is now. -/
import Derived.Test.YtflcnghjhgfkfaaTpB
import Derived.Deep.RegionHeld3
namespace Go.Proofs.Ytflcnghjhgfkfaa
open Go.RowKit
open Pt (Tx)

theorem infoRow : (Try.prog.info? 35).map (fun i => (i.zero, i.size, i.bytes)) = some (some (.slice none 0 0), 1, 24) := by kernel_rfl
/-- what Tape answers: in new memory -/
def TapeAns (lab most : Int) (bs : List Tx) (w : World) (e : Ending) (w' : World) : Prop :=
  ∃ A C, e = .returned (.agg #[.int .i64 lab, .int .i64 most, .slice A bs.length C, .bool false]) ∧ bs.length ≤ C ∧ RdB w' A bs (w.heap.size ≤ ·) ∧ Below w.heap.size w w'
/-- the first k rows are laid -/
structure LaidK (w : World) (B b n k : Nat) (bs : List Tx) : Prop where
  lo : B ≤ b
  blk : ∃ c, w.heap[b]? = some (.cells c 35 (0, 0)) ∧ c.size = n ∧ ∀ i (hi : i < bs.length), i < k → ∃ g C, c[i]? = some (.slice (some ⟨g, 0, none⟩) bs[i].length C) ∧ bs[i].length ≤ C ∧ B ≤ g ∧ g ≠ b ∧ g < w.heap.size ∧ RdL w (some ⟨g, 0, none⟩) bs[i] (· = g)
theorem LaidK.rdB {w : World} {B b n : Nat} {bs : List Tx} (h : LaidK w B b n bs.length bs) : RdB w (some ⟨b, 0, none⟩) bs (B ≤ ·) := by
  intro _
  obtain ⟨hlo, c, hb, _, hc⟩ := h
  refine ⟨b, 0, rfl, hlo, fun i hi => ?_⟩
  obtain ⟨g, C, h1, h2, h3, _, _, h4⟩ := hc i hi hi
  refine ⟨some ⟨g, 0, none⟩, C, ?_, h2, (fun h => by cases h), h4.mono (fun _ e => by rw [e]; exact h3)⟩
  rw [Nat.zero_add, heap_cell hb]; exact h1
theorem LaidK.push {w wb : World} {B b n k : Nat} {bs : List Tx} (h : LaidK w B b n k bs) (hw : Below w.heap.size w wb) (hk : k < bs.length) (hn : k < n) {g C : Nat} (hB : B ≤ g) (hg : w.heap.size ≤ g) (hg' : g < wb.heap.size) (hC : bs[k].length ≤ C) (hr : RdL wb (some ⟨g, 0, none⟩) bs[k] (· = g)) :
    LaidK (wb.setCell ⟨b, k, none⟩ (.slice (some ⟨g, 0, none⟩) bs[k].length C)) B b n (k + 1) bs := by
  obtain ⟨hlo, c, hb, hs, hc⟩ := h
  have hbl := heap_lt hb
  have hsz : wb.heap.size = (wb.setCell ⟨b, k, none⟩ (.slice (some ⟨g, 0, none⟩) bs[k].length C)).heap.size := by simp [World.setCell]
  refine ⟨hlo, _, heap_set ((hw.block b hbl).trans hb) _, by simpa using hs, fun i hi hik => ?_⟩
  by_cases e : k = i
  · subst e
    refine ⟨g, C, ?_, hC, hB, by omega, by rw [← hsz]; exact hg', hr.kp (Kp.store _ b k _) fun x hx hx' => by omega⟩
    rw [Array.getElem?_setIfInBounds, if_pos rfl, if_pos (by omega)]
  · obtain ⟨g', C', h1, h2, h3, h4, h5, h6⟩ := hc i hi (by omega)
    refine ⟨g', C', ?_, h2, h3, h4, by rw [← hsz]; exact Nat.lt_of_lt_of_le h5 hw.size, (h6.old hw).kp (Kp.store _ b k _) fun x hx hx' => h4 (hx.symm.trans hx')⟩
    rw [Array.getElem?_setIfInBounds, if_neg e]; exact h1
theorem alloc_at2 (w : World) (o1 o2 : Obj) : ((w.alloc o1).alloc o2).drew.heap[w.heap.size + 1]? = some o2 := by
  have h := Go.Deep.blk_alloc_new (w.alloc o1) o2
  have hz : (w.alloc o1).heap.size = w.heap.size + 1 := by simp
  rw [hz] at h
  exact h
set_option maxRecDepth 100000 in
set_option maxHeartbeats 2000000 in
theorem tape_any (g : Nat) (lab most : Int) (bs : List Tx) (w : World) (h : Dr w g lab most bs) :
    Calls Try.prog 24 #[.pointer (some ⟨g, 0, none⟩)] w (TapeAns lab most bs w) := by
  have hlt := h.lt
  have c0 := h.mem.c0
  have c1 := h.mem.c1
  have c2 := h.mem.c2
  have l6 := h.len64
  obtain ⟨n, hn⟩ : ∃ n, n = bs.length := ⟨_, rfl⟩
  rw [← hn] at c2 l6
  have hmk := run_make_row' (P := Try.prog) 22 35 (.slice none 0 0) 24 Try.underlying22 infoRow rfl .i64 .i64 n (by omega) (by omega)
  have HS := Lib.hid h
  have HN := Lib.hid hn
  clear h hn
  go_enter Try.func24, Try.ntmps24
  go_wp2
  have hBa : Below w.heap.size w (w.alloc (.cells #[.int .i64 0, .int .i64 0, .slice none 0 0, .bool false] 24)) := (Below.refl _ _).alloc (Nat.le_refl _) _
  have hra : (w.alloc (.cells #[.int .i64 0, .int .i64 0, .slice none 0 0, .bool false] 24)).heap[w.heap.size]? = some (.cells #[.int .i64 0, .int .i64 0, .slice none 0 0, .bool false] 24 (0, 0)) := Go.Deep.blk_alloc_new _ _
  have hza : w.heap.size < (w.alloc (.cells #[.int .i64 0, .int .i64 0, .slice none 0 0, .bool false] 24)).heap.size := heap_lt hra
  generalize w.alloc (.cells #[.int .i64 0, .int .i64 0, .slice none 0 0, .bool false] 24) = wa at hBa hra hza ⊢
  have a0 := (hBa.cell (p := ⟨g, 0, none⟩) hlt).trans c0
  have a1 := (hBa.cell (p := ⟨g, 1, none⟩) hlt).trans c1
  have a2 := (hBa.cell (p := ⟨g, 2, none⟩) hlt).trans c2
  have HBA := Lib.hid hBa
  have HRA := Lib.hid hra
  clear hBa hra c0 c1 c2
  have b0 : wa.drew.cell? ⟨g, 0, none⟩ = some (.int .i64 lab) := a0
  have b1 : wa.drew.cell? ⟨g, 1, none⟩ = some (.int .i64 most) := a1
  have b2 : wa.drew.cell? ⟨g, 2, none⟩ = some (.int .i64 (n : Int)) := a2
  have hga : g < wa.heap.size := Nat.lt_trans hlt hza
  have n0 := World.new_ne wa ⟨g, 0, none⟩ a0
  have n1 := World.new_ne wa ⟨g, 1, none⟩ a1
  have n2 := World.new_ne wa ⟨g, 2, none⟩ a2
  go_region_held3 (fun w' => w'.cell? ⟨g, 0, none⟩ = some (.int .i64 lab) ∧ w'.cell? ⟨g, 1, none⟩ = some (.int .i64 most) ∧ w'.cell? ⟨g, 2, none⟩ = some (.int .i64 (n : Int)))
    (go_keep)
    (fail)
  · -- the slice first
    have hB1 : Below w.heap.size w (((wa.alloc (.cells (madeCells #[.slice none 0 0] n) 35)).alloc (.cells #[.int .i64 lab, .int .i64 most, .slice (some ⟨wa.heap.size, 0, none⟩) n n, .bool false] 24)).drew) := (HBA.out.alloc HBA.out.size _).alloc (by have := HBA.out.size; simp; omega) _ |>.drew
    have h1 : (((wa.alloc (.cells (madeCells #[.slice none 0 0] n) 35)).alloc (.cells #[.int .i64 lab, .int .i64 most, .slice (some ⟨wa.heap.size, 0, none⟩) n n, .bool false] 24)).drew).heap[(wa.heap.size + 1)]? = some (.cells #[.int .i64 lab, .int .i64 most, .slice (some ⟨wa.heap.size, 0, none⟩) n n, .bool false] 24 (0, 0)) := alloc_at2 _ _ _
    have h2 : (((wa.alloc (.cells (madeCells #[.slice none 0 0] n) 35)).alloc (.cells #[.int .i64 lab, .int .i64 most, .slice (some ⟨wa.heap.size, 0, none⟩) n n, .bool false] 24)).drew).heap[wa.heap.size]? = some (.cells (madeCells #[.slice none 0 0] n) 35 (0, 0)) := (Below.heap_alloc _ _ _ (by simp)).trans (Go.Deep.blk_alloc_new _ _)
    have h3 : (((wa.alloc (.cells (madeCells #[.slice none 0 0] n) 35)).alloc (.cells #[.int .i64 lab, .int .i64 most, .slice (some ⟨wa.heap.size, 0, none⟩) n n, .bool false] 24)).drew).heap[w.heap.size]? = some (.cells #[.int .i64 0, .int .i64 0, .slice none 0 0, .bool false] 24 (0, 0)) := ((Below.heap_alloc _ _ _ (by simp; omega)).trans (Below.heap_alloc _ _ _ hza)).trans HRA.out
    have hlo1 : w.heap.size < (wa.heap.size + 1) := by omega
    have hlo2 : w.heap.size < wa.heap.size := by omega
    have hne : (wa.heap.size + 1) ≠ wa.heap.size := by omega
    generalize ((wa.alloc (.cells (madeCells #[.slice none 0 0] n) 35)).alloc (.cells #[.int .i64 lab, .int .i64 most, .slice (some ⟨wa.heap.size, 0, none⟩) n n, .bool false] 24)).drew = wx at hB1 h1 h2 h3 ⊢
    generalize wa.heap.size + 1 = tb at h1 h2 hlo1 hlo2 hne ⊢
    generalize wa.heap.size = b at h1 h2 hlo1 hlo2 hne ⊢
    have HL0 : Hid (LaidK wx (w.heap.size + 1) b n 0 bs) := Lib.hid ⟨hlo2, _, h2, by rw [size_madeCells], fun i _ h => absurd h (by omega)⟩
    have t2 : wx.cell? ⟨tb, 2, none⟩ = some (.slice (some ⟨b, 0, none⟩) n n) := heap_cell h1
    have H1 := Lib.hid h1
    have H3 := Lib.hid h3
    have HB1 := Lib.hid hB1
    clear h1 h2 h3 hB1 a0 a1 a2 b0 b1 b2 n0 n1 n2 HBA HRA hza hga
    go_wp2
    go_loopw [25] (fun i wr => ∃ k : Nat, k ≤ n ∧ i = .int .i64 (k : Int) ∧ Hid (LaidK wr (w.heap.size + 1) b n k bs) ∧ Hid (wr.heap[tb]? = some (.cells #[.int .i64 lab, .int .i64 most, .slice (some ⟨b, 0, none⟩) n n, .bool false] 24 (0, 0))) ∧ Hid (wr.heap[w.heap.size]? = some (.cells #[.int .i64 0, .int .i64 0, .slice none 0 0, .bool false] 24 (0, 0))) ∧ Hid (Below w.heap.size w wr)) (fun i _ => n - (intOf i).toNat)
    case atStart => exact ⟨0, by omega, rfl, HL0, H1, H3, HB1⟩
    case round =>
      clear HL0 H1 H3 HB1 t2
      obtain ⟨k, hk, rfl, HL, H1, H3, HB⟩ := hrel
      have t2 : wr.cell? ⟨tb, 2, none⟩ = some (.slice (some ⟨b, 0, none⟩) n n) := heap_cell H1.out
      by_cases hlt' : k < n
      · have kb : k < bs.length := by rw [← HN.out]; exact hlt'
        have cg := (HB.out.cell (p := ⟨g, 3 + k, none⟩) hlt).trans (HS.out.mem.cs kb)
        obtain ⟨c, hcb, hcs, _⟩ := HL.out.blk
        have hbl := heap_lt hcb
        obtain ⟨C, hC, hcv⟩ := bytes_conv wr.drew bs[k]
        have hwb : Below wr.heap.size wr (Lib.bytesWorld wr.drew 5 (tx bs[k])) := (Below.refl _ wr).drew.trans (below_bytes wr.drew _ _)
        have hrb : RdL (Lib.bytesWorld wr.drew 5 (tx bs[k])) (some ⟨wr.heap.size, 0, none⟩) bs[k] (· = wr.heap.size) := rd_bytes wr.drew bs[k]
        have hzb : wr.heap.size < (Lib.bytesWorld wr.drew 5 (tx bs[k])).heap.size := by rw [Lib.bytesWorld_size]; exact Nat.lt_succ_self _
        have hcv' : (convert 9 35 (.string (tx bs[k]))).run Try.prog wr.drew = .ok (.slice (some ⟨wr.heap.size, 0, none⟩) bs[k].length C) (Lib.bytesWorld wr.drew 5 (tx bs[k])) := hcv
        clear hcv
        generalize Lib.bytesWorld wr.drew 5 (tx bs[k]) = wb at hwb hrb hcv' hzb
        have hbk := (hwb.block b hbl).trans hcb
        obtain ⟨vk, cbk⟩ : ∃ v, wb.cell? ⟨b, k, none⟩ = some v := ⟨_, by rw [heap_cell hbk]; exact Array.getElem?_eq_getElem (by omega)⟩
        have fbk : wb.frozen? ⟨b, k, none⟩ = false := heap_frozen hbk
        have HP := Lib.hid (HL.out.push hwb kb hlt' (C := C) (heap_lt H3.out) (Nat.le_refl _) hzb hC hrb)
        have HX1 : Hid ((wb.setCell ⟨b, k, none⟩ (.slice (some ⟨wr.heap.size, 0, none⟩) bs[k].length C)).heap[tb]? = wr.heap[tb]?) := Lib.hid ((Below.heap_setCell _ _ _ _ hne).trans (hwb.block tb (heap_lt H1.out)))
        have HX3 : Hid ((wb.setCell ⟨b, k, none⟩ (.slice (some ⟨wr.heap.size, 0, none⟩) bs[k].length C)).heap[w.heap.size]? = wr.heap[w.heap.size]?) := Lib.hid ((Below.heap_setCell _ _ _ _ (by show w.heap.size ≠ b; omega)).trans (hwb.block w.heap.size (heap_lt H3.out)))
        have HWB := Lib.hid hwb
        have l4 : k < 64 := by omega
        have l5 : (k : Int) < 64 := by omega
        clear hcb hcs hrb hzb hbk hC hwb
        generalize bs[k] = s at *
        have hgr : g < wr.heap.size := Nat.lt_of_lt_of_le hlt HB.out.size
        have hgb : g ≠ b := by omega
        have S0 : wr.drew.cell? ⟨tb, 2, none⟩ = some (.slice (some ⟨b, 0, none⟩) n n) ∧ wr.drew.cell? ⟨g, 3 + k, none⟩ = some (.string (tx s)) := ⟨t2, cg⟩
        have S1 : wb.cell? ⟨tb, 2, none⟩ = some (.slice (some ⟨b, 0, none⟩) n n) ∧ wb.cell? ⟨g, 3 + k, none⟩ = some (.string (tx s)) := ⟨(HWB.out.cell (p := ⟨tb, 2, none⟩) (heap_lt H1.out)).trans t2, (HWB.out.cell (p := ⟨g, 3 + k, none⟩) hgr).trans cg⟩
        have S2 : (wb.setCell ⟨b, k, none⟩ (.slice (some ⟨wr.heap.size, 0, none⟩) s.length C)).cell? ⟨tb, 2, none⟩ = some (.slice (some ⟨b, 0, none⟩) n n) ∧ (wb.setCell ⟨b, k, none⟩ (.slice (some ⟨wr.heap.size, 0, none⟩) s.length C)).cell? ⟨g, 3 + k, none⟩ = some (.string (tx s)) := ⟨(World.cell?_of_block (Below.heap_setCell _ _ _ _ hne)).trans S1.1, (World.cell?_of_block (Below.heap_setCell _ _ _ _ hgb)).trans S1.2⟩
        go_wp2
        go_region_held (fun w' => w'.cell? ⟨tb, 2, none⟩ = some (.slice (some ⟨b, 0, none⟩) n n) ∧ w'.cell? ⟨g, 3 + k, none⟩ = some (.string (tx s)))
          (first | exact S0 | exact S1 | exact S2)
          (fail)
        go_wp2
        go_roundw
        case rel => exact ⟨k + 1, by omega, by go_num, HP, Lib.hid (HX1.out.trans H1.out), Lib.hid (HX3.out.trans H3.out), Lib.hid ((HB.out.trans (HWB.out.mono HB.out.size)).setCell (Nat.le_of_lt hlo2) _)⟩
        case measure => simp [intOf]; omega
      · have u0 : wr.cell? ⟨tb, 0, none⟩ = some (.int .i64 lab) := heap_cell H1.out
        have u1 : wr.cell? ⟨tb, 1, none⟩ = some (.int .i64 most) := heap_cell H1.out
        have u3 : wr.cell? ⟨tb, 3, none⟩ = some (.bool false) := heap_cell H1.out
        have v0 : wr.cell? ⟨w.heap.size, 0, none⟩ = some (.int .i64 0) := heap_cell H3.out
        have v1 : wr.cell? ⟨w.heap.size, 1, none⟩ = some (.int .i64 0) := heap_cell H3.out
        have v2 : wr.cell? ⟨w.heap.size, 2, none⟩ = some (.slice none 0 0) := heap_cell H3.out
        have v3 : wr.cell? ⟨w.heap.size, 3, none⟩ = some (.bool false) := heap_cell H3.out
        have y0 : wr.frozen? ⟨w.heap.size, 0, none⟩ = false := heap_frozen H3.out
        have y1 : wr.frozen? ⟨w.heap.size, 1, none⟩ = false := heap_frozen H3.out
        have y2 : wr.frozen? ⟨w.heap.size, 2, none⟩ = false := heap_frozen H3.out
        have y3 : wr.frozen? ⟨w.heap.size, 3, none⟩ = false := heap_frozen H3.out
        go_wp2
        refine bodyPost_ret (v := .agg #[.int .i64 lab, .int .i64 most, .slice (some ⟨b, 0, none⟩) n n, .bool false]) (by simp [results, Try.results24, go_sem, v0, v1, v2, v3]) rfl ⟨some ⟨b, 0, none⟩, n, by rw [← HN.out], by rw [← HN.out]; exact Nat.le_refl _, ?_, ?_⟩
        · have hkn : k = bs.length := by rw [← HN.out]; omega
          have hL := HL.out
          rw [hkn] at hL
          have hK : Kp (· = w.heap.size) wr ((((wr.setCell ⟨w.heap.size, 0, none⟩ (.int .i64 lab)).setCell ⟨w.heap.size, 1, none⟩ (.int .i64 most)).setCell ⟨w.heap.size, 2, none⟩ (.slice (some ⟨b, 0, none⟩) n n)).setCell ⟨w.heap.size, 3, none⟩ (.bool false)) := (((Kp.store _ _ _ _).trans (Kp.store _ _ _ _)).trans (Kp.store _ _ _ _)).trans (Kp.store _ _ _ _)
          exact (hL.rdB.kp hK (fun x hx hx' => by omega)).mono fun x hx => by omega
        · exact (((HB.out.setCell (Nat.le_refl _) _).setCell (Nat.le_refl _) _).setCell (Nat.le_refl _) _).setCell (Nat.le_refl _) _
  · -- the variable first
    have hB1 : Below w.heap.size w (((wa.alloc (.cells #[.int .i64 lab, .int .i64 most, .slice (some ⟨wa.heap.size + 1, 0, none⟩) n n, .bool false] 24)).alloc (.cells (madeCells #[.slice none 0 0] n) 35)).drew) := (HBA.out.alloc HBA.out.size _).alloc (by have := HBA.out.size; simp; omega) _ |>.drew
    have h1 : (((wa.alloc (.cells #[.int .i64 lab, .int .i64 most, .slice (some ⟨wa.heap.size + 1, 0, none⟩) n n, .bool false] 24)).alloc (.cells (madeCells #[.slice none 0 0] n) 35)).drew).heap[wa.heap.size]? = some (.cells #[.int .i64 lab, .int .i64 most, .slice (some ⟨(wa.heap.size + 1), 0, none⟩) n n, .bool false] 24 (0, 0)) := (Below.heap_alloc _ _ _ (by simp)).trans (Go.Deep.blk_alloc_new _ _)
    have h2 : (((wa.alloc (.cells #[.int .i64 lab, .int .i64 most, .slice (some ⟨wa.heap.size + 1, 0, none⟩) n n, .bool false] 24)).alloc (.cells (madeCells #[.slice none 0 0] n) 35)).drew).heap[(wa.heap.size + 1)]? = some (.cells (madeCells #[.slice none 0 0] n) 35 (0, 0)) := alloc_at2 _ _ _
    have h3 : (((wa.alloc (.cells #[.int .i64 lab, .int .i64 most, .slice (some ⟨wa.heap.size + 1, 0, none⟩) n n, .bool false] 24)).alloc (.cells (madeCells #[.slice none 0 0] n) 35)).drew).heap[w.heap.size]? = some (.cells #[.int .i64 0, .int .i64 0, .slice none 0 0, .bool false] 24 (0, 0)) := ((Below.heap_alloc _ _ _ (by simp; omega)).trans (Below.heap_alloc _ _ _ hza)).trans HRA.out
    have hlo1 : w.heap.size < wa.heap.size := by omega
    have hlo2 : w.heap.size < (wa.heap.size + 1) := by omega
    have hne : wa.heap.size ≠ (wa.heap.size + 1) := by omega
    generalize ((wa.alloc (.cells #[.int .i64 lab, .int .i64 most, .slice (some ⟨wa.heap.size + 1, 0, none⟩) n n, .bool false] 24)).alloc (.cells (madeCells #[.slice none 0 0] n) 35)).drew = wx at hB1 h1 h2 h3 ⊢
    generalize wa.heap.size + 1 = b at h1 h2 hlo1 hlo2 hne ⊢
    generalize wa.heap.size = tb at h1 h2 hlo1 hlo2 hne ⊢
    have HL0 : Hid (LaidK wx (w.heap.size + 1) b n 0 bs) := Lib.hid ⟨hlo2, _, h2, by rw [size_madeCells], fun i _ h => absurd h (by omega)⟩
    have t2 : wx.cell? ⟨tb, 2, none⟩ = some (.slice (some ⟨b, 0, none⟩) n n) := heap_cell h1
    have H1 := Lib.hid h1
    have H3 := Lib.hid h3
    have HB1 := Lib.hid hB1
    clear h1 h2 h3 hB1 a0 a1 a2 b0 b1 b2 n0 n1 n2 HBA HRA hza hga
    go_wp2
    go_loopw [25] (fun i wr => ∃ k : Nat, k ≤ n ∧ i = .int .i64 (k : Int) ∧ Hid (LaidK wr (w.heap.size + 1) b n k bs) ∧ Hid (wr.heap[tb]? = some (.cells #[.int .i64 lab, .int .i64 most, .slice (some ⟨b, 0, none⟩) n n, .bool false] 24 (0, 0))) ∧ Hid (wr.heap[w.heap.size]? = some (.cells #[.int .i64 0, .int .i64 0, .slice none 0 0, .bool false] 24 (0, 0))) ∧ Hid (Below w.heap.size w wr)) (fun i _ => n - (intOf i).toNat)
    case atStart => exact ⟨0, by omega, rfl, HL0, H1, H3, HB1⟩
    case round =>
      clear HL0 H1 H3 HB1 t2
      obtain ⟨k, hk, rfl, HL, H1, H3, HB⟩ := hrel
      have t2 : wr.cell? ⟨tb, 2, none⟩ = some (.slice (some ⟨b, 0, none⟩) n n) := heap_cell H1.out
      by_cases hlt' : k < n
      · have kb : k < bs.length := by rw [← HN.out]; exact hlt'
        have cg := (HB.out.cell (p := ⟨g, 3 + k, none⟩) hlt).trans (HS.out.mem.cs kb)
        obtain ⟨c, hcb, hcs, _⟩ := HL.out.blk
        have hbl := heap_lt hcb
        obtain ⟨C, hC, hcv⟩ := bytes_conv wr.drew bs[k]
        have hwb : Below wr.heap.size wr (Lib.bytesWorld wr.drew 5 (tx bs[k])) := (Below.refl _ wr).drew.trans (below_bytes wr.drew _ _)
        have hrb : RdL (Lib.bytesWorld wr.drew 5 (tx bs[k])) (some ⟨wr.heap.size, 0, none⟩) bs[k] (· = wr.heap.size) := rd_bytes wr.drew bs[k]
        have hzb : wr.heap.size < (Lib.bytesWorld wr.drew 5 (tx bs[k])).heap.size := by rw [Lib.bytesWorld_size]; exact Nat.lt_succ_self _
        have hcv' : (convert 9 35 (.string (tx bs[k]))).run Try.prog wr.drew = .ok (.slice (some ⟨wr.heap.size, 0, none⟩) bs[k].length C) (Lib.bytesWorld wr.drew 5 (tx bs[k])) := hcv
        clear hcv
        generalize Lib.bytesWorld wr.drew 5 (tx bs[k]) = wb at hwb hrb hcv' hzb
        have hbk := (hwb.block b hbl).trans hcb
        obtain ⟨vk, cbk⟩ : ∃ v, wb.cell? ⟨b, k, none⟩ = some v := ⟨_, by rw [heap_cell hbk]; exact Array.getElem?_eq_getElem (by omega)⟩
        have fbk : wb.frozen? ⟨b, k, none⟩ = false := heap_frozen hbk
        have HP := Lib.hid (HL.out.push hwb kb hlt' (C := C) (heap_lt H3.out) (Nat.le_refl _) hzb hC hrb)
        have HX1 : Hid ((wb.setCell ⟨b, k, none⟩ (.slice (some ⟨wr.heap.size, 0, none⟩) bs[k].length C)).heap[tb]? = wr.heap[tb]?) := Lib.hid ((Below.heap_setCell _ _ _ _ hne).trans (hwb.block tb (heap_lt H1.out)))
        have HX3 : Hid ((wb.setCell ⟨b, k, none⟩ (.slice (some ⟨wr.heap.size, 0, none⟩) bs[k].length C)).heap[w.heap.size]? = wr.heap[w.heap.size]?) := Lib.hid ((Below.heap_setCell _ _ _ _ (by show w.heap.size ≠ b; omega)).trans (hwb.block w.heap.size (heap_lt H3.out)))
        have HWB := Lib.hid hwb
        have l4 : k < 64 := by omega
        have l5 : (k : Int) < 64 := by omega
        clear hcb hcs hrb hzb hbk hC hwb
        generalize bs[k] = s at *
        have hgr : g < wr.heap.size := Nat.lt_of_lt_of_le hlt HB.out.size
        have hgb : g ≠ b := by omega
        have S0 : wr.drew.cell? ⟨tb, 2, none⟩ = some (.slice (some ⟨b, 0, none⟩) n n) ∧ wr.drew.cell? ⟨g, 3 + k, none⟩ = some (.string (tx s)) := ⟨t2, cg⟩
        have S1 : wb.cell? ⟨tb, 2, none⟩ = some (.slice (some ⟨b, 0, none⟩) n n) ∧ wb.cell? ⟨g, 3 + k, none⟩ = some (.string (tx s)) := ⟨(HWB.out.cell (p := ⟨tb, 2, none⟩) (heap_lt H1.out)).trans t2, (HWB.out.cell (p := ⟨g, 3 + k, none⟩) hgr).trans cg⟩
        have S2 : (wb.setCell ⟨b, k, none⟩ (.slice (some ⟨wr.heap.size, 0, none⟩) s.length C)).cell? ⟨tb, 2, none⟩ = some (.slice (some ⟨b, 0, none⟩) n n) ∧ (wb.setCell ⟨b, k, none⟩ (.slice (some ⟨wr.heap.size, 0, none⟩) s.length C)).cell? ⟨g, 3 + k, none⟩ = some (.string (tx s)) := ⟨(World.cell?_of_block (Below.heap_setCell _ _ _ _ hne)).trans S1.1, (World.cell?_of_block (Below.heap_setCell _ _ _ _ hgb)).trans S1.2⟩
        go_wp2
        go_region_held (fun w' => w'.cell? ⟨tb, 2, none⟩ = some (.slice (some ⟨b, 0, none⟩) n n) ∧ w'.cell? ⟨g, 3 + k, none⟩ = some (.string (tx s)))
          (first | exact S0 | exact S1 | exact S2)
          (fail)
        go_wp2
        go_roundw
        case rel => exact ⟨k + 1, by omega, by go_num, HP, Lib.hid (HX1.out.trans H1.out), Lib.hid (HX3.out.trans H3.out), Lib.hid ((HB.out.trans (HWB.out.mono HB.out.size)).setCell (Nat.le_of_lt hlo2) _)⟩
        case measure => simp [intOf]; omega
      · have u0 : wr.cell? ⟨tb, 0, none⟩ = some (.int .i64 lab) := heap_cell H1.out
        have u1 : wr.cell? ⟨tb, 1, none⟩ = some (.int .i64 most) := heap_cell H1.out
        have u3 : wr.cell? ⟨tb, 3, none⟩ = some (.bool false) := heap_cell H1.out
        have v0 : wr.cell? ⟨w.heap.size, 0, none⟩ = some (.int .i64 0) := heap_cell H3.out
        have v1 : wr.cell? ⟨w.heap.size, 1, none⟩ = some (.int .i64 0) := heap_cell H3.out
        have v2 : wr.cell? ⟨w.heap.size, 2, none⟩ = some (.slice none 0 0) := heap_cell H3.out
        have v3 : wr.cell? ⟨w.heap.size, 3, none⟩ = some (.bool false) := heap_cell H3.out
        have y0 : wr.frozen? ⟨w.heap.size, 0, none⟩ = false := heap_frozen H3.out
        have y1 : wr.frozen? ⟨w.heap.size, 1, none⟩ = false := heap_frozen H3.out
        have y2 : wr.frozen? ⟨w.heap.size, 2, none⟩ = false := heap_frozen H3.out
        have y3 : wr.frozen? ⟨w.heap.size, 3, none⟩ = false := heap_frozen H3.out
        go_wp2
        refine bodyPost_ret (v := .agg #[.int .i64 lab, .int .i64 most, .slice (some ⟨b, 0, none⟩) n n, .bool false]) (by simp [results, Try.results24, go_sem, v0, v1, v2, v3]) rfl ⟨some ⟨b, 0, none⟩, n, by rw [← HN.out], by rw [← HN.out]; exact Nat.le_refl _, ?_, ?_⟩
        · have hkn : k = bs.length := by rw [← HN.out]; omega
          have hL := HL.out
          rw [hkn] at hL
          have hK : Kp (· = w.heap.size) wr ((((wr.setCell ⟨w.heap.size, 0, none⟩ (.int .i64 lab)).setCell ⟨w.heap.size, 1, none⟩ (.int .i64 most)).setCell ⟨w.heap.size, 2, none⟩ (.slice (some ⟨b, 0, none⟩) n n)).setCell ⟨w.heap.size, 3, none⟩ (.bool false)) := (((Kp.store _ _ _ _).trans (Kp.store _ _ _ _)).trans (Kp.store _ _ _ _)).trans (Kp.store _ _ _ _)
          exact (hL.rdB.kp hK (fun x hx hx' => by omega)).mono fun x hx => by omega
        · exact (((HB.out.setCell (Nat.le_refl _) _).setCell (Nat.le_refl _) _).setCell (Nat.le_refl _) _).setCell (Nat.le_refl _) _
end Go.Proofs.Ytflcnghjhgfkfaa
