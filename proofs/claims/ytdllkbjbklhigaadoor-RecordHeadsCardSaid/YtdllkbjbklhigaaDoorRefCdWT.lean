/- What Text of the document's own Writer writes. -/
import Derived.Test.YtdllkbjbklhigaaDoorRefCdW
namespace Go.Proofs.YtdllkbjbklhigaaDoor
open Go.RowKit
open Pt (Tx)


set_option maxRecDepth 100000 in
theorem vtext_any (g base : Nat) (v : Value) (l s : Tx) (w : World) (h : Rw w g base v l) (hbase : base ≤ w.heap.size) (hl : l.length ≤ 999999000) (hs : s.length ≤ maxLen) :
    Calls Tryd.prog 40 #[.pointer (some ⟨g, 0, none⟩), .string (tx s)] w (RefWrote g base (l ++ Cd.tb s) w) := by
  unfold maxLen at hs
  have hlt := h.lt
  obtain ⟨A, C, hv, -, -, -, -⟩ := h.2.rd
  have c0 : w.cell? ⟨g, 0, none⟩ = some v := heap_cell h.1
  have f0 : w.frozen? ⟨g, 0, none⟩ = false := heap_frozen h.1
  have H := Lib.hid h
  clear h
  subst hv
  have es := tx_size s
  have et := tx_toList s
  by_cases hle : s.length ≤ 255
  · have q1 : decide (255 < s.length) = false := decide_eq_false (by omega)
    have q2 : decide (255 < (s.length : Int)) = false := decide_eq_false (by omega)
    have HT : Hid (Cd.tb s = [Cd.b8 (s.length : Int)] ++ s) := Lib.hid (by unfold Cd.tb; rw [List.take_of_length_le hle]; rfl)
    go_enter Tryd.func40, Tryd.ntmps40
    go_wp2_with (first
      | (at_builtin; refine wpList_append_bl _ rfl _ _ rfl base _ l rfl (H.out.2.alloc _) (some ⟨w.heap.size, 0, none⟩) 1 1 [Cd.b8 (s.length : Int)] (· = w.heap.size) rfl rfl (fun h => by cases h) (lit_rd w [Cd.b8 (s.length : Int)] (by simp [cellsL, Cd.b8_nat]; omega)) (by omega) (by simp; omega) ?_; intro v' w' hv hg; obtain ⟨hA, hB, hC⟩ := H.out.stored ((Turned.refl g base w).alloc _) (Below.heap_alloc _ _ _ hlt) (H.out.2.alloc _) hg hv; obtain ⟨A', C', rfl, -, -, -, -⟩ := hv.rd; have d0 : w'.cell? ⟨g, 0, none⟩ = some (.slice A l.length C) := heap_cell (hA.trans H.out.1); have d1 : w'.frozen? ⟨g, 0, none⟩ = false := heap_frozen (hA.trans H.out.1); simp only [List.length_append, List.length_cons, List.length_nil, Nat.zero_add] at hB hC; have hsz : base ≤ w'.heap.size := Nat.le_trans hbase (by have := hC.size; simpa [World.setCell] using this); have HB := Lib.hid hB; have HC := Lib.hid hC; clear hA hB hC hv hg)
      | (at_builtin; refine wpList_append_st _ rfl _ _ rfl base _ (l ++ [Cd.b8 (s.length : Int)]) rfl HB.out.2 s rfl (by simp; omega) (by simpa [World.setCell] using hsz) ?_; intro v2 w2 hv hg; obtain ⟨hA, hB, hC⟩ := HB.out.stored (Turned.refl g base _) rfl HB.out.2 hg hv; obtain ⟨A2, C2, rfl, -, -, -, -⟩ := hv.rd; have d2 : w2.cell? ⟨g, 0, none⟩ = some (.slice A' (l.length + 1) C') := heap_cell (hA.trans HB.out.1); have d3 : w2.frozen? ⟨g, 0, none⟩ = false := heap_frozen (hA.trans HB.out.1); have HB2 := Lib.hid hB; have HC2 := Lib.hid (HC.out.trans hC); clear hA hB hC hv hg))
    go_end0
    have e3 : (l ++ [Cd.b8 (s.length : Int)]) ++ s = l ++ ([Cd.b8 (s.length : Int)] ++ s) := List.append_assoc _ _ _
    have hb := HB2.out
    have hc := HC2.out
    simp only [List.length_append, List.length_cons, List.length_nil, Nat.zero_add] at hb hc
    rw [HT.out, ← e3, show l.length + (s.length + 1) = l.length + 1 + s.length by omega]
    exact ⟨rfl, ⟨_, hb⟩, hc⟩
  · have q1 : decide (255 < s.length) = true := decide_eq_true (by omega)
    have q2 : decide (255 < (s.length : Int)) = true := decide_eq_true (by omega)
    have e0 : (tx s).extract 0 255 = tx (s.take 255) := by rw [tx_extract]; simp
    have hn : (s.take 255).length = 255 := by simp; omega
    have HT : Hid (Cd.tb s = [Cd.b8 255] ++ s.take 255) := Lib.hid (by unfold Cd.tb; rw [hn]; rfl)
    have e2 : (tx (s.take 255)).size = 255 := by rw [tx_size, hn]
    have e4 := tx_toList (s.take 255)
    have HN : Hid ((s.take 255).length = 255) := Lib.hid hn
    clear hn
    go_enter Tryd.func40, Tryd.ntmps40
    go_wp2_with (first
      | (at_builtin; refine wpList_append_bl _ rfl _ _ rfl base _ l rfl (H.out.2.alloc _) (some ⟨w.heap.size, 0, none⟩) 1 1 [Cd.b8 255] (· = w.heap.size) rfl rfl (fun h => by cases h) (lit_rd w [Cd.b8 255] (by simp [cellsL, Cd.b8_nat])) (by omega) (by simp; omega) ?_; intro v' w' hv hg; obtain ⟨hA, hB, hC⟩ := H.out.stored ((Turned.refl g base w).alloc _) (Below.heap_alloc _ _ _ hlt) (H.out.2.alloc _) hg hv; obtain ⟨A', C', rfl, -, -, -, -⟩ := hv.rd; have d0 : w'.cell? ⟨g, 0, none⟩ = some (.slice A l.length C) := heap_cell (hA.trans H.out.1); have d1 : w'.frozen? ⟨g, 0, none⟩ = false := heap_frozen (hA.trans H.out.1); simp only [List.length_append, List.length_cons, List.length_nil, Nat.zero_add] at hB hC; have hsz : base ≤ w'.heap.size := Nat.le_trans hbase (by have := hC.size; simpa [World.setCell] using this); have HB := Lib.hid hB; have HC := Lib.hid hC; clear hA hB hC hv hg)
      | (at_builtin; refine wpList_append_st _ rfl _ _ rfl base _ (l ++ [Cd.b8 255]) rfl HB.out.2 (s.take 255) rfl (by simp; omega) (by simpa [World.setCell] using hsz) ?_; intro v2 w2 hv hg; obtain ⟨hA, hB, hC⟩ := HB.out.stored (Turned.refl g base _) rfl HB.out.2 hg hv; obtain ⟨A2, C2, rfl, -, -, -, -⟩ := hv.rd; have d2 : w2.cell? ⟨g, 0, none⟩ = some (.slice A' (l.length + 1) C') := heap_cell (hA.trans HB.out.1); have d3 : w2.frozen? ⟨g, 0, none⟩ = false := heap_frozen (hA.trans HB.out.1); have HB2 := Lib.hid hB; have HC2 := Lib.hid (HC.out.trans hC); clear hA hB hC hv hg))
    go_end0
    have e3 : (l ++ [Cd.b8 255]) ++ (s.take 255) = l ++ ([Cd.b8 255] ++ (s.take 255)) := List.append_assoc _ _ _
    have hb := HB2.out
    have hc := HC2.out
    simp only [List.length_append, List.length_cons, List.length_nil, Nat.zero_add] at hb hc
    rw [HT.out, ← e3, show l.length + (min 255 s.length + 1) = l.length + 1 + (s.take 255).length by simp; omega]
    exact ⟨rfl, ⟨_, hb⟩, hc⟩
end Go.Proofs.YtdllkbjbklhigaaDoor
