/- What a Writer of package code writes. -/
import Derived.Test.YtdllkbjbklhigaaDoorCdWords
import Derived.Test.YtdllkbjbklhigaaDoorChecked
import Derived.OwnWalk
import Derived.Handy
import Derived.Laws.CopyOwn
import Derived.WalkSpells
import Derived.WalkLawsBesides
import Derived.StillTailTactics
namespace Go.Proofs.YtdllkbjbklhigaaDoor
open Go.RowKit
open Pt (Tx)

theorem not_piece {w : World} {g : Nat} {c : Array Value} {t : TypeId} {fr : Nat × Nat} (h : w.heap[g]? = some (.cells c t fr)) (ht : t ≠ 75) : ∀ (k : Nat) (c' : Array Value), k = g → w.heap[k]? ≠ some (.cells c' 75 (0, 0)) := by
  rintro k c' rfl h'
  rw [h] at h'
  injection h' with h'
  injection h' with _ e
  exact ht e
theorem conv_lit (w : World) (l : Tx) {c : Array Value} {n : Nat} (hn : n = l.length) (hc : c = (cellsL l).toArray) :
    (convert 24 9 (.slice (some ⟨w.heap.size, 0, none⟩) n n)).run Tryd.prog (w.alloc (.cells c 5)) = .ok (.string (tx l)) (w.alloc (.cells c 5)) := by
  subst hn; subst hc
  refine RdL.str (RdL.of_cells (Go.Deep.blk_alloc_new _ _) fun j hj => ?_) _
  rw [Nat.zero_add]
  simpa using cellsL_get hj
theorem put_any (g : Nat) (l s : Tx) (w : World) (h : Wr w g l) (h0 : 0 < s.length) (hl : l.length + s.length ≤ 1000000000) :
    Calls Tryd.prog 46 #[.pointer (some ⟨g, 0, none⟩), .string (tx s)] w (Wrote g (l ++ s) w) := by
  obtain ⟨P, ss, h1, h2, h3⟩ := h
  have hlt := heap_lt h1
  have c0 : w.cell? ⟨g, 0, none⟩ = some (.pointer P) := heap_cell h1
  have c1 : w.cell? ⟨g, 1, none⟩ = some (.int .i64 (l.length : Int)) := heap_cell h1
  have f0 : w.frozen? ⟨g, 0, none⟩ = false := heap_frozen h1
  have f1 : w.frozen? ⟨g, 1, none⟩ = false := heap_frozen h1
  have es := tx_size s
  have et := tx_toList s
  have H1 := Lib.hid h1
  have H3 := Lib.hid h3
  clear h1 h3
  go_enter Tryd.func46, Tryd.ntmps46
  go_wp2
  go_end0
  have hk : Kp (· = g) w (((w.setCell ⟨g, 0, none⟩ (.pointer (some ⟨w.heap.size, 0, none⟩))).setCell ⟨g, 1, none⟩ (.int .i64 ((l.length : Int) + (s.length : Int)))).alloc (.cells #[.pointer P, .string (tx s)] 75)) :=
    (((Kp.refl (· = g) w).setCell (p := ⟨g, 0, none⟩) rfl _).setCell (p := ⟨g, 1, none⟩) rfl _).alloc _
  refine ⟨rfl, ⟨some ⟨w.heap.size, 0, none⟩, s :: ss, ?_, ⟨w.heap.size, P, rfl, ?_, h0, h2.kp hk (not_piece H1.out (by decide))⟩, by rw [H3.out]; rfl⟩, hk⟩
  · rw [Below.heap_alloc _ _ _ (by simpa [World.setCell] using hlt), heap_set (heap_set H1.out _)]
    simp
  · have := Go.Deep.blk_alloc_new ((w.setCell ⟨g, 0, none⟩ (.pointer (some ⟨w.heap.size, 0, none⟩))).setCell ⟨g, 1, none⟩ (.int .i64 ((l.length : Int) + (s.length : Int)))) (.cells #[.pointer P, .string (tx s)] 75)
    simpa [World.setCell] using this
theorem Wrote.after {g : Nat} {l : Tx} {w w1 w' : World} {e : Ending} (hk : Kp (· = g) w w1) (h : Wrote g l w1 e w') : Wrote g l w e w' := ⟨h.1, h.2.1, hk.trans h.2.2⟩
theorem wint_any (g : Nat) (l : Tx) (n : Int) (w : World) (h : Wr w g l) (hl : l.length ≤ 999999990) :
    Calls Tryd.prog 24 #[.pointer (some ⟨g, 0, none⟩), .int .i64 n] w (Wrote g (l ++ Cd.be4 n) w) := by
  have hc := conv_lit w (Cd.be4 n) (n := 4) rfl (c := #[.int .u8 (n / 16777216 % 256), .int .u8 (n / 65536 % 256), .int .u8 (n / 256 % 256), .int .u8 (n % 256)]) (by simp [cellsL, Cd.be4, Cd.b8_nat])
  go_enter Tryd.func24, Tryd.ntmps24
  go_wp2_with (go_at_call 46; (refine (put_any g l (Cd.be4 n) _ (h.old ((Below.refl _ _).alloc (Nat.le_refl _) _)) (Nat.succ_pos _) (by rw [Cd.be4_len]; omega)).mono ?_); rintro e w' hq; have HQ := Lib.hid hq; obtain ⟨rfl, _, _⟩ := hq)
  go_end0
  exact HQ.out.after ((Kp.refl _ w).alloc _)
theorem wbyte_any (g : Nat) (l : Tx) (c : UInt8) (w : World) (h : Wr w g l) (hl : l.length ≤ 999999990) :
    Calls Tryd.prog 25 #[.pointer (some ⟨g, 0, none⟩), .int .u8 (c.toNat : Int)] w (Wrote g (l ++ [c]) w) := by
  have hc := conv_lit w [c] (n := 1) rfl (c := #[.int .u8 (c.toNat : Int)]) (by simp [cellsL])
  go_enter Tryd.func25, Tryd.ntmps25
  go_wp2_with (go_at_call 46; (refine (put_any g l [c] _ (h.old ((Below.refl _ _).alloc (Nat.le_refl _) _)) (Nat.succ_pos _) (by simp; omega)).mono ?_); rintro e w' hq; have HQ := Lib.hid hq; obtain ⟨rfl, _, _⟩ := hq)
  go_end0
  exact HQ.out.after ((Kp.refl _ w).alloc _)
/-- bytes in new memory -/
def NewL (l : Tx) (w : World) (e : Ending) (w' : World) : Prop := ∃ b, e = .returned (.slice (some ⟨b, 0, none⟩) l.length l.length) ∧ w.heap.size ≤ b ∧ RdL w' (some ⟨b, 0, none⟩) l (· = b) ∧ Below w.heap.size w w'
theorem splice_text (E n : Nat) (s r : Tx) (hn : s.length = n) :
    ((cellsL (List.replicate (E + n) 0 ++ r)).toArray.toList.take E ++ Lib.byteCells (tx s).data.toList ++ (cellsL (List.replicate (E + n) 0 ++ r)).toArray.toList.drop (E + (tx s).size)).toArray = (cellsL (List.replicate E 0 ++ (s ++ r))).toArray := by
  have hb : Lib.byteCells (tx s).data.toList = cellsL s := by rw [tx_data]; rfl
  rw [hb, tx_size, hn]
  congr 1
  have e1 : cellsL (List.replicate (E + n) 0 ++ r) = cellsL (List.replicate E 0) ++ (cellsL (List.replicate n 0) ++ cellsL r) := by simp [cellsL, ← List.append_assoc, List.replicate_append_replicate]
  have e2 : (cellsL (List.replicate E (0 : UInt8))).length = E := by simp [cellsL_len]
  have e3 : (cellsL (List.replicate n (0 : UInt8))).length = n := by simp [cellsL_len]
  rw [List.toList_toArray, e1, List.take_left' e2, ← List.drop_drop, List.drop_left' e2, List.drop_left' e3, cellsL_append, cellsL_append, List.append_assoc]
/-- the same, and what the new block holds -/
def NewC (l : Tx) (w : World) (e : Ending) (w' : World) : Prop := ∃ b, e = .returned (.slice (some ⟨b, 0, none⟩) l.length l.length) ∧ w.heap.size ≤ b ∧ w'.heap[b]? = some (.cells (cellsL l).toArray 5 (0, 0)) ∧ Below w.heap.size w w'
theorem rd_of_cells {w : World} {b : Nat} {l : Tx} {fr : Nat × Nat} (h : w.heap[b]? = some (.cells (cellsL l).toArray 5 fr)) : RdL w (some ⟨b, 0, none⟩) l (· = b) :=
  RdL.of_cells h (fun j hj => by rw [Nat.zero_add]; simpa using cellsL_get hj)
theorem own_of_cells {w : World} {b B n : Nat} {l : Tx} (h : w.heap[b]? = some (.cells (cellsL l).toArray 5 (0, 0))) (hB : B ≤ b) (hn : n = l.length) (hl : l.length ≤ maxLen) : OwnL w B (.slice (some ⟨b, 0, none⟩) n n) l := by
  subst hn
  refine ⟨by rw [cellsL_len, Nat.mul_one], .inr ⟨b, l.length, (cellsL l).toArray, rfl, hB, h, Nat.le_refl _, hl, by simp [cellsL_len], ?_⟩⟩
  rw [List.toList_toArray, List.take_of_length_le (by rw [cellsL_len]; omega)]
set_option maxRecDepth 100000 in
theorem bytes_own (g : Nat) (l : Tx) (w : World) (h : Wr w g l) (hl : l.length ≤ 1000000000) :
    Calls Tryd.prog 27 #[.pointer (some ⟨g, 0, none⟩)] w (NewC l w) := by
  obtain ⟨P, ss, h1, h2, h3⟩ := h
  have hlt := heap_lt h1
  have c0 : w.cell? ⟨g, 0, none⟩ = some (.pointer P) := heap_cell h1
  have c1 : w.cell? ⟨g, 1, none⟩ = some (.int .i64 (l.length : Int)) := heap_cell h1
  have H1 := Lib.hid h1
  have H2 := Lib.hid h2
  have H3 := Lib.hid h3
  clear h1 h2 h3
  obtain ⟨L, hL⟩ : ∃ L, L = l.length := ⟨_, rfl⟩
  rw [← hL] at hl c1
  have HL := Lib.hid hL
  clear hL
  have hmk := run_make_row' (P := Tryd.prog) 24 5 (.int .u8 0) 1 Tryd.underlying24 infoB rfl .i64 .i64 L (by omega) (by omega)
  go_enter Tryd.func27, Tryd.ntmps27
  go_wp2
  go_loopw [4, 5] (fun ve vp wr => ∃ (ss : List Tx) (P : Option Addr) (r : Tx) (k : Nat), k ≤ L ∧ ve = .int .i64 (k : Int) ∧ vp = .pointer P ∧ Hid (k = (flat ss).length) ∧ Hid (l = flat ss ++ r) ∧ Hid (Chain wr P ss) ∧ Hid (wr.heap[w.heap.size]? = some (.cells (cellsL (List.replicate k 0 ++ r)).toArray 5 (0, 0))) ∧ Hid (Below w.heap.size w wr)) (fun ve _ _ => (intOf ve).toNat)
  case atStart =>
    refine ⟨ss, P, [], L, Nat.le_refl _, rfl, rfl, Lib.hid (by rw [HL.out, H3.out]), Lib.hid (by rw [H3.out, List.append_nil]), Lib.hid (H2.out.kp (Kp.of_below (S := fun _ => False) ((Below.refl _ _).alloc (Nat.le_refl _) _)) (fun _ _ h => h.elim)), Lib.hid ?_, Lib.hid ((Below.refl _ _).alloc (Nat.le_refl _) _)⟩
    rw [Go.Deep.blk_alloc_new]
    congr 2
    apply Array.ext
    · simp [size_madeCells, cellsL_len]
    · intro i h1 h2
      simp [madeCells, cellsL, Nat.mod_one]
  case round =>
    obtain ⟨ss, P, r, k, hk, rfl, rfl, HK, HF, HC, HW, HB⟩ := hrel
    cases ss with
    | nil =>
      have hP : P = none := HC.out
      subst hP
      go_wp2
      go_ret
      have hk0 : k = 0 := HK.out
      have hr : l = r := HF.out
      have hx := HW.out
      rw [hk0, ← hr] at hx
      exact ⟨w.heap.size, by rw [HL.out]; rfl, Nat.le_refl _, hx, HB.out⟩
    | cons s ss =>
      obtain ⟨p, P', rfl, hp, hs0, hch⟩ := HC.out
      have p0 : wr.cell? ⟨p, 0, none⟩ = some (.pointer P') := heap_cell hp
      have p1 : wr.cell? ⟨p, 1, none⟩ = some (.string (tx s)) := heap_cell hp
      obtain ⟨E, hE⟩ : ∃ E, E = (flat ss).length := ⟨_, rfl⟩
      obtain ⟨n, hn⟩ : ∃ n, n = s.length := ⟨_, rfl⟩
      have hkE : k = E + n := by rw [HK.out, hE, hn]; simp [flat]
      subst hkE
      have es : (tx s).size = n := by rw [tx_size, hn]
      rw [← hn] at hs0
      have HE := Lib.hid hE
      have HN := Lib.hid hn
      have HP := Lib.hid hp
      have HCH := Lib.hid hch
      have hcp : ∃ ws : World, (Builtin.copy_ #[24, 9] 3 #[.slice (some ⟨w.heap.size, E, none⟩) (L - E) (L - E), .string (tx s)]).run Tryd.prog wr.drew = .ok (goInt n) ws ∧ ws.cell? ⟨p, 0, none⟩ = some (.pointer P') ∧
          Hid (ws.heap[w.heap.size]? = some (.cells (cellsL (List.replicate E 0 ++ (s ++ r))).toArray 5 (0, 0))) ∧ Hid (Chain ws P' ss) ∧ Hid (Below w.heap.size w ws) := by
        have hsz : (cellsL (List.replicate (E + n) 0 ++ r)).toArray.size = L := by
          have := congrArg List.length HF.out
          rw [List.length_append, ← HL.out, ← HK.out] at this
          simp [cellsL_len]; omega
        have hr := Lib.run_copy_row_string (P := Tryd.prog) wr.drew 24 9 3 5 w.heap.size E (L - E) (L - E) (tx s) _ 5 Tryd.underlying24 (by kernel_rfl) (show wr.drew.heap[w.heap.size]? = _ from HW.out) (by rw [es]; omega) (by rw [es, hsz]; omega)
        rw [splice_text E n s r hn.symm, es] at hr
        have hpb : p ≠ w.heap.size := by
          rintro rfl
          have h' := HW.out
          rw [hp] at h'
          injection h' with h'
          injection h' with _ e
          exact absurd e (by decide)
        refine ⟨_, hr, ?_, Lib.hid (setRow_heap _ _ _ _ _ _ (show wr.drew.heap[w.heap.size]? = _ from HW.out)), Lib.hid (Chain.keep (fun k c hc => ?_) ss P' hch), Lib.hid (below_setRow (w := wr.drew) ⟨HB.out.os, HB.out.tape, HB.out.output, HB.out.size, HB.out.block⟩ (Nat.le_refl _) _)⟩
        · rw [World.cell?_of_block (setRow_other _ _ _ _ hpb)]; exact p0
        · refine setRow_other _ _ _ _ ?_
          rintro rfl
          have h' := HW.out
          rw [hc] at h'
          injection h' with h'
          injection h' with _ e
          exact absurd e (by decide)
      obtain ⟨ws, hcp, q0, HX, HY, HZ⟩ := hcp
      have HR : Hid (l = flat ss ++ (s ++ r)) := Lib.hid (by rw [HF.out]; simp [flat])
      clear hE hn hp hch
      go_wp2
      have hEL : E ≤ L := by omega
      have hne : ¬ L = E := by omega
      have hne' : ¬ E = L := by omega
      refine wp_region_still_tail 7 (by kernel_rfl) (by kernel_rfl) ?_
      simp only [List.take_succ_cons, List.take_zero, List.drop_succ_cons, List.drop_zero]
      repeat (first | still_step)
      refine wpStill_nil ?_
      change wpList _ _ _ _ _ wr.drew
      go_wp2
      go_roundw
      case rel => exact ⟨ss, P', s ++ r, E, hEL, rfl, rfl, Lib.hid HE.out, HR, HY, HX, HZ⟩
      case measure => simp [intOf]; omega
theorem bytes_any (g : Nat) (l : Tx) (w : World) (h : Wr w g l) (hl : l.length ≤ 1000000000) :
    Calls Tryd.prog 27 #[.pointer (some ⟨g, 0, none⟩)] w (NewL l w) :=
  (bytes_own g l w h hl).mono fun _ _ ⟨b, h1, h2, h3, h4⟩ => ⟨b, h1, h2, rd_of_cells h3, h4⟩
end Go.Proofs.YtdllkbjbklhigaaDoor
