/- What a Writer of package code writes. A new Writer, and what a call on one block leaves of the rest. A byte of a number, written; bytes in new memory, their block known. What check of package frame answers, and what head and tail make. What Put of package frame answers. -/
import Derived.Test.YtndofmoepjfnfaaDoorMai
import Derived.Test.YtndofmoepjfnfaaDoorChecked
import Derived.OwnWalk
import Derived.Handy
import Derived.Laws.CopyOwn
import Derived.WalkSpells
import Derived.WalkLawsBesides
import Derived.StillTailTactics
import Derived.Lib.SmallJoins
import Derived.Deep.RegionHeld3
import Derived.Deep.DeepFit
namespace Go.Proofs.YtndofmoepjfnfaaDoor
open Go.RowKit
open Pt (Tx)

theorem not_piece {w : World} {g : Nat} {c : Array Value} {t : TypeId} {fr : Nat × Nat} (h : w.heap[g]? = some (.cells c t fr)) (ht : t ≠ 131) : ∀ (k : Nat) (c' : Array Value), k = g → w.heap[k]? ≠ some (.cells c' 131 (0, 0)) := by
  rintro k c' rfl h'
  rw [h] at h'
  injection h' with h'
  injection h' with _ e
  exact ht e
theorem conv_lit (w : World) (l : Tx) {c : Array Value} {n : Nat} (hn : n = l.length) (hc : c = (cellsL l).toArray) :
    (convert 26 9 (.slice (some ⟨w.heap.size, 0, none⟩) n n)).run Tryd.prog (w.alloc (.cells c 5)) = .ok (.string (tx l)) (w.alloc (.cells c 5)) := by
  subst hn; subst hc
  refine RdL.str (RdL.of_cells (Go.Deep.blk_alloc_new _ _) fun j hj => ?_) _
  rw [Nat.zero_add]
  simpa using cellsL_get hj
theorem put_any (g : Nat) (l s : Tx) (w : World) (h : Wr w g l) (h0 : 0 < s.length) (hl : l.length + s.length ≤ 1000000000) :
    Calls Tryd.prog 74 #[.pointer (some ⟨g, 0, none⟩), .string (tx s)] w (Wrote g (l ++ s) w) := by
  obtain ⟨P, ss, h1, h2, h3⟩ := h
  have hlt := heap_lt h1
  have c0 : w.cell? ⟨g, 0, none⟩ = some (.pointer P) := heap_cell h1
  have c1 : w.cell? ⟨g, 1, none⟩ = some (.int .i64 (l.length : Int)) := heap_cell h1
  have f0 : w.frozen? ⟨g, 0, none⟩ = false := heap_frozen h1
  have f1 : w.frozen? ⟨g, 1, none⟩ = false := heap_frozen h1
  have es := tx_size s
  have et := tx_toList s
  have H1 := Lib.hid h1
  have H3 := Lib.hid h3
  clear h1 h3
  go_enter Tryd.func74, Tryd.ntmps74
  go_wp2
  go_end0
  have hk : Kp (· = g) w (((w.setCell ⟨g, 0, none⟩ (.pointer (some ⟨w.heap.size, 0, none⟩))).setCell ⟨g, 1, none⟩ (.int .i64 ((l.length : Int) + (s.length : Int)))).alloc (.cells #[.pointer P, .string (tx s)] 131)) :=
    (((Kp.refl (· = g) w).setCell (p := ⟨g, 0, none⟩) rfl _).setCell (p := ⟨g, 1, none⟩) rfl _).alloc _
  refine ⟨rfl, ⟨some ⟨w.heap.size, 0, none⟩, s :: ss, ?_, ⟨w.heap.size, P, rfl, ?_, h0, h2.kp hk (not_piece H1.out (by decide))⟩, by rw [H3.out]; rfl⟩, hk⟩
  · rw [Below.heap_alloc _ _ _ (by simpa [World.setCell] using hlt), heap_set (heap_set H1.out _)]
    simp
  · have := Go.Deep.blk_alloc_new ((w.setCell ⟨g, 0, none⟩ (.pointer (some ⟨w.heap.size, 0, none⟩))).setCell ⟨g, 1, none⟩ (.int .i64 ((l.length : Int) + (s.length : Int)))) (.cells #[.pointer P, .string (tx s)] 131)
    simpa [World.setCell] using this
theorem Wrote.after {g : Nat} {l : Tx} {w w1 w' : World} {e : Ending} (hk : Kp (· = g) w w1) (h : Wrote g l w1 e w') : Wrote g l w e w' := ⟨h.1, h.2.1, hk.trans h.2.2⟩
theorem wint_any (g : Nat) (l : Tx) (n : Int) (w : World) (h : Wr w g l) (hl : l.length ≤ 999999990) :
    Calls Tryd.prog 63 #[.pointer (some ⟨g, 0, none⟩), .int .i64 n] w (Wrote g (l ++ Cd.be4 n) w) := by
  have hc := conv_lit w (Cd.be4 n) (n := 4) rfl (c := #[.int .u8 (n / 16777216 % 256), .int .u8 (n / 65536 % 256), .int .u8 (n / 256 % 256), .int .u8 (n % 256)]) (by simp [cellsL, Cd.be4, Cd.b8_nat])
  go_enter Tryd.func63, Tryd.ntmps63
  go_wp2_with (go_at_call 74; (refine (put_any g l (Cd.be4 n) _ (h.old ((Below.refl _ _).alloc (Nat.le_refl _) _)) (Nat.succ_pos _) (by rw [Cd.be4_len]; omega)).mono ?_); rintro e w' hq; have HQ := Lib.hid hq; obtain ⟨rfl, _, _⟩ := hq)
  go_end0
  exact HQ.out.after ((Kp.refl _ w).alloc _)
theorem wbyte_any (g : Nat) (l : Tx) (c : UInt8) (w : World) (h : Wr w g l) (hl : l.length ≤ 999999990) :
    Calls Tryd.prog 62 #[.pointer (some ⟨g, 0, none⟩), .int .u8 (c.toNat : Int)] w (Wrote g (l ++ [c]) w) := by
  have hc := conv_lit w [c] (n := 1) rfl (c := #[.int .u8 (c.toNat : Int)]) (by simp [cellsL])
  go_enter Tryd.func62, Tryd.ntmps62
  go_wp2_with (go_at_call 74; (refine (put_any g l [c] _ (h.old ((Below.refl _ _).alloc (Nat.le_refl _) _)) (Nat.succ_pos _) (by simp; omega)).mono ?_); rintro e w' hq; have HQ := Lib.hid hq; obtain ⟨rfl, _, _⟩ := hq)
  go_end0
  exact HQ.out.after ((Kp.refl _ w).alloc _)
/-- bytes in new memory -/
def NewL (l : Tx) (w : World) (e : Ending) (w' : World) : Prop := ∃ b, e = .returned (.slice (some ⟨b, 0, none⟩) l.length l.length) ∧ w.heap.size ≤ b ∧ RdL w' (some ⟨b, 0, none⟩) l (· = b) ∧ Below w.heap.size w w'
theorem splice_text (E n : Nat) (s r : Tx) (hn : s.length = n) :
    ((cellsL (List.replicate (E + n) 0 ++ r)).toArray.toList.take E ++ Lib.byteCells (tx s).data.toList ++ (cellsL (List.replicate (E + n) 0 ++ r)).toArray.toList.drop (E + (tx s).size)).toArray = (cellsL (List.replicate E 0 ++ (s ++ r))).toArray := by
  have hb : Lib.byteCells (tx s).data.toList = cellsL s := by rw [tx_data]; rfl
  rw [hb, tx_size, hn]
  congr 1
  have e1 : cellsL (List.replicate (E + n) 0 ++ r) = cellsL (List.replicate E 0) ++ (cellsL (List.replicate n 0) ++ cellsL r) := by simp [cellsL, ← List.append_assoc, List.replicate_append_replicate]
  have e2 : (cellsL (List.replicate E (0 : UInt8))).length = E := by simp [cellsL_len]
  have e3 : (cellsL (List.replicate n (0 : UInt8))).length = n := by simp [cellsL_len]
  rw [List.toList_toArray, e1, List.take_left' e2, ← List.drop_drop, List.drop_left' e2, List.drop_left' e3, cellsL_append, cellsL_append, List.append_assoc]
/-- the same, and what the new block holds -/
def NewC (l : Tx) (w : World) (e : Ending) (w' : World) : Prop := ∃ b, e = .returned (.slice (some ⟨b, 0, none⟩) l.length l.length) ∧ w.heap.size ≤ b ∧ w'.heap[b]? = some (.cells (cellsL l).toArray 5 (0, 0)) ∧ Below w.heap.size w w'
theorem rd_of_cells {w : World} {b : Nat} {l : Tx} {fr : Nat × Nat} (h : w.heap[b]? = some (.cells (cellsL l).toArray 5 fr)) : RdL w (some ⟨b, 0, none⟩) l (· = b) :=
  RdL.of_cells h (fun j hj => by rw [Nat.zero_add]; simpa using cellsL_get hj)
theorem own_of_cells {w : World} {b B n : Nat} {l : Tx} (h : w.heap[b]? = some (.cells (cellsL l).toArray 5 (0, 0))) (hB : B ≤ b) (hn : n = l.length) (hl : l.length ≤ maxLen) : OwnL w B (.slice (some ⟨b, 0, none⟩) n n) l := by
  subst hn
  refine ⟨by rw [cellsL_len, Nat.mul_one], .inr ⟨b, l.length, (cellsL l).toArray, rfl, hB, h, Nat.le_refl _, hl, by simp [cellsL_len], ?_⟩⟩
  rw [List.toList_toArray, List.take_of_length_le (by rw [cellsL_len]; omega)]
set_option maxRecDepth 100000 in
theorem bytes_own (g : Nat) (l : Tx) (w : World) (h : Wr w g l) (hl : l.length ≤ 1000000000) :
    Calls Tryd.prog 64 #[.pointer (some ⟨g, 0, none⟩)] w (NewC l w) := by
  obtain ⟨P, ss, h1, h2, h3⟩ := h
  have hlt := heap_lt h1
  have c0 : w.cell? ⟨g, 0, none⟩ = some (.pointer P) := heap_cell h1
  have c1 : w.cell? ⟨g, 1, none⟩ = some (.int .i64 (l.length : Int)) := heap_cell h1
  have H1 := Lib.hid h1
  have H2 := Lib.hid h2
  have H3 := Lib.hid h3
  clear h1 h2 h3
  obtain ⟨L, hL⟩ : ∃ L, L = l.length := ⟨_, rfl⟩
  rw [← hL] at hl c1
  have HL := Lib.hid hL
  clear hL
  have hmk := run_make_row' (P := Tryd.prog) 26 5 (.int .u8 0) 1 Tryd.underlying26 infoB rfl .i64 .i64 L (by omega) (by omega)
  go_enter Tryd.func64, Tryd.ntmps64
  go_wp2
  go_loopw [4, 5] (fun ve vp wr => ∃ (ss : List Tx) (P : Option Addr) (r : Tx) (k : Nat), k ≤ L ∧ ve = .int .i64 (k : Int) ∧ vp = .pointer P ∧ Hid (k = (flat ss).length) ∧ Hid (l = flat ss ++ r) ∧ Hid (Chain wr P ss) ∧ Hid (wr.heap[w.heap.size]? = some (.cells (cellsL (List.replicate k 0 ++ r)).toArray 5 (0, 0))) ∧ Hid (Below w.heap.size w wr)) (fun ve _ _ => (intOf ve).toNat)
  case atStart =>
    refine ⟨ss, P, [], L, Nat.le_refl _, rfl, rfl, Lib.hid (by rw [HL.out, H3.out]), Lib.hid (by rw [H3.out, List.append_nil]), Lib.hid (H2.out.kp (Kp.of_below (S := fun _ => False) ((Below.refl _ _).alloc (Nat.le_refl _) _)) (fun _ _ h => h.elim)), Lib.hid ?_, Lib.hid ((Below.refl _ _).alloc (Nat.le_refl _) _)⟩
    rw [Go.Deep.blk_alloc_new]
    congr 2
    apply Array.ext
    · simp [size_madeCells, cellsL_len]
    · intro i h1 h2
      simp [madeCells, cellsL, Nat.mod_one]
  case round =>
    obtain ⟨ss, P, r, k, hk, rfl, rfl, HK, HF, HC, HW, HB⟩ := hrel
    cases ss with
    | nil =>
      have hP : P = none := HC.out
      subst hP
      go_wp2
      go_ret
      have hk0 : k = 0 := HK.out
      have hr : l = r := HF.out
      have hx := HW.out
      rw [hk0, ← hr] at hx
      exact ⟨w.heap.size, by rw [HL.out]; rfl, Nat.le_refl _, hx, HB.out⟩
    | cons s ss =>
      obtain ⟨p, P', rfl, hp, hs0, hch⟩ := HC.out
      have p0 : wr.cell? ⟨p, 0, none⟩ = some (.pointer P') := heap_cell hp
      have p1 : wr.cell? ⟨p, 1, none⟩ = some (.string (tx s)) := heap_cell hp
      obtain ⟨E, hE⟩ : ∃ E, E = (flat ss).length := ⟨_, rfl⟩
      obtain ⟨n, hn⟩ : ∃ n, n = s.length := ⟨_, rfl⟩
      have hkE : k = E + n := by rw [HK.out, hE, hn]; simp [flat]
      subst hkE
      have es : (tx s).size = n := by rw [tx_size, hn]
      rw [← hn] at hs0
      have HE := Lib.hid hE
      have HN := Lib.hid hn
      have HP := Lib.hid hp
      have HCH := Lib.hid hch
      have hcp : ∃ ws : World, (Builtin.copy_ #[26, 9] 3 #[.slice (some ⟨w.heap.size, E, none⟩) (L - E) (L - E), .string (tx s)]).run Tryd.prog wr.drew = .ok (goInt n) ws ∧ ws.cell? ⟨p, 0, none⟩ = some (.pointer P') ∧
          Hid (ws.heap[w.heap.size]? = some (.cells (cellsL (List.replicate E 0 ++ (s ++ r))).toArray 5 (0, 0))) ∧ Hid (Chain ws P' ss) ∧ Hid (Below w.heap.size w ws) := by
        have hsz : (cellsL (List.replicate (E + n) 0 ++ r)).toArray.size = L := by
          have := congrArg List.length HF.out
          rw [List.length_append, ← HL.out, ← HK.out] at this
          simp [cellsL_len]; omega
        have hr := Lib.run_copy_row_string (P := Tryd.prog) wr.drew 26 9 3 5 w.heap.size E (L - E) (L - E) (tx s) _ 5 Tryd.underlying26 (by kernel_rfl) (show wr.drew.heap[w.heap.size]? = _ from HW.out) (by rw [es]; omega) (by rw [es, hsz]; omega)
        rw [splice_text E n s r hn.symm, es] at hr
        have hpb : p ≠ w.heap.size := by
          rintro rfl
          have h' := HW.out
          rw [hp] at h'
          injection h' with h'
          injection h' with _ e
          exact absurd e (by decide)
        refine ⟨_, hr, ?_, Lib.hid (setRow_heap _ _ _ _ _ _ (show wr.drew.heap[w.heap.size]? = _ from HW.out)), Lib.hid (Chain.keep (fun k c hc => ?_) ss P' hch), Lib.hid (below_setRow (w := wr.drew) ⟨HB.out.os, HB.out.tape, HB.out.output, HB.out.size, HB.out.block⟩ (Nat.le_refl _) _)⟩
        · rw [World.cell?_of_block (setRow_other _ _ _ _ hpb)]; exact p0
        · refine setRow_other _ _ _ _ ?_
          rintro rfl
          have h' := HW.out
          rw [hc] at h'
          injection h' with h'
          injection h' with _ e
          exact absurd e (by decide)
      obtain ⟨ws, hcp, q0, HX, HY, HZ⟩ := hcp
      have HR : Hid (l = flat ss ++ (s ++ r)) := Lib.hid (by rw [HF.out]; simp [flat])
      clear hE hn hp hch
      go_wp2
      have hEL : E ≤ L := by omega
      have hne : ¬ L = E := by omega
      have hne' : ¬ E = L := by omega
      refine wp_region_still_tail 7 (by kernel_rfl) (by kernel_rfl) ?_
      simp only [List.take_succ_cons, List.take_zero, List.drop_succ_cons, List.drop_zero]
      repeat (first | still_step)
      refine wpStill_nil ?_
      change wpList _ _ _ _ _ wr.drew
      go_wp2
      go_roundw
      case rel => exact ⟨ss, P', s ++ r, E, hEL, rfl, rfl, Lib.hid HE.out, HR, HY, HX, HZ⟩
      case measure => simp [intOf]; omega
theorem bytes_any (g : Nat) (l : Tx) (w : World) (h : Wr w g l) (hl : l.length ≤ 1000000000) :
    Calls Tryd.prog 64 #[.pointer (some ⟨g, 0, none⟩)] w (NewL l w) :=
  (bytes_own g l w h hl).mono fun _ _ ⟨b, h1, h2, h3, h4⟩ => ⟨b, h1, h2, rd_of_cells h3, h4⟩
end Go.Proofs.YtndofmoepjfnfaaDoor
namespace Go.Proofs.YtndofmoepjfnfaaDoor
open Go.RowKit
open Pt (Tx)


theorem Wr.new (w : World) : Wr (w.alloc (.cells #[.pointer none, .int .i64 0] 117)) w.heap.size [] := ⟨none, [], Go.Deep.blk_alloc_new _ _, rfl, rfl⟩
theorem lo_g {a b : World} {g : Nat} (hk : Kp (· = g) a b) {B : Nat} (hB : B ≤ a.heap.size) (hg : B ≤ g) : Below B a b := hk.below hB (fun k h => by subst h; exact hg)
end Go.Proofs.YtndofmoepjfnfaaDoor
namespace Go.Proofs.YtndofmoepjfnfaaDoor
open Go.RowKit
open Pt (Tx)

/-- bytes in new memory -/
def NewS (l : Tx) (w : World) (e : Ending) (w' : World) : Prop := ∃ b n, e = .returned (.slice (some ⟨b, 0, none⟩) n n) ∧ n = l.length ∧ w.heap.size ≤ b ∧ w'.heap[b]? = some (.cells (cellsL l).toArray 5 (0, 0)) ∧ Below w.heap.size w w'
theorem wbyte_int (g : Nat) (l : Tx) (n : Int) (w : World) (h : Wr w g l) (hl : l.length ≤ 999999990) :
    Calls Tryd.prog 62 #[.pointer (some ⟨g, 0, none⟩), .int .u8 (n % 256)] w (Wrote g (l ++ [Cd.b8 n]) w) := by
  rw [← Cd.b8_nat]; exact wbyte_any g l (Cd.b8 n) w h hl
end Go.Proofs.YtndofmoepjfnfaaDoor
namespace Go.Proofs.YtndofmoepjfnfaaDoor
open Go.RowKit
open Pt (Tx)

/-- the unit in a block -/
def unitObj (k lb nb : Int) (A : Option Addr) (m C : Nat) : Obj := .cells #[.int .i64 k, .int .i64 lb, .int .i64 nb, .slice A m C] 39
def Checked (room er : Int) (w : World) (e : Ending) (w' : World) : Prop := e = .returned (.tuple #[.int .i64 room, .int .i64 er]) ∧ Below w.heap.size w w'
theorem check_kind (k lb nb : Int) (A : Option Addr) (m C : Nat) (w : World) (h : k < 1 ∨ 6 < k) :
    Calls Tryd.prog 53 #[.agg #[.int .i64 k, .int .i64 lb, .int .i64 nb, .slice A m C]] w (Checked 0 1 w) := by
  have q1 : (k == 1) = false := beq_eq_false_iff_ne.2 (by omega)
  have q2 : (k == 2) = false := beq_eq_false_iff_ne.2 (by omega)
  have q3 : (k == 3) = false := beq_eq_false_iff_ne.2 (by omega)
  have q4 : (k == 4) = false := beq_eq_false_iff_ne.2 (by omega)
  have q5 : (k == 5) = false := beq_eq_false_iff_ne.2 (by omega)
  have q6 : (k == 6) = false := beq_eq_false_iff_ne.2 (by omega)
  have HB : Hid (Below w.heap.size w (w.alloc (unitObj k lb nb A m C))) := Lib.hid ((Below.refl _ _).alloc (Nat.le_refl _) _)
  clear h
  go_enter Tryd.func53, Tryd.ntmps53
  go_wp2
  go_ret2
  exact ⟨rfl, HB.out⟩
set_option maxHeartbeats 4000000 in
theorem check_arg (k lb nb : Int) (A : Option Addr) (m C : Nat) (w : World) (h : 1 ≤ k ∧ k ≤ 6) (h' : lb < 1 ∨ 2147483647 < lb ∨ nb < 0 ∨ 2147483647 < nb) :
    Calls Tryd.prog 53 #[.agg #[.int .i64 k, .int .i64 lb, .int .i64 nb, .slice A m C]] w (Checked 0 1 w) := by
  have HB : Hid (Below w.heap.size w (w.alloc (unitObj k lb nb A m C))) := Lib.hid ((Below.refl _ _).alloc (Nat.le_refl _) _)
  have hk : k = 1 ∨ k = 2 ∨ k = 3 ∨ k = 4 ∨ k = 5 ∨ k = 6 := by omega
  clear h
  have hq : (decide (lb < 1) = true) ∨ (decide (lb < 1) = false ∧ decide (2147483647 < lb) = true) ∨ (decide (lb < 1) = false ∧ decide (2147483647 < lb) = false ∧ decide (nb < 0) = true) ∨ (decide (lb < 1) = false ∧ decide (2147483647 < lb) = false ∧ decide (nb < 0) = false ∧ decide (2147483647 < nb) = true) := by
    simp only [decide_eq_true_eq, decide_eq_false_iff_not]; omega
  clear h'
  rcases hk with rfl | rfl | rfl | rfl | rfl | rfl <;> rcases hq with q1 | ⟨q1, q2⟩ | ⟨q1, q2, q3⟩ | ⟨q1, q2, q3, q4⟩
  all_goals
    go_enter Tryd.func53, Tryd.ntmps53
    go_wp2
    go_ret2
    exact ⟨rfl, HB.out⟩
theorem check_long (k lb nb : Int) (A : Option Addr) (m C : Nat) (w : World) (h : 1 ≤ k ∧ k ≤ 6) (h' : 1 ≤ lb ∧ lb ≤ 2147483647 ∧ 0 ≤ nb ∧ nb ≤ 2147483647) (hm : Fm.room k < m) :
    Calls Tryd.prog 53 #[.agg #[.int .i64 k, .int .i64 lb, .int .i64 nb, .slice A m C]] w (Checked 0 4 w) := by
  have HB : Hid (Below w.heap.size w (w.alloc (unitObj k lb nb A m C))) := Lib.hid ((Below.refl _ _).alloc (Nat.le_refl _) _)
  have q1 : decide (lb < 1) = false := decide_eq_false (by omega)
  have q2 : decide (2147483647 < lb) = false := decide_eq_false (by omega)
  have q3 : decide (nb < 0) = false := decide_eq_false (by omega)
  have q4 : decide (2147483647 < nb) = false := decide_eq_false (by omega)
  have hk : k = 1 ∨ k = 2 ∨ k = 3 ∨ k = 4 ∨ k = 5 ∨ k = 6 := by omega
  clear h h'
  rcases hk with rfl | rfl | rfl | rfl | rfl | rfl
  all_goals
    simp only [Fm.room, reduceIte, Int.reduceEq] at hm
    go_enter Tryd.func53, Tryd.ntmps53
    go_wp2
    go_ret2
    exact ⟨rfl, HB.out⟩
theorem check_ok (k lb nb : Int) (A : Option Addr) (m C : Nat) (w : World) (h : 1 ≤ k ∧ k ≤ 6) (h' : 1 ≤ lb ∧ lb ≤ 2147483647 ∧ 0 ≤ nb ∧ nb ≤ 2147483647) (hm : m ≤ Fm.room k) :
    Calls Tryd.prog 53 #[.agg #[.int .i64 k, .int .i64 lb, .int .i64 nb, .slice A m C]] w (Checked (Fm.room k) 0 w) := by
  have HB : Hid (Below w.heap.size w (w.alloc (unitObj k lb nb A m C))) := Lib.hid ((Below.refl _ _).alloc (Nat.le_refl _) _)
  have q1 : decide (lb < 1) = false := decide_eq_false (by omega)
  have q2 : decide (2147483647 < lb) = false := decide_eq_false (by omega)
  have q3 : decide (nb < 0) = false := decide_eq_false (by omega)
  have q4 : decide (2147483647 < nb) = false := decide_eq_false (by omega)
  have hk : k = 1 ∨ k = 2 ∨ k = 3 ∨ k = 4 ∨ k = 5 ∨ k = 6 := by omega
  clear h h'
  rcases hk with rfl | rfl | rfl | rfl | rfl | rfl
  all_goals
    simp only [Fm.room, reduceIte, Int.reduceEq] at hm ⊢
    go_enter Tryd.func53, Tryd.ntmps53
    go_wp2
    go_ret2
    exact ⟨rfl, HB.out⟩
theorem unit4 {w : World} {g : Nat} {k lb nb : Int} {A : Option Addr} {m C : Nat} (h : w.heap[g]? = some (unitObj k lb nb A m C)) :
    w.cell? ⟨g, 0, none⟩ = some (.int .i64 k) ∧ w.cell? ⟨g, 1, none⟩ = some (.int .i64 lb) ∧ w.cell? ⟨g, 2, none⟩ = some (.int .i64 nb) ∧ w.cell? ⟨g, 3, none⟩ = some (.slice A m C) :=
  ⟨heap_cell h, heap_cell h, heap_cell h, heap_cell h⟩
set_option maxHeartbeats 1000000 in
theorem head_any (k lb nb : Int) (A : Option Addr) (s : Tx) (m C : Nat) (w : World) (hm : m = s.length) :
    Calls Tryd.prog 54 #[.agg #[.int .i64 k, .int .i64 lb, .int .i64 nb, .slice A m C]] w (NewS (Fm.head ⟨k, lb, nb, s⟩) w) := by
  have HM := Lib.hid hm
  clear hm
  obtain ⟨wb, hwb⟩ : ∃ wb, wb = (w.alloc (unitObj k lb nb A m C)).alloc (.cells #[.pointer none, .int .i64 0] 117) := ⟨_, rfl⟩
  have HB0 : Hid (Below w.heap.size w wb) := Lib.hid (by rw [hwb]; exact ((Below.refl _ _).alloc (Nat.le_refl _) _).alloc (by simp) _)
  have H0 : Hid (Wr wb (w.heap.size + 1) []) := Lib.hid (by
    have := Wr.new (w.alloc (unitObj k lb nb A m C))
    rw [hwb]; simpa using this)
  have HU0 : Hid (wb.heap[w.heap.size]? = some (unitObj k lb nb A m C)) := Lib.hid (by
    rw [hwb, Below.heap_alloc _ _ _ (by simp)]; exact Go.Deep.blk_alloc_new _ _)
  obtain ⟨a0, a1, a2, a3⟩ := unit4 HU0.out
  have HW := Lib.hid hwb
  rw [hwb] at a0 a1 a2 a3
  clear hwb
  unfold unitObj at a0 a1 a2 a3 HW
  have hle : ∀ (g : Nat) (x y : World), Kp (· = g) x y → g = w.heap.size + 1 → x.heap[w.heap.size]? = some (unitObj k lb nb A m C) → y.heap[w.heap.size]? = some (unitObj k lb nb A m C) := fun g x y hk hg hx => by
    subst hg
    exact (hk.block _ (heap_lt hx) (by omega)).trans hx
  have HLE := Lib.hid hle
  clear hle
  go_enter Tryd.func54, Tryd.ntmps54
  go_wp2_with fail
  rw [← HW.out]
  refine (wbyte_int _ [] k wb H0.out (by simp)).mono ?_
  rintro e w1 ⟨rfl, hW1, hK1⟩
  have HW1 := Lib.hid hW1
  have HU1 := Lib.hid (HLE.out _ _ _ hK1 rfl HU0.out)
  have HB1 := Lib.hid (HB0.out.trans (lo_g hK1 HB0.out.size (Nat.le_succ _)))
  obtain ⟨b0, b1, b2, b3⟩ := unit4 HU1.out
  clear hW1 hK1 a0 a1 a2 a3
  go_wp2_with fail
  refine (wint_any _ _ lb w1 HW1.out (by simp)).mono ?_
  rintro e w2 ⟨rfl, hW2, hK2⟩
  have HW2 := Lib.hid hW2
  have HU2 := Lib.hid (HLE.out _ _ _ hK2 rfl HU1.out)
  have HB2 := Lib.hid (HB1.out.trans (lo_g hK2 HB1.out.size (Nat.le_succ _)))
  obtain ⟨c0, c1, c2, c3⟩ := unit4 HU2.out
  clear hW2 hK2 b0 b1 b2 b3
  go_wp2_with fail
  refine (wint_any _ _ nb w2 HW2.out (by simp [Cd.be4_len])).mono ?_
  rintro e w3 ⟨rfl, hW3, hK3⟩
  have HW3 := Lib.hid hW3
  have HU3 := Lib.hid (HLE.out _ _ _ hK3 rfl HU2.out)
  have HB3 := Lib.hid (HB2.out.trans (lo_g hK3 HB2.out.size (Nat.le_succ _)))
  obtain ⟨d0, d1, d2, d3⟩ := unit4 HU3.out
  clear hW3 hK3 c0 c1 c2 c3
  go_wp2_with fail
  refine (wbyte_int _ _ ((m : Int) / 256) w3 HW3.out (by simp [Cd.be4_len])).mono ?_
  rintro e w4 ⟨rfl, hW4, hK4⟩
  have HW4 := Lib.hid hW4
  have HU4 := Lib.hid (HLE.out _ _ _ hK4 rfl HU3.out)
  have HB4 := Lib.hid (HB3.out.trans (lo_g hK4 HB3.out.size (Nat.le_succ _)))
  obtain ⟨e0, e1, e2, e3⟩ := unit4 HU4.out
  clear hW4 hK4 d0 d1 d2 d3
  go_wp2_with fail
  refine (wbyte_int _ _ (m : Int) w4 HW4.out (by simp [Cd.be4_len])).mono ?_
  rintro e w5 ⟨rfl, hW5, hK5⟩
  have HW5 := Lib.hid hW5
  have HB5 := Lib.hid (HB4.out.trans (lo_g hK5 HB4.out.size (Nat.le_succ _)))
  clear hW5 hK5 e0 e1 e2 e3
  go_wp2_with fail
  refine (bytes_own _ _ w5 HW5.out (by simp [Cd.be4_len])).mono ?_
  rintro e w6 ⟨b, rfl, hb, hr6, hB6⟩
  have HR6 := Lib.hid hr6
  have HB6 := Lib.hid (HB5.out.trans (hB6.mono HB5.out.size))
  have HLO := Lib.hid (Nat.le_trans HB5.out.size hb)
  clear hr6 hB6 hb
  go_wp2
  go_ret
  have hh : Fm.head ⟨k, lb, nb, s⟩ = ((((([] ++ [Cd.b8 k]) ++ Cd.be4 lb) ++ Cd.be4 nb) ++ [Cd.b8 ((m : Int) / 256)]) ++ [Cd.b8 (m : Int)]) := by rw [HM.out]; rfl
  rw [hh]
  exact ⟨b, _, rfl, rfl, HLO.out, HR6.out, HB6.out⟩
set_option maxHeartbeats 1000000 in
theorem tail_any (A : Option Addr) (l : Tx) (n C : Nat) (G : Nat → Prop) (w : World) (hm : n = l.length) (hn : l.length ≤ 1000000) (hr : RdL w A l G) :
    Calls Tryd.prog 55 #[.slice A n C] w (NewS (Cd.be4 (sumL l)) w) := by
  have HB0 : Hid (Below w.heap.size w (w.alloc (.cells #[.pointer none, .int .i64 0] 117))) := Lib.hid ((Below.refl _ _).alloc (Nat.le_refl _) _)
  have H0 := Lib.hid (Wr.new w)
  have HR := Lib.hid (hr.old HB0.out)
  have HM := Lib.hid hm
  clear hm hr
  have s0 := sumL_lo l
  have s1 := sumL_hi l
  go_enter Tryd.func55, Tryd.ntmps55
  go_wp2_with fail
  refine (sumL_any A l n C G _ HM.out (by unfold maxLen; omega) HR.out).mono ?_
  rintro e _ ⟨rfl, rfl⟩
  go_wp2_with fail
  refine (wint_any _ _ (sumL l) _ H0.out (by simp)).mono ?_
  rintro e w2 ⟨rfl, hW2, hK2⟩
  have HW2 := Lib.hid hW2
  have HB2 := Lib.hid (HB0.out.trans (lo_g hK2 HB0.out.size (Nat.le_refl _)))
  clear hW2 hK2
  go_wp2_with fail
  refine (bytes_own _ _ w2 HW2.out (by simp [Cd.be4_len])).mono ?_
  rintro e w3 ⟨b, rfl, hb, hr3, hB3⟩
  have HR3 := Lib.hid hr3
  have HB3 := Lib.hid (HB2.out.trans (hB3.mono HB2.out.size))
  have HLO := Lib.hid (Nat.le_trans HB2.out.size hb)
  clear hr3 hB3 hb
  go_wp2
  go_ret
  exact ⟨b, _, rfl, rfl, HLO.out, HR3.out, HB3.out⟩
end Go.Proofs.YtndofmoepjfnfaaDoor
namespace Go.Proofs.YtndofmoepjfnfaaDoor
open Go.RowKit
open Pt (Tx)

/-- what Put answers: the block and the error -/
def PutU (u : Fm.U) (w : World) (e : Ending) (w' : World) : Prop :=
  ∃ A n C, e = .returned (.tuple #[.slice A n C, .int .i64 (Fm.err u)]) ∧ n = (Fm.put u).length ∧ n ≤ C ∧ C ≤ maxLen ∧ (A = none → n = 0 ∧ C = 0) ∧ RdL w' A (Fm.put u) (w.heap.size ≤ ·) ∧ Below w.heap.size w w'
set_option maxRecDepth 100000 in
theorem below_unit {k lb nb : Int} {A : Option Addr} {m C : Nat} {B : Nat} {x y : World} (hb : Below x.heap.size x y) (h : x.heap[B]? = some (unitObj k lb nb A m C)) : y.heap[B]? = some (unitObj k lb nb A m C) :=
  (hb.block B (heap_lt h)).trans h
set_option maxRecDepth 100000 in
theorem put_bad (k lb nb : Int) (A : Option Addr) (s : Tx) (m C : Nat) (w : World) (er : Int) (h0 : er = 1 ∨ er = 4) (he : Fm.err ⟨k, lb, nb, s⟩ = er)
    (hc : ∀ w, Calls Tryd.prog 53 #[.agg #[.int .i64 k, .int .i64 lb, .int .i64 nb, .slice A m C]] w (Checked 0 er w)) :
    Calls Tryd.prog 43 #[.agg #[.int .i64 k, .int .i64 lb, .int .i64 nb, .slice A m C]] w (PutU ⟨k, lb, nb, s⟩ w) := by
  have HB : Hid (Below w.heap.size w (w.alloc (unitObj k lb nb A m C))) := Lib.hid ((Below.refl _ _).alloc (Nat.le_refl _) _)
  obtain ⟨a0, a1, a2, a3⟩ := unit4 (Go.Deep.blk_alloc_new w (unitObj k lb nb A m C))
  unfold unitObj at a0 a1 a2 a3
  have HE := Lib.hid he
  have hp : Fm.put ⟨k, lb, nb, s⟩ = [] := Fm.put_no (fun h => by rw [Fm.err_ok h] at he; omega)
  have HP := Lib.hid hp
  have HC := Lib.hid hc
  clear he hp hc
  rcases h0 with rfl | rfl
  all_goals
    go_enter Tryd.func43, Tryd.ntmps43
    go_wp2_with fail
    refine (HC.out _).mono ?_
    rintro e w1 ⟨rfl, hb⟩
    have HB1 := Lib.hid (HB.out.trans (hb.mono HB.out.size))
    clear hb a0 a1 a2 a3
    go_wp2
    go_ret2
    refine ⟨none, 0, 0, by rw [HE.out]; rfl, by rw [HP.out]; rfl, Nat.le_refl _, by decide, fun _ => ⟨rfl, rfl⟩, by rw [HP.out]; exact RdL.empty _ _ _, HB1.out⟩
set_option maxRecDepth 100000 in
set_option maxHeartbeats 2000000 in
theorem put_own (k lb nb : Int) (A : Option Addr) (s : Tx) (m C : Nat) (G : Nat → Prop) (w : World) (hm : m = s.length) (hA : A = none → m = 0 ∧ C = 0) (hr : RdL w A s G) (hok : Fm.Ok ⟨k, lb, nb, s⟩) :
    Calls Tryd.prog 43 #[.agg #[.int .i64 k, .int .i64 lb, .int .i64 nb, .slice A m C]] w (fun e w' => ∃ A n C, e = .returned (.tuple #[.slice A n C, .int .i64 0]) ∧ OwnL w' w.heap.size (.slice A n C) (Fm.blk ⟨k, lb, nb, s⟩) ∧ n = (Fm.blk ⟨k, lb, nb, s⟩).length ∧ Below w.heap.size w w') := by
  obtain ⟨a0, a1, a2, a3⟩ := unit4 (Go.Deep.blk_alloc_new w (unitObj k lb nb A m C))
  have HB : Hid (Below w.heap.size w (w.alloc (unitObj k lb nb A m C))) := Lib.hid ((Below.refl _ _).alloc (Nat.le_refl _) _)
  have HU : Hid ((w.alloc (unitObj k lb nb A m C)).heap[w.heap.size]? = some (unitObj k lb nb A m C)) := Lib.hid (Go.Deep.blk_alloc_new _ _)
  have HK := Lib.hid hok
  have hroom : m ≤ Fm.room k := by rw [hm]; exact hok.2
  have hr79 := Fm.room_le k
  obtain ⟨R, hR⟩ : ∃ R, R = Fm.room k := ⟨_, rfl⟩
  have hchk := fun w => check_ok k lb nb A m C w ⟨hok.1.1, hok.1.2.1⟩ ⟨hok.1.2.2.1, hok.1.2.2.2.1, hok.1.2.2.2.2.1, hok.1.2.2.2.2.2⟩ hroom
  rw [← hR] at hchk hroom hr79
  have HC := Lib.hid hchk
  have HR := Lib.hid hr
  have HM := Lib.hid hm
  have HA := Lib.hid hA
  have HRM := Lib.hid hR
  have hsub : (R : Int) - (m : Int) = ((R - m : Nat) : Int) := by omega
  clear hok hm hA hr hR hchk
  unfold unitObj at a0 a1 a2 a3
  go_enter Tryd.func43, Tryd.ntmps43
  go_wp2_with fail
  refine (HC.out _).mono ?_
  rintro e w1 ⟨rfl, hb⟩
  have HB1 := Lib.hid (HB.out.trans (hb.mono HB.out.size))
  have HU1 := Lib.hid (below_unit hb HU.out)
  clear hb a0 a1 a2 a3 HU HB HC
  obtain ⟨a0, a1, a2, a3⟩ := unit4 HU1.out
  have hlt : w.heap.size < w1.heap.size := heap_lt HU1.out
  have hbel : Below w1.heap.size w1 w1.drew := (Below.refl _ _).drew
  have d0 : w1.drew.cell? ⟨w.heap.size, 0, none⟩ = some (.int .i64 k) := a0
  have d1 : w1.drew.cell? ⟨w.heap.size, 1, none⟩ = some (.int .i64 lb) := a1
  have d2 : w1.drew.cell? ⟨w.heap.size, 2, none⟩ = some (.int .i64 nb) := a2
  have d3 : w1.drew.cell? ⟨w.heap.size, 3, none⟩ = some (.slice A m C) := a3
  go_wp2_with fail
  go_region_held3 (fun w' => w'.cell? ⟨w.heap.size, 0, none⟩ = some (.int .i64 k) ∧ w'.cell? ⟨w.heap.size, 1, none⟩ = some (.int .i64 lb) ∧ w'.cell? ⟨w.heap.size, 2, none⟩ = some (.int .i64 nb) ∧ w'.cell? ⟨w.heap.size, 3, none⟩ = some (.slice A m C) ∧ Below w1.heap.size w1 w')
    (first
      | exact ⟨f0, f1, f2, f3, hbz⟩
      | exact ⟨e0, e1, e2, e3, hbt⟩
      | exact ⟨d0, d1, d2, d3, hbel⟩)
    (first
      | (go_at_call 54; refine (head_any k lb nb A s m C w1.drew HM.out).mono ?_; rintro e wn ⟨b, n, rfl, hn, hlo, hcl, hbn⟩; have hbt : Below w1.heap.size w1 wn := hbel.trans hbn; obtain ⟨e0, e1, e2, e3⟩ := unit4 (below_unit hbt HU1.out); have hnl : n = 11 := hn; subst hnl; have hO : OwnL wn w1.heap.size (.slice (some ⟨b, 0, none⟩) 11 11) (Fm.head ⟨k, lb, nb, s⟩) := own_of_cells hcl hlo rfl (by rw [Fm.head_len]; decide); have HS : RdL wn A s (· < w.heap.size) := ((HR.out.in_.old (HB1.out.trans (hbt.mono HB1.out.size))).mono (fun _ h => h.2)); obtain ⟨A4, C4, w4, hr4, hO4, hG4⟩ := ap_run wn w1.heap.size _ _ hO A m C s _ HM.out.symm HA.out HS (by rw [Fm.head_len]; omega) hbt.size (11 + m) rfl; have hbz : Below w1.heap.size w1 w4 := hbt.grown hG4 hbt.size (fun x hx => hO.lo x hx); obtain ⟨f0, f1, f2, f3⟩ := unit4 (below_unit hbz HU1.out); clear hn hlo hcl hbn hO HS hG4)
      | (refine step_append_eq (by rfl) _ _ _ _ (by rfl) _ _ _ _ hr4 (by rfl) (by rfl) ?_))
  have HO4 := Lib.hid hO4
  have HBZ := Lib.hid hbz
  clear hO4 hbz hbt e0 e1 e2 e3 d0 d1 d2 d3 a0 a1 a2 a3 hbel hr4
  have hh11 : (Fm.head ⟨k, lb, nb, s⟩ ++ s).length = 11 + m := by rw [List.length_append, Fm.head_len, ← HM.out]
  obtain ⟨A5, C5, w5, hr5, hO5, hG5⟩ := apz_run w4 w1.heap.size _ _ HO4.out (by omega) (R - m) (by omega) HBZ.out.size (((R - m : Nat) : Int)) rfl (11 + R) (by omega)
  have hbz5 : Below w1.heap.size w1 w5 := HBZ.out.grown hG5 HBZ.out.size (fun x hx => HO4.out.lo x hx)
  have HB5 := Lib.hid hbz5
  have HBD : Hid (Fm.body ⟨k, lb, nb, s⟩ = Fm.head ⟨k, lb, nb, s⟩ ++ s ++ List.replicate (R - m) 0) := Lib.hid (by unfold Fm.body Fm.pad; rw [HRM.out, HM.out])
  rw [← HBD.out] at hO5
  have hl5 : (Fm.body ⟨k, lb, nb, s⟩).length = 11 + R := by rw [Fm.body_len HK.out, HRM.out]
  have HL5 := Lib.hid hl5
  have HO5 := Lib.hid hO5
  clear hO5 hG5 hbz5 hh11 hl5
  go_wp2_with (at_builtin; refine Lib.wpList_append_run _ rfl _ _ _ _ rfl _ _ rfl rfl _ _ (hr5 _) ?_)
  have HS5 := Lib.hid (RdL.mono (by obtain ⟨A', C', e, _, _, _, h⟩ := HO5.out.rd; injection e with e1 e2 e3; subst e1; exact h) (fun _ _ => trivial) : RdL w5 A5 (Fm.body ⟨k, lb, nb, s⟩) (fun _ => True))
  go_wp2_with fail
  refine (tail_any A5 (Fm.body ⟨k, lb, nb, s⟩) (11 + R) C5 _ w5 HL5.out.symm (by rw [HL5.out]; omega) HS5.out).mono ?_
  rintro e w6 ⟨b6, n6, rfl, hn6, hlo6, hcl6, hb6⟩
  have hn6' : n6 = 4 := hn6
  subst hn6'
  have hbz6 : Below w1.heap.size w1 w6 := HB5.out.trans (hb6.mono HB5.out.size)
  have hO6 : OwnL w6 w1.heap.size (.slice A5 (11 + R) C5) (Fm.body ⟨k, lb, nb, s⟩) := HO5.out.of_block fun x hx => hb6.block x (HO5.out.lt x hx)
  obtain ⟨A7, C7, w7, hr7, hO7, hG7⟩ := ap_run w6 w1.heap.size _ _ hO6 (some ⟨b6, 0, none⟩) 4 4 (Cd.be4 (sumL (Fm.body ⟨k, lb, nb, s⟩))) _ rfl (fun h => by cases h) (rd_of_cells hcl6) (by rw [HL5.out]; omega) hbz6.size (15 + R) (by rw [HL5.out]; omega)
  have HB7 := Lib.hid (HB1.out.trans ((hbz6.grown hG7 hbz6.size (fun x hx => hO6.lo x hx)).mono HB1.out.size))
  have HO7 := Lib.hid hO7
  have HZ7 := Lib.hid HB1.out.size
  clear hn6 hlo6 hcl6 hb6 hbz6 hO6 hO7 hG7
  go_wp2_with (at_builtin; refine Lib.wpList_append_run _ rfl _ _ _ _ rfl _ _ rfl rfl _ _ (hr7 _) ?_)
  go_ret2
  have hlen : (Fm.body ⟨k, lb, nb, s⟩ ++ Cd.be4 (sumL (Fm.body ⟨k, lb, nb, s⟩))).length = 15 + R := by rw [List.length_append, HL5.out, Cd.be4_len]; omega
  have hb0 : Fm.blk ⟨k, lb, nb, s⟩ = Fm.body ⟨k, lb, nb, s⟩ ++ Cd.be4 (sumL (Fm.body ⟨k, lb, nb, s⟩)) := rfl
  refine ⟨A7, 15 + R, C7, rfl, ?_, by rw [hb0, hlen], HB7.out⟩
  rw [hb0]
  exact Go.Joins.ownsRow_le HO7.out HZ7.out
set_option maxRecDepth 100000 in
theorem put_good (k lb nb : Int) (A : Option Addr) (s : Tx) (m C : Nat) (G : Nat → Prop) (w : World) (hm : m = s.length) (hA : A = none → m = 0 ∧ C = 0) (hr : RdL w A s G) (hok : Fm.Ok ⟨k, lb, nb, s⟩) :
    Calls Tryd.prog 43 #[.agg #[.int .i64 k, .int .i64 lb, .int .i64 nb, .slice A m C]] w (PutU ⟨k, lb, nb, s⟩ w) := by
  refine (put_own k lb nb A s m C G w hm hA hr hok).mono fun e w' h => ?_
  obtain ⟨A7, n7, C7, rfl, ho, hn, hb⟩ := h
  obtain ⟨A8, C8, e8, g1, g2, g3, g4⟩ := ho.rd
  injection e8 with x1 x2 x3
  subst x1 x3
  rw [← x2] at g1 g3
  have hput : Fm.put ⟨k, lb, nb, s⟩ = Fm.blk ⟨k, lb, nb, s⟩ := Fm.put_ok hok
  refine ⟨A7, n7, C7, by rw [Fm.err_ok hok], by rw [hput, hn], g1, g2, g3, ?_, hb⟩
  rw [hput]
  exact g4.mono fun x h => h.1
set_option maxRecDepth 100000 in
theorem framePut_any (k lb nb : Int) (A : Option Addr) (s : Tx) (m C : Nat) (G : Nat → Prop) (w : World) (hm : m = s.length) (hA : A = none → m = 0 ∧ C = 0) (hr : RdL w A s G) :
    Calls Tryd.prog 43 #[.agg #[.int .i64 k, .int .i64 lb, .int .i64 nb, .slice A m C]] w (PutU ⟨k, lb, nb, s⟩ w) := by
  by_cases ha : Fm.argOk ⟨k, lb, nb, s⟩
  · by_cases hl : Fm.room k < m
    · exact put_bad k lb nb A s m C w 4 (.inr rfl) (Fm.err_long ha (by rw [hm] at hl; exact hl)) fun w => check_long k lb nb A m C w ⟨ha.1, ha.2.1⟩ ⟨ha.2.2.1, ha.2.2.2.1, ha.2.2.2.2.1, ha.2.2.2.2.2⟩ hl
    · exact put_good k lb nb A s m C G w hm hA hr ⟨ha, by show s.length ≤ Fm.room k; omega⟩
  · refine put_bad k lb nb A s m C w 1 (.inl rfl) (Fm.err_arg ha) fun w => ?_
    by_cases hk : k < 1 ∨ 6 < k
    · exact check_kind k lb nb A m C w hk
    · refine check_arg k lb nb A m C w (by omega) ?_
      unfold Fm.argOk at ha
      simp only at ha
      omega
end Go.Proofs.YtndofmoepjfnfaaDoor
