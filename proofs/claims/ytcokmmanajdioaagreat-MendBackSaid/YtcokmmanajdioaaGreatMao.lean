/- A tape that lies in a block, or in a row of them. No function of the program. A block of a row as it is answered; 79 zeros in new memory. No function of the program. A row of tapes, as it is answered. No function of the program. Words for Parity, whichever: a row without bytes, and what is kept. No function of the program. How long tapes are: the document's own answer. -/
import Derived.Test.YtcokmmanajdioaaGreatMab
import Derived.Test.YtcokmmanajdioaaGreatChecked
import Derived.OwnWalk
import Derived.Handy
import Derived.WalkSpells
import Derived.WalkLawsBesides
import Derived.Test.YtcokmmanajdioaaGreatMaf
import Derived.Test.YtcokmmanajdioaaGreatMai
import Derived.Test.YtcokmmanajdioaaGreatMaj
namespace Go.Proofs.YtcokmmanajdioaaGreat
open Go.RowKit

/-- a tape in a block -/
def tapeObj (lab cap : Int) (A : Option Addr) (n C : Nat) (lost : Bool) : Obj := .cells #[.int .i64 lab, .int .i64 cap, .slice A n C, .bool lost] 31
theorem tape4 {w : World} {g : Nat} {lab cap : Int} {A : Option Addr} {n C : Nat} {lost : Bool} (h : w.heap[g]? = some (tapeObj lab cap A n C lost)) :
    w.cell? ⟨g, 0, none⟩ = some (.int .i64 lab) ∧ w.cell? ⟨g, 1, none⟩ = some (.int .i64 cap) ∧ w.cell? ⟨g, 2, none⟩ = some (.slice A n C) ∧ w.cell? ⟨g, 3, none⟩ = some (.bool lost) := ⟨heap_cell h, heap_cell h, heap_cell h, heap_cell h⟩
theorem below_tape {lab cap : Int} {A : Option Addr} {n C : Nat} {lost : Bool} {B : Nat} {x y : World} (hb : Below x.heap.size x y) (h : x.heap[B]? = some (tapeObj lab cap A n C lost)) : y.heap[B]? = some (tapeObj lab cap A n C lost) :=
  (hb.block B (heap_lt h)).trans h
theorem tape_new (w : World) (lab cap : Int) (A : Option Addr) (n C : Nat) (lost : Bool) : Below w.heap.size w (w.alloc (tapeObj lab cap A n C lost)) ∧ (w.alloc (tapeObj lab cap A n C lost)).heap[w.heap.size]? = some (tapeObj lab cap A n C lost) :=
  ⟨(Below.refl _ _).alloc (Nat.le_refl _) _, Go.Deep.blk_alloc_new _ _⟩
end Go.Proofs.YtcokmmanajdioaaGreat
namespace Go.Proofs.YtcokmmanajdioaaGreat
open Go.RowKit Mx
open Pt (Tx)

/-- a block of a row: new memory, or no bytes -/
def BlkA (s : Tx) (w : World) (e : Ending) (w' : World) : Prop :=
  ∃ A C, e = .returned (.slice A s.length C) ∧ s.length ≤ C ∧ (A = none → s.length = 0 ∧ C = 0) ∧ Rd w' A s.length (rowL s) (w.heap.size ≤ ·) ∧ Below w.heap.size w w'
theorem BlkA.nil {w w' : World} (h : Below w.heap.size w w') : BlkA [] w (.returned (.slice none 0 0)) w' := ⟨none, 0, rfl, Nat.le_refl _, fun _ => ⟨rfl, rfl⟩, Rd.empty _ _ _ _, h⟩
theorem BlkA.of {s : Tx} {w w' : World} {g n C : Nat} (hn : n = s.length) (hC : n ≤ C) (hg : w.heap.size ≤ g) (hr : RowAt w' g n (rowL s)) (h : Below w.heap.size w w') : BlkA s w (.returned (.slice (some ⟨g, 0, none⟩) n C)) w' :=
  ⟨_, C, by rw [hn], by rw [← hn]; exact hC, fun h => (by cases h), by rw [← hn]; exact hr.rd _ hg, h⟩
theorem rowL_zeros : rowL St.zeros = fun _ => 0 := by
  funext i
  unfold rowL St.zeros
  rw [List.getD_eq_getElem?_getD, List.getElem?_replicate]
  split <;> rfl
theorem zeros_row {w : World} {g : Nat} (h : RowAt w g 79 (fun _ => 0)) : RowAt w g 79 (rowL St.zeros) := by rw [rowL_zeros]; exact h
theorem make79 : ∀ wx : World, (Instr.makeSlice 34 (.int .i64 79) (.int .i64 79)).run Tryz.prog wx = .ok (.slice (some ⟨wx.heap.size, 0, none⟩) 79 79) (wx.alloc (.cells (madeCells #[.int .u8 0] 79) 5)) := fun wx =>
  run_make_row' (P := Tryz.prog) 34 5 (.int .u8 0) 1 Tryz.underlying34 infoByte rfl .i64 .i64 79 (by decide) (by decide) wx
theorem zeros_new {w0 w : World} (h : Below w0.heap.size w0 w) : BlkA St.zeros w0 (.returned (.slice (some ⟨w.heap.size, 0, none⟩) 79 79)) (w.alloc (.cells (madeCells #[.int .u8 0] 79) 5)) :=
  BlkA.of (by rw [St.zeros_len]) (Nat.le_refl _) h.size (zeros_row (RowAt.made w 79)) (h.alloc h.size _)
end Go.Proofs.YtcokmmanajdioaaGreat
namespace Go.Proofs.YtcokmmanajdioaaGreat
open Go.RowKit Mx
open Pt (Tx)

theorem St.row_at {ts : List St.T} {n : Int} {i : Nat} (hi : i < ts.length) : St.lens (St.row ts n) i = (St.blk n ts[i]).length ∧ St.mat (St.row ts n) i = rowL (St.blk n ts[i]) := by
  have h : i < (St.row ts n).length := by rw [St.row_len]; exact hi
  have e : (St.row ts n)[i] = St.blk n ts[i] := by simp [St.row]
  exact ⟨by rw [St.lens_at h, e], by rw [St.mat_at h, e]⟩
/-- a row of tapes, as it is answered -/
def RowA (ts : List St.T) (n : Int) (w : World) (e : Ending) (w' : World) : Prop :=
  ∃ A C, e = .returned (.slice A ts.length C) ∧ ts.length ≤ C ∧ (A = none → ts.length = 0 ∧ C = 0) ∧ RdM w' A ts.length (St.lens (St.row ts n)) (St.mat (St.row ts n)) (· < w'.heap.size) ∧ Below w.heap.size w w'
end Go.Proofs.YtcokmmanajdioaaGreat
namespace Go.Proofs.YtcokmmanajdioaaGreat
open Go.RowKit Mx
open Pt (Tx)

/-- has one of the rows no bytes? -/
def emptyB (n : Nat) (L : Nat → Nat) : Bool := decide (∃ i, i < n ∧ L i = 0)
theorem emptyB_true {n : Nat} {L : Nat → Nat} : emptyB n L = true ↔ ∃ i, i < n ∧ L i = 0 := decide_eq_true_iff
theorem emptyB_false {n : Nat} {L : Nat → Nat} : emptyB n L = false ↔ ∀ i, i < n → L i ≠ 0 := by
  unfold emptyB
  rw [decide_eq_false_iff_not]
  exact ⟨fun h i hi e => h ⟨i, hi, e⟩, fun h ⟨i, hi, e⟩ => h i hi e⟩
theorem infoMat : (Tryz.prog.info? 29).map (fun i => (i.zero, i.size, i.bytes)) = some (some (.slice none 0 0), 1, 24) := by kernel_rfl
theorem St.none_of {ts : List St.T} {n : Int} (h : emptyB ts.length (St.lens (St.row ts n)) = true) : ∃ t ∈ ts, St.blk n t = [] := by
  obtain ⟨i, hi, e⟩ := emptyB_true.1 h
  rw [(St.row_at hi).1] at e
  exact ⟨_, List.getElem_mem hi, List.length_eq_zero_iff.1 e⟩
theorem St.all_of {ts : List St.T} {n : Int} (h : emptyB ts.length (St.lens (St.row ts n)) = false) : (∀ i, i < ts.length → St.lens (St.row ts n) i = 79) ∧ ∀ t ∈ ts, St.blk n t ≠ [] := by
  have h1 := emptyB_false.1 h
  refine ⟨fun i hi => ?_, fun t ht e => ?_⟩
  · have h2 := h1 i hi
    rw [(St.row_at hi).1] at h2 ⊢
    rcases St.blk_len n ts[i] with h3 | h3
    · exact h3
    · rw [h3] at h2; exact absurd rfl h2
  · obtain ⟨i, hi, rfl⟩ := List.mem_iff_getElem.1 ht
    have h2 := h1 i hi
    rw [(St.row_at hi).1, e] at h2
    exact h2 rfl
theorem Inn.below {w w2 wq : World} {b p n j : Nat} {V0 : Nat → Value} {X : Nat → Mat} {N : Nat → Nat} (h : Inn w w2 wq b p n j V0 X) (hO : OutP w2 w.heap.size b p 79 V0 N X) (hB : Below w.heap.size w w2) : Below w.heap.size w wq :=
  hB.trans (h.kp.below hB.size fun k hk => by
    rcases hk with rfl | ⟨i, hi, e⟩
    · exact hO.lo
    · exact ((hO.rows i hi).lt e).1)
end Go.Proofs.YtcokmmanajdioaaGreat
namespace Go.Proofs.YtcokmmanajdioaaGreat
open Go.RowKit Mx
open Pt (Tx)

set_option maxHeartbeats 2000000 in
theorem refLen_any (A : Option Addr) (ts : List St.T) (C : Nat) (G : Nat → Prop) (w : World) (hn : ts.length ≤ maxLen) (hr : RdT w A ts G) :
    Calls Tryz.prog 22 #[.slice A ts.length C] w fun e w' => e = .returned (.int .i64 (St.len ts : Int)) ∧ w = w' := by
  unfold maxLen at hn
  have HR := Lib.hid hr
  clear hr
  go_enter Tryz.func22, Tryz.ntmps22
  go_wp2
  go_loop [4, 3] (fun vi vm => ∃ i m : Nat, i ≤ ts.length ∧ vi = .int .i64 (i : Int) ∧ vm = .int .i64 (m : Int) ∧ Hid (m = St.len (ts.take i))) (fun vi _ => ts.length - (intOf vi).toNat)
  case atStart => exact ⟨0, 0, Nat.zero_le _, rfl, rfl, Lib.hid rfl⟩
  case round =>
    obtain ⟨i, m, hi, rfl, rfl, HM⟩ := hrel
    by_cases hlt : i < ts.length
    · obtain ⟨b, off, A', C', rfl, -, c0, c1, c2, c3, hb⟩ := HR.out.at_ hlt
      obtain ⟨⟨lab, cap, bs, lost⟩, ht⟩ : ∃ t, t = ts[i] := ⟨_, rfl⟩
      have HT := Lib.hid ht
      rw [← ht] at c0 c1 c2 c3
      dsimp only at c0 c1 c2 c3
      clear ht hb
      have e0 : decide (i < ts.length) = true := decide_eq_true hlt
      cases lost with
      | true =>
        have HM1 : Hid (m = St.len (ts.take (i + 1))) := Lib.hid (by rw [St.len_take hlt, ← HM.out, ← HT.out]; simp [St.one])
        go_wp2
        go_round
        case rel => exact ⟨i + 1, m, by omega, by go_num, rfl, HM1⟩
        case measure => simp [intOf]; omega
      | false =>
        obtain ⟨k, hk⟩ : ∃ k, k = bs.length := ⟨_, rfl⟩
        have HM1 : Hid (max m k = St.len (ts.take (i + 1))) := Lib.hid (by rw [St.len_take hlt, ← HM.out, ← HT.out, hk]; simp [St.one])
        rw [← hk] at c2
        clear hk
        by_cases hmk : m < k
        · have e1 : decide ((m : Int) < (k : Int)) = true := decide_eq_true (by omega)
          have e2 : decide (m < k) = true := decide_eq_true hmk
          have HM2 : Hid (k = St.len (ts.take (i + 1))) := Lib.hid (by rw [← HM1.out]; omega)
          clear hmk HM1
          go_wp2
          go_round
          case rel => exact ⟨i + 1, k, by omega, by go_num, rfl, HM2⟩
          case measure => simp [intOf]; omega
        · have e1 : decide ((m : Int) < (k : Int)) = false := decide_eq_false (by omega)
          have e2 : decide (m < k) = false := decide_eq_false hmk
          have HM2 : Hid (m = St.len (ts.take (i + 1))) := Lib.hid (by rw [← HM1.out]; omega)
          clear hmk HM1
          go_wp2
          go_round
          case rel => exact ⟨i + 1, m, by omega, by go_num, rfl, HM2⟩
          case measure => simp [intOf]; omega
    · have e0 : decide (i < ts.length) = false := decide_eq_false hlt
      have HE : Hid (m = St.len ts) := Lib.hid (by rw [HM.out, St.len_all (by omega)])
      go_wp2
      go_ret
      exact ⟨by rw [HE.out]; rfl, rfl⟩
end Go.Proofs.YtcokmmanajdioaaGreat
