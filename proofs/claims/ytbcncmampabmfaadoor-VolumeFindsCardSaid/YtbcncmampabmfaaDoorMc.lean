/- A Writer and a Reader of package code in memory, and those of the document's own. No function of the program. What a Writer of package code writes. What a Reader of package code reads. A new Writer, and what a call on one block leaves of the rest. What Text of a Writer of package code writes. What Text of a Reader of package code answer. A byte of a number, written; bytes in new memory, their block known. Bytes that a call answers, in new memory. What the document's own Writer writes. What the document's own Reader reads. What Bad of the document's own Reader answers. What Text of the document's own Writer writes. A Writer of the document's own at work. Bytes that a call of the document's own answers: its own row. -/
import Derived.Test.YtbcncmampabmfaaDoorMb
import Derived.Test.YtbcncmampabmfaaDoorMa
import Derived.Test.YtbcncmampabmfaaDoorChecked
import Derived.OwnWalk
import Derived.Handy
import Derived.Laws.CopyOwn
import Derived.WalkSpells
import Derived.WalkLawsBesides
import Derived.StillTailTactics
import Derived.Laws.BitsAllLaws
import Derived.Lib.SliceRun
import Derived.Laws.BitsLemmas
namespace Go.Proofs.YtbcncmampabmfaaDoor
open Go.RowKit
open Pt (Tx)

/-- pieces, each behind the next one -/
def Chain (w : World) : Option Addr → List Tx → Prop
  | P, [] => P = none
  | P, s :: ss => ∃ p P', P = some ⟨p, 0, none⟩ ∧ w.heap[p]? = some (.cells #[.pointer P', .string (tx s)] 114 (0, 0)) ∧ 0 < s.length ∧ Chain w P' ss
/-- all that pieces hold -/
def flat : List Tx → Tx
  | [] => []
  | s :: ss => flat ss ++ s
theorem Chain.keep {w w' : World} (hk : ∀ (k : Nat) (c : Array Value), w.heap[k]? = some (.cells c 114 (0, 0)) → w'.heap[k]? = w.heap[k]?) : ∀ (ss : List Tx) (P : Option Addr), Chain w P ss → Chain w' P ss
  | [], _, h => h
  | _ :: ss, _, ⟨p, P', h1, h2, h3, h4⟩ => ⟨p, P', h1, (hk p _ h2).trans h2, h3, Chain.keep hk ss P' h4⟩
/-- a Writer at block g that holds l -/
def Wr (w : World) (g : Nat) (l : Tx) : Prop :=
  ∃ P ss, w.heap[g]? = some (.cells #[.pointer P, .int .i64 (l.length : Int)] 100 (0, 0)) ∧ Chain w P ss ∧ l = flat ss
theorem Chain.kp {w w' : World} {S : Nat → Prop} {P : Option Addr} {ss : List Tx} (h : Chain w P ss) (hk : Kp S w w') (hs : ∀ (k : Nat) (c : Array Value), S k → w.heap[k]? ≠ some (.cells c 114 (0, 0))) : Chain w' P ss :=
  Chain.keep (fun k c hc => hk.block k (heap_lt hc) fun h => hs k c h hc) ss P h
theorem Wr.kp {w w' : World} {S : Nat → Prop} {g : Nat} {l : Tx} (h : Wr w g l) (hk : Kp S w w') (hg : ¬ S g) (hs : ∀ (k : Nat) (c : Array Value), S k → w.heap[k]? ≠ some (.cells c 114 (0, 0))) : Wr w' g l := by
  obtain ⟨P, ss, h1, h2, h3⟩ := h
  exact ⟨P, ss, (hk.block g (heap_lt h1) hg).trans h1, h2.kp hk hs, h3⟩
theorem Wr.old {w w' : World} {g : Nat} {l : Tx} (h : Wr w g l) (hb : Below w.heap.size w w') : Wr w' g l :=
  h.kp (S := fun _ => False) (Kp.of_below hb) (fun h => h) (fun _ _ h => h.elim)
theorem Wr.lt {w : World} {g : Nat} {l : Tx} (h : Wr w g l) : g < w.heap.size := by
  obtain ⟨P, ss, h1, _⟩ := h; exact heap_lt h1
/-- a call has written: the Writer at g holds l now, and of what was there g alone has turned -/
def Wrote (g : Nat) (l : Tx) (w : World) (e : Ending) (w' : World) : Prop := e = .returned (.tuple #[]) ∧ Wr w' g l ∧ Kp (· = g) w w'
/-- a Reader at block g with s left; its bytes lie in blocks of G -/
structure Rr (w : World) (g : Nat) (s : Cd.St) (G : Nat → Prop) : Prop where
  ex : ∃ A c, w.heap[g]? = some (.cells #[.slice A s.1.length c, .bool s.2] 116 (0, 0)) ∧ s.1.length ≤ c ∧ (A = none → s.1.length = 0 ∧ c = 0) ∧ RdL w A s.1 G
  ng : ¬ G g
theorem Rr.lt {w : World} {g : Nat} {s : Cd.St} {G : Nat → Prop} (h : Rr w g s G) : g < w.heap.size := by
  obtain ⟨A, c, h1, _⟩ := h.ex; exact heap_lt h1
theorem Rr.kp {w w' : World} {g : Nat} {s : Cd.St} {G S : Nat → Prop} (h : Rr w g s G) (hk : Kp S w w') (hg : ¬ S g) (hs : ∀ b, G b → ¬ S b) : Rr w' g s G := by
  obtain ⟨⟨A, c, h1, h2, h3, h5⟩, hn⟩ := h
  exact ⟨⟨A, c, (hk.block g (heap_lt h1) hg).trans h1, h2, h3, h5.kp hk hs⟩, hn⟩
/-- the document's own Reader -/
structure Rf (w : World) (g : Nat) (s : Cd.St) (G : Nat → Prop) : Prop where
  ex : ∃ A m c, w.heap[g]? = some (.cells #[.slice A m c, .bool s.2] 95 (0, 0)) ∧ m ≤ c ∧ c ≤ maxLen ∧ (A = none → m = 0 ∧ c = 0) ∧ (s.2 = false → m = s.1.length ∧ RdL w A s.1 G)
  ok : Cd.Ok s
  ng : ¬ G g
theorem Rf.lt {w : World} {g : Nat} {s : Cd.St} {G : Nat → Prop} (h : Rf w g s G) : g < w.heap.size := by
  obtain ⟨A, m, c, h1, _⟩ := h.ex; exact heap_lt h1
theorem Rf.kp {w w' : World} {g : Nat} {s : Cd.St} {G S : Nat → Prop} (h : Rf w g s G) (hk : Kp S w w') (hg : ¬ S g) (hs : ∀ b, G b → ¬ S b) : Rf w' g s G := by
  obtain ⟨⟨A, m, c, h1, h2, h0, h3, h5⟩, ho, hn⟩ := h
  exact ⟨⟨A, m, c, (hk.block g (heap_lt h1) hg).trans h1, h2, h0, h3, fun h => ⟨(h5 h).1, (h5 h).2.kp hk hs⟩⟩, ho, hn⟩
/-- the document's own Writer: its slice is v -/
def Rw (w : World) (g base : Nat) (v : Value) (l : Tx) : Prop := w.heap[g]? = some (.cells #[v] 62 (0, 0)) ∧ OwnL w base v l
theorem Rw.lt {w : World} {g base : Nat} {v : Value} {l : Tx} (h : Rw w g base v l) : g < w.heap.size := heap_lt h.1
theorem Rw.ne {w : World} {g base : Nat} {v : Value} {l : Tx} (h : Rw w g base v l) : ∀ k, v.ownBlock = some k → k ≠ g := by
  rintro k hk rfl
  obtain ⟨c, hc⟩ := h.2.block k hk
  have := h.1
  rw [hc] at this
  injection this with this
  injection this with _ e
  exact absurd e (by decide)
theorem Rw.kp {w w' : World} {g base : Nat} {v : Value} {l : Tx} {S : Nat → Prop} (h : Rw w g base v l) (hk : Kp S w w') (hg : ¬ S g) (hs : ∀ k, v.ownBlock = some k → ¬ S k) : Rw w' g base v l :=
  ⟨(hk.block g h.lt hg).trans h.1, h.2.kp hk hs⟩
/-- g alone has turned, and rows of bytes from base on -/
def Turned (g base : Nat) (w w' : World) : Prop := Kp (fun k => k = g ∨ base ≤ k ∧ ∃ c, w.heap[k]? = some (.cells c 5 (0, 0))) w w'
theorem Turned.trans {g base : Nat} {a b c : World} (h : Turned g base a b) (k : Turned g base b c) : Turned g base a c := by
  refine ⟨k.os.trans h.os, k.tape.trans h.tape, k.output.trans h.output, Nat.le_trans h.size k.size, fun i hi hs => ?_⟩
  have e := h.block i hi hs
  rw [← e]
  refine k.block i (Nat.lt_of_lt_of_le hi h.size) fun h' => hs ?_
  rcases h' with h' | ⟨h1, x, h2⟩
  · exact .inl h'
  · exact .inr ⟨h1, x, e ▸ h2⟩
theorem Turned.alloc {g base : Nat} {a b : World} (h : Turned g base a b) (o : Obj) : Turned g base a (b.alloc o) := Kp.alloc h o
theorem Turned.below {g base B : Nat} {a b : World} (h : Turned g base a b) (hB : B ≤ a.heap.size) (hg : B ≤ g) (hb : B ≤ base) : Below B a b :=
  Kp.below h hB fun k hk => by rcases hk with rfl | hk; exact hg; omega
/-- what a call of the document's own Writer has turned -/
def RefWrote (g base : Nat) (l : Tx) (w : World) (e : Ending) (w' : World) : Prop := e = .returned (.tuple #[]) ∧ (∃ v', Rw w' g base v' l) ∧ Turned g base w w'
theorem Rw.stored {w w1 w' : World} {g base : Nat} {v v' : Value} {l l' : Tx} (h : Rw w g base v l) (hK : Turned g base w w1) (h1 : w1.heap[g]? = w.heap[g]?) (hv1 : OwnL w1 base v l) (hg : w1.grownBy w' v.ownBlock) (hv : OwnL w' base v' l') :
    w'.heap[g]? = w.heap[g]? ∧ Rw (w'.setCell ⟨g, 0, none⟩ v') g base v' l' ∧ Turned g base w (w'.setCell ⟨g, 0, none⟩ v') := by
  have hlt : g < w1.heap.size := heap_lt (h1.trans h.1)
  have e : w'.heap[g]? = w.heap[g]? := (hg.block g hlt fun e => h.ne g e.symm rfl).trans h1
  have hr : Rw w' g base v' l' ∨ True := .inr trivial
  have hb := e.trans h.1
  refine ⟨e, ⟨by rw [heap_set hb]; simp, hv.kp (Kp.store w' g 0 _) fun k hk hkg => ?_⟩, ?_⟩
  · subst hkg
    obtain ⟨c, hc⟩ := hv.block k hk
    rw [hb] at hc
    injection hc with hc
    injection hc with _ hc
    exact absurd hc (by decide)
  · refine hK.trans (Kp.setCell (Kp.grown (Kp.refl _ w1) hg fun k hk => .inr ⟨hv1.lo k hk, hv1.block k hk⟩) (.inl rfl) _)
/-- what a read answered, and left -/
def Red (v : Value) (g : Nat) (s : Cd.St) (G : Nat → Prop) (w : World) (e : Ending) (w' : World) : Prop := e = .returned v ∧ Rr w' g s G ∧ Kp (· = g) w w'
def RefRed (v : Value) (g : Nat) (s : Cd.St) (G : Nat → Prop) (w : World) (e : Ending) (w' : World) : Prop := e = .returned v ∧ Rf w' g s G ∧ Kp (· = g) w w'
end Go.Proofs.YtbcncmampabmfaaDoor
namespace Go.Proofs.YtbcncmampabmfaaDoor
open Go.RowKit
open Pt (Tx)

theorem not_piece {w : World} {g : Nat} {c : Array Value} {t : TypeId} {fr : Nat × Nat} (h : w.heap[g]? = some (.cells c t fr)) (ht : t ≠ 114) : ∀ (k : Nat) (c' : Array Value), k = g → w.heap[k]? ≠ some (.cells c' 114 (0, 0)) := by
  rintro k c' rfl h'
  rw [h] at h'
  injection h' with h'
  injection h' with _ e
  exact ht e
theorem conv_lit (w : World) (l : Tx) {c : Array Value} {n : Nat} (hn : n = l.length) (hc : c = (cellsL l).toArray) :
    (convert 24 9 (.slice (some ⟨w.heap.size, 0, none⟩) n n)).run Tryd.prog (w.alloc (.cells c 5)) = .ok (.string (tx l)) (w.alloc (.cells c 5)) := by
  subst hn; subst hc
  refine RdL.str (RdL.of_cells (Go.Deep.blk_alloc_new _ _) fun j hj => ?_) _
  rw [Nat.zero_add]
  simpa using cellsL_get hj
theorem put_any (g : Nat) (l s : Tx) (w : World) (h : Wr w g l) (h0 : 0 < s.length) (hl : l.length + s.length ≤ 1000000000) :
    Calls Tryd.prog 68 #[.pointer (some ⟨g, 0, none⟩), .string (tx s)] w (Wrote g (l ++ s) w) := by
  obtain ⟨P, ss, h1, h2, h3⟩ := h
  have hlt := heap_lt h1
  have c0 : w.cell? ⟨g, 0, none⟩ = some (.pointer P) := heap_cell h1
  have c1 : w.cell? ⟨g, 1, none⟩ = some (.int .i64 (l.length : Int)) := heap_cell h1
  have f0 : w.frozen? ⟨g, 0, none⟩ = false := heap_frozen h1
  have f1 : w.frozen? ⟨g, 1, none⟩ = false := heap_frozen h1
  have es := tx_size s
  have et := tx_toList s
  have H1 := Lib.hid h1
  have H3 := Lib.hid h3
  clear h1 h3
  go_enter Tryd.func68, Tryd.ntmps68
  go_wp2
  go_end0
  have hk : Kp (· = g) w (((w.setCell ⟨g, 0, none⟩ (.pointer (some ⟨w.heap.size, 0, none⟩))).setCell ⟨g, 1, none⟩ (.int .i64 ((l.length : Int) + (s.length : Int)))).alloc (.cells #[.pointer P, .string (tx s)] 114)) :=
    (((Kp.refl (· = g) w).setCell (p := ⟨g, 0, none⟩) rfl _).setCell (p := ⟨g, 1, none⟩) rfl _).alloc _
  refine ⟨rfl, ⟨some ⟨w.heap.size, 0, none⟩, s :: ss, ?_, ⟨w.heap.size, P, rfl, ?_, h0, h2.kp hk (not_piece H1.out (by decide))⟩, by rw [H3.out]; rfl⟩, hk⟩
  · rw [Below.heap_alloc _ _ _ (by simpa [World.setCell] using hlt), heap_set (heap_set H1.out _)]
    simp
  · have := Go.Deep.blk_alloc_new ((w.setCell ⟨g, 0, none⟩ (.pointer (some ⟨w.heap.size, 0, none⟩))).setCell ⟨g, 1, none⟩ (.int .i64 ((l.length : Int) + (s.length : Int)))) (.cells #[.pointer P, .string (tx s)] 114)
    simpa [World.setCell] using this
theorem Wrote.after {g : Nat} {l : Tx} {w w1 w' : World} {e : Ending} (hk : Kp (· = g) w w1) (h : Wrote g l w1 e w') : Wrote g l w e w' := ⟨h.1, h.2.1, hk.trans h.2.2⟩
theorem wint_any (g : Nat) (l : Tx) (n : Int) (w : World) (h : Wr w g l) (hl : l.length ≤ 999999990) :
    Calls Tryd.prog 53 #[.pointer (some ⟨g, 0, none⟩), .int .i64 n] w (Wrote g (l ++ Cd.be4 n) w) := by
  have hc := conv_lit w (Cd.be4 n) (n := 4) rfl (c := #[.int .u8 (n / 16777216 % 256), .int .u8 (n / 65536 % 256), .int .u8 (n / 256 % 256), .int .u8 (n % 256)]) (by simp [cellsL, Cd.be4, Cd.b8_nat])
  go_enter Tryd.func53, Tryd.ntmps53
  go_wp2_with (go_at_call 68; (refine (put_any g l (Cd.be4 n) _ (h.old ((Below.refl _ _).alloc (Nat.le_refl _) _)) (Nat.succ_pos _) (by rw [Cd.be4_len]; omega)).mono ?_); rintro e w' hq; have HQ := Lib.hid hq; obtain ⟨rfl, _, _⟩ := hq)
  go_end0
  exact HQ.out.after ((Kp.refl _ w).alloc _)
theorem wbyte_any (g : Nat) (l : Tx) (c : UInt8) (w : World) (h : Wr w g l) (hl : l.length ≤ 999999990) :
    Calls Tryd.prog 54 #[.pointer (some ⟨g, 0, none⟩), .int .u8 (c.toNat : Int)] w (Wrote g (l ++ [c]) w) := by
  have hc := conv_lit w [c] (n := 1) rfl (c := #[.int .u8 (c.toNat : Int)]) (by simp [cellsL])
  go_enter Tryd.func54, Tryd.ntmps54
  go_wp2_with (go_at_call 68; (refine (put_any g l [c] _ (h.old ((Below.refl _ _).alloc (Nat.le_refl _) _)) (Nat.succ_pos _) (by simp; omega)).mono ?_); rintro e w' hq; have HQ := Lib.hid hq; obtain ⟨rfl, _, _⟩ := hq)
  go_end0
  exact HQ.out.after ((Kp.refl _ w).alloc _)
/-- bytes in new memory -/
def NewL (l : Tx) (w : World) (e : Ending) (w' : World) : Prop := ∃ b, e = .returned (.slice (some ⟨b, 0, none⟩) l.length l.length) ∧ w.heap.size ≤ b ∧ RdL w' (some ⟨b, 0, none⟩) l (· = b) ∧ Below w.heap.size w w'
theorem splice_text (E n : Nat) (s r : Tx) (hn : s.length = n) :
    ((cellsL (List.replicate (E + n) 0 ++ r)).toArray.toList.take E ++ Lib.byteCells (tx s).data.toList ++ (cellsL (List.replicate (E + n) 0 ++ r)).toArray.toList.drop (E + (tx s).size)).toArray = (cellsL (List.replicate E 0 ++ (s ++ r))).toArray := by
  have hb : Lib.byteCells (tx s).data.toList = cellsL s := by rw [tx_data]; rfl
  rw [hb, tx_size, hn]
  congr 1
  have e1 : cellsL (List.replicate (E + n) 0 ++ r) = cellsL (List.replicate E 0) ++ (cellsL (List.replicate n 0) ++ cellsL r) := by simp [cellsL, ← List.append_assoc, List.replicate_append_replicate]
  have e2 : (cellsL (List.replicate E (0 : UInt8))).length = E := by simp [cellsL_len]
  have e3 : (cellsL (List.replicate n (0 : UInt8))).length = n := by simp [cellsL_len]
  rw [List.toList_toArray, e1, List.take_left' e2, ← List.drop_drop, List.drop_left' e2, List.drop_left' e3, cellsL_append, cellsL_append, List.append_assoc]
/-- the same, and what the new block holds -/
def NewC (l : Tx) (w : World) (e : Ending) (w' : World) : Prop := ∃ b, e = .returned (.slice (some ⟨b, 0, none⟩) l.length l.length) ∧ w.heap.size ≤ b ∧ w'.heap[b]? = some (.cells (cellsL l).toArray 5 (0, 0)) ∧ Below w.heap.size w w'
theorem rd_of_cells {w : World} {b : Nat} {l : Tx} {fr : Nat × Nat} (h : w.heap[b]? = some (.cells (cellsL l).toArray 5 fr)) : RdL w (some ⟨b, 0, none⟩) l (· = b) :=
  RdL.of_cells h (fun j hj => by rw [Nat.zero_add]; simpa using cellsL_get hj)
theorem own_of_cells {w : World} {b B n : Nat} {l : Tx} (h : w.heap[b]? = some (.cells (cellsL l).toArray 5 (0, 0))) (hB : B ≤ b) (hn : n = l.length) (hl : l.length ≤ maxLen) : OwnL w B (.slice (some ⟨b, 0, none⟩) n n) l := by
  subst hn
  refine ⟨by rw [cellsL_len, Nat.mul_one], .inr ⟨b, l.length, (cellsL l).toArray, rfl, hB, h, Nat.le_refl _, hl, by simp [cellsL_len], ?_⟩⟩
  rw [List.toList_toArray, List.take_of_length_le (by rw [cellsL_len]; omega)]
set_option maxRecDepth 100000 in
theorem bytes_own (g : Nat) (l : Tx) (w : World) (h : Wr w g l) (hl : l.length ≤ 1000000000) :
    Calls Tryd.prog 56 #[.pointer (some ⟨g, 0, none⟩)] w (NewC l w) := by
  obtain ⟨P, ss, h1, h2, h3⟩ := h
  have hlt := heap_lt h1
  have c0 : w.cell? ⟨g, 0, none⟩ = some (.pointer P) := heap_cell h1
  have c1 : w.cell? ⟨g, 1, none⟩ = some (.int .i64 (l.length : Int)) := heap_cell h1
  have H1 := Lib.hid h1
  have H2 := Lib.hid h2
  have H3 := Lib.hid h3
  clear h1 h2 h3
  obtain ⟨L, hL⟩ : ∃ L, L = l.length := ⟨_, rfl⟩
  rw [← hL] at hl c1
  have HL := Lib.hid hL
  clear hL
  have hmk := run_make_row' (P := Tryd.prog) 24 5 (.int .u8 0) 1 Tryd.underlying24 infoB rfl .i64 .i64 L (by omega) (by omega)
  go_enter Tryd.func56, Tryd.ntmps56
  go_wp2
  go_loopw [4, 5] (fun ve vp wr => ∃ (ss : List Tx) (P : Option Addr) (r : Tx) (k : Nat), k ≤ L ∧ ve = .int .i64 (k : Int) ∧ vp = .pointer P ∧ Hid (k = (flat ss).length) ∧ Hid (l = flat ss ++ r) ∧ Hid (Chain wr P ss) ∧ Hid (wr.heap[w.heap.size]? = some (.cells (cellsL (List.replicate k 0 ++ r)).toArray 5 (0, 0))) ∧ Hid (Below w.heap.size w wr)) (fun ve _ _ => (intOf ve).toNat)
  case atStart =>
    refine ⟨ss, P, [], L, Nat.le_refl _, rfl, rfl, Lib.hid (by rw [HL.out, H3.out]), Lib.hid (by rw [H3.out, List.append_nil]), Lib.hid (H2.out.kp (Kp.of_below (S := fun _ => False) ((Below.refl _ _).alloc (Nat.le_refl _) _)) (fun _ _ h => h.elim)), Lib.hid ?_, Lib.hid ((Below.refl _ _).alloc (Nat.le_refl _) _)⟩
    rw [Go.Deep.blk_alloc_new]
    congr 2
    apply Array.ext
    · simp [size_madeCells, cellsL_len]
    · intro i h1 h2
      simp [madeCells, cellsL, Nat.mod_one]
  case round =>
    obtain ⟨ss, P, r, k, hk, rfl, rfl, HK, HF, HC, HW, HB⟩ := hrel
    cases ss with
    | nil =>
      have hP : P = none := HC.out
      subst hP
      go_wp2
      go_ret
      have hk0 : k = 0 := HK.out
      have hr : l = r := HF.out
      have hx := HW.out
      rw [hk0, ← hr] at hx
      exact ⟨w.heap.size, by rw [HL.out]; rfl, Nat.le_refl _, hx, HB.out⟩
    | cons s ss =>
      obtain ⟨p, P', rfl, hp, hs0, hch⟩ := HC.out
      have p0 : wr.cell? ⟨p, 0, none⟩ = some (.pointer P') := heap_cell hp
      have p1 : wr.cell? ⟨p, 1, none⟩ = some (.string (tx s)) := heap_cell hp
      obtain ⟨E, hE⟩ : ∃ E, E = (flat ss).length := ⟨_, rfl⟩
      obtain ⟨n, hn⟩ : ∃ n, n = s.length := ⟨_, rfl⟩
      have hkE : k = E + n := by rw [HK.out, hE, hn]; simp [flat]
      subst hkE
      have es : (tx s).size = n := by rw [tx_size, hn]
      rw [← hn] at hs0
      have HE := Lib.hid hE
      have HN := Lib.hid hn
      have HP := Lib.hid hp
      have HCH := Lib.hid hch
      have hcp : ∃ ws : World, (Builtin.copy_ #[24, 9] 3 #[.slice (some ⟨w.heap.size, E, none⟩) (L - E) (L - E), .string (tx s)]).run Tryd.prog wr.drew = .ok (goInt n) ws ∧ ws.cell? ⟨p, 0, none⟩ = some (.pointer P') ∧
          Hid (ws.heap[w.heap.size]? = some (.cells (cellsL (List.replicate E 0 ++ (s ++ r))).toArray 5 (0, 0))) ∧ Hid (Chain ws P' ss) ∧ Hid (Below w.heap.size w ws) := by
        have hsz : (cellsL (List.replicate (E + n) 0 ++ r)).toArray.size = L := by
          have := congrArg List.length HF.out
          rw [List.length_append, ← HL.out, ← HK.out] at this
          simp [cellsL_len]; omega
        have hr := Lib.run_copy_row_string (P := Tryd.prog) wr.drew 24 9 3 5 w.heap.size E (L - E) (L - E) (tx s) _ 5 Tryd.underlying24 (by kernel_rfl) (show wr.drew.heap[w.heap.size]? = _ from HW.out) (by rw [es]; omega) (by rw [es, hsz]; omega)
        rw [splice_text E n s r hn.symm, es] at hr
        have hpb : p ≠ w.heap.size := by
          rintro rfl
          have h' := HW.out
          rw [hp] at h'
          injection h' with h'
          injection h' with _ e
          exact absurd e (by decide)
        refine ⟨_, hr, ?_, Lib.hid (setRow_heap _ _ _ _ _ _ (show wr.drew.heap[w.heap.size]? = _ from HW.out)), Lib.hid (Chain.keep (fun k c hc => ?_) ss P' hch), Lib.hid (below_setRow (w := wr.drew) ⟨HB.out.os, HB.out.tape, HB.out.output, HB.out.size, HB.out.block⟩ (Nat.le_refl _) _)⟩
        · rw [World.cell?_of_block (setRow_other _ _ _ _ hpb)]; exact p0
        · refine setRow_other _ _ _ _ ?_
          rintro rfl
          have h' := HW.out
          rw [hc] at h'
          injection h' with h'
          injection h' with _ e
          exact absurd e (by decide)
      obtain ⟨ws, hcp, q0, HX, HY, HZ⟩ := hcp
      have HR : Hid (l = flat ss ++ (s ++ r)) := Lib.hid (by rw [HF.out]; simp [flat])
      clear hE hn hp hch
      go_wp2
      have hEL : E ≤ L := by omega
      have hne : ¬ L = E := by omega
      have hne' : ¬ E = L := by omega
      refine wp_region_still_tail 7 (by kernel_rfl) (by kernel_rfl) ?_
      simp only [List.take_succ_cons, List.take_zero, List.drop_succ_cons, List.drop_zero]
      repeat (first | still_step)
      refine wpStill_nil ?_
      change wpList _ _ _ _ _ wr.drew
      go_wp2
      go_roundw
      case rel => exact ⟨ss, P', s ++ r, E, hEL, rfl, rfl, Lib.hid HE.out, HR, HY, HX, HZ⟩
      case measure => simp [intOf]; omega
theorem bytes_any (g : Nat) (l : Tx) (w : World) (h : Wr w g l) (hl : l.length ≤ 1000000000) :
    Calls Tryd.prog 56 #[.pointer (some ⟨g, 0, none⟩)] w (NewL l w) :=
  (bytes_own g l w h hl).mono fun _ _ ⟨b, h1, h2, h3, h4⟩ => ⟨b, h1, h2, rd_of_cells h3, h4⟩
end Go.Proofs.YtbcncmampabmfaaDoor
namespace Go.Proofs.YtbcncmampabmfaaDoor
open Go.RowKit
open Pt (Tx)

theorem or_byte (a c : Nat) (ha : a < 1099511627776) (hc : c < 256) : bits .or .i64 ((a : Int) * 256) (c : Int) = (a : Int) * 256 + (c : Int) := by
  show IntKind.i64.wrap ((BitVec.ofInt 64 ((a : Int) * 256) ||| BitVec.ofInt 64 (c : Int)).toNat : Int) = _
  have e1 : ((a : Int) * 256) = ((a * 256 : Nat) : Int) := by omega
  rw [e1, BitVec.ofInt_natCast, BitVec.ofInt_natCast, BitVec.toNat_or, BitVec.toNat_ofNat, BitVec.toNat_ofNat, Nat.mod_eq_of_lt (by omega), Nat.mod_eq_of_lt (by omega)]
  have h2 : a * 256 ||| c = a * 256 + c := by
    have := Nat.shiftLeft_add_eq_or_of_lt (i := 8) (b := c) (by omega) a
    rw [Nat.shiftLeft_eq, show (2 : Nat) ^ 8 = 256 from rfl] at this
    exact this.symm
  rw [h2, IntKind.wrap_i64]
  omega
theorem OwnL.lit0 (w : World) (base : Nat) (hb : base ≤ w.heap.size) : OwnL (w.alloc (.cells #[] 5)) base (.slice (some ⟨w.heap.size, 0, none⟩) 0 0) [] :=
  ⟨rfl, .inr ⟨w.heap.size, 0, #[], rfl, hb, Go.Deep.blk_alloc_new _ _, Nat.le_refl _, by decide, rfl, rfl⟩⟩
/-- bytes that are there now, in new memory -/
def AnsL (l : Tx) (w : World) (e : Ending) (w' : World) : Prop := ∃ A C, e = .returned (.slice A l.length C) ∧ l.length ≤ C ∧ (A = none → l.length = 0 ∧ C = 0) ∧ RdL w' A l (w.heap.size ≤ ·) ∧ Below w.heap.size w w'
theorem clone_any (A : Option Addr) (l : Tx) (c : Nat) (G : Nat → Prop) (w : World) (hA : A = none → l.length = 0 ∧ c = 0) (hr : RdL w A l G) (hl : l.length ≤ 1000000000) :
    Calls Tryd.prog 70 #[.slice A l.length c] w (AnsL l w) := by
  cases A with
  | none =>
    obtain ⟨h0, rfl⟩ := hA rfl
    have hl0 : l = [] := List.length_eq_zero_iff.1 h0
    subst hl0
    have hq := Lib.run_eql_slice_nil (P := Tryd.prog) w 24 5 none 0 0 0 0 Tryd.underlying24
    go_enter Tryd.func70, Tryd.ntmps70
    go_wp2
    go_ret
    exact ⟨none, 0, rfl, Nat.le_refl _, fun _ => ⟨rfl, rfl⟩, RdL.empty _ _ _, Below.refl _ _⟩
  | some a =>
    have hq := Lib.run_eql_slice_nil (P := Tryd.prog) w 24 5 (some a) l.length c 0 0 Tryd.underlying24
    go_enter Tryd.func70, Tryd.ntmps70
    go_wp2_with (at_builtin; refine wpList_append_bl _ rfl _ _ rfl w.heap.size _ [] rfl (OwnL.lit0 w _ (Nat.le_refl _)) (some a) l.length c l G rfl rfl (fun h => by cases h) (hr.old ((Below.refl _ _).alloc (Nat.le_refl _) _)) (by simp; omega) (by simp) ?_; intro v' w' hv hg; have HV := Lib.hid hv; have HG := Lib.hid hg; clear hv hg)
    go_ret
    have hv : OwnL w' w.heap.size v' l := HV.out
    obtain ⟨A', C', rfl, h1, -, h2, h3⟩ := hv.rd
    exact ⟨A', C', rfl, h1, h2, h3.mono (fun b h => h.1), ((Below.refl _ _).alloc (Nat.le_refl _) _).grown HG.out (by simp) (fun k h => by cases h; exact Nat.le_refl _)⟩
/-- a new Reader -/
def NewR (l : Tx) (w : World) (e : Ending) (w' : World) : Prop := ∃ g, e = .returned (.pointer (some ⟨g, 0, none⟩)) ∧ w.heap.size ≤ g ∧ Rr w' g (l, false) (fun b => w.heap.size ≤ b ∧ b < g) ∧ Below w.heap.size w w'
theorem newReader_any (A : Option Addr) (l : Tx) (c : Nat) (G : Nat → Prop) (w : World) (hA : A = none → l.length = 0 ∧ c = 0) (hr : RdL w A l G) (hl : l.length ≤ 1000000000) :
    Calls Tryd.prog 62 #[.slice A l.length c] w (NewR l w) := by
  go_enter Tryd.func62, Tryd.ntmps62
  go_wp2_with (go_at_call 70; refine (clone_any A l c G w hA hr hl).mono ?_; rintro e w' ⟨A', C', rfl, h1, h2, h3, h4⟩; have H2 := Lib.hid h2; clear h2)
  go_ret
  refine ⟨w'.heap.size, rfl, h4.size, ⟨⟨A', C', Go.Deep.blk_alloc_new _ _, h1, H2.out, ?_⟩, fun h => by have := h.2; omega⟩, h4.alloc h4.size _⟩
  exact (h3.in_.old ((Below.refl _ _).alloc (Nat.le_refl _) _)).mono fun b h => h
/-- a Reader whose slice is set -/
theorem Rr.set {w : World} {g : Nat} {v : Value} {bad : Bool} {G : Nat → Prop} (h1 : w.heap[g]? = some (.cells #[v, .bool bad] 116 (0, 0))) {A : Option Addr} {c m : Nat} {l : Tx} (hm : m = l.length) (hl : l.length ≤ c) (hA : A = none → l.length = 0 ∧ c = 0) (hr : RdL w A l G) (ng : ¬ G g) :
    Rr (w.setCell ⟨g, 0, none⟩ (.slice A m c)) g (l, bad) G := by
  subst hm
  refine ⟨⟨A, c, ?_, hl, hA, hr.kp (Kp.store w g 0 _) (fun b hb e => ng (e ▸ hb))⟩, ng⟩
  rw [heap_set h1]; simp
/-- what take answered, and left -/
def Took (n g : Nat) (s : Cd.St) (G : Nat → Prop) (w : World) (e : Ending) (w' : World) : Prop := ∃ A c, e = .returned (.slice A (Cd.tk n s).length c) ∧ RdL w' A (Cd.tk n s) G ∧ Rr w' g (Cd.af n s) G ∧ Kp (· = g) w w'
set_option maxRecDepth 100000 in
theorem take_any (g n : Nat) (s : Cd.St) (G : Nat → Prop) (w : World) (h : Rr w g s G) (hl : s.1.length ≤ 1000000000) (hn : n ≤ 1000) :
    Calls Tryd.prog 71 #[.pointer (some ⟨g, 0, none⟩), .int .i64 (n : Int)] w (Took n g s G w) := by
  obtain ⟨⟨A, c, h1, h2, h3, h4⟩, ng⟩ := h
  obtain ⟨l, bad⟩ := s
  simp only at h1 h2 h3 h4 hl
  have c0 : w.cell? ⟨g, 0, none⟩ = some (.slice A l.length c) := heap_cell h1
  have c1 : w.cell? ⟨g, 1, none⟩ = some (.bool bad) := heap_cell h1
  have f0 : w.frozen? ⟨g, 0, none⟩ = false := heap_frozen h1
  have f1 : w.frozen? ⟨g, 1, none⟩ = false := heap_frozen h1
  have H1 := Lib.hid h1
  have H3 := Lib.hid h3
  have H4 := Lib.hid h4
  clear h1 h3 h4
  by_cases hlt : l.length < n
  · go_enter Tryd.func71, Tryd.ntmps71
    go_wp2
    go_ret
    refine ⟨none, 0, by rw [Cd.tk_no hlt]; rfl, by rw [Cd.tk_no hlt]; exact RdL.empty _ _ _, ?_, (((Kp.refl (· = g) w).setCell (p := ⟨g, 0, none⟩) rfl _).setCell (p := ⟨g, 1, none⟩) rfl _)⟩
    rw [Cd.af_no hlt]
    refine ⟨⟨none, 0, ?_, Nat.le_refl _, fun _ => ⟨rfl, rfl⟩, RdL.empty _ _ _⟩, ng⟩
    rw [heap_set (heap_set H1.out _)]; simp
  · by_cases h0 : n = 0
    · subst h0
      go_enter Tryd.func71, Tryd.ntmps71
      go_wp2
      go_ret
      have ht : Cd.tk 0 (l, bad) = [] := by rw [Cd.tk_yes hlt]; rfl
      have ha : Cd.af 0 (l, bad) = (l, bad) := by rw [Cd.af_yes hlt]; rfl
      refine ⟨A, c, by rw [ht]; rfl, by rw [ht]; exact RdL.empty _ _ _, ?_, Kp.store w g 0 _⟩
      rw [ha]
      exact Rr.set H1.out rfl h2 H3.out H4.out ng
    · obtain ⟨b, off, rfl, hb, -⟩ := H4.out (by omega)
      have hmin : (l.take n).length = n := by simp; omega
      have ht : Cd.tk n (l, bad) = l.take n := Cd.tk_yes hlt
      have ha : Cd.af n (l, bad) = (l.drop n, bad) := Cd.af_yes hlt
      have HT := Lib.hid ht
      have HA := Lib.hid ha
      have HM := Lib.hid hmin
      clear ht ha hmin
      by_cases hc : c = n
      · subst hc
        have hll : c = l.length := by omega
        have HLL := Lib.hid hll
        clear hll
        have q1 : (c : Int) ≤ (l.length : Int) := by omega
        go_enter Tryd.func71, Tryd.ntmps71
        go_wp2
        go_ret
        have hd : (l.drop c).length = 0 := by have := HLL.out; simp; omega
        refine ⟨some ⟨b, off, none⟩, c, by rw [HT.out, HM.out]; rfl, by rw [HT.out]; exact (H4.out.take _).kp (Kp.store w g 0 _) (fun x hx e => ng (e ▸ hx)), ?_, Kp.store w g 0 _⟩
        rw [HA.out]
        exact Rr.set H1.out hd.symm (by omega) (fun h => by cases h) (fun h => by omega) ng
      · have q1 : n ≤ l.length := by omega
        have q2 : n ≤ c := by omega
        have q3 : ¬ n = c := fun h => hc h.symm
        go_enter Tryd.func71, Tryd.ntmps71
        go_wp2
        go_ret
        refine ⟨some ⟨b, off, none⟩, c, by rw [HT.out, HM.out]; rfl, by rw [HT.out]; exact (H4.out.take _).kp (Kp.store w g 0 _) (fun x hx e => ng (e ▸ hx)), ?_, Kp.store w g 0 _⟩
        rw [HA.out]
        exact Rr.set H1.out (by simp) (by simp; omega) (fun h => by cases h) (H4.out.drop n) ng
/-- the number -/
theorem take_num (l : Tx) (k : Nat) (h : k < l.length) : Cd.num (l.take (k + 1)) = Cd.num (l.take k) * 256 + (l[k].toNat : Int) := by
  rw [List.take_succ_eq_append_getElem h, Cd.num_snoc]
theorem num_small (l : Tx) (k : Nat) (hl : l.length ≤ 4) : 0 ≤ Cd.num (l.take k) ∧ Cd.num (l.take k) < 4294967296 := by
  refine ⟨Cd.num_lo _, ?_⟩
  have h := Cd.num_hi (l.take k)
  have h2 : (l.take k).length ≤ 4 := by simp; omega
  have h3 : (l.take k).length = 0 ∨ (l.take k).length = 1 ∨ (l.take k).length = 2 ∨ (l.take k).length = 3 ∨ (l.take k).length = 4 := by omega
  rcases h3 with e | e | e | e | e <;> rw [e] at h <;> simp only [Int.reducePow] at h <;> omega
set_option maxRecDepth 100000 in
theorem rint_any (g : Nat) (s : Cd.St) (G : Nat → Prop) (w : World) (h : Rr w g s G) (hl : s.1.length ≤ 1000000000) :
    Calls Tryd.prog 64 #[.pointer (some ⟨g, 0, none⟩)] w (Red (.int .i64 (Cd.num (Cd.tk 4 s))) g (Cd.af 4 s) G w) := by
  go_enter Tryd.func64, Tryd.ntmps64
  go_wp2_with (go_at_call 71; refine (take_any g 4 s G w h hl (by decide)).mono ?_; rintro e w1 ⟨A, c, rfl, hr, hR, hK⟩; have HR := Lib.hid hr; have HRR := Lib.hid hR; have HK := Lib.hid hK; clear hr hR hK)
  obtain ⟨t, ht⟩ : ∃ t, t = Cd.tk 4 s := ⟨_, rfl⟩
  have h4 : t.length ≤ 4 := by rw [ht]; exact Cd.tk_le 4 s
  rw [← ht] at HR ⊢
  have HT := Lib.hid ht
  clear ht
  go_loop [3, 9] (fun vn vi => ∃ k : Nat, k ≤ t.length ∧ vi = .int .i64 (k : Int) ∧ vn = .int .i64 (Cd.num (t.take k))) (fun _ vi => t.length - (intOf vi).toNat)
  case atStart => exact ⟨0, Nat.zero_le _, rfl, rfl⟩
  case round =>
    obtain ⟨k, hk, rfl, rfl⟩ := hrel
    by_cases hlt : k < t.length
    · obtain ⟨b, off, rfl, -, hc⟩ := HR.out.at_ hlt
      have hs := num_small t k h4
      obtain ⟨a, ha⟩ : ∃ a : Nat, Cd.num (t.take k) = (a : Int) := ⟨(Cd.num (t.take k)).toNat, by omega⟩
      have HN := Lib.hid (take_num t k hlt)
      rw [ha] at HN hs ⊢
      clear ha
      have ha' : a < 1099511627776 := by omega
      have hcl := t[k].toNat_lt
      have hor := or_byte a t[k].toNat ha' hcl
      clear ha'
      go_wp2
      go_round
      case rel => exact ⟨k + 1, by omega, by go_num, by rw [HN.out]⟩
      case measure => simp [intOf]; omega
    · go_wp2
      go_ret
      have e : t.take k = t := List.take_of_length_le (by omega)
      refine ⟨?_, HRR.out, HK.out⟩
      rw [← HT.out, e]; rfl
theorem byt_of {s : Cd.St} {t : Tx} (ht : t = Cd.tk 1 s) (h : t.length = 0) : Cd.byt s = 0 := by
  unfold Cd.byt; rw [← ht, List.length_eq_zero_iff.1 h]; rfl
theorem byt_at {s : Cd.St} {t : Tx} (ht : t = Cd.tk 1 s) (h : 0 < t.length) : Cd.byt s = t[0] := by
  unfold Cd.byt; rw [← ht]
  cases t with
  | nil => simp at h
  | cons c l => rfl
set_option maxRecDepth 100000 in
theorem rbyte_any (g : Nat) (s : Cd.St) (G : Nat → Prop) (w : World) (h : Rr w g s G) (hl : s.1.length ≤ 1000000000) :
    Calls Tryd.prog 65 #[.pointer (some ⟨g, 0, none⟩)] w (Red (.int .u8 ((Cd.byt s).toNat : Int)) g (Cd.af 1 s) G w) := by
  obtain ⟨t, ht⟩ : ∃ t, t = Cd.tk 1 s := ⟨_, rfl⟩
  have h1 : t.length ≤ 1 := by rw [ht]; exact Cd.tk_le 1 s
  have htake := take_any g 1 s G w h hl (by decide)
  unfold Took at htake
  rw [← ht] at htake
  have HT := Lib.hid ht
  clear ht
  by_cases h0 : t.length = 0
  · have q1 : ((t.length : Int) == 0) = true := by rw [h0]; rfl
    have HB := Lib.hid (byt_of HT.out h0)
    clear h0
    go_enter Tryd.func65, Tryd.ntmps65
    go_wp2_with (go_at_call 71; refine htake.mono ?_; rintro e w1 ⟨A, c, rfl, hr, hR, hK⟩; have HR := Lib.hid hr; have HRR := Lib.hid hR; have HK := Lib.hid hK; clear hr hR hK)
    go_ret
    refine ⟨?_, HRR.out, HK.out⟩
    rw [HB.out]; rfl
  · have q1 : ((t.length : Int) == 0) = false := beq_eq_false_iff_ne.2 (by omega)
    have hp : 0 < t.length := by omega
    have HB := Lib.hid (byt_at HT.out hp)
    have h0' : ¬ t.length = 0 := h0
    clear h0
    go_enter Tryd.func65, Tryd.ntmps65
    go_wp2_with (go_at_call 71; refine htake.mono ?_; rintro e w1 ⟨A, c, rfl, hr, hR, hK⟩; obtain ⟨b, off, rfl, -, hc⟩ := hr.at_ hp; rw [Nat.add_zero] at hc; have HRR := Lib.hid hR; have HK := Lib.hid hK; clear hr hR hK)
    go_ret
    refine ⟨?_, HRR.out, HK.out⟩
    rw [HB.out]; rfl
end Go.Proofs.YtbcncmampabmfaaDoor
namespace Go.Proofs.YtbcncmampabmfaaDoor
open Go.RowKit
open Pt (Tx)


theorem Wr.new (w : World) : Wr (w.alloc (.cells #[.pointer none, .int .i64 0] 100)) w.heap.size [] := ⟨none, [], Go.Deep.blk_alloc_new _ _, rfl, rfl⟩
theorem lo_g {a b : World} {g : Nat} (hk : Kp (· = g) a b) {B : Nat} (hB : B ≤ a.heap.size) (hg : B ≤ g) : Below B a b := hk.below hB (fun k h => by subst h; exact hg)
end Go.Proofs.YtbcncmampabmfaaDoor
namespace Go.Proofs.YtbcncmampabmfaaDoor
open Go.RowKit
open Pt (Tx)


theorem wtext_any (g : Nat) (l s : Tx) (w : World) (h : Wr w g l) (hl : l.length ≤ 999999000) (hs : s.length ≤ maxLen) :
    Calls Tryd.prog 52 #[.pointer (some ⟨g, 0, none⟩), .string (tx s)] w (Wrote g (l ++ Cd.tb s) w) := by
  unfold maxLen at hs
  have es := tx_size s
  have et := tx_toList s
  by_cases hle : s.length ≤ 255
  · have e0 : (tx s).extract 0 s.length = tx s := by rw [tx_extract]; simp
    have hc := conv_lit w [Cd.b8 (s.length : Int)] (n := 1) rfl (c := #[.int .u8 (s.length : Int)]) (by simp [cellsL, Cd.b8_nat]; omega)
    have HT : Hid (Cd.tb s = [Cd.b8 (s.length : Int)] ++ s) := Lib.hid (by unfold Cd.tb; rw [List.take_of_length_le hle]; rfl)
    have ec := tx_append [Cd.b8 (s.length : Int)] s
    have e1 : (tx [Cd.b8 (s.length : Int)]).size = 1 := rfl
    go_enter Tryd.func52, Tryd.ntmps52
    go_wp2_with (go_at_call 68; (refine (put_any g l ([Cd.b8 (s.length : Int)] ++ s) _ (h.old ((Below.refl _ _).alloc (Nat.le_refl _) _)) (Nat.succ_pos _) (by simp; omega)).mono ?_); rintro e w' hq; have HQ := Lib.hid hq; obtain ⟨rfl, _, _⟩ := hq)
    go_end0
    rw [HT.out]
    exact HQ.out.after ((Kp.refl _ w).alloc _)
  · have e0 : (tx s).extract 0 255 = tx (s.take 255) := by rw [tx_extract]; simp
    have hn : (s.take 255).length = 255 := by simp; omega
    have hc := conv_lit w [Cd.b8 255] (n := 1) rfl (c := #[.int .u8 255]) (by simp [cellsL, Cd.b8_nat])
    have HT : Hid (Cd.tb s = [Cd.b8 255] ++ s.take 255) := Lib.hid (by unfold Cd.tb; rw [hn]; rfl)
    have ec := tx_append [Cd.b8 255] (s.take 255)
    have e1 : (tx [Cd.b8 255]).size = 1 := rfl
    have e2 : (tx (s.take 255)).size = 255 := by rw [tx_size, hn]
    have e3 := tx_toList (s.take 255)
    have HN : Hid ((s.take 255).length = 255) := Lib.hid hn
    clear hn
    go_enter Tryd.func52, Tryd.ntmps52
    go_wp2_with (go_at_call 68; (refine (put_any g l ([Cd.b8 255] ++ s.take 255) _ (h.old ((Below.refl _ _).alloc (Nat.le_refl _) _)) (Nat.succ_pos _) (by rw [List.length_append, HN.out]; simp; omega)).mono ?_); rintro e w' hq; have HQ := Lib.hid hq; obtain ⟨rfl, _, _⟩ := hq)
    go_end0
    rw [HT.out]
    exact HQ.out.after ((Kp.refl _ w).alloc _)
end Go.Proofs.YtbcncmampabmfaaDoor
namespace Go.Proofs.YtbcncmampabmfaaDoor
open Go.RowKit
open Pt (Tx)


set_option maxRecDepth 100000 in
theorem rtext_any (g : Nat) (s : Cd.St) (G : Nat → Prop) (w : World) (h : Rr w g s G) (hl : s.1.length ≤ 1000000000) :
    Calls Tryd.prog 63 #[.pointer (some ⟨g, 0, none⟩)] w (Red (.string (tx (Cd.txt s))) g (Cd.afT s) G w) := by
  have hb := (Cd.byt s).toNat_lt
  have hn : (Cd.byt s).toNat ≤ 1000 := by omega
  have hl' : (Cd.af 1 s).1.length ≤ 1000000000 := Nat.le_trans (Cd.af_le 1 s) hl
  clear hb
  go_enter Tryd.func63, Tryd.ntmps63
  go_wp2_with (first
    | (go_at_call 65; refine (rbyte_any g s G w h hl).mono ?_; rintro e w1 ⟨rfl, hR, hK⟩; have HK := Lib.hid hK; clear hK)
    | (go_at_call 71; refine (take_any g (Cd.byt s).toNat (Cd.af 1 s) G w1 hR hl' hn).mono ?_; rintro e w2 ⟨A, c, rfl, hr, hR2, hK2⟩; have hcv := hr.str c; have HR2 := Lib.hid hR2; have HK2 := Lib.hid hK2; clear hr hR2 hK2))
  go_ret
  exact ⟨rfl, HR2.out, HK.out.trans HK2.out⟩
end Go.Proofs.YtbcncmampabmfaaDoor
namespace Go.Proofs.YtbcncmampabmfaaDoor
open Go.RowKit
open Pt (Tx)

/-- bytes in new memory -/
def NewS (l : Tx) (w : World) (e : Ending) (w' : World) : Prop := ∃ b n, e = .returned (.slice (some ⟨b, 0, none⟩) n n) ∧ n = l.length ∧ w.heap.size ≤ b ∧ w'.heap[b]? = some (.cells (cellsL l).toArray 5 (0, 0)) ∧ Below w.heap.size w w'
theorem wbyte_int (g : Nat) (l : Tx) (n : Int) (w : World) (h : Wr w g l) (hl : l.length ≤ 999999990) :
    Calls Tryd.prog 54 #[.pointer (some ⟨g, 0, none⟩), .int .u8 (n % 256)] w (Wrote g (l ++ [Cd.b8 n]) w) := by
  rw [← Cd.b8_nat]; exact wbyte_any g l (Cd.b8 n) w h hl
end Go.Proofs.YtbcncmampabmfaaDoor
namespace Go.Proofs.YtbcncmampabmfaaDoor
open Go.RowKit
open Pt (Tx)

/-- bytes are answered, in new memory; or nothing -/
def AnsT (l : Tx) (w : World) (e : Ending) (w' : World) : Prop :=
  ∃ A n C, e = .returned (.slice A n C) ∧ n = l.length ∧ n ≤ C ∧ C ≤ maxLen ∧ (A = none → n = 0 ∧ C = 0) ∧ RdL w' A l (w.heap.size ≤ ·) ∧ Below w.heap.size w w'
theorem AnsT.nil {w w' : World} (h : Below w.heap.size w w') : AnsT [] w (.returned (.slice none 0 0)) w' :=
  ⟨none, 0, 0, rfl, rfl, Nat.le_refl _, by decide, fun _ => ⟨rfl, rfl⟩, RdL.empty _ _ _, h⟩
theorem AnsT.after {l : Tx} {w w1 w2 : World} {e : Ending} (hb : Below w.heap.size w w1) (h : AnsT l w1 e w2) : AnsT l w e w2 := by
  obtain ⟨A, n, C, h1, h2, h3, h4, h5, h6, h7⟩ := h
  exact ⟨A, n, C, h1, h2, h3, h4, h5, h6.mono fun x hx => Nat.le_trans hb.size hx, hb.trans (h7.mono hb.size)⟩
theorem AnsT.of_new {l : Tx} {w w' : World} {e : Ending} (hl : l.length ≤ maxLen) (h : NewC l w e w') : AnsT l w e w' := by
  obtain ⟨b, h1, h2, h3, h4⟩ := h
  exact ⟨some ⟨b, 0, Option.none⟩, l.length, l.length, h1, rfl, Nat.le_refl _, hl, (fun h => by cases h), (rd_of_cells h3).mono (fun x hx => by omega), h4⟩
end Go.Proofs.YtbcncmampabmfaaDoor
namespace Go.Proofs.YtbcncmampabmfaaDoor
open Go.RowKit
open Pt (Tx)

theorem lit_rd (w : World) (l : Tx) {c : Array Value} (hc : c = (cellsL l).toArray) : RdL (w.alloc (.cells c 5)) (some ⟨w.heap.size, 0, none⟩) l (· = w.heap.size) := by
  subst hc
  exact RdL.of_cells (Go.Deep.blk_alloc_new _ _) fun j hj => by rw [Nat.zero_add]; simpa using cellsL_get hj
theorem Turned.refl (g base : Nat) (w : World) : Turned g base w w := Kp.refl _ w
theorem vbyte_any (g base : Nat) (v : Value) (l : Tx) (c : UInt8) (w : World) (h : Rw w g base v l) (hbase : base ≤ w.heap.size) (hl : l.length ≤ 999999990) :
    Calls Tryd.prog 25 #[.pointer (some ⟨g, 0, none⟩), .int .u8 (c.toNat : Int)] w (RefWrote g base (l ++ [c]) w) := by
  have hlt := h.lt
  obtain ⟨A, C, hv, -, -, -, -⟩ := h.2.rd
  have c0 : w.cell? ⟨g, 0, none⟩ = some v := heap_cell h.1
  have f0 : w.frozen? ⟨g, 0, none⟩ = false := heap_frozen h.1
  have H := Lib.hid h
  clear h
  subst hv
  go_enter Tryd.func25, Tryd.ntmps25
  go_wp2_with (at_builtin; refine wpList_append_bl _ rfl _ _ rfl base _ l rfl (H.out.2.alloc _) (some ⟨w.heap.size, 0, none⟩) 1 1 [c] (· = w.heap.size) rfl rfl (fun h => by cases h) (lit_rd w [c] rfl) (by omega) (by simp; omega) ?_; intro v' w' hv hg; obtain ⟨hA, hB, hC⟩ := H.out.stored ((Turned.refl g base w).alloc _) (Below.heap_alloc _ _ _ hlt) (H.out.2.alloc _) hg hv; obtain ⟨A', C', rfl, -, -, -, -⟩ := hv.rd; have d0 : w'.cell? ⟨g, 0, none⟩ = some (.slice A l.length C) := heap_cell (hA.trans H.out.1); have d1 : w'.frozen? ⟨g, 0, none⟩ = false := heap_frozen (hA.trans H.out.1); have HB := Lib.hid hB; have HC := Lib.hid hC; clear hA hB hC hv hg)
  go_end0
  have hb := HB.out
  have hc := HC.out
  rw [List.length_append] at hb hc
  exact ⟨rfl, ⟨_, hb⟩, hc⟩
theorem mask_u64 (y : Int) (h0 : 0 ≤ y) (h1 : y < 18446744073709551616) : bits BinOp.and IntKind.u64 y 255 = y % 256 := by
  have h : bits BinOp.and IntKind.u64 y (2 ^ 8 - 1) = y % 2 ^ 8 := bits_mask .u64 64 (by decide) (fun m h0 h1 => by rw [IntKind.wrap_u64]; omega) 8 (by decide) y h0 h1
  simpa using h
theorem vint_any (g base : Nat) (v : Value) (l : Tx) (n : Int) (w : World) (h : Rw w g base v l) (hbase : base ≤ w.heap.size) (hl : l.length ≤ 999999990) :
    Calls Tryd.prog 26 #[.pointer (some ⟨g, 0, none⟩), .int .i64 n] w (RefWrote g base (l ++ Cd.be4 n) w) := by
  have hlt := h.lt
  obtain ⟨A, C, hv, -, -, -, -⟩ := h.2.rd
  have c0 : w.cell? ⟨g, 0, none⟩ = some v := heap_cell h.1
  have f0 : w.frozen? ⟨g, 0, none⟩ = false := heap_frozen h.1
  have H := Lib.hid h
  clear h
  subst hv
  have hw := IntKind.wrap_u64 n
  have m0 : bits BinOp.and IntKind.u64 (IntKind.u64.wrap n / 16777216) 255 = n / 16777216 % 256 := by rw [mask_u64 _ (by omega) (by omega), hw]; omega
  have m1 : bits BinOp.and IntKind.u64 (IntKind.u64.wrap n / 65536) 255 = n / 65536 % 256 := by rw [mask_u64 _ (by omega) (by omega), hw]; omega
  have m2 : bits BinOp.and IntKind.u64 (IntKind.u64.wrap n / 256) 255 = n / 256 % 256 := by rw [mask_u64 _ (by omega) (by omega), hw]; omega
  have m3 : bits BinOp.and IntKind.u64 (IntKind.u64.wrap n) 255 = n % 256 := by rw [mask_u64 _ (by omega) (by omega), hw]; omega
  clear hw
  go_enter Tryd.func26, Tryd.ntmps26
  go_wp2_with (at_builtin; refine wpList_append_bl _ rfl _ _ rfl base _ l rfl (H.out.2.alloc _) (some ⟨w.heap.size, 0, none⟩) 4 4 (Cd.be4 n) (· = w.heap.size) rfl rfl (fun h => by cases h) (lit_rd w (Cd.be4 n) (by simp [cellsL, Cd.be4, Cd.b8_nat])) (by omega) (by simp; omega) ?_; intro v' w' hv hg; obtain ⟨hA, hB, hC⟩ := H.out.stored ((Turned.refl g base w).alloc _) (Below.heap_alloc _ _ _ hlt) (H.out.2.alloc _) hg hv; obtain ⟨A', C', rfl, -, -, -, -⟩ := hv.rd; have d0 : w'.cell? ⟨g, 0, none⟩ = some (.slice A l.length C) := heap_cell (hA.trans H.out.1); have d1 : w'.frozen? ⟨g, 0, none⟩ = false := heap_frozen (hA.trans H.out.1); have HB := Lib.hid hB; have HC := Lib.hid hC; clear hA hB hC hv hg)
  go_end0
  have hb := HB.out
  have hc := HC.out
  rw [List.length_append] at hb hc
  exact ⟨rfl, ⟨_, hb⟩, hc⟩
end Go.Proofs.YtbcncmampabmfaaDoor
namespace Go.Proofs.YtbcncmampabmfaaDoor
open Go.RowKit
open Pt (Tx)

/-- a new Reader of the document's own: of these very bytes -/
def NewF (l : Tx) (G : Nat → Prop) (w : World) (e : Ending) (w' : World) : Prop := e = .returned (.pointer (some ⟨w.heap.size, 0, none⟩)) ∧ Rf w' w.heap.size (l, false) G ∧ Below w.heap.size w w'
theorem refNewReader_any (A : Option Addr) (l : Tx) (c : Nat) (G : Nat → Prop) (w : World) (hA : A = none → l.length = 0 ∧ c = 0) (hc : l.length ≤ c) (hc' : c ≤ maxLen) (hr : RdL w A l G) (hg : ¬ G w.heap.size) :
    Calls Tryd.prog 31 #[.slice A l.length c] w (NewF l G w) := by
  have HA := Lib.hid hA
  clear hA
  go_enter Tryd.func31, Tryd.ntmps31
  go_wp2
  go_ret
  exact ⟨rfl, ⟨⟨A, l.length, c, Go.Deep.blk_alloc_new _ _, hc, hc', HA.out, fun _ => ⟨rfl, hr.old ((Below.refl _ _).alloc (Nat.le_refl _) _)⟩⟩, (fun h => by cases h), hg⟩, (Below.refl _ _).alloc (Nat.le_refl _) _⟩
theorem Rf.set {w : World} {g : Nat} {v : Value} {G : Nat → Prop} (h1 : w.heap[g]? = some (.cells #[v, .bool false] 95 (0, 0))) {A : Option Addr} {c m : Nat} {l : Tx} (hm : m = l.length) (hl : l.length ≤ c) (hc : c ≤ maxLen) (hA : A = none → l.length = 0 ∧ c = 0) (hr : RdL w A l G) (ng : ¬ G g) :
    Rf (w.setCell ⟨g, 0, none⟩ (.slice A m c)) g (l, false) G := by
  subst hm
  refine ⟨⟨A, l.length, c, ?_, hl, hc, hA, fun _ => ⟨rfl, hr.kp (Kp.store w g 0 _) (fun b hb e => ng (e ▸ hb))⟩⟩, (fun h => by cases h), ng⟩
  rw [heap_set h1]; simp
def RefTook (n g : Nat) (s : Cd.St) (G : Nat → Prop) (w : World) (e : Ending) (w' : World) : Prop := ∃ A c, e = .returned (.slice A (Cd.tk n s).length c) ∧ RdL w' A (Cd.tk n s) G ∧ Rf w' g (Cd.af n s) G ∧ Kp (· = g) w w'
/-- the same, and that what is nil has no room -/
def RefTookN (n g : Nat) (s : Cd.St) (G : Nat → Prop) (w : World) (e : Ending) (w' : World) : Prop := ∃ A c, e = .returned (.slice A (Cd.tk n s).length c) ∧ RdL w' A (Cd.tk n s) G ∧ Rf w' g (Cd.af n s) G ∧ Kp (· = g) w w' ∧ (A = none → (Cd.tk n s).length = 0 ∧ c = 0)
/-- nothing is left -/
theorem RefTookN.lost {n g : Nat} {s : Cd.St} {G : Nat → Prop} {w : World} {v : Value} {bad : Bool} (h1 : w.heap[g]? = some (.cells #[v, .bool bad] 95 (0, 0))) {A : Option Addr} {m c : Nat} (hv : v = .slice A m c) (hm : m ≤ c) (hc : c ≤ maxLen) (hA : A = none → m = 0 ∧ c = 0) (ng : ¬ G g) (ht : Cd.tk n s = []) (ha : Cd.af n s = ([], true)) :
    RefTookN n g s G w (.returned (.slice none 0 0)) (w.setCell ⟨g, 1, none⟩ (.bool true)) := by
  subst hv
  refine ⟨none, 0, by rw [ht]; rfl, by rw [ht]; exact RdL.empty _ _ _, ?_, Kp.store w g 1 _, fun _ => ⟨by rw [ht]; rfl, rfl⟩⟩
  rw [ha]
  refine ⟨⟨A, m, c, ?_, hm, hc, hA, (fun h => by cases h)⟩, fun _ => rfl, ng⟩
  rw [heap_set h1]; simp
set_option maxRecDepth 100000 in
theorem refTakeN_any (g n : Nat) (s : Cd.St) (G : Nat → Prop) (w : World) (h : Rf w g s G) (hn : n ≤ 1000) :
    Calls Tryd.prog 36 #[.pointer (some ⟨g, 0, none⟩), .int .i64 (n : Int)] w (RefTookN n g s G w) := by
  obtain ⟨⟨A, m, c, h1, h2, h5, h3, h4⟩, hok, ng⟩ := h
  obtain ⟨l, bad⟩ := s
  simp only at h1 h4
  have h5' := h5
  unfold maxLen at h5'
  have c0 : w.cell? ⟨g, 0, none⟩ = some (.slice A m c) := heap_cell h1
  have c1 : w.cell? ⟨g, 1, none⟩ = some (.bool bad) := heap_cell h1
  have f0 : w.frozen? ⟨g, 0, none⟩ = false := heap_frozen h1
  have f1 : w.frozen? ⟨g, 1, none⟩ = false := heap_frozen h1
  have H1 := Lib.hid h1
  have H3 := Lib.hid h3
  have H4 := Lib.hid h4
  have H5 := Lib.hid h5
  clear h1 h3 h4 h5
  cases bad with
  | true =>
    have hl0 : l = [] := hok rfl
    have ht : Cd.tk n (l, true) = [] := by rw [hl0]; unfold Cd.tk; split <;> simp
    have ha : Cd.af n (l, true) = ([], true) := by rw [hl0]; unfold Cd.af; split <;> simp
    have HT := Lib.hid ht
    have HA := Lib.hid ha
    clear hl0 ht ha
    go_enter Tryd.func36, Tryd.ntmps36
    go_wp2
    go_ret
    exact RefTookN.lost H1.out rfl h2 H5.out H3.out ng HT.out HA.out
  | false =>
    obtain ⟨rfl, h4⟩ := H4.out rfl
    have H4' := Lib.hid h4
    clear h4
    by_cases hlt : l.length < n
    · have q1 : decide (l.length < n) = true := decide_eq_true hlt
      go_enter Tryd.func36, Tryd.ntmps36
      go_wp2
      go_ret
      exact RefTookN.lost H1.out rfl h2 H5.out H3.out ng (Cd.tk_no hlt) (Cd.af_no hlt)
    · have q0 : decide (l.length < n) = false := decide_eq_false hlt
      by_cases h0 : n = 0
      · subst h0
        have q2 : decide ((l.length : Int) < 0) = false := decide_eq_false (by omega)
        go_enter Tryd.func36, Tryd.ntmps36
        go_wp2
        go_ret
        have ht : Cd.tk 0 (l, false) = [] := by rw [Cd.tk_yes hlt]; rfl
        have ha : Cd.af 0 (l, false) = (l, false) := by rw [Cd.af_yes hlt]; rfl
        refine ⟨A, c, by rw [ht]; rfl, by rw [ht]; exact RdL.empty _ _ _, ?_, Kp.store w g 0 _, fun h => ⟨by rw [ht]; rfl, (H3.out h).2⟩⟩
        rw [ha]
        exact Rf.set H1.out rfl h2 H5.out H3.out H4'.out ng
      · obtain ⟨b, off, rfl, hb, -⟩ := H4'.out (by omega)
        have hmin : (l.take n).length = n := by simp; omega
        have ht : Cd.tk n (l, false) = l.take n := Cd.tk_yes hlt
        have ha : Cd.af n (l, false) = (l.drop n, false) := Cd.af_yes hlt
        have HT := Lib.hid ht
        have HA := Lib.hid ha
        have HM := Lib.hid hmin
        clear ht ha hmin
        by_cases hc : c = n
        · subst hc
          have hll : c = l.length := by omega
          have HLL := Lib.hid hll
          clear hll
          have q1 : (c : Int) ≤ (l.length : Int) := by omega
          go_enter Tryd.func36, Tryd.ntmps36
          go_wp2
          go_ret
          have hd : (l.drop c).length = 0 := by have := HLL.out; simp; omega
          refine ⟨some ⟨b, off, none⟩, c, by rw [HT.out, HM.out]; rfl, by rw [HT.out]; exact (H4'.out.take _).kp (Kp.store w g 0 _) (fun x hx e => ng (e ▸ hx)), ?_, Kp.store w g 0 _, fun h => by cases h⟩
          rw [HA.out]
          exact Rf.set H1.out hd.symm (by omega) (by decide) (fun h => by cases h) (fun h => by omega) ng
        · have q1 : n ≤ l.length := by omega
          have q2 : n ≤ c := by omega
          have q3 : ¬ n = c := fun h => hc h.symm
          go_enter Tryd.func36, Tryd.ntmps36
          go_wp2
          go_ret
          refine ⟨some ⟨b, off, none⟩, c, by rw [HT.out, HM.out]; rfl, by rw [HT.out]; exact (H4'.out.take _).kp (Kp.store w g 0 _) (fun x hx e => ng (e ▸ hx)), ?_, Kp.store w g 0 _, fun h => by cases h⟩
          rw [HA.out]
          exact Rf.set H1.out (by simp) (by simp; omega) (Nat.le_trans (Nat.sub_le _ _) H5.out) (fun h => by cases h) (H4'.out.drop n) ng
theorem refTake_any (g n : Nat) (s : Cd.St) (G : Nat → Prop) (w : World) (h : Rf w g s G) (hn : n ≤ 1000) :
    Calls Tryd.prog 36 #[.pointer (some ⟨g, 0, none⟩), .int .i64 (n : Int)] w (RefTook n g s G w) :=
  (refTakeN_any g n s G w h hn).mono fun _ _ ⟨A, c, h1, h2, h3, h4, _⟩ => ⟨A, c, h1, h2, h3, h4⟩
set_option maxRecDepth 100000 in
theorem refInt_any (g : Nat) (s : Cd.St) (G : Nat → Prop) (w : World) (h : Rf w g s G) :
    Calls Tryd.prog 33 #[.pointer (some ⟨g, 0, none⟩)] w (RefRed (.int .i64 (Cd.num (Cd.tk 4 s))) g (Cd.af 4 s) G w) := by
  go_enter Tryd.func33, Tryd.ntmps33
  go_wp2_with (go_at_call 36; refine (refTake_any g 4 s G w h (by decide)).mono ?_; rintro e w1 ⟨A, c, rfl, hr, hR, hK⟩; have HR := Lib.hid hr; have HRR := Lib.hid hR; have HK := Lib.hid hK; clear hr hR hK)
  obtain ⟨t, ht⟩ : ∃ t, t = Cd.tk 4 s := ⟨_, rfl⟩
  have h4 : t.length ≤ 4 := by rw [ht]; exact Cd.tk_le 4 s
  rw [← ht] at HR ⊢
  have HT := Lib.hid ht
  clear ht
  go_loop [4, 5] (fun vn vi => ∃ k : Nat, k ≤ t.length ∧ vi = .int .i64 (k : Int) ∧ vn = .int .i64 (Cd.num (t.take k))) (fun _ vi => t.length - (intOf vi).toNat)
  case atStart => exact ⟨0, Nat.zero_le _, rfl, rfl⟩
  case round =>
    obtain ⟨k, hk, rfl, rfl⟩ := hrel
    by_cases hlt : k < t.length
    · obtain ⟨b, off, rfl, -, hc⟩ := HR.out.at_ hlt
      have hs := num_small t k h4
      obtain ⟨a, ha⟩ : ∃ a : Nat, Cd.num (t.take k) = (a : Int) := ⟨(Cd.num (t.take k)).toNat, by omega⟩
      have HN := Lib.hid (take_num t k hlt)
      rw [ha] at HN hs ⊢
      clear ha
      have ha' : a < 1099511627776 := by omega
      have hcl := t[k].toNat_lt
      have hor := or_byte a t[k].toNat ha' hcl
      clear ha'
      go_wp2
      go_round
      case rel => exact ⟨k + 1, by omega, by go_num, by rw [HN.out]⟩
      case measure => simp [intOf]; omega
    · go_wp2
      go_ret
      have e : t.take k = t := List.take_of_length_le (by omega)
      refine ⟨?_, HRR.out, HK.out⟩
      rw [← HT.out, e]; rfl
set_option maxRecDepth 100000 in
theorem refByte_any (g : Nat) (s : Cd.St) (G : Nat → Prop) (w : World) (h : Rf w g s G) :
    Calls Tryd.prog 32 #[.pointer (some ⟨g, 0, none⟩)] w (RefRed (.int .u8 ((Cd.byt s).toNat : Int)) g (Cd.af 1 s) G w) := by
  obtain ⟨t, ht⟩ : ∃ t, t = Cd.tk 1 s := ⟨_, rfl⟩
  have h1 : t.length ≤ 1 := by rw [ht]; exact Cd.tk_le 1 s
  have htake := refTake_any g 1 s G w h (by decide)
  unfold RefTook at htake
  rw [← ht] at htake
  have HT := Lib.hid ht
  clear ht
  by_cases h0 : t.length = 0
  · have q1 : ((t.length : Int) == 0) = true := by rw [h0]; rfl
    have HB := Lib.hid (byt_of HT.out h0)
    clear h0
    go_enter Tryd.func32, Tryd.ntmps32
    go_wp2_with (go_at_call 36; refine htake.mono ?_; rintro e w1 ⟨A, c, rfl, hr, hR, hK⟩; have HR := Lib.hid hr; have HRR := Lib.hid hR; have HK := Lib.hid hK; clear hr hR hK)
    go_ret
    refine ⟨?_, HRR.out, HK.out⟩
    rw [HB.out]; rfl
  · have q1 : ((t.length : Int) == 0) = false := beq_eq_false_iff_ne.2 (by omega)
    have hp : 0 < t.length := by omega
    have HB := Lib.hid (byt_at HT.out hp)
    have h0' : ¬ t.length = 0 := h0
    clear h0
    go_enter Tryd.func32, Tryd.ntmps32
    go_wp2_with (go_at_call 36; refine htake.mono ?_; rintro e w1 ⟨A, c, rfl, hr, hR, hK⟩; obtain ⟨b, off, rfl, -, hc⟩ := hr.at_ hp; rw [Nat.add_zero] at hc; have HRR := Lib.hid hR; have HK := Lib.hid hK; clear hr hR hK)
    go_ret
    refine ⟨?_, HRR.out, HK.out⟩
    rw [HB.out]; rfl
theorem refLeft_any (g : Nat) (s : Cd.St) (G : Nat → Prop) (w : World) (h : Rf w g s G) :
    Calls Tryd.prog 35 #[.pointer (some ⟨g, 0, none⟩)] w fun e w' => e = .returned (.int .i64 (s.1.length : Int)) ∧ w = w' := by
  obtain ⟨⟨A, m, c, h1, -, -, -, h4⟩, hok, ng⟩ := h
  obtain ⟨l, bad⟩ := s
  have c0 : w.cell? ⟨g, 0, none⟩ = some (.slice A m c) := heap_cell h1
  have c1 : w.cell? ⟨g, 1, none⟩ = some (.bool bad) := heap_cell h1
  clear h1
  cases bad with
  | true =>
    have hl0 : l = [] := hok rfl
    subst hl0
    clear h4
    go_enter Tryd.func35, Tryd.ntmps35
    go_wp2
    go_ret
    exact ⟨rfl, rfl⟩
  | false =>
    obtain ⟨rfl, -⟩ := h4 rfl
    go_enter Tryd.func35, Tryd.ntmps35
    go_wp2
    go_ret
    exact ⟨rfl, rfl⟩
end Go.Proofs.YtbcncmampabmfaaDoor
namespace Go.Proofs.YtbcncmampabmfaaDoor
open Go.RowKit
open Pt (Tx)

theorem refBad_any (g : Nat) (s : Cd.St) (G : Nat → Prop) (w : World) (h : Rf w g s G) :
    Calls Tryd.prog 34 #[.pointer (some ⟨g, 0, none⟩)] w fun e w' => e = .returned (.bool s.2) ∧ w = w' := by
  obtain ⟨⟨A, m, c, h1, -, -, -, -⟩, hok, ng⟩ := h
  have c1 : w.cell? ⟨g, 1, none⟩ = some (.bool s.2) := heap_cell h1
  clear h1 hok
  go_enter Tryd.func34, Tryd.ntmps34
  go_wp2
  go_ret
  exact ⟨rfl, rfl⟩
end Go.Proofs.YtbcncmampabmfaaDoor
namespace Go.Proofs.YtbcncmampabmfaaDoor
open Go.RowKit
open Pt (Tx)


set_option maxRecDepth 100000 in
theorem vtext_any (g base : Nat) (v : Value) (l s : Tx) (w : World) (h : Rw w g base v l) (hbase : base ≤ w.heap.size) (hl : l.length ≤ 999999000) (hs : s.length ≤ maxLen) :
    Calls Tryd.prog 46 #[.pointer (some ⟨g, 0, none⟩), .string (tx s)] w (RefWrote g base (l ++ Cd.tb s) w) := by
  unfold maxLen at hs
  have hlt := h.lt
  obtain ⟨A, C, hv, -, -, -, -⟩ := h.2.rd
  have c0 : w.cell? ⟨g, 0, none⟩ = some v := heap_cell h.1
  have f0 : w.frozen? ⟨g, 0, none⟩ = false := heap_frozen h.1
  have H := Lib.hid h
  clear h
  subst hv
  have es := tx_size s
  have et := tx_toList s
  by_cases hle : s.length ≤ 255
  · have q1 : decide (255 < s.length) = false := decide_eq_false (by omega)
    have q2 : decide (255 < (s.length : Int)) = false := decide_eq_false (by omega)
    have HT : Hid (Cd.tb s = [Cd.b8 (s.length : Int)] ++ s) := Lib.hid (by unfold Cd.tb; rw [List.take_of_length_le hle]; rfl)
    go_enter Tryd.func46, Tryd.ntmps46
    go_wp2_with (first
      | (at_builtin; refine wpList_append_bl _ rfl _ _ rfl base _ l rfl (H.out.2.alloc _) (some ⟨w.heap.size, 0, none⟩) 1 1 [Cd.b8 (s.length : Int)] (· = w.heap.size) rfl rfl (fun h => by cases h) (lit_rd w [Cd.b8 (s.length : Int)] (by simp [cellsL, Cd.b8_nat]; omega)) (by omega) (by simp; omega) ?_; intro v' w' hv hg; obtain ⟨hA, hB, hC⟩ := H.out.stored ((Turned.refl g base w).alloc _) (Below.heap_alloc _ _ _ hlt) (H.out.2.alloc _) hg hv; obtain ⟨A', C', rfl, -, -, -, -⟩ := hv.rd; have d0 : w'.cell? ⟨g, 0, none⟩ = some (.slice A l.length C) := heap_cell (hA.trans H.out.1); have d1 : w'.frozen? ⟨g, 0, none⟩ = false := heap_frozen (hA.trans H.out.1); simp only [List.length_append, List.length_cons, List.length_nil, Nat.zero_add] at hB hC; have hsz : base ≤ w'.heap.size := Nat.le_trans hbase (by have := hC.size; simpa [World.setCell] using this); have HB := Lib.hid hB; have HC := Lib.hid hC; clear hA hB hC hv hg)
      | (at_builtin; refine wpList_append_st _ rfl _ _ rfl base _ (l ++ [Cd.b8 (s.length : Int)]) rfl HB.out.2 s rfl (by simp; omega) (by simpa [World.setCell] using hsz) ?_; intro v2 w2 hv hg; obtain ⟨hA, hB, hC⟩ := HB.out.stored (Turned.refl g base _) rfl HB.out.2 hg hv; obtain ⟨A2, C2, rfl, -, -, -, -⟩ := hv.rd; have d2 : w2.cell? ⟨g, 0, none⟩ = some (.slice A' (l.length + 1) C') := heap_cell (hA.trans HB.out.1); have d3 : w2.frozen? ⟨g, 0, none⟩ = false := heap_frozen (hA.trans HB.out.1); have HB2 := Lib.hid hB; have HC2 := Lib.hid (HC.out.trans hC); clear hA hB hC hv hg))
    go_end0
    have e3 : (l ++ [Cd.b8 (s.length : Int)]) ++ s = l ++ ([Cd.b8 (s.length : Int)] ++ s) := List.append_assoc _ _ _
    have hb := HB2.out
    have hc := HC2.out
    simp only [List.length_append, List.length_cons, List.length_nil, Nat.zero_add] at hb hc
    rw [HT.out, ← e3, show l.length + (s.length + 1) = l.length + 1 + s.length by omega]
    exact ⟨rfl, ⟨_, hb⟩, hc⟩
  · have q1 : decide (255 < s.length) = true := decide_eq_true (by omega)
    have q2 : decide (255 < (s.length : Int)) = true := decide_eq_true (by omega)
    have e0 : (tx s).extract 0 255 = tx (s.take 255) := by rw [tx_extract]; simp
    have hn : (s.take 255).length = 255 := by simp; omega
    have HT : Hid (Cd.tb s = [Cd.b8 255] ++ s.take 255) := Lib.hid (by unfold Cd.tb; rw [hn]; rfl)
    have e2 : (tx (s.take 255)).size = 255 := by rw [tx_size, hn]
    have e4 := tx_toList (s.take 255)
    have HN : Hid ((s.take 255).length = 255) := Lib.hid hn
    clear hn
    go_enter Tryd.func46, Tryd.ntmps46
    go_wp2_with (first
      | (at_builtin; refine wpList_append_bl _ rfl _ _ rfl base _ l rfl (H.out.2.alloc _) (some ⟨w.heap.size, 0, none⟩) 1 1 [Cd.b8 255] (· = w.heap.size) rfl rfl (fun h => by cases h) (lit_rd w [Cd.b8 255] (by simp [cellsL, Cd.b8_nat])) (by omega) (by simp; omega) ?_; intro v' w' hv hg; obtain ⟨hA, hB, hC⟩ := H.out.stored ((Turned.refl g base w).alloc _) (Below.heap_alloc _ _ _ hlt) (H.out.2.alloc _) hg hv; obtain ⟨A', C', rfl, -, -, -, -⟩ := hv.rd; have d0 : w'.cell? ⟨g, 0, none⟩ = some (.slice A l.length C) := heap_cell (hA.trans H.out.1); have d1 : w'.frozen? ⟨g, 0, none⟩ = false := heap_frozen (hA.trans H.out.1); simp only [List.length_append, List.length_cons, List.length_nil, Nat.zero_add] at hB hC; have hsz : base ≤ w'.heap.size := Nat.le_trans hbase (by have := hC.size; simpa [World.setCell] using this); have HB := Lib.hid hB; have HC := Lib.hid hC; clear hA hB hC hv hg)
      | (at_builtin; refine wpList_append_st _ rfl _ _ rfl base _ (l ++ [Cd.b8 255]) rfl HB.out.2 (s.take 255) rfl (by simp; omega) (by simpa [World.setCell] using hsz) ?_; intro v2 w2 hv hg; obtain ⟨hA, hB, hC⟩ := HB.out.stored (Turned.refl g base _) rfl HB.out.2 hg hv; obtain ⟨A2, C2, rfl, -, -, -, -⟩ := hv.rd; have d2 : w2.cell? ⟨g, 0, none⟩ = some (.slice A' (l.length + 1) C') := heap_cell (hA.trans HB.out.1); have d3 : w2.frozen? ⟨g, 0, none⟩ = false := heap_frozen (hA.trans HB.out.1); have HB2 := Lib.hid hB; have HC2 := Lib.hid (HC.out.trans hC); clear hA hB hC hv hg))
    go_end0
    have e3 : (l ++ [Cd.b8 255]) ++ (s.take 255) = l ++ ([Cd.b8 255] ++ (s.take 255)) := List.append_assoc _ _ _
    have hb := HB2.out
    have hc := HC2.out
    simp only [List.length_append, List.length_cons, List.length_nil, Nat.zero_add] at hb hc
    rw [HT.out, ← e3, show l.length + (min 255 s.length + 1) = l.length + 1 + (s.take 255).length by simp; omega]
    exact ⟨rfl, ⟨_, hb⟩, hc⟩
end Go.Proofs.YtbcncmampabmfaaDoor
namespace Go.Proofs.YtbcncmampabmfaaDoor
open Go.RowKit
open Pt (Tx)

theorem Turned.other {g base B : Nat} {a b : World} {cs : Array Value} {t : TypeId} (h : Turned g base a b) (hB : B ≠ g) (ht : t ≠ 5) (hu : a.heap[B]? = some (.cells cs t (0, 0))) : b.heap[B]? = some (.cells cs t (0, 0)) := by
  refine (h.block B (heap_lt hu) ?_).trans hu
  rintro (h' | ⟨_, c, h'⟩)
  · exact hB h'
  · rw [hu] at h'
    injection h' with h'
    injection h' with _ e
    exact ht e
/-- a Writer of the document's own at work: what it holds, and what lies beside it -/
structure RefAt (w : World) (gr : Nat) (o : Obj) (l : Tx) (x : World) : Prop where
  rw_ : ∃ v, Rw x gr gr v l
  hd : x.heap[w.heap.size]? = some o
  bel : Below w.heap.size w x
  lo : w.heap.size < gr
theorem RefAt.wrote {w : World} {gr : Nat} {l l' : Tx} {x y : World} {e : Ending} {cs : Array Value} {t : TypeId} (ht : t ≠ 5) (h : RefAt w gr (.cells cs t (0, 0)) l x) (hw : RefWrote gr gr l' x e y) : RefAt w gr (.cells cs t (0, 0)) l' y := by
  obtain ⟨_, h2, h3⟩ := hw
  have := h.lo
  exact ⟨h2, h3.other (by omega) ht h.hd, h.bel.trans (Turned.below h3 h.bel.size (by omega) (by omega)), h.lo⟩
theorem RefAt.base {w : World} {gr : Nat} {o : Obj} {l : Tx} {x : World} (h : RefAt w gr o l x) : gr ≤ x.heap.size := by
  obtain ⟨v, hv⟩ := h.rw_
  exact Nat.le_of_lt hv.lt
theorem RefAt.done {w : World} {gr : Nat} {o : Obj} {l l' : Tx} {x : World} (h : RefAt w gr o l x) (hl : l = l') : ∃ A C, x.cell? ⟨gr, 0, none⟩ = some (.slice A l.length C) ∧ AnsT l' w (.returned (.slice A l.length C)) x := by
  subst hl
  obtain ⟨v, hv⟩ := h.rw_
  obtain ⟨A, C, rfl, g1, g2, g3, g4⟩ := hv.2.rd
  have := h.lo
  exact ⟨A, C, heap_cell hv.1, A, l.length, C, rfl, rfl, g1, g2, g3, g4.mono (fun x hx => by omega), h.bel⟩
theorem vbyte_int (g base : Nat) (v : Value) (l : Tx) (n : Int) (w : World) (h : Rw w g base v l) (hbase : base ≤ w.heap.size) (hl : l.length ≤ 999999990) :
    Calls Tryd.prog 25 #[.pointer (some ⟨g, 0, none⟩), .int .u8 (n % 256)] w (RefWrote g base (l ++ [Cd.b8 n]) w) := by
  rw [← Cd.b8_nat]; exact vbyte_any g base v l (Cd.b8 n) w h hbase hl
end Go.Proofs.YtbcncmampabmfaaDoor
namespace Go.Proofs.YtbcncmampabmfaaDoor
open Go.RowKit
open Pt (Tx)

theorem OwnL.lower {w : World} {B B' : Nat} {v : Value} {l : Tx} (h : OwnL w B v l) (hb : B' ≤ B) : OwnL w B' v l := by
  refine ⟨h.1, ?_⟩
  rcases h.2 with h0 | ⟨g, cap, cur, e, hg, r⟩
  · exact .inl h0
  · exact .inr ⟨g, cap, cur, e, Nat.le_trans hb hg, r⟩
/-- bytes are answered, a row of its own; or nothing -/
def AnsO (l : Tx) (w : World) (e : Ending) (w' : World) : Prop :=
  ∃ A n C, e = .returned (.slice A n C) ∧ OwnL w' w.heap.size (.slice A n C) l ∧ Below w.heap.size w w'
theorem AnsO.nil {w w' : World} (h : Below w.heap.size w w') : AnsO [] w (.returned (.slice none 0 0)) w' := ⟨none, 0, 0, rfl, OwnL.nil _ _, h⟩
theorem AnsO.toT {l : Tx} {w w' : World} {e : Ending} (h : AnsO l w e w') : AnsT l w e w' := by
  obtain ⟨A, n, C, h1, h2, h3⟩ := h
  obtain ⟨A', C', e', g1, g2, g3, g4⟩ := h2.rd
  injection e' with x1 x2 x3
  subst x1 x3
  exact ⟨A, n, C, h1, x2, by rw [x2]; exact g1, g2, fun h => by rw [x2]; exact g3 h, g4.mono fun _ h => h.1, h3⟩
theorem RefAt.doneO {w : World} {gr : Nat} {o : Obj} {l l' : Tx} {x : World} (h : RefAt w gr o l x) (hl : l = l') : ∃ A C, x.cell? ⟨gr, 0, none⟩ = some (.slice A l.length C) ∧ AnsO l' w (.returned (.slice A l.length C)) x := by
  subst hl
  obtain ⟨v, hv⟩ := h.rw_
  obtain ⟨A, C, rfl, g1, g2, g3, g4⟩ := hv.2.rd
  exact ⟨A, C, heap_cell hv.1, A, l.length, C, rfl, hv.2.lower (Nat.le_of_lt h.lo), h.bel⟩
end Go.Proofs.YtbcncmampabmfaaDoor
