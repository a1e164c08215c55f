/- A Writer and a Reader of package code in memory, and those of the document's own. No function of the program. -/
import Derived.Test.YtdllkbjbklhigaaDoorBlWords
import Derived.Test.YtdllkbjbklhigaaDoorCdMath
namespace Go.Proofs.YtdllkbjbklhigaaDoor
open Go.RowKit
open Pt (Tx)

/-- pieces, each behind the next one -/
def Chain (w : World) : Option Addr → List Tx → Prop
  | P, [] => P = none
  | P, s :: ss => ∃ p P', P = some ⟨p, 0, none⟩ ∧ w.heap[p]? = some (.cells #[.pointer P', .string (tx s)] 75 (0, 0)) ∧ 0 < s.length ∧ Chain w P' ss
/-- all that pieces hold -/
def flat : List Tx → Tx
  | [] => []
  | s :: ss => flat ss ++ s
theorem Chain.keep {w w' : World} (hk : ∀ (k : Nat) (c : Array Value), w.heap[k]? = some (.cells c 75 (0, 0)) → w'.heap[k]? = w.heap[k]?) : ∀ (ss : List Tx) (P : Option Addr), Chain w P ss → Chain w' P ss
  | [], _, h => h
  | _ :: ss, _, ⟨p, P', h1, h2, h3, h4⟩ => ⟨p, P', h1, (hk p _ h2).trans h2, h3, Chain.keep hk ss P' h4⟩
/-- a Writer at block g that holds l -/
def Wr (w : World) (g : Nat) (l : Tx) : Prop :=
  ∃ P ss, w.heap[g]? = some (.cells #[.pointer P, .int .i64 (l.length : Int)] 51 (0, 0)) ∧ Chain w P ss ∧ l = flat ss
theorem Chain.kp {w w' : World} {S : Nat → Prop} {P : Option Addr} {ss : List Tx} (h : Chain w P ss) (hk : Kp S w w') (hs : ∀ (k : Nat) (c : Array Value), S k → w.heap[k]? ≠ some (.cells c 75 (0, 0))) : Chain w' P ss :=
  Chain.keep (fun k c hc => hk.block k (heap_lt hc) fun h => hs k c h hc) ss P h
theorem Wr.kp {w w' : World} {S : Nat → Prop} {g : Nat} {l : Tx} (h : Wr w g l) (hk : Kp S w w') (hg : ¬ S g) (hs : ∀ (k : Nat) (c : Array Value), S k → w.heap[k]? ≠ some (.cells c 75 (0, 0))) : Wr w' g l := by
  obtain ⟨P, ss, h1, h2, h3⟩ := h
  exact ⟨P, ss, (hk.block g (heap_lt h1) hg).trans h1, h2.kp hk hs, h3⟩
theorem Wr.old {w w' : World} {g : Nat} {l : Tx} (h : Wr w g l) (hb : Below w.heap.size w w') : Wr w' g l :=
  h.kp (S := fun _ => False) (Kp.of_below hb) (fun h => h) (fun _ _ h => h.elim)
theorem Wr.lt {w : World} {g : Nat} {l : Tx} (h : Wr w g l) : g < w.heap.size := by
  obtain ⟨P, ss, h1, _⟩ := h; exact heap_lt h1
/-- a call has written: the Writer at g holds l now, and of what was there g alone has turned -/
def Wrote (g : Nat) (l : Tx) (w : World) (e : Ending) (w' : World) : Prop := e = .returned (.tuple #[]) ∧ Wr w' g l ∧ Kp (· = g) w w'
/-- a Reader at block g with s left; its bytes lie in blocks of G -/
structure Rr (w : World) (g : Nat) (s : Cd.St) (G : Nat → Prop) : Prop where
  ex : ∃ A c, w.heap[g]? = some (.cells #[.slice A s.1.length c, .bool s.2] 78 (0, 0)) ∧ s.1.length ≤ c ∧ (A = none → s.1.length = 0 ∧ c = 0) ∧ RdL w A s.1 G
  ng : ¬ G g
theorem Rr.lt {w : World} {g : Nat} {s : Cd.St} {G : Nat → Prop} (h : Rr w g s G) : g < w.heap.size := by
  obtain ⟨A, c, h1, _⟩ := h.ex; exact heap_lt h1
theorem Rr.kp {w w' : World} {g : Nat} {s : Cd.St} {G S : Nat → Prop} (h : Rr w g s G) (hk : Kp S w w') (hg : ¬ S g) (hs : ∀ b, G b → ¬ S b) : Rr w' g s G := by
  obtain ⟨⟨A, c, h1, h2, h3, h5⟩, hn⟩ := h
  exact ⟨⟨A, c, (hk.block g (heap_lt h1) hg).trans h1, h2, h3, h5.kp hk hs⟩, hn⟩
/-- the document's own Reader -/
structure Rf (w : World) (g : Nat) (s : Cd.St) (G : Nat → Prop) : Prop where
  ex : ∃ A m c, w.heap[g]? = some (.cells #[.slice A m c, .bool s.2] 81 (0, 0)) ∧ m ≤ c ∧ c ≤ maxLen ∧ (A = none → m = 0 ∧ c = 0) ∧ (s.2 = false → m = s.1.length ∧ RdL w A s.1 G)
  ok : Cd.Ok s
  ng : ¬ G g
theorem Rf.lt {w : World} {g : Nat} {s : Cd.St} {G : Nat → Prop} (h : Rf w g s G) : g < w.heap.size := by
  obtain ⟨A, m, c, h1, _⟩ := h.ex; exact heap_lt h1
theorem Rf.kp {w w' : World} {g : Nat} {s : Cd.St} {G S : Nat → Prop} (h : Rf w g s G) (hk : Kp S w w') (hg : ¬ S g) (hs : ∀ b, G b → ¬ S b) : Rf w' g s G := by
  obtain ⟨⟨A, m, c, h1, h2, h0, h3, h5⟩, ho, hn⟩ := h
  exact ⟨⟨A, m, c, (hk.block g (heap_lt h1) hg).trans h1, h2, h0, h3, fun h => ⟨(h5 h).1, (h5 h).2.kp hk hs⟩⟩, ho, hn⟩
/-- the document's own Writer: its slice is v -/
def Rw (w : World) (g base : Nat) (v : Value) (l : Tx) : Prop := w.heap[g]? = some (.cells #[v] 68 (0, 0)) ∧ OwnL w base v l
theorem Rw.lt {w : World} {g base : Nat} {v : Value} {l : Tx} (h : Rw w g base v l) : g < w.heap.size := heap_lt h.1
theorem Rw.ne {w : World} {g base : Nat} {v : Value} {l : Tx} (h : Rw w g base v l) : ∀ k, v.ownBlock = some k → k ≠ g := by
  rintro k hk rfl
  obtain ⟨c, hc⟩ := h.2.block k hk
  have := h.1
  rw [hc] at this
  injection this with this
  injection this with _ e
  exact absurd e (by decide)
theorem Rw.kp {w w' : World} {g base : Nat} {v : Value} {l : Tx} {S : Nat → Prop} (h : Rw w g base v l) (hk : Kp S w w') (hg : ¬ S g) (hs : ∀ k, v.ownBlock = some k → ¬ S k) : Rw w' g base v l :=
  ⟨(hk.block g h.lt hg).trans h.1, h.2.kp hk hs⟩
/-- g alone has turned, and rows of bytes from base on -/
def Turned (g base : Nat) (w w' : World) : Prop := Kp (fun k => k = g ∨ base ≤ k ∧ ∃ c, w.heap[k]? = some (.cells c 5 (0, 0))) w w'
theorem Turned.trans {g base : Nat} {a b c : World} (h : Turned g base a b) (k : Turned g base b c) : Turned g base a c := by
  refine ⟨k.os.trans h.os, k.tape.trans h.tape, k.output.trans h.output, Nat.le_trans h.size k.size, fun i hi hs => ?_⟩
  have e := h.block i hi hs
  rw [← e]
  refine k.block i (Nat.lt_of_lt_of_le hi h.size) fun h' => hs ?_
  rcases h' with h' | ⟨h1, x, h2⟩
  · exact .inl h'
  · exact .inr ⟨h1, x, e ▸ h2⟩
theorem Turned.alloc {g base : Nat} {a b : World} (h : Turned g base a b) (o : Obj) : Turned g base a (b.alloc o) := Kp.alloc h o
theorem Turned.below {g base B : Nat} {a b : World} (h : Turned g base a b) (hB : B ≤ a.heap.size) (hg : B ≤ g) (hb : B ≤ base) : Below B a b :=
  Kp.below h hB fun k hk => by rcases hk with rfl | hk; exact hg; omega
/-- what a call of the document's own Writer has turned -/
def RefWrote (g base : Nat) (l : Tx) (w : World) (e : Ending) (w' : World) : Prop := e = .returned (.tuple #[]) ∧ (∃ v', Rw w' g base v' l) ∧ Turned g base w w'
theorem Rw.stored {w w1 w' : World} {g base : Nat} {v v' : Value} {l l' : Tx} (h : Rw w g base v l) (hK : Turned g base w w1) (h1 : w1.heap[g]? = w.heap[g]?) (hv1 : OwnL w1 base v l) (hg : w1.grownBy w' v.ownBlock) (hv : OwnL w' base v' l') :
    w'.heap[g]? = w.heap[g]? ∧ Rw (w'.setCell ⟨g, 0, none⟩ v') g base v' l' ∧ Turned g base w (w'.setCell ⟨g, 0, none⟩ v') := by
  have hlt : g < w1.heap.size := heap_lt (h1.trans h.1)
  have e : w'.heap[g]? = w.heap[g]? := (hg.block g hlt fun e => h.ne g e.symm rfl).trans h1
  have hr : Rw w' g base v' l' ∨ True := .inr trivial
  have hb := e.trans h.1
  refine ⟨e, ⟨by rw [heap_set hb]; simp, hv.kp (Kp.store w' g 0 _) fun k hk hkg => ?_⟩, ?_⟩
  · subst hkg
    obtain ⟨c, hc⟩ := hv.block k hk
    rw [hb] at hc
    injection hc with hc
    injection hc with _ hc
    exact absurd hc (by decide)
  · refine hK.trans (Kp.setCell (Kp.grown (Kp.refl _ w1) hg fun k hk => .inr ⟨hv1.lo k hk, hv1.block k hk⟩) (.inl rfl) _)
/-- what a read answered, and left -/
def Red (v : Value) (g : Nat) (s : Cd.St) (G : Nat → Prop) (w : World) (e : Ending) (w' : World) : Prop := e = .returned v ∧ Rr w' g s G ∧ Kp (· = g) w w'
def RefRed (v : Value) (g : Nat) (s : Cd.St) (G : Nat → Prop) (w : World) (e : Ending) (w' : World) : Prop := e = .returned v ∧ Rf w' g s G ∧ Kp (· = g) w w'
end Go.Proofs.YtdllkbjbklhigaaDoor
