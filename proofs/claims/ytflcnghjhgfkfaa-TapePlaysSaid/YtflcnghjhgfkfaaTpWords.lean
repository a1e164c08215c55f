/- A drive of package tape in memory, and tapes that read. No function of the program. -/
import Derived.Test.YtflcnghjhgfkfaaBlWords
import Derived.Test.YtflcnghjhgfkfaaTpMath
namespace Go.Proofs.Ytflcnghjhgfkfaa
open Go.RowKit
open Pt (Tx)

/-- the drive at block g: its label, how many blocks fit, how many it says there are, and its first blocks -/
def DrK (w : World) (g : Nat) (lab most cnt : Int) (bs : List Tx) : Prop :=
  ∃ c, w.heap[g]? = some (.cells c 57 (0, 0)) ∧ c.size = 67 ∧ c[0]? = some (.int .i64 lab) ∧ c[1]? = some (.int .i64 most) ∧ c[2]? = some (.int .i64 cnt) ∧ ∀ j (hj : j < bs.length), c[3 + j]? = some (.string (tx bs[j]))
namespace DrK
variable {w w' : World} {g : Nat} {lab most cnt : Int} {bs : List Tx}
theorem lt (h : DrK w g lab most cnt bs) : g < w.heap.size := by obtain ⟨c, hb, _⟩ := h; exact heap_lt hb
theorem c0 (h : DrK w g lab most cnt bs) : w.cell? ⟨g, 0, none⟩ = some (.int .i64 lab) := by obtain ⟨c, hb, _, h0, _⟩ := h; rw [heap_cell hb, h0]
theorem c1 (h : DrK w g lab most cnt bs) : w.cell? ⟨g, 1, none⟩ = some (.int .i64 most) := by obtain ⟨c, hb, _, _, h0, _⟩ := h; rw [heap_cell hb, h0]
theorem c2 (h : DrK w g lab most cnt bs) : w.cell? ⟨g, 2, none⟩ = some (.int .i64 cnt) := by obtain ⟨c, hb, _, _, _, h0, _⟩ := h; rw [heap_cell hb, h0]
theorem cs (h : DrK w g lab most cnt bs) {j : Nat} (hj : j < bs.length) : w.cell? ⟨g, 3 + j, none⟩ = some (.string (tx bs[j])) := by obtain ⟨c, hb, _, _, _, _, h0⟩ := h; rw [heap_cell hb, h0]
theorem cx (h : DrK w g lab most cnt bs) {j : Nat} (hj : j < 64) : ∃ v, w.cell? ⟨g, 3 + j, none⟩ = some v := by
  obtain ⟨c, hb, hs, _⟩ := h
  rw [heap_cell hb]
  exact ⟨_, Array.getElem?_eq_getElem (by omega)⟩
theorem fr (h : DrK w g lab most cnt bs) (j : Nat) : w.frozen? ⟨g, j, none⟩ = false := by obtain ⟨c, hb, _⟩ := h; exact heap_frozen hb
theorem of_block (h : DrK w g lab most cnt bs) (e : w'.heap[g]? = w.heap[g]?) : DrK w' g lab most cnt bs := by obtain ⟨c, hb, hr⟩ := h; exact ⟨c, e.trans hb, hr⟩
theorem kp {S : Nat → Prop} (h : DrK w g lab most cnt bs) (hk : Kp S w w') (hs : ¬ S g) : DrK w' g lab most cnt bs := h.of_block (hk.block g h.lt hs)
theorem old (h : DrK w g lab most cnt bs) (hb : Below w.heap.size w w') : DrK w' g lab most cnt bs := h.of_block (hb.block g h.lt)
theorem take (h : DrK w g lab most cnt bs) (n : Nat) : DrK w g lab most cnt (bs.take n) := by
  obtain ⟨c, hb, hs, h0, h1, h2, h3⟩ := h
  refine ⟨c, hb, hs, h0, h1, h2, fun j hj => ?_⟩
  rw [List.getElem_take]; exact h3 j (by simp at hj; omega)
theorem setn (h : DrK w g lab most cnt bs) (n : Int) : DrK (w.setCell ⟨g, 2, none⟩ (.int .i64 n)) g lab most n bs := by
  obtain ⟨c, hb, hs, h0, h1, h2, h3⟩ := h
  refine ⟨_, heap_set hb _, by simpa using hs, ?_, ?_, ?_, fun j hj => ?_⟩
  · rw [Array.getElem?_setIfInBounds, if_neg (by omega)]; exact h0
  · rw [Array.getElem?_setIfInBounds, if_neg (by omega)]; exact h1
  · rw [Array.getElem?_setIfInBounds, if_pos rfl, if_pos (by omega)]
  · rw [Array.getElem?_setIfInBounds, if_neg (by omega)]; exact h3 j hj
theorem push (h : DrK w g lab most cnt bs) (hl : bs.length < 64) (s : Tx) {k : Nat} (hk : k = bs.length) : DrK (w.setCell ⟨g, 3 + k, none⟩ (.string (tx s))) g lab most cnt (bs ++ [s]) := by
  subst hk
  obtain ⟨c, hb, hs, h0, h1, h2, h3⟩ := h
  refine ⟨_, heap_set hb _, by simpa using hs, ?_, ?_, ?_, fun j hj => ?_⟩
  · rw [Array.getElem?_setIfInBounds, if_neg (by omega)]; exact h0
  · rw [Array.getElem?_setIfInBounds, if_neg (by omega)]; exact h1
  · rw [Array.getElem?_setIfInBounds, if_neg (by omega)]; exact h2
  · by_cases e : j = bs.length
    · subst e
      rw [Array.getElem?_setIfInBounds, if_pos rfl, if_pos (by omega)]
      simp
    · rw [Array.getElem?_setIfInBounds, if_neg (by omega), List.getElem_append_left (by simp at hj; omega)]
      exact h3 j (by simp at hj; omega)
theorem set (h : DrK w g lab most cnt bs) (s : Tx) (k : Nat) : DrK (w.setCell ⟨g, 3 + k, none⟩ (.string (tx s))) g lab most cnt (bs.set k s) := by
  obtain ⟨c, hb, hs, h0, h1, h2, h3⟩ := h
  refine ⟨_, heap_set hb _, by simpa using hs, ?_, ?_, ?_, fun j hj => ?_⟩
  · rw [Array.getElem?_setIfInBounds, if_neg (by omega)]; exact h0
  · rw [Array.getElem?_setIfInBounds, if_neg (by omega)]; exact h1
  · rw [Array.getElem?_setIfInBounds, if_neg (by omega)]; exact h2
  · rw [List.length_set] at hj
    have hsz : 3 + j < c.size := (Array.getElem?_eq_some_iff.1 (h3 j hj)).1
    rw [Array.getElem?_setIfInBounds, List.getElem_set]
    by_cases e : k = j
    · subst e
      rw [if_pos rfl, if_pos (by omega), if_pos rfl]
    · rw [if_neg (by omega), if_neg e]; exact h3 j hj
end DrK
/-- the drive at block g -/
structure Dr (w : World) (g : Nat) (lab most : Int) (bs : List Tx) : Prop where
  mem : DrK w g lab most (bs.length : Int) bs
  lo : 0 ≤ most
  hi : most ≤ 64
  fit : (bs.length : Int) ≤ most
  ok : ∀ s ∈ bs, 1 ≤ s.length ∧ s.length ≤ 94
namespace Dr
variable {w w' : World} {g : Nat} {lab most : Int} {bs : List Tx}
theorem lt (h : Dr w g lab most bs) : g < w.heap.size := h.mem.lt
theorem of_block (h : Dr w g lab most bs) (e : w'.heap[g]? = w.heap[g]?) : Dr w' g lab most bs := ⟨h.mem.of_block e, h.lo, h.hi, h.fit, h.ok⟩
theorem kp {S : Nat → Prop} (h : Dr w g lab most bs) (hk : Kp S w w') (hs : ¬ S g) : Dr w' g lab most bs := h.of_block (hk.block g h.lt hs)
theorem old (h : Dr w g lab most bs) (hb : Below w.heap.size w w') : Dr w' g lab most bs := h.of_block (hb.block g h.lt)
theorem len64 (h : Dr w g lab most bs) : bs.length ≤ 64 := by have := h.fit; have := h.hi; omega
end Dr
/-- the slice at A of slices reads as these texts, all in blocks of G -/
def RdB (w : World) (A : Option Addr) (bs : List Tx) (G : Nat → Prop) : Prop :=
  0 < bs.length → ∃ b off, A = some ⟨b, off, none⟩ ∧ G b ∧ ∀ i (hi : i < bs.length), ∃ A' C', w.cell? ⟨b, off + i, none⟩ = some (.slice A' bs[i].length C') ∧ bs[i].length ≤ C' ∧ (A' = none → bs[i].length = 0 ∧ C' = 0) ∧ RdL w A' bs[i] G
namespace RdB
variable {w w' : World} {A : Option Addr} {bs : List Tx} {G G' S : Nat → Prop}
theorem empty (w : World) (A : Option Addr) (G : Nat → Prop) : RdB w A [] G := fun h => absurd h (by simp)
theorem keep (h : RdB w A bs G) (hk : ∀ p v, G p.block → w.cell? p = some v → w'.cell? p = some v) : RdB w' A bs G := by
  intro hn
  obtain ⟨b, off, e, hg, hc⟩ := h hn
  refine ⟨b, off, e, hg, fun i hi => ?_⟩
  obtain ⟨A', C', h1, h2, h3, h4⟩ := hc i hi
  exact ⟨A', C', hk _ _ hg h1, h2, h3, h4.keep hk⟩
theorem mono (h : RdB w A bs G) (hg : ∀ b, G b → G' b) : RdB w A bs G' := by
  intro hn
  obtain ⟨b, off, e, hg', hc⟩ := h hn
  refine ⟨b, off, e, hg _ hg', fun i hi => ?_⟩
  obtain ⟨A', C', h1, h2, h3, h4⟩ := hc i hi
  exact ⟨A', C', h1, h2, h3, h4.mono hg⟩
theorem kp (h : RdB w A bs G) (hk : Kp S w w') (hs : ∀ b, G b → ¬ S b) : RdB w' A bs G := h.keep fun _ _ hg hc => hk.cell hc (hs _ hg)
theorem old (h : RdB w A bs G) (hb : Below w.heap.size w w') : RdB w' A bs G := h.keep fun _ _ _ hc => (hb.cell (World.block_lt_of_cell? _ _ hc)).trans hc
theorem below {B : Nat} (h : RdB w A bs (· < B)) (hb : Below B w w') : RdB w' A bs (· < B) := h.keep fun _ _ hg hc => (hb.cell hg).trans hc
theorem in_ (h : RdB w A bs G) : RdB w A bs (fun b => G b ∧ b < w.heap.size) := by
  intro hn
  obtain ⟨b, off, e, hg, hc⟩ := h hn
  refine ⟨b, off, e, ⟨hg, ?_⟩, fun i hi => ?_⟩
  · obtain ⟨_, _, h1, _⟩ := hc 0 hn
    exact World.block_lt_of_cell? _ _ h1
  · obtain ⟨A', C', h1, h2, h3, h4⟩ := hc i hi
    exact ⟨A', C', h1, h2, h3, h4.in_⟩
theorem at_ (h : RdB w A bs G) {i : Nat} (hi : i < bs.length) : ∃ b off A' C', A = some ⟨b, off, none⟩ ∧ G b ∧ w.cell? ⟨b, off + i, none⟩ = some (.slice A' bs[i].length C') ∧ bs[i].length ≤ C' ∧ (A' = none → bs[i].length = 0 ∧ C' = 0) ∧ RdL w A' bs[i] G := by
  obtain ⟨b, off, e, hg, hc⟩ := h (by omega)
  obtain ⟨A', C', h1, h2, h3, h4⟩ := hc i hi
  exact ⟨b, off, A', C', e, hg, h1, h2, h3, h4⟩
end RdB
/-- a tape as the value that is handed on -/
def tape (lab cap : Int) (A : Option Addr) (n C : Nat) (lost : Bool) : Value := .agg #[.int .i64 lab, .int .i64 cap, .slice A n C, .bool lost]
end Go.Proofs.Ytflcnghjhgfkfaa
