/- Rows of calls that came in. No function of the program. -/
import Derived.Test.YtflcnghjhgfkfaaTpRefA
namespace Go.Proofs.Ytflcnghjhgfkfaa
open Go.RowKit
open Pt (Tx)

theorem cell4 {w : World} {b : Nat} {x0 x1 x2 x3 : Value} {t : TypeId} {fr : Nat × Nat} (h : w.heap[b]? = some (.cells #[x0, x1, x2, x3] t fr)) : w.cell? ⟨b, 0, none⟩ = some x0 ∧ w.cell? ⟨b, 1, none⟩ = some x1 ∧ w.cell? ⟨b, 2, none⟩ = some x2 ∧ w.cell? ⟨b, 3, none⟩ = some x3 :=
  ⟨heap_cell h, heap_cell h, heap_cell h, heap_cell h⟩
/-- calls that came in: a way, two numbers, bytes each -/
def ActR (w : World) (A : Option Addr) (n : Nat) (way num mm : Nat → Int) (st : Nat → Tx) (B : Nat) : Prop :=
  0 < n → ∃ b off, A = some ⟨b, off, none⟩ ∧ b < B ∧ ∀ i, i < n → ∃ A' C', w.cell? ⟨b, off + i * 4, none⟩ = some (.int .i64 (way i)) ∧ w.cell? ⟨b, off + i * 4 + 1, none⟩ = some (.int .i64 (num i)) ∧ w.cell? ⟨b, off + i * 4 + 2, none⟩ = some (.int .i64 (mm i)) ∧ w.cell? ⟨b, off + i * 4 + 3, none⟩ = some (.slice A' (st i).length C') ∧ (st i).length ≤ C' ∧ (A' = none → (st i).length = 0 ∧ C' = 0) ∧ RdL w A' (st i) (· < B)
theorem ActR.below {w w' : World} {A : Option Addr} {n : Nat} {way num mm : Nat → Int} {st : Nat → Tx} {B : Nat} (h : ActR w A n way num mm st B) (hb : Below B w w') : ActR w' A n way num mm st B := by
  intro hn
  obtain ⟨b, off, e, hB, hc⟩ := h hn
  refine ⟨b, off, e, hB, fun i hi => ?_⟩
  obtain ⟨A', C', h1, h2, h3, h4, h5, h6, h7⟩ := hc i hi
  exact ⟨A', C', (hb.cell (p := ⟨b, off + i * 4, none⟩) hB).trans h1, (hb.cell (p := ⟨b, off + i * 4 + 1, none⟩) hB).trans h2, (hb.cell (p := ⟨b, off + i * 4 + 2, none⟩) hB).trans h3, (hb.cell (p := ⟨b, off + i * 4 + 3, none⟩) hB).trans h4, h5, h6, h7.below hb⟩
/-- the drive and the document's own tape, with the same blocks -/
structure Both (W w : World) (g B gr : Nat) (G : Nat → Prop) (lab cap : Int) (bs : List Tx) : Prop where
  d : Dr w g lab cap bs
  r : Rt w B gr G lab cap bs
  lo : W.heap.size ≤ g
  hi : g < B
  le : B ≤ w.heap.size
  bel : Below W.heap.size W w
theorem Rt.drive {w : World} {B gr g : Nat} {G : Nat → Prop} {lab cap l m : Int} {bs ds : List Tx} (h : Rt w B gr G lab cap bs) (hd : Dr w g l m ds) : g ≠ gr := fun e => by
  obtain ⟨v, us, hb, _⟩ := h.ex
  obtain ⟨c, hc, _⟩ := hd.mem
  rw [e, hb] at hc
  injection hc with hc
  injection hc with _ e2
  exact absurd e2 (by decide)
/-- the drive alone is turned -/
theorem Both.drive {W w w' : World} {g B gr : Nat} {G : Nat → Prop} {lab cap : Int} {bs : List Tx} (h : Both W w g B gr G lab cap bs) (hk : Kp (· = g) w w') : Rt w' B gr G lab cap bs ∧ B ≤ w'.heap.size ∧ Below W.heap.size W w' := by
  obtain ⟨c, hc, _⟩ := h.d.mem
  have kt : ∀ (t : TypeId) (c' : Array Value), t ≠ 57 → w.heap[g]? ≠ some (.cells c' t (0, 0)) := fun t c' ht e => by
    rw [hc] at e; injection e with e; injection e with _ e2; exact ht e2.symm
  obtain ⟨⟨v, us, hb, ht⟩, hlo⟩ := h.r
  refine ⟨⟨⟨v, us, (hk.block gr (heap_lt hb) (fun e => h.r.drive h.d e.symm)).trans hb, ht.kpT hk (fun k c' hk' => by rw [hk']; exact kt _ c' (by decide)) (fun k c' hk' => by rw [hk']; exact kt _ c' (by decide))⟩, hlo⟩, Nat.le_trans h.le hk.size, ?_⟩
  exact h.bel.trans (hk.below h.bel.size fun k hk' => by rw [hk']; exact h.lo)
end Go.Proofs.Ytflcnghjhgfkfaa
