/- Words for memory: a slice of bytes that reads as a row of elements, a slice of such slices that reads as a matrix, and rows that a call owns. No program. -/
import Derived.Test.YtjhbmijdpcbbiaaMxMath
import Derived.WalkKit
import Derived.ProofKit
import Derived.Lib.Hide
import Derived.Deep.OwnRows
import Derived.Deep.Draws
import Derived.Test.YtjhbmijdpcbbiaaKp
namespace Go.Proofs.Ytjhbmijdpcbbiaa
open Go.RowKit Mx

/-- an element as the number that lies in a cell -/
def fi (a : Fe) : Int := (a.nat : Int)
theorem fi_lo (a : Fe) : 0 ≤ fi a := Int.natCast_nonneg _
theorem fi_hi (a : Fe) : fi a < 256 := by have := a.nat_lt; unfold fi; omega
theorem fi_nat (a : Fe) : (fi a).toNat = a.nat := Int.toNat_natCast _
theorem fi_zero : fi 0 = 0 := rfl
theorem fi_one : fi 1 = 1 := rfl
theorem fi_eq {a b : Fe} (h : fi a = fi b) : a = b := Fe.ext (by have : (a.nat : Int) = (b.nat : Int) := h; omega)
theorem fi_eq_zero {a : Fe} : fi a = 0 ↔ a = 0 := ⟨fun h => fi_eq (h.trans fi_zero.symm), fun h => by rw [h, fi_zero]⟩

/-- the slice at A of n bytes reads as r, and lies in a block of G -/
def Rd (w : World) (A : Option Addr) (n : Nat) (r : Nat → Fe) (G : Nat → Prop) : Prop :=
  0 < n → ∃ b off, A = some ⟨b, off, none⟩ ∧ G b ∧ ∀ j, j < n → w.cell? ⟨b, off + j, none⟩ = some (.int .u8 (fi (r j)))
/-- the slice at A of n slices reads as the rows of M, row i of length L i, all in blocks of G -/
def RdM (w : World) (A : Option Addr) (n : Nat) (L : Nat → Nat) (M : Mat) (G : Nat → Prop) : Prop :=
  0 < n → ∃ b off, A = some ⟨b, off, none⟩ ∧ G b ∧ ∀ i, i < n → ∃ A' C', w.cell? ⟨b, off + i, none⟩ = some (.slice A' (L i) C') ∧ Rd w A' (L i) (M i) G
theorem Rd.empty (w : World) (A : Option Addr) (r : Nat → Fe) (G : Nat → Prop) : Rd w A 0 r G := fun h => absurd h (by omega)
theorem RdM.empty (w : World) (A : Option Addr) (L : Nat → Nat) (M : Mat) (G : Nat → Prop) : RdM w A 0 L M G := fun h => absurd h (by omega)
theorem Rd.keep {w w' : World} {A : Option Addr} {n : Nat} {r : Nat → Fe} {G : Nat → Prop} (h : Rd w A n r G) (hk : ∀ p v, G p.block → w.cell? p = some v → w'.cell? p = some v) : Rd w' A n r G := by
  intro hn
  obtain ⟨b, off, e, hg, hc⟩ := h hn
  exact ⟨b, off, e, hg, fun j hj => hk _ _ hg (hc j hj)⟩
theorem Rd.mono {w : World} {A : Option Addr} {n : Nat} {r : Nat → Fe} {G G' : Nat → Prop} (h : Rd w A n r G) (hg : ∀ b, G b → G' b) : Rd w A n r G' := by
  intro hn
  obtain ⟨b, off, e, hg', hc⟩ := h hn
  exact ⟨b, off, e, hg _ hg', hc⟩
theorem Rd.congr {w : World} {A : Option Addr} {n : Nat} {r s : Nat → Fe} {G : Nat → Prop} (h : Rd w A n r G) (he : ∀ j, j < n → r j = s j) : Rd w A n s G := by
  intro hn
  obtain ⟨b, off, e, hg', hc⟩ := h hn
  exact ⟨b, off, e, hg', fun j hj => by rw [← he j hj]; exact hc j hj⟩
theorem Rd.kp {w w' : World} {A : Option Addr} {n : Nat} {r : Nat → Fe} {G S : Nat → Prop} (h : Rd w A n r G) (hk : Kp S w w') (hs : ∀ b, G b → ¬ S b) : Rd w' A n r G :=
  h.keep fun _ _ hg hc => hk.cell hc (hs _ hg)
theorem Rd.below {w w' : World} {A : Option Addr} {n B : Nat} {r : Nat → Fe} (h : Rd w A n r (· < B)) (hb : Below B w w') : Rd w' A n r (· < B) :=
  h.keep fun _ _ hg hc => (hb.cell hg).trans hc
theorem RdM.keep {w w' : World} {A : Option Addr} {n : Nat} {L : Nat → Nat} {M : Mat} {G : Nat → Prop} (h : RdM w A n L M G) (hk : ∀ p v, G p.block → w.cell? p = some v → w'.cell? p = some v) : RdM w' A n L M G := by
  intro hn
  obtain ⟨b, off, e, hg, hc⟩ := h hn
  refine ⟨b, off, e, hg, fun i hi => ?_⟩
  obtain ⟨A', C', h1, h2⟩ := hc i hi
  exact ⟨A', C', hk _ _ hg h1, h2.keep hk⟩
theorem RdM.mono {w : World} {A : Option Addr} {n : Nat} {L : Nat → Nat} {M : Mat} {G G' : Nat → Prop} (h : RdM w A n L M G) (hg : ∀ b, G b → G' b) : RdM w A n L M G' := by
  intro hn
  obtain ⟨b, off, e, hg', hc⟩ := h hn
  refine ⟨b, off, e, hg _ hg', fun i hi => ?_⟩
  obtain ⟨A', C', h1, h2⟩ := hc i hi
  exact ⟨A', C', h1, h2.mono hg⟩
theorem RdM.congr {w : World} {A : Option Addr} {n : Nat} {L L' : Nat → Nat} {M M' : Mat} {G : Nat → Prop} (h : RdM w A n L M G) (hl : ∀ i, i < n → L i = L' i) (he : ∀ i, i < n → ∀ j, j < L i → M i j = M' i j) : RdM w A n L' M' G := by
  intro hn
  obtain ⟨b, off, e, hg', hc⟩ := h hn
  refine ⟨b, off, e, hg', fun i hi => ?_⟩
  obtain ⟨A', C', h1, h2⟩ := hc i hi
  rw [← hl i hi]
  exact ⟨A', C', h1, h2.congr (he i hi)⟩
theorem RdM.kp {w w' : World} {A : Option Addr} {n : Nat} {L : Nat → Nat} {M : Mat} {G S : Nat → Prop} (h : RdM w A n L M G) (hk : Kp S w w') (hs : ∀ b, G b → ¬ S b) : RdM w' A n L M G :=
  h.keep fun _ _ hg hc => hk.cell hc (hs _ hg)
theorem RdM.below {w w' : World} {A : Option Addr} {n B : Nat} {L : Nat → Nat} {M : Mat} (h : RdM w A n L M (· < B)) (hb : Below B w w') : RdM w' A n L M (· < B) :=
  h.keep fun _ _ hg hc => (hb.cell hg).trans hc
theorem Rd.old {w w' : World} {A : Option Addr} {n : Nat} {r : Nat → Fe} {G : Nat → Prop} (h : Rd w A n r G) (hb : Below w.heap.size w w') : Rd w' A n r G :=
  h.keep fun _ _ _ hc => (hb.cell (World.block_lt_of_cell? _ _ hc)).trans hc
theorem RdM.old {w w' : World} {A : Option Addr} {n : Nat} {L : Nat → Nat} {M : Mat} {G : Nat → Prop} (h : RdM w A n L M G) (hb : Below w.heap.size w w') : RdM w' A n L M G :=
  h.keep fun _ _ _ hc => (hb.cell (World.block_lt_of_cell? _ _ hc)).trans hc
/-- what reads lies in blocks that are there -/
theorem Rd.in_ {w : World} {A : Option Addr} {n : Nat} {r : Nat → Fe} {G : Nat → Prop} (h : Rd w A n r G) : Rd w A n r (· < w.heap.size) := by
  intro hn
  obtain ⟨b, off, e, _, hc⟩ := h hn
  exact ⟨b, off, e, World.block_lt_of_cell? _ _ (hc 0 hn), hc⟩
theorem RdM.in_ {w : World} {A : Option Addr} {n : Nat} {L : Nat → Nat} {M : Mat} {G : Nat → Prop} (h : RdM w A n L M G) : RdM w A n L M (· < w.heap.size) := by
  intro hn
  obtain ⟨b, off, e, _, hc⟩ := h hn
  refine ⟨b, off, e, ?_, fun i hi => ?_⟩
  · obtain ⟨_, _, h1, _⟩ := hc 0 hn
    exact World.block_lt_of_cell? _ _ h1
  · obtain ⟨A', C', h1, h2⟩ := hc i hi
    exact ⟨A', C', h1, h2.in_⟩
/-- a row of what reads as a matrix -/
theorem RdM.row {w : World} {A : Option Addr} {n : Nat} {L : Nat → Nat} {M : Mat} {G : Nat → Prop} (h : RdM w A n L M G) {i : Nat} (hi : i < n) :
    ∃ b off A' C', A = some ⟨b, off, none⟩ ∧ G b ∧ w.cell? ⟨b, off + i, none⟩ = some (.slice A' (L i) C') ∧ Rd w A' (L i) (M i) G := by
  obtain ⟨b, off, e, hg, hc⟩ := h (by omega)
  obtain ⟨A', C', h1, h2⟩ := hc i hi
  exact ⟨b, off, A', C', e, hg, h1, h2⟩
theorem Rd.at {w : World} {A : Option Addr} {n : Nat} {r : Nat → Fe} {G : Nat → Prop} (h : Rd w A n r G) {j : Nat} (hj : j < n) :
    ∃ b off, A = some ⟨b, off, none⟩ ∧ G b ∧ w.cell? ⟨b, off + j, none⟩ = some (.int .u8 (fi (r j))) := by
  obtain ⟨b, off, e, hg, hc⟩ := h (by omega)
  exact ⟨b, off, e, hg, hc j hj⟩


/-- block g is an own row of bytes whose first m are f -/
def RowAt (w : World) (g m : Nat) (f : Nat → Fe) : Prop := RowV w 5 g m (fun j => .int .u8 (fi (f j)))
namespace RowAt
variable {w w' : World} {g m : Nat} {f f' : Nat → Fe}
theorem cell (h : RowAt w g m f) {j : Nat} (hj : j < m) : w.cell? ⟨g, j, none⟩ = some (.int .u8 (fi (f j))) := RowV.cell h hj
theorem frozen (h : RowAt w g m f) (j : Nat) : w.frozen? ⟨g, j, none⟩ = false := RowV.frozen h j
theorem lt (h : RowAt w g m f) : g < w.heap.size := RowV.lt h
theorem congr (h : RowAt w g m f) (e : ∀ j, j < m → f j = f' j) : RowAt w g m f' := RowV.congr h fun j hj => by rw [e j hj]
theorem of_block (h : RowAt w g m f) (e : w'.heap[g]? = w.heap[g]?) : RowAt w' g m f := RowV.of_block h e
theorem kp {S : Nat → Prop} (h : RowAt w g m f) (hk : Kp S w w') (hs : ¬ S g) : RowAt w' g m f := RowV.kp h hk hs
theorem old (h : RowAt w g m f) (hb : Below w.heap.size w w') : RowAt w' g m f := RowV.old h hb
theorem set (h : RowAt w g m f) (j : Nat) (a : Fe) : RowAt (w.setCell ⟨g, j, none⟩ (.int .u8 (fi a))) g m (fun k => if k = j then a else f k) :=
  RowV.congr (RowV.set h j _) fun k _ => by by_cases e : k = j <;> simp [e]
theorem rd (h : RowAt w g m f) (G : Nat → Prop) (hg : G g) : Rd w (some ⟨g, 0, none⟩) m f G := fun _ => ⟨g, 0, rfl, hg, fun j hj => by rw [Nat.zero_add]; exact h.cell hj⟩
theorem made (w : World) (n : Nat) : RowAt (w.alloc (.cells (madeCells #[.int .u8 0] n) 5)) w.heap.size n (fun _ => 0) := RowV.made w _ _ n
end RowAt

/-- the matrix at block b, of n rows the first k laid: own rows of m elements, row i in block G i from B on, no two in one -/
structure OwnK (w : World) (B b n k m : Nat) (G C : Nat → Nat) (M : Mat) : Prop where
  top : RowV w 53 b n (fun i => if i < k then .slice (some ⟨G i, 0, none⟩) m (C i) else .slice none 0 0)
  cap : ∀ i, i < k → m ≤ C i
  rows : ∀ i, i < k → RowAt w (G i) m (M i)
  inj : ∀ i j, i < k → j < k → G i = G j → i = j
  lo : ∀ i, i < k → B ≤ G i
namespace OwnK
variable {w w' : World} {B b n k m : Nat} {G C : Nat → Nat} {M M' : Mat}
theorem ne (h : OwnK w B b n k m G C M) {i : Nat} (hi : i < k) : G i ≠ b := RowV.ne (h.rows i hi) h.top (by decide)
theorem rd (h : OwnK w B b n k m G C M) (hk : n ≤ k) : RdM w (some ⟨b, 0, none⟩) n (fun _ => m) M (fun x => x = b ∨ ∃ i, i < n ∧ x = G i) := by
  intro _
  refine ⟨b, 0, rfl, .inl rfl, fun i hi => ⟨some ⟨G i, 0, none⟩, C i, ?_, (h.rows i (by omega)).rd _ (.inr ⟨i, hi, rfl⟩)⟩⟩
  rw [Nat.zero_add, h.top.cell hi, if_pos (by omega)]
theorem rdAll (h : OwnK w B b n k m G C M) (hk : n ≤ k) : RdM w (some ⟨b, 0, none⟩) n (fun _ => m) M (· < w.heap.size) :=
  (h.rd hk).mono fun x hx => by
    rcases hx with rfl | ⟨i, hi, rfl⟩
    · exact h.top.lt
    · exact (h.rows i (by omega)).lt
theorem congr (h : OwnK w B b n k m G C M) (e : ∀ i, i < k → ∀ j, j < m → M i j = M' i j) : OwnK w B b n k m G C M' :=
  ⟨h.top, h.cap, fun i hi => (h.rows i hi).congr (e i hi), h.inj, h.lo⟩
theorem kp {S : Nat → Prop} (h : OwnK w B b n k m G C M) (hk : Kp S w w') (hb : ¬ S b) (hs : ∀ i, i < k → ¬ S (G i)) : OwnK w' B b n k m G C M :=
  ⟨h.top.kp hk hb, h.cap, fun i hi => (h.rows i hi).kp hk (hs i hi), h.inj, h.lo⟩
theorem down (h : OwnK w B b n k m G C M) {B' : Nat} (hB : B' ≤ B) : OwnK w B' b n k m G C M := ⟨h.top, h.cap, h.rows, h.inj, fun i hi => Nat.le_trans hB (h.lo i hi)⟩
theorem drew (h : OwnK w B b n k m G C M) : OwnK w.drew B b n k m G C M := ⟨h.top, h.cap, h.rows, h.inj, h.lo⟩
theorem old (h : OwnK w B b n k m G C M) (hb : Below w.heap.size w w') : OwnK w' B b n k m G C M :=
  ⟨h.top.old hb, h.cap, fun i hi => (h.rows i hi).old hb, h.inj, h.lo⟩
theorem start (w : World) (B n m : Nat) (G C : Nat → Nat) (M : Mat) : OwnK (w.alloc (.cells (madeCells #[.slice none 0 0] n) 53)) B w.heap.size n 0 m G C M :=
  ⟨(RowV.made w _ _ n).congr fun j _ => by rw [if_neg (by omega)], fun i hi => absurd hi (by omega), fun i hi => absurd hi (by omega), fun i j hi => absurd hi (by omega), fun i hi => absurd hi (by omega)⟩
/-- a new row is laid -/
theorem push (h : OwnK w B b n k m G C M) (hb : Below w.heap.size w w') {g c : Nat} {f : Nat → Fe} (hg : w.heap.size ≤ g) (hB : B ≤ w.heap.size) (hc : m ≤ c) (hr : RowAt w' g m f) :
    OwnK (w'.setCell ⟨b, k, none⟩ (.slice (some ⟨g, 0, none⟩) m c)) B b n (k + 1) m (fun i => if i = k then g else G i) (fun i => if i = k then c else C i) (fun i => if i = k then f else M i) := by
  have h' := h.old hb
  have hs : ∀ (x : Nat), x ≠ b → (w'.setCell ⟨b, k, none⟩ (.slice (some ⟨g, 0, none⟩) m c)).heap[x]? = w'.heap[x]? := fun x hx => Below.heap_setCell _ _ _ _ hx
  refine ⟨(h'.top.set k _).congr fun i _ => ?_, fun i hi => ?_, fun i hi => ?_, fun i j hi hj e => ?_, fun i hi => ?_⟩
  · by_cases e : i = k
    · simp [e]
    · by_cases e' : i < k
      · simp [e, e', show i < k + 1 by omega]
      · simp [e, e', show ¬ i < k + 1 by omega]
  · by_cases e : i = k
    · simp only [e, if_true]; exact hc
    · simp only [e, if_false]; exact h.cap i (by omega)
  · by_cases e : i = k
    · simp only [e, if_true]; exact hr.of_block (hs _ (by have := h.top.lt; omega))
    · simp only [e, if_false]; exact (h'.rows i (by omega)).of_block (hs _ (h'.ne (by omega)))
  · by_cases e1 : i = k <;> by_cases e2 : j = k
    · omega
    · simp only [e1, e2, if_true, if_false] at e
      have := (h.rows j (by omega)).lt
      omega
    · simp only [e1, e2, if_true, if_false] at e
      have := (h.rows i (by omega)).lt
      omega
    · simp only [e1, e2, if_false] at e
      exact h.inj i j (by omega) (by omega) e
  · by_cases e : i = k
    · simp only [e, if_true]; omega
    · simp only [e, if_false]; exact h.lo i (by omega)
/-- a row is turned -/
theorem turn (h : OwnK w B b n k m G C M) {i : Nat} (hi : i < k) {f : Nat → Fe} (hk : Kp (· = G i) w w') (hr : RowAt w' (G i) m f) : OwnK w' B b n k m G C (fun r => if r = i then f else M r) := by
  refine ⟨h.top.kp hk (fun e => h.ne hi e.symm), h.cap, fun r hr' => ?_, h.inj, h.lo⟩
  by_cases e : r = i
  · simp only [e, if_true]; exact hr
  · simp only [e, if_false]; exact (h.rows r hr').kp hk (fun e' => e (h.inj r i hr' hi e'))
/-- two rows are exchanged -/
theorem swap (h : OwnK w B b n n m G C M) {i p : Nat} (hi : i < n) (hp : p < n) (hr : ∀ r, r < n → RowAt w' (G r) m (M' r))
    (ht : RowV w' 53 b n (fun r => if r = i then .slice (some ⟨G p, 0, none⟩) m (C p) else if r = p then .slice (some ⟨G i, 0, none⟩) m (C i) else .slice (some ⟨G r, 0, none⟩) m (C r))) :
    OwnK w' B b n n m (fun r => if r = i then G p else if r = p then G i else G r) (fun r => if r = i then C p else if r = p then C i else C r) (swp M' i p) := by
  refine ⟨ht.congr fun r hr' => ?_, fun r hr' => ?_, fun r hr' => ?_, fun r s hr' hs e => ?_, fun r hr' => ?_⟩
  · rw [if_pos hr']
    by_cases e : r = i
    · simp only [if_pos e]
    · by_cases e' : r = p
      · simp only [if_neg e, if_pos e']
      · simp only [if_neg e, if_neg e']
  · by_cases e : r = i
    · simp only [e, if_true]; exact h.cap p hp
    · by_cases e' : r = p
      · simp only [if_neg e, if_pos e']; exact h.cap i hi
      · simp only [if_neg e, if_neg e']; exact h.cap r hr'
  · unfold swp
    by_cases e : r = i
    · simp only [e, if_true]; exact hr p hp
    · by_cases e' : r = p
      · simp only [if_neg e, if_pos e']; exact hr i hi
      · simp only [if_neg e, if_neg e']; exact hr r hr'
  · by_cases e1 : r = i <;> by_cases e2 : s = i
    · omega
    · rw [if_pos e1, if_neg e2] at e
      by_cases e3 : s = p
      · rw [if_pos e3] at e
        have := h.inj p i hp hi e; omega
      · rw [if_neg e3] at e
        have := h.inj p s hp hs e; omega
    · rw [if_neg e1, if_pos e2] at e
      by_cases e3 : r = p
      · rw [if_pos e3] at e
        have := h.inj i p hi hp e; omega
      · rw [if_neg e3] at e
        have := h.inj r p hr' hp e; omega
    · rw [if_neg e1, if_neg e2] at e
      by_cases e3 : r = p <;> by_cases e4 : s = p
      · omega
      · rw [if_pos e3, if_neg e4] at e
        have := h.inj i s hi hs e; omega
      · rw [if_neg e3, if_pos e4] at e
        have := h.inj r i hr' hi e; omega
      · rw [if_neg e3, if_neg e4] at e
        exact h.inj r s hr' hs e
  · by_cases e : r = i
    · simp only [e, if_true]; exact h.lo p hp
    · by_cases e' : r = p
      · simp only [if_neg e, if_pos e']; exact h.lo i hi
      · simp only [if_neg e, if_neg e']; exact h.lo r hr'
end OwnK
end Go.Proofs.Ytjhbmijdpcbbiaa
