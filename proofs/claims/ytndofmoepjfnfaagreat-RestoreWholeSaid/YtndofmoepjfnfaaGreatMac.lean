/- Words for memory: a slice of bytes that reads as a row of elements, a slice of such slices that reads as a matrix, and rows that a call owns. No program. Words of 32 bits as the numbers of a uint32: bits, halves, what is turned round. No function of the program. Texts as lists of bytes: their parts, which are paths, and which lie within which. No program. Texts in memory: a string is a list of bytes. No function of the program. append of a source that may be nil, onto a row of the call's own. No function of the program. -/
import Derived.Test.YtndofmoepjfnfaaGreatMab
import Derived.WalkKit
import Derived.ProofKit
import Derived.Lib.Hide
import Derived.Deep.OwnRows
import Derived.Deep.Draws
import Derived.Test.YtndofmoepjfnfaaGreatRows
import Derived.Test.YtndofmoepjfnfaaGreatMaa
import Derived.Laws.BitsLemmas
import Derived.IntWalk
import Derived.Lib.SplitLaws
import Derived.Laws.OwnMore
import Derived.Laws.Concat
import Derived.Laws.Strings2
import Derived.Laws.NewBlocks
import Derived.Laws.AppendOwn
import Derived.Laws.AppendOwnNone
namespace Go.Proofs.YtndofmoepjfnfaaGreat
open Go.RowKit Mx

/-- an element as the number that lies in a cell -/
def fi (a : Fe) : Int := (a.nat : Int)
theorem fi_lo (a : Fe) : 0 ≤ fi a := Int.natCast_nonneg _
theorem fi_hi (a : Fe) : fi a < 256 := by have := a.nat_lt; unfold fi; omega
theorem fi_nat (a : Fe) : (fi a).toNat = a.nat := Int.toNat_natCast _
theorem fi_zero : fi 0 = 0 := rfl
theorem fi_one : fi 1 = 1 := rfl
theorem fi_eq {a b : Fe} (h : fi a = fi b) : a = b := Fe.ext (by have : (a.nat : Int) = (b.nat : Int) := h; omega)
theorem fi_eq_zero {a : Fe} : fi a = 0 ↔ a = 0 := ⟨fun h => fi_eq (h.trans fi_zero.symm), fun h => by rw [h, fi_zero]⟩

/-- the slice at A of n bytes reads as r, and lies in a block of G -/
def Rd (w : World) (A : Option Addr) (n : Nat) (r : Nat → Fe) (G : Nat → Prop) : Prop :=
  0 < n → ∃ b off, A = some ⟨b, off, none⟩ ∧ G b ∧ ∀ j, j < n → w.cell? ⟨b, off + j, none⟩ = some (.int .u8 (fi (r j)))
/-- the slice at A of n slices reads as the rows of M, row i of length L i, all in blocks of G -/
def RdM (w : World) (A : Option Addr) (n : Nat) (L : Nat → Nat) (M : Mat) (G : Nat → Prop) : Prop :=
  0 < n → ∃ b off, A = some ⟨b, off, none⟩ ∧ G b ∧ ∀ i, i < n → ∃ A' C', w.cell? ⟨b, off + i, none⟩ = some (.slice A' (L i) C') ∧ Rd w A' (L i) (M i) G
theorem Rd.empty (w : World) (A : Option Addr) (r : Nat → Fe) (G : Nat → Prop) : Rd w A 0 r G := fun h => absurd h (by omega)
theorem RdM.empty (w : World) (A : Option Addr) (L : Nat → Nat) (M : Mat) (G : Nat → Prop) : RdM w A 0 L M G := fun h => absurd h (by omega)
theorem Rd.keep {w w' : World} {A : Option Addr} {n : Nat} {r : Nat → Fe} {G : Nat → Prop} (h : Rd w A n r G) (hk : ∀ p v, G p.block → w.cell? p = some v → w'.cell? p = some v) : Rd w' A n r G := by
  intro hn
  obtain ⟨b, off, e, hg, hc⟩ := h hn
  exact ⟨b, off, e, hg, fun j hj => hk _ _ hg (hc j hj)⟩
theorem Rd.mono {w : World} {A : Option Addr} {n : Nat} {r : Nat → Fe} {G G' : Nat → Prop} (h : Rd w A n r G) (hg : ∀ b, G b → G' b) : Rd w A n r G' := by
  intro hn
  obtain ⟨b, off, e, hg', hc⟩ := h hn
  exact ⟨b, off, e, hg _ hg', hc⟩
theorem Rd.congr {w : World} {A : Option Addr} {n : Nat} {r s : Nat → Fe} {G : Nat → Prop} (h : Rd w A n r G) (he : ∀ j, j < n → r j = s j) : Rd w A n s G := by
  intro hn
  obtain ⟨b, off, e, hg', hc⟩ := h hn
  exact ⟨b, off, e, hg', fun j hj => by rw [← he j hj]; exact hc j hj⟩
theorem Rd.kp {w w' : World} {A : Option Addr} {n : Nat} {r : Nat → Fe} {G S : Nat → Prop} (h : Rd w A n r G) (hk : Kp S w w') (hs : ∀ b, G b → ¬ S b) : Rd w' A n r G :=
  h.keep fun _ _ hg hc => hk.cell hc (hs _ hg)
theorem Rd.below {w w' : World} {A : Option Addr} {n B : Nat} {r : Nat → Fe} (h : Rd w A n r (· < B)) (hb : Below B w w') : Rd w' A n r (· < B) :=
  h.keep fun _ _ hg hc => (hb.cell hg).trans hc
theorem RdM.keep {w w' : World} {A : Option Addr} {n : Nat} {L : Nat → Nat} {M : Mat} {G : Nat → Prop} (h : RdM w A n L M G) (hk : ∀ p v, G p.block → w.cell? p = some v → w'.cell? p = some v) : RdM w' A n L M G := by
  intro hn
  obtain ⟨b, off, e, hg, hc⟩ := h hn
  refine ⟨b, off, e, hg, fun i hi => ?_⟩
  obtain ⟨A', C', h1, h2⟩ := hc i hi
  exact ⟨A', C', hk _ _ hg h1, h2.keep hk⟩
theorem RdM.mono {w : World} {A : Option Addr} {n : Nat} {L : Nat → Nat} {M : Mat} {G G' : Nat → Prop} (h : RdM w A n L M G) (hg : ∀ b, G b → G' b) : RdM w A n L M G' := by
  intro hn
  obtain ⟨b, off, e, hg', hc⟩ := h hn
  refine ⟨b, off, e, hg _ hg', fun i hi => ?_⟩
  obtain ⟨A', C', h1, h2⟩ := hc i hi
  exact ⟨A', C', h1, h2.mono hg⟩
theorem RdM.congr {w : World} {A : Option Addr} {n : Nat} {L L' : Nat → Nat} {M M' : Mat} {G : Nat → Prop} (h : RdM w A n L M G) (hl : ∀ i, i < n → L i = L' i) (he : ∀ i, i < n → ∀ j, j < L i → M i j = M' i j) : RdM w A n L' M' G := by
  intro hn
  obtain ⟨b, off, e, hg', hc⟩ := h hn
  refine ⟨b, off, e, hg', fun i hi => ?_⟩
  obtain ⟨A', C', h1, h2⟩ := hc i hi
  rw [← hl i hi]
  exact ⟨A', C', h1, h2.congr (he i hi)⟩
theorem RdM.kp {w w' : World} {A : Option Addr} {n : Nat} {L : Nat → Nat} {M : Mat} {G S : Nat → Prop} (h : RdM w A n L M G) (hk : Kp S w w') (hs : ∀ b, G b → ¬ S b) : RdM w' A n L M G :=
  h.keep fun _ _ hg hc => hk.cell hc (hs _ hg)
theorem RdM.below {w w' : World} {A : Option Addr} {n B : Nat} {L : Nat → Nat} {M : Mat} (h : RdM w A n L M (· < B)) (hb : Below B w w') : RdM w' A n L M (· < B) :=
  h.keep fun _ _ hg hc => (hb.cell hg).trans hc
theorem Rd.old {w w' : World} {A : Option Addr} {n : Nat} {r : Nat → Fe} {G : Nat → Prop} (h : Rd w A n r G) (hb : Below w.heap.size w w') : Rd w' A n r G :=
  h.keep fun _ _ _ hc => (hb.cell (World.block_lt_of_cell? _ _ hc)).trans hc
theorem RdM.old {w w' : World} {A : Option Addr} {n : Nat} {L : Nat → Nat} {M : Mat} {G : Nat → Prop} (h : RdM w A n L M G) (hb : Below w.heap.size w w') : RdM w' A n L M G :=
  h.keep fun _ _ _ hc => (hb.cell (World.block_lt_of_cell? _ _ hc)).trans hc
/-- what reads lies in blocks that are there -/
theorem Rd.in_ {w : World} {A : Option Addr} {n : Nat} {r : Nat → Fe} {G : Nat → Prop} (h : Rd w A n r G) : Rd w A n r (· < w.heap.size) := by
  intro hn
  obtain ⟨b, off, e, _, hc⟩ := h hn
  exact ⟨b, off, e, World.block_lt_of_cell? _ _ (hc 0 hn), hc⟩
theorem RdM.in_ {w : World} {A : Option Addr} {n : Nat} {L : Nat → Nat} {M : Mat} {G : Nat → Prop} (h : RdM w A n L M G) : RdM w A n L M (· < w.heap.size) := by
  intro hn
  obtain ⟨b, off, e, _, hc⟩ := h hn
  refine ⟨b, off, e, ?_, fun i hi => ?_⟩
  · obtain ⟨_, _, h1, _⟩ := hc 0 hn
    exact World.block_lt_of_cell? _ _ h1
  · obtain ⟨A', C', h1, h2⟩ := hc i hi
    exact ⟨A', C', h1, h2.in_⟩
/-- a row of what reads as a matrix -/
theorem RdM.row {w : World} {A : Option Addr} {n : Nat} {L : Nat → Nat} {M : Mat} {G : Nat → Prop} (h : RdM w A n L M G) {i : Nat} (hi : i < n) :
    ∃ b off A' C', A = some ⟨b, off, none⟩ ∧ G b ∧ w.cell? ⟨b, off + i, none⟩ = some (.slice A' (L i) C') ∧ Rd w A' (L i) (M i) G := by
  obtain ⟨b, off, e, hg, hc⟩ := h (by omega)
  obtain ⟨A', C', h1, h2⟩ := hc i hi
  exact ⟨b, off, A', C', e, hg, h1, h2⟩
theorem Rd.at {w : World} {A : Option Addr} {n : Nat} {r : Nat → Fe} {G : Nat → Prop} (h : Rd w A n r G) {j : Nat} (hj : j < n) :
    ∃ b off, A = some ⟨b, off, none⟩ ∧ G b ∧ w.cell? ⟨b, off + j, none⟩ = some (.int .u8 (fi (r j))) := by
  obtain ⟨b, off, e, hg, hc⟩ := h (by omega)
  exact ⟨b, off, e, hg, hc j hj⟩


/-- block g is an own row of bytes whose first m are f -/
def RowAt (w : World) (g m : Nat) (f : Nat → Fe) : Prop := RowV w 5 g m (fun j => .int .u8 (fi (f j)))
namespace RowAt
variable {w w' : World} {g m : Nat} {f f' : Nat → Fe}
theorem cell (h : RowAt w g m f) {j : Nat} (hj : j < m) : w.cell? ⟨g, j, none⟩ = some (.int .u8 (fi (f j))) := RowV.cell h hj
theorem frozen (h : RowAt w g m f) (j : Nat) : w.frozen? ⟨g, j, none⟩ = false := RowV.frozen h j
theorem lt (h : RowAt w g m f) : g < w.heap.size := RowV.lt h
theorem congr (h : RowAt w g m f) (e : ∀ j, j < m → f j = f' j) : RowAt w g m f' := RowV.congr h fun j hj => by rw [e j hj]
theorem of_block (h : RowAt w g m f) (e : w'.heap[g]? = w.heap[g]?) : RowAt w' g m f := RowV.of_block h e
theorem kp {S : Nat → Prop} (h : RowAt w g m f) (hk : Kp S w w') (hs : ¬ S g) : RowAt w' g m f := RowV.kp h hk hs
theorem old (h : RowAt w g m f) (hb : Below w.heap.size w w') : RowAt w' g m f := RowV.old h hb
theorem set (h : RowAt w g m f) (j : Nat) (a : Fe) : RowAt (w.setCell ⟨g, j, none⟩ (.int .u8 (fi a))) g m (fun k => if k = j then a else f k) :=
  RowV.congr (RowV.set h j _) fun k _ => by by_cases e : k = j <;> simp [e]
theorem rd (h : RowAt w g m f) (G : Nat → Prop) (hg : G g) : Rd w (some ⟨g, 0, none⟩) m f G := fun _ => ⟨g, 0, rfl, hg, fun j hj => by rw [Nat.zero_add]; exact h.cell hj⟩
theorem made (w : World) (n : Nat) : RowAt (w.alloc (.cells (madeCells #[.int .u8 0] n) 5)) w.heap.size n (fun _ => 0) := RowV.made w _ _ n
end RowAt

/-- the matrix at block b, of n rows the first k laid: own rows of m elements, row i in block G i from B on, no two in one -/
structure OwnK (w : World) (B b n k m : Nat) (G C : Nat → Nat) (M : Mat) : Prop where
  top : RowV w 22 b n (fun i => if i < k then .slice (some ⟨G i, 0, none⟩) m (C i) else .slice none 0 0)
  cap : ∀ i, i < k → m ≤ C i
  rows : ∀ i, i < k → RowAt w (G i) m (M i)
  inj : ∀ i j, i < k → j < k → G i = G j → i = j
  lo : ∀ i, i < k → B ≤ G i
namespace OwnK
variable {w w' : World} {B b n k m : Nat} {G C : Nat → Nat} {M M' : Mat}
theorem ne (h : OwnK w B b n k m G C M) {i : Nat} (hi : i < k) : G i ≠ b := RowV.ne (h.rows i hi) h.top (by decide)
theorem rd (h : OwnK w B b n k m G C M) (hk : n ≤ k) : RdM w (some ⟨b, 0, none⟩) n (fun _ => m) M (fun x => x = b ∨ ∃ i, i < n ∧ x = G i) := by
  intro _
  refine ⟨b, 0, rfl, .inl rfl, fun i hi => ⟨some ⟨G i, 0, none⟩, C i, ?_, (h.rows i (by omega)).rd _ (.inr ⟨i, hi, rfl⟩)⟩⟩
  rw [Nat.zero_add, h.top.cell hi, if_pos (by omega)]
theorem rdAll (h : OwnK w B b n k m G C M) (hk : n ≤ k) : RdM w (some ⟨b, 0, none⟩) n (fun _ => m) M (· < w.heap.size) :=
  (h.rd hk).mono fun x hx => by
    rcases hx with rfl | ⟨i, hi, rfl⟩
    · exact h.top.lt
    · exact (h.rows i (by omega)).lt
theorem congr (h : OwnK w B b n k m G C M) (e : ∀ i, i < k → ∀ j, j < m → M i j = M' i j) : OwnK w B b n k m G C M' :=
  ⟨h.top, h.cap, fun i hi => (h.rows i hi).congr (e i hi), h.inj, h.lo⟩
theorem kp {S : Nat → Prop} (h : OwnK w B b n k m G C M) (hk : Kp S w w') (hb : ¬ S b) (hs : ∀ i, i < k → ¬ S (G i)) : OwnK w' B b n k m G C M :=
  ⟨h.top.kp hk hb, h.cap, fun i hi => (h.rows i hi).kp hk (hs i hi), h.inj, h.lo⟩
theorem down (h : OwnK w B b n k m G C M) {B' : Nat} (hB : B' ≤ B) : OwnK w B' b n k m G C M := ⟨h.top, h.cap, h.rows, h.inj, fun i hi => Nat.le_trans hB (h.lo i hi)⟩
theorem drew (h : OwnK w B b n k m G C M) : OwnK w.drew B b n k m G C M := ⟨h.top, h.cap, h.rows, h.inj, h.lo⟩
theorem old (h : OwnK w B b n k m G C M) (hb : Below w.heap.size w w') : OwnK w' B b n k m G C M :=
  ⟨h.top.old hb, h.cap, fun i hi => (h.rows i hi).old hb, h.inj, h.lo⟩
theorem start (w : World) (B n m : Nat) (G C : Nat → Nat) (M : Mat) : OwnK (w.alloc (.cells (madeCells #[.slice none 0 0] n) 22)) B w.heap.size n 0 m G C M :=
  ⟨(RowV.made w _ _ n).congr fun j _ => by rw [if_neg (by omega)], fun i hi => absurd hi (by omega), fun i hi => absurd hi (by omega), fun i j hi => absurd hi (by omega), fun i hi => absurd hi (by omega)⟩
/-- a new row is laid -/
theorem push (h : OwnK w B b n k m G C M) (hb : Below w.heap.size w w') {g c : Nat} {f : Nat → Fe} (hg : w.heap.size ≤ g) (hB : B ≤ w.heap.size) (hc : m ≤ c) (hr : RowAt w' g m f) :
    OwnK (w'.setCell ⟨b, k, none⟩ (.slice (some ⟨g, 0, none⟩) m c)) B b n (k + 1) m (fun i => if i = k then g else G i) (fun i => if i = k then c else C i) (fun i => if i = k then f else M i) := by
  have h' := h.old hb
  have hs : ∀ (x : Nat), x ≠ b → (w'.setCell ⟨b, k, none⟩ (.slice (some ⟨g, 0, none⟩) m c)).heap[x]? = w'.heap[x]? := fun x hx => Below.heap_setCell _ _ _ _ hx
  refine ⟨(h'.top.set k _).congr fun i _ => ?_, fun i hi => ?_, fun i hi => ?_, fun i j hi hj e => ?_, fun i hi => ?_⟩
  · by_cases e : i = k
    · simp [e]
    · by_cases e' : i < k
      · simp [e, e', show i < k + 1 by omega]
      · simp [e, e', show ¬ i < k + 1 by omega]
  · by_cases e : i = k
    · simp only [e, if_true]; exact hc
    · simp only [e, if_false]; exact h.cap i (by omega)
  · by_cases e : i = k
    · simp only [e, if_true]; exact hr.of_block (hs _ (by have := h.top.lt; omega))
    · simp only [e, if_false]; exact (h'.rows i (by omega)).of_block (hs _ (h'.ne (by omega)))
  · by_cases e1 : i = k <;> by_cases e2 : j = k
    · omega
    · simp only [e1, e2, if_true, if_false] at e
      have := (h.rows j (by omega)).lt
      omega
    · simp only [e1, e2, if_true, if_false] at e
      have := (h.rows i (by omega)).lt
      omega
    · simp only [e1, e2, if_false] at e
      exact h.inj i j (by omega) (by omega) e
  · by_cases e : i = k
    · simp only [e, if_true]; omega
    · simp only [e, if_false]; exact h.lo i (by omega)
/-- a row is turned -/
theorem turn (h : OwnK w B b n k m G C M) {i : Nat} (hi : i < k) {f : Nat → Fe} (hk : Kp (· = G i) w w') (hr : RowAt w' (G i) m f) : OwnK w' B b n k m G C (fun r => if r = i then f else M r) := by
  refine ⟨h.top.kp hk (fun e => h.ne hi e.symm), h.cap, fun r hr' => ?_, h.inj, h.lo⟩
  by_cases e : r = i
  · simp only [e, if_true]; exact hr
  · simp only [e, if_false]; exact (h.rows r hr').kp hk (fun e' => e (h.inj r i hr' hi e'))
/-- two rows are exchanged -/
theorem swap (h : OwnK w B b n n m G C M) {i p : Nat} (hi : i < n) (hp : p < n) (hr : ∀ r, r < n → RowAt w' (G r) m (M' r))
    (ht : RowV w' 22 b n (fun r => if r = i then .slice (some ⟨G p, 0, none⟩) m (C p) else if r = p then .slice (some ⟨G i, 0, none⟩) m (C i) else .slice (some ⟨G r, 0, none⟩) m (C r))) :
    OwnK w' B b n n m (fun r => if r = i then G p else if r = p then G i else G r) (fun r => if r = i then C p else if r = p then C i else C r) (swp M' i p) := by
  refine ⟨ht.congr fun r hr' => ?_, fun r hr' => ?_, fun r hr' => ?_, fun r s hr' hs e => ?_, fun r hr' => ?_⟩
  · rw [if_pos hr']
    by_cases e : r = i
    · simp only [if_pos e]
    · by_cases e' : r = p
      · simp only [if_neg e, if_pos e']
      · simp only [if_neg e, if_neg e']
  · by_cases e : r = i
    · simp only [e, if_true]; exact h.cap p hp
    · by_cases e' : r = p
      · simp only [if_neg e, if_pos e']; exact h.cap i hi
      · simp only [if_neg e, if_neg e']; exact h.cap r hr'
  · unfold swp
    by_cases e : r = i
    · simp only [e, if_true]; exact hr p hp
    · by_cases e' : r = p
      · simp only [if_neg e, if_pos e']; exact hr i hi
      · simp only [if_neg e, if_neg e']; exact hr r hr'
  · by_cases e1 : r = i <;> by_cases e2 : s = i
    · omega
    · rw [if_pos e1, if_neg e2] at e
      by_cases e3 : s = p
      · rw [if_pos e3] at e
        have := h.inj p i hp hi e; omega
      · rw [if_neg e3] at e
        have := h.inj p s hp hs e; omega
    · rw [if_neg e1, if_pos e2] at e
      by_cases e3 : r = p
      · rw [if_pos e3] at e
        have := h.inj i p hi hp e; omega
      · rw [if_neg e3] at e
        have := h.inj r p hr' hp e; omega
    · rw [if_neg e1, if_neg e2] at e
      by_cases e3 : r = p <;> by_cases e4 : s = p
      · omega
      · rw [if_pos e3, if_neg e4] at e
        have := h.inj i s hi hs e; omega
      · rw [if_neg e3, if_pos e4] at e
        have := h.inj r i hr' hi e; omega
      · rw [if_neg e3, if_neg e4] at e
        exact h.inj r s hr' hs e
  · by_cases e : r = i
    · simp only [e, if_true]; exact h.lo p hp
    · by_cases e' : r = p
      · simp only [if_neg e, if_pos e']; exact h.lo i hi
      · simp only [if_neg e, if_neg e']; exact h.lo r hr'
end OwnK
end Go.Proofs.YtndofmoepjfnfaaGreat
namespace Go.Proofs.YtndofmoepjfnfaaGreat
open Go.RowKit Mx

/-- a word as the number that a uint32 is -/
def bi (x : Cr.W) : Int := (x.toNat : Int)
theorem bi_lo (x : Cr.W) : 0 ≤ bi x := Int.natCast_nonneg _
theorem bi_hi (x : Cr.W) : bi x < 4294967296 := by have := x.isLt; unfold bi; omega
theorem ofInt_bi (x : Cr.W) : BitVec.ofInt 32 (bi x) = x := by
  unfold bi; rw [BitVec.ofInt_natCast]
  apply BitVec.eq_of_toNat_eq; rw [BitVec.toNat_ofNat]; exact Nat.mod_eq_of_lt x.isLt
theorem bi_inj {x y : Cr.W} (h : bi x = bi y) : x = y := by rw [← ofInt_bi x, h, ofInt_bi]
theorem bi_toNat (x : Cr.W) : (bi x).toNat = x.toNat := Int.toNat_natCast _
theorem wrap_bi (x : Cr.W) : IntKind.u32.wrap (x.toNat : Int) = bi x := by
  rw [IntKind.wrap_u32]; have := x.isLt; unfold bi; omega
theorem of_bi (n : Int) (h0 : 0 ≤ n) (h1 : n < 4294967296) : bi (BitVec.ofInt 32 n) = n := by
  obtain ⟨k, rfl⟩ := Int.eq_ofNat_of_zero_le h0
  unfold bi
  rw [BitVec.ofInt_natCast, BitVec.toNat_ofNat]
  omega
theorem xor_bi (x y : Cr.W) : bits BinOp.xor IntKind.u32 (bi x) (bi y) = bi (x ^^^ y) := by
  show IntKind.u32.wrap ((BitVec.ofInt 32 (bi x) ^^^ BitVec.ofInt 32 (bi y)).toNat : Int) = _
  rw [ofInt_bi, ofInt_bi, wrap_bi]
theorem and_bi (x y : Cr.W) : bits BinOp.and IntKind.u32 (bi x) (bi y) = bi (x &&& y) := by
  show IntKind.u32.wrap ((BitVec.ofInt 32 (bi x) &&& BitVec.ofInt 32 (bi y)).toNat : Int) = _
  rw [ofInt_bi, ofInt_bi, wrap_bi]
theorem bit_of (x : Cr.W) : bits BinOp.and IntKind.u32 (bi x) 1 = if x.getLsbD 0 = true then 1 else 0 := by
  have h : bits BinOp.and IntKind.u32 (bi x) (2 ^ 1 - 1) = bi x % 2 ^ 1 := bits_mask .u32 32 (by decide) (fun m h0 h1 => by rw [IntKind.wrap_u32]; omega) 1 (by decide) (bi x) (bi_lo x) (bi_hi x)
  have h2 : bits BinOp.and IntKind.u32 (bi x) 1 = bi x % (2 : Int) := h
  rw [h2]
  have : x.getLsbD 0 = decide (x.toNat % 2 = 1) := by
    unfold BitVec.getLsbD; rw [Nat.testBit_zero]
  rw [this]
  unfold bi
  by_cases e : x.toNat % 2 = 1
  · rw [if_pos (by simpa using e)]; omega
  · rw [if_neg (by simpa using e)]; omega
theorem half_bi (x : Cr.W) : bi x / (2 : Int) = bi (x >>> (1 : Nat)) := by
  unfold bi; rw [BitVec.toNat_ushiftRight, Nat.shiftRight_eq_div_pow]; omega
theorem poly_bi : (2197175160 : Int) = bi Cr.poly := by decide
theorem ones_bi : (4294967295 : Int) = bi (BitVec.allOnes 32) := by decide
theorem not_bi (x : Cr.W) : bits BinOp.xor IntKind.u32 (bi x) 4294967295 = bi (~~~x) := by
  rw [ones_bi, xor_bi, BitVec.xor_allOnes]
theorem not_bi' (x : Cr.W) : bits BinOp.xor IntKind.u32 4294967295 (bi x) = bi (~~~x) := by
  rw [ones_bi, xor_bi, BitVec.allOnes_xor]
theorem not_max (x : Cr.W) : bits BinOp.xor IntKind.u32 IntKind.u32.max (bi x) = bi (~~~x) := by
  rw [show IntKind.u32.max = 4294967295 by decide]; exact not_bi' x
theorem byte_bi (x : Cr.W) (a : Fe) : bits BinOp.xor IntKind.u32 (bi x) (fi a) = bi (x ^^^ BitVec.ofNat 32 a.nat) := by
  have h : fi a = bi (BitVec.ofNat 32 a.nat) := by
    have := a.nat_lt
    unfold fi bi; rw [BitVec.toNat_ofNat]; omega
  rw [h, xor_bi]
theorem step_even {x : Cr.W} (h : x.getLsbD 0 = false) : bi x / (2 : Int) = bi (Cr.step x) := by
  unfold Cr.step; rw [if_neg (by rw [h]; decide)]; exact half_bi x
theorem step_odd {x : Cr.W} (h : x.getLsbD 0 = true) : bits BinOp.xor IntKind.u32 (bi x / (2 : Int)) 2197175160 = bi (Cr.step x) := by
  unfold Cr.step; rw [if_pos h, half_bi, poly_bi, xor_bi]
theorem ret_u32 {a b : Int} (h : a = b) : Ending.returned (.int .u32 a) = .returned (.int .u32 b) := by rw [h]
theorem val_u32 {a b : Int} (h : a = b) : Value.int .u32 a = .int .u32 b := by rw [h]
/-- the sum s of what is ahead, gone on with the n bytes of r -/
def crc (s : Cr.W) (r : Nat → Fe) (n : Nat) : Cr.W := ~~~(Cr.ups (~~~s) (fun i => (r i).nat) n)
end Go.Proofs.YtndofmoepjfnfaaGreat
namespace Pt

abbrev Tx := List UInt8
/-- which bytes may stand in a part -/
def ok (c : UInt8) : Bool := (decide (97 ≤ c.toNat) && decide (c.toNat ≤ 122)) || (decide (48 ≤ c.toNat) && decide (c.toNat ≤ 57)) || decide (c.toNat = 46) || decide (c.toNat = 45) || decide (c.toNat = 95)
/-- which texts are parts -/
def part (p : Tx) : Bool := !(p == []) && !(p == [46]) && !(p == [46, 46]) && p.all ok
/-- what is behind p, cut at each sign -/
def cutW (p : Tx) : Tx → List Tx
  | [] => [p]
  | c :: l => if c = 47 then p :: cutW [] l else cutW (p ++ [c]) l
def cut (s : Tx) : List Tx := cutW [] s
def right (s : Tx) : Bool := decide (1 ≤ s.length) && decide (s.length ≤ 24) && (cut s).all part
def parts (s : Tx) : List Tx := if right s = true then cut s else []
def within (s d : Tx) : Bool := right s && right d && (s == d || (d ++ [47]).isPrefixOf s)
/-- parts with a sign between -/
def join : List Tx → Tx
  | [] => []
  | [p] => p
  | p :: q :: r => p ++ 47 :: join (q :: r)

theorem ok_sep : ok 47 = false := by decide
/-- a head with more ahead of it -/
def pre (v : Tx) : List Tx → List Tx
  | [] => [v]
  | p :: r => (v ++ p) :: r
theorem cutW_pre (v : Tx) : ∀ (l p : Tx), cutW (v ++ p) l = pre v (cutW p l)
  | [], p => rfl
  | c :: l, p => by
    unfold cutW
    by_cases h : c = 47
    · rw [if_pos h, if_pos h]; rfl
    · rw [if_neg h, if_neg h, List.append_assoc, cutW_pre v l]
theorem cutW_ne : ∀ (l p : Tx), cutW p l ≠ []
  | [], p => by simp [cutW]
  | c :: l, p => by
    unfold cutW
    split
    · simp
    · exact cutW_ne l _
theorem cut_ne (s : Tx) : cut s ≠ [] := cutW_ne s []
theorem cut_len (s : Tx) : 0 < (cut s).length := List.length_pos_iff.2 (cut_ne s)
theorem right_iff {s : Tx} : right s = true ↔ 1 ≤ s.length ∧ s.length ≤ 24 ∧ (cut s).all part = true := by
  unfold right
  simp only [Bool.and_eq_true, decide_eq_true_eq, and_assoc]
theorem right_false_of {s : Tx} (h : (cut s).all part = false) : right s = false := by
  cases e : right s with
  | false => rfl
  | true => rw [right_iff] at e; rw [e.2.2] at h; cases h
theorem parts_right {s : Tx} (h : right s = true) : parts s = cut s := if_pos h
theorem parts_wrong {s : Tx} (h : right s = false) : parts s = [] := if_neg (by rw [h]; simp)
theorem parts_len {s : Tx} : (0 < (parts s).length) ↔ right s = true := by
  unfold parts
  by_cases h : right s = true
  · rw [if_pos h]; exact ⟨fun _ => h, fun _ => cut_len s⟩
  · rw [if_neg h]; simp [h]
/-- a byte that may not be -/
theorem all_bad : ∀ (l p : Tx), p.all ok = false → (cutW p l).all part = false
  | [], p, h => by
    simp only [cutW, List.all_cons, List.all_nil, Bool.and_true]
    unfold part; rw [h]; simp
  | c :: l, p, h => by
    unfold cutW
    by_cases e : c = 47
    · rw [if_pos e, List.all_cons]
      have : part p = false := by unfold part; rw [h]; simp
      rw [this]; rfl
    · rw [if_neg e]
      exact all_bad l _ (by rw [List.all_append, h]; rfl)
theorem all_append_bad {a b : List Tx} (h : b.all part = false) : (a ++ b).all part = false := by rw [List.all_append, h]; simp

/- what strings.Split makes -/
open Go.Lib in
theorem index_cons (b : UInt8) (l : Tx) (h : b ≠ 47) : index (b :: l) [47] = if index l [47] == -1 then -1 else index l [47] + 1 := by
  have hp : ([47] : List UInt8).isPrefixOf (b :: l) = false := by simp [List.isPrefixOf, Ne.symm h]
  rw [index, hp]; simp
open Go.Lib in
theorem splitK_cons (b : UInt8) (l : Tx) (h : b ≠ 47) : ∀ k, splitK [47] 0 k (b :: l) = pre [b] (splitK [47] 0 k l)
  | 0 => rfl
  | k + 1 => by
    have hi := index_cons b l h
    unfold splitK
    by_cases e : (index l [47] == -1) = true
    · rw [hi, if_pos e, if_pos (by rfl), if_pos e]
      rfl
    · have hge := index_ge l [47]
      have hne : ¬ index l [47] = -1 := fun x => e (beq_iff_eq.2 x)
      obtain ⟨j, hj⟩ : ∃ j : Nat, index l [47] = j := ⟨(index l [47]).toNat, by omega⟩
      have e2 : ¬ ((((j : Int) + 1) == -1) = true) := fun x => by have := beq_iff_eq.1 x; omega
      have e3 : (((j : Int) + 1)).toNat = j + 1 := by omega
      rw [hi, if_neg e, if_neg (by rw [hj]; exact e2), if_neg e, hj, e3, Int.toNat_natCast]
      simp [pre]
open Go.Lib in
theorem split_cut : ∀ s : Tx, splitK [47] 0 (count s [47]) s = cut s
  | [] => by
    rw [count_miss (by simp [index])]; rfl
  | b :: l => by
    by_cases h : b = 47
    · subst h
      have hix : index (47 :: l) [47] = ((0 : Nat) : Int) := by rw [index]; simp [List.isPrefixOf]
      rw [count_cons_eq, Nat.add_comm 1, splitK, if_neg (by rw [hix]; decide), hix]
      show [] :: splitK [47] 0 (count l [47]) l = _
      rw [split_cut l]
      unfold cut
      rw [cutW, if_pos rfl]
    · rw [count_cons_ne b 47 l h, splitK_cons b l h, split_cut l]
      unfold cut
      rw [cutW, if_neg h, show ([] : Tx) ++ [b] = [b] ++ [] from rfl, cutW_pre]

/- parts joined again -/
theorem join_cons (p : Tx) {r : List Tx} (h : r ≠ []) : join (p :: r) = p ++ 47 :: join r := by
  cases r with
  | nil => exact absurd rfl h
  | cons q r => rfl
theorem join_cutW : ∀ (l p : Tx), join (cutW p l) = p ++ l
  | [], p => by simp [cutW, join]
  | c :: l, p => by
    unfold cutW
    by_cases e : c = 47
    · rw [if_pos e, join_cons _ (cutW_ne l []), join_cutW l [], e]; rfl
    · rw [if_neg e, join_cutW l]; simp
theorem join_cut (s : Tx) : join (cut s) = s := by unfold cut; rw [join_cutW]; rfl
theorem cutW_skip : ∀ (q p : Tx) (l : Tx), (∀ c ∈ q, c ≠ 47) → cutW p (q ++ l) = cutW (p ++ q) l
  | [], p, l, _ => by simp
  | c :: q, p, l, h => by
    rw [List.cons_append, cutW, if_neg (h c (List.mem_cons_self ..)), cutW_skip q _ l (fun x hx => h x (List.mem_cons_of_mem _ hx))]
    simp
theorem cut_join : ∀ (ps : List Tx), ps ≠ [] → (∀ p ∈ ps, ∀ c ∈ p, c ≠ 47) → cut (join ps) = ps
  | [], h, _ => absurd rfl h
  | [p], _, h => by
    show cutW [] p = [p]
    have := cutW_skip p [] [] (h p (List.mem_cons_self ..))
    rw [List.append_nil] at this
    rw [this]; rfl
  | p :: q :: r, _, h => by
    rw [join_cons p (by simp)]
    show cutW [] (p ++ 47 :: join (q :: r)) = _
    rw [cutW_skip p [] _ (h p (List.mem_cons_self ..)), cutW, if_pos rfl, List.nil_append]
    show p :: cut (join (q :: r)) = _
    rw [cut_join (q :: r) (by simp) (fun x hx => h x (List.mem_cons_of_mem _ hx))]
theorem part_clean {p : Tx} (h : part p = true) : ∀ c ∈ p, c ≠ 47 := by
  unfold part at h
  simp only [Bool.and_eq_true, List.all_eq_true] at h
  intro c hc e
  have := h.2 c hc
  rw [e, ok_sep] at this
  cases this
/-- one more part behind -/
theorem join_snoc : ∀ (ps : List Tx) (p : Tx), ps ≠ [] → join (ps ++ [p]) = join ps ++ 47 :: p
  | [], _, h => absurd rfl h
  | [q], p, _ => rfl
  | q :: r :: t, p, _ => by
    rw [List.cons_append, join_cons q (by simp), join_snoc (r :: t) p (by simp), join_cons q (by simp)]
    simp
theorem join_append : ∀ (a b : List Tx), a ≠ [] → b ≠ [] → join (a ++ b) = join a ++ 47 :: join b
  | [], _, h, _ => absurd rfl h
  | [p], b, _, h => by rw [List.singleton_append, join_cons p h]; rfl
  | p :: q :: r, b, _, h => by
    rw [List.cons_append, join_cons p (by simp), join_append (q :: r) b (by simp) h, join_cons p (by simp)]
    simp
theorem take_ne {l : List Tx} {k : Nat} (h0 : 0 < k) (h : 0 < l.length) : l.take k ≠ [] := List.length_pos_iff.1 (by rw [List.length_take]; omega)
theorem drop_ne {l : List Tx} {k : Nat} (h : k < l.length) : l.drop k ≠ [] := List.length_pos_iff.1 (by rw [List.length_drop]; omega)
/-- of a path its first parts, joined -/
def upto (s : Tx) (k : Nat) : Tx := join ((cut s).take k)
theorem upto_zero (s : Tx) : upto s 0 = [] := rfl
theorem upto_all (s : Tx) : upto s (cut s).length = s := by unfold upto; rw [List.take_length, join_cut]
theorem upto_succ (s : Tx) (k : Nat) (h : k < (cut s).length) : upto s (k + 1) = (if 0 < k then upto s k ++ [47] else upto s k) ++ (cut s)[k] := by
  unfold upto
  rw [List.take_succ_eq_append_getElem h]
  by_cases e : 0 < k
  · rw [if_pos e, join_snoc _ _ (take_ne e (by omega))]
    simp
  · obtain rfl : k = 0 := by omega
    rw [if_neg e]; rfl
theorem upto_cut {s : Tx} (hs : right s = true) {k : Nat} (h0 : 0 < k) (h : k ≤ (cut s).length) : cut (upto s k) = (cut s).take k := by
  refine cut_join _ (take_ne h0 (by omega)) fun p hp => ?_
  · have := (right_iff.1 hs).2.2
    rw [List.all_eq_true] at this
    exact part_clean (this p (List.mem_of_mem_take hp))
theorem upto_rest {s : Tx} {k : Nat} (h0 : 0 < k) (h : k < (cut s).length) : ∃ t, s = upto s k ++ 47 :: t := by
  have e : join ((cut s).take k ++ (cut s).drop k) = s := by rw [List.take_append_drop, join_cut]
  rw [join_append _ _ (take_ne h0 (by omega)) (drop_ne h)] at e
  exact ⟨_, e.symm⟩
theorem upto_len {s : Tx} {k : Nat} (h0 : 0 < k) (h : k ≤ (cut s).length) : (upto s k).length ≤ s.length := by
  by_cases e : k = (cut s).length
  · rw [e, upto_all]; exact Nat.le_refl _
  · obtain ⟨t, ht⟩ := upto_rest h0 (by omega : k < (cut s).length)
    have := congrArg List.length ht
    rw [List.length_append] at this
    omega
theorem upto_right {s : Tx} (hs : right s = true) {k : Nat} (h0 : 0 < k) (h : k ≤ (cut s).length) : right (upto s k) = true := by
  have hc := upto_cut hs h0 h
  have hr := right_iff.1 hs
  have hl := upto_len h0 h
  rw [right_iff]
  have ha : (cut (upto s k)).all part = true := by
    rw [hc, List.all_eq_true]
    intro p hp
    exact List.all_eq_true.1 hr.2.2 p (List.mem_of_mem_take hp)
  refine ⟨?_, by omega, ha⟩
  rcases Nat.eq_zero_or_pos (upto s k).length with e | e
  · rw [List.length_eq_zero_iff.1 e] at ha
    exact absurd ha (by decide)
  · exact e
theorem upto_within {s : Tx} (hs : right s = true) {k : Nat} (h0 : 0 < k) (h : k ≤ (cut s).length) : within s (upto s k) = true := by
  unfold within
  rw [hs, upto_right hs h0 h]
  by_cases e : k = (cut s).length
  · rw [e, upto_all]; simp
  · obtain ⟨t, ht⟩ := upto_rest h0 (by omega : k < (cut s).length)
    have : (upto s k ++ [47]).isPrefixOf s = true := by
      rw [List.isPrefixOf_iff_prefix]
      exact ⟨t, by rw [List.append_assoc]; exact ht.symm⟩
    rw [this]; simp
theorem within_upto {s : Tx} (hs : right s = true) {k : Nat} (h0 : 0 < k) (h : k ≤ (cut s).length) : within (upto s k) s = (upto s k == s) := by
  unfold within
  rw [hs, upto_right hs h0 h]
  have hl := upto_len h0 h
  have : (s ++ [47]).isPrefixOf (upto s k) = false := by
    cases e : (s ++ [47]).isPrefixOf (upto s k) with
    | false => rfl
    | true =>
      have := (List.isPrefixOf_iff_prefix.1 e).length_le
      rw [List.length_append] at this
      simp at this; omega
  rw [this]; simp
end Pt
namespace Go.Proofs.YtndofmoepjfnfaaGreat
open Go.RowKit
open Pt (Tx)

/-- a text as a string -/
def tx (l : Tx) : ByteArray := ⟨l.toArray⟩
theorem tx_toList (l : Tx) : (tx l).toList = l := ByteArray.toList_mk l
theorem tx_data (l : Tx) : (tx l).data.toList = l := by simp [tx]
theorem tx_size (l : Tx) : (tx l).size = l.length := by simp [tx, ByteArray.size]
theorem tx_eta (s : ByteArray) : tx s.data.toList = s := by apply ByteArray.ext; simp [tx]
theorem tx_of {s : ByteArray} {l : Tx} (h : s.data.toList = l) : s = tx l := by rw [← h, tx_eta]
theorem tx_append (a b : Tx) : tx a ++ tx b = tx (a ++ b) := ByteArray.mk_append_mk a b
theorem tx_extract (l : Tx) (i j : Nat) : (tx l).extract i j = tx ((l.drop i).take (j - i)) := ByteArray.extract_mk l i j
theorem tx_get (l : Tx) (k : Nat) (h : k < (tx l).size) (h' : k < l.length) : (tx l)[k]'h = l[k] := by
  show (tx l).data[k]'_ = _
  simp [tx]
theorem tx_inj {a b : Tx} (h : tx a = tx b) : a = b := by rw [← tx_toList a, h, tx_toList]
end Go.Proofs.YtndofmoepjfnfaaGreat
namespace Go.Proofs.YtndofmoepjfnfaaGreat

theorem grown_refl (w : World) (o : Option Nat) : w.grownBy w o := ⟨rfl, rfl, rfl, Nat.le_refl _, fun _ _ _ => rfl⟩
/-- append of what may be nil -/
theorem wpList_append_opt {P : Program} (w : World) {ops : Array Oper} {rest : List Oper} {o : Oper} {a : Act} {Q : Exit → Act → World → Prop} (hgd : o.guard = none) (s x : Operand) (t : TypeId)
    (ho : o.op = .call { callee := .builtin .append, args := #[s, x], argTypes := #[t, t] })
    (base : Nat) (e : TypeId) (i : TypeInfo) (z : Value) (bytes : Nat) (ht : P.underlying t = some (.slice e)) (hi : P.info? e = some i) (hz : i.zero = some z)
    (hsize : i.size = 1) (hby : i.bytes = bytes) (hzs : z.cells.size = 1)
    (v : Value) (n : Nat) (xs : List Value) (hs : a.eval s = v) (hown : w.ownsRow base e 1 v n xs)
    (A : Option Addr) (m c : Nat) (news : List Value) (hx : a.eval x = .slice A m c) (hA : A = none → m = 0 ∧ c = 0) (hl : news.length = m) (hnews : ∀ ad, A = some ad → ∀ j u, news[j]? = some u → w.cell? (ad.add j) = some u) (h1 : ∀ u ∈ news, u.oneCell' = true)
    (h63 : n + m ≤ maxLen) (hbytes : (n + m) * bytes ≤ 140737488355328) (hbase : base ≤ w.heap.size)
    (h : ∀ v' w', w'.ownsRow base e 1 v' (n + m) (xs ++ news) → w.grownBy w' v.ownBlock → wpList P ops Q rest (a.put o.dst v') w') : wpList P ops Q (o :: rest) a w := by
  cases A with
  | none =>
    obtain ⟨rfl, rfl⟩ := hA rfl
    have hn : news = [] := List.length_eq_zero_iff.1 hl
    subst hn
    refine wpList_append_own_none hgd s x t ho base e i 1 ht hi v n xs hs hown hx (h v w ?_ (grown_refl w _))
    rw [List.append_nil]; exact hown
  | some ad =>
    exact wpList_append_own w hgd s x t ho base e i z 1 bytes ht hi hz hsize hby hzs (by decide) v n xs hs hown ad m c news hx (by rw [hl, Nat.mul_one]) (hnews ad rfl) h1 h63 hbytes hbase (fun v' w' h2 h3 _ => h v' w' h2 h3)
end Go.Proofs.YtndofmoepjfnfaaGreat
