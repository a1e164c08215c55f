/- Plain mathematics: two matrices side by side, and the way of Gauss and Jordan on them. Words for matrices in memory and for what calls answer, and the answers as functions of what was given. No function of the program. One bit of a byte that is turned. No function of the program. A tape that a law of chapter 16 makes: blocks appended, and a byte of one turned. No function of the program. -/
import Derived.Test.YtnbfkihgloipiaaMa
import Derived.Test.YtnbfkihgloipiaaMr
import Derived.Test.YtnbfkihgloipiaaMb
import Derived.Test.YtnbfkihgloipiaaMxZeros
import Derived.Deep.QuietTactic
import Derived.BigQuiet
import Derived.StillTailTactics
import Derived.Handy
import Derived.OwnWalk
import Derived.Lib.SliceRun
import Derived.Laws.BytesString
import Derived.Laws.Cells
import Derived.Test.YtnbfkihgloipiaaMc
import Derived.Test.YtnbfkihgloipiaaMk
import Derived.Deep.AppendLies
namespace Go.Proofs.Ytnbfkihgloipiaa.Mx

/-- R and V side by side -/
def aug (n : Nat) (R V : Mat) : Mat := fun r c => if c < n then R r c else V r (c - n)
theorem aug_lo {n : Nat} {R V : Mat} {r c : Nat} (h : c < n) : aug n R V r c = R r c := if_pos h
theorem pvt_congr {R R' : Mat} {i : Nat} (h : ∀ r, R r i = R' r i) : ∀ f k, pvt R i f k = pvt R' i f k := by
  intro f
  induction f with
  | zero => intro k; rfl
  | succ f ih => intro k; simp only [pvt, h k, ih]
theorem rnd_eq (R A : Mat) (i p r c : Nat) : rnd R A i p r c = if r = i then inv (R p i) * A p c else (if r = p then A i c else A r c) + (if r = p then R i i else R r i) * (inv (R p i) * A p c) := by
  unfold rnd elm facs scaleOf scl swp
  by_cases e : r = i
  · simp only [e, if_true]
  · simp only [if_neg e, if_true]
/-- one round on both is one round on each -/
theorem aug_rnd {n : Nat} {R V : Mat} {i p : Nat} (hi : i < n) : rnd (aug n R V) (aug n R V) i p = aug n (rnd R R i p) (rnd R V i p) := by
  funext r c
  by_cases h : c < n
  · simp only [rnd_eq, aug, if_pos h, if_pos hi]
  · simp only [rnd_eq, aug, if_neg h, if_pos hi]
/-- a row is scaled ahead of being exchanged -/
theorem swp_scl {A : Mat} {i p : Nat} {s : Fe} : swp (fun r => if r = p then (fun c => s * A p c) else A r) i p = scl (swp A i p) i s := by
  funext r c
  unfold swp scl
  by_cases e : r = i
  · simp only [if_pos e, if_true]
  · simp only [if_neg e]
    by_cases e' : r = p
    · have : ¬ i = p := fun h => e (by rw [e', ← h])
      simp only [if_pos e', if_neg this]
    · simp only [if_neg e']
end Go.Proofs.Ytnbfkihgloipiaa.Mx
namespace Go.Proofs.Ytnbfkihgloipiaa
open Go.RowKit Mx


theorem gmul_fi (a b : Fe) : gmul (fi a) (fi b) = fi (a * b) := by
  unfold gmul; rw [fi_nat, fi_nat]; rfl
theorem gadd_fi (a b : Fe) : gadd (fi a) (fi b) = fi (a + b) := by
  unfold gadd; rw [fi_nat, fi_nat]; rfl
theorem ginv_fi (a : Fe) : ginv (fi a) = fi (inv a) := by
  unfold ginv fi; rw [Int.toNat_natCast, nat_inv]
theorem xor_fi (a b : Fe) : bits BinOp.xor IntKind.u8 (fi a) (fi b) = fi (a + b) := by
  unfold fi; rw [bits_xor_u8 _ _ a.nat_lt b.nat_lt, nat_add]
/-- may such rows be a matrix? -/
def rightB (n : Nat) (L : Nat → Nat) : Bool := decide (1 ≤ n ∧ n ≤ 255 ∧ 1 ≤ L 0 ∧ L 0 ≤ 255 ∧ ∀ i, i < n → L i = L 0)
theorem rightB_true {n : Nat} {L : Nat → Nat} : rightB n L = true ↔ 1 ≤ n ∧ n ≤ 255 ∧ 1 ≤ L 0 ∧ L 0 ≤ 255 ∧ ∀ i, i < n → L i = L 0 := decide_eq_true_iff
theorem rightB_false {n : Nat} {L : Nat → Nat} (h : ¬ (1 ≤ n ∧ n ≤ 255 ∧ 1 ≤ L 0 ∧ L 0 ≤ 255 ∧ ∀ i, i < n → L i = L 0)) : rightB n L = false := decide_eq_false h
def SomeBool (w : World) (e : Ending) (w' : World) : Prop := ∃ b : Bool, e = .returned (.bool b) ∧ w = w'
theorem upTo_step {f h : Nat → Fe} {k j : Nat} : (if j = k then h k else if j < k then h j else f j) = if j < k + 1 then h j else f j := by
  by_cases e : j = k
  · subst e; rw [if_pos rfl, if_pos (by omega)]
  · rw [if_neg e]
    by_cases e' : j < k
    · rw [if_pos e', if_pos (by omega)]
    · rw [if_neg e', if_neg (by omega)]
def pivI (n : Nat) (M : Mat) (i : Nat) : Int := if pvt M i (n - i) i < n then ((pvt M i (n - i) i : Nat) : Int) else -1
theorem pivI_at {n : Nat} {M : Mat} {i k : Nat} (hk : k < n) (h : pvt M i (n - i) i = k) : pivI n M i = (k : Int) := by
  unfold pivI; rw [h, if_pos hk]
theorem pivI_none {n : Nat} {M : Mat} {i : Nat} (h : ¬ pvt M i (n - i) i < n) : pivI n M i = -1 := by
  unfold pivI; rw [if_neg h]
theorem pvt_here {R : Mat} {i f k : Nat} (h : R k i ≠ 0) : pvt R i (f + 1) k = k := by simp only [pvt, if_neg h]
theorem pvt_next {R : Mat} {i f k : Nat} (h : R k i = 0) : pvt R i (f + 1) k = pvt R i f (k + 1) := by simp only [pvt, if_pos h]

theorem infoByte : (Try.prog.info? 5).map (fun i => (i.zero, i.size, i.bytes)) = some (some (.int .u8 0), 1, 1) := by kernel_rfl
theorem infoRow : (Try.prog.info? 36).map (fun i => (i.zero, i.size, i.bytes)) = some (some (.slice none 0 0), 1, 24) := by kernel_rfl
/-- a new row of n elements r -/
def FreshRow (n : Nat) (r : Nat → Fe) (w : World) (e : Ending) (w' : World) : Prop :=
  ∃ g C, e = .returned (.slice (some ⟨g, 0, none⟩) n C) ∧ w.heap.size ≤ g ∧ n ≤ C ∧ RowAt w' g n r ∧ Below w.heap.size w w'
def cellsOf (n : Nat) (r : Nat → Fe) : List Value := (List.range n).map fun j => .int .u8 (fi (r j))
theorem cellsOf_len (n : Nat) (r : Nat → Fe) : (cellsOf n r).length = n := by simp [cellsOf]
theorem cellsOf_get {n : Nat} {r : Nat → Fe} {j : Nat} (hj : j < n) : (cellsOf n r)[j]? = some (.int .u8 (fi (r j))) := by simp [cellsOf, hj]
theorem cellsOf_some {n : Nat} {r : Nat → Fe} {j : Nat} {u : Value} (h : (cellsOf n r)[j]? = some u) : j < n ∧ u = .int .u8 (fi (r j)) := by
  have hj : j < n := by
    rcases Nat.lt_or_ge j n with h' | h'
    · exact h'
    · rw [List.getElem?_eq_none (by rw [cellsOf_len]; exact h')] at h; cases h
  rw [cellsOf_get hj] at h
  exact ⟨hj, (Option.some.inj h).symm⟩
theorem add_at (b off j : Nat) : (⟨b, off, none⟩ : Addr).add j = ⟨b, off + j, none⟩ := by
  unfold Addr.add
  by_cases h : j = 0 <;> simp [h]
theorem cellsOf_one {n : Nat} {r : Nat → Fe} : ∀ u ∈ cellsOf n r, u.oneCell' = true := by
  intro u hu
  simp only [cellsOf, List.mem_map] at hu
  obtain ⟨j, _, rfl⟩ := hu
  rfl
theorem Rd.cells {w : World} {n : Nat} {r : Nat → Fe} {b off : Nat} (hc : ∀ j, j < n → w.cell? ⟨b, off + j, none⟩ = some (.int .u8 (fi (r j)))) : ∀ j u, (cellsOf n r)[j]? = some u → w.cell? ((⟨b, off, none⟩ : Addr).add j) = some u := by
  intro j u hu
  obtain ⟨hj, rfl⟩ := cellsOf_some hu
  rw [add_at]; exact hc j hj
theorem RowAt.of_owns {w : World} {base n : Nat} {r : Nat → Fe} {v : Value} (h : w.ownsRow base 5 1 v n (cellsOf n r)) (hn : 0 < n) :
    ∃ g C, v = .slice (some ⟨g, 0, none⟩) n C ∧ base ≤ g ∧ n ≤ C ∧ RowAt w g n r := by
  obtain ⟨g, C, h1, h2, h3, h4⟩ := RowV.of_owns h hn
  exact ⟨g, C, h1, h2, h3, RowV.congr h4 fun j hj => by rw [List.getD_eq_getElem?_getD, cellsOf_get hj]; rfl⟩
/-- a new matrix of n rows of m elements -/
def FreshMat (n m : Nat) (M : Mat) (w : World) (e : Ending) (w' : World) : Prop :=
  ∃ b G C, e = .returned (.slice (some ⟨b, 0, none⟩) n n) ∧ w.heap.size ≤ b ∧ OwnK w' w.heap.size b n n m G C M ∧ Below w.heap.size w w'

/-- the rows ahead of k are cleared -/
def elmK (k : Nat) (A : Mat) (i : Nat) (f : Nat → Fe) : Mat := fun r c => if r < k ∧ r ≠ i then A r c + f r * A i c else A r c
/-- what clearColumn does to A, as R tells it -/
def clr (R A : Mat) (i : Nat) : Mat := elm (scl A i (inv (R i i))) i (fun r => scl R i (inv (R i i)) r i)
theorem clr_swp (R A : Mat) (i p : Nat) : clr (swp R i p) (swp A i p) i = rnd R A i p := by
  have : swp R i p i i = R p i := if_pos rfl
  unfold clr rnd facs scaleOf
  rw [this]
theorem elmK_zero (A : Mat) (i : Nat) (f : Nat → Fe) : elmK 0 A i f = A := by
  funext r c
  exact if_neg (fun h => absurd h.1 (by omega))
theorem elmK_self (k : Nat) (A : Mat) (i : Nat) (f : Nat → Fe) : elmK k A i f i = A i := by
  funext c
  exact if_neg (fun h => h.2 rfl)
theorem elmK_here (k : Nat) (A : Mat) (i : Nat) (f : Nat → Fe) : elmK k A i f k = A k := by
  funext c
  exact if_neg (fun h => absurd h.1 (by omega))
theorem elmK_skip (A : Mat) (i : Nat) (f : Nat → Fe) : elmK (i + 1) A i f = elmK i A i f := by
  funext r c
  unfold elmK
  by_cases e : r < i
  · rw [if_pos ⟨by omega, by omega⟩, if_pos ⟨e, by omega⟩]
  · rw [if_neg (by omega), if_neg (by omega)]
theorem elmK_step {k : Nat} (A : Mat) {i : Nat} (hk : k ≠ i) (f : Nat → Fe) {a : Fe} (ha : f k = a) : (fun r => if r = k then (fun c => A k c + a * A i c) else elmK k A i f r) = elmK (k + 1) A i f := by
  subst ha
  funext r c
  unfold elmK
  by_cases e : r = k
  · subst e
    rw [if_pos rfl, if_pos ⟨by omega, hk⟩]
  · rw [if_neg e]
    by_cases e' : r < k ∧ r ≠ i
    · rw [if_pos e', if_pos ⟨by omega, e'.2⟩]
    · rw [if_neg e', if_neg (by omega)]
theorem elmK_all {n : Nat} (A : Mat) (i : Nat) (f : Nat → Fe) {r : Nat} (hr : r < n) (c : Nat) : elmK n A i f r c = elm A i f r c := by
  unfold elmK elm
  by_cases e : r = i
  · rw [if_neg (fun h => h.2 e), if_pos e, e]
  · rw [if_pos ⟨hr, e⟩, if_neg e]
/-- two matrices of a call's own, apart -/
structure Two (w : World) (B b b' n : Nat) (G C G' C' : Nat → Nat) (R V : Mat) : Prop where
  r : OwnK w B b n n n G C R
  v : OwnK w B b' n n n G' C' V
  bb : b ≠ b'
  gg : ∀ i j, i < n → j < n → G i ≠ G' j
namespace Two
variable {w w' : World} {B b b' n : Nat} {G C G' C' : Nat → Nat} {R V : Mat}
theorem flip (h : Two w B b b' n G C G' C' R V) : Two w B b' b n G' C' G C V R := ⟨h.v, h.r, fun e => h.bb e.symm, fun i j hi hj e => h.gg j i hj hi e.symm⟩
theorem turnR (h : Two w B b b' n G C G' C' R V) {i : Nat} (hi : i < n) {f : Nat → Fe} (hk : Kp (· = G i) w w') (hr : RowAt w' (G i) n f) : Two w' B b b' n G C G' C' (fun r => if r = i then f else R r) V :=
  ⟨h.r.turn hi hk hr, h.v.kp hk (fun e => RowV.ne (h.r.rows i hi) h.v.top (by decide) e.symm) (fun j hj e => h.gg i j hi hj e.symm), h.bb, h.gg⟩
theorem turnV (h : Two w B b b' n G C G' C' R V) {i : Nat} (hi : i < n) {f : Nat → Fe} (hk : Kp (· = G' i) w w') (hr : RowAt w' (G' i) n f) : Two w' B b b' n G C G' C' R (fun r => if r = i then f else V r) :=
  (h.flip.turnR hi hk hr).flip
theorem drew (h : Two w B b b' n G C G' C' R V) : Two w.drew B b b' n G C G' C' R V := ⟨h.r.drew, h.v.drew, h.bb, h.gg⟩
theorem congrs {R' V' : Mat} (h : Two w B b b' n G C G' C' R V) (hR : ∀ i, i < n → ∀ j, j < n → R i j = R' i j) (hV : ∀ i, i < n → ∀ j, j < n → V i j = V' i j) : Two w B b b' n G C G' C' R' V' :=
  ⟨h.r.congr hR, h.v.congr hV, h.bb, h.gg⟩
theorem cellR (h : Two w B b b' n G C G' C' R V) {i : Nat} (hi : i < n) : w.cell? ⟨b, i, none⟩ = some (.slice (some ⟨G i, 0, none⟩) n (C i)) := by
  rw [h.r.top.cell hi, if_pos hi]
theorem cellV (h : Two w B b b' n G C G' C' R V) {i : Nat} (hi : i < n) : w.cell? ⟨b', i, none⟩ = some (.slice (some ⟨G' i, 0, none⟩) n (C' i)) := by
  rw [h.v.top.cell hi, if_pos hi]
/-- two rows of the first are exchanged -/
theorem swapR (h : Two w B b b' n G C G' C' R V) {i p : Nat} (hi : i < n) (hp : p < n) :
    Two ((w.setCell ⟨b, i, none⟩ (.slice (some ⟨G p, 0, none⟩) n (C p))).setCell ⟨b, p, none⟩ (.slice (some ⟨G i, 0, none⟩) n (C i))).drew B b b' n
      (fun r => if r = i then G p else if r = p then G i else G r) (fun r => if r = i then C p else if r = p then C i else C r) G' C' (swp R i p) V := by
  have hk : Kp (· = b) w ((w.setCell ⟨b, i, none⟩ (.slice (some ⟨G p, 0, none⟩) n (C p))).setCell ⟨b, p, none⟩ (.slice (some ⟨G i, 0, none⟩) n (C i))).drew :=
    (((Kp.refl (· = b) w).setCell (p := ⟨b, i, none⟩) rfl _).setCell (p := ⟨b, p, none⟩) rfl _).drew
  have hv : ∀ j, j < n → G' j ≠ b := fun j hj => RowV.ne (h.v.rows j hj) h.r.top (by decide)
  refine ⟨h.r.swap hi hp (fun r hr => (h.r.rows r hr).kp hk (h.r.ne hr)) ?_, h.v.kp hk (fun e => h.bb e.symm) hv, h.bb, fun r j hr hj => ?_⟩
  · refine RowV.congr (((h.r.top.set i _).set p _)) fun r hr => ?_
    by_cases e1 : r = i <;> by_cases e2 : r = p
    · subst e1; subst e2; simp
    · simp only [if_pos e1, if_neg e2]
    · simp only [if_neg e1, if_pos e2]
    · simp only [if_neg e1, if_neg e2, if_pos hr]
  · by_cases e1 : r = i
    · simp only [if_pos e1]; exact h.gg p j hp hj
    · by_cases e2 : r = p
      · simp only [if_neg e1, if_pos e2]; exact h.gg i j hi hj
      · simp only [if_neg e1, if_neg e2]; exact h.gg r j hr hj
theorem swapV (h : Two w B b b' n G C G' C' R V) {i p : Nat} (hi : i < n) (hp : p < n) :
    Two ((w.setCell ⟨b', i, none⟩ (.slice (some ⟨G' p, 0, none⟩) n (C' p))).setCell ⟨b', p, none⟩ (.slice (some ⟨G' i, 0, none⟩) n (C' i))).drew B b b' n
      G C (fun r => if r = i then G' p else if r = p then G' i else G' r) (fun r => if r = i then C' p else if r = p then C' i else C' r) R (swp V i p) :=
  (h.flip.swapR hi hp).flip
end Two
/-- the blocks of the rows of both -/
def Both (n : Nat) (G G' : Nat → Nat) : Nat → Prop := fun x => (∃ i, i < n ∧ x = G i) ∨ ∃ i, i < n ∧ x = G' i
theorem scl_row (A : Mat) (i : Nat) (s : Fe) : (fun r => if r = i then (fun c => s * A i c) else A r) = scl A i s := by
  funext r c
  unfold scl
  by_cases e : r = i
  · rw [if_pos e, if_pos e]
  · rw [if_neg e, if_neg e]
/-- a matrix, and an error's number -/
def ResM (code : Int) (n m : Nat) (M : Mat) (w : World) (e : Ending) (w' : World) : Prop :=
  ∃ A C, e = .returned (.tuple #[.slice A n C, .int .i64 code]) ∧ RdM w' A n (fun _ => m) M (· < w'.heap.size) ∧ Below w.heap.size w w'
/-- what the way of Gauss and Jordan comes to -/
def InvRes (n : Nat) (M : Mat) (w : World) (e : Ending) (w' : World) : Prop :=
  match gjs n M n with
  | none => ResM 12 0 0 one w e w'
  | some (_, V) => ResM 0 n n V w e w'
theorem InvRes.even {n : Nat} {M : Mat} {w : World} {e : Ending} {w' : World} (h : gjs n M n = none) (hr : ResM 12 0 0 one w e w') : InvRes n M w e w' := by
  unfold InvRes; rw [h]; exact hr
theorem InvRes.ok {n : Nat} {M R V : Mat} {w : World} {e : Ending} {w' : World} (h : gjs n M n = some (R, V)) (hr : ResM 0 n n V w e w') : InvRes n M w e w' := by
  unfold InvRes; rw [h]; exact hr

def InvAny (n : Nat) (L : Nat → Nat) (M : Mat) (w : World) (e : Ending) (w' : World) : Prop :=
  if rightB n L = true ∧ n = L 0 then InvRes n M w e w' else ResM 1 0 0 one w e w'
theorem ResM.bad (w : World) {w' : World} (h : Below w.heap.size w w') : ResM 1 0 0 one w (.returned (.tuple #[.slice none 0 0, .int .i64 1])) w' := ⟨none, 0, rfl, RdM.empty _ _ _ _ _, h⟩
/-- a row, and an error's number -/
def ResV (code : Int) (n : Nat) (v : Nat → Fe) (w : World) (e : Ending) (w' : World) : Prop :=
  ∃ A C, e = .returned (.tuple #[.slice A n C, .int .i64 code]) ∧ Rd w' A n v (· < w'.heap.size) ∧ Below w.heap.size w w'
/-- a new row, and an error's number -/
def OwnV (code : Int) (n : Nat) (v : Nat → Fe) (w : World) (e : Ending) (w' : World) : Prop :=
  ∃ g C, e = .returned (.tuple #[.slice (some ⟨g, 0, none⟩) n C, .int .i64 code]) ∧ w.heap.size ≤ g ∧ RowAt w' g n v ∧ Below w.heap.size w w'
theorem OwnV.res {code : Int} {n : Nat} {v : Nat → Fe} {w : World} {e : Ending} {w' : World} (h : OwnV code n v w e w') : ResV code n v w e w' := by
  obtain ⟨g, C, he, _, hr, hb⟩ := h
  exact ⟨_, C, he, hr.rd _ hr.lt, hb⟩
theorem ResV.bad (w : World) {w' : World} (h : Below w.heap.size w w') : ResV 1 0 (fun _ => 0) w (.returned (.tuple #[.slice none 0 0, .int .i64 1])) w' := ⟨none, 0, rfl, Rd.empty _ _ _ _, h⟩
/-- the first rows are reckoned, of row i the first j terms -/
def part (f : Nat → Fe) (i : Nat) (s : Fe) : Nat → Fe := fun x => if x < i then f x else if x = i then s else 0
theorem part_set (f : Nat → Fe) (i : Nat) (s s' : Fe) (x : Nat) : (if x = i then s' else part f i s x) = part f i s' x := by
  unfold part
  by_cases e : x = i
  · rw [if_pos e, if_neg (by omega), if_pos e]
  · rw [if_neg e, if_neg e, if_neg e]
theorem part_next (f : Nat → Fe) (i : Nat) (x : Nat) : part f i (f i) x = part f (i + 1) 0 x := by
  unfold part
  by_cases e : x = i
  · rw [if_neg (by omega), if_pos e, if_pos (by omega), e]
  · by_cases e' : x < i
    · rw [if_pos e', if_pos (by omega)]
    · rw [if_neg e', if_neg e, if_neg (by omega)]
      by_cases e2 : x = i + 1
      · rw [if_pos e2]
      · rw [if_neg e2]
theorem part_at (f : Nat → Fe) (i : Nat) (s : Fe) : part f i s i = s := by unfold part; rw [if_neg (by omega), if_pos rfl]

def ApplyAny (n : Nat) (L : Nat → Nat) (M : Mat) (m : Nat) (v : Nat → Fe) (w : World) (e : Ending) (w' : World) : Prop :=
  if rightB n L = true ∧ L 0 = m then ResV 0 n (mv m M v) w e w' else ResV 1 0 (fun _ => 0) w e w'
/-- of row k the first terms are summed -/
theorem sumRow_step (MA MB : Mat) (X : Mat) (k j : Nat) : (fun r => if r = k then (fun c => (sm j fun t => MA k t * MB t c) + MA k j * MB j c) else (fun r => if r = k then (fun c => sm j fun t => MA k t * MB t c) else X r) r) = fun r => if r = k then (fun c => sm (j + 1) fun t => MA k t * MB t c) else X r := by
  funext r
  by_cases e : r = k
  · rw [if_pos e, if_pos e]; rfl
  · rw [if_neg e, if_neg e]; exact if_neg e

def MulAny (n : Nat) (L : Nat → Nat) (M : Mat) (n' : Nat) (L' : Nat → Nat) (M' : Mat) (w : World) (e : Ending) (w' : World) : Prop :=
  if rightB n L = true ∧ rightB n' L' = true ∧ L 0 = n' then ResM 0 n (L' 0) (mm n' M M') w e w' else ResM 1 0 0 one w e w'
/-- the element of that number -/
def el (n : Nat) : Fe := mk (n % 256) (Nat.mod_lt _ (by decide))
theorem fi_el {n : Nat} (h : n < 256) : fi (el n) = (n : Int) := by
  unfold fi el; rw [nat_mk, Nat.mod_eq_of_lt h]
theorem el_ne {i j : Nat} (hi : i < 256) (hj : j < 256) (h : i ≠ j) : el i ≠ el j := fun e => h (by
  have := congrArg fi e
  rw [fi_el hi, fi_el hj] at this; omega)
def cau (p : Nat) : Mat := fun i j => inv (el i + el (p + j))
theorem cau_int {p i j : Nat} (h : i < 256) (h' : p + j < 256) : ginv (gadd (i : Int) ((p : Int) + (j : Int))) = fi (cau p i j) := by
  unfold cau
  rw [← ginv_fi, ← gadd_fi, fi_el h, fi_el h']; congr 2

/-- the text of n bytes -/
def strOf (n : Nat) (r : Nat → Fe) : ByteArray := ((List.range n).map fun j => fi (r j)).foldl (fun s n => s.push (UInt8.ofNat n.toNat)) ByteArray.empty
theorem strOf_congr {n : Nat} {r s : Nat → Fe} (h : ∀ j, j < n → r j = s j) : strOf n r = strOf n s := by
  unfold strOf
  rw [List.map_congr_left (g := fun j => fi (s j)) (fun j hj => by rw [h j (List.mem_range.1 hj)])]
theorem str_run {w : World} {A : Option Addr} {n : Nat} {r : Nat → Fe} {G : Nat → Prop} (h : Rd w A n r G) (C : Nat) : (convert 36 9 (.slice A n C)).run Try.prog w = .ok (.string (strOf n r)) w := by
  rw [run_convert_bytes_string w 36 9 5 A n C Try.underlying36 Try.underlying5 Try.underlying9]
  cases A with
  | none =>
    have hn : n = 0 := by
      rcases Nat.eq_zero_or_pos n with h0 | h0
      · exact h0
      · obtain ⟨b, off, e, _⟩ := h h0; cases e
    subst hn
    rfl
  | some a =>
    refine run_bytesToString w a n C _ ?_
    rw [List.map_map]
    refine (run_loadCells w a n (fun j => .int .u8 (fi (r j))) fun j hj => ?_).trans ?_
    · obtain ⟨b, off, e, _, hc⟩ := h (by omega)
      cases e
      rw [add_at]; exact hc j hj
    · congr 1
theorem str_runD {w : World} {A : Option Addr} {n : Nat} {r : Nat → Fe} {G : Nat → Prop} (h : Rd w A n r G) (C q : Nat) : (convert 36 9 (.slice A n C)).run Try.prog (w.drewN q) = .ok (.string (strOf n r)) (w.drewN q) := str_run (w := w.drewN q) h C

/-- the rows as the cells of what holds them -/
def tops (k m : Nat) (G C : Nat → Nat) : List Value := (List.range k).map fun i => .slice (some ⟨G i, 0, none⟩) m (C i)
theorem tops_len (k m : Nat) (G C : Nat → Nat) : (tops k m G C).length = k := by simp [tops]
theorem tops_get {k m : Nat} {G C : Nat → Nat} {j : Nat} (hj : j < k) : (tops k m G C)[j]? = some (.slice (some ⟨G j, 0, none⟩) m (C j)) := by simp [tops, hj]
/-- a matrix that is made by append, row behind row -/
structure OwnA (w : World) (B : Nat) (v : Value) (k m : Nat) (G C : Nat → Nat) (M : Mat) : Prop where
  top : w.ownsRow B 36 1 v k (tops k m G C)
  cap : ∀ i, i < k → m ≤ C i
  rows : ∀ i, i < k → RowAt w (G i) m (M i)
  inj : ∀ i j, i < k → j < k → G i = G j → i = j
  lo : ∀ i, i < k → B ≤ G i
theorem owns_ne {w : World} {B : Nat} {t t' : TypeId} {v : Value} {k g n : Nat} {xs : List Value} {V : Nat → Value} (h : w.ownsRow B t 1 v k xs) (h' : RowV w t' g n V) (ht : t ≠ t') : some g ≠ v.ownBlock := by
  rcases h.2 with ⟨rfl, _⟩ | ⟨g', cap, cur, rfl, _, hh, _⟩
  · simp [Value.ownBlock]
  · intro e
    simp only [Value.ownBlock, Option.some.injEq] at e
    subst e
    obtain ⟨c, hb, _, _⟩ := h'
    rw [hh] at hb
    injection hb with hb
    injection hb with _ e
    exact ht e
namespace OwnA
variable {w w' : World} {B k m : Nat} {v v' : Value} {G C : Nat → Nat} {M M' : Mat}
theorem start (w : World) (B m : Nat) (G C : Nat → Nat) (M : Mat) : OwnA w B (.slice none 0 0) 0 m G C M :=
  ⟨World.ownsRow_nil _ _ _ _, fun i hi => absurd hi (by omega), fun i hi => absurd hi (by omega), fun i j hi => absurd hi (by omega), fun i hi => absurd hi (by omega)⟩
theorem old (h : OwnA w B v k m G C M) (hb : Below w.heap.size w w') : OwnA w' B v k m G C M :=
  ⟨h.top.kept (row := none) ⟨hb.os, hb.tape, hb.output, hb.size, fun i hi _ => hb.block i hi⟩ (by cases hv : v.ownBlock <;> simp), h.cap, fun i hi => (h.rows i hi).old hb, h.inj, h.lo⟩
theorem congr (h : OwnA w B v k m G C M) (e : ∀ i, i < k → ∀ j, j < m → M i j = M' i j) : OwnA w B v k m G C M' :=
  ⟨h.top, h.cap, fun i hi => (h.rows i hi).congr (e i hi), h.inj, h.lo⟩
/-- a row is appended -/
theorem push (h : OwnA w B v k m G C M) {o : Obj} (hg : (w.alloc o).grownBy w' v.ownBlock) {g c : Nat} {f : Nat → Fe} (hown : w'.ownsRow B 36 1 v' (k + 1) (tops k m G C ++ [.slice (some ⟨g, 0, none⟩) m c]))
    (hr : RowAt w g m f) (hne : ∀ i, i < k → G i ≠ g) (hB : B ≤ g) (hc : m ≤ c) : OwnA w' B v' (k + 1) m (fun i => if i = k then g else G i) (fun i => if i = k then c else C i) (fun i => if i = k then f else M i) := by
  have keep : ∀ {g' : Nat} {f' : Nat → Fe}, RowAt w g' m f' → RowAt w' g' m f' := fun {g' f'} h' =>
    h'.of_block ((hg.block g' (by have := h'.lt; simp; omega) (owns_ne h.top h' (by decide))).trans (Below.heap_alloc _ _ _ h'.lt))
  have ht : tops k m G C ++ [.slice (some ⟨g, 0, none⟩) m c] = tops (k + 1) m (fun i => if i = k then g else G i) (fun i => if i = k then c else C i) := by
    unfold tops
    rw [List.range_succ, List.map_append]
    congr 1
    · exact List.map_congr_left fun i hi => by
        have := List.mem_range.1 hi
        simp only [show ¬ i = k by omega, if_false]
    · simp
  rw [ht] at hown
  refine ⟨hown, fun i hi => ?_, fun i hi => ?_, fun i j hi hj e => ?_, fun i hi => ?_⟩
  · by_cases e : i = k
    · simp only [e, if_true]; exact hc
    · simp only [e, if_false]; exact h.cap i (by omega)
  · by_cases e : i = k
    · simp only [e, if_true]; exact keep hr
    · simp only [e, if_false]; exact keep (h.rows i (by omega))
  · by_cases e1 : i = k <;> by_cases e2 : j = k
    · omega
    · simp only [e1, e2, if_true, if_false] at e
      exact absurd e.symm (hne j (by omega))
    · simp only [e1, e2, if_true, if_false] at e
      exact absurd e (hne i (by omega))
    · simp only [e1, e2, if_false] at e
      exact h.inj i j (by omega) (by omega) e
  · by_cases e : i = k
    · simp only [e, if_true]; exact hB
    · simp only [e, if_false]; exact h.lo i (by omega)
/-- as a matrix with its rows laid -/
theorem own (h : OwnA w B v k m G C M) (hk : 0 < k) : ∃ b cp, v = .slice (some ⟨b, 0, none⟩) k cp ∧ B ≤ b ∧ k ≤ cp ∧ OwnK w B b k k m G C M := by
  obtain ⟨b, cp, h1, h2, h3, h4⟩ := RowV.of_owns h.top hk
  exact ⟨b, cp, h1, h2, h3, h4.congr fun j hj => by rw [if_pos hj, List.getD_eq_getElem?_getD, tops_get hj]; rfl, h.cap, h.rows, h.inj, h.lo⟩
end OwnA
theorem oneCell (w : World) (x : Value) (t : TypeId) : ∀ j u, [x][j]? = some u → (w.alloc (.cells #[x] t)).cell? ((⟨w.heap.size, 0, none⟩ : Addr).add j) = some u := by
  intro j u hj
  match j, hj with
  | 0, hj => simp at hj; subst hj; simp [Addr.add]
theorem oneSlice (a : Option Addr) (n c : Nat) : ∀ u ∈ [Value.slice a n c], u.oneCell' = true := by
  intro u hu; simp at hu; subst hu; rfl
theorem oneByte (x : Int) : ∀ u ∈ [Value.int .u8 x], u.oneCell' = true := by
  intro u hu; simp at hu; subst hu; rfl
theorem oneCellAt (w : World) (x : Value) (t : TypeId) (s : Nat) (hs : s = w.heap.size) : ∀ j u, [x][j]? = some u → (w.alloc (.cells #[x] t)).cell? ((⟨s, 0, none⟩ : Addr).add j) = some u := by
  subst hs; exact oneCell w x t
theorem own_old {w w' : World} {base : Nat} {t : TypeId} {v : Value} {k : Nat} {xs : List Value} (h : w.ownsRow base t 1 v k xs) (hb : Below w.heap.size w w') : w'.ownsRow base t 1 v k xs :=
  h.kept (row := none) ⟨hb.os, hb.tape, hb.output, hb.size, fun i hi _ => hb.block i hi⟩ (by cases hv : v.ownBlock <;> simp)
theorem cellsOf_succ (n : Nat) (r : Nat → Fe) : cellsOf n r ++ [.int .u8 (fi (r n))] = cellsOf (n + 1) r := by
  unfold cellsOf; rw [List.range_succ, List.map_append]; rfl
/-- a row with zeros behind it -/
theorem cellsOf_zeros (n m : Nat) (hm : n + n = m) (r : Nat → Fe) : cellsOf n r ++ List.replicate n (.int .u8 0) = cellsOf m (fun c => if c < n then r c else 0) := by
  subst hm
  unfold cellsOf
  apply List.ext_getElem?
  intro j
  rw [List.getElem?_append]
  simp only [List.length_map, List.length_range]
  by_cases h : j < n
  · rw [if_pos h]
    simp [h, show j < n + n by omega]
  · rw [if_neg h]
    by_cases h' : j < n + n
    · simp [h, h', show j - n < n by omega, fi_zero]
    · simp [h', show ¬ j - n < n by omega]
theorem aug_row {n m : Nat} (M : Mat) {i : Nat} : ∀ c, c < m → (if c = n + i then (1 : Fe) else if c < n then M i c else 0) = aug n M one i c := by
  intro c _
  unfold aug one
  by_cases h : c < n
  · simp only [if_neg (show ¬ c = n + i by omega), if_pos h]
  · simp only [if_neg h]
    by_cases h' : c = n + i
    · simp only [if_pos h', if_pos (show i = c - n by omega)]
    · simp only [if_neg h', if_neg (show ¬ i = c - n by omega)]
/-! ### The answers as functions of what was given -/
theorem InvAny.res (n : Nat) (L : Nat → Nat) (M : Mat) : ∃ (code : Int) (k q : Nat) (X : Mat), k ≤ 255 ∧ ∀ w e w', InvAny n L M w e w' → ResM code k q X w e w' := by
  by_cases h : rightB n L = true ∧ n = L 0
  · have hn := (rightB_true.1 h.1).2.1
    cases hg : gjs n M n with
    | none => exact ⟨12, 0, 0, one, by omega, fun w e w' hh => by unfold InvAny InvRes at hh; rw [if_pos h, hg] at hh; exact hh⟩
    | some s => exact ⟨0, n, n, s.2, hn, fun w e w' hh => by unfold InvAny InvRes at hh; rw [if_pos h, hg] at hh; exact hh⟩
  · exact ⟨1, 0, 0, one, by omega, fun w e w' hh => by unfold InvAny at hh; rw [if_neg h] at hh; exact hh⟩
theorem MulAny.res (n : Nat) (L : Nat → Nat) (M : Mat) (n' : Nat) (L' : Nat → Nat) (M' : Mat) : ∃ (code : Int) (k q : Nat) (X : Mat), k ≤ 255 ∧ ∀ w e w', MulAny n L M n' L' M' w e w' → ResM code k q X w e w' := by
  by_cases h : rightB n L = true ∧ rightB n' L' = true ∧ L 0 = n'
  · exact ⟨0, n, L' 0, mm n' M M', (rightB_true.1 h.1).2.1, fun w e w' hh => by unfold MulAny at hh; rw [if_pos h] at hh; exact hh⟩
  · exact ⟨1, 0, 0, one, by omega, fun w e w' hh => by unfold MulAny at hh; rw [if_neg h] at hh; exact hh⟩
theorem ApplyAny.res (n : Nat) (L : Nat → Nat) (M : Mat) (m : Nat) (v : Nat → Fe) : ∃ (code : Int) (k : Nat) (x : Nat → Fe), k ≤ 255 ∧ ∀ w e w', ApplyAny n L M m v w e w' → ResV code k x w e w' := by
  by_cases h : rightB n L = true ∧ L 0 = m
  · exact ⟨0, n, mv m M v, (rightB_true.1 h.1).2.1, fun w e w' hh => by unfold ApplyAny at hh; rw [if_pos h] at hh; exact hh⟩
  · exact ⟨1, 0, fun _ => 0, by omega, fun w e w' hh => by unfold ApplyAny at hh; rw [if_neg h] at hh; exact hh⟩
theorem cell_new (w : World) (c : Array Value) (t : TypeId) (s i : Nat) (hs : s = w.heap.size) : (w.alloc (.cells c t)).cell? ⟨s, i, none⟩ = c[i]? := by
  subst hs; exact cell_of_row _ _ _ _ _ (0, 0) (heap_alloc_new w _)
theorem cell_past (w : World) (o : Obj) (s i : Nat) (hs : s < w.heap.size) : (w.alloc o).cell? ⟨s, i, none⟩ = w.cell? ⟨s, i, none⟩ := World.cell?_alloc_lt w o _ hs
end Go.Proofs.Ytnbfkihgloipiaa
namespace Go.Proofs.Ytnbfkihgloipiaa
open Go.RowKit Mx

/-- the bit k of a byte -/
def bitK (k : Nat) : Fe := mk (2 ^ k % 256) (Nat.mod_lt _ (by decide))
theorem bitK_ne : ∀ k, k < 8 → bitK k ≠ 0 := by
  intro k hk
  rcases (show k = 0 ∨ k = 1 ∨ k = 2 ∨ k = 3 ∨ k = 4 ∨ k = 5 ∨ k = 6 ∨ k = 7 by omega) with rfl | rfl | rfl | rfl | rfl | rfl | rfl | rfl <;> exact fun e => absurd (congrArg Fe.nat e) (by decide)
theorem bit7 (b : Int) : ∃ k : Nat, k < 8 ∧ bits BinOp.and IntKind.i64 b 7 = (k : Int) := by
  refine ⟨((BitVec.ofInt 64 b) &&& (BitVec.ofInt 64 7)).toNat, ?_, ?_⟩
  · rw [BitVec.toNat_and, show (BitVec.ofInt 64 7).toNat = 2 ^ 3 - 1 by decide, Nat.and_two_pow_sub_one_eq_mod]
    exact Nat.mod_lt _ (by decide)
  · show IntKind.i64.wrap ((BitVec.ofInt 64 b &&& BitVec.ofInt 64 7).toNat : Int) = _
    have : ((BitVec.ofInt 64 b) &&& (BitVec.ofInt 64 7)).toNat < 8 := by
      rw [BitVec.toNat_and, show (BitVec.ofInt 64 7).toNat = 2 ^ 3 - 1 by decide, Nat.and_two_pow_sub_one_eq_mod]
      exact Nat.mod_lt _ (by decide)
    rw [IntKind.wrap_i64]
    omega
theorem turn_bit (a : Fe) (k : Nat) : bits BinOp.xor IntKind.u8 (fi a) (2 ^ k % 256) = fi (a + bitK k) := by
  have h : ((2 : Int) ^ k % 256) = fi (bitK k) := by
    unfold fi bitK; rw [nat_mk]; simp
  rw [h, xor_fi]
theorem bitK_turns (a : Fe) {k : Nat} (hk : k < 8) : a + bitK k ≠ a := fun e => bitK_ne k hk (by
  have := congrArg (fun x => a + x) e
  simpa [← Mx.add_assoc, Mx.add_self, Mx.zero_add] using this)
end Go.Proofs.Ytnbfkihgloipiaa
namespace Go.Proofs.Ytnbfkihgloipiaa
open Go.RowKit Vf
open Pt (Tx)

theorem liesV_run (w : World) (base : Nat) (v : Value) (n : Nat) (us : List Value) (hown : w.ownsRow base 36 1 v n us) (hl : n ≤ 1000000) (ad : Addr) (c : Nat) (x : Value) (hx : x.oneCell' = true) (hc : ∀ j u, [x][j]? = some u → w.cell? (ad.add j) = some u) (hbase : base ≤ w.heap.size) :
    ∃ g cap w', (∀ ty, (Builtin.append_ #[33, 33] ty #[v, .slice (some ad) 1 c]).run Try.prog w = .ok (.slice (some ⟨g, 0, none⟩) (n + 1) cap) w') ∧ w'.ownsRow base 36 1 (.slice (some ⟨g, 0, none⟩) (n + 1) cap) (n + 1) (us ++ [x]) ∧ w.grownBy w' v.ownBlock := by
  obtain ⟨i0, hi, hz0, hz1, hz2⟩ := info_parts infoRowT
  obtain ⟨g, cap, w', h1, h2, h3, _, _⟩ := run_append_lies (P := Try.prog) (w := w) 33 3 base 36 i0 (.slice none 0 0) 1 24 Try.underlying33 hi hz0 hz1 hz2 rfl (by decide) v n us hown ad 1 c [x] rfl hc (by simpa using hx) (by decide) (by unfold maxLen; omega) (by omega) hbase w.heap.size rfl
  exact ⟨g, cap, w', fun ty => h1, h2, h3⟩
theorem Rt.stepV {wa w2 : World} {B tB : Nat} {G : Nat → Prop} {lab cap : Int} {bs : List Tx} {v : Value} {us : List Value} {s : Tx} {A2 : Option Addr} {n2 C2 B2 : Nat} (hM : wa.heap[tB]? = some (.cells #[.int .i64 lab, .int .i64 cap, v, .bool false] 35 (0, 0))) (hT : TopB wa B G v us bs) (hlo : B ≤ tB) (hB : B ≤ wa.heap.size)
    (hA : Below wa.heap.size wa w2) (hu : OwnL w2 B2 (.slice A2 n2 C2) s) (hB2 : wa.heap.size ≤ B2) (hG : ∀ k, wa.heap.size ≤ k → G k) (hl : us.length ≤ 1000000) (N : Nat) (hN : N = us.length + 1) :
    ∃ g cp w3, (∀ ty, (Builtin.append_ #[33, 33] ty #[v, .slice (some ⟨w2.heap.size, 0, none⟩) 1 1]).run Try.prog (w2.alloc (.cells #[.slice A2 n2 C2] 36)) = .ok (.slice (some ⟨g, 0, none⟩) N cp) w3)
      ∧ w3.heap[tB]? = some (.cells #[.int .i64 lab, .int .i64 cap, v, .bool false] 35 (0, 0)) ∧ Rt (w3.setCell ⟨tB, 2, none⟩ (.slice (some ⟨g, 0, none⟩) N cp)) B tB G lab cap (bs ++ [s]) ∧ Below B wa w3 ∧ Below B wa (w3.setCell ⟨tB, 2, none⟩ (.slice (some ⟨g, 0, none⟩) N cp)) := by
  subst hN
  have hA' : Below wa.heap.size wa (w2.alloc (.cells #[.slice A2 n2 C2] 36)) := hA.alloc hA.size _
  have htop : (w2.alloc (.cells #[.slice A2 n2 C2] 36)).ownsRow B 36 1 v us.length us := own_of hT.top fun k e => hA'.block k (hT.top.lt k e).2
  obtain ⟨g, cp, w3, hr, ho, hg⟩ := liesV_run _ B v us.length us htop hl ⟨w2.heap.size, 0, none⟩ 1 (.slice A2 n2 C2) rfl (oneCellT w2 (.slice A2 n2 C2) 36) (by have := hA.size; simp; omega)
  have hu' : OwnL w2 B (.slice A2 n2 C2) s := own_down hu (Nat.le_trans hB hB2)
  obtain ⟨e, hrt, hrf⟩ := Rt.pushed (G := G) hM hT hlo hA hu' (fun k e => Nat.le_trans hB2 (hu.lo k e)) hG ho hg
  have hb3 : Below B wa w3 := (hA'.mono hB).grown hg (Nat.le_trans hB hA'.size) fun k e => (hT.top.lt k e).1
  exact ⟨g, cp, w3, hr, by rw [e]; exact hM, hrt, hb3, hrf.below hB⟩
/-- what lies in blocks of other types may be turned beside -/
theorem Rt.kpT {w w' : World} {B gr : Nat} {G S : Nat → Prop} {lab cap : Int} {bs : List Tx} (h : Rt w B gr G lab cap bs) (hk : Kp S w w') (hS : ∀ k, S k → ∀ c t, w.heap[k]? = some (.cells c t (0, 0)) → t ≠ 35 ∧ t ≠ 36 ∧ t ≠ 5) : Rt w' B gr G lab cap bs := by
  obtain ⟨⟨v, us, hb, ht⟩, hlo⟩ := h
  refine ⟨⟨v, us, (hk.block gr (heap_lt hb) fun hs => (hS gr hs _ _ hb).1 rfl).trans hb, ht.kpT hk (fun k c hs hc => (hS k hs _ _ hc).2.1 rfl) (fun k c hs hc => (hS k hs _ _ hc).2.2 rfl)⟩, hlo⟩
/-- a byte of one of its blocks is turned: where it lies, and what then is -/
theorem Rt.turned {w : World} {B gr : Nat} {G : Nat → Prop} {lab cap : Int} {bs : List Tx} (h : Rt w B gr G lab cap bs) {k p : Nat} {s : Tx} (hs : bs[k]? = some s) (hp : p < s.length) :
    ∃ g' C' g C c, w.heap[gr]? = some (.cells #[.int .i64 lab, .int .i64 cap, .slice (some ⟨g', 0, none⟩) bs.length C', .bool false] 35 (0, 0)) ∧ w.cell? ⟨g', k, none⟩ = some (.slice (some ⟨g, 0, none⟩) s.length C) ∧ w.heap[g]? = some (.cells c 5 (0, 0)) ∧ w.cell? ⟨g, p, none⟩ = some (.int .u8 (fi (feB s[p]))) ∧ B ≤ g ∧
      ∀ x : UInt8, Rt (w.setCell ⟨g, p, none⟩ (.int .u8 (x.toNat : Int))) B gr G lab cap (bs.set k (s.set p x)) := by
  obtain ⟨⟨v, us, hb, ht⟩, hlo⟩ := h
  obtain ⟨hk', hsk⟩ := List.getElem?_eq_some_iff.1 hs
  have hk : k < us.length := by rw [ht.len]; exact hk'
  have hr := ht.rows k hk hk'
  obtain ⟨Ar, Cr, er, h1, h2, h3, h4⟩ := hr.rd
  rw [hsk] at hr er h1 h3 h4
  obtain ⟨g, cp, cur, e, hB, hg⟩ : ∃ g cap cur, us[k] = .slice (some ⟨g, 0, none⟩) s.length cap ∧ B ≤ g ∧ w.heap[g]? = some (.cells cur 5 (0, 0)) := by
    rcases hr.2 with ⟨e, h0⟩ | ⟨g, cap, cur, e, hB, hg, _⟩
    · omega
    · exact ⟨g, cap, cur, e, hB, hg⟩
  rw [er] at e
  injection e with e1 e2 e3
  subst e1 e3
  obtain ⟨b, off, e5, -, hc⟩ := h4 (by omega)
  cases e5
  have hcp := hc p hp
  rw [Nat.zero_add] at hcp
  obtain ⟨g', C', cur', hv, hcell⟩ : ∃ g' C' cur', v = .slice (some ⟨g', 0, none⟩) bs.length C' ∧ w.cell? ⟨g', k, none⟩ = some (.slice (some ⟨g, 0, none⟩) s.length Cr) ∧ True ∧ cur' = cur := by
    rcases ht.top.2 with ⟨_, h0⟩ | ⟨g', cap', cur', e', _, hg', _, _, _, htk⟩
    · omega
    · refine ⟨g', cap', cur, by rw [e', ht.len], ?_, trivial, rfl⟩
      have hx : us[k]? = some (.slice (some ⟨g, 0, none⟩) s.length Cr) := by rw [List.getElem?_eq_getElem hk, er]
      rw [← htk, List.getElem?_take, if_pos (by omega), Array.getElem?_toList] at hx
      rw [heap_cell hg', hx]
  refine ⟨g', C', g, Cr, cur, by rw [hb, hv], hcell.1, hg, hcp, hB, fun x => ?_⟩
  have hkp := Kp.store w g p (.int .u8 (x.toNat : Int))
  have hT := ht.turned hk hk' er (s := s) hsk hp x
  refine ⟨⟨v, us, (hkp.block gr (heap_lt hb) fun e => ?_).trans hb, hT⟩, hlo⟩
  rw [e, hg] at hb
  injection hb with hb
  injection hb with _ e2
  exact absurd e2 (by decide)
def byV (a : Mx.Fe) : UInt8 := UInt8.ofNat a.nat
theorem byV_nat (a : Mx.Fe) : ((byV a).toNat : Int) = fi a := by
  have := a.nat_lt
  unfold byV fi; rw [UInt8.toNat_ofNat', Nat.mod_eq_of_lt this]
theorem byV_turns (c : UInt8) {k : Nat} (hk : k < 8) : byV (feB c + bitK k) ≠ c := fun e => by
  have h1 := byV_nat (feB c + bitK k)
  rw [e, show (c.toNat : Int) = fi (feB c) from rfl] at h1
  exact bitK_turns (feB c) hk (fi_eq h1.symm)
theorem modV {N : Nat} (h0 : 0 < N) (q : Nat) : ∃ p : Nat, p < N ∧ ((q : Int)).tmod (N : Int) = (p : Int) :=
  ⟨q % N, Nat.mod_lt _ h0, by rw [Int.tmod_eq_emod_of_nonneg (by omega)]; exact (Int.natCast_emod q N).symm⟩
theorem and_63V (x : Int) : ∃ y : Nat, bits BinOp.and IntKind.i64 x 63 = (y : Int) ∧ y ≤ 63 := by
  have hx : (BitVec.ofInt 64 x &&& BitVec.ofInt 64 63).toNat ≤ 63 := by
    rw [BitVec.toNat_and]; exact Nat.and_le_right
  refine ⟨(BitVec.ofInt 64 x &&& BitVec.ofInt 64 63).toNat, ?_, hx⟩
  show IntKind.i64.wrap ((BitVec.ofInt 64 x &&& BitVec.ofInt 64 63).toNat : Int) = _
  rw [IntKind.wrap_i64]; omega
namespace Vf
/-- the blocks that are laid -/
def b (i : Nat) : Tx := Fm.blk ⟨3, 9, (i : Int), [UInt8.ofNat i]⟩
theorem b_ok {i : Nat} (h : i < 30) : Fm.Ok ⟨3, 9, (i : Int), [UInt8.ofNat i]⟩ := by
  refine ⟨⟨?_, ?_, ?_, ?_, ?_, ?_⟩, ?_⟩
  · show (1 : Int) ≤ 3; decide
  · show (3 : Int) ≤ 6; decide
  · show (1 : Int) ≤ 9; decide
  · show (9 : Int) ≤ 2147483647; decide
  · show (0 : Int) ≤ (i : Int); omega
  · show (i : Int) ≤ 2147483647; omega
  · show 1 ≤ Fm.room 3; decide
theorem b_len {i : Nat} (h : i < 30) : (b i).length = 79 := by unfold b; rw [Fm.blk_len (b_ok h)]; rfl
/-- blocks of which those that f tells are turned -/
structure Trn (n : Nat) (f : Nat → Bool) (bs : List Tx) : Prop where
  len : bs.length = n
  no : ∀ k, k < n → f k = false → bs[k]? = some (b k)
  yes : ∀ k, k < n → f k = true → ∃ p x, ∃ hp : p < (b k).length, x ≠ (b k)[p] ∧ bs[k]? = some ((b k).set p x)
theorem Trn.start (n : Nat) : Trn n (fun _ => false) ((List.range n).map b) :=
  ⟨by simp, fun k hk _ => by simp [hk], fun k _ h => by cases h⟩
theorem Trn.sizes {n : Nat} {f : Nat → Bool} {bs : List Tx} (h : Trn n f bs) (hn : n ≤ 30) : ∀ s ∈ bs, s.length = 79 := by
  intro s hs
  obtain ⟨k, hk, rfl⟩ := List.mem_iff_getElem.1 hs
  have hkn : k < n := by rw [← h.len]; exact hk
  have e : bs[k]? = some bs[k] := List.getElem?_eq_getElem hk
  cases hf : f k with
  | false =>
    have := h.no k hkn hf
    rw [e] at this
    rw [Option.some.inj this]; exact b_len (by omega)
  | true =>
    obtain ⟨p, x, hp, _, this⟩ := h.yes k hkn hf
    rw [e] at this
    rw [Option.some.inj this, List.length_set]; exact b_len (by omega)
theorem Trn.set {n : Nat} {f : Nat → Bool} {bs : List Tx} (h : Trn n f bs) {k p : Nat} {x : UInt8} (hk : k < n) (hp : p < (b k).length) (hx : x ≠ (b k)[p]) : Trn n (fun j => if j = k then true else f j) (bs.set k ((b k).set p x)) := by
  refine ⟨by rw [List.length_set]; exact h.len, fun j hj hfj => ?_, fun j hj hfj => ?_⟩
  · by_cases e : j = k
    · rw [if_pos e] at hfj; cases hfj
    · rw [if_neg e] at hfj
      rw [List.getElem?_set_ne (fun h => e h.symm)]
      exact h.no j hj hfj
  · by_cases e : j = k
    · subst e
      exact ⟨p, x, hp, hx, by rw [List.getElem?_set_self (by rw [h.len]; exact hj)]⟩
    · rw [if_neg e] at hfj
      obtain ⟨q, y, hq, hy, hb⟩ := h.yes j hj hfj
      exact ⟨q, y, hq, hy, by rw [List.getElem?_set_ne (fun h => e h.symm)]; exact hb⟩
theorem Trn.okB {n : Nat} {f : Nat → Bool} {bs : List Tx} (h : Trn n f bs) (hn : n ≤ 30) {k : Nat} (hk : k < n) : ok ⟨9, 64, bs, false⟩ k = !f k := by
  have hk' : k < bs.length := by rw [h.len]; exact hk
  have hbk : bs[k]? = some bs[k] := List.getElem?_eq_getElem hk'
  have e : Vo.good (Gr.vo ⟨9, 64, bs, false⟩) k = if Fm.Good bs[k] ∧ (Fm.parse bs[k]).label = 9 ∧ (Fm.parse bs[k]).number = (k : Int) then some (Fm.parse bs[k]) else none := good_is (lab := 9) hk'
  unfold Vf.ok
  rw [e]
  cases hf : f k with
  | false =>
    have h1 := h.no k hk hf
    rw [hbk] at h1
    have h2 := Option.some.inj h1
    have hg : Fm.Good bs[k] := by rw [h2]; exact Fm.good_blk (b_ok (by omega))
    have hpz : Fm.parse bs[k] = ⟨3, 9, (k : Int), [UInt8.ofNat k]⟩ := by rw [h2]; exact Fm.parse_blk (b_ok (by omega))
    rw [if_pos ⟨hg, by rw [hpz], by rw [hpz]⟩]; rfl
  | true =>
    obtain ⟨p, x, hp, hx, h1⟩ := h.yes k hk hf
    rw [hbk] at h1
    have h2 := Option.some.inj h1
    have hg : ¬ Fm.Good bs[k] := by rw [h2]; exact Fm.turn_no (Fm.good_blk (b_ok (by omega))) hp hx
    rw [if_neg (fun h => hg h.1)]; rfl
theorem filter_congrV {n : Nat} {f g : Nat → Bool} (h : ∀ k, k < n → f k = g k) : (List.range n).filter f = (List.range n).filter g := List.filter_congr fun k hk => h k (List.mem_range.1 hk)
theorem Trn.told {n : Nat} {f : Nat → Bool} {bs : List Tx} (h : Trn n f bs) (hn : n ≤ 30) : Vf.spots [⟨9, 64, bs, false⟩] = sp 9 ((List.range n).filter f) := by
  unfold Vf.spots spotsT bad upto
  rw [List.flatMap_cons, List.flatMap_nil, List.append_nil]
  show sp 9 ((List.range bs.length).filter fun k => !ok ⟨9, 64, bs, false⟩ k) = _
  rw [h.len, filter_congrV fun k hk => by rw [h.okB hn hk, Bool.not_not]]
theorem filter_succ (f : Nat → Bool) (i : Nat) : (List.range (i + 1)).filter f = if f i then (List.range i).filter f ++ [i] else (List.range i).filter f := by
  rw [List.range_succ, List.filter_append]
  cases h : f i <;> simp [h]
end Vf
end Go.Proofs.Ytnbfkihgloipiaa
