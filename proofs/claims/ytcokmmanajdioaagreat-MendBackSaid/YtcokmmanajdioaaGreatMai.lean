/- Words for matrices in memory and for what calls answer, and the answers as functions of what was given. No function of the program. What the walk is told of a row of numbers (InOpen), beside what it is told of rows of bytes. No function of the program. Plain mathematics: places below n, all unlike, each the first that is free from a number on. Plain mathematics of chapter 3, no program: of the unit with a Cauchy below it any rows, as many as there are columns, have an inverse. -/
import Derived.Test.YtcokmmanajdioaaGreatMah
import Derived.Test.YtcokmmanajdioaaGreatMab
import Derived.Test.YtcokmmanajdioaaGreatMxZeros
import Derived.Deep.QuietTactic
import Derived.BigQuiet
import Derived.StillTailTactics
import Derived.Handy
import Derived.OwnWalk
import Derived.Lib.SliceRun
import Derived.Laws.BytesString
import Derived.Laws.Cells
import Derived.Test.YtcokmmanajdioaaGreatMag
import Derived.Test.YtcokmmanajdioaaGreatMaa
namespace Go.Proofs.YtcokmmanajdioaaGreat
open Go.RowKit Mx


theorem gmul_fi (a b : Fe) : gmul (fi a) (fi b) = fi (a * b) := by
  unfold gmul; rw [fi_nat, fi_nat]; rfl
theorem gadd_fi (a b : Fe) : gadd (fi a) (fi b) = fi (a + b) := by
  unfold gadd; rw [fi_nat, fi_nat]; rfl
theorem ginv_fi (a : Fe) : ginv (fi a) = fi (inv a) := by
  unfold ginv fi; rw [Int.toNat_natCast, nat_inv]
theorem xor_fi (a b : Fe) : bits BinOp.xor IntKind.u8 (fi a) (fi b) = fi (a + b) := by
  unfold fi; rw [bits_xor_u8 _ _ a.nat_lt b.nat_lt, nat_add]
/-- may such rows be a matrix? -/
def rightB (n : Nat) (L : Nat → Nat) : Bool := decide (1 ≤ n ∧ n ≤ 255 ∧ 1 ≤ L 0 ∧ L 0 ≤ 255 ∧ ∀ i, i < n → L i = L 0)
theorem rightB_true {n : Nat} {L : Nat → Nat} : rightB n L = true ↔ 1 ≤ n ∧ n ≤ 255 ∧ 1 ≤ L 0 ∧ L 0 ≤ 255 ∧ ∀ i, i < n → L i = L 0 := decide_eq_true_iff
theorem rightB_false {n : Nat} {L : Nat → Nat} (h : ¬ (1 ≤ n ∧ n ≤ 255 ∧ 1 ≤ L 0 ∧ L 0 ≤ 255 ∧ ∀ i, i < n → L i = L 0)) : rightB n L = false := decide_eq_false h
def SomeBool (w : World) (e : Ending) (w' : World) : Prop := ∃ b : Bool, e = .returned (.bool b) ∧ w = w'
theorem upTo_step {f h : Nat → Fe} {k j : Nat} : (if j = k then h k else if j < k then h j else f j) = if j < k + 1 then h j else f j := by
  by_cases e : j = k
  · subst e; rw [if_pos rfl, if_pos (by omega)]
  · rw [if_neg e]
    by_cases e' : j < k
    · rw [if_pos e', if_pos (by omega)]
    · rw [if_neg e', if_neg (by omega)]
def pivI (n : Nat) (M : Mat) (i : Nat) : Int := if pvt M i (n - i) i < n then ((pvt M i (n - i) i : Nat) : Int) else -1
theorem pivI_at {n : Nat} {M : Mat} {i k : Nat} (hk : k < n) (h : pvt M i (n - i) i = k) : pivI n M i = (k : Int) := by
  unfold pivI; rw [h, if_pos hk]
theorem pivI_none {n : Nat} {M : Mat} {i : Nat} (h : ¬ pvt M i (n - i) i < n) : pivI n M i = -1 := by
  unfold pivI; rw [if_neg h]
theorem pvt_here {R : Mat} {i f k : Nat} (h : R k i ≠ 0) : pvt R i (f + 1) k = k := by simp only [pvt, if_neg h]
theorem pvt_next {R : Mat} {i f k : Nat} (h : R k i = 0) : pvt R i (f + 1) k = pvt R i f (k + 1) := by simp only [pvt, if_pos h]

theorem infoByte : (Tryz.prog.info? 5).map (fun i => (i.zero, i.size, i.bytes)) = some (some (.int .u8 0), 1, 1) := by kernel_rfl
theorem infoRow : (Tryz.prog.info? 34).map (fun i => (i.zero, i.size, i.bytes)) = some (some (.slice none 0 0), 1, 24) := by kernel_rfl
/-- a new row of n elements r -/
def FreshRow (n : Nat) (r : Nat → Fe) (w : World) (e : Ending) (w' : World) : Prop :=
  ∃ g C, e = .returned (.slice (some ⟨g, 0, none⟩) n C) ∧ w.heap.size ≤ g ∧ n ≤ C ∧ RowAt w' g n r ∧ Below w.heap.size w w'
def cellsOf (n : Nat) (r : Nat → Fe) : List Value := (List.range n).map fun j => .int .u8 (fi (r j))
theorem cellsOf_len (n : Nat) (r : Nat → Fe) : (cellsOf n r).length = n := by simp [cellsOf]
theorem cellsOf_get {n : Nat} {r : Nat → Fe} {j : Nat} (hj : j < n) : (cellsOf n r)[j]? = some (.int .u8 (fi (r j))) := by simp [cellsOf, hj]
theorem cellsOf_some {n : Nat} {r : Nat → Fe} {j : Nat} {u : Value} (h : (cellsOf n r)[j]? = some u) : j < n ∧ u = .int .u8 (fi (r j)) := by
  have hj : j < n := by
    rcases Nat.lt_or_ge j n with h' | h'
    · exact h'
    · rw [List.getElem?_eq_none (by rw [cellsOf_len]; exact h')] at h; cases h
  rw [cellsOf_get hj] at h
  exact ⟨hj, (Option.some.inj h).symm⟩
theorem add_at (b off j : Nat) : (⟨b, off, none⟩ : Addr).add j = ⟨b, off + j, none⟩ := by
  unfold Addr.add
  by_cases h : j = 0 <;> simp [h]
theorem cellsOf_one {n : Nat} {r : Nat → Fe} : ∀ u ∈ cellsOf n r, u.oneCell' = true := by
  intro u hu
  simp only [cellsOf, List.mem_map] at hu
  obtain ⟨j, _, rfl⟩ := hu
  rfl
theorem Rd.cells {w : World} {n : Nat} {r : Nat → Fe} {b off : Nat} (hc : ∀ j, j < n → w.cell? ⟨b, off + j, none⟩ = some (.int .u8 (fi (r j)))) : ∀ j u, (cellsOf n r)[j]? = some u → w.cell? ((⟨b, off, none⟩ : Addr).add j) = some u := by
  intro j u hu
  obtain ⟨hj, rfl⟩ := cellsOf_some hu
  rw [add_at]; exact hc j hj
theorem RowAt.of_owns {w : World} {base n : Nat} {r : Nat → Fe} {v : Value} (h : w.ownsRow base 5 1 v n (cellsOf n r)) (hn : 0 < n) :
    ∃ g C, v = .slice (some ⟨g, 0, none⟩) n C ∧ base ≤ g ∧ n ≤ C ∧ RowAt w g n r := by
  obtain ⟨g, C, h1, h2, h3, h4⟩ := RowV.of_owns h hn
  exact ⟨g, C, h1, h2, h3, RowV.congr h4 fun j hj => by rw [List.getD_eq_getElem?_getD, cellsOf_get hj]; rfl⟩
/-- a new matrix of n rows of m elements -/
def FreshMat (n m : Nat) (M : Mat) (w : World) (e : Ending) (w' : World) : Prop :=
  ∃ b G C, e = .returned (.slice (some ⟨b, 0, none⟩) n n) ∧ w.heap.size ≤ b ∧ OwnK w' w.heap.size b n n m G C M ∧ Below w.heap.size w w'

/-- the rows ahead of k are cleared -/
def elmK (k : Nat) (A : Mat) (i : Nat) (f : Nat → Fe) : Mat := fun r c => if r < k ∧ r ≠ i then A r c + f r * A i c else A r c
/-- what clearColumn does to A, as R tells it -/
def clr (R A : Mat) (i : Nat) : Mat := elm (scl A i (inv (R i i))) i (fun r => scl R i (inv (R i i)) r i)
theorem clr_swp (R A : Mat) (i p : Nat) : clr (swp R i p) (swp A i p) i = rnd R A i p := by
  have : swp R i p i i = R p i := if_pos rfl
  unfold clr rnd facs scaleOf
  rw [this]
theorem elmK_zero (A : Mat) (i : Nat) (f : Nat → Fe) : elmK 0 A i f = A := by
  funext r c
  exact if_neg (fun h => absurd h.1 (by omega))
theorem elmK_self (k : Nat) (A : Mat) (i : Nat) (f : Nat → Fe) : elmK k A i f i = A i := by
  funext c
  exact if_neg (fun h => h.2 rfl)
theorem elmK_here (k : Nat) (A : Mat) (i : Nat) (f : Nat → Fe) : elmK k A i f k = A k := by
  funext c
  exact if_neg (fun h => absurd h.1 (by omega))
theorem elmK_skip (A : Mat) (i : Nat) (f : Nat → Fe) : elmK (i + 1) A i f = elmK i A i f := by
  funext r c
  unfold elmK
  by_cases e : r < i
  · rw [if_pos ⟨by omega, by omega⟩, if_pos ⟨e, by omega⟩]
  · rw [if_neg (by omega), if_neg (by omega)]
theorem elmK_step {k : Nat} (A : Mat) {i : Nat} (hk : k ≠ i) (f : Nat → Fe) {a : Fe} (ha : f k = a) : (fun r => if r = k then (fun c => A k c + a * A i c) else elmK k A i f r) = elmK (k + 1) A i f := by
  subst ha
  funext r c
  unfold elmK
  by_cases e : r = k
  · subst e
    rw [if_pos rfl, if_pos ⟨by omega, hk⟩]
  · rw [if_neg e]
    by_cases e' : r < k ∧ r ≠ i
    · rw [if_pos e', if_pos ⟨by omega, e'.2⟩]
    · rw [if_neg e', if_neg (by omega)]
theorem elmK_all {n : Nat} (A : Mat) (i : Nat) (f : Nat → Fe) {r : Nat} (hr : r < n) (c : Nat) : elmK n A i f r c = elm A i f r c := by
  unfold elmK elm
  by_cases e : r = i
  · rw [if_neg (fun h => h.2 e), if_pos e, e]
  · rw [if_pos ⟨hr, e⟩, if_neg e]
/-- two matrices of a call's own, apart -/
structure Two (w : World) (B b b' n : Nat) (G C G' C' : Nat → Nat) (R V : Mat) : Prop where
  r : OwnK w B b n n n G C R
  v : OwnK w B b' n n n G' C' V
  bb : b ≠ b'
  gg : ∀ i j, i < n → j < n → G i ≠ G' j
namespace Two
variable {w w' : World} {B b b' n : Nat} {G C G' C' : Nat → Nat} {R V : Mat}
theorem flip (h : Two w B b b' n G C G' C' R V) : Two w B b' b n G' C' G C V R := ⟨h.v, h.r, fun e => h.bb e.symm, fun i j hi hj e => h.gg j i hj hi e.symm⟩
theorem turnR (h : Two w B b b' n G C G' C' R V) {i : Nat} (hi : i < n) {f : Nat → Fe} (hk : Kp (· = G i) w w') (hr : RowAt w' (G i) n f) : Two w' B b b' n G C G' C' (fun r => if r = i then f else R r) V :=
  ⟨h.r.turn hi hk hr, h.v.kp hk (fun e => RowV.ne (h.r.rows i hi) h.v.top (by decide) e.symm) (fun j hj e => h.gg i j hi hj e.symm), h.bb, h.gg⟩
theorem turnV (h : Two w B b b' n G C G' C' R V) {i : Nat} (hi : i < n) {f : Nat → Fe} (hk : Kp (· = G' i) w w') (hr : RowAt w' (G' i) n f) : Two w' B b b' n G C G' C' R (fun r => if r = i then f else V r) :=
  (h.flip.turnR hi hk hr).flip
theorem drew (h : Two w B b b' n G C G' C' R V) : Two w.drew B b b' n G C G' C' R V := ⟨h.r.drew, h.v.drew, h.bb, h.gg⟩
theorem congrs {R' V' : Mat} (h : Two w B b b' n G C G' C' R V) (hR : ∀ i, i < n → ∀ j, j < n → R i j = R' i j) (hV : ∀ i, i < n → ∀ j, j < n → V i j = V' i j) : Two w B b b' n G C G' C' R' V' :=
  ⟨h.r.congr hR, h.v.congr hV, h.bb, h.gg⟩
theorem cellR (h : Two w B b b' n G C G' C' R V) {i : Nat} (hi : i < n) : w.cell? ⟨b, i, none⟩ = some (.slice (some ⟨G i, 0, none⟩) n (C i)) := by
  rw [h.r.top.cell hi, if_pos hi]
theorem cellV (h : Two w B b b' n G C G' C' R V) {i : Nat} (hi : i < n) : w.cell? ⟨b', i, none⟩ = some (.slice (some ⟨G' i, 0, none⟩) n (C' i)) := by
  rw [h.v.top.cell hi, if_pos hi]
/-- two rows of the first are exchanged -/
theorem swapR (h : Two w B b b' n G C G' C' R V) {i p : Nat} (hi : i < n) (hp : p < n) :
    Two ((w.setCell ⟨b, i, none⟩ (.slice (some ⟨G p, 0, none⟩) n (C p))).setCell ⟨b, p, none⟩ (.slice (some ⟨G i, 0, none⟩) n (C i))).drew B b b' n
      (fun r => if r = i then G p else if r = p then G i else G r) (fun r => if r = i then C p else if r = p then C i else C r) G' C' (swp R i p) V := by
  have hk : Kp (· = b) w ((w.setCell ⟨b, i, none⟩ (.slice (some ⟨G p, 0, none⟩) n (C p))).setCell ⟨b, p, none⟩ (.slice (some ⟨G i, 0, none⟩) n (C i))).drew :=
    (((Kp.refl (· = b) w).setCell (p := ⟨b, i, none⟩) rfl _).setCell (p := ⟨b, p, none⟩) rfl _).drew
  have hv : ∀ j, j < n → G' j ≠ b := fun j hj => RowV.ne (h.v.rows j hj) h.r.top (by decide)
  refine ⟨h.r.swap hi hp (fun r hr => (h.r.rows r hr).kp hk (h.r.ne hr)) ?_, h.v.kp hk (fun e => h.bb e.symm) hv, h.bb, fun r j hr hj => ?_⟩
  · refine RowV.congr (((h.r.top.set i _).set p _)) fun r hr => ?_
    by_cases e1 : r = i <;> by_cases e2 : r = p
    · subst e1; subst e2; simp
    · simp only [if_pos e1, if_neg e2]
    · simp only [if_neg e1, if_pos e2]
    · simp only [if_neg e1, if_neg e2, if_pos hr]
  · by_cases e1 : r = i
    · simp only [if_pos e1]; exact h.gg p j hp hj
    · by_cases e2 : r = p
      · simp only [if_neg e1, if_pos e2]; exact h.gg i j hi hj
      · simp only [if_neg e1, if_neg e2]; exact h.gg r j hr hj
theorem swapV (h : Two w B b b' n G C G' C' R V) {i p : Nat} (hi : i < n) (hp : p < n) :
    Two ((w.setCell ⟨b', i, none⟩ (.slice (some ⟨G' p, 0, none⟩) n (C' p))).setCell ⟨b', p, none⟩ (.slice (some ⟨G' i, 0, none⟩) n (C' i))).drew B b b' n
      G C (fun r => if r = i then G' p else if r = p then G' i else G' r) (fun r => if r = i then C' p else if r = p then C' i else C' r) R (swp V i p) :=
  (h.flip.swapR hi hp).flip
end Two
/-- the blocks of the rows of both -/
def Both (n : Nat) (G G' : Nat → Nat) : Nat → Prop := fun x => (∃ i, i < n ∧ x = G i) ∨ ∃ i, i < n ∧ x = G' i
theorem scl_row (A : Mat) (i : Nat) (s : Fe) : (fun r => if r = i then (fun c => s * A i c) else A r) = scl A i s := by
  funext r c
  unfold scl
  by_cases e : r = i
  · rw [if_pos e, if_pos e]
  · rw [if_neg e, if_neg e]
/-- a matrix, and an error's number -/
def ResM (code : Int) (n m : Nat) (M : Mat) (w : World) (e : Ending) (w' : World) : Prop :=
  ∃ A C, e = .returned (.tuple #[.slice A n C, .int .i64 code]) ∧ RdM w' A n (fun _ => m) M (· < w'.heap.size) ∧ Below w.heap.size w w'
/-- what the way of Gauss and Jordan comes to -/
def InvRes (n : Nat) (M : Mat) (w : World) (e : Ending) (w' : World) : Prop :=
  match gjs n M n with
  | none => ResM 12 0 0 one w e w'
  | some (_, V) => ResM 0 n n V w e w'
theorem InvRes.even {n : Nat} {M : Mat} {w : World} {e : Ending} {w' : World} (h : gjs n M n = none) (hr : ResM 12 0 0 one w e w') : InvRes n M w e w' := by
  unfold InvRes; rw [h]; exact hr
theorem InvRes.ok {n : Nat} {M R V : Mat} {w : World} {e : Ending} {w' : World} (h : gjs n M n = some (R, V)) (hr : ResM 0 n n V w e w') : InvRes n M w e w' := by
  unfold InvRes; rw [h]; exact hr

def InvAny (n : Nat) (L : Nat → Nat) (M : Mat) (w : World) (e : Ending) (w' : World) : Prop :=
  if rightB n L = true ∧ n = L 0 then InvRes n M w e w' else ResM 1 0 0 one w e w'
theorem ResM.bad (w : World) {w' : World} (h : Below w.heap.size w w') : ResM 1 0 0 one w (.returned (.tuple #[.slice none 0 0, .int .i64 1])) w' := ⟨none, 0, rfl, RdM.empty _ _ _ _ _, h⟩
/-- a row, and an error's number -/
def ResV (code : Int) (n : Nat) (v : Nat → Fe) (w : World) (e : Ending) (w' : World) : Prop :=
  ∃ A C, e = .returned (.tuple #[.slice A n C, .int .i64 code]) ∧ Rd w' A n v (· < w'.heap.size) ∧ Below w.heap.size w w'
/-- a new row, and an error's number -/
def OwnV (code : Int) (n : Nat) (v : Nat → Fe) (w : World) (e : Ending) (w' : World) : Prop :=
  ∃ g C, e = .returned (.tuple #[.slice (some ⟨g, 0, none⟩) n C, .int .i64 code]) ∧ w.heap.size ≤ g ∧ RowAt w' g n v ∧ Below w.heap.size w w'
theorem OwnV.res {code : Int} {n : Nat} {v : Nat → Fe} {w : World} {e : Ending} {w' : World} (h : OwnV code n v w e w') : ResV code n v w e w' := by
  obtain ⟨g, C, he, _, hr, hb⟩ := h
  exact ⟨_, C, he, hr.rd _ hr.lt, hb⟩
theorem ResV.bad (w : World) {w' : World} (h : Below w.heap.size w w') : ResV 1 0 (fun _ => 0) w (.returned (.tuple #[.slice none 0 0, .int .i64 1])) w' := ⟨none, 0, rfl, Rd.empty _ _ _ _, h⟩
/-- the first rows are reckoned, of row i the first j terms -/
def part (f : Nat → Fe) (i : Nat) (s : Fe) : Nat → Fe := fun x => if x < i then f x else if x = i then s else 0
theorem part_set (f : Nat → Fe) (i : Nat) (s s' : Fe) (x : Nat) : (if x = i then s' else part f i s x) = part f i s' x := by
  unfold part
  by_cases e : x = i
  · rw [if_pos e, if_neg (by omega), if_pos e]
  · rw [if_neg e, if_neg e, if_neg e]
theorem part_next (f : Nat → Fe) (i : Nat) (x : Nat) : part f i (f i) x = part f (i + 1) 0 x := by
  unfold part
  by_cases e : x = i
  · rw [if_neg (by omega), if_pos e, if_pos (by omega), e]
  · by_cases e' : x < i
    · rw [if_pos e', if_pos (by omega)]
    · rw [if_neg e', if_neg e, if_neg (by omega)]
      by_cases e2 : x = i + 1
      · rw [if_pos e2]
      · rw [if_neg e2]
theorem part_at (f : Nat → Fe) (i : Nat) (s : Fe) : part f i s i = s := by unfold part; rw [if_neg (by omega), if_pos rfl]

def ApplyAny (n : Nat) (L : Nat → Nat) (M : Mat) (m : Nat) (v : Nat → Fe) (w : World) (e : Ending) (w' : World) : Prop :=
  if rightB n L = true ∧ L 0 = m then ResV 0 n (mv m M v) w e w' else ResV 1 0 (fun _ => 0) w e w'
/-- of row k the first terms are summed -/
theorem sumRow_step (MA MB : Mat) (X : Mat) (k j : Nat) : (fun r => if r = k then (fun c => (sm j fun t => MA k t * MB t c) + MA k j * MB j c) else (fun r => if r = k then (fun c => sm j fun t => MA k t * MB t c) else X r) r) = fun r => if r = k then (fun c => sm (j + 1) fun t => MA k t * MB t c) else X r := by
  funext r
  by_cases e : r = k
  · rw [if_pos e, if_pos e]; rfl
  · rw [if_neg e, if_neg e]; exact if_neg e

def MulAny (n : Nat) (L : Nat → Nat) (M : Mat) (n' : Nat) (L' : Nat → Nat) (M' : Mat) (w : World) (e : Ending) (w' : World) : Prop :=
  if rightB n L = true ∧ rightB n' L' = true ∧ L 0 = n' then ResM 0 n (L' 0) (mm n' M M') w e w' else ResM 1 0 0 one w e w'
/-- the element of that number -/
def el (n : Nat) : Fe := mk (n % 256) (Nat.mod_lt _ (by decide))
theorem fi_el {n : Nat} (h : n < 256) : fi (el n) = (n : Int) := by
  unfold fi el; rw [nat_mk, Nat.mod_eq_of_lt h]
theorem el_ne {i j : Nat} (hi : i < 256) (hj : j < 256) (h : i ≠ j) : el i ≠ el j := fun e => h (by
  have := congrArg fi e
  rw [fi_el hi, fi_el hj] at this; omega)
def cau (p : Nat) : Mat := fun i j => inv (el i + el (p + j))
theorem cau_int {p i j : Nat} (h : i < 256) (h' : p + j < 256) : ginv (gadd (i : Int) ((p : Int) + (j : Int))) = fi (cau p i j) := by
  unfold cau
  rw [← ginv_fi, ← gadd_fi, fi_el h, fi_el h']; congr 2

/-- the text of n bytes -/
def strOf (n : Nat) (r : Nat → Fe) : ByteArray := ((List.range n).map fun j => fi (r j)).foldl (fun s n => s.push (UInt8.ofNat n.toNat)) ByteArray.empty
theorem strOf_congr {n : Nat} {r s : Nat → Fe} (h : ∀ j, j < n → r j = s j) : strOf n r = strOf n s := by
  unfold strOf
  rw [List.map_congr_left (g := fun j => fi (s j)) (fun j hj => by rw [h j (List.mem_range.1 hj)])]
theorem str_run {w : World} {A : Option Addr} {n : Nat} {r : Nat → Fe} {G : Nat → Prop} (h : Rd w A n r G) (C : Nat) : (convert 34 9 (.slice A n C)).run Tryz.prog w = .ok (.string (strOf n r)) w := by
  rw [run_convert_bytes_string w 34 9 5 A n C Tryz.underlying34 Tryz.underlying5 Tryz.underlying9]
  cases A with
  | none =>
    have hn : n = 0 := by
      rcases Nat.eq_zero_or_pos n with h0 | h0
      · exact h0
      · obtain ⟨b, off, e, _⟩ := h h0; cases e
    subst hn
    rfl
  | some a =>
    refine run_bytesToString w a n C _ ?_
    rw [List.map_map]
    refine (run_loadCells w a n (fun j => .int .u8 (fi (r j))) fun j hj => ?_).trans ?_
    · obtain ⟨b, off, e, _, hc⟩ := h (by omega)
      cases e
      rw [add_at]; exact hc j hj
    · congr 1
theorem str_runD {w : World} {A : Option Addr} {n : Nat} {r : Nat → Fe} {G : Nat → Prop} (h : Rd w A n r G) (C q : Nat) : (convert 34 9 (.slice A n C)).run Tryz.prog (w.drewN q) = .ok (.string (strOf n r)) (w.drewN q) := str_run (w := w.drewN q) h C

/-- the rows as the cells of what holds them -/
def tops (k m : Nat) (G C : Nat → Nat) : List Value := (List.range k).map fun i => .slice (some ⟨G i, 0, none⟩) m (C i)
theorem tops_len (k m : Nat) (G C : Nat → Nat) : (tops k m G C).length = k := by simp [tops]
theorem tops_get {k m : Nat} {G C : Nat → Nat} {j : Nat} (hj : j < k) : (tops k m G C)[j]? = some (.slice (some ⟨G j, 0, none⟩) m (C j)) := by simp [tops, hj]
/-- a matrix that is made by append, row behind row -/
structure OwnA (w : World) (B : Nat) (v : Value) (k m : Nat) (G C : Nat → Nat) (M : Mat) : Prop where
  top : w.ownsRow B 34 1 v k (tops k m G C)
  cap : ∀ i, i < k → m ≤ C i
  rows : ∀ i, i < k → RowAt w (G i) m (M i)
  inj : ∀ i j, i < k → j < k → G i = G j → i = j
  lo : ∀ i, i < k → B ≤ G i
theorem owns_ne {w : World} {B : Nat} {t t' : TypeId} {v : Value} {k g n : Nat} {xs : List Value} {V : Nat → Value} (h : w.ownsRow B t 1 v k xs) (h' : RowV w t' g n V) (ht : t ≠ t') : some g ≠ v.ownBlock := by
  rcases h.2 with ⟨rfl, _⟩ | ⟨g', cap, cur, rfl, _, hh, _⟩
  · simp [Value.ownBlock]
  · intro e
    simp only [Value.ownBlock, Option.some.injEq] at e
    subst e
    obtain ⟨c, hb, _, _⟩ := h'
    rw [hh] at hb
    injection hb with hb
    injection hb with _ e
    exact ht e
namespace OwnA
variable {w w' : World} {B k m : Nat} {v v' : Value} {G C : Nat → Nat} {M M' : Mat}
theorem start (w : World) (B m : Nat) (G C : Nat → Nat) (M : Mat) : OwnA w B (.slice none 0 0) 0 m G C M :=
  ⟨World.ownsRow_nil _ _ _ _, fun i hi => absurd hi (by omega), fun i hi => absurd hi (by omega), fun i j hi => absurd hi (by omega), fun i hi => absurd hi (by omega)⟩
theorem old (h : OwnA w B v k m G C M) (hb : Below w.heap.size w w') : OwnA w' B v k m G C M :=
  ⟨h.top.kept (row := none) ⟨hb.os, hb.tape, hb.output, hb.size, fun i hi _ => hb.block i hi⟩ (by cases hv : v.ownBlock <;> simp), h.cap, fun i hi => (h.rows i hi).old hb, h.inj, h.lo⟩
theorem congr (h : OwnA w B v k m G C M) (e : ∀ i, i < k → ∀ j, j < m → M i j = M' i j) : OwnA w B v k m G C M' :=
  ⟨h.top, h.cap, fun i hi => (h.rows i hi).congr (e i hi), h.inj, h.lo⟩
/-- a row is appended -/
theorem push (h : OwnA w B v k m G C M) {o : Obj} (hg : (w.alloc o).grownBy w' v.ownBlock) {g c : Nat} {f : Nat → Fe} (hown : w'.ownsRow B 34 1 v' (k + 1) (tops k m G C ++ [.slice (some ⟨g, 0, none⟩) m c]))
    (hr : RowAt w g m f) (hne : ∀ i, i < k → G i ≠ g) (hB : B ≤ g) (hc : m ≤ c) : OwnA w' B v' (k + 1) m (fun i => if i = k then g else G i) (fun i => if i = k then c else C i) (fun i => if i = k then f else M i) := by
  have keep : ∀ {g' : Nat} {f' : Nat → Fe}, RowAt w g' m f' → RowAt w' g' m f' := fun {g' f'} h' =>
    h'.of_block ((hg.block g' (by have := h'.lt; simp; omega) (owns_ne h.top h' (by decide))).trans (Below.heap_alloc _ _ _ h'.lt))
  have ht : tops k m G C ++ [.slice (some ⟨g, 0, none⟩) m c] = tops (k + 1) m (fun i => if i = k then g else G i) (fun i => if i = k then c else C i) := by
    unfold tops
    rw [List.range_succ, List.map_append]
    congr 1
    · exact List.map_congr_left fun i hi => by
        have := List.mem_range.1 hi
        simp only [show ¬ i = k by omega, if_false]
    · simp
  rw [ht] at hown
  refine ⟨hown, fun i hi => ?_, fun i hi => ?_, fun i j hi hj e => ?_, fun i hi => ?_⟩
  · by_cases e : i = k
    · simp only [e, if_true]; exact hc
    · simp only [e, if_false]; exact h.cap i (by omega)
  · by_cases e : i = k
    · simp only [e, if_true]; exact keep hr
    · simp only [e, if_false]; exact keep (h.rows i (by omega))
  · by_cases e1 : i = k <;> by_cases e2 : j = k
    · omega
    · simp only [e1, e2, if_true, if_false] at e
      exact absurd e.symm (hne j (by omega))
    · simp only [e1, e2, if_true, if_false] at e
      exact absurd e (hne i (by omega))
    · simp only [e1, e2, if_false] at e
      exact h.inj i j (by omega) (by omega) e
  · by_cases e : i = k
    · simp only [e, if_true]; exact hB
    · simp only [e, if_false]; exact h.lo i (by omega)
/-- as a matrix with its rows laid -/
theorem own (h : OwnA w B v k m G C M) (hk : 0 < k) : ∃ b cp, v = .slice (some ⟨b, 0, none⟩) k cp ∧ B ≤ b ∧ k ≤ cp ∧ OwnK w B b k k m G C M := by
  obtain ⟨b, cp, h1, h2, h3, h4⟩ := RowV.of_owns h.top hk
  exact ⟨b, cp, h1, h2, h3, h4.congr fun j hj => by rw [if_pos hj, List.getD_eq_getElem?_getD, tops_get hj]; rfl, h.cap, h.rows, h.inj, h.lo⟩
end OwnA
theorem oneCell (w : World) (x : Value) (t : TypeId) : ∀ j u, [x][j]? = some u → (w.alloc (.cells #[x] t)).cell? ((⟨w.heap.size, 0, none⟩ : Addr).add j) = some u := by
  intro j u hj
  match j, hj with
  | 0, hj => simp at hj; subst hj; simp [Addr.add]
theorem oneSlice (a : Option Addr) (n c : Nat) : ∀ u ∈ [Value.slice a n c], u.oneCell' = true := by
  intro u hu; simp at hu; subst hu; rfl
theorem oneByte (x : Int) : ∀ u ∈ [Value.int .u8 x], u.oneCell' = true := by
  intro u hu; simp at hu; subst hu; rfl
theorem oneCellAt (w : World) (x : Value) (t : TypeId) (s : Nat) (hs : s = w.heap.size) : ∀ j u, [x][j]? = some u → (w.alloc (.cells #[x] t)).cell? ((⟨s, 0, none⟩ : Addr).add j) = some u := by
  subst hs; exact oneCell w x t
theorem own_old {w w' : World} {base : Nat} {t : TypeId} {v : Value} {k : Nat} {xs : List Value} (h : w.ownsRow base t 1 v k xs) (hb : Below w.heap.size w w') : w'.ownsRow base t 1 v k xs :=
  h.kept (row := none) ⟨hb.os, hb.tape, hb.output, hb.size, fun i hi _ => hb.block i hi⟩ (by cases hv : v.ownBlock <;> simp)
theorem cellsOf_succ (n : Nat) (r : Nat → Fe) : cellsOf n r ++ [.int .u8 (fi (r n))] = cellsOf (n + 1) r := by
  unfold cellsOf; rw [List.range_succ, List.map_append]; rfl
/-- a row with zeros behind it -/
theorem cellsOf_zeros (n m : Nat) (hm : n + n = m) (r : Nat → Fe) : cellsOf n r ++ List.replicate n (.int .u8 0) = cellsOf m (fun c => if c < n then r c else 0) := by
  subst hm
  unfold cellsOf
  apply List.ext_getElem?
  intro j
  rw [List.getElem?_append]
  simp only [List.length_map, List.length_range]
  by_cases h : j < n
  · rw [if_pos h]
    simp [h, show j < n + n by omega]
  · rw [if_neg h]
    by_cases h' : j < n + n
    · simp [h, h', show j - n < n by omega, fi_zero]
    · simp [h', show ¬ j - n < n by omega]
theorem aug_row {n m : Nat} (M : Mat) {i : Nat} : ∀ c, c < m → (if c = n + i then (1 : Fe) else if c < n then M i c else 0) = aug n M one i c := by
  intro c _
  unfold aug one
  by_cases h : c < n
  · simp only [if_neg (show ¬ c = n + i by omega), if_pos h]
  · simp only [if_neg h]
    by_cases h' : c = n + i
    · simp only [if_pos h', if_pos (show i = c - n by omega)]
    · simp only [if_neg h', if_neg (show ¬ i = c - n by omega)]
/-! ### The answers as functions of what was given -/
theorem InvAny.res (n : Nat) (L : Nat → Nat) (M : Mat) : ∃ (code : Int) (k q : Nat) (X : Mat), k ≤ 255 ∧ ∀ w e w', InvAny n L M w e w' → ResM code k q X w e w' := by
  by_cases h : rightB n L = true ∧ n = L 0
  · have hn := (rightB_true.1 h.1).2.1
    cases hg : gjs n M n with
    | none => exact ⟨12, 0, 0, one, by omega, fun w e w' hh => by unfold InvAny InvRes at hh; rw [if_pos h, hg] at hh; exact hh⟩
    | some s => exact ⟨0, n, n, s.2, hn, fun w e w' hh => by unfold InvAny InvRes at hh; rw [if_pos h, hg] at hh; exact hh⟩
  · exact ⟨1, 0, 0, one, by omega, fun w e w' hh => by unfold InvAny at hh; rw [if_neg h] at hh; exact hh⟩
theorem MulAny.res (n : Nat) (L : Nat → Nat) (M : Mat) (n' : Nat) (L' : Nat → Nat) (M' : Mat) : ∃ (code : Int) (k q : Nat) (X : Mat), k ≤ 255 ∧ ∀ w e w', MulAny n L M n' L' M' w e w' → ResM code k q X w e w' := by
  by_cases h : rightB n L = true ∧ rightB n' L' = true ∧ L 0 = n'
  · exact ⟨0, n, L' 0, mm n' M M', (rightB_true.1 h.1).2.1, fun w e w' hh => by unfold MulAny at hh; rw [if_pos h] at hh; exact hh⟩
  · exact ⟨1, 0, 0, one, by omega, fun w e w' hh => by unfold MulAny at hh; rw [if_neg h] at hh; exact hh⟩
theorem ApplyAny.res (n : Nat) (L : Nat → Nat) (M : Mat) (m : Nat) (v : Nat → Fe) : ∃ (code : Int) (k : Nat) (x : Nat → Fe), k ≤ 255 ∧ ∀ w e w', ApplyAny n L M m v w e w' → ResV code k x w e w' := by
  by_cases h : rightB n L = true ∧ L 0 = m
  · exact ⟨0, n, mv m M v, (rightB_true.1 h.1).2.1, fun w e w' hh => by unfold ApplyAny at hh; rw [if_pos h] at hh; exact hh⟩
  · exact ⟨1, 0, fun _ => 0, by omega, fun w e w' hh => by unfold ApplyAny at hh; rw [if_neg h] at hh; exact hh⟩
theorem cell_new (w : World) (c : Array Value) (t : TypeId) (s i : Nat) (hs : s = w.heap.size) : (w.alloc (.cells c t)).cell? ⟨s, i, none⟩ = c[i]? := by
  subst hs; exact cell_of_row _ _ _ _ _ (0, 0) (heap_alloc_new w _)
theorem cell_past (w : World) (o : Obj) (s i : Nat) (hs : s < w.heap.size) : (w.alloc o).cell? ⟨s, i, none⟩ = w.cell? ⟨s, i, none⟩ := World.cell?_alloc_lt w o _ hs
end Go.Proofs.YtcokmmanajdioaaGreat

namespace Go.Proofs.YtcokmmanajdioaaGreat.Mx

/-- the first free place from k on, going round, f places looked at -/
def nf (had : Nat → Bool) (n : Nat) : Nat → Nat → Nat
  | 0, k => k
  | f + 1, k => if had k = true then nf had n f ((k + 1) % n) else k
/-- what is taken, and the last one, behind j numbers -/
def plc (q : Nat → Nat) (n : Nat) : Nat → (Nat → Bool) × Nat
  | 0 => (fun _ => false, 0)
  | j + 1 => (fun x => if x = nf (plc q n j).1 n n (q j % n) then true else (plc q n j).1 x, nf (plc q n j).1 n n (q j % n))
def place (q : Nat → Nat) (n j : Nat) : Nat := (plc q n (j + 1)).2
def cnt (had : Nat → Bool) : Nat → Nat
  | 0 => 0
  | n + 1 => cnt had n + if had n = true then 1 else 0
theorem cnt_le (had : Nat → Bool) (n : Nat) : cnt had n ≤ n := by
  induction n with
  | zero => exact Nat.le_refl _
  | succ n ih => simp only [cnt]; split <;> omega
theorem cnt_free {had : Nat → Bool} {n : Nat} (h : cnt had n < n) : ∃ x, x < n ∧ had x = false := by
  induction n with
  | zero => omega
  | succ n ih =>
    by_cases e : had n = true
    · simp only [cnt, if_pos e] at h
      obtain ⟨x, hx, hf⟩ := ih (by omega)
      exact ⟨x, by omega, hf⟩
    · exact ⟨n, by omega, by simpa using e⟩
theorem cnt_congr {had had' : Nat → Bool} {n : Nat} (h : ∀ x, x < n → had x = had' x) : cnt had n = cnt had' n := by
  induction n with
  | zero => rfl
  | succ n ih => simp only [cnt, ih (fun x hx => h x (by omega)), h n (by omega)]
theorem cnt_set {had : Nat → Bool} {n k : Nat} (hk : k < n) (hf : had k = false) : cnt (fun x => if x = k then true else had x) n = cnt had n + 1 := by
  induction n with
  | zero => omega
  | succ n ih =>
    simp only [cnt]
    by_cases e : n = k
    · subst e
      rw [cnt_congr (had' := had) (fun x hx => if_neg (by omega))]
      simp [hf]
    · rw [ih (by omega)]
      simp only [if_neg e]
      omega
/-- a place that is free lies ahead -/
def reach (had : Nat → Bool) (n f k : Nat) : Prop := ∃ s, s < f ∧ had ((k + s) % n) = false
theorem reach_start {had : Nat → Bool} {n k : Nat} (hn : 0 < n) (hk : k < n) (h : cnt had n < n) : reach had n n k := by
  obtain ⟨x, hx, hf⟩ := cnt_free h
  refine ⟨(x + n - k) % n, Nat.mod_lt _ hn, ?_⟩
  rw [Nat.add_mod_mod, show k + (x + n - k) = x + n by omega, Nat.add_mod_right, Nat.mod_eq_of_lt hx]
  exact hf
theorem reach_pos {had : Nat → Bool} {n f k : Nat} (h : reach had n f k) : 0 < f := by
  obtain ⟨s, hs, _⟩ := h; omega
theorem reach_next {had : Nat → Bool} {n f k : Nat} (hk : k < n) (h : reach had n (f + 1) k) (ht : had k = true) : reach had n f ((k + 1) % n) := by
  obtain ⟨s, hs, hf⟩ := h
  cases s with
  | zero => rw [Nat.add_zero, Nat.mod_eq_of_lt hk, ht] at hf; cases hf
  | succ s => exact ⟨s, by omega, by rw [Nat.mod_add_mod, show k + 1 + s = k + (s + 1) by omega]; exact hf⟩
theorem nf_free {had : Nat → Bool} {n : Nat} (hn : 0 < n) : ∀ f k, k < n → reach had n f k → nf had n f k < n ∧ had (nf had n f k) = false := by
  intro f
  induction f with
  | zero => intro k _ h; have := reach_pos h; omega
  | succ f ih =>
    intro k hk h
    simp only [nf]
    by_cases e : had k = true
    · rw [if_pos e]; exact ih _ (Nat.mod_lt _ hn) (reach_next hk h e)
    · rw [if_neg e]; exact ⟨hk, by simpa using e⟩
theorem plc_cnt {q : Nat → Nat} {n : Nat} (hn : 0 < n) : ∀ j, j ≤ n → cnt (plc q n j).1 n = j := by
  intro j
  induction j with
  | zero =>
    intro _
    have : ∀ m, cnt (fun _ => false) m = 0 := by
      intro m
      induction m with
      | zero => rfl
      | succ m ih => simp [cnt, ih]
    exact this n
  | succ j ih =>
    intro hj
    have h := ih (by omega)
    have hr := nf_free hn n (q j % n) (Nat.mod_lt _ hn) (reach_start hn (Nat.mod_lt _ hn) (by omega : cnt (plc q n j).1 n < n))
    show cnt (fun x => if x = nf (plc q n j).1 n n (q j % n) then true else (plc q n j).1 x) n = j + 1
    rw [cnt_set hr.1 hr.2, h]
theorem plc_reach {q : Nat → Nat} {n j : Nat} (hj : j < n) : reach (plc q n j).1 n n (q j % n) :=
  reach_start (by omega) (Nat.mod_lt _ (by omega)) (by rw [plc_cnt (by omega) j (by omega)]; exact hj)
theorem place_lt {q : Nat → Nat} {n j : Nat} (hj : j < n) : place q n j < n ∧ (plc q n j).1 (place q n j) = false :=
  nf_free (by omega) n _ (Nat.mod_lt _ (by omega)) (plc_reach hj)
theorem plc_had {q : Nat → Nat} {n : Nat} (i : Nat) : ∀ j, i < j → (plc q n j).1 (place q n i) = true := by
  intro j
  induction j with
  | zero => intro h; omega
  | succ j ih =>
    intro h
    show (if place q n i = nf (plc q n j).1 n n (q j % n) then true else (plc q n j).1 (place q n i)) = true
    by_cases e : i = j
    · subst e; exact if_pos rfl
    · split
      · rfl
      · exact ih (by omega)
theorem place_ne {q : Nat → Nat} {n i j : Nat} (hj : j < n) (h : i < j) : place q n i ≠ place q n j := by
  intro e
  have h1 := plc_had (q := q) (n := n) i j h
  have h2 := (place_lt (q := q) hj).2
  rw [← e, h1] at h2
  cases h2
theorem place_apart {q : Nat → Nat} {n i j : Nat} (hi : i < n) (hj : j < n) (h : i ≠ j) : place q n i ≠ place q n j := by
  rcases Nat.lt_or_gt_of_ne h with h' | h'
  · exact place_ne hj h'
  · exact fun e => place_ne hi h' e.symm
end Go.Proofs.YtcokmmanajdioaaGreat.Mx
namespace Go.Proofs.YtcokmmanajdioaaGreat.Mx

/-- is it not 0? -/
def nz (a : Fe) : Bool := if a = 0 then false else true
theorem nz_false {a : Fe} (h : nz a = false) : a = 0 := by
  unfold nz at h
  by_cases e : a = 0
  · exact e
  · rw [if_neg e] at h; cases h
theorem nz_true {a : Fe} (h : a ≠ 0) : nz a = true := if_neg h
theorem nz_zero : nz (0 : Fe) = false := if_pos rfl

/-- a place that is taken is given back -/
theorem cnt_unset {had : Nat → Bool} {n k : Nat} (hk : k < n) (ht : had k = true) : cnt (fun x => if x = k then false else had x) n + 1 = cnt had n := by
  have h := cnt_set (had := fun x => if x = k then false else had x) hk (if_pos rfl)
  rw [← h]
  exact cnt_congr fun x _ => by
    by_cases e : x = k
    · simp only [if_pos e]; rw [e, ht]
    · simp only [if_neg e]
theorem cnt_mono {had had' : Nat → Bool} (h : ∀ x, had x = true → had' x = true) : ∀ n, cnt had n ≤ cnt had' n := by
  intro n
  induction n with
  | zero => exact Nat.le_refl _
  | succ n ih =>
    simp only [cnt]
    by_cases e : had n = true
    · rw [if_pos e, if_pos (h n e)]; omega
    · rw [if_neg e]; omega
theorem cnt_zero {had : Nat → Bool} : ∀ n, cnt had n = 0 → ∀ x, x < n → had x = false := by
  intro n
  induction n with
  | zero => intro _ x hx; omega
  | succ n ih =>
    intro h x hx
    simp only [cnt] at h
    by_cases e : had n = true
    · rw [if_pos e] at h; omega
    · rw [if_neg e] at h
      by_cases ex : x = n
      · rw [ex]; simpa using e
      · exact ih (by omega) x (by omega)
/-- unlike places that are taken: no more than there are taken -/
theorem cnt_inj {P : Nat → Bool} {n : Nat} (f : Nat → Nat) : ∀ m, (∀ t, t < m → f t < n ∧ P (f t) = true) → (∀ s t, s < m → t < m → f s = f t → s = t) → m ≤ cnt P n := by
  intro m
  induction m generalizing P with
  | zero => intro _ _; exact Nat.zero_le _
  | succ m ih =>
    intro h hinj
    have hm := h m (by omega)
    have h2 := cnt_unset hm.1 hm.2
    have h3 := ih (P := fun x => if x = f m then false else P x)
      (fun t ht => ⟨(h t (by omega)).1, by
        show (if f t = f m then false else P (f t)) = true
        rw [if_neg (fun e => by have := hinj t m (by omega) (by omega) e; omega)]
        exact (h t (by omega)).2⟩)
      (fun s t hs ht => hinj s t (by omega) (by omega))
    omega
theorem cnt_not (had : Nat → Bool) (n : Nat) : cnt had n + cnt (fun x => !had x) n = n := by
  induction n with
  | zero => rfl
  | succ n ih => cases h : had n <;> simp [cnt, h] <;> omega

/-- Cauchy's kernel, by how many of a column are not 0 -/
theorem gker : ∀ (k : Nat) (x y a : Nat → Fe) (n : Nat), (∀ i j, i < k → j < k → i ≠ j → x i ≠ x j) → (∀ i j, i < n → j < n → i ≠ j → y i ≠ y j) → (∀ i j, i < k → j < n → x i ≠ y j) →
    cnt (fun j => nz (a j)) n ≤ k → (∀ i, i < k → sm n (fun j => inv (x i + y j) * a j) = 0) → ∀ j, j < n → a j = 0 := by
  intro k
  induction k with
  | zero =>
    intro x y a n _ _ _ hc _ j hj
    exact nz_false (cnt_zero (had := fun j => nz (a j)) n (by omega) j hj)
  | succ k ih =>
    intro x y a n hx hy hxy hc h j hj
    by_cases hz : a j = 0
    · exact hz
    · exfalso
      have u1 : ∀ i l, i < k + 1 → l < n → (x i + y l) * inv (x i + y l) = 1 := fun i l hi hl => mul_inv (add_ne (hxy i l hi hl))
      have hb := ih x y (fun l => a l * ((y j + y l) * inv (x k + y l))) n (fun i i' hi hi' => hx i i' (by omega) (by omega)) hy (fun i l hi hl => hxy i l (by omega) hl) ?hcnt ?hsum
      case hcnt =>
        have h1 : cnt (fun l => nz (a l * ((y j + y l) * inv (x k + y l)))) n ≤ cnt (fun l => if l = j then false else nz (a l)) n := cnt_mono (fun l hl => by
          by_cases e : l = j
          · rw [e, add_self, zero_mul, mul_zero, nz_zero] at hl; cases hl
          · rw [if_neg e]
            by_cases e2 : a l = 0
            · rw [e2, zero_mul, nz_zero] at hl; cases hl
            · exact nz_true e2) n
        have h2 := cnt_unset (had := fun l => nz (a l)) hj (nz_true hz)
        omega
      case hsum =>
        intro i hi
        have hterm : ∀ l, l < n → (x i + y j) * (inv (x i + y l) * a l) + (x k + y j) * (inv (x k + y l) * a l) = (x i + x k) * (inv (x i + y l) * (a l * ((y j + y l) * inv (x k + y l)))) := by
          intro l hl
          have e1 := u1 i l (by omega) hl
          have e2 := u1 k l (by omega) hl
          generalize inv (x i + y l) = p at e1 ⊢
          generalize inv (x k + y l) = q at e2 ⊢
          have f1 : (x i + y j) * p = 1 + (y j + y l) * p := by
            rw [← e1, ← add_mul]; congr 1
            rw [add_assoc, add_comm (y j), add_self_left]
          have f2 : (x k + y j) * q = 1 + (y j + y l) * q := by
            rw [← e2, ← add_mul]; congr 1
            rw [add_assoc, add_comm (y j), add_self_left]
          have f3 : p + q = (x i + x k) * (p * q) := by
            have g1 : (x i + y l) * (p * q) = q := by rw [← mul_assoc, e1, one_mul]
            have g2 : (x k + y l) * (p * q) = p := by rw [mul_comm p q, ← mul_assoc, e2, one_mul]
            have g3 : (x i + y l) * (p * q) + (x k + y l) * (p * q) = (x i + x k) * (p * q) := by
              rw [← add_mul]; congr 1
              rw [add_assoc, add_left_comm (y l), add_self, add_zero]
            rw [g1, g2, add_comm] at g3
            exact g3
          rw [← mul_assoc, ← mul_assoc, ← add_mul, f1, f2]
          rw [show (1 : Fe) + (y j + y l) * p + (1 + (y j + y l) * q) = (y j + y l) * (p + q) by rw [mul_add, add_assoc, add_left_comm _ 1, add_self_left], f3]
          simp only [mul_comm, mul_left_comm]
        have hs : (x i + x k) * sm n (fun l => inv (x i + y l) * (a l * ((y j + y l) * inv (x k + y l)))) = 0 := by
          rw [← sm_mul, ← sm_congr hterm, sm_add, sm_mul, sm_mul, h i (by omega), h k (by omega), mul_zero, mul_zero, add_zero]
        exact eq_zero_of_mul (add_ne (hx i k (by omega) (by omega) (by omega))) hs
      have h0 : ∀ l, l < n → l ≠ j → a l = 0 := by
        intro l hl e
        have hbl := hb l hl
        have hne : (y j + y l) * inv (x k + y l) ≠ 0 := mul_ne (add_ne (hy j l hj hl (fun e' => e e'.symm))) (inv_ne (add_ne (hxy k l (by omega) hl)))
        rw [mul_comm] at hbl
        exact eq_zero_of_mul hne hbl
      have hk := h k (by omega)
      rw [sm_one hj (fun l hl e => by rw [h0 l hl e, mul_zero])] at hk
      exact hz (eq_zero_of_mul (inv_ne (add_ne (hxy k j (by omega) hj))) hk)

/-- the rows of the data, and below them those of parity -/
def enc (n : Nat) (Q : Mat) : Mat := fun r c => if r < n then one r c else Q (r - n) c
/-- any n rows of it, rising, make no column 0 but that of zeros -/
theorem enc_ker {n p : Nat} {Q : Mat} {x y : Nat → Fe} (hQ : ∀ i j, i < p → j < n → Q i j = inv (x i + y j))
    (hx : ∀ i j, i < p → j < p → i ≠ j → x i ≠ x j) (hy : ∀ i j, i < n → j < n → i ≠ j → y i ≠ y j) (hxy : ∀ i j, i < p → j < n → x i ≠ y j)
    {at_ : Nat → Nat} (hup : ∀ s t, s < t → t < n → at_ s < at_ t) (hlt : ∀ t, t < n → at_ t < n + p) (v : Nat → Fe) (h : ∀ t, t < n → mv n (fun t => enc n Q (at_ t)) v t = 0) : ∀ c, c < n → v c = 0 := by
  obtain ⟨m, hmn, hm1, hm2⟩ : ∃ m, m ≤ n ∧ (∀ t, t < m → at_ t < n) ∧ ∀ t, m ≤ t → t < n → n ≤ at_ t := by
    have key : ∀ d, d ≤ n → ∃ m, m ≤ d ∧ (∀ t, t < m → at_ t < n) ∧ ∀ t, m ≤ t → t < d → n ≤ at_ t := by
      intro d
      induction d with
      | zero => intro _; exact ⟨0, Nat.le_refl _, fun t ht => by omega, fun t _ ht => by omega⟩
      | succ d ih =>
        intro hd
        obtain ⟨m, h1, h2, h3⟩ := ih (by omega)
        by_cases e : at_ d < n
        · refine ⟨d + 1, Nat.le_refl _, fun t ht => ?_, fun t _ ht => by omega⟩
          by_cases et : t = d
          · rw [et]; exact e
          · have := hup t d (by omega) (by omega); omega
        · refine ⟨m, by omega, h2, fun t ht htd => ?_⟩
          by_cases et : t = d
          · rw [et]; omega
          · exact h3 t ht (by omega)
    exact key n (Nat.le_refl n)
  have hinj : ∀ s t, s < n → t < n → at_ s = at_ t → s = t := by
    intro s t hs ht e
    rcases Nat.lt_trichotomy s t with h1 | h1 | h1
    · have := hup s t h1 ht; omega
    · exact h1
    · have := hup t s h1 hs; omega
  have hzero : ∀ t, t < m → v (at_ t) = 0 := by
    intro t ht
    have h1 := h t (by omega)
    have h2 := hm1 t ht
    rw [show mv n (fun t => enc n Q (at_ t)) v t = mv n one v (at_ t) from sm_congr fun c _ => by
      show (if at_ t < n then one (at_ t) c else Q (at_ t - n) c) * v c = one (at_ t) c * v c
      rw [if_pos h2], mv_one h2] at h1
    exact h1
  have hcnt : cnt (fun c => nz (v c)) n ≤ n - m := by
    have h1 : m ≤ cnt (fun c => !nz (v c)) n := cnt_inj at_ m (fun t ht => ⟨hm1 t ht, by
      show (!nz (v (at_ t))) = true
      rw [hzero t ht, nz_zero]; rfl⟩) (fun s t hs ht => hinj s t (by omega) (by omega))
    have h2 := cnt_not (fun c => nz (v c)) n
    omega
  exact gker (n - m) (fun i => x (at_ (m + i) - n)) y v n
    (fun i j hi hj hne e => by
      have a1 := hm2 (m + i) (by omega) (by omega)
      have a2 := hm2 (m + j) (by omega) (by omega)
      have b1 := hlt (m + i) (by omega)
      have b2 := hlt (m + j) (by omega)
      exact hx (at_ (m + i) - n) (at_ (m + j) - n) (by omega) (by omega) (fun e' => hne (by have := hinj (m + i) (m + j) (by omega) (by omega) (by omega); omega)) e)
    hy
    (fun i j hi hj => by
      have a1 := hm2 (m + i) (by omega) (by omega)
      have b1 := hlt (m + i) (by omega)
      exact hxy (at_ (m + i) - n) j (by omega) hj)
    hcnt
    (fun i hi => by
      have a1 := hm2 (m + i) (by omega) (by omega)
      have b1 := hlt (m + i) (by omega)
      have h1 := h (m + i) (by omega)
      rw [← h1]
      exact sm_congr fun j hj => by
        show _ = (if at_ (m + i) < n then one (at_ (m + i)) j else Q (at_ (m + i) - n) j) * v j
        rw [if_neg (by omega), hQ (at_ (m + i) - n) j (by omega) hj])
/-- so each such choice has an inverse -/
theorem enc_some {n p : Nat} {Q : Mat} {x y : Nat → Fe} (hQ : ∀ i j, i < p → j < n → Q i j = inv (x i + y j))
    (hx : ∀ i j, i < p → j < p → i ≠ j → x i ≠ x j) (hy : ∀ i j, i < n → j < n → i ≠ j → y i ≠ y j) (hxy : ∀ i j, i < p → j < n → x i ≠ y j)
    {at_ : Nat → Nat} (hup : ∀ s t, s < t → t < n → at_ s < at_ t) (hlt : ∀ t, t < n → at_ t < n + p) : ∃ R V, gjs n (fun t => enc n Q (at_ t)) n = some (R, V) :=
  gjs_some fun v h => enc_ker hQ hx hy hxy hup hlt v h
end Go.Proofs.YtcokmmanajdioaaGreat.Mx
