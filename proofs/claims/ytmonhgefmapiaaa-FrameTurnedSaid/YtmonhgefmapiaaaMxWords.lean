/- Words for matrices in memory and for what calls answer, and the answers as functions of what was given. No function of the program. -/
import Derived.Test.YtmonhgefmapiaaaGfInts
import Derived.Test.YtmonhgefmapiaaaMxMem
import Derived.Test.YtmonhgefmapiaaaMxAug
import Derived.Test.YtmonhgefmapiaaaMxZeros
import Derived.Deep.QuietTactic
import Derived.BigQuiet
import Derived.StillTailTactics
import Derived.Handy
import Derived.OwnWalk
import Derived.Lib.SliceRun
import Derived.Laws.BytesString
import Derived.Laws.Cells
namespace Go.Proofs.Ytmonhgefmapiaaa
open Go.RowKit Mx


theorem gmul_fi (a b : Fe) : gmul (fi a) (fi b) = fi (a * b) := by
  unfold gmul; rw [fi_nat, fi_nat]; rfl
theorem gadd_fi (a b : Fe) : gadd (fi a) (fi b) = fi (a + b) := by
  unfold gadd; rw [fi_nat, fi_nat]; rfl
theorem ginv_fi (a : Fe) : ginv (fi a) = fi (inv a) := by
  unfold ginv fi; rw [Int.toNat_natCast, nat_inv]
theorem xor_fi (a b : Fe) : bits BinOp.xor IntKind.u8 (fi a) (fi b) = fi (a + b) := by
  unfold fi; rw [bits_xor_u8 _ _ a.nat_lt b.nat_lt, nat_add]
/-- may such rows be a matrix? -/
def rightB (n : Nat) (L : Nat → Nat) : Bool := decide (1 ≤ n ∧ n ≤ 255 ∧ 1 ≤ L 0 ∧ L 0 ≤ 255 ∧ ∀ i, i < n → L i = L 0)
theorem rightB_true {n : Nat} {L : Nat → Nat} : rightB n L = true ↔ 1 ≤ n ∧ n ≤ 255 ∧ 1 ≤ L 0 ∧ L 0 ≤ 255 ∧ ∀ i, i < n → L i = L 0 := decide_eq_true_iff
theorem rightB_false {n : Nat} {L : Nat → Nat} (h : ¬ (1 ≤ n ∧ n ≤ 255 ∧ 1 ≤ L 0 ∧ L 0 ≤ 255 ∧ ∀ i, i < n → L i = L 0)) : rightB n L = false := decide_eq_false h
def SomeBool (w : World) (e : Ending) (w' : World) : Prop := ∃ b : Bool, e = .returned (.bool b) ∧ w = w'
theorem upTo_step {f h : Nat → Fe} {k j : Nat} : (if j = k then h k else if j < k then h j else f j) = if j < k + 1 then h j else f j := by
  by_cases e : j = k
  · subst e; rw [if_pos rfl, if_pos (by omega)]
  · rw [if_neg e]
    by_cases e' : j < k
    · rw [if_pos e', if_pos (by omega)]
    · rw [if_neg e', if_neg (by omega)]
def pivI (n : Nat) (M : Mat) (i : Nat) : Int := if pvt M i (n - i) i < n then ((pvt M i (n - i) i : Nat) : Int) else -1
theorem pivI_at {n : Nat} {M : Mat} {i k : Nat} (hk : k < n) (h : pvt M i (n - i) i = k) : pivI n M i = (k : Int) := by
  unfold pivI; rw [h, if_pos hk]
theorem pivI_none {n : Nat} {M : Mat} {i : Nat} (h : ¬ pvt M i (n - i) i < n) : pivI n M i = -1 := by
  unfold pivI; rw [if_neg h]
theorem pvt_here {R : Mat} {i f k : Nat} (h : R k i ≠ 0) : pvt R i (f + 1) k = k := by simp only [pvt, if_neg h]
theorem pvt_next {R : Mat} {i f k : Nat} (h : R k i = 0) : pvt R i (f + 1) k = pvt R i f (k + 1) := by simp only [pvt, if_pos h]

theorem infoByte : (Try.prog.info? 5).map (fun i => (i.zero, i.size, i.bytes)) = some (some (.int .u8 0), 1, 1) := by kernel_rfl
theorem infoRow : (Try.prog.info? 22).map (fun i => (i.zero, i.size, i.bytes)) = some (some (.slice none 0 0), 1, 24) := by kernel_rfl
/-- a new row of n elements r -/
def FreshRow (n : Nat) (r : Nat → Fe) (w : World) (e : Ending) (w' : World) : Prop :=
  ∃ g C, e = .returned (.slice (some ⟨g, 0, none⟩) n C) ∧ w.heap.size ≤ g ∧ n ≤ C ∧ RowAt w' g n r ∧ Below w.heap.size w w'
def cellsOf (n : Nat) (r : Nat → Fe) : List Value := (List.range n).map fun j => .int .u8 (fi (r j))
theorem cellsOf_len (n : Nat) (r : Nat → Fe) : (cellsOf n r).length = n := by simp [cellsOf]
theorem cellsOf_get {n : Nat} {r : Nat → Fe} {j : Nat} (hj : j < n) : (cellsOf n r)[j]? = some (.int .u8 (fi (r j))) := by simp [cellsOf, hj]
theorem cellsOf_some {n : Nat} {r : Nat → Fe} {j : Nat} {u : Value} (h : (cellsOf n r)[j]? = some u) : j < n ∧ u = .int .u8 (fi (r j)) := by
  have hj : j < n := by
    rcases Nat.lt_or_ge j n with h' | h'
    · exact h'
    · rw [List.getElem?_eq_none (by rw [cellsOf_len]; exact h')] at h; cases h
  rw [cellsOf_get hj] at h
  exact ⟨hj, (Option.some.inj h).symm⟩
theorem add_at (b off j : Nat) : (⟨b, off, none⟩ : Addr).add j = ⟨b, off + j, none⟩ := by
  unfold Addr.add
  by_cases h : j = 0 <;> simp [h]
theorem cellsOf_one {n : Nat} {r : Nat → Fe} : ∀ u ∈ cellsOf n r, u.oneCell' = true := by
  intro u hu
  simp only [cellsOf, List.mem_map] at hu
  obtain ⟨j, _, rfl⟩ := hu
  rfl
theorem Rd.cells {w : World} {n : Nat} {r : Nat → Fe} {b off : Nat} (hc : ∀ j, j < n → w.cell? ⟨b, off + j, none⟩ = some (.int .u8 (fi (r j)))) : ∀ j u, (cellsOf n r)[j]? = some u → w.cell? ((⟨b, off, none⟩ : Addr).add j) = some u := by
  intro j u hu
  obtain ⟨hj, rfl⟩ := cellsOf_some hu
  rw [add_at]; exact hc j hj
theorem RowAt.of_owns {w : World} {base n : Nat} {r : Nat → Fe} {v : Value} (h : w.ownsRow base 5 1 v n (cellsOf n r)) (hn : 0 < n) :
    ∃ g C, v = .slice (some ⟨g, 0, none⟩) n C ∧ base ≤ g ∧ n ≤ C ∧ RowAt w g n r := by
  obtain ⟨g, C, h1, h2, h3, h4⟩ := RowV.of_owns h hn
  exact ⟨g, C, h1, h2, h3, RowV.congr h4 fun j hj => by rw [List.getD_eq_getElem?_getD, cellsOf_get hj]; rfl⟩
/-- a new matrix of n rows of m elements -/
def FreshMat (n m : Nat) (M : Mat) (w : World) (e : Ending) (w' : World) : Prop :=
  ∃ b G C, e = .returned (.slice (some ⟨b, 0, none⟩) n n) ∧ w.heap.size ≤ b ∧ OwnK w' w.heap.size b n n m G C M ∧ Below w.heap.size w w'

/-- the rows ahead of k are cleared -/
def elmK (k : Nat) (A : Mat) (i : Nat) (f : Nat → Fe) : Mat := fun r c => if r < k ∧ r ≠ i then A r c + f r * A i c else A r c
/-- what clearColumn does to A, as R tells it -/
def clr (R A : Mat) (i : Nat) : Mat := elm (scl A i (inv (R i i))) i (fun r => scl R i (inv (R i i)) r i)
theorem clr_swp (R A : Mat) (i p : Nat) : clr (swp R i p) (swp A i p) i = rnd R A i p := by
  have : swp R i p i i = R p i := if_pos rfl
  unfold clr rnd facs scaleOf
  rw [this]
theorem elmK_zero (A : Mat) (i : Nat) (f : Nat → Fe) : elmK 0 A i f = A := by
  funext r c
  exact if_neg (fun h => absurd h.1 (by omega))
theorem elmK_self (k : Nat) (A : Mat) (i : Nat) (f : Nat → Fe) : elmK k A i f i = A i := by
  funext c
  exact if_neg (fun h => h.2 rfl)
theorem elmK_here (k : Nat) (A : Mat) (i : Nat) (f : Nat → Fe) : elmK k A i f k = A k := by
  funext c
  exact if_neg (fun h => absurd h.1 (by omega))
theorem elmK_skip (A : Mat) (i : Nat) (f : Nat → Fe) : elmK (i + 1) A i f = elmK i A i f := by
  funext r c
  unfold elmK
  by_cases e : r < i
  · rw [if_pos ⟨by omega, by omega⟩, if_pos ⟨e, by omega⟩]
  · rw [if_neg (by omega), if_neg (by omega)]
theorem elmK_step {k : Nat} (A : Mat) {i : Nat} (hk : k ≠ i) (f : Nat → Fe) {a : Fe} (ha : f k = a) : (fun r => if r = k then (fun c => A k c + a * A i c) else elmK k A i f r) = elmK (k + 1) A i f := by
  subst ha
  funext r c
  unfold elmK
  by_cases e : r = k
  · subst e
    rw [if_pos rfl, if_pos ⟨by omega, hk⟩]
  · rw [if_neg e]
    by_cases e' : r < k ∧ r ≠ i
    · rw [if_pos e', if_pos ⟨by omega, e'.2⟩]
    · rw [if_neg e', if_neg (by omega)]
theorem elmK_all {n : Nat} (A : Mat) (i : Nat) (f : Nat → Fe) {r : Nat} (hr : r < n) (c : Nat) : elmK n A i f r c = elm A i f r c := by
  unfold elmK elm
  by_cases e : r = i
  · rw [if_neg (fun h => h.2 e), if_pos e, e]
  · rw [if_pos ⟨hr, e⟩, if_neg e]
/-- two matrices of a call's own, apart -/
structure Two (w : World) (B b b' n : Nat) (G C G' C' : Nat → Nat) (R V : Mat) : Prop where
  r : OwnK w B b n n n G C R
  v : OwnK w B b' n n n G' C' V
  bb : b ≠ b'
  gg : ∀ i j, i < n → j < n → G i ≠ G' j
namespace Two
variable {w w' : World} {B b b' n : Nat} {G C G' C' : Nat → Nat} {R V : Mat}
theorem flip (h : Two w B b b' n G C G' C' R V) : Two w B b' b n G' C' G C V R := ⟨h.v, h.r, fun e => h.bb e.symm, fun i j hi hj e => h.gg j i hj hi e.symm⟩
theorem turnR (h : Two w B b b' n G C G' C' R V) {i : Nat} (hi : i < n) {f : Nat → Fe} (hk : Kp (· = G i) w w') (hr : RowAt w' (G i) n f) : Two w' B b b' n G C G' C' (fun r => if r = i then f else R r) V :=
  ⟨h.r.turn hi hk hr, h.v.kp hk (fun e => RowV.ne (h.r.rows i hi) h.v.top (by decide) e.symm) (fun j hj e => h.gg i j hi hj e.symm), h.bb, h.gg⟩
theorem turnV (h : Two w B b b' n G C G' C' R V) {i : Nat} (hi : i < n) {f : Nat → Fe} (hk : Kp (· = G' i) w w') (hr : RowAt w' (G' i) n f) : Two w' B b b' n G C G' C' R (fun r => if r = i then f else V r) :=
  (h.flip.turnR hi hk hr).flip
theorem drew (h : Two w B b b' n G C G' C' R V) : Two w.drew B b b' n G C G' C' R V := ⟨h.r.drew, h.v.drew, h.bb, h.gg⟩
theorem congrs {R' V' : Mat} (h : Two w B b b' n G C G' C' R V) (hR : ∀ i, i < n → ∀ j, j < n → R i j = R' i j) (hV : ∀ i, i < n → ∀ j, j < n → V i j = V' i j) : Two w B b b' n G C G' C' R' V' :=
  ⟨h.r.congr hR, h.v.congr hV, h.bb, h.gg⟩
theorem cellR (h : Two w B b b' n G C G' C' R V) {i : Nat} (hi : i < n) : w.cell? ⟨b, i, none⟩ = some (.slice (some ⟨G i, 0, none⟩) n (C i)) := by
  rw [h.r.top.cell hi, if_pos hi]
theorem cellV (h : Two w B b b' n G C G' C' R V) {i : Nat} (hi : i < n) : w.cell? ⟨b', i, none⟩ = some (.slice (some ⟨G' i, 0, none⟩) n (C' i)) := by
  rw [h.v.top.cell hi, if_pos hi]
/-- two rows of the first are exchanged -/
theorem swapR (h : Two w B b b' n G C G' C' R V) {i p : Nat} (hi : i < n) (hp : p < n) :
    Two ((w.setCell ⟨b, i, none⟩ (.slice (some ⟨G p, 0, none⟩) n (C p))).setCell ⟨b, p, none⟩ (.slice (some ⟨G i, 0, none⟩) n (C i))).drew B b b' n
      (fun r => if r = i then G p else if r = p then G i else G r) (fun r => if r = i then C p else if r = p then C i else C r) G' C' (swp R i p) V := by
  have hk : Kp (· = b) w ((w.setCell ⟨b, i, none⟩ (.slice (some ⟨G p, 0, none⟩) n (C p))).setCell ⟨b, p, none⟩ (.slice (some ⟨G i, 0, none⟩) n (C i))).drew :=
    (((Kp.refl (· = b) w).setCell (p := ⟨b, i, none⟩) rfl _).setCell (p := ⟨b, p, none⟩) rfl _).drew
  have hv : ∀ j, j < n → G' j ≠ b := fun j hj => RowV.ne (h.v.rows j hj) h.r.top (by decide)
  refine ⟨h.r.swap hi hp (fun r hr => (h.r.rows r hr).kp hk (h.r.ne hr)) ?_, h.v.kp hk (fun e => h.bb e.symm) hv, h.bb, fun r j hr hj => ?_⟩
  · refine RowV.congr (((h.r.top.set i _).set p _)) fun r hr => ?_
    by_cases e1 : r = i <;> by_cases e2 : r = p
    · subst e1; subst e2; simp
    · simp only [if_pos e1, if_neg e2]
    · simp only [if_neg e1, if_pos e2]
    · simp only [if_neg e1, if_neg e2, if_pos hr]
  · by_cases e1 : r = i
    · simp only [if_pos e1]; exact h.gg p j hp hj
    · by_cases e2 : r = p
      · simp only [if_neg e1, if_pos e2]; exact h.gg i j hi hj
      · simp only [if_neg e1, if_neg e2]; exact h.gg r j hr hj
theorem swapV (h : Two w B b b' n G C G' C' R V) {i p : Nat} (hi : i < n) (hp : p < n) :
    Two ((w.setCell ⟨b', i, none⟩ (.slice (some ⟨G' p, 0, none⟩) n (C' p))).setCell ⟨b', p, none⟩ (.slice (some ⟨G' i, 0, none⟩) n (C' i))).drew B b b' n
      G C (fun r => if r = i then G' p else if r = p then G' i else G' r) (fun r => if r = i then C' p else if r = p then C' i else C' r) R (swp V i p) :=
  (h.flip.swapR hi hp).flip
end Two
/-- the blocks of the rows of both -/
def Both (n : Nat) (G G' : Nat → Nat) : Nat → Prop := fun x => (∃ i, i < n ∧ x = G i) ∨ ∃ i, i < n ∧ x = G' i
theorem scl_row (A : Mat) (i : Nat) (s : Fe) : (fun r => if r = i then (fun c => s * A i c) else A r) = scl A i s := by
  funext r c
  unfold scl
  by_cases e : r = i
  · rw [if_pos e, if_pos e]
  · rw [if_neg e, if_neg e]
/-- a matrix, and an error's number -/
def ResM (code : Int) (n m : Nat) (M : Mat) (w : World) (e : Ending) (w' : World) : Prop :=
  ∃ A C, e = .returned (.tuple #[.slice A n C, .int .i64 code]) ∧ RdM w' A n (fun _ => m) M (· < w'.heap.size) ∧ Below w.heap.size w w'
/-- what the way of Gauss and Jordan comes to -/
def InvRes (n : Nat) (M : Mat) (w : World) (e : Ending) (w' : World) : Prop :=
  match gjs n M n with
  | none => ResM 12 0 0 one w e w'
  | some (_, V) => ResM 0 n n V w e w'
theorem InvRes.even {n : Nat} {M : Mat} {w : World} {e : Ending} {w' : World} (h : gjs n M n = none) (hr : ResM 12 0 0 one w e w') : InvRes n M w e w' := by
  unfold InvRes; rw [h]; exact hr
theorem InvRes.ok {n : Nat} {M R V : Mat} {w : World} {e : Ending} {w' : World} (h : gjs n M n = some (R, V)) (hr : ResM 0 n n V w e w') : InvRes n M w e w' := by
  unfold InvRes; rw [h]; exact hr

def InvAny (n : Nat) (L : Nat → Nat) (M : Mat) (w : World) (e : Ending) (w' : World) : Prop :=
  if rightB n L = true ∧ n = L 0 then InvRes n M w e w' else ResM 1 0 0 one w e w'
theorem ResM.bad (w : World) {w' : World} (h : Below w.heap.size w w') : ResM 1 0 0 one w (.returned (.tuple #[.slice none 0 0, .int .i64 1])) w' := ⟨none, 0, rfl, RdM.empty _ _ _ _ _, h⟩
/-- a row, and an error's number -/
def ResV (code : Int) (n : Nat) (v : Nat → Fe) (w : World) (e : Ending) (w' : World) : Prop :=
  ∃ A C, e = .returned (.tuple #[.slice A n C, .int .i64 code]) ∧ Rd w' A n v (· < w'.heap.size) ∧ Below w.heap.size w w'
/-- a new row, and an error's number -/
def OwnV (code : Int) (n : Nat) (v : Nat → Fe) (w : World) (e : Ending) (w' : World) : Prop :=
  ∃ g C, e = .returned (.tuple #[.slice (some ⟨g, 0, none⟩) n C, .int .i64 code]) ∧ w.heap.size ≤ g ∧ RowAt w' g n v ∧ Below w.heap.size w w'
theorem OwnV.res {code : Int} {n : Nat} {v : Nat → Fe} {w : World} {e : Ending} {w' : World} (h : OwnV code n v w e w') : ResV code n v w e w' := by
  obtain ⟨g, C, he, _, hr, hb⟩ := h
  exact ⟨_, C, he, hr.rd _ hr.lt, hb⟩
theorem ResV.bad (w : World) {w' : World} (h : Below w.heap.size w w') : ResV 1 0 (fun _ => 0) w (.returned (.tuple #[.slice none 0 0, .int .i64 1])) w' := ⟨none, 0, rfl, Rd.empty _ _ _ _, h⟩
/-- the first rows are reckoned, of row i the first j terms -/
def part (f : Nat → Fe) (i : Nat) (s : Fe) : Nat → Fe := fun x => if x < i then f x else if x = i then s else 0
theorem part_set (f : Nat → Fe) (i : Nat) (s s' : Fe) (x : Nat) : (if x = i then s' else part f i s x) = part f i s' x := by
  unfold part
  by_cases e : x = i
  · rw [if_pos e, if_neg (by omega), if_pos e]
  · rw [if_neg e, if_neg e, if_neg e]
theorem part_next (f : Nat → Fe) (i : Nat) (x : Nat) : part f i (f i) x = part f (i + 1) 0 x := by
  unfold part
  by_cases e : x = i
  · rw [if_neg (by omega), if_pos e, if_pos (by omega), e]
  · by_cases e' : x < i
    · rw [if_pos e', if_pos (by omega)]
    · rw [if_neg e', if_neg e, if_neg (by omega)]
      by_cases e2 : x = i + 1
      · rw [if_pos e2]
      · rw [if_neg e2]
theorem part_at (f : Nat → Fe) (i : Nat) (s : Fe) : part f i s i = s := by unfold part; rw [if_neg (by omega), if_pos rfl]

def ApplyAny (n : Nat) (L : Nat → Nat) (M : Mat) (m : Nat) (v : Nat → Fe) (w : World) (e : Ending) (w' : World) : Prop :=
  if rightB n L = true ∧ L 0 = m then ResV 0 n (mv m M v) w e w' else ResV 1 0 (fun _ => 0) w e w'
/-- of row k the first terms are summed -/
theorem sumRow_step (MA MB : Mat) (X : Mat) (k j : Nat) : (fun r => if r = k then (fun c => (sm j fun t => MA k t * MB t c) + MA k j * MB j c) else (fun r => if r = k then (fun c => sm j fun t => MA k t * MB t c) else X r) r) = fun r => if r = k then (fun c => sm (j + 1) fun t => MA k t * MB t c) else X r := by
  funext r
  by_cases e : r = k
  · rw [if_pos e, if_pos e]; rfl
  · rw [if_neg e, if_neg e]; exact if_neg e

def MulAny (n : Nat) (L : Nat → Nat) (M : Mat) (n' : Nat) (L' : Nat → Nat) (M' : Mat) (w : World) (e : Ending) (w' : World) : Prop :=
  if rightB n L = true ∧ rightB n' L' = true ∧ L 0 = n' then ResM 0 n (L' 0) (mm n' M M') w e w' else ResM 1 0 0 one w e w'
/-- the element of that number -/
def el (n : Nat) : Fe := mk (n % 256) (Nat.mod_lt _ (by decide))
theorem fi_el {n : Nat} (h : n < 256) : fi (el n) = (n : Int) := by
  unfold fi el; rw [nat_mk, Nat.mod_eq_of_lt h]
theorem el_ne {i j : Nat} (hi : i < 256) (hj : j < 256) (h : i ≠ j) : el i ≠ el j := fun e => h (by
  have := congrArg fi e
  rw [fi_el hi, fi_el hj] at this; omega)
def cau (p : Nat) : Mat := fun i j => inv (el i + el (p + j))
theorem cau_int {p i j : Nat} (h : i < 256) (h' : p + j < 256) : ginv (gadd (i : Int) ((p : Int) + (j : Int))) = fi (cau p i j) := by
  unfold cau
  rw [← ginv_fi, ← gadd_fi, fi_el h, fi_el h']; congr 2

/-- the text of n bytes -/
def strOf (n : Nat) (r : Nat → Fe) : ByteArray := ((List.range n).map fun j => fi (r j)).foldl (fun s n => s.push (UInt8.ofNat n.toNat)) ByteArray.empty
theorem strOf_congr {n : Nat} {r s : Nat → Fe} (h : ∀ j, j < n → r j = s j) : strOf n r = strOf n s := by
  unfold strOf
  rw [List.map_congr_left (g := fun j => fi (s j)) (fun j hj => by rw [h j (List.mem_range.1 hj)])]
theorem str_run {w : World} {A : Option Addr} {n : Nat} {r : Nat → Fe} {G : Nat → Prop} (h : Rd w A n r G) (C : Nat) : (convert 22 9 (.slice A n C)).run Try.prog w = .ok (.string (strOf n r)) w := by
  rw [run_convert_bytes_string w 22 9 5 A n C Try.underlying22 Try.underlying5 Try.underlying9]
  cases A with
  | none =>
    have hn : n = 0 := by
      rcases Nat.eq_zero_or_pos n with h0 | h0
      · exact h0
      · obtain ⟨b, off, e, _⟩ := h h0; cases e
    subst hn
    rfl
  | some a =>
    refine run_bytesToString w a n C _ ?_
    rw [List.map_map]
    refine (run_loadCells w a n (fun j => .int .u8 (fi (r j))) fun j hj => ?_).trans ?_
    · obtain ⟨b, off, e, _, hc⟩ := h (by omega)
      cases e
      rw [add_at]; exact hc j hj
    · congr 1
theorem str_runD {w : World} {A : Option Addr} {n : Nat} {r : Nat → Fe} {G : Nat → Prop} (h : Rd w A n r G) (C q : Nat) : (convert 22 9 (.slice A n C)).run Try.prog (w.drewN q) = .ok (.string (strOf n r)) (w.drewN q) := str_run (w := w.drewN q) h C

/-- the rows as the cells of what holds them -/
def tops (k m : Nat) (G C : Nat → Nat) : List Value := (List.range k).map fun i => .slice (some ⟨G i, 0, none⟩) m (C i)
theorem tops_len (k m : Nat) (G C : Nat → Nat) : (tops k m G C).length = k := by simp [tops]
theorem tops_get {k m : Nat} {G C : Nat → Nat} {j : Nat} (hj : j < k) : (tops k m G C)[j]? = some (.slice (some ⟨G j, 0, none⟩) m (C j)) := by simp [tops, hj]
/-- a matrix that is made by append, row behind row -/
structure OwnA (w : World) (B : Nat) (v : Value) (k m : Nat) (G C : Nat → Nat) (M : Mat) : Prop where
  top : w.ownsRow B 22 1 v k (tops k m G C)
  cap : ∀ i, i < k → m ≤ C i
  rows : ∀ i, i < k → RowAt w (G i) m (M i)
  inj : ∀ i j, i < k → j < k → G i = G j → i = j
  lo : ∀ i, i < k → B ≤ G i
theorem owns_ne {w : World} {B : Nat} {t t' : TypeId} {v : Value} {k g n : Nat} {xs : List Value} {V : Nat → Value} (h : w.ownsRow B t 1 v k xs) (h' : RowV w t' g n V) (ht : t ≠ t') : some g ≠ v.ownBlock := by
  rcases h.2 with ⟨rfl, _⟩ | ⟨g', cap, cur, rfl, _, hh, _⟩
  · simp [Value.ownBlock]
  · intro e
    simp only [Value.ownBlock, Option.some.injEq] at e
    subst e
    obtain ⟨c, hb, _, _⟩ := h'
    rw [hh] at hb
    injection hb with hb
    injection hb with _ e
    exact ht e
namespace OwnA
variable {w w' : World} {B k m : Nat} {v v' : Value} {G C : Nat → Nat} {M M' : Mat}
theorem start (w : World) (B m : Nat) (G C : Nat → Nat) (M : Mat) : OwnA w B (.slice none 0 0) 0 m G C M :=
  ⟨World.ownsRow_nil _ _ _ _, fun i hi => absurd hi (by omega), fun i hi => absurd hi (by omega), fun i j hi => absurd hi (by omega), fun i hi => absurd hi (by omega)⟩
theorem old (h : OwnA w B v k m G C M) (hb : Below w.heap.size w w') : OwnA w' B v k m G C M :=
  ⟨h.top.kept (row := none) ⟨hb.os, hb.tape, hb.output, hb.size, fun i hi _ => hb.block i hi⟩ (by cases hv : v.ownBlock <;> simp), h.cap, fun i hi => (h.rows i hi).old hb, h.inj, h.lo⟩
theorem congr (h : OwnA w B v k m G C M) (e : ∀ i, i < k → ∀ j, j < m → M i j = M' i j) : OwnA w B v k m G C M' :=
  ⟨h.top, h.cap, fun i hi => (h.rows i hi).congr (e i hi), h.inj, h.lo⟩
/-- a row is appended -/
theorem push (h : OwnA w B v k m G C M) {o : Obj} (hg : (w.alloc o).grownBy w' v.ownBlock) {g c : Nat} {f : Nat → Fe} (hown : w'.ownsRow B 22 1 v' (k + 1) (tops k m G C ++ [.slice (some ⟨g, 0, none⟩) m c]))
    (hr : RowAt w g m f) (hne : ∀ i, i < k → G i ≠ g) (hB : B ≤ g) (hc : m ≤ c) : OwnA w' B v' (k + 1) m (fun i => if i = k then g else G i) (fun i => if i = k then c else C i) (fun i => if i = k then f else M i) := by
  have keep : ∀ {g' : Nat} {f' : Nat → Fe}, RowAt w g' m f' → RowAt w' g' m f' := fun {g' f'} h' =>
    h'.of_block ((hg.block g' (by have := h'.lt; simp; omega) (owns_ne h.top h' (by decide))).trans (Below.heap_alloc _ _ _ h'.lt))
  have ht : tops k m G C ++ [.slice (some ⟨g, 0, none⟩) m c] = tops (k + 1) m (fun i => if i = k then g else G i) (fun i => if i = k then c else C i) := by
    unfold tops
    rw [List.range_succ, List.map_append]
    congr 1
    · exact List.map_congr_left fun i hi => by
        have := List.mem_range.1 hi
        simp only [show ¬ i = k by omega, if_false]
    · simp
  rw [ht] at hown
  refine ⟨hown, fun i hi => ?_, fun i hi => ?_, fun i j hi hj e => ?_, fun i hi => ?_⟩
  · by_cases e : i = k
    · simp only [e, if_true]; exact hc
    · simp only [e, if_false]; exact h.cap i (by omega)
  · by_cases e : i = k
    · simp only [e, if_true]; exact keep hr
    · simp only [e, if_false]; exact keep (h.rows i (by omega))
  · by_cases e1 : i = k <;> by_cases e2 : j = k
    · omega
    · simp only [e1, e2, if_true, if_false] at e
      exact absurd e.symm (hne j (by omega))
    · simp only [e1, e2, if_true, if_false] at e
      exact absurd e (hne i (by omega))
    · simp only [e1, e2, if_false] at e
      exact h.inj i j (by omega) (by omega) e
  · by_cases e : i = k
    · simp only [e, if_true]; exact hB
    · simp only [e, if_false]; exact h.lo i (by omega)
/-- as a matrix with its rows laid -/
theorem own (h : OwnA w B v k m G C M) (hk : 0 < k) : ∃ b cp, v = .slice (some ⟨b, 0, none⟩) k cp ∧ B ≤ b ∧ k ≤ cp ∧ OwnK w B b k k m G C M := by
  obtain ⟨b, cp, h1, h2, h3, h4⟩ := RowV.of_owns h.top hk
  exact ⟨b, cp, h1, h2, h3, h4.congr fun j hj => by rw [if_pos hj, List.getD_eq_getElem?_getD, tops_get hj]; rfl, h.cap, h.rows, h.inj, h.lo⟩
end OwnA
theorem oneCell (w : World) (x : Value) (t : TypeId) : ∀ j u, [x][j]? = some u → (w.alloc (.cells #[x] t)).cell? ((⟨w.heap.size, 0, none⟩ : Addr).add j) = some u := by
  intro j u hj
  match j, hj with
  | 0, hj => simp at hj; subst hj; simp [Addr.add]
theorem oneSlice (a : Option Addr) (n c : Nat) : ∀ u ∈ [Value.slice a n c], u.oneCell' = true := by
  intro u hu; simp at hu; subst hu; rfl
theorem oneByte (x : Int) : ∀ u ∈ [Value.int .u8 x], u.oneCell' = true := by
  intro u hu; simp at hu; subst hu; rfl
theorem oneCellAt (w : World) (x : Value) (t : TypeId) (s : Nat) (hs : s = w.heap.size) : ∀ j u, [x][j]? = some u → (w.alloc (.cells #[x] t)).cell? ((⟨s, 0, none⟩ : Addr).add j) = some u := by
  subst hs; exact oneCell w x t
theorem own_old {w w' : World} {base : Nat} {t : TypeId} {v : Value} {k : Nat} {xs : List Value} (h : w.ownsRow base t 1 v k xs) (hb : Below w.heap.size w w') : w'.ownsRow base t 1 v k xs :=
  h.kept (row := none) ⟨hb.os, hb.tape, hb.output, hb.size, fun i hi _ => hb.block i hi⟩ (by cases hv : v.ownBlock <;> simp)
theorem cellsOf_succ (n : Nat) (r : Nat → Fe) : cellsOf n r ++ [.int .u8 (fi (r n))] = cellsOf (n + 1) r := by
  unfold cellsOf; rw [List.range_succ, List.map_append]; rfl
/-- a row with zeros behind it -/
theorem cellsOf_zeros (n m : Nat) (hm : n + n = m) (r : Nat → Fe) : cellsOf n r ++ List.replicate n (.int .u8 0) = cellsOf m (fun c => if c < n then r c else 0) := by
  subst hm
  unfold cellsOf
  apply List.ext_getElem?
  intro j
  rw [List.getElem?_append]
  simp only [List.length_map, List.length_range]
  by_cases h : j < n
  · rw [if_pos h]
    simp [h, show j < n + n by omega]
  · rw [if_neg h]
    by_cases h' : j < n + n
    · simp [h, h', show j - n < n by omega, fi_zero]
    · simp [h', show ¬ j - n < n by omega]
theorem aug_row {n m : Nat} (M : Mat) {i : Nat} : ∀ c, c < m → (if c = n + i then (1 : Fe) else if c < n then M i c else 0) = aug n M one i c := by
  intro c _
  unfold aug one
  by_cases h : c < n
  · simp only [if_neg (show ¬ c = n + i by omega), if_pos h]
  · simp only [if_neg h]
    by_cases h' : c = n + i
    · simp only [if_pos h', if_pos (show i = c - n by omega)]
    · simp only [if_neg h', if_neg (show ¬ i = c - n by omega)]
/-! ### The answers as functions of what was given -/
theorem InvAny.res (n : Nat) (L : Nat → Nat) (M : Mat) : ∃ (code : Int) (k q : Nat) (X : Mat), k ≤ 255 ∧ ∀ w e w', InvAny n L M w e w' → ResM code k q X w e w' := by
  by_cases h : rightB n L = true ∧ n = L 0
  · have hn := (rightB_true.1 h.1).2.1
    cases hg : gjs n M n with
    | none => exact ⟨12, 0, 0, one, by omega, fun w e w' hh => by unfold InvAny InvRes at hh; rw [if_pos h, hg] at hh; exact hh⟩
    | some s => exact ⟨0, n, n, s.2, hn, fun w e w' hh => by unfold InvAny InvRes at hh; rw [if_pos h, hg] at hh; exact hh⟩
  · exact ⟨1, 0, 0, one, by omega, fun w e w' hh => by unfold InvAny at hh; rw [if_neg h] at hh; exact hh⟩
theorem MulAny.res (n : Nat) (L : Nat → Nat) (M : Mat) (n' : Nat) (L' : Nat → Nat) (M' : Mat) : ∃ (code : Int) (k q : Nat) (X : Mat), k ≤ 255 ∧ ∀ w e w', MulAny n L M n' L' M' w e w' → ResM code k q X w e w' := by
  by_cases h : rightB n L = true ∧ rightB n' L' = true ∧ L 0 = n'
  · exact ⟨0, n, L' 0, mm n' M M', (rightB_true.1 h.1).2.1, fun w e w' hh => by unfold MulAny at hh; rw [if_pos h] at hh; exact hh⟩
  · exact ⟨1, 0, 0, one, by omega, fun w e w' hh => by unfold MulAny at hh; rw [if_neg h] at hh; exact hh⟩
theorem ApplyAny.res (n : Nat) (L : Nat → Nat) (M : Mat) (m : Nat) (v : Nat → Fe) : ∃ (code : Int) (k : Nat) (x : Nat → Fe), k ≤ 255 ∧ ∀ w e w', ApplyAny n L M m v w e w' → ResV code k x w e w' := by
  by_cases h : rightB n L = true ∧ L 0 = m
  · exact ⟨0, n, mv m M v, (rightB_true.1 h.1).2.1, fun w e w' hh => by unfold ApplyAny at hh; rw [if_pos h] at hh; exact hh⟩
  · exact ⟨1, 0, fun _ => 0, by omega, fun w e w' hh => by unfold ApplyAny at hh; rw [if_neg h] at hh; exact hh⟩
theorem cell_new (w : World) (c : Array Value) (t : TypeId) (s i : Nat) (hs : s = w.heap.size) : (w.alloc (.cells c t)).cell? ⟨s, i, none⟩ = c[i]? := by
  subst hs; exact cell_of_row _ _ _ _ _ (0, 0) (heap_alloc_new w _)
theorem cell_past (w : World) (o : Obj) (s i : Nat) (hs : s < w.heap.size) : (w.alloc o).cell? ⟨s, i, none⟩ = w.cell? ⟨s, i, none⟩ := World.cell?_alloc_lt w o _ hs
end Go.Proofs.Ytmonhgefmapiaaa
