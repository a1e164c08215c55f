/- The document's own Whole and From of parts that are all of one file: the pieces one behind the other. No program. What the document's Plan, File, Do and From make of blank tapes: the steps, tapes and file of RsMath. No program. Tapes that read: a slice of slices of bytes as a list of texts. No function of the program. Tapes in memory: a slice of tapes that reads as a list, and parity as it is made, a slice of slices of rows. No function of the program. A slice of structs that reads as a list of plain data, and one that a call owns and makes longer by append: each struct is some cells, as many for each. No function of the program. -/
import Derived.Test.YtndofmoepjfnfaaGreatMaf
import Derived.Test.YtndofmoepjfnfaaGreatMag
import Derived.Test.YtndofmoepjfnfaaGreatMah
import Derived.Test.YtndofmoepjfnfaaGreatMaj
import Derived.Test.YtndofmoepjfnfaaGreatMai
import Derived.Test.YtndofmoepjfnfaaGreatMad
import Derived.Test.YtndofmoepjfnfaaGreatMab
import Derived.Test.YtndofmoepjfnfaaGreatRows
import Derived.Laws.AppendOwn
import Derived.OwnWalk
namespace Go.Proofs.YtndofmoepjfnfaaGreat.Cf
open Pt (Tx)

def row (ps : List Ct.P) (size : Int) : Option (List Ct.P) := if size < 0 then none else Ct.walk ps size (size.toNat + 1 + ps.length) 0 []
def whole (ps : List Ct.P) : Option Ct.F := match ps[0]? with
  | none => none
  | some p => (row ps p.h.size).map (Ct.file p.h)
theorem whole_is {ps : List Ct.P} {p : Ct.P} (h : ps[0]? = some p) : whole ps = (row ps p.h.size).map (Ct.file p.h) := by unfold whole; rw [h]
theorem first_some {ps : List Ct.P} {size c : Int} {k : Nat} (hk : k < ps.length) (hno : ∀ j (h : j < ps.length), j < k → Ct.goes size c ps[j] = false) (hy : Ct.goes size c ps[k] = true) : Ct.first ps size c = some k := by
  unfold Ct.first
  rw [List.findIdx?_eq_some_iff_getElem]
  exact ⟨hk, hy, fun j hj => by rw [hno j (by omega) hj]; decide⟩
theorem first_none {ps : List Ct.P} {size c : Int} (hno : ∀ j (h : j < ps.length), Ct.goes size c ps[j] = false) : Ct.first ps size c = none := by
  unfold Ct.first
  rw [List.findIdx?_eq_none_iff]
  intro x hx
  obtain ⟨j, hj, rfl⟩ := List.mem_iff_getElem.1 hx
  exact hno j hj
theorem goes_not {size c : Int} {p : Ct.P} (h : p.h.from_ ≠ c ∨ (0 < size ∧ p.h.len ≤ 0)) : Ct.goes size c p = false := by
  unfold Ct.goes
  rcases h with h | ⟨h1, h2⟩
  · rw [decide_eq_false h]; rfl
  · rw [decide_eq_true h1, decide_eq_true h2]; simp
theorem goes_yes {size c : Int} {p : Ct.P} (h : p.h.from_ = c) (h2 : ¬ (0 < size ∧ p.h.len ≤ 0)) : Ct.goes size c p = true := by
  unfold Ct.goes
  rw [decide_eq_true h]
  by_cases h1 : 0 < size
  · rw [decide_eq_false (show ¬ p.h.len ≤ 0 from fun h3 => h2 ⟨h1, h3⟩)]; simp
  · rw [decide_eq_false h1]; rfl
theorem walk_none {ps : List Ct.P} {size c : Int} {f : Nat} {r : List Ct.P} (h : Ct.first ps size c = none) : Ct.walk ps size f c r = none := by
  cases f with
  | zero => rfl
  | succ f => exact Ct.walk_none h
/-- the files of parts that are all of one -/
def from1 (ps : List Ct.P) : List Ct.F := (whole ps).toList
end Go.Proofs.YtndofmoepjfnfaaGreat.Cf
namespace Go.Proofs.YtndofmoepjfnfaaGreat.Rs
open Pt (Tx)

theorem step_doOne (ts : List St.T) (k : Nat) (b : Tx) : Wr.step ts (k : Int) b = doOne ts (k, b) := by
  unfold Wr.step doOne
  rw [if_neg (by omega), Int.toNat_natCast]
  rfl
/-- steps with places as ints -/
def up (l : List (Nat × Tx)) : List (Int × Tx) := l.map fun x => ((x.1 : Int), x.2)
theorem go_doAll {stop bytes : Int} (h : stop < 0) (ts : List St.T) (l : List (Nat × Tx)) : Wr.go stop bytes 0 ts (up l) = (doAll ts l, false) := by
  rw [Wr.go_all h]
  unfold up doAll
  rw [List.foldl_map]
  have e : (fun (ts : List St.T) (x : Nat × Tx) => Wr.step ts (x.1 : Int) x.2) = doOne := by
    funext ts x
    exact step_doOne ts x.1 x.2
  show (l.foldl (fun (ts : List St.T) (x : Nat × Tx) => Wr.step ts (x.1 : Int) x.2) ts, false) = _
  rw [e]
/-- what the law lays: its head -/
def hd0 (b : Tx) : Rc.H := ⟨[97], 1, (b.length : Int), 0, 0, 1, 0, false⟩
theorem hdOf_is {b : Tx} {p : Sp.P} (h1 : 0 ≤ p.from_) (h2 : 0 ≤ p.len) : Wr.hdOf (hd0 b) b p = hd b (toPc p) := by
  unfold Wr.hdOf hd0 hd toPc
  congr 1 <;> (dsimp only; omega)
theorem lay_is {caps : List Int} {b : Tx} {p : Sp.P} (hb : b.length ≤ 2000) (hc : caps.length ≤ 1000) (h1 : 0 ≤ p.from_) (h2 : 0 ≤ p.len) (hin : In caps b.length (toPc p)) : Wr.lay (tps caps fun _ => []) (hd0 b) b p = up (((us b (toPc p)).map fun u => ((toPc p).tape, u)).map fun x : Nat × Fm.U => (x.1, Fm.blk x.2)) := by
  have h3 : p.tape < caps.length := hin.lt
  have hR : Vo.Right ((p.tape : Int) + 1) 1 (hd b (toPc p)) (Wr.slc b p) := right hb hin (by have : (toPc p).tape = p.tape := rfl; omega)
  rw [Wr.lay_at (tps_get h3), hdOf_is h1 h2]
  have e1 : Wr.at_ ⟨(p.tape : Int) + 1, caps.getD p.tape 0, [], false⟩ = 1 := rfl
  have e2 : Wr.head ⟨(p.tape : Int) + 1, caps.getD p.tape 0, [], false⟩ p.tape = [((p.tape : Int), Fm.blk (Vo.first ((p.tape : Int) + 1) [68]))] := rfl
  dsimp only
  rw [e1, e2, Vo.put_yes hR]
  unfold us up
  simp only [List.map_cons, List.map_map, List.cons_append, List.nil_append]
  rfl
theorem steps_is {caps : List Int} {b : Tx} (hb : b.length ≤ 2000) (hc : caps.length ≤ 1000) : ∀ {l : List Sp.P}, (∀ p ∈ l, 0 ≤ p.from_ ∧ 0 ≤ p.len ∧ In caps b.length (toPc p)) → Wr.steps (tps caps fun _ => []) (hd0 b) b l = up (laidSteps b (l.map toPc))
  | [], _ => rfl
  | p :: l, h => by
    obtain ⟨h1, h2, h3⟩ := h p List.mem_cons_self
    have ih := steps_is hb hc (l := l) fun q hq => h q (List.mem_cons_of_mem _ hq)
    unfold Wr.steps at ih ⊢
    rw [List.flatMap_cons, ih, lay_is hb hc h1 h2 h3]
    unfold laidSteps steps up
    rw [List.map_cons, List.flatMap_cons, List.map_append, List.map_append]
theorem valid_nonneg {rooms : List Int} {size : Int} : ∀ {l : List Sp.P} {next : Nat} {at_ : Int}, 0 ≤ at_ → Sp.Valid rooms size next at_ l → ∀ p ∈ l, 0 ≤ p.from_ ∧ 0 ≤ p.len
  | [], _, _, _, _, p, hp => nomatch hp
  | q :: l, next, at_, h0, h, p, hp => by
    obtain ⟨h1, h2, h3, -, -, h8⟩ := h
    rcases List.mem_cons.1 hp with rfl | hp
    · exact ⟨by omega, by omega⟩
    · exact valid_nonneg (by omega) h8 p hp
theorem planR_nonneg {rooms : List Int} {size : Int} (hs : 0 ≤ size) (h : errR rooms size = 0) : ∀ p ∈ planR rooms size, 0 ≤ p.from_ ∧ 0 ≤ p.len := by
  unfold errR at h
  unfold planR
  by_cases h0 : size = 0
  · rw [if_pos h0]
    intro p hp
    split at hp
    · rw [List.mem_singleton.1 hp]; exact ⟨Int.le_refl _, Int.le_refl _⟩
    · cases hp
  · rw [if_neg h0] at h ⊢
    exact valid_nonneg (Int.le_refl _) (Sp.plan_valid (by omega) h)
/-- what is asked of each piece -/
theorem ok_is {caps : List Int} {b : Tx} {l : List Sp.P} (hb : b.length ≤ 2000) (hc : caps.length ≤ 1000) (hn : ∀ p ∈ l, 0 ≤ p.from_ ∧ 0 ≤ p.len) (h : Chain caps b.length 0 0 (l.map toPc)) : ∀ p ∈ l, Wr.Ok (tps caps fun _ => []) (hd0 b) b p := fun p hp => by
  obtain ⟨h1, h2⟩ := hn p hp
  have hin := (h.in_ (toPc p) (List.mem_map_of_mem hp)).1
  have hlt : p.tape < caps.length := hin.lt
  have hle := hin.le
  have e1 : (toPc p).at_ = p.from_.toNat := rfl
  have e2 : (toPc p).len = p.len.toNat := rfl
  refine ⟨by rw [tps_len]; exact hlt, h1, h2, by omega, fun t ht => ?_⟩
  rw [tps_get hlt] at ht
  cases ht
  rw [hdOf_is h1 h2]
  exact right hb hin (by have : (toPc p).tape = p.tape := rfl; omega)
theorem tape_lt {caps : List Int} {size : Nat} {l : List Sp.P} (h : Chain caps size 0 0 (l.map toPc)) : ∀ p ∈ l, p.tape < caps.length := fun p hp => (h.in_ (toPc p) (List.mem_map_of_mem hp)).1.lt
/-- the document's From finds the file -/
theorem cf_whole {caps : List Int} {b : Tx} {ps : List Pc} (h0 : ps ≠ []) (h : Chain caps b.length 0 0 ps) : Cf.whole (ps.map (partP b)) = some (file b ps) := by
  cases ps with
  | nil => exact absurd rfl h0
  | cons p ps =>
    rw [Cf.whole_is (p := partP b p) rfl]
    have e : (partP b p).h.size = (b.length : Int) := rfl
    rw [e]
    unfold Cf.row
    rw [if_neg (by omega)]
    have := walk_chain (pre := []) (f := (b.length : Int).toNat + 1 + ((p :: ps).map (partP b)).length) h0 h (fun q hq => nomatch hq) (by rw [List.length_map]; omega)
    rw [List.nil_append] at this
    have this' : Ct.walk ((p :: ps).map (partP b)) (b.length : Int) ((b.length : Int).toNat + 1 + ((p :: ps).map (partP b)).length) 0 [] = some ((p :: ps).map (partP b)) := this
    rw [this']
    rfl
theorem cf_from {caps : List Int} {b : Tx} {ps : List Pc} (h0 : ps ≠ []) (h : Chain caps b.length 0 0 ps) : Cf.from1 (ps.map (partP b)) = [file b ps] := by unfold Cf.from1; rw [cf_whole h0 h]; rfl
end Go.Proofs.YtndofmoepjfnfaaGreat.Rs
namespace Go.Proofs.YtndofmoepjfnfaaGreat
open Go.RowKit
open Pt (Tx)

/-- the slice at A of slices reads as these texts, all in blocks of G -/
def RdB (w : World) (A : Option Addr) (bs : List Tx) (G : Nat → Prop) : Prop :=
  0 < bs.length → ∃ b off, A = some ⟨b, off, none⟩ ∧ G b ∧ ∀ i (hi : i < bs.length), ∃ A' C', w.cell? ⟨b, off + i, none⟩ = some (.slice A' bs[i].length C') ∧ bs[i].length ≤ C' ∧ (A' = none → bs[i].length = 0 ∧ C' = 0) ∧ RdL w A' bs[i] G
namespace RdB
variable {w w' : World} {A : Option Addr} {bs : List Tx} {G G' S : Nat → Prop}
theorem empty (w : World) (A : Option Addr) (G : Nat → Prop) : RdB w A [] G := fun h => absurd h (by simp)
theorem keep (h : RdB w A bs G) (hk : ∀ p v, G p.block → w.cell? p = some v → w'.cell? p = some v) : RdB w' A bs G := by
  intro hn
  obtain ⟨b, off, e, hg, hc⟩ := h hn
  refine ⟨b, off, e, hg, fun i hi => ?_⟩
  obtain ⟨A', C', h1, h2, h3, h4⟩ := hc i hi
  exact ⟨A', C', hk _ _ hg h1, h2, h3, h4.keep hk⟩
theorem mono (h : RdB w A bs G) (hg : ∀ b, G b → G' b) : RdB w A bs G' := by
  intro hn
  obtain ⟨b, off, e, hg', hc⟩ := h hn
  refine ⟨b, off, e, hg _ hg', fun i hi => ?_⟩
  obtain ⟨A', C', h1, h2, h3, h4⟩ := hc i hi
  exact ⟨A', C', h1, h2, h3, h4.mono hg⟩
theorem kp (h : RdB w A bs G) (hk : Kp S w w') (hs : ∀ b, G b → ¬ S b) : RdB w' A bs G := h.keep fun _ _ hg hc => hk.cell hc (hs _ hg)
theorem old (h : RdB w A bs G) (hb : Below w.heap.size w w') : RdB w' A bs G := h.keep fun _ _ _ hc => (hb.cell (World.block_lt_of_cell? _ _ hc)).trans hc
theorem below {B : Nat} (h : RdB w A bs (· < B)) (hb : Below B w w') : RdB w' A bs (· < B) := h.keep fun _ _ hg hc => (hb.cell hg).trans hc
theorem in_ (h : RdB w A bs G) : RdB w A bs (fun b => G b ∧ b < w.heap.size) := by
  intro hn
  obtain ⟨b, off, e, hg, hc⟩ := h hn
  refine ⟨b, off, e, ⟨hg, ?_⟩, fun i hi => ?_⟩
  · obtain ⟨_, _, h1, _⟩ := hc 0 hn
    exact World.block_lt_of_cell? _ _ h1
  · obtain ⟨A', C', h1, h2, h3, h4⟩ := hc i hi
    exact ⟨A', C', h1, h2, h3, h4.in_⟩
theorem at_ (h : RdB w A bs G) {i : Nat} (hi : i < bs.length) : ∃ b off A' C', A = some ⟨b, off, none⟩ ∧ G b ∧ w.cell? ⟨b, off + i, none⟩ = some (.slice A' bs[i].length C') ∧ bs[i].length ≤ C' ∧ (A' = none → bs[i].length = 0 ∧ C' = 0) ∧ RdL w A' bs[i] G := by
  obtain ⟨b, off, e, hg, hc⟩ := h (by omega)
  obtain ⟨A', C', h1, h2, h3, h4⟩ := hc i hi
  exact ⟨b, off, A', C', e, hg, h1, h2, h3, h4⟩
end RdB
/-- a tape as the value that is handed on -/
def tape (lab cap : Int) (A : Option Addr) (n C : Nat) (lost : Bool) : Value := .agg #[.int .i64 lab, .int .i64 cap, .slice A n C, .bool lost]
end Go.Proofs.YtndofmoepjfnfaaGreat
namespace Go.Proofs.YtndofmoepjfnfaaGreat
open Go.RowKit
open Pt (Tx)

/-- the slice at A reads as these tapes; all lies in blocks of G -/
def RdT (w : World) (A : Option Addr) (ts : List St.T) (G : Nat → Prop) : Prop :=
  0 < ts.length → ∃ b off, A = some ⟨b, off, none⟩ ∧ G b ∧ ∀ i (hi : i < ts.length), ∃ A' C', w.cell? ⟨b, off + i * 4, none⟩ = some (.int .i64 ts[i].label) ∧ w.cell? ⟨b, off + i * 4 + 1, none⟩ = some (.int .i64 ts[i].cap) ∧ w.cell? ⟨b, off + i * 4 + 2, none⟩ = some (.slice A' ts[i].blocks.length C') ∧ w.cell? ⟨b, off + i * 4 + 3, none⟩ = some (.bool ts[i].lost) ∧ RdB w A' ts[i].blocks G
namespace RdT
variable {w w' : World} {A : Option Addr} {ts : List St.T} {G G' S : Nat → Prop}
theorem empty (w : World) (A : Option Addr) (G : Nat → Prop) : RdT w A [] G := fun h => absurd h (by simp)
theorem keep (h : RdT w A ts G) (hk : ∀ p v, G p.block → w.cell? p = some v → w'.cell? p = some v) : RdT w' A ts G := by
  intro hn
  obtain ⟨b, off, e, hg, hc⟩ := h hn
  refine ⟨b, off, e, hg, fun i hi => ?_⟩
  obtain ⟨A', C', h0, h1, h2, h3, h4⟩ := hc i hi
  exact ⟨A', C', hk _ _ hg h0, hk _ _ hg h1, hk _ _ hg h2, hk _ _ hg h3, h4.keep hk⟩
theorem mono (h : RdT w A ts G) (hg : ∀ b, G b → G' b) : RdT w A ts G' := by
  intro hn
  obtain ⟨b, off, e, hg', hc⟩ := h hn
  refine ⟨b, off, e, hg _ hg', fun i hi => ?_⟩
  obtain ⟨A', C', h0, h1, h2, h3, h4⟩ := hc i hi
  exact ⟨A', C', h0, h1, h2, h3, h4.mono hg⟩
theorem kp (h : RdT w A ts G) (hk : Kp S w w') (hs : ∀ b, G b → ¬ S b) : RdT w' A ts G := h.keep fun _ _ hg hc => hk.cell hc (hs _ hg)
theorem old (h : RdT w A ts G) (hb : Below w.heap.size w w') : RdT w' A ts G := h.keep fun _ _ _ hc => (hb.cell (World.block_lt_of_cell? _ _ hc)).trans hc
theorem in_ (h : RdT w A ts G) : RdT w A ts (fun b => G b ∧ b < w.heap.size) := by
  intro hn
  obtain ⟨b, off, e, hg, hc⟩ := h hn
  refine ⟨b, off, e, ⟨hg, ?_⟩, fun i hi => ?_⟩
  · obtain ⟨_, _, h0, _⟩ := hc 0 hn
    exact World.block_lt_of_cell? _ _ h0
  · obtain ⟨A', C', h0, h1, h2, h3, h4⟩ := hc i hi
    exact ⟨A', C', h0, h1, h2, h3, h4.in_⟩
theorem at_ (h : RdT w A ts G) {i : Nat} (hi : i < ts.length) : ∃ b off A' C', A = some ⟨b, off, none⟩ ∧ G b ∧ w.cell? ⟨b, off + i * 4, none⟩ = some (.int .i64 ts[i].label) ∧ w.cell? ⟨b, off + i * 4 + 1, none⟩ = some (.int .i64 ts[i].cap) ∧ w.cell? ⟨b, off + i * 4 + 2, none⟩ = some (.slice A' ts[i].blocks.length C') ∧ w.cell? ⟨b, off + i * 4 + 3, none⟩ = some (.bool ts[i].lost) ∧ RdB w A' ts[i].blocks G := by
  obtain ⟨b, off, e, hg, hc⟩ := h (by omega)
  obtain ⟨A', C', h0, h1, h2, h3, h4⟩ := hc i hi
  exact ⟨b, off, A', C', e, hg, h0, h1, h2, h3, h4⟩
end RdT
/-- a row of blocks as a matrix -/
theorem RdB.rdM {w : World} {A : Option Addr} {bs : List Tx} {G : Nat → Prop} (h : RdB w A bs G) : RdM w A bs.length (St.lens bs) (St.mat bs) G := fun hn => by
  obtain ⟨b, off, e, hg, hc⟩ := h hn
  refine ⟨b, off, e, hg, fun i hi => ?_⟩
  obtain ⟨A', C', h1, _, _, h4⟩ := hc i hi
  refine ⟨A', C', by rw [St.lens_at hi]; exact h1, ?_⟩
  rw [St.lens_at hi, St.mat_at hi]
  exact h4.rd
/-- the slice at A reads as p matrices, each of n rows of m elements -/
def RdP (w : World) (A : Option Addr) (p n m : Nat) (X : Nat → Mx.Mat) (G : Nat → Prop) : Prop :=
  0 < p → ∃ b off, A = some ⟨b, off, none⟩ ∧ G b ∧ ∀ j, j < p → ∃ A' C', w.cell? ⟨b, off + j, none⟩ = some (.slice A' n C') ∧ n ≤ C' ∧ (A' = none → n = 0 ∧ C' = 0) ∧ RdM w A' n (fun _ => m) (X j) G
namespace RdP
variable {w w' : World} {A : Option Addr} {p n m : Nat} {X Y : Nat → Mx.Mat} {G G' S : Nat → Prop}
theorem empty (w : World) (A : Option Addr) (n m : Nat) (X : Nat → Mx.Mat) (G : Nat → Prop) : RdP w A 0 n m X G := fun h => absurd h (by omega)
theorem keep (h : RdP w A p n m X G) (hk : ∀ p v, G p.block → w.cell? p = some v → w'.cell? p = some v) : RdP w' A p n m X G := by
  intro hn
  obtain ⟨b, off, e, hg, hc⟩ := h hn
  refine ⟨b, off, e, hg, fun j hj => ?_⟩
  obtain ⟨A', C', h1, h2, h3, h4⟩ := hc j hj
  exact ⟨A', C', hk _ _ hg h1, h2, h3, h4.keep hk⟩
theorem mono (h : RdP w A p n m X G) (hg : ∀ b, G b → G' b) : RdP w A p n m X G' := by
  intro hn
  obtain ⟨b, off, e, hg', hc⟩ := h hn
  refine ⟨b, off, e, hg _ hg', fun j hj => ?_⟩
  obtain ⟨A', C', h1, h2, h3, h4⟩ := hc j hj
  exact ⟨A', C', h1, h2, h3, h4.mono hg⟩
theorem congr (h : RdP w A p n m X G) (he : ∀ j, j < p → ∀ i, i < n → ∀ c, c < m → X j i c = Y j i c) : RdP w A p n m Y G := by
  intro hn
  obtain ⟨b, off, e, hg', hc⟩ := h hn
  refine ⟨b, off, e, hg', fun j hj => ?_⟩
  obtain ⟨A', C', h1, h2, h3, h4⟩ := hc j hj
  exact ⟨A', C', h1, h2, h3, h4.congr (fun _ _ => rfl) (he j hj)⟩
theorem old (h : RdP w A p n m X G) (hb : Below w.heap.size w w') : RdP w' A p n m X G := h.keep fun _ _ _ hc => (hb.cell (World.block_lt_of_cell? _ _ hc)).trans hc
theorem at_ (h : RdP w A p n m X G) {j : Nat} (hj : j < p) : ∃ b off A' C', A = some ⟨b, off, none⟩ ∧ G b ∧ w.cell? ⟨b, off + j, none⟩ = some (.slice A' n C') ∧ n ≤ C' ∧ (A' = none → n = 0 ∧ C' = 0) ∧ RdM w A' n (fun _ => m) (X j) G := by
  obtain ⟨b, off, e, hg, hc⟩ := h (by omega)
  obtain ⟨A', C', h1, h2, h3, h4⟩ := hc j hj
  exact ⟨b, off, A', C', e, hg, h1, h2, h3, h4⟩
end RdP
end Go.Proofs.YtndofmoepjfnfaaGreat
namespace Go.Proofs.YtndofmoepjfnfaaGreat
open Go.RowKit

/-- each in so many cells -/
structure Enc (α : Type) where
  k : Nat
  pos : 0 < k
  enc : α → List Value
  len : ∀ x, (enc x).length = k
  one : ∀ x, ∀ u ∈ enc x, u.oneCell' = true
namespace Enc
variable {α : Type} (E : Enc α)
def cells (l : List α) : List Value := l.flatMap E.enc
theorem cells_nil : E.cells [] = [] := rfl
theorem cells_cons (x : α) (l : List α) : E.cells (x :: l) = E.enc x ++ E.cells l := rfl
theorem cells_append (l l' : List α) : E.cells (l ++ l') = E.cells l ++ E.cells l' := by unfold cells; exact List.flatMap_append
theorem cells_one (x : α) : E.cells [x] = E.enc x := by rw [cells_cons, cells_nil, List.append_nil]
theorem cells_len : ∀ l : List α, (E.cells l).length = l.length * E.k
  | [] => by rw [cells_nil]; simp
  | x :: l => by rw [cells_cons, List.length_append, E.len, cells_len l, List.length_cons, Nat.succ_mul]; omega
theorem cells_get : ∀ (l : List α) (i j : Nat) (_ : j < E.k) (hi : i < l.length), (E.cells l)[i * E.k + j]? = (E.enc l[i])[j]?
  | [], i, j, _, hi => absurd hi (by simp)
  | x :: l, 0, j, hj, hi => by
    rw [cells_cons, Nat.zero_mul, Nat.zero_add, List.getElem?_append_left (by rw [E.len]; exact hj)]; rfl
  | x :: l, i + 1, j, hj, hi => by
    rw [cells_cons, List.getElem?_append_right (by rw [E.len, Nat.succ_mul]; omega), E.len, show (i + 1) * E.k + j - E.k = i * E.k + j by rw [Nat.succ_mul]; omega]
    exact cells_get l i j hj (by simpa using hi)
theorem cells_all (l : List α) : ∀ u ∈ E.cells l, u.oneCell' = true := by
  intro u hu
  unfold cells at hu
  obtain ⟨x, _, hx⟩ := List.mem_flatMap.1 hu
  exact E.one x u hx
/-- the slice at A of these structs reads as the list l, and lies in a block of G -/
def Rd (w : World) (A : Option Addr) (l : List α) (G : Nat → Prop) : Prop :=
  0 < l.length → ∃ b off, A = some ⟨b, off, none⟩ ∧ G b ∧ ∀ i (hi : i < l.length) j u, (E.enc l[i])[j]? = some u → w.cell? ⟨b, off + i * E.k + j, none⟩ = some u
/-- v is a slice of the call's own that holds the list l -/
def Own (w : World) (base : Nat) (t : TypeId) (v : Value) (l : List α) : Prop := w.ownsRow base t E.k v l.length (E.cells l)
variable {E}
theorem Rd.nil (w : World) (A : Option Addr) (G : Nat → Prop) : E.Rd w A [] G := fun h => absurd h (by simp)
theorem Rd.keep {w w' : World} {A : Option Addr} {l : List α} {G : Nat → Prop} (h : E.Rd w A l G) (hk : ∀ p v, G p.block → w.cell? p = some v → w'.cell? p = some v) : E.Rd w' A l G := fun hn => by
  obtain ⟨b, off, e, hg, hc⟩ := h hn
  exact ⟨b, off, e, hg, fun i hi j u hu => hk _ _ hg (hc i hi j u hu)⟩
theorem Rd.mono {w : World} {A : Option Addr} {l : List α} {G G' : Nat → Prop} (h : E.Rd w A l G) (hg : ∀ b, G b → G' b) : E.Rd w A l G' := fun hn => by
  obtain ⟨b, off, e, hb, hc⟩ := h hn
  exact ⟨b, off, e, hg _ hb, hc⟩
theorem Rd.old {w w' : World} {A : Option Addr} {l : List α} {G : Nat → Prop} (h : E.Rd w A l G) (hb : Below w.heap.size w w') : E.Rd w' A l G := h.keep fun _ _ _ hc => (hb.cell (World.block_lt_of_cell? _ _ hc)).trans hc
theorem Rd.kp {w w' : World} {A : Option Addr} {l : List α} {G S : Nat → Prop} (h : E.Rd w A l G) (hk : Kp S w w') (hs : ∀ b, G b → ¬ S b) : E.Rd w' A l G := h.keep fun _ _ hg hc => hk.cell hc (hs _ hg)
theorem Rd.at_ {w : World} {A : Option Addr} {l : List α} {G : Nat → Prop} (h : E.Rd w A l G) {i : Nat} (hi : i < l.length) : ∃ b off, A = some ⟨b, off, none⟩ ∧ G b ∧ ∀ j u, (E.enc l[i])[j]? = some u → w.cell? ⟨b, off + i * E.k + j, none⟩ = some u := by
  obtain ⟨b, off, e, hg, hc⟩ := h (by omega)
  exact ⟨b, off, e, hg, hc i hi⟩
theorem Own.nil (w : World) (base : Nat) (t : TypeId) : E.Own w base t (.slice none 0 0) [] := World.ownsRow_nil _ _ _ _
theorem Own.of_block {w w' : World} {base : Nat} {t : TypeId} {v : Value} {l : List α} (h : E.Own w base t v l) (hb : ∀ k, v.ownBlock = some k → w'.heap[k]? = w.heap[k]?) : E.Own w' base t v l := by
  refine ⟨h.1, ?_⟩
  rcases h.2 with h0 | ⟨g, cap, cur, rfl, hb', hg, hr⟩
  · exact .inl h0
  · exact .inr ⟨g, cap, cur, rfl, hb', (hb g rfl).trans hg, hr⟩
theorem Own.lt {w : World} {base : Nat} {t : TypeId} {v : Value} {l : List α} (h : E.Own w base t v l) : ∀ k, v.ownBlock = some k → base ≤ k ∧ k < w.heap.size := fun k hk => World.ownsRow.lt h k hk
theorem Own.old {w w' : World} {base : Nat} {t : TypeId} {v : Value} {l : List α} (h : E.Own w base t v l) (hb : Below w.heap.size w w') : E.Own w' base t v l := h.of_block fun k e => hb.block k (h.lt k e).2
/-- its block, if it has one -/
theorem Own.block {w : World} {base : Nat} {t : TypeId} {v : Value} {l : List α} (h : E.Own w base t v l) : ∀ k, v.ownBlock = some k → ∃ c, w.heap[k]? = some (.cells c t (0, 0)) := by
  intro k hk
  rcases h.2 with ⟨rfl, h0⟩ | ⟨g, cap, cur, rfl, hb, hg, hnc, _, hs, ht⟩
  · cases hk
  · cases hk; exact ⟨cur, hg⟩
/-- as a value that reads -/
theorem Own.rd {w : World} {base : Nat} {t : TypeId} {v : Value} {l : List α} (h : E.Own w base t v l) : ∃ A C, v = .slice A l.length C ∧ l.length ≤ C ∧ C ≤ maxLen ∧ (A = none → l.length = 0 ∧ C = 0) ∧ E.Rd w A l (fun b => base ≤ b ∧ v.ownBlock = some b) := by
  rcases h.2 with ⟨rfl, h0⟩ | ⟨g, cap, cur, rfl, hb, hg, hnc, hcm, hs, ht⟩
  · have : l = [] := List.length_eq_zero_iff.1 h0
    subst this
    exact ⟨none, 0, rfl, Nat.le_refl _, by decide, fun _ => ⟨rfl, rfl⟩, Rd.nil _ _ _⟩
  · refine ⟨_, cap, rfl, hnc, hcm, (fun h => by cases h), fun _ => ⟨g, 0, rfl, ⟨hb, rfl⟩, fun i hi j u hu => ?_⟩⟩
    have hj : j < E.k := by rw [← E.len l[i]]; exact (List.getElem?_eq_some_iff.1 hu).1
    have hx := E.cells_get l i j hj hi
    have hlt : i * E.k + j < l.length * E.k := by
      have h1 : (i + 1) * E.k ≤ l.length * E.k := Nat.mul_le_mul_right _ hi
      rw [Nat.succ_mul] at h1
      omega
    rw [hu, ← ht, List.getElem?_take, if_pos hlt, Array.getElem?_toList] at hx
    rw [show 0 + i * E.k + j = i * E.k + j by omega, heap_cell hg, hx]
end Enc
/-- a new block's cells -/
theorem newCells (w : World) (c : List Value) (t : TypeId) : ∀ j u, c[j]? = some u → (w.alloc (.cells c.toArray t)).cell? ((⟨w.heap.size, 0, none⟩ : Addr).add j) = some u := by
  intro j u hu
  rw [addr_add, heap_cell (Go.Deep.blk_alloc_new _ _), Nat.zero_add]
  simpa using hu
theorem newCellsAt (w : World) (c : List Value) (t : TypeId) (s : Nat) (hs : s = w.heap.size) : ∀ j u, c[j]? = some u → (w.alloc (.cells c.toArray t)).cell? ((⟨s, 0, none⟩ : Addr).add j) = some u := by
  subst hs; exact newCells w c t
/-- append of some structs -/
theorem wpList_append_st' {P : Program} {α : Type} (E : Enc α) (w : World) {ops : Array Oper} {rest : List Oper} {o : Oper} {a : Act} {Q : Exit → Act → World → Prop} (hgd : o.guard = none) (s x : Operand) (t : TypeId)
    (ho : o.op = .call { callee := .builtin .append, args := #[s, x], argTypes := #[t, t] })
    (base : Nat) (e : TypeId) (z : Value) (bytes : Nat) (ht : P.underlying t = some (.slice e)) (hi : (P.info? e).map (fun i => (i.zero, i.size, i.bytes)) = some (some z, E.k, bytes)) (hzs : z.cells.size = E.k)
    (v : Value) (l : List α) (hs : a.eval s = v) (hown : E.Own w base e v l)
    (ad : Addr) (m c : Nat) (l' : List α) (hx : a.eval x = .slice (some ad) m c) (hm : m = l'.length) (hnews : ∀ j u, (E.cells l')[j]? = some u → w.cell? (ad.add j) = some u)
    (h63 : l.length + m ≤ maxLen) (hbytes : (l.length + m) * bytes ≤ 140737488355328) (hbase : base ≤ w.heap.size)
    (h : ∀ v' w', E.Own w' base e v' (l ++ l') → w.grownBy w' v.ownBlock → wpList P ops Q rest (a.put o.dst v') w') : wpList P ops Q (o :: rest) a w := by
  obtain ⟨i0, hi, hz0, hz1, hz2⟩ := info_parts hi
  subst hm
  exact wpList_append_own w hgd s x t ho base e i0 z E.k bytes ht hi hz0 hz1 hz2 hzs E.pos v l.length (E.cells l) hs hown ad l'.length c (E.cells l') hx (E.cells_len l') hnews (E.cells_all l') h63 hbytes hbase (fun v' w' h2 h3 _ => h v' w' (by unfold Enc.Own; rw [E.cells_append, List.length_append]; exact h2) h3)
end Go.Proofs.YtndofmoepjfnfaaGreat
