/- A file that was laid on blank tapes: its pieces, the frames of each, and what is read of them, also where some rotted. No program. Tapes as lists of blocks: which may be, and what is done to them. No program. Parts laid one behind the other, one more at a time; how long their blocks are. No program. What steps do to tapes, and what the steps of a file make of blank ones. No program. -/
import Derived.Test.YtndofmoepjfnfaaGreatMaf
import Derived.Test.YtndofmoepjfnfaaGreatMac
namespace Go.Proofs.YtndofmoepjfnfaaGreat.Rs
open Pt (Tx)

/-- a piece: on which tape, from which byte on, how many -/
structure Pc where
  tape : Nat
  at_ : Nat
  len : Nat
/-- pieces that make a file, one behind the other, on tapes from next on, each fitting -/
def Chain (caps : List Int) (size : Nat) : Nat → Nat → List Pc → Prop
  | _, at_, [] => at_ = size
  | next, at_, p :: ps => next ≤ p.tape ∧ p.at_ = at_ ∧ at_ + p.len ≤ size ∧ (0 < p.len ∨ size = 0 ∧ ps = []) ∧ (∃ h : p.tape < caps.length, ((Vo.data p.len + 3 : Nat) : Int) ≤ caps[p.tape]) ∧ Chain caps size (p.tape + 1) (at_ + p.len) ps
/-- what holds of each -/
structure In (caps : List Int) (size : Nat) (p : Pc) : Prop where
  le : p.at_ + p.len ≤ size
  pos : 0 < p.len ∨ size = 0
  lt : p.tape < caps.length
  cap : ((Vo.data p.len + 3 : Nat) : Int) ≤ caps.getD p.tape 0
theorem Chain.in_ {caps : List Int} {size : Nat} : ∀ {ps : List Pc} {next at_ : Nat}, Chain caps size next at_ ps → ∀ p ∈ ps, In caps size p ∧ next ≤ p.tape
  | [], _, _, _, p, hp => nomatch hp
  | q :: ps, next, at_, h, p, hp => by
    obtain ⟨h1, h2, h3, h4, ⟨h5, h6⟩, h7⟩ := h
    rcases List.mem_cons.1 hp with rfl | hp
    · exact ⟨⟨by omega, by rcases h4 with h4 | h4; exact .inl h4; exact .inr h4.1, h5, by rw [List.getD_eq_getElem?_getD, List.getElem?_eq_getElem h5]; exact h6⟩, h1⟩
    · obtain ⟨k1, k2⟩ := h7.in_ p hp
      exact ⟨k1, by omega⟩
def hd (b : Tx) (p : Pc) : Rc.H := ⟨[97], 1, (b.length : Int), (p.at_ : Int), (p.len : Int), 1, sumL b, false⟩
def sl (b : Tx) (p : Pc) : Tx := (b.drop p.at_).take p.len
theorem sl_len {b : Tx} {p : Pc} (h : p.at_ + p.len ≤ b.length) : (sl b p).length = p.len := by
  unfold sl; rw [List.length_take, List.length_drop]; omega
/-- the pieces' bytes are the file's -/
theorem slices {caps : List Int} {b : Tx} : ∀ {ps : List Pc} {next at_ : Nat}, Chain caps b.length next at_ ps → (ps.flatMap (sl b)) = b.drop at_
  | [], _, at_, h => by
    have h' : at_ = b.length := h
    rw [h', List.drop_length]; rfl
  | p :: ps, next, at_, h => by
    obtain ⟨h1, h2, h3, h4, h5, h7⟩ := h
    rw [List.flatMap_cons, slices h7]
    unfold sl
    rw [h2, ← List.drop_drop, List.take_append_drop]
theorem hd_ok {caps : List Int} {b : Tx} {p : Pc} (hb : b.length ≤ 2000) (h : In caps b.length p) : Rc.Ok (hd b p) := by
  have h1 := h.le
  have h2 := h.pos
  have h3 := sumL_lo b
  have h4 := sumL_hi b
  refine ⟨show Pt.right [97] = true by decide, ⟨?_, ?_⟩, ⟨?_, ?_⟩, ⟨?_, ?_⟩, ?_, ?_, ?_, ?_, ⟨h3, ?_⟩, fun h => by cases h⟩ <;> (unfold hd; simp only; omega)
theorem right {caps : List Int} {b : Tx} {p : Pc} (hb : b.length ≤ 2000) (h : In caps b.length p) (ht : p.tape ≤ 1000) : Vo.Right ((p.tape : Int) + 1) 1 (hd b p) (sl b p) := by
  have hl := sl_len (b := b) (p := p) h.le
  have hle := h.le
  refine ⟨⟨hd_ok hb h, by rw [hl]; rfl⟩, ⟨by omega, by omega⟩, by omega, ?_⟩
  rw [hl]
  unfold Vo.data
  omega
/-- the frames of a piece: the tape's own, and the part's -/
def us (b : Tx) (p : Pc) : List Fm.U := Vo.first ((p.tape : Int) + 1) [68] :: Vo.units ((p.tape : Int) + 1) 1 (hd b p) (sl b p)
theorem us_len {b : Tx} {p : Pc} (h : p.at_ + p.len ≤ b.length) : (us b p).length = Vo.data p.len + 3 := by
  unfold us; rw [List.length_cons, Vo.units_len, sl_len h]
theorem us_at {b : Tx} {p : Pc} {j : Nat} {u : Fm.U} (hu : (us b p)[j]? = some u) : u.label = (p.tape : Int) + 1 ∧ u.number = (j : Int) ∧ (u.kind = 2 → j = 1) := by
  cases j with
  | zero => cases hu; exact ⟨rfl, rfl, fun h => absurd h (by show ¬ (1 : Int) = 2; decide)⟩
  | succ j =>
    have hu' : (Vo.units ((p.tape : Int) + 1) 1 (hd b p) (sl b p))[j]? = some u := hu
    obtain ⟨h1, h2, h3, -⟩ := Vo.units_at hu'
    exact ⟨h1, by omega, fun hk => by rcases h3 with h3 | h3; omega; exact absurd hk h3⟩
theorem us_ok {caps : List Int} {b : Tx} {p : Pc} (hb : b.length ≤ 2000) (h : In caps b.length p) (ht : p.tape ≤ 1000) : ∀ u ∈ us b p, Fm.Ok u := fun u hu => by
  have hR := right hb h ht
  rcases List.mem_cons.1 hu with rfl | hu
  · exact Vo.first_ok ⟨by omega, by omega⟩ (by decide)
  · obtain ⟨j, hj, rfl⟩ := List.mem_iff_getElem.1 hu
    exact Vo.units_ok hR.1.1 hR.2 (List.getElem?_eq_getElem hj)
/-- a byte that is turned -/
def rot (x : Tx) : Tx := x.set 3 200
def zed (Z : Nat → Bool) (l : List Tx) : List Tx := l.mapIdx fun j x => if Z j = true then rot x else x
theorem zed_len (Z : Nat → Bool) (l : List Tx) : (zed Z l).length = l.length := by unfold zed; simp
theorem zed_get {Z : Nat → Bool} {l : List Tx} {j : Nat} {x : Tx} (h : l[j]? = some x) : (zed Z l)[j]? = some (if Z j = true then rot x else x) := by
  unfold zed; rw [List.getElem?_mapIdx, h]; rfl
theorem zed_none (l : List Tx) : zed (fun _ => false) l = l := by
  apply List.ext_getElem?
  intro j
  cases h : l[j]? with
  | none => rw [List.getElem?_eq_none]; rw [zed_len]; exact List.getElem?_eq_none_iff.1 h
  | some x => rw [zed_get h]; rfl
/-- one more is turned -/
theorem zed_set {Z Z' : Nat → Bool} {l : List Tx} {n : Nat} {x : Tx} (hx : (zed Z l)[n]? = some x) (hn : Z' n = true) (ho : ∀ j, j ≠ n → Z' j = Z j) : (zed Z l).set n (x.set 3 200) = zed Z' l := by
  apply List.ext_getElem?
  intro j
  have hnl : n < l.length := by rw [← zed_len Z]; exact (List.getElem?_eq_some_iff.1 hx).1
  cases h : l[j]? with
  | none =>
    have hj := List.getElem?_eq_none_iff.1 h
    rw [List.getElem?_eq_none (by rw [List.length_set, zed_len]; exact hj), List.getElem?_eq_none (by rw [zed_len]; exact hj)]
  | some y =>
    by_cases e : j = n
    · subst e
      rw [List.getElem?_set_self (by rw [zed_len]; exact hnl), zed_get h, hn, if_pos rfl]
      rw [zed_get h] at hx
      cases hx
      congr 1
      split
      · unfold rot; rw [List.set_set]
      · rfl
    · rw [List.getElem?_set_ne (fun h => e h.symm), zed_get h, zed_get h, ho j e]
/-- a frame of which that byte is turned says another label -/
theorem rot_label (u : Fm.U) (hl : u.label ≤ 1001) : (Fm.parse (rot (Fm.blk u))).label ≠ u.label := by
  have e : rot (Fm.blk u) = [Cd.b8 u.kind] ++ ([Cd.b8 (u.label / 16777216), Cd.b8 (u.label / 65536), 200, Cd.b8 u.label] ++ (Cd.be4 u.number ++ ([Cd.b8 ((u.load.length : Int) / 256)] ++ ([Cd.b8 (u.load.length : Int)] ++ (u.load ++ Fm.pad u ++ Cd.be4 (sumL (Fm.body u))))))) := by
    unfold rot Fm.blk Fm.body Fm.head
    simp [Cd.be4]
  obtain ⟨h1, -⟩ := Fm.take11 (Cd.b8 u.kind) (Cd.b8 ((u.load.length : Int) / 256)) (Cd.b8 (u.load.length : Int)) [Cd.b8 (u.label / 16777216), Cd.b8 (u.label / 65536), 200, Cd.b8 u.label] (Cd.be4 u.number) (u.load ++ Fm.pad u ++ Cd.be4 (sumL (Fm.body u))) rfl rfl
  obtain ⟨-, h2, -⟩ := Fm.reads (Cd.b8 u.kind) (Cd.b8 ((u.load.length : Int) / 256)) (Cd.b8 (u.load.length : Int)) [Cd.b8 (u.label / 16777216), Cd.b8 (u.label / 65536), 200, Cd.b8 u.label] (Cd.be4 u.number) [] rfl rfl
  show Fm.labelOf ((rot (Fm.blk u)).take 11) ≠ u.label
  rw [e, h1, h2]
  unfold Cd.num
  simp only [List.foldl_cons, List.foldl_nil]
  have a1 : (0 : Int) ≤ ((Cd.b8 (u.label / 16777216)).toNat : Int) := Int.natCast_nonneg _
  have a2 : (0 : Int) ≤ ((Cd.b8 (u.label / 65536)).toNat : Int) := Int.natCast_nonneg _
  have a3 : (0 : Int) ≤ ((Cd.b8 u.label).toNat : Int) := Int.natCast_nonneg _
  have a4 : ((200 : UInt8).toNat : Int) = 200 := rfl
  rw [a4]
  omega
/-- what a tape that was laid has in block n -/
theorem good_clean {caps : List Int} {b : Tx} {p : Pc} {Z : Nat → Bool} {n : Nat} {u : Fm.U} (hb : b.length ≤ 2000) (h : In caps b.length p) (ht : p.tape ≤ 1000) (hu : (us b p)[n]? = some u) (hz : Z n = false) : Vo.good ⟨(p.tape : Int) + 1, zed Z ((us b p).map Fm.blk), false⟩ n = some u := by
  obtain ⟨h1, h2, -⟩ := us_at hu
  refine Vo.good_at rfl ?_ (us_ok hb h ht u (List.mem_of_getElem? hu)) h1 h2
  show (zed Z ((us b p).map Fm.blk))[n]? = some (Fm.blk u)
  rw [zed_get (x := Fm.blk u) (by rw [List.getElem?_map, hu]; rfl), hz]; rfl
theorem good_rot {b : Tx} {p : Pc} {Z : Nat → Bool} {n : Nat} {u : Fm.U} (ht : p.tape ≤ 1000) (hu : (us b p)[n]? = some u) (hz : Z n = true) : Vo.good ⟨(p.tape : Int) + 1, zed Z ((us b p).map Fm.blk), false⟩ n = none := by
  obtain ⟨h1, h2, -⟩ := us_at hu
  have hg : (zed Z ((us b p).map Fm.blk))[n]? = some (rot (Fm.blk u)) := by rw [zed_get (x := Fm.blk u) (by rw [List.getElem?_map, hu]; rfl), hz]; rfl
  have hl := rot_label u (by rw [h1]; omega)
  unfold Vo.good
  rw [if_neg Bool.false_ne_true]
  show (match (zed Z ((us b p).map Fm.blk))[n]? with | none => none | some x => if Fm.Good x ∧ (Fm.parse x).label = (p.tape : Int) + 1 ∧ (Fm.parse x).number = (n : Int) then some (Fm.parse x) else none) = none
  rw [hg]
  exact if_neg fun hh => hl (by rw [h1]; exact hh.2.1)
/-- the blocks of tape i -/
def on (b : Tx) (ps : List Pc) (i : Nat) : List Tx := match ps.find? (fun p => p.tape == i) with
  | some p => (us b p).map Fm.blk
  | none => []
/-- the tapes, where Z is turned -/
def now (caps : List Int) (b : Tx) (ps : List Pc) (Z : Nat → Nat → Bool) : List St.T := (List.range caps.length).map fun i : Nat => (⟨(i : Int) + 1, caps.getD i 0, zed (Z i) (on b ps i), false⟩ : St.T)
theorem now_len (caps : List Int) (b : Tx) (ps : List Pc) (Z : Nat → Nat → Bool) : (now caps b ps Z).length = caps.length := by unfold now; simp
theorem now_get {caps : List Int} {b : Tx} {ps : List Pc} {Z : Nat → Nat → Bool} {i : Nat} (h : i < caps.length) : (now caps b ps Z)[i]? = some ⟨(i : Int) + 1, caps.getD i 0, zed (Z i) (on b ps i), false⟩ := by
  unfold now
  rw [List.getElem?_map, List.getElem?_range h]; rfl
/-- each tape has one piece at most -/
theorem find_tape {caps : List Int} {size : Nat} : ∀ {ps : List Pc} {next at_ : Nat}, Chain caps size next at_ ps → ∀ p ∈ ps, ps.find? (fun q => q.tape == p.tape) = some p
  | [], _, _, _, p, hp => nomatch hp
  | q :: ps, next, at_, h, p, hp => by
    obtain ⟨h1, h2, h3, h4, h5, h7⟩ := h
    rcases List.mem_cons.1 hp with rfl | hp
    · rw [List.find?_cons_of_pos (by simp)]
    · have := (h7.in_ p hp).2
      rw [List.find?_cons_of_neg (by simp; omega), find_tape h7 p hp]
theorem on_piece {caps : List Int} {b : Tx} {size next at_ : Nat} {ps : List Pc} (h : Chain caps size next at_ ps) {p : Pc} (hp : p ∈ ps) : on b ps p.tape = (us b p).map Fm.blk := by
  unfold on; rw [find_tape h p hp]
/-- the tape of a label -/
def tapeOf (ts : List St.T) (lab : Int) : Option St.T := ts.find? fun t => t.label == lab
theorem tapeOf_now {caps : List Int} {b : Tx} {ps : List Pc} {Z : Nat → Nat → Bool} {i : Nat} (h : i < caps.length) : tapeOf (now caps b ps Z) ((i : Int) + 1) = some ⟨(i : Int) + 1, caps.getD i 0, zed (Z i) (on b ps i), false⟩ := by
  unfold tapeOf
  rw [List.find?_eq_some_iff_getElem]
  refine ⟨by simp, i, by rw [now_len]; exact h, ?_, fun j hj => ?_⟩
  · exact Option.some.inj ((List.getElem?_eq_getElem _).symm.trans (now_get h))
  · have hj' : j < caps.length := by omega
    have e : (now caps b ps Z)[j]'(by rw [now_len]; exact hj') = ⟨(j : Int) + 1, caps.getD j 0, zed (Z j) (on b ps j), false⟩ := Option.some.inj ((List.getElem?_eq_getElem _).symm.trans (now_get hj'))
    rw [e]
    simp; omega
/-- what is read of a block, if it is data of so many bytes -/
def read (ts : List St.T) (lab : Int) (n w : Nat) : Option Tx := match tapeOf ts lab with
  | none => none
  | some t => match Vo.good ⟨t.label, t.blocks, t.lost⟩ n with
    | none => none
    | some u => if u.kind = 3 ∧ u.load.length = w then some u.load else none
/-- why none is -/
def why (ts : List St.T) (lab : Int) : Int := match tapeOf ts lab with
  | none => 9
  | some t => if t.lost = true then 9 else 8
/-- which blocks a file's bytes lie in: tape, block, how many -/
def wants (f : Ct.F) : List (Int × Nat × Nat) := f.parts.flatMap fun p => (List.range (Vo.data p.h.len.toNat)).map fun k => (p.lab, p.at_.toNat + 1 + k, if k + 1 = Vo.data p.h.len.toNat then p.h.len.toNat - 64 * k else 64)
/-- the bytes, the spot, and why -/
structure A where
  bytes : Tx
  lab : Int
  block : Int
  err : Int
def spot (f : Ct.F) : Int × Int := match f.parts with
  | [] => (0, 0)
  | p :: _ => (p.lab, p.at_)
def bytes (ts : List St.T) (f : Ct.F) : Tx := (wants f).flatMap fun x => (read ts x.1 x.2.1 x.2.2).getD []
/-- what restoring answers, where no group tells of a block -/
def restore (ts : List St.T) (f : Ct.F) : A :=
  if f.gone = true then ⟨[], 0, 0, 5⟩ else
  match (wants f).find? (fun x => (read ts x.1 x.2.1 x.2.2).isNone) with
  | some x => ⟨[], x.1, (x.2.1 : Int), why ts x.1⟩
  | none => if sumL (bytes ts f) = f.sum then ⟨bytes ts f, 0, 0, 0⟩ else ⟨[], (spot f).1, (spot f).2, 8⟩
/-- the file -/
def file (b : Tx) (ps : List Pc) : Ct.F := ⟨[97], 1, (b.length : Int), sumL b, 1, false, ps.map fun p => ⟨hd b p, (p.tape : Int) + 1, 1⟩⟩
/-- the steps in which it was laid -/
def steps (b : Tx) (ps : List Pc) : List (Nat × Fm.U) := ps.flatMap fun p => (us b p).map fun u => (p.tape, u)
/-- those of data -/
def isData (x : Nat × Fm.U) : Bool := x.2.kind == 3
def ask (x : Nat × Fm.U) : Int × Nat × Nat := ((x.1 : Int) + 1, x.2.number.toNat, x.2.load.length)
theorem filter_us {caps : List Int} {b : Tx} {p : Pc} (h : In caps b.length p) : ((us b p).map fun u => (p.tape, u)).filter isData = (List.range (Vo.data p.len)).map fun k => (p.tape, Vo.dataU ((p.tape : Int) + 1) 1 (sl b p) k) := by
  have hl := sl_len (b := b) (p := p) h.le
  unfold us Vo.units
  rw [hl]
  simp only [List.map_cons, List.map_append, List.map_map, List.filter_cons, List.filter_append]
  have e1 : isData (p.tape, Vo.first ((p.tape : Int) + 1) [68]) = false := rfl
  have e2 : isData (p.tape, Vo.headU ((p.tape : Int) + 1) 1 (hd b p)) = false := rfl
  rw [e1, e2]
  simp only [Bool.false_eq_true, if_false]
  have e3 : isData (p.tape, Vo.markU ((p.tape : Int) + 1) 1 (Vo.data p.len)) = false := rfl
  rw [List.map_nil, List.filter_nil, e3]
  simp only [Bool.false_eq_true, if_false, List.append_nil]
  rw [List.filter_eq_self.2]
  · rfl
  · intro x hx
    obtain ⟨k, -, rfl⟩ := List.mem_map.1 hx
    rfl
theorem chunk_size {b : Tx} {n k : Nat} (hb : b.length = n) (hk : k < Vo.data n) : (Vo.chunk b k).length = if k + 1 = Vo.data n then n - 64 * k else 64 := by
  unfold Vo.chunk
  rw [List.length_take, List.length_drop, hb]
  unfold Vo.data at hk ⊢
  split <;> omega
theorem wants_file {caps : List Int} {b : Tx} : ∀ {ps : List Pc} {next at_ : Nat}, Chain caps b.length next at_ ps → wants (file b ps) = ((steps b ps).filter isData).map ask
  | [], _, _, _ => rfl
  | p :: ps, next, at_, h => by
    have hin := (h.in_ p List.mem_cons_self).1
    obtain ⟨h1, h2, h3, h4, h5, h7⟩ := h
    have ih := wants_file h7
    unfold wants file steps at ih ⊢
    rw [List.map_cons, List.flatMap_cons, List.flatMap_cons, List.filter_append, List.map_append, ← ih, filter_us hin, List.map_map]
    congr 1
    refine List.map_congr_left fun k hk => ?_
    have hk' : k < Vo.data p.len := by
      have := List.mem_range.1 hk
      simpa [hd] using this
    have hl := sl_len (b := b) (p := p) hin.le
    show ((p.tape : Int) + 1, 1 + 1 + k, _) = ((p.tape : Int) + 1, (1 + 1 + (k : Int)).toNat, (Vo.chunk (sl b p) k).length)
    rw [chunk_size hl hk']
    refine Prod.ext rfl (Prod.ext (by show 1 + 1 + k = (1 + 1 + (k : Int)).toNat; omega) ?_)
    show (if k + 1 = Vo.data ((p.len : Int)).toNat then ((p.len : Int)).toNat - 64 * k else 64) = _
    rw [Int.toNat_natCast]
/-- a piece's chunks are its bytes -/
theorem chunks (b : Tx) : (List.range (Vo.data b.length)).flatMap (Vo.chunk b) = b := by
  have key : ∀ n, (List.range n).flatMap (Vo.chunk b) = b.take (64 * n) := by
    intro n
    induction n with
    | zero => simp
    | succ n ih =>
      rw [List.range_succ, List.flatMap_append, ih]
      simp only [List.flatMap_cons, List.flatMap_nil, List.append_nil]
      unfold Vo.chunk
      rw [show 64 * (n + 1) = 64 * n + 64 by omega, List.take_add]
  rw [key, List.take_of_length_le]
  unfold Vo.data; omega
theorem mem_steps {b : Tx} {ps : List Pc} {x : Nat × Fm.U} (h : x ∈ steps b ps) : ∃ p : Pc, p ∈ ps ∧ x.1 = p.tape ∧ ∃ n : Nat, (us b p)[n]? = some x.2 := by
  unfold steps at h
  obtain ⟨p, hp, hx⟩ := List.mem_flatMap.1 h
  obtain ⟨u, hu, rfl⟩ := List.mem_map.1 hx
  obtain ⟨n, hn, rfl⟩ := List.mem_iff_getElem.1 hu
  exact ⟨p, hp, rfl, n, List.getElem?_eq_getElem hn⟩
/-- what is read of a step's block -/
theorem read_step {caps : List Int} {b : Tx} {ps : List Pc} {next at_ : Nat} {Z : Nat → Nat → Bool} (hb : b.length ≤ 2000) (hc : caps.length ≤ 1000) (h : Chain caps b.length next at_ ps) {x : Nat × Fm.U} (hx : x ∈ steps b ps) (hd : isData x = true) :
    read (now caps b ps Z) ((ask x).1) ((ask x).2.1) ((ask x).2.2) = if Z x.1 x.2.number.toNat = true then none else some x.2.load := by
  obtain ⟨p, hp, e, n, hn⟩ := mem_steps hx
  obtain ⟨hin, -⟩ := h.in_ p hp
  obtain ⟨-, h2, -⟩ := us_at hn
  have hlt := hin.lt
  have e2 : x.2.number.toNat = n := by omega
  have hk : x.2.kind = 3 := by simpa [isData] using hd
  unfold read ask
  rw [e, e2, tapeOf_now hin.lt, on_piece h hp]
  show (match Vo.good ⟨(p.tape : Int) + 1, zed (Z p.tape) ((us b p).map Fm.blk), false⟩ n with | none => none | some u => if u.kind = 3 ∧ u.load.length = x.2.load.length then some u.load else none) = _
  cases hz : Z p.tape n with
  | true => rw [good_rot (by omega) hn hz]; rfl
  | false =>
    rw [good_clean hb hin (by omega) hn hz]
    show (if x.2.kind = 3 ∧ x.2.load.length = x.2.load.length then some x.2.load else none) = _
    rw [if_pos ⟨hk, rfl⟩]; rfl
/-- of a file that was laid and of which nothing is turned all bytes are read; else the first that is turned is told -/
theorem find_wants {caps : List Int} {b : Tx} {ps : List Pc} {next at_ : Nat} {Z : Nat → Nat → Bool} (hb : b.length ≤ 2000) (hc : caps.length ≤ 1000) (h : Chain caps b.length next at_ ps) :
    (wants (file b ps)).find? (fun x => (read (now caps b ps Z) x.1 x.2.1 x.2.2).isNone) = (((steps b ps).find? fun x => isData x && Z x.1 x.2.number.toNat).map ask) := by
  rw [wants_file h, List.find?_map]
  congr 1
  have key : ∀ l : List (Nat × Fm.U), (∀ x ∈ l, x ∈ steps b ps) → (l.filter isData).find? ((fun x => (read (now caps b ps Z) x.1 x.2.1 x.2.2).isNone) ∘ ask) = l.find? fun x => isData x && Z x.1 x.2.number.toNat := by
    intro l
    induction l with
    | nil => intro _; rfl
    | cons x l ih =>
      intro hm
      have ih' := ih fun y hy => hm y (List.mem_cons_of_mem _ hy)
      cases hd : isData x with
      | false =>
        rw [List.filter_cons_of_neg (by rw [hd]; decide), List.find?_cons_of_neg (by rw [hd]; simp), ih']
      | true =>
        have hr := read_step (Z := Z) hb hc h (hm x List.mem_cons_self) hd
        rw [List.filter_cons_of_pos hd]
        cases hz : Z x.1 x.2.number.toNat with
        | true =>
          rw [hz, if_pos rfl] at hr
          rw [List.find?_cons_of_pos (by show (read _ _ _ _).isNone = true; rw [hr]; rfl), List.find?_cons_of_pos (by rw [hd, hz]; rfl)]
        | false =>
          rw [hz, if_neg (by decide)] at hr
          rw [List.find?_cons_of_neg (by show ¬ (read _ _ _ _).isNone = true; rw [hr]; simp), List.find?_cons_of_neg (by rw [hd, hz]; decide), ih']
  exact key _ fun _ hx => hx
theorem loads_us {caps : List Int} {b : Tx} {p : Pc} (h : In caps b.length p) : (((us b p).map fun u => (p.tape, u)).filter isData).flatMap (fun x => x.2.load) = sl b p := by
  rw [filter_us h, List.flatMap_map]
  have := chunks (sl b p)
  rw [sl_len h.le] at this
  exact this
theorem loads {caps : List Int} {b : Tx} : ∀ {ps : List Pc} {next at_ : Nat}, Chain caps b.length next at_ ps → ((steps b ps).filter isData).flatMap (fun x => x.2.load) = b.drop at_
  | [], _, at_, h => by
    have h' : at_ = b.length := h
    rw [h', List.drop_length]; rfl
  | p :: ps, next, at_, h => by
    have hin := (h.in_ p List.mem_cons_self).1
    have hs := slices h
    rw [← hs]
    obtain ⟨h1, h2, h3, h4, h5, h7⟩ := h
    unfold steps
    rw [List.flatMap_cons, List.filter_append, List.flatMap_append, loads_us hin, List.flatMap_cons, slices h7]
    congr 1
    exact loads h7
theorem bytes_whole {caps : List Int} {b : Tx} {ps : List Pc} (hb : b.length ≤ 2000) (hc : caps.length ≤ 1000) (h : Chain caps b.length 0 0 ps) {Z : Nat → Nat → Bool} (hz : ∀ x ∈ steps b ps, isData x = true → Z x.1 x.2.number.toNat = false) : bytes (now caps b ps Z) (file b ps) = b := by
  unfold bytes
  rw [wants_file h, List.flatMap_map]
  have e : ∀ x ∈ (steps b ps).filter isData, (read (now caps b ps Z) (ask x).1 (ask x).2.1 (ask x).2.2).getD [] = x.2.load := by
    intro x hx
    obtain ⟨h1, h2⟩ := List.mem_filter.1 hx
    rw [read_step hb hc h h1 h2, hz x h1 h2]; rfl
  have := loads h
  rw [List.drop_zero] at this
  refine Eq.trans ?_ this
  unfold List.flatMap
  rw [List.map_congr_left e]
/-- what is read behind it all -/
theorem restore_laid {caps : List Int} {b : Tx} {ps : List Pc} (hb : b.length ≤ 2000) (hc : caps.length ≤ 1000) (h : Chain caps b.length 0 0 ps) (Z : Nat → Nat → Bool) :
    restore (now caps b ps Z) (file b ps) = match (steps b ps).find? (fun x => isData x && Z x.1 x.2.number.toNat) with
      | none => ⟨b, 0, 0, 0⟩
      | some x => ⟨[], (x.1 : Int) + 1, x.2.number, 8⟩ := by
  unfold restore
  rw [if_neg (show ¬ (file b ps).gone = true from Bool.false_ne_true), find_wants hb hc h]
  cases hf : (steps b ps).find? (fun x => isData x && Z x.1 x.2.number.toNat) with
  | none =>
    have hz : ∀ x ∈ steps b ps, isData x = true → Z x.1 x.2.number.toNat = false := fun x hx hd => by
      have := List.find?_eq_none.1 hf x hx
      rw [hd] at this
      simpa using this
    show (if sumL (bytes (now caps b ps Z) (file b ps)) = (file b ps).sum then _ else _) = _
    rw [bytes_whole hb hc h hz, if_pos (show sumL b = (file b ps).sum from rfl)]
  | some x =>
    have hx := List.mem_of_find?_eq_some hf
    obtain ⟨p, hp, e, n, hn⟩ := mem_steps hx
    obtain ⟨hin, -⟩ := h.in_ p hp
    obtain ⟨-, h2, -⟩ := us_at hn
    have hw : why (now caps b ps Z) ((x.1 : Int) + 1) = 8 := by
      unfold why
      rw [e, tapeOf_now hin.lt]; rfl
    show A.mk [] ((x.1 : Int) + 1) ((x.2.number.toNat : Nat) : Int) (why (now caps b ps Z) ((x.1 : Int) + 1)) = A.mk [] ((x.1 : Int) + 1) x.2.number 8
    rw [hw, show ((x.2.number.toNat : Nat) : Int) = x.2.number by omega]
end Go.Proofs.YtndofmoepjfnfaaGreat.Rs
namespace Go.Proofs.YtndofmoepjfnfaaGreat
open Pt (Tx)
namespace Tp
/-- may it be a block -/
def okB (s : Tx) : Bool := decide (1 ≤ s.length) && decide (s.length ≤ 94)
/-- may it be a tape -/
def right (lab cap : Int) (bs : List Tx) : Bool := decide (1 ≤ lab) && decide (0 ≤ cap) && decide (cap ≤ 64) && decide ((bs.length : Int) ≤ cap) && bs.all okB
/-- what Load says -/
def loadE (lab cap : Int) (bs : List Tx) (lost : Bool) : Int := if right lab cap bs = false then 1 else if lost then 9 else 0
/-- one text xored with another, where both are -/
def rot : Tx → Tx → Tx
  | a :: s, b :: t => (a ^^^ b) :: rot s t
  | s, _ => s
theorem rot_len : ∀ s t : Tx, (rot s t).length = s.length
  | [], _ => by simp [rot]
  | _ :: _, [] => by simp [rot]
  | _ :: s, _ :: t => by simp [rot, rot_len s t]
theorem rot_nil (s : Tx) : rot s [] = s := by cases s <;> rfl
theorem rot_at : ∀ (s t : Tx) (k : Nat) (h : k < s.length), (rot s t)[k]'(by rw [rot_len]; exact h) = if h' : k < t.length then s[k] ^^^ t[k] else s[k]
  | _ :: _, [], k, h => by simp [rot]
  | _ :: _, _ :: _, 0, h => by simp [rot]
  | _ :: s, _ :: t, k + 1, h => by
    have := rot_at s t k (by simpa using h)
    simp only [rot, List.getElem_cons_succ, List.length_cons, Nat.add_lt_add_iff_right]
    exact this
theorem rot_rot : ∀ s t : Tx, rot (rot s t) t = s
  | [], _ => by simp [rot]
  | _ :: _, [] => by simp [rot]
  | a :: s, b :: t => by simp [rot, rot_rot s t, UInt8.xor_assoc]
/-- Cut: the first n blocks, and of the next one its first m bytes -/
def cut (bs : List Tx) (n m : Int) : List Tx :=
  match bs[n.toNat]? with
  | none => bs
  | some s => bs.take n.toNat ++ (if 0 < m then [s.take m.toNat] else [])
/-- Rot of block n -/
def turn (bs : List Tx) (n : Int) (t : Tx) : List Tx := if n < 0 then bs else bs.modify n.toNat (fun s => rot s t)
end Tp
end Go.Proofs.YtndofmoepjfnfaaGreat
namespace Go.Proofs.YtndofmoepjfnfaaGreat.Vo
open Pt (Tx)

theorem lay_snoc (p : Tx) (lab : Int) (n : Nat) : ∀ (ns : List Nat) (pre : List Tx) (i : Nat), lay p lab pre i (ns ++ [n]) = lay p lab pre i ns ++ put lab ((lay p lab pre i ns).length : Int) (hd p (i + ns.length) n) (List.replicate n 0)
  | [], pre, i => rfl
  | m :: ns, pre, i => by
    rw [List.cons_append, lay, lay, lay_snoc p lab n ns, List.length_cons, show i + 1 + ns.length = i + (ns.length + 1) by omega]
theorem put_le {lab at_ : Int} {h : Rc.H} {b : Tx} {s : Tx} (hs : s ∈ put lab at_ h b) : s.length ≤ 94 := by
  by_cases k : Right lab at_ h b
  · rw [put_yes k] at hs
    obtain ⟨u, hu, rfl⟩ := List.mem_map.1 hs
    obtain ⟨j, hj⟩ := List.getElem?_of_mem hu
    have := units_ok k.1.1 k.2 hj
    rw [← Fm.put_ok this]
    exact Fm.put_le u
  · rw [put_no k] at hs; cases hs
theorem put_pos {lab at_ : Int} {h : Rc.H} {b : Tx} {s : Tx} (hs : s ∈ put lab at_ h b) : 15 ≤ s.length := by
  by_cases k : Right lab at_ h b
  · rw [put_yes k] at hs
    obtain ⟨u, hu, rfl⟩ := List.mem_map.1 hs
    obtain ⟨j, hj⟩ := List.getElem?_of_mem hu
    have := units_ok k.1.1 k.2 hj
    rw [Fm.blk_len this]; omega
  · rw [put_no k] at hs; cases hs
theorem lay_le {p : Tx} {lab : Int} {s : Tx} : ∀ (ns : List Nat) (pre : List Tx) (i : Nat), (∀ x ∈ pre, x.length ≤ 94) → s ∈ lay p lab pre i ns → s.length ≤ 94
  | [], pre, _, hp, hs => hp s hs
  | m :: ns, pre, i, hp, hs => lay_le ns _ (i + 1) (fun x hx => by
      rcases List.mem_append.1 hx with h | h
      · exact hp x h
      · exact put_le h) hs
theorem room_snoc (n : Nat) : ∀ ns : List Nat, room (ns ++ [n]) = room ns + (data n + 2)
  | [] => by simp [room]
  | m :: ns => by rw [List.cons_append, room, room, room_snoc n ns]; omega
theorem room_le : ∀ ns : List Nat, (∀ n ∈ ns, n ≤ 127) → room ns ≤ 4 * ns.length
  | [], _ => Nat.le_refl _
  | m :: ns, h => by
    have h1 := room_le ns fun n hn => h n (List.mem_cons_of_mem _ hn)
    have h2 := h m (List.mem_cons_self ..)
    rw [room, List.length_cons]
    unfold data
    omega
end Go.Proofs.YtndofmoepjfnfaaGreat.Vo
namespace Go.Proofs.YtndofmoepjfnfaaGreat.Rs
open Pt (Tx)

/-- one step: a block comes behind a tape's blocks, if the tape can be loaded and has room -/
def doOne (ts : List St.T) (s : Nat × Tx) : List St.T := match ts[s.1]? with
  | none => ts
  | some t => if Tp.loadE t.label t.cap t.blocks t.lost = 0 ∧ (t.blocks.length : Int) < t.cap ∧ Tp.okB s.2 = true then ts.set s.1 ⟨t.label, t.cap, t.blocks ++ [s.2], t.lost⟩ else ts
def doAll (ts : List St.T) (l : List (Nat × Tx)) : List St.T := l.foldl doOne ts
theorem doAll_take {ts : List St.T} {l : List (Nat × Tx)} {i : Nat} (hi : i < l.length) : doAll ts (l.take (i + 1)) = doOne (doAll ts (l.take i)) l[i] := by
  unfold doAll
  rw [List.take_succ_eq_append_getElem hi, List.foldl_append]; rfl
theorem doOne_len (ts : List St.T) (s : Nat × Tx) : (doOne ts s).length = ts.length := by
  unfold doOne
  split
  · rfl
  · split
    · rw [List.length_set]
    · rfl
theorem doAll_len (l : List (Nat × Tx)) : ∀ ts : List St.T, (doAll ts l).length = ts.length := by
  induction l with
  | nil => intro ts; rfl
  | cons s l ih =>
    intro ts
    show (doAll (doOne ts s) l).length = _
    rw [ih, doOne_len]
/-- tapes with these blocks -/
def tps (caps : List Int) (β : Nat → List Tx) : List St.T := (List.range caps.length).map fun i : Nat => (⟨(i : Int) + 1, caps.getD i 0, β i, false⟩ : St.T)
theorem tps_len (caps : List Int) (β : Nat → List Tx) : (tps caps β).length = caps.length := by unfold tps; simp
theorem tps_get {caps : List Int} {β : Nat → List Tx} {i : Nat} (h : i < caps.length) : (tps caps β)[i]? = some ⟨(i : Int) + 1, caps.getD i 0, β i, false⟩ := by
  unfold tps
  rw [List.getElem?_map, List.getElem?_range h]; rfl
theorem tps_congr {caps : List Int} {β γ : Nat → List Tx} (h : ∀ i, i < caps.length → β i = γ i) : tps caps β = tps caps γ := by
  unfold tps
  refine List.map_congr_left fun i hi => ?_
  rw [h i (List.mem_range.1 hi)]
theorem tps_set {caps : List Int} {β : Nat → List Tx} {i : Nat} (x : List Tx) : (tps caps β).set i ⟨(i : Int) + 1, caps.getD i 0, x, false⟩ = tps caps (fun j => if j = i then x else β j) := by
  apply List.ext_getElem?
  intro j
  by_cases hj : j < caps.length
  · rw [tps_get hj]
    by_cases e : i = j
    · subst e
      rw [List.getElem?_set_self (by rw [tps_len]; exact hj), if_pos rfl]
    · rw [List.getElem?_set_ne e, tps_get hj, if_neg (fun h => e h.symm)]
  · rw [List.getElem?_eq_none (by rw [List.length_set, tps_len]; omega), List.getElem?_eq_none (by rw [tps_len]; omega)]
theorem now_tps (caps : List Int) (b : Tx) (ps : List Pc) : now caps b ps (fun _ _ => false) = tps caps (on b ps) := by
  unfold now tps
  refine List.map_congr_left fun i _ => ?_
  rw [zed_none]
/-- a block that fits -/
theorem doOne_fits {caps : List Int} {β : Nat → List Tx} {i : Nat} {x : Tx} (hi : i < caps.length) (hc : caps.getD i 0 ≤ 64) (hb : ∀ y ∈ β i, Tp.okB y = true) (hx : Tp.okB x = true) (hf : ((β i).length : Int) < caps.getD i 0) :
    doOne (tps caps β) (i, x) = tps caps (fun j => if j = i then β i ++ [x] else β j) := by
  have hl : Tp.loadE ((i : Int) + 1) (caps.getD i 0) (β i) false = 0 := by
    unfold Tp.loadE
    have : Tp.right ((i : Int) + 1) (caps.getD i 0) (β i) = true := by
      unfold Tp.right
      rw [List.all_eq_true.2 hb]
      generalize caps.getD i 0 = c at hc hf ⊢
      simp
      omega
    rw [this]; rfl
  unfold doOne
  rw [tps_get hi]
  show (if Tp.loadE ((i : Int) + 1) (caps.getD i 0) (β i) false = 0 ∧ ((β i).length : Int) < caps.getD i 0 ∧ Tp.okB x = true then (tps caps β).set i ⟨(i : Int) + 1, caps.getD i 0, β i ++ [x], false⟩ else tps caps β) = _
  rw [if_pos ⟨hl, hf, hx⟩, tps_set]
/-- blocks that all fit, on one tape -/
theorem do_row {caps : List Int} {i : Nat} (hi : i < caps.length) (hc : caps.getD i 0 ≤ 64) : ∀ (l : List Tx) (β : Nat → List Tx), (∀ y ∈ β i, Tp.okB y = true) → (∀ y ∈ l, Tp.okB y = true) → (((β i).length + l.length : Nat) : Int) ≤ caps.getD i 0 →
    doAll (tps caps β) (l.map fun x => (i, x)) = tps caps (fun j => if j = i then β i ++ l else β j)
  | [], β, _, _, _ => tps_congr fun j _ => by
      by_cases e : j = i
      · subst e; simp
      · simp [e]
  | x :: l, β, h1, h2, h3 => by
    rw [List.length_cons] at h3
    show doAll (doOne (tps caps β) (i, x)) (l.map fun x => (i, x)) = _
    rw [doOne_fits hi hc h1 (h2 x List.mem_cons_self) (by omega)]
    rw [do_row hi hc l (fun j => if j = i then β i ++ [x] else β j) (fun y hy => by
      rw [if_pos rfl] at hy
      rcases List.mem_append.1 hy with hy | hy
      · exact h1 y hy
      · rw [List.mem_singleton.1 hy]; exact h2 x List.mem_cons_self) (fun y hy => h2 y (List.mem_cons_of_mem _ hy)) (by rw [if_pos rfl, List.length_append, List.length_singleton]; omega)]
    refine tps_congr fun j _ => ?_
    by_cases e : j = i
    · subst e; simp
    · simp [e]
theorem blk_okB {u : Fm.U} (h : Fm.Ok u) : Tp.okB (Fm.blk u) = true := by
  unfold Tp.okB
  have h1 := Fm.blk_len h
  have h2 := Fm.room_le u.kind
  simp
  omega
/-- the steps of a file, as blocks -/
def laidSteps (b : Tx) (ps : List Pc) : List (Nat × Tx) := (steps b ps).map fun x => (x.1, Fm.blk x.2)
theorem do_chain {caps : List Int} {b : Tx} (hb : b.length ≤ 2000) (hn : caps.length ≤ 1000) (hc : ∀ i, caps.getD i 0 ≤ 64) : ∀ {ps : List Pc} {next at_ : Nat} {β : Nat → List Tx}, Chain caps b.length next at_ ps → (∀ i, next ≤ i → β i = []) →
    doAll (tps caps β) (laidSteps b ps) = tps caps (fun i => if (ps.find? fun p => p.tape == i).isSome = true then on b ps i else β i)
  | [], _, _, β, _, _ => tps_congr fun i _ => by simp
  | p :: ps, next, at_, β, h, h0 => by
    have hin := (h.in_ p List.mem_cons_self).1
    have h' := h
    obtain ⟨h1, h2, h3, h4, h5, h7⟩ := h
    have hlt := hin.lt
    have hb0 : β p.tape = [] := h0 _ h1
    have hok : ∀ y ∈ (us b p).map Fm.blk, Tp.okB y = true := fun y hy => by
      obtain ⟨u, hu, rfl⟩ := List.mem_map.1 hy
      exact blk_okB (us_ok hb hin (by omega) u hu)
    unfold laidSteps steps doAll
    rw [List.flatMap_cons, List.map_append, List.foldl_append]
    have e1 : (((us b p).map fun u => (p.tape, u)).map fun x : Nat × Fm.U => (x.1, Fm.blk x.2)) = ((us b p).map Fm.blk).map fun x => (p.tape, x) := by
      rw [List.map_map, List.map_map]; rfl
    rw [e1]
    have e2 := do_row hlt (hc p.tape) ((us b p).map Fm.blk) β (by rw [hb0]; exact fun y hy => nomatch hy) hok (by rw [hb0, List.length_map, us_len hin.le, List.length_nil, Nat.zero_add]; exact hin.cap)
    unfold doAll at e2
    rw [e2, hb0, List.nil_append]
    have e3 := do_chain hb hn hc (β := fun j => if j = p.tape then (us b p).map Fm.blk else β j) h7 (fun i hi => by
      show (if i = p.tape then _ else _) = _
      rw [if_neg (by omega)]; exact h0 i (by omega))
    unfold doAll laidSteps steps at e3
    rw [e3]
    refine tps_congr fun i _ => ?_
    by_cases e : p.tape = i
    · subst e
      have hno : (ps.find? fun q => q.tape == p.tape) = none := by
        rw [List.find?_eq_none]
        intro q hq
        have := (h7.in_ q hq).2
        simp; omega
      rw [hno, List.find?_cons_of_pos (by simp)]
      simp only [Option.isSome_none, Bool.false_eq_true, if_false, if_true, Option.isSome_some]
      rw [on_piece h' List.mem_cons_self]
    · rw [List.find?_cons_of_neg (by simpa using e)]
      by_cases hs : (ps.find? fun q => q.tape == i).isSome = true
      · rw [if_pos hs, if_pos hs]
        unfold on
        rw [List.find?_cons_of_neg (by simpa using e)]
      · rw [if_neg hs, if_neg hs, if_neg (fun h => e h.symm)]
/-- what the steps of a file make of blank tapes -/
theorem do_laid {caps : List Int} {b : Tx} {ps : List Pc} (hb : b.length ≤ 2000) (hn : caps.length ≤ 1000) (hc : ∀ i, caps.getD i 0 ≤ 64) (h : Chain caps b.length 0 0 ps) : doAll (tps caps fun _ => []) (laidSteps b ps) = now caps b ps (fun _ _ => false) := by
  rw [do_chain hb hn hc h fun _ _ => rfl, now_tps]
  refine tps_congr fun i _ => ?_
  by_cases hs : (ps.find? fun p => p.tape == i).isSome = true
  · rw [if_pos hs]
  · rw [if_neg hs]
    unfold on
    cases hf : ps.find? (fun p => p.tape == i) with
    | none => rfl
    | some p => rw [hf] at hs; exact absurd rfl hs
end Go.Proofs.YtndofmoepjfnfaaGreat.Rs
