/- A file that was laid on blank tapes: its pieces, the frames of each, and what is read of them, also where some rotted. No program. -/
import Derived.Test.YtndofmoepjfnfaaDoorMam
namespace Go.Proofs.YtndofmoepjfnfaaDoor.Rs
open Pt (Tx)

/-- a piece: on which tape, from which byte on, how many -/
structure Pc where
  tape : Nat
  at_ : Nat
  len : Nat
/-- pieces that make a file, one behind the other, on tapes from next on, each fitting -/
def Chain (caps : List Int) (size : Nat) : Nat → Nat → List Pc → Prop
  | _, at_, [] => at_ = size
  | next, at_, p :: ps => next ≤ p.tape ∧ p.at_ = at_ ∧ at_ + p.len ≤ size ∧ (0 < p.len ∨ size = 0 ∧ ps = []) ∧ (∃ h : p.tape < caps.length, ((Vo.data p.len + 3 : Nat) : Int) ≤ caps[p.tape]) ∧ Chain caps size (p.tape + 1) (at_ + p.len) ps
/-- what holds of each -/
structure In (caps : List Int) (size : Nat) (p : Pc) : Prop where
  le : p.at_ + p.len ≤ size
  pos : 0 < p.len ∨ size = 0
  lt : p.tape < caps.length
  cap : ((Vo.data p.len + 3 : Nat) : Int) ≤ caps.getD p.tape 0
theorem Chain.in_ {caps : List Int} {size : Nat} : ∀ {ps : List Pc} {next at_ : Nat}, Chain caps size next at_ ps → ∀ p ∈ ps, In caps size p ∧ next ≤ p.tape
  | [], _, _, _, p, hp => nomatch hp
  | q :: ps, next, at_, h, p, hp => by
    obtain ⟨h1, h2, h3, h4, ⟨h5, h6⟩, h7⟩ := h
    rcases List.mem_cons.1 hp with rfl | hp
    · exact ⟨⟨by omega, by rcases h4 with h4 | h4; exact .inl h4; exact .inr h4.1, h5, by rw [List.getD_eq_getElem?_getD, List.getElem?_eq_getElem h5]; exact h6⟩, h1⟩
    · obtain ⟨k1, k2⟩ := h7.in_ p hp
      exact ⟨k1, by omega⟩
def hd (b : Tx) (p : Pc) : Rc.H := ⟨[97], 1, (b.length : Int), (p.at_ : Int), (p.len : Int), 1, sumL b, false⟩
def sl (b : Tx) (p : Pc) : Tx := (b.drop p.at_).take p.len
theorem sl_len {b : Tx} {p : Pc} (h : p.at_ + p.len ≤ b.length) : (sl b p).length = p.len := by
  unfold sl; rw [List.length_take, List.length_drop]; omega
/-- the pieces' bytes are the file's -/
theorem slices {caps : List Int} {b : Tx} : ∀ {ps : List Pc} {next at_ : Nat}, Chain caps b.length next at_ ps → (ps.flatMap (sl b)) = b.drop at_
  | [], _, at_, h => by
    have h' : at_ = b.length := h
    rw [h', List.drop_length]; rfl
  | p :: ps, next, at_, h => by
    obtain ⟨h1, h2, h3, h4, h5, h7⟩ := h
    rw [List.flatMap_cons, slices h7]
    unfold sl
    rw [h2, ← List.drop_drop, List.take_append_drop]
theorem hd_ok {caps : List Int} {b : Tx} {p : Pc} (hb : b.length ≤ 2000) (h : In caps b.length p) : Rc.Ok (hd b p) := by
  have h1 := h.le
  have h2 := h.pos
  have h3 := sumL_lo b
  have h4 := sumL_hi b
  refine ⟨show Pt.right [97] = true by decide, ⟨?_, ?_⟩, ⟨?_, ?_⟩, ⟨?_, ?_⟩, ?_, ?_, ?_, ?_, ⟨h3, ?_⟩, fun h => by cases h⟩ <;> (unfold hd; simp only; omega)
theorem right {caps : List Int} {b : Tx} {p : Pc} (hb : b.length ≤ 2000) (h : In caps b.length p) (ht : p.tape ≤ 1000) : Vo.Right ((p.tape : Int) + 1) 1 (hd b p) (sl b p) := by
  have hl := sl_len (b := b) (p := p) h.le
  have hle := h.le
  refine ⟨⟨hd_ok hb h, by rw [hl]; rfl⟩, ⟨by omega, by omega⟩, by omega, ?_⟩
  rw [hl]
  unfold Vo.data
  omega
/-- the frames of a piece: the tape's own, and the part's -/
def us (b : Tx) (p : Pc) : List Fm.U := Vo.first ((p.tape : Int) + 1) [68] :: Vo.units ((p.tape : Int) + 1) 1 (hd b p) (sl b p)
theorem us_len {b : Tx} {p : Pc} (h : p.at_ + p.len ≤ b.length) : (us b p).length = Vo.data p.len + 3 := by
  unfold us; rw [List.length_cons, Vo.units_len, sl_len h]
theorem us_at {b : Tx} {p : Pc} {j : Nat} {u : Fm.U} (hu : (us b p)[j]? = some u) : u.label = (p.tape : Int) + 1 ∧ u.number = (j : Int) ∧ (u.kind = 2 → j = 1) := by
  cases j with
  | zero => cases hu; exact ⟨rfl, rfl, fun h => absurd h (by show ¬ (1 : Int) = 2; decide)⟩
  | succ j =>
    have hu' : (Vo.units ((p.tape : Int) + 1) 1 (hd b p) (sl b p))[j]? = some u := hu
    obtain ⟨h1, h2, h3, -⟩ := Vo.units_at hu'
    exact ⟨h1, by omega, fun hk => by rcases h3 with h3 | h3; omega; exact absurd hk h3⟩
theorem us_ok {caps : List Int} {b : Tx} {p : Pc} (hb : b.length ≤ 2000) (h : In caps b.length p) (ht : p.tape ≤ 1000) : ∀ u ∈ us b p, Fm.Ok u := fun u hu => by
  have hR := right hb h ht
  rcases List.mem_cons.1 hu with rfl | hu
  · exact Vo.first_ok ⟨by omega, by omega⟩ (by decide)
  · obtain ⟨j, hj, rfl⟩ := List.mem_iff_getElem.1 hu
    exact Vo.units_ok hR.1.1 hR.2 (List.getElem?_eq_getElem hj)
/-- a byte that is turned -/
def rot (x : Tx) : Tx := x.set 3 200
def zed (Z : Nat → Bool) (l : List Tx) : List Tx := l.mapIdx fun j x => if Z j = true then rot x else x
theorem zed_len (Z : Nat → Bool) (l : List Tx) : (zed Z l).length = l.length := by unfold zed; simp
theorem zed_get {Z : Nat → Bool} {l : List Tx} {j : Nat} {x : Tx} (h : l[j]? = some x) : (zed Z l)[j]? = some (if Z j = true then rot x else x) := by
  unfold zed; rw [List.getElem?_mapIdx, h]; rfl
theorem zed_none (l : List Tx) : zed (fun _ => false) l = l := by
  apply List.ext_getElem?
  intro j
  cases h : l[j]? with
  | none => rw [List.getElem?_eq_none]; rw [zed_len]; exact List.getElem?_eq_none_iff.1 h
  | some x => rw [zed_get h]; rfl
/-- one more is turned -/
theorem zed_set {Z Z' : Nat → Bool} {l : List Tx} {n : Nat} {x : Tx} (hx : (zed Z l)[n]? = some x) (hn : Z' n = true) (ho : ∀ j, j ≠ n → Z' j = Z j) : (zed Z l).set n (x.set 3 200) = zed Z' l := by
  apply List.ext_getElem?
  intro j
  have hnl : n < l.length := by rw [← zed_len Z]; exact (List.getElem?_eq_some_iff.1 hx).1
  cases h : l[j]? with
  | none =>
    have hj := List.getElem?_eq_none_iff.1 h
    rw [List.getElem?_eq_none (by rw [List.length_set, zed_len]; exact hj), List.getElem?_eq_none (by rw [zed_len]; exact hj)]
  | some y =>
    by_cases e : j = n
    · subst e
      rw [List.getElem?_set_self (by rw [zed_len]; exact hnl), zed_get h, hn, if_pos rfl]
      rw [zed_get h] at hx
      cases hx
      congr 1
      split
      · unfold rot; rw [List.set_set]
      · rfl
    · rw [List.getElem?_set_ne (fun h => e h.symm), zed_get h, zed_get h, ho j e]
/-- a frame of which that byte is turned says another label -/
theorem rot_label (u : Fm.U) (hl : u.label ≤ 1001) : (Fm.parse (rot (Fm.blk u))).label ≠ u.label := by
  have e : rot (Fm.blk u) = [Cd.b8 u.kind] ++ ([Cd.b8 (u.label / 16777216), Cd.b8 (u.label / 65536), 200, Cd.b8 u.label] ++ (Cd.be4 u.number ++ ([Cd.b8 ((u.load.length : Int) / 256)] ++ ([Cd.b8 (u.load.length : Int)] ++ (u.load ++ Fm.pad u ++ Cd.be4 (sumL (Fm.body u))))))) := by
    unfold rot Fm.blk Fm.body Fm.head
    simp [Cd.be4]
  obtain ⟨h1, -⟩ := Fm.take11 (Cd.b8 u.kind) (Cd.b8 ((u.load.length : Int) / 256)) (Cd.b8 (u.load.length : Int)) [Cd.b8 (u.label / 16777216), Cd.b8 (u.label / 65536), 200, Cd.b8 u.label] (Cd.be4 u.number) (u.load ++ Fm.pad u ++ Cd.be4 (sumL (Fm.body u))) rfl rfl
  obtain ⟨-, h2, -⟩ := Fm.reads (Cd.b8 u.kind) (Cd.b8 ((u.load.length : Int) / 256)) (Cd.b8 (u.load.length : Int)) [Cd.b8 (u.label / 16777216), Cd.b8 (u.label / 65536), 200, Cd.b8 u.label] (Cd.be4 u.number) [] rfl rfl
  show Fm.labelOf ((rot (Fm.blk u)).take 11) ≠ u.label
  rw [e, h1, h2]
  unfold Cd.num
  simp only [List.foldl_cons, List.foldl_nil]
  have a1 : (0 : Int) ≤ ((Cd.b8 (u.label / 16777216)).toNat : Int) := Int.natCast_nonneg _
  have a2 : (0 : Int) ≤ ((Cd.b8 (u.label / 65536)).toNat : Int) := Int.natCast_nonneg _
  have a3 : (0 : Int) ≤ ((Cd.b8 u.label).toNat : Int) := Int.natCast_nonneg _
  have a4 : ((200 : UInt8).toNat : Int) = 200 := rfl
  rw [a4]
  omega
/-- what a tape that was laid has in block n -/
theorem good_clean {caps : List Int} {b : Tx} {p : Pc} {Z : Nat → Bool} {n : Nat} {u : Fm.U} (hb : b.length ≤ 2000) (h : In caps b.length p) (ht : p.tape ≤ 1000) (hu : (us b p)[n]? = some u) (hz : Z n = false) : Vo.good ⟨(p.tape : Int) + 1, zed Z ((us b p).map Fm.blk), false⟩ n = some u := by
  obtain ⟨h1, h2, -⟩ := us_at hu
  refine Vo.good_at rfl ?_ (us_ok hb h ht u (List.mem_of_getElem? hu)) h1 h2
  show (zed Z ((us b p).map Fm.blk))[n]? = some (Fm.blk u)
  rw [zed_get (x := Fm.blk u) (by rw [List.getElem?_map, hu]; rfl), hz]; rfl
theorem good_rot {b : Tx} {p : Pc} {Z : Nat → Bool} {n : Nat} {u : Fm.U} (ht : p.tape ≤ 1000) (hu : (us b p)[n]? = some u) (hz : Z n = true) : Vo.good ⟨(p.tape : Int) + 1, zed Z ((us b p).map Fm.blk), false⟩ n = none := by
  obtain ⟨h1, h2, -⟩ := us_at hu
  have hg : (zed Z ((us b p).map Fm.blk))[n]? = some (rot (Fm.blk u)) := by rw [zed_get (x := Fm.blk u) (by rw [List.getElem?_map, hu]; rfl), hz]; rfl
  have hl := rot_label u (by rw [h1]; omega)
  unfold Vo.good
  rw [if_neg Bool.false_ne_true]
  show (match (zed Z ((us b p).map Fm.blk))[n]? with | none => none | some x => if Fm.Good x ∧ (Fm.parse x).label = (p.tape : Int) + 1 ∧ (Fm.parse x).number = (n : Int) then some (Fm.parse x) else none) = none
  rw [hg]
  exact if_neg fun hh => hl (by rw [h1]; exact hh.2.1)
/-- the blocks of tape i -/
def on (b : Tx) (ps : List Pc) (i : Nat) : List Tx := match ps.find? (fun p => p.tape == i) with
  | some p => (us b p).map Fm.blk
  | none => []
/-- the tapes, where Z is turned -/
def now (caps : List Int) (b : Tx) (ps : List Pc) (Z : Nat → Nat → Bool) : List St.T := (List.range caps.length).map fun i : Nat => (⟨(i : Int) + 1, caps.getD i 0, zed (Z i) (on b ps i), false⟩ : St.T)
theorem now_len (caps : List Int) (b : Tx) (ps : List Pc) (Z : Nat → Nat → Bool) : (now caps b ps Z).length = caps.length := by unfold now; simp
theorem now_get {caps : List Int} {b : Tx} {ps : List Pc} {Z : Nat → Nat → Bool} {i : Nat} (h : i < caps.length) : (now caps b ps Z)[i]? = some ⟨(i : Int) + 1, caps.getD i 0, zed (Z i) (on b ps i), false⟩ := by
  unfold now
  rw [List.getElem?_map, List.getElem?_range h]; rfl
/-- each tape has one piece at most -/
theorem find_tape {caps : List Int} {size : Nat} : ∀ {ps : List Pc} {next at_ : Nat}, Chain caps size next at_ ps → ∀ p ∈ ps, ps.find? (fun q => q.tape == p.tape) = some p
  | [], _, _, _, p, hp => nomatch hp
  | q :: ps, next, at_, h, p, hp => by
    obtain ⟨h1, h2, h3, h4, h5, h7⟩ := h
    rcases List.mem_cons.1 hp with rfl | hp
    · rw [List.find?_cons_of_pos (by simp)]
    · have := (h7.in_ p hp).2
      rw [List.find?_cons_of_neg (by simp; omega), find_tape h7 p hp]
theorem on_piece {caps : List Int} {b : Tx} {size next at_ : Nat} {ps : List Pc} (h : Chain caps size next at_ ps) {p : Pc} (hp : p ∈ ps) : on b ps p.tape = (us b p).map Fm.blk := by
  unfold on; rw [find_tape h p hp]
/-- the tape of a label -/
def tapeOf (ts : List St.T) (lab : Int) : Option St.T := ts.find? fun t => t.label == lab
theorem tapeOf_now {caps : List Int} {b : Tx} {ps : List Pc} {Z : Nat → Nat → Bool} {i : Nat} (h : i < caps.length) : tapeOf (now caps b ps Z) ((i : Int) + 1) = some ⟨(i : Int) + 1, caps.getD i 0, zed (Z i) (on b ps i), false⟩ := by
  unfold tapeOf
  rw [List.find?_eq_some_iff_getElem]
  refine ⟨by simp, i, by rw [now_len]; exact h, ?_, fun j hj => ?_⟩
  · exact Option.some.inj ((List.getElem?_eq_getElem _).symm.trans (now_get h))
  · have hj' : j < caps.length := by omega
    have e : (now caps b ps Z)[j]'(by rw [now_len]; exact hj') = ⟨(j : Int) + 1, caps.getD j 0, zed (Z j) (on b ps j), false⟩ := Option.some.inj ((List.getElem?_eq_getElem _).symm.trans (now_get hj'))
    rw [e]
    simp; omega
/-- what is read of a block, if it is data of so many bytes -/
def read (ts : List St.T) (lab : Int) (n w : Nat) : Option Tx := match tapeOf ts lab with
  | none => none
  | some t => match Vo.good ⟨t.label, t.blocks, t.lost⟩ n with
    | none => none
    | some u => if u.kind = 3 ∧ u.load.length = w then some u.load else none
/-- why none is -/
def why (ts : List St.T) (lab : Int) : Int := match tapeOf ts lab with
  | none => 9
  | some t => if t.lost = true then 9 else 8
/-- which blocks a file's bytes lie in: tape, block, how many -/
def wants (f : Ct.F) : List (Int × Nat × Nat) := f.parts.flatMap fun p => (List.range (Vo.data p.h.len.toNat)).map fun k => (p.lab, p.at_.toNat + 1 + k, if k + 1 = Vo.data p.h.len.toNat then p.h.len.toNat - 64 * k else 64)
/-- the bytes, the spot, and why -/
structure A where
  bytes : Tx
  lab : Int
  block : Int
  err : Int
def spot (f : Ct.F) : Int × Int := match f.parts with
  | [] => (0, 0)
  | p :: _ => (p.lab, p.at_)
def bytes (ts : List St.T) (f : Ct.F) : Tx := (wants f).flatMap fun x => (read ts x.1 x.2.1 x.2.2).getD []
/-- what restoring answers, where no group tells of a block -/
def restore (ts : List St.T) (f : Ct.F) : A :=
  if f.gone = true then ⟨[], 0, 0, 5⟩ else
  match (wants f).find? (fun x => (read ts x.1 x.2.1 x.2.2).isNone) with
  | some x => ⟨[], x.1, (x.2.1 : Int), why ts x.1⟩
  | none => if sumL (bytes ts f) = f.sum then ⟨bytes ts f, 0, 0, 0⟩ else ⟨[], (spot f).1, (spot f).2, 8⟩
/-- the file -/
def file (b : Tx) (ps : List Pc) : Ct.F := ⟨[97], 1, (b.length : Int), sumL b, 1, false, ps.map fun p => ⟨hd b p, (p.tape : Int) + 1, 1⟩⟩
/-- the steps in which it was laid -/
def steps (b : Tx) (ps : List Pc) : List (Nat × Fm.U) := ps.flatMap fun p => (us b p).map fun u => (p.tape, u)
/-- those of data -/
def isData (x : Nat × Fm.U) : Bool := x.2.kind == 3
def ask (x : Nat × Fm.U) : Int × Nat × Nat := ((x.1 : Int) + 1, x.2.number.toNat, x.2.load.length)
theorem filter_us {caps : List Int} {b : Tx} {p : Pc} (h : In caps b.length p) : ((us b p).map fun u => (p.tape, u)).filter isData = (List.range (Vo.data p.len)).map fun k => (p.tape, Vo.dataU ((p.tape : Int) + 1) 1 (sl b p) k) := by
  have hl := sl_len (b := b) (p := p) h.le
  unfold us Vo.units
  rw [hl]
  simp only [List.map_cons, List.map_append, List.map_map, List.filter_cons, List.filter_append]
  have e1 : isData (p.tape, Vo.first ((p.tape : Int) + 1) [68]) = false := rfl
  have e2 : isData (p.tape, Vo.headU ((p.tape : Int) + 1) 1 (hd b p)) = false := rfl
  rw [e1, e2]
  simp only [Bool.false_eq_true, if_false]
  have e3 : isData (p.tape, Vo.markU ((p.tape : Int) + 1) 1 (Vo.data p.len)) = false := rfl
  rw [List.map_nil, List.filter_nil, e3]
  simp only [Bool.false_eq_true, if_false, List.append_nil]
  rw [List.filter_eq_self.2]
  · rfl
  · intro x hx
    obtain ⟨k, -, rfl⟩ := List.mem_map.1 hx
    rfl
theorem chunk_size {b : Tx} {n k : Nat} (hb : b.length = n) (hk : k < Vo.data n) : (Vo.chunk b k).length = if k + 1 = Vo.data n then n - 64 * k else 64 := by
  unfold Vo.chunk
  rw [List.length_take, List.length_drop, hb]
  unfold Vo.data at hk ⊢
  split <;> omega
theorem wants_file {caps : List Int} {b : Tx} : ∀ {ps : List Pc} {next at_ : Nat}, Chain caps b.length next at_ ps → wants (file b ps) = ((steps b ps).filter isData).map ask
  | [], _, _, _ => rfl
  | p :: ps, next, at_, h => by
    have hin := (h.in_ p List.mem_cons_self).1
    obtain ⟨h1, h2, h3, h4, h5, h7⟩ := h
    have ih := wants_file h7
    unfold wants file steps at ih ⊢
    rw [List.map_cons, List.flatMap_cons, List.flatMap_cons, List.filter_append, List.map_append, ← ih, filter_us hin, List.map_map]
    congr 1
    refine List.map_congr_left fun k hk => ?_
    have hk' : k < Vo.data p.len := by
      have := List.mem_range.1 hk
      simpa [hd] using this
    have hl := sl_len (b := b) (p := p) hin.le
    show ((p.tape : Int) + 1, 1 + 1 + k, _) = ((p.tape : Int) + 1, (1 + 1 + (k : Int)).toNat, (Vo.chunk (sl b p) k).length)
    rw [chunk_size hl hk']
    refine Prod.ext rfl (Prod.ext (by show 1 + 1 + k = (1 + 1 + (k : Int)).toNat; omega) ?_)
    show (if k + 1 = Vo.data ((p.len : Int)).toNat then ((p.len : Int)).toNat - 64 * k else 64) = _
    rw [Int.toNat_natCast]
/-- a piece's chunks are its bytes -/
theorem chunks (b : Tx) : (List.range (Vo.data b.length)).flatMap (Vo.chunk b) = b := by
  have key : ∀ n, (List.range n).flatMap (Vo.chunk b) = b.take (64 * n) := by
    intro n
    induction n with
    | zero => simp
    | succ n ih =>
      rw [List.range_succ, List.flatMap_append, ih]
      simp only [List.flatMap_cons, List.flatMap_nil, List.append_nil]
      unfold Vo.chunk
      rw [show 64 * (n + 1) = 64 * n + 64 by omega, List.take_add]
  rw [key, List.take_of_length_le]
  unfold Vo.data; omega
theorem mem_steps {b : Tx} {ps : List Pc} {x : Nat × Fm.U} (h : x ∈ steps b ps) : ∃ p : Pc, p ∈ ps ∧ x.1 = p.tape ∧ ∃ n : Nat, (us b p)[n]? = some x.2 := by
  unfold steps at h
  obtain ⟨p, hp, hx⟩ := List.mem_flatMap.1 h
  obtain ⟨u, hu, rfl⟩ := List.mem_map.1 hx
  obtain ⟨n, hn, rfl⟩ := List.mem_iff_getElem.1 hu
  exact ⟨p, hp, rfl, n, List.getElem?_eq_getElem hn⟩
/-- what is read of a step's block -/
theorem read_step {caps : List Int} {b : Tx} {ps : List Pc} {next at_ : Nat} {Z : Nat → Nat → Bool} (hb : b.length ≤ 2000) (hc : caps.length ≤ 1000) (h : Chain caps b.length next at_ ps) {x : Nat × Fm.U} (hx : x ∈ steps b ps) (hd : isData x = true) :
    read (now caps b ps Z) ((ask x).1) ((ask x).2.1) ((ask x).2.2) = if Z x.1 x.2.number.toNat = true then none else some x.2.load := by
  obtain ⟨p, hp, e, n, hn⟩ := mem_steps hx
  obtain ⟨hin, -⟩ := h.in_ p hp
  obtain ⟨-, h2, -⟩ := us_at hn
  have hlt := hin.lt
  have e2 : x.2.number.toNat = n := by omega
  have hk : x.2.kind = 3 := by simpa [isData] using hd
  unfold read ask
  rw [e, e2, tapeOf_now hin.lt, on_piece h hp]
  show (match Vo.good ⟨(p.tape : Int) + 1, zed (Z p.tape) ((us b p).map Fm.blk), false⟩ n with | none => none | some u => if u.kind = 3 ∧ u.load.length = x.2.load.length then some u.load else none) = _
  cases hz : Z p.tape n with
  | true => rw [good_rot (by omega) hn hz]; rfl
  | false =>
    rw [good_clean hb hin (by omega) hn hz]
    show (if x.2.kind = 3 ∧ x.2.load.length = x.2.load.length then some x.2.load else none) = _
    rw [if_pos ⟨hk, rfl⟩]; rfl
/-- of a file that was laid and of which nothing is turned all bytes are read; else the first that is turned is told -/
theorem find_wants {caps : List Int} {b : Tx} {ps : List Pc} {next at_ : Nat} {Z : Nat → Nat → Bool} (hb : b.length ≤ 2000) (hc : caps.length ≤ 1000) (h : Chain caps b.length next at_ ps) :
    (wants (file b ps)).find? (fun x => (read (now caps b ps Z) x.1 x.2.1 x.2.2).isNone) = (((steps b ps).find? fun x => isData x && Z x.1 x.2.number.toNat).map ask) := by
  rw [wants_file h, List.find?_map]
  congr 1
  have key : ∀ l : List (Nat × Fm.U), (∀ x ∈ l, x ∈ steps b ps) → (l.filter isData).find? ((fun x => (read (now caps b ps Z) x.1 x.2.1 x.2.2).isNone) ∘ ask) = l.find? fun x => isData x && Z x.1 x.2.number.toNat := by
    intro l
    induction l with
    | nil => intro _; rfl
    | cons x l ih =>
      intro hm
      have ih' := ih fun y hy => hm y (List.mem_cons_of_mem _ hy)
      cases hd : isData x with
      | false =>
        rw [List.filter_cons_of_neg (by rw [hd]; decide), List.find?_cons_of_neg (by rw [hd]; simp), ih']
      | true =>
        have hr := read_step (Z := Z) hb hc h (hm x List.mem_cons_self) hd
        rw [List.filter_cons_of_pos hd]
        cases hz : Z x.1 x.2.number.toNat with
        | true =>
          rw [hz, if_pos rfl] at hr
          rw [List.find?_cons_of_pos (by show (read _ _ _ _).isNone = true; rw [hr]; rfl), List.find?_cons_of_pos (by rw [hd, hz]; rfl)]
        | false =>
          rw [hz, if_neg (by decide)] at hr
          rw [List.find?_cons_of_neg (by show ¬ (read _ _ _ _).isNone = true; rw [hr]; simp), List.find?_cons_of_neg (by rw [hd, hz]; decide), ih']
  exact key _ fun _ hx => hx
theorem loads_us {caps : List Int} {b : Tx} {p : Pc} (h : In caps b.length p) : (((us b p).map fun u => (p.tape, u)).filter isData).flatMap (fun x => x.2.load) = sl b p := by
  rw [filter_us h, List.flatMap_map]
  have := chunks (sl b p)
  rw [sl_len h.le] at this
  exact this
theorem loads {caps : List Int} {b : Tx} : ∀ {ps : List Pc} {next at_ : Nat}, Chain caps b.length next at_ ps → ((steps b ps).filter isData).flatMap (fun x => x.2.load) = b.drop at_
  | [], _, at_, h => by
    have h' : at_ = b.length := h
    rw [h', List.drop_length]; rfl
  | p :: ps, next, at_, h => by
    have hin := (h.in_ p List.mem_cons_self).1
    have hs := slices h
    rw [← hs]
    obtain ⟨h1, h2, h3, h4, h5, h7⟩ := h
    unfold steps
    rw [List.flatMap_cons, List.filter_append, List.flatMap_append, loads_us hin, List.flatMap_cons, slices h7]
    congr 1
    exact loads h7
theorem bytes_whole {caps : List Int} {b : Tx} {ps : List Pc} (hb : b.length ≤ 2000) (hc : caps.length ≤ 1000) (h : Chain caps b.length 0 0 ps) {Z : Nat → Nat → Bool} (hz : ∀ x ∈ steps b ps, isData x = true → Z x.1 x.2.number.toNat = false) : bytes (now caps b ps Z) (file b ps) = b := by
  unfold bytes
  rw [wants_file h, List.flatMap_map]
  have e : ∀ x ∈ (steps b ps).filter isData, (read (now caps b ps Z) (ask x).1 (ask x).2.1 (ask x).2.2).getD [] = x.2.load := by
    intro x hx
    obtain ⟨h1, h2⟩ := List.mem_filter.1 hx
    rw [read_step hb hc h h1 h2, hz x h1 h2]; rfl
  have := loads h
  rw [List.drop_zero] at this
  refine Eq.trans ?_ this
  unfold List.flatMap
  rw [List.map_congr_left e]
/-- what is read behind it all -/
theorem restore_laid {caps : List Int} {b : Tx} {ps : List Pc} (hb : b.length ≤ 2000) (hc : caps.length ≤ 1000) (h : Chain caps b.length 0 0 ps) (Z : Nat → Nat → Bool) :
    restore (now caps b ps Z) (file b ps) = match (steps b ps).find? (fun x => isData x && Z x.1 x.2.number.toNat) with
      | none => ⟨b, 0, 0, 0⟩
      | some x => ⟨[], (x.1 : Int) + 1, x.2.number, 8⟩ := by
  unfold restore
  rw [if_neg (show ¬ (file b ps).gone = true from Bool.false_ne_true), find_wants hb hc h]
  cases hf : (steps b ps).find? (fun x => isData x && Z x.1 x.2.number.toNat) with
  | none =>
    have hz : ∀ x ∈ steps b ps, isData x = true → Z x.1 x.2.number.toNat = false := fun x hx hd => by
      have := List.find?_eq_none.1 hf x hx
      rw [hd] at this
      simpa using this
    show (if sumL (bytes (now caps b ps Z) (file b ps)) = (file b ps).sum then _ else _) = _
    rw [bytes_whole hb hc h hz, if_pos (show sumL b = (file b ps).sum from rfl)]
  | some x =>
    have hx := List.mem_of_find?_eq_some hf
    obtain ⟨p, hp, e, n, hn⟩ := mem_steps hx
    obtain ⟨hin, -⟩ := h.in_ p hp
    obtain ⟨-, h2, -⟩ := us_at hn
    have hw : why (now caps b ps Z) ((x.1 : Int) + 1) = 8 := by
      unfold why
      rw [e, tapeOf_now hin.lt]; rfl
    show A.mk [] ((x.1 : Int) + 1) ((x.2.number.toNat : Nat) : Int) (why (now caps b ps Z) ((x.1 : Int) + 1)) = A.mk [] ((x.1 : Int) + 1) x.2.number 8
    rw [hw, show ((x.2.number.toNat : Nat) : Int) = x.2.number by omega]
end Go.Proofs.YtndofmoepjfnfaaDoor.Rs
