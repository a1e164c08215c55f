/- Files as they are made of parts: which parts are of one file, which of them make it, in which order files stand. No program. Parts that were laid one behind the other, what was cut behind them, and what rotted among them: what is found, and how much is kept. No program. -/
import Derived.Test.YtndofmoepjfnfaaDoorMae
import Derived.Test.YtndofmoepjfnfaaDoorMal
import Derived.Test.YtndofmoepjfnfaaDoorMad
namespace Go.Proofs.YtndofmoepjfnfaaDoor.Ct
open Pt (Tx)

def heq (a b : Rc.H) : Bool := a.path == b.path && (a.version == b.version && (a.size == b.size && (a.from_ == b.from_ && (a.len == b.len && (a.serial == b.serial && (a.sum == b.sum && a.gone == b.gone))))))
theorem heq_iff {a b : Rc.H} : heq a b = true ↔ a = b := by
  obtain ⟨p, v, z, f, l, s, m, g⟩ := a
  obtain ⟨p', v', z', f', l', s', m', g'⟩ := b
  simp [heq]
instance : DecidableEq Rc.H := fun a b => decidable_of_iff (heq a b = true) heq_iff
/-- a part: its head, its tape's label, and where it lies -/
structure P where
  h : Rc.H
  lab : Int
  at_ : Int
/-- a file -/
structure F where
  path : Tx
  version : Int
  size : Int
  sum : Int
  serial : Int
  gone : Bool
  parts : List P
/-- what a head says of its file -/
def common (h : Rc.H) : Rc.H := ⟨h.path, h.version, h.size, 0, 0, h.serial, h.sum, h.gone⟩
theorem common_ok (h : Rc.H) : common (common h) = common h := rfl
/-- does p go on at byte c of a file of so many bytes? -/
def goes (size c : Int) (p : P) : Bool := decide (p.h.from_ = c) && !(decide (0 < size) && decide (p.h.len ≤ 0))
/-- the first that does -/
def first (ps : List P) (size c : Int) : Option Nat := ps.findIdx? (goes size c)
theorem first_snoc (ps : List P) (p : P) (size c : Int) : first (ps ++ [p]) size c = match first ps size c with
    | some i => some i
    | none => if goes size c p = true then some ps.length else none := by
  unfold first
  rw [List.findIdx?_append]
  cases List.findIdx? (goes size c) ps with
  | some i => rfl
  | none =>
    simp [List.findIdx?_cons]
theorem first_nil (size c : Int) : first [] size c = none := rfl
theorem first_lt {ps : List P} {size c : Int} {i : Nat} (h : first ps size c = some i) : i < ps.length := by
  unfold first at h
  rw [List.findIdx?_eq_some_iff_getElem] at h
  exact h.1
theorem first_take {ps : List P} {size c : Int} {k : Nat} (hk : k < ps.length) : first (ps.take (k + 1)) size c = match first (ps.take k) size c with
    | some i => some i
    | none => if goes size c ps[k] = true then some k else none := by
  rw [List.take_succ_eq_append_getElem hk, first_snoc, List.length_take, Nat.min_eq_left (Nat.le_of_lt hk)]
/-- which parts lie one behind the other from byte c on -/
def walk (ps : List P) (size : Int) : Nat → Int → List P → Option (List P)
  | 0, _, _ => none
  | f + 1, c, row => match first ps size c with
    | none => none
    | some i => match ps[i]? with
      | none => none
      | some p => if size < p.h.from_ + p.h.len then none else if p.h.from_ + p.h.len = size then some (row ++ [p]) else walk ps size f (p.h.from_ + p.h.len) (row ++ [p])
def row (ps : List P) (size : Int) : Option (List P) := if size < 0 then none else walk ps size ps.length 0 []
theorem walk_none {ps : List P} {size c : Int} {f : Nat} {r : List P} (h : first ps size c = none) : walk ps size (f + 1) c r = none := by rw [walk, h]
theorem walk_some {ps : List P} {size c : Int} {f : Nat} {r : List P} {i : Nat} (h : first ps size c = some i) {p : P} (hp : ps[i]? = some p) : walk ps size (f + 1) c r = if size < p.h.from_ + p.h.len then none else if p.h.from_ + p.h.len = size then some (r ++ [p]) else walk ps size f (p.h.from_ + p.h.len) (r ++ [p]) := by rw [walk, h]; simp only [hp]
theorem walk_mem {ps : List P} {size : Int} : ∀ {f : Nat} {c : Int} {r r' : List P}, walk ps size f c r = some r' → (∀ p ∈ r, p ∈ ps) → ∀ p ∈ r', p ∈ ps := by
  intro f
  induction f with
  | zero => intro c r r' h; cases h
  | succ f ih =>
    intro c r r' h hr
    rw [walk] at h
    split at h
    · cases h
    · split at h
      · cases h
      · rename_i p hp
        have hin : ∀ q ∈ r ++ [p], q ∈ ps := fun q hq => by
          rcases List.mem_append.1 hq with hq | hq
          · exact hr q hq
          · rw [List.mem_singleton.1 hq]; exact List.mem_of_getElem? hp
        split at h
        · cases h
        · split at h
          · cases h; exact hin
          · exact ih h hin
theorem walk_len {ps : List P} {size : Int} : ∀ {f : Nat} {c : Int} {r r' : List P}, walk ps size f c r = some r' → r'.length ≤ r.length + f := by
  intro f
  induction f with
  | zero => intro c r r' h; cases h
  | succ f ih =>
    intro c r r' h
    rw [walk] at h
    split at h
    · cases h
    · split at h
      · cases h
      · split at h
        · cases h
        · split at h
          · cases h; simp
          · have := ih h; rw [List.length_append] at this; simp at this; omega
theorem row_mem {ps r : List P} {size : Int} (h : row ps size = some r) : ∀ p ∈ r, p ∈ ps := by
  unfold row at h
  split at h
  · cases h
  · exact walk_mem h (fun p hp => by cases hp)
theorem row_len {ps r : List P} {size : Int} (h : row ps size = some r) : r.length ≤ ps.length := by
  unfold row at h
  split at h
  · cases h
  · have := walk_len h; simpa using this
/-- there are some, and all are of one -/
def Alike (ps : List P) : Prop := ∃ p, ps[0]? = some p ∧ ∀ q ∈ ps, common q.h = common p.h
def alikeB : List P → Bool
  | [] => false
  | p :: l => (p :: l).all fun q => decide (common q.h = common p.h)
/-- the file of these -/
def file (h : Rc.H) (r : List P) : F := ⟨h.path, h.version, h.size, h.sum, h.serial, h.gone, r⟩
def whole (ps : List P) : Option F := if alikeB ps = true then match ps[0]? with
    | none => none
    | some p => (row ps p.h.size).map (file p.h)
  else none
theorem whole_no {ps : List P} (h : alikeB ps = false) : whole ps = none := by unfold whole; rw [h]; rfl
theorem whole_yes {ps : List P} (h : alikeB ps = true) {p : P} (hp : ps[0]? = some p) : whole ps = (row ps p.h.size).map (file p.h) := by unfold whole; rw [if_pos h, hp]
theorem alike_all {ps : List P} (h : alikeB ps = true) {p : P} (hp : ps[0]? = some p) : ∀ q ∈ ps, common q.h = common p.h := by
  cases ps with
  | nil => cases hp
  | cons a l =>
    cases hp
    intro q hq
    have := List.all_eq_true.1 h q hq
    simpa using this
theorem alike_pos {ps : List P} (h : alikeB ps = true) : 0 < ps.length := by
  cases ps with
  | nil => cases h
  | cons a l => simp
theorem alike_yes {ps : List P} {p : P} (hp : ps[0]? = some p) (h : ∀ i (hi : i < ps.length), common ps[i].h = common p.h) : alikeB ps = true := by
  cases ps with
  | nil => cases hp
  | cons a l =>
    cases hp
    refine List.all_eq_true.2 fun q hq => ?_
    obtain ⟨i, hi, rfl⟩ := List.mem_iff_getElem.1 hq
    exact decide_eq_true (h i hi)
theorem alike_not {ps : List P} {p : P} (hp : ps[0]? = some p) {i : Nat} (hi : i < ps.length) (h : common ps[i].h ≠ common p.h) : alikeB ps = false := by
  cases e : alikeB ps with
  | false => rfl
  | true => exact absurd (alike_all e hp _ (List.getElem_mem hi)) h
/-- parts of one in all, in lists of their own -/
abbrev G := List (Rc.H × List P)
def idx (gs : G) (k : Rc.H) : Option Nat := gs.findIdx? fun g => decide (g.1 = k)
def put (gs : G) (i : Nat) (p : P) : G := gs.modify i fun g => (g.1, g.2 ++ [p])
def add (gs : G) (p : P) : G := match idx gs (common p.h) with
  | some i => put gs i p
  | none => put (gs ++ [(common p.h, [])]) gs.length p
def gather (ps : List P) : G := ps.foldl add []
theorem idx_lt {gs : G} {k : Rc.H} {i : Nat} (h : idx gs k = some i) : i < gs.length := by
  unfold idx at h
  rw [List.findIdx?_eq_some_iff_getElem] at h
  exact h.1
theorem idx_snoc (gs : G) (x : Rc.H × List P) (k : Rc.H) : idx (gs ++ [x]) k = match idx gs k with
    | some i => some i
    | none => if x.1 = k then some gs.length else none := by
  unfold idx
  rw [List.findIdx?_append]
  cases List.findIdx? (fun g => decide (g.1 = k)) gs with
  | some i => rfl
  | none =>
    by_cases h : x.1 = k <;> simp [List.findIdx?_cons, h]
theorem findIdx_map {α β : Type} (f : α → β) (q : β → Bool) : ∀ l : List α, (l.map f).findIdx? q = l.findIdx? (fun a => q (f a))
  | [] => rfl
  | a :: l => by rw [List.map_cons, List.findIdx?_cons, List.findIdx?_cons, findIdx_map f q l]
theorem put_keys (gs : G) (i : Nat) (p : P) : (put gs i p).map (·.1) = gs.map (·.1) := by
  apply List.ext_getElem?
  intro j
  unfold put
  rw [List.getElem?_map, List.getElem?_map, List.getElem?_modify]
  cases gs[j]? with
  | none => rfl
  | some g => by_cases e : i = j <;> simp [e]
theorem idx_keys {gs gs' : G} (h : gs.map (·.1) = gs'.map (·.1)) (k : Rc.H) : idx gs k = idx gs' k := by
  unfold idx
  have h1 := findIdx_map (fun g : Rc.H × List P => g.1) (fun x => decide (x = k)) gs
  have h2 := findIdx_map (fun g : Rc.H × List P => g.1) (fun x => decide (x = k)) gs'
  rw [← h1, ← h2, h]
theorem idx_put (gs : G) (i : Nat) (p : P) (k : Rc.H) : idx (put gs i p) k = idx gs k := idx_keys (put_keys gs i p) k
theorem put_len (gs : G) (i : Nat) (p : P) : (put gs i p).length = gs.length := by unfold put; exact List.length_modify ..
theorem put_snoc (gs : G) (k : Rc.H) (p : P) : put (gs ++ [(k, [])]) gs.length p = gs ++ [(k, [p])] := by
  unfold put
  apply List.ext_getElem?
  intro j
  rw [List.getElem?_modify]
  rcases Nat.lt_trichotomy j gs.length with h | h | h
  · rw [List.getElem?_append_left h, List.getElem?_append_left h, List.getElem?_eq_getElem h]
    simp [show ¬ gs.length = j by omega]
  · subst h; simp
  · rw [List.getElem?_eq_none (by simp; omega), List.getElem?_eq_none (by simp; omega)]; simp
theorem add_len (gs : G) (p : P) : (add gs p).length ≤ gs.length + 1 := by
  unfold add
  split
  · rw [put_len]; omega
  · rw [put_len]; simp
/-- how many parts lie in these -/
def total (gs : G) : Nat := (gs.map (·.2.length)).sum
theorem gather_snoc (ps : List P) (p : P) : gather (ps ++ [p]) = add (gather ps) p := by unfold gather; rw [List.foldl_append]; rfl
theorem gather_len (ps : List P) : (gather ps).length ≤ ps.length := by
  have key : ∀ (ps : List P) (gs : G), (ps.foldl add gs).length ≤ gs.length + ps.length := by
    intro ps
    induction ps with
    | nil => intro gs; exact Nat.le_refl _
    | cons p ps ih => intro gs; rw [List.foldl_cons, List.length_cons]; have := ih (add gs p); have := add_len gs p; omega
  have := key ps []
  rw [List.length_nil, Nat.zero_add] at this
  exact this
/-- what is in a list was met -/
theorem gather_mem {ps : List P} {g : Rc.H × List P} (h : g ∈ gather ps) : ∀ p ∈ g.2, p ∈ ps := by
  have hput : ∀ (gs : G) (i : Nat) (p : P) (S : List P), (∀ g ∈ gs, ∀ q ∈ g.2, q ∈ S) → p ∈ S → ∀ g ∈ put gs i p, ∀ q ∈ g.2, q ∈ S := by
    intro gs i p S hg hp g hgm q hq
    obtain ⟨j, hj, rfl⟩ := List.mem_iff_getElem.1 hgm
    unfold put at hq hj
    rw [List.getElem_modify] at hq
    split at hq
    · rcases List.mem_append.1 hq with hq | hq
      · exact hg _ (List.getElem_mem _) q hq
      · rw [List.mem_singleton.1 hq]; exact hp
    · exact hg _ (List.getElem_mem _) q hq
  have key : ∀ (ps : List P) (gs : G) (S : List P), (∀ g ∈ gs, ∀ q ∈ g.2, q ∈ S) → (∀ p ∈ ps, p ∈ S) → ∀ g ∈ ps.foldl add gs, ∀ q ∈ g.2, q ∈ S := by
    intro ps
    induction ps with
    | nil => intro gs S hg _; exact hg
    | cons p ps ih =>
      intro gs S hg hp
      refine ih _ S ?_ (fun q hq => hp q (List.mem_cons_of_mem _ hq))
      unfold add
      split
      · exact hput gs _ p S hg (hp p List.mem_cons_self)
      · refine hput _ _ p S (fun g hg' q hq => ?_) (hp p List.mem_cons_self)
        rcases List.mem_append.1 hg' with hg' | hg'
        · exact hg g hg' q hq
        · rw [List.mem_singleton.1 hg'] at hq; cases hq
  exact key ps [] ps (fun g hg => by cases hg) (fun p hp => hp) g h
theorem gather_le {ps : List P} {g : Rc.H × List P} (h : g ∈ gather ps) : g.2.length ≤ ps.length := by
  have hput : ∀ (gs : G) (i : Nat) (p : P) (n : Nat), (∀ g ∈ gs, g.2.length ≤ n) → ∀ g ∈ put gs i p, g.2.length ≤ n + 1 := by
    intro gs i p n hg g hgm
    obtain ⟨j, hj, rfl⟩ := List.mem_iff_getElem.1 hgm
    unfold put at hj ⊢
    rw [List.getElem_modify]
    split
    · rw [List.length_append]
      have := hg _ (List.getElem_mem (l := gs) (n := j) (by simpa using hj))
      simpa using this
    · exact Nat.le_succ_of_le (hg _ (List.getElem_mem _))
  have key : ∀ (ps : List P) (gs : G) (n : Nat), (∀ g ∈ gs, g.2.length ≤ n) → ∀ g ∈ ps.foldl add gs, g.2.length ≤ n + ps.length := by
    intro ps
    induction ps with
    | nil => intro gs n hg; exact hg
    | cons p ps ih =>
      intro gs n hg g hgm
      rw [List.foldl_cons] at hgm
      have := ih (add gs p) (n + 1) (by
        unfold add
        split
        · exact hput gs _ p n hg
        · exact hput _ _ p n fun g hg' => by
            rcases List.mem_append.1 hg' with hg' | hg'
            · exact hg g hg'
            · rw [List.mem_singleton.1 hg']; exact Nat.zero_le _) g hgm
      rw [List.length_cons]; omega
  have := key ps [] 0 (fun g hg => by cases hg) g h
  omega
/-- the parts of a tape, of tapes -/
def vo (t : St.T) : Vo.T := ⟨t.label, t.blocks, t.lost⟩
def partsOf (t : St.T) : List P := (Vo.parts (vo t)).map fun q => ⟨q.1, t.label, (q.2 : Int)⟩
def all (ts : List St.T) : List P := ts.flatMap partsOf
theorem all_take {ts : List St.T} {i : Nat} (hi : i < ts.length) : all (ts.take (i + 1)) = all (ts.take i) ++ partsOf ts[i] := by
  unfold all
  rw [List.take_succ_eq_append_getElem hi, List.flatMap_append]
  simp
/-- -1, 0 or 1 -/
def cmpS (a b : Tx) : Int := if a < b then -1 else if b < a then 1 else 0
def cmpZ (a b : Int) : Int := if a < b then -1 else if b < a then 1 else 0
/-- by path, then version, and of these the greatest serial first -/
def cmp (a b : F) : Int := if cmpS a.path b.path ≠ 0 then cmpS a.path b.path else if cmpZ a.version b.version ≠ 0 then cmpZ a.version b.version else cmpZ b.serial a.serial
def less (a b : F) : Bool := decide (cmp a b < 0)
def same (a b : F) : Bool := a.path == b.path && a.version == b.version
def files (gs : G) : List F := gs.filterMap fun g => whole g.2
theorem files_take {gs : G} {i : Nat} (hi : i < gs.length) : files (gs.take (i + 1)) = files (gs.take i) ++ (whole gs[i].2).toList := by
  unfold files
  rw [List.take_succ_eq_append_getElem hi, List.filterMap_append]
  cases h : whole gs[i].2 with
  | none => simp [h]
  | some f => simp [h]
theorem files_len (gs : G) : (files gs).length ≤ gs.length := List.length_filterMap_le _ _
/-- the files of tapes -/
def from_ (ts : List St.T) : List F := Sr.compact same (Sr.isort less (files (gather (all ts))))
end Go.Proofs.YtndofmoepjfnfaaDoor.Ct
namespace Go.Proofs.YtndofmoepjfnfaaDoor.Vo
open Pt (Tx)

/-- the head of a part of n bytes, version i + 1 -/
def hd (p : Tx) (i n : Nat) : Rc.H := ⟨p, (i : Int) + 1, (n : Int), 0, (n : Int), 1, 0, false⟩
theorem hd_ok {p : Tx} {i n : Nat} (hp : Pt.right p = true) (hi : i ≤ 1000) (hn : n ≤ 4000) : Rc.Ok (hd p i n) := by
  refine ⟨hp, ⟨?_, ?_⟩, ⟨?_, ?_⟩, ⟨?_, ?_⟩, ?_, ?_, ?_, ?_, ⟨?_, ?_⟩, fun h => by cases h⟩ <;> (unfold hd; simp only; omega)
theorem hd_len (p : Tx) (i n : Nat) : (hd p i n).len.toNat = n := by unfold hd; simp
def heads (p : Tx) : Nat → List Nat → List Rc.H
  | _, [] => []
  | i, n :: ns => hd p i n :: heads p (i + 1) ns
theorem heads_len (p : Tx) : ∀ (i : Nat) (ns : List Nat), (heads p i ns).length = ns.length
  | _, [] => rfl
  | i, n :: ns => by rw [heads, List.length_cons, heads_len p, List.length_cons]
/-- parts of these sizes, laid behind what is there -/
def lay (p : Tx) (lab : Int) : List Tx → Nat → List Nat → List Tx
  | pre, _, [] => pre
  | pre, i, n :: ns => lay p lab (pre ++ put lab (pre.length : Int) (hd p i n) (List.replicate n 0)) (i + 1) ns
theorem lay_more (p : Tx) (lab : Int) : ∀ (ns : List Nat) (pre : List Tx) (i : Nat), ∃ rest, lay p lab pre i ns = pre ++ rest
  | [], pre, _ => ⟨[], by rw [lay, List.append_nil]⟩
  | n :: ns, pre, i => by
    obtain ⟨rest, h⟩ := lay_more p lab ns (pre ++ put lab (pre.length : Int) (hd p i n) (List.replicate n 0)) (i + 1)
    exact ⟨_, by rw [lay, h, List.append_assoc]⟩
/-- how long it may grow -/
def room : List Nat → Nat
  | [] => 0
  | n :: ns => data n + 2 + room ns
theorem ending_room (p : Tx) : ∀ (ns : List Nat) (i at_ : Nat), ending at_ (heads p i ns) = at_ + room ns
  | [], _, _ => rfl
  | n :: ns, i, at_ => by rw [heads, ending, ending_room p ns, hd_len, room]; omega
theorem right_hd {p : Tx} {lab : Int} {at_ i n : Nat} (hp : Pt.right p = true) (hlab : 1 ≤ lab ∧ lab ≤ 2147483647) (hi : i ≤ 1000) (hn : n ≤ 4000) (hat : at_ ≤ 1000000) : Right lab (at_ : Int) (hd p i n) (List.replicate n 0) := by
  refine ⟨⟨hd_ok hp hi hn, by rw [List.length_replicate]; rfl⟩, hlab, by omega, ?_⟩
  rw [List.length_replicate]
  unfold data
  omega
theorem lay_len {p : Tx} {lab : Int} (hp : Pt.right p = true) (hlab : 1 ≤ lab ∧ lab ≤ 2147483647) : ∀ (ns : List Nat) (pre : List Tx) (i : Nat), (∀ n ∈ ns, n ≤ 4000) → i + ns.length ≤ 1000 → pre.length + room ns ≤ 1000000 → (lay p lab pre i ns).length = pre.length + room ns
  | [], pre, _, _, _, _ => by rw [lay, room]; rfl
  | n :: ns, pre, i, hn, hi, hr => by
    rw [List.length_cons] at hi
    rw [room] at hr
    have hR := right_hd (at_ := pre.length) hp hlab (show i ≤ 1000 by omega) (hn n (List.mem_cons_self ..)) (by omega)
    have hl : (pre ++ put lab (pre.length : Int) (hd p i n) (List.replicate n 0)).length = pre.length + (data n + 2) := by rw [List.length_append, put_len hR, List.length_replicate]
    rw [lay, lay_len hp hlab ns _ (i + 1) (fun m hm => hn m (List.mem_cons_of_mem _ hm)) (by omega) (by rw [hl]; omega), hl, room]
    omega
/-- a tape that has the heads' blocks where they were laid, and is as long, has the parts -/
theorem laid_of {p : Tx} {lab : Int} (hp : Pt.right p = true) (hlab : 1 ≤ lab ∧ lab ≤ 2147483647) {bs : List Tx} : ∀ (ns : List Nat) (pre : List Tx) (i : Nat), (∀ n ∈ ns, n ≤ 4000) → i + ns.length ≤ 1000 → pre.length + room ns ≤ 1000000 → pre.length + room ns ≤ bs.length →
    (∀ (k : Nat) (b : Tx), (lay p lab pre i ns)[k]? = some b → Fm.Good b → (Fm.parse b).kind = 2 → bs[k]? = some b) → Laid ⟨lab, bs, false⟩ pre.length (heads p i ns)
  | [], _, _, _, _, _, _, _ => trivial
  | n :: ns, pre, i, hn, hi, hr, hlen, hb => by
    rw [List.length_cons] at hi
    rw [room] at hr hlen
    have hn0 := hn n (List.mem_cons_self ..)
    have hR := right_hd (at_ := pre.length) hp hlab (show i ≤ 1000 by omega) hn0 (by omega)
    have hl : (pre ++ put lab (pre.length : Int) (hd p i n) (List.replicate n 0)).length = pre.length + (data n + 2) := by rw [List.length_append, put_len hR, List.length_replicate]
    have hok := hd_ok (p := p) hp (show i ≤ 1000 by omega) hn0
    have hf0 : Fits lab (pre.length : Int) 0 := ⟨hlab, by omega, by omega⟩
    refine ⟨part_at rfl hf0 hok (hb _ _ ?_ (Fm.good_blk (headU_ok hok hf0)) (by rw [Fm.parse_blk (headU_ok hok hf0)]; rfl)) (by rw [hd_len]; show pre.length + data n + 1 < bs.length; omega), ?_⟩
    · obtain ⟨rest, hrest⟩ := lay_more p lab ns (pre ++ put lab (pre.length : Int) (hd p i n) (List.replicate n 0)) (i + 1)
      rw [lay, hrest, List.append_assoc]
      obtain ⟨u, hu, hx⟩ := laid_at (pre := pre) rest hR (j := 0) (by omega)
      cases hu
      exact hx
    · rw [hd_len, show pre.length + data n + 2 = (pre ++ put lab (pre.length : Int) (hd p i n) (List.replicate n 0)).length by rw [hl]; omega]
      exact laid_of hp hlab ns _ (i + 1) (fun m hm => hn m (List.mem_cons_of_mem _ hm)) (by omega) (by rw [hl]; omega) (by rw [hl]; omega) (by rw [lay] at hb; exact hb)
/-- the tape's own label's frame -/
def first (lab : Int) (l : Tx) : Fm.U := ⟨1, lab, 0, l⟩
theorem first_ok {lab : Int} {l : Tx} (hlab : 1 ≤ lab ∧ lab ≤ 2147483647) (hl : l.length ≤ 64) : Fm.Ok (first lab l) :=
  ⟨⟨(by show (1 : Int) ≤ 1; decide), (by show (1 : Int) ≤ 6; decide), hlab.1, hlab.2, (by show (0 : Int) ≤ 0; decide), (by show (0 : Int) ≤ 2147483647; decide)⟩, Nat.le_trans hl (Fm.room_ge _)⟩
theorem lay_first (p : Tx) (lab : Int) (b : Tx) (i : Nat) (ns : List Nat) : ∃ rest, lay p lab [b] i ns = b :: rest := by
  obtain ⟨rest, h⟩ := lay_more p lab ns [b] i
  exact ⟨rest, h⟩
/-- what is found on a tape that was laid, whatever rotted but heads -/
theorem finds {p : Tx} {lab : Int} (hp : Pt.right p = true) (hlab : 1 ≤ lab ∧ lab ≤ 2147483647) {bs : List Tx} {ns : List Nat} {b0 : Tx} (hn : ∀ n ∈ ns, n ≤ 4000) (hc : ns.length ≤ 1000) (hr : 1 + room ns ≤ 1000000) (hlen : bs.length = 1 + room ns)
    (hb : ∀ (k : Nat) (b : Tx), (lay p lab [b0] 0 ns)[k]? = some b → Fm.Good b → (Fm.parse b).kind = 2 → bs[k]? = some b) : parts ⟨lab, bs, false⟩ = places 1 (heads p 0 ns) := by
  have hl := laid_of hp hlab ns [b0] 0 hn (by omega) (by simpa using hr) (by rw [hlen]; simp) hb
  refine parts_laid hl (fun m hm => part_end ?_) ?_
  · rw [ending_room] at hm
    show bs.length ≤ m
    omega
  · rw [heads_len]
    show ns.length ≤ bs.length
    rw [hlen]
    have : ∀ l : List Nat, l.length ≤ room l := fun l => by
      induction l with
      | nil => exact Nat.le_refl _
      | cons a l ih => rw [List.length_cons, room]; omega
    have := this ns
    omega
/-- what is behind whole parts when the laying of one more was cut -/
def tail (lab : Int) (at_ : Nat) (h : Rc.H) (b : Tx) (k n : Nat) : List Tx :=
  (put lab (at_ : Int) h b).take k ++ (if 0 < n ∧ k + 1 < data b.length + 2 then match (put lab (at_ : Int) h b)[k]? with | some x => [x.take n] | none => [] else [])
theorem tail_none {lab : Int} {pre : List Tx} {h : Rc.H} {b : Tx} {k n : Nat} (hR : Right lab (pre.length : Int) h b) (hk : k < data b.length + 2) (hn : ∀ x, (put lab (pre.length : Int) h b)[k]? = some x → n < x.length) :
    ∀ m, pre.length ≤ m → part ⟨lab, pre ++ tail lab pre.length h b k n, false⟩ m = none := by
  intro m hm
  have hlen := put_len hR
  obtain ⟨j, rfl⟩ : ∃ j, m = pre.length + j := ⟨m - pre.length, by omega⟩
  obtain ⟨x, hx⟩ : ∃ x, (put lab (pre.length : Int) h b)[k]? = some x := ⟨_, List.getElem?_eq_getElem (by rw [hlen]; exact hk)⟩
  have htl : (tail lab pre.length h b k n).length ≤ data b.length + 1 := by
    unfold tail
    rw [List.length_append, List.length_take, hlen, hx]
    split
    · show min k (data b.length + 2) + 1 ≤ _; omega
    · show min k (data b.length + 2) + 0 ≤ _; omega
  have hget : (pre ++ tail lab pre.length h b k n)[pre.length + j]? = (tail lab pre.length h b k n)[j]? := by
    rw [List.getElem?_append_right (by omega), show pre.length + j - pre.length = j by omega]
  by_cases hj : j < k
  · have hjj : j < (units lab (pre.length : Int) h b).length := by rw [units_len]; omega
    obtain ⟨u, hu⟩ : ∃ u, (units lab (pre.length : Int) h b)[j]? = some u := ⟨_, List.getElem?_eq_getElem hjj⟩
    have hbj : (pre ++ tail lab pre.length h b k n)[pre.length + j]? = some (Fm.blk u) := by
      rw [hget]
      unfold tail
      rw [List.getElem?_append_left (by rw [List.length_take, hlen]; omega), List.getElem?_take, if_pos hj, put_yes hR, List.getElem?_map, hu]
      rfl
    obtain ⟨hRa, hRb⟩ := hR
    have huo := units_ok hRa.1 hRb hu
    by_cases h0 : j = 0
    · subst h0
      cases hu
      have hf0 : Fits lab (pre.length : Int) 0 := by obtain ⟨a, c, d⟩ := hRb; exact ⟨a, c, by omega⟩
      refine part_short (t := ⟨lab, pre ++ tail lab pre.length h b k n, false⟩) rfl hf0 hRa.1 hbj ?_
      show (pre ++ tail lab pre.length h b k n).length ≤ pre.length + 0 + data h.len.toNat + 1
      have e : h.len.toNat = b.length := by have := hRa.2; omega
      rw [List.length_append, e]
      omega
    · refine part_kind (t := ⟨lab, pre ++ tail lab pre.length h b k n, false⟩) hbj fun _ => ?_
      rw [Fm.parse_blk huo]
      exact (units_at hu).2.2.1.resolve_left h0
  · rcases Nat.lt_or_ge j (tail lab pre.length h b k n).length with hjl | hjl
    · have hcond : 0 < n ∧ k + 1 < data b.length + 2 := by
        rcases Decidable.em (0 < n ∧ k + 1 < data b.length + 2) with hc | hc
        · exact hc
        · exfalso
          unfold tail at hjl
          rw [if_neg hc, List.append_nil, List.length_take] at hjl
          omega
      have hjk : j = k := by
        unfold tail at hjl
        rw [if_pos hcond, hx, List.length_append, List.length_take, hlen] at hjl
        have hjl' : j < min k (data b.length + 2) + 1 := hjl
        omega
      subst hjk
      have hbj : (pre ++ tail lab pre.length h b j n)[pre.length + j]? = some (x.take n) := by
        rw [hget]
        unfold tail
        rw [if_pos hcond, hx, List.getElem?_append_right (by rw [List.length_take]; omega), List.length_take, hlen, show j - min j (data b.length + 2) = 0 by omega]
        rfl
      refine part_kind (t := ⟨lab, pre ++ tail lab pre.length h b j n, false⟩) hbj fun hg => ?_
      have hxg : Fm.Good x := by
        rw [put_yes hR, List.getElem?_map] at hx
        obtain ⟨u, hu⟩ : ∃ u, (units lab (pre.length : Int) h b)[j]? = some u := ⟨_, List.getElem?_eq_getElem (by rw [units_len]; exact hk)⟩
        rw [hu] at hx
        cases hx
        exact Fm.good_blk (units_ok hR.1.1 hR.2 hu)
      exact absurd hg (Fm.cut_no hxg (hn x hx))
    · refine part_end (t := ⟨lab, pre ++ tail lab pre.length h b k n, false⟩) ?_
      show (pre ++ tail lab pre.length h b k n).length ≤ pre.length + j
      rw [List.length_append]; omega
/-- what is kept, and found, of whole parts and a cut one behind them -/
theorem keeps {p q : Tx} {lab : Int} (hp : Pt.right p = true) (hlab : 1 ≤ lab ∧ lab ≤ 2147483647) {ns : List Nat} {l0 : Tx} (hl0 : l0.length ≤ 64) (hn : ∀ n ∈ ns, n ≤ 4000) (hc : ns.length ≤ 1000) (hr : 1 + room ns ≤ 900000) {last k n : Nat} (hq : Pt.right q = true) (hlast : last ≤ 4000) (hk : k < data last + 2)
    (hcut : ∀ x, (put lab ((1 + room ns : Nat) : Int) (hd q 0 last) (List.replicate last 0))[k]? = some x → n < x.length) :
    parts ⟨lab, lay p lab [Fm.blk (first lab l0)] 0 ns ++ tail lab (1 + room ns) (hd q 0 last) (List.replicate last 0) k n, false⟩ = places 1 (heads p 0 ns)
      ∧ keep ⟨lab, lay p lab [Fm.blk (first lab l0)] 0 ns ++ tail lab (1 + room ns) (hd q 0 last) (List.replicate last 0) k n, false⟩ = 1 + room ns := by
  have hlen : (lay p lab [Fm.blk (first lab l0)] 0 ns).length = 1 + room ns := lay_len hp hlab ns _ 0 hn (by omega) (by simp; omega)
  obtain ⟨L, hL⟩ : ∃ L, L = lay p lab [Fm.blk (first lab l0)] 0 ns := ⟨_, rfl⟩
  have hR := right_hd (at_ := L.length) (i := 0) hq hlab (by omega) hlast (by rw [hL, hlen]; omega)
  rw [← hlen, ← hL] at hcut ⊢
  have hno := tail_none (pre := L) (k := k) (n := n) hR (by rw [List.length_replicate]; exact hk) hcut
  have hlaid := laid_of (bs := L ++ tail lab L.length (hd q 0 last) (List.replicate last 0) k n) hp hlab ns [Fm.blk (first lab l0)] 0 hn (by omega) (by simp; omega) (by rw [List.length_append, hL, hlen]; exact Nat.le_add_right _ _)
    (fun j b hb _ _ => by rw [← hL] at hb; rw [List.getElem?_append_left (List.getElem?_eq_some_iff.1 hb).1]; exact hb)
  have hend : ending 1 (heads p 0 ns) = L.length := by rw [ending_room, hL, hlen]
  have hp' : parts ⟨lab, L ++ tail lab L.length (hd q 0 last) (List.replicate last 0) k n, false⟩ = places 1 (heads p 0 ns) := by
    refine parts_laid hlaid (fun m hm => hno m (by rw [hend] at hm; exact hm)) ?_
    have := ending_ge 1 (heads p 0 ns)
    rw [hend] at this
    show _ ≤ (L ++ _).length
    rw [List.length_append]; omega
  refine ⟨hp', ?_⟩
  rw [keep_laid hp' fun hnil => ?_, hend]
  obtain ⟨rest, hrest⟩ := lay_first p lab (Fm.blk (first lab l0)) 0 ns
  rw [good_at (u := first lab l0) rfl (by show (L ++ _)[0]? = _; rw [hL, hrest]; rfl) (first_ok hlab hl0) rfl rfl]
  rfl
/-- the heads lie where they were laid -/
def Heads (orig bs : List Tx) : Prop := bs.length = orig.length ∧ ∀ (k : Nat) (b : Tx), orig[k]? = some b → Fm.Good b → (Fm.parse b).kind = 2 → bs[k]? = some b
theorem Heads.refl (l : List Tx) : Heads l l := ⟨rfl, fun _ _ h _ _ => h⟩
/-- a block that is no head's is turned into whatever -/
theorem Heads.turn {orig bs : List Tx} (h : Heads orig bs) {k : Nat} {b : Tx} (hb : bs[k]? = some b) (hk : (Fm.parse b).kind ≠ 2) (x : Tx) : Heads orig (bs.set k x) := by
  refine ⟨by rw [List.length_set]; exact h.1, fun j c hc hg hkd => ?_⟩
  have hj := h.2 j c hc hg hkd
  rw [List.getElem?_set]
  by_cases e : k = j
  · subst e
    rw [hb] at hj
    cases hj
    exact absurd hkd hk
  · rw [if_neg e]; exact hj
theorem finds_turned {p : Tx} {lab : Int} (hp : Pt.right p = true) (hlab : 1 ≤ lab ∧ lab ≤ 2147483647) {bs : List Tx} {ns : List Nat} {b0 : Tx} (hn : ∀ n ∈ ns, n ≤ 4000) (hc : ns.length ≤ 1000) (hr : 1 + room ns ≤ 1000000) (h : Heads (lay p lab [b0] 0 ns) bs) : parts ⟨lab, bs, false⟩ = places 1 (heads p 0 ns) :=
  finds hp hlab hn hc hr (by rw [h.1]; exact lay_len hp hlab ns _ 0 hn (by omega) (by simpa using hr)) h.2
end Go.Proofs.YtndofmoepjfnfaaDoor.Vo
