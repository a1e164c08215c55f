/- Files as they are made of parts: which parts are of one file, which of them make it, in which order files stand. No program. -/
import Derived.Test.YtjhbmijdpcbbiaaVoMath
import Derived.Test.YtjhbmijdpcbbiaaSrGen
import Derived.Test.YtjhbmijdpcbbiaaStMath
namespace Go.Proofs.Ytjhbmijdpcbbiaa.Ct
open Pt (Tx)

def heq (a b : Rc.H) : Bool := a.path == b.path && (a.version == b.version && (a.size == b.size && (a.from_ == b.from_ && (a.len == b.len && (a.serial == b.serial && (a.sum == b.sum && a.gone == b.gone))))))
theorem heq_iff {a b : Rc.H} : heq a b = true ↔ a = b := by
  obtain ⟨p, v, z, f, l, s, m, g⟩ := a
  obtain ⟨p', v', z', f', l', s', m', g'⟩ := b
  simp [heq]
instance : DecidableEq Rc.H := fun a b => decidable_of_iff (heq a b = true) heq_iff
/-- a part: its head, its tape's label, and where it lies -/
structure P where
  h : Rc.H
  lab : Int
  at_ : Int
/-- a file -/
structure F where
  path : Tx
  version : Int
  size : Int
  sum : Int
  serial : Int
  gone : Bool
  parts : List P
/-- what a head says of its file -/
def common (h : Rc.H) : Rc.H := ⟨h.path, h.version, h.size, 0, 0, h.serial, h.sum, h.gone⟩
theorem common_ok (h : Rc.H) : common (common h) = common h := rfl
/-- does p go on at byte c of a file of so many bytes? -/
def goes (size c : Int) (p : P) : Bool := decide (p.h.from_ = c) && !(decide (0 < size) && decide (p.h.len ≤ 0))
/-- the first that does -/
def first (ps : List P) (size c : Int) : Option Nat := ps.findIdx? (goes size c)
theorem first_snoc (ps : List P) (p : P) (size c : Int) : first (ps ++ [p]) size c = match first ps size c with
    | some i => some i
    | none => if goes size c p = true then some ps.length else none := by
  unfold first
  rw [List.findIdx?_append]
  cases List.findIdx? (goes size c) ps with
  | some i => rfl
  | none =>
    simp [List.findIdx?_cons]
theorem first_nil (size c : Int) : first [] size c = none := rfl
theorem first_lt {ps : List P} {size c : Int} {i : Nat} (h : first ps size c = some i) : i < ps.length := by
  unfold first at h
  rw [List.findIdx?_eq_some_iff_getElem] at h
  exact h.1
theorem first_take {ps : List P} {size c : Int} {k : Nat} (hk : k < ps.length) : first (ps.take (k + 1)) size c = match first (ps.take k) size c with
    | some i => some i
    | none => if goes size c ps[k] = true then some k else none := by
  rw [List.take_succ_eq_append_getElem hk, first_snoc, List.length_take, Nat.min_eq_left (Nat.le_of_lt hk)]
/-- which parts lie one behind the other from byte c on -/
def walk (ps : List P) (size : Int) : Nat → Int → List P → Option (List P)
  | 0, _, _ => none
  | f + 1, c, row => match first ps size c with
    | none => none
    | some i => match ps[i]? with
      | none => none
      | some p => if size < p.h.from_ + p.h.len then none else if p.h.from_ + p.h.len = size then some (row ++ [p]) else walk ps size f (p.h.from_ + p.h.len) (row ++ [p])
def row (ps : List P) (size : Int) : Option (List P) := if size < 0 then none else walk ps size ps.length 0 []
theorem walk_none {ps : List P} {size c : Int} {f : Nat} {r : List P} (h : first ps size c = none) : walk ps size (f + 1) c r = none := by rw [walk, h]
theorem walk_some {ps : List P} {size c : Int} {f : Nat} {r : List P} {i : Nat} (h : first ps size c = some i) {p : P} (hp : ps[i]? = some p) : walk ps size (f + 1) c r = if size < p.h.from_ + p.h.len then none else if p.h.from_ + p.h.len = size then some (r ++ [p]) else walk ps size f (p.h.from_ + p.h.len) (r ++ [p]) := by rw [walk, h]; simp only [hp]
theorem walk_mem {ps : List P} {size : Int} : ∀ {f : Nat} {c : Int} {r r' : List P}, walk ps size f c r = some r' → (∀ p ∈ r, p ∈ ps) → ∀ p ∈ r', p ∈ ps := by
  intro f
  induction f with
  | zero => intro c r r' h; cases h
  | succ f ih =>
    intro c r r' h hr
    rw [walk] at h
    split at h
    · cases h
    · split at h
      · cases h
      · rename_i p hp
        have hin : ∀ q ∈ r ++ [p], q ∈ ps := fun q hq => by
          rcases List.mem_append.1 hq with hq | hq
          · exact hr q hq
          · rw [List.mem_singleton.1 hq]; exact List.mem_of_getElem? hp
        split at h
        · cases h
        · split at h
          · cases h; exact hin
          · exact ih h hin
theorem walk_len {ps : List P} {size : Int} : ∀ {f : Nat} {c : Int} {r r' : List P}, walk ps size f c r = some r' → r'.length ≤ r.length + f := by
  intro f
  induction f with
  | zero => intro c r r' h; cases h
  | succ f ih =>
    intro c r r' h
    rw [walk] at h
    split at h
    · cases h
    · split at h
      · cases h
      · split at h
        · cases h
        · split at h
          · cases h; simp
          · have := ih h; rw [List.length_append] at this; simp at this; omega
theorem row_mem {ps r : List P} {size : Int} (h : row ps size = some r) : ∀ p ∈ r, p ∈ ps := by
  unfold row at h
  split at h
  · cases h
  · exact walk_mem h (fun p hp => by cases hp)
theorem row_len {ps r : List P} {size : Int} (h : row ps size = some r) : r.length ≤ ps.length := by
  unfold row at h
  split at h
  · cases h
  · have := walk_len h; simpa using this
/-- there are some, and all are of one -/
def Alike (ps : List P) : Prop := ∃ p, ps[0]? = some p ∧ ∀ q ∈ ps, common q.h = common p.h
def alikeB : List P → Bool
  | [] => false
  | p :: l => (p :: l).all fun q => decide (common q.h = common p.h)
/-- the file of these -/
def file (h : Rc.H) (r : List P) : F := ⟨h.path, h.version, h.size, h.sum, h.serial, h.gone, r⟩
def whole (ps : List P) : Option F := if alikeB ps = true then match ps[0]? with
    | none => none
    | some p => (row ps p.h.size).map (file p.h)
  else none
theorem whole_no {ps : List P} (h : alikeB ps = false) : whole ps = none := by unfold whole; rw [h]; rfl
theorem whole_yes {ps : List P} (h : alikeB ps = true) {p : P} (hp : ps[0]? = some p) : whole ps = (row ps p.h.size).map (file p.h) := by unfold whole; rw [if_pos h, hp]
theorem alike_all {ps : List P} (h : alikeB ps = true) {p : P} (hp : ps[0]? = some p) : ∀ q ∈ ps, common q.h = common p.h := by
  cases ps with
  | nil => cases hp
  | cons a l =>
    cases hp
    intro q hq
    have := List.all_eq_true.1 h q hq
    simpa using this
theorem alike_pos {ps : List P} (h : alikeB ps = true) : 0 < ps.length := by
  cases ps with
  | nil => cases h
  | cons a l => simp
theorem alike_yes {ps : List P} {p : P} (hp : ps[0]? = some p) (h : ∀ i (hi : i < ps.length), common ps[i].h = common p.h) : alikeB ps = true := by
  cases ps with
  | nil => cases hp
  | cons a l =>
    cases hp
    refine List.all_eq_true.2 fun q hq => ?_
    obtain ⟨i, hi, rfl⟩ := List.mem_iff_getElem.1 hq
    exact decide_eq_true (h i hi)
theorem alike_not {ps : List P} {p : P} (hp : ps[0]? = some p) {i : Nat} (hi : i < ps.length) (h : common ps[i].h ≠ common p.h) : alikeB ps = false := by
  cases e : alikeB ps with
  | false => rfl
  | true => exact absurd (alike_all e hp _ (List.getElem_mem hi)) h
/-- parts of one in all, in lists of their own -/
abbrev G := List (Rc.H × List P)
def idx (gs : G) (k : Rc.H) : Option Nat := gs.findIdx? fun g => decide (g.1 = k)
def put (gs : G) (i : Nat) (p : P) : G := gs.modify i fun g => (g.1, g.2 ++ [p])
def add (gs : G) (p : P) : G := match idx gs (common p.h) with
  | some i => put gs i p
  | none => put (gs ++ [(common p.h, [])]) gs.length p
def gather (ps : List P) : G := ps.foldl add []
theorem idx_lt {gs : G} {k : Rc.H} {i : Nat} (h : idx gs k = some i) : i < gs.length := by
  unfold idx at h
  rw [List.findIdx?_eq_some_iff_getElem] at h
  exact h.1
theorem idx_snoc (gs : G) (x : Rc.H × List P) (k : Rc.H) : idx (gs ++ [x]) k = match idx gs k with
    | some i => some i
    | none => if x.1 = k then some gs.length else none := by
  unfold idx
  rw [List.findIdx?_append]
  cases List.findIdx? (fun g => decide (g.1 = k)) gs with
  | some i => rfl
  | none =>
    by_cases h : x.1 = k <;> simp [List.findIdx?_cons, h]
theorem findIdx_map {α β : Type} (f : α → β) (q : β → Bool) : ∀ l : List α, (l.map f).findIdx? q = l.findIdx? (fun a => q (f a))
  | [] => rfl
  | a :: l => by rw [List.map_cons, List.findIdx?_cons, List.findIdx?_cons, findIdx_map f q l]
theorem put_keys (gs : G) (i : Nat) (p : P) : (put gs i p).map (·.1) = gs.map (·.1) := by
  apply List.ext_getElem?
  intro j
  unfold put
  rw [List.getElem?_map, List.getElem?_map, List.getElem?_modify]
  cases gs[j]? with
  | none => rfl
  | some g => by_cases e : i = j <;> simp [e]
theorem idx_keys {gs gs' : G} (h : gs.map (·.1) = gs'.map (·.1)) (k : Rc.H) : idx gs k = idx gs' k := by
  unfold idx
  have h1 := findIdx_map (fun g : Rc.H × List P => g.1) (fun x => decide (x = k)) gs
  have h2 := findIdx_map (fun g : Rc.H × List P => g.1) (fun x => decide (x = k)) gs'
  rw [← h1, ← h2, h]
theorem idx_put (gs : G) (i : Nat) (p : P) (k : Rc.H) : idx (put gs i p) k = idx gs k := idx_keys (put_keys gs i p) k
theorem put_len (gs : G) (i : Nat) (p : P) : (put gs i p).length = gs.length := by unfold put; exact List.length_modify ..
theorem put_snoc (gs : G) (k : Rc.H) (p : P) : put (gs ++ [(k, [])]) gs.length p = gs ++ [(k, [p])] := by
  unfold put
  apply List.ext_getElem?
  intro j
  rw [List.getElem?_modify]
  rcases Nat.lt_trichotomy j gs.length with h | h | h
  · rw [List.getElem?_append_left h, List.getElem?_append_left h, List.getElem?_eq_getElem h]
    simp [show ¬ gs.length = j by omega]
  · subst h; simp
  · rw [List.getElem?_eq_none (by simp; omega), List.getElem?_eq_none (by simp; omega)]; simp
theorem add_len (gs : G) (p : P) : (add gs p).length ≤ gs.length + 1 := by
  unfold add
  split
  · rw [put_len]; omega
  · rw [put_len]; simp
/-- how many parts lie in these -/
def total (gs : G) : Nat := (gs.map (·.2.length)).sum
theorem gather_snoc (ps : List P) (p : P) : gather (ps ++ [p]) = add (gather ps) p := by unfold gather; rw [List.foldl_append]; rfl
theorem gather_len (ps : List P) : (gather ps).length ≤ ps.length := by
  have key : ∀ (ps : List P) (gs : G), (ps.foldl add gs).length ≤ gs.length + ps.length := by
    intro ps
    induction ps with
    | nil => intro gs; exact Nat.le_refl _
    | cons p ps ih => intro gs; rw [List.foldl_cons, List.length_cons]; have := ih (add gs p); have := add_len gs p; omega
  have := key ps []
  rw [List.length_nil, Nat.zero_add] at this
  exact this
/-- what is in a list was met -/
theorem gather_mem {ps : List P} {g : Rc.H × List P} (h : g ∈ gather ps) : ∀ p ∈ g.2, p ∈ ps := by
  have hput : ∀ (gs : G) (i : Nat) (p : P) (S : List P), (∀ g ∈ gs, ∀ q ∈ g.2, q ∈ S) → p ∈ S → ∀ g ∈ put gs i p, ∀ q ∈ g.2, q ∈ S := by
    intro gs i p S hg hp g hgm q hq
    obtain ⟨j, hj, rfl⟩ := List.mem_iff_getElem.1 hgm
    unfold put at hq hj
    rw [List.getElem_modify] at hq
    split at hq
    · rcases List.mem_append.1 hq with hq | hq
      · exact hg _ (List.getElem_mem _) q hq
      · rw [List.mem_singleton.1 hq]; exact hp
    · exact hg _ (List.getElem_mem _) q hq
  have key : ∀ (ps : List P) (gs : G) (S : List P), (∀ g ∈ gs, ∀ q ∈ g.2, q ∈ S) → (∀ p ∈ ps, p ∈ S) → ∀ g ∈ ps.foldl add gs, ∀ q ∈ g.2, q ∈ S := by
    intro ps
    induction ps with
    | nil => intro gs S hg _; exact hg
    | cons p ps ih =>
      intro gs S hg hp
      refine ih _ S ?_ (fun q hq => hp q (List.mem_cons_of_mem _ hq))
      unfold add
      split
      · exact hput gs _ p S hg (hp p List.mem_cons_self)
      · refine hput _ _ p S (fun g hg' q hq => ?_) (hp p List.mem_cons_self)
        rcases List.mem_append.1 hg' with hg' | hg'
        · exact hg g hg' q hq
        · rw [List.mem_singleton.1 hg'] at hq; cases hq
  exact key ps [] ps (fun g hg => by cases hg) (fun p hp => hp) g h
theorem gather_le {ps : List P} {g : Rc.H × List P} (h : g ∈ gather ps) : g.2.length ≤ ps.length := by
  have hput : ∀ (gs : G) (i : Nat) (p : P) (n : Nat), (∀ g ∈ gs, g.2.length ≤ n) → ∀ g ∈ put gs i p, g.2.length ≤ n + 1 := by
    intro gs i p n hg g hgm
    obtain ⟨j, hj, rfl⟩ := List.mem_iff_getElem.1 hgm
    unfold put at hj ⊢
    rw [List.getElem_modify]
    split
    · rw [List.length_append]
      have := hg _ (List.getElem_mem (l := gs) (n := j) (by simpa using hj))
      simpa using this
    · exact Nat.le_succ_of_le (hg _ (List.getElem_mem _))
  have key : ∀ (ps : List P) (gs : G) (n : Nat), (∀ g ∈ gs, g.2.length ≤ n) → ∀ g ∈ ps.foldl add gs, g.2.length ≤ n + ps.length := by
    intro ps
    induction ps with
    | nil => intro gs n hg; exact hg
    | cons p ps ih =>
      intro gs n hg g hgm
      rw [List.foldl_cons] at hgm
      have := ih (add gs p) (n + 1) (by
        unfold add
        split
        · exact hput gs _ p n hg
        · exact hput _ _ p n fun g hg' => by
            rcases List.mem_append.1 hg' with hg' | hg'
            · exact hg g hg'
            · rw [List.mem_singleton.1 hg']; exact Nat.zero_le _) g hgm
      rw [List.length_cons]; omega
  have := key ps [] 0 (fun g hg => by cases hg) g h
  omega
/-- the parts of a tape, of tapes -/
def vo (t : St.T) : Vo.T := ⟨t.label, t.blocks, t.lost⟩
def partsOf (t : St.T) : List P := (Vo.parts (vo t)).map fun q => ⟨q.1, t.label, (q.2 : Int)⟩
def all (ts : List St.T) : List P := ts.flatMap partsOf
theorem all_take {ts : List St.T} {i : Nat} (hi : i < ts.length) : all (ts.take (i + 1)) = all (ts.take i) ++ partsOf ts[i] := by
  unfold all
  rw [List.take_succ_eq_append_getElem hi, List.flatMap_append]
  simp
/-- -1, 0 or 1 -/
def cmpS (a b : Tx) : Int := if a < b then -1 else if b < a then 1 else 0
def cmpZ (a b : Int) : Int := if a < b then -1 else if b < a then 1 else 0
/-- by path, then version, and of these the greatest serial first -/
def cmp (a b : F) : Int := if cmpS a.path b.path ≠ 0 then cmpS a.path b.path else if cmpZ a.version b.version ≠ 0 then cmpZ a.version b.version else cmpZ b.serial a.serial
def less (a b : F) : Bool := decide (cmp a b < 0)
def same (a b : F) : Bool := a.path == b.path && a.version == b.version
def files (gs : G) : List F := gs.filterMap fun g => whole g.2
theorem files_take {gs : G} {i : Nat} (hi : i < gs.length) : files (gs.take (i + 1)) = files (gs.take i) ++ (whole gs[i].2).toList := by
  unfold files
  rw [List.take_succ_eq_append_getElem hi, List.filterMap_append]
  cases h : whole gs[i].2 with
  | none => simp [h]
  | some f => simp [h]
theorem files_len (gs : G) : (files gs).length ≤ gs.length := List.length_filterMap_le _ _
/-- the files of tapes -/
def from_ (ts : List St.T) : List F := Sr.compact same (Sr.isort less (files (gather (all ts))))
end Go.Proofs.Ytjhbmijdpcbbiaa.Ct
