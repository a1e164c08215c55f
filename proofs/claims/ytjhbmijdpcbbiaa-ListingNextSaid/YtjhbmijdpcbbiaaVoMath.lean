/- Chapter 11's tapes as lists of blocks: which block is good, which parts lie there, how much is kept; which blocks a part is. No program. -/
import Derived.Test.YtjhbmijdpcbbiaaFmMath
import Derived.Test.YtjhbmijdpcbbiaaRcMath
namespace Go.Proofs.Ytjhbmijdpcbbiaa.Vo
open Pt (Tx)

/-- a tape -/
structure T where
  label : Int
  blocks : List Tx
  lost : Bool
/-- block n, if it is good -/
def good (t : T) (n : Nat) : Option Fm.U :=
  if t.lost = true then none else match t.blocks[n]? with
    | none => none
    | some b => if Fm.Good b ∧ (Fm.parse b).label = t.label ∧ (Fm.parse b).number = (n : Int) then some (Fm.parse b) else none
/-- how many blocks so many bytes take -/
def data (n : Nat) : Nat := (n + 63) / 64
theorem data_zero : data 0 = 0 := rfl
theorem data_int (n : Nat) : (((n : Int) - 1) / 64 + 1) = (data n : Int) := by unfold data; omega
/-- the part at block n -/
def part (t : T) (n : Nat) : Option Rc.H :=
  match good t n with
  | none => none
  | some u => if u.kind = 2 ∧ Rc.Good u.load ∧ n + data (Rc.parse u.load).len.toNat + 1 < t.blocks.length then some (Rc.parse u.load) else none
/-- the parts from block n on, f blocks looked at -/
def scan (t : T) : Nat → Nat → List (Rc.H × Nat)
  | 0, _ => []
  | f + 1, n => if n < t.blocks.length then
      match part t n with
      | some h => (h, n) :: scan t f (n + data h.len.toNat + 2)
      | none => scan t f (n + 1)
    else []
def parts (t : T) : List (Rc.H × Nat) := scan t t.blocks.length 1
def keep (t : T) : Nat :=
  match (parts t).getLast? with
  | some (h, n) => n + data h.len.toNat + 2
  | none => if (good t 0).isSome then 1 else 0
theorem good_lost {t : T} (h : t.lost = true) (n : Nat) : good t n = none := if_pos h
theorem good_end {t : T} {n : Nat} (h : t.blocks.length ≤ n) : good t n = none := by
  unfold good
  split
  · rfl
  · rw [List.getElem?_eq_none h]
theorem good_at {t : T} {n : Nat} {u : Fm.U} (hl : t.lost = false) (hb : t.blocks[n]? = some (Fm.blk u)) (hu : Fm.Ok u) (h1 : u.label = t.label) (h2 : u.number = (n : Int)) : good t n = some u := by
  unfold good
  rw [if_neg (by rw [hl]; decide), hb]
  show (if Fm.Good (Fm.blk u) ∧ (Fm.parse (Fm.blk u)).label = t.label ∧ (Fm.parse (Fm.blk u)).number = (n : Int) then some (Fm.parse (Fm.blk u)) else none) = some u
  rw [Fm.parse_blk hu, if_pos ⟨Fm.good_blk hu, h1, h2⟩]
theorem good_none {t : T} {n : Nat} {b : Tx} (hb : t.blocks[n]? = some b) (h : ¬ Fm.Good b) : good t n = none := by
  unfold good
  split
  · rfl
  · rw [hb]
    show (if Fm.Good b ∧ (Fm.parse b).label = t.label ∧ (Fm.parse b).number = (n : Int) then some (Fm.parse b) else none) = none
    rw [if_neg fun h' => h h'.1]
theorem good_some {t : T} {n : Nat} {u : Fm.U} (h : good t n = some u) : ∃ b, t.blocks[n]? = some b ∧ Fm.Good b ∧ u = Fm.parse b := by
  unfold good at h
  split at h
  · cases h
  · split at h
    · cases h
    · rename_i b hb
      split at h
      · rename_i h'
        exact ⟨b, hb, h'.1, (Option.some.inj h).symm⟩
      · cases h
theorem part_lt {t : T} {n : Nat} {h : Rc.H} (e : part t n = some h) : n < t.blocks.length := by
  unfold part at e
  split at e
  · cases e
  · rename_i u hu
    obtain ⟨b, hb, _⟩ := good_some hu
    exact (List.getElem?_eq_some_iff.1 hb).1
theorem part_in {t : T} {n : Nat} {h : Rc.H} (e : part t n = some h) : n + data h.len.toNat + 1 < t.blocks.length ∧ Rc.Ok h := by
  unfold part at e
  split at e
  · cases e
  · rename_i u hu
    split at e
    · rename_i h'
      cases e
      exact ⟨h'.2.2, h'.2.1.1⟩
    · cases e
/-- a head's frame -/
def headU (label at_ : Int) (h : Rc.H) : Fm.U := ⟨2, label, at_, Rc.blk h⟩
theorem head_long {h : Rc.H} (k : Rc.Ok h) : (Rc.blk h).length ≤ 64 := by have := Rc.put_le h; rw [Rc.put_ok k] at this; omega
/-- a label and numbers that frames can have -/
def Fits (label at_ : Int) (d : Nat) : Prop := (1 ≤ label ∧ label ≤ 2147483647) ∧ 0 ≤ at_ ∧ at_ + (d : Int) ≤ 2147483647
instance (label at_ : Int) (d : Nat) : Decidable (Fits label at_ d) := by unfold Fits; exact inferInstance
theorem headU_ok {label at_ : Int} {h : Rc.H} (k : Rc.Ok h) (hf : Fits label at_ 0) : Fm.Ok (headU label at_ h) := by
  obtain ⟨⟨a, b⟩, c, d⟩ := hf
  refine ⟨⟨(by show (1 : Int) ≤ 2; decide), (by show (2 : Int) ≤ 6; decide), a, b, c, ?_⟩, ?_⟩
  · show at_ ≤ 2147483647; omega
  · show (Rc.blk h).length ≤ Fm.room 2
    exact Nat.le_trans (head_long k) (by decide)
/-- where a head lies whose part is whole, a part lies -/
theorem part_at {t : T} {n : Nat} {h : Rc.H} (hl : t.lost = false) (hf : Fits t.label (n : Int) 0) (k : Rc.Ok h) (hb : t.blocks[n]? = some (Fm.blk (headU t.label (n : Int) h))) (hn : n + data h.len.toNat + 1 < t.blocks.length) : part t n = some h := by
  unfold part
  rw [good_at hl hb (headU_ok k hf) rfl rfl]
  show (if (2 : Int) = 2 ∧ Rc.Good (Rc.blk h) ∧ n + data (Rc.parse (Rc.blk h)).len.toNat + 1 < t.blocks.length then some (Rc.parse (Rc.blk h)) else none) = some h
  rw [Rc.parse_blk k, if_pos ⟨rfl, Rc.good_blk k, hn⟩]
/-- and where its part is not whole, none lies -/
theorem part_short {t : T} {n : Nat} {h : Rc.H} (hl : t.lost = false) (hf : Fits t.label (n : Int) 0) (k : Rc.Ok h) (hb : t.blocks[n]? = some (Fm.blk (headU t.label (n : Int) h))) (hn : t.blocks.length ≤ n + data h.len.toNat + 1) : part t n = none := by
  unfold part
  rw [good_at hl hb (headU_ok k hf) rfl rfl]
  show (if (2 : Int) = 2 ∧ Rc.Good (Rc.blk h) ∧ n + data (Rc.parse (Rc.blk h)).len.toNat + 1 < t.blocks.length then some (Rc.parse (Rc.blk h)) else none) = none
  rw [Rc.parse_blk k, if_neg fun h' => by have := h'.2.2; omega]
theorem part_kind {t : T} {n : Nat} {b : Tx} (hb : t.blocks[n]? = some b) (h : Fm.Good b → (Fm.parse b).kind ≠ 2) : part t n = none := by
  unfold part
  split
  · rfl
  · rename_i u hu
    obtain ⟨b', hb', hg, rfl⟩ := good_some hu
    rw [hb] at hb'
    cases hb'
    rw [if_neg fun h' => h hg h'.1]
theorem part_end {t : T} {n : Nat} (h : t.blocks.length ≤ n) : part t n = none := by
  unfold part; rw [good_end h]
/-- parts one behind the other, from block n on -/
def Laid (t : T) : Nat → List Rc.H → Prop
  | _, [] => True
  | n, h :: hs => part t n = some h ∧ Laid t (n + data h.len.toNat + 2) hs
def places : Nat → List Rc.H → List (Rc.H × Nat)
  | _, [] => []
  | n, h :: hs => (h, n) :: places (n + data h.len.toNat + 2) hs
def ending : Nat → List Rc.H → Nat
  | n, [] => n
  | n, h :: hs => ending (n + data h.len.toNat + 2) hs
theorem places_len : ∀ (n : Nat) (hs : List Rc.H), (places n hs).length = hs.length
  | _, [] => rfl
  | n, h :: hs => by rw [places, List.length_cons, places_len, List.length_cons]
theorem ending_ge : ∀ (n : Nat) (hs : List Rc.H), n + 2 * hs.length ≤ ending n hs
  | n, [] => by simp [ending]
  | n, h :: hs => by
    have := ending_ge (n + data h.len.toNat + 2) hs
    rw [ending, List.length_cons]; omega
theorem places_snoc : ∀ (n : Nat) (hs : List Rc.H) (h : Rc.H), places n (hs ++ [h]) = places n hs ++ [(h, ending n hs)]
  | _, [], _ => rfl
  | n, a :: hs, h => by rw [List.cons_append, places, places, places_snoc _ hs h, ending]; rfl
theorem ending_snoc : ∀ (n : Nat) (hs : List Rc.H) (h : Rc.H), ending n (hs ++ [h]) = ending n hs + data h.len.toNat + 2
  | _, [], _ => rfl
  | n, a :: hs, h => by rw [List.cons_append, ending, ending, ending_snoc _ hs h]
theorem scan_laid {t : T} : ∀ (hs : List Rc.H) (n f : Nat), Laid t n hs → scan t (hs.length + f) n = places n hs ++ scan t f (ending n hs)
  | [], n, f, _ => by rw [List.length_nil, Nat.zero_add]; rfl
  | h :: hs, n, f, hl => by
    have e : (h :: hs).length + f = (hs.length + f) + 1 := by rw [List.length_cons]; omega
    rw [e, scan, if_pos (part_lt hl.1), hl.1]
    show (h, n) :: scan t (hs.length + f) (n + data h.len.toNat + 2) = _
    rw [scan_laid hs _ f hl.2]; rfl
theorem scan_none {t : T} : ∀ (f n : Nat), (∀ m, n ≤ m → part t m = none) → scan t f n = []
  | 0, _, _ => rfl
  | f + 1, n, h => by
    rw [scan]
    split
    · rw [h n (Nat.le_refl _)]
      exact scan_none f (n + 1) fun m hm => h m (by omega)
    · rfl
/-- parts that lie one behind the other, and none behind them, are all that is found -/
theorem parts_laid {t : T} {hs : List Rc.H} (hl : Laid t 1 hs) (hn : ∀ m, ending 1 hs ≤ m → part t m = none) (hlen : hs.length ≤ t.blocks.length) : parts t = places 1 hs := by
  unfold parts
  obtain ⟨f, hf⟩ : ∃ f, t.blocks.length = hs.length + f := ⟨t.blocks.length - hs.length, by omega⟩
  rw [hf, scan_laid hs 1 f hl, scan_none f _ hn, List.append_nil]
theorem keep_laid {t : T} {hs : List Rc.H} (hp : parts t = places 1 hs) (h0 : hs = [] → (good t 0).isSome = true) : keep t = ending 1 hs := by
  unfold keep
  rw [hp]
  rcases List.eq_nil_or_concat hs with rfl | ⟨l, h, rfl⟩
  · show (if (good t 0).isSome then 1 else 0) = 1
    rw [if_pos (h0 rfl)]
  · rw [List.concat_eq_append, places_snoc, ending_snoc, List.getLast?_append]
    rfl
/-- data's frames -/
def chunk (b : Tx) (i : Nat) : Tx := (b.drop (64 * i)).take 64
theorem chunk_len (b : Tx) (i : Nat) : (chunk b i).length ≤ 64 := by unfold chunk; rw [List.length_take]; omega
def dataU (label at_ : Int) (b : Tx) (i : Nat) : Fm.U := ⟨3, label, at_ + 1 + (i : Int), chunk b i⟩
def markU (label at_ : Int) (d : Nat) : Fm.U := ⟨4, label, at_ + 1 + (d : Int), []⟩
def units (label at_ : Int) (h : Rc.H) (b : Tx) : List Fm.U := headU label at_ h :: ((List.range (data b.length)).map (dataU label at_ b) ++ [markU label at_ (data b.length)])
theorem units_len (label at_ : Int) (h : Rc.H) (b : Tx) : (units label at_ h b).length = data b.length + 2 := by
  unfold units; simp
theorem units_zero (label at_ : Int) (h : Rc.H) (b : Tx) : (units label at_ h b)[0]? = some (headU label at_ h) := rfl
theorem units_data {label at_ : Int} {h : Rc.H} {b : Tx} {i : Nat} (hi : i < data b.length) : (units label at_ h b)[i + 1]? = some (dataU label at_ b i) := by
  unfold units
  rw [List.getElem?_cons_succ, List.getElem?_append_left (by simpa using hi)]
  simp [hi]
theorem units_mark (label at_ : Int) (h : Rc.H) (b : Tx) : (units label at_ h b)[data b.length + 1]? = some (markU label at_ (data b.length)) := by
  unfold units
  rw [List.getElem?_cons_succ, List.getElem?_append_right (by simp)]
  simp
/-- each unit's number and label -/
theorem units_at {label at_ : Int} {h : Rc.H} {b : Tx} {j : Nat} {u : Fm.U} (hu : (units label at_ h b)[j]? = some u) : u.label = label ∧ u.number = at_ + (j : Int) ∧ (j = 0 ∨ u.kind ≠ 2) ∧ (u.kind = 2 ∨ u.kind = 3 ∨ u.kind = 4) := by
  have hj : j < data b.length + 2 := by rw [← units_len label at_ h b]; exact (List.getElem?_eq_some_iff.1 hu).1
  by_cases h0 : j = 0
  · subst h0
    cases hu
    exact ⟨rfl, by show at_ = at_ + 0; omega, .inl rfl, .inl rfl⟩
  · obtain ⟨i, rfl⟩ : ∃ i, j = i + 1 := ⟨j - 1, by omega⟩
    by_cases hi : i < data b.length
    · rw [units_data hi] at hu
      cases hu
      exact ⟨rfl, by show at_ + 1 + (i : Int) = _; omega, .inr (by show (3 : Int) ≠ 2; decide), .inr (.inl rfl)⟩
    · obtain rfl : i = data b.length := by omega
      rw [units_mark] at hu
      cases hu
      exact ⟨rfl, by show at_ + 1 + (data b.length : Int) = _; omega, .inr (by show (4 : Int) ≠ 2; decide), .inr (.inr rfl)⟩
theorem units_load {label at_ : Int} {h : Rc.H} {b : Tx} (k : Rc.Ok h) {j : Nat} {u : Fm.U} (hu : (units label at_ h b)[j]? = some u) : u.load.length ≤ 64 := by
  have hj : j < data b.length + 2 := by rw [← units_len label at_ h b]; exact (List.getElem?_eq_some_iff.1 hu).1
  by_cases h0 : j = 0
  · subst h0; cases hu; exact head_long k
  · obtain ⟨i, rfl⟩ : ∃ i, j = i + 1 := ⟨j - 1, by omega⟩
    by_cases hi : i < data b.length
    · rw [units_data hi] at hu; cases hu; exact chunk_len b i
    · obtain rfl : i = data b.length := by omega
      rw [units_mark] at hu; cases hu; exact Nat.zero_le _
theorem unit_ok {label at_ : Int} {h : Rc.H} {b : Tx} (k : Rc.Ok h) {j : Nat} {u : Fm.U} (hu : (units label at_ h b)[j]? = some u) (hf : Fits label (at_ + (j : Int)) 0) : Fm.Ok u := by
  obtain ⟨h1, h2, -, h3⟩ := units_at hu
  have h4 := units_load k hu
  obtain ⟨⟨a, b'⟩, c, d⟩ := hf
  refine ⟨⟨by omega, by omega, by omega, by omega, by omega, by omega⟩, Nat.le_trans h4 (Fm.room_ge _)⟩
theorem units_ok {label at_ : Int} {h : Rc.H} {b : Tx} (k : Rc.Ok h) (hf : Fits label at_ (data b.length + 1)) {j : Nat} {u : Fm.U} (hu : (units label at_ h b)[j]? = some u) : Fm.Ok u := by
  have hj : j < data b.length + 2 := by rw [← units_len label at_ h b]; exact (List.getElem?_eq_some_iff.1 hu).1
  obtain ⟨a, c, d⟩ := hf
  exact unit_ok k hu ⟨a, by omega, by omega⟩
theorem unit_err {label at_ : Int} {h : Rc.H} {b : Tx} (k : Rc.Ok h) {j : Nat} {u : Fm.U} (hu : (units label at_ h b)[j]? = some u) : Fm.err u = if Fits label (at_ + (j : Int)) 0 then 0 else 1 := by
  by_cases hf : Fits label (at_ + (j : Int)) 0
  · rw [if_pos hf]; exact Fm.err_ok (unit_ok k hu hf)
  · rw [if_neg hf]
    refine Fm.err_arg fun ha => hf ?_
    obtain ⟨h1, h2, -, -⟩ := units_at hu
    obtain ⟨-, -, a, b', c, d⟩ := ha
    exact ⟨⟨by omega, by omega⟩, by omega, by omega⟩
/-- which blocks a part is, and why none -/
def Right (label at_ : Int) (h : Rc.H) (b : Tx) : Prop := (Rc.Ok h ∧ (b.length : Int) = h.len) ∧ Fits label at_ (data b.length + 1)
instance (label at_ : Int) (h : Rc.H) (b : Tx) : Decidable (Right label at_ h b) := by unfold Right; exact inferInstance
def put (label at_ : Int) (h : Rc.H) (b : Tx) : List Tx := if Right label at_ h b then (units label at_ h b).map Fm.blk else []
def err (label at_ : Int) (h : Rc.H) (b : Tx) : Int := if Right label at_ h b then 0 else 1
theorem put_yes {label at_ : Int} {h : Rc.H} {b : Tx} (k : Right label at_ h b) : put label at_ h b = (units label at_ h b).map Fm.blk := if_pos k
theorem put_no {label at_ : Int} {h : Rc.H} {b : Tx} (k : ¬ Right label at_ h b) : put label at_ h b = [] := if_neg k
theorem err_yes {label at_ : Int} {h : Rc.H} {b : Tx} (k : Right label at_ h b) : err label at_ h b = 0 := if_pos k
theorem err_no {label at_ : Int} {h : Rc.H} {b : Tx} (k : ¬ Right label at_ h b) : err label at_ h b = 1 := if_neg k
theorem put_len {label at_ : Int} {h : Rc.H} {b : Tx} (k : Right label at_ h b) : (put label at_ h b).length = data b.length + 2 := by rw [put_yes k, List.length_map, units_len]
/-- how many blocks a part of so many bytes takes -/
def need (n : Int) : Nat := data (min (max n 0) 4000).toNat + 2
theorem need_of {b : Tx} {h : Rc.H} (k : Rc.Ok h) (e : (b.length : Int) = h.len) : need (b.length : Int) = data b.length + 2 := by
  have h1 : h.len ≤ 4000 := by obtain ⟨-, -, -, ⟨_, a⟩, b', c, d, _⟩ := k; omega
  unfold need
  rw [show (min (max (b.length : Int) 0) 4000).toNat = b.length by omega]
/-- a tape on which blocks were laid behind others -/
theorem laid_at {pre : List Tx} {label : Int} {h : Rc.H} {b : Tx} (post : List Tx) (k : Right label (pre.length : Int) h b) {j : Nat} (hj : j < data b.length + 2) :
    ∃ u, (units label (pre.length : Int) h b)[j]? = some u ∧ (pre ++ (put label (pre.length : Int) h b ++ post))[pre.length + j]? = some (Fm.blk u) := by
  have hj' : j < (units label (pre.length : Int) h b).length := by rw [units_len]; exact hj
  refine ⟨_, List.getElem?_eq_getElem hj', ?_⟩
  rw [List.getElem?_append_right (by omega), show pre.length + j - pre.length = j by omega, List.getElem?_append_left (by rw [put_len k]; exact hj), put_yes k, List.getElem?_map, List.getElem?_eq_getElem hj']
  rfl
end Go.Proofs.Ytjhbmijdpcbbiaa.Vo
