/- Chapter 11's tapes as lists of blocks: which block is good, which parts lie there, how much is kept; which blocks a part is. No program. Chapter 10's seals as what the two readers make of bytes; labels, one behind the other. No program. Chapter 14's groups as lists: which seal a tape ends with, which groups tapes tell of, which has a label, which parity tapes are made. No program. Mending (chapter 15): the members of a group and their rows. No function of the program. Tapes that read: a slice of slices of bytes as a list of texts. No function of the program. -/
import Derived.Test.YtcokmmanajdioaaGreatMad
import Derived.Test.YtcokmmanajdioaaGreatMac
namespace Go.Proofs.YtcokmmanajdioaaGreat.Vo
open Pt (Tx)

/-- a tape -/
structure T where
  label : Int
  blocks : List Tx
  lost : Bool
/-- block n, if it is good -/
def good (t : T) (n : Nat) : Option Fm.U :=
  if t.lost = true then none else match t.blocks[n]? with
    | none => none
    | some b => if Fm.Good b ∧ (Fm.parse b).label = t.label ∧ (Fm.parse b).number = (n : Int) then some (Fm.parse b) else none
/-- how many blocks so many bytes take -/
def data (n : Nat) : Nat := (n + 63) / 64
theorem data_zero : data 0 = 0 := rfl
theorem data_int (n : Nat) : (((n : Int) - 1) / 64 + 1) = (data n : Int) := by unfold data; omega
/-- the part at block n -/
def part (t : T) (n : Nat) : Option Rc.H :=
  match good t n with
  | none => none
  | some u => if u.kind = 2 ∧ Rc.Good u.load ∧ n + data (Rc.parse u.load).len.toNat + 1 < t.blocks.length then some (Rc.parse u.load) else none
/-- the parts from block n on, f blocks looked at -/
def scan (t : T) : Nat → Nat → List (Rc.H × Nat)
  | 0, _ => []
  | f + 1, n => if n < t.blocks.length then
      match part t n with
      | some h => (h, n) :: scan t f (n + data h.len.toNat + 2)
      | none => scan t f (n + 1)
    else []
def parts (t : T) : List (Rc.H × Nat) := scan t t.blocks.length 1
def keep (t : T) : Nat :=
  match (parts t).getLast? with
  | some (h, n) => n + data h.len.toNat + 2
  | none => if (good t 0).isSome then 1 else 0
theorem good_lost {t : T} (h : t.lost = true) (n : Nat) : good t n = none := if_pos h
theorem good_end {t : T} {n : Nat} (h : t.blocks.length ≤ n) : good t n = none := by
  unfold good
  split
  · rfl
  · rw [List.getElem?_eq_none h]
theorem good_at {t : T} {n : Nat} {u : Fm.U} (hl : t.lost = false) (hb : t.blocks[n]? = some (Fm.blk u)) (hu : Fm.Ok u) (h1 : u.label = t.label) (h2 : u.number = (n : Int)) : good t n = some u := by
  unfold good
  rw [if_neg (by rw [hl]; decide), hb]
  show (if Fm.Good (Fm.blk u) ∧ (Fm.parse (Fm.blk u)).label = t.label ∧ (Fm.parse (Fm.blk u)).number = (n : Int) then some (Fm.parse (Fm.blk u)) else none) = some u
  rw [Fm.parse_blk hu, if_pos ⟨Fm.good_blk hu, h1, h2⟩]
theorem good_none {t : T} {n : Nat} {b : Tx} (hb : t.blocks[n]? = some b) (h : ¬ Fm.Good b) : good t n = none := by
  unfold good
  split
  · rfl
  · rw [hb]
    show (if Fm.Good b ∧ (Fm.parse b).label = t.label ∧ (Fm.parse b).number = (n : Int) then some (Fm.parse b) else none) = none
    rw [if_neg fun h' => h h'.1]
theorem good_some {t : T} {n : Nat} {u : Fm.U} (h : good t n = some u) : ∃ b, t.blocks[n]? = some b ∧ Fm.Good b ∧ u = Fm.parse b := by
  unfold good at h
  split at h
  · cases h
  · split at h
    · cases h
    · rename_i b hb
      split at h
      · rename_i h'
        exact ⟨b, hb, h'.1, (Option.some.inj h).symm⟩
      · cases h
theorem part_lt {t : T} {n : Nat} {h : Rc.H} (e : part t n = some h) : n < t.blocks.length := by
  unfold part at e
  split at e
  · cases e
  · rename_i u hu
    obtain ⟨b, hb, _⟩ := good_some hu
    exact (List.getElem?_eq_some_iff.1 hb).1
theorem part_in {t : T} {n : Nat} {h : Rc.H} (e : part t n = some h) : n + data h.len.toNat + 1 < t.blocks.length ∧ Rc.Ok h := by
  unfold part at e
  split at e
  · cases e
  · rename_i u hu
    split at e
    · rename_i h'
      cases e
      exact ⟨h'.2.2, h'.2.1.1⟩
    · cases e
/-- a head's frame -/
def headU (label at_ : Int) (h : Rc.H) : Fm.U := ⟨2, label, at_, Rc.blk h⟩
theorem head_long {h : Rc.H} (k : Rc.Ok h) : (Rc.blk h).length ≤ 64 := by have := Rc.put_le h; rw [Rc.put_ok k] at this; omega
/-- a label and numbers that frames can have -/
def Fits (label at_ : Int) (d : Nat) : Prop := (1 ≤ label ∧ label ≤ 2147483647) ∧ 0 ≤ at_ ∧ at_ + (d : Int) ≤ 2147483647
instance (label at_ : Int) (d : Nat) : Decidable (Fits label at_ d) := by unfold Fits; exact inferInstance
theorem headU_ok {label at_ : Int} {h : Rc.H} (k : Rc.Ok h) (hf : Fits label at_ 0) : Fm.Ok (headU label at_ h) := by
  obtain ⟨⟨a, b⟩, c, d⟩ := hf
  refine ⟨⟨(by show (1 : Int) ≤ 2; decide), (by show (2 : Int) ≤ 6; decide), a, b, c, ?_⟩, ?_⟩
  · show at_ ≤ 2147483647; omega
  · show (Rc.blk h).length ≤ Fm.room 2
    exact Nat.le_trans (head_long k) (by decide)
/-- where a head lies whose part is whole, a part lies -/
theorem part_at {t : T} {n : Nat} {h : Rc.H} (hl : t.lost = false) (hf : Fits t.label (n : Int) 0) (k : Rc.Ok h) (hb : t.blocks[n]? = some (Fm.blk (headU t.label (n : Int) h))) (hn : n + data h.len.toNat + 1 < t.blocks.length) : part t n = some h := by
  unfold part
  rw [good_at hl hb (headU_ok k hf) rfl rfl]
  show (if (2 : Int) = 2 ∧ Rc.Good (Rc.blk h) ∧ n + data (Rc.parse (Rc.blk h)).len.toNat + 1 < t.blocks.length then some (Rc.parse (Rc.blk h)) else none) = some h
  rw [Rc.parse_blk k, if_pos ⟨rfl, Rc.good_blk k, hn⟩]
/-- and where its part is not whole, none lies -/
theorem part_short {t : T} {n : Nat} {h : Rc.H} (hl : t.lost = false) (hf : Fits t.label (n : Int) 0) (k : Rc.Ok h) (hb : t.blocks[n]? = some (Fm.blk (headU t.label (n : Int) h))) (hn : t.blocks.length ≤ n + data h.len.toNat + 1) : part t n = none := by
  unfold part
  rw [good_at hl hb (headU_ok k hf) rfl rfl]
  show (if (2 : Int) = 2 ∧ Rc.Good (Rc.blk h) ∧ n + data (Rc.parse (Rc.blk h)).len.toNat + 1 < t.blocks.length then some (Rc.parse (Rc.blk h)) else none) = none
  rw [Rc.parse_blk k, if_neg fun h' => by have := h'.2.2; omega]
theorem part_kind {t : T} {n : Nat} {b : Tx} (hb : t.blocks[n]? = some b) (h : Fm.Good b → (Fm.parse b).kind ≠ 2) : part t n = none := by
  unfold part
  split
  · rfl
  · rename_i u hu
    obtain ⟨b', hb', hg, rfl⟩ := good_some hu
    rw [hb] at hb'
    cases hb'
    rw [if_neg fun h' => h hg h'.1]
theorem part_end {t : T} {n : Nat} (h : t.blocks.length ≤ n) : part t n = none := by
  unfold part; rw [good_end h]
/-- parts one behind the other, from block n on -/
def Laid (t : T) : Nat → List Rc.H → Prop
  | _, [] => True
  | n, h :: hs => part t n = some h ∧ Laid t (n + data h.len.toNat + 2) hs
def places : Nat → List Rc.H → List (Rc.H × Nat)
  | _, [] => []
  | n, h :: hs => (h, n) :: places (n + data h.len.toNat + 2) hs
def ending : Nat → List Rc.H → Nat
  | n, [] => n
  | n, h :: hs => ending (n + data h.len.toNat + 2) hs
theorem places_len : ∀ (n : Nat) (hs : List Rc.H), (places n hs).length = hs.length
  | _, [] => rfl
  | n, h :: hs => by rw [places, List.length_cons, places_len, List.length_cons]
theorem ending_ge : ∀ (n : Nat) (hs : List Rc.H), n + 2 * hs.length ≤ ending n hs
  | n, [] => by simp [ending]
  | n, h :: hs => by
    have := ending_ge (n + data h.len.toNat + 2) hs
    rw [ending, List.length_cons]; omega
theorem places_snoc : ∀ (n : Nat) (hs : List Rc.H) (h : Rc.H), places n (hs ++ [h]) = places n hs ++ [(h, ending n hs)]
  | _, [], _ => rfl
  | n, a :: hs, h => by rw [List.cons_append, places, places, places_snoc _ hs h, ending]; rfl
theorem ending_snoc : ∀ (n : Nat) (hs : List Rc.H) (h : Rc.H), ending n (hs ++ [h]) = ending n hs + data h.len.toNat + 2
  | _, [], _ => rfl
  | n, a :: hs, h => by rw [List.cons_append, ending, ending, ending_snoc _ hs h]
theorem scan_laid {t : T} : ∀ (hs : List Rc.H) (n f : Nat), Laid t n hs → scan t (hs.length + f) n = places n hs ++ scan t f (ending n hs)
  | [], n, f, _ => by rw [List.length_nil, Nat.zero_add]; rfl
  | h :: hs, n, f, hl => by
    have e : (h :: hs).length + f = (hs.length + f) + 1 := by rw [List.length_cons]; omega
    rw [e, scan, if_pos (part_lt hl.1), hl.1]
    show (h, n) :: scan t (hs.length + f) (n + data h.len.toNat + 2) = _
    rw [scan_laid hs _ f hl.2]; rfl
theorem scan_none {t : T} : ∀ (f n : Nat), (∀ m, n ≤ m → part t m = none) → scan t f n = []
  | 0, _, _ => rfl
  | f + 1, n, h => by
    rw [scan]
    split
    · rw [h n (Nat.le_refl _)]
      exact scan_none f (n + 1) fun m hm => h m (by omega)
    · rfl
/-- parts that lie one behind the other, and none behind them, are all that is found -/
theorem parts_laid {t : T} {hs : List Rc.H} (hl : Laid t 1 hs) (hn : ∀ m, ending 1 hs ≤ m → part t m = none) (hlen : hs.length ≤ t.blocks.length) : parts t = places 1 hs := by
  unfold parts
  obtain ⟨f, hf⟩ : ∃ f, t.blocks.length = hs.length + f := ⟨t.blocks.length - hs.length, by omega⟩
  rw [hf, scan_laid hs 1 f hl, scan_none f _ hn, List.append_nil]
theorem keep_laid {t : T} {hs : List Rc.H} (hp : parts t = places 1 hs) (h0 : hs = [] → (good t 0).isSome = true) : keep t = ending 1 hs := by
  unfold keep
  rw [hp]
  rcases List.eq_nil_or_concat hs with rfl | ⟨l, h, rfl⟩
  · show (if (good t 0).isSome then 1 else 0) = 1
    rw [if_pos (h0 rfl)]
  · rw [List.concat_eq_append, places_snoc, ending_snoc, List.getLast?_append]
    rfl
/-- data's frames -/
def chunk (b : Tx) (i : Nat) : Tx := (b.drop (64 * i)).take 64
theorem chunk_len (b : Tx) (i : Nat) : (chunk b i).length ≤ 64 := by unfold chunk; rw [List.length_take]; omega
def dataU (label at_ : Int) (b : Tx) (i : Nat) : Fm.U := ⟨3, label, at_ + 1 + (i : Int), chunk b i⟩
def markU (label at_ : Int) (d : Nat) : Fm.U := ⟨4, label, at_ + 1 + (d : Int), []⟩
def units (label at_ : Int) (h : Rc.H) (b : Tx) : List Fm.U := headU label at_ h :: ((List.range (data b.length)).map (dataU label at_ b) ++ [markU label at_ (data b.length)])
theorem units_len (label at_ : Int) (h : Rc.H) (b : Tx) : (units label at_ h b).length = data b.length + 2 := by
  unfold units; simp
theorem units_zero (label at_ : Int) (h : Rc.H) (b : Tx) : (units label at_ h b)[0]? = some (headU label at_ h) := rfl
theorem units_data {label at_ : Int} {h : Rc.H} {b : Tx} {i : Nat} (hi : i < data b.length) : (units label at_ h b)[i + 1]? = some (dataU label at_ b i) := by
  unfold units
  rw [List.getElem?_cons_succ, List.getElem?_append_left (by simpa using hi)]
  simp [hi]
theorem units_mark (label at_ : Int) (h : Rc.H) (b : Tx) : (units label at_ h b)[data b.length + 1]? = some (markU label at_ (data b.length)) := by
  unfold units
  rw [List.getElem?_cons_succ, List.getElem?_append_right (by simp)]
  simp
/-- each unit's number and label -/
theorem units_at {label at_ : Int} {h : Rc.H} {b : Tx} {j : Nat} {u : Fm.U} (hu : (units label at_ h b)[j]? = some u) : u.label = label ∧ u.number = at_ + (j : Int) ∧ (j = 0 ∨ u.kind ≠ 2) ∧ (u.kind = 2 ∨ u.kind = 3 ∨ u.kind = 4) := by
  have hj : j < data b.length + 2 := by rw [← units_len label at_ h b]; exact (List.getElem?_eq_some_iff.1 hu).1
  by_cases h0 : j = 0
  · subst h0
    cases hu
    exact ⟨rfl, by show at_ = at_ + 0; omega, .inl rfl, .inl rfl⟩
  · obtain ⟨i, rfl⟩ : ∃ i, j = i + 1 := ⟨j - 1, by omega⟩
    by_cases hi : i < data b.length
    · rw [units_data hi] at hu
      cases hu
      exact ⟨rfl, by show at_ + 1 + (i : Int) = _; omega, .inr (by show (3 : Int) ≠ 2; decide), .inr (.inl rfl)⟩
    · obtain rfl : i = data b.length := by omega
      rw [units_mark] at hu
      cases hu
      exact ⟨rfl, by show at_ + 1 + (data b.length : Int) = _; omega, .inr (by show (4 : Int) ≠ 2; decide), .inr (.inr rfl)⟩
theorem units_load {label at_ : Int} {h : Rc.H} {b : Tx} (k : Rc.Ok h) {j : Nat} {u : Fm.U} (hu : (units label at_ h b)[j]? = some u) : u.load.length ≤ 64 := by
  have hj : j < data b.length + 2 := by rw [← units_len label at_ h b]; exact (List.getElem?_eq_some_iff.1 hu).1
  by_cases h0 : j = 0
  · subst h0; cases hu; exact head_long k
  · obtain ⟨i, rfl⟩ : ∃ i, j = i + 1 := ⟨j - 1, by omega⟩
    by_cases hi : i < data b.length
    · rw [units_data hi] at hu; cases hu; exact chunk_len b i
    · obtain rfl : i = data b.length := by omega
      rw [units_mark] at hu; cases hu; exact Nat.zero_le _
theorem unit_ok {label at_ : Int} {h : Rc.H} {b : Tx} (k : Rc.Ok h) {j : Nat} {u : Fm.U} (hu : (units label at_ h b)[j]? = some u) (hf : Fits label (at_ + (j : Int)) 0) : Fm.Ok u := by
  obtain ⟨h1, h2, -, h3⟩ := units_at hu
  have h4 := units_load k hu
  obtain ⟨⟨a, b'⟩, c, d⟩ := hf
  refine ⟨⟨by omega, by omega, by omega, by omega, by omega, by omega⟩, Nat.le_trans h4 (Fm.room_ge _)⟩
theorem units_ok {label at_ : Int} {h : Rc.H} {b : Tx} (k : Rc.Ok h) (hf : Fits label at_ (data b.length + 1)) {j : Nat} {u : Fm.U} (hu : (units label at_ h b)[j]? = some u) : Fm.Ok u := by
  have hj : j < data b.length + 2 := by rw [← units_len label at_ h b]; exact (List.getElem?_eq_some_iff.1 hu).1
  obtain ⟨a, c, d⟩ := hf
  exact unit_ok k hu ⟨a, by omega, by omega⟩
theorem unit_err {label at_ : Int} {h : Rc.H} {b : Tx} (k : Rc.Ok h) {j : Nat} {u : Fm.U} (hu : (units label at_ h b)[j]? = some u) : Fm.err u = if Fits label (at_ + (j : Int)) 0 then 0 else 1 := by
  by_cases hf : Fits label (at_ + (j : Int)) 0
  · rw [if_pos hf]; exact Fm.err_ok (unit_ok k hu hf)
  · rw [if_neg hf]
    refine Fm.err_arg fun ha => hf ?_
    obtain ⟨h1, h2, -, -⟩ := units_at hu
    obtain ⟨-, -, a, b', c, d⟩ := ha
    exact ⟨⟨by omega, by omega⟩, by omega, by omega⟩
/-- which blocks a part is, and why none -/
def Right (label at_ : Int) (h : Rc.H) (b : Tx) : Prop := (Rc.Ok h ∧ (b.length : Int) = h.len) ∧ Fits label at_ (data b.length + 1)
instance (label at_ : Int) (h : Rc.H) (b : Tx) : Decidable (Right label at_ h b) := by unfold Right; exact inferInstance
def put (label at_ : Int) (h : Rc.H) (b : Tx) : List Tx := if Right label at_ h b then (units label at_ h b).map Fm.blk else []
def err (label at_ : Int) (h : Rc.H) (b : Tx) : Int := if Right label at_ h b then 0 else 1
theorem put_yes {label at_ : Int} {h : Rc.H} {b : Tx} (k : Right label at_ h b) : put label at_ h b = (units label at_ h b).map Fm.blk := if_pos k
theorem put_no {label at_ : Int} {h : Rc.H} {b : Tx} (k : ¬ Right label at_ h b) : put label at_ h b = [] := if_neg k
theorem err_yes {label at_ : Int} {h : Rc.H} {b : Tx} (k : Right label at_ h b) : err label at_ h b = 0 := if_pos k
theorem err_no {label at_ : Int} {h : Rc.H} {b : Tx} (k : ¬ Right label at_ h b) : err label at_ h b = 1 := if_neg k
theorem put_len {label at_ : Int} {h : Rc.H} {b : Tx} (k : Right label at_ h b) : (put label at_ h b).length = data b.length + 2 := by rw [put_yes k, List.length_map, units_len]
/-- how many blocks a part of so many bytes takes -/
def need (n : Int) : Nat := data (min (max n 0) 4000).toNat + 2
theorem need_of {b : Tx} {h : Rc.H} (k : Rc.Ok h) (e : (b.length : Int) = h.len) : need (b.length : Int) = data b.length + 2 := by
  have h1 : h.len ≤ 4000 := by obtain ⟨-, -, -, ⟨_, a⟩, b', c, d, _⟩ := k; omega
  unfold need
  rw [show (min (max (b.length : Int) 0) 4000).toNat = b.length by omega]
/-- a tape on which blocks were laid behind others -/
theorem laid_at {pre : List Tx} {label : Int} {h : Rc.H} {b : Tx} (post : List Tx) (k : Right label (pre.length : Int) h b) {j : Nat} (hj : j < data b.length + 2) :
    ∃ u, (units label (pre.length : Int) h b)[j]? = some u ∧ (pre ++ (put label (pre.length : Int) h b ++ post))[pre.length + j]? = some (Fm.blk u) := by
  have hj' : j < (units label (pre.length : Int) h b).length := by rw [units_len]; exact hj
  refine ⟨_, List.getElem?_eq_getElem hj', ?_⟩
  rw [List.getElem?_append_right (by omega), show pre.length + j - pre.length = j by omega, List.getElem?_append_left (by rw [put_len k]; exact hj), put_yes k, List.getElem?_map, List.getElem?_eq_getElem hj']
  rfl
end Go.Proofs.YtcokmmanajdioaaGreat.Vo
namespace Go.Proofs.YtcokmmanajdioaaGreat.Rc
open Pt (Tx)
open Cd

/-- n numbers, read one behind the other -/
def labsP : Nat → St → List Int
  | 0, _ => []
  | n + 1, s => num (tk 4 s) :: labsP n (af 4 s)
theorem labsP_len : ∀ (n : Nat) (s : St), (labsP n s).length = n
  | 0, _ => rfl
  | n + 1, s => by rw [labsP, List.length_cons, labsP_len n]
theorem labsP_labB : ∀ (l : List Int) (bad : Bool), (∀ x ∈ l, 0 ≤ x ∧ x < 4294967296) → labsP l.length (labB l, bad) = l
  | [], _, _ => rfl
  | x :: l, bad, hx => by
    have h1 := hx x (List.mem_cons_self ..)
    rw [List.length_cons, labsP, labB, tk_app 4 _ _ _ (be4_len x), af_app 4 _ _ _ (be4_len x), num4 h1.1 h1.2, labsP_labB l bad (fun y hy => hx y (List.mem_cons_of_mem _ hy))]
/-- what the program reads -/
def pparse (b : Tx) : S := ⟨num (tk 4 (b, false)), ((byt (r1 b)).toNat : Int), ((byt (r2 b)).toNat : Int), ((byt (r3 b)).toNat : Int), labsP ((byt (r2 b)).toNat + (byt (r3 b)).toNat) (r4 b)⟩
theorem pparse_sblk {s : S} (k : SOk s) : pparse (sblk s) = s := by
  have hf := k.few
  obtain ⟨⟨⟨n0, n1⟩, d0, p0, dp, hl, i0, i1⟩, hx, -⟩ := k
  have e1 : r1 (sblk s) = ([b8 s.index] ++ ([b8 s.data] ++ ([b8 s.parity] ++ labB s.labels)), false) := af_app 4 _ _ _ rfl
  have e2 : r2 (sblk s) = ([b8 s.data] ++ ([b8 s.parity] ++ labB s.labels), false) := by unfold r2; rw [e1]; exact af_app 1 _ _ _ rfl
  have e3 : r3 (sblk s) = ([b8 s.parity] ++ labB s.labels, false) := by unfold r3; rw [e2]; exact af_app 1 _ _ _ rfl
  have e4 : r4 (sblk s) = (labB s.labels, false) := by unfold r4; rw [e3]; exact af_app 1 _ _ _ rfl
  have e0 : tk 4 (sblk s, false) = be4 s.number := tk_app 4 _ _ _ rfl
  have g1 := b8_nat s.index
  have g2 := b8_nat s.data
  have g3 := b8_nat s.parity
  have hn : (b8 s.data).toNat + (b8 s.parity).toNat = s.labels.length := by omega
  unfold pparse
  rw [e0, e1, e2, e3, e4, show byt ([b8 s.index] ++ ([b8 s.data] ++ ([b8 s.parity] ++ labB s.labels)), false) = b8 s.index from byt_cons _ _ _,
    show byt ([b8 s.data] ++ ([b8 s.parity] ++ labB s.labels), false) = b8 s.data from byt_cons _ _ _, show byt ([b8 s.parity] ++ labB s.labels, false) = b8 s.parity from byt_cons _ _ _,
    hn, g1, g2, g3, num4 (by omega) (by omega), labsP_labB s.labels false (fun x h => by have := hx x h; omega), show s.index % 256 = s.index by omega, show s.data % 256 = s.data by omega, show s.parity % 256 = s.parity by omega]
/-- what the program takes is a seal's bytes -/
theorem pgood_iff {b : Tx} : (SOk (pparse b) ∧ sblk (pparse b) = b) ↔ SGood b := by
  constructor
  · rintro ⟨h1, h2⟩
    have e : sparse b = pparse b := by conv => lhs; rw [← h2]
                                       exact sparse_sblk h1
    unfold SGood; rw [e]; exact ⟨h1, h2⟩
  · rintro ⟨h1, h2⟩
    have e : pparse b = sparse b := by conv => lhs; rw [← h2]
                                       exact pparse_sblk h1
    rw [e]; exact ⟨h1, h2⟩
theorem pparse_good {b : Tx} (h : SGood b) : pparse b = sparse b := by
  conv => lhs; rw [← h.2]
  exact pparse_sblk h.1
/-- labels, one more -/
theorem Labs.nil : Labs [] := ⟨(fun _ h => by cases h), List.nodup_nil⟩
theorem labs_snoc {l : List Int} {x : Int} : Labs (l ++ [x]) ↔ Labs l ∧ (1 ≤ x ∧ x ≤ 2147483647) ∧ x ∉ l := by
  unfold Labs
  rw [List.nodup_append]
  constructor
  · rintro ⟨h1, h2, -, h4⟩
    exact ⟨⟨fun y hy => h1 y (List.mem_append_left _ hy), h2⟩, h1 x (List.mem_append_right _ (List.mem_singleton.2 rfl)), fun hm => h4 x hm x (List.mem_singleton.2 rfl) rfl⟩
  · rintro ⟨⟨h1, h2⟩, h3, h4⟩
    refine ⟨fun y hy => ?_, h2, by simp, fun a ha b hb => ?_⟩
    · rcases List.mem_append.1 hy with hy | hy
      · exact h1 y hy
      · rw [List.mem_singleton.1 hy]; exact h3
    · rw [List.mem_singleton.1 hb]; rintro rfl; exact h4 ha
theorem labs_take {l : List Int} {k : Nat} (h : k < l.length) : Labs (l.take (k + 1)) ↔ Labs (l.take k) ∧ (1 ≤ l[k] ∧ l[k] ≤ 2147483647) ∧ l[k] ∉ l.take k := by
  rw [List.take_succ_eq_append_getElem h, labs_snoc]
theorem Labs.prefix {l m : List Int} (h : Labs (l ++ m)) : Labs l :=
  ⟨fun y hy => h.1 y (List.mem_append_left _ hy), (List.nodup_append.1 h.2).1⟩
theorem labs_bad {l : List Int} {k : Nat} (h : ¬ Labs (l.take k)) : ¬ Labs l := fun hl => h (Labs.prefix (m := l.drop k) (by rw [List.take_append_drop]; exact hl))
theorem labs_step_no {l : List Int} {k : Nat} (hk : k < l.length) (h : ¬ ((1 ≤ l[k] ∧ l[k] ≤ 2147483647) ∧ l[k] ∉ l.take k)) : ¬ Labs l :=
  labs_bad (k := k + 1) fun h' => h ((labs_take hk).1 h').2
/-- what the document's own reads, round by round -/
theorem labs_more {n : Nat} {b : Tx} (h : ¬ b.length < 4) : labs (n + 1) b = num (b.take 4) :: labs n (b.drop 4) := by rw [labs, if_neg h]
theorem labs_end {n : Nat} {b : Tx} (h : n = 0 ∨ b.length < 4) : labs n b = [] := by
  cases n with
  | zero => rfl
  | succ n => rw [labs, if_pos (by omega)]
end Go.Proofs.YtcokmmanajdioaaGreat.Rc
namespace Go.Proofs.YtcokmmanajdioaaGreat.Gr
open Pt (Tx)

/-- a tape, without how many blocks fit -/
def vo (t : St.T) : Vo.T := ⟨t.label, t.blocks, t.lost⟩
/-- the seal that a tape ends with -/
def sealed (t : St.T) : Option Rc.S :=
  match Vo.good (vo t) (t.blocks.length - 1) with
  | none => none
  | some u => if u.kind = 5 ∧ Rc.SGood u.load then some (Rc.sparse u.load) else none
/-- .. if the tape has the label that stands at its index -/
def cand (t : St.T) : Option Rc.S :=
  match sealed t with
  | none => none
  | some s => if s.labels.getD s.index.toNat 0 = t.label then some s else none
/-- a seal among those that rise by number, if none has its number -/
def ins (s : Rc.S) : List Rc.S → List Rc.S
  | [] => [s]
  | a :: l => if a.number < s.number then a :: ins s l else if a.number = s.number then a :: l else s :: a :: l
def all (cs : List Rc.S) : List Rc.S := cs.foldl (fun out s => ins s out) []
def cands (l : List St.T) : List Rc.S := l.filterMap cand
def find (l : List St.T) : List Rc.S := all (cands l)
theorem all_snoc (cs : List Rc.S) (s : Rc.S) : all (cs ++ [s]) = ins s (all cs) := by unfold all; rw [List.foldl_append]; rfl
theorem cands_snoc (l : List St.T) (t : St.T) : cands (l ++ [t]) = cands l ++ (match cand t with | none => [] | some s => [s]) := by
  unfold cands
  rw [List.filterMap_append]
  congr 1
  cases h : cand t <;> simp [h]
theorem find_none {l : List St.T} {t : St.T} (h : cand t = none) : find (l ++ [t]) = find l := by
  unfold find; rw [cands_snoc, h, List.append_nil]
theorem find_some {l : List St.T} {t : St.T} {s : Rc.S} (h : cand t = some s) : find (l ++ [t]) = ins s (find l) := by
  unfold find; rw [cands_snoc, h, all_snoc]
/-- they rise, each number once -/
def Up (l : List Rc.S) : Prop := l.Pairwise fun a b => a.number < b.number
theorem mem_ins {s x : Rc.S} : ∀ {l : List Rc.S}, x ∈ ins s l → x = s ∨ x ∈ l
  | [], h => by rw [ins] at h; exact .inl (List.mem_singleton.1 h)
  | a :: l, h => by
    rw [ins] at h
    split at h
    · rcases List.mem_cons.1 h with rfl | h
      · exact .inr List.mem_cons_self
      · exact (mem_ins h).imp id (List.mem_cons_of_mem _)
    · split at h
      · exact .inr h
      · rcases List.mem_cons.1 h with rfl | h
        · exact .inl rfl
        · exact .inr h
theorem ins_old {s x : Rc.S} : ∀ {l : List Rc.S}, x ∈ l → x ∈ ins s l
  | [], h => by cases h
  | a :: l, h => by
    rw [ins]
    split
    · rcases List.mem_cons.1 h with rfl | h
      · exact List.mem_cons_self
      · exact List.mem_cons_of_mem _ (ins_old h)
    · split
      · exact h
      · exact List.mem_cons_of_mem _ h
theorem ins_new {s : Rc.S} : ∀ {l : List Rc.S}, (∀ a ∈ l, a.number ≠ s.number) → s ∈ ins s l
  | [], _ => List.mem_singleton.2 rfl
  | a :: l, h => by
    rw [ins]
    split
    · exact List.mem_cons_of_mem _ (ins_new fun b hb => h b (List.mem_cons_of_mem _ hb))
    · rw [if_neg (h a List.mem_cons_self)]; exact List.mem_cons_self
theorem ins_up {s : Rc.S} : ∀ {l : List Rc.S}, Up l → Up (ins s l)
  | [], _ => List.pairwise_singleton _ _
  | a :: l, h => by
    obtain ⟨h1, h2⟩ := List.pairwise_cons.1 h
    rw [ins]
    split
    · refine List.pairwise_cons.2 ⟨fun b hb => ?_, ins_up h2⟩
      rcases mem_ins hb with rfl | hb
      · assumption
      · exact h1 b hb
    · split
      · exact h
      · refine List.pairwise_cons.2 ⟨fun b hb => ?_, h⟩
        rcases List.mem_cons.1 hb with rfl | hb
        · omega
        · have := h1 b hb; omega
/-- one with that number is there: nothing is turned -/
theorem ins_same {s : Rc.S} : ∀ {l : List Rc.S}, Up l → (∃ a ∈ l, a.number = s.number) → ins s l = l
  | [], _, h => by obtain ⟨a, ha, _⟩ := h; cases ha
  | a :: l, hu, h => by
    obtain ⟨h1, h2⟩ := List.pairwise_cons.1 hu
    rw [ins]
    split
    · rename_i hlt
      obtain ⟨b, hb, e⟩ := h
      rcases List.mem_cons.1 hb with rfl | hb
      · omega
      · rw [ins_same h2 ⟨b, hb, e⟩]
    · split
      · rfl
      · obtain ⟨b, hb, e⟩ := h
        rcases List.mem_cons.1 hb with rfl | hb
        · omega
        · have := h1 b hb; omega
theorem all_up (cs : List Rc.S) : Up (all cs) := by
  have key : ∀ (cs out : List Rc.S), Up out → Up (cs.foldl (fun out s => ins s out) out) := by
    intro cs
    induction cs with
    | nil => intro out h; exact h
    | cons s cs ih => intro out h; exact ih _ (ins_up h)
  exact key cs [] List.Pairwise.nil
theorem up_inj {l : List Rc.S} (h : Up l) {a b : Rc.S} (ha : a ∈ l) (hb : b ∈ l) (e : a.number = b.number) : a = b := by
  induction l with
  | nil => cases ha
  | cons c l ih =>
    obtain ⟨h1, h2⟩ := List.pairwise_cons.1 h
    rcases List.mem_cons.1 ha with rfl | ha' <;> rcases List.mem_cons.1 hb with rfl | hb'
    · rfl
    · have := h1 b hb'; omega
    · have := h1 a ha'; omega
    · exact ih h2 ha' hb'
/-- just the first of each number is among them -/
def First (cs : List Rc.S) (x : Rc.S) : Prop := ∃ i, ∃ h : i < cs.length, cs[i] = x ∧ ∀ k (hk : k < i), cs[k].number ≠ x.number
theorem first_snoc {cs : List Rc.S} {s x : Rc.S} : First (cs ++ [s]) x ↔ First cs x ∨ (x = s ∧ ∀ a ∈ cs, a.number ≠ s.number) := by
  constructor
  · rintro ⟨i, hi, e, hk⟩
    rcases Nat.lt_or_ge i cs.length with h | h
    · rw [List.getElem_append_left h] at e
      refine .inl ⟨i, h, e, fun k hki => ?_⟩
      have := hk k hki
      rwa [List.getElem_append_left (by omega)] at this
    · have hi' : i = cs.length := by simp at hi; omega
      subst hi'
      rw [List.getElem_concat_length rfl] at e
      refine .inr ⟨e.symm, fun a ha => ?_⟩
      obtain ⟨k, hk', rfl⟩ := List.mem_iff_getElem.1 ha
      have := hk k hk'
      rw [List.getElem_append_left hk', ← e] at this
      exact this
  · rintro (⟨i, h, e, hk⟩ | ⟨rfl, h⟩)
    · refine ⟨i, by simp; omega, by rw [List.getElem_append_left h]; exact e, fun k hki => ?_⟩
      rw [List.getElem_append_left (by omega)]
      exact hk k hki
    · refine ⟨cs.length, by simp, by rw [List.getElem_concat_length rfl], fun k hki => ?_⟩
      rw [List.getElem_append_left hki]
      exact h _ (List.getElem_mem hki)
theorem first_of {cs : List Rc.S} {a : Rc.S} (h : a ∈ cs) : ∃ x, First cs x ∧ x.number = a.number := by
  have key : ∀ n, ∀ i (hi : i < cs.length), i < n → ∃ x, First cs x ∧ x.number = cs[i].number := by
    intro n
    induction n with
    | zero => intro i _ h; omega
    | succ n ih =>
      intro i hi hin
      by_cases hx : ∀ k (hk : k < i), cs[k].number ≠ cs[i].number
      · exact ⟨cs[i], ⟨i, hi, rfl, hx⟩, rfl⟩
      · rw [Classical.not_forall] at hx
        obtain ⟨k, hk⟩ := hx
        rw [Classical.not_forall] at hk
        obtain ⟨hki, he⟩ := hk
        obtain ⟨x, h1, h2⟩ := ih k (by omega) (by omega)
        exact ⟨x, h1, h2.trans (Classical.not_not.1 he)⟩
  obtain ⟨i, hi, rfl⟩ := List.mem_iff_getElem.1 h
  exact key (i + 1) i hi (Nat.lt_succ_self i)
theorem First.mem {cs : List Rc.S} {x : Rc.S} (h : First cs x) : x ∈ cs := by
  obtain ⟨i, hi, rfl, _⟩ := h
  exact List.getElem_mem hi
theorem mem_all (cs : List Rc.S) (x : Rc.S) : x ∈ all cs ↔ First cs x := by
  have key : ∀ n (cs : List Rc.S), cs.length = n → ∀ x, x ∈ all cs ↔ First cs x := by
    intro n
    induction n with
    | zero =>
      intro cs h x
      rw [List.length_eq_zero_iff.1 h]
      exact ⟨(fun h => by cases h), fun ⟨i, hi, _⟩ => absurd hi (by simp)⟩
    | succ n ih =>
      intro cs h x
      obtain ⟨cs', s, rfl⟩ : ∃ cs' s, cs = cs' ++ [s] := by
        refine ⟨cs.dropLast, cs.getLast (by intro e; rw [e] at h; cases h), (List.dropLast_concat_getLast _).symm⟩
      have ih' := ih cs' (by simpa using h)
      rw [all_snoc, first_snoc]
      by_cases hs : ∃ a ∈ all cs', a.number = s.number
      · rw [ins_same (all_up cs') hs, ih' x]
        refine ⟨.inl, fun h => h.elim id fun ⟨_, h⟩ => ?_⟩
        obtain ⟨a, ha, e⟩ := hs
        exact absurd e (h a ((ih' a).1 ha).mem)
      · have hno : ∀ a ∈ cs', a.number ≠ s.number := fun a ha e => by
          obtain ⟨y, h1, h2⟩ := first_of ha
          exact hs ⟨y, (ih' y).2 h1, h2.trans e⟩
        constructor
        · intro h
          rcases mem_ins h with rfl | h
          · exact .inr ⟨rfl, hno⟩
          · exact .inl ((ih' x).1 h)
        · rintro (h | ⟨rfl, _⟩)
          · exact ins_old ((ih' x).2 h)
          · exact ins_new fun a ha => hno a ((ih' a).1 ha).mem
  exact key cs.length cs rfl x
/-- what rises and has the same ones is the same -/
theorem up_ext : ∀ {l m : List Rc.S}, Up l → Up m → (∀ x, x ∈ l ↔ x ∈ m) → l = m
  | [], [], _, _, _ => rfl
  | [], b :: m, _, _, h => by have := (h b).2 List.mem_cons_self; cases this
  | a :: l, [], _, _, h => by have := (h a).1 List.mem_cons_self; cases this
  | a :: l, b :: m, hl, hm, h => by
    obtain ⟨h1, h2⟩ := List.pairwise_cons.1 hl
    obtain ⟨h3, h4⟩ := List.pairwise_cons.1 hm
    have e : a = b := by
      have ha := (h a).1 List.mem_cons_self
      have hb := (h b).2 List.mem_cons_self
      rcases List.mem_cons.1 ha with rfl | ha'
      · rfl
      · rcases List.mem_cons.1 hb with rfl | hb'
        · rfl
        · have := h1 b hb'; have := h3 a ha'; omega
    subst e
    congr 1
    refine up_ext h2 h4 fun x => ⟨fun hx => ?_, fun hx => ?_⟩
    · rcases List.mem_cons.1 ((h x).1 (List.mem_cons_of_mem _ hx)) with rfl | h'
      · have := h1 x hx; omega
      · exact h'
    · rcases List.mem_cons.1 ((h x).2 (List.mem_cons_of_mem _ hx)) with rfl | h'
      · have := h3 x hx; omega
      · exact h'
/-- where all have one number, the first alone is told -/
theorem all_one {cs : List Rc.S} {n : Int} (h : ∀ s ∈ cs, s.number = n) : all cs = cs.take 1 := by
  cases cs with
  | nil => rfl
  | cons a cs =>
    refine up_ext (all_up _) (List.pairwise_singleton _ _) fun x => ?_
    rw [mem_all]
    show _ ↔ x ∈ [a]
    rw [List.mem_singleton]
    constructor
    · rintro ⟨i, hi, e, hk⟩
      rcases Nat.eq_zero_or_pos i with h0 | h0
      · subst h0; exact e.symm
      · have h1 := hk 0 h0
        have h2 := h a List.mem_cons_self
        have h3 : x.number = n := by rw [← e]; exact h _ (List.getElem_mem hi)
        exact absurd (h2.trans h3.symm) h1
    · rintro rfl
      exact ⟨0, by simp, rfl, fun k hk => absurd hk (by omega)⟩
/-- the first that has the label -/
def of (l : List Rc.S) (label : Int) : Option Rc.S := l.find? fun s => decide (label ∈ s.labels)
/-- what a tape needs to end with a seal -/
theorem sealed_some {t : St.T} {s : Rc.S} (hl : t.lost = false) (hs : Rc.SOk s) {pre : List Tx} (hb : t.blocks = pre ++ [Fm.blk ⟨5, t.label, (pre.length : Int), Rc.sblk s⟩]) (h1 : 1 ≤ t.label ∧ t.label ≤ 2147483647) (h2 : (pre.length : Int) ≤ 2147483647) : sealed t = some s := by
  have hok : Fm.Ok ⟨5, t.label, (pre.length : Int), Rc.sblk s⟩ := by
    refine ⟨⟨(by decide : (1 : Int) ≤ 5), (by decide : (5 : Int) ≤ 6), h1.1, h1.2, Int.natCast_nonneg _, h2⟩, ?_⟩
    show (Rc.sblk s).length ≤ Fm.room 5
    rw [Rc.sblk_len]
    have := hs.few
    show _ ≤ 64
    omega
  have hlen : t.blocks.length - 1 = pre.length := by rw [hb]; simp
  have hg : Vo.good (vo t) pre.length = some ⟨5, t.label, (pre.length : Int), Rc.sblk s⟩ :=
    Vo.good_at (t := vo t) (n := pre.length) hl (by show t.blocks[pre.length]? = _; rw [hb, List.getElem?_append_right (Nat.le_refl _), Nat.sub_self]; rfl) hok rfl rfl
  unfold sealed
  rw [hlen, hg]
  show (if (5 : Int) = 5 ∧ Rc.SGood (Rc.sblk s) then some (Rc.sparse (Rc.sblk s)) else none) = some s
  rw [if_pos ⟨rfl, Rc.sgood_blk hs⟩, Rc.sparse_sblk hs]
theorem sealed_lost {t : St.T} (h : t.lost = true) : sealed t = none := by
  unfold sealed; rw [Vo.good_lost (t := vo t) h]
theorem sealed_bad {t : St.T} (h : Vo.good (vo t) (t.blocks.length - 1) = none) : sealed t = none := by
  unfold sealed; rw [h]
theorem sealed_kind {t : St.T} {u : Fm.U} (h : Vo.good (vo t) (t.blocks.length - 1) = some u) (hk : u.kind ≠ 5) : sealed t = none := by
  unfold sealed; rw [h]; exact if_neg fun h => hk h.1
theorem sealed_ok {t : St.T} {s : Rc.S} (h : sealed t = some s) : Rc.SOk s := by
  unfold sealed at h
  split at h
  · cases h
  · split at h
    · rename_i u _ hu
      cases h
      exact hu.2.1
    · cases h
theorem cand_some {t : St.T} {s : Rc.S} (h : sealed t = some s) (hl : s.labels.getD s.index.toNat 0 = t.label) : cand t = some s := by
  unfold cand; rw [h]; exact if_pos hl
theorem cand_none {t : St.T} (h : sealed t = none) : cand t = none := by unfold cand; rw [h]
theorem cand_ok {t : St.T} {s : Rc.S} (h : cand t = some s) : Rc.SOk s := by
  unfold cand at h
  split at h
  · cases h
  · rename_i s' hs
    split at h
    · cases h; exact sealed_ok hs
    · cases h
/-- the seal of a group, of its member number i -/
def sealOf (data blank : List St.T) (number : Int) (i : Nat) : Rc.S := ⟨number, (i : Int), (data.length : Int), (blank.length : Int), (data ++ blank).map St.T.label⟩
/-- block n of a tape is not good -/
def Bad (data : List St.T) : Prop := St.len data = 0 ∨ ∃ t ∈ data, ∃ n, n < t.blocks.length ∧ Vo.good (vo t) n = none
def Lost (l : List St.T) : Prop := ∃ t ∈ l, t.lost = true
open Classical in
/-- why no parity tapes are made, or 0 -/
noncomputable def err (data blank : List St.T) (number : Int) : Int :=
  if ¬ Rc.SOk (sealOf data blank number 0) ∨ Lost (data ++ blank) ∨ Bad data then 1
  else if ∃ t ∈ blank, t.blocks ≠ [] then 11
  else if ∃ t ∈ blank, t.cap < (St.len data : Int) + 2 then 6
  else St.err data (blank.length : Int)
theorem sealOk_index {data blank : List St.T} {number : Int} {i : Nat} (h : Rc.SOk (sealOf data blank number 0)) (hi : i < data.length + blank.length) : Rc.SOk (sealOf data blank number i) := by
  obtain ⟨⟨h1, h2, h3, h4, h5, _, _⟩, h8⟩ := h
  refine ⟨⟨h1, h2, h3, h4, h5, Int.natCast_nonneg _, ?_⟩, h8⟩
  show (i : Int) < (((data ++ blank).map St.T.label).length : Int)
  rw [List.length_map, List.length_append]; omega
end Go.Proofs.YtcokmmanajdioaaGreat.Gr
namespace Go.Proofs.YtcokmmanajdioaaGreat.Me
open Go.RowKit Go.Proofs.YtcokmmanajdioaaGreat
open Pt (Tx)

/-- the tape of that label; none: as one that is lost -/
def first (ts : List St.T) (lab : Int) : St.T := (ts.find? fun t => decide (t.label = lab)).getD ⟨lab, 0, [], true⟩
/-- a row of a data member; no bytes: it is missing -/
def dataRow (t : St.T) (n : Nat) : Tx :=
  if t.lost = false ∧ t.blocks.length ≤ n then St.zeros
  else if (Vo.good (Gr.vo t) n).isSome = true ∧ (t.blocks.getD n []).length = 79 then t.blocks.getD n [] else []
/-- a row of a parity member; no bytes: it is missing -/
def load6 (o : Option Fm.U) : Tx :=
  match o with
  | none => []
  | some u => if u.kind = 6 ∧ u.load.length = 79 then u.load else []
def parityRow (t : St.T) (n : Nat) : Tx := load6 (Vo.good (Gr.vo t) (n + 1))
/-- the rows that are there -/
def have_ (ms : List St.T) (d n : Nat) (i : Nat) : Tx := if i < d then dataRow (ms.getD i ⟨0, 0, [], true⟩) n else parityRow (ms.getD i ⟨0, 0, [], true⟩) n
theorem dataRow_len (t : St.T) (n : Nat) : (dataRow t n).length = 0 ∨ (dataRow t n).length = 79 := by
  unfold dataRow
  split
  · exact .inr St.zeros_len
  · split
    · rename_i h; exact .inr h.2
    · exact .inl rfl
theorem parityRow_len (t : St.T) (n : Nat) : (parityRow t n).length = 0 ∨ (parityRow t n).length = 79 := by
  unfold parityRow load6
  split
  · exact .inl rfl
  · split
    · rename_i h; exact .inr h.2
    · exact .inl rfl
theorem have_len (ms : List St.T) (d n i : Nat) : (have_ ms d n i).length = 0 ∨ (have_ ms d n i).length = 79 := by
  unfold have_
  split
  · exact dataRow_len _ _
  · exact parityRow_len _ _
/-- how many rows the parity members tell of -/
def rows : List St.T → Option Nat
  | [] => none
  | t :: l => if (Gr.sealed t).isSome = true then (if t.blocks.length < 2 then none else some (t.blocks.length - 2)) else rows l
end Go.Proofs.YtcokmmanajdioaaGreat.Me
namespace Go.Proofs.YtcokmmanajdioaaGreat
open Go.RowKit
open Pt (Tx)

/-- the slice at A of slices reads as these texts, all in blocks of G -/
def RdB (w : World) (A : Option Addr) (bs : List Tx) (G : Nat → Prop) : Prop :=
  0 < bs.length → ∃ b off, A = some ⟨b, off, none⟩ ∧ G b ∧ ∀ i (hi : i < bs.length), ∃ A' C', w.cell? ⟨b, off + i, none⟩ = some (.slice A' bs[i].length C') ∧ bs[i].length ≤ C' ∧ (A' = none → bs[i].length = 0 ∧ C' = 0) ∧ RdL w A' bs[i] G
namespace RdB
variable {w w' : World} {A : Option Addr} {bs : List Tx} {G G' S : Nat → Prop}
theorem empty (w : World) (A : Option Addr) (G : Nat → Prop) : RdB w A [] G := fun h => absurd h (by simp)
theorem keep (h : RdB w A bs G) (hk : ∀ p v, G p.block → w.cell? p = some v → w'.cell? p = some v) : RdB w' A bs G := by
  intro hn
  obtain ⟨b, off, e, hg, hc⟩ := h hn
  refine ⟨b, off, e, hg, fun i hi => ?_⟩
  obtain ⟨A', C', h1, h2, h3, h4⟩ := hc i hi
  exact ⟨A', C', hk _ _ hg h1, h2, h3, h4.keep hk⟩
theorem mono (h : RdB w A bs G) (hg : ∀ b, G b → G' b) : RdB w A bs G' := by
  intro hn
  obtain ⟨b, off, e, hg', hc⟩ := h hn
  refine ⟨b, off, e, hg _ hg', fun i hi => ?_⟩
  obtain ⟨A', C', h1, h2, h3, h4⟩ := hc i hi
  exact ⟨A', C', h1, h2, h3, h4.mono hg⟩
theorem kp (h : RdB w A bs G) (hk : Kp S w w') (hs : ∀ b, G b → ¬ S b) : RdB w' A bs G := h.keep fun _ _ hg hc => hk.cell hc (hs _ hg)
theorem old (h : RdB w A bs G) (hb : Below w.heap.size w w') : RdB w' A bs G := h.keep fun _ _ _ hc => (hb.cell (World.block_lt_of_cell? _ _ hc)).trans hc
theorem below {B : Nat} (h : RdB w A bs (· < B)) (hb : Below B w w') : RdB w' A bs (· < B) := h.keep fun _ _ hg hc => (hb.cell hg).trans hc
theorem in_ (h : RdB w A bs G) : RdB w A bs (fun b => G b ∧ b < w.heap.size) := by
  intro hn
  obtain ⟨b, off, e, hg, hc⟩ := h hn
  refine ⟨b, off, e, ⟨hg, ?_⟩, fun i hi => ?_⟩
  · obtain ⟨_, _, h1, _⟩ := hc 0 hn
    exact World.block_lt_of_cell? _ _ h1
  · obtain ⟨A', C', h1, h2, h3, h4⟩ := hc i hi
    exact ⟨A', C', h1, h2, h3, h4.in_⟩
theorem at_ (h : RdB w A bs G) {i : Nat} (hi : i < bs.length) : ∃ b off A' C', A = some ⟨b, off, none⟩ ∧ G b ∧ w.cell? ⟨b, off + i, none⟩ = some (.slice A' bs[i].length C') ∧ bs[i].length ≤ C' ∧ (A' = none → bs[i].length = 0 ∧ C' = 0) ∧ RdL w A' bs[i] G := by
  obtain ⟨b, off, e, hg, hc⟩ := h (by omega)
  obtain ⟨A', C', h1, h2, h3, h4⟩ := hc i hi
  exact ⟨b, off, A', C', e, hg, h1, h2, h3, h4⟩
end RdB
/-- a tape as the value that is handed on -/
def tape (lab cap : Int) (A : Option Addr) (n C : Nat) (lost : Bool) : Value := .agg #[.int .i64 lab, .int .i64 cap, .slice A n C, .bool lost]
end Go.Proofs.YtcokmmanajdioaaGreat
