/- Chapter 12's plans: how much fits, who takes how much, and what holds of whatever plan there is. No program. -/
import Derived.Lib.Hide
namespace Go.Proofs.YtndofmoepjfnfaaDoor.Sp

/-- how many bytes a part may have in so many blocks -/
def fits (r : Int) : Int := if r < 3 then 0 else if 1099511627776 < r then 64 * (1099511627776 - 2) else 64 * (r - 2)
theorem fits_lo (r : Int) : 0 ≤ fits r := by unfold fits; split; exact Int.le_refl _; split <;> omega
theorem fits_hi (r : Int) : fits r ≤ 70368744177536 := by unfold fits; split; decide; split <;> omega
theorem fits_small {r : Int} (h : r < 3) : fits r = 0 := if_pos h
/-- a piece: on which tape, from where, how long -/
structure P where
  tape : Nat
  from_ : Int
  len : Int
/-- what the tapes from tape i on take, when so much has been taken -/
def go (size : Int) : List Int → Nat → Int → List P
  | [], _, _ => []
  | r :: rs, i, at_ => if 0 < min (fits r) (size - at_) then ⟨i, at_, min (fits r) (size - at_)⟩ :: go size rs (i + 1) (at_ + min (fits r) (size - at_)) else go size rs (i + 1) at_
/-- how much is taken behind them all -/
def upto (size : Int) : List Int → Int → Int
  | [], at_ => at_
  | r :: rs, at_ => upto size rs (at_ + max 0 (min (fits r) (size - at_)))
/-- how much fits on all -/
def sum : List Int → Int
  | [] => 0
  | r :: rs => fits r + sum rs
theorem sum_lo : ∀ l : List Int, 0 ≤ sum l
  | [] => Int.le_refl _
  | r :: rs => by have := sum_lo rs; have := fits_lo r; rw [sum]; omega
theorem sum_snoc : ∀ (l : List Int) (r : Int), sum (l ++ [r]) = sum l + fits r
  | [], r => by simp [sum]
  | a :: l, r => by rw [List.cons_append, sum, sum, sum_snoc l r]; omega
theorem sum_take {l : List Int} {k : Nat} (h : k < l.length) : sum (l.take (k + 1)) = sum (l.take k) + fits l[k] := by
  rw [List.take_succ_eq_append_getElem h, sum_snoc]
theorem upto_eq {size : Int} : ∀ (l : List Int) (at_ : Int), 0 ≤ at_ → at_ ≤ size → upto size l at_ = min size (at_ + sum l)
  | [], at_, _, h => by rw [upto, sum]; omega
  | r :: rs, at_, h0, h => by
    have h1 := fits_lo r
    have h2 := sum_lo rs
    rw [upto, upto_eq rs _ (by omega) (by omega), sum]
    omega
theorem upto_snoc {size : Int} : ∀ (l : List Int) (r at_ : Int), upto size (l ++ [r]) at_ = upto size l at_ + max 0 (min (fits r) (size - upto size l at_))
  | [], _, _ => rfl
  | a :: l, r, at_ => by rw [List.cons_append, upto, upto, upto_snoc l r]
theorem go_snoc {size : Int} : ∀ (l : List Int) (r : Int) (i : Nat) (at_ : Int), go size (l ++ [r]) i at_ = go size l i at_ ++ (if 0 < min (fits r) (size - upto size l at_) then [⟨i + l.length, upto size l at_, min (fits r) (size - upto size l at_)⟩] else [])
  | [], r, i, at_ => by
    rw [List.nil_append, go, go, upto, List.nil_append]
    rfl
  | a :: l, r, i, at_ => by
    rw [List.cons_append, go, go, upto]
    by_cases h : 0 < min (fits a) (size - at_)
    · rw [if_pos h, if_pos h, go_snoc l r (i + 1), List.cons_append, show max 0 (min (fits a) (size - at_)) = min (fits a) (size - at_) by omega, List.length_cons, show i + 1 + l.length = i + (l.length + 1) by omega]
    · rw [if_neg h, if_neg h, go_snoc l r (i + 1), show at_ + max 0 (min (fits a) (size - at_)) = at_ by omega, List.length_cons, show i + 1 + l.length = i + (l.length + 1) by omega]
/-- the plan of a file of at least one byte -/
def plan (rooms : List Int) (size : Int) : List P := if upto size rooms 0 < size then [] else go size rooms 0 0
def err (rooms : List Int) (size : Int) : Int := if upto size rooms 0 < size then 7 else 0
theorem err_zero {rooms : List Int} {size : Int} (h1 : 1 ≤ size) : err rooms size = 0 ↔ size ≤ sum rooms := by
  unfold err
  rw [upto_eq rooms 0 (Int.le_refl _) (by omega)]
  split <;> omega
theorem err_or (rooms : List Int) (size : Int) : err rooms size = 0 ∨ err rooms size = 7 := by unfold err; split; exact .inr rfl; exact .inl rfl
theorem plan_err {rooms : List Int} {size : Int} (h : err rooms size ≠ 0) : plan rooms size = [] := by
  unfold err at h; unfold plan
  split
  · rfl
  · rename_i h'; rw [if_neg h'] at h; exact absurd rfl h
/-- what holds of a plan, piece by piece -/
def Valid (rooms : List Int) (size : Int) : Nat → Int → List P → Prop
  | _, at_, [] => at_ = size
  | next, at_, p :: ps => next ≤ p.tape ∧ p.from_ = at_ ∧ 1 ≤ p.len ∧ (∃ h : p.tape < rooms.length, p.len ≤ fits rooms[p.tape] ∧ (ps ≠ [] → p.len = fits rooms[p.tape])) ∧ (∀ k (h : k < rooms.length), next ≤ k → k < p.tape → fits rooms[k] ≤ 0) ∧ Valid rooms size (p.tape + 1) (at_ + p.len) ps
theorem go_done {size : Int} : ∀ (rs : List Int) (i : Nat), go size rs i size = []
  | [], _ => rfl
  | r :: rs, i => by
    have := fits_lo r
    rw [go, if_neg (by omega), go_done rs]
theorem go_valid {size : Int} {rooms : List Int} : ∀ (rs pre : List Int) (next : Nat) (at_ : Int), rooms = pre ++ rs → next ≤ pre.length → (∀ k (h : k < rooms.length), next ≤ k → k < pre.length → fits rooms[k] ≤ 0) → 0 ≤ at_ → at_ ≤ size → upto size rs at_ = size → Valid rooms size next at_ (go size rs pre.length at_)
  | [], pre, next, at_, _, _, _, _, _, hu => by rw [go]; exact hu
  | r :: rs, pre, next, at_, he, hn, hk, h0, h1, hu => by
    have hlen : pre.length < rooms.length := by rw [he, List.length_append, List.length_cons]; omega
    have hget : rooms[pre.length] = r := by
      have : rooms[pre.length]? = some r := by rw [he, List.getElem?_append_right (Nat.le_refl _), Nat.sub_self]; rfl
      rw [List.getElem?_eq_getElem hlen] at this
      exact Option.some.inj this
    have he' : rooms = (pre ++ [r]) ++ rs := by rw [he, List.append_assoc]; rfl
    have hl' : (pre ++ [r]).length = pre.length + 1 := by rw [List.length_append]; rfl
    have hf := fits_lo r
    rw [upto] at hu
    rw [go]
    by_cases hp : 0 < min (fits r) (size - at_)
    · rw [if_pos hp]
      rw [show max 0 (min (fits r) (size - at_)) = min (fits r) (size - at_) by omega] at hu
      refine ⟨hn, rfl, by show 1 ≤ min (fits r) (size - at_); omega, ⟨hlen, ?_, ?_⟩, hk, ?_⟩
      · show min (fits r) (size - at_) ≤ fits rooms[pre.length]
        rw [hget]; omega
      · intro hne
        show min (fits r) (size - at_) = fits rooms[pre.length]
        rw [hget]
        rcases Int.le_total (fits r) (size - at_) with hle | hle
        · omega
        · exfalso
          have e : at_ + min (fits r) (size - at_) = size := by omega
          rw [e, go_done] at hne
          exact hne rfl
      · show Valid rooms size (pre.length + 1) (at_ + min (fits r) (size - at_)) (go size rs (pre.length + 1) (at_ + min (fits r) (size - at_)))
        rw [← hl']
        refine go_valid rs (pre ++ [r]) _ _ he' (by omega) (fun k h h2 h3 => by omega) (by omega) (by omega) hu
    · rw [if_neg hp]
      rw [show at_ + max 0 (min (fits r) (size - at_)) = at_ by omega] at hu
      rw [← hl']
      rcases Int.le_total at_ size with _ | _ <;> rcases Int.lt_or_le at_ size with hlt | hge
      all_goals first
        | (refine go_valid rs (pre ++ [r]) next at_ he' (by omega) (fun k h h2 h3 => ?_) h0 h1 hu
           rcases Nat.lt_or_ge k pre.length with hkl | hkl
           · exact hk k h h2 hkl
           · have hke : k = pre.length := by omega
             subst hke
             rw [hget]; omega)
        | (have e : at_ = size := by omega
           rw [e, go_done]; rfl)
theorem plan_valid {rooms : List Int} {size : Int} (h1 : 1 ≤ size) (h : err rooms size = 0) : Valid rooms size 0 0 (plan rooms size) := by
  have hs := (err_zero h1).1 h
  unfold plan
  have hu : upto size rooms 0 = size := by rw [upto_eq rooms 0 (Int.le_refl _) (by omega)]; omega
  rw [if_neg (by rw [hu]; omega)]
  exact go_valid rooms [] 0 0 rfl (Nat.le_refl _) (fun k _ _ h => absurd h (Nat.not_lt_zero k)) (Int.le_refl _) (by omega) hu
theorem upto_append {size : Int} : ∀ (l l' : List Int) (at_ : Int), upto size (l ++ l') at_ = upto size l' (upto size l at_)
  | [], _, _ => rfl
  | a :: l, l', at_ => by rw [List.cons_append, upto, upto, upto_append l l']
theorem go_append {size : Int} : ∀ (l l' : List Int) (i : Nat) (at_ : Int), go size (l ++ l') i at_ = go size l i at_ ++ go size l' (i + l.length) (upto size l at_)
  | [], l', i, at_ => by rw [List.nil_append, go, upto, List.nil_append]; rfl
  | a :: l, l', i, at_ => by
    rw [List.cons_append, go, go, upto]
    by_cases h : 0 < min (fits a) (size - at_)
    · rw [if_pos h, if_pos h, go_append l l' (i + 1), List.cons_append, show max 0 (min (fits a) (size - at_)) = min (fits a) (size - at_) by omega, List.length_cons, show i + 1 + l.length = i + (l.length + 1) by omega]
    · rw [if_neg h, if_neg h, go_append l l' (i + 1), show at_ + max 0 (min (fits a) (size - at_)) = at_ by omega, List.length_cons, show i + 1 + l.length = i + (l.length + 1) by omega]
theorem upto_done {size : Int} : ∀ l : List Int, upto size l size = size
  | [] => rfl
  | r :: rs => by have := fits_lo r; rw [upto, show size + max 0 (min (fits r) (size - size)) = size by omega, upto_done rs]
/-- when the file is at its end behind some tapes, they are the plan -/
theorem plan_found {rooms : List Int} {size : Int} {k : Nat} (h : upto size (rooms.take k) 0 = size) : plan rooms size = go size (rooms.take k) 0 0 ∧ err rooms size = 0 := by
  have e : upto size rooms 0 = size := by
    rw [← List.take_append_drop k rooms, upto_append, h, upto_done]
  refine ⟨?_, ?_⟩
  · unfold plan
    rw [e, if_neg (Int.lt_irrefl _)]
    conv => lhs; rw [← List.take_append_drop k rooms]
    rw [go_append, h, go_done, List.append_nil]
  · unfold err
    rw [e, if_neg (Int.lt_irrefl _)]
theorem plan_none {rooms : List Int} {size : Int} (h : upto size rooms 0 < size) : plan rooms size = [] ∧ err rooms size = 7 := ⟨if_pos h, if_pos h⟩
theorem take_next {rooms : List Int} {size : Int} {k : Nat} (h : k < rooms.length) : upto size (rooms.take (k + 1)) 0 = upto size (rooms.take k) 0 + max 0 (min (fits rooms[k]) (size - upto size (rooms.take k) 0))
    ∧ go size (rooms.take (k + 1)) 0 0 = go size (rooms.take k) 0 0 ++ (if 0 < min (fits rooms[k]) (size - upto size (rooms.take k) 0) then [⟨k, upto size (rooms.take k) 0, min (fits rooms[k]) (size - upto size (rooms.take k) 0)⟩] else []) := by
  rw [List.take_succ_eq_append_getElem h]
  refine ⟨upto_snoc _ _ _, ?_⟩
  rw [go_snoc, List.length_take, Nat.min_eq_left (Nat.le_of_lt h), Nat.zero_add]
theorem go_len {size : Int} : ∀ (l : List Int) (i : Nat) (at_ : Int), (go size l i at_).length ≤ l.length
  | [], _, _ => Nat.le_refl _
  | a :: l, i, at_ => by
    rw [go]
    split
    · rw [List.length_cons, List.length_cons]; exact Nat.succ_le_succ (go_len l _ _)
    · exact Nat.le_trans (go_len l _ _) (Nat.le_succ _)
theorem plan_len (rooms : List Int) (size : Int) : (plan rooms size).length ≤ rooms.length := by
  unfold plan; split
  · exact Nat.zero_le _
  · exact go_len _ _ _
theorem valid_le {rooms : List Int} {size : Int} : ∀ (l : List P) (next : Nat) (at_ : Int), Valid rooms size next at_ l → at_ ≤ size
  | [], _, _, h => by rw [Valid] at h; omega
  | p :: ps, _, at_, h => by
    obtain ⟨_, _, h3, _, _, h6⟩ := h
    have := valid_le ps _ _ h6
    omega
/-- what the walk over a plan asks at its place i -/
theorem valid_at {rooms : List Int} {size : Int} {l : List P} {i : Nat} {next : Nat} {at_ : Int} (h : Valid rooms size next at_ (l.drop i)) (hi : i < l.length) :
    next ≤ l[i].tape ∧ l[i].from_ = at_ ∧ 1 ≤ l[i].len ∧ (∃ h : l[i].tape < rooms.length, l[i].len ≤ fits rooms[l[i].tape] ∧ (i + 1 < l.length → l[i].len = fits rooms[l[i].tape])) ∧ (∀ k (h : k < rooms.length), next ≤ k → k < l[i].tape → fits rooms[k] = 0) ∧ Valid rooms size (l[i].tape + 1) (at_ + l[i].len) (l.drop (i + 1)) ∧ at_ + l[i].len ≤ size := by
  rw [List.drop_eq_getElem_cons hi] at h
  obtain ⟨h1, h2, h3, ⟨h4, h5, h6⟩, h7, h8⟩ := h
  refine ⟨h1, h2, h3, ⟨h4, h5, fun hh => h6 fun e => ?_⟩, fun k hk a b => ?_, h8, valid_le _ _ _ h8⟩
  · have := congrArg List.length e
    rw [List.length_drop, List.length_nil] at this
    omega
  · have := h7 k hk a b
    have := fits_lo rooms[k]
    omega
end Go.Proofs.YtndofmoepjfnfaaDoor.Sp
