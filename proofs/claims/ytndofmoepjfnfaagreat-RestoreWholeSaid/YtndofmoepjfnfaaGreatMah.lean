/- The parts that are found on tapes that were laid, and the one file that they make. No program. Chapter 12's plans: how much fits, who takes how much, and what holds of whatever plan there is. No program. Which pieces a file's plan has on blank tapes: a chain of them. No program. Chapter 20's steps done to tapes, cut or not. No program. Chapter 10's seals as what the two readers make of bytes; labels, one behind the other. No program. -/
import Derived.Test.YtndofmoepjfnfaaGreatMag
import Derived.Lib.Hide
import Derived.Test.YtndofmoepjfnfaaGreatMaf
import Derived.Test.YtndofmoepjfnfaaGreatMae
namespace Go.Proofs.YtndofmoepjfnfaaGreat.Rs
open Pt (Tx)

/-- a piece as a part -/
def partP (b : Tx) (p : Pc) : Ct.P := ⟨hd b p, (p.tape : Int) + 1, 1⟩
theorem file_parts (b : Tx) (ps : List Pc) : (file b ps).parts = ps.map (partP b) := rfl
theorem parts_none (lab : Int) : Vo.parts ⟨lab, [], false⟩ = [] := rfl
theorem parts_piece {caps : List Int} {b : Tx} {p : Pc} (hb : b.length ≤ 2000) (h : In caps b.length p) (ht : p.tape ≤ 1000) : Vo.parts ⟨(p.tape : Int) + 1, (us b p).map Fm.blk, false⟩ = [(hd b p, 1)] := by
  have hR := right hb h ht
  have hl : ((us b p).map Fm.blk).length = Vo.data p.len + 3 := by rw [List.length_map, us_len h.le]
  have hlen : (hd b p).len.toNat = p.len := by unfold hd; simp
  have hat : Vo.part ⟨(p.tape : Int) + 1, (us b p).map Fm.blk, false⟩ 1 = some (hd b p) :=
    Vo.part_at rfl ⟨⟨by show (1 : Int) ≤ (p.tape : Int) + 1; omega, by show (p.tape : Int) + 1 ≤ 2147483647; omega⟩, by decide, by decide⟩ hR.1.1 rfl (by rw [hlen]; show 1 + Vo.data p.len + 1 < ((us b p).map Fm.blk).length; rw [hl]; omega)
  have := Vo.parts_laid (t := ⟨(p.tape : Int) + 1, (us b p).map Fm.blk, false⟩) (hs := [hd b p]) ⟨hat, trivial⟩ (fun m hm => Vo.part_end (by
    show ((us b p).map Fm.blk).length ≤ m
    have hm' : 1 + Vo.data (hd b p).len.toNat + 2 ≤ m := hm
    rw [hlen] at hm'
    rw [hl]; omega)) (by show 1 ≤ ((us b p).map Fm.blk).length; rw [hl]; omega)
  exact this
/-- all parts, tape by tape -/
theorem all_now {caps : List Int} {b : Tx} {ps : List Pc} (hb : b.length ≤ 2000) (hc : caps.length ≤ 1000) (h : Chain caps b.length 0 0 ps) : Ct.all (now caps b ps fun _ _ => false) = ps.map (partP b) := by
  have key : ∀ (m : Nat) (qs : List Pc) (next at_ : Nat), caps.length - next = m → Chain caps b.length next at_ qs → next ≤ caps.length → (∀ i, next ≤ i → on b ps i = on b qs i) →
      ((List.range' next m).map fun i : Nat => (⟨(i : Int) + 1, caps.getD i 0, on b ps i, false⟩ : St.T)).flatMap Ct.partsOf = qs.map (partP b) := by
    intro m
    induction m with
    | zero =>
      intro qs next at_ hm hq hn ho
      cases qs with
      | nil => rfl
      | cons q qs =>
        have hk := (hq.in_ q List.mem_cons_self)
        have := hk.1.lt
        have := hk.2
        omega
    | succ m ih =>
      intro qs next at_ hm hq hn ho
      rw [List.range'_succ, List.map_cons, List.flatMap_cons]
      cases qs with
      | nil =>
        have e1 : on b ps next = [] := by rw [ho next (Nat.le_refl _)]; rfl
        have e2 := ih [] (next + 1) at_ (by omega) hq (by omega) (fun i hi => ho i (by omega))
        rw [e2, e1]; rfl
      | cons q qs =>
        have hin := (hq.in_ q List.mem_cons_self)
        obtain ⟨h1, h2, h3, h4, h5, h7⟩ := id hq
        by_cases e : q.tape = next
        · have e1 : on b ps next = (us b q).map Fm.blk := by rw [ho next (Nat.le_refl _), ← e]; exact on_piece hq List.mem_cons_self
          have hp := parts_piece hb hin.1 (by have := hin.1.lt; omega)
          have e2 := ih qs (next + 1) (at_ + q.len) (by omega) (by rw [← e]; exact h7) (by omega) (fun i hi => by
            rw [ho i (by omega)]
            unfold on
            rw [List.find?_cons_of_neg (by simp; omega)])
          rw [e2, e1, List.map_cons]
          have : Ct.partsOf ⟨(next : Int) + 1, caps.getD next 0, (us b q).map Fm.blk, false⟩ = [partP b q] := by
            unfold Ct.partsOf Ct.vo
            rw [← e, hp]
            rfl
          rw [this]; rfl
        · have e1 : on b ps next = [] := by
            rw [ho next (Nat.le_refl _)]
            unfold on
            have : ((q :: qs).find? fun p => p.tape == next) = none := by
              rw [List.find?_eq_none]
              intro r hr
              rcases List.mem_cons.1 hr with rfl | hr
              · simpa using e
              · have := (h7.in_ r hr).2
                simp; omega
            rw [this]
          have e2 := ih (q :: qs) (next + 1) at_ (by omega) ⟨by omega, h2, h3, h4, h5, h7⟩ (by omega) (fun i hi => ho i (by omega))
          rw [e2, e1]; rfl
  have := key caps.length ps 0 0 (by omega) h (by omega) (fun _ _ => rfl)
  unfold Ct.all now
  rw [List.range_eq_range']
  have e : (fun i : Nat => (⟨(i : Int) + 1, caps.getD i 0, zed (fun _ => false) (on b ps i), false⟩ : St.T)) = fun i : Nat => ⟨(i : Int) + 1, caps.getD i 0, on b ps i, false⟩ := by
    funext i; rw [zed_none]
  show ((List.range' 0 caps.length).map fun i : Nat => (⟨(i : Int) + 1, caps.getD i 0, zed (fun _ => false) (on b ps i), false⟩ : St.T)).flatMap Ct.partsOf = _
  rw [e]
  exact this
/-- all pieces are parts of one file -/
theorem alike {b : Tx} (p q : Pc) : Ct.common (hd b p) = Ct.common (hd b q) := rfl
/-- where the walk goes on -/
theorem first_at {b : Tx} {pre ps : List Pc} {p : Pc} {at_ : Nat} (h1 : ∀ q ∈ pre, q.at_ < at_) (h2 : p.at_ = at_) (h3 : 0 < p.len ∨ b.length = 0) :
    Ct.first ((pre ++ p :: ps).map (partP b)) (b.length : Int) (at_ : Int) = some pre.length := by
  unfold Ct.first
  rw [List.map_append, List.findIdx?_append]
  have e1 : (pre.map (partP b)).findIdx? (Ct.goes (b.length : Int) (at_ : Int)) = none := by
    rw [List.findIdx?_eq_none_iff]
    intro x hx
    obtain ⟨q, hq, rfl⟩ := List.mem_map.1 hx
    have := h1 q hq
    have hd' : decide ((partP b q).h.from_ = (at_ : Int)) = false := decide_eq_false (by show ¬ (q.at_ : Int) = _; omega)
    unfold Ct.goes
    rw [hd']; rfl
  have e2 : Ct.goes (b.length : Int) (at_ : Int) (partP b p) = true := by
    have hd' : decide ((partP b p).h.from_ = (at_ : Int)) = true := decide_eq_true (by show (p.at_ : Int) = _; omega)
    unfold Ct.goes
    rw [hd']
    rcases h3 with h3 | h3
    · rw [show decide ((partP b p).h.len ≤ 0) = false from decide_eq_false (by show ¬ (p.len : Int) ≤ 0; omega), Bool.and_false]; rfl
    · rw [show decide ((0 : Int) < (b.length : Int)) = false from decide_eq_false (by omega)]; rfl
  rw [e1, List.map_cons, List.findIdx?_cons, e2]
  simp
/-- the parts lie one behind the other -/
theorem walk_chain {caps : List Int} {b : Tx} : ∀ {ps pre : List Pc} {next at_ : Nat} {f : Nat}, ps ≠ [] → Chain caps b.length next at_ ps → (∀ q ∈ pre, q.at_ < at_) → ps.length ≤ f →
    Ct.walk ((pre ++ ps).map (partP b)) (b.length : Int) f (at_ : Int) (pre.map (partP b)) = some ((pre ++ ps).map (partP b))
  | [], _, _, _, _, h0, _, _, _ => absurd rfl h0
  | p :: ps, pre, next, at_, f, _, h, h1, hf => by
    obtain ⟨f, rfl⟩ : ∃ k, f = k + 1 := ⟨f - 1, by rw [List.length_cons] at hf; omega⟩
    obtain ⟨k1, k2, k3, k4, k5, k7⟩ := h
    have hfst := first_at (b := b) (pre := pre) (ps := ps) (p := p) h1 k2 (by rcases k4 with k4 | k4; exact .inl k4; exact .inr k4.1)
    have hget : ((pre ++ p :: ps).map (partP b))[pre.length]? = some (partP b p) := by
      rw [List.getElem?_map, List.getElem?_append_right (Nat.le_refl _), Nat.sub_self]; rfl
    rw [Ct.walk_some hfst hget]
    have e1 : (partP b p).h.from_ + (partP b p).h.len = ((at_ + p.len : Nat) : Int) := by
      show (p.at_ : Int) + (p.len : Int) = _
      omega
    rw [e1, if_neg (by omega)]
    have e2 : pre.map (partP b) ++ [partP b p] = (pre ++ [p]).map (partP b) := by rw [List.map_append]; rfl
    have e3 : pre ++ p :: ps = (pre ++ [p]) ++ ps := by rw [List.append_assoc]; rfl
    cases ps with
    | nil =>
      have hend : at_ + p.len = b.length := k7
      rw [if_pos (by rw [hend]), e2]
    | cons q qs =>
      have hpos : 0 < p.len := by
        rcases k4 with k4 | k4
        · exact k4
        · exact absurd k4.2 (by simp)
      have hq := (k7.in_ q List.mem_cons_self).1
      have hq2 := k7
      obtain ⟨-, j2, j3, j4, -, -⟩ := hq2
      have hlt : at_ + p.len < b.length := by rcases j4 with j4 | j4 <;> omega
      rw [if_neg (by omega), e2, e3]
      exact walk_chain (by simp) k7 (fun r hr => by
        rcases List.mem_append.1 hr with hr | hr
        · have := h1 r hr; omega
        · rw [List.mem_singleton.1 hr]; omega) (by simp at hf ⊢; omega)
/-- the parts of a file that was laid make it -/
theorem whole_chain {caps : List Int} {b : Tx} {ps : List Pc} (h0 : ps ≠ []) (h : Chain caps b.length 0 0 ps) : Ct.whole (ps.map (partP b)) = some (file b ps) := by
  cases ps with
  | nil => exact absurd rfl h0
  | cons p ps =>
    have ha : Ct.alikeB ((p :: ps).map (partP b)) = true := by
      show ((partP b p :: ps.map (partP b)).all fun q => decide (Ct.common q.h = Ct.common (partP b p).h)) = true
      rw [List.all_eq_true]
      intro x hx
      have hx' : x ∈ (p :: ps).map (partP b) := hx
      obtain ⟨q, -, rfl⟩ := List.mem_map.1 hx'
      exact decide_eq_true rfl
    rw [Ct.whole_yes ha (p := partP b p) rfl]
    unfold Ct.row
    rw [if_neg (by show ¬ (b.length : Int) < 0; omega)]
    have := walk_chain (pre := []) (f := ((p :: ps).map (partP b)).length) h0 h (fun q hq => nomatch hq) (by rw [List.length_map]; exact Nat.le_refl _)
    rw [List.nil_append] at this
    have e : (partP b p).h.size = (b.length : Int) := rfl
    rw [e]
    have this' : Ct.walk ((p :: ps).map (partP b)) (b.length : Int) ((p :: ps).map (partP b)).length 0 [] = some ((p :: ps).map (partP b)) := this
    rw [this']
    rfl
end Go.Proofs.YtndofmoepjfnfaaGreat.Rs
namespace Go.Proofs.YtndofmoepjfnfaaGreat.Sp

/-- how many bytes a part may have in so many blocks -/
def fits (r : Int) : Int := if r < 3 then 0 else if 1099511627776 < r then 64 * (1099511627776 - 2) else 64 * (r - 2)
theorem fits_lo (r : Int) : 0 ≤ fits r := by unfold fits; split; exact Int.le_refl _; split <;> omega
theorem fits_hi (r : Int) : fits r ≤ 70368744177536 := by unfold fits; split; decide; split <;> omega
theorem fits_small {r : Int} (h : r < 3) : fits r = 0 := if_pos h
/-- a piece: on which tape, from where, how long -/
structure P where
  tape : Nat
  from_ : Int
  len : Int
/-- what the tapes from tape i on take, when so much has been taken -/
def go (size : Int) : List Int → Nat → Int → List P
  | [], _, _ => []
  | r :: rs, i, at_ => if 0 < min (fits r) (size - at_) then ⟨i, at_, min (fits r) (size - at_)⟩ :: go size rs (i + 1) (at_ + min (fits r) (size - at_)) else go size rs (i + 1) at_
/-- how much is taken behind them all -/
def upto (size : Int) : List Int → Int → Int
  | [], at_ => at_
  | r :: rs, at_ => upto size rs (at_ + max 0 (min (fits r) (size - at_)))
/-- how much fits on all -/
def sum : List Int → Int
  | [] => 0
  | r :: rs => fits r + sum rs
theorem sum_lo : ∀ l : List Int, 0 ≤ sum l
  | [] => Int.le_refl _
  | r :: rs => by have := sum_lo rs; have := fits_lo r; rw [sum]; omega
theorem sum_snoc : ∀ (l : List Int) (r : Int), sum (l ++ [r]) = sum l + fits r
  | [], r => by simp [sum]
  | a :: l, r => by rw [List.cons_append, sum, sum, sum_snoc l r]; omega
theorem sum_take {l : List Int} {k : Nat} (h : k < l.length) : sum (l.take (k + 1)) = sum (l.take k) + fits l[k] := by
  rw [List.take_succ_eq_append_getElem h, sum_snoc]
theorem upto_eq {size : Int} : ∀ (l : List Int) (at_ : Int), 0 ≤ at_ → at_ ≤ size → upto size l at_ = min size (at_ + sum l)
  | [], at_, _, h => by rw [upto, sum]; omega
  | r :: rs, at_, h0, h => by
    have h1 := fits_lo r
    have h2 := sum_lo rs
    rw [upto, upto_eq rs _ (by omega) (by omega), sum]
    omega
theorem upto_snoc {size : Int} : ∀ (l : List Int) (r at_ : Int), upto size (l ++ [r]) at_ = upto size l at_ + max 0 (min (fits r) (size - upto size l at_))
  | [], _, _ => rfl
  | a :: l, r, at_ => by rw [List.cons_append, upto, upto, upto_snoc l r]
theorem go_snoc {size : Int} : ∀ (l : List Int) (r : Int) (i : Nat) (at_ : Int), go size (l ++ [r]) i at_ = go size l i at_ ++ (if 0 < min (fits r) (size - upto size l at_) then [⟨i + l.length, upto size l at_, min (fits r) (size - upto size l at_)⟩] else [])
  | [], r, i, at_ => by
    rw [List.nil_append, go, go, upto, List.nil_append]
    rfl
  | a :: l, r, i, at_ => by
    rw [List.cons_append, go, go, upto]
    by_cases h : 0 < min (fits a) (size - at_)
    · rw [if_pos h, if_pos h, go_snoc l r (i + 1), List.cons_append, show max 0 (min (fits a) (size - at_)) = min (fits a) (size - at_) by omega, List.length_cons, show i + 1 + l.length = i + (l.length + 1) by omega]
    · rw [if_neg h, if_neg h, go_snoc l r (i + 1), show at_ + max 0 (min (fits a) (size - at_)) = at_ by omega, List.length_cons, show i + 1 + l.length = i + (l.length + 1) by omega]
/-- the plan of a file of at least one byte -/
def plan (rooms : List Int) (size : Int) : List P := if upto size rooms 0 < size then [] else go size rooms 0 0
def err (rooms : List Int) (size : Int) : Int := if upto size rooms 0 < size then 7 else 0
theorem err_zero {rooms : List Int} {size : Int} (h1 : 1 ≤ size) : err rooms size = 0 ↔ size ≤ sum rooms := by
  unfold err
  rw [upto_eq rooms 0 (Int.le_refl _) (by omega)]
  split <;> omega
theorem err_or (rooms : List Int) (size : Int) : err rooms size = 0 ∨ err rooms size = 7 := by unfold err; split; exact .inr rfl; exact .inl rfl
theorem plan_err {rooms : List Int} {size : Int} (h : err rooms size ≠ 0) : plan rooms size = [] := by
  unfold err at h; unfold plan
  split
  · rfl
  · rename_i h'; rw [if_neg h'] at h; exact absurd rfl h
/-- what holds of a plan, piece by piece -/
def Valid (rooms : List Int) (size : Int) : Nat → Int → List P → Prop
  | _, at_, [] => at_ = size
  | next, at_, p :: ps => next ≤ p.tape ∧ p.from_ = at_ ∧ 1 ≤ p.len ∧ (∃ h : p.tape < rooms.length, p.len ≤ fits rooms[p.tape] ∧ (ps ≠ [] → p.len = fits rooms[p.tape])) ∧ (∀ k (h : k < rooms.length), next ≤ k → k < p.tape → fits rooms[k] ≤ 0) ∧ Valid rooms size (p.tape + 1) (at_ + p.len) ps
theorem go_done {size : Int} : ∀ (rs : List Int) (i : Nat), go size rs i size = []
  | [], _ => rfl
  | r :: rs, i => by
    have := fits_lo r
    rw [go, if_neg (by omega), go_done rs]
theorem go_valid {size : Int} {rooms : List Int} : ∀ (rs pre : List Int) (next : Nat) (at_ : Int), rooms = pre ++ rs → next ≤ pre.length → (∀ k (h : k < rooms.length), next ≤ k → k < pre.length → fits rooms[k] ≤ 0) → 0 ≤ at_ → at_ ≤ size → upto size rs at_ = size → Valid rooms size next at_ (go size rs pre.length at_)
  | [], pre, next, at_, _, _, _, _, _, hu => by rw [go]; exact hu
  | r :: rs, pre, next, at_, he, hn, hk, h0, h1, hu => by
    have hlen : pre.length < rooms.length := by rw [he, List.length_append, List.length_cons]; omega
    have hget : rooms[pre.length] = r := by
      have : rooms[pre.length]? = some r := by rw [he, List.getElem?_append_right (Nat.le_refl _), Nat.sub_self]; rfl
      rw [List.getElem?_eq_getElem hlen] at this
      exact Option.some.inj this
    have he' : rooms = (pre ++ [r]) ++ rs := by rw [he, List.append_assoc]; rfl
    have hl' : (pre ++ [r]).length = pre.length + 1 := by rw [List.length_append]; rfl
    have hf := fits_lo r
    rw [upto] at hu
    rw [go]
    by_cases hp : 0 < min (fits r) (size - at_)
    · rw [if_pos hp]
      rw [show max 0 (min (fits r) (size - at_)) = min (fits r) (size - at_) by omega] at hu
      refine ⟨hn, rfl, by show 1 ≤ min (fits r) (size - at_); omega, ⟨hlen, ?_, ?_⟩, hk, ?_⟩
      · show min (fits r) (size - at_) ≤ fits rooms[pre.length]
        rw [hget]; omega
      · intro hne
        show min (fits r) (size - at_) = fits rooms[pre.length]
        rw [hget]
        rcases Int.le_total (fits r) (size - at_) with hle | hle
        · omega
        · exfalso
          have e : at_ + min (fits r) (size - at_) = size := by omega
          rw [e, go_done] at hne
          exact hne rfl
      · show Valid rooms size (pre.length + 1) (at_ + min (fits r) (size - at_)) (go size rs (pre.length + 1) (at_ + min (fits r) (size - at_)))
        rw [← hl']
        refine go_valid rs (pre ++ [r]) _ _ he' (by omega) (fun k h h2 h3 => by omega) (by omega) (by omega) hu
    · rw [if_neg hp]
      rw [show at_ + max 0 (min (fits r) (size - at_)) = at_ by omega] at hu
      rw [← hl']
      rcases Int.le_total at_ size with _ | _ <;> rcases Int.lt_or_le at_ size with hlt | hge
      all_goals first
        | (refine go_valid rs (pre ++ [r]) next at_ he' (by omega) (fun k h h2 h3 => ?_) h0 h1 hu
           rcases Nat.lt_or_ge k pre.length with hkl | hkl
           · exact hk k h h2 hkl
           · have hke : k = pre.length := by omega
             subst hke
             rw [hget]; omega)
        | (have e : at_ = size := by omega
           rw [e, go_done]; rfl)
theorem plan_valid {rooms : List Int} {size : Int} (h1 : 1 ≤ size) (h : err rooms size = 0) : Valid rooms size 0 0 (plan rooms size) := by
  have hs := (err_zero h1).1 h
  unfold plan
  have hu : upto size rooms 0 = size := by rw [upto_eq rooms 0 (Int.le_refl _) (by omega)]; omega
  rw [if_neg (by rw [hu]; omega)]
  exact go_valid rooms [] 0 0 rfl (Nat.le_refl _) (fun k _ _ h => absurd h (Nat.not_lt_zero k)) (Int.le_refl _) (by omega) hu
theorem upto_append {size : Int} : ∀ (l l' : List Int) (at_ : Int), upto size (l ++ l') at_ = upto size l' (upto size l at_)
  | [], _, _ => rfl
  | a :: l, l', at_ => by rw [List.cons_append, upto, upto, upto_append l l']
theorem go_append {size : Int} : ∀ (l l' : List Int) (i : Nat) (at_ : Int), go size (l ++ l') i at_ = go size l i at_ ++ go size l' (i + l.length) (upto size l at_)
  | [], l', i, at_ => by rw [List.nil_append, go, upto, List.nil_append]; rfl
  | a :: l, l', i, at_ => by
    rw [List.cons_append, go, go, upto]
    by_cases h : 0 < min (fits a) (size - at_)
    · rw [if_pos h, if_pos h, go_append l l' (i + 1), List.cons_append, show max 0 (min (fits a) (size - at_)) = min (fits a) (size - at_) by omega, List.length_cons, show i + 1 + l.length = i + (l.length + 1) by omega]
    · rw [if_neg h, if_neg h, go_append l l' (i + 1), show at_ + max 0 (min (fits a) (size - at_)) = at_ by omega, List.length_cons, show i + 1 + l.length = i + (l.length + 1) by omega]
theorem upto_done {size : Int} : ∀ l : List Int, upto size l size = size
  | [] => rfl
  | r :: rs => by have := fits_lo r; rw [upto, show size + max 0 (min (fits r) (size - size)) = size by omega, upto_done rs]
/-- when the file is at its end behind some tapes, they are the plan -/
theorem plan_found {rooms : List Int} {size : Int} {k : Nat} (h : upto size (rooms.take k) 0 = size) : plan rooms size = go size (rooms.take k) 0 0 ∧ err rooms size = 0 := by
  have e : upto size rooms 0 = size := by
    rw [← List.take_append_drop k rooms, upto_append, h, upto_done]
  refine ⟨?_, ?_⟩
  · unfold plan
    rw [e, if_neg (Int.lt_irrefl _)]
    conv => lhs; rw [← List.take_append_drop k rooms]
    rw [go_append, h, go_done, List.append_nil]
  · unfold err
    rw [e, if_neg (Int.lt_irrefl _)]
theorem plan_none {rooms : List Int} {size : Int} (h : upto size rooms 0 < size) : plan rooms size = [] ∧ err rooms size = 7 := ⟨if_pos h, if_pos h⟩
theorem take_next {rooms : List Int} {size : Int} {k : Nat} (h : k < rooms.length) : upto size (rooms.take (k + 1)) 0 = upto size (rooms.take k) 0 + max 0 (min (fits rooms[k]) (size - upto size (rooms.take k) 0))
    ∧ go size (rooms.take (k + 1)) 0 0 = go size (rooms.take k) 0 0 ++ (if 0 < min (fits rooms[k]) (size - upto size (rooms.take k) 0) then [⟨k, upto size (rooms.take k) 0, min (fits rooms[k]) (size - upto size (rooms.take k) 0)⟩] else []) := by
  rw [List.take_succ_eq_append_getElem h]
  refine ⟨upto_snoc _ _ _, ?_⟩
  rw [go_snoc, List.length_take, Nat.min_eq_left (Nat.le_of_lt h), Nat.zero_add]
theorem go_len {size : Int} : ∀ (l : List Int) (i : Nat) (at_ : Int), (go size l i at_).length ≤ l.length
  | [], _, _ => Nat.le_refl _
  | a :: l, i, at_ => by
    rw [go]
    split
    · rw [List.length_cons, List.length_cons]; exact Nat.succ_le_succ (go_len l _ _)
    · exact Nat.le_trans (go_len l _ _) (Nat.le_succ _)
theorem plan_len (rooms : List Int) (size : Int) : (plan rooms size).length ≤ rooms.length := by
  unfold plan; split
  · exact Nat.zero_le _
  · exact go_len _ _ _
theorem valid_le {rooms : List Int} {size : Int} : ∀ (l : List P) (next : Nat) (at_ : Int), Valid rooms size next at_ l → at_ ≤ size
  | [], _, _, h => by rw [Valid] at h; omega
  | p :: ps, _, at_, h => by
    obtain ⟨_, _, h3, _, _, h6⟩ := h
    have := valid_le ps _ _ h6
    omega
/-- what the walk over a plan asks at its place i -/
theorem valid_at {rooms : List Int} {size : Int} {l : List P} {i : Nat} {next : Nat} {at_ : Int} (h : Valid rooms size next at_ (l.drop i)) (hi : i < l.length) :
    next ≤ l[i].tape ∧ l[i].from_ = at_ ∧ 1 ≤ l[i].len ∧ (∃ h : l[i].tape < rooms.length, l[i].len ≤ fits rooms[l[i].tape] ∧ (i + 1 < l.length → l[i].len = fits rooms[l[i].tape])) ∧ (∀ k (h : k < rooms.length), next ≤ k → k < l[i].tape → fits rooms[k] = 0) ∧ Valid rooms size (l[i].tape + 1) (at_ + l[i].len) (l.drop (i + 1)) ∧ at_ + l[i].len ≤ size := by
  rw [List.drop_eq_getElem_cons hi] at h
  obtain ⟨h1, h2, h3, ⟨h4, h5, h6⟩, h7, h8⟩ := h
  refine ⟨h1, h2, h3, ⟨h4, h5, fun hh => h6 fun e => ?_⟩, fun k hk a b => ?_, h8, valid_le _ _ _ h8⟩
  · have := congrArg List.length e
    rw [List.length_drop, List.length_nil] at this
    omega
  · have := h7 k hk a b
    have := fits_lo rooms[k]
    omega
end Go.Proofs.YtndofmoepjfnfaaGreat.Sp
namespace Go.Proofs.YtndofmoepjfnfaaGreat.Rs
open Pt (Tx)

def toPc (p : Sp.P) : Pc := ⟨p.tape, p.from_.toNat, p.len.toNat⟩
/-- the document's plan: a file of no bytes comes to the first tape with two blocks' room -/
def planR (rooms : List Int) (size : Int) : List Sp.P := if size = 0 then (match rooms.findIdx? fun r => decide (2 ≤ r) with
    | some i => [⟨i, 0, 0⟩]
    | none => []) else Sp.plan rooms size
def errR (rooms : List Int) (size : Int) : Int := if size = 0 then (match rooms.findIdx? fun r => decide (2 ≤ r) with
    | some _ => 0
    | none => 7) else Sp.err rooms size
theorem chain_valid {caps : List Int} {size : Nat} (hc : ∀ i (h : i < caps.length), 3 ≤ caps[i] ∧ caps[i] ≤ 64) : ∀ {l : List Sp.P} {next : Nat} {at_ : Int}, 0 ≤ at_ → Sp.Valid (caps.map fun c => c - 1) (size : Int) next at_ l → Chain caps size next at_.toNat (l.map toPc)
  | [], _, at_, h0, h => by
    have h' : at_ = (size : Int) := h
    show at_.toNat = size
    omega
  | p :: l, next, at_, h0, h => by
    have hle := Sp.valid_le (p :: l) next at_ h
    obtain ⟨h1, h2, h3, ⟨h4, h5, -⟩, -, h8⟩ := h
    have hle2 := Sp.valid_le l _ _ h8
    have h4' : p.tape < caps.length := by simpa using h4
    have hcap := hc p.tape h4'
    have hr : (caps.map fun c => c - 1)[p.tape] = caps[p.tape] - 1 := by rw [List.getElem_map]
    rw [hr] at h5
    unfold Sp.fits at h5
    have hlen : p.len ≤ 64 * (caps[p.tape] - 3) := by
      split at h5
      · omega
      · split at h5 <;> omega
    refine ⟨h1, by show p.from_.toNat = at_.toNat; rw [h2], by show at_.toNat + p.len.toNat ≤ size; omega, .inl (by show 0 < p.len.toNat; omega), ⟨h4', ?_⟩, ?_⟩
    · show ((Vo.data p.len.toNat + 3 : Nat) : Int) ≤ caps[p.tape]
      unfold Vo.data
      omega
    · have := chain_valid hc (by omega) h8
      rwa [show (at_ + p.len).toNat = at_.toNat + p.len.toNat by omega] at this
/-- a plan without an error is a chain that is not empty -/
theorem chain_plan {caps : List Int} {size : Nat} (hc : ∀ i (h : i < caps.length), 3 ≤ caps[i] ∧ caps[i] ≤ 64) (h : errR (caps.map fun c => c - 1) (size : Int) = 0) :
    Chain caps size 0 0 ((planR (caps.map fun c => c - 1) (size : Int)).map toPc) ∧ planR (caps.map fun c => c - 1) (size : Int) ≠ [] := by
  unfold errR at h
  unfold planR
  by_cases h0 : (size : Int) = 0
  · rw [if_pos h0] at h
    rw [if_pos h0]
    have hs : size = 0 := by omega
    cases hf : (caps.map fun c => c - 1).findIdx? (fun r => decide (2 ≤ r)) with
    | none => rw [hf] at h; exact absurd h (by decide)
    | some i =>
      obtain ⟨hi, -, -⟩ := List.findIdx?_eq_some_iff_getElem.1 hf
      have hi' : i < caps.length := by simpa using hi
      refine ⟨⟨Nat.zero_le _, rfl, by show 0 + 0 ≤ size; omega, .inr ⟨hs, rfl⟩, ⟨hi', ?_⟩, ?_⟩, by simp⟩
      · have := (hc i hi').1
        show ((Vo.data 0 + 3 : Nat) : Int) ≤ caps[i]
        rw [Vo.data_zero]; omega
      · show 0 + 0 = size
        omega
  · rw [if_neg h0] at h
    rw [if_neg h0]
    have hv := Sp.plan_valid (by omega) h
    refine ⟨chain_valid hc (Int.le_refl _) hv, fun e => ?_⟩
    rw [e] at hv
    have hv' : (0 : Int) = (size : Int) := hv
    omega
end Go.Proofs.YtndofmoepjfnfaaGreat.Rs
namespace Go.Proofs.YtndofmoepjfnfaaGreat.Wr
open Pt (Tx)

/-- one step: a block comes behind the blocks of tape k, if there is one, it can be loaded and has room -/
def step (ts : List St.T) (k : Int) (b : Tx) : List St.T := if k < 0 then ts else match ts[k.toNat]? with
  | none => ts
  | some t => if Tp.loadE t.label t.cap t.blocks t.lost = 0 ∧ (t.blocks.length : Int) < t.cap ∧ Tp.okB b = true then ts.set k.toNat ⟨t.label, t.cap, t.blocks ++ [b], t.lost⟩ else ts
/-- steps from step i on; step stop is cut behind so many bytes, and is the last -/
def go (stop bytes : Int) : Nat → List St.T → List (Int × Tx) → List St.T × Bool
  | _, ts, [] => (ts, false)
  | i, ts, (k, b) :: l => if (i : Int) = stop then (step ts k (b.take (min (max bytes 0) (b.length : Int)).toNat), true) else go stop bytes (i + 1) (step ts k b) l
theorem step_len (ts : List St.T) (k : Int) (b : Tx) : (step ts k b).length = ts.length := by
  unfold step
  split
  · rfl
  · split
    · rfl
    · split
      · rw [List.length_set]
      · rfl
theorem step_low {ts : List St.T} {k : Int} {b : Tx} (h : k < 0) : step ts k b = ts := if_pos h
theorem step_high {ts : List St.T} {k : Nat} {b : Tx} (h : ts.length ≤ k) : step ts (k : Int) b = ts := by
  unfold step
  rw [if_neg (by omega), Int.toNat_natCast, List.getElem?_eq_none h]
theorem step_no {ts : List St.T} {k : Nat} {b : Tx} (hk : k < ts.length) (h : Tp.loadE ts[k].label ts[k].cap ts[k].blocks ts[k].lost ≠ 0 ∨ ts[k].cap ≤ (ts[k].blocks.length : Int) ∨ Tp.okB b = false) : step ts (k : Int) b = ts := by
  unfold step
  rw [if_neg (by omega), Int.toNat_natCast, List.getElem?_eq_getElem hk]
  refine if_neg fun hh => ?_
  obtain ⟨h1, h2, h3⟩ := hh
  rcases h with h | h | h
  · exact h h1
  · omega
  · rw [h] at h3; cases h3
theorem step_yes {ts : List St.T} {k : Nat} {b : Tx} (hk : k < ts.length) (h1 : Tp.loadE ts[k].label ts[k].cap ts[k].blocks ts[k].lost = 0) (h2 : (ts[k].blocks.length : Int) < ts[k].cap) (h3 : Tp.okB b = true) : step ts (k : Int) b = ts.set k ⟨ts[k].label, ts[k].cap, ts[k].blocks ++ [b], ts[k].lost⟩ := by
  unfold step
  rw [if_neg (by omega), Int.toNat_natCast, List.getElem?_eq_getElem hk]
  exact if_pos ⟨h1, h2, h3⟩
theorem go_cut {stop bytes : Int} {ts : List St.T} {l : List (Int × Tx)} {i : Nat} (hi : i < l.length) (h : (i : Int) = stop) : go stop bytes i ts (l.drop i) = (step ts l[i].1 (l[i].2.take (min (max bytes 0) (l[i].2.length : Int)).toNat), true) := by
  rw [List.drop_eq_getElem_cons hi]
  obtain ⟨k, b⟩ := l[i]
  rw [go, if_pos h]
theorem go_on {stop bytes : Int} {ts : List St.T} {l : List (Int × Tx)} {i : Nat} (hi : i < l.length) (h : (i : Int) ≠ stop) : go stop bytes i ts (l.drop i) = go stop bytes (i + 1) (step ts l[i].1 l[i].2) (l.drop (i + 1)) := by
  rw [List.drop_eq_getElem_cons hi]
  obtain ⟨k, b⟩ := l[i]
  rw [go, if_neg h]
theorem go_end {stop bytes : Int} {ts : List St.T} {l : List (Int × Tx)} {i : Nat} (hi : l.length ≤ i) : go stop bytes i ts (l.drop i) = (ts, false) := by
  rw [List.drop_eq_nil_of_le hi]; rfl
/-- steps without a cut -/
theorem go_all {stop bytes : Int} (h : stop < 0) : ∀ (l : List (Int × Tx)) (i : Nat) (ts : List St.T), go stop bytes i ts l = (l.foldl (fun ts x => step ts x.1 x.2) ts, false)
  | [], _, _ => rfl
  | (k, b) :: l, i, ts => by rw [go, if_neg (by omega), go_all h l]; rfl
/-- what a tape holds when it can be loaded -/
theorem load_ok {t : St.T} (h : Tp.loadE t.label t.cap t.blocks t.lost = 0) : Tp.right t.label t.cap t.blocks = true ∧ t.lost = false := by
  unfold Tp.loadE at h
  split at h
  · cases h
  · rename_i hr
    split at h
    · cases h
    · rename_i hl
      exact ⟨by cases hx : Tp.right t.label t.cap t.blocks with
        | true => rfl
        | false => exact absurd hx hr, by cases hx : t.lost with
        | false => rfl
        | true => exact absurd hx hl⟩
end Go.Proofs.YtndofmoepjfnfaaGreat.Wr
namespace Go.Proofs.YtndofmoepjfnfaaGreat.Rc
open Pt (Tx)
open Cd

/-- n numbers, read one behind the other -/
def labsP : Nat → St → List Int
  | 0, _ => []
  | n + 1, s => num (tk 4 s) :: labsP n (af 4 s)
theorem labsP_len : ∀ (n : Nat) (s : St), (labsP n s).length = n
  | 0, _ => rfl
  | n + 1, s => by rw [labsP, List.length_cons, labsP_len n]
theorem labsP_labB : ∀ (l : List Int) (bad : Bool), (∀ x ∈ l, 0 ≤ x ∧ x < 4294967296) → labsP l.length (labB l, bad) = l
  | [], _, _ => rfl
  | x :: l, bad, hx => by
    have h1 := hx x (List.mem_cons_self ..)
    rw [List.length_cons, labsP, labB, tk_app 4 _ _ _ (be4_len x), af_app 4 _ _ _ (be4_len x), num4 h1.1 h1.2, labsP_labB l bad (fun y hy => hx y (List.mem_cons_of_mem _ hy))]
/-- what the program reads -/
def pparse (b : Tx) : S := ⟨num (tk 4 (b, false)), ((byt (r1 b)).toNat : Int), ((byt (r2 b)).toNat : Int), ((byt (r3 b)).toNat : Int), labsP ((byt (r2 b)).toNat + (byt (r3 b)).toNat) (r4 b)⟩
theorem pparse_sblk {s : S} (k : SOk s) : pparse (sblk s) = s := by
  have hf := k.few
  obtain ⟨⟨⟨n0, n1⟩, d0, p0, dp, hl, i0, i1⟩, hx, -⟩ := k
  have e1 : r1 (sblk s) = ([b8 s.index] ++ ([b8 s.data] ++ ([b8 s.parity] ++ labB s.labels)), false) := af_app 4 _ _ _ rfl
  have e2 : r2 (sblk s) = ([b8 s.data] ++ ([b8 s.parity] ++ labB s.labels), false) := by unfold r2; rw [e1]; exact af_app 1 _ _ _ rfl
  have e3 : r3 (sblk s) = ([b8 s.parity] ++ labB s.labels, false) := by unfold r3; rw [e2]; exact af_app 1 _ _ _ rfl
  have e4 : r4 (sblk s) = (labB s.labels, false) := by unfold r4; rw [e3]; exact af_app 1 _ _ _ rfl
  have e0 : tk 4 (sblk s, false) = be4 s.number := tk_app 4 _ _ _ rfl
  have g1 := b8_nat s.index
  have g2 := b8_nat s.data
  have g3 := b8_nat s.parity
  have hn : (b8 s.data).toNat + (b8 s.parity).toNat = s.labels.length := by omega
  unfold pparse
  rw [e0, e1, e2, e3, e4, show byt ([b8 s.index] ++ ([b8 s.data] ++ ([b8 s.parity] ++ labB s.labels)), false) = b8 s.index from byt_cons _ _ _,
    show byt ([b8 s.data] ++ ([b8 s.parity] ++ labB s.labels), false) = b8 s.data from byt_cons _ _ _, show byt ([b8 s.parity] ++ labB s.labels, false) = b8 s.parity from byt_cons _ _ _,
    hn, g1, g2, g3, num4 (by omega) (by omega), labsP_labB s.labels false (fun x h => by have := hx x h; omega), show s.index % 256 = s.index by omega, show s.data % 256 = s.data by omega, show s.parity % 256 = s.parity by omega]
/-- what the program takes is a seal's bytes -/
theorem pgood_iff {b : Tx} : (SOk (pparse b) ∧ sblk (pparse b) = b) ↔ SGood b := by
  constructor
  · rintro ⟨h1, h2⟩
    have e : sparse b = pparse b := by conv => lhs; rw [← h2]
                                       exact sparse_sblk h1
    unfold SGood; rw [e]; exact ⟨h1, h2⟩
  · rintro ⟨h1, h2⟩
    have e : pparse b = sparse b := by conv => lhs; rw [← h2]
                                       exact pparse_sblk h1
    rw [e]; exact ⟨h1, h2⟩
theorem pparse_good {b : Tx} (h : SGood b) : pparse b = sparse b := by
  conv => lhs; rw [← h.2]
  exact pparse_sblk h.1
/-- labels, one more -/
theorem Labs.nil : Labs [] := ⟨(fun _ h => by cases h), List.nodup_nil⟩
theorem labs_snoc {l : List Int} {x : Int} : Labs (l ++ [x]) ↔ Labs l ∧ (1 ≤ x ∧ x ≤ 2147483647) ∧ x ∉ l := by
  unfold Labs
  rw [List.nodup_append]
  constructor
  · rintro ⟨h1, h2, -, h4⟩
    exact ⟨⟨fun y hy => h1 y (List.mem_append_left _ hy), h2⟩, h1 x (List.mem_append_right _ (List.mem_singleton.2 rfl)), fun hm => h4 x hm x (List.mem_singleton.2 rfl) rfl⟩
  · rintro ⟨⟨h1, h2⟩, h3, h4⟩
    refine ⟨fun y hy => ?_, h2, by simp, fun a ha b hb => ?_⟩
    · rcases List.mem_append.1 hy with hy | hy
      · exact h1 y hy
      · rw [List.mem_singleton.1 hy]; exact h3
    · rw [List.mem_singleton.1 hb]; rintro rfl; exact h4 ha
theorem labs_take {l : List Int} {k : Nat} (h : k < l.length) : Labs (l.take (k + 1)) ↔ Labs (l.take k) ∧ (1 ≤ l[k] ∧ l[k] ≤ 2147483647) ∧ l[k] ∉ l.take k := by
  rw [List.take_succ_eq_append_getElem h, labs_snoc]
theorem Labs.prefix {l m : List Int} (h : Labs (l ++ m)) : Labs l :=
  ⟨fun y hy => h.1 y (List.mem_append_left _ hy), (List.nodup_append.1 h.2).1⟩
theorem labs_bad {l : List Int} {k : Nat} (h : ¬ Labs (l.take k)) : ¬ Labs l := fun hl => h (Labs.prefix (m := l.drop k) (by rw [List.take_append_drop]; exact hl))
theorem labs_step_no {l : List Int} {k : Nat} (hk : k < l.length) (h : ¬ ((1 ≤ l[k] ∧ l[k] ≤ 2147483647) ∧ l[k] ∉ l.take k)) : ¬ Labs l :=
  labs_bad (k := k + 1) fun h' => h ((labs_take hk).1 h').2
/-- what the document's own reads, round by round -/
theorem labs_more {n : Nat} {b : Tx} (h : ¬ b.length < 4) : labs (n + 1) b = num (b.take 4) :: labs n (b.drop 4) := by rw [labs, if_neg h]
theorem labs_end {n : Nat} {b : Tx} (h : n = 0 ∨ b.length < 4) : labs n b = [] := by
  cases n with
  | zero => rfl
  | succ n => rw [labs, if_pos (by omega)]
end Go.Proofs.YtndofmoepjfnfaaGreat.Rc
