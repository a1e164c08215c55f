/- Chapter 20's steps done to tapes, cut or not. No program. -/
import Derived.Test.YtndofmoepjfnfaaDoorTpMath
import Derived.Test.YtndofmoepjfnfaaDoorMad
namespace Go.Proofs.YtndofmoepjfnfaaDoor.Wr
open Pt (Tx)

/-- one step: a block comes behind the blocks of tape k, if there is one, it can be loaded and has room -/
def step (ts : List St.T) (k : Int) (b : Tx) : List St.T := if k < 0 then ts else match ts[k.toNat]? with
  | none => ts
  | some t => if Tp.loadE t.label t.cap t.blocks t.lost = 0 ∧ (t.blocks.length : Int) < t.cap ∧ Tp.okB b = true then ts.set k.toNat ⟨t.label, t.cap, t.blocks ++ [b], t.lost⟩ else ts
/-- steps from step i on; step stop is cut behind so many bytes, and is the last -/
def go (stop bytes : Int) : Nat → List St.T → List (Int × Tx) → List St.T × Bool
  | _, ts, [] => (ts, false)
  | i, ts, (k, b) :: l => if (i : Int) = stop then (step ts k (b.take (min (max bytes 0) (b.length : Int)).toNat), true) else go stop bytes (i + 1) (step ts k b) l
theorem step_len (ts : List St.T) (k : Int) (b : Tx) : (step ts k b).length = ts.length := by
  unfold step
  split
  · rfl
  · split
    · rfl
    · split
      · rw [List.length_set]
      · rfl
theorem step_low {ts : List St.T} {k : Int} {b : Tx} (h : k < 0) : step ts k b = ts := if_pos h
theorem step_high {ts : List St.T} {k : Nat} {b : Tx} (h : ts.length ≤ k) : step ts (k : Int) b = ts := by
  unfold step
  rw [if_neg (by omega), Int.toNat_natCast, List.getElem?_eq_none h]
theorem step_no {ts : List St.T} {k : Nat} {b : Tx} (hk : k < ts.length) (h : Tp.loadE ts[k].label ts[k].cap ts[k].blocks ts[k].lost ≠ 0 ∨ ts[k].cap ≤ (ts[k].blocks.length : Int) ∨ Tp.okB b = false) : step ts (k : Int) b = ts := by
  unfold step
  rw [if_neg (by omega), Int.toNat_natCast, List.getElem?_eq_getElem hk]
  refine if_neg fun hh => ?_
  obtain ⟨h1, h2, h3⟩ := hh
  rcases h with h | h | h
  · exact h h1
  · omega
  · rw [h] at h3; cases h3
theorem step_yes {ts : List St.T} {k : Nat} {b : Tx} (hk : k < ts.length) (h1 : Tp.loadE ts[k].label ts[k].cap ts[k].blocks ts[k].lost = 0) (h2 : (ts[k].blocks.length : Int) < ts[k].cap) (h3 : Tp.okB b = true) : step ts (k : Int) b = ts.set k ⟨ts[k].label, ts[k].cap, ts[k].blocks ++ [b], ts[k].lost⟩ := by
  unfold step
  rw [if_neg (by omega), Int.toNat_natCast, List.getElem?_eq_getElem hk]
  exact if_pos ⟨h1, h2, h3⟩
theorem go_cut {stop bytes : Int} {ts : List St.T} {l : List (Int × Tx)} {i : Nat} (hi : i < l.length) (h : (i : Int) = stop) : go stop bytes i ts (l.drop i) = (step ts l[i].1 (l[i].2.take (min (max bytes 0) (l[i].2.length : Int)).toNat), true) := by
  rw [List.drop_eq_getElem_cons hi]
  obtain ⟨k, b⟩ := l[i]
  rw [go, if_pos h]
theorem go_on {stop bytes : Int} {ts : List St.T} {l : List (Int × Tx)} {i : Nat} (hi : i < l.length) (h : (i : Int) ≠ stop) : go stop bytes i ts (l.drop i) = go stop bytes (i + 1) (step ts l[i].1 l[i].2) (l.drop (i + 1)) := by
  rw [List.drop_eq_getElem_cons hi]
  obtain ⟨k, b⟩ := l[i]
  rw [go, if_neg h]
theorem go_end {stop bytes : Int} {ts : List St.T} {l : List (Int × Tx)} {i : Nat} (hi : l.length ≤ i) : go stop bytes i ts (l.drop i) = (ts, false) := by
  rw [List.drop_eq_nil_of_le hi]; rfl
/-- steps without a cut -/
theorem go_all {stop bytes : Int} (h : stop < 0) : ∀ (l : List (Int × Tx)) (i : Nat) (ts : List St.T), go stop bytes i ts l = (l.foldl (fun ts x => step ts x.1 x.2) ts, false)
  | [], _, _ => rfl
  | (k, b) :: l, i, ts => by rw [go, if_neg (by omega), go_all h l]; rfl
/-- what a tape holds when it can be loaded -/
theorem load_ok {t : St.T} (h : Tp.loadE t.label t.cap t.blocks t.lost = 0) : Tp.right t.label t.cap t.blocks = true ∧ t.lost = false := by
  unfold Tp.loadE at h
  split at h
  · cases h
  · rename_i hr
    split at h
    · cases h
    · rename_i hl
      exact ⟨by cases hx : Tp.right t.label t.cap t.blocks with
        | true => rfl
        | false => exact absurd hx hr, by cases hx : t.lost with
        | false => rfl
        | true => exact absurd hx hl⟩
end Go.Proofs.YtndofmoepjfnfaaDoor.Wr
