/- Plain mathematics: two matrices side by side, and the way of Gauss and Jordan on them. -/
import Derived.Test.YtmonhgefmapiaaaMxMath
namespace Go.Proofs.Ytmonhgefmapiaaa.Mx

/-- R and V side by side -/
def aug (n : Nat) (R V : Mat) : Mat := fun r c => if c < n then R r c else V r (c - n)
theorem aug_lo {n : Nat} {R V : Mat} {r c : Nat} (h : c < n) : aug n R V r c = R r c := if_pos h
theorem pvt_congr {R R' : Mat} {i : Nat} (h : ∀ r, R r i = R' r i) : ∀ f k, pvt R i f k = pvt R' i f k := by
  intro f
  induction f with
  | zero => intro k; rfl
  | succ f ih => intro k; simp only [pvt, h k, ih]
theorem rnd_eq (R A : Mat) (i p r c : Nat) : rnd R A i p r c = if r = i then inv (R p i) * A p c else (if r = p then A i c else A r c) + (if r = p then R i i else R r i) * (inv (R p i) * A p c) := by
  unfold rnd elm facs scaleOf scl swp
  by_cases e : r = i
  · simp only [e, if_true]
  · simp only [if_neg e, if_true]
/-- one round on both is one round on each -/
theorem aug_rnd {n : Nat} {R V : Mat} {i p : Nat} (hi : i < n) : rnd (aug n R V) (aug n R V) i p = aug n (rnd R R i p) (rnd R V i p) := by
  funext r c
  by_cases h : c < n
  · simp only [rnd_eq, aug, if_pos h, if_pos hi]
  · simp only [rnd_eq, aug, if_neg h, if_pos hi]
/-- a row is scaled ahead of being exchanged -/
theorem swp_scl {A : Mat} {i p : Nat} {s : Fe} : swp (fun r => if r = p then (fun c => s * A p c) else A r) i p = scl (swp A i p) i s := by
  funext r c
  unfold swp scl
  by_cases e : r = i
  · simp only [if_pos e, if_true]
  · simp only [if_neg e]
    by_cases e' : r = p
    · have : ¬ i = p := fun h => e (by rw [e', ← h])
      simp only [if_pos e', if_neg this]
    · simp only [if_neg e']
end Go.Proofs.Ytmonhgefmapiaaa.Mx
