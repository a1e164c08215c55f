/- What any files say: the newest of a path, one of a version, the next version and serial, and the paths that have a newest. No program. -/
import Derived.Test.YtjhbmijdpcbbiaaCtMath
namespace Go.Proofs.Ytjhbmijdpcbbiaa.Ls
open Pt (Tx)

/-- the first of the greatest, behind what is held -/
def pick (keep : Ct.F → Bool) (num : Ct.F → Int) (a : Option Ct.F) (f : Ct.F) : Option Ct.F :=
  if keep f = true then match a with
    | none => some f
    | some g => if num g < num f then some f else some g
  else a
def best (keep : Ct.F → Bool) (num : Ct.F → Int) (l : List Ct.F) : Option Ct.F := l.foldl (pick keep num) none
theorem best_snoc (keep : Ct.F → Bool) (num : Ct.F → Int) (l : List Ct.F) (f : Ct.F) : best keep num (l ++ [f]) = pick keep num (best keep num l) f := by unfold best; rw [List.foldl_append]; rfl
theorem best_take {keep : Ct.F → Bool} {num : Ct.F → Int} {l : List Ct.F} {i : Nat} (hi : i < l.length) : best keep num (l.take (i + 1)) = pick keep num (best keep num (l.take i)) l[i] := by
  rw [List.take_succ_eq_append_getElem hi, best_snoc]
theorem best_some {keep : Ct.F → Bool} {num : Ct.F → Int} : ∀ {n : Nat} {l : List Ct.F} {g : Ct.F}, l.length = n → best keep num l = some g → g ∈ l ∧ keep g = true ∧ ∀ f ∈ l, keep f = true → num f ≤ num g
  | 0, l, g, hl, h => by
    rw [List.length_eq_zero_iff.1 hl] at h
    cases h
  | n + 1, l, g, hl, h => by
    obtain ⟨r, f, rfl⟩ : ∃ r f, l = r ++ [f] := ⟨l.dropLast, l.getLast (by intro e; rw [e] at hl; cases hl), (List.dropLast_concat_getLast _).symm⟩
    have hr : r.length = n := by simpa using hl
    rw [best_snoc] at h
    unfold pick at h
    by_cases hk : keep f = true
    · rw [if_pos hk] at h
      cases hb : best keep num r with
      | none =>
        rw [hb] at h
        obtain rfl := Option.some.inj h
        refine ⟨by simp, hk, fun x hx hkx => ?_⟩
        rcases List.mem_append.1 hx with hx | hx
        · exfalso
          have key : ∀ (m : Nat) (s : List Ct.F), s.length = m → best keep num s = none → ∀ y ∈ s, keep y = false := by
            intro m
            induction m with
            | zero => intro s hs _ y hy; rw [List.length_eq_zero_iff.1 hs] at hy; cases hy
            | succ m ih =>
              intro s hs hn y hy
              obtain ⟨t, z, rfl⟩ : ∃ t z, s = t ++ [z] := ⟨s.dropLast, s.getLast (by intro e; rw [e] at hs; cases hs), (List.dropLast_concat_getLast _).symm⟩
              rw [best_snoc] at hn
              unfold pick at hn
              by_cases hz : keep z = true
              · rw [if_pos hz] at hn
                cases hb2 : best keep num t with
                | none => rw [hb2] at hn; cases hn
                | some q => rw [hb2] at hn; simp only at hn; split at hn <;> cases hn
              · rw [if_neg hz] at hn
                rcases List.mem_append.1 hy with hy | hy
                · exact ih t (by simpa using hs) hn y hy
                · rw [List.mem_singleton.1 hy]; simpa using hz
          have := key r.length r rfl hb x hx
          rw [hkx] at this; cases this
        · rw [List.mem_singleton.1 hx]; exact Int.le_refl _
      | some q =>
        rw [hb] at h
        obtain ⟨h1, h2, h3⟩ := best_some hr hb
        simp only at h
        by_cases hlt : num q < num f
        · rw [if_pos hlt] at h
          obtain rfl := Option.some.inj h
          refine ⟨by simp, hk, fun x hx hkx => ?_⟩
          rcases List.mem_append.1 hx with hx | hx
          · have := h3 x hx hkx; omega
          · rw [List.mem_singleton.1 hx]; exact Int.le_refl _
        · rw [if_neg hlt] at h
          obtain rfl := Option.some.inj h
          refine ⟨List.mem_append_left _ h1, h2, fun x hx hkx => ?_⟩
          rcases List.mem_append.1 hx with hx | hx
          · exact h3 x hx hkx
          · rw [List.mem_singleton.1 hx]; omega
    · rw [if_neg hk] at h
      obtain ⟨h1, h2, h3⟩ := best_some hr h
      refine ⟨List.mem_append_left _ h1, h2, fun x hx hkx => ?_⟩
      rcases List.mem_append.1 hx with hx | hx
      · exact h3 x hx hkx
      · rw [List.mem_singleton.1 hx] at hkx; exact absurd hkx hk
def ofPath (p : Tx) (f : Ct.F) : Bool := f.path == p
def live : Option Ct.F → Option Ct.F
  | none => none
  | some f => if f.gone = true then none else some f
def newest (l : List Ct.F) (p : Tx) : Option Ct.F := live (best (ofPath p) (fun f => f.version) l)
def get (l : List Ct.F) (p : Tx) (v : Int) : Option Ct.F := if v = 0 then newest l p else live (l.find? fun f => ofPath p f && f.version == v)
def after (num : Ct.F → Int) : Option Ct.F → Int
  | none => 1
  | some f => num f + 1
def next (l : List Ct.F) (p : Tx) : Int := after (fun f => f.version) (best (ofPath p) (fun f => f.version) l)
def serial (l : List Ct.F) : Int := after (fun f => f.serial) (best (fun _ => true) (fun f => f.serial) l)
/-- a path comes among rising ones -/
def ins (p : Tx) : List Tx → List Tx
  | [] => [p]
  | q :: l => if q < p then q :: ins p l else if q = p then q :: l else p :: q :: l
def namesW (l : List Ct.F) : List Ct.F → List Tx
  | [] => []
  | f :: r => if (newest l f.path).isSome = true then ins f.path (namesW l r) else namesW l r
theorem mem_ins {p q : Tx} : ∀ {l : List Tx}, q ∈ ins p l ↔ q = p ∨ q ∈ l
  | [] => by simp [ins]
  | a :: l => by
    rw [ins]
    split
    · rw [List.mem_cons, mem_ins, List.mem_cons]
      constructor
      · rintro (h | h | h) <;> simp [h]
      · rintro (h | h | h) <;> simp [h]
    · split
      · rename_i h1 h2
        subst h2
        simp
      · simp
/-- rising, each once -/
def Up (l : List Tx) : Prop := l.Pairwise fun a b => a < b
theorem up_ins {p : Tx} : ∀ {l : List Tx}, Up l → Up (ins p l)
  | [], _ => by simp [Up, ins]
  | a :: l, h => by
    obtain ⟨h1, h2⟩ := List.pairwise_cons.1 h
    rw [ins]
    split
    · rename_i hlt
      refine List.pairwise_cons.2 ⟨fun b hb => ?_, up_ins h2⟩
      rcases mem_ins.1 hb with rfl | hb
      · exact hlt
      · exact h1 b hb
    · split
      · exact h
      · rename_i h3 h4
        have h5 : p < a := by
          by_cases h5 : p < a
          · exact h5
          · exact absurd (List.le_antisymm (List.not_lt.1 h5) (List.not_lt.1 h3)) h4
        refine List.pairwise_cons.2 ⟨fun b hb => ?_, h⟩
        rcases List.mem_cons.1 hb with rfl | hb
        · exact h5
        · exact List.lt_trans h5 (h1 b hb)
/-- two that rise and hold the same are one -/
theorem up_ext : ∀ {l r : List Tx}, Up l → Up r → (∀ p, p ∈ l ↔ p ∈ r) → l = r
  | [], [], _, _, _ => rfl
  | [], b :: r, _, _, h => by have := (h b).2 List.mem_cons_self; cases this
  | a :: l, [], _, _, h => by have := (h a).1 List.mem_cons_self; cases this
  | a :: l, b :: r, hl, hr, h => by
    obtain ⟨h1, h2⟩ := List.pairwise_cons.1 hl
    obtain ⟨h3, h4⟩ := List.pairwise_cons.1 hr
    have e : a = b := by
      rcases List.mem_cons.1 ((h a).1 List.mem_cons_self) with e | e
      · exact e
      · rcases List.mem_cons.1 ((h b).2 List.mem_cons_self) with e2 | e2
        · exact e2.symm
        · exact absurd (List.lt_trans (h3 a e) (h1 b e2)) (List.lt_irrefl _)
    subst e
    rw [up_ext h2 h4 fun p => ⟨fun hp => ?_, fun hp => ?_⟩]
    · rcases List.mem_cons.1 ((h p).1 (List.mem_cons_of_mem _ hp)) with e | e
      · subst e; exact absurd (h1 p hp) (List.lt_irrefl _)
      · exact e
    · rcases List.mem_cons.1 ((h p).2 (List.mem_cons_of_mem _ hp)) with e | e
      · subst e; exact absurd (h3 p hp) (List.lt_irrefl _)
      · exact e
def names (l : List Ct.F) : List Tx := namesW l l
theorem mem_namesW {l : List Ct.F} {p : Tx} : ∀ {r : List Ct.F}, p ∈ namesW l r ↔ (∃ f ∈ r, f.path = p) ∧ (newest l p).isSome = true
  | [] => by simp [namesW]
  | f :: r => by
    rw [namesW]
    split
    · rename_i h
      rw [mem_ins, mem_namesW]
      constructor
      · rintro (rfl | ⟨⟨g, hg, rfl⟩, h2⟩)
        · exact ⟨⟨f, List.mem_cons_self, rfl⟩, h⟩
        · exact ⟨⟨g, List.mem_cons_of_mem _ hg, rfl⟩, h2⟩
      · rintro ⟨⟨g, hg, rfl⟩, h2⟩
        rcases List.mem_cons.1 hg with rfl | hg
        · exact .inl rfl
        · exact .inr ⟨⟨g, hg, rfl⟩, h2⟩
    · rename_i h
      rw [mem_namesW]
      constructor
      · rintro ⟨⟨g, hg, rfl⟩, h2⟩
        exact ⟨⟨g, List.mem_cons_of_mem _ hg, rfl⟩, h2⟩
      · rintro ⟨⟨g, hg, rfl⟩, h2⟩
        rcases List.mem_cons.1 hg with rfl | hg
        · exact absurd h2 h
        · exact ⟨⟨g, hg, rfl⟩, h2⟩
theorem up_namesW {l : List Ct.F} : ∀ {r : List Ct.F}, Up (namesW l r)
  | [] => List.Pairwise.nil
  | f :: r => by
    rw [namesW]
    split
    · exact up_ins up_namesW
    · exact up_namesW
theorem newest_there {l : List Ct.F} {p : Tx} (h : (newest l p).isSome = true) : ∃ f ∈ l, f.path = p := by
  unfold newest live at h
  cases hb : best (ofPath p) (fun f => f.version) l with
  | none => rw [hb] at h; cases h
  | some g =>
    obtain ⟨h1, h2, -⟩ := best_some rfl hb
    exact ⟨g, h1, by simpa [ofPath] using h2⟩
theorem mem_names {l : List Ct.F} {p : Tx} : p ∈ names l ↔ (newest l p).isSome = true := by
  unfold names
  rw [mem_namesW]
  exact ⟨fun h => h.2, fun h => ⟨newest_there h, h⟩⟩
theorem up_names (l : List Ct.F) : Up (names l) := up_namesW
/-- whatever rises and holds just the paths that have a newest -/
theorem names_of {l : List Ct.F} {r : List Tx} (h : Up r) (h2 : ∀ p, p ∈ r ↔ (newest l p).isSome = true) : names l = r :=
  up_ext (up_names l) h fun p => by rw [mem_names, h2]
end Go.Proofs.Ytjhbmijdpcbbiaa.Ls
