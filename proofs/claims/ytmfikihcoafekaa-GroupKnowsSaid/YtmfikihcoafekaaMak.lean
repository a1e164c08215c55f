/- A row of structs made longer by append: where it lies then; and a row of seals with their labels. No function of the program. How package group compares two seals: by their numbers. -/
import Derived.Test.YtmfikihcoafekaaMaj
import Derived.Deep.AppendLies
import Derived.Test.YtmfikihcoafekaaMab
import Derived.Handy
import Derived.WalkSpells
import Derived.WalkLawsBesides
namespace Go.Proofs.Ytmfikihcoafekaa
open Go.RowKit
open Pt (Tx)

/-- append of some structs, and where the row lies then -/
theorem run_append_st {P : Program} {α : Type} (E : Enc α) (w : World) (t : TypeId) (base : Nat) (e : TypeId) (z : Value) (bytes : Nat) (ht : P.underlying t = some (.slice e)) (hi : (P.info? e).map (fun i => (i.zero, i.size, i.bytes)) = some (some z, E.k, bytes)) (hzs : z.cells.size = E.k)
    (v : Value) (l : List α) (hown : E.Own w base e v l) (ad : Addr) (m c : Nat) (l' : List α) (hm : m = l'.length) (hm0 : 0 < m) (hnews : ∀ j u, (E.cells l')[j]? = some u → w.cell? (ad.add j) = some u)
    (h63 : l.length + m ≤ maxLen) (hbytes : (l.length + m) * bytes ≤ 140737488355328) (hbase : base ≤ w.heap.size) (H : Nat) (hH : w.heap.size = H) :
    ∃ g cap w', (∀ ty, (Builtin.append_ #[t, t] ty #[v, .slice (some ad) m c]).run P w = .ok (.slice (some ⟨g, 0, none⟩) (l.length + m) cap) w') ∧ E.Own w' base e (.slice (some ⟨g, 0, none⟩) (l.length + m) cap) (l ++ l') ∧ w.grownBy w' v.ownBlock ∧ (v.ownBlock = some g ∨ g = H) ∧ g < w'.heap.size := by
  obtain ⟨i0, hi, hz0, hz1, hz2⟩ := info_parts hi
  subst hm
  obtain ⟨g, cap, w', h1, h2, h3, h4, h5⟩ := run_append_lies (P := P) w t t base e i0 z E.k bytes ht hi hz0 hz1 hz2 hzs E.pos v l.length (E.cells l) hown ad l'.length c (E.cells l') (E.cells_len l') hnews (E.cells_all l') hm0 h63 hbytes hbase H hH
  exact ⟨g, cap, w', fun ty => h1, by unfold Enc.Own; rw [E.cells_append, List.length_append]; exact h2, h3, h4, h5⟩
/-- the same at a plain region's list -/
theorem wpList_append_stL {P : Program} {α : Type} (E : Enc α) (w : World) {ops : Array Oper} {rest : List Oper} {o : Oper} {a : Act} {Q : Exit → Act → World → Prop} (hgd : o.guard = none) (s x : Operand) (t : TypeId)
    (ho : o.op = .call { callee := .builtin .append, args := #[s, x], argTypes := #[t, t] })
    (base : Nat) (e : TypeId) (z : Value) (bytes : Nat) (ht : P.underlying t = some (.slice e)) (hi : (P.info? e).map (fun i => (i.zero, i.size, i.bytes)) = some (some z, E.k, bytes)) (hzs : z.cells.size = E.k)
    (v : Value) (l : List α) (hs : a.eval s = v) (hown : E.Own w base e v l)
    (ad : Addr) (m c : Nat) (l' : List α) (hx : a.eval x = .slice (some ad) m c) (hm : m = l'.length) (hm0 : 0 < m) (hnews : ∀ j u, (E.cells l')[j]? = some u → w.cell? (ad.add j) = some u)
    (h63 : l.length + m ≤ maxLen) (hbytes : (l.length + m) * bytes ≤ 140737488355328) (hbase : base ≤ w.heap.size) (H : Nat) (hH : w.heap.size = H)
    (h : ∀ g cap w', E.Own w' base e (.slice (some ⟨g, 0, none⟩) (l.length + m) cap) (l ++ l') → w.grownBy w' v.ownBlock → (v.ownBlock = some g ∨ g = H) → g < w'.heap.size → wpList P ops Q rest (a.put o.dst (.slice (some ⟨g, 0, none⟩) (l.length + m) cap)) w') : wpList P ops Q (o :: rest) a w := by
  obtain ⟨i0, hi, hz0, hz1, hz2⟩ := info_parts hi
  subst hm
  exact wpList_append_lies w hgd s x t ho base e i0 z E.k bytes ht hi hz0 hz1 hz2 hzs E.pos v l.length (E.cells l) hs hown ad l'.length c (E.cells l') hx (E.cells_len l') hnews (E.cells_all l') hm0 h63 hbytes hbase H hH (fun g cap w' h2 h3 h4 h5 => h g cap w' (by unfold Enc.Own; rw [E.cells_append, List.length_append]; exact h2) h3 h4 h5)
/-- a row that reads, as the cells that are to be appended -/
theorem Enc.Rd.news {α : Type} {E : Enc α} {w : World} {ad : Addr} {l : List α} {G : Nat → Prop} (h : E.Rd w (some ad) l G) : ∀ j u, (E.cells l)[j]? = some u → w.cell? (ad.add j) = some u := by
  intro j u hu
  have hj := (List.getElem?_eq_some_iff.1 hu).1
  rw [E.cells_len] at hj
  have hi : j / E.k < l.length := Nat.div_lt_of_lt_mul (by rw [Nat.mul_comm]; exact hj)
  have hr : j % E.k < E.k := Nat.mod_lt _ E.pos
  have hjj : j / E.k * E.k + j % E.k = j := by rw [Nat.mul_comm]; exact Nat.div_add_mod j E.k
  obtain ⟨b, off, e, -, hc⟩ := h.at_ hi
  cases e
  have h1 := E.cells_get l (j / E.k) (j % E.k) hr hi
  rw [hjj, hu] at h1
  have h2 := hc (j % E.k) u h1.symm
  rw [addr_add, ← h2]
  congr 2; omega
/-- append of what may be nil -/
theorem wpList_append_optS {P : Program} {α : Type} (E : Enc α) (w : World) {ops : Array Oper} {rest : List Oper} {o : Oper} {a : Act} {Q : Exit → Act → World → Prop} (hgd : o.guard = none) (s x : Operand) (t : TypeId)
    (ho : o.op = .call { callee := .builtin .append, args := #[s, x], argTypes := #[t, t] })
    (base : Nat) (e : TypeId) (z : Value) (bytes : Nat) (ht : P.underlying t = some (.slice e)) (hi : (P.info? e).map (fun i => (i.zero, i.size, i.bytes)) = some (some z, E.k, bytes)) (hzs : z.cells.size = E.k)
    (v : Value) (l : List α) (hs : a.eval s = v) (hown : E.Own w base e v l)
    (A : Option Addr) (m c : Nat) (l' : List α) (hx : a.eval x = .slice A m c) (hA : A = none → m = 0 ∧ c = 0) (hm : m = l'.length) (hnews : ∀ ad, A = some ad → ∀ j u, (E.cells l')[j]? = some u → w.cell? (ad.add j) = some u)
    (h63 : l.length + m ≤ maxLen) (hbytes : (l.length + m) * bytes ≤ 140737488355328) (hbase : base ≤ w.heap.size)
    (h : ∀ v' w', E.Own w' base e v' (l ++ l') → w.grownBy w' v.ownBlock → wpList P ops Q rest (a.put o.dst v') w') : wpList P ops Q (o :: rest) a w := by
  obtain ⟨i0, hi, hz0, hz1, hz2⟩ := info_parts hi
  cases A with
  | none =>
    obtain ⟨rfl, rfl⟩ := hA rfl
    have hn : l' = [] := List.length_eq_zero_iff.1 hm.symm
    subst hn
    refine wpList_append_own_none hgd s x t ho base e i0 E.k ht hi v l.length (E.cells l) hs hown hx (h v w ?_ (grown_refl w _))
    rw [List.append_nil]; exact hown
  | some ad =>
    subst hm
    exact wpList_append_own w hgd s x t ho base e i0 z E.k bytes ht hi hz0 hz1 hz2 hzs E.pos v l.length (E.cells l) hs hown ad l'.length c (E.cells l') hx (E.cells_len l') (hnews ad rfl) (E.cells_all l') h63 hbytes hbase (fun v' w' h2 h3 _ => h v' w' (by unfold Enc.Own; rw [E.cells_append, List.length_append]; exact h2) h3)
/-- seals that are gathered in an own row, each with labels of its own somewhere else -/
structure FindI (w : World) (v : Value) (xs : List Sx) (wr : World) : Prop where
  own : encX.Own wr w.heap.size 41 v xs
  ok : ∀ x ∈ xs, x.Ok wr (fun b => w.heap.size ≤ b ∧ v.ownBlock ≠ some b)
  bel : Below w.heap.size w wr
namespace FindI
variable {w wr w2 w3 : World} {v : Value} {xs : List Sx}
theorem start (w : World) : FindI w (.slice none 0 0) [] w := ⟨Enc.Own.nil _ _ _, (fun x hx => by cases hx), Below.refl _ _⟩
theorem old (h : FindI w v xs wr) (hb : Below wr.heap.size wr w2) : FindI w v xs w2 :=
  ⟨h.own.old hb, fun x hx => (h.ok x hx).old hb, h.bel.trans (hb.mono h.bel.size)⟩
/-- one more, whose labels are new -/
theorem push (h : FindI w v xs wr) {x : Sx} (hb : Below wr.heap.size wr w2) (hx : x.Ok w2 (wr.heap.size ≤ ·)) {o : Obj} {g n cap : Nat} (hown : encX.Own w3 w.heap.size 41 (.slice (some ⟨g, 0, none⟩) n cap) (xs ++ [x])) (hg : (w2.alloc o).grownBy w3 v.ownBlock) (hat : v.ownBlock = some g ∨ g = w2.heap.size + 1) : FindI w (.slice (some ⟨g, 0, none⟩) n cap) (xs ++ [x]) w3 := by
  have h2 := h.old hb
  have key : ∀ y : Sx, y.Ok w2 (fun b => w.heap.size ≤ b ∧ v.ownBlock ≠ some b) → y.Ok w3 (fun b => w.heap.size ≤ b ∧ (.slice (some ⟨g, 0, none⟩) n cap : Value).ownBlock ≠ some b) := fun y hy => by
    have hk : Kp (fun k => v.ownBlock = some k) w2 w3 := ((Kp.refl _ w2).alloc o).grown hg (fun k e => e)
    have h3 := hy.in_.kp hk (fun b hb => hb.1.2)
    refine h3.mono fun b hb => ⟨hb.1.1, fun e => ?_⟩
    have e' : g = b := by simpa [Value.ownBlock] using e
    rcases hat with hat | hat
    · exact hb.1.2 (by rw [hat, e'])
    · omega
  refine ⟨hown, fun y hy => ?_, ?_⟩
  · rcases List.mem_append.1 hy with hy | hy
    · exact key y (h2.ok y hy)
    · rw [List.mem_singleton.1 hy]
      exact key x (hx.mono fun b hb => ⟨by have := h.bel.size; omega, fun e => by have := (h.own.lt b e).2; omega⟩)
  · exact (h2.bel.alloc h2.bel.size _).grown hg (by have := h2.bel.size; simp; omega) (fun k hk => (h.own.lt k hk).1)
end FindI
/-- groups are answered: seals in a row, in new memory -/
def FindA (ss : List Rc.S) (w : World) (e : Ending) (w' : World) : Prop :=
  ∃ A C l, e = .returned (.slice A l.length C) ∧ l.map Sx.s = ss ∧ l.length ≤ C ∧ C ≤ maxLen ∧ (A = none → l.length = 0 ∧ C = 0) ∧ encX.Rd w' A l (w.heap.size ≤ ·) ∧ (∀ x ∈ l, x.Ok w' (w.heap.size ≤ ·)) ∧ Below w.heap.size w w'
theorem FindI.rd {w wr : World} {v : Value} {xs : List Sx} (h : FindI w v xs wr) : ∃ A C, v = .slice A xs.length C ∧ xs.length ≤ C ∧ C ≤ maxLen ∧ (A = none → xs.length = 0 ∧ C = 0) ∧ encX.Rd wr A xs (w.heap.size ≤ ·) ∧ (∀ x ∈ xs, x.Ok wr (w.heap.size ≤ ·)) ∧ Below w.heap.size w wr := by
  obtain ⟨A, C, h1, h2, h3, h4, h5⟩ := h.own.rd
  exact ⟨A, C, h1, h2, h3, h4, h5.mono (fun b hb => hb.1), fun x hx => (h.ok x hx).mono fun b hb => hb.1, h.bel⟩
end Go.Proofs.Ytmfikihcoafekaa
namespace Go.Proofs.Ytmfikihcoafekaa
open Go.RowKit
open Pt (Tx)

/-- -1, 0 or 1 -/
def cmpI (a b : Int) : Int := if a < b then -1 else if b < a then 1 else 0
theorem cmpI_lt {a b : Int} : decide (cmpI a b < 0) = decide (a < b) := by
  unfold cmpI
  by_cases h : a < b
  · rw [if_pos h, decide_eq_true h]; rfl
  · rw [if_neg h, decide_eq_false h]
    by_cases h2 : b < a
    · rw [if_pos h2]; rfl
    · rw [if_neg h2]; rfl
theorem nan_any (a : Int) (w : World) : Calls Try.prog 40 #[.int .i64 a] w fun e w' => e = .returned (.bool false) ∧ w = w' := by
  have e1 : (a != a) = false := by simp
  go_enter Try.func40, Try.ntmps40
  go_wp2
  go_ret
  exact ⟨rfl, rfl⟩
theorem compare_any (a b : Int) (w : World) : Calls Try.prog 20 #[.int .i64 a, .int .i64 b] w fun e w' => e = .returned (.int .i64 (cmpI a b)) ∧ w = w' := by
  by_cases h1 : a < b
  · have q1 : decide (a < b) = true := decide_eq_true h1
    have H : Hid (cmpI a b = -1) := Lib.hid (if_pos h1)
    clear h1
    go_enter Try.func20, Try.ntmps20
    go_wp2_with (go_at_call 40; refine (nan_any _ _).mono ?_; rintro e w' ⟨rfl, hw'⟩; subst hw')
    go_ret
    exact ⟨by rw [H.out]; rfl, rfl⟩
  · have q1 : decide (a < b) = false := decide_eq_false h1
    by_cases h2 : b < a
    · have q2 : decide (b < a) = true := decide_eq_true h2
      have H : Hid (cmpI a b = 1) := Lib.hid ((if_neg h1).trans (if_pos h2))
      clear h1 h2
      go_enter Try.func20, Try.ntmps20
      go_wp2_with (go_at_call 40; refine (nan_any _ _).mono ?_; rintro e w' ⟨rfl, hw'⟩; subst hw')
      go_ret
      exact ⟨by rw [H.out]; rfl, rfl⟩
    · have q2 : decide (b < a) = false := decide_eq_false h2
      have H : Hid (cmpI a b = 0) := Lib.hid ((if_neg h1).trans (if_neg h2))
      clear h1 h2
      go_enter Try.func20, Try.ntmps20
      go_wp2_with (go_at_call 40; refine (nan_any _ _).mono ?_; rintro e w' ⟨rfl, hw'⟩; subst hw')
      go_ret
      exact ⟨by rw [H.out]; rfl, rfl⟩
/-- two seals, each in a block of its own -/
theorem two_seals {w wb : World} {n x d p : Int} {A : Option Addr} {m C : Nat} {n' x' d' p' : Int} {A' : Option Addr} {m' C' : Nat} (h : wb = (w.alloc (sealObj n x d p A m C)).alloc (sealObj n' x' d' p' A' m' C')) :
    Below w.heap.size w wb ∧ wb.heap[w.heap.size]? = some (sealObj n x d p A m C) ∧ wb.heap[w.heap.size + 1]? = some (sealObj n' x' d' p' A' m' C') := by
  have hb1 : Below w.heap.size w (w.alloc (sealObj n x d p A m C)) := (Below.refl _ _).alloc (Nat.le_refl _) _
  have h1 : (w.alloc (sealObj n x d p A m C)).heap[w.heap.size]? = some (sealObj n x d p A m C) := Go.Deep.blk_alloc_new _ _
  have h2 := Go.Deep.blk_alloc_new (w.alloc (sealObj n x d p A m C)) (sealObj n' x' d' p' A' m' C')
  rw [show (w.alloc (sealObj n x d p A m C)).heap.size = w.heap.size + 1 by simp] at h2
  subst h
  exact ⟨hb1.alloc hb1.size _, (Below.heap_alloc _ _ _ (heap_lt h1)).trans h1, h2⟩
theorem less_any (n x d p : Int) (A : Option Addr) (m C : Nat) (n' x' d' p' : Int) (A' : Option Addr) (m' C' : Nat) (w : World) :
    Calls Try.prog 19 #[.agg #[.int .i64 n, .int .i64 x, .int .i64 d, .int .i64 p, .slice A m C], .agg #[.int .i64 n', .int .i64 x', .int .i64 d', .int .i64 p', .slice A' m' C']] w fun e w' => e = .returned (.int .i64 (cmpI n n')) ∧ Below w.heap.size w w' := by
  obtain ⟨wb, hwb⟩ : ∃ wb, wb = (w.alloc (sealObj n x d p A m C)).alloc (sealObj n' x' d' p' A' m' C') := ⟨_, rfl⟩
  obtain ⟨hB, h1, h2⟩ := two_seals hwb
  obtain ⟨a0, -, -, -, -⟩ := seal5 h1
  obtain ⟨b0, -, -, -, -⟩ := seal5 h2
  have HB := Lib.hid hB
  unfold sealObj at hwb
  rw [hwb] at a0 b0
  have HW := Lib.hid hwb
  clear hwb hB h1 h2
  go_enter Try.func19, Try.ntmps19
  go_wp2_with (go_at_call 20; refine (compare_any _ _ _).mono ?_; rintro e w' ⟨rfl, hw'⟩; subst hw')
  go_ret
  rw [← HW.out]
  exact ⟨rfl, HB.out⟩
theorem same_any (n x d p : Int) (A : Option Addr) (m C : Nat) (n' x' d' p' : Int) (A' : Option Addr) (m' C' : Nat) (w : World) :
    Calls Try.prog 22 #[.agg #[.int .i64 n, .int .i64 x, .int .i64 d, .int .i64 p, .slice A m C], .agg #[.int .i64 n', .int .i64 x', .int .i64 d', .int .i64 p', .slice A' m' C']] w fun e w' => e = .returned (.bool (n == n')) ∧ Below w.heap.size w w' := by
  obtain ⟨wb, hwb⟩ : ∃ wb, wb = (w.alloc (sealObj n x d p A m C)).alloc (sealObj n' x' d' p' A' m' C') := ⟨_, rfl⟩
  obtain ⟨hB, h1, h2⟩ := two_seals hwb
  obtain ⟨a0, -, -, -, -⟩ := seal5 h1
  obtain ⟨b0, -, -, -, -⟩ := seal5 h2
  have HB := Lib.hid hB
  unfold sealObj at hwb
  rw [hwb] at a0 b0
  have HW := Lib.hid hwb
  clear hwb hB h1 h2
  go_enter Try.func22, Try.ntmps22
  go_wp2
  go_ret
  rw [← HW.out]
  exact ⟨rfl, HB.out⟩
end Go.Proofs.Ytmfikihcoafekaa
