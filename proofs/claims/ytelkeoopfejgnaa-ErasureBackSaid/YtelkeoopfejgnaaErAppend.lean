/- Rows of slices as lists, and append of a source that may be nil. No function of the program. -/
import Derived.Test.YtelkeoopfejgnaaErTopA
import Derived.Laws.AppendOwnNone
namespace Go.Proofs.Ytelkeoopfejgnaa
open Go.RowKit Mx

/-- the slices that a slice of slices holds -/
theorem RdM.tops {w : World} {A : Option Addr} {n : Nat} {L : Nat → Nat} {M : Mat} {G : Nat → Prop} (h : RdM w A n L M G) :
    ∃ (As : Nat → Option Addr) (Cs : Nat → Nat), (∀ a, 0 < n → A = some a → ∀ j u, (topsOf n As L Cs)[j]? = some u → w.cell? (a.add j) = some u) ∧ ∀ i, i < n → Rd w (As i) (L i) (M i) G := by
  have hx : ∀ i, ∃ ac : Option Addr × Nat, i < n → (∀ a, A = some a → w.cell? (a.add i) = some (.slice ac.1 (L i) ac.2)) ∧ Rd w ac.1 (L i) (M i) G := fun i => by
    by_cases hi : i < n
    · obtain ⟨b, off, A', C', e, _, hc, hr⟩ := h.row hi
      refine ⟨(A', C'), fun _ => ⟨fun a ha => ?_, hr⟩⟩
      rw [e] at ha
      cases ha
      rw [add_at]; exact hc
    · exact ⟨(none, 0), fun hh => absurd hh hi⟩
  obtain ⟨f, hf⟩ := Classical.axiomOfChoice hx
  refine ⟨fun i => (f i).1, fun i => (f i).2, fun a h0 ha j u hu => ?_, fun i hi => (hf i hi).2⟩
  have hj : j < n := by
    rcases Nat.lt_or_ge j n with h' | h'
    · exact h'
    · rw [List.getElem?_eq_none (by rw [topsOf_len]; exact h')] at hu; cases hu
  rw [topsOf_get hj] at hu
  cases hu
  exact (hf j hj).1 a ha
theorem topsOf_append (n p : Nat) (A A' : Nat → Option Addr) (L L' C C' : Nat → Nat) : topsOf n A L C ++ topsOf p A' L' C' = topsOf (n + p) (fun i => if i < n then A i else A' (i - n)) (fun i => if i < n then L i else L' (i - n)) (fun i => if i < n then C i else C' (i - n)) := by
  apply List.ext_getElem?
  intro j
  rw [List.getElem?_append, topsOf_len]
  by_cases h : j < n
  · rw [if_pos h, topsOf_get h, topsOf_get (by omega)]
    simp only [h, if_true]
  · rw [if_neg h]
    by_cases h' : j < n + p
    · rw [topsOf_get (by omega), topsOf_get h']
      simp only [h, if_false]
    · rw [List.getElem?_eq_none (by rw [topsOf_len]; omega), List.getElem?_eq_none (by rw [topsOf_len]; omega)]
theorem topsOf_congr {n : Nat} {A : Nat → Option Addr} {L L' C : Nat → Nat} (h : ∀ i, i < n → L i = L' i) : topsOf n A L C = topsOf n A L' C :=
  List.map_congr_left fun i hi => by rw [h i (List.mem_range.1 hi)]
theorem grown_refl (w : World) (o : Option Nat) : w.grownBy w o := ⟨rfl, rfl, rfl, Nat.le_refl _, fun _ _ _ => rfl⟩
/-- append of what may be nil -/
theorem wpList_append_opt {P : Program} (w : World) {ops : Array Oper} {rest : List Oper} {o : Oper} {a : Act} {Q : Exit → Act → World → Prop} (hgd : o.guard = none) (s x : Operand) (t : TypeId)
    (ho : o.op = .call { callee := .builtin .append, args := #[s, x], argTypes := #[t, t] })
    (base : Nat) (e : TypeId) (i : TypeInfo) (z : Value) (bytes : Nat) (ht : P.underlying t = some (.slice e)) (hi : P.info? e = some i) (hz : i.zero = some z)
    (hsize : i.size = 1) (hby : i.bytes = bytes) (hzs : z.cells.size = 1)
    (v : Value) (n : Nat) (xs : List Value) (hs : a.eval s = v) (hown : w.ownsRow base e 1 v n xs)
    (A : Option Addr) (m c : Nat) (news : List Value) (hx : a.eval x = .slice A m c) (hA : A = none → m = 0 ∧ c = 0) (hl : news.length = m) (hnews : ∀ ad, A = some ad → ∀ j u, news[j]? = some u → w.cell? (ad.add j) = some u) (h1 : ∀ u ∈ news, u.oneCell' = true)
    (h63 : n + m ≤ maxLen) (hbytes : (n + m) * bytes ≤ 140737488355328) (hbase : base ≤ w.heap.size)
    (h : ∀ v' w', w'.ownsRow base e 1 v' (n + m) (xs ++ news) → w.grownBy w' v.ownBlock → wpList P ops Q rest (a.put o.dst v') w') : wpList P ops Q (o :: rest) a w := by
  cases A with
  | none =>
    obtain ⟨rfl, rfl⟩ := hA rfl
    have hn : news = [] := List.length_eq_zero_iff.1 hl
    subst hn
    refine wpList_append_own_none hgd s x t ho base e i 1 ht hi v n xs hs hown hx (h v w ?_ (grown_refl w _))
    rw [List.append_nil]; exact hown
  | some ad =>
    exact wpList_append_own w hgd s x t ho base e i z 1 bytes ht hi hz hsize hby hzs (by decide) v n xs hs hown ad m c news hx (by rw [hl, Nat.mul_one]) (hnews ad rfl) h1 h63 hbytes hbase (fun v' w' h2 h3 _ => h v' w' h2 h3)
end Go.Proofs.Ytelkeoopfejgnaa
