/- Rows of bytes that a call owns and makes longer by append. No function of the program. -/
import Derived.Test.YtbaeoglgagiafaaMxWords
import Derived.Test.YtbaeoglgagiafaaApOpt
namespace Go.Proofs.Ytbaeoglgagiafaa
open Go.RowKit Mx

/-- one row behind the other -/
def jn (n : Nat) (r s : Nat → Fe) : Nat → Fe := fun i => if i < n then r i else s (i - n)
theorem jn_lo {n i : Nat} (r s : Nat → Fe) (h : i < n) : jn n r s i = r i := if_pos h
theorem jn_hi {n i : Nat} (r s : Nat → Fe) (h : n ≤ i) : jn n r s i = s (i - n) := if_neg (by omega)
theorem jn_at (n i : Nat) (r s : Nat → Fe) : jn n r s (n + i) = s i := by rw [jn_hi r s (by omega), Nat.add_sub_cancel_left]
theorem cellsOf_append (n m : Nat) (r s : Nat → Fe) : cellsOf n r ++ cellsOf m s = cellsOf (n + m) (jn n r s) := by
  apply List.ext_getElem?
  intro j
  rw [List.getElem?_append, cellsOf_len]
  by_cases h : j < n
  · rw [if_pos h, cellsOf_get h, cellsOf_get (by omega), jn_lo r s h]
  · rw [if_neg h]
    by_cases h' : j < n + m
    · rw [cellsOf_get (by omega), cellsOf_get h', jn_hi r s (by omega)]
    · rw [List.getElem?_eq_none (by rw [cellsOf_len]; omega), List.getElem?_eq_none (by rw [cellsOf_len]; omega)]
theorem cellsOf_congr {n : Nat} {r s : Nat → Fe} (h : ∀ i, i < n → r i = s i) : cellsOf n r = cellsOf n s :=
  List.map_congr_left fun i hi => by rw [h i (List.mem_range.1 hi)]
/-- v is a slice of the call's own that holds the n bytes of r -/
def OwnB (w : World) (base : Nat) (v : Value) (n : Nat) (r : Nat → Fe) : Prop := w.ownsRow base 5 1 v n (cellsOf n r)
namespace OwnB
variable {w w' : World} {base n : Nat} {v : Value} {r r' : Nat → Fe}
theorem nil (w : World) (base : Nat) (r : Nat → Fe) : OwnB w base (.slice none 0 0) 0 r := World.ownsRow_nil _ _ _ _
theorem congr (h : OwnB w base v n r) (he : ∀ i, i < n → r i = r' i) : OwnB w base v n r' := by unfold OwnB; rw [← cellsOf_congr he]; exact h
theorem alloc (h : OwnB w base v n r) (o : Obj) : OwnB (w.alloc o) base v n r := World.ownsRow.alloc h o
/-- as what reads -/
theorem rd (h : OwnB w base v n r) : ∃ A C, v = .slice A n C ∧ (A = none → n = 0 ∧ C = 0) ∧ Rd w A n r (fun b => base ≤ b) := by
  rcases h.2 with ⟨rfl, rfl⟩ | ⟨g, cap, cur, rfl, _, _, _⟩
  · exact ⟨none, 0, rfl, fun _ => ⟨rfl, rfl⟩, Rd.empty _ _ _ _⟩
  · refine ⟨_, cap, rfl, (fun h => by cases h), fun hn => ?_⟩
    obtain ⟨g', C', e, hb, _, hr⟩ := RowAt.of_owns h hn
    cases e
    exact hr.rd _ hb hn
theorem row (h : OwnB w base v n r) (hn : 0 < n) : ∃ g C, v = .slice (some ⟨g, 0, none⟩) n C ∧ base ≤ g ∧ n ≤ C ∧ RowAt w g n r := RowAt.of_owns h hn
theorem lo (h : OwnB w base v n r) : ∀ k, v.ownBlock = some k → base ≤ k := fun k hk => (World.ownsRow.lt h k hk).1
end OwnB
/-- append of bytes -/
theorem wpList_append_by (w : World) {ops : Array Oper} {rest : List Oper} {o : Oper} {a : Act} {Q : Exit → Act → World → Prop} (hgd : o.guard = none) (s x : Operand)
    (ho : o.op = .call { callee := .builtin .append, args := #[s, x], argTypes := #[22, 22] })
    (base : Nat) (v : Value) (n : Nat) (r : Nat → Fe) (hs : a.eval s = v) (hown : OwnB w base v n r)
    (A : Option Addr) (m c : Nat) (r' : Nat → Fe) (G : Nat → Prop) (hx : a.eval x = .slice A m c) (hA : A = none → m = 0 ∧ c = 0) (hr : Rd w A m r' G) (hb : n + m ≤ 140737488355328) (hbase : base ≤ w.heap.size)
    (h : ∀ v' w', OwnB w' base v' (n + m) (jn n r r') → w.grownBy w' v.ownBlock → wpList Try.prog ops Q rest (a.put o.dst v') w') : wpList Try.prog ops Q (o :: rest) a w := by
  obtain ⟨i0, hi, hz0, hz1, hz2⟩ := info_parts infoByte
  refine wpList_append_opt w hgd s x 22 ho base 5 i0 (.int .u8 0) 1 Try.underlying22 hi hz0 hz1 hz2 rfl v n (cellsOf n r) hs hown A m c (cellsOf m r') hx hA (cellsOf_len _ _) (fun ad had j u hu => ?_) cellsOf_one (by unfold maxLen; omega) (by omega) hbase (fun v' w' h1 h2 => h v' w' (by rw [cellsOf_append] at h1; exact h1) h2)
  obtain ⟨hj, rfl⟩ := cellsOf_some hu
  obtain ⟨b, off, e, _, hc⟩ := hr (by omega)
  rw [had] at e
  cases e
  rw [add_at]; exact hc j hj
/-- a row of bytes that came in: also that it is empty if it is nil -/
theorem Rd.grown {w w' : World} {A : Option Addr} {n : Nat} {r : Nat → Fe} {G : Nat → Prop} {row : Option Nat} (h : Rd w A n r G) (hg : w.grownBy w' row) (hne : ∀ b, G b → some b ≠ row) : Rd w' A n r G :=
  h.keep fun p _ hp hc => (World.cell?_of_block (hg.block p.block (World.block_lt_of_cell? _ _ hc) (hne _ hp))).trans hc
end Go.Proofs.Ytbaeoglgagiafaa
