/- A slice of slices of bytes: what its element is. No function of the program. A slice of slices of the law's own, made by append, each row its own. No function of the program. The document's own tape in memory, behind a pointer. No function of the program. A byte of one of a tape's own rows is turned. No function of the program. Numbers of a byte and of an int: bits, and the field of 256 on whole numbers (gmul, gadd, ginv, gpow). No function of the program. -/
import Derived.Test.YtnbfkihgloipiaaMc
import Derived.Test.YtnbfkihgloipiaaChecked
import Derived.Test.YtnbfkihgloipiaaMj
import Derived.Test.YtnbfkihgloipiaaRows
import Derived.Test.YtnbfkihgloipiaaMa
import Derived.WalkKit
import Derived.ProofKit
import Derived.Lib.Hide
import Derived.Laws.BitsLemmas
import Derived.IntWalk
namespace Go.Proofs.Ytnbfkihgloipiaa
open Go.RowKit

theorem infoRowT : (Try.prog.info? 36).map (fun i => (i.zero, i.size, i.bytes)) = some (some (.slice none 0 0), 1, 24) := by kernel_rfl
end Go.Proofs.Ytnbfkihgloipiaa
namespace Go.Proofs.Ytnbfkihgloipiaa
open Go.RowKit
open Pt (Tx)

/-- v is a slice of the call's own whose rows us are the call's own, hold bs, and lie in blocks of G, no two in one -/
structure TopB (w : World) (B : Nat) (G : Nat → Prop) (v : Value) (us : List Value) (bs : List Tx) : Prop where
  top : w.ownsRow B 36 1 v us.length us
  len : us.length = bs.length
  rows : ∀ i (h : i < us.length) (h' : i < bs.length), OwnL w B us[i] bs[i]
  gs : ∀ i (h : i < us.length) k, us[i].ownBlock = some k → G k
  inj : ∀ i j (hi : i < us.length) (hj : j < us.length) k, us[i].ownBlock = some k → us[j].ownBlock = some k → i = j
theorem own_blk {w : World} {B : Nat} {t : TypeId} {v : Value} {n : Nat} {xs : List Value} (h : w.ownsRow B t 1 v n xs) : ∀ k, v.ownBlock = some k → ∃ c, w.heap[k]? = some (.cells c t (0, 0)) := by
  intro k hk
  rcases h.2 with ⟨rfl, _⟩ | ⟨g, cap, cur, rfl, _, hg, _⟩
  · cases hk
  · cases hk; exact ⟨cur, hg⟩
theorem own_of {w w' : World} {B : Nat} {t : TypeId} {v : Value} {n : Nat} {xs : List Value} (h : w.ownsRow B t 1 v n xs) (hb : ∀ k, v.ownBlock = some k → w'.heap[k]? = w.heap[k]?) : w'.ownsRow B t 1 v n xs := by
  refine ⟨h.1, ?_⟩
  rcases h.2 with h0 | ⟨g, cap, cur, rfl, hb', hg, hr⟩
  · exact .inl h0
  · exact .inr ⟨g, cap, cur, rfl, hb', (hb g rfl).trans hg, hr⟩
namespace TopB
variable {w w' : World} {B : Nat} {G G' : Nat → Prop} {v : Value} {us : List Value} {bs : List Tx}
theorem nil (w : World) (B : Nat) (G : Nat → Prop) : TopB w B G (.slice none 0 0) [] [] :=
  ⟨World.ownsRow_nil _ _ _ _, rfl, fun i h => absurd h (by simp), fun i h => absurd h (by simp), fun i j h => absurd h (by simp)⟩
/-- what is not touched is as it was -/
theorem kp {S : Nat → Prop} (h : TopB w B G v us bs) (hk : Kp S w w') (h1 : ∀ k c, S k → w.heap[k]? ≠ some (.cells c 36 (0, 0))) (h2 : ∀ k, S k → ¬ G k) : TopB w' B G v us bs := by
  refine ⟨own_of h.top fun k e => ?_, h.len, fun i hi hi' => (h.rows i hi hi').kp hk fun k e hs => h2 k hs (h.gs i hi k e), h.gs, h.inj⟩
  obtain ⟨c, hc⟩ := own_blk h.top k e
  exact hk.block k (heap_lt hc) fun hs => h1 k c hs hc
/-- the same, told by what lies there -/
theorem kpT {S : Nat → Prop} (h : TopB w B G v us bs) (hk : Kp S w w') (h1 : ∀ k c, S k → w.heap[k]? ≠ some (.cells c 36 (0, 0))) (h2 : ∀ k c, S k → w.heap[k]? ≠ some (.cells c 5 (0, 0))) : TopB w' B G v us bs := by
  refine ⟨own_of h.top fun k e => ?_, h.len, fun i hi hi' => (h.rows i hi hi').kp hk fun k e hs => ?_, h.gs, h.inj⟩
  · obtain ⟨c, hc⟩ := own_blk h.top k e
    exact hk.block k (heap_lt hc) fun hs => h1 k c hs hc
  · obtain ⟨c, hc⟩ := (h.rows i hi hi').block k e
    exact h2 k c hs hc
theorem old (h : TopB w B G v us bs) (hb : Below w.heap.size w w') : TopB w' B G v us bs :=
  h.kp (S := fun _ => False) (Kp.of_below hb) (fun _ _ h => h.elim) (fun _ h => h.elim)
theorem mono (h : TopB w B G v us bs) (hg : ∀ k, G k → G' k) : TopB w B G' v us bs := ⟨h.top, h.len, h.rows, fun i hi k e => hg k (h.gs i hi k e), h.inj⟩
/-- all its rows are there -/
theorem there (h : TopB w B G v us bs) : TopB w B (fun k => G k ∧ k < w.heap.size) v us bs :=
  ⟨h.top, h.len, h.rows, fun i hi k e => ⟨h.gs i hi k e, (h.rows i hi (by rw [← h.len]; exact hi)).lt k e⟩, h.inj⟩
/-- as a value -/
theorem val (h : TopB w B G v us bs) : ∃ A C, v = .slice A bs.length C ∧ bs.length ≤ C ∧ C ≤ maxLen ∧ (A = none → bs.length = 0 ∧ C = 0) := by
  rcases h.top.2 with ⟨rfl, h0⟩ | ⟨g, cap, cur, rfl, _, _, hnc, hcm, _⟩
  · have : bs.length = 0 := by rw [← h.len, h0]
    exact ⟨none, 0, by rw [this], by omega, by decide, fun _ => ⟨this, rfl⟩⟩
  · exact ⟨_, cap, by rw [← h.len], by rw [← h.len]; exact hnc, hcm, fun h => by cases h⟩
/-- as what reads -/
theorem rdB {A : Option Addr} {n C : Nat} (h : TopB w B G (.slice A n C) us bs) : RdB w A bs (fun k => B ≤ k) := by
  intro hn
  rcases h.top.2 with ⟨e, h0⟩ | ⟨g, cap, cur, e, hb, hg, hnc, _, hs, ht⟩
  · have := h.len; omega
  · injection e with e1 e2 e3
    subst e1
    refine ⟨g, 0, rfl, hb, fun i hi => ?_⟩
    have hi' : i < us.length := by rw [h.len]; exact hi
    obtain ⟨A', C', hv, h1, -, h2, h3⟩ := (h.rows i hi' hi).rd
    refine ⟨A', C', ?_, h1, h2, h3.mono fun _ h => h.1⟩
    have hx : us[i]? = some (.slice A' bs[i].length C') := by rw [List.getElem?_eq_getElem hi', hv]
    rw [← ht, List.getElem?_take, if_pos (by omega), Array.getElem?_toList] at hx
    rw [Nat.zero_add, heap_cell hg, hx]
/-- a row is appended -/
theorem push (h : TopB w B G v us bs) {w1 : World} (hw : Below w.heap.size w w1) {u : Value} {s : Tx} (hu : OwnL w1 B u s) (hun : ∀ k, u.ownBlock = some k → w.heap.size ≤ k) (hG : ∀ k, u.ownBlock = some k → G k) {v' : Value} (ho : w'.ownsRow B 36 1 v' (us.length + 1) (us ++ [u])) (hg : w1.grownBy w' v.ownBlock) :
    TopB w' B G v' (us ++ [u]) (bs ++ [s]) := by
  have keep : ∀ {x : Value} {l : Tx}, OwnL w1 B x l → OwnL w' B x l := fun {x l} hx => hx.of_block fun k e => by
    refine hg.block k (hx.lt k e) fun e' => ?_
    obtain ⟨c, hc⟩ := own_blk h.top k e'.symm
    obtain ⟨c', hc'⟩ := hx.block k e
    rw [hw.block k (heap_lt hc), hc] at hc'
    injection hc' with hc'
    injection hc' with _ e2
    exact absurd e2 (by decide)
  have oldlt : ∀ i (hi : i < us.length) k, us[i].ownBlock = some k → k < w.heap.size := fun i hi k e => (h.rows i hi (by rw [← h.len]; exact hi)).lt k e
  refine ⟨by simpa using ho, by simp [h.len], fun i hi hi' => ?_, fun i hi k e => ?_, fun i j hi hj k e e' => ?_⟩
  · rcases Nat.lt_or_ge i us.length with hl | hl
    · rw [List.getElem_append_left hl, List.getElem_append_left (by rw [← h.len]; exact hl)]
      exact keep ((h.rows i hl (by rw [← h.len]; exact hl)).of_block fun k e => hw.block k (oldlt i hl k e))
    · have : i = us.length := by simp at hi; omega
      subst this
      have e2 : (bs ++ [s])[us.length] = s := by simp [h.len]
      rw [e2]
      simp only [List.getElem_concat_length]
      exact keep hu
  · rcases Nat.lt_or_ge i us.length with hl | hl
    · rw [List.getElem_append_left hl] at e
      exact h.gs i hl k e
    · have : i = us.length := by simp at hi; omega
      subst this
      simp only [List.getElem_concat_length] at e
      exact hG k e
  · rcases Nat.lt_or_ge i us.length with hl | hl <;> rcases Nat.lt_or_ge j us.length with hm | hm
    · rw [List.getElem_append_left hl] at e
      rw [List.getElem_append_left hm] at e'
      exact h.inj i j hl hm k e e'
    · have : j = us.length := by simp at hj; omega
      subst this
      rw [List.getElem_append_left hl] at e
      simp only [List.getElem_concat_length] at e'
      have := oldlt i hl k e
      have := hun k e'
      omega
    · have : i = us.length := by simp at hi; omega
      subst this
      rw [List.getElem_append_left hm] at e'
      simp only [List.getElem_concat_length] at e
      have := oldlt j hm k e'
      have := hun k e
      omega
    · simp at hi hj; omega
end TopB
/-- append of one row -/
theorem wpList_append_tp (w : World) {ops : Array Oper} {rest : List Oper} {o : Oper} {a : Act} {Q : Exit → Act → World → Prop} (hgd : o.guard = none) (s x : Operand)
    (ho : o.op = .call { callee := .builtin .append, args := #[s, x], argTypes := #[33, 33] })
    (base : Nat) (v : Value) (us : List Value) (hs : a.eval s = v) (hown : w.ownsRow base 36 1 v us.length us) (hl : us.length ≤ 1000000)
    (b off c : Nat) (A : Option Addr) (L C : Nat) (hx : a.eval x = .slice (some ⟨b, off, none⟩) 1 c) (hc : w.cell? ⟨b, off, none⟩ = some (.slice A L C)) (hbase : base ≤ w.heap.size)
    (h : ∀ v' w', w'.ownsRow base 36 1 v' (us.length + 1) (us ++ [.slice A L C]) → w.grownBy w' v.ownBlock → wpList Try.prog ops Q rest (a.put o.dst v') w') : wpList Try.prog ops Q (o :: rest) a w := by
  obtain ⟨i0, hi, hz0, hz1, hz2⟩ := info_parts infoRowT
  refine wpList_append_opt w hgd s x 33 ho base 36 i0 (.slice none 0 0) 24 Try.underlying33 hi hz0 hz1 hz2 rfl v us.length us hs hown (some ⟨b, off, none⟩) 1 c [.slice A L C] hx (fun h => by cases h) rfl (fun ad had j u hu => ?_) (fun u hu => by rw [List.mem_singleton.1 hu]; rfl) (by unfold maxLen; omega) (by omega) hbase h
  cases had
  have hj : j = 0 := by
    rcases Nat.eq_zero_or_pos j with h0 | h0
    · exact h0
    · rw [List.getElem?_eq_none (by simp; omega)] at hu; cases hu
  subst hj
  cases hu
  exact hc
end Go.Proofs.Ytnbfkihgloipiaa
namespace Go.Proofs.Ytnbfkihgloipiaa
open Go.RowKit
open Pt (Tx)

/-- the tape at block gr -/
structure Rt (w : World) (B gr : Nat) (G : Nat → Prop) (lab cap : Int) (bs : List Tx) : Prop where
  ex : ∃ v us, w.heap[gr]? = some (.cells #[.int .i64 lab, .int .i64 cap, v, .bool false] 35 (0, 0)) ∧ TopB w B G v us bs
  lo : B ≤ gr
/-- what a call on such a tape may turn -/
def RefS (B : Nat) (G : Nat → Prop) (w : World) (k : Nat) : Prop := B ≤ k ∧ ((∃ c, w.heap[k]? = some (.cells c 36 (0, 0))) ∨ (∃ c, w.heap[k]? = some (.cells c 35 (0, 0))) ∨ G k)
def RefT (B : Nat) (G : Nat → Prop) (w w' : World) : Prop := Kp (RefS B G w) w w'
theorem RefT.refl (B : Nat) (G : Nat → Prop) (w : World) : RefT B G w w := Kp.refl _ _
theorem RefT.trans {B : Nat} {G : Nat → Prop} {a b c : World} (h : RefT B G a b) (k : RefT B G b c) : RefT B G a c := by
  refine ⟨k.os.trans h.os, k.tape.trans h.tape, k.output.trans h.output, Nat.le_trans h.size k.size, fun i hi hs => ?_⟩
  have e := h.block i hi hs
  rw [← e]
  refine k.block i (Nat.lt_of_lt_of_le hi h.size) fun h' => hs ?_
  obtain ⟨h1, h2⟩ := h'
  rw [e] at h2
  exact ⟨h1, h2⟩
theorem RefT.below {B : Nat} {G : Nat → Prop} {a b : World} (h : RefT B G a b) (hB : B ≤ a.heap.size) : Below B a b := Kp.below h hB fun _ hk => hk.1
theorem RefT.of_below {B : Nat} {G : Nat → Prop} {a b : World} (h : Below a.heap.size a b) : RefT B G a b := Kp.of_below h
/-- a block of another kind is kept -/
theorem RefT.kept {B : Nat} {G : Nat → Prop} {a b : World} (h : RefT B G a b) {k : Nat} {c : Array Value} {t : TypeId} {fr : Nat × Nat} (hk : a.heap[k]? = some (.cells c t fr)) (h1 : t ≠ 36) (h2 : t ≠ 35) (h3 : ¬ G k) : b.heap[k]? = some (.cells c t fr) := by
  refine (h.block k (heap_lt hk) fun hs => ?_).trans hk
  rcases hs.2 with ⟨c', e⟩ | ⟨c', e⟩ | e
  · rw [hk] at e; injection e with e; injection e with _ e; exact h1 e
  · rw [hk] at e; injection e with e; injection e with _ e; exact h2 e
  · exact h3 e
namespace Rt
variable {w w' : World} {B gr : Nat} {G G' : Nat → Prop} {lab cap : Int} {bs : List Tx}
theorem lt (h : Rt w B gr G lab cap bs) : gr < w.heap.size := by obtain ⟨v, us, h1, _⟩ := h.ex; exact heap_lt h1
theorem kp {S : Nat → Prop} (h : Rt w B gr G lab cap bs) (hk : Kp S w w') (h0 : ¬ S gr) (h1 : ∀ k c, S k → w.heap[k]? ≠ some (.cells c 36 (0, 0))) (h2 : ∀ k, S k → ¬ G k) : Rt w' B gr G lab cap bs := by
  obtain ⟨⟨v, us, hb, ht⟩, hlo⟩ := h
  exact ⟨⟨v, us, (hk.block gr (heap_lt hb) h0).trans hb, ht.kp hk h1 h2⟩, hlo⟩
theorem old (h : Rt w B gr G lab cap bs) (hb : Below w.heap.size w w') : Rt w' B gr G lab cap bs :=
  h.kp (S := fun _ => False) (Kp.of_below hb) (fun h => h) (fun _ _ h => h.elim) (fun _ h => h.elim)
theorem mono (h : Rt w B gr G lab cap bs) (hg : ∀ k, G k → G' k) : Rt w B gr G' lab cap bs := by
  obtain ⟨⟨v, us, hb, ht⟩, hlo⟩ := h
  exact ⟨⟨v, us, hb, ht.mono hg⟩, hlo⟩
theorem there (h : Rt w B gr G lab cap bs) : Rt w B gr (fun k => G k ∧ k < w.heap.size) lab cap bs := by
  obtain ⟨⟨v, us, hb, ht⟩, hlo⟩ := h
  exact ⟨⟨v, us, hb, ht.there⟩, hlo⟩
end Rt
theorem own_down {w : World} {B B' : Nat} {t : TypeId} {v : Value} {n : Nat} {xs : List Value} (h : w.ownsRow B t 1 v n xs) (hB : B' ≤ B) : w.ownsRow B' t 1 v n xs := by
  refine ⟨h.1, ?_⟩
  rcases h.2 with h0 | ⟨g, c, cur, e, hb, hr⟩
  · exact .inl h0
  · exact .inr ⟨g, c, cur, e, Nat.le_trans hB hb, hr⟩
/-- what a call on such a tape answered, and left -/
def RefDid (r : Value) (B gr : Nat) (G : Nat → Prop) (lab cap : Int) (bs : List Tx) (w : World) (e : Ending) (w' : World) : Prop := e = .returned r ∧ Rt w' B gr G lab cap bs ∧ RefT B G w w'
theorem oneCellT (w : World) (u : Value) (t : TypeId) : ∀ j u', [u][j]? = some u' → (w.alloc (.cells #[u] t)).cell? ((⟨w.heap.size, 0, none⟩ : Addr).add j) = some u' := fun j u' hu => by
  have hj : j = 0 := by
    rcases Nat.eq_zero_or_pos j with h0 | h0
    · exact h0
    · rw [List.getElem?_eq_none (by simp; omega)] at hu; cases hu
  subst hj
  cases hu
  rw [addr_add]; simp
theorem oneTop (A : Option Addr) (L C : Nat) : ∀ u ∈ [Value.slice A L C], u.oneCell' = true := fun u hu => by rw [List.mem_singleton.1 hu]; rfl
/-- a row is appended to the tape at gr -/
theorem Rt.pushed {w wA wB : World} {B gr : Nat} {G : Nat → Prop} {lab cap : Int} {bs : List Tx} {v : Value} {us : List Value} {s : Tx} {u v' : Value} {o : Obj} (hM : w.heap[gr]? = some (.cells #[.int .i64 lab, .int .i64 cap, v, .bool false] 35 (0, 0))) (hT : TopB w B G v us bs) (hlo : B ≤ gr)
    (hA : Below w.heap.size w wA) (hu : OwnL wA B u s) (hun : ∀ k, u.ownBlock = some k → w.heap.size ≤ k) (hG : ∀ k, w.heap.size ≤ k → G k) (hB : wB.ownsRow B 36 1 v' (us.length + 1) (us ++ [u])) (hg : (wA.alloc o).grownBy wB v.ownBlock) :
    wB.heap[gr]? = w.heap[gr]? ∧ Rt (wB.setCell ⟨gr, 2, none⟩ v') B gr G lab cap (bs ++ [s]) ∧ RefT B G w (wB.setCell ⟨gr, 2, none⟩ v') := by
  have hlt := heap_lt hM
  have hA' : Below w.heap.size w (wA.alloc o) := hA.alloc hA.size _
  have hne : some gr ≠ v.ownBlock := fun e => by
    obtain ⟨x, hx⟩ := own_blk hT.top gr e.symm
    rw [hM] at hx
    injection hx with hx
    injection hx with _ e2
    exact absurd e2 (by decide)
  have e : wB.heap[gr]? = w.heap[gr]? := (hg.block gr (Nat.lt_of_lt_of_le hlt hA'.size) hne).trans (hA'.block gr hlt)
  have hp := hT.push hA' (hu.alloc o) hun (fun k hk => hG k (hun k hk)) hB hg
  refine ⟨e, ⟨⟨v', us ++ [u], by rw [heap_set (e.trans hM)]; rfl, hp.kpT (Kp.store _ gr 2 _) (fun x c hx hc => ?_) (fun x c hx hc => ?_)⟩, hlo⟩, ?_⟩
  · rw [hx, e, hM] at hc
    injection hc with hc
    injection hc with _ e2
    exact absurd e2 (by decide)
  · rw [hx, e, hM] at hc
    injection hc with hc
    injection hc with _ e2
    exact absurd e2 (by decide)
  · refine (RefT.of_below hA').trans (RefT.trans (Kp.grown (Kp.refl _ _) hg fun k hk => ?_) ((Kp.store wB gr 2 v').mono fun k hk => ?_))
    · obtain ⟨x, hx⟩ := own_blk hT.top k hk
      exact ⟨(hT.top.lt k hk).1, .inl ⟨x, (hA'.block k (heap_lt hx)).trans hx⟩⟩
    · rw [hk]
      exact ⟨hlo, .inr (.inl ⟨_, e.trans hM⟩)⟩
theorem own_row {w : World} {B B' : Nat} {v : Value} {n : Nat} {s : Tx} (h : w.ownsRow B' 5 1 v n ([] ++ cellsL s)) (hn : s.length = n) (hB : B ≤ B') : OwnL w B v s := by
  subst hn; exact own_down h hB
theorem own_base {w : World} {B g n c : Nat} {t : TypeId} {xs : List Value} (h : w.ownsRow B t 1 (.slice (some ⟨g, 0, none⟩) n c) n xs) : B ≤ g := by
  rcases h.2 with ⟨e, _⟩ | ⟨g', c', cur, e, hb, _⟩
  · cases e
  · cases e; exact hb
end Go.Proofs.Ytnbfkihgloipiaa
namespace Go.Proofs.Ytnbfkihgloipiaa
open Go.RowKit
open Pt (Tx)

/-- a byte of an own row is turned -/
theorem OwnL.set {w : World} {B g L C k : Nat} {s : Tx} (h : OwnL w B (.slice (some ⟨g, 0, none⟩) L C) s) (hk : k < s.length) (x : UInt8) : OwnL (w.setCell ⟨g, k, none⟩ (.int .u8 (x.toNat : Int))) B (.slice (some ⟨g, 0, none⟩) L C) (s.set k x) := by
  refine ⟨by simp [cellsL_len], ?_⟩
  rcases h.2 with ⟨e, _⟩ | ⟨g', cap, cur, e, hb, hg, hnc, hcm, hs, ht⟩
  · cases e
  · cases e
    refine .inr ⟨g, C, cur.setIfInBounds k (.int .u8 (x.toNat : Int)), by simp, hb, heap_set hg _, by simpa using hnc, hcm, by simpa using hs, ?_⟩
    rw [Nat.mul_one] at ht ⊢
    rw [List.length_set]
    apply List.ext_getElem?
    intro j
    have hj := congrArg (·[j]?) ht
    simp only [List.getElem?_take, Array.getElem?_toList] at hj
    simp only [List.getElem?_take, Array.getElem?_toList, Array.getElem?_setIfInBounds]
    by_cases hjl : j < s.length
    · rw [if_pos hjl] at hj ⊢
      rw [cellsL_get (by simpa using hjl)]
      rw [cellsL_get hjl] at hj
      by_cases e : k = j
      · subst e
        rw [if_pos rfl, if_pos (by omega)]
        simp
      · rw [if_neg e, hj]
        simp [List.getElem_set_ne e]
    · rw [if_neg hjl, List.getElem?_eq_none (by rw [cellsL_len, List.length_set]; omega)]
/-- a byte of a row is turned -/
theorem TopB.turned {w : World} {B : Nat} {G : Nat → Prop} {v : Value} {us : List Value} {bs : List Tx} (h : TopB w B G v us bs) {n : Nat} (hn : n < us.length) (hn' : n < bs.length) {g L C k : Nat} (hu : us[n] = .slice (some ⟨g, 0, none⟩) L C) {s : Tx} (hs : bs[n] = s) (hk : k < s.length) (x : UInt8) :
    TopB (w.setCell ⟨g, k, none⟩ (.int .u8 (x.toNat : Int))) B G v us (bs.set n (s.set k x)) := by
  subst hs
  have hK := Kp.store w g k (.int .u8 (x.toNat : Int))
  have hr := h.rows n hn hn'
  have hown : us[n].ownBlock = some g := by rw [hu]; rfl
  refine ⟨own_of h.top fun q e => hK.block q (h.top.lt q e).2 fun hq => ?_, by rw [List.length_set, h.len], fun i hi hi' => ?_, h.gs, h.inj⟩
  · obtain ⟨c, hc⟩ := own_blk h.top q e
    obtain ⟨c', hc'⟩ := hr.block g hown
    rw [hq, hc'] at hc
    injection hc with hc
    injection hc with _ e2
    exact absurd e2 (by decide)
  · by_cases e : n = i
    · subst e
      rw [List.getElem_set_self, hu]
      rw [hu] at hr
      exact hr.set hk x
    · rw [List.getElem_set_ne e]
      rw [List.length_set] at hi'
      exact (h.rows i hi hi').kp hK fun q hq hq' => e (h.inj n i hn hi g hown (by rw [← hq']; exact hq))
end Go.Proofs.Ytnbfkihgloipiaa
namespace Go.Proofs.Ytnbfkihgloipiaa
open Go.RowKit


theorem bits_and_u8 (a b : Nat) (ha : a < 256) (hb : b < 256) : bits BinOp.and IntKind.u8 (a : Int) (b : Int) = ((a &&& b : Nat) : Int) := by
  have h1 : (BitVec.ofInt 8 (a : Int)).toNat = a := by
    rw [BitVec.ofInt_natCast, BitVec.toNat_ofNat]; exact Nat.mod_eq_of_lt ha
  have h2 : (BitVec.ofInt 8 (b : Int)).toNat = b := by
    rw [BitVec.ofInt_natCast, BitVec.toNat_ofNat]; exact Nat.mod_eq_of_lt hb
  have hx : a &&& b < 2 ^ 8 := Nat.and_lt_two_pow _ hb
  show IntKind.u8.wrap ((BitVec.ofInt 8 (a : Int) &&& BitVec.ofInt 8 (b : Int)).toNat : Int) = _
  rw [BitVec.toNat_and, h1, h2]
  simp [IntKind.wrap, IntKind.bits, IntKind.signed]; omega
theorem bits_xor_u8 (a b : Nat) (ha : a < 256) (hb : b < 256) : bits BinOp.xor IntKind.u8 (a : Int) (b : Int) = ((a ^^^ b : Nat) : Int) := by
  have h1 : (BitVec.ofInt 8 (a : Int)).toNat = a := by
    rw [BitVec.ofInt_natCast, BitVec.toNat_ofNat]; exact Nat.mod_eq_of_lt ha
  have h2 : (BitVec.ofInt 8 (b : Int)).toNat = b := by
    rw [BitVec.ofInt_natCast, BitVec.toNat_ofNat]; exact Nat.mod_eq_of_lt hb
  have hx : a ^^^ b < 2 ^ 8 := Nat.xor_lt_two_pow ha hb
  show IntKind.u8.wrap ((BitVec.ofInt 8 (a : Int) ^^^ BitVec.ofInt 8 (b : Int)).toNat : Int) = _
  rw [BitVec.toNat_xor, h1, h2]
  simp [IntKind.wrap, IntKind.bits, IntKind.signed]; omega
theorem and_one_u8 (a : Nat) (ha : a < 256) : bits BinOp.and IntKind.u8 (a : Int) 1 = ((a % 2 : Nat) : Int) := by
  rw [show (1 : Int) = ((1 : Nat) : Int) from rfl, bits_and_u8 a 1 ha (by decide), Nat.and_one_is_mod]
theorem and_top_u8 (a : Nat) (ha : a < 256) : (bits BinOp.and IntKind.u8 (a : Int) 128 == 0) = decide (a < 128) := by
  have h : ∀ n : Fin 256, (bits BinOp.and IntKind.u8 (n.val : Int) 128 == 0) = decide (n.val < 128) := by decide +kernel
  exact h ⟨a, ha⟩
theorem ret_u8 {a b : Int} (h : a = b) : Ending.returned (.int .u8 a) = .returned (.int .u8 b) := by rw [h]
theorem val_u8 {a b : Int} (h : a = b) : Value.int .u8 a = .int .u8 b := by rw [h]

def gmul (a b : Int) : Int := ((Gf.mul a.toNat b.toNat : Nat) : Int)
def gadd (a b : Int) : Int := ((a.toNat ^^^ b.toNat : Nat) : Int)
def ginv (a : Int) : Int := ((Gf.inv a.toNat : Nat) : Int)
def gpow (a n : Int) : Int := if n = 0 then 1 else if a = 0 then 0 else ((Gf.pw a.toNat (n % 255).toNat : Nat) : Int)
theorem gmul_rng (a b : Int) (_h0 : 0 ≤ a) (h1 : a < 256) : 0 ≤ gmul a b ∧ gmul a b < 256 := by
  have := Gf.mul_lt (a := a.toNat) (b := b.toNat) (by omega)
  unfold gmul; omega
theorem gadd_rng (a b : Int) (_h0 : 0 ≤ a) (h1 : a < 256) (_h2 : 0 ≤ b) (h3 : b < 256) : 0 ≤ gadd a b ∧ gadd a b < 256 := by
  have := Gf.xor_lt (a := a.toNat) (b := b.toNat) (by omega) (by omega)
  unfold gadd; omega
theorem ginv_rng (a : Int) (_h0 : 0 ≤ a) (h1 : a < 256) : 0 ≤ ginv a ∧ ginv a < 256 := by
  have := Gf.inv_lt (a := a.toNat) (by omega)
  unfold ginv; omega
theorem gpow_rng (a n : Int) (_h0 : 0 ≤ a) (h1 : a < 256) : 0 ≤ gpow a n ∧ gpow a n < 256 := by
  have := Gf.pw_lt (a := a.toNat) (by omega) (n % 255).toNat
  unfold gpow; split
  · omega
  · split <;> omega
theorem and_one_i64 (n : Nat) (hn : n < 256) : bits BinOp.and IntKind.i64 (n : Int) 1 = ((n % 2 : Nat) : Int) := by
  have h := bits_mask .i64 8 (by decide) (fun m h0 h1 => by rw [IntKind.wrap_i64]; omega) 1 (by decide) (n : Int) (by omega) (by omega)
  simpa using h
theorem tmod255 (n : Int) : (0 ≤ n.tmod 255 → n % 255 = n.tmod 255) ∧ (n.tmod 255 < 0 → n % 255 = n.tmod 255 + 255) ∧ -255 < n.tmod 255 ∧ n.tmod 255 < 255 := by
  have h := Int.tmod_eq_emod (a := n) (b := 255)
  split at h <;> omega
theorem ret_i64 {a b : Int} (h : a = b) : Ending.returned (.int .i64 a) = .returned (.int .i64 b) := by rw [h]
theorem gpow_inv (a : Int) (_h : 0 ≤ a) : gpow a 254 = ginv a := by
  unfold gpow ginv Gf.inv
  rw [if_neg (by decide)]
  by_cases hz : a = 0
  · subst hz; rw [if_pos rfl]; exact congrArg (fun n : Nat => (n : Int)) (Gf.inv_zero).symm
  · rw [if_neg hz]; rfl

theorem xor_i64_nat (a b : Nat) (ha : a < 32768) (hb : b < 32768) : bits BinOp.xor IntKind.i64 (a : Int) (b : Int) = ((a ^^^ b : Nat) : Int) := by
  have h1 : (BitVec.ofInt 64 (a : Int)).toNat = a := by
    rw [BitVec.ofInt_natCast, BitVec.toNat_ofNat]; exact Nat.mod_eq_of_lt (by omega)
  have h2 : (BitVec.ofInt 64 (b : Int)).toNat = b := by
    rw [BitVec.ofInt_natCast, BitVec.toNat_ofNat]; exact Nat.mod_eq_of_lt (by omega)
  have hx : a ^^^ b < 2 ^ 15 := Nat.xor_lt_two_pow ha hb
  show IntKind.i64.wrap ((BitVec.ofInt 64 (a : Int) ^^^ BitVec.ofInt 64 (b : Int)).toNat : Int) = _
  rw [BitVec.toNat_xor, h1, h2, IntKind.wrap_i64]
  omega
theorem and_one_i64' (n : Nat) (hn : n < 32768) : bits BinOp.and IntKind.i64 (n : Int) 1 = ((n % 2 : Nat) : Int) := by
  have h := bits_mask .i64 15 (by decide) (fun m h0 h1 => by rw [IntKind.wrap_i64]; omega) 1 (by decide) (n : Int) (by omega) (by omega)
  simpa using h
theorem up_bit (b k : Nat) (hb : b < 256) : bits BinOp.and IntKind.u8 ((b : Int) / 2 ^ k) 1 = ((b / 2 ^ k % 2 : Nat) : Int) := by
  have h := and_one_u8 (b / 2 ^ k) (by have := Nat.div_le_self b (2 ^ k); omega)
  rw [← h]; congr 1
theorem up_lt (a k : Nat) (ha : a < 256) (hk : k < 8) : a * 2 ^ k < 32768 := by
  have h : 2 ^ k ≤ 2 ^ 7 := Nat.pow_le_pow_right (by decide) (by omega)
  have : a * 2 ^ k ≤ 255 * 2 ^ 7 := Nat.mul_le_mul (by omega) h
  omega
theorem wrap64_small (n : Nat) (h : n < 32768) : wrap64 (n : Int) = (n : Int) := by
  unfold wrap64; omega
theorem up_xor (a k x : Nat) (ha : a < 256) (hk : k < 8) (hx : x < 32768) :
    bits BinOp.xor IntKind.i64 (x : Int) (wrap64 ((a : Int) * 2 ^ k)) = ((x ^^^ a * 2 ^ k : Nat) : Int) := by
  have hl := up_lt a k ha hk
  rw [show (a : Int) * 2 ^ k = ((a * 2 ^ k : Nat) : Int) by simp, wrap64_small _ hl, xor_i64_nat x _ hx hl]
theorem xor_lt15 {a b : Nat} (ha : a < 32768) (hb : b < 32768) : a ^^^ b < 32768 := Nat.xor_lt_two_pow (n := 15) ha hb
theorem down_bit (y k : Nat) (hy : y < 32768) : bits BinOp.and IntKind.i64 ((y : Int) / 2 ^ k) 1 = ((y / 2 ^ k % 2 : Nat) : Int) := by
  have h := and_one_i64' (y / 2 ^ k) (by have := Nat.div_le_self y (2 ^ k); omega)
  rw [← h]; congr 1
theorem down_lt (m : Nat) (hm : m < 7) : 285 * 2 ^ m < 32768 := by
  have h : 2 ^ m ≤ 2 ^ 6 := Nat.pow_le_pow_right (by decide) (by omega)
  omega
theorem down_xor (m y : Nat) (hm : m < 7) (hy : y < 32768) :
    bits BinOp.xor IntKind.i64 (y : Int) (wrap64 (285 * 2 ^ m)) = ((y ^^^ 285 * 2 ^ m : Nat) : Int) := by
  have hl := down_lt m hm
  rw [show (285 : Int) * 2 ^ m = ((285 * 2 ^ m : Nat) : Int) by simp, wrap64_small _ hl, xor_i64_nat y _ hy hl]
theorem val_i64 {a b : Int} (h : a = b) : Value.int .i64 a = .int .i64 b := by rw [h]
theorem ret_bool {a b : Bool} (h : a = b) : Ending.returned (.bool a) = .returned (.bool b) := by rw [h]
end Go.Proofs.Ytnbfkihgloipiaa
