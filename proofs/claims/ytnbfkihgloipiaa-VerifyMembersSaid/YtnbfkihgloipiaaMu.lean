/- Tapes in a row that a call makes longer by append: each in four cells. No function of the program. Tapes whose rows lie in blocks of their own, one tape's behind the other's. No function of the program. Tapes in a row made by append, each tape's rows in blocks of their own. No function of the program. A row of numbers that a call owns and makes longer by append. No function of the program. What VerifyMembers keeps while it makes a seal and tapes. No function of the program. -/
import Derived.Test.YtnbfkihgloipiaaMk
import Derived.Test.YtnbfkihgloipiaaMf
import Derived.Test.YtnbfkihgloipiaaMr
import Derived.Lib.SmallJoins
import Derived.Laws.AppendOwn
import Derived.OwnWalk
import Derived.Test.YtnbfkihgloipiaaMs
namespace Go.Proofs.Ytnbfkihgloipiaa
open Go.RowKit
open Pt (Tx)

/-- a tape's four cells -/
structure Tv where
  label : Int
  cap : Int
  A : Option Addr
  n : Nat
  C : Nat
  lost : Bool
def encT : Enc Tv where
  k := 4
  pos := by decide
  enc t := [.int .i64 t.label, .int .i64 t.cap, .slice t.A t.n t.C, .bool t.lost]
  len _ := rfl
  one t u hu := by
    simp only [List.mem_cons, List.not_mem_nil, or_false] at hu
    rcases hu with rfl | rfl | rfl | rfl <;> rfl
theorem infoTape : (Try.prog.info? 35).map (fun i => (i.zero, i.size, i.bytes)) = some (some (.agg #[.int .i64 0, .int .i64 0, .slice none 0 0, .bool false]), 4, 48) := by kernel_rfl
/-- the value that is handed on -/
def Tv.val (t : Tv) : Value := .agg #[.int .i64 t.label, .int .i64 t.cap, .slice t.A t.n t.C, .bool t.lost]
/-- a row of such cells and what they point to read as tapes -/
theorem RdT.of_rows {w : World} {A : Option Addr} {tvs : List Tv} {ts : List St.T} {G : Nat → Prop} (h : encT.Rd w A tvs G) (hl : tvs.length = ts.length)
    (hb : ∀ i (hi : i < tvs.length) (hi' : i < ts.length), tvs[i].label = ts[i].label ∧ tvs[i].cap = ts[i].cap ∧ tvs[i].n = ts[i].blocks.length ∧ tvs[i].lost = ts[i].lost ∧ RdB w tvs[i].A ts[i].blocks G) : RdT w A ts G := by
  intro hn
  obtain ⟨b, off, e, hg, hc⟩ := h (by omega)
  refine ⟨b, off, e, hg, fun i hi => ?_⟩
  have hi' : i < tvs.length := by omega
  obtain ⟨h1, h2, h3, h4, h5⟩ := hb i hi' hi
  refine ⟨tvs[i].A, tvs[i].C, ?_, ?_, ?_, ?_, h5⟩
  · rw [← h1]; exact hc i hi' 0 _ rfl
  · rw [← h2]; exact hc i hi' 1 _ rfl
  · rw [← h3]; exact hc i hi' 2 _ rfl
  · rw [← h4]; exact hc i hi' 3 _ rfl
/-- and the other way round -/
theorem RdT.rows {w : World} {A : Option Addr} {ts : List St.T} {G : Nat → Prop} (h : RdT w A ts G) : ∃ tvs : List Tv, tvs.length = ts.length ∧ encT.Rd w A tvs G
    ∧ ∀ i (hi : i < tvs.length) (hi' : i < ts.length), tvs[i].label = ts[i].label ∧ tvs[i].cap = ts[i].cap ∧ tvs[i].n = ts[i].blocks.length ∧ tvs[i].lost = ts[i].lost ∧ RdB w tvs[i].A ts[i].blocks G := by
  rcases Nat.eq_zero_or_pos ts.length with h0 | h0
  · exact ⟨[], by rw [h0]; rfl, Enc.Rd.nil _ _ _, fun i hi => absurd hi (by simp)⟩
  · obtain ⟨b, off, e, hg, hc⟩ := h h0
    have key : ∀ i, ∃ q : Option Addr × Nat, ∀ hi : i < ts.length, w.cell? ⟨b, off + i * 4 + 2, none⟩ = some (.slice q.1 ts[i].blocks.length q.2) ∧ RdB w q.1 ts[i].blocks G := fun i => by
      by_cases hi : i < ts.length
      · obtain ⟨A', C', _, _, h2, _, h4⟩ := hc i hi
        exact ⟨(A', C'), fun _ => ⟨h2, h4⟩⟩
      · exact ⟨(none, 0), fun h => absurd h hi⟩
    refine ⟨(List.range ts.length).map fun i => ⟨(ts.getD i ⟨0, 0, [], false⟩).label, (ts.getD i ⟨0, 0, [], false⟩).cap, (key i).choose.1, (ts.getD i ⟨0, 0, [], false⟩).blocks.length, (key i).choose.2, (ts.getD i ⟨0, 0, [], false⟩).lost⟩, by simp, fun _ => ⟨b, off, e, hg, fun i hi j u hu => ?_⟩, fun i hi hi' => ?_⟩
    · have hi' : i < ts.length := by simpa using hi
      obtain ⟨k1, k2⟩ := (key i).choose_spec hi'
      obtain ⟨A', C', g0, g1, _, g3, _⟩ := hc i hi'
      have ht : ts.getD i ⟨0, 0, [], false⟩ = ts[i] := by rw [List.getD_eq_getElem?_getD, List.getElem?_eq_getElem hi']; rfl
      simp only [List.getElem_map, List.getElem_range, ht] at hu
      match j, hu with
      | 0, hu => cases hu; exact g0
      | 1, hu => cases hu; exact g1
      | 2, hu => cases hu; exact k1
      | 3, hu => cases hu; exact g3
    · obtain ⟨k1, k2⟩ := (key i).choose_spec hi'
      have ht : ts.getD i ⟨0, 0, [], false⟩ = ts[i] := by rw [List.getD_eq_getElem?_getD, List.getElem?_eq_getElem hi']; rfl
      simp only [List.getElem_map, List.getElem_range, ht]
      exact ⟨trivial, trivial, trivial, trivial, k2⟩
end Go.Proofs.Ytnbfkihgloipiaa
namespace Go.Proofs.Ytnbfkihgloipiaa
open Go.RowKit
open Pt (Tx)

/-- a tape whose rows lie in blocks from lo on, below hi -/
structure OneT (w : World) (lo hi : Nat) (t : Tv) (s : St.T) : Prop where
  label : t.label = s.label
  cap : t.cap = s.cap
  n : t.n = s.blocks.length
  lost : t.lost = s.lost
  rows : ∃ us, TopB w lo (fun k => lo ≤ k ∧ k < hi) (.slice t.A t.n t.C) us s.blocks
  top : ∀ k, (Value.slice t.A t.n t.C).ownBlock = some k → k < hi
namespace OneT
variable {w w' : World} {lo hi : Nat} {t : Tv} {s : St.T}
theorem kp {S : Nat → Prop} (h : OneT w lo hi t s) (hk : Kp S w w') (h1 : ∀ k c, S k → k < hi → w.heap[k]? ≠ some (.cells c 36 (0, 0))) (h2 : ∀ k c, S k → k < hi → w.heap[k]? ≠ some (.cells c 5 (0, 0))) : OneT w' lo hi t s := by
  obtain ⟨us, ht⟩ := h.rows
  refine ⟨h.label, h.cap, h.n, h.lost, ⟨us, ⟨own_of ht.top fun k e => ?_, ht.len, fun i hi hi' => (ht.rows i hi hi').of_block fun k e => ?_, ht.gs, ht.inj⟩⟩, h.top⟩
  · obtain ⟨c, hc⟩ := own_blk ht.top k e
    exact hk.block k (heap_lt hc) fun hs => h1 k c hs (h.top k e) hc
  · obtain ⟨c, hc⟩ := (ht.rows i hi hi').block k e
    exact hk.block k (heap_lt hc) fun hs => h2 k c hs (ht.gs i hi k e).2 hc
theorem up (h : OneT w lo hi t s) {hi' : Nat} (hh : hi ≤ hi') : OneT w lo hi' t s := by
  obtain ⟨us, ht⟩ := h.rows
  exact ⟨h.label, h.cap, h.n, h.lost, ⟨us, ht.mono fun k hk => ⟨hk.1, by omega⟩⟩, fun k e => by have := h.top k e; omega⟩
theorem rdB (h : OneT w lo hi t s) : RdB w t.A s.blocks (lo ≤ ·) := by
  obtain ⟨us, ht⟩ := h.rows
  exact ht.rdB
end OneT
/-- tapes, one's rows behind the other's -/
structure RowsT (w : World) (B N : Nat) (tvs : List Tv) (ts : List St.T) (L : Nat → Nat) : Prop where
  len : tvs.length = ts.length
  lo : B ≤ L 0
  mono : ∀ i, i < ts.length → L i ≤ L (i + 1)
  hi : L ts.length ≤ N
  one : ∀ i (hi : i < tvs.length) (hi' : i < ts.length), OneT w (L i) (L (i + 1)) tvs[i] ts[i]
namespace RowsT
variable {w w' : World} {B N : Nat} {tvs : List Tv} {ts : List St.T} {L : Nat → Nat}
theorem nil (w : World) (B : Nat) : RowsT w B B [] [] (fun _ => B) := ⟨rfl, Nat.le_refl _, fun _ _ => Nat.le_refl _, Nat.le_refl _, fun i hi => absurd hi (by simp)⟩
theorem le (h : RowsT w B N tvs ts L) : ∀ j i, i ≤ j → j ≤ ts.length → L i ≤ L j := by
  intro j
  induction j with
  | zero => intro i hi _; rw [Nat.le_zero.1 hi]; exact Nat.le_refl _
  | succ j ih =>
    intro i hi hj
    by_cases e : i = j + 1
    · rw [e]; exact Nat.le_refl _
    · exact Nat.le_trans (ih i (by omega) (by omega)) (h.mono j (by omega))
theorem kp {S : Nat → Prop} (h : RowsT w B N tvs ts L) (hk : Kp S w w') (h1 : ∀ k c, S k → k < N → w.heap[k]? ≠ some (.cells c 36 (0, 0))) (h2 : ∀ k c, S k → k < N → w.heap[k]? ≠ some (.cells c 5 (0, 0))) : RowsT w' B N tvs ts L := by
  refine ⟨h.len, h.lo, h.mono, h.hi, fun i hi hi' => ?_⟩
  have hle := Nat.le_trans (h.le ts.length (i + 1) (by omega) (Nat.le_refl _)) h.hi
  exact (h.one i hi hi').kp hk (fun k c hs hl => h1 k c hs (by omega)) (fun k c hs hl => h2 k c hs (by omega))
theorem up (h : RowsT w B N tvs ts L) {N' : Nat} (hN : N ≤ N') : RowsT w B N' tvs ts L := ⟨h.len, h.lo, h.mono, Nat.le_trans h.hi hN, h.one⟩
theorem down (h : RowsT w B N tvs ts L) {B' : Nat} (hB : B' ≤ B) : RowsT w B' N tvs ts L := ⟨h.len, Nat.le_trans hB h.lo, h.mono, h.hi, h.one⟩
theorem push (h : RowsT w B N tvs ts L) {M : Nat} {t : Tv} {s : St.T} (ho : OneT w N M t s) (hM : N ≤ M) : RowsT w B M (tvs ++ [t]) (ts ++ [s]) (fun i => if i < ts.length then L i else if i = ts.length then N else M) := by
  have hl := h.len
  refine ⟨by simp [hl], ?_, fun i hi => ?_, ?_, fun i hi hi' => ?_⟩
  · split
    · exact h.lo
    · rename_i h0
      have e : ts.length = 0 := by omega
      rw [if_pos e.symm]
      have := h.hi
      rw [e] at this
      exact Nat.le_trans h.lo this
  · rw [List.length_append, List.length_singleton] at hi
    by_cases h0 : i < ts.length
    · rw [if_pos h0]
      by_cases h1 : i + 1 < ts.length
      · rw [if_pos h1]; exact h.mono i h0
      · rw [if_neg h1, if_pos (by omega)]
        exact Nat.le_trans (h.le ts.length i (by omega) (Nat.le_refl _)) h.hi
    · rw [if_neg h0, if_pos (by omega), if_neg (by omega), if_neg (by omega)]; exact hM
  · rw [List.length_append, List.length_singleton, if_neg (by omega), if_neg (by omega)]; exact Nat.le_refl _
  · rw [List.length_append, List.length_singleton] at hi hi'
    by_cases h0 : i < ts.length
    · rw [if_pos h0, List.getElem_append_left h0, List.getElem_append_left (by omega)]
      by_cases h1 : i + 1 < ts.length
      · rw [if_pos h1]; exact h.one i (by omega) h0
      · rw [if_neg h1, if_pos (by omega)]
        have e : i + 1 = ts.length := by omega
        have h2 := h.hi
        rw [← e] at h2
        exact (h.one i (by omega) h0).up h2
    · have e : i = ts.length := by omega
      subst e
      have e1 : (ts ++ [s])[ts.length] = s := by simp
      have e2 : (tvs ++ [t])[ts.length]'(by simp [hl]) = t := by simp [← hl]
      rw [if_neg (by omega), if_pos rfl, if_neg (by omega), if_neg (by omega), e1, e2]
      exact ho
theorem rdT (h : RowsT w B N tvs ts L) {A : Option Addr} {G : Nat → Prop} (hr : encT.Rd w A tvs G) (hG : ∀ b, B ≤ b → G b) : RdT w A ts G :=
  RdT.of_rows hr h.len fun i hi hi' => by
    have ho := h.one i hi hi'
    exact ⟨ho.label, ho.cap, ho.n, ho.lost, ho.rdB.mono fun b hb => hG b (Nat.le_trans (Nat.le_trans h.lo (h.le i 0 (by omega) (by omega))) hb)⟩
end RowsT
end Go.Proofs.Ytnbfkihgloipiaa
namespace Go.Proofs.Ytnbfkihgloipiaa
open Go.RowKit
open Pt (Tx)

structure LdR (w : World) (v : Value) (ts : List St.T) (wr : World) : Prop where
  ex : ∃ tvs L, encT.Own wr w.heap.size 35 v tvs ∧ RowsT wr w.heap.size wr.heap.size tvs ts L
  bel : Below w.heap.size w wr
namespace LdR
variable {w wr w2 w3 : World} {v v' : Value} {ts : List St.T}
theorem start (w : World) : LdR w (.slice none 0 0) [] w := ⟨⟨[], _, Enc.Own.nil _ _ _, RowsT.nil _ _⟩, Below.refl _ _⟩
theorem old (h : LdR w v ts wr) (hb : Below wr.heap.size wr w2) : LdR w v ts w2 := by
  obtain ⟨tvs, L, h1, h2⟩ := h.ex
  exact ⟨⟨tvs, L, h1.old hb, (h2.kp (S := fun _ => False) (Kp.of_below hb) (fun _ _ hs => hs.elim) (fun _ _ hs => hs.elim)).up hb.size⟩, h.bel.trans (hb.mono h.bel.size)⟩
/-- one tape more -/
theorem next {tvs : List Tv} {L : Nat → Nat} {lab cap : Int} {A : Option Addr} {n C : Nat} {us : List Value} {bs : List Tx} {G : Nat → Prop} {o : Obj} (h : LdR w v ts wr)
    (hown : encT.Own wr w.heap.size 35 v tvs) (hrow : RowsT wr w.heap.size wr.heap.size tvs ts L) (hb : Below wr.heap.size wr w2) (hn : n = bs.length) (hT : TopB w2 wr.heap.size G (.slice A n C) us bs)
    (hg : (w2.alloc o).grownBy w3 v.ownBlock) (ho : encT.Own w3 w.heap.size 35 v' (tvs ++ [⟨lab, cap, A, n, C, false⟩])) : LdR w v' (ts ++ [⟨lab, cap, bs, false⟩]) w3 := by
  have hvb : ∀ k, v.ownBlock = some k → ∃ c, wr.heap[k]? = some (.cells c 35 (0, 0)) := hown.block
  have hsz : (w2.alloc o).heap.size = w2.heap.size + 1 := by simp
  have hone2 : OneT w2 wr.heap.size w2.heap.size ⟨lab, cap, A, n, C, false⟩ ⟨lab, cap, bs, false⟩ := by
    refine ⟨rfl, rfl, hn, rfl, ⟨us, ⟨hT.top, hT.len, hT.rows, fun i hi k e => ?_, hT.inj⟩⟩, fun k e => (hT.top.lt k e).2⟩
    have hr := hT.rows i hi (by rw [← hT.len]; exact hi)
    exact ⟨hr.lo k e, hr.lt k e⟩
  have hk2 : Kp (fun k => v.ownBlock = some k) w2 w3 := ⟨hg.os, hg.tape, hg.output, by have := hg.size; omega, fun k hk hs => by
    rw [hg.block k (by omega) fun e => hs e.symm]
    exact ((Below.refl w2.heap.size w2).alloc (Nat.le_refl _) o).block k hk⟩
  have hv2 : ∀ k, v.ownBlock = some k → ∃ c, w2.heap[k]? = some (.cells c 35 (0, 0)) := fun k e => by
    obtain ⟨c, hc⟩ := hvb k e
    exact ⟨c, (hb.block k (heap_lt hc)).trans hc⟩
  have hne1 : ∀ k c, v.ownBlock = some k → w2.heap[k]? ≠ some (.cells c 36 (0, 0)) := fun k c e hc => by
    obtain ⟨c', hc'⟩ := hv2 k e
    rw [hc'] at hc; injection hc with hc; injection hc with _ e2; exact absurd e2 (by decide)
  have hne2 : ∀ k c, v.ownBlock = some k → w2.heap[k]? ≠ some (.cells c 5 (0, 0)) := fun k c e hc => by
    obtain ⟨c', hc'⟩ := hv2 k e
    rw [hc'] at hc; injection hc with hc; injection hc with _ e2; exact absurd e2 (by decide)
  have hone := hone2.kp hk2 (fun k c e _ => hne1 k c e) (fun k c e _ => hne2 k c e)
  have hrow2 := (hrow.kp (S := fun _ => False) (Kp.of_below hb) (fun _ _ hs => hs.elim) (fun _ _ hs => hs.elim)).kp hk2 (fun k c e _ => hne1 k c e) (fun k c e _ => hne2 k c e)
  have hbel : Below w.heap.size w w3 := (h.bel.trans (hb.mono h.bel.size)).trans (hk2.below (Nat.le_trans h.bel.size hb.size) fun k e => (hown.lt k e).1)
  exact ⟨⟨_, _, ho, (hrow2.push hone hb.size).up (by have := hg.size; omega)⟩, hbel⟩
/-- as what reads -/
theorem rd (h : LdR w v ts wr) : ∃ A C, v = .slice A ts.length C ∧ RdT wr A ts (fun _ => True) := by
  obtain ⟨tvs, L, h1, h2⟩ := h.ex
  obtain ⟨A, C, hv, -, -, -, hr⟩ := h1.rd
  rw [h2.len] at hv
  exact ⟨A, C, hv, h2.rdT (hr.mono fun _ _ => trivial) fun _ _ => trivial⟩
end LdR
end Go.Proofs.Ytnbfkihgloipiaa
namespace Go.Proofs.Ytnbfkihgloipiaa
open Go.RowKit

theorem infoI : (Try.prog.info? 3).map (fun i => (i.zero, i.size, i.bytes)) = some (some (.int .i64 0), 1, 8) := by kernel_rfl
theorem cellsZ_one {l : List Int} : ∀ u ∈ cellsZ l, u.oneCell' = true := by
  intro u hu
  simp only [cellsZ, List.mem_map] at hu
  obtain ⟨x, _, rfl⟩ := hu
  rfl
theorem cellsZ_some {l : List Int} {j : Nat} {u : Value} (h : (cellsZ l)[j]? = some u) : ∃ hj : j < l.length, u = .int .i64 l[j] := by
  obtain ⟨hj, e⟩ := List.getElem?_eq_some_iff.1 h
  have hj' : j < l.length := by rwa [cellsZ_len] at hj
  refine ⟨hj', ?_⟩
  rw [cellsZ_get hj'] at h
  exact (Option.some.inj h).symm
/-- v is a slice of the call's own that holds the numbers l -/
def OwnZ (w : World) (base : Nat) (v : Value) (l : List Int) : Prop := w.ownsRow base 3 1 v l.length (cellsZ l)
namespace OwnZ
variable {w w' : World} {base : Nat} {v : Value} {l : List Int}
theorem nil (w : World) (base : Nat) : OwnZ w base (.slice none 0 0) [] := World.ownsRow_nil _ _ _ _
theorem rd (h : OwnZ w base v l) : ∃ A C, v = .slice A l.length C ∧ l.length ≤ C ∧ C ≤ maxLen ∧ (A = none → l.length = 0 ∧ C = 0) ∧ RdZ w A l (base ≤ ·) := by
  rcases h.2 with ⟨rfl, h0⟩ | ⟨g, cap, cur, rfl, hb, hg, hnc, hcm, hs, ht⟩
  · have : l = [] := List.length_eq_zero_iff.1 h0
    subst this
    exact ⟨none, 0, rfl, Nat.le_refl _, by decide, fun _ => ⟨rfl, rfl⟩, RdZ.empty _ _ _⟩
  · refine ⟨_, cap, rfl, hnc, hcm, (fun h => by cases h), fun _ => ⟨g, 0, rfl, hb, fun j hj => ?_⟩⟩
    have hx := cellsZ_get hj
    rw [← ht, List.getElem?_take, if_pos (by omega), Array.getElem?_toList] at hx
    simp [World.cell?, hg, hx]
theorem lo (h : OwnZ w base v l) : ∀ k, v.ownBlock = some k → base ≤ k := fun k hk => (World.ownsRow.lt h k hk).1
theorem lt (h : OwnZ w base v l) : ∀ k, v.ownBlock = some k → k < w.heap.size := fun k hk => (World.ownsRow.lt h k hk).2
theorem of_block (h : OwnZ w base v l) (hb : ∀ k, v.ownBlock = some k → w'.heap[k]? = w.heap[k]?) : OwnZ w' base v l := by
  refine ⟨h.1, ?_⟩
  rcases h.2 with h0 | ⟨g, cap, cur, rfl, hb', hg, hr⟩
  · exact .inl h0
  · exact .inr ⟨g, cap, cur, rfl, hb', (hb g rfl).trans hg, hr⟩
theorem kp {S : Nat → Prop} (h : OwnZ w base v l) (hk : Kp S w w') (hs : ∀ k, v.ownBlock = some k → ¬ S k) : OwnZ w' base v l :=
  h.of_block fun k e => hk.block k (h.lt k e) (hs k e)
end OwnZ
theorem apZ_run (w : World) (base : Nat) (v : Value) (l : List Int) (hown : OwnZ w base v l) (ad : Addr) (m c : Nat) (l' : List Int) (G : Nat → Prop) (hm : l'.length = m) (hr : RdZ w (some ad) l' G) (hb : (l.length + m) * 8 ≤ 140737488355328) (hbase : base ≤ w.heap.size) (n : Nat) (hn : n = l.length + m) :
    ∃ A' C' w', (∀ ty, (Builtin.append_ #[23, 23] ty #[v, .slice (some ad) m c]).run Try.prog w = .ok (.slice A' n C') w') ∧ OwnZ w' base (.slice A' n C') (l ++ l') ∧ w.grownBy w' v.ownBlock := by
  obtain ⟨i0, hi, hz0, hz1, hz2⟩ := info_parts infoI
  have hnews : ∀ j u, (cellsZ l')[j]? = some u → w.cell? (ad.add j) = some u := fun j u hu => by
    obtain ⟨hj, rfl⟩ := cellsZ_some hu
    obtain ⟨b, off, e, _, hc⟩ := hr (by omega)
    cases e
    rw [addr_add]; exact hc j hj
  obtain ⟨v', w', h1, h2, h3, _⟩ := run_append_own (P := Try.prog) w base 23 3 3 i0 (.int .i64 0) 1 8 Try.underlying23 hi hz0 hz1 hz2 rfl (by decide) v l.length (cellsZ l) hown ad m c (cellsZ l') (by rw [cellsZ_len, hm, Nat.mul_one]) hnews cellsZ_one (by unfold maxLen; omega) (by omega) hbase
  have h2' : OwnZ w' base v' (l ++ l') := by unfold OwnZ; rw [cellsZ_append, List.length_append, hm]; exact h2
  obtain ⟨A', C', rfl, _, _, _, _⟩ := h2'.rd
  have e : (l ++ l').length = n := by rw [List.length_append, hm, hn]
  refine ⟨A', C', w', fun ty => by rw [← e]; exact h1, ?_, h3⟩
  rw [← e]; exact h2'
end Go.Proofs.Ytnbfkihgloipiaa
namespace Go.Proofs.Ytnbfkihgloipiaa
open Go.RowKit Vf
open Pt (Tx)

/-- one tape more, lost or not -/
theorem LdR.nextL {w wr w2 w3 : World} {v v' : Value} {ts : List St.T} {tvs : List Tv} {L : Nat → Nat} {lab cap : Int} {A : Option Addr} {n C : Nat} {us : List Value} {bs : List Tx} {G : Nat → Prop} {o : Obj} (lo : Bool) (h : LdR w v ts wr)
    (hown : encT.Own wr w.heap.size 35 v tvs) (hrow : RowsT wr w.heap.size wr.heap.size tvs ts L) (hb : Below wr.heap.size wr w2) (hn : n = bs.length) (hT : TopB w2 wr.heap.size G (.slice A n C) us bs)
    (hg : (w2.alloc o).grownBy w3 v.ownBlock) (ho : encT.Own w3 w.heap.size 35 v' (tvs ++ [⟨lab, cap, A, n, C, lo⟩])) : LdR w v' (ts ++ [⟨lab, cap, bs, lo⟩]) w3 := by
  have hvb : ∀ k, v.ownBlock = some k → ∃ c, wr.heap[k]? = some (.cells c 35 (0, 0)) := hown.block
  have hsz : (w2.alloc o).heap.size = w2.heap.size + 1 := by simp
  have hone2 : OneT w2 wr.heap.size w2.heap.size ⟨lab, cap, A, n, C, lo⟩ ⟨lab, cap, bs, lo⟩ := by
    refine ⟨rfl, rfl, hn, rfl, ⟨us, ⟨hT.top, hT.len, hT.rows, fun i hi k e => ?_, hT.inj⟩⟩, fun k e => (hT.top.lt k e).2⟩
    have hr := hT.rows i hi (by rw [← hT.len]; exact hi)
    exact ⟨hr.lo k e, hr.lt k e⟩
  have hk2 : Kp (fun k => v.ownBlock = some k) w2 w3 := ⟨hg.os, hg.tape, hg.output, by have := hg.size; omega, fun k hk hs => by
    rw [hg.block k (by omega) fun e => hs e.symm]
    exact ((Below.refl w2.heap.size w2).alloc (Nat.le_refl _) o).block k hk⟩
  have hv2 : ∀ k, v.ownBlock = some k → ∃ c, w2.heap[k]? = some (.cells c 35 (0, 0)) := fun k e => by
    obtain ⟨c, hc⟩ := hvb k e
    exact ⟨c, (hb.block k (heap_lt hc)).trans hc⟩
  have hne1 : ∀ k c, v.ownBlock = some k → w2.heap[k]? ≠ some (.cells c 36 (0, 0)) := fun k c e hc => by
    obtain ⟨c', hc'⟩ := hv2 k e
    rw [hc'] at hc; injection hc with hc; injection hc with _ e2; exact absurd e2 (by decide)
  have hne2 : ∀ k c, v.ownBlock = some k → w2.heap[k]? ≠ some (.cells c 5 (0, 0)) := fun k c e hc => by
    obtain ⟨c', hc'⟩ := hv2 k e
    rw [hc'] at hc; injection hc with hc; injection hc with _ e2; exact absurd e2 (by decide)
  have hone := hone2.kp hk2 (fun k c e _ => hne1 k c e) (fun k c e _ => hne2 k c e)
  have hrow2 := (hrow.kp (S := fun _ => False) (Kp.of_below hb) (fun _ _ hs => hs.elim) (fun _ _ hs => hs.elim)).kp hk2 (fun k c e _ => hne1 k c e) (fun k c e _ => hne2 k c e)
  have hbel : Below w.heap.size w w3 := (h.bel.trans (hb.mono h.bel.size)).trans (hk2.below (Nat.le_trans h.bel.size hb.size) fun k e => (hown.lt k e).1)
  exact ⟨⟨_, _, ho, (hrow2.push hone hb.size).up (by have := hg.size; omega)⟩, hbel⟩
/-- what lies in blocks of other types may be turned beside -/
theorem LdR.kpT {w wr w2 : World} {v : Value} {ts : List St.T} {S : Nat → Prop} (h : LdR w v ts wr) (hk : Kp S wr w2) (hlo : ∀ k, S k → w.heap.size ≤ k) (hS : ∀ k, S k → ∀ c t, wr.heap[k]? = some (.cells c t (0, 0)) → t ≠ 35 ∧ t ≠ 36 ∧ t ≠ 5) : LdR w v ts w2 := by
  obtain ⟨tvs, L, h1, h2⟩ := h.ex
  refine ⟨⟨tvs, L, h1.of_block fun k e => ?_, (h2.kp hk (fun k c hs _ hc => (hS k hs _ _ hc).2.1 rfl) (fun k c hs _ hc => (hS k hs _ _ hc).2.2 rfl)).up hk.size⟩, h.bel.trans (hk.below h.bel.size hlo)⟩
  obtain ⟨c, hc⟩ := h1.block k e
  exact hk.block k (heap_lt hc) fun hs => (hS k hs _ _ hc).1 rfl
/-- a seal in its block, its labels in a row of their own, and tapes made so far -/
structure VmK (w1 : World) (SB : Nat) (n : Int) (v : Value) (ts : List St.T) (labs : List Int) (wr : World) : Prop where
  ld : LdR w1 v ts wr
  sl : ∃ A C, wr.heap[SB]? = some (sealObj 1 0 n 1 A labs.length C) ∧ OwnZ wr w1.heap.size (.slice A labs.length C) labs
  lo : w1.heap.size ≤ SB
namespace VmK
variable {w1 wr w2 : World} {SB : Nat} {n : Int} {v : Value} {ts : List St.T} {labs : List Int}
theorem ownZ_block {w : World} {base : Nat} {v : Value} {l : List Int} (h : OwnZ w base v l) : ∀ k, v.ownBlock = some k → ∃ c, w.heap[k]? = some (.cells c 3 (0, 0)) := by
  intro k hk
  rcases h.2 with ⟨rfl, _⟩ | ⟨g, cap, cur, rfl, _, hg, _⟩
  · cases hk
  · cases hk; exact ⟨cur, hg⟩
theorem old (h : VmK w1 SB n v ts labs wr) (hb : Below wr.heap.size wr w2) : VmK w1 SB n v ts labs w2 := by
  obtain ⟨A, C, h1, h2⟩ := h.sl
  exact ⟨h.ld.old hb, ⟨A, C, (hb.block _ (heap_lt h1)).trans h1, h2.of_block fun k e => hb.block k (h2.lt k e)⟩, h.lo⟩
/-- one label more -/
theorem label (h : VmK w1 SB n v ts labs wr) (x : Int) (hl : labs.length ≤ 1000) (N : Nat) (hN : N = labs.length + 1) :
    ∃ A C A' C' z, wr.heap[SB]? = some (sealObj 1 0 n 1 A labs.length C) ∧ (∀ ty, (Builtin.append_ #[23, 23] ty #[.slice A labs.length C, .slice (some ⟨wr.heap.size, 0, none⟩) 1 1]).run Try.prog (wr.alloc (.cells #[.int .i64 x] 3)) = .ok (.slice A' N C') z) ∧
      z.heap[SB]? = some (sealObj 1 0 n 1 A labs.length C) ∧ VmK w1 SB n v ts (labs ++ [x]) (z.setCell ⟨SB, 4, none⟩ (.slice A' N C')) := by
  obtain ⟨A, C, h1, h2⟩ := h.sl
  have ha : Below wr.heap.size wr (wr.alloc (.cells #[.int .i64 x] 3)) := (Below.refl _ _).alloc (Nat.le_refl _) _
  have hnew : (wr.alloc (.cells #[.int .i64 x] 3)).heap[wr.heap.size]? = some (.cells #[.int .i64 x] 3 (0, 0)) := Go.Deep.blk_alloc_new _ _
  have hrz : RdZ (wr.alloc (.cells #[.int .i64 x] 3)) (some ⟨wr.heap.size, 0, none⟩) [x] (fun _ => True) := fun _ => ⟨_, _, rfl, trivial, fun j hj => by
    have : j = 0 := by simp at hj; omega
    subst this
    exact heap_cell hnew⟩
  have hsz := h.ld.bel.size
  obtain ⟨A', C', z, hr, ho, hg⟩ := apZ_run (wr.alloc (.cells #[.int .i64 x] 3)) w1.heap.size _ labs (h2.of_block fun k e => ha.block k (h2.lt k e)) ⟨wr.heap.size, 0, none⟩ 1 1 [x] _ rfl hrz (by omega) (by have := ha.size; omega) N hN
  have hz1 : z.heap[SB]? = some (sealObj 1 0 n 1 A labs.length C) := by
    refine (hg.block SB (Nat.lt_of_lt_of_le (heap_lt h1) ha.size) fun e => ?_).trans ((ha.block _ (heap_lt h1)).trans h1)
    obtain ⟨c, hc⟩ := ownZ_block h2 SB e.symm
    rw [h1] at hc
    injection hc with hc
    injection hc with _ e2
    exact absurd e2 (by decide)
  have hk1 : Kp (fun k => (Value.slice A labs.length C).ownBlock = some k) wr z := (Kp.of_below ha).grown hg fun k e => e
  have hk2 := Kp.store z SB 4 (.slice A' N C')
  have hlen : (labs ++ [x]).length = N := by rw [List.length_append, hN]; rfl
  refine ⟨A, C, A', C', z, h1, hr, hz1, ⟨(h.ld.kpT hk1 (fun k e => h2.lo k e) fun k e c t hc => ?_).kpT hk2 (fun k e => by rw [e]; exact h.lo) fun k e c t hc => ?_, ⟨A', C', ?_, ?_⟩, h.lo⟩⟩
  · obtain ⟨c', hc'⟩ := ownZ_block h2 k e
    rw [hc'] at hc
    injection hc with hc
    injection hc with _ e2
    rw [← e2]
    exact ⟨by decide, by decide, by decide⟩
  · rw [e, hz1] at hc
    injection hc with hc
    injection hc with _ e2
    rw [← e2]
    exact ⟨by decide, by decide, by decide⟩
  · rw [hlen]; exact heap_set hz1 (.slice A' N C')
  · rw [hlen]
    refine ho.of_block fun k e => hk2.block k (ho.lt k e) fun e' => ?_
    obtain ⟨c, hc⟩ := ownZ_block ho k e
    rw [e', hz1] at hc
    injection hc with hc
    injection hc with _ e2
    exact absurd e2 (by decide)
/-- one tape more -/
theorem tape (h : VmK w1 SB n v ts labs wr) (hl : ts.length ≤ 1000) {lab cap : Int} {A : Option Addr} {m C : Nat} {us : List Value} {bs : List Tx} {G : Nat → Prop} (lo : Bool) (hb : Below wr.heap.size wr w2) (hm : m = bs.length) (hT : TopB w2 wr.heap.size G (.slice A m C) us bs) :
    ∃ v' z, (∀ ty, (Builtin.append_ #[22, 22] ty #[v, .slice (some ⟨w2.heap.size, 0, none⟩) 1 1]).run Try.prog (w2.alloc (.cells #[.int .i64 lab, .int .i64 cap, .slice A m C, .bool lo] 35)) = .ok v' z) ∧ VmK w1 SB n v' (ts ++ [⟨lab, cap, bs, lo⟩]) labs z := by
  obtain ⟨tvs, L, hown, hrow⟩ := h.ld.ex
  obtain ⟨As, Cs, h1, h2⟩ := h.sl
  have hlen := hrow.len
  have ha : Below wr.heap.size wr (w2.alloc (.cells #[.int .i64 lab, .int .i64 cap, .slice A m C, .bool lo] 35)) := hb.alloc hb.size _
  have hsz := h.ld.bel.size
  obtain ⟨v', z, hr, ho, hg⟩ := apE_run encT (w2.alloc (.cells #[.int .i64 lab, .int .i64 cap, .slice A m C, .bool lo] 35)) 22 w1.heap.size 35 _ 48 Try.underlying22 infoTape rfl v tvs (hown.old ha) ⟨w2.heap.size, 0, none⟩ 1 1 [⟨lab, cap, A, m, C, lo⟩] rfl (newCells w2 [.int .i64 lab, .int .i64 cap, .slice A m C, .bool lo] _) (by unfold maxLen; omega) (by omega) (by have := ha.size; omega)
  have hne : ∀ (k : Nat) (c : Array Value) (t : TypeId), wr.heap[k]? = some (Obj.cells c t (0, 0)) → t ≠ 35 → z.heap[k]? = some (Obj.cells c t (0, 0)) := fun k c t hc ht => by
    refine (hg.block k (Nat.lt_of_lt_of_le (heap_lt hc) ha.size) fun e => ?_).trans ((ha.block _ (heap_lt hc)).trans hc)
    obtain ⟨c', hc'⟩ := hown.block k e.symm
    rw [hc] at hc'
    injection hc' with hc'
    injection hc' with _ e2
    exact ht e2
  refine ⟨v', z, hr, ⟨h.ld.nextL lo hown hrow hb hm hT hg ho, ⟨As, Cs, hne SB _ _ h1 (by decide), h2.of_block fun k e => ?_⟩, h.lo⟩⟩
  obtain ⟨c, hc⟩ := ownZ_block h2 k e
  rw [hc]
  exact hne k c _ hc (by decide)
end VmK
namespace Vm
/-- the block of a member -/
def b (i : Nat) : Tx := Fm.blk ⟨3, (i : Int) + 1, 0, []⟩
theorem b_ok {i : Nat} (h : i < 9) : Fm.Ok ⟨3, (i : Int) + 1, 0, []⟩ := by
  refine ⟨⟨?_, ?_, ?_, ?_, ?_, ?_⟩, ?_⟩
  · show (1 : Int) ≤ 3; decide
  · show (3 : Int) ≤ 6; decide
  · show (1 : Int) ≤ (i : Int) + 1; omega
  · show (i : Int) + 1 ≤ 2147483647; omega
  · show (0 : Int) ≤ 0; decide
  · show (0 : Int) ≤ 2147483647; decide
  · show 0 ≤ Fm.room 3; decide
theorem b_len {i : Nat} (h : i < 9) : (b i).length = 79 := by unfold b; rw [Fm.blk_len (b_ok h)]; rfl
/-- which member is made, from three numbers: lost, with a block turned, not there -/
def tp (a r o j : Nat) : List St.T :=
  if j < a then [⟨(j : Int) + 1, 9, [b j], true⟩] else if j < a + r then [⟨(j : Int) + 1, 9, [(b j).set 4 99], false⟩] else if j < a + r + o then [] else [⟨(j : Int) + 1, 9, [b j], false⟩]
def tl (a r o i : Nat) : List St.T := (List.range i).flatMap (tp a r o)
def labs (i : Nat) : List Int := (List.range i).map fun (j : Nat) => (j : Int) + 1
theorem tl_succ (a r o i : Nat) : tl a r o (i + 1) = tl a r o i ++ tp a r o i := by unfold tl; rw [List.range_succ, List.flatMap_append]; simp
theorem labs_succ (i : Nat) : labs (i + 1) = labs i ++ [(i : Int) + 1] := by unfold labs; rw [List.range_succ, List.map_append]; rfl
theorem labs_len (i : Nat) : (labs i).length = i := by simp [labs]
theorem tp_len (a r o j : Nat) : (tp a r o j).length ≤ 1 := by
  unfold tp
  split
  · simp
  · split
    · simp
    · split <;> simp
theorem tl_len (a r o i : Nat) : (tl a r o i).length ≤ i := by
  induction i with
  | zero => exact Nat.le_refl _
  | succ i ih => rw [tl_succ, List.length_append]; have := tp_len a r o i; omega
theorem byte4 {i : Nat} (h : i < 9) : ∃ hp : 4 < (b i).length, (99 : UInt8) ≠ (b i)[4] := by
  have h4 : 4 < (b i).length := by rw [b_len h]; decide
  refine ⟨h4, fun e => ?_⟩
  have e1 : (b i)[4]? = some (Cd.b8 ((i : Int) + 1)) := rfl
  rw [List.getElem?_eq_getElem h4] at e1
  have e2 := Option.some.inj e1
  rw [← e] at e2
  have e3 := Cd.b8_nat ((i : Int) + 1)
  rw [← e2] at e3
  have e4 : ((99 : UInt8).toNat : Int) = 99 := rfl
  omega
theorem good0 {lab cap : Int} {s : Tx} {n : Nat} (hn : n = 0) : ok ⟨lab, cap, [s], false⟩ n = decide (Fm.Good s ∧ (Fm.parse s).label = lab ∧ (Fm.parse s).number = 0) := by
  subst hn
  have e : Vo.good (Gr.vo ⟨lab, cap, [s], false⟩) 0 = if Fm.Good s ∧ (Fm.parse s).label = lab ∧ (Fm.parse s).number = ((0 : Nat) : Int) then some (Fm.parse s) else none := good_is (bs := [s]) (n := 0) (by simp)
  rw [show ((0 : Nat) : Int) = 0 from rfl] at e
  unfold ok
  rw [e]
  by_cases h : Fm.Good s ∧ (Fm.parse s).label = lab ∧ (Fm.parse s).number = 0
  · rw [decide_eq_true h, if_pos h]; rfl
  · rw [decide_eq_false h, if_neg h]; rfl
theorem bad_one {lab cap : Int} {s : Tx} : bad ⟨lab, cap, [s], false⟩ = if ok ⟨lab, cap, [s], false⟩ 0 then [] else [0] := by
  unfold bad
  show upto _ 1 = _
  rw [upto_succ, upto_zero]
  rfl
theorem ok_b {j : Nat} (h : j < 9) : ok ⟨(j : Int) + 1, 9, [b j], false⟩ 0 = true := by
  rw [good0 rfl]
  have hp : Fm.parse (b j) = ⟨3, (j : Int) + 1, 0, []⟩ := Fm.parse_blk (b_ok h)
  exact decide_eq_true ⟨Fm.good_blk (b_ok h), by rw [hp], by rw [hp]⟩
theorem ok_t {j : Nat} (h : j < 9) : ok ⟨(j : Int) + 1, 9, [(b j).set 4 99], false⟩ 0 = false := by
  rw [good0 rfl]
  obtain ⟨hp, hx⟩ := byte4 h
  exact decide_eq_false fun hh => Fm.turn_no (Fm.good_blk (b_ok h)) hp hx hh.1
theorem tp_spots {a r o j : Nat} (h : j < 9) : (spots (tp a r o j)).length = if j < a + r then 1 else 0 := by
  unfold tp spots
  by_cases h1 : j < a
  · rw [if_pos h1, if_pos (by omega)]; rfl
  · rw [if_neg h1]
    by_cases h2 : j < a + r
    · rw [if_pos h2, if_pos h2, List.flatMap_cons, List.flatMap_nil, List.append_nil]
      unfold spotsT
      rw [if_neg (by simp), sp_len, bad_one, ok_t h]; rfl
    · rw [if_neg h2, if_neg h2]
      by_cases h3 : j < a + r + o
      · rw [if_pos h3]; rfl
      · rw [if_neg h3, List.flatMap_cons, List.flatMap_nil, List.append_nil]
        unfold spotsT
        rw [if_neg (by simp), sp_len, bad_one, ok_b h]; rfl
theorem tl_spots {a r o : Nat} : ∀ i, i ≤ 9 → (spots (tl a r o i)).length = min i (a + r)
  | 0, _ => by simp [tl, spots]
  | i + 1, h => by
    have e : spots (tl a r o (i + 1)) = spots (tl a r o i) ++ spots (tp a r o i) := by rw [tl_succ]; unfold spots; rw [List.flatMap_append]
    rw [e, List.length_append, tl_spots i (by omega), tp_spots (by omega)]
    split <;> omega
theorem tp_find (a r o N j : Nat) : (tp a r o N).find? (fun t => decide (t.label = (j : Int) + 1)) = if j = N then (tp a r o N).head? else none := by
  have hd : ∀ (c : Int) (bs : List Tx) (lo : Bool), ([⟨(N : Int) + 1, c, bs, lo⟩] : List St.T).find? (fun t => decide (t.label = (j : Int) + 1)) = if j = N then some ⟨(N : Int) + 1, c, bs, lo⟩ else none := fun c bs lo => by
    by_cases e : j = N
    · subst e; simp
    · rw [if_neg e, List.find?_cons, decide_eq_false (show ¬ (N : Int) + 1 = (j : Int) + 1 by omega)]; rfl
  unfold tp
  split
  · rw [hd]; rfl
  · split
    · rw [hd]; rfl
    · split
      · simp
      · rw [hd]; rfl
theorem tl_find (a r o j : Nat) : ∀ N, (tl a r o N).find? (fun t => decide (t.label = (j : Int) + 1)) = if j < N then (tp a r o j).head? else none
  | 0 => by rw [if_neg (by omega)]; rfl
  | N + 1 => by
    rw [tl_succ, List.find?_append, tl_find a r o j N, tp_find]
    by_cases h1 : j < N
    · rw [if_pos h1, if_pos (show j < N + 1 by omega), if_neg (show ¬ j = N by omega)]; simp
    · rw [if_neg h1]
      by_cases h2 : j = N
      · subst h2; rw [if_pos rfl, if_pos (show j < j + 1 by omega)]; rfl
      · rw [if_neg h2, if_neg (show ¬ j < N + 1 by omega)]; rfl
theorem tl_gone {a r o j N : Nat} (hj : j < N) (h : j < 9) : gone (tl a r o N) ((j : Int) + 1) = decide (j < a + r + o) := by
  unfold gone Me.first
  rw [tl_find, if_pos hj]
  unfold tp
  by_cases h1 : j < a
  · rw [if_pos h1, decide_eq_true (by omega)]; rfl
  · rw [if_neg h1]
    by_cases h2 : j < a + r
    · rw [if_pos h2, decide_eq_true (by omega)]
      show hurt ⟨(j : Int) + 1, 9, [(b j).set 4 99], false⟩ = true
      rw [hurt_bad rfl, bad_one, ok_t h]; rfl
    · rw [if_neg h2]
      by_cases h3 : j < a + r + o
      · rw [if_pos h3, decide_eq_true h3]; rfl
      · rw [if_neg h3, decide_eq_false h3]
        show hurt ⟨(j : Int) + 1, 9, [b j], false⟩ = false
        rw [hurt_bad rfl, bad_one, ok_b h]; rfl
theorem count_below (K : Nat) : ∀ N, (List.range N).countP (fun j => decide (j < K)) = min N K
  | 0 => by simp
  | N + 1 => by
    rw [List.range_succ, List.countP_append, count_below K N, List.countP_singleton]
    by_cases h : N < K
    · rw [decide_eq_true h, if_pos rfl]; omega
    · rw [decide_eq_false h, if_neg (by decide)]; omega
theorem tl_lost {a r o N : Nat} (h : N ≤ 9) : lost (tl a r o N) (labs N) = min N (a + r + o) := by
  unfold lost labs
  rw [List.countP_map, ← count_below (a + r + o) N]
  refine List.countP_congr fun j hj => ?_
  have hjN := List.mem_range.1 hj
  show gone (tl a r o N) ((j : Int) + 1) = true ↔ _
  rw [tl_gone hjN (by omega)]
theorem tl_sizes {a r o N : Nat} (h : N ≤ 9) : ∀ t ∈ tl a r o N, t.blocks.length ≤ 1000 ∧ (∀ s ∈ t.blocks, s.length ≤ 1000000) ∧ wfZ t.label := by
  intro t ht
  unfold tl at ht
  obtain ⟨j, hj, ht⟩ := List.mem_flatMap.1 ht
  have hjN := List.mem_range.1 hj
  have hb := b_len (i := j) (by omega)
  have key : ∀ (s : Tx) (lo : Bool), s.length = 79 → t = ⟨(j : Int) + 1, 9, [s], lo⟩ → t.blocks.length ≤ 1000 ∧ (∀ s ∈ t.blocks, s.length ≤ 1000000) ∧ wfZ t.label := fun s lo hs e => by
    subst e
    refine ⟨by simp, fun s' hs' => ?_, ?_⟩
    · rw [List.mem_singleton.1 hs']; omega
    · show (Lit.int .i64 ((j : Int) + 1)).wf = true
      exact WalkArith.wf_i64 (by omega)
  unfold tp at ht
  split at ht
  · exact key _ _ hb (List.mem_singleton.1 ht)
  · split at ht
    · exact key _ _ (by rw [List.length_set]; exact hb) (List.mem_singleton.1 ht)
    · split at ht
      · cases ht
      · exact key _ _ hb (List.mem_singleton.1 ht)
end Vm
end Go.Proofs.Ytnbfkihgloipiaa
