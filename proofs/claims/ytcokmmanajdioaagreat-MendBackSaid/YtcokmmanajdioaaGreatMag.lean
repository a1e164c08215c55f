/- Tapes in a row that a call makes longer by append: each in four cells. No function of the program. Tapes whose rows lie in blocks of their own, one tape's behind the other's. No function of the program. What the walk is told of a row of numbers, and the low bits of a number. No function of the program. What the walk is told of a row of bytes that came in as an argument. What the walk is told of a row of bytes, a row of numbers and a slice of rows of bytes that came in as arguments. -/
import Derived.Test.YtcokmmanajdioaaGreatMaf
import Derived.Lib.SmallJoins
import Derived.Test.YtcokmmanajdioaaGreatMab
import Derived.Test.YtcokmmanajdioaaGreatRows
import Derived.OpenShut
import Derived.Deep.Matrix
namespace Go.Proofs.YtcokmmanajdioaaGreat
open Go.RowKit
open Pt (Tx)

/-- a tape's four cells -/
structure Tv where
  label : Int
  cap : Int
  A : Option Addr
  n : Nat
  C : Nat
  lost : Bool
def encT : Enc Tv where
  k := 4
  pos := by decide
  enc t := [.int .i64 t.label, .int .i64 t.cap, .slice t.A t.n t.C, .bool t.lost]
  len _ := rfl
  one t u hu := by
    simp only [List.mem_cons, List.not_mem_nil, or_false] at hu
    rcases hu with rfl | rfl | rfl | rfl <;> rfl
theorem infoTape : (Tryz.prog.info? 31).map (fun i => (i.zero, i.size, i.bytes)) = some (some (.agg #[.int .i64 0, .int .i64 0, .slice none 0 0, .bool false]), 4, 48) := by kernel_rfl
/-- the value that is handed on -/
def Tv.val (t : Tv) : Value := .agg #[.int .i64 t.label, .int .i64 t.cap, .slice t.A t.n t.C, .bool t.lost]
/-- a row of such cells and what they point to read as tapes -/
theorem RdT.of_rows {w : World} {A : Option Addr} {tvs : List Tv} {ts : List St.T} {G : Nat → Prop} (h : encT.Rd w A tvs G) (hl : tvs.length = ts.length)
    (hb : ∀ i (hi : i < tvs.length) (hi' : i < ts.length), tvs[i].label = ts[i].label ∧ tvs[i].cap = ts[i].cap ∧ tvs[i].n = ts[i].blocks.length ∧ tvs[i].lost = ts[i].lost ∧ RdB w tvs[i].A ts[i].blocks G) : RdT w A ts G := by
  intro hn
  obtain ⟨b, off, e, hg, hc⟩ := h (by omega)
  refine ⟨b, off, e, hg, fun i hi => ?_⟩
  have hi' : i < tvs.length := by omega
  obtain ⟨h1, h2, h3, h4, h5⟩ := hb i hi' hi
  refine ⟨tvs[i].A, tvs[i].C, ?_, ?_, ?_, ?_, h5⟩
  · rw [← h1]; exact hc i hi' 0 _ rfl
  · rw [← h2]; exact hc i hi' 1 _ rfl
  · rw [← h3]; exact hc i hi' 2 _ rfl
  · rw [← h4]; exact hc i hi' 3 _ rfl
/-- and the other way round -/
theorem RdT.rows {w : World} {A : Option Addr} {ts : List St.T} {G : Nat → Prop} (h : RdT w A ts G) : ∃ tvs : List Tv, tvs.length = ts.length ∧ encT.Rd w A tvs G
    ∧ ∀ i (hi : i < tvs.length) (hi' : i < ts.length), tvs[i].label = ts[i].label ∧ tvs[i].cap = ts[i].cap ∧ tvs[i].n = ts[i].blocks.length ∧ tvs[i].lost = ts[i].lost ∧ RdB w tvs[i].A ts[i].blocks G := by
  rcases Nat.eq_zero_or_pos ts.length with h0 | h0
  · exact ⟨[], by rw [h0]; rfl, Enc.Rd.nil _ _ _, fun i hi => absurd hi (by simp)⟩
  · obtain ⟨b, off, e, hg, hc⟩ := h h0
    have key : ∀ i, ∃ q : Option Addr × Nat, ∀ hi : i < ts.length, w.cell? ⟨b, off + i * 4 + 2, none⟩ = some (.slice q.1 ts[i].blocks.length q.2) ∧ RdB w q.1 ts[i].blocks G := fun i => by
      by_cases hi : i < ts.length
      · obtain ⟨A', C', _, _, h2, _, h4⟩ := hc i hi
        exact ⟨(A', C'), fun _ => ⟨h2, h4⟩⟩
      · exact ⟨(none, 0), fun h => absurd h hi⟩
    refine ⟨(List.range ts.length).map fun i => ⟨(ts.getD i ⟨0, 0, [], false⟩).label, (ts.getD i ⟨0, 0, [], false⟩).cap, (key i).choose.1, (ts.getD i ⟨0, 0, [], false⟩).blocks.length, (key i).choose.2, (ts.getD i ⟨0, 0, [], false⟩).lost⟩, by simp, fun _ => ⟨b, off, e, hg, fun i hi j u hu => ?_⟩, fun i hi hi' => ?_⟩
    · have hi' : i < ts.length := by simpa using hi
      obtain ⟨k1, k2⟩ := (key i).choose_spec hi'
      obtain ⟨A', C', g0, g1, _, g3, _⟩ := hc i hi'
      have ht : ts.getD i ⟨0, 0, [], false⟩ = ts[i] := by rw [List.getD_eq_getElem?_getD, List.getElem?_eq_getElem hi']; rfl
      simp only [List.getElem_map, List.getElem_range, ht] at hu
      match j, hu with
      | 0, hu => cases hu; exact g0
      | 1, hu => cases hu; exact g1
      | 2, hu => cases hu; exact k1
      | 3, hu => cases hu; exact g3
    · obtain ⟨k1, k2⟩ := (key i).choose_spec hi'
      have ht : ts.getD i ⟨0, 0, [], false⟩ = ts[i] := by rw [List.getD_eq_getElem?_getD, List.getElem?_eq_getElem hi']; rfl
      simp only [List.getElem_map, List.getElem_range, ht]
      exact ⟨trivial, trivial, trivial, trivial, k2⟩
end Go.Proofs.YtcokmmanajdioaaGreat
namespace Go.Proofs.YtcokmmanajdioaaGreat
open Go.RowKit
open Pt (Tx)

/-- a tape whose rows lie in blocks from lo on, below hi -/
structure OneT (w : World) (lo hi : Nat) (t : Tv) (s : St.T) : Prop where
  label : t.label = s.label
  cap : t.cap = s.cap
  n : t.n = s.blocks.length
  lost : t.lost = s.lost
  rows : ∃ us, TopB w lo (fun k => lo ≤ k ∧ k < hi) (.slice t.A t.n t.C) us s.blocks
  top : ∀ k, (Value.slice t.A t.n t.C).ownBlock = some k → k < hi
namespace OneT
variable {w w' : World} {lo hi : Nat} {t : Tv} {s : St.T}
theorem kp {S : Nat → Prop} (h : OneT w lo hi t s) (hk : Kp S w w') (h1 : ∀ k c, S k → k < hi → w.heap[k]? ≠ some (.cells c 34 (0, 0))) (h2 : ∀ k c, S k → k < hi → w.heap[k]? ≠ some (.cells c 5 (0, 0))) : OneT w' lo hi t s := by
  obtain ⟨us, ht⟩ := h.rows
  refine ⟨h.label, h.cap, h.n, h.lost, ⟨us, ⟨own_of ht.top fun k e => ?_, ht.len, fun i hi hi' => (ht.rows i hi hi').of_block fun k e => ?_, ht.gs, ht.inj⟩⟩, h.top⟩
  · obtain ⟨c, hc⟩ := own_blk ht.top k e
    exact hk.block k (heap_lt hc) fun hs => h1 k c hs (h.top k e) hc
  · obtain ⟨c, hc⟩ := (ht.rows i hi hi').block k e
    exact hk.block k (heap_lt hc) fun hs => h2 k c hs (ht.gs i hi k e).2 hc
theorem up (h : OneT w lo hi t s) {hi' : Nat} (hh : hi ≤ hi') : OneT w lo hi' t s := by
  obtain ⟨us, ht⟩ := h.rows
  exact ⟨h.label, h.cap, h.n, h.lost, ⟨us, ht.mono fun k hk => ⟨hk.1, by omega⟩⟩, fun k e => by have := h.top k e; omega⟩
theorem rdB (h : OneT w lo hi t s) : RdB w t.A s.blocks (lo ≤ ·) := by
  obtain ⟨us, ht⟩ := h.rows
  exact ht.rdB
end OneT
/-- tapes, one's rows behind the other's -/
structure RowsT (w : World) (B N : Nat) (tvs : List Tv) (ts : List St.T) (L : Nat → Nat) : Prop where
  len : tvs.length = ts.length
  lo : B ≤ L 0
  mono : ∀ i, i < ts.length → L i ≤ L (i + 1)
  hi : L ts.length ≤ N
  one : ∀ i (hi : i < tvs.length) (hi' : i < ts.length), OneT w (L i) (L (i + 1)) tvs[i] ts[i]
namespace RowsT
variable {w w' : World} {B N : Nat} {tvs : List Tv} {ts : List St.T} {L : Nat → Nat}
theorem nil (w : World) (B : Nat) : RowsT w B B [] [] (fun _ => B) := ⟨rfl, Nat.le_refl _, fun _ _ => Nat.le_refl _, Nat.le_refl _, fun i hi => absurd hi (by simp)⟩
theorem le (h : RowsT w B N tvs ts L) : ∀ j i, i ≤ j → j ≤ ts.length → L i ≤ L j := by
  intro j
  induction j with
  | zero => intro i hi _; rw [Nat.le_zero.1 hi]; exact Nat.le_refl _
  | succ j ih =>
    intro i hi hj
    by_cases e : i = j + 1
    · rw [e]; exact Nat.le_refl _
    · exact Nat.le_trans (ih i (by omega) (by omega)) (h.mono j (by omega))
theorem kp {S : Nat → Prop} (h : RowsT w B N tvs ts L) (hk : Kp S w w') (h1 : ∀ k c, S k → k < N → w.heap[k]? ≠ some (.cells c 34 (0, 0))) (h2 : ∀ k c, S k → k < N → w.heap[k]? ≠ some (.cells c 5 (0, 0))) : RowsT w' B N tvs ts L := by
  refine ⟨h.len, h.lo, h.mono, h.hi, fun i hi hi' => ?_⟩
  have hle := Nat.le_trans (h.le ts.length (i + 1) (by omega) (Nat.le_refl _)) h.hi
  exact (h.one i hi hi').kp hk (fun k c hs hl => h1 k c hs (by omega)) (fun k c hs hl => h2 k c hs (by omega))
theorem up (h : RowsT w B N tvs ts L) {N' : Nat} (hN : N ≤ N') : RowsT w B N' tvs ts L := ⟨h.len, h.lo, h.mono, Nat.le_trans h.hi hN, h.one⟩
theorem down (h : RowsT w B N tvs ts L) {B' : Nat} (hB : B' ≤ B) : RowsT w B' N tvs ts L := ⟨h.len, Nat.le_trans hB h.lo, h.mono, h.hi, h.one⟩
theorem push (h : RowsT w B N tvs ts L) {M : Nat} {t : Tv} {s : St.T} (ho : OneT w N M t s) (hM : N ≤ M) : RowsT w B M (tvs ++ [t]) (ts ++ [s]) (fun i => if i < ts.length then L i else if i = ts.length then N else M) := by
  have hl := h.len
  refine ⟨by simp [hl], ?_, fun i hi => ?_, ?_, fun i hi hi' => ?_⟩
  · split
    · exact h.lo
    · rename_i h0
      have e : ts.length = 0 := by omega
      rw [if_pos e.symm]
      have := h.hi
      rw [e] at this
      exact Nat.le_trans h.lo this
  · rw [List.length_append, List.length_singleton] at hi
    by_cases h0 : i < ts.length
    · rw [if_pos h0]
      by_cases h1 : i + 1 < ts.length
      · rw [if_pos h1]; exact h.mono i h0
      · rw [if_neg h1, if_pos (by omega)]
        exact Nat.le_trans (h.le ts.length i (by omega) (Nat.le_refl _)) h.hi
    · rw [if_neg h0, if_pos (by omega), if_neg (by omega), if_neg (by omega)]; exact hM
  · rw [List.length_append, List.length_singleton, if_neg (by omega), if_neg (by omega)]; exact Nat.le_refl _
  · rw [List.length_append, List.length_singleton] at hi hi'
    by_cases h0 : i < ts.length
    · rw [if_pos h0, List.getElem_append_left h0, List.getElem_append_left (by omega)]
      by_cases h1 : i + 1 < ts.length
      · rw [if_pos h1]; exact h.one i (by omega) h0
      · rw [if_neg h1, if_pos (by omega)]
        have e : i + 1 = ts.length := by omega
        have h2 := h.hi
        rw [← e] at h2
        exact (h.one i (by omega) h0).up h2
    · have e : i = ts.length := by omega
      subst e
      have e1 : (ts ++ [s])[ts.length] = s := by simp
      have e2 : (tvs ++ [t])[ts.length]'(by simp [hl]) = t := by simp [← hl]
      rw [if_neg (by omega), if_pos rfl, if_neg (by omega), if_neg (by omega), e1, e2]
      exact ho
theorem rdT (h : RowsT w B N tvs ts L) {A : Option Addr} {G : Nat → Prop} (hr : encT.Rd w A tvs G) (hG : ∀ b, B ≤ b → G b) : RdT w A ts G :=
  RdT.of_rows hr h.len fun i hi hi' => by
    have ho := h.one i hi hi'
    exact ⟨ho.label, ho.cap, ho.n, ho.lost, ho.rdB.mono fun b hb => hG b (Nat.le_trans (Nat.le_trans h.lo (h.le i 0 (by omega) (by omega))) hb)⟩
end RowsT
end Go.Proofs.YtcokmmanajdioaaGreat
namespace Go.Proofs.YtcokmmanajdioaaGreat
open Go.RowKit Go.ChangeShapes Go.WideShapes

/-- the slice at A of n numbers reads as z -/
def RdI (w : World) (A : Option Addr) (n : Nat) (z : Nat → Int) : Prop :=
  0 < n → ∃ b off, A = some ⟨b, off, none⟩ ∧ ∀ j, j < n → w.cell? ⟨b, off + j, none⟩ = some (.int .i64 (z j))
theorem RdI.old {w w' : World} {A : Option Addr} {n : Nat} {z : Nat → Int} (h : RdI w A n z) (hb : Below w.heap.size w w') : RdI w' A n z := by
  intro hn
  obtain ⟨b, off, e, hc⟩ := h hn
  exact ⟨b, off, e, fun j hj => (hb.cell (World.block_lt_of_cell? _ _ (hc j hj))).trans (hc j hj)⟩
theorem RdI.at {w : World} {A : Option Addr} {n : Nat} {z : Nat → Int} (h : RdI w A n z) {j : Nat} (hj : j < n) : ∃ b off, A = some ⟨b, off, none⟩ ∧ w.cell? ⟨b, off + j, none⟩ = some (.int .i64 (z j)) := by
  obtain ⟨b, off, e, hc⟩ := h (by omega)
  exact ⟨b, off, e, hc j hj⟩
theorem open_rdI {H : Type} {enc : TypeId × Value → H} {w : World} {base fuel : Nat} {held : Bool} {a : Option Addr} {len cap : Nat} {x : DataW H × List MemPlace}
    (h : DataW.trod enc Tryz.prog w base (fun _ => true) held fuel 22 (Value.slice a len cap).cells.toList = some x) : len ≤ maxLen ∧ ∃ z, RdI w a len z := by
  rcases open_ints Tryz.underlying22 Tryz.underlying3 (by kernel_rfl) h with ⟨hcs, _⟩ | ⟨y, l, c, zs, hcs, _, hl, hm, hz, _, hcell, hwz⟩
  · simp [Value.cells] at hcs
    obtain ⟨rfl, rfl, rfl⟩ := hcs
    exact ⟨by decide, fun _ => 0, fun h => absurd h (by omega)⟩
  · simp [Value.cells] at hcs
    obtain ⟨rfl, rfl, rfl⟩ := hcs
    have hz' : zs.length = cap := by simpa using hz
    refine ⟨by omega, fun j => zs.getD j 0, fun h0 => ?_⟩
    obtain ⟨b, off, spot⟩ := y
    have hs : spot = none := by simpa [Addr.add] using World.cell?_spot (hcell 0 (by omega))
    subst hs
    refine ⟨b, off, rfl, fun j hj => ?_⟩
    have := hcell j (by omega)
    by_cases e : j = 0
    · subst e; simpa [Addr.add] using this
    · simpa [Addr.add, e] using this

theorem and_1023 (x : Int) : ∃ y : Nat, bits BinOp.and IntKind.i64 x 1023 = (y : Int) ∧ y ≤ 1023 := by
  have hx : (BitVec.ofInt 64 x &&& BitVec.ofInt 64 1023).toNat ≤ 1023 := by
    rw [BitVec.toNat_and]; exact Nat.and_le_right
  refine ⟨(BitVec.ofInt 64 x &&& BitVec.ofInt 64 1023).toNat, ?_, hx⟩
  show IntKind.i64.wrap ((BitVec.ofInt 64 x &&& BitVec.ofInt 64 1023).toNat : Int) = _
  rw [IntKind.wrap_i64]; omega
def low (z : Nat → Int) (j : Nat) : Nat := (bits BinOp.and IntKind.i64 (z j) 1023).toNat
theorem low_eq (z : Nat → Int) (j : Nat) : bits BinOp.and IntKind.i64 (z j) 1023 = (low z j : Int) ∧ low z j ≤ 1023 := by
  obtain ⟨y, h1, h2⟩ := and_1023 (z j)
  unfold low
  rw [h1]; simp; exact h2
end Go.Proofs.YtcokmmanajdioaaGreat
namespace Go.Proofs.YtcokmmanajdioaaGreat
open Go.RowKit Mx Go.ChangeShapes Go.WideShapes

/-- the element of a number that lies in a cell -/
def feOf (x : Int) : Fe := mk (x.toNat % 256) (Nat.mod_lt _ (by decide))
theorem fi_feOf {x : Int} (h : (Lit.int .u8 x).wf = true) : fi (feOf x) = x := by
  have h' := range_u8 (zs := [x]) (by simpa using h) 0
  simp at h'
  unfold fi feOf
  rw [nat_mk, Nat.mod_eq_of_lt (by omega)]; omega
theorem getD_wf {k : IntKind} {zs : List Int} (h : ∀ n ∈ zs, (Lit.int k n).wf = true) {c : Nat} (hc : c < zs.length) : (Lit.int k (zs.getD c 0)).wf = true := by
  rw [List.getD_eq_getElem?_getD, List.getElem?_eq_getElem hc]
  exact h _ (List.getElem_mem hc)
theorem rd_cells {w : World} {a : Addr} {n : Nat} {zs : List Int} (hn : n ≤ zs.length) (hw : ∀ x ∈ zs, (Lit.int .u8 x).wf = true) (hc : ∀ c, c < n → w.cell? (a.add c) = some (.int .u8 (zs.getD c 0))) :
    Rd w (some a) n (fun c => feOf (zs.getD c 0)) (fun _ => True) := by
  intro h0
  obtain ⟨b, off, spot⟩ := a
  have hs : spot = none := by simpa [Addr.add] using World.cell?_spot (hc 0 h0)
  subst hs
  refine ⟨b, off, rfl, trivial, fun j hj => ?_⟩
  have := hc j hj
  rw [fi_feOf (getD_wf hw (by omega))]
  by_cases e : j = 0
  · subst e; simpa [Addr.add] using this
  · simpa [Addr.add, e] using this
section
variable {H : Type} {enc : TypeId × Value → H} {w : World} {base fuel : Nat} {held : Bool} {a : Option Addr} {len cap : Nat} {x : DataW H × List MemPlace}
/-- a row of bytes -/
theorem open_rd (h : DataW.trod enc Tryz.prog w base (fun _ => true) held fuel 34 (Value.slice a len cap).cells.toList = some x) :
    len ≤ maxLen ∧ ∃ r, Rd w a len r (fun _ => True) := by
  rcases open_ints Tryz.underlying34 Tryz.underlying5 (by kernel_rfl) h with ⟨hcs, _⟩ | ⟨y, l, c, zs, hcs, _, hl, hm, hz, _, hcell, hwz⟩
  · simp [Value.cells] at hcs
    obtain ⟨rfl, rfl, rfl⟩ := hcs
    exact ⟨by decide, fun _ => 0, Rd.empty _ _ _ _⟩
  · simp [Value.cells] at hcs
    obtain ⟨rfl, rfl, rfl⟩ := hcs
    have hz' : zs.length = cap := by simpa using hz
    exact ⟨by omega, _, rd_cells (by omega) hwz (fun c hc => hcell c (by omega))⟩
/-- a row of bytes, which is empty if it is nil -/
theorem open_rdN (h : DataW.trod enc Tryz.prog w base (fun _ => true) held fuel 34 (Value.slice a len cap).cells.toList = some x) :
    len ≤ maxLen ∧ (a = none → len = 0 ∧ cap = 0) ∧ ∃ r, Rd w a len r (fun _ => True) := by
  rcases open_ints Tryz.underlying34 Tryz.underlying5 (by kernel_rfl) h with ⟨hcs, _⟩ | ⟨y, l, c, zs, hcs, _, hl, hm, hz, _, hcell, hwz⟩
  · simp [Value.cells] at hcs
    obtain ⟨rfl, rfl, rfl⟩ := hcs
    exact ⟨by decide, fun _ => ⟨rfl, rfl⟩, fun _ => 0, Rd.empty _ _ _ _⟩
  · simp [Value.cells] at hcs
    obtain ⟨rfl, rfl, rfl⟩ := hcs
    have hz' : zs.length = cap := by simpa using hz
    exact ⟨by omega, (fun h => by cases h), _, rd_cells (by omega) hwz (fun c hc => hcell c (by omega))⟩
end
end Go.Proofs.YtcokmmanajdioaaGreat
namespace Go.Proofs.YtcokmmanajdioaaGreat
open Go.RowKit Mx Go.ChangeShapes Go.WideShapes

section
variable {H : Type} {enc : TypeId × Value → H} {w : World} {base fuel : Nat} {held : Bool} {a : Option Addr} {len cap : Nat} {x : DataW H × List MemPlace}
/-- rows of bytes -/
theorem open_rdM (h : DataW.trod enc Tryz.prog w base (fun _ => true) held fuel 29 (Value.slice a len cap).cells.toList = some x) :
    len ≤ maxLen ∧ ∃ L M, RdM w a len L M (fun _ => True) := by
  rcases Go.Deep.open_int_rows Tryz.underlying29 Tryz.underlying34 Tryz.underlying5 (by kernel_rfl) (by kernel_rfl) h with ⟨hcs, _⟩ | ⟨y, l, c, A, L, C, Z, hcs, _, hl, hm, _, hrow⟩
  · simp [Value.cells] at hcs
    obtain ⟨rfl, rfl, rfl⟩ := hcs
    exact ⟨by decide, fun _ => 0, fun _ _ => 0, RdM.empty _ _ _ _ _⟩
  · simp [Value.cells] at hcs
    obtain ⟨rfl, rfl, rfl⟩ := hcs
    refine ⟨by omega, L, fun r c => feOf ((Z r).getD c 0), fun h0 => ?_⟩
    obtain ⟨b, off, spot⟩ := y
    have hs : spot = none := by simpa [Addr.add] using World.cell?_spot (hrow 0 (by omega)).1
    subst hs
    refine ⟨b, off, rfl, trivial, fun i hi => ⟨A i, C i, ?_, ?_⟩⟩
    · have := (hrow i (by omega)).1
      by_cases e : i = 0
      · subst e; simpa [Addr.add] using this
      · simpa [Addr.add, e] using this
    · obtain ⟨_, r1, r2, r3, r4, r5, r6⟩ := hrow i (by omega)
      cases hA : A i with
      | none =>
        have := r5 hA
        intro h1; omega
      | some a' => exact rd_cells (by omega) r4 (fun c hc => (r6 a' hA).2 c (by omega))
end
end Go.Proofs.YtcokmmanajdioaaGreat
