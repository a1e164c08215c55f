/- A tape of the law's own, in a block, to which rows of blocks are appended. No function of the program but the document's own in its words. What the walk is told of a row of numbers, and the low bits of a number. No function of the program. What an append to a tape's blocks leaves; zeros that were made; the low bits of a number. No function of the program. A tape of any label that a law builds in a block, to which rows of blocks are appended; orders of a row's places. No function of the program. Two parts that are alike, compared. -/
import Derived.Test.YtbijjgicjkmopaaDoorMax
import Derived.Test.YtbijjgicjkmopaaDoorMaj
import Derived.Test.YtbijjgicjkmopaaDoorMaw
import Derived.Test.YtbijjgicjkmopaaDoorMab
import Derived.Test.YtbijjgicjkmopaaDoorRows
import Derived.OpenShut
import Derived.Deep.Matrix
import Derived.Laws.OwnMore
import Derived.Test.YtbijjgicjkmopaaDoorMao
import Derived.Test.YtbijjgicjkmopaaDoorMak
import Derived.Laws.StructEq
namespace Go.Proofs.YtbijjgicjkmopaaDoor
open Go.RowKit
open Pt (Tx)

/-- its rows' cells -/
theorem TopB.cells {w : World} {B : Nat} {G : Nat → Prop} {v : Value} {us : List Value} {bs : List Tx} (h : TopB w B G v us bs) (hp : 0 < us.length) : ∃ g cap, v = .slice (some ⟨g, 0, none⟩) us.length cap ∧ us.length ≤ cap ∧ B ≤ g ∧ ∀ j u, us[j]? = some u → w.cell? ⟨g, j, none⟩ = some u := by
  rcases h.top.2 with ⟨_, h0⟩ | ⟨g, cap, cur, e, hB, hg, hnc, _, hs, ht⟩
  · omega
  · refine ⟨g, cap, e, hnc, hB, fun j u hu => ?_⟩
    have hj : j < us.length := (List.getElem?_eq_some_iff.1 hu).1
    rw [← ht, List.getElem?_take, if_pos (by omega), Array.getElem?_toList] at hu
    rw [heap_cell hg, hu]
/-- rows behind rows -/
theorem TopB.concat {w w' : World} {B B2 : Nat} {G G2 : Nat → Prop} {v v2 v' : Value} {us us2 : List Value} {bs bs2 : List Tx} (h : TopB w B G v us bs) (h2 : TopB w B2 G2 v2 us2 bs2) (hd : ∀ k, G k → G2 k → False) (hBB : B ≤ B2) (m : Nat) (hm : m ≤ us2.length)
    (ho : w'.ownsRow B 28 1 v' (us.length + m) (us ++ us2.take m)) (hg : w.grownBy w' v.ownBlock) : TopB w' B (fun k => G k ∨ G2 k) v' (us ++ us2.take m) (bs ++ bs2.take m) := by
  have keep : ∀ {B' : Nat} {x : Value} {l : Tx}, OwnL w B' x l → OwnL w' B' x l := fun {B' x l} hx => hx.of_block fun k e => by
    obtain ⟨c, hc⟩ := hx.block k e
    exact blk_kept h.top hg hc (by decide)
  have hl2 := h2.len
  have h1 := h.len
  refine ⟨by rw [List.length_append, List.length_take, Nat.min_eq_left hm]; exact ho, by simp [h1, hl2], fun i hi hi' => ?_, fun i hi k e => ?_, fun i j hi hj k e e' => ?_⟩
  · rcases Nat.lt_or_ge i us.length with hl | hl
    · rw [List.getElem_append_left hl, List.getElem_append_left (by omega)]
      exact keep (h.rows i hl (by omega))
    · rw [List.getElem_append_right hl, List.getElem_append_right (by omega)]
      simp only [List.getElem_take]
      have := keep ((h2.rows (i - us.length) (by simp at hi; omega) (by simp at hi; omega)).lower hBB)
      have e : i - bs.length = i - us.length := by omega
      simp only [e]
      exact this
  · rcases Nat.lt_or_ge i us.length with hl | hl
    · rw [List.getElem_append_left hl] at e
      exact .inl (h.gs i hl k e)
    · rw [List.getElem_append_right hl, List.getElem_take] at e
      exact .inr (h2.gs _ _ k e)
  · rcases Nat.lt_or_ge i us.length with hl | hl <;> rcases Nat.lt_or_ge j us.length with hm' | hm'
    · rw [List.getElem_append_left hl] at e
      rw [List.getElem_append_left hm'] at e'
      exact h.inj i j hl hm' k e e'
    · rw [List.getElem_append_left hl] at e
      rw [List.getElem_append_right hm', List.getElem_take] at e'
      exact (hd k (h.gs i hl k e) (h2.gs _ _ k e')).elim
    · rw [List.getElem_append_left hm'] at e'
      rw [List.getElem_append_right hl, List.getElem_take] at e
      exact (hd k (h.gs j hm' k e') (h2.gs _ _ k e)).elim
    · rw [List.getElem_append_right hl, List.getElem_take] at e
      rw [List.getElem_append_right hm', List.getElem_take] at e'
      have := h2.inj (i - us.length) (j - us.length) (by simp at hi; omega) (by simp at hj; omega) k e e'
      omega
/-- a piece of a row behind rows, as what reads -/
theorem TopB.more {w w' : World} {B B2 : Nat} {G : Nat → Prop} {v v' x : Value} {us : List Value} {bs : List Tx} {s : Tx} {A : Option Addr} {n C : Nat} (h : TopB w B G v us bs) (hs : OwnL w B2 x s) (hx : ∃ m D, x = .slice A m D) (hn : n ≤ s.length) (hC : n ≤ C) (hA : A = none → n = 0 ∧ C = 0)
    (ho : w'.ownsRow B 28 1 v' (us.length + 1) (us ++ [.slice A n C])) (hg : w.grownBy w' v.ownBlock) : ∃ g D, v' = .slice (some ⟨g, 0, none⟩) (bs.length + 1) D ∧ bs.length + 1 ≤ D ∧ RdB w' (some ⟨g, 0, none⟩) (bs ++ [s.take n]) (fun k => ∃ c t, (t = 5 ∨ t = 28) ∧ w'.heap[k]? = some (.cells c t (0, 0))) := by
  have keep : ∀ {B' : Nat} {x : Value} {l : Tx}, OwnL w B' x l → OwnL w' B' x l := fun {B' x l} hx => hx.of_block fun k e => by
    obtain ⟨c, hc⟩ := hx.block k e
    exact blk_kept h.top hg hc (by decide)
  rcases ho.2 with ⟨_, h0⟩ | ⟨g, cap, cur, e, hB, hgb, hnc, _, hsz, ht⟩
  · omega
  · refine ⟨g, cap, by rw [e, h.len], by rw [← h.len]; exact hnc, fun _ => ⟨g, 0, rfl, ⟨_, _, .inr rfl, hgb⟩, fun i hi => ?_⟩⟩
    have hcell : ∀ j u, (us ++ [Value.slice A n C])[j]? = some u → w'.cell? ⟨g, j, none⟩ = some u := fun j u hu => by
      have hj : j < us.length + 1 := by have := (List.getElem?_eq_some_iff.1 hu).1; simpa using this
      rw [← ht, List.getElem?_take, if_pos (by omega), Array.getElem?_toList] at hu
      rw [heap_cell hgb, hu]
    rw [Nat.zero_add]
    rcases Nat.lt_or_ge i us.length with hl | hl
    · have hl' : i < bs.length := by rw [← h.len]; exact hl
      obtain ⟨A', C', e1, h1, -, h3, h4⟩ := (keep (h.rows i hl hl')).rd
      rw [List.getElem_append_left hl']
      refine ⟨A', C', hcell i _ ?_, h1, h3, h4.mono fun k hk => ?_⟩
      rotate_left
      · obtain ⟨c, hc⟩ := (keep (h.rows i hl hl')).block k hk.2
        exact ⟨c, _, .inl rfl, hc⟩
      rw [List.getElem?_append_left hl, List.getElem?_eq_getElem hl, e1]
    · have : i = us.length := by simp at hi; have := h.len; omega
      subst this
      have e2 : (bs ++ [s.take n])[us.length] = s.take n := by simp [h.len]
      rw [e2]
      have hlen : (s.take n).length = n := by rw [List.length_take]; omega
      rw [hlen]
      refine ⟨A, C, hcell us.length _ (by simp), hC, hA, ?_⟩
      obtain ⟨m, D, rfl⟩ := hx
      obtain ⟨A', C', e1, -, -, -, h4⟩ := (keep hs).rd
      injection e1 with y1 y2 y3
      subst y1
      refine (h4.take n).mono fun k hk => ?_
      obtain ⟨c, hc⟩ := (keep hs).block k hk.2
      exact ⟨c, _, .inl rfl, hc⟩
/-- append of rows, as an equation -/
theorem apR_run (w : World) (base : Nat) (v : Value) (us : List Value) (hown : w.ownsRow base 28 1 v us.length us) (hl : us.length ≤ 1000000) (ad : Addr) (m c : Nat) (news : List Value) (hn : news.length = m) (hm : m ≤ 1000000) (hc : ∀ j u, news[j]? = some u → w.cell? (ad.add j) = some u) (h1 : ∀ u ∈ news, u.oneCell' = true) (hbase : base ≤ w.heap.size) :
    ∃ v' w', (∀ ty, (Builtin.append_ #[25, 25] ty #[v, .slice (some ad) m c]).run Tryd.prog w = .ok v' w') ∧ w'.ownsRow base 28 1 v' (us.length + m) (us ++ news) ∧ w.grownBy w' v.ownBlock := by
  obtain ⟨i0, hi, hz0, hz1, hz2⟩ := info_parts infoRowT
  obtain ⟨v', w', h1, h2, h3, _⟩ := run_append_own (P := Tryd.prog) w base 25 3 28 i0 (.slice none 0 0) 1 24 Tryd.underlying25 hi hz0 hz1 hz2 rfl (by decide) v us.length us hown ad m c news (by rw [hn, Nat.mul_one]) hc h1 (by unfold maxLen; omega) (by omega) hbase
  exact ⟨v', w', fun ty => h1, h2, h3⟩
/-- a tape of label 7 in block TB, whose blocks are its own -/
structure Tp (w : World) (TB : Nat) (A : Option Addr) (n C : Nat) (us : List Value) (bs : List Tx) (x : World) : Prop where
  blk : x.heap[TB]? = some (tapeObj 7 64 A n C false)
  top : TopB x (TB + 1) (TB < ·) (.slice A n C) us bs
  bel : Below w.heap.size w x
  lo : w.heap.size ≤ TB
namespace Tp
variable {w x y z : World} {TB n C : Nat} {A : Option Addr} {us : List Value} {bs : List Tx}
theorem len (h : Tp w TB A n C us bs x) : n = bs.length := by
  obtain ⟨A', C', e, _⟩ := h.top.val
  injection e
theorem old (h : Tp w TB A n C us bs x) (hb : Below x.heap.size x y) : Tp w TB A n C us bs y := ⟨(hb.block TB (heap_lt h.blk)).trans h.blk, h.top.old hb, h.bel.trans (hb.mono h.bel.size), h.lo⟩
/-- its blocks have grown, and are stored -/
theorem stored (h : Tp w TB A n C us bs x) {A' : Option Addr} {n' C' : Nat} {us' : List Value} {bs' : List Tx} {G : Nat → Prop} (hg : x.grownBy y (Value.slice A n C).ownBlock) (ht : TopB y (TB + 1) G (.slice A' n' C') us' bs') (hG : ∀ k, G k → TB < k) : Tp w TB A' n' C' us' bs' (y.setCell ⟨TB, 2, none⟩ (.slice A' n' C')) := by
  have hne : some TB ≠ (Value.slice A n C).ownBlock := fun e => by have := (World.ownsRow.lt h.top.top TB e.symm).1; omega
  have hTB : y.heap[TB]? = some (tapeObj 7 64 A n C false) := (hg.block TB (heap_lt h.blk) hne).trans h.blk
  have hk : Kp (· = TB) y (y.setCell ⟨TB, 2, none⟩ (.slice A' n' C')) := Kp.store _ _ _ _
  have hno : ∀ {k : Nat} {c : Array Value} {t : TypeId}, t ≠ 27 → k = TB → y.heap[k]? ≠ some (.cells c t (0, 0)) := fun {k c t} hty e hk' => by
    subst e
    rw [hTB] at hk'
    injection hk' with hk'
    injection hk' with _ e2
    exact hty e2.symm
  have hb : Below w.heap.size w y := h.bel.grown hg h.bel.size fun k e => by have := (World.ownsRow.lt h.top.top k e).1; have := h.lo; omega
  refine ⟨?_, ((ht.mono hG).kpT hk (fun k c e => hno (by decide) e) (fun k c e => hno (by decide) e)), hb.trans (hk.below hb.size fun k e => by have := h.lo; omega), h.lo⟩
  exact heap_set hTB _
end Tp
end Go.Proofs.YtbijjgicjkmopaaDoor
namespace Go.Proofs.YtbijjgicjkmopaaDoor
open Go.RowKit Go.ChangeShapes Go.WideShapes

/-- the slice at A of n numbers reads as z -/
def RdI (w : World) (A : Option Addr) (n : Nat) (z : Nat → Int) : Prop :=
  0 < n → ∃ b off, A = some ⟨b, off, none⟩ ∧ ∀ j, j < n → w.cell? ⟨b, off + j, none⟩ = some (.int .i64 (z j))
theorem RdI.old {w w' : World} {A : Option Addr} {n : Nat} {z : Nat → Int} (h : RdI w A n z) (hb : Below w.heap.size w w') : RdI w' A n z := by
  intro hn
  obtain ⟨b, off, e, hc⟩ := h hn
  exact ⟨b, off, e, fun j hj => (hb.cell (World.block_lt_of_cell? _ _ (hc j hj))).trans (hc j hj)⟩
theorem RdI.at {w : World} {A : Option Addr} {n : Nat} {z : Nat → Int} (h : RdI w A n z) {j : Nat} (hj : j < n) : ∃ b off, A = some ⟨b, off, none⟩ ∧ w.cell? ⟨b, off + j, none⟩ = some (.int .i64 (z j)) := by
  obtain ⟨b, off, e, hc⟩ := h (by omega)
  exact ⟨b, off, e, hc j hj⟩
theorem open_rdI {H : Type} {enc : TypeId × Value → H} {w : World} {base fuel : Nat} {held : Bool} {a : Option Addr} {len cap : Nat} {x : DataW H × List MemPlace}
    (h : DataW.trod enc Tryd.prog w base (fun _ => true) held fuel 22 (Value.slice a len cap).cells.toList = some x) : len ≤ maxLen ∧ ∃ z, RdI w a len z := by
  rcases open_ints Tryd.underlying22 Tryd.underlying3 (by kernel_rfl) h with ⟨hcs, _⟩ | ⟨y, l, c, zs, hcs, _, hl, hm, hz, _, hcell, hwz⟩
  · simp [Value.cells] at hcs
    obtain ⟨rfl, rfl, rfl⟩ := hcs
    exact ⟨by decide, fun _ => 0, fun h => absurd h (by omega)⟩
  · simp [Value.cells] at hcs
    obtain ⟨rfl, rfl, rfl⟩ := hcs
    have hz' : zs.length = cap := by simpa using hz
    refine ⟨by omega, fun j => zs.getD j 0, fun h0 => ?_⟩
    obtain ⟨b, off, spot⟩ := y
    have hs : spot = none := by simpa [Addr.add] using World.cell?_spot (hcell 0 (by omega))
    subst hs
    refine ⟨b, off, rfl, fun j hj => ?_⟩
    have := hcell j (by omega)
    by_cases e : j = 0
    · subst e; simpa [Addr.add] using this
    · simpa [Addr.add, e] using this

theorem and_1023 (x : Int) : ∃ y : Nat, bits BinOp.and IntKind.i64 x 1023 = (y : Int) ∧ y ≤ 1023 := by
  have hx : (BitVec.ofInt 64 x &&& BitVec.ofInt 64 1023).toNat ≤ 1023 := by
    rw [BitVec.toNat_and]; exact Nat.and_le_right
  refine ⟨(BitVec.ofInt 64 x &&& BitVec.ofInt 64 1023).toNat, ?_, hx⟩
  show IntKind.i64.wrap ((BitVec.ofInt 64 x &&& BitVec.ofInt 64 1023).toNat : Int) = _
  rw [IntKind.wrap_i64]; omega
def low (z : Nat → Int) (j : Nat) : Nat := (bits BinOp.and IntKind.i64 (z j) 1023).toNat
theorem low_eq (z : Nat → Int) (j : Nat) : bits BinOp.and IntKind.i64 (z j) 1023 = (low z j : Int) ∧ low z j ≤ 1023 := by
  obtain ⟨y, h1, h2⟩ := and_1023 (z j)
  unfold low
  rw [h1]; simp; exact h2
end Go.Proofs.YtbijjgicjkmopaaDoor
namespace Go.Proofs.YtbijjgicjkmopaaDoor
open Go.RowKit
open Pt (Tx)

theorem rd_zeros (w : World) (n : Nat) : RdL (w.alloc (.cells (madeCells #[.int .u8 0] n) 5)) (some ⟨w.heap.size, 0, none⟩) (List.replicate n 0) (w.heap.size ≤ ·) := by
  refine (RdL.of_cells (n := 0) (l := List.replicate n 0) (Go.Deep.blk_alloc_new _ _) fun j hj => ?_).mono fun x hx => by rw [hx]; exact Nat.le_refl _
  rw [List.length_replicate] at hj
  have h := toList_madeCells_one (.int .u8 0) n
  rw [← Array.getElem?_toList, h, Nat.zero_add, List.getElem?_replicate, if_pos hj]
  simp
theorem and_127 (x : Int) : ∃ y : Nat, bits BinOp.and IntKind.i64 x 127 = (y : Int) ∧ y ≤ 127 := by
  have hx : (BitVec.ofInt 64 x &&& BitVec.ofInt 64 127).toNat ≤ 127 := by
    rw [BitVec.toNat_and]; exact Nat.and_le_right
  refine ⟨(BitVec.ofInt 64 x &&& BitVec.ofInt 64 127).toNat, ?_, hx⟩
  show IntKind.i64.wrap ((BitVec.ofInt 64 x &&& BitVec.ofInt 64 127).toNat : Int) = _
  rw [IntKind.wrap_i64]; omega
def low7 (z : Nat → Int) (j : Nat) : Nat := (bits BinOp.and IntKind.i64 (z j) 127).toNat
theorem low7_eq (z : Nat → Int) (j : Nat) : bits BinOp.and IntKind.i64 (z j) 127 = (low7 z j : Int) ∧ low7 z j ≤ 127 := by
  obtain ⟨y, h1, h2⟩ := and_127 (z j)
  unfold low7
  rw [h1]; simp; exact h2
/-- the sizes of the parts -/
def sizes (z : Nat → Int) (i : Nat) : List Nat := (List.range i).map (low7 z)
theorem sizes_succ (z : Nat → Int) (i : Nat) : sizes z (i + 1) = sizes z i ++ [low7 z i] := by simp [sizes, List.range_succ]
theorem sizes_len (z : Nat → Int) (i : Nat) : (sizes z i).length = i := by simp [sizes]
theorem sizes_le (z : Nat → Int) (i : Nat) : ∀ n ∈ sizes z i, n ≤ 127 := by
  intro n hn
  obtain ⟨j, -, rfl⟩ := List.mem_map.1 hn
  exact (low7_eq z j).2
theorem a_right : Pt.right [97] = true := by decide
theorem b_right : Pt.right [98] = true := by decide
/-- the label's block -/
def b0 : Tx := Fm.blk (Vo.first 7 [68])
theorem b0_ok : Fm.Ok (Vo.first 7 [68]) := Vo.first_ok (by decide) (by decide)
theorem b0_le : ∀ x ∈ [b0], x.length ≤ 94 := by
  intro x hx
  rw [List.mem_singleton.1 hx, b0, ← Fm.put_ok b0_ok]
  exact Fm.put_le _
/-- the blocks of the parts that were laid -/
def laid (z : Nat → Int) (i : Nat) : List Tx := Vo.lay [97] 7 [b0] 0 (sizes z i)
theorem laid_room (z : Nat → Int) (i : Nat) : Vo.room (sizes z i) ≤ 4 * i := by
  have := Vo.room_le (sizes z i) (sizes_le z i)
  rwa [sizes_len] at this
theorem laid_len (z : Nat → Int) {i : Nat} (hi : i ≤ 8) : (laid z i).length = 1 + Vo.room (sizes z i) := by
  have h := laid_room z i
  exact Vo.lay_len a_right (by decide) (sizes z i) [b0] 0 (fun n hn => by have := sizes_le z i n hn; omega) (by rw [sizes_len]; omega) (by simp; omega)
theorem laid_succ (z : Nat → Int) (i : Nat) : laid z (i + 1) = laid z i ++ Vo.put 7 ((laid z i).length : Int) (Vo.hd [97] i (low7 z i)) (List.replicate (low7 z i) 0) := by
  unfold laid
  rw [sizes_succ, Vo.lay_snoc, sizes_len, Nat.zero_add]
theorem laid_le (z : Nat → Int) (i : Nat) : ∀ x ∈ laid z i, x.length ≤ 94 := fun _ hx => Vo.lay_le _ _ _ b0_le hx
theorem laid_right (z : Nat → Int) {i : Nat} (hi : i ≤ 8) : Vo.Right 7 ((laid z i).length : Int) (Vo.hd [97] i (low7 z i)) (List.replicate (low7 z i) 0) := by
  have h := laid_room z i
  exact Vo.right_hd a_right (by decide) (by omega) (by have := (low7_eq z i).2; omega) (by rw [laid_len z hi]; omega)
/-- what an append of rows leaves -/
theorem Tp.grow {w x : World} {TB n C B2 : Nat} {A : Option Addr} {us us2 : List Value} {bs bs2 : List Tx} {G2 : Nat → Prop} {v2 : Value} (h : Tp w TB A n C us bs x) (h2 : TopB x B2 G2 v2 us2 bs2) (hd : ∀ i (hi : i < us.length) k, us[i].ownBlock = some k → ¬ G2 k) (hB2 : TB + 1 ≤ B2) (hG2 : ∀ k, G2 k → TB < k) (m : Nat) (hm : m ≤ us2.length) (h0 : 0 < us2.length) (h1 : us.length ≤ 900000) (h3 : us2.length ≤ 90000) :
    ∃ g2 c2 A' C' y, v2 = .slice (some ⟨g2, 0, none⟩) us2.length c2 ∧ us2.length ≤ c2 ∧ (∀ j u, us2[j]? = some u → x.cell? ⟨g2, j, none⟩ = some u) ∧ (∀ ty, (Builtin.append_ #[25, 25] ty #[.slice A n C, .slice (some ⟨g2, 0, none⟩) m c2]).run Tryd.prog x = .ok (.slice A' (n + m) C') y)
      ∧ y.cell? ⟨TB, 2, none⟩ = some (.slice A n C) ∧ y.frozen? ⟨TB, 2, none⟩ = false ∧ Tp w TB A' (n + m) C' (us ++ us2.take m) (bs ++ bs2.take m) (y.setCell ⟨TB, 2, none⟩ (.slice A' (n + m) C'))
      ∧ (∀ k o, k ≠ TB → (Value.slice A n C).ownBlock ≠ some k → x.heap[k]? = some o → (y.setCell ⟨TB, 2, none⟩ (.slice A' (n + m) C')).heap[k]? = some o) := by
  obtain ⟨g2, c2, e2, hc2, hg2, hcell⟩ := h2.cells h0
  have hn : n = us.length := by rw [h.len, h.top.len]
  have hsz : TB + 1 ≤ x.heap.size := heap_lt h.blk
  obtain ⟨v', y, hr, ho, hg⟩ := apR_run x (TB + 1) (.slice A n C) us h.top.top (by omega) ⟨g2, 0, none⟩ m c2 (us2.take m) (by rw [List.length_take]; omega) (by omega) (fun j u hu => by
    rw [addr_add, Nat.zero_add]
    rw [List.getElem?_take] at hu
    split at hu
    · exact hcell j u hu
    · cases hu) (fun u hu => by
      obtain ⟨j, hj⟩ := List.getElem?_of_mem hu
      rw [List.getElem?_take] at hj
      split at hj
      · obtain ⟨hlt, rfl⟩ := List.getElem?_eq_some_iff.1 hj
        obtain ⟨A', C', e, -⟩ := (h2.rows j hlt (by rw [← h2.len]; exact hlt)).rd
        rw [e]; rfl
      · cases hj) hsz
  have hT1 : TopB x (TB + 1) (fun k => TB < k ∧ ¬ G2 k) (.slice A n C) us bs := ⟨h.top.top, h.top.len, h.top.rows, fun i hi k e => ⟨h.top.gs i hi k e, hd i hi k e⟩, h.top.inj⟩
  have hT2 := hT1.concat h2 (fun k hk hk' => hk.2 hk') hB2 m hm ho hg
  obtain ⟨A', C', rfl, -, -, -⟩ := hT2.val
  have hlen : (bs ++ bs2.take m).length = n + m := by
    have h4 := h2.len
    rw [List.length_append, List.length_take, h.len]; omega
  rw [hlen] at hT2 hr ho
  have hne : some TB ≠ (Value.slice A n C).ownBlock := fun e => by have := (World.ownsRow.lt h.top.top TB e.symm).1; omega
  have hTB : y.heap[TB]? = some (tapeObj 7 64 A n C false) := (hg.block TB (heap_lt h.blk) hne).trans h.blk
  refine ⟨g2, c2, A', C', y, e2, hc2, hcell, hr, heap_cell hTB, heap_frozen hTB, h.stored hg hT2 (fun k hk => hk.elim (fun h => h.1) (hG2 k)), fun k o hk hk' ho => ?_⟩
  have h5 : y.heap[k]? = some o := (hg.block k (heap_lt ho) (fun e => hk' e.symm)).trans ho
  exact ((Kp.store y TB 2 _ : Kp (· = TB) y _).block k (heap_lt h5) hk).trans h5
end Go.Proofs.YtbijjgicjkmopaaDoor
namespace Go.Proofs.YtbijjgicjkmopaaDoor
open Go.RowKit
open Pt (Tx)

/-- a tape in block TB, whose blocks are its own -/
structure Tg (w : World) (lab cap : Int) (TB : Nat) (A : Option Addr) (n C : Nat) (us : List Value) (bs : List Tx) (x : World) : Prop where
  blk : x.heap[TB]? = some (tapeObj lab cap A n C false)
  top : TopB x (TB + 1) (TB < ·) (.slice A n C) us bs
  bel : Below w.heap.size w x
  lo : w.heap.size ≤ TB
namespace Tg
variable {w x y z : World} {lab cap : Int} {TB n C : Nat} {A : Option Addr} {us : List Value} {bs : List Tx}
theorem len (h : Tg w lab cap TB A n C us bs x) : n = bs.length := by
  obtain ⟨A', C', e, _⟩ := h.top.val
  injection e
theorem old (h : Tg w lab cap TB A n C us bs x) (hb : Below x.heap.size x y) : Tg w lab cap TB A n C us bs y := ⟨(hb.block TB (heap_lt h.blk)).trans h.blk, h.top.old hb, h.bel.trans (hb.mono h.bel.size), h.lo⟩
/-- its blocks have grown, and are stored -/
theorem stored (h : Tg w lab cap TB A n C us bs x) {A' : Option Addr} {n' C' : Nat} {us' : List Value} {bs' : List Tx} {G : Nat → Prop} (hg : x.grownBy y (Value.slice A n C).ownBlock) (ht : TopB y (TB + 1) G (.slice A' n' C') us' bs') (hG : ∀ k, G k → TB < k) : Tg w lab cap TB A' n' C' us' bs' (y.setCell ⟨TB, 2, none⟩ (.slice A' n' C')) := by
  have hne : some TB ≠ (Value.slice A n C).ownBlock := fun e => by have := (World.ownsRow.lt h.top.top TB e.symm).1; omega
  have hTB : y.heap[TB]? = some (tapeObj lab cap A n C false) := (hg.block TB (heap_lt h.blk) hne).trans h.blk
  have hk : Kp (· = TB) y (y.setCell ⟨TB, 2, none⟩ (.slice A' n' C')) := Kp.store _ _ _ _
  have hno : ∀ {k : Nat} {c : Array Value} {t : TypeId}, t ≠ 27 → k = TB → y.heap[k]? ≠ some (.cells c t (0, 0)) := fun {k c t} hty e hk' => by
    subst e
    rw [hTB] at hk'
    injection hk' with hk'
    injection hk' with _ e2
    exact hty e2.symm
  have hb : Below w.heap.size w y := h.bel.grown hg h.bel.size fun k e => by have := (World.ownsRow.lt h.top.top k e).1; have := h.lo; omega
  refine ⟨?_, ((ht.mono hG).kpT hk (fun k c e => hno (by decide) e) (fun k c e => hno (by decide) e)), hb.trans (hk.below hb.size fun k e => by have := h.lo; omega), h.lo⟩
  exact heap_set hTB _
end Tg
/-- what an append of rows leaves -/
theorem Tg.grow {w x : World} {lab cap : Int} {TB n C B2 : Nat} {A : Option Addr} {us us2 : List Value} {bs bs2 : List Tx} {G2 : Nat → Prop} {v2 : Value} (h : Tg w lab cap TB A n C us bs x) (h2 : TopB x B2 G2 v2 us2 bs2) (hd : ∀ i (hi : i < us.length) k, us[i].ownBlock = some k → ¬ G2 k) (hB2 : TB + 1 ≤ B2) (hG2 : ∀ k, G2 k → TB < k) (m : Nat) (hm : m ≤ us2.length) (h0 : 0 < us2.length) (h1 : us.length ≤ 900000) (h3 : us2.length ≤ 90000) :
    ∃ g2 c2 A' C' y, v2 = .slice (some ⟨g2, 0, none⟩) us2.length c2 ∧ us2.length ≤ c2 ∧ (∀ j u, us2[j]? = some u → x.cell? ⟨g2, j, none⟩ = some u) ∧ (∀ ty, (Builtin.append_ #[25, 25] ty #[.slice A n C, .slice (some ⟨g2, 0, none⟩) m c2]).run Tryd.prog x = .ok (.slice A' (n + m) C') y)
      ∧ y.cell? ⟨TB, 2, none⟩ = some (.slice A n C) ∧ y.frozen? ⟨TB, 2, none⟩ = false ∧ Tg w lab cap TB A' (n + m) C' (us ++ us2.take m) (bs ++ bs2.take m) (y.setCell ⟨TB, 2, none⟩ (.slice A' (n + m) C'))
      ∧ (∀ k o, k ≠ TB → (Value.slice A n C).ownBlock ≠ some k → x.heap[k]? = some o → (y.setCell ⟨TB, 2, none⟩ (.slice A' (n + m) C')).heap[k]? = some o) := by
  obtain ⟨g2, c2, e2, hc2, hg2, hcell⟩ := h2.cells h0
  have hn : n = us.length := by rw [h.len, h.top.len]
  have hsz : TB + 1 ≤ x.heap.size := heap_lt h.blk
  obtain ⟨v', y, hr, ho, hg⟩ := apR_run x (TB + 1) (.slice A n C) us h.top.top (by omega) ⟨g2, 0, none⟩ m c2 (us2.take m) (by rw [List.length_take]; omega) (by omega) (fun j u hu => by
    rw [addr_add, Nat.zero_add]
    rw [List.getElem?_take] at hu
    split at hu
    · exact hcell j u hu
    · cases hu) (fun u hu => by
      obtain ⟨j, hj⟩ := List.getElem?_of_mem hu
      rw [List.getElem?_take] at hj
      split at hj
      · obtain ⟨hlt, rfl⟩ := List.getElem?_eq_some_iff.1 hj
        obtain ⟨A', C', e, -⟩ := (h2.rows j hlt (by rw [← h2.len]; exact hlt)).rd
        rw [e]; rfl
      · cases hj) hsz
  have hT1 : TopB x (TB + 1) (fun k => TB < k ∧ ¬ G2 k) (.slice A n C) us bs := ⟨h.top.top, h.top.len, h.top.rows, fun i hi k e => ⟨h.top.gs i hi k e, hd i hi k e⟩, h.top.inj⟩
  have hT2 := hT1.concat h2 (fun k hk hk' => hk.2 hk') hB2 m hm ho hg
  obtain ⟨A', C', rfl, -, -, -⟩ := hT2.val
  have hlen : (bs ++ bs2.take m).length = n + m := by
    have h4 := h2.len
    rw [List.length_append, List.length_take, h.len]; omega
  rw [hlen] at hT2 hr ho
  have hne : some TB ≠ (Value.slice A n C).ownBlock := fun e => by have := (World.ownsRow.lt h.top.top TB e.symm).1; omega
  have hTB : y.heap[TB]? = some (tapeObj lab cap A n C false) := (hg.block TB (heap_lt h.blk) hne).trans h.blk
  refine ⟨g2, c2, A', C', y, e2, hc2, hcell, hr, heap_cell hTB, heap_frozen hTB, h.stored hg hT2 (fun k hk => hk.elim (fun h => h.1) (hG2 k)), fun k o hk hk' ho => ?_⟩
  have h5 : y.heap[k]? = some o := (hg.block k (heap_lt ho) (fun e => hk' e.symm)).trans ho
  exact ((Kp.store y TB 2 _ : Kp (· = TB) y _).block k (heap_lt h5) hk).trans h5
/-- one row in a block of its own -/
theorem TopB.one11 {x : World} {B g : Nat} {u : Value} {s : Tx} (hk : x.heap[g]? = some (.cells #[u] 28)) (hu : OwnL x B u s) (hg : B ≤ g) : TopB x B (B ≤ ·) (.slice (some ⟨g, 0, none⟩) 1 1) [u] [s] := by
  refine ⟨⟨rfl, .inr ⟨g, 1, _, rfl, hg, hk, Nat.le_refl _, by decide, rfl, rfl⟩⟩, rfl, fun i hi hi' => ?_, fun i hi k e => ?_, fun i j hi hj _ _ _ => ?_⟩
  · have : i = 0 := by simp at hi; omega
    subst this; exact hu
  · have : i = 0 := by simp at hi; omega
    subst this; exact hu.lo k e
  · simp at hi hj; omega
theorem infoByte11 : (Tryd.prog.info? 5).map (fun i => (i.zero, i.size, i.bytes)) = some (some (.int .u8 0), 1, 1) := by kernel_rfl
namespace Pm
theorem le_of_sub {α : Type} [DecidableEq α] : ∀ (l l' : List α), l.Nodup → (∀ a ∈ l, a ∈ l') → l.length ≤ l'.length
  | [], _, _, _ => Nat.zero_le _
  | a :: l, l', hn, h => by
    obtain ⟨h1, h2⟩ := List.nodup_cons.1 hn
    have ha := h a List.mem_cons_self
    have h3 := le_of_sub l (l'.erase a) h2 fun b hb => (List.mem_erase_of_ne (fun (e : b = a) => h1 (by rw [← e]; exact hb))).2 (h b (List.mem_cons_of_mem _ hb))
    have h4 := List.length_erase_of_mem ha
    have h5 := List.length_pos_of_mem ha
    rw [List.length_cons]; omega
theorem perm_of {α : Type} [DecidableEq α] : ∀ (l l' : List α), l.Nodup → l'.Nodup → (∀ a, a ∈ l ↔ a ∈ l') → l.Perm l'
  | [], l', _, _, h => by
    cases l' with
    | nil => exact List.Perm.refl _
    | cons b r => have := (h b).2 List.mem_cons_self; cases this
  | a :: l, l', hn, hn', h => by
    obtain ⟨h1, h2⟩ := List.nodup_cons.1 hn
    have ha := (h a).1 List.mem_cons_self
    refine ((perm_of l (l'.erase a) h2 (hn'.erase a) fun b => ?_).cons a).trans (List.perm_cons_erase ha).symm
    rw [hn'.mem_erase_iff]
    constructor
    · intro hb; exact ⟨fun e => h1 (by rw [← e]; exact hb), (h b).1 (List.mem_cons_of_mem _ hb)⟩
    · rintro ⟨hne, hb⟩
      rcases List.mem_cons.1 ((h b).2 hb) with e | e
      · exact absurd e hne
      · exact e
/-- one is free -/
theorem free {ks : List Nat} {n : Nat} (h : ks.length < n) : ∃ j, j < n ∧ j ∉ ks := by
  by_cases h1 : ∃ j, j < n ∧ j ∉ ks
  · exact h1
  · exfalso
    have h2 := le_of_sub (List.range n) ks List.nodup_range fun a ha => by
      by_cases h3 : a ∈ ks
      · exact h3
      · exact absurd ⟨a, List.mem_range.1 ha, h3⟩ h1
    rw [List.length_range] at h2
    omega
theorem whole {ks : List Nat} {n : Nat} (hn : ks.Nodup) (hl : ∀ k ∈ ks, k < n) (h : ks.length = n) : (List.range n).Perm ks := by
  refine perm_of _ _ List.nodup_range hn fun a => ⟨fun ha => ?_, fun ha => List.mem_range.2 (hl a ha)⟩
  by_cases h3 : a ∈ ks
  · exact h3
  · exfalso
    have h2 := le_of_sub (a :: ks) (List.range n) (List.nodup_cons.2 ⟨h3, hn⟩) fun b hb => by
      rcases List.mem_cons.1 hb with rfl | hb
      · exact ha
      · exact List.mem_range.2 (hl b hb)
    rw [List.length_cons, List.length_range] at h2
    omega
/-- how far it is from k to j round a row of n -/
def far (n k j : Nat) : Nat := (j + n - k) % n
theorem far_next {n k j : Nat} (hk : k < n) (hj : j < n) (hne : k ≠ j) : far n ((k + 1) % n) j < far n k j := by
  unfold far
  by_cases h : k + 1 = n
  · rw [h, Nat.mod_self, Nat.sub_zero]
    have h1 : (j + n) % n = j := by rw [Nat.add_mod_right, Nat.mod_eq_of_lt hj]
    have h2 : (j + n - k) % n = j + 1 := by
      rw [show j + n - k = j + 1 by omega, Nat.mod_eq_of_lt (by omega)]
    omega
  · rw [Nat.mod_eq_of_lt (show k + 1 < n by omega)]
    rcases Nat.lt_or_ge k j with h3 | h3
    · have h1 : (j + n - (k + 1)) % n = j - (k + 1) := by
        rw [show j + n - (k + 1) = (j - (k + 1)) + n by omega, Nat.add_mod_right, Nat.mod_eq_of_lt (by omega)]
      have h2 : (j + n - k) % n = j - k := by
        rw [show j + n - k = (j - k) + n by omega, Nat.add_mod_right, Nat.mod_eq_of_lt (by omega)]
      omega
    · have h1 : (j + n - (k + 1)) % n = j + n - (k + 1) := Nat.mod_eq_of_lt (by omega)
      have h2 : (j + n - k) % n = j + n - k := Nat.mod_eq_of_lt (by omega)
      omega
end Pm
end Go.Proofs.YtbijjgicjkmopaaDoor
namespace Go.Proofs.YtbijjgicjkmopaaDoor
open Go.RowKit
open Pt (Tx)

theorem head_fields' : Tryd.prog.underlying 36 = some (.struct (Tryd.prog.fieldsOf 36)) := by kernel_rfl
theorem head_plain' : Tryd.prog.stoodInHeld 36 = false := by kernel_rfl
theorem part_fields : Tryd.prog.underlying 44 = some (.struct (Tryd.prog.fieldsOf 44)) := by kernel_rfl
theorem part_plain : Tryd.prog.stoodInHeld 44 = false := by kernel_rfl
theorem heads_same' (p : Tx) (v z f l s m : Int) (g : Bool) (w : World) (n : Nat) (hn : 100 ≤ n) : (Op.equalIn n 36 (.agg #[.string (tx p), .int .i64 v, .int .i64 z, .int .i64 f, .int .i64 l, .int .i64 s, .int .i64 m, .bool g]) (.agg #[.string (tx p), .int .i64 v, .int .i64 z, .int .i64 f, .int .i64 l, .int .i64 s, .int .i64 m, .bool g])).run Tryd.prog w = .ok true w := by
  obtain ⟨n, rfl⟩ : ∃ k, n = k + 2 := ⟨n - 2, by omega⟩
  rw [run_equalIn_agg w (n + 1) 36 _ _ head_fields' head_plain']
  simp [Program.fieldsOf, Tryd.underlying36, Op.eqFields, part, go_sem]
theorem parts_same (p : Tx) (v z f l s m : Int) (g : Bool) (lab at_ : Int) (w : World) : (Op.equalIn 10000 44 (.agg #[.string (tx p), .int .i64 v, .int .i64 z, .int .i64 f, .int .i64 l, .int .i64 s, .int .i64 m, .bool g, .int .i64 lab, .int .i64 at_]) (.agg #[.string (tx p), .int .i64 v, .int .i64 z, .int .i64 f, .int .i64 l, .int .i64 s, .int .i64 m, .bool g, .int .i64 lab, .int .i64 at_])).run Tryd.prog w = .ok true w := by
  rw [run_equalIn_agg w 9999 44 _ _ part_fields part_plain]
  simp [Program.fieldsOf, Tryd.underlying44, Op.eqFields, part, go_sem, heads_same']
theorem parts_neq (p : Tx) (v z f l s m : Int) (g : Bool) (lab at_ : Int) (w : World) : (binOp .neq 44 (.agg #[.string (tx p), .int .i64 v, .int .i64 z, .int .i64 f, .int .i64 l, .int .i64 s, .int .i64 m, .bool g, .int .i64 lab, .int .i64 at_]) (.agg #[.string (tx p), .int .i64 v, .int .i64 z, .int .i64 f, .int .i64 l, .int .i64 s, .int .i64 m, .bool g, .int .i64 lab, .int .i64 at_])).run Tryd.prog w = .ok (.bool false) w := by
  rw [run_neq_struct, parts_same]; rfl
end Go.Proofs.YtbijjgicjkmopaaDoor
