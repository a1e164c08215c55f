/- Words for Parity: what it answers, the rows that Encode made, and how the tapes of parity grow by one row, one tape behind the other. No function of the program. What a group's parity tapes are, and why none; and what reads as their blocks. No function of the program. Groups of one tape of one block: they are made, and each of their tapes tells of the group. No program. A list sorted by a number, stably; and the first of each number alone: what a stable sort and a compaction make is what is put in one by one. No program. A slice of structs that reads as a list of plain data, and one that a call owns and makes longer by append: each struct is some cells, as many for each. No function of the program. -/
import Derived.Test.YtmfikihcoafekaaMah
import Derived.Test.YtmfikihcoafekaaMae
import Derived.Test.YtmfikihcoafekaaMab
import Derived.Test.YtmfikihcoafekaaRows
import Derived.Laws.AppendOwn
import Derived.OwnWalk
namespace Go.Proofs.Ytmfikihcoafekaa
open Go.RowKit Mx
open Pt (Tx)

/-- the parity of tapes: of each tape of parity each row -/
def St.X (ts : List St.T) (p : Nat) : Nat → Mat := fun j n => par ts.length p (St.mat (St.row ts (n : Int))) j
open Classical in
/-- what Parity answers -/
def ParA (ts : List St.T) (p : Int) (w : World) (e : Ending) (w' : World) : Prop :=
  if St.Ok ts p then ∃ A C, e = .returned (.tuple #[.slice A p.toNat C, .int .i64 0]) ∧ p.toNat ≤ C ∧ (A = none → p.toNat = 0 ∧ C = 0) ∧ RdP w' A p.toNat (St.len ts) 79 (St.X ts p.toNat) (w.heap.size ≤ ·) ∧ Below w.heap.size w w'
  else e = .returned (.tuple #[.slice none 0 0, .int .i64 1]) ∧ Below w.heap.size w w'
theorem ParA.no {ts : List St.T} {p : Int} {w w' : World} (h : ¬ St.Ok ts p) (hb : Below w.heap.size w w') : ParA ts p w (.returned (.tuple #[.slice none 0 0, .int .i64 1])) w' := by
  unfold ParA; rw [if_neg h]; exact ⟨rfl, hb⟩
theorem ParA.yes {ts : List St.T} {p C : Nat} {w w' : World} {A : Option Addr} (h : St.Ok ts (p : Int)) (hC : p ≤ C) (hA : A = none → p = 0 ∧ C = 0) (hr : RdP w' A p (St.len ts) 79 (St.X ts p) (w.heap.size ≤ ·)) (hb : Below w.heap.size w w') :
    ParA ts (p : Int) w (.returned (.tuple #[.slice A p C, .int .i64 0])) w' := by
  unfold ParA; rw [if_pos h]; exact ⟨A, C, rfl, hC, hA, hr, hb⟩
theorem St.enc_arg {ts : List St.T} {p : Int} {L : Nat → Nat} (hl : ∀ i, i < ts.length → L i = L 0) : EncOk ts.length L p ↔ St.Arg ts p :=
  ⟨fun h => ⟨h.1, h.2.2.1, by have := h.2.2.2; omega⟩, fun h => ⟨h.1, hl, h.2.1, by have := h.2.2; omega⟩⟩
/-- rows that were made: new memory -/
def Made (w : World) (A : Option Addr) (p B : Nat) (Y : Mat) : Prop :=
  ∀ j, j < p → ∃ b r c, A = some ⟨b, 0, none⟩ ∧ B ≤ b ∧ w.cell? ⟨b, j, none⟩ = some (.slice (some ⟨r, 0, none⟩) 79 c) ∧ 79 ≤ c ∧ B ≤ r ∧ RowAt w r 79 (Y j)
theorem Made.kp {w w' : World} {A : Option Addr} {p B : Nat} {Y : Mat} {S : Nat → Prop} (h : Made w A p B Y) (hk : Kp S w w') (hs : ∀ x, S x → x < B) : Made w' A p B Y := fun j hj => by
  obtain ⟨b, r, c, e, hb, hc, hC, hr, hR⟩ := h j hj
  exact ⟨b, r, c, e, hb, hk.cell hc (fun h => by have : b < B := hs _ h; omega), hC, hr, hR.kp hk (fun h => by have : r < B := hs _ h; omega)⟩
theorem EncNew.made {n p : Nat} {L : Nat → Nat} {D : Mat} {w w' : World} {e : Ending} (h : EncNew n L D (p : Int) w e w') (hok : EncOk n L (p : Int)) (hL : L 0 = 79) :
    ∃ A C, e = .returned (.tuple #[.slice A p C, .int .i64 0]) ∧ Made w' A p w.heap.size (par n p D) ∧ Below w.heap.size w w' := by
  unfold EncNew at h
  rw [if_pos hok] at h
  rcases h with ⟨h0, rfl, hb⟩ | ⟨h0, b, q, G, C, rfl, _, hb, hO, hB⟩
  · obtain rfl : p = 0 := by omega
    exact ⟨Option.none, 0, rfl, fun j hj => absurd hj (by omega), hb⟩
  · simp only [Int.toNat_natCast, hL] at hO ⊢
    refine ⟨_, q, rfl, fun j hj => ⟨b, G j, C j, rfl, hb, ?_, hO.cap j hj, hO.lo j hj, hO.rows j hj⟩, hB⟩
    rw [hO.top.cell hj, if_pos hj]
/-- the first j tapes of parity have row n already -/
structure Inn (w w2 wq : World) (b p n j : Nat) (V0 : Nat → Value) (X : Nat → Mat) : Prop where
  out : ∃ V, OutP wq w.heap.size b p 79 V (fun i => if i < j then n + 1 else n) X ∧ ∀ i, j ≤ i → i < p → V i = V0 i
  kp : Kp (fun x => x = b ∨ ∃ i, i < p ∧ (V0 i).ownBlock = some x) w2 wq
namespace Inn
variable {w w2 wq : World} {b p n j : Nat} {V0 : Nat → Value} {X : Nat → Mat}
theorem start (h : OutP w2 w.heap.size b p 79 V0 (fun _ => n) X) : Inn w w2 w2 b p n 0 V0 X :=
  ⟨⟨V0, h.counts fun i _ => by rw [if_neg (by omega)], fun _ _ _ => rfl⟩, Kp.refl _ _⟩
theorem done (h : Inn w w2 wq b p n p V0 X) : ∃ V, OutP wq w.heap.size b p 79 V (fun _ => n + 1) X := by
  obtain ⟨V, h1, _⟩ := h.out
  exact ⟨V, h1.counts fun i hi => by rw [if_pos hi]⟩
/-- the next tape's row -/
theorem next (h : Inn w w2 wq b p n j V0 X) (hj : j < p) : ∃ A C us, wq.cell? ⟨b, j, none⟩ = some (.slice A n C) ∧ wq.frozen? ⟨b, j, none⟩ = false ∧ b < wq.heap.size ∧ wq.ownsRow w.heap.size 24 1 (.slice A n C) n us
    ∧ ∀ (w1 w3 : World) (g cap r c : Nat) (f : Nat → Fe), Below wq.heap.size wq w1 → w1.grownBy w3 (Value.slice A n C).ownBlock → w3.ownsRow w.heap.size 24 1 (.slice (some ⟨g, 0, none⟩) (n + 1) cap) (n + 1) (us ++ [.slice (some ⟨r, 0, none⟩) 79 c])
      → ((Value.slice A n C).ownBlock = some g ∨ wq.heap.size ≤ g) → 79 ≤ c → w.heap.size ≤ r → RowAt wq r 79 f → (∀ x, x < 79 → f x = X j n x)
      → w3.cell? ⟨b, j, none⟩ = some (.slice A n C) ∧ w3.frozen? ⟨b, j, none⟩ = false ∧ Inn w w2 (w3.setCell ⟨b, j, none⟩ (.slice (some ⟨g, 0, none⟩) (n + 1) cap)) b p n (j + 1) V0 X := by
  obtain ⟨V, hO, hV⟩ := h.out
  have hjo := hO.rows j hj
  rw [if_neg (by omega)] at hjo
  have htop := hO.top (by omega)
  obtain ⟨A, C, hv, -, -, -⟩ := hjo.val
  obtain ⟨us, hown, hrows⟩ := hjo
  have hc := htop.cell hj
  have hf := htop.frozen j
  rw [hv] at hc
  refine ⟨A, C, us, hc, hf, htop.lt, by rw [← hv]; exact hown, fun w1 w3 g cap r c f hb hg ho hat hC hr hR hX => ?_⟩
  rw [← hv] at hg hat
  have hne : some b ≠ (V j).ownBlock := fun e => by
    obtain ⟨x, hx⟩ := own_blk hown b e.symm
    obtain ⟨y, hy⟩ := htop.typed
    rw [hx] at hy
    injection hy with hy
    injection hy with _ e2
    exact absurd e2 (by decide)
  have hblk : w3.heap[b]? = wq.heap[b]? := (hg.block b (Nat.lt_of_lt_of_le htop.lt hb.size) hne).trans (hb.block b htop.lt)
  refine ⟨(World.cell?_of_block hblk).trans hc, (htop.of_block hblk).frozen j, ⟨?_, ?_⟩⟩
  · have hcnt : (if j < j then n + 1 else n) = n := if_neg (by omega)
    have := hO.push hj (us := us) (by simp only [hcnt]; exact hown) (by simp only [hcnt]; exact hrows) hb hg (g := g) (cap := cap) (r := r) (c := c) (f := f) (by simp only [hcnt]; exact ho) hat hC hr hR
    rw [hcnt] at this
    refine ⟨_, (this.counts (N' := fun i => if i < j + 1 then n + 1 else n) fun i hi => ?_).congr (Y := X) fun i hi t ht x hx => ?_, fun i hi hip => ?_⟩
    · by_cases e : i = j
      · simp [e]
      · by_cases e' : i < j
        · simp [e, e', show i < j + 1 by omega]
        · simp [e, e', show ¬ i < j + 1 by omega]
    · by_cases e : i = j
      · subst e
        simp only [if_true]
        by_cases e' : t = n
        · simp only [e', if_true]; exact hX x hx
        · simp only [e', if_false]
      · simp only [e, if_false]
    · simp only [show ¬ i = j by omega, if_false]
      exact hV i (by omega) hip
  · refine (((h.kp.trans (Kp.of_below hb)).grown hg fun k e => ?_)).setCell (p := ⟨b, j, none⟩) (.inl rfl) _
    exact .inr ⟨j, hj, by rw [← hV j (Nat.le_refl _) hj]; exact e⟩
end Inn
end Go.Proofs.Ytmfikihcoafekaa
namespace Go.Proofs.Ytmfikihcoafekaa
open Go.RowKit
open Pt (Tx)

theorem any_take {p : St.T → Bool} {ts : List St.T} {k : Nat} (h : k < ts.length) : (ts.take (k + 1)).any p = ((ts.take k).any p || p ts[k]) := by
  rw [List.take_succ_eq_append_getElem h, List.any_append]; simp
theorem any_at {p : St.T → Bool} {ts : List St.T} {k : Nat} (h : k < ts.length) : p ts[k] = true → ts.any p = true := fun hp => List.any_eq_true.2 ⟨_, List.getElem_mem h, hp⟩
def lostB (t : St.T) : Bool := t.lost
def hasB (t : St.T) : Bool := decide ((t.blocks.length : Int) > 0)
def smallB (N : Nat) (t : St.T) : Bool := decide (t.cap < (N : Int) + 2)
def goodB (t : St.T) : Bool := decide (∀ n, n < t.blocks.length → (Vo.good (Gr.vo t) n).isSome = true)
theorem all_take {p : St.T → Bool} {ts : List St.T} {k : Nat} (h : k < ts.length) : (ts.take (k + 1)).all p = ((ts.take k).all p && p ts[k]) := by
  rw [List.take_succ_eq_append_getElem h, List.all_append]; simp
theorem all_at {p : St.T → Bool} {ts : List St.T} {k : Nat} (h : k < ts.length) : p ts[k] = false → ts.all p = false := fun hp => by
  rw [Bool.eq_false_iff]
  intro h'
  have := List.all_eq_true.1 h' _ (List.getElem_mem h)
  rw [hp] at this; cases this
/-- the blocks of what is said, from block 0 on -/
def framedL (label : Int) (l : List (Int × Tx)) : List Tx := l.mapIdx fun n u => Fm.blk ⟨u.1, label, (n : Int), u.2⟩
theorem framedL_len (label : Int) (l : List (Int × Tx)) : (framedL label l).length = l.length := List.length_mapIdx
theorem framedL_at {label : Int} {l : List (Int × Tx)} {n : Nat} (h : n < l.length) (h' : n < (framedL label l).length) : (framedL label l)[n] = Fm.blk ⟨l[n].1, label, (n : Int), l[n].2⟩ := by simp [framedL]
def checkE (b1 b2 b3 b4 b5 b6 b7 : Bool) : Int := if (!b1 || b2 || b3) = true then 1 else if (b4 || !b5) = true then 1 else if b6 = true then 11 else if b7 = true then 6 else 0
/-- rows that read, without how much room they have -/
def RdW (w : World) (A : Option Addr) (bs : List Tx) (G : Nat → Prop) : Prop :=
  0 < bs.length → ∃ b off, A = some ⟨b, off, none⟩ ∧ G b ∧ ∀ i (hi : i < bs.length), ∃ A' C', w.cell? ⟨b, off + i, none⟩ = some (.slice A' bs[i].length C') ∧ (A' = none → bs[i].length = 0 ∧ C' = 0) ∧ RdL w A' bs[i] G
theorem RdW.at_ {w : World} {A : Option Addr} {bs : List Tx} {G : Nat → Prop} (h : RdW w A bs G) {i : Nat} (hi : i < bs.length) : ∃ b off A' C', A = some ⟨b, off, none⟩ ∧ G b ∧ w.cell? ⟨b, off + i, none⟩ = some (.slice A' bs[i].length C') ∧ (A' = none → bs[i].length = 0 ∧ C' = 0) ∧ RdL w A' bs[i] G := by
  obtain ⟨b, off, e, hg, hc⟩ := h (by omega)
  obtain ⟨A', C', h1, h2, h3⟩ := hc i hi
  exact ⟨b, off, A', C', e, hg, h1, h2, h3⟩
theorem RdW.old {w w' : World} {A : Option Addr} {bs : List Tx} {G : Nat → Prop} (h : RdW w A bs G) (hb : Below w.heap.size w w') : RdW w' A bs G := fun hn => by
  obtain ⟨b, off, e, hg, hc⟩ := h hn
  refine ⟨b, off, e, hg, fun i hi => ?_⟩
  obtain ⟨A', C', h1, h2, h3⟩ := hc i hi
  exact ⟨A', C', (hb.cell (World.block_lt_of_cell? _ _ h1)).trans h1, h2, h3.old hb⟩
theorem RdW.in_ {w : World} {A : Option Addr} {bs : List Tx} {G : Nat → Prop} (h : RdW w A bs G) : RdW w A bs (fun b => G b ∧ b < w.heap.size) := fun hn => by
  obtain ⟨b, off, e, hg, hc⟩ := h hn
  refine ⟨b, off, e, ⟨hg, ?_⟩, fun i hi => ?_⟩
  · obtain ⟨_, _, h1, _⟩ := hc 0 hn
    exact World.block_lt_of_cell? _ _ h1
  · obtain ⟨A', C', h1, h2, h3⟩ := hc i hi
    exact ⟨A', C', h1, h2, h3.in_⟩
theorem RdM.rdW {w : World} {A : Option Addr} {n : Nat} {M : Mx.Mat} {G : Nat → Prop} (h : RdM w A n (fun _ => 79) M G) : RdW w A ((List.range n).map fun i => lst (M i) 79) G := fun hn => by
  obtain ⟨b, off, e, hg, hc⟩ := h (by simpa using hn)
  refine ⟨b, off, e, hg, fun i hi => ?_⟩
  obtain ⟨A', C', h1, h2⟩ := hc i (by simpa using hi)
  simp only [List.getElem_map, List.getElem_range, lst_len]
  refine ⟨A', C', h1, fun e => ?_, h2.rdL⟩
  obtain ⟨b', off', e', _⟩ := h2 (by show 0 < 79; omega)
  rw [e] at e'; cases e'
/-- what the blocks of a parity tape say -/
def says (rows : List Tx) (s : Rc.S) : List (Int × Tx) := (1, [80]) :: rows.map (fun b => ((6 : Int), b)) ++ [(5, Rc.sput s)]
/-- the parity's blocks of tape i -/
def Gr.rowsOf (data : List St.T) (p i : Nat) : List Tx := (List.range (St.len data)).map fun n => lst (St.X data p i n) 79
theorem Gr.rowsOf_len (data : List St.T) (p i : Nat) : (Gr.rowsOf data p i).length = St.len data := by simp [Gr.rowsOf]
theorem Gr.rowsOf_79 {data : List St.T} {p i : Nat} {b : Tx} (h : b ∈ Gr.rowsOf data p i) : b.length = 79 := by
  obtain ⟨n, _, rfl⟩ := List.mem_map.1 h
  exact lst_len _ _
def Gr.madeT (data blank : List St.T) (number : Int) (i : Nat) (t : St.T) : St.T := ⟨t.label, t.cap, framedL t.label (says (Gr.rowsOf data blank.length i) (Gr.sealOf data blank number (data.length + i))), false⟩
def Gr.made (data blank : List St.T) (number : Int) : List St.T := blank.mapIdx (Gr.madeT data blank number)
theorem Gr.made_len (data blank : List St.T) (number : Int) : (Gr.made data blank number).length = blank.length := List.length_mapIdx
theorem Gr.made_at {data blank : List St.T} {number : Int} {i : Nat} (h : i < blank.length) (h' : i < (Gr.made data blank number).length) : (Gr.made data blank number)[i] = Gr.madeT data blank number i blank[i] := by simp [Gr.made]
/-- why none, but for what Parity refuses -/
def Gr.chk (data blank : List St.T) (number : Int) : Int :=
  checkE (decide (Rc.SOk (Gr.sealOf data blank number 0))) (data.any lostB) (blank.any lostB) (decide (St.len data = 0)) (data.all goodB) (blank.any hasB) (blank.any (smallB (St.len data)))
noncomputable def Gr.mkE (data blank : List St.T) (number : Int) : Int := if Gr.chk data blank number ≠ 0 then Gr.chk data blank number else St.err data (blank.length : Int)
theorem checkE_zero {b1 b2 b3 b4 b5 b6 b7 : Bool} : checkE b1 b2 b3 b4 b5 b6 b7 = 0 ↔ b1 = true ∧ b2 = false ∧ b3 = false ∧ b4 = false ∧ b5 = true ∧ b6 = false ∧ b7 = false := by
  cases b1 <;> cases b2 <;> cases b3 <;> cases b4 <;> cases b5 <;> cases b6 <;> cases b7 <;> simp [checkE]
theorem Gr.chk_seal {data blank : List St.T} {number : Int} (h : Gr.chk data blank number = 0) : Rc.SOk (Gr.sealOf data blank number 0) := of_decide_eq_true (checkE_zero.1 h).1
theorem Gr.seal_labels {data blank : List St.T} {number : Int} (h : Rc.SOk (Gr.sealOf data blank number 0)) {t : St.T} (ht : t ∈ data ++ blank) : 1 ≤ t.label ∧ t.label ≤ 2147483647 := by
  have h2 := h.2
  exact h2.1 t.label (List.mem_map.2 ⟨t, ht, rfl⟩)
theorem Gr.seal_few {data blank : List St.T} {number : Int} (h : Rc.SOk (Gr.sealOf data blank number 0)) : 1 ≤ data.length ∧ 1 ≤ blank.length ∧ data.length + blank.length ≤ 14 := by
  obtain ⟨⟨_, h2, h3, h4, _⟩, _⟩ := h
  have h2' : (1 : Int) ≤ (data.length : Int) := h2
  have h3' : (1 : Int) ≤ (blank.length : Int) := h3
  have h4' : (data.length : Int) + (blank.length : Int) ≤ 14 := h4
  omega
/-- all that is said has a block -/
theorem says_ok {label : Int} {rows : List Tx} {s : Rc.S} (hlab : 1 ≤ label ∧ label ≤ 2147483647) (hr : ∀ b ∈ rows, b.length ≤ 79) (hl : rows.length ≤ 1000000) : ∀ (i : Nat) (u : Int × Tx), (says rows s)[i]? = some u → Fm.Ok ⟨u.1, label, (i : Int), u.2⟩ := by
  intro i u hu
  have hi : i < rows.length + 2 := by
    have := (List.getElem?_eq_some_iff.1 hu).1
    simpa [says] using this
  have hu' : u ∈ says rows s := List.mem_of_getElem? hu
  have key : (1 ≤ u.1 ∧ u.1 ≤ 6) ∧ u.2.length ≤ Fm.room u.1 := by
    unfold says at hu'
    rcases List.mem_append.1 hu' with h | h
    · rcases List.mem_cons.1 h with rfl | h
      · exact ⟨⟨by decide, by decide⟩, by decide⟩
      · obtain ⟨b, hb, rfl⟩ := List.mem_map.1 h
        exact ⟨⟨(by decide : (1 : Int) ≤ 6), (by decide : (6 : Int) ≤ 6)⟩, hr b hb⟩
    · rw [List.mem_singleton.1 h]
      refine ⟨⟨(by decide : (1 : Int) ≤ 5), (by decide : (5 : Int) ≤ 6)⟩, ?_⟩
      have h1 := Rc.sput_le s
      show (Rc.sput s).length ≤ 64
      omega
  exact ⟨⟨key.1.1, key.1.2, hlab.1, hlab.2, Int.natCast_nonneg _, by show (i : Int) ≤ _; omega⟩, key.2⟩
theorem made_take {data blank : List St.T} {number : Int} {i : Nat} (h : i < blank.length) : (Gr.made data blank number).take (i + 1) = (Gr.made data blank number).take i ++ [Gr.madeT data blank number i blank[i]] := by
  rw [List.take_succ_eq_append_getElem (by rw [Gr.made_len]; exact h), Gr.made_at h]
/-- a row of parity, as texts -/
theorem rdP_row {w : World} {A : Option Addr} {data : List St.T} {p : Nat} {G : Nat → Prop} (h : RdP w A p (St.len data) 79 (St.X data p) G) {i : Nat} (hi : i < p) : ∃ b off A' C', A = some ⟨b, off, none⟩ ∧ w.cell? ⟨b, off + i, none⟩ = some (.slice A' (St.len data) C') ∧ RdW w A' (Gr.rowsOf data p i) G := by
  obtain ⟨b, off, A', C', e, -, h1, -, -, h4⟩ := h.at_ hi
  exact ⟨b, off, A', C', e, h1, h4.rdW⟩
theorem Rd.in2 {w : World} {A : Option Addr} {n : Nat} {r : Nat → Mx.Fe} {G : Nat → Prop} (h : Rd w A n r G) : Rd w A n r (fun b => G b ∧ b < w.heap.size) := fun hn => by
  obtain ⟨b, off, e, hg, hc⟩ := h hn
  exact ⟨b, off, e, ⟨hg, World.block_lt_of_cell? _ _ (hc 0 hn)⟩, hc⟩
theorem RdM.in2 {w : World} {A : Option Addr} {n : Nat} {L : Nat → Nat} {M : Mx.Mat} {G : Nat → Prop} (h : RdM w A n L M G) : RdM w A n L M (fun b => G b ∧ b < w.heap.size) := fun hn => by
  obtain ⟨b, off, e, hg, hc⟩ := h hn
  refine ⟨b, off, e, ⟨hg, ?_⟩, fun i hi => ?_⟩
  · obtain ⟨_, _, h1, _⟩ := hc 0 hn
    exact World.block_lt_of_cell? _ _ h1
  · obtain ⟨A', C', h1, h2⟩ := hc i hi
    exact ⟨A', C', h1, h2.in2⟩
theorem RdP.in_' {w : World} {A : Option Addr} {p n m : Nat} {X : Nat → Mx.Mat} {G : Nat → Prop} (h : RdP w A p n m X G) : RdP w A p n m X (fun b => G b ∧ b < w.heap.size) := by
  intro hn
  obtain ⟨b, off, e, hg, hc⟩ := h hn
  refine ⟨b, off, e, ⟨hg, ?_⟩, fun j hj => ?_⟩
  · obtain ⟨_, _, h1, _⟩ := hc 0 hn
    exact World.block_lt_of_cell? _ _ h1
  · obtain ⟨A', C', h1, h2, h3, h4⟩ := hc j hj
    exact ⟨A', C', h1, h2, h3, h4.in2⟩
end Go.Proofs.Ytmfikihcoafekaa
namespace Go.Proofs.Ytmfikihcoafekaa.Ex
open Pt (Tx)

/-- the block that such a tape has -/
def b (a : Int) : Tx := Fm.blk ⟨1, a, 0, [68]⟩
def d (a cap : Int) : St.T := ⟨a, cap, [b a], false⟩
theorem ok {a : Int} (h : 1 ≤ a ∧ a ≤ 2147483647) : Fm.Ok ⟨1, a, 0, [68]⟩ :=
  ⟨⟨(by decide : (1 : Int) ≤ 1), (by decide : (1 : Int) ≤ 6), h.1, h.2, (by decide : (0 : Int) ≤ 0), (by decide : (0 : Int) ≤ 2147483647)⟩, (by decide : ([68] : Tx).length ≤ Fm.room 1)⟩
theorem b_len {a : Int} (h : 1 ≤ a ∧ a ≤ 2147483647) : (b a).length = 79 := Fm.blk_len (ok h)
theorem good_d {a cap : Int} (h : 1 ≤ a ∧ a ≤ 2147483647) : goodB (d a cap) = true := by
  refine decide_eq_true fun n hn => ?_
  have h0 : n = 0 := by have : n < 1 := hn; omega
  subst h0
  rw [Vo.good_at (t := Gr.vo (d a cap)) (n := 0) (u := ⟨1, a, 0, [68]⟩) rfl rfl (ok h) rfl rfl]; rfl
theorem whole_d {a cap : Int} (h : 1 ≤ a ∧ a ≤ 2147483647) : St.Whole [d a cap] := by
  intro n hn t ht
  have h0 : n = 0 := by
    have : n < max 1 0 := hn
    omega
  subst h0
  rw [List.mem_singleton.1 ht]
  have e : St.blk ((0 : Nat) : Int) (d a cap) = b a := St.blk_some (t := d a cap) rfl (by show 0 < 1; omega) (b_len h)
  rw [e]
  intro e'
  have := b_len h
  rw [e'] at this; cases this
/-- blank tapes with room -/
def Blank (bl : List St.T) : Prop := ∀ t ∈ bl, t.blocks = [] ∧ t.lost = false ∧ 3 ≤ t.cap
theorem chk_zero {a cap : Int} {bl : List St.T} {n : Int} (hn : 1 ≤ n ∧ n ≤ 1073741824) (h0 : 1 ≤ bl.length) (hm : bl.length ≤ 13) (hb : Blank bl) (hl : Rc.Labs (a :: bl.map St.T.label)) : Gr.chk [d a cap] bl n = 0 := by
  have ha := hl.1 a List.mem_cons_self
  unfold Gr.chk
  rw [checkE_zero]
  refine ⟨decide_eq_true ⟨⟨hn, ?_, ?_, ?_, ?_, ?_, ?_⟩, hl⟩, rfl, ?_, rfl, ?_, ?_, ?_⟩
  · show (1 : Int) ≤ ((1 : Nat) : Int); omega
  · show (1 : Int) ≤ (bl.length : Int); omega
  · show ((1 : Nat) : Int) + (bl.length : Int) ≤ 14; omega
  · show (((a :: bl.map St.T.label).length : Nat) : Int) = ((1 : Nat) : Int) + (bl.length : Int)
    rw [List.length_cons, List.length_map]; omega
  · exact Int.natCast_nonneg _
  · show ((0 : Nat) : Int) < (((a :: bl.map St.T.label).length : Nat) : Int)
    rw [List.length_cons]; omega
  · rw [List.any_eq_false]
    intro t ht
    have := (hb t ht).2.1
    simp [lostB, this]
  · rw [List.all_eq_true]
    intro t ht
    rw [List.mem_singleton.1 ht]; exact good_d ha
  · rw [List.any_eq_false]
    intro t ht
    have := (hb t ht).1
    simp [hasB, this]
  · rw [List.any_eq_false]
    intro t ht
    have h3 := (hb t ht).2.2
    have e : St.len [d a cap] = 1 := rfl
    rw [e]
    simp [smallB]
    exact h3
theorem mk_zero {a cap : Int} {bl : List St.T} {n : Int} (hn : 1 ≤ n ∧ n ≤ 1073741824) (h0 : 1 ≤ bl.length) (hm : bl.length ≤ 13) (hb : Blank bl) (hl : Rc.Labs (a :: bl.map St.T.label)) : Gr.mkE [d a cap] bl n = 0 := by
  unfold Gr.mkE
  rw [if_neg (by rw [chk_zero hn h0 hm hb hl]; simp)]
  unfold St.err
  have ha := hl.1 a List.mem_cons_self
  exact if_pos ⟨⟨by show 1 ≤ 1; omega, Int.natCast_nonneg _, by show ((1 : Nat) : Int) + _ ≤ 255; omega⟩, whole_d ha⟩
end Go.Proofs.Ytmfikihcoafekaa.Ex
namespace Go.Proofs.Ytmfikihcoafekaa.Gr
open Pt (Tx)
/-- what is said, with its seal at the end -/
theorem framed_end (label : Int) (rows : List Tx) (s : Rc.S) : framedL label (says rows s) = framedL label ((1, [80]) :: rows.map (fun b => ((6 : Int), b))) ++ [Fm.blk ⟨5, label, ((rows.length + 1 : Nat) : Int), Rc.sput s⟩] := by
  unfold framedL says
  rw [List.mapIdx_append]
  simp
theorem madeT_len (data blank : List St.T) (number : Int) (i : Nat) (t : St.T) : (madeT data blank number i t).blocks.length = St.len data + 2 := by
  show (framedL _ _).length = _
  rw [framedL_len]; simp [says, rowsOf_len]
/-- each made tape ends with its seal -/
theorem made_sealed {data blank : List St.T} {number : Int} (h : Rc.SOk (sealOf data blank number 0)) (hlen : St.len data ≤ 1000000) {i : Nat} (hi : i < blank.length) : sealed (madeT data blank number i blank[i]) = some (sealOf data blank number (data.length + i)) := by
  have hs : Rc.SOk (sealOf data blank number (data.length + i)) := sealOk_index h (by omega)
  have hlab := seal_labels h (List.mem_append_right data (List.getElem_mem hi))
  refine sealed_some rfl hs (pre := framedL blank[i].label ((1, [80]) :: (rowsOf data blank.length i).map (fun b => ((6 : Int), b)))) ?_ hlab ?_
  · show framedL _ _ = _
    rw [framed_end, framedL_len, Rc.sput_ok hs]
    simp [madeT]
  · rw [framedL_len, List.length_cons, List.length_map, rowsOf_len]; omega
theorem seal_label {data blank : List St.T} {number : Int} {i : Nat} (hi : i < blank.length) : (sealOf data blank number (data.length + i)).labels.getD (sealOf data blank number (data.length + i)).index.toNat 0 = blank[i].label := by
  show ((data ++ blank).map St.T.label).getD (((data.length + i : Nat) : Int)).toNat 0 = _
  rw [Int.toNat_natCast, List.getD_eq_getElem?_getD, List.getElem?_map, List.getElem?_append_right (by omega), show data.length + i - data.length = i by omega, List.getElem?_eq_getElem hi]
  rfl
theorem made_cand {data blank : List St.T} {number : Int} (h : Rc.SOk (sealOf data blank number 0)) (hlen : St.len data ≤ 1000000) {i : Nat} (hi : i < blank.length) : cand (madeT data blank number i blank[i]) = some (sealOf data blank number (data.length + i)) :=
  cand_some (made_sealed h hlen hi) (seal_label hi)
end Go.Proofs.Ytmfikihcoafekaa.Gr
namespace Go.Proofs.Ytmfikihcoafekaa.Ex
open Pt (Tx)
/-- the data tape tells of none -/
theorem cand_d {a cap : Int} (h : 1 ≤ a ∧ a ≤ 2147483647) : Gr.cand (d a cap) = none :=
  Gr.cand_none (Gr.sealed_kind (t := d a cap) (Vo.good_at (t := Gr.vo (d a cap)) (n := 0) (u := ⟨1, a, 0, [68]⟩) rfl rfl (ok h) rfl rfl) (by show ¬ ((1 : Int) = 5); decide))
end Go.Proofs.Ytmfikihcoafekaa.Ex
namespace Go.Proofs.Ytmfikihcoafekaa.So
variable {α β : Type}
/-- behind all that are not greater -/
def insR (f : α → Int) (x : α) : List α → List α
  | [] => [x]
  | a :: l => if f a ≤ f x then a :: insR f x l else x :: a :: l
def isort (f : α → Int) (l : List α) : List α := l.foldl (fun acc x => insR f x acc) []
def Asc (f : α → Int) (l : List α) : Prop := l.Pairwise fun a b => f a ≤ f b
theorem isort_snoc (f : α → Int) (l : List α) (x : α) : isort f (l ++ [x]) = insR f x (isort f l) := by unfold isort; rw [List.foldl_append]; rfl
theorem mem_insR {f : α → Int} {x y : α} : ∀ {l : List α}, y ∈ insR f x l ↔ y = x ∨ y ∈ l
  | [] => by simp [insR]
  | a :: l => by
    rw [insR]
    split
    · rw [List.mem_cons, mem_insR, List.mem_cons]
      constructor
      · rintro (h | h | h)
        · exact .inr (.inl h)
        · exact .inl h
        · exact .inr (.inr h)
      · rintro (h | h | h)
        · exact .inr (.inl h)
        · exact .inl h
        · exact .inr (.inr h)
    · rw [List.mem_cons]
theorem insR_len {f : α → Int} {x : α} : ∀ {l : List α}, (insR f x l).length = l.length + 1
  | [] => rfl
  | a :: l => by
    rw [insR]
    split
    · rw [List.length_cons, insR_len, List.length_cons]
    · rfl
theorem isort_len (f : α → Int) (l : List α) : (isort f l).length = l.length := by
  have key : ∀ (l acc : List α), (l.foldl (fun acc x => insR f x acc) acc).length = acc.length + l.length := by
    intro l
    induction l with
    | nil => intro acc; rfl
    | cons x l ih => intro acc; rw [List.foldl_cons, ih, insR_len, List.length_cons]; omega
  rw [isort, key]; simp
theorem mem_isort {f : α → Int} {l : List α} {y : α} : y ∈ isort f l ↔ y ∈ l := by
  have key : ∀ (l acc : List α), y ∈ l.foldl (fun acc x => insR f x acc) acc ↔ y ∈ acc ∨ y ∈ l := by
    intro l
    induction l with
    | nil => intro acc; simp
    | cons x l ih =>
      intro acc
      rw [List.foldl_cons, ih, mem_insR, List.mem_cons]
      constructor
      · rintro ((h | h) | h)
        · exact .inr (.inl h)
        · exact .inl h
        · exact .inr (.inr h)
      · rintro (h | h | h)
        · exact .inl (.inr h)
        · exact .inl (.inl h)
        · exact .inr h
  rw [isort, key]; simp
theorem insR_asc {f : α → Int} {x : α} : ∀ {l : List α}, Asc f l → Asc f (insR f x l)
  | [], _ => List.pairwise_singleton _ _
  | a :: l, h => by
    obtain ⟨h1, h2⟩ := List.pairwise_cons.1 h
    rw [insR]
    split
    · refine List.pairwise_cons.2 ⟨fun b hb => ?_, insR_asc h2⟩
      rcases mem_insR.1 hb with rfl | hb
      · assumption
      · exact h1 b hb
    · refine List.pairwise_cons.2 ⟨fun b hb => ?_, h⟩
      rcases List.mem_cons.1 hb with rfl | hb
      · omega
      · have := h1 b hb; omega
theorem isort_asc (f : α → Int) (l : List α) : Asc f (isort f l) := by
  have key : ∀ (l acc : List α), Asc f acc → Asc f (l.foldl (fun acc x => insR f x acc) acc) := by
    intro l
    induction l with
    | nil => intro acc h; exact h
    | cons x l ih => intro acc h; exact ih _ (insR_asc h)
  exact key l [] List.Pairwise.nil
/-- the place is told by what stands ahead of it and behind -/
theorem insR_at {f : α → Int} {x : α} : ∀ {l : List α} {j : Nat}, (∀ a ∈ l.take j, f a ≤ f x) → (∀ a ∈ l.drop j, f x < f a) → insR f x l = l.take j ++ x :: l.drop j
  | [], j, _, _ => by simp [insR]
  | a :: l, 0, _, h2 => by
    have := h2 a (by simp)
    rw [insR, if_neg (by omega)]; rfl
  | a :: l, j + 1, h1, h2 => by
    have := h1 a (by simp)
    rw [insR, if_pos this, insR_at (j := j) (fun b hb => h1 b (by rw [List.take_succ_cons]; exact List.mem_cons_of_mem _ hb)) (fun b hb => h2 b (by simpa using hb))]
    rfl
/-- in what rises all ahead of one that is not greater are not -/
theorem asc_take {f : α → Int} {l : List α} (h : Asc f l) {j : Nat} (hj : j < l.length) {x : α} (hx : f l[j] ≤ f x) : ∀ a ∈ l.take (j + 1), f a ≤ f x := by
  intro a ha
  obtain ⟨i, hi, rfl⟩ := List.mem_iff_getElem.1 ha
  rw [List.length_take] at hi
  rw [List.getElem_take]
  rcases Nat.lt_or_ge i j with h' | h'
  · have := List.pairwise_iff_getElem.1 h i j (by omega) hj h'; omega
  · have e : i = j := by omega
    subst e; exact hx
/-- each whose number is not that of the one ahead of it -/
def comp (f : α → Int) : Int → List α → List α
  | _, [] => []
  | p, a :: l => if f a = p then comp f (f a) l else a :: comp f (f a) l
def compact (f : α → Int) : List α → List α
  | [] => []
  | a :: l => a :: comp f (f a) l
/-- one is put in, if none has its number -/
def insU (f : α → Int) (x : α) : List α → List α
  | [] => [x]
  | a :: l => if f a < f x then a :: insU f x l else if f a = f x then a :: l else x :: a :: l
theorem comp_insR_same {f : α → Int} {x : α} : ∀ {l : List α}, (∀ a ∈ l, f x ≤ f a) → comp f (f x) (insR f x l) = comp f (f x) l
  | [], _ => by simp [insR, comp]
  | a :: l, h => by
    have h1 := h a List.mem_cons_self
    have h2 : ∀ b ∈ l, f x ≤ f b := fun b hb => h b (List.mem_cons_of_mem _ hb)
    rw [insR]
    split
    · have e : f a = f x := by omega
      rw [comp, if_pos e, comp, if_pos e, e, comp_insR_same h2]
    · rw [comp, if_pos rfl]
theorem comp_insR_more {f : α → Int} {x : α} : ∀ {l : List α} {p : Int}, p < f x → Asc f l → (∀ a ∈ l, p ≤ f a) → comp f p (insR f x l) = insU f x (comp f p l)
  | [], p, hp, _, _ => by simp [insR, comp, insU, show ¬ f x = p by omega]
  | a :: l, p, hp, hA, h => by
    obtain ⟨hA1, hA2⟩ := List.pairwise_cons.1 hA
    have h1 := h a List.mem_cons_self
    rw [insR]
    split
    · rename_i hle
      by_cases e : f a = p
      · rw [comp, if_pos e, comp, if_pos e, e]
        exact comp_insR_more hp hA2 fun b hb => h b (List.mem_cons_of_mem _ hb)
      · rw [comp, if_neg e, comp, if_neg e, insU]
        by_cases e2 : f a < f x
        · rw [if_pos e2, comp_insR_more e2 hA2 hA1]
        · have e3 : f a = f x := by omega
          rw [if_neg e2, if_pos e3, e3, comp_insR_same fun b hb => by have := hA1 b hb; omega]
    · have e : ¬ f a = p := by omega
      rw [comp, if_neg (by omega), comp, if_neg (by omega), comp, if_neg e, insU, if_neg (by omega), if_neg (by omega)]
theorem compact_insR {f : α → Int} {x : α} {l : List α} (hA : Asc f l) : compact f (insR f x l) = insU f x (compact f l) := by
  cases l with
  | nil => rfl
  | cons a l =>
    obtain ⟨hA1, hA2⟩ := List.pairwise_cons.1 hA
    rw [insR, compact, insU]
    split
    · rw [compact]
      by_cases e : f a < f x
      · rw [if_pos e, comp_insR_more e hA2 hA1]
      · have e3 : f a = f x := by omega
        rw [if_neg e, if_pos e3, e3, comp_insR_same fun b hb => by have := hA1 b hb; omega]
    · rw [if_neg (by omega), if_neg (by omega), compact, comp, if_neg (by omega)]
theorem insU_map {f : α → Int} {g : α → β} {f' : β → Int} (h : ∀ a, f' (g a) = f a) (x : α) : ∀ l : List α, (insU f x l).map g = insU f' (g x) (l.map g)
  | [] => rfl
  | a :: l => by
    rw [List.map_cons, insU, insU, h, h]
    split
    · rw [List.map_cons, insU_map h]
    · split <;> rfl
theorem insU_is (s : Rc.S) : ∀ l : List Rc.S, insU Rc.S.number s l = Gr.ins s l
  | [] => rfl
  | a :: l => by rw [insU, Gr.ins, insU_is s l]
/-- what a stable sort and a compaction make of the seals of these -/
theorem all_is {f : α → Int} {g : α → Rc.S} (h : ∀ a, (g a).number = f a) (l : List α) : (compact f (isort f l)).map g = Gr.all (l.map g) := by
  have key : ∀ n (l : List α), l.length = n → (compact f (isort f l)).map g = Gr.all (l.map g) := by
    intro n
    induction n with
    | zero => intro l hl; rw [List.length_eq_zero_iff.1 hl]; rfl
    | succ n ih =>
      intro l hl
      obtain ⟨l', x, rfl⟩ : ∃ l' x, l = l' ++ [x] := ⟨l.dropLast, l.getLast (by intro e; rw [e] at hl; cases hl), (List.dropLast_concat_getLast _).symm⟩
      rw [isort_snoc, compact_insR (isort_asc f l'), insU_map h, ih l' (by simpa using hl), insU_is, List.map_append]
      exact (Gr.all_snoc _ _).symm
  exact key l.length l rfl
/-- the last number -/
def lk (f : α → Int) : Int → List α → Int
  | p, [] => p
  | _, a :: l => lk f (f a) l
theorem comp_snoc {f : α → Int} {x : α} : ∀ {l : List α} {p : Int}, comp f p (l ++ [x]) = comp f p l ++ (if f x = lk f p l then [] else [x])
  | [], p => by
    rw [List.nil_append, comp, comp, comp, lk]
    split <;> rfl
  | a :: l, p => by
    rw [List.cons_append, comp, comp, lk]
    split
    · rw [comp_snoc]
    · rw [comp_snoc]; rfl
theorem lk_last {f : α → Int} : ∀ {l : List α} {p : Int} {j : Nat} (_ : j + 1 = l.length) (hj : j < l.length), lk f p l = f l[j]
  | [], _, j, h, _ => by cases h
  | [a], _, j, h, _ => by
    have e : j = 0 := by simpa using h
    subst e; rfl
  | a :: b :: l, _, j, h, hj => by
    obtain ⟨j, rfl⟩ : ∃ i, j = i + 1 := ⟨j - 1, by simp at h; omega⟩
    rw [lk]
    exact lk_last (by simpa using h) (by simpa using hj)
/-- one more is looked at -/
theorem compact_take {f : α → Int} {l : List α} {k : Nat} (hk : k + 1 < l.length) : compact f (l.take (k + 1 + 1)) = compact f (l.take (k + 1)) ++ (if f l[k + 1] = f l[k] then [] else [l[k + 1]]) := by
  rw [List.take_succ_eq_append_getElem hk]
  cases l with
  | nil => simp at hk
  | cons a m =>
    rw [List.take_succ_cons, List.cons_append, compact, compact, comp_snoc, List.cons_append]
    have e : lk f (f a) (m.take k) = f ((a :: m)[k]'(by omega)) := by
      cases k with
      | zero => rfl
      | succ k =>
        have hk' : k < m.length := by simpa using (show k + 1 < (a :: m).length by omega)
        have h1 : k + 1 = (m.take (k + 1)).length := by rw [List.length_take]; omega
        rw [lk_last (p := f a) h1 (by omega), List.getElem_take]; rfl
    rw [e]
theorem compact_one {f : α → Int} {l : List α} (h : 0 < l.length) : compact f (l.take 1) = l.take 1 := by
  cases l with
  | nil => simp at h
  | cons a m => rfl
theorem compact_all {f : α → Int} {l : List α} {k : Nat} (h : l.length ≤ k) : compact f (l.take k) = compact f l := by rw [List.take_of_length_le h]
theorem compact_le (f : α → Int) (l : List α) : (compact f l).length ≤ l.length := by
  have key : ∀ (l : List α) p, (comp f p l).length ≤ l.length := by
    intro l
    induction l with
    | nil => intro p; exact Nat.le_refl _
    | cons a l ih =>
      intro p
      rw [comp]
      have := ih (f a)
      split
      · rw [List.length_cons]; omega
      · rw [List.length_cons, List.length_cons]; omega
  cases l with
  | nil => exact Nat.le_refl _
  | cons a l => rw [compact, List.length_cons, List.length_cons]; have := key l (f a); omega
theorem mem_compact {f : α → Int} {l : List α} {x : α} (h : x ∈ compact f l) : x ∈ l := by
  have key : ∀ (l : List α) p, x ∈ comp f p l → x ∈ l := by
    intro l
    induction l with
    | nil => intro p h; exact h
    | cons a l ih =>
      intro p h
      rw [comp] at h
      split at h
      · exact List.mem_cons_of_mem _ (ih _ h)
      · rcases List.mem_cons.1 h with rfl | h
        · exact List.mem_cons_self
        · exact List.mem_cons_of_mem _ (ih _ h)
  cases l with
  | nil => exact h
  | cons a l =>
    rw [compact] at h
    rcases List.mem_cons.1 h with rfl | h
    · exact List.mem_cons_self
    · exact List.mem_cons_of_mem _ (key _ _ h)
end Go.Proofs.Ytmfikihcoafekaa.So
namespace Go.Proofs.Ytmfikihcoafekaa
open Go.RowKit

/-- each in so many cells -/
structure Enc (α : Type) where
  k : Nat
  pos : 0 < k
  enc : α → List Value
  len : ∀ x, (enc x).length = k
  one : ∀ x, ∀ u ∈ enc x, u.oneCell' = true
namespace Enc
variable {α : Type} (E : Enc α)
def cells (l : List α) : List Value := l.flatMap E.enc
theorem cells_nil : E.cells [] = [] := rfl
theorem cells_cons (x : α) (l : List α) : E.cells (x :: l) = E.enc x ++ E.cells l := rfl
theorem cells_append (l l' : List α) : E.cells (l ++ l') = E.cells l ++ E.cells l' := by unfold cells; exact List.flatMap_append
theorem cells_one (x : α) : E.cells [x] = E.enc x := by rw [cells_cons, cells_nil, List.append_nil]
theorem cells_len : ∀ l : List α, (E.cells l).length = l.length * E.k
  | [] => by rw [cells_nil]; simp
  | x :: l => by rw [cells_cons, List.length_append, E.len, cells_len l, List.length_cons, Nat.succ_mul]; omega
theorem cells_get : ∀ (l : List α) (i j : Nat) (_ : j < E.k) (hi : i < l.length), (E.cells l)[i * E.k + j]? = (E.enc l[i])[j]?
  | [], i, j, _, hi => absurd hi (by simp)
  | x :: l, 0, j, hj, hi => by
    rw [cells_cons, Nat.zero_mul, Nat.zero_add, List.getElem?_append_left (by rw [E.len]; exact hj)]; rfl
  | x :: l, i + 1, j, hj, hi => by
    rw [cells_cons, List.getElem?_append_right (by rw [E.len, Nat.succ_mul]; omega), E.len, show (i + 1) * E.k + j - E.k = i * E.k + j by rw [Nat.succ_mul]; omega]
    exact cells_get l i j hj (by simpa using hi)
theorem cells_all (l : List α) : ∀ u ∈ E.cells l, u.oneCell' = true := by
  intro u hu
  unfold cells at hu
  obtain ⟨x, _, hx⟩ := List.mem_flatMap.1 hu
  exact E.one x u hx
/-- the slice at A of these structs reads as the list l, and lies in a block of G -/
def Rd (w : World) (A : Option Addr) (l : List α) (G : Nat → Prop) : Prop :=
  0 < l.length → ∃ b off, A = some ⟨b, off, none⟩ ∧ G b ∧ ∀ i (hi : i < l.length) j u, (E.enc l[i])[j]? = some u → w.cell? ⟨b, off + i * E.k + j, none⟩ = some u
/-- v is a slice of the call's own that holds the list l -/
def Own (w : World) (base : Nat) (t : TypeId) (v : Value) (l : List α) : Prop := w.ownsRow base t E.k v l.length (E.cells l)
variable {E}
theorem Rd.nil (w : World) (A : Option Addr) (G : Nat → Prop) : E.Rd w A [] G := fun h => absurd h (by simp)
theorem Rd.keep {w w' : World} {A : Option Addr} {l : List α} {G : Nat → Prop} (h : E.Rd w A l G) (hk : ∀ p v, G p.block → w.cell? p = some v → w'.cell? p = some v) : E.Rd w' A l G := fun hn => by
  obtain ⟨b, off, e, hg, hc⟩ := h hn
  exact ⟨b, off, e, hg, fun i hi j u hu => hk _ _ hg (hc i hi j u hu)⟩
theorem Rd.mono {w : World} {A : Option Addr} {l : List α} {G G' : Nat → Prop} (h : E.Rd w A l G) (hg : ∀ b, G b → G' b) : E.Rd w A l G' := fun hn => by
  obtain ⟨b, off, e, hb, hc⟩ := h hn
  exact ⟨b, off, e, hg _ hb, hc⟩
theorem Rd.old {w w' : World} {A : Option Addr} {l : List α} {G : Nat → Prop} (h : E.Rd w A l G) (hb : Below w.heap.size w w') : E.Rd w' A l G := h.keep fun _ _ _ hc => (hb.cell (World.block_lt_of_cell? _ _ hc)).trans hc
theorem Rd.kp {w w' : World} {A : Option Addr} {l : List α} {G S : Nat → Prop} (h : E.Rd w A l G) (hk : Kp S w w') (hs : ∀ b, G b → ¬ S b) : E.Rd w' A l G := h.keep fun _ _ hg hc => hk.cell hc (hs _ hg)
theorem Rd.at_ {w : World} {A : Option Addr} {l : List α} {G : Nat → Prop} (h : E.Rd w A l G) {i : Nat} (hi : i < l.length) : ∃ b off, A = some ⟨b, off, none⟩ ∧ G b ∧ ∀ j u, (E.enc l[i])[j]? = some u → w.cell? ⟨b, off + i * E.k + j, none⟩ = some u := by
  obtain ⟨b, off, e, hg, hc⟩ := h (by omega)
  exact ⟨b, off, e, hg, hc i hi⟩
theorem Own.nil (w : World) (base : Nat) (t : TypeId) : E.Own w base t (.slice none 0 0) [] := World.ownsRow_nil _ _ _ _
theorem Own.of_block {w w' : World} {base : Nat} {t : TypeId} {v : Value} {l : List α} (h : E.Own w base t v l) (hb : ∀ k, v.ownBlock = some k → w'.heap[k]? = w.heap[k]?) : E.Own w' base t v l := by
  refine ⟨h.1, ?_⟩
  rcases h.2 with h0 | ⟨g, cap, cur, rfl, hb', hg, hr⟩
  · exact .inl h0
  · exact .inr ⟨g, cap, cur, rfl, hb', (hb g rfl).trans hg, hr⟩
theorem Own.lt {w : World} {base : Nat} {t : TypeId} {v : Value} {l : List α} (h : E.Own w base t v l) : ∀ k, v.ownBlock = some k → base ≤ k ∧ k < w.heap.size := fun k hk => World.ownsRow.lt h k hk
theorem Own.old {w w' : World} {base : Nat} {t : TypeId} {v : Value} {l : List α} (h : E.Own w base t v l) (hb : Below w.heap.size w w') : E.Own w' base t v l := h.of_block fun k e => hb.block k (h.lt k e).2
/-- its block, if it has one -/
theorem Own.block {w : World} {base : Nat} {t : TypeId} {v : Value} {l : List α} (h : E.Own w base t v l) : ∀ k, v.ownBlock = some k → ∃ c, w.heap[k]? = some (.cells c t (0, 0)) := by
  intro k hk
  rcases h.2 with ⟨rfl, h0⟩ | ⟨g, cap, cur, rfl, hb, hg, hnc, _, hs, ht⟩
  · cases hk
  · cases hk; exact ⟨cur, hg⟩
/-- as a value that reads -/
theorem Own.rd {w : World} {base : Nat} {t : TypeId} {v : Value} {l : List α} (h : E.Own w base t v l) : ∃ A C, v = .slice A l.length C ∧ l.length ≤ C ∧ C ≤ maxLen ∧ (A = none → l.length = 0 ∧ C = 0) ∧ E.Rd w A l (fun b => base ≤ b ∧ v.ownBlock = some b) := by
  rcases h.2 with ⟨rfl, h0⟩ | ⟨g, cap, cur, rfl, hb, hg, hnc, hcm, hs, ht⟩
  · have : l = [] := List.length_eq_zero_iff.1 h0
    subst this
    exact ⟨none, 0, rfl, Nat.le_refl _, by decide, fun _ => ⟨rfl, rfl⟩, Rd.nil _ _ _⟩
  · refine ⟨_, cap, rfl, hnc, hcm, (fun h => by cases h), fun _ => ⟨g, 0, rfl, ⟨hb, rfl⟩, fun i hi j u hu => ?_⟩⟩
    have hj : j < E.k := by rw [← E.len l[i]]; exact (List.getElem?_eq_some_iff.1 hu).1
    have hx := E.cells_get l i j hj hi
    have hlt : i * E.k + j < l.length * E.k := by
      have h1 : (i + 1) * E.k ≤ l.length * E.k := Nat.mul_le_mul_right _ hi
      rw [Nat.succ_mul] at h1
      omega
    rw [hu, ← ht, List.getElem?_take, if_pos hlt, Array.getElem?_toList] at hx
    rw [show 0 + i * E.k + j = i * E.k + j by omega, heap_cell hg, hx]
end Enc
/-- a new block's cells -/
theorem newCells (w : World) (c : List Value) (t : TypeId) : ∀ j u, c[j]? = some u → (w.alloc (.cells c.toArray t)).cell? ((⟨w.heap.size, 0, none⟩ : Addr).add j) = some u := by
  intro j u hu
  rw [addr_add, heap_cell (Go.Deep.blk_alloc_new _ _), Nat.zero_add]
  simpa using hu
theorem newCellsAt (w : World) (c : List Value) (t : TypeId) (s : Nat) (hs : s = w.heap.size) : ∀ j u, c[j]? = some u → (w.alloc (.cells c.toArray t)).cell? ((⟨s, 0, none⟩ : Addr).add j) = some u := by
  subst hs; exact newCells w c t
/-- append of some structs -/
theorem wpList_append_st' {P : Program} {α : Type} (E : Enc α) (w : World) {ops : Array Oper} {rest : List Oper} {o : Oper} {a : Act} {Q : Exit → Act → World → Prop} (hgd : o.guard = none) (s x : Operand) (t : TypeId)
    (ho : o.op = .call { callee := .builtin .append, args := #[s, x], argTypes := #[t, t] })
    (base : Nat) (e : TypeId) (z : Value) (bytes : Nat) (ht : P.underlying t = some (.slice e)) (hi : (P.info? e).map (fun i => (i.zero, i.size, i.bytes)) = some (some z, E.k, bytes)) (hzs : z.cells.size = E.k)
    (v : Value) (l : List α) (hs : a.eval s = v) (hown : E.Own w base e v l)
    (ad : Addr) (m c : Nat) (l' : List α) (hx : a.eval x = .slice (some ad) m c) (hm : m = l'.length) (hnews : ∀ j u, (E.cells l')[j]? = some u → w.cell? (ad.add j) = some u)
    (h63 : l.length + m ≤ maxLen) (hbytes : (l.length + m) * bytes ≤ 140737488355328) (hbase : base ≤ w.heap.size)
    (h : ∀ v' w', E.Own w' base e v' (l ++ l') → w.grownBy w' v.ownBlock → wpList P ops Q rest (a.put o.dst v') w') : wpList P ops Q (o :: rest) a w := by
  obtain ⟨i0, hi, hz0, hz1, hz2⟩ := info_parts hi
  subst hm
  exact wpList_append_own w hgd s x t ho base e i0 z E.k bytes ht hi hz0 hz1 hz2 hzs E.pos v l.length (E.cells l) hs hown ad l'.length c (E.cells l') hx (E.cells_len l') hnews (E.cells_all l') h63 hbytes hbase (fun v' w' h2 h3 _ => h v' w' (by unfold Enc.Own; rw [E.cells_append, List.length_append]; exact h2) h3)
end Go.Proofs.Ytmfikihcoafekaa
