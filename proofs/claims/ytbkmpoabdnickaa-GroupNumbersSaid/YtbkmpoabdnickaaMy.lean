/- Groups of one tape each, laid one behind the other: which of them are told, and which of them has a tape. No function of the program. Tapes in a row that a call makes longer by append, each tape's rows in other blocks than the row's own. Make of package group of one tape of data and one blank tape. What slices.Clone makes of a row of numbers, and what Of of package group answers: the first group that has a label. A region that draws its order, loads a cell, and stores into that cell at its end: what holds of the world is asked behind every operation but that store. No function of the program. -/
import Derived.Test.YtbkmpoabdnickaaMx
import Derived.Test.YtbkmpoabdnickaaMi
import Derived.Lib.SmallJoins
import Derived.Test.YtbkmpoabdnickaaMt
import Derived.Test.YtbkmpoabdnickaaMn
import Derived.Deep.AppendLies
import Derived.Test.YtbkmpoabdnickaaMs
import Derived.Test.YtbkmpoabdnickaaGrIns
import Derived.Test.YtbkmpoabdnickaaMr
import Derived.Test.YtbkmpoabdnickaaChecked
import Derived.Deep.RegionHeld
import Derived.StillTail
import Derived.Says
namespace Go.Proofs.Ytbkmpoabdnickaa.Nm
open Go.RowKit Go.Proofs.Ytbkmpoabdnickaa
open Pt (Tx)

theorem and7 (x : Int) : ∃ y : Nat, bits BinOp.and IntKind.i64 x 7 = (y : Int) ∧ y ≤ 7 := by
  have hx : (BitVec.ofInt 64 x &&& BitVec.ofInt 64 7).toNat ≤ 7 := by
    rw [BitVec.toNat_and]; exact Nat.and_le_right
  refine ⟨(BitVec.ofInt 64 x &&& BitVec.ofInt 64 7).toNat, ?_, hx⟩
  show IntKind.i64.wrap ((BitVec.ofInt 64 x &&& BitVec.ofInt 64 7).toNat : Int) = _
  rw [IntKind.wrap_i64]; omega
/-- the last three bits -/
noncomputable def lo (x : Int) : Nat := Classical.choose (and7 x)
theorem lo_eq (x : Int) : bits BinOp.and IntKind.i64 x 7 = (lo x : Int) := (Classical.choose_spec (and7 x)).1
theorem lo_le (x : Int) : lo x ≤ 7 := (Classical.choose_spec (and7 x)).2
def D (i : Nat) : St.T := Ex.d (2 * (i : Int) + 1) 5
def bl (i : Nat) : St.T := ⟨2 * (i : Int) + 2, 5, [], false⟩
noncomputable def nb (z : Nat → Int) (i : Nat) : Int := 1 + (lo (z i) : Int)
noncomputable def P (z : Nat → Int) (i : Nat) : St.T := Gr.madeT [D i] [bl i] (nb z i) 0 (bl i)
noncomputable def s (z : Nat → Int) (i : Nat) : Rc.S := Gr.sealOf [D i] [bl i] (nb z i) 1
noncomputable def T (z : Nat → Int) : Nat → List St.T
  | 0 => []
  | n + 1 => T z n ++ [D n, P z n]
theorem T_len (z : Nat → Int) : ∀ n, (T z n).length = 2 * n
  | 0 => rfl
  | n + 1 => by rw [T, List.length_append, T_len z n]; simp; omega
theorem nb_in (z : Nat → Int) (i : Nat) : 1 ≤ nb z i ∧ nb z i ≤ 8 := by
  have := lo_le (z i)
  unfold nb; omega
theorem labs (i : Nat) (hi : i ≤ 8) : Rc.Labs ((2 * (i : Int) + 1) :: [bl i].map St.T.label) := by
  refine ⟨fun x hx => ?_, ?_⟩
  · simp only [bl, List.map_cons, List.map_nil, List.mem_cons, List.not_mem_nil, or_false] at hx
    rcases hx with rfl | rfl <;> omega
  · simp only [bl, List.map_cons, List.map_nil, List.nodup_cons, List.mem_singleton, List.not_mem_nil, not_false_eq_true, and_true, List.nodup_nil]
    omega
theorem blank (i : Nat) : Ex.Blank [bl i] := fun t ht => by rw [List.mem_singleton.1 ht]; exact ⟨rfl, rfl, by show (3 : Int) ≤ 5; decide⟩
theorem mk (z : Nat → Int) (i : Nat) (hi : i ≤ 8) : Gr.mkE [D i] [bl i] (nb z i) = 0 := by
  have h := nb_in z i
  exact Ex.mk_zero ⟨h.1, by omega⟩ (Nat.le_refl 1) (by simp) (blank i) (labs i hi)
theorem sok (z : Nat → Int) (i : Nat) (hi : i ≤ 8) : Rc.SOk (Gr.sealOf [D i] [bl i] (nb z i) 0) := by
  have h := nb_in z i
  exact Gr.chk_seal (Ex.chk_zero ⟨h.1, by omega⟩ (Nat.le_refl 1) (by simp) (blank i) (labs i hi))
theorem made (z : Nat → Int) (i : Nat) : Gr.made [D i] [bl i] (nb z i) = [P z i] := rfl
theorem len1 (i : Nat) : St.len [D i] ≤ 1 := St.len_le fun t ht => by rw [List.mem_singleton.1 ht]; exact Nat.le_refl _
theorem cand_P (z : Nat → Int) (i : Nat) (hi : i ≤ 8) : Gr.cand (P z i) = some (s z i) :=
  Gr.made_cand (sok z i hi) (Nat.le_trans (len1 i) (by decide)) (i := 0) (by simp)
theorem cand_D (i : Nat) (hi : i ≤ 8) : Gr.cand (D i) = none := Ex.cand_d ⟨by omega, by omega⟩
theorem cands (z : Nat → Int) : ∀ n, n ≤ 8 → Gr.cands (T z n) = (List.range n).map (s z)
  | 0, _ => rfl
  | n + 1, h => by
    have hc : Gr.cands (T z (n + 1)) = Gr.cands (T z n) ++ Gr.cands [D n, P z n] := by rw [T]; exact List.filterMap_append
    have h2 : Gr.cands [D n, P z n] = [s z n] := by
      unfold Gr.cands
      simp [cand_D n (by omega), cand_P z n (by omega)]
    rw [hc, h2, cands z n (by omega), List.range_succ, List.map_append]; rfl
theorem labels (z : Nat → Int) (i : Nat) : (s z i).labels = [2 * (i : Int) + 1, 2 * (i : Int) + 2] := rfl
theorem number (z : Nat → Int) (i : Nat) : (s z i).number = nb z i := rfl
/-- none ahead has the number -/
noncomputable def fst (z : Nat → Int) (i : Nat) : Bool := decide (∀ k, k < i → lo (z k) ≠ lo (z i))
theorem first_is {z : Nat → Int} {n i : Nat} (hi : i < n) : Gr.First ((List.range n).map (s z)) (s z i) ↔ fst z i = true := by
  unfold fst
  rw [decide_eq_true_iff]
  constructor
  · rintro ⟨j, hj, e, hk⟩ k hki
    rw [List.length_map, List.length_range] at hj
    rw [List.getElem_map, List.getElem_range] at e
    have hl := congrArg Rc.S.labels e
    rw [labels, labels] at hl
    have : j = i := by simp at hl; omega
    subst this
    have h := hk k hki
    rw [List.getElem_map, List.getElem_range, number, number] at h
    intro e'
    exact h (by unfold nb; rw [e'])
  · intro h
    refine ⟨i, by simpa using hi, by rw [List.getElem_map, List.getElem_range], fun k hki => ?_⟩
    rw [List.getElem_map, List.getElem_range, number, number]
    intro e
    exact h k hki (by unfold nb at e; omega)
theorem of_T {z : Nat → Int} {n i : Nat} (hn : n ≤ 8) (hi : i < n) {lab : Int} (hlab : lab = 2 * (i : Int) + 1 ∨ lab = 2 * (i : Int) + 2) : Gr.of (Gr.find (T z n)) lab = if fst z i = true then some (s z i) else none := by
  have key : ∀ x ∈ Gr.find (T z n), lab ∈ x.labels → x = s z i := fun x hx hm => by
    unfold Gr.find at hx
    rw [cands z n hn] at hx
    obtain ⟨k, hk, rfl⟩ := List.mem_map.1 ((Gr.mem_all _ _).1 hx).mem
    rw [labels] at hm
    have : k = i := by simp at hm; omega
    rw [this]
  have hmem : s z i ∈ Gr.find (T z n) ↔ fst z i = true := by
    unfold Gr.find
    rw [cands z n hn, Gr.mem_all, first_is hi]
  have hin : lab ∈ (s z i).labels := by rw [labels]; simp; omega
  unfold Gr.of
  by_cases hf : fst z i = true
  · rw [if_pos hf]
    have hs := hmem.2 hf
    cases hfd : (Gr.find (T z n)).find? (fun s => decide (lab ∈ s.labels)) with
    | none => exact absurd (List.find?_eq_none.1 hfd _ hs) (by simpa using hin)
    | some x =>
      have h1 := List.mem_of_find?_eq_some hfd
      have h2 := List.find?_some hfd
      rw [key x h1 (by simpa using h2)]
  · rw [if_neg hf]
    refine List.find?_eq_none.2 fun x hx hm => hf ?_
    rw [key x hx (by simpa using hm)] at hx
    exact hmem.1 hx
theorem up {z : Nat → Int} {n : Nat} {l : List Sx} (h : l.map Sx.s = Gr.find (T z n)) {i : Nat} (hi : i + 1 < l.length) : (l[i]'(by omega)).s.number < (l[i + 1]).s.number := by
  have hu : Gr.Up (Gr.find (T z n)) := Gr.all_up _
  rw [← h] at hu
  have h2 := (List.pairwise_iff_getElem.1 hu) i (i + 1) (by simp; omega) (by simpa using hi) (by omega)
  simpa using h2
theorem ins_len (s : Rc.S) : ∀ l : List Rc.S, (Gr.ins s l).length ≤ l.length + 1
  | [] => Nat.le_refl _
  | a :: l => by
    rw [Gr.ins]
    split
    · have := ins_len s l
      simp only [List.length_cons]; omega
    · split
      · simp only [List.length_cons]; omega
      · simp only [List.length_cons]; omega
theorem all_len (cs : List Rc.S) : (Gr.all cs).length ≤ cs.length := by
  have h : ∀ (cs out : List Rc.S), (cs.foldl (fun out s => Gr.ins s out) out).length ≤ out.length + cs.length := fun cs => by
    induction cs with
    | nil => exact fun out => Nat.le_refl _
    | cons c cs ih =>
      intro out
      have h1 := ih (Gr.ins c out)
      have h2 := ins_len c out
      simp only [List.foldl_cons, List.length_cons]
      omega
  have h1 := h cs []
  unfold Gr.all
  simpa using h1
theorem find_len (z : Nat → Int) {n : Nat} (hn : n ≤ 8) : (Gr.find (T z n)).length ≤ n := by
  have h := all_len (Gr.cands (T z n))
  rw [cands z n hn, List.length_map, List.length_range] at h
  unfold Gr.find
  rw [cands z n hn]; exact h
theorem find_labs {z : Nat → Int} {n : Nat} (hn : n ≤ 8) {l : List Sx} (h : l.map Sx.s = Gr.find (T z n)) : ∀ x ∈ l, x.s.labels.length = 2 := fun x hx => by
  have h1 : x.s ∈ Gr.find (T z n) := by rw [← h]; exact List.mem_map_of_mem hx
  unfold Gr.find at h1
  rw [cands z n hn] at h1
  obtain ⟨k, hk, e⟩ := List.mem_map.1 ((Gr.mem_all _ _).1 h1).mem
  rw [← e]; rfl
theorem fst_succ (z : Nat → Int) (i k : Nat) : decide (∀ j, j < k + 1 → lo (z j) ≠ lo (z i)) = (decide (∀ j, j < k → lo (z j) ≠ lo (z i)) && decide (lo (z k) ≠ lo (z i))) := by
  rw [Bool.eq_iff_iff, Bool.and_eq_true, decide_eq_true_iff, decide_eq_true_iff, decide_eq_true_iff]
  exact ⟨fun h => ⟨fun j hj => h j (by omega), h k (by omega)⟩, fun h j hj => by
    by_cases e : j = k
    · subst e; exact h.2
    · exact h.1 j (by omega)⟩
theorem T_sizes (z : Nat → Int) : ∀ n, n ≤ 8 → ∀ t ∈ T z n, t.blocks.length ≤ 1000000 ∧ ∀ s ∈ t.blocks, s.length ≤ 1000000
  | 0, _, t, ht => by cases ht
  | n + 1, h, t, ht => by
    rw [T] at ht
    rcases List.mem_append.1 ht with h1 | h1
    · exact T_sizes z n (by omega) t h1
    · simp only [List.mem_cons, List.not_mem_nil, or_false] at h1
      rcases h1 with rfl | rfl
      · refine ⟨by show 1 ≤ 1000000; omega, fun s hs => ?_⟩
        have hs' : s ∈ [Ex.b (2 * (n : Int) + 1)] := hs
        rw [List.mem_singleton.1 hs', Ex.b_len ⟨by omega, by omega⟩]; omega
      · have hm : P z n ∈ Gr.made [D n] [bl n] (nb z n) := by rw [made]; exact List.mem_singleton_self _
        exact made_sizes (Nat.le_trans (len1 n) (by decide)) _ hm
end Go.Proofs.Ytbkmpoabdnickaa.Nm
namespace Go.Proofs.Ytbkmpoabdnickaa
open Go.RowKit
open Pt (Tx)

/-- a tape's cells and what they point to -/
def TvIs (w : World) (G : Nat → Prop) (t : Tv) (s : St.T) : Prop := t.label = s.label ∧ t.cap = s.cap ∧ t.n = s.blocks.length ∧ t.lost = s.lost ∧ RdB w t.A s.blocks G
theorem TvIs.mono {w : World} {G G' : Nat → Prop} {t : Tv} {s : St.T} (h : TvIs w G t s) (hg : ∀ b, G b → G' b) : TvIs w G' t s := ⟨h.1, h.2.1, h.2.2.1, h.2.2.2.1, h.2.2.2.2.mono hg⟩
theorem TvIs.old {w w' : World} {G : Nat → Prop} {t : Tv} {s : St.T} (h : TvIs w G t s) (hb : Below w.heap.size w w') : TvIs w' G t s := ⟨h.1, h.2.1, h.2.2.1, h.2.2.2.1, h.2.2.2.2.old hb⟩
theorem TvIs.in_ {w : World} {G : Nat → Prop} {t : Tv} {s : St.T} (h : TvIs w G t s) : TvIs w (fun b => G b ∧ b < w.heap.size) t s := ⟨h.1, h.2.1, h.2.2.1, h.2.2.2.1, h.2.2.2.2.in_⟩
structure LayT (w : World) (v : Value) (ts : List St.T) (x : World) : Prop where
  ex : ∃ tvs, encT.Own x w.heap.size 32 v tvs ∧ tvs.length = ts.length ∧ ∀ i (hi : i < tvs.length) (hi' : i < ts.length), TvIs x (fun b => b < x.heap.size ∧ v.ownBlock ≠ some b) tvs[i] ts[i]
  bel : Below w.heap.size w x
namespace LayT
variable {w x y : World} {v : Value} {ts : List St.T}
theorem start (w : World) : LayT w (.slice none 0 0) [] w :=
  ⟨⟨[], Enc.Own.nil _ _ _, rfl, fun i hi => absurd hi (by simp)⟩, Below.refl _ _⟩
theorem old (h : LayT w v ts x) (hb : Below x.heap.size x y) : LayT w v ts y := by
  obtain ⟨tvs, h1, h2, h3⟩ := h.ex
  exact ⟨⟨tvs, h1.old hb, h2, fun i hi hi' => ((h3 i hi hi').old hb).mono fun k hk => ⟨Nat.lt_of_lt_of_le hk.1 hb.size, hk.2⟩⟩, h.bel.trans (hb.mono h.bel.size)⟩
/-- some tapes more -/
theorem push (h : LayT w v ts x) (l : List Tv) (ts2 : List St.T) (hl : l.length = ts2.length) (h0 : 0 < l.length) (heq : ∀ i (hi : i < l.length) (hi' : i < ts2.length), TvIs x (fun b => b < x.heap.size ∧ v.ownBlock ≠ some b) l[i] ts2[i])
    (hb : Below x.heap.size x y) (ad : Addr) (n c N : Nat) (hn : n = l.length) (hnews : ∀ j u, (encT.cells l)[j]? = some u → y.cell? (ad.add j) = some u) (hmax : ts.length + l.length ≤ 1000000) (hN : N = ts.length + l.length) :
    ∃ g cap z, (∀ ty, (Builtin.append_ #[24, 24] ty #[v, .slice (some ad) n c]).run Try.prog y = .ok (.slice (some ⟨g, 0, none⟩) N cap) z) ∧ LayT w (.slice (some ⟨g, 0, none⟩) N cap) (ts ++ ts2) z ∧ Below w.heap.size w z ∧ y.grownBy z v.ownBlock := by
  subst hN hn
  obtain ⟨tvs, h1, h2, h3⟩ := h.ex
  obtain ⟨i0, hi, hz0, hz1, hz2⟩ := info_parts infoTape
  have hown : y.ownsRow w.heap.size 32 4 v tvs.length (encT.cells tvs) := h1.old hb
  have hw : w.heap.size ≤ y.heap.size := Nat.le_trans h.bel.size hb.size
  obtain ⟨g, cap, z, hr, ho, hg, hat, hlt⟩ := run_append_lies (P := Try.prog) (w := y) 24 3 w.heap.size 32 i0 (.agg #[.int .i64 0, .int .i64 0, .slice none 0 0, .bool false]) 4 48 Try.underlying24 hi hz0 hz1 hz2 rfl (by decide) v tvs.length (encT.cells tvs) hown ad l.length c (encT.cells l) (Enc.cells_len encT l) hnews (Enc.cells_all encT l) h0 (by rw [h2]; unfold maxLen; omega) (by rw [h2]; omega) hw y.heap.size rfl
  rw [h2] at hr ho
  have keep : ∀ {t : Tv} {s : St.T}, TvIs x (fun b => b < x.heap.size ∧ v.ownBlock ≠ some b) t s → TvIs z (fun b => b < z.heap.size ∧ (Value.slice (some ⟨g, 0, none⟩) (ts.length + l.length) cap).ownBlock ≠ some b) t s := fun {t s} ht => by
    refine ⟨ht.1, ht.2.1, ht.2.2.1, ht.2.2.2.1, (ht.2.2.2.2.keep fun p u hp hc => ?_).mono fun b hb' => ⟨Nat.lt_of_lt_of_le hb'.1 (Nat.le_trans hb.size hg.size), fun e => ?_⟩⟩
    · exact (World.cell?_of_block ((hg.block p.block (Nat.lt_of_lt_of_le hp.1 hb.size) (fun e => hp.2 e.symm)).trans (hb.block p.block hp.1))).trans hc
    · cases e
      rcases hat with e | e
      · exact hb'.2 e
      · have h9 : g < x.heap.size := hb'.1
        have := hb.size
        omega
  have hbel : Below w.heap.size w z := (h.bel.trans (hb.mono h.bel.size)).grown hg hw fun k e => (h1.lt k e).1
  refine ⟨g, cap, z, fun ty => hr, ⟨⟨tvs ++ l, ?_, by simp [h2, hl], fun i hi hi' => ?_⟩, hbel⟩, hbel, hg⟩
  · unfold Enc.Own
    rw [Enc.cells_append, List.length_append, h2]
    exact ho
  · rcases Nat.lt_or_ge i tvs.length with hlt' | hge
    · rw [List.getElem_append_left hlt', List.getElem_append_left (by omega)]
      exact keep (h3 i hlt' (by omega))
    · rw [List.getElem_append_right hge, List.getElem_append_right (by omega)]
      have e : i - tvs.length = i - ts.length := by rw [h2]
      have hi2 : i - tvs.length < l.length := by simp at hi; omega
      have hi3 : i - ts.length < ts2.length := by simp at hi'; omega
      have hk := keep (heq (i - tvs.length) hi2 (by omega))
      simp only [h2] at hk ⊢
      exact hk
/-- as what reads -/
theorem rd (h : LayT w v ts x) : ∃ A C, v = .slice A ts.length C ∧ RdT x A ts (fun _ => True) := by
  obtain ⟨tvs, h1, h2, h3⟩ := h.ex
  obtain ⟨A, C, hv, -, -, -, hr⟩ := h1.rd
  rw [h2] at hv
  exact ⟨A, C, hv, RdT.of_rows (hr.mono fun _ _ => trivial) h2 fun i hi hi' => (h3 i hi hi').mono fun _ _ => trivial⟩
end LayT
end Go.Proofs.Ytbkmpoabdnickaa
namespace Go.Proofs.Ytbkmpoabdnickaa
open Go.RowKit
open Pt (Tx)

theorem Below.alloc2 (w : World) (o1 o2 : Obj) : Below w.heap.size w ((w.alloc o1).alloc o2) := ((Below.refl w.heap.size w).alloc (Nat.le_refl _) o1).alloc (by simp) o2
theorem heap_two (w : World) (o1 o2 : Obj) : ((w.alloc o1).alloc o2).heap[w.heap.size]? = some o1 ∧ ((w.alloc o1).alloc o2).heap[w.heap.size + 1]? = some o2 := by
  refine ⟨?_, ?_⟩
  · have h : ((w.alloc o1).alloc o2).heap[w.heap.size]? = (w.alloc o1).heap[w.heap.size]? := ((Below.refl (w.alloc o1).heap.size (w.alloc o1)).alloc (Nat.le_refl _) o2).block _ (by simp)
    rw [h]; exact Go.Deep.blk_alloc_new _ _
  · have h := Go.Deep.blk_alloc_new (w.alloc o1) o2
    simpa using h
namespace Nm
theorem P_three (z : Nat → Int) (i : Nat) : (P z i).blocks.length = 3 := by
  unfold P
  rw [Gr.madeT_len]; rfl
/-- what one tape's parity is -/
def OneA (z : Nat → Int) (i : Nat) (y : World) (e : Ending) (y' : World) : Prop :=
  ∃ b off A8 C8 C7, e = .returned (.tuple #[.slice (some ⟨b, off, none⟩) 1 C7, .int .i64 0]) ∧ y.heap.size ≤ b ∧ b < y'.heap.size ∧ y'.cell? ⟨b, off, none⟩ = some (.int .i64 (2 * (i : Int) + 2)) ∧ y'.cell? ⟨b, off + 1, none⟩ = some (.int .i64 5) ∧ y'.cell? ⟨b, off + 2, none⟩ = some (.slice A8 3 C8) ∧ y'.cell? ⟨b, off + 3, none⟩ = some (.bool false) ∧
    TvIs y' (y.heap.size ≤ ·) ⟨2 * (i : Int) + 2, 5, A8, 3, C8, false⟩ (P z i) ∧ Below y.heap.size y y'
theorem make_one (z : Nat → Int) (i : Nat) (hi : i ≤ 8) (gd gb gr : Nat) (A3 : Option Addr) (n3 C3 : Nat) (y : World) (hr : y.heap[gr]? = some (.cells #[.slice A3 n3 C3] 25 (0, 0))) (hn : n3 = (Ex.b (2 * (i : Int) + 1)).length) (hC : n3 ≤ C3) (hA : A3 = none → n3 = 0 ∧ C3 = 0) (hb : RdL y A3 (Ex.b (2 * (i : Int) + 1)) (fun _ => True))
    (h1 : y.heap[gd]? = some (tapeObj (2 * (i : Int) + 1) 5 (some ⟨gr, 0, none⟩) 1 1 false)) (h2 : y.heap[gb]? = some (tapeObj (2 * (i : Int) + 2) 5 none 0 0 false)) :
    Calls Try.prog 7 #[.slice (some ⟨gd, 0, none⟩) 1 1, .slice (some ⟨gb, 0, none⟩) 1 1, .int .i64 (nb z i)] y (OneA z i y) := by
  have hd := one_tape h1 rfl (one_row hr hn hC hA hb)
  have hbl := one_tape (bs := []) h2 rfl (RdB.empty _ _ _)
  have hmk := make_any (some ⟨gd, 0, none⟩) [D i] 1 (some ⟨gb, 0, none⟩) [bl i] 1 (fun _ => True) (nb z i) y (by simp) (by simp) (fun h => by cases h) (fun h => by cases h) (fun t ht => by
    rw [List.mem_singleton.1 ht]
    refine ⟨by show 1 ≤ 1000000; omega, fun s hs => ?_⟩
    have hs' : s ∈ [Ex.b (2 * (i : Int) + 1)] := hs
    rw [List.mem_singleton.1 hs', Ex.b_len ⟨by omega, by omega⟩]; omega) hd hbl
  unfold MakeA at hmk
  simp only [if_pos (mk z i hi)] at hmk
  refine hmk.mono ?_
  rintro e y' ⟨A, C, rfl, -, -, -, hr', hb'⟩
  rw [made] at hr'
  obtain ⟨b, off, A8, C8, rfl, hlo, c0, c1, c2, c3, hblk⟩ := hr'.at_ (i := 0) (by simp)
  have e0 : [P z i][0] = P z i := rfl
  simp only [e0, Nat.zero_mul, Nat.add_zero] at c0 c1 c2 c3 hblk
  rw [P_three] at c2
  exact ⟨b, off, A8, C8, C, rfl, hlo, World.block_lt_of_cell? _ _ c0, c0, c1, c2, c3, ⟨rfl, rfl, (P_three z i).symm, rfl, hblk⟩, hb'⟩
/-- wherever the two lie -/
theorem make_two (z : Nat → Int) (i : Nat) (hi : i ≤ 8) (gr : Nat) (A3 : Option Addr) (n3 C3 : Nat) (x : World) (hr : x.heap[gr]? = some (.cells #[.slice A3 n3 C3] 25 (0, 0))) (hn : n3 = (Ex.b (2 * (i : Int) + 1)).length) (hC : n3 ≤ C3) (hA : A3 = none → n3 = 0 ∧ C3 = 0) (hb : RdL x A3 (Ex.b (2 * (i : Int) + 1)) (fun _ => True))
    (gd gb : Nat) (y : World) (hy : Below x.heap.size x y) (h1 : y.heap[gd]? = some (.cells #[.int .i64 (2 * (i : Int) + 1), .int .i64 5, .slice (some ⟨gr, 0, none⟩) 1 1, .bool false] 32 (0, 0))) (h2 : y.heap[gb]? = some (.cells #[.int .i64 (2 * (i : Int) + 2), .int .i64 5, .slice none 0 0, .bool false] 32 (0, 0))) :
    Calls Try.prog 7 #[.slice (some ⟨gd, 0, none⟩) 1 1, .slice (some ⟨gb, 0, none⟩) 1 1, .int .i64 (1 + (lo (z i) : Int))] y (fun e y' => OneA z i x e y' ∧ Below x.heap.size x y') := by
  refine (make_one z i hi gd gb gr A3 n3 C3 y ((hy.block _ (heap_lt hr)).trans hr) hn hC hA (hb.old hy) h1 h2).mono fun e y' h => ?_
  obtain ⟨b, off, A8, C8, C7, h3, h0, h4, h5, h6, h7, h8, h9, h10⟩ := h
  have hb' : Below x.heap.size x y' := hy.trans (h10.mono hy.size)
  exact ⟨⟨b, off, A8, C8, C7, h3, Nat.le_trans hy.size h0, h4, h5, h6, h7, h8, h9.mono fun b hb => Nat.le_trans hy.size hb, hb'⟩, hb'⟩
end Nm
end Go.Proofs.Ytbkmpoabdnickaa
namespace Go.Proofs.Ytbkmpoabdnickaa
open Go.RowKit
open Pt (Tx)

/-- a row of numbers in new memory -/
def NewZ (l : List Int) (w : World) (e : Ending) (w' : World) : Prop :=
  ∃ A C, e = .returned (.slice A l.length C) ∧ l.length ≤ C ∧ C ≤ maxLen ∧ (A = none → l.length = 0 ∧ C = 0) ∧ RdZ w' A l (w.heap.size ≤ ·) ∧ Below w.heap.size w w'
set_option maxHeartbeats 1000000 in
theorem cloneZ_any (A : Option Addr) (l : List Int) (n C : Nat) (G : Nat → Prop) (w : World) (hn : n = l.length) (hn0 : 0 < n) (hm : n ≤ 1000000) (hr : RdZ w A l G) :
    Calls Try.prog 26 #[.slice A n C] w (NewZ l w) := by
  obtain ⟨b, off, rfl, -, -⟩ := hr.at_ (j := 0) (by omega)
  have hown : OwnZ (w.alloc (.cells #[] 3)) w.heap.size (.slice (some ⟨w.heap.size, 0, none⟩) 0 0) [] := World.ownsRow_made w #[] 0 (Nat.le_refl _) (by decide) rfl
  have hb0 : Below w.heap.size w (w.alloc (.cells #[] 3)) := (Below.refl _ _).alloc (Nat.le_refl _) _
  obtain ⟨i0, hi, hz0, hz1, hz2⟩ := info_parts infoI
  have hnews : ∀ j u, (cellsZ l)[j]? = some u → (w.alloc (.cells #[] 3)).cell? ((⟨b, off, none⟩ : Addr).add j) = some u := fun j u hu => by
    obtain ⟨hj, rfl⟩ := cellsZ_some hu
    obtain ⟨b', off', e, -, hc⟩ := (hr.old hb0).at_ hj
    cases e
    rw [addr_add]; exact hc
  have hnil : ∀ (w : World) (a : Option Addr) (n c n' c' : Nat), (binOp .eql 22 (.slice a n c) (.slice none n' c')).run Try.prog w = .ok (.bool a.isNone) w := fun w a n c n' c' => Lib.run_eql_slice_nil w _ _ a n c n' c' Try.underlying22
  have hlen : (cellsZ l).length = n * 1 := by rw [cellsZ_len, Nat.mul_one, hn]
  have HN := Lib.hid hn
  have HB0 := Lib.hid hb0
  have HNEW := Lib.hid hnews
  clear hr hb0 hn hnews
  go_enter Try.func26, Try.ntmps26
  go_wp2_with (at_builtin; refine wpList_append_own _ rfl _ _ 22 rfl w.heap.size 3 i0 (.int .i64 0) 1 8 Try.underlying22 hi hz0 hz1 hz2 rfl (by decide) _ _ _ rfl hown ⟨b, off, none⟩ n C (cellsZ l) rfl hlen HNEW.out cellsZ_one (by unfold maxLen; simp; omega) (by simp; omega) (by simp) ?_)
  intro v' w' hown' hgrow _
  have HB := Lib.hid (HB0.out.grown hgrow (by simp) (fun k hk => by simp [Value.ownBlock] at hk; omega))
  have hO : OwnZ w' w.heap.size v' l := by
    unfold OwnZ
    rw [← HN.out]
    exact hown'
  obtain ⟨A2, C2, rfl, h2, h3, h4, h5⟩ := hO.rd
  have H5 := Lib.hid h5
  have H4 := Lib.hid h4
  clear hown' hgrow hown hnil h5 h4 hO
  go_wp2
  go_ret
  exact ⟨_, _, rfl, h2, h3, H4.out, H5.out, HB.out⟩
theorem of_take {l : List Rc.S} {label : Int} {i : Nat} (h : i < l.length) (hno : ∀ s ∈ l.take i, label ∉ s.labels) (hy : label ∈ l[i].labels) : Gr.of l label = some l[i] := by
  unfold Gr.of
  have e : (l.take i ++ l.drop i).find? (fun s => decide (label ∈ s.labels)) = some l[i] := by
    rw [List.find?_append, List.find?_eq_none.2 (fun s hs => by simpa using hno s hs), List.drop_eq_getElem_cons h, List.find?_cons_of_pos (by simpa using hy)]
    rfl
  rwa [List.take_append_drop] at e
theorem of_none {l : List Rc.S} {label : Int} (hno : ∀ s ∈ l, label ∉ s.labels) : Gr.of l label = none := by
  unfold Gr.of
  exact List.find?_eq_none.2 (fun s hs => by simpa using hno s hs)
/-- the five cells of one that is read -/
theorem rd_five {w : World} {A : Option Addr} {xs : List Sx} {G : Nat → Prop} (h : encX.Rd w A xs G) {i : Nat} (hi : i < xs.length) {x : Sx} (hx : xs[i] = x) : ∃ b off, A = some ⟨b, off, none⟩ ∧ Five w b (off + i * 5) x.s.number x.s.index x.s.data x.s.parity x.A x.s.labels.length x.C := by
  subst hx
  obtain ⟨b, off, e, -, hc⟩ := h.at_ hi
  exact ⟨b, off, e, hc 0 _ rfl, hc 1 _ rfl, hc 2 _ rfl, hc 3 _ rfl, hc 4 _ rfl⟩
set_option maxRecDepth 100000 in
set_option maxHeartbeats 8000000 in
theorem of_any (A : Option Addr) (xs : List Sx) (n C : Nat) (G : Nat → Prop) (label : Int) (w : World) (hn : n = xs.length) (hm : n ≤ 1000) (hr : encX.Rd w A xs G) (hok : ∀ x ∈ xs, x.Ok w (fun _ => True) ∧ x.s.labels.length ≤ 1000) :
    Calls Try.prog 10 #[.slice A n C, .int .i64 label] w (SealA (Gr.of (xs.map Sx.s) label) w) := by
  have HR := Lib.hid hr
  have HN := Lib.hid hn
  have HOK := Lib.hid hok
  obtain ⟨wb, hwb⟩ : ∃ wb, wb = w.alloc (sealObj 0 0 0 0 none 0 0) := ⟨_, rfl⟩
  have hB : Below w.heap.size w wb := by rw [hwb]; exact (Below.refl _ _).alloc (Nat.le_refl _) _
  have hU : wb.heap[w.heap.size]? = some (sealObj 0 0 0 0 none 0 0) := by rw [hwb]; exact Go.Deep.blk_alloc_new _ _
  have HB0 := Lib.hid hB
  have HU0 := Lib.hid hU
  have HW := Lib.hid hwb
  unfold sealObj at HW
  clear hr hn hok hwb hB hU
  go_enter Try.func10, Try.ntmps10
  go_wp2
  rw [← HW.out]
  go_loopw [10] (fun vi wr => ∃ i : Nat, i ≤ n ∧ vi = .int .i64 (i : Int) ∧ Hid (∀ s ∈ (xs.map Sx.s).take i, label ∉ s.labels) ∧ Hid (Below w.heap.size w wr) ∧ Hid (wr.heap[w.heap.size]? = some (sealObj 0 0 0 0 none 0 0))) (fun vi _ => n - (intOf vi).toNat)
  case atStart => exact ⟨0, Nat.zero_le _, rfl, Lib.hid (fun s hs => by cases hs), HB0, HU0⟩
  case round =>
    obtain ⟨i, hi, rfl, HNO, HB, HU⟩ := hrel
    by_cases hlt : i < n
    · have e0 : decide (i < n) = true := decide_eq_true hlt
      have hlt' : i < xs.length := by rw [← HN.out]; exact hlt
      obtain ⟨x, hx⟩ : ∃ x, x = xs[i] := ⟨_, rfl⟩
      obtain ⟨b, off, rfl, hf⟩ := rd_five (HR.out.old HB.out) hlt' hx.symm
      have hxo := HOK.out x (by rw [hx]; exact List.getElem_mem hlt')
      have hlt2 : i < (xs.map Sx.s).length := by simpa using hlt'
      have hxm : (xs.map Sx.s)[i] = x.s := by rw [List.getElem_map, ← hx]
      obtain ⟨⟨sn, si, sd, sp, sl⟩, sA, sC⟩ := x
      have HYES : Hid (label ∈ sl → Gr.of (xs.map Sx.s) label = some ⟨sn, si, sd, sp, sl⟩) := Lib.hid fun h => by
        rw [of_take hlt2 HNO.out (by rw [hxm]; exact h), hxm]
      have HNEXT : Hid (label ∉ sl → ∀ s ∈ (xs.map Sx.s).take (i + 1), label ∉ s.labels) := Lib.hid fun h s hs => by
        rw [List.take_succ_eq_append_getElem hlt2, hxm] at hs
        rcases List.mem_append.1 hs with hs | hs
        · exact HNO.out s hs
        · rw [List.mem_singleton.1 hs]; exact h
      dsimp only at hf hxo
      obtain ⟨m, hm⟩ : ∃ m, m = sl.length := ⟨_, rfl⟩
      rw [← hm] at hf hxo
      have HM := Lib.hid hm
      obtain ⟨c0, c1, c2, c3, c4⟩ := hf
      obtain ⟨wa, hwa⟩ : ∃ wa, wa = wr.alloc (sealObj sn si sd sp sA m sC) := ⟨_, rfl⟩
      have hba : Below wr.heap.size wr wa := by rw [hwa]; exact (Below.refl _ _).alloc (Nat.le_refl _) _
      have hSa : wa.heap[wr.heap.size]? = some (sealObj sn si sd sp sA m sC) := by rw [hwa]; exact Go.Deep.blk_alloc_new _ _
      have HSA := Lib.hid hSa
      have HBA := Lib.hid (HB.out.trans (hba.mono HB.out.size))
      have HUA := Lib.hid (below_obj hba HU.out)
      have HXO := Lib.hid (hxo.1.old HBA.out)
      have hlo : w.heap.size < wr.heap.size := heap_lt HU.out
      have hml : m ≤ 1000 := hxo.2
      have HWA := Lib.hid hwa
      unfold sealObj at HWA
      obtain ⟨x0, x1, x2, x3, x4⟩ := seal5 hSa
      rw [HWA.out] at x0 x1 x2 x3 x4
      have hcall := contains_any sA sl m sC label (fun _ => True) wa hm (by unfold maxLen; omega) HXO.out.rd
      obtain ⟨d, hd⟩ : ∃ d, d = decide (label ∈ sl) := ⟨_, rfl⟩
      rw [← hd] at hcall
      have HC := Lib.hid hcall
      have HD := Lib.hid hd
      clear hx hxo hlt2 hxm hm hwa hba hSa hcall hd
      cases d with
      | false =>
        have HN2 := Lib.hid (HNEXT.out (of_decide_eq_false HD.out.symm))
        go_wp2_with fail
        rw [← HWA.out]
        refine HC.out.mono ?_
        rintro e w1 ⟨rfl, hw1⟩
        subst hw1
        clear x0 x1 x2 x3 x4 c0 c1 c2 c3 c4
        go_wp2
        go_roundw
        case rel => exact ⟨i + 1, by omega, by go_num, HN2, HBA, HUA⟩
        case measure => simp [intOf]; omega
      | true =>
        have hmem : label ∈ sl := of_decide_eq_true HD.out.symm
        have hm0 : 0 < m := by rw [HM.out]; exact List.length_pos_of_mem hmem
        have HOF := Lib.hid (HYES.out hmem)
        have HCL := Lib.hid (cloneZ_any sA sl m sC (fun _ => True) wa HM.out hm0 (by omega) HXO.out.rd)
        clear hmem HYES HNEXT
        go_wp2_with fail
        rw [← HWA.out]
        refine HC.out.mono ?_
        rintro e w1 ⟨rfl, hw1⟩
        subst hw1
        clear x0 x1 x2 x3 x4 c0 c1 c2 c3 c4
        obtain ⟨x0, x1, x2, x3, x4⟩ := seal5 HSA.out
        go_wp2_with fail
        refine HCL.out.mono ?_
        rintro e w2 ⟨A2, C2, rfl, hc2, hcm2, hn2, hr2, hb2⟩
        rw [← HM.out]
        have hS2 := below_obj hb2 HSA.out
        have hU2 := below_obj hb2 HUA.out
        have HB2 := Lib.hid (HBA.out.trans (hb2.mono HBA.out.size))
        have HK2 : Hid (Kp (· = wr.heap.size) w2 (w2.setCell ⟨wr.heap.size, 4, none⟩ (.slice A2 m C2))) := Lib.hid (Kp.store _ _ _ _)
        have hS3 := heap_set (j := 4) hS2 (.slice A2 m C2)
        have hS3' : (w2.setCell ⟨wr.heap.size, 4, none⟩ (.slice A2 m C2)).heap[wr.heap.size]? = some (sealObj sn si sd sp A2 m C2) := hS3
        have HO2 : Hid (Sx.Ok ⟨⟨sn, si, sd, sp, sl⟩, A2, C2⟩ w2 (fun x => w.heap.size ≤ x ∧ x ≠ w.heap.size ∧ x ≠ wr.heap.size)) := Lib.hid ⟨hc2, hcm2, hn2, hr2.mono fun x hx => by
          have h1 : wa.heap.size ≤ x := hx
          have h2 := heap_lt HSA.out
          omega⟩
        have hU3 : (w2.setCell ⟨wr.heap.size, 4, none⟩ (.slice A2 m C2)).heap[w.heap.size]? = some (sealObj 0 0 0 0 none 0 0) := (HK2.out.block _ (heap_lt hU2) (by omega)).trans hU2
        clear x0 x1 x2 x3 x4
        obtain ⟨x0, x1, x2, x3, x4⟩ := seal5 hS2
        obtain ⟨f0, f1, f2, f3, f4⟩ := seal_free hS2
        obtain ⟨w3, hw3⟩ : ∃ w3, w3 = w2.setCell ⟨wr.heap.size, 4, none⟩ (.slice A2 m C2) := ⟨_, rfl⟩
        rw [← hw3] at HK2 hS3' hU3
        obtain ⟨y0, y1, y2, y3, y4⟩ := seal5 hS3'
        obtain ⟨z0, z1, z2, z3, z4⟩ := seal5 hU3
        obtain ⟨u0, u1, u2, u3, u4⟩ := seal_free hU3
        have HU3 := Lib.hid hU3
        have HW3 := Lib.hid hw3
        have HB3 := Lib.hid (HB2.out.trans (HK2.out.below HB2.out.size (fun k e => by omega)))
        have HO3 : Hid (Sx.Ok ⟨⟨sn, si, sd, sp, sl⟩, A2, C2⟩ w3 (fun x => w.heap.size ≤ x ∧ x ≠ w.heap.size)) := Lib.hid ((HO2.out.kp HK2.out (fun x hx e => hx.2.2 e)).mono fun x hx => ⟨hx.1, hx.2.1⟩)
        rw [hw3] at y0 y1 y2 y3 y4 z0 z1 z2 z3 z4 u0 u1 u2 u3 u4
        clear hb2 hr2 hS2 hU2 hS3 hS3' hU3 hw3 hc2 hcm2 hn2
        go_wp2
        rw [← HW3.out]
        clear z0 z1 z2 z3 z4
        obtain ⟨z0, z1, z2, z3, z4⟩ := seal5 HU3.out
        refine bodyPost_ret (v := .tuple #[.agg #[.int .i64 sn, .int .i64 si, .int .i64 sd, .int .i64 sp, .slice A2 m C2], .bool true]) (by simp [results, Try.results10, go_sem, z0, z1, z2, z3, z4]) rfl ?_
        rw [HOF.out]
        exact SealA.stored (l := sl) rfl rfl (Nat.le_refl _) HM.out HO3.out HB3.out
    · have e0 : decide (i < n) = false := decide_eq_false hlt
      have HOF : Hid (Gr.of (xs.map Sx.s) label = none) := Lib.hid (of_none (by
        have h1 := HNO.out
        rwa [List.take_of_length_le (by rw [List.length_map, ← HN.out]; omega)] at h1))
      obtain ⟨z0, z1, z2, z3, z4⟩ := seal5 HU.out
      obtain ⟨u0, u1, u2, u3, u4⟩ := seal_free HU.out
      go_wp2
      clear z0 z1 z2 z3 z4
      obtain ⟨z0, z1, z2, z3, z4⟩ := seal5 HU.out
      refine bodyPost_ret (v := .tuple #[.agg #[.int .i64 0, .int .i64 0, .int .i64 0, .int .i64 0, .slice none 0 0], .bool false]) (by simp [results, Try.results10, go_sem, z0, z1, z2, z3, z4]) rfl ?_
      rw [HOF.out]
      exact SealA.stored (l := []) rfl rfl (Nat.le_refl _) rfl (nil_ok _ _ _ _ _ _) HB.out
end Go.Proofs.Ytbkmpoabdnickaa
namespace Go.Proofs.Ytbkmpoabdnickaa

section
variable {P : Program} {ops : Array Oper} {Q : Exit → Act → World → Prop} {md : Region.Mode} {S : World → Prop} {z : Nat}

/-- whatever order is picked from here on; S holds behind each operation but z -/
def wpAnyX (P : Program) (md : Region.Mode) (ops : Array Oper) (Q : Exit → Act → World → Prop) (S : World → Prop) (z : Nat) : Nat → Array Bool → Act → World → Prop
  | 0, listed, a, w => Region.ready md ops listed = [] ∧ Q .normal a w
  | fuel + 1, listed, a, w =>
    (Region.ready md ops listed = [] → Q .normal a w) ∧
    ∀ i ∈ Region.ready md ops listed, wpOp P ops Q i (fun a' w' => (i = z ∨ S w') ∧ wpAnyX P md ops Q S z fuel (listed.setIfInBounds i true) a' w') a w
theorem wpAny_of_X : ∀ (fuel : Nat) (listed : Array Bool) (a : Act) (w : World), wpAnyX P md ops Q S z fuel listed a w → wpAny P md ops Q fuel listed a w
  | 0, _, _, _, h => h
  | fuel + 1, _, _, _, h => ⟨h.1, fun i hi => wpOp_mono (fun a' w' h' => wpAny_of_X fuel _ a' w' h'.2) (h.2 i hi)⟩
theorem wpAnyX_first {i : Nat} {oi : Oper} {v : Value} (hi : ops[i]? = some oi) (hsel : ∀ (j : Nat) (o : Oper) cs b, ops[j]? = some o → o.op ≠ .select cs b) (hz : Region.waitsFor md ops z i = true)
    (hQ : ∀ c a w, Q (.panic c) (a.put oi.dst v) w → Q (.panic c) a w) :
    ∀ (fuel : Nat) (listed : Array Bool) (a : Act) (w : World),
      (∀ j oj, ops[j]? = some oj → j ≠ i → listed.getD j true = false → (∀ e ∈ oj.after, Region.binds md e = true → e.on ≠ i) → oi.apart ops oj = true) →
      i ∈ Region.ready md ops listed → YieldsIf P ops S oi v a → S w →
      wpAnyX P md ops Q S z fuel (listed.setIfInBounds i true) (a.put oi.dst v) w → wpAnyX P md ops Q S z (fuel + 1) listed a w := by
  intro fuel
  induction fuel with
  | zero =>
    intro listed a w _ hr hy hS H
    refine ⟨fun h => (by rw [h] at hr; cases hr), fun j hj => ?_⟩
    by_cases hji : j = i
    · subst hji; exact hy.wpOp hi hS ⟨.inr hS, H⟩
    · have := ready_mono hj hji
      rw [H.1] at this
      cases this
  | succ fuel ih =>
    intro listed a w hfree hr hy hS H
    refine ⟨fun h => (by rw [h] at hr; cases hr), fun j hj => ?_⟩
    by_cases hji : j = i
    · subst hji; exact hy.wpOp hi hS ⟨.inr hS, H⟩
    · have h1 := H.2 j (ready_mono hj hji)
      obtain ⟨hjun, oj, hoj, hall⟩ := mem_ready.1 hj
      have hun : listed.getD i false = false := getD_both (mem_ready.1 hr).1
      have hnot : ∀ e ∈ oj.after, Region.binds md e = true → e.on ≠ i := fun e he hb heq => by
        have h1 := hall e he hb
        rw [heq, hun] at h1
        cases h1
      have hjz : j ≠ z := fun e => by
        subst e
        obtain ⟨oz, hoz, e, he, hb, hon⟩ := Region.waitsFor_spec hz
        have : oz = oj := Option.some.inj (hoz.symm.trans hoj)
        subst this
        exact hnot e he hb hon
      have h2 := wpOp_putIf hoj (hfree j oj hoj hji hjun hnot) (fun cs b => hsel i oi cs b hi) (fun cs b => hsel j oj cs b hoj) hQ hy h1
      have hfree' : ∀ k ok, ops[k]? = some ok → k ≠ i → (listed.setIfInBounds j true).getD k true = false →
          (∀ e ∈ ok.after, Region.binds md e = true → e.on ≠ i) → oi.apart ops ok = true := fun k ok hk hki hun hno => by
        refine hfree k ok hk hki ?_ hno
        by_cases hjk : j = k
        · subst hjk; exact hjun
        · rw [getD_set_ne true hjk] at hun; exact hun
      refine wpOp_mono (fun a' w' h3 => ⟨h3.2.1, ih (listed.setIfInBounds j true) a' w' hfree' (ready_mono hr (Ne.symm hji)) h3.1 (h3.2.1.resolve_left hjz) ?_⟩) h2
      rw [Array.setIfInBounds_comm _ _ hji]
      exact h3.2.2
/-- take number i first -/
theorem wpAnyX_take {i : Nat} {oi : Oper} {v : Value} {fuel : Nat} {listed : Array Bool} {a : Act} {w : World} (hi : ops[i]? = some oi)
    (hs : Region.noSelect ops = true) (hf : Region.free md ops listed i = true) (hr : (Region.ready md ops listed).contains i = true) (hz : Region.waitsFor md ops z i = true)
    (hQ : ∀ c a w, Q (.panic c) (a.put oi.dst v) w → Q (.panic c) a w) (hy : YieldsIf P ops S oi v a) (hS : S w)
    (h : wpAnyX P md ops Q S z fuel (listed.setIfInBounds i true) (a.put oi.dst v) w) : wpAnyX P md ops Q S z (fuel + 1) listed a w :=
  wpAnyX_first hi (Region.noSelect_spec hs) hz hQ fuel listed a w (Region.free_spec hi hf) (by simpa using hr) hy hS h
/-- the one that may come up comes up -/
theorem wpAnyX_one {i : Nat} {o : Oper} {fuel : Nat} {listed : Array Bool} {a : Act} {w : World} (hr : Region.ready md ops listed = [i]) (ho : ops[i]? = some o)
    (h : ∀ K' : Act → World → Prop, Shut (∀ a w, (i = z ∨ S w) → wpAnyX P md ops Q S z fuel (listed.setIfInBounds i true) a w → K' a w) → if Region.wanted o (yielded ops a.tmps) = true then Oper.wp P o a w K' Q else K' (a.put o.dst undef) w) :
    wpAnyX P md ops Q S z (fuel + 1) listed a w := by
  refine ⟨fun h0 => (by rw [h0] at hr; cases hr), fun j hj => ?_⟩
  rw [hr] at hj
  rw [List.mem_singleton.1 hj]
  exact wpOp_step ho (fun K' hK => h K' (fun a w hS hW => hK a w ⟨hS, hW⟩))
theorem wpAnyX_done' {fuel : Nat} {listed : Array Bool} {a : Act} {w : World} (hr : Region.ready md ops listed = []) (h : Q .normal a w) : wpAnyX P md ops Q S z fuel listed a w := by
  cases fuel with
  | zero => exact ⟨hr, h⟩
  | succ n => exact ⟨fun _ => h, by rw [hr]; simp⟩
/-- take number i first, its slot told -/
theorem wpAnyX_slot {i d : Nat} {oi : Oper} {v : Value} {fuel : Nat} {listed : Array Bool} {a : Act} {w : World} (hi : ops[i]? = some oi) (hd : oi.dst = some d)
    (hs : Region.noSelect ops = true) (hf : Region.free md ops listed i = true) (hr : (Region.ready md ops listed).contains i = true) (hz : Region.waitsFor md ops z i = true)
    (hQ : ∀ c a w, Q (.panic c) (a.put (some d) v) w → Q (.panic c) a w) (hw : Region.wanted oi (yielded ops a.tmps) = true) (hy : ∀ w, S w → (execOp a.eval oi).run P w = .ok (.value v) w) (hS : S w)
    (h : wpAnyX P md ops Q S z fuel (listed.setIfInBounds i true) (a.put (some d) v) w) : wpAnyX P md ops Q S z (fuel + 1) listed a w :=
  wpAnyX_take hi hs hf hr hz (by rw [hd]; exact hQ) (.inl ⟨hw, hy⟩) hS (by rw [hd]; exact h)
/-- number i alone may come up, and is carried out -/
theorem wpAnyX_next {i : Nat} {o : Oper} {fuel : Nat} {listed : Array Bool} {a : Act} {w : World} (hr : Region.ready md ops listed = [i]) (ho : ops[i]? = some o)
    (h : ∀ K' : Act → World → Prop, Shut (∀ a w, S w → (S w → wpAnyX P md ops Q S z fuel (listed.setIfInBounds i true) a w) → K' a w) → if Region.wanted o (yielded ops a.tmps) = true then Oper.wp P o a w K' Q else K' (a.put o.dst undef) w) :
    wpAnyX P md ops Q S z (fuel + 1) listed a w := wpAnyX_one hr ho fun K' hK => h K' (fun a w hS hW => hK.out a w (.inr hS) (hW hS))
/-- the last one, number z -/
theorem wpAnyX_last {o : Oper} {fuel : Nat} {listed : Array Bool} {a : Act} {w : World} (hr : Region.ready md ops listed = [z]) (ho : ops[z]? = some o) (hr' : Region.ready md ops (listed.setIfInBounds z true) = [])
    (h : ∀ K' : Act → World → Prop, Shut (∀ a w, Q .normal a w → K' a w) → if Region.wanted o (yielded ops a.tmps) = true then Oper.wp P o a w K' Q else K' (a.put o.dst undef) w) :
    wpAnyX P md ops Q S z (fuel + 1) listed a w := wpAnyX_one hr ho fun K' hK => h K' (fun a w hW => hK.out a w (.inl rfl) (wpAnyX_done' hr' hW))
theorem wp_region_X {id : Nat} {a : Act} {w : World} (S : World → Prop) (z : Nat) (hm : P.follows .mixedOrders = true) (hS : S w.drew)
    (h : S w.drew → wpAnyX P .any ops Q S z ops.size (Array.replicate ops.size false) a w.drew) : (Code.region id ops true).wp P Q a w :=
  wp_region_any hm (wpAny_of_X _ _ _ _ (h hS))
end
end Go.Proofs.Ytbkmpoabdnickaa
