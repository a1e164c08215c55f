/- What units of package volume answers: the head's unit, one for each piece of the data, and the mark's. -/
import Derived.Test.YtbcncmampabmfaaDoorMr
import Derived.Test.YtbcncmampabmfaaDoorMm
import Derived.Test.YtbcncmampabmfaaDoorMb
import Derived.Test.YtbcncmampabmfaaDoorMj
namespace Go.Proofs.YtbcncmampabmfaaDoor
open Go.RowKit Go.Shelf
open Pt (Tx)

attribute [local go_sem] Oper.semAt_some

/-- a unit as it lies in a row: its kind, and its load -/
structure Uv where
  kind : Int
  A : Option Addr
  n : Nat
  C : Nat
def cells4 (u : Uv) : List Value := [.int .i64 u.kind, .int .i64 0, .int .i64 0, .slice u.A u.n u.C]
def encU : Enc Uv where
  k := 4
  pos := by decide
  enc u := cells4 u
  len _ := rfl
  one q u hu := by
    simp only [cells4, List.mem_cons, List.not_mem_nil, or_false] at hu
    rcases hu with rfl | rfl | rfl | rfl <;> rfl
theorem infoUnit : (Tryd.prog.info? 42).map (fun i => (i.zero, i.size, i.bytes)) = some (some (.agg #[.int .i64 0, .int .i64 0, .int .i64 0, .slice none 0 0]), 4, 48) := by kernel_rfl
/-- a piece's unit -/
def pu (p : Pc) : Uv := ⟨3, p.A, p.n, p.C⟩
def uvs (Ah : Option Addr) (nh Ch : Nat) (ps : List Pc) : List Uv := ⟨2, Ah, nh, Ch⟩ :: ps.map pu
theorem uvs_snoc (Ah : Option Addr) (nh Ch : Nat) (ps : List Pc) (p : Pc) : uvs Ah nh Ch (ps ++ [p]) = uvs Ah nh Ch ps ++ [pu p] := by simp [uvs]
def UnitsA (ht : Tx) (b off L : Nat) (w : World) (e : Ending) (w' : World) : Prop :=
  ∃ v Ah nh Ch, e = .returned v ∧ encU.Own w' w.heap.size 42 v (uvs Ah nh Ch (pcs b off L (Vo.data L)) ++ [⟨4, none, 0, 0⟩]) ∧ nh = ht.length ∧ nh ≤ Ch ∧ (Ah = none → nh = 0 ∧ Ch = 0) ∧ RdL w' Ah ht (w.heap.size ≤ ·) ∧ Below w.heap.size w w'
theorem four_blocks {w wb : World} {o1 o2 o3 o4 : Obj} (h : wb = (((w.alloc o1).alloc o2).alloc o3).alloc o4) : Below w.heap.size w wb ∧ wb.heap[w.heap.size]? = some o1 ∧ wb.heap[w.heap.size + 1]? = some o2 ∧ wb.heap[w.heap.size + 1 + 1]? = some o3 ∧ wb.heap[w.heap.size + 1 + 1 + 1]? = some o4 ∧ wb.heap.size = w.heap.size + 1 + 1 + 1 + 1 := by
  have s1 : (w.alloc o1).heap.size = w.heap.size + 1 := by simp
  have s2 : ((w.alloc o1).alloc o2).heap.size = w.heap.size + 1 + 1 := by simp
  have s3 : (((w.alloc o1).alloc o2).alloc o3).heap.size = w.heap.size + 1 + 1 + 1 := by simp
  have b1 : Below w.heap.size w (w.alloc o1) := (Below.refl _ _).alloc (Nat.le_refl _) _
  have h1 : (w.alloc o1).heap[w.heap.size]? = some o1 := Go.Deep.blk_alloc_new _ _
  have h2 := Go.Deep.blk_alloc_new (w.alloc o1) o2
  have h3 := Go.Deep.blk_alloc_new ((w.alloc o1).alloc o2) o3
  have h4 := Go.Deep.blk_alloc_new (((w.alloc o1).alloc o2).alloc o3) o4
  rw [s1] at h2
  rw [s2] at h3
  rw [s3] at h4
  have up : ∀ (x : World) (o o' : Obj) (i : Nat), x.heap[i]? = some o' → (x.alloc o).heap[i]? = some o' := fun x o o' i hi => (Below.heap_alloc _ _ _ (heap_lt hi)).trans hi
  subst h
  exact ⟨((b1.alloc b1.size _).alloc (by rw [s2]; omega) _).alloc (by rw [s3]; omega) _, up _ _ _ _ (up _ _ _ _ (up _ _ _ _ h1)), up _ _ _ _ (up _ _ _ _ h2), up _ _ _ _ h3, h4, by simp⟩
/-- one struct in a block of its own -/
theorem Enc.Own.one {α : Type} {E : Enc α} {w : World} {base g : Nat} {t : TypeId} {x : α} (h : w.heap[g]? = some (.cells (E.enc x).toArray t)) (hb : base ≤ g) : E.Own w base t (.slice (some ⟨g, 0, none⟩) 1 1) [x] := by
  refine ⟨E.cells_len [x], .inr ⟨g, 1, _, rfl, hb, h, Nat.le_refl _, by decide, ?_, ?_⟩⟩
  · rw [List.size_toArray, E.len]; omega
  · rw [E.cells_one, List.length_singleton, Nat.one_mul]
    show (E.enc x).take E.k = E.enc x
    exact List.take_of_length_le (by rw [E.len]; exact Nat.le_refl _)
theorem own_lower {w : World} {B B' : Nat} {t : TypeId} {k n : Nat} {v : Value} {xs : List Value} (h : w.ownsRow B t k v n xs) (hb : B' ≤ B) : w.ownsRow B' t k v n xs := by
  refine ⟨h.1, ?_⟩
  rcases h.2 with h0 | ⟨g, cap, cur, e, hg, r⟩
  · exact .inl h0
  · exact .inr ⟨g, cap, cur, e, Nat.le_trans hb hg, r⟩
theorem two_putObj {Bs Bn : Nat} {w : World} (h1 : Bs < w.heap.size) (h2 : Bn < w.heap.size) (W : World) (l : Nat) (o o' : Obj) (hl : w.heap.size ≤ l) (_ : W.heap[l]? = some o) (_ : o.isCells = false) (_ : o.isWalk = false) : Two Bs Bn W (W.putObj l o') :=
  ⟨World.cell?_of_block (World.putObj_heap_other (by first | (show Bs ≠ l; omega) | (show l ≠ Bs; omega))), World.cell?_of_block (World.putObj_heap_other (by first | (show Bn ≠ l; omega) | (show l ≠ Bn; omega)))⟩
set_option maxRecDepth 100000 in
set_option maxHeartbeats 4000000 in
theorem units_in (n : Nat) (hn : 4 ≤ n) (p : Tx) (v z f l s m : Int) (g : Bool) (A : Option Addr) (b off L C : Nat) (w : World) (hp : p.length ≤ maxLen) (hk : Kept w) (hL : L ≤ 1000000) (hC : L ≤ C) (hA : 0 < L → A = some ⟨b, off, none⟩) :
    CallsIn Fence.wide n Tryd.prog 19 #[.agg #[.string (tx p), .int .i64 v, .int .i64 z, .int .i64 f, .int .i64 l, .int .i64 s, .int .i64 m, .bool g], .slice A L C] w (UnitsA (Rc.put ⟨p, v, z, f, l, s, m, g⟩) b off L w) := by
  have h1 : 1 ≤ n := by omega
  obtain ⟨ht, hht⟩ : ∃ ht, ht = Rc.put ⟨p, v, z, f, l, s, m, g⟩ := ⟨_, rfl⟩
  obtain ⟨wa, hwa⟩ : ∃ wa, wa = w.alloc (headObj p v z f l s m g) := ⟨_, rfl⟩
  have hB : Below w.heap.size w wa := by rw [hwa]; exact (Below.refl _ _).alloc (Nat.le_refl _) _
  have hcall := headBytes_any p v z f l s m g wa hp (hk.old hB)
  rw [← hht] at hcall ⊢
  have HC := Lib.hid hcall
  have HB := Lib.hid hB
  have HW := Lib.hid hwa
  unfold headObj at HW
  have HHT := Lib.hid hht
  clear hcall hB hwa hk hht
  refine callsIn_of_wp_marks Tryd.func19 rfl trivial ?_ rfl
  simp only [Tryd.ntmps19, List.size_toArray, List.length_cons, List.length_nil, Nat.reduceAdd, Nat.reduceSub, Array.replicate_succ, Array.replicate_zero, List.push_toArray, List.append_toArray, List.nil_append, List.cons_append]
  gi_wp2_with (first
    | (refine ⟨trivial, ?_⟩; gi_at_call 40; rw [← HW.out]; refine (callsIn_wide.2 HC.out).mono ?_; rintro e w1 ⟨Ah, nh, Ch, rfl, hnh, hch, hcm, hz, hr, hb1⟩; have HNH := Lib.hid hnh; clear hnh)
    | (refine ⟨trivial, ?_⟩; gi_at_call 41; refine (chunk_in (n - 1) A L C _).mono ?_; rintro e w' ⟨rfl, rfl⟩))
  obtain ⟨w3, hw3⟩ : ∃ w3, w3 = (((w1.alloc (.cells #[.int .i64 2, .int .i64 0, .int .i64 0, .slice Ah nh Ch] 42)).alloc (.cells #[.slice (some ⟨w1.heap.size, 0, none⟩) 1 1] 54)).alloc (.cells #[.slice A L C] 24)).alloc (.cells #[.int .i64 64] 3) := ⟨_, rfl⟩
  rw [← hw3]
  obtain ⟨hb3, k1, k2, k3, k4, hsz⟩ := four_blocks hw3
  have hO : encU.Own w3 w1.heap.size 42 (.slice (some ⟨w1.heap.size, 0, none⟩) 1 1) (uvs Ah nh Ch []) := Enc.Own.one (E := encU) (x := ⟨2, Ah, nh, Ch⟩) k1 (Nat.le_refl _)
  have c3 : w3.cell? ⟨w1.heap.size + 1 + 1, 0, none⟩ = some (.slice A L C) := heap_cell k3
  have c4 : w3.cell? ⟨w1.heap.size + 1 + 1 + 1, 0, none⟩ = some (.int .i64 64) := heap_cell k4
  have hle : Vo.data L ≤ L + 1 := by unfold Vo.data; omega
  have HB1 := Lib.hid (HB.out.trans (hb1.mono HB.out.size))
  have HR := Lib.hid (hr.mono fun x hx => Nat.le_trans HB.out.size hx)
  clear hw3 hb1 hr HC HW HB
  refine wpIn_rangeFunc_ownF rfl h1 (gf := 57) (lb := #[.pointer (some ⟨w1.heap.size + 1 + 1, 0, none⟩), .pointer (some ⟨w1.heap.size + 1 + 1 + 1, 0, none⟩)]) rfl trivial (enters_of Tryd.func57 (by kernel_rfl) rfl)
    (chunk_stops (n - 1) (by omega) (w1.heap.size + 1 + 1) (w1.heap.size + 1 + 1 + 1) L C b off A hL hC hA w3 (by omega) (by omega) c3 c4) Two.trans (two_putObj (by omega) (by omega)) (Below.refl _ _) (fun _ => rfl)
    (fun pre W => (∃ v, Boxed W (w1.heap.size + 1) 54 v ∧ W.ownsRow w1.heap.size 42 4 v (uvs Ah nh Ch pre).length (encU.cells (uvs Ah nh Ch pre)) ∧ True) ∧ Below w1.heap.size w1 W ∧ Boxed W (w1.heap.size + 1 + 1) 24 (.slice A L C) ∧ Boxed W (w1.heap.size + 1 + 1 + 1) 3 (.int .i64 64))
    (fun _ _ _ => False)
    (OwnFrom.and (Own.from (holdsRow_own w1.heap.size (w1.heap.size + 1) 54 42 4 (fun pre => (uvs Ah nh Ch pre).length) (fun pre => encU.cells (uvs Ah nh Ch pre)) (fun _ _ => True)) _) (OwnFrom.and (ownFrom_below (Nat.le_refl _) (by omega)) (OwnFrom.and (Own.from (boxed_own (w1.heap.size + 1 + 1) 24 (fun _ => .slice A L C)) _) (Own.from (boxed_own (w1.heap.size + 1 + 1 + 1) 3 (fun _ => .int .i64 64)) _))))
    (fun _ _ _ _ _ hs _ _ => hs)
    ⟨⟨_, k2, hO, trivial⟩, hb3, k3, k4⟩
    (fun x => { tmps := #[.agg #[.string (tx p), .int .i64 v, .int .i64 z, .int .i64 f, .int .i64 l, .int .i64 s, .int .i64 m, .bool g], .slice A L C, .pointer (some ⟨w.heap.size, 0, none⟩), undef, .slice none 0 0, .pointer (some ⟨w1.heap.size + 1, 0, none⟩), .slice x.A x.n x.C,
      .agg #[.string (tx p), .int .i64 v, .int .i64 z, .int .i64 f, .int .i64 l, .int .i64 s, .int .i64 m, .bool g], .slice Ah nh Ch, .agg #[.int .i64 2, .int .i64 0, .int .i64 0, .slice Ah nh Ch], .slice (some ⟨w1.heap.size, 0, none⟩) 1 1, .slice A L C,
      .func (.func 57) #[] #[.pointer (some ⟨w1.heap.size + 1 + 1, 0, none⟩), .pointer (some ⟨w1.heap.size + 1 + 1 + 1, 0, none⟩)], .slice x.A x.n x.C, undef, undef, undef, undef, undef, undef, undef, undef, undef], defers := [] }) ?assign ?body ?done ?stop
  case assign =>
    intro l x W K hK
    gi_wp2
    exact hK
  case body =>
    rintro l pre x W ⟨⟨vv, hv, hrow, -⟩, hBw, hs1, hs2⟩ hlt
    have hc := hv.cell
    have HUL : Hid ((uvs Ah nh Ch pre).length = pre.length + 1) := Lib.hid (by simp [uvs])
    obtain ⟨i0, hi, hz0, hz1, hz2⟩ := info_parts infoUnit
    gi_wp2_with (gi_at_builtin; refine wpListIn_append_own _ rfl _ _ 54 rfl w1.heap.size 42 i0 _ 4 48 Tryd.underlying54 hi hz0 hz1 hz2 rfl (by decide) _ _ _ rfl (hrow.alloc _) ⟨W.heap.size, 0, none⟩ 1 1 (cells4 (pu x)) rfl rfl (newCells W (cells4 (pu x)) _) (encU.one (pu x)) (by unfold maxLen; have := HUL.out; omega) (by have := HUL.out; omega) (by have := hBw.size; simp; omega) ?_; intro v' w4 hown' hgrow _; obtain ⟨g', cap', rfl⟩ := ownsRow_succ hown'; obtain ⟨hv1, hv2, hr2, hk2, hb2⟩ := hv.appended (by decide) hrow hBw.size (Nat.le_succ _) hown' hgrow; have hc1 := hv1.cell; have hf1 := hv1.frozen; have hs3 := ((hs1.alloc _).kept hgrow (hs1.not_row (by decide) hrow)).other (B' := w1.heap.size + 1) (by omega) (.slice (some ⟨g', 0, none⟩) ((uvs Ah nh Ch pre).length + 1) cap'); have hs4 := ((hs2.alloc _).kept hgrow (hs2.not_row (by decide) hrow)).other (B' := w1.heap.size + 1) (by omega) (.slice (some ⟨g', 0, none⟩) ((uvs Ah nh Ch pre).length + 1) cap'))
    exact ⟨hk2, ⟨hs3.cell.trans hs1.cell.symm, hs4.cell.trans hs2.cell.symm⟩, ⟨⟨_, hv2, by rw [uvs_snoc, encU.cells_append, encU.cells_one, List.length_append]; exact hr2, trivial⟩, hBw.trans hb2, hs3, hs4⟩⟩
  case done =>
    rintro D ys W hD rfl ⟨⟨vv, hv, hrow, -⟩, hBw, -, -⟩ hK
    have hc := hv.cell
    have HUL : Hid ((uvs Ah nh Ch (pcs b off L (Vo.data L))).length = Vo.data L + 1) := Lib.hid (by simp [uvs, pcs])
    obtain ⟨i0, hi, hz0, hz1, hz2⟩ := info_parts infoUnit
    gi_wp2_with (gi_at_builtin; refine wpListIn_append_own _ rfl _ _ 54 rfl w1.heap.size 42 i0 _ 4 48 Tryd.underlying54 hi hz0 hz1 hz2 rfl (by decide) _ _ _ rfl (hrow.alloc _) ⟨W.heap.size, 0, none⟩ 1 1 (cells4 ⟨4, none, 0, 0⟩) rfl rfl (newCells W (cells4 ⟨4, none, 0, 0⟩) _) (encU.one ⟨4, none, 0, 0⟩) (by unfold maxLen; have := HUL.out; omega) (by have := HUL.out; omega) (by have := hBw.size; simp; omega) ?_; intro v' w4 hown' hgrow _)
    have hg' : (W.alloc (.cells (cells4 ⟨4, none, 0, 0⟩).toArray 42)).grownBy w4 vv.ownBlock := hgrow
    have hkeep : KeepsOthers W w4 := (KeepsOthers.alloc W _).trans (KeepsOthers.of_grownBy hg' fun j o ej hj => by
      obtain ⟨c, hcb⟩ := Enc.Own.block (E := encU) (l := uvs Ah nh Ch (pcs b off L (Vo.data L))) hrow j ej
      rw [(Below.heap_alloc W _ j (heap_lt hcb)).trans hcb] at hj
      cases hj; rfl)
    have hK4 := hkeep.same D _ hK rfl
    have hB4 : Below w1.heap.size w1 w4 := (hBw.alloc hBw.size _).grown hg' (by have := hBw.size; simp; omega) (fun x hx => (Enc.Own.lt (E := encU) (l := uvs Ah nh Ch (pcs b off L (Vo.data L))) hrow x hx).1)
    have hB5 : Below w1.heap.size w1 (w4.putObj D (.deferred none)) := hB4.trans (belowK_b (w := w1) (Nat.le_refl _) w4 D _ _ (by omega) hK4 rfl rfl)
    have hO5 := ownsRow_putObj hown' (.deferred none) hK4 rfl
    refine ⟨by simp, .inl ⟨_, _, rfl, run_takeDeferred hK4, ?_⟩⟩
    refine ⟨_, results_tmp rfl _ _ _, v', Ah, nh, Ch, rfl, ?_, HNH.out, hch, hz, HR.out.old hB5, HB1.out.trans (hB5.mono HB1.out.size)⟩
    unfold Enc.Own
    rw [encU.cells_append, encU.cells_one, List.length_append]
    exact own_lower hO5 HB1.out.size
  case stop =>
    rintro D c pre W _ _ h _
    exact h.elim
theorem units_any (p : Tx) (v z f l s m : Int) (g : Bool) (A : Option Addr) (b off L C : Nat) (w : World) (hp : p.length ≤ maxLen) (hk : Kept w) (hL : L ≤ 1000000) (hC : L ≤ C) (hA : 0 < L → A = some ⟨b, off, none⟩) :
    Calls Tryd.prog 19 #[.agg #[.string (tx p), .int .i64 v, .int .i64 z, .int .i64 f, .int .i64 l, .int .i64 s, .int .i64 m, .bool g], .slice A L C] w (UnitsA (Rc.put ⟨p, v, z, f, l, s, m, g⟩) b off L w) :=
  callsIn_wide.1 (units_in 8 (by decide) p v z f l s m g A b off L C w hp hk hL hC hA)
end Go.Proofs.YtbcncmampabmfaaDoor
