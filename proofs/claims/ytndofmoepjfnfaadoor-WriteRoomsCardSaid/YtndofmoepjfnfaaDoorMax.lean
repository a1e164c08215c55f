/- A region that draws its order, loads a cell, and stores into that cell at its end: what holds of the world is asked behind every operation but that store. No function of the program. What byTape of package write answers: the blocks of the steps, those of each tape in a row of their own. A drive of package tape in memory. No function of the program. What a drive's Append does; []byte of a text. -/
import Derived.Test.YtndofmoepjfnfaaDoorChecked
import Derived.Deep.RegionHeld
import Derived.StillTail
import Derived.Says
import Derived.Test.YtndofmoepjfnfaaDoorWkMath
import Derived.Test.YtndofmoepjfnfaaDoorMav
import Derived.Test.YtndofmoepjfnfaaDoorMap
import Derived.Test.YtndofmoepjfnfaaDoorMai
import Derived.Deep.AppendLies
import Derived.Deep.RegionHeld3
import Derived.Deep.DeepFit
import Derived.Deep.DeepCutAuto
import Derived.BigQuiet
import Derived.Deep.QuietTactic
import Derived.Test.YtndofmoepjfnfaaDoorMal
import Derived.Test.YtndofmoepjfnfaaDoorTpMath
import Derived.OwnWalk
import Derived.Handy
import Derived.WalkSpells
import Derived.WalkLawsBesides
import Derived.StillTailTactics
import Derived.Lib.SliceRun
import Derived.Laws.IdiomCopy
import Derived.Lib.ConvBytes
namespace Go.Proofs.YtndofmoepjfnfaaDoor

section
variable {P : Program} {ops : Array Oper} {Q : Exit → Act → World → Prop} {md : Region.Mode} {S : World → Prop} {z : Nat}

/-- whatever order is picked from here on; S holds behind each operation but z -/
def wpAnyX (P : Program) (md : Region.Mode) (ops : Array Oper) (Q : Exit → Act → World → Prop) (S : World → Prop) (z : Nat) : Nat → Array Bool → Act → World → Prop
  | 0, listed, a, w => Region.ready md ops listed = [] ∧ Q .normal a w
  | fuel + 1, listed, a, w =>
    (Region.ready md ops listed = [] → Q .normal a w) ∧
    ∀ i ∈ Region.ready md ops listed, wpOp P ops Q i (fun a' w' => (i = z ∨ S w') ∧ wpAnyX P md ops Q S z fuel (listed.setIfInBounds i true) a' w') a w
theorem wpAny_of_X : ∀ (fuel : Nat) (listed : Array Bool) (a : Act) (w : World), wpAnyX P md ops Q S z fuel listed a w → wpAny P md ops Q fuel listed a w
  | 0, _, _, _, h => h
  | fuel + 1, _, _, _, h => ⟨h.1, fun i hi => wpOp_mono (fun a' w' h' => wpAny_of_X fuel _ a' w' h'.2) (h.2 i hi)⟩
theorem wpAnyX_first {i : Nat} {oi : Oper} {v : Value} (hi : ops[i]? = some oi) (hsel : ∀ (j : Nat) (o : Oper) cs b, ops[j]? = some o → o.op ≠ .select cs b) (hz : Region.waitsFor md ops z i = true)
    (hQ : ∀ c a w, Q (.panic c) (a.put oi.dst v) w → Q (.panic c) a w) :
    ∀ (fuel : Nat) (listed : Array Bool) (a : Act) (w : World),
      (∀ j oj, ops[j]? = some oj → j ≠ i → listed.getD j true = false → (∀ e ∈ oj.after, Region.binds md e = true → e.on ≠ i) → oi.apart ops oj = true) →
      i ∈ Region.ready md ops listed → YieldsIf P ops S oi v a → S w →
      wpAnyX P md ops Q S z fuel (listed.setIfInBounds i true) (a.put oi.dst v) w → wpAnyX P md ops Q S z (fuel + 1) listed a w := by
  intro fuel
  induction fuel with
  | zero =>
    intro listed a w _ hr hy hS H
    refine ⟨fun h => (by rw [h] at hr; cases hr), fun j hj => ?_⟩
    by_cases hji : j = i
    · subst hji; exact hy.wpOp hi hS ⟨.inr hS, H⟩
    · have := ready_mono hj hji
      rw [H.1] at this
      cases this
  | succ fuel ih =>
    intro listed a w hfree hr hy hS H
    refine ⟨fun h => (by rw [h] at hr; cases hr), fun j hj => ?_⟩
    by_cases hji : j = i
    · subst hji; exact hy.wpOp hi hS ⟨.inr hS, H⟩
    · have h1 := H.2 j (ready_mono hj hji)
      obtain ⟨hjun, oj, hoj, hall⟩ := mem_ready.1 hj
      have hun : listed.getD i false = false := getD_both (mem_ready.1 hr).1
      have hnot : ∀ e ∈ oj.after, Region.binds md e = true → e.on ≠ i := fun e he hb heq => by
        have h1 := hall e he hb
        rw [heq, hun] at h1
        cases h1
      have hjz : j ≠ z := fun e => by
        subst e
        obtain ⟨oz, hoz, e, he, hb, hon⟩ := Region.waitsFor_spec hz
        have : oz = oj := Option.some.inj (hoz.symm.trans hoj)
        subst this
        exact hnot e he hb hon
      have h2 := wpOp_putIf hoj (hfree j oj hoj hji hjun hnot) (fun cs b => hsel i oi cs b hi) (fun cs b => hsel j oj cs b hoj) hQ hy h1
      have hfree' : ∀ k ok, ops[k]? = some ok → k ≠ i → (listed.setIfInBounds j true).getD k true = false →
          (∀ e ∈ ok.after, Region.binds md e = true → e.on ≠ i) → oi.apart ops ok = true := fun k ok hk hki hun hno => by
        refine hfree k ok hk hki ?_ hno
        by_cases hjk : j = k
        · subst hjk; exact hjun
        · rw [getD_set_ne true hjk] at hun; exact hun
      refine wpOp_mono (fun a' w' h3 => ⟨h3.2.1, ih (listed.setIfInBounds j true) a' w' hfree' (ready_mono hr (Ne.symm hji)) h3.1 (h3.2.1.resolve_left hjz) ?_⟩) h2
      rw [Array.setIfInBounds_comm _ _ hji]
      exact h3.2.2
/-- take number i first -/
theorem wpAnyX_take {i : Nat} {oi : Oper} {v : Value} {fuel : Nat} {listed : Array Bool} {a : Act} {w : World} (hi : ops[i]? = some oi)
    (hs : Region.noSelect ops = true) (hf : Region.free md ops listed i = true) (hr : (Region.ready md ops listed).contains i = true) (hz : Region.waitsFor md ops z i = true)
    (hQ : ∀ c a w, Q (.panic c) (a.put oi.dst v) w → Q (.panic c) a w) (hy : YieldsIf P ops S oi v a) (hS : S w)
    (h : wpAnyX P md ops Q S z fuel (listed.setIfInBounds i true) (a.put oi.dst v) w) : wpAnyX P md ops Q S z (fuel + 1) listed a w :=
  wpAnyX_first hi (Region.noSelect_spec hs) hz hQ fuel listed a w (Region.free_spec hi hf) (by simpa using hr) hy hS h
/-- the one that may come up comes up -/
theorem wpAnyX_one {i : Nat} {o : Oper} {fuel : Nat} {listed : Array Bool} {a : Act} {w : World} (hr : Region.ready md ops listed = [i]) (ho : ops[i]? = some o)
    (h : ∀ K' : Act → World → Prop, Shut (∀ a w, (i = z ∨ S w) → wpAnyX P md ops Q S z fuel (listed.setIfInBounds i true) a w → K' a w) → if Region.wanted o (yielded ops a.tmps) = true then Oper.wp P o a w K' Q else K' (a.put o.dst undef) w) :
    wpAnyX P md ops Q S z (fuel + 1) listed a w := by
  refine ⟨fun h0 => (by rw [h0] at hr; cases hr), fun j hj => ?_⟩
  rw [hr] at hj
  rw [List.mem_singleton.1 hj]
  exact wpOp_step ho (fun K' hK => h K' (fun a w hS hW => hK a w ⟨hS, hW⟩))
theorem wpAnyX_done' {fuel : Nat} {listed : Array Bool} {a : Act} {w : World} (hr : Region.ready md ops listed = []) (h : Q .normal a w) : wpAnyX P md ops Q S z fuel listed a w := by
  cases fuel with
  | zero => exact ⟨hr, h⟩
  | succ n => exact ⟨fun _ => h, by rw [hr]; simp⟩
/-- take number i first, its slot told -/
theorem wpAnyX_slot {i d : Nat} {oi : Oper} {v : Value} {fuel : Nat} {listed : Array Bool} {a : Act} {w : World} (hi : ops[i]? = some oi) (hd : oi.dst = some d)
    (hs : Region.noSelect ops = true) (hf : Region.free md ops listed i = true) (hr : (Region.ready md ops listed).contains i = true) (hz : Region.waitsFor md ops z i = true)
    (hQ : ∀ c a w, Q (.panic c) (a.put (some d) v) w → Q (.panic c) a w) (hw : Region.wanted oi (yielded ops a.tmps) = true) (hy : ∀ w, S w → (execOp a.eval oi).run P w = .ok (.value v) w) (hS : S w)
    (h : wpAnyX P md ops Q S z fuel (listed.setIfInBounds i true) (a.put (some d) v) w) : wpAnyX P md ops Q S z (fuel + 1) listed a w :=
  wpAnyX_take hi hs hf hr hz (by rw [hd]; exact hQ) (.inl ⟨hw, hy⟩) hS (by rw [hd]; exact h)
/-- number i alone may come up, and is carried out -/
theorem wpAnyX_next {i : Nat} {o : Oper} {fuel : Nat} {listed : Array Bool} {a : Act} {w : World} (hr : Region.ready md ops listed = [i]) (ho : ops[i]? = some o)
    (h : ∀ K' : Act → World → Prop, Shut (∀ a w, S w → (S w → wpAnyX P md ops Q S z fuel (listed.setIfInBounds i true) a w) → K' a w) → if Region.wanted o (yielded ops a.tmps) = true then Oper.wp P o a w K' Q else K' (a.put o.dst undef) w) :
    wpAnyX P md ops Q S z (fuel + 1) listed a w := wpAnyX_one hr ho fun K' hK => h K' (fun a w hS hW => hK.out a w (.inr hS) (hW hS))
/-- the last one, number z -/
theorem wpAnyX_last {o : Oper} {fuel : Nat} {listed : Array Bool} {a : Act} {w : World} (hr : Region.ready md ops listed = [z]) (ho : ops[z]? = some o) (hr' : Region.ready md ops (listed.setIfInBounds z true) = [])
    (h : ∀ K' : Act → World → Prop, Shut (∀ a w, Q .normal a w → K' a w) → if Region.wanted o (yielded ops a.tmps) = true then Oper.wp P o a w K' Q else K' (a.put o.dst undef) w) :
    wpAnyX P md ops Q S z (fuel + 1) listed a w := wpAnyX_one hr ho fun K' hK => h K' (fun a w hW => hK.out a w (.inl rfl) (wpAnyX_done' hr' hW))
theorem wp_region_X {id : Nat} {a : Act} {w : World} (S : World → Prop) (z : Nat) (hm : P.follows .mixedOrders = true) (hS : S w.drew)
    (h : S w.drew → wpAnyX P .any ops Q S z ops.size (Array.replicate ops.size false) a w.drew) : (Code.region id ops true).wp P Q a w :=
  wp_region_any hm (wpAny_of_X _ _ _ _ (h hS))
end
end Go.Proofs.YtndofmoepjfnfaaDoor
namespace Go.Proofs.YtndofmoepjfnfaaDoor
open Go.RowKit
open Pt (Tx)

theorem infoTen : (Tryd.prog.info? 33).map (fun i => (i.zero, i.size, i.bytes)) = some (some (.slice none 0 0), 1, 24) := by kernel_rfl
/-- append of one row, and where it lies -/
theorem liesK_run (w : World) (base : Nat) (v : Value) (n : Nat) (us : List Value) (hown : w.ownsRow base 26 1 v n us) (hl : n ≤ 1000000) (ad : Addr) (c : Nat) (x : Value) (hx : x.oneCell' = true) (hc : ∀ j u, [x][j]? = some u → w.cell? (ad.add j) = some u) (hbase : base ≤ w.heap.size) :
    ∃ g cap w', (∀ ty, (Builtin.append_ #[33, 33] ty #[v, .slice (some ad) 1 c]).run Tryd.prog w = .ok (.slice (some ⟨g, 0, none⟩) (n + 1) cap) w') ∧ w'.ownsRow base 26 1 (.slice (some ⟨g, 0, none⟩) (n + 1) cap) (n + 1) (us ++ [x]) ∧ w.grownBy w' v.ownBlock ∧ (v.ownBlock = some g ∨ g = w.heap.size) := by
  obtain ⟨i0, hi, hz0, hz1, hz2⟩ := info_parts infoRowT
  obtain ⟨g, cap, w', h1, h2, h3, h4, _⟩ := run_append_lies (P := Tryd.prog) (w := w) 33 3 base 26 i0 (.slice none 0 0) 1 24 Tryd.underlying33 hi hz0 hz1 hz2 rfl (by decide) v n us hown ad 1 c [x] rfl hc (by simpa using hx) (by decide) (by unfold maxLen; omega) (by omega) hbase w.heap.size rfl
  exact ⟨g, cap, w', fun ty => h1, h2, h3, h4⟩
/-- rows of rows in a made row: each made longer by append; the rows' bytes are older than B -/
structure ByT (B g n : Nat) (f : Nat → List Tx) (x : World) : Prop where
  lo : B ≤ g
  ex : ∃ V, RowV x 33 g n V ∧ (∀ i, i < n → ∃ us, x.ownsRow B 26 1 (V i) (f i).length us ∧ ∀ j (hj : j < (f i).length), ∃ A' C', us[j]? = some (.slice A' (f i)[j].length C') ∧ (f i)[j].length ≤ C' ∧ (A' = none → (f i)[j].length = 0 ∧ C' = 0) ∧ RdL x A' (f i)[j] (· < B)) ∧ ∀ i j, i < n → j < n → ∀ k, (V i).ownBlock = some k → (V j).ownBlock = some k → i = j
namespace ByT
variable {B g n : Nat} {f : Nat → List Tx} {x y : World}
theorem old (h : ByT B g n f x) (hb : Below x.heap.size x y) : ByT B g n f y := by
  obtain ⟨V, h1, h2, h3⟩ := h.ex
  refine ⟨h.lo, V, h1.old hb, fun i hi => ?_, h3⟩
  obtain ⟨us, ho, hr⟩ := h2 i hi
  refine ⟨us, own_of ho fun k e => hb.block k (ho.lt k e).2, fun j hj => ?_⟩
  obtain ⟨A', C', e1, e2, e3, e4⟩ := hr j hj
  exact ⟨A', C', e1, e2, e3, e4.old hb⟩
theorem lt (h : ByT B g n f x) : g < x.heap.size := by obtain ⟨V, h1, -, -⟩ := h.ex; exact h1.lt
/-- as it is made -/
theorem start {w : World} (hB : B ≤ w.heap.size) : ByT B w.heap.size n (fun _ => []) (w.alloc (.cells (madeCells #[.slice none 0 0] n) 33)) :=
  ⟨hB, fun _ => .slice none 0 0, RowV.made w _ _ n, fun i _ => ⟨[], World.ownsRow_nil _ _ _ _, fun j hj => absurd hj (by simp)⟩, fun i j _ _ k e => by cases e⟩
/-- one of them, as what reads -/
theorem at_ (h : ByT B g n f x) {i : Nat} (hi : i < n) : ∃ A C, x.cell? ⟨g, i, none⟩ = some (.slice A (f i).length C) ∧ RdB x A (f i) (fun _ => True) := by
  obtain ⟨V, h1, h2, -⟩ := h.ex
  obtain ⟨us, ho, hr⟩ := h2 i hi
  rcases ho.2 with ⟨e, h0⟩ | ⟨q, cap, cur, e, hb, hg, hnc, _, hs, ht⟩
  · refine ⟨none, 0, by rw [h1.cell hi, e, h0], fun hn => by omega⟩
  · refine ⟨some ⟨q, 0, none⟩, cap, by rw [h1.cell hi, e], fun _ => ⟨q, 0, rfl, trivial, fun j hj => ?_⟩⟩
    obtain ⟨A', C', e1, e2, e3, e4⟩ := hr j hj
    refine ⟨A', C', ?_, e2, e3, e4.mono fun _ _ => trivial⟩
    rw [← ht, List.getElem?_take, if_pos (by omega), Array.getElem?_toList] at e1
    rw [Nat.zero_add, heap_cell hg]; exact e1
/-- one more row for one of them -/
theorem push (h : ByT B g n f x) {j : Nat} (hj : j < n) (hl : (f j).length ≤ 1000000) (hB : B ≤ x.heap.size) {A' : Option Addr} {N C' : Nat} {s : Tx} (hN : N = s.length) (h1 : N ≤ C') (h2 : A' = none → N = 0 ∧ C' = 0) (h3 : RdL x A' s (· < B)) :
    ∃ v, x.cell? ⟨g, j, none⟩ = some v ∧ ∀ y, Below x.heap.size x y → ∃ q cp w3 old, (∀ ty, (Builtin.append_ #[33, 33] ty #[v, .slice (some ⟨y.heap.size, 0, none⟩) 1 1]).run Tryd.prog (y.alloc (.cells #[.slice A' N C'] 26)) = .ok (.slice (some ⟨q, 0, none⟩) ((f j).length + 1) cp) w3)
      ∧ w3.cell? ⟨g, j, none⟩ = some old ∧ w3.frozen? ⟨g, j, none⟩ = false ∧ old = v ∧ (∀ (k : Nat) (c : Array Value) (T : TypeId), x.heap[k]? = some (.cells c T (0, 0)) → T ≠ 26 → w3.heap[k]? = x.heap[k]?)
      ∧ ByT B g n (fun i => if i = j then f j ++ [s] else f i) (w3.setCell ⟨g, j, none⟩ (.slice (some ⟨q, 0, none⟩) ((f j).length + 1) cp)) ∧ Below B x (w3.setCell ⟨g, j, none⟩ (.slice (some ⟨q, 0, none⟩) ((f j).length + 1) cp)) := by
  obtain ⟨V, hV, hrows, hinj⟩ := h.ex
  refine ⟨V j, hV.cell hj, fun y hy => ?_⟩
  obtain ⟨us, ho, hr⟩ := hrows j hj
  have hlen : us.length = (f j).length := by have := ho.1; omega
  obtain ⟨ya, hya⟩ : ∃ ya, ya = y.alloc (.cells #[.slice A' N C'] 26) := ⟨_, rfl⟩
  have hxa : Below x.heap.size x ya := by rw [hya]; exact hy.alloc hy.size _
  have hoa : ya.ownsRow B 26 1 (V j) (f j).length us := own_of ho fun k e => hxa.block k (ho.lt k e).2
  obtain ⟨q, cp, w3, hrun, hown, hgr, hat⟩ := liesK_run ya B (V j) (f j).length us hoa hl ⟨y.heap.size, 0, none⟩ 1 (.slice A' N C') rfl (by rw [hya]; exact oneCellT y _ _) (by have := hxa.size; omega)
  rw [← hya]
  have hRVa := hV.old hxa
  -- blocks of other rows, and of other types, are as they were
  have k2 : ∀ k, k < x.heap.size → (V j).ownBlock ≠ some k → w3.heap[k]? = x.heap[k]? := fun k hk hne =>
    (hgr.block k (Nat.lt_of_lt_of_le hk hxa.size) (fun e => hne e.symm)).trans (hxa.block k hk)
  have kT : ∀ (k : Nat) (c : Array Value) (T : TypeId), x.heap[k]? = some (.cells c T (0, 0)) → T ≠ 26 → w3.heap[k]? = x.heap[k]? := fun k c T hk hT => k2 k (heap_lt hk) fun e => by
    obtain ⟨c', hc'⟩ := own_blk ho k e
    rw [hk] at hc'
    injection hc' with hc'
    injection hc' with _ e2
    exact hT e2
  obtain ⟨cg, hgc, -⟩ := id hV
  have hV3 : RowV w3 33 g n V := hV.of_block (kT g _ _ hgc (by decide))
  have hqg : q ≠ g := fun e => by
    obtain ⟨c', hc'⟩ := own_blk hown q rfl
    obtain ⟨c2, hc2, -⟩ := id hV3
    rw [e, hc2] at hc'
    injection hc' with hc'
    injection hc' with _ e2
    exact absurd e2 (by decide)
  have kS : ∀ k, k ≠ g → ∀ v, (w3.setCell ⟨g, j, none⟩ v).heap[k]? = w3.heap[k]? := fun k hk v => Below.heap_setCell _ _ _ _ (fun e => hk e)
  have hkp3 : Kp (fun k => (V j).ownBlock = some k) x w3 := ⟨hgr.os.trans hxa.os, hgr.tape.trans hxa.tape, hgr.output.trans hxa.output, Nat.le_trans hxa.size hgr.size, fun k hk hs => k2 k hk hs⟩
  have hkp4 := hkp3.mono (T := fun k => (V j).ownBlock = some k ∨ k = g) (fun k hk => .inl hk)
  have hkp : Kp (fun k => (V j).ownBlock = some k ∨ k = g) x (w3.setCell ⟨g, j, none⟩ (.slice (some ⟨q, 0, none⟩) ((f j).length + 1) cp)) := hkp4.trans ((Kp.store _ _ _ _).mono fun k hk => .inr hk)
  have hloB : ∀ k, ((V j).ownBlock = some k ∨ k = g) → B ≤ k := fun k hk => by
    rcases hk with hk | hk
    · exact (ho.lt k hk).1
    · rw [hk]; exact h.lo
  refine ⟨q, cp, w3, V j, hrun, hV3.cell hj, hV3.frozen j, rfl, kT, ⟨h.lo, fun i => if i = j then .slice (some ⟨q, 0, none⟩) ((f j).length + 1) cp else V i, hV3.set j _, fun i hi => ?_, fun i i' hi hi' k e e' => ?_⟩, hkp.below hB hloB⟩
  · have hrd : ∀ {A : Option Addr} {t : Tx}, RdL x A t (· < B) → RdL (w3.setCell ⟨g, j, none⟩ (.slice (some ⟨q, 0, none⟩) ((f j).length + 1) cp)) A t (· < B) := fun hr => hr.kp hkp fun b hb hs => by have := hloB b hs; omega
    by_cases e : i = j
    · subst e
      simp only [if_true]
      refine ⟨us ++ [.slice A' N C'], by rw [List.length_append, List.length_singleton]; exact own_of hown fun k e => by cases e; exact kS q hqg _, fun t ht => ?_⟩
      rw [List.length_append, List.length_singleton] at ht
      by_cases et : t < (f i).length
      · obtain ⟨A2, C2, e1, e2, e3, e4⟩ := hr t et
        rw [List.getElem_append_left et]
        exact ⟨A2, C2, by rw [List.getElem?_append_left (by omega)]; exact e1, e2, e3, hrd e4⟩
      · have et' : t = (f i).length := by omega
        subst et'
        have e5 : (f i ++ [s])[(f i).length]'(by simp) = s := by simp
        rw [e5]
        exact ⟨A', C', by rw [List.getElem?_append_right (by omega), hlen, Nat.sub_self, ← hN]; rfl, by rw [← hN]; exact h1, by rw [← hN]; exact h2, hrd h3⟩
    · simp only [if_neg e]
      obtain ⟨us', ho', hr'⟩ := hrows i hi
      refine ⟨us', own_of ho' fun k ek => ?_, fun t ht => ?_⟩
      · have hkl := (ho'.lt k ek).2
        have hkg : k ≠ g := fun eg => by
          obtain ⟨c', hc'⟩ := own_blk ho' k ek
          rw [eg, hgc] at hc'
          injection hc' with hc'
          injection hc' with _ e2
          exact absurd e2 (by decide)
        exact (kS k hkg _).trans (k2 k hkl fun ej => e (hinj i j hi hj k ek ej))
      · obtain ⟨A2, C2, e1, e2, e3, e4⟩ := hr' t ht
        exact ⟨A2, C2, e1, e2, e3, hrd e4⟩
  · have key : ∀ i, i < n → i ≠ j → ∀ k, (V i).ownBlock = some k → k ≠ q := fun i hi hne k ek hkq => by
      subst hkq
      rcases hat with hat | hat
      · exact hne (hinj i j hi hj k ek hat)
      · obtain ⟨us', ho', -⟩ := hrows i hi
        have := (ho'.lt k ek).2
        have := hxa.size
        omega
    by_cases ei : i = j <;> by_cases ei' : i' = j
    · omega
    · simp only [ei, if_true] at e
      simp only [ei', if_false] at e'
      cases e
      exact absurd rfl (key i' hi' ei' _ e')
    · simp only [ei', if_true] at e'
      simp only [ei, if_false] at e
      cases e'
      exact absurd rfl (key i hi ei _ e)
    · simp only [ei, if_false] at e
      simp only [ei', if_false] at e'
      exact hinj i i' hi hi' k e e'
/-- a block of another type is turned -/
theorem kpg {gm : Nat} (h : ByT B g n f x) (hk : Kp (· = gm) x y) (hg : g ≠ gm) (hB : B ≤ gm) (hT : ∀ (c : Array Value), x.heap[gm]? ≠ some (.cells c 26 (0, 0))) : ByT B g n f y := by
  obtain ⟨V, h1, h2, h3⟩ := h.ex
  refine ⟨h.lo, V, h1.kp hk hg, fun i hi => ?_, h3⟩
  obtain ⟨us, ho, hr⟩ := h2 i hi
  refine ⟨us, own_of ho fun k e => hk.block k (ho.lt k e).2 fun e2 => ?_, fun j hj => ?_⟩
  · obtain ⟨c, hc⟩ := own_blk ho k e
    rw [e2] at hc
    exact hT c hc
  · obtain ⟨A', C', e1, e2, e3, e4⟩ := hr j hj
    exact ⟨A', C', e1, e2, e3, e4.kp hk fun b hb e => by omega⟩
theorem congr {f' : Nat → List Tx} (h : ByT B g n f x) (e : ∀ i, i < n → f i = f' i) : ByT B g n f' x := by
  obtain ⟨V, h1, h2, h3⟩ := h.ex
  exact ⟨h.lo, V, h1, fun i hi => by rw [← e i hi]; exact h2 i hi, h3⟩
end ByT
/-- what byTape answers -/
def ByA (n : Nat) (f : Nat → List Tx) (w : World) (e : Ending) (w' : World) : Prop := ∃ g, e = .returned (.slice (some ⟨g, 0, none⟩) n n) ∧ ByT w.heap.size g n f w' ∧ Below w.heap.size w w'
set_option maxRecDepth 100000 in
set_option maxHeartbeats 8000000 in
theorem byTape_any (A : Option Addr) (l : List (Int × Tx)) (m C : Nat) (G : Nat → Prop) (n : Nat) (w : World) (hm : m = l.length) (hmm : m ≤ 1000000) (hn : n ≤ 1000000) (hr : StpR w A l G) :
    Calls Tryd.prog 16 #[.slice A m C, .int .i64 (n : Int)] w (ByA n (Wk.mine l) w) := by
  have hmk := run_make_row' (P := Tryd.prog) 54 33 (.slice none 0 0) 24 Tryd.underlying54 infoTen rfl .i64 .i64 n (by omega) (by omega)
  have HR := Lib.hid hr.in_
  have HM := Lib.hid hm
  clear hr hm
  go_enter Tryd.func16, Tryd.ntmps16
  go_wp2
  obtain ⟨w1, hw1⟩ : ∃ x, x = w.alloc (.cells (madeCells #[.slice none 0 0] n) 33) := ⟨_, rfl⟩
  have HS := Lib.hid (ByT.start (n := n) (Nat.le_refl w.heap.size))
  have HB1 : Hid (Below w.heap.size w w1) := Lib.hid (by rw [hw1]; exact (Below.refl _ _).alloc (Nat.le_refl _) _)
  rw [← hw1] at HS
  have HW1 := Lib.hid hw1
  rw [← hw1]
  clear hw1 hmk
  go_loopw [12] (fun vi wr => ∃ (k : Nat), k ≤ m ∧ vi = .int .i64 (k : Int) ∧ Hid (ByT w.heap.size w.heap.size n (Wk.mine (l.take k)) wr) ∧ Hid (Below w.heap.size w wr)) (fun vi _ => m - (intOf vi).toNat)
  case atStart => exact ⟨0, Nat.zero_le _, rfl, Lib.hid (HS.out.congr fun i _ => by rw [List.take_zero]; rfl), HB1⟩
  case round =>
    obtain ⟨k, hk, rfl, HT, HB⟩ := hrel
    by_cases hlt : k < m
    · have e1 : decide (k < m) = true := decide_eq_true hlt
      have hlk : k < l.length := by rw [← HM.out]; exact hlt
      obtain ⟨b, off, A', C', rfl, -, c0, c1, c2, c3, c4⟩ := (HR.out.old HB.out).at_ hlk
      have htk : l.take (k + 1) = l.take k ++ [l[k]] := List.take_succ_eq_append_getElem hlk
      obtain ⟨tp, s, hx⟩ : ∃ tp s, l[k] = (tp, s) := ⟨_, _, rfl⟩
      rw [hx] at c0 c1 c2 c3 c4 htk
      dsimp only at c0 c1 c2 c3 c4
      obtain ⟨N, hN⟩ : ∃ N, N = s.length := ⟨_, rfl⟩
      rw [← hN] at c1 c2 c3
      obtain ⟨w2, hw2⟩ : ∃ x, x = wr.alloc (.cells #[.int .i64 tp, .slice A' N C'] 28) := ⟨_, rfl⟩
      have hb2 : Below wr.heap.size wr w2 := by rw [hw2]; exact (Below.refl _ _).alloc (Nat.le_refl _) _
      have hk2 : w2.heap[wr.heap.size]? = some (.cells #[.int .i64 tp, .slice A' N C'] 28 (0, 0)) := by rw [hw2]; exact Go.Deep.blk_alloc_new _ _
      have HB2 := Lib.hid (HB.out.trans (hb2.mono HB.out.size))
      have HT2 := Lib.hid (HT.out.old hb2)
      have HW2 := Lib.hid hw2
      have HK2 := Lib.hid hk2
      have x0 := heap_cell (j := 0) hk2
      have x1 := heap_cell (j := 1) hk2
      have HC4 := Lib.hid ((c4.mono (G' := (· < w.heap.size)) fun b hb => hb.2).old hb2)
      have HTK : Hid (∀ i : Nat, i < n → (fun i : Nat => if tp = (i : Int) then Wk.mine (l.take k) i ++ [s] else Wk.mine (l.take k) i) i = Wk.mine (l.take (k + 1)) i) := Lib.hid fun i _ => by rw [htk, Wk.mine_snoc]
      have HNS := Lib.hid hN
      clear hw2 hb2 hk2 htk hx c4 hN
      go_upto_region 5 with fail
      rw [← HW2.out]
      clear c0 c1
      by_cases hin : 0 ≤ tp ∧ tp < (n : Int)
      · obtain ⟨h0, h1⟩ := hin
        obtain ⟨j, rfl⟩ : ∃ j : Nat, tp = (j : Int) := ⟨tp.toNat, by omega⟩
        have hj : j < n := by omega
        have d0 : decide ((0 : Int) ≤ (j : Int)) = true := decide_eq_true h0
        have d1 : decide ((j : Int) < (n : Int)) = true := decide_eq_true h1
        have d1' : decide (j < n) = true := decide_eq_true hj
        have hml := Wk.mine_len (l.take k) j
        rw [List.length_take] at hml
        obtain ⟨v, hv, hpush⟩ := HT2.out.push hj (by omega) HB2.out.size HNS.out c2 c3 HC4.out
        obtain ⟨q, cp, w3, old, hap, o1, o2, o3, hkeep, hby, hbel⟩ := hpush w2.drew (Below.refl _ _).drew
        obtain ⟨wb, hwb⟩ : ∃ wb, wb = (w2.alloc (.cells #[.slice A' N C'] 26)).drew := ⟨_, rfl⟩
        have hbz : Below w2.heap.size w2 wb := by rw [hwb]; exact ((Below.refl _ _).alloc (Nat.le_refl _) _).drew
        have hS : ∀ y, Below w2.heap.size w2 y → y.cell? ⟨wr.heap.size, 0, none⟩ = some (.int .i64 (j : Int)) ∧ y.cell? ⟨wr.heap.size, 1, none⟩ = some (.slice A' N C') ∧ y.cell? ⟨w.heap.size, j, none⟩ = some v := fun y hy => ⟨(hy.cell (World.block_lt_of_cell? _ _ x0)).trans x0, (hy.cell (World.block_lt_of_cell? _ _ x1)).trans x1, (hy.cell (World.block_lt_of_cell? _ _ hv)).trans hv⟩
        have h3k := (hkeep _ _ _ HK2.out (by decide)).trans HK2.out
        have HLD3 : Hid (w3.cell? ⟨wr.heap.size, 0, none⟩ = some (.int .i64 (j : Int)) ∧ w3.cell? ⟨wr.heap.size, 1, none⟩ = some (.slice A' N C') ∧ w3.cell? ⟨w.heap.size, j, none⟩ = some v) := Lib.hid ⟨heap_cell h3k, heap_cell h3k, by rw [o1, o3]⟩
        have HLD2 : Hid (wb.cell? ⟨wr.heap.size, 0, none⟩ = some (.int .i64 (j : Int)) ∧ wb.cell? ⟨wr.heap.size, 1, none⟩ = some (.slice A' N C') ∧ wb.cell? ⟨w.heap.size, j, none⟩ = some v) := Lib.hid (hS _ hbz)
        have HLD : Hid (∀ y : World, (y.cell? ⟨wr.heap.size, 0, none⟩ = some (.int .i64 (j : Int)) ∧ y.cell? ⟨wr.heap.size, 1, none⟩ = some (.slice A' N C') ∧ y.cell? ⟨w.heap.size, j, none⟩ = some v) → y.cell? ⟨wr.heap.size, 0, none⟩ = some (.int .i64 (j : Int)) ∧ y.cell? ⟨wr.heap.size, 1, none⟩ = some (.slice A' N C') ∧ y.cell? ⟨w.heap.size, j, none⟩ = some v) := Lib.hid fun _ h => h
        have hSd := hS _ (Below.refl _ _).drew
        have hdr : w2.drew.alloc (.cells #[.slice A' N C'] 26) = (w2.alloc (.cells #[.slice A' N C'] 26)).drew := rfl
        rw [hdr, ← hwb] at hap
        have HAP := Lib.hid hap
        have HWB := Lib.hid hwb
        have HBY := Lib.hid (hby.congr (f' := Wk.mine (l.take (k + 1))) fun i hi => by
          rw [← HTK.out i hi]
          by_cases e : i = j
          · subst e; simp
          · rw [if_neg e]; show _ = if (j : Int) = (i : Int) then _ else _; rw [if_neg (by omega)])
        have HBEL := Lib.hid (HB2.out.trans hbel)
        clear hdr hap hwb hby hbel hkeep hpush hml hbz h3k
        go_upto_region 6 with fail
        clear x0 x1 hv
        refine wp_region_X (fun y => y.cell? ⟨wr.heap.size, 0, none⟩ = some (.int .i64 (j : Int)) ∧ y.cell? ⟨wr.heap.size, 1, none⟩ = some (.slice A' N C') ∧ y.cell? ⟨w.heap.size, j, none⟩ = some v) 13 (by kernel_rfl) hSd (fun hHeld => ?_)
        refine wpAnyX_slot (i := 0) (v := ?va0) rfl rfl (by kernel_rfl) (by kernel_rfl) (by kernel_rfl) (by kernel_rfl) (fun _ _ _ h => h) (by rfl) (fun y hSw => ?hya0) hHeld ?resta0
        case hya0 => go_simp; with_reducible rfl
        simp only [Act.put, List.setIfInBounds_toArray, List.set_cons_zero, List.set_cons_succ]
        refine wpAnyX_slot (i := 1) (v := ?va1) rfl rfl (by kernel_rfl) (by kernel_rfl) (by kernel_rfl) (by kernel_rfl) (fun _ _ _ h => h) (by rfl) (fun y hSw => ?hya1) hHeld ?resta1
        case hya1 => go_simp; with_reducible rfl
        simp only [Act.put, List.setIfInBounds_toArray, List.set_cons_zero, List.set_cons_succ]
        refine wpAnyX_slot (i := 2) (v := ?va2) rfl rfl (by kernel_rfl) (by kernel_rfl) (by kernel_rfl) (by kernel_rfl) (fun _ _ _ h => h) (by rfl) (fun y hSw => ?hya2) hHeld ?resta2
        case hya2 => (obtain ⟨q1, q2, q3⟩ := HLD.out y hSw); go_simp; with_reducible rfl
        simp only [Act.put, List.setIfInBounds_toArray, List.set_cons_zero, List.set_cons_succ]
        refine wpAnyX_slot (i := 3) (v := ?va3) rfl rfl (by kernel_rfl) (by kernel_rfl) (by kernel_rfl) (by kernel_rfl) (fun _ _ _ h => h) (by rfl) (fun y hSw => ?hya3) hHeld ?resta3
        case hya3 => go_simp; with_reducible rfl
        simp only [Act.put, List.setIfInBounds_toArray, List.set_cons_zero, List.set_cons_succ]
        refine wpAnyX_slot (i := 4) (v := ?va4) rfl rfl (by kernel_rfl) (by kernel_rfl) (by kernel_rfl) (by kernel_rfl) (fun _ _ _ h => h) (by rfl) (fun y hSw => ?hya4) hHeld ?resta4
        case hya4 => go_simp; with_reducible rfl
        simp only [Act.put, List.setIfInBounds_toArray, List.set_cons_zero, List.set_cons_succ]
        refine wpAnyX_slot (i := 5) (v := ?va5) rfl rfl (by kernel_rfl) (by kernel_rfl) (by kernel_rfl) (by kernel_rfl) (fun _ _ _ h => h) (by rfl) (fun y hSw => ?hya5) hHeld ?resta5
        case hya5 => (obtain ⟨q1, q2, q3⟩ := HLD.out y hSw); go_simp; with_reducible rfl
        simp only [Act.put, List.setIfInBounds_toArray, List.set_cons_zero, List.set_cons_succ]
        refine wpAnyX_slot (i := 6) (v := ?va6) rfl rfl (by kernel_rfl) (by kernel_rfl) (by kernel_rfl) (by kernel_rfl) (fun _ _ _ h => h) (by rfl) (fun y hSw => ?hya6) hHeld ?resta6
        case hya6 => go_simp; with_reducible rfl
        simp only [Act.put, List.setIfInBounds_toArray, List.set_cons_zero, List.set_cons_succ]
        refine wpAnyX_slot (i := 7) (v := ?va7) rfl rfl (by kernel_rfl) (by kernel_rfl) (by kernel_rfl) (by kernel_rfl) (fun _ _ _ h => h) (by rfl) (fun y hSw => ?hya7) hHeld ?resta7
        case hya7 => (obtain ⟨q1, q2, q3⟩ := HLD.out y hSw); go_simp; with_reducible rfl
        simp only [Act.put, List.setIfInBounds_toArray, List.set_cons_zero, List.set_cons_succ]
        refine wpAnyX_slot (i := 8) (v := ?va8) rfl rfl (by kernel_rfl) (by kernel_rfl) (by kernel_rfl) (by kernel_rfl) (fun _ _ _ h => h) (by rfl) (fun y hSw => ?hya8) hHeld ?resta8
        case hya8 => go_simp; with_reducible rfl
        simp only [Act.put, List.setIfInBounds_toArray, List.set_cons_zero, List.set_cons_succ]
        refine wpAnyX_slot (i := 9) (v := ?va9) rfl rfl (by kernel_rfl) (by kernel_rfl) (by kernel_rfl) (by kernel_rfl) (fun _ _ _ h => h) (by rfl) (fun y hSw => ?hya9) hHeld ?resta9
        case hya9 => (obtain ⟨q1, q2, q3⟩ := HLD.out y hSw); go_simp; with_reducible rfl
        simp only [Act.put, List.setIfInBounds_toArray, List.set_cons_zero, List.set_cons_succ]
        refine wpAnyX_next (i := 10) (by kernel_rfl) rfl (fun KK hKK => ?_)
        go_simp
        rw [← HWB.out]
        refine hKK.out _ _ HLD2.out (fun hHeld => ?_)
        clear hKK KK
        refine wpAnyX_next (i := 11) (by kernel_rfl) rfl (fun KK hKK => ?_)
        refine step_append_eq (by rfl) _ _ _ _ (by rfl) _ _ _ _ HAP.out (by rfl) (by rfl) ?_
        refine hKK.out _ _ HLD3.out (fun hHeld => ?_)
        clear hKK KK
        refine wpAnyX_next (i := 12) (by kernel_rfl) rfl (fun KK hKK => ?_)
        go_simp
        refine hKK.out _ _ HLD3.out (fun hHeld => ?_)
        clear hKK KK
        refine wpAnyX_last (by kernel_rfl) rfl (by kernel_rfl) (fun KK hKK => ?_)
        go_simp
        refine hKK.out _ _ ?_
        clear hKK KK
        go_wp2
        go_roundw
        case rel => exact ⟨k + 1, by omega, by go_num, HBY, HBEL⟩
        case measure => simp [intOf]; omega
      · have HTN := Lib.hid (HT2.out.congr (f' := Wk.mine (l.take (k + 1))) fun i hi => by
          rw [← HTK.out i hi]
          show _ = if tp = (i : Int) then _ else _
          rw [if_neg (by omega)])
        have hdd : decide ((0 : Int) ≤ tp) = false ∨ (decide ((0 : Int) ≤ tp) = true ∧ decide (tp < (n : Int)) = false) := by
          by_cases h0 : 0 ≤ tp
          · exact .inr ⟨decide_eq_true h0, decide_eq_false (by omega)⟩
          · exact .inl (decide_eq_false h0)
        rcases hdd with d0 | ⟨d0, d1⟩
        all_goals
          go_wp2
          go_roundw
          case rel => exact ⟨k + 1, by omega, by go_num, HTN, HB2⟩
          case measure => simp [intOf]; omega
    · have e1 : decide (k < m) = false := decide_eq_false hlt
      have hall : l.take k = l := List.take_of_length_le (by rw [← HM.out]; omega)
      rw [hall] at HT
      go_wp2
      go_ret
      exact ⟨_, rfl, HT.out, HB.out⟩
end Go.Proofs.YtndofmoepjfnfaaDoor
namespace Go.Proofs.YtndofmoepjfnfaaDoor
open Go.RowKit
open Pt (Tx)

/-- the drive at block g: its label, how many blocks fit, how many it says there are, and its first blocks -/
def DrK (w : World) (g : Nat) (lab most cnt : Int) (bs : List Tx) : Prop :=
  ∃ c, w.heap[g]? = some (.cells c 99 (0, 0)) ∧ c.size = 67 ∧ c[0]? = some (.int .i64 lab) ∧ c[1]? = some (.int .i64 most) ∧ c[2]? = some (.int .i64 cnt) ∧ ∀ j (hj : j < bs.length), c[3 + j]? = some (.string (tx bs[j]))
namespace DrK
variable {w w' : World} {g : Nat} {lab most cnt : Int} {bs : List Tx}
theorem lt (h : DrK w g lab most cnt bs) : g < w.heap.size := by obtain ⟨c, hb, _⟩ := h; exact heap_lt hb
theorem c0 (h : DrK w g lab most cnt bs) : w.cell? ⟨g, 0, none⟩ = some (.int .i64 lab) := by obtain ⟨c, hb, _, h0, _⟩ := h; rw [heap_cell hb, h0]
theorem c1 (h : DrK w g lab most cnt bs) : w.cell? ⟨g, 1, none⟩ = some (.int .i64 most) := by obtain ⟨c, hb, _, _, h0, _⟩ := h; rw [heap_cell hb, h0]
theorem c2 (h : DrK w g lab most cnt bs) : w.cell? ⟨g, 2, none⟩ = some (.int .i64 cnt) := by obtain ⟨c, hb, _, _, _, h0, _⟩ := h; rw [heap_cell hb, h0]
theorem cs (h : DrK w g lab most cnt bs) {j : Nat} (hj : j < bs.length) : w.cell? ⟨g, 3 + j, none⟩ = some (.string (tx bs[j])) := by obtain ⟨c, hb, _, _, _, _, h0⟩ := h; rw [heap_cell hb, h0]
theorem cx (h : DrK w g lab most cnt bs) {j : Nat} (hj : j < 64) : ∃ v, w.cell? ⟨g, 3 + j, none⟩ = some v := by
  obtain ⟨c, hb, hs, _⟩ := h
  rw [heap_cell hb]
  exact ⟨_, Array.getElem?_eq_getElem (by omega)⟩
theorem fr (h : DrK w g lab most cnt bs) (j : Nat) : w.frozen? ⟨g, j, none⟩ = false := by obtain ⟨c, hb, _⟩ := h; exact heap_frozen hb
theorem of_block (h : DrK w g lab most cnt bs) (e : w'.heap[g]? = w.heap[g]?) : DrK w' g lab most cnt bs := by obtain ⟨c, hb, hr⟩ := h; exact ⟨c, e.trans hb, hr⟩
theorem kp {S : Nat → Prop} (h : DrK w g lab most cnt bs) (hk : Kp S w w') (hs : ¬ S g) : DrK w' g lab most cnt bs := h.of_block (hk.block g h.lt hs)
theorem old (h : DrK w g lab most cnt bs) (hb : Below w.heap.size w w') : DrK w' g lab most cnt bs := h.of_block (hb.block g h.lt)
theorem take (h : DrK w g lab most cnt bs) (n : Nat) : DrK w g lab most cnt (bs.take n) := by
  obtain ⟨c, hb, hs, h0, h1, h2, h3⟩ := h
  refine ⟨c, hb, hs, h0, h1, h2, fun j hj => ?_⟩
  rw [List.getElem_take]; exact h3 j (by simp at hj; omega)
theorem setn (h : DrK w g lab most cnt bs) (n : Int) : DrK (w.setCell ⟨g, 2, none⟩ (.int .i64 n)) g lab most n bs := by
  obtain ⟨c, hb, hs, h0, h1, h2, h3⟩ := h
  refine ⟨_, heap_set hb _, by simpa using hs, ?_, ?_, ?_, fun j hj => ?_⟩
  · rw [Array.getElem?_setIfInBounds, if_neg (by omega)]; exact h0
  · rw [Array.getElem?_setIfInBounds, if_neg (by omega)]; exact h1
  · rw [Array.getElem?_setIfInBounds, if_pos rfl, if_pos (by omega)]
  · rw [Array.getElem?_setIfInBounds, if_neg (by omega)]; exact h3 j hj
theorem push (h : DrK w g lab most cnt bs) (hl : bs.length < 64) (s : Tx) {k : Nat} (hk : k = bs.length) : DrK (w.setCell ⟨g, 3 + k, none⟩ (.string (tx s))) g lab most cnt (bs ++ [s]) := by
  subst hk
  obtain ⟨c, hb, hs, h0, h1, h2, h3⟩ := h
  refine ⟨_, heap_set hb _, by simpa using hs, ?_, ?_, ?_, fun j hj => ?_⟩
  · rw [Array.getElem?_setIfInBounds, if_neg (by omega)]; exact h0
  · rw [Array.getElem?_setIfInBounds, if_neg (by omega)]; exact h1
  · rw [Array.getElem?_setIfInBounds, if_neg (by omega)]; exact h2
  · by_cases e : j = bs.length
    · subst e
      rw [Array.getElem?_setIfInBounds, if_pos rfl, if_pos (by omega)]
      simp
    · rw [Array.getElem?_setIfInBounds, if_neg (by omega), List.getElem_append_left (by simp at hj; omega)]
      exact h3 j (by simp at hj; omega)
theorem set (h : DrK w g lab most cnt bs) (s : Tx) (k : Nat) : DrK (w.setCell ⟨g, 3 + k, none⟩ (.string (tx s))) g lab most cnt (bs.set k s) := by
  obtain ⟨c, hb, hs, h0, h1, h2, h3⟩ := h
  refine ⟨_, heap_set hb _, by simpa using hs, ?_, ?_, ?_, fun j hj => ?_⟩
  · rw [Array.getElem?_setIfInBounds, if_neg (by omega)]; exact h0
  · rw [Array.getElem?_setIfInBounds, if_neg (by omega)]; exact h1
  · rw [Array.getElem?_setIfInBounds, if_neg (by omega)]; exact h2
  · rw [List.length_set] at hj
    have hsz : 3 + j < c.size := (Array.getElem?_eq_some_iff.1 (h3 j hj)).1
    rw [Array.getElem?_setIfInBounds, List.getElem_set]
    by_cases e : k = j
    · subst e
      rw [if_pos rfl, if_pos (by omega), if_pos rfl]
    · rw [if_neg (by omega), if_neg e]; exact h3 j hj
end DrK
/-- the drive at block g -/
structure Dr (w : World) (g : Nat) (lab most : Int) (bs : List Tx) : Prop where
  mem : DrK w g lab most (bs.length : Int) bs
  lo : 0 ≤ most
  hi : most ≤ 64
  fit : (bs.length : Int) ≤ most
  ok : ∀ s ∈ bs, 1 ≤ s.length ∧ s.length ≤ 94
namespace Dr
variable {w w' : World} {g : Nat} {lab most : Int} {bs : List Tx}
theorem lt (h : Dr w g lab most bs) : g < w.heap.size := h.mem.lt
theorem of_block (h : Dr w g lab most bs) (e : w'.heap[g]? = w.heap[g]?) : Dr w' g lab most bs := ⟨h.mem.of_block e, h.lo, h.hi, h.fit, h.ok⟩
theorem kp {S : Nat → Prop} (h : Dr w g lab most bs) (hk : Kp S w w') (hs : ¬ S g) : Dr w' g lab most bs := h.of_block (hk.block g h.lt hs)
theorem old (h : Dr w g lab most bs) (hb : Below w.heap.size w w') : Dr w' g lab most bs := h.of_block (hb.block g h.lt)
theorem len64 (h : Dr w g lab most bs) : bs.length ≤ 64 := by have := h.fit; have := h.hi; omega
end Dr
end Go.Proofs.YtndofmoepjfnfaaDoor
namespace Go.Proofs.YtndofmoepjfnfaaDoor
open Go.RowKit
open Pt (Tx)

/-- a call has turned the drive at g, and of what was there nothing else -/
def TurnedD (v : Value) (g : Nat) (lab most : Int) (bs : List Tx) (w : World) (e : Ending) (w' : World) : Prop := e = .returned v ∧ Dr w' g lab most bs ∧ Kp (· = g) w w'
set_option maxRecDepth 100000 in
theorem rightBlock_yes (A : Option Addr) (n c : Nat) (w : World) (h1 : 1 ≤ n) (h2 : n ≤ 94) :
    Calls Tryd.prog 49 #[.slice A n c] w fun e w' => e = .returned (.bool true) ∧ w = w' := by
  have d1 : decide (1 ≤ (n : Int)) = true := decide_eq_true (by omega)
  have d2 : decide ((n : Int) ≤ 94) = true := decide_eq_true (by omega)
  go_enter Tryd.func49, Tryd.ntmps49
  go_wp2
  go_ret
  exact ⟨rfl, rfl⟩
set_option maxRecDepth 100000 in
theorem rightBlock_no (A : Option Addr) (n c : Nat) (w : World) (h : n < 1 ∨ 94 < n) :
    Calls Tryd.prog 49 #[.slice A n c] w fun e w' => e = .returned (.bool false) ∧ w = w' := by
  by_cases h1 : n < 1
  · have d1 : decide (1 ≤ (n : Int)) = false := decide_eq_false (by omega)
    go_enter Tryd.func49, Tryd.ntmps49
    go_wp2
    go_ret
    exact ⟨rfl, rfl⟩
  · have d1 : decide (1 ≤ (n : Int)) = true := decide_eq_true (by omega)
    have d2 : decide ((n : Int) ≤ 94) = false := decide_eq_false (by omega)
    go_enter Tryd.func49, Tryd.ntmps49
    go_wp2
    go_ret
    exact ⟨rfl, rfl⟩
set_option maxRecDepth 100000 in
theorem append_bad (g : Nat) (A : Option Addr) (n c : Nat) (w : World) (h : n < 1 ∨ 94 < n) :
    Calls Tryd.prog 35 #[.pointer (some ⟨g, 0, none⟩), .slice A n c] w fun e w' => e = .returned (.int .i64 1) ∧ w = w' := by
  go_enter Tryd.func35, Tryd.ntmps35
  go_wp2_with (go_at_call 49; refine (rightBlock_no A n c w h).mono ?_; rintro e w' ⟨rfl, rfl⟩)
  go_ret
  exact ⟨rfl, rfl⟩
set_option maxRecDepth 100000 in
theorem append_full (g : Nat) (lab most : Int) (bs : List Tx) (A : Option Addr) (n c : Nat) (w : World) (h : Dr w g lab most bs) (h1 : 1 ≤ n) (h2 : n ≤ 94) (hf : most ≤ (bs.length : Int)) :
    Calls Tryd.prog 35 #[.pointer (some ⟨g, 0, none⟩), .slice A n c] w fun e w' => e = .returned (.int .i64 6) ∧ ∃ n, w' = w.drewN n := by
  have c1 := h.mem.c1
  have c2 := h.mem.c2
  have d1 : decide (most ≤ (bs.length : Int)) = true := decide_eq_true hf
  go_enter Tryd.func35, Tryd.ntmps35
  go_wp2_with (go_at_call 49; refine (rightBlock_yes A n c w h1 h2).mono ?_; rintro e w' ⟨rfl, rfl⟩)
  go_quiet (fail)
  go_wp2
  go_ret
  exact ⟨rfl, _, rfl⟩
set_option maxRecDepth 100000 in
theorem append_ok (g : Nat) (lab most : Int) (bs : List Tx) (A : Option Addr) (s : Tx) (n c : Nat) (G : Nat → Prop) (w : World) (h : Dr w g lab most bs) (hn : s.length = n) (h1 : 1 ≤ n) (h2 : n ≤ 94) (hf : (bs.length : Int) < most) (hr : RdL w A s G) :
    Calls Tryd.prog 35 #[.pointer (some ⟨g, 0, none⟩), .slice A n c] w (TurnedD (.int .i64 0) g lab most (bs ++ [s]) w) := by
  subst hn
  have hlt := h.lt
  have c1 := h.mem.c1
  have c2 := h.mem.c2
  have l1 := h.lo
  have l2 := h.hi
  have l3 : bs.length < 64 := by omega
  have l4 : (bs.length : Int) < 64 := by omega
  have d1 : decide (most ≤ (bs.length : Int)) = false := decide_eq_false (by omega)
  have HS := Lib.hid h
  clear h
  go_enter Tryd.func35, Tryd.ntmps35
  go_wp2_with (go_at_call 49; refine (rightBlock_yes A s.length c w h1 h2).mono ?_; rintro e w' ⟨rfl, rfl⟩)
  go_quiet (fail)
  go_wp2
  have hD : Dr (w.drewN nq) g lab most bs := HS.out.of_block rfl
  have hR : RdL (w.drewN nq) A s G := hr.keep fun _ _ _ h => h
  have hK : Kp (· = g) w (w.drewN nq) := (Kp.refl _ _).drewN _
  clear c1 c2 hr
  generalize w.drewN nq = wr at hD hR hK ⊢
  have c2 := hD.mem.c2
  obtain ⟨v, cx⟩ := hD.mem.cx l3
  have fx := hD.mem.fr (3 + bs.length)
  have f2 := hD.mem.fr 2
  have hst := RdL.str (w := wr.drew) (hR.keep fun _ _ _ h => h) c
  have HD := Lib.hid hD
  have HK := Lib.hid hK
  clear hD hR hK
  refine wp_region_still_tail 10 (by kernel_rfl) (by kernel_rfl) ?_
  simp only [List.take_succ_cons, List.take_zero, List.drop_succ_cons, List.drop_zero]
  repeat (first | still_step)
  refine wpStill_nil ?_
  change wpList _ _ _ _ _ wr.drew
  go_wp2
  go_ret
  refine ⟨rfl, ⟨?_, l1, l2, ?_, ?_⟩, ((HK.out.trans (Kp.store _ _ _ _)).trans (Kp.store _ _ _ _)).drew⟩
  · have := ((HD.out.mem.push l3 s rfl).setn ((bs.length : Int) + 1)).of_block (w' := ((wr.setCell ⟨g, 3 + bs.length, none⟩ (.string (tx s))).setCell ⟨g, 2, none⟩ (.int .i64 ((bs.length : Int) + 1))).drew) rfl
    simpa using this
  · simp; omega
  · intro t ht
    rcases List.mem_append.1 ht with ht | ht
    · exact HS.out.ok t ht
    · rw [List.mem_singleton.1 ht]; exact ⟨h1, h2⟩
/-- the world behind []byte(s) -/
theorem below_bytes (w : World) (e : TypeId) (s : ByteArray) : Below w.heap.size w (Lib.bytesWorld w e s) :=
  ⟨by simp [Lib.bytesWorld, World.freeze]; rfl, by simp [Lib.bytesWorld, World.freeze], by simp [Lib.bytesWorld, World.freeze]; rfl, by rw [Lib.bytesWorld_size]; omega, fun k hk => Lib.bytesWorld_at_old w e s k hk⟩
theorem rd_bytes (w : World) (s : Tx) : RdL (Lib.bytesWorld w 5 (tx s)) (some ⟨w.heap.size, 0, none⟩) s (· = w.heap.size) := fun _ =>
  ⟨w.heap.size, 0, rfl, rfl, fun j hj => by
    rw [Nat.zero_add, Lib.bytesWorld_cell w _ _ j (by rw [tx_size]; exact hj), tx_data]
    simp [List.getD, hj]⟩
set_option maxRecDepth 100000 in
theorem bytes_conv (w : World) (s : Tx) : ∃ C, s.length ≤ C ∧ (convert 9 26 (.string (tx s))).run Tryd.prog w = .ok (.slice (some ⟨w.heap.size, 0, none⟩) s.length C) (Lib.bytesWorld w 5 (tx s)) := by
  refine ⟨grownCap w (tx s).size 0 5, ?_, ?_⟩
  · have := grownCap_ge w (tx s).size 0 5
    rw [tx_size] at this ⊢; omega
  · rw [← tx_size s]
    exact Lib.run_convert_string_bytes (P := Tryd.prog) w 9 26 5 (tx s) Tryd.underlying9 Tryd.underlying26 Tryd.underlying5
end Go.Proofs.YtndofmoepjfnfaaDoor
