/- What holds in the document's own Make of groups behind a tape's rows, ahead of its seal, and behind it. A region that draws its order, loads a cell, and stores into that cell at its end: what holds of the world is asked behind every operation but that store. No function of the program. The document's own Reader in memory. No function of the program. What the document's own Reader reads. What Bad of the document's own Reader answers. -/
import Derived.Test.YtbkmpoabdnickaaGreatMba
import Derived.Test.YtbkmpoabdnickaaGreatMbb
import Derived.Test.YtbkmpoabdnickaaGreatChecked
import Derived.Deep.RegionHeld
import Derived.StillTail
import Derived.Says
import Derived.Test.YtbkmpoabdnickaaGreatMak
import Derived.Test.YtbkmpoabdnickaaGreatMan
namespace Go.Proofs.YtbkmpoabdnickaaGreat
open Go.RowKit
open Pt (Tx)

set_option maxRecDepth 100000 in
theorem mk_exit {w6 wo wr : World} {sB : Nat} {number y lab cap : Int} {n1 n2 m sC pb po i K : Nat} {sA : Option Addr} {v : Value} {ts : List St.T} {bs : List Tx} {X : Nat → Mx.Mat} {labs : List Int}
    (h : MkR w6 sB number n1 n2 sA m sC v ts wo) (hrt : Rt wr wo.heap.size wo.heap.size (fun _ => True) lab cap bs) (hbw : Below wo.heap.size wo wr)
    (hpar : RdP w6 (some ⟨pb, po, none⟩) n2 K 79 X (fun b => ¬ (b = sB ∨ w6.heap.size ≤ b))) (hlab : RdZ w6 sA labs (fun b => ¬ (b = sB ∨ w6.heap.size ≤ b))) (hi : i < n2) (hpl : pb < wo.heap.size) :
    (∃ u, wr.cell? ⟨sB, 1, none⟩ = some u) ∧ wr.frozen? ⟨sB, 1, none⟩ = false ∧ ∃ ws v3 us3 A9 C9, ws = wr.setCell ⟨sB, 1, none⟩ (.int .i64 y) ∧ ws.heap.size = wr.heap.size ∧
      ws.heap[wo.heap.size]? = some (.cells #[.int .i64 lab, .int .i64 cap, v3, .bool false] 49 (0, 0)) ∧ TopB ws wo.heap.size (fun _ => True) v3 us3 bs ∧ us3.length = bs.length ∧ (∃ G, RdZ ws sA labs G) ∧
      ∀ z, (Below wo.heap.size ws z ∧ z.heap[wo.heap.size]? = some (.cells #[.int .i64 lab, .int .i64 cap, v3, .bool false] 49 (0, 0))) → z.cell? ⟨wo.heap.size, 0, none⟩ = some (.int .i64 lab) ∧ z.cell? ⟨wo.heap.size, 2, none⟩ = some v3 ∧ z.cell? ⟨pb, po + i, none⟩ = some (.slice A9 K C9) ∧ z.cell? ⟨sB, 0, none⟩ = some (.int .i64 number) ∧ z.cell? ⟨sB, 1, none⟩ = some (.int .i64 y) ∧ z.cell? ⟨sB, 2, none⟩ = some (.int .i64 (n1 : Int)) ∧ z.cell? ⟨sB, 3, none⟩ = some (.int .i64 (n2 : Int)) ∧ z.cell? ⟨sB, 4, none⟩ = some (.slice sA m sC) := by
  obtain ⟨v3, us3, hM, hT⟩ := hrt.ex
  obtain ⟨xi, hx⟩ := h.hd
  have hslo : sB < wo.heap.size := heap_lt hx
  have hs4 := (hbw.block _ hslo).trans hx
  obtain ⟨-, x1, -, -, -⟩ := seal5 hs4
  obtain ⟨ws, hws⟩ : ∃ ws, ws = wr.setCell ⟨sB, 1, none⟩ (.int .i64 y) := ⟨_, rfl⟩
  have hs5 : ws.heap[sB]? = some (sealObj number y (n1 : Int) (n2 : Int) sA m sC) := by rw [hws]; exact heap_set hs4 (.int .i64 y)
  have hks : Kp (· = sB) wr ws := by rw [hws]; exact Kp.store _ _ _ _
  have hkp : Kp (fun k => k = sB ∨ w6.heap.size ≤ k) w6 ws := (h.kp.trans (Kp.of_below hbw)).trans (hks.mono fun k e => .inl e)
  have hM5 : ws.heap[wo.heap.size]? = some (.cells #[.int .i64 lab, .int .i64 cap, v3, .bool false] 49 (0, 0)) := (hks.block _ (heap_lt hM) (by omega)).trans hM
  have hT5 : TopB ws wo.heap.size (fun _ => True) v3 us3 bs := by
    refine hT.kpT hks (fun x c hx' hc => ?_) (fun x c hx' hc => ?_)
    · rw [hx', hs4] at hc; injection hc with hc; injection hc with _ e2; exact absurd e2 (by decide)
    · rw [hx', hs4] at hc; injection hc with hc; injection hc with _ e2; exact absurd e2 (by decide)
  obtain ⟨b5, o5, A9, C9, hap, -, hp5, -, -, -⟩ := (hpar.keep fun _ _ hg hc => hkp.cell hc hg : RdP ws (some ⟨pb, po, none⟩) n2 K 79 X (fun b => ¬ (b = sB ∨ w6.heap.size ≤ b))).at_ hi
  obtain ⟨rfl, rfl⟩ : pb = b5 ∧ po = o5 := by injection hap with hap; injection hap with q1 q2; exact ⟨q1, q2⟩
  have hbws : ws.heap.size = wr.heap.size := by rw [hws]; simp
  obtain ⟨z0, z1, z2, z3, z4⟩ := seal5 hs5
  refine ⟨⟨_, x1⟩, heap_frozen hs4, ws, v3, us3, A9, C9, hws, hbws, hM5, hT5, hT.len, ⟨_, hlab.kp hkp (fun b h => h)⟩, fun z hz => ⟨heap_cell hz.2, heap_cell hz.2, (hz.1.cell hpl).trans hp5, (hz.1.cell hslo).trans z0, (hz.1.cell hslo).trans z1, (hz.1.cell hslo).trans z2, (hz.1.cell hslo).trans z3, (hz.1.cell hslo).trans z4⟩⟩
/-- behind the seal's frame: the tape, and what one tape more makes of all -/
theorem mk_sealed {w6 wo wr ws w45 : World} {sB : Nat} {number y lab cap : Int} {n1 n2 m sC K g c : Nat} {sA : Option Addr} {v : Value} {ts ts' : List St.T} {bs fb : List Tx} {b : Tx} {w3 : World} {v3 : Value}
    (h : MkR w6 sB number n1 n2 sA m sC v ts wo) (hbw : Below wo.heap.size wo wr) (hws : ws = wr.setCell ⟨sB, 1, none⟩ (.int .i64 y))
    (hM3 : w3.heap[wo.heap.size]? = some (.cells #[.int .i64 lab, .int .i64 cap, v3, .bool false] 49 (0, 0)))
    (hw45 : w45 = w3.setCell ⟨wo.heap.size, 2, none⟩ (.slice (some ⟨g, 0, none⟩) K c)) (hrt : Rt w45 wo.heap.size wo.heap.size (fun _ => True) lab cap (bs ++ [b])) (hb : Below wo.heap.size ws w45) (hfb : bs ++ [b] = fb) (hK : K = fb.length)
    (hts : ts' = ts ++ [⟨lab, cap, fb, false⟩]) :
    w45.heap[wo.heap.size]? = some (tapeObj lab cap (some ⟨g, 0, none⟩) K c false) ∧ w6.heap.size ≤ w45.heap.size ∧
      ∃ tvs, tvs.length = ts.length ∧ encT.Own (w45.alloc (.cells #[.int .i64 lab, .int .i64 cap, .slice (some ⟨g, 0, none⟩) K c, .bool false] 49)) w6.heap.size 49 v tvs ∧
      ∀ (w46 : World) (v' : Value), (w45.alloc (.cells #[.int .i64 lab, .int .i64 cap, .slice (some ⟨g, 0, none⟩) K c, .bool false] 49)).grownBy w46 v.ownBlock → encT.Own w46 w6.heap.size 49 v' (tvs ++ [⟨lab, cap, some ⟨g, 0, none⟩, K, c, false⟩]) → MkR w6 sB number n1 n2 sA m sC v' ts' w46 := by
  obtain ⟨v4, us4, hM4, hT4⟩ := hrt.ex
  have hM6 : w45.heap[wo.heap.size]? = some (tapeObj lab cap (some ⟨g, 0, none⟩) K c false) := by rw [hw45]; exact heap_set hM3 (.slice (some ⟨g, 0, none⟩) K c)
  obtain rfl : v4 = .slice (some ⟨g, 0, none⟩) K c := by
    rw [hM6] at hM4
    have h1 : (tapeObj lab cap (some ⟨g, 0, none⟩) K c false) = Obj.cells #[.int .i64 lab, .int .i64 cap, v4, .bool false] 49 (0, 0) := Option.some.inj hM4
    unfold tapeObj at h1
    injection h1 with h1 _ _
    have h2 := congrArg (fun a : Array Value => a[2]?) h1
    simpa using h2.symm
  rw [hfb] at hT4
  obtain ⟨tvs, L, hown, hrow⟩ := h.ex
  have hne := h.ne
  have hv45 : ∀ k, v.ownBlock = some k → w45.heap[k]? = wo.heap[k]? := fun k e => by
    have h1 := hown.lt k e
    have h2 : k ≠ sB := by omega
    rw [hb.block k h1.2, hws, (Kp.store wr sB 1 (.int .i64 y)).block k (by have := hbw.size; omega) h2, hbw.block k h1.2]
  have hown45 : encT.Own w45 w6.heap.size 49 v tvs := hown.of_block hv45
  refine ⟨hM6, Nat.le_trans h.kp.size (Nat.le_of_lt (heap_lt hM4)), tvs, hrow.len, hown45.old ((Below.refl _ _).alloc (Nat.le_refl _) _), fun w46 v' hg ho => ?_⟩
  rw [hts]
  exact MkR.next h hown hrow hbw (by rw [hws] at hb; exact hb) hK hT4 hg ho
end Go.Proofs.YtbkmpoabdnickaaGreat
namespace Go.Proofs.YtbkmpoabdnickaaGreat

section
variable {P : Program} {ops : Array Oper} {Q : Exit → Act → World → Prop} {md : Region.Mode} {S : World → Prop} {z : Nat}

/-- whatever order is picked from here on; S holds behind each operation but z -/
def wpAnyX (P : Program) (md : Region.Mode) (ops : Array Oper) (Q : Exit → Act → World → Prop) (S : World → Prop) (z : Nat) : Nat → Array Bool → Act → World → Prop
  | 0, listed, a, w => Region.ready md ops listed = [] ∧ Q .normal a w
  | fuel + 1, listed, a, w =>
    (Region.ready md ops listed = [] → Q .normal a w) ∧
    ∀ i ∈ Region.ready md ops listed, wpOp P ops Q i (fun a' w' => (i = z ∨ S w') ∧ wpAnyX P md ops Q S z fuel (listed.setIfInBounds i true) a' w') a w
theorem wpAny_of_X : ∀ (fuel : Nat) (listed : Array Bool) (a : Act) (w : World), wpAnyX P md ops Q S z fuel listed a w → wpAny P md ops Q fuel listed a w
  | 0, _, _, _, h => h
  | fuel + 1, _, _, _, h => ⟨h.1, fun i hi => wpOp_mono (fun a' w' h' => wpAny_of_X fuel _ a' w' h'.2) (h.2 i hi)⟩
theorem wpAnyX_first {i : Nat} {oi : Oper} {v : Value} (hi : ops[i]? = some oi) (hsel : ∀ (j : Nat) (o : Oper) cs b, ops[j]? = some o → o.op ≠ .select cs b) (hz : Region.waitsFor md ops z i = true)
    (hQ : ∀ c a w, Q (.panic c) (a.put oi.dst v) w → Q (.panic c) a w) :
    ∀ (fuel : Nat) (listed : Array Bool) (a : Act) (w : World),
      (∀ j oj, ops[j]? = some oj → j ≠ i → listed.getD j true = false → (∀ e ∈ oj.after, Region.binds md e = true → e.on ≠ i) → oi.apart ops oj = true) →
      i ∈ Region.ready md ops listed → YieldsIf P ops S oi v a → S w →
      wpAnyX P md ops Q S z fuel (listed.setIfInBounds i true) (a.put oi.dst v) w → wpAnyX P md ops Q S z (fuel + 1) listed a w := by
  intro fuel
  induction fuel with
  | zero =>
    intro listed a w _ hr hy hS H
    refine ⟨fun h => (by rw [h] at hr; cases hr), fun j hj => ?_⟩
    by_cases hji : j = i
    · subst hji; exact hy.wpOp hi hS ⟨.inr hS, H⟩
    · have := ready_mono hj hji
      rw [H.1] at this
      cases this
  | succ fuel ih =>
    intro listed a w hfree hr hy hS H
    refine ⟨fun h => (by rw [h] at hr; cases hr), fun j hj => ?_⟩
    by_cases hji : j = i
    · subst hji; exact hy.wpOp hi hS ⟨.inr hS, H⟩
    · have h1 := H.2 j (ready_mono hj hji)
      obtain ⟨hjun, oj, hoj, hall⟩ := mem_ready.1 hj
      have hun : listed.getD i false = false := getD_both (mem_ready.1 hr).1
      have hnot : ∀ e ∈ oj.after, Region.binds md e = true → e.on ≠ i := fun e he hb heq => by
        have h1 := hall e he hb
        rw [heq, hun] at h1
        cases h1
      have hjz : j ≠ z := fun e => by
        subst e
        obtain ⟨oz, hoz, e, he, hb, hon⟩ := Region.waitsFor_spec hz
        have : oz = oj := Option.some.inj (hoz.symm.trans hoj)
        subst this
        exact hnot e he hb hon
      have h2 := wpOp_putIf hoj (hfree j oj hoj hji hjun hnot) (fun cs b => hsel i oi cs b hi) (fun cs b => hsel j oj cs b hoj) hQ hy h1
      have hfree' : ∀ k ok, ops[k]? = some ok → k ≠ i → (listed.setIfInBounds j true).getD k true = false →
          (∀ e ∈ ok.after, Region.binds md e = true → e.on ≠ i) → oi.apart ops ok = true := fun k ok hk hki hun hno => by
        refine hfree k ok hk hki ?_ hno
        by_cases hjk : j = k
        · subst hjk; exact hjun
        · rw [getD_set_ne true hjk] at hun; exact hun
      refine wpOp_mono (fun a' w' h3 => ⟨h3.2.1, ih (listed.setIfInBounds j true) a' w' hfree' (ready_mono hr (Ne.symm hji)) h3.1 (h3.2.1.resolve_left hjz) ?_⟩) h2
      rw [Array.setIfInBounds_comm _ _ hji]
      exact h3.2.2
/-- take number i first -/
theorem wpAnyX_take {i : Nat} {oi : Oper} {v : Value} {fuel : Nat} {listed : Array Bool} {a : Act} {w : World} (hi : ops[i]? = some oi)
    (hs : Region.noSelect ops = true) (hf : Region.free md ops listed i = true) (hr : (Region.ready md ops listed).contains i = true) (hz : Region.waitsFor md ops z i = true)
    (hQ : ∀ c a w, Q (.panic c) (a.put oi.dst v) w → Q (.panic c) a w) (hy : YieldsIf P ops S oi v a) (hS : S w)
    (h : wpAnyX P md ops Q S z fuel (listed.setIfInBounds i true) (a.put oi.dst v) w) : wpAnyX P md ops Q S z (fuel + 1) listed a w :=
  wpAnyX_first hi (Region.noSelect_spec hs) hz hQ fuel listed a w (Region.free_spec hi hf) (by simpa using hr) hy hS h
/-- the one that may come up comes up -/
theorem wpAnyX_one {i : Nat} {o : Oper} {fuel : Nat} {listed : Array Bool} {a : Act} {w : World} (hr : Region.ready md ops listed = [i]) (ho : ops[i]? = some o)
    (h : ∀ K' : Act → World → Prop, Shut (∀ a w, (i = z ∨ S w) → wpAnyX P md ops Q S z fuel (listed.setIfInBounds i true) a w → K' a w) → if Region.wanted o (yielded ops a.tmps) = true then Oper.wp P o a w K' Q else K' (a.put o.dst undef) w) :
    wpAnyX P md ops Q S z (fuel + 1) listed a w := by
  refine ⟨fun h0 => (by rw [h0] at hr; cases hr), fun j hj => ?_⟩
  rw [hr] at hj
  rw [List.mem_singleton.1 hj]
  exact wpOp_step ho (fun K' hK => h K' (fun a w hS hW => hK a w ⟨hS, hW⟩))
theorem wpAnyX_done' {fuel : Nat} {listed : Array Bool} {a : Act} {w : World} (hr : Region.ready md ops listed = []) (h : Q .normal a w) : wpAnyX P md ops Q S z fuel listed a w := by
  cases fuel with
  | zero => exact ⟨hr, h⟩
  | succ n => exact ⟨fun _ => h, by rw [hr]; simp⟩
/-- take number i first, its slot told -/
theorem wpAnyX_slot {i d : Nat} {oi : Oper} {v : Value} {fuel : Nat} {listed : Array Bool} {a : Act} {w : World} (hi : ops[i]? = some oi) (hd : oi.dst = some d)
    (hs : Region.noSelect ops = true) (hf : Region.free md ops listed i = true) (hr : (Region.ready md ops listed).contains i = true) (hz : Region.waitsFor md ops z i = true)
    (hQ : ∀ c a w, Q (.panic c) (a.put (some d) v) w → Q (.panic c) a w) (hw : Region.wanted oi (yielded ops a.tmps) = true) (hy : ∀ w, S w → (execOp a.eval oi).run P w = .ok (.value v) w) (hS : S w)
    (h : wpAnyX P md ops Q S z fuel (listed.setIfInBounds i true) (a.put (some d) v) w) : wpAnyX P md ops Q S z (fuel + 1) listed a w :=
  wpAnyX_take hi hs hf hr hz (by rw [hd]; exact hQ) (.inl ⟨hw, hy⟩) hS (by rw [hd]; exact h)
/-- number i alone may come up, and is carried out -/
theorem wpAnyX_next {i : Nat} {o : Oper} {fuel : Nat} {listed : Array Bool} {a : Act} {w : World} (hr : Region.ready md ops listed = [i]) (ho : ops[i]? = some o)
    (h : ∀ K' : Act → World → Prop, Shut (∀ a w, S w → (S w → wpAnyX P md ops Q S z fuel (listed.setIfInBounds i true) a w) → K' a w) → if Region.wanted o (yielded ops a.tmps) = true then Oper.wp P o a w K' Q else K' (a.put o.dst undef) w) :
    wpAnyX P md ops Q S z (fuel + 1) listed a w := wpAnyX_one hr ho fun K' hK => h K' (fun a w hS hW => hK.out a w (.inr hS) (hW hS))
/-- the last one, number z -/
theorem wpAnyX_last {o : Oper} {fuel : Nat} {listed : Array Bool} {a : Act} {w : World} (hr : Region.ready md ops listed = [z]) (ho : ops[z]? = some o) (hr' : Region.ready md ops (listed.setIfInBounds z true) = [])
    (h : ∀ K' : Act → World → Prop, Shut (∀ a w, Q .normal a w → K' a w) → if Region.wanted o (yielded ops a.tmps) = true then Oper.wp P o a w K' Q else K' (a.put o.dst undef) w) :
    wpAnyX P md ops Q S z (fuel + 1) listed a w := wpAnyX_one hr ho fun K' hK => h K' (fun a w hW => hK.out a w (.inl rfl) (wpAnyX_done' hr' hW))
theorem wp_region_X {id : Nat} {a : Act} {w : World} (S : World → Prop) (z : Nat) (hm : P.follows .mixedOrders = true) (hS : S w.drew)
    (h : S w.drew → wpAnyX P .any ops Q S z ops.size (Array.replicate ops.size false) a w.drew) : (Code.region id ops true).wp P Q a w :=
  wp_region_any hm (wpAny_of_X _ _ _ _ (h hS))
end
end Go.Proofs.YtbkmpoabdnickaaGreat
namespace Go.Proofs.YtbkmpoabdnickaaGreat
open Go.RowKit
open Pt (Tx)

/-- the document's own Reader -/
structure Rf (w : World) (g : Nat) (s : Cd.St) (G : Nat → Prop) : Prop where
  ex : ∃ A m c, w.heap[g]? = some (.cells #[.slice A m c, .bool s.2] 146 (0, 0)) ∧ m ≤ c ∧ m ≤ maxLen ∧ (A = none → m = 0 ∧ c = 0) ∧ (s.2 = false → m = s.1.length ∧ RdL w A s.1 G)
  ok : Cd.Ok s
  ng : ¬ G g
theorem Rf.lt {w : World} {g : Nat} {s : Cd.St} {G : Nat → Prop} (h : Rf w g s G) : g < w.heap.size := by
  obtain ⟨A, m, c, h1, _⟩ := h.ex; exact heap_lt h1
theorem Rf.kp {w w' : World} {g : Nat} {s : Cd.St} {G S : Nat → Prop} (h : Rf w g s G) (hk : Kp S w w') (hg : ¬ S g) (hs : ∀ b, G b → ¬ S b) : Rf w' g s G := by
  obtain ⟨⟨A, m, c, h1, h2, h0, h3, h5⟩, ho, hn⟩ := h
  exact ⟨⟨A, m, c, (hk.block g (heap_lt h1) hg).trans h1, h2, h0, h3, fun h => ⟨(h5 h).1, (h5 h).2.kp hk hs⟩⟩, ho, hn⟩
/-- .. what is read of it -/
def RefRed (v : Value) (g : Nat) (s : Cd.St) (G : Nat → Prop) (w : World) (e : Ending) (w' : World) : Prop := e = .returned v ∧ Rf w' g s G ∧ Kp (· = g) w w'
end Go.Proofs.YtbkmpoabdnickaaGreat
namespace Go.Proofs.YtbkmpoabdnickaaGreat
open Go.RowKit
open Pt (Tx)

/-- a new Reader of the document's own: of these very bytes -/
def NewF (l : Tx) (G : Nat → Prop) (w : World) (e : Ending) (w' : World) : Prop := e = .returned (.pointer (some ⟨w.heap.size, 0, none⟩)) ∧ Rf w' w.heap.size (l, false) G ∧ Below w.heap.size w w'
theorem refNewReader_any (A : Option Addr) (l : Tx) (c : Nat) (G : Nat → Prop) (w : World) (hA : A = none → l.length = 0 ∧ c = 0) (hc : l.length ≤ c) (hc' : l.length ≤ maxLen) (hr : RdL w A l G) (hg : ¬ G w.heap.size) :
    Calls Tryz.prog 83 #[.slice A l.length c] w (NewF l G w) := by
  have HA := Lib.hid hA
  clear hA
  go_enter Tryz.func83, Tryz.ntmps83
  go_wp2
  go_ret
  exact ⟨rfl, ⟨⟨A, l.length, c, Go.Deep.blk_alloc_new _ _, hc, hc', HA.out, fun _ => ⟨rfl, hr.old ((Below.refl _ _).alloc (Nat.le_refl _) _)⟩⟩, (fun h => by cases h), hg⟩, (Below.refl _ _).alloc (Nat.le_refl _) _⟩
theorem Rf.set {w : World} {g : Nat} {v : Value} {G : Nat → Prop} (h1 : w.heap[g]? = some (.cells #[v, .bool false] 146 (0, 0))) {A : Option Addr} {c m : Nat} {l : Tx} (hm : m = l.length) (hl : l.length ≤ c) (hc : l.length ≤ maxLen) (hA : A = none → l.length = 0 ∧ c = 0) (hr : RdL w A l G) (ng : ¬ G g) :
    Rf (w.setCell ⟨g, 0, none⟩ (.slice A m c)) g (l, false) G := by
  subst hm
  refine ⟨⟨A, l.length, c, ?_, hl, hc, hA, fun _ => ⟨rfl, hr.kp (Kp.store w g 0 _) (fun b hb e => ng (e ▸ hb))⟩⟩, (fun h => by cases h), ng⟩
  rw [heap_set h1]; simp
def RefTook (n g : Nat) (s : Cd.St) (G : Nat → Prop) (w : World) (e : Ending) (w' : World) : Prop := ∃ A c, e = .returned (.slice A (Cd.tk n s).length c) ∧ RdL w' A (Cd.tk n s) G ∧ Rf w' g (Cd.af n s) G ∧ Kp (· = g) w w'
/-- the same, and that what is nil has no room -/
def RefTookN (n g : Nat) (s : Cd.St) (G : Nat → Prop) (w : World) (e : Ending) (w' : World) : Prop := ∃ A c, e = .returned (.slice A (Cd.tk n s).length c) ∧ RdL w' A (Cd.tk n s) G ∧ Rf w' g (Cd.af n s) G ∧ Kp (· = g) w w' ∧ (A = none → (Cd.tk n s).length = 0 ∧ c = 0)
/-- nothing is left -/
theorem RefTookN.lost {n g : Nat} {s : Cd.St} {G : Nat → Prop} {w : World} {v : Value} {bad : Bool} (h1 : w.heap[g]? = some (.cells #[v, .bool bad] 146 (0, 0))) {A : Option Addr} {m c : Nat} (hv : v = .slice A m c) (hm : m ≤ c) (hc : m ≤ maxLen) (hA : A = none → m = 0 ∧ c = 0) (ng : ¬ G g) (ht : Cd.tk n s = []) (ha : Cd.af n s = ([], true)) :
    RefTookN n g s G w (.returned (.slice none 0 0)) (w.setCell ⟨g, 1, none⟩ (.bool true)) := by
  subst hv
  refine ⟨none, 0, by rw [ht]; rfl, by rw [ht]; exact RdL.empty _ _ _, ?_, Kp.store w g 1 _, fun _ => ⟨by rw [ht]; rfl, rfl⟩⟩
  rw [ha]
  refine ⟨⟨A, m, c, ?_, hm, hc, hA, (fun h => by cases h)⟩, fun _ => rfl, ng⟩
  rw [heap_set h1]; simp
set_option maxRecDepth 100000 in
theorem refTakeN_any (g n : Nat) (s : Cd.St) (G : Nat → Prop) (w : World) (h : Rf w g s G) (hn : n ≤ 1000) :
    Calls Tryz.prog 88 #[.pointer (some ⟨g, 0, none⟩), .int .i64 (n : Int)] w (RefTookN n g s G w) := by
  obtain ⟨⟨A, m, c, h1, h2, h5, h3, h4⟩, hok, ng⟩ := h
  obtain ⟨l, bad⟩ := s
  simp only at h1 h4
  have h5' := h5
  unfold maxLen at h5'
  have c0 : w.cell? ⟨g, 0, none⟩ = some (.slice A m c) := heap_cell h1
  have c1 : w.cell? ⟨g, 1, none⟩ = some (.bool bad) := heap_cell h1
  have f0 : w.frozen? ⟨g, 0, none⟩ = false := heap_frozen h1
  have f1 : w.frozen? ⟨g, 1, none⟩ = false := heap_frozen h1
  have H1 := Lib.hid h1
  have H3 := Lib.hid h3
  have H4 := Lib.hid h4
  have H5 := Lib.hid h5
  clear h1 h3 h4 h5
  cases bad with
  | true =>
    have hl0 : l = [] := hok rfl
    have ht : Cd.tk n (l, true) = [] := by rw [hl0]; unfold Cd.tk; split <;> simp
    have ha : Cd.af n (l, true) = ([], true) := by rw [hl0]; unfold Cd.af; split <;> simp
    have HT := Lib.hid ht
    have HA := Lib.hid ha
    clear hl0 ht ha
    go_enter Tryz.func88, Tryz.ntmps88
    go_wp2
    go_ret
    exact RefTookN.lost H1.out rfl h2 H5.out H3.out ng HT.out HA.out
  | false =>
    obtain ⟨rfl, h4⟩ := H4.out rfl
    have H4' := Lib.hid h4
    clear h4
    by_cases hlt : l.length < n
    · have q1 : decide (l.length < n) = true := decide_eq_true hlt
      go_enter Tryz.func88, Tryz.ntmps88
      go_wp2
      go_ret
      exact RefTookN.lost H1.out rfl h2 H5.out H3.out ng (Cd.tk_no hlt) (Cd.af_no hlt)
    · have q0 : decide (l.length < n) = false := decide_eq_false hlt
      by_cases h0 : n = 0
      · subst h0
        have q2 : decide ((l.length : Int) < 0) = false := decide_eq_false (by omega)
        go_enter Tryz.func88, Tryz.ntmps88
        go_wp2
        go_ret
        have ht : Cd.tk 0 (l, false) = [] := by rw [Cd.tk_yes hlt]; rfl
        have ha : Cd.af 0 (l, false) = (l, false) := by rw [Cd.af_yes hlt]; rfl
        refine ⟨A, c, by rw [ht]; rfl, by rw [ht]; exact RdL.empty _ _ _, ?_, Kp.store w g 0 _, fun h => ⟨by rw [ht]; rfl, (H3.out h).2⟩⟩
        rw [ha]
        exact Rf.set H1.out rfl h2 H5.out H3.out H4'.out ng
      · obtain ⟨b, off, rfl, hb, -⟩ := H4'.out (by omega)
        have hmin : (l.take n).length = n := by simp; omega
        have ht : Cd.tk n (l, false) = l.take n := Cd.tk_yes hlt
        have ha : Cd.af n (l, false) = (l.drop n, false) := Cd.af_yes hlt
        have HT := Lib.hid ht
        have HA := Lib.hid ha
        have HM := Lib.hid hmin
        clear ht ha hmin
        by_cases hc : c = n
        · subst hc
          have hll : c = l.length := by omega
          have HLL := Lib.hid hll
          clear hll
          have q1 : (c : Int) ≤ (l.length : Int) := by omega
          go_enter Tryz.func88, Tryz.ntmps88
          go_wp2
          go_ret
          have hd : (l.drop c).length = 0 := by have := HLL.out; simp; omega
          refine ⟨some ⟨b, off, none⟩, c, by rw [HT.out, HM.out]; rfl, by rw [HT.out]; exact (H4'.out.take _).kp (Kp.store w g 0 _) (fun x hx e => ng (e ▸ hx)), ?_, Kp.store w g 0 _, fun h => by cases h⟩
          rw [HA.out]
          exact Rf.set H1.out hd.symm (by omega) (by rw [hd]; decide) (fun h => by cases h) (fun h => by omega) ng
        · have q1 : n ≤ l.length := by omega
          have q2 : n ≤ c := by omega
          have q3 : ¬ n = c := fun h => hc h.symm
          go_enter Tryz.func88, Tryz.ntmps88
          go_wp2
          go_ret
          refine ⟨some ⟨b, off, none⟩, c, by rw [HT.out, HM.out]; rfl, by rw [HT.out]; exact (H4'.out.take _).kp (Kp.store w g 0 _) (fun x hx e => ng (e ▸ hx)), ?_, Kp.store w g 0 _, fun h => by cases h⟩
          rw [HA.out]
          exact Rf.set H1.out (by simp) (by simp; omega) (by rw [List.length_drop]; exact Nat.le_trans (Nat.sub_le _ _) H5.out) (fun h => by cases h) (H4'.out.drop n) ng
theorem refTake_any (g n : Nat) (s : Cd.St) (G : Nat → Prop) (w : World) (h : Rf w g s G) (hn : n ≤ 1000) :
    Calls Tryz.prog 88 #[.pointer (some ⟨g, 0, none⟩), .int .i64 (n : Int)] w (RefTook n g s G w) :=
  (refTakeN_any g n s G w h hn).mono fun _ _ ⟨A, c, h1, h2, h3, h4, _⟩ => ⟨A, c, h1, h2, h3, h4⟩
set_option maxRecDepth 100000 in
theorem refInt_any (g : Nat) (s : Cd.St) (G : Nat → Prop) (w : World) (h : Rf w g s G) :
    Calls Tryz.prog 85 #[.pointer (some ⟨g, 0, none⟩)] w (RefRed (.int .i64 (Cd.num (Cd.tk 4 s))) g (Cd.af 4 s) G w) := by
  go_enter Tryz.func85, Tryz.ntmps85
  go_wp2_with (go_at_call 88; refine (refTake_any g 4 s G w h (by decide)).mono ?_; rintro e w1 ⟨A, c, rfl, hr, hR, hK⟩; have HR := Lib.hid hr; have HRR := Lib.hid hR; have HK := Lib.hid hK; clear hr hR hK)
  obtain ⟨t, ht⟩ : ∃ t, t = Cd.tk 4 s := ⟨_, rfl⟩
  have h4 : t.length ≤ 4 := by rw [ht]; exact Cd.tk_le 4 s
  rw [← ht] at HR ⊢
  have HT := Lib.hid ht
  clear ht
  go_loop [4, 5] (fun vn vi => ∃ k : Nat, k ≤ t.length ∧ vi = .int .i64 (k : Int) ∧ vn = .int .i64 (Cd.num (t.take k))) (fun _ vi => t.length - (intOf vi).toNat)
  case atStart => exact ⟨0, Nat.zero_le _, rfl, rfl⟩
  case round =>
    obtain ⟨k, hk, rfl, rfl⟩ := hrel
    by_cases hlt : k < t.length
    · obtain ⟨b, off, rfl, -, hc⟩ := HR.out.at_ hlt
      have hs := num_small t k h4
      obtain ⟨a, ha⟩ : ∃ a : Nat, Cd.num (t.take k) = (a : Int) := ⟨(Cd.num (t.take k)).toNat, by omega⟩
      have HN := Lib.hid (take_num t k hlt)
      rw [ha] at HN hs ⊢
      clear ha
      have ha' : a < 1099511627776 := by omega
      have hcl := t[k].toNat_lt
      have hor := or_byte a t[k].toNat ha' hcl
      clear ha'
      go_wp2
      go_round
      case rel => exact ⟨k + 1, by omega, by go_num, by rw [HN.out]⟩
      case measure => simp [intOf]; omega
    · go_wp2
      go_ret
      have e : t.take k = t := List.take_of_length_le (by omega)
      refine ⟨?_, HRR.out, HK.out⟩
      rw [← HT.out, e]; rfl
set_option maxRecDepth 100000 in
theorem refByte_any (g : Nat) (s : Cd.St) (G : Nat → Prop) (w : World) (h : Rf w g s G) :
    Calls Tryz.prog 84 #[.pointer (some ⟨g, 0, none⟩)] w (RefRed (.int .u8 ((Cd.byt s).toNat : Int)) g (Cd.af 1 s) G w) := by
  obtain ⟨t, ht⟩ : ∃ t, t = Cd.tk 1 s := ⟨_, rfl⟩
  have h1 : t.length ≤ 1 := by rw [ht]; exact Cd.tk_le 1 s
  have htake := refTake_any g 1 s G w h (by decide)
  unfold RefTook at htake
  rw [← ht] at htake
  have HT := Lib.hid ht
  clear ht
  by_cases h0 : t.length = 0
  · have q1 : ((t.length : Int) == 0) = true := by rw [h0]; rfl
    have HB := Lib.hid (byt_of HT.out h0)
    clear h0
    go_enter Tryz.func84, Tryz.ntmps84
    go_wp2_with (go_at_call 88; refine htake.mono ?_; rintro e w1 ⟨A, c, rfl, hr, hR, hK⟩; have HR := Lib.hid hr; have HRR := Lib.hid hR; have HK := Lib.hid hK; clear hr hR hK)
    go_ret
    refine ⟨?_, HRR.out, HK.out⟩
    rw [HB.out]; rfl
  · have q1 : ((t.length : Int) == 0) = false := beq_eq_false_iff_ne.2 (by omega)
    have hp : 0 < t.length := by omega
    have HB := Lib.hid (byt_at HT.out hp)
    have h0' : ¬ t.length = 0 := h0
    clear h0
    go_enter Tryz.func84, Tryz.ntmps84
    go_wp2_with (go_at_call 88; refine htake.mono ?_; rintro e w1 ⟨A, c, rfl, hr, hR, hK⟩; obtain ⟨b, off, rfl, -, hc⟩ := hr.at_ hp; rw [Nat.add_zero] at hc; have HRR := Lib.hid hR; have HK := Lib.hid hK; clear hr hR hK)
    go_ret
    refine ⟨?_, HRR.out, HK.out⟩
    rw [HB.out]; rfl
theorem refLeft_any (g : Nat) (s : Cd.St) (G : Nat → Prop) (w : World) (h : Rf w g s G) :
    Calls Tryz.prog 87 #[.pointer (some ⟨g, 0, none⟩)] w fun e w' => e = .returned (.int .i64 (s.1.length : Int)) ∧ w = w' := by
  obtain ⟨⟨A, m, c, h1, -, -, -, h4⟩, hok, ng⟩ := h
  obtain ⟨l, bad⟩ := s
  have c0 : w.cell? ⟨g, 0, none⟩ = some (.slice A m c) := heap_cell h1
  have c1 : w.cell? ⟨g, 1, none⟩ = some (.bool bad) := heap_cell h1
  clear h1
  cases bad with
  | true =>
    have hl0 : l = [] := hok rfl
    subst hl0
    clear h4
    go_enter Tryz.func87, Tryz.ntmps87
    go_wp2
    go_ret
    exact ⟨rfl, rfl⟩
  | false =>
    obtain ⟨rfl, -⟩ := h4 rfl
    go_enter Tryz.func87, Tryz.ntmps87
    go_wp2
    go_ret
    exact ⟨rfl, rfl⟩
end Go.Proofs.YtbkmpoabdnickaaGreat
namespace Go.Proofs.YtbkmpoabdnickaaGreat
open Go.RowKit
open Pt (Tx)

theorem refBad_any (g : Nat) (s : Cd.St) (G : Nat → Prop) (w : World) (h : Rf w g s G) :
    Calls Tryz.prog 86 #[.pointer (some ⟨g, 0, none⟩)] w fun e w' => e = .returned (.bool s.2) ∧ w = w' := by
  obtain ⟨⟨A, m, c, h1, -, -, -, -⟩, hok, ng⟩ := h
  have c1 : w.cell? ⟨g, 1, none⟩ = some (.bool s.2) := heap_cell h1
  clear h1 hok
  go_enter Tryz.func86, Tryz.ntmps86
  go_wp2
  go_ret
  exact ⟨rfl, rfl⟩
end Go.Proofs.YtbkmpoabdnickaaGreat
