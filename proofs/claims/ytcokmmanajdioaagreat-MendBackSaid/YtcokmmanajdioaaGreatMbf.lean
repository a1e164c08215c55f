/- What holds in the document's own Make of groups behind a tape's rows, ahead of its seal, and behind it. -/
import Derived.Test.YtcokmmanajdioaaGreatMaq
import Derived.Test.YtcokmmanajdioaaGreatMbe
namespace Go.Proofs.YtcokmmanajdioaaGreat
open Go.RowKit
open Pt (Tx)

set_option maxRecDepth 100000 in
theorem mk_exit {w6 wo wr : World} {sB : Nat} {number y lab cap : Int} {n1 n2 m sC pb po i K : Nat} {sA : Option Addr} {v : Value} {ts : List St.T} {bs : List Tx} {X : Nat → Mx.Mat} {labs : List Int}
    (h : MkR w6 sB number n1 n2 sA m sC v ts wo) (hrt : Rt wr wo.heap.size wo.heap.size (fun _ => True) lab cap bs) (hbw : Below wo.heap.size wo wr)
    (hpar : RdP w6 (some ⟨pb, po, none⟩) n2 K 79 X (fun b => ¬ (b = sB ∨ w6.heap.size ≤ b))) (hlab : RdZ w6 sA labs (fun b => ¬ (b = sB ∨ w6.heap.size ≤ b))) (hi : i < n2) (hpl : pb < wo.heap.size) :
    (∃ u, wr.cell? ⟨sB, 1, none⟩ = some u) ∧ wr.frozen? ⟨sB, 1, none⟩ = false ∧ ∃ ws v3 us3 A9 C9, ws = wr.setCell ⟨sB, 1, none⟩ (.int .i64 y) ∧ ws.heap.size = wr.heap.size ∧
      ws.heap[wo.heap.size]? = some (.cells #[.int .i64 lab, .int .i64 cap, v3, .bool false] 31 (0, 0)) ∧ TopB ws wo.heap.size (fun _ => True) v3 us3 bs ∧ us3.length = bs.length ∧ (∃ G, RdZ ws sA labs G) ∧
      ∀ z, (Below wo.heap.size ws z ∧ z.heap[wo.heap.size]? = some (.cells #[.int .i64 lab, .int .i64 cap, v3, .bool false] 31 (0, 0))) → z.cell? ⟨wo.heap.size, 0, none⟩ = some (.int .i64 lab) ∧ z.cell? ⟨wo.heap.size, 2, none⟩ = some v3 ∧ z.cell? ⟨pb, po + i, none⟩ = some (.slice A9 K C9) ∧ z.cell? ⟨sB, 0, none⟩ = some (.int .i64 number) ∧ z.cell? ⟨sB, 1, none⟩ = some (.int .i64 y) ∧ z.cell? ⟨sB, 2, none⟩ = some (.int .i64 (n1 : Int)) ∧ z.cell? ⟨sB, 3, none⟩ = some (.int .i64 (n2 : Int)) ∧ z.cell? ⟨sB, 4, none⟩ = some (.slice sA m sC) := by
  obtain ⟨v3, us3, hM, hT⟩ := hrt.ex
  obtain ⟨xi, hx⟩ := h.hd
  have hslo : sB < wo.heap.size := heap_lt hx
  have hs4 := (hbw.block _ hslo).trans hx
  obtain ⟨-, x1, -, -, -⟩ := seal5 hs4
  obtain ⟨ws, hws⟩ : ∃ ws, ws = wr.setCell ⟨sB, 1, none⟩ (.int .i64 y) := ⟨_, rfl⟩
  have hs5 : ws.heap[sB]? = some (sealObj number y (n1 : Int) (n2 : Int) sA m sC) := by rw [hws]; exact heap_set hs4 (.int .i64 y)
  have hks : Kp (· = sB) wr ws := by rw [hws]; exact Kp.store _ _ _ _
  have hkp : Kp (fun k => k = sB ∨ w6.heap.size ≤ k) w6 ws := (h.kp.trans (Kp.of_below hbw)).trans (hks.mono fun k e => .inl e)
  have hM5 : ws.heap[wo.heap.size]? = some (.cells #[.int .i64 lab, .int .i64 cap, v3, .bool false] 31 (0, 0)) := (hks.block _ (heap_lt hM) (by omega)).trans hM
  have hT5 : TopB ws wo.heap.size (fun _ => True) v3 us3 bs := by
    refine hT.kpT hks (fun x c hx' hc => ?_) (fun x c hx' hc => ?_)
    · rw [hx', hs4] at hc; injection hc with hc; injection hc with _ e2; exact absurd e2 (by decide)
    · rw [hx', hs4] at hc; injection hc with hc; injection hc with _ e2; exact absurd e2 (by decide)
  obtain ⟨b5, o5, A9, C9, hap, -, hp5, -, -, -⟩ := (hpar.keep fun _ _ hg hc => hkp.cell hc hg : RdP ws (some ⟨pb, po, none⟩) n2 K 79 X (fun b => ¬ (b = sB ∨ w6.heap.size ≤ b))).at_ hi
  obtain ⟨rfl, rfl⟩ : pb = b5 ∧ po = o5 := by injection hap with hap; injection hap with q1 q2; exact ⟨q1, q2⟩
  have hbws : ws.heap.size = wr.heap.size := by rw [hws]; simp
  obtain ⟨z0, z1, z2, z3, z4⟩ := seal5 hs5
  refine ⟨⟨_, x1⟩, heap_frozen hs4, ws, v3, us3, A9, C9, hws, hbws, hM5, hT5, hT.len, ⟨_, hlab.kp hkp (fun b h => h)⟩, fun z hz => ⟨heap_cell hz.2, heap_cell hz.2, (hz.1.cell hpl).trans hp5, (hz.1.cell hslo).trans z0, (hz.1.cell hslo).trans z1, (hz.1.cell hslo).trans z2, (hz.1.cell hslo).trans z3, (hz.1.cell hslo).trans z4⟩⟩
/-- behind the seal's frame: the tape, and what one tape more makes of all -/
theorem mk_sealed {w6 wo wr ws w45 : World} {sB : Nat} {number y lab cap : Int} {n1 n2 m sC K g c : Nat} {sA : Option Addr} {v : Value} {ts ts' : List St.T} {bs fb : List Tx} {b : Tx} {w3 : World} {v3 : Value}
    (h : MkR w6 sB number n1 n2 sA m sC v ts wo) (hbw : Below wo.heap.size wo wr) (hws : ws = wr.setCell ⟨sB, 1, none⟩ (.int .i64 y))
    (hM3 : w3.heap[wo.heap.size]? = some (.cells #[.int .i64 lab, .int .i64 cap, v3, .bool false] 31 (0, 0)))
    (hw45 : w45 = w3.setCell ⟨wo.heap.size, 2, none⟩ (.slice (some ⟨g, 0, none⟩) K c)) (hrt : Rt w45 wo.heap.size wo.heap.size (fun _ => True) lab cap (bs ++ [b])) (hb : Below wo.heap.size ws w45) (hfb : bs ++ [b] = fb) (hK : K = fb.length)
    (hts : ts' = ts ++ [⟨lab, cap, fb, false⟩]) :
    w45.heap[wo.heap.size]? = some (tapeObj lab cap (some ⟨g, 0, none⟩) K c false) ∧ w6.heap.size ≤ w45.heap.size ∧
      ∃ tvs, tvs.length = ts.length ∧ encT.Own (w45.alloc (.cells #[.int .i64 lab, .int .i64 cap, .slice (some ⟨g, 0, none⟩) K c, .bool false] 31)) w6.heap.size 31 v tvs ∧
      ∀ (w46 : World) (v' : Value), (w45.alloc (.cells #[.int .i64 lab, .int .i64 cap, .slice (some ⟨g, 0, none⟩) K c, .bool false] 31)).grownBy w46 v.ownBlock → encT.Own w46 w6.heap.size 31 v' (tvs ++ [⟨lab, cap, some ⟨g, 0, none⟩, K, c, false⟩]) → MkR w6 sB number n1 n2 sA m sC v' ts' w46 := by
  obtain ⟨v4, us4, hM4, hT4⟩ := hrt.ex
  have hM6 : w45.heap[wo.heap.size]? = some (tapeObj lab cap (some ⟨g, 0, none⟩) K c false) := by rw [hw45]; exact heap_set hM3 (.slice (some ⟨g, 0, none⟩) K c)
  obtain rfl : v4 = .slice (some ⟨g, 0, none⟩) K c := by
    rw [hM6] at hM4
    have h1 : (tapeObj lab cap (some ⟨g, 0, none⟩) K c false) = Obj.cells #[.int .i64 lab, .int .i64 cap, v4, .bool false] 31 (0, 0) := Option.some.inj hM4
    unfold tapeObj at h1
    injection h1 with h1 _ _
    have h2 := congrArg (fun a : Array Value => a[2]?) h1
    simpa using h2.symm
  rw [hfb] at hT4
  obtain ⟨tvs, L, hown, hrow⟩ := h.ex
  have hne := h.ne
  have hv45 : ∀ k, v.ownBlock = some k → w45.heap[k]? = wo.heap[k]? := fun k e => by
    have h1 := hown.lt k e
    have h2 : k ≠ sB := by omega
    rw [hb.block k h1.2, hws, (Kp.store wr sB 1 (.int .i64 y)).block k (by have := hbw.size; omega) h2, hbw.block k h1.2]
  have hown45 : encT.Own w45 w6.heap.size 31 v tvs := hown.of_block hv45
  refine ⟨hM6, Nat.le_trans h.kp.size (Nat.le_of_lt (heap_lt hM4)), tvs, hrow.len, hown45.old ((Below.refl _ _).alloc (Nat.le_refl _) _), fun w46 v' hg ho => ?_⟩
  rw [hts]
  exact MkR.next h hown hrow hbw (by rw [hws] at hb; exact hb) hK hT4 hg ho
end Go.Proofs.YtcokmmanajdioaaGreat
