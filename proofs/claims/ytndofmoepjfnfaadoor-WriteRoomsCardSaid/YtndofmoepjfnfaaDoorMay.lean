/- What slices.Clone makes of bytes and of a row of rows, and what clone of package write answers. What clone of package write answers: a tape with all its blocks in new memory. What the document's own LoadTape says of any tape (parted from TpRefF: no function of package tape). Which tapes are right, and what Load makes. What Load makes. -/
import Derived.Test.YtndofmoepjfnfaaDoorMax
import Derived.Test.YtndofmoepjfnfaaDoorMap
import Derived.Test.YtndofmoepjfnfaaDoorMah
import Derived.Test.YtndofmoepjfnfaaDoorMac
import Derived.Deep.RegionHeld3
import Derived.Test.YtndofmoepjfnfaaDoorMad
import Derived.Deep.DeepFit
import Derived.Deep.DeepCutAuto
import Derived.Test.YtndofmoepjfnfaaDoorTpMath
import Derived.Test.YtndofmoepjfnfaaDoorMal
import Derived.Test.YtndofmoepjfnfaaDoorChecked
import Derived.OwnWalk
import Derived.Handy
import Derived.WalkSpells
import Derived.WalkLawsBesides
import Derived.BigQuiet
import Derived.Deep.QuietTactic
namespace Go.Proofs.YtndofmoepjfnfaaDoor
open Go.RowKit
open Pt (Tx)

/-- bytes are answered, in new memory -/
def CnB (s : Tx) (w : World) (e : Ending) (w' : World) : Prop := ∃ A C, e = .returned (.slice A s.length C) ∧ s.length ≤ C ∧ (A = none → s.length = 0 ∧ C = 0) ∧ RdL w' A s (w.heap.size ≤ ·) ∧ Below w.heap.size w w'
set_option maxHeartbeats 1000000 in
theorem cloneB_any (A : Option Addr) (s : Tx) (n C : Nat) (G : Nat → Prop) (w : World) (hn : n = s.length) (hm : n ≤ 1000000) (hA : A = none → n = 0 ∧ C = 0) (hr : RdL w A s G) :
    Calls Tryd.prog 48 #[.slice A n C] w (CnB s w) := by
  have hnil : ∀ (w : World) (a : Option Addr) (n c n' c' : Nat), (binOp .eql 26 (.slice a n c) (.slice none n' c')).run Tryd.prog w = .ok (.bool a.isNone) w := fun w a n c n' c' => Lib.run_eql_slice_nil w _ _ a n c n' c' Tryd.underlying26
  cases A with
  | none =>
    obtain ⟨rfl, rfl⟩ := hA rfl
    have hs : s = [] := List.length_eq_zero_iff.1 hn.symm
    subst hs
    clear hA hr hn
    go_enter Tryd.func48, Tryd.ntmps48
    go_wp2
    go_ret
    exact ⟨none, 0, rfl, Nat.le_refl _, fun _ => ⟨rfl, rfl⟩, RdL.empty _ _ _, Below.refl _ _⟩
  | some ad =>
    have hb0 : Below w.heap.size w (w.alloc (.cells #[] 5)) := (Below.refl _ _).alloc (Nat.le_refl _) _
    have hown : OwnL (w.alloc (.cells #[] 5)) w.heap.size (.slice (some ⟨w.heap.size, 0, none⟩) 0 0) [] := World.ownsRow_made w #[] 0 (Nat.le_refl _) (by decide) rfl
    have HR := Lib.hid (hr.old hb0)
    have HN := Lib.hid hn
    have HB0 := Lib.hid hb0
    clear hr hn hA hb0
    go_enter Tryd.func48, Tryd.ntmps48
    go_wp2_with (at_builtin; refine wpList_append_bl _ rfl _ _ rfl w.heap.size _ [] rfl hown (some ad) n C s _ rfl HN.out.symm (fun h => by cases h) HR.out (by simp; omega) (by simp) ?_; intro v' w' ho hg; have HO := Lib.hid ho; have HB := Lib.hid (HB0.out.grown hg (by simp) (fun k hk => by cases hk; exact Nat.le_refl _)); clear ho hg)
    go_ret
    obtain ⟨A2, C2, hv, h2, h3, h4, h5⟩ := HO.out.rd
    exact ⟨A2, C2, by rw [hv]; rfl, h2, h4, h5.mono fun _ hb => hb.1, HB.out⟩
/-- a row of rows is answered, in new memory; the rows are the elder ones -/
def CnR (bs : List Tx) (G : Nat → Prop) (w : World) (e : Ending) (w' : World) : Prop :=
  ∃ A C, e = .returned (.slice A bs.length C) ∧ (0 < bs.length → ∃ g cur, A = some ⟨g, 0, none⟩ ∧ w.heap.size ≤ g ∧ w'.heap[g]? = some (.cells cur 26 (0, 0)) ∧ ∀ i (hi : i < bs.length), ∃ A' C', cur[i]? = some (.slice A' bs[i].length C') ∧ bs[i].length ≤ C' ∧ (A' = none → bs[i].length = 0 ∧ C' = 0) ∧ RdL w' A' bs[i] G) ∧ Below w.heap.size w w'
set_option maxRecDepth 100000 in
set_option maxHeartbeats 2000000 in
theorem cloneR_any (A : Option Addr) (bs : List Tx) (n C : Nat) (G : Nat → Prop) (w : World) (hn : n = bs.length) (hm : n ≤ 1000000) (hr : RdB w A bs G) :
    Calls Tryd.prog 47 #[.slice A n C] w (CnR bs G w) := by
  have hnil : ∀ (w : World) (a : Option Addr) (n c n' c' : Nat), (binOp .eql 33 (.slice a n c) (.slice none n' c')).run Tryd.prog w = .ok (.bool a.isNone) w := fun w a n c n' c' => Lib.run_eql_slice_nil w _ _ a n c n' c' Tryd.underlying33
  cases A with
  | none =>
    have hs : bs = [] := by
      rcases Nat.eq_zero_or_pos bs.length with h | h
      · exact List.length_eq_zero_iff.1 h
      · obtain ⟨b, off, e, -⟩ := hr h
        cases e
    subst hs
    have hn0 : n = 0 := hn
    subst hn0
    clear hr hn
    go_enter Tryd.func47, Tryd.ntmps47
    go_wp2
    go_ret
    exact ⟨none, 0, rfl, fun h => absurd h (by simp), Below.refl _ _⟩
  | some ad =>
    obtain ⟨i0, hi0, hz0, hz1, hz2⟩ := info_parts infoRowT
    have hb0 : Below w.heap.size w (w.alloc (.cells #[] 26)) := (Below.refl _ _).alloc (Nat.le_refl _) _
    have hown : (w.alloc (.cells #[] 26)).ownsRow w.heap.size 26 1 (.slice (some ⟨w.heap.size, 0, none⟩) 0 0) 0 [] := World.ownsRow_made w #[] 0 (Nat.le_refl _) (by decide) rfl
    -- the rows as they lie
    obtain ⟨us, hul, hus⟩ : ∃ us : List Value, us.length = n ∧ ∀ i (hi : i < bs.length), ∃ A' C', us[i]? = some (.slice A' bs[i].length C') ∧ w.cell? (ad.add i) = some (.slice A' bs[i].length C') ∧ bs[i].length ≤ C' ∧ (A' = none → bs[i].length = 0 ∧ C' = 0) ∧ RdL w A' bs[i] G := by
      refine ⟨(List.range n).map fun i => (w.cell? (ad.add i)).getD (.bool false), by simp, fun i hi => ?_⟩
      obtain ⟨b, off, A', C', e, -, h1, h2, h3, h4⟩ := hr.at_ hi
      cases e
      refine ⟨A', C', ?_, by rw [addr_add]; exact h1, h2, h3, h4⟩
      rw [List.getElem?_map, List.getElem?_range (by omega)]
      show some ((w.cell? ((⟨b, off, none⟩ : Addr).add i)).getD (.bool false)) = _
      rw [addr_add, h1]; rfl
    have hone : ∀ u ∈ us, u.oneCell' = true := fun u hu => by
      obtain ⟨i, hi, rfl⟩ := List.mem_iff_getElem.1 hu
      obtain ⟨A', C', h1, -⟩ := hus i (by omega)
      rw [List.getElem?_eq_getElem hi] at h1
      rw [Option.some.inj h1]; rfl
    have hnews : ∀ ad', some ad = some ad' → ∀ j u, us[j]? = some u → (w.alloc (.cells #[] 26)).cell? (ad'.add j) = some u := fun ad' had j u hu => by
      cases had
      obtain ⟨hj, -⟩ := List.getElem?_eq_some_iff.1 hu
      obtain ⟨A', C', h1, h2, -⟩ := hus j (by omega)
      rw [h1] at hu
      rw [← hu, ← h2]
      exact hb0.cell (World.block_lt_of_cell? _ _ h2)
    have HUS := Lib.hid hus
    have HNEW := Lib.hid hnews
    have HONE := Lib.hid hone
    have HUL := Lib.hid hul
    have HN := Lib.hid hn
    have HB0 := Lib.hid hb0
    clear hr hus hnews hone hb0 hul hn
    go_enter Tryd.func47, Tryd.ntmps47
    go_wp2_with (at_builtin; refine wpList_append_opt _ rfl _ _ 33 rfl w.heap.size 26 i0 (.slice none 0 0) 24 Tryd.underlying33 hi0 hz0 hz1 hz2 rfl _ 0 [] rfl hown (some ad) n C us rfl (fun h => by cases h) HUL.out HNEW.out HONE.out (by unfold maxLen; simp; omega) (by simp; omega) (by simp) ?_; intro v' w' ho hg; have HO := Lib.hid ho; have HB := Lib.hid (HB0.out.grown hg (by simp) (fun k hk => by cases hk; exact Nat.le_refl _)); clear ho hg)
    go_ret
    rcases HO.out.2 with ⟨e, h0⟩ | ⟨g, cap, cur, e, hB, hg, hnc, hcm, hs, ht⟩
    · have h1 : bs.length = 0 := by have := HN.out; omega
      exact ⟨none, 0, by rw [e, h1]; rfl, fun h => by omega, HB.out⟩
    · refine ⟨some ⟨g, 0, none⟩, cap, by rw [e, Nat.zero_add, HN.out]; rfl, fun _ => ⟨g, cur, rfl, hB, hg, fun i hi => ?_⟩, HB.out⟩
      obtain ⟨A', C', h1, -, h3, h4, h5⟩ := HUS.out i hi
      refine ⟨A', C', ?_, h3, h4, h5.old HB.out⟩
      have h6 : ([] ++ us)[i]? = some (.slice A' bs[i].length C') := h1
      rw [← ht, List.getElem?_take, if_pos (by have := HN.out; omega), Array.getElem?_toList] at h6
      exact h6
end Go.Proofs.YtndofmoepjfnfaaDoor
namespace Go.Proofs.YtndofmoepjfnfaaDoor
open Go.RowKit
open Pt (Tx)

/-- a tape is answered, its blocks in new memory -/
def TapeA (t : St.T) (w : World) (e : Ending) (w' : World) : Prop := ∃ A C, e = .returned (.agg #[.int .i64 t.label, .int .i64 t.cap, .slice A t.blocks.length C, .bool t.lost]) ∧ RdB w' A t.blocks (w.heap.size ≤ ·) ∧ Below w.heap.size w w'
/-- a row of rows of which the first k are in new memory -/
structure ClK (B g k : Nat) (bs : List Tx) (x : World) : Prop where
  row : ∃ cur : Array Value, x.heap[g]? = some (.cells cur 26 (0, 0)) ∧ ∀ i (hi : i < bs.length), ∃ A' C', cur[i]? = some (.slice A' bs[i].length C') ∧ bs[i].length ≤ C' ∧ (A' = none → bs[i].length = 0 ∧ C' = 0) ∧ RdL x A' bs[i] (fun b => b ≠ g ∧ (i < k → B ≤ b))
namespace ClK
variable {x y : World} {B g k : Nat} {bs : List Tx}
theorem old (h : ClK B g k bs x) (hb : Below x.heap.size x y) : ClK B g k bs y := by
  obtain ⟨cur, hg, hr⟩ := h.row
  refine ⟨⟨cur, (hb.block g (heap_lt hg)).trans hg, fun i hi => ?_⟩⟩
  obtain ⟨A', C', h1, h2, h3, h4⟩ := hr i hi
  exact ⟨A', C', h1, h2, h3, h4.old hb⟩
theorem at_ (h : ClK B g k bs x) {i : Nat} (hi : i < bs.length) : ∃ A' C', x.cell? ⟨g, i, none⟩ = some (.slice A' bs[i].length C') ∧ bs[i].length ≤ C' ∧ (A' = none → bs[i].length = 0 ∧ C' = 0) ∧ RdL x A' bs[i] (fun _ => True) := by
  obtain ⟨cur, hg, hr⟩ := h.row
  obtain ⟨A', C', h1, h2, h3, h4⟩ := hr i hi
  exact ⟨A', C', (heap_cell hg).trans h1, h2, h3, h4.mono fun _ _ => trivial⟩
theorem free (h : ClK B g k bs x) (j : Nat) : x.frozen? ⟨g, j, none⟩ = false := by
  obtain ⟨cur, hg, -⟩ := h.row
  exact heap_frozen hg
theorem lt (h : ClK B g k bs x) : g < x.heap.size := by obtain ⟨cur, hg, -⟩ := h.row; exact heap_lt hg
theorem set (h : ClK B g k bs x) (hb : Below x.heap.size x y) (hB : B ≤ x.heap.size) (hk : k < bs.length) {A2 : Option Addr} {C2 : Nat} (h1 : bs[k].length ≤ C2) (h2 : A2 = none → bs[k].length = 0 ∧ C2 = 0) (hr : RdL y A2 bs[k] (x.heap.size ≤ ·)) : ClK B g (k + 1) bs (y.setCell ⟨g, k, none⟩ (.slice A2 bs[k].length C2)) := by
  have hlt := h.lt
  obtain ⟨cur, hg, hrow⟩ := h.row
  have hg' := (hb.block g hlt).trans hg
  have hkp := Kp.store y g k (.slice A2 bs[k].length C2)
  have hck : k < cur.size := by
    obtain ⟨A', C', h1, -⟩ := hrow k hk
    exact (Array.getElem?_eq_some_iff.1 h1).1
  refine ⟨⟨_, heap_set hg' _, fun i hi => ?_⟩⟩
  rw [Array.getElem?_setIfInBounds]
  by_cases e : k = i
  · subst e
    rw [if_pos rfl, if_pos hck]
    exact ⟨A2, C2, rfl, h1, h2, (hr.kp hkp fun b hb' e => by omega).mono fun b hb' => ⟨by omega, fun _ => by omega⟩⟩
  · obtain ⟨A', C', k1, k2, k3, k4⟩ := hrow i hi
    rw [if_neg e]
    exact ⟨A', C', k1, k2, k3, ((k4.old hb).kp hkp fun b hb' e => hb'.1 e).mono fun b hb' => ⟨hb'.1, fun hi' => hb'.2 (by omega)⟩⟩
theorem done (h : ClK B g k bs x) (hk : bs.length ≤ k) (hB : B ≤ g) : RdB x (some ⟨g, 0, none⟩) bs (B ≤ ·) := fun _ => by
  obtain ⟨cur, hg, hr⟩ := h.row
  refine ⟨g, 0, rfl, hB, fun i hi => ?_⟩
  obtain ⟨A', C', h1, h2, h3, h4⟩ := hr i hi
  exact ⟨A', C', by rw [Nat.zero_add, heap_cell hg]; exact h1, h2, h3, h4.mono fun b hb => hb.2 (by omega)⟩
end ClK
theorem tape_set {w : World} {g : Nat} {l0 c0 : Int} {A0 : Option Addr} {n0 C0 : Nat} {b0 : Bool} (h : w.heap[g]? = some (tapeObj l0 c0 A0 n0 C0 b0)) (v0 v1 v2 v3 : Value) : ((((w.setCell ⟨g, 0, none⟩ v0).setCell ⟨g, 1, none⟩ v1).setCell ⟨g, 2, none⟩ v2).setCell ⟨g, 3, none⟩ v3).heap[g]? = some (.cells #[v0, v1, v2, v3] 35 (0, 0)) := by
  rw [heap_set (heap_set (heap_set (heap_set h _) _) _) _]; rfl
theorem tape_kp (w : World) (g : Nat) (v0 v1 v2 v3 : Value) : Kp (· = g) w ((((w.setCell ⟨g, 0, none⟩ v0).setCell ⟨g, 1, none⟩ v1).setCell ⟨g, 2, none⟩ v2).setCell ⟨g, 3, none⟩ v3) := (((Kp.store _ _ _ _).trans (Kp.store _ _ _ _)).trans (Kp.store _ _ _ _)).trans (Kp.store _ _ _ _)
set_option maxRecDepth 100000 in
set_option maxHeartbeats 4000000 in
theorem cloneT_any (lab cap : Int) (A : Option Addr) (bs : List Tx) (n C : Nat) (lost : Bool) (G : Nat → Prop) (w : World) (hn : n = bs.length) (hm : n ≤ 1000000) (hr : RdB w A bs G) (hl : ∀ s ∈ bs, s.length ≤ 1000000) :
    Calls Tryd.prog 34 #[.agg #[.int .i64 lab, .int .i64 cap, .slice A n C, .bool lost]] w (TapeA ⟨lab, cap, bs, lost⟩ w) := by
  obtain ⟨w1, hw1⟩ : ∃ x, x = (w.alloc (tapeObj lab cap A n C lost)).alloc (tapeObj 0 0 none 0 0 false) := ⟨_, rfl⟩
  have b1 : Below w.heap.size w w1 := by rw [hw1]; exact ((Below.refl _ _).alloc (Nat.le_refl _) _).alloc (by simp) _
  have s0 : (w.alloc (tapeObj lab cap A n C lost)).heap.size = w.heap.size + 1 := by simp
  have kT : w1.heap[w.heap.size]? = some (tapeObj lab cap A n C lost) := by
    rw [hw1, ((Below.refl _ _).alloc (Nat.le_refl _) _ : Below (w.alloc (tapeObj lab cap A n C lost)).heap.size _ _).block _ (by simp)]
    exact Go.Deep.blk_alloc_new _ _
  have kR : w1.heap[w.heap.size + 1]? = some (tapeObj 0 0 none 0 0 false) := by
    have := Go.Deep.blk_alloc_new (w.alloc (tapeObj lab cap A n C lost)) (tapeObj 0 0 none 0 0 false)
    rw [s0] at this
    rw [hw1]; exact this
  have HW1 : Hid (w1 = (w.alloc (.cells #[.int .i64 lab, .int .i64 cap, .slice A n C, .bool lost] 35)).alloc (.cells #[.int .i64 0, .int .i64 0, .slice none 0 0, .bool false] 35)) := Lib.hid hw1
  have HC := Lib.hid (cloneR_any A bs n C _ w1 hn hm ((hr.in_).old b1))
  have HB1 := Lib.hid b1
  have HT1 := Lib.hid kT
  have HR1 := Lib.hid kR
  have HN := Lib.hid hn
  have HL := Lib.hid hl
  have hs1 : w.heap.size + 2 ≤ w1.heap.size := by have := heap_lt kR; omega
  obtain ⟨t0, t1, t2, t3⟩ := tape4 kT
  clear hw1 b1 s0 kT kR hr hn hl
  go_enter Tryd.func34, Tryd.ntmps34
  go_upto_region 1 with fail
  rw [← HW1.out]
  have f0 : w1.frozen? ⟨w.heap.size, 2, none⟩ = false := heap_frozen HT1.out
  go_upto_region 2 with (go_at_call 47; refine HC.out.mono ?_; rintro e w2 ⟨Ag, Cg, rfl, hv, hb2⟩; rw [← HN.out]; have HV := Lib.hid hv; have HB2 := Lib.hid hb2; have f1 : w2.frozen? ⟨w.heap.size, 2, none⟩ = false := heap_frozen ((hb2.block _ (heap_lt HT1.out)).trans HT1.out); have c1 := heap_cell (j := 2) ((hb2.block _ (heap_lt HT1.out)).trans HT1.out); clear hv hb2)
  obtain ⟨w3, hw3⟩ : ∃ x, x = w2.setCell ⟨w.heap.size, 2, none⟩ (.slice Ag n Cg) := ⟨_, rfl⟩
  have hT2 := (HB2.out.block _ (heap_lt HT1.out)).trans HT1.out
  have hR2 := (HB2.out.block _ (heap_lt HR1.out)).trans HR1.out
  have hkp : Kp (· = w.heap.size) w2 w3 := by rw [hw3]; exact Kp.store _ _ _ _
  have hT3 : w3.heap[w.heap.size]? = some (tapeObj lab cap Ag n Cg lost) := by rw [hw3, heap_set hT2]; rfl
  have hR3 : w3.heap[w.heap.size + 1]? = some (tapeObj 0 0 none 0 0 false) := (hkp.block _ (heap_lt hR2) (by show ¬ _ = _; omega)).trans hR2
  have hB3 : Below w.heap.size w w3 := (HB1.out.trans (HB2.out.mono HB1.out.size)).trans (hkp.below (by have := HB1.out.size; have := HB2.out.size; omega) fun k hk => by omega)
  have hV3 : 0 < n → ∃ g, Ag = some ⟨g, 0, none⟩ ∧ w1.heap.size ≤ g ∧ ClK w1.heap.size g 0 bs w3 := fun h0 => by
    obtain ⟨g, cur, e, hg, hgc, hrows⟩ := HV.out (by rw [← HN.out]; exact h0)
    refine ⟨g, e, hg, ⟨cur, (hkp.block g (heap_lt hgc) (by show ¬ _ = _; omega)).trans hgc, fun i hi => ?_⟩⟩
    obtain ⟨A', C', h1, h2, h3, h4⟩ := hrows i hi
    exact ⟨A', C', h1, h2, h3, (h4.kp hkp fun b hb e => by have := hb.2; omega).mono fun b hb => ⟨by have := hb.2; omega, fun h => absurd h (Nat.not_lt_zero i)⟩⟩
  have HT3 := Lib.hid hT3
  have HR3 := Lib.hid hR3
  have HB3 := Lib.hid hB3
  have HV3 := Lib.hid hV3
  have HW3 := Lib.hid hw3
  have hs3 : w1.heap.size ≤ w3.heap.size := by have := HB2.out.size; have := hkp.size; omega
  rw [← HW3.out]
  clear t0 t1 t2 t3 f0 f1 c1 hw3 hT2 hR2 hkp hT3 hR3 hB3 hV3
  obtain ⟨t0, t1, t2, t3⟩ := tape4 HT3.out
  go_wp2
  clear t0 t1 t2 t3
  go_loopw [12] (fun vi wr => ∃ (k : Nat), k ≤ n ∧ vi = .int .i64 (k : Int) ∧ Hid (∀ g, Ag = some ⟨g, 0, none⟩ → 0 < n → w1.heap.size ≤ g ∧ ClK w1.heap.size g k bs wr) ∧ Hid (wr.heap[w.heap.size]? = some (tapeObj lab cap Ag n Cg lost)) ∧ Hid (wr.heap[w.heap.size + 1]? = some (tapeObj 0 0 none 0 0 false)) ∧ Hid (Below w.heap.size w wr)) (fun vi _ => n - (intOf vi).toNat)
  case atStart => exact ⟨0, Nat.zero_le _, rfl, Lib.hid (fun g e h0 => by
    obtain ⟨g', e', h1, h2⟩ := HV3.out h0
    rw [e] at e'
    cases e'
    exact ⟨h1, h2⟩), HT3, HR3, HB3⟩
  case round =>
    obtain ⟨k, hk, rfl, HC, HT, HR, HB⟩ := hrel
    by_cases hlt : k < n
    · have e1 : decide (k < n) = true := decide_eq_true hlt
      have hlb : k < bs.length := by rw [← HN.out]; exact hlt
      obtain ⟨g, rfl, hg1, -⟩ := HV3.out (by omega)
      obtain ⟨-, hCk⟩ := HC.out g rfl (by omega)
      obtain ⟨A', C', r0, r1, r2, r3⟩ := hCk.at_ hlb
      have hsl := HL.out bs[k] (List.getElem_mem hlb)
      obtain ⟨t0, t1, t2, t3⟩ := tape4 HT.out
      obtain ⟨s, hs⟩ : ∃ s, s = bs[k] := ⟨_, rfl⟩
      obtain ⟨N, hN⟩ : ∃ N, N = bs[k].length := ⟨_, rfl⟩
      rw [← hN] at r0 r1 r2 hsl
      rw [← hs] at r3
      have hNs : N = s.length := by rw [hN, hs]
      have HCB := Lib.hid (fun y (hy : Below wr.heap.size wr y) => cloneB_any A' s N C' _ y hNs hsl r2 (r3.old hy))
      have HCK := Lib.hid hCk
      have HLB := Lib.hid hlb
      have HS := Lib.hid hs
      have HNS := Lib.hid hNs
      have fg := fun (y : World) (hy : Below wr.heap.size wr y) => (hCk.old hy).free k
      have t2d : wr.drew.cell? ⟨w.heap.size, 2, none⟩ = some (.slice (some ⟨g, 0, none⟩) n Cg) := t2
      have h1 : w.heap.size < wr.heap.size := heap_lt HT.out
      clear hCk hs hN hNs r1 r2 r3
      go_upto_region 5 with fail
      have hbd : Below wr.heap.size wr wr.drew := (Below.refl _ _).drew
      have gne : g ≠ w.heap.size := by omega
      go_region_held3 (fun y => y.cell? ⟨w.heap.size, 2, none⟩ = some (.slice (some ⟨g, 0, none⟩) n Cg))
        (first
          | exact t2d
          | exact hx6
          | exact hx7)
        (first
          | (go_at_call 48; refine (HCB.out _ hbd).mono ?_; rintro e w6 ⟨A2, C2, rfl, k1, k2, k3, hb6⟩; rw [← HNS.out]; have hb6' : Below wr.heap.size wr w6 := hbd.trans (hb6.mono hbd.size); have hx6 := (hb6'.cell (p := ⟨w.heap.size, 2, none⟩) h1).trans t2; have hx7 : (w6.setCell ⟨g, k, none⟩ (.slice A2 N C2)).cell? ⟨w.heap.size, 2, none⟩ = some (.slice (some ⟨g, 0, none⟩) n Cg) := (Kp.store w6 g k _).cell hx6 (fun e => gne e.symm); have f6 := fg w6 hb6'; have c6 : ∃ v, w6.cell? ⟨g, k, none⟩ = some v := ⟨_, (hb6'.cell (p := ⟨g, k, none⟩) (HCK.out.lt)).trans r0⟩; obtain ⟨cv, c6⟩ := c6; have HK1 := Lib.hid k1; have HK2 := Lib.hid k2; have HK3 := Lib.hid k3; have HB6 := Lib.hid hb6'; clear k1 k2 k3 hb6 hb6'))
      have hB0 : w.heap.size ≤ wr.heap.size := HB.out.size
      have hB1 : w1.heap.size ≤ wr.heap.size := by have := HCK.out.lt; omega
      have hset := HCK.out.set HB6.out hB1 hlb (A2 := A2) (C2 := C2) (by rw [← HS.out]; exact HK1.out) (by rw [← HS.out]; exact HK2.out) (by rw [← HS.out]; exact HK3.out)
      rw [← HS.out, ← HNS.out] at hset
      have hkp := Kp.store w6 g k (.slice A2 N C2)
      have hT6 := (HB6.out.block _ (heap_lt HT.out)).trans HT.out
      have hR6 := (HB6.out.block _ (heap_lt HR.out)).trans HR.out
      have hlR := heap_lt hR6
      have hs1' : w.heap.size + 1 < w1.heap.size := by omega
      have HT7 := Lib.hid ((hkp.block _ (heap_lt hT6) (by show ¬ _ = g; omega)).trans hT6)
      have HR7 := Lib.hid ((hkp.block _ hlR (by show ¬ _ = g; omega)).trans hR6)
      have HB7 := Lib.hid ((HB.out.trans (HB6.out.mono hB0)).trans (hkp.below (by have := HB6.out.size; omega) fun q hq => by rw [hq]; omega))
      have HSET := Lib.hid hset
      clear hset hkp hT6 hR6 hlR hx6 hx7 f6 c6 t0 t1 t2 t3 t2d fg hbd r0 hB0
      go_wp2
      go_roundw
      case rel => exact ⟨k + 1, by omega, by go_num, Lib.hid (fun g' e' _ => by cases e'; exact ⟨hg1, HSET.out⟩), HT7, HR7, HB7⟩
      case measure => simp [intOf]; omega
    · have e1 : decide (k < n) = false := decide_eq_false hlt
      obtain ⟨t0, t1, t2, t3⟩ := tape4 HT.out
      obtain ⟨x0, x1, x2, x3⟩ := tape4 HR.out
      have fr : ∀ j, wr.frozen? ⟨w.heap.size + 1, j, none⟩ = false := fun j => heap_frozen HR.out
      have hend : RdB wr Ag bs (w1.heap.size ≤ ·) := by
        rcases Nat.eq_zero_or_pos n with h0 | h0
        · have : bs = [] := List.length_eq_zero_iff.1 (by have := HN.out; omega)
          rw [this]; exact RdB.empty _ _ _
        · obtain ⟨g, e, hg, -⟩ := HV3.out h0
          rw [e]
          exact (HC.out g e h0).2.done (by have := HN.out; omega) hg
      have HEND := Lib.hid hend
      clear hend
      go_wp2
      have h := tape_set HR.out (.int .i64 lab) (.int .i64 cap) (.slice Ag n Cg) (.bool lost)
      have hkp := tape_kp wr (w.heap.size + 1) (.int .i64 lab) (.int .i64 cap) (.slice Ag n Cg) (.bool lost)
      have z0 := heap_cell (j := 0) h
      have z1 := heap_cell (j := 1) h
      have z2 := heap_cell (j := 2) h
      have z3 := heap_cell (j := 3) h
      have hrd := (HEND.out.kp hkp (fun b hb e => by omega)).mono (G' := (w.heap.size ≤ ·)) fun b hb => by omega
      exact bodyPost_ret (v := .agg #[.int .i64 lab, .int .i64 cap, .slice Ag n Cg, .bool lost]) (by simp [results, Tryd.results34, go_sem, z0, z1, z2, z3]) rfl ⟨Ag, Cg, by rw [HN.out], hrd, HB.out.trans (hkp.below (by have := HB.out.size; omega) fun q hq => by omega)⟩
end Go.Proofs.YtndofmoepjfnfaaDoor
namespace Go.Proofs.YtndofmoepjfnfaaDoor
open Go.RowKit
open Pt (Tx)

def AnsLoad (n : Int) (w : World) (e : Ending) (w' : World) : Prop := e = .returned (.int .i64 n) ∧ Below w.heap.size w w'
theorem Tp.right_of {lab cap : Int} {bs : List Tx} (h : Tp.right lab cap bs = true) : 1 ≤ lab ∧ 0 ≤ cap ∧ cap ≤ 64 ∧ (bs.length : Int) ≤ cap ∧ ∀ s ∈ bs, 1 ≤ s.length ∧ s.length ≤ 94 := by
  simp only [Tp.right, Tp.okB, Bool.and_eq_true, decide_eq_true_eq, List.all_eq_true] at h
  exact ⟨h.1.1.1.1, h.1.1.1.2, h.1.1.2, h.1.2, h.2⟩
theorem Tp.right_not {lab cap : Int} {bs : List Tx} (h : Tp.right lab cap bs = false) : lab < 1 ∨ cap < 0 ∨ 64 < cap ∨ cap < (bs.length : Int) ∨ ∃ i, ∃ hi : i < bs.length, bs[i].length < 1 ∨ 94 < bs[i].length := by
  by_cases h1 : lab < 1
  · exact .inl h1
  · by_cases h2 : cap < 0
    · exact .inr (.inl h2)
    · by_cases h3 : 64 < cap
      · exact .inr (.inr (.inl h3))
      · by_cases h4 : cap < (bs.length : Int)
        · exact .inr (.inr (.inr (.inl h4)))
        · refine .inr (.inr (.inr (.inr ?_)))
          have : ¬ (∀ s ∈ bs, 1 ≤ s.length ∧ s.length ≤ 94) := fun h5 => by
            have : Tp.right lab cap bs = true := by
              simp only [Tp.right, Tp.okB, Bool.and_eq_true, decide_eq_true_eq, List.all_eq_true]
              exact ⟨⟨⟨⟨by omega, by omega⟩, by omega⟩, by omega⟩, h5⟩
            rw [h] at this; cases this
          rw [Classical.not_forall] at this
          obtain ⟨s, hs⟩ := this
          rw [Classical.not_imp] at hs
          obtain ⟨i, hi, rfl⟩ := List.mem_iff_getElem.1 hs.1
          exact ⟨i, hi, by have := hs.2; omega⟩
theorem refLoad_ok (lab cap : Int) (A : Option Addr) (bs : List Tx) (C : Nat) (G : Nat → Prop) (w : World) (hr : RdB w A bs G) (hT : Tp.right lab cap bs = true) :
    Calls Tryd.prog 20 #[.agg #[.int .i64 lab, .int .i64 cap, .slice A bs.length C, .bool false]] w (AnsLoad 0 w) := by
  have hB : Below w.heap.size w (w.alloc (.cells #[.int .i64 lab, .int .i64 cap, .slice A bs.length C, .bool false] 35)) := (Below.refl _ _).alloc (Nat.le_refl _) _
  have hr' := hr.old hB
  have HB := Lib.hid hB
  obtain ⟨h1, h2, h3, h4, h5⟩ := Tp.right_of hT
  have d1 : decide (lab < 1) = false := decide_eq_false (by omega)
  have d2 : decide (cap < 0) = false := decide_eq_false (by omega)
  have d3 : decide (64 < cap) = false := decide_eq_false (by omega)
  have d4 : decide (cap < (bs.length : Int)) = false := decide_eq_false (by omega)
  have H5 := Lib.hid h5
  clear h5 hr hB
  go_enter Tryd.func20, Tryd.ntmps20
  go_wp2
  go_loop [3] (fun i => ∃ k : Nat, k ≤ bs.length ∧ i = .int .i64 (k : Int)) (fun i => bs.length - (intOf i).toNat)
  case atStart => exact ⟨0, Nat.zero_le _, rfl⟩
  case round =>
    obtain ⟨k, hk, rfl⟩ := hrel
    by_cases hlt : k < bs.length
    · obtain ⟨b, off, A', C', rfl, _, hc, _⟩ := hr'.at_ hlt
      have hs := H5.out bs[k] (List.getElem_mem hlt)
      have e1 : decide ((bs[k].length : Int) < 1) = false := decide_eq_false (by omega)
      have e2 : decide (94 < (bs[k].length : Int)) = false := decide_eq_false (by omega)
      go_wp2
      go_round
      case rel => exact ⟨k + 1, by omega, by go_num⟩
      case measure => simp [intOf]; omega
    · go_wp2
      go_ret
      exact ⟨rfl, HB.out⟩
theorem refLoad_lost (lab cap : Int) (A : Option Addr) (bs : List Tx) (C : Nat) (G : Nat → Prop) (w : World) (hr : RdB w A bs G) (hT : Tp.right lab cap bs = true) :
    Calls Tryd.prog 20 #[.agg #[.int .i64 lab, .int .i64 cap, .slice A bs.length C, .bool true]] w (AnsLoad 9 w) := by
  have hB : Below w.heap.size w (w.alloc (.cells #[.int .i64 lab, .int .i64 cap, .slice A bs.length C, .bool true] 35)) := (Below.refl _ _).alloc (Nat.le_refl _) _
  have hr' := hr.old hB
  have HB := Lib.hid hB
  obtain ⟨h1, h2, h3, h4, h5⟩ := Tp.right_of hT
  have d1 : decide (lab < 1) = false := decide_eq_false (by omega)
  have d2 : decide (cap < 0) = false := decide_eq_false (by omega)
  have d3 : decide (64 < cap) = false := decide_eq_false (by omega)
  have d4 : decide (cap < (bs.length : Int)) = false := decide_eq_false (by omega)
  have H5 := Lib.hid h5
  clear h5 hr hB
  go_enter Tryd.func20, Tryd.ntmps20
  go_wp2
  go_loop [3] (fun i => ∃ k : Nat, k ≤ bs.length ∧ i = .int .i64 (k : Int)) (fun i => bs.length - (intOf i).toNat)
  case atStart => exact ⟨0, Nat.zero_le _, rfl⟩
  case round =>
    obtain ⟨k, hk, rfl⟩ := hrel
    by_cases hlt : k < bs.length
    · obtain ⟨b, off, A', C', rfl, _, hc, _⟩ := hr'.at_ hlt
      have hs := H5.out bs[k] (List.getElem_mem hlt)
      have e1 : decide ((bs[k].length : Int) < 1) = false := decide_eq_false (by omega)
      have e2 : decide (94 < (bs[k].length : Int)) = false := decide_eq_false (by omega)
      go_wp2
      go_round
      case rel => exact ⟨k + 1, by omega, by go_num⟩
      case measure => simp [intOf]; omega
    · go_wp2
      go_ret
      exact ⟨rfl, HB.out⟩
theorem refLoad_arg (lab cap : Int) (A : Option Addr) (bs : List Tx) (C : Nat) (lost : Bool) (G : Nat → Prop) (w : World) (hr : RdB w A bs G) (hT : Tp.right lab cap bs = false) :
    Calls Tryd.prog 20 #[.agg #[.int .i64 lab, .int .i64 cap, .slice A bs.length C, .bool lost]] w (AnsLoad 1 w) := by
  have hB : Below w.heap.size w (w.alloc (.cells #[.int .i64 lab, .int .i64 cap, .slice A bs.length C, .bool lost] 35)) := (Below.refl _ _).alloc (Nat.le_refl _) _
  have hr' := hr.old hB
  have HB := Lib.hid hB
  have HN := Lib.hid (Tp.right_not hT)
  clear hr hT hB
  by_cases h1 : lab < 1
  · have d1 : decide (lab < 1) = true := decide_eq_true h1
    go_enter Tryd.func20, Tryd.ntmps20
    go_wp2
    go_ret
    exact ⟨rfl, HB.out⟩
  have d1 : decide (lab < 1) = false := decide_eq_false (by omega)
  by_cases h2 : cap < 0
  · have d2 : decide (cap < 0) = true := decide_eq_true h2
    go_enter Tryd.func20, Tryd.ntmps20
    go_wp2
    go_ret
    exact ⟨rfl, HB.out⟩
  have d2 : decide (cap < 0) = false := decide_eq_false (by omega)
  by_cases h3 : 64 < cap
  · have d3 : decide (64 < cap) = true := decide_eq_true h3
    go_enter Tryd.func20, Tryd.ntmps20
    go_wp2
    go_ret
    exact ⟨rfl, HB.out⟩
  have d3 : decide (64 < cap) = false := decide_eq_false (by omega)
  by_cases h4 : cap < (bs.length : Int)
  · have d4 : decide (cap < (bs.length : Int)) = true := decide_eq_true h4
    go_enter Tryd.func20, Tryd.ntmps20
    go_wp2
    go_ret
    exact ⟨rfl, HB.out⟩
  have d4 : decide (cap < (bs.length : Int)) = false := decide_eq_false (by omega)
  obtain ⟨i0, hi0, hbad⟩ : ∃ i, ∃ hi : i < bs.length, bs[i].length < 1 ∨ 94 < bs[i].length := by
    rcases HN.out with h | h | h | h | h
    · omega
    · omega
    · omega
    · omega
    · exact h
  have HX := Lib.hid hbad
  clear HN hbad
  go_enter Tryd.func20, Tryd.ntmps20
  go_wp2
  go_loop [3] (fun i => ∃ k : Nat, k ≤ i0 ∧ i = .int .i64 (k : Int)) (fun i => bs.length - (intOf i).toNat)
  case atStart => exact ⟨0, Nat.zero_le _, rfl⟩
  case round =>
    obtain ⟨k, hk, rfl⟩ := hrel
    have hlt : k < bs.length := by omega
    obtain ⟨b, off, A', C', rfl, _, hc, _⟩ := hr'.at_ hlt
    by_cases hs1 : bs[k].length < 1
    · have e1 : decide ((bs[k].length : Int) < 1) = true := decide_eq_true (by omega)
      go_wp2
      go_ret
      exact ⟨rfl, HB.out⟩
    · have e1 : decide ((bs[k].length : Int) < 1) = false := decide_eq_false (by omega)
      by_cases hs2 : 94 < bs[k].length
      · have e2 : decide (94 < (bs[k].length : Int)) = true := decide_eq_true (by omega)
        go_wp2
        go_ret
        exact ⟨rfl, HB.out⟩
      · have e2 : decide (94 < (bs[k].length : Int)) = false := decide_eq_false (by omega)
        have hne : k ≠ i0 := by rintro rfl; have := HX.out; omega
        go_wp2
        go_round
        case rel => exact ⟨k + 1, by omega, by go_num⟩
        case measure => simp [intOf]; omega
theorem refLoad_any (lab cap : Int) (A : Option Addr) (bs : List Tx) (n C : Nat) (lost : Bool) (G : Nat → Prop) (w : World) (hn : n = bs.length) (hr : RdB w A bs G) :
    Calls Tryd.prog 20 #[.agg #[.int .i64 lab, .int .i64 cap, .slice A n C, .bool lost]] w (AnsLoad (Tp.loadE lab cap bs lost) w) := by
  subst hn
  unfold Tp.loadE
  cases h : Tp.right lab cap bs with
  | false => exact refLoad_arg lab cap A bs C lost G w hr h
  | true =>
    cases lost with
    | false => exact refLoad_ok lab cap A bs C G w hr h
    | true => exact refLoad_lost lab cap A bs C G w hr h
end Go.Proofs.YtndofmoepjfnfaaDoor
namespace Go.Proofs.YtndofmoepjfnfaaDoor
open Go.RowKit
open Pt (Tx)

set_option maxRecDepth 100000 in
theorem right_yes (lab cap : Int) (A : Option Addr) (bs : List Tx) (C : Nat) (lost : Bool) (G : Nat → Prop) (w : World) (hr : RdB w A bs G) (hT : Tp.right lab cap bs = true) :
    Calls Tryd.prog 46 #[.agg #[.int .i64 lab, .int .i64 cap, .slice A bs.length C, .bool lost]] w (AnsB true w) := by
  obtain ⟨h1, h2, h3, h4, h5⟩ := Tp.right_of hT
  have d1 : decide (lab < 1) = false := decide_eq_false (by omega)
  have d2 : decide (cap < 0) = false := decide_eq_false (by omega)
  have d3 : decide (64 < cap) = false := decide_eq_false (by omega)
  have d4 : decide (cap < (bs.length : Int)) = false := decide_eq_false (by omega)
  have hB : Below w.heap.size w (w.alloc (.cells #[.int .i64 lab, .int .i64 cap, .slice A bs.length C, .bool lost] 35)) := (Below.refl _ _).alloc (Nat.le_refl _) _
  have hr' := hr.old hB
  have H5 := Lib.hid h5
  clear h5 hr
  go_enter Tryd.func46, Tryd.ntmps46
  go_wp2
  go_loop [29] (fun i => ∃ k : Nat, k ≤ bs.length ∧ i = .int .i64 (k : Int)) (fun i => bs.length - (intOf i).toNat)
  case atStart => exact ⟨0, Nat.zero_le _, rfl⟩
  case round =>
    obtain ⟨k, hk, rfl⟩ := hrel
    by_cases hlt : k < bs.length
    · obtain ⟨b, off, A', C', rfl, _, hc, _⟩ := hr'.at_ hlt
      have hs := H5.out bs[k] (List.getElem_mem hlt)
      go_wp2_with (go_at_call 49; refine (rightBlock_yes _ _ _ _ hs.1 hs.2).mono ?_; rintro e w' ⟨rfl, rfl⟩)
      go_round
      case rel => exact ⟨k + 1, by omega, by go_num⟩
      case measure => simp [intOf]; omega
    · go_wp2
      go_ret
      exact ⟨rfl, hB⟩
set_option maxRecDepth 100000 in
theorem right_no (lab cap : Int) (A : Option Addr) (bs : List Tx) (C : Nat) (lost : Bool) (G : Nat → Prop) (w : World) (hr : RdB w A bs G) (hT : Tp.right lab cap bs = false) :
    Calls Tryd.prog 46 #[.agg #[.int .i64 lab, .int .i64 cap, .slice A bs.length C, .bool lost]] w (AnsB false w) := by
  have hB : Below w.heap.size w (w.alloc (.cells #[.int .i64 lab, .int .i64 cap, .slice A bs.length C, .bool lost] 35)) := (Below.refl _ _).alloc (Nat.le_refl _) _
  have hr' := hr.old hB
  have HN := Lib.hid (Tp.right_not hT)
  clear hr hT
  by_cases h1 : lab < 1
  · have d1 : decide (lab < 1) = true := decide_eq_true h1
    go_enter Tryd.func46, Tryd.ntmps46
    go_wp2
    go_ret
    exact ⟨rfl, hB⟩
  have d1 : decide (lab < 1) = false := decide_eq_false (by omega)
  by_cases h2 : cap < 0
  · have d2 : decide (cap < 0) = true := decide_eq_true h2
    go_enter Tryd.func46, Tryd.ntmps46
    go_wp2
    go_ret
    exact ⟨rfl, hB⟩
  have d2 : decide (cap < 0) = false := decide_eq_false (by omega)
  by_cases h3 : 64 < cap
  · have d3 : decide (64 < cap) = true := decide_eq_true h3
    go_enter Tryd.func46, Tryd.ntmps46
    go_wp2
    go_ret
    exact ⟨rfl, hB⟩
  have d3 : decide (64 < cap) = false := decide_eq_false (by omega)
  by_cases h4 : cap < (bs.length : Int)
  · have d4 : decide (cap < (bs.length : Int)) = true := decide_eq_true h4
    go_enter Tryd.func46, Tryd.ntmps46
    go_wp2
    go_ret
    exact ⟨rfl, hB⟩
  have d4 : decide (cap < (bs.length : Int)) = false := decide_eq_false (by omega)
  obtain ⟨i0, hi0, hbad⟩ : ∃ i, ∃ hi : i < bs.length, bs[i].length < 1 ∨ 94 < bs[i].length := by
    rcases HN.out with h | h | h | h | h
    · omega
    · omega
    · omega
    · omega
    · exact h
  have HX := Lib.hid hbad
  clear HN hbad
  go_enter Tryd.func46, Tryd.ntmps46
  go_wp2
  go_loop [29] (fun i => ∃ k : Nat, k ≤ i0 ∧ i = .int .i64 (k : Int)) (fun i => bs.length - (intOf i).toNat)
  case atStart => exact ⟨0, Nat.zero_le _, rfl⟩
  case round =>
    obtain ⟨k, hk, rfl⟩ := hrel
    have hlt : k < bs.length := by omega
    obtain ⟨b, off, A', C', rfl, _, hc, _⟩ := hr'.at_ hlt
    by_cases hs : bs[k].length < 1 ∨ 94 < bs[k].length
    · go_wp2_with (go_at_call 49; refine (rightBlock_no _ _ _ _ hs).mono ?_; rintro e w' ⟨rfl, rfl⟩)
      go_ret
      exact ⟨rfl, hB⟩
    · have hne : k ≠ i0 := by rintro rfl; exact hs HX.out
      go_wp2_with (go_at_call 49; refine (rightBlock_yes _ _ _ _ (by omega) (by omega)).mono ?_; rintro e w' ⟨rfl, rfl⟩)
      go_round
      case rel => exact ⟨k + 1, by omega, by go_num⟩
      case measure => simp [intOf]; omega
end Go.Proofs.YtndofmoepjfnfaaDoor
namespace Go.Proofs.YtndofmoepjfnfaaDoor
open Go.RowKit
open Pt (Tx)

set_option maxRecDepth 100000 in
theorem below_drewN {B : Nat} {a b : World} (h : Below B a b) (n : Nat) : Below B a (b.drewN n) := ⟨h.os, h.tape, h.output, h.size, h.block⟩
set_option maxRecDepth 100000 in
theorem boxed {w w1 : World} {c : Array Value} {t : TypeId} (hb : Below (w.alloc (.cells c t)).heap.size (w.alloc (.cells c t)) w1) (j : Nat) : w1.cell? ⟨w.heap.size, j, none⟩ = c[j]? :=
  (hb.cell (p := ⟨w.heap.size, j, none⟩) (by simp)).trans (World.cell?_alloc_new _ _ _ _)
def LoadNo (k : Int) (w : World) (e : Ending) (w' : World) : Prop := e = .returned (.tuple #[.pointer none, .int .i64 k]) ∧ Below w.heap.size w w'
def LoadOk (lab cap : Int) (bs : List Tx) (w : World) (e : Ending) (w' : World) : Prop := ∃ g, e = .returned (.tuple #[.pointer (some ⟨g, 0, none⟩), .int .i64 0]) ∧ w.heap.size ≤ g ∧ Dr w' g lab cap bs ∧ Below w.heap.size w w'
set_option maxRecDepth 100000 in
theorem load_arg (lab cap : Int) (A : Option Addr) (bs : List Tx) (C : Nat) (lost : Bool) (G : Nat → Prop) (w : World) (hr : RdB w A bs G) (hT : Tp.right lab cap bs = false) :
    Calls Tryd.prog 33 #[.agg #[.int .i64 lab, .int .i64 cap, .slice A bs.length C, .bool lost]] w (LoadNo 1 w) := by
  have hB : Below w.heap.size w (w.alloc (.cells #[.int .i64 lab, .int .i64 cap, .slice A bs.length C, .bool lost] 35)) := (Below.refl _ _).alloc (Nat.le_refl _) _
  have hr' := hr.old hB
  clear hr
  go_enter Tryd.func33, Tryd.ntmps33
  go_wp2_with (go_at_call 46; refine (right_no lab cap A bs C lost G _ hr' hT).mono ?_; rintro e w1 ⟨rfl, hb⟩; have HB := Lib.hid hb; clear hb)
  go_ret2
  exact ⟨rfl, hB.trans (HB.out.mono (by simp))⟩
set_option maxRecDepth 100000 in
theorem load_lost (lab cap : Int) (A : Option Addr) (bs : List Tx) (C : Nat) (G : Nat → Prop) (w : World) (hr : RdB w A bs G) (hT : Tp.right lab cap bs = true) :
    Calls Tryd.prog 33 #[.agg #[.int .i64 lab, .int .i64 cap, .slice A bs.length C, .bool true]] w (LoadNo 9 w) := by
  have hB : Below w.heap.size w (w.alloc (.cells #[.int .i64 lab, .int .i64 cap, .slice A bs.length C, .bool true] 35)) := (Below.refl _ _).alloc (Nat.le_refl _) _
  have hr' := hr.old hB
  clear hr
  go_enter Tryd.func33, Tryd.ntmps33
  go_wp2_with (go_at_call 46; refine (right_yes lab cap A bs C true G _ hr' hT).mono ?_; rintro e w1 ⟨rfl, hb⟩; have HB := Lib.hid hb; have hc3 : w1.cell? ⟨w.heap.size, 3, none⟩ = some (.bool true) := boxed hb 3; clear hb)
  go_ret2
  exact ⟨rfl, hB.trans (HB.out.mono (by simp))⟩
/-- the cells of a drive with nothing in it -/
def dz : Array Value := #[.int .i64 0, .int .i64 0, .int .i64 0] ++ Array.replicate 64 (.string ⟨#[]⟩)
set_option maxRecDepth 100000 in
theorem dz_size : dz.size = 67 := rfl
set_option maxRecDepth 100000 in
theorem dz_ne : ¬ dz = #[] := fun h => by have := congrArg Array.size h; rw [dz_size] at this; cases this
set_option maxRecDepth 100000 in
theorem zero_drive (w : World) : (zeroValue 99).run Tryd.prog w = .ok (.agg dz) w := by kernel_rfl
set_option maxRecDepth 100000 in
theorem load_ok (lab cap : Int) (A : Option Addr) (bs : List Tx) (C : Nat) (G : Nat → Prop) (w : World) (hr : RdB w A bs G) (hT : Tp.right lab cap bs = true) :
    Calls Tryd.prog 33 #[.agg #[.int .i64 lab, .int .i64 cap, .slice A bs.length C, .bool false]] w (LoadOk lab cap bs w) := by
  have hB : Below w.heap.size w (w.alloc (.cells #[.int .i64 lab, .int .i64 cap, .slice A bs.length C, .bool false] 35)) := (Below.refl _ _).alloc (Nat.le_refl _) _
  have hr' := hr.old hB
  have HR := Lib.hid (Tp.right_of hT)
  have z1 := dz_size
  have z2 := dz_ne
  have z3 := zero_drive
  go_enter Tryd.func33, Tryd.ntmps33
  go_wp2_with (go_at_call 46; refine (right_yes lab cap A bs C false G _ hr' hT).mono ?_; rintro e w1 ⟨rfl, hb⟩; have HB := Lib.hid hb; have hz : w.heap.size < w1.heap.size := (by have := hb.size; simp at this; omega); have hc0 : w1.cell? ⟨w.heap.size, 0, none⟩ = some (.int .i64 lab) := boxed hb 0; have hc1 : w1.cell? ⟨w.heap.size, 1, none⟩ = some (.int .i64 cap) := boxed hb 1; have hc2 : w1.cell? ⟨w.heap.size, 2, none⟩ = some (.slice A bs.length C) := boxed hb 2; have hc3 : w1.cell? ⟨w.heap.size, 3, none⟩ = some (.bool false) := boxed hb 3; clear hb)
  have HG : Hid (RdB w1 A bs (· < w1.heap.size)) := Lib.hid ((hr'.old HB.out).in_.mono fun _ h => h.2)
  have hD0 : DrK (w1.alloc (.cells (((dz.setIfInBounds 0 (.int .i64 lab)).setIfInBounds 1 (.int .i64 cap)).setIfInBounds 2 (.int .i64 (bs.length : Int))) 99)) w1.heap.size lab cap (bs.length : Int) (bs.take 0) := by
    refine ⟨_, Go.Deep.blk_alloc_new _ _, by simp [dz_size], ?_, ?_, ?_, fun j hj => by simp at hj⟩
    · simp [dz_size]
    · simp [dz_size]
    · simp [dz_size]
  have HD0 := Lib.hid hD0
  have hl64 : bs.length ≤ 64 := by have := HR.out; omega
  clear hD0 hc0 hc1 hc2 hc3 z1 z2 z3 hr hr' hT
  go_loopw [24] (fun i wr => ∃ k : Nat, k ≤ bs.length ∧ i = .int .i64 (k : Int) ∧ Hid (DrK wr w1.heap.size lab cap (bs.length : Int) (bs.take k)) ∧ Hid (Below w1.heap.size w1 wr)) (fun i _ => bs.length - (intOf i).toNat)
  case atStart => exact ⟨0, Nat.zero_le _, rfl, HD0, Lib.hid ((Below.refl _ _).alloc (Nat.le_refl _) _)⟩
  case round =>
    obtain ⟨k, hk, rfl, HD, HW⟩ := hrel
    by_cases hlt : k < bs.length
    · obtain ⟨b, off, A', C', rfl, _, hc, _, _, hR⟩ := (HG.out.below HW.out).at_ hlt
      have hl : (bs.take k).length = k := by simp; omega
      obtain ⟨v, cx⟩ := HD.out.cx (j := k) (by omega)
      have fx := HD.out.fr (3 + k)
      have hst := RdL.str (w := wr.drew) (hR.keep fun _ _ _ h => h) C'
      have HP : Hid (DrK (wr.setCell ⟨w1.heap.size, 3 + k, none⟩ (.string (tx bs[k]))) w1.heap.size lab cap (bs.length : Int) (bs.take (k + 1))) := Lib.hid (by
        have := HD.out.push (by omega) bs[k] hl.symm
        rw [List.take_append_getElem] at this
        exact this)
      have l4 : k < 64 := by omega
      have l5 : (k : Int) < 64 := by omega
      clear hl hR
      go_wp2
      refine wp_region_still_tail 7 (by kernel_rfl) (by kernel_rfl) ?_
      simp only [List.take_succ_cons, List.take_zero, List.drop_succ_cons, List.drop_zero]
      repeat (first | still_step)
      refine wpStill_nil ?_
      change wpList _ _ _ _ _ wr.drew
      go_wp2
      go_roundw
      case rel => exact ⟨k + 1, by omega, by go_num, Lib.hid (HP.out.of_block rfl), Lib.hid ((HW.out.setCell (Nat.le_refl _) _).drew)⟩
      case measure => simp [intOf]; omega
    · have hk' : k = bs.length := by omega
      go_wp2
      go_ret2
      have hD := HD.out
      rw [hk', List.take_length] at hD
      obtain ⟨r1, r2, r3, r4, r5⟩ := HR.out
      exact ⟨w1.heap.size, rfl, Nat.le_of_lt hz, ⟨hD, r2, r3, r4, r5⟩, (hB.trans (HB.out.mono (by simp))).trans (HW.out.mono (Nat.le_of_lt hz))⟩
end Go.Proofs.YtndofmoepjfnfaaDoor
