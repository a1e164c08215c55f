/- What the document's own ReadSeal answers. -/
import Derived.Test.YtdllkbjbklhigaaDoorRefScBytes
import Derived.Test.YtdllkbjbklhigaaDoorScRead
import Derived.Test.YtdllkbjbklhigaaDoorRefWay
import Derived.Test.YtdllkbjbklhigaaDoorFmStep
import Derived.Deep.RegionLaw
import Derived.Deep.AppendLies
import Derived.Deep.LoopGhost
namespace Go.Proofs.YtdllkbjbklhigaaDoor
open Go.RowKit
open Pt (Tx)

theorem cellsZ_one {l : List Int} : ∀ u ∈ cellsZ l, u.oneCell' = true := by
  intro u hu
  simp only [cellsZ, List.mem_map] at hu
  obtain ⟨x, _, rfl⟩ := hu
  rfl
theorem cellsZ_some {l : List Int} {j : Nat} {u : Value} (h : (cellsZ l)[j]? = some u) : ∃ hj : j < l.length, u = .int .i64 l[j] := by
  obtain ⟨hj, e⟩ := List.getElem?_eq_some_iff.1 h
  have hj' : j < l.length := by rwa [cellsZ_len] at hj
  refine ⟨hj', ?_⟩
  rw [cellsZ_get hj'] at h
  exact (Option.some.inj h).symm
/-- v is a slice of the call's own that holds the numbers l -/
def OwnZ (w : World) (base : Nat) (v : Value) (l : List Int) : Prop := w.ownsRow base 3 1 v l.length (cellsZ l)
namespace OwnZ
variable {w w' : World} {base : Nat} {v : Value} {l : List Int}
theorem nil (w : World) (base : Nat) : OwnZ w base (.slice none 0 0) [] := World.ownsRow_nil _ _ _ _
theorem rd (h : OwnZ w base v l) : ∃ A C, v = .slice A l.length C ∧ l.length ≤ C ∧ C ≤ maxLen ∧ (A = none → l.length = 0 ∧ C = 0) ∧ RdZ w A l (base ≤ ·) := by
  rcases h.2 with ⟨rfl, h0⟩ | ⟨g, cap, cur, rfl, hb, hg, hnc, hcm, hs, ht⟩
  · have : l = [] := List.length_eq_zero_iff.1 h0
    subst this
    exact ⟨none, 0, rfl, Nat.le_refl _, by decide, fun _ => ⟨rfl, rfl⟩, RdZ.empty _ _ _⟩
  · refine ⟨_, cap, rfl, hnc, hcm, (fun h => by cases h), fun _ => ⟨g, 0, rfl, hb, fun j hj => ?_⟩⟩
    have hx := cellsZ_get hj
    rw [← ht, List.getElem?_take, if_pos (by omega), Array.getElem?_toList] at hx
    simp [World.cell?, hg, hx]
theorem lo (h : OwnZ w base v l) : ∀ k, v.ownBlock = some k → base ≤ k := fun k hk => (World.ownsRow.lt h k hk).1
theorem lt (h : OwnZ w base v l) : ∀ k, v.ownBlock = some k → k < w.heap.size := fun k hk => (World.ownsRow.lt h k hk).2
theorem of_block (h : OwnZ w base v l) (hb : ∀ k, v.ownBlock = some k → w'.heap[k]? = w.heap[k]?) : OwnZ w' base v l := by
  refine ⟨h.1, ?_⟩
  rcases h.2 with h0 | ⟨g, cap, cur, rfl, hb', hg, hr⟩
  · exact .inl h0
  · exact .inr ⟨g, cap, cur, rfl, hb', (hb g rfl).trans hg, hr⟩
theorem kp {S : Nat → Prop} (h : OwnZ w base v l) (hk : Kp S w w') (hs : ∀ k, v.ownBlock = some k → ¬ S k) : OwnZ w' base v l :=
  h.of_block fun k e => hk.block k (h.lt k e) (hs k e)
end OwnZ
theorem apZ_run (w : World) (base : Nat) (v : Value) (l : List Int) (hown : OwnZ w base v l) (ad : Addr) (m c : Nat) (l' : List Int) (G : Nat → Prop) (hm : l'.length = m) (hr : RdZ w (some ad) l' G) (hb : (l.length + m) * 8 ≤ 140737488355328) (hbase : base ≤ w.heap.size) (n : Nat) (hn : n = l.length + m) :
    ∃ A' C' w', (∀ ty, (Builtin.append_ #[35, 35] ty #[v, .slice (some ad) m c]).run Tryd.prog w = .ok (.slice A' n C') w') ∧ OwnZ w' base (.slice A' n C') (l ++ l') ∧ w.grownBy w' v.ownBlock := by
  obtain ⟨i0, hi, hz0, hz1, hz2⟩ := info_parts infoI
  have hnews : ∀ j u, (cellsZ l')[j]? = some u → w.cell? (ad.add j) = some u := fun j u hu => by
    obtain ⟨hj, rfl⟩ := cellsZ_some hu
    obtain ⟨b, off, e, _, hc⟩ := hr (by omega)
    cases e
    rw [addr_add]; exact hc j hj
  obtain ⟨v', w', h1, h2, h3, _⟩ := run_append_own (P := Tryd.prog) w base 35 3 3 i0 (.int .i64 0) 1 8 Tryd.underlying35 hi hz0 hz1 hz2 rfl (by decide) v l.length (cellsZ l) hown ad m c (cellsZ l') (by rw [cellsZ_len, hm, Nat.mul_one]) hnews cellsZ_one (by unfold maxLen; omega) (by omega) hbase
  have h2' : OwnZ w' base v' (l ++ l') := by unfold OwnZ; rw [cellsZ_append, List.length_append, hm]; exact h2
  obtain ⟨A', C', rfl, _, _, _, _⟩ := h2'.rd
  have e : (l ++ l').length = n := by rw [List.length_append, hm, hn]
  refine ⟨A', C', w', fun ty => by rw [← e]; exact h1, ?_, h3⟩
  rw [← e]; exact h2'
/-- the labels so far, and what lies beside them -/
structure RowF (w : World) (gr hB : Nat) (s : Cd.St) (G : Nat → Prop) (n0 n1 n2 n3 : Int) (z : Obj) (A : Option Addr) (k C : Nat) (done : List Int) (x : World) : Prop where
  way : WayF w gr hB s G (sealObj n0 n1 n2 n3 A k C) z x
  own : OwnZ x (hB + 1) (.slice A k C) done
  len : done.length = k
theorem RowF.drew {w : World} {gr hB : Nat} {s : Cd.St} {G : Nat → Prop} {n0 n1 n2 n3 : Int} {z : Obj} {A : Option Addr} {k C : Nat} {done : List Int} {x : World} (h : RowF w gr hB s G n0 n1 n2 n3 z A k C done x) : RowF w gr hB s G n0 n1 n2 n3 z A k C done x.drew :=
  ⟨h.way.old ((Below.refl _ _).drew), h.own.of_block fun _ _ => rfl, h.len⟩
theorem RowF.step {w : World} {gr hB : Nat} {s s' : Cd.St} {G : Nat → Prop} {n0 n1 n2 n3 : Int} {z : Obj} {A : Option Addr} {k C : Nat} {done : List Int} {x ws : World} (h : RowF w gr hB s G n0 n1 n2 n3 z A k C done x) (hk : k ≤ 100) (hr : Rf ws gr s' G) (hkp : Kp (· = gr) x ws) (y : Int) :
    ∃ A' C' w', (∀ ty, (Builtin.append_ #[35, 35] ty #[.slice A k C, .slice (some ⟨ws.heap.size, 0, none⟩) 1 1]).run Tryd.prog (ws.alloc (.cells #[.int .i64 y] 3)) = .ok (.slice A' (k + 1) C') w')
      ∧ ws.cell? ⟨hB, 4, none⟩ = some (.slice A k C) ∧ (ws.alloc (.cells #[.int .i64 y] 3)).cell? ⟨hB, 4, none⟩ = some (.slice A k C) ∧ w'.cell? ⟨hB, 4, none⟩ = some (.slice A k C) ∧ w'.frozen? ⟨hB, 4, none⟩ = false
      ∧ RowF w gr hB s' G n0 n1 n2 n3 z A' (k + 1) C' (done ++ [y]) (w'.setCell ⟨hB, 4, none⟩ (.slice A' (k + 1) C')) := by
  have hw := h.way.red hr hkp
  have hlo := hw.lo
  have hne := hw.ne
  have hbl : Below ws.heap.size ws (ws.alloc (.cells #[.int .i64 y] 3)) := (Below.refl _ _).alloc (Nat.le_refl _) _
  have hwa := hw.old hbl
  have ho1 : OwnZ ws (hB + 1) (.slice A k C) done := h.own.kp hkp (fun b hb e => by have := h.own.lo b hb; omega)
  have ho2 : OwnZ (ws.alloc (.cells #[.int .i64 y] 3)) (hB + 1) (.slice A k C) done := ho1.of_block fun b hb => hbl.block b (ho1.lt b hb)
  have hrd : RdZ (ws.alloc (.cells #[.int .i64 y] 3)) (some ⟨ws.heap.size, 0, none⟩) [y] (· = ws.heap.size) := RdZ.of_cells (m := []) (fr := (0, 0)) (by
    refine (Go.Deep.blk_alloc_new ws _).trans ?_
    simp [cellsZ])
  have hsz : hB + 1 ≤ (ws.alloc (.cells #[.int .i64 y] 3)).heap.size := by have := heap_lt hwa.hd; omega
  obtain ⟨A', C', w', h1, h2, h3⟩ := apZ_run _ (hB + 1) _ done ho2 ⟨ws.heap.size, 0, none⟩ 1 1 [y] _ rfl hrd (by have := h.len; omega) hsz (k + 1) (by rw [h.len])
  have hkg : Kp (fun b => (Value.slice A k C).ownBlock = some b) (ws.alloc (.cells #[.int .i64 y] 3)) w' := Kp.grown (Kp.refl _ _) h3 fun b hb => hb
  have hwg : WayF w gr hB s' G (sealObj n0 n1 n2 n3 A k C) z w' := hwa.kp hkg (fun e => by have := ho2.lo _ e; omega) (fun e => by have := ho2.lo _ e; omega) (fun e => by have := ho2.lo _ e; omega) (fun b hb e => by have := ho2.lo _ e; have := hwa.gs b hb; omega) (fun b e => by have := ho2.lo _ e; omega)
  have hws := hwg.set 4 (.slice A' (k + 1) C') (cs' := #[.int .i64 n0, .int .i64 n1, .int .i64 n2, .int .i64 n3, .slice A' (k + 1) C']) rfl
  refine ⟨A', C', w', h1, (seal5 hw.hd).2.2.2.2, (seal5 hwa.hd).2.2.2.2, (seal5 hwg.hd).2.2.2.2, (seal_free hwg.hd).2.2.2.2, hws, ?_, by simp [h.len]⟩
  exact h2.kp (Kp.store w' hB 4 _) (fun b hb e => by have := h2.lo b hb; omega)
/-- how far the labels are read -/
def FarF (b0 : Tx) (k : Nat) (done : List Int) (s : Cd.St) : Prop := done.length = k ∧ Rc.labs 14 b0 = done ++ Rc.labs (14 - k) s.1
theorem FarF.step {b0 : Tx} {k : Nat} {done : List Int} {s : Cd.St} (h : FarF b0 k done s) (h4 : ¬ s.1.length < 4) (hk : k < 14) : FarF b0 (k + 1) (done ++ [Cd.num (Cd.tk 4 s)]) (Cd.af 4 s) := by
  obtain ⟨h1, h2⟩ := h
  refine ⟨by simp [h1], ?_⟩
  rw [h2, show 14 - k = (14 - (k + 1)) + 1 by omega, Rc.labs_more h4, Cd.tk_yes h4, Cd.af_yes h4, List.append_assoc]; rfl
theorem FarF.done {b0 : Tx} {k : Nat} {done : List Int} {s : Cd.St} (h : FarF b0 k done s) (he : 14 - k = 0 ∨ s.1.length < 4) : done = Rc.labs 14 b0 := by
  rw [h.2, Rc.labs_end he, List.append_nil]
set_option maxRecDepth 100000 in
set_option maxHeartbeats 8000000 in
theorem refReadSeal_any (A : Option Addr) (b : Tx) (n C : Nat) (G : Nat → Prop) (w : World) (hn : n = b.length) (hC : n ≤ C) (hCm : C ≤ maxLen) (hA : A = none → n = 0 ∧ C = 0) (hr : RdL w A b G) :
    Calls Tryd.prog 18 #[.slice A n C] w (GotS b w) := by
  have HB0 : Hid (Below w.heap.size w (w.alloc (sealObj 0 0 0 0 none 0 0))) := Lib.hid ((Below.refl _ _).alloc (Nat.le_refl _) _)
  have HR : Hid (RdL w A b (· < w.heap.size)) := Lib.hid (hr.in_.mono fun _ h => h.2)
  have HN := Lib.hid hn
  have hcall := refNewReader_any A b C (· < w.heap.size) (w.alloc (sealObj 0 0 0 0 none 0 0)) (by rw [← hn]; exact hA) (by omega) hCm (HR.out.old HB0.out) (by simp)
  rw [← hn] at hcall
  obtain ⟨n0, hn0⟩ : ∃ k, k = Cd.num (Cd.tk 4 (b, false)) := ⟨_, rfl⟩
  obtain ⟨n1, hn1⟩ : ∃ k, k = (Cd.byt (Rc.r1 b)).toNat := ⟨_, rfl⟩
  obtain ⟨n2, hn2⟩ : ∃ k, k = (Cd.byt (Rc.r2 b)).toNat := ⟨_, rfl⟩
  obtain ⟨n3, hn3⟩ : ∃ k, k = (Cd.byt (Rc.r3 b)).toNat := ⟨_, rfl⟩
  have k1 : n1 < 256 := by rw [hn1]; exact (Cd.byt (Rc.r1 b)).toNat_lt
  have k2 : n2 < 256 := by rw [hn2]; exact (Cd.byt (Rc.r2 b)).toNat_lt
  have k3 : n3 < 256 := by rw [hn3]; exact (Cd.byt (Rc.r3 b)).toNat_lt
  obtain ⟨labs, hlabs⟩ : ∃ l, l = Rc.labs 14 (Rc.r4 b).1 := ⟨_, rfl⟩
  have HPA : Hid (Rc.sparse b = ⟨n0, (n1 : Int), (n2 : Int), (n3 : Int), labs⟩) := Lib.hid (by rw [hlabs, hn0, hn1, hn2, hn3]; rfl)
  have H0 := Lib.hid hn0
  have H1 := Lib.hid hn1
  have H2 := Lib.hid hn2
  have H3 := Lib.hid hn3
  have HLB := Lib.hid hlabs
  have HC := Lib.hid hcall
  clear hr hcall hn0 hn1 hn2 hn3 hlabs hn hA hC hCm
  unfold sealObj at HC
  go_enter Tryd.func18, Tryd.ntmps18
  go_wp2_with fail
  refine HC.out.mono ?_
  clear HC
  rintro e w1 ⟨rfl, hr1, hb1⟩
  obtain ⟨gr, hgr⟩ : ∃ gr, gr = (w.alloc (sealObj 0 0 0 0 none 0 0)).heap.size := ⟨_, rfl⟩
  have hgr' : gr = w.heap.size + 1 := by rw [hgr]; simp
  unfold sealObj at hgr
  rw [← hgr] at hr1 hb1 ⊢
  have HG0 : Hid (WayG w gr (b, false) (· < w.heap.size) (sealObj 0 0 0 0 none 0 0) w1) := Lib.hid ⟨hr1, (hb1.block _ (by omega)).trans (Go.Deep.blk_alloc_new _ _), HB0.out.trans (hb1.mono (by rw [hgr']; exact Nat.le_succ _)), by omega, fun x hx => by have : x < w.heap.size := hx; omega⟩
  clear hr1 hb1 hgr hgr'
  go_wp2_with fail
  have hcall := refInt_any gr (b, false) _ w1 HG0.out.rr
  rw [← H0.out] at hcall
  refine hcall.mono ?_
  clear hcall
  rintro e x0 ⟨rfl, hr, hk⟩
  have hr' : Rf x0 gr (Rc.r1 b) _ := hr
  have HG1 := Lib.hid (HG0.out.red hr' hk)
  clear hr hr' hk
  go_wp2_with fail
  have hcall := refByte_any gr (Rc.r1 b) _ x0 HG1.out.rr
  rw [← H1.out] at hcall
  refine hcall.mono ?_
  clear hcall
  rintro e x1 ⟨rfl, hr, hk⟩
  have hr' : Rf x1 gr (Rc.r2 b) _ := hr
  have HG2 := Lib.hid (HG1.out.red hr' hk)
  clear hr hr' hk
  go_wp2_with fail
  have hcall := refByte_any gr (Rc.r2 b) _ x1 HG2.out.rr
  rw [← H2.out] at hcall
  refine hcall.mono ?_
  clear hcall
  rintro e x2 ⟨rfl, hr, hk⟩
  have hr' : Rf x2 gr (Rc.r3 b) _ := hr
  have HG3 := Lib.hid (HG2.out.red hr' hk)
  clear hr hr' hk
  go_wp2_with fail
  have hcall := refByte_any gr (Rc.r3 b) _ x2 HG3.out.rr
  rw [← H3.out] at hcall
  refine hcall.mono ?_
  clear hcall
  rintro e x3 ⟨rfl, hr, hk⟩
  have hr' : Rf x3 gr (Rc.r4 b) _ := hr
  have HG4 := Lib.hid (HG3.out.red hr' hk)
  clear hr hr' hk
  obtain ⟨hB, hhB⟩ : ∃ hB, hB = x3.heap.size := ⟨_, rfl⟩
  obtain ⟨wh, hwh⟩ : ∃ wh, wh = x3.alloc (sealObj n0 (n1 : Int) (n2 : Int) (n3 : Int) none 0 0) := ⟨_, rfl⟩
  have HRO0 : Hid (RowF w gr hB (Rc.r4 b) (· < w.heap.size) n0 (n1 : Int) (n2 : Int) (n3 : Int) (sealObj 0 0 0 0 none 0 0) none 0 0 [] wh) := Lib.hid ⟨by rw [hwh, hhB]; exact HG4.out.make _, OwnZ.nil _ _, rfl⟩
  have HHB := Lib.hid hhB
  have HWH := Lib.hid hwh
  unfold sealObj at HWH
  clear hhB hwh
  go_wp2_with fail
  rw [← HWH.out, ← HHB.out]
  clear k1 k2 k3
  go_loopg [] 15 (fun gk wr => ∃ (k : Nat) (A' : Option Addr) (C' : Nat) (done : List Int) (s : Cd.St), k + gk = 15 ∧ k ≤ 14 ∧ Hid (FarF (Rc.r4 b).1 k done s) ∧ Hid (RowF w gr hB s (· < w.heap.size) n0 (n1 : Int) (n2 : Int) (n3 : Int) (sealObj 0 0 0 0 none 0 0) A' k C' done wr))
  case atStart => exact ⟨0, none, 0, [], Rc.r4 b, rfl, by omega, Lib.hid ⟨rfl, rfl⟩, HRO0⟩
  case round =>
    obtain ⟨k, A', C', done, s, hg, hk, HF, HRO⟩ := hrel
    obtain ⟨L, hL⟩ : ∃ L, L = s.1.length := ⟨_, rfl⟩
    have hcall := refLeft_any gr s _ wr HRO.out.way.rr
    rw [← hL] at hcall
    have HLE := Lib.hid hcall
    have HL := Lib.hid hL
    clear hcall hL
    obtain ⟨d0, d1, d2, d3, d4⟩ := seal5 HRO.out.way.hd
    by_cases hx : L < 4 ∨ ¬ k < 14
    · have hd := (HF.out.done (by have := HL.out; omega)).trans HLB.out.symm
      subst hd
      obtain ⟨A2, C2, e2, g1, g2, g3, g4⟩ := HRO.out.own.rd
      injection e2 with e21 e22 e23
      subst e21 e23
      have hlen := HRO.out.len
      rw [hlen] at g1 g3
      have HG4 := Lib.hid (g4.mono (fun x hx => by have := HRO.out.way.lo; have := HRO.out.way.ne; omega) : RdZ wr A' done (w.heap.size < ·))
      have HG1 := Lib.hid g1
      have HG2 := Lib.hid g2
      have HG3 := Lib.hid g3
      have HLN := Lib.hid hlen
      have hq : (decide (4 ≤ (L : Int)) = false ∧ decide (4 ≤ L) = false) ∨ (decide (4 ≤ (L : Int)) = true ∧ decide (4 ≤ L) = true ∧ decide ((k : Int) < 14) = false ∧ decide (k < 14) = false) := by
        simp only [decide_eq_true_eq, decide_eq_false_iff_not]; omega
      clear hx e22 g1 g2 g3 g4 hlen
      rcases hq with ⟨q1, q2⟩ | ⟨q1, q2, q3, q4⟩
      all_goals
        go_wp2_with (go_at_call 43; refine HLE.out.mono ?_; rintro e w' ⟨rfl, hw'⟩; subst hw')
        refine (refSealBytes_any n0 (n1 : Int) (n2 : Int) (n3 : Int) A' done k C' _ wr HLN.out.symm HG1.out HG2.out HG4.out).mono ?_
        rintro e x9 ⟨A9, m9, C9, rfl, hm9, -, -, -, hr9, hb9⟩
        have HW9 := Lib.hid (HRO.out.way.old hb9)
        have HRZ9 := Lib.hid (HG4.out.old hb9)
        clear d0 d1 d2 d3 d4 hb9
        obtain ⟨z0, z1, z2, z3, z4⟩ := seal5 HW9.out.zr
        obtain ⟨f0, f1, f2, f3, f4⟩ := seal_free HW9.out.zr
        obtain ⟨d0, d1, d2, d3, d4⟩ := seal5 HW9.out.hd
        by_cases hok : Rc.SOk ⟨n0, (n1 : Int), (n2 : Int), (n3 : Int), done⟩
        · have hput : Rc.sput ⟨n0, (n1 : Int), (n2 : Int), (n3 : Int), done⟩ = Rc.sblk (Rc.sparse b) := by rw [HPA.out]; exact Rc.sput_ok hok
          have hlen := Rc.sblk_len (Rc.sparse b)
          rw [hput] at hm9 hr9
          obtain ⟨X, hX⟩ : ∃ X, X = Rc.sblk (Rc.sparse b) := ⟨_, rfl⟩
          rw [← hX] at hm9 hr9 hlen
          have q5 : ((m9 : Int) == 0) = false := beq_eq_false_iff_ne.2 (by omega)
          have q5' : ¬ m9 = 0 := by omega
          have s1 := hr9.str C9
          have s2 := (HR.out.old HW9.out.bel).str C
          rw [← hm9] at s1
          rw [← HN.out] at s2
          have e1 := tx_toList X
          have e2 := tx_toList b
          have HX := Lib.hid hX
          have HOK := Lib.hid hok
          clear hput hlen hm9 hr9 hX hok
          by_cases hgd : X = b
          · have hgood : Rc.SGood b := ⟨by rw [HPA.out]; exact HOK.out, by rw [← HX.out]; exact hgd⟩
            have HG : Hid (Rc.sgot b = ⟨n0, (n1 : Int), (n2 : Int), (n3 : Int), done⟩) := Lib.hid ((Rc.sgot_yes hgood).trans HPA.out)
            have HGE := Lib.hid (Rc.sgotE_yes hgood)
            have q6 : (X == b) = true := beq_iff_eq.2 hgd
            have q7 : (X != b) = false := by rw [bne, q6]; rfl
            clear hgood hgd
            go_wp2
            exact bodyPost_ret (v := .tuple #[.agg #[.int .i64 n0, .int .i64 (n1 : Int), .int .i64 (n2 : Int), .int .i64 (n3 : Int), .slice A' k C'], .int .i64 0]) (by simp [results, Tryd.results18, go_sem, z0, z1, z2, z3, z4]) rfl (GotS.stored (s := ⟨n0, (n1 : Int), (n2 : Int), (n3 : Int), done⟩) HG.out HGE.out rfl HRZ9.out HLN.out.symm HG1.out HG2.out HG3.out HW9.out.bel)
          · have hbad : ¬ Rc.SGood b := fun h => hgd (by rw [HX.out]; exact h.2)
            have HG := Lib.hid (Rc.sgot_no hbad)
            have HGE := Lib.hid (Rc.sgotE_no hbad)
            have q6 : (X == b) = false := beq_eq_false_iff_ne.2 hgd
            have q7 : (X != b) = true := by rw [bne, q6]; rfl
            clear hbad hgd
            go_wp2
            exact bodyPost_ret (v := .tuple #[.agg #[.int .i64 0, .int .i64 0, .int .i64 0, .int .i64 0, .slice none 0 0], .int .i64 2]) (by simp [results, Tryd.results18, go_sem, z0, z1, z2, z3, z4]) rfl (GotS.stored (s := Rc.S.zero) HG.out HGE.out rfl (RdZ.empty _ _ _) rfl (Nat.le_refl _) (by decide) (fun _ => ⟨rfl, rfl⟩) HW9.out.bel)
        · have hbad : ¬ Rc.SGood b := fun h => hok (by have := h.1; rwa [HPA.out] at this)
          have HG := Lib.hid (Rc.sgot_no hbad)
          have HGE := Lib.hid (Rc.sgotE_no hbad)
          have hm0 : m9 = 0 := by rw [hm9, Rc.sput_no hok]; rfl
          clear hok hbad hm9 hr9
          subst hm0
          go_wp2
          exact bodyPost_ret (v := .tuple #[.agg #[.int .i64 0, .int .i64 0, .int .i64 0, .int .i64 0, .slice none 0 0], .int .i64 2]) (by simp [results, Tryd.results18, go_sem, z0, z1, z2, z3, z4]) rfl (GotS.stored (s := Rc.S.zero) HG.out HGE.out rfl (RdZ.empty _ _ _) rfl (Nat.le_refl _) (by decide) (fun _ => ⟨rfl, rfl⟩) HW9.out.bel)
    · have hL4 : ¬ L < 4 := fun h => hx (.inl h)
      have hk14 : k < 14 := by omega
      have q1 : decide (4 ≤ (L : Int)) = true := decide_eq_true (by omega)
      have q2 : decide (4 ≤ L) = true := decide_eq_true (by omega)
      have q3 : decide ((k : Int) < 14) = true := decide_eq_true (by omega)
      have q4 : decide (k < 14) = true := decide_eq_true hk14
      have HST := Lib.hid (HF.out.step (by rw [← HL.out]; exact hL4) hk14)
      have HD := Lib.hid HRO.out.drew
      have S0 := (seal5 HD.out.way.hd).2.2.2.2
      have hcl := refInt_any gr s _ wr.drew HD.out.way.rr
      obtain ⟨y, hy⟩ : ∃ y, y = Cd.num (Cd.tk 4 s) := ⟨_, rfl⟩
      rw [← hy] at hcl HST
      have HCL := Lib.hid hcl
      clear hcl hy hx hL4
      go_wp2_with (go_at_call 43; refine HLE.out.mono ?_; rintro e w' ⟨rfl, hw'⟩; subst hw')
      clear q1 q2 q3 q4 d0 d1 d2 d3 d4
      go_region_law (first
        | (refine step_append_eq (by rfl) _ _ _ _ (by rfl) _ _ _ _ hr5 (by rfl) (by rfl) ?_)
        | (go_simp; go_at_call 35; refine HCL.out.mono ?_; rintro e ws ⟨rfl, hr, hkp⟩; obtain ⟨A5, C5, w5, hr5, s1, s2, s3, s4, hro⟩ := HD.out.step (by omega) hr hkp y; have HRO5 := Lib.hid hro; clear hr hkp hro))
      all_goals
        go_wp2
        go_roundg (gk - 1)
        case measure => omega
        case rel => exact ⟨k + 1, A5, C5, done ++ [y], Cd.af 4 s, by omega, by omega, HST, HRO5⟩
end Go.Proofs.YtdllkbjbklhigaaDoor
