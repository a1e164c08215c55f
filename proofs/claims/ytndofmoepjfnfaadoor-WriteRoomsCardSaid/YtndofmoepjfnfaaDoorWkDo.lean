/- What Do of package write answers: the tapes, each with its steps' blocks behind its own. -/
import Derived.Test.YtndofmoepjfnfaaDoorWkCat
import Derived.Test.YtndofmoepjfnfaaDoorMax
import Derived.Test.YtndofmoepjfnfaaDoorMaz
import Derived.Test.YtndofmoepjfnfaaDoorMau
import Derived.Test.YtndofmoepjfnfaaDoorMao
namespace Go.Proofs.YtndofmoepjfnfaaDoor
open Go.RowKit
open Pt (Tx)

/-- tapes are laid one by one in a made row -/
structure DnT (gm n : Nat) (ts : List St.T) (x : World) : Prop where
  row : ∃ cur : Array Value, x.heap[gm]? = some (.cells cur 35 (0, 0)) ∧ n * 4 ≤ cur.size ∧ ∀ i (hi : i < ts.length), ∃ A' C', cur[i * 4]? = some (.int .i64 ts[i].label) ∧ cur[i * 4 + 1]? = some (.int .i64 ts[i].cap) ∧ cur[i * 4 + 2]? = some (.slice A' ts[i].blocks.length C') ∧ cur[i * 4 + 3]? = some (.bool ts[i].lost) ∧ RdB x A' ts[i].blocks (· ≠ gm)
theorem four_kpD (w : World) (g k : Nat) (a b c d : Value) : Kp (· = g) w ((((w.setCell ⟨g, k * 4, none⟩ a).setCell ⟨g, k * 4 + 1, none⟩ b).setCell ⟨g, k * 4 + 2, none⟩ c).setCell ⟨g, k * 4 + 3, none⟩ d) := (((Kp.store _ _ _ _).trans (Kp.store _ _ _ _)).trans (Kp.store _ _ _ _)).trans (Kp.store _ _ _ _)
namespace DnT
variable {x y : World} {gm n : Nat} {ts : List St.T}
theorem start {w : World} {cs : Array Value} (hc : n * 4 ≤ cs.size) : DnT w.heap.size n [] (w.alloc (.cells cs 35)) := ⟨⟨cs, Go.Deep.blk_alloc_new _ _, hc, fun i hi => absurd hi (by simp)⟩⟩
theorem lt (h : DnT gm n ts x) : gm < x.heap.size := by obtain ⟨cur, hg, -⟩ := h.row; exact heap_lt hg
theorem old (h : DnT gm n ts x) (hb : Below x.heap.size x y) : DnT gm n ts y := by
  obtain ⟨cur, hg, hs, hr⟩ := h.row
  refine ⟨⟨cur, (hb.block gm (heap_lt hg)).trans hg, hs, fun i hi => ?_⟩⟩
  obtain ⟨A', C', h0, h1, h2, h3, h4⟩ := hr i hi
  exact ⟨A', C', h0, h1, h2, h3, h4.old hb⟩
theorem four (h : DnT gm n ts x) {k : Nat} (hk : k < n) : (∃ v0, x.cell? ⟨gm, k * 4, none⟩ = some v0) ∧ (∃ v1, x.cell? ⟨gm, k * 4 + 1, none⟩ = some v1) ∧ (∃ v2, x.cell? ⟨gm, k * 4 + 2, none⟩ = some v2) ∧ (∃ v3, x.cell? ⟨gm, k * 4 + 3, none⟩ = some v3) ∧ ∀ j, x.frozen? ⟨gm, j, none⟩ = false := by
  obtain ⟨cur, hg, hs, _⟩ := h.row
  have hlt : k * 4 + 4 ≤ cur.size := by
    have : (k + 1) * 4 ≤ n * 4 := Nat.mul_le_mul_right _ hk
    omega
  exact ⟨⟨_, (heap_cell hg).trans (Array.getElem?_eq_getElem (by omega))⟩, ⟨_, (heap_cell hg).trans (Array.getElem?_eq_getElem (by omega))⟩, ⟨_, (heap_cell hg).trans (Array.getElem?_eq_getElem (by omega))⟩, ⟨_, (heap_cell hg).trans (Array.getElem?_eq_getElem (by omega))⟩, fun j => heap_frozen hg⟩
theorem set (h : DnT gm n ts x) {k : Nat} (hk : k = ts.length) (hkn : k < n) {t : St.T} {A : Option Addr} {C : Nat} (hr : RdB x A t.blocks (· ≠ gm)) :
    DnT gm n (ts ++ [t]) ((((x.setCell ⟨gm, k * 4, none⟩ (.int .i64 t.label)).setCell ⟨gm, k * 4 + 1, none⟩ (.int .i64 t.cap)).setCell ⟨gm, k * 4 + 2, none⟩ (.slice A t.blocks.length C)).setCell ⟨gm, k * 4 + 3, none⟩ (.bool t.lost)) := by
  obtain ⟨cur, hg, hs, hrows⟩ := h.row
  have hkp := four_kpD x gm k (.int .i64 t.label) (.int .i64 t.cap) (.slice A t.blocks.length C) (.bool t.lost)
  have hne : ∀ b, b ≠ gm → ¬ b = gm := fun b hb e => hb e
  have hlt : k * 4 + 4 ≤ cur.size := by
    have : (k + 1) * 4 ≤ n * 4 := Nat.mul_le_mul_right _ hkn
    omega
  refine ⟨⟨_, heap_set (heap_set (heap_set (heap_set hg _) _) _) _, by simpa using hs, fun i hi => ?_⟩⟩
  rw [List.length_append, List.length_singleton] at hi
  simp only [Array.getElem?_setIfInBounds, Array.size_setIfInBounds]
  by_cases e : i = k
  · have e' : (ts ++ [t])[i]'(by rw [List.length_append, List.length_singleton]; exact hi) = t := by simp [e, hk]
    rw [e']
    refine ⟨A, C, ?_, ?_, ?_, ?_, hr.kp hkp hne⟩
    · rw [e]; simp (disch := omega); omega
    · rw [e]; simp (disch := omega); omega
    · rw [e]; simp (disch := omega); omega
    · rw [e]; simp (disch := omega); omega
  · have hi' : i < ts.length := by omega
    obtain ⟨A', C', h0, h1, h2, h3, h4⟩ := hrows i hi'
    rw [List.getElem_append_left hi']
    refine ⟨A', C', ?_, ?_, ?_, ?_, h4.kp hkp hne⟩
    · rw [if_neg (by omega), if_neg (by omega), if_neg (by omega), if_neg (by omega)]; exact h0
    · rw [if_neg (by omega), if_neg (by omega), if_neg (by omega), if_neg (by omega)]; exact h1
    · rw [if_neg (by omega), if_neg (by omega), if_neg (by omega), if_neg (by omega)]; exact h2
    · rw [if_neg (by omega), if_neg (by omega), if_neg (by omega), if_neg (by omega)]; exact h3
theorem rdT (h : DnT gm n ts x) : RdT x (some ⟨gm, 0, none⟩) ts (fun _ => True) := fun _ => by
  obtain ⟨cur, hb, hs, hr⟩ := h.row
  refine ⟨gm, 0, rfl, trivial, fun i hi => ?_⟩
  obtain ⟨A', C', h0, h1, h2, h3, h4⟩ := hr i hi
  refine ⟨A', C', ?_, ?_, ?_, ?_, h4.mono fun _ _ => trivial⟩
  · rw [Nat.zero_add, heap_cell hb]; exact h0
  · rw [Nat.zero_add, heap_cell hb]; exact h1
  · rw [Nat.zero_add, heap_cell hb]; exact h2
  · rw [Nat.zero_add, heap_cell hb]; exact h3
end DnT
/-- tapes are answered that read -/
def DoP (r : List St.T × Bool) (w : World) (e : Ending) (w' : World) : Prop := ∃ A C, e = .returned (.tuple #[.slice A r.1.length C, .bool r.2]) ∧ RdT w' A r.1 (fun _ => True) ∧ Below w.heap.size w w'
/-- the steps that are done, and whether they were cut -/
theorem go_split (stop bytes : Int) (ts : List St.T) (l : List (Int × Tx)) : ∃ l' cut, Wr.go stop bytes 0 ts l = (ts.mapIdx (fun i t => Wk.ap t (Wk.mine l' i)), cut) ∧ ((cut = true ∧ ∃ k : Nat, k < l.length ∧ stop = (k : Int) ∧ l' = Wk.cutOff l k bytes) ∨ (cut = false ∧ l' = l ∧ (stop < 0 ∨ (l.length : Int) ≤ stop))) := by
  by_cases h : 0 ≤ stop ∧ stop < (l.length : Int)
  · obtain ⟨k, rfl⟩ : ∃ k : Nat, stop = (k : Int) := ⟨stop.toNat, by omega⟩
    have hk : k < l.length := by omega
    exact ⟨_, true, by rw [Wk.go_at l 0 ts k hk (by simp), Wk.fold_is], .inl ⟨rfl, k, hk, rfl, rfl⟩⟩
  · exact ⟨_, false, by rw [Wk.go_far l 0 ts (by omega), Wk.fold_is], .inr ⟨rfl, rfl, by omega⟩⟩
set_option maxRecDepth 100000 in
set_option maxHeartbeats 8000000 in
theorem do_any (ts : List St.T) (l : List (Int × Tx)) (stop bytes : Int) (A1 : Option Addr) (n1 C1 : Nat) (A2 : Option Addr) (n2 C2 : Nat) (G1 G2 : Nat → Prop) (w : World) (h1 : n1 = ts.length) (hr1 : RdT w A1 ts G1) (h2 : n2 = l.length) (hr2 : StpR w A2 l G2) (hc2 : n2 ≤ C2) (hm1 : n1 ≤ 1000) (hm2 : n2 ≤ 1000000)
    (hb1 : ∀ t ∈ ts, t.blocks.length ≤ 1000000 ∧ ∀ s ∈ t.blocks, s.length ≤ 1000000) (hb2 : ∀ x ∈ l, x.2.length ≤ 1000000) :
    Calls Tryd.prog 7 #[.slice A1 n1 C1, .slice A2 n2 C2, .int .i64 stop, .int .i64 bytes] w (DoP (Wr.go stop bytes 0 ts l) w) := by
  obtain ⟨l', cut, hgo, hcase⟩ := go_split stop bytes ts l
  obtain ⟨cs, hcs⟩ : ∃ cs : Array Value, cs = madeCells (Value.agg #[.int .i64 0, .int .i64 0, .slice none 0 0, .bool false]).cells (n1 * 4) := ⟨_, rfl⟩
  have hcsz : cs.size = n1 * 4 := by rw [hcs, size_madeCells]
  have hmk : ∀ y : World, (Instr.makeSlice 22 (.int .i64 (n1 : Int)) (.int .i64 (n1 : Int))).run Tryd.prog y = .ok (.slice (some ⟨y.heap.size, 0, none⟩) n1 n1) (y.alloc (.cells cs 35)) := fun y => by
    obtain ⟨i0, hi, hz0, hz1, hz2⟩ := info_parts infoTape
    have h := run_make (P := Tryd.prog) y 22 35 i0 _ Tryd.underlying22 hi hz0 .i64 .i64 (n1 : Int) (n1 : Int) (by omega) (Int.le_refl _) (by rw [hz2]; omega) (by omega)
    rw [hz1, Int.toNat_natCast] at h
    rw [hcs]; exact h
  -- the rest, behind whatever steps are left
  have hrl : (ts.mapIdx fun i t => Wk.ap t (Wk.mine l' i)).length = n1 := by rw [List.length_mapIdx, h1]
  have hrg : ∀ k (hk : k < ts.length), (ts.mapIdx fun i t => Wk.ap t (Wk.mine l' i))[k]? = some (Wk.ap ts[k] (Wk.mine l' k)) := fun k hk => by rw [List.getElem?_mapIdx, List.getElem?_eq_getElem hk]; rfl
  obtain ⟨R, hR⟩ : ∃ R, R = ts.mapIdx fun i t => Wk.ap t (Wk.mine l' i) := ⟨_, rfl⟩
  rw [← hR] at hgo hrl hrg
  have HGO := Lib.hid hgo
  have HRL := Lib.hid hrl
  have HRG := Lib.hid hrg
  have HL1 := Lib.hid h1
  have HL2 := Lib.hid h2
  have HR1 := Lib.hid hr1
  have HR2 := Lib.hid hr2
  have HB1 := Lib.hid hb1
  have HB2 := Lib.hid hb2
  have HCSZ := Lib.hid hcsz
  have HMK := Lib.hid hmk
  have hlen' : l'.length ≤ n2 := by
    rcases hcase with ⟨-, k, hk, -, rfl⟩ | ⟨-, rfl, -⟩
    · rw [Wk.cutOff_len hk]; omega
    · omega
  clear hgo hrl hrg h1 h2 hr1 hr2 hb1 hb2 hcsz hcs hmk hR
  go_enter Tryd.func7, Tryd.ntmps7
  go_upto_region 1 with fail
  rcases hcase with ⟨rfl, q, hq, hst, hl'⟩ | ⟨rfl, hl', hst⟩
  · have d0 : decide ((0 : Int) ≤ stop) = true := decide_eq_true (by omega)
    have d1 : decide (stop < (n2 : Int)) = true := decide_eq_true (by have := HL2.out; omega)
    have HCU := Lib.hid (cutOff_any A2 l n2 C2 _ q bytes w HL2.out hm2 hc2 (by have := HL2.out; omega) HR2.out HB2.out)
    rw [← hl', ← hst] at HCU
    have hcutd : True := trivial
    clear hq hst hl'
    go_upto_region 4 with (go_at_call 15; refine HCU.out.mono ?_; rintro e wx ⟨Ax, Cx, rfl, hsx, hbx⟩; have HSTP := Lib.hid hsx; have HBX := Lib.hid hbx; clear hsx hbx)
    obtain ⟨mx, hmx⟩ : ∃ mx, mx = l'.length := ⟨_, rfl⟩
    have HMX := Lib.hid hmx
    rw [← hmx] at hlen' ⊢
    clear hmx
    have HBY := Lib.hid (byTape_any Ax l' mx Cx _ n1 wx HMX.out (by omega) (by omega) HSTP.out)
    have hmkd := HMK.out
    go_upto_region 5 with (go_at_call 16; refine HBY.out.mono ?_; rintro e w3 ⟨gB, rfl, hby, hb3⟩; have HB3 := Lib.hid (HBX.out.trans (hb3.mono HBX.out.size)); have HBYT := Lib.hid hby; have hlB : gB < w3.heap.size := hby.lt; have HLO := Lib.hid hby.lo; clear hby hb3)
    obtain ⟨w4, hw4⟩ : ∃ x, x = w3.alloc (.cells cs 35) := ⟨_, rfl⟩
    have hb4 : Below w3.heap.size w3 w4 := by rw [hw4]; exact (Below.refl _ _).alloc (Nat.le_refl _) _
    have HD4 : Hid (DnT w3.heap.size n1 (R.take 0) w4) := Lib.hid (by rw [hw4]; exact DnT.start (by rw [HCSZ.out]; exact Nat.le_refl _))
    have HBY4 := Lib.hid (HBYT.out.old hb4)
    have HB4 := Lib.hid (HB3.out.trans (hb4.mono HB3.out.size))
    have HW4 := Lib.hid hw4
    clear hb4 hw4 hcutd
    go_wp2
    rw [← HW4.out]
    clear hmkd
    obtain ⟨gm, hgm⟩ : ∃ gm, gm = w3.heap.size := ⟨_, rfl⟩
    rw [← hgm] at HD4 hlB ⊢
    have HGM : Hid (w.heap.size ≤ gm) := Lib.hid (by rw [hgm]; exact HB3.out.size)
    clear hgm
    go_loopw [37] (fun vi wr => ∃ (k : Nat), k ≤ n1 ∧ vi = .int .i64 (k : Int) ∧ Hid (DnT gm n1 (R.take k) wr) ∧ Hid (ByT wx.heap.size gB n1 (Wk.mine l') wr) ∧ Hid (Below w.heap.size w wr)) (fun vi _ => n1 - (intOf vi).toNat)
    case atStart => exact ⟨0, Nat.zero_le _, rfl, HD4, HBY4, HB4⟩
    case round =>
      obtain ⟨k, hk, rfl, HD, HT, HB⟩ := hrel
      by_cases hlt : k < n1
      · have e1 : decide (k < n1) = true := decide_eq_true hlt
        have hltT : k < ts.length := by rw [← HL1.out]; exact hlt
        obtain ⟨b, off, A', C', rfl, -, c0, c1, c2, c3, hrB⟩ := (HR1.out.old HB.out).at_ hltT
        have hbl := HB1.out ts[k] (List.getElem_mem hltT)
        obtain ⟨AB, CB, d0, hrd⟩ := HT.out.at_ hlt
        have hRk := HRG.out k hltT
        obtain ⟨lab, cap, bs, lost, ht⟩ : ∃ lab cap bs lost, ts[k] = ⟨lab, cap, bs, lost⟩ := ⟨_, _, _, _, rfl⟩
        rw [ht] at c0 c1 c2 c3 hrB hbl hRk
        dsimp only at c0 c1 c2 c3 hrB hbl
        obtain ⟨N, hN⟩ : ∃ N, N = bs.length := ⟨_, rfl⟩
        rw [← hN] at c2 hbl
        obtain ⟨xs, hxs⟩ : ∃ xs, xs = Wk.mine l' k := ⟨_, rfl⟩
        obtain ⟨M, hM⟩ : ∃ M, M = xs.length := ⟨_, rfl⟩
        rw [← hxs] at d0 hrd hRk
        rw [← hM] at d0
        have hMl : M ≤ 1000000 := by have := Wk.mine_len l' k; rw [← hxs, ← hM, ← HMX.out] at this; omega
        obtain ⟨w5, hw5⟩ : ∃ x, x = wr.alloc (.cells #[.int .i64 lab, .int .i64 cap, .slice A' N C', .bool lost] 35) := ⟨_, rfl⟩
        have hb5 : Below wr.heap.size wr w5 := by rw [hw5]; exact (Below.refl _ _).alloc (Nat.le_refl _) _
        have hk5 : w5.heap[wr.heap.size]? = some (tapeObj lab cap A' N C' lost) := by rw [hw5]; exact Go.Deep.blk_alloc_new _ _
        have hgl := HD.out.lt
        have hkp5 := (tape4 hk5)
        have HY : Hid (∀ y, Below w5.heap.size w5 y → y.cell? ⟨wr.heap.size, 0, none⟩ = some (.int .i64 lab) ∧ y.cell? ⟨wr.heap.size, 1, none⟩ = some (.int .i64 cap) ∧ y.cell? ⟨wr.heap.size, 2, none⟩ = some (.slice A' N C') ∧ y.cell? ⟨wr.heap.size, 3, none⟩ = some (.bool lost) ∧ y.cell? ⟨gB, k, none⟩ = some (.slice AB M CB)) := Lib.hid fun y hy => by
          obtain ⟨x0, x1, x2, x3⟩ := tape4 ((hy.block _ (heap_lt hk5)).trans hk5)
          exact ⟨x0, x1, x2, x3, ((hb5.trans (hy.mono hb5.size)).cell (World.block_lt_of_cell? _ _ d0)).trans d0⟩
        have HAP := Lib.hid (appended_any lab cap A' bs N C' lost _ AB xs M CB _ w5.drew hN hbl.1 (hrB.old (hb5.drew)) hbl.2 hM hMl (hrd.old (hb5.drew)))
        have HDN := Lib.hid (fun y (hy : Below w5.heap.size w5 y) => HD.out.old (hb5.trans (hy.mono hb5.size)))
        have HB5 := Lib.hid (HB.out.trans (hb5.mono HB.out.size))
        have HT5 := Lib.hid (HT.out.old hb5)
        have hrtl : (R.take k).length = k := by rw [List.length_take, HRL.out]; omega
        have HRTL := Lib.hid hrtl
        have HRN : Hid (R.take k ++ [Wk.ap ⟨lab, cap, bs, lost⟩ xs] = R.take (k + 1)) := Lib.hid (by
          obtain ⟨hkR, e⟩ := List.getElem?_eq_some_iff.1 hRk
          rw [← e]; exact List.take_append_getElem hkR)
        obtain ⟨tt, htt⟩ : ∃ tt, tt = Wk.ap ⟨lab, cap, bs, lost⟩ xs := ⟨_, rfl⟩
        rw [← htt] at HAP HRN
        have HW5 := Lib.hid hw5
        have hgs : gm < wr.heap.size := hgl
        have hlBr : gB < wr.heap.size := World.block_lt_of_cell? _ _ d0
        have hlBm : gB < gm := hlB
        have hsz5 : wr.heap.size < w5.heap.size := heap_lt hk5
        clear hw5 hb5 hk5 hN hM hxs hRk ht hbl hrd hrB htt hrtl hgl hkp5
        go_upto_region 9 with fail
        rw [← HW5.out]
        clear c0 c1 c2 c3 d0
        have y0 := HY.out _ (Below.refl w5.heap.size w5).drew
        have HS7 : Hid (∀ y, Below w5.heap.size w5 y → ∀ a b c d : Value, (fun y : World => y.cell? ⟨wr.heap.size, 0, none⟩ = some (.int .i64 lab) ∧ y.cell? ⟨wr.heap.size, 1, none⟩ = some (.int .i64 cap) ∧ y.cell? ⟨wr.heap.size, 2, none⟩ = some (.slice A' N C') ∧ y.cell? ⟨wr.heap.size, 3, none⟩ = some (.bool lost) ∧ y.cell? ⟨gB, k, none⟩ = some (.slice AB M CB)) ((((y.setCell ⟨gm, k * 4, none⟩ a).setCell ⟨gm, k * 4 + 1, none⟩ b).setCell ⟨gm, k * 4 + 2, none⟩ c).setCell ⟨gm, k * 4 + 3, none⟩ d)) := Lib.hid fun y hy a b c d => by
          obtain ⟨x0, x1, x2, x3, x4⟩ := HY.out y hy
          have hk := four_kpD y gm k a b c d
          exact ⟨hk.cell x0 (by show ¬ _ = _; simp; omega), hk.cell x1 (by show ¬ _ = _; simp; omega), hk.cell x2 (by show ¬ _ = _; simp; omega), hk.cell x3 (by show ¬ _ = _; simp; omega), hk.cell x4 (by show ¬ _ = _; simp; omega)⟩
        go_region_held3 (fun y => y.cell? ⟨wr.heap.size, 0, none⟩ = some (.int .i64 lab) ∧ y.cell? ⟨wr.heap.size, 1, none⟩ = some (.int .i64 cap) ∧ y.cell? ⟨wr.heap.size, 2, none⟩ = some (.slice A' N C') ∧ y.cell? ⟨wr.heap.size, 3, none⟩ = some (.bool lost) ∧ y.cell? ⟨gB, k, none⟩ = some (.slice AB M CB))
          (first
            | exact y0
            | exact y6
            | exact y7)
          (first
            | (go_at_call 17; refine HAP.out.mono ?_; rintro e w6 ⟨A6, C6, rfl, hr6, hb6⟩; have hd6 : Below w5.heap.size w5 w6 := ((Below.refl w5.heap.size w5).drew).trans hb6; obtain ⟨⟨v0, g0⟩, ⟨v1, g1⟩, ⟨v2, g2⟩, ⟨v3, g3⟩, gf⟩ := (HDN.out w6 hd6).four hlt; have y6 := HY.out w6 hd6; have y7 := HS7.out w6 hd6 (.int .i64 tt.label) (.int .i64 tt.cap) (.slice A6 tt.blocks.length C6) (.bool tt.lost); have HR6 := Lib.hid hr6; have HD6 := Lib.hid hd6; clear hr6 hb6 hd6))
        have hset := (HDN.out w6 HD6.out).set HRTL.out.symm hlt (t := tt) (A := A6) (C := C6) (HR6.out.mono fun q hq => by have : w5.heap.size ≤ q := hq; omega)
        rw [HRN.out] at hset
        have hkp := four_kpD w6 gm k (.int .i64 tt.label) (.int .i64 tt.cap) (.slice A6 tt.blocks.length C6) (.bool tt.lost)
        have HSET := Lib.hid hset
        have HBN := Lib.hid ((HB5.out.trans (HD6.out.mono HB5.out.size)).trans (hkp.below (by have := HB5.out.size; have := HD6.out.size; omega) fun q hq => by rw [hq]; exact HGM.out))
        have HGMT : Hid (∀ (c : Array Value), w6.heap[gm]? ≠ some (.cells c 26 (0, 0))) := Lib.hid fun c hc => by
          obtain ⟨cur, hcur, -⟩ := (HDN.out w6 HD6.out).row
          rw [hcur] at hc
          injection hc with hc
          injection hc with _ e2
          exact absurd e2 (by decide)
        have HTN := Lib.hid ((HT5.out.old HD6.out).kpg hkp (by omega) (by have := HLO.out; omega) HGMT.out)
        clear hset hkp g0 g1 g2 g3 gf y6 y7 y0
        go_wp2
        go_roundw
        case rel => exact ⟨k + 1, by omega, by go_num, HSET, HTN, HBN⟩
        case measure => simp [intOf]; omega
      · have e1 : decide (k < n1) = false := decide_eq_false hlt
        have hall : R.take k = R := List.take_of_length_le (by rw [HRL.out]; omega)
        rw [hall] at HD
        go_wp2
        go_ret2
        rw [HGO.out]
        refine ⟨some ⟨gm, 0, none⟩, n1, ?_, HD.out.rdT, HB.out⟩
        show _ = Ending.returned (.tuple #[.slice _ R.length _, .bool _])
        rw [HRL.out]; rfl
  · have hcutd : (decide ((0 : Int) ≤ stop) = false) ∨ (decide ((0 : Int) ≤ stop) = true ∧ decide (stop < (n2 : Int)) = false) := by
      rw [← HL2.out] at hst
      by_cases h : 0 ≤ stop
      · exact .inr ⟨decide_eq_true h, decide_eq_false (by omega)⟩
      · exact .inl (decide_eq_false h)
    have HSTP := Lib.hid HR2.out
    have HBX := Lib.hid (Below.refl w.heap.size w)
    have HMX : Hid (n2 = l'.length) := Lib.hid (by rw [hl']; exact HL2.out)
    rw [← hl'] at HSTP
    have hlen2 : n2 ≤ 1000000 := hm2
    clear hl' hst hlen'
    have hcutE := Lib.hid hcutd
    clear hcutd
    rcases hcutE.out with d0 | ⟨d0, d1⟩
    all_goals
      have hcutd : True := trivial
      have hlen' := Nat.le_refl n2
      clear hcutE
      go_upto_region 4 with fail
      have HBY := Lib.hid (byTape_any A2 l' n2 C2 _ n1 w HMX.out (by omega) (by omega) HSTP.out)
      have hmkd := HMK.out
      go_upto_region 5 with (go_at_call 16; refine HBY.out.mono ?_; rintro e w3 ⟨gB, rfl, hby, hb3⟩; have HB3 := Lib.hid (HBX.out.trans (hb3.mono HBX.out.size)); have HBYT := Lib.hid hby; have hlB : gB < w3.heap.size := hby.lt; have HLO := Lib.hid hby.lo; clear hby hb3)
      obtain ⟨w4, hw4⟩ : ∃ x, x = w3.alloc (.cells cs 35) := ⟨_, rfl⟩
      have hb4 : Below w3.heap.size w3 w4 := by rw [hw4]; exact (Below.refl _ _).alloc (Nat.le_refl _) _
      have HD4 : Hid (DnT w3.heap.size n1 (R.take 0) w4) := Lib.hid (by rw [hw4]; exact DnT.start (by rw [HCSZ.out]; exact Nat.le_refl _))
      have HBY4 := Lib.hid (HBYT.out.old hb4)
      have HB4 := Lib.hid (HB3.out.trans (hb4.mono HB3.out.size))
      have HW4 := Lib.hid hw4
      clear hb4 hw4 hcutd
      go_wp2
      rw [← HW4.out]
      clear hmkd
      obtain ⟨gm, hgm⟩ : ∃ gm, gm = w3.heap.size := ⟨_, rfl⟩
      rw [← hgm] at HD4 hlB ⊢
      have HGM : Hid (w.heap.size ≤ gm) := Lib.hid (by rw [hgm]; exact HB3.out.size)
      clear hgm
      go_loopw [37] (fun vi wr => ∃ (k : Nat), k ≤ n1 ∧ vi = .int .i64 (k : Int) ∧ Hid (DnT gm n1 (R.take k) wr) ∧ Hid (ByT w.heap.size gB n1 (Wk.mine l') wr) ∧ Hid (Below w.heap.size w wr)) (fun vi _ => n1 - (intOf vi).toNat)
      case atStart => exact ⟨0, Nat.zero_le _, rfl, HD4, HBY4, HB4⟩
      case round =>
        obtain ⟨k, hk, rfl, HD, HT, HB⟩ := hrel
        by_cases hlt : k < n1
        · have e1 : decide (k < n1) = true := decide_eq_true hlt
          have hltT : k < ts.length := by rw [← HL1.out]; exact hlt
          obtain ⟨b, off, A', C', rfl, -, c0, c1, c2, c3, hrB⟩ := (HR1.out.old HB.out).at_ hltT
          have hbl := HB1.out ts[k] (List.getElem_mem hltT)
          obtain ⟨AB, CB, d0, hrd⟩ := HT.out.at_ hlt
          have hRk := HRG.out k hltT
          obtain ⟨lab, cap, bs, lost, ht⟩ : ∃ lab cap bs lost, ts[k] = ⟨lab, cap, bs, lost⟩ := ⟨_, _, _, _, rfl⟩
          rw [ht] at c0 c1 c2 c3 hrB hbl hRk
          dsimp only at c0 c1 c2 c3 hrB hbl
          obtain ⟨N, hN⟩ : ∃ N, N = bs.length := ⟨_, rfl⟩
          rw [← hN] at c2 hbl
          obtain ⟨xs, hxs⟩ : ∃ xs, xs = Wk.mine l' k := ⟨_, rfl⟩
          obtain ⟨M, hM⟩ : ∃ M, M = xs.length := ⟨_, rfl⟩
          rw [← hxs] at d0 hrd hRk
          rw [← hM] at d0
          have hMl : M ≤ 1000000 := by have := Wk.mine_len l' k; rw [← hxs, ← hM, ← HMX.out] at this; omega
          obtain ⟨w5, hw5⟩ : ∃ x, x = wr.alloc (.cells #[.int .i64 lab, .int .i64 cap, .slice A' N C', .bool lost] 35) := ⟨_, rfl⟩
          have hb5 : Below wr.heap.size wr w5 := by rw [hw5]; exact (Below.refl _ _).alloc (Nat.le_refl _) _
          have hk5 : w5.heap[wr.heap.size]? = some (tapeObj lab cap A' N C' lost) := by rw [hw5]; exact Go.Deep.blk_alloc_new _ _
          have hgl := HD.out.lt
          have hkp5 := (tape4 hk5)
          have HY : Hid (∀ y, Below w5.heap.size w5 y → y.cell? ⟨wr.heap.size, 0, none⟩ = some (.int .i64 lab) ∧ y.cell? ⟨wr.heap.size, 1, none⟩ = some (.int .i64 cap) ∧ y.cell? ⟨wr.heap.size, 2, none⟩ = some (.slice A' N C') ∧ y.cell? ⟨wr.heap.size, 3, none⟩ = some (.bool lost) ∧ y.cell? ⟨gB, k, none⟩ = some (.slice AB M CB)) := Lib.hid fun y hy => by
            obtain ⟨x0, x1, x2, x3⟩ := tape4 ((hy.block _ (heap_lt hk5)).trans hk5)
            exact ⟨x0, x1, x2, x3, ((hb5.trans (hy.mono hb5.size)).cell (World.block_lt_of_cell? _ _ d0)).trans d0⟩
          have HAP := Lib.hid (appended_any lab cap A' bs N C' lost _ AB xs M CB _ w5.drew hN hbl.1 (hrB.old (hb5.drew)) hbl.2 hM hMl (hrd.old (hb5.drew)))
          have HDN := Lib.hid (fun y (hy : Below w5.heap.size w5 y) => HD.out.old (hb5.trans (hy.mono hb5.size)))
          have HB5 := Lib.hid (HB.out.trans (hb5.mono HB.out.size))
          have HT5 := Lib.hid (HT.out.old hb5)
          have hrtl : (R.take k).length = k := by rw [List.length_take, HRL.out]; omega
          have HRTL := Lib.hid hrtl
          have HRN : Hid (R.take k ++ [Wk.ap ⟨lab, cap, bs, lost⟩ xs] = R.take (k + 1)) := Lib.hid (by
            obtain ⟨hkR, e⟩ := List.getElem?_eq_some_iff.1 hRk
            rw [← e]; exact List.take_append_getElem hkR)
          obtain ⟨tt, htt⟩ : ∃ tt, tt = Wk.ap ⟨lab, cap, bs, lost⟩ xs := ⟨_, rfl⟩
          rw [← htt] at HAP HRN
          have HW5 := Lib.hid hw5
          have hgs : gm < wr.heap.size := hgl
          have hlBr : gB < wr.heap.size := World.block_lt_of_cell? _ _ d0
          have hlBm : gB < gm := hlB
          have hsz5 : wr.heap.size < w5.heap.size := heap_lt hk5
          clear hw5 hb5 hk5 hN hM hxs hRk ht hbl hrd hrB htt hrtl hgl hkp5
          go_upto_region 9 with fail
          rw [← HW5.out]
          clear c0 c1 c2 c3 d0
          have y0 := HY.out _ (Below.refl w5.heap.size w5).drew
          have HS7 : Hid (∀ y, Below w5.heap.size w5 y → ∀ a b c d : Value, (fun y : World => y.cell? ⟨wr.heap.size, 0, none⟩ = some (.int .i64 lab) ∧ y.cell? ⟨wr.heap.size, 1, none⟩ = some (.int .i64 cap) ∧ y.cell? ⟨wr.heap.size, 2, none⟩ = some (.slice A' N C') ∧ y.cell? ⟨wr.heap.size, 3, none⟩ = some (.bool lost) ∧ y.cell? ⟨gB, k, none⟩ = some (.slice AB M CB)) ((((y.setCell ⟨gm, k * 4, none⟩ a).setCell ⟨gm, k * 4 + 1, none⟩ b).setCell ⟨gm, k * 4 + 2, none⟩ c).setCell ⟨gm, k * 4 + 3, none⟩ d)) := Lib.hid fun y hy a b c d => by
            obtain ⟨x0, x1, x2, x3, x4⟩ := HY.out y hy
            have hk := four_kpD y gm k a b c d
            exact ⟨hk.cell x0 (by show ¬ _ = _; simp; omega), hk.cell x1 (by show ¬ _ = _; simp; omega), hk.cell x2 (by show ¬ _ = _; simp; omega), hk.cell x3 (by show ¬ _ = _; simp; omega), hk.cell x4 (by show ¬ _ = _; simp; omega)⟩
          go_region_held3 (fun y => y.cell? ⟨wr.heap.size, 0, none⟩ = some (.int .i64 lab) ∧ y.cell? ⟨wr.heap.size, 1, none⟩ = some (.int .i64 cap) ∧ y.cell? ⟨wr.heap.size, 2, none⟩ = some (.slice A' N C') ∧ y.cell? ⟨wr.heap.size, 3, none⟩ = some (.bool lost) ∧ y.cell? ⟨gB, k, none⟩ = some (.slice AB M CB))
            (first
              | exact y0
              | exact y6
              | exact y7)
            (first
              | (go_at_call 17; refine HAP.out.mono ?_; rintro e w6 ⟨A6, C6, rfl, hr6, hb6⟩; have hd6 : Below w5.heap.size w5 w6 := ((Below.refl w5.heap.size w5).drew).trans hb6; obtain ⟨⟨v0, g0⟩, ⟨v1, g1⟩, ⟨v2, g2⟩, ⟨v3, g3⟩, gf⟩ := (HDN.out w6 hd6).four hlt; have y6 := HY.out w6 hd6; have y7 := HS7.out w6 hd6 (.int .i64 tt.label) (.int .i64 tt.cap) (.slice A6 tt.blocks.length C6) (.bool tt.lost); have HR6 := Lib.hid hr6; have HD6 := Lib.hid hd6; clear hr6 hb6 hd6))
          have hset := (HDN.out w6 HD6.out).set HRTL.out.symm hlt (t := tt) (A := A6) (C := C6) (HR6.out.mono fun q hq => by have : w5.heap.size ≤ q := hq; omega)
          rw [HRN.out] at hset
          have hkp := four_kpD w6 gm k (.int .i64 tt.label) (.int .i64 tt.cap) (.slice A6 tt.blocks.length C6) (.bool tt.lost)
          have HSET := Lib.hid hset
          have HBN := Lib.hid ((HB5.out.trans (HD6.out.mono HB5.out.size)).trans (hkp.below (by have := HB5.out.size; have := HD6.out.size; omega) fun q hq => by rw [hq]; exact HGM.out))
          have HGMT : Hid (∀ (c : Array Value), w6.heap[gm]? ≠ some (.cells c 26 (0, 0))) := Lib.hid fun c hc => by
            obtain ⟨cur, hcur, -⟩ := (HDN.out w6 HD6.out).row
            rw [hcur] at hc
            injection hc with hc
            injection hc with _ e2
            exact absurd e2 (by decide)
          have HTN := Lib.hid ((HT5.out.old HD6.out).kpg hkp (by omega) (by have := HLO.out; omega) HGMT.out)
          clear hset hkp g0 g1 g2 g3 gf y6 y7 y0
          go_wp2
          go_roundw
          case rel => exact ⟨k + 1, by omega, by go_num, HSET, HTN, HBN⟩
          case measure => simp [intOf]; omega
        · have e1 : decide (k < n1) = false := decide_eq_false hlt
          have hall : R.take k = R := List.take_of_length_le (by rw [HRL.out]; omega)
          rw [hall] at HD
          go_wp2
          go_ret2
          rw [HGO.out]
          refine ⟨some ⟨gm, 0, none⟩, n1, ?_, HD.out.rdT, HB.out⟩
          show _ = Ending.returned (.tuple #[.slice _ R.length _, .bool _])
          rw [HRL.out]; rfl
end Go.Proofs.YtndofmoepjfnfaaDoor
