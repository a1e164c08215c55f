/- What framed of package group answers: the blocks of units that are right, each in a block of its own. What Make of package group answers where nothing stands against it: the parity tapes, each one's rows in blocks of their own. -/
import Derived.Test.YtmfikihcoafekaaMar
import Derived.Test.YtmfikihcoafekaaMay
import Derived.Test.YtmfikihcoafekaaMax
namespace Go.Proofs.Ytmfikihcoafekaa
open Go.RowKit
open Pt (Tx)

/-- rows, each in a block of its own, are set one by one in a row of the call's own -/
structure BlksO (w : World) (g n : Nat) (us : List Value) (bs : List Tx) (wr : World) : Prop where
  row : ∃ cur : Array Value, wr.heap[g]? = some (.cells cur 24 (0, 0)) ∧ cur.size = n ∧ ∀ i (hi : i < us.length), cur[i]? = some us[i]
  len : us.length = bs.length
  rows : ∀ i (h : i < us.length) (h' : i < bs.length), OwnL wr w.heap.size us[i] bs[i]
  inj : ∀ i j (hi : i < us.length) (hj : j < us.length) k, us[i].ownBlock = some k → us[j].ownBlock = some k → i = j
  lo : w.heap.size ≤ g
  bel : Below w.heap.size w wr
namespace BlksO
variable {w wr w2 : World} {g n : Nat} {us : List Value} {bs : List Tx}
theorem start (w : World) (n : Nat) : BlksO w w.heap.size n [] [] (w.alloc (.cells (madeCells #[.slice none 0 0] n) 24)) :=
  ⟨⟨_, Go.Deep.blk_alloc_new _ _, size_madeCells _ _, fun i hi => absurd hi (by simp)⟩, rfl, fun i hi => absurd hi (by simp), fun i j hi => absurd hi (by simp), Nat.le_refl _, (Below.refl _ _).alloc (Nat.le_refl _) _⟩
theorem old (h : BlksO w g n us bs wr) (hb : Below wr.heap.size wr w2) : BlksO w g n us bs w2 := by
  obtain ⟨cur, hg, hs, hr⟩ := h.row
  exact ⟨⟨cur, (hb.block g (heap_lt hg)).trans hg, hs, hr⟩, h.len, fun i hi hi' => (h.rows i hi hi').of_block fun k e => hb.block k ((h.rows i hi hi').lt k e), h.inj, h.lo, h.bel.trans (hb.mono h.bel.size)⟩
theorem cell (h : BlksO w g n us bs wr) {k : Nat} (hk : k < n) : ∃ v, wr.cell? ⟨g, k, none⟩ = some v ∧ wr.frozen? ⟨g, k, none⟩ = false := by
  obtain ⟨cur, hg, hs, hr⟩ := h.row
  exact ⟨_, (heap_cell hg).trans (Array.getElem?_eq_getElem (by omega)), heap_frozen hg⟩
theorem set (h : BlksO w g n us bs wr) (hb : Below wr.heap.size wr w2) {k : Nat} (hk : k = bs.length) (hkn : k < n) {u : Value} {s : Tx} (hu : OwnL w2 wr.heap.size u s) : BlksO w g n (us ++ [u]) (bs ++ [s]) (w2.setCell ⟨g, k, none⟩ u) := by
  have h2 := h.old hb
  obtain ⟨cur, hg, hs, hr⟩ := h2.row
  have hkp := Kp.store w2 g k u
  have hl := h.len
  have keep : ∀ {B : Nat} {v : Value} {l : Tx}, OwnL w2 B v l → OwnL (w2.setCell ⟨g, k, none⟩ u) B v l := fun {B v l} ho => ho.kp hkp fun x e hx => by
    have hx' : x = g := hx
    obtain ⟨c, hc⟩ := ho.block x e
    rw [hx', hg] at hc
    injection hc with hc
    injection hc with _ e2
    exact absurd e2 (by decide)
  have hlt : ∀ i (hi : i < us.length) x, us[i].ownBlock = some x → x < wr.heap.size := fun i hi x e => (h.rows i hi (by omega)).lt x e
  have hge : ∀ x, u.ownBlock = some x → wr.heap.size ≤ x := fun x e => hu.lo x e
  refine ⟨⟨_, heap_set hg u, by simpa using hs, fun i hi => ?_⟩, by simp [hl], fun i hi hi' => ?_, fun i j hi hj x e e' => ?_, h.lo, h2.bel.trans (hkp.below h2.bel.size fun x e => by have e' : x = g := e; have := h.lo; omega)⟩
  · rw [List.length_append, List.length_singleton] at hi
    rw [Array.getElem?_setIfInBounds]
    by_cases e : i < us.length
    · rw [if_neg (by omega), List.getElem_append_left e]
      exact hr i e
    · have e' : i = us.length := by omega
      subst e'
      rw [if_pos (by omega), if_pos (by omega)]
      simp
  · rw [List.length_append, List.length_singleton] at hi
    by_cases e : i < us.length
    · rw [List.getElem_append_left e, List.getElem_append_left (by omega)]
      exact keep (h2.rows i e (by omega))
    · have e' : i = us.length := by omega
      subst e'
      have e2 : (bs ++ [s])[us.length] = s := by simp [hl]
      rw [e2]
      simp only [List.getElem_concat_length]
      have hk9 := keep hu
      exact own_down hk9 h.bel.size
  · rw [List.length_append, List.length_singleton] at hi hj
    rcases Nat.lt_or_ge i us.length with hl' | hl' <;> rcases Nat.lt_or_ge j us.length with hm | hm
    · rw [List.getElem_append_left hl'] at e
      rw [List.getElem_append_left hm] at e'
      exact h.inj i j hl' hm x e e'
    · have : j = us.length := by omega
      subst this
      rw [List.getElem_append_left hl'] at e
      simp only [List.getElem_concat_length] at e'
      have := hlt i hl' x e
      have := hge x e'
      omega
    · have : i = us.length := by omega
      subst this
      rw [List.getElem_append_left hm] at e'
      simp only [List.getElem_concat_length] at e
      have := hlt j hm x e'
      have := hge x e
      omega
    · omega
theorem topB (h : BlksO w g n us bs wr) (hn : us.length = n) (hm : n ≤ 2000000) : TopB wr w.heap.size (w.heap.size ≤ ·) (.slice (some ⟨g, 0, none⟩) n n) us bs := by
  obtain ⟨cur, hg, hs, hr⟩ := h.row
  subst hn
  refine ⟨⟨by simp, .inr ⟨g, us.length, cur, rfl, h.lo, hg, Nat.le_refl _, by unfold maxLen; omega, by omega, ?_⟩⟩, h.len, h.rows, fun i hi k e => (h.rows i hi (by rw [← h.len]; exact hi)).lo k e, h.inj⟩
  apply List.ext_getElem?
  intro j
  simp only [List.getElem?_take, Array.getElem?_toList]
  by_cases hj : j < us.length
  · rw [if_pos (by omega), hr j hj, List.getElem?_eq_getElem hj]
  · rw [if_neg (by omega), List.getElem?_eq_none (by omega)]
end BlksO
/-- blocks are answered, in new memory, each in a block of its own -/
def BlocksO (bs : List Tx) (w : World) (e : Ending) (w' : World) : Prop :=
  ∃ g us, e = .returned (.tuple #[.slice (some ⟨g, 0, none⟩) bs.length bs.length, .int .i64 0]) ∧ TopB w' w.heap.size (w.heap.size ≤ ·) (.slice (some ⟨g, 0, none⟩) bs.length bs.length) us bs ∧ Below w.heap.size w w'
set_option maxRecDepth 100000 in
set_option maxHeartbeats 4000000 in
theorem framed_own (label : Int) (A : Option Addr) (us : List Ux) (n C : Nat) (G : Nat → Prop) (w : World) (hn : n = us.length) (hm : n ≤ 2000000) (hr : encY.Rd w A us G) (hu : ∀ u ∈ us, u.Ok w (fun _ => True)) (hok : ∀ i (hi : i < us.length), Fm.Ok ⟨us[i].kind, label, (i : Int), us[i].s⟩) :
    Calls Try.prog 15 #[.int .i64 label, .slice A n C] w (BlocksO (framedL label (us.map Ux.pair)) w) := by
  obtain ⟨w0, hw0⟩ : ∃ w0, w0 = w.alloc (.cells (madeCells #[.slice none 0 0] n) 24) := ⟨_, rfl⟩
  have hmk := run_make_row' (P := Try.prog) 30 24 (.slice none 0 0) 24 Try.underlying30 infoRowT rfl .i64 .i64 n (by omega) (by omega)
  have hI0 : BlksO w w.heap.size n [] ((framedL label (us.map Ux.pair)).take 0) w0 := by rw [hw0]; exact BlksO.start w n
  have HI0 := Lib.hid hI0
  have HR := Lib.hid hr
  have HU := Lib.hid hu
  have HOK := Lib.hid hok
  have HN := Lib.hid hn
  have HW := Lib.hid hw0
  have HFL : Hid ((framedL label (us.map Ux.pair)).length = n) := Lib.hid (by rw [framedL_len, List.length_map, hn])
  clear hI0 hr hu hok hn hw0
  go_enter Try.func15, Try.ntmps15
  go_wp2
  rw [← HW.out]
  clear hmk
  obtain ⟨gB, hgB⟩ : ∃ gB, gB = w.heap.size := ⟨_, rfl⟩
  rw [← hgB] at HI0
  have HGB := Lib.hid hgB
  rw [← hgB]
  clear hgB
  go_loopw [16] (fun vi wr => ∃ k : Nat, k ≤ n ∧ vi = .int .i64 (k : Int) ∧ ∃ vs, Hid (BlksO w gB n vs ((framedL label (us.map Ux.pair)).take k) wr)) (fun vi _ => n - (intOf vi).toNat)
  case atStart => exact ⟨0, Nat.zero_le _, rfl, _, HI0⟩
  case round =>
    obtain ⟨k, hk, rfl, vs, HI⟩ := hrel
    by_cases hlt : k < n
    · have e0 : decide (k < n) = true := decide_eq_true hlt
      have hlt' : k < us.length := by rw [← HN.out]; exact hlt
      obtain ⟨b, off, rfl, -, hc⟩ := (HR.out.old HI.out.bel).at_ hlt'
      have hux := HU.out _ (List.getElem_mem hlt')
      have hokk := HOK.out k hlt'
      have hfk : (framedL label (us.map Ux.pair)).take (k + 1) = (framedL label (us.map Ux.pair)).take k ++ [Fm.blk ⟨us[k].kind, label, (k : Int), us[k].s⟩] := by
        rw [List.take_succ_eq_append_getElem (by rw [HFL.out]; exact hlt), framedL_at (by rw [List.length_map]; exact hlt')]
        simp [Ux.pair]
      obtain ⟨⟨uk, s, uA, uC⟩, hu⟩ : ∃ u, u = us[k] := ⟨_, rfl⟩
      rw [← hu] at hc hux hokk hfk
      dsimp only at hokk hfk
      obtain ⟨m, hm'⟩ : ∃ m, m = s.length := ⟨_, rfl⟩
      have c0 : wr.cell? ⟨b, off + k * 4, none⟩ = some (.int .i64 uk) := hc 0 _ rfl
      have c1 : wr.cell? ⟨b, off + k * 4 + 1, none⟩ = some (.int .i64 0) := hc 1 _ rfl
      have c2 : wr.cell? ⟨b, off + k * 4 + 2, none⟩ = some (.int .i64 0) := hc 2 _ rfl
      have c3 : wr.cell? ⟨b, off + k * 4 + 3, none⟩ = some (.slice uA m uC) := by rw [hm']; exact hc 3 _ rfl
      obtain ⟨wb, hwb⟩ : ∃ wb, wb = wr.alloc (unitObj uk label (k : Int) uA m uC) := ⟨_, rfl⟩
      have hbb : Below wr.heap.size wr wb := by rw [hwb]; exact (Below.refl _ _).alloc (Nat.le_refl _) _
      have HBB := Lib.hid hbb
      have hput := put_own uk label (k : Int) uA s m uC (fun _ => True) wb hm' (by rw [hm']; exact hux.nil) ((hux.rd.old HI.out.bel).old hbb) hokk
      obtain ⟨bl, hbl⟩ : ∃ bl, bl = Fm.blk ⟨uk, label, (k : Int), s⟩ := ⟨_, rfl⟩
      rw [← hbl] at hput hfk
      have HP := Lib.hid hput
      have HFK := Lib.hid hfk
      have HKL : Hid (k = ((framedL label (us.map Ux.pair)).take k).length) := Lib.hid (by rw [List.length_take, HFL.out]; omega)
      have HWB := Lib.hid hwb
      unfold unitObj at HWB
      clear hu hc hux hokk hfk hm' hwb hbb hput hbl
      have hlo : gB < wr.heap.size := by
        obtain ⟨cur, hV, _⟩ := HI.out.row
        exact heap_lt hV
      have hlo2 : wr.heap.size ≤ wb.heap.size := by rw [HWB.out]; simp
      go_wp2_with fail
      rw [← HWB.out]
      refine HP.out.mono ?_
      rintro e w2 ⟨A2, m2, C2, rfl, ho2, hm2, hb2⟩
      have hb2' : Below wr.heap.size wr w2 := HBB.out.trans (hb2.mono HBB.out.size)
      obtain ⟨cv, d0, d1⟩ := (HI.out.old hb2').cell hlt
      have hset := HI.out.set hb2' HKL.out hlt (own_down ho2 HBB.out.size)
      rw [← HFK.out] at hset
      have HSET := Lib.hid hset
      clear hb2' hset ho2 hm2 hb2 c0 c1 c2 c3
      go_wp2
      go_roundw
      case rel => exact ⟨k + 1, by omega, by go_num, _, HSET⟩
      case measure => simp [intOf]; omega
    · have e0 : decide (k < n) = false := decide_eq_false hlt
      have hI := HI.out
      rw [List.take_of_length_le (by rw [HFL.out]; omega)] at hI
      have HIE := Lib.hid hI
      clear hI
      go_wp2
      go_ret2
      have hlen := HIE.out.len
      have ht := HIE.out.topB (by rw [hlen, HFL.out]) hm
      rw [← HFL.out] at ht
      exact ⟨gB, vs, by rw [HFL.out]; rfl, ht, HIE.out.bel⟩
end Go.Proofs.Ytmfikihcoafekaa
namespace Go.Proofs.Ytmfikihcoafekaa
open Go.RowKit
open Pt (Tx)

/-- tapes are laid one by one in a made row, one's rows behind the other's -/
structure MadeO (w0 : World) (gm n : Nat) (ts : List St.T) (wr : World) : Prop where
  row : ∃ cur tvs L N, wr.heap[gm]? = some (.cells cur 32 (0, 0)) ∧ cur.size = n * 4 ∧ N ≤ wr.heap.size ∧ (∀ i (hi : i < tvs.length), cur[i * 4]? = some (.int .i64 tvs[i].label) ∧ cur[i * 4 + 1]? = some (.int .i64 tvs[i].cap) ∧ cur[i * 4 + 2]? = some (.slice tvs[i].A tvs[i].n tvs[i].C) ∧ cur[i * 4 + 3]? = some (.bool tvs[i].lost)) ∧ RowsT wr w0.heap.size N tvs ts L
  lt : gm < w0.heap.size
  le : w0.heap.size ≤ wr.heap.size
namespace MadeO
variable {w0 wr w2 : World} {gm n : Nat} {ts : List St.T}
theorem start {w1 : World} {cs : Array Value} (h : w0 = w1.alloc (.cells cs 32)) (hc : cs.size = n * 4) : MadeO w0 w1.heap.size n [] w0 := by
  have h1 : w0.heap[w1.heap.size]? = some (.cells cs 32) := by rw [h]; exact Go.Deep.blk_alloc_new _ _
  exact ⟨⟨cs, [], _, _, h1, hc, Nat.le_refl _, fun i hi => absurd hi (by simp), RowsT.nil w0 w0.heap.size⟩, heap_lt h1, Nat.le_refl _⟩
theorem old (h : MadeO w0 gm n ts wr) (hb : Below wr.heap.size wr w2) : MadeO w0 gm n ts w2 := by
  obtain ⟨cur, tvs, L, N, hg, hs, hN, hr, hrows⟩ := h.row
  exact ⟨⟨cur, tvs, L, N, (hb.block gm (heap_lt hg)).trans hg, hs, Nat.le_trans hN hb.size, hr, hrows.kp (S := fun _ => False) (Kp.of_below hb) (fun _ _ hs => hs.elim) (fun _ _ hs => hs.elim)⟩, h.lt, Nat.le_trans h.le hb.size⟩
/-- a seal elsewhere is stored into -/
theorem beside (h : MadeO w0 gm n ts wr) {q : Nat} (hk : Kp (· = q) wr w2) (hq : q ≠ gm) (ht : ∃ c, wr.heap[q]? = some (.cells c 41 (0, 0))) : MadeO w0 gm n ts w2 := by
  obtain ⟨cur, tvs, L, N, hg, hs, hN, hr, hrows⟩ := h.row
  obtain ⟨c, hc⟩ := ht
  have hno : ∀ k c' t, k = q → wr.heap[k]? = some (Obj.cells c' t (0, 0)) → t = 41 := fun k c' t e h' => by
    rw [e, hc] at h'
    injection h' with h'
    injection h' with _ e2
    exact e2.symm
  exact ⟨⟨cur, tvs, L, N, (hk.block gm (heap_lt hg) fun e => hq e.symm).trans hg, hs, Nat.le_trans hN hk.size, hr, hrows.kp hk (fun k c' e _ h' => absurd (hno k c' _ e h') (by decide)) (fun k c' e _ h' => absurd (hno k c' _ e h') (by decide))⟩, h.lt, Nat.le_trans h.le hk.size⟩
theorem four (h : MadeO w0 gm n ts wr) {k : Nat} (hk : k < n) : (∃ v0, wr.cell? ⟨gm, k * 4, none⟩ = some v0) ∧ (∃ v1, wr.cell? ⟨gm, k * 4 + 1, none⟩ = some v1) ∧ (∃ v2, wr.cell? ⟨gm, k * 4 + 2, none⟩ = some v2) ∧ (∃ v3, wr.cell? ⟨gm, k * 4 + 3, none⟩ = some v3) ∧ ∀ j, wr.frozen? ⟨gm, j, none⟩ = false := by
  obtain ⟨cur, tvs, L, N, hg, hs, _⟩ := h.row
  have hlt : k * 4 + 4 ≤ cur.size := by
    have : (k + 1) * 4 ≤ n * 4 := Nat.mul_le_mul_right _ hk
    omega
  refine ⟨⟨_, (heap_cell hg).trans (Array.getElem?_eq_getElem (by omega))⟩, ⟨_, (heap_cell hg).trans (Array.getElem?_eq_getElem (by omega))⟩, ⟨_, (heap_cell hg).trans (Array.getElem?_eq_getElem (by omega))⟩, ⟨_, (heap_cell hg).trans (Array.getElem?_eq_getElem (by omega))⟩, fun j => heap_frozen hg⟩
theorem set {y : World} (h : MadeO w0 gm n ts wr) {k : Nat} (hk : k = ts.length) (hkn : k < n) (hb : Below wr.heap.size wr y) {lo hi : Nat} {tv : Tv} {t : St.T} (ho : OneT y lo hi tv t) (h1 : wr.heap.size ≤ lo) (h2 : lo ≤ hi) (h3 : hi ≤ y.heap.size) :
    MadeO w0 gm n (ts ++ [t]) ((((y.setCell ⟨gm, k * 4, none⟩ (.int .i64 tv.label)).setCell ⟨gm, k * 4 + 1, none⟩ (.int .i64 tv.cap)).setCell ⟨gm, k * 4 + 2, none⟩ (.slice tv.A tv.n tv.C)).setCell ⟨gm, k * 4 + 3, none⟩ (.bool tv.lost)) := by
  obtain ⟨cur, tvs, L, N, hg0, hs, hN, hr, hrows⟩ := h.row
  have hg : y.heap[gm]? = some (.cells cur 32 (0, 0)) := (hb.block gm (heap_lt hg0)).trans hg0
  have hkp : Kp (· = gm) y ((((y.setCell ⟨gm, k * 4, none⟩ (.int .i64 tv.label)).setCell ⟨gm, k * 4 + 1, none⟩ (.int .i64 tv.cap)).setCell ⟨gm, k * 4 + 2, none⟩ (.slice tv.A tv.n tv.C)).setCell ⟨gm, k * 4 + 3, none⟩ (.bool tv.lost)) :=
    (((Kp.store _ _ _ _).trans (Kp.store _ _ _ _)).trans (Kp.store _ _ _ _)).trans (Kp.store _ _ _ _)
  have hno : ∀ x c' t, x = gm → y.heap[x]? = some (Obj.cells c' t (0, 0)) → t = 32 := fun x c' t e h' => by
    rw [e, hg] at h'
    injection h' with h'
    injection h' with _ e2
    exact e2.symm
  have hl := hrows.len
  have hlt : k * 4 + 4 ≤ cur.size := by
    have : (k + 1) * 4 ≤ n * 4 := Nat.mul_le_mul_right _ hkn
    omega
  have hrow2 := (((hrows.kp (S := fun _ => False) (Kp.of_below hb) (fun _ _ hs => hs.elim) (fun _ _ hs => hs.elim)).up (Nat.le_trans hN h1)).push ho h2).kp hkp (fun x c' e _ h' => absurd (hno x c' _ e h') (by decide)) (fun x c' e _ h' => absurd (hno x c' _ e h') (by decide))
  refine ⟨⟨_, _, _, _, heap_set (heap_set (heap_set (heap_set hg _) _) _) _, by simpa using hs, Nat.le_trans h3 hkp.size, fun i hi => ?_, hrow2⟩, h.lt, Nat.le_trans h.le (Nat.le_trans hb.size hkp.size)⟩
  rw [List.length_append, List.length_singleton] at hi
  simp only [Array.getElem?_setIfInBounds, Array.size_setIfInBounds]
  by_cases e : i = k
  · have e' : (tvs ++ [tv])[i]'(by rw [List.length_append, List.length_singleton]; exact hi) = tv := by simp [e, hk, ← hl]
    rw [e']
    refine ⟨?_, ?_, ?_, ?_⟩
    · rw [e]; simp (disch := omega); omega
    · rw [e]; simp (disch := omega); omega
    · rw [e]; simp (disch := omega); omega
    · rw [e]; simp (disch := omega); omega
  · have hi' : i < tvs.length := by omega
    obtain ⟨c0, c1, c2, c3⟩ := hr i hi'
    rw [List.getElem_append_left hi']
    refine ⟨?_, ?_, ?_, ?_⟩
    · rw [if_neg (by omega), if_neg (by omega), if_neg (by omega), if_neg (by omega)]; exact c0
    · rw [if_neg (by omega), if_neg (by omega), if_neg (by omega), if_neg (by omega)]; exact c1
    · rw [if_neg (by omega), if_neg (by omega), if_neg (by omega), if_neg (by omega)]; exact c2
    · rw [if_neg (by omega), if_neg (by omega), if_neg (by omega), if_neg (by omega)]; exact c3
theorem own (h : MadeO w0 gm n ts wr) (hn : ts.length = n) (hm : n ≤ 1000000) {B : Nat} (hB : B ≤ gm) : ∃ tvs L, encT.Own wr B 32 (.slice (some ⟨gm, 0, none⟩) n n) tvs ∧ RowsT wr B wr.heap.size tvs ts L := by
  obtain ⟨cur, tvs, L, N, hg, hs, hN, hr, hrows⟩ := h.row
  have hl := hrows.len
  refine ⟨tvs, L, ?_, (hrows.up hN).down (by have := h.lt; omega)⟩
  have hk : encT.k = 4 := rfl
  have hnl : n = tvs.length := by omega
  subst hnl
  unfold Enc.Own
  refine ⟨by rw [Enc.cells_len], .inr ⟨gm, tvs.length, cur, rfl, hB, hg, Nat.le_refl _, by unfold maxLen; omega, hs, ?_⟩⟩
  apply List.ext_getElem?
  intro j
  simp only [List.getElem?_take, Array.getElem?_toList]
  rw [hk]
  by_cases hjl : j < tvs.length * 4
  · rw [if_pos hjl]
    obtain ⟨q, r, hr4, rfl⟩ : ∃ q r, r < 4 ∧ j = q * 4 + r := ⟨j / 4, j % 4, Nat.mod_lt _ (by decide), by omega⟩
    have hq : q < tvs.length := by omega
    have c1 := encT.cells_get tvs q r hr4 hq
    rw [hk] at c1
    rw [c1]
    obtain ⟨d0, d1, d2, d3⟩ := hr q hq
    match r, hr4 with
    | 0, _ => exact d0
    | 1, _ => exact d1
    | 2, _ => exact d2
    | 3, _ => exact d3
  · rw [if_neg hjl, List.getElem?_eq_none (by rw [Enc.cells_len, hk]; omega)]
end MadeO
/-- parity tapes are answered, in new memory, each one's rows in blocks of their own -/
def MakeO (data blank : List St.T) (number : Int) (w : World) (e : Ending) (w' : World) : Prop :=
  ∃ g tvs L, e = .returned (.tuple #[.slice (some ⟨g, 0, none⟩) blank.length blank.length, .int .i64 0]) ∧ encT.Own w' w.heap.size 32 (.slice (some ⟨g, 0, none⟩) blank.length blank.length) tvs ∧ RowsT w' w.heap.size w'.heap.size tvs (Gr.made data blank number) L ∧ Below w.heap.size w w'
/-- what is kept while tapes are made -/
structure MkO (w0 : World) (sB gm n : Nat) (number : Int) (n1 n2 : Nat) (sA : Option Addr) (m sC : Nat) (ts : List St.T) (wr : World) : Prop where
  made : MadeO w0 gm n ts wr
  hd : ∃ xi : Int, wr.heap[sB]? = some (sealObj number xi (n1 : Int) (n2 : Int) sA m sC)
  kp : Kp (fun k => k = sB ∨ k = gm ∨ w0.heap.size ≤ k) w0 wr
  ne : sB < gm
namespace MkO
variable {w0 wr w2 : World} {sB gm n n1 n2 m sC : Nat} {number : Int} {sA : Option Addr} {ts : List St.T}
theorem old (h : MkO w0 sB gm n number n1 n2 sA m sC ts wr) (hb : Below wr.heap.size wr w2) : MkO w0 sB gm n number n1 n2 sA m sC ts w2 := by
  obtain ⟨xi, hx⟩ := h.hd
  exact ⟨h.made.old hb, ⟨xi, below_obj hb hx⟩, h.kp.trans (Kp.of_below hb), h.ne⟩
theorem turn (h : MkO w0 sB gm n number n1 n2 sA m sC ts wr) (y : Int) : MkO w0 sB gm n number n1 n2 sA m sC ts (wr.setCell ⟨sB, 1, none⟩ (.int .i64 y)) ∧ (wr.setCell ⟨sB, 1, none⟩ (.int .i64 y)).heap[sB]? = some (sealObj number y (n1 : Int) (n2 : Int) sA m sC) := by
  obtain ⟨xi, hx⟩ := h.hd
  have hs := seal_turn hx y
  have hne := h.ne
  exact ⟨⟨h.made.beside (q := sB) (Kp.store _ _ _ _) (by omega) ⟨_, hx⟩, ⟨y, hs⟩, h.kp.setCell (p := ⟨sB, 1, none⟩) (.inl rfl) _, h.ne⟩, hs⟩
theorem set {y : World} (h : MkO w0 sB gm n number n1 n2 sA m sC ts wr) {k : Nat} (hk : k = ts.length) (hkn : k < n) (hb : Below wr.heap.size wr y) {lo hi : Nat} {tv : Tv} {t : St.T} (ho : OneT y lo hi tv t) (h1 : wr.heap.size ≤ lo) (h2 : lo ≤ hi) (h3 : hi ≤ y.heap.size) :
    MkO w0 sB gm n number n1 n2 sA m sC (ts ++ [t]) ((((y.setCell ⟨gm, k * 4, none⟩ (.int .i64 tv.label)).setCell ⟨gm, k * 4 + 1, none⟩ (.int .i64 tv.cap)).setCell ⟨gm, k * 4 + 2, none⟩ (.slice tv.A tv.n tv.C)).setCell ⟨gm, k * 4 + 3, none⟩ (.bool tv.lost)) := by
  have hkp : Kp (· = gm) y ((((y.setCell ⟨gm, k * 4, none⟩ (.int .i64 tv.label)).setCell ⟨gm, k * 4 + 1, none⟩ (.int .i64 tv.cap)).setCell ⟨gm, k * 4 + 2, none⟩ (.slice tv.A tv.n tv.C)).setCell ⟨gm, k * 4 + 3, none⟩ (.bool tv.lost)) :=
    (((Kp.store _ _ _ _).trans (Kp.store _ _ _ _)).trans (Kp.store _ _ _ _)).trans (Kp.store _ _ _ _)
  obtain ⟨xi, hx⟩ := h.hd
  have hx' := below_obj hb hx
  have hne := h.ne
  exact ⟨h.made.set hk hkn hb ho h1 h2 h3, ⟨xi, (hkp.block _ (heap_lt hx') (by omega)).trans hx'⟩, (h.kp.trans (Kp.of_below hb)).trans (hkp.mono fun k e => .inr (.inl e)), h.ne⟩
end MkO
set_option maxRecDepth 100000 in
set_option maxHeartbeats 8000000 in
theorem make_own (A1 : Option Addr) (data : List St.T) (C1 : Nat) (A2 : Option Addr) (blank : List St.T) (C2 : Nat) (G : Nat → Prop) (number : Int) (w : World) (hn1 : data.length ≤ 1000) (hn2 : blank.length ≤ 1000) (hA1 : A1 = none → data.length = 0 ∧ C1 = 0) (hA2 : A2 = none → blank.length = 0 ∧ C2 = 0)
    (hl : ∀ t ∈ data, t.blocks.length ≤ 1000000 ∧ ∀ s ∈ t.blocks, s.length ≤ 1000000) (hr1 : RdT w A1 data G) (hr2 : RdT w A2 blank G) (hyes : Gr.mkE data blank number = 0) :
    Calls Try.prog 6 #[.slice A1 data.length C1, .slice A2 blank.length C2, .int .i64 number] w (MakeO data blank number w) := by
  obtain ⟨t1, hl1, hrd1, hk1⟩ := hr1.rows
  obtain ⟨t2, hl2, hrd2, hk2⟩ := hr2.rows
  have hlabs := labels_rows hl1 hl2 (fun i hi hi' => (hk1 i hi hi').1) (fun i hi hi' => (hk2 i hi hi').1)
  have hsl := sealOf_any number A1 data.length C1 A2 blank.length C2 t1 t2 G w hl1.symm hl2.symm hn1 hn2 hA1 hA2 hrd1 hrd2
  rw [hlabs] at hsl
  have hlenle : St.len data ≤ 1000000 := St.len_le fun t ht => (hl t ht).1
  have hchk0 : Gr.chk data blank number = 0 := by
    unfold Gr.mkE at hyes
    by_cases h0 : Gr.chk data blank number = 0
    · exact h0
    · rw [if_pos h0] at hyes; exact absurd hyes h0
  have hok : St.Ok data (blank.length : Int) := by
    unfold Gr.mkE at hyes
    rw [if_neg (by rw [hchk0]; simp)] at hyes
    unfold St.err at hyes
    by_cases h : St.Ok data (blank.length : Int)
    · exact h
    · rw [if_neg h] at hyes; cases hyes
  have hsok := Gr.chk_seal hchk0
  have hfew := Gr.seal_few hsok
  have hcp : ∀ y, Below w.heap.size w y → Calls Try.prog 14 #[.slice A1 data.length C1, .int .i64 (blank.length : Int)] y fun e w' => ∃ A C, e = Ending.returned (.tuple #[.slice A blank.length C, .int .i64 0]) ∧ RdP w' A blank.length (St.len data) 79 (St.X data blank.length) (y.heap.size ≤ ·) ∧ Below y.heap.size y w' := fun y hy =>
    (parity_any A1 data C1 G (blank.length : Int) y (by omega) (by omega) (by omega) hlenle (hr1.old hy)).mono fun e w' h => by
      unfold ParA at h
      rw [if_pos hok] at h
      obtain ⟨A, C, h1, -, -, h4, h5⟩ := h
      exact ⟨A, C, h1, h4, h5⟩
  have HSL := Lib.hid hsl
  have HCP := Lib.hid hcp
  have HR2 := Lib.hid hr2
  have HCHK : Hid (∀ (x : Sx) (y : World), Below w.heap.size w y → x.s = Gr.sealOf data blank number 0 → x.Ok y (fun _ => True) → Calls Try.prog 13 #[.slice A1 data.length C1, .slice A2 blank.length C2, .agg #[.int .i64 x.s.number, .int .i64 x.s.index, .int .i64 x.s.data, .int .i64 x.s.parity, .slice x.A x.s.labels.length x.C]] y (AnsI 0 y)) := Lib.hid fun x y hy hs hx => by
    have h := check_any A1 data C1 A2 blank C2 G x y hn1 hn2 hl (hr1.old hy) (hr2.old hy) hx
    rw [hs] at h
    have h0 : checkE (decide (Rc.SOk (Gr.sealOf data blank number 0))) (data.any lostB) (blank.any lostB) (decide (St.len data = 0)) (data.all goodB) (blank.any hasB) (blank.any (smallB (St.len data))) = 0 := hchk0
    rw [h0] at h
    rw [hs]; exact h
  have HLABEL : Hid (∀ i (hi : i < blank.length), 1 ≤ blank[i].label ∧ blank[i].label ≤ 2147483647) := Lib.hid fun i hi => Gr.seal_labels hsok (List.mem_append_right _ (List.getElem_mem hi))
  obtain ⟨labs, hlabs2⟩ : ∃ l, l = (data ++ blank).map St.T.label := ⟨_, rfl⟩
  have hsof : ∀ i : Nat, Gr.sealOf data blank number i = ⟨number, (i : Int), (data.length : Int), (blank.length : Int), labs⟩ := fun i => by rw [hlabs2]; rfl
  rw [← hlabs2] at HSL
  obtain ⟨n1, hn1'⟩ : ∃ n, n = data.length := ⟨_, rfl⟩
  obtain ⟨n2, hn2'⟩ : ∃ n, n = blank.length := ⟨_, rfl⟩
  have HMT : Hid (∀ i (hi : i < blank.length), (Gr.made data blank number).take (i + 1) = (Gr.made data blank number).take i ++ [⟨blank[i].label, blank[i].cap, framedL blank[i].label (says (Gr.rowsOf data n2 i) ⟨number, ((n1 + i : Nat) : Int), (n1 : Int), (n2 : Int), labs⟩), false⟩]) := Lib.hid fun i hi => by
    rw [made_take hi]
    unfold Gr.madeT
    rw [hsof, hn1', hn2']
  have HML : Hid ((Gr.made data blank number).length = n2) := Lib.hid (by rw [Gr.made_len, hn2'])
  rw [← hn1', ← hn2'] at HSL HCHK HCP hsof ⊢
  obtain ⟨hf1, hf2, hf3⟩ : 1 ≤ n1 ∧ 1 ≤ n2 ∧ n1 + n2 ≤ 14 := by rw [hn1', hn2']; exact hfew
  have HSO := Lib.hid hsof
  have HN2 := Lib.hid hn2'
  obtain ⟨len, hlen⟩ : ∃ len, len = St.len data := ⟨_, rfl⟩
  have HLEN := Lib.hid hlen
  have hlen1 : len ≤ 1000000 := by rw [hlen]; exact hlenle
  obtain ⟨cs, hcs⟩ : ∃ cs : Array Value, cs = madeCells (Value.agg #[.int .i64 0, .int .i64 0, .slice none 0 0, .bool false]).cells (n2 * 4) := ⟨_, rfl⟩
  have hcsz : cs.size = n2 * 4 := by rw [hcs, size_madeCells]
  have hmk : ∀ y : World, (Instr.makeSlice 29 (.int .i64 (n2 : Int)) (.int .i64 (n2 : Int))).run Try.prog y = .ok (.slice (some ⟨y.heap.size, 0, none⟩) n2 n2) (y.alloc (.cells cs 32)) := fun y => by
    obtain ⟨i0, hi, hz0, hz1, hz2⟩ := info_parts infoTape
    have h := run_make (P := Try.prog) y 29 32 i0 _ Try.underlying29 hi hz0 .i64 .i64 (n2 : Int) (n2 : Int) (by omega) (Int.le_refl _) (by rw [hz2]; omega) (by omega)
    rw [hz1, Int.toNat_natCast] at h
    rw [hcs]; exact h
  clear hr1 hr2 hsl hcp hlabs hk1 hk2 hrd1 hrd2 hl hl1 hl2 hA1 hA2 hyes hn1 hn2 hn1' hn2' hsof hchk0 hok hsok hfew hlabs2 hlenle hlen hcs
  go_enter Try.func6, Try.ntmps6
  go_wp2_with fail
  refine HSL.out.mono ?_
  rintro e w1 ⟨⟨⟨sn, si, sd, sp, sl⟩, sA, sC⟩, rfl, hxs, hxo, hb1⟩
  cases hxs
  dsimp only at hxo ⊢
  obtain ⟨m, hm⟩ : ∃ m, m = labs.length := ⟨_, rfl⟩
  rw [← hm]
  obtain ⟨wa, hwa⟩ : ∃ wa, wa = w1.alloc (sealObj number 0 (n1 : Int) (n2 : Int) sA m sC) := ⟨_, rfl⟩
  have hba' : Below w1.heap.size w1 wa := by rw [hwa]; exact (Below.refl _ _).alloc (Nat.le_refl _) _
  have hba := hb1.trans (hba'.mono hb1.size)
  have hSa : wa.heap[w1.heap.size]? = some (sealObj number 0 (n1 : Int) (n2 : Int) sA m sC) := by rw [hwa]; exact Go.Deep.blk_alloc_new _ _
  have hcall := HCHK.out ⟨⟨number, 0, (n1 : Int), (n2 : Int), labs⟩, sA, sC⟩ wa hba (HSO.out 0).symm ((hxo.old hba').mono fun _ _ => trivial)
  dsimp only at hcall
  rw [← hm] at hcall
  obtain ⟨sB, hsB⟩ : ∃ sB, sB = w1.heap.size := ⟨_, rfl⟩
  have HXO : Hid (Sx.Ok ⟨⟨number, 0, (n1 : Int), (n2 : Int), labs⟩, sA, sC⟩ wa (· < sB)) := Lib.hid ((hxo.in_.old hba').mono fun x hx => by rw [hsB]; exact hx.2)
  have HC := Lib.hid hcall
  have HBA := Lib.hid hba
  have HSA := Lib.hid (by rw [hsB]; exact hSa : wa.heap[sB]? = some (sealObj number 0 (n1 : Int) (n2 : Int) sA m sC))
  have HWA := Lib.hid hwa
  unfold sealObj at HWA
  have HM := Lib.hid hm
  have HSB0 := Lib.hid hsB
  have HLOW : Hid (w.heap.size ≤ sB) := Lib.hid (by rw [hsB]; exact hb1.size)
  obtain ⟨x0, x1, x2, x3, x4⟩ := seal5 hSa
  rw [HWA.out] at x0 x1 x2 x3 x4
  clear hb1 hba' hba hSa hcall hwa hxo hm hsB
  go_wp2_with fail
  rw [← HWA.out, ← HSB0.out]
  refine HC.out.mono ?_
  rintro e w2 ⟨rfl, hb2⟩
  have hB2 := HBA.out.trans (hb2.mono HBA.out.size)
  have HCP2 := Lib.hid (HCP.out w2 hB2)
  have HB2 := Lib.hid hB2
  have HS2 := Lib.hid (below_obj hb2 HSA.out)
  have HXO2 := Lib.hid (HXO.out.old hb2)
  clear hb2 hB2 x0 x1 x2 x3 x4
  go_wp2_with fail
  refine HCP2.out.mono ?_
  rintro e w3 ⟨Ap, Cp, rfl, hpar, hb3⟩
  obtain ⟨w0, hw0⟩ : ∃ w0, w0 = w3.alloc (.cells cs 32) := ⟨_, rfl⟩
  have hb0' : Below w3.heap.size w3 w0 := by rw [hw0]; exact (Below.refl _ _).alloc (Nat.le_refl _) _
  have hb0 := hb3.trans (hb0'.mono hb3.size)
  have hBW := HB2.out.trans (hb0.mono HB2.out.size)
  obtain ⟨gm, hgm⟩ : ∃ gm, gm = w3.heap.size := ⟨_, rfl⟩
  have hsz0 : w0.heap.size = gm + 1 := by rw [hw0, hgm]; simp
  have hs2lt := heap_lt HS2.out
  have hgm2 : w2.heap.size ≤ gm := by rw [hgm]; exact hb3.size
  have HG1 : Hid (∀ b, b < sB ∨ (w2.heap.size ≤ b ∧ b < gm) → ¬ (b = sB ∨ b = gm ∨ w0.heap.size ≤ b)) := Lib.hid fun b hb => by omega
  have HPAR : Hid (RdP w0 Ap n2 (St.len data) 79 (St.X data n2) (fun b => ¬ (b = sB ∨ b = gm ∨ w0.heap.size ≤ b))) := Lib.hid (by
    have h1 := RdP.in_' hpar
    rw [← hgm] at h1
    exact (h1.old hb0').mono fun b hb => HG1.out b (.inr hb))
  have HRB : Hid (RdT w0 A2 blank (fun b => ¬ (b = sB ∨ b = gm ∨ w0.heap.size ≤ b))) := Lib.hid ((HR2.out.in_.old hBW).mono fun b hb => HG1.out b (.inl (Nat.lt_of_lt_of_le hb.2 HLOW.out)))
  have HXO0 : Hid (Sx.Ok ⟨⟨number, 0, (n1 : Int), (n2 : Int), labs⟩, sA, sC⟩ w0 (fun b => ¬ (b = sB ∨ b = gm ∨ w0.heap.size ≤ b))) := Lib.hid ((HXO2.out.old hb0).mono fun b hb => HG1.out b (.inl hb))
  have HI0 : Hid (MkO w0 sB gm n2 number n1 n2 sA m sC ((Gr.made data blank number).take 0) w0) := Lib.hid ⟨by rw [hgm]; exact MadeO.start hw0 hcsz, ⟨0, below_obj hb0 HS2.out⟩, Kp.refl _ _, by omega⟩
  have HBW := Lib.hid hBW
  have HW0 := Lib.hid hw0
  have HGM := Lib.hid hgm
  have HLO2 : Hid (w.heap.size ≤ gm ∧ gm < w0.heap.size) := Lib.hid ⟨by have := HB2.out.size; omega, by omega⟩
  clear hpar hb3 hb0' hb0 hBW hw0 hgm hsz0 hs2lt hgm2
  go_wp2
  rw [← HW0.out, ← HGM.out]
  clear hmk
  go_loopw [43] (fun vi wr => ∃ i : Nat, i ≤ n2 ∧ vi = .int .i64 (i : Int) ∧ Hid (MkO w0 sB gm n2 number n1 n2 sA m sC ((Gr.made data blank number).take i) wr)) (fun vi _ => n2 - (intOf vi).toNat)
  case atStart => exact ⟨0, Nat.zero_le _, rfl, HI0⟩
  case round =>
    obtain ⟨i, hi, rfl, HI⟩ := hrel
    by_cases hlt : i < n2
    · have e0 : decide (i < n2) = true := decide_eq_true hlt
      have hltb : i < blank.length := by rw [← HN2.out]; exact hlt
      obtain ⟨b, off, A', C', rfl, -, c0, c1, c2, c3, -⟩ := (HRB.out.kp HI.out.kp (fun b h => h)).at_ hltb
      have hpar : RdP wr Ap n2 (St.len data) 79 (St.X data n2) (fun b => ¬ (b = sB ∨ b = gm ∨ w0.heap.size ≤ b)) := HPAR.out.keep fun _ _ hg hc => HI.out.kp.cell hc hg
      obtain ⟨pb, po, Aj, Cj, rfl, pc, hrow⟩ := rdP_row hpar hlt
      rw [← HLEN.out] at pc
      have hrl : (Gr.rowsOf data n2 i).length = len := by rw [Gr.rowsOf_len, HLEN.out]
      have hr79 : ∀ b ∈ Gr.rowsOf data n2 i, b.length ≤ 79 := fun b hb => by rw [Gr.rowsOf_79 hb]; exact Nat.le_refl _
      obtain ⟨rows, hrows⟩ : ∃ rows, rows = Gr.rowsOf data n2 i := ⟨_, rfl⟩
      have hmt := HMT.out i hltb
      have hlab := HLABEL.out i hltb
      rw [← hrows] at hrow hrl hr79 hmt
      obtain ⟨⟨lab, cap, bs, lost⟩, ht⟩ : ∃ t, t = blank[i] := ⟨_, rfl⟩
      rw [← ht] at c0 c1 c2 c3 hmt hlab
      dsimp only at c0 c1 c2 c3 hmt hlab
      have hxo := HXO0.out.kp HI.out.kp (fun b h => h)
      obtain ⟨wa, hwa⟩ : ∃ wa, wa = wr.alloc (tapeObj lab cap A' bs.length C' lost) := ⟨_, rfl⟩
      have hba : Below wr.heap.size wr wa := by rw [hwa]; exact (Below.refl _ _).alloc (Nat.le_refl _) _
      have hTa : wa.heap[wr.heap.size]? = some (tapeObj lab cap A' bs.length C' lost) := by rw [hwa]; exact Go.Deep.blk_alloc_new _ _
      obtain ⟨wb, hwb⟩ : ∃ wb, wb = wa.setCell ⟨sB, 1, none⟩ (.int .i64 ((n1 : Int) + (i : Int))) := ⟨_, rfl⟩
      have hsBlt : sB < wr.heap.size := by obtain ⟨xi, hx⟩ := HI.out.hd; exact heap_lt hx
      obtain ⟨hIB, hSb⟩ := (HI.out.old hba).turn ((n1 : Int) + (i : Int))
      rw [← hwb] at hIB hSb
      have hkb : Kp (· = sB) wa wb := by rw [hwb]; exact Kp.store _ _ _ _
      have hTb : wb.heap[wr.heap.size]? = some (tapeObj lab cap A' bs.length C' lost) := (hkb.block _ (heap_lt hTa) (by omega)).trans hTa
      have hxob : Sx.Ok ⟨⟨number, 0, (n1 : Int), (n2 : Int), labs⟩, sA, sC⟩ wb (fun _ => True) := ((hxo.old hba).kp hkb (fun b hb e => hb (.inl e))).mono fun _ _ => trivial
      have hrowb : RdW wb Aj rows (fun _ => True) := by
        intro h0
        obtain ⟨b1, o1, e1, g1, r1⟩ := (hrow.old hba) h0
        refine ⟨b1, o1, e1, trivial, fun k hk => ?_⟩
        obtain ⟨A9, C9, k1, k2, k3⟩ := r1 k hk
        exact ⟨A9, C9, hkb.cell k1 (fun e => g1 (.inl e)), k2, (k3.kp hkb (fun b hb e => hb (.inl e))).mono fun _ _ => trivial⟩
      have hpb : pb ≠ sB := fun e => by
        obtain ⟨b9, o9, A9, C9, e9, g9, -⟩ := hpar.at_ hlt
        cases e9
        exact g9 (.inl e)
      have pcb : wb.cell? ⟨pb, po + i, none⟩ = some (.slice Aj len Cj) := hkb.cell ((hba.cell (World.block_lt_of_cell? _ _ pc)).trans pc) hpb
      have HUN : Hid (∀ y, Below wb.heap.size wb y → Calls Try.prog 16 #[.slice Aj len Cj, .agg #[.int .i64 number, .int .i64 ((n1 : Int) + (i : Int)), .int .i64 (n1 : Int), .int .i64 (n2 : Int), .slice sA m sC]] y (UnitsG (says rows ⟨number, (n1 : Int) + (i : Int), (n1 : Int), (n2 : Int), labs⟩) y)) := Lib.hid fun y hy => by
        have h := units_any Aj rows len Cj (fun _ => True) ⟨⟨number, (n1 : Int) + (i : Int), (n1 : Int), (n2 : Int), labs⟩, sA, sC⟩ y hrl.symm hlen1 (hrowb.old hy) ⟨hxob.le, hxob.max, hxob.nil, hxob.rd.old hy⟩
        dsimp only at h
        rwa [← HM.out] at h
      obtain ⟨sy, hsy⟩ : ∃ sy, sy = says rows ⟨number, (n1 : Int) + (i : Int), (n1 : Int), (n2 : Int), labs⟩ := ⟨_, rfl⟩
      have hsyl : sy.length = len + 2 := by rw [hsy]; simp [says, hrl]
      have HFR : Hid (∀ (y0 y : World) v us, us.map Ux.pair = sy → UnitI y0 v us y → ∃ A C, v = .slice A us.length C ∧ Calls Try.prog 15 #[.int .i64 lab, .slice A us.length C] y (BlocksO (framedL lab sy) y)) := Lib.hid fun y0 y v us hus hui => by
        obtain ⟨A, C, hv, -, -, -, hrd⟩ := hui.own.rd
        refine ⟨A, C, hv, ?_⟩
        have hul : us.length = len + 2 := by rw [← hsyl, ← hus, List.length_map]
        have h := framed_own lab A us us.length C _ y rfl (by omega) hrd (fun u hu => (hui.ok u hu).mono fun _ _ => trivial) (fun k hk => by
          have h1 : (us.map Ux.pair)[k]? = some (Ux.pair us[k]) := by rw [List.getElem?_map, List.getElem?_eq_getElem hk]; rfl
          rw [hus, hsy] at h1
          exact says_ok hlab hr79 (by rw [hrl]; exact hlen1) k _ h1)
        rwa [hus] at h
      rw [show (((n1 + i : Nat)) : Int) = (n1 : Int) + (i : Int) by omega, ← hsy] at hmt
      rw [← hsy] at HUN
      obtain ⟨fb, hfb⟩ : ∃ fb, fb = framedL lab sy := ⟨_, rfl⟩
      rw [← hfb] at HFR hmt
      have HMT2 := Lib.hid hmt
      obtain ⟨L, hL⟩ : ∃ L, L = bs.length := ⟨_, rfl⟩
      rw [← hL] at c2 hwa hTa hTb
      have HTB := Lib.hid hTb
      have HIB := Lib.hid hIB
      have HIL : Hid (i = ((Gr.made data blank number).take i).length) := Lib.hid (by rw [List.length_take, HML.out]; omega)
      have s1 : IntKind.i64.wrap ((n1 : Int) + (i : Int)) = (n1 : Int) + (i : Int) := IntWalk.i64_in _ (by omega)
      obtain ⟨xi, hSa⟩ := (HI.out.old hba).hd
      have f1 : wa.cell? ⟨sB, 1, none⟩ = some (.int .i64 xi) := (seal5 hSa).2.1
      have f2 : wa.frozen? ⟨sB, 1, none⟩ = false := heap_frozen hSa
      have HWA := Lib.hid hwa
      unfold tapeObj at HWA
      have HWB := Lib.hid hwb
      rw [HWA.out] at f1 f2 HWB
      have HS : Hid (∀ y, Below wb.heap.size wb y → y.cell? ⟨wr.heap.size, 0, none⟩ = some (.int .i64 lab) ∧ y.cell? ⟨pb, po + i, none⟩ = some (.slice Aj len Cj) ∧ y.cell? ⟨sB, 0, none⟩ = some (.int .i64 number) ∧ y.cell? ⟨sB, 1, none⟩ = some (.int .i64 ((n1 : Int) + (i : Int))) ∧ y.cell? ⟨sB, 2, none⟩ = some (.int .i64 (n1 : Int)) ∧ y.cell? ⟨sB, 3, none⟩ = some (.int .i64 (n2 : Int)) ∧ y.cell? ⟨sB, 4, none⟩ = some (.slice sA m sC)) := Lib.hid fun y hy => by
        obtain ⟨q0, q1, q2, q3, q4⟩ := seal5 (below_obj hy hSb)
        exact ⟨(tape4 (below_tape hy hTb)).1, (hy.cell (World.block_lt_of_cell? _ _ pcb)).trans pcb, q0, q1, q2, q3, q4⟩
      have hbd : Below wb.heap.size wb wb.drew := (Below.refl _ _).drew
      have hx0 := HS.out _ hbd
      have HBD := Lib.hid hbd
      have hlo0 : w0.heap.size ≤ wr.heap.size := HI.out.kp.size
      have hlo1 : wr.heap.size ≤ wb.heap.size := Nat.le_trans hba.size hkb.size
      clear hpar pc hrl hr79 hrow hrows hlab hmt ht hxo hba hTa hIB hSb hkb hTb hxob hrowb hpb pcb hsy hsyl hfb hL hwa hwb hSa hsBlt
      go_wp2
      rw [← HWB.out]
      go_region_held3 (fun y => y.cell? ⟨wr.heap.size, 0, none⟩ = some (.int .i64 lab) ∧ y.cell? ⟨pb, po + i, none⟩ = some (.slice Aj len Cj) ∧ y.cell? ⟨sB, 0, none⟩ = some (.int .i64 number) ∧ y.cell? ⟨sB, 1, none⟩ = some (.int .i64 ((n1 : Int) + (i : Int))) ∧ y.cell? ⟨sB, 2, none⟩ = some (.int .i64 (n1 : Int)) ∧ y.cell? ⟨sB, 3, none⟩ = some (.int .i64 (n2 : Int)) ∧ y.cell? ⟨sB, 4, none⟩ = some (.slice sA m sC))
        (first
          | exact hx9
          | exact hx2
          | exact hx0)
        (first
          | (go_at_call 16; refine (HUN.out _ HBD.out).mono ?_; rintro e y1 ⟨v1, us1, rfl, hus1, hui1⟩; obtain ⟨Av, Cv, rfl, hfr⟩ := HFR.out _ y1 v1 us1 hus1 hui1; have hby := HBD.out.trans (hui1.bel.mono HBD.out.size); have hx2 := HS.out y1 hby)
          | (go_at_call 15; refine hfr.mono ?_; rintro e y2 ⟨gF, vs, rfl, htF, hb2⟩; have hby2 := hby.trans (hb2.mono hby.size); have hx9 := HS.out y2 hby2))
      have HY2 := Lib.hid hby2
      have hone : OneT y2 y1.heap.size y2.heap.size ⟨lab, cap, some ⟨gF, 0, none⟩, fb.length, fb.length, false⟩ ⟨lab, cap, fb, false⟩ := ⟨rfl, rfl, rfl, rfl, ⟨vs, ⟨htF.top, htF.len, htF.rows, fun i hi k e => by
        have hr9 := htF.rows i hi (by rw [← htF.len]; exact hi)
        exact ⟨hr9.lo k e, hr9.lt k e⟩, htF.inj⟩⟩, fun k e => (htF.top.lt k e).2⟩
      have HI2 := Lib.hid (HIB.out.old hby2)
      obtain ⟨t0, t1', -, -⟩ := tape4 (below_tape hby2 HTB.out)
      obtain ⟨⟨v0, g0⟩, ⟨v1', g1⟩, ⟨v2', g2⟩, ⟨v3', g3⟩, gf⟩ := HI2.out.made.four hlt
      have p0 := gf (i * 4)
      have p1 := gf (i * 4 + 1)
      have p2 := gf (i * 4 + 2)
      have p3 := gf (i * 4 + 3)
      obtain ⟨K, hK⟩ : ∃ K, K = fb.length := ⟨_, rfl⟩
      have hset := HIB.out.set HIL.out hlt hby2 hone hby.size hb2.size (Nat.le_refl _)
      rw [← HMT2.out] at hset
      dsimp only at hset
      rw [← hK] at hset ⊢
      have HSET := Lib.hid hset
      clear hx0 hx2 hx9 hby hby2 hb2 htF hone hfr hui1 hus1 gf hset hK hbd
      go_wp2
      go_roundw
      case rel => exact ⟨i + 1, by omega, by go_num, HSET⟩
      case measure => simp [intOf]; omega
    · have e0 : decide (i < n2) = false := decide_eq_false hlt
      have hI := HI.out
      rw [List.take_of_length_le (by rw [HML.out]; omega)] at hI
      have HIE := Lib.hid hI
      clear hI
      go_wp2
      go_ret2
      obtain ⟨tvs, L, ho1, ho2⟩ := HIE.out.made.own (by rw [HML.out]) (by omega) HLO2.out.1
      refine ⟨gm, tvs, L, by rw [← HN2.out]; rfl, by rw [← HN2.out]; exact ho1, ?_, HBW.out.trans (HIE.out.kp.below HBW.out.size fun k hk => by have := HLO2.out; have := HLOW.out; omega)⟩
      exact ho2
end Go.Proofs.Ytmfikihcoafekaa
