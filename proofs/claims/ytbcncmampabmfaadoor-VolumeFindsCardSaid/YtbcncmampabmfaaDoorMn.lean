/- Rows of bytes laid one by one into a slice that has room for all; which unit lies where. What Blocks of package volume answers. -/
import Derived.Test.YtbcncmampabmfaaDoorMs
import Derived.Test.YtbcncmampabmfaaDoorMb
import Derived.Test.YtbcncmampabmfaaDoorMj
import Derived.Test.YtbcncmampabmfaaDoorMf
namespace Go.Proofs.YtbcncmampabmfaaDoor
open Go.RowKit
open Pt (Tx)

/-- v is a slice of the call's own, in block M with room for K, whose rows us read as bs and lie behind M -/
structure TopR (w : World) (B M K : Nat) (us : List Value) (bs : List Tx) : Prop where
  top : w.ownsRow B 24 1 (.slice (some ⟨M, 0, none⟩) us.length K) us.length us
  len : us.length = bs.length
  rows : ∀ i (h : i < us.length) (h' : i < bs.length), ∃ A C, us[i] = .slice A bs[i].length C ∧ bs[i].length ≤ C ∧ (A = none → bs[i].length = 0 ∧ C = 0) ∧ RdL w A bs[i] (M < ·)
namespace TopR
variable {w w' : World} {B M K : Nat} {us : List Value} {bs : List Tx}
theorem block (h : TopR w B M K us bs) : ∃ c, w.heap[M]? = some (.cells c 24 (0, 0)) := by
  rcases h.top.2 with ⟨e, _⟩ | ⟨g, cap, cur, e, _, hg, _⟩
  · cases e
  · cases e; exact ⟨cur, hg⟩
theorem lt (h : TopR w B M K us bs) : M < w.heap.size := by obtain ⟨c, hc⟩ := h.block; exact heap_lt hc
theorem lo (h : TopR w B M K us bs) : B ≤ M := (World.ownsRow.lt h.top M rfl).1
theorem old (h : TopR w B M K us bs) (hb : Below w.heap.size w w') : TopR w' B M K us bs := by
  refine ⟨⟨h.top.1, ?_⟩, h.len, fun i hi hi' => ?_⟩
  · rcases h.top.2 with ⟨e, _⟩ | ⟨g, cap, cur, e, hB, hg, hr⟩
    · cases e
    · exact .inr ⟨g, cap, cur, e, hB, (hb.block g (heap_lt hg)).trans hg, hr⟩
  · obtain ⟨A, C, h1, h2, h3, h4⟩ := h.rows i hi hi'
    exact ⟨A, C, h1, h2, h3, h4.old hb⟩
/-- a row more -/
theorem push (h : TopR w B M K us bs) {w1 : World} (hw : Below w.heap.size w w1) {A : Option Addr} {C : Nat} {s : Tx} (h2 : s.length ≤ C) (h3 : A = none → s.length = 0 ∧ C = 0) (h4 : RdL w1 A s (M < ·))
    (ho : w'.ownsRow B 24 1 (.slice (some ⟨M, 0, none⟩) (us.length + 1) K) (us.length + 1) (us ++ [.slice A s.length C])) (hg : w1.grownBy w' (some M)) : TopR w' B M K (us ++ [.slice A s.length C]) (bs ++ [s]) := by
  have keep : ∀ {A' : Option Addr} {l : Tx}, RdL w1 A' l (M < ·) → RdL w' A' l (M < ·) := fun {A' l} hx => hx.keep fun p u hp hc =>
    (World.cell?_of_block (hg.block _ (World.block_lt_of_cell? _ _ hc) (fun e => by cases e; omega))).trans hc
  refine ⟨by rw [List.length_append]; exact ho, by simp [h.len], fun i hi hi' => ?_⟩
  rcases Nat.lt_or_ge i us.length with hl | hl
  · have hl' : i < bs.length := by rw [← h.len]; exact hl
    obtain ⟨A', C', g1, g2, g3, g4⟩ := h.rows i hl hl'
    rw [List.getElem_append_left hl, List.getElem_append_left hl']
    exact ⟨A', C', g1, g2, g3, keep (g4.old hw)⟩
  · have : i = us.length := by simp at hi; omega
    subst this
    have e2 : (bs ++ [s])[us.length] = s := by simp [h.len]
    rw [e2]
    simp only [List.getElem_concat_length]
    exact ⟨A, C, rfl, h2, h3, keep h4⟩
/-- as what reads -/
theorem rdB (h : TopR w B M K us bs) : RdB w (some ⟨M, 0, none⟩) bs (B ≤ ·) := by
  intro hn
  rcases h.top.2 with ⟨e, _⟩ | ⟨g, cap, cur, e, hB, hg, hnc, _, hs, ht⟩
  · cases e
  · cases e
    refine ⟨M, 0, rfl, hB, fun i hi => ?_⟩
    have hi' : i < us.length := by rw [h.len]; exact hi
    obtain ⟨A', C', hv, h1, h2, h3⟩ := h.rows i hi' hi
    refine ⟨A', C', ?_, h1, h2, h3.mono fun x hx => by omega⟩
    have hx : us[i]? = some (.slice A' bs[i].length C') := by rw [List.getElem?_eq_getElem hi', hv]
    rw [← ht, List.getElem?_take, if_pos (by omega), Array.getElem?_toList] at hx
    rw [Nat.zero_add, heap_cell hg, hx]
end TopR
theorem chunk_of {b : Tx} {k : Nat} : (Vo.chunk b k).length = min 64 (b.length - 64 * k) := by
  unfold Vo.chunk; rw [List.length_take, List.length_drop]
/-- the unit i, as it lies in the row -/
theorem uv_is {h : Rc.H} {b : Tx} {lab at_ : Int} {A Ah : Option Addr} {nh Ch bb off L : Nat} (hOk : Rc.Ok h) (hL : L = b.length) (hnh : nh = (Rc.put h).length) (hch : nh ≤ Ch) (hz : Ah = none → nh = 0 ∧ Ch = 0) (hA : 0 < L → A = some ⟨bb, off, none⟩) {i : Nat} (hi : i < Vo.data L + 2) :
    ∃ u uv, (Vo.units lab at_ h b)[i]? = some u ∧ (uvs Ah nh Ch (pcs bb off L (Vo.data L)) ++ [⟨4, none, 0, 0⟩])[i]? = some uv ∧ uv.kind = u.kind ∧ uv.n = u.load.length ∧ (uv.A = none → uv.n = 0 ∧ uv.C = 0) ∧ uv.n ≤ uv.C
      ∧ ∀ (W : World) (G : Nat → Prop), RdL W Ah (Rc.put h) G → RdL W A b G → RdL W uv.A u.load G := by
  subst hL
  by_cases h0 : i = 0
  · subst h0
    refine ⟨_, _, Vo.units_zero lab at_ h b, rfl, rfl, ?_, hz, hch, fun W G h1 _ => ?_⟩
    · show nh = (Rc.blk h).length
      rw [hnh, Rc.put_ok hOk]
    · show RdL W Ah (Rc.blk h) G
      rw [← Rc.put_ok hOk]; exact h1
  · obtain ⟨k, rfl⟩ : ∃ k, i = k + 1 := ⟨i - 1, by omega⟩
    by_cases hk : k < Vo.data b.length
    · have hlt : 64 * k < b.length := by unfold Vo.data at hk; omega
      refine ⟨_, pu (pcAt bb off b.length k), Vo.units_data hk, ?_, rfl, ?_, (fun h => by cases h), Nat.le_refl _, fun W G _ h2 => ?_⟩
      · rw [List.getElem?_append_left (by simp [uvs, pcs]; omega)]
        unfold uvs
        rw [List.getElem?_cons_succ, List.getElem?_map, pcs, List.getElem?_map, List.getElem?_range hk]
        rfl
      · show min 64 (b.length - 64 * k) = (Vo.chunk b k).length
        rw [chunk_of]
      · rw [hA (by omega)] at h2
        exact (h2.drop (64 * k)).take 64
    · obtain rfl : k = Vo.data b.length := by omega
      refine ⟨_, ⟨4, none, 0, 0⟩, Vo.units_mark lab at_ h b, ?_, rfl, rfl, fun _ => ⟨rfl, rfl⟩, Nat.le_refl _, fun W G _ _ => RdL.empty _ _ _⟩
      simp [uvs, pcs]
end Go.Proofs.YtbcncmampabmfaaDoor
namespace Go.Proofs.YtbcncmampabmfaaDoor
open Go.RowKit
open Pt (Tx)

/-- what Blocks answers, in new memory -/
def BlocksA (lab at_ : Int) (h : Rc.H) (b : Tx) (w : World) (e : Ending) (w' : World) : Prop :=
  ∃ A n C, e = .returned (.tuple #[.slice A n C, .int .i64 (Vo.err lab at_ h b)]) ∧ n = (Vo.put lab at_ h b).length ∧ n ≤ C ∧ (A = none → n = 0 ∧ C = 0) ∧ RdB w' A (Vo.put lab at_ h b) (w.heap.size ≤ ·) ∧ Below w.heap.size w w'
theorem BlocksA.no {lab at_ : Int} {h : Rc.H} {b : Tx} {w w' : World} (hn : ¬ Vo.Right lab at_ h b) (hb : Below w.heap.size w w') : BlocksA lab at_ h b w (.returned (.tuple #[.slice none 0 0, .int .i64 1])) w' :=
  ⟨none, 0, 0, by rw [Vo.err_no hn], by rw [Vo.put_no hn]; rfl, Nat.le_refl _, fun _ => ⟨rfl, rfl⟩, by rw [Vo.put_no hn]; exact RdB.empty _ _ _, hb⟩
set_option maxHeartbeats 2000000 in
theorem blocks_no (lab at_ : Int) (p : Tx) (v z f l s m : Int) (g : Bool) (A : Option Addr) (b : Tx) (L C : Nat) (w : World) (hp : p.length ≤ maxLen) (hk : Kept w) (hL : L = b.length) (hn : ¬ (Rc.Ok ⟨p, v, z, f, l, s, m, g⟩ ∧ (b.length : Int) = l)) :
    Calls Tryd.prog 7 #[.int .i64 lab, .int .i64 at_, .agg #[.string (tx p), .int .i64 v, .int .i64 z, .int .i64 f, .int .i64 l, .int .i64 s, .int .i64 m, .bool g], .slice A L C] w (BlocksA lab at_ ⟨p, v, z, f, l, s, m, g⟩ b w) := by
  have HN : Hid (¬ Vo.Right lab at_ ⟨p, v, z, f, l, s, m, g⟩ b) := Lib.hid fun h => hn h.1
  obtain ⟨wa, hwa⟩ : ∃ wa, wa = w.alloc (headObj p v z f l s m g) := ⟨_, rfl⟩
  have hB : Below w.heap.size w wa := by rw [hwa]; exact (Below.refl _ _).alloc (Nat.le_refl _) _
  have hH : wa.heap[w.heap.size]? = some (headObj p v z f l s m g) := by rw [hwa]; exact Go.Deep.blk_alloc_new _ _
  have hcall := rightHead_any p v z f l s m g wa hp (hk.old hB)
  have HB := Lib.hid hB
  have HH := Lib.hid hH
  have HW := Lib.hid hwa
  unfold headObj at HW
  have hcase : decide (Rc.Ok ⟨p, v, z, f, l, s, m, g⟩) = false ∨ (decide (Rc.Ok ⟨p, v, z, f, l, s, m, g⟩) = true ∧ ((L : Int) != l) = true) := by
    by_cases h : Rc.Ok ⟨p, v, z, f, l, s, m, g⟩
    · refine .inr ⟨decide_eq_true h, bne_iff_ne.2 fun e => hn ⟨h, by rw [← hL]; exact e⟩⟩
    · exact .inl (decide_eq_false h)
  clear hB hH hwa hk hn hL
  rcases hcase with q1 | ⟨q1, q2⟩
  all_goals
    rw [q1] at hcall
    have HC := Lib.hid hcall
    clear hcall q1
    go_enter Tryd.func7, Tryd.ntmps7
    go_wp2_with fail
    rw [← HW.out]
    refine HC.out.mono ?_
    rintro e w1 ⟨rfl, hb1⟩
    obtain ⟨a0, a1, a2, a3, a4, a5, a6, a7⟩ := head8 (below_head hb1 HH.out)
    have HB1 := Lib.hid (HB.out.trans (hb1.mono HB.out.size))
    clear hb1
    go_wp2
    go_ret2
    exact BlocksA.no HN.out HB1.out
set_option maxRecDepth 100000 in
set_option maxHeartbeats 8000000 in
theorem blocks_main (lab at_ : Int) (p : Tx) (v z f l s m : Int) (g : Bool) (A : Option Addr) (b : Tx) (L C bb off : Nat) (G : Nat → Prop) (w : World) (hp : p.length ≤ maxLen) (hk : Kept w) (hL : L = b.length) (hC : L ≤ C) (hA : 0 < L → A = some ⟨bb, off, none⟩) (hr : RdL w A b G) (hOk : Rc.Ok ⟨p, v, z, f, l, s, m, g⟩) (hl : (b.length : Int) = l)
    (hat : -9223372036854775808 ≤ at_ ∧ at_ ≤ 9223372036854775807) :
    Calls Tryd.prog 7 #[.int .i64 lab, .int .i64 at_, .agg #[.string (tx p), .int .i64 v, .int .i64 z, .int .i64 f, .int .i64 l, .int .i64 s, .int .i64 m, .bool g], .slice A L C] w (BlocksA lab at_ ⟨p, v, z, f, l, s, m, g⟩ b w) := by
  have hL4 : L ≤ 4000 := by have := hOk.2.2.2.1.2; obtain ⟨-, -, -, ⟨_, a⟩, b', c, d, _⟩ := hOk; rw [hL]; simp only at a b' c d; omega
  obtain ⟨D, hD⟩ : ∃ D, D = Vo.data L := ⟨_, rfl⟩
  obtain ⟨N, hN⟩ : ∃ N, N = D + 2 := ⟨_, rfl⟩
  have hD63 : D ≤ 63 := by rw [hD]; unfold Vo.data; omega
  have hneed : Vo.need l = N := by
    rw [← hl, Vo.need_of hOk (show (b.length : Int) = (⟨p, v, z, f, l, s, m, g⟩ : Rc.H).len from hl), ← hL, hN, hD]
  obtain ⟨wa, hwa⟩ : ∃ wa, wa = w.alloc (headObj p v z f l s m g) := ⟨_, rfl⟩
  have hB : Below w.heap.size w wa := by rw [hwa]; exact (Below.refl _ _).alloc (Nat.le_refl _) _
  have hH : wa.heap[w.heap.size]? = some (headObj p v z f l s m g) := by rw [hwa]; exact Go.Deep.blk_alloc_new _ _
  have hcall := rightHead_any p v z f l s m g wa hp (hk.old hB)
  rw [decide_eq_true hOk] at hcall
  have HC := Lib.hid hcall
  have HB := Lib.hid hB
  have HH := Lib.hid hH
  have HW := Lib.hid hwa
  unfold headObj at HW
  have q1 : ((L : Int) != l) = false := by rw [hL, hl]; simp
  have HR := Lib.hid (hr.in_.mono (fun x hx => hx.2) : RdL w A b (· < w.heap.size))
  have HK := Lib.hid hk
  have HL := Lib.hid hL
  have HOK := Lib.hid hOk
  have HLL := Lib.hid hl
  have HA := Lib.hid hA
  have HD := Lib.hid hD
  have HNEED := Lib.hid hneed
  have HAT := Lib.hid hat
  have HN := Lib.hid hN
  have hN65 : N ≤ 65 ∧ 2 ≤ N := by omega
  clear hcall hB hH hwa hk hL hr hOk hl hA hD hneed hat hN hD63
  go_enter Tryd.func7, Tryd.ntmps7
  go_wp2_with fail
  rw [← HW.out]
  refine HC.out.mono ?_
  clear HC
  rintro e w1 ⟨rfl, hb1⟩
  have HH1 := Lib.hid (below_head hb1 HH.out)
  have HB1 := Lib.hid (HB.out.trans (hb1.mono HB.out.size))
  obtain ⟨a0, a1, a2, a3, a4, a5, a6, a7⟩ := head8 HH1.out
  clear hb1
  go_wp2_with fail
  refine (need_any l w1).mono ?_
  rintro e w' ⟨rfl, hw'⟩
  subst hw'
  rw [HNEED.out]
  obtain ⟨i0, hi0, hz0, hz1, hz2⟩ := info_parts infoRow
  obtain ⟨w2, hmk, hO2, hG2⟩ := run_make_own (P := Tryd.prog) w1 w.heap.size 26 24 i0 (.slice none 0 0) 1 Tryd.underlying26 hi0 hz0 hz1 .i64 .i64 N (by rw [hz2]; omega) (by unfold maxLen; omega) HB1.out.size
  obtain ⟨M, hM⟩ : ∃ M, M = w1.heap.size := ⟨_, rfl⟩
  rw [← hM] at hmk hO2
  have hb2 : Below w1.heap.size w1 w2 := ⟨hG2.os, hG2.tape, hG2.output, hG2.size, fun y hy => hG2.block y hy (fun e => by cases e)⟩
  have HT2 : Hid (TopR w2 w.heap.size M N [] []) := Lib.hid ⟨hO2, rfl, fun i h => absurd h (by simp), ⟩
  have HB2 := Lib.hid (HB1.out.trans (hb2.mono HB1.out.size))
  have HH2 := Lib.hid (below_head hb2 HH1.out)
  have HM2 : Hid (w.heap.size < M ∧ M < w2.heap.size) := Lib.hid ⟨by rw [hM]; exact heap_lt HH1.out, HT2.out.lt⟩
  have hcall := units_any p v z f l s m g A bb off L C w2 hp (HK.out.old HB2.out) (by omega) hC HA.out
  have HC := Lib.hid hcall
  clear hcall hb2 hO2 hG2 a0 a1 a2 a3 a4 a5 a6 a7
  obtain ⟨a0, a1, a2, a3, a4, a5, a6, a7⟩ := head8 HH2.out
  go_wp2_with fail
  rw [← hM]
  refine HC.out.mono ?_
  clear HC hM hmk
  rintro e w3 ⟨vU, Ah, nh, Ch, rfl, hO3, hnh, hch, hz, hrh, hb3⟩
  obtain ⟨us, hus⟩ : ∃ us, us = uvs Ah nh Ch (pcs bb off L (Vo.data L)) ++ [⟨4, none, 0, 0⟩] := ⟨_, rfl⟩
  have husl : us.length = N := by rw [hus, HN.out, HD.out]; simp [uvs, pcs]
  rw [← hus] at hO3
  obtain ⟨AU, CU, rfl, -, -, -, hRU⟩ := hO3.rd
  rw [husl]
  have HUV : Hid (∀ i, i < N → ∃ u uv, (Vo.units lab at_ ⟨p, v, z, f, l, s, m, g⟩ b)[i]? = some u ∧ us[i]? = some uv ∧ uv.kind = u.kind ∧ uv.n = u.load.length ∧ (uv.A = none → uv.n = 0 ∧ uv.C = 0) ∧ uv.n ≤ uv.C
      ∧ ∀ (W : World) (G : Nat → Prop), RdL W Ah (Rc.put ⟨p, v, z, f, l, s, m, g⟩) G → RdL W A b G → RdL W uv.A u.load G) := Lib.hid fun i hi => by
    rw [hus]; exact uv_is HOK.out HL.out hnh hch hz HA.out (by rw [HN.out, HD.out] at hi; exact hi)
  have HUL := Lib.hid husl
  have HT3 := Lib.hid (HT2.out.old hb3)
  have HB3 := Lib.hid (HB2.out.trans (hb3.mono HB2.out.size))
  have HRU : Hid (encU.Rd w3 AU us (M ≠ ·)) := Lib.hid (hRU.mono fun x hx => by have := HM2.out; omega)
  have HRH : Hid (RdL w3 Ah (Rc.put ⟨p, v, z, f, l, s, m, g⟩) (M ≠ ·)) := Lib.hid (hrh.mono fun x hx => by have := HM2.out; omega)
  have HRB : Hid (RdL w3 A b (M ≠ ·)) := Lib.hid ((HR.out.below HB3.out).mono fun x hx => by have := HM2.out; omega)
  clear hus husl hO3 hRU hnh hch hz hrh hb3 HT2 HH2 HH1 HB2 HB1 HR a0 a1 a2 a3 a4 a5 a6 a7 q1
  go_wp2
  go_loopw [33, 10] (fun vi vl wr => ∃ (i : Nat) (rs : List Value), i ≤ N ∧ rs.length = i ∧ vi = .int .i64 (i : Int) ∧ vl = .slice (some ⟨M, 0, none⟩) i N ∧ Hid (TopR wr w.heap.size M N rs (((Vo.units lab at_ ⟨p, v, z, f, l, s, m, g⟩ b).take i).map Fm.blk)) ∧ Hid (∀ j, j < i → Vo.Fits lab (at_ + (j : Int)) 0) ∧ Hid (Kp (· = M) w3 wr) ∧ Hid (Below w.heap.size w wr)) (fun vi _ _ => N - (intOf vi).toNat)
  case atStart => exact ⟨0, [], Nat.zero_le _, rfl, rfl, rfl, by rw [List.take_zero]; exact HT3, Lib.hid (fun j hj => absurd hj (by omega)), Lib.hid (Kp.refl _ _), HB3⟩
  case round =>
    obtain ⟨i, rs, hi, hrs, rfl, rfl, HT, HF, HKP, HB4⟩ := hrel
    by_cases hlt : i < N
    · obtain ⟨⟨ku, lu, nu, ld⟩, ⟨kv, Av, nv, Cv⟩, hu, huv, e1, e2, e3, e4, e5⟩ := HUV.out i hlt
      have e1' : kv = ku := e1
      have e2' : nv = ld.length := e2
      obtain ⟨hlu, hnu, -, -⟩ := Vo.units_at hu
      have hlu' : lu = lab := hlu
      have hnu' : nu = at_ + (i : Int) := hnu
      have herr := Vo.unit_err HOK.out hu
      subst e1' hlu'
      have huvl : i < us.length := by rw [HUL.out]; exact hlt
      have hload : RdL wr Av ld _ := e5 wr _ (HRH.out.kp HKP.out (fun x hx e => hx e.symm)) (HRB.out.kp HKP.out (fun x hx e => hx e.symm))
      obtain ⟨gb, go, rfl, -, hcell⟩ := (HRU.out.kp HKP.out (fun x hx e => hx e.symm)).at_ huvl
      have hue : us[i] = ⟨kv, Av, nv, Cv⟩ := by rw [List.getElem?_eq_getElem huvl] at huv; exact Option.some.inj huv
      rw [hue] at hcell
      have c0 : wr.cell? ⟨gb, go + i * 4, none⟩ = some (.int .i64 kv) := hcell 0 _ rfl
      have c1 : wr.cell? ⟨gb, go + i * 4 + 1, none⟩ = some (.int .i64 0) := hcell 1 _ rfl
      have c2 : wr.cell? ⟨gb, go + i * 4 + 2, none⟩ = some (.int .i64 0) := hcell 2 _ rfl
      have c3 : wr.cell? ⟨gb, go + i * 4 + 3, none⟩ = some (.slice Av nv Cv) := hcell 3 _ rfl
      have hwrap : wrap64 (at_ + (i : Int)) = nu := by
        rw [hnu']
        have h1 := HAT.out
        have h2 : i = 0 ∨ at_ + ((i - 1 : Nat) : Int) ≤ 2147483647 := by
          rcases Nat.eq_zero_or_pos i with h | h
          · exact .inl h
          · exact .inr (by have := (HF.out (i - 1) (by omega)).2.2; omega)
        unfold wrap64
        omega
      have hcall := framePut_any kv lu nu Av ld nv Cv _ (wr.alloc (unitObj kv lu nu Av nv Cv)) e2' e3 (hload.old ((Below.refl _ _).alloc (Nat.le_refl _) _))
      have HC := Lib.hid hcall
      unfold unitObj at HC
      have HU := Lib.hid hu
      have HERR := Lib.hid herr
      have HNU := Lib.hid hnu'
      clear hcall hload hcell hue huv e1 e2 e2' e3 e4 e5 hlu hnu hnu' herr hu huvl
      go_wp2_with fail
      refine HC.out.mono ?_
      rintro e w5 ⟨A5, n5, C5, rfl, hn5, hc5, hm5, ha5, hr5, hb5⟩
      have hb5' : Below wr.heap.size wr w5 := ((Below.refl _ wr).alloc (Nat.le_refl _) (unitObj kv lu nu Av nv Cv)).trans (hb5.mono ((Below.refl wr.heap.size wr).alloc (Nat.le_refl _) (unitObj kv lu nu Av nv Cv)).size)
      clear c0 c1 c2 c3 hwrap HC
      by_cases hf : Vo.Fits lu (at_ + (i : Int)) 0
      · have her : Fm.err ⟨kv, lu, nu, ld⟩ = 0 := by rw [HERR.out, if_pos hf]
        have hput : Fm.put ⟨kv, lu, nu, ld⟩ = Fm.blk ⟨kv, lu, nu, ld⟩ := Fm.put_ok (Vo.unit_ok HOK.out HU.out hf)
        rw [her]
        rw [hput] at hn5 hr5
        have HT5 := Lib.hid (HT.out.old hb5')
        have HB5 := Lib.hid (HB4.out.trans (hb5'.mono HB4.out.size))
        have hlo : M < wr.heap.size := HT.out.lt
        have HR5 : Hid (RdL w5 A5 (Fm.blk ⟨kv, lu, nu, ld⟩) (M < ·)) := Lib.hid (hr5.mono fun x hx => by
          have h1 := ((Below.refl wr.heap.size wr).alloc (Nat.le_refl _) (unitObj kv lu nu Av nv Cv)).size
          have h2 : (wr.alloc (unitObj kv lu nu Av nv Cv)).heap.size ≤ x := hx
          omega)
        have HT6 := Lib.hid ((HT5.out.old (w' := w5.alloc (.cells [Value.slice A5 n5 C5].toArray 24)) ((Below.refl _ _).alloc (Nat.le_refl _) _)).top)
        rw [hrs] at HT6
        have hKP5 : Kp (· = M) w3 w5 := HKP.out.trans (Kp.of_below hb5')
        have HKP5 := Lib.hid hKP5
        have HN5 := Lib.hid hn5
        have HA5 := Lib.hid ha5
        clear hb5 hb5' hr5 hn5 hm5 ha5 hput her hKP5
        go_wp2_with (at_builtin; refine wpList_append_fits _ rfl _ _ _ rfl w.heap.size 24 i0 1 Tryd.underlying26 hi0 hz1 M i N rs rfl HT6.out ⟨w5.heap.size, 0, none⟩ 1 1 [.slice A5 n5 C5] rfl rfl (newCells w5 [.slice A5 n5 C5] 24) (by simp [Value.oneCell']) (by omega) ?_; intro w6 hown hg6)
        have hg6' : (w5.alloc (.cells [Value.slice A5 n5 C5].toArray 24)).grownBy w6 (some M) := hg6
        have hbx : Below w5.heap.size w5 (w5.alloc (.cells [Value.slice A5 n5 C5].toArray 24)) := (Below.refl _ _).alloc (Nat.le_refl _) _
        have hKP6 := Lib.hid ((HKP5.out.trans (Kp.of_below hbx)).grown hg6' (fun k e => by cases e; rfl))
        have hB6 := Lib.hid ((HB5.out.trans (hbx.mono HB5.out.size)).grown hg6' ((HB5.out.trans (hbx.mono HB5.out.size)).size) (fun k e => by cases e; have := HM2.out; omega))
        have hT6 : TopR w6 w.heap.size M N (rs ++ [.slice A5 n5 C5]) (((Vo.units lu at_ ⟨p, v, z, f, l, s, m, g⟩ b).take (i + 1)).map Fm.blk) := by
          have htake : (Vo.units lu at_ ⟨p, v, z, f, l, s, m, g⟩ b).take (i + 1) = (Vo.units lu at_ ⟨p, v, z, f, l, s, m, g⟩ b).take i ++ [⟨kv, lu, nu, ld⟩] := by
            rw [List.take_add_one, HU.out]; rfl
          rw [htake, List.map_append]
          have h := HT5.out.push (w' := w6) hbx (A := A5) (C := C5) (s := Fm.blk ⟨kv, lu, nu, ld⟩) (by rw [← HN5.out]; exact hc5) (by rw [← HN5.out]; exact HA5.out) (HR5.out.old hbx) (by rw [hrs, ← HN5.out]; exact hown) hg6'
          rw [← HN5.out] at h
          exact h
        have hF6 : Hid (∀ j, j < i + 1 → Vo.Fits lu (at_ + (j : Int)) 0) := Lib.hid fun j hj => by
          rcases Nat.lt_or_ge j i with h | h
          · exact HF.out j h
          · obtain rfl : j = i := by omega
            exact hf
        have HT7 := Lib.hid hT6
        clear hg6 hg6' hbx hT6 hown
        go_wp2
        go_roundw
        case rel => exact ⟨i + 1, rs ++ [.slice A5 n5 C5], by omega, by simp [hrs], by go_num, rfl, HT7, hF6, hKP6, hB6⟩
        case measure => simp [intOf]; omega
      · have her : Fm.err ⟨kv, lu, nu, ld⟩ = 1 := by rw [HERR.out, if_neg hf]
        rw [her]
        have HNR : Hid (¬ Vo.Right lu at_ ⟨p, v, z, f, l, s, m, g⟩ b) := Lib.hid fun h => hf (by
          obtain ⟨h1, h2, h3⟩ := h.2
          rw [← HL.out, ← HD.out] at h3
          have := HN.out
          exact ⟨h1, by omega, by omega⟩)
        have HB5 := Lib.hid (HB4.out.trans (hb5'.mono HB4.out.size))
        clear hb5 hb5' hr5 hn5 hc5 hm5 ha5
        go_wp2
        go_ret2
        exact BlocksA.no HNR.out HB5.out
    · obtain rfl : i = N := by omega
      have hR : Vo.Right lab at_ ⟨p, v, z, f, l, s, m, g⟩ b := by
        have h0 := HF.out 0 (by omega)
        have h1 := HF.out (i - 1) (by omega)
        obtain ⟨x1, x2, x3⟩ := h0
        obtain ⟨-, -, y3⟩ := h1
        refine ⟨⟨HOK.out, HLL.out⟩, x1, by omega, ?_⟩
        rw [← HL.out, ← HD.out]
        have := HN.out
        omega
      have hput : Vo.put lab at_ ⟨p, v, z, f, l, s, m, g⟩ b = (Vo.units lab at_ ⟨p, v, z, f, l, s, m, g⟩ b).map Fm.blk := Vo.put_yes hR
      have hlen : (Vo.units lab at_ ⟨p, v, z, f, l, s, m, g⟩ b).length = i := by rw [Vo.units_len, HN.out, HD.out, HL.out]
      have hT8 := HT.out.rdB
      rw [List.take_of_length_le (by rw [hlen]; exact Nat.le_refl _)] at hT8
      have HT8 := Lib.hid hT8
      have HPUT := Lib.hid hput
      have HE := Lib.hid (Vo.err_yes hR)
      have HLEN : Hid (i = (Vo.put lab at_ ⟨p, v, z, f, l, s, m, g⟩ b).length) := Lib.hid (by rw [hput, List.length_map, hlen])
      clear hR hput hlen hT8
      go_wp2
      go_ret2
      refine ⟨some ⟨M, 0, none⟩, i, i, by rw [HE.out]; rfl, HLEN.out, Nat.le_refl _, (fun h => by cases h), ?_, HB4.out⟩
      rw [HPUT.out]
      exact HT8.out
theorem blocks_any (lab at_ : Int) (p : Tx) (v z f l s m : Int) (g : Bool) (A : Option Addr) (b : Tx) (L C : Nat) (G : Nat → Prop) (w : World) (hp : p.length ≤ maxLen) (hk : Kept w) (hL : L = b.length) (hC : L ≤ C) (hr : RdL w A b G)
    (hat : -9223372036854775808 ≤ at_ ∧ at_ ≤ 9223372036854775807) :
    Calls Tryd.prog 7 #[.int .i64 lab, .int .i64 at_, .agg #[.string (tx p), .int .i64 v, .int .i64 z, .int .i64 f, .int .i64 l, .int .i64 s, .int .i64 m, .bool g], .slice A L C] w (BlocksA lab at_ ⟨p, v, z, f, l, s, m, g⟩ b w) := by
  by_cases h : Rc.Ok ⟨p, v, z, f, l, s, m, g⟩ ∧ (b.length : Int) = l
  · rcases Nat.eq_zero_or_pos L with h0 | h0
    · exact blocks_main lab at_ p v z f l s m g A b L C 0 0 G w hp hk hL hC (fun h' => by omega) hr h.1 h.2 hat
    · obtain ⟨bb, off, e, -, -⟩ := hr (by omega)
      exact blocks_main lab at_ p v z f l s m g A b L C bb off G w hp hk hL hC (fun _ => e) hr h.1 h.2 hat
  · exact blocks_no lab at_ p v z f l s m g A b L C w hp hk hL h
end Go.Proofs.YtbcncmampabmfaaDoor
