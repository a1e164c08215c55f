/- What the document's own Blocks answers. Tapes in a row that a call makes longer by append: each in four cells. No function of the program. Tapes in a row that a call makes longer by append, each tape's rows in other blocks than the row's own. -/
import Derived.Test.YtbijjgicjkmopaaDoorMax
import Derived.Test.YtbijjgicjkmopaaDoorMba
import Derived.Test.YtbijjgicjkmopaaDoorRefFmP
import Derived.Test.YtbijjgicjkmopaaDoorMaq
import Derived.Test.YtbijjgicjkmopaaDoorMao
import Derived.Test.YtbijjgicjkmopaaDoorMaf
import Derived.Deep.AppendLies
namespace Go.Proofs.YtbijjgicjkmopaaDoor
open Go.RowKit
open Pt (Tx)

/-- what the document's own Blocks answers: rows of its own, no two in one block -/
def RefBl (lab at_ : Int) (h : Rc.H) (b : Tx) (w : World) (e : Ending) (w' : World) : Prop :=
  ∃ v us, e = .returned (.tuple #[v, .int .i64 (Vo.err lab at_ h b)]) ∧ TopB w' w.heap.size (w.heap.size ≤ ·) v us (Vo.put lab at_ h b) ∧ Below w.heap.size w w'
theorem RefBl.no {lab at_ : Int} {h : Rc.H} {b : Tx} {w w' : World} (hn : ¬ Vo.Right lab at_ h b) (hb : Below w.heap.size w w') : RefBl lab at_ h b w (.returned (.tuple #[.slice none 0 0, .int .i64 1])) w' :=
  ⟨_, [], by rw [Vo.err_no hn], by rw [Vo.put_no hn]; exact TopB.nil _ _ _, hb⟩
set_option maxRecDepth 100000 in
set_option maxHeartbeats 2000000 in
theorem refBlocks_no (lab at_ : Int) (p : Tx) (v z f l s m : Int) (g : Bool) (A : Option Addr) (b : Tx) (L C : Nat) (w : World) (hp : p.length ≤ maxLen) (hL : L = b.length) (hn : ¬ (Rc.Ok ⟨p, v, z, f, l, s, m, g⟩ ∧ (b.length : Int) = l)) :
    Calls Tryd.prog 7 #[.int .i64 lab, .int .i64 at_, .agg #[.string (tx p), .int .i64 v, .int .i64 z, .int .i64 f, .int .i64 l, .int .i64 s, .int .i64 m, .bool g], .slice A L C] w (RefBl lab at_ ⟨p, v, z, f, l, s, m, g⟩ b w) := by
  have HN : Hid (¬ Vo.Right lab at_ ⟨p, v, z, f, l, s, m, g⟩ b) := Lib.hid fun h => hn h.1
  obtain ⟨wa, hwa⟩ : ∃ wa, wa = w.alloc (headObj p v z f l s m g) := ⟨_, rfl⟩
  have hB : Below w.heap.size w wa := by rw [hwa]; exact (Below.refl _ _).alloc (Nat.le_refl _) _
  have hH : wa.heap[w.heap.size]? = some (headObj p v z f l s m g) := by rw [hwa]; exact Go.Deep.blk_alloc_new _ _
  have hcall := refRightHead_any p v z f l s m g wa hp
  have HB := Lib.hid hB
  have HH := Lib.hid hH
  have HW := Lib.hid hwa
  unfold headObj at HW
  have hcase : decide (Rc.Ok ⟨p, v, z, f, l, s, m, g⟩) = false ∨ (decide (Rc.Ok ⟨p, v, z, f, l, s, m, g⟩) = true ∧ ((L : Int) != l) = true) := by
    by_cases h : Rc.Ok ⟨p, v, z, f, l, s, m, g⟩
    · refine .inr ⟨decide_eq_true h, bne_iff_ne.2 fun e => hn ⟨h, by rw [← hL]; exact e⟩⟩
    · exact .inl (decide_eq_false h)
  clear hB hH hwa hn hL
  rcases hcase with q1 | ⟨q1, q2⟩
  all_goals
    rw [q1] at hcall
    have HC := Lib.hid hcall
    clear hcall q1
    go_enter Tryd.func7, Tryd.ntmps7
    go_wp2_with fail
    rw [← HW.out]
    refine HC.out.mono ?_
    rintro e w1 ⟨rfl, hb1⟩
    obtain ⟨a0, a1, a2, a3, a4, a5, a6, a7⟩ := head8 (below_head hb1 HH.out)
    have HB1 := Lib.hid (HB.out.trans (hb1.mono HB.out.size))
    clear hb1
    go_wp2
    go_ret2
    exact RefBl.no HN.out HB1.out
/-- a row of bytes stays as it was when a list of structs grows -/
theorem own_kept {α : Type} {E : Enc α} {w w' : World} {B B' : Nat} {t : TypeId} {v x : Value} {us : List α} {l : Tx} (hU : E.Own w B t v us) (ht : t ≠ 5) (hO : OwnL w B' x l) (hg : w.grownBy w' v.ownBlock) : OwnL w' B' x l :=
  hO.of_block fun k e => hg.block k (hO.lt k e) fun e' => by
    obtain ⟨c, hc⟩ := hU.block k e'.symm
    obtain ⟨c', hc'⟩ := hO.block k e
    rw [hc] at hc'
    injection hc' with hc'
    injection hc' with _ e2
    exact ht e2
theorem own_grown {α : Type} {E : Enc α} {w0 w w' : World} {t : TypeId} {v : Value} {us : List α} (hU : E.Own w w0.heap.size t v us) (hb : Below w0.heap.size w0 w) (hg : w.grownBy w' v.ownBlock) : Below w0.heap.size w0 w' :=
  hb.grown hg hb.size fun x hx => (hU.lt x hx).1
set_option maxRecDepth 100000 in
set_option maxHeartbeats 8000000 in
theorem refBlocks_main (lab at_ : Int) (p : Tx) (v z f l s m : Int) (g : Bool) (A : Option Addr) (b : Tx) (L C bb off : Nat) (G : Nat → Prop) (w : World) (hp : p.length ≤ maxLen) (hL : L = b.length) (hC : L ≤ C) (hCm : C ≤ maxLen) (hA : 0 < L → A = some ⟨bb, off, none⟩) (hr : RdL w A b G) (hOk : Rc.Ok ⟨p, v, z, f, l, s, m, g⟩) (hl : (b.length : Int) = l)
    (hat : -9223372036854775808 ≤ at_ ∧ at_ ≤ 9223372036854775807) :
    Calls Tryd.prog 7 #[.int .i64 lab, .int .i64 at_, .agg #[.string (tx p), .int .i64 v, .int .i64 z, .int .i64 f, .int .i64 l, .int .i64 s, .int .i64 m, .bool g], .slice A L C] w (RefBl lab at_ ⟨p, v, z, f, l, s, m, g⟩ b w) := by
  have hL4 : L ≤ 4000 := by obtain ⟨-, -, -, ⟨_, a⟩, b', c, d, _⟩ := hOk; rw [hL]; simp only at a b' c d; omega
  obtain ⟨D, hD⟩ : ∃ D, D = Vo.data L := ⟨_, rfl⟩
  obtain ⟨N, hN⟩ : ∃ N, N = D + 2 := ⟨_, rfl⟩
  have hD63 : D ≤ 63 := by rw [hD]; unfold Vo.data; omega
  have hDL : 64 * D < L + 64 ∧ L ≤ 64 * D := by rw [hD]; unfold Vo.data; omega
  obtain ⟨wa, hwa⟩ : ∃ wa, wa = w.alloc (headObj p v z f l s m g) := ⟨_, rfl⟩
  have hB : Below w.heap.size w wa := by rw [hwa]; exact (Below.refl _ _).alloc (Nat.le_refl _) _
  have hH : wa.heap[w.heap.size]? = some (headObj p v z f l s m g) := by rw [hwa]; exact Go.Deep.blk_alloc_new _ _
  have hcall := refRightHead_any p v z f l s m g wa hp
  rw [decide_eq_true hOk] at hcall
  have HC := Lib.hid hcall
  have HB := Lib.hid hB
  have HH := Lib.hid hH
  have HW := Lib.hid hwa
  unfold headObj at HW
  have q1 : ((L : Int) != l) = false := by rw [hL, hl]; simp
  have HR := Lib.hid (hr.in_.mono (fun x hx => hx.2) : RdL w A b (· < w.heap.size))
  have HP := Lib.hid hp
  have HL := Lib.hid hL
  have HOK := Lib.hid hOk
  have HLL := Lib.hid hl
  have HA := Lib.hid hA
  have HD := Lib.hid hD
  have HAT := Lib.hid hat
  have HN := Lib.hid hN
  have HDL := Lib.hid hDL
  have HCM := Lib.hid hCm
  have hN65 : N ≤ 65 ∧ 2 ≤ N := by omega
  clear hcall hB hH hwa hL hr hOk hl hA hD hat hN hDL hp hCm
  go_enter Tryd.func7, Tryd.ntmps7
  go_wp2_with fail
  rw [← HW.out]
  refine HC.out.mono ?_
  clear HC
  rintro e w1 ⟨rfl, hb1⟩
  have HH1 := Lib.hid (below_head hb1 HH.out)
  have HB1 := Lib.hid (HB.out.trans (hb1.mono HB.out.size))
  obtain ⟨a0, a1, a2, a3, a4, a5, a6, a7⟩ := head8 HH1.out
  clear hb1
  go_wp2_with fail
  refine (refHeadBytes_own p v z f l s m g w1 HP.out).mono ?_
  rintro e w2 ⟨Ah, nh, Ch, rfl, hO2, hb2⟩
  obtain ⟨A', C', e', -, -, hz, -⟩ := hO2.rd
  injection e' with x1 hnh x3
  subst x1 x3
  obtain ⟨w3, hw3⟩ : ∃ w3, w3 = w2.alloc (.cells #[.int .i64 2, .int .i64 0, .int .i64 0, .slice Ah nh Ch] 32) := ⟨_, rfl⟩
  have hb3 : Below w2.heap.size w2 w3 := by rw [hw3]; exact (Below.refl _ _).alloc (Nat.le_refl _) _
  have hk3 : w3.heap[w2.heap.size]? = some (.cells #[.int .i64 2, .int .i64 0, .int .i64 0, .slice Ah nh Ch] 32) := by rw [hw3]; exact Go.Deep.blk_alloc_new _ _
  have hB2 := HB1.out.trans (hb2.mono HB1.out.size)
  have HB3 := Lib.hid (hB2.trans (hb3.mono hB2.size))
  have HO3 := Lib.hid ((hO2.lower HB1.out.size).of_block (fun k e => hb3.block k (hO2.lt k e)))
  have HU3 : Hid (encU.Own w3 w.heap.size 32 (.slice (some ⟨w2.heap.size, 0, none⟩) 1 1) (uvs Ah nh Ch (pcsR bb off L C 0))) := Lib.hid (Enc.Own.one (E := encU) (x := ⟨2, Ah, nh, Ch⟩) hk3 hB2.size)
  have HNH := Lib.hid hnh
  have HZ : Hid (Ah = none → nh = 0 ∧ Ch = 0) := Lib.hid (fun h => by rw [hnh]; exact hz h)
  have HW3 := Lib.hid hw3
  clear hO2 hb2 hz hw3 hb3 hk3 hB2 hnh HH HH1 HB HB1 a0 a1 a2 a3 a4 a5 a6 a7 q1
  go_wp2_with fail
  rw [← HW3.out]
  clear HW3
  go_loopw [11, 10] (fun vi vl wr => ∃ k x : Nat, k ≤ D ∧ Hid (x = 64 * k) ∧ vi = .int .i64 (x : Int) ∧ Hid (encU.Own wr w.heap.size 32 vl (uvs Ah nh Ch (pcsR bb off L C k))) ∧ Hid (OwnL wr w.heap.size (.slice Ah nh Ch) (Rc.put ⟨p, v, z, f, l, s, m, g⟩)) ∧ Hid (Below w.heap.size w wr)) (fun vi _ _ => L + 64 - (intOf vi).toNat)
  case atStart => exact ⟨0, 0, Nat.zero_le _, Lib.hid rfl, rfl, HU3, HO3, HB3⟩
  case round =>
    obtain ⟨k, x, hk, HX, rfl, HU, HO, HB⟩ := hrel
    by_cases hlt : x < L
    · obtain ⟨e, he⟩ : ∃ e, e = min 64 (L - x) := ⟨_, rfl⟩
      have hpc : pcR bb off L C k = ⟨some ⟨bb, off + x, none⟩, e, C - x⟩ := by unfold pcR; rw [← HX.out, ← he]
      have HPN : Hid (uvs Ah nh Ch (pcsR bb off L C (k + 1)) = uvs Ah nh Ch (pcsR bb off L C k) ++ [⟨3, some ⟨bb, off + x, none⟩, e, C - x⟩]) := Lib.hid (by rw [pcsR_succ, uvs_snoc, hpc]; rfl)
      obtain rfl : A = some ⟨bb, off, none⟩ := HA.out (by omega)
      have HUL : Hid ((uvs Ah nh Ch (pcsR bb off L C k)).length = k + 1) := Lib.hid (by simp [uvs, pcsR])
      have hxC : x < C := by omega
      have HU4 := Lib.hid (HU.out.old (w' := wr.alloc (.cells (cells4 ⟨3, some ⟨bb, off + x, none⟩, e, C - x⟩).toArray 32)) ((Below.refl _ _).alloc (Nat.le_refl _) _))
      have hB4 := HB.out.alloc HB.out.size (.cells (cells4 ⟨3, some ⟨bb, off + x, none⟩, e, C - x⟩).toArray 32)
      have HB4 := Lib.hid hB4
      have hsz := HB.out.size
      clear hpc hB4
      by_cases hgt : L < x + 64
      · have hex : e = L - x := by omega
        subst hex
        clear he
        go_wp2_with (at_builtin; refine wpList_append_st' encU _ rfl _ _ _ rfl w.heap.size 32 _ 48 Tryd.underlying60 infoUnit rfl _ _ rfl HU4.out ⟨wr.heap.size, 0, none⟩ 1 1 [⟨3, some ⟨bb, off + x, none⟩, L - x, C - x⟩] rfl rfl (newCells wr (cells4 ⟨3, some ⟨bb, off + x, none⟩, L - x, C - x⟩) _) (by rw [HUL.out]; unfold maxLen; omega) (by rw [HUL.out]; omega) (by simp; omega) ?_; intro v' w4 hO4 hg4)
        rw [← HPN.out] at hO4
        have HO5 := Lib.hid (own_kept HU4.out (by decide) (HO.out.of_block fun k e => Below.heap_alloc _ _ _ (HO.out.lt k e)) hg4)
        have HB5 := Lib.hid (own_grown HU4.out HB4.out hg4)
        have HU5 := Lib.hid hO4
        clear hg4 hO4
        go_roundw
        case rel => exact ⟨k + 1, x + 64, by have := HDL.out; have := HX.out; omega, Lib.hid (by have := HX.out; omega), by go_num, HU5, HO5, HB5⟩
        case measure => simp [intOf]; omega
      · have hex : e = 64 := by omega
        subst hex
        clear he
        go_wp2_with (at_builtin; refine wpList_append_st' encU _ rfl _ _ _ rfl w.heap.size 32 _ 48 Tryd.underlying60 infoUnit rfl _ _ rfl HU4.out ⟨wr.heap.size, 0, none⟩ 1 1 [⟨3, some ⟨bb, off + x, none⟩, 64, C - x⟩] rfl rfl (newCells wr (cells4 ⟨3, some ⟨bb, off + x, none⟩, 64, C - x⟩) _) (by rw [HUL.out]; unfold maxLen; omega) (by rw [HUL.out]; omega) (by simp; omega) ?_; intro v' w4 hO4 hg4)
        rw [← HPN.out] at hO4
        have HO5 := Lib.hid (own_kept HU4.out (by decide) (HO.out.of_block fun k e => Below.heap_alloc _ _ _ (HO.out.lt k e)) hg4)
        have HB5 := Lib.hid (own_grown HU4.out HB4.out hg4)
        have HU5 := Lib.hid hO4
        clear hg4 hO4
        go_roundw
        case rel => exact ⟨k + 1, x + 64, by have := HDL.out; have := HX.out; omega, Lib.hid (by have := HX.out; omega), by go_num, HU5, HO5, HB5⟩
        case measure => simp [intOf]; omega
    · obtain rfl : k = D := by have := HX.out; have := HDL.out; omega
      obtain ⟨us, hus⟩ : ∃ us, us = uvs Ah nh Ch (pcsR bb off L C k) ++ [⟨4, none, 0, 0⟩] := ⟨_, rfl⟩
      have husl : us.length = N := by rw [hus, HN.out]; simp [uvs, pcsR]
      have HUL : Hid ((uvs Ah nh Ch (pcsR bb off L C k)).length = k + 1) := Lib.hid (by simp [uvs, pcsR])
      have HUV : Hid (∀ i, i < N → ∃ u uv, (Vo.units lab at_ ⟨p, v, z, f, l, s, m, g⟩ b)[i]? = some u ∧ us[i]? = some uv ∧ uv.kind = u.kind ∧ uv.n = u.load.length ∧ (uv.A = none → uv.n = 0 ∧ uv.C = 0)
          ∧ ∀ (W : World) (G : Nat → Prop), RdL W Ah (Rc.put ⟨p, v, z, f, l, s, m, g⟩) G → RdL W A b G → RdL W uv.A u.load G) := Lib.hid fun i hi => by
        rw [hus, HD.out]; exact uvR_is HOK.out HL.out hC HNH.out HZ.out HA.out (by rw [← HD.out, ← HN.out]; exact hi)
      have HUS := Lib.hid hus
      have HUSL := Lib.hid husl
      have HU4 := Lib.hid (HU.out.old (w' := wr.alloc (.cells (cells4 ⟨4, none, 0, 0⟩).toArray 32)) ((Below.refl _ _).alloc (Nat.le_refl _) _))
      have HB4 := Lib.hid (HB.out.alloc HB.out.size (.cells (cells4 ⟨4, none, 0, 0⟩).toArray 32))
      have hsz := HB.out.size
      clear hus husl HU3 HO3 HB3
      go_wp2_with (at_builtin; refine wpList_append_st' encU _ rfl _ _ _ rfl w.heap.size 32 _ 48 Tryd.underlying60 infoUnit rfl _ _ rfl HU4.out ⟨wr.heap.size, 0, none⟩ 1 1 [⟨4, none, 0, 0⟩] rfl rfl (newCells wr (cells4 ⟨4, none, 0, 0⟩) _) (by rw [HUL.out]; unfold maxLen; omega) (by rw [HUL.out]; omega) (by simp; omega) ?_; intro v' w4 hO4 hg4; rw [← HUS.out] at hO4; have HO5 := Lib.hid (own_kept HU4.out (by decide) (HO.out.of_block fun k e => Below.heap_alloc _ _ _ (HO.out.lt k e)) hg4); have HB5 := Lib.hid (own_grown HU4.out HB4.out hg4); obtain ⟨gU, cap, rfl, hcap, hgU, hLay⟩ := Lay.of_own hO4 (by rw [HUSL.out]; omega); rw [HUSL.out] at hLay hcap ⊢; have HLAY := Lib.hid hLay; have HGU := Lib.hid hgU; clear hg4 hO4 hLay hgU)
      have HS4 : Hid (Bs2 w gU N 0 us (.slice Ah nh Ch) (Rc.put ⟨p, v, z, f, l, s, m, g⟩) (.slice none 0 0) [] [] w4) := Lib.hid ⟨TopB.nil _ _ _, HLAY.out, HO5.out, HB5.out, HGU.out⟩
      clear HLAY HO5 HB5 HGU HU4 HB4 HU HO HB hsz HUL HX hlt hk
      go_loopw [14, 13] (fun vi vo wx => ∃ (i : Nat) (rs : List Value), i ≤ N ∧ rs.length = i ∧ vi = .int .i64 (i : Int) ∧ Hid (Bs2 w gU N i us (.slice Ah nh Ch) (Rc.put ⟨p, v, z, f, l, s, m, g⟩) vo rs (((Vo.units lab at_ ⟨p, v, z, f, l, s, m, g⟩ b).take i).map Fm.blk) wx) ∧ Hid (∀ j, j < i → Vo.Fits lab (at_ + (j : Int)) 0)) (fun vi _ _ => N - (intOf vi).toNat)
      case atStart => exact ⟨0, [], Nat.zero_le _, rfl, rfl, by rw [List.take_zero]; exact HS4, Lib.hid (fun j hj => absurd hj (by omega))⟩
      case round =>
        obtain ⟨i, rs, hi, hrs, rfl, HS, HF⟩ := hrel
        by_cases hlt : i < N
        · obtain ⟨⟨ku, lu, nu, ld⟩, ⟨kv, Av, nv, Cv⟩, hu, huv, e1, e2, e3, e5⟩ := HUV.out i hlt
          have e1' : kv = ku := e1
          have e2' : nv = ld.length := e2
          obtain ⟨hlu, hnu, -, -⟩ := Vo.units_at hu
          have hlu' : lu = lab := hlu
          have hnu' : nu = at_ + (i : Int) := hnu
          have herr := Vo.unit_err HOK.out hu
          subst e1' hlu'
          have HU := Lib.hid hu
          have HERR := Lib.hid herr
          have HNU := Lib.hid hnu'
          have HUVI := Lib.hid huv
          have HE2 := Lib.hid e2'
          have HE3 : Hid (Av = none → nv = 0 ∧ Cv = 0) := Lib.hid e3
          have HE5 : Hid (∀ (W : World) (G : Nat → Prop), RdL W Ah (Rc.put ⟨p, v, z, f, l, s, m, g⟩) G → RdL W A b G → RdL W Av ld G) := Lib.hid e5
          clear hu huv e1 e2 e3 e5 hlu hnu herr hnu' e2'
          obtain ⟨q, hq⟩ : ∃ q, q = wrap64 (at_ + (i : Int)) := ⟨_, rfl⟩
          have hq' : wrap64 (at_ + (i : Int)) = q := hq.symm
          have HQ := Lib.hid hq
          clear hq
          obtain ⟨x1, hx1⟩ : ∃ x1, x1 = wr.setCell ⟨gU, i * 4 + 1, none⟩ (.int .i64 lu) := ⟨_, rfl⟩
          obtain ⟨x2, hx2⟩ : ∃ x2, x2 = x1.setCell ⟨gU, i * 4 + 2, none⟩ (.int .i64 q) := ⟨_, rfl⟩
          have hS1 := HS.out.set (.inl rfl) (.int .i64 lu)
          rw [← hx1] at hS1
          have hS2 := hS1.set (.inr rfl) (.int .i64 q)
          rw [← hx2] at hS2
          have HS1 := Lib.hid hS1
          have HS2 := Lib.hid hS2
          obtain ⟨c0, ⟨v1, c1⟩, ⟨v2, c2⟩, c3, cf⟩ := HS.out.lay.cells hlt HUVI.out
          have f1 := cf 1
          obtain ⟨d0, ⟨w1', d1⟩, ⟨w2', d2⟩, d3, df⟩ := HS1.out.lay.cells hlt HUVI.out
          have f2 := df 2
          obtain ⟨g0, ⟨w3', g1'⟩, ⟨w4', g2'⟩, g3, gf⟩ := HS2.out.lay.cells hlt HUVI.out
          have f3 := gf 2
          have g2 : x2.cell? ⟨gU, i * 4 + 2, none⟩ = some (.int .i64 q) := by rw [hx2]; exact HS1.out.lay.got hlt (.inr rfl) _
          have g1 : x2.cell? ⟨gU, i * 4 + 1, none⟩ = some (.int .i64 lu) := by
            rw [hx2]
            exact HS1.out.lay.othr (by decide) (by rw [hx1]; exact HS.out.lay.got hlt (.inl rfl) _) _
          clear hS1 hS2 cf df gf g1' g2' w3' w4'
          have HX1 := Lib.hid hx1
          have HX2 := Lib.hid hx2
          rw [hx2] at g0 g1 g2 g3 f3
          rw [hx1] at d0 d1 d2 d3 f2 g0 g1 g2 g3 f3
          clear hx1 hx2
          by_cases hbig : 2147483648 < at_
          · obtain ⟨x3, hx3⟩ : ∃ x3, x3 = x2.setCell ⟨gU, i * 4 + 2, none⟩ (.int .i64 2147483648) := ⟨_, rfl⟩
            have hS3 := HS2.out.set (.inr rfl) (.int .i64 2147483648)
            rw [← hx3] at hS3
            have HS3 := Lib.hid hS3
            obtain ⟨k0, -, -, k3, -⟩ := HS3.out.lay.cells hlt HUVI.out
            have k2 : x3.cell? ⟨gU, i * 4 + 2, none⟩ = some (.int .i64 2147483648) := by rw [hx3]; exact HS2.out.lay.got hlt (.inr rfl) _
            have k1 : x3.cell? ⟨gU, i * 4 + 1, none⟩ = some (.int .i64 lu) := by
              rw [hx3]
              exact HS2.out.lay.othr (by decide) (by rw [HX2.out, HX1.out]; exact g1) _
            have HX3 := Lib.hid hx3
            rw [hx3, HX2.out, HX1.out] at k0 k1 k2 k3
            have hgd : decide (2147483648 < at_) = true := decide_eq_true hbig
            have hnf : ¬ Vo.Fits lu (at_ + (i : Int)) 0 := fun h => by have := h.2.2; omega
            clear hS3 hx3
            have hcall := refPut_own kv lu 2147483648 Av ld nv Cv _ x3 HE2.out HE3.out (HE5.out x3 (fun _ => True) (by
              obtain ⟨A', C', e', -, -, -, hh⟩ := HS3.out.hd.rd
              injection e' with y1 y2 y3
              subst y1
              exact hh.mono fun _ _ => trivial) ((HR.out.below HS3.out.bel).mono fun _ _ => trivial))
            have HCP := Lib.hid hcall
            clear hcall
            go_wp2_with fail
            rw [← HX1.out, ← HX2.out, ← HX3.out]
            refine HCP.out.mono ?_
            rintro e w5 ⟨A5, n5, C5, rfl, hO5, hb5⟩
            clear HCP c0 c1 c2 c3 d0 d1 d2 d3 g0 g1 g2 g3 f1 f2 f3 hq' k0 k1 k2 k3 hgd
            have her : Fm.err ⟨kv, lu, 2147483648, ld⟩ = 1 := Fm.err_arg fun h => by have := h.2.2.2.2.2; simp only at this; omega
            rw [her]
            have HNR : Hid (¬ Vo.Right lu at_ ⟨p, v, z, f, l, s, m, g⟩ b) := Lib.hid fun h => hnf (by
              obtain ⟨h1, h2, h3⟩ := h.2
              rw [← HL.out, ← HD.out] at h3
              have := HN.out
              exact ⟨h1, by omega, by omega⟩)
            have HB6 := Lib.hid ((HS3.out.bel).trans (hb5.mono HS3.out.bel.size))
            clear hb5 hO5
            go_wp2
            go_ret2
            exact RefBl.no HNR.out HB6.out
          · have hgd : decide (2147483648 < at_) = false := decide_eq_false hbig
            have hqn : q = nu := by
              rw [HQ.out, HNU.out]
              have h1 := HAT.out
              unfold wrap64
              omega
            subst hqn
            have hcall := refPut_own kv lu q Av ld nv Cv _ x2 HE2.out HE3.out (HE5.out x2 (fun _ => True) (by
              obtain ⟨A', C', e', -, -, -, hh⟩ := HS2.out.hd.rd
              injection e' with y1 y2 y3
              subst y1
              exact hh.mono fun _ _ => trivial) ((HR.out.below HS2.out.bel).mono fun _ _ => trivial))
            have HCP := Lib.hid hcall
            clear hcall
            go_wp2_with fail
            rw [← HX1.out, ← HX2.out]
            refine HCP.out.mono ?_
            rintro e w5 ⟨A5, n5, C5, rfl, hO5, hb5⟩
            clear HCP c0 c1 c2 c3 d0 d1 d2 d3 g0 g1 g2 g3 f1 f2 f3 hq' hgd
            by_cases hf : Vo.Fits lu (at_ + (i : Int)) 0
            · have her : Fm.err ⟨kv, lu, q, ld⟩ = 0 := by rw [HERR.out, if_pos hf]
              have hput : Fm.put ⟨kv, lu, q, ld⟩ = Fm.blk ⟨kv, lu, q, ld⟩ := Fm.put_ok (Vo.unit_ok HOK.out HU.out hf)
              rw [her]
              rw [hput] at hO5
              have hbx : Below w5.heap.size w5 (w5.alloc (.cells [Value.slice A5 n5 C5].toArray 28)) := (Below.refl _ _).alloc (Nat.le_refl _) _
              have hb6 : Below x2.heap.size x2 (w5.alloc (.cells [Value.slice A5 n5 C5].toArray 28)) := hb5.trans (hbx.mono hb5.size)
              have hO6 : OwnL (w5.alloc (.cells [Value.slice A5 n5 C5].toArray 28)) x2.heap.size (.slice A5 n5 C5) (Fm.blk ⟨kv, lu, q, ld⟩) := hO5.of_block fun k e => hbx.block k (hO5.lt k e)
              have HO6 := Lib.hid hO6
              have HB6 := Lib.hid hb6
              have HT6 := Lib.hid (HS2.out.old hb6).top.top
              have hsz6 : w.heap.size ≤ w5.heap.size := Nat.le_trans HS2.out.bel.size hb5.size
              have hrl : rs.length ≤ 1000000 := by omega
              clear hO5 hO6 hb5 hb6 hbx her hput
              go_wp2_with (at_builtin; refine wpList_append_tp _ rfl _ _ rfl w.heap.size _ rs rfl HT6.out hrl w5.heap.size 0 1 A5 n5 C5 rfl (by simp) (by simp; omega) ?_; intro v' w6 hv hg6)
              have hS6 := HS2.out.push HB6.out HO6.out hv hg6
              have htake : (Vo.units lu at_ ⟨p, v, z, f, l, s, m, g⟩ b).take (i + 1) = (Vo.units lu at_ ⟨p, v, z, f, l, s, m, g⟩ b).take i ++ [⟨kv, lu, q, ld⟩] := by
                rw [List.take_add_one, HU.out]; rfl
              have HS7 : Hid (Bs2 w gU N (i + 1) us (.slice Ah nh Ch) (Rc.put ⟨p, v, z, f, l, s, m, g⟩) v' (rs ++ [.slice A5 n5 C5]) (((Vo.units lu at_ ⟨p, v, z, f, l, s, m, g⟩ b).take (i + 1)).map Fm.blk) w6) := Lib.hid (by
                rw [htake, List.map_append]; exact hS6.next)
              have hF6 : Hid (∀ j, j < i + 1 → Vo.Fits lu (at_ + (j : Int)) 0) := Lib.hid fun j hj => by
                rcases Nat.lt_or_ge j i with h | h
                · exact HF.out j h
                · obtain rfl : j = i := by omega
                  exact hf
              clear hS6 htake hv hg6
              go_roundw
              case rel => exact ⟨i + 1, rs ++ [.slice A5 n5 C5], by omega, by simp [hrs], by go_num, HS7, hF6⟩
              case measure => simp [intOf]; omega
            · -- the first that does not fit
              have her : Fm.err ⟨kv, lu, q, ld⟩ = 1 := by rw [HERR.out, if_neg hf]
              rw [her]
              have HNR : Hid (¬ Vo.Right lu at_ ⟨p, v, z, f, l, s, m, g⟩ b) := Lib.hid fun h => hf (by
                obtain ⟨h1, h2, h3⟩ := h.2
                rw [← HL.out, ← HD.out] at h3
                have := HN.out
                exact ⟨h1, by omega, by omega⟩)
              have HB6 := Lib.hid ((HS2.out.bel).trans (hb5.mono HS2.out.bel.size))
              clear hb5 hO5
              go_wp2
              go_ret2
              exact RefBl.no HNR.out HB6.out
        · obtain rfl : i = N := by omega
          have hR : Vo.Right lab at_ ⟨p, v, z, f, l, s, m, g⟩ b := by
            have h0 := HF.out 0 (by omega)
            have h1 := HF.out (i - 1) (by omega)
            obtain ⟨x1, x2, x3⟩ := h0
            obtain ⟨-, -, y3⟩ := h1
            refine ⟨⟨HOK.out, HLL.out⟩, x1, by omega, ?_⟩
            rw [← HL.out, ← HD.out]
            have := HN.out
            omega
          have hput : Vo.put lab at_ ⟨p, v, z, f, l, s, m, g⟩ b = (Vo.units lab at_ ⟨p, v, z, f, l, s, m, g⟩ b).map Fm.blk := Vo.put_yes hR
          have hlen : (Vo.units lab at_ ⟨p, v, z, f, l, s, m, g⟩ b).length = i := by rw [Vo.units_len, HN.out, HD.out, HL.out]
          have hT8 := HS.out.top
          rw [List.take_of_length_le (by rw [hlen]; exact Nat.le_refl _), ← hput] at hT8
          have HT8 := Lib.hid hT8
          have HE := Lib.hid (Vo.err_yes hR)
          clear hR hput hlen hT8
          go_wp2
          go_ret2
          exact ⟨_, rs, by rw [HE.out]; rfl, HT8.out, HS.out.bel⟩
theorem refBlocks_any (lab at_ : Int) (p : Tx) (v z f l s m : Int) (g : Bool) (A : Option Addr) (b : Tx) (L C : Nat) (G : Nat → Prop) (w : World) (hp : p.length ≤ maxLen) (hL : L = b.length) (hC : L ≤ C) (hCm : C ≤ maxLen) (hr : RdL w A b G)
    (hat : -9223372036854775808 ≤ at_ ∧ at_ ≤ 9223372036854775807) :
    Calls Tryd.prog 7 #[.int .i64 lab, .int .i64 at_, .agg #[.string (tx p), .int .i64 v, .int .i64 z, .int .i64 f, .int .i64 l, .int .i64 s, .int .i64 m, .bool g], .slice A L C] w (RefBl lab at_ ⟨p, v, z, f, l, s, m, g⟩ b w) := by
  by_cases h : Rc.Ok ⟨p, v, z, f, l, s, m, g⟩ ∧ (b.length : Int) = l
  · rcases Nat.eq_zero_or_pos L with h0 | h0
    · exact refBlocks_main lab at_ p v z f l s m g A b L C 0 0 G w hp hL hC hCm (fun h' => by omega) hr h.1 h.2 hat
    · obtain ⟨bb, off, e, -, -⟩ := hr (by omega)
      exact refBlocks_main lab at_ p v z f l s m g A b L C bb off G w hp hL hC hCm (fun _ => e) hr h.1 h.2 hat
  · exact refBlocks_no lab at_ p v z f l s m g A b L C w hp hL h
end Go.Proofs.YtbijjgicjkmopaaDoor
namespace Go.Proofs.YtbijjgicjkmopaaDoor
open Go.RowKit
open Pt (Tx)

/-- a tape's four cells -/
structure Tv where
  label : Int
  cap : Int
  A : Option Addr
  n : Nat
  C : Nat
  lost : Bool
def encT : Enc Tv where
  k := 4
  pos := by decide
  enc t := [.int .i64 t.label, .int .i64 t.cap, .slice t.A t.n t.C, .bool t.lost]
  len _ := rfl
  one t u hu := by
    simp only [List.mem_cons, List.not_mem_nil, or_false] at hu
    rcases hu with rfl | rfl | rfl | rfl <;> rfl
theorem infoTape : (Tryd.prog.info? 27).map (fun i => (i.zero, i.size, i.bytes)) = some (some (.agg #[.int .i64 0, .int .i64 0, .slice none 0 0, .bool false]), 4, 48) := by kernel_rfl
/-- the value that is handed on -/
def Tv.val (t : Tv) : Value := .agg #[.int .i64 t.label, .int .i64 t.cap, .slice t.A t.n t.C, .bool t.lost]
/-- a row of such cells and what they point to read as tapes -/
theorem RdT.of_rows {w : World} {A : Option Addr} {tvs : List Tv} {ts : List St.T} {G : Nat → Prop} (h : encT.Rd w A tvs G) (hl : tvs.length = ts.length)
    (hb : ∀ i (hi : i < tvs.length) (hi' : i < ts.length), tvs[i].label = ts[i].label ∧ tvs[i].cap = ts[i].cap ∧ tvs[i].n = ts[i].blocks.length ∧ tvs[i].lost = ts[i].lost ∧ RdB w tvs[i].A ts[i].blocks G) : RdT w A ts G := by
  intro hn
  obtain ⟨b, off, e, hg, hc⟩ := h (by omega)
  refine ⟨b, off, e, hg, fun i hi => ?_⟩
  have hi' : i < tvs.length := by omega
  obtain ⟨h1, h2, h3, h4, h5⟩ := hb i hi' hi
  refine ⟨tvs[i].A, tvs[i].C, ?_, ?_, ?_, ?_, h5⟩
  · rw [← h1]; exact hc i hi' 0 _ rfl
  · rw [← h2]; exact hc i hi' 1 _ rfl
  · rw [← h3]; exact hc i hi' 2 _ rfl
  · rw [← h4]; exact hc i hi' 3 _ rfl
/-- and the other way round -/
theorem RdT.rows {w : World} {A : Option Addr} {ts : List St.T} {G : Nat → Prop} (h : RdT w A ts G) : ∃ tvs : List Tv, tvs.length = ts.length ∧ encT.Rd w A tvs G
    ∧ ∀ i (hi : i < tvs.length) (hi' : i < ts.length), tvs[i].label = ts[i].label ∧ tvs[i].cap = ts[i].cap ∧ tvs[i].n = ts[i].blocks.length ∧ tvs[i].lost = ts[i].lost ∧ RdB w tvs[i].A ts[i].blocks G := by
  rcases Nat.eq_zero_or_pos ts.length with h0 | h0
  · exact ⟨[], by rw [h0]; rfl, Enc.Rd.nil _ _ _, fun i hi => absurd hi (by simp)⟩
  · obtain ⟨b, off, e, hg, hc⟩ := h h0
    have key : ∀ i, ∃ q : Option Addr × Nat, ∀ hi : i < ts.length, w.cell? ⟨b, off + i * 4 + 2, none⟩ = some (.slice q.1 ts[i].blocks.length q.2) ∧ RdB w q.1 ts[i].blocks G := fun i => by
      by_cases hi : i < ts.length
      · obtain ⟨A', C', _, _, h2, _, h4⟩ := hc i hi
        exact ⟨(A', C'), fun _ => ⟨h2, h4⟩⟩
      · exact ⟨(none, 0), fun h => absurd h hi⟩
    refine ⟨(List.range ts.length).map fun i => ⟨(ts.getD i ⟨0, 0, [], false⟩).label, (ts.getD i ⟨0, 0, [], false⟩).cap, (key i).choose.1, (ts.getD i ⟨0, 0, [], false⟩).blocks.length, (key i).choose.2, (ts.getD i ⟨0, 0, [], false⟩).lost⟩, by simp, fun _ => ⟨b, off, e, hg, fun i hi j u hu => ?_⟩, fun i hi hi' => ?_⟩
    · have hi' : i < ts.length := by simpa using hi
      obtain ⟨k1, k2⟩ := (key i).choose_spec hi'
      obtain ⟨A', C', g0, g1, _, g3, _⟩ := hc i hi'
      have ht : ts.getD i ⟨0, 0, [], false⟩ = ts[i] := by rw [List.getD_eq_getElem?_getD, List.getElem?_eq_getElem hi']; rfl
      simp only [List.getElem_map, List.getElem_range, ht] at hu
      match j, hu with
      | 0, hu => cases hu; exact g0
      | 1, hu => cases hu; exact g1
      | 2, hu => cases hu; exact k1
      | 3, hu => cases hu; exact g3
    · obtain ⟨k1, k2⟩ := (key i).choose_spec hi'
      have ht : ts.getD i ⟨0, 0, [], false⟩ = ts[i] := by rw [List.getD_eq_getElem?_getD, List.getElem?_eq_getElem hi']; rfl
      simp only [List.getElem_map, List.getElem_range, ht]
      exact ⟨trivial, trivial, trivial, trivial, k2⟩
end Go.Proofs.YtbijjgicjkmopaaDoor
namespace Go.Proofs.YtbijjgicjkmopaaDoor
open Go.RowKit
open Pt (Tx)

/-- a tape's cells and what they point to -/
def TvIs (w : World) (G : Nat → Prop) (t : Tv) (s : St.T) : Prop := t.label = s.label ∧ t.cap = s.cap ∧ t.n = s.blocks.length ∧ t.lost = s.lost ∧ RdB w t.A s.blocks G
theorem TvIs.mono {w : World} {G G' : Nat → Prop} {t : Tv} {s : St.T} (h : TvIs w G t s) (hg : ∀ b, G b → G' b) : TvIs w G' t s := ⟨h.1, h.2.1, h.2.2.1, h.2.2.2.1, h.2.2.2.2.mono hg⟩
theorem TvIs.old {w w' : World} {G : Nat → Prop} {t : Tv} {s : St.T} (h : TvIs w G t s) (hb : Below w.heap.size w w') : TvIs w' G t s := ⟨h.1, h.2.1, h.2.2.1, h.2.2.2.1, h.2.2.2.2.old hb⟩
theorem TvIs.in_ {w : World} {G : Nat → Prop} {t : Tv} {s : St.T} (h : TvIs w G t s) : TvIs w (fun b => G b ∧ b < w.heap.size) t s := ⟨h.1, h.2.1, h.2.2.1, h.2.2.2.1, h.2.2.2.2.in_⟩
structure LayT (w : World) (v : Value) (ts : List St.T) (x : World) : Prop where
  ex : ∃ tvs, encT.Own x w.heap.size 27 v tvs ∧ tvs.length = ts.length ∧ ∀ i (hi : i < tvs.length) (hi' : i < ts.length), TvIs x (fun b => b < x.heap.size ∧ v.ownBlock ≠ some b) tvs[i] ts[i]
  bel : Below w.heap.size w x
namespace LayT
variable {w x y : World} {v : Value} {ts : List St.T}
theorem start (w : World) : LayT w (.slice none 0 0) [] w :=
  ⟨⟨[], Enc.Own.nil _ _ _, rfl, fun i hi => absurd hi (by simp)⟩, Below.refl _ _⟩
theorem old (h : LayT w v ts x) (hb : Below x.heap.size x y) : LayT w v ts y := by
  obtain ⟨tvs, h1, h2, h3⟩ := h.ex
  exact ⟨⟨tvs, h1.old hb, h2, fun i hi hi' => ((h3 i hi hi').old hb).mono fun k hk => ⟨Nat.lt_of_lt_of_le hk.1 hb.size, hk.2⟩⟩, h.bel.trans (hb.mono h.bel.size)⟩
/-- some tapes more -/
theorem push (h : LayT w v ts x) (l : List Tv) (ts2 : List St.T) (hl : l.length = ts2.length) (h0 : 0 < l.length) (heq : ∀ i (hi : i < l.length) (hi' : i < ts2.length), TvIs x (fun b => b < x.heap.size ∧ v.ownBlock ≠ some b) l[i] ts2[i])
    (hb : Below x.heap.size x y) (ad : Addr) (n c N : Nat) (hn : n = l.length) (hnews : ∀ j u, (encT.cells l)[j]? = some u → y.cell? (ad.add j) = some u) (hmax : ts.length + l.length ≤ 1000000) (hN : N = ts.length + l.length) :
    ∃ g cap z, (∀ ty, (Builtin.append_ #[24, 24] ty #[v, .slice (some ad) n c]).run Tryd.prog y = .ok (.slice (some ⟨g, 0, none⟩) N cap) z) ∧ LayT w (.slice (some ⟨g, 0, none⟩) N cap) (ts ++ ts2) z ∧ Below w.heap.size w z ∧ y.grownBy z v.ownBlock := by
  subst hN hn
  obtain ⟨tvs, h1, h2, h3⟩ := h.ex
  obtain ⟨i0, hi, hz0, hz1, hz2⟩ := info_parts infoTape
  have hown : y.ownsRow w.heap.size 27 4 v tvs.length (encT.cells tvs) := h1.old hb
  have hw : w.heap.size ≤ y.heap.size := Nat.le_trans h.bel.size hb.size
  obtain ⟨g, cap, z, hr, ho, hg, hat, hlt⟩ := run_append_lies (P := Tryd.prog) (w := y) 24 3 w.heap.size 27 i0 (.agg #[.int .i64 0, .int .i64 0, .slice none 0 0, .bool false]) 4 48 Tryd.underlying24 hi hz0 hz1 hz2 rfl (by decide) v tvs.length (encT.cells tvs) hown ad l.length c (encT.cells l) (Enc.cells_len encT l) hnews (Enc.cells_all encT l) h0 (by rw [h2]; unfold maxLen; omega) (by rw [h2]; omega) hw y.heap.size rfl
  rw [h2] at hr ho
  have keep : ∀ {t : Tv} {s : St.T}, TvIs x (fun b => b < x.heap.size ∧ v.ownBlock ≠ some b) t s → TvIs z (fun b => b < z.heap.size ∧ (Value.slice (some ⟨g, 0, none⟩) (ts.length + l.length) cap).ownBlock ≠ some b) t s := fun {t s} ht => by
    refine ⟨ht.1, ht.2.1, ht.2.2.1, ht.2.2.2.1, (ht.2.2.2.2.keep fun p u hp hc => ?_).mono fun b hb' => ⟨Nat.lt_of_lt_of_le hb'.1 (Nat.le_trans hb.size hg.size), fun e => ?_⟩⟩
    · exact (World.cell?_of_block ((hg.block p.block (Nat.lt_of_lt_of_le hp.1 hb.size) (fun e => hp.2 e.symm)).trans (hb.block p.block hp.1))).trans hc
    · cases e
      rcases hat with e | e
      · exact hb'.2 e
      · have h9 : g < x.heap.size := hb'.1
        have := hb.size
        omega
  have hbel : Below w.heap.size w z := (h.bel.trans (hb.mono h.bel.size)).grown hg hw fun k e => (h1.lt k e).1
  refine ⟨g, cap, z, fun ty => hr, ⟨⟨tvs ++ l, ?_, by simp [h2, hl], fun i hi hi' => ?_⟩, hbel⟩, hbel, hg⟩
  · unfold Enc.Own
    rw [Enc.cells_append, List.length_append, h2]
    exact ho
  · rcases Nat.lt_or_ge i tvs.length with hlt' | hge
    · rw [List.getElem_append_left hlt', List.getElem_append_left (by omega)]
      exact keep (h3 i hlt' (by omega))
    · rw [List.getElem_append_right hge, List.getElem_append_right (by omega)]
      have e : i - tvs.length = i - ts.length := by rw [h2]
      have hi2 : i - tvs.length < l.length := by simp at hi; omega
      have hi3 : i - ts.length < ts2.length := by simp at hi'; omega
      have hk := keep (heq (i - tvs.length) hi2 (by omega))
      simp only [h2] at hk ⊢
      exact hk
/-- as what reads -/
theorem rd (h : LayT w v ts x) : ∃ A C, v = .slice A ts.length C ∧ RdT x A ts (fun _ => True) := by
  obtain ⟨tvs, h1, h2, h3⟩ := h.ex
  obtain ⟨A, C, hv, -, -, -, hr⟩ := h1.rd
  rw [h2] at hv
  exact ⟨A, C, hv, RdT.of_rows (hr.mono fun _ _ => trivial) h2 fun i hi hi' => (h3 i hi hi').mono fun _ _ => trivial⟩
end LayT
end Go.Proofs.YtbijjgicjkmopaaDoor
