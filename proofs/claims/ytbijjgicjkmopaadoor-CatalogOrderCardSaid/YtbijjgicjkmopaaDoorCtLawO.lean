/- What CatalogOrder answers: true. -/
import Derived.Test.YtbijjgicjkmopaaDoorMav
import Derived.Test.YtbijjgicjkmopaaDoorMaw
import Derived.Test.YtbijjgicjkmopaaDoorMay
import Derived.Test.YtbijjgicjkmopaaDoorMaz
import Derived.Test.YtbijjgicjkmopaaDoorMbb
import Derived.Lib.SmallJoins
import Derived.Deep.DeepCutAuto
import Derived.Deep.RegionHeld3
import Derived.Deep.RegionLaw
import Derived.Deep.DeepFit
namespace Go.Proofs.YtbijjgicjkmopaaDoor
open Go.RowKit
open Pt (Tx)

set_option maxHeartbeats 1000000 in
theorem order_out (A : Option Addr) (n C : Nat) (A' : Option Addr) (n' C' : Nat) (w : World) (hk : Kept w) (h : n < 1 ∨ 8 < n ∨ n' < n) :
    Calls Tryd.prog 3 #[.slice A n C, .slice A' n' C'] w fun e w' => e = .returned (.bool true) ∧ Below w.heap.size w w' := by
  have HC := Lib.hid (alive17_true _ hk)
  clear hk
  have hq : (decide ((n : Int) < 1) = true ∧ decide (n < 1) = true ∧ True ∧ True ∧ True ∧ True) ∨ (decide ((n : Int) < 1) = false ∧ decide (n < 1) = false ∧ decide (8 < (n : Int)) = true ∧ decide (8 < n) = true ∧ True ∧ True) ∨ (decide ((n : Int) < 1) = false ∧ decide (n < 1) = false ∧ decide (8 < (n : Int)) = false ∧ decide (8 < n) = false ∧ decide ((n' : Int) < (n : Int)) = true ∧ decide (n' < n) = true) := by
    by_cases h1 : n < 1
    · exact .inl ⟨decide_eq_true (by omega), decide_eq_true h1, trivial, trivial, trivial, trivial⟩
    · by_cases h2 : 8 < n
      · exact .inr (.inl ⟨decide_eq_false (by omega), decide_eq_false h1, decide_eq_true (by omega), decide_eq_true h2, trivial, trivial⟩)
      · exact .inr (.inr ⟨decide_eq_false (by omega), decide_eq_false h1, decide_eq_false (by omega), decide_eq_false h2, decide_eq_true (by omega), decide_eq_true (by omega)⟩)
  clear h
  rcases hq with ⟨q1, q2, q3, q4, q5, q6⟩ | ⟨q1, q2, q3, q4, q5, q6⟩ | ⟨q1, q2, q3, q4, q5, q6⟩
  all_goals
    go_enter Tryd.func3, Tryd.ntmps3
    go_wp2_with fail
    refine HC.out.mono ?_
    rintro e w1 ⟨rfl, hb1⟩
    have HB1 := Lib.hid hb1
    clear hb1
    go_wp2
    go_ret
    exact ⟨rfl, HB1.out⟩
theorem and_1 : ∀ i : Nat, i < 8 → bits BinOp.and IntKind.i64 (i : Int) 1 = ((i % 2 : Nat) : Int) := by decide +kernel
/-- the tapes that are made, in order -/
def tapesTo (Z : Nat → Nat) (i : Nat) : List St.T := (List.range i).map (Co.tape Z)
theorem tapesTo_succ (Z : Nat → Nat) (i : Nat) : tapesTo Z (i + 1) = tapesTo Z i ++ [Co.tape Z i] := by simp [tapesTo, List.range_succ]
theorem tapesTo_len (Z : Nat → Nat) (i : Nat) : (tapesTo Z i).length = i := by simp [tapesTo]
theorem tapesTo_at (Z : Nat → Nat) (n k : Nat) (h : k < (tapesTo Z n).length) : (tapesTo Z n)[k] = Co.tape Z k := by simp [tapesTo]
theorem TvIs.oldB {w w' : World} {G : Nat → Prop} {t : Tv} {s : St.T} (h : TvIs w G t s) (hb : Below w.heap.size w w') : TvIs w' (fun _ => True) t s := (h.old hb).mono fun _ _ => trivial
/-- tapes taken out of a row, in a row that grows -/
structure LayM (w0 : World) (v : Value) (ts : List St.T) (x : World) : Prop where
  ex : ∃ tvs, encT.Own x w0.heap.size 27 v tvs ∧ tvs.length = ts.length ∧ ∀ i (hi : i < tvs.length) (hi' : i < ts.length), TvIs w0 (fun _ => True) tvs[i] ts[i]
  bel : Below w0.heap.size w0 x
theorem LayM.start (w0 : World) : LayM w0 (.slice none 0 0) [] w0 := ⟨⟨[], Enc.Own.nil _ _ _, rfl, fun i hi => absurd hi (by simp)⟩, Below.refl _ _⟩
theorem LayM.old {w0 x y : World} {v : Value} {ts : List St.T} (h : LayM w0 v ts x) (hb : Below x.heap.size x y) : LayM w0 v ts y := by
  obtain ⟨tvs, h1, h2, h3⟩ := h.ex
  exact ⟨⟨tvs, h1.old hb, h2, h3⟩, h.bel.trans (hb.mono h.bel.size)⟩
/-- a store into a row of another kind -/
theorem LayM.cell {w0 x : World} {v : Value} {ts : List St.T} (h : LayM w0 v ts x) {g j : Nat} {u : Value} {c : Array Value} {t : TypeId} (hg : x.heap[g]? = some (.cells c t (0, 0))) (ht : t ≠ 27) (hlo : w0.heap.size ≤ g) : LayM w0 v ts (x.setCell ⟨g, j, none⟩ u) := by
  obtain ⟨tvs, h1, h2, h3⟩ := h.ex
  refine ⟨⟨tvs, h1.of_block fun k e => ?_, h2, h3⟩, h.bel.trans ((Kp.store x g j u).below h.bel.size fun q hq => by omega)⟩
  refine Below.heap_setCell _ _ _ _ fun (e2 : k = g) => ?_
  obtain ⟨c', hc'⟩ := h1.block k e
  rw [e2, hg] at hc'
  injection hc' with hc'
  injection hc' with _ e3
  exact ht e3
theorem LayM.push {w0 y z : World} {v v' : Value} {ts : List St.T} {tvs : List Tv} (h1 : tvs.length = ts.length) (h2 : ∀ i (hi : i < tvs.length) (hi' : i < ts.length), TvIs w0 (fun _ => True) tvs[i] ts[i]) (hb : Below w0.heap.size w0 y) {tv : Tv} {t : St.T} (ht : TvIs w0 (fun _ => True) tv t) (ho : encT.Own z w0.heap.size 27 v' (tvs ++ [tv])) (hg : y.grownBy z v.ownBlock) (hlo : ∀ k, v.ownBlock = some k → w0.heap.size ≤ k) : LayM w0 v' (ts ++ [t]) z := by
  refine ⟨⟨_, ho, by simp [h1], fun i hi hi' => ?_⟩, hb.grown hg hb.size hlo⟩
  rcases Nat.lt_or_ge i tvs.length with hl | hl
  · rw [List.getElem_append_left hl, List.getElem_append_left (by omega)]
    exact h2 i hl (by omega)
  · have e : i = tvs.length := by simp at hi; omega
    subst e
    have e2 : (ts ++ [t])[tvs.length] = t := by simp [h1]
    rw [e2, List.getElem_concat_length rfl]
    exact ht
theorem LayM.rd {w0 x : World} {v : Value} {ts : List St.T} (h : LayM w0 v ts x) : ∃ A C, v = .slice A ts.length C ∧ RdT x A ts (fun _ => True) := by
  obtain ⟨tvs, h1, h2, h3⟩ := h.ex
  obtain ⟨A, C, hv, -, -, -, hr⟩ := h1.rd
  rw [h2] at hv
  exact ⟨A, C, hv, RdT.of_rows (hr.mono fun _ _ => trivial) h2 fun i hi hi' => (h3 i hi hi').oldB h.bel⟩
/-- what From answers of the law's own tapes -/
theorem tapes_from (Z : Nat → Nat) (ks : List Nat) (n : Nat) (A : Option Addr) (C : Nat) (G : Nat → Prop) (w : World) (hnn : n = ks.length) (hn : ks.Nodup) (hl : n ≤ 8) (hb : ∀ k ∈ ks, Z k ≤ 127 ∧ k ≤ 1000) (hr : RdT w A (ks.map (Co.tape Z)) G) (hk : Kept w) :
    Calls Tryd.prog 8 #[.slice A n C] w (FromA (Ct.from_ (ks.map (Co.tape Z))) w) := by
  refine from_any A (ks.map (Co.tape Z)) n C G w (by rw [List.length_map, hnn]) (by omega) hr (fun t ht => ?_) ?_ ?_ hk
  · obtain ⟨k, hk, rfl⟩ := List.mem_map.1 ht
    obtain ⟨h1, h2⟩ := hb k hk
    refine ⟨?_, fun s hs => Nat.le_trans (Co.blocks_le (z := Z k) (i := k) h2 s hs) (by decide)⟩
    show (Co.blocks (Z k) k).length ≤ 1000000
    unfold Co.blocks
    rw [List.length_cons, Co.data_len h1 h2]
    unfold Vo.data; omega
  · rw [Co.all_tapes ks hb, List.length_map]; omega
  · rw [Co.all_tapes ks hb, Co.files_tapes hn, List.length_map]; omega
theorem infoBool17 : (Tryd.prog.info? 4).map (fun i => (i.zero, i.size, i.bytes)) = some (some (.bool false), 1, 1) := by kernel_rfl
set_option maxRecDepth 100000 in
set_option maxHeartbeats 8000000 in
theorem order_main (A : Option Addr) (n C : Nat) (zs : Nat → Int) (A' : Option Addr) (n' C' : Nat) (zo : Nat → Int) (w : World) (hk : Kept w) (hr : RdI w A n zs) (hr' : RdI w A' n' zo) (hn1 : 1 ≤ n) (hn8 : n ≤ 8) (hnn : n ≤ n') :
    Calls Tryd.prog 3 #[.slice A n C, .slice A' n' C'] w fun e w' => e = .returned (.bool true) ∧ Below w.heap.size w w' := by
  have q1 : decide ((n : Int) < 1) = false := decide_eq_false (by omega)
  have q2 : decide (n < 1) = false := decide_eq_false (by omega)
  have q3 : decide (8 < (n : Int)) = false := decide_eq_false (by omega)
  have q4 : decide (8 < n) = false := decide_eq_false (by omega)
  have q5 : decide ((n' : Int) < (n : Int)) = false := decide_eq_false (by omega)
  have q6 : decide (n' < n) = false := decide_eq_false (by omega)
  have HC := Lib.hid (alive17_true _ hk)
  have HK := Lib.hid hk
  have HR := Lib.hid hr
  have HR' := Lib.hid hr'
  clear hk hr hr'
  go_enter Tryd.func3, Tryd.ntmps3
  go_wp2_with fail
  refine HC.out.mono ?_
  rintro e w1 ⟨rfl, hb1⟩
  have HL0 : Hid (LayT w (.slice none 0 0) (tapesTo (low7 zs) 0) w1) := Lib.hid ((LayT.start w).old hb1)
  clear hb1 HC
  go_wp2
  go_loopw [7, 6] (fun vi vl wr => ∃ i : Nat, i ≤ n ∧ vi = .int .i64 (i : Int) ∧ Hid (LayT w vl (tapesTo (low7 zs) i) wr)) (fun vi _ _ => n - (intOf vi).toNat)
  case atStart => exact ⟨0, Nat.zero_le _, rfl, HL0⟩
  case round =>
    obtain ⟨i, hi, rfl, HL⟩ := hrel
    by_cases hlt : i < n
    · have e0 : decide ((i : Int) < (n : Int)) = true := decide_eq_true (by omega)
      have e0' : decide (i < n) = true := decide_eq_true hlt
      have hi8 : i < 8 := by omega
      obtain ⟨bz, offz, rfl, hcz⟩ := (HR.out.old HL.out.bel).at hlt
      obtain ⟨m, hm⟩ : ∃ m, m = low7 zs i := ⟨_, rfl⟩
      have hz7 := (low7_eq zs i).1
      have hm7 := (low7_eq zs i).2
      rw [← hm] at hz7 hm7
      have HM := Lib.hid hm
      have hw1 : IntKind.i64.wrap ((i : Int) + 1) = (i : Int) + 1 := by rw [IntKind.wrap_i64]; omega
      obtain ⟨w2, hw2⟩ : ∃ w2, w2 = (wr.alloc (tapeObj ((i : Int) + 1) 20 none 0 0 false)).alloc (.cells #[.int .u8 68] 5 (1, 2)) := ⟨_, rfl⟩
      have kc := Go.Joins.run_convert_bytes_const_at (P := Tryd.prog) (wr.alloc (tapeObj ((i : Int) + 1) 20 none 0 0 false)) 28 5 #[.int .u8 68] 1 1 (wr.heap.size + 1) (by simp) Tryd.underlying28 Tryd.underlying5
      unfold tapeObj at kc
      obtain ⟨hB2, hT2, hD2⟩ := two_blocks hw2
      have hrd : RdL w2 (some ⟨wr.heap.size + 1, 0, none⟩) [68] (fun _ => True) := fun _ => ⟨_, _, rfl, trivial, fun j hj => by
        have : j = 0 := by simp at hj; omega
        subst this
        rw [heap_cell hD2]; rfl⟩
      have HRD := Lib.hid hrd
      have HW2 := Lib.hid hw2
      unfold tapeObj at HW2
      obtain ⟨TB, hTB⟩ : ∃ TB, TB = wr.heap.size := ⟨_, rfl⟩
      rw [← hTB] at hT2
      have HT2 : Hid (Tg wr ((i : Int) + 1) 20 TB none 0 0 [] [] w2) := Lib.hid ⟨hT2, TopB.nil _ _ _, hB2, by rw [hTB]; exact Nat.le_refl _⟩
      have HTB := Lib.hid hTB
      clear hm hw2 hB2 hT2 hD2 hrd hTB
      go_wp2_with fail
      clear kc
      rw [← HW2.out]
      have hcall := refPut_own 1 ((i : Int) + 1) 0 (some ⟨wr.heap.size + 1, 0, none⟩) [68] 1 1 _ w2 rfl (fun h => by cases h) HRD.out
      unfold PutO at hcall
      rw [show Fm.err ⟨1, (i : Int) + 1, 0, [68]⟩ = 0 from Fm.err_ok (Co.b0_ok (by omega)), show Fm.put ⟨1, (i : Int) + 1, 0, [68]⟩ = Co.b0 i from Fm.put_ok (Co.b0_ok (by omega))] at hcall
      rw [← HTB.out]
      rw [← HTB.out] at hcall
      refine hcall.mono ?_
      clear hcall
      rintro e w3 ⟨A3, n3, C3, rfl, hO3, hb3⟩
      obtain ⟨w4, hw4⟩ : ∃ w4, w4 = w3.alloc (.cells #[.slice A3 n3 C3] 28) := ⟨_, rfl⟩
      have hb34 : Below w3.heap.size w3 w4 := by rw [hw4]; exact (Below.refl _ _).alloc (Nat.le_refl _) _
      have hk4 : w4.heap[w3.heap.size]? = some (.cells #[.slice A3 n3 C3] 28) := by rw [hw4]; exact Go.Deep.blk_alloc_new _ _
      have hb24 : Below w2.heap.size w2 w4 := hb3.trans (hb34.mono hb3.size)
      have hT4 := HT2.out.old hb24
      have hTlt : TB < w2.heap.size := heap_lt HT2.out.blk
      have hO4 : OwnL w4 w2.heap.size (.slice A3 n3 C3) (Co.b0 i) := hO3.of_block fun k e => hb34.block k (hO3.lt k e)
      obtain ⟨g2, c2, A5, C5, w5, e5, -, -, hr5, x5, y5, hT5, -⟩ := hT4.grow (TopB.one11 hk4 hO4 hb3.size) (fun i hi => absurd hi (by simp)) (by omega) (fun k hk => by omega) 1 (Nat.le_refl _) (by simp) (by simp) (by simp)
      injection e5 with e6 e7 e8
      injection e6 with e6
      injection e6 with e6
      subst e6 e8
      clear e7
      rw [Nat.zero_add] at hr5 hT5
      have HT5 : Hid (Tg wr ((i : Int) + 1) 20 TB A5 1 C5 [.slice A3 n3 C3] [Co.b0 i] (w5.setCell ⟨TB, 2, none⟩ (.slice A5 1 C5))) := Lib.hid hT5
      have z2 : w3.cell? ⟨TB, 2, none⟩ = some (.slice none 0 0) := by
        have := HT2.out.old hb3
        exact heap_cell this.blk
      rw [hw4] at hr5
      clear hw4 hTlt hb34 hk4 hb24 hT4 hO4 hT5 hO3 hb3 HW2 HT2 HRD
      go_upto_region 12 with (at_builtin; refine Lib.wpList_append_run _ rfl _ _ _ _ rfl _ _ rfl rfl _ _ (hr5 _) ?_)
      generalize w5.setCell ⟨TB, 2, none⟩ (.slice A5 1 C5) = w6 at HT5 ⊢
      clear hr5 x5 y5 z2
      obtain ⟨r, hr0⟩ : ∃ r, r = i % 3 := ⟨_, rfl⟩
      obtain ⟨dd, hdd0⟩ : ∃ d, d = i / 3 := ⟨_, rfl⟩
      obtain ⟨d, hd0⟩ : ∃ d, d = dd % 2 := ⟨_, rfl⟩
      obtain ⟨o, ho0⟩ : ∃ o, o = i % 2 := ⟨_, rfl⟩
      have hr3 : Int.tmod (i : Int) 3 = (r : Int) := by rw [hr0]; rfl
      have hd3 : Int.tdiv (i : Int) 3 = (dd : Int) := by rw [hdd0]; rfl
      have hd2 : Int.tmod (dd : Int) 2 = (d : Int) := by rw [hd0]; rfl
      have hand : bits BinOp.and IntKind.i64 (i : Int) 1 = (o : Int) := by rw [ho0]; exact and_1 i hi8
      have hr2 : r ≤ 2 := by omega
      have hd1 : d ≤ 1 := by omega
      have hdd8 : dd ≤ 8 := by omega
      have sb1 : (0 : Int) ≤ (r : Int) := by omega
      have sb2 : (r : Int) ≤ (r : Int) + 1 := by omega
      have sb3 : (r : Int) + 1 ≤ 3 := by omega
      have sb4 : (0 : Int) ≤ (r : Int) + 1 := by omega
      have sb5 : r + 1 ≤ 3 := by omega
      have hw3 : IntKind.i64.wrap ((r : Int) + 1) = (r : Int) + 1 := by rw [IntKind.wrap_i64]; omega
      have hw4 : IntKind.i64.wrap (1 + (d : Int)) = 1 + (d : Int) := by rw [IntKind.wrap_i64]; omega
      have hw5 : IntKind.i64.wrap (dd : Int) = (dd : Int) := by rw [IntKind.wrap_i64]; omega
      have hmk := fun y => run_make_row' (P := Tryd.prog) 28 5 (.int .u8 0) 1 Tryd.underlying28 infoByte11 rfl .i64 .i64 m (by omega) (by omega) y
      obtain ⟨wq, hwq⟩ : ∃ wq, wq = (w6.alloc (.cells (madeCells #[.int .u8 0] m) 5)).drew := ⟨_, rfl⟩
      have hbq : Below w6.heap.size w6 wq := by rw [hwq]; exact ((Below.refl _ w6).alloc (Nat.le_refl _) _).drew
      have hzr : RdL wq (some ⟨w6.heap.size, 0, none⟩) (List.replicate m 0) (w6.heap.size ≤ ·) := by rw [hwq]; exact rd_zeros w6 m
      have hgo : (decide (m = 0) && decide (i % 2 = 1)) = (if ((m : Int) == 0) = true then ((o : Int) == 1) else false) := by
        by_cases h : m = 0
        · subst h
          rw [if_pos (by simp), ho0]
          by_cases h2 : i % 2 = 1
          · simp [h2]
          · simp [h2]; omega
        · rw [if_neg (by simp; omega)]; simp [h]
      have hpath : Co.path i = [97 + UInt8.ofNat r] := by rw [hr0]; rfl
      have hcall := refBlocks_any ((i : Int) + 1) 1 (Co.path i) (1 + (d : Int)) (m : Int) 0 (m : Int) ((i : Int) + 1) 0 (decide (m = 0) && decide (i % 2 = 1)) _ (List.replicate m 0) m m _ wq (by show 1 ≤ maxLen; decide) (by simp) (Nat.le_refl _) (by unfold maxLen; omega) hzr (by omega)
      have hext : (ByteArray.mk #[97, 98, 99]).extract r (r + 1) = tx (Co.path i) := by
        rw [hpath]
        have h : r = 0 ∨ r = 1 ∨ r = 2 := by omega
        rcases h with h | h | h <;> subst h <;> rfl
      obtain ⟨g, hg⟩ : ∃ g, g = (decide (m = 0) && decide (i % 2 = 1)) := ⟨_, rfl⟩
      rw [← hg] at hcall hgo
      have HC := Lib.hid hcall
      have HWQ := Lib.hid hwq
      have HBQ := Lib.hid hbq
      have HGG := Lib.hid hg
      obtain ⟨og, hog⟩ : ∃ og, og = ((o : Int) == 1) := ⟨_, rfl⟩
      rw [← hog] at hgo
      have hq1 : ((o : Int) == 1) = og := hog.symm
      have hcase : (((m : Int) == 0) = true ∧ g = og) ∨ (((m : Int) == 0) = false ∧ g = false) := by
        cases h : ((m : Int) == 0) with
        | true => left; refine ⟨rfl, ?_⟩; rw [hgo, h]; rfl
        | false => right; refine ⟨rfl, ?_⟩; rw [hgo, h]; rfl
      have HHD : Hid ((⟨Co.path i, 1 + (d : Int), m, 0, m, (i : Int) + 1, 0, g⟩ : Rc.H) = Co.hd m i) := Lib.hid (by rw [hg, hd0, hdd0]; rfl)
      clear hcall hwq hbq hzr hg hog hgo hpath hr0 hdd0 hd0 ho0
      go_cut [12, 13] (fun vb ve wx => ∃ us7, ve = .int .i64 (Vo.err ((i : Int) + 1) 1 ⟨Co.path i, 1 + (d : Int), m, 0, m, (i : Int) + 1, 0, g⟩ (List.replicate m 0)) ∧ Hid (TopB wx wq.heap.size (wq.heap.size ≤ ·) vb us7 (Vo.put ((i : Int) + 1) 1 ⟨Co.path i, 1 + (d : Int), m, 0, m, (i : Int) + 1, 0, g⟩ (List.replicate m 0))) ∧ Hid (Below wq.heap.size wq wx))
      case first =>
        rcases hcase with ⟨p1, hg⟩ | ⟨p1, hg⟩
        · subst hg
          go_region_held3 (fun _ => True)
            (exact trivial)
            (first
              | (go_at_call 7; rw [← HWQ.out]; refine HC.out.mono ?_; rintro e w7 ⟨v7, us7, rfl, hT7, hb7⟩))
          go_wp2
          go_meet
          exact ⟨us7, rfl, Lib.hid hT7, Lib.hid hb7⟩
        · subst hg
          refine wp_region_held_drew (S := fun _ => True) (by kernel_rfl) trivial (fun hHeld => ?_)
          refine wpAnyH_take (i := 0) (oi := ⟨some 70, _, _, _, _, _⟩) (v := ?_) rfl (by kernel_rfl) (by kernel_rfl) (by kernel_rfl) (fun _ _ _ h => h) (Or.inl ⟨by rfl, ?_⟩) (by assumption) ?_
          rotate_left
          · (intro w' hSw; (try dsimp only at hSw); go_simp; try (with_reducible rfl))
          try simp only [Act.put, List.setIfInBounds_toArray, List.set_cons_zero, List.set_cons_succ]
          refine wpAnyH_take (i := 1) (oi := ⟨some 71, _, _, _, _, _⟩) (v := ?_) rfl (by kernel_rfl) (by kernel_rfl) (by kernel_rfl) (fun _ _ _ h => h) (Or.inl ⟨by rfl, ?_⟩) (by assumption) ?_
          rotate_left
          · (intro w' hSw; (try dsimp only at hSw); go_simp; try (with_reducible rfl))
          try simp only [Act.put, List.setIfInBounds_toArray, List.set_cons_zero, List.set_cons_succ]
          refine wpAnyH_take (i := 2) (oi := ⟨some 72, _, _, _, _, _⟩) (v := ?_) rfl (by kernel_rfl) (by kernel_rfl) (by kernel_rfl) (fun _ _ _ h => h) (Or.inl ⟨by rfl, ?_⟩) (by assumption) ?_
          rotate_left
          · (intro w' hSw; (try dsimp only at hSw); go_simp; try (with_reducible rfl))
          try simp only [Act.put, List.setIfInBounds_toArray, List.set_cons_zero, List.set_cons_succ]
          refine wpAnyH_take (i := 3) (oi := ⟨some 73, _, _, _, _, _⟩) (v := ?_) rfl (by kernel_rfl) (by kernel_rfl) (by kernel_rfl) (fun _ _ _ h => h) (Or.inl ⟨by rfl, ?_⟩) (by assumption) ?_
          rotate_left
          · (intro w' hSw; (try dsimp only at hSw); go_simp; try (with_reducible rfl))
          try simp only [Act.put, List.setIfInBounds_toArray, List.set_cons_zero, List.set_cons_succ]
          refine wpAnyH_take (i := 4) (oi := ⟨some 74, _, _, _, _, _⟩) (v := ?_) rfl (by kernel_rfl) (by kernel_rfl) (by kernel_rfl) (fun _ _ _ h => h) (Or.inl ⟨by rfl, ?_⟩) (by assumption) ?_
          rotate_left
          · (intro w' hSw; (try dsimp only at hSw); go_simp; try (with_reducible rfl))
          try simp only [Act.put, List.setIfInBounds_toArray, List.set_cons_zero, List.set_cons_succ]
          refine wpAnyH_take (i := 5) (oi := ⟨some 75, _, _, _, _, _⟩) (v := ?_) rfl (by kernel_rfl) (by kernel_rfl) (by kernel_rfl) (fun _ _ _ h => h) (Or.inl ⟨by rfl, ?_⟩) (by assumption) ?_
          rotate_left
          · (intro w' hSw; (try dsimp only at hSw); go_simp; try (with_reducible rfl))
          try simp only [Act.put, List.setIfInBounds_toArray, List.set_cons_zero, List.set_cons_succ]
          refine wpAnyH_take (i := 6) (oi := ⟨some 76, _, _, _, _, _⟩) (v := ?_) rfl (by kernel_rfl) (by kernel_rfl) (by kernel_rfl) (fun _ _ _ h => h) (Or.inl ⟨by rfl, ?_⟩) (by assumption) ?_
          rotate_left
          · (intro w' hSw; (try dsimp only at hSw); go_simp; try (with_reducible rfl))
          try simp only [Act.put, List.setIfInBounds_toArray, List.set_cons_zero, List.set_cons_succ]
          refine wpAnyH_take (i := 7) (oi := ⟨some 77, _, _, _, _, _⟩) (v := ?_) rfl (by kernel_rfl) (by kernel_rfl) (by kernel_rfl) (fun _ _ _ h => h) (Or.inl ⟨by rfl, ?_⟩) (by assumption) ?_
          rotate_left
          · (intro w' hSw; (try dsimp only at hSw); go_simp; try (with_reducible rfl))
          try simp only [Act.put, List.setIfInBounds_toArray, List.set_cons_zero, List.set_cons_succ]
          refine wpAnyH_take (i := 8) (oi := ⟨some 78, _, _, _, _, _⟩) (v := ?_) rfl (by kernel_rfl) (by kernel_rfl) (by kernel_rfl) (fun _ _ _ h => h) (Or.inl ⟨by rfl, ?_⟩) (by assumption) ?_
          rotate_left
          · (intro w' hSw; (try dsimp only at hSw); go_simp; try (with_reducible rfl))
          try simp only [Act.put, List.setIfInBounds_toArray, List.set_cons_zero, List.set_cons_succ]
          refine wpAnyH_take (i := 9) (oi := ⟨some 79, _, _, _, _, _⟩) (v := ?_) rfl (by kernel_rfl) (by kernel_rfl) (by kernel_rfl) (fun _ _ _ h => h) (Or.inl ⟨by rfl, ?_⟩) (by assumption) ?_
          rotate_left
          · (intro w' hSw; (try dsimp only at hSw); go_simp; try (with_reducible rfl))
          try simp only [Act.put, List.setIfInBounds_toArray, List.set_cons_zero, List.set_cons_succ]
          refine wpAnyH_take (i := 10) (oi := ⟨some 80, _, _, _, _, _⟩) (v := ?_) rfl (by kernel_rfl) (by kernel_rfl) (by kernel_rfl) (fun _ _ _ h => h) (Or.inl ⟨by rfl, ?_⟩) (by assumption) ?_
          rotate_left
          · (intro w' hSw; (try dsimp only at hSw); go_simp; try (with_reducible rfl))
          try simp only [Act.put, List.setIfInBounds_toArray, List.set_cons_zero, List.set_cons_succ]
          refine wpAnyH_take (i := 11) (oi := ⟨some 81, _, _, _, _, _⟩) (v := ?_) rfl (by kernel_rfl) (by kernel_rfl) (by kernel_rfl) (fun _ _ _ h => h) (Or.inl ⟨by rfl, ?_⟩) (by assumption) ?_
          rotate_left
          · (intro w' hSw; (try dsimp only at hSw); go_simp; try (with_reducible rfl))
          try simp only [Act.put, List.setIfInBounds_toArray, List.set_cons_zero, List.set_cons_succ]
          refine wpAnyH_take (i := 12) (oi := ⟨some 82, _, _, _, _, _⟩) (v := ?_) rfl (by kernel_rfl) (by kernel_rfl) (by kernel_rfl) (fun _ _ _ h => h) (Or.inl ⟨by rfl, ?_⟩) (by assumption) ?_
          rotate_left
          · (intro w' hSw; (try dsimp only at hSw); go_simp; try (with_reducible rfl))
          try simp only [Act.put, List.setIfInBounds_toArray, List.set_cons_zero, List.set_cons_succ]
          refine wpAnyH_take (i := 13) (oi := ⟨some 83, _, _, _, _, _⟩) (v := ?_) rfl (by kernel_rfl) (by kernel_rfl) (by kernel_rfl) (fun _ _ _ h => h) (Or.inl ⟨by rfl, ?_⟩) (by assumption) ?_
          rotate_left
          · (intro w' hSw; (try dsimp only at hSw); go_simp; try (with_reducible rfl))
          try simp only [Act.put, List.setIfInBounds_toArray, List.set_cons_zero, List.set_cons_succ]
          refine wpAnyH_take (i := 14) (oi := ⟨some 84, _, _, _, _, _⟩) (v := ?_) rfl (by kernel_rfl) (by kernel_rfl) (by kernel_rfl) (fun _ _ _ h => h) (Or.inl ⟨by rfl, ?_⟩) (by assumption) ?_
          rotate_left
          · (intro w' hSw; (try dsimp only at hSw); go_simp; try (with_reducible rfl))
          try simp only [Act.put, List.setIfInBounds_toArray, List.set_cons_zero, List.set_cons_succ]
          refine wpAnyH_take (i := 15) (oi := ⟨some 85, _, _, _, _, _⟩) (v := ?_) rfl (by kernel_rfl) (by kernel_rfl) (by kernel_rfl) (fun _ _ _ h => h) (Or.inl ⟨by rfl, ?_⟩) (by assumption) ?_
          rotate_left
          · (intro w' hSw; (try dsimp only at hSw); go_simp; try (with_reducible rfl))
          try simp only [Act.put, List.setIfInBounds_toArray, List.set_cons_zero, List.set_cons_succ]
          refine wpAnyH_take (i := 16) (oi := ⟨some 86, _, _, _, _, _⟩) (v := ?_) rfl (by kernel_rfl) (by kernel_rfl) (by kernel_rfl) (fun _ _ _ h => h) (Or.inl ⟨by rfl, ?_⟩) (by assumption) ?_
          rotate_left
          · (intro w' hSw; (try dsimp only at hSw); go_simp; try (with_reducible rfl))
          try simp only [Act.put, List.setIfInBounds_toArray, List.set_cons_zero, List.set_cons_succ]
          refine wpAnyH_take (i := 17) (oi := ⟨some 87, _, _, _, _, _⟩) (v := ?_) rfl (by kernel_rfl) (by kernel_rfl) (by kernel_rfl) (fun _ _ _ h => h) (Or.inl ⟨by rfl, ?_⟩) (by assumption) ?_
          rotate_left
          · (intro w' hSw; (try dsimp only at hSw); go_simp; try (with_reducible rfl))
          try simp only [Act.put, List.setIfInBounds_toArray, List.set_cons_zero, List.set_cons_succ]
          refine wpAnyH_take (i := 18) (oi := ⟨some 88, _, _, _, _, _⟩) (v := ?_) rfl (by kernel_rfl) (by kernel_rfl) (by kernel_rfl) (fun _ _ _ h => h) (Or.inl ⟨by rfl, ?_⟩) (by assumption) ?_
          rotate_left
          · (intro w' hSw; (try dsimp only at hSw); go_simp; try (with_reducible rfl))
          try simp only [Act.put, List.setIfInBounds_toArray, List.set_cons_zero, List.set_cons_succ]
          refine wpAnyH_take (i := 19) (oi := ⟨some 89, _, _, _, _, _⟩) (v := undef) rfl (by kernel_rfl) (by kernel_rfl) (by kernel_rfl) (fun _ _ _ h => h) (Or.inr ⟨by rfl, rfl⟩) (by assumption) ?_
          try simp only [Act.put, List.setIfInBounds_toArray, List.set_cons_zero, List.set_cons_succ]
          refine wpAnyH_take (i := 20) (oi := ⟨some 90, _, _, _, _, _⟩) (v := undef) rfl (by kernel_rfl) (by kernel_rfl) (by kernel_rfl) (fun _ _ _ h => h) (Or.inr ⟨by rfl, rfl⟩) (by assumption) ?_
          try simp only [Act.put, List.setIfInBounds_toArray, List.set_cons_zero, List.set_cons_succ]
          refine wpAnyH_take (i := 21) (oi := ⟨some 91, _, _, _, _, _⟩) (v := undef) rfl (by kernel_rfl) (by kernel_rfl) (by kernel_rfl) (fun _ _ _ h => h) (Or.inr ⟨by rfl, rfl⟩) (by assumption) ?_
          try simp only [Act.put, List.setIfInBounds_toArray, List.set_cons_zero, List.set_cons_succ]
          refine wpAnyH_take (i := 22) (oi := ⟨some 92, _, _, _, _, _⟩) (v := ?_) rfl (by kernel_rfl) (by kernel_rfl) (by kernel_rfl) (fun _ _ _ h => h) (Or.inl ⟨by rfl, ?_⟩) (by assumption) ?_
          rotate_left
          · (intro w' hSw; (try dsimp only at hSw); go_simp; try (with_reducible rfl))
          try simp only [Act.put, List.setIfInBounds_toArray, List.set_cons_zero, List.set_cons_succ]
          refine wpAnyH_take (i := 23) (oi := ⟨some 93, _, _, _, _, _⟩) (v := ?_) rfl (by kernel_rfl) (by kernel_rfl) (by kernel_rfl) (fun _ _ _ h => h) (Or.inl ⟨by rfl, ?_⟩) (by assumption) ?_
          rotate_left
          · (intro w' hSw; (try dsimp only at hSw); go_simp; try (with_reducible rfl))
          try simp only [Act.put, List.setIfInBounds_toArray, List.set_cons_zero, List.set_cons_succ]
          refine wpAnyH_take (i := 24) (oi := ⟨some 94, _, _, _, _, _⟩) (v := ?_) rfl (by kernel_rfl) (by kernel_rfl) (by kernel_rfl) (fun _ _ _ h => h) (Or.inl ⟨by rfl, ?_⟩) (by assumption) ?_
          rotate_left
          · (intro w' hSw; (try dsimp only at hSw); go_simp; try (with_reducible rfl))
          try simp only [Act.put, List.setIfInBounds_toArray, List.set_cons_zero, List.set_cons_succ]
          refine wpAnyH_ready (rs := [25]) (by kernel_rfl) (by simp) ?_
          refine AllReadyH.cons rfl (fun K hK => ?_) AllReadyH.nil
          go_simp
          refine hK.out _ _ trivial (fun hHeld => ?_)
          clear hK K
          try simp only [Act.put, List.setIfInBounds_toArray, List.set_cons_zero, List.set_cons_succ]
          refine wpAnyH_ready (rs := [26]) (by kernel_rfl) (by simp) ?_
          refine AllReadyH.cons rfl (fun K hK => ?_) AllReadyH.nil
          go_simp
          first | rw [← HWQ.out] | (trace_state; fail)
          refine HC.out.mono ?_
          rintro e w7 ⟨v7, us7, rfl, hT7, hb7⟩
          go_wp2_with fail
          refine hK.out _ _ trivial (fun hHeld => ?_)
          clear hK K
          try simp only [Act.put, List.setIfInBounds_toArray, List.set_cons_zero, List.set_cons_succ]
          refine wpAnyH_take (i := 27) (oi := ⟨some 69, _, _, _, _, _⟩) (v := ?_) rfl (by kernel_rfl) (by kernel_rfl) (by kernel_rfl) (fun _ _ _ h => h) (Or.inl ⟨by rfl, ?_⟩) (by assumption) ?_
          rotate_left
          · (intro w' hSw; (try dsimp only at hSw); go_simp; try (with_reducible rfl))
          try simp only [Act.put, List.setIfInBounds_toArray, List.set_cons_zero, List.set_cons_succ]
          refine wpAnyH_take (i := 28) (oi := ⟨some 97, _, _, _, _, _⟩) (v := ?_) rfl (by kernel_rfl) (by kernel_rfl) (by kernel_rfl) (fun _ _ _ h => h) (Or.inl ⟨by rfl, ?_⟩) (by assumption) ?_
          rotate_left
          · (intro w' hSw; (try dsimp only at hSw); go_simp; try (with_reducible rfl))
          try simp only [Act.put, List.setIfInBounds_toArray, List.set_cons_zero, List.set_cons_succ]
          refine wpAnyH_take (i := 29) (oi := ⟨some 98, _, _, _, _, _⟩) (v := ?_) rfl (by kernel_rfl) (by kernel_rfl) (by kernel_rfl) (fun _ _ _ h => h) (Or.inl ⟨by rfl, ?_⟩) (by assumption) ?_
          rotate_left
          · (intro w' hSw; (try dsimp only at hSw); go_simp; try (with_reducible rfl))
          try simp only [Act.put, List.setIfInBounds_toArray, List.set_cons_zero, List.set_cons_succ]
          refine wpAnyH_take (i := 30) (oi := ⟨some 12, _, _, _, _, _⟩) (v := ?_) rfl (by kernel_rfl) (by kernel_rfl) (by kernel_rfl) (fun _ _ _ h => h) (Or.inl ⟨by rfl, ?_⟩) (by assumption) ?_
          rotate_left
          · (intro w' hSw; (try dsimp only at hSw); go_simp; try (with_reducible rfl))
          try simp only [Act.put, List.setIfInBounds_toArray, List.set_cons_zero, List.set_cons_succ]
          refine wpAnyH_take (i := 31) (oi := ⟨some 13, _, _, _, _, _⟩) (v := ?_) rfl (by kernel_rfl) (by kernel_rfl) (by kernel_rfl) (fun _ _ _ h => h) (Or.inl ⟨by rfl, ?_⟩) (by assumption) ?_
          rotate_left
          · (intro w' hSw; (try dsimp only at hSw); go_simp; try (with_reducible rfl))
          try simp only [Act.put, List.setIfInBounds_toArray, List.set_cons_zero, List.set_cons_succ]
          refine wpAnyH_done (by kernel_rfl) ?_ _
          go_wp2
          go_meet
          exact ⟨us7, rfl, Lib.hid hT7, Lib.hid hb7⟩
      case rest =>
      obtain ⟨us7, rfl, HT7, HB7⟩ := hcut
      obtain ⟨w7, rfl⟩ : ∃ x, x = wc := ⟨wc, rfl⟩
      have hT6 := (HT5.out.old HBQ.out).old HB7.out
      have hT7 := HT7.out
      rw [HHD.out] at hT7
      have hl7 : us7.length = Vo.data m + 2 := hT7.len.trans (Co.data_len (z := m) (i := i) hm7 (by omega))
      have hd100 : Vo.data m ≤ 3 := by unfold Vo.data; omega
      have hTlt : TB < w6.heap.size := heap_lt HT5.out.blk
      have hq6 := HBQ.out.size
      obtain ⟨g2, c2, A6, C6, w8, e2, -, -, hr8, x8, y8, hT8, -⟩ := hT6.grow hT7 (fun j hj k e h => by
        have h1 := (HT5.out.top.rows j hj (by rw [← HT5.out.top.len]; exact hj)).lt k e
        omega) (by omega) (fun k hk => by omega) us7.length (Nat.le_refl _) (by omega) (by simp) (by omega)
      subst e2
      have z7 : w7.cell? ⟨TB, 2, none⟩ = some (.slice A5 1 C5) := heap_cell hT6.blk
      obtain ⟨N6, hN6⟩ : ∃ N, N = 1 + us7.length := ⟨_, rfl⟩
      rw [← hN6] at hr8 hT8
      have HT8 : Hid (Tg wr ((i : Int) + 1) 20 TB A6 N6 C6 ([.slice A3 n3 C3] ++ us7) (Co.blocks m i) (w8.setCell ⟨TB, 2, none⟩ (.slice A6 N6 C6))) := Lib.hid (by
        have h := hT8
        rw [List.take_length, List.take_of_length_le (by rw [← hT7.len]; exact Nat.le_refl _)] at h
        exact h)
      have hr8' := hr8
      clear hT8 hT6 hT7 hl7 hd100 hTlt hq6 hN6 hcase hq1 hext hmk hand hr3 hd3 hd2 hw3 hw4 hw5 sb1 sb2 sb3 sb4 sb5 hr8'
      go_upto_region 14 with (at_builtin; refine Lib.wpList_append_run _ rfl _ _ _ _ rfl _ _ rfl rfl _ _ (hr8 _) ?_)
      generalize w8.setCell ⟨TB, 2, none⟩ (.slice A6 N6 C6) = w9 at HT8 ⊢
      clear hr8 x8 y8 z7
      obtain ⟨t0, t1, t2, t3⟩ := tape4 HT8.out.blk
      have hN6 : N6 = (Co.blocks m i).length := HT8.out.len
      have hby : Below w9.heap.size w9 (w9.alloc (.cells #[.int .i64 ((i : Int) + 1), .int .i64 20, .slice A6 N6 C6, .bool false] 27)) := (Below.refl _ _).alloc (Nat.le_refl _) _
      have hvb : ∀ k, u6.ownBlock = some k → k < wr.heap.size := fun k e => by
        obtain ⟨tvs, h1, -, -⟩ := HL.out.ex
        exact (h1.lt k e).2
      obtain ⟨g9, cp, wz, hrun, hlay, -, -⟩ := (HL.out.old HT8.out.bel).push [⟨(i : Int) + 1, 20, A6, N6, C6, false⟩] [Co.tape (low7 zs) i] rfl (by simp) (fun j hj hj' => by
        have hj0 : j = 0 := by simpa using hj
        subst hj0
        refine ⟨rfl, rfl, ?_, rfl, ?_⟩
        · show N6 = (Co.blocks (low7 zs i) i).length
          rw [← HM.out]; exact hN6
        · show RdB w9 A6 (Co.blocks (low7 zs i) i) _
          rw [← HM.out]
          exact (HT8.out.top.rdB).in_.mono fun b hb => ⟨hb.2, fun e => by
            have h1 := hvb b e
            have h2 := HTB.out
            have h3 := hb.1
            omega⟩) hby ⟨w9.heap.size, 0, none⟩ 1 1 (i + 1) rfl (newCells w9 [.int .i64 ((i : Int) + 1), .int .i64 20, .slice A6 N6 C6, .bool false] _) (by rw [tapesTo_len]; simp; omega) (by rw [tapesTo_len]; simp)
      have HLAY : Hid (LayT w (.slice (some ⟨g9, 0, none⟩) (i + 1) cp) (tapesTo (low7 zs) (i + 1)) wz) := Lib.hid (by rw [tapesTo_succ]; exact hlay)
      clear hN6 hby hvb hlay
      go_wp2_with (at_builtin; refine Lib.wpList_append_run _ rfl _ _ _ _ rfl _ _ rfl rfl _ _ (hrun _) ?_)
      go_roundw
      case rel => exact ⟨i + 1, by omega, by go_num, HLAY⟩
      case measure => simp [intOf]; omega
    · have e0 : decide ((i : Int) < (n : Int)) = false := decide_eq_false (by omega)
      have e0' : decide (i < n) = false := decide_eq_false hlt
      have hin : i = n := by omega
      obtain ⟨Al, Cl, hv, hrl⟩ := HL.out.rd
      rw [hin, tapesTo_len] at hv
      rw [hin] at hrl
      subst hv
      have HRL := Lib.hid hrl
      have HBL := Lib.hid HL.out.bel
      have HBX : Hid (∀ j, j < n → low7 zs j ≤ 127 ∧ j ≤ 1000) := Lib.hid fun j hj => ⟨(low7_eq zs j).2, by omega⟩
      obtain ⟨Z, hZ⟩ : ∃ Z, Z = low7 zs := ⟨_, rfl⟩
      rw [← hZ] at HBX HRL
      have hmk := run_make_row' (P := Tryd.prog) 37 4 (.bool false) 1 Tryd.underlying37 infoBool17 rfl .i64 .i64 n (by omega) (by omega) wr
      obtain ⟨w5, hw5⟩ : ∃ x, x = wr.alloc (.cells (madeCells #[.bool false] n) 4) := ⟨_, rfl⟩
      have hb5 : Below wr.heap.size wr w5 := by rw [hw5]; exact (Below.refl _ _).alloc (Nat.le_refl _) _
      have HLF : Hid (RowV w5 4 wr.heap.size n (fun q => .bool (decide (q ∈ ([] : List Nat))))) := Lib.hid (by rw [hw5]; exact (RowV.made wr (.bool false) 4 n).congr fun j _ => by simp)
      have HLM0 : Hid (LayM wr (.slice none 0 0) (([] : List Nat).map (Co.tape Z)) w5) := Lib.hid ((LayM.start wr).old hb5)
      have HW5 := Lib.hid hw5
      have hrl2 := hrl
      clear hrl hrl2 hin hw5 hb5 hZ HL HL0
      obtain ⟨wa, rfl⟩ : ∃ x, x = wr := ⟨wr, rfl⟩
      go_upto_region 18 with fail
      rw [← HW5.out]
      obtain ⟨G, hG⟩ : ∃ G, G = wa.heap.size := ⟨_, rfl⟩
      rw [← hG] at HLF ⊢
      have HGG := Lib.hid hG
      clear hG hmk
      go_loopw [16, 14] (fun vi vm wr => ∃ (j : Nat) (ks : List Nat), j ≤ n ∧ vi = .int .i64 (j : Int) ∧ Hid (ks.length = j) ∧ Hid (ks.Nodup) ∧ Hid (∀ k ∈ ks, k < n) ∧ Hid (RowV wr 4 G n (fun q => .bool (decide (q ∈ ks)))) ∧ Hid (LayM wa vm (ks.map (Co.tape Z)) wr)) (fun vi _ _ => n - (intOf vi).toNat)
      case atStart => exact ⟨0, [], Nat.zero_le _, rfl, Lib.hid rfl, Lib.hid List.nodup_nil, Lib.hid (fun _ h => nomatch h), HLF, HLM0⟩
      case round =>
        clear hi hlt e0 e0' HLF HLM0
        obtain ⟨j, ks, hj, rfl, HKL, HKN, HKB, HLF, HLM⟩ := hrel
        by_cases hlj : j < n
        · have e1 : decide ((j : Int) < (n : Int)) = true := decide_eq_true (by omega)
          have e1' : decide (j < n) = true := decide_eq_true hlj
          obtain ⟨bo, oo, hAo, co⟩ := (HR'.out.old (HBL.out.trans (HLM.out.bel.mono HBL.out.size))).at (show j < n' by omega)
          subst hAo
          obtain ⟨hlow, -⟩ := low_eq zo j
          obtain ⟨k0, hk0, hmod⟩ : ∃ k, k < n ∧ Int.tmod ((low zo j : Nat) : Int) (n : Int) = (k : Int) := ⟨low zo j % n, Nat.mod_lt _ (by omega), rfl⟩
          have hnz : ((n : Int) == 0) = false := by simp; omega
          have i0 : (0 : Int) ≤ (j : Int) := by omega
          have i1 : (j : Int) < (n' : Int) := by omega
          have hwk : IntKind.i64.wrap (k0 : Int) = (k0 : Int) := IntWalk.i64_in _ (by omega)
          obtain ⟨j0, hj0, hj0n⟩ := Pm.free (ks := ks) (n := n) (by rw [HKL.out]; exact hlj)
          have HJ0 := Lib.hid hj0n
          clear hj0n
          go_upto_region 21 with fail
          obtain ⟨wq, rfl⟩ : ∃ x, x = wr := ⟨wr, rfl⟩
          go_loopw [17] (fun vk wx => ∃ k : Nat, k < n ∧ vk = .int .i64 (k : Int) ∧ wx = wq) (fun vk _ => Pm.far n (intOf vk).toNat j0)
          case atStart => exact ⟨k0, hk0, rfl, rfl⟩
          case round =>
            clear hmod hwk hlow hk0 co i0 i1
            obtain ⟨k, hk, rfl, hwx⟩ := hrel
            subst hwx
            have j2 : (0 : Int) ≤ (k : Int) := by omega
            have j3 : (k : Int) < (n : Int) := by omega
            have cb := HLF.out.cell hk
            by_cases hkm : k ∈ ks
            · rw [decide_eq_true hkm] at cb
              obtain ⟨k9, hk9, hm9⟩ : ∃ q, q = (k + 1) % n ∧ Int.tmod ((k : Int) + 1) (n : Int) = (q : Int) := ⟨_, rfl, rfl⟩
              have hlt9 : k9 < n := by rw [hk9]; exact Nat.mod_lt _ (by omega)
              have hw8 : IntKind.i64.wrap ((k : Int) + 1) = (k : Int) + 1 := IntWalk.i64_in _ (by omega)
              have hw9 : IntKind.i64.wrap (k9 : Int) = (k9 : Int) := IntWalk.i64_in _ (by omega)
              have HFAR : Hid (Pm.far n k9 j0 < Pm.far n k j0) := Lib.hid (by rw [hk9]; exact Pm.far_next hk hj0 fun e => HJ0.out (by rw [← e]; exact hkm))
              clear hk9
              go_wp2
              go_roundw
              case rel => exact ⟨k9, hlt9, rfl, trivial⟩
              case measure => exact HFAR.out
            · rw [decide_eq_false hkm] at cb
              obtain ⟨bl, ol, A9, C9, eA, -, c0, c1, c2, c3, hb4⟩ := HRL.out.at_ (i := k) (by rw [tapesTo_len]; exact hk)
              rw [tapesTo_at] at c0 c1 c2 c3 hb4
              subst eA
              obtain ⟨ws, hws⟩ : ∃ x, x = wr.setCell ⟨G, k, none⟩ (.bool true) := ⟨_, rfl⟩
              obtain ⟨N9, hN9⟩ : ∃ N, N = (Co.blocks (Z k) k).length := ⟨_, rfl⟩
              have hN9' : (Co.tape Z k).blocks.length = N9 := hN9.symm
              have hff := HLF.out.frozen k
              obtain ⟨cG, hcG, hcG2⟩ := HLF.out
              have hlm : LayM wa u14 (ks.map (Co.tape Z)) ws := by rw [hws]; exact HLM.out.cell hcG (by decide) (by rw [HGG.out]; exact Nat.le_refl _)
              have hrv : RowV ws 4 G n (fun q => .bool (decide (q ∈ ks ++ [k]))) := by
                rw [hws]
                refine (HLF.out.set k _).congr fun q hq => ?_
                by_cases e : q = k
                · subst e; simp
                · simp [e]
              have hbs := hlm.bel
              have d0 := (hbs.cell (World.block_lt_of_cell? _ _ c0)).trans c0
              have d1 := (hbs.cell (World.block_lt_of_cell? _ _ c1)).trans c1
              have d2 := (hbs.cell (World.block_lt_of_cell? _ _ c2)).trans c2
              have d3 := (hbs.cell (World.block_lt_of_cell? _ _ c3)).trans c3
              rw [hN9'] at d2
              have d0' : ws.cell? ⟨bl, ol + k * 4, none⟩ = some (.int .i64 ((k : Int) + 1)) := d0
              have d1' : ws.cell? ⟨bl, ol + k * 4 + 1, none⟩ = some (.int .i64 20) := d1
              have d3' : ws.cell? ⟨bl, ol + k * 4 + 3, none⟩ = some (.bool false) := d3
              have HTV : Hid (TvIs wa (fun _ => True) ⟨(k : Int) + 1, 20, A9, N9, C9, false⟩ (Co.tape Z k)) := Lib.hid ⟨rfl, rfl, hN9, rfl, hb4⟩
              obtain ⟨wt, hwt⟩ : ∃ x, x = ws.alloc (.cells #[.int .i64 ((k : Int) + 1), .int .i64 20, .slice A9 N9 C9, .bool false] 27) := ⟨_, rfl⟩
              have hbt : Below ws.heap.size ws wt := by rw [hwt]; exact (Below.refl _ _).alloc (Nat.le_refl _) _
              have hlt' := hlm.old hbt
              obtain ⟨tvs, hown, htl, hti⟩ := hlt'.ex
              have HOWN := Lib.hid hown
              have HTL := Lib.hid htl
              have HTI := Lib.hid hti
              have HRT := Lib.hid (hrv.old hbt)
              have HBT := Lib.hid hlt'.bel
              have hml : tvs.length + 1 ≤ 9 := by rw [htl, List.length_map, HKL.out]; omega
              have hsz : wa.heap.size ≤ wt.heap.size := HBT.out.size
              have HNEW : Hid (∀ j u, (encT.cells [⟨(k : Int) + 1, 20, A9, N9, C9, false⟩])[j]? = some u → wt.cell? ((⟨ws.heap.size, 0, none⟩ : Addr).add j) = some u) := Lib.hid (by
                rw [hwt]
                exact newCells ws [.int .i64 ((k : Int) + 1), .int .i64 20, .slice A9 N9 C9, .bool false] _)
              have HNE : Hid (some G ≠ u14.ownBlock) := Lib.hid fun e => by
                obtain ⟨c', hc'⟩ := hown.block G e.symm
                obtain ⟨c5, hc5, -⟩ := HRT.out
                rw [hc'] at hc5
                injection hc5 with hc5
                injection hc5 with _ e9
                exact absurd e9 (by decide)
              have HKM := Lib.hid hkm
              have HWS := Lib.hid hws
              have HWT := Lib.hid hwt
              clear hws hN9 hN9' hcG hcG2 hlm hrv hbs d0 d1 d3 c0 c1 c2 c3 hb4 hwt hbt hlt' hown htl hti hkm HJ0 hj0
              go_upto_region 24 with fail
              rw [← HWS.out]
              clear hff cb
              go_wp2_with (at_builtin; rw [← HWT.out]; refine wpList_append_st' encT _ rfl _ _ _ rfl wa.heap.size 27 _ 48 Tryd.underlying24 infoTape rfl _ tvs rfl HOWN.out ⟨ws.heap.size, 0, none⟩ 1 1 [⟨(k : Int) + 1, 20, A9, N9, C9, false⟩] rfl rfl HNEW.out (by unfold maxLen; omega) (by omega) hsz ?_; intro v9 w9 ho9 hg9)
              have hrv9 : RowV w9 4 G n (fun q => .bool (decide (q ∈ ks ++ [k]))) := HRT.out.of_block (hg9.block G HRT.out.lt HNE.out)
              have hlm9 : LayM wa v9 ((ks ++ [k]).map (Co.tape Z)) w9 := by
                rw [List.map_append]
                exact LayM.push HTL.out HTI.out HBT.out HTV.out ho9 hg9 (fun q hq => (HOWN.out.lt q hq).1)
              have HRV9 := Lib.hid hrv9
              have HLM9 := Lib.hid hlm9
              clear hrv9 hlm9 ho9 hg9
              go_wp2
              go_roundw
              case rel => exact ⟨j + 1, ks ++ [k], by omega, by go_num, Lib.hid (by rw [List.length_append, HKL.out]; rfl), Lib.hid ((List.perm_append_singleton k ks).nodup_iff.2 (List.nodup_cons.2 ⟨HKM.out, HKN.out⟩)), Lib.hid (fun q hq => by
                rcases List.mem_append.1 hq with h | h
                · exact HKB.out q h
                · rw [List.mem_singleton.1 h]; exact hk), HRV9, HLM9⟩
              case measure => simp [intOf]; omega
        · have e1 : decide ((j : Int) < (n : Int)) = false := decide_eq_false (by omega)
          have e1' : decide (j < n) = false := decide_eq_false hlj
          have hjn : ks.length = n := by rw [HKL.out]; omega
          obtain ⟨Am, Cm, hv, hrm⟩ := HLM.out.rd
          rw [List.length_map, hjn] at hv
          subst hv
          have HRM := Lib.hid hrm
          have HP := Lib.hid (Pm.whole HKN.out HKB.out hjn)
          have HBM := Lib.hid HLM.out.bel
          have HZ : Hid (∀ k ∈ ks, Z k ≤ 127 ∧ k ≤ 1000) := Lib.hid fun k hk => HBX.out k (HKB.out k hk)
          have HZR : Hid (∀ k ∈ List.range n, Z k ≤ 127 ∧ k ≤ 1000) := Lib.hid fun k hk => HBX.out k (List.mem_range.1 hk)
          have HBW := Lib.hid (HBL.out.trans (HBM.out.mono HBL.out.size))
          have HF1 := Lib.hid (tapes_from Z (List.range n) n Al Cl _ wr List.length_range.symm List.nodup_range hn8 HZR.out (HRL.out.old HBM.out) (HK.out.old HBW.out))
          obtain ⟨fs, hfs⟩ : ∃ fs, fs = Ct.from_ ((List.range n).map (Co.tape Z)) := ⟨_, rfl⟩
          have hpos : 0 < fs.length := by rw [hfs]; exact Co.from_pos List.nodup_range HZR.out (by rw [List.length_range]; omega)
          have hle : fs.length ≤ 8 := by rw [hfs]; exact Nat.le_trans (Co.from_le List.nodup_range HZR.out) (by rw [List.length_range]; exact hn8)
          have HPT : Hid (∀ f ∈ fs, f.parts.length ≤ 1000000) := Lib.hid (by rw [hfs]; exact Co.from_parts List.nodup_range HZR.out)
          have HEQ : Hid (Ct.from_ (ks.map (Co.tape Z)) = fs) := Lib.hid (by rw [hfs]; exact (Co.from_perm HP.out List.nodup_range HZR.out).symm)
          rw [← hfs] at HF1
          obtain ⟨M, hM⟩ : ∃ M, M = fs.length := ⟨_, rfl⟩
          rw [← hM] at hpos hle
          have HMM := Lib.hid hM
          have q9 : decide ((0 : Int) < (M : Int)) = true := decide_eq_true (by omega)
          have q9' : decide (0 < M) = true := decide_eq_true hpos
          have HJN := Lib.hid hjn
          clear hjn hrm hfs hM HLF HLM hlj hj
          go_wp2_with fail
          refine HF1.out.mono ?_
          rintro e w1 ⟨A1, C1, xs, rfl, -, -, hx1, hr1, ho1, hb1⟩
          rw [← HMM.out]
          have HB1 := Lib.hid (HBW.out.trans (hb1.mono HBW.out.size))
          have HX1 := Lib.hid hx1
          have HR1 := Lib.hid hr1
          have HO1 := Lib.hid ho1
          have HF2 := Lib.hid (tapes_from Z ks n Am Cm _ w1 HJN.out.symm HKN.out hn8 HZ.out (HRM.out.old hb1) (HK.out.old HB1.out))
          rw [HEQ.out] at HF2
          clear hx1 hr1 ho1 hb1 HF1
          go_wp2_with fail
          refine HF2.out.mono ?_
          rintro e w2 ⟨A2, C2, ys, rfl, -, -, hx2, hr2, ho2, hb2⟩
          rw [← HMM.out]
          have HB2 := Lib.hid (HB1.out.trans (hb2.mono HB1.out.size))
          have HSF := Lib.hid (sameFiles_yes fs M xs ys A1 C1 A2 C2 _ _ w2 HMM.out (by omega) HX1.out hx2 (HR1.out.old hb2) hr2 (fun x hx => ((HO1.out x hx).old hb2).mono fun _ _ => trivial) (fun x hx => (ho2 x hx).mono fun _ _ => trivial) HPT.out)
          clear hx2 hr2 ho2 hb2 HF2
          go_wp2_with fail
          refine HSF.out.mono ?_
          rintro e w3 ⟨rfl, hb3⟩
          have HB3 := Lib.hid (HB2.out.trans (hb3.mono HB2.out.size))
          clear hb3 HSF
          go_wp2
          go_ret
          exact ⟨rfl, HB3.out⟩
theorem order_walk (A : Option Addr) (n C : Nat) (zs : Nat → Int) (A' : Option Addr) (n' C' : Nat) (zo : Nat → Int) (w : World) (hk : Kept w) (hr : RdI w A n zs) (hr' : RdI w A' n' zo) :
    Calls Tryd.prog 3 #[.slice A n C, .slice A' n' C'] w fun e w' => e = .returned (.bool true) ∧ Below w.heap.size w w' := by
  by_cases h : n < 1 ∨ 8 < n ∨ n' < n
  · exact order_out A n C A' n' C' w hk h
  · exact order_main A n C zs A' n' C' zo w hk hr hr' (by omega) (by omega) (by omega)
end Go.Proofs.YtbijjgicjkmopaaDoor
