/- MendBack: whatever at most as many members have lost as there is parity, each data tape is made as it was. -/
import Derived.Test.YtcokmmanajdioaaGreatLdLaid
import Derived.Test.YtcokmmanajdioaaGreatMbi
import Derived.Test.YtcokmmanajdioaaGreatMbj
import Derived.Test.YtcokmmanajdioaaGreatMag
import Derived.StillTailTactics
import Derived.Deep.RegionHeld3
import Derived.BigQuiet
import Derived.Deep.DeepFit
namespace Go.Proofs.YtcokmmanajdioaaGreat
open Go.RowKit Mx
open Pt (Tx)

theorem infoBoolB : (Tryz.prog.info? 4).map (fun i => (i.zero, i.size, i.bytes)) = some (some (.bool false), 1, 1) := by kernel_rfl
namespace Bk
theorem and_1 (x : Int) : bits BinOp.and IntKind.i64 x 1 = 0 ∨ bits BinOp.and IntKind.i64 x 1 = 1 := by
  have hx : (BitVec.ofInt 64 x &&& BitVec.ofInt 64 1).toNat ≤ 1 := by
    rw [BitVec.toNat_and]; exact Nat.and_le_right
  have e : bits BinOp.and IntKind.i64 x 1 = (((BitVec.ofInt 64 x &&& BitVec.ofInt 64 1).toNat : Nat) : Int) := by
    show IntKind.i64.wrap ((BitVec.ofInt 64 x &&& BitVec.ofInt 64 1).toNat : Int) = _
    rw [IntKind.wrap_i64]; omega
  rw [e]
  omega
theorem all_few {z : Nat → Int} {d p : Nat} (hd : d ≤ 6) : ∀ t ∈ Ld.all z d p, t.blocks.length ≤ 1000 ∧ ∀ s ∈ t.blocks, s.length ≤ 1000 := by
  intro t ht
  unfold Ld.all Me.whole at ht
  rcases List.mem_append.1 ht with h | h
  · obtain ⟨i, hi, rfl⟩ := List.mem_map.1 h
    have h1 := (Ld.num_le z i).2
    have h2 := List.mem_range.1 hi
    refine ⟨by simp [Ld.T]; omega, fun s hs => ?_⟩
    obtain ⟨k, hk, rfl⟩ := List.mem_map.1 hs
    have h3 := List.mem_range.1 hk
    rw [Ld.b_len (by omega) (by omega)]; omega
  · have h1 := Ld.made_short (blank := Ld.bl p) (number := 3) (Nat.le_trans (Ld.len_le (z := z) (d := d)) (by omega)) t h
    obtain ⟨i, hi, rfl⟩ := List.mem_iff_getElem.1 h
    rw [Gr.made_at (by rwa [Gr.made_len] at hi)] at h1 ⊢
    refine ⟨by rw [Gr.madeT_len]; have := Ld.len_le (z := z) (d := d); omega, fun s hs => Nat.le_trans (h1.2 s hs) (by omega)⟩
end Bk
theorem num15Q (n : Int) (w : World) : Calls Tryz.prog 8 #[.int .i64 n] w fun e w' => e = .returned (.int .i64 n) ∧ w' = w := (num15 n w).mono fun _ _ h => ⟨h.1, h.2.symm⟩
theorem setBB {w : World} {g n k : Nat} {f : Nat → Bool} (h : RowV w 4 g n (fun j => .bool (f j))) : RowV (w.setCell ⟨g, k, none⟩ (.bool true)) 4 g n (fun j => .bool (if j = k then true else f j)) :=
  (h.set k (.bool true)).congr fun x _ => by
    by_cases e : x = k
    · simp [e]
    · simp [e]
namespace LdK
variable {w1 wr w2 : World} {g cap M M2 : Nat} {x : Sx} {ts : List St.T}
/-- something of another kind elsewhere is stored into -/
theorem besideB (h : LdK w1 g cap M M2 x ts wr) {q : Nat} {ty : TypeId} (hk : Kp (· = q) wr w2) (hq : w1.heap.size ≤ q) (hqM : q < M ∨ M2 ≤ q) (ht : ∃ c, wr.heap[q]? = some (.cells c ty (0, 0))) (n1 : ty ≠ 31) (n2 : ty ≠ 34) (n3 : ty ≠ 5) : LdK w1 g cap M M2 x ts w2 := by
  obtain ⟨tvs, L, h1, h2⟩ := h.ex
  obtain ⟨c, hc⟩ := ht
  have hno : ∀ k c' t, k = q → wr.heap[k]? = some (Obj.cells c' t (0, 0)) → ty = t := fun k c' t e h' => by
    rw [e, hc] at h'
    injection h' with h'
    injection h' with _ e2
  refine ⟨⟨tvs, L, h1.of_block fun k e => hk.block k (h1.lt k e).2 fun e' => ?_, h2.kp hk (fun k c' e _ h' => absurd (hno k c' _ e h') n2) (fun k c' e _ h' => absurd (hno k c' _ e h') n3)⟩, h.sx.kp hk (fun b hb e => by have e' : b = q := e; omega), h.gne, h.bel.trans (hk.below h.bel.size fun k e => by have e' : k = q := e; omega), h.lo⟩
  obtain ⟨c2, hc2⟩ := h1.block k e
  exact absurd (hno k c2 _ e' hc2) n1
/-- from a row made by append -/
theorem of_ldR {w : World} {v : Value} (h : LdR w v ts wr) (h0 : 0 < ts.length) : ∃ g cap, v = .slice (some ⟨g, 0, none⟩) ts.length cap ∧ LdK w g cap wr.heap.size wr.heap.size ⟨⟨0, 0, 0, 0, []⟩, none, 0⟩ ts wr := by
  obtain ⟨tvs, L, h1, h2⟩ := h.ex
  have hl := h2.len
  obtain ⟨g, C, hv, hg, -⟩ := h1.news (by omega)
  rw [hl] at hv
  subst hv
  have hlt := (h1.lt g rfl)
  exact ⟨g, C, rfl, ⟨tvs, L, h1, h2⟩, ⟨Nat.le_refl _, by decide, fun _ => ⟨rfl, rfl⟩, fun h => absurd h (by simp)⟩, .inl hlt.2, h.bel, hlt.1⟩
end LdK
set_option maxRecDepth 100000 in
set_option maxHeartbeats 2000000 in
theorem mendBack_no (A : Option Addr) (n C : Nat) (p : Int) (A2 : Option Addr) (n2 C2 : Nat) (A3 : Option Addr) (n3 C3 : Nat) (w : World) (h : n < 1 ∨ 6 < n ∨ p < 1 ∨ 4 < p ∨ 10 < n2 ∨ 30 < n3) :
    Calls Tryz.prog 3 #[.slice A n C, .int .i64 p, .slice A2 n2 C2, .slice A3 n3 C3] w fun e w' => e = .returned (.bool true) ∧ Below w.heap.size w w' := by
  have hq : (decide (n < 1) = true ∧ decide ((n : Int) < 1) = true) ∨ ((decide (n < 1) = false ∧ decide ((n : Int) < 1) = false) ∧ ((decide (6 < n) = true ∧ decide (6 < (n : Int)) = true) ∨ ((decide (6 < n) = false ∧ decide (6 < (n : Int)) = false) ∧ (decide (p < 1) = true ∨ (decide (p < 1) = false ∧ (decide (4 < p) = true ∨ (decide (4 < p) = false ∧ ((decide (10 < n2) = true ∧ decide (10 < (n2 : Int)) = true) ∨ ((decide (10 < n2) = false ∧ decide (10 < (n2 : Int)) = false) ∧ (decide (30 < n3) = true ∧ decide (30 < (n3 : Int)) = true)))))))))) := by
    simp only [decide_eq_true_eq, decide_eq_false_iff_not]; omega
  clear h
  rcases hq with ⟨q1, q2⟩ | ⟨⟨q1, q2⟩, ⟨q3, q4⟩ | ⟨⟨q3, q4⟩, q5 | ⟨q5, q6 | ⟨q6, ⟨q7, q8⟩ | ⟨⟨q7, q8⟩, ⟨q9, q10⟩⟩⟩⟩⟩⟩
  all_goals
    have z1 : (n == 0) = decide (n < 1) := by rw [Bool.eq_iff_iff]; simp
    go_enter Tryz.func3, Tryz.ntmps3
    go_wp2_with fail
    refine (alive15_true w).mono ?_
    rintro e w1 ⟨rfl, hb1⟩
    go_wp2
    go_ret
    exact ⟨rfl, hb1⟩
set_option maxRecDepth 100000 in
set_option maxHeartbeats 16000000 in
theorem mendBack_main (A : Option Addr) (d C : Nat) (z : Nat → Int) (p : Nat) (A2 : Option Addr) (l2 C2 : Nat) (z2 : Nat → Int) (A3 : Option Addr) (l3 C3 : Nat) (z3 : Nat → Int) (w : World) (hd1 : 1 ≤ d) (hd : d ≤ 6) (hp1 : 1 ≤ p) (hp : p ≤ 4) (hl2 : l2 ≤ 10) (hl3 : l3 ≤ 30) (hr : RdI w A d z) (hr2 : RdI w A2 l2 z2) (hr3 : RdI w A3 l3 z3) :
    Calls Tryz.prog 3 #[.slice A d C, .int .i64 (p : Int), .slice A2 l2 C2, .slice A3 l3 C3] w fun e w' => e = .returned (.bool true) ∧ Below w.heap.size w w' := by
  have q0 : decide ((d : Int) < 1) = false := decide_eq_false (by omega)
  have q0' : decide (d < 1) = false := decide_eq_false (by omega)
  have q1 : decide (6 < (d : Int)) = false := decide_eq_false (by omega)
  have q1' : decide (6 < d) = false := decide_eq_false (by omega)
  have q2 : decide ((p : Int) < 1) = false := decide_eq_false (by omega)
  have q3 : decide (4 < (p : Int)) = false := decide_eq_false (by omega)
  have q3' : decide (4 < p) = false := decide_eq_false (by omega)
  have q4 : decide (10 < (l2 : Int)) = false := decide_eq_false (by omega)
  have q4' : decide (10 < l2) = false := decide_eq_false (by omega)
  have q5 : decide (30 < (l3 : Int)) = false := decide_eq_false (by omega)
  have q5' : decide (30 < l3) = false := decide_eq_false (by omega)
  have HR := Lib.hid hr
  have HR2 := Lib.hid hr2
  have HR3 := Lib.hid hr3
  clear hr hr2 hr3
  go_enter Tryz.func3, Tryz.ntmps3
  go_wp2_with fail
  refine (alive15_true w).mono ?_
  rintro e w2 ⟨rfl, hb2⟩
  have HLAID := Lib.hid (laid_walk A d C z p w2 hd hd1 hp hp1 (HR.out.old hb2))
  have HB2 := Lib.hid hb2
  clear hb2
  go_wp2_with fail
  refine HLAID.out.mono ?_
  rintro e w3 ⟨g, cap, M, M2, x, rfl, hx, hk3⟩
  obtain ⟨⟨xn, xi, xd, xp, xl⟩, xA, xC⟩ := x
  have hx2 : xn = 3 ∧ xi = (d : Int) ∧ xd = (d : Int) ∧ xp = (p : Int) ∧ xl.length = d + p := by
    have hx' : (⟨xn, xi, xd, xp, xl⟩ : Rc.S) = Gr.sealOf (Ld.data z d) (Ld.bl p) 3 d := hx
    unfold Gr.sealOf at hx'
    injection hx' with g1 g2 g3 g4 g5
    rw [Ld.data_len] at g3
    rw [Ld.bl_len] at g4
    refine ⟨g1, g2, g3, g4, ?_⟩
    rw [g5, List.length_map, List.length_append, Ld.data_len, Ld.bl_len]
  obtain ⟨rfl, rfl, rfl, rfl, hxl⟩ := hx2
  dsimp only
  rw [hxl]
  obtain ⟨m, hm⟩ : ∃ m, m = d + p := ⟨_, rfl⟩
  rw [← hm]
  obtain ⟨w4, hw4⟩ : ∃ y, y = w3.alloc (sealObj 3 (d : Int) (d : Int) (p : Int) xA m xC) := ⟨_, rfl⟩
  have hb4 : Below w3.heap.size w3 w4 := by rw [hw4]; exact (Below.refl _ _).alloc (Nat.le_refl _) _
  have hS4 : w4.heap[w3.heap.size]? = some (sealObj 3 (d : Int) (d : Int) (p : Int) xA m xC) := by rw [hw4]; exact Go.Deep.blk_alloc_new _ _
  have HK4 : Hid (LdK w2 g cap M M2 ⟨⟨3, (d : Int), (d : Int), (p : Int), xl⟩, xA, xC⟩ (Ld.all z d p) w4) := Lib.hid (hk3.old hb4)
  have HX := Lib.hid hx
  have HM := Lib.hid hm
  have HS4 := Lib.hid hS4
  have HW4 := Lib.hid hw4
  have HB4 : Hid (Below w.heap.size w w4) := Lib.hid (HB2.out.trans (HK4.out.bel.mono HB2.out.size))
  unfold sealObj at HW4
  have hm10 : m ≤ 10 := by omega
  have hm2 : 2 ≤ m := by omega
  have hdm : d < m := by omega
  have hmk := run_make_row' (P := Tryz.prog) 33 4 (.bool false) 1 Tryz.underlying33 infoBoolB rfl .i64 .i64 m (by omega) (by omega)
  clear hw4 hb4 hS4 hk3 hx hxl hm
  go_wp2
  rw [← HW4.out]
  obtain ⟨B, hB⟩ : ∃ B, B = w3.heap.size := ⟨_, rfl⟩
  rw [← hB] at HS4 ⊢
  clear hB HLAID HB2
  go_loopw [14, 13] (fun vi vl wr => ∃ i : Nat, i ≤ m ∧ vi = .int .i64 (i : Int) ∧ Hid (LdR w4 vl ((Ld.all z d p).take i) wr)) (fun vi _ _ => m - (intOf vi).toNat)
  case atStart => exact ⟨0, Nat.zero_le _, rfl, Lib.hid (LdR.start w4)⟩
  case round =>
    obtain ⟨i, hi, rfl, HJ⟩ := hrel
    by_cases hlt : i < m
    · have e0 : decide (i < m) = true := decide_eq_true hlt
      have e0' : decide ((i : Int) < (m : Int)) = true := decide_eq_true (by omega)
      have i0 : (0 : Int) ≤ (i : Int) := by omega
      have i1 : (i : Int) < (m : Int) := by omega
      have hia : i < (Ld.all z d p).length := by rw [Ld.all_len, ← HM.out]; exact hlt
      obtain ⟨b', off', A', C', eA, -, c0, c1, c2, c3, hbb⟩ := (HK4.out.old HJ.out.bel).rd.at_ hia
      injection eA with eA
      injection eA with eA1 eA2 _
      subst eA1 eA2
      rw [Nat.zero_add] at c0 c1 c2 c3
      have hfew := Bk.all_few hd _ (List.getElem_mem hia)
      have hlo := (Bk.all_whole hd1 hd hp1 hp hia).1
      have htk : (Ld.all z d p).take (i + 1) = (Ld.all z d p).take i ++ [(Ld.all z d p)[i]] := List.take_succ_eq_append_getElem hia
      have htl0 : ((Ld.all z d p).take i).length = i := by rw [List.length_take]; omega
      obtain ⟨⟨lab, cp, bs, lo⟩, ht⟩ : ∃ t, t = (Ld.all z d p)[i] := ⟨_, rfl⟩
      rw [← ht] at c0 c1 c2 c3 hbb hfew hlo htk
      dsimp only at c0 c1 c2 c3 hbb hfew hlo
      subst hlo
      obtain ⟨nb, hnb⟩ : ∃ nb, nb = bs.length := ⟨_, rfl⟩
      have hcp := copyTape_any lab cp A' bs bs.length C' false _ wr rfl hbb hfew.1 hfew.2
      unfold CopyAns at hcp
      rw [← hnb] at hcp c2
      have HCP := Lib.hid hcp
      obtain ⟨tvs, L, hown, hrow⟩ := HJ.out.ex
      have htl : tvs.length = i := by rw [hrow.len, htl0]
      have HNEXT : Hid (∀ (w5 w6 : World) (v' : Value) (A5 : Option Addr) (C5 : Nat) (us : List Value), TopB w5 wr.heap.size (fun k => wr.heap.size ≤ k) (.slice A5 nb C5) us bs → Below wr.heap.size wr w5 → (w5.alloc (.cells #[.int .i64 lab, .int .i64 cp, .slice A5 nb C5, .bool false] 31)).grownBy w6 u13.ownBlock → encT.Own w6 w4.heap.size 31 v' (tvs ++ [⟨lab, cp, A5, nb, C5, false⟩]) → LdR w4 v' ((Ld.all z d p).take (i + 1)) w6) := Lib.hid fun w5 w6 v' A5 C5 us ht5 hb5 hg ho => by
        rw [htk]
        exact LdR.next HJ.out hown hrow hb5 hnb ht5 hg ho
      have HOWN : Hid (∀ w5 : World, Below wr.heap.size wr w5 → ∀ o : Obj, encT.Own (w5.alloc o) w4.heap.size 31 u13 tvs) := Lib.hid fun w5 hb5 o => hown.old (hb5.alloc hb5.size o)
      have HMLB : Hid (tvs.length + 1 ≤ maxLen ∧ (tvs.length + 1) * 48 ≤ 140737488355328) := Lib.hid ⟨by rw [htl]; unfold maxLen; omega, by rw [htl]; omega⟩
      have HSZB : Hid (w4.heap.size ≤ wr.heap.size) := Lib.hid HJ.out.bel.size
      clear hown hrow htl hmk hcp hnb hbb hfew ht htk htl0 hia
      go_wp2_with fail
      refine HCP.out.mono ?_
      rintro e w5 ⟨A5, C5, us, rfl, ht5, hb5⟩
      have HT5 := Lib.hid ht5
      have HB5 := Lib.hid hb5
      have HSZ5 : Hid (w4.heap.size ≤ (w5.alloc (.cells #[.int .i64 lab, .int .i64 cp, .slice A5 nb C5, .bool false] 31)).heap.size) := Lib.hid (by have h1 := HSZB.out; have h2 := hb5.size; simp; omega)
      clear ht5 hb5 c0 c1 c2 c3
      go_wp2_with (at_builtin; refine wpList_append_st' encT _ rfl _ _ _ rfl w4.heap.size 31 _ 48 Tryz.underlying24 infoTape rfl _ tvs rfl (HOWN.out w5 HB5.out _) ⟨w5.heap.size, 0, none⟩ 1 1 [⟨lab, cp, A5, nb, C5, false⟩] rfl rfl (newCells w5 [.int .i64 lab, .int .i64 cp, .slice A5 nb C5, .bool false] _) HMLB.out.1 HMLB.out.2 HSZ5.out ?_; intro v' w6 ho6 hg6)
      have HN := Lib.hid (HNEXT.out w5 w6 v' A5 C5 us HT5.out HB5.out hg6 ho6)
      clear ho6 hg6
      go_roundw
      case rel => exact ⟨i + 1, by omega, by go_num, HN⟩
      case measure => simp [intOf]; omega
    · have e0 : decide (i < m) = false := decide_eq_false hlt
      have e0' : decide ((i : Int) < (m : Int)) = false := decide_eq_false (by omega)
      have hJD := HJ.out
      rw [List.take_of_length_le (by rw [Ld.all_len, ← HM.out]; omega)] at hJD
      obtain ⟨gn, cn, hv, hKN⟩ := LdK.of_ldR hJD (by rw [Ld.all_len]; omega)
      rw [Ld.all_len, ← HM.out] at hv
      subst hv
      obtain ⟨x0, hx0⟩ : ∃ x : Sx, x = ⟨⟨0, 0, 0, 0, []⟩, none, 0⟩ := ⟨_, rfl⟩
      obtain ⟨wx, rfl⟩ : ∃ y, y = wr := ⟨wr, rfl⟩
      obtain ⟨hG, hhG⟩ : ∃ y, y = wx.heap.size := ⟨_, rfl⟩
      rw [← hhG, ← hx0] at hKN
      obtain ⟨w7, hw7⟩ : ∃ y, y = wx.alloc (.cells (madeCells #[.bool false] m) 4) := ⟨_, rfl⟩
      have hb7 : Below wx.heap.size wx w7 := by rw [hw7]; exact (Below.refl _ _).alloc (Nat.le_refl _) _
      have HRV7 : Hid (RowV w7 4 hG m (fun k => .bool ((fun _ => false : Nat → Bool) k))) := Lib.hid (by rw [hw7, hhG]; exact RowV.made wx (.bool false) 4 m)
      have HK7 : Hid (LdK w4 gn cn hG hG x0 (Ld.all z d p) w7) := Lib.hid (hKN.old hb7)
      have HI7 : Hid (Bk.I z d p (Ld.all z d p) (fun _ => false) 0) := Lib.hid Bk.I.start
      have HGW : Hid (w4.heap.size ≤ hG) := Lib.hid (by rw [hhG]; exact hJD.bel.size)
      have HW7 := Lib.hid hw7
      have HHG := Lib.hid hhG
      clear hJD hKN hb7 hw7 hhG hx0 HJ
      go_wp2
      rw [← HW7.out, ← HHG.out]
      clear hmk
      go_loopw [17, 16] (fun vi vn wr => ∃ (i n : Nat) (ts : List St.T) (h : Nat → Bool), i ≤ l2 ∧ vi = .int .i64 (i : Int) ∧ vn = .int .i64 (n : Int) ∧ Hid (LdK w4 gn cn hG hG x0 ts wr) ∧ Hid (RowV wr 4 hG m (fun k => .bool (h k))) ∧ Hid (Bk.I z d p ts h n)) (fun vi _ _ => l2 - (intOf vi).toNat)
      case atStart => exact ⟨0, 0, _, _, Nat.zero_le _, rfl, rfl, HK7, HRV7, HI7⟩
      case round =>
        clear HK7 HRV7 HI7 HW7 hlt e0 e0' hi
        obtain ⟨i, n, ts, h, hi, rfl, rfl, HK, HRV, HI⟩ := hrel
        by_cases hli : i < l2
        · have e2 : decide ((i : Int) < (l2 : Int)) = true := decide_eq_true (by omega)
          have e2' : decide (i < l2) = true := decide_eq_true hli
          obtain ⟨b, off, rfl, cz⟩ := (HR2.out.old (HB4.out.trans (HK.out.bel.mono HB4.out.size))).at hli
          obtain ⟨hlow, -⟩ := low_eq z2 i
          obtain ⟨k, hk, hmod⟩ := Bk.modB (N := m) (by omega) (low z2 i)
          have hnz : ((m : Int) == 0) = false := by simp; omega
          have i0 : (0 : Int) ≤ (i : Int) := by omega
          have i1 : (i : Int) < (l2 : Int) := by omega
          have j0 : (0 : Int) ≤ (k : Int) := by omega
          have j1 : (k : Int) < (m : Int) := by omega
          have hwk : IntKind.i64.wrap (k : Int) = (k : Int) := IntWalk.i64_in _ (by omega)
          have hwm : IntKind.i64.wrap ((m : Int) - 1) = (m : Int) - 1 := IntWalk.i64_in _ (by omega)
          have hnp := HI.out.le
          have hwn : IntKind.i64.wrap ((n : Int) + 1) = (n : Int) + 1 := IntWalk.i64_in _ (by omega)
          have hkl : k < ts.length := by rw [HI.out.len, ← HM.out]; exact hk
          have cb := HRV.out.cell hk
          have fb := HRV.out.frozen k
          have hM9 := HM.out
          by_cases hkm : (k : Int) = (m : Int) - 1
          · have f1 : ((k : Int) == (m : Int) - 1) = true := by rw [beq_iff_eq]; exact hkm
            clear hkl hk hM9
            go_wp2
            go_roundw
            case rel => exact ⟨i + 1, n, ts, h, by omega, by go_num, rfl, HK, HRV, HI⟩
            case measure => simp [intOf]; omega
          have f1 : ((k : Int) == (m : Int) - 1) = false := by rw [beq_eq_false_iff_ne]; exact hkm
          by_cases hskip : n = p ∧ h k = false
          · obtain ⟨hs1, hs2⟩ := hskip
            have f2 : ((n : Int) == (p : Int)) = true := by rw [beq_iff_eq]; omega
            rw [hs2] at cb
            clear hkl hk hM9 hs1 hs2
            go_wp2
            go_roundw
            case rel => exact ⟨i + 1, n, ts, h, by omega, by go_num, rfl, HK, HRV, HI⟩
            case measure => simp [intOf]; omega
          obtain ⟨ws, hws⟩ : ∃ y, y = wr.setCell ⟨hG, k, none⟩ (.bool true) := ⟨_, rfl⟩
          have hHS : RowV ws 4 hG m (fun j => .bool ((fun j => if j = k then true else h j) j)) := by rw [hws]; exact setBB HRV.out
          have hKS : LdK w4 gn cn hG hG x0 ts ws := by
            rw [hws]
            obtain ⟨c', hc', -, -⟩ := HRV.out
            exact HK.out.besideB (Kp.store wr hG k _) HGW.out (.inr (Nat.le_refl _)) ⟨c', hc'⟩ (by decide) (by decide) (by decide)
          have hcase : (h k = true ∧ ((n : Int) == (p : Int)) = true ∧ Bk.I z d p ts (fun j => if j = k then true else h j) n) ∨ (h k = true ∧ ((n : Int) == (p : Int)) = false ∧ Bk.I z d p ts (fun j => if j = k then true else h j) n) ∨ (h k = false ∧ ((n : Int) == (p : Int)) = false ∧ Bk.I z d p ts (fun j => if j = k then true else h j) (n + 1)) := by
            cases hf : h k with
            | true =>
              by_cases hnp2 : n = p
              · exact .inl ⟨rfl, by rw [beq_iff_eq]; omega, HI.out.again hf⟩
              · exact .inr (.inl ⟨rfl, by rw [beq_eq_false_iff_ne]; omega, HI.out.again hf⟩)
            | false =>
              have hnp2 : n ≠ p := fun e => hskip ⟨e, hf⟩
              exact .inr (.inr ⟨rfl, by rw [beq_eq_false_iff_ne]; omega, HI.out.hit (by omega) (by omega) (by omega) hf⟩)
          obtain ⟨h9, hh9⟩ : ∃ f : Nat → Bool, f = (fun j => if j = k then true else h j) := ⟨_, rfl⟩
          have h9k : h9 k = true := by rw [hh9]; exact if_pos rfl
          rw [← hh9] at hHS hcase
          have hcaseI := Bk.and_1 (i : Int)
          obtain ⟨c, hc⟩ := hKS.blk
          have hgG : hG ≠ gn := fun e => by
            obtain ⟨c', hc', -, -⟩ := hHS
            rw [e, hc] at hc'
            injection hc' with hc'
            injection hc' with _ e9
            exact absurd e9 (by decide)
          have hff : ws.frozen? ⟨gn, k * 4 + 3, none⟩ = false := heap_frozen hc
          obtain ⟨b', off', A', C', eA, -, -, -, -, c3, -⟩ := hKS.rd.at_ hkl
          injection eA with eA
          injection eA with eA1 eA2 _
          subst eA1 eA2
          rw [Nat.zero_add] at c3
          obtain ⟨lo, hlo⟩ : ∃ lo, lo = ts[k].lost := ⟨_, rfl⟩
          rw [← hlo] at c3
          have HKS := Lib.hid hKS
          have HHS := Lib.hid hHS
          have HWS := Lib.hid hws
          have HLOST : Hid (∀ n', Bk.I z d p ts h9 n' → ∃ ts', LdK w4 gn cn hG hG x0 ts' (ws.setCell ⟨gn, k * 4 + 3, none⟩ (.bool true)) ∧ RowV (ws.setCell ⟨gn, k * 4 + 3, none⟩ (.bool true)) 4 hG m (fun j => .bool (h9 j)) ∧ Bk.I z d p ts' h9 n') := Lib.hid fun n' hi' =>
            ⟨_, hKS.lost hkl, hHS.kp (Kp.store ws gn (k * 4 + 3) _) hgG, hi'.lost hkl h9k⟩
          have HKN : Hid (h9 k = true ∧ k < m ∧ k < d + p) := Lib.hid ⟨h9k, hk, by omega⟩
          clear hKS hHS hws hh9 h9k hlo hgG hc hkl hk hM9 hskip
          rcases hcase with ⟨hf, f2, hin⟩ | ⟨hf, f2, hin⟩ | ⟨hf, f2, hin⟩
          all_goals
            rw [hf] at cb
            have HIN := Lib.hid hin
            clear hin hf
            go_upto_region 22 with fail
            rw [← HWS.out]
            clear cb fb cz
            rcases hcaseI with hev | hev
            · obtain ⟨ts', hl1, hl2', hl3'⟩ := HLOST.out _ HIN.out
              have HL1 := Lib.hid hl1
              have HL2 := Lib.hid hl2'
              have HL3 := Lib.hid hl3'
              clear hl1 hl2' hl3'
              go_wp2
              go_roundw
              case rel => first | exact ⟨i + 1, n, ts', h9, by omega, by go_num, rfl, HL1, HL2, HL3⟩ | exact ⟨i + 1, n + 1, ts', h9, by omega, by go_num, by go_num, HL1, HL2, HL3⟩
              case measure => simp [intOf]; omega
            · by_cases hl0 : l3 = 0
              · have g1 : ((l3 : Int) == 0) = true := by rw [beq_iff_eq]; omega
                have g1' : (l3 == 0) = true := by rw [beq_iff_eq]; exact hl0
                obtain ⟨ts', hl1, hl2', hl3'⟩ := HLOST.out _ HIN.out
                have HL1 := Lib.hid hl1
                have HL2 := Lib.hid hl2'
                have HL3 := Lib.hid hl3'
                clear hl1 hl2' hl3' hl0
                go_wp2
                go_roundw
                case rel => first | exact ⟨i + 1, n, ts', h9, by omega, by go_num, rfl, HL1, HL2, HL3⟩ | exact ⟨i + 1, n + 1, ts', h9, by omega, by go_num, by go_num, HL1, HL2, HL3⟩
                case measure => simp [intOf]; omega
              · have g1 : ((l3 : Int) == 0) = false := by rw [beq_eq_false_iff_ne]; omega
                have g1' : (l3 == 0) = false := by rw [beq_eq_false_iff_ne]; exact hl0
                obtain ⟨n', hn', HIN'⟩ : ∃ n', n' = _ ∧ Hid (Bk.I z d p ts h9 n') := ⟨_, rfl, HIN⟩
                clear c3 hff hl0
                go_wp2
                go_loopw [19] (fun vj wy => ∃ (j : Nat) (ty : List St.T), j ≤ l3 ∧ vj = .int .i64 (j : Int) ∧ Hid (LdK w4 gn cn hG hG x0 ty wy) ∧ Hid (RowV wy 4 hG m (fun k => .bool (h9 k))) ∧ Hid (Bk.I z d p ty h9 n')) (fun vj _ => l3 - (intOf vj).toNat)
                case atStart => exact ⟨0, ts, Nat.zero_le _, rfl, HKS, HHS, HIN'⟩
                case round =>
                  obtain ⟨j, ty, hj, rfl, HKJ, HRJ, HIJ⟩ := hrel
                  by_cases hlj : j < l3
                  · have e3 : decide ((j : Int) < (l3 : Int)) = true := decide_eq_true (by omega)
                    have e3' : decide (j < l3) = true := decide_eq_true hlj
                    obtain ⟨bz, oz, rfl, cj⟩ := (HR3.out.old (HB4.out.trans (HKJ.out.bel.mono HB4.out.size))).at hlj
                    obtain ⟨hlow3, -⟩ := low_eq z3 j
                    have hkl : k < ty.length := by rw [HIJ.out.len]; exact HKN.out.2.2
                    obtain ⟨hK1, hK2, h79⟩ := HIJ.out.block hd1 hd hp1 hp hkl
                    obtain ⟨q, hq, hmod3⟩ := Bk.modB (N := ty[k].blocks.length) (by omega) (low z3 j)
                    obtain ⟨s, hs⟩ : ∃ s, ty[k].blocks[q]? = some s := ⟨_, List.getElem?_eq_getElem hq⟩
                    have hs79 := h79 q s hs
                    obtain ⟨g', C', gb, Cb, cc, k1, k2, k3, k4, k5⟩ := HKJ.out.turned hkl hs (p := 5) (by omega)
                    have hv : bits BinOp.xor IntKind.u8 (((s[5]'(by omega)).toNat : Nat) : Int) (1 + (j : Int)) = (((byF (feB (s[5]'(by omega)) + feB (UInt8.ofNat (1 + j)))).toNat : Nat) : Int) := by
                      rw [byF_nat]
                      have e := xor_fi (feB (s[5]'(by omega))) (feB (UInt8.ofNat (1 + j)))
                      have e4 : fi (feB (UInt8.ofNat (1 + j))) = 1 + (j : Int) := by
                        show (((UInt8.ofNat (1 + j)).toNat : Nat) : Int) = _
                        rw [UInt8.toNat_ofNat']; omega
                      rw [e4] at e
                      exact e
                    have hnew := k5 (byF (feB (s[5]'(by omega)) + feB (UInt8.ofNat (1 + j))))
                    have hin2 := HIJ.out.turn hkl HKN.out.1 hs (byF (feB (s[5]'(by omega)) + feB (UInt8.ofNat (1 + j))))
                    obtain ⟨v8, hv8⟩ : ∃ v, v = byF (feB (s[5]'(by omega)) + feB (UInt8.ofNat (1 + j))) := ⟨_, rfl⟩
                    rw [← hv8] at hv hnew hin2
                    obtain ⟨ty2, hty2⟩ : ∃ l, l = ty.set k ⟨ty[k].label, ty[k].cap, ty[k].blocks.set q (s.set 5 v8), ty[k].lost⟩ := ⟨_, rfl⟩
                    rw [← hty2] at hnew hin2
                    obtain ⟨c5, hc5⟩ : ∃ c, c = s[5]'(by omega) := ⟨_, rfl⟩
                    rw [← hc5] at hv k4
                    have hne : hG ≠ gb := fun e => by
                      obtain ⟨c', hc', -, -⟩ := HRJ.out
                      rw [e, k3] at hc'
                      injection hc' with hc'
                      injection hc' with _ e9
                      exact absurd e9 (by decide)
                    have hfr : wr.frozen? ⟨gb, 5, none⟩ = false := heap_frozen k3
                    have HRN : Hid (RowV (wr.setCell ⟨gb, 5, none⟩ (.int .u8 ((v8.toNat : Nat) : Int))) 4 hG m (fun k => .bool (h9 k))) := Lib.hid (HRJ.out.kp (Kp.store wr gb 5 _) hne)
                    obtain ⟨K, hK⟩ : ∃ K, K = ty[k].blocks.length := ⟨_, rfl⟩
                    rw [← hK] at k1 hmod3 hq hK1 hK2
                    obtain ⟨S, hS⟩ : ∃ S, S = s.length := ⟨_, rfl⟩
                    rw [← hS] at k2 hs79
                    have hnz3 : ((K : Int) == 0) = false := by simp; omega
                    have a0 : (0 : Int) ≤ (j : Int) := by omega
                    have a1 : (j : Int) < (l3 : Int) := by omega
                    have a2 : (0 : Int) ≤ (q : Int) := by omega
                    have a3 : (q : Int) < (K : Int) := by omega
                    have a4 : (0 : Int) ≤ (k : Int) := by omega
                    have a5 : (k : Int) < (m : Int) := by have := HKN.out.2.1; omega
                    have a6 : (5 : Int) < (S : Int) := by omega
                    have a7 : 5 < S := by omega
                    have hwq : IntKind.i64.wrap (q : Int) = (q : Int) := IntWalk.i64_in _ (by omega)
                    have hwj : IntKind.i64.wrap (1 + (j : Int)) = 1 + (j : Int) := IntWalk.i64_in _ (by omega)
                    have hwu : IntKind.u8.wrap (1 + (j : Int)) = 1 + (j : Int) := by simp [IntKind.wrap, IntKind.bits, IntKind.signed]; omega
                    have HV := Lib.hid hv
                    have HNEW := Lib.hid hnew
                    have HIN2 := Lib.hid hin2
                    clear hv hnew hin2 hv8 hty2 hc5 hne k3 k5 hs h79 hkl hK hS
                    go_wp2
                    go_quiet (fail)
                    obtain ⟨wq, hwq⟩ : ∃ y, y = wr.drewN nq := ⟨_, rfl⟩
                    have k1' : wq.cell? ⟨gn, k * 4 + 2, none⟩ = some (.slice (some ⟨g', 0, none⟩) K C') := by rw [hwq]; exact k1
                    have k2' : wq.cell? ⟨g', q, none⟩ = some (.slice (some ⟨gb, 0, none⟩) S Cb) := by rw [hwq]; exact k2
                    have k4' : wq.cell? ⟨gb, 5, none⟩ = some (.int .u8 ((c5.toNat : Nat) : Int)) := by rw [hwq]; exact k4
                    have hfr' : wq.frozen? ⟨gb, 5, none⟩ = false := by rw [hwq]; exact hfr
                    obtain ⟨w9, hw9⟩ : ∃ y, y = (wq.setCell ⟨gb, 5, none⟩ (.int .u8 ((v8.toNat : Nat) : Int))).drew := ⟨_, rfl⟩
                    have HNEW9 : Hid (LdK w4 gn cn hG hG x0 ty2 w9) := Lib.hid (by rw [hw9, hwq]; exact HNEW.out.old ⟨rfl, rfl, rfl, Nat.le_refl _, fun _ _ => rfl⟩)
                    have HRN9 : Hid (RowV w9 4 hG m (fun k => .bool (h9 k))) := Lib.hid (by rw [hw9, hwq]; exact HRN.out.of_block rfl)
                    have HWQ := Lib.hid hwq
                    have HW9 := Lib.hid hw9
                    clear hwq hw9 k1 k2 k4 hfr cj
                    go_wp2
                    rw [← HWQ.out]
                    refine wp_region_still_tail 23 (by kernel_rfl) (by kernel_rfl) ?_
                    simp only [List.take_succ_cons, List.take_zero, List.drop_succ_cons, List.drop_zero]
                    repeat still_step
                    refine wpStill_nil ?_
                    change wpList _ _ _ _ _ wq.drew
                    go_wp2_with fail
                    rw [HV.out, ← HW9.out]
                    go_roundw
                    case rel => exact ⟨j + 1, ty2, by omega, by go_num, HNEW9, HRN9, HIN2⟩
                    case measure => simp [intOf]; omega
                  · have e3 : decide ((j : Int) < (l3 : Int)) = false := decide_eq_false (by omega)
                    have e3' : decide (j < l3) = false := decide_eq_false hlj
                    have HN' := Lib.hid hn'
                    clear hn'
                    go_wp2
                    go_roundw
                    case rel => exact ⟨i + 1, n', ty, h9, by omega, by go_num, congrArg (Value.int .i64) (by have h := HN'.out; omega), HKJ, HRJ, HIJ⟩
                    case measure => simp [intOf]; omega
        · have e2 : decide ((i : Int) < (l2 : Int)) = false := decide_eq_false (by omega)
          have e2' : decide (i < l2) = false := decide_eq_false hli
          obtain ⟨wv, rfl⟩ : ∃ y, y = wr := ⟨wr, rfl⟩
          have hBV : Below w4.heap.size w4 wv := HK.out.bel
          have HBV := Lib.hid hBV
          have HBW : Hid (Below w.heap.size w wv) := Lib.hid (HB4.out.trans (hBV.mono HB4.out.size))
          have HSV : Hid (wv.heap[B]? = some (sealObj 3 (d : Int) (d : Int) (p : Int) xA m xC)) := Lib.hid (below_obj hBV HS4.out)
          have hsubs := HI.out.subs hd1 hd hp1 hp
          have hshort := HI.out.short hd
          have hrows := HI.out.rows hd1 hd hp1 hp
          have hthere := fun no hno => HI.out.there hd1 hd hp1 hp (no := no) hno
          have HTAP : Hid (∀ (i : Nat), i < d → ∀ y, Below wv.heap.size wv y → Calls Tryz.prog 7 #[.slice (some ⟨gn, 0, none⟩) m cn, .agg #[.int .i64 3, .int .i64 (d : Int), .int .i64 (d : Int), .int .i64 (p : Int), .slice xA m xC], .int .i64 ((i : Int) + 1)] y fun e y' => Below y.heap.size y y' ∧ ∃ g2, e = .returned (.tuple #[.agg #[.int .i64 ((i : Int) + 1), .int .i64 20, .slice (some ⟨g2, 0, none⟩) (Ld.num z i) (St.len (Ld.data z d)), .bool false], .int .i64 0]) ∧ RdW y' (some ⟨g2, 0, none⟩) (Ld.T (Ld.num z i) i).blocks (fun _ => True)) := Lib.hid fun i hid y hy => by
            have hT := ldTapeG (z := z) (ts := ts) hd1 hd hp1 hp hsubs hshort (HK.out.rd.old hy) (HK4.out.sx.old (hBV.trans (hy.mono hBV.size))) HX.out ((i : Int) + 1) ⟨by omega, by omega⟩ (cap := cn) HM.out HM.out (.inr (.inl hthere))
            refine hT.mono ?_
            intro e y' hh
            obtain ⟨hb, hh⟩ := hh
            rcases hh with ⟨hno, -⟩ | ⟨-, -, g2, cap2, hcap, he, hrd⟩
            · rcases hno with hno | hno
              · rw [hrows] at hno; cases hno
              · have := hthere 0 (Ld.len_pos hd1); omega
            · have hti := Bk.tape_is (z := z) hd hid
              have hfi := HI.out.first hd hp hd1 hp1 hid
              have e1 : ((i : Int) + 1 - 1).toNat = i := by omega
              rw [e1, hti.1, hti.2] at hrd
              rw [e1, hti.1] at he
              rw [hcap hfi.1, hfi.2] at he
              exact ⟨hb, g2, he, hrd⟩
          have HBLK : Hid (∀ (i k : Nat), i < d → k < Ld.num z i → ∀ y, Below wv.heap.size wv y → Calls Tryz.prog 10 #[.slice (some ⟨gn, 0, none⟩) m cn, .agg #[.int .i64 3, .int .i64 (d : Int), .int .i64 (d : Int), .int .i64 (p : Int), .slice xA m xC], .int .i64 ((i : Int) + 1), .int .i64 (k : Int)] y fun e y' => Below y.heap.size y y' ∧ ∃ A9 C9, e = .returned (.tuple #[.slice A9 79 C9, .int .i64 0]) ∧ RdL y' A9 (Ld.b i k) (fun _ => True)) := Lib.hid fun i k hid hk y hy => by
            have hno : k < St.len (Ld.data z d) := Nat.lt_of_lt_of_le hk (Bk.num_len hid)
            have hT := ldBlockG (z := z) (ts := ts) hd1 hd hp1 hp hsubs hshort (HK.out.rd.old hy) (HK4.out.sx.old (hBV.trans (hy.mono hBV.size))) HX.out ((i : Int) + 1) (cap := cn) hno HM.out HM.out
            refine hT.mono ?_
            intro e y' hh
            obtain ⟨hb, hh⟩ := hh
            rcases hh with ⟨hno, -⟩ | ⟨-, hno, -⟩ | ⟨-, -, -, A9, C9, he, hrd⟩
            · exact absurd ⟨by omega, by omega⟩ hno
            · rcases hno with hno' | hno'
              · rw [hrows] at hno'; cases hno'
              · have := hthere k hno; omega
            · have e1 : ((i : Int) + 1 - 1).toNat = i := by omega
              rw [e1, Bk.block_is hd hid hk] at hrd
              exact ⟨hb, A9, C9, he, hrd⟩
          -- the tapes as they were laid
          have HLT : Hid (∀ (i : Nat), i < d → ∃ A' C', RdB wv A' (Ld.T (Ld.num z i) i).blocks (fun _ => True) ∧ ∀ y, Below wv.heap.size wv y → y.cell? ⟨g, i * 4, none⟩ = some (.int .i64 ((i : Int) + 1)) ∧ y.cell? ⟨g, i * 4 + 1, none⟩ = some (.int .i64 20) ∧ y.cell? ⟨g, i * 4 + 2, none⟩ = some (.slice A' (Ld.num z i) C') ∧ y.cell? ⟨g, i * 4 + 3, none⟩ = some (.bool false)) := Lib.hid fun i hid => by
            have hia : i < (Ld.all z d p).length := by rw [Ld.all_len]; omega
            obtain ⟨b', off', A', C', eA, -, c0, c1, c2, c3, hbb⟩ := (HK4.out.old hBV).rd.at_ hia
            injection eA with eA
            injection eA with eA1 eA2 _
            subst eA1 eA2
            have e := Bk.all_data (z := z) (p := p) hid
            rw [List.getElem?_eq_getElem hia] at e
            have e' := Option.some.inj e
            rw [Nat.zero_add, e'] at c0 c1 c2 c3
            rw [e'] at hbb
            have hnl : (Ld.T (Ld.num z i) i).blocks.length = Ld.num z i := by simp [Ld.T]
            rw [hnl] at c2
            exact ⟨A', C', hbb, fun y hy => ⟨(hy.cell (World.block_lt_of_cell? _ _ c0)).trans c0, (hy.cell (World.block_lt_of_cell? _ _ c1)).trans c1, (hy.cell (World.block_lt_of_cell? _ _ c2)).trans c2, (hy.cell (World.block_lt_of_cell? _ _ c3)).trans c3⟩⟩
          have HSEAL : Hid (∀ y, Below wv.heap.size wv y → y.cell? ⟨B, 0, none⟩ = some (.int .i64 3) ∧ y.cell? ⟨B, 1, none⟩ = some (.int .i64 (d : Int)) ∧ y.cell? ⟨B, 2, none⟩ = some (.int .i64 (d : Int)) ∧ y.cell? ⟨B, 3, none⟩ = some (.int .i64 (p : Int)) ∧ y.cell? ⟨B, 4, none⟩ = some (.slice xA m xC)) := Lib.hid fun y hy => seal5 (below_obj hy HSV.out)
          clear hBV hsubs hshort hrows hthere HK HRV HI HR HR2 HR3 HS4 HK4 HW4 HX
          go_wp2
          go_loopw [21] (fun vi wy => ∃ (a : Nat), a ≤ d ∧ vi = .int .i64 (a : Int) ∧ Hid (Below wv.heap.size wv wy)) (fun vi _ => d - (intOf vi).toNat)
          case atStart => exact ⟨0, Nat.zero_le _, rfl, Lib.hid (Below.refl _ _)⟩
          case round =>
            clear e2 e2' hli hi
            obtain ⟨a, ha, rfl, HBY⟩ := hrel
            by_cases hla : a < d
            · have e3 : decide ((a : Int) < (d : Int)) = true := decide_eq_true (by omega)
              have e3' : decide (a < d) = true := decide_eq_true hla
              have a0 : (0 : Int) ≤ (a : Int) := by omega
              have a1 : (a : Int) < (m : Int) := by omega
              have hwa : IntKind.i64.wrap ((a : Int) + 1) = (a : Int) + 1 := IntWalk.i64_in _ (by omega)
              have hCT := HTAP.out a hla wr HBY.out
              obtain ⟨A', C', hrdl, hl⟩ := HLT.out a hla
              have hnum := Ld.num_le z a
              have hCB := fun k hk y hy => HBLK.out a k hla hk y hy
              obtain ⟨bs, hbs⟩ : ∃ bs, bs = (Ld.T (Ld.num z a) a).blocks := ⟨_, rfl⟩
              have hbl : bs.length = Ld.num z a := by rw [hbs]; simp [Ld.T]
              have hbk : ∀ k (hk : k < bs.length), bs[k] = Ld.b a k := fun k hk => by subst hbs; simp [Ld.T]
              obtain ⟨N, hN⟩ : ∃ N, N = Ld.num z a := ⟨_, rfl⟩
              obtain ⟨LN, hLN⟩ : ∃ N, N = St.len (Ld.data z d) := ⟨_, rfl⟩
              rw [← hbs, ← hN, ← hLN] at hCT
              rw [← hbs] at hrdl
              rw [← hN] at hl hCB hnum hbl
              have HCT := Lib.hid hCT
              have HRDL := Lib.hid hrdl
              have HL := Lib.hid hl
              have HCB := Lib.hid hCB
              have HBL := Lib.hid hbl
              have HBK := Lib.hid hbk
              have HAD := Lib.hid hla
              obtain ⟨x0', x1', x2', x3', x4'⟩ := HSEAL.out wr HBY.out
              clear hCT hrdl hl hCB hbl hbk hbs hN hLN hla
              go_wp2_with fail
              refine HCT.out.mono ?_
              rintro e w5 ⟨hb5, g2, rfl, hrd2⟩
              obtain ⟨w6, hw6⟩ : ∃ y, y = w5.alloc (tapeObj ((a : Int) + 1) 20 (some ⟨g2, 0, none⟩) N LN false) := ⟨_, rfl⟩
              have hb6 : Below w5.heap.size w5 w6 := by rw [hw6]; exact (Below.refl _ _).alloc (Nat.le_refl _) _
              have hT6 : w6.heap[w5.heap.size]? = some (tapeObj ((a : Int) + 1) 20 (some ⟨g2, 0, none⟩) N LN false) := by rw [hw6]; exact Go.Deep.blk_alloc_new _ _
              have hb56 := HBY.out.trans ((hb5.trans (hb6.mono hb5.size)).mono HBY.out.size)
              have HB6 := Lib.hid hb56
              have hbd : Below w6.heap.size w6 w6.drew := (Below.refl _ _).drew
              have HRD2 := Lib.hid ((hrd2.old hb6).old hbd)
              have HRL2 := Lib.hid ((HRDL.out.old hb56).old hbd)
              obtain ⟨tB, htB⟩ : ∃ y, y = w5.heap.size := ⟨_, rfl⟩
              rw [← htB] at hT6
              have hS8 : Hid (∀ y, Below w6.heap.size w6 y → (y.cell? ⟨tB, 0, none⟩ = some (.int .i64 ((a : Int) + 1)) ∧ y.cell? ⟨tB, 1, none⟩ = some (.int .i64 20) ∧ y.cell? ⟨tB, 2, none⟩ = some (.slice (some ⟨g2, 0, none⟩) N LN) ∧ y.cell? ⟨tB, 3, none⟩ = some (.bool false) ∧ y.cell? ⟨g, a * 4, none⟩ = some (.int .i64 ((a : Int) + 1)) ∧ y.cell? ⟨g, a * 4 + 1, none⟩ = some (.int .i64 20) ∧ y.cell? ⟨g, a * 4 + 2, none⟩ = some (.slice A' N C') ∧ y.cell? ⟨g, a * 4 + 3, none⟩ = some (.bool false))) := Lib.hid fun y hy => by
                obtain ⟨t0, t1, t2, t3⟩ := tape4 (below_tape hy hT6)
                obtain ⟨u0, u1, u2, u3⟩ := HL.out y (hb56.trans (hy.mono hb56.size))
                exact ⟨t0, t1, t2, t3, u0, u1, u2, u3⟩
              have HD := Lib.hid hbd
              have HBD := Lib.hid (hb56.trans (hbd.mono hb56.size))
              have s0 := hS8.out _ hbd
              have HW6 := Lib.hid hw6
              unfold tapeObj at HW6
              have HTB := Lib.hid htB
              clear hb5 hrd2 hw6 hb6 hT6 hb56 hbd htB x0' x1' x2' x3' x4'
              go_wp2
              rw [← HW6.out, ← HTB.out]
              go_region_held3 (fun y => (y.cell? ⟨tB, 0, none⟩ = some (.int .i64 ((a : Int) + 1)) ∧ y.cell? ⟨tB, 1, none⟩ = some (.int .i64 20) ∧ y.cell? ⟨tB, 2, none⟩ = some (.slice (some ⟨g2, 0, none⟩) N LN) ∧ y.cell? ⟨tB, 3, none⟩ = some (.bool false) ∧ y.cell? ⟨g, a * 4, none⟩ = some (.int .i64 ((a : Int) + 1)) ∧ y.cell? ⟨g, a * 4 + 1, none⟩ = some (.int .i64 20) ∧ y.cell? ⟨g, a * 4 + 2, none⟩ = some (.slice A' N C') ∧ y.cell? ⟨g, a * 4 + 3, none⟩ = some (.bool false)))
                (first
                  | exact s0
                  | exact s1)
                (first
                  | (go_at_call 8; refine (num15 _ _).mono ?_; rintro e w' ⟨rfl, hw'⟩; subst hw')
                  | (go_at_call 9; refine (sameTapeW_yes ((a : Int) + 1) 20 false (some ⟨g2, 0, none⟩) LN bs _ A' C' _ N _ HBL.out (by omega) HRD2.out HRL2.out).mono ?_; rintro e wg ⟨rfl, hbg⟩; have s1 := hS8.out _ (HD.out.trans (hbg.mono HD.out.size)); have HBG := Lib.hid (HBD.out.trans (hbg.mono HBD.out.size)); clear hbg))
              all_goals
                clear s0 s1
                obtain ⟨wt, rfl⟩ : ∃ y, y = wg := ⟨wg, rfl⟩
                go_wp2
                go_loopw [24] (fun vk wy => ∃ k : Nat, k ≤ N ∧ vk = .int .i64 (k : Int) ∧ Hid (Below wv.heap.size wv wy)) (fun vk _ => N - (intOf vk).toNat)
                case atStart => exact ⟨0, Nat.zero_le _, rfl, HBG⟩
                case round =>
                  obtain ⟨k, hk, rfl, HBK2⟩ := hrel
                  obtain ⟨u0, u1, u2, u3⟩ := HL.out wr HBK2.out
                  by_cases hlk : k < N
                  · have e4 : decide ((k : Int) < (N : Int)) = true := decide_eq_true (by omega)
                    have e4' : decide (k < N) = true := decide_eq_true hlk
                    have k0 : (0 : Int) ≤ (k : Int) := by omega
                    have k1 : (k : Int) < (N : Int) := by omega
                    obtain ⟨x0', x1', x2', x3', x4'⟩ := HSEAL.out wr HBK2.out
                    have HCK := Lib.hid (HCB.out k hlk wr HBK2.out)
                    go_wp2_with fail
                    refine HCK.out.mono ?_
                    rintro e w8 ⟨hb8, A9, C9, rfl, hr9⟩
                    have HB8 := Lib.hid (HBK2.out.trans (hb8.mono HBK2.out.size))
                    have hlk' : k < bs.length := by rw [HBL.out]; exact hlk
                    obtain ⟨bb, ob, Ak, Ck, eAk, -, d1, -, -, hr8⟩ := (HRDL.out.old HB8.out).at_ hlk'
                    subst eAk
                    rw [HBK.out k hlk'] at d1 hr8
                    obtain ⟨s, hsb⟩ : ∃ s, s = Ld.b a k := ⟨_, rfl⟩
                    have hs79 : s.length = 79 := by rw [hsb]; exact Ld.b_len (by have := HAD.out; omega) (by omega)
                    rw [← hsb] at d1 hr8 hr9
                    rw [hs79] at d1
                    obtain ⟨v0, v1, v2, v3⟩ := HL.out w8 HB8.out
                    have s1 : ∀ q, (convert 34 9 (.slice A9 79 C9)).run Tryz.prog (w8.drewN q) = .ok (.string (tx s)) (w8.drewN q) := fun q => by
                      have h := RdL.str (w := w8.drewN q) (hr9.keep fun _ _ _ h => h) C9
                      rw [hs79] at h; exact h
                    have s2 : ∀ q, (convert 34 9 (.slice Ak 79 Ck)).run Tryz.prog (w8.drewN q) = .ok (.string (tx s)) (w8.drewN q) := fun q => by
                      have h := RdL.str (w := w8.drewN q) (hr8.keep fun _ _ _ h => h) Ck
                      rw [hs79] at h; exact h
                    clear hr8 hr9 hsb hs79 hb8 u0 u1 u2 u3 x0' x1' x2' x3' x4' hlk' hlk
                    go_wp2
                    go_quiet ((go_at_call 8; exact Calls.quiet_of_same (num15Q _ _)))
                    clear s1 s2 d1 v0 v1 v2 v3
                    go_wp2
                    go_roundw
                    case rel => exact ⟨k + 1, by omega, by go_num, Lib.hid ⟨HB8.out.os, HB8.out.tape, HB8.out.output, HB8.out.size, HB8.out.block⟩⟩
                    case measure => simp [intOf]; omega
                  · have e4 : decide ((k : Int) < (N : Int)) = false := decide_eq_false (by omega)
                    have e4' : decide (k < N) = false := decide_eq_false hlk
                    go_wp2
                    go_roundw
                    case rel => exact ⟨a + 1, by have := HAD.out; omega, by go_num, HBK2⟩
                    case measure => have := HAD.out; simp [intOf]; omega
            · have e3 : decide ((a : Int) < (d : Int)) = false := decide_eq_false (by omega)
              have e3' : decide (a < d) = false := decide_eq_false hla
              go_wp2
              go_ret
              exact ⟨rfl, HBW.out.trans (HBY.out.mono HBW.out.size)⟩
theorem mendBack_walk (A : Option Addr) (n C : Nat) (z : Nat → Int) (p : Int) (A2 : Option Addr) (n2 C2 : Nat) (z2 : Nat → Int) (A3 : Option Addr) (n3 C3 : Nat) (z3 : Nat → Int) (w : World) (hr : RdI w A n z) (hr2 : RdI w A2 n2 z2) (hr3 : RdI w A3 n3 z3) :
    Calls Tryz.prog 3 #[.slice A n C, .int .i64 p, .slice A2 n2 C2, .slice A3 n3 C3] w fun e w' => e = .returned (.bool true) ∧ Below w.heap.size w w' := by
  by_cases h : n < 1 ∨ 6 < n ∨ p < 1 ∨ 4 < p ∨ 10 < n2 ∨ 30 < n3
  · exact mendBack_no A n C p A2 n2 C2 A3 n3 C3 w h
  · obtain ⟨k, rfl⟩ : ∃ k : Nat, p = (k : Int) := ⟨p.toNat, by omega⟩
    exact mendBack_main A n C z k A2 n2 C2 z2 A3 n3 C3 z3 w (by omega) (by omega) (by omega) (by omega) (by omega) (by omega) hr hr2 hr3
end Go.Proofs.YtcokmmanajdioaaGreat
