/- What laid of the law of chapter 15 lays: tapes of data and their parity, and the seal. -/
import Derived.Test.YtcokmmanajdioaaGreatMba
import Derived.Test.YtcokmmanajdioaaGreatMbb
import Derived.Test.YtcokmmanajdioaaGreatMbe
import Derived.Test.YtcokmmanajdioaaGreatRefGrMk
import Derived.Test.YtcokmmanajdioaaGreatMag
import Derived.Deep.DeepFit
namespace Go.Proofs.YtcokmmanajdioaaGreat
open Go.RowKit
open Pt (Tx)

/-- tapes laid, their parity behind them, and the seal -/
def LaidA (z : Nat → Int) (n p : Nat) (w : World) (e : Ending) (w' : World) : Prop :=
  ∃ g cap M M2 x, e = .returned (.tuple #[.slice (some ⟨g, 0, none⟩) (n + p) cap, .agg #[.int .i64 x.s.number, .int .i64 x.s.index, .int .i64 x.s.data, .int .i64 x.s.parity, .slice x.A x.s.labels.length x.C], .bool true]) ∧
    x.s = Gr.sealOf (Ld.data z n) (Ld.bl p) 3 n ∧ LdK w g cap M M2 x (Ld.data z n ++ Gr.made (Ld.data z n) (Ld.bl p) 3) w'
theorem five_set {w : World} {g : Nat} {o : Obj} (h : w.heap[g]? = some o) (ho : ∃ a b c d A m C, o = sealObj a b c d A m C) (n x d p : Int) (A : Option Addr) (m C : Nat) :
    (((((w.setCell ⟨g, 0, none⟩ (.int .i64 n)).setCell ⟨g, 1, none⟩ (.int .i64 x)).setCell ⟨g, 2, none⟩ (.int .i64 d)).setCell ⟨g, 3, none⟩ (.int .i64 p)).setCell ⟨g, 4, none⟩ (.slice A m C)).heap[g]? = some (sealObj n x d p A m C) := by
  obtain ⟨a, b, c, e, A0, m0, C0, rfl⟩ := ho
  exact heap_set (heap_set (heap_set (heap_set (heap_set h (.int .i64 n)) (.int .i64 x)) (.int .i64 d)) (.int .i64 p)) (.slice A m C)
set_option maxRecDepth 100000 in
set_option maxHeartbeats 8000000 in
theorem laid_walk (A : Option Addr) (n C : Nat) (z : Nat → Int) (p : Nat) (w : World) (hn : n ≤ 6) (hn1 : 1 ≤ n) (hp : p ≤ 4) (hp1 : 1 ≤ p) (hr : RdI w A n z) :
    Calls Tryz.prog 5 #[.slice A n C, .int .i64 (p : Int)] w (LaidA z n p w) := by
  have HR := Lib.hid hr
  obtain ⟨w1, hw1⟩ : ∃ x, x = w.alloc (sealObj 0 0 0 0 none 0 0) := ⟨_, rfl⟩
  have hb1 : Below w.heap.size w w1 := by rw [hw1]; exact (Below.refl _ _).alloc (Nat.le_refl _) _
  have HB1 := Lib.hid hb1
  have HW1 := Lib.hid hw1
  unfold sealObj at HW1
  clear hr hw1 hb1
  go_enter Tryz.func5, Tryz.ntmps5
  go_wp2
  rw [← HW1.out]
  go_loopw [9, 7] (fun vi vl wr => ∃ i : Nat, i ≤ n ∧ vi = .int .i64 (i : Int) ∧ Hid (LdR w1 vl (Ld.data z i) wr)) (fun vi _ _ => n - (intOf vi).toNat)
  case atStart => exact ⟨0, Nat.zero_le _, rfl, Lib.hid (LdR.start w1)⟩
  case round =>
    obtain ⟨i, hi, rfl, HI⟩ := hrel
    by_cases hlt : i < n
    · have e0 : decide (i < n) = true := decide_eq_true hlt
      obtain ⟨wo, rfl⟩ : ∃ x, x = wr := ⟨wr, rfl⟩
      have s1 : IntKind.i64.wrap ((i : Int) + 1) = (i : Int) + 1 := IntWalk.i64_in _ (by omega)
      obtain ⟨wa, hwa⟩ : ∃ x, x = wo.alloc (tapeObj ((i : Int) + 1) 20 none 0 0 false) := ⟨_, rfl⟩
      have hba : Below wo.heap.size wo wa := by rw [hwa]; exact (Below.refl _ _).alloc (Nat.le_refl _) _
      have hTa : wa.heap[wo.heap.size]? = some (tapeObj ((i : Int) + 1) 20 none 0 0 false) := by rw [hwa]; exact Go.Deep.blk_alloc_new _ _
      have HRT0 : Hid (Rt wa wo.heap.size wo.heap.size (fun _ => True) ((i : Int) + 1) 20 ((List.range 0).map (Ld.b i))) := Lib.hid ⟨⟨_, [], hTa, TopB.nil _ _ _⟩, Nat.le_refl _⟩
      have HBA := Lib.hid hba
      have HWA := Lib.hid hwa
      unfold tapeObj at HWA
      obtain ⟨nb1, no1, hA, hz1⟩ := (HR.out.old (HB1.out.trans ((HI.out.bel.trans (hba.mono HI.out.bel.size)).mono HB1.out.size))).at hlt
      subst hA
      have hzl := World.block_lt_of_cell? _ _ hz1
      have HZB : Hid (nb1 < wo.heap.size) := Lib.hid (by
        obtain ⟨b', o', e', hc'⟩ := (HR.out.old (HB1.out.trans (HI.out.bel.mono HB1.out.size))).at hlt
        injection e' with e'
        injection e' with q1 q2
        rw [q1]
        exact World.block_lt_of_cell? _ _ hc')
      have HZO : Hid (wo.cell? ⟨nb1, no1 + i, none⟩ = some (.int .i64 (z i))) := Lib.hid ((hba.cell HZB.out).symm.trans hz1)
      clear hzl
      have l1 := Nm.lo_eq (z i)
      have l2 : IntKind.i64.wrap (1 + (Nm.lo (z i) : Int)) = 1 + (Nm.lo (z i) : Int) := IntWalk.i64_in _ (by have := Nm.lo_le (z i); omega)
      have hlo := Nm.lo_le (z i)
      obtain ⟨m, hm⟩ : ∃ m, m = Nm.lo (z i) := ⟨_, rfl⟩
      rw [← hm] at l1 l2 hlo
      have HM := Lib.hid hm
      have i0 : (0 : Int) ≤ (i : Int) := by omega
      have i1 : (i : Int) < (n : Int) := by omega
      clear hba hTa hwa hz1 hm
      go_wp2
      rw [← HWA.out]
      go_loopw [11] (fun vk wr => ∃ k : Nat, k ≤ 1 + m ∧ vk = .int .i64 (k : Int) ∧ Hid (Rt wr wo.heap.size wo.heap.size (fun _ => True) ((i : Int) + 1) 20 ((List.range k).map (Ld.b i))) ∧ Hid (Below wo.heap.size wo wr)) (fun vk _ => 1 + m - (intOf vk).toNat)
      case atStart => exact ⟨0, Nat.zero_le _, rfl, HRT0, HBA⟩
      case round =>
        obtain ⟨k, hk, rfl, HRT, HBW⟩ := hrel
        have hzc : wr.cell? ⟨nb1, no1 + i, none⟩ = some (.int .i64 (z i)) := (HBW.out.cell HZB.out).trans HZO.out
        by_cases hlk : k < 1 + m
        · have e1 : decide ((k : Int) < 1 + (m : Int)) = true := decide_eq_true (by omega)
          obtain ⟨wp, hwp⟩ : ∃ wp, wp = wr.alloc (.cells #[.int .u8 (i : Int), .int .u8 (k : Int), .int .u8 7] 5) := ⟨_, rfl⟩
          have hbp : Below wr.heap.size wr wp := by rw [hwp]; exact (Below.refl _ _).alloc (Nat.le_refl _) _
          have hD1 : wp.heap[wr.heap.size]? = some (.cells #[.int .u8 (i : Int), .int .u8 (k : Int), .int .u8 7] 5 (0, 0)) := by rw [hwp]; exact Go.Deep.blk_alloc_new _ _
          have hrd : RdL wp (some ⟨wr.heap.size, 0, none⟩) [UInt8.ofNat i, UInt8.ofNat k, 7] (fun _ => True) := fun _ => ⟨_, _, rfl, trivial, fun j hj => by
            have hi' : (UInt8.ofNat i).toNat = i := by rw [UInt8.toNat_ofNat']; omega
            have hk' : (UInt8.ofNat k).toNat = k := by rw [UInt8.toNat_ofNat']; omega
            rw [heap_cell hD1]
            have : j = 0 ∨ j = 1 ∨ j = 2 := by simp at hj; omega
            rcases this with rfl | rfl | rfl
            · simp [hi']
            · simp [hk']
            · rfl⟩
          have hput := refPut_own 3 ((i : Int) + 1) (k : Int) (some ⟨wr.heap.size, 0, none⟩) [UInt8.ofNat i, UInt8.ofNat k, 7] 3 3 _ wp rfl (fun h => by cases h) hrd
          unfold PutO at hput
          rw [show Fm.err ⟨3, (i : Int) + 1, (k : Int), [UInt8.ofNat i, UInt8.ofNat k, 7]⟩ = 0 from Fm.err_ok (Ld.ok (by omega) (by omega)), show Fm.put ⟨3, (i : Int) + 1, (k : Int), [UInt8.ofNat i, UInt8.ofNat k, 7]⟩ = Ld.b i k from Fm.put_ok (Ld.ok (by omega) (by omega))] at hput
          have HP := Lib.hid hput
          obtain ⟨v3, us3, hM3', hT3⟩ := HRT.out.ex
          have hsz3 : us3.length = k := by rw [hT3.len]; simp
          have HST := Lib.hid (fun (w2 : World) (B2 : Nat) (A2 : Option Addr) (n2' C2 : Nat) (h : Below wr.heap.size wr w2) (hB2 : wr.heap.size ≤ B2) (ho : OwnL w2 B2 (.slice A2 n2' C2) (Ld.b i k)) => Rt.step (G := fun _ => True) (lab := (i : Int) + 1) (cap := 20) hM3' hT3 (Nat.le_refl _) HBW.out.size h ho hB2 (fun _ _ => trivial) (by rw [hsz3]; omega) (k + 1) (by rw [hsz3]))
          have HBP := Lib.hid hbp
          have HM3 := Lib.hid hM3'
          have HWP := Lib.hid hwp
          have HTK : Hid ((List.range (k + 1)).map (Ld.b i) = (List.range k).map (Ld.b i) ++ [Ld.b i k]) := Lib.hid (by rw [List.range_succ, List.map_append]; rfl)
          have k0 : (0 : Int) ≤ (k : Int) := by omega
          clear hput hwp hbp hD1 hrd hM3' hT3 hsz3
          go_wp2_with fail
          rw [← HWP.out]
          refine HP.out.mono ?_
          rintro e w3 ⟨A3, n3, C3, rfl, hO3, hb3⟩
          have hb03 : Below wr.heap.size wr w3 := HBP.out.trans (hb3.mono HBP.out.size)
          obtain ⟨g4, c4, w4, hr4, hM4, hrt4, hb4, hb4'⟩ := HST.out w3 wp.heap.size A3 n3 C3 hb03 HBP.out.size hO3
          have y3 : w3.cell? ⟨wo.heap.size, 2, none⟩ = some v3 := heap_cell (below_obj hb03 HM3.out)
          have y4 : w4.cell? ⟨wo.heap.size, 2, none⟩ = some v3 := heap_cell hM4
          have f4 : w4.frozen? ⟨wo.heap.size, 2, none⟩ = false := heap_frozen hM4
          rw [← HTK.out] at hrt4
          have HRT4 := Lib.hid hrt4
          have HB4 := Lib.hid (HBW.out.trans hb4')
          clear hrt4 hb4 hb4' hO3 hb3 hb03 hM4 hzc
          go_wp2_with (at_builtin; refine Lib.wpList_append_run _ rfl _ _ _ _ rfl _ _ rfl rfl _ _ (hr4 _) ?_)
          go_roundw
          case rel => exact ⟨k + 1, by omega, by go_num, HRT4, HB4⟩
          case measure => simp [intOf]; omega
        · have e1 : decide ((k : Int) < 1 + (m : Int)) = false := decide_eq_false (by omega)
          have hkm : k = Ld.num z i := by unfold Ld.num; rw [← HM.out]; omega
          obtain ⟨v3, us3, hM3, hT3⟩ := HRT.out.ex
          rw [hkm] at hT3
          obtain ⟨A3, C3, hv3, hle3⟩ := hT3.val
          subst hv3
          obtain ⟨tvs, L, hown, hrow⟩ := HI.out.ex
          have htl : tvs.length = i := by rw [hrow.len, Ld.data_len]
          have hlen3 : ((List.range (Ld.num z i)).map (Ld.b i)).length = Ld.num z i := by simp
          have hus3 : us3.length = Ld.num z i := by rw [hT3.len, hlen3]
          obtain ⟨N, hN⟩ : ∃ N, N = ((List.range (Ld.num z i)).map (Ld.b i)).length := ⟨_, rfl⟩
          rw [← hN] at hM3 hT3
          obtain ⟨y0, y1, y2, y3⟩ := tape4 (show wr.heap[wo.heap.size]? = some (tapeObj ((i : Int) + 1) 20 A3 N C3 false) from hM3)
          have HNEXT : Hid (∀ (w5 : World) (v' : Value), (wr.alloc (.cells #[.int .i64 ((i : Int) + 1), .int .i64 20, .slice A3 N C3, .bool false] 31)).grownBy w5 u7.ownBlock → encT.Own w5 w1.heap.size 31 v' (tvs ++ [⟨(i : Int) + 1, 20, A3, N, C3, false⟩]) → LdR w1 v' (Ld.data z (i + 1)) w5) := Lib.hid fun w5 v' hg ho => by
            rw [Ld.data_succ]
            exact LdR.next HI.out hown hrow HBW.out hN hT3 hg ho
          have HOWN := Lib.hid (hown.old (HBW.out.alloc HBW.out.size (.cells #[.int .i64 ((i : Int) + 1), .int .i64 20, .slice A3 N C3, .bool false] 31)))
          have HMLB : Hid (tvs.length + 1 ≤ maxLen ∧ (tvs.length + 1) * 48 ≤ 140737488355328) := Lib.hid ⟨by rw [htl]; unfold maxLen; omega, by rw [htl]; omega⟩
          have HSZB : Hid (w1.heap.size ≤ (wr.alloc (.cells #[.int .i64 ((i : Int) + 1), .int .i64 20, .slice A3 N C3, .bool false] 31)).heap.size) := Lib.hid (by have := HI.out.bel.size; have := HBW.out.size; simp; omega)
          clear hle3 hM3 hT3 hown hrow htl hlen3 hus3 hN hkm hzc
          have hzc : wr.cell? ⟨nb1, no1 + i, none⟩ = some (.int .i64 (z i)) := (HBW.out.cell HZB.out).trans HZO.out
          go_wp2_with (at_builtin; refine wpList_append_st' encT _ rfl _ _ _ rfl w1.heap.size 31 _ 48 Tryz.underlying24 infoTape rfl _ tvs rfl HOWN.out ⟨wr.heap.size, 0, none⟩ 1 1 [⟨(i : Int) + 1, 20, A3, N, C3, false⟩] rfl rfl (newCells wr [.int .i64 ((i : Int) + 1), .int .i64 20, .slice A3 N C3, .bool false] _) HMLB.out.1 HMLB.out.2 HSZB.out ?_; intro v' w5 ho5 hg5)
          have HN := Lib.hid (HNEXT.out w5 v' hg5 ho5)
          clear ho5 hg5
          go_roundw
          case rel => exact ⟨i + 1, by omega, by go_num, HN⟩
          case measure => simp [intOf]; omega
    · have e0 : decide (i < n) = false := decide_eq_false hlt
      have hin : n = i := by omega
      clear e0 hlt hi
      subst hin
      obtain ⟨wb, rfl⟩ : ∃ x, x = wr := ⟨wr, rfl⟩
      have s2 : ∀ j : Nat, j ≤ 4 → IntKind.i64.wrap (100 + (j : Int)) = 100 + (j : Int) := fun j hj => IntWalk.i64_in _ (by omega)
      go_wp2
      go_loopw [14, 8] (fun vi vl wr => ∃ j : Nat, j ≤ p ∧ vi = .int .i64 (j : Int) ∧ Hid (LdR wb vl (Ld.bl j) wr)) (fun vi _ _ => p - (intOf vi).toNat)
      case atStart => exact ⟨0, Nat.zero_le _, rfl, Lib.hid (LdR.start wb)⟩
      case round =>
        obtain ⟨j, hj, rfl, HJ⟩ := hrel
        by_cases hlj : j < p
        · have e1 : decide (j < p) = true := decide_eq_true hlj
          have e1' : decide ((j : Int) < (p : Int)) = true := decide_eq_true (by omega)
          have s3 := s2 j (by omega)
          obtain ⟨tvs, L, hown, hrow⟩ := HJ.out.ex
          have htl : tvs.length = j := by rw [hrow.len, Ld.bl_len]
          have HNEXT : Hid (∀ (w5 : World) (v' : Value), (wr.alloc (.cells #[.int .i64 (100 + (j : Int)), .int .i64 20, .slice none 0 0, .bool false] 31)).grownBy w5 u8.ownBlock → encT.Own w5 wb.heap.size 31 v' (tvs ++ [⟨100 + (j : Int), 20, none, 0, 0, false⟩]) → LdR wb v' (Ld.bl (j + 1)) w5) := Lib.hid fun w5 v' hg ho => by
            rw [Ld.bl_succ]
            exact LdR.next (bs := []) (G := fun _ => True) HJ.out hown hrow (Below.refl _ _) rfl (TopB.nil _ _ _) hg ho
          have HOWN := Lib.hid (hown.old ((Below.refl wr.heap.size wr).alloc (Nat.le_refl _) (.cells #[.int .i64 (100 + (j : Int)), .int .i64 20, .slice none 0 0, .bool false] 31)))
          have HMLB : Hid (tvs.length + 1 ≤ maxLen ∧ (tvs.length + 1) * 48 ≤ 140737488355328) := Lib.hid ⟨by rw [htl]; unfold maxLen; omega, by rw [htl]; omega⟩
          have HSZB : Hid (wb.heap.size ≤ (wr.alloc (.cells #[.int .i64 (100 + (j : Int)), .int .i64 20, .slice none 0 0, .bool false] 31)).heap.size) := Lib.hid (by have := HJ.out.bel.size; simp; omega)
          clear hown hrow htl
          go_wp2_with (at_builtin; refine wpList_append_st' encT _ rfl _ _ _ rfl wb.heap.size 31 _ 48 Tryz.underlying24 infoTape rfl _ tvs rfl HOWN.out ⟨wr.heap.size, 0, none⟩ 1 1 [⟨100 + (j : Int), 20, none, 0, 0, false⟩] rfl rfl (newCells wr [.int .i64 (100 + (j : Int)), .int .i64 20, .slice none 0 0, .bool false] _) HMLB.out.1 HMLB.out.2 HSZB.out ?_; intro v' w5 ho5 hg5)
          have HN := Lib.hid (HNEXT.out w5 v' hg5 ho5)
          clear ho5 hg5
          go_roundw
          case rel => exact ⟨j + 1, by omega, by go_num, HN⟩
          case measure => simp [intOf]; omega
        · have e1 : decide (j < p) = false := decide_eq_false hlj
          have e1' : decide ((j : Int) < (p : Int)) = false := decide_eq_false (by omega)
          have hjp : j = p := by omega
          have HJD := HJ.out
          rw [hjp] at HJD
          have hI2 := HI.out.old HJD.bel
          obtain ⟨A4, C4, hv4, hr4⟩ := hI2.rd
          obtain ⟨A5, C5, hv5, hr5⟩ := HJD.rd
          rw [Ld.data_len] at hv4
          rw [Ld.bl_len] at hv5
          subst hv4 hv5
          have hmk := refMake_walk A4 (Ld.data z n) C4 A5 (Ld.bl p) C5 (fun _ => True) 3 n p wr (Ld.data_len z n).symm (Ld.bl_len p).symm (by omega) (by omega) (fun t ht => by
            obtain ⟨i, hi, rfl⟩ := List.mem_map.1 ht
            have h1 := (Ld.num_le z i).2
            have h2 := List.mem_range.1 hi
            refine ⟨by simp [Ld.T]; omega, fun s hs => ?_⟩
            obtain ⟨k, hk, rfl⟩ := List.mem_map.1 hs
            have h3 := List.mem_range.1 hk
            rw [Ld.b_len (by omega) (by omega)]; omega) hr4 hr5
          unfold MakeS at hmk
          simp only [if_pos (Ld.mk (z := z) hn1 hn hp1 hp)] at hmk
          have HMK := Lib.hid hmk
          have HI2 := Lib.hid hI2
          clear hmk hr4 hr5 hI2 HJD
          go_wp2_with fail
          refine HMK.out.mono ?_
          rintro e w6 ⟨v6, tvs6, L6, rfl, ho6, hr6, hb6⟩
          obtain ⟨A6, C6, hv6, -, -, -, hrd6⟩ := ho6.rd
          have hrt6 := hr6.rdT (G := fun _ => True) (hrd6.mono fun _ _ => trivial) fun _ _ => trivial
          have hml : (Gr.made (Ld.data z n) (Ld.bl p) 3).length = p := by rw [Gr.made_len, Ld.bl_len]
          rw [hr6.len, hml] at hv6
          have e17 : ((p : Int) == 0) = false := by simp; omega
          have hp0 : 0 < p := hp1
          have hle0 : decide (0 < p) = true := decide_eq_true hp1
          obtain ⟨b6, o6, A', C', hA6, -, c0, c1, c2, c3, hbb⟩ := hrt6.at_ (i := 0) (by rw [hml]; exact hp1)
          rw [Nat.zero_mul, Nat.add_zero] at c0 c1 c2 c3
          subst hA6
          subst hv6
          have HO6 := Lib.hid ho6
          have HR6 := Lib.hid hr6
          have HB6 := Lib.hid hb6
          have HBB := Lib.hid hbb
          clear ho6 hr6 hb6 hbb hrd6 hrt6
          obtain ⟨⟨lab, cap, bs, lost⟩, ht⟩ : ∃ t, t = (Gr.made (Ld.data z n) (Ld.bl p) 3)[0]'(by rw [hml]; exact hp1) := ⟨_, rfl⟩
          rw [← ht] at c0 c1 c2 c3
          dsimp only at c0 c1 c2 c3
          have hsz := Ld.made_short (blank := Ld.bl p) (number := 3) (Nat.le_trans (Ld.len_le (z := z) (d := n)) (by omega)) _ (List.getElem_mem (by rw [hml]; exact hp1 : 0 < (Gr.made (Ld.data z n) (Ld.bl p) 3).length))
          have hsl := Ld.sealed_made (z := z) hn1 hn hp1 hp (i := 0) (by rw [hml]; exact hp1)
          have hbb' := HBB.out
          rw [← ht] at hsz hsl hbb'
          dsimp only at hsz hbb'
          have hseal := refSealed_any lab cap bs A' bs.length C' (fun _ => True) lost w6 rfl hsz.1 hbb' (fun s hs => Nat.le_trans (hsz.2 s hs) (by omega))
          rw [hsl] at hseal
          have HSEAL := Lib.hid hseal
          clear HBB hbb' hsz hsl hseal ht
          go_wp2_with fail
          refine HSEAL.out.mono ?_
          rintro e w7 ⟨sx, rfl, hsx, hxo, hb7⟩
          have HSX := Lib.hid hsx
          have HXO := Lib.hid hxo
          have HB7 := Lib.hid hb7
          clear hsx hxo hb7
          obtain ⟨w8, hw8⟩ : ∃ w8, w8 = w7.alloc (sealObj sx.s.number sx.s.index sx.s.data sx.s.parity sx.A sx.s.labels.length sx.C) := ⟨_, rfl⟩
          have hb8 : Below w7.heap.size w7 w8 := by rw [hw8]; exact (Below.refl _ _).alloc (Nat.le_refl _) _
          have hT8 : w8.heap[w7.heap.size]? = some (sealObj sx.s.number sx.s.index sx.s.data sx.s.parity sx.A sx.s.labels.length sx.C) := by rw [hw8]; exact Go.Deep.blk_alloc_new _ _
          have HW8 := Lib.hid hw8
          unfold sealObj at HW8
          have ht6 : tvs6.length = p := by rw [HR6.out.len, hml]
          obtain ⟨g6, C6', hv6, hg6, hnews⟩ := HO6.out.news (by rw [ht6]; exact hp1)
          have e9 : (⟨b6, o6, none⟩ : Addr) = ⟨g6, 0, none⟩ := by
            injection hv6 with e _ _
            injection e
          clear hv6
          injection e9 with e1 e2 _
          subst e1 e2
          have hs67 := HB7.out.size
          have hs78 := hb8.size
          have hs6 := HB6.out.size
          have hb68 : Below w6.heap.size w6 w8.drew := (HB7.out.trans (hb8.mono hs67)).drew
          obtain ⟨g, cap, zz, hrun, hld, hbz, hgr, hloc⟩ := HI2.out.app2 tvs6 (Gr.made (Ld.data z n) (Ld.bl p) 3) (y := w8.drew) (M := w6.heap.size) (HR6.out.kp (S := fun _ => False) (Kp.of_below hb68) (fun _ _ hs => hs.elim) (fun _ _ hs => hs.elim)) (by rw [ht6]; exact hp1) (HB6.out.trans (hb68.mono hs6)) ⟨b6, 0, none⟩ p C6 (n + p) ht6.symm (fun j u hu => (hb68.cell (World.block_lt_of_cell? _ _ (hnews j u hu))).trans (hnews j u hu)) (by rw [Ld.data_len, ht6]; omega) (by rw [Ld.data_len, ht6])
          have hTz : zz.heap[w7.heap.size]? = some (sealObj sx.s.number sx.s.index sx.s.data sx.s.parity sx.A sx.s.labels.length sx.C) := by
            obtain ⟨tvs9, L9, ho9, -⟩ := HI2.out.ex
            exact (hgr.block _ (by show w7.heap.size < w8.heap.size; exact heap_lt hT8) (fun e => by
              obtain ⟨c, hc⟩ := ho9.block _ e.symm
              have := heap_lt hc
              omega)).trans hT8
          have hR1 : w1.heap[w.heap.size]? = some (sealObj 0 0 0 0 none 0 0) := by rw [HW1.out]; exact Go.Deep.blk_alloc_new _ _
          have hRz : zz.heap[w.heap.size]? = some (sealObj 0 0 0 0 none 0 0) := below_obj hbz hR1
          obtain ⟨r0, r1, r2, r3, r4⟩ := seal5 hRz
          obtain ⟨f0, f1, f2, f3, f4⟩ := seal_free hRz
          have HBZ := Lib.hid hbz
          have HTZ := Lib.hid hTz
          have HT8 := Lib.hid hT8
          have HRZ := Lib.hid hRz
          have HRUN := Lib.hid hrun
          have hlen9 : (Ld.data z n ++ Gr.made (Ld.data z n) (Ld.bl p) 3).length = n + p := by rw [List.length_append, Ld.data_len, hml]
          have hxz : sx.Ok zz (fun b => w6.heap.size ≤ b ∧ b < w7.heap.size) := ((HXO.out.in_.old hb8.drew).kp (S := fun k => (Value.slice A4 n C4).ownBlock = some k) ⟨hgr.os, hgr.tape, hgr.output, hgr.size, fun k hk hs => hgr.block k hk fun e => hs e.symm⟩ (fun b hb hs => by
            obtain ⟨tvs9, L9, ho9, -⟩ := HI2.out.ex
            have := (ho9.lt b hs).2
            have := hb.1
            omega))
          have HLK : Hid (LdK w g cap w6.heap.size w7.heap.size sx (Ld.data z n ++ Gr.made (Ld.data z n) (Ld.bl p) 3) zz) := Lib.hid (by
            obtain ⟨tvs9, L9, ho9, hr9⟩ := hld
            obtain ⟨tvs8, L8, ho8, -⟩ := HI2.out.ex
            refine ⟨⟨tvs9, L9, by rw [hlen9]; exact ho9.down HB1.out.size, hr9.down HB1.out.size⟩, hxz, ?_, HB1.out.trans (hbz.mono HB1.out.size), Nat.le_trans HB1.out.size (ho9.lt g rfl).1⟩
            rcases hloc with hloc | hloc
            · have := (ho8.lt g hloc).2
              omega
            · have h1 : w8.drew.heap.size = w8.heap.size := rfl
              omega)
          have HNE : Hid (¬ w7.heap.size = w.heap.size) := Lib.hid (by
            have a1 := heap_lt hR1
            have a2 := HI.out.bel.size
            have a3 := HJ.out.bel.size
            omega)
          have HSI : Hid (sx.s = Gr.sealOf (Ld.data z n) (Ld.bl p) 3 n) := Lib.hid (by rw [HSX.out]; rfl)
          have HW1L : Hid (w.heap.size < w6.heap.size) := Lib.hid (by
            have a1 := heap_lt hR1
            have a2 := HI.out.bel.size
            have a3 := HJ.out.bel.size
            omega)
          clear hw8 hb8 hnews hb68 hgr hbz hld hTz hT8 hR1 hRz hrun ht6 hs67 hs78 hs6 hml
          go_wp2_with fail
          rw [← HW8.out]
          refine wp_region_X (fun y => y.heap[w7.heap.size]? = some (sealObj sx.s.number sx.s.index sx.s.data sx.s.parity sx.A sx.s.labels.length sx.C)) 6 (by kernel_rfl) HT8.out (fun hHeld => ?_)
          refine wpAnyX_slot (i := 0) (v := ?va0) rfl rfl (by kernel_rfl) (by kernel_rfl) (by kernel_rfl) (by kernel_rfl) (fun _ _ _ h => h) (by rfl) (fun y hSw => ?hya0) hHeld ?resta0
          case hya0 => go_simp; with_reducible rfl
          simp only [Act.put, List.setIfInBounds_toArray, List.set_cons_zero, List.set_cons_succ]
          refine wpAnyX_slot (i := 1) (v := ?va1) rfl rfl (by kernel_rfl) (by kernel_rfl) (by kernel_rfl) (by kernel_rfl) (fun _ _ _ h => h) (by rfl) (fun y hSw => ?hya1) hHeld ?resta1
          case hya1 => go_simp; with_reducible rfl
          simp only [Act.put, List.setIfInBounds_toArray, List.set_cons_zero, List.set_cons_succ]
          refine wpAnyX_slot (i := 3) (v := ?va3) rfl rfl (by kernel_rfl) (by kernel_rfl) (by kernel_rfl) (by kernel_rfl) (fun _ _ _ h => h) (by rfl) (fun y hSw => ?hya3) hHeld ?resta3
          case hya3 => (obtain ⟨q0, q1, q2, q3, q4⟩ := seal5 hSw); go_simp; with_reducible rfl
          simp only [Act.put, List.setIfInBounds_toArray, List.set_cons_zero, List.set_cons_succ]
          refine wpAnyX_next (i := 2) (by kernel_rfl) rfl (fun KK hKK => ?_)
          refine step_append_eq (by rfl) _ _ _ _ (by rfl) _ _ _ _ HRUN.out (by rfl) (by rfl) ?_
          refine hKK.out _ _ HTZ.out (fun hHeld => ?_)
          clear hKK KK
          have HS5 : Hid ((((((zz.setCell ⟨w.heap.size, 0, none⟩ (.int .i64 sx.s.number)).setCell ⟨w.heap.size, 1, none⟩ (.int .i64 sx.s.index)).setCell ⟨w.heap.size, 2, none⟩ (.int .i64 sx.s.data)).setCell ⟨w.heap.size, 3, none⟩ (.int .i64 sx.s.parity)).setCell ⟨w.heap.size, 4, none⟩ (.slice sx.A sx.s.labels.length sx.C)).heap[w7.heap.size]? = some (sealObj sx.s.number sx.s.index sx.s.data sx.s.parity sx.A sx.s.labels.length sx.C)) := Lib.hid (((SitsX.kp_set zz w.heap.size 0 1 2 3 4 _ _ _ _ _).block _ (heap_lt HTZ.out) HNE.out).trans HTZ.out)
          have HLK5 : Hid (LdK w g cap w6.heap.size w7.heap.size sx (Ld.data z n ++ Gr.made (Ld.data z n) (Ld.bl p) 3) (((((zz.setCell ⟨w.heap.size, 0, none⟩ (.int .i64 sx.s.number)).setCell ⟨w.heap.size, 1, none⟩ (.int .i64 sx.s.index)).setCell ⟨w.heap.size, 2, none⟩ (.int .i64 sx.s.data)).setCell ⟨w.heap.size, 3, none⟩ (.int .i64 sx.s.parity)).setCell ⟨w.heap.size, 4, none⟩ (.slice sx.A sx.s.labels.length sx.C))) := Lib.hid (HLK.out.beside (SitsX.kp_set zz w.heap.size 0 1 2 3 4 _ _ _ _ _) (Nat.le_refl _) HW1L.out ⟨_, HRZ.out⟩)
          refine wpAnyX_slot (i := 4) (v := ?vb4) rfl rfl (by kernel_rfl) (by kernel_rfl) (by kernel_rfl) (by kernel_rfl) (fun _ _ _ h => h) (by rfl) (fun y hSw => ?hyb4) hHeld ?restb4
          case hyb4 => go_simp; with_reducible rfl
          simp only [Act.put, List.setIfInBounds_toArray]
          obtain ⟨q0, q1, q2, q3, q4⟩ := seal5 HTZ.out
          refine wpAnyX_next (i := 5) (by kernel_rfl) rfl (fun KK hKK => ?_)
          go_simp
          refine hKK.out _ _ HS5.out (fun hHeld => ?_)
          clear hKK KK
          refine wpAnyX_last (by kernel_rfl) rfl (by kernel_rfl) (fun KK hKK => ?_)
          go_simp
          refine hKK.out _ _ ?_
          clear hKK KK
          obtain ⟨z0, z1, z2, z3, z4⟩ := seal5 (five_set HRZ.out ⟨_, _, _, _, _, _, _, rfl⟩ sx.s.number sx.s.index sx.s.data sx.s.parity sx.A sx.s.labels.length sx.C)
          go_wp2
          refine bodyPost_ret (v := .tuple #[.slice (some ⟨g, 0, none⟩) (n + p) cap, .agg #[.int .i64 sx.s.number, .int .i64 sx.s.index, .int .i64 sx.s.data, .int .i64 sx.s.parity, .slice sx.A sx.s.labels.length sx.C], .bool true]) (by simp [results, Tryz.results5, go_sem, z0, z1, z2, z3, z4]) rfl ?_
          exact ⟨g, cap, w6.heap.size, w7.heap.size, sx, rfl, HSI.out, HLK5.out⟩
end Go.Proofs.YtcokmmanajdioaaGreat
