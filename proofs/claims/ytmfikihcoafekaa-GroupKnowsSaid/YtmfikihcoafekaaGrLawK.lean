/- GroupKnows: a group is told as long as one of its parity tapes is whole. -/
import Derived.Test.YtmfikihcoafekaaMaz
import Derived.Test.YtmfikihcoafekaaMba
import Derived.Test.YtmfikihcoafekaaMaf
import Derived.Test.YtmfikihcoafekaaRefFmP
import Derived.Test.YtmfikihcoafekaaMay
import Derived.StillTailTactics
namespace Go.Proofs.Ytmfikihcoafekaa
open Go.RowKit Mx
open Pt (Tx)

theorem infoBoolK : (Try.prog.info? 4).map (fun i => (i.zero, i.size, i.bytes)) = some (some (.bool false), 1, 1) := by kernel_rfl
theorem rd_fiveK {w : World} {A : Option Addr} {xs : List Sx} {G : Nat → Prop} (h : encX.Rd w A xs G) {i : Nat} (hi : i < xs.length) : ∃ b off, A = some ⟨b, off, none⟩ ∧ w.cell? ⟨b, off + i * 5, none⟩ = some (.int .i64 xs[i].s.number) := by
  obtain ⟨b, off, e, -, hc⟩ := h.at_ hi
  exact ⟨b, off, e, hc 0 _ rfl⟩
set_option maxRecDepth 100000 in
set_option maxHeartbeats 2000000 in
theorem knows_no (p : Int) (A1 : Option Addr) (n1 C1 : Nat) (A2 : Option Addr) (n2 C2 : Nat) (w : World) (h : p < 1 ∨ 6 < p ∨ 10 < n1 ∨ 10 < n2) :
    Calls Try.prog 3 #[.int .i64 p, .slice A1 n1 C1, .slice A2 n2 C2] w fun e w' => e = .returned (.bool true) ∧ Below w.heap.size w w' := by
  have hq : decide (p < 1) = true ∨ (decide (p < 1) = false ∧ (decide (6 < p) = true ∨ (decide (6 < p) = false ∧ ((decide (10 < n1) = true ∧ decide (10 < (n1 : Int)) = true) ∨ ((decide (10 < n1) = false ∧ decide (10 < (n1 : Int)) = false) ∧ (decide (10 < n2) = true ∧ decide (10 < (n2 : Int)) = true)))))) := by
    simp only [decide_eq_true_eq, decide_eq_false_iff_not]; omega
  clear h
  rcases hq with q1 | ⟨q1, q2 | ⟨q2, ⟨q3, q3'⟩ | ⟨⟨q3, q3'⟩, ⟨q4, q4'⟩⟩⟩⟩
  all_goals
    go_enter Try.func3, Try.ntmps3
    go_wp2_with fail
    refine (alive14_true w).mono ?_
    rintro e w1 ⟨rfl, hb1⟩
    go_wp2
    go_ret
    exact ⟨rfl, hb1⟩
set_option maxRecDepth 100000 in
set_option maxHeartbeats 8000000 in
theorem knows_main (p : Nat) (A1 : Option Addr) (n1 C1 : Nat) (z1 : Nat → Int) (A2 : Option Addr) (n2 C2 : Nat) (z2 : Nat → Int) (w : World) (hp1 : 1 ≤ p) (hp : p ≤ 6) (hn1 : n1 ≤ 10) (hn2 : n2 ≤ 10) (hr1 : RdI w A1 n1 z1) (hr2 : RdI w A2 n2 z2) :
    Calls Try.prog 3 #[.int .i64 (p : Int), .slice A1 n1 C1, .slice A2 n2 C2] w fun e w' => e = .returned (.bool true) ∧ Below w.heap.size w w' := by
  have q0 : decide ((p : Int) < 1) = false := decide_eq_false (by omega)
  have q0' : decide (p < 1) = false := decide_eq_false (by omega)
  have q1 : decide (6 < (p : Int)) = false := decide_eq_false (by omega)
  have q1' : decide (6 < p) = false := decide_eq_false (by omega)
  have q2 : decide (10 < (n1 : Int)) = false := decide_eq_false (by omega)
  have q2' : decide (10 < n1) = false := decide_eq_false (by omega)
  have q3 : decide (10 < (n2 : Int)) = false := decide_eq_false (by omega)
  have q3' : decide (10 < n2) = false := decide_eq_false (by omega)
  have hmk := run_make_row' (P := Try.prog) 37 4 (.bool false) 1 Try.underlying37 infoBoolK rfl .i64 .i64 p (by omega) (by omega)
  have HR1 := Lib.hid hr1
  have HR2 := Lib.hid hr2
  clear hr1 hr2
  go_enter Try.func3, Try.ntmps3
  go_wp2_with fail
  refine (alive14_true w).mono ?_
  rintro e w1 ⟨rfl, hb1⟩
  obtain ⟨wp, hwp⟩ : ∃ wp, wp = w1.alloc (.cells #[.int .u8 68] 5 (1, 2)) := ⟨_, rfl⟩
  have kc := Go.Joins.run_convert_bytes_const_at (P := Try.prog) w1 24 5 #[.int .u8 68] 1 1 w1.heap.size rfl Try.underlying24 Try.underlying5
  simp only [List.size_toArray, List.length_cons, List.length_nil, Nat.zero_add, Nat.reduceAdd] at kc
  have hbp : Below w1.heap.size w1 wp := by rw [hwp]; exact (Below.refl _ _).alloc (Nat.le_refl _) _
  have hD1 : wp.heap[w1.heap.size]? = some (.cells #[.int .u8 68] 5 (1, 2)) := by rw [hwp]; exact Go.Deep.blk_alloc_new _ _
  have hrd : RdL wp (some ⟨w1.heap.size, 0, none⟩) [68] (fun _ => True) := fun _ => ⟨_, _, rfl, trivial, fun j hj => by
    have : j = 0 := by simp at hj; omega
    subst this
    rw [heap_cell hD1]; rfl⟩
  have hput := refPut_own 1 1 0 (some ⟨w1.heap.size, 0, none⟩) [68] 1 1 _ wp rfl (fun h => by cases h) hrd
  unfold PutO at hput
  rw [show Fm.err ⟨1, 1, 0, [68]⟩ = 0 from Fm.err_ok (Ex.ok (by decide)), show Fm.put ⟨1, 1, 0, [68]⟩ = Ex.b 1 from Fm.put_ok (Ex.ok (by decide))] at hput
  have HP := Lib.hid hput
  have HWP := Lib.hid hwp
  have HBP := Lib.hid (hb1.trans (hbp.mono hb1.size))
  clear hput hwp hbp hD1 hrd hb1
  go_wp2_with fail
  clear kc
  rw [← HWP.out]
  refine HP.out.mono ?_
  rintro e w3 ⟨A3, n3, C3, rfl, hO3, hb3⟩
  obtain ⟨A3', C3', e3, hc3, hcm3, hn3, hr3⟩ := hO3.rd
  injection e3 with x1 x2 x3
  subst x1 x3
  have HB3 := Lib.hid (HBP.out.trans (hb3.mono HBP.out.size))
  have HRD3 : Hid (RdL w3 A3 (Ex.b 1) (fun _ => True)) := Lib.hid (hr3.mono fun _ _ => trivial)
  have HN3 : Hid (n3 = (Ex.b 1).length ∧ n3 ≤ C3 ∧ (A3 = none → n3 = 0 ∧ C3 = 0)) := Lib.hid ⟨x2, by rw [x2]; exact hc3, by rw [x2]; exact hn3⟩
  clear hO3 hb3 hc3 hcm3 hn3 hr3 x2
  go_wp2
  go_loopw [11, 10] (fun vi vl wr => ∃ j : Nat, j ≤ p ∧ vi = .int .i64 (j : Int) ∧ Hid (LdR w3 vl (Kn.bl j) wr)) (fun vi _ _ => p - (intOf vi).toNat)
  case atStart => exact ⟨0, Nat.zero_le _, rfl, Lib.hid (LdR.start w3)⟩
  case round =>
    obtain ⟨j, hj, rfl, HJ⟩ := hrel
    by_cases hlj : j < p
    · have e1 : decide (j < p) = true := decide_eq_true hlj
      have e1' : decide ((j : Int) < (p : Int)) = true := decide_eq_true (by omega)
      have s3 : IntKind.i64.wrap (2 + (j : Int)) = 2 + (j : Int) := IntWalk.i64_in _ (by omega)
      obtain ⟨tvs, L, hown, hrow⟩ := HJ.out.ex
      have htl : tvs.length = j := by rw [hrow.len, Kn.bl_len]
      have HNEXT : Hid (∀ (w5 : World) (v' : Value), (wr.alloc (.cells #[.int .i64 (2 + (j : Int)), .int .i64 5, .slice none 0 0, .bool false] 32)).grownBy w5 u10.ownBlock → encT.Own w5 w3.heap.size 32 v' (tvs ++ [⟨2 + (j : Int), 5, none, 0, 0, false⟩]) → LdR w3 v' (Kn.bl (j + 1)) w5) := Lib.hid fun w5 v' hg ho => by
        rw [Kn.bl_succ]
        exact LdR.next (bs := []) (G := fun _ => True) HJ.out hown hrow (Below.refl _ _) rfl (TopB.nil _ _ _) hg ho
      have HOWN := Lib.hid (hown.old ((Below.refl wr.heap.size wr).alloc (Nat.le_refl _) (.cells #[.int .i64 (2 + (j : Int)), .int .i64 5, .slice none 0 0, .bool false] 32)))
      have HMLB : Hid (tvs.length + 1 ≤ maxLen ∧ (tvs.length + 1) * 48 ≤ 140737488355328) := Lib.hid ⟨by rw [htl]; unfold maxLen; omega, by rw [htl]; omega⟩
      have HSZB : Hid (w3.heap.size ≤ (wr.alloc (.cells #[.int .i64 (2 + (j : Int)), .int .i64 5, .slice none 0 0, .bool false] 32)).heap.size) := Lib.hid (by have := HJ.out.bel.size; simp; omega)
      clear hown hrow htl hmk
      go_wp2_with (at_builtin; refine wpList_append_st' encT _ rfl _ _ _ rfl w3.heap.size 32 _ 48 Try.underlying29 infoTape rfl _ tvs rfl HOWN.out ⟨wr.heap.size, 0, none⟩ 1 1 [⟨2 + (j : Int), 5, none, 0, 0, false⟩] rfl rfl (newCells wr [.int .i64 (2 + (j : Int)), .int .i64 5, .slice none 0 0, .bool false] _) HMLB.out.1 HMLB.out.2 HSZB.out ?_; intro v' w5 ho5 hg5)
      have HN := Lib.hid (HNEXT.out w5 v' hg5 ho5)
      clear ho5 hg5
      go_roundw
      case rel => exact ⟨j + 1, by omega, by go_num, HN⟩
      case measure => simp [intOf]; omega
    · have e1 : decide (j < p) = false := decide_eq_false hlj
      have e1' : decide ((j : Int) < (p : Int)) = false := decide_eq_false (by omega)
      have hjp : j = p := by omega
      have HJD := HJ.out
      rw [hjp] at HJD
      obtain ⟨A5, C5, hv5, hr5⟩ := HJD.rd
      rw [Kn.bl_len] at hv5
      subst hv5
      obtain ⟨w4, hw4⟩ : ∃ x, x = wr.alloc (.cells #[.slice A3 n3 C3] 24) := ⟨_, rfl⟩
      obtain ⟨w5, hw5⟩ : ∃ x, x = w4.alloc (tapeObj 1 5 (some ⟨wr.heap.size, 0, none⟩) 1 1 false) := ⟨_, rfl⟩
      have s4 : w4.heap.size = wr.heap.size + 1 := by rw [hw4]; simp
      have b34 : Below wr.heap.size wr w4 := by rw [hw4]; exact (Below.refl _ _).alloc (Nat.le_refl _) _
      have b45 : Below w4.heap.size w4 w5 := by rw [hw5]; exact (Below.refl _ _).alloc (Nat.le_refl _) _
      have b35 : Below wr.heap.size wr w5 := b34.trans (b45.mono b34.size)
      have k4 : w4.heap[wr.heap.size]? = some (.cells #[.slice A3 n3 C3] 24 (0, 0)) := by rw [hw4]; exact Go.Deep.blk_alloc_new _ _
      have k5 : w5.heap[w4.heap.size]? = some (tapeObj 1 5 (some ⟨wr.heap.size, 0, none⟩) 1 1 false) := by rw [hw5]; exact Go.Deep.blk_alloc_new _ _
      have hrow := one_row (below_obj b45 k4) HN3.out.1 HN3.out.2.1 HN3.out.2.2 ((HRD3.out.old (HJD.bel)).old b35)
      have hd := one_tape k5 rfl hrow
      rw [s4] at hd
      have hA5 : A5 = none → (Kn.bl p).length = 0 ∧ C5 = 0 := fun e => by
        obtain ⟨b9, o9, A9, C9, e9, -⟩ := hr5.at_ (i := 0) (by rw [Kn.bl_len]; omega)
        rw [e] at e9; cases e9
      have hmk9 := make_own (some ⟨wr.heap.size + 1, 0, none⟩) Kn.D 1 A5 (Kn.bl p) C5 (fun _ => True) 4 w5 (by decide) (by rw [Kn.bl_len]; omega) (fun h => by cases h) hA5 (fun t ht => by
        rw [List.mem_singleton.1 ht]
        refine ⟨by show 1 ≤ 1000000; omega, fun s hs => ?_⟩
        have hs' : s ∈ [Ex.b 1] := hs
        rw [List.mem_singleton.1 hs', Ex.b_len (by decide)]; omega) hd (hr5.old b35) (Kn.mk hp1 hp)
      unfold MakeO at hmk9
      rw [Kn.bl_len, show Kn.D.length = 1 from rfl] at hmk9
      have HMK := Lib.hid hmk9
      have HB5 : Hid (Below w.heap.size w w5) := Lib.hid (HB3.out.trans ((HJD.bel.trans (b35.mono HJD.bel.size)).mono HB3.out.size))
      have HW5 : Hid (w5 = (wr.alloc (.cells #[.slice A3 n3 C3] 24)).alloc (.cells #[.int .i64 1, .int .i64 5, .slice (some ⟨wr.heap.size, 0, none⟩) 1 1, .bool false] 32)) := Lib.hid (by rw [hw5, hw4]; rfl)
      clear hw4 hw5 s4 b34 b45 b35 k4 k5 hrow hd hA5 hmk9 HJD hr5 hjp
      go_wp2_with fail
      rw [← HW5.out]
      refine HMK.out.mono ?_
      rintro e w6 ⟨g, tvs, L, rfl, ho6, hr6, hb6⟩
      have HK6 := Lib.hid (LdK.of_own ho6 hr6 (Kn.T_len p).symm hb6)
      obtain ⟨w7, hw7⟩ : ∃ x, x = w6.alloc (.cells (madeCells #[.bool false] p) 4) := ⟨_, rfl⟩
      have hb7 : Below w6.heap.size w6 w7 := by rw [hw7]; exact (Below.refl _ _).alloc (Nat.le_refl _) _
      have HRV7 : Hid (RowV w7 4 w6.heap.size p (fun k => .bool ((fun _ => false : Nat → Bool) k))) := Lib.hid (by rw [hw7]; exact RowV.made w6 (.bool false) 4 p)
      have HK7 := Lib.hid (HK6.out.old hb7)
      have HW7 := Lib.hid hw7
      have HI7 := Lib.hid (Kn.I.start hp1 hp)
      have hh : w5.heap.size ≤ w6.heap.size := hb6.size
      have hpp : ((p : Int) == (p : Int)) = true := by simp
      clear ho6 hr6 hb6 hb7 hw7
      go_wp2_with (go_at_call 7; refine (num14 _ _).mono ?_; rintro e w' ⟨rfl, hw'⟩; subst hw')
      rw [← HW7.out]
      clear hmk
      obtain ⟨hG, hhG⟩ : ∃ y, y = w6.heap.size := ⟨_, rfl⟩
      rw [← hhG] at HRV7 hh ⊢
      have HHG := Lib.hid hhG
      clear hhG
      obtain ⟨x0, hx0⟩ : ∃ x : Sx, x = ⟨⟨0, 0, 0, 0, []⟩, none, 0⟩ := ⟨_, rfl⟩
      obtain ⟨M, hM, hMG⟩ : ∃ M, M = w6.heap.size ∧ M = hG := ⟨_, rfl, HHG.out.symm⟩
      rw [← hM, ← hx0] at HK7
      have HMG : Hid (M ≤ hG) := Lib.hid (by omega)
      clear hx0 hM hMG HK6 HMK HJ HW5 HW7 HRD3 HN3 HP HWP HB3 HBP
      go_loopw [15] (fun vi wr => ∃ (i : Nat) (l : List St.T) (h : Nat → Bool), i ≤ n1 ∧ vi = .int .i64 (i : Int) ∧ Hid (LdK w5 g p M M x0 l wr) ∧ Hid (RowV wr 4 hG p (fun k => .bool (h k))) ∧ Hid (Kn.I p l h)) (fun vi _ => n1 - (intOf vi).toNat)
      case atStart => exact ⟨0, _, _, Nat.zero_le _, rfl, HK7, HRV7, HI7⟩
      case round =>
        obtain ⟨i, l, h, hi, rfl, HK, HRV, HI⟩ := hrel
        by_cases hli : i < n1
        · have e2 : decide ((i : Int) < (n1 : Int)) = true := decide_eq_true (by omega)
          have e2' : decide (i < n1) = true := decide_eq_true hli
          obtain ⟨b, off, rfl, cz⟩ := (HR1.out.old (HB5.out.trans (HK.out.bel.mono HB5.out.size))).at hli
          obtain ⟨hlow, -⟩ := low_eq z1 i
          obtain ⟨k, hk, hmod⟩ := Kn.modK (N := p) (by omega) (low z1 i)
          have hnz : ((p : Int) == 0) = false := by simp; omega
          have i0 : (0 : Int) ≤ (i : Int) := by omega
          have i1 : (i : Int) < (n1 : Int) := by omega
          have j0 : (0 : Int) ≤ (k : Int) := by omega
          have j1 : (k : Int) < (p : Int) := by omega
          have hwk : IntKind.i64.wrap (k : Int) = (k : Int) := IntWalk.i64_in _ (by omega)
          have hkl : k < l.length := by rw [HI.out.len]; exact hk
          obtain ⟨c, hc⟩ := HK.out.blk
          have hff : wr.frozen? ⟨g, k * 4 + 3, none⟩ = false := heap_frozen hc
          obtain ⟨b', off', A', C', eA, -, -, -, -, c3, -⟩ := HK.out.rd.at_ hkl
          injection eA with eA
          injection eA with eA1 eA2 _
          subst eA1 eA2
          rw [Nat.zero_add] at c3
          obtain ⟨lo, hlo⟩ : ∃ lo, lo = l[k].lost := ⟨_, rfl⟩
          rw [← hlo] at c3
          have hlost := HK.out.lost hkl
          have hin := HI.out.lost hkl
          obtain ⟨l2, hl2⟩ : ∃ l2, l2 = l.set k ⟨l[k].label, l[k].cap, l[k].blocks, true⟩ := ⟨_, rfl⟩
          rw [← hl2] at hlost hin
          obtain ⟨ws, hws⟩ : ∃ x, x = wr.setCell ⟨g, k * 4 + 3, none⟩ (.bool true) := ⟨_, rfl⟩
          rw [← hws] at hlost
          have hgG : hG ≠ g := fun e => by
            obtain ⟨c', hc', -, -⟩ := HRV.out
            rw [e, hc] at hc'
            injection hc' with hc'
            injection hc' with _ e9
            exact absurd e9 (by decide)
          have hRVS : RowV ws 4 hG p (fun k => .bool (h k)) := by rw [hws]; exact HRV.out.kp (Kp.store wr g (k * 4 + 3) _) hgG
          have cb := hRVS.cell hk
          have fb := hRVS.frozen k
          have HKN : Hid (LdK w5 g p M M x0 l2 (ws.setCell ⟨hG, k, none⟩ (.bool true))) := Lib.hid (by
            obtain ⟨c', hc', -, -⟩ := hRVS
            exact hlost.besideT (Kp.store ws hG k _) hh (.inr HMG.out) ⟨c', hc'⟩ (by decide) (by decide) (by decide))
          have HRVN : Hid (RowV (ws.setCell ⟨hG, k, none⟩ (.bool true)) 4 hG p (fun j => .bool ((fun j => if j = k then true else h j) j))) := Lib.hid (setBK hRVS)
          have HIN := Lib.hid hin
          have HWS := Lib.hid hws
          clear hlost hin hws hgG hRVS hlo hl2 hc hkl hk hli
          go_upto_region 19 with fail
          rw [← HWS.out]
          go_wp2
          go_roundw
          case rel => exact ⟨i + 1, _, _, by omega, by go_num, HKN, HRVN, HIN⟩
          case measure => simp [intOf]; omega
        · have e2 : decide ((i : Int) < (n1 : Int)) = false := decide_eq_false (by omega)
          have e2' : decide (i < n1) = false := decide_eq_false hli
          clear HK7 HRV7 HI7
          go_wp2
          go_loopw [17] (fun vi wr => ∃ (i : Nat) (l : List St.T) (h : Nat → Bool), i ≤ n2 ∧ vi = .int .i64 (i : Int) ∧ Hid (LdK w5 g p M M x0 l wr) ∧ Hid (RowV wr 4 hG p (fun k => .bool (h k))) ∧ Hid (Kn.I p l h)) (fun vi _ => n2 - (intOf vi).toNat)
          case atStart => exact ⟨0, _, _, Nat.zero_le _, rfl, HK, HRV, HI⟩
          case round =>
            clear HK HRV HI hi e2 e2' hli
            obtain ⟨i, l, h, hi, rfl, HK, HRV, HI⟩ := hrel
            by_cases hli : i < n2
            · have e2 : decide ((i : Int) < (n2 : Int)) = true := decide_eq_true (by omega)
              have e2' : decide (i < n2) = true := decide_eq_true hli
              obtain ⟨b, off, rfl, cz⟩ := (HR2.out.old (HB5.out.trans (HK.out.bel.mono HB5.out.size))).at hli
              obtain ⟨hlow, -⟩ := low_eq z2 i
              obtain ⟨k, hk, hmod⟩ := Kn.modK (N := p) (by omega) (low z2 i)
              have hnz : ((p : Int) == 0) = false := by simp; omega
              have i0 : (0 : Int) ≤ (i : Int) := by omega
              have i1 : (i : Int) < (n2 : Int) := by omega
              have j0 : (0 : Int) ≤ (k : Int) := by omega
              have j1 : (k : Int) < (p : Int) := by omega
              have hwk : IntKind.i64.wrap (k : Int) = (k : Int) := IntWalk.i64_in _ (by omega)
              have hkl : k < l.length := by rw [HI.out.len]; exact hk
              obtain ⟨h3, s, hs, hs79⟩ := HI.out.three k hkl
              obtain ⟨g', C', gb, Cb, cc, k1, k2, k3, k4, k5⟩ := HK.out.turned hkl hs (p := 20) (by omega)
              rw [h3] at k1
              rw [hs79] at k2
              have cb := HRV.out.cell hk
              cases hf : h k with
              | true =>
                rw [hf] at cb
                clear hf hkl h3 hs hs79 k3 k5 hk hli k4
                go_wp2
                go_roundw
                case rel => exact ⟨i + 1, l, h, by omega, by go_num, HK, HRV, HI⟩
                case measure => simp [intOf]; omega
              | false =>
                rw [hf] at cb
                have hin := HI.out.turn hp1 hp hkl hf hs (by omega) (Kn.byte_turns (s[20]'(by omega)))
                have hnew := k5 (byF (feB (s[20]'(by omega)) + feB 16))
                obtain ⟨l2, hl2⟩ : ∃ l2, l2 = l.set k ⟨l[k].label, l[k].cap, l[k].blocks.set 2 (s.set 20 (byF (feB (s[20]'(by omega)) + feB 16))), l[k].lost⟩ := ⟨_, rfl⟩
                rw [← hl2] at hin hnew
                obtain ⟨cb8, hcb8⟩ : ∃ cb, cb = s[20]'(by omega) := ⟨_, rfl⟩
                rw [← hcb8] at k4 hnew
                have hv : bits BinOp.xor IntKind.u8 ((cb8.toNat : Nat) : Int) 16 = (((byF (feB cb8 + feB 16)).toNat : Nat) : Int) := by
                  rw [byF_nat]
                  exact xor_fi (feB cb8) (feB 16)
                obtain ⟨v8, hv8⟩ : ∃ v, v = byF (feB cb8 + feB 16) := ⟨_, rfl⟩
                rw [← hv8] at hv hnew
                have hne : hG ≠ gb := fun e => by
                  obtain ⟨c', hc', -, -⟩ := HRV.out
                  rw [e, k3] at hc'
                  injection hc' with hc'
                  injection hc' with _ e9
                  exact absurd e9 (by decide)
                have hfr : wr.frozen? ⟨gb, 20, none⟩ = false := heap_frozen k3
                obtain ⟨w9, hw9⟩ : ∃ y, y = (wr.setCell ⟨gb, 20, none⟩ (.int .u8 ((v8.toNat : Nat) : Int))).drew := ⟨_, rfl⟩
                have hRVS : RowV w9 4 hG p (fun k => .bool (h k)) := by rw [hw9]; exact (HRV.out.kp (Kp.store wr gb 20 _) hne).of_block rfl
                have hK9 : LdK w5 g p M M x0 l2 w9 := by rw [hw9]; exact hnew.old (Below.refl _ _).drew
                have cb9 := hRVS.cell hk
                rw [hf] at cb9
                have fb9 := hRVS.frozen k
                have HKN : Hid (LdK w5 g p M M x0 l2 (w9.setCell ⟨hG, k, none⟩ (.bool true))) := Lib.hid (by
                  obtain ⟨c', hc', -, -⟩ := hRVS
                  exact hK9.besideT (Kp.store w9 hG k _) hh (.inr HMG.out) ⟨c', hc'⟩ (by decide) (by decide) (by decide))
                have HRVN : Hid (RowV (w9.setCell ⟨hG, k, none⟩ (.bool true)) 4 hG p (fun j => .bool ((fun j => if j = k then true else h j) j))) := Lib.hid (setBK hRVS)
                have HIN := Lib.hid hin
                have HV := Lib.hid hv
                have HW9 := Lib.hid hw9
                clear hf hin hnew hl2 hcb8 hv hv8 hne hw9 hRVS hK9 h3 hs hs79 k3 k5 hkl hk hli
                go_wp2
                refine wp_region_still_tail 18 (by kernel_rfl) (by kernel_rfl) ?_
                simp only [List.take_succ_cons, List.take_zero, List.drop_succ_cons, List.drop_zero]
                repeat still_step
                refine wpStill_nil ?_
                change wpList _ _ _ _ _ wr.drew
                go_upto_region 28 with fail
                rw [HV.out, ← HW9.out]
                go_wp2
                go_roundw
                case rel => exact ⟨i + 1, _, _, by omega, by go_num, HKN, HRVN, HIN⟩
                case measure => simp [intOf]; omega
            · have e2 : decide ((i : Int) < (n2 : Int)) = false := decide_eq_false (by omega)
              have e2' : decide (i < n2) = false := decide_eq_false hli
              go_wp2
              go_loopw [20, 19] (fun vi va wz => ∃ j : Nat, j ≤ p ∧ vi = .int .i64 (j : Int) ∧ va = .bool (Kn.I.any h j) ∧ wz = wr) (fun vi _ _ => p - (intOf vi).toNat)
              case atStart => exact ⟨0, Nat.zero_le _, rfl, rfl, rfl⟩
              case round =>
                obtain ⟨j, hj, rfl, rfl, rfl⟩ := hrel
                by_cases hlj : j < p
                · have e3 : decide (j < p) = true := decide_eq_true hlj
                  have e3' : decide ((j : Int) < (p : Int)) = true := decide_eq_true (by omega)
                  have i0 : (0 : Int) ≤ (j : Int) := by omega
                  have i1 : (j : Int) < (p : Int) := by omega
                  have cb := HRV.out.cell hlj
                  have han := Kn.I.any_succ (h := h) j
                  cases ha : Kn.I.any h j with
                  | true =>
                    have HAN : Hid (Kn.I.any h (j + 1) = true) := Lib.hid (by rw [han, ha]; rfl)
                    clear han ha
                    go_wp2
                    go_roundw
                    case rel => exact ⟨j + 1, by omega, by go_num, by rw [HAN.out], trivial⟩
                    case measure => simp [intOf]; omega
                  | false =>
                    cases hf : h j with
                    | true =>
                      have HAN : Hid (Kn.I.any h (j + 1) = false) := Lib.hid (by rw [han, ha, hf]; rfl)
                      rw [hf] at cb
                      clear han ha hf
                      go_wp2
                      go_roundw
                      case rel => exact ⟨j + 1, by omega, by go_num, by rw [HAN.out], trivial⟩
                      case measure => simp [intOf]; omega
                    | false =>
                      have HAN : Hid (Kn.I.any h (j + 1) = true) := Lib.hid (by rw [han, ha, hf]; rfl)
                      rw [hf] at cb
                      clear han ha hf
                      go_wp2
                      go_roundw
                      case rel => exact ⟨j + 1, by omega, by go_num, by rw [HAN.out], trivial⟩
                      case measure => simp [intOf]; omega
                · have e3 : decide (j < p) = false := decide_eq_false hlj
                  have e3' : decide ((j : Int) < (p : Int)) = false := decide_eq_false (by omega)
                  have hjp : j = p := by omega
                  subst hjp
                  obtain ⟨hfl, hfn⟩ := HI.out.found hp1 hp
                  have hfind := find_any (some ⟨g, 0, none⟩) l j _ wr (by rw [HI.out.len]; omega) HI.out.short HK.out.rd
                  rw [HI.out.len] at hfind
                  have HF := Lib.hid hfind
                  have HFL := Lib.hid hfl
                  have HFN := Lib.hid hfn
                  have HBZ : Hid (Below w.heap.size w wr) := Lib.hid (HB5.out.trans (HK.out.bel.mono HB5.out.size))
                  clear hfl hfn hfind
                  go_wp2_with fail
                  refine HF.out.mono ?_
                  intro e w8 hfa
                  obtain ⟨A8, C8, l8, rfl, hl8, hm8, -, -, -, hr8, -, hb8⟩ := hfa.len
                  have HB8 := Lib.hid (HBZ.out.trans (hb8.mono HBZ.out.size))
                  cases ha : Kn.I.any h j with
                  | true =>
                    have hl1 := HFL.out
                    rw [ha, if_pos rfl] at hl1
                    rw [hl1] at hl8 ⊢
                    obtain ⟨b8, o8, e8, hfive⟩ := rd_fiveK hr8 (i := 0) (by omega)
                    subst e8
                    have hn4 : (l8[0]'(by omega)).s.number = 4 := HFN.out _ (by
                      rw [← hm8]
                      exact List.mem_map.2 ⟨_, List.getElem_mem (by omega), rfl⟩)
                    rw [hn4, Nat.zero_mul, Nat.add_zero] at hfive
                    clear hfa hl8 hm8 hr8 hb8 hn4 ha
                    go_wp2
                    go_ret
                    exact ⟨rfl, HB8.out⟩
                  | false =>
                    have hl1 := HFL.out
                    rw [ha, if_neg (by simp)] at hl1
                    rw [hl1]
                    clear hfa hl8 hm8 hr8 hb8 ha
                    go_wp2
                    go_ret
                    exact ⟨rfl, HB8.out⟩
theorem knows_walk (p : Int) (A1 : Option Addr) (n1 C1 : Nat) (z1 : Nat → Int) (A2 : Option Addr) (n2 C2 : Nat) (z2 : Nat → Int) (w : World) (hr1 : RdI w A1 n1 z1) (hr2 : RdI w A2 n2 z2) :
    Calls Try.prog 3 #[.int .i64 p, .slice A1 n1 C1, .slice A2 n2 C2] w fun e w' => e = .returned (.bool true) ∧ Below w.heap.size w w' := by
  by_cases h : p < 1 ∨ 6 < p ∨ 10 < n1 ∨ 10 < n2
  · exact knows_no p A1 n1 C1 A2 n2 C2 w h
  · obtain ⟨k, rfl⟩ : ∃ k : Nat, p = (k : Int) := ⟨p.toNat, by omega⟩
    exact knows_main k A1 n1 C1 z1 A2 n2 C2 z2 w (by omega) (by omega) (by omega) (by omega) hr1 hr2
end Go.Proofs.Ytmfikihcoafekaa
