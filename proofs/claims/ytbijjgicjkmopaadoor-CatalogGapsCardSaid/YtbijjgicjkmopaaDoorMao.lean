/- What partAt of package volume answers: the part that begins at a block. A slice of structs that reads as a list of plain data, and one that a call owns and makes longer by append: each struct is some cells, as many for each. No function of the program. What Parts and Keep of package volume answer. -/
import Derived.Test.YtbijjgicjkmopaaDoorMaj
import Derived.Test.YtbijjgicjkmopaaDoorMan
import Derived.Deep.RegionHeld3
import Derived.Test.YtbijjgicjkmopaaDoorMab
import Derived.Test.YtbijjgicjkmopaaDoorRows
import Derived.Laws.AppendOwn
import Derived.OwnWalk
namespace Go.Proofs.YtbijjgicjkmopaaDoor
open Go.RowKit
open Pt (Tx)

/-- a part as a value: the head, the tape's label, the block -/
def partV (h : Rc.H) (lab at_ : Int) : Value := .agg #[.string (tx h.path), .int .i64 h.version, .int .i64 h.size, .int .i64 h.from_, .int .i64 h.len, .int .i64 h.serial, .int .i64 h.sum, .bool h.gone, .int .i64 lab, .int .i64 at_]
/-- what partAt answers -/
def PartA (o : Option Rc.H) (lab at_ : Int) (w : World) (e : Ending) (w' : World) : Prop :=
  (match o with
    | some h => e = .returned (.tuple #[partV h lab at_, .bool true])
    | none => e = .returned (.tuple #[partV Rc.H.zero 0 0, .bool false])) ∧ Below w.heap.size w w'
theorem stored10 {w w7 : World} {B : Nat} (a0 a1 a2 a3 a4 a5 a6 a7 a8 a9 : Value) (hB : w.heap.size ≤ B) (hb : Below w.heap.size w w7) :
    Below w.heap.size w ((((((((((w7.setCell ⟨B, 0, none⟩ a0).setCell ⟨B, 1, none⟩ a1).setCell ⟨B, 2, none⟩ a2).setCell ⟨B, 3, none⟩ a3).setCell ⟨B, 4, none⟩ a4).setCell ⟨B, 5, none⟩ a5).setCell ⟨B, 6, none⟩ a6).setCell ⟨B, 7, none⟩ a7).setCell ⟨B, 8, none⟩ a8).setCell ⟨B, 9, none⟩ a9) := by
  have hk : Kp (· = B) w7 ((((((((((w7.setCell ⟨B, 0, none⟩ a0).setCell ⟨B, 1, none⟩ a1).setCell ⟨B, 2, none⟩ a2).setCell ⟨B, 3, none⟩ a3).setCell ⟨B, 4, none⟩ a4).setCell ⟨B, 5, none⟩ a5).setCell ⟨B, 6, none⟩ a6).setCell ⟨B, 7, none⟩ a7).setCell ⟨B, 8, none⟩ a8).setCell ⟨B, 9, none⟩ a9) := (((((((((Kp.store _ _ _ _).trans (Kp.store _ _ _ _)).trans (Kp.store _ _ _ _)).trans (Kp.store _ _ _ _)).trans (Kp.store _ _ _ _)).trans (Kp.store _ _ _ _)).trans (Kp.store _ _ _ _)).trans (Kp.store _ _ _ _)).trans (Kp.store _ _ _ _)).trans (Kp.store _ _ _ _)
  exact hb.trans (hk.below hb.size (fun x hx => by omega))
theorem part_good {lab : Int} {bs : List Tx} {lost : Bool} {n : Nat} {u : Fm.U} (h : Vo.good ⟨lab, bs, lost⟩ n = some u) : Vo.part ⟨lab, bs, lost⟩ n = if u.kind = 2 ∧ Rc.Good u.load ∧ n + Vo.data (Rc.parse u.load).len.toNat + 1 < bs.length then some (Rc.parse u.load) else none := by
  unfold Vo.part; rw [h]
theorem part_none {lab : Int} {bs : List Tx} {lost : Bool} {n : Nat} (h : Vo.good ⟨lab, bs, lost⟩ n = none) : Vo.part ⟨lab, bs, lost⟩ n = none := by
  unfold Vo.part; rw [h]
theorem part_frozen {w : World} {B : Nat} {p : Tx} {v z f l s m : Int} {g : Bool} {lab at_ : Int} (h : w.heap[B]? = some (partObj p v z f l s m g lab at_)) (j : Nat) : w.frozen? ⟨B, j, none⟩ = false := heap_frozen h
theorem below_obj' {o : Obj} {B : Nat} {x y : World} (hb : Below x.heap.size x y) (h : x.heap[B]? = some o) : y.heap[B]? = some o := (hb.block B (heap_lt h)).trans h
set_option maxHeartbeats 4000000 in
theorem partAt_any (lab cap : Int) (bs : List Tx) (A : Option Addr) (L C : Nat) (G : Nat → Prop) (lost : Bool) (n : Nat) (w : World) (hL : L = bs.length) (hr : RdB w A bs G) (hn : n ≤ 1000000000) (hl : ∀ s ∈ bs, s.length ≤ 1000000) (hk : Kept w) :
    Calls Tryd.prog 38 #[.agg #[.int .i64 lab, .int .i64 cap, .slice A L C, .bool lost], .int .i64 n] w (PartA (Vo.part ⟨lab, bs, lost⟩ n) lab n w) := by
  obtain ⟨wb, hwb⟩ : ∃ wb, wb = (w.alloc (tapeObj lab cap A L C lost)).alloc (partObj [] 0 0 0 0 0 0 false 0 0) := ⟨_, rfl⟩
  obtain ⟨hB, hT, hU⟩ := two_blocks hwb
  have hcall := good_any lab cap bs A L C G lost n wb hL (hr.old hB) hl
  have h3 : Vo.goodZ ⟨lab, bs, lost⟩ (n : Int) = Vo.good ⟨lab, bs, lost⟩ n := by
    unfold Vo.goodZ
    rw [if_neg (by omega)]; rfl
  rw [h3] at hcall
  have hload : (unitOf (Vo.good ⟨lab, bs, lost⟩ n)).load.length ≤ 1000 := by
    cases h : Vo.good ⟨lab, bs, lost⟩ n with
    | none => exact Nat.zero_le _
    | some u =>
      obtain ⟨b, -, hg, rfl⟩ := Vo.good_some h
      have h1 := hg.1.2
      have h2 := Fm.room_le (Fm.parse b).kind
      show (Fm.parse b).load.length ≤ 1000
      omega
  have HB := Lib.hid hB
  have HU := Lib.hid hU
  have HT := Lib.hid hT
  have HK := Lib.hid (hk.old hB)
  have HW : Hid (wb = (w.alloc (.cells #[.int .i64 lab, .int .i64 cap, .slice A L C, .bool lost] 27)).alloc (.cells #[.string ⟨#[]⟩, .int .i64 0, .int .i64 0, .int .i64 0, .int .i64 0, .int .i64 0, .int .i64 0, .bool false, .int .i64 0, .int .i64 0] 44)) := Lib.hid hwb
  obtain ⟨t0, t1, t2, t3⟩ := tape4 hT
  rw [HW.out] at t0 t1 t2 t3
  obtain ⟨ok, hok⟩ : ∃ ok, ok = (Vo.good ⟨lab, bs, lost⟩ n).isSome := ⟨_, rfl⟩
  obtain ⟨k, lb, nb, ld, hu⟩ : ∃ k lb nb ld, unitOf (Vo.good ⟨lab, bs, lost⟩ n) = ⟨k, lb, nb, ld⟩ := ⟨_, _, _, _, rfl⟩
  unfold GoodA at hcall
  rw [hu, ← hok] at hcall
  rw [hu] at hload
  have hload' : ld.length ≤ 1000 := hload
  obtain ⟨ge, hge⟩ : ∃ ge, ge = Rc.gotE ld := ⟨_, rfl⟩
  obtain ⟨P, v, z, f, l, s, m, g, hh⟩ : ∃ P v z f l s m g, Rc.got ld = ⟨P, v, z, f, l, s, m, g⟩ := ⟨_, _, _, _, _, _, _, _, rfl⟩
  have hcase : (Vo.part ⟨lab, bs, lost⟩ n = none ∧ (ok = false ∨ (ok = true ∧ (k != 2) = true))) ∨ (ok = true ∧ k = 2 ∧ (ge != 0) = true ∧ Vo.part ⟨lab, bs, lost⟩ n = none)
      ∨ (ok = true ∧ k = 2 ∧ ge = 0 ∧ (L : Int) < n + (Vo.need l : Int) ∧ Vo.part ⟨lab, bs, lost⟩ n = none) ∨ (ok = true ∧ k = 2 ∧ ge = 0 ∧ n + (Vo.need l : Int) ≤ (L : Int) ∧ Vo.part ⟨lab, bs, lost⟩ n = some ⟨P, v, z, f, l, s, m, g⟩) := by
    cases h : Vo.good ⟨lab, bs, lost⟩ n with
    | none =>
      rw [h] at hok
      exact .inl ⟨part_none h, .inl hok⟩
    | some u =>
      rw [h] at hok hu
      have hok' : ok = true := hok
      have hu' : u = ⟨k, lb, nb, ld⟩ := hu
      have hp := part_good h
      rw [hu'] at hp
      by_cases h1 : k = 2
      · by_cases h2 : Rc.Good ld
        · rw [Rc.gotE_yes h2] at hge
          rw [Rc.got_yes h2] at hh
          have hn1 : Vo.need l = Vo.data l.toNat + 2 := by
            have := need_head h2.1
            rw [hh] at this
            exact this
          rw [hh] at hp
          by_cases h3 : n + Vo.data l.toNat + 1 < bs.length
          · refine .inr (.inr (.inr ⟨hok', h1, hge, by omega, ?_⟩))
            rw [hp, if_pos ⟨h1, h2, h3⟩]
          · refine .inr (.inr (.inl ⟨hok', h1, hge, by omega, ?_⟩))
            rw [hp, if_neg fun h' => h3 h'.2.2]
        · rw [Rc.gotE_no h2] at hge
          refine .inr (.inl ⟨hok', h1, by rw [hge]; rfl, ?_⟩)
          rw [hp, if_neg fun h' => h2 h'.2.1]
      · refine .inl ⟨?_, .inr ⟨hok', by simpa using h1⟩⟩
        rw [hp, if_neg fun h' => h1 h'.1]
  have HC := Lib.hid hcall
  have HLD := Lib.hid hload'
  have HGE := Lib.hid hge
  have HH := Lib.hid hh
  clear hcall hload hload' hge hh hB hT hU hwb hr hL hl hk hu hok h3
  rcases hcase with ⟨hres, hq⟩ | ⟨rfl, rfl, hq, hres⟩ | ⟨rfl, rfl, hge, hlt, hres⟩ | ⟨rfl, rfl, hge, hle, hres⟩
  · have HRES := Lib.hid hres
    clear hres
    rcases hq with rfl | ⟨rfl, p1⟩
    all_goals
      go_enter Tryd.func38, Tryd.ntmps38
      go_wp2_with fail
      rw [← HW.out]
      refine HC.out.mono ?_
      rintro e w1 ⟨A1, m1, C1, rfl, hm1, hc1, hn1, hr1, hb1⟩
      obtain ⟨wc, hwc⟩ : ∃ wc, wc = w1.alloc (unitObj k lb nb A1 m1 C1) := ⟨_, rfl⟩
      have hbc : Below wb.heap.size wb wc := by rw [hwc]; exact hb1.alloc hb1.size _
      have HZ := Lib.hid (below_obj' hbc HU.out)
      have HBC := Lib.hid (HB.out.trans (hbc.mono HB.out.size))
      have HWC := Lib.hid hwc
      unfold unitObj at HWC
      obtain ⟨z0, z1, z2, z3, z4, z5, z6, z7, z8, z9⟩ := part10 HZ.out
      have y0 := part_frozen HZ.out 0
      have y1 := part_frozen HZ.out 1
      have y2 := part_frozen HZ.out 2
      have y3 := part_frozen HZ.out 3
      have y4 := part_frozen HZ.out 4
      have y5 := part_frozen HZ.out 5
      have y6 := part_frozen HZ.out 6
      have y7 := part_frozen HZ.out 7
      have y8 := part_frozen HZ.out 8
      have y9 := part_frozen HZ.out 9
      rw [HWC.out] at z0 z1 z2 z3 z4 z5 z6 z7 z8 z9 y0 y1 y2 y3 y4 y5 y6 y7 y8 y9
      clear hwc hbc hb1 hr1 hn1 hc1 hm1 t0 t1 t2 t3
      go_wp2
      rw [← HWC.out]
      clear z0 z1 z2 z3 z4 z5 z6 z7 z8 z9
      obtain ⟨z0, z1, z2, z3, z4, z5, z6, z7, z8, z9⟩ := part10 HZ.out
      refine bodyPost_ret (v := .tuple #[.agg #[.string ⟨#[]⟩, .int .i64 0, .int .i64 0, .int .i64 0, .int .i64 0, .int .i64 0, .int .i64 0, .bool false, .int .i64 0, .int .i64 0], .bool false]) (by simp [results, Tryd.results38, go_sem, z0, z1, z2, z3, z4, z5, z6, z7, z8, z9]) rfl ?_
      rw [HRES.out]
      exact ⟨rfl, stored10 _ _ _ _ _ _ _ _ _ _ (by omega) HBC.out⟩
  · have HRES := Lib.hid hres
    clear hres
    go_enter Tryd.func38, Tryd.ntmps38
    go_wp2_with fail
    rw [← HW.out]
    refine HC.out.mono ?_
    rintro e w1 ⟨A1, m1, C1, rfl, hm1, hc1, hn1, hr1, hb1⟩
    obtain ⟨wc, hwc⟩ : ∃ wc, wc = w1.alloc (unitObj 2 lb nb A1 m1 C1) := ⟨_, rfl⟩
    have hb1' : Below w1.heap.size w1 wc := by rw [hwc]; exact (Below.refl _ _).alloc (Nat.le_refl _) _
    have hbc : Below wb.heap.size wb wc := hb1.trans (hb1'.mono hb1.size)
    have hcall := readHead_any A1 ld m1 C1 _ wc hm1 (by have h1 : m1 = ld.length := hm1; have := HLD.out; omega) hn1 (hr1.old hb1') (HK.out.old hbc)
    unfold GotH at hcall
    rw [HH.out, ← HGE.out] at hcall
    have HC2 := Lib.hid hcall
    have HZ := Lib.hid (below_obj' hbc HU.out)
    have HTC := Lib.hid (below_tape hbc HT.out)
    have HBC := Lib.hid (HB.out.trans (hbc.mono HB.out.size))
    have HWC := Lib.hid hwc
    unfold unitObj at HWC
    clear hwc hbc hb1 hb1' hr1 hn1 hc1 hm1 t0 t1 t2 t3 hcall HU HT HB
    obtain ⟨t0, t1, t2, t3⟩ := tape4 HTC.out
    rw [HWC.out] at t0 t1 t2 t3
    go_wp2_with fail
    rw [← HWC.out]
    clear t0 t1 t2 t3
    refine HC2.out.mono ?_
    rintro e w2 ⟨rfl, hb2⟩
    obtain ⟨wd, hwd⟩ : ∃ wd, wd = w2.alloc (headObj P v z f l s m g) := ⟨_, rfl⟩
    obtain ⟨we, hwe⟩ : ∃ we, we = wd.alloc (partObj P v z f l s m g lab n) := ⟨_, rfl⟩
    have hb2' : Below w2.heap.size w2 wd := by rw [hwd]; exact (Below.refl _ _).alloc (Nat.le_refl _) _
    have hbd : Below wc.heap.size wc wd := hb2.trans (hb2'.mono hb2.size)
    have hbde : Below wd.heap.size wd we := by rw [hwe]; exact (Below.refl _ _).alloc (Nat.le_refl _) _
    have hbe : Below wc.heap.size wc we := hbd.trans (hbde.mono hbd.size)
    have HZE := Lib.hid (below_obj' hbe HZ.out)
    have HTE := Lib.hid (below_tape hbe HTC.out)
    have HBE := Lib.hid (HBC.out.trans (hbe.mono HBC.out.size))
    have HPE : Hid (we.heap[wd.heap.size]? = some (partObj P v z f l s m g lab n)) := Lib.hid (by rw [hwe]; exact Go.Deep.blk_alloc_new _ _)
    obtain ⟨t0, t1, t2, t3⟩ := tape4 (below_tape hbd HTC.out)
    have HWD := Lib.hid hwd
    unfold headObj at HWD
    have HWE := Lib.hid hwe
    unfold partObj at HWE
    obtain ⟨pb, hpb⟩ : ∃ pb, pb = w2.heap.size + 1 := ⟨_, rfl⟩
    have hpb' : pb = wd.heap.size := by rw [hpb, hwd]; simp
    have HPB := Lib.hid hpb
    rw [← hpb'] at HPE
    clear hpb' hwd hwe hb2 hb2' hbd hbde hbe hpb HC2 HZ HTC HBC HWC HC
    rw [HWD.out] at t0 t1 t2 t3
    go_wp2_with fail
    rw [← HWD.out, ← HWE.out, ← HPB.out]
    clear t0 t1 t2 t3
    go_quiet (fail)
    have hbd : Below we.heap.size we (we.drewN nq) := ⟨rfl, rfl, rfl, Nat.le_refl _, fun _ _ => rfl⟩
    have HZZ := Lib.hid (below_obj' hbd HZE.out)
    have HBZ := Lib.hid (HBE.out.trans (hbd.mono HBE.out.size))
    clear hbd
    generalize we.drewN nq = wf at HZZ HBZ ⊢
    obtain ⟨z0, z1, z2, z3, z4, z5, z6, z7, z8, z9⟩ := part10 HZZ.out
    have y0 := part_frozen HZZ.out 0
    have y1 := part_frozen HZZ.out 1
    have y2 := part_frozen HZZ.out 2
    have y3 := part_frozen HZZ.out 3
    have y4 := part_frozen HZZ.out 4
    have y5 := part_frozen HZZ.out 5
    have y6 := part_frozen HZZ.out 6
    have y7 := part_frozen HZZ.out 7
    have y8 := part_frozen HZZ.out 8
    have y9 := part_frozen HZZ.out 9
    go_wp2
    refine bodyPost_ret (v := .tuple #[.agg #[.string ⟨#[]⟩, .int .i64 0, .int .i64 0, .int .i64 0, .int .i64 0, .int .i64 0, .int .i64 0, .bool false, .int .i64 0, .int .i64 0], .bool false]) (by simp [results, Tryd.results38, go_sem, z0, z1, z2, z3, z4, z5, z6, z7, z8, z9]) rfl ?_
    rw [HRES.out]
    exact ⟨rfl, stored10 _ _ _ _ _ _ _ _ _ _ (by omega) HBZ.out⟩
  · have HRES := Lib.hid hres
    obtain ⟨K, hK⟩ : ∃ K, K = Vo.need l := ⟨_, rfl⟩
    have q1 : decide ((L : Int) < (n : Int) + (K : Int)) = true := decide_eq_true (by rw [hK]; exact hlt)
    have hKl : K ≤ 65 := by rw [hK]; exact need_le l
    have HKK := Lib.hid hK
    clear hres hlt hK
    subst hge
    go_enter Tryd.func38, Tryd.ntmps38
    go_wp2_with fail
    rw [← HW.out]
    refine HC.out.mono ?_
    rintro e w1 ⟨A1, m1, C1, rfl, hm1, hc1, hn1, hr1, hb1⟩
    obtain ⟨wc, hwc⟩ : ∃ wc, wc = w1.alloc (unitObj 2 lb nb A1 m1 C1) := ⟨_, rfl⟩
    have hb1' : Below w1.heap.size w1 wc := by rw [hwc]; exact (Below.refl _ _).alloc (Nat.le_refl _) _
    have hbc : Below wb.heap.size wb wc := hb1.trans (hb1'.mono hb1.size)
    have hcall := readHead_any A1 ld m1 C1 _ wc hm1 (by have h1 : m1 = ld.length := hm1; have := HLD.out; omega) hn1 (hr1.old hb1') (HK.out.old hbc)
    unfold GotH at hcall
    rw [HH.out, ← HGE.out] at hcall
    have HC2 := Lib.hid hcall
    have HZ := Lib.hid (below_obj' hbc HU.out)
    have HTC := Lib.hid (below_tape hbc HT.out)
    have HBC := Lib.hid (HB.out.trans (hbc.mono HB.out.size))
    have HWC := Lib.hid hwc
    unfold unitObj at HWC
    clear hwc hbc hb1 hb1' hr1 hn1 hc1 hm1 t0 t1 t2 t3 hcall HU HT HB
    obtain ⟨t0, t1, t2, t3⟩ := tape4 HTC.out
    rw [HWC.out] at t0 t1 t2 t3
    go_wp2_with fail
    rw [← HWC.out]
    clear t0 t1 t2 t3
    refine HC2.out.mono ?_
    rintro e w2 ⟨rfl, hb2⟩
    obtain ⟨wd, hwd⟩ : ∃ wd, wd = w2.alloc (headObj P v z f l s m g) := ⟨_, rfl⟩
    obtain ⟨we, hwe⟩ : ∃ we, we = wd.alloc (partObj P v z f l s m g lab n) := ⟨_, rfl⟩
    have hb2' : Below w2.heap.size w2 wd := by rw [hwd]; exact (Below.refl _ _).alloc (Nat.le_refl _) _
    have hbd : Below wc.heap.size wc wd := hb2.trans (hb2'.mono hb2.size)
    have hbde : Below wd.heap.size wd we := by rw [hwe]; exact (Below.refl _ _).alloc (Nat.le_refl _) _
    have hbe : Below wc.heap.size wc we := hbd.trans (hbde.mono hbd.size)
    have HZE := Lib.hid (below_obj' hbe HZ.out)
    have HTE := Lib.hid (below_tape hbe HTC.out)
    have HBE := Lib.hid (HBC.out.trans (hbe.mono HBC.out.size))
    have HPE : Hid (we.heap[wd.heap.size]? = some (partObj P v z f l s m g lab n)) := Lib.hid (by rw [hwe]; exact Go.Deep.blk_alloc_new _ _)
    obtain ⟨t0, t1, t2, t3⟩ := tape4 (below_tape hbd HTC.out)
    have HWD := Lib.hid hwd
    unfold headObj at HWD
    have HWE := Lib.hid hwe
    unfold partObj at HWE
    obtain ⟨pb, hpb⟩ : ∃ pb, pb = w2.heap.size + 1 := ⟨_, rfl⟩
    have hpb' : pb = wd.heap.size := by rw [hpb, hwd]; simp
    have HPB := Lib.hid hpb
    rw [← hpb'] at HPE
    clear hpb' hwd hwe hb2 hb2' hbd hbde hbe hpb HC2 HZ HTC HBC HWC HC
    rw [HWD.out] at t0 t1 t2 t3
    go_wp2_with fail
    rw [← HWD.out, ← HWE.out, ← HPB.out]
    clear t0 t1 t2 t3
    obtain ⟨t0, t1, t2, t3⟩ := tape4 HTE.out
    obtain ⟨a0, a1, a2, a3, a4, a5, a6, a7, a8, a9⟩ := part10 HPE.out
    have hbel : Below we.heap.size we we.drew := (Below.refl _ _).drew
    have hX : ∀ y, Below we.heap.size we y → y.cell? ⟨pb, 0, none⟩ = some (.string (tx P)) ∧ y.cell? ⟨pb, 1, none⟩ = some (.int .i64 v) ∧ y.cell? ⟨pb, 2, none⟩ = some (.int .i64 z) ∧ y.cell? ⟨pb, 3, none⟩ = some (.int .i64 f) ∧ y.cell? ⟨pb, 4, none⟩ = some (.int .i64 l) ∧ y.cell? ⟨pb, 5, none⟩ = some (.int .i64 s) ∧ y.cell? ⟨pb, 6, none⟩ = some (.int .i64 m) ∧ y.cell? ⟨pb, 7, none⟩ = some (.bool g) ∧ y.cell? ⟨pb, 8, none⟩ = some (.int .i64 lab) ∧ y.cell? ⟨pb, 9, none⟩ = some (.int .i64 n) ∧ y.cell? ⟨w.heap.size, 2, none⟩ = some (.slice A L C) ∧ Below we.heap.size we y := fun y hy => by
      obtain ⟨b0, b1, b2, b3, b4, b5, b6, b7, b8, b9⟩ := part10 (below_obj' hy HPE.out)
      obtain ⟨-, -, c2, -⟩ := tape4 (below_tape hy HTE.out)
      exact ⟨b0, b1, b2, b3, b4, b5, b6, b7, b8, b9, c2, hy⟩
    have HX := Lib.hid hX
    have hx0 := hX _ hbel
    clear hX
    have hcall : ∀ y, Calls Tryd.prog 39 #[.agg #[.string (tx P), .int .i64 v, .int .i64 z, .int .i64 f, .int .i64 l, .int .i64 s, .int .i64 m, .bool g, .int .i64 lab, .int .i64 (n : Int)]] y fun e w' => e = .returned (.int .i64 ((n : Int) + (K : Int))) ∧ Below y.heap.size y w' := fun y => by rw [HKK.out]; exact behind_any P v z f l s m g lab (n : Int) (by omega) (by omega) y
    have HCB := Lib.hid hcall
    clear hcall
    go_region_held3 (fun y => y.cell? ⟨pb, 0, none⟩ = some (.string (tx P)) ∧ y.cell? ⟨pb, 1, none⟩ = some (.int .i64 v) ∧ y.cell? ⟨pb, 2, none⟩ = some (.int .i64 z) ∧ y.cell? ⟨pb, 3, none⟩ = some (.int .i64 f) ∧ y.cell? ⟨pb, 4, none⟩ = some (.int .i64 l) ∧ y.cell? ⟨pb, 5, none⟩ = some (.int .i64 s) ∧ y.cell? ⟨pb, 6, none⟩ = some (.int .i64 m) ∧ y.cell? ⟨pb, 7, none⟩ = some (.bool g) ∧ y.cell? ⟨pb, 8, none⟩ = some (.int .i64 lab) ∧ y.cell? ⟨pb, 9, none⟩ = some (.int .i64 n) ∧ y.cell? ⟨w.heap.size, 2, none⟩ = some (.slice A L C) ∧ Below we.heap.size we y)
      (first
        | exact hx1
        | exact hx0)
      (first
        | (go_at_call 39; refine (HCB.out _).mono ?_; rintro e wn ⟨rfl, hbn⟩; have hbt : Below we.heap.size we wn := hbel.trans (hbn.mono hbel.size); have hx1 := HX.out _ hbt; clear hbn))
    have HBZ := Lib.hid (HBE.out.trans (hbt.mono HBE.out.size))
    have HZZ := Lib.hid (below_obj' hbt HZE.out)
    have HPZ := Lib.hid (below_obj' hbt HPE.out)
    obtain ⟨z0, z1, z2, z3, z4, z5, z6, z7, z8, z9⟩ := part10 HZZ.out
    have y0 := part_frozen HZZ.out 0
    have y1 := part_frozen HZZ.out 1
    have y2 := part_frozen HZZ.out 2
    have y3 := part_frozen HZZ.out 3
    have y4 := part_frozen HZZ.out 4
    have y5 := part_frozen HZZ.out 5
    have y6 := part_frozen HZZ.out 6
    have y7 := part_frozen HZZ.out 7
    have y8 := part_frozen HZZ.out 8
    have y9 := part_frozen HZZ.out 9
    clear hx0 hx1 hbt hbel a0 a1 a2 a3 a4 a5 a6 a7 a8 a9
    go_wp2
    refine bodyPost_ret (v := .tuple #[.agg #[.string ⟨#[]⟩, .int .i64 0, .int .i64 0, .int .i64 0, .int .i64 0, .int .i64 0, .int .i64 0, .bool false, .int .i64 0, .int .i64 0], .bool false]) (by simp [results, Tryd.results38, go_sem, z0, z1, z2, z3, z4, z5, z6, z7, z8, z9]) rfl ?_
    rw [HRES.out]
    exact ⟨rfl, stored10 _ _ _ _ _ _ _ _ _ _ (by omega) HBZ.out⟩
  · have HRES := Lib.hid hres
    obtain ⟨K, hK⟩ : ∃ K, K = Vo.need l := ⟨_, rfl⟩
    have q1 : decide ((L : Int) < (n : Int) + (K : Int)) = false := decide_eq_false (by rw [hK]; omega)
    have hKl : K ≤ 65 := by rw [hK]; exact need_le l
    have HKK := Lib.hid hK
    clear hres hle hK
    subst hge
    go_enter Tryd.func38, Tryd.ntmps38
    go_wp2_with fail
    rw [← HW.out]
    refine HC.out.mono ?_
    rintro e w1 ⟨A1, m1, C1, rfl, hm1, hc1, hn1, hr1, hb1⟩
    obtain ⟨wc, hwc⟩ : ∃ wc, wc = w1.alloc (unitObj 2 lb nb A1 m1 C1) := ⟨_, rfl⟩
    have hb1' : Below w1.heap.size w1 wc := by rw [hwc]; exact (Below.refl _ _).alloc (Nat.le_refl _) _
    have hbc : Below wb.heap.size wb wc := hb1.trans (hb1'.mono hb1.size)
    have hcall := readHead_any A1 ld m1 C1 _ wc hm1 (by have h1 : m1 = ld.length := hm1; have := HLD.out; omega) hn1 (hr1.old hb1') (HK.out.old hbc)
    unfold GotH at hcall
    rw [HH.out, ← HGE.out] at hcall
    have HC2 := Lib.hid hcall
    have HZ := Lib.hid (below_obj' hbc HU.out)
    have HTC := Lib.hid (below_tape hbc HT.out)
    have HBC := Lib.hid (HB.out.trans (hbc.mono HB.out.size))
    have HWC := Lib.hid hwc
    unfold unitObj at HWC
    clear hwc hbc hb1 hb1' hr1 hn1 hc1 hm1 t0 t1 t2 t3 hcall HU HT HB
    obtain ⟨t0, t1, t2, t3⟩ := tape4 HTC.out
    rw [HWC.out] at t0 t1 t2 t3
    go_wp2_with fail
    rw [← HWC.out]
    clear t0 t1 t2 t3
    refine HC2.out.mono ?_
    rintro e w2 ⟨rfl, hb2⟩
    obtain ⟨wd, hwd⟩ : ∃ wd, wd = w2.alloc (headObj P v z f l s m g) := ⟨_, rfl⟩
    obtain ⟨we, hwe⟩ : ∃ we, we = wd.alloc (partObj P v z f l s m g lab n) := ⟨_, rfl⟩
    have hb2' : Below w2.heap.size w2 wd := by rw [hwd]; exact (Below.refl _ _).alloc (Nat.le_refl _) _
    have hbd : Below wc.heap.size wc wd := hb2.trans (hb2'.mono hb2.size)
    have hbde : Below wd.heap.size wd we := by rw [hwe]; exact (Below.refl _ _).alloc (Nat.le_refl _) _
    have hbe : Below wc.heap.size wc we := hbd.trans (hbde.mono hbd.size)
    have HZE := Lib.hid (below_obj' hbe HZ.out)
    have HTE := Lib.hid (below_tape hbe HTC.out)
    have HBE := Lib.hid (HBC.out.trans (hbe.mono HBC.out.size))
    have HPE : Hid (we.heap[wd.heap.size]? = some (partObj P v z f l s m g lab n)) := Lib.hid (by rw [hwe]; exact Go.Deep.blk_alloc_new _ _)
    obtain ⟨t0, t1, t2, t3⟩ := tape4 (below_tape hbd HTC.out)
    have HWD := Lib.hid hwd
    unfold headObj at HWD
    have HWE := Lib.hid hwe
    unfold partObj at HWE
    obtain ⟨pb, hpb⟩ : ∃ pb, pb = w2.heap.size + 1 := ⟨_, rfl⟩
    have hpb' : pb = wd.heap.size := by rw [hpb, hwd]; simp
    have HPB := Lib.hid hpb
    rw [← hpb'] at HPE
    clear hpb' hwd hwe hb2 hb2' hbd hbde hbe hpb HC2 HZ HTC HBC HWC HC
    rw [HWD.out] at t0 t1 t2 t3
    go_wp2_with fail
    rw [← HWD.out, ← HWE.out, ← HPB.out]
    clear t0 t1 t2 t3
    obtain ⟨t0, t1, t2, t3⟩ := tape4 HTE.out
    obtain ⟨a0, a1, a2, a3, a4, a5, a6, a7, a8, a9⟩ := part10 HPE.out
    have hbel : Below we.heap.size we we.drew := (Below.refl _ _).drew
    have hX : ∀ y, Below we.heap.size we y → y.cell? ⟨pb, 0, none⟩ = some (.string (tx P)) ∧ y.cell? ⟨pb, 1, none⟩ = some (.int .i64 v) ∧ y.cell? ⟨pb, 2, none⟩ = some (.int .i64 z) ∧ y.cell? ⟨pb, 3, none⟩ = some (.int .i64 f) ∧ y.cell? ⟨pb, 4, none⟩ = some (.int .i64 l) ∧ y.cell? ⟨pb, 5, none⟩ = some (.int .i64 s) ∧ y.cell? ⟨pb, 6, none⟩ = some (.int .i64 m) ∧ y.cell? ⟨pb, 7, none⟩ = some (.bool g) ∧ y.cell? ⟨pb, 8, none⟩ = some (.int .i64 lab) ∧ y.cell? ⟨pb, 9, none⟩ = some (.int .i64 n) ∧ y.cell? ⟨w.heap.size, 2, none⟩ = some (.slice A L C) ∧ Below we.heap.size we y := fun y hy => by
      obtain ⟨b0, b1, b2, b3, b4, b5, b6, b7, b8, b9⟩ := part10 (below_obj' hy HPE.out)
      obtain ⟨-, -, c2, -⟩ := tape4 (below_tape hy HTE.out)
      exact ⟨b0, b1, b2, b3, b4, b5, b6, b7, b8, b9, c2, hy⟩
    have HX := Lib.hid hX
    have hx0 := hX _ hbel
    clear hX
    have hcall : ∀ y, Calls Tryd.prog 39 #[.agg #[.string (tx P), .int .i64 v, .int .i64 z, .int .i64 f, .int .i64 l, .int .i64 s, .int .i64 m, .bool g, .int .i64 lab, .int .i64 (n : Int)]] y fun e w' => e = .returned (.int .i64 ((n : Int) + (K : Int))) ∧ Below y.heap.size y w' := fun y => by rw [HKK.out]; exact behind_any P v z f l s m g lab (n : Int) (by omega) (by omega) y
    have HCB := Lib.hid hcall
    clear hcall
    go_region_held3 (fun y => y.cell? ⟨pb, 0, none⟩ = some (.string (tx P)) ∧ y.cell? ⟨pb, 1, none⟩ = some (.int .i64 v) ∧ y.cell? ⟨pb, 2, none⟩ = some (.int .i64 z) ∧ y.cell? ⟨pb, 3, none⟩ = some (.int .i64 f) ∧ y.cell? ⟨pb, 4, none⟩ = some (.int .i64 l) ∧ y.cell? ⟨pb, 5, none⟩ = some (.int .i64 s) ∧ y.cell? ⟨pb, 6, none⟩ = some (.int .i64 m) ∧ y.cell? ⟨pb, 7, none⟩ = some (.bool g) ∧ y.cell? ⟨pb, 8, none⟩ = some (.int .i64 lab) ∧ y.cell? ⟨pb, 9, none⟩ = some (.int .i64 n) ∧ y.cell? ⟨w.heap.size, 2, none⟩ = some (.slice A L C) ∧ Below we.heap.size we y)
      (first
        | exact hx1
        | exact hx0)
      (first
        | (go_at_call 39; refine (HCB.out _).mono ?_; rintro e wn ⟨rfl, hbn⟩; have hbt : Below we.heap.size we wn := hbel.trans (hbn.mono hbel.size); have hx1 := HX.out _ hbt; clear hbn))
    have HBZ := Lib.hid (HBE.out.trans (hbt.mono HBE.out.size))
    have HZZ := Lib.hid (below_obj' hbt HZE.out)
    have HPZ := Lib.hid (below_obj' hbt HPE.out)
    obtain ⟨z0, z1, z2, z3, z4, z5, z6, z7, z8, z9⟩ := part10 HZZ.out
    have y0 := part_frozen HZZ.out 0
    have y1 := part_frozen HZZ.out 1
    have y2 := part_frozen HZZ.out 2
    have y3 := part_frozen HZZ.out 3
    have y4 := part_frozen HZZ.out 4
    have y5 := part_frozen HZZ.out 5
    have y6 := part_frozen HZZ.out 6
    have y7 := part_frozen HZZ.out 7
    have y8 := part_frozen HZZ.out 8
    have y9 := part_frozen HZZ.out 9
    clear hx0 hx1 hbt hbel a0 a1 a2 a3 a4 a5 a6 a7 a8 a9
    obtain ⟨a0, a1, a2, a3, a4, a5, a6, a7, a8, a9⟩ := part10 HPZ.out
    go_wp2
    refine bodyPost_ret (v := .tuple #[.agg #[.string (tx P), .int .i64 v, .int .i64 z, .int .i64 f, .int .i64 l, .int .i64 s, .int .i64 m, .bool g, .int .i64 lab, .int .i64 (n : Int)], .bool true]) (by simp [results, Tryd.results38, go_sem, z0, z1, z2, z3, z4, z5, z6, z7, z8, z9]) rfl ?_
    rw [HRES.out]
    exact ⟨rfl, stored10 _ _ _ _ _ _ _ _ _ _ (by omega) HBZ.out⟩
end Go.Proofs.YtbijjgicjkmopaaDoor
namespace Go.Proofs.YtbijjgicjkmopaaDoor
open Go.RowKit

/-- each in so many cells -/
structure Enc (α : Type) where
  k : Nat
  pos : 0 < k
  enc : α → List Value
  len : ∀ x, (enc x).length = k
  one : ∀ x, ∀ u ∈ enc x, u.oneCell' = true
namespace Enc
variable {α : Type} (E : Enc α)
def cells (l : List α) : List Value := l.flatMap E.enc
theorem cells_nil : E.cells [] = [] := rfl
theorem cells_cons (x : α) (l : List α) : E.cells (x :: l) = E.enc x ++ E.cells l := rfl
theorem cells_append (l l' : List α) : E.cells (l ++ l') = E.cells l ++ E.cells l' := by unfold cells; exact List.flatMap_append
theorem cells_one (x : α) : E.cells [x] = E.enc x := by rw [cells_cons, cells_nil, List.append_nil]
theorem cells_len : ∀ l : List α, (E.cells l).length = l.length * E.k
  | [] => by rw [cells_nil]; simp
  | x :: l => by rw [cells_cons, List.length_append, E.len, cells_len l, List.length_cons, Nat.succ_mul]; omega
theorem cells_get : ∀ (l : List α) (i j : Nat) (_ : j < E.k) (hi : i < l.length), (E.cells l)[i * E.k + j]? = (E.enc l[i])[j]?
  | [], i, j, _, hi => absurd hi (by simp)
  | x :: l, 0, j, hj, hi => by
    rw [cells_cons, Nat.zero_mul, Nat.zero_add, List.getElem?_append_left (by rw [E.len]; exact hj)]; rfl
  | x :: l, i + 1, j, hj, hi => by
    rw [cells_cons, List.getElem?_append_right (by rw [E.len, Nat.succ_mul]; omega), E.len, show (i + 1) * E.k + j - E.k = i * E.k + j by rw [Nat.succ_mul]; omega]
    exact cells_get l i j hj (by simpa using hi)
theorem cells_all (l : List α) : ∀ u ∈ E.cells l, u.oneCell' = true := by
  intro u hu
  unfold cells at hu
  obtain ⟨x, _, hx⟩ := List.mem_flatMap.1 hu
  exact E.one x u hx
/-- the slice at A of these structs reads as the list l, and lies in a block of G -/
def Rd (w : World) (A : Option Addr) (l : List α) (G : Nat → Prop) : Prop :=
  0 < l.length → ∃ b off, A = some ⟨b, off, none⟩ ∧ G b ∧ ∀ i (hi : i < l.length) j u, (E.enc l[i])[j]? = some u → w.cell? ⟨b, off + i * E.k + j, none⟩ = some u
/-- v is a slice of the call's own that holds the list l -/
def Own (w : World) (base : Nat) (t : TypeId) (v : Value) (l : List α) : Prop := w.ownsRow base t E.k v l.length (E.cells l)
variable {E}
theorem Rd.nil (w : World) (A : Option Addr) (G : Nat → Prop) : E.Rd w A [] G := fun h => absurd h (by simp)
theorem Rd.keep {w w' : World} {A : Option Addr} {l : List α} {G : Nat → Prop} (h : E.Rd w A l G) (hk : ∀ p v, G p.block → w.cell? p = some v → w'.cell? p = some v) : E.Rd w' A l G := fun hn => by
  obtain ⟨b, off, e, hg, hc⟩ := h hn
  exact ⟨b, off, e, hg, fun i hi j u hu => hk _ _ hg (hc i hi j u hu)⟩
theorem Rd.mono {w : World} {A : Option Addr} {l : List α} {G G' : Nat → Prop} (h : E.Rd w A l G) (hg : ∀ b, G b → G' b) : E.Rd w A l G' := fun hn => by
  obtain ⟨b, off, e, hb, hc⟩ := h hn
  exact ⟨b, off, e, hg _ hb, hc⟩
theorem Rd.old {w w' : World} {A : Option Addr} {l : List α} {G : Nat → Prop} (h : E.Rd w A l G) (hb : Below w.heap.size w w') : E.Rd w' A l G := h.keep fun _ _ _ hc => (hb.cell (World.block_lt_of_cell? _ _ hc)).trans hc
theorem Rd.kp {w w' : World} {A : Option Addr} {l : List α} {G S : Nat → Prop} (h : E.Rd w A l G) (hk : Kp S w w') (hs : ∀ b, G b → ¬ S b) : E.Rd w' A l G := h.keep fun _ _ hg hc => hk.cell hc (hs _ hg)
theorem Rd.at_ {w : World} {A : Option Addr} {l : List α} {G : Nat → Prop} (h : E.Rd w A l G) {i : Nat} (hi : i < l.length) : ∃ b off, A = some ⟨b, off, none⟩ ∧ G b ∧ ∀ j u, (E.enc l[i])[j]? = some u → w.cell? ⟨b, off + i * E.k + j, none⟩ = some u := by
  obtain ⟨b, off, e, hg, hc⟩ := h (by omega)
  exact ⟨b, off, e, hg, hc i hi⟩
theorem Own.nil (w : World) (base : Nat) (t : TypeId) : E.Own w base t (.slice none 0 0) [] := World.ownsRow_nil _ _ _ _
theorem Own.of_block {w w' : World} {base : Nat} {t : TypeId} {v : Value} {l : List α} (h : E.Own w base t v l) (hb : ∀ k, v.ownBlock = some k → w'.heap[k]? = w.heap[k]?) : E.Own w' base t v l := by
  refine ⟨h.1, ?_⟩
  rcases h.2 with h0 | ⟨g, cap, cur, rfl, hb', hg, hr⟩
  · exact .inl h0
  · exact .inr ⟨g, cap, cur, rfl, hb', (hb g rfl).trans hg, hr⟩
theorem Own.lt {w : World} {base : Nat} {t : TypeId} {v : Value} {l : List α} (h : E.Own w base t v l) : ∀ k, v.ownBlock = some k → base ≤ k ∧ k < w.heap.size := fun k hk => World.ownsRow.lt h k hk
theorem Own.old {w w' : World} {base : Nat} {t : TypeId} {v : Value} {l : List α} (h : E.Own w base t v l) (hb : Below w.heap.size w w') : E.Own w' base t v l := h.of_block fun k e => hb.block k (h.lt k e).2
/-- its block, if it has one -/
theorem Own.block {w : World} {base : Nat} {t : TypeId} {v : Value} {l : List α} (h : E.Own w base t v l) : ∀ k, v.ownBlock = some k → ∃ c, w.heap[k]? = some (.cells c t (0, 0)) := by
  intro k hk
  rcases h.2 with ⟨rfl, h0⟩ | ⟨g, cap, cur, rfl, hb, hg, hnc, _, hs, ht⟩
  · cases hk
  · cases hk; exact ⟨cur, hg⟩
/-- as a value that reads -/
theorem Own.rd {w : World} {base : Nat} {t : TypeId} {v : Value} {l : List α} (h : E.Own w base t v l) : ∃ A C, v = .slice A l.length C ∧ l.length ≤ C ∧ C ≤ maxLen ∧ (A = none → l.length = 0 ∧ C = 0) ∧ E.Rd w A l (fun b => base ≤ b ∧ v.ownBlock = some b) := by
  rcases h.2 with ⟨rfl, h0⟩ | ⟨g, cap, cur, rfl, hb, hg, hnc, hcm, hs, ht⟩
  · have : l = [] := List.length_eq_zero_iff.1 h0
    subst this
    exact ⟨none, 0, rfl, Nat.le_refl _, by decide, fun _ => ⟨rfl, rfl⟩, Rd.nil _ _ _⟩
  · refine ⟨_, cap, rfl, hnc, hcm, (fun h => by cases h), fun _ => ⟨g, 0, rfl, ⟨hb, rfl⟩, fun i hi j u hu => ?_⟩⟩
    have hj : j < E.k := by rw [← E.len l[i]]; exact (List.getElem?_eq_some_iff.1 hu).1
    have hx := E.cells_get l i j hj hi
    have hlt : i * E.k + j < l.length * E.k := by
      have h1 : (i + 1) * E.k ≤ l.length * E.k := Nat.mul_le_mul_right _ hi
      rw [Nat.succ_mul] at h1
      omega
    rw [hu, ← ht, List.getElem?_take, if_pos hlt, Array.getElem?_toList] at hx
    rw [show 0 + i * E.k + j = i * E.k + j by omega, heap_cell hg, hx]
end Enc
/-- a new block's cells -/
theorem newCells (w : World) (c : List Value) (t : TypeId) : ∀ j u, c[j]? = some u → (w.alloc (.cells c.toArray t)).cell? ((⟨w.heap.size, 0, none⟩ : Addr).add j) = some u := by
  intro j u hu
  rw [addr_add, heap_cell (Go.Deep.blk_alloc_new _ _), Nat.zero_add]
  simpa using hu
theorem newCellsAt (w : World) (c : List Value) (t : TypeId) (s : Nat) (hs : s = w.heap.size) : ∀ j u, c[j]? = some u → (w.alloc (.cells c.toArray t)).cell? ((⟨s, 0, none⟩ : Addr).add j) = some u := by
  subst hs; exact newCells w c t
/-- append of some structs -/
theorem wpList_append_st' {P : Program} {α : Type} (E : Enc α) (w : World) {ops : Array Oper} {rest : List Oper} {o : Oper} {a : Act} {Q : Exit → Act → World → Prop} (hgd : o.guard = none) (s x : Operand) (t : TypeId)
    (ho : o.op = .call { callee := .builtin .append, args := #[s, x], argTypes := #[t, t] })
    (base : Nat) (e : TypeId) (z : Value) (bytes : Nat) (ht : P.underlying t = some (.slice e)) (hi : (P.info? e).map (fun i => (i.zero, i.size, i.bytes)) = some (some z, E.k, bytes)) (hzs : z.cells.size = E.k)
    (v : Value) (l : List α) (hs : a.eval s = v) (hown : E.Own w base e v l)
    (ad : Addr) (m c : Nat) (l' : List α) (hx : a.eval x = .slice (some ad) m c) (hm : m = l'.length) (hnews : ∀ j u, (E.cells l')[j]? = some u → w.cell? (ad.add j) = some u)
    (h63 : l.length + m ≤ maxLen) (hbytes : (l.length + m) * bytes ≤ 140737488355328) (hbase : base ≤ w.heap.size)
    (h : ∀ v' w', E.Own w' base e v' (l ++ l') → w.grownBy w' v.ownBlock → wpList P ops Q rest (a.put o.dst v') w') : wpList P ops Q (o :: rest) a w := by
  obtain ⟨i0, hi, hz0, hz1, hz2⟩ := info_parts hi
  subst hm
  exact wpList_append_own w hgd s x t ho base e i0 z E.k bytes ht hi hz0 hz1 hz2 hzs E.pos v l.length (E.cells l) hs hown ad l'.length c (E.cells l') hx (E.cells_len l') hnews (E.cells_all l') h63 hbytes hbase (fun v' w' h2 h3 _ => h v' w' (by unfold Enc.Own; rw [E.cells_append, List.length_append]; exact h2) h3)
end Go.Proofs.YtbijjgicjkmopaaDoor
namespace Go.Proofs.YtbijjgicjkmopaaDoor
open Go.RowKit
open Pt (Tx)

/-- a part's ten cells -/
def cells10 (h : Rc.H) (lab at_ : Int) : List Value := [.string (tx h.path), .int .i64 h.version, .int .i64 h.size, .int .i64 h.from_, .int .i64 h.len, .int .i64 h.serial, .int .i64 h.sum, .bool h.gone, .int .i64 lab, .int .i64 at_]
def encP (lab : Int) : Enc (Rc.H × Nat) where
  k := 10
  pos := by decide
  enc q := cells10 q.1 lab q.2
  len _ := rfl
  one q u hu := by
    simp only [cells10, List.mem_cons, List.not_mem_nil, or_false] at hu
    rcases hu with rfl | rfl | rfl | rfl | rfl | rfl | rfl | rfl | rfl | rfl <;> rfl
theorem infoPart : (Tryd.prog.info? 44).map (fun i => (i.zero, i.size, i.bytes)) = some (some (.agg #[.string ⟨#[]⟩, .int .i64 0, .int .i64 0, .int .i64 0, .int .i64 0, .int .i64 0, .int .i64 0, .bool false, .int .i64 0, .int .i64 0]), 10, 88) := by kernel_rfl
/-- what Parts answers, in new memory -/
def PartsA (lab : Int) (l : List (Rc.H × Nat)) (w : World) (e : Ending) (w' : World) : Prop :=
  ∃ A C, e = .returned (.slice A l.length C) ∧ l.length ≤ C ∧ C ≤ maxLen ∧ (A = none → l.length = 0 ∧ C = 0) ∧ (encP lab).Rd w' A l (w.heap.size ≤ ·) ∧ Below w.heap.size w w'
theorem scan_end {t : Vo.T} {f n : Nat} (h : t.blocks.length ≤ n) : Vo.scan t f n = [] := by
  cases f with
  | zero => rfl
  | succ f => rw [Vo.scan, if_neg (by omega)]
theorem scan_no {t : Vo.T} {f n : Nat} (h : n < t.blocks.length) (hp : Vo.part t n = none) : Vo.scan t (f + 1) n = Vo.scan t f (n + 1) := by
  rw [Vo.scan, if_pos h, hp]
theorem scan_yes {t : Vo.T} {f n : Nat} {q : Rc.H} (h : n < t.blocks.length) (hp : Vo.part t n = some q) : Vo.scan t (f + 1) n = (q, n) :: Vo.scan t f (n + Vo.need q.len) := by
  rw [Vo.scan, if_pos h, hp, need_head (Vo.part_in hp).2]
  rfl
theorem snoc_append {α : Type} (a : List α) (x : α) (b : List α) : a ++ x :: b = (a ++ [x]) ++ b := by rw [List.append_assoc]; rfl
/-- what is as it was when a list of structs has grown -/
theorem grown_keeps {α : Type} {E : Enc α} {w wr w2 w3 : World} {t : TypeId} {v : Value} {l : List α} {S : Nat} {o' : Obj} (h : E.Own wr (S + 1) t v l) (hw : w.heap.size = S) (hb : Below w.heap.size w wr) (h2 : Below wr.heap.size wr w2) (hg : (w2.alloc o').grownBy w3 v.ownBlock) :
    (∀ b o, wr.heap.size ≤ b → w2.heap[b]? = some o → w3.heap[b]? = some o) ∧ (∀ o, w2.heap[S]? = some o → w3.heap[S]? = some o) ∧ Below w.heap.size w w3 := by
  have ha : ∀ b o, w2.heap[b]? = some o → (w2.alloc o').heap[b]? = some o := fun b o hb' => (Below.heap_alloc _ _ _ (heap_lt hb')).trans hb'
  have hlt : ∀ b o, w2.heap[b]? = some o → b < (w2.alloc o').heap.size := fun b o hb' => by have := heap_lt hb'; simp; omega
  refine ⟨fun b o hb' ho => (hg.block b (hlt b o ho) fun e => ?_).trans (ha b o ho), fun o ho => (hg.block S (hlt S o ho) fun e => ?_).trans (ha S o ho), ?_⟩
  · have := (h.lt b e.symm).2; omega
  · have := (h.lt S e.symm).1; omega
  · have h3 : Below w.heap.size w w2 := hb.trans (h2.mono hb.size)
    exact (h3.alloc h3.size _).grown hg (by have := h3.size; simp; omega) (fun x hx => by have := (h.lt x hx).1; omega)
set_option maxHeartbeats 4000000 in
theorem parts_any (lab cap : Int) (bs : List Tx) (A : Option Addr) (L C : Nat) (G : Nat → Prop) (lost : Bool) (w : World) (hL : L = bs.length) (hr : RdB w A bs G) (hs : L ≤ 1000000) (hl : ∀ s ∈ bs, s.length ≤ 1000000) (hk : Kept w) :
    Calls Tryd.prog 28 #[.agg #[.int .i64 lab, .int .i64 cap, .slice A L C, .bool lost]] w (PartsA lab (Vo.parts ⟨lab, bs, lost⟩) w) := by
  obtain ⟨wb, hwb⟩ : ∃ wb, wb = w.alloc (tapeObj lab cap A L C lost) := ⟨_, rfl⟩
  have hB : Below w.heap.size w wb := by rw [hwb]; exact (Below.refl _ _).alloc (Nat.le_refl _) _
  have hT : wb.heap[w.heap.size]? = some (tapeObj lab cap A L C lost) := by rw [hwb]; exact Go.Deep.blk_alloc_new _ _
  obtain ⟨T, hTd⟩ : ∃ T : Vo.T, T = ⟨lab, bs, lost⟩ := ⟨_, rfl⟩
  have hlen : T.blocks.length = L := by rw [hTd, hL]
  have HT0 := Lib.hid hT
  have HB0 := Lib.hid hB
  have HW := Lib.hid hwb
  unfold tapeObj at HW
  have HR := Lib.hid hr
  have HK := Lib.hid hk
  have HL := Lib.hid hl
  have HTD := Lib.hid hTd
  have HLEN := Lib.hid hlen
  have HLL := Lib.hid hL
  rw [← hTd]
  have HP0 : Hid (Vo.parts T = [] ++ Vo.scan T L 1) := Lib.hid (by rw [List.nil_append, ← hlen]; rfl)
  clear hB hT hwb hr hk hl hTd hlen hL
  go_enter Tryd.func28, Tryd.ntmps28
  go_wp2_with fail
  rw [← HW.out]
  go_loopw [4, 3] (fun vn vl wr => ∃ (n f : Nat) (pre : List (Rc.H × Nat)), n ≤ L + 1 ∧ L ≤ n + f ∧ pre.length ≤ n ∧ vn = .int .i64 (n : Int) ∧ Hid (Vo.parts T = pre ++ Vo.scan T f n) ∧ Hid ((encP lab).Own wr (w.heap.size + 1) 44 vl pre) ∧ Hid (Below w.heap.size w wr) ∧ Hid (wr.heap[w.heap.size]? = some (tapeObj lab cap A L C lost))) (fun vn _ _ => L + 1 - (intOf vn).toNat)
  case atStart => exact ⟨1, L, [], by omega, by omega, Nat.zero_le _, rfl, HP0, Lib.hid (Enc.Own.nil _ _ _), HB0, HT0⟩
  case round =>
    obtain ⟨n, f, pre, hn1, hn2, hn3, rfl, HP, HO, HB, HT⟩ := hrel
    obtain ⟨t0, t1, t2, t3⟩ := tape4 HT.out
    by_cases hlt : n < L
    · obtain ⟨f, rfl⟩ : ∃ f', f = f' + 1 := ⟨f - 1, by omega⟩
      have hltT : n < T.blocks.length := by rw [HLEN.out]; exact hlt
      have hcall := partAt_any lab cap bs A L C G lost n wr HLL.out (HR.out.old HB.out) (by omega) HL.out (HK.out.old HB.out)
      rw [← HTD.out] at hcall
      have HC := Lib.hid hcall
      clear hcall
      cases hp : Vo.part T n with
      | none =>
        have HP2 : Hid (Vo.parts T = pre ++ Vo.scan T f (n + 1)) := Lib.hid (by rw [← scan_no hltT hp]; exact HP.out)
        rw [hp] at HC
        clear hp hltT
        go_wp2_with fail
        refine HC.out.mono ?_
        rintro e w1 ⟨rfl, hb1⟩
        have hb2 : Below wr.heap.size wr (w1.alloc (.cells (cells10 Rc.H.zero 0 0).toArray 44)) := hb1.alloc hb1.size _
        have HB2 := Lib.hid (HB.out.trans (hb2.mono HB.out.size))
        have HT2 := Lib.hid (below_obj' hb2 HT.out)
        have HO2 := Lib.hid (HO.out.old hb2)
        clear t0 t1 t2 t3 hb1 hb2
        unfold partV
        go_wp2
        go_roundw
        case rel => exact ⟨n + 1, f, pre, by omega, by omega, by omega, by go_num, HP2, HO2, HB2, HT2⟩
        case measure => simp [intOf]; omega
      | some q =>
        have HP2 : Hid (Vo.parts T = (pre ++ [(q, n)]) ++ Vo.scan T f (n + Vo.need q.len)) := Lib.hid (by rw [← snoc_append, ← scan_yes hltT hp]; exact HP.out)
        have hin := (Vo.part_in hp).1
        have hq := need_head (Vo.part_in hp).2
        rw [HLEN.out] at hin
        rw [hp] at HC
        clear hp hltT
        obtain ⟨P, v, z, fr, l, s, m, g⟩ := q
        have hin' : n + Vo.data l.toNat + 1 < L := hin
        have hq' : Vo.need l = Vo.data l.toNat + 2 := hq
        obtain ⟨K, hK⟩ : ∃ K, K = Vo.need l := ⟨_, rfl⟩
        have hK2 : n + K ≤ L ∧ 2 ≤ K := by rw [hK]; omega
        have HP3 : Hid (Vo.parts T = (pre ++ [(⟨P, v, z, fr, l, s, m, g⟩, n)]) ++ Vo.scan T f (n + K)) := Lib.hid (by rw [hK]; exact HP2.out)
        have hcall : ∀ y, Calls Tryd.prog 39 #[.agg #[.string (tx P), .int .i64 v, .int .i64 z, .int .i64 fr, .int .i64 l, .int .i64 s, .int .i64 m, .bool g, .int .i64 lab, .int .i64 (n : Int)]] y fun e w' => e = .returned (.int .i64 ((n : Int) + (K : Int))) ∧ Below y.heap.size y w' := fun y => by rw [hK]; exact behind_any P v z fr l s m g lab (n : Int) (by omega) (by omega) y
        have HCB := Lib.hid hcall
        clear hin hq hin' hq' hK HP2 hcall
        go_wp2_with fail
        refine HC.out.mono ?_
        rintro e w1 ⟨rfl, hb1⟩
        obtain ⟨w2, hw2⟩ : ∃ w2, w2 = w1.alloc (partObj P v z fr l s m g lab n) := ⟨_, rfl⟩
        have hb2 : Below wr.heap.size wr w2 := by rw [hw2]; exact hb1.alloc hb1.size _
        have hP2 : w2.heap[w1.heap.size]? = some (partObj P v z fr l s m g lab n) := by rw [hw2]; exact Go.Deep.blk_alloc_new _ _
        have HP2 := Lib.hid hP2
        have HB2 := Lib.hid (HB.out.trans (hb2.mono HB.out.size))
        have HT2 := Lib.hid (below_obj' hb2 HT.out)
        have HO2 := Lib.hid (HO.out.old hb2)
        have HW2 : Hid (w2 = w1.alloc (.cells #[.string (tx P), .int .i64 v, .int .i64 z, .int .i64 fr, .int .i64 l, .int .i64 s, .int .i64 m, .bool g, .int .i64 lab, .int .i64 (n : Int)] 44)) := Lib.hid hw2
        have hO3 := HO2.out.old (w' := w2.alloc (.cells (cells10 ⟨P, v, z, fr, l, s, m, g⟩ lab n).toArray 44)) ((Below.refl _ _).alloc (Nat.le_refl _) _)
        have hsz : w2.heap.size = w1.heap.size + 1 := by rw [hw2]; simp
        have hbz : w.heap.size ≤ w2.heap.size := HB2.out.size
        have HSZ := Lib.hid hsz
        rw [HW2.out] at hO3
        have HO3 := Lib.hid hO3
        have hlo : wr.heap.size ≤ w1.heap.size := hb1.size
        have hlo0 : w.heap.size < wr.heap.size := heap_lt HT.out
        have HB2' := Lib.hid hb2
        clear hb1 hb2 hP2 hw2 t0 t1 t2 t3 hO3 hsz HC
        unfold partV
        go_wp2_with (at_builtin; refine wpList_append_st' (encP lab) _ rfl _ _ _ rfl (w.heap.size + 1) 44 _ 88 Tryd.underlying42 infoPart rfl _ pre rfl HO3.out ⟨w1.heap.size + 1, 0, none⟩ 1 1 [(⟨P, v, z, fr, l, s, m, g⟩, n)] rfl rfl (newCellsAt _ (cells10 ⟨P, v, z, fr, l, s, m, g⟩ lab n) _ _ (by simp)) (by unfold maxLen; omega) (by omega) (by simp; omega) ?_; intro v' w3 hO4 hg4; rw [← HW2.out] at hg4; obtain ⟨k1, k2, k3⟩ := grown_keeps HO.out rfl HB.out HB2'.out hg4; obtain ⟨a0, a1, a2, a3, a4, a5, a6, a7, a8, a9⟩ := part10 (k1 _ _ hlo HP2.out); have HT4 := Lib.hid (k2 _ HT2.out); have HB4 := Lib.hid k3; have HO4 := Lib.hid hO4; clear k1 k2 k3 hO4 hg4)
        refine (HCB.out _).mono ?_
        rintro e w4 ⟨rfl, hb4⟩
        have HB5 := Lib.hid (HB4.out.trans (hb4.mono HB4.out.size))
        have HT5 := Lib.hid (below_obj' hb4 HT4.out)
        have HO5 := Lib.hid (HO4.out.old hb4)
        clear a0 a1 a2 a3 a4 a5 a6 a7 a8 a9 hb4
        go_wp2
        go_roundw
        case rel => exact ⟨n + K, f, _, by omega, by omega, by simp; omega, by go_num, HP3, HO5, HB5, HT5⟩
        case measure => simp [intOf]; omega
    · have hend : Vo.parts T = pre := by
        rw [HP.out, scan_end (by rw [HLEN.out]; omega), List.append_nil]
      have HE := Lib.hid hend
      obtain ⟨A', C', hv, h1, h2, h3, h4⟩ := HO.out.rd
      have HR4 := Lib.hid h4
      have H3 := Lib.hid h3
      clear hend h3 h4
      subst hv
      go_wp2
      go_ret
      rw [HE.out]
      exact ⟨A', C', rfl, h1, h2, H3.out, HR4.out.mono fun x hx => by omega, HB.out⟩
end Go.Proofs.YtbijjgicjkmopaaDoor
