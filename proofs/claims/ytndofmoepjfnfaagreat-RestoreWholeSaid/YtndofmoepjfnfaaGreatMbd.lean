/- How many blocks so many bytes take: what the document's own Data and Cut answer (parted from VoNeedR). What the document's own part at a block answers. Units in a row: what a unit's cells are; one struct in a block of its own. No function of the program. append of a row of structs that may be nil. No function of the program. -/
import Derived.Test.YtndofmoepjfnfaaGreatMae
import Derived.Test.YtndofmoepjfnfaaGreatChecked
import Derived.OwnWalk
import Derived.Handy
import Derived.WalkSpells
import Derived.WalkLawsBesides
import Derived.Test.YtndofmoepjfnfaaGreatMax
import Derived.Test.YtndofmoepjfnfaaGreatMba
import Derived.Test.YtndofmoepjfnfaaGreatMbc
import Derived.Deep.RegionHeld3
import Derived.BigQuiet
import Derived.Deep.QuietTactic
import Derived.Test.YtndofmoepjfnfaaGreatMak
import Derived.Test.YtndofmoepjfnfaaGreatMac
namespace Go.Proofs.YtndofmoepjfnfaaGreat
open Go.RowKit
open Pt (Tx)

theorem refCut_any (n a b : Int) (h : a ≤ b) (w : World) : Calls Tryz.prog 17 #[.int .i64 n, .int .i64 a, .int .i64 b] w fun e w' => e = .returned (.int .i64 (min (max n a) b)) ∧ w = w' := by
  by_cases h0 : n < a
  · have H : Hid (min (max n a) b = a) := Lib.hid (by omega)
    go_enter Tryz.func17, Tryz.ntmps17
    go_wp2
    go_ret
    exact ⟨by rw [H.out]; first | done | rfl | (exact congrArg (fun k : Int => Ending.returned (.int .i64 k)) (by omega)), rfl⟩
  · by_cases h1 : b < n
    · have H : Hid (min (max n a) b = b) := Lib.hid (by omega)
      go_enter Tryz.func17, Tryz.ntmps17
      go_wp2
      go_ret
      exact ⟨by rw [H.out]; first | done | rfl | (exact congrArg (fun k : Int => Ending.returned (.int .i64 k)) (by omega)), rfl⟩
    · have H : Hid (min (max n a) b = n) := Lib.hid (by omega)
      go_enter Tryz.func17, Tryz.ntmps17
      go_wp2
      go_ret
      exact ⟨by rw [H.out]; first | done | rfl | (exact congrArg (fun k : Int => Ending.returned (.int .i64 k)) (by omega)), rfl⟩
theorem refData_any (n : Int) (h : n ≤ 1000000000) (w : World) : Calls Tryz.prog 42 #[.int .i64 n] w fun e w' => e = .returned (.int .i64 (Vo.data n.toNat : Int)) ∧ w = w' := by
  by_cases h0 : n < 1
  · have H : Hid (Vo.data n.toNat = 0) := Lib.hid (by unfold Vo.data; omega)
    go_enter Tryz.func42, Tryz.ntmps42
    go_wp2
    go_ret
    exact ⟨by rw [H.out]; first | done | rfl | (exact congrArg (fun k : Int => Ending.returned (.int .i64 k)) (by omega)), rfl⟩
  · have H : Hid ((Vo.data n.toNat : Int) = (n - 1) / 64 + 1) := Lib.hid (by unfold Vo.data; omega)
    go_enter Tryz.func42, Tryz.ntmps42
    go_wp2
    go_ret
    exact ⟨by rw [H.out]; first | done | rfl | (exact congrArg (fun k : Int => Ending.returned (.int .i64 k)) (by omega)), rfl⟩
end Go.Proofs.YtndofmoepjfnfaaGreat
namespace Go.Proofs.YtndofmoepjfnfaaGreat
open Go.RowKit
open Pt (Tx)

theorem head_frz {w : World} {B : Nat} {p : Tx} {v z f l s m : Int} {g : Bool} (h : w.heap[B]? = some (headObj p v z f l s m g)) (j : Nat) : w.frozen? ⟨B, j, none⟩ = false := heap_frozen h
theorem two_objs {w wb : World} {o1 o2 : Obj} (h : wb = (w.alloc o1).alloc o2) : Below w.heap.size w wb ∧ wb.heap[w.heap.size]? = some o1 ∧ wb.heap[w.heap.size + 1]? = some o2 := by
  subst h
  refine ⟨((Below.refl _ _).alloc (Nat.le_refl _) _).alloc (by simp) _, (Below.heap_alloc _ _ _ (by simp)).trans (Go.Deep.blk_alloc_new _ _), ?_⟩
  have h := Go.Deep.blk_alloc_new (w.alloc o1) o2
  have hz : (w.alloc o1).heap.size = w.heap.size + 1 := by simp
  rw [hz] at h
  exact h
/-- a head as a value -/
def headVal (h : Rc.H) : Value := .agg #[.string (tx h.path), .int .i64 h.version, .int .i64 h.size, .int .i64 h.from_, .int .i64 h.len, .int .i64 h.serial, .int .i64 h.sum, .bool h.gone]
/-- what part answers -/
def PartHA (o : Option Rc.H) (w : World) (e : Ending) (w' : World) : Prop :=
  (match o with
    | some h => e = .returned (.tuple #[headVal h, .bool true])
    | none => e = .returned (.tuple #[headVal Rc.H.zero, .bool false])) ∧ Below w.heap.size w w'
theorem stored8 {w w7 : World} {B : Nat} (a0 a1 a2 a3 a4 a5 a6 a7 : Value) (hB : w.heap.size ≤ B) (hb : Below w.heap.size w w7) :
    Below w.heap.size w ((((((((w7.setCell ⟨B, 0, none⟩ a0).setCell ⟨B, 1, none⟩ a1).setCell ⟨B, 2, none⟩ a2).setCell ⟨B, 3, none⟩ a3).setCell ⟨B, 4, none⟩ a4).setCell ⟨B, 5, none⟩ a5).setCell ⟨B, 6, none⟩ a6).setCell ⟨B, 7, none⟩ a7) := by
  have hk : Kp (· = B) w7 ((((((((w7.setCell ⟨B, 0, none⟩ a0).setCell ⟨B, 1, none⟩ a1).setCell ⟨B, 2, none⟩ a2).setCell ⟨B, 3, none⟩ a3).setCell ⟨B, 4, none⟩ a4).setCell ⟨B, 5, none⟩ a5).setCell ⟨B, 6, none⟩ a6).setCell ⟨B, 7, none⟩ a7) := (((((((Kp.store _ _ _ _).trans (Kp.store _ _ _ _)).trans (Kp.store _ _ _ _)).trans (Kp.store _ _ _ _)).trans (Kp.store _ _ _ _)).trans (Kp.store _ _ _ _)).trans (Kp.store _ _ _ _)).trans (Kp.store _ _ _ _)
  exact hb.trans (hk.below hb.size (fun x hx => by omega))
set_option maxRecDepth 100000 in
set_option maxHeartbeats 4000000 in
theorem refPart_any (lab cap : Int) (bs : List Tx) (A : Option Addr) (L C : Nat) (G : Nat → Prop) (lost : Bool) (n : Nat) (w : World) (hL : L = bs.length) (hr : RdB w A bs G) (hn : n ≤ 1000000000) (hl : ∀ s ∈ bs, s.length ≤ 1000) :
    Calls Tryz.prog 41 #[.agg #[.int .i64 lab, .int .i64 cap, .slice A L C, .bool lost], .int .i64 n] w (PartHA (Vo.part ⟨lab, bs, lost⟩ n) w) := by
  obtain ⟨wb, hwb⟩ : ∃ wb, wb = (w.alloc (tapeObj lab cap A L C lost)).alloc (headObj [] 0 0 0 0 0 0 false) := ⟨_, rfl⟩
  obtain ⟨hB, hT, hU⟩ := two_objs hwb
  have hcall := refGood_any lab cap bs A L C G lost n wb hL (hr.old hB) hl
  have h3 : Vo.goodZ ⟨lab, bs, lost⟩ (n : Int) = Vo.good ⟨lab, bs, lost⟩ n := by
    unfold Vo.goodZ
    rw [if_neg (by omega)]; rfl
  rw [h3] at hcall
  have hload : (unitOf (Vo.good ⟨lab, bs, lost⟩ n)).load.length ≤ 1000 := by
    cases h : Vo.good ⟨lab, bs, lost⟩ n with
    | none => exact Nat.zero_le _
    | some u =>
      obtain ⟨b, -, hg, rfl⟩ := Vo.good_some h
      have h1 := hg.1.2
      have h2 := Fm.room_le (Fm.parse b).kind
      show (Fm.parse b).load.length ≤ 1000
      omega
  have HB := Lib.hid hB
  have HU := Lib.hid hU
  have HT := Lib.hid hT
  have HW : Hid (wb = (w.alloc (.cells #[.int .i64 lab, .int .i64 cap, .slice A L C, .bool lost] 28)).alloc (.cells #[.string ⟨#[]⟩, .int .i64 0, .int .i64 0, .int .i64 0, .int .i64 0, .int .i64 0, .int .i64 0, .bool false] 30)) := Lib.hid hwb
  obtain ⟨t0, t1, t2, t3⟩ := tape4 hT
  rw [HW.out] at t0 t1 t2 t3
  obtain ⟨ok, hok⟩ : ∃ ok, ok = (Vo.good ⟨lab, bs, lost⟩ n).isSome := ⟨_, rfl⟩
  obtain ⟨k, lb, nb, ld, hu⟩ : ∃ k lb nb ld, unitOf (Vo.good ⟨lab, bs, lost⟩ n) = ⟨k, lb, nb, ld⟩ := ⟨_, _, _, _, rfl⟩
  unfold GoodA at hcall
  rw [hu, ← hok] at hcall
  rw [hu] at hload
  have hload' : ld.length ≤ 1000 := hload
  obtain ⟨ge, hge⟩ : ∃ ge, ge = Rc.gotE ld := ⟨_, rfl⟩
  obtain ⟨P, v, z, f, l, s, m, g, hh⟩ : ∃ P v z f l s m g, Rc.got ld = ⟨P, v, z, f, l, s, m, g⟩ := ⟨_, _, _, _, _, _, _, _, rfl⟩
  have hcase : (Vo.part ⟨lab, bs, lost⟩ n = none ∧ (ok = false ∨ (ok = true ∧ (k != 2) = true))) ∨ (ok = true ∧ k = 2 ∧ (ge != 0) = true ∧ Vo.part ⟨lab, bs, lost⟩ n = none)
      ∨ (ok = true ∧ k = 2 ∧ ge = 0 ∧ (L : Int) ≤ (n : Int) + (Vo.data l.toNat : Int) + 1 ∧ l ≤ 4000 ∧ Vo.part ⟨lab, bs, lost⟩ n = none) ∨ (ok = true ∧ k = 2 ∧ ge = 0 ∧ (n : Int) + (Vo.data l.toNat : Int) + 1 < (L : Int) ∧ l ≤ 4000 ∧ Vo.part ⟨lab, bs, lost⟩ n = some ⟨P, v, z, f, l, s, m, g⟩) := by
    cases h : Vo.good ⟨lab, bs, lost⟩ n with
    | none =>
      rw [h] at hok
      exact .inl ⟨part_none h, .inl hok⟩
    | some u =>
      rw [h] at hok hu
      have hok' : ok = true := hok
      have hu' : u = ⟨k, lb, nb, ld⟩ := hu
      have hp := part_good h
      rw [hu'] at hp
      by_cases h1 : k = 2
      · by_cases h2 : Rc.Good ld
        · rw [Rc.gotE_yes h2] at hge
          rw [Rc.got_yes h2] at hh
          have hl4 : l ≤ 4000 := by
            obtain ⟨-, -, -, ⟨_, a⟩, b', c, d, _⟩ := h2.1
            rw [hh] at a b' c d
            simp only at a b' c d
            omega
          rw [hh] at hp
          by_cases h3 : n + Vo.data l.toNat + 1 < bs.length
          · refine .inr (.inr (.inr ⟨hok', h1, hge, by omega, hl4, ?_⟩))
            rw [hp, if_pos ⟨h1, h2, h3⟩]
          · refine .inr (.inr (.inl ⟨hok', h1, hge, by omega, hl4, ?_⟩))
            rw [hp, if_neg fun h' => h3 h'.2.2]
        · rw [Rc.gotE_no h2] at hge
          refine .inr (.inl ⟨hok', h1, by rw [hge]; rfl, ?_⟩)
          rw [hp, if_neg fun h' => h2 h'.2.1]
      · refine .inl ⟨?_, .inr ⟨hok', by simpa using h1⟩⟩
        rw [hp, if_neg fun h' => h1 h'.1]
  have HC := Lib.hid hcall
  have HLD := Lib.hid hload'
  have HGE := Lib.hid hge
  have HH := Lib.hid hh
  clear hcall hload hload' hge hh hB hT hU hwb hr hL hl hu hok h3
  rcases hcase with ⟨hres, hq⟩ | ⟨rfl, rfl, hq, hres⟩ | ⟨rfl, rfl, hge, hlt, hl4, hres⟩ | ⟨rfl, rfl, hge, hle, hl4, hres⟩
  · have HRES := Lib.hid hres
    clear hres
    rcases hq with rfl | ⟨rfl, p1⟩
    all_goals
      go_enter Tryz.func41, Tryz.ntmps41
      go_wp2_with fail
      rw [← HW.out]
      refine HC.out.mono ?_
      rintro e w1 ⟨A1, m1, C1, rfl, hm1, hc1, hn1, hr1, hb1⟩
      obtain ⟨wc, hwc⟩ : ∃ wc, wc = w1.alloc (unitObj k lb nb A1 m1 C1) := ⟨_, rfl⟩
      have hbc : Below wb.heap.size wb wc := by rw [hwc]; exact hb1.alloc hb1.size _
      have HZ := Lib.hid (below_head hbc HU.out)
      have HBC := Lib.hid (HB.out.trans (hbc.mono HB.out.size))
      have HWC := Lib.hid hwc
      unfold unitObj at HWC
      obtain ⟨z0, z1, z2, z3, z4, z5, z6, z7⟩ := head8 HZ.out
      have y0 := head_frz HZ.out 0
      have y1 := head_frz HZ.out 1
      have y2 := head_frz HZ.out 2
      have y3 := head_frz HZ.out 3
      have y4 := head_frz HZ.out 4
      have y5 := head_frz HZ.out 5
      have y6 := head_frz HZ.out 6
      have y7 := head_frz HZ.out 7
      rw [HWC.out] at z0 z1 z2 z3 z4 z5 z6 z7 y0 y1 y2 y3 y4 y5 y6 y7
      clear hwc hbc hb1 hr1 hn1 hc1 hm1 t0 t1 t2 t3
      go_wp2
      rw [← HWC.out]
      clear z0 z1 z2 z3 z4 z5 z6 z7
      obtain ⟨z0, z1, z2, z3, z4, z5, z6, z7⟩ := head8 HZ.out
      refine bodyPost_ret (v := .tuple #[.agg #[.string ⟨#[]⟩, .int .i64 0, .int .i64 0, .int .i64 0, .int .i64 0, .int .i64 0, .int .i64 0, .bool false], .bool false]) (by simp [results, Tryz.results41, go_sem, z0, z1, z2, z3, z4, z5, z6, z7]) rfl ?_
      rw [HRES.out]
      exact ⟨rfl, stored8 _ _ _ _ _ _ _ _ (by omega) HBC.out⟩
  · have HRES := Lib.hid hres
    clear hres
    go_enter Tryz.func41, Tryz.ntmps41
    go_wp2_with fail
    rw [← HW.out]
    refine HC.out.mono ?_
    rintro e w1 ⟨A1, m1, C1, rfl, hm1, hc1, hn1, hr1, hb1⟩
    obtain ⟨wc, hwc⟩ : ∃ wc, wc = w1.alloc (unitObj 2 lb nb A1 m1 C1) := ⟨_, rfl⟩
    have hb1' : Below w1.heap.size w1 wc := by rw [hwc]; exact (Below.refl _ _).alloc (Nat.le_refl _) _
    have hbc : Below wb.heap.size wb wc := hb1.trans (hb1'.mono hb1.size)
    have hcall := refReadHead_len A1 ld m1 C1 _ wc hm1 hc1 (by have h1 : m1 = ld.length := hm1; have := HLD.out; unfold maxLen; omega) hn1 (hr1.old hb1')
    unfold GotH at hcall
    rw [HH.out, ← HGE.out] at hcall
    have HC2 := Lib.hid hcall
    have HZ := Lib.hid (below_head hbc HU.out)
    have HTC := Lib.hid (below_tape hbc HT.out)
    have HBC := Lib.hid (HB.out.trans (hbc.mono HB.out.size))
    have HWC := Lib.hid hwc
    unfold unitObj at HWC
    clear hwc hbc hb1 hb1' hr1 hn1 hc1 hm1 t0 t1 t2 t3 hcall HU HT HB
    obtain ⟨t0, t1, t2, t3⟩ := tape4 HTC.out
    rw [HWC.out] at t0 t1 t2 t3
    go_wp2_with fail
    rw [← HWC.out]
    clear t0 t1 t2 t3
    refine HC2.out.mono ?_
    rintro e w2 ⟨rfl, hb2⟩
    obtain ⟨wd, hwd⟩ : ∃ wd, wd = w2.alloc (headObj P v z f l s m g) := ⟨_, rfl⟩
    have hb2' : Below w2.heap.size w2 wd := by rw [hwd]; exact (Below.refl _ _).alloc (Nat.le_refl _) _
    have hbd : Below wc.heap.size wc wd := hb2.trans (hb2'.mono hb2.size)
    have HZD := Lib.hid (below_head hbd HZ.out)
    have HTD := Lib.hid (below_tape hbd HTC.out)
    have HBD := Lib.hid (HBC.out.trans (hbd.mono HBC.out.size))
    have HPD : Hid (wd.heap[w2.heap.size]? = some (headObj P v z f l s m g)) := Lib.hid (by rw [hwd]; exact Go.Deep.blk_alloc_new _ _)
    obtain ⟨t0, t1, t2, t3⟩ := tape4 HTD.out
    obtain ⟨a0, a1, a2, a3, a4, a5, a6, a7⟩ := head8 HPD.out
    have HWD := Lib.hid hwd
    unfold headObj at HWD
    clear hwd hb2 hb2' hbd HC2 HZ HTC HBC HWC HC
    rw [HWD.out] at t0 t1 t2 t3 a0 a1 a2 a3 a4 a5 a6 a7
    go_upto_region 5 with fail
    rw [← HWD.out] at t0 t1 t2 t3 a0 a1 a2 a3 a4 a5 a6 a7 ⊢
    go_quiet (fail)
    have hbq : Below wd.heap.size wd (wd.drewN nq) := ⟨rfl, rfl, rfl, Nat.le_refl _, fun _ _ => rfl⟩
    have HZZ := Lib.hid (below_head hbq HZD.out)
    have HPP := Lib.hid (below_head hbq HPD.out)
    have HBZ := Lib.hid (HBD.out.trans (hbq.mono HBD.out.size))
    clear hbq t0 t1 t2 t3 a0 a1 a2 a3 a4 a5 a6 a7
    generalize wd.drewN nq = wf at HZZ HBZ HPP ⊢
    obtain ⟨z0, z1, z2, z3, z4, z5, z6, z7⟩ := head8 HZZ.out
    obtain ⟨a0, a1, a2, a3, a4, a5, a6, a7⟩ := head8 HPP.out
    have y0 := head_frz HZZ.out 0
    have y1 := head_frz HZZ.out 1
    have y2 := head_frz HZZ.out 2
    have y3 := head_frz HZZ.out 3
    have y4 := head_frz HZZ.out 4
    have y5 := head_frz HZZ.out 5
    have y6 := head_frz HZZ.out 6
    have y7 := head_frz HZZ.out 7
    go_wp2
    refine bodyPost_ret (v := .tuple #[.agg #[.string ⟨#[]⟩, .int .i64 0, .int .i64 0, .int .i64 0, .int .i64 0, .int .i64 0, .int .i64 0, .bool false], .bool false]) (by simp [results, Tryz.results41, go_sem, z0, z1, z2, z3, z4, z5, z6, z7]) rfl ?_
    rw [HRES.out]
    exact ⟨rfl, stored8 _ _ _ _ _ _ _ _ (by omega) HBZ.out⟩
  · have HRES := Lib.hid hres
    obtain ⟨K, hK⟩ : ∃ K, K = Vo.data l.toNat := ⟨_, rfl⟩
    have q1 : decide ((L : Int) ≤ (n : Int) + (K : Int) + 1) = true := decide_eq_true (by rw [hK]; exact hlt)
    have hKl : K ≤ 63 := by rw [hK]; unfold Vo.data; omega
    have HD : ∀ x, Calls Tryz.prog 42 #[.int .i64 l] x fun e w' => e = .returned (.int .i64 (K : Int)) ∧ w' = x := fun x => by rw [hK]; exact (refData_any l (by omega) x).mono fun e w' h => ⟨h.1, h.2.symm⟩
    have HD' := Lib.hid HD
    clear hres hK HD hlt
    subst hge
    go_enter Tryz.func41, Tryz.ntmps41
    go_wp2_with fail
    rw [← HW.out]
    refine HC.out.mono ?_
    rintro e w1 ⟨A1, m1, C1, rfl, hm1, hc1, hn1, hr1, hb1⟩
    obtain ⟨wc, hwc⟩ : ∃ wc, wc = w1.alloc (unitObj 2 lb nb A1 m1 C1) := ⟨_, rfl⟩
    have hb1' : Below w1.heap.size w1 wc := by rw [hwc]; exact (Below.refl _ _).alloc (Nat.le_refl _) _
    have hbc : Below wb.heap.size wb wc := hb1.trans (hb1'.mono hb1.size)
    have hcall := refReadHead_len A1 ld m1 C1 _ wc hm1 hc1 (by have h1 : m1 = ld.length := hm1; have := HLD.out; unfold maxLen; omega) hn1 (hr1.old hb1')
    unfold GotH at hcall
    rw [HH.out, ← HGE.out] at hcall
    have HC2 := Lib.hid hcall
    have HZ := Lib.hid (below_head hbc HU.out)
    have HTC := Lib.hid (below_tape hbc HT.out)
    have HBC := Lib.hid (HB.out.trans (hbc.mono HB.out.size))
    have HWC := Lib.hid hwc
    unfold unitObj at HWC
    clear hwc hbc hb1 hb1' hr1 hn1 hc1 hm1 t0 t1 t2 t3 hcall HU HT HB
    obtain ⟨t0, t1, t2, t3⟩ := tape4 HTC.out
    rw [HWC.out] at t0 t1 t2 t3
    go_wp2_with fail
    rw [← HWC.out]
    clear t0 t1 t2 t3
    refine HC2.out.mono ?_
    rintro e w2 ⟨rfl, hb2⟩
    obtain ⟨wd, hwd⟩ : ∃ wd, wd = w2.alloc (headObj P v z f l s m g) := ⟨_, rfl⟩
    have hb2' : Below w2.heap.size w2 wd := by rw [hwd]; exact (Below.refl _ _).alloc (Nat.le_refl _) _
    have hbd : Below wc.heap.size wc wd := hb2.trans (hb2'.mono hb2.size)
    have HZD := Lib.hid (below_head hbd HZ.out)
    have HTD := Lib.hid (below_tape hbd HTC.out)
    have HBD := Lib.hid (HBC.out.trans (hbd.mono HBC.out.size))
    have HPD : Hid (wd.heap[w2.heap.size]? = some (headObj P v z f l s m g)) := Lib.hid (by rw [hwd]; exact Go.Deep.blk_alloc_new _ _)
    obtain ⟨t0, t1, t2, t3⟩ := tape4 HTD.out
    obtain ⟨a0, a1, a2, a3, a4, a5, a6, a7⟩ := head8 HPD.out
    have HWD := Lib.hid hwd
    unfold headObj at HWD
    clear hwd hb2 hb2' hbd HC2 HZ HTC HBC HWC HC
    rw [HWD.out] at t0 t1 t2 t3 a0 a1 a2 a3 a4 a5 a6 a7
    go_upto_region 5 with fail
    rw [← HWD.out] at t0 t1 t2 t3 a0 a1 a2 a3 a4 a5 a6 a7 ⊢
    go_quiet (first | (go_at_call_of 42 (Value.int .i64 l); exact Calls.quiet_of_same (HD'.out _)))
    have hbq : Below wd.heap.size wd (wd.drewN nq) := ⟨rfl, rfl, rfl, Nat.le_refl _, fun _ _ => rfl⟩
    have HZZ := Lib.hid (below_head hbq HZD.out)
    have HPP := Lib.hid (below_head hbq HPD.out)
    have HBZ := Lib.hid (HBD.out.trans (hbq.mono HBD.out.size))
    clear hbq t0 t1 t2 t3 a0 a1 a2 a3 a4 a5 a6 a7
    generalize wd.drewN nq = wf at HZZ HBZ HPP ⊢
    obtain ⟨z0, z1, z2, z3, z4, z5, z6, z7⟩ := head8 HZZ.out
    obtain ⟨a0, a1, a2, a3, a4, a5, a6, a7⟩ := head8 HPP.out
    have y0 := head_frz HZZ.out 0
    have y1 := head_frz HZZ.out 1
    have y2 := head_frz HZZ.out 2
    have y3 := head_frz HZZ.out 3
    have y4 := head_frz HZZ.out 4
    have y5 := head_frz HZZ.out 5
    have y6 := head_frz HZZ.out 6
    have y7 := head_frz HZZ.out 7
    go_wp2
    refine bodyPost_ret (v := .tuple #[.agg #[.string ⟨#[]⟩, .int .i64 0, .int .i64 0, .int .i64 0, .int .i64 0, .int .i64 0, .int .i64 0, .bool false], .bool false]) (by simp [results, Tryz.results41, go_sem, z0, z1, z2, z3, z4, z5, z6, z7]) rfl ?_
    rw [HRES.out]
    exact ⟨rfl, stored8 _ _ _ _ _ _ _ _ (by omega) HBZ.out⟩
  · have HRES := Lib.hid hres
    obtain ⟨K, hK⟩ : ∃ K, K = Vo.data l.toNat := ⟨_, rfl⟩
    have q1 : decide ((L : Int) ≤ (n : Int) + (K : Int) + 1) = false := decide_eq_false (by rw [hK]; omega)
    have hKl : K ≤ 63 := by rw [hK]; unfold Vo.data; omega
    have HD : ∀ x, Calls Tryz.prog 42 #[.int .i64 l] x fun e w' => e = .returned (.int .i64 (K : Int)) ∧ w' = x := fun x => by rw [hK]; exact (refData_any l (by omega) x).mono fun e w' h => ⟨h.1, h.2.symm⟩
    have HD' := Lib.hid HD
    clear hres hK HD hle
    subst hge
    go_enter Tryz.func41, Tryz.ntmps41
    go_wp2_with fail
    rw [← HW.out]
    refine HC.out.mono ?_
    rintro e w1 ⟨A1, m1, C1, rfl, hm1, hc1, hn1, hr1, hb1⟩
    obtain ⟨wc, hwc⟩ : ∃ wc, wc = w1.alloc (unitObj 2 lb nb A1 m1 C1) := ⟨_, rfl⟩
    have hb1' : Below w1.heap.size w1 wc := by rw [hwc]; exact (Below.refl _ _).alloc (Nat.le_refl _) _
    have hbc : Below wb.heap.size wb wc := hb1.trans (hb1'.mono hb1.size)
    have hcall := refReadHead_len A1 ld m1 C1 _ wc hm1 hc1 (by have h1 : m1 = ld.length := hm1; have := HLD.out; unfold maxLen; omega) hn1 (hr1.old hb1')
    unfold GotH at hcall
    rw [HH.out, ← HGE.out] at hcall
    have HC2 := Lib.hid hcall
    have HZ := Lib.hid (below_head hbc HU.out)
    have HTC := Lib.hid (below_tape hbc HT.out)
    have HBC := Lib.hid (HB.out.trans (hbc.mono HB.out.size))
    have HWC := Lib.hid hwc
    unfold unitObj at HWC
    clear hwc hbc hb1 hb1' hr1 hn1 hc1 hm1 t0 t1 t2 t3 hcall HU HT HB
    obtain ⟨t0, t1, t2, t3⟩ := tape4 HTC.out
    rw [HWC.out] at t0 t1 t2 t3
    go_wp2_with fail
    rw [← HWC.out]
    clear t0 t1 t2 t3
    refine HC2.out.mono ?_
    rintro e w2 ⟨rfl, hb2⟩
    obtain ⟨wd, hwd⟩ : ∃ wd, wd = w2.alloc (headObj P v z f l s m g) := ⟨_, rfl⟩
    have hb2' : Below w2.heap.size w2 wd := by rw [hwd]; exact (Below.refl _ _).alloc (Nat.le_refl _) _
    have hbd : Below wc.heap.size wc wd := hb2.trans (hb2'.mono hb2.size)
    have HZD := Lib.hid (below_head hbd HZ.out)
    have HTD := Lib.hid (below_tape hbd HTC.out)
    have HBD := Lib.hid (HBC.out.trans (hbd.mono HBC.out.size))
    have HPD : Hid (wd.heap[w2.heap.size]? = some (headObj P v z f l s m g)) := Lib.hid (by rw [hwd]; exact Go.Deep.blk_alloc_new _ _)
    obtain ⟨t0, t1, t2, t3⟩ := tape4 HTD.out
    obtain ⟨a0, a1, a2, a3, a4, a5, a6, a7⟩ := head8 HPD.out
    have HWD := Lib.hid hwd
    unfold headObj at HWD
    clear hwd hb2 hb2' hbd HC2 HZ HTC HBC HWC HC
    rw [HWD.out] at t0 t1 t2 t3 a0 a1 a2 a3 a4 a5 a6 a7
    go_upto_region 5 with fail
    rw [← HWD.out] at t0 t1 t2 t3 a0 a1 a2 a3 a4 a5 a6 a7 ⊢
    go_quiet (first | (go_at_call_of 42 (Value.int .i64 l); exact Calls.quiet_of_same (HD'.out _)))
    have hbq : Below wd.heap.size wd (wd.drewN nq) := ⟨rfl, rfl, rfl, Nat.le_refl _, fun _ _ => rfl⟩
    have HZZ := Lib.hid (below_head hbq HZD.out)
    have HPP := Lib.hid (below_head hbq HPD.out)
    have HBZ := Lib.hid (HBD.out.trans (hbq.mono HBD.out.size))
    clear hbq t0 t1 t2 t3 a0 a1 a2 a3 a4 a5 a6 a7
    generalize wd.drewN nq = wf at HZZ HBZ HPP ⊢
    obtain ⟨z0, z1, z2, z3, z4, z5, z6, z7⟩ := head8 HZZ.out
    obtain ⟨a0, a1, a2, a3, a4, a5, a6, a7⟩ := head8 HPP.out
    have y0 := head_frz HZZ.out 0
    have y1 := head_frz HZZ.out 1
    have y2 := head_frz HZZ.out 2
    have y3 := head_frz HZZ.out 3
    have y4 := head_frz HZZ.out 4
    have y5 := head_frz HZZ.out 5
    have y6 := head_frz HZZ.out 6
    have y7 := head_frz HZZ.out 7
    go_wp2
    refine bodyPost_ret (v := .tuple #[.agg #[.string (tx P), .int .i64 v, .int .i64 z, .int .i64 f, .int .i64 l, .int .i64 s, .int .i64 m, .bool g], .bool true]) (by simp [results, Tryz.results41, go_sem, z0, z1, z2, z3, z4, z5, z6, z7]) rfl ?_
    rw [HRES.out]
    exact ⟨rfl, stored8 _ _ _ _ _ _ _ _ (by omega) HBZ.out⟩
end Go.Proofs.YtndofmoepjfnfaaGreat
namespace Go.Proofs.YtndofmoepjfnfaaGreat
open Go.RowKit

theorem infoUnit : (Tryz.prog.info? 48).map (fun i => (i.zero, i.size, i.bytes)) = some (some (.agg #[.int .i64 0, .int .i64 0, .int .i64 0, .slice none 0 0]), 4, 48) := by kernel_rfl
/-- one struct in a block of its own -/
theorem Enc.Own.one {α : Type} {E : Enc α} {w : World} {base g : Nat} {t : TypeId} {x : α} (h : w.heap[g]? = some (.cells (E.enc x).toArray t)) (hb : base ≤ g) : E.Own w base t (.slice (some ⟨g, 0, none⟩) 1 1) [x] := by
  refine ⟨E.cells_len [x], .inr ⟨g, 1, _, rfl, hb, h, Nat.le_refl _, by decide, ?_, ?_⟩⟩
  · rw [List.size_toArray, E.len]; omega
  · rw [E.cells_one, List.length_singleton, Nat.one_mul]
    show (E.enc x).take E.k = E.enc x
    exact List.take_of_length_le (by rw [E.len]; exact Nat.le_refl _)
theorem own_lower {w : World} {B B' : Nat} {t : TypeId} {k n : Nat} {v : Value} {xs : List Value} (h : w.ownsRow B t k v n xs) (hb : B' ≤ B) : w.ownsRow B' t k v n xs := by
  refine ⟨h.1, ?_⟩
  rcases h.2 with h0 | ⟨g, cap, cur, e, hg, r⟩
  · exact .inl h0
  · exact .inr ⟨g, cap, cur, e, Nat.le_trans hb hg, r⟩
end Go.Proofs.YtndofmoepjfnfaaGreat
namespace Go.Proofs.YtndofmoepjfnfaaGreat
open Go.RowKit

theorem below_objS {o : Obj} {B : Nat} {x y : World} (hb : Below x.heap.size x y) (h : x.heap[B]? = some o) : y.heap[B]? = some o := (hb.block B (heap_lt h)).trans h
theorem Enc.Rd.newsO {α : Type} {E : Enc α} {w : World} {ad : Addr} {l : List α} {G : Nat → Prop} (h : E.Rd w (some ad) l G) : ∀ j u, (E.cells l)[j]? = some u → w.cell? (ad.add j) = some u := by
  intro j u hu
  have hj : j < l.length * E.k := by
    have := (List.getElem?_eq_some_iff.1 hu).1
    rwa [E.cells_len] at this
  have h0 : 0 < l.length := by
    rcases Nat.eq_zero_or_pos l.length with e | e
    · rw [e, Nat.zero_mul] at hj; exact absurd hj (Nat.not_lt_zero _)
    · exact e
  obtain ⟨b, off, e, _, hc⟩ := h h0
  cases e
  have hi : j / E.k < l.length := (Nat.div_lt_iff_lt_mul E.pos).2 hj
  have hm := Nat.mod_lt j E.pos
  have hd : j = j / E.k * E.k + j % E.k := by have := Nat.div_add_mod j E.k; rw [Nat.mul_comm]; omega
  have hx := E.cells_get l (j / E.k) (j % E.k) hm hi
  rw [← hd, hu] at hx
  have := hc (j / E.k) hi (j % E.k) u hx.symm
  rw [addr_add, show off + j = off + j / E.k * E.k + j % E.k by omega]
  exact this
/-- append of what may be nil -/
theorem wpList_append_stO {P : Program} {α : Type} (E : Enc α) (w : World) {ops : Array Oper} {rest : List Oper} {o : Oper} {a : Act} {Q : Exit → Act → World → Prop} (hgd : o.guard = none) (s x : Operand) (t : TypeId)
    (ho : o.op = .call { callee := .builtin .append, args := #[s, x], argTypes := #[t, t] })
    (base : Nat) (e : TypeId) (z : Value) (bytes : Nat) (ht : P.underlying t = some (.slice e)) (hi : (P.info? e).map (fun i => (i.zero, i.size, i.bytes)) = some (some z, E.k, bytes)) (hzs : z.cells.size = E.k)
    (v : Value) (l : List α) (hs : a.eval s = v) (hown : E.Own w base e v l)
    (A : Option Addr) (m c : Nat) (l' : List α) (G : Nat → Prop) (hx : a.eval x = .slice A m c) (hm : m = l'.length) (hA : A = none → m = 0 ∧ c = 0) (hrd : E.Rd w A l' G)
    (h63 : l.length + m ≤ maxLen) (hbytes : (l.length + m) * bytes ≤ 140737488355328) (hbase : base ≤ w.heap.size)
    (h : ∀ v' w', E.Own w' base e v' (l ++ l') → w.grownBy w' v.ownBlock → wpList P ops Q rest (a.put o.dst v') w') : wpList P ops Q (o :: rest) a w := by
  cases A with
  | none =>
    obtain ⟨rfl, rfl⟩ := hA rfl
    have hn : l' = [] := List.length_eq_zero_iff.1 hm.symm
    subst hn
    obtain ⟨i0, hi', hz0, hz1, hz2⟩ := info_parts hi
    refine wpList_append_own_none hgd s x t ho base e i0 E.k ht hi' v l.length (E.cells l) hs hown hx (h v w ?_ (grown_refl w _))
    rw [List.append_nil]; exact hown
  | some ad => exact wpList_append_st' E w hgd s x t ho base e z bytes ht hi hzs v l hs hown ad m c l' hx hm hrd.newsO h63 hbytes hbase h
/-- a row of another type is as it was when one has grown -/
theorem Enc.Own.beside {α β : Type} {E : Enc α} {F : Enc β} {w w' : World} {b1 b2 : Nat} {t1 t2 : TypeId} {v1 v2 : Value} {l1 : List α} {l2 : List β} (h1 : E.Own w b1 t1 v1 l1) (h2 : F.Own w b2 t2 v2 l2) (ht : t1 ≠ t2) (hg : w.grownBy w' v1.ownBlock) : F.Own w' b2 t2 v2 l2 :=
  h2.of_block fun k hk => hg.block k (h2.lt k hk).2 fun e => by
    obtain ⟨c, hc⟩ := h1.block k e.symm
    obtain ⟨c', hc'⟩ := h2.block k hk
    rw [hc] at hc'
    injection hc' with hc'
    injection hc' with _ hc'
    exact ht hc'
/-- append of some structs, as an equation -/
theorem apE_run {P : Program} {α : Type} (E : Enc α) (w : World) (t : TypeId) (base : Nat) (e : TypeId) (z : Value) (bytes : Nat) (ht : P.underlying t = some (.slice e)) (hi : (P.info? e).map (fun i => (i.zero, i.size, i.bytes)) = some (some z, E.k, bytes)) (hzs : z.cells.size = E.k)
    (v : Value) (l : List α) (hown : E.Own w base e v l) (ad : Addr) (m c : Nat) (l' : List α) (hm : m = l'.length) (hnews : ∀ j u, (E.cells l')[j]? = some u → w.cell? (ad.add j) = some u)
    (h63 : l.length + m ≤ maxLen) (hbytes : (l.length + m) * bytes ≤ 140737488355328) (hbase : base ≤ w.heap.size) (t0 : TypeId := e) :
    ∃ v' w', (∀ ty, (Builtin.append_ #[t, t] ty #[v, .slice (some ad) m c]).run P w = .ok v' w') ∧ E.Own w' base e v' (l ++ l') ∧ w.grownBy w' v.ownBlock := by
  obtain ⟨i0, hi, hz0, hz1, hz2⟩ := info_parts hi
  subst hm
  obtain ⟨v', w', h1, h2, h3, _⟩ := run_append_own (P := P) w base t t0 e i0 z E.k bytes ht hi hz0 hz1 hz2 hzs E.pos v l.length (E.cells l) hown ad l'.length c (E.cells l') (E.cells_len l') hnews (E.cells_all l') h63 hbytes hbase
  exact ⟨v', w', fun ty => h1, by unfold Enc.Own; rw [E.cells_append, List.length_append]; exact h2, h3⟩
end Go.Proofs.YtndofmoepjfnfaaGreat
