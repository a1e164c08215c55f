/- The law GroupFinds answers true: which groups any tapes tell of, and which of them has a tape. -/
import Derived.Test.YtfkoomldncfdnaaGreatMl
import Derived.Test.YtfkoomldncfdnaaGreatMj
import Derived.Test.YtfkoomldncfdnaaGreatMn
import Derived.Deep.RegionHeld3
import Derived.Deep.DeepFit
namespace Go.Proofs.YtfkoomldncfdnaaGreat
open Go.RowKit
open Pt (Tx)

theorem Gr.find_seal {ts : List St.T} {s : Rc.S} (h : s ∈ Gr.find ts) : Rc.SOk s := by
  have h1 := ((Gr.mem_all _ _).1 h).mem
  obtain ⟨t, -, h2⟩ := List.mem_filterMap.1 h1
  exact Gr.cand_ok h2
theorem Gr.ins_len (s : Rc.S) : ∀ l : List Rc.S, (Gr.ins s l).length ≤ l.length + 1
  | [] => Nat.le_refl _
  | a :: l => by
    rw [Gr.ins]
    split
    · have := Gr.ins_len s l
      simp only [List.length_cons]; omega
    · split
      · simp only [List.length_cons]; omega
      · simp only [List.length_cons]; omega
theorem Gr.find_len (ts : List St.T) : (Gr.find ts).length ≤ ts.length := by
  have h : ∀ (cs out : List Rc.S), (cs.foldl (fun out s => Gr.ins s out) out).length ≤ out.length + cs.length := fun cs => by
    induction cs with
    | nil => exact fun out => Nat.le_refl _
    | cons c cs ih =>
      intro out
      have h1 := ih (Gr.ins c out)
      have h2 := Gr.ins_len c out
      simp only [List.foldl_cons, List.length_cons]
      omega
  have h1 := h (Gr.cands ts) []
  have h2 : (Gr.cands ts).length ≤ ts.length := List.length_filterMap_le _ _
  unfold Gr.find Gr.all
  simp only [List.length_nil] at h1
  omega
theorem Gr.find_lab {ts : List St.T} {l : List Sx} (h : l.map Sx.s = Gr.find ts) {x : Sx} (hx : x ∈ l) : x.s.labels.length ≤ 14 := by
  have h1 : x.s ∈ Gr.find ts := by rw [← h]; exact List.mem_map_of_mem hx
  have h2 := (Gr.find_seal h1).1
  have h3 := h2.2.2.2.1
  have h4 := h2.2.2.2.2.1
  omega
set_option maxRecDepth 100000 in
set_option maxHeartbeats 8000000 in
theorem groupFinds_few (A : Option Addr) (ts : List St.T) (C : Nat) (G : Nat → Prop) (label : Int) (w : World) (hf : St.few ts = true) (hr : RdT w A ts G) :
    Calls Tryz.prog 4 #[.slice A ts.length C, .int .i64 label] w (AnsB true w) := by
  have HR := Lib.hid hr
  have HF := Lib.hid hf
  have h14 := (St.few_of hf).1
  have HL : Hid (∀ t ∈ ts, t.blocks.length ≤ 1000000 ∧ ∀ s ∈ t.blocks, s.length ≤ 1000) := Lib.hid fun t ht => by
    have h := Tp.few_of ((St.few_of hf).2.1 t ht)
    exact ⟨by have := h.1; omega, fun s hs => by have := h.2 s hs; omega⟩
  have hK := Gr.find_len ts
  clear hr hf
  go_enter Tryz.func4, Tryz.ntmps4
  go_wp2_with fail
  refine (alive14_true _).mono ?_
  rintro e w1 ⟨rfl, hb1⟩
  have HR1 := Lib.hid (HR.out.old hb1)
  have HB1 := Lib.hid hb1
  clear hb1
  go_wp2_with fail
  refine (few13_any A ts C _ w1 (by unfold maxLen; omega) HR1.out).mono ?_
  rw [HF.out]
  rintro e w2 ⟨rfl, hb2⟩
  have HR2 := Lib.hid (HR1.out.old hb2)
  have HB2 := Lib.hid (HB1.out.trans (hb2.mono HB1.out.size))
  clear hb2
  go_wp2_with fail
  refine (find_any A ts C _ w2 (by omega) (fun t ht => ⟨(HL.out t ht).1, fun s hs => by have := (HL.out t ht).2 s hs; omega⟩) HR2.out).mono ?_
  intro e w3 hh
  obtain ⟨A3, C3, l3, rfl, hl3, hm3, hc3, -, -, hr3, hx3, hb3⟩ := hh.len
  have HR3 := Lib.hid (HR2.out.old hb3)
  have HB3 := Lib.hid (HB2.out.trans (hb3.mono HB2.out.size))
  have HX3 := Lib.hid hr3
  have HO3 := Lib.hid hx3
  have HM3 := Lib.hid hm3
  have HLN3 := Lib.hid hl3
  clear hb3 hr3 hx3 hh hm3 hl3
  go_wp2_with fail
  refine (refFind_any A ts C _ w3 (by omega) HL.out HR3.out).mono ?_
  intro e w4 hh
  obtain ⟨A4, C4, l4, rfl, hl4, hm4, hc4, -, -, hr4, hx4, hb4⟩ := hh.len
  have HB4 := Lib.hid (HB3.out.trans (hb4.mono HB3.out.size))
  have HX3' := Lib.hid (HX3.out.old hb4)
  have HO3' : Hid (∀ x ∈ l3, x.Ok w4 (w2.heap.size ≤ ·)) := Lib.hid fun x hx => (HO3.out x hx).old hb4
  have HX4 := Lib.hid hr4
  have HO4 := Lib.hid hx4
  have HM4 := Lib.hid hm4
  have HLN4 := Lib.hid hl4
  clear hb4 hr4 hx4 hh hm4 hl4
  have HLAB3 : Hid (∀ x ∈ l3, x.s.labels.length ≤ 14) := Lib.hid fun x hx => Gr.find_lab HM3.out hx
  have HLAB4 : Hid (∀ x ∈ l4, x.s.labels.length ≤ 14) := Lib.hid fun x hx => Gr.find_lab HM4.out hx
  obtain ⟨S, hS⟩ : ∃ S, S = Gr.find ts := ⟨_, rfl⟩
  rw [← hS] at hK HM3 HM4 HLN3 HLN4 hc3 hc4 ⊢
  obtain ⟨K, hKe⟩ : ∃ K, K = S.length := ⟨_, rfl⟩
  rw [← hKe] at hK HLN3 HLN4 hc3 hc4 ⊢
  have hK14 : K ≤ 14 := by omega
  have q2 : ((K : Int) != (K : Int)) = false := by simp
  clear hS hKe
  go_wp2
  go_loopw [8] (fun vi wr => ∃ i : Nat, i ≤ K ∧ vi = .int .i64 (i : Int) ∧ Hid (Below w4.heap.size w4 wr)) (fun vi _ => K - (intOf vi).toNat)
  case atStart => exact ⟨0, Nat.zero_le _, rfl, Lib.hid (Below.refl _ _)⟩
  case round =>
    obtain ⟨i, hi, rfl, HBR⟩ := hrel
    by_cases hlt : i < K
    · have e0 : decide (i < K) = true := decide_eq_true hlt
      have hi3 : i < l3.length := by rw [HLN3.out]; exact hlt
      have hi4 : i < l4.length := by rw [HLN4.out]; exact hlt
      obtain ⟨x, hx⟩ : ∃ x, x = l3[i] := ⟨_, rfl⟩
      obtain ⟨y, hy⟩ : ∃ y, y = l4[i] := ⟨_, rfl⟩
      have hxy : x.s = y.s := by
        have h1 : (l3.map Sx.s)[i]? = (l4.map Sx.s)[i]? := by rw [HM3.out, HM4.out]
        rw [List.getElem?_map, List.getElem?_map, List.getElem?_eq_getElem hi3, List.getElem?_eq_getElem hi4, ← hx, ← hy] at h1
        exact Option.some.inj h1
      obtain ⟨b, off, rfl, hf3⟩ := rd_five (HX3'.out.old HBR.out) hi3 hx.symm
      obtain ⟨b', off', rfl, hf4⟩ := rd_five (HX4.out.old HBR.out) hi4 hy.symm
      have hox := (HO3'.out x (by rw [hx]; exact List.getElem_mem hi3)).old HBR.out
      have hoy := (HO4.out y (by rw [hy]; exact List.getElem_mem hi4)).old HBR.out
      have hlx := HLAB3.out x (by rw [hx]; exact List.getElem_mem hi3)
      clear hx hy
      obtain ⟨⟨sn, si, sd, sp, sl⟩, sA, sC⟩ := x
      obtain ⟨⟨sn', si', sd', sp', sl'⟩, sA', sC'⟩ := y
      cases hxy
      obtain ⟨m, hm⟩ : ∃ m, m = sl.length := ⟨_, rfl⟩
      have hrx := hox.rd
      have hry := hoy.rd
      dsimp only at hf3 hf4 hrx hry hlx
      rw [← hm] at hf3 hf4 hlx
      have HM := Lib.hid hm
      have HFX := Lib.hid hf3
      have HFY := Lib.hid hf4
      have HS10 : Hid (∀ y, Below wr.heap.size wr y → (y.cell? ⟨b, off + i * 5, none⟩ = some (.int .i64 sn) ∧ y.cell? ⟨b, off + i * 5 + 1, none⟩ = some (.int .i64 si) ∧ y.cell? ⟨b, off + i * 5 + 2, none⟩ = some (.int .i64 sd) ∧ y.cell? ⟨b, off + i * 5 + 3, none⟩ = some (.int .i64 sp) ∧ y.cell? ⟨b, off + i * 5 + 4, none⟩ = some (.slice sA m sC) ∧ y.cell? ⟨b', off' + i * 5, none⟩ = some (.int .i64 sn) ∧ y.cell? ⟨b', off' + i * 5 + 1, none⟩ = some (.int .i64 si) ∧ y.cell? ⟨b', off' + i * 5 + 2, none⟩ = some (.int .i64 sd) ∧ y.cell? ⟨b', off' + i * 5 + 3, none⟩ = some (.int .i64 sp) ∧ y.cell? ⟨b', off' + i * 5 + 4, none⟩ = some (.slice sA' m sC'))) := Lib.hid fun y hy => by
        obtain ⟨c0, c1, c2, c3, c4⟩ := HFX.out.old hy
        obtain ⟨d0, d1, d2, d3, d4⟩ := HFY.out.old hy
        exact ⟨c0, c1, c2, c3, c4, d0, d1, d2, d3, d4⟩
      have hbd : Below wr.heap.size wr wr.drew := (Below.refl _ _).drew
      have HRX := Lib.hid (hrx.old hbd)
      have HRY := Lib.hid (hry.old hbd)
      have HBD := Lib.hid (HBR.out.trans (hbd.mono HBR.out.size))
      have HD := Lib.hid hbd
      have s0 := HS10.out _ hbd
      have i0 : (0 : Int) ≤ (i : Int) := by omega
      have i1 : (i : Int) < (K : Int) := by omega
      have hml : m ≤ maxLen := by unfold maxLen; omega
      clear hox hoy hrx hry hm hf3 hf4 hbd
      go_wp2
      go_region_held3 (fun y => (y.cell? ⟨b, off + i * 5, none⟩ = some (.int .i64 sn) ∧ y.cell? ⟨b, off + i * 5 + 1, none⟩ = some (.int .i64 si) ∧ y.cell? ⟨b, off + i * 5 + 2, none⟩ = some (.int .i64 sd) ∧ y.cell? ⟨b, off + i * 5 + 3, none⟩ = some (.int .i64 sp) ∧ y.cell? ⟨b, off + i * 5 + 4, none⟩ = some (.slice sA m sC) ∧ y.cell? ⟨b', off' + i * 5, none⟩ = some (.int .i64 sn) ∧ y.cell? ⟨b', off' + i * 5 + 1, none⟩ = some (.int .i64 si) ∧ y.cell? ⟨b', off' + i * 5 + 2, none⟩ = some (.int .i64 sd) ∧ y.cell? ⟨b', off' + i * 5 + 3, none⟩ = some (.int .i64 sp) ∧ y.cell? ⟨b', off' + i * 5 + 4, none⟩ = some (.slice sA' m sC')))
        (first
          | exact s0
          | exact s1)
        (first
          | (go_at_call 13; refine (sameSeal_yes sn si sd sp sl sA m sC _ sA' m sC' _ _ HM.out HM.out hml HRX.out HRY.out).mono ?_; rintro e wg ⟨rfl, hbg⟩; have s1 := HS10.out _ (HD.out.trans (hbg.mono HD.out.size)); have HBG := Lib.hid (HBD.out.trans (hbg.mono HBD.out.size)); clear hbg))
      all_goals
        clear s0 s1
        go_wp2
        go_roundw
        case rel => exact ⟨i + 1, by omega, by go_num, HBG⟩
        case measure => simp [intOf]; omega
    · have e0 : decide (i < K) = false := decide_eq_false hlt
      have HXR := Lib.hid (HX4.out.old HBR.out)
      have HOR : Hid (∀ x ∈ l4, x.Ok wr (fun _ => True) ∧ x.s.labels.length ≤ 1000) := Lib.hid fun x hx => ⟨((HO4.out x hx).old HBR.out).mono fun _ _ => trivial, by have := HLAB4.out x hx; omega⟩
      have HOF : Hid (∀ s, Gr.of (l4.map Sx.s) label = some s → s.labels.length ≤ 14) := Lib.hid fun s hs => by
        have h1 : s ∈ l4.map Sx.s := List.mem_of_find?_eq_some hs
        obtain ⟨x, hx, rfl⟩ := List.mem_map.1 h1
        exact HLAB4.out x hx
      have HB5 := Lib.hid (HB4.out.trans (HBR.out.mono HB4.out.size))
      go_wp2_with fail
      refine (of_any A4 l4 K C4 _ label wr HLN4.out.symm (by omega) HXR.out HOR.out).mono ?_
      rintro e w5 ⟨⟨⟨sn, si, sd, sp, sl⟩, sA, sC⟩, rfl, hs5, ho5, hb5⟩
      obtain ⟨o, ho⟩ : ∃ o, o = Gr.of (l4.map Sx.s) label := ⟨_, rfl⟩
      rw [← ho] at HOF hs5 ⊢
      have HO := Lib.hid ho
      have hsl : sl.length ≤ 14 := by
        cases o with
        | none => have h := congrArg Rc.S.labels hs5; dsimp only at h; rw [h]; exact Nat.zero_le _
        | some s => have h : (⟨sn, si, sd, sp, sl⟩ : Rc.S) = s := hs5; have := HOF.out s rfl; rw [← h] at this; exact this
      dsimp only
      obtain ⟨m, hm⟩ : ∃ m, m = sl.length := ⟨_, rfl⟩
      rw [← hm] at hsl ⊢
      obtain ⟨is, his⟩ : ∃ is, is = o.isSome := ⟨_, rfl⟩
      rw [← his]
      obtain ⟨wd, hwd⟩ : ∃ wd, wd = w5.alloc (sealObj sn si sd sp sA m sC) := ⟨_, rfl⟩
      have hbd : Below w5.heap.size w5 wd := by rw [hwd]; exact (Below.refl _ _).alloc (Nat.le_refl _) _
      have hS : wd.heap[w5.heap.size]? = some (sealObj sn si sd sp sA m sC) := by rw [hwd]; exact Go.Deep.blk_alloc_new _ _
      have hb6 : Below wr.heap.size wr wd := hb5.trans (hbd.mono hb5.size)
      have HS := Lib.hid hS
      have HWD := Lib.hid hwd
      unfold sealObj at HWD
      have HXD := Lib.hid (HXR.out.old hb6)
      have HOD : Hid (∀ x ∈ l4, x.Ok wd (fun _ => True) ∧ x.s.labels.length ≤ 1000) := Lib.hid fun x hx => ⟨(HOR.out x hx).1.old hb6, (HOR.out x hx).2⟩
      have HOX := Lib.hid (ho5.old hbd).rd
      have HB6 := Lib.hid (HB5.out.trans (hb6.mono HB5.out.size))
      have HM := Lib.hid hm
      have HS5 := Lib.hid hs5
      have HIS := Lib.hid his
      clear ho hs5 ho5 hb5 hm hwd hbd hS hb6 his
      go_wp2_with fail
      rw [← HWD.out]
      refine (refOf_any A4 l4 K C4 _ label wd HLN4.out.symm (by omega) HXD.out HOD.out).mono ?_
      rintro e w6 ⟨⟨⟨sn', si', sd', sp', sl'⟩, sA', sC'⟩, rfl, hs6, ho6, hb7⟩
      rw [← HO.out] at hs6 ⊢
      have hss : (⟨sn', si', sd', sp', sl'⟩ : Rc.S) = ⟨sn, si, sd, sp, sl⟩ := by rw [HS5.out]; exact hs6
      cases hss
      rw [← HIS.out]
      dsimp only
      rw [← HM.out]
      obtain ⟨we, hwe⟩ : ∃ we, we = w6.alloc (sealObj sn si sd sp sA' m sC') := ⟨_, rfl⟩
      have hbe : Below w6.heap.size w6 we := by rw [hwe]; exact (Below.refl _ _).alloc (Nat.le_refl _) _
      have hSe : we.heap[w6.heap.size]? = some (sealObj sn si sd sp sA' m sC') := by rw [hwe]; exact Go.Deep.blk_alloc_new _ _
      have hb8 : Below wd.heap.size wd we := hb7.trans (hbe.mono hb7.size)
      have HS8 := Lib.hid (below_obj hb8 HS.out)
      have HSE := Lib.hid hSe
      have HWE := Lib.hid hwe
      unfold sealObj at HWE
      have HX8 := Lib.hid (HOX.out.old hb8)
      have HY8 := Lib.hid (ho6.old hbe).rd
      have HB8 := Lib.hid (HB6.out.trans (hb8.mono HB6.out.size))
      have q3 : (is == is) = true := by simp
      obtain ⟨x0, x1, x2, x3, x4⟩ := seal5 HS8.out
      obtain ⟨y0, y1, y2, y3, y4⟩ := seal5 HSE.out
      rw [HWE.out] at x0 x1 x2 x3 x4 y0 y1 y2 y3 y4
      clear hs6 ho6 hb7 hwe hbe hSe hb8
      go_wp2_with fail
      rw [← HWE.out]
      refine (sameSeal_yes sn si sd sp sl sA m sC _ sA' m sC' _ we HM.out HM.out (by unfold maxLen; omega) HX8.out HY8.out).mono ?_
      rintro e w9 ⟨rfl, hb9⟩
      have HB9 := Lib.hid (HB8.out.trans (hb9.mono HB8.out.size))
      clear hb9 x0 x1 x2 x3 x4 y0 y1 y2 y3 y4
      go_wp2
      go_ret
      exact ⟨rfl, HB9.out⟩
theorem groupFinds_walk (A : Option Addr) (ts : List St.T) (C : Nat) (G : Nat → Prop) (label : Int) (w : World) (hn : ts.length ≤ maxLen) (hr : RdT w A ts G) :
    Calls Tryz.prog 4 #[.slice A ts.length C, .int .i64 label] w (AnsB true w) := by
  cases hf : St.few ts with
  | true => exact groupFinds_few A ts C G label w hf hr
  | false =>
    have HR := Lib.hid hr
    have HF := Lib.hid hf
    clear hr hf
    go_enter Tryz.func4, Tryz.ntmps4
    go_wp2_with fail
    refine (alive14_true _).mono ?_
    rintro e w1 ⟨rfl, hb1⟩
    have HR1 := Lib.hid (HR.out.old hb1)
    have HB1 := Lib.hid hb1
    clear hb1
    go_wp2_with fail
    refine (few13_any A ts C _ w1 hn HR1.out).mono ?_
    rw [HF.out]
    rintro e w2 ⟨rfl, hb2⟩
    have HB2 := Lib.hid (HB1.out.trans (hb2.mono HB1.out.size))
    clear hb2
    go_wp2
    go_ret
    exact ⟨rfl, HB2.out⟩
end Go.Proofs.YtfkoomldncfdnaaGreat
