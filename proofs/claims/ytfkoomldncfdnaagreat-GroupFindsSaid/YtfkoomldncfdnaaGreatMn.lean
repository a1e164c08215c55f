/- What the document's own Find of groups answers. What the document's own Of of groups answers. Two seals that are alike, compared. What the walk is told of bytes that came in as an argument, as a list. What the walk is told of a []byte, and of a unit, in whose place stands what lies in its cells. What the walk is told of a tape that came in as an argument. No function of the program. What the walk is told of a row of tapes that came in as an argument. No function of the program. -/
import Derived.Test.YtfkoomldncfdnaaGreatMc
import Derived.Test.YtfkoomldncfdnaaGreatMm
import Derived.Test.YtfkoomldncfdnaaGreatMj
import Derived.Test.YtfkoomldncfdnaaGreatMa
import Derived.Test.YtfkoomldncfdnaaGreatMl
import Derived.Test.YtfkoomldncfdnaaGreatMe
import Derived.Test.YtfkoomldncfdnaaGreatMb
import Derived.Test.YtfkoomldncfdnaaGreatMg
import Derived.Deep.Slices
import Derived.Deep.Fields
import Derived.Lib.SmallJoins
import Derived.Test.YtfkoomldncfdnaaGreatMf
namespace Go.Proofs.YtfkoomldncfdnaaGreat
open Go.RowKit
open Pt (Tx)

/-- the place of a number among those that rise -/
theorem ins_at {s : Rc.S} : ∀ {l : List Rc.S} {k : Nat} (hk : k ≤ l.length) (_ : ∀ i (hi : i < k), (l[i]'(by omega)).number < s.number) (_ : ∀ h : k < l.length, ¬ l[k].number < s.number), Gr.ins s l = if h : k < l.length then (if l[k].number = s.number then l else l.take k ++ s :: l.drop k) else l.take k ++ s :: l.drop k
  | [], k, hk, _, _ => by
    have h0 : k = 0 := by simpa using hk
    subst h0; rfl
  | a :: l, 0, _, _, h2 => by
    have h3 : ¬ a.number < s.number := h2 (by simp)
    rw [Gr.ins, if_neg h3]
    simp only [List.length_cons, Nat.zero_lt_succ, dite_true, List.getElem_cons_zero, List.take_zero, List.drop_zero, List.nil_append]
  | a :: l, k + 1, hk, h1, h2 => by
    have h3 : a.number < s.number := h1 0 (by omega)
    have ih := ins_at (s := s) (l := l) (k := k) (by simpa using hk) (fun i hi => by have := h1 (i + 1) (by omega); simpa using this) (fun h => by have := h2 (by simpa using h); simpa using this)
    rw [Gr.ins, if_pos h3, ih]
    by_cases h : k < l.length
    · have h' : k + 1 < (a :: l).length := by simpa using h
      rw [dif_pos h, dif_pos h']
      simp only [List.getElem_cons_succ, List.take_succ_cons, List.drop_succ_cons, List.cons_append]
      split <;> rfl
    · have h' : ¬ k + 1 < (a :: l).length := by simpa using h
      rw [dif_neg h, dif_neg h']
      rfl
theorem find_take {ts : List St.T} {i : Nat} (h : i < ts.length) : Gr.find (ts.take (i + 1)) = match Gr.cand ts[i] with | none => Gr.find (ts.take i) | some s => Gr.ins s (Gr.find (ts.take i)) := by
  rw [List.take_succ_eq_append_getElem h]
  cases hc : Gr.cand ts[i] with
  | none => exact Gr.find_none hc
  | some s => exact Gr.find_some hc
/-- append onto an own row of seals, as an equation -/
theorem apX (w : World) (B : Nat) (v : Value) (l : List Sx) (hown : encX.Own w B 38 v l) (A : Option Addr) (m c : Nat) (l' : List Sx) (G : Nat → Prop) (hm : m = l'.length) (hA : A = none → m = 0 ∧ c = 0) (hr : encX.Rd w A l' G) (hs : l.length + m ≤ 1000000) (hB : B ≤ w.heap.size) :
    ∃ v' w', (∀ ty, (Builtin.append_ #[33, 33] ty #[v, .slice A m c]).run Tryz.prog w = .ok v' w') ∧ encX.Own w' B 38 v' (l ++ l') ∧ w.grownBy w' v.ownBlock := by
  obtain ⟨i0, hi, hz0, hz1, hz2⟩ := info_parts infoSeal
  subst hm
  cases A with
  | none =>
    obtain ⟨h0, rfl⟩ := hA rfl
    have h0' : l' = [] := List.length_eq_zero_iff.1 h0
    subst h0'
    refine ⟨v, w, fun ty => run_append_owned_none (P := Tryz.prog) (w := w) B 33 ty 38 i0 5 Tryz.underlying33 hi v l.length (encX.cells l) hown, ?_, grown_refl w _⟩
    rw [List.append_nil]; exact hown
  | some ad =>
    have key : ∀ ty, ∃ v' w', (Builtin.append_ #[33, 33] ty #[v, .slice (some ad) l'.length c]).run Tryz.prog w = .ok v' w' ∧ w'.ownsRow B 38 5 v' (l.length + l'.length) (encX.cells l ++ encX.cells l') ∧ w.grownBy w' v.ownBlock := fun ty => by
      obtain ⟨v', w', h1, h2, h3, _⟩ := run_append_own (P := Tryz.prog) w B 33 ty 38 i0 _ 5 56 Tryz.underlying33 hi hz0 hz1 hz2 rfl (by decide) v l.length (encX.cells l) hown ad l'.length c (encX.cells l') (encX.cells_len l') hr.news (encX.cells_all l') (by unfold maxLen; omega) (by omega) hB
      exact ⟨v', w', h1, h2, h3⟩
    obtain ⟨v', w', h1, h2, h3⟩ := key 33
    refine ⟨v', w', fun ty => h1, ?_, h3⟩
    unfold Enc.Own
    rw [encX.cells_append, List.length_append]; exact h2
theorem grown_low {w w' : World} {B : Nat} {v : Value} {l : List Sx} (hown : encX.Own w B 38 v l) (hB : B ≤ w.heap.size) (hg : w.grownBy w' v.ownBlock) : Below B w w' := (Below.refl _ _).grown hg hB (fun k hk => (hown.lt k hk).1)
theorem grown_nil {w w' : World} (hg : w.grownBy w' (Value.slice none 0 0).ownBlock) : Below w.heap.size w w' := ⟨hg.os, hg.tape, hg.output, hg.size, fun k hk => hg.block k hk (fun e => by cases e)⟩
theorem one_new (w : World) (x : Sx) : encX.Rd (w.alloc (.cells x.enc.toArray 38)) (some ⟨w.heap.size, 0, none⟩) [x] (fun _ => True) := fun _ => by
  refine ⟨w.heap.size, 0, rfl, trivial, fun i hi k u hu => ?_⟩
  have h0 : i = 0 := by simpa using hi
  subst h0
  have h := newCells w x.enc 38 k u hu
  rw [addr_add] at h
  simpa using h
/-- a part of a row -/
theorem rd_part {w : World} {b off : Nat} {l : List Sx} {G : Nat → Prop} (h : encX.Rd w (some ⟨b, off, none⟩) l G) (k : Nat) : encX.Rd w (some ⟨b, off + k * 5, none⟩) (l.drop k) G := fun hn => by
  rw [List.length_drop] at hn
  obtain ⟨b', off', e, hg, hc⟩ := h (by omega)
  cases e
  refine ⟨b, off + k * 5, rfl, hg, fun i hi j u hu => ?_⟩
  rw [List.length_drop] at hi
  rw [List.getElem_drop] at hu
  have := hc (k + i) (by omega) j u hu
  rw [← this]
  have e5 : encX.k = 5 := rfl
  rw [e5]
  congr 2
  omega
theorem rd_take {w : World} {A : Option Addr} {l : List Sx} {G : Nat → Prop} (h : encX.Rd w A l G) (k : Nat) : encX.Rd w A (l.take k) G := fun hn => by
  rw [List.length_take] at hn
  obtain ⟨b, off, e, hg, hc⟩ := h (by omega)
  refine ⟨b, off, e, hg, fun i hi j u hu => ?_⟩
  rw [List.length_take] at hi
  rw [List.getElem_take] at hu
  exact hc i (by omega) j u hu
/-- a row that was made anew out of the old one -/
theorem FindI.anew {w wr w3 : World} {v v3 : Value} {xs ys : List Sx} (h : FindI w v xs wr) (ho : encX.Own w3 wr.heap.size 38 v3 ys) (hb : Below wr.heap.size wr w3) (hy : ∀ y ∈ ys, y ∈ xs ∨ y.Ok wr (w.heap.size ≤ ·)) : FindI w v3 ys w3 := by
  have hlow : w.heap.size ≤ wr.heap.size := h.bel.size
  refine ⟨own_lower ho hlow, fun y hy' => ?_, h.bel.trans (hb.mono hlow)⟩
  have key : y.Ok wr (w.heap.size ≤ ·) := by
    rcases hy y hy' with h1 | h1
    · exact (h.ok y h1).mono fun b hb => hb.1
    · exact h1
  exact (key.in_.old hb).mono fun b hb => ⟨hb.1, fun e => by have h1 := (ho.lt b e).1; have h2 : b < wr.heap.size := hb.2; omega⟩
set_option maxRecDepth 100000 in
set_option maxHeartbeats 8000000 in
theorem refFind_any (A : Option Addr) (ts : List St.T) (C : Nat) (G : Nat → Prop) (w : World) (hn : ts.length ≤ 1000) (hl : ∀ t ∈ ts, t.blocks.length ≤ 1000000 ∧ ∀ s ∈ t.blocks, s.length ≤ 1000) (hr : RdT w A ts G) :
    Calls Tryz.prog 12 #[.slice A ts.length C] w (FindA (Gr.find ts) w) := by
  have HR := Lib.hid hr
  have HL := Lib.hid hl
  clear hr hl
  go_enter Tryz.func12, Tryz.ntmps12
  go_wp2
  go_loopw [4, 3, 7] (fun vi v vk wr => ∃ (i : Nat) (xs : List Sx), i ≤ ts.length ∧ vi = .int .i64 (i : Int) ∧ Hid (FindI w v xs wr) ∧ xs.length ≤ i ∧ Hid (xs.map Sx.s = Gr.find (ts.take i))) (fun vi _ _ _ => ts.length - (intOf vi).toNat)
  case atStart => exact ⟨0, [], Nat.zero_le _, rfl, Lib.hid (FindI.start w), Nat.le_refl _, Lib.hid rfl⟩
  case round =>
    obtain ⟨i, xs, hi, rfl, HI, hxi, HM⟩ := hrel
    by_cases hlt : i < ts.length
    · have e0 : decide (i < ts.length) = true := decide_eq_true hlt
      obtain ⟨b, off, A', C', rfl, -, c0, c1, c2, c3, hb⟩ := (HR.out.old HI.out.bel).at_ hlt
      have HLI := Lib.hid (HL.out _ (List.getElem_mem hlt))
      have HCT := Lib.hid (find_take hlt)
      obtain ⟨⟨lab, cap, bs, lost⟩, ht⟩ : ∃ t, t = ts[i] := ⟨_, rfl⟩
      rw [← ht] at c0 c1 c2 c3 hb HLI HCT
      dsimp only at c0 c1 c2 c3 hb HLI
      obtain ⟨L, hL⟩ : ∃ L, L = bs.length := ⟨_, rfl⟩
      rw [← hL] at c2
      have HCALL := Lib.hid (refSealed_any lab cap bs A' L C' G lost wr hL (by rw [hL]; exact HLI.out.1) hb HLI.out.2)
      have HCAND : Hid (Gr.cand ⟨lab, cap, bs, lost⟩ = match Gr.sealed ⟨lab, cap, bs, lost⟩ with | none => none | some s => if s.labels.getD s.index.toNat 0 = lab then some s else none) := Lib.hid rfl
      have HSOK : Hid (∀ s, Gr.sealed ⟨lab, cap, bs, lost⟩ = some s → Rc.SOk s) := Lib.hid fun s h => Gr.sealed_ok h
      have HC0 := Lib.hid c0
      obtain ⟨o, ho⟩ : ∃ o, o = Gr.sealed ⟨lab, cap, bs, lost⟩ := ⟨_, rfl⟩
      rw [← ho] at HCALL HCAND HSOK
      clear ho ht hL hb HLI
      cases o with
      | none =>
        have HM2 : Hid (xs.map Sx.s = Gr.find (ts.take (i + 1))) := Lib.hid (by rw [HCT.out, HCAND.out, HM.out])
        clear HCAND HCT
        go_wp2_with fail
        refine HCALL.out.mono ?_
        rintro e w1 ⟨⟨⟨sn, si, sd, sp, sl⟩, sA, sC⟩, rfl, -, hxo, hb1⟩
        obtain ⟨wd, hwd⟩ : ∃ wd, wd = w1.alloc (sealObj sn si sd sp sA sl.length sC) := ⟨_, rfl⟩
        have hbd : Below wr.heap.size wr wd := by rw [hwd]; exact hb1.alloc hb1.size _
        have HI2 := Lib.hid (HI.out.old hbd)
        have HWD := Lib.hid hwd
        unfold sealObj at HWD
        clear hwd hbd hxo hb1 c0 c1 c2 c3
        go_wp2
        go_quiet (fail)
        rw [← HWD.out]
        go_wp2
        go_roundw
        case rel => exact ⟨i + 1, xs, by omega, by go_num, Lib.hid (HI2.out.drewN _), by omega, HM2⟩
        case measure => simp [intOf]; omega
      | some s =>
        go_wp2_with fail
        refine HCALL.out.mono ?_
        rintro e w1 ⟨⟨⟨sn, si, sd, sp, sl⟩, sA, sC⟩, rfl, hxs, hxo, hb1⟩
        have hxs' : (⟨sn, si, sd, sp, sl⟩ : Rc.S) = s := hxs
        subst hxs'
        have hok := HSOK.out _ rfl
        obtain ⟨j, rfl⟩ : ∃ j : Nat, si = (j : Int) := ⟨si.toNat, by have := hok.1.2.2.2.2.2.1; simp only at this; omega⟩
        have hkl : j < sl.length := by have := hok.1.2.2.2.2.2.2; simp only at this; omega
        obtain ⟨tb, htb⟩ : ∃ tb, tb = w1.heap.size := ⟨_, rfl⟩
        obtain ⟨wd, hwd⟩ : ∃ wd, wd = w1.alloc (sealObj sn (j : Int) sd sp sA sl.length sC) := ⟨_, rfl⟩
        have hbs : Below w1.heap.size w1 wd := by rw [hwd]; exact (Below.refl _ _).alloc (Nat.le_refl _) _
        have hbd : Below wr.heap.size wr wd := hb1.trans (hbs.mono hb1.size)
        have hS : wd.heap[w1.heap.size]? = some (sealObj sn (j : Int) sd sp sA sl.length sC) := by rw [hwd]; exact Go.Deep.blk_alloc_new _ _
        rw [← htb] at hS
        obtain ⟨x0, x1, x2, x3, x4⟩ := seal5 hS
        obtain ⟨lb, lo, rfl, hlb, hlc⟩ := (hxo.rd.old hbs).at_ hkl
        have t0' := (hbd.cell (World.block_lt_of_cell? _ _ c0)).trans c0
        have HXO : Hid (Sx.Ok ⟨⟨sn, (j : Int), sd, sp, sl⟩, some ⟨lb, lo, none⟩, sC⟩ wd (w.heap.size ≤ ·)) := Lib.hid ((hxo.old hbs).mono fun x hx => by have h1 : wr.heap.size ≤ x := hx; have h2 := HI.out.bel.size; omega)
        have HS := Lib.hid hS
        have HI2 := Lib.hid (HI.out.old hbd)
        obtain ⟨m, hm⟩ : ∃ m, m = sl.length := ⟨_, rfl⟩
        obtain ⟨y, hy⟩ : ∃ y, y = sl[j] := ⟨_, rfl⟩
        have hkm : j < m := by rw [hm]; exact hkl
        have hCN : Hid (Gr.cand ⟨lab, cap, bs, lost⟩ = if y = lab then some ⟨sn, (j : Int), sd, sp, sl⟩ else none) := Lib.hid (by
          rw [HCAND.out, hy]
          show (if sl.getD ((j : Int)).toNat 0 = lab then _ else _) = _
          rw [show ((j : Int)).toNat = j by omega, List.getD_eq_getElem?_getD, List.getElem?_eq_getElem hkl]; rfl)
        rw [← hm] at x4
        rw [← hy] at hlc
        have HMM := Lib.hid hm
        have HTB := Lib.hid htb
        have HWD := Lib.hid hwd
        unfold sealObj at HWD
        rw [← hm] at HWD ⊢
        rw [HWD.out] at x0 x1 x2 x3 x4 hlc t0'
        clear hwd hbd hbs hS hxo hb1 c0 c1 c2 c3 hxs hok HSOK HCAND hlb hm hy hkl htb
        cases q1 : (y != lab) with
        | true =>
          have HM2 : Hid (xs.map Sx.s = Gr.find (ts.take (i + 1))) := Lib.hid (by
            rw [HCT.out, hCN.out, if_neg (by simpa using q1), HM.out])
          clear HCT hCN
          go_wp2
          go_quiet (fail)
          rw [← HWD.out]
          go_wp2
          go_roundw
          case rel => exact ⟨i + 1, xs, by omega, by go_num, Lib.hid (HI2.out.drewN _), by omega, HM2⟩
          case measure => simp [intOf]; omega
        | false =>
          have HF2 : Hid (Gr.find (ts.take (i + 1)) = Gr.ins ⟨sn, (j : Int), sd, sp, sl⟩ (xs.map Sx.s)) := Lib.hid (by
            rw [HCT.out, hCN.out, if_pos (by simpa using q1), HM.out])
          clear HCT hCN
          go_wp2
          go_quiet (fail)
          rw [← HWD.out, ← HTB.out]
          obtain ⟨wq, hwq⟩ : ∃ wq, wq = wd.drewN nq := ⟨_, rfl⟩
          have hbq : Below wd.heap.size wd wq := by
            rw [hwq]
            exact ⟨rfl, rfl, rfl, Nat.le_refl _, fun _ _ => rfl⟩
          rw [← hwq]
          have HIQ := Lib.hid (HI2.out.old hbq)
          have HXQ := Lib.hid (HXO.out.old hbq)
          have HSQ := Lib.hid (below_obj hbq HS.out)
          clear x0 x1 x2 x3 x4 hlc t0' hwq hbq
          have hsits := sits_own HIQ.out.own
          obtain ⟨A0, C0, hv, hnC, hCm, hA0, hrd0⟩ := HIQ.out.own.rd
          have hA0' : (A0 = none) ∨ ∃ g, A0 = some ⟨g, 0, none⟩ := by
            rcases hsits with ⟨h1, -⟩ | ⟨g, C, h1, -⟩
            · rw [hv] at h1; injection h1 with h1; exact .inl h1
            · rw [hv] at h1; injection h1 with h1; exact .inr ⟨g, h1⟩
          have HA0' := Lib.hid hA0'
          clear hsits hA0'
          obtain ⟨n, hn'⟩ : ∃ n, n = xs.length := ⟨_, rfl⟩
          rw [← hn'] at hv hnC hA0
          have hnm : n ≤ 1000 := by omega
          have hni : n ≤ i := by omega
          have HV := Lib.hid hv
          have HRD := Lib.hid hrd0
          have HN := Lib.hid hn'
          have HNX : Hid ((xs.map Sx.s).length = n) := Lib.hid (by rw [List.length_map, hn'])
          subst hv
          rw [← HMM.out] at HSQ
          clear hrd0 hn' hxi
          go_wp2
          go_loopw [7] (fun vk wr => ∃ k : Nat, k ≤ n ∧ vk = .int .i64 (k : Int) ∧ Hid (∀ a (ha : a < (xs.map Sx.s).length), a < k → (xs.map Sx.s)[a].number < sn) ∧ Hid (Below wq.heap.size wq wr)) (fun vk _ => n - (intOf vk).toNat)
          case atStart => exact ⟨0, Nat.zero_le _, rfl, Lib.hid (fun a ha h => absurd h (by omega)), Lib.hid (Below.refl _ _)⟩
          case round =>
            obtain ⟨k, hk, rfl, HLE, HBK⟩ := hrel
            obtain ⟨z0, z1, z2, z3, z4⟩ := seal5 (below_obj HBK.out HSQ.out)
            by_cases hltk : k < n
            · have e1 : decide ((k : Int) < (n : Int)) = true := decide_eq_true (by omega)
              have e2 : decide (k < n) = true := decide_eq_true hltk
              have hkx : k < xs.length := by rw [← HN.out]; exact hltk
              have hkm' : k < (xs.map Sx.s).length := by rw [HNX.out]; exact hltk
              obtain ⟨g, og, rfl, hfive⟩ := rd_five (HRD.out.old HBK.out) hkx rfl
              have p0 := hfive.1
              have hxk : (xs.map Sx.s)[k].number = xs[k].s.number := by rw [List.getElem_map]
              obtain ⟨yn, hyn⟩ : ∃ yn, yn = xs[k].s.number := ⟨_, rfl⟩
              rw [← hyn] at p0 hxk
              have HXK := Lib.hid hxk
              clear hfive hxk hyn
              by_cases hl : yn < sn
              · have e3 : decide (yn < sn) = true := decide_eq_true hl
                have HLE2 : Hid (∀ a (ha : a < (xs.map Sx.s).length), a < k + 1 → (xs.map Sx.s)[a].number < sn) := Lib.hid fun a ha h => by
                  by_cases e : a = k
                  · subst e; rw [HXK.out]; exact hl
                  · exact HLE.out a ha (by omega)
                clear hl
                go_wp2
                go_quiet (fail)
                go_wp2
                go_roundw
                case rel => exact ⟨k + 1, by omega, by go_num, HLE2, Lib.hid (HBK.out.trans ⟨rfl, rfl, rfl, Nat.le_refl _, fun _ _ => rfl⟩)⟩
                case measure => simp [intOf]; omega
              · have e3 : decide (yn < sn) = false := decide_eq_false hl
                have HINS := Lib.hid (ins_at (s := ⟨sn, (j : Int), sd, sp, sl⟩) (l := xs.map Sx.s) (k := k) (by omega) (fun a ha => HLE.out a (by omega) ha) (fun h => by rw [HXK.out]; exact hl))
                rw [dif_pos hkm'] at HINS
                cases q2 : (yn == sn) with
                | true =>
                  have HM2 : Hid (xs.map Sx.s = Gr.find (ts.take (i + 1))) := Lib.hid (by
                    rw [HF2.out, HINS.out, if_pos (by rw [HXK.out]; exact beq_iff_eq.1 q2)])
                  have hxn : xs.length ≤ i + 1 := by have := HN.out; omega
                  clear hl
                  go_wp2
                  go_quiet (fail)
                  obtain ⟨wy, hwy⟩ : ∃ wy, wy = wr.drewN nq := ⟨_, rfl⟩
                  have hby : Below wr.heap.size wr wy := by
                    rw [hwy]
                    exact ⟨rfl, rfl, rfl, Nat.le_refl _, fun _ _ => rfl⟩
                  rw [← hwy]
                  have p1 := (hby.cell (World.block_lt_of_cell? _ _ p0)).trans p0
                  obtain ⟨q0, -, -, -, -⟩ := seal5 (below_obj (HBK.out.trans (hby.mono HBK.out.size)) HSQ.out)
                  have HBY := Lib.hid (HBK.out.trans (hby.mono HBK.out.size))
                  clear hwy hby p0 z0 z1 z2 z3 z4
                  go_wp2
                  go_quiet (fail)
                  go_wp2
                  go_roundw
                  case rel => exact ⟨i + 1, xs, by omega, by go_num, Lib.hid ((HIQ.out.old HBY.out).drewN _), hxn, HM2⟩
                  case measure => simp [intOf]; omega
                | false =>
                  rw [if_neg (by rw [HXK.out]; exact beq_eq_false_iff_ne.1 q2)] at HINS
                  clear hl
                  go_wp2
                  go_quiet (fail)
                  obtain ⟨wy, hwy⟩ : ∃ wy, wy = wr.drewN nq := ⟨_, rfl⟩
                  have hby : Below wr.heap.size wr wy := by
                    rw [hwy]
                    exact ⟨rfl, rfl, rfl, Nat.le_refl _, fun _ _ => rfl⟩
                  rw [← hwy]
                  have p1 := (hby.cell (World.block_lt_of_cell? _ _ p0)).trans p0
                  obtain ⟨q0, -, -, -, -⟩ := seal5 (below_obj (HBK.out.trans (hby.mono HBK.out.size)) HSQ.out)
                  have HBY := Lib.hid (HBK.out.trans (hby.mono HBK.out.size))
                  clear hwy hby p0 z0 z1 z2 z3 z4
                  go_wp2
                  go_quiet (fail)
                  obtain ⟨wz, hwz⟩ : ∃ wz, wz = wy.drewN nq := ⟨_, rfl⟩
                  rw [← hwz]
                  have hbz : Below wq.heap.size wq wz := by
                    rw [hwz]
                    exact HBY.out.trans ⟨rfl, rfl, rfl, Nat.le_refl _, fun _ _ => rfl⟩
                  clear hwz p1 q0
                  have HRDZ := Lib.hid (HRD.out.old hbz)
                  have HR1 : Hid (∀ y, Below wz.heap.size wz y → encX.Rd y (some ⟨g, og, none⟩) (xs.take k) (fun _ => True)) := Lib.hid fun y hy => rd_take ((HRDZ.out.old hy).mono fun _ _ => trivial) k
                  have HR2 : Hid (∀ y, Below wz.heap.size wz y → encX.Rd y (some ⟨g, og + k * 5, none⟩) (xs.drop k) (fun _ => True)) := Lib.hid fun y hy => rd_part ((HRDZ.out.old hy).mono fun _ _ => trivial) k
                  have HIZ := Lib.hid (HIQ.out.old hbz)
                  have HXZ := Lib.hid (HXQ.out.old hbz)
                  have hSZ := below_obj hbz HSQ.out
                  have HS5 : Hid (∀ y, Below wz.heap.size wz y → (y.cell? ⟨tb, 0, none⟩ = some (.int .i64 sn) ∧ y.cell? ⟨tb, 1, none⟩ = some (.int .i64 (j : Int)) ∧ y.cell? ⟨tb, 2, none⟩ = some (.int .i64 sd) ∧ y.cell? ⟨tb, 3, none⟩ = some (.int .i64 sp) ∧ y.cell? ⟨tb, 4, none⟩ = some (.slice (some ⟨lb, lo, none⟩) m sC)) ∧ Below wz.heap.size wz y) := Lib.hid fun y hy => ⟨seal5 (below_obj hy hSZ), hy⟩
                  have hnew : ∀ y : World, encX.Rd (y.alloc (.cells #[.int .i64 sn, .int .i64 (j : Int), .int .i64 sd, .int .i64 sp, .slice (some ⟨lb, lo, none⟩) m sC] 38)) (some ⟨y.heap.size, 0, none⟩) [(⟨⟨sn, (j : Int), sd, sp, sl⟩, some ⟨lb, lo, none⟩, sC⟩ : Sx)] (fun _ => True) := fun y => by
                    have h := one_new y (⟨⟨sn, (j : Int), sd, sp, sl⟩, some ⟨lb, lo, none⟩, sC⟩ : Sx)
                    unfold Sx.enc at h
                    dsimp only at h
                    rwa [← HMM.out] at h
                  have hbd : Below wz.heap.size wz wz.drew := (Below.refl _ _).drew
                  obtain ⟨v1, y1, hr1, ho1, hg1⟩ := apX wz.drew wz.heap.size (.slice none 0 0) [] (Enc.Own.nil _ _ _) (some ⟨g, og, none⟩) k C0 (xs.take k) _ (by rw [List.length_take, ← HN.out]; omega) (fun h => by cases h) (HR1.out _ hbd) (by simp; omega) (Nat.le_refl _)
                  have hby1 : Below wz.heap.size wz y1 := hbd.trans (grown_nil hg1)
                  rw [List.nil_append] at ho1
                  have hb1a : Below y1.heap.size y1 (y1.alloc (.cells #[.int .i64 sn, .int .i64 (j : Int), .int .i64 sd, .int .i64 sp, .slice (some ⟨lb, lo, none⟩) m sC] 38)) := (Below.refl _ _).alloc (Nat.le_refl _) _
                  have hby1a := hby1.trans (hb1a.mono hby1.size)
                  have ho1a := ho1.old hb1a
                  obtain ⟨v2, y2, hr2, ho2, hg2⟩ := apX _ wz.heap.size v1 _ ho1a (some ⟨y1.heap.size, 0, none⟩) 1 1 [(⟨⟨sn, (j : Int), sd, sp, sl⟩, some ⟨lb, lo, none⟩, sC⟩ : Sx)] _ rfl (fun h => by cases h) (hnew y1) (by simp; omega) hby1a.size
                  have hby2 := hby1a.trans (grown_low ho1a hby1a.size hg2)
                  obtain ⟨v3, y3, hr3, ho3, hg3⟩ := apX y2 wz.heap.size v2 _ ho2 (some ⟨g, og + k * 5, none⟩) (n - k) (C0 - k) (xs.drop k) _ (by rw [List.length_drop, ← HN.out]) (fun h => by cases h) (HR2.out _ hby2) (by simp; omega) hby2.size
                  have hby3 := hby2.trans (grown_low ho2 hby2.size hg3)
                  have hbx0 : Below wz.heap.size wz (wz.alloc (.cells #[.int .i64 sn, .int .i64 (j : Int), .int .i64 sd, .int .i64 sp, .slice (some ⟨lb, lo, none⟩) m sC] 38)).drew := ((Below.refl _ wz).alloc (Nat.le_refl _) _).drew
                  obtain ⟨u1, x1, hs1, po1, pg1⟩ := apX (wz.alloc (.cells #[.int .i64 sn, .int .i64 (j : Int), .int .i64 sd, .int .i64 sp, .slice (some ⟨lb, lo, none⟩) m sC] 38)).drew wz.heap.size (.slice none 0 0) [] (Enc.Own.nil _ _ _) (some ⟨g, og, none⟩) k C0 (xs.take k) _ (by rw [List.length_take, ← HN.out]; omega) (fun h => by cases h) (HR1.out _ hbx0) (by simp; omega) hbx0.size
                  have hbx1 := hbx0.trans ((grown_nil pg1).mono hbx0.size)
                  have hnx1 : encX.Rd x1 (some ⟨wz.heap.size, 0, none⟩) [(⟨⟨sn, (j : Int), sd, sp, sl⟩, some ⟨lb, lo, none⟩, sC⟩ : Sx)] (fun _ => True) := Enc.Rd.old (w := (wz.alloc (.cells #[.int .i64 sn, .int .i64 (j : Int), .int .i64 sd, .int .i64 sp, .slice (some ⟨lb, lo, none⟩) m sC] 38)).drew) (hnew wz) (grown_nil pg1)
                  rw [List.nil_append] at po1
                  obtain ⟨u2, x2, hs2, po2, pg2⟩ := apX x1 wz.heap.size u1 _ po1 (some ⟨wz.heap.size, 0, none⟩) 1 1 [(⟨⟨sn, (j : Int), sd, sp, sl⟩, some ⟨lb, lo, none⟩, sC⟩ : Sx)] _ rfl (fun h => by cases h) hnx1 (by simp; omega) hbx1.size
                  have hbx2 := hbx1.trans (grown_low po1 hbx1.size pg2)
                  obtain ⟨u3, x3, hs3, po3, pg3⟩ := apX x2 wz.heap.size u2 _ po2 (some ⟨g, og + k * 5, none⟩) (n - k) (C0 - k) (xs.drop k) _ (by rw [List.length_drop, ← HN.out]) (fun h => by cases h) (HR2.out _ hbx2) (by simp; omega) hbx2.size
                  have hbx3 := hbx2.trans (grown_low po2 hbx2.size pg3)
                  have hmem : ∀ z ∈ (xs.take k ++ [(⟨⟨sn, (j : Int), sd, sp, sl⟩, some ⟨lb, lo, none⟩, sC⟩ : Sx)]) ++ xs.drop k, z ∈ xs ∨ z.Ok wz (w.heap.size ≤ ·) := fun z hz => by
                    rcases List.mem_append.1 hz with hz | hz
                    · rcases List.mem_append.1 hz with hz | hz
                      · exact .inl (List.mem_of_mem_take hz)
                      · rw [List.mem_singleton.1 hz]; exact .inr HXZ.out
                    · exact .inl (List.mem_of_mem_drop hz)
                  have HF3 := Lib.hid (HIZ.out.anew ho3 hby3 hmem)
                  have HG3 := Lib.hid (HIZ.out.anew po3 hbx3 hmem)
                  have hlen3 : ((xs.take k ++ [(⟨⟨sn, (j : Int), sd, sp, sl⟩, some ⟨lb, lo, none⟩, sC⟩ : Sx)]) ++ xs.drop k).length ≤ i + 1 := by
                    rw [List.length_append, List.length_append, List.length_take, List.length_drop, List.length_singleton]
                    have := HN.out
                    omega
                  have HM3 : Hid (((xs.take k ++ [(⟨⟨sn, (j : Int), sd, sp, sl⟩, some ⟨lb, lo, none⟩, sC⟩ : Sx)]) ++ xs.drop k).map Sx.s = Gr.find (ts.take (i + 1))) := Lib.hid (by
                    rw [HF2.out, HINS.out, List.map_append, List.map_append, List.map_take, List.map_drop, List.append_assoc]; rfl)
                  have s0 := HS5.out _ hbd
                  have s1' := HS5.out _ hby1
                  have s1a := HS5.out _ hby1a
                  have s2' := HS5.out _ hby2
                  have s3' := HS5.out _ hby3
                  have t0 := HS5.out _ hbx0
                  have t1 := HS5.out _ hbx1
                  have t2 := HS5.out _ hbx2
                  have t3 := HS5.out _ hbx3
                  clear hnew ho1 hg1 hb1a ho1a ho2 hg2 ho3 hg3 po1 pg1 hnx1 po2 pg2 po3 pg3 hmem hbd hby1 hby1a hby2 hby3 hbx0 hbx1 hbx2 hbx3 hSZ
                  go_wp2
                  have i0 : (0 : Int) ≤ (k : Int) := by omega
                  have i1 : (k : Int) ≤ (n : Int) := by omega
                  have i2 : (k : Int) ≤ (C0 : Int) := by omega
                  have i3 : (n : Int) ≤ (C0 : Int) := by omega
                  have i4 : ¬ C0 = k := by omega
                  go_region_held3 (fun y => (y.cell? ⟨tb, 0, none⟩ = some (.int .i64 sn) ∧ y.cell? ⟨tb, 1, none⟩ = some (.int .i64 (j : Int)) ∧ y.cell? ⟨tb, 2, none⟩ = some (.int .i64 sd) ∧ y.cell? ⟨tb, 3, none⟩ = some (.int .i64 sp) ∧ y.cell? ⟨tb, 4, none⟩ = some (.slice (some ⟨lb, lo, none⟩) m sC)) ∧ Below wz.heap.size wz y)
                    (first
                      | exact s0
                      | exact s1'
                      | exact s1a
                      | exact s2'
                      | exact s3'
                      | exact t0
                      | exact t1
                      | exact t2
                      | exact t3)
                    (first
                      | (refine step_append_eq (by rfl) _ _ _ _ (by rfl) _ _ _ _ hr1 (by rfl) (by rfl) ?_)
                      | (refine step_append_eq (by rfl) _ _ _ _ (by rfl) _ _ _ _ hs1 (by rfl) (by rfl) ?_)
                      | (refine step_append_eq (by rfl) _ _ _ _ (by rfl) _ _ _ _ hr2 (by rfl) (by rfl) ?_)
                      | (refine step_append_eq (by rfl) _ _ _ _ (by rfl) _ _ _ _ hs2 (by rfl) (by rfl) ?_)
                      | (refine step_append_eq (by rfl) _ _ _ _ (by rfl) _ _ _ _ hr3 (by rfl) (by rfl) ?_)
                      | (refine step_append_eq (by rfl) _ _ _ _ (by rfl) _ _ _ _ hs3 (by rfl) (by rfl) ?_))
                  all_goals
                    clear s0 s1' s1a s2' s3' t0 t1 t2 t3 hr1 hr2 hr3 hs1 hs2 hs3
                    go_wp2
                    go_roundw
                    case rel => first
                      | exact ⟨i + 1, _, by omega, by go_num, HF3, hlen3, HM3⟩
                      | exact ⟨i + 1, _, by omega, by go_num, HG3, hlen3, HM3⟩
                    case measure => simp [intOf]; omega
            · have e1 : decide ((k : Int) < (n : Int)) = false := decide_eq_false (by omega)
              have e2 : decide (k < n) = false := decide_eq_false hltk
              have HINS := Lib.hid (ins_at (s := ⟨sn, (j : Int), sd, sp, sl⟩) (l := xs.map Sx.s) (k := k) (by rw [HNX.out]; exact hk) (fun a ha => HLE.out a (by have := HNX.out; omega) ha) (fun h => absurd h (by rw [HNX.out]; exact hltk)))
              rw [dif_neg (by rw [HNX.out]; exact hltk)] at HINS
              go_wp2
              go_quiet (fail)
              obtain ⟨wy, hwy⟩ : ∃ wy, wy = wr.drewN nq := ⟨_, rfl⟩
              have HBY : Hid (Below wq.heap.size wq wy) := Lib.hid (by
                rw [hwy]
                exact HBK.out.trans ⟨rfl, rfl, rfl, Nat.le_refl _, fun _ _ => rfl⟩)
              rw [← hwy]
              clear hwy z0 z1 z2 z3 z4
              go_wp2
              go_quiet (fail)
              obtain ⟨wz, hwz⟩ : ∃ wz, wz = wy.drewN nq := ⟨_, rfl⟩
              rw [← hwz]
              have hbz : Below wq.heap.size wq wz := by
                rw [hwz]
                exact HBY.out.trans ⟨rfl, rfl, rfl, Nat.le_refl _, fun _ _ => rfl⟩
              clear hwz
              rcases HA0'.out with rfl | ⟨g, rfl⟩
              · obtain ⟨hn0, rfl⟩ := hA0 rfl
                subst hn0
                have hk0 : k = 0 := by omega
                subst hk0
                have HXS : Hid (xs = []) := Lib.hid (List.length_eq_zero_iff.1 HN.out.symm)
                have HIZ := Lib.hid (HIQ.out.old hbz)
                have HXZ := Lib.hid (HXQ.out.old hbz)
                have hSZ := below_obj hbz HSQ.out
                have HS5 : Hid (∀ y, Below wz.heap.size wz y → (y.cell? ⟨tb, 0, none⟩ = some (.int .i64 sn) ∧ y.cell? ⟨tb, 1, none⟩ = some (.int .i64 (j : Int)) ∧ y.cell? ⟨tb, 2, none⟩ = some (.int .i64 sd) ∧ y.cell? ⟨tb, 3, none⟩ = some (.int .i64 sp) ∧ y.cell? ⟨tb, 4, none⟩ = some (.slice (some ⟨lb, lo, none⟩) m sC)) ∧ Below wz.heap.size wz y) := Lib.hid fun y hy => ⟨seal5 (below_obj hy hSZ), hy⟩
                have hnew : ∀ y : World, encX.Rd (y.alloc (.cells #[.int .i64 sn, .int .i64 (j : Int), .int .i64 sd, .int .i64 sp, .slice (some ⟨lb, lo, none⟩) m sC] 38)) (some ⟨y.heap.size, 0, none⟩) [(⟨⟨sn, (j : Int), sd, sp, sl⟩, some ⟨lb, lo, none⟩, sC⟩ : Sx)] (fun _ => True) := fun y => by
                  have h := one_new y (⟨⟨sn, (j : Int), sd, sp, sl⟩, some ⟨lb, lo, none⟩, sC⟩ : Sx)
                  unfold Sx.enc at h
                  dsimp only at h
                  rwa [← HMM.out] at h
                have hbd : Below wz.heap.size wz wz.drew := (Below.refl _ _).drew
                obtain ⟨v1, y1, hr1, ho1, hg1⟩ := apX wz.drew wz.heap.size (.slice none 0 0) [] (Enc.Own.nil _ _ _) none 0 0 [] (fun _ => True) rfl (fun _ => ⟨rfl, rfl⟩) (Enc.Rd.nil _ _ _) (by simp) (Nat.le_refl _)
                have hby1 : Below wz.heap.size wz y1 := hbd.trans (grown_nil hg1)
                rw [List.nil_append] at ho1
                have hb1a : Below y1.heap.size y1 (y1.alloc (.cells #[.int .i64 sn, .int .i64 (j : Int), .int .i64 sd, .int .i64 sp, .slice (some ⟨lb, lo, none⟩) m sC] 38)) := (Below.refl _ _).alloc (Nat.le_refl _) _
                have hby1a := hby1.trans (hb1a.mono hby1.size)
                have ho1a := ho1.old hb1a
                obtain ⟨v2, y2, hr2, ho2, hg2⟩ := apX _ wz.heap.size v1 _ ho1a (some ⟨y1.heap.size, 0, none⟩) 1 1 [(⟨⟨sn, (j : Int), sd, sp, sl⟩, some ⟨lb, lo, none⟩, sC⟩ : Sx)] _ rfl (fun h => by cases h) (hnew y1) (by simp) hby1a.size
                have hby2 := hby1a.trans (grown_low ho1a hby1a.size hg2)
                obtain ⟨v3, y3, hr3, ho3, hg3⟩ := apX y2 wz.heap.size v2 _ ho2 none 0 0 [] (fun _ => True) rfl (fun _ => ⟨rfl, rfl⟩) (Enc.Rd.nil _ _ _) (by simp) hby2.size
                have hby3 := hby2.trans (grown_low ho2 hby2.size hg3)
                have hbx0 : Below wz.heap.size wz (wz.alloc (.cells #[.int .i64 sn, .int .i64 (j : Int), .int .i64 sd, .int .i64 sp, .slice (some ⟨lb, lo, none⟩) m sC] 38)).drew := ((Below.refl _ wz).alloc (Nat.le_refl _) _).drew
                obtain ⟨u1, x1, hs1, po1, pg1⟩ := apX (wz.alloc (.cells #[.int .i64 sn, .int .i64 (j : Int), .int .i64 sd, .int .i64 sp, .slice (some ⟨lb, lo, none⟩) m sC] 38)).drew wz.heap.size (.slice none 0 0) [] (Enc.Own.nil _ _ _) none 0 0 [] (fun _ => True) rfl (fun _ => ⟨rfl, rfl⟩) (Enc.Rd.nil _ _ _) (by simp) hbx0.size
                have hbx1 := hbx0.trans ((grown_nil pg1).mono hbx0.size)
                have hnx1 : encX.Rd x1 (some ⟨wz.heap.size, 0, none⟩) [(⟨⟨sn, (j : Int), sd, sp, sl⟩, some ⟨lb, lo, none⟩, sC⟩ : Sx)] (fun _ => True) := Enc.Rd.old (w := (wz.alloc (.cells #[.int .i64 sn, .int .i64 (j : Int), .int .i64 sd, .int .i64 sp, .slice (some ⟨lb, lo, none⟩) m sC] 38)).drew) (hnew wz) (grown_nil pg1)
                rw [List.nil_append] at po1
                obtain ⟨u2, x2, hs2, po2, pg2⟩ := apX x1 wz.heap.size u1 _ po1 (some ⟨wz.heap.size, 0, none⟩) 1 1 [(⟨⟨sn, (j : Int), sd, sp, sl⟩, some ⟨lb, lo, none⟩, sC⟩ : Sx)] _ rfl (fun h => by cases h) hnx1 (by simp) hbx1.size
                have hbx2 := hbx1.trans (grown_low po1 hbx1.size pg2)
                obtain ⟨u3, x3, hs3, po3, pg3⟩ := apX x2 wz.heap.size u2 _ po2 none 0 0 [] (fun _ => True) rfl (fun _ => ⟨rfl, rfl⟩) (Enc.Rd.nil _ _ _) (by simp) hbx2.size
                have hbx3 := hbx2.trans (grown_low po2 hbx2.size pg3)
                have hmem : ∀ z ∈ (([] : List Sx) ++ [(⟨⟨sn, (j : Int), sd, sp, sl⟩, some ⟨lb, lo, none⟩, sC⟩ : Sx)]) ++ ([] : List Sx), z ∈ xs ∨ z.Ok wz (w.heap.size ≤ ·) := fun z hz => by
                  rcases List.mem_append.1 hz with hz | hz
                  · rcases List.mem_append.1 hz with hz | hz
                    · cases hz
                    · rw [List.mem_singleton.1 hz]; exact .inr HXZ.out
                  · cases hz
                have HF3 := Lib.hid (HIZ.out.anew ho3 hby3 hmem)
                have HG3 := Lib.hid (HIZ.out.anew po3 hbx3 hmem)
                have hlen3 : ((([] : List Sx) ++ [(⟨⟨sn, (j : Int), sd, sp, sl⟩, some ⟨lb, lo, none⟩, sC⟩ : Sx)]) ++ ([] : List Sx)).length ≤ i + 1 := by
                  show 1 ≤ i + 1; omega
                have HM3 : Hid (((([] : List Sx) ++ [(⟨⟨sn, (j : Int), sd, sp, sl⟩, some ⟨lb, lo, none⟩, sC⟩ : Sx)]) ++ ([] : List Sx)).map Sx.s = Gr.find (ts.take (i + 1))) := Lib.hid (by
                  rw [HF2.out, HXS.out]; rfl)
                have s0 := HS5.out _ hbd
                have s1' := HS5.out _ hby1
                have s1a := HS5.out _ hby1a
                have s2' := HS5.out _ hby2
                have s3' := HS5.out _ hby3
                have t0 := HS5.out _ hbx0
                have t1 := HS5.out _ hbx1
                have t2 := HS5.out _ hbx2
                have t3 := HS5.out _ hbx3
                clear hnew ho1 hg1 hb1a ho1a ho2 hg2 ho3 hg3 po1 pg1 hnx1 po2 pg2 po3 pg3 hmem hbd hby1 hby1a hby2 hby3 hbx0 hbx1 hbx2 hbx3 hSZ
                go_wp2
                go_region_held3 (fun y => (y.cell? ⟨tb, 0, none⟩ = some (.int .i64 sn) ∧ y.cell? ⟨tb, 1, none⟩ = some (.int .i64 (j : Int)) ∧ y.cell? ⟨tb, 2, none⟩ = some (.int .i64 sd) ∧ y.cell? ⟨tb, 3, none⟩ = some (.int .i64 sp) ∧ y.cell? ⟨tb, 4, none⟩ = some (.slice (some ⟨lb, lo, none⟩) m sC)) ∧ Below wz.heap.size wz y)
                  (first
                    | exact s0
                    | exact s1'
                    | exact s1a
                    | exact s2'
                    | exact s3'
                    | exact t0
                    | exact t1
                    | exact t2
                    | exact t3)
                  (first
                    | (refine step_append_eq (by rfl) _ _ _ _ (by rfl) _ _ _ _ hr1 (by rfl) (by rfl) ?_)
                    | (refine step_append_eq (by rfl) _ _ _ _ (by rfl) _ _ _ _ hs1 (by rfl) (by rfl) ?_)
                    | (refine step_append_eq (by rfl) _ _ _ _ (by rfl) _ _ _ _ hr2 (by rfl) (by rfl) ?_)
                    | (refine step_append_eq (by rfl) _ _ _ _ (by rfl) _ _ _ _ hs2 (by rfl) (by rfl) ?_)
                    | (refine step_append_eq (by rfl) _ _ _ _ (by rfl) _ _ _ _ hr3 (by rfl) (by rfl) ?_)
                    | (refine step_append_eq (by rfl) _ _ _ _ (by rfl) _ _ _ _ hs3 (by rfl) (by rfl) ?_))
                all_goals
                  clear s0 s1' s1a s2' s3' t0 t1 t2 t3 hr1 hr2 hr3 hs1 hs2 hs3
                  go_wp2
                  go_roundw
                  case rel => first
                    | exact ⟨i + 1, _, by omega, by go_num, HF3, hlen3, HM3⟩
                    | exact ⟨i + 1, _, by omega, by go_num, HG3, hlen3, HM3⟩
                  case measure => simp [intOf]; omega
              · by_cases hC : k = C0
                · subst hC
                  obtain hkn : k = n := by omega
                  subst hkn
                  have HRDZ := Lib.hid (HRD.out.old hbz)
                  have HR1 : Hid (∀ y, Below wz.heap.size wz y → encX.Rd y (some ⟨g, 0, none⟩) (xs.take k) (fun _ => True)) := Lib.hid fun y hy => rd_take ((HRDZ.out.old hy).mono fun _ _ => trivial) k
                  have HR2 : Hid (∀ y, Below wz.heap.size wz y → encX.Rd y (some ⟨g, 0, none⟩) (xs.drop k) (fun _ => True)) := Lib.hid fun y hy hn => absurd hn (by rw [List.length_drop, ← HN.out]; omega)
                  have HIZ := Lib.hid (HIQ.out.old hbz)
                  have HXZ := Lib.hid (HXQ.out.old hbz)
                  have hSZ := below_obj hbz HSQ.out
                  have HS5 : Hid (∀ y, Below wz.heap.size wz y → (y.cell? ⟨tb, 0, none⟩ = some (.int .i64 sn) ∧ y.cell? ⟨tb, 1, none⟩ = some (.int .i64 (j : Int)) ∧ y.cell? ⟨tb, 2, none⟩ = some (.int .i64 sd) ∧ y.cell? ⟨tb, 3, none⟩ = some (.int .i64 sp) ∧ y.cell? ⟨tb, 4, none⟩ = some (.slice (some ⟨lb, lo, none⟩) m sC)) ∧ Below wz.heap.size wz y) := Lib.hid fun y hy => ⟨seal5 (below_obj hy hSZ), hy⟩
                  have hnew : ∀ y : World, encX.Rd (y.alloc (.cells #[.int .i64 sn, .int .i64 (j : Int), .int .i64 sd, .int .i64 sp, .slice (some ⟨lb, lo, none⟩) m sC] 38)) (some ⟨y.heap.size, 0, none⟩) [(⟨⟨sn, (j : Int), sd, sp, sl⟩, some ⟨lb, lo, none⟩, sC⟩ : Sx)] (fun _ => True) := fun y => by
                    have h := one_new y (⟨⟨sn, (j : Int), sd, sp, sl⟩, some ⟨lb, lo, none⟩, sC⟩ : Sx)
                    unfold Sx.enc at h
                    dsimp only at h
                    rwa [← HMM.out] at h
                  have hbd : Below wz.heap.size wz wz.drew := (Below.refl _ _).drew
                  obtain ⟨v1, y1, hr1, ho1, hg1⟩ := apX wz.drew wz.heap.size (.slice none 0 0) [] (Enc.Own.nil _ _ _) (some ⟨g, 0, none⟩) k k (xs.take k) _ (by rw [List.length_take, ← HN.out]; omega) (fun h => by cases h) (HR1.out _ hbd) (by simp; omega) (Nat.le_refl _)
                  have hby1 : Below wz.heap.size wz y1 := hbd.trans (grown_nil hg1)
                  rw [List.nil_append] at ho1
                  have hb1a : Below y1.heap.size y1 (y1.alloc (.cells #[.int .i64 sn, .int .i64 (j : Int), .int .i64 sd, .int .i64 sp, .slice (some ⟨lb, lo, none⟩) m sC] 38)) := (Below.refl _ _).alloc (Nat.le_refl _) _
                  have hby1a := hby1.trans (hb1a.mono hby1.size)
                  have ho1a := ho1.old hb1a
                  obtain ⟨v2, y2, hr2, ho2, hg2⟩ := apX _ wz.heap.size v1 _ ho1a (some ⟨y1.heap.size, 0, none⟩) 1 1 [(⟨⟨sn, (j : Int), sd, sp, sl⟩, some ⟨lb, lo, none⟩, sC⟩ : Sx)] _ rfl (fun h => by cases h) (hnew y1) (by simp; omega) hby1a.size
                  have hby2 := hby1a.trans (grown_low ho1a hby1a.size hg2)
                  obtain ⟨v3, y3, hr3, ho3, hg3⟩ := apX y2 wz.heap.size v2 _ ho2 (some ⟨g, 0, none⟩) 0 0 (xs.drop k) _ (by rw [List.length_drop, ← HN.out]; omega) (fun h => by cases h) (HR2.out _ hby2) (by simp; omega) hby2.size
                  have hby3 := hby2.trans (grown_low ho2 hby2.size hg3)
                  have hbx0 : Below wz.heap.size wz (wz.alloc (.cells #[.int .i64 sn, .int .i64 (j : Int), .int .i64 sd, .int .i64 sp, .slice (some ⟨lb, lo, none⟩) m sC] 38)).drew := ((Below.refl _ wz).alloc (Nat.le_refl _) _).drew
                  obtain ⟨u1, x1, hs1, po1, pg1⟩ := apX (wz.alloc (.cells #[.int .i64 sn, .int .i64 (j : Int), .int .i64 sd, .int .i64 sp, .slice (some ⟨lb, lo, none⟩) m sC] 38)).drew wz.heap.size (.slice none 0 0) [] (Enc.Own.nil _ _ _) (some ⟨g, 0, none⟩) k k (xs.take k) _ (by rw [List.length_take, ← HN.out]; omega) (fun h => by cases h) (HR1.out _ hbx0) (by simp; omega) hbx0.size
                  have hbx1 := hbx0.trans ((grown_nil pg1).mono hbx0.size)
                  have hnx1 : encX.Rd x1 (some ⟨wz.heap.size, 0, none⟩) [(⟨⟨sn, (j : Int), sd, sp, sl⟩, some ⟨lb, lo, none⟩, sC⟩ : Sx)] (fun _ => True) := Enc.Rd.old (w := (wz.alloc (.cells #[.int .i64 sn, .int .i64 (j : Int), .int .i64 sd, .int .i64 sp, .slice (some ⟨lb, lo, none⟩) m sC] 38)).drew) (hnew wz) (grown_nil pg1)
                  rw [List.nil_append] at po1
                  obtain ⟨u2, x2, hs2, po2, pg2⟩ := apX x1 wz.heap.size u1 _ po1 (some ⟨wz.heap.size, 0, none⟩) 1 1 [(⟨⟨sn, (j : Int), sd, sp, sl⟩, some ⟨lb, lo, none⟩, sC⟩ : Sx)] _ rfl (fun h => by cases h) hnx1 (by simp; omega) hbx1.size
                  have hbx2 := hbx1.trans (grown_low po1 hbx1.size pg2)
                  obtain ⟨u3, x3, hs3, po3, pg3⟩ := apX x2 wz.heap.size u2 _ po2 (some ⟨g, 0, none⟩) 0 0 (xs.drop k) _ (by rw [List.length_drop, ← HN.out]; omega) (fun h => by cases h) (HR2.out _ hbx2) (by simp; omega) hbx2.size
                  have hbx3 := hbx2.trans (grown_low po2 hbx2.size pg3)
                  have hmem : ∀ z ∈ (xs.take k ++ [(⟨⟨sn, (j : Int), sd, sp, sl⟩, some ⟨lb, lo, none⟩, sC⟩ : Sx)]) ++ xs.drop k, z ∈ xs ∨ z.Ok wz (w.heap.size ≤ ·) := fun z hz => by
                    rcases List.mem_append.1 hz with hz | hz
                    · rcases List.mem_append.1 hz with hz | hz
                      · exact .inl (List.mem_of_mem_take hz)
                      · rw [List.mem_singleton.1 hz]; exact .inr HXZ.out
                    · exact .inl (List.mem_of_mem_drop hz)
                  have HF3 := Lib.hid (HIZ.out.anew ho3 hby3 hmem)
                  have HG3 := Lib.hid (HIZ.out.anew po3 hbx3 hmem)
                  have hlen3 : ((xs.take k ++ [(⟨⟨sn, (j : Int), sd, sp, sl⟩, some ⟨lb, lo, none⟩, sC⟩ : Sx)]) ++ xs.drop k).length ≤ i + 1 := by
                    rw [List.length_append, List.length_append, List.length_take, List.length_drop, List.length_singleton]
                    have := HN.out
                    omega
                  have HM3 : Hid (((xs.take k ++ [(⟨⟨sn, (j : Int), sd, sp, sl⟩, some ⟨lb, lo, none⟩, sC⟩ : Sx)]) ++ xs.drop k).map Sx.s = Gr.find (ts.take (i + 1))) := Lib.hid (by
                    rw [HF2.out, HINS.out, List.map_append, List.map_append, List.map_take, List.map_drop, List.append_assoc]; rfl)
                  have s0 := HS5.out _ hbd
                  have s1' := HS5.out _ hby1
                  have s1a := HS5.out _ hby1a
                  have s2' := HS5.out _ hby2
                  have s3' := HS5.out _ hby3
                  have t0 := HS5.out _ hbx0
                  have t1 := HS5.out _ hbx1
                  have t2 := HS5.out _ hbx2
                  have t3 := HS5.out _ hbx3
                  clear hnew ho1 hg1 hb1a ho1a ho2 hg2 ho3 hg3 po1 pg1 hnx1 po2 pg2 po3 pg3 hmem hbd hby1 hby1a hby2 hby3 hbx0 hbx1 hbx2 hbx3 hSZ
                  go_wp2
                  have i0 : (0 : Int) ≤ (k : Int) := by omega
                  have i1 : (k : Int) ≤ (k : Int) := by omega
                  have i2 : (k : Int) ≤ (k : Int) := by omega
                  have i3 : (k : Int) ≤ (k : Int) := by omega
                  go_region_held3 (fun y => (y.cell? ⟨tb, 0, none⟩ = some (.int .i64 sn) ∧ y.cell? ⟨tb, 1, none⟩ = some (.int .i64 (j : Int)) ∧ y.cell? ⟨tb, 2, none⟩ = some (.int .i64 sd) ∧ y.cell? ⟨tb, 3, none⟩ = some (.int .i64 sp) ∧ y.cell? ⟨tb, 4, none⟩ = some (.slice (some ⟨lb, lo, none⟩) m sC)) ∧ Below wz.heap.size wz y)
                    (first
                      | exact s0
                      | exact s1'
                      | exact s1a
                      | exact s2'
                      | exact s3'
                      | exact t0
                      | exact t1
                      | exact t2
                      | exact t3)
                    (first
                      | (refine step_append_eq (by rfl) _ _ _ _ (by rfl) _ _ _ _ hr1 (by rfl) (by rfl) ?_)
                      | (refine step_append_eq (by rfl) _ _ _ _ (by rfl) _ _ _ _ hs1 (by rfl) (by rfl) ?_)
                      | (refine step_append_eq (by rfl) _ _ _ _ (by rfl) _ _ _ _ hr2 (by rfl) (by rfl) ?_)
                      | (refine step_append_eq (by rfl) _ _ _ _ (by rfl) _ _ _ _ hs2 (by rfl) (by rfl) ?_)
                      | (refine step_append_eq (by rfl) _ _ _ _ (by rfl) _ _ _ _ hr3 (by rfl) (by rfl) ?_)
                      | (refine step_append_eq (by rfl) _ _ _ _ (by rfl) _ _ _ _ hs3 (by rfl) (by rfl) ?_))
                  all_goals
                    clear s0 s1' s1a s2' s3' t0 t1 t2 t3 hr1 hr2 hr3 hs1 hs2 hs3
                    go_wp2
                    go_roundw
                    case rel => first
                      | exact ⟨i + 1, _, by omega, by go_num, HF3, hlen3, HM3⟩
                      | exact ⟨i + 1, _, by omega, by go_num, HG3, hlen3, HM3⟩
                    case measure => simp [intOf]; omega
                · have i4 : ¬ C0 = k := fun h => hC h.symm
                  have HRDZ := Lib.hid (HRD.out.old hbz)
                  have HR1 : Hid (∀ y, Below wz.heap.size wz y → encX.Rd y (some ⟨g, 0, none⟩) (xs.take k) (fun _ => True)) := Lib.hid fun y hy => rd_take ((HRDZ.out.old hy).mono fun _ _ => trivial) k
                  have HR2 : Hid (∀ y, Below wz.heap.size wz y → encX.Rd y (some ⟨g, k * 5, none⟩) (xs.drop k) (fun _ => True)) := Lib.hid fun y hy => by have h := rd_part ((HRDZ.out.old hy).mono fun _ _ => trivial) k; rwa [Nat.zero_add] at h
                  have HIZ := Lib.hid (HIQ.out.old hbz)
                  have HXZ := Lib.hid (HXQ.out.old hbz)
                  have hSZ := below_obj hbz HSQ.out
                  have HS5 : Hid (∀ y, Below wz.heap.size wz y → (y.cell? ⟨tb, 0, none⟩ = some (.int .i64 sn) ∧ y.cell? ⟨tb, 1, none⟩ = some (.int .i64 (j : Int)) ∧ y.cell? ⟨tb, 2, none⟩ = some (.int .i64 sd) ∧ y.cell? ⟨tb, 3, none⟩ = some (.int .i64 sp) ∧ y.cell? ⟨tb, 4, none⟩ = some (.slice (some ⟨lb, lo, none⟩) m sC)) ∧ Below wz.heap.size wz y) := Lib.hid fun y hy => ⟨seal5 (below_obj hy hSZ), hy⟩
                  have hnew : ∀ y : World, encX.Rd (y.alloc (.cells #[.int .i64 sn, .int .i64 (j : Int), .int .i64 sd, .int .i64 sp, .slice (some ⟨lb, lo, none⟩) m sC] 38)) (some ⟨y.heap.size, 0, none⟩) [(⟨⟨sn, (j : Int), sd, sp, sl⟩, some ⟨lb, lo, none⟩, sC⟩ : Sx)] (fun _ => True) := fun y => by
                    have h := one_new y (⟨⟨sn, (j : Int), sd, sp, sl⟩, some ⟨lb, lo, none⟩, sC⟩ : Sx)
                    unfold Sx.enc at h
                    dsimp only at h
                    rwa [← HMM.out] at h
                  have hbd : Below wz.heap.size wz wz.drew := (Below.refl _ _).drew
                  obtain ⟨v1, y1, hr1, ho1, hg1⟩ := apX wz.drew wz.heap.size (.slice none 0 0) [] (Enc.Own.nil _ _ _) (some ⟨g, 0, none⟩) k C0 (xs.take k) _ (by rw [List.length_take, ← HN.out]; omega) (fun h => by cases h) (HR1.out _ hbd) (by simp; omega) (Nat.le_refl _)
                  have hby1 : Below wz.heap.size wz y1 := hbd.trans (grown_nil hg1)
                  rw [List.nil_append] at ho1
                  have hb1a : Below y1.heap.size y1 (y1.alloc (.cells #[.int .i64 sn, .int .i64 (j : Int), .int .i64 sd, .int .i64 sp, .slice (some ⟨lb, lo, none⟩) m sC] 38)) := (Below.refl _ _).alloc (Nat.le_refl _) _
                  have hby1a := hby1.trans (hb1a.mono hby1.size)
                  have ho1a := ho1.old hb1a
                  obtain ⟨v2, y2, hr2, ho2, hg2⟩ := apX _ wz.heap.size v1 _ ho1a (some ⟨y1.heap.size, 0, none⟩) 1 1 [(⟨⟨sn, (j : Int), sd, sp, sl⟩, some ⟨lb, lo, none⟩, sC⟩ : Sx)] _ rfl (fun h => by cases h) (hnew y1) (by simp; omega) hby1a.size
                  have hby2 := hby1a.trans (grown_low ho1a hby1a.size hg2)
                  obtain ⟨v3, y3, hr3, ho3, hg3⟩ := apX y2 wz.heap.size v2 _ ho2 (some ⟨g, k * 5, none⟩) (n - k) (C0 - k) (xs.drop k) _ (by rw [List.length_drop, ← HN.out]) (fun h => by cases h) (HR2.out _ hby2) (by simp; omega) hby2.size
                  have hby3 := hby2.trans (grown_low ho2 hby2.size hg3)
                  have hbx0 : Below wz.heap.size wz (wz.alloc (.cells #[.int .i64 sn, .int .i64 (j : Int), .int .i64 sd, .int .i64 sp, .slice (some ⟨lb, lo, none⟩) m sC] 38)).drew := ((Below.refl _ wz).alloc (Nat.le_refl _) _).drew
                  obtain ⟨u1, x1, hs1, po1, pg1⟩ := apX (wz.alloc (.cells #[.int .i64 sn, .int .i64 (j : Int), .int .i64 sd, .int .i64 sp, .slice (some ⟨lb, lo, none⟩) m sC] 38)).drew wz.heap.size (.slice none 0 0) [] (Enc.Own.nil _ _ _) (some ⟨g, 0, none⟩) k C0 (xs.take k) _ (by rw [List.length_take, ← HN.out]; omega) (fun h => by cases h) (HR1.out _ hbx0) (by simp; omega) hbx0.size
                  have hbx1 := hbx0.trans ((grown_nil pg1).mono hbx0.size)
                  have hnx1 : encX.Rd x1 (some ⟨wz.heap.size, 0, none⟩) [(⟨⟨sn, (j : Int), sd, sp, sl⟩, some ⟨lb, lo, none⟩, sC⟩ : Sx)] (fun _ => True) := Enc.Rd.old (w := (wz.alloc (.cells #[.int .i64 sn, .int .i64 (j : Int), .int .i64 sd, .int .i64 sp, .slice (some ⟨lb, lo, none⟩) m sC] 38)).drew) (hnew wz) (grown_nil pg1)
                  rw [List.nil_append] at po1
                  obtain ⟨u2, x2, hs2, po2, pg2⟩ := apX x1 wz.heap.size u1 _ po1 (some ⟨wz.heap.size, 0, none⟩) 1 1 [(⟨⟨sn, (j : Int), sd, sp, sl⟩, some ⟨lb, lo, none⟩, sC⟩ : Sx)] _ rfl (fun h => by cases h) hnx1 (by simp; omega) hbx1.size
                  have hbx2 := hbx1.trans (grown_low po1 hbx1.size pg2)
                  obtain ⟨u3, x3, hs3, po3, pg3⟩ := apX x2 wz.heap.size u2 _ po2 (some ⟨g, k * 5, none⟩) (n - k) (C0 - k) (xs.drop k) _ (by rw [List.length_drop, ← HN.out]) (fun h => by cases h) (HR2.out _ hbx2) (by simp; omega) hbx2.size
                  have hbx3 := hbx2.trans (grown_low po2 hbx2.size pg3)
                  have hmem : ∀ z ∈ (xs.take k ++ [(⟨⟨sn, (j : Int), sd, sp, sl⟩, some ⟨lb, lo, none⟩, sC⟩ : Sx)]) ++ xs.drop k, z ∈ xs ∨ z.Ok wz (w.heap.size ≤ ·) := fun z hz => by
                    rcases List.mem_append.1 hz with hz | hz
                    · rcases List.mem_append.1 hz with hz | hz
                      · exact .inl (List.mem_of_mem_take hz)
                      · rw [List.mem_singleton.1 hz]; exact .inr HXZ.out
                    · exact .inl (List.mem_of_mem_drop hz)
                  have HF3 := Lib.hid (HIZ.out.anew ho3 hby3 hmem)
                  have HG3 := Lib.hid (HIZ.out.anew po3 hbx3 hmem)
                  have hlen3 : ((xs.take k ++ [(⟨⟨sn, (j : Int), sd, sp, sl⟩, some ⟨lb, lo, none⟩, sC⟩ : Sx)]) ++ xs.drop k).length ≤ i + 1 := by
                    rw [List.length_append, List.length_append, List.length_take, List.length_drop, List.length_singleton]
                    have := HN.out
                    omega
                  have HM3 : Hid (((xs.take k ++ [(⟨⟨sn, (j : Int), sd, sp, sl⟩, some ⟨lb, lo, none⟩, sC⟩ : Sx)]) ++ xs.drop k).map Sx.s = Gr.find (ts.take (i + 1))) := Lib.hid (by
                    rw [HF2.out, HINS.out, List.map_append, List.map_append, List.map_take, List.map_drop, List.append_assoc]; rfl)
                  have s0 := HS5.out _ hbd
                  have s1' := HS5.out _ hby1
                  have s1a := HS5.out _ hby1a
                  have s2' := HS5.out _ hby2
                  have s3' := HS5.out _ hby3
                  have t0 := HS5.out _ hbx0
                  have t1 := HS5.out _ hbx1
                  have t2 := HS5.out _ hbx2
                  have t3 := HS5.out _ hbx3
                  clear hnew ho1 hg1 hb1a ho1a ho2 hg2 ho3 hg3 po1 pg1 hnx1 po2 pg2 po3 pg3 hmem hbd hby1 hby1a hby2 hby3 hbx0 hbx1 hbx2 hbx3 hSZ
                  go_wp2
                  have i0 : (0 : Int) ≤ (k : Int) := by omega
                  have i1 : (k : Int) ≤ (n : Int) := by omega
                  have i2 : (k : Int) ≤ (C0 : Int) := by omega
                  have i3 : (n : Int) ≤ (C0 : Int) := by omega
                  go_region_held3 (fun y => (y.cell? ⟨tb, 0, none⟩ = some (.int .i64 sn) ∧ y.cell? ⟨tb, 1, none⟩ = some (.int .i64 (j : Int)) ∧ y.cell? ⟨tb, 2, none⟩ = some (.int .i64 sd) ∧ y.cell? ⟨tb, 3, none⟩ = some (.int .i64 sp) ∧ y.cell? ⟨tb, 4, none⟩ = some (.slice (some ⟨lb, lo, none⟩) m sC)) ∧ Below wz.heap.size wz y)
                    (first
                      | exact s0
                      | exact s1'
                      | exact s1a
                      | exact s2'
                      | exact s3'
                      | exact t0
                      | exact t1
                      | exact t2
                      | exact t3)
                    (first
                      | (refine step_append_eq (by rfl) _ _ _ _ (by rfl) _ _ _ _ hr1 (by rfl) (by rfl) ?_)
                      | (refine step_append_eq (by rfl) _ _ _ _ (by rfl) _ _ _ _ hs1 (by rfl) (by rfl) ?_)
                      | (refine step_append_eq (by rfl) _ _ _ _ (by rfl) _ _ _ _ hr2 (by rfl) (by rfl) ?_)
                      | (refine step_append_eq (by rfl) _ _ _ _ (by rfl) _ _ _ _ hs2 (by rfl) (by rfl) ?_)
                      | (refine step_append_eq (by rfl) _ _ _ _ (by rfl) _ _ _ _ hr3 (by rfl) (by rfl) ?_)
                      | (refine step_append_eq (by rfl) _ _ _ _ (by rfl) _ _ _ _ hs3 (by rfl) (by rfl) ?_))
                  all_goals
                    clear s0 s1' s1a s2' s3' t0 t1 t2 t3 hr1 hr2 hr3 hs1 hs2 hs3
                    go_wp2
                    go_roundw
                    case rel => first
                      | exact ⟨i + 1, _, by omega, by go_num, HF3, hlen3, HM3⟩
                      | exact ⟨i + 1, _, by omega, by go_num, HG3, hlen3, HM3⟩
                    case measure => simp [intOf]; omega
    · have e0 : decide (i < ts.length) = false := decide_eq_false hlt
      have HM2 : Hid (xs.map Sx.s = Gr.find ts) := Lib.hid (by rw [HM.out, List.take_of_length_le (by omega)])
      obtain ⟨A9, C9, rfl, k1, k2, k3, k4, k5, k6⟩ := HI.out.rd
      have K4 := Lib.hid k4
      have K5 := Lib.hid k5
      have K3 := Lib.hid k3
      clear k4 k5 k3
      go_wp2
      go_ret
      exact ⟨A9, C9, xs, rfl, HM2.out, k1, k2, K3.out, K4.out, K5.out, k6⟩
end Go.Proofs.YtfkoomldncfdnaaGreat
namespace Go.Proofs.YtfkoomldncfdnaaGreat
open Go.RowKit

/-- the document's own Of hands out a seal with the labels of the one that it was given -/
def OfA (o : Option Rc.S) (w : World) (e : Ending) (w' : World) : Prop :=
  ∃ x : Sx, e = .returned (.tuple #[.agg #[.int .i64 x.s.number, .int .i64 x.s.index, .int .i64 x.s.data, .int .i64 x.s.parity, .slice x.A x.s.labels.length x.C], .bool o.isSome]) ∧ x.s = sealIs o ∧ x.Ok w' (fun _ => True) ∧ Below w.heap.size w w'
theorem OfA.stored {w w7 : World} {a0 a1 a2 a3 a4 : Value} {o : Option Rc.S} {n i d p : Int} {m : Nat} {l : List Int} {A : Option Addr} {C : Nat} {b : Bool} (hu : (⟨n, i, d, p, l⟩ : Rc.S) = sealIs o) (hb : o.isSome = b) (hm : m = l.length) (hok : Sx.Ok ⟨⟨n, i, d, p, l⟩, A, C⟩ w7 (fun x => x ≠ w.heap.size)) (hbl : Below w.heap.size w w7) :
    OfA o w (.returned (.tuple #[.agg #[.int .i64 n, .int .i64 i, .int .i64 d, .int .i64 p, .slice A m C], .bool b])) (((((w7.setCell ⟨w.heap.size, 0, none⟩ a0).setCell ⟨w.heap.size, 1, none⟩ a1).setCell ⟨w.heap.size, 2, none⟩ a2).setCell ⟨w.heap.size, 3, none⟩ a3).setCell ⟨w.heap.size, 4, none⟩ a4) := by
  have hk := SitsX.kp_set w7 w.heap.size 0 1 2 3 4 a0 a1 a2 a3 a4
  subst hm
  exact ⟨⟨⟨n, i, d, p, l⟩, A, C⟩, by rw [hb], hu, (hok.kp hk (fun x hx hx' => hx hx')).mono (fun x hx => trivial), hbl.trans (hk.below hbl.size (fun x hx => by omega))⟩
set_option maxRecDepth 100000 in
set_option maxHeartbeats 8000000 in
theorem refOf_any (A : Option Addr) (xs : List Sx) (n C : Nat) (G : Nat → Prop) (label : Int) (w : World) (hn : n = xs.length) (hm : n ≤ 1000) (hr : encX.Rd w A xs G) (hok : ∀ x ∈ xs, x.Ok w (fun _ => True) ∧ x.s.labels.length ≤ 1000) :
    Calls Tryz.prog 15 #[.slice A n C, .int .i64 label] w (OfA (Gr.of (xs.map Sx.s) label) w) := by
  have HR := Lib.hid hr
  have HN := Lib.hid hn
  have HOK : Hid (∀ x ∈ xs, x.Ok w (fun b => b ≠ w.heap.size) ∧ x.s.labels.length ≤ 1000) := Lib.hid fun x hx => ⟨(hok x hx).1.in_.mono fun b hb => by have := hb.2; omega, (hok x hx).2⟩
  obtain ⟨wb, hwb⟩ : ∃ wb, wb = w.alloc (sealObj 0 0 0 0 none 0 0) := ⟨_, rfl⟩
  have hB : Below w.heap.size w wb := by rw [hwb]; exact (Below.refl _ _).alloc (Nat.le_refl _) _
  have hU : wb.heap[w.heap.size]? = some (sealObj 0 0 0 0 none 0 0) := by rw [hwb]; exact Go.Deep.blk_alloc_new _ _
  have HB0 := Lib.hid hB
  have HU0 := Lib.hid hU
  have HW := Lib.hid hwb
  unfold sealObj at HW
  clear hr hn hok hwb hB hU
  go_enter Tryz.func15, Tryz.ntmps15
  go_wp2
  rw [← HW.out]
  go_loopw [6, 7] (fun vi vk wr => ∃ i : Nat, i ≤ n ∧ vi = .int .i64 (i : Int) ∧ Hid (∀ s ∈ (xs.map Sx.s).take i, label ∉ s.labels) ∧ Hid (Below w.heap.size w wr) ∧ Hid (wr.heap[w.heap.size]? = some (sealObj 0 0 0 0 none 0 0))) (fun vi _ _ => n - (intOf vi).toNat)
  case atStart => exact ⟨0, Nat.zero_le _, rfl, Lib.hid (fun s hs => by cases hs), HB0, HU0⟩
  case round =>
    obtain ⟨i, hi, rfl, HNO, HB, HU⟩ := hrel
    by_cases hlt : i < n
    · have e0 : decide (i < n) = true := decide_eq_true hlt
      have hlt' : i < xs.length := by rw [← HN.out]; exact hlt
      obtain ⟨x, hx⟩ : ∃ x, x = xs[i] := ⟨_, rfl⟩
      obtain ⟨b, off, rfl, hf⟩ := rd_five HR.out hlt' hx.symm
      have hxo := HOK.out x (by rw [hx]; exact List.getElem_mem hlt')
      have hlt2 : i < (xs.map Sx.s).length := by simpa using hlt'
      have hxm : (xs.map Sx.s)[i] = x.s := by rw [List.getElem_map, ← hx]
      obtain ⟨⟨sn, si, sd, sp, sl⟩, sA, sC⟩ := x
      have HYES : Hid (label ∈ sl → Gr.of (xs.map Sx.s) label = some ⟨sn, si, sd, sp, sl⟩) := Lib.hid fun h => by
        rw [of_take hlt2 HNO.out (by rw [hxm]; exact h), hxm]
      have HNEXT : Hid (label ∉ sl → ∀ s ∈ (xs.map Sx.s).take (i + 1), label ∉ s.labels) := Lib.hid fun h s hs => by
        rw [List.take_succ_eq_append_getElem hlt2, hxm] at hs
        rcases List.mem_append.1 hs with hs | hs
        · exact HNO.out s hs
        · rw [List.mem_singleton.1 hs]; exact h
      dsimp only at hf hxo
      obtain ⟨m, hm⟩ : ∃ m, m = sl.length := ⟨_, rfl⟩
      rw [← hm] at hf hxo
      have HM := Lib.hid hm
      have HF := Lib.hid hf
      have HXO := Lib.hid hxo.1
      have hml : m ≤ 1000 := hxo.2
      clear hx hxo hlt2 hxm hm hf
      go_wp2
      go_loopw [7] (fun vk w2 => ∃ k : Nat, k ≤ m ∧ vk = .int .i64 (k : Int) ∧ Hid (∀ y ∈ sl.take k, y ≠ label) ∧ Hid (Below w.heap.size w w2) ∧ Hid (w2.heap[w.heap.size]? = some (sealObj 0 0 0 0 none 0 0))) (fun vk _ => m - (intOf vk).toNat)
      case atStart => exact ⟨0, Nat.zero_le _, rfl, Lib.hid (fun s hs => by cases hs), HB, HU⟩
      case round =>
        obtain ⟨k, hk, rfl, HLE, HB2, HU2⟩ := hrel
        obtain ⟨c0, c1, c2, c3, c4⟩ := HF.out.old HB2.out
        by_cases hltk : k < m
        · have e1 : decide (k < m) = true := decide_eq_true hltk
          have hkl : k < sl.length := by rw [← HM.out]; exact hltk
          obtain ⟨lb, lo, rfl, -, hlc⟩ := (HXO.out.rd.old HB2.out).at_ hkl
          obtain ⟨y, hy⟩ : ∃ y, y = sl[k] := ⟨_, rfl⟩
          rw [← hy] at hlc
          have HY := Lib.hid hy
          clear hy
          cases q : (y == label) with
          | true =>
            have HMEM : Hid (label ∈ sl) := Lib.hid (by rw [← beq_iff_eq.1 q, HY.out]; exact List.getElem_mem hkl)
            have HOF := Lib.hid (HYES.out HMEM.out)
            have HXO2 := Lib.hid (HXO.out.old HB2.out)
            obtain ⟨u0, u1, u2, u3, u4⟩ := seal_free HU2.out
            obtain ⟨z0, z1, z2, z3, z4⟩ := seal5 HU2.out
            go_wp2
            clear z0 z1 z2 z3 z4
            obtain ⟨z0, z1, z2, z3, z4⟩ := seal5 HU2.out
            refine bodyPost_ret (v := .tuple #[.agg #[.int .i64 sn, .int .i64 si, .int .i64 sd, .int .i64 sp, .slice (some ⟨lb, lo, none⟩) m sC], .bool true]) (by simp [results, Tryz.results15, go_sem, z0, z1, z2, z3, z4]) rfl ?_
            rw [HOF.out]
            exact OfA.stored (l := sl) rfl rfl HM.out HXO2.out HB2.out
          | false =>
            have HLE2 : Hid (∀ y ∈ sl.take (k + 1), y ≠ label) := Lib.hid fun z hz => by
              rw [List.take_succ_eq_append_getElem hkl] at hz
              rcases List.mem_append.1 hz with hz | hz
              · exact HLE.out z hz
              · rw [List.mem_singleton.1 hz, ← HY.out]; exact beq_eq_false_iff_ne.1 q
            go_wp2
            go_roundw
            case rel => exact ⟨k + 1, by omega, by go_num, HLE2, HB2, HU2⟩
            case measure => simp [intOf]; omega
        · have e1 : decide (k < m) = false := decide_eq_false hltk
          have HN2 := Lib.hid (HNEXT.out (fun h => HLE.out label (by rw [List.take_of_length_le (by rw [← HM.out]; omega)]; exact h) rfl))
          go_wp2
          go_roundw
          case rel => exact ⟨i + 1, by omega, by go_num, HN2, HB2, HU2⟩
          case measure => simp [intOf]; omega
    · have e0 : decide (i < n) = false := decide_eq_false hlt
      have HOF : Hid (Gr.of (xs.map Sx.s) label = none) := Lib.hid (of_none (by
        have h1 := HNO.out
        rwa [List.take_of_length_le (by rw [List.length_map, ← HN.out]; omega)] at h1))
      obtain ⟨z0, z1, z2, z3, z4⟩ := seal5 HU.out
      obtain ⟨u0, u1, u2, u3, u4⟩ := seal_free HU.out
      go_wp2
      clear z0 z1 z2 z3 z4
      obtain ⟨z0, z1, z2, z3, z4⟩ := seal5 HU.out
      refine bodyPost_ret (v := .tuple #[.agg #[.int .i64 0, .int .i64 0, .int .i64 0, .int .i64 0, .slice none 0 0], .bool false]) (by simp [results, Tryz.results15, go_sem, z0, z1, z2, z3, z4]) rfl ?_
      rw [HOF.out]
      exact OfA.stored (l := []) rfl rfl rfl (nil_ok _ _ _ _ _ _) HB.out
end Go.Proofs.YtfkoomldncfdnaaGreat
namespace Go.Proofs.YtfkoomldncfdnaaGreat
open Go.RowKit
open Pt (Tx)

/-- two things lie where the call laid them, and all that was there is as it was -/
def Sits2 (w : World) (o o' : Obj) (x : World) : Prop := x.heap[w.heap.size]? = some o ∧ x.heap[w.heap.size + 1]? = some o' ∧ Below w.heap.size w x
theorem Sits2.start (w : World) (o o' : Obj) : Sits2 w o o' ((w.alloc o).alloc o') := by
  refine ⟨(Below.heap_alloc _ _ _ (by simp)).trans (Go.Deep.blk_alloc_new _ _), ?_, ((Below.refl _ _).alloc (Nat.le_refl _) _).alloc (by simp) _⟩
  have := Go.Deep.blk_alloc_new (w.alloc o) o'
  simpa using this
set_option maxRecDepth 100000 in
set_option maxHeartbeats 4000000 in
theorem sameSeal_yes (n x d p : Int) (l : List Int) (A : Option Addr) (m C : Nat) (G : Nat → Prop) (A' : Option Addr) (m' C' : Nat) (G' : Nat → Prop) (w : World) (hm : m = l.length) (hm' : m' = l.length) (hl : m ≤ maxLen) (hr : RdZ w A l G) (hr' : RdZ w A' l G') :
    Calls Tryz.prog 13 #[.agg #[.int .i64 n, .int .i64 x, .int .i64 d, .int .i64 p, .slice A m C], .agg #[.int .i64 n, .int .i64 x, .int .i64 d, .int .i64 p, .slice A' m' C']] w (AnsB true w) := by
  have hmm : m' = m := by omega
  subst hmm
  unfold maxLen at hl
  have HS0 : Hid (Sits2 w (sealObj n x d p A m' C) (sealObj n x d p A' m' C') ((w.alloc (sealObj n x d p A m' C)).alloc (sealObj n x d p A' m' C'))) := Lib.hid (Sits2.start _ _ _)
  have HM := Lib.hid hm
  have HR := Lib.hid hr
  have HR' := Lib.hid hr'
  clear hm hm' hr hr'
  obtain ⟨a0, a1, a2, a3, a4⟩ := seal5 HS0.out.1
  obtain ⟨b0, b1, b2, b3, b4⟩ := seal5 HS0.out.2.1
  unfold sealObj at a0 a1 a2 a3 a4 b0 b1 b2 b3 b4
  go_enter Tryz.func13, Tryz.ntmps13
  go_wp2
  clear a0 a1 a2 a3 a4 b0 b1 b2 b3 b4
  go_loopw [5] (fun vi wr => ∃ k : Nat, k ≤ m' ∧ vi = .int .i64 (k : Int) ∧ Hid (Sits2 w (sealObj n x d p A m' C) (sealObj n x d p A' m' C') wr)) (fun vi _ => m' - (intOf vi).toNat)
  case atStart => exact ⟨0, Nat.zero_le _, rfl, HS0⟩
  case round =>
    obtain ⟨k, hk, rfl, HS⟩ := hrel
    obtain ⟨a0, a1, a2, a3, a4⟩ := seal5 HS.out.1
    obtain ⟨b0, b1, b2, b3, b4⟩ := seal5 HS.out.2.1
    by_cases hlt : k < m'
    · have hlt' : k < l.length := by rw [← HM.out]; exact hlt
      obtain ⟨b, off, rfl, -, hc⟩ := (HR.out.old HS.out.2.2).at_ hlt'
      obtain ⟨b', off', rfl, -, hc'⟩ := (HR'.out.old HS.out.2.2).at_ hlt'
      obtain ⟨y, hy⟩ : ∃ y, y = l[k] := ⟨_, rfl⟩
      rw [← hy] at hc hc'
      clear hy
      have HSD : Hid (Sits2 w (sealObj n x d p (some ⟨b, off, none⟩) m' C) (sealObj n x d p (some ⟨b', off', none⟩) m' C') wr.drew) := Lib.hid ⟨HS.out.1, HS.out.2.1, HS.out.2.2.drew⟩
      have q : (y != y) = false := bne_self_eq_false y
      go_wp2_with fail
      go_region
      go_wp2
      go_roundw
      case rel => exact ⟨k + 1, by omega, by go_num, HSD⟩
      case measure => simp [intOf]; omega
    · go_wp2
      go_ret
      exact ⟨rfl, HS.out.2.2⟩
end Go.Proofs.YtfkoomldncfdnaaGreat
namespace Go.Proofs.YtfkoomldncfdnaaGreat
open Go.RowKit Mx Go.ChangeShapes Go.WideShapes
open Pt (Tx)

section
variable {H : Type} {enc : TypeId × Value → H} {w : World} {base fuel : Nat} {held : Bool} {a : Option Addr} {len cap : Nat} {x : DataW H × List MemPlace}
/-- bytes, as a list -/
theorem open_rdL (h : DataW.trod enc Tryz.prog w base (fun _ => true) held fuel 42 (Value.slice a len cap).cells.toList = some x) :
    cap ≤ maxLen ∧ len ≤ cap ∧ (a = none → len = 0 ∧ cap = 0) ∧ ∃ l : Tx, l.length = len ∧ RdL w a l (fun _ => True) := by
  rcases open_ints Tryz.underlying42 Tryz.underlying5 (by kernel_rfl) h with ⟨hcs, _⟩ | ⟨y, l, c, zs, hcs, _, hl, hm, hz, _, hcell, hwz⟩
  · simp [Value.cells] at hcs
    obtain ⟨rfl, rfl, rfl⟩ := hcs
    exact ⟨by decide, Nat.le_refl _, fun _ => ⟨rfl, rfl⟩, [], rfl, RdL.empty _ _ _⟩
  · simp [Value.cells] at hcs
    obtain ⟨rfl, rfl, rfl⟩ := hcs
    have hz' : zs.length = cap := by simpa using hz
    refine ⟨hm, hl, (fun h => by cases h), (List.range len).map fun i => UInt8.ofNat (zs.getD i 0).toNat, by simp, fun h0 => ?_⟩
    simp at h0
    obtain ⟨b, off, spot⟩ := y
    have hs : spot = none := by simpa [Addr.add] using World.cell?_spot (hcell 0 (by omega))
    subst hs
    refine ⟨b, off, rfl, trivial, fun j hj => ?_⟩
    have hj' : j < len := by simpa using hj
    have hc := hcell j (by omega)
    rw [addr_add] at hc
    have hw := fi_feOf (getD_wf hwz (c := j) (by omega))
    rw [hc]
    have hr : 0 ≤ zs.getD j 0 ∧ zs.getD j 0 < 256 := by have h1 := fi_lo (feOf (zs.getD j 0)); have h2 := fi_hi (feOf (zs.getD j 0)); rw [hw] at h1 h2; exact ⟨h1, h2⟩
    simp only [List.getElem_map, List.getElem_range, UInt8.toNat_ofNat']
    rw [Nat.mod_eq_of_lt (show (zs.getD j 0).toNat < 2 ^ 8 by have := hr.2; have := hr.1; omega)]
    congr 2
    have := hr.1
    omega
end
end Go.Proofs.YtfkoomldncfdnaaGreat
namespace Go.Proofs.YtfkoomldncfdnaaGreat
open Go.RowKit Mx Go.ChangeShapes Go.WideShapes Go.Joins
open Pt (Tx)

theorem cellsInt8 : Tryz.prog.cellsOf 3 = 1 := by kernel_rfl
theorem cellsRow8 : Tryz.prog.cellsOf 42 = 1 := by kernel_rfl
section
variable {H : Type} {enc : TypeId × Value → H} {w : World} {base fuel : Nat} {held : Bool} {x : DataW H × List MemPlace}
theorem open_row8 {cs : List Value} (h : DataW.trod enc Tryz.prog w base (fun _ => true) held fuel 42 cs = some x) :
    ∃ (a : Option Addr) (cap : Nat) (t : Tx), cs = [.slice a t.length cap] ∧ t.length ≤ cap ∧ (a = none → t.length = 0 ∧ cap = 0) ∧ RdL w a t (fun _ => True) := by
  have key : ∃ a len cap, cs = [Value.slice a len cap] := by
    rcases open_ints Tryz.underlying42 Tryz.underlying5 (by kernel_rfl) h with ⟨hcs, _⟩ | ⟨y, l, c, zs, hcs, _⟩
    · exact ⟨_, _, _, hcs⟩
    · exact ⟨_, _, _, hcs⟩
  obtain ⟨a, len, cap, rfl⟩ := key
  have h' : DataW.trod enc Tryz.prog w base (fun _ => true) held fuel 42 (Value.slice a len cap).cells.toList = some x := h
  obtain ⟨_, h2, h3, t, rfl, h4⟩ := open_rdL h'
  exact ⟨a, cap, t, rfl, h2, h3, h4⟩
end
end Go.Proofs.YtfkoomldncfdnaaGreat
namespace Go.Proofs.YtfkoomldncfdnaaGreat
open Go.RowKit Mx Go.ChangeShapes Go.WideShapes Go.Joins
open Pt (Tx)

set_option maxRecDepth 100000 in
theorem cellsTape : Tryz.prog.cellsOf 49 = 4 := by kernel_rfl
section
variable {H : Type} {enc : TypeId × Value → H} {w : World} {base fuel : Nat} {held : Bool} {x : DataW H × List MemPlace}
set_option maxRecDepth 100000 in
theorem open_blocks {cs : List Value} (h : DataW.trod enc Tryz.prog w base (fun _ => true) held fuel 47 cs = some x) :
    ∃ (a : Option Addr) (cap : Nat) (bs : List Tx), cs = [.slice a bs.length cap] ∧ bs.length ≤ maxLen ∧ RdB w a bs (fun _ => True) := by
  rcases Go.Deep.open_slice Tryz.underlying47 h with ⟨hcs, _⟩ | ⟨y, l, c, m, n, D, Pl, hcs, hb, hl, hm, hmm, _, hi⟩
  · exact ⟨none, 0, [], hcs, by decide, RdB.empty _ _ _⟩
  · have hm' : m = c := by simpa using hmm
    have key : ∀ i, ∃ t : Tx, i < l → ∃ A' C', w.cell? (y.add i) = some (.slice A' t.length C') ∧ t.length ≤ C' ∧ (A' = none → t.length = 0 ∧ C' = 0) ∧ RdL w A' t (fun _ => True) := by
      intro i
      by_cases hil : i < l
      · obtain ⟨cs', h1, h2⟩ := hi i (by omega)
        rw [cellsRow8, Nat.mul_one] at h1
        obtain ⟨_, _, h4⟩ := World.cells?_some h1
        obtain ⟨A', C', t, rfl, g1, g2, g3⟩ := open_row8 h2
        refine ⟨t, fun _ => ⟨A', C', ?_, g1, g2, g3⟩⟩
        have := h4 0 (by omega)
        rw [Go.Deep.add_add] at this
        simpa using this
      · exact ⟨[], fun h => absurd h hil⟩
    refine ⟨some y, c, (List.range l).map fun i => (key i).choose, by simpa using hcs, by simp; omega, fun h0 => ?_⟩
    have h0' : 0 < l := by simpa using h0
    obtain ⟨b, off, spot⟩ := y
    obtain ⟨A0, C0, k0, _⟩ := (key 0).choose_spec h0'
    have hs : spot = none := by simpa [Addr.add] using World.cell?_spot k0
    subst hs
    refine ⟨b, off, rfl, trivial, fun i hil => ?_⟩
    have hil' : i < l := by simpa using hil
    obtain ⟨A', C', c1, c2, c3, c4⟩ := (key i).choose_spec hil'
    refine ⟨A', C', ?_, ?_, ?_, ?_⟩
    · have c1' := (congrArg w.cell? (addr_add b off i).symm).trans c1
      simpa using c1'
    · simpa using c2
    · simpa using c3
    · simpa using c4
set_option maxRecDepth 100000 in
/-- a tape, by value -/
theorem open_tape {r : Reach} {b0 : Nat} {v : Value} {d : DataW H} {p : List MemPlace} (hv : Value.okWide Tryz.prog w r b0 49 v) (h : DataW.Trod enc Tryz.prog w base (fun _ => true) held 49 v d p) :
    ∃ (lab cap : Int) (a : Option Addr) (C : Nat) (bs : List Tx) (lost : Bool), v = .agg #[.int .i64 lab, .int .i64 cap, .slice a bs.length C, .bool lost] ∧ bs.length ≤ maxLen ∧ RdB w a bs (fun _ => True) := by
  obtain ⟨v0, v1, v2, v3, y0, y1, y2, y3, n, rfl, _, _, h0, h1, h2, h3⟩ := open_agg4 Tryz.underlying49 (by kernel_rfl) cellsTape hv h
  obtain ⟨lab, e0, -, -⟩ := DataW.trod_int (cs := [v0]) Tryz.underlying3 h0
  obtain ⟨cap, e1, -, -⟩ := DataW.trod_int (cs := [v1]) Tryz.underlying3 h1
  obtain ⟨a, C, bs, e2, k1, k2⟩ := open_blocks (cs := [v2]) h2
  obtain ⟨lost, e3, -⟩ := DataW.trod_bool (cs := [v3]) Tryz.underlying4 h3
  simp only [List.cons.injEq, and_true] at e0 e1 e2 e3
  exact ⟨lab, cap, a, C, bs, lost, by rw [e0, e1, e2, e3], k1, k2⟩
end
end Go.Proofs.YtfkoomldncfdnaaGreat
namespace Go.Proofs.YtfkoomldncfdnaaGreat
open Go.RowKit Mx Go.ChangeShapes Go.WideShapes Go.Joins
open Pt (Tx)

section
variable {H : Type} {enc : TypeId × Value → H} {w : World} {base fuel : Nat} {held : Bool} {x : DataW H × List MemPlace}
set_option maxRecDepth 100000 in
theorem tape_cells {n : Nat} {cs : List Value} {y : DataW H × List MemPlace} (h : DataW.trod enc Tryz.prog w base (fun _ => true) held n 49 cs = some y) :
    ∃ (lab cap : Int) (a : Option Addr) (C : Nat) (bs : List Tx) (lost : Bool), cs = [.int .i64 lab, .int .i64 cap, .slice a bs.length C, .bool lost] ∧ bs.length ≤ maxLen ∧ RdB w a bs (fun _ => True) := by
  obtain ⟨xs, m, _, _, h3, hxl, hf⟩ := DataW.trod_struct Tryz.underlying49 h
  rw [cellsTape] at h3
  have h0 := hf 0 _ rfl
  have h1 := hf 1 _ rfl
  have h2 := hf 2 _ rfl
  have h4 := hf 3 _ rfl
  match cs, h3 with
  | [v0, v1, v2, v3], _ =>
    match xs, hxl with
    | [x0, x1, x2, x3], _ =>
      have g0 : DataW.trod enc Tryz.prog w base (fun _ => true) held m 3 (([v0, v1, v2, v3].drop 0).take (Tryz.prog.cellsOf 3)) = some x0 := h0
      have g1 : DataW.trod enc Tryz.prog w base (fun _ => true) held m 3 (([v0, v1, v2, v3].drop 1).take (Tryz.prog.cellsOf 3)) = some x1 := h1
      have g2 : DataW.trod enc Tryz.prog w base (fun _ => true) held m 47 (([v0, v1, v2, v3].drop 2).take (Tryz.prog.cellsOf 47)) = some x2 := h2
      have g3 : DataW.trod enc Tryz.prog w base (fun _ => true) held m 4 (([v0, v1, v2, v3].drop 3).take (Tryz.prog.cellsOf 4)) = some x3 := h4
      rw [cellsInt8] at g0 g1
      rw [show Tryz.prog.cellsOf 47 = 1 by kernel_rfl] at g2
      rw [show Tryz.prog.cellsOf 4 = 1 by kernel_rfl] at g3
      obtain ⟨p, e0, -, -⟩ := DataW.trod_int (cs := [v0]) Tryz.underlying3 g0
      obtain ⟨q, e1, -, -⟩ := DataW.trod_int (cs := [v1]) Tryz.underlying3 g1
      obtain ⟨a, C, bs, e2, k1, k2⟩ := open_blocks (cs := [v2]) g2
      obtain ⟨lost, e3, -⟩ := DataW.trod_bool (cs := [v3]) Tryz.underlying4 g3
      refine ⟨p, q, a, C, bs, lost, ?_, k1, k2⟩
      simp only [List.cons.injEq, and_true] at e0 e1 e2 e3
      rw [e0, e1, e2, e3]
set_option maxRecDepth 100000 in
theorem open_tapes {T : TypeId} (hT : Tryz.prog.underlying T = some (.slice 49)) {a : Option Addr} {len cap : Nat} (h : DataW.trod enc Tryz.prog w base (fun _ => true) held fuel T (Value.slice a len cap).cells.toList = some x) :
    len ≤ cap ∧ cap ≤ maxLen ∧ ∃ ts : List St.T, ts.length = len ∧ (∀ t ∈ ts, t.blocks.length ≤ maxLen) ∧ RdT w a ts (fun _ => True) := by
  rcases Go.Deep.open_slice hT h with ⟨hcs, _⟩ | ⟨y, l, c, m, n, D, Pl, hcs, hb, hl, hm, hmm, _, hi⟩
  · simp [Value.cells] at hcs
    obtain ⟨rfl, rfl, rfl⟩ := hcs
    exact ⟨Nat.le_refl _, by decide, [], rfl, (fun t ht => by cases ht), RdT.empty _ _ _⟩
  · simp [Value.cells] at hcs
    obtain ⟨rfl, rfl, rfl⟩ := hcs
    have hm' : m = cap := by simpa using hmm
    have key : ∀ i, ∃ t : St.T, i < len → ∃ A' C', w.cell? (y.add (i * 4)) = some (.int .i64 t.label) ∧ w.cell? (y.add (i * 4 + 1)) = some (.int .i64 t.cap) ∧ w.cell? (y.add (i * 4 + 2)) = some (.slice A' t.blocks.length C') ∧ w.cell? (y.add (i * 4 + 3)) = some (.bool t.lost) ∧ t.blocks.length ≤ maxLen ∧ RdB w A' t.blocks (fun _ => True) := by
      intro i
      by_cases hil : i < len
      · obtain ⟨cs', h1, h2⟩ := hi i (by omega)
        rw [cellsTape] at h1
        obtain ⟨_, _, h4⟩ := World.cells?_some h1
        obtain ⟨p, q, A', C', bs, lost, rfl, g1, g2⟩ := tape_cells h2
        refine ⟨⟨p, q, bs, lost⟩, fun _ => ⟨A', C', ?_, ?_, ?_, ?_, g1, g2⟩⟩
        · have := h4 0 (by omega); rw [Go.Deep.add_add] at this; simpa using this
        · have := h4 1 (by omega); rw [Go.Deep.add_add] at this; simpa using this
        · have := h4 2 (by omega); rw [Go.Deep.add_add] at this; simpa using this
        · have := h4 3 (by omega); rw [Go.Deep.add_add] at this; simpa using this
      · exact ⟨⟨0, 0, [], false⟩, fun h => absurd h hil⟩
    refine ⟨by omega, by omega, (List.range len).map fun i => (key i).choose, by simp, fun t ht => ?_, fun h0 => ?_⟩
    · simp only [List.mem_map, List.mem_range] at ht
      obtain ⟨i, hi', rfl⟩ := ht
      obtain ⟨A', C', _, _, _, _, c5, _⟩ := (key i).choose_spec hi'
      exact c5
    · have h0' : 0 < len := by simpa using h0
      obtain ⟨b, off, spot⟩ := y
      obtain ⟨A0, C0, k0, _⟩ := (key 0).choose_spec h0'
      have hs : spot = none := by simpa [Addr.add] using World.cell?_spot k0
      subst hs
      refine ⟨b, off, rfl, trivial, fun i hil => ?_⟩
      have hil' : i < len := by simpa using hil
      obtain ⟨A', C', c1, c2, c3, c4, c5, c6⟩ := (key i).choose_spec hil'
      refine ⟨A', C', ?_, ?_, ?_, ?_, ?_⟩
      · have := (congrArg w.cell? (addr_add b off (i * 4)).symm).trans c1; simpa using this
      · have := (congrArg w.cell? (addr_add b off (i * 4 + 1)).symm).trans c2; simpa [Nat.add_assoc] using this
      · have := (congrArg w.cell? (addr_add b off (i * 4 + 2)).symm).trans c3; simpa [Nat.add_assoc] using this
      · have := (congrArg w.cell? (addr_add b off (i * 4 + 3)).symm).trans c4; simpa [Nat.add_assoc] using this
      · simpa using c6
end
end Go.Proofs.YtfkoomldncfdnaaGreat
